/-
  Sort; ISort
-/
import Derived.Shelf.SlSortCmp.WholeK
import Derived.Shelf.SlSortCmp.NoneTotal
import Derived.Test.YtogfdhfmamabiaaProg
import Derived.Test.YtogfdhfmamabiaaTxN
import Derived.Test.YtogfdhfmamabiaaShelf
/-
  The library contract of slices.SortFunc at rows of transactions, laid at this translation.
-/
namespace Go.Proofs
open Go.Shelf
def Try.sortTx_ren : Go.Shelf.Ren := ⟨fun | 6 => 25 | 15 => 47 | 14 => 46 | 28 => 70 | 29 => 71 | 20 => 62 | 21 => 63 | 22 => 64 | 23 => 65 | 24 => 66 | 25 => 67 | 26 => 68 | 27 => 69 | 46 => 83 | 47 => 84 | 48 => 85 | 49 => 86 | 50 => 87 | 57 => 91 | n => n, fun | 22 => 26 | 24 => 31 | 25 => 59 | 3 => 3 | 39 => 86 | 0 => 0 | 53 => 115 | 55 => 117 | 4 => 4 | 46 => 108 | 45 => 107 | 50 => 112 | 5 => 5 | 9 => 9 | 66 => 132 | 70 => 136 | 76 => 142 | 77 => 143 | n => n, fun | n => n⟩
theorem Try.sortTx : Go.Proofs.SlLaysF0.n6 Try.prog Try.sortTx_ren := {
  mixed := by kernel_rfl
  f6 := ⟨Try.f25.name, by decide, Try.func25.trans (congrArg some (by kernel_rfl))⟩
  f14 := ⟨Try.f46.name, by decide, Try.func46.trans (congrArg some (by kernel_rfl))⟩
  f15 := Try.func47.trans (congrArg some (by kernel_rfl))
  f20 := ⟨Try.f62.name, by decide, Try.func62.trans (congrArg some (by kernel_rfl))⟩
  f21 := ⟨Try.f63.name, by decide, Try.func63.trans (congrArg some (by kernel_rfl))⟩
  f22 := ⟨Try.f64.name, by decide, Try.func64.trans (congrArg some (by kernel_rfl))⟩
  f23 := ⟨Try.f65.name, by decide, Try.func65.trans (congrArg some (by kernel_rfl))⟩
  f24 := ⟨Try.f66.name, by decide, Try.func66.trans (congrArg some (by kernel_rfl))⟩
  f25 := ⟨Try.f67.name, by decide, Try.func67.trans (congrArg some (by kernel_rfl))⟩
  f26 := ⟨Try.f68.name, by decide, Try.func68.trans (congrArg some (by kernel_rfl))⟩
  f27 := ⟨Try.f69.name, by decide, Try.func69.trans (congrArg some (by kernel_rfl))⟩
  f28 := Try.func70.trans (congrArg some (by kernel_rfl))
  f29 := Try.func71.trans (congrArg some (by kernel_rfl))
  f46 := ⟨Try.f83.name, by decide, Try.func83.trans (congrArg some (by kernel_rfl))⟩
  f47 := Try.func84.trans (congrArg some (by kernel_rfl))
  f48 := Try.func85.trans (congrArg some (by kernel_rfl))
  f49 := ⟨Try.f86.name, by decide, Try.func86.trans (congrArg some (by kernel_rfl))⟩
  f50 := ⟨Try.f87.name, by decide, Try.func87.trans (congrArg some (by kernel_rfl))⟩
  f57 := ⟨Try.f91.name, by decide, Try.func91.trans (congrArg some (by kernel_rfl))⟩
  t0 := Try.underlying0
  a0 := Try.isAgg0
  z0 := Try.sizeOf0
  v0 := Try.zeroValue0
  t3 := Try.underlying3
  a3 := Try.isAgg3
  z3 := Try.sizeOf3
  v3 := Try.zeroValue3
  t4 := Try.underlying4
  a4 := Try.isAgg4
  z4 := Try.sizeOf4
  v4 := Try.zeroValue4
  t5 := Try.underlying5
  a5 := Try.isAgg5
  z5 := Try.sizeOf5
  v5 := Try.zeroValue5
  t9 := Try.underlying9
  a9 := Try.isAgg9
  z9 := Try.sizeOf9
  v9 := Try.zeroValue9
  t22 := Try.underlying26
  a22 := Try.isAgg26
  z22 := Try.sizeOf26
  v22 := Try.zeroValue26
  t25 := Try.underlying59
  a25 := Try.isAgg59
  z25 := Try.sizeOf59
  v25 := Try.zeroValue59
  t39 := Try.underlying86
  a39 := Try.isAgg86
  z39 := Try.sizeOf86
  v39 := Try.zeroValue86
  t45 := Try.underlying107
  a45 := Try.isAgg107
  z45 := Try.sizeOf107
  v45 := Try.zeroValue107
  t46 := Try.underlying108
  a46 := Try.isAgg108
  z46 := Try.sizeOf108
  v46 := Try.zeroValue108
  t50 := Try.underlying112
  a50 := Try.isAgg112
  z50 := Try.sizeOf112
  v50 := Try.zeroValue112
  t53 := Try.underlying115
  a53 := Try.isAgg115
  z53 := Try.sizeOf115
  v53 := Try.zeroValue115
  t55 := Try.underlying117
  a55 := Try.isAgg117
  z55 := Try.sizeOf117
  v55 := Try.zeroValue117
  t66 := Try.underlying132
  a66 := Try.isAgg132
  z66 := Try.sizeOf132
  v66 := Try.zeroValue132
  t70 := Try.underlying136
  a70 := Try.isAgg136
  z70 := Try.sizeOf136
  v70 := Try.zeroValue136
  t76 := Try.underlying142
  a76 := Try.isAgg142
  z76 := Try.sizeOf142
  v76 := Try.zeroValue142
  t77 := Try.underlying143
  a77 := Try.isAgg143
  z77 := Try.sizeOf143
  v77 := Try.zeroValue143 }
end Go.Proofs

/-
  slices.SortFunc at a row of transactions that the call owns.
-/
namespace Go.Proofs.Ytogfdhfmamabiaa
open Go.RowKit Go.Shelf Go.Lib Go.Sort
open Words

/-- A transaction in a row, its slice taken apart. -/
abbrev Ysw := Int × Int × (Option Addr × Nat × Nat) × List (Int × Int × Int × Int)
def yscell (y : Ysw) : List Value := [.int .i64 y.1, .int .i64 y.2.1, .slice y.2.2.1.1 y.2.2.1.2.1 y.2.2.1.2.2]
def ysX (y : Ysw) : Xw := (y.1, y.2.1, .slice y.2.2.1.1 y.2.2.1.2.1 y.2.2.1.2.2, y.2.2.2)
theorem ysOf {W : World} {lo : Nat} : ∀ {rs : List Xw}, (∀ r ∈ rs, Sli 34 lo W.heap.size r.2.2.1 r.2.2.2.length (rccells r.2.2.2) W ∧ r.2.2.2.length ≤ maxLen) → ∃ ys : List Ysw, rs = ys.map ysX := by
  intro rs
  induction rs with
  | nil => intro _; exact ⟨[], rfl⟩
  | cons r rs ih =>
    intro h
    obtain ⟨ys, e⟩ := ih (fun x hx => h x (by simp [hx]))
    obtain ⟨a, c, e2, -⟩ := (h r (by simp)).1.form
    obtain ⟨r1, r2, r3, r4⟩ := r
    simp only at e2
    subst e2
    exact ⟨(r1, r2, (a, r4.length, c), r4) :: ys, by rw [e]; rfl⟩
theorem flat_ys (ys : List Ysw) : (flatK yscell 3 ys.toArray).toList = xcells (ys.map ysX) := by
  apply List.ext_getElem?
  intro t
  have hl : (xcells (ys.map ysX)).length = ys.length * 3 := by rw [xcells_len, List.length_map]
  by_cases ht : t < ys.length * 3
  · have h1 : ys.toArray.size = ys.length := by simp
    have h2 : t < (flatK yscell 3 ys.toArray).size := by rw [size_flatK, h1]; exact ht
    have hk : t / 3 < ys.length := by omega
    have h3 := get_flatK yscell 3 ys.toArray t (by rw [h1]; exact ht)
    rw [getElem!_pos _ t h2] at h3
    have h4 : ys.toArray[t / 3]! = ys[t / 3] := by rw [getElem!_pos _ (t / 3) (by rw [h1]; exact hk)]; simp
    rw [h4] at h3
    have h5 : (yscell ys[t / 3])[t % 3]? = some ((yscell ys[t / 3])[t % 3]!) := by
      rw [getElem!_pos _ (t % 3) (by show t % 3 < 3; omega)]
      exact List.getElem?_eq_getElem _
    have h6 := xcells_at (ys.map ysX) (t / 3) (ysX ys[t / 3]) (by rw [List.getElem?_map, List.getElem?_eq_getElem hk]; rfl) (t % 3) _ h5
    rw [show t / 3 * 3 + t % 3 = t by omega] at h6
    rw [h6, Array.getElem?_toList, Array.getElem?_eq_getElem h2, h3]
  · rw [List.getElem?_eq_none (by rw [Array.length_toList, size_flatK]; simpa using ht), List.getElem?_eq_none (by omega)]

set_option maxHeartbeats 1000000 in
set_option maxRecDepth 100000 in
theorem icmp (x y : Ysw) (W : World) : Calls Try.prog 26 #[.agg #[.int .i64 x.1, .int .i64 x.2.1, .slice x.2.2.1.1 x.2.2.1.2.1 x.2.2.1.2.2], .agg #[.int .i64 y.1, .int .i64 y.2.1, .slice y.2.2.1.1 y.2.2.1.2.1 y.2.2.1.2.2]] W fun e w' => e = .returned (.int .i64 (Lib.compareInt x.1 y.1)) ∧ ∃ q os', w' = grow (W.drewN q) os' := by
  have hcon := hide (fun W' => Try.cmp_Compare_int x.1 y.1 W')
  generalize Lib.compareInt x.1 y.1 = r at hcon ⊢
  go_enter Try.func26, Try.ntmps26
  go_wp2_with fail
  refine (hcon.out _).mono ?_
  rintro e w' ⟨rfl, rfl⟩
  go_wp2
  go_ret
  exact ⟨rfl, 0, _, by rw [alloc_eq_grow, alloc_eq_grow, grow_grow]; rfl⟩
theorem icmpLays (blk off size : Nat) (w : World) : CmpLays Try.prog 26 #[] yscell 3 (fun x y => Lib.compareInt x.1 y.1) blk off size w :=
  fun _ _ _ _ x y => icmp x y _
theorem ilt (x y : Ysw) : ltOf (fun x y : Ysw => Lib.compareInt x.1 y.1) x y = decide (x.1 < y.1) := by
  unfold ltOf Lib.compareInt
  by_cases h1 : x.1 < y.1
  · simp [h1]
  · by_cases h2 : y.1 < x.1 <;> simp [h1, h2]
theorem iswo : SWO (ltOf fun x y : Ysw => Lib.compareInt x.1 y.1) where
  irrefl x := by rw [ilt]; simp
  trans x y z h1 h2 := by rw [ilt] at *; simp at *; omega
  ntrans x y z h1 h2 := by rw [ilt] at *; simp at *; omega
theorem isAggTx (w : World) : (isAgg 31).run Try.prog w = .ok true w := by kernel_rfl
theorem sizeTx2 (w : World) : (Go.sizeOf 31).run Try.prog w = .ok 3 w := by kernel_rfl

set_option maxHeartbeats 1000000 in
theorem isort (lo : Nat) (v : Value) (rs : List Xw) (w : World) (h : XOwn w lo v rs) (hn : rs.length ≤ 1048577) :
    Calls Try.prog 25 #[v, .func (.func 26) #[] #[]] w fun e w' => e = .returned (.tuple #[]) ∧ ∃ rs', rs'.Perm rs ∧ rs'.Pairwise (fun a b => ¬ b.1 < a.1) ∧ XOwn w' lo v rs' ∧ w.grownBy w' v.ownBlock := by
  obtain ⟨ys, rfl⟩ := ysOf h.2.1
  have hown := h.1
  rcases hown.2 with ⟨rfl, h0⟩ | ⟨g, cap, cur, rfl, hlo, hb, h1, h2, h3, h4⟩
  · have hy : ys = [] := by
      have : ys.length = 0 := by simpa using h0
      exact List.eq_nil_of_length_eq_zero this
    subst hy
    have hc := AnyF.slices_SortFunc_none { Try.sortTx with } none 0 (.func (.func 26) #[] #[]) w
    refine Calls.mono hc ?_
    rintro e w' ⟨rfl, rfl⟩
    exact ⟨rfl, [], List.Perm.refl _, List.Pairwise.nil, h, ⟨rfl, rfl, rfl, Nat.le_refl _, fun _ _ _ => rfl⟩⟩
  · rw [List.length_map] at h1 h4 ⊢
    have hfl : (xcells (ys.map ysX)).length = ys.length * 3 := by rw [xcells_len, List.length_map]
    have eg : ∀ args w, (callFunc 26 args).run Try.prog w = .ok (.enter 26 args) w := enters_of Try.func26 (by kernel_rfl) rfl
    have hH : HoldsK yscell 3 w g 0 ys.toArray := by
      intro j hj
      rw [size_flatK] at hj
      have hj' : j < ys.length * 3 := by simpa using hj
      refine ⟨?_, by simp [World.frozen?, hb]⟩
      have e1 : (cur.toList.take (ys.length * 3))[j]? = (xcells (ys.map ysX))[j]? := by rw [h4]
      rw [List.getElem?_take_of_lt hj', ← flat_ys] at e1
      simp only [World.cell?, hb, Nat.zero_add]
      simp only [Option.isSome_none, Bool.false_eq_true, if_false]
      rw [← Array.getElem?_toList, e1, Array.getElem?_toList]
      rw [getElem!_pos _ j (by rw [size_flatK]; exact hj)]
      exact Array.getElem?_eq_getElem _
    have hsz : ys.toArray.size < 4611686018427387904 := by
      rw [List.length_map] at hn
      simp only [List.size_toArray]
      omega
    have hcon := AnyQ.slices_SortFunc Try.sortTx 3 isAggTx sizeTx2 yscell (fun _ => rfl) (fun x v hv => by simp [yscell] at hv; rcases hv with rfl | rfl | rfl <;> rfl) (fun x y => Lib.compareInt x.1 y.1) iswo 26 #[] g 0 cap ys.toArray w eg (icmpLays g 0 ys.toArray.size w) hH (Array.getElem?_eq_some_iff.1 hb).1 hsz
    rw [show ys.toArray.size = ys.length by simp] at hcon
    refine Calls.mono hcon ?_
    rintro e w' ⟨rfl, d', m, os, hp, hs, rfl⟩
    have hd : d'.size = ys.length := by have := hp.1; simpa using this
    have hg : w.grownBy (sortWorldK yscell 3 w g 0 m d' os) (some g) := by
      refine ⟨rfl, rfl, rfl, by simp [sortWorldK, putRowK, putRow, mapBlock, Sort.ahead, grow], fun k hk hne => ?_⟩
      unfold sortWorldK
      rw [heap_grow_old _ _ (by simpa [putRowK, putRow, mapBlock, Sort.ahead] using hk)]
      have : g ≠ k := fun e => hne (by rw [e])
      simp [putRowK, putRow, mapBlock, Sort.ahead, Array.getElem?_modify, this]
    have hgh : (sortWorldK yscell 3 w g 0 m d' os).heap[g]? = some (.cells (putCells id 0 (flatK yscell 3 d') cur) 31 (0, 0)) := by
      have hlt : g < w.heap.size := (Array.getElem?_eq_some_iff.1 hb).1
      unfold sortWorldK
      rw [heap_grow_old _ _ (by simpa [putRowK, putRow, mapBlock, Sort.ahead] using hlt)]
      simp [putRowK, putRow, mapBlock, Sort.ahead, Array.getElem?_modify, hb, onCells]
    have hperm : d'.toList.Perm ys := by
      have := hp.2.2
      rw [show (d'.extract 0 ys.length) = d' by rw [← hd]; simp, show (ys.toArray.extract 0 ys.length) = ys.toArray by simp] at this
      exact this
    have hpm : (d'.toList.map ysX).Perm (ys.map ysX) := hperm.map _
    have hdl : d'.toList.length = ys.length := by simpa using hd
    refine ⟨rfl, d'.toList.map ysX, hpm, ?_, ⟨?_, ?_, ?_⟩, hg⟩
    · rw [List.pairwise_map, List.pairwise_iff_getElem]
      intro i j hi hj hij
      have hj2 : j < d'.size := by simpa using hj
      have hi2 : i < d'.size := by simpa using hi
      have := hs i j (Nat.zero_le _) hij (by omega)
      rw [ilt, getElem!_pos d' i hi2, getElem!_pos d' j hj2] at this
      simp only [decide_eq_false_iff_not] at this
      simpa [ysX] using this
    · rw [List.length_map, hdl]
      refine ⟨by rw [xcells_len, List.length_map, hdl], .inr ⟨g, cap, _, rfl, hlo, hgh, h1, h2, by simp [putCells, h3], ?_⟩⟩
      have hfd : (flatK yscell 3 d').toList = xcells (d'.toList.map ysX) := by
        have := flat_ys d'.toList
        rw [show d'.toList.toArray = d' by simp] at this
        exact this
      rw [← hfd]
      have hfs : (flatK yscell 3 d').size = ys.length * 3 := by rw [size_flatK, hd]
      apply List.ext_getElem?
      intro j
      by_cases hj : j < ys.length * 3
      · rw [List.getElem?_take_of_lt hj, Array.getElem?_toList, Array.getElem?_toList]
        have hjc : j < cur.size := by rw [h3]; have := Nat.mul_le_mul_right 3 h1; omega
        rw [Array.getElem?_eq_getElem (show j < (flatK yscell 3 d').size by rw [hfs]; exact hj)]
        simp only [putCells, Array.getElem?_mapIdx, Nat.zero_le, true_and, Nat.zero_add, Nat.sub_zero, id]
        rw [Array.getElem?_eq_getElem hjc]
        simp only [Option.map_some, hfs, hj, if_true]
        rw [getElem!_pos _ j (by rw [hfs]; exact hj)]
      · rw [List.getElem?_take_eq_none (by omega), List.getElem?_eq_none (by rw [Array.length_toList, hfs]; omega)]
    · intro r hr
      obtain ⟨q1, q2⟩ := h.2.1 r (hpm.mem_iff.1 hr)
      refine ⟨(q1.grown hg (fun g' e e2 => ?_)).up hg.size, q2⟩
      obtain ⟨-, -, cs, q⟩ := q1.lt g' e
      have := Option.some.inj e2
      subst this
      exact rec_ne_tx q hb
    · exact (hpm.pairwise_iff (fun {a b} hab g' e1 e2 => hab g' e2 e1)).2 h.2.2
end Go.Proofs.Ytogfdhfmamabiaa
