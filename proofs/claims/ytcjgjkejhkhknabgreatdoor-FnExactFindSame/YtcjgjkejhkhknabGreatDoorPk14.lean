/-
  ILive; SInsI; SLive; SConL; FlP
-/
import Derived.Test.YtcjgjkejhkhknabGreatDoorPk12
import Derived.Test.YtcjgjkejhkhknabGreatDoorShelf
import Derived.Test.YtcjgjkejhkhknabGreatDoorPk2
import Derived.Test.YtcjgjkejhkhknabGreatDoorPk7
import Derived.Test.YtcjgjkejhkhknabGreatDoorPk6
import Derived.Deep.RegionHeld3
import Derived.Test.YtcjgjkejhkhknabGreatDoorPk8
import Derived.Test.YtcjgjkejhkhknabGreatDoorPk0
/-
  slices.Sort and slices.Compact of a row that the call owns; impl.LiveOf.
-/
namespace Go.Proofs.YtcjgjkejhkhknabGreatDoor
open Go.RowKit Go.Shelf Go.Lib Go.Sort
open Words

theorem int_holds {W : World} {g : Nat} {l : List Int} {cur : Array Value} (hb : W.heap[g]? = some (.cells cur 3 (0, 0))) (h4 : cur.toList.take l.length = icells l) : Holds (Value.int .i64) W g 0 l.toArray := by
  intro j hj
  have hj' : j < l.length := by simpa using hj
  refine ⟨?_, frozen_of_row _ _ _ _ _ hb⟩
  rw [Nat.zero_add, cell_of_row _ _ j _ _ _ hb]
  have e1 : (cur.toList.take l.length)[j]? = (icells l)[j]? := by rw [h4]
  rw [List.getElem?_take_of_lt hj', Array.getElem?_toList] at e1
  rw [e1, icells_at l j hj', getElem!_pos _ j hj]
  simp
/-- A row that is written anew. -/
theorem put_take {cur : Array Value} {l : List Int} {n : Nat} (hn : n ≤ l.length) (hc : l.length ≤ cur.size) : (putCells (Value.int .i64) 0 l.toArray cur).toList.take n = icells (l.take n) := by
  apply List.ext_getElem?
  intro j
  by_cases hj : j < n
  · rw [List.getElem?_take_of_lt hj, Array.getElem?_toList]
    simp only [putCells, Array.getElem?_mapIdx, Nat.zero_le, true_and, Nat.zero_add, Nat.sub_zero]
    rw [Array.getElem?_eq_getElem (show j < cur.size by omega)]
    have hj2 : j < l.toArray.size := by simp; omega
    simp only [Option.map_some, hj2, if_true]
    rw [getElem!_pos _ j hj2]
    have e := List.getElem?_eq_getElem (show j < (l.take n).length by rw [List.length_take]; omega)
    rw [icells_get e]
    simp
  · rw [List.getElem?_eq_none (by rw [List.length_take]; omega), List.getElem?_eq_none (by simp [icells]; omega)]
theorem put_block {W : World} {g m : Nat} {cur : Array Value} {d : Array Int} (hb : W.heap[g]? = some (.cells cur 3 (0, 0))) : (putRow (Value.int .i64) (Sort.ahead W m) g 0 d).heap[g]? = some (.cells (putCells (Value.int .i64) 0 d cur) 3 (0, 0)) := by
  simp [putRow, mapBlock, Sort.ahead, Array.getElem?_modify, hb, onCells]
theorem put_grown (W : World) (g m : Nat) (d : Array Int) (os : Array Obj) : W.grownBy (grow (putRow (Value.int .i64) (Sort.ahead W m) g 0 d) os) (some g) := by
  refine ⟨rfl, rfl, rfl, by simp [putRow, mapBlock, Sort.ahead, grow], fun k hk hne => ?_⟩
  rw [heap_grow_old _ _ (by simpa [putRow, mapBlock, Sort.ahead] using hk)]
  have : g ≠ k := fun e => hne (by rw [e])
  simp [putRow, mapBlock, Sort.ahead, Array.getElem?_modify, this]
theorem grow_none (w : World) : grow w #[] = w := by simp [grow]

theorem isortI (lo : Nat) (v : Value) (l : List Int) (w : World) (h : w.ownsRow lo 3 1 v l.length (icells l)) (hn : l.length ≤ 16777216) :
    Calls Tryz.prog 55 #[v] w fun e w' => e = .returned (.tuple #[]) ∧ w'.ownsRow lo 3 1 v l.length (icells (l.mergeSort fun x y => decide (x ≤ y))) ∧ w.grownBy w' v.ownBlock := by
  have hown := h
  rcases h.2 with ⟨rfl, h0⟩ | ⟨g, cap, cur, rfl, hlo, hb, h1, h2, h3, h4⟩
  · have hl : l = [] := List.eq_nil_of_length_eq_zero h0
    subst hl
    refine Calls.mono (Tryz.slices_Sort_int_none none 0 w) ?_
    rintro e w' ⟨rfl, rfl⟩
    exact ⟨rfl, by rw [List.mergeSort_nil]; exact h, ⟨rfl, rfl, rfl, Nat.le_refl _, fun _ _ _ => rfl⟩⟩
  · rw [Nat.mul_one] at h3 h4
    refine Calls.mono (Tryz.slices_Sort_int g 0 cap l w (int_holds hb h4) (Array.getElem?_eq_some_iff.1 hb).1 (by omega)) ?_
    rintro e w' ⟨rfl, m, os, rfl⟩
    have hg := put_grown w g m (l.mergeSort fun x y => decide (x ≤ y)).toArray os
    have hlen : (l.mergeSort fun x y => decide (x ≤ y)).length = l.length := List.length_mergeSort l
    refine ⟨rfl, ⟨by simp [icells], .inr ⟨g, cap, putCells (Value.int .i64) 0 (l.mergeSort fun x y => decide (x ≤ y)).toArray cur, rfl, hlo, ?_, h1, h2, ?_, ?_⟩⟩, hg⟩
    · rw [heap_grow_old _ _ (by simpa [putRow, mapBlock, Sort.ahead] using (Array.getElem?_eq_some_iff.1 hb).1)]
      exact put_block hb
    · simp [putCells, h3]
    · rw [Nat.mul_one, ← hlen, put_take (Nat.le_refl _) (by omega), List.take_length]

theorem icompI (lo : Nat) (v : Value) (l : List Int) (w : World) (h : w.ownsRow lo 3 1 v l.length (icells l)) (hn : l.length ≤ 16777216) :
    Calls Tryz.prog 56 #[v] w fun e w' => ∃ v', e = .returned v' ∧ w'.ownsRow lo 3 1 v' (compact l).length (icells (compact l)) ∧ w.grownBy w' v.ownBlock := by
  have hown := h
  rcases h.2 with ⟨rfl, h0⟩ | ⟨g, cap, cur, rfl, hlo, hb, h1, h2, h3, h4⟩
  · have hl : l = [] := List.eq_nil_of_length_eq_zero h0
    subst hl
    refine Calls.mono (Tryz.slices_Compact_int_empty none 0 w) ?_
    rintro e w' ⟨rfl, rfl⟩
    exact ⟨_, rfl, h, ⟨rfl, rfl, rfl, Nat.le_refl _, fun _ _ _ => rfl⟩⟩
  · rw [Nat.mul_one] at h3 h4
    refine Calls.mono (Tryz.slices_Compact_int g 0 cap l w (int_holds hb h4) (by omega) h1) ?_
    rintro e w' ⟨rfl, m, rfl⟩
    have hc := compact_length_le l
    have hg := put_grown w g m (compact l ++ List.replicate (l.length - (compact l).length) 0).toArray #[]
    rw [grow_none] at hg
    have hlen : (compact l ++ List.replicate (l.length - (compact l).length) 0).length = l.length := by simp; omega
    refine ⟨_, rfl, ⟨by simp [icells], .inr ⟨g, cap, _, rfl, hlo, put_block hb, by omega, h2, by simp [putCells, h3], ?_⟩⟩, hg⟩
    rw [Nat.mul_one, put_take (by omega) (by omega), List.take_left' rfl]

theorem mem_compact {l : List Int} (x : Int) : x ∈ compact l ↔ x ∈ l := by
  unfold compact compactUpTo
  constructor
  · intro h
    obtain ⟨j, hj, rfl⟩ := List.mem_map.1 h
    have hj2 := List.mem_range.1 (List.mem_filter.1 hj).1
    rw [getElem!_pos _ j (by simpa using hj2)]
    simp
  · intro h
    have : ∀ n j : Nat, j ≤ n → l[j]? = some x → x ∈ ((List.range l.length).filter (keeps l.toArray)).map (l.toArray[·]!) := by
      intro n
      induction n with
      | zero =>
        intro j hj hx
        have e : j = 0 := by omega
        subst e
        have hl := (List.getElem?_eq_some_iff.1 hx).1
        refine List.mem_map.2 ⟨0, List.mem_filter.2 ⟨List.mem_range.2 hl, keeps_lt_one _ 0 (by omega)⟩, ?_⟩
        rw [getElem!_pos _ 0 (by simpa using hl)]
        simpa using (List.getElem?_eq_some_iff.1 hx).2
      | succ n ih =>
        intro j hj hx
        have hl := (List.getElem?_eq_some_iff.1 hx).1
        have hv : l.toArray[j]! = x := by
          rw [getElem!_pos _ j (by simpa using hl)]
          simpa using (List.getElem?_eq_some_iff.1 hx).2
        by_cases h0 : j = 0
        · exact ih j (by omega) hx
        · by_cases hk : l.toArray[j]! = l.toArray[j - 1]!
          · refine ih (j - 1) (by omega) ?_
            rw [List.getElem?_eq_getElem (by omega)]
            rw [hv, getElem!_pos _ (j - 1) (by simp; omega)] at hk
            rw [hk]
            simp
          · exact List.mem_map.2 ⟨j, List.mem_filter.2 ⟨List.mem_range.2 hl, keeps_pos hk⟩, hv⟩
    obtain ⟨j, hj⟩ := List.getElem?_of_mem h
    exact this j j (Nat.le_refl _) hj
theorem asc_compact {l : List Int} (h : l.Pairwise (fun x y => x ≤ y)) : (compact l).Pairwise (fun x y => x < y) := by
  unfold compact compactUpTo
  rw [List.pairwise_map]
  have hm : ∀ i j, i ≤ j → j < l.length → l.toArray[i]! ≤ l.toArray[j]! := by
    intro i j hij hj
    rw [getElem!_pos _ i (by simp; omega), getElem!_pos _ j (by simpa using hj)]
    by_cases e : i = j
    · subst e; exact Int.le_refl _
    · have := List.pairwise_iff_getElem.1 h i j (by omega) hj (by omega)
      simpa using this
  refine List.Pairwise.imp_of_mem ?_ ((List.pairwise_lt_range (n := l.length)).filter (keeps l.toArray))
  intro i j hi hj hij
  obtain ⟨j1, j2⟩ := List.mem_filter.1 hj
  have hjl := List.mem_range.1 j1
  have a := hm i (j - 1) (by omega) (by omega)
  have b := hm (j - 1) j (by omega) hjl
  simp only [keeps, decide_eq_true_eq] at j2
  rcases j2 with e | e
  · omega
  · omega
theorem live_sorted (s : Sto) : compact ((chunksS s).mergeSort fun x y => decide (x ≤ y)) = liveS s := by
  refine live_of (asc_compact ?_) (fun y => ?_)
  · have := List.pairwise_mergeSort (le := fun x y : Int => decide (x ≤ y)) (by intro a b c h1 h2; simp at *; omega) (by intro a b; simp; omega) (chunksS s)
    exact this.imp (fun {a b} h => by simpa using h)
  · rw [mem_compact]
    exact (List.mergeSort_perm _ _).mem_iff

set_option maxHeartbeats 1000000 in
set_option maxRecDepth 100000 in
theorem ilive : LiveC 33 := by
  rintro v s w ⟨va, vl, vc, ad, len, cap, rs, rfl, hks, hvl, hl, hll, hvc, h, hk⟩
  obtain ⟨vs, kns, nx⟩ := s
  simp only at hks h ⊢
  subst hks
  have B0 : Hid (Below w.heap.size w (w.alloc (.cells #[.slice va vl vc, .slice ad len cap, .int .i64 nx] 49))) := (Below.refl _ _).alloc (Nat.le_refl _) _
  have CC := hide (ichunksOf va vl vc ad len cap nx vs rs (w.alloc (.cells #[.slice va vl vc, .slice ad len cap, .int .i64 nx] 49)) hvl hl (h.below B0.out) (hk.below B0.out))
  unfold SBox at CC
  have HN : Hid ((chunksS ⟨vs, rs.map ktell, nx⟩).length ≤ 16777216) := by
    show _ ≤ _
    refine Nat.le_trans (List.length_filter_le _ _) ?_
    have e : ∀ l : List (Int × Int), (l.flatMap (fun v => allT (rs.map ktell) v.2)).length = 16 * l.length := by
      intro l
      induction l with
      | nil => rfl
      | cons v l ih => rw [List.flatMap_cons, List.length_append, ih, allT_len, List.length_cons]; omega
    show (vs.flatMap _).length ≤ _
    rw [e]
    have := h.1
    omega
  have HR := hide (live_sorted ⟨vs, rs.map ktell, nx⟩)
  obtain ⟨L, hL⟩ : ∃ L, chunksS ⟨vs, rs.map ktell, nx⟩ = L := ⟨_, rfl⟩
  rw [hL] at CC HN HR
  rw [← HR.out]
  clear h hk hll hvc hL HR
  have HM : Hid ((L.mergeSort fun x y => decide (x ≤ y)).length = L.length) := List.length_mergeSort L
  obtain ⟨M, hM⟩ : ∃ M, (L.mergeSort fun x y => decide (x ≤ y)) = M := ⟨_, rfl⟩
  have HME := hide hM
  rw [hM] at HM ⊢
  clear hM
  unfold SBox
  go_enter Tryz.func33, Tryz.ntmps33
  go_wp2_with fail
  refine CC.out.mono ?_
  rintro e w1 ⟨cv, rfl, co, b1⟩
  have BE := hide (B0.out.trans (b1.mono B0.out.size))
  have HLO : Hid (w.heap.size ≤ (w.alloc (.cells #[.slice va vl vc, .slice ad len cap, .int .i64 nx] 49)).heap.size) := B0.out.size
  have CS := hide (isortI _ cv L w1 co HN.out)
  rw [HME.out] at CS
  have CO := hide co
  clear co b1 CC
  go_wp2_with fail
  refine CS.out.mono ?_
  rintro e w2 ⟨rfl, o2, g2⟩
  rw [← HM.out] at o2
  have CP := hide (icompI _ cv M w2 o2 (by rw [HM.out]; exact HN.out))
  have BE2 := hide (BE.out.grown g2 BE.out.size (fun q hq => by have := (CO.out.lt q hq).1; have := HLO.out; omega))
  have O2 := hide o2
  clear o2 g2 CS
  go_wp2_with fail
  refine CP.out.mono ?_
  rintro e w3 ⟨v3, rfl, o3, g3⟩
  have FIN : Hid (w3.ownsRow w.heap.size 3 1 v3 (compact M).length (icells (compact M)) ∧ Below w.heap.size w w3) := ⟨own_lower o3 HLO.out, BE2.out.grown g3 BE2.out.size (fun q hq => by have := (O2.out.lt q hq).1; have := HLO.out; omega)⟩
  clear o3 g3 CP
  go_wp2
  go_ret
  exact ⟨_, rfl, FIN.out.1, FIN.out.2⟩
end Go.Proofs.YtcjgjkejhkhknabGreatDoor

/-
  spec.l12Insert.
-/
namespace Go.Proofs.YtcjgjkejhkhknabGreatDoor
open Go.RowKit
open Words

theorem filt_take {L : List Int} {p : Int → Bool} {k : Nat} {y : Int} (h : L[k]? = some y) : (L.take (k + 1)).filter p = (L.take k).filter p ++ (if p y = true then [y] else []) := by
  obtain ⟨h1, h2⟩ := List.getElem?_eq_some_iff.1 h
  rw [List.take_succ_eq_append_getElem h1, h2, List.filter_append, List.filter_cons, List.filter_nil]

set_option maxHeartbeats 1000000 in
set_option maxRecDepth 100000 in
theorem sinsI (ra : Option Addr) (n rc : Nat) (L : List Int) (x : Int) (w : World) (hn : n ≤ 100000000) (h : IRow w ra n L) :
    Calls Tryz.prog 51 #[.slice ra n rc, .int .i64 x] w (IOut w (insI L x)) := by
  obtain ⟨i0, hi, hz0, hz1, hz2⟩ := info_parts infoInt
  have I0 := hide hi
  have Y0 := hide hz0
  have Y1 := hide hz1
  have Y2 := hide hz2
  clear hi hz0 hz1 hz2
  have HNL := hide h.1
  have HR := hide h
  clear h
  obtain ⟨M, hM⟩ : ∃ M, insI L x = M := ⟨_, rfl⟩
  have HM := hide hM
  rw [hM]
  clear hM
  go_enter Tryz.func51, Tryz.ntmps51
  go_wp2_with fail
  have O0 : Hid ((w.alloc (.cells #[] 3)).ownsRow w.heap.size 3 1 (.slice (some ⟨w.heap.size, 0, none⟩) 0 0) ([] : List Int).length (icells [])) := World.ownsRow_made w #[] 0 (Nat.le_refl _) (by unfold maxLen; omega) (by simp)
  have BA : Hid (Below w.heap.size w (w.alloc (.cells #[] 3))) := (Below.refl _ _).alloc (Nat.le_refl _) _
  generalize w.alloc (.cells #[] 3) = wa at O0 BA ⊢
  obtain ⟨z, hz⟩ : ∃ z, w.heap.size = z := ⟨_, rfl⟩
  rw [hz] at O0 ⊢
  have HZW := hide hz
  clear hz
  go_loopw [5, 6] (fun ov kv W => ∃ (k : Nat) (l : List Int), k ≤ n ∧ kv = .int .i64 k ∧ l.length ≤ k ∧ Hid (l = (L.take k).filter (fun y => decide (y < x))) ∧ Hid (W.ownsRow w.heap.size 3 1 ov l.length (icells l) ∧ Below w.heap.size w W)) (fun _ kv _ => n - (intOf kv).toNat)
  case atStart => exact ⟨0, [], Nat.zero_le _, rfl, Nat.zero_le _, by show _ = _; simp, by rw [HZW.out]; exact O0.out, BA.out⟩
  case round =>
    obtain ⟨k, l, hk, rfl, hlk, HL, HO⟩ := hrel
    by_cases hlt : (k : Int) < n
    · have hy := List.getElem?_eq_getElem (show k < L.length by have := HNL.out; omega)
      generalize L[k]'(by have := HNL.out; omega) = y at hy
      obtain ⟨b, off, e, hb, c0⟩ := (HR.out.below HO.out.2).at hy
      subst e
      have k0 : (0 : Int) ≤ k := by omega
      have HF := hide (filt_take (p := fun y => decide (y < x)) hy)
      clear hy
      by_cases hyx : y < x
      · have HL2 : Hid (l ++ [y] = (L.take (k + 1)).filter (fun y => decide (y < x))) := by
          show _ = _
          rw [HF.out, if_pos (by simpa using hyx), HL.out]
        have OW := hide HO.out.1
        have B1 := hide HO.out.2
        have hw := HO.out.2.size
        clear HO
        have BN : Hid (Below wr.heap.size wr (wr.alloc (.cells #[.int .i64 y] 3))) := (Below.refl _ _).alloc (Nat.le_refl _) _
        have OWN := hide (own_below OW.out BN.out)
        go_wp2_with (at_builtin; refine wpList_append_own _ rfl _ _ 25 rfl w.heap.size 3 i0 (.int .i64 0) 1 8 Tryz.underlying25 I0.out Y0.out Y1.out Y2.out rfl (by decide) _ _ _ rfl OWN.out ⟨wr.heap.size, 0, none⟩ 1 1 [Value.int .i64 y] rfl rfl (one_cell _ _ _) (one_i64 _) ?c1 ?c2 ?c3 ?_)
        case c1 => unfold maxLen; omega
        case c2 => omega
        case c3 => have := BN.out.size; omega
        intro u' z2 ho hg _
        rw [icells_snoc] at ho
        have ho2 : z2.ownsRow w.heap.size 3 1 u' (l ++ [y]).length (icells (l ++ [y])) := by rw [List.length_append]; exact ho
        have ON : Hid (z2.ownsRow w.heap.size 3 1 u' (l ++ [y]).length (icells (l ++ [y])) ∧ Below w.heap.size w z2) := ⟨ho2, (B1.out.trans (BN.out.mono hw)).grown hg (by have := BN.out.size; omega) (fun q hq => (OWN.out.lt q hq).1)⟩
        have hl3 : (l ++ [y]).length ≤ k + 1 := by simp; omega
        generalize l ++ [y] = l2 at HL2 ON hl3
        clear ho ho2 hg OWN OW BN B1
        go_wp2
        go_roundw
        case rel => exact ⟨k + 1, l2, by omega, by go_num, hl3, HL2, ON⟩
        case measure => simp [intOf]; omega
      · have HL2 : Hid (l = (L.take (k + 1)).filter (fun y => decide (y < x))) := by
          show _ = _
          rw [HF.out, if_neg (by simpa using hyx), List.append_nil]
          exact HL.out
        go_wp2
        go_roundw
        case rel => exact ⟨k + 1, l, by omega, by go_num, by omega, HL2, HO⟩
        case measure => simp [intOf]; omega
    · have EL : Hid (l = L.filter (fun y => decide (y < x))) := by
        show _ = _
        rw [HL.out, List.take_of_length_le (by have := HNL.out; omega)]
      have hl1 : l.length ≤ n := by omega
      clear HL
      by_cases hx : (0 : Int) < x
      · have HL2 : Hid (l ++ [x] = L.filter (fun y => decide (y < x)) ++ (if 0 < x then [x] else [])) := by
          show _ = _
          rw [EL.out, if_pos hx]
        have OW := hide HO.out.1
        have B1 := hide HO.out.2
        have hw := HO.out.2.size
        clear HO
        have BN : Hid (Below wr.heap.size wr (wr.alloc (.cells #[.int .i64 x] 3))) := (Below.refl _ _).alloc (Nat.le_refl _) _
        have OWN := hide (own_below OW.out BN.out)
        go_wp2_with (at_builtin; refine wpList_append_own _ rfl _ _ 25 rfl w.heap.size 3 i0 (.int .i64 0) 1 8 Tryz.underlying25 I0.out Y0.out Y1.out Y2.out rfl (by decide) _ _ _ rfl OWN.out ⟨wr.heap.size, 0, none⟩ 1 1 [Value.int .i64 x] rfl rfl (one_cell _ _ _) (one_i64 _) ?c1 ?c2 ?c3 ?_)
        case c1 => unfold maxLen; omega
        case c2 => omega
        case c3 => have := BN.out.size; omega
        intro u' z2 ho hg _
        rw [icells_snoc] at ho
        have ho2 : z2.ownsRow w.heap.size 3 1 u' (l ++ [x]).length (icells (l ++ [x])) := by rw [List.length_append]; exact ho
        have ON : Hid (z2.ownsRow w.heap.size 3 1 u' (l ++ [x]).length (icells (l ++ [x])) ∧ Below w.heap.size w z2) := ⟨ho2, (B1.out.trans (BN.out.mono hw)).grown hg (by have := BN.out.size; omega) (fun q hq => (OWN.out.lt q hq).1)⟩
        have hl3 : (l ++ [x]).length ≤ n + 1 := by simp; omega
        generalize l ++ [x] = l2 at HL2 ON hl3
        clear ho ho2 hg OWN OW BN B1
        clear EL
        go_wp2
        obtain ⟨A0, hA⟩ : ∃ A0, L.filter (fun y => decide (y < x)) ++ (if 0 < x then [x] else []) = A0 := ⟨_, rfl⟩
        rw [hA] at HL2
        have HA := hide hA
        clear hA
        go_loopw [5, 7] (fun ov kv W => ∃ (k : Nat) (l : List Int), k ≤ n ∧ kv = .int .i64 k ∧ l.length ≤ n + 1 + k ∧ Hid (l = A0 ++ (L.take k).filter (fun y => decide (x < y))) ∧ Hid (W.ownsRow w.heap.size 3 1 ov l.length (icells l) ∧ Below w.heap.size w W)) (fun _ kv _ => n - (intOf kv).toNat)
        case atStart => exact ⟨0, l2, Nat.zero_le _, rfl, by omega, (by show _ = _; rw [HL2.out]; simp), ON⟩
        case round =>
          obtain ⟨k, l, hk, rfl, hlk, HL, HO⟩ := hrel
          by_cases hlt : (k : Int) < n
          · have hy := List.getElem?_eq_getElem (show k < L.length by have := HNL.out; omega)
            generalize L[k]'(by have := HNL.out; omega) = y at hy
            obtain ⟨b, off, e, hb, c0⟩ := (HR.out.below HO.out.2).at hy
            subst e
            have k0 : (0 : Int) ≤ k := by omega
            have HF := hide (filt_take (p := fun y => decide (x < y)) hy)
            clear hy
            by_cases hyx : x < y
            · have HL2 : Hid (l ++ [y] = A0 ++ (L.take (k + 1)).filter (fun y => decide (x < y))) := by
                show _ = _
                rw [HF.out, if_pos (by simpa using hyx), HL.out]; rw [List.append_assoc]
              have OW := hide HO.out.1
              have B1 := hide HO.out.2
              have hw := HO.out.2.size
              clear HO
              have BN : Hid (Below wr.heap.size wr (wr.alloc (.cells #[.int .i64 y] 3))) := (Below.refl _ _).alloc (Nat.le_refl _) _
              have OWN := hide (own_below OW.out BN.out)
              go_wp2_with (at_builtin; refine wpList_append_own _ rfl _ _ 25 rfl w.heap.size 3 i0 (.int .i64 0) 1 8 Tryz.underlying25 I0.out Y0.out Y1.out Y2.out rfl (by decide) _ _ _ rfl OWN.out ⟨wr.heap.size, 0, none⟩ 1 1 [Value.int .i64 y] rfl rfl (one_cell _ _ _) (one_i64 _) ?c1 ?c2 ?c3 ?_)
              case c1 => unfold maxLen; omega
              case c2 => omega
              case c3 => have := BN.out.size; omega
              intro u' z2 ho hg _
              rw [icells_snoc] at ho
              have ho2 : z2.ownsRow w.heap.size 3 1 u' (l ++ [y]).length (icells (l ++ [y])) := by rw [List.length_append]; exact ho
              have ON : Hid (z2.ownsRow w.heap.size 3 1 u' (l ++ [y]).length (icells (l ++ [y])) ∧ Below w.heap.size w z2) := ⟨ho2, (B1.out.trans (BN.out.mono hw)).grown hg (by have := BN.out.size; omega) (fun q hq => (OWN.out.lt q hq).1)⟩
              have hl3 : (l ++ [y]).length ≤ n + 1 + (k + 1) := by simp; omega
              generalize l ++ [y] = l2 at HL2 ON hl3
              clear ho ho2 hg OWN OW BN B1
              go_wp2
              go_roundw
              case rel => exact ⟨k + 1, l2, by omega, by go_num, hl3, HL2, ON⟩
              case measure => simp [intOf]; omega
            · have HL2 : Hid (l = A0 ++ (L.take (k + 1)).filter (fun y => decide (x < y))) := by
                show _ = _
                rw [HF.out, if_neg (by simpa using hyx), List.append_nil]
                exact HL.out
              go_wp2
              go_roundw
              case rel => exact ⟨k + 1, l, by omega, by go_num, by omega, HL2, HO⟩
              case measure => simp [intOf]; omega
          · have EL : Hid (l = A0 ++ L.filter (fun y => decide (x < y))) := by
              show _ = _
              rw [HL.out, List.take_of_length_le (by have := HNL.out; omega)]
            have EM : Hid (l = M) := by
              show _ = _
              rw [EL.out, ← HM.out, insI, ← HA.out]
            go_wp2
            go_ret
            refine ⟨_, rfl, ?_, HO.out.2⟩
            rw [← EM.out]
            exact HO.out.1
      · have HL2 : Hid (l = L.filter (fun y => decide (y < x)) ++ (if 0 < x then [x] else [])) := by
          show _ = _
          rw [if_neg hx, List.append_nil]
          exact EL.out
        have ON := hide HO.out
        have hl3 : l.length ≤ n + 1 := by omega
        clear HO EL
        go_wp2
        obtain ⟨A0, hA⟩ : ∃ A0, L.filter (fun y => decide (y < x)) ++ (if 0 < x then [x] else []) = A0 := ⟨_, rfl⟩
        rw [hA] at HL2
        have HA := hide hA
        clear hA
        go_loopw [5, 7] (fun ov kv W => ∃ (k : Nat) (l : List Int), k ≤ n ∧ kv = .int .i64 k ∧ l.length ≤ n + 1 + k ∧ Hid (l = A0 ++ (L.take k).filter (fun y => decide (x < y))) ∧ Hid (W.ownsRow w.heap.size 3 1 ov l.length (icells l) ∧ Below w.heap.size w W)) (fun _ kv _ => n - (intOf kv).toNat)
        case atStart => exact ⟨0, l, Nat.zero_le _, rfl, by omega, (by show _ = _; rw [HL2.out]; simp), ON⟩
        case round =>
          obtain ⟨k, l, hk, rfl, hlk, HL, HO⟩ := hrel
          by_cases hlt : (k : Int) < n
          · have hy := List.getElem?_eq_getElem (show k < L.length by have := HNL.out; omega)
            generalize L[k]'(by have := HNL.out; omega) = y at hy
            obtain ⟨b, off, e, hb, c0⟩ := (HR.out.below HO.out.2).at hy
            subst e
            have k0 : (0 : Int) ≤ k := by omega
            have HF := hide (filt_take (p := fun y => decide (x < y)) hy)
            clear hy
            by_cases hyx : x < y
            · have HL2 : Hid (l ++ [y] = A0 ++ (L.take (k + 1)).filter (fun y => decide (x < y))) := by
                show _ = _
                rw [HF.out, if_pos (by simpa using hyx), HL.out]; rw [List.append_assoc]
              have OW := hide HO.out.1
              have B1 := hide HO.out.2
              have hw := HO.out.2.size
              clear HO
              have BN : Hid (Below wr.heap.size wr (wr.alloc (.cells #[.int .i64 y] 3))) := (Below.refl _ _).alloc (Nat.le_refl _) _
              have OWN := hide (own_below OW.out BN.out)
              go_wp2_with (at_builtin; refine wpList_append_own _ rfl _ _ 25 rfl w.heap.size 3 i0 (.int .i64 0) 1 8 Tryz.underlying25 I0.out Y0.out Y1.out Y2.out rfl (by decide) _ _ _ rfl OWN.out ⟨wr.heap.size, 0, none⟩ 1 1 [Value.int .i64 y] rfl rfl (one_cell _ _ _) (one_i64 _) ?c1 ?c2 ?c3 ?_)
              case c1 => unfold maxLen; omega
              case c2 => omega
              case c3 => have := BN.out.size; omega
              intro u' z2 ho hg _
              rw [icells_snoc] at ho
              have ho2 : z2.ownsRow w.heap.size 3 1 u' (l ++ [y]).length (icells (l ++ [y])) := by rw [List.length_append]; exact ho
              have ON : Hid (z2.ownsRow w.heap.size 3 1 u' (l ++ [y]).length (icells (l ++ [y])) ∧ Below w.heap.size w z2) := ⟨ho2, (B1.out.trans (BN.out.mono hw)).grown hg (by have := BN.out.size; omega) (fun q hq => (OWN.out.lt q hq).1)⟩
              have hl3 : (l ++ [y]).length ≤ n + 1 + (k + 1) := by simp; omega
              generalize l ++ [y] = l2 at HL2 ON hl3
              clear ho ho2 hg OWN OW BN B1
              go_wp2
              go_roundw
              case rel => exact ⟨k + 1, l2, by omega, by go_num, hl3, HL2, ON⟩
              case measure => simp [intOf]; omega
            · have HL2 : Hid (l = A0 ++ (L.take (k + 1)).filter (fun y => decide (x < y))) := by
                show _ = _
                rw [HF.out, if_neg (by simpa using hyx), List.append_nil]
                exact HL.out
              go_wp2
              go_roundw
              case rel => exact ⟨k + 1, l, by omega, by go_num, by omega, HL2, HO⟩
              case measure => simp [intOf]; omega
          · have EL : Hid (l = A0 ++ L.filter (fun y => decide (x < y))) := by
              show _ = _
              rw [HL.out, List.take_of_length_le (by have := HNL.out; omega)]
            have EM : Hid (l = M) := by
              show _ = _
              rw [EL.out, ← HM.out, insI, ← HA.out]
            go_wp2
            go_ret
            refine ⟨_, rfl, ?_, HO.out.2⟩
            rw [← EM.out]
            exact HO.out.1
end Go.Proofs.YtcjgjkejhkhknabGreatDoor

/-
  spec.LiveOf.
-/
namespace Go.Proofs.YtcjgjkejhkhknabGreatDoor
open Go.RowKit
open Words

theorem insI_len (l : List Int) (x : Int) : (insI l x).length ≤ l.length + 1 := by
  have key : (l.filter (fun y => decide (y < x))).length + (l.filter (fun y => decide (x < y))).length ≤ l.length := by
    induction l with
    | nil => exact Nat.le_refl _
    | cons v l ih =>
      rw [List.filter_cons, List.filter_cons]
      by_cases h1 : v < x
      · rw [if_pos (by simpa using h1), if_neg (by simp; omega), List.length_cons, List.length_cons]; omega
      · rw [if_neg (by simpa using h1)]
        split
        · rw [List.length_cons, List.length_cons]; omega
        · rw [List.length_cons]; omega
  rw [insI, List.length_append, List.length_append]
  split
  · rw [List.length_singleton]; omega
  · rw [List.length_nil]; omega
def liveK (l : List Kn) (vs : List (Int × Int)) (k : Nat) : List Int := (vs.take k).foldl (fun acc v => (allT l v.2).foldl insI acc) []
theorem liveK_succ {l : List Kn} {vs : List (Int × Int)} {k : Nat} {v : Int × Int} (h : vs[k]? = some v) : liveK l vs (k + 1) = (allT l v.2).foldl insI (liveK l vs k) := by
  obtain ⟨h1, h2⟩ := List.getElem?_eq_some_iff.1 h
  rw [liveK, liveK, List.take_succ_eq_append_getElem h1, h2, List.foldl_append, List.foldl_cons, List.foldl_nil]
theorem fold_take {L : List Int} {acc : List Int} {m : Nat} {x : Int} (h : L[m]? = some x) : (L.take (m + 1)).foldl insI acc = insI ((L.take m).foldl insI acc) x := by
  obtain ⟨h1, h2⟩ := List.getElem?_eq_some_iff.1 h
  rw [List.take_succ_eq_append_getElem h1, h2, List.foldl_append, List.foldl_cons, List.foldl_nil]
/-- A slot that holds a row of numbers of the call's own. -/
def IHas (w W : World) (ov : Value) (l : List Int) : Prop := ∃ oa oc, ov = .slice oa l.length oc ∧ IRow W oa l.length l ∧ W.ownsRow w.heap.size 3 1 ov l.length (icells l) ∧ Below w.heap.size w W
theorem IHas.of {w W : World} {ov : Value} {l : List Int} (h : W.ownsRow w.heap.size 3 1 ov l.length (icells l)) (hm : l.length ≤ maxLen) (hb : Below w.heap.size w W) : IHas w W ov l := by
  obtain ⟨oa, oc, e, -, hr⟩ := ISl.of (Sli.of h) hm (Nat.le_refl _)
  exact ⟨oa, oc, e, hr, h, hb⟩

set_option maxHeartbeats 1000000 in
set_option maxRecDepth 100000 in
theorem slive (va : Option Addr) (vl vc : Nat) (ad : Option Addr) (len cap : Nat) (nx : Int) (vs : List (Int × Int)) (rs : List Kw) (w : World) (hvl : vl ≤ 1048578) (hl : len ≤ 1048578) (h : VlRow w va vl vs) (hk : KnRd w ad len rs) :
    Calls Tryz.prog 30 #[.agg (SBox va vl vc ad len cap nx)] w (IOut w (liveS ⟨vs, rs.map ktell, nx⟩)) := by
  have T0 := hide ((Tk.start w).cell #[.slice va vl vc, .slice ad len cap, .int .i64 nx] 49)
  have HVL := hide h.1
  have HV := hide h
  have HK := hide hk
  clear h hk
  obtain ⟨C, hC⟩ : ∃ C, liveS ⟨vs, rs.map ktell, nx⟩ = C := ⟨_, rfl⟩
  have HC := hide hC
  rw [hC]
  clear hC
  unfold SBox
  go_enter Tryz.func30, Tryz.ntmps30
  go_wp2_with fail
  have HS := hide (show (w.alloc (.cells #[.slice va vl vc, .slice ad len cap, .int .i64 nx] 49)).heap.size = w.heap.size + 1 by simp)
  generalize w.alloc (.cells #[.slice va vl vc, .slice ad len cap, .int .i64 nx] 49) = wb at T0 HS ⊢
  have x0 : wb.cell? ⟨w.heap.size, 0, none⟩ = some (.slice va vl vc) := T0.out.at 0 0 rfl rfl
  have x1 : wb.cell? ⟨w.heap.size, 1, none⟩ = some (.slice ad len cap) := T0.out.at 0 1 rfl rfl
  have XB := hide (World.block_lt_of_cell? wb _ x0)
  have O0 : Hid ((wb.alloc (.cells #[] 3)).ownsRow wb.heap.size 3 1 (.slice (some ⟨wb.heap.size, 0, none⟩) 0 0) ([] : List Int).length (icells [])) := World.ownsRow_made wb #[] 0 (Nat.le_refl _) (by unfold maxLen; omega) (by simp)
  have BA : Hid (Below wb.heap.size wb (wb.alloc (.cells #[] 3))) := (Below.refl _ _).alloc (Nat.le_refl _) _
  have S0 := hide (IHas.of O0.out (by simp) BA.out)
  generalize wb.alloc (.cells #[] 3) = wa at S0 ⊢
  obtain ⟨z, hz⟩ : ∃ z, w.heap.size = z := ⟨_, rfl⟩
  rw [hz] at x0 x1 XB HS ⊢
  have HZW := hide hz
  clear hz O0 BA
  go_loopw [3, 4] (fun ov iv W => ∃ (k : Nat) (l : List Int), k ≤ vl ∧ iv = .int .i64 k ∧ l.length ≤ 16 * k ∧ Hid (l = liveK (rs.map ktell) vs k) ∧ Hid (IHas wb W ov l)) (fun _ iv _ => vl - (intOf iv).toNat)
  case atStart => exact ⟨0, [], Nat.zero_le _, rfl, Nat.zero_le _, (by show _ = _; simp [liveK]), by rw [← HS.out]; exact S0.out⟩
  case round =>
    obtain ⟨k, l, hk, rfl, hlk, HL, HO⟩ := hrel
    obtain ⟨oa, oc, e, hrw, how, hbw⟩ := HO.out
    subst e
    have HW := hide hbw
    have HOW := hide how
    have HRW := hide hrw
    clear hrw how hbw
    have y0 := (HW.out.cell (show z < wb.heap.size from XB.out)).trans x0
    have y1 := (HW.out.cell (show z < wb.heap.size from XB.out)).trans x1
    by_cases hlt : (k : Int) < vl
    · have hv := List.getElem?_eq_getElem (show k < vs.length by have := HVL.out; omega)
      generalize vs[k]'(by have := HVL.out; omega) = v at hv
      obtain ⟨b, off, e, hb, c0, c1⟩ := (((HV.out.below T0.out.1).below HW.out)).at hv
      subst e
      have k0 : (0 : Int) ≤ k := by omega
      have HR : Hid (liveK (rs.map ktell) vs (k + 1) = (allT (rs.map ktell) v.2).foldl insI l) := by
        show _ = _
        rw [liveK_succ hv, HL.out]
      have CG := hide (sall ad len cap rs v.2 wr.drew hl ((HK.out.below T0.out.1).below HW.out.drew))
      have HWD := hide HW.out.drew
      have l0 := World.block_lt_of_cell? wr _ y0
      have l1 := World.block_lt_of_cell? wr _ y1
      have l2 := World.block_lt_of_cell? wr _ c1
      clear hv
      go_wp2
      go_region_held3 (fun w' => w'.cell? ⟨z, 0, none⟩ = some (.slice (some ⟨b, off, none⟩) vl vc) ∧ w'.cell? ⟨z, 1, none⟩ = some (.slice ad len cap) ∧ w'.cell? ⟨b, off + k * 2 + 1, none⟩ = some (.int .i64 v.2)) (first | exact ⟨y0, y1, c1⟩ | exact KY.out) ((go_at_call 50; (with_reducible refine Calls.mono CG.out ?_); rintro en w2 ⟨lv, rfl, o2, b2⟩; have KY : Hid (w2.cell? ⟨z, 0, none⟩ = some (.slice (some ⟨b, off, none⟩) vl vc) ∧ w2.cell? ⟨z, 1, none⟩ = some (.slice ad len cap) ∧ w2.cell? ⟨b, off + k * 2 + 1, none⟩ = some (.int .i64 v.2)) := ⟨(b2.cell l0).trans y0, (b2.cell l1).trans y1, (b2.cell l2).trans c1⟩))
      have bd : Below wr.heap.size wr w2 := ((Below.refl wr.heap.size wr).drew).trans b2
      have B2 := hide (HW.out.trans (bd.mono HW.out.size))
      have S2 : Hid (IHas wb w2 (.slice oa l.length oc) l) := ⟨oa, oc, rfl, HRW.out.below bd, own_below HOW.out bd, B2.out⟩
      obtain ⟨la, lc, e2, -, hrow⟩ := ISl.of (Sli.of o2) (by rw [allT_len]; unfold maxLen; omega) (Nat.le_refl _)
      rw [allT_len] at e2 hrow
      subst e2
      have HROW := hide hrow
      obtain ⟨L, hL⟩ : ∃ L, allT (rs.map ktell) v.2 = L := ⟨_, rfl⟩
      have HLL : Hid (L.length = 16) := by show _ = _; rw [← hL, allT_len]
      rw [hL] at HROW HR
      clear CG y0 y1 c0 c1 l0 l1 l2 HWD HW o2 b2 hrow hL bd KY HRW HOW HO
      go_wp2
      go_loopw [3, 6] (fun ov kv W => ∃ (m : Nat) (q : List Int), m ≤ 16 ∧ kv = .int .i64 m ∧ q.length ≤ 16 * k + m ∧ Hid (q = (L.take m).foldl insI l) ∧ Hid (IHas wb W ov q) ∧ Hid (Below w2.heap.size w2 W)) (fun _ kv _ => 16 - (intOf kv).toNat)
      case atStart => exact ⟨0, l, Nat.zero_le _, rfl, by omega, (by show _ = _; simp), S2, Below.refl _ _⟩
      case round =>
        obtain ⟨m, q, hm, rfl, hq, HQ, HO, HY⟩ := hrel
        obtain ⟨oa2, oc2, e, hrw, how, hbw⟩ := HO.out
        subst e
        by_cases hm16 : (m : Int) < 16
        · have hx := List.getElem?_eq_getElem (show m < L.length by have := HLL.out; omega)
          generalize L[m]'(by have := HLL.out; omega) = x at hx
          obtain ⟨lb, lo, e3, -, d0⟩ := (HROW.out.below HY.out).at hx
          subst e3
          have m0 : (0 : Int) ≤ m := by omega
          have HF := hide (fold_take (acc := l) hx)
          have CI := hide (sinsI oa2 q.length oc2 q x wr (by omega) hrw)
          have HBW := hide hbw
          clear hx hrw how hbw HO
          go_wp2_with fail
          refine CI.out.mono ?_
          rintro e w3 ⟨uv, rfl, o3, b3⟩
          have hlen := insI_len q x
          have HQ2 : Hid (insI q x = (L.take (m + 1)).foldl insI l) := by show _ = _; rw [HF.out, HQ.out]
          have HO2 : Hid (IHas wb w3 uv (insI q x)) := IHas.of (own_lower o3 HBW.out.size) (by unfold maxLen; omega) (HBW.out.trans (b3.mono HBW.out.size))
          have HY2 := hide (HY.out.trans (b3.mono HY.out.size))
          generalize insI q x = q2 at hlen HQ2 HO2
          clear CI b3 o3 HBW HF
          go_wp2
          go_roundw
          case rel => first | exact ⟨m + 1, q2, by omega, by go_num, by omega, HQ2, HO2, HY2⟩ | exact ⟨m + 1, q2, by omega, by go_num, by omega, HQ2, HO2⟩
          case measure => simp [intOf]; omega
        · have HQ2 : Hid (q = liveK (rs.map ktell) vs (k + 1)) := by
            have e : m = 16 := by omega
            have := HQ.out
            rw [e, List.take_of_length_le (by rw [HLL.out]; omega)] at this
            show _ = _
            rw [this, HR.out]
          clear hrw how hbw
          go_wp2
          go_roundw
          case rel => exact ⟨k + 1, q, by omega, by go_num, by omega, HQ2, HO⟩
          case measure => simp [intOf]; omega
    · have E : Hid (l = C) := by
        show _ = _
        rw [HL.out, ← HC.out, liveS, liveK, List.take_of_length_le (by have := HVL.out; omega)]
      have BE : Hid (Below w.heap.size w wr) := T0.out.1.trans (HW.out.mono T0.out.1.size)
      have OE : Hid (wr.ownsRow w.heap.size 3 1 (.slice oa l.length oc) l.length (icells l)) := own_lower HOW.out T0.out.1.size
      go_wp2
      go_ret
      refine ⟨_, rfl, ?_, BE.out⟩
      rw [← E.out]
      exact OE.out
end Go.Proofs.YtcjgjkejhkhknabGreatDoor

/-
  spec.LiveOf by its contract.
-/
namespace Go.Proofs.YtcjgjkejhkhknabGreatDoor
open Go.RowKit
open Words

theorem live_foldC : ∀ (l : List Int) (acc : List Int), (l.foldl insI acc).length ≤ acc.length + l.length := by
  intro l
  induction l with
  | nil => intro acc; simp
  | cons x l ih => intro acc; have := ih (insI acc x); have := insI_len acc x; simp only [List.foldl_cons, List.length_cons]; omega
theorem live_vols (kns : List Kn) : ∀ (vs : List (Int × Int)) (acc : List Int), (vs.foldl (fun acc v => (allT kns v.2).foldl insI acc) acc).length ≤ acc.length + 16 * vs.length := by
  intro vs
  induction vs with
  | nil => intro acc; simp
  | cons v vs ih =>
    intro acc
    have := ih ((allT kns v.2).foldl insI acc)
    have := live_foldC (allT kns v.2) acc
    have := allT_len kns v.2
    simp only [List.foldl_cons, List.length_cons]
    omega
theorem live_bound (s : Sto) : (liveS s).length ≤ 16 * s.vols.length := by
  have := live_vols s.kns s.vols []
  simpa [liveS] using this
theorem sliveOf : LiveC 30 := by
  rintro v ⟨vs, kns, nx⟩ w ⟨va, vl, vc, ad, len, cap, rs, rfl, h2, h3, h4, h5, h6, h7, h8⟩
  simp only at h2 h7
  subst h2
  exact slive va vl vc ad len cap nx vs rs w (by omega) (by omega) h7 h8
end Go.Proofs.YtcjgjkejhkhknabGreatDoor

/-
  What chapter 5 says of flashes, in plain words: no Go in them.
-/
namespace Go.Proofs.YtcjgjkejhkhknabGreatDoor

abbrev Bk := Bool × Int × List (Int × ByteArray)
def leafOk (t : Int × ByteArray) : Bool := decide (t.1 = 0 ∧ t.2.size = 0 ∨ t.1 = 1 ∧ 1 ≤ t.2.size ∧ t.2.size ≤ 120 ∨ t.1 = 2 ∧ t.2.size ≤ 120)
/-- The leaf at k is right, and not behind a blank one where it isn't blank. -/
def leafAt (ls : List (Int × ByteArray)) (k : Nat) : Bool := match ls[k]? with
  | none => true
  | some t => leafOk t && !(decide (0 < k ∧ t.1 ≠ 0 ∧ ∃ u, ls[k - 1]? = some u ∧ u.1 = 0))
def blkOk (b : Bk) : Bool := decide (b.2.2.length = 4 ∧ 0 ≤ b.2.1 ∧ b.2.1 ≤ 1000000000) && (List.range b.2.2.length).all (leafAt b.2.2)
def flOk (bs : List Bk) : Bool := decide (3 ≤ bs.length ∧ bs.length ≤ 10) && bs.all blkOk
theorem flOk_no {bs : List Bk} {b : Bk} (hb : b ∈ bs) (h : blkOk b = false) : flOk bs = false := by
  have h1 : bs.all blkOk = false := List.all_eq_false.2 ⟨b, hb, by simp [h]⟩
  simp [flOk, h1]
theorem flOk_all {bs : List Bk} (h : ∀ b ∈ bs, blkOk b = true) : flOk bs = decide (3 ≤ bs.length ∧ bs.length ≤ 10) := by
  have h1 : bs.all blkOk = true := List.all_eq_true.2 h
  simp [flOk, h1]
theorem blkOk_len {b : Bk} (h : b.2.2.length ≠ 4) : blkOk b = false := by simp [blkOk, h]
theorem blkOk_wear {b : Bk} (h : ¬ (0 ≤ b.2.1 ∧ b.2.1 ≤ 1000000000)) : blkOk b = false := by
  have h1 : decide (b.2.2.length = 4 ∧ 0 ≤ b.2.1 ∧ b.2.1 ≤ 1000000000) = false := decide_eq_false (fun hh => h hh.2)
  simp only [blkOk, h1, Bool.false_and]
theorem blkOk_no {b : Bk} {k : Nat} (hk : k < b.2.2.length) (h : leafAt b.2.2 k = false) : blkOk b = false := by
  have h1 : (List.range b.2.2.length).all (leafAt b.2.2) = false := List.all_eq_false.2 ⟨k, List.mem_range.2 hk, by simp [h]⟩
  simp only [blkOk, h1, Bool.and_false]
theorem blkOk_yes {b : Bk} (hl : b.2.2.length = 4) (hw : 0 ≤ b.2.1 ∧ b.2.1 ≤ 1000000000) (h : ∀ k, k < b.2.2.length → leafAt b.2.2 k = true) : blkOk b = true := by
  have h1 : (List.range b.2.2.length).all (leafAt b.2.2) = true := List.all_eq_true.2 (fun k hk => h k (List.mem_range.1 hk))
  simp only [blkOk, h1, Bool.and_true]
  exact decide_eq_true ⟨hl, hw⟩
theorem leafAt_no {ls : List (Int × ByteArray)} {k : Nat} {t : Int × ByteArray} (ht : ls[k]? = some t) (h : leafOk t = false) : leafAt ls k = false := by simp [leafAt, ht, h]
theorem leafAt_zero {ls : List (Int × ByteArray)} {t : Int × ByteArray} (ht : ls[0]? = some t) (h : leafOk t = true) : leafAt ls 0 = true := by simp only [leafAt, ht, h]; simp
theorem leafAt_yes {ls : List (Int × ByteArray)} {k : Nat} {t u : Int × ByteArray} (ht : ls[k + 1]? = some t) (hu : ls[k]? = some u) (h : leafOk t = true) (hn : u.1 ≠ 0 ∨ t.1 = 0) : leafAt ls (k + 1) = true := by
  have h1 : decide (0 < k + 1 ∧ t.1 ≠ 0 ∧ ∃ u, ls[k + 1 - 1]? = some u ∧ u.1 = 0) = false := by
    refine decide_eq_false (fun hh => ?_)
    obtain ⟨-, a, q, b, c⟩ := hh
    rw [Nat.add_sub_cancel, hu] at b
    cases b
    rcases hn with hn | hn
    · exact hn c
    · exact a hn
  simp only [leafAt, ht, h, h1]
  rfl
theorem leafAt_bad {ls : List (Int × ByteArray)} {k : Nat} {t u : Int × ByteArray} (ht : ls[k + 1]? = some t) (hu : ls[k]? = some u) (h0 : u.1 = 0) (hn : t.1 ≠ 0) : leafAt ls (k + 1) = false := by
  have h1 : decide (0 < k + 1 ∧ t.1 ≠ 0 ∧ ∃ u, ls[k + 1 - 1]? = some u ∧ u.1 = 0) = true := decide_eq_true ⟨by omega, hn, u, by rw [Nat.add_sub_cancel]; exact hu, h0⟩
  simp only [leafAt, ht, h1]
  simp
/-- The first blank leaf; 4 where there is none. -/
def nextB (ls : List (Int × ByteArray)) : Nat := if ls.findIdx (fun t => t.1 == 0) < ls.length then ls.findIdx (fun t => t.1 == 0) else 4
theorem nextB_at {ls : List (Int × ByteArray)} {k : Nat} {t : Int × ByteArray} (ht : ls[k]? = some t) (h0 : t.1 = 0) (hb : ∀ (j : Nat) (u : Int × ByteArray), j < k → ls[j]? = some u → u.1 ≠ 0) : nextB ls = k := by
  obtain ⟨h1, h2⟩ := List.getElem?_eq_some_iff.1 ht
  have h : ls.findIdx (fun t => t.1 == 0) = k := by
    rw [List.findIdx_eq h1]
    refine ⟨by rw [h2]; simp [h0], fun j hj => ?_⟩
    have := hb j ls[j] hj (List.getElem?_eq_getElem (by omega))
    simpa using this
  simp only [nextB, h, if_pos h1]
theorem nextB_none {ls : List (Int × ByteArray)} (hb : ∀ (j : Nat) (u : Int × ByteArray), ls[j]? = some u → u.1 ≠ 0) : nextB ls = 4 := by
  have h : ls.findIdx (fun t => t.1 == 0) = ls.length := by
    rw [List.findIdx_eq_length]
    intro t ht
    obtain ⟨j, hj, rfl⟩ := List.getElem_of_mem ht
    have := hb j ls[j] (List.getElem?_eq_getElem hj)
    simpa using this
  simp only [nextB, h]
  rw [if_neg (by omega)]
def blank4 : List (Int × ByteArray) := [(0, ⟨#[]⟩), (0, ⟨#[]⟩), (0, ⟨#[]⟩), (0, ⟨#[]⟩)]
def newF (n : Int) : List Bk := if 3 ≤ n ∧ n ≤ 10 then List.replicate n.toNat (false, 0, blank4) else []
def mayP (bs : List Bk) (b leaf : Int) (t : ByteArray) : Bool := match bs[b.toNat]? with
  | none => false
  | some r => decide (0 ≤ b ∧ r.1 = false ∧ leaf < 4 ∧ leaf = nextB r.2.2 ∧ 1 ≤ t.size ∧ t.size ≤ 120)
def putLeaf (bs : List Bk) (b leaf : Nat) (t : ByteArray) : List Bk := bs.modify b (fun r => (r.1, r.2.1, r.2.2.set leaf (1, t)))
def programF (bs : List Bk) (b leaf : Int) (t : ByteArray) : List Bk × Bool := if flOk bs && mayP bs b leaf t then (putLeaf bs b.toNat leaf.toNat t, true) else (bs, false)
def mayW (bs : List Bk) (b : Int) : Bool := match bs[b.toNat]? with
  | none => false
  | some r => decide (0 ≤ b ∧ r.1 = false ∧ r.2.1 ≠ 1000000000)
def wipeF (bs : List Bk) (b : Int) : List Bk × Bool := if flOk bs && mayW bs b then (bs.modify b.toNat (fun r => (false, r.2.1 + 1, blank4)), true) else (bs, false)
def readF (bs : List Bk) (b leaf : Int) : ByteArray × Bool := match bs[b.toNat]? with
  | none => (⟨#[]⟩, false)
  | some r => match r.2.2[leaf.toNat]? with
    | none => (⟨#[]⟩, false)
    | some t => if 0 ≤ b ∧ 0 ≤ leaf ∧ t.1 = 1 then (t.2, true) else (⟨#[]⟩, false)
def badF (bs : List Bk) (b : Int) : List Bk := if 0 ≤ b then bs.modify b.toNat (fun r => (true, r.2)) else bs
end Go.Proofs.YtcjgjkejhkhknabGreatDoor
