/-
  ILive; SInsI
-/
import Derived.Test.YtfmnaidhfgmemaaGreatDoorIChunk
import Derived.Test.YtfmnaidhfgmemaaGreatDoorShelf
import Derived.Test.YtfmnaidhfgmemaaGreatDoorPk6
import Derived.Test.YtfmnaidhfgmemaaGreatDoorPk8
namespace Go.Proofs.YtfmnaidhfgmemaaGreatDoor
open Go.RowKit Go.Shelf Go.Lib Go.Sort
open Words
theorem int_holds {W : World} {g : Nat} {l : List Int} {cur : Array Value} (hb : W.heap[g]? = some (.cells cur 3 (0, 0))) (h4 : cur.toList.take l.length = icells l) : Holds (Value.int .i64) W g 0 l.toArray := by
  intro j hj
  have hj' : j < l.length := by simpa using hj
  refine ⟨?_, frozen_of_row _ _ _ _ _ hb⟩
  rw [Nat.zero_add, cell_of_row _ _ j _ _ _ hb]
  have e1 : (cur.toList.take l.length)[j]? = (icells l)[j]? := by rw [h4]
  rw [List.getElem?_take_of_lt hj', Array.getElem?_toList] at e1
  rw [e1, icells_at l j hj', getElem!_pos _ j hj]
  simp
theorem put_take {cur : Array Value} {l : List Int} {n : Nat} (hn : n ≤ l.length) (hc : l.length ≤ cur.size) : (putCells (Value.int .i64) 0 l.toArray cur).toList.take n = icells (l.take n) := by
  apply List.ext_getElem?
  intro j
  by_cases hj : j < n
  · rw [List.getElem?_take_of_lt hj, Array.getElem?_toList]
    simp only [putCells, Array.getElem?_mapIdx, Nat.zero_le, true_and, Nat.zero_add, Nat.sub_zero]
    rw [Array.getElem?_eq_getElem (show j < cur.size by omega)]
    have hj2 : j < l.toArray.size := by simp; omega
    simp only [Option.map_some, hj2, if_true]
    rw [getElem!_pos _ j hj2]
    have e := List.getElem?_eq_getElem (show j < (l.take n).length by rw [List.length_take]; omega)
    rw [icells_get e]
    simp
  · rw [List.getElem?_eq_none (by rw [List.length_take]; omega), List.getElem?_eq_none (by simp [icells]; omega)]
theorem put_block {W : World} {g m : Nat} {cur : Array Value} {d : Array Int} (hb : W.heap[g]? = some (.cells cur 3 (0, 0))) : (putRow (Value.int .i64) (Sort.ahead W m) g 0 d).heap[g]? = some (.cells (putCells (Value.int .i64) 0 d cur) 3 (0, 0)) := by
  simp [putRow, mapBlock, Sort.ahead, Array.getElem?_modify, hb, onCells]
theorem put_grown (W : World) (g m : Nat) (d : Array Int) (os : Array Obj) : W.grownBy (grow (putRow (Value.int .i64) (Sort.ahead W m) g 0 d) os) (some g) := by
  refine ⟨rfl, rfl, rfl, by simp [putRow, mapBlock, Sort.ahead, grow], fun k hk hne => ?_⟩
  rw [heap_grow_old _ _ (by simpa [putRow, mapBlock, Sort.ahead] using hk)]
  have : g ≠ k := fun e => hne (by rw [e])
  simp [putRow, mapBlock, Sort.ahead, Array.getElem?_modify, this]
theorem grow_none (w : World) : grow w #[] = w := by simp [grow]
theorem isortI (lo : Nat) (v : Value) (l : List Int) (w : World) (h : w.ownsRow lo 3 1 v l.length (icells l)) (hn : l.length ≤ 16777216) :
    Calls Tryz.prog 152 #[v] w fun e w' => e = .returned (.tuple #[]) ∧ w'.ownsRow lo 3 1 v l.length (icells (l.mergeSort fun x y => decide (x ≤ y))) ∧ w.grownBy w' v.ownBlock := by
  have hown := h
  rcases h.2 with ⟨rfl, h0⟩ | ⟨g, cap, cur, rfl, hlo, hb, h1, h2, h3, h4⟩
  · have hl : l = [] := List.eq_nil_of_length_eq_zero h0
    subst hl
    refine Calls.mono (Tryz.slices_Sort_int_none none 0 w) ?_
    rintro e w' ⟨rfl, rfl⟩
    exact ⟨rfl, by rw [List.mergeSort_nil]; exact h, ⟨rfl, rfl, rfl, Nat.le_refl _, fun _ _ _ => rfl⟩⟩
  · rw [Nat.mul_one] at h3 h4
    refine Calls.mono (Tryz.slices_Sort_int g 0 cap l w (int_holds hb h4) (Array.getElem?_eq_some_iff.1 hb).1 (by omega)) ?_
    rintro e w' ⟨rfl, m, os, rfl⟩
    have hg := put_grown w g m (l.mergeSort fun x y => decide (x ≤ y)).toArray os
    have hlen : (l.mergeSort fun x y => decide (x ≤ y)).length = l.length := List.length_mergeSort l
    refine ⟨rfl, ⟨by simp [icells], .inr ⟨g, cap, putCells (Value.int .i64) 0 (l.mergeSort fun x y => decide (x ≤ y)).toArray cur, rfl, hlo, ?_, h1, h2, ?_, ?_⟩⟩, hg⟩
    · rw [heap_grow_old _ _ (by simpa [putRow, mapBlock, Sort.ahead] using (Array.getElem?_eq_some_iff.1 hb).1)]
      exact put_block hb
    · simp [putCells, h3]
    · rw [Nat.mul_one, ← hlen, put_take (Nat.le_refl _) (by omega), List.take_length]
theorem icompI (lo : Nat) (v : Value) (l : List Int) (w : World) (h : w.ownsRow lo 3 1 v l.length (icells l)) (hn : l.length ≤ 16777216) :
    Calls Tryz.prog 153 #[v] w fun e w' => ∃ v', e = .returned v' ∧ w'.ownsRow lo 3 1 v' (compact l).length (icells (compact l)) ∧ w.grownBy w' v.ownBlock := by
  have hown := h
  rcases h.2 with ⟨rfl, h0⟩ | ⟨g, cap, cur, rfl, hlo, hb, h1, h2, h3, h4⟩
  · have hl : l = [] := List.eq_nil_of_length_eq_zero h0
    subst hl
    refine Calls.mono (Tryz.slices_Compact_int_empty none 0 w) ?_
    rintro e w' ⟨rfl, rfl⟩
    exact ⟨_, rfl, h, ⟨rfl, rfl, rfl, Nat.le_refl _, fun _ _ _ => rfl⟩⟩
  · rw [Nat.mul_one] at h3 h4
    refine Calls.mono (Tryz.slices_Compact_int g 0 cap l w (int_holds hb h4) (by omega) h1) ?_
    rintro e w' ⟨rfl, m, rfl⟩
    have hc := compact_length_le l
    have hg := put_grown w g m (compact l ++ List.replicate (l.length - (compact l).length) 0).toArray #[]
    rw [grow_none] at hg
    have hlen : (compact l ++ List.replicate (l.length - (compact l).length) 0).length = l.length := by simp; omega
    refine ⟨_, rfl, ⟨by simp [icells], .inr ⟨g, cap, _, rfl, hlo, put_block hb, by omega, h2, by simp [putCells, h3], ?_⟩⟩, hg⟩
    rw [Nat.mul_one, put_take (by omega) (by omega), List.take_left' rfl]
theorem mem_compact {l : List Int} (x : Int) : x ∈ compact l ↔ x ∈ l := by
  unfold compact compactUpTo
  constructor
  · intro h
    obtain ⟨j, hj, rfl⟩ := List.mem_map.1 h
    have hj2 := List.mem_range.1 (List.mem_filter.1 hj).1
    rw [getElem!_pos _ j (by simpa using hj2)]
    simp
  · intro h
    have : ∀ n j : Nat, j ≤ n → l[j]? = some x → x ∈ ((List.range l.length).filter (keeps l.toArray)).map (l.toArray[·]!) := by
      intro n
      induction n with
      | zero =>
        intro j hj hx
        have e : j = 0 := by omega
        subst e
        have hl := (List.getElem?_eq_some_iff.1 hx).1
        refine List.mem_map.2 ⟨0, List.mem_filter.2 ⟨List.mem_range.2 hl, keeps_lt_one _ 0 (by omega)⟩, ?_⟩
        rw [getElem!_pos _ 0 (by simpa using hl)]
        simpa using (List.getElem?_eq_some_iff.1 hx).2
      | succ n ih =>
        intro j hj hx
        have hl := (List.getElem?_eq_some_iff.1 hx).1
        have hv : l.toArray[j]! = x := by
          rw [getElem!_pos _ j (by simpa using hl)]
          simpa using (List.getElem?_eq_some_iff.1 hx).2
        by_cases h0 : j = 0
        · exact ih j (by omega) hx
        · by_cases hk : l.toArray[j]! = l.toArray[j - 1]!
          · refine ih (j - 1) (by omega) ?_
            rw [List.getElem?_eq_getElem (by omega)]
            rw [hv, getElem!_pos _ (j - 1) (by simp; omega)] at hk
            rw [hk]
            simp
          · exact List.mem_map.2 ⟨j, List.mem_filter.2 ⟨List.mem_range.2 hl, keeps_pos hk⟩, hv⟩
    obtain ⟨j, hj⟩ := List.getElem?_of_mem h
    exact this j j (Nat.le_refl _) hj
theorem asc_compact {l : List Int} (h : l.Pairwise (fun x y => x ≤ y)) : (compact l).Pairwise (fun x y => x < y) := by
  unfold compact compactUpTo
  rw [List.pairwise_map]
  have hm : ∀ i j, i ≤ j → j < l.length → l.toArray[i]! ≤ l.toArray[j]! := by
    intro i j hij hj
    rw [getElem!_pos _ i (by simp; omega), getElem!_pos _ j (by simpa using hj)]
    by_cases e : i = j
    · subst e; exact Int.le_refl _
    · have := List.pairwise_iff_getElem.1 h i j (by omega) hj (by omega)
      simpa using this
  refine List.Pairwise.imp_of_mem ?_ ((List.pairwise_lt_range (n := l.length)).filter (keeps l.toArray))
  intro i j hi hj hij
  obtain ⟨j1, j2⟩ := List.mem_filter.1 hj
  have hjl := List.mem_range.1 j1
  have a := hm i (j - 1) (by omega) (by omega)
  have b := hm (j - 1) j (by omega) hjl
  simp only [keeps, decide_eq_true_eq] at j2
  rcases j2 with e | e
  · omega
  · omega
theorem live_sorted (s : Sto) : compact ((chunksS s).mergeSort fun x y => decide (x ≤ y)) = liveS s := by
  refine live_of (asc_compact ?_) (fun y => ?_)
  · have := List.pairwise_mergeSort (le := fun x y : Int => decide (x ≤ y)) (by intro a b c h1 h2; simp at *; omega) (by intro a b; simp; omega) (chunksS s)
    exact this.imp (fun {a b} h => by simpa using h)
  · rw [mem_compact]
    exact (List.mergeSort_perm _ _).mem_iff
set_option maxHeartbeats 1000000 in
set_option maxRecDepth 100000 in
theorem ilive : LiveC 126 := by
  rintro v s w ⟨va, vl, vc, ad, len, cap, rs, rfl, hks, hvl, hl, hll, hvc, h, hk⟩
  obtain ⟨vs, kns, nx⟩ := s
  simp only at hks h ⊢
  subst hks
  have B0 : Hid (Below w.heap.size w (w.alloc (.cells #[.slice va vl vc, .slice ad len cap, .int .i64 nx] 45))) := (Below.refl _ _).alloc (Nat.le_refl _) _
  have CC := hide (ichunksOf va vl vc ad len cap nx vs rs (w.alloc (.cells #[.slice va vl vc, .slice ad len cap, .int .i64 nx] 45)) hvl hl (h.below B0.out) (hk.below B0.out))
  unfold SBox at CC
  have HN : Hid ((chunksS ⟨vs, rs.map ktell, nx⟩).length ≤ 16777216) := by
    show _ ≤ _
    refine Nat.le_trans (List.length_filter_le _ _) ?_
    have e : ∀ l : List (Int × Int), (l.flatMap (fun v => allT (rs.map ktell) v.2)).length = 16 * l.length := by
      intro l
      induction l with
      | nil => rfl
      | cons v l ih => rw [List.flatMap_cons, List.length_append, ih, allT_len, List.length_cons]; omega
    show (vs.flatMap _).length ≤ _
    rw [e]
    have := h.1
    omega
  have HR := hide (live_sorted ⟨vs, rs.map ktell, nx⟩)
  obtain ⟨L, hL⟩ : ∃ L, chunksS ⟨vs, rs.map ktell, nx⟩ = L := ⟨_, rfl⟩
  rw [hL] at CC HN HR
  rw [← HR.out]
  clear h hk hll hvc hL HR
  have HM : Hid ((L.mergeSort fun x y => decide (x ≤ y)).length = L.length) := List.length_mergeSort L
  obtain ⟨M, hM⟩ : ∃ M, (L.mergeSort fun x y => decide (x ≤ y)) = M := ⟨_, rfl⟩
  have HME := hide hM
  rw [hM] at HM ⊢
  clear hM
  unfold SBox
  go_enter Tryz.func126, Tryz.ntmps126
  go_wp2_with fail
  refine CC.out.mono ?_
  rintro e w1 ⟨cv, rfl, co, b1⟩
  have BE := hide (B0.out.trans (b1.mono B0.out.size))
  have HLO : Hid (w.heap.size ≤ (w.alloc (.cells #[.slice va vl vc, .slice ad len cap, .int .i64 nx] 45)).heap.size) := B0.out.size
  have CS := hide (isortI _ cv L w1 co HN.out)
  rw [HME.out] at CS
  have CO := hide co
  clear co b1 CC
  go_wp2_with fail
  refine CS.out.mono ?_
  rintro e w2 ⟨rfl, o2, g2⟩
  rw [← HM.out] at o2
  have CP := hide (icompI _ cv M w2 o2 (by rw [HM.out]; exact HN.out))
  have BE2 := hide (BE.out.grown g2 BE.out.size (fun q hq => by have := (CO.out.lt q hq).1; have := HLO.out; omega))
  have O2 := hide o2
  clear o2 g2 CS
  go_wp2_with fail
  refine CP.out.mono ?_
  rintro e w3 ⟨v3, rfl, o3, g3⟩
  have FIN : Hid (w3.ownsRow w.heap.size 3 1 v3 (compact M).length (icells (compact M)) ∧ Below w.heap.size w w3) := ⟨own_lower o3 HLO.out, BE2.out.grown g3 BE2.out.size (fun q hq => by have := (O2.out.lt q hq).1; have := HLO.out; omega)⟩
  clear o3 g3 CP
  go_wp2
  go_ret
  exact ⟨_, rfl, FIN.out.1, FIN.out.2⟩
end Go.Proofs.YtfmnaidhfgmemaaGreatDoor

namespace Go.Proofs.YtfmnaidhfgmemaaGreatDoor
open Go.RowKit
open Words
theorem filt_take {L : List Int} {p : Int → Bool} {k : Nat} {y : Int} (h : L[k]? = some y) : (L.take (k + 1)).filter p = (L.take k).filter p ++ (if p y = true then [y] else []) := by
  obtain ⟨h1, h2⟩ := List.getElem?_eq_some_iff.1 h
  rw [List.take_succ_eq_append_getElem h1, h2, List.filter_append, List.filter_cons, List.filter_nil]
set_option maxHeartbeats 1000000 in
set_option maxRecDepth 100000 in
theorem sinsI (ra : Option Addr) (n rc : Nat) (L : List Int) (x : Int) (w : World) (hn : n ≤ 100000000) (h : IRow w ra n L) :
    Calls Tryz.prog 59 #[.slice ra n rc, .int .i64 x] w (IOut w (insI L x)) := by
  obtain ⟨i0, hi, hz0, hz1, hz2⟩ := info_parts infoInt
  have I0 := hide hi
  have Y0 := hide hz0
  have Y1 := hide hz1
  have Y2 := hide hz2
  clear hi hz0 hz1 hz2
  have HNL := hide h.1
  have HR := hide h
  clear h
  obtain ⟨M, hM⟩ : ∃ M, insI L x = M := ⟨_, rfl⟩
  have HM := hide hM
  rw [hM]
  clear hM
  go_enter Tryz.func59, Tryz.ntmps59
  go_wp2_with fail
  have O0 : Hid ((w.alloc (.cells #[] 3)).ownsRow w.heap.size 3 1 (.slice (some ⟨w.heap.size, 0, none⟩) 0 0) ([] : List Int).length (icells [])) := World.ownsRow_made w #[] 0 (Nat.le_refl _) (by unfold maxLen; omega) (by simp)
  have BA : Hid (Below w.heap.size w (w.alloc (.cells #[] 3))) := (Below.refl _ _).alloc (Nat.le_refl _) _
  generalize w.alloc (.cells #[] 3) = wa at O0 BA ⊢
  obtain ⟨z, hz⟩ : ∃ z, w.heap.size = z := ⟨_, rfl⟩
  rw [hz] at O0 ⊢
  have HZW := hide hz
  clear hz
  go_loopw [5, 6] (fun ov kv W => ∃ (k : Nat) (l : List Int), k ≤ n ∧ kv = .int .i64 k ∧ l.length ≤ k ∧ Hid (l = (L.take k).filter (fun y => decide (y < x))) ∧ Hid (W.ownsRow w.heap.size 3 1 ov l.length (icells l) ∧ Below w.heap.size w W)) (fun _ kv _ => n - (intOf kv).toNat)
  case atStart => exact ⟨0, [], Nat.zero_le _, rfl, Nat.zero_le _, by show _ = _; simp, by rw [HZW.out]; exact O0.out, BA.out⟩
  case round =>
    obtain ⟨k, l, hk, rfl, hlk, HL, HO⟩ := hrel
    by_cases hlt : (k : Int) < n
    · have hy := List.getElem?_eq_getElem (show k < L.length by have := HNL.out; omega)
      generalize L[k]'(by have := HNL.out; omega) = y at hy
      obtain ⟨b, off, e, hb, c0⟩ := (HR.out.below HO.out.2).at hy
      subst e
      have k0 : (0 : Int) ≤ k := by omega
      have HF := hide (filt_take (p := fun y => decide (y < x)) hy)
      clear hy
      by_cases hyx : y < x
      · have HL2 : Hid (l ++ [y] = (L.take (k + 1)).filter (fun y => decide (y < x))) := by
          show _ = _
          rw [HF.out, if_pos (by simpa using hyx), HL.out]
        have OW := hide HO.out.1
        have B1 := hide HO.out.2
        have hw := HO.out.2.size
        clear HO
        have BN : Hid (Below wr.heap.size wr (wr.alloc (.cells #[.int .i64 y] 3))) := (Below.refl _ _).alloc (Nat.le_refl _) _
        have OWN := hide (own_below OW.out BN.out)
        go_wp2_with (at_builtin; refine wpList_append_own _ rfl _ _ 54 rfl w.heap.size 3 i0 (.int .i64 0) 1 8 Tryz.underlying54 I0.out Y0.out Y1.out Y2.out rfl (by decide) _ _ _ rfl OWN.out ⟨wr.heap.size, 0, none⟩ 1 1 [Value.int .i64 y] rfl rfl (one_cell _ _ _) (one_i64 _) ?c1 ?c2 ?c3 ?_)
        case c1 => unfold maxLen; omega
        case c2 => omega
        case c3 => have := BN.out.size; omega
        intro u' z2 ho hg _
        rw [icells_snoc] at ho
        have ho2 : z2.ownsRow w.heap.size 3 1 u' (l ++ [y]).length (icells (l ++ [y])) := by rw [List.length_append]; exact ho
        have ON : Hid (z2.ownsRow w.heap.size 3 1 u' (l ++ [y]).length (icells (l ++ [y])) ∧ Below w.heap.size w z2) := ⟨ho2, (B1.out.trans (BN.out.mono hw)).grown hg (by have := BN.out.size; omega) (fun q hq => (OWN.out.lt q hq).1)⟩
        have hl3 : (l ++ [y]).length ≤ k + 1 := by simp; omega
        generalize l ++ [y] = l2 at HL2 ON hl3
        clear ho ho2 hg OWN OW BN B1
        go_wp2
        go_roundw
        case rel => exact ⟨k + 1, l2, by omega, by go_num, hl3, HL2, ON⟩
        case measure => simp [intOf]; omega
      · have HL2 : Hid (l = (L.take (k + 1)).filter (fun y => decide (y < x))) := by
          show _ = _
          rw [HF.out, if_neg (by simpa using hyx), List.append_nil]
          exact HL.out
        go_wp2
        go_roundw
        case rel => exact ⟨k + 1, l, by omega, by go_num, by omega, HL2, HO⟩
        case measure => simp [intOf]; omega
    · have EL : Hid (l = L.filter (fun y => decide (y < x))) := by
        show _ = _
        rw [HL.out, List.take_of_length_le (by have := HNL.out; omega)]
      have hl1 : l.length ≤ n := by omega
      clear HL
      by_cases hx : (0 : Int) < x
      · have HL2 : Hid (l ++ [x] = L.filter (fun y => decide (y < x)) ++ (if 0 < x then [x] else [])) := by
          show _ = _
          rw [EL.out, if_pos hx]
        have OW := hide HO.out.1
        have B1 := hide HO.out.2
        have hw := HO.out.2.size
        clear HO
        have BN : Hid (Below wr.heap.size wr (wr.alloc (.cells #[.int .i64 x] 3))) := (Below.refl _ _).alloc (Nat.le_refl _) _
        have OWN := hide (own_below OW.out BN.out)
        go_wp2_with (at_builtin; refine wpList_append_own _ rfl _ _ 54 rfl w.heap.size 3 i0 (.int .i64 0) 1 8 Tryz.underlying54 I0.out Y0.out Y1.out Y2.out rfl (by decide) _ _ _ rfl OWN.out ⟨wr.heap.size, 0, none⟩ 1 1 [Value.int .i64 x] rfl rfl (one_cell _ _ _) (one_i64 _) ?c1 ?c2 ?c3 ?_)
        case c1 => unfold maxLen; omega
        case c2 => omega
        case c3 => have := BN.out.size; omega
        intro u' z2 ho hg _
        rw [icells_snoc] at ho
        have ho2 : z2.ownsRow w.heap.size 3 1 u' (l ++ [x]).length (icells (l ++ [x])) := by rw [List.length_append]; exact ho
        have ON : Hid (z2.ownsRow w.heap.size 3 1 u' (l ++ [x]).length (icells (l ++ [x])) ∧ Below w.heap.size w z2) := ⟨ho2, (B1.out.trans (BN.out.mono hw)).grown hg (by have := BN.out.size; omega) (fun q hq => (OWN.out.lt q hq).1)⟩
        have hl3 : (l ++ [x]).length ≤ n + 1 := by simp; omega
        generalize l ++ [x] = l2 at HL2 ON hl3
        clear ho ho2 hg OWN OW BN B1
        clear EL
        go_wp2
        obtain ⟨A0, hA⟩ : ∃ A0, L.filter (fun y => decide (y < x)) ++ (if 0 < x then [x] else []) = A0 := ⟨_, rfl⟩
        rw [hA] at HL2
        have HA := hide hA
        clear hA
        go_loopw [5, 7] (fun ov kv W => ∃ (k : Nat) (l : List Int), k ≤ n ∧ kv = .int .i64 k ∧ l.length ≤ n + 1 + k ∧ Hid (l = A0 ++ (L.take k).filter (fun y => decide (x < y))) ∧ Hid (W.ownsRow w.heap.size 3 1 ov l.length (icells l) ∧ Below w.heap.size w W)) (fun _ kv _ => n - (intOf kv).toNat)
        case atStart => exact ⟨0, l2, Nat.zero_le _, rfl, by omega, (by show _ = _; rw [HL2.out]; simp), ON⟩
        case round =>
          obtain ⟨k, l, hk, rfl, hlk, HL, HO⟩ := hrel
          by_cases hlt : (k : Int) < n
          · have hy := List.getElem?_eq_getElem (show k < L.length by have := HNL.out; omega)
            generalize L[k]'(by have := HNL.out; omega) = y at hy
            obtain ⟨b, off, e, hb, c0⟩ := (HR.out.below HO.out.2).at hy
            subst e
            have k0 : (0 : Int) ≤ k := by omega
            have HF := hide (filt_take (p := fun y => decide (x < y)) hy)
            clear hy
            by_cases hyx : x < y
            · have HL2 : Hid (l ++ [y] = A0 ++ (L.take (k + 1)).filter (fun y => decide (x < y))) := by
                show _ = _
                rw [HF.out, if_pos (by simpa using hyx), HL.out]; rw [List.append_assoc]
              have OW := hide HO.out.1
              have B1 := hide HO.out.2
              have hw := HO.out.2.size
              clear HO
              have BN : Hid (Below wr.heap.size wr (wr.alloc (.cells #[.int .i64 y] 3))) := (Below.refl _ _).alloc (Nat.le_refl _) _
              have OWN := hide (own_below OW.out BN.out)
              go_wp2_with (at_builtin; refine wpList_append_own _ rfl _ _ 54 rfl w.heap.size 3 i0 (.int .i64 0) 1 8 Tryz.underlying54 I0.out Y0.out Y1.out Y2.out rfl (by decide) _ _ _ rfl OWN.out ⟨wr.heap.size, 0, none⟩ 1 1 [Value.int .i64 y] rfl rfl (one_cell _ _ _) (one_i64 _) ?c1 ?c2 ?c3 ?_)
              case c1 => unfold maxLen; omega
              case c2 => omega
              case c3 => have := BN.out.size; omega
              intro u' z2 ho hg _
              rw [icells_snoc] at ho
              have ho2 : z2.ownsRow w.heap.size 3 1 u' (l ++ [y]).length (icells (l ++ [y])) := by rw [List.length_append]; exact ho
              have ON : Hid (z2.ownsRow w.heap.size 3 1 u' (l ++ [y]).length (icells (l ++ [y])) ∧ Below w.heap.size w z2) := ⟨ho2, (B1.out.trans (BN.out.mono hw)).grown hg (by have := BN.out.size; omega) (fun q hq => (OWN.out.lt q hq).1)⟩
              have hl3 : (l ++ [y]).length ≤ n + 1 + (k + 1) := by simp; omega
              generalize l ++ [y] = l2 at HL2 ON hl3
              clear ho ho2 hg OWN OW BN B1
              go_wp2
              go_roundw
              case rel => exact ⟨k + 1, l2, by omega, by go_num, hl3, HL2, ON⟩
              case measure => simp [intOf]; omega
            · have HL2 : Hid (l = A0 ++ (L.take (k + 1)).filter (fun y => decide (x < y))) := by
                show _ = _
                rw [HF.out, if_neg (by simpa using hyx), List.append_nil]
                exact HL.out
              go_wp2
              go_roundw
              case rel => exact ⟨k + 1, l, by omega, by go_num, by omega, HL2, HO⟩
              case measure => simp [intOf]; omega
          · have EL : Hid (l = A0 ++ L.filter (fun y => decide (x < y))) := by
              show _ = _
              rw [HL.out, List.take_of_length_le (by have := HNL.out; omega)]
            have EM : Hid (l = M) := by
              show _ = _
              rw [EL.out, ← HM.out, insI, ← HA.out]
            go_wp2
            go_ret
            refine ⟨_, rfl, ?_, HO.out.2⟩
            rw [← EM.out]
            exact HO.out.1
      · have HL2 : Hid (l = L.filter (fun y => decide (y < x)) ++ (if 0 < x then [x] else [])) := by
          show _ = _
          rw [if_neg hx, List.append_nil]
          exact EL.out
        have ON := hide HO.out
        have hl3 : l.length ≤ n + 1 := by omega
        clear HO EL
        go_wp2
        obtain ⟨A0, hA⟩ : ∃ A0, L.filter (fun y => decide (y < x)) ++ (if 0 < x then [x] else []) = A0 := ⟨_, rfl⟩
        rw [hA] at HL2
        have HA := hide hA
        clear hA
        go_loopw [5, 7] (fun ov kv W => ∃ (k : Nat) (l : List Int), k ≤ n ∧ kv = .int .i64 k ∧ l.length ≤ n + 1 + k ∧ Hid (l = A0 ++ (L.take k).filter (fun y => decide (x < y))) ∧ Hid (W.ownsRow w.heap.size 3 1 ov l.length (icells l) ∧ Below w.heap.size w W)) (fun _ kv _ => n - (intOf kv).toNat)
        case atStart => exact ⟨0, l, Nat.zero_le _, rfl, by omega, (by show _ = _; rw [HL2.out]; simp), ON⟩
        case round =>
          obtain ⟨k, l, hk, rfl, hlk, HL, HO⟩ := hrel
          by_cases hlt : (k : Int) < n
          · have hy := List.getElem?_eq_getElem (show k < L.length by have := HNL.out; omega)
            generalize L[k]'(by have := HNL.out; omega) = y at hy
            obtain ⟨b, off, e, hb, c0⟩ := (HR.out.below HO.out.2).at hy
            subst e
            have k0 : (0 : Int) ≤ k := by omega
            have HF := hide (filt_take (p := fun y => decide (x < y)) hy)
            clear hy
            by_cases hyx : x < y
            · have HL2 : Hid (l ++ [y] = A0 ++ (L.take (k + 1)).filter (fun y => decide (x < y))) := by
                show _ = _
                rw [HF.out, if_pos (by simpa using hyx), HL.out]; rw [List.append_assoc]
              have OW := hide HO.out.1
              have B1 := hide HO.out.2
              have hw := HO.out.2.size
              clear HO
              have BN : Hid (Below wr.heap.size wr (wr.alloc (.cells #[.int .i64 y] 3))) := (Below.refl _ _).alloc (Nat.le_refl _) _
              have OWN := hide (own_below OW.out BN.out)
              go_wp2_with (at_builtin; refine wpList_append_own _ rfl _ _ 54 rfl w.heap.size 3 i0 (.int .i64 0) 1 8 Tryz.underlying54 I0.out Y0.out Y1.out Y2.out rfl (by decide) _ _ _ rfl OWN.out ⟨wr.heap.size, 0, none⟩ 1 1 [Value.int .i64 y] rfl rfl (one_cell _ _ _) (one_i64 _) ?c1 ?c2 ?c3 ?_)
              case c1 => unfold maxLen; omega
              case c2 => omega
              case c3 => have := BN.out.size; omega
              intro u' z2 ho hg _
              rw [icells_snoc] at ho
              have ho2 : z2.ownsRow w.heap.size 3 1 u' (l ++ [y]).length (icells (l ++ [y])) := by rw [List.length_append]; exact ho
              have ON : Hid (z2.ownsRow w.heap.size 3 1 u' (l ++ [y]).length (icells (l ++ [y])) ∧ Below w.heap.size w z2) := ⟨ho2, (B1.out.trans (BN.out.mono hw)).grown hg (by have := BN.out.size; omega) (fun q hq => (OWN.out.lt q hq).1)⟩
              have hl3 : (l ++ [y]).length ≤ n + 1 + (k + 1) := by simp; omega
              generalize l ++ [y] = l2 at HL2 ON hl3
              clear ho ho2 hg OWN OW BN B1
              go_wp2
              go_roundw
              case rel => exact ⟨k + 1, l2, by omega, by go_num, hl3, HL2, ON⟩
              case measure => simp [intOf]; omega
            · have HL2 : Hid (l = A0 ++ (L.take (k + 1)).filter (fun y => decide (x < y))) := by
                show _ = _
                rw [HF.out, if_neg (by simpa using hyx), List.append_nil]
                exact HL.out
              go_wp2
              go_roundw
              case rel => exact ⟨k + 1, l, by omega, by go_num, by omega, HL2, HO⟩
              case measure => simp [intOf]; omega
          · have EL : Hid (l = A0 ++ L.filter (fun y => decide (x < y))) := by
              show _ = _
              rw [HL.out, List.take_of_length_le (by have := HNL.out; omega)]
            have EM : Hid (l = M) := by
              show _ = _
              rw [EL.out, ← HM.out, insI, ← HA.out]
            go_wp2
            go_ret
            refine ⟨_, rfl, ?_, HO.out.2⟩
            rw [← EM.out]
            exact HO.out.1
end Go.Proofs.YtfmnaidhfgmemaaGreatDoor
