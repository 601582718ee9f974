/-
  The walks of the law's own helpers over rows of tokens: equal, marked, held.
-/
import Derived.Test.YtaolinlginloaaaGRow
import Derived.Test.YtaolinlginloaaaMarkTx
namespace Go.Proofs.Ytaolinlginloaaa
open Go.RowKit
open Words
open Go.Lib (decDigits)

set_option maxHeartbeats 400000 in
set_option maxRecDepth 100000 in
theorem eqTok_any (a b : Int) (t : ByteArray) (w : World) :
    Calls Try.prog 48 #[.agg #[.int .i64 a, .int .i64 b, .string t], .agg #[.int .i64 a, .int .i64 b, .string t]] w fun e w' => e = .returned (.bool true) ∧ Below w.heap.size w w' := by
  have e1 : (a != a) = false := by simp
  have e2 : (b != b) = false := by simp
  go_enter Try.func48, Try.ntmps48
  go_wp2
  go_ret
  exact ⟨rfl, ((Below.refl _ _).alloc (Nat.le_refl _) _).alloc (by simp) _⟩

set_option maxHeartbeats 400000 in
set_option maxRecDepth 100000 in
theorem eqTS_any (a b : Value) (ls : List (Int × Int × ByteArray)) (B1 B2 : Nat) (w : World) (hl : ls.length ≤ 1048576) (ha : w.ownsRow B1 31 3 a ls.length (gcells ls)) (hb : w.ownsRow B2 31 3 b ls.length (gcells ls)) :
    Calls Try.prog 24 #[a, b] w fun e w' => e = .returned (.bool true) ∧ Below w.heap.size w w' := by
  obtain ⟨ad, capa, rfl, a1, a2, a3⟩ := row_form3 ha
  obtain ⟨bd, capb, rfl, b1, b2, b3⟩ := row_form3 hb
  unfold maxLen at a2 b2
  have A3 := hide a3
  have B3 := hide b3
  have HA := hide ha
  have HB := hide hb
  clear a3 b3 ha hb
  go_enter Try.func24, Try.ntmps24
  go_wp2
  go_loopw [5] (fun iv wr => ∃ k : Nat, k ≤ ls.length ∧ iv = .int .i64 k ∧ Hid (Below w.heap.size w wr)) (fun iv _ => ls.length - (intOf iv).toNat)
  case atStart => exact ⟨0, Nat.zero_le _, rfl, Below.refl _ _⟩
  case round =>
    obtain ⟨k, hk, rfl, HW⟩ := hrel
    by_cases hlt : (k : Int) < ls.length
    · obtain ⟨ga, rfl, _, hga⟩ := A3.out (by omega)
      obtain ⟨gb, rfl, _, hgb⟩ := B3.out (by omega)
      have hkl : k < ls.length := by omega
      obtain ⟨x, y, t, ht⟩ : ∃ x y t, ls[k]? = some (x, y, t) := ⟨ls[k].1, ls[k].2.1, ls[k].2.2, List.getElem?_eq_getElem hkl⟩
      obtain ⟨c1, c2, c3⟩ := gown_cells (own_below HA.out HW.out) ht
      obtain ⟨d1, d2, d3⟩ := gown_cells (own_below HB.out HW.out) ht
      simp only at c1 c2 c3 d1 d2 d3
      have k0 : (0 : Int) ≤ k := by omega
      have hga2 : ga < wr.heap.size := Nat.lt_of_lt_of_le hga HW.out.size
      have hgb2 : gb < wr.heap.size := Nat.lt_of_lt_of_le hgb HW.out.size
      clear ht
      go_wp2
      go_region_held3 (fun w' => w'.cell? ⟨ga, k * 3, none⟩ = some (.int .i64 x) ∧ w'.cell? ⟨ga, k * 3 + 1, none⟩ = some (.int .i64 y) ∧ w'.cell? ⟨ga, k * 3 + 2, none⟩ = some (.string t) ∧ w'.cell? ⟨gb, k * 3, none⟩ = some (.int .i64 x) ∧ w'.cell? ⟨gb, k * 3 + 1, none⟩ = some (.int .i64 y) ∧ w'.cell? ⟨gb, k * 3 + 2, none⟩ = some (.string t)) (first | go_keep | exact ⟨(hb1.cell (show ga < wr.heap.size from hga2)).trans c1, (hb1.cell (show ga < wr.heap.size from hga2)).trans c2, (hb1.cell (show ga < wr.heap.size from hga2)).trans c3, (hb1.cell (show gb < wr.heap.size from hgb2)).trans d1, (hb1.cell (show gb < wr.heap.size from hgb2)).trans d2, (hb1.cell (show gb < wr.heap.size from hgb2)).trans d3⟩) ((go_at_call 48; refine (eqTok_any x y t _).mono ?_; rintro e w1 ⟨rfl, hb1⟩))
      have HW2 := hide (HW.out.drew.trans (hb1.mono (by have := HW.out.size; exact this)))
      clear hb1 HW c1 c2 c3 d1 d2 d3
      go_wp2
      go_roundw
      case rel => exact ⟨k + 1, by omega, by go_num, HW2⟩
      case measure => simp [intOf]; omega
    · go_wp2
      go_ret
      exact ⟨rfl, HW.out⟩

/-- The marked tokens from 1 on. -/
def gmark (j : Nat) : Int × Int × ByteArray := ((j * 3 + 1 : Nat), (j * 3 + 2 : Nat), ⟨(markL (j * 3 + 3)).toArray⟩)
def gmarks (j : Nat) : List (Int × Int × ByteArray) := (List.range j).map gmark
theorem gmarks_len (j : Nat) : (gmarks j).length = j := by simp [gmarks]
theorem gmarks_succ (j : Nat) : gmarks (j + 1) = gmarks j ++ [gmark j] := by simp [gmarks, List.range_succ]
theorem gmarks_at (n j : Nat) (h : j < n) : (gmarks n)[j]? = some (gmark j) := by simp [gmarks, h]
theorem gcells_set3 (ls : List (Int × Int × ByteArray)) (j : Nat) (hj : j < ls.length) :
    (((gcells (gmarks j ++ ls.drop j)).set (j * 3) (.int .i64 ((j * 3 + 1 : Nat) : Int))).set (j * 3 + 1) (.int .i64 ((j * 3 + 2 : Nat) : Int))).set (j * 3 + 2) (.string ⟨(markL (j * 3 + 3)).toArray⟩) = gcells (gmarks (j + 1) ++ ls.drop (j + 1)) := by
  have hm : (gcells (gmarks j)).length = j * 3 := by rw [gcells_len, gmarks_len]
  have e1 : ∀ r, gcells (ls[j] :: r) = [.int .i64 ls[j].1, .int .i64 ls[j].2.1, .string ls[j].2.2] ++ gcells r := fun r => rfl
  have e2 : gcells [gmark j] = [.int .i64 ((j * 3 + 1 : Nat) : Int), .int .i64 ((j * 3 + 2 : Nat) : Int), .string ⟨(markL (j * 3 + 3)).toArray⟩] := rfl
  rw [gmarks_succ, List.drop_eq_getElem_cons hj, gcells_app, gcells_app, gcells_app, e1, e2, List.set_append_right _ _ (by omega), List.set_append_right _ _ (by omega), List.set_append_right _ _ (by omega), hm, Nat.sub_self, Nat.add_sub_cancel_left, Nat.add_sub_cancel_left, List.append_assoc]
  rfl

set_option maxHeartbeats 400000 in
set_option maxRecDepth 100000 in
theorem markTS_any (a : Value) (ls : List (Int × Int × ByteArray)) (B : Nat) (w : World) (hl : ls.length ≤ 9999) (ha : w.ownsRow B 31 3 a ls.length (gcells ls)) :
    Calls Try.prog 26 #[a, .int .i64 1] w fun e w' => e = .returned (.int .i64 ((ls.length : Int) * 3 + 1)) ∧ w'.ownsRow B 31 3 a ls.length (gcells (gmarks ls.length)) ∧ Below B w w' := by
  obtain ⟨ad, capa, rfl, a1, a2, a3⟩ := row_form3 ha
  unfold maxLen at a2
  have A3 := hide a3
  have HA := hide ha
  clear a3 ha
  go_enter Try.func26, Try.ntmps26
  go_wp2
  go_loopw [1, 5] (fun kv iv wr => ∃ j : Nat, j ≤ ls.length ∧ iv = .int .i64 j ∧ kv = .int .i64 ((j : Int) * 3 + 1) ∧ Hid (wr.ownsRow B 31 3 (.slice ad ls.length capa) ls.length (gcells (gmarks j ++ ls.drop j))) ∧ Hid (Below B w wr)) (fun _ iv _ => ls.length - (intOf iv).toNat)
  case atStart => exact ⟨0, Nat.zero_le _, rfl, rfl, HA, Below.refl _ _⟩
  case round =>
    obtain ⟨j, hj, rfl, rfl, HO, HW⟩ := hrel
    have hsz := HW.out.size
    by_cases hlt : (j : Int) < ls.length
    · obtain ⟨ga, rfl, g1, g2⟩ := A3.out (by omega)
      have hjl : j < ls.length := by omega
      have hlj : (gmarks j ++ ls.drop j)[j]? = some ls[j] := by
        rw [List.getElem?_append_right (by rw [gmarks_len]; omega), gmarks_len, Nat.sub_self, List.getElem?_drop, Nat.add_zero, List.getElem?_eq_getElem hjl]
      obtain ⟨c1, c2, c3⟩ := gown_cells HO.out hlj
      have f1 := HO.out.frozenAt (j * 3)
      have f2 := HO.out.frozenAt (j * 3 + 1)
      have e1 : ((j : Int) * 3 + 1) = ((j * 3 + 1 : Nat) : Int) := by omega
      have o1 := own_set HO.out rfl (j * 3) (.int .i64 ((j * 3 + 1 : Nat) : Int))
      have o2 := own_set o1 rfl (j * 3 + 1) (.int .i64 ((j * 3 + 2 : Nat) : Int))
      have b2 := (HW.out.setCell (p := ⟨ga, j * 3, none⟩) g1 (.int .i64 ((j * 3 + 1 : Nat) : Int))).setCell (p := ⟨ga, j * 3 + 1, none⟩) g1 (.int .i64 ((j * 3 + 2 : Nat) : Int))
      obtain ⟨p, hp⟩ : ∃ p : Int, p = (j : Int) * 3 + 1 := ⟨_, rfl⟩
      obtain ⟨q, hq⟩ : ∃ q : Int, q = (j : Int) * 3 + 2 := ⟨_, rfl⟩
      rw [show ((j * 3 + 1 : Nat) : Int) = p by omega, show ((j * 3 + 2 : Nat) : Int) = q by omega] at o2 b2
      have hpq : p + 1 = q := by omega
      rw [← hp]
      have O2 := hide o2
      have B2 := hide b2
      have HP := hide hp
      have HQ := hide hq
      have hpb : 0 < p ∧ p < 100000 := by omega
      obtain ⟨p0, p1⟩ := hpb
      have j0 : (0 : Int) ≤ j := by omega
      clear hlj o1 o2 b2 hp hq HO e1
      go_wp2_with fail
      refine (markText_int (q + 1) (j * 3 + 3) (by have := HQ.out; omega) _ (by omega) (by omega)).mono ?_
      rintro e w1 ⟨rfl, hb⟩
      have o3 := own_below O2.out hb
      have hz : ∃ u, w1.cell? ⟨ga, j * 3 + 2, none⟩ = some u := by
        have hz1 : j * 3 + 2 < (((gcells (gmarks j ++ ls.drop j)).set (j * 3) (Value.int .i64 p)).set (j * 3 + 1) (Value.int .i64 q)).length := by
          rw [List.length_set, List.length_set, gcells_len, List.length_append, gmarks_len, List.length_drop]
          omega
        have := o3.cells (g := ga) rfl (j * 3 + 2) _ (List.getElem?_eq_getElem hz1)
        rw [addr_at] at this
        exact ⟨_, this⟩
      obtain ⟨u, hu⟩ := hz
      have f3 := o3.frozenAt (j * 3 + 2)
      have o4 := own_set o3 rfl (j * 3 + 2) (.string ⟨(markL (j * 3 + 3)).toArray⟩)
      have b4 := (B2.out.trans (hb.mono (by have := B2.out.size; simp at *; omega))).setCell (p := ⟨ga, j * 3 + 2, none⟩) g1 (.string ⟨(markL (j * 3 + 3)).toArray⟩)
      have hp := HP.out
      have hq := HQ.out
      rw [show p = ((j * 3 + 1 : Nat) : Int) by omega, show q = ((j * 3 + 2 : Nat) : Int) by omega, gcells_set3 ls j hjl] at o4
      obtain ⟨t, ht⟩ : ∃ t, markL (j * 3 + 3) = t := ⟨_, rfl⟩
      rw [ht] at o4 b4
      rw [ht]
      have O4 := hide o4
      have B4 := hide b4
      have hq2 : Hid (q + 1 + 1 = ((j + 1 : Nat) : Int) * 3 + 1) := by show _ = _; omega
      have q0 : 0 < q := by omega
      have q1 : q < 100001 := by omega
      clear ht o3 o4 b4 hb O2 B2 c1 c2 c3 f1 f2 hp hq HP HQ hpq
      go_wp2
      go_roundw
      case rel => exact ⟨j + 1, by omega, by go_num, (by rw [← hq2.out]), O4, B4⟩
      case measure => simp [intOf]; omega
    · have hje : j = ls.length := by omega
      have E : Hid ((j : Int) * 3 + 1 = (ls.length : Int) * 3 + 1) := by show _ = _; omega
      have hO := HO.out
      rw [hje, List.drop_length, List.append_nil] at hO
      have HO2 := hide hO
      clear hO hje HO
      go_wp2
      go_ret
      exact ⟨congrArg (fun x => Ending.returned (.int .i64 x)) E.out, HO2.out, HW.out⟩

set_option maxHeartbeats 400000 in
set_option maxRecDepth 100000 in
theorem heldTS_any (a : Value) (n : Nat) (B : Nat) (w : World) (hl : n ≤ 9999) (ha : w.ownsRow B 31 3 a n (gcells (gmarks n))) :
    Calls Try.prog 27 #[a, .int .i64 1] w fun e w' => e = .returned (.int .i64 ((n : Int) * 3 + 1)) ∧ Below w.heap.size w w' := by
  obtain ⟨ad, capa, rfl, a1, a2, a3⟩ := row_form3 ha
  unfold maxLen at a2
  have A3 := hide a3
  have HA := hide ha
  clear a3 ha
  go_enter Try.func27, Try.ntmps27
  go_wp2
  go_loopw [1, 5] (fun kv iv wr => ∃ j : Nat, j ≤ n ∧ iv = .int .i64 j ∧ kv = .int .i64 ((j : Int) * 3 + 1) ∧ Hid (Below w.heap.size w wr)) (fun _ iv _ => n - (intOf iv).toNat)
  case atStart => exact ⟨0, Nat.zero_le _, rfl, rfl, Below.refl _ _⟩
  case round =>
    obtain ⟨j, hj, rfl, rfl, HW⟩ := hrel
    have hsz := HW.out.size
    by_cases hlt : (j : Int) < n
    · obtain ⟨ga, rfl, g1, g2⟩ := A3.out (by omega)
      obtain ⟨c1, c2, c3⟩ := gown_cells (own_below HA.out HW.out) (gmarks_at n j (by omega))
      simp only [gmark] at c1 c2 c3
      obtain ⟨p, hp⟩ : ∃ p : Int, p = (j : Int) * 3 + 1 := ⟨_, rfl⟩
      rw [show ((j * 3 + 1 : Nat) : Int) = p by omega] at c1
      rw [show ((j * 3 + 2 : Nat) : Int) = p + 1 by omega] at c2
      rw [← hp]
      have HP := hide hp
      have hpb : 0 < p ∧ p < 100000 := by omega
      obtain ⟨p0, p1⟩ := hpb
      have e1 : (p != p) = false := by simp
      have e2 : (p + 1 != p + 1) = false := by simp
      have k0 : (0 : Int) ≤ j := by omega
      have hgw : ga < wr.heap.size := by omega
      have CM : Hid (∀ W, Calls Try.prog 50 #[.int .i64 (p + 1 + 1)] W fun e w' => e = .returned (.string ⟨(markL (j * 3 + 3)).toArray⟩) ∧ Below W.heap.size W w') := fun W => markText_int (p + 1 + 1) (j * 3 + 3) (by omega) W (by omega) (by omega)
      obtain ⟨t, ht⟩ : ∃ t, markL (j * 3 + 3) = t := ⟨_, rfl⟩
      rw [ht] at c3 CM
      have hq2 : Hid (p + 1 + 1 + 1 = ((j + 1 : Nat) : Int) * 3 + 1) := by show _ = _; omega
      clear ht hp
      go_wp2
      go_region_held3 (fun w' => w'.cell? ⟨ga, j * 3 + 2, none⟩ = some (.string ⟨t.toArray⟩)) (first | go_keep | (rw [hb.cell (show ga < wr.heap.size by exact hgw)]; exact c3)) ((go_at_call 50; (with_reducible refine Calls.mono (CM.out _) ?_); rintro e w1 ⟨rfl, hb⟩))
      have HB2 := hide (HW.out.drew.trans (hb.mono hsz))
      clear hb HW c1 c2 c3 CM
      go_wp2
      go_roundw
      case rel => exact ⟨j + 1, by omega, by go_num, (by rw [← hq2.out]), HB2⟩
      case measure => simp [intOf]; omega
    · have hje : j = n := by omega
      have E : Hid ((j : Int) * 3 + 1 = (n : Int) * 3 + 1) := by show _ = _; omega
      clear hje
      go_wp2
      go_ret
      exact ⟨congrArg (fun x => Ending.returned (.int .i64 x)) E.out, HW.out⟩
end Go.Proofs.Ytaolinlginloaaa
