/-
  The walks of the law's own helpers over rows of texts: marked, held.
-/
import Derived.Test.YtiajmphmliefgakDoorMarks
namespace Go.Proofs.YtiajmphmliefgakDoor
open Go.RowKit
open Words
open Go.Lib (decDigits)

theorem markText_int (x : Int) (w : World) (h0 : 0 < x) (h1 : x ≤ 1000000) :
    Calls Tryd.prog 21 #[.int .i64 x] w fun e w' => e = .returned (.string ⟨(markL x.toNat).toArray⟩) ∧ Below w.heap.size w w' := by
  obtain ⟨n, rfl⟩ := Int.eq_ofNat_of_zero_le (show 0 ≤ x by omega)
  simpa using markText_any n w (by omega) (by omega)

/-- The marks from 1 on. -/
def marks (j : Nat) : List (List UInt8) := (List.range j).map fun i => markL (i + 1)
theorem marks_len (j : Nat) : (marks j).length = j := by simp [marks]
theorem marks_succ (j : Nat) : marks (j + 1) = marks j ++ [markL (j + 1)] := by simp [marks, List.range_succ]
theorem marks_at (n j : Nat) (h : j < (marks n).length) : (marks n)[j] = markL (j + 1) := by simp [marks]

theorem owns_below {w w' : World} {B : Nat} {e : TypeId} {z : Nat} {v : Value} {n : Nat} {xs : List Value} (h : w.ownsRow B e z v n xs) (hb : Below w.heap.size w w') : w'.ownsRow B e z v n xs := by
  refine h.kept (row := none) ⟨hb.os, hb.tape, hb.output, hb.size, fun k hk _ => hb.block k hk⟩ ?_
  cases v.ownBlock with
  | none => exact .inl rfl
  | some g => exact .inr (by simp)

theorem scells_set (ls : List (List UInt8)) (j : Nat) (hj : j < ls.length) :
    (scells (marks j ++ ls.drop j)).set j (.string ⟨(markL (j + 1)).toArray⟩) = scells (marks (j + 1) ++ ls.drop (j + 1)) := by
  have hm := marks_len j
  rw [marks_succ, List.drop_eq_getElem_cons hj]
  unfold scells
  rw [List.map_append, List.set_append_right _ _ (by rw [List.length_map]; omega), List.length_map, hm, Nat.sub_self, List.map_cons, List.set_cons_zero, List.map_append, List.map_append, List.append_assoc]
  rfl

set_option maxHeartbeats 400000 in
set_option maxRecDepth 100000 in
theorem markS_any (a : Value) (ls : List (List UInt8)) (B : Nat) (w : World) (hl : ls.length ≤ 999999) (ha : w.ownsRow B 9 1 a ls.length (scells ls)) :
    Calls Tryd.prog 13 #[a, .int .i64 1] w fun e w' => e = .returned (.int .i64 ((ls.length : Int) + 1)) ∧ w'.ownsRow B 9 1 a ls.length (scells (marks ls.length)) ∧ Below B w w' := by
  obtain ⟨ad, capa, rfl, a1, a2, a3⟩ := row_form ha
  unfold maxLen at a2
  have A3 := hide a3
  have HA := hide ha
  clear a3 ha
  go_enter Tryd.func13, Tryd.ntmps13
  go_wp2
  go_loopw [1, 5] (fun kv iv wr => ∃ j : Nat, j ≤ ls.length ∧ iv = .int .i64 j ∧ kv = .int .i64 ((j : Int) + 1) ∧ wr.ownsRow B 9 1 (.slice ad ls.length capa) ls.length (scells (marks j ++ ls.drop j)) ∧ Below B w wr) (fun _ iv _ => ls.length - (intOf iv).toNat)
  case atStart => exact ⟨0, Nat.zero_le _, rfl, rfl, HA.out, Below.refl _ _⟩
  case round =>
    obtain ⟨j, hj, rfl, rfl, hown, hbel⟩ := hrel
    have hsz := hbel.size
    by_cases hlt : (j : Int) < ls.length
    · obtain ⟨ga, rfl, g1, g2⟩ := A3.out (by omega)
      go_wp2_with fail
      refine (markText_int _ _ (by omega) (by omega)).mono ?_
      rintro e w1 ⟨rfl, hb⟩
      rw [show ((j : Int) + 1).toNat = j + 1 by omega]
      have hown1 := owns_below hown hb
      have hz : j < (scells (marks j ++ ls.drop j)).length := by rw [scells_len, List.length_append, marks_len, List.length_drop]; omega
      have c1 : ∃ u, w1.cell? ⟨ga, j, none⟩ = some u := ⟨_, by simpa [addr_at] using hown1.cells (g := ga) rfl j _ (List.getElem?_eq_getElem hz)⟩
      obtain ⟨u, hu⟩ := c1
      have hfz := hown1.frozenAt j
      have hst := (hown1.stored j (.string ⟨(markL (j + 1)).toArray⟩)).1
      rw [scells_set ls j (by omega)] at hst
      have hb1 : Below B w (w1.setCell ⟨ga, j, none⟩ (.string ⟨(markL (j + 1)).toArray⟩)) := (hbel.trans (hb.mono (by omega))).setCell g1 _
      obtain ⟨t, ht⟩ : ∃ t, markL (j + 1) = t := ⟨_, rfl⟩
      rw [ht] at hst hb1
      rw [ht]
      have HST := hide hst
      clear ht hown hown1 hz hbel hb hst
      go_wp2
      go_roundw
      case rel => exact ⟨j + 1, by omega, by go_num, by go_num, HST.out, hb1⟩
      case measure => simp [intOf]; omega
    · have hje : j = ls.length := by omega
      rw [hje, List.drop_length, List.append_nil] at hown
      have E : Hid ((j : Int) + 1 = (ls.length : Int) + 1) := by show _ = _; omega
      have HO := hide hown
      clear hown hje
      go_wp2
      go_ret
      exact ⟨congrArg (fun x => Ending.returned (.int .i64 x)) E.out, HO.out, hbel⟩

set_option maxHeartbeats 400000 in
set_option maxRecDepth 100000 in
theorem heldS_any (a : Value) (n : Nat) (B : Nat) (w : World) (hl : n ≤ 999999) (ha : w.ownsRow B 9 1 a n (scells (marks n))) :
    Calls Tryd.prog 14 #[a, .int .i64 1] w fun e w' => e = .returned (.int .i64 ((n : Int) + 1)) ∧ Below w.heap.size w w' := by
  obtain ⟨ad, capa, rfl, a1, a2, a3⟩ := row_form ha
  unfold maxLen at a2
  have A3 := hide a3
  have HA := hide ha
  clear a3 ha
  go_enter Tryd.func14, Tryd.ntmps14
  go_wp2
  go_loopw [1, 5] (fun kv iv wr => ∃ j : Nat, j ≤ n ∧ iv = .int .i64 j ∧ kv = .int .i64 ((j : Int) + 1) ∧ Below w.heap.size w wr) (fun _ iv _ => n - (intOf iv).toNat)
  case atStart => exact ⟨0, Nat.zero_le _, rfl, rfl, Below.refl _ _⟩
  case round =>
    obtain ⟨j, hj, rfl, rfl, hbel⟩ := hrel
    have hsz := hbel.size
    by_cases hlt : (j : Int) < n
    · obtain ⟨ga, rfl, g1, g2⟩ := A3.out (by omega)
      have hown1 := owns_below HA.out hbel
      have hjm : j < (marks n).length := by rw [marks_len]; omega
      have z1 := scells_at (marks n) j hjm
      rw [marks_at n j hjm] at z1
      have c1 : wr.cell? ⟨ga, j, none⟩ = some (.string ⟨(markL (j + 1)).toArray⟩) := by simpa [addr_at] using hown1.cells (g := ga) rfl j _ z1
      have hn : (markL ((j : Int) + 1).toNat) = markL (j + 1) := by rw [show ((j : Int) + 1).toNat = j + 1 by omega]
      obtain ⟨t, ht⟩ : ∃ t, markL (j + 1) = t := ⟨_, rfl⟩
      rw [ht] at c1 hn
      have k0 : (0 : Int) ≤ j := by omega
      have hgw : ga < wr.heap.size := by omega
      clear ht hown1 hjm z1
      go_wp2
      go_region_held3 (fun w' => w'.cell? ⟨ga, j, none⟩ = some (.string ⟨t.toArray⟩)) (first | go_keep | (rw [hb.cell (show ga < wr.heap.size by exact hgw)]; exact c1)) ((go_at_call 21; refine (markText_int _ _ (by omega) (by omega)).mono ?_; rintro e w1 ⟨rfl, hb⟩; rw [hn]))
      have hb2 : Below w.heap.size w w1 := hbel.drew.trans (hb.mono hsz)
      clear hb hbel c1 hn
      go_wp2
      go_roundw
      case rel => exact ⟨j + 1, by omega, by go_num, by go_num, hb2⟩
      case measure => simp [intOf]; omega
    · have hje : j = n := by omega
      have E : Hid ((j : Int) + 1 = (n : Int) + 1) := by show _ = _; omega
      clear hje
      go_wp2
      go_ret
      exact ⟨congrArg (fun x => Ending.returned (.int .i64 x)) E.out, hbel⟩
end Go.Proofs.YtiajmphmliefgakDoor
