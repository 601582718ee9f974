/-
  Emp; SAsk; LwAk
-/
import Derived.Test.YtiicghepilbgfaaGreatDoorPk0
import Derived.Test.YtiicghepilbgfaaGreatDoorDvM6
import Derived.Test.YtiicghepilbgfaaGreatDoorDvC
import Derived.Test.YtiicghepilbgfaaGreatDoorPk30
import Derived.Test.YtiicghepilbgfaaGreatDoorPk29
import Derived.Deep.RegionHeld3
/-
  A text without bytes.
-/
namespace Go.Proofs.YtiicghepilbgfaaGreatDoor
open Go.RowKit

theorem ask_empty (t : ByteArray) : t.toList.isEmpty = decide (t.size = 0) := by
  rw [ByteArray.toList_eq]
  obtain ⟨⟨l⟩⟩ := t
  cases l with
  | nil => rfl
  | cons a l => exact (decide_eq_false (by simp [ByteArray.size])).symm
end Go.Proofs.YtiicghepilbgfaaGreatDoor

/-
  Asks in memory; spec.AskOk.
-/
namespace Go.Proofs.YtiicghepilbgfaaGreatDoor
open Go.RowKit
open Words Sums

/-- An ask as a value, and in block g. -/
def akV (q : Ak) : Value := .agg #[.int .i64 q.kind, .int .i64 q.vol, .int .i64 q.sector, .int .i64 q.of, .string q.text]
def AkAt (W : World) (g : Nat) (q : Ak) : Prop := W.heap[g]? = some (.cells #[.int .i64 q.kind, .int .i64 q.vol, .int .i64 q.sector, .int .i64 q.of, .string q.text] 28 (0, 0))
theorem AkAt.below {w w' : World} {g : Nat} {q : Ak} (h : AkAt w g q) (hb : Below w.heap.size w w') : AkAt w' g q := (hb.block _ (Array.getElem?_eq_some_iff.1 h).1).trans h
theorem AkAt.lt {w : World} {g : Nat} {q : Ak} (h : AkAt w g q) : g < w.heap.size := (Array.getElem?_eq_some_iff.1 h).1
theorem AkAt.cells {W : World} {g : Nat} {q : Ak} (h : AkAt W g q) : W.cell? ⟨g, 0, none⟩ = some (.int .i64 q.kind) ∧ W.cell? ⟨g, 1, none⟩ = some (.int .i64 q.vol) ∧ W.cell? ⟨g, 2, none⟩ = some (.int .i64 q.sector) ∧ W.cell? ⟨g, 3, none⟩ = some (.int .i64 q.of) ∧ W.cell? ⟨g, 4, none⟩ = some (.string q.text) :=
  ⟨cell_of_row _ _ 0 _ _ _ h, cell_of_row _ _ 1 _ _ _ h, cell_of_row _ _ 2 _ _ _ h, cell_of_row _ _ 3 _ _ _ h, cell_of_row _ _ 4 _ _ _ h⟩
theorem AkAt.far {W : World} {g h k : Nat} {u : Value} {q : Ak} (e : AkAt W g q) (hne : g ≠ h) : AkAt (W.setCell ⟨h, k, none⟩ u) g q := (Below.heap_setCell _ _ _ _ hne).trans e
set_option maxHeartbeats 2000000 in
set_option maxRecDepth 100000 in
theorem saskOk (q : Ak) (w : World) : Calls Tryz.prog 19 #[akV q] w fun e w' => e = .returned (.bool (akB q)) ∧ Below w.heap.size w w' := by
  obtain ⟨k, v, s, o, t⟩ := q
  unfold akV
  simp only
  have bA : Below w.heap.size w (w.alloc (.cells #[.int .i64 k, .int .i64 v, .int .i64 s, .int .i64 o, .string t] 28)) := (Below.refl _ _).alloc (Nat.le_refl _) _
  obtain ⟨c0, c1, c2, c3, c4⟩ := AkAt.cells (q := ⟨k, v, s, o, t⟩) (heap_alloc_new w (.cells #[.int .i64 k, .int .i64 v, .int .i64 s, .int .i64 o, .string t] 28))
  simp only at c0 c1 c2 c3 c4
  generalize hwa : w.alloc (.cells #[.int .i64 k, .int .i64 v, .int .i64 s, .int .i64 o, .string t] 28) = wa at bA c0 c1 c2 c3 c4
  have HB := hide bA
  obtain ⟨R, hR⟩ : ∃ R, akB ⟨k, v, s, o, t⟩ = R := ⟨_, rfl⟩
  rw [hR]
  have HR : Hid (R = if ¬ (1 ≤ k ∧ k ≤ 6) ∨ ¬ (1 ≤ v ∧ v ≤ 9) ∨ 64 < t.size ∨ (k ≠ 1 ∧ t.size ≠ 0) then false else if k = 4 then decide (s = 0 ∧ 1 ≤ o ∧ o ≤ 9) else if o ≠ 0 then false else if k = 3 ∨ k = 5 then decide (s = 0) else decide (0 ≤ s ∧ s ≤ 15)) := by show _ = _; rw [← hR]; rfl
  clear hR bA
  have HE := hide (ask_empty t)
  go_enter Tryz.func19, Tryz.ntmps19
  by_cases p1 : ¬ (1 ≤ k ∧ k ≤ 6)
  · go_wp2_with fail
    (try clear hwa)
    refine (sin_b k 1 6 false _ (.inr ⟨by omega, rfl⟩)).mono ?_
    rintro e w' ⟨rfl, rfl⟩
    go_wp2
    go_ret
    exact ⟨by rw [HR.out, if_pos (.inl p1)]; rfl, HB.out⟩
  have p1 : 1 ≤ k ∧ k ≤ 6 := Classical.not_not.1 p1
  go_wp2_with fail
  (try clear hwa)
  refine (sin_b k 1 6 true _ (.inl ⟨p1.1, p1.2, rfl⟩)).mono ?_
  rintro e w' ⟨rfl, rfl⟩
  by_cases p2 : ¬ (1 ≤ v ∧ v ≤ 9)
  · go_wp2_with fail
    (try clear hwa)
    refine (sin_b v 1 9 false _ (.inr ⟨by omega, rfl⟩)).mono ?_
    rintro e w' ⟨rfl, rfl⟩
    go_wp2
    go_ret
    exact ⟨by rw [HR.out, if_pos (.inr (.inl p2))]; rfl, HB.out⟩
  have p2 : 1 ≤ v ∧ v ≤ 9 := Classical.not_not.1 p2
  go_wp2_with fail
  (try clear hwa)
  refine (sin_b v 1 9 true _ (.inl ⟨p2.1, p2.2, rfl⟩)).mono ?_
  rintro e w' ⟨rfl, rfl⟩
  by_cases p3 : 64 < t.size
  · have p3' : (t.size : Int) > 64 := by omega
    go_wp2
    go_ret
    exact ⟨by rw [HR.out, if_pos (.inr (.inr (.inl p3)))]; rfl, HB.out⟩
  have p3' : ¬ ((t.size : Int) > 64) := by omega
  by_cases p4 : k ≠ 1 ∧ t.size ≠ 0
  · have p5 : (k != 1) = true := by simpa using p4.1
    have p6 : t.toList.isEmpty = false := by rw [HE.out]; exact decide_eq_false p4.2
    have HP := hide p4
    clear p4
    go_wp2
    go_ret
    exact ⟨by rw [HR.out, if_pos (.inr (.inr (.inr HP.out)))]; rfl, HB.out⟩
  have hno : Hid (¬ (¬ (1 ≤ k ∧ k ≤ 6) ∨ ¬ (1 ≤ v ∧ v ≤ 9) ∨ 64 < t.size ∨ (k ≠ 1 ∧ t.size ≠ 0))) := by
    rintro (h | h | h | h)
    · exact h p1
    · exact h p2
    · exact p3 h
    · exact p4 h
  have HR2 : Hid (R = if k = 4 then decide (s = 0 ∧ 1 ≤ o ∧ o ≤ 9) else if o ≠ 0 then false else if k = 3 ∨ k = 5 then decide (s = 0) else decide (0 ≤ s ∧ s ≤ 15)) := by show _ = _; rw [HR.out, if_neg hno.out]
  have hg : ((k != 1) = false) ∨ ((k != 1) = true ∧ t.toList.isEmpty = true) := by
    by_cases h1 : k = 1
    · left; simp [h1]
    · right
      refine ⟨by simpa using h1, ?_⟩
      rw [HE.out]
      exact decide_eq_true (Classical.not_not.1 fun h => p4 ⟨h1, h⟩)
  have HR := HR2
  clear HR2 hno HE p4 p3 p2 p1
  rcases hg with p4 | ⟨p4, p5⟩
  all_goals
    by_cases k4 : (k == 4) = true
    · have k4' : k = 4 := by simpa using k4
      rw [if_pos k4'] at HR
      clear k4'
      by_cases s0 : (s == 0) = true
      · have s0' : s = 0 := by simpa using s0
        have HS := hide s0'
        clear s0'
        by_cases o1 : 1 ≤ o ∧ o ≤ 9
        · have HE : Hid (R = true) := by show _ = _; rw [HR.out]; exact decide_eq_true ⟨HS.out, o1⟩
          clear HR
          go_wp2_with fail
          refine (sin_b o 1 9 true _ (.inl ⟨o1.1, o1.2, rfl⟩)).mono ?_
          rintro e w' ⟨rfl, rfl⟩
          go_wp2
          go_ret
          exact ⟨by rw [HE.out]; rfl, HB.out⟩
        · have HE : Hid (R = false) := by show _ = _; rw [HR.out]; exact decide_eq_false fun h => o1 h.2
          clear HR
          go_wp2_with fail
          refine (sin_b o 1 9 false _ (.inr ⟨by omega, rfl⟩)).mono ?_
          rintro e w' ⟨rfl, rfl⟩
          go_wp2
          go_ret
          exact ⟨by rw [HE.out]; rfl, HB.out⟩
      · have s0 : (s == 0) = false := by simpa using s0
        have HE : Hid (R = false) := by show _ = _; rw [HR.out]; exact decide_eq_false fun h => by simp [h.1] at s0
        clear HR
        go_wp2
        go_ret
        exact ⟨by rw [HE.out]; rfl, HB.out⟩
    · have k4' : ¬ k = 4 := by simpa using k4
      have k4 : (k == 4) = false := by simpa using k4
      rw [if_neg k4'] at HR
      clear k4'
      by_cases o0 : (o != 0) = true
      · have HE : Hid (R = false) := by show _ = _; rw [HR.out]; exact if_pos (by simpa using o0)
        clear HR
        go_wp2
        go_ret
        exact ⟨by rw [HE.out]; rfl, HB.out⟩
      have o0' : ¬ (o ≠ 0) := by simpa using o0
      have o0 : (o != 0) = false := by simpa using o0
      rw [if_neg o0'] at HR
      clear o0'
      by_cases k3 : (k == 3) = true
      · have HE : Hid (R = (s == 0)) := by show _ = _; rw [HR.out]; rw [if_pos (.inl (by simpa using k3))]; by_cases h : s = 0 <;> simp [h]
        clear HR
        go_wp2
        go_ret
        exact ⟨by rw [HE.out]; rfl, HB.out⟩
      have k3' : ¬ k = 3 := by simpa using k3
      have k3 : (k == 3) = false := by simpa using k3
      by_cases k5 : (k == 5) = true
      · have HE : Hid (R = (s == 0)) := by show _ = _; rw [HR.out]; rw [if_pos (.inr (by simpa using k5))]; by_cases h : s = 0 <;> simp [h]
        clear HR
        go_wp2
        go_ret
        exact ⟨by rw [HE.out]; rfl, HB.out⟩
      have k5' : ¬ k = 5 := by simpa using k5
      have k5 : (k == 5) = false := by simpa using k5
      rw [if_neg (fun h => h.elim k3' k5')] at HR
      clear k3' k5'
      by_cases s1 : 0 ≤ s ∧ s ≤ 15
      · have HE : Hid (R = true) := by show _ = _; rw [HR.out]; exact decide_eq_true s1
        clear HR
        go_wp2_with fail
        refine (sin_b s 0 15 true _ (.inl ⟨s1.1, s1.2, rfl⟩)).mono ?_
        rintro e w' ⟨rfl, rfl⟩
        go_wp2
        go_ret
        exact ⟨by rw [HE.out]; rfl, HB.out⟩
      · have HE : Hid (R = false) := by show _ = _; rw [HR.out]; exact decide_eq_false s1
        clear HR
        go_wp2_with fail
        refine (sin_b s 0 15 false _ (.inr ⟨by omega, rfl⟩)).mono ?_
        rintro e w' ⟨rfl, rfl⟩
        go_wp2
        go_ret
        exact ⟨by rw [HE.out]; rfl, HB.out⟩
end Go.Proofs.YtiicghepilbgfaaGreatDoor

/-
  The laws' own walks over an Ask: a copy, how much it holds, whether two are the same.
-/
namespace Go.Proofs.YtiicghepilbgfaaGreatDoor
open Go.RowKit

theorem infoAkz : (Tryz.prog.info? 28).map (·.size) = some 5 := by kernel_rfl
set_option maxHeartbeats 400000 in
set_option maxRecDepth 100000 in
theorem toAk_any (x0 : Int) (x1 : Int) (x2 : Int) (x3 : Int) (x4 : ByteArray) (w : World) :
    Calls Tryz.prog 20 #[.agg #[.int .i64 x0, .int .i64 x1, .int .i64 x2, .int .i64 x3, .string x4]] w fun e w' => e = .returned (.agg #[.int .i64 x0, .int .i64 x1, .int .i64 x2, .int .i64 x3, .string x4]) ∧ Below w.heap.size w w' := by
  go_enter Tryz.func20, Tryz.ntmps20
  go_wp2
  have h1 := heap_alloc_new (w.alloc (.cells #[.int .i64 x0, .int .i64 x1, .int .i64 x2, .int .i64 x3, .string x4] 23)) (.cells #[.int .i64 x0, .int .i64 x1, .int .i64 x2, .int .i64 x3, .string x4] 28)
  have hs : (w.alloc (.cells #[.int .i64 x0, .int .i64 x1, .int .i64 x2, .int .i64 x3, .string x4] 23)).heap.size = w.heap.size + 1 := by simp
  rw [hs] at h1
  have h2 := (Below.heap_alloc ((w.alloc (.cells #[.int .i64 x0, .int .i64 x1, .int .i64 x2, .int .i64 x3, .string x4] 23)).alloc (.cells #[.int .i64 x0, .int .i64 x1, .int .i64 x2, .int .i64 x3, .string x4] 28)) (.cells #[.int .i64 x0, .int .i64 x1, .int .i64 x2, .int .i64 x3, .string x4] 28) (w.heap.size + 1) (by simp)).trans h1
  exact bodyPost_ret (results_cell_row rfl _ _ (w.heap.size + 1) 28 _ (0, 0) _ rfl h2 Tryz.underlying28 rfl infoAkz) rfl ⟨rfl, (((Below.refl _ _).alloc (Nat.le_refl _) _).alloc (by simp) _).alloc (by simp; omega) _⟩
set_option maxHeartbeats 400000 in
set_option maxRecDepth 100000 in
theorem szAk_any (x0 : Int) (x1 : Int) (x2 : Int) (x3 : Int) (x4 : ByteArray) (z : Nat) (w : World) (ht : x4.size ≤ maxLen) (hz : z ≤ 1048576) :
    Calls Tryz.prog 18 #[.agg #[.int .i64 x0, .int .i64 x1, .int .i64 x2, .int .i64 x3, .string x4], .int .i64 z] w fun e w' => (∃ r : Int, e = .returned (.int .i64 r) ∧ -1 ≤ r ∧ r ≤ z ∧ (0 ≤ r → r + (x4.size : Int) ≤ z)) ∧ Below w.heap.size w w' := by
  unfold maxLen at ht
  have hw : IntKind.i64.wrap ((z : Int) - x4.size) = (z : Int) - x4.size := by rw [IntKind.wrap_i64]; omega
  by_cases h : (z : Int) - x4.size < 0
  · go_enter Tryz.func18, Tryz.ntmps18
    go_wp2
    go_ret
    exact ⟨⟨_, rfl, by omega, by omega, by omega⟩, (Below.refl _ _).alloc (Nat.le_refl _) _⟩
  · go_enter Tryz.func18, Tryz.ntmps18
    go_wp2
    go_ret
    exact ⟨⟨_, rfl, by omega, by omega, by omega⟩, (Below.refl _ _).alloc (Nat.le_refl _) _⟩
end Go.Proofs.YtiicghepilbgfaaGreatDoor
