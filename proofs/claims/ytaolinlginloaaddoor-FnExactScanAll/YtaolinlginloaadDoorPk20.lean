/-
  IPageOk; RAt
-/
import Derived.Test.YtaolinlginloaadDoorPk17
import Derived.Test.YtaolinlginloaadDoorPk0
import Derived.Test.YtaolinlginloaadDoorPgMath
import Derived.Test.YtaolinlginloaadDoorPk1
import Derived.Laws.Rows
/-
  impl.PageOk.
-/
namespace Go.Proofs.YtaolinlginloaadDoor
open Go.RowKit
open Words


def partP (k q c : Int) : Prop := k = 1 ∧ c = 1 ∧ q = 0 ∨ k = 2 ∧ 1 ≤ c ∧ c ≤ 9 ∧ 0 ≤ q ∧ q < c
def partB (k q c : Int) : Bool := decide (k = 1 ∧ c = 1 ∧ q = 0 ∨ k = 2 ∧ 1 ≤ c ∧ c ≤ 9 ∧ 0 ≤ q ∧ q < c)
theorem partB_yes {k q c : Int} (h : partP k q c) : partB k q c = true := dcY h
theorem partB_no {k q c : Int} (h : ¬ partP k q c) : partB k q c = false := dcN h

set_option maxHeartbeats 400000 in
set_option maxRecDepth 100000 in
theorem ipart_any (k s x q c : Int) (t : ByteArray) (w : World) :
    Calls Tryd.prog 74 #[.agg #[.int .i64 k, .int .i64 s, .int .i64 x, .int .i64 q, .int .i64 c, .string t]] w fun e w' => e = .returned (.bool (partB k q c)) ∧ Below w.heap.size w w' := by
  have HB := hide ((Below.refl w.heap.size w).alloc (Nat.le_refl _) (.cells #[.int .i64 k, .int .i64 s, .int .i64 x, .int .i64 q, .int .i64 c, .string t] 45))
  by_cases h1 : k = 1
  · subst h1
    have HE : Hid (partB 1 q c = (decide (c = 1) && decide (q = 0))) := by
      show _ = _
      by_cases a : c = 1 <;> by_cases b : q = 0 <;> simp [partB, a, b]
    by_cases a : (c == 1) = true
    · go_enter Tryd.func74, Tryd.ntmps74
      go_wp2
      go_ret
      exact ⟨by rw [HE.out]; simp at a; by_cases b : q = 0 <;> simp [a, b], HB.out⟩
    · have a : (c == 1) = false := by simpa using a
      go_enter Tryd.func74, Tryd.ntmps74
      go_wp2
      go_ret
      exact ⟨by rw [HE.out]; simp at a; by_cases b : q = 0 <;> simp [a, b], HB.out⟩
  · have h1' : (k == 1) = false := by simpa using h1
    by_cases h2 : k = 2
    · subst h2
      have HE : Hid (partB 2 q c = decide (1 ≤ c ∧ c ≤ 9 ∧ 0 ≤ q ∧ q < c)) := by
        show _ = _
        simp [partB]
      clear h1 h1'
      by_cases a1 : 1 ≤ c
      · by_cases a2 : c ≤ 9
        · by_cases a3 : 0 ≤ q
          · go_enter Tryd.func74, Tryd.ntmps74
            go_wp2
            go_ret
            exact ⟨by rw [HE.out]; simp [a1, a2, a3], HB.out⟩
          · go_enter Tryd.func74, Tryd.ntmps74
            go_wp2
            go_ret
            exact ⟨by rw [HE.out]; simp; omega, HB.out⟩
        · go_enter Tryd.func74, Tryd.ntmps74
          go_wp2
          go_ret
          exact ⟨by rw [HE.out]; simp; omega, HB.out⟩
      · go_enter Tryd.func74, Tryd.ntmps74
        go_wp2
        go_ret
        exact ⟨by rw [HE.out]; simp; omega, HB.out⟩
    · have h2' : (k == 2) = false := by simpa using h2
      have HE : Hid (partB k q c = false) := by
        show _ = _
        simp [partB, h1, h2]
      clear h1 h2
      go_enter Tryd.func74, Tryd.ntmps74
      go_wp2
      go_ret
      exact ⟨by rw [HE.out]; rfl, HB.out⟩

theorem right_eq (k s x q c : Int) (t : ByteArray) : (Pg.mk k s x q c t).Right ↔ (1 ≤ s ∧ s ≤ 1000000000 ∧ 1 ≤ x ∧ x ≤ 1000000000) ∧ partP k q c ∧ (t.size : Int) ≤ 90 := by
  unfold Pg.Right partP
  simp only
  constructor
  · rintro ⟨h, h1, h2, h3, h4, h5⟩; exact ⟨⟨h1, h2, h3, h4⟩, h, h5⟩
  · rintro ⟨⟨h1, h2, h3, h4⟩, h, h5⟩; exact ⟨h, h1, h2, h3, h4, h5⟩

set_option maxHeartbeats 400000 in
set_option maxRecDepth 100000 in
theorem ipageOk (p : Pg) (w : World) :
    Calls Tryd.prog 70 #[pgVal p] w fun e w' => e = .returned (.bool (@decide p.Right p.decR)) ∧ Below w.heap.size w w' := by
  obtain ⟨k, s, x, q, c, t⟩ := p
  have HE := hide (right_eq k s x q c t)
  have HB := hide ((Below.refl w.heap.size w).alloc (Nat.le_refl _) (.cells #[.int .i64 k, .int .i64 s, .int .i64 x, .int .i64 q, .int .i64 c, .string t] 45))
  unfold pgVal
  simp only
  by_cases a1 : s < 1
  · go_enter Tryd.func70, Tryd.ntmps70
    go_wp2
    go_ret
    exact ⟨by rw [dcN (fun h => by have := (HE.out.1 h).1; omega)]; rfl, HB.out⟩
  by_cases a2 : 1000000000 < s
  · go_enter Tryd.func70, Tryd.ntmps70
    go_wp2
    go_ret
    exact ⟨by rw [dcN (fun h => by have := (HE.out.1 h).1; omega)]; rfl, HB.out⟩
  by_cases a3 : x < 1
  · go_enter Tryd.func70, Tryd.ntmps70
    go_wp2
    go_ret
    exact ⟨by rw [dcN (fun h => by have := (HE.out.1 h).1; omega)]; rfl, HB.out⟩
  by_cases a4 : 1000000000 < x
  · go_enter Tryd.func70, Tryd.ntmps70
    go_wp2
    go_ret
    exact ⟨by rw [dcN (fun h => by have := (HE.out.1 h).1; omega)]; rfl, HB.out⟩
  by_cases a5 : partP k q c
  · go_enter Tryd.func70, Tryd.ntmps70
    go_wp2_with fail
    refine (ipart_any k s x q c t _).mono ?_
    rintro e w1 ⟨rfl, hb⟩
    rw [partB_yes a5]
    have A5 := hide a5
    clear a5
    have hs := HB.out.size
    have kp : ∀ i, i < 6 → w1.cell? ⟨w.heap.size, i, none⟩ = (w.alloc (.cells #[.int .i64 k, .int .i64 s, .int .i64 x, .int .i64 q, .int .i64 c, .string t] 45)).cell? ⟨w.heap.size, i, none⟩ := fun i _ => hb.cell (by simp)
    have k5 := kp 5 (by omega)
    simp at k5
    clear kp
    go_wp2
    go_ret
    have e : @decide (Pg.mk k s x q c t).Right (Pg.mk k s x q c t).decR = decide ((t.size : Int) ≤ 90) := dcE (HE.out.trans ⟨fun h => h.2.2, fun h => ⟨by omega, A5.out, h⟩⟩)
    exact ⟨by rw [e]; rfl, HB.out.trans (hb.mono hs)⟩
  · go_enter Tryd.func70, Tryd.ntmps70
    go_wp2_with fail
    refine (ipart_any k s x q c t _).mono ?_
    rintro e w1 ⟨rfl, hb⟩
    rw [partB_no a5]
    have A5 := hide a5
    clear a5
    have hs := HB.out.size
    go_wp2
    go_ret
    exact ⟨by rw [dcN (fun h => A5.out (HE.out.1 h).2.1)]; rfl, HB.out.trans (hb.mono hs)⟩
end Go.Proofs.YtaolinlginloaadDoor

/-
  The reader of pages: a block of two cells, and what its methods leave.
-/
namespace Go.Proofs.YtaolinlginloaadDoor
open Go.RowKit
open Words

/-- The reader that lies in block g. -/
def RAt (w : World) (g : Nat) (t : ByteArray) (i : Int) : Prop := g < w.heap.size ∧ w.cell? ⟨g, 0, none⟩ = some (.string t) ∧ w.cell? ⟨g, 1, none⟩ = some (.int .i64 i) ∧ w.frozen? ⟨g, 0, none⟩ = false ∧ w.frozen? ⟨g, 1, none⟩ = false
/-- A call that has moved the reader alone, and laid new blocks. -/
def Moved (w w' : World) (g : Nat) (t : ByteArray) (i : Int) : Prop := Kept2 w w' (· ≠ g) ∧ RAt w' g t i

theorem RAt.below {w w' : World} {g : Nat} {t : ByteArray} {i : Int} (h : RAt w g t i) (hb : Below w.heap.size w w') : RAt w' g t i := by
  obtain ⟨h1, h2, h3, h4, h5⟩ := h
  have e : ∀ j, w'.cell? ⟨g, j, none⟩ = w.cell? ⟨g, j, none⟩ := fun j => hb.cell (show g < w.heap.size from h1)
  have f : ∀ j, w'.frozen? ⟨g, j, none⟩ = w.frozen? ⟨g, j, none⟩ := fun j => hb.frozen (show g < w.heap.size from h1)
  exact ⟨Nat.lt_of_lt_of_le h1 hb.size, by rw [e]; exact h2, by rw [e]; exact h3, by rw [f]; exact h4, by rw [f]; exact h5⟩
theorem RAt.both {w : World} {g : Nat} {t t' : ByteArray} {i i' : Int} (h : RAt w g t i) : RAt ((w.setCell ⟨g, 0, none⟩ (.string t')).setCell ⟨g, 1, none⟩ (.int .i64 i')) g t' i' := by
  obtain ⟨h1, h2, h3, h4, h5⟩ := h
  have o : ∀ (w : World) (i j : Nat) (u : Value), i ≠ j → (w.setCell ⟨g, i, none⟩ u).cell? ⟨g, j, none⟩ = w.cell? ⟨g, j, none⟩ := fun w i j u hij => World.cell?_setCell_other _ _ _ _ (fun e => hij (by injection e))
  refine ⟨by simpa using h1, ?_, ?_, by simpa using h4, by simpa using h5⟩
  · rw [o _ 1 0 _ (by omega)]
    exact World.cell?_setCell_same _ _ _ h2
  · exact World.cell?_setCell_same _ _ _ ((o w 0 1 (.string t') (by omega)).trans h3)
theorem RAt.at_ {w : World} {g : Nat} {t : ByteArray} {i i' : Int} (h : RAt w g t i) : RAt (w.setCell ⟨g, 1, none⟩ (.int .i64 i')) g t i' := by
  obtain ⟨h1, h2, h3, h4, h5⟩ := h
  have o : ∀ (w : World) (i j : Nat) (u : Value), i ≠ j → (w.setCell ⟨g, i, none⟩ u).cell? ⟨g, j, none⟩ = w.cell? ⟨g, j, none⟩ := fun w i j u hij => World.cell?_setCell_other _ _ _ _ (fun e => hij (by injection e))
  refine ⟨by simpa using h1, ?_, ?_, by simpa using h4, by simpa using h5⟩
  · rw [o _ 1 0 _ (by omega)]
    exact h2
  · exact World.cell?_setCell_same _ _ _ h3
theorem kept_set (w : World) (g j : Nat) (v : Value) : Kept2 w (w.setCell ⟨g, j, none⟩ v) (· ≠ g) := by
  refine ⟨rfl, rfl, rfl, by simp, fun i _ hne => ?_⟩
  exact Below.heap_setCell _ _ _ _ hne
theorem Moved.both {w w' : World} {g : Nat} {t t' : ByteArray} {i i' : Int} (h : RAt w g t i) (hb : Below w.heap.size w w') : Moved w ((w'.setCell ⟨g, 0, none⟩ (.string t')).setCell ⟨g, 1, none⟩ (.int .i64 i')) g t' i' :=
  ⟨((Kept2.below hb).trans (kept_set _ _ _ _)).trans (kept_set _ _ _ _), (h.below hb).both⟩
theorem Moved.at_ {w w' : World} {g : Nat} {t : ByteArray} {i i' : Int} (h : RAt w g t i) (hb : Below w.heap.size w w') : Moved w (w'.setCell ⟨g, 1, none⟩ (.int .i64 i')) g t i' :=
  ⟨(Kept2.below hb).trans (kept_set _ _ _ _), (h.below hb).at_⟩
theorem Moved.trans {a b c : World} {g : Nat} {t t' : ByteArray} {i i' : Int} (h : Moved a b g t i) (k : Moved b c g t' i') : Moved a c g t' i' := ⟨h.1.trans k.1, k.2⟩
theorem Moved.below {a b c : World} {g : Nat} {t : ByteArray} {i : Int} (h : Moved a b g t i) (k : Below b.heap.size b c) : Moved a c g t i := ⟨h.1.trans (Kept2.below k), h.2.below k⟩

/-- What a reader panics with. -/
def noPg : List PanicEntry := [{ v := .iface 101 (.agg #[]), recovered := false }]

set_option maxRecDepth 100000 in
theorem must_yes (v : Value) (w : World) :
    Calls Tryd.prog 69 #[v, .bool true] w fun e w' => e = .returned (.tuple #[]) ∧ w' = w := by
  go_enter Tryd.func69, Tryd.ntmps69
  go_wp2
  first | go_end0 | refine bodyPost_ret (results_none rfl _ _ _) rfl ?_
  exact ⟨rfl, rfl⟩
set_option maxRecDepth 100000 in
theorem must_no (v : Value) (w : World) :
    Calls Tryd.prog 69 #[v, .bool false] w fun e w' => e = .panicked noPg ∧ w' = w := by
  go_enter Tryd.func69, Tryd.ntmps69
  go_wp2
  exact ⟨rfl, rfl, rfl⟩
end Go.Proofs.YtaolinlginloaadDoor
