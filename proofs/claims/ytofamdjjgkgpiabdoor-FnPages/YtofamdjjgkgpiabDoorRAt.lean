/-
  The reader of pages: a block of two cells, and what its methods leave.
-/
import Derived.Test.YtofamdjjgkgpiabDoorIPageOk
import Derived.Test.YtofamdjjgkgpiabDoorKept2
import Derived.Laws.Rows
namespace Go.Proofs.YtofamdjjgkgpiabDoor
open Go.RowKit
open Words

/-- The reader that lies in block g. -/
def RAt (w : World) (g : Nat) (t : ByteArray) (i : Int) : Prop := g < w.heap.size ∧ w.cell? ⟨g, 0, none⟩ = some (.string t) ∧ w.cell? ⟨g, 1, none⟩ = some (.int .i64 i) ∧ w.frozen? ⟨g, 0, none⟩ = false ∧ w.frozen? ⟨g, 1, none⟩ = false
/-- A call that has moved the reader alone, and laid new blocks. -/
def Moved (w w' : World) (g : Nat) (t : ByteArray) (i : Int) : Prop := Kept2 w w' (· ≠ g) ∧ RAt w' g t i

theorem RAt.below {w w' : World} {g : Nat} {t : ByteArray} {i : Int} (h : RAt w g t i) (hb : Below w.heap.size w w') : RAt w' g t i := by
  obtain ⟨h1, h2, h3, h4, h5⟩ := h
  have e : ∀ j, w'.cell? ⟨g, j, none⟩ = w.cell? ⟨g, j, none⟩ := fun j => hb.cell (show g < w.heap.size from h1)
  have f : ∀ j, w'.frozen? ⟨g, j, none⟩ = w.frozen? ⟨g, j, none⟩ := fun j => hb.frozen (show g < w.heap.size from h1)
  exact ⟨Nat.lt_of_lt_of_le h1 hb.size, by rw [e]; exact h2, by rw [e]; exact h3, by rw [f]; exact h4, by rw [f]; exact h5⟩
theorem RAt.both {w : World} {g : Nat} {t t' : ByteArray} {i i' : Int} (h : RAt w g t i) : RAt ((w.setCell ⟨g, 0, none⟩ (.string t')).setCell ⟨g, 1, none⟩ (.int .i64 i')) g t' i' := by
  obtain ⟨h1, h2, h3, h4, h5⟩ := h
  have o : ∀ (w : World) (i j : Nat) (u : Value), i ≠ j → (w.setCell ⟨g, i, none⟩ u).cell? ⟨g, j, none⟩ = w.cell? ⟨g, j, none⟩ := fun w i j u hij => World.cell?_setCell_other _ _ _ _ (fun e => hij (by injection e))
  refine ⟨by simpa using h1, ?_, ?_, by simpa using h4, by simpa using h5⟩
  · rw [o _ 1 0 _ (by omega)]
    exact World.cell?_setCell_same _ _ _ h2
  · exact World.cell?_setCell_same _ _ _ ((o w 0 1 (.string t') (by omega)).trans h3)
theorem RAt.at_ {w : World} {g : Nat} {t : ByteArray} {i i' : Int} (h : RAt w g t i) : RAt (w.setCell ⟨g, 1, none⟩ (.int .i64 i')) g t i' := by
  obtain ⟨h1, h2, h3, h4, h5⟩ := h
  have o : ∀ (w : World) (i j : Nat) (u : Value), i ≠ j → (w.setCell ⟨g, i, none⟩ u).cell? ⟨g, j, none⟩ = w.cell? ⟨g, j, none⟩ := fun w i j u hij => World.cell?_setCell_other _ _ _ _ (fun e => hij (by injection e))
  refine ⟨by simpa using h1, ?_, ?_, by simpa using h4, by simpa using h5⟩
  · rw [o _ 1 0 _ (by omega)]
    exact h2
  · exact World.cell?_setCell_same _ _ _ h3
theorem kept_set (w : World) (g j : Nat) (v : Value) : Kept2 w (w.setCell ⟨g, j, none⟩ v) (· ≠ g) := by
  refine ⟨rfl, rfl, rfl, by simp, fun i _ hne => ?_⟩
  exact Below.heap_setCell _ _ _ _ hne
theorem Moved.both {w w' : World} {g : Nat} {t t' : ByteArray} {i i' : Int} (h : RAt w g t i) (hb : Below w.heap.size w w') : Moved w ((w'.setCell ⟨g, 0, none⟩ (.string t')).setCell ⟨g, 1, none⟩ (.int .i64 i')) g t' i' :=
  ⟨((Kept2.below hb).trans (kept_set _ _ _ _)).trans (kept_set _ _ _ _), (h.below hb).both⟩
theorem Moved.at_ {w w' : World} {g : Nat} {t : ByteArray} {i i' : Int} (h : RAt w g t i) (hb : Below w.heap.size w w') : Moved w (w'.setCell ⟨g, 1, none⟩ (.int .i64 i')) g t i' :=
  ⟨(Kept2.below hb).trans (kept_set _ _ _ _), (h.below hb).at_⟩
theorem Moved.trans {a b c : World} {g : Nat} {t t' : ByteArray} {i i' : Int} (h : Moved a b g t i) (k : Moved b c g t' i') : Moved a c g t' i' := ⟨h.1.trans k.1, k.2⟩
theorem Moved.below {a b c : World} {g : Nat} {t : ByteArray} {i : Int} (h : Moved a b g t i) (k : Below b.heap.size b c) : Moved a c g t i := ⟨h.1.trans (Kept2.below k), h.2.below k⟩

/-- What a reader panics with. -/
def noPg : List PanicEntry := [{ v := .iface 81 (.agg #[]), recovered := false }]

set_option maxRecDepth 100000 in
theorem must_yes (v : Value) (w : World) :
    Calls Tryd.prog 65 #[v, .bool true] w fun e w' => e = .returned (.tuple #[]) ∧ w' = w := by
  go_enter Tryd.func65, Tryd.ntmps65
  go_wp2
  first | go_end0 | refine bodyPost_ret (results_none rfl _ _ _) rfl ?_
  exact ⟨rfl, rfl⟩
set_option maxRecDepth 100000 in
theorem must_no (v : Value) (w : World) :
    Calls Tryd.prog 65 #[v, .bool false] w fun e w' => e = .panicked noPg ∧ w' = w := by
  go_enter Tryd.func65, Tryd.ntmps65
  go_wp2
  exact ⟨rfl, rfl, rfl⟩
end Go.Proofs.YtofamdjjgkgpiabDoor
