/-
  Where steps are cut: the flash handed in, the answer's cell, the cell of a flash made since, and this flash.
-/
import Derived.Test.YtcjgjkejhkhknaaPq100
namespace Go.Proofs.Ytcjgjkejhkhknaa
open Go.RowKit

/-- The flash handed in, and the answer's cell. -/
def Rz (w wr : World) (fv : Value) : Prop := Tk w wr [(w.heap.size + 1, w.heap.size + 1 + 1, Cel (w.heap.size + 1) #[.slice none 0 0] 28), (w.heap.size, w.heap.size + 1, Cel w.heap.size #[fv] 28)]
def Dz (w wr : World) (fv : Value) (c : Nat) (v : Value) (bs : List Bk) : Prop := ∃ lo hi, (hi ≤ c ∨ c + 1 ≤ lo) ∧ w.heap.size + 1 + 1 ≤ lo ∧ w.heap.size + 1 + 1 ≤ c ∧
  Tk w wr [(c, c + 1, Cel c #[v] 28), (lo, hi, Fla lo hi v bs), (w.heap.size + 1, w.heap.size + 1 + 1, Cel (w.heap.size + 1) #[.slice none 0 0] 28), (w.heap.size, w.heap.size + 1, Cel w.heap.size #[fv] 28)]
theorem Rz.start (w : World) (fv : Value) : Rz w ((w.alloc (.cells #[fv] 28)).alloc (.cells #[.slice none 0 0] 28)) fv := Tk.two w _ _ _ _
theorem Rz.below {w wr wx : World} {fv : Value} (h : Rz w wr fv) (hb : Below wr.heap.size wr wx) : Rz w wx fv := Tk.below h hb
theorem Rz.size {w wr : World} {fv : Value} (h : Rz w wr fv) : w.heap.size + 1 + 1 ≤ wr.heap.size := Tk.hi h 0 rfl
theorem Rz.cell {w wr : World} {fv : Value} (h : Rz w wr fv) : wr.cell? ⟨w.heap.size, 0, none⟩ = some fv ∧ wr.cell? ⟨w.heap.size + 1, 0, none⟩ = some (.slice none 0 0) ∧ wr.frozen? ⟨w.heap.size + 1, 0, none⟩ = false := ⟨Tk.at h 1 0 rfl rfl, Tk.at h 0 0 rfl rfl, Tk.fr h 0 0 rfl⟩
theorem Dz.rz {w wr : World} {fv v : Value} {c : Nat} {bs : List Bk} (h : Dz w wr fv c v bs) : Rz w wr fv := by
  obtain ⟨lo, hi, h1, h2, h3, T⟩ := h
  exact T.drop (fun x hx => List.mem_cons_of_mem _ (List.mem_cons_of_mem _ hx))
theorem Dz.below {w wr wx : World} {fv v : Value} {c : Nat} {bs : List Bk} (h : Dz w wr fv c v bs) (hb : Below wr.heap.size wr wx) : Dz w wx fv c v bs := by
  obtain ⟨lo, hi, h1, h2, h3, T⟩ := h
  exact ⟨lo, hi, h1, h2, h3, T.below hb⟩
theorem Dz.cell {w wr : World} {fv v : Value} {c : Nat} {bs : List Bk} (h : Dz w wr fv c v bs) : wr.cell? ⟨c, 0, none⟩ = some v ∧ wr.frozen? ⟨c, 0, none⟩ = false := by
  obtain ⟨lo, hi, h1, h2, h3, T⟩ := h
  exact ⟨T.at 0 0 rfl rfl, T.fr 0 0 rfl⟩
theorem Dz.rdb {w wr : World} {fv v : Value} {c : Nat} {bs : List Bk} (h : Dz w wr fv c v bs) : RdB wr v bs := by
  obtain ⟨lo, hi, h1, h2, h3, T⟩ := h
  exact (T.get 1 rfl).rdb
/-- The call came ahead of its cell. -/
theorem Dz.mk1 {w wr wx : World} {fv u : Value} {bs : List Bk} {c : Nat} (h : Rz w wr fv) (hb : Below wr.heap.size wr wx) (f : FlashOf wx wr.heap.size u bs) (hc : wx.heap.size = c) : Dz w (wx.alloc (.cells #[u] 28)) fv c u bs := by
  subst hc
  have hz := h.size
  have hs := hb.size
  have T1 := (Tk.fla h hb f).cell #[u] 28
  exact ⟨wr.heap.size, wx.heap.size, Or.inl (Nat.le_refl _), hz, by omega, T1⟩
/-- The cell came first. -/
theorem Dz.mk2 {w wr wx : World} {fv u z : Value} {bs : List Bk} (h : Rz w wr fv) (hb : Below (wr.alloc (.cells #[z] 28)).drew.heap.size (wr.alloc (.cells #[z] 28)).drew wx) (f : FlashOf wx (wr.alloc (.cells #[z] 28)).drew.heap.size u bs) :
    wx.cell? ⟨wr.heap.size, 0, none⟩ = some z ∧ wx.frozen? ⟨wr.heap.size, 0, none⟩ = false ∧ Dz w (wx.setCell ⟨wr.heap.size, 0, none⟩ u) fv wr.heap.size u bs := by
  have hz := h.size
  have he : (wr.alloc (.cells #[z] 28)).drew.heap.size = wr.heap.size + 1 := alloc_size rfl _
  rw [he] at f
  have T2 := (((Tk.celln h rfl #[z] 28).drew).below hb).put (lo := wr.heap.size + 1) (hi := wx.heap.size) (P := Fla (wr.heap.size + 1) wx.heap.size u bs) (Nat.le_refl _) (Fla.loc _ _ _ _) f
  have T3 := T2.write (hs' := [(wr.heap.size + 1, wx.heap.size, Fla (wr.heap.size + 1) wx.heap.size u bs), (w.heap.size + 1, w.heap.size + 1 + 1, Cel (w.heap.size + 1) #[.slice none 0 0] 28), (w.heap.size, w.heap.size + 1, Cel w.heap.size #[fv] 28)]) 1 rfl (by omega) u (fun x hx => by
    simp only [List.mem_cons, List.not_mem_nil, or_false] at hx
    rcases hx with rfl | rfl | rfl
    · exact ⟨List.mem_of_getElem? (i := 0) rfl, Or.inr (Nat.le_refl _)⟩
    · exact ⟨List.mem_of_getElem? (i := 2) rfl, Or.inl hz⟩
    · exact ⟨List.mem_of_getElem? (i := 3) rfl, Or.inl (show w.heap.size + 1 ≤ wr.heap.size by omega)⟩)
  exact ⟨T2.at 1 0 rfl rfl, T2.fr 1 0 rfl, _, _, Or.inr (Nat.le_refl _), by omega, hz, T3⟩
/-- Another flash comes into the cell. -/
theorem Dz.next {w wr wx : World} {fv v u : Value} {c : Nat} {bs bs' : List Bk} (h : Dz w wr fv c v bs) (hb : Below wr.heap.size wr wx) (f : FlashOf wx wr.heap.size u bs') : Dz w (wx.setCell ⟨c, 0, none⟩ u) fv c u bs' := by
  obtain ⟨lo, hi, h1, h2, h3, T⟩ := h
  have hc := T.hi 0 rfl
  have T1 := T.fla hb f
  refine ⟨wr.heap.size, wx.heap.size, Or.inr hc, by omega, h3, T1.write (hs' := [(wr.heap.size, wx.heap.size, Fla wr.heap.size wx.heap.size u bs'), (w.heap.size + 1, w.heap.size + 1 + 1, Cel (w.heap.size + 1) #[.slice none 0 0] 28), (w.heap.size, w.heap.size + 1, Cel w.heap.size #[fv] 28)]) 1 rfl (by omega) u (fun x hx => ?_)⟩
  simp only [List.mem_cons, List.not_mem_nil, or_false] at hx
  rcases hx with rfl | rfl | rfl
  · exact ⟨List.mem_cons_self .., Or.inr hc⟩
  · exact ⟨List.mem_of_getElem? (i := 3) rfl, Or.inl h3⟩
  · exact ⟨List.mem_of_getElem? (i := 4) rfl, Or.inl (show w.heap.size + 1 ≤ c by omega)⟩
/-- The answer's cell gets the flash. -/
theorem Dz.fin {w wr : World} {fv v : Value} {c : Nat} {bs : List Bk} (h : Dz w wr fv c v bs) : (wr.setCell ⟨w.heap.size + 1, 0, none⟩ v).heap[w.heap.size + 1]? = some (.cells #[v] 28 (0, 0)) ∧ FlashOf (wr.setCell ⟨w.heap.size + 1, 0, none⟩ v) w.heap.size v bs ∧ Below w.heap.size w (wr.setCell ⟨w.heap.size + 1, 0, none⟩ v) := by
  obtain ⟨lo, hi, h1, h2, h3, T⟩ := h
  have T1 := T.write (hs' := [(lo, hi, Fla lo hi v bs)]) 2 rfl (by omega) v (fun x hx => by rw [List.mem_singleton] at hx; subst hx; exact ⟨List.mem_of_getElem? (i := 1) rfl, Or.inr h2⟩)
  exact ⟨T1.get 0 rfl, (T1.get 1 rfl).of (T1.hi 1 rfl) (by omega), T1.1⟩
/-- .. or one that a call has just made. -/
theorem Rz.fin {w wr wx : World} {fv u : Value} {bs : List Bk} (h : Rz w wr fv) (hb : Below wr.heap.size wr wx) (f : FlashOf wx wr.heap.size u bs) : (wx.setCell ⟨w.heap.size + 1, 0, none⟩ u).heap[w.heap.size + 1]? = some (.cells #[u] 28 (0, 0)) ∧ FlashOf (wx.setCell ⟨w.heap.size + 1, 0, none⟩ u) w.heap.size u bs ∧ Below w.heap.size w (wx.setCell ⟨w.heap.size + 1, 0, none⟩ u) := by
  have hz := h.size
  have T1 := Tk.fla h hb f
  have T2 := T1.write (hs' := [(wr.heap.size, wx.heap.size, Fla wr.heap.size wx.heap.size u bs)]) 1 rfl (by omega) u (fun x hx => by rw [List.mem_singleton] at hx; subst hx; exact ⟨List.mem_of_getElem? (i := 0) rfl, Or.inr hz⟩)
  exact ⟨T2.get 0 rfl, (T2.get 1 rfl).of (T2.hi 1 rfl) (by omega), T2.1⟩
end Go.Proofs.Ytcjgjkejhkhknaa
