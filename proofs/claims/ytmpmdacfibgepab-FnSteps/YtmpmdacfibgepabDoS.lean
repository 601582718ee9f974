/-
  Where steps are done: the answer's cell, the cell of the flash so far, and this flash.
-/
import Derived.Test.YtmpmdacfibgepabPk26
import Derived.Test.YtmpmdacfibgepabPk27
namespace Go.Proofs.Ytmpmdacfibgepab
open Go.RowKit

/-- Where steps are done: the answer's cell, the cell of the flash so far, and this flash. -/
def DoS (w wr : World) (c : Nat) (v : Value) (bs : List Bk) : Prop := ∃ lo hi, (hi ≤ c ∨ c + 1 ≤ lo) ∧ w.heap.size + 1 + 1 ≤ lo ∧ w.heap.size + 1 + 1 ≤ c ∧
  Tk w wr [(c, c + 1, Cel c #[v] 26), (lo, hi, Fla lo hi v bs), (w.heap.size + 1, w.heap.size + 1 + 1, Cel (w.heap.size + 1) #[.slice none 0 0] 26)]
theorem DoS.below {w wr wx : World} {c : Nat} {v : Value} {bs : List Bk} (h : DoS w wr c v bs) (hb : Below wr.heap.size wr wx) : DoS w wx c v bs := by
  obtain ⟨lo, hi, h1, h2, h3, T⟩ := h
  exact ⟨lo, hi, h1, h2, h3, T.below hb⟩
theorem DoS.cell {w wr : World} {c : Nat} {v : Value} {bs : List Bk} (h : DoS w wr c v bs) : wr.cell? ⟨c, 0, none⟩ = some v ∧ wr.frozen? ⟨c, 0, none⟩ = false ∧ wr.cell? ⟨w.heap.size + 1, 0, none⟩ = some (.slice none 0 0) ∧ wr.frozen? ⟨w.heap.size + 1, 0, none⟩ = false := by
  obtain ⟨lo, hi, h1, h2, h3, T⟩ := h
  exact ⟨T.at 0 0 rfl rfl, T.fr 0 0 rfl, T.at 2 0 rfl rfl, T.fr 2 0 rfl⟩
theorem DoS.rdb {w wr : World} {c : Nat} {v : Value} {bs : List Bk} (h : DoS w wr c v bs) : RdB wr v bs := by
  obtain ⟨lo, hi, h1, h2, h3, T⟩ := h
  exact (T.get 1 rfl).rdb
theorem DoS.bel {w wr : World} {c : Nat} {v : Value} {bs : List Bk} (h : DoS w wr c v bs) : Below w.heap.size w wr := by
  obtain ⟨lo, hi, h1, h2, h3, T⟩ := h
  exact T.1
theorem DoS.form {w wr : World} {c : Nat} {v : Value} {bs : List Bk} (h : DoS w wr c v bs) : ∃ ad cap, v = .slice ad bs.length cap := h.rdb.form
/-- The flash so far is another one, made since. -/
theorem DoS.next {w wr wx wy : World} {c : Nat} {v u : Value} {bs bs' : List Bk} (h : DoS w wr c v bs) (hb : Below wr.heap.size wr wx) (f : FlashOf wx wr.heap.size u bs') (hb2 : Below wx.heap.size wx wy) : DoS w (wy.setCell ⟨c, 0, none⟩ u) c u bs' := by
  obtain ⟨lo, hi, h1, h2, h3, T⟩ := h
  have hc := T.hi 0 rfl
  have T1 := (T.fla hb f).below hb2
  refine ⟨wr.heap.size, wx.heap.size, Or.inr hc, by omega, h3, T1.write (hs' := [(wr.heap.size, wx.heap.size, Fla wr.heap.size wx.heap.size u bs'), (w.heap.size + 1, w.heap.size + 1 + 1, Cel (w.heap.size + 1) #[.slice none 0 0] 26)]) 1 rfl (by omega) u (fun x hx => ?_)⟩
  simp only [List.mem_cons, List.not_mem_nil, or_false] at hx
  rcases hx with rfl | rfl
  · exact ⟨List.mem_cons_self .., Or.inr hc⟩
  · exact ⟨List.mem_of_getElem? (i := 3) rfl, Or.inl h3⟩
/-- .. a cell of its own was laid ahead of it. -/
theorem DoS.next2 {w wr wx : World} {c : Nat} {v u z : Value} {bs bs' : List Bk} (h : DoS w wr c v bs) (hb : Below (wr.alloc (.cells #[z] 26)).drew.heap.size (wr.alloc (.cells #[z] 26)).drew wx) (f : FlashOf wx (wr.alloc (.cells #[z] 26)).drew.heap.size u bs') :
    (wx.cell? ⟨wr.heap.size, 0, none⟩ = some z ∧ wx.frozen? ⟨wr.heap.size, 0, none⟩ = false) ∧ (wx.setCell ⟨wr.heap.size, 0, none⟩ u).cell? ⟨wr.heap.size, 0, none⟩ = some u ∧ DoS w (wx.setCell ⟨wr.heap.size, 0, none⟩ u) c v bs ∧ DoS w ((wx.setCell ⟨wr.heap.size, 0, none⟩ u).setCell ⟨c, 0, none⟩ u) c u bs' := by
  obtain ⟨lo, hi, h1, h2, h3, T⟩ := h
  have hc := T.hi 0 rfl
  have hhi := T.hi 1 rfl
  have hz : (wr.alloc (.cells #[z] 26)).drew.heap.size = wr.heap.size + 1 := alloc_size rfl _
  rw [hz] at f
  have T2 := (((T.celln rfl #[z] 26).drew).below hb).put (lo := wr.heap.size + 1) (hi := wx.heap.size) (P := Fla (wr.heap.size + 1) wx.heap.size u bs') (Nat.le_refl _) (Fla.loc _ _ _ _) f
  have T3 := T2.write (hs' := [(wr.heap.size + 1, wx.heap.size, Fla (wr.heap.size + 1) wx.heap.size u bs'), (c, c + 1, Cel c #[v] 26), (lo, hi, Fla lo hi v bs), (w.heap.size + 1, w.heap.size + 1 + 1, Cel (w.heap.size + 1) #[.slice none 0 0] 26)]) 1 rfl (by omega) u (fun x hx => by
    simp only [List.mem_cons, List.not_mem_nil, or_false] at hx
    rcases hx with rfl | rfl | rfl | rfl
    · exact ⟨List.mem_of_getElem? (i := 0) rfl, Or.inr (Nat.le_refl _)⟩
    · exact ⟨List.mem_of_getElem? (i := 2) rfl, Or.inl hc⟩
    · exact ⟨List.mem_of_getElem? (i := 3) rfl, Or.inl hhi⟩
    · exact ⟨List.mem_of_getElem? (i := 4) rfl, Or.inl (show w.heap.size + 1 + 1 ≤ wr.heap.size by omega)⟩)
  have T4 := T3.write (hs' := [(wr.heap.size + 1, wx.heap.size, Fla (wr.heap.size + 1) wx.heap.size u bs'), (w.heap.size + 1, w.heap.size + 1 + 1, Cel (w.heap.size + 1) #[.slice none 0 0] 26)]) 2 rfl (by omega) u (fun x hx => by
    simp only [List.mem_cons, List.not_mem_nil, or_false] at hx
    rcases hx with rfl | rfl
    · exact ⟨List.mem_of_getElem? (i := 1) rfl, Or.inr (show c + 1 ≤ wr.heap.size + 1 by omega)⟩
    · exact ⟨List.mem_of_getElem? (i := 4) rfl, Or.inl h3⟩)
  refine ⟨⟨T2.at 1 0 rfl rfl, T2.fr 1 0 rfl⟩, T3.at 0 0 rfl rfl, ⟨lo, hi, h1, h2, h3, T3.drop (fun x hx => ?_)⟩, ⟨_, _, Or.inr (show c + 1 ≤ wr.heap.size + 1 by omega), by omega, h3, T4⟩⟩
  simp only [List.mem_cons, List.not_mem_nil, or_false] at hx ⊢
  rcases hx with h | h | h <;> simp [h]
/-- .. and at the end it is the answer. -/
theorem DoS.fin {w wr : World} {c : Nat} {v : Value} {bs : List Bk} (h : DoS w wr c v bs) : (wr.setCell ⟨w.heap.size + 1, 0, none⟩ v).heap[w.heap.size + 1]? = some (.cells #[v] 26 (0, 0)) ∧ FlashOf (wr.setCell ⟨w.heap.size + 1, 0, none⟩ v) w.heap.size v bs ∧ Below w.heap.size w (wr.setCell ⟨w.heap.size + 1, 0, none⟩ v) := by
  obtain ⟨lo, hi, h1, h2, h3, T⟩ := h
  have T1 := T.write (hs' := [(lo, hi, Fla lo hi v bs)]) 2 rfl (by omega) v (fun x hx => by rw [List.mem_singleton] at hx; subst hx; exact ⟨List.mem_of_getElem? (i := 1) rfl, Or.inr h2⟩)
  exact ⟨T1.get 0 rfl, (T1.get 1 rfl).of (T1.hi 1 rfl) (by omega), T1.1⟩
theorem DoS.start {w wx : World} {c : Nat} {arg v : Value} {bs : List Bk} (hb : Below ((w.alloc (.cells #[arg] 26)).alloc (.cells #[.slice none 0 0] 26)).heap.size ((w.alloc (.cells #[arg] 26)).alloc (.cells #[.slice none 0 0] 26)) wx) (f : FlashOf wx ((w.alloc (.cells #[arg] 26)).alloc (.cells #[.slice none 0 0] 26)).heap.size v bs) (hc : wx.heap.size = c) : DoS w (wx.alloc (.cells #[v] 26)) c v bs := by
  subst hc
  have T0 := Tk.two w #[arg] #[.slice none 0 0] 26 26
  have hz : ((w.alloc (.cells #[arg] 26)).alloc (.cells #[.slice none 0 0] 26)).heap.size = w.heap.size + 1 + 1 := alloc_size (alloc_size rfl _) _
  have T1 := (T0.fla hb f).cell #[v] 26
  rw [hz] at T1
  have hs := hb.size
  rw [hz] at hs
  refine ⟨w.heap.size + 1 + 1, wx.heap.size, Or.inl (Nat.le_refl _), Nat.le_refl _, hs, T1.drop (fun x hx => ?_)⟩
  simp only [List.mem_cons, List.not_mem_nil, or_false] at hx ⊢
  rcases hx with h | h | h <;> simp [h]

end Go.Proofs.Ytmpmdacfibgepab
