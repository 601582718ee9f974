/-
  FOf; Tk
-/
import Derived.Test.YtiicghepilbgfaaGreatDoorPk27
import Derived.Test.YtiicghepilbgfaaGreatDoorFRow
/-
  Flashes that functions answer.
-/
namespace Go.Proofs.YtiicghepilbgfaaGreatDoor
open Go.RowKit

theorem infoLeaf2 : (Tryz.prog.info? 130).map (·.size) = some 2 := by kernel_rfl
theorem infoBlock3 : (Tryz.prog.info? 99).map (·.size) = some 3 := by kernel_rfl
theorem infoFlash1 : (Tryz.prog.info? 49).map (·.size) = some 1 := by kernel_rfl
theorem leaf_cell {w : World} {B g : Nat} {n hi : Nat} {xs : List Value} {v : Value} {ls : List (Int × ByteArray)} (hu : w.ownsRow B 99 3 (.slice (some ⟨g, 0, none⟩) n n) n xs) (h : LeafIn w B hi v ls) (j : Nat) (u : Value) : LeafIn (w.setCell ⟨g, j, none⟩ u) B hi v ls :=
  ⟨h.1.kept (grown_cell w g j u) (leaf_ne hu h.1), h.2⟩
/-- Blocks that the call owns from block B on, and what they tell. -/
def FlashOf (w : World) (B : Nat) (v : Value) (bs : List Bk) : Prop := ∃ ss : List Rw, ss.map tellOf = bs ∧ FlashIn w B w.heap.size v ss
theorem FlashOf.form {w : World} {B : Nat} {v : Value} {bs : List Bk} (h : FlashOf w B v bs) : ∃ ad cap, v = .slice ad bs.length cap := by
  obtain ⟨ss, rfl, hs⟩ := h
  obtain ⟨ad, cap, rfl, -⟩ := frow_form hs.1
  exact ⟨ad, cap, by simp⟩
theorem FlashOf.below {w w' : World} {B : Nat} {v : Value} {bs : List Bk} (h : FlashOf w B v bs) (hb : Below w.heap.size w w') : FlashOf w' B v bs := by
  obtain ⟨ss, e, hs⟩ := h
  exact ⟨ss, e, (hs.below hb (Nat.le_refl _)).up hb.size⟩
theorem FlashIn.down {w : World} {lo lo' hi : Nat} {v : Value} {rs : List Rw} (h : FlashIn w lo hi v rs) (hh : lo' ≤ lo) : FlashIn w lo' hi v rs := ⟨own_down h.1 hh, h.2.1, fun r hr => ⟨own_down (h.2.2.1 r hr).1 hh, (h.2.2.1 r hr).2⟩, h.2.2.2⟩
theorem FlashOf.down {w : World} {B B' : Nat} {v : Value} {bs : List Bk} (h : FlashOf w B v bs) (hh : B' ≤ B) : FlashOf w B' v bs := by
  obtain ⟨ss, e, hs⟩ := h
  exact ⟨ss, e, hs.down hh⟩
/-- A cell below is written. -/
theorem FlashOf.cell {w : World} {B : Nat} {v : Value} {bs : List Bk} (h : FlashOf w B v bs) {g : Nat} (hg : g < B) (i : Nat) (u : Value) : FlashOf (w.setCell ⟨g, i, none⟩ u) B v bs := by
  obtain ⟨ss, e, hs⟩ := h
  refine ⟨ss, e, ?_⟩
  have := hs.kept (w' := w.setCell ⟨g, i, none⟩ u) (fun k h1 _ => Below.heap_setCell _ _ _ _ (by show k ≠ g; omega))
  simpa [World.setCell] using this
end Go.Proofs.YtiicghepilbgfaaGreatDoor

/-
  What a law holds while it goes on: things that lie in blocks of their own.
-/
namespace Go.Proofs.YtiicghepilbgfaaGreatDoor
open Go.RowKit

/-- What hangs on the blocks from lo on and below hi alone. -/
def Loc (lo hi : Nat) (P : World → Prop) : Prop := ∀ w w' : World, (∀ g, lo ≤ g → g < hi → w'.heap[g]? = w.heap[g]?) → P w → P w'
/-- Such a thing. -/
abbrev Hold := Nat × Nat × (World → Prop)
def Tk (w wi : World) (hs : List Hold) : Prop := Below w.heap.size w wi ∧ ∀ h ∈ hs, h.2.1 ≤ wi.heap.size ∧ Loc h.1 h.2.1 h.2.2 ∧ h.2.2 wi
theorem Tk.start (w : World) : Tk w w [] := ⟨Below.refl _ _, fun _ h => by cases h⟩
theorem Tk.below {w wi wj : World} {hs : List Hold} (h : Tk w wi hs) (hb : Below wi.heap.size wi wj) : Tk w wj hs := by
  refine ⟨h.1.trans (hb.mono h.1.size), fun x hx => ?_⟩
  obtain ⟨h1, h2, h3⟩ := h.2 x hx
  have := hb.size
  exact ⟨by omega, h2, h2 wi wj (fun g _ hg => hb.block g (by omega)) h3⟩
theorem Tk.drew {w wi : World} {hs : List Hold} (h : Tk w wi hs) : Tk w wi.drew hs := h.below (Below.refl _ _).drew
theorem Tk.drewN {w wi : World} {hs : List Hold} (h : Tk w wi hs) (n : Nat) : Tk w (wi.drewN n) hs := h.below (below_drewN (Below.refl _ _) n)
theorem Tk.get {w wi : World} {hs : List Hold} (h : Tk w wi hs) (n : Nat) {lo hi : Nat} {P : World → Prop} (hn : hs[n]? = some (lo, hi, P)) : P wi := (h.2 _ (List.mem_of_getElem? hn)).2.2
theorem Tk.hi {w wi : World} {hs : List Hold} (h : Tk w wi hs) (n : Nat) {lo hi : Nat} {P : World → Prop} (hn : hs[n]? = some (lo, hi, P)) : hi ≤ wi.heap.size := (h.2 _ (List.mem_of_getElem? hn)).1
theorem Tk.add {w wi wj : World} {hs : List Hold} (h : Tk w wi hs) (hb : Below wi.heap.size wi wj) {P : World → Prop} (hl : Loc wi.heap.size wj.heap.size P) (hp : P wj) : Tk w wj ((wi.heap.size, wj.heap.size, P) :: hs) := by
  obtain ⟨h1, h2⟩ := h.below hb
  refine ⟨h1, fun x hx => ?_⟩
  rcases List.mem_cons.1 hx with rfl | hx
  · exact ⟨Nat.le_refl _, hl, hp⟩
  · exact h2 x hx
/-- Something more is known. -/
theorem Tk.put {w wi : World} {hs : List Hold} (h : Tk w wi hs) {lo hi : Nat} {P : World → Prop} (hh : hi ≤ wi.heap.size) (hl : Loc lo hi P) (hp : P wi) : Tk w wi ((lo, hi, P) :: hs) := by
  refine ⟨h.1, fun x hx => ?_⟩
  rcases List.mem_cons.1 hx with rfl | hx
  · exact ⟨hh, hl, hp⟩
  · exact h.2 x hx
/-- A row of cells in a block. -/
def Cel (b : Nat) (cs : Array Value) (t : TypeId) : World → Prop := fun W => W.heap[b]? = some (.cells cs t (0, 0))
theorem Cel.loc (b : Nat) (cs : Array Value) (t : TypeId) : Loc b (b + 1) (Cel b cs t) := fun _ _ hk h => (hk b (Nat.le_refl _) (by omega)).trans h
theorem Tk.cell {w wi : World} {hs : List Hold} (h : Tk w wi hs) (cs : Array Value) (t : TypeId) : Tk w (wi.alloc (.cells cs t)) ((wi.heap.size, wi.heap.size + 1, Cel wi.heap.size cs t) :: hs) := by
  have hz : (wi.alloc (.cells cs t)).heap.size = wi.heap.size + 1 := by simp
  have := h.add ((Below.refl _ _).alloc (Nat.le_refl _) (.cells cs t)) (P := Cel wi.heap.size cs t) (by rw [hz]; exact Cel.loc _ _ _) (heap_alloc_new wi _)
  rw [hz] at this
  exact this
theorem Tk.at {w wi : World} {hs : List Hold} (h : Tk w wi hs) (n : Nat) {lo hi b : Nat} {cs : Array Value} {t : TypeId} (k : Nat) {v : Value} (hn : hs[n]? = some (lo, hi, Cel b cs t)) (hk : cs[k]? = some v) : wi.cell? ⟨b, k, none⟩ = some v := by
  rw [cell_of_row _ _ k _ _ _ (h.get n hn)]
  exact hk
theorem Tk.fr {w wi : World} {hs : List Hold} (h : Tk w wi hs) (n : Nat) {lo hi b : Nat} {cs : Array Value} {t : TypeId} (k : Nat) (hn : hs[n]? = some (lo, hi, Cel b cs t)) : wi.frozen? ⟨b, k, none⟩ = false := frozen_of_row _ _ k _ _ (h.get n hn)
theorem Tk.drop {w wi : World} {hs hs' : List Hold} (h : Tk w wi hs) (hh : ∀ x ∈ hs', x ∈ hs) : Tk w wi hs' := ⟨h.1, fun x hx => h.2 x (hh x hx)⟩
/-- A cell is written: all that lie in other blocks stay. -/
theorem Tk.write {w wi : World} {hs hs' : List Hold} {lo hi b : Nat} {v : Value} {t : TypeId} (h : Tk w wi hs) (n : Nat) (hn : hs[n]? = some (lo, hi, Cel b #[v] t)) (hb : w.heap.size ≤ b) (u : Value) (hh : ∀ x ∈ hs', x ∈ hs ∧ (x.2.1 ≤ b ∨ b + 1 ≤ x.1)) :
    Tk w (wi.setCell ⟨b, 0, none⟩ u) ((b, b + 1, Cel b #[u] t) :: hs') := by
  have hc := h.get n hn
  have hlt := (Array.getElem?_eq_some_iff.1 hc).1
  have hq : Cel b #[u] t (wi.setCell ⟨b, 0, none⟩ u) := by
    show (wi.setCell ⟨b, 0, none⟩ u).heap[b]? = _
    rw [setCell_eq_setRow wi b 0 #[v] t (0, 0) u hc]
    exact setRow_heap wi b #[v] _ t _ hc
  have hs := h.1.size
  have hz : (wi.setCell ⟨b, 0, none⟩ u).heap.size = wi.heap.size := by simp [World.setCell]
  refine ⟨h.1.setCell (p := ⟨b, 0, none⟩) hb u, fun x hx => ?_⟩
  rcases List.mem_cons.1 hx with rfl | hx
  · exact ⟨by rw [hz]; exact hlt, Cel.loc _ _ _, hq⟩
  · obtain ⟨hx1, hx2⟩ := hh x hx
    obtain ⟨h1, h2, h3⟩ := h.2 x hx1
    exact ⟨by rw [hz]; exact h1, h2, h2 wi _ (fun g g1 g2 => Below.heap_setCell _ _ _ _ (fun (e : g = b) => by omega)) h3⟩
/-- Another reading of one of them. -/
theorem Tk.as {w wi : World} {hs : List Hold} (h : Tk w wi hs) (n : Nat) {lo hi : Nat} {P Q : World → Prop} (hn : hs[n]? = some (lo, hi, P)) (hl : Loc lo hi Q) (hq : Q wi) : Tk w wi ((lo, hi, Q) :: hs) := by
  refine ⟨h.1, fun x hx => ?_⟩
  rcases List.mem_cons.1 hx with rfl | hx
  · exact ⟨h.hi n hn, hl, hq⟩
  · exact h.2 x hx
/-- A range of blocks. -/
def Apt (lo hi i : Nat) : Prop := ¬ (lo ≤ i ∧ i < hi)
/-- One of them is changed: all that lie apart from it stay. -/
theorem Tk.touch {w wi wj : World} {hs hs' : List Hold} {lo hi : Nat} {Q : World → Prop} (h : Tk w wi hs) (hk : Kept2 wi wj (Apt lo hi)) (hlo : w.heap.size ≤ lo) (hhi : hi ≤ wi.heap.size) (hl : Loc lo hi Q) (hq : Q wj)
    (hh : ∀ x ∈ hs', x ∈ hs ∧ (x.2.1 ≤ lo ∨ hi ≤ x.1)) : Tk w wj ((lo, hi, Q) :: hs') := by
  have hs := hk.2.2.2.1
  have hs1 := h.1.size
  refine ⟨h.1.trans (hk.down h.1.size (fun i hi' hq => by omega)), fun x hx => ?_⟩
  rcases List.mem_cons.1 hx with rfl | hx
  · exact ⟨by show hi ≤ _; omega, hl, hq⟩
  · obtain ⟨hx1, hx2⟩ := hh x hx
    obtain ⟨h1, h2, h3⟩ := h.2 x hx1
    exact ⟨by omega, h2, h2 wi wj (fun g g1 g2 => hk.2.2.2.2 g (by omega) (fun hz => by omega)) h3⟩
/-- .. and nothing of it is kept. -/
theorem Tk.spoil {w wi wj : World} {hs hs' : List Hold} {lo hi : Nat} (h : Tk w wi hs) (hk : Kept2 wi wj (Apt lo hi)) (hlo : w.heap.size ≤ lo) (hhi : hi ≤ wi.heap.size) (hh : ∀ x ∈ hs', x ∈ hs ∧ (x.2.1 ≤ lo ∨ hi ≤ x.1)) : Tk w wj hs' :=
  (h.touch hk hlo hhi (Q := fun _ => True) (fun _ _ _ _ => trivial) trivial hh).drop (fun _ hx => List.mem_cons_of_mem _ hx)
/-- A new cell, its block by name. -/
theorem Tk.celln {w wi : World} {hs : List Hold} (h : Tk w wi hs) {n : Nat} (hn : wi.heap.size = n) (cs : Array Value) (t : TypeId) : Tk w (wi.alloc (.cells cs t)) ((n, n + 1, Cel n cs t) :: hs) := by
  subst hn
  exact h.cell cs t
theorem alloc_size {w : World} {n : Nat} (hn : w.heap.size = n) (o : Obj) : (w.alloc o).heap.size = n + 1 := by simp [hn]
theorem Tk.two (w : World) (c1 c2 : Array Value) (t1 t2 : TypeId) : Tk w ((w.alloc (.cells c1 t1)).alloc (.cells c2 t2)) [(w.heap.size + 1, w.heap.size + 1 + 1, Cel (w.heap.size + 1) c2 t2), (w.heap.size, w.heap.size + 1, Cel w.heap.size c1 t1)] :=
  ((Tk.start w).celln rfl c1 t1).celln (alloc_size rfl _) c2 t2
theorem Tk.three (w : World) (c1 c2 c3 : Array Value) (t1 t2 t3 : TypeId) : Tk w (((w.alloc (.cells c1 t1)).alloc (.cells c2 t2)).alloc (.cells c3 t3)) [(w.heap.size + 1 + 1, w.heap.size + 1 + 1 + 1, Cel (w.heap.size + 1 + 1) c3 t3), (w.heap.size + 1, w.heap.size + 1 + 1, Cel (w.heap.size + 1) c2 t2), (w.heap.size, w.heap.size + 1, Cel w.heap.size c1 t1)] :=
  (Tk.two w c1 c2 t1 t2).celln (alloc_size (alloc_size rfl _) _) c3 t3
end Go.Proofs.YtiicghepilbgfaaGreatDoor
