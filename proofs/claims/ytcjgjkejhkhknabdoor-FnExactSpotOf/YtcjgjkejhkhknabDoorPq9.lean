/-
  Tk; Flt; FdR
-/
import Derived.Test.YtcjgjkejhkhknabDoorPq0
import Derived.Test.YtcjgjkejhkhknabDoorPq2
import Derived.Test.YtcjgjkejhkhknabDoorPq8
/-
  What a law holds while it goes on: things that lie in blocks of their own.
-/
namespace Go.Proofs.YtcjgjkejhkhknabDoor
open Go.RowKit

/-- What hangs on the blocks from lo on and below hi alone. -/
def Loc (lo hi : Nat) (P : World → Prop) : Prop := ∀ w w' : World, (∀ g, lo ≤ g → g < hi → w'.heap[g]? = w.heap[g]?) → P w → P w'
/-- Such a thing. -/
abbrev Hold := Nat × Nat × (World → Prop)
def Tk (w wi : World) (hs : List Hold) : Prop := Below w.heap.size w wi ∧ ∀ h ∈ hs, h.2.1 ≤ wi.heap.size ∧ Loc h.1 h.2.1 h.2.2 ∧ h.2.2 wi
theorem Tk.start (w : World) : Tk w w [] := ⟨Below.refl _ _, fun _ h => by cases h⟩
theorem Tk.below {w wi wj : World} {hs : List Hold} (h : Tk w wi hs) (hb : Below wi.heap.size wi wj) : Tk w wj hs := by
  refine ⟨h.1.trans (hb.mono h.1.size), fun x hx => ?_⟩
  obtain ⟨h1, h2, h3⟩ := h.2 x hx
  have := hb.size
  exact ⟨by omega, h2, h2 wi wj (fun g _ hg => hb.block g (by omega)) h3⟩
theorem Tk.drew {w wi : World} {hs : List Hold} (h : Tk w wi hs) : Tk w wi.drew hs := h.below (Below.refl _ _).drew
theorem Tk.drewN {w wi : World} {hs : List Hold} (h : Tk w wi hs) (n : Nat) : Tk w (wi.drewN n) hs := h.below (below_drewN (Below.refl _ _) n)
theorem Tk.get {w wi : World} {hs : List Hold} (h : Tk w wi hs) (n : Nat) {lo hi : Nat} {P : World → Prop} (hn : hs[n]? = some (lo, hi, P)) : P wi := (h.2 _ (List.mem_of_getElem? hn)).2.2
theorem Tk.hi {w wi : World} {hs : List Hold} (h : Tk w wi hs) (n : Nat) {lo hi : Nat} {P : World → Prop} (hn : hs[n]? = some (lo, hi, P)) : hi ≤ wi.heap.size := (h.2 _ (List.mem_of_getElem? hn)).1
theorem Tk.add {w wi wj : World} {hs : List Hold} (h : Tk w wi hs) (hb : Below wi.heap.size wi wj) {P : World → Prop} (hl : Loc wi.heap.size wj.heap.size P) (hp : P wj) : Tk w wj ((wi.heap.size, wj.heap.size, P) :: hs) := by
  obtain ⟨h1, h2⟩ := h.below hb
  refine ⟨h1, fun x hx => ?_⟩
  rcases List.mem_cons.1 hx with rfl | hx
  · exact ⟨Nat.le_refl _, hl, hp⟩
  · exact h2 x hx
/-- Something more is known. -/
theorem Tk.put {w wi : World} {hs : List Hold} (h : Tk w wi hs) {lo hi : Nat} {P : World → Prop} (hh : hi ≤ wi.heap.size) (hl : Loc lo hi P) (hp : P wi) : Tk w wi ((lo, hi, P) :: hs) := by
  refine ⟨h.1, fun x hx => ?_⟩
  rcases List.mem_cons.1 hx with rfl | hx
  · exact ⟨hh, hl, hp⟩
  · exact h.2 x hx
/-- A row of cells in a block. -/
def Cel (b : Nat) (cs : Array Value) (t : TypeId) : World → Prop := fun W => W.heap[b]? = some (.cells cs t (0, 0))
theorem Cel.loc (b : Nat) (cs : Array Value) (t : TypeId) : Loc b (b + 1) (Cel b cs t) := fun _ _ hk h => (hk b (Nat.le_refl _) (by omega)).trans h
theorem Tk.cell {w wi : World} {hs : List Hold} (h : Tk w wi hs) (cs : Array Value) (t : TypeId) : Tk w (wi.alloc (.cells cs t)) ((wi.heap.size, wi.heap.size + 1, Cel wi.heap.size cs t) :: hs) := by
  have hz : (wi.alloc (.cells cs t)).heap.size = wi.heap.size + 1 := by simp
  have := h.add ((Below.refl _ _).alloc (Nat.le_refl _) (.cells cs t)) (P := Cel wi.heap.size cs t) (by rw [hz]; exact Cel.loc _ _ _) (heap_alloc_new wi _)
  rw [hz] at this
  exact this
theorem Tk.at {w wi : World} {hs : List Hold} (h : Tk w wi hs) (n : Nat) {lo hi b : Nat} {cs : Array Value} {t : TypeId} (k : Nat) {v : Value} (hn : hs[n]? = some (lo, hi, Cel b cs t)) (hk : cs[k]? = some v) : wi.cell? ⟨b, k, none⟩ = some v := by
  rw [cell_of_row _ _ k _ _ _ (h.get n hn)]
  exact hk
theorem Tk.fr {w wi : World} {hs : List Hold} (h : Tk w wi hs) (n : Nat) {lo hi b : Nat} {cs : Array Value} {t : TypeId} (k : Nat) (hn : hs[n]? = some (lo, hi, Cel b cs t)) : wi.frozen? ⟨b, k, none⟩ = false := frozen_of_row _ _ k _ _ (h.get n hn)
theorem Tk.drop {w wi : World} {hs hs' : List Hold} (h : Tk w wi hs) (hh : ∀ x ∈ hs', x ∈ hs) : Tk w wi hs' := ⟨h.1, fun x hx => h.2 x (hh x hx)⟩
/-- A cell is written: all that lie in other blocks stay. -/
theorem Tk.write {w wi : World} {hs hs' : List Hold} {lo hi b : Nat} {v : Value} {t : TypeId} (h : Tk w wi hs) (n : Nat) (hn : hs[n]? = some (lo, hi, Cel b #[v] t)) (hb : w.heap.size ≤ b) (u : Value) (hh : ∀ x ∈ hs', x ∈ hs ∧ (x.2.1 ≤ b ∨ b + 1 ≤ x.1)) :
    Tk w (wi.setCell ⟨b, 0, none⟩ u) ((b, b + 1, Cel b #[u] t) :: hs') := by
  have hc := h.get n hn
  have hlt := (Array.getElem?_eq_some_iff.1 hc).1
  have hq : Cel b #[u] t (wi.setCell ⟨b, 0, none⟩ u) := by
    show (wi.setCell ⟨b, 0, none⟩ u).heap[b]? = _
    rw [setCell_eq_setRow wi b 0 #[v] t (0, 0) u hc]
    exact setRow_heap wi b #[v] _ t _ hc
  have hs := h.1.size
  have hz : (wi.setCell ⟨b, 0, none⟩ u).heap.size = wi.heap.size := by simp [World.setCell]
  refine ⟨h.1.setCell (p := ⟨b, 0, none⟩) hb u, fun x hx => ?_⟩
  rcases List.mem_cons.1 hx with rfl | hx
  · exact ⟨by rw [hz]; exact hlt, Cel.loc _ _ _, hq⟩
  · obtain ⟨hx1, hx2⟩ := hh x hx
    obtain ⟨h1, h2, h3⟩ := h.2 x hx1
    exact ⟨by rw [hz]; exact h1, h2, h2 wi _ (fun g g1 g2 => Below.heap_setCell _ _ _ _ (fun (e : g = b) => by omega)) h3⟩
/-- Another reading of one of them. -/
theorem Tk.as {w wi : World} {hs : List Hold} (h : Tk w wi hs) (n : Nat) {lo hi : Nat} {P Q : World → Prop} (hn : hs[n]? = some (lo, hi, P)) (hl : Loc lo hi Q) (hq : Q wi) : Tk w wi ((lo, hi, Q) :: hs) := by
  refine ⟨h.1, fun x hx => ?_⟩
  rcases List.mem_cons.1 hx with rfl | hx
  · exact ⟨h.hi n hn, hl, hq⟩
  · exact h.2 x hx
/-- A range of blocks. -/
def Apt (lo hi i : Nat) : Prop := ¬ (lo ≤ i ∧ i < hi)
/-- One of them is changed: all that lie apart from it stay. -/
theorem Tk.touch {w wi wj : World} {hs hs' : List Hold} {lo hi : Nat} {Q : World → Prop} (h : Tk w wi hs) (hk : Kept2 wi wj (Apt lo hi)) (hlo : w.heap.size ≤ lo) (hhi : hi ≤ wi.heap.size) (hl : Loc lo hi Q) (hq : Q wj)
    (hh : ∀ x ∈ hs', x ∈ hs ∧ (x.2.1 ≤ lo ∨ hi ≤ x.1)) : Tk w wj ((lo, hi, Q) :: hs') := by
  have hs := hk.2.2.2.1
  have hs1 := h.1.size
  refine ⟨h.1.trans (hk.down h.1.size (fun i hi' hq => by omega)), fun x hx => ?_⟩
  rcases List.mem_cons.1 hx with rfl | hx
  · exact ⟨by show hi ≤ _; omega, hl, hq⟩
  · obtain ⟨hx1, hx2⟩ := hh x hx
    obtain ⟨h1, h2, h3⟩ := h.2 x hx1
    exact ⟨by omega, h2, h2 wi wj (fun g g1 g2 => hk.2.2.2.2 g (by omega) (fun hz => by omega)) h3⟩
/-- .. and nothing of it is kept. -/
theorem Tk.spoil {w wi wj : World} {hs hs' : List Hold} {lo hi : Nat} (h : Tk w wi hs) (hk : Kept2 wi wj (Apt lo hi)) (hlo : w.heap.size ≤ lo) (hhi : hi ≤ wi.heap.size) (hh : ∀ x ∈ hs', x ∈ hs ∧ (x.2.1 ≤ lo ∨ hi ≤ x.1)) : Tk w wj hs' :=
  (h.touch hk hlo hhi (Q := fun _ => True) (fun _ _ _ _ => trivial) trivial hh).drop (fun _ hx => List.mem_cons_of_mem _ hx)
/-- A new cell, its block by name. -/
theorem Tk.celln {w wi : World} {hs : List Hold} (h : Tk w wi hs) {n : Nat} (hn : wi.heap.size = n) (cs : Array Value) (t : TypeId) : Tk w (wi.alloc (.cells cs t)) ((n, n + 1, Cel n cs t) :: hs) := by
  subst hn
  exact h.cell cs t
theorem alloc_size {w : World} {n : Nat} (hn : w.heap.size = n) (o : Obj) : (w.alloc o).heap.size = n + 1 := by simp [hn]
theorem Tk.two (w : World) (c1 c2 : Array Value) (t1 t2 : TypeId) : Tk w ((w.alloc (.cells c1 t1)).alloc (.cells c2 t2)) [(w.heap.size + 1, w.heap.size + 1 + 1, Cel (w.heap.size + 1) c2 t2), (w.heap.size, w.heap.size + 1, Cel w.heap.size c1 t1)] :=
  ((Tk.start w).celln rfl c1 t1).celln (alloc_size rfl _) c2 t2
theorem Tk.three (w : World) (c1 c2 c3 : Array Value) (t1 t2 t3 : TypeId) : Tk w (((w.alloc (.cells c1 t1)).alloc (.cells c2 t2)).alloc (.cells c3 t3)) [(w.heap.size + 1 + 1, w.heap.size + 1 + 1 + 1, Cel (w.heap.size + 1 + 1) c3 t3), (w.heap.size + 1, w.heap.size + 1 + 1, Cel (w.heap.size + 1) c2 t2), (w.heap.size, w.heap.size + 1, Cel w.heap.size c1 t1)] :=
  (Tk.two w c1 c2 t1 t2).celln (alloc_size (alloc_size rfl _) _) c3 t3
end Go.Proofs.YtcjgjkejhkhknabDoor

/-
  Rows by their cells alone, and the marks of the laws.
-/
namespace Go.Proofs.YtcjgjkejhkhknabDoor
open Go.RowKit

/-- A block whose first cells are these. -/
def Flt (t : TypeId) (g : Nat) (xs : List Value) : World → Prop := fun W => ∃ cs : Array Value, W.heap[g]? = some (.cells cs t (0, 0)) ∧ ∀ (i : Nat) (v : Value), xs[i]? = some v → cs[i]? = some v
theorem Flt.loc (t : TypeId) (g : Nat) (xs : List Value) : Loc g (g + 1) (Flt t g xs) := by
  rintro w w' hk ⟨cs, h1, h2⟩
  exact ⟨cs, (hk g (Nat.le_refl _) (by omega)).trans h1, h2⟩
theorem Flt.cell {t : TypeId} {g : Nat} {xs : List Value} {w : World} (h : Flt t g xs w) {k : Nat} {v : Value} (hk : xs[k]? = some v) : w.cell? ⟨g, k, none⟩ = some v := by
  obtain ⟨cs, h1, h2⟩ := h
  rw [cell_of_row _ _ k _ _ _ h1]
  exact h2 k v hk
theorem Flt.frozen {t : TypeId} {g : Nat} {xs : List Value} {w : World} (h : Flt t g xs w) (o : Nat) : w.frozen? ⟨g, o, none⟩ = false := by
  obtain ⟨cs, h1, -⟩ := h
  exact frozen_of_row _ _ o _ _ h1
theorem Flt.below {t : TypeId} {g : Nat} {xs : List Value} {w w' : World} (h : Flt t g xs w) (hb : Below w.heap.size w w') : Flt t g xs w' := by
  have hlt : g < w.heap.size := by obtain ⟨cs, h1, -⟩ := h; exact (Array.getElem?_eq_some_iff.1 h1).1
  exact Flt.loc t g xs w w' (fun q q1 q2 => hb.block q (by omega)) h
theorem Flt.set {t : TypeId} {g : Nat} {xs : List Value} {w : World} (h : Flt t g xs w) (k : Nat) (u : Value) : Flt t g (xs.set k u) (w.setCell ⟨g, k, none⟩ u) := by
  obtain ⟨cs, h1, h2⟩ := h
  refine ⟨cs.setIfInBounds k u, ?_, fun i v hv => ?_⟩
  · rw [setCell_eq_setRow w g k cs t (0, 0) u h1]
    exact setRow_heap w g cs _ t _ h1
  · rw [List.getElem?_set] at hv
    rw [Array.getElem?_setIfInBounds]
    by_cases e : k = i
    · rw [if_pos e] at hv ⊢
      by_cases hl : k < xs.length
      · rw [if_pos hl] at hv
        obtain ⟨x, hx⟩ : ∃ x, xs[k]? = some x := ⟨_, List.getElem?_eq_getElem hl⟩
        have := (Array.getElem?_eq_some_iff.1 (h2 k x hx)).1
        rw [if_pos this]
        exact hv
      · rw [if_neg hl] at hv
        cases hv
    · rw [if_neg e] at hv ⊢
      exact h2 i v hv
/-- Cells are written one behind the other. -/
theorem Flt.step {t : TypeId} {g k : Nat} {xs M : List Value} {w : World} {u : Value} (h : Flt t g (M.take k ++ xs.drop k) w) (hu : M[k]? = some u) (hl : M.length = xs.length) : Flt t g (M.take (k + 1) ++ xs.drop (k + 1)) (w.setCell ⟨g, k, none⟩ u) := by
  obtain ⟨hk, e⟩ := List.getElem?_eq_some_iff.1 hu
  have := h.set k u
  rw [List.set_append_right _ _ (by rw [List.length_take]; omega), List.length_take, Nat.min_eq_left (by omega), Nat.sub_self, List.drop_eq_getElem_cons (by omega), List.set_cons_zero] at this
  rw [List.take_succ_eq_append_getElem hk, e, List.append_assoc]
  exact this
theorem Flt.old {t : TypeId} {g k : Nat} {xs M : List Value} {w : World} {u : Value} (h : Flt t g (M.take k ++ xs.drop k) w) (hu : xs[k]? = some u) (hl : M.length = xs.length) : w.cell? ⟨g, k, none⟩ = some u := by
  obtain ⟨hk, e⟩ := List.getElem?_eq_some_iff.1 hu
  refine h.cell ?_
  rw [List.getElem?_append_right (by rw [List.length_take]; omega), List.length_take, Nat.min_eq_left (by omega), Nat.sub_self, List.getElem?_drop]
  simpa using hu

/-- A slice of n elements, whose cells are these, in a block from lo on and below hi. -/
def Sli (t : TypeId) (lo hi : Nat) (v : Value) (n : Nat) (xs : List Value) : World → Prop := fun W => (v = .slice none 0 0 ∧ n = 0) ∨ ∃ g cap, v = .slice (some ⟨g, 0, none⟩) n cap ∧ lo ≤ g ∧ g < hi ∧ Flt t g xs W
theorem Sli.loc (t : TypeId) (lo hi : Nat) (v : Value) (n : Nat) (xs : List Value) : Loc lo hi (Sli t lo hi v n xs) := by
  rintro w w' hk (h | ⟨g, cap, h1, h2, h3, h4⟩)
  · exact Or.inl h
  · exact Or.inr ⟨g, cap, h1, h2, h3, Flt.loc t g xs w w' (fun q q1 q2 => hk q (by omega) (by omega)) h4⟩
theorem Sli.form {t : TypeId} {lo hi n : Nat} {v : Value} {xs : List Value} {w : World} (h : Sli t lo hi v n xs w) : ∃ ad cap, v = .slice ad n cap ∧ (0 < n → ∃ g, ad = some ⟨g, 0, none⟩ ∧ lo ≤ g ∧ g < hi) := by
  rcases h with ⟨h1, h2⟩ | ⟨g, cap, h1, h2, h3, -⟩
  · exact ⟨none, 0, by rw [h1, h2], fun h => by omega⟩
  · exact ⟨_, cap, h1, fun _ => ⟨g, rfl, h2, h3⟩⟩
theorem Sli.flt {t : TypeId} {lo hi n g cap : Nat} {xs : List Value} {w : World} (h : Sli t lo hi (.slice (some ⟨g, 0, none⟩) n cap) n xs w) : Flt t g xs w := by
  rcases h with ⟨h1, -⟩ | ⟨g', cap', h1, -, -, h4⟩
  · cases h1
  · injection h1 with a
    injection a with a
    injection a with a
    subst a
    exact h4
theorem Sli.of {t : TypeId} {size lo n : Nat} {v : Value} {xs : List Value} {w : World} (h : w.ownsRow lo t size v n xs) : Sli t lo w.heap.size v n xs w := by
  have hlt := h.lt
  rcases h.2 with ⟨h1, h2⟩ | ⟨g, cap, cur, rfl, h2, h3, h4, h5, h6, h7⟩
  · exact Or.inl ⟨h1, h2⟩
  · refine Or.inr ⟨g, cap, rfl, h2, (hlt g rfl).2, cur, h3, fun i x hx => ?_⟩
    rw [← h7] at hx
    obtain ⟨h8, h9⟩ := List.getElem?_eq_some_iff.1 hx
    rw [List.getElem_take] at h9
    rw [List.length_take] at h8
    rw [← Array.getElem?_toList, List.getElem?_eq_some_iff]
    exact ⟨by omega, h9⟩

/-- The mark of one cell: a number, or a text. -/
def mkv (s : Bool) (k : Nat) : Value := if s then .string ⟨(markL k).toArray⟩ else .int .i64 (k : Int)
/-- The marks of n elements of one make. -/
def mkFlat (pat : List Bool) (k0 n : Nat) : List Value := (List.range (n * pat.length)).map (fun i => mkv (pat.getD (i % pat.length) false) (k0 + i))
theorem mkFlat_len (pat : List Bool) (k0 n : Nat) : (mkFlat pat k0 n).length = n * pat.length := by simp [mkFlat]
theorem mkFlat_at (pat : List Bool) (k0 n i j : Nat) (s : Bool) (hi : i < n) (hs : pat[j]? = some s) : (mkFlat pat k0 n)[i * pat.length + j]? = some (mkv s (k0 + (i * pat.length + j))) := by
  have hj := (List.getElem?_eq_some_iff.1 hs).1
  have hlt : i * pat.length + j < n * pat.length := by
    have : (i + 1) * pat.length ≤ n * pat.length := Nat.mul_le_mul_right _ (by omega)
    rw [Nat.succ_mul] at this
    omega
  have hm : (i * pat.length + j) % pat.length = j := by
    rw [Nat.add_comm, Nat.add_mul_mod_self_right]
    exact Nat.mod_eq_of_lt hj
  simp only [mkFlat, List.getElem?_map, List.getElem?_range hlt, Option.map_some, hm, List.getD_eq_getElem?_getD, hs, Option.getD_some]
end Go.Proofs.YtcjgjkejhkhknabDoor

/-
  Rows of what a scan found that can be read.
-/
namespace Go.Proofs.YtcjgjkejhkhknabDoor
open Go.RowKit
open Words

def FdRd (w : World) (a : Option Addr) (len : Nat) (ls : List Fnd) : Prop :=
  ls.length = len ∧ len ≤ maxLen ∧ (0 < len → ∃ b off, a = some ⟨b, off, none⟩ ∧ b < w.heap.size ∧ ∀ i t, ls[i]? = some t → ∀ j v, (fdCells t)[j]? = some v → w.cell? ⟨b, off + (i * 8 + j), none⟩ = some v)
theorem FdRd.below {w w' : World} {a : Option Addr} {len : Nat} {ls : List Fnd} (h : FdRd w a len ls) (hb : Below w.heap.size w w') : FdRd w' a len ls := by
  obtain ⟨h1, h2, h4⟩ := h
  refine ⟨h1, h2, fun h0 => ?_⟩
  obtain ⟨b, off, e, hl, hc⟩ := h4 h0
  have hs := hb.size
  exact ⟨b, off, e, by omega, fun i t ht j v hv => (hb.cell (show b < w.heap.size from hl)).trans (hc i t ht j v hv)⟩
theorem FdRd.at {w : World} {a : Option Addr} {len : Nat} {ls : List Fnd} (h : FdRd w a len ls) {k : Nat} {t : Fnd} (hk : ls[k]? = some t) :
    ∃ b off, a = some ⟨b, off, none⟩ ∧ b < w.heap.size ∧ w.cell? ⟨b, off + k * 8, none⟩ = some (.int .i64 t.block) ∧ w.cell? ⟨b, off + k * 8 + 1, none⟩ = some (.int .i64 t.leaf) ∧
      w.cell? ⟨b, off + k * 8 + 2, none⟩ = some (.int .i64 t.page.kind) ∧ w.cell? ⟨b, off + k * 8 + 2 + 1, none⟩ = some (.int .i64 t.page.seq) ∧ w.cell? ⟨b, off + k * 8 + 2 + 2, none⟩ = some (.int .i64 t.page.tx) ∧
      w.cell? ⟨b, off + k * 8 + 2 + 3, none⟩ = some (.int .i64 t.page.part) ∧ w.cell? ⟨b, off + k * 8 + 2 + 4, none⟩ = some (.int .i64 t.page.count) ∧ w.cell? ⟨b, off + k * 8 + 2 + 5, none⟩ = some (.string t.page.text) := by
  obtain ⟨h1, -, h4⟩ := h
  have hl := (List.getElem?_eq_some_iff.1 hk).1
  obtain ⟨b, off, e, hb, hc⟩ := h4 (by omega)
  have hc := hc k t hk
  refine ⟨b, off, e, hb, hc 0 _ rfl, ?_, ?_, ?_, ?_, ?_, ?_, ?_⟩
  · have := hc 1 _ rfl; rwa [← Nat.add_assoc] at this
  · have := hc 2 _ rfl; rwa [← Nat.add_assoc] at this
  · have := hc 3 _ rfl; rwa [← Nat.add_assoc] at this
  · have := hc 4 _ rfl; rwa [← Nat.add_assoc] at this
  · have := hc 5 _ rfl; rwa [← Nat.add_assoc] at this
  · have := hc 6 _ rfl; rwa [← Nat.add_assoc] at this
  · have := hc 7 _ rfl; rwa [← Nat.add_assoc] at this
theorem Sli.fdrd {lo hi n c : Nat} {ad : Option Addr} {M : List Fnd} {W : World} (h : Sli 49 lo hi (.slice ad n c) n (fcells M) W) (hn : M.length = n) (hm : n ≤ maxLen) (hh : hi ≤ W.heap.size) : FdRd W ad n M := by
  refine ⟨hn, hm, fun h0 => ?_⟩
  rcases h with ⟨e, rfl⟩ | ⟨g, cap, e, h1, h2, h3⟩
  · omega
  · injection e with e1 e2 e3
    refine ⟨g, 0, e1, by omega, fun i t hi j v hj => ?_⟩
    rw [Nat.zero_add]
    exact h3.cell (fcells_at M i t hi j v hj)
end Go.Proofs.YtcjgjkejhkhknabDoor
