/-
  Tk; Fla; LawT
-/
import Derived.Test.YtcbhbjglgkaabaoDoorPk0
import Derived.Test.YtcbhbjglgkaabaoDoorFOf
import Derived.Test.YtcbhbjglgkaabaoDoorLawB
import Derived.Test.YtcbhbjglgkaabaoDoorFMark
/-
  What a law holds while it goes on: things that lie in blocks of their own.
-/
namespace Go.Proofs.YtcbhbjglgkaabaoDoor
open Go.RowKit

/-- What hangs on the blocks from lo on and below hi alone. -/
def Loc (lo hi : Nat) (P : World → Prop) : Prop := ∀ w w' : World, (∀ g, lo ≤ g → g < hi → w'.heap[g]? = w.heap[g]?) → P w → P w'
/-- Such a thing. -/
abbrev Hold := Nat × Nat × (World → Prop)
def Tk (w wi : World) (hs : List Hold) : Prop := Below w.heap.size w wi ∧ ∀ h ∈ hs, h.2.1 ≤ wi.heap.size ∧ Loc h.1 h.2.1 h.2.2 ∧ h.2.2 wi
theorem Tk.start (w : World) : Tk w w [] := ⟨Below.refl _ _, fun _ h => by cases h⟩
theorem Tk.below {w wi wj : World} {hs : List Hold} (h : Tk w wi hs) (hb : Below wi.heap.size wi wj) : Tk w wj hs := by
  refine ⟨h.1.trans (hb.mono h.1.size), fun x hx => ?_⟩
  obtain ⟨h1, h2, h3⟩ := h.2 x hx
  have := hb.size
  exact ⟨by omega, h2, h2 wi wj (fun g _ hg => hb.block g (by omega)) h3⟩
theorem Tk.drew {w wi : World} {hs : List Hold} (h : Tk w wi hs) : Tk w wi.drew hs := h.below (Below.refl _ _).drew
theorem Tk.drewN {w wi : World} {hs : List Hold} (h : Tk w wi hs) (n : Nat) : Tk w (wi.drewN n) hs := h.below (below_drewN (Below.refl _ _) n)
theorem Tk.get {w wi : World} {hs : List Hold} (h : Tk w wi hs) (n : Nat) {lo hi : Nat} {P : World → Prop} (hn : hs[n]? = some (lo, hi, P)) : P wi := (h.2 _ (List.mem_of_getElem? hn)).2.2
theorem Tk.hi {w wi : World} {hs : List Hold} (h : Tk w wi hs) (n : Nat) {lo hi : Nat} {P : World → Prop} (hn : hs[n]? = some (lo, hi, P)) : hi ≤ wi.heap.size := (h.2 _ (List.mem_of_getElem? hn)).1
theorem Tk.add {w wi wj : World} {hs : List Hold} (h : Tk w wi hs) (hb : Below wi.heap.size wi wj) {P : World → Prop} (hl : Loc wi.heap.size wj.heap.size P) (hp : P wj) : Tk w wj ((wi.heap.size, wj.heap.size, P) :: hs) := by
  obtain ⟨h1, h2⟩ := h.below hb
  refine ⟨h1, fun x hx => ?_⟩
  rcases List.mem_cons.1 hx with rfl | hx
  · exact ⟨Nat.le_refl _, hl, hp⟩
  · exact h2 x hx
/-- Something more is known. -/
theorem Tk.put {w wi : World} {hs : List Hold} (h : Tk w wi hs) {lo hi : Nat} {P : World → Prop} (hh : hi ≤ wi.heap.size) (hl : Loc lo hi P) (hp : P wi) : Tk w wi ((lo, hi, P) :: hs) := by
  refine ⟨h.1, fun x hx => ?_⟩
  rcases List.mem_cons.1 hx with rfl | hx
  · exact ⟨hh, hl, hp⟩
  · exact h.2 x hx
/-- A row of cells in a block. -/
def Cel (b : Nat) (cs : Array Value) (t : TypeId) : World → Prop := fun W => W.heap[b]? = some (.cells cs t (0, 0))
theorem Cel.loc (b : Nat) (cs : Array Value) (t : TypeId) : Loc b (b + 1) (Cel b cs t) := fun _ _ hk h => (hk b (Nat.le_refl _) (by omega)).trans h
theorem Tk.cell {w wi : World} {hs : List Hold} (h : Tk w wi hs) (cs : Array Value) (t : TypeId) : Tk w (wi.alloc (.cells cs t)) ((wi.heap.size, wi.heap.size + 1, Cel wi.heap.size cs t) :: hs) := by
  have hz : (wi.alloc (.cells cs t)).heap.size = wi.heap.size + 1 := by simp
  have := h.add ((Below.refl _ _).alloc (Nat.le_refl _) (.cells cs t)) (P := Cel wi.heap.size cs t) (by rw [hz]; exact Cel.loc _ _ _) (heap_alloc_new wi _)
  rw [hz] at this
  exact this
theorem Tk.at {w wi : World} {hs : List Hold} (h : Tk w wi hs) (n : Nat) {lo hi b : Nat} {cs : Array Value} {t : TypeId} (k : Nat) {v : Value} (hn : hs[n]? = some (lo, hi, Cel b cs t)) (hk : cs[k]? = some v) : wi.cell? ⟨b, k, none⟩ = some v := by
  rw [cell_of_row _ _ k _ _ _ (h.get n hn)]
  exact hk
theorem Tk.fr {w wi : World} {hs : List Hold} (h : Tk w wi hs) (n : Nat) {lo hi b : Nat} {cs : Array Value} {t : TypeId} (k : Nat) (hn : hs[n]? = some (lo, hi, Cel b cs t)) : wi.frozen? ⟨b, k, none⟩ = false := frozen_of_row _ _ k _ _ (h.get n hn)
theorem Tk.drop {w wi : World} {hs hs' : List Hold} (h : Tk w wi hs) (hh : ∀ x ∈ hs', x ∈ hs) : Tk w wi hs' := ⟨h.1, fun x hx => h.2 x (hh x hx)⟩
/-- A cell is written: all that lie in other blocks stay. -/
theorem Tk.write {w wi : World} {hs hs' : List Hold} {lo hi b : Nat} {v : Value} {t : TypeId} (h : Tk w wi hs) (n : Nat) (hn : hs[n]? = some (lo, hi, Cel b #[v] t)) (hb : w.heap.size ≤ b) (u : Value) (hh : ∀ x ∈ hs', x ∈ hs ∧ (x.2.1 ≤ b ∨ b + 1 ≤ x.1)) :
    Tk w (wi.setCell ⟨b, 0, none⟩ u) ((b, b + 1, Cel b #[u] t) :: hs') := by
  have hc := h.get n hn
  have hlt := (Array.getElem?_eq_some_iff.1 hc).1
  have hq : Cel b #[u] t (wi.setCell ⟨b, 0, none⟩ u) := by
    show (wi.setCell ⟨b, 0, none⟩ u).heap[b]? = _
    rw [setCell_eq_setRow wi b 0 #[v] t (0, 0) u hc]
    exact setRow_heap wi b #[v] _ t _ hc
  have hs := h.1.size
  have hz : (wi.setCell ⟨b, 0, none⟩ u).heap.size = wi.heap.size := by simp [World.setCell]
  refine ⟨h.1.setCell (p := ⟨b, 0, none⟩) hb u, fun x hx => ?_⟩
  rcases List.mem_cons.1 hx with rfl | hx
  · exact ⟨by rw [hz]; exact hlt, Cel.loc _ _ _, hq⟩
  · obtain ⟨hx1, hx2⟩ := hh x hx
    obtain ⟨h1, h2, h3⟩ := h.2 x hx1
    exact ⟨by rw [hz]; exact h1, h2, h2 wi _ (fun g g1 g2 => Below.heap_setCell _ _ _ _ (fun (e : g = b) => by omega)) h3⟩
/-- Another reading of one of them. -/
theorem Tk.as {w wi : World} {hs : List Hold} (h : Tk w wi hs) (n : Nat) {lo hi : Nat} {P Q : World → Prop} (hn : hs[n]? = some (lo, hi, P)) (hl : Loc lo hi Q) (hq : Q wi) : Tk w wi ((lo, hi, Q) :: hs) := by
  refine ⟨h.1, fun x hx => ?_⟩
  rcases List.mem_cons.1 hx with rfl | hx
  · exact ⟨h.hi n hn, hl, hq⟩
  · exact h.2 x hx
/-- A range of blocks. -/
def Apt (lo hi i : Nat) : Prop := ¬ (lo ≤ i ∧ i < hi)
/-- One of them is changed: all that lie apart from it stay. -/
theorem Tk.touch {w wi wj : World} {hs hs' : List Hold} {lo hi : Nat} {Q : World → Prop} (h : Tk w wi hs) (hk : Kept2 wi wj (Apt lo hi)) (hlo : w.heap.size ≤ lo) (hhi : hi ≤ wi.heap.size) (hl : Loc lo hi Q) (hq : Q wj)
    (hh : ∀ x ∈ hs', x ∈ hs ∧ (x.2.1 ≤ lo ∨ hi ≤ x.1)) : Tk w wj ((lo, hi, Q) :: hs') := by
  have hs := hk.2.2.2.1
  have hs1 := h.1.size
  refine ⟨h.1.trans (hk.down h.1.size (fun i hi' hq => by omega)), fun x hx => ?_⟩
  rcases List.mem_cons.1 hx with rfl | hx
  · exact ⟨by show hi ≤ _; omega, hl, hq⟩
  · obtain ⟨hx1, hx2⟩ := hh x hx
    obtain ⟨h1, h2, h3⟩ := h.2 x hx1
    exact ⟨by omega, h2, h2 wi wj (fun g g1 g2 => hk.2.2.2.2 g (by omega) (fun hz => by omega)) h3⟩
/-- .. and nothing of it is kept. -/
theorem Tk.spoil {w wi wj : World} {hs hs' : List Hold} {lo hi : Nat} (h : Tk w wi hs) (hk : Kept2 wi wj (Apt lo hi)) (hlo : w.heap.size ≤ lo) (hhi : hi ≤ wi.heap.size) (hh : ∀ x ∈ hs', x ∈ hs ∧ (x.2.1 ≤ lo ∨ hi ≤ x.1)) : Tk w wj hs' :=
  (h.touch hk hlo hhi (Q := fun _ => True) (fun _ _ _ _ => trivial) trivial hh).drop (fun _ hx => List.mem_cons_of_mem _ hx)
end Go.Proofs.YtcbhbjglgkaabaoDoor

/-
  A flash among what a law holds.
-/
namespace Go.Proofs.YtcbhbjglgkaabaoDoor
open Go.RowKit

/-- A flash in blocks from lo on and below hi. -/
def Fla (lo hi : Nat) (v : Value) (bs : List Bk) : World → Prop := fun W => ∃ ss : List Rw, ss.map tellOf = bs ∧ FlashIn W lo hi v ss
theorem Fla.loc (lo hi : Nat) (v : Value) (bs : List Bk) : Loc lo hi (Fla lo hi v bs) := by
  rintro w w' hk ⟨ss, e, h⟩
  exact ⟨ss, e, h.kept hk⟩
theorem Fla.form {w : World} {lo hi : Nat} {v : Value} {bs : List Bk} (h : Fla lo hi v bs w) : ∃ ad cap, v = .slice ad bs.length cap ∧ (0 < bs.length → ∃ g, ad = some ⟨g, 0, none⟩ ∧ lo ≤ g ∧ g < hi) := by
  obtain ⟨ss, rfl, h⟩ := h
  obtain ⟨ad, cap, rfl, -, -, h3⟩ := frow_form h.1
  refine ⟨ad, cap, by simp, fun hp => ?_⟩
  obtain ⟨g, e, h4, -⟩ := h3 (by simpa using hp)
  subst e
  exact ⟨g, rfl, h4, h.2.1 g rfl⟩
/-- What a function answered joins what is held. -/
theorem Tk.fla {w wi wj : World} {hs : List Hold} {v : Value} {bs : List Bk} (T : Tk w wi hs) (hb : Below wi.heap.size wi wj) (f : FlashOf wj wi.heap.size v bs) : Tk w wj ((wi.heap.size, wj.heap.size, Fla wi.heap.size wj.heap.size v bs) :: hs) := T.add hb (Fla.loc _ _ _ _) f
/-- The cells of a block. -/
theorem Fla.cells {w : World} {lo hi g n cap k : Nat} {bs : List Bk} {b : Bk} (h : Fla lo hi (.slice (some ⟨g, 0, none⟩) n cap) bs w) (hb : bs[k]? = some b) : w.cell? ⟨g, k * 3, none⟩ = some (.bool b.1) ∧ w.cell? ⟨g, k * 3 + 1, none⟩ = some (.int .i64 b.2.1) ∧ ∃ u, w.cell? ⟨g, k * 3 + 2, none⟩ = some u ∧ w.ownsRow lo 95 2 u b.2.2.length (lcells b.2.2) := by
  obtain ⟨ss, rfl, h⟩ := h
  rw [List.getElem?_map] at hb
  cases hr : ss[k]? with
  | none => rw [hr] at hb; cases hb
  | some r =>
    rw [hr] at hb
    cases hb
    have hn : n = ss.length := by
      obtain ⟨ad, c, e, -⟩ := frow_form h.1
      injection e
    subst hn
    obtain ⟨c1, c2, c3⟩ := kown_cells (k := k) (t := cellOf r) h.1 (by rw [List.getElem?_map, hr]; rfl)
    exact ⟨c1, c2, _, c3, (h.2.2.1 r (List.mem_of_getElem? hr)).1⟩
/-- Numbers that lie in a block. -/
def Nums (g : Nat) (l : List Int) : World → Prop := fun W => ∀ j x, l[j]? = some x → W.cell? ⟨g, j, none⟩ = some (.int .i64 x)
theorem Nums.loc (g : Nat) (l : List Int) : Loc g (g + 1) (Nums g l) := fun w w' hk h j x hx => (World.cell?_of_block (hk g (Nat.le_refl _) (by omega))).trans (h j x hx)
end Go.Proofs.YtcbhbjglgkaabaoDoor

/-
  What the exact laws over flashes hold: the flash made of the argument, its like, and marked ones.
-/
namespace Go.Proofs.YtcbhbjglgkaabaoDoor
open Go.RowKit

theorem Fla.lens {w : World} {lo hi : Nat} {v : Value} {bs : List Bk} (h : Fla lo hi v bs w) (ho : Okk bs) : ∃ ss, ss.map tellOf = bs ∧ FlashIn w lo hi v ss ∧ ss.length ≤ 1048576 ∧ (∀ q ∈ ss, q.2.2.2.length ≤ 1048576) ∧ endB 1 ss = endK 1 bs := Inn.lens h ho
theorem to_tk {w wi : World} {hs : List Hold} {a : Option Addr} {len cap : Nat} {rs : List Rw} {bs : List Bk} (T : Tk w wi hs) (H : BkRow w a len rs) (hbs : rs.map tellOf = bs) (hl : len ≤ 1048576) (hll : ∀ q ∈ rs, q.2.2.2.length ≤ 1048576) :
    Calls Tryd.prog 16 #[.agg #[.slice a len cap]] wi fun e w' => ∃ ad c, e = .returned (.agg #[.slice ad bs.length c]) ∧ Tk w w' ((wi.heap.size, w'.heap.size, Fla wi.heap.size w'.heap.size (.slice ad bs.length c) bs) :: hs) ∧ wi.heap.size ≤ w'.heap.size := by
  refine (toFlash_any a len cap rs wi hl hll (H.below T.1)).mono ?_
  rintro e w2 ⟨v1, rfl, f1, b2⟩
  rw [hbs] at f1
  have T2 := T.add b2 (Fla.loc _ _ v1 bs) f1
  obtain ⟨ad1, cap1, rfl⟩ := f1.form
  exact ⟨ad1, cap1, rfl, T2, b2.size⟩
theorem eq_tk {w wi : World} {hs : List Hold} {u v : Value} {l1 h1 l2 h2 : Nat} {bs : List Bk} (T : Tk w wi hs) (n1 n2 : Nat) (ho : Okk bs) (e1 : hs[n1]? = some (l1, h1, Fla l1 h1 u bs)) (e2 : hs[n2]? = some (l2, h2, Fla l2 h2 v bs)) :
    Calls Tryd.prog 19 #[.agg #[u], .agg #[v]] wi fun e w' => e = .returned (.bool true) ∧ Tk w w' hs ∧ wi.heap.size ≤ w'.heap.size := by
  refine (eq_of _ _ bs _ _ _ _ wi ho ⟨T.hi n1 e1, T.get n1 e1⟩ ⟨T.hi n2 e2, T.get n2 e2⟩).mono ?_
  rintro e w2 ⟨rfl, b2⟩
  exact ⟨rfl, T.below b2, b2.size⟩
/-- A flash is marked: it is spoilt, and what lies apart from it stays. -/
theorem mark_tk {w wi : World} {hs hs' : List Hold} {u : Value} {l1 h1 : Nat} {bs : List Bk} (T : Tk w wi hs) (n1 : Nat) (ho : Okk bs) (e1 : hs[n1]? = some (l1, h1, Fla l1 h1 u bs)) (hlo : w.heap.size ≤ l1) (hh : ∀ x ∈ hs', x ∈ hs ∧ (x.2.1 ≤ l1 ∨ h1 ≤ x.1)) :
    Calls Tryd.prog 20 #[.agg #[u], .int .i64 1] wi fun e w' => e = .returned (.int .i64 ((endK 1 bs : Nat) : Int)) ∧ Tk w w' hs' ∧ wi.heap.size ≤ w'.heap.size := by
  obtain ⟨rs, e3, i1, l, ll, e2⟩ := (T.get n1 e1).lens ho
  refine (markFlash_any u rs l1 h1 wi l ll (by rw [e2]; exact ho.2.2) (T.hi n1 e1) i1).mono ?_
  rintro e w2 ⟨rfl, h2, h3⟩
  rw [e2]
  exact ⟨rfl, T.spoil (show Kept2 wi w2 (Apt l1 h1) from h3.out) hlo (T.hi n1 e1) hh, h3.out.2.2.2.1⟩
end Go.Proofs.YtcbhbjglgkaabaoDoor
