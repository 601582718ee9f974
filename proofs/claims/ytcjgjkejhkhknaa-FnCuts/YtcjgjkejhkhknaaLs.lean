/-
  Where the draw of steps stands: the cursor, the flash so far, the row so far.
-/
import Derived.Test.YtcjgjkejhkhknaaPq88
import Derived.Test.YtcjgjkejhkhknaaPq89
import Derived.Test.YtcjgjkejhkhknaaSPlace
import Derived.Test.YtcjgjkejhkhknaaDrawA
import Derived.Test.YtcjgjkejhkhknaaPq90
import Derived.Test.YtcjgjkejhkhknaaPq30
namespace Go.Proofs.Ytcjgjkejhkhknaa
open Go.RowKit

/-- None of its rows lies in block p. -/
def NeV (p : Nat) (v : Value) (rs : List Rw) : Prop := (∀ g n c, v = .slice (some g) n c → g.block ≠ p) ∧ ∀ r ∈ rs, ∀ g n c, r.2.2.1 = .slice (some g) n c → g.block ≠ p
theorem GeV.ne {lo p : Nat} {v : Value} {rs : List Rw} (h : GeV lo v rs) (hp : p < lo) : NeV p v rs := ⟨fun g n c e => by have := h.1 g n c e; omega, fun r hr g n c e => by have := h.2 r hr g n c e; omega⟩
def RdP (p : Nat) (w : World) (v : Value) (bs : List Bk) : Prop := ∃ rs : List Rw, rs.map tellOf = bs ∧ FlashRd w v rs ∧ NeV p v rs
theorem RdP.rdb {p : Nat} {w : World} {v : Value} {bs : List Bk} (h : RdP p w v bs) : RdB w v bs := by
  obtain ⟨rs, e, h, -⟩ := h
  exact ⟨rs, e, h⟩
theorem FlashOf.rdp {w : World} {B p : Nat} {v : Value} {bs : List Bk} (h : FlashOf w B v bs) (hp : p < B) : RdP p w v bs := by
  obtain ⟨ss, e, h⟩ := h
  exact ⟨ss, e, h.rd, h.ge.ne hp⟩
theorem kept_cell {w w' : World} {p g o : Nat} {x : Value} (hk : Kept2 w w' (· ≠ p)) (hx : w.cell? ⟨g, o, none⟩ = some x) (hg : g ≠ p) : w'.cell? ⟨g, o, none⟩ = some x :=
  (World.cell?_of_block (hk.2.2.2.2 g (World.block_lt_of_cell? w _ hx) hg)).trans hx
theorem RdP.kept {p : Nat} {w w' : World} {v : Value} {bs : List Bk} (h : RdP p w v bs) (hk : Kept2 w w' (· ≠ p)) : RdP p w' v bs := by
  obtain ⟨rs, e, h, hn⟩ := h
  refine ⟨rs, e, ?_, hn⟩
  obtain ⟨vd, vcap, rfl, en, h⟩ := h
  refine ⟨vd, vcap, rfl, en, fun k r hr => ?_⟩
  obtain ⟨g, e2, ⟨c1, c2, c3⟩, ld, lc, e3, en3, hl⟩ := h k r hr
  subst e2
  have hg := hn.1 _ _ _ rfl
  refine ⟨g, rfl, ⟨kept_cell hk c1 hg, kept_cell hk c2 hg, kept_cell hk c3 hg⟩, ld, lc, e3, en3, fun j t ht => ?_⟩
  obtain ⟨gl, o, e4, d1, d2⟩ := hl j t ht
  subst e4
  have hgl := hn.2 r (List.mem_of_getElem? hr) _ _ _ e3
  exact ⟨gl, o, rfl, kept_cell hk d1 hgl, kept_cell hk d2 hgl⟩
theorem kept_drawn {w w' : World} {p : Nat} {ad : Option Addr} {len cap : Nat} (h : Drawn w w' p ad len cap) : Kept2 w w' (· ≠ p) := Kept2.grown h.1 (fun j e => by cases e; simp)
/-- A cell of a block made since is written. -/
theorem kept_put {w x : World} {p g o : Nat} {u : Value} (h : Kept2 w x (· ≠ p)) (hg : w.heap.size ≤ g) : Kept2 w (x.setCell ⟨g, o, none⟩ u) (· ≠ p) :=
  ⟨h.1, h.2.1, h.2.2.1, by simpa [World.setCell] using h.2.2.2.1, fun i hi ho => (Below.heap_setCell _ _ _ _ (by show i ≠ g; omega)).trans (h.2.2.2.2 i hi ho)⟩

/-- What a round of the draw holds of the world that it began in. -/
def Lb (w wr : World) (p : Nat) (ad : Option Addr) (len cap : Nat) (nv u : Value) (cs : List Bk) (l : List Stp) : Prop :=
  Drawn w wr p ad len cap ∧ wr.heap[w.heap.size + 1 + 1]? = some (.cells #[nv] 28 (0, 0)) ∧ RdP p wr nv cs ∧ wr.ownsRow (w.heap.size + 1) 49 4 u l.length (stcells l)
/-- .. and of the world where it stands. -/
def Ls (w wr x : World) (p : Nat) (ad : Option Addr) (len cap : Nat) : Prop := Drawn w x p ad len cap ∧ Kept2 wr x (· ≠ p)
theorem Ls.start {w wr : World} {p : Nat} {ad : Option Addr} {len cap : Nat} {nv u : Value} {cs : List Bk} {l : List Stp} (h : Lb w wr p ad len cap nv u cs l) : Ls w wr wr p ad len cap := ⟨h.1, Kept2.refl _ _⟩
theorem Ls.drawn {w wr x y : World} {p : Nat} {ad : Option Addr} {len cap : Nat} (h : Ls w wr x p ad len cap) (d : Drawn x y p ad len cap) : Ls w wr y p ad len cap := ⟨h.1.trans d, h.2.trans (kept_drawn d)⟩
theorem Ls.below {w wr x y : World} {p : Nat} {ad : Option Addr} {len cap : Nat} (h : Ls w wr x p ad len cap) (hp : p < w.heap.size) (hb : Below x.heap.size x y) : Ls w wr y p ad len cap := ⟨h.1.below (hb.mono h.1.1.size) hp, h.2.trans (Kept2.below hb)⟩
theorem Ls.put {w wr x : World} {p g o : Nat} {ad : Option Addr} {len cap : Nat} (h : Ls w wr x p ad len cap) (hp : p < w.heap.size) (hw : w.heap.size ≤ wr.heap.size) (hg : wr.heap.size ≤ g) (u : Value) : Ls w wr (x.setCell ⟨g, o, none⟩ u) p ad len cap :=
  ⟨h.1.below ((Below.refl _ _).setCell (p := ⟨g, o, none⟩) (by show _ ≤ g; omega) u) hp, kept_put h.2 hg⟩
theorem Ls.code {w wr x : World} {p B : Nat} {ad : Option Addr} {len cap : Nat} (h : Ls w wr x p ad len cap) (hd : CodeIn w ad len B) (hB : B ≤ p) (hp : p < w.heap.size) : CodeIn x ad len B := h.1.code hd hB hp
theorem Lb.now {w wr x : World} {p : Nat} {ad : Option Addr} {len cap : Nat} {nv u : Value} {cs : List Bk} {l : List Stp} (b : Lb w wr p ad len cap nv u cs l) (h : Ls w wr x p ad len cap) (hp : p < w.heap.size) : x.heap[w.heap.size + 1 + 1]? = some (.cells #[nv] 28 (0, 0)) :=
  (h.2.2.2.2.2 _ (Array.getElem?_eq_some_iff.1 b.2.1).1 (by show _ ≠ p; omega)).trans b.2.1
theorem Lb.rdb {w wr x : World} {p : Nat} {ad : Option Addr} {len cap : Nat} {nv u : Value} {cs : List Bk} {l : List Stp} (b : Lb w wr p ad len cap nv u cs l) (h : Ls w wr x p ad len cap) : RdB x nv cs := (b.2.2.1.kept h.2).rdb
theorem Lb.own {w wr x : World} {p : Nat} {ad : Option Addr} {len cap : Nat} {nv u : Value} {cs : List Bk} {l : List Stp} (b : Lb w wr p ad len cap nv u cs l) (h : Ls w wr x p ad len cap) (hp : p < w.heap.size) : x.ownsRow (w.heap.size + 1) 49 4 u l.length (stcells l) :=
  own_blocks (hi := wr.heap.size) b.2.2.2 (fun g hg => (own_block_lt b.2.2.2 g hg).2) (fun g g1 g2 => h.2.2.2.2.2 g g2 (by show g ≠ p; omega))
theorem Lb.ownz {w wr x x1 : World} {p : Nat} {ad : Option Addr} {len cap : Nat} {nv u : Value} {cs : List Bk} {l : List Stp} (b : Lb w wr p ad len cap nv u cs l) (h : Ls w wr x p ad len cap) (hp : p < w.heap.size) (hb : Below x.heap.size x x1) (z : Value) : (x1.setCell ⟨w.heap.size + 1 + 1, 0, none⟩ z).ownsRow (w.heap.size + 1) 49 4 u l.length (stcells l) := by
  have hown := b.own h hp
  have hnow := b.now h hp
  refine (own_below hown hb).kept (grown_cell x1 (w.heap.size + 1 + 1) 0 z) (Or.inr (fun e => ?_))
  rcases hown.2 with ⟨rfl, -⟩ | ⟨g, cap', cur, rfl, -, e1, -⟩
  · cases e
  · simp only [Value.ownBlock, Option.some.injEq] at e
    subst e
    rw [hnow] at e1
    simp at e1
/-- The end of a round: the flash is another, and the row has one more. -/
theorem Lb.next {w wr x x1 y : World} {p : Nat} {ad : Option Addr} {len cap : Nat} {nv u nv' u' : Value} {cs cs' : List Bk} {l : List Stp} {s : Stp} {o : Obj} (b : Lb w wr p ad len cap nv u cs l) (h : Ls w wr x p ad len cap) (hp : p < w.heap.size) (hb : Below x.heap.size x x1) (f : FlashOf x1 x.heap.size nv' cs')
    (ho : y.ownsRow (w.heap.size + 1) 49 4 u' (l.length + 1) (stcells l ++ stcell s)) (hg : ((x1.setCell ⟨w.heap.size + 1 + 1, 0, none⟩ nv').alloc o).grownBy y u.ownBlock) : Lb w y p ad len cap nv' u' cs' (l ++ [s]) := by
  have hx := h.1.1.size
  have hnow := b.now h hp
  have hnl := (Array.getElem?_eq_some_iff.1 hnow).1
  have hw2 : w.heap.size + 1 + 1 < x.heap.size := hnl
  have hown := b.own h hp
  have hul : ∀ g, u.ownBlock = some g → w.heap.size + 1 ≤ g ∧ g < x.heap.size := own_block_lt hown
  have hs1 := hb.size
  have b1 : Below w.heap.size x (x1.setCell ⟨w.heap.size + 1 + 1, 0, none⟩ nv') := (hb.mono (by omega)).setCell (p := ⟨w.heap.size + 1 + 1, 0, none⟩) (by show _ ≤ _ + 1 + 1; omega) nv'
  have b2 := b1.alloc (by have := b1.size; omega) o
  have b3 := b2.grown hg (by have := b2.size; omega) (fun k hk => by have := (hul k hk).1; omega)
  -- the cell of the flash
  have c0 : (x1.setCell ⟨w.heap.size + 1 + 1, 0, none⟩ nv').heap[w.heap.size + 1 + 1]? = some (.cells #[nv'] 28 (0, 0)) := row_set ((hb.block _ hnl).trans hnow) 0 nv'
  have c1 : ((x1.setCell ⟨w.heap.size + 1 + 1, 0, none⟩ nv').alloc o).heap[w.heap.size + 1 + 1]? = some (.cells #[nv'] 28 (0, 0)) := (Below.heap_alloc _ _ _ (by simp only [World.setCell, Array.size_modify]; omega)).trans c0
  have hne : some (w.heap.size + 1 + 1) ≠ u.ownBlock := by
    intro e
    rcases hown.2 with ⟨rfl, -⟩ | ⟨g, cap', cur, rfl, -, e1, -⟩
    · cases e
    · simp only [Value.ownBlock, Option.some.injEq] at e
      subst e
      rw [hnow] at e1
      simp at e1
  have c2 : y.heap[w.heap.size + 1 + 1]? = some (.cells #[nv'] 28 (0, 0)) := (hg.block _ (by simp [World.setCell]; omega) hne).trans c1
  -- the flash
  have f1 := (f.cell hw2 0 nv').below ((Below.refl _ _).alloc (Nat.le_refl _) o)
  have f2 : FlashOf y x.heap.size nv' cs' := by
    obtain ⟨ss, e, hs⟩ := f1
    refine ⟨ss, e, (hs.kept (w' := y) (fun g g1 g2 => hg.block g g2 (fun e => ?_))).up hg.size⟩
    have := (hul g e.symm).2
    omega
  refine ⟨h.1.below b3 hp, c2, f2.rdp (by omega), ?_⟩
  rw [List.length_append, stcells_app]
  have e1 : stcells [s] = stcell s := by simp [stcells]
  rw [e1]
  exact ho
theorem splace_b (v : Value) (bs : List Bk) (w : World) (hs : Sml bs) (ha : RdB w v bs) :
    Calls Try.prog 37 #[.agg #[v]] w fun e w' => e = .returned (plV (placeF bs)) ∧ Below w.heap.size w w' := by
  obtain ⟨rs, rfl, h, l, ll, lt⟩ := ha.lens hs
  exact splace_rd v rs w l ll h
end Go.Proofs.Ytcjgjkejhkhknaa
