/-
  What the laws over drawn flashes hold while they go on.
-/
import Derived.Test.YthkkefbhcmhijaaDrawR
import Derived.Test.YthkkefbhcmhijaaSameF
import Derived.Test.YthkkefbhcmhijaaIProg
import Derived.Test.YthkkefbhcmhijaaIWipe
import Derived.Test.YthkkefbhcmhijaaIBad
import Derived.Test.YthkkefbhcmhijaaIRead
namespace Go.Proofs.Ythkkefbhcmhijaa
open Go.RowKit

/-- What is held: rows of cells (block, cells, type), flashes (from, to, slice, what they tell). -/
def Tr (w wi : World) (cs : List (Nat × Array Value × TypeId)) (fs : List (Nat × Nat × Value × List Bk)) : Prop :=
  Below w.heap.size w wi ∧ (∀ c ∈ cs, wi.heap[c.1]? = some (.cells c.2.1 c.2.2 (0, 0))) ∧ ∀ f ∈ fs, f.2.1 ≤ wi.heap.size ∧ ∃ ss, ss.map tellOf = f.2.2.2 ∧ FlashIn wi f.1 f.2.1 f.2.2.1 ss
theorem Tr.below {w wi wj : World} {cs : List (Nat × Array Value × TypeId)} {fs : List (Nat × Nat × Value × List Bk)} (h : Tr w wi cs fs) (hb : Below wi.heap.size wi wj) : Tr w wj cs fs := by
  obtain ⟨h1, h2, h3⟩ := h
  have hs := hb.size
  refine ⟨h1.trans (hb.mono h1.size), fun c hc => (hb.block _ (Array.getElem?_eq_some_iff.1 (h2 c hc)).1).trans (h2 c hc), fun f hf => ?_⟩
  obtain ⟨a, ss, e, i⟩ := h3 f hf
  exact ⟨by omega, ss, e, i.kept (fun g _ hg => hb.block g (by omega))⟩
theorem Tr.drew {w wi : World} {cs : List (Nat × Array Value × TypeId)} {fs : List (Nat × Nat × Value × List Bk)} (h : Tr w wi cs fs) : Tr w wi.drew cs fs := h.below (Below.refl _ _).drew
theorem Tr.cell {w wi : World} {cs : List (Nat × Array Value × TypeId)} {fs : List (Nat × Nat × Value × List Bk)} (h : Tr w wi cs fs) (v : Array Value) (t : TypeId) : Tr w (wi.alloc (.cells v t)) ((wi.heap.size, v, t) :: cs) fs := by
  obtain ⟨h1, h2, h3⟩ := h.below ((Below.refl _ _).alloc (Nat.le_refl _) (.cells v t))
  refine ⟨h1, fun c hc => ?_, h3⟩
  rcases List.mem_cons.1 hc with rfl | hc
  · exact heap_alloc_new wi _
  · exact h2 c hc
theorem Tr.add {w wi wj : World} {cs : List (Nat × Array Value × TypeId)} {fs : List (Nat × Nat × Value × List Bk)} {v : Value} {bs : List Bk} (h : Tr w wi cs fs) (hb : Below wi.heap.size wi wj) (hf : FlashOf wj wi.heap.size v bs) : Tr w wj cs ((wi.heap.size, wj.heap.size, v, bs) :: fs) := by
  obtain ⟨h1, h2, h3⟩ := h.below hb
  refine ⟨h1, h2, fun f hf' => ?_⟩
  rcases List.mem_cons.1 hf' with rfl | hf'
  · exact ⟨Nat.le_refl _, hf⟩
  · exact h3 f hf'
theorem Tr.row {w wi : World} {cs : List (Nat × Array Value × TypeId)} {fs : List (Nat × Nat × Value × List Bk)} (h : Tr w wi cs fs) (n : Nat) {g : Nat} {v : Array Value} {t : TypeId} (hn : cs[n]? = some (g, v, t)) : wi.heap[g]? = some (.cells v t (0, 0)) := h.2.1 _ (List.mem_of_getElem? hn)
theorem Tr.at {w wi : World} {cs : List (Nat × Array Value × TypeId)} {fs : List (Nat × Nat × Value × List Bk)} (h : Tr w wi cs fs) (n : Nat) {g : Nat} {v : Value} {t : TypeId} (hn : cs[n]? = some (g, #[v], t)) : wi.cell? ⟨g, 0, none⟩ = some v := cell_of_row _ _ 0 _ _ _ (h.row n hn)
theorem Tr.fl {w wi : World} {cs : List (Nat × Array Value × TypeId)} {fs : List (Nat × Nat × Value × List Bk)} (h : Tr w wi cs fs) (n : Nat) {lo hi : Nat} {v : Value} {bs : List Bk} (hn : fs[n]? = some (lo, hi, v, bs)) : hi ≤ wi.heap.size ∧ ∃ ss, ss.map tellOf = bs ∧ FlashIn wi lo hi v ss := h.2.2 _ (List.mem_of_getElem? hn)
/-- .. as a flash that a function answered. -/
theorem Tr.of {w wi : World} {cs : List (Nat × Array Value × TypeId)} {fs : List (Nat × Nat × Value × List Bk)} (h : Tr w wi cs fs) (n : Nat) {lo hi : Nat} {v : Value} {bs : List Bk} (hn : fs[n]? = some (lo, hi, v, bs)) : FlashOf wi lo v bs := by
  obtain ⟨h1, ss, e, i⟩ := h.fl n hn
  exact ⟨ss, e, i.up h1⟩
theorem right_tx {n : Int} {ss : List Rw} (h : Right n (ss.map tellOf)) : TxB ss := by
  intro q hq t ht
  have := h.tx _ (List.mem_map_of_mem (f := tellOf) hq) t ht
  omega
theorem ok_fo {w : World} {B : Nat} {v : Value} {bs : List Bk} {n : Int} (h : FlashOf w B v bs) (hr : Right n bs) : Calls Try.prog 10 #[.agg #[v]] w fun e w' => e = .returned (.bool true) ∧ Below w.heap.size w w' := by
  obtain ⟨ss, e1, i1, l, ll⟩ := h.lens hr
  have := iok_any v ss _ _ w l ll (Nat.le_refl _) i1
  rw [e1, hr.1] at this
  exact this
theorem wipe_fo {w : World} {B : Nat} {v : Value} {bs : List Bk} {n : Int} (b : Int) (h : FlashOf w B v bs) (hr : Right n bs) :
    Calls Try.prog 13 #[.agg #[v], .int .i64 b] w fun e w' => ∃ u, e = .returned (.tuple #[.agg #[u], .bool (wipeF bs b).2]) ∧ FlashOf w' w.heap.size u (wipeF bs b).1 ∧ Below w.heap.size w w' := by
  obtain ⟨ss, e1, i1, l, ll⟩ := h.lens hr
  subst e1
  exact iwipe_any v ss _ _ b w l ll (right_tx hr) (Nat.le_refl _) i1
theorem bad_fo {w : World} {B : Nat} {v : Value} {bs : List Bk} {n : Int} (b : Int) (h : FlashOf w B v bs) (hr : Right n bs) :
    Calls Try.prog 14 #[.agg #[v], .int .i64 b] w fun e w' => ∃ u, e = .returned (.agg #[u]) ∧ FlashOf w' w.heap.size u (badF bs b) ∧ Below w.heap.size w w' := by
  obtain ⟨ss, e1, i1, l, ll⟩ := h.lens hr
  subst e1
  exact ibad_any v ss _ _ b w l ll (right_tx hr) (Nat.le_refl _) i1
theorem prog_fo {w : World} {B : Nat} {v : Value} {bs : List Bk} {n : Int} (b leaf : Int) (t : ByteArray) (h : FlashOf w B v bs) (hr : Right n bs) :
    Calls Try.prog 9 #[.agg #[v], .int .i64 b, .int .i64 leaf, .string t] w fun e w' => ∃ u, e = .returned (.tuple #[.agg #[u], .bool (programF bs b leaf t).2]) ∧ FlashOf w' w.heap.size u (programF bs b leaf t).1 ∧ Below w.heap.size w w' := by
  obtain ⟨ss, e1, i1, l, ll⟩ := h.lens hr
  subst e1
  exact iprog_any v ss _ _ b leaf t w l ll (right_tx hr) (Nat.le_refl _) i1
theorem read_fo {w : World} {B : Nat} {v : Value} {bs : List Bk} {n : Int} (b leaf : Int) (h : FlashOf w B v bs) (hr : Right n bs) :
    Calls Try.prog 12 #[.agg #[v], .int .i64 b, .int .i64 leaf] w fun e w' => e = .returned (.tuple #[.string (readF bs b leaf).1, .bool (readF bs b leaf).2]) ∧ Below w.heap.size w w' := by
  obtain ⟨ss, e1, i1, l, ll⟩ := h.lens hr
  subst e1
  exact iread_any v ss _ _ b leaf w l ll (right_tx hr) (Nat.le_refl _) i1
theorem FlashOf.rd {w : World} {B gu n cap : Nat} {bs : List Bk} (h : FlashOf w B (.slice (some ⟨gu, 0, none⟩) n cap) bs) : RdF w gu bs := by
  intro k r hr
  obtain ⟨ld, lcap, hc, own⟩ := h.blk hr
  refine ⟨ld, lcap, hc, fun j t ht => ?_⟩
  obtain ⟨ad, c, e, -, -, l3⟩ := frow_form own
  injection e with e1 e2 e3
  subst e1 e3
  obtain ⟨gl, rfl, -, -⟩ := l3 (by have := (List.getElem?_eq_some_iff.1 ht).1; omega)
  obtain ⟨d1, d2⟩ := lown_cells own ht
  exact ⟨gl, rfl, d1, d2⟩
end Go.Proofs.Ythkkefbhcmhijaa
