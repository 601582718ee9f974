/-
  What the laws of chapter 5 hold while they go on: cells of their own, flashes that tell something, flashes that are marked.
-/
import Derived.Test.YtaolinlginloaadDoorPk6
import Derived.Test.YtaolinlginloaadDoorFTo2
import Derived.Test.YtaolinlginloaadDoorFEq
namespace Go.Proofs.YtaolinlginloaadDoor
open Go.RowKit

def endK : Nat → List Bk → Nat
  | k, [] => k
  | k, r :: rs => endK (k + 2 + 2 * r.2.2.length) rs
theorem endK_tell (k : Nat) (rs : List Rw) : endK k (rs.map tellOf) = endB k rs := by
  induction rs generalizing k with
  | nil => rfl
  | cons r rs ih => simp only [List.map_cons, endK, endB, tellOf]; exact ih _
theorem endK_shape (k : Nat) (xs bs : List Bk) (h : xs.map (fun r => r.2.2.length) = bs.map (fun r => r.2.2.length)) : endK k xs = endK k bs := by
  induction xs generalizing k bs with
  | nil =>
    cases bs with
    | nil => rfl
    | cons b bs => cases h
  | cons a xs ih =>
    cases bs with
    | nil => cases h
    | cons b bs =>
      simp only [List.map_cons, List.cons.injEq] at h
      simp only [endK]
      rw [h.1]
      exact ih _ bs h.2
/-- Neither too long for the law. -/
def Okk (bs : List Bk) : Prop := bs.length ≤ 1048576 ∧ (∀ r ∈ bs, r.2.2.length ≤ 1048576) ∧ endK 1 bs ≤ 1000000000
def TxK (bs : List Bk) : Prop := ∀ r ∈ bs, ∀ t ∈ r.2.2, t.2.size ≤ 1048576
theorem Okk.shape {xs bs : List Bk} (h : Okk bs) (e : xs.map (fun r => r.2.2.length) = bs.map (fun r => r.2.2.length)) : Okk xs := by
  have h1 := congrArg List.length e
  simp only [List.length_map] at h1
  refine ⟨by rw [h1]; exact h.1, fun r hr => ?_, by rw [endK_shape 1 xs bs e]; exact h.2.2⟩
  have h2 : r.2.2.length ∈ xs.map (fun r => r.2.2.length) := List.mem_map_of_mem (f := fun r : Bk => r.2.2.length) hr
  rw [e] at h2
  obtain ⟨q, hq, e2⟩ := List.mem_map.1 h2
  rw [← e2]
  exact h.2.1 q hq
theorem meas {rs : List Rw} {r : Int} (h0 : 0 ≤ r) (h : 2 * r + endB 1 rs ≤ 2 * (1048576 : Nat) + 1) : rs.length ≤ 1048576 ∧ (∀ q ∈ rs, q.2.2.2.length ≤ 1048576) ∧ Okk (rs.map tellOf) := by
  have h1 := endB_len 1 rs
  have h2 : ∀ q ∈ rs, q.2.2.2.length ≤ 1048576 := fun q hq => by
    have := endB_one 1 rs q hq
    omega
  refine ⟨by omega, h2, by rw [List.length_map]; omega, fun r hr => ?_, by rw [endK_tell]; omega⟩
  obtain ⟨q, hq, rfl⟩ := List.mem_map.1 hr
  exact h2 q hq
theorem tx_tell {rs : List Rw} (h : TxB rs) : TxK (rs.map tellOf) := by
  intro r hr
  obtain ⟨q, hq, rfl⟩ := List.mem_map.1 hr
  exact h q hq

def Inn (w : World) (lo hi : Nat) (v : Value) (bs : List Bk) : Prop := ∃ ss, ss.map tellOf = bs ∧ FlashIn w lo hi v ss
theorem Inn.lens {w : World} {lo hi : Nat} {v : Value} {bs : List Bk} (h : Inn w lo hi v bs) (ho : Okk bs) : ∃ ss, ss.map tellOf = bs ∧ FlashIn w lo hi v ss ∧ ss.length ≤ 1048576 ∧ (∀ q ∈ ss, q.2.2.2.length ≤ 1048576) ∧ endB 1 ss = endK 1 bs := by
  obtain ⟨ss, rfl, hs⟩ := h
  refine ⟨ss, rfl, hs, by simpa using ho.1, fun q hq => ho.2.1 _ (List.mem_map_of_mem (f := tellOf) hq), (endK_tell 1 ss).symm⟩
theorem Inn.kept {w w' : World} {lo hi : Nat} {v : Value} {bs : List Bk} (h : Inn w lo hi v bs) (hk : ∀ g, lo ≤ g → g < hi → w'.heap[g]? = w.heap[g]?) : Inn w' lo hi v bs := by
  obtain ⟨ss, e, hs⟩ := h
  exact ⟨ss, e, hs.kept hk⟩
/-- A flash that is marked up to n. -/
def Mrk (w : World) (lo hi : Nat) (v : Value) (n : Nat) : Prop := ∃ ss : List Rw, ss.length ≤ 1048576 ∧ (∀ q ∈ ss, q.2.2.2.length ≤ 1048576) ∧ endB 1 ss = n ∧ FlashIn w lo hi v (marksB 1 ss)
theorem Mrk.kept {w w' : World} {lo hi : Nat} {v : Value} {n : Nat} (h : Mrk w lo hi v n) (hk : ∀ g, lo ≤ g → g < hi → w'.heap[g]? = w.heap[g]?) : Mrk w' lo hi v n := by
  obtain ⟨ss, h1, h2, h3, hs⟩ := h
  exact ⟨ss, h1, h2, h3, hs.kept hk⟩
/-- What is held: cells (block, value, type), flashes (from, to, slice, what they tell), marked ones. -/
def Trk (w wi : World) (cs : List (Nat × Value × TypeId)) (fs : List (Nat × Nat × Value × List Bk)) (ms : List (Nat × Nat × Value × Nat)) : Prop :=
  Below w.heap.size w wi ∧ (∀ c ∈ cs, wi.heap[c.1]? = some (.cells #[c.2.1] c.2.2 (0, 0))) ∧ (∀ f ∈ fs, f.2.1 ≤ wi.heap.size ∧ Inn wi f.1 f.2.1 f.2.2.1 f.2.2.2) ∧ ∀ f ∈ ms, f.2.1 ≤ wi.heap.size ∧ Mrk wi f.1 f.2.1 f.2.2.1 f.2.2.2
theorem Trk.below {w wi wj : World} {cs : List (Nat × Value × TypeId)} {fs : List (Nat × Nat × Value × List Bk)} {ms : List (Nat × Nat × Value × Nat)} (h : Trk w wi cs fs ms) (hb : Below wi.heap.size wi wj) : Trk w wj cs fs ms := by
  obtain ⟨h1, h2, h3, h4⟩ := h
  have hs := hb.size
  refine ⟨h1.trans (hb.mono h1.size), fun c hc => (hb.block _ (Array.getElem?_eq_some_iff.1 (h2 c hc)).1).trans (h2 c hc), fun f hf => ?_, fun f hf => ?_⟩
  · obtain ⟨a, b⟩ := h3 f hf
    exact ⟨by omega, b.kept (fun g _ hg => hb.block g (by omega))⟩
  · obtain ⟨a, b⟩ := h4 f hf
    exact ⟨by omega, b.kept (fun g _ hg => hb.block g (by omega))⟩
theorem Trk.row {w wi : World} {cs : List (Nat × Value × TypeId)} {fs : List (Nat × Nat × Value × List Bk)} {ms : List (Nat × Nat × Value × Nat)} (h : Trk w wi cs fs ms) (n : Nat) {g : Nat} {v : Value} {t : TypeId} (hn : cs[n]? = some (g, v, t)) : wi.heap[g]? = some (.cells #[v] t (0, 0)) := h.2.1 _ (List.mem_of_getElem? hn)
theorem Trk.at {w wi : World} {cs : List (Nat × Value × TypeId)} {fs : List (Nat × Nat × Value × List Bk)} {ms : List (Nat × Nat × Value × Nat)} (h : Trk w wi cs fs ms) (n : Nat) {g : Nat} {v : Value} {t : TypeId} (hn : cs[n]? = some (g, v, t)) : wi.cell? ⟨g, 0, none⟩ = some v := cell_of_row _ _ 0 _ _ _ (h.row n hn)
theorem Trk.fl {w wi : World} {cs : List (Nat × Value × TypeId)} {fs : List (Nat × Nat × Value × List Bk)} {ms : List (Nat × Nat × Value × Nat)} (h : Trk w wi cs fs ms) (n : Nat) {lo hi : Nat} {v : Value} {bs : List Bk} (hn : fs[n]? = some (lo, hi, v, bs)) : hi ≤ wi.heap.size ∧ Inn wi lo hi v bs := h.2.2.1 _ (List.mem_of_getElem? hn)
theorem Trk.mk {w wi : World} {cs : List (Nat × Value × TypeId)} {fs : List (Nat × Nat × Value × List Bk)} {ms : List (Nat × Nat × Value × Nat)} (h : Trk w wi cs fs ms) (n : Nat) {lo hi k : Nat} {v : Value} (hn : ms[n]? = some (lo, hi, v, k)) : hi ≤ wi.heap.size ∧ Mrk wi lo hi v k := h.2.2.2 _ (List.mem_of_getElem? hn)
theorem Trk.start (w : World) (v : Value) (t : TypeId) : Trk w (w.alloc (.cells #[v] t)) [(w.heap.size, v, t)] [] [] := by
  refine ⟨(Below.refl _ _).alloc (Nat.le_refl _) _, fun c hc => ?_, fun f hf => (by cases hf), fun f hf => (by cases hf)⟩
  rw [List.mem_singleton] at hc
  subst hc
  exact heap_alloc_new w _
theorem Trk.cell {w wi : World} {cs : List (Nat × Value × TypeId)} {fs : List (Nat × Nat × Value × List Bk)} {ms : List (Nat × Nat × Value × Nat)} (h : Trk w wi cs fs ms) (v : Value) (t : TypeId) : Trk w (wi.alloc (.cells #[v] t)) ((wi.heap.size, v, t) :: cs) fs ms := by
  obtain ⟨h1, h2, h3⟩ := h.below ((Below.refl _ _).alloc (Nat.le_refl _) (.cells #[v] t))
  refine ⟨h1, fun c hc => ?_, h3⟩
  rcases List.mem_cons.1 hc with rfl | hc
  · exact heap_alloc_new wi _
  · exact h2 c hc
theorem Trk.add {w wi wj : World} {cs : List (Nat × Value × TypeId)} {fs : List (Nat × Nat × Value × List Bk)} {ms : List (Nat × Nat × Value × Nat)} {v : Value} {bs : List Bk} (h : Trk w wi cs fs ms) (hb : Below wi.heap.size wi wj) (hf : FlashOf wj wi.heap.size v bs) : Trk w wj cs ((wi.heap.size, wj.heap.size, v, bs) :: fs) ms := by
  obtain ⟨h1, h2, h3, h4⟩ := h.below hb
  refine ⟨h1, h2, fun f hf' => ?_, h4⟩
  rcases List.mem_cons.1 hf' with rfl | hf'
  · exact ⟨Nat.le_refl _, hf⟩
  · exact h3 f hf'
theorem Trk.drop {w wi : World} {cs cs' : List (Nat × Value × TypeId)} {fs fs' : List (Nat × Nat × Value × List Bk)} {ms : List (Nat × Nat × Value × Nat)} (h : Trk w wi cs fs ms) (hc : ∀ c ∈ cs', c ∈ cs) (hf : ∀ f ∈ fs', f ∈ fs) : Trk w wi cs' fs' ms :=
  ⟨h.1, fun c h' => h.2.1 c (hc c h'), fun f h' => h.2.2.1 f (hf f h'), h.2.2.2⟩
/-- One flash is marked: all that lies apart from it stays. -/
theorem Trk.mark {w wi wj : World} {cs : List (Nat × Value × TypeId)} {fs : List (Nat × Nat × Value × List Bk)} {ms : List (Nat × Nat × Value × Nat)} {lo hi n : Nat} {v : Value} (h : Trk w wi cs fs ms) (hk : Kept2 wi wj (Apart lo hi)) (hm : Mrk wj lo hi v n) (hh : hi ≤ wi.heap.size) (hlo : w.heap.size ≤ lo)
    (hc : ∀ c ∈ cs, c.1 < lo ∨ hi ≤ c.1) (hf : ∀ f ∈ fs, f.2.1 ≤ lo ∨ hi ≤ f.1) (hms : ∀ f ∈ ms, f.2.1 ≤ lo ∨ hi ≤ f.1) : Trk w wj cs fs ((lo, hi, v, n) :: ms) := by
  obtain ⟨h1, h2, h3, h4⟩ := h
  have hs := hk.2.2.2.1
  have hs1 := h1.size
  refine ⟨h1.trans (hk.down h1.size (fun i hi' hq => by omega)), fun c hq => ?_, fun f hq => ?_, fun f hq => ?_⟩
  · have := h2 c hq
    refine (hk.2.2.2.2 _ (Array.getElem?_eq_some_iff.1 this).1 (fun hz => ?_)).trans this
    have := hc c hq
    omega
  · obtain ⟨a, b⟩ := h3 f hq
    refine ⟨by omega, b.kept (fun g g1 g2 => hk.2.2.2.2 g (by omega) (fun hz => ?_))⟩
    have := hf f hq
    omega
  · rcases List.mem_cons.1 hq with rfl | hq
    · exact ⟨by show hi ≤ _; omega, hm⟩
    · obtain ⟨a, b⟩ := h4 f hq
      refine ⟨by omega, b.kept (fun g g1 g2 => hk.2.2.2.2 g (by omega) (fun hz => ?_))⟩
      have := hms f hq
      omega
theorem eq_of (a b : Value) (bs : List Bk) (l1 h1 l2 h2 : Nat) (w : World) (ho : Okk bs) (ha : h1 ≤ w.heap.size ∧ Inn w l1 h1 a bs) (hb : h2 ≤ w.heap.size ∧ Inn w l2 h2 b bs) :
    Calls Tryd.prog 10 #[.agg #[a], .agg #[b]] w fun e w' => e = .returned (.bool true) ∧ Below w.heap.size w w' := by
  obtain ⟨rs, e1, i1, l, ll, -⟩ := ha.2.lens ho
  obtain ⟨ss, e3, i2⟩ := hb.2
  exact eqFlash_any a b rs ss _ _ _ _ w l ll i1 i2 ha.1 hb.1 (e1.trans e3.symm)
theorem to_trk {w wi : World} {cs : List (Nat × Value × TypeId)} {fs : List (Nat × Nat × Value × List Bk)} {ms : List (Nat × Nat × Value × Nat)} {a : Option Addr} {len cap : Nat} {rs : List Rw} {bs : List Bk} (T : Trk w wi cs fs ms) (H : BkRow w a len rs) (hbs : rs.map tellOf = bs) (hl : len ≤ 1048576) (hll : ∀ q ∈ rs, q.2.2.2.length ≤ 1048576) :
    Calls Tryd.prog 7 #[.agg #[.slice a len cap]] wi fun e w' => ∃ ad c, e = .returned (.agg #[.slice ad bs.length c]) ∧ Trk w w' cs ((wi.heap.size, w'.heap.size, .slice ad bs.length c, bs) :: fs) ms ∧ wi.heap.size ≤ w'.heap.size := by
  refine (toFlash_any a len cap rs wi hl hll (H.below T.1)).mono ?_
  rintro e w2 ⟨v1, rfl, f1, b2⟩
  rw [hbs] at f1
  have T2 := T.add b2 f1
  obtain ⟨ad1, cap1, rfl⟩ := f1.form
  exact ⟨ad1, cap1, rfl, T2, b2.size⟩
theorem eq_trk {w wi : World} {cs : List (Nat × Value × TypeId)} {fs : List (Nat × Nat × Value × List Bk)} {ms : List (Nat × Nat × Value × Nat)} {u v : Value} {l1 h1 l2 h2 : Nat} {bs : List Bk} (T : Trk w wi cs fs ms) (n1 n2 : Nat) (ho : Okk bs) (e1 : fs[n1]? = some (l1, h1, u, bs)) (e2 : fs[n2]? = some (l2, h2, v, bs)) :
    Calls Tryd.prog 10 #[.agg #[u], .agg #[v]] wi fun e w' => e = .returned (.bool true) ∧ Trk w w' cs fs ms ∧ wi.heap.size ≤ w'.heap.size := by
  refine (eq_of _ _ bs _ _ _ _ wi ho (T.fl n1 e1) (T.fl n2 e2)).mono ?_
  rintro e w2 ⟨rfl, b2⟩
  exact ⟨rfl, T.below b2, b2.size⟩
theorem Trk.drew {w wi : World} {cs : List (Nat × Value × TypeId)} {fs : List (Nat × Nat × Value × List Bk)} {ms : List (Nat × Nat × Value × Nat)} (h : Trk w wi cs fs ms) : Trk w wi.drew cs fs ms := h.below (Below.refl _ _).drew
end Go.Proofs.YtaolinlginloaadDoor
