/-
  impl.PutAt.
-/
import Derived.Test.YtcnaahajaaifjabPq47
import Derived.Test.YtcnaahajaaifjabIArena
import Derived.Test.YtcnaahajaaifjabPq37
import Derived.Test.YtcnaahajaaifjabPq15
namespace Go.Proofs.Ytcnaahajaaifjab
open Go.RowKit
open Words

theorem rootB_ge {L : List Kn} {r : Int} (h : rootB L r = true) : -1 ≤ r := by
  rcases rootB_yes h with h | ⟨m, x, h, -⟩ <;> omega
/-- What stands in a tree's block. -/
theorem TreeAt.lk {W : World} {b : Nat} {bs : List Nat} {L : List Kn} {r : Int} (h : TreeAt W b bs L r) : ∃ x, LkAt W b x ∧ x.leaf = false ∧ x.tos = (topOf L r).map (kidP bs) ∧ x.place = r := by
  obtain ⟨hf, ⟨rfl, hat⟩ | ⟨m, x, rfl, hb, hx, hl⟩⟩ := h
  · refine ⟨lkNone, hat, rfl, ?_, rfl⟩
    rw [topOf, if_pos (by omega)]
    rfl
  · refine ⟨_, hf.2 m b _ hb (lksOf_some hx), by rw [lkOf_leaf]; exact hl, ?_, lkOf_place _ _ _⟩
    rw [topOf, if_neg (by omega), Int.toNat_natCast, hx]
    unfold lkOf
    rw [if_neg (by rw [hl]; decide)]
    rfl
theorem TreeAt.lt {W : World} {b : Nat} {bs : List Nat} {L : List Kn} {r : Int} (h : TreeAt W b bs L r) : b < W.heap.size := by
  obtain ⟨x, hx, -⟩ := h.lk
  exact hx.lt
theorem kidP_at {bs : List Nat} {n : Int} {c : Nat} (h : kidP bs n = some c) : 0 ≤ n ∧ bs[n.toNat]? = some c := by
  unfold kidP at h
  split at h
  · cases h
  · exact ⟨by omega, h⟩
/-- The children of a forest's knots are the arena's. -/
theorem kidsR_of {W : World} {bs : List Nat} {L : List Kn} (ha : arB L = true) (hf : FAt W bs (lksOf bs L)) {i : Nat} {y : Kn} (hy : L[i]? = some y) : KidsR W (lkOf bs i y) y.kids := by
  unfold KidsR
  rw [lkOf_leaf]
  cases hl : y.leaf with
  | true =>
    rw [if_pos rfl]
    unfold lkOf
    rw [if_pos hl]
  | false =>
    rw [if_neg (by decide)]
    refine ⟨knB_len (arB_at ha hy), fun k o ho => ?_⟩
    have e : (lkOf bs i y).tos = y.kids.map (kidP bs) := by unfold lkOf; rw [if_neg (by rw [hl]; decide)]
    rw [e, List.getElem?_map, Option.map_eq_some_iff] at ho
    obtain ⟨n, hn, rfl⟩ := ho
    have hk := (List.getElem?_eq_some_iff.1 hn).1
    rw [knB_len (arB_at ha hy)] at hk
    obtain ⟨n', hn', hc⟩ := inner_kid ha (r := (i : Int)) (by rw [Int.toNat_natCast]; exact hy) hl hk
    rw [hn] at hn'
    cases hn'
    refine ⟨n, hn, ?_⟩
    rcases hc with rfl | ⟨h0, -, z, hz, -⟩
    · exact .inl ⟨rfl, rfl⟩
    · have hlt : n.toNat < bs.length := by rw [hf.1, lksOf_len]; exact (List.getElem?_eq_some_iff.1 hz).1
      have hat := hf.2 _ _ _ (List.getElem?_eq_getElem hlt) (lksOf_some hz)
      refine .inr ⟨bs[n.toNat], by rw [kidP, if_neg (by omega), List.getElem?_eq_getElem hlt], ?_, hat.lt⟩
      rw [hat.place, lkOf_place, Int.toNat_of_nonneg h0]
/-- What PutAt has while it goes on. -/
def PSt (w W : World) (z : Nat) (av : Value) : Prop := W.heap[z]? = some (.cells #[av] 33 (0, 0)) ∧ W.heap[z + 1]? = some (.cells #[.slice none 0 0] 33 (0, 0)) ∧ Below z w W
theorem PSt.lt {w W : World} {z : Nat} {av : Value} (h : PSt w W z av) : z + 1 < W.heap.size := (Array.getElem?_eq_some_iff.1 h.2.1).1
theorem PSt.below {w W W' : World} {z : Nat} {av : Value} (h : PSt w W z av) (hb : Below W.heap.size W W') : PSt w W' z av := by
  have := h.lt
  exact ⟨(hb.block z (by omega)).trans h.1, (hb.block (z + 1) (by omega)).trans h.2.1, h.2.2.trans (hb.mono (by omega))⟩
/-- The copy that a refused put answers. -/
def CpOut (w : World) (z : Nat) (L : List Kn) (e : Ending) (w' : World) : Prop := ∃ uv, e = .returned (.agg #[uv]) ∧ (∃ a n c, uv = .slice a n c) ∧ w'.cell? ⟨z + 1, 0, none⟩ = some (.slice none 0 0) ∧ w'.frozen? ⟨z + 1, 0, none⟩ = false ∧ KOut w L (.agg #[uv]) (w'.setCell ⟨z + 1, 0, none⟩ uv) ∧ (w'.setCell ⟨z + 1, 0, none⟩ uv).heap[z + 1]? = some (.cells #[uv] 33 (0, 0))
/-- An answer that is laid into the result's cell. -/
theorem kout_cell {w W w' : World} {z : Nat} {av v : Value} {L : List Kn} (hz : w.heap.size = z) (hp : PSt w W z av) (h : KOut W L v w') : ∃ uv, v = .agg #[uv] ∧ (∃ a n c, uv = .slice a n c) ∧ w'.cell? ⟨z + 1, 0, none⟩ = some (.slice none 0 0) ∧ w'.frozen? ⟨z + 1, 0, none⟩ = false ∧ KOut w L (.agg #[uv]) (w'.setCell ⟨z + 1, 0, none⟩ uv) ∧ (w'.setCell ⟨z + 1, 0, none⟩ uv).heap[z + 1]? = some (.cells #[uv] 33 (0, 0)) := by
  obtain ⟨uv, ss, rfl, ko, hss, hb⟩ := h
  have hp' := hp.below hb
  have := hp.lt
  refine ⟨uv, rfl, ?_, cell_of_row _ _ 0 _ _ _ hp'.2.1, frozen_of_row _ _ 0 _ _ hp'.2.1, ⟨uv, ss, rfl, (ko.cellB (show z + 1 < W.heap.size from this) _ _).down (by omega), hss, ?_⟩, row_set hp'.2.1 0 _⟩
  · obtain ⟨a, c, e⟩ := ko.form
    exact ⟨_, _, _, e⟩
  · rw [hz]
    exact hp'.2.2.setCell (p := ⟨z + 1, 0, none⟩) (by show z ≤ z + 1; omega) _

/-- What is answered of an arena with two more knots. -/
def PutFin (w : World) (z h len : Nat) (L : List Kn) (r : Int) (t : Nat) (n : Int) (e : Ending) (w' : World) : Prop :=
  ∃ uv, e = .returned (.agg #[uv]) ∧ (∃ a n c, uv = .slice a n c) ∧ w'.cell? ⟨z + 1, 0, none⟩ = some (.slice none 0 0) ∧ w'.frozen? ⟨z + 1, 0, none⟩ = false ∧ w'.cell? ⟨h, 0, none⟩ = some (.int .i64 ((len : Int) + 1)) ∧ KOut w (L ++ [putLf L r t n, putTop L r t]) (.agg #[uv]) (w'.setCell ⟨z + 1, 0, none⟩ uv) ∧ (w'.setCell ⟨z + 1, 0, none⟩ uv).heap[z + 1]? = some (.cells #[uv] 33 (0, 0))
end Go.Proofs.Ytcnaahajaaifjab
