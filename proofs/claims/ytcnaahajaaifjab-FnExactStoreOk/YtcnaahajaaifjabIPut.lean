/-
  impl.PutAt.
-/
import Derived.Test.YtcnaahajaaifjabPq47
import Derived.Test.YtcnaahajaaifjabIArena
import Derived.Test.YtcnaahajaaifjabPq37
import Derived.Test.YtcnaahajaaifjabPq15
namespace Go.Proofs.Ytcnaahajaaifjab
open Go.RowKit
open Words

theorem rootB_ge {L : List Kn} {r : Int} (h : rootB L r = true) : -1 ≤ r := by
  rcases rootB_yes h with h | ⟨m, x, h, -⟩ <;> omega
/-- What stands in a tree's block. -/
theorem TreeAt.lk {W : World} {b : Nat} {bs : List Nat} {L : List Kn} {r : Int} (h : TreeAt W b bs L r) : ∃ x, LkAt W b x ∧ x.leaf = false ∧ x.tos = (topOf L r).map (kidP bs) ∧ x.place = r := by
  obtain ⟨hf, ⟨rfl, hat⟩ | ⟨m, x, rfl, hb, hx, hl⟩⟩ := h
  · refine ⟨lkNone, hat, rfl, ?_, rfl⟩
    rw [topOf, if_pos (by omega)]
    rfl
  · refine ⟨_, hf.2 m b _ hb (lksOf_some hx), by rw [lkOf_leaf]; exact hl, ?_, lkOf_place _ _ _⟩
    rw [topOf, if_neg (by omega), Int.toNat_natCast, hx]
    unfold lkOf
    rw [if_neg (by rw [hl]; decide)]
    rfl
theorem TreeAt.lt {W : World} {b : Nat} {bs : List Nat} {L : List Kn} {r : Int} (h : TreeAt W b bs L r) : b < W.heap.size := by
  obtain ⟨x, hx, -⟩ := h.lk
  exact hx.lt
theorem kidP_at {bs : List Nat} {n : Int} {c : Nat} (h : kidP bs n = some c) : 0 ≤ n ∧ bs[n.toNat]? = some c := by
  unfold kidP at h
  split at h
  · cases h
  · exact ⟨by omega, h⟩
/-- The children of a forest's knots are the arena's. -/
theorem kidsR_of {W : World} {bs : List Nat} {L : List Kn} (ha : arB L = true) (hf : FAt W bs (lksOf bs L)) {i : Nat} {y : Kn} (hy : L[i]? = some y) : KidsR W (lkOf bs i y) y.kids := by
  unfold KidsR
  rw [lkOf_leaf]
  cases hl : y.leaf with
  | true =>
    rw [if_pos rfl]
    unfold lkOf
    rw [if_pos hl]
  | false =>
    rw [if_neg (by decide)]
    refine ⟨knB_len (arB_at ha hy), fun k o ho => ?_⟩
    have e : (lkOf bs i y).tos = y.kids.map (kidP bs) := by unfold lkOf; rw [if_neg (by rw [hl]; decide)]
    rw [e, List.getElem?_map, Option.map_eq_some_iff] at ho
    obtain ⟨n, hn, rfl⟩ := ho
    have hk := (List.getElem?_eq_some_iff.1 hn).1
    rw [knB_len (arB_at ha hy)] at hk
    obtain ⟨n', hn', hc⟩ := inner_kid ha (r := (i : Int)) (by rw [Int.toNat_natCast]; exact hy) hl hk
    rw [hn] at hn'
    cases hn'
    refine ⟨n, hn, ?_⟩
    rcases hc with rfl | ⟨h0, -, z, hz, -⟩
    · exact .inl ⟨rfl, rfl⟩
    · have hlt : n.toNat < bs.length := by rw [hf.1, lksOf_len]; exact (List.getElem?_eq_some_iff.1 hz).1
      have hat := hf.2 _ _ _ (List.getElem?_eq_getElem hlt) (lksOf_some hz)
      refine .inr ⟨bs[n.toNat], by rw [kidP, if_neg (by omega), List.getElem?_eq_getElem hlt], ?_, hat.lt⟩
      rw [hat.place, lkOf_place, Int.toNat_of_nonneg h0]
/-- What PutAt has while it goes on. -/
def PSt (w W : World) (z : Nat) (av : Value) : Prop := W.heap[z]? = some (.cells #[av] 33 (0, 0)) ∧ W.heap[z + 1]? = some (.cells #[.slice none 0 0] 33 (0, 0)) ∧ Below z w W
theorem PSt.lt {w W : World} {z : Nat} {av : Value} (h : PSt w W z av) : z + 1 < W.heap.size := (Array.getElem?_eq_some_iff.1 h.2.1).1
theorem PSt.below {w W W' : World} {z : Nat} {av : Value} (h : PSt w W z av) (hb : Below W.heap.size W W') : PSt w W' z av := by
  have := h.lt
  exact ⟨(hb.block z (by omega)).trans h.1, (hb.block (z + 1) (by omega)).trans h.2.1, h.2.2.trans (hb.mono (by omega))⟩
/-- The copy that a refused put answers. -/
def CpOut (w : World) (z : Nat) (L : List Kn) (e : Ending) (w' : World) : Prop := ∃ uv, e = .returned (.agg #[uv]) ∧ (∃ a n c, uv = .slice a n c) ∧ w'.cell? ⟨z + 1, 0, none⟩ = some (.slice none 0 0) ∧ w'.frozen? ⟨z + 1, 0, none⟩ = false ∧ KOut w L (.agg #[uv]) (w'.setCell ⟨z + 1, 0, none⟩ uv) ∧ (w'.setCell ⟨z + 1, 0, none⟩ uv).heap[z + 1]? = some (.cells #[uv] 33 (0, 0))
/-- An answer that is laid into the result's cell. -/
theorem kout_cell {w W w' : World} {z : Nat} {av v : Value} {L : List Kn} (hz : w.heap.size = z) (hp : PSt w W z av) (h : KOut W L v w') : ∃ uv, v = .agg #[uv] ∧ (∃ a n c, uv = .slice a n c) ∧ w'.cell? ⟨z + 1, 0, none⟩ = some (.slice none 0 0) ∧ w'.frozen? ⟨z + 1, 0, none⟩ = false ∧ KOut w L (.agg #[uv]) (w'.setCell ⟨z + 1, 0, none⟩ uv) ∧ (w'.setCell ⟨z + 1, 0, none⟩ uv).heap[z + 1]? = some (.cells #[uv] 33 (0, 0)) := by
  obtain ⟨uv, ss, rfl, ko, hss, hb⟩ := h
  have hp' := hp.below hb
  have := hp.lt
  refine ⟨uv, rfl, ?_, cell_of_row _ _ 0 _ _ _ hp'.2.1, frozen_of_row _ _ 0 _ _ hp'.2.1, ⟨uv, ss, rfl, (ko.cellB (show z + 1 < W.heap.size from this) _ _).down (by omega), hss, ?_⟩, row_set hp'.2.1 0 _⟩
  · obtain ⟨a, c, e⟩ := ko.form
    exact ⟨_, _, _, e⟩
  · rw [hz]
    exact hp'.2.2.setCell (p := ⟨z + 1, 0, none⟩) (by show z ≤ z + 1; omega) _

/-- What is answered of an arena with two more knots. -/
def PutFin (w : World) (z h len : Nat) (L : List Kn) (r : Int) (t : Nat) (n : Int) (e : Ending) (w' : World) : Prop :=
  ∃ uv, e = .returned (.agg #[uv]) ∧ (∃ a n c, uv = .slice a n c) ∧ w'.cell? ⟨z + 1, 0, none⟩ = some (.slice none 0 0) ∧ w'.frozen? ⟨z + 1, 0, none⟩ = false ∧ w'.cell? ⟨h, 0, none⟩ = some (.int .i64 ((len : Int) + 1)) ∧ KOut w (L ++ [putLf L r t n, putTop L r t]) (.agg #[uv]) (w'.setCell ⟨z + 1, 0, none⟩ uv) ∧ (w'.setCell ⟨z + 1, 0, none⟩ uv).heap[z + 1]? = some (.cells #[uv] 33 (0, 0))
/-- A knot's children do not hang on blocks that others write. -/
theorem put_arena {w W y : World} {z base len g h t : Nat} {av v v8 : Value} {bs : List Nat} {L : List Kn} {r n : Int} (hz : w.heap.size = z) (hP : PSt w W z av) (hA : arB L = true) (hR : rootB L r = true) (hF : FAt W bs (lksOf bs L)) (hlen : L.length = len) (hle : len ≤ 1048578)
    (hlf : LkAt W g ⟨len, true, (putLf L r t n).kids, [none, none, none, none], false⟩) (htop : LkAt W h ⟨(len : Int) + 1, false, [0, 0, 0, 0], ((topOf L r).map (kidP bs)).set (t / 4) (some g), false⟩)
    (hg : W.grownBy y v.ownBlock) (hrow : ∀ q, v.ownBlock = some q → base ≤ q ∧ ∃ cs, W.heap[q]? = some (.cells cs 103 (0, 0))) (hb : z + 2 ≤ base) (ho : y.ownsRow base 103 1 v8 (len + 2) (bcellsP (bs ++ [g] ++ [h]))) :
    ∃ fa c, v8 = .slice fa (len + 2) c ∧ Calls Try.prog 129 #[.slice fa (len + 2) c] y (PutFin w z h len L r t n) := by
  have hbl : bs.length = len := by rw [hF.1, lksOf_len, hlen]
  have hFy := ((hF.snoc hlf).snoc htop).grown hg (fun q e => (hrow q e).2)
  have hF0 := hF.grown hg (fun q e => (hrow q e).2)
  have one : ∀ {c : Nat} {x : Lk}, LkAt W c x → LkAt y c x := by
    intro c x hc
    refine ⟨(hg.block c hc.lt (fun e => ?_)).trans hc.1, hc.2⟩
    obtain ⟨-, cs, q⟩ := hrow c e.symm
    rw [hc.1] at q
    injection q with q
    injection q with _ q
    simp at q
  have hlfy := one hlf
  have htopy := one htop
  have hPy : PSt w y z av := by
    have hl := hP.lt
    have far : ∀ q, q < z + 2 → q < W.heap.size → y.heap[q]? = W.heap[q]? := fun q h1 h2 => hg.block q h2 (fun e => by have := (hrow q e.symm).1; omega)
    exact ⟨(far z (by omega) (by omega)).trans hP.1, (far (z + 1) (by omega) hl).trans hP.2.1, hP.2.2.grown hg (by omega) (fun k hk => by have := (hrow k hk).1; omega)⟩
  obtain ⟨fa, c, e, hpr⟩ := PRow.of (bs := bs ++ [g] ++ [h]) (by
    rw [show (bs ++ [g] ++ [h]).length = len + 2 by simp [hbl]]
    exact ho)
  rw [show (bs ++ [g] ++ [h]).length = len + 2 by simp [hbl]] at e hpr
  refine ⟨fa, c, e, (iarena fa (len + 2) c (bs ++ [g] ++ [h]) _ (L ++ [putLf L r t n, putTop L r t]) y (by omega) hpr hFy (by simp [hlen]) ?_).mono ?_⟩
  · intro i x k hx hk
    by_cases hi : i < len
    · rw [List.append_assoc, List.getElem?_append_left (by rw [lksOf_len, hlen]; exact hi)] at hx
      rw [List.getElem?_append_left (by omega)] at hk
      obtain ⟨k', hk', rfl⟩ := lksOf_back hx
      rw [hk] at hk'
      cases hk'
      exact ⟨lkOf_leaf _ _ _, kidsR_of hA hF0 hk⟩
    · have hx2 := hx
      rw [List.append_assoc, List.getElem?_append_right (by rw [lksOf_len, hlen]; omega), lksOf_len, hlen] at hx2
      rw [List.getElem?_append_right (by omega), hlen] at hk
      have hil := (List.getElem?_eq_some_iff.1 hk).1
      simp only [List.length_cons, List.length_nil] at hil
      have : i - len = 0 ∨ i - len = 1 := by omega
      rcases this with e0 | e1
      · rw [e0] at hx2 hk
        simp at hx2 hk
        subst hx2 hk
        exact ⟨rfl, rfl⟩
      · rw [e1] at hx2 hk
        simp at hx2 hk
        subst hx2 hk
        refine ⟨rfl, ?_⟩
        unfold KidsR
        rw [if_neg (show ¬ (false = true) by decide), putTop_eq]
        refine ⟨by rw [List.length_set]; exact top_len hA hR, fun j o hj => ?_⟩
        simp only at hj
        have hj4 := (List.getElem?_eq_some_iff.1 hj).1
        rw [List.length_set, List.length_map, top_len hA hR] at hj4
        by_cases eq : t / 4 = j
        · subst eq
          rw [List.getElem?_set_self (by rw [List.length_map, top_len hA hR]; exact hj4)] at hj
          cases hj
          refine ⟨len, by rw [List.getElem?_set_self (by rw [top_len hA hR]; exact hj4), hlen], .inr ⟨g, rfl, hlfy.place, hlfy.lt⟩⟩
        · rw [List.getElem?_set_ne eq, List.getElem?_map] at hj
          obtain ⟨m, hm, hc, -⟩ := top_at hA hR hj4
          rw [hm] at hj
          cases hj
          refine ⟨m, by rw [List.getElem?_set_ne eq]; exact hm, ?_⟩
          rcases hc with rfl | ⟨h0, h1, h2⟩
          · exact .inl ⟨rfl, rfl⟩
          · obtain ⟨x, hx, -⟩ := knLeaf_lt h2
            have hml : m.toNat < bs.length := by omega
            have hat := hF0.2 _ _ _ (List.getElem?_eq_getElem hml) (lksOf_some hx)
            refine .inr ⟨bs[m.toNat], by rw [kidP, if_neg (by omega), List.getElem?_eq_getElem hml], ?_, hat.lt⟩
            rw [hat.place, lkOf_place, Int.toNat_of_nonneg h0]
  · rintro e w' ⟨v, rfl, hk⟩
    have hb' : Below y.heap.size y w' := by obtain ⟨_, _, _, _, _, q⟩ := hk; exact q
    obtain ⟨uv, rfl, u1, u2, u3, u4, u5⟩ := kout_cell hz hPy hk
    exact ⟨uv, rfl, u1, u2, u3, (htopy.blw hb').place, u4, u5⟩

end Go.Proofs.Ytcnaahajaaifjab
