/-
  ICl; KFil
-/
import Derived.Test.YtcnaahajaaifjabPq2
import Derived.Test.YtcnaahajaaifjabSArOk
import Derived.Test.YtcnaahajaaifjabKnCp
import Derived.Lib.SliceRun
/-
  slices.Clone of numbers and of knots; impl.copiedArena.
-/
namespace Go.Proofs.Ytcnaahajaaifjab
open Go.RowKit
open Words

theorem kncells_one {rs : List Kw} (h : ∀ r ∈ rs, r.2.1.oneCell' = true) : ∀ u ∈ kncells rs, u.oneCell' = true := by
  intro u hu
  obtain ⟨r, hr, hu⟩ := List.mem_flatMap.1 hu
  simp only [kncell, List.mem_cons, List.not_mem_nil, or_false] at hu
  rcases hu with rfl | rfl
  · rfl
  · exact h r hr
theorem KnRd.cells {W : World} {b off len : Nat} {rs : List Kw} (h : KnRd W (some ⟨b, off, none⟩) len rs) (j : Nat) (u : Value) (hj : (kncells rs)[j]? = some u) : W.cell? ((⟨b, off, none⟩ : Addr).add j) = some u := by
  have hlt := (List.getElem?_eq_some_iff.1 hj).1
  rw [kncells_len] at hlt
  obtain ⟨r, hr⟩ : ∃ r, rs[j / 2]? = some r := ⟨_, List.getElem?_eq_getElem (by omega)⟩
  obtain ⟨c0, c1⟩ := h.cell hr
  have ea : (⟨b, off, none⟩ : Addr).add j = ⟨b, off + j, none⟩ := by simp only [Addr.add]; split <;> simp_all
  rw [ea]
  have hm : j % 2 = 0 ∨ j % 2 = 1 := by omega
  rcases hm with hm | hm
  · have e : j / 2 * 2 + 0 = j := by omega
    have k1 := kncells_at rs (j / 2) r hr 0 _ rfl
    rw [e, hj] at k1
    cases k1
    rw [show off + j = off + j / 2 * 2 by omega]
    exact c0
  · have e : j / 2 * 2 + 1 = j := by omega
    have k1 := kncells_at rs (j / 2) r hr 1 _ rfl
    rw [e, hj] at k1
    cases k1
    rw [show off + j = off + j / 2 * 2 + 1 by omega]
    exact c1

end Go.Proofs.Ytcnaahajaaifjab

/-
  Rows of knots that are filled one behind the other, in place.
-/
namespace Go.Proofs.Ytcnaahajaaifjab
open Go.RowKit
open Words

/-- The first of them have children of their own. -/
def KFil (W : World) (B : Nat) (v : Value) (n : Nat) (ss : List Kw) (zs : List Value) : Prop :=
  W.ownsRow B 85 2 v n (kncells ss ++ zs) ∧ (∀ r ∈ ss, Sli 3 B W.heap.size r.2.1 r.2.2.length (icells r.2.2) W ∧ r.2.2.length ≤ maxLen) ∧ KLone ss
theorem KFil.below {W W' : World} {B n : Nat} {v : Value} {ss : List Kw} {zs : List Value} (h : KFil W B v n ss zs) (b : Below W.heap.size W W') : KFil W' B v n ss zs :=
  ⟨own_below h.1 b, fun r hr => ⟨((h.2.1 r hr).1.blw b).up b.size, (h.2.1 r hr).2⟩, h.2.2⟩
theorem KFil.own {W : World} {B : Nat} {v : Value} {ss : List Kw} (h : KFil W B v ss.length ss []) : KOwn W B v ss := ⟨by have := h.1; rwa [List.append_nil] at this, h.2⟩
theorem kn_far {w : World} {g lo hi n : Nat} {v : Value} {xs : List Value} {cs : Array Value} (h : Sli 3 lo hi v n xs w) (q : w.heap[g]? = some (.cells cs 85 (0, 0))) : v.ownBlock ≠ some g := by
  intro e
  obtain ⟨-, -, cs', q'⟩ := h.lt g e
  exact int_ne_kn q' q
theorem Sli.setK {w : World} {g lo hi n j : Nat} {v u : Value} {xs : List Value} {cs : Array Value} (h : Sli 3 lo hi v n xs w) (q : w.heap[g]? = some (.cells cs 85 (0, 0))) : Sli 3 lo hi v n xs (w.setCell ⟨g, j, none⟩ u) :=
  h.grown (grown_cell w g j u) (fun k hk e => by cases e; exact kn_far h q hk)
theorem KFil.set {W : World} {B n g cap j : Nat} {ss : List Kw} {zs : List Value} {u : Value} {ys : List Value} (h : KFil W B (.slice (some ⟨g, 0, none⟩) n cap) n ss zs) (e : (kncells ss ++ zs).set j u = kncells ss ++ ys) : KFil (W.setCell ⟨g, j, none⟩ u) B (.slice (some ⟨g, 0, none⟩) n cap) n ss ys := by
  obtain ⟨-, -, cs, q⟩ := own_kind h.1 g rfl
  refine ⟨by rw [← e]; exact fown_set h.1 rfl j u, fun r hr => ⟨?_, (h.2.1 r hr).2⟩, h.2.2⟩
  have hz : (W.setCell ⟨g, j, none⟩ u).heap.size = W.heap.size := by simp [World.setCell]
  rw [hz]
  exact (h.2.1 r hr).1.setK q
/-- One more has children of its own, which came since W0. -/
theorem KFil.take {W0 W : World} {B n g cap : Nat} {ss : List Kw} {zs : List Value} {lf : Bool} {kv : Value} {ls : List Int} (h0 : ∀ r ∈ ss, ∀ q, r.2.1.ownBlock = some q → q < W0.heap.size) (hB : B ≤ W0.heap.size) (h : KFil W B (.slice (some ⟨g, 0, none⟩) n cap) n ss (.bool lf :: kv :: zs)) (hr : Sli 3 W0.heap.size W.heap.size kv ls.length (icells ls) W) (hm : ls.length ≤ maxLen) : KFil W B (.slice (some ⟨g, 0, none⟩) n cap) n (ss ++ [(lf, kv, ls)]) zs := by
  refine ⟨?_, ?_, ?_⟩
  · have := h.1
    rw [← kncells_snoc, List.append_assoc]
    exact this
  · intro r hr2
    rcases List.mem_append.1 hr2 with hr2 | hr2
    · exact h.2.1 r hr2
    · simp only [List.mem_singleton] at hr2
      subst hr2
      exact ⟨hr.dn hB, hm⟩
  · refine List.pairwise_append.2 ⟨h.2.2, List.pairwise_singleton _ _, ?_⟩
    intro a ha b hb q e1 e2
    simp only [List.mem_singleton] at hb
    subst hb
    have q1 := h0 a ha q e1
    have q2 := (hr.lt q e2).1
    omega
theorem KFil.lt {W : World} {B n : Nat} {v : Value} {ss : List Kw} {zs : List Value} (h : KFil W B v n ss zs) : ∀ r ∈ ss, ∀ q, r.2.1.ownBlock = some q → q < W.heap.size := fun r hr q hq => ((h.2.1 r hr).1.lt q hq).2.1
theorem set_even {ss : List Kw} {k : Nat} (hk : ss.length = k) (a b u : Value) (zs : List Value) : (kncells ss ++ a :: b :: zs).set (k * 2) u = kncells ss ++ u :: b :: zs := by
  rw [List.set_append_right _ _ (by rw [kncells_len, hk]; exact Nat.le_refl _), kncells_len, hk, Nat.sub_self]
  rfl
theorem set_odd {ss : List Kw} {k : Nat} (hk : ss.length = k) (a b u : Value) (zs : List Value) : (kncells ss ++ a :: b :: zs).set (k * 2 + 1) u = kncells ss ++ a :: u :: zs := by
  rw [List.set_append_right _ _ (by rw [kncells_len, hk]; omega), kncells_len, hk, show k * 2 + 1 - k * 2 = 1 by omega]
  rfl
theorem KFil.cell0 {W : World} {B n g cap k : Nat} {ss : List Kw} {a b : Value} {zs : List Value} (h : KFil W B (.slice (some ⟨g, 0, none⟩) n cap) n ss (a :: b :: zs)) (hk : ss.length = k) : W.cell? ⟨g, k * 2, none⟩ = some a := by
  rw [← addr_at]
  refine h.1.cells (g := g) rfl (k * 2) a ?_
  rw [List.getElem?_append_right (by rw [kncells_len, hk]; exact Nat.le_refl _), kncells_len, hk, Nat.sub_self]
  rfl
theorem KFil.cell1 {W : World} {B n g cap k : Nat} {ss : List Kw} {a b : Value} {zs : List Value} (h : KFil W B (.slice (some ⟨g, 0, none⟩) n cap) n ss (a :: b :: zs)) (hk : ss.length = k) : W.cell? ⟨g, k * 2 + 1, none⟩ = some b := by
  rw [← addr_at]
  refine h.1.cells (g := g) rfl (k * 2 + 1) b ?_
  rw [List.getElem?_append_right (by rw [kncells_len, hk]; omega), kncells_len, hk, show k * 2 + 1 - k * 2 = 1 by omega]
  rfl
theorem KFil.fr {W : World} {B n g cap : Nat} {ss : List Kw} {zs : List Value} (h : KFil W B (.slice (some ⟨g, 0, none⟩) n cap) n ss zs) (j : Nat) : W.frozen? ⟨g, j, none⟩ = false := by
  obtain ⟨-, -, cs, q⟩ := own_kind h.1 g rfl
  exact frozen_of_row _ _ j _ _ q

/-- The copy under way. -/
def CaSt (w W : World) (z : Nat) (_av v : Value) (len : Nat) (ss rs : List Kw) : Prop := W.heap[z + 1]? = some (.cells #[.slice none 0 0] 33 (0, 0)) ∧ KFil W (z + 2) v len ss (kncells rs) ∧ Below z w W

end Go.Proofs.Ytcnaahajaaifjab
