/-
  Plain facts on stable sorting by a key: no Go in them.
-/
import Derived.Test.YtogfdhfmamabiaaPgMath
namespace Go.Proofs.Ytogfdhfmamabiaa.Words

structure Fnd where
  block : Int
  leaf : Int
  page : Pg

def Fnd.key (x : Fnd) : Int := x.page.seq

/-- A row that ascends. -/
def Asc (l : List Fnd) : Prop := l.Pairwise (fun a b => a.key ≤ b.key)
/-- Two rows that tell, of each key, the same elements in the same order. -/
def Akin (l k : List Fnd) : Prop := ∀ c : Int, l.filter (fun x => x.key == c) = k.filter (fun x => x.key == c)

theorem Akin.refl (l : List Fnd) : Akin l l := fun _ => rfl
theorem Akin.symm {l k : List Fnd} (h : Akin l k) : Akin k l := fun c => (h c).symm
theorem Akin.trans {l k m : List Fnd} (h : Akin l k) (h2 : Akin k m) : Akin l m := fun c => (h c).trans (h2 c)
theorem Akin.app {a b c d : List Fnd} (h : Akin a b) (h2 : Akin c d) : Akin (a ++ c) (b ++ d) := fun z => by
  rw [List.filter_append, List.filter_append, h z, h2 z]
theorem Akin.flip {a b : List Fnd} (h : ∀ x ∈ a, ∀ y ∈ b, x.key ≠ y.key) : Akin (a ++ b) (b ++ a) := fun c => by
  rw [List.filter_append, List.filter_append]
  by_cases hc : ∃ x ∈ a, x.key = c
  · obtain ⟨x, hx, rfl⟩ := hc
    have : b.filter (fun y => y.key == x.key) = [] := by
      rw [List.filter_eq_nil_iff]
      intro y hy
      have := h x hx y hy
      simpa using fun e => this e.symm
    rw [this]
    simp
  · have : a.filter (fun y => y.key == c) = [] := by
      rw [List.filter_eq_nil_iff]
      intro y hy
      simpa using fun e => hc ⟨y, hy, e⟩
    rw [this]
    simp
theorem Akin.mem {l k : List Fnd} (h : Akin l k) (x : Fnd) : x ∈ l ↔ x ∈ k := by
  have := h x.key
  have e : ∀ m : List Fnd, x ∈ m ↔ x ∈ m.filter (fun y => y.key == x.key) := fun m => by simp
  rw [e l, e k, this]
/-- Two rows that ascend and are alike are the same. -/
theorem Akin.eq : ∀ {l k : List Fnd}, Akin l k → Asc l → Asc k → l = k := by
  intro l
  induction l with
  | nil =>
    intro k h _ _
    cases k with
    | nil => rfl
    | cons b k =>
      have := h b.key
      simp at this
  | cons a l ih =>
    intro k h ha hk
    cases k with
    | nil =>
      have := h a.key
      simp at this
    | cons b k =>
      have hab : a.key = b.key := by
        have h1 : b ∈ a :: l := (h.mem b).2 List.mem_cons_self
        have h2 : a ∈ b :: k := (h.mem a).1 List.mem_cons_self
        have c1 : a.key ≤ b.key := by
          rcases List.mem_cons.1 h1 with e | e
          · rw [e]; exact Int.le_refl _
          · exact (List.pairwise_cons.1 ha).1 b e
        have c2 : b.key ≤ a.key := by
          rcases List.mem_cons.1 h2 with e | e
          · rw [e]; exact Int.le_refl _
          · exact (List.pairwise_cons.1 hk).1 a e
        omega
      have h0 := h a.key
      rw [List.filter_cons_of_pos (by simp), List.filter_cons_of_pos (by simp [hab])] at h0
      injection h0 with e1 _
      subst e1
      congr 1
      refine ih (fun c => ?_) (List.pairwise_cons.1 ha).2 (List.pairwise_cons.1 hk).2
      have hc := h c
      by_cases e : a.key = c
      · rw [List.filter_cons_of_pos (by simp [e]), List.filter_cons_of_pos (by simp [e])] at hc
        injection hc
      · rw [List.filter_cons_of_neg (by simpa using e), List.filter_cons_of_neg (by simpa using e)] at hc
        exact hc
theorem Asc.app {a b : List Fnd} (ha : Asc a) (hb : Asc b) (h : ∀ x ∈ a, ∀ y ∈ b, x.key ≤ y.key) : Asc (a ++ b) := List.pairwise_append.2 ⟨ha, hb, h⟩
theorem Asc.left {a b : List Fnd} (h : Asc (a ++ b)) : Asc a := (List.pairwise_append.1 h).1
theorem Asc.right {a b : List Fnd} (h : Asc (a ++ b)) : Asc b := (List.pairwise_append.1 h).2.1
theorem Asc.across {a b : List Fnd} (h : Asc (a ++ b)) : ∀ x ∈ a, ∀ y ∈ b, x.key ≤ y.key := (List.pairwise_append.1 h).2.2
theorem Asc.le {l : List Fnd} (h : Asc l) {i j : Nat} {x y : Fnd} (hi : l[i]? = some x) (hj : l[j]? = some y) (hij : i ≤ j) : x.key ≤ y.key := by
  by_cases e : i = j
  · subst e
    rw [hi] at hj
    cases hj
    exact Int.le_refl _
  · obtain ⟨h1, e1⟩ := List.getElem?_eq_some_iff.1 hi
    obtain ⟨h2, e2⟩ := List.getElem?_eq_some_iff.1 hj
    rw [← e1, ← e2]
    exact List.pairwise_iff_getElem.1 h i j h1 h2 (by omega)
theorem akin_len {l k : List Fnd} (h : Akin l k) : l.length = k.length := by
  classical
  have : l.Perm k := List.perm_iff_count.2 (fun x => by
    have h1 := h x.key
    have e : ∀ m : List Fnd, List.count x (m.filter (fun y => y.key == x.key)) = List.count x m := fun m => List.count_filter (by simp)
    rw [← e l, ← e k, h1])
  exact this.length_eq
end Go.Proofs.Ytogfdhfmamabiaa.Words
