/-
  Plain facts on the parts of a line: no Go in them.
-/
import Derived.Lib.Fields
import Derived.Lib.Strings
namespace Go.Proofs.YtiajmphmliefgakDoor.Words
open Go.Lib (fields fieldsGo isSp)

/-- Each byte is a sign that a line may hold. -/
def Plain (l : List UInt8) : Prop := ∀ x ∈ l, 32 ≤ x.toNat ∧ x.toNat ≤ 126
theorem plain_take {l : List UInt8} {k : Nat} (h : k < l.length) (hk : Plain (l.take k)) (hc : 32 ≤ l[k].toNat ∧ l[k].toNat ≤ 126) : Plain (l.take (k + 1)) := by
  rw [List.take_succ_eq_append_getElem h]
  intro x hx
  rcases List.mem_append.1 hx with hx | hx
  · exact hk x hx
  · rw [List.mem_singleton.1 hx]; exact hc
theorem plain_not {l : List UInt8} {k : Nat} (h : k < l.length) (hc : ¬ (32 ≤ l[k].toNat ∧ l[k].toNat ≤ 126)) : ¬ Plain l := fun H => hc (H _ (List.getElem_mem h))
theorem isSp_plain (c : UInt8) (h : 32 ≤ c.toNat) : isSp c = decide (c.toNat = 32) := by
  have e : ∀ n : Nat, n < 256 → (c == UInt8.ofNat n) = decide (c.toNat = n) := by
    intro n hn
    rw [Bool.eq_iff_iff, beq_iff_eq, decide_eq_true_iff]
    constructor
    · intro h; rw [h]; simp; omega
    · intro h; rw [← h]; simp
  have e9 := e 9 (by omega)
  have e10 := e 10 (by omega)
  have e11 := e 11 (by omega)
  have e12 := e 12 (by omega)
  have e13 := e 13 (by omega)
  have e32 := e 32 (by omega)
  have t : isSp c = (c == UInt8.ofNat 9 || c == UInt8.ofNat 10 || c == UInt8.ofNat 11 || c == UInt8.ofNat 12 || c == UInt8.ofNat 13 || c == UInt8.ofNat 32) := rfl
  rw [t, e9, e10, e11, e12, e13, e32]
  rw [decide_eq_false (show ¬ c.toNat = 9 by omega), decide_eq_false (show ¬ c.toNat = 10 by omega), decide_eq_false (show ¬ c.toNat = 11 by omega), decide_eq_false (show ¬ c.toNat = 12 by omega), decide_eq_false (show ¬ c.toNat = 13 by omega)]
  simp

/-- Where the search stands: i bytes are seen, the part at hand begins at b, these parts are whole. -/
def At2 (l : List UInt8) (i b : Nat) (acc : List (List UInt8)) : Prop :=
  b ≤ i ∧ i ≤ l.length ∧ acc.length ≤ i ∧ Plain (l.take i) ∧ acc ++ fieldsGo ((l.drop b).take (i - b)) (l.drop i) = fields l
theorem At2.zero (l : List UInt8) : At2 l 0 0 [] := ⟨by omega, by omega, by simp, by intro x hx; simp at hx, by simp [fields]⟩
theorem cur_step {l : List UInt8} {i b : Nat} (hb : b ≤ i) (h : i < l.length) : (l.drop b).take (i + 1 - b) = (l.drop b).take (i - b) ++ [l[i]] := by
  rw [show i + 1 - b = (i - b) + 1 by omega, List.take_succ_eq_append_getElem (by simp; omega)]
  simp only [List.getElem_drop]
  congr 2
  exact getElem_congr_idx (by omega)
theorem At2.more {l : List UInt8} {i b : Nat} {acc : List (List UInt8)} (h : At2 l i b acc) (hi : i < l.length) (hc : 32 < l[i].toNat ∧ l[i].toNat ≤ 126) : At2 l (i + 1) b acc := by
  obtain ⟨h1, h2, h3, h4, h5⟩ := h
  refine ⟨by omega, by omega, by omega, plain_take hi h4 (by omega), ?_⟩
  have hsp : isSp l[i] = false := by rw [isSp_plain _ (by omega), decide_eq_false (by omega)]
  rw [List.drop_eq_getElem_cons hi, Go.Lib.fieldsGo_more _ _ _ hsp] at h5
  rw [cur_step h1 hi]
  exact h5
theorem At2.blank_part {l : List UInt8} {i b : Nat} {acc : List (List UInt8)} (h : At2 l i b acc) (hi : i < l.length) (hc : l[i].toNat = 32) (hb : b < i) :
    At2 l (i + 1) (i + 1) (acc ++ [(l.drop b).take (i - b)]) := by
  obtain ⟨h1, h2, h3, h4, h5⟩ := h
  refine ⟨by omega, by omega, by simp; omega, plain_take hi h4 (by omega), ?_⟩
  have hsp : isSp l[i] = true := by rw [isSp_plain _ (by omega), decide_eq_true hc]
  have hne : (l.drop b).take (i - b) ≠ [] := by
    intro he
    have := congrArg List.length he
    simp at this
    omega
  rw [List.drop_eq_getElem_cons hi, Go.Lib.fieldsGo_end _ _ _ hsp hne] at h5
  rw [Nat.sub_self, List.take_zero, List.append_assoc]
  exact h5
theorem At2.blank_none {l : List UInt8} {i b : Nat} {acc : List (List UInt8)} (h : At2 l i b acc) (hi : i < l.length) (hc : l[i].toNat = 32) (hb : ¬ b < i) :
    At2 l (i + 1) (i + 1) acc := by
  obtain ⟨h1, h2, h3, h4, h5⟩ := h
  refine ⟨by omega, by omega, by omega, plain_take hi h4 (by omega), ?_⟩
  have hsp : isSp l[i] = true := by rw [isSp_plain _ (by omega), decide_eq_true hc]
  rw [show i - b = 0 by omega, List.take_zero, List.drop_eq_getElem_cons hi, Go.Lib.fieldsGo_sp _ _ hsp] at h5
  rw [Nat.sub_self, List.take_zero]
  exact h5
theorem At2.end_part {l : List UInt8} {i b : Nat} {acc : List (List UInt8)} (h : At2 l i b acc) (hi : i = l.length) (hb : b < i) : acc ++ [(l.drop b).take (i - b)] = fields l ∧ Plain l := by
  obtain ⟨h1, h2, h3, h4, h5⟩ := h
  have hne : ((l.drop b).take (i - b)).isEmpty = false := by
    cases he : (l.drop b).take (i - b) with
    | nil =>
      have := congrArg List.length he
      simp at this
      omega
    | cons a r => rfl
  rw [hi, List.drop_length] at h5
  rw [hi] at hne h4 ⊢
  rw [fieldsGo, hne] at h5
  rw [List.take_length] at h4
  exact ⟨h5, h4⟩
theorem At2.end_none {l : List UInt8} {i b : Nat} {acc : List (List UInt8)} (h : At2 l i b acc) (hi : i = l.length) (hb : ¬ b < i) : acc = fields l ∧ Plain l := by
  obtain ⟨h1, h2, h3, h4, h5⟩ := h
  rw [show i - b = 0 by omega, List.take_zero, hi, List.drop_length] at h5
  rw [hi, List.take_length] at h4
  simp [fieldsGo] at h5
  exact ⟨h5, h4⟩

/-- What PartsOf takes, and what it answers. -/
def POk (l : List UInt8) : Prop := l.length ≤ 600 ∧ Plain l ∧ (fields l).length ≤ 10
theorem fields_le (l : List UInt8) : (fields l).length ≤ l.length := by
  rw [Go.Lib.fields_length]
  have : ∀ (l : List UInt8) (b : Bool), Go.Lib.cntF b l ≤ l.length := by
    intro l
    induction l with
    | nil => intro b; simp [Go.Lib.cntF]
    | cons a l ih =>
      intro b
      rw [Go.Lib.cntF]
      have := ih (isSp a)
      simp only [List.length_cons]
      split <;> omega
  exact this l true
end Go.Proofs.YtiajmphmliefgakDoor.Words
