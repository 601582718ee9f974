/-
  What chapter 7 says of room, in plain words.
-/
import Derived.Test.YtcjgjkejhkhknaaFlP
namespace Go.Proofs.Ytcjgjkejhkhknaa

/-- How many of these leaves are blank. -/
def blanks (ls : List (Int × ByteArray)) : Nat := ls.countP (fun t => t.1 == 0)
theorem blanks_le (ls : List (Int × ByteArray)) : blanks ls ≤ ls.length := List.countP_le_length
theorem blanks_take {ls : List (Int × ByteArray)} {k : Nat} {t : Int × ByteArray} (ht : ls[k]? = some t) : blanks (ls.take (k + 1)) = blanks (ls.take k) + if t.1 = 0 then 1 else 0 := by
  obtain ⟨h1, h2⟩ := List.getElem?_eq_some_iff.1 ht
  rw [List.take_succ_eq_append_getElem h1, h2]
  unfold blanks
  rw [List.countP_append]
  by_cases h : t.1 = 0 <;> simp [h]
def freeB (b : Bk) : Bool := !b.1 && decide (blanks b.2.2 = b.2.2.length)
def openB (b : Bk) : Bool := !b.1 && decide (0 < blanks b.2.2 ∧ blanks b.2.2 < b.2.2.length)
/-- The free ones of the first k blocks. -/
def freeTo (bs : List Bk) : Nat → List Int
  | 0 => []
  | k + 1 => freeTo bs k ++ (match bs[k]? with | some b => if freeB b = true then [(k : Int)] else [] | none => [])
def freeL (bs : List Bk) : List Int := freeTo bs bs.length
theorem freeTo_yes {bs : List Bk} {k : Nat} {b : Bk} (hb : bs[k]? = some b) (h : freeB b = true) : freeTo bs (k + 1) = freeTo bs k ++ [(k : Int)] := by simp [freeTo, hb, h]
theorem freeTo_no {bs : List Bk} {k : Nat} {b : Bk} (hb : bs[k]? = some b) (h : freeB b = false) : freeTo bs (k + 1) = freeTo bs k := by simp [freeTo, hb, h]
theorem freeTo_len (bs : List Bk) (k : Nat) : (freeTo bs k).length ≤ k := by
  induction k with
  | zero => exact Nat.le_refl _
  | succ k ih =>
    simp only [freeTo, List.length_append]
    split
    · split <;> simp <;> omega
    · simp; omega
theorem freeTo_mem {bs : List Bk} {k : Nat} {x : Int} (h : x ∈ freeTo bs k) : ∃ i : Nat, x = i ∧ i < k ∧ ∃ b, bs[i]? = some b ∧ freeB b = true := by
  induction k with
  | zero => cases h
  | succ k ih =>
    simp only [freeTo, List.mem_append] at h
    rcases h with h | h
    · obtain ⟨i, e, hi, r⟩ := ih h
      exact ⟨i, e, by omega, r⟩
    · cases hb : bs[k]? with
      | none => rw [hb] at h; cases h
      | some b =>
        rw [hb] at h
        simp only at h
        by_cases hf : freeB b = true
        · rw [if_pos hf, List.mem_singleton] at h
          exact ⟨k, h, by omega, b, hb, hf⟩
        · rw [if_neg hf] at h
          cases h
theorem freeTo_has {bs : List Bk} {k i : Nat} {b : Bk} (hi : i < k) (hb : bs[i]? = some b) (hf : freeB b = true) : (i : Int) ∈ freeTo bs k := by
  induction k with
  | zero => omega
  | succ k ih =>
    simp only [freeTo, List.mem_append]
    by_cases e : i = k
    · subst e
      right
      rw [hb]
      simp [hf]
    · exact Or.inl (ih (by omega))
theorem freeTo_asc (bs : List Bk) (k : Nat) : (freeTo bs k).Pairwise (· < ·) := by
  induction k with
  | zero => exact List.Pairwise.nil
  | succ k ih =>
    simp only [freeTo]
    refine List.pairwise_append.2 ⟨ih, ?_, fun a ha c hc => ?_⟩
    · split
      · split
        · exact List.pairwise_singleton _ _
        · exact List.Pairwise.nil
      · exact List.Pairwise.nil
    · obtain ⟨i, rfl, hi, -⟩ := freeTo_mem ha
      cases hb : bs[k]? with
      | none => rw [hb] at hc; cases hc
      | some b =>
        rw [hb] at hc
        simp only at hc
        split at hc
        · rw [List.mem_singleton] at hc
          omega
        · cases hc
/-- The first open block; -1 without one. -/
def openF (bs : List Bk) : Int := if bs.findIdx openB < bs.length then (bs.findIdx openB : Int) else -1
theorem openF_at {bs : List Bk} {k : Nat} {b : Bk} (hb : bs[k]? = some b) (h : openB b = true) (hn : ∀ (j : Nat) (c : Bk), j < k → bs[j]? = some c → openB c = false) : openF bs = k := by
  obtain ⟨h1, h2⟩ := List.getElem?_eq_some_iff.1 hb
  have e : bs.findIdx openB = k := by
    rw [List.findIdx_eq h1]
    refine ⟨by rw [h2]; exact h, fun j hj => ?_⟩
    exact hn j bs[j] hj (List.getElem?_eq_getElem (by omega))
  simp only [openF, e, if_pos h1]
theorem openF_none {bs : List Bk} (hn : ∀ (j : Nat) (c : Bk), bs[j]? = some c → openB c = false) : openF bs = -1 := by
  have e : bs.findIdx openB = bs.length := by
    rw [List.findIdx_eq_length]
    intro c hc
    obtain ⟨j, hj, rfl⟩ := List.getElem_of_mem hc
    exact hn j bs[j] (List.getElem?_eq_getElem hj)
  simp only [openF, e]
  rw [if_neg (by omega)]
theorem openF_cases (bs : List Bk) : (openF bs = -1 ∧ ∀ (j : Nat) (c : Bk), bs[j]? = some c → openB c = false) ∨ ∃ k b, openF bs = (k : Nat) ∧ bs[k]? = some b ∧ openB b = true ∧ ∀ (j : Nat) (c : Bk), j < k → bs[j]? = some c → openB c = false := by
  by_cases h : bs.findIdx openB < bs.length
  · right
    refine ⟨bs.findIdx openB, bs[bs.findIdx openB], by simp only [openF, if_pos h], List.getElem?_eq_getElem h, List.findIdx_getElem, fun j c hj hc => ?_⟩
    obtain ⟨h1, rfl⟩ := List.getElem?_eq_some_iff.1 hc
    have := List.not_of_lt_findIdx hj
    simpa using this
  · left
    refine ⟨by simp only [openF, if_neg h], fun j c hc => ?_⟩
    have e : bs.findIdx openB = bs.length := by have := List.findIdx_le_length (xs := bs) (p := openB); omega
    rw [List.findIdx_eq_length] at e
    exact e c (List.mem_of_getElem? hc)
/-- The blank leaves of the first k blocks that are not Bad. -/
def roomTo (bs : List Bk) : Nat → Nat
  | 0 => 0
  | k + 1 => roomTo bs k + (match bs[k]? with | some b => if b.1 = true then 0 else blanks b.2.2 | none => 0)
def roomF (bs : List Bk) : Nat := roomTo bs bs.length
theorem roomTo_yes {bs : List Bk} {k : Nat} {b : Bk} (hb : bs[k]? = some b) (h : b.1 = false) : roomTo bs (k + 1) = roomTo bs k + blanks b.2.2 := by simp [roomTo, hb, h]
theorem roomTo_no {bs : List Bk} {k : Nat} {b : Bk} (hb : bs[k]? = some b) (h : b.1 = true) : roomTo bs (k + 1) = roomTo bs k := by simp [roomTo, hb, h]
theorem roomTo_le {bs : List Bk} {m : Nat} (hll : ∀ b ∈ bs, b.2.2.length ≤ m) (k : Nat) : roomTo bs k ≤ k * m := by
  induction k with
  | zero => exact Nat.zero_le _
  | succ k ih =>
    rw [Nat.succ_mul]
    simp only [roomTo]
    cases hb : bs[k]? with
    | none => simp only; omega
    | some b =>
      have h1 := hll b (List.mem_of_getElem? hb)
      have h2 := blanks_le b.2.2
      simp only
      split <;> omega
end Go.Proofs.Ytcjgjkejhkhknaa
