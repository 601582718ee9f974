/-
  RoMath; HpMath
-/
import Derived.Test.YtiicghepilbgfaaGreatDoorPk3
/-
  What chapter 7 says of room, in plain words.
-/
namespace Go.Proofs.YtiicghepilbgfaaGreatDoor

/-- How many of these leaves are blank. -/
def blanks (ls : List (Int × ByteArray)) : Nat := ls.countP (fun t => t.1 == 0)
theorem blanks_le (ls : List (Int × ByteArray)) : blanks ls ≤ ls.length := List.countP_le_length
theorem blanks_take {ls : List (Int × ByteArray)} {k : Nat} {t : Int × ByteArray} (ht : ls[k]? = some t) : blanks (ls.take (k + 1)) = blanks (ls.take k) + if t.1 = 0 then 1 else 0 := by
  obtain ⟨h1, h2⟩ := List.getElem?_eq_some_iff.1 ht
  rw [List.take_succ_eq_append_getElem h1, h2]
  unfold blanks
  rw [List.countP_append]
  by_cases h : t.1 = 0 <;> simp [h]
def freeB (b : Bk) : Bool := !b.1 && decide (blanks b.2.2 = b.2.2.length)
def openB (b : Bk) : Bool := !b.1 && decide (0 < blanks b.2.2 ∧ blanks b.2.2 < b.2.2.length)
/-- The free ones of the first k blocks. -/
def freeTo (bs : List Bk) : Nat → List Int
  | 0 => []
  | k + 1 => freeTo bs k ++ (match bs[k]? with | some b => if freeB b = true then [(k : Int)] else [] | none => [])
def freeL (bs : List Bk) : List Int := freeTo bs bs.length
theorem freeTo_yes {bs : List Bk} {k : Nat} {b : Bk} (hb : bs[k]? = some b) (h : freeB b = true) : freeTo bs (k + 1) = freeTo bs k ++ [(k : Int)] := by simp [freeTo, hb, h]
theorem freeTo_no {bs : List Bk} {k : Nat} {b : Bk} (hb : bs[k]? = some b) (h : freeB b = false) : freeTo bs (k + 1) = freeTo bs k := by simp [freeTo, hb, h]
theorem freeTo_len (bs : List Bk) (k : Nat) : (freeTo bs k).length ≤ k := by
  induction k with
  | zero => exact Nat.le_refl _
  | succ k ih =>
    simp only [freeTo, List.length_append]
    split
    · split <;> simp <;> omega
    · simp; omega
theorem freeTo_mem {bs : List Bk} {k : Nat} {x : Int} (h : x ∈ freeTo bs k) : ∃ i : Nat, x = i ∧ i < k ∧ ∃ b, bs[i]? = some b ∧ freeB b = true := by
  induction k with
  | zero => cases h
  | succ k ih =>
    simp only [freeTo, List.mem_append] at h
    rcases h with h | h
    · obtain ⟨i, e, hi, r⟩ := ih h
      exact ⟨i, e, by omega, r⟩
    · cases hb : bs[k]? with
      | none => rw [hb] at h; cases h
      | some b =>
        rw [hb] at h
        simp only at h
        by_cases hf : freeB b = true
        · rw [if_pos hf, List.mem_singleton] at h
          exact ⟨k, h, by omega, b, hb, hf⟩
        · rw [if_neg hf] at h
          cases h
theorem freeTo_has {bs : List Bk} {k i : Nat} {b : Bk} (hi : i < k) (hb : bs[i]? = some b) (hf : freeB b = true) : (i : Int) ∈ freeTo bs k := by
  induction k with
  | zero => omega
  | succ k ih =>
    simp only [freeTo, List.mem_append]
    by_cases e : i = k
    · subst e
      right
      rw [hb]
      simp [hf]
    · exact Or.inl (ih (by omega))
theorem freeTo_asc (bs : List Bk) (k : Nat) : (freeTo bs k).Pairwise (· < ·) := by
  induction k with
  | zero => exact List.Pairwise.nil
  | succ k ih =>
    simp only [freeTo]
    refine List.pairwise_append.2 ⟨ih, ?_, fun a ha c hc => ?_⟩
    · split
      · split
        · exact List.pairwise_singleton _ _
        · exact List.Pairwise.nil
      · exact List.Pairwise.nil
    · obtain ⟨i, rfl, hi, -⟩ := freeTo_mem ha
      cases hb : bs[k]? with
      | none => rw [hb] at hc; cases hc
      | some b =>
        rw [hb] at hc
        simp only at hc
        split at hc
        · rw [List.mem_singleton] at hc
          omega
        · cases hc
/-- The first open block; -1 without one. -/
def openF (bs : List Bk) : Int := if bs.findIdx openB < bs.length then (bs.findIdx openB : Int) else -1
theorem openF_at {bs : List Bk} {k : Nat} {b : Bk} (hb : bs[k]? = some b) (h : openB b = true) (hn : ∀ (j : Nat) (c : Bk), j < k → bs[j]? = some c → openB c = false) : openF bs = k := by
  obtain ⟨h1, h2⟩ := List.getElem?_eq_some_iff.1 hb
  have e : bs.findIdx openB = k := by
    rw [List.findIdx_eq h1]
    refine ⟨by rw [h2]; exact h, fun j hj => ?_⟩
    exact hn j bs[j] hj (List.getElem?_eq_getElem (by omega))
  simp only [openF, e, if_pos h1]
theorem openF_none {bs : List Bk} (hn : ∀ (j : Nat) (c : Bk), bs[j]? = some c → openB c = false) : openF bs = -1 := by
  have e : bs.findIdx openB = bs.length := by
    rw [List.findIdx_eq_length]
    intro c hc
    obtain ⟨j, hj, rfl⟩ := List.getElem_of_mem hc
    exact hn j bs[j] (List.getElem?_eq_getElem hj)
  simp only [openF, e]
  rw [if_neg (by omega)]
theorem openF_cases (bs : List Bk) : (openF bs = -1 ∧ ∀ (j : Nat) (c : Bk), bs[j]? = some c → openB c = false) ∨ ∃ k b, openF bs = (k : Nat) ∧ bs[k]? = some b ∧ openB b = true ∧ ∀ (j : Nat) (c : Bk), j < k → bs[j]? = some c → openB c = false := by
  by_cases h : bs.findIdx openB < bs.length
  · right
    refine ⟨bs.findIdx openB, bs[bs.findIdx openB], by simp only [openF, if_pos h], List.getElem?_eq_getElem h, List.findIdx_getElem, fun j c hj hc => ?_⟩
    obtain ⟨h1, rfl⟩ := List.getElem?_eq_some_iff.1 hc
    have := List.not_of_lt_findIdx hj
    simpa using this
  · left
    refine ⟨by simp only [openF, if_neg h], fun j c hc => ?_⟩
    have e : bs.findIdx openB = bs.length := by have := List.findIdx_le_length (xs := bs) (p := openB); omega
    rw [List.findIdx_eq_length] at e
    exact e c (List.mem_of_getElem? hc)
/-- The blank leaves of the first k blocks that are not Bad. -/
def roomTo (bs : List Bk) : Nat → Nat
  | 0 => 0
  | k + 1 => roomTo bs k + (match bs[k]? with | some b => if b.1 = true then 0 else blanks b.2.2 | none => 0)
def roomF (bs : List Bk) : Nat := roomTo bs bs.length
theorem roomTo_yes {bs : List Bk} {k : Nat} {b : Bk} (hb : bs[k]? = some b) (h : b.1 = false) : roomTo bs (k + 1) = roomTo bs k + blanks b.2.2 := by simp [roomTo, hb, h]
theorem roomTo_no {bs : List Bk} {k : Nat} {b : Bk} (hb : bs[k]? = some b) (h : b.1 = true) : roomTo bs (k + 1) = roomTo bs k := by simp [roomTo, hb, h]
theorem roomTo_le {bs : List Bk} {m : Nat} (hll : ∀ b ∈ bs, b.2.2.length ≤ m) (k : Nat) : roomTo bs k ≤ k * m := by
  induction k with
  | zero => exact Nat.zero_le _
  | succ k ih =>
    rw [Nat.succ_mul]
    simp only [roomTo]
    cases hb : bs[k]? with
    | none => simp only; omega
    | some b =>
      have h1 := hll b (List.mem_of_getElem? hb)
      have h2 := blanks_le b.2.2
      simp only
      split <;> omega
end Go.Proofs.YtiicghepilbgfaaGreatDoor

/-
  Heaps of worn blocks, and the least worn of them, in plain words.
-/
namespace Go.Proofs.YtiicghepilbgfaaGreatDoor

/-- A block's place and its wear. -/
abbrev Wb := Int × Int
abbrev ltW (a b : Wb) : Prop := a.2 < b.2 ∨ a.2 = b.2 ∧ a.1 < b.1
theorem ltW_trans {a b c : Wb} (h : ltW a b) (k : ltW b c) : ltW a c := by unfold ltW at *; omega
theorem nlt_trans {a b c : Wb} (h : ¬ ltW b a) (k : ¬ ltW c b) : ¬ ltW c a := by unfold ltW at *; omega
theorem ltW_asym {a b : Wb} (h : ltW a b) : ¬ ltW b a := by unfold ltW at *; omega
theorem nlt_lt {a b c : Wb} (h : ¬ ltW c b) (k : ltW a b) : ¬ ltW c a := by unfold ltW at *; omega
theorem nlt_self (a : Wb) : ¬ ltW a a := by unfold ltW; omega
/-- None is less than its parent. -/
def Heapy (D : List Wb) : Prop := ∀ (k : Nat) (x y : Wb), 0 < k → D[k]? = some x → D[(k - 1) / 2]? = some y → ¬ ltW x y
/-- .. but that at j, perhaps. -/
def HeapBut (D : List Wb) (j : Nat) : Prop := (∀ (k : Nat) (x y : Wb), 0 < k → k ≠ j → D[k]? = some x → D[(k - 1) / 2]? = some y → ¬ ltW x y) ∧
  ∀ (k : Nat) (x y : Wb), 0 < k → 0 < j → (k - 1) / 2 = j → D[k]? = some x → D[(j - 1) / 2]? = some y → ¬ ltW x y
theorem Heapy.nil : Heapy [] := by intro k x y _ h; simp at h
theorem Heapy.root {D : List Wb} (h : Heapy D) {r : Wb} (hr : D[0]? = some r) : ∀ (k : Nat) (x : Wb), D[k]? = some x → ¬ ltW x r := by
  intro k
  induction k using Nat.strongRecOn with
  | ind k ih =>
    intro x hx
    by_cases h0 : k = 0
    · subst h0
      rw [hr] at hx
      cases hx
      exact nlt_self _
    · have hl := (List.getElem?_eq_some_iff.1 hx).1
      have hp : D[(k - 1) / 2]? = some D[(k - 1) / 2] := List.getElem?_eq_getElem (by omega)
      exact nlt_trans (ih _ (by omega) _ hp) (h k x _ (by omega) hx hp)
theorem Heapy.push {D : List Wb} (h : Heapy D) (x : Wb) : HeapBut (D ++ [x]) D.length := by
  refine ⟨fun k u v h0 hk hu hv => ?_, fun k u v h0 hj hk hu hv => ?_⟩
  · have hl := (List.getElem?_eq_some_iff.1 hu).1
    simp only [List.length_append, List.length_cons, List.length_nil] at hl
    rw [List.getElem?_append_left (by omega)] at hu hv
    exact h k u v h0 hu hv
  · have hl := (List.getElem?_eq_some_iff.1 hu).1
    simp only [List.length_append, List.length_cons, List.length_nil] at hl
    omega
theorem HeapBut.done {D : List Wb} {j : Nat} (h : HeapBut D j) (hj : j = 0 ∨ ∃ x y, D[j]? = some x ∧ D[(j - 1) / 2]? = some y ∧ ¬ ltW x y) : Heapy D := by
  intro k x y h0 hx hy
  by_cases e : k = j
  · subst e
    rcases hj with hj | ⟨x', y', hx', hy', hn⟩
    · omega
    · rw [hx] at hx'
      rw [hy] at hy'
      cases hx'
      cases hy'
      exact hn
  · exact h.1 k x y h0 e hx hy
/-- The row with two of its places exchanged. -/
def swp (D : List Wb) (i j : Nat) (a b : Wb) : List Wb := (D.set i b).set j a
theorem swp_len (D : List Wb) (i j : Nat) (a b : Wb) : (swp D i j a b).length = D.length := by simp [swp]
theorem swp_at {D : List Wb} {i j : Nat} {a b : Wb} (ha : D[i]? = some a) (hb : D[j]? = some b) (k : Nat) : (swp D i j a b)[k]? = if k = j then some a else if k = i then some b else D[k]? := by
  have h1 := (List.getElem?_eq_some_iff.1 ha).1
  have h2 := (List.getElem?_eq_some_iff.1 hb).1
  unfold swp
  by_cases e : k = j
  · subst e
    rw [if_pos rfl, List.getElem?_set_self (by simpa using h2)]
  · rw [if_neg e, List.getElem?_set_ne (fun q => e q.symm)]
    by_cases e2 : k = i
    · subst e2
      rw [if_pos rfl, List.getElem?_set_self h1]
    · rw [if_neg e2, List.getElem?_set_ne (fun q => e2 q.symm)]
theorem swp_mem {D : List Wb} {i j : Nat} {a b : Wb} (ha : D[i]? = some a) (hb : D[j]? = some b) (x : Wb) : x ∈ swp D i j a b ↔ x ∈ D := by
  constructor
  · intro h
    obtain ⟨k, hk, e⟩ := List.getElem_of_mem h
    have e2 := List.getElem?_eq_some_iff.2 ⟨hk, e⟩
    rw [swp_at ha hb] at e2
    by_cases q : k = j
    · rw [if_pos q] at e2
      cases e2
      exact List.mem_of_getElem? ha
    · rw [if_neg q] at e2
      by_cases q2 : k = i
      · rw [if_pos q2] at e2
        cases e2
        exact List.mem_of_getElem? hb
      · rw [if_neg q2] at e2
        exact List.mem_of_getElem? e2
  · intro h
    obtain ⟨k, hk, e⟩ := List.getElem_of_mem h
    have e2 := List.getElem?_eq_some_iff.2 ⟨hk, e⟩
    by_cases q : k = j
    · subst q
      rw [hb] at e2
      cases e2
      by_cases q2 : i = k
      · subst q2
        rw [hb] at ha
        cases ha
        exact List.mem_of_getElem? (i := i) (by rw [swp_at hb hb, if_pos rfl])
      · exact List.mem_of_getElem? (i := i) (by rw [swp_at ha hb, if_neg q2, if_pos rfl])
    · by_cases q2 : k = i
      · subst q2
        rw [ha] at e2
        cases e2
        exact List.mem_of_getElem? (i := j) (by rw [swp_at ha hb, if_pos rfl])
      · exact List.mem_of_getElem? (i := k) (by rw [swp_at ha hb, if_neg q, if_neg q2]; exact e2)
theorem HeapBut.step {D : List Wb} {i j : Nat} {a b : Wb} (h : HeapBut D j) (hj : 0 < j) (hi : (j - 1) / 2 = i) (ha : D[i]? = some a) (hb : D[j]? = some b) (hlt : ltW b a) : HeapBut (swp D i j a b) i := by
  obtain ⟨h1, h2⟩ := h
  have hij : i ≠ j := by omega
  refine ⟨fun k x y h0 hk hx hy => ?_, fun k x y h0 h0i hk hx hy => ?_⟩
  · rw [swp_at ha hb] at hx hy
    by_cases e : k = j
    · subst e
      rw [if_pos rfl] at hx
      rw [hi, if_neg hij, if_pos rfl] at hy
      cases hx
      cases hy
      exact ltW_asym hlt
    · rw [if_neg e, if_neg hk] at hx
      by_cases e2 : (k - 1) / 2 = j
      · rw [if_pos e2] at hy
        cases hy
        exact h2 k x a h0 hj e2 hx (by rw [hi]; exact ha)
      · rw [if_neg e2] at hy
        by_cases e3 : (k - 1) / 2 = i
        · rw [if_pos e3] at hy
          cases hy
          exact nlt_lt (h1 k x a h0 e hx (by rw [e3]; exact ha)) hlt
        · rw [if_neg e3] at hy
          exact h1 k x y h0 e hx hy
  · rw [swp_at ha hb] at hx hy
    rw [if_neg (by omega), if_neg (by omega)] at hy
    have hp := h1 i a y h0i hij ha hy
    by_cases e : k = j
    · subst e
      rw [if_pos rfl] at hx
      cases hx
      exact hp
    · rw [if_neg e, if_neg (by omega)] at hx
      exact nlt_trans hp (h1 k x a h0 e hx (by rw [hk]; exact ha))

def IsLeast (L : List Wb) (b : Wb) : Prop := b ∈ L ∧ ∀ x ∈ L, ¬ ltW x b
theorem IsLeast.eq {L : List Wb} {a b : Wb} (h : IsLeast L a) (k : IsLeast L b) : a = b := by
  have h1 := h.2 b k.1
  have h2 := k.2 a h.1
  unfold ltW at h1 h2
  exact Prod.ext (by omega) (by omega)
def leastW : List Wb → Option Wb
  | [] => none
  | x :: l => match leastW l with
    | none => some x
    | some y => if ltW y x then some y else some x
theorem leastW_some {L : List Wb} (h : L ≠ []) : ∃ b, leastW L = some b ∧ IsLeast L b := by
  induction L with
  | nil => exact absurd rfl h
  | cons x l ih =>
    by_cases e : l = []
    · subst e
      exact ⟨x, rfl, List.mem_singleton.2 rfl, fun y hy => by rw [List.mem_singleton] at hy; subst hy; exact nlt_self _⟩
    · obtain ⟨y, h1, h2, h3⟩ := ih e
      by_cases hlt : ltW y x
      · refine ⟨y, by simp only [leastW, h1, if_pos hlt], List.mem_cons_of_mem _ h2, fun z hz => ?_⟩
        rcases List.mem_cons.1 hz with rfl | hz
        · exact ltW_asym hlt
        · exact h3 z hz
      · refine ⟨x, by simp only [leastW, h1, if_neg hlt], List.mem_cons_self, fun z hz => ?_⟩
        rcases List.mem_cons.1 hz with rfl | hz
        · exact nlt_self _
        · exact nlt_trans hlt (h3 z hz)
theorem IsLeast.is {L : List Wb} {b : Wb} (h : IsLeast L b) : leastW L = some b := by
  obtain ⟨c, h1, h2⟩ := leastW_some (L := L) (fun e => by subst e; cases h.1)
  rw [h1, h.eq h2]
/-- The wear of a block. -/
def wearOf (bs : List Bk) (i : Int) : Int := match bs[i.toNat]? with | some b => b.2.1 | none => 0
def wearL (bs : List Bk) (l : List Int) : List Wb := l.map (fun i => (i, wearOf bs i))
def leafs (bs : List Bk) (i : Int) : List (Int × ByteArray) := match bs[i.toNat]? with | some b => b.2.2 | none => []
/-- Where to write next. -/
def placeF (bs : List Bk) : Int × Int × Bool :=
  if flOk bs then
    if 0 ≤ openF bs then (openF bs, (nextB (leafs bs (openF bs)) : Nat), true)
    else match leastW (wearL bs (freeL bs)) with
      | some b => (b.1, 0, true)
      | none => (0, 0, false)
  else (0, 0, false)
end Go.Proofs.YtiicghepilbgfaaGreatDoor
