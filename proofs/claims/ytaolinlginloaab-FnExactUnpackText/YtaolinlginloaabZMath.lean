/-
  Plain facts on texts that are packed: no Go in them.
-/
import Derived.Test.YtaolinlginloaabTMath
namespace Go.Proofs.Ytaolinlginloaab.Pack

/-- The bytes of a token. -/
def zTok (t : Nat × Nat × List UInt8) : List UInt8 := if t.1 = 0 then UInt8.ofNat t.2.2.length :: t.2.2 else [UInt8.ofNat (128 + t.2.1), UInt8.ofNat t.1]
def zOf (s : List UInt8) : List UInt8 := 122 :: (toks s).flatMap zTok
/-- A text packed, where it is not too long. -/
def packL (s : List UInt8) : Option (List UInt8) := if 64 < s.length then none else some (if s.length + 1 ≤ (zOf s).length then 114 :: s else zOf s)
/-- Tokens read from bytes. -/
def readT : Nat → List UInt8 → Option (List (Nat × Nat × List UInt8))
  | _, [] => some []
  | 0, _ :: _ => none
  | f + 1, n :: r =>
    if 128 < n.toNat then (match r with
      | b :: r' => (readT f r').map fun l => (b.toNat, n.toNat - 128, []) :: l
      | [] => none)
    else if n.toNat ≤ r.length then (readT f (r.drop n.toNat)).map fun l => (0, 0, r.take n.toNat) :: l else none
/-- The text of which this is the packed one. -/
def unpackL (t : List UInt8) : Option (List UInt8) :=
  match t with
  | [] => none
  | c :: r => (if c = 122 then (readT r.length r).bind plain else some r).bind fun s => if packL s = some t then some s else none

theorem pack_len (s t : List UInt8) (h : packL s = some t) : t.length ≤ s.length + 1 := by
  unfold packL at h
  split at h
  · cases h
  · cases h
    split
    · simp
    · omega

/-- What a token that tells something looks like. -/
def Fit (t : Nat × Nat × List UInt8) : Prop := (t.1 = 0 ∧ 1 ≤ t.2.2.length ∧ t.2.2.length ≤ 31 ∧ t.2.1 = 0) ∨ (0 < t.1 ∧ t.1 ≤ 64 ∧ 1 ≤ t.2.1 ∧ t.2.1 ≤ 31 ∧ t.2.2 = [])
theorem fit_of (out o : List UInt8) (l : List (Nat × Nat × List UInt8)) (ho : out.length ≤ 64) (h : plainFrom out l = some o) : ∀ t ∈ l, Fit t := by
  induction l generalizing out with
  | nil => intro t ht; cases ht
  | cons a l ih =>
    unfold plainFrom at h
    split at h
    · rename_i hok
      split at h
      · rename_i hlen
        intro t ht
        rcases List.mem_cons.1 ht with e | e
        · subst e
          unfold TokOk at hok
          split at hok
          · rename_i h0
            exact .inl ⟨h0, hok⟩
          · rename_i h0
            exact .inr ⟨by omega, by omega, hok.2⟩
        · exact ih _ hlen h t e
      · cases h
    · cases h

theorem small_byte (n : Nat) (h : n < 256) : (UInt8.ofNat n).toNat = n := by rw [UInt8.toNat_ofNat']; omega
theorem zTok_len (t : Nat × Nat × List UInt8) : 1 ≤ (zTok t).length := by
  unfold zTok
  split <;> simp
theorem readT_of (l : List (Nat × Nat × List UInt8)) (h : ∀ t ∈ l, Fit t) (f : Nat) (hf : (l.flatMap zTok).length ≤ f) : readT f (l.flatMap zTok) = some l := by
  induction l generalizing f with
  | nil =>
    simp only [List.flatMap_nil]
    cases f <;> rfl
  | cons t l ih =>
    have ht := h t (by simp)
    have hl := ih (fun t ht => h t (by simp [ht]))
    rw [List.flatMap_cons] at hf ⊢
    rw [List.length_append] at hf
    have h1 := zTok_len t
    obtain ⟨g, rfl⟩ : ∃ g, f = g + 1 := ⟨f - 1, by omega⟩
    obtain ⟨b, n, x⟩ := t
    rcases ht with ⟨e0, e1, e2, e3⟩ | ⟨e0, e1, e2, e3, e4⟩
    · simp only at e0 e1 e2 e3
      subst e0 e3
      have hz : zTok (0, 0, x) = UInt8.ofNat x.length :: x := rfl
      rw [hz] at hf ⊢
      rw [List.cons_append]
      unfold readT
      rw [small_byte x.length (by omega), if_neg (by omega), if_pos (by simp)]
      rw [List.drop_left, List.take_left, hl g (by simp only [List.length_cons] at hf; omega)]
      rfl
    · simp only at e0 e1 e2 e3 e4
      subst e4
      have hz : zTok (b, n, []) = [UInt8.ofNat (128 + n), UInt8.ofNat b] := by
        unfold zTok
        rw [if_neg (by simp only; omega)]
      rw [hz] at hf ⊢
      rw [List.cons_append]
      unfold readT
      rw [small_byte (128 + n) (by omega), if_pos (by omega)]
      simp only [List.cons_append, List.nil_append]
      rw [hl g (by simp only [List.length_cons, List.length_nil] at hf; omega), small_byte b (by omega)]
      simp
/-- What is packed is unpacked. -/
theorem unpack_pack (s t : List UInt8) (h : packL s = some t) : unpackL t = some s := by
  have hs : s.length ≤ 64 := by
    unfold packL at h
    split at h
    · cases h
    · omega
  obtain ⟨hp, -⟩ := plain_toks s hs
  have h' := h
  unfold packL at h'
  rw [if_neg (by omega)] at h'
  split at h'
  · cases h'
    unfold unpackL
    simp only
    rw [if_neg (by decide)]
    simp only [Option.bind_some]
    rw [if_pos h]
  · cases h'
    show (if (122 : UInt8) = 122 then (readT ((toks s).flatMap zTok).length ((toks s).flatMap zTok)).bind plain else some _).bind _ = _
    rw [if_pos rfl, readT_of _ (fit_of [] s _ (by simp) hp) _ (Nat.le_refl _)]
    simp only [Option.bind_some, hp]
    rw [if_pos h]
/-- What is unpacked was packed so. -/
theorem pack_unpack (s t : List UInt8) (h : unpackL t = some s) : packL s = some t := by
  unfold unpackL at h
  split at h
  · cases h
  · rename_i c r
    cases hx : (if c = 122 then (readT r.length r).bind plain else some r) with
    | none => rw [hx] at h; cases h
    | some x =>
      rw [hx] at h
      simp only [Option.bind_some] at h
      split at h
      · rename_i e
        cases h
        exact e
      · cases h
/-- Sizes and texts of tokens are as many bytes as they tell. -/
def sizes (l : List (Nat × Nat × List UInt8)) : Nat := (l.map fun t => t.2.1 + t.2.2.length).sum
theorem again_len (n back : Nat) (out : List UInt8) : (again n back out).length = out.length + n := by
  induction n generalizing out with
  | zero => rfl
  | succ n ih => unfold again; rw [ih]; simp; omega
theorem sizes_of (out o : List UInt8) (l : List (Nat × Nat × List UInt8)) (h : plainFrom out l = some o) : o.length = out.length + sizes l := by
  induction l generalizing out with
  | nil => cases h; rfl
  | cons t l ih =>
    unfold plainFrom at h
    split at h
    · rename_i hok
      split at h
      · have := ih _ h
        rw [this]
        have hsz : sizes (t :: l) = t.2.1 + t.2.2.length + sizes l := by simp [sizes]
        rw [hsz]
        unfold TokOk at hok
        unfold tell
        split
        · rename_i h0
          rw [if_pos h0] at hok
          rw [List.length_append]
          omega
        · rename_i h0
          rw [if_neg h0] at hok
          rw [again_len, hok.2.2.2]
          simp only [List.length_nil]
          omega
      · cases h
    · cases h
end Go.Proofs.Ytaolinlginloaab.Pack
