/-
  SeP; DecI; Math
-/
import Derived.Test.YtiicghepilbgfaaGreatDoorPk0
/-
  Texts sealed with a sum, in plain words.
-/
namespace Go.Proofs.YtiicghepilbgfaaGreatDoor
open Sums

def sealA (t : ByteArray) : ByteArray := t ++ ⟨(four (sumOf t.data.toList)).toArray⟩
theorem sealA_size (t : ByteArray) : (sealA t).size = t.size + 4 := by
  simp [sealA, ByteArray.size_append]; rfl
theorem sealA_list (t : ByteArray) : (sealA t).data.toList = sealL t.data.toList := by
  simp [sealA, sealL, ByteArray.data_append]

def body (t : ByteArray) : ByteArray := t.extract 0 (t.size - 4)
theorem body_size (t : ByteArray) : (body t).size = t.size - 4 := by simp [body]
/-- What stands sealed in a text, if any does. -/
def unA (t : ByteArray) : Option ByteArray :=
  if 4 ≤ t.size ∧ t.size ≤ 20004 ∧ (sealA (body t)).data.toList = t.data.toList then some (body t) else none
theorem unA_some {t s : ByteArray} (h : unA t = some s) : sealA s = t ∧ s.size ≤ 20000 := by
  unfold unA at h
  split at h
  · rename_i hc
    cases h
    exact ⟨ByteArray.ext (Array.toList_inj.1 hc.2.2), by rw [body_size]; omega⟩
  · cases h
theorem body_seal (s : ByteArray) : body (sealA s) = s := by
  unfold body
  rw [sealA_size]
  apply ByteArray.ext
  unfold sealA
  have e : s.size + 4 - 4 = s.data.size := by simp
  rw [e]
  simp [ByteArray.data_append, ByteArray.data_extract]
theorem unA_seal (s : ByteArray) (h : s.size ≤ 20000) : unA (sealA s) = some s := by
  unfold unA
  rw [body_seal, if_pos ⟨by rw [sealA_size]; omega, by rw [sealA_size]; omega, rfl⟩]

theorem unA_none {t : ByteArray} (h : ¬ (4 ≤ t.size ∧ t.size ≤ 20004 ∧ sealA (body t) = t)) : unA t = none := by
  unfold unA
  rw [if_neg]
  rintro ⟨a, b, c⟩
  exact h ⟨a, b, ByteArray.ext (Array.toList_inj.1 c)⟩
theorem unA_yes {t : ByteArray} (h1 : 4 ≤ t.size) (h2 : t.size ≤ 20004) (h3 : sealA (body t) = t) : unA t = some (body t) := by
  unfold unA
  rw [if_pos ⟨h1, h2, by rw [h3]⟩]

end Go.Proofs.YtiicghepilbgfaaGreatDoor

/-
  What is decided, whatever decides it.
-/
namespace Go.Proofs.YtiicghepilbgfaaGreatDoor
theorem dcY {p : Prop} {d : Decidable p} (h : p) : @decide p d = true := decide_eq_true h
theorem dcN {p : Prop} {d : Decidable p} (h : ¬ p) : @decide p d = false := decide_eq_false h
theorem dcE {p q : Prop} {d : Decidable p} {e : Decidable q} (h : p ↔ q) : @decide p d = @decide q e := decide_eq_decide.2 h
theorem dcT {p : Prop} {d : Decidable p} : (@decide p d = true) = p := decide_eq_true_eq
theorem dcO {p : Prop} {d : Decidable p} (h : @decide p d = true) : p := of_decide_eq_true h
theorem dcF {p : Prop} {d : Decidable p} (h : @decide p d = false) : ¬ p := of_decide_eq_false h
end Go.Proofs.YtiicghepilbgfaaGreatDoor

/-
  Plain facts on numbers in bytes (seven bits a byte, the lowest first): no Go in them.
-/
namespace Go.Proofs.YtiicghepilbgfaaGreatDoor.Words

/-- The bytes of a number, seven bits a byte, the lowest first; with fuel. -/
def varF : Nat → Nat → List UInt8
  | 0, n => [UInt8.ofNat n]
  | f + 1, n => if n < 128 then [UInt8.ofNat n] else UInt8.ofNat (n % 128 + 128) :: varF f (n / 128)

def varL (n : Nat) : List UInt8 := varF n n

theorem varF_fuel : ∀ (f g n : Nat), n ≤ f → n ≤ g → varF f n = varF g n := by
  intro f
  induction f with
  | zero =>
    intro g n hf hg
    have : n = 0 := by omega
    subst this
    cases g <;> simp [varF]
  | succ f ih =>
    intro g n hf hg
    cases g with
    | zero =>
      have : n = 0 := by omega
      subst this
      simp [varF]
    | succ g =>
      simp only [varF]
      split
      · rfl
      · rw [ih g (n / 128) (by omega) (by omega)]

theorem varL_low (n : Nat) (h : n < 128) : varL n = [UInt8.ofNat n] := by
  unfold varL
  cases n with
  | zero => rfl
  | succ n => simp [varF, h]

theorem varL_high (n : Nat) (h : 128 ≤ n) : varL n = UInt8.ofNat (n % 128 + 128) :: varL (n / 128) := by
  unfold varL
  cases n with
  | zero => omega
  | succ n =>
    rw [varF, if_neg (by omega)]
    rw [varF_fuel n ((n + 1) / 128) ((n + 1) / 128) (by omega) (Nat.le_refl _)]

theorem varL_len (n : Nat) (h : n < 9223372036854775808) : 0 < (varL n).length ∧ (varL n).length ≤ 9 := by
  have low : ∀ n, n < 128 → (varL n).length = 1 := fun n h => by rw [varL_low n h]; rfl
  have step : ∀ (k : Nat) (b : Nat), (∀ n, n < b → 0 < (varL n).length ∧ (varL n).length ≤ k) → 128 ≤ 128 * b → ∀ n, n < 128 * b → 0 < (varL n).length ∧ (varL n).length ≤ k + 1 := by
    intro k b ih _ n hn
    by_cases h1 : n < 128
    · rw [low n h1]; omega
    · rw [varL_high n (by omega), List.length_cons]
      have := ih (n / 128) (by omega)
      omega
  have h1 : ∀ n, n < 128 → 0 < (varL n).length ∧ (varL n).length ≤ 1 := fun n h => by rw [low n h]; omega
  have h2 := step 1 128 h1 (by omega)
  have h3 := step 2 (128 * 128) h2 (by omega)
  have h4 := step 3 (128 * (128 * 128)) h3 (by omega)
  have h5 := step 4 (128 * (128 * (128 * 128))) h4 (by omega)
  have h6 := step 5 (128 * (128 * (128 * (128 * 128)))) h5 (by omega)
  have h7 := step 6 (128 * (128 * (128 * (128 * (128 * 128))))) h6 (by omega)
  have h8 := step 7 (128 * (128 * (128 * (128 * (128 * (128 * 128)))))) h7 (by omega)
  have h9 := step 8 (128 * (128 * (128 * (128 * (128 * (128 * (128 * 128))))))) h8 (by omega)
  exact h9 n (by omega)

/-- What a run of bytes is worth. -/
def valL : List UInt8 → Nat
  | [] => 0
  | c :: r => c.toNat % 128 + 128 * valL r

theorem valL_snoc (l : List UInt8) (c : UInt8) : valL (l ++ [c]) = valL l + c.toNat % 128 * 128 ^ l.length := by
  induction l with
  | nil => simp [valL]
  | cons a l ih =>
    simp only [List.cons_append, valL, ih, List.length_cons, Nat.pow_succ]
    rw [Nat.mul_add, ← Nat.add_assoc]
    congr 1
    rw [Nat.mul_left_comm, Nat.mul_comm 128]

theorem valL_lt (l : List UInt8) : valL l < 128 ^ l.length := by
  induction l with
  | nil => simp [valL]
  | cons a l ih =>
    simp only [valL, List.length_cons, Nat.pow_succ]
    omega

/-- The first bytes of a text that make a number: up to the first byte below 128, at most 'fuel' of them. -/
def scan : Nat → List UInt8 → Option (List UInt8)
  | 0, _ => none
  | _ + 1, [] => none
  | f + 1, c :: r => if c.toNat < 128 then some [c] else (scan f r).map (c :: ·)

/-- A run that ends below 128, all else of it at or above. -/
def Run (l : List UInt8) : Prop := ∃ p c, l = p ++ [c] ∧ c.toNat < 128 ∧ ∀ x ∈ p, 128 ≤ x.toNat

theorem ofNat_toNat (c : UInt8) : UInt8.ofNat c.toNat = c := by simp

theorem var_val : ∀ (p : List UInt8) (c : UInt8), c.toNat < 128 → (∀ x ∈ p, 128 ≤ x.toNat) →
    (varL (valL (p ++ [c])) = p ++ [c] ↔ ¬ (c.toNat = 0 ∧ p ≠ [])) ∧ (valL (p ++ [c]) = 0 → c.toNat = 0) := by
  intro p
  induction p with
  | nil =>
    intro c hc _
    have e : valL ([] ++ [c]) = c.toNat := by simp [valL]; omega
    rw [e, varL_low _ hc]
    simp
  | cons a p ih =>
    intro c hc hp
    have ha : 128 ≤ a.toNat := hp a (by simp)
    have ha2 : a.toNat < 256 := a.toNat_lt
    obtain ⟨i1, i2⟩ := ih c hc (fun x hx => hp x (by simp [hx]))
    have e : valL (a :: p ++ [c]) = a.toNat % 128 + 128 * valL (p ++ [c]) := rfl
    rw [e]
    refine ⟨?_, fun h => i2 (by omega)⟩
    by_cases hv : valL (p ++ [c]) = 0
    · have hc0 := i2 hv
      rw [hv, varL_low _ (by omega)]
      constructor
      · intro h
        have := congrArg List.length h
        simp at this
      · intro h
        exact absurd ⟨hc0, by simp⟩ h
    · rw [varL_high _ (by omega)]
      have e1 : (a.toNat % 128 + 128 * valL (p ++ [c])) % 128 + 128 = a.toNat := by omega
      have e2 : (a.toNat % 128 + 128 * valL (p ++ [c])) / 128 = valL (p ++ [c]) := by omega
      rw [e1, e2, ofNat_toNat]
      constructor
      · intro h hn
        have h' : varL (valL (p ++ [c])) = p ++ [c] := by simpa using h
        have := i1.1 h'
        by_cases hp0 : p = []
        · subst hp0
          have : valL [c] = 0 := by simp [valL, hn.1]
          exact hv this
        · exact this ⟨hn.1, hp0⟩
      · intro h
        have hc0 : ¬ c.toNat = 0 := fun h0 => h ⟨h0, by simp⟩
        have := i1.2 (fun hh => hc0 hh.1)
        rw [this]; rfl

/-- What ReadVar answers. -/
def readV (text : List UInt8) (at_ : Nat) : Option (Nat × Nat) :=
  match scan 5 (text.drop at_) with
  | none => none
  | some l => if valL l ≤ 1000000000 ∧ varL (valL l) = l then some (valL l, at_ + l.length) else none

theorem scan_pre : ∀ (p r : List UInt8) (f : Nat), (∀ x ∈ p, 128 ≤ x.toNat) → scan (p.length + f) (p ++ r) = (scan f r).map (p ++ ·) := by
  intro p
  induction p with
  | nil => intro r f _; simp
  | cons a p ih =>
    intro r f hp
    have ha := hp a (by simp)
    have e : (a :: p).length + f = (p.length + f) + 1 := by simp; omega
    rw [e, List.cons_append, scan, if_neg (by omega), ih r f (fun x hx => hp x (by simp [hx]))]
    cases scan f r <;> simp
end Go.Proofs.YtiicghepilbgfaaGreatDoor.Words
