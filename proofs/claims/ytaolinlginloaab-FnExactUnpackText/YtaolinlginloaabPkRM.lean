/-
  Plain facts on reading tokens from bytes: no Go in them.
-/
import Derived.Test.YtaolinlginloaabZMath
namespace Go.Proofs.Ytaolinlginloaab.Pack

/-- Tokens read from bytes, where a byte from lim on tells a match. -/
def readG (lim : Nat) : Nat → List UInt8 → Option (List (Nat × Nat × List UInt8))
  | _, [] => some []
  | 0, _ :: _ => none
  | f + 1, n :: r =>
    if lim ≤ n.toNat then (match r with
      | b :: r' => (readG lim f r').map fun l => (b.toNat, n.toNat - 128, []) :: l
      | [] => none)
    else if n.toNat ≤ r.length then (readG lim f (r.drop n.toNat)).map fun l => (0, 0, r.take n.toNat) :: l else none
theorem readG_T (f : Nat) (r : List UInt8) : readG 129 f r = readT f r := by
  induction f generalizing r with
  | zero => cases r <;> rfl
  | succ f ih =>
    cases r with
    | nil => rfl
    | cons n r =>
      unfold readG readT
      by_cases h : 128 < n.toNat
      · rw [if_pos h, if_pos (by omega)]
        cases r with
        | nil => rfl
        | cons b r => simp only [ih]
      · rw [if_neg h, if_neg (by omega), ih]
theorem readG_fuel (lim f : Nat) (r : List UInt8) (h : r.length ≤ f) : readG lim f r = readG lim r.length r := by
  induction f using Nat.strongRecOn generalizing r with
  | ind f ih =>
    cases r with
    | nil => cases f <;> rfl
    | cons n r =>
      rw [List.length_cons] at h
      obtain ⟨g, rfl⟩ : ∃ g, f = g + 1 := ⟨f - 1, by omega⟩
      rw [List.length_cons]
      unfold readG
      by_cases hn : lim ≤ n.toNat
      · rw [if_pos hn, if_pos hn]
        cases r with
        | nil => rfl
        | cons b r =>
          rw [List.length_cons] at h
          simp only
          rw [ih g (by omega) r (by omega)]
          by_cases hg : r.length + 1 < g + 1
          · rw [List.length_cons, ih (r.length + 1) hg r (by omega)]
          · omega
      · rw [if_neg hn, if_neg hn]
        have hd : (r.drop n.toNat).length ≤ r.length := by rw [List.length_drop]; omega
        rw [ih g (by omega) (r.drop n.toNat) (by omega)]
        by_cases hg : r.length < g + 1
        · rw [ih r.length hg (r.drop n.toNat) hd]
        · omega
def RG (lim : Nat) (r : List UInt8) : Option (List (Nat × Nat × List UInt8)) := readG lim r.length r
theorem RG_nil (lim : Nat) : RG lim [] = some [] := rfl
theorem RG_match (lim : Nat) (n b : UInt8) (r : List UInt8) (h : lim ≤ n.toNat) : RG lim (n :: b :: r) = (RG lim r).map fun l => (b.toNat, n.toNat - 128, []) :: l := by
  unfold RG
  rw [List.length_cons]
  conv => lhs; unfold readG
  rw [if_pos h]
  simp only
  rw [readG_fuel lim _ r (by simp)]
theorem RG_cut (lim : Nat) (n : UInt8) (h : lim ≤ n.toNat) : RG lim [n] = none := by
  unfold RG
  rw [List.length_cons]
  conv => lhs; unfold readG
  rw [if_pos h]
theorem RG_text (lim : Nat) (n : UInt8) (r : List UInt8) (h : ¬ lim ≤ n.toNat) (h2 : n.toNat ≤ r.length) : RG lim (n :: r) = (RG lim (r.drop n.toNat)).map fun l => (0, 0, r.take n.toNat) :: l := by
  unfold RG
  rw [List.length_cons]
  conv => lhs; unfold readG
  rw [if_neg h, if_pos h2, readG_fuel lim _ (r.drop n.toNat) (by rw [List.length_drop]; omega)]
theorem RG_short (lim : Nat) (n : UInt8) (r : List UInt8) (h : ¬ lim ≤ n.toNat) (h2 : ¬ n.toNat ≤ r.length) : RG lim (n :: r) = none := by
  unfold RG
  rw [List.length_cons]
  conv => lhs; unfold readG
  rw [if_neg h, if_neg h2]
theorem RG_of (lim : Nat) (hl1 : 128 ≤ lim) (hl2 : lim ≤ 129) (l : List (Nat × Nat × List UInt8)) (h : ∀ t ∈ l, Fit t) : RG lim (l.flatMap zTok) = some l := by
  induction l with
  | nil => rfl
  | cons t l ih =>
    have ht := h t (by simp)
    have hl := ih (fun t ht => h t (by simp [ht]))
    rw [List.flatMap_cons]
    obtain ⟨b, n, x⟩ := t
    rcases ht with ⟨e0, e1, e2, e3⟩ | ⟨e0, e1, e2, e3, e4⟩
    · simp only at e0 e1 e2 e3
      subst e0 e3
      have hz : zTok (0, 0, x) = UInt8.ofNat x.length :: x := rfl
      have hb := small_byte x.length (by omega)
      rw [hz, List.cons_append, RG_text _ _ _ (by rw [hb]; omega) (by rw [hb]; simp), hb, List.drop_left, List.take_left, hl]
      rfl
    · simp only at e0 e1 e2 e3 e4
      subst e4
      have hz : zTok (b, n, []) = [UInt8.ofNat (128 + n), UInt8.ofNat b] := by
        unfold zTok
        rw [if_neg (by simp only; omega)]
      have hb := small_byte (128 + n) (by omega)
      have hc := small_byte b (by omega)
      rw [hz, List.cons_append, List.cons_append, List.nil_append, RG_match _ _ _ _ (by rw [hb]; omega), hb, hc, hl]
      simp

/-- What the program reads a text from. -/
def plainI (t : List UInt8) : Option (List UInt8) :=
  match t with
  | [] => none
  | c :: r => if c = 114 then some r else if c = 122 then (RG 128 r).bind plain else none
def unpackI (t : List UInt8) : Option (List UInt8) := if 65 < t.length then none else (plainI t).bind fun s => if packL s = some t then some s else none
theorem unpackI_eq (t : List UInt8) : unpackI t = unpackL t := by
  apply Option.ext
  intro s
  constructor
  · intro h
    refine unpack_pack s t ?_
    unfold unpackI at h
    split at h
    · cases h
    · cases hp : plainI t with
      | none => rw [hp] at h; cases h
      | some x =>
        rw [hp] at h
        simp only [Option.bind_some] at h
        split at h
        · rename_i e; cases h; exact e
        · cases h
  · intro h
    have hp := pack_unpack s t h
    have hlen := pack_len s t hp
    have hs : s.length ≤ 64 := by
      unfold packL at hp
      split at hp
      · cases hp
      · omega
    unfold unpackI
    rw [if_neg (by omega)]
    have hi : plainI t = some s := by
      have hp' := hp
      unfold packL at hp'
      rw [if_neg (by omega)] at hp'
      split at hp'
      · cases hp'
        rfl
      · cases hp'
        unfold zOf plainI
        simp only
        rw [if_neg (by decide), if_pos trivial, RG_of 128 (by omega) (by omega) _ (fit_of [] s _ (by simp) (plain_toks s hs).1)]
        exact (plain_toks s hs).1
    rw [hi]
    simp only [Option.bind_some]
    rw [if_pos hp]
theorem unpackL_eq (c : UInt8) (r : List UInt8) : unpackL (c :: r) = (if c = 122 then (RG 129 r).bind plain else some r).bind fun s => if packL s = some (c :: r) then some s else none := by
  unfold unpackL RG
  simp only [readG_T]
end Go.Proofs.Ytaolinlginloaab.Pack
