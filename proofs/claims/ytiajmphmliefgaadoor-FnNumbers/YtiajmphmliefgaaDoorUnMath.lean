/-
  Plain facts on what figures are worth: no Go in them.
-/
import Derived.Test.YtiajmphmliefgaaDoorHexMath
namespace Go.Proofs.YtiajmphmliefgaaDoor.Words

/-- What a figure is worth; -1 where it is none. -/
def val16 (c : Nat) : Int := if 48 ≤ c ∧ c ≤ 57 then (c : Int) - 48 else if 97 ≤ c ∧ c ≤ 102 then (c : Int) - 97 + 10 else -1
theorem val_fig (v : Int) (c : Nat) (h0 : 0 ≤ v) (h1 : v < 16) : figZ v = c ↔ val16 c = v := by
  unfold figZ val16
  split <;> split <;> (try split) <;> omega
theorem val16_bd (c : Nat) : -1 ≤ val16 c ∧ val16 c ≤ 15 := by
  unfold val16
  split
  · omega
  · split <;> omega

/-- Each byte of the text is a figure below b. -/
def FigsOk (b : Int) (l : List UInt8) : Prop := ∀ x ∈ l, 0 ≤ val16 x.toNat ∧ val16 x.toNat < b
def vals (l : List UInt8) : List Int := l.map fun x => val16 x.toNat
theorem figs_take {b : Int} {l : List UInt8} {k : Nat} (h : k < l.length) (hk : FigsOk b (l.take k)) (hv : 0 ≤ val16 l[k].toNat ∧ val16 l[k].toNat < b) : FigsOk b (l.take (k + 1)) := by
  rw [List.take_succ_eq_append_getElem h]
  intro x hx
  rcases List.mem_append.1 hx with hx | hx
  · exact hk x hx
  · simp at hx; subst hx; exact hv
theorem figs_not {b : Int} {l : List UInt8} {k : Nat} (h : k < l.length) (hv : ¬ (0 ≤ val16 l[k].toNat ∧ val16 l[k].toNat < b)) : ¬ FigsOk b l :=
  fun H => hv (H _ (List.getElem_mem h))
theorem vals_take {l : List UInt8} {k : Nat} (h : k < l.length) : vals (l.take (k + 1)) = vals (l.take k) ++ [val16 l[k].toNat] := by
  unfold vals
  rw [List.take_succ_eq_append_getElem h, List.map_append]
  rfl
theorem vals_len (l : List UInt8) : (vals l).length = l.length := by simp [vals]

/-- Two figures a byte. -/
def unhexL : List UInt8 → List UInt8
  | a :: b :: r => UInt8.ofNat (16 * val16 a.toNat + val16 b.toNat).toNat :: unhexL r
  | _ => []
theorem unhexL_snoc : ∀ (n : Nat) (l : List UInt8) (a b : UInt8), l.length = 2 * n → unhexL (l ++ [a, b]) = unhexL l ++ [UInt8.ofNat (16 * val16 a.toNat + val16 b.toNat).toNat] := by
  intro n
  induction n with
  | zero =>
    intro l a b h
    have : l = [] := List.length_eq_zero_iff.1 (by omega)
    subst this
    rfl
  | succ n ih =>
    intro l a b h
    match l, h with
    | x :: y :: r, h =>
      have := ih r a b (by simp at h; omega)
      simp [unhexL, this]
    | [x], h => simp at h; omega
    | [], h => simp at h
theorem unhexL_len : ∀ (n : Nat) (l : List UInt8), l.length = 2 * n → (unhexL l).length = n := by
  intro n
  induction n with
  | zero =>
    intro l h
    have : l = [] := List.length_eq_zero_iff.1 (by omega)
    subst this
    rfl
  | succ n ih =>
    intro l h
    match l, h with
    | x :: y :: r, h =>
      have := ih r (by simp at h; omega)
      simp [unhexL, this]
    | [x], h => simp at h; omega
    | [], h => simp at h
theorem take_two {l : List UInt8} {k : Nat} (h : k + 1 < l.length) : l.take (k + 2) = l.take k ++ [l[k], l[k + 1]] := by
  rw [List.take_succ_eq_append_getElem h, List.take_succ_eq_append_getElem (show k < l.length by omega), List.append_assoc]
  rfl
theorem unhexL_take {l : List UInt8} {m : Nat} (h : 2 * m + 1 < l.length) :
    unhexL (l.take (2 * m + 2)) = unhexL (l.take (2 * m)) ++ [UInt8.ofNat (16 * val16 l[2 * m].toNat + val16 l[2 * m + 1].toNat).toNat] := by
  rw [take_two h, unhexL_snoc m _ _ _ (by simp; omega)]
end Go.Proofs.YtiajmphmliefgaaDoor.Words
