/-
  Plain facts on reading decimal figures: no Go in them.
-/
import Derived.Test.YtiajmphmliefgaaDoorDecMath
import Derived.Test.YtiajmphmliefgaaDoorUnMath
namespace Go.Proofs.YtiajmphmliefgaaDoor.Words
open Go.Lib (decDigits itoa)

/-- What figures are worth, read from the left. -/
def dv (l : List UInt8) : Int := (vals l).foldl (fun a v => a * 10 + v) 0
theorem dv_take {l : List UInt8} {k : Nat} (h : k < l.length) : dv (l.take (k + 1)) = dv (l.take k) * 10 + val16 l[k].toNat := by
  unfold dv
  rw [vals_take h, List.foldl_append]
  rfl
theorem dv_zero (l : List UInt8) : dv (l.take 0) = 0 := rfl
theorem fig10 (c : Nat) : (0 ≤ val16 c ∧ val16 c < 10) ↔ (48 ≤ c ∧ c ≤ 57) := by
  unfold val16
  split
  · omega
  · split <;> omega
theorem val10 (c : Nat) (h : 48 ≤ c ∧ c ≤ 57) : val16 c = (c : Int) - 48 := by unfold val16; rw [if_pos h]
theorem dv_bd : ∀ (l : List UInt8) (k : Nat), k ≤ l.length → FigsOk 10 (l.take k) → 0 ≤ dv (l.take k) ∧ dv (l.take k) < 10 ^ k := by
  intro l k
  induction k with
  | zero => intro _ _; rw [dv_zero]; simp
  | succ k ih =>
    intro hk hok
    have hl : k < l.length := by omega
    have hok2 : FigsOk 10 (l.take k) := fun x hx => hok x (by
      rw [List.take_succ_eq_append_getElem hl]; exact List.mem_append_left _ hx)
    have hx := hok l[k] (by rw [List.take_succ_eq_append_getElem hl]; exact List.mem_append_right _ (List.mem_singleton.2 rfl))
    have := ih (by omega) hok2
    rw [dv_take hl, Int.pow_succ]
    omega
theorem ten_pow (k : Nat) (h : k ≤ 10) : (10 : Int) ^ k ≤ 10000000000 := by
  match k, h with
  | 0, _ => decide
  | 1, _ => decide
  | 2, _ => decide
  | 3, _ => decide
  | 4, _ => decide
  | 5, _ => decide
  | 6, _ => decide
  | 7, _ => decide
  | 8, _ => decide
  | 9, _ => decide
  | 10, _ => decide
  | k + 11, h => omega
theorem dv_le (l : List UInt8) (k : Nat) (hk : k ≤ l.length) (h10 : l.length ≤ 10) (hok : FigsOk 10 (l.take k)) : 0 ≤ dv (l.take k) ∧ dv (l.take k) ≤ 10000000000 := by
  have h1 := dv_bd l k hk hok
  have h2 := ten_pow k (by omega)
  omega
theorem max_len : (itoa 1000000000).length = 10 := by
  rw [show (1000000000 : Int) = ((1000000000 : Nat) : Int) from rfl, Go.Lib.itoa_nonneg, Go.Lib.decDigits_length]
  exact Go.Lib.nDigits_unique 9 1000000000 (by decide) (by decide)
/-- What ReadDecimal takes. -/
def RdOk (l : List UInt8) : Prop := FigsOk 10 l ∧ dv l ≤ 1000000000 ∧ itoa (dv l) = l
end Go.Proofs.YtiajmphmliefgaaDoor.Words
