/-
  Plain facts on words of 32 bits, shifted and joined: no Go in them.
-/
import Derived.Test.YtaolinlginloaacDoorDMath
namespace Go.Proofs.YtaolinlginloaacDoor.Dig

theorem or_eq_xor_of_and (x y : Nat) (h : x &&& y = 0) : x ||| y = x ^^^ y := by
  apply Nat.eq_of_testBit_eq
  intro i
  have := congrArg (fun n => n.testBit i) h
  simp only [Nat.testBit_and, Nat.zero_testBit] at this
  rw [Nat.testBit_or, Nat.testBit_xor]
  cases hx : x.testBit i <;> cases hy : y.testBit i <;> simp_all

/-- A word turned right by so many bits, as shifts. -/
theorem rt_or (x b : Nat) (hx : x < 4294967296) (h0 : 0 < b) (h32 : b < 32) : (x * 2 ^ (32 - b) % 4294967296) ||| (x / 2 ^ b) = rt x (2 ^ b) := by
  have hp : 2 ^ b * 2 ^ (32 - b) = 4294967296 := by rw [← Nat.pow_add]; rw [show b + (32 - b) = 32 by omega]
  have hq : 2147483648 / 2 ^ b * 2 = 2 ^ (32 - b) := by
    have : (2147483648 : Nat) = 2 ^ 31 := rfl
    rw [this, Nat.pow_div (by omega) (by omega), ← Nat.pow_succ]
    congr 1; omega
  have hm : x * 2 ^ (32 - b) % 4294967296 = 2 ^ (32 - b) * (x % 2 ^ b) := by
    rw [← hp, Nat.mul_mod_mul_right, Nat.mul_comm]
  have hl : x / 2 ^ b < 2 ^ (32 - b) := by
    rw [Nat.div_lt_iff_lt_mul (Nat.two_pow_pos b), Nat.mul_comm, hp]; exact hx
  rw [hm, ← Nat.two_pow_add_eq_or_of_lt hl]
  unfold rt
  rw [hq, Nat.add_comm, Nat.mul_comm (2 ^ (32 - b))]

theorem not_bit (e i : Nat) (he : e < 4294967296) : (4294967295 - e).testBit i = (decide (i < 32) && !e.testBit i) := by
  have := Nat.testBit_two_pow_sub_succ (x := e) (n := 32) he i
  have h2 : 2 ^ 32 - (e + 1) = 4294967295 - e := by omega
  rw [h2] at this
  exact this
theorem ch_or (e f g : Nat) (he : e < 4294967296) : (e &&& f) ||| ((4294967295 - e) &&& g) = ch e f g := by
  apply or_eq_xor_of_and
  apply Nat.eq_of_testBit_eq
  intro i
  simp only [Nat.testBit_and, Nat.zero_testBit, not_bit e i he]
  cases e.testBit i <;> simp
theorem maj_or (a b c : Nat) : (a &&& b) ||| (a &&& c) ||| (b &&& c) = maj a b c := by
  apply Nat.eq_of_testBit_eq
  intro i
  simp only [maj, Nat.testBit_and, Nat.testBit_or, Nat.testBit_xor]
  cases a.testBit i <;> cases b.testBit i <;> cases c.testBit i <;> rfl
/-- Four bytes joined by bits are the word. -/
theorem four_or (c0 c1 c2 c3 : Nat) (h1 : c1 < 256) (h2 : c2 < 256) (h3 : c3 < 256) : c0 * 16777216 ||| c1 * 65536 ||| c2 * 256 ||| c3 = c0 * 16777216 + c1 * 65536 + c2 * 256 + c3 := by
  have e1 : c0 * 16777216 ||| c1 * 65536 = c0 * 16777216 + c1 * 65536 := by
    have := Nat.two_pow_add_eq_or_of_lt (i := 24) (b := c1 * 65536) (by omega) c0
    rw [Nat.mul_comm] at this; exact this.symm
  have e2 : (c0 * 16777216 + c1 * 65536) ||| c2 * 256 = c0 * 16777216 + c1 * 65536 + c2 * 256 := by
    have := Nat.two_pow_add_eq_or_of_lt (i := 16) (b := c2 * 256) (by omega) (c0 * 256 + c1)
    have e : 2 ^ 16 * (c0 * 256 + c1) = c0 * 16777216 + c1 * 65536 := by omega
    rw [e] at this; exact this.symm
  have e3 : (c0 * 16777216 + c1 * 65536 + c2 * 256) ||| c3 = c0 * 16777216 + c1 * 65536 + c2 * 256 + c3 := by
    have := Nat.two_pow_add_eq_or_of_lt (i := 8) (b := c3) (by omega) (c0 * 65536 + c1 * 256 + c2)
    have e : 2 ^ 8 * (c0 * 65536 + c1 * 256 + c2) = c0 * 16777216 + c1 * 65536 + c2 * 256 := by omega
    rw [e] at this; exact this.symm
  rw [e1, e2, e3]
end Go.Proofs.YtaolinlginloaacDoor.Dig
