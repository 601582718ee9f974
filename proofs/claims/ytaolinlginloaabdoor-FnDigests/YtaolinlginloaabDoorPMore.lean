/-
  Plain facts on digests of a text that comes in parts: no Go in them.
-/
import Derived.Test.YtaolinlginloaabDoorDMath
namespace Go.Proofs.YtaolinlginloaabDoor.Dig

/-- Blocks mixed in two goes. -/
theorem mixes_add (i j : Nat) (st : List Nat) (l : List UInt8) : mixes (i + j) st l = mixes j (mixes i st l) (l.drop (64 * i)) := by
  induction j with
  | zero => rfl
  | succ j ih =>
    show mix (mixes (i + j) st l) ((l.drop (64 * (i + j))).take 64) = mix (mixes j (mixes i st l) (l.drop (64 * i))) (((l.drop (64 * i)).drop (64 * j)).take 64)
    rw [ih, List.drop_drop, Nat.mul_add]
/-- Blocks hang on the bytes of them alone. -/
theorem mixes_left (i : Nat) (st : List Nat) (a b : List UInt8) (h : 64 * i ≤ a.length) : mixes i st (a ++ b) = mixes i st a := by
  induction i with
  | zero => rfl
  | succ i ih =>
    show mix (mixes i st (a ++ b)) (((a ++ b).drop (64 * i)).take 64) = mix (mixes i st a) ((a.drop (64 * i)).take 64)
    rw [ih (by omega), List.drop_append_of_le_length (by omega), List.take_append_of_le_length (by rw [List.length_drop]; omega)]
/-- The rest behind the whole blocks. -/
def restL (l : List UInt8) : List UInt8 := l.drop (64 * (l.length / 64))
def stateL (st : List Nat) (l : List UInt8) : List Nat := mixes (l.length / 64) st l
theorem rest_more (st : List Nat) (a b : List UInt8) : restL (restL a ++ b) = restL (a ++ b) ∧ stateL (stateL st a) (restL a ++ b) = stateL st (a ++ b) := by
  have hl : (restL a).length = a.length - 64 * (a.length / 64) := by simp [restL]
  have e1 : restL a ++ b = (a ++ b).drop (64 * (a.length / 64)) := by
    rw [restL, List.drop_append_of_le_length (by omega)]
  have e2 : (a ++ b).length / 64 = a.length / 64 + (restL a ++ b).length / 64 := by
    rw [List.length_append, List.length_append, hl]
    omega
  constructor
  · unfold restL at *
    rw [e2, e1, List.drop_drop, Nat.mul_add]
  · unfold stateL
    rw [e2, mixes_add, mixes_left _ _ a b (by omega), e1]
end Go.Proofs.YtaolinlginloaabDoor.Dig
