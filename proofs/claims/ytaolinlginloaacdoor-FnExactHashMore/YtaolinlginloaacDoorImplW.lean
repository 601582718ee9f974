/-
  The walks of impl's words: turned, shifted, mixed, chosen.
-/
import Derived.Test.YtaolinlginloaacDoorBase
import Derived.Test.YtaolinlginloaacDoorIMath
import Derived.Laws.BitsAllLaws
namespace Go.Proofs.YtaolinlginloaacDoor
open Go.RowKit
open Dig

/-- Numbers that words are turned by. -/
def Turn (b : Nat) : Prop := b = 17 ∨ b = 19 ∨ b = 7 ∨ b = 18 ∨ b = 6 ∨ b = 11 ∨ b = 25 ∨ b = 2 ∨ b = 13 ∨ b = 22

theorem rot_or (x b : Nat) (hx : x < 4294967296) (h0 : 0 < b) (h32 : b < 32) : bits .or .u32 ((x : Int) * 2 ^ (32 - b) % 4294967296) ((x : Int) / 2 ^ b) = (rt x (2 ^ b) : Nat) := by
  have e1 : (x : Int) * 2 ^ (32 - b) % 4294967296 = ((x * 2 ^ (32 - b) % 4294967296 : Nat) : Int) := by simp
  have e2 : (x : Int) / 2 ^ b = ((x / 2 ^ b : Nat) : Int) := by simp
  rw [e1, e2, u32_or_nat _ _ (Nat.mod_lt _ (by omega)) (Nat.lt_of_le_of_lt (Nat.div_le_self _ _) hx), rt_or x b hx h0 h32]

set_option maxHeartbeats 400000 in
theorem rot_any (x b : Nat) (w : World) (hx : x < 4294967296) (hb : Turn b) :
    Calls Tryd.prog 115 #[.int .u32 x, .int .i64 (-(b : Int))] w fun e w' => e = .returned (.int .u32 (rt x (2 ^ b) : Nat)) ∧ w' = w := by
  have E : Hid (bits .or .u32 ((x : Int) * 2 ^ (32 - b) % 4294967296) ((x : Int) / 2 ^ b) = (rt x (2 ^ b) : Nat)) := by
    refine rot_or x b hx ?_ ?_ <;> unfold Turn at hb <;> omega
  have m : bits .and .u64 (IntKind.u64.wrap (-(b : Int))) 31 = ((32 - b : Nat) : Int) := by
    unfold Turn at hb
    rcases hb with rfl | rfl | rfl | rfl | rfl | rfl | rfl | rfl | rfl | rfl <;> decide +kernel
  unfold Turn at hb
  rcases hb with rfl | rfl | rfl | rfl | rfl | rfl | rfl | rfl | rfl | rfl
  all_goals
    simp only [Nat.reduceSub, Int.cast_ofNat_Int] at m
    go_enter Tryd.func115, Tryd.ntmps115
    go_wp2
    go_ret
    exact ⟨congrArg (fun x => Ending.returned (Value.int .u32 x)) E.out, rfl⟩

theorem turned_any (x b : Nat) (w : World) (hx : x < 4294967296) (hb : Turn b) :
    Calls Tryd.prog 96 #[.int .u32 x, .int .i64 b] w fun e w' => e = .returned (.int .u32 (rt x (2 ^ b) : Nat)) ∧ w' = w := by
  have hb25 : b ≤ 25 := by unfold Turn at hb; omega
  have m : IntKind.i64.wrap (-(b : Int)) = -(b : Int) := by rw [IntKind.wrap_i64]; omega
  have C := hide (rot_any x b w hx hb)
  generalize rt x (2 ^ b) = y at C ⊢
  clear hb
  go_enter Tryd.func96, Tryd.ntmps96
  go_wp2_with fail
  refine C.out.mono ?_
  rintro e w1 ⟨rfl, rfl⟩
  go_wp2
  go_ret
  exact ⟨rfl, rfl⟩

/-- Numbers that words are shifted by. -/
def Shf (b : Nat) : Prop := b = 10 ∨ b = 3
theorem shifted_any (x b : Nat) (w : World) (hb : Shf b) :
    Calls Tryd.prog 114 #[.int .u32 x, .int .i64 b] w fun e w' => e = .returned (.int .u32 (x / 2 ^ b : Nat)) ∧ w' = w := by
  have E : Hid ((x : Int) / 2 ^ b = ((x / 2 ^ b : Nat) : Int)) := by show _ = _; simp
  unfold Shf at hb
  rcases hb with rfl | rfl
  all_goals
    go_enter Tryd.func114, Tryd.ntmps114
    go_wp2
    go_ret
    exact ⟨congrArg (fun x => Ending.returned (Value.int .u32 x)) E.out, rfl⟩

theorem low_pow (b : Nat) (hb : Turn b) : Low (2 ^ b) := by
  unfold Turn at hb
  rcases hb with rfl | rfl | rfl | rfl | rfl | rfl | rfl | rfl | rfl | rfl <;> exact ⟨by decide, by decide⟩
theorem rt_lt' (x b : Nat) (hx : x < 4294967296) (hb : Turn b) : rt x (2 ^ b) < 4294967296 := rt_lt x _ hx (low_pow b hb).1 (low_pow b hb).2

set_option maxHeartbeats 400000 in
theorem mixed_rt (x a b c : Nat) (w : World) (hx : x < 4294967296) (ha : Turn a) (hb : Turn b) (hc : Turn c) :
    Calls Tryd.prog 95 #[.int .u32 x, .int .i64 a, .int .i64 b, .int .i64 c, .func (.func 96) #[] #[]] w fun e w' => e = .returned (.int .u32 (rt x (2 ^ a) ^^^ rt x (2 ^ b) ^^^ rt x (2 ^ c) : Nat)) ∧ w' = w := by
  have la := rt_lt' x a hx ha
  have lb := rt_lt' x b hx hb
  have lc := rt_lt' x c hx hc
  have CA := hide (turned_any x a w hx ha)
  have CB := hide (turned_any x b w hx hb)
  have CC := hide (turned_any x c w hx hc)
  generalize rt x (2 ^ a) = ya at *
  generalize rt x (2 ^ b) = yb at *
  generalize rt x (2 ^ c) = yc at *
  have x1 := u32_xor_nat ya yb la lb
  have lab : ya ^^^ yb < 4294967296 := Nat.xor_lt_two_pow (n := 32) la lb
  generalize ya ^^^ yb = yab at *
  have x2 := u32_xor_nat yab yc lab lc
  clear ha hb hc
  go_enter Tryd.func95, Tryd.ntmps95
  go_wp2_with fail
  refine CA.out.mono ?_
  rintro e w1 ⟨rfl, rfl⟩
  go_wp2_with fail
  refine CB.out.mono ?_
  rintro e w2 ⟨rfl, rfl⟩
  go_wp2_with fail
  refine CC.out.mono ?_
  rintro e w3 ⟨rfl, rfl⟩
  go_wp2
  go_ret
  exact ⟨rfl, rfl⟩

set_option maxHeartbeats 400000 in
theorem mixed_sh (x a b c : Nat) (w : World) (hx : x < 4294967296) (ha : Turn a) (hb : Turn b) (hc : Shf c) :
    Calls Tryd.prog 95 #[.int .u32 x, .int .i64 a, .int .i64 b, .int .i64 c, .func (.func 114) #[] #[]] w fun e w' => e = .returned (.int .u32 (rt x (2 ^ a) ^^^ rt x (2 ^ b) ^^^ x / 2 ^ c : Nat)) ∧ w' = w := by
  have la := rt_lt' x a hx ha
  have lb := rt_lt' x b hx hb
  have lc : x / 2 ^ c < 4294967296 := Nat.lt_of_le_of_lt (Nat.div_le_self _ _) hx
  have CA := hide (turned_any x a w hx ha)
  have CB := hide (turned_any x b w hx hb)
  have CC := hide (shifted_any x c w hc)
  generalize rt x (2 ^ a) = ya at *
  generalize rt x (2 ^ b) = yb at *
  generalize x / 2 ^ c = yc at *
  have x1 := u32_xor_nat ya yb la lb
  have lab : ya ^^^ yb < 4294967296 := Nat.xor_lt_two_pow (n := 32) la lb
  generalize ya ^^^ yb = yab at *
  have x2 := u32_xor_nat yab yc lab lc
  clear ha hb hc
  go_enter Tryd.func95, Tryd.ntmps95
  go_wp2_with fail
  refine CA.out.mono ?_
  rintro e w1 ⟨rfl, rfl⟩
  go_wp2_with fail
  refine CB.out.mono ?_
  rintro e w2 ⟨rfl, rfl⟩
  go_wp2_with fail
  refine CC.out.mono ?_
  rintro e w3 ⟨rfl, rfl⟩
  go_wp2
  go_ret
  exact ⟨rfl, rfl⟩

theorem mixed_w2 (x : Nat) (w : World) (hx : x < 4294967296) : Calls Tryd.prog 95 #[.int .u32 x, .int .i64 17, .int .i64 19, .int .i64 10, .func (.func 114) #[] #[]] w fun e w' => e = .returned (.int .u32 (sig x 131072 524288 1024 true : Nat)) ∧ w' = w :=
  mixed_sh x 17 19 10 w hx (by unfold Turn; omega) (by unfold Turn; omega) (by unfold Shf; omega)
theorem mixed_w15 (x : Nat) (w : World) (hx : x < 4294967296) : Calls Tryd.prog 95 #[.int .u32 x, .int .i64 7, .int .i64 18, .int .i64 3, .func (.func 114) #[] #[]] w fun e w' => e = .returned (.int .u32 (sig x 128 262144 8 true : Nat)) ∧ w' = w :=
  mixed_sh x 7 18 3 w hx (by unfold Turn; omega) (by unfold Turn; omega) (by unfold Shf; omega)
theorem mixed_e (x : Nat) (w : World) (hx : x < 4294967296) : Calls Tryd.prog 95 #[.int .u32 x, .int .i64 6, .int .i64 11, .int .i64 25, .func (.func 96) #[] #[]] w fun e w' => e = .returned (.int .u32 (sig x 64 2048 33554432 false : Nat)) ∧ w' = w :=
  mixed_rt x 6 11 25 w hx (by unfold Turn; omega) (by unfold Turn; omega) (by unfold Turn; omega)
theorem mixed_a (x : Nat) (w : World) (hx : x < 4294967296) : Calls Tryd.prog 95 #[.int .u32 x, .int .i64 2, .int .i64 13, .int .i64 22, .func (.func 96) #[] #[]] w fun e w' => e = .returned (.int .u32 (sig x 4 8192 4194304 false : Nat)) ∧ w' = w :=
  mixed_rt x 2 13 22 w hx (by unfold Turn; omega) (by unfold Turn; omega) (by unfold Turn; omega)

theorem not_word (e : Nat) (he : e < 4294967296) : bits .xor .u32 IntKind.u32.max (e : Int) = 4294967295 - (e : Int) := by
  have h := u32_xor_nat 4294967295 e (by omega) he
  have hx : 4294967295 ^^^ e = 4294967295 - e := by
    apply Nat.eq_of_testBit_eq
    intro i
    rw [Nat.testBit_xor, not_bit e i he]
    have h1 : (4294967295 : Nat).testBit i = decide (i < 32) := Nat.testBit_two_pow_sub_one 32 i
    rw [h1]
    by_cases hi : i < 32
    · simp [hi]
    · have : e.testBit i = false := Nat.testBit_lt_two_pow (Nat.lt_of_lt_of_le he (show 2 ^ 32 ≤ 2 ^ i from Nat.pow_le_pow_right (by omega) (by omega)))
      simp [hi, this]
  have hm : IntKind.u32.max = ((4294967295 : Nat) : Int) := by decide
  rw [hm, h, hx]
  omega
theorem chosen_any (e f g : Nat) (w : World) (he : e < 4294967296) (hf : f < 4294967296) (hg : g < 4294967296) :
    Calls Tryd.prog 97 #[.int .u32 e, .int .u32 f, .int .u32 g] w fun en w' => en = .returned (.int .u32 (ch e f g : Nat)) ∧ w' = w := by
  have E := hide (ch_or e f g he)
  have hp : e &&& f < 4294967296 := Nat.lt_of_le_of_lt Nat.and_le_left he
  have hq : (4294967295 - e) &&& g < 4294967296 := Nat.lt_of_le_of_lt Nat.and_le_left (by omega)
  have a1 := u32_and_nat e f he hf
  have a2 := u32_and_nat (4294967295 - e) g (by omega) hg
  have a3 := u32_or_nat _ _ hp hq
  rw [E.out] at a3
  have n1 : ((4294967295 - e : Nat) : Int) = 4294967295 - (e : Int) := by omega
  rw [n1] at a2
  have n2 := not_word e he
  generalize e &&& f = p at *
  generalize (4294967295 - e) &&& g = q at *
  generalize ch e f g = r at *
  clear E
  go_enter Tryd.func97, Tryd.ntmps97
  go_wp2
  go_ret
  exact ⟨rfl, rfl⟩
theorem mostOf_any (a b c : Nat) (w : World) (ha : a < 4294967296) (hb : b < 4294967296) (hc : c < 4294967296) :
    Calls Tryd.prog 98 #[.int .u32 a, .int .u32 b, .int .u32 c] w fun en w' => en = .returned (.int .u32 (maj a b c : Nat)) ∧ w' = w := by
  have E := hide (maj_or a b c)
  have hp : a &&& b < 4294967296 := Nat.lt_of_le_of_lt Nat.and_le_left ha
  have hq : a &&& c < 4294967296 := Nat.lt_of_le_of_lt Nat.and_le_left ha
  have hr : b &&& c < 4294967296 := Nat.lt_of_le_of_lt Nat.and_le_left hb
  have a1 := u32_and_nat a b ha hb
  have a2 := u32_and_nat a c ha hc
  have a3 := u32_and_nat b c hb hc
  have a4 := u32_or_nat _ _ hp hq
  have hs : (a &&& b) ||| (a &&& c) < 4294967296 := Nat.or_lt_two_pow (n := 32) hp hq
  have a5 := u32_or_nat _ _ hs hr
  rw [E.out] at a5
  generalize (a &&& b) ||| (a &&& c) = s at *
  generalize a &&& b = p at *
  generalize a &&& c = q at *
  generalize b &&& c = r at *
  generalize maj a b c = m at *
  clear E
  go_enter Tryd.func98, Tryd.ntmps98
  go_wp2
  go_ret
  exact ⟨rfl, rfl⟩
end Go.Proofs.YtaolinlginloaacDoor
