/-
  The walks of the specification's words: turned, summed, read from bytes.
-/
import Derived.Test.YtaolinlginloaacDoorBase
import Derived.Test.YtaolinlginloaacDoorDMath
import Derived.Test.YtaolinlginloaacDoorWCells
import Derived.Laws.BitsAllLaws
namespace Go.Proofs.YtaolinlginloaacDoor
open Go.RowKit
open Dig

set_option maxHeartbeats 400000 in
theorem right_any (x low H : Nat) (w : World) (hx : x < 4294967296) (hl : Low low) (hH : H = 2147483648 / low * 2) :
    Calls Tryd.prog 93 #[.int .u32 x, .int .u32 low, .int .u32 H] w fun e w' => e = .returned (.int .u32 (rt x low : Nat)) ∧ w' = w.drewN 1 := by
  have hr := rt_lt x low hx hl.1 hl.2
  have h0 := hl.1
  unfold rt at hr ⊢
  rw [← hH] at hr ⊢
  obtain ⟨q, hq⟩ : ∃ q, q = x / low := ⟨_, rfl⟩
  obtain ⟨r, hr'⟩ : ∃ r, r = x % low := ⟨_, rfl⟩
  obtain ⟨m, hm⟩ : ∃ m, m = r * H := ⟨_, rfl⟩
  rw [← hq, ← hr', ← hm] at hr
  rw [← hq, ← hr', ← hm]
  have f1 : (x : Int) / (low : Int) = q := by rw [hq]; exact (Int.natCast_ediv x low).symm
  have f2 : (x : Int) % (low : Int) = r := by rw [hr']; exact (Int.natCast_emod x low).symm
  have f1' : (x : Int).tdiv (low : Int) = q := by rw [Int.tdiv_eq_ediv_of_nonneg (by omega)]; exact f1
  have f2' : (x : Int).tmod (low : Int) = r := by rw [Int.tmod_eq_emod_of_nonneg (by omega)]; exact f2
  have f3 : (r : Int) * (H : Int) = m := by rw [hm]; exact (Int.natCast_mul r H).symm
  have f4 : IntKind.u32.wrap (m : Int) = m := by rw [IntKind.wrap_u32']; omega
  have f5 : IntKind.u32.wrap (q : Int) = q := by rw [IntKind.wrap_u32']; omega
  have f6 : IntKind.u32.wrap ((q : Int) + m) = (q : Int) + m := by rw [IntKind.wrap_u32']; omega
  have hz3 : ¬ low = 0 := by omega
  clear hq hr' hm hl hH
  go_enter Tryd.func93, Tryd.ntmps93
  go_wp2
  go_region_held3 (fun _ => True) (trivial) (fail)
  go_wp2
  go_ret
  exact ⟨rfl, rfl⟩
theorem low_H (a : Nat) (h2 : 1 < a) : 2147483648 / (a : Int) * 2 % 4294967296 = ((2147483648 / a * 2 : Nat) : Int) := by
  have h : 2147483648 / a < 2147483648 := Nat.div_lt_self (by omega) h2
  have e : (2147483648 : Int) / (a : Int) = ((2147483648 / a : Nat) : Int) := rfl
  rw [e]
  generalize 2147483648 / a = q at h
  omega
theorem div_c (x c : Nat) : (x : Int) / (c : Int) = ((x / c : Nat) : Int) := rfl

set_option maxHeartbeats 400000 in
theorem sig_any (x a b c : Nat) (last : Bool) (w : World) (hx : x < 4294967296) (ha : Low a) (hb : Low b) (hc : Low c) (ha2 : 1 < a) (hb2 : 1 < b) (hc2 : 1 < c) :
    Calls Tryd.prog 69 #[.int .u32 x, .int .u32 a, .int .u32 b, .int .u32 c, .bool last] w fun e w' => e = .returned (.int .u32 (sig x a b c last : Nat)) ∧ w' = w.drewN (cond last 2 3) := by
  have LA := hide ha
  have LB := hide hb
  have LC := hide hc
  have ra := rt_lt x a hx ha.1 ha.2
  have rb := rt_lt x b hx hb.1 hb.2
  have rc := rt_lt x c hx hc.1 hc.2
  have rd : x / c < 4294967296 := Nat.lt_of_le_of_lt (Nat.div_le_self x c) hx
  have xy := u32_xor ((rt x a : Nat) : Int) ((rt x b : Nat) : Int) (by omega) (by omega) (by omega) (by omega)
  rw [Int.toNat_natCast, Int.toNat_natCast] at xy
  have hab : rt x a ^^^ rt x b < 4294967296 := Nat.xor_lt_two_pow (n := 32) ra rb
  have E : Hid (sig x a b c last = rt x a ^^^ rt x b ^^^ (if last then x / c else rt x c)) := rfl
  clear ha hb hc
  go_enter Tryd.func69, Tryd.ntmps69
  go_wp2_with fail
  rw [low_H a ha2]
  refine (right_any x a _ _ hx LA.out rfl).mono ?_
  rintro e w1 ⟨rfl, rfl⟩
  go_wp2_with fail
  rw [low_H b hb2]
  refine (right_any x b _ _ hx LB.out rfl).mono ?_
  rintro e w2 ⟨rfl, rfl⟩
  generalize rt x a = ya at *
  generalize rt x b = yb at *
  generalize ya ^^^ yb = yab at *
  cases last
  · go_wp2_with fail
    rw [low_H c hc2]
    refine (right_any x c _ _ hx LC.out rfl).mono ?_
    rintro e w3 ⟨rfl, rfl⟩
    have xz := u32_xor ((yab : Nat) : Int) ((rt x c : Nat) : Int) (by omega) (by omega) (by omega) (by omega)
    rw [Int.toNat_natCast, Int.toNat_natCast] at xz
    generalize rt x c = yc at *
    go_wp2
    go_ret
    exact ⟨by rw [E.out]; rfl, rfl⟩
  · have dc := div_c x c
    generalize x / c = yc at *
    have xz := u32_xor ((yab : Nat) : Int) ((yc : Nat) : Int) (by omega) (by omega) (by omega) (by omega)
    rw [Int.toNat_natCast, Int.toNat_natCast] at xz
    go_wp2
    go_ret
    exact ⟨by rw [E.out]; rfl, rfl⟩
end Go.Proofs.YtaolinlginloaacDoor
