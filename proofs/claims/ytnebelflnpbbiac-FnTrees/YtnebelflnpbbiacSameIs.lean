/-
  laws.sameInts: two rows of the same numbers.
-/
import Derived.Test.YtnebelflnpbbiacKnN
import Derived.Deep.RegionHeld3
namespace Go.Proofs.Ytnebelflnpbbiac
open Go.RowKit
open Words

set_option maxHeartbeats 400000 in
set_option maxRecDepth 100000 in
theorem sameIs_same (a b : Value) (M : List Int) (n : Nat) (B1 C1 B2 C2 : Nat) (w : World) (hn : M.length = n) (hM : n ≤ 1000000000000000000) (ha : Sli 3 B1 C1 a n (icells M) w) (hb : Sli 3 B2 C2 b n (icells M) w) :
    Calls Try.prog 44 #[a, b] w fun e w' => e = .returned (.bool true) ∧ Below w.heap.size w w' := by
  obtain ⟨ad, capa, rfl, a3⟩ := ha.form
  obtain ⟨bd, capb, rfl, b3⟩ := hb.form
  have HSA := hide ha
  have HSB := hide hb
  have A3 := hide a3
  have B3 := hide b3
  have HN := hide hn
  clear ha hb a3 b3 hn
  go_enter Try.func44, Try.ntmps44
  go_wp2
  go_loopw [5] (fun iv wr => ∃ k : Nat, k ≤ n ∧ iv = .int .i64 k ∧ Hid (∃ q, wr = w.drewN q)) (fun iv _ => n - (intOf iv).toNat)
  case atStart => exact ⟨0, Nat.zero_le _, rfl, ⟨0, rfl⟩⟩
  case round =>
    obtain ⟨k, hk, rfl, HQ⟩ := hrel
    obtain ⟨q, hq⟩ := HQ.out
    subst hq
    clear HQ
    by_cases hlt : (k : Int) < n
    · obtain ⟨ga, e, -, -⟩ := A3.out (by omega)
      subst e
      obtain ⟨gb, e, -, -⟩ := B3.out (by omega)
      subst e
      obtain ⟨x, hx⟩ : ∃ x, M[k]? = some x := ⟨_, List.getElem?_eq_getElem (by have := HN.out; omega)⟩
      have c1 := HSA.out.flt.cell (icells_get hx)
      have c2 := HSB.out.flt.cell (icells_get hx)
      have hxx : (x != x) = false := by simp
      have k0 : (0 : Int) ≤ k := by omega
      clear hx
      go_wp2
      go_quiet (fail)
      go_wp2
      go_roundw
      case rel => exact ⟨k + 1, by omega, by go_num, ⟨_, rfl⟩⟩
      case measure => simp [intOf]; omega
    · go_wp2
      go_ret
      exact ⟨rfl, below_drewN (Below.refl _ _) _⟩
end Go.Proofs.Ytnebelflnpbbiac
