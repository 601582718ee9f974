/-
  The laws' own sameRecs.
-/
import Derived.Test.YtcjgjkejhkhknabCeRc
import Derived.Test.YtcjgjkejhkhknabFlt
import Derived.Deep.QuietTactic
import Derived.BigQuiet
namespace Go.Proofs.Ytcjgjkejhkhknab
open Go.RowKit

set_option maxHeartbeats 1000000 in
set_option maxRecDepth 100000 in
theorem sameRcsQ (a b : Value) (M : List (Int × Int × Int × Int)) (B1 C1 B2 C2 : Nat) (w : World) (hM : M.length ≤ 1000000000000000000) (ha : Sli 25 B1 C1 a M.length (rccells M) w) (hb : Sli 25 B2 C2 b M.length (rccells M) w) :
    Calls Try.prog 15 #[a, b] w fun e w' => e = .returned (.bool true) ∧ ∃ m, w' = w.drewN m := by
  obtain ⟨ad, capa, rfl, a3⟩ := ha.form
  obtain ⟨bd, capb, rfl, b3⟩ := hb.form
  obtain ⟨n, hn⟩ : ∃ n, M.length = n := ⟨_, rfl⟩
  have HN := hide hn
  have HSA := hide ha
  have HSB := hide hb
  rw [hn] at hM a3 b3 HSA HSB ⊢
  have A3 := hide a3
  have B3 := hide b3
  clear a3 b3 ha hb hn
  have nn : ((n : Int) != n) = false := by simp
  go_enter Try.func15, Try.ntmps15
  go_wp2
  go_loopw [5] (fun iv wr => ∃ k q : Nat, k ≤ n ∧ iv = .int .i64 k ∧ wr = w.drewN q) (fun iv _ => n - (intOf iv).toNat)
  case atStart => exact ⟨0, 0, Nat.zero_le _, rfl, rfl⟩
  case round =>
    obtain ⟨k, q, hk, rfl, rfl⟩ := hrel
    have HW : Hid (Below w.heap.size w (w.drewN q)) := below_drewN (Below.refl _ _) q
    by_cases hlt : (k : Int) < n
    · obtain ⟨ga, e, _, _⟩ := A3.out (by omega)
      subst e
      obtain ⟨gb, e, _, _⟩ := B3.out (by omega)
      subst e
      have hkl : k < M.length := by have := HN.out; omega
      obtain ⟨x0, x1, x2, x3, hx⟩ : ∃ x0 x1 x2 x3, M[k]? = some (x0, x1, x2, x3) := ⟨M[k].1, M[k].2.1, M[k].2.2.1, M[k].2.2.2, List.getElem?_eq_getElem hkl⟩
      have GA := HSA.out.flt
      have GB := HSB.out.flt
      have c0 : w.cell? ⟨ga, k * 4, none⟩ = some (.int .i64 x0) := GA.cell (rccells_at M k _ hx 0 _ rfl)
      have d0 : w.cell? ⟨gb, k * 4, none⟩ = some (.int .i64 x0) := GB.cell (rccells_at M k _ hx 0 _ rfl)
      have c1 : w.cell? ⟨ga, k * 4 + 1, none⟩ = some (.int .i64 x1) := GA.cell (rccells_at M k _ hx 1 _ rfl)
      have d1 : w.cell? ⟨gb, k * 4 + 1, none⟩ = some (.int .i64 x1) := GB.cell (rccells_at M k _ hx 1 _ rfl)
      have c2 : w.cell? ⟨ga, k * 4 + 2, none⟩ = some (.int .i64 x2) := GA.cell (rccells_at M k _ hx 2 _ rfl)
      have d2 : w.cell? ⟨gb, k * 4 + 2, none⟩ = some (.int .i64 x2) := GB.cell (rccells_at M k _ hx 2 _ rfl)
      have c3 : w.cell? ⟨ga, k * 4 + 3, none⟩ = some (.int .i64 x3) := GA.cell (rccells_at M k _ hx 3 _ rfl)
      have d3 : w.cell? ⟨gb, k * 4 + 3, none⟩ = some (.int .i64 x3) := GB.cell (rccells_at M k _ hx 3 _ rfl)
      have k0 : (0 : Int) ≤ k := by omega
      clear hx hkl GA GB
      go_wp2
      go_quiet (fail)
      go_wp2
      go_roundw
      case rel => exact ⟨k + 1, _, by omega, by go_num, rfl⟩
      case measure => simp [intOf]; omega
    · go_wp2
      go_ret
      exact ⟨rfl, q, rfl⟩
theorem sameRcs (a b : Value) (M : List (Int × Int × Int × Int)) (B1 C1 B2 C2 : Nat) (w : World) (hM : M.length ≤ 1000000000000000000) (ha : Sli 25 B1 C1 a M.length (rccells M) w) (hb : Sli 25 B2 C2 b M.length (rccells M) w) :
    Calls Try.prog 15 #[a, b] w fun e w' => e = .returned (.bool true) ∧ Below w.heap.size w w' := by
  refine (sameRcsQ a b M B1 C1 B2 C2 w hM ha hb).mono ?_
  rintro e w' ⟨rfl, m, rfl⟩
  exact ⟨rfl, below_drewN (Below.refl _ _) _⟩
end Go.Proofs.Ytcjgjkejhkhknab
