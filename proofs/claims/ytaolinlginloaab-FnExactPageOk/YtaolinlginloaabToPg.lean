/-
  The laws' own toPage.
-/
import Derived.Test.YtaolinlginloaabPgV
namespace Go.Proofs.Ytaolinlginloaab
open Go.RowKit
open Words

set_option maxHeartbeats 400000 in
set_option maxRecDepth 100000 in
theorem toPage_any (p : Pg) (w : World) :
    Calls Try.prog 14 #[pgVal p] w fun e w' => e = .returned (pgVal p) ∧ Below w.heap.size w w' := by
  obtain ⟨k, s, x, q, c, t⟩ := p
  unfold pgVal
  simp only
  go_enter Try.func14, Try.ntmps14
  go_wp2
  exact bodyPost_ret (v := .agg #[.int .i64 k, .int .i64 s, .int .i64 x, .int .i64 q, .int .i64 c, .string t]) (by simp [results, Try.results14, go_sem]) rfl ⟨rfl, (((Below.refl _ _).alloc (Nat.le_refl _) _).alloc (by simp) _).alloc (by simp; omega) _⟩
end Go.Proofs.Ytaolinlginloaab
