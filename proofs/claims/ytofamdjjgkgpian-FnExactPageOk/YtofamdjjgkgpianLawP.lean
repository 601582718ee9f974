/-
  What the laws on pages do with their argument.
-/
import Derived.Test.YtofamdjjgkgpianSPageOk
namespace Go.Proofs.Ytofamdjjgkgpian
open Go.RowKit
open Words

set_option maxHeartbeats 400000 in
set_option maxRecDepth 100000 in
theorem toPage_any (p : Pg) (w : World) :
    Calls Try.prog 29 #[pgVal p] w fun e w' => e = .returned (pgVal p) ∧ Below w.heap.size w w' := by
  obtain ⟨k, s, x, q, c, t⟩ := p
  unfold pgVal
  simp only
  go_enter Try.func29, Try.ntmps29
  go_wp2
  exact bodyPost_ret (v := .agg #[.int .i64 k, .int .i64 s, .int .i64 x, .int .i64 q, .int .i64 c, .string t]) (by simp [results, Try.results29, go_sem]) rfl ⟨rfl, (((Below.refl _ _).alloc (Nat.le_refl _) _).alloc (by simp) _).alloc (by simp; omega) _⟩

set_option maxHeartbeats 400000 in
set_option maxRecDepth 100000 in
theorem szPage_yes (p : Pg) (w : World) (h : p.text.size ≤ 1048576) :
    Calls Try.prog 27 #[pgVal p, .int .i64 1048576] w fun e w' => e = .returned (.int .i64 (1048576 - p.text.size)) ∧ Below w.heap.size w w' := by
  obtain ⟨k, s, x, q, c, t⟩ := p
  have g : ¬ (1048576 : Int) - t.size < 0 := by simp only at h; omega
  unfold pgVal
  simp only
  go_enter Try.func27, Try.ntmps27
  go_wp2
  go_ret
  exact ⟨rfl, (Below.refl _ _).alloc (Nat.le_refl _) _⟩
set_option maxHeartbeats 400000 in
set_option maxRecDepth 100000 in
theorem szPage_no (p : Pg) (w : World) (h : ¬ p.text.size ≤ 1048576) (hm : p.text.size ≤ maxLen) :
    Calls Try.prog 27 #[pgVal p, .int .i64 1048576] w fun e w' => e = .returned (.int .i64 (-1)) ∧ Below w.heap.size w w' := by
  obtain ⟨k, s, x, q, c, t⟩ := p
  unfold maxLen at hm
  have g : (1048576 : Int) - t.size < 0 := by simp only at h; omega
  unfold pgVal
  simp only at *
  go_enter Try.func27, Try.ntmps27
  go_wp2
  go_ret
  exact ⟨rfl, (Below.refl _ _).alloc (Nat.le_refl _) _⟩
end Go.Proofs.Ytofamdjjgkgpian
