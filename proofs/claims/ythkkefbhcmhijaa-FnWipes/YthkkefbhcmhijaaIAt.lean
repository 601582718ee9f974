/-
  (impl.Flash).blockAt, (*impl.Block).leafAt, (impl.Flash).blockInUse.
-/
import Derived.Test.YthkkefbhcmhijaaFOf
namespace Go.Proofs.Ythkkefbhcmhijaa
open Go.RowKit

set_option maxHeartbeats 400000 in
set_option maxRecDepth 100000 in
theorem iat_in (g n cap k : Nat) (w : World) (_hn : n ≤ 1048576) (hk : k < n) :
    Calls Try.prog 26 #[.agg #[.slice (some ⟨g, 0, none⟩) n cap], .int .i64 k] w fun e w' => e = .returned (.pointer (some ⟨g, k * 3, none⟩)) ∧ Below w.heap.size w w' := by
  have HB := hide ((Below.refl w.heap.size w).alloc (Nat.le_refl _) (.cells #[.slice (some ⟨g, 0, none⟩) n cap] 26))
  have h1 : (0 : Int) ≤ k := by omega
  have h2 : (k : Int) < n := by omega
  go_enter Try.func26, Try.ntmps26
  go_wp2
  go_ret
  exact ⟨rfl, HB.out⟩
set_option maxHeartbeats 400000 in
set_option maxRecDepth 100000 in
theorem iat_out (ad : Option Addr) (n cap : Nat) (b : Int) (w : World) (_hn : n ≤ 1048576) (hb : ¬ (0 ≤ b ∧ b ≤ (n : Int) - 1)) :
    Calls Try.prog 26 #[.agg #[.slice ad n cap], .int .i64 b] w fun e w' => e = .returned (.pointer none) ∧ Below w.heap.size w w' := by
  have HB := hide ((Below.refl w.heap.size w).alloc (Nat.le_refl _) (.cells #[.slice ad n cap] 26))
  by_cases h0 : b < 0
  · go_enter Try.func26, Try.ntmps26
    go_wp2
    go_ret
    exact ⟨rfl, HB.out⟩
  · have h1 : (n : Int) ≤ b := by omega
    clear hb
    go_enter Try.func26, Try.ntmps26
    go_wp2
    go_ret
    exact ⟨rfl, HB.out⟩
set_option maxHeartbeats 400000 in
set_option maxRecDepth 100000 in
theorem ilat_in (g o gl n cap k : Nat) (w : World) (_hn : n ≤ 1048576) (hk : k < n) (hc : w.cell? ⟨g, o + 2, none⟩ = some (.slice (some ⟨gl, 0, none⟩) n cap)) :
    Calls Try.prog 22 #[.pointer (some ⟨g, o, none⟩), .int .i64 k] w fun e w' => e = .returned (.pointer (some ⟨gl, k * 2, none⟩)) ∧ w' = w := by
  have h1 : (0 : Int) ≤ k := by omega
  have h2 : (k : Int) < n := by omega
  go_enter Try.func22, Try.ntmps22
  go_wp2
  go_ret
  exact ⟨rfl, rfl⟩
set_option maxHeartbeats 400000 in
set_option maxRecDepth 100000 in
theorem ilat_off (g o gl lo n cap k : Nat) (w : World) (_hn : n ≤ 1048576) (hk : k < n) (hc : w.cell? ⟨g, o + 2, none⟩ = some (.slice (some ⟨gl, lo, none⟩) n cap)) :
    Calls Try.prog 22 #[.pointer (some ⟨g, o, none⟩), .int .i64 k] w fun e w' => e = .returned (.pointer (some ⟨gl, lo + k * 2, none⟩)) ∧ w' = w := by
  have h1 : (0 : Int) ≤ k := by omega
  have h2 : (k : Int) < n := by omega
  go_enter Try.func22, Try.ntmps22
  go_wp2
  go_ret
  exact ⟨rfl, rfl⟩
set_option maxHeartbeats 400000 in
set_option maxRecDepth 100000 in
theorem ilat_out (g o n cap : Nat) (ad : Option Addr) (b : Int) (w : World) (_hn : n ≤ 1048576) (hb : ¬ (0 ≤ b ∧ b ≤ (n : Int) - 1)) (hc : w.cell? ⟨g, o + 2, none⟩ = some (.slice ad n cap)) :
    Calls Try.prog 22 #[.pointer (some ⟨g, o, none⟩), .int .i64 b] w fun e w' => e = .returned (.pointer none) ∧ w' = w := by
  by_cases h0 : b < 0
  · go_enter Try.func22, Try.ntmps22
    go_wp2
    go_ret
    exact ⟨rfl, rfl⟩
  · have h1 : (n : Int) ≤ b := by omega
    clear hb
    go_enter Try.func22, Try.ntmps22
    go_wp2
    go_ret
    exact ⟨rfl, rfl⟩
end Go.Proofs.Ythkkefbhcmhijaa
