/-
  The walk of impl.ReadVar.
-/
import Derived.Test.YtogfdhfmamabiaaBase
import Derived.Test.YtogfdhfmamabiaaMath2
namespace Go.Proofs.Ytogfdhfmamabiaa
open Go.RowKit
open Words

/-- What ReadVar answers, as a value. -/
def rvRes : Option (Nat × Nat) → Value
  | some (n, j) => .tuple #[.int .i64 n, .int .i64 j, .bool true]
  | none => .tuple #[.int .i64 0, .int .i64 0, .bool false]

set_option maxHeartbeats 400000 in
set_option maxRecDepth 100000 in
theorem implRead (s : ByteArray) (q : Nat) (w : World) (hs : s.size ≤ 1048576) (hq : q ≤ s.size) :
    Calls Try.prog 90 #[.string s, .int .i64 q] w fun e w' => e = .returned (rvRes (readV s.data.toList q)) ∧ w' = w := by
  have g1 : ¬ (q : Int) < 0 := by omega
  have g2 : ¬ (s.size : Int) < q := by omega
  go_enter Try.func90, Try.ntmps90
  go_wp2
  go_loop [7, 8, 9, 10, 11] (fun nv uv iv _ _ => ∃ k n u : Nat, nv = .int .i64 n ∧ uv = .int .i64 u ∧ iv = .int .i64 (q + k : Nat) ∧ Hid (St s.data.toList q k n u)) (fun _ _ iv _ _ => s.size - (intOf iv).toNat)
  case atStart => exact ⟨0, 0, 1, rfl, rfl, rfl, St.zero (by simpa using hq)⟩
  case round =>
    obtain ⟨k, n, u, rfl, rfl, rfl, hst⟩ := hrel
    obtain ⟨b1, b2, b3, b4, b5⟩ := hst.out.bounds
    by_cases hlt : q + k < s.size ∧ k < 5
    · obtain ⟨h1, h2⟩ := hlt
      have b6 := b4 h2
      have c1 : ((q + k : Nat) : Int) < s.size := by omega
      have c2 : (u : Int) ≤ 1000000000 := by omega
      clear b3 b4 b5
      obtain ⟨c, hcc⟩ : ∃ c : Nat, s[q + k].toNat = c := ⟨_, rfl⟩
      have hc8 : c < 256 := by rw [← hcc]; exact UInt8.toNat_lt _
      have p2 := prod_le_int c u b6
      have p3 := prod_nn c u
      have H : Hid (At s.data.toList (q + k) c) := ⟨by simpa using h1, by rw [← hcc]; rfl⟩
      by_cases hc : 128 ≤ (c : Int)
      · go_wp2
        go_round
        case rel => exact ⟨k + 1, n + c % 128 * u, u * 128, by rw [prod_cast], by go_num, by go_num, hst.out.step' h2 H.out (by omega)⟩
        case measure => simp [intOf]; omega
      · by_cases h0 : c = 0 ∧ k ≠ 0
        · have F : Hid (readV s.data.toList q = none) := hst.out.no' h2 H.out (by omega) (.inr h0)
          have f1 : ((c : Int) == 0) = true := by rw [beq_iff_eq]; omega
          have f2 : (q : Int) < (q : Int) + k := by omega
          clear h0
          go_wp2
          go_ret3
          exact ⟨by rw [F.out]; rfl, rfl⟩
        · have hw : ¬ (c = 0 ∧ k ≠ 0) := h0
          by_cases hN : (n : Int) + (c : Int) % 128 * u ≤ 1000000000
          · have hN' : n + c % 128 * u ≤ 1000000000 := by rw [← prod_cast] at hN; omega
            have F : Hid (readV s.data.toList q = some (n + c % 128 * u, q + k + 1)) := hst.out.yes' h2 H.out (by omega) hN' hw
            clear hN'
            by_cases hc0 : c = 0
            · have f1 : ((c : Int) == 0) = true := by rw [beq_iff_eq]; omega
              have f2 : ¬ (q : Int) < (q : Int) + k := by omega
              clear h0 hw hc0
              go_wp2
              go_ret3
              exact ⟨by rw [F.out, rvRes, prod_cast]; rfl, rfl⟩
            · have f1 : ((c : Int) == 0) = false := by rw [beq_eq_false_iff_ne]; omega
              clear h0 hw hc0
              go_wp2
              go_ret3
              exact ⟨by rw [F.out, rvRes, prod_cast]; rfl, rfl⟩
          · have hN' : 1000000000 < n + c % 128 * u := by rw [← prod_cast] at hN; omega
            have F : Hid (readV s.data.toList q = none) := hst.out.no' h2 H.out (by omega) (.inl hN')
            clear hN'
            by_cases hc0 : c = 0
            · exfalso
              subst hc0
              simp at hN
              omega
            · have f1 : ((c : Int) == 0) = false := by rw [beq_eq_false_iff_ne]; omega
              clear h0 hw hc0
              go_wp2
              go_ret3
              exact ⟨by rw [F.out]; rfl, rfl⟩
    · have F : Hid (readV s.data.toList q = none) := hst.out.stop (by simpa using hlt)
      by_cases h1 : q + k < s.size
      · have c1 : ((q + k : Nat) : Int) < s.size := by omega
        have b6 := b5 (by have := hst.out.1; omega)
        have c2 : ¬ (u : Int) ≤ 1000000000 := by omega
        clear hlt b5
        go_wp2
        go_ret3
        exact ⟨by rw [F.out]; rfl, rfl⟩
      · have c1 : ¬ ((q + k : Nat) : Int) < s.size := by omega
        clear hlt
        go_wp2
        go_ret3
        exact ⟨by rw [F.out]; rfl, rfl⟩
theorem implRead_out (s : ByteArray) (q : Int) (w : World) (hq : q < 0 ∨ s.size < q) :
    Calls Try.prog 90 #[.string s, .int .i64 q] w fun e w' => e = .returned (rvRes none) ∧ w' = w := by
  rcases hq with h | h
  · go_enter Try.func90, Try.ntmps90
    go_wp2
    go_ret3
    exact ⟨rfl, rfl⟩
  · have g1 : ¬ q < 0 := by omega
    go_enter Try.func90, Try.ntmps90
    go_wp2
    go_ret3
    exact ⟨rfl, rfl⟩
end Go.Proofs.Ytogfdhfmamabiaa
