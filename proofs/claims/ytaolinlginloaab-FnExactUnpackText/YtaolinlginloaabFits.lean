/-
  The walk of the program's test of a token.
-/
import Derived.Test.YtaolinlginloaabGMath
namespace Go.Proofs.Ytaolinlginloaab
open Go.RowKit
open Pack

def GFit (n : Nat) (a b : Int) (t : ByteArray) : Prop := GOk n (a, b, t) ∧ n + t.size + b.toNat ≤ 64
abbrev decGFit (n : Nat) (a b : Int) (t : ByteArray) : Decidable (GFit n a b t) := by unfold GFit; exact @instDecidableAnd _ _ (decGOk _ _) _

set_option maxHeartbeats 1000000 in
set_option maxRecDepth 100000 in
theorem fits_any (a b : Int) (t : ByteArray) (n : Nat) (w : World) (hn : n ≤ 64) :
    Calls Try.prog 34 #[.agg #[.int .i64 a, .int .i64 b, .string t], .int .i64 n] w fun e w' => e = .returned (.bool (@decide (GFit n a b t) (decGFit n a b t))) ∧ Below w.heap.size w w' := by
  have fin : ∀ (v : Bool) (w' : World), @decide (GFit n a b t) (decGFit n a b t) = v → Hid (Below w.heap.size w w') → (Ending.returned (.bool v) = .returned (.bool (@decide (GFit n a b t) (decGFit n a b t))) ∧ Below w.heap.size w w') := fun v w' h hb => ⟨by rw [h], hb.out⟩
  have HF := hide fin
  have HB := hide ((Below.refl w.heap.size w).alloc (Nat.le_refl _) (.cells #[.int .i64 a, .int .i64 b, .string t] 46))
  clear fin
  have G : Hid (GFit n a b t ↔ (a = 0 ∧ 1 ≤ t.size ∧ t.size ≤ 31 ∧ b = 0 ∧ n + t.size ≤ 64) ∨ (1 ≤ a ∧ a ≤ n ∧ 1 ≤ b ∧ b ≤ 31 ∧ t.size = 0 ∧ n + b ≤ 64)) := by
    show _ ↔ _
    unfold GFit GOk
    simp only
    omega
  go_enter Try.func34, Try.ntmps34
  by_cases h1 : a < 0
  · have HX := hide (dcN (fun h => by have := G.out.1 h; omega) : @decide (GFit n a b t) (decGFit n a b t) = false)
    go_wp2
    go_ret
    exact HF.out _ _ HX.out HB
  · by_cases h2 : (n : Int) < a
    · have HX := hide (dcN (fun h => by have := G.out.1 h; omega) : @decide (GFit n a b t) (decGFit n a b t) = false)
      go_wp2
      go_ret
      exact HF.out _ _ HX.out HB
    · by_cases h3 : 0 < a
      · have HX : Hid (@decide (GFit n a b t) (decGFit n a b t) = decide (1 ≤ b ∧ b ≤ 31 ∧ t.size = 0 ∧ n + b ≤ 64)) := by
          show _ = _
          refine dcE ?_
          constructor
          · intro h; have := G.out.1 h; omega
          · intro h; exact G.out.2 (by omega)
        by_cases k1 : ((t.size : Int) == 0) = true
        · have k1' : t.size = 0 := by rw [beq_iff_eq] at k1; omega
          by_cases k2 : 1 ≤ b
          · by_cases k3 : b ≤ 31
            · by_cases k4 : (n : Int) + b ≤ 64
              · have HY : Hid (@decide (GFit n a b t) (decGFit n a b t) = true) := by show _ = _; rw [HX.out]; exact dcY (by omega)
                clear HX k1'
                go_wp2
                go_quiet (fail)
                go_wp2
                go_ret
                exact HF.out _ _ HY.out (below_drewN HB.out _)
              · have HY : Hid (@decide (GFit n a b t) (decGFit n a b t) = false) := by show _ = _; rw [HX.out]; exact dcN (by omega)
                clear HX k1'
                go_wp2
                go_quiet (fail)
                go_wp2
                go_ret
                exact HF.out _ _ (HY.out.trans (dcN (by omega)).symm) (below_drewN HB.out _)
            · have HY : Hid (@decide (GFit n a b t) (decGFit n a b t) = false) := by show _ = _; rw [HX.out]; exact dcN (by omega)
              clear HX k1'
              go_wp2
              go_quiet (fail)
              go_wp2
              go_ret
              exact HF.out _ _ HY.out (below_drewN HB.out _)
          · have HY : Hid (@decide (GFit n a b t) (decGFit n a b t) = false) := by show _ = _; rw [HX.out]; exact dcN (by omega)
            clear HX k1'
            go_wp2
            go_quiet (fail)
            go_wp2
            go_ret
            exact HF.out _ _ HY.out (below_drewN HB.out _)
        · have k1' : ¬ t.size = 0 := fun h => k1 (by rw [beq_iff_eq]; omega)
          have k1f : ((t.size : Int) == 0) = false := by simpa using k1
          have HY : Hid (@decide (GFit n a b t) (decGFit n a b t) = false) := by show _ = _; rw [HX.out]; exact dcN (by omega)
          clear HX k1' k1
          go_wp2
          go_quiet (fail)
          go_wp2
          go_ret
          exact HF.out _ _ HY.out (below_drewN HB.out _)
      · have h4 : a = 0 := by omega
        have HX : Hid (@decide (GFit n a b t) (decGFit n a b t) = decide (1 ≤ t.size ∧ t.size ≤ 31 ∧ b = 0 ∧ n + t.size ≤ 64)) := by
          show _ = _
          refine dcE ?_
          constructor
          · intro h; have := G.out.1 h; omega
          · intro h; exact G.out.2 (by omega)
        clear h4
        by_cases k1 : (b == 0) = true
        · have k1' : b = 0 := by rw [beq_iff_eq] at k1; omega
          by_cases k2 : 1 ≤ (t.size : Int)
          · by_cases k3 : (t.size : Int) ≤ 31
            · by_cases k4 : (n : Int) + t.size ≤ 64
              · have HY : Hid (@decide (GFit n a b t) (decGFit n a b t) = true) := by show _ = _; rw [HX.out]; exact dcY (by omega)
                clear HX k1'
                go_wp2
                go_quiet (fail)
                go_wp2
                go_ret
                exact HF.out _ _ HY.out (below_drewN HB.out _)
              · have HY : Hid (@decide (GFit n a b t) (decGFit n a b t) = false) := by show _ = _; rw [HX.out]; exact dcN (by omega)
                clear HX k1'
                go_wp2
                go_quiet (fail)
                go_wp2
                go_ret
                exact HF.out _ _ (HY.out.trans (dcN (by omega)).symm) (below_drewN HB.out _)
            · have HY : Hid (@decide (GFit n a b t) (decGFit n a b t) = false) := by show _ = _; rw [HX.out]; exact dcN (by omega)
              clear HX k1'
              go_wp2
              go_quiet (fail)
              go_wp2
              go_ret
              exact HF.out _ _ HY.out (below_drewN HB.out _)
          · have HY : Hid (@decide (GFit n a b t) (decGFit n a b t) = false) := by show _ = _; rw [HX.out]; exact dcN (by omega)
            clear HX k1'
            go_wp2
            go_quiet (fail)
            go_wp2
            go_ret
            exact HF.out _ _ HY.out (below_drewN HB.out _)
        · have k1' : ¬ b = 0 := fun h => k1 (by rw [beq_iff_eq]; omega)
          have k1f : (b == 0) = false := by simpa using k1
          have HY : Hid (@decide (GFit n a b t) (decGFit n a b t) = false) := by show _ = _; rw [HX.out]; exact dcN (by omega)
          clear HX k1' k1
          go_wp2
          go_quiet (fail)
          go_wp2
          go_ret
          exact HF.out _ _ HY.out (below_drewN HB.out _)
end Go.Proofs.Ytaolinlginloaab
