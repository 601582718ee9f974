/-
  SRd; Kept2
-/
import Derived.Test.YtogfdhfmamabiaaPk8
import Derived.Test.YtogfdhfmamabiaaPk7
import Derived.Test.YtogfdhfmamabiaaPk4
import Derived.Deep.RegionWith
import Derived.Deep.RegionHeld3
import Derived.Laws.DeepStrings4
import Derived.Deep.QuietTactic
import Derived.BigQuiet
import Derived.Lib.Strings
import Derived.WalkSmall
import Derived.Test.YtogfdhfmamabiaaPk0
/-
  The walk of spec.ReadVar.
-/
namespace Go.Proofs.Ytogfdhfmamabiaa
open Go.RowKit
open Words

theorem l01Var_int (x : Int) (w : World) (h0 : 0 ≤ x) (h1 : x ≤ 1000000000) :
    Calls Try.prog 80 #[.int .i64 x] w fun e w' => e = .returned (.string ⟨(varL x.toNat).toArray⟩) ∧ Below w.heap.size w w' := by
  obtain ⟨n, rfl⟩ := Int.eq_ofNat_of_zero_le h0
  simpa using l01Var_any n w (by omega)

set_option maxHeartbeats 400000 in
set_option maxRecDepth 100000 in
theorem specRead (s : ByteArray) (q : Nat) (w : World) (hs : s.size ≤ 1048576) (hq : q ≤ s.size) :
    Calls Try.prog 88 #[.string s, .int .i64 q] w fun e w' => e = .returned (rvRes (readV s.data.toList q)) ∧ Below w.heap.size w w' := by
  have g : decide ((0 : Int) ≤ q ∧ (q : Int) ≤ s.size) = true := by simp; omega
  go_enter Try.func88, Try.ntmps88
  go_wp2_with fail
  refine (sin_any _ _ _ _).mono ?_
  rintro e w' ⟨rfl, rfl⟩
  rw [g]
  go_wp2
  go_loop [7, 8, 9] (fun nv uv iv => ∃ k n u : Nat, nv = .int .i64 n ∧ uv = .int .i64 u ∧ iv = .int .i64 (q + k : Nat) ∧ Hid (St s.data.toList q k n u)) (fun _ _ iv => s.size - (intOf iv).toNat)
  case atStart => exact ⟨0, 0, 1, rfl, rfl, rfl, St.zero (by simpa using hq)⟩
  case round =>
    obtain ⟨k, n, u, rfl, rfl, rfl, hst⟩ := hrel
    obtain ⟨b1, b2, b3, b4, b5⟩ := hst.out.bounds
    by_cases hlt : q + k < s.size ∧ k < 5
    · obtain ⟨h1, h2⟩ := hlt
      have b6 := b4 h2
      have c1 : ((q + k : Nat) : Int) < s.size := by omega
      have c2 : ((q + k : Nat) : Int) < (q : Int) + 5 := by omega
      clear b3 b4 b5
      obtain ⟨c, hcc⟩ : ∃ c : Nat, s[q + k].toNat = c := ⟨_, rfl⟩
      have hc8 : c < 256 := by rw [← hcc]; exact UInt8.toNat_lt _
      have p2 := prod_le_int c u b6
      have p3 := prod_nn c u
      have H : Hid (At s.data.toList (q + k) c) := ⟨by simpa using h1, by rw [← hcc]; rfl⟩
      by_cases hc : (c : Int) < 128
      · by_cases hN : (n : Int) + (c : Int) % 128 * u ≤ 1000000000
        · have hN' : n + c % 128 * u ≤ 1000000000 := by rw [← prod_cast] at hN; omega
          have hd : decide ((1000000000 : Int) < (n : Int) + (c : Int) % 128 * u) = false := by simpa using hN
          obtain ⟨t, ht⟩ : ∃ t, t = s.extract q (q + k + 1) := ⟨_, rfl⟩
          have hsl : ∀ W, (Instr.slice 9 (.string s) (some (.int .i64 (q : Int))) (some (.int .i64 ((q : Int) + k + 1))) none).run Try.prog W = .ok (.string t) W := by
            intro W
            rw [run_slice_string_if W 9 s .i64 .i64 q ((q : Int) + k + 1) Try.underlying9, if_pos (by omega), if_pos (by omega), ht]
            rfl
          have htl : t.toList = (s.data.toList.drop q).take (k + 1) := by
            rw [ht, Lib.toList_data, Lib.extract_data]; congr 1; omega
          have hx : ((n : Int) + (c : Int) % 128 * u).toNat = n + c % 128 * u := by rw [← prod_cast]; exact Int.toNat_natCast _
          have hv := hst.out.var' H.out (show c < 128 by omega)
          rw [← htl, ← hx] at hv
          have hwr : IntKind.i64.wrap ((q : Int) + k + 1) = (q : Int) + k + 1 := by
            rw [IntKind.wrap_i64]; omega
          clear ht htl
          by_cases h0 : c = 0 ∧ k ≠ 0
          · have F : Hid (readV s.data.toList q = none) := hst.out.no' h2 H.out (by omega) (.inr h0)
            have hcmp : (varL ((n : Int) + (c : Int) % 128 * u).toNat == t.toList) = false := by
              rw [beq_eq_false_iff_ne]; intro h; exact hv.1 h h0
            clear hx hv h0 hN'
            go_wp2
            go_region_held3 (fun _ => True) (trivial) ((go_at_call 80; refine (l01Var_int _ _ (by omega) (by omega)).mono ?_; rintro e w1 ⟨rfl, hb⟩))
            go_wp2
            go_ret3
            exact ⟨by rw [F.out]; rfl, (Below.refl _ _).drew.trans hb⟩
          · have F : Hid (readV s.data.toList q = some (n + c % 128 * u, q + k + 1)) := hst.out.yes' h2 H.out (by omega) hN' h0
            have hcmp : (varL ((n : Int) + (c : Int) % 128 * u).toNat == t.toList) = true := by
              rw [beq_iff_eq]; exact hv.2 h0
            clear hx hv h0 hN'
            go_wp2
            go_region_held3 (fun _ => True) (trivial) ((go_at_call 80; refine (l01Var_int _ _ (by omega) (by omega)).mono ?_; rintro e w1 ⟨rfl, hb⟩))
            go_wp2
            go_ret3
            exact ⟨by rw [F.out, rvRes, prod_cast]; rfl, (Below.refl _ _).drew.trans hb⟩
        · have hN' : 1000000000 < n + c % 128 * u := by rw [← prod_cast] at hN; omega
          have F : Hid (readV s.data.toList q = none) := hst.out.no' h2 H.out (by omega) (.inl hN')
          clear hN'
          have hd : decide ((1000000000 : Int) < (n : Int) + (c : Int) % 128 * u) = true := by simpa using hN
          go_wp2
          go_quiet (fail)
          go_wp2
          go_ret3
          exact ⟨by rw [F.out]; rfl, below_drewN (Below.refl _ _) _⟩
      · go_wp2
        go_round
        case rel => exact ⟨k + 1, n + c % 128 * u, u * 128, by rw [prod_cast], by go_num, by go_num, hst.out.step' h2 H.out (by omega)⟩
        case measure => simp [intOf]; omega
    · have F : Hid (readV s.data.toList q = none) := hst.out.stop (by simpa using hlt)
      by_cases h1 : q + k < s.size
      · have c1 : ((q + k : Nat) : Int) < s.size := by omega
        have c2 : ¬ ((q + k : Nat) : Int) < (q : Int) + 5 := by have := hst.out.1; omega
        clear hlt b5
        go_wp2
        go_ret3
        exact ⟨by rw [F.out]; rfl, Below.refl _ _⟩
      · have c1 : ¬ ((q + k : Nat) : Int) < s.size := by omega
        clear hlt
        go_wp2
        go_ret3
        exact ⟨by rw [F.out]; rfl, Below.refl _ _⟩

theorem specRead_out (s : ByteArray) (q : Int) (w : World) (hq : q < 0 ∨ s.size < q) :
    Calls Try.prog 88 #[.string s, .int .i64 q] w fun e w' => e = .returned (rvRes none) ∧ w' = w := by
  have g : decide ((0 : Int) ≤ q ∧ (q : Int) ≤ s.size) = false := by simp only [decide_eq_false_iff_not]; omega
  go_enter Try.func88, Try.ntmps88
  go_wp2_with fail
  refine (sin_any _ _ _ _).mono ?_
  rintro e w' ⟨rfl, rfl⟩
  rw [g]
  go_wp2
  go_ret3
  exact ⟨rfl, rfl⟩
end Go.Proofs.Ytogfdhfmamabiaa

/-
  Worlds in which all old blocks but some are as they were.
-/
namespace Go.Proofs.Ytogfdhfmamabiaa
open Go.RowKit

/-- All old blocks of which 'ok' holds are as they were. -/
def Kept2 (w w' : World) (ok : Nat → Prop) : Prop := w'.os = w.os ∧ w'.tape = w.tape ∧ w'.output = w.output ∧ w.heap.size ≤ w'.heap.size ∧ ∀ i, i < w.heap.size → ok i → w'.heap[i]? = w.heap[i]?
theorem Kept2.refl (w : World) (ok : Nat → Prop) : Kept2 w w ok := ⟨rfl, rfl, rfl, Nat.le_refl _, fun _ _ _ => rfl⟩
theorem Kept2.trans {a b c : World} {ok : Nat → Prop} (h : Kept2 a b ok) (k : Kept2 b c ok) : Kept2 a c ok :=
  ⟨k.1.trans h.1, k.2.1.trans h.2.1, k.2.2.1.trans h.2.2.1, Nat.le_trans h.2.2.2.1 k.2.2.2.1, fun i hi ho => (k.2.2.2.2 i (Nat.lt_of_lt_of_le hi h.2.2.2.1) ho).trans (h.2.2.2.2 i hi ho)⟩
theorem Kept2.grown {a b : World} {ok : Nat → Prop} {row : Option Nat} (h : a.grownBy b row) (hr : ∀ j, row = some j → ¬ ok j) : Kept2 a b ok :=
  ⟨h.os, h.tape, h.output, h.size, fun i hi ho => h.block i hi (fun e => hr i e.symm ho)⟩
theorem Kept2.below {a b : World} {ok : Nat → Prop} (h : Below a.heap.size a b) : Kept2 a b ok := ⟨h.os, h.tape, h.output, h.size, fun i hi _ => h.block i hi⟩
theorem Kept2.down {a b : World} {ok : Nat → Prop} {B : Nat} (h : Kept2 a b ok) (hB : B ≤ a.heap.size) (ho : ∀ i, i < B → ok i) : Below B a b := ⟨h.1, h.2.1, h.2.2.1, h.2.2.2.1, fun i hi => h.2.2.2.2 i (Nat.lt_of_lt_of_le hi hB) (ho i hi)⟩
theorem grown_old {a b : World} (h : Below a.heap.size a b) (row : Option Nat) : a.grownBy b row := ⟨h.os, h.tape, h.output, h.size, fun i hi _ => h.block i hi⟩
end Go.Proofs.Ytogfdhfmamabiaa
