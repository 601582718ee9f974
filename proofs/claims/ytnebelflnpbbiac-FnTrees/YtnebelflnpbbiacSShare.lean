/-
  spec.SharedBy.
-/
import Derived.Test.YtnebelflnpbbiacSHas
namespace Go.Proofs.Ytnebelflnpbbiac
open Go.RowKit
open Words

def shareK (l : List Kn) (r s : Int) (k : Nat) : Nat := (List.range k).countP (fun i => hasB l r i && hasB l s i)
theorem shareK_succ (l : List Kn) (r s : Int) (k : Nat) : shareK l r s (k + 1) = shareK l r s k + (if (hasB l r k && hasB l s k) = true then 1 else 0) := by
  rw [shareK, shareK, List.range_succ, List.countP_append, List.countP_singleton]
theorem shareK_le (l : List Kn) (r s : Int) (k : Nat) : shareK l r s k ≤ k := by
  have := List.countP_le_length (p := fun i => hasB l r i && hasB l s i) (l := List.range k)
  rw [List.length_range] at this
  exact this

set_option maxHeartbeats 1000000 in
set_option maxRecDepth 100000 in
theorem sshared (ad : Option Addr) (len cap : Nat) (rs : List Kw) (r s : Int) (w : World) (hl : len ≤ 1048578) (h : KnRd w ad len rs) :
    Calls Try.prog 48 #[.agg #[.slice ad len cap], .int .i64 r, .int .i64 s] w fun e w' => e = .returned (.int .i64 (shareT (rs.map ktell) r s)) ∧ Below w.heap.size w w' := by
  have BX := hide (box_at w (.slice ad len cap))
  have B0 : Hid (Below w.heap.size w (w.alloc (.cells #[.slice ad len cap] 77))) := (Below.refl _ _).alloc (Nat.le_refl _) _
  have H := hide (h.below B0.out)
  have HZ := hide (show w.heap.size < (w.alloc (.cells #[.slice ad len cap] 77)).heap.size by simp)
  have HLL := hide (show (rs.map ktell).length = len by rw [List.length_map]; exact h.1)
  clear h
  have bx := BX.out
  go_enter Try.func48, Try.ntmps48
  go_wp2_with fail
  generalize w.alloc (.cells #[.slice ad len cap] 77) = wb at BX bx B0 H HZ ⊢
  obtain ⟨z, hz⟩ : ∃ z, w.heap.size = z := ⟨_, rfl⟩
  rw [hz] at BX bx HZ ⊢
  clear hz
  refine (sarOk ad len cap rs wb hl H.out).mono ?_
  rintro e w1 ⟨rfl, b1⟩
  have HBB : Hid (∀ W : World, Below wb.heap.size wb W → W.cell? ⟨z, 0, none⟩ = some (.slice ad len cap)) := fun W b => (b.cell (show z < wb.heap.size from HZ.out)).trans BX.out
  have B1 := hide b1
  clear bx b1
  have bx := HBB.out _ B1.out
  cases hA : arB (rs.map ktell) with
  | false =>
    have E : Hid (shareT (rs.map ktell) r s = 0) := if_neg (by rw [hA]; simp)
    clear hA
    go_wp2
    go_ret
    exact ⟨congrArg (fun q => Ending.returned (.int .i64 q)) E.out.symm, B0.out.trans (B1.out.mono B0.out.size)⟩
  | true =>
    have HA := hide hA
    go_wp2_with fail
    refine (sroot ad len cap rs r w1 hl (H.out.below B1.out)).mono ?_
    rintro e w2 ⟨rfl, b2⟩
    have B2 := hide (B1.out.trans (b2.mono B1.out.size))
    clear bx b2 hA B1
    have bx := HBB.out _ B2.out
    cases hR : rootB (rs.map ktell) r with
    | false =>
      have E : Hid (shareT (rs.map ktell) r s = 0) := if_neg (by rw [hR]; simp)
      clear hR
      go_wp2
      go_ret
      exact ⟨congrArg (fun q => Ending.returned (.int .i64 q)) E.out.symm, B0.out.trans (B2.out.mono B0.out.size)⟩
    | true =>
      have HR := hide hR
      clear hR
      go_wp2_with fail
      refine (sroot ad len cap rs s w2 hl (H.out.below B2.out)).mono ?_
      rintro e w3 ⟨rfl, b3⟩
      have B3 := hide (B2.out.trans (b3.mono B2.out.size))
      clear bx b3 B2
      have bx := HBB.out _ B3.out
      cases hS : rootB (rs.map ktell) s with
      | false =>
        have E : Hid (shareT (rs.map ktell) r s = 0) := if_neg (by rw [hS]; simp)
        clear hS
        go_wp2
        go_ret
        exact ⟨congrArg (fun q => Ending.returned (.int .i64 q)) E.out.symm, B0.out.trans (B3.out.mono B0.out.size)⟩
      | true =>
        have HS := hide hS
        clear hS
        have E : Hid (shareT (rs.map ktell) r s = (shareK (rs.map ktell) r s len : Nat)) := by
          show _ = _
          rw [shareT, if_pos (by rw [HA.out, HR.out, HS.out]; rfl), shareN, shareK, HLL.out]
        go_wp2_with fail
        refine (shas ad len cap rs r w3 hl (H.out.below B3.out) HA.out HR.out).mono ?_
        rintro e w4 ⟨g1, rfl, -, g1l, f1, b4⟩
        have B4 := hide (B3.out.trans (b4.mono B3.out.size))
        have F1 := hide f1
        clear bx b4 f1 B3
        have bx := HBB.out _ B4.out
        go_wp2_with fail
        refine (shas ad len cap rs s w4 hl (H.out.below B4.out) HA.out HS.out).mono ?_
        rintro e w5 ⟨g2, rfl, -, g2l, f2, b5⟩
        have B5 := hide (B4.out.trans (b5.mono B4.out.size))
        have F2 := hide f2
        have F15 := hide (F1.out.below b5)
        have HF : Hid (Below w.heap.size w w5) := B0.out.trans (B5.out.mono B0.out.size)
        clear bx b5 f2 B4 F1 B5
        obtain ⟨L, hL⟩ : ∃ L, rs.map ktell = L := ⟨_, rfl⟩
        rw [hL] at E F15 F2 HLL HA HR HS
        have HLQ := hide hL
        clear hL
        go_wp2
        go_loopw [9, 10] (fun nv iv W => ∃ k n : Nat, k ≤ len ∧ n ≤ k ∧ iv = .int .i64 k ∧ nv = .int .i64 n ∧ Hid (n = shareK L r s k) ∧ W = w5) (fun _ iv _ => len - (intOf iv).toNat)
        case atStart => exact ⟨0, 0, Nat.zero_le _, Nat.le_refl _, rfl, rfl, rfl, rfl⟩
        case round =>
          obtain ⟨k, n, hk, hnk, rfl, rfl, HN, rfl⟩ := hrel
          by_cases hlt : (k : Int) < len
          · have kl : k < len := by omega
            have c1 : wr.cell? ⟨g1, k, none⟩ = some (.bool (hasB L r k)) := F15.out.cell (flcells_get (by simp [kl]))
            have c2 : wr.cell? ⟨g2, k, none⟩ = some (.bool (hasB L s k)) := F2.out.cell (flcells_get (by simp [kl]))
            have k0 : (0 : Int) ≤ k := by omega
            have SK := hide (shareK_succ L r s k)
            cases h1 : hasB L r k with
            | false =>
              rw [h1] at c1 SK
              have N2 : Hid (n = shareK L r s (k + 1)) := by have := SK.out; have := HN.out; show _ = _; simp_all
              clear SK h1 HN c2
              go_wp2
              go_roundw
              case rel => exact ⟨k + 1, n, by omega, by omega, by go_num, rfl, N2, by trivial⟩
              case measure => simp [intOf]; omega
            | true =>
              cases h2 : hasB L s k with
              | false =>
                rw [h1] at c1
                rw [h2] at c2
                rw [h1, h2] at SK
                have N2 : Hid (n = shareK L r s (k + 1)) := by have := SK.out; have := HN.out; show _ = _; simp_all
                clear SK h1 h2 HN
                go_wp2
                go_roundw
                case rel => exact ⟨k + 1, n, by omega, by omega, by go_num, rfl, N2, by trivial⟩
                case measure => simp [intOf]; omega
              | true =>
                rw [h1] at c1
                rw [h2] at c2
                rw [h1, h2] at SK
                have N2 : Hid (n + 1 = shareK L r s (k + 1)) := by have := SK.out; have := HN.out; show _ = _; simp_all
                clear SK h1 h2 HN
                go_wp2
                go_roundw
                case rel => exact ⟨k + 1, n + 1, by omega, by omega, by go_num, by go_num, N2, by trivial⟩
                case measure => simp [intOf]; omega
          · have E2 : Hid (shareT L r s = (n : Int)) := by
              show _ = _
              rw [E.out, HN.out, show k = len by omega]
            clear HN E
            go_wp2
            go_ret
            exact ⟨by rw [HLQ.out]; exact congrArg (fun q => Ending.returned (.int .i64 q)) E2.out.symm, HF.out⟩
end Go.Proofs.Ytnebelflnpbbiac
