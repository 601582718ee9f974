/-
  ImplRead; ImplVar; SVar
-/
import Derived.Test.YthgfhjfnlecolabDoorPk0
import Derived.Test.YthgfhjfnlecolabDoorPk17
import Derived.Lib.Hide
/-
  The walk of impl.ReadVar.
-/
namespace Go.Proofs.YthgfhjfnlecolabDoor
open Go.RowKit
open Words

/-- What ReadVar answers, as a value. -/
def rvRes : Option (Nat × Nat) → Value
  | some (n, j) => .tuple #[.int .i64 n, .int .i64 j, .bool true]
  | none => .tuple #[.int .i64 0, .int .i64 0, .bool false]

set_option maxHeartbeats 400000 in
set_option maxRecDepth 100000 in
theorem implRead (s : ByteArray) (q : Nat) (w : World) (hs : s.size ≤ 1048576) (hq : q ≤ s.size) :
    Calls Tryd.prog 78 #[.string s, .int .i64 q] w fun e w' => e = .returned (rvRes (readV s.data.toList q)) ∧ w' = w := by
  have g1 : ¬ (q : Int) < 0 := by omega
  have g2 : ¬ (s.size : Int) < q := by omega
  go_enter Tryd.func78, Tryd.ntmps78
  go_wp2
  go_loop [7, 8, 9, 10, 11] (fun nv uv iv _ _ => ∃ k n u : Nat, nv = .int .i64 n ∧ uv = .int .i64 u ∧ iv = .int .i64 (q + k : Nat) ∧ Hid (St s.data.toList q k n u)) (fun _ _ iv _ _ => s.size - (intOf iv).toNat)
  case atStart => exact ⟨0, 0, 1, rfl, rfl, rfl, St.zero (by simpa using hq)⟩
  case round =>
    obtain ⟨k, n, u, rfl, rfl, rfl, hst⟩ := hrel
    obtain ⟨b1, b2, b3, b4, b5⟩ := hst.out.bounds
    by_cases hlt : q + k < s.size ∧ k < 5
    · obtain ⟨h1, h2⟩ := hlt
      have b6 := b4 h2
      have c1 : ((q + k : Nat) : Int) < s.size := by omega
      have c2 : (u : Int) ≤ 1000000000 := by omega
      clear b3 b4 b5
      obtain ⟨c, hcc⟩ : ∃ c : Nat, s[q + k].toNat = c := ⟨_, rfl⟩
      have hc8 : c < 256 := by rw [← hcc]; exact UInt8.toNat_lt _
      have p2 := prod_le_int c u b6
      have p3 := prod_nn c u
      have H : Hid (At s.data.toList (q + k) c) := ⟨by simpa using h1, by rw [← hcc]; rfl⟩
      by_cases hc : 128 ≤ (c : Int)
      · go_wp2
        go_round
        case rel => exact ⟨k + 1, n + c % 128 * u, u * 128, by rw [prod_cast], by go_num, by go_num, hst.out.step' h2 H.out (by omega)⟩
        case measure => simp [intOf]; omega
      · by_cases h0 : c = 0 ∧ k ≠ 0
        · have F : Hid (readV s.data.toList q = none) := hst.out.no' h2 H.out (by omega) (.inr h0)
          have f1 : ((c : Int) == 0) = true := by rw [beq_iff_eq]; omega
          have f2 : (q : Int) < (q : Int) + k := by omega
          clear h0
          go_wp2
          go_ret3
          exact ⟨by rw [F.out]; rfl, rfl⟩
        · have hw : ¬ (c = 0 ∧ k ≠ 0) := h0
          by_cases hN : (n : Int) + (c : Int) % 128 * u ≤ 1000000000
          · have hN' : n + c % 128 * u ≤ 1000000000 := by rw [← prod_cast] at hN; omega
            have F : Hid (readV s.data.toList q = some (n + c % 128 * u, q + k + 1)) := hst.out.yes' h2 H.out (by omega) hN' hw
            clear hN'
            by_cases hc0 : c = 0
            · have f1 : ((c : Int) == 0) = true := by rw [beq_iff_eq]; omega
              have f2 : ¬ (q : Int) < (q : Int) + k := by omega
              clear h0 hw hc0
              go_wp2
              go_ret3
              exact ⟨by rw [F.out, rvRes, prod_cast]; rfl, rfl⟩
            · have f1 : ((c : Int) == 0) = false := by rw [beq_eq_false_iff_ne]; omega
              clear h0 hw hc0
              go_wp2
              go_ret3
              exact ⟨by rw [F.out, rvRes, prod_cast]; rfl, rfl⟩
          · have hN' : 1000000000 < n + c % 128 * u := by rw [← prod_cast] at hN; omega
            have F : Hid (readV s.data.toList q = none) := hst.out.no' h2 H.out (by omega) (.inl hN')
            clear hN'
            by_cases hc0 : c = 0
            · exfalso
              subst hc0
              simp at hN
              omega
            · have f1 : ((c : Int) == 0) = false := by rw [beq_eq_false_iff_ne]; omega
              clear h0 hw hc0
              go_wp2
              go_ret3
              exact ⟨by rw [F.out]; rfl, rfl⟩
    · have F : Hid (readV s.data.toList q = none) := hst.out.stop (by simpa using hlt)
      by_cases h1 : q + k < s.size
      · have c1 : ((q + k : Nat) : Int) < s.size := by omega
        have b6 := b5 (by have := hst.out.1; omega)
        have c2 : ¬ (u : Int) ≤ 1000000000 := by omega
        clear hlt b5
        go_wp2
        go_ret3
        exact ⟨by rw [F.out]; rfl, rfl⟩
      · have c1 : ¬ ((q + k : Nat) : Int) < s.size := by omega
        clear hlt
        go_wp2
        go_ret3
        exact ⟨by rw [F.out]; rfl, rfl⟩

theorem implRead_out (s : ByteArray) (q : Int) (w : World) (hq : q < 0 ∨ s.size < q) :
    Calls Tryd.prog 78 #[.string s, .int .i64 q] w fun e w' => e = .returned (rvRes none) ∧ w' = w := by
  rcases hq with h | h
  · go_enter Tryd.func78, Tryd.ntmps78
    go_wp2
    go_ret3
    exact ⟨rfl, rfl⟩
  · have g1 : ¬ q < 0 := by omega
    go_enter Tryd.func78, Tryd.ntmps78
    go_wp2
    go_ret3
    exact ⟨rfl, rfl⟩
end Go.Proofs.YthgfhjfnlecolabDoor

/-
  The walk of impl.VarText.
-/
namespace Go.Proofs.YthgfhjfnlecolabDoor
open Go.RowKit
open Words

theorem acc_len {acc : List UInt8} {m n : Nat} (h : acc ++ varL m = varL n) (hn : n < 9223372036854775808) : acc.length ≤ 9 := by
  have h1 := congrArg List.length h
  have h2 := varL_len n hn
  simp at h1
  omega
theorem acc_step {acc : List UInt8} {m n : Nat} (h : acc ++ varL m = varL n) (hm : 128 ≤ m) : (acc ++ [UInt8.ofNat (m % 128 + 128)]) ++ varL (m / 128) = varL n := by
  rw [← h, varL_high m hm]; simp
theorem byte_of (m : Nat) : ((UInt8.ofNat (m % 128 + 128)).toNat : Int) = (m : Int) % 128 + 128 := by
  simp; omega

theorem byte_of' (m : Nat) (h : m < 128) : ((UInt8.ofNat m).toNat : Int) = (m : Int) := by
  simp; omega

set_option maxHeartbeats 400000 in
theorem implVar_yes (n : Nat) (w : World) (hn : n ≤ 1000000000) :
    Calls Tryd.prog 22 #[.int .i64 n] w fun e w' => e = .returned (.tuple #[.string ⟨(varL n).toArray⟩, .bool true]) ∧ Below w.heap.size w w' := by
  obtain ⟨i0, hi, hz0, hz1, hz2⟩ := info_parts infoByte
  have hlen := varL_len n (by omega)
  have g1 : ¬ (n : Int) < 0 := by omega
  have g2 : ¬ (1000000000 : Int) < n := by omega
  go_enter Tryd.func22, Tryd.ntmps22
  go_wp2
  go_loopw [0, 4] (fun nv out wr => ∃ (m : Nat) (acc : List UInt8), nv = .int .i64 m ∧ m ≤ n ∧ Hid (acc ++ varL m = varL n) ∧ wr.ownsRow w.heap.size 5 1 out acc.length (bcells acc) ∧ Below w.heap.size w wr) (fun nv _ _ => (intOf nv).toNat)
  case atStart => exact ⟨n, [], rfl, Nat.le_refl _, rfl, World.ownsRow_nil _ _ _ _, Below.refl _ _⟩
  case round =>
    obtain ⟨m, acc, rfl, hm, hacc, hown, hbel⟩ := hrel
    have hsz := hbel.size
    have hal := acc_len hacc (by omega)
    by_cases hlt : 128 ≤ (m : Int)
    · go_wp2_with (at_builtin; refine wpList_append_own _ rfl _ _ 22 rfl w.heap.size 5 i0 (.int .u8 0) 1 1 Tryd.underlying22 hi hz0 hz1 hz2 rfl (by decide) _ _ _ rfl (hown.alloc _) ⟨wr.heap.size, 0, none⟩ 1 1 [Value.int .u8 _] rfl rfl (one_cell _ _ _) (one_u8 _) ?c1 ?c2 ?c3 ?_)
      case c1 => unfold maxLen; omega
      case c2 => omega
      case c3 => first | omega | (simp; omega)
      intro v' w1 hown' hgrow _
      have hb1 := own_grown hbel (by omega) hown hgrow
      rw [bcells_snoc acc _ _ (byte_of m)] at hown'
      have hacc' := acc_step hacc (by omega)
      clear hown hgrow hacc
      go_wp2
      go_roundw
      case rel => exact ⟨m / 128, _, by go_num, by omega, hacc', by simpa using hown', hb1⟩
      case measure => simp [intOf]; omega
    · go_wp2_with (at_builtin; refine wpList_append_own _ rfl _ _ 22 rfl w.heap.size 5 i0 (.int .u8 0) 1 1 Tryd.underlying22 hi hz0 hz1 hz2 rfl (by decide) _ _ _ rfl (hown.alloc _) ⟨wr.heap.size, 0, none⟩ 1 1 [Value.int .u8 _] rfl rfl (one_cell _ _ _) (one_u8 _) ?c1 ?c2 ?c3 ?_)
      case c1 => unfold maxLen; omega
      case c2 => omega
      case c3 => first | omega | (simp; omega)
      intro v' w1 hown' hgrow _
      have hb1 := own_grown hbel (by omega) hown hgrow
      rw [bcells_snoc acc _ _ (byte_of' m (by omega))] at hown'
      have e : acc ++ [UInt8.ofNat m] = varL n := by rw [← hacc.out, varL_low m (by omega)]
      have eN : acc.length + 1 = (acc ++ [UInt8.ofNat m]).length := by simp
      rw [eN, e] at hown'
      have E := Lib.hid e
      clear hown hgrow hacc e eN
      obtain ⟨l, hl⟩ : ∃ l, l = varL n := ⟨_, rfl⟩
      rw [← hl] at hown' hlen
      have HL := Lib.hid hl
      clear hl E
      rcases hown'.2 with ⟨-, h0⟩ | ⟨g, cap, cur, rfl, -, -, -, -, -, -⟩
      · omega
      · have hcv := run_convert_bytes_back (P := Tryd.prog) w1 22 9 5 ⟨g, 0, none⟩ cap l Tryd.underlying22 Tryd.underlying5 Tryd.underlying9 (fun j hj => hown'.cells (g := g) rfl j _ (bcells_at l j hj))
        go_wp2
        go_ret2
        exact ⟨by rw [HL.out]; rfl, hb1⟩

theorem implVar_no (n : Int) (w : World) (hn : n < 0 ∨ 1000000000 < n) :
    Calls Tryd.prog 22 #[.int .i64 n] w fun e w' => e = .returned (.tuple #[.string ⟨#[]⟩, .bool false]) ∧ w' = w := by
  rcases hn with h | h
  · go_enter Tryd.func22, Tryd.ntmps22
    go_wp2
    go_ret2
    exact ⟨rfl, rfl⟩
  · have g1 : ¬ n < 0 := by omega
    go_enter Tryd.func22, Tryd.ntmps22
    go_wp2
    go_ret2
    exact ⟨rfl, rfl⟩
end Go.Proofs.YthgfhjfnlecolabDoor

/-
  spec.l01Var.
-/
namespace Go.Proofs.YthgfhjfnlecolabDoor
open Go.RowKit
open Words

set_option maxHeartbeats 400000 in
theorem l01Var_any (n : Nat) (w : World) (hn : n < 9223372036854775808) :
    Calls Tryd.prog 48 #[.int .i64 n] w fun e w' => e = .returned (.string ⟨(varL n).toArray⟩) ∧ Below w.heap.size w w' := by
  obtain ⟨i0, hi, hz0, hz1, hz2⟩ := info_parts infoByte
  have hlen := varL_len n hn
  go_enter Tryd.func48, Tryd.ntmps48
  go_wp2
  go_loopw [0, 3] (fun nv out wr => ∃ (m : Nat) (acc : List UInt8), nv = .int .i64 m ∧ m ≤ n ∧ Hid (acc ++ varL m = varL n) ∧ wr.ownsRow w.heap.size 5 1 out acc.length (bcells acc) ∧ Below w.heap.size w wr) (fun nv _ _ => (intOf nv).toNat)
  case atStart => exact ⟨n, [], rfl, Nat.le_refl _, rfl, World.ownsRow_made w #[] 0 (Nat.le_refl _) (by unfold maxLen; omega) (by simp), (Below.refl _ _).alloc (Nat.le_refl _) _⟩
  case round =>
    obtain ⟨m, acc, rfl, hm, hacc, hown, hbel⟩ := hrel
    have hsz := hbel.size
    have hal := acc_len hacc hn
    by_cases hlt : 127 < (m : Int)
    · go_wp2_with (at_builtin; refine wpList_append_own _ rfl _ _ 22 rfl w.heap.size 5 i0 (.int .u8 0) 1 1 Tryd.underlying22 hi hz0 hz1 hz2 rfl (by decide) _ _ _ rfl (hown.alloc _) ⟨wr.heap.size, 0, none⟩ 1 1 [Value.int .u8 _] rfl rfl (one_cell _ _ _) (one_u8 _) ?c1 ?c2 ?c3 ?_)
      case c1 => unfold maxLen; omega
      case c2 => omega
      case c3 => first | omega | (simp; omega)
      intro v' w1 hown' hgrow _
      have hb1 := own_grown hbel (by omega) hown hgrow
      rw [bcells_snoc acc _ _ (byte_of m)] at hown'
      have hacc' := acc_step hacc (by omega)
      clear hown hgrow hacc
      go_wp2
      go_roundw
      case rel => exact ⟨m / 128, _, by go_num, by omega, hacc', by simpa using hown', hb1⟩
      case measure => simp [intOf]; omega
    · go_wp2_with (at_builtin; refine wpList_append_own _ rfl _ _ 22 rfl w.heap.size 5 i0 (.int .u8 0) 1 1 Tryd.underlying22 hi hz0 hz1 hz2 rfl (by decide) _ _ _ rfl (hown.alloc _) ⟨wr.heap.size, 0, none⟩ 1 1 [Value.int .u8 _] rfl rfl (one_cell _ _ _) (one_u8 _) ?c1 ?c2 ?c3 ?_)
      case c1 => unfold maxLen; omega
      case c2 => omega
      case c3 => first | omega | (simp; omega)
      intro v' w1 hown' hgrow _
      have hb1 := own_grown hbel (by omega) hown hgrow
      rw [bcells_snoc acc _ _ (byte_of' m (by omega))] at hown'
      have e : acc ++ [UInt8.ofNat m] = varL n := by rw [← hacc.out, varL_low m (by omega)]
      have eN : acc.length + 1 = (acc ++ [UInt8.ofNat m]).length := by simp
      rw [eN, e] at hown'
      have E := Lib.hid e
      clear hown hgrow hacc e eN
      obtain ⟨l, hl⟩ : ∃ l, l = varL n := ⟨_, rfl⟩
      rw [← hl] at hown' hlen
      have HL := Lib.hid hl
      clear hl E
      rcases hown'.2 with ⟨-, h0⟩ | ⟨g, cap, cur, rfl, -, -, -, -, -, -⟩
      · omega
      · have hcv := run_convert_bytes_back (P := Tryd.prog) w1 22 9 5 ⟨g, 0, none⟩ cap l Tryd.underlying22 Tryd.underlying5 Tryd.underlying9 (fun j hj => hown'.cells (g := g) rfl j _ (bcells_at l j hj))
        go_wp2
        go_ret
        exact ⟨by rw [HL.out]; rfl, hb1⟩

end Go.Proofs.YthgfhjfnlecolabDoor
