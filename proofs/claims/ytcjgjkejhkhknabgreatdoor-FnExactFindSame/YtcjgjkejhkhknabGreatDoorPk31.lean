/-
  ImplVar; SVar; SRd; SCur; SPageOk; SSeal; SByte; SPText
-/
import Derived.Test.YtcjgjkejhkhknabGreatDoorPk0
import Derived.Test.YtcjgjkejhkhknabGreatDoorPk4
import Derived.Lib.Hide
import Derived.Test.YtcjgjkejhkhknabGreatDoorPk28
import Derived.Test.YtcjgjkejhkhknabGreatDoorPk2
import Derived.Deep.RegionWith
import Derived.Deep.RegionHeld3
import Derived.Laws.DeepStrings4
import Derived.Deep.QuietTactic
import Derived.BigQuiet
import Derived.Lib.Strings
import Derived.WalkSmall
import Derived.Laws.Rows
import Derived.Test.YtcjgjkejhkhknabGreatDoorPk27
import Derived.Test.YtcjgjkejhkhknabGreatDoorPk5
/-
  The walk of impl.VarText.
-/
namespace Go.Proofs.YtcjgjkejhkhknabGreatDoor
open Go.RowKit
open Words

theorem acc_len {acc : List UInt8} {m n : Nat} (h : acc ++ varL m = varL n) (hn : n < 9223372036854775808) : acc.length ≤ 9 := by
  have h1 := congrArg List.length h
  have h2 := varL_len n hn
  simp at h1
  omega
theorem acc_step {acc : List UInt8} {m n : Nat} (h : acc ++ varL m = varL n) (hm : 128 ≤ m) : (acc ++ [UInt8.ofNat (m % 128 + 128)]) ++ varL (m / 128) = varL n := by
  rw [← h, varL_high m hm]; simp
theorem byte_of (m : Nat) : ((UInt8.ofNat (m % 128 + 128)).toNat : Int) = (m : Int) % 128 + 128 := by
  simp; omega

theorem byte_of' (m : Nat) (h : m < 128) : ((UInt8.ofNat m).toNat : Int) = (m : Int) := by
  simp; omega

end Go.Proofs.YtcjgjkejhkhknabGreatDoor

/-
  spec.l01Var.
-/
namespace Go.Proofs.YtcjgjkejhkhknabGreatDoor
open Go.RowKit
open Words

set_option maxHeartbeats 400000 in
theorem l01Var_any (n : Nat) (w : World) (hn : n < 9223372036854775808) :
    Calls Tryz.prog 95 #[.int .i64 n] w fun e w' => e = .returned (.string ⟨(varL n).toArray⟩) ∧ Below w.heap.size w w' := by
  obtain ⟨i0, hi, hz0, hz1, hz2⟩ := info_parts infoByte
  have hlen := varL_len n hn
  go_enter Tryz.func95, Tryz.ntmps95
  go_wp2
  go_loopw [0, 3] (fun nv out wr => ∃ (m : Nat) (acc : List UInt8), nv = .int .i64 m ∧ m ≤ n ∧ Hid (acc ++ varL m = varL n) ∧ wr.ownsRow w.heap.size 5 1 out acc.length (bcells acc) ∧ Below w.heap.size w wr) (fun nv _ _ => (intOf nv).toNat)
  case atStart => exact ⟨n, [], rfl, Nat.le_refl _, rfl, World.ownsRow_made w #[] 0 (Nat.le_refl _) (by unfold maxLen; omega) (by simp), (Below.refl _ _).alloc (Nat.le_refl _) _⟩
  case round =>
    obtain ⟨m, acc, rfl, hm, hacc, hown, hbel⟩ := hrel
    have hsz := hbel.size
    have hal := acc_len hacc hn
    by_cases hlt : 127 < (m : Int)
    · go_wp2_with (at_builtin; refine wpList_append_own _ rfl _ _ 191 rfl w.heap.size 5 i0 (.int .u8 0) 1 1 Tryz.underlying191 hi hz0 hz1 hz2 rfl (by decide) _ _ _ rfl (hown.alloc _) ⟨wr.heap.size, 0, none⟩ 1 1 [Value.int .u8 _] rfl rfl (one_cell _ _ _) (one_u8 _) ?c1 ?c2 ?c3 ?_)
      case c1 => unfold maxLen; omega
      case c2 => omega
      case c3 => first | omega | (simp; omega)
      intro v' w1 hown' hgrow _
      have hb1 := own_grown hbel (by omega) hown hgrow
      rw [bcells_snoc acc _ _ (byte_of m)] at hown'
      have hacc' := acc_step hacc (by omega)
      clear hown hgrow hacc
      go_wp2
      go_roundw
      case rel => exact ⟨m / 128, _, by go_num, by omega, hacc', by simpa using hown', hb1⟩
      case measure => simp [intOf]; omega
    · go_wp2_with (at_builtin; refine wpList_append_own _ rfl _ _ 191 rfl w.heap.size 5 i0 (.int .u8 0) 1 1 Tryz.underlying191 hi hz0 hz1 hz2 rfl (by decide) _ _ _ rfl (hown.alloc _) ⟨wr.heap.size, 0, none⟩ 1 1 [Value.int .u8 _] rfl rfl (one_cell _ _ _) (one_u8 _) ?c1 ?c2 ?c3 ?_)
      case c1 => unfold maxLen; omega
      case c2 => omega
      case c3 => first | omega | (simp; omega)
      intro v' w1 hown' hgrow _
      have hb1 := own_grown hbel (by omega) hown hgrow
      rw [bcells_snoc acc _ _ (byte_of' m (by omega))] at hown'
      have e : acc ++ [UInt8.ofNat m] = varL n := by rw [← hacc.out, varL_low m (by omega)]
      have eN : acc.length + 1 = (acc ++ [UInt8.ofNat m]).length := by simp
      rw [eN, e] at hown'
      have E := Lib.hid e
      clear hown hgrow hacc e eN
      obtain ⟨l, hl⟩ : ∃ l, l = varL n := ⟨_, rfl⟩
      rw [← hl] at hown' hlen
      have HL := Lib.hid hl
      clear hl E
      rcases hown'.2 with ⟨-, h0⟩ | ⟨g, cap, cur, rfl, -, -, -, -, -, -⟩
      · omega
      · have hcv := run_convert_bytes_back (P := Tryz.prog) w1 191 9 5 ⟨g, 0, none⟩ cap l Tryz.underlying191 Tryz.underlying5 Tryz.underlying9 (fun j hj => hown'.cells (g := g) rfl j _ (bcells_at l j hj))
        go_wp2
        go_ret
        exact ⟨by rw [HL.out]; rfl, hb1⟩

end Go.Proofs.YtcjgjkejhkhknabGreatDoor

/-
  The walk of spec.ReadVar.
-/
namespace Go.Proofs.YtcjgjkejhkhknabGreatDoor
open Go.RowKit
open Words

theorem l01Var_int (x : Int) (w : World) (h0 : 0 ≤ x) (h1 : x ≤ 1000000000) :
    Calls Tryz.prog 95 #[.int .i64 x] w fun e w' => e = .returned (.string ⟨(varL x.toNat).toArray⟩) ∧ Below w.heap.size w w' := by
  obtain ⟨n, rfl⟩ := Int.eq_ofNat_of_zero_le h0
  simpa using l01Var_any n w (by omega)

set_option maxHeartbeats 400000 in
set_option maxRecDepth 100000 in
theorem specRead (s : ByteArray) (q : Nat) (w : World) (hs : s.size ≤ 1048576) (hq : q ≤ s.size) :
    Calls Tryz.prog 91 #[.string s, .int .i64 q] w fun e w' => e = .returned (rvRes (readV s.data.toList q)) ∧ Below w.heap.size w w' := by
  have g : decide ((0 : Int) ≤ q ∧ (q : Int) ≤ s.size) = true := by simp; omega
  go_enter Tryz.func91, Tryz.ntmps91
  go_wp2_with fail
  refine (sin_any _ _ _ _).mono ?_
  rintro e w' ⟨rfl, rfl⟩
  rw [g]
  go_wp2
  go_loop [7, 8, 9] (fun nv uv iv => ∃ k n u : Nat, nv = .int .i64 n ∧ uv = .int .i64 u ∧ iv = .int .i64 (q + k : Nat) ∧ Hid (St s.data.toList q k n u)) (fun _ _ iv => s.size - (intOf iv).toNat)
  case atStart => exact ⟨0, 0, 1, rfl, rfl, rfl, St.zero (by simpa using hq)⟩
  case round =>
    obtain ⟨k, n, u, rfl, rfl, rfl, hst⟩ := hrel
    obtain ⟨b1, b2, b3, b4, b5⟩ := hst.out.bounds
    by_cases hlt : q + k < s.size ∧ k < 5
    · obtain ⟨h1, h2⟩ := hlt
      have b6 := b4 h2
      have c1 : ((q + k : Nat) : Int) < s.size := by omega
      have c2 : ((q + k : Nat) : Int) < (q : Int) + 5 := by omega
      clear b3 b4 b5
      obtain ⟨c, hcc⟩ : ∃ c : Nat, s[q + k].toNat = c := ⟨_, rfl⟩
      have hc8 : c < 256 := by rw [← hcc]; exact UInt8.toNat_lt _
      have p2 := prod_le_int c u b6
      have p3 := prod_nn c u
      have H : Hid (At s.data.toList (q + k) c) := ⟨by simpa using h1, by rw [← hcc]; rfl⟩
      by_cases hc : (c : Int) < 128
      · by_cases hN : (n : Int) + (c : Int) % 128 * u ≤ 1000000000
        · have hN' : n + c % 128 * u ≤ 1000000000 := by rw [← prod_cast] at hN; omega
          have hd : decide ((1000000000 : Int) < (n : Int) + (c : Int) % 128 * u) = false := by simpa using hN
          obtain ⟨t, ht⟩ : ∃ t, t = s.extract q (q + k + 1) := ⟨_, rfl⟩
          have hsl : ∀ W, (Instr.slice 9 (.string s) (some (.int .i64 (q : Int))) (some (.int .i64 ((q : Int) + k + 1))) none).run Tryz.prog W = .ok (.string t) W := by
            intro W
            rw [run_slice_string_if W 9 s .i64 .i64 q ((q : Int) + k + 1) Tryz.underlying9, if_pos (by omega), if_pos (by omega), ht]
            rfl
          have htl : t.toList = (s.data.toList.drop q).take (k + 1) := by
            rw [ht, Lib.toList_data, Lib.extract_data]; congr 1; omega
          have hx : ((n : Int) + (c : Int) % 128 * u).toNat = n + c % 128 * u := by rw [← prod_cast]; exact Int.toNat_natCast _
          have hv := hst.out.var' H.out (show c < 128 by omega)
          rw [← htl, ← hx] at hv
          have hwr : IntKind.i64.wrap ((q : Int) + k + 1) = (q : Int) + k + 1 := by
            rw [IntKind.wrap_i64]; omega
          clear ht htl
          by_cases h0 : c = 0 ∧ k ≠ 0
          · have F : Hid (readV s.data.toList q = none) := hst.out.no' h2 H.out (by omega) (.inr h0)
            have hcmp : (varL ((n : Int) + (c : Int) % 128 * u).toNat == t.toList) = false := by
              rw [beq_eq_false_iff_ne]; intro h; exact hv.1 h h0
            clear hx hv h0 hN'
            go_wp2
            go_region_held3 (fun _ => True) (trivial) ((go_at_call 95; refine (l01Var_int _ _ (by omega) (by omega)).mono ?_; rintro e w1 ⟨rfl, hb⟩))
            go_wp2
            go_ret3
            exact ⟨by rw [F.out]; rfl, (Below.refl _ _).drew.trans hb⟩
          · have F : Hid (readV s.data.toList q = some (n + c % 128 * u, q + k + 1)) := hst.out.yes' h2 H.out (by omega) hN' h0
            have hcmp : (varL ((n : Int) + (c : Int) % 128 * u).toNat == t.toList) = true := by
              rw [beq_iff_eq]; exact hv.2 h0
            clear hx hv h0 hN'
            go_wp2
            go_region_held3 (fun _ => True) (trivial) ((go_at_call 95; refine (l01Var_int _ _ (by omega) (by omega)).mono ?_; rintro e w1 ⟨rfl, hb⟩))
            go_wp2
            go_ret3
            exact ⟨by rw [F.out, rvRes, prod_cast]; rfl, (Below.refl _ _).drew.trans hb⟩
        · have hN' : 1000000000 < n + c % 128 * u := by rw [← prod_cast] at hN; omega
          have F : Hid (readV s.data.toList q = none) := hst.out.no' h2 H.out (by omega) (.inl hN')
          clear hN'
          have hd : decide ((1000000000 : Int) < (n : Int) + (c : Int) % 128 * u) = true := by simpa using hN
          go_wp2
          go_quiet (fail)
          go_wp2
          go_ret3
          exact ⟨by rw [F.out]; rfl, below_drewN (Below.refl _ _) _⟩
      · go_wp2
        go_round
        case rel => exact ⟨k + 1, n + c % 128 * u, u * 128, by rw [prod_cast], by go_num, by go_num, hst.out.step' h2 H.out (by omega)⟩
        case measure => simp [intOf]; omega
    · have F : Hid (readV s.data.toList q = none) := hst.out.stop (by simpa using hlt)
      by_cases h1 : q + k < s.size
      · have c1 : ((q + k : Nat) : Int) < s.size := by omega
        have c2 : ¬ ((q + k : Nat) : Int) < (q : Int) + 5 := by have := hst.out.1; omega
        clear hlt b5
        go_wp2
        go_ret3
        exact ⟨by rw [F.out]; rfl, Below.refl _ _⟩
      · have c1 : ¬ ((q + k : Nat) : Int) < s.size := by omega
        clear hlt
        go_wp2
        go_ret3
        exact ⟨by rw [F.out]; rfl, Below.refl _ _⟩

theorem specRead_out (s : ByteArray) (q : Int) (w : World) (hq : q < 0 ∨ s.size < q) :
    Calls Tryz.prog 91 #[.string s, .int .i64 q] w fun e w' => e = .returned (rvRes none) ∧ w' = w := by
  have g : decide ((0 : Int) ≤ q ∧ (q : Int) ≤ s.size) = false := by simp only [decide_eq_false_iff_not]; omega
  go_enter Tryz.func91, Tryz.ntmps91
  go_wp2_with fail
  refine (sin_any _ _ _ _).mono ?_
  rintro e w' ⟨rfl, rfl⟩
  rw [g]
  go_wp2
  go_ret3
  exact ⟨rfl, rfl⟩
end Go.Proofs.YtcjgjkejhkhknabGreatDoor

/-
  spec.l06Var, on its cursor.
-/
namespace Go.Proofs.YtcjgjkejhkhknabGreatDoor
open Go.RowKit
open Words


theorem readV_far (l : List UInt8) (q : Nat) (h : l.length < q) : readV l q = none := by
  unfold readV
  rw [List.drop_eq_nil_of_le (by omega)]
  rfl
theorem svread_any (s : ByteArray) (q : Nat) (w : World) (hs : s.size ≤ 1048576) :
    Calls Tryz.prog 91 #[.string s, .int .i64 q] w fun e w' => e = .returned (rvRes (readV s.data.toList q)) ∧ Below w.heap.size w w' := by
  by_cases h : q ≤ s.size
  · exact specRead s q w hs h
  · rw [readV_far _ _ (show s.size < q by omega)]
    refine (specRead_out s q w (by omega)).mono ?_
    rintro e w' ⟨rfl, rfl⟩
    exact ⟨rfl, Below.refl _ _⟩

/-- The cursor that lies in block g. -/
def CAt (w : World) (g : Nat) (t : ByteArray) (i : Int) (bad : Bool) : Prop := g < w.heap.size ∧ w.cell? ⟨g, 0, none⟩ = some (.string t) ∧ w.cell? ⟨g, 1, none⟩ = some (.int .i64 i) ∧ w.cell? ⟨g, 2, none⟩ = some (.bool bad) ∧ w.frozen? ⟨g, 1, none⟩ = false ∧ w.frozen? ⟨g, 2, none⟩ = false
def MovedC (w w' : World) (g : Nat) (t : ByteArray) (i : Int) (bad : Bool) : Prop := Kept2 w w' (· ≠ g) ∧ CAt w' g t i bad
theorem CAt.below {w w' : World} {g : Nat} {t : ByteArray} {i : Int} {bad : Bool} (h : CAt w g t i bad) (hb : Below w.heap.size w w') : CAt w' g t i bad := by
  obtain ⟨h1, h2, h3, h4, h5, h6⟩ := h
  have e : ∀ j, w'.cell? ⟨g, j, none⟩ = w.cell? ⟨g, j, none⟩ := fun j => hb.cell (show g < w.heap.size from h1)
  have f : ∀ j, w'.frozen? ⟨g, j, none⟩ = w.frozen? ⟨g, j, none⟩ := fun j => hb.frozen (show g < w.heap.size from h1)
  exact ⟨Nat.lt_of_lt_of_le h1 hb.size, by rw [e]; exact h2, by rw [e]; exact h3, by rw [e]; exact h4, by rw [f]; exact h5, by rw [f]; exact h6⟩
theorem CAt.set1 {w : World} {g : Nat} {t : ByteArray} {i i' : Int} {bad : Bool} (h : CAt w g t i bad) : CAt (w.setCell ⟨g, 1, none⟩ (.int .i64 i')) g t i' bad := by
  obtain ⟨h1, h2, h3, h4, h5, h6⟩ := h
  have o : ∀ (i j : Nat) (u : Value), i ≠ j → (w.setCell ⟨g, i, none⟩ u).cell? ⟨g, j, none⟩ = w.cell? ⟨g, j, none⟩ := fun i j u hij => World.cell?_setCell_other _ _ _ _ (fun e => hij (by injection e))
  exact ⟨by simpa using h1, by rw [o 1 0 _ (by omega)]; exact h2, World.cell?_setCell_same _ _ _ h3, by rw [o 1 2 _ (by omega)]; exact h4, by simpa using h5, by simpa using h6⟩
theorem CAt.set2 {w : World} {g : Nat} {t : ByteArray} {i : Int} {bad bad' : Bool} (h : CAt w g t i bad) : CAt (w.setCell ⟨g, 2, none⟩ (.bool bad')) g t i bad' := by
  obtain ⟨h1, h2, h3, h4, h5, h6⟩ := h
  have o : ∀ (i j : Nat) (u : Value), i ≠ j → (w.setCell ⟨g, i, none⟩ u).cell? ⟨g, j, none⟩ = w.cell? ⟨g, j, none⟩ := fun i j u hij => World.cell?_setCell_other _ _ _ _ (fun e => hij (by injection e))
  exact ⟨by simpa using h1, by rw [o 2 0 _ (by omega)]; exact h2, by rw [o 2 1 _ (by omega)]; exact h3, World.cell?_setCell_same _ _ _ h4, by simpa using h5, by simpa using h6⟩
theorem ckept_set (w : World) (g j : Nat) (v : Value) : Kept2 w (w.setCell ⟨g, j, none⟩ v) (· ≠ g) := by
  refine ⟨rfl, rfl, rfl, by simp, fun i _ hne => ?_⟩
  exact Below.heap_setCell _ _ _ _ hne
theorem MovedC.set1 {w w' : World} {g : Nat} {t : ByteArray} {i i' : Int} {bad : Bool} (h : CAt w g t i bad) (hb : Below w.heap.size w w') : MovedC w (w'.setCell ⟨g, 1, none⟩ (.int .i64 i')) g t i' bad :=
  ⟨(Kept2.below hb).trans (ckept_set _ _ _ _), (h.below hb).set1⟩
theorem MovedC.set2 {w w' : World} {g : Nat} {t : ByteArray} {i : Int} {bad bad' : Bool} (h : CAt w g t i bad) (hb : Below w.heap.size w w') : MovedC w (w'.setCell ⟨g, 2, none⟩ (.bool bad')) g t i bad' :=
  ⟨(Kept2.below hb).trans (ckept_set _ _ _ _), (h.below hb).set2⟩

def stepV (l : List UInt8) (i : Nat) : Bool → Nat × Nat × Bool
  | true => (0, i, true)
  | false => match readV l i with
    | some (n, j) => (n, j, false)
    | none => (0, i, true)

set_option maxHeartbeats 400000 in
set_option maxRecDepth 100000 in
theorem svar_go (s : ByteArray) (i n j : Nat) (g : Nat) (w : World) (hs : s.size ≤ 1048576) (hr : CAt w g s i false) (hv : readV s.data.toList i = some (n, j)) :
    Calls Tryz.prog 65 #[.pointer (some ⟨g, 0, none⟩)] w fun e w' => e = .returned (.int .i64 n) ∧ MovedC w w' g s j false := by
  obtain ⟨h1, h2, h3, h4, h5, h6⟩ := id hr
  have R := hide hr
  have C := hide (fun w => svread_any s i w hs)
  rw [hv] at C
  clear hr hv
  go_enter Tryz.func65, Tryz.ntmps65
  go_wp2
  go_region_held3 (fun w' => w'.cell? ⟨g, 0, none⟩ = some (.string s) ∧ w'.cell? ⟨g, 1, none⟩ = some (.int .i64 i)) (first | go_keep | exact ⟨K1.out.2.1, K1.out.2.2.1⟩) ((go_at_call 91; (with_reducible refine Calls.mono (C.out _) ?_); rintro e w1 ⟨rfl, b1⟩; have B1 : Hid (Below w.heap.size w w1) := Below.trans (Below.drew (Below.refl w.heap.size w)) b1; have K1 : Hid (CAt w1 g s i false) := R.out.below B1.out; clear b1; simp only [rvRes]))
  all_goals
    obtain ⟨k1, k2, k3, k4, k5, k6⟩ := K1.out
    have M := hide (MovedC.set1 (i' := (j : Int)) R.out B1.out)
    go_wp2
    go_ret
    exact ⟨rfl, M.out⟩

set_option maxHeartbeats 400000 in
set_option maxRecDepth 100000 in
theorem svar_none (s : ByteArray) (i : Nat) (g : Nat) (w : World) (hs : s.size ≤ 1048576) (hr : CAt w g s i false) (hv : readV s.data.toList i = none) :
    Calls Tryz.prog 65 #[.pointer (some ⟨g, 0, none⟩)] w fun e w' => e = .returned (.int .i64 0) ∧ MovedC w w' g s i true := by
  obtain ⟨h1, h2, h3, h4, h5, h6⟩ := id hr
  have R := hide hr
  have C := hide (fun w => svread_any s i w hs)
  rw [hv] at C
  clear hr hv
  go_enter Tryz.func65, Tryz.ntmps65
  go_wp2
  go_region_held3 (fun w' => w'.cell? ⟨g, 0, none⟩ = some (.string s) ∧ w'.cell? ⟨g, 1, none⟩ = some (.int .i64 i)) (first | go_keep | exact ⟨K1.out.2.1, K1.out.2.2.1⟩) ((go_at_call 91; (with_reducible refine Calls.mono (C.out _) ?_); rintro e w1 ⟨rfl, b1⟩; have B1 : Hid (Below w.heap.size w w1) := Below.trans (Below.drew (Below.refl w.heap.size w)) b1; have K1 : Hid (CAt w1 g s i false) := R.out.below B1.out; clear b1; simp only [rvRes]))
  all_goals
    obtain ⟨k1, k2, k3, k4, k5, k6⟩ := K1.out
    have M := hide (MovedC.set2 (bad' := true) R.out B1.out)
    go_wp2
    go_ret
    exact ⟨rfl, M.out⟩

set_option maxHeartbeats 400000 in
set_option maxRecDepth 100000 in
theorem svar_bad (s : ByteArray) (i : Nat) (g : Nat) (w : World) (hs : s.size ≤ 1048576) (hr : CAt w g s i true) (hv : readV s.data.toList i = none) :
    Calls Tryz.prog 65 #[.pointer (some ⟨g, 0, none⟩)] w fun e w' => e = .returned (.int .i64 0) ∧ MovedC w w' g s i true := by
  obtain ⟨h1, h2, h3, h4, h5, h6⟩ := id hr
  have R := hide hr
  have C := hide (fun w => svread_any s i w hs)
  rw [hv] at C
  clear hr hv
  go_enter Tryz.func65, Tryz.ntmps65
  go_wp2
  go_region_held3 (fun w' => w'.cell? ⟨g, 0, none⟩ = some (.string s) ∧ w'.cell? ⟨g, 1, none⟩ = some (.int .i64 i)) (first | go_keep | exact ⟨K1.out.2.1, K1.out.2.2.1⟩) ((go_at_call 91; (with_reducible refine Calls.mono (C.out _) ?_); rintro e w1 ⟨rfl, b1⟩; have B1 : Hid (Below w.heap.size w w1) := Below.trans (Below.drew (Below.refl w.heap.size w)) b1; have K1 : Hid (CAt w1 g s i true) := R.out.below B1.out; clear b1; simp only [rvRes]))
  all_goals
    obtain ⟨k1, k2, k3, k4, k5, k6⟩ := K1.out
    have M := hide (MovedC.set2 (bad' := true) R.out B1.out)
    go_wp2
    go_ret
    exact ⟨rfl, M.out⟩

set_option maxHeartbeats 400000 in
set_option maxRecDepth 100000 in
theorem svar_bad2 (s : ByteArray) (i : Nat) (n j : Nat) (g : Nat) (w : World) (hs : s.size ≤ 1048576) (hr : CAt w g s i true) (hv : readV s.data.toList i = some (n, j)) :
    Calls Tryz.prog 65 #[.pointer (some ⟨g, 0, none⟩)] w fun e w' => e = .returned (.int .i64 0) ∧ MovedC w w' g s i true := by
  obtain ⟨h1, h2, h3, h4, h5, h6⟩ := id hr
  have R := hide hr
  have C := hide (fun w => svread_any s i w hs)
  rw [hv] at C
  clear hr hv
  go_enter Tryz.func65, Tryz.ntmps65
  go_wp2
  go_region_held3 (fun w' => w'.cell? ⟨g, 0, none⟩ = some (.string s) ∧ w'.cell? ⟨g, 1, none⟩ = some (.int .i64 i)) (first | go_keep | exact ⟨K1.out.2.1, K1.out.2.2.1⟩) ((go_at_call 91; (with_reducible refine Calls.mono (C.out _) ?_); rintro e w1 ⟨rfl, b1⟩; have B1 : Hid (Below w.heap.size w w1) := Below.trans (Below.drew (Below.refl w.heap.size w)) b1; have K1 : Hid (CAt w1 g s i true) := R.out.below B1.out; clear b1; simp only [rvRes]))
  all_goals
    obtain ⟨k1, k2, k3, k4, k5, k6⟩ := K1.out
    have M := hide (MovedC.set2 (bad' := true) R.out B1.out)
    go_wp2
    go_ret
    exact ⟨rfl, M.out⟩

theorem svar_any (s : ByteArray) (i : Nat) (bad : Bool) (g : Nat) (w : World) (hs : s.size ≤ 1048576) (hr : CAt w g s i bad) (n j : Nat) (b' : Bool) (he : stepV s.data.toList i bad = (n, j, b')) :
    Calls Tryz.prog 65 #[.pointer (some ⟨g, 0, none⟩)] w fun e w' => e = .returned (.int .i64 n) ∧ MovedC w w' g s j b' := by
  cases hv : readV s.data.toList i with
  | none =>
    cases bad with
    | false =>
      simp only [stepV, hv] at he
      cases he
      exact svar_none s i g w hs hr hv
    | true =>
      simp only [stepV] at he
      cases he
      exact svar_bad s i g w hs hr hv
  | some x =>
    obtain ⟨a, b⟩ := x
    cases bad with
    | false =>
      simp only [stepV, hv] at he
      cases he
      exact svar_go s i _ _ g w hs hr hv
    | true =>
      simp only [stepV] at he
      cases he
      exact svar_bad2 s i a b g w hs hr hv

theorem stepV_ok {l : List UInt8} {i n j : Nat} {b : Bool} (h : stepV l i b = (n, j, false)) : b = false ∧ readV l i = some (n, j) := by
  cases b with
  | true => simp [stepV] at h
  | false =>
    cases hv : readV l i with
    | none => simp [stepV, hv] at h
    | some x =>
      obtain ⟨a, c⟩ := x
      simp only [stepV, hv] at h
      cases h
      exact ⟨rfl, rfl⟩
theorem stepV_bad {l : List UInt8} {i n j : Nat} {b : Bool} (h : stepV l i b = (n, j, true)) : b = true ∨ readV l i = none := by
  cases b with
  | true => exact .inl rfl
  | false =>
    cases hv : readV l i with
    | none => exact .inr rfl
    | some x =>
      obtain ⟨a, c⟩ := x
      simp only [stepV, hv] at h
      cases h
end Go.Proofs.YtcjgjkejhkhknabGreatDoor

/-
  spec.PageOk.
-/
namespace Go.Proofs.YtcjgjkejhkhknabGreatDoor
open Go.RowKit
open Words

theorem right_spec (k s x q c : Int) (t : ByteArray) : (Pg.mk k s x q c t).Right ↔ (1 ≤ k ∧ k ≤ 2) ∧ (1 ≤ s ∧ s ≤ 1000000000) ∧ (1 ≤ x ∧ x ≤ 1000000000) ∧ (1 ≤ c ∧ c ≤ 9) ∧ (0 ≤ q ∧ q ≤ c - 1) ∧ (t.size : Int) ≤ 90 ∧ (k = 2 ∨ c = 1) := by
  unfold Pg.Right
  simp only
  omega

theorem cell_new6 (w w1 : World) (a b c d e f : Value) (ty : TypeId) (hb : Below (w.alloc (.cells #[a, b, c, d, e, f] ty)).heap.size (w.alloc (.cells #[a, b, c, d, e, f] ty)) w1) :
    w1.cell? ⟨w.heap.size, 0, none⟩ = some a ∧ w1.cell? ⟨w.heap.size, 1, none⟩ = some b ∧ w1.cell? ⟨w.heap.size, 2, none⟩ = some c ∧ w1.cell? ⟨w.heap.size, 3, none⟩ = some d ∧ w1.cell? ⟨w.heap.size, 4, none⟩ = some e ∧ w1.cell? ⟨w.heap.size, 5, none⟩ = some f := by
  refine ⟨?_, ?_, ?_, ?_, ?_, ?_⟩ <;> (rw [hb.cell (by simp)]; simp)

set_option maxHeartbeats 1000000 in
set_option maxRecDepth 100000 in
theorem spageOk (p : Pg) (w : World) :
    Calls Tryz.prog 92 #[pgVal p] w fun e w' => e = .returned (.bool (@decide p.Right p.decR)) ∧ Below w.heap.size w w' := by
  obtain ⟨k, s, x, q, c, t⟩ := p
  have HE := hide (right_spec k s x q c t)
  have HB := hide ((Below.refl w.heap.size w).alloc (Nat.le_refl _) (.cells #[.int .i64 k, .int .i64 s, .int .i64 x, .int .i64 q, .int .i64 c, .string t] 75))
  unfold pgVal
  simp only
  by_cases a1 : 1 ≤ k ∧ k ≤ 2
  · by_cases a2 : 1 ≤ s ∧ s ≤ 1000000000
    · by_cases a3 : 1 ≤ x ∧ x ≤ 1000000000
      · by_cases a4 : 1 ≤ c ∧ c ≤ 9
        · have ew : IntKind.i64.wrap (c - 1) = c - 1 := by rw [IntKind.wrap_i64]; omega
          by_cases a5 : 0 ≤ q ∧ q ≤ c - 1
          · by_cases a6 : 90 < (t.size : Int)
            · go_enter Tryz.func92, Tryz.ntmps92
              go_wp2_with fail
              refine (sin_b k 1 2 true _ (.inl ⟨a1.1, a1.2, rfl⟩)).mono ?_
              rintro e w1 ⟨rfl, rfl⟩
              go_wp2_with fail
              refine (sin_b s 1 1000000000 true _ (.inl ⟨a2.1, a2.2, rfl⟩)).mono ?_
              rintro e w1 ⟨rfl, rfl⟩
              go_wp2_with fail
              refine (sin_b x 1 1000000000 true _ (.inl ⟨a3.1, a3.2, rfl⟩)).mono ?_
              rintro e w1 ⟨rfl, rfl⟩
              go_wp2_with fail
              refine (sin_b c 1 9 true _ (.inl ⟨a4.1, a4.2, rfl⟩)).mono ?_
              rintro e w1 ⟨rfl, rfl⟩
              go_wp2_with fail
              refine (sin_b q 0 (c - 1) true _ (.inl ⟨a5.1, a5.2, rfl⟩)).mono ?_
              rintro e w1 ⟨rfl, rfl⟩
              go_wp2
              go_ret
              exact ⟨by rw [dcN (fun h => by have := HE.out.1 h; omega)]; rfl, HB.out⟩
            · by_cases a7 : (k == 2) = true
              · go_enter Tryz.func92, Tryz.ntmps92
                go_wp2_with fail
                refine (sin_b k 1 2 true _ (.inl ⟨a1.1, a1.2, rfl⟩)).mono ?_
                rintro e w1 ⟨rfl, rfl⟩
                go_wp2_with fail
                refine (sin_b s 1 1000000000 true _ (.inl ⟨a2.1, a2.2, rfl⟩)).mono ?_
                rintro e w1 ⟨rfl, rfl⟩
                go_wp2_with fail
                refine (sin_b x 1 1000000000 true _ (.inl ⟨a3.1, a3.2, rfl⟩)).mono ?_
                rintro e w1 ⟨rfl, rfl⟩
                go_wp2_with fail
                refine (sin_b c 1 9 true _ (.inl ⟨a4.1, a4.2, rfl⟩)).mono ?_
                rintro e w1 ⟨rfl, rfl⟩
                go_wp2_with fail
                refine (sin_b q 0 (c - 1) true _ (.inl ⟨a5.1, a5.2, rfl⟩)).mono ?_
                rintro e w1 ⟨rfl, rfl⟩
                go_wp2
                go_ret
                exact ⟨by simp at a7; rw [dcY (HE.out.2 (by omega))]; rfl, HB.out⟩
              · have a7 : (k == 2) = false := by simpa using a7
                go_enter Tryz.func92, Tryz.ntmps92
                go_wp2_with fail
                refine (sin_b k 1 2 true _ (.inl ⟨a1.1, a1.2, rfl⟩)).mono ?_
                rintro e w1 ⟨rfl, rfl⟩
                go_wp2_with fail
                refine (sin_b s 1 1000000000 true _ (.inl ⟨a2.1, a2.2, rfl⟩)).mono ?_
                rintro e w1 ⟨rfl, rfl⟩
                go_wp2_with fail
                refine (sin_b x 1 1000000000 true _ (.inl ⟨a3.1, a3.2, rfl⟩)).mono ?_
                rintro e w1 ⟨rfl, rfl⟩
                go_wp2_with fail
                refine (sin_b c 1 9 true _ (.inl ⟨a4.1, a4.2, rfl⟩)).mono ?_
                rintro e w1 ⟨rfl, rfl⟩
                go_wp2_with fail
                refine (sin_b q 0 (c - 1) true _ (.inl ⟨a5.1, a5.2, rfl⟩)).mono ?_
                rintro e w1 ⟨rfl, rfl⟩
                go_wp2
                go_ret
                refine ⟨?_, HB.out⟩
                simp at a7
                have e : @decide (Pg.mk k s x q c t).Right (Pg.mk k s x q c t).decR = (c == 1) := by
                  by_cases b : c = 1
                  · rw [dcY (HE.out.2 (by omega))]; simp [b]
                  · rw [dcN (fun h => by have := HE.out.1 h; omega)]; simp [b]
                rw [e]
                rfl
          · go_enter Tryz.func92, Tryz.ntmps92
            go_wp2_with fail
            refine (sin_b k 1 2 true _ (.inl ⟨a1.1, a1.2, rfl⟩)).mono ?_
            rintro e w1 ⟨rfl, rfl⟩
            go_wp2_with fail
            refine (sin_b s 1 1000000000 true _ (.inl ⟨a2.1, a2.2, rfl⟩)).mono ?_
            rintro e w1 ⟨rfl, rfl⟩
            go_wp2_with fail
            refine (sin_b x 1 1000000000 true _ (.inl ⟨a3.1, a3.2, rfl⟩)).mono ?_
            rintro e w1 ⟨rfl, rfl⟩
            go_wp2_with fail
            refine (sin_b c 1 9 true _ (.inl ⟨a4.1, a4.2, rfl⟩)).mono ?_
            rintro e w1 ⟨rfl, rfl⟩
            go_wp2_with fail
            refine (sin_b q 0 (c - 1) false _ (.inr ⟨by omega, rfl⟩)).mono ?_
            rintro e w1 ⟨rfl, rfl⟩
            go_wp2
            go_ret
            exact ⟨by rw [dcN (fun h => by have := HE.out.1 h; omega)]; rfl, HB.out⟩
        · go_enter Tryz.func92, Tryz.ntmps92
          go_wp2_with fail
          refine (sin_b k 1 2 true _ (.inl ⟨a1.1, a1.2, rfl⟩)).mono ?_
          rintro e w1 ⟨rfl, rfl⟩
          go_wp2_with fail
          refine (sin_b s 1 1000000000 true _ (.inl ⟨a2.1, a2.2, rfl⟩)).mono ?_
          rintro e w1 ⟨rfl, rfl⟩
          go_wp2_with fail
          refine (sin_b x 1 1000000000 true _ (.inl ⟨a3.1, a3.2, rfl⟩)).mono ?_
          rintro e w1 ⟨rfl, rfl⟩
          go_wp2_with fail
          refine (sin_b c 1 9 false _ (.inr ⟨by omega, rfl⟩)).mono ?_
          rintro e w1 ⟨rfl, rfl⟩
          go_wp2
          go_ret
          exact ⟨by rw [dcN (fun h => by have := HE.out.1 h; omega)]; rfl, HB.out⟩
      · go_enter Tryz.func92, Tryz.ntmps92
        go_wp2_with fail
        refine (sin_b k 1 2 true _ (.inl ⟨a1.1, a1.2, rfl⟩)).mono ?_
        rintro e w1 ⟨rfl, rfl⟩
        go_wp2_with fail
        refine (sin_b s 1 1000000000 true _ (.inl ⟨a2.1, a2.2, rfl⟩)).mono ?_
        rintro e w1 ⟨rfl, rfl⟩
        go_wp2_with fail
        refine (sin_b x 1 1000000000 false _ (.inr ⟨by omega, rfl⟩)).mono ?_
        rintro e w1 ⟨rfl, rfl⟩
        go_wp2
        go_ret
        exact ⟨by rw [dcN (fun h => by have := HE.out.1 h; omega)]; rfl, HB.out⟩
    · go_enter Tryz.func92, Tryz.ntmps92
      go_wp2_with fail
      refine (sin_b k 1 2 true _ (.inl ⟨a1.1, a1.2, rfl⟩)).mono ?_
      rintro e w1 ⟨rfl, rfl⟩
      go_wp2_with fail
      refine (sin_b s 1 1000000000 false _ (.inr ⟨by omega, rfl⟩)).mono ?_
      rintro e w1 ⟨rfl, rfl⟩
      go_wp2
      go_ret
      exact ⟨by rw [dcN (fun h => by have := HE.out.1 h; omega)]; rfl, HB.out⟩
  · go_enter Tryz.func92, Tryz.ntmps92
    go_wp2_with fail
    refine (sin_b k 1 2 false _ (.inr ⟨by omega, rfl⟩)).mono ?_
    rintro e w1 ⟨rfl, rfl⟩
    go_wp2
    go_ret
    exact ⟨by rw [dcN (fun h => by have := HE.out.1 h; omega)]; rfl, HB.out⟩
end Go.Proofs.YtcjgjkejhkhknabGreatDoor

/-
  spec.Sealed.
-/
namespace Go.Proofs.YtcjgjkejhkhknabGreatDoor
open Go.RowKit
open Sums

set_option maxHeartbeats 400000 in
theorem specSealed (t : ByteArray) (w : World) (hl : t.size ≤ 20000) :
    Calls Tryz.prog 93 #[.string t] w fun e w' => e = .returned (.tuple #[.string (sealA t), .bool true]) ∧ Below w.heap.size w w' := by
  have g : ¬ (20000 : Int) < t.size := by omega
  go_enter Tryz.func93, Tryz.ntmps93
  go_wp2_with fail
  refine (specOf t _ (by unfold maxLen; omega)).mono ?_
  rintro e w1 ⟨rfl, rfl⟩
  have hx := sumOf_lt t.data.toList
  have E : Hid (sealA t = t ++ ⟨(four (sumOf t.data.toList)).toArray⟩) := rfl
  have hfl := four_len (sumOf t.data.toList)
  generalize sumOf t.data.toList = x at hx E hfl
  go_wp2_with fail
  refine (specFour x _ hx).mono ?_
  rintro e w2 ⟨rfl, hb⟩
  generalize four x = f at E hfl
  go_wp2
  go_ret2
  exact ⟨by rw [E.out]; rfl, hb⟩

theorem specSealed_no (t : ByteArray) (w : World) (hl : (20000 : Int) < t.size) :
    Calls Tryz.prog 93 #[.string t] w fun e w' => e = .returned (.tuple #[.string ⟨#[]⟩, .bool false]) ∧ w' = w := by
  go_enter Tryz.func93, Tryz.ntmps93
  go_wp2
  go_ret2
  exact ⟨rfl, rfl⟩

end Go.Proofs.YtcjgjkejhkhknabGreatDoor

/-
  spec.l06Byte.
-/
namespace Go.Proofs.YtcjgjkejhkhknabGreatDoor
open Go.RowKit
open Words

theorem i_nat {x : Int} (h : 0 ≤ x) : ∃ n : Nat, x = n ∧ x.toNat = n := ⟨x.toNat, by omega, rfl⟩

set_option maxHeartbeats 400000 in
set_option maxRecDepth 100000 in
theorem sbyte (n : Nat) (hn : n < 256) (w : World) :
    Calls Tryz.prog 94 #[.int .i64 n] w fun e w' => e = .returned (.string (byteA n)) ∧ Below w.heap.size w w' := by
  have hcv := run_convert_bytes_back (P := Tryz.prog) (w.alloc (.cells #[Value.int .u8 n] 5)) 191 9 5 ⟨w.heap.size, 0, none⟩ 1 [UInt8.ofNat n] Tryz.underlying191 Tryz.underlying5 Tryz.underlying9 (fun j hj => by
    match j, hj with
    | 0, _ => simp [Addr.add]; omega)
  rw [show [UInt8.ofNat n].length = 1 from rfl] at hcv
  have E : Hid (byteA n = ByteArray.mk [UInt8.ofNat n].toArray) := rfl
  generalize ByteArray.mk [UInt8.ofNat n].toArray = r at hcv E
  have ew : IntKind.u8.wrap (n : Int) = n := by rw [IntKind.wrap_u8]; omega
  go_enter Tryz.func94, Tryz.ntmps94
  go_wp2
  go_ret
  exact ⟨by rw [E.out]; rfl, (Below.refl _ _).alloc (Nat.le_refl _) _⟩

end Go.Proofs.YtcjgjkejhkhknabGreatDoor

/-
  spec.PageText.
-/
namespace Go.Proofs.YtcjgjkejhkhknabGreatDoor
open Go.RowKit
open Words Sums

def ptRes (p : Pg) : Value := letI := p.decR; if p.Right then .tuple #[.string (sealA (pageA p)), .bool true] else .tuple #[.string ⟨#[]⟩, .bool false]

/-- A page in a block of its own, in a world that came of another. -/
def PIn (w a : World) (k s x q c : Int) (t : ByteArray) : Prop := Below w.heap.size w a ∧ w.heap.size < a.heap.size ∧
  (a.cell? ⟨w.heap.size, 0, none⟩ = some (.int .i64 k) ∧ a.cell? ⟨w.heap.size, 1, none⟩ = some (.int .i64 s) ∧ a.cell? ⟨w.heap.size, 2, none⟩ = some (.int .i64 x) ∧ a.cell? ⟨w.heap.size, 3, none⟩ = some (.int .i64 q) ∧ a.cell? ⟨w.heap.size, 4, none⟩ = some (.int .i64 c) ∧ a.cell? ⟨w.heap.size, 5, none⟩ = some (.string t))
theorem PIn.next {w a b : World} {k s x q c : Int} {t : ByteArray} (h : PIn w a k s x q c t) (hb : Below a.heap.size a b) : PIn w b k s x q c t :=
  ⟨h.1.trans (hb.mono h.1.size), Nat.lt_of_lt_of_le h.2.1 hb.size, by rw [hb.cell h.2.1, hb.cell h.2.1, hb.cell h.2.1, hb.cell h.2.1, hb.cell h.2.1, hb.cell h.2.1]; exact h.2.2⟩
theorem PIn.drew {w a : World} {k s x q c : Int} {t : ByteArray} (h : PIn w a k s x q c t) : PIn w a.drew k s x q c t := ⟨h.1.drew, h.2.1, h.2.2⟩

set_option maxHeartbeats 1000000 in
set_option maxRecDepth 100000 in
theorem spageText (p : Pg) (w : World) :
    Calls Tryz.prog 66 #[pgVal p] w fun e w' => e = .returned (ptRes p) ∧ Below w.heap.size w w' := by
  have HB := hide ((Below.refl w.heap.size w).alloc (Nat.le_refl _) (.cells #[.int .i64 p.kind, .int .i64 p.seq, .int .i64 p.tx, .int .i64 p.part, .int .i64 p.count, .string p.text] 75))
  by_cases hr : p.Right
  · have HE : Hid (ptRes p = .tuple #[.string (sealA (pageA p)), .bool true]) := if_pos hr
    have hz := pageA_size p hr
    have HS := hide (spageOk p)
    have hr' := hr
    obtain ⟨r1, r2, r3, r4, r5, r6⟩ := hr'
    have HP : Hid (pageA p = ((((byteA p.kind.toNat ++ varA p.seq.toNat) ++ varA p.tx.toNat) ++ varA p.part.toNat) ++ varA p.count.toNat) ++ p.text) := rfl
    have hd := dcY (d := p.decR) hr
    obtain ⟨k, s, x, q, c, t⟩ := p
    unfold pgVal at *
    simp only at *
    obtain ⟨k, rfl, ek⟩ := i_nat (show 0 ≤ k by omega)
    obtain ⟨s, rfl, es⟩ := i_nat (show 0 ≤ s by omega)
    obtain ⟨x, rfl, ex⟩ := i_nat (show 0 ≤ x by omega)
    obtain ⟨q, rfl, eq⟩ := i_nat (show 0 ≤ q by omega)
    obtain ⟨c, rfl, ec⟩ := i_nat (show 0 ≤ c by omega)
    rw [ek, es, ex, eq, ec] at HP
    clear ek es ex eq ec
    obtain ⟨b0, B0⟩ : ∃ b, b = byteA k := ⟨_, rfl⟩
    obtain ⟨v1, V1⟩ : ∃ b, b = varA s := ⟨_, rfl⟩
    obtain ⟨v2, V2⟩ : ∃ b, b = varA x := ⟨_, rfl⟩
    obtain ⟨v3, V3⟩ : ∃ b, b = varA q := ⟨_, rfl⟩
    obtain ⟨v4, V4⟩ : ∃ b, b = varA c := ⟨_, rfl⟩
    have C0 := hide (fun w => sbyte k (by omega) w)
    have C1 := hide (fun w => l01Var_any s w (by omega))
    have C2 := hide (fun w => l01Var_any x w (by omega))
    have C3 := hide (fun w => l01Var_any q w (by omega))
    have C4 := hide (fun w => l01Var_any c w (by omega))
    change Hid (∀ w, Calls Tryz.prog 95 #[.int .i64 s] w fun e w' => e = .returned (.string (varA s)) ∧ Below w.heap.size w w') at C1
    change Hid (∀ w, Calls Tryz.prog 95 #[.int .i64 x] w fun e w' => e = .returned (.string (varA x)) ∧ Below w.heap.size w w') at C2
    change Hid (∀ w, Calls Tryz.prog 95 #[.int .i64 q] w fun e w' => e = .returned (.string (varA q)) ∧ Below w.heap.size w w') at C3
    change Hid (∀ w, Calls Tryz.prog 95 #[.int .i64 c] w fun e w' => e = .returned (.string (varA c)) ∧ Below w.heap.size w w') at C4
    rw [← B0] at C0 HP
    rw [← V1] at C1 HP
    rw [← V2] at C2 HP
    rw [← V3] at C3 HP
    rw [← V4] at C4 HP
    clear B0 V1 V2 V3 V4
    obtain ⟨pa, hpa⟩ : ∃ b, b = pageA ⟨k, s, x, q, c, t⟩ := ⟨_, rfl⟩
    rw [← hpa] at hz HP HE
    clear hpa hr r1 r2 r3 r4 r5 r6
    obtain ⟨u1, U1⟩ : ∃ u, b0 ++ v1 = u := ⟨_, rfl⟩
    rw [U1] at HP
    obtain ⟨u2, U2⟩ : ∃ u, u1 ++ v2 = u := ⟨_, rfl⟩
    rw [U2] at HP
    obtain ⟨u3, U3⟩ : ∃ u, u2 ++ v3 = u := ⟨_, rfl⟩
    rw [U3] at HP
    obtain ⟨u4, U4⟩ : ∃ u, u3 ++ v4 = u := ⟨_, rfl⟩
    rw [U4] at HP
    have U5 : u4 ++ t = pa := HP.out.symm
    have z1 := congrArg ByteArray.size U1
    have z2 := congrArg ByteArray.size U2
    have z3 := congrArg ByteArray.size U3
    have z4 := congrArg ByteArray.size U4
    have z5 := congrArg ByteArray.size U5
    rw [ByteArray.size_append] at z1 z2 z3 z4 z5
    have Y1 : Hid (¬ (9223372036854775807 < b0.size + v1.size)) := by show ¬ _; omega
    have Y2 : Hid (¬ (9223372036854775807 < u1.size + v2.size)) := by show ¬ _; omega
    have Y3 : Hid (¬ (9223372036854775807 < u2.size + v3.size)) := by show ¬ _; omega
    have Y4 : Hid (¬ (9223372036854775807 < u3.size + v4.size)) := by show ¬ _; omega
    have Y5 : Hid (¬ (9223372036854775807 < u4.size + t.size)) := by show ¬ _; omega
    clear z1 z2 z3 z4 z5 HP
    go_enter Tryz.func66, Tryz.ntmps66
    go_wp2_with fail
    refine (HS.out _).mono ?_
    rintro e w1 ⟨rfl, hb1⟩
    rw [hd]
    obtain ⟨c0, c1, c2, c3, c4, c5⟩ := cell_new6 _ _ _ _ _ _ _ _ _ hb1
    have P1 : Hid (PIn w w1 k s x q c t) := ⟨HB.out.trans (hb1.mono HB.out.size), Nat.lt_of_lt_of_le (by simp) hb1.size, c0, c1, c2, c3, c4, c5⟩
    clear hb1 HB hd HS
    go_wp2_with fail
    have y1 := Y1.out
    have y2 := Y2.out
    have y3 := Y3.out
    have y4 := Y4.out
    have y5 := Y5.out
    go_region_held3 (fun w' => w'.cell? ⟨w.heap.size, 0, none⟩ = some (.int .i64 k) ∧ w'.cell? ⟨w.heap.size, 1, none⟩ = some (.int .i64 s) ∧ w'.cell? ⟨w.heap.size, 2, none⟩ = some (.int .i64 x) ∧ w'.cell? ⟨w.heap.size, 3, none⟩ = some (.int .i64 q) ∧ w'.cell? ⟨w.heap.size, 4, none⟩ = some (.int .i64 c) ∧ w'.cell? ⟨w.heap.size, 5, none⟩ = some (.string t)) (first | go_keep | exact P1.out.2.2 | exact P1.out.drew.2.2) (first
      | (go_at_call 94; with_reducible refine Calls.mono (C0.out _) ?_; rintro e w2 ⟨rfl, b2⟩; have P1 := hide (PIn.next (by first | exact P1.out | exact P1.out.drew) b2); clear b2)
      | (go_at_call 95; (with_reducible first | refine Calls.mono (C1.out _) ?_ | refine Calls.mono (C2.out _) ?_ | refine Calls.mono (C3.out _) ?_ | refine Calls.mono (C4.out _) ?_); rintro e w3 ⟨rfl, b3⟩; have P1 := hide (PIn.next (by first | exact P1.out | exact P1.out.drew) b3); clear b3)
      | (go_at_call 93; refine Calls.mono (specSealed pa _ (by omega)) ?_; rintro e w4 ⟨rfl, b4⟩; have P1 := hide (PIn.next (by first | exact P1.out | exact P1.out.drew) b4); clear b4))
    all_goals
      go_wp2
      go_ret2
      exact ⟨by rw [HE.out]; rfl, P1.out.1⟩
  · have HE : Hid (ptRes p = .tuple #[.string ⟨#[]⟩, .bool false]) := if_neg hr
    have HS := hide (spageOk p)
    have hd := dcN (d := p.decR) hr
    obtain ⟨k, s, x, q, c, t⟩ := p
    unfold pgVal at *
    simp only at *
    clear hr
    go_enter Tryz.func66, Tryz.ntmps66
    go_wp2_with fail
    refine (HS.out _).mono ?_
    rintro e w1 ⟨rfl, hb1⟩
    rw [hd]
    go_wp2
    go_ret2
    exact ⟨by rw [HE.out]; rfl, HB.out.trans (hb1.mono HB.out.size)⟩
end Go.Proofs.YtcjgjkejhkhknabGreatDoor
