/-
  Seal; SpecSum; SpecSeal; SSeal; SByte; SPText; IPText
-/
import Derived.Test.YtfmnaidhfgmemaaGreatDoorPk4
import Derived.Test.YtfmnaidhfgmemaaGreatDoorShelf
import Derived.Test.YtfmnaidhfgmemaaGreatDoorPk0
import Derived.Laws.BitsAllLaws
import Derived.Test.YtfmnaidhfgmemaaGreatDoorPk3
import Derived.Deep.RegionHeld3
namespace Go.Proofs.YtfmnaidhfgmemaaGreatDoor
open Go.RowKit
open Sums
theorem four_at (x : Nat) (hx : x < 4294967296) (w : World) (j : Nat) (hj : j < (four x).length) :
    (w.alloc (.cells #[Value.int .u8 ((x : Int) / 16777216), Value.int .u8 ((x : Int) / 65536 % 256), Value.int .u8 ((x : Int) / 256 % 256), Value.int .u8 ((x : Int) % 256)] 5)).cell? ((⟨w.heap.size, 0, none⟩ : Addr).add j) = some (.int .u8 ((four x)[j].toNat : Int)) := by
  rw [four_len] at hj
  match j, hj with
  | 0, _ => simp [Addr.add, four]; omega
  | 1, _ => simp [Addr.add, four]
  | 2, _ => simp [Addr.add, four]
  | 3, _ => simp [Addr.add, four]
set_option maxHeartbeats 400000 in
theorem asBytes_any (x : Nat) (w : World) (hx : x < 4294967296) :
    Calls Tryz.prog 158 #[.int .u32 x] w fun e w' => e = .returned (.string ⟨(four x).toArray⟩) ∧ Below w.heap.size w w' := by
  have hcv := run_convert_bytes_back (P := Tryz.prog) _ 110 9 5 ⟨w.heap.size, 0, none⟩ 4 (four x) Tryz.underlying110 Tryz.underlying5 Tryz.underlying9 (four_at x hx w)
  rw [four_len] at hcv
  generalize (ByteArray.mk (four x).toArray) = r at hcv
  go_enter Tryz.func158, Tryz.ntmps158
  go_wp2
  go_ret
  exact ⟨rfl, (Below.refl _ _).alloc (Nat.le_refl _) _⟩
set_option maxHeartbeats 400000 in
theorem sealed_any (t : ByteArray) (w : World) (hl : t.size ≤ 20000) (ht : HalvIn w) :
    Calls Tryz.prog 137 #[.string t] w fun e w' => e = .returned (.tuple #[.string (sealA t), .bool true]) ∧ Below w.heap.size w w' := by
  have g : ¬ (20000 : Int) < t.size := by omega
  have HT := hide ht
  clear ht
  go_enter Tryz.func137, Tryz.ntmps137
  go_wp2_with fail
  refine (sumOf_any t _ (by unfold maxLen; omega) HT.out).mono ?_
  rintro e w1 ⟨rfl, rfl⟩
  have hx := sumOf_lt t.data.toList
  have E : Hid (sealA t = t ++ ⟨(four (sumOf t.data.toList)).toArray⟩) := rfl
  have hfl := four_len (sumOf t.data.toList)
  generalize sumOf t.data.toList = x at hx E hfl
  go_wp2_with fail
  refine (asBytes_any x _ hx).mono ?_
  rintro e w2 ⟨rfl, hb⟩
  generalize four x = f at E hfl
  go_wp2
  go_ret2
  exact ⟨by rw [E.out]; rfl, hb⟩
end Go.Proofs.YtfmnaidhfgmemaaGreatDoor

namespace Go.Proofs.YtfmnaidhfgmemaaGreatDoor
open Go.RowKit
open Sums
def halfN : Nat → Nat → Nat
  | 0, x => x
  | k + 1, x => half (halfN k x)
theorem half_odd (m : Nat) (hm : m < 4294967296) (h : ((m : Int) % 2 == 1) = true) : bits .xor .u32 ((m : Int) / 2) 3558460437 = (half m : Nat) := by
  have h1 : m % 2 = 1 := by rw [beq_iff_eq] at h; omega
  have hy := u32_xor ((m : Int) / 2) 3558460437 (by omega) (by omega) (by omega) (by omega)
  rw [hy, half, if_pos h1, show ((m : Int) / 2).toNat = m / 2 by omega]
  rfl
theorem half_even (m : Nat) (h : ((m : Int) % 2 == 1) = false) : half m = m / 2 := by
  have h1 : ¬ m % 2 = 1 := by rw [beq_eq_false_iff_ne] at h; omega
  rw [half, if_neg h1, Nat.xor_zero]
theorem sum_step' (s : Nat) (t : ByteArray) (k c m : Nat) (h : k < t.size) (hc : t[k].toNat = c) (hm : m = sumL s (t.data.toList.take k)) : h4 (h4 (m ^^^ c)) = sumL s (t.data.toList.take (k + 1)) := by
  have hl : k < t.data.toList.length := by simpa using h
  have hcl : t.data.toList[k].toNat = c := by rw [← hc]; rfl
  rw [sumL_take _ _ _ hl, ← hm, sumB, hcl]
theorem all_take' (t : ByteArray) : t.data.toList.take t.size = t.data.toList := by
  apply List.take_of_length_le
  simp
set_option maxHeartbeats 400000 in
set_option maxRecDepth 100000 in
theorem specMore (s : Nat) (t : ByteArray) (w : World) (hs : s < 4294967296) (hl : t.size ≤ maxLen) :
    Calls Tryz.prog 146 #[.int .u32 s, .string t] w fun e w' => e = .returned (.int .u32 (sumL s t.data.toList : Nat)) ∧ w' = w := by
  unfold maxLen at hl
  go_enter Tryz.func146, Tryz.ntmps146
  go_wp2
  go_loopw [0, 5] (fun sv iv wr => ∃ k m : Nat, k ≤ t.size ∧ iv = .int .i64 k ∧ sv = .int .u32 m ∧ m < 4294967296 ∧ Hid (m = sumL s (t.data.toList.take k)) ∧ wr = w) (fun _ iv _ => t.size - (intOf iv).toNat)
  case atStart => exact ⟨0, s, Nat.zero_le _, rfl, rfl, hs, rfl, rfl⟩
  case round =>
    obtain ⟨k, m, hk, rfl, rfl, hm, hrel, rfl⟩ := hrel
    by_cases hlt : (k : Int) < t.size
    · obtain ⟨c, hcc⟩ : ∃ c : Nat, t[k].toNat = c := ⟨_, rfl⟩
      have hc8 : c < 256 := by rw [← hcc]; exact UInt8.toNat_lt _
      have F := hide (sum_step' s t k c m (by omega) hcc hrel.out)
      have hl1 := xor_lt32 m c hm (by omega)
      have hb := h4_lt _ (h4_lt _ hl1)
      have hy := u32_xor (m : Int) (c : Int) (by omega) (by omega) (by omega) (by omega)
      rw [Int.toNat_natCast, Int.toNat_natCast] at hy
      generalize m ^^^ c = x at F hb hl1 hy
      clear hrel
      go_wp2
      clear hy hcc
      go_loopw [0, 6] (fun sv iv w2 => ∃ j n : Nat, j ≤ 8 ∧ iv = .int .i64 j ∧ sv = .int .u32 n ∧ n < 4294967296 ∧ Hid (n = halfN j x) ∧ w2 = wr) (fun _ iv _ => 8 - (intOf iv).toNat)
      case atStart => exact ⟨0, x, by omega, rfl, rfl, hl1, rfl, rfl⟩
      case round =>
        obtain ⟨j, n, hj, rfl, rfl, hn, hrel, rfl⟩ := hrel
        by_cases hj8 : (j : Int) < 8
        · have hh := half_lt n hn
          have G : Hid (half n = halfN (j + 1) x) := by show half n = half (halfN j x); rw [← hrel.out]
          clear hrel
          cases ho : ((n : Int) % 2 == 1)
          · have he := half_even n ho
            rw [he] at G hh
            clear he
            go_wp2
            go_roundw
            case rel => exact ⟨j + 1, n / 2, by omega, by go_num, by go_num, hh, G, trivial⟩
            case measure => simp [intOf]; omega
          · have he := half_odd n hn ho
            generalize half n = n' at he G hh
            go_wp2
            go_roundw
            case rel => exact ⟨j + 1, n', by omega, by go_num, rfl, hh, G, trivial⟩
            case measure => simp [intOf]; omega
        · have e : j = 8 := by omega
          subst e
          have G : Hid (n = sumL s (t.data.toList.take (k + 1))) := hrel.out.trans F.out
          clear hrel F
          go_wp2
          go_roundw
          case rel => exact ⟨k + 1, n, by omega, by go_num, rfl, hn, G, trivial⟩
          case measure => simp [intOf]; omega
    · have e : k = t.size := by omega
      subst e
      have F := hide (hrel.out.trans (by rw [all_take']))
      clear hrel
      go_wp2
      go_ret
      exact ⟨by rw [F.out]; rfl, rfl⟩
theorem specOf (t : ByteArray) (w : World) (hl : t.size ≤ maxLen) :
    Calls Tryz.prog 122 #[.string t] w fun e w' => e = .returned (.int .u32 (sumOf t.data.toList : Nat)) ∧ w' = w := by
  go_enter Tryz.func122, Tryz.ntmps122
  go_wp2_with fail
  refine (specMore 4294967295 t _ (by omega) hl).mono ?_
  rintro e w1 ⟨rfl, rfl⟩
  go_wp2
  go_ret
  exact ⟨rfl, rfl⟩
end Go.Proofs.YtfmnaidhfgmemaaGreatDoor

namespace Go.Proofs.YtfmnaidhfgmemaaGreatDoor
open Go.RowKit
open Sums
set_option maxHeartbeats 400000 in
theorem specFour (x : Nat) (w : World) (hx : x < 4294967296) :
    Calls Tryz.prog 121 #[.int .u32 x] w fun e w' => e = .returned (.string ⟨(four x).toArray⟩) ∧ Below w.heap.size w w' := by
  have hcv := run_convert_bytes_back (P := Tryz.prog) _ 110 9 5 ⟨w.heap.size, 0, none⟩ 4 (four x) Tryz.underlying110 Tryz.underlying5 Tryz.underlying9 (four_at x hx w)
  rw [four_len] at hcv
  generalize (ByteArray.mk (four x).toArray) = r at hcv
  go_enter Tryz.func121, Tryz.ntmps121
  go_wp2
  go_ret
  exact ⟨rfl, (Below.refl _ _).alloc (Nat.le_refl _) _⟩
end Go.Proofs.YtfmnaidhfgmemaaGreatDoor

namespace Go.Proofs.YtfmnaidhfgmemaaGreatDoor
open Go.RowKit
open Sums
set_option maxHeartbeats 400000 in
theorem specSealed (t : ByteArray) (w : World) (hl : t.size ≤ 20000) :
    Calls Tryz.prog 91 #[.string t] w fun e w' => e = .returned (.tuple #[.string (sealA t), .bool true]) ∧ Below w.heap.size w w' := by
  have g : ¬ (20000 : Int) < t.size := by omega
  go_enter Tryz.func91, Tryz.ntmps91
  go_wp2_with fail
  refine (specOf t _ (by unfold maxLen; omega)).mono ?_
  rintro e w1 ⟨rfl, rfl⟩
  have hx := sumOf_lt t.data.toList
  have E : Hid (sealA t = t ++ ⟨(four (sumOf t.data.toList)).toArray⟩) := rfl
  have hfl := four_len (sumOf t.data.toList)
  generalize sumOf t.data.toList = x at hx E hfl
  go_wp2_with fail
  refine (specFour x _ hx).mono ?_
  rintro e w2 ⟨rfl, hb⟩
  generalize four x = f at E hfl
  go_wp2
  go_ret2
  exact ⟨by rw [E.out]; rfl, hb⟩
end Go.Proofs.YtfmnaidhfgmemaaGreatDoor

namespace Go.Proofs.YtfmnaidhfgmemaaGreatDoor
open Go.RowKit
open Words
theorem i_nat {x : Int} (h : 0 ≤ x) : ∃ n : Nat, x = n ∧ x.toNat = n := ⟨x.toNat, by omega, rfl⟩
set_option maxHeartbeats 400000 in
set_option maxRecDepth 100000 in
theorem sbyte (n : Nat) (hn : n < 256) (w : World) :
    Calls Tryz.prog 92 #[.int .i64 n] w fun e w' => e = .returned (.string (byteA n)) ∧ Below w.heap.size w w' := by
  have hcv := run_convert_bytes_back (P := Tryz.prog) (w.alloc (.cells #[Value.int .u8 n] 5)) 110 9 5 ⟨w.heap.size, 0, none⟩ 1 [UInt8.ofNat n] Tryz.underlying110 Tryz.underlying5 Tryz.underlying9 (fun j hj => by
    match j, hj with
    | 0, _ => simp [Addr.add]; omega)
  rw [show [UInt8.ofNat n].length = 1 from rfl] at hcv
  have E : Hid (byteA n = ByteArray.mk [UInt8.ofNat n].toArray) := rfl
  generalize ByteArray.mk [UInt8.ofNat n].toArray = r at hcv E
  have ew : IntKind.u8.wrap (n : Int) = n := by rw [IntKind.wrap_u8]; omega
  go_enter Tryz.func92, Tryz.ntmps92
  go_wp2
  go_ret
  exact ⟨by rw [E.out]; rfl, (Below.refl _ _).alloc (Nat.le_refl _) _⟩
end Go.Proofs.YtfmnaidhfgmemaaGreatDoor

namespace Go.Proofs.YtfmnaidhfgmemaaGreatDoor
open Go.RowKit
open Words Sums
def ptRes (p : Pg) : Value := letI := p.decR; if p.Right then .tuple #[.string (sealA (pageA p)), .bool true] else .tuple #[.string ⟨#[]⟩, .bool false]
def PIn (w a : World) (k s x q c : Int) (t : ByteArray) : Prop := Below w.heap.size w a ∧ w.heap.size < a.heap.size ∧
  (a.cell? ⟨w.heap.size, 0, none⟩ = some (.int .i64 k) ∧ a.cell? ⟨w.heap.size, 1, none⟩ = some (.int .i64 s) ∧ a.cell? ⟨w.heap.size, 2, none⟩ = some (.int .i64 x) ∧ a.cell? ⟨w.heap.size, 3, none⟩ = some (.int .i64 q) ∧ a.cell? ⟨w.heap.size, 4, none⟩ = some (.int .i64 c) ∧ a.cell? ⟨w.heap.size, 5, none⟩ = some (.string t))
theorem PIn.next {w a b : World} {k s x q c : Int} {t : ByteArray} (h : PIn w a k s x q c t) (hb : Below a.heap.size a b) : PIn w b k s x q c t :=
  ⟨h.1.trans (hb.mono h.1.size), Nat.lt_of_lt_of_le h.2.1 hb.size, by rw [hb.cell h.2.1, hb.cell h.2.1, hb.cell h.2.1, hb.cell h.2.1, hb.cell h.2.1, hb.cell h.2.1]; exact h.2.2⟩
theorem PIn.drew {w a : World} {k s x q c : Int} {t : ByteArray} (h : PIn w a k s x q c t) : PIn w a.drew k s x q c t := ⟨h.1.drew, h.2.1, h.2.2⟩
set_option maxHeartbeats 1000000 in
set_option maxRecDepth 100000 in
theorem spageText (p : Pg) (w : World) :
    Calls Tryz.prog 65 #[pgVal p] w fun e w' => e = .returned (ptRes p) ∧ Below w.heap.size w w' := by
  have HB := hide ((Below.refl w.heap.size w).alloc (Nat.le_refl _) (.cells #[.int .i64 p.kind, .int .i64 p.seq, .int .i64 p.tx, .int .i64 p.part, .int .i64 p.count, .string p.text] 92))
  by_cases hr : p.Right
  · have HE : Hid (ptRes p = .tuple #[.string (sealA (pageA p)), .bool true]) := if_pos hr
    have hz := pageA_size p hr
    have HS := hide (spageOk p)
    have hr' := hr
    obtain ⟨r1, r2, r3, r4, r5, r6⟩ := hr'
    have HP : Hid (pageA p = ((((byteA p.kind.toNat ++ varA p.seq.toNat) ++ varA p.tx.toNat) ++ varA p.part.toNat) ++ varA p.count.toNat) ++ p.text) := rfl
    have hd := dcY (d := p.decR) hr
    obtain ⟨k, s, x, q, c, t⟩ := p
    unfold pgVal at *
    simp only at *
    obtain ⟨k, rfl, ek⟩ := i_nat (show 0 ≤ k by omega)
    obtain ⟨s, rfl, es⟩ := i_nat (show 0 ≤ s by omega)
    obtain ⟨x, rfl, ex⟩ := i_nat (show 0 ≤ x by omega)
    obtain ⟨q, rfl, eq⟩ := i_nat (show 0 ≤ q by omega)
    obtain ⟨c, rfl, ec⟩ := i_nat (show 0 ≤ c by omega)
    rw [ek, es, ex, eq, ec] at HP
    clear ek es ex eq ec
    obtain ⟨b0, B0⟩ : ∃ b, b = byteA k := ⟨_, rfl⟩
    obtain ⟨v1, V1⟩ : ∃ b, b = varA s := ⟨_, rfl⟩
    obtain ⟨v2, V2⟩ : ∃ b, b = varA x := ⟨_, rfl⟩
    obtain ⟨v3, V3⟩ : ∃ b, b = varA q := ⟨_, rfl⟩
    obtain ⟨v4, V4⟩ : ∃ b, b = varA c := ⟨_, rfl⟩
    have C0 := hide (fun w => sbyte k (by omega) w)
    have C1 := hide (fun w => l01Var_any s w (by omega))
    have C2 := hide (fun w => l01Var_any x w (by omega))
    have C3 := hide (fun w => l01Var_any q w (by omega))
    have C4 := hide (fun w => l01Var_any c w (by omega))
    change Hid (∀ w, Calls Tryz.prog 93 #[.int .i64 s] w fun e w' => e = .returned (.string (varA s)) ∧ Below w.heap.size w w') at C1
    change Hid (∀ w, Calls Tryz.prog 93 #[.int .i64 x] w fun e w' => e = .returned (.string (varA x)) ∧ Below w.heap.size w w') at C2
    change Hid (∀ w, Calls Tryz.prog 93 #[.int .i64 q] w fun e w' => e = .returned (.string (varA q)) ∧ Below w.heap.size w w') at C3
    change Hid (∀ w, Calls Tryz.prog 93 #[.int .i64 c] w fun e w' => e = .returned (.string (varA c)) ∧ Below w.heap.size w w') at C4
    rw [← B0] at C0 HP
    rw [← V1] at C1 HP
    rw [← V2] at C2 HP
    rw [← V3] at C3 HP
    rw [← V4] at C4 HP
    clear B0 V1 V2 V3 V4
    obtain ⟨pa, hpa⟩ : ∃ b, b = pageA ⟨k, s, x, q, c, t⟩ := ⟨_, rfl⟩
    rw [← hpa] at hz HP HE
    clear hpa hr r1 r2 r3 r4 r5 r6
    obtain ⟨u1, U1⟩ : ∃ u, b0 ++ v1 = u := ⟨_, rfl⟩
    rw [U1] at HP
    obtain ⟨u2, U2⟩ : ∃ u, u1 ++ v2 = u := ⟨_, rfl⟩
    rw [U2] at HP
    obtain ⟨u3, U3⟩ : ∃ u, u2 ++ v3 = u := ⟨_, rfl⟩
    rw [U3] at HP
    obtain ⟨u4, U4⟩ : ∃ u, u3 ++ v4 = u := ⟨_, rfl⟩
    rw [U4] at HP
    have U5 : u4 ++ t = pa := HP.out.symm
    have z1 := congrArg ByteArray.size U1
    have z2 := congrArg ByteArray.size U2
    have z3 := congrArg ByteArray.size U3
    have z4 := congrArg ByteArray.size U4
    have z5 := congrArg ByteArray.size U5
    rw [ByteArray.size_append] at z1 z2 z3 z4 z5
    have Y1 : Hid (¬ (9223372036854775807 < b0.size + v1.size)) := by show ¬ _; omega
    have Y2 : Hid (¬ (9223372036854775807 < u1.size + v2.size)) := by show ¬ _; omega
    have Y3 : Hid (¬ (9223372036854775807 < u2.size + v3.size)) := by show ¬ _; omega
    have Y4 : Hid (¬ (9223372036854775807 < u3.size + v4.size)) := by show ¬ _; omega
    have Y5 : Hid (¬ (9223372036854775807 < u4.size + t.size)) := by show ¬ _; omega
    clear z1 z2 z3 z4 z5 HP
    go_enter Tryz.func65, Tryz.ntmps65
    go_wp2_with fail
    refine (HS.out _).mono ?_
    rintro e w1 ⟨rfl, hb1⟩
    rw [hd]
    obtain ⟨c0, c1, c2, c3, c4, c5⟩ := cell_new6 _ _ _ _ _ _ _ _ _ hb1
    have P1 : Hid (PIn w w1 k s x q c t) := ⟨HB.out.trans (hb1.mono HB.out.size), Nat.lt_of_lt_of_le (by simp) hb1.size, c0, c1, c2, c3, c4, c5⟩
    clear hb1 HB hd HS
    go_wp2_with fail
    have y1 := Y1.out
    have y2 := Y2.out
    have y3 := Y3.out
    have y4 := Y4.out
    have y5 := Y5.out
    go_region_held3 (fun w' => w'.cell? ⟨w.heap.size, 0, none⟩ = some (.int .i64 k) ∧ w'.cell? ⟨w.heap.size, 1, none⟩ = some (.int .i64 s) ∧ w'.cell? ⟨w.heap.size, 2, none⟩ = some (.int .i64 x) ∧ w'.cell? ⟨w.heap.size, 3, none⟩ = some (.int .i64 q) ∧ w'.cell? ⟨w.heap.size, 4, none⟩ = some (.int .i64 c) ∧ w'.cell? ⟨w.heap.size, 5, none⟩ = some (.string t)) (first | go_keep | exact P1.out.2.2 | exact P1.out.drew.2.2) (first
      | (go_at_call 92; with_reducible refine Calls.mono (C0.out _) ?_; rintro e w2 ⟨rfl, b2⟩; have P1 := hide (PIn.next (by first | exact P1.out | exact P1.out.drew) b2); clear b2)
      | (go_at_call 93; (with_reducible first | refine Calls.mono (C1.out _) ?_ | refine Calls.mono (C2.out _) ?_ | refine Calls.mono (C3.out _) ?_ | refine Calls.mono (C4.out _) ?_); rintro e w3 ⟨rfl, b3⟩; have P1 := hide (PIn.next (by first | exact P1.out | exact P1.out.drew) b3); clear b3)
      | (go_at_call 91; refine Calls.mono (specSealed pa _ (by omega)) ?_; rintro e w4 ⟨rfl, b4⟩; have P1 := hide (PIn.next (by first | exact P1.out | exact P1.out.drew) b4); clear b4))
    all_goals
      go_wp2
      go_ret2
      exact ⟨by rw [HE.out]; rfl, P1.out.1⟩
  · have HE : Hid (ptRes p = .tuple #[.string ⟨#[]⟩, .bool false]) := if_neg hr
    have HS := hide (spageOk p)
    have hd := dcN (d := p.decR) hr
    obtain ⟨k, s, x, q, c, t⟩ := p
    unfold pgVal at *
    simp only at *
    clear hr
    go_enter Tryz.func65, Tryz.ntmps65
    go_wp2_with fail
    refine (HS.out _).mono ?_
    rintro e w1 ⟨rfl, hb1⟩
    rw [hd]
    go_wp2
    go_ret2
    exact ⟨by rw [HE.out]; rfl, HB.out.trans (hb1.mono HB.out.size)⟩
end Go.Proofs.YtfmnaidhfgmemaaGreatDoor

namespace Go.Proofs.YtfmnaidhfgmemaaGreatDoor
open Go.RowKit
open Words Sums
theorem idx0 (a b c d : Int) (w : World) : (Instr.index 192 (.agg #[.int .i64 a, .int .i64 b, .int .i64 c, .int .i64 d]) (.int .i64 0)).run Tryz.prog w = .ok (.int .i64 a) w := by
  simp [Instr.index, run_underlying Tryz.underlying192, asIntOf, go_sem]
theorem idx1 (a b c d : Int) (w : World) : (Instr.index 192 (.agg #[.int .i64 a, .int .i64 b, .int .i64 c, .int .i64 d]) (.int .i64 1)).run Tryz.prog w = .ok (.int .i64 b) w := by
  simp [Instr.index, run_underlying Tryz.underlying192, asIntOf, go_sem]
theorem idx2 (a b c d : Int) (w : World) : (Instr.index 192 (.agg #[.int .i64 a, .int .i64 b, .int .i64 c, .int .i64 d]) (.int .i64 2)).run Tryz.prog w = .ok (.int .i64 c) w := by
  simp [Instr.index, run_underlying Tryz.underlying192, asIntOf, go_sem]
theorem idx3 (a b c d : Int) (w : World) : (Instr.index 192 (.agg #[.int .i64 a, .int .i64 b, .int .i64 c, .int .i64 d]) (.int .i64 3)).run Tryz.prog w = .ok (.int .i64 d) w := by
  simp [Instr.index, run_underlying Tryz.underlying192, asIntOf, go_sem]
set_option maxHeartbeats 1000000 in
set_option maxRecDepth 100000 in
theorem ipageText (p : Pg) (w : World) (ht : HalvIn w) :
    Calls Tryz.prog 109 #[pgVal p] w fun e w' => e = .returned (ptRes p) ∧ Below w.heap.size w w' := by
  have HT := hide ht
  clear ht
  have HB := hide ((Below.refl w.heap.size w).alloc (Nat.le_refl _) (.cells #[.int .i64 p.kind, .int .i64 p.seq, .int .i64 p.tx, .int .i64 p.part, .int .i64 p.count, .string p.text] 92))
  by_cases hr : p.Right
  · have HE : Hid (ptRes p = .tuple #[.string (sealA (pageA p)), .bool true]) := if_pos hr
    have hz := pageA_size p hr
    have HS := hide (ipageOk p)
    have hr' := hr
    obtain ⟨r1, r2, r3, r4, r5, r6⟩ := hr'
    have HP : Hid (pageA p = ((((byteA p.kind.toNat ++ varA p.seq.toNat) ++ varA p.tx.toNat) ++ varA p.part.toNat) ++ varA p.count.toNat) ++ p.text) := rfl
    have hd := dcY (d := p.decR) hr
    obtain ⟨k, s, x, q, c, t⟩ := p
    unfold pgVal at *
    simp only at *
    obtain ⟨k, rfl, ek⟩ := i_nat (show 0 ≤ k by omega)
    obtain ⟨s, rfl, es⟩ := i_nat (show 0 ≤ s by omega)
    obtain ⟨x, rfl, ex⟩ := i_nat (show 0 ≤ x by omega)
    obtain ⟨q, rfl, eq⟩ := i_nat (show 0 ≤ q by omega)
    obtain ⟨c, rfl, ec⟩ := i_nat (show 0 ≤ c by omega)
    rw [ek, es, ex, eq, ec] at HP
    clear ek es ex eq ec
    obtain ⟨b0, B0⟩ : ∃ b, b = byteA k := ⟨_, rfl⟩
    obtain ⟨v1, V1⟩ : ∃ b, b = varA s := ⟨_, rfl⟩
    obtain ⟨v2, V2⟩ : ∃ b, b = varA x := ⟨_, rfl⟩
    obtain ⟨v3, V3⟩ : ∃ b, b = varA q := ⟨_, rfl⟩
    obtain ⟨v4, V4⟩ : ∃ b, b = varA c := ⟨_, rfl⟩
    have C1 := hide (fun w => implVar_yes s w (by omega))
    change Hid (∀ w, Calls Tryz.prog 136 #[.int .i64 s] w fun e w' => e = .returned (.tuple #[.string (varA s), .bool true]) ∧ Below w.heap.size w w') at C1
    rw [← V1] at C1 HP
    have C2 := hide (fun w => implVar_yes x w (by omega))
    change Hid (∀ w, Calls Tryz.prog 136 #[.int .i64 x] w fun e w' => e = .returned (.tuple #[.string (varA x), .bool true]) ∧ Below w.heap.size w w') at C2
    rw [← V2] at C2 HP
    have C3 := hide (fun w => implVar_yes q w (by omega))
    change Hid (∀ w, Calls Tryz.prog 136 #[.int .i64 q] w fun e w' => e = .returned (.tuple #[.string (varA q), .bool true]) ∧ Below w.heap.size w w') at C3
    rw [← V3] at C3 HP
    have C4 := hide (fun w => implVar_yes c w (by omega))
    change Hid (∀ w, Calls Tryz.prog 136 #[.int .i64 c] w fun e w' => e = .returned (.tuple #[.string (varA c), .bool true]) ∧ Below w.heap.size w w') at C4
    rw [← V4] at C4 HP
    rw [← B0] at HP
    clear V1 V2 V3 V4
    have BK := hide B0
    clear B0
    obtain ⟨pa, hpa⟩ : ∃ b, b = pageA ⟨k, s, x, q, c, t⟩ := ⟨_, rfl⟩
    rw [← hpa] at hz HP HE
    clear hpa hr
    obtain ⟨u1, U1⟩ : ∃ u, b0 ++ v1 = u := ⟨_, rfl⟩
    rw [U1] at HP
    obtain ⟨u2, U2⟩ : ∃ u, u1 ++ v2 = u := ⟨_, rfl⟩
    rw [U2] at HP
    obtain ⟨u3, U3⟩ : ∃ u, u2 ++ v3 = u := ⟨_, rfl⟩
    rw [U3] at HP
    obtain ⟨u4, U4⟩ : ∃ u, u3 ++ v4 = u := ⟨_, rfl⟩
    rw [U4] at HP
    have U5 : u4 ++ t = pa := HP.out.symm
    have z1 := congrArg ByteArray.size U1
    have z2 := congrArg ByteArray.size U2
    have z3 := congrArg ByteArray.size U3
    have z4 := congrArg ByteArray.size U4
    have z5 := congrArg ByteArray.size U5
    rw [ByteArray.size_append] at z1 z2 z3 z4 z5
    have y1 : b0.size + v1.size ≤ 9223372036854775807 := by omega
    have y2 : u1.size + v2.size ≤ 9223372036854775807 := by omega
    have y3 : u2.size + v3.size ≤ 9223372036854775807 := by omega
    have y4 : u3.size + v4.size ≤ 9223372036854775807 := by omega
    have y5 : u4.size + t.size ≤ 9223372036854775807 := by omega
    clear z1 z2 z3 z4 z5 HP
    have hk : k < 256 := by omega
    have ew : IntKind.u8.wrap (k : Int) = k := by rw [IntKind.wrap_u8]; omega
    go_enter Tryz.func109, Tryz.ntmps109
    go_wp2_with fail
    refine (HS.out _).mono ?_
    rintro e w1 ⟨rfl, hb1⟩
    rw [hd]
    obtain ⟨c0, c1, c2, c3, c4, c5⟩ := cell_new6 _ _ _ _ _ _ _ _ _ hb1
    have P1 : Hid (PIn w w1 k s x q c t) := ⟨HB.out.trans (hb1.mono HB.out.size), Nat.lt_of_lt_of_le (by simp) hb1.size, c0, c1, c2, c3, c4, c5⟩
    clear hb1 HB hd HS
    have hcv := run_convert_bytes_back (P := Tryz.prog) (w1.alloc (.cells #[Value.int .u8 k] 5)) 110 9 5 ⟨w1.heap.size, 0, none⟩ 1 [UInt8.ofNat k] Tryz.underlying110 Tryz.underlying5 Tryz.underlying9 (fun j hj => by
      match j, hj with
      | 0, _ => simp [Addr.add]; omega)
    rw [show [UInt8.ofNat k].length = 1 from rfl] at hcv
    have E : Hid (byteA k = ByteArray.mk [UInt8.ofNat k].toArray) := rfl
    generalize ByteArray.mk [UInt8.ofNat k].toArray = r at hcv E
    have P2 := hide (P1.out.next ((Below.refl _ _).alloc (Nat.le_refl _) (.cells #[Value.int .u8 k] 5)))
    obtain ⟨d0, d1, d2, d3, d4, d5⟩ := P2.out.2.2
    have er : r = b0 := by rw [BK.out, E.out]
    subst er
    clear r1 r2 r3 r4 r5 E BK P1 hk
    go_wp2
    go_loopw [4, 26] (fun tv iv wr => ∃ (i : Nat) (a : ByteArray), tv = .string a ∧ iv = .int .i64 i ∧ Hid (i = 0 ∧ a = r ∨ i = 1 ∧ a = u1 ∨ i = 2 ∧ a = u2 ∨ i = 3 ∧ a = u3 ∨ i = 4 ∧ a = u4) ∧ Hid (PIn w wr k s x q c t)) (fun _ iv _ => 4 - (intOf iv).toNat)
    case atStart => exact ⟨0, r, rfl, rfl, .inl ⟨rfl, rfl⟩, P2⟩
    case round =>
      obtain ⟨i, a, rfl, rfl, hi, PR⟩ := hrel
      clear P2 d0 d1 d2 d3 d4 d5 c0 c1 c2 c3 c4 c5 hcv
      rcases hi.out with ⟨rfl, rfl⟩ | ⟨rfl, rfl⟩ | ⟨rfl, rfl⟩ | ⟨rfl, rfl⟩ | ⟨rfl, rfl⟩
      · clear hi
        have hx := idx0 s x q c
        go_wp2_with fail
        refine (C1.out _).mono ?_
        rintro e w3 ⟨rfl, b3⟩
        have P3 := hide (PR.out.next b3)
        clear b3 PR
        go_wp2
        go_roundw
        case rel => exact ⟨1, u1, rfl, rfl, .inr (.inl ⟨rfl, rfl⟩), P3⟩
        case measure => simp [intOf]
      · clear hi
        have hx := idx1 s x q c
        go_wp2_with fail
        refine (C2.out _).mono ?_
        rintro e w3 ⟨rfl, b3⟩
        have P3 := hide (PR.out.next b3)
        clear b3 PR
        go_wp2
        go_roundw
        case rel => exact ⟨2, u2, rfl, rfl, .inr (.inr (.inl ⟨rfl, rfl⟩)), P3⟩
        case measure => simp [intOf]
      · clear hi
        have hx := idx2 s x q c
        go_wp2_with fail
        refine (C3.out _).mono ?_
        rintro e w3 ⟨rfl, b3⟩
        have P3 := hide (PR.out.next b3)
        clear b3 PR
        go_wp2
        go_roundw
        case rel => exact ⟨3, u3, rfl, rfl, .inr (.inr (.inr (.inl ⟨rfl, rfl⟩))), P3⟩
        case measure => simp [intOf]
      · clear hi
        have hx := idx3 s x q c
        go_wp2_with fail
        refine (C4.out _).mono ?_
        rintro e w3 ⟨rfl, b3⟩
        have P3 := hide (PR.out.next b3)
        clear b3 PR
        go_wp2
        go_roundw
        case rel => exact ⟨4, u4, rfl, rfl, .inr (.inr (.inr (.inr (⟨rfl, rfl⟩)))), P3⟩
        case measure => simp [intOf]
      · clear hi
        obtain ⟨f0, f1, f2, f3, f4, f5⟩ := PR.out.2.2
        go_wp2_with fail
        refine (sealed_any pa _ (by omega) (HT.out.on PR.out.1)).mono ?_
        rintro e w3 ⟨rfl, b3⟩
        have P3 := hide (PR.out.next b3)
        clear b3 PR
        go_wp2
        go_ret2
        exact ⟨by rw [HE.out]; rfl, P3.out.1⟩
  · have HE : Hid (ptRes p = .tuple #[.string ⟨#[]⟩, .bool false]) := if_neg hr
    have HS := hide (ipageOk p)
    have hd := dcN (d := p.decR) hr
    obtain ⟨k, s, x, q, c, t⟩ := p
    unfold pgVal at *
    simp only at *
    clear hr
    go_enter Tryz.func109, Tryz.ntmps109
    go_wp2_with fail
    refine (HS.out _).mono ?_
    rintro e w1 ⟨rfl, hb1⟩
    rw [hd]
    go_wp2
    go_ret2
    exact ⟨by rw [HE.out]; rfl, HB.out.trans (hb1.mono HB.out.size)⟩
end Go.Proofs.YtfmnaidhfgmemaaGreatDoor
