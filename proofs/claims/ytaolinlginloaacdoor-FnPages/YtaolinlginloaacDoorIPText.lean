/-
  impl.PageText.
-/
import Derived.Test.YtaolinlginloaacDoorPq7
import Derived.Test.YtaolinlginloaacDoorPq3
import Derived.Test.YtaolinlginloaacDoorPq6
namespace Go.Proofs.YtaolinlginloaacDoor
open Go.RowKit
open Words Sums

theorem idx0 (a b c d : Int) (w : World) : (Instr.index 81 (.agg #[.int .i64 a, .int .i64 b, .int .i64 c, .int .i64 d]) (.int .i64 0)).run Tryd.prog w = .ok (.int .i64 a) w := by
  simp [Instr.index, run_underlying Tryd.underlying81, asIntOf, go_sem]
theorem idx1 (a b c d : Int) (w : World) : (Instr.index 81 (.agg #[.int .i64 a, .int .i64 b, .int .i64 c, .int .i64 d]) (.int .i64 1)).run Tryd.prog w = .ok (.int .i64 b) w := by
  simp [Instr.index, run_underlying Tryd.underlying81, asIntOf, go_sem]
theorem idx2 (a b c d : Int) (w : World) : (Instr.index 81 (.agg #[.int .i64 a, .int .i64 b, .int .i64 c, .int .i64 d]) (.int .i64 2)).run Tryd.prog w = .ok (.int .i64 c) w := by
  simp [Instr.index, run_underlying Tryd.underlying81, asIntOf, go_sem]
theorem idx3 (a b c d : Int) (w : World) : (Instr.index 81 (.agg #[.int .i64 a, .int .i64 b, .int .i64 c, .int .i64 d]) (.int .i64 3)).run Tryd.prog w = .ok (.int .i64 d) w := by
  simp [Instr.index, run_underlying Tryd.underlying81, asIntOf, go_sem]

set_option maxHeartbeats 1000000 in
set_option maxRecDepth 100000 in
theorem ipageText (p : Pg) (w : World) (ht : HalvIn w) :
    Calls Tryd.prog 18 #[pgVal p] w fun e w' => e = .returned (ptRes p) ∧ Below w.heap.size w w' := by
  have HT := hide ht
  clear ht
  have HB := hide ((Below.refl w.heap.size w).alloc (Nat.le_refl _) (.cells #[.int .i64 p.kind, .int .i64 p.seq, .int .i64 p.tx, .int .i64 p.part, .int .i64 p.count, .string p.text] 35))
  by_cases hr : p.Right
  · have HE : Hid (ptRes p = .tuple #[.string (sealA (pageA p)), .bool true]) := if_pos hr
    have hz := pageA_size p hr
    have HS := hide (ipageOk p)
    have hr' := hr
    obtain ⟨r1, r2, r3, r4, r5, r6⟩ := hr'
    have HP : Hid (pageA p = ((((byteA p.kind.toNat ++ varA p.seq.toNat) ++ varA p.tx.toNat) ++ varA p.part.toNat) ++ varA p.count.toNat) ++ p.text) := rfl
    have hd := dcY (d := p.decR) hr
    obtain ⟨k, s, x, q, c, t⟩ := p
    unfold pgVal at *
    simp only at *
    obtain ⟨k, rfl, ek⟩ := i_nat (show 0 ≤ k by omega)
    obtain ⟨s, rfl, es⟩ := i_nat (show 0 ≤ s by omega)
    obtain ⟨x, rfl, ex⟩ := i_nat (show 0 ≤ x by omega)
    obtain ⟨q, rfl, eq⟩ := i_nat (show 0 ≤ q by omega)
    obtain ⟨c, rfl, ec⟩ := i_nat (show 0 ≤ c by omega)
    rw [ek, es, ex, eq, ec] at HP
    clear ek es ex eq ec
    obtain ⟨b0, B0⟩ : ∃ b, b = byteA k := ⟨_, rfl⟩
    obtain ⟨v1, V1⟩ : ∃ b, b = varA s := ⟨_, rfl⟩
    obtain ⟨v2, V2⟩ : ∃ b, b = varA x := ⟨_, rfl⟩
    obtain ⟨v3, V3⟩ : ∃ b, b = varA q := ⟨_, rfl⟩
    obtain ⟨v4, V4⟩ : ∃ b, b = varA c := ⟨_, rfl⟩
    have C1 := hide (fun w => implVar_yes s w (by omega))
    change Hid (∀ w, Calls Tryd.prog 49 #[.int .i64 s] w fun e w' => e = .returned (.tuple #[.string (varA s), .bool true]) ∧ Below w.heap.size w w') at C1
    rw [← V1] at C1 HP
    have C2 := hide (fun w => implVar_yes x w (by omega))
    change Hid (∀ w, Calls Tryd.prog 49 #[.int .i64 x] w fun e w' => e = .returned (.tuple #[.string (varA x), .bool true]) ∧ Below w.heap.size w w') at C2
    rw [← V2] at C2 HP
    have C3 := hide (fun w => implVar_yes q w (by omega))
    change Hid (∀ w, Calls Tryd.prog 49 #[.int .i64 q] w fun e w' => e = .returned (.tuple #[.string (varA q), .bool true]) ∧ Below w.heap.size w w') at C3
    rw [← V3] at C3 HP
    have C4 := hide (fun w => implVar_yes c w (by omega))
    change Hid (∀ w, Calls Tryd.prog 49 #[.int .i64 c] w fun e w' => e = .returned (.tuple #[.string (varA c), .bool true]) ∧ Below w.heap.size w w') at C4
    rw [← V4] at C4 HP
    rw [← B0] at HP
    clear V1 V2 V3 V4
    have BK := hide B0
    clear B0
    obtain ⟨pa, hpa⟩ : ∃ b, b = pageA ⟨k, s, x, q, c, t⟩ := ⟨_, rfl⟩
    rw [← hpa] at hz HP HE
    clear hpa hr
    obtain ⟨u1, U1⟩ : ∃ u, b0 ++ v1 = u := ⟨_, rfl⟩
    rw [U1] at HP
    obtain ⟨u2, U2⟩ : ∃ u, u1 ++ v2 = u := ⟨_, rfl⟩
    rw [U2] at HP
    obtain ⟨u3, U3⟩ : ∃ u, u2 ++ v3 = u := ⟨_, rfl⟩
    rw [U3] at HP
    obtain ⟨u4, U4⟩ : ∃ u, u3 ++ v4 = u := ⟨_, rfl⟩
    rw [U4] at HP
    have U5 : u4 ++ t = pa := HP.out.symm
    have z1 := congrArg ByteArray.size U1
    have z2 := congrArg ByteArray.size U2
    have z3 := congrArg ByteArray.size U3
    have z4 := congrArg ByteArray.size U4
    have z5 := congrArg ByteArray.size U5
    rw [ByteArray.size_append] at z1 z2 z3 z4 z5
    have y1 : b0.size + v1.size ≤ 9223372036854775807 := by omega
    have y2 : u1.size + v2.size ≤ 9223372036854775807 := by omega
    have y3 : u2.size + v3.size ≤ 9223372036854775807 := by omega
    have y4 : u3.size + v4.size ≤ 9223372036854775807 := by omega
    have y5 : u4.size + t.size ≤ 9223372036854775807 := by omega
    clear z1 z2 z3 z4 z5 HP
    have hk : k < 256 := by omega
    have ew : IntKind.u8.wrap (k : Int) = k := by rw [IntKind.wrap_u8]; omega
    go_enter Tryd.func18, Tryd.ntmps18
    go_wp2_with fail
    refine (HS.out _).mono ?_
    rintro e w1 ⟨rfl, hb1⟩
    rw [hd]
    obtain ⟨c0, c1, c2, c3, c4, c5⟩ := cell_new6 _ _ _ _ _ _ _ _ _ hb1
    have P1 : Hid (PIn w w1 k s x q c t) := ⟨HB.out.trans (hb1.mono HB.out.size), Nat.lt_of_lt_of_le (by simp) hb1.size, c0, c1, c2, c3, c4, c5⟩
    clear hb1 HB hd HS
    have hcv := run_convert_bytes_back (P := Tryd.prog) (w1.alloc (.cells #[Value.int .u8 k] 5)) 32 9 5 ⟨w1.heap.size, 0, none⟩ 1 [UInt8.ofNat k] Tryd.underlying32 Tryd.underlying5 Tryd.underlying9 (fun j hj => by
      match j, hj with
      | 0, _ => simp [Addr.add]; omega)
    rw [show [UInt8.ofNat k].length = 1 from rfl] at hcv
    have E : Hid (byteA k = ByteArray.mk [UInt8.ofNat k].toArray) := rfl
    generalize ByteArray.mk [UInt8.ofNat k].toArray = r at hcv E
    have P2 := hide (P1.out.next ((Below.refl _ _).alloc (Nat.le_refl _) (.cells #[Value.int .u8 k] 5)))
    obtain ⟨d0, d1, d2, d3, d4, d5⟩ := P2.out.2.2
    have er : r = b0 := by rw [BK.out, E.out]
    subst er
    clear r1 r2 r3 r4 r5 E BK P1 hk
    go_wp2
    go_loopw [4, 26] (fun tv iv wr => ∃ (i : Nat) (a : ByteArray), tv = .string a ∧ iv = .int .i64 i ∧ Hid (i = 0 ∧ a = r ∨ i = 1 ∧ a = u1 ∨ i = 2 ∧ a = u2 ∨ i = 3 ∧ a = u3 ∨ i = 4 ∧ a = u4) ∧ Hid (PIn w wr k s x q c t)) (fun _ iv _ => 4 - (intOf iv).toNat)
    case atStart => exact ⟨0, r, rfl, rfl, .inl ⟨rfl, rfl⟩, P2⟩
    case round =>
      obtain ⟨i, a, rfl, rfl, hi, PR⟩ := hrel
      clear P2 d0 d1 d2 d3 d4 d5 c0 c1 c2 c3 c4 c5 hcv
      rcases hi.out with ⟨rfl, rfl⟩ | ⟨rfl, rfl⟩ | ⟨rfl, rfl⟩ | ⟨rfl, rfl⟩ | ⟨rfl, rfl⟩
      · clear hi
        have hx := idx0 s x q c
        go_wp2_with fail
        refine (C1.out _).mono ?_
        rintro e w3 ⟨rfl, b3⟩
        have P3 := hide (PR.out.next b3)
        clear b3 PR
        go_wp2
        go_roundw
        case rel => exact ⟨1, u1, rfl, rfl, .inr (.inl ⟨rfl, rfl⟩), P3⟩
        case measure => simp [intOf]
      · clear hi
        have hx := idx1 s x q c
        go_wp2_with fail
        refine (C2.out _).mono ?_
        rintro e w3 ⟨rfl, b3⟩
        have P3 := hide (PR.out.next b3)
        clear b3 PR
        go_wp2
        go_roundw
        case rel => exact ⟨2, u2, rfl, rfl, .inr (.inr (.inl ⟨rfl, rfl⟩)), P3⟩
        case measure => simp [intOf]
      · clear hi
        have hx := idx2 s x q c
        go_wp2_with fail
        refine (C3.out _).mono ?_
        rintro e w3 ⟨rfl, b3⟩
        have P3 := hide (PR.out.next b3)
        clear b3 PR
        go_wp2
        go_roundw
        case rel => exact ⟨3, u3, rfl, rfl, .inr (.inr (.inr (.inl ⟨rfl, rfl⟩))), P3⟩
        case measure => simp [intOf]
      · clear hi
        have hx := idx3 s x q c
        go_wp2_with fail
        refine (C4.out _).mono ?_
        rintro e w3 ⟨rfl, b3⟩
        have P3 := hide (PR.out.next b3)
        clear b3 PR
        go_wp2
        go_roundw
        case rel => exact ⟨4, u4, rfl, rfl, .inr (.inr (.inr (.inr (⟨rfl, rfl⟩)))), P3⟩
        case measure => simp [intOf]
      · clear hi
        obtain ⟨f0, f1, f2, f3, f4, f5⟩ := PR.out.2.2
        go_wp2_with fail
        refine (sealed_any pa _ (by omega) (HT.out.on PR.out.1)).mono ?_
        rintro e w3 ⟨rfl, b3⟩
        have P3 := hide (PR.out.next b3)
        clear b3 PR
        go_wp2
        go_ret2
        exact ⟨by rw [HE.out]; rfl, P3.out.1⟩
  · have HE : Hid (ptRes p = .tuple #[.string ⟨#[]⟩, .bool false]) := if_neg hr
    have HS := hide (ipageOk p)
    have hd := dcN (d := p.decR) hr
    obtain ⟨k, s, x, q, c, t⟩ := p
    unfold pgVal at *
    simp only at *
    clear hr
    go_enter Tryd.func18, Tryd.ntmps18
    go_wp2_with fail
    refine (HS.out _).mono ?_
    rintro e w1 ⟨rfl, hb1⟩
    rw [hd]
    go_wp2
    go_ret2
    exact ⟨by rw [HE.out]; rfl, HB.out.trans (hb1.mono HB.out.size)⟩
end Go.Proofs.YtaolinlginloaacDoor
