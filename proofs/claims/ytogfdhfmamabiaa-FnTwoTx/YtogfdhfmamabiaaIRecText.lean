/-
  impl.RecText.
-/
import Derived.Test.YtogfdhfmamabiaaIRecOk
import Derived.Test.YtogfdhfmamabiaaPk13
import Derived.Test.YtogfdhfmamabiaaPk12
namespace Go.Proofs.Ytogfdhfmamabiaa
open Go.RowKit
open Words

set_option maxHeartbeats 1000000 in
set_option maxRecDepth 100000 in
theorem irecText (r : Rc) (w : World) :
    Calls Try.prog 53 #[rcVal r] w fun e w' => e = .returned (rtRes r) ∧ Below w.heap.size w w' := by
  have HB := hide ((Below.refl w.heap.size w).alloc (Nat.le_refl _) (.cells #[.int .i64 r.kind, .int .i64 r.vol, .int .i64 r.arg, .int .i64 r.chunk] 34))
  by_cases hr : r.Right
  · have HE : Hid (rtRes r = .tuple #[.string (recA r), .bool true]) := if_pos hr
    have hz := recA_size r hr
    have HS := hide (irecOk r)
    have hr' := hr
    obtain ⟨r1, r2⟩ := hr'
    have HP : Hid (recA r = (byteA (16 * r.kind + r.vol).toNat ++ varA r.arg.toNat) ++ varA r.chunk.toNat) := rfl
    have hd := dcY (d := r.decR) hr
    obtain ⟨k, v, x, c⟩ := r
    unfold rcVal at *
    simp only at *
    obtain ⟨k, rfl, -⟩ := i_nat (show 0 ≤ k by omega)
    obtain ⟨v, rfl, -⟩ := i_nat (show 0 ≤ v by omega)
    obtain ⟨x, rfl, ex⟩ := i_nat (show 0 ≤ x by omega)
    obtain ⟨c, rfl, ec⟩ := i_nat (show 0 ≤ c by omega)
    have hk : (16 * (k : Int) + (v : Int)).toNat = 16 * k + v := by omega
    have kb : k ≤ 5 := by omega
    have vb : v ≤ 9 := by omega
    have ew1 : IntKind.i64.wrap ((k : Int) * 16) = (k : Int) * 16 := by rw [IntKind.wrap_i64]; omega
    have ew2 : IntKind.i64.wrap ((k : Int) * 16 + (v : Int)) = ((16 * k + v : Nat) : Int) := by rw [IntKind.wrap_i64]; omega
    have ew4 : (k : Int) * 16 + (v : Int) = ((16 * k + v : Nat) : Int) := by omega
    have ew3 : IntKind.u8.wrap ((16 * k + v : Nat) : Int) = ((16 * k + v : Nat) : Int) := by rw [IntKind.wrap_u8]; omega
    obtain ⟨b, hb⟩ : ∃ b, b = 16 * k + v := ⟨_, rfl⟩
    rw [hk, ex, ec, ← hb] at HP
    rw [← hb] at ew2 ew3 ew4
    have hb9 : b < 256 := by omega
    clear ex ec hk
    obtain ⟨b0, B0⟩ : ∃ z, z = byteA b := ⟨_, rfl⟩
    obtain ⟨v1, V1⟩ : ∃ z, z = varA x := ⟨_, rfl⟩
    obtain ⟨v2, V2⟩ : ∃ z, z = varA c := ⟨_, rfl⟩
    have HV : Hid (∀ W : World, (convert 22 9 (.slice (some ⟨W.heap.size, 0, none⟩) 1 1)).run Try.prog (W.alloc (.cells #[Value.int .u8 b] 5)) = .ok (.string b0) (W.alloc (.cells #[Value.int .u8 b] 5))) := by
      intro W
      rw [B0]
      have hcv := run_convert_bytes_back (P := Try.prog) (W.alloc (.cells #[Value.int .u8 b] 5)) 22 9 5 ⟨W.heap.size, 0, none⟩ 1 [UInt8.ofNat b] Try.underlying22 Try.underlying5 Try.underlying9 (fun j hj => by
        match j, hj with
        | 0, _ => simp [Addr.add]; omega)
      exact hcv
    have C1 := hide (fun w => implVar_yes x w (by omega))
    have C2 := hide (fun w => implVar_yes c w (by omega))
    change Hid (∀ w, Calls Try.prog 76 #[.int .i64 x] w fun e w' => e = .returned (.tuple #[.string (varA x), .bool true]) ∧ Below w.heap.size w w') at C1
    change Hid (∀ w, Calls Try.prog 76 #[.int .i64 c] w fun e w' => e = .returned (.tuple #[.string (varA c), .bool true]) ∧ Below w.heap.size w w') at C2
    rw [← B0] at HP
    rw [← V1] at C1 HP
    rw [← V2] at C2 HP
    clear B0 V1 V2 hb
    obtain ⟨pa, hpa⟩ : ∃ z, z = recA ⟨k, v, x, c⟩ := ⟨_, rfl⟩
    rw [← hpa] at hz HP HE
    clear hpa hr r1 r2 kb vb
    obtain ⟨u1, U1⟩ : ∃ u, b0 ++ v1 = u := ⟨_, rfl⟩
    rw [U1] at HP
    have U2 : u1 ++ v2 = pa := HP.out.symm
    have z1 := congrArg ByteArray.size U1
    have z2 := congrArg ByteArray.size U2
    rw [ByteArray.size_append] at z1 z2
    have Y1 : Hid (¬ (9223372036854775807 < b0.size + v1.size)) := by show ¬ _; omega
    have Y2 : Hid (¬ (9223372036854775807 < u1.size + v2.size)) := by show ¬ _; omega
    clear z1 z2 HP
    go_enter Try.func53, Try.ntmps53
    go_wp2_with fail
    refine (HS.out _).mono ?_
    rintro e w1 ⟨rfl, hb1⟩
    rw [hd]
    obtain ⟨c0, c1, c2, c3⟩ := cell_new4 _ _ _ _ _ _ _ hb1
    have P1 : Hid (RIn w w1 k v x c) := ⟨HB.out.trans (hb1.mono HB.out.size), Nat.lt_of_lt_of_le (by simp) hb1.size, c0, c1, c2, c3⟩
    clear hb1 HB hd HS
    go_wp2_with fail
    refine (C1.out _).mono ?_
    rintro e w2 ⟨rfl, b2⟩
    have P2 := hide (P1.out.next b2)
    clear b2 P1 c0 c1 c2 c3
    obtain ⟨c0, c1, c2, c3⟩ := P2.out.2.2
    go_wp2_with fail
    refine (C2.out _).mono ?_
    rintro e w3 ⟨rfl, b3⟩
    have P3 := hide (P2.out.next b3)
    clear b3 P2 c0 c1 c2 c3
    obtain ⟨c0, c1, c2, c3⟩ := P3.out.2.2
    have hv := HV.out w3
    have y1 := Y1.out
    have y2 := Y2.out
    go_wp2
    go_ret2
    exact ⟨by rw [HE.out]; rfl, P3.out.1.alloc P3.out.1.size _⟩
  · have HE : Hid (rtRes r = .tuple #[.string ⟨#[]⟩, .bool false]) := if_neg hr
    have HS := hide (irecOk r)
    have hd := dcN (d := r.decR) hr
    obtain ⟨k, v, x, c⟩ := r
    unfold rcVal at *
    simp only at *
    clear hr
    go_enter Try.func53, Try.ntmps53
    go_wp2_with fail
    refine (HS.out _).mono ?_
    rintro e w1 ⟨rfl, hb1⟩
    rw [hd]
    go_wp2
    go_ret2
    exact ⟨by rw [HE.out]; rfl, HB.out.trans (hb1.mono HB.out.size)⟩
end Go.Proofs.Ytogfdhfmamabiaa
