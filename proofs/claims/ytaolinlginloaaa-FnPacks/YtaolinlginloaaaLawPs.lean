/-
  The walk of the law on what is packed.
-/
import Derived.Test.YtaolinlginloaaaDrawV
import Derived.Test.YtaolinlginloaaaBig
import Derived.Test.YtaolinlginloaaaSUnp
namespace Go.Proofs.Ytaolinlginloaaa
open Go.RowKit
open Pack

theorem BA_eq (l : List UInt8) : ((BA l).toList == (BA l).toList) = true := by simp

set_option maxHeartbeats 2000000 in
set_option maxRecDepth 100000 in
theorem lawPs (ad : Option Addr) (len cap : Nat) (w : World) (hd : CodeIn w ad len w.heap.size) :
    Calls Try.prog 3 #[.slice ad len cap] w fun e w' => e = .returned (.bool true) ∧ Below w.heap.size w w' := by
  have HD := hide hd
  clear hd
  by_cases hbig : (1048576 : Int) < len
  · go_enter Try.func3, Try.ntmps3
    go_wp2_with fail
    refine (big_any ad len cap _).mono ?_
    rintro e w1 ⟨rfl, rfl⟩
    rw [decide_eq_true hbig]
    go_wp2
    go_ret
    exact ⟨rfl, Below.refl _ _⟩
  · have hl : len ≤ 1048576 := by omega
    -- the second half: what is unpacked was packed so
    have half : ∀ (u : List UInt8), u.length ≤ 300 → ∃ (y : List UInt8) (may : Bool) (ag : ByteArray) (aq : Bool), plainV (unpackL u) = .tuple #[.string (BA y), .bool may] ∧ plainV (packL y) = .tuple #[.string ag, .bool aq] ∧ (may = true → (ag.toList == (BA u).toList) = true) := by
      intro u _
      cases hu : unpackL u with
      | none =>
        obtain ⟨ag, aq, h⟩ := plainV_open (packL [])
        exact ⟨[], false, ag, aq, rfl, h, fun h => by cases h⟩
      | some y =>
        have hp := pack_unpack y u hu
        exact ⟨y, true, BA u, true, rfl, by rw [hp]; rfl, fun _ => BA_eq u⟩
    have HH := hide half
    clear half
    go_enter Try.func3, Try.ntmps3
    go_wp2_with fail
    refine (big_any ad len cap _).mono ?_
    rintro e w1 ⟨rfl, rfl⟩
    rw [decide_eq_false (show ¬ (1048576 : Int) < len by omega)]
    go_wp2_with fail
    refine (drawPack_any ad len cap _ hl HD.out).mono ?_
    rintro e w2 ⟨t, rfl, ht, hb⟩
    have HB2 := hide hb
    obtain ⟨s, rfl⟩ : ∃ s, t = BA s := ⟨t.data.toList, rfl⟩
    have hbs := BA_size s
    rw [hbs] at ht
    clear hb
    go_wp2_with fail
    refine (ipack_any (BA s) _).mono ?_
    rintro e w3 ⟨rfl, hb⟩
    have HB3 := hide (HB2.out.trans (hb.mono HB2.out.size))
    rw [BA_list]
    clear hb HB2
    have HS := hide (spack_any (BA s))
    rw [BA_list] at HS
    cases hp : packL s with
    | none =>
      rw [hp] at HS
      rw [plainV_none]
      have hE : (⟨#[]⟩ : ByteArray) = BA [] := rfl
      have HU0 : Hid (plainV (unpackL []) = .tuple #[.string ⟨#[]⟩, .bool false]) := rfl
      go_wp2_with fail
      refine (iunp_any [] _ (by simp)).mono ?_
      rintro e w4 ⟨rfl, hb⟩
      have HB4 := hide (HB3.out.trans (hb.mono HB3.out.size))
      rw [HU0.out]
      clear hb HB3 hp hE
      go_wp2_with fail
      refine (HS.out _).mono ?_
      rintro e w5 ⟨rfl, hb⟩
      have HB5 := hide (HB4.out.trans (hb.mono HB4.out.size))
      rw [plainV_none]
      clear hb HB4 HS
      have HD5 := hide (HD.out.on HB5.out (Nat.le_refl _))
      have HDW := hide (drawUnp_any ad len cap _ hl (code_upV HD5.out HB5.out.size))
      go_wp2_with fail
      refine HDW.out.mono ?_
      rintro e w6 ⟨t, rfl, ht6, hb⟩
      have HB6 := hide (HB5.out.trans (hb.mono HB5.out.size))
      obtain ⟨u, rfl⟩ : ∃ u, t = BA u := ⟨t.data.toList, rfl⟩
      have hbu := BA_size u
      rw [hbu] at ht6
      obtain ⟨y, may, ag, aq, e1, e2, e3⟩ := HH.out u ht6
      have E1 := hide e1
      have E2 := hide e2
      clear hb HB5 HD5 HDW e1 e2 HH
      go_wp2_with fail
      refine (iunp_any u _ (by omega)).mono ?_
      rintro e w7 ⟨rfl, hb⟩
      have HB7 := hide (HB6.out.trans (hb.mono HB6.out.size))
      rw [E1.out]
      clear hb HB6
      go_wp2_with fail
      refine (sunp_any u _ (by omega)).mono ?_
      rintro e w8 ⟨rfl, hb⟩
      have HB8 := hide (HB7.out.trans (hb.mono HB7.out.size))
      rw [E1.out]
      clear hb HB7
      go_wp2_with fail
      refine (ipack_any (BA y) _).mono ?_
      rintro e w9 ⟨rfl, hb⟩
      have HB9 := hide (HB8.out.trans (hb.mono HB8.out.size))
      rw [BA_list, E2.out]
      clear hb HB8 E1 E2
      cases may with
      | true =>
        have e4 := e3 rfl
        clear e3
        go_wp2
        go_ret
        exact ⟨rfl, HB9.out⟩
      | false =>
        clear e3
        go_wp2
        go_ret
        exact ⟨rfl, HB9.out⟩
    | some q =>
      have hq := pack_len s q hp
      have HU0 : Hid (plainV (unpackL q) = .tuple #[.string (BA s), .bool true]) := by show _ = _; rw [unpack_pack s q hp]; rfl
      rw [hp] at HS
      rw [plainV_some]
      have hbq := BA_size q
      have hee := BA_eq s
      have hne : ((BA s).toList != (BA s).toList) = false := by simp
      have hlq : ¬ ((s.length : Int) + 1 < q.length) := by omega
      go_wp2_with fail
      refine (iunp_any q _ (by omega)).mono ?_
      rintro e w4 ⟨rfl, hb⟩
      have HB4 := hide (HB3.out.trans (hb.mono HB3.out.size))
      rw [HU0.out]
      clear hb HB3 hp hq
      go_wp2_with fail
      refine (HS.out _).mono ?_
      rintro e w5 ⟨rfl, hb⟩
      have HB5 := hide (HB4.out.trans (hb.mono HB4.out.size))
      rw [plainV_some]
      clear hb HB4 HS
      have HD5 := hide (HD.out.on HB5.out (Nat.le_refl _))
      have HDW := hide (drawUnp_any ad len cap _ hl (code_upV HD5.out HB5.out.size))
      go_wp2_with fail
      refine HDW.out.mono ?_
      rintro e w6 ⟨t, rfl, ht6, hb⟩
      have HB6 := hide (HB5.out.trans (hb.mono HB5.out.size))
      obtain ⟨u, rfl⟩ : ∃ u, t = BA u := ⟨t.data.toList, rfl⟩
      have hbu := BA_size u
      rw [hbu] at ht6
      obtain ⟨y, may, ag, aq, e1, e2, e3⟩ := HH.out u ht6
      have E1 := hide e1
      have E2 := hide e2
      clear hb HB5 HD5 HDW e1 e2 HH
      go_wp2_with fail
      refine (iunp_any u _ (by omega)).mono ?_
      rintro e w7 ⟨rfl, hb⟩
      have HB7 := hide (HB6.out.trans (hb.mono HB6.out.size))
      rw [E1.out]
      clear hb HB6
      go_wp2_with fail
      refine (sunp_any u _ (by omega)).mono ?_
      rintro e w8 ⟨rfl, hb⟩
      have HB8 := hide (HB7.out.trans (hb.mono HB7.out.size))
      rw [E1.out]
      clear hb HB7
      go_wp2_with fail
      refine (ipack_any (BA y) _).mono ?_
      rintro e w9 ⟨rfl, hb⟩
      have HB9 := hide (HB8.out.trans (hb.mono HB8.out.size))
      rw [BA_list, E2.out]
      clear hb HB8 E1 E2
      cases may with
      | true =>
        have e4 := e3 rfl
        clear e3
        go_wp2
        go_ret
        exact ⟨rfl, HB9.out⟩
      | false =>
        clear e3
        go_wp2
        go_ret
        exact ⟨rfl, HB9.out⟩
end Go.Proofs.Ytaolinlginloaaa
