/-
  The draw of a text to be unpacked.
-/
import Derived.Test.YtaolinlginloaaaDrawU
namespace Go.Proofs.Ytaolinlginloaaa
open Go.RowKit
open Pack

theorem code_upV {w : World} {ad : Option Addr} {len B C : Nat} (h : CodeIn w ad len B) (hB : B ≤ C) : CodeIn w ad len C := by
  intro j hj
  obtain ⟨b, off, h1, h2, c⟩ := h j hj
  exact ⟨b, off, h1, by omega, c⟩
theorem packV_size (l : List UInt8) (hl : l.length ≤ 65) : ∃ (p : ByteArray) (q : Bool), plainV (packL l) = .tuple #[.string p, .bool q] ∧ p.size ≤ 66 := by
  cases h : packL l with
  | none => exact ⟨_, _, rfl, by decide⟩
  | some o =>
    have h1 := pack_len l o h
    refine ⟨_, _, rfl, ?_⟩
    show o.toArray.size ≤ 66
    simp
    omega

set_option maxHeartbeats 1000000 in
set_option maxRecDepth 100000 in
theorem drawUnp_any (ad : Option Addr) (len cap : Nat) (w : World) (hl : len ≤ 1048576) (hd : CodeIn w ad len w.heap.size) :
    Calls Try.prog 14 #[.slice ad len cap] w fun e w' => ∃ t : ByteArray, e = .returned (.string t) ∧ t.size ≤ 300 ∧ Below w.heap.size w w' := by
  have HD := hide hd
  clear hd
  go_enter Try.func14, Try.ntmps14
  go_wp2_with fail
  refine (new_any ad len cap w.heap.size _ hl HD.out).mono ?_
  rintro e w1 ⟨p, rfl, hp, hc, hb⟩
  have HC := hide hc
  have hs := hb.size
  have hpw := hc.2.2.2.2.2
  have HB := hide hb
  have HD1 := hide (HD.out.on hb (Nat.le_refl _))
  clear hc hb
  go_wp2_with fail
  refine (anyK_any p ad len cap w.heap.size _ hl HC.out HD1.out hp).mono ?_
  rintro e w2 ⟨t, rfl, ht, D2⟩
  have HR2 := hide D2
  have hs2 := D2.1.size
  clear D2
  go_wp2_with fail
  refine (spack_any t _).mono ?_
  rintro e w3 ⟨rfl, hb3⟩
  have HR3 := hide (HR2.out.below (hb3.mono hs2) hpw)
  have HD3 := hide (HR3.out.code HD1.out hp hpw)
  obtain ⟨s, q, hsq, hs66⟩ := packV_size t.data.toList (by simpa using ht)
  rw [hsq]
  clear hb3 HR2 hsq
  go_wp2_with fail
  refine (below_any 5 p ad len cap w.heap.size _ (by omega) hl HR3.out.2 HD3.out hp).mono ?_
  rintro e w4 ⟨x, rfl, x0, x1, _, D4⟩
  have HR4 := hide (HR3.out.trans D4)
  have HD4 := hide (HR4.out.code HD1.out hp hpw)
  have HB4 := hide (HB.out.trans (grown_below HR4.out.1 hp hs))
  have hs4 := HB4.out.size
  have hs41 := HR4.out.1.size
  clear D4 HR3 HD3 x1
  by_cases h0 : (x == 0) = true
  · go_wp2_with fail
    refine (spoilt_anyU s p ad len cap w.heap.size _ (by omega) hl HR4.out.2 HD4.out hp).mono ?_
    rintro e w5 ⟨u, rfl, hu, D5⟩
    have HB5 := hide (HB4.out.trans (grown_below D5.1 hp hs4))
    clear D5
    go_wp2
    go_ret
    exact ⟨u, rfl, hu, HB5.out⟩
  · have h0f : (x == 0) = false := by simpa using h0
    by_cases h1 : (x == 1) = true
    · have hne : w4.heap.size ≠ p := by omega
      have HRA := hide (HR4.out.below (w2 := w4.alloc (.cells #[.string ⟨#[]⟩, .string ⟨#[114]⟩, .string ⟨#[122]⟩, .string ⟨#[113]⟩, .string ⟨#[122, 1, 97]⟩, .string ⟨#[114, 120, 120, 120, 120, 120, 120, 120, 120]⟩, .string ⟨#[122, 132, 1]⟩] 9)) ((Below.refl _ _).alloc hs41 _) hpw)
      have HDA := hide (HRA.out.code HD1.out hp hpw)
      have HBA := hide (HB4.out.alloc hs4 (.cells #[.string ⟨#[]⟩, .string ⟨#[114]⟩, .string ⟨#[122]⟩, .string ⟨#[113]⟩, .string ⟨#[122, 1, 97]⟩, .string ⟨#[114, 120, 120, 120, 120, 120, 120, 120, 120]⟩, .string ⟨#[122, 132, 1]⟩] 9))
      go_wp2_with fail
      refine (pick_any w4.heap.size [⟨#[]⟩, ⟨#[114]⟩, ⟨#[122]⟩, ⟨#[113]⟩, ⟨#[122, 1, 97]⟩, ⟨#[114, 120, 120, 120, 120, 120, 120, 120, 120]⟩, ⟨#[122, 132, 1]⟩] 9 p ad len cap w.heap.size _ (by decide) (by decide) hne (by decide) (seven_cells w4 _ _ _ _ _ _ _ 9) hl HRA.out.2 HDA.out hp).mono ?_
      rintro e w5 ⟨u, rfl, hu, D5⟩
      have HB5 := hide (HBA.out.trans (grown_below D5.1 hp (by simp; omega)))
      clear D5
      go_wp2
      go_ret
      exact ⟨u, rfl, by omega, HB5.out⟩
    · have h1f : (x == 1) = false := by simpa using h1
      go_wp2
      go_ret
      exact ⟨s, rfl, by omega, HB4.out⟩
end Go.Proofs.Ytaolinlginloaaa
