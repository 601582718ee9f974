/-
  The draw of a spoilt text.
-/
import Derived.Test.YtcjgjkejhkhknabD2t
import Derived.Deep.RegionHeld3
import Derived.Deep.QuietTactic
import Derived.BigQuiet
import Derived.Laws.DeepStrings4
import Derived.Lib.Strings
import Derived.WalkSmall
namespace Go.Proofs.Ytcjgjkejhkhknab
open Go.RowKit

theorem add_str (a b : ByteArray) (h : a.size + b.size ≤ 1000000) (W : World) : (Go.Op.stringOp .add a b).run Try.prog W = .ok (.string (a ++ b)) W := by
  unfold Go.Op.stringOp
  simp only []
  rw [if_neg (by show ¬ _ > (9223372036854775807 : Int); omega)]
  rfl
theorem textK_any (p : Nat) (ad : Option Addr) (len cap B : Nat) (w : World) (hl : len ≤ 1048576) (hc : CurIn w p ad len cap) (hd : CodeIn w ad len B) (hB : B ≤ p) :
    Calls Try.prog 31 #[.pointer (some ⟨p, 0, none⟩), .int .i64 1] w fun e w' => ∃ t : ByteArray, e = .returned (.string t) ∧ t.size ≤ 1 ∧ Hid (Drawn w w' p ad len cap) := by
  refine (text_any 1 p ad len cap B w hl hc hd hB).mono ?_
  rintro e w' ⟨t, rfl, h1, h2, D⟩
  have : (⟨t.toArray⟩ : ByteArray).size = t.length := by show t.toArray.size = _; simp
  exact ⟨⟨t.toArray⟩, rfl, by rw [this]; omega, D⟩

set_option maxHeartbeats 1000000 in
set_option maxRecDepth 100000 in
theorem spoilt_any (s : ByteArray) (p : Nat) (ad : Option Addr) (len cap B : Nat) (w : World) (hs : s.size ≤ 1000) (hl : len ≤ 1048576) (hc : CurIn w p ad len cap) (hd : CodeIn w ad len B) (hB : B ≤ p) :
    Calls Try.prog 24 #[.pointer (some ⟨p, 0, none⟩), .string s] w fun e w' => ∃ t : ByteArray, e = .returned (.string t) ∧ t.size ≤ 3000 ∧ Drawn w w' p ad len cap := by
  have hpw := hc.2.2.2.2.2
  have HC := hide hc
  have HD := hide hd
  clear hc hd
  go_enter Try.func24, Try.ntmps24
  go_wp2_with fail
  refine (below_any 12 p ad len cap B _ (by omega) hl HC.out HD.out hB).mono ?_
  rintro e w1 ⟨x, rfl, x0, x1, _, D1⟩
  have HR1 := hide D1
  have HD1 := hide (D1.code HD.out hB hpw)
  clear D1 x1
  by_cases h0 : (x == 0) = true
  · go_wp2_with fail
    refine (textK_any p ad len cap B _ hl HR1.out.2 HD1.out hB).mono ?_
    rintro e w2 ⟨t, rfl, ht, D2⟩
    have HR2 := hide (HR1.out.trans D2.out)
    clear D2 HR1
    go_wp2
    go_ret
    exact ⟨s ++ t, rfl, (by rw [ByteArray.size_append]; omega), HR2.out⟩
  · have h0f : (x == 0) = false := by simpa using h0
    by_cases h1 : (x == 1) = true
    · go_wp2_with fail
      refine (below_any _ p ad len cap B _ (by omega) hl HR1.out.2 HD1.out hB).mono ?_
      rintro e w2 ⟨y, rfl, y0, y1, _, D2⟩
      have y2 := y1 (by omega)
      obtain ⟨j, rfl⟩ := Int.eq_ofNat_of_zero_le y0
      have HR2 := hide (HR1.out.trans D2)
      have hsl : ∀ W, (Instr.slice 9 (.string s) none (some (.int .i64 (j : Int))) none).run Try.prog W = .ok (.string (s.extract 0 j)) W := fun W => by
        rw [run_slice_string_to_if W 9 s .i64 _ Try.underlying9, if_pos (by omega)]
        rfl
      have hes : (s.extract 0 j).size ≤ 3000 := by rw [ByteArray.size_extract]; omega
      obtain ⟨u, hu⟩ : ∃ u, s.extract 0 j = u := ⟨_, rfl⟩
      rw [hu] at hsl hes
      clear D2 HR1 y1 hu
      go_wp2
      go_ret
      exact ⟨u, rfl, hes, HR2.out⟩
    · have h1f : (x == 1) = false := by simpa using h1
      by_cases h23 : (x == 2) = true ∨ (x == 3) = true
      · by_cases hs0 : (0 : Int) < s.size
        · have hrest : ∀ W (D : Hid (Drawn w W p ad len cap)), True := fun _ _ => trivial
          have goal : ∀ (y : Nat), (y : Int) < s.size → ∃ u v : ByteArray, u.size ≤ 1000 ∧ v.size ≤ 1000 ∧ (∀ W, (Instr.slice 9 (.string s) none (some (.int .i64 (y : Int))) none).run Try.prog W = .ok (.string u) W) ∧ (∀ W, (Instr.slice 9 (.string s) (some (.int .i64 ((y : Int) + 1))) none none).run Try.prog W = .ok (.string v) W) := by
            intro y hy
            refine ⟨s.extract 0 y, s.extract (y + 1) s.size, by rw [ByteArray.size_extract]; omega, by rw [ByteArray.size_extract]; omega, fun W => ?_, fun W => ?_⟩
            · rw [run_slice_string_to_if W 9 s .i64 _ Try.underlying9, if_pos (by omega)]
              rfl
            · rw [run_slice_string_from_if W 9 s .i64 _ Try.underlying9, if_pos (by omega)]
              congr 3
          have HG := hide goal
          clear goal hrest
          rcases h23 with h2 | h3
          · go_wp2_with fail
            refine (below_any _ p ad len cap B _ (by omega) hl HR1.out.2 HD1.out hB).mono ?_
            rintro e w2 ⟨y, rfl, y0, y1, _, D2⟩
            have y2 := y1 (by omega)
            obtain ⟨j, rfl⟩ := Int.eq_ofNat_of_zero_le y0
            obtain ⟨u, v, hu, hv, s1, s2⟩ := HG.out j y2
            have HR2 := hide (HR1.out.trans D2)
            have w1j : IntKind.i64.wrap ((j : Int) + 1) = (j : Int) + 1 := by rw [IntKind.wrap_i64]; omega
            have CT : Hid (Calls Try.prog 31 #[.pointer (some ⟨p, 0, none⟩), .int .i64 1] w2.drew fun e w' => ∃ t : ByteArray, e = .returned (.string t) ∧ t.size ≤ 1 ∧ Hid (Drawn w w' p ad len cap)) := by
              have hD : Drawn w w2.drew p ad len cap := HR2.out.below ((Below.refl _ _).drew) hpw
              refine (textK_any p ad len cap B _ hl hD.2 (hD.code HD.out hB hpw) hB).mono ?_
              rintro e w' ⟨t, rfl, ht, D⟩
              exact ⟨t, rfl, ht, hD.trans D.out⟩
            clear D2 HR1 y1 HG
            go_wp2
            go_region_held3 (fun _ => True) (trivial) ((go_at_call 31; (with_reducible refine Calls.mono CT.out ?_); rintro e w3 ⟨t, rfl, ht, HR3⟩; have a1 := add_str u t (by omega); have a2 := add_str (u ++ t) v (by rw [ByteArray.size_append]; omega)))
            all_goals
              go_wp2
              go_ret
              exact ⟨u ++ t ++ v, rfl, (by rw [ByteArray.size_append, ByteArray.size_append]; omega), HR3.out⟩
          · have h2f : (x == 2) = false := by simp at h3 ⊢; omega
            go_wp2_with fail
            refine (below_any _ p ad len cap B _ (by omega) hl HR1.out.2 HD1.out hB).mono ?_
            rintro e w2 ⟨y, rfl, y0, y1, _, D2⟩
            have y2 := y1 (by omega)
            obtain ⟨j, rfl⟩ := Int.eq_ofNat_of_zero_le y0
            obtain ⟨u, v, hu, hv, s1, s2⟩ := HG.out j y2
            have HR2 := hide (HR1.out.trans D2)
            have w1j : IntKind.i64.wrap ((j : Int) + 1) = (j : Int) + 1 := by rw [IntKind.wrap_i64]; omega
            have CT : Hid (Calls Try.prog 31 #[.pointer (some ⟨p, 0, none⟩), .int .i64 1] w2.drew fun e w' => ∃ t : ByteArray, e = .returned (.string t) ∧ t.size ≤ 1 ∧ Hid (Drawn w w' p ad len cap)) := by
              have hD : Drawn w w2.drew p ad len cap := HR2.out.below ((Below.refl _ _).drew) hpw
              refine (textK_any p ad len cap B _ hl hD.2 (hD.code HD.out hB hpw) hB).mono ?_
              rintro e w' ⟨t, rfl, ht, D⟩
              exact ⟨t, rfl, ht, hD.trans D.out⟩
            clear D2 HR1 y1 HG
            go_wp2
            go_region_held3 (fun _ => True) (trivial) ((go_at_call 31; (with_reducible refine Calls.mono CT.out ?_); rintro e w3 ⟨t, rfl, ht, HR3⟩; have a1 := add_str u t (by omega); have a2 := add_str (u ++ t) v (by rw [ByteArray.size_append]; omega)))
            all_goals
              go_wp2
              go_ret
              exact ⟨u ++ t ++ v, rfl, (by rw [ByteArray.size_append, ByteArray.size_append]; omega), HR3.out⟩
        · rcases h23 with h2 | h3
          · go_wp2
            go_ret
            exact ⟨s, rfl, by omega, HR1.out⟩
          · have h2f : (x == 2) = false := by simp at h3 ⊢; omega
            go_wp2
            go_ret
            exact ⟨s, rfl, by omega, HR1.out⟩
      · have h2f : (x == 2) = false := by simpa using fun h => h23 (Or.inl h)
        have h3f : (x == 3) = false := by simpa using fun h => h23 (Or.inr h)
        go_wp2
        go_ret
        exact ⟨s, rfl, by omega, HR1.out⟩
end Go.Proofs.Ytcjgjkejhkhknab
