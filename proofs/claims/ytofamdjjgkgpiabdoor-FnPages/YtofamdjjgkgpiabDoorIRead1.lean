/-
  impl's reader of pages: a byte, a number.
-/
import Derived.Test.YtofamdjjgkgpiabDoorIReader
import Derived.Laws.DeepStrings4
import Derived.Lib.Strings
namespace Go.Proofs.YtofamdjjgkgpiabDoor
open Go.RowKit
open Words Sums

set_option maxHeartbeats 400000 in
set_option maxRecDepth 100000 in
theorem rbyte_yes (s : ByteArray) (i : Nat) (b : UInt8) (g : Nat) (w : World) (hs : s.size ≤ 1048576) (hb : s.data.toList[i]? = some b) (hr : RAt w g s i) :
    Calls Tryd.prog 62 #[.pointer (some ⟨g, 0, none⟩)] w fun e w' => e = .returned (.int .i64 b.toNat) ∧ Moved w w' g s (i + 1 : Nat) := by
  obtain ⟨h1, h2, h3, h4, h5⟩ := id hr
  have R := hide hr
  obtain ⟨hi, hbe⟩ := List.getElem?_eq_some_iff.1 hb
  have hi' : i < s.size := hi
  have hc : s[i].toNat = b.toNat := by rw [← hbe]; rfl
  have hlt : decide ((i : Int) < s.size) = true := by simp; omega
  have k0 : (0 : Int) ≤ i := by omega
  have k1 : (i : Int) < s.size := by omega
  have ew : IntKind.i64.wrap ((i : Int) + 1) = i + 1 := by rw [IntKind.wrap_i64]; omega
  have hb8 : b.toNat < 256 := b.toNat_lt
  generalize b.toNat = c at hc hb8
  have ec : IntKind.i64.wrap (c : Int) = c := by rw [IntKind.wrap_i64]; omega
  clear hr hb hbe hi
  go_enter Tryd.func62, Tryd.ntmps62
  go_wp2
  go_region_held3 (fun w' => w'.cell? ⟨g, 0, none⟩ = some (.string s) ∧ w'.cell? ⟨g, 1, none⟩ = some (.int .i64 i)) (go_keep) ((go_at_call 65; refine (must_yes _ _).mono ?_; rintro e w1 ⟨rfl, rfl⟩))
  go_wp2
  go_region_held3 (fun w' => w'.cell? ⟨g, 0, none⟩ = some (.string s) ∧ w'.cell? ⟨g, 1, none⟩ = some (.int .i64 i)) (go_keep) (fail)
  go_wp2
  go_ret
  have e1 : ((i + 1 : Nat) : Int) = i + 1 := by omega
  exact ⟨by rw [← ec]; rfl, by rw [e1]; exact (Moved.at_ (i' := (i : Int) + 1) R.out (Below.refl _ _)).below ((Below.refl _ _).drew.drew)⟩

set_option maxHeartbeats 400000 in
set_option maxRecDepth 100000 in
theorem rnum_yes (s : ByteArray) (i n j : Nat) (g : Nat) (w : World) (hs : s.size ≤ 1048576) (hi : i ≤ s.size) (hv : readV s.data.toList i = some (n, j)) (hr : RAt w g s i) :
    Calls Tryd.prog 63 #[.pointer (some ⟨g, 0, none⟩)] w fun e w' => e = .returned (.int .i64 n) ∧ Moved w w' g s j := by
  obtain ⟨h1, h2, h3, h4, h5⟩ := id hr
  have R := hide hr
  have C := hide (fun w => implRead s i w hs hi)
  rw [hv] at C
  clear hr hv
  go_enter Tryd.func63, Tryd.ntmps63
  go_wp2
  go_region_held3 (fun w' => w'.cell? ⟨g, 0, none⟩ = some (.string s) ∧ w'.cell? ⟨g, 1, none⟩ = some (.int .i64 i)) (go_keep) ((go_at_call 78; with_reducible refine Calls.mono (C.out _) ?_; rintro e w1 ⟨rfl, rfl⟩; unfold rvRes; try simp only))
  all_goals
    go_wp2_with fail
    refine (must_yes _ _).mono ?_
    rintro e w2 ⟨rfl, rfl⟩
    go_wp2
    go_ret
    exact ⟨rfl, (Moved.at_ (i' := (j : Int)) R.out (Below.refl _ _)).below ((Below.refl _ _).drew)⟩
set_option maxHeartbeats 400000 in
set_option maxRecDepth 100000 in
theorem rnum_no (s : ByteArray) (i : Nat) (g : Nat) (w : World) (hs : s.size ≤ 1048576) (hi : i ≤ s.size) (hv : readV s.data.toList i = none) (hr : RAt w g s i) :
    Calls Tryd.prog 63 #[.pointer (some ⟨g, 0, none⟩)] w fun e w' => e = .panicked noPg ∧ Kept2 w w' (· ≠ g) := by
  obtain ⟨h1, h2, h3, h4, h5⟩ := id hr
  have C := hide (fun w => implRead s i w hs hi)
  rw [hv] at C
  clear hr hv
  go_enter Tryd.func63, Tryd.ntmps63
  go_wp2
  go_region_held3 (fun w' => w'.cell? ⟨g, 0, none⟩ = some (.string s) ∧ w'.cell? ⟨g, 1, none⟩ = some (.int .i64 i)) (go_keep) ((go_at_call 78; with_reducible refine Calls.mono (C.out _) ?_; rintro e w1 ⟨rfl, rfl⟩; unfold rvRes; try simp only))
  all_goals
    go_wp2_with fail
    refine (must_no _ _).mono ?_
    rintro e w2 ⟨rfl, rfl⟩
    go_wp2
    exact ⟨rfl, rfl, Kept2.below ((Below.refl _ _).drew)⟩
end Go.Proofs.YtofamdjjgkgpiabDoor
