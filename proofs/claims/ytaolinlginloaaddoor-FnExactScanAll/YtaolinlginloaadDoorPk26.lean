/-
  IReader; IRead1; IRead0
-/
import Derived.Test.YtaolinlginloaadDoorPk20
import Derived.Test.YtaolinlginloaadDoorPk25
import Derived.Deep.RegionHeld3
import Derived.Deep.RegionWith
import Derived.Deep.QuietTactic
import Derived.BigQuiet
import Derived.Laws.DeepStrings4
import Derived.Lib.Strings
import Derived.Deep.RegionHeld
/-
  The methods of impl's reader of pages.
-/
namespace Go.Proofs.YtaolinlginloaadDoor
open Go.RowKit
open Words Sums

set_option maxHeartbeats 400000 in
set_option maxRecDepth 100000 in
theorem runseal_yes (t s0 s : ByteArray) (i : Int) (g : Nat) (w : World) (hm : t.size ≤ maxLen) (hu : unA t = some s) (hr : RAt w g s0 i) (ht : HalvIn w) :
    Calls Tryd.prog 65 #[.pointer (some ⟨g, 0, none⟩), .string t] w fun e w' => e = .returned (.tuple #[]) ∧ Moved w w' g s 0 := by
  have C := hide (iunseal t hm w ht)
  rw [hu] at C
  have R := hide hr
  clear hu hr ht
  go_enter Tryd.func65, Tryd.ntmps65
  go_wp2_with fail
  refine C.out.mono ?_
  rintro e w1 ⟨rfl, b1⟩
  unfold unR
  go_wp2_with fail
  refine (must_yes _ _).mono ?_
  rintro e w2 ⟨rfl, rfl⟩
  obtain ⟨h1, h2, h3, h4, h5⟩ := R.out.below b1
  have M := hide (Moved.both (t' := s) (i' := 0) R.out b1)
  go_wp2
  first | go_end0 | refine bodyPost_ret (results_none rfl _ _ _) rfl ?_
  exact ⟨rfl, M.out⟩
set_option maxHeartbeats 400000 in
set_option maxRecDepth 100000 in
theorem runseal_no (t : ByteArray) (g : Nat) (w : World) (hm : t.size ≤ maxLen) (hu : unA t = none) (ht : HalvIn w) :
    Calls Tryd.prog 65 #[.pointer (some ⟨g, 0, none⟩), .string t] w fun e w' => e = .panicked noPg ∧ Kept2 w w' (· ≠ g) := by
  have C := hide (iunseal t hm w ht)
  rw [hu] at C
  clear hu ht
  go_enter Tryd.func65, Tryd.ntmps65
  go_wp2_with fail
  refine C.out.mono ?_
  rintro e w1 ⟨rfl, b1⟩
  unfold unR
  go_wp2_with fail
  refine (must_no _ _).mono ?_
  rintro e w2 ⟨rfl, rfl⟩
  go_wp2
  exact ⟨rfl, rfl, Kept2.below b1⟩

set_option maxHeartbeats 400000 in
set_option maxRecDepth 100000 in
theorem rrest (s : ByteArray) (i : Nat) (g : Nat) (w : World) (hi : i ≤ s.size) (hr : RAt w g s i) :
    Calls Tryd.prog 68 #[.pointer (some ⟨g, 0, none⟩)] w fun e w' => e = .returned (.string (s.extract i s.size)) ∧ Moved w w' g s i := by
  obtain ⟨h1, h2, h3, h4, h5⟩ := id hr
  have R := hide hr
  have s1 : ∀ W, (Instr.slice 9 (.string s) (some (.int .i64 (i : Int))) none none).run Tryd.prog W = .ok (.string (s.extract i s.size)) W := fun W => by
    rw [run_slice_string_l W 9 s Tryd.underlying9 .i64 _ (by omega) (by omega)]
    simp
  generalize s.extract i s.size = u at s1
  clear hr h1 h4 h5
  go_enter Tryd.func68, Tryd.ntmps68
  go_wp2
  go_region_held3 (fun w' => w'.cell? ⟨g, 0, none⟩ = some (.string s) ∧ w'.cell? ⟨g, 1, none⟩ = some (.int .i64 i)) (go_keep) (fail)
  go_wp2
  go_ret
  have b1 : Below w.heap.size w w.drew := (Below.refl _ _).drew
  exact ⟨rfl, Kept2.below b1, R.out.below b1⟩
end Go.Proofs.YtaolinlginloaadDoor

/-
  impl's reader of pages: a byte, a number.
-/
namespace Go.Proofs.YtaolinlginloaadDoor
open Go.RowKit
open Words Sums

set_option maxHeartbeats 400000 in
set_option maxRecDepth 100000 in
theorem rbyte_yes (s : ByteArray) (i : Nat) (b : UInt8) (g : Nat) (w : World) (hs : s.size ≤ 1048576) (hb : s.data.toList[i]? = some b) (hr : RAt w g s i) :
    Calls Tryd.prog 66 #[.pointer (some ⟨g, 0, none⟩)] w fun e w' => e = .returned (.int .i64 b.toNat) ∧ Moved w w' g s (i + 1 : Nat) := by
  obtain ⟨h1, h2, h3, h4, h5⟩ := id hr
  have R := hide hr
  obtain ⟨hi, hbe⟩ := List.getElem?_eq_some_iff.1 hb
  have hi' : i < s.size := hi
  have hc : s[i].toNat = b.toNat := by rw [← hbe]; rfl
  have hlt : decide ((i : Int) < s.size) = true := by simp; omega
  have k0 : (0 : Int) ≤ i := by omega
  have k1 : (i : Int) < s.size := by omega
  have ew : IntKind.i64.wrap ((i : Int) + 1) = i + 1 := by rw [IntKind.wrap_i64]; omega
  have hb8 : b.toNat < 256 := b.toNat_lt
  generalize b.toNat = c at hc hb8
  have ec : IntKind.i64.wrap (c : Int) = c := by rw [IntKind.wrap_i64]; omega
  clear hr hb hbe hi
  go_enter Tryd.func66, Tryd.ntmps66
  go_wp2
  go_region_held3 (fun w' => w'.cell? ⟨g, 0, none⟩ = some (.string s) ∧ w'.cell? ⟨g, 1, none⟩ = some (.int .i64 i)) (go_keep) ((go_at_call 69; refine (must_yes _ _).mono ?_; rintro e w1 ⟨rfl, rfl⟩))
  go_wp2
  go_region_held3 (fun w' => w'.cell? ⟨g, 0, none⟩ = some (.string s) ∧ w'.cell? ⟨g, 1, none⟩ = some (.int .i64 i)) (go_keep) (fail)
  go_wp2
  go_ret
  have e1 : ((i + 1 : Nat) : Int) = i + 1 := by omega
  exact ⟨by rw [← ec]; rfl, by rw [e1]; exact (Moved.at_ (i' := (i : Int) + 1) R.out (Below.refl _ _)).below ((Below.refl _ _).drew.drew)⟩

set_option maxHeartbeats 400000 in
set_option maxRecDepth 100000 in
theorem rnum_yes (s : ByteArray) (i n j : Nat) (g : Nat) (w : World) (hs : s.size ≤ 1048576) (hi : i ≤ s.size) (hv : readV s.data.toList i = some (n, j)) (hr : RAt w g s i) :
    Calls Tryd.prog 67 #[.pointer (some ⟨g, 0, none⟩)] w fun e w' => e = .returned (.int .i64 n) ∧ Moved w w' g s j := by
  obtain ⟨h1, h2, h3, h4, h5⟩ := id hr
  have R := hide hr
  have C := hide (fun w => implRead s i w hs hi)
  rw [hv] at C
  clear hr hv
  go_enter Tryd.func67, Tryd.ntmps67
  go_wp2
  go_region_held3 (fun w' => w'.cell? ⟨g, 0, none⟩ = some (.string s) ∧ w'.cell? ⟨g, 1, none⟩ = some (.int .i64 i)) (go_keep) ((go_at_call 73; with_reducible refine Calls.mono (C.out _) ?_; rintro e w1 ⟨rfl, rfl⟩; unfold rvRes; try simp only))
  all_goals
    go_wp2_with fail
    refine (must_yes _ _).mono ?_
    rintro e w2 ⟨rfl, rfl⟩
    go_wp2
    go_ret
    exact ⟨rfl, (Moved.at_ (i' := (j : Int)) R.out (Below.refl _ _)).below ((Below.refl _ _).drew)⟩
set_option maxHeartbeats 400000 in
set_option maxRecDepth 100000 in
theorem rnum_no (s : ByteArray) (i : Nat) (g : Nat) (w : World) (hs : s.size ≤ 1048576) (hi : i ≤ s.size) (hv : readV s.data.toList i = none) (hr : RAt w g s i) :
    Calls Tryd.prog 67 #[.pointer (some ⟨g, 0, none⟩)] w fun e w' => e = .panicked noPg ∧ Kept2 w w' (· ≠ g) := by
  obtain ⟨h1, h2, h3, h4, h5⟩ := id hr
  have C := hide (fun w => implRead s i w hs hi)
  rw [hv] at C
  clear hr hv
  go_enter Tryd.func67, Tryd.ntmps67
  go_wp2
  go_region_held3 (fun w' => w'.cell? ⟨g, 0, none⟩ = some (.string s) ∧ w'.cell? ⟨g, 1, none⟩ = some (.int .i64 i)) (go_keep) ((go_at_call 73; with_reducible refine Calls.mono (C.out _) ?_; rintro e w1 ⟨rfl, rfl⟩; unfold rvRes; try simp only))
  all_goals
    go_wp2_with fail
    refine (must_no _ _).mono ?_
    rintro e w2 ⟨rfl, rfl⟩
    go_wp2
    exact ⟨rfl, rfl, Kept2.below ((Below.refl _ _).drew)⟩
end Go.Proofs.YtaolinlginloaadDoor

/-
  impl's reader of pages, where there is no byte.
-/
namespace Go.Proofs.YtaolinlginloaadDoor
open Go.RowKit
open Words Sums

set_option maxHeartbeats 400000 in
set_option maxRecDepth 100000 in
theorem rbyte_no (s : ByteArray) (i : Nat) (g : Nat) (w : World) (hb : s.data.toList[i]? = none) (hr : RAt w g s i) :
    Calls Tryd.prog 66 #[.pointer (some ⟨g, 0, none⟩)] w fun e w' => e = .panicked noPg ∧ Kept2 w w' (· ≠ g) := by
  obtain ⟨h1, h2, h3, h4, h5⟩ := id hr
  have hi' : s.size ≤ i := List.getElem?_eq_none_iff.1 hb
  have hlt : decide ((i : Int) < s.size) = false := by simp; omega
  clear hr hb
  go_enter Tryd.func66, Tryd.ntmps66
  go_wp2
  refine wp_region_held_drew (S := fun w' => w'.cell? ⟨g, 0, none⟩ = some (.string s) ∧ w'.cell? ⟨g, 1, none⟩ = some (.int .i64 i)) (by kernel_rfl) (by go_keep) (fun hHeld => ?_)
  refine wpAnyH_take (i := 0) (v := ?_) rfl (by kernel_rfl) (by kernel_rfl) (by kernel_rfl) (fun _ _ _ h => h) (Or.inl ⟨by rfl, ?yld0⟩) (by assumption) ?_
  case yld0 =>
    intro w hSw
    try dsimp only at hSw
    go_simp
    try with_reducible rfl
  simp only [Act.put, List.setIfInBounds_toArray]
  refine wpAnyH_take (i := 1) (v := ?_) rfl (by kernel_rfl) (by kernel_rfl) (by kernel_rfl) (fun _ _ _ h => h) (Or.inl ⟨by rfl, ?yld1⟩) (by assumption) ?_
  case yld1 =>
    intro w hSw
    try dsimp only at hSw
    go_simp
    try with_reducible rfl
  simp only [Act.put]
  refine wpAnyH_take (i := 2) (v := ?_) rfl (by kernel_rfl) (by kernel_rfl) (by kernel_rfl) (fun _ _ _ h => h) (Or.inl ⟨by rfl, ?yld2⟩) (by assumption) ?_
  case yld2 =>
    intro w hSw
    try dsimp only at hSw
    go_simp
    try with_reducible rfl
  simp only [Act.put]
  refine wpAnyH_take (i := 3) (v := ?_) rfl (by kernel_rfl) (by kernel_rfl) (by kernel_rfl) (fun _ _ _ h => h) (Or.inl ⟨by rfl, ?yld3⟩) (by assumption) ?_
  case yld3 =>
    intro w hSw
    try dsimp only at hSw
    go_simp
    try with_reducible rfl
  simp only [Act.put]
  refine wpAnyH_take (i := 4) (v := ?_) rfl (by kernel_rfl) (by kernel_rfl) (by kernel_rfl) (fun _ _ _ h => h) (Or.inl ⟨by rfl, ?yld4⟩) (by assumption) ?_
  case yld4 =>
    intro w hSw
    try dsimp only at hSw
    go_simp
    try with_reducible rfl
  simp only [Act.put]
  refine wpAnyH_take (i := 5) (v := ?_) rfl (by kernel_rfl) (by kernel_rfl) (by kernel_rfl) (fun _ _ _ h => h) (Or.inl ⟨by rfl, ?yld5⟩) (by assumption) ?_
  case yld5 =>
    intro w hSw
    try dsimp only at hSw
    go_simp
    try with_reducible rfl
  simp only [Act.put]
  refine wpAnyH_take (i := 6) (v := ?_) rfl (by kernel_rfl) (by kernel_rfl) (by kernel_rfl) (fun _ _ _ h => h) (Or.inl ⟨by rfl, ?yld6⟩) (by assumption) ?_
  case yld6 =>
    intro w hSw
    try dsimp only at hSw
    go_simp
    try with_reducible rfl
  simp only [Act.put]
  refine wpAnyH_take (i := 7) (v := ?_) rfl (by kernel_rfl) (by kernel_rfl) (by kernel_rfl) (fun _ _ _ h => h) (Or.inl ⟨by rfl, ?yld7⟩) (by assumption) ?_
  case yld7 =>
    intro w hSw
    try dsimp only at hSw
    go_simp
    try with_reducible rfl
  simp only [Act.put]
  refine wpAnyH_take (i := 8) (v := ?_) rfl (by kernel_rfl) (by kernel_rfl) (by kernel_rfl) (fun _ _ _ h => h) (Or.inl ⟨by rfl, ?yld8⟩) (by assumption) ?_
  case yld8 =>
    intro w hSw
    try dsimp only at hSw
    go_simp
    try with_reducible rfl
  simp only [Act.put]
  refine wpAnyH_take (i := 9) (v := ?_) rfl (by kernel_rfl) (by kernel_rfl) (by kernel_rfl) (fun _ _ _ h => h) (Or.inl ⟨by rfl, ?yld9⟩) (by assumption) ?_
  case yld9 =>
    intro w hSw
    try dsimp only at hSw
    go_simp
    try with_reducible rfl
  simp only [Act.put]
  refine wpAnyH_take (i := 10) (v := ?_) rfl (by kernel_rfl) (by kernel_rfl) (by kernel_rfl) (fun _ _ _ h => h) (Or.inl ⟨by rfl, ?yld10⟩) (by assumption) ?_
  case yld10 =>
    intro w hSw
    try dsimp only at hSw
    go_simp
    try with_reducible rfl
  simp only [Act.put]
  refine wpAnyH_ready (rs := [11]) (by kernel_rfl) (by simp) ?_
  refine AllReadyH.cons rfl (fun K hK => ?_) ?_
  · go_simp
    rw [decide_eq_false (show ¬ i < s.size by omega)]
    with_reducible refine Calls.mono (must_no _ _) ?_
    rintro e w1 ⟨rfl, rfl⟩
    go_wp2
    exact ⟨rfl, rfl, Kept2.below ((Below.refl _ _).drew)⟩
  · exact AllReadyH.nil
end Go.Proofs.YtaolinlginloaadDoor
