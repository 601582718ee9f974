/-
  The methods of impl's reader of pages.
-/
import Derived.Test.YtofamdjjgkgpiabDoorRAt
import Derived.Test.YtofamdjjgkgpiabDoorSUnseal
import Derived.Test.YtofamdjjgkgpiabDoorImplRead
import Derived.Deep.RegionHeld3
import Derived.Deep.RegionWith
import Derived.Deep.QuietTactic
import Derived.BigQuiet
namespace Go.Proofs.YtofamdjjgkgpiabDoor
open Go.RowKit
open Words Sums

set_option maxHeartbeats 400000 in
set_option maxRecDepth 100000 in
theorem runseal_yes (t s0 s : ByteArray) (i : Int) (g : Nat) (w : World) (hm : t.size ≤ maxLen) (hu : unA t = some s) (hr : RAt w g s0 i) (ht : HalvIn w) :
    Calls Tryd.prog 61 #[.pointer (some ⟨g, 0, none⟩), .string t] w fun e w' => e = .returned (.tuple #[]) ∧ Moved w w' g s 0 := by
  have C := hide (iunseal t hm w ht)
  rw [hu] at C
  have R := hide hr
  clear hu hr ht
  go_enter Tryd.func61, Tryd.ntmps61
  go_wp2_with fail
  refine C.out.mono ?_
  rintro e w1 ⟨rfl, b1⟩
  unfold unR
  go_wp2_with fail
  refine (must_yes _ _).mono ?_
  rintro e w2 ⟨rfl, rfl⟩
  obtain ⟨h1, h2, h3, h4, h5⟩ := R.out.below b1
  have M := hide (Moved.both (t' := s) (i' := 0) R.out b1)
  go_wp2
  first | go_end0 | refine bodyPost_ret (results_none rfl _ _ _) rfl ?_
  exact ⟨rfl, M.out⟩
set_option maxHeartbeats 400000 in
set_option maxRecDepth 100000 in
theorem runseal_no (t : ByteArray) (g : Nat) (w : World) (hm : t.size ≤ maxLen) (hu : unA t = none) (ht : HalvIn w) :
    Calls Tryd.prog 61 #[.pointer (some ⟨g, 0, none⟩), .string t] w fun e w' => e = .panicked noPg ∧ Kept2 w w' (· ≠ g) := by
  have C := hide (iunseal t hm w ht)
  rw [hu] at C
  clear hu ht
  go_enter Tryd.func61, Tryd.ntmps61
  go_wp2_with fail
  refine C.out.mono ?_
  rintro e w1 ⟨rfl, b1⟩
  unfold unR
  go_wp2_with fail
  refine (must_no _ _).mono ?_
  rintro e w2 ⟨rfl, rfl⟩
  go_wp2
  exact ⟨rfl, rfl, Kept2.below b1⟩

set_option maxHeartbeats 400000 in
set_option maxRecDepth 100000 in
theorem rrest (s : ByteArray) (i : Nat) (g : Nat) (w : World) (hi : i ≤ s.size) (hr : RAt w g s i) :
    Calls Tryd.prog 64 #[.pointer (some ⟨g, 0, none⟩)] w fun e w' => e = .returned (.string (s.extract i s.size)) ∧ Moved w w' g s i := by
  obtain ⟨h1, h2, h3, h4, h5⟩ := id hr
  have R := hide hr
  have s1 : ∀ W, (Instr.slice 9 (.string s) (some (.int .i64 (i : Int))) none none).run Tryd.prog W = .ok (.string (s.extract i s.size)) W := fun W => by
    rw [run_slice_string_l W 9 s Tryd.underlying9 .i64 _ (by omega) (by omega)]
    simp
  generalize s.extract i s.size = u at s1
  clear hr h1 h4 h5
  go_enter Tryd.func64, Tryd.ntmps64
  go_wp2
  go_region_held3 (fun w' => w'.cell? ⟨g, 0, none⟩ = some (.string s) ∧ w'.cell? ⟨g, 1, none⟩ = some (.int .i64 i)) (go_keep) (fail)
  go_wp2
  go_ret
  have b1 : Below w.heap.size w w.drew := (Below.refl _ _).drew
  exact ⟨rfl, Kept2.below b1, R.out.below b1⟩
end Go.Proofs.YtofamdjjgkgpiabDoor
