/-
  The laws' own szStore and eqStore.
-/
import Derived.Test.YtbjhbbejomfmmasToVlS
import Derived.Test.YtbjhbbejomfmmasKnTo
import Derived.Test.YtbjhbbejomfmmasKnEq
import Derived.Test.YtbjhbbejomfmmasPk5
namespace Go.Proofs.Ytbjhbbejomfmmas
open Go.RowKit
open Words

set_option maxHeartbeats 400000 in
set_option maxRecDepth 100000 in
theorem szSto_any (va : Option Addr) (vl vc : Nat) (a : Option Addr) (len cap : Nat) (nx : Int) (rs : List Kw) (z0 : Nat) (w : World) (hz0 : z0 ≤ 1048576) (hvl : vl ≤ maxLen) (h : KnRd w a len rs) :
    Calls Try.prog 13 #[.agg #[.slice va vl vc, .slice a len cap, .int .i64 nx], .int .i64 z0] w fun e w' => (∃ r : Int, e = .returned (.int .i64 r) ∧ -1 ≤ r ∧ r ≤ z0 ∧ (0 ≤ r → r + vl + len + ksum rs ≤ z0)) ∧ Below w.heap.size w w' := by
  have bA := (Below.refl w.heap.size w).alloc (Nat.le_refl _) (.cells #[.slice va vl vc, .slice a len cap, .int .i64 nx] 37)
  have HB := hide bA
  have H := hide (h.below bA)
  have GB := hide (heap_alloc_new w (.cells #[.slice va vl vc, .slice a len cap, .int .i64 nx] 37))
  clear bA h
  go_enter Try.func13, Try.ntmps13
  go_wp2_with fail
  generalize w.alloc (.cells #[.slice va vl vc, .slice a len cap, .int .i64 nx] 37) = wb at HB H GB ⊢
  have q1 := cell_of_row _ _ 1 _ _ _ GB.out
  refine (szVls_any va vl vc z0 wb hz0 hvl).mono ?_
  rintro e w1 ⟨⟨r0, rfl, r1, r2, r3⟩, rfl⟩
  by_cases hr : r0 < 0
  · go_wp2
    go_ret
    exact ⟨⟨_, rfl, by omega, by omega, fun h => by omega⟩, HB.out⟩
  · obtain ⟨y, rfl⟩ : ∃ y : Nat, r0 = y := ⟨r0.toNat, by omega⟩
    have h3 := r3 (by omega)
    have C := hide (szAr_any a len cap rs y w1 (by omega) H.out)
    clear r3
    go_wp2_with fail
    refine C.out.mono ?_
    rintro e w2 ⟨⟨s0, rfl, s1, s2, s3⟩, b2⟩
    have B2 := hide (HB.out.trans (b2.mono HB.out.size))
    clear C b2
    by_cases hs : s0 < 0
    · go_wp2
      go_ret
      exact ⟨⟨_, rfl, by omega, by omega, fun h => by omega⟩, B2.out⟩
    · have h4 := s3 (by omega)
      clear s3
      go_wp2
      go_ret
      exact ⟨⟨_, rfl, by omega, by omega, fun h => by omega⟩, B2.out⟩
end Go.Proofs.Ytbjhbbejomfmmas
