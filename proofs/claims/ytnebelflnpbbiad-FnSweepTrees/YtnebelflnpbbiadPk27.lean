/-
  TkFor; Big
-/
import Derived.Test.YtnebelflnpbbiadPk25
import Derived.Test.YtnebelflnpbbiadDPl
import Derived.Test.YtnebelflnpbbiadPk0
/-
  A drawn arena with some trees, and twelve places, among what a law holds.
-/
namespace Go.Proofs.Ytnebelflnpbbiad
open Go.RowKit
open Words

theorem forest_tk {w wi : World} {hs : List Hold} {ad : Option Addr} {len cap : Nat} (T : Tk w wi hs) (hl : len ≤ 1048576) (hd : CodeIn w ad len w.heap.size) :
    Calls Try.prog 5 #[.slice ad len cap] wi fun e w' => ∃ (va : Option Addr) (vc g rc : Nat) (ks : List Kn) (R : List Int) (lo hi : Nat), e = .returned (.tuple #[.agg #[.slice va ks.length vc], .slice (some ⟨g, 0, none⟩) R.length rc]) ∧ (R.length ≤ 8 ∧ 1 ≤ R.length ∧ ForOk ks R) ∧ Tk w w' ((g, g + 1, Flt 3 g (icells R)) :: (lo, hi, Kns lo hi (.slice va ks.length vc) ks) :: hs) ∧ wi.heap.size ≤ w'.heap.size := by
  refine (drawForest ad len cap wi hl ((hd.on T.1 (Nat.le_refl _)).up T.1.size)).mono ?_
  rintro e w' ⟨av, rv, ks, R, lo, hi, rfl, h8, ok, kn, ow, -, ⟨-, -, l3⟩, hb⟩
  obtain ⟨va, vc, rfl⟩ := kn.form
  obtain ⟨ra, rc, hrv, hra⟩ := (Sli.of ow).form
  subst hrv
  have h1 : 1 ≤ R.length := by have := ok.2.2.2; omega
  obtain ⟨g, rfl, -, g2⟩ := hra (by omega)
  exact ⟨va, vc, g, rc, ks, R, lo, hi, rfl, ⟨h8, h1, ok⟩, ((T.below hb).put l3 (Kns.loc _ _ _ _) kn).put g2 (Flt.loc _ _ _) (Sli.of ow).flt, hb.size⟩
/-- Numbers in a block. -/
def PlH (g : Nat) (l : List Int) : World → Prop := fun W => ∀ j x, l[j]? = some x → W.cell? ⟨g, j, none⟩ = some (.int .i64 x)
theorem PlH.loc (g : Nat) (l : List Int) : Loc g (g + 1) (PlH g l) := fun w w' hk h j x hj => by
  rw [World.cell?_of_block (w := w) (w' := w') (a := ⟨g, j, none⟩) (hk g (Nat.le_refl _) (by omega))]
  exact h j x hj
theorem places_tk {w wi : World} {hs : List Hold} {ad : Option Addr} {len cap : Nat} (T : Tk w wi hs) (hl : len ≤ 1048576) (hd : CodeIn w ad len w.heap.size) :
    Calls Try.prog 6 #[.slice ad len cap] wi fun e w' => ∃ (g cp : Nat) (l : List Int), e = .returned (.slice (some ⟨g, 0, none⟩) 12 cp) ∧ (l.length = 12 ∧ ∀ x ∈ l, 0 ≤ x ∧ x < 10000) ∧ Tk w w' ((g, g + 1, PlH g l) :: hs) ∧ wi.heap.size ≤ w'.heap.size := by
  refine (places_any ad len cap wi hl ((hd.on T.1 (Nat.le_refl _)).up T.1.size)).mono ?_
  rintro e w' ⟨g, cp, l, rfl, -, g2, h12, hx, hc, hb⟩
  exact ⟨g, cp, l, rfl, ⟨h12, hx⟩, (T.below hb).put g2 (PlH.loc _ _) (fun j x hj => by
    obtain ⟨q1, q2⟩ := List.getElem?_eq_some_iff.1 hj
    rw [hc j q1, q2]), hb.size⟩
end Go.Proofs.Ytnebelflnpbbiad

/-
  The laws' own look at a code that is too long.
-/
namespace Go.Proofs.Ytnebelflnpbbiad
open Go.RowKit

theorem big_any (ad : Option Addr) (len cap : Nat) (w : World) :
    Calls Try.prog 4 #[.slice ad len cap] w fun e w' => e = .returned (.bool (decide ((1048576 : Int) < len))) ∧ w' = w := by
  by_cases h : (1048576 : Int) < len
  all_goals
    go_enter Try.func4, Try.ntmps4
    go_wp2
    go_ret
    exact ⟨by simp [h], rfl⟩
end Go.Proofs.Ytnebelflnpbbiad
