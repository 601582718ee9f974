/-
  Twelve drawn places among what a law holds.
-/
import Derived.Test.YtcnaahajaaifjaaPq31
import Derived.Test.YtcnaahajaaifjaaPq0
namespace Go.Proofs.Ytcnaahajaaifjaa
open Go.RowKit

/-- Numbers in a block. -/
def PlH (g : Nat) (l : List Int) : World → Prop := fun W => ∀ j x, l[j]? = some x → W.cell? ⟨g, j, none⟩ = some (.int .i64 x)
theorem PlH.loc (g : Nat) (l : List Int) : Loc g (g + 1) (PlH g l) := fun w w' hk h j x hj => by
  rw [World.cell?_of_block (w := w) (w' := w') (a := ⟨g, j, none⟩) (hk g (Nat.le_refl _) (by omega))]
  exact h j x hj
theorem places_tk {w wi : World} {hs : List Hold} {ad : Option Addr} {len cap : Nat} (T : Tk w wi hs) (hl : len ≤ 1048576) (hd : CodeIn w ad len w.heap.size) :
    Calls Try.prog 19 #[.slice ad len cap] wi fun e w' => ∃ (g cp : Nat) (l : List Int), e = .returned (.slice (some ⟨g, 0, none⟩) 12 cp) ∧ (l.length = 12 ∧ ∀ x ∈ l, 0 ≤ x ∧ x < 10000) ∧ Tk w w' ((g, g + 1, PlH g l) :: hs) ∧ wi.heap.size ≤ w'.heap.size := by
  refine (places_any ad len cap wi hl ((hd.on T.1 (Nat.le_refl _)).up T.1.size)).mono ?_
  rintro e w' ⟨g, cp, l, rfl, -, g2, h12, hx, hc, hb⟩
  exact ⟨g, cp, l, rfl, ⟨h12, hx⟩, (T.below hb).put g2 (PlH.loc _ _) (fun j x hj => by
    obtain ⟨q1, q2⟩ := List.getElem?_eq_some_iff.1 hj
    rw [hc j q1, q2]), hb.size⟩
end Go.Proofs.Ytcnaahajaaifjaa
