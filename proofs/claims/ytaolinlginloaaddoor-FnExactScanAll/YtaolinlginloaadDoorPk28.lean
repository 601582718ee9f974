/-
  RdP; RdPg
-/
import Derived.Test.YtaolinlginloaadDoorPk23
import Derived.Test.YtaolinlginloaadDoorPgMath
import Derived.Test.YtaolinlginloaadDoorPk25
import Derived.Test.YtaolinlginloaadDoorPk20
/-
  What a text is read as, in plain words.
-/
namespace Go.Proofs.YtaolinlginloaadDoor
open Words Sums

def readPg (t : ByteArray) : Option Pg := match unA t with | none => none | some s => pgOf s
theorem readPg_seal (p : Pg) (h : p.Right) : readPg (sealA (pageA p)) = some p := by
  unfold readPg
  rw [unA_seal _ (by have := pageA_size p h; omega)]
  exact pg_read p h
theorem readPg_right {t : ByteArray} {p : Pg} (h : readPg t = some p) : p.Right ∧ sealA (pageA p) = t := by
  unfold readPg at h
  cases hu : unA t with
  | none => rw [hu] at h; cases h
  | some s =>
    rw [hu] at h
    simp only at h
    unfold pgOf at h
    split at h
    · cases h
    · rename_i k0 h0
      split at h
      · cases h
      · rename_i a i1 h1
        split at h
        · cases h
        · rename_i b i2 h2
          split at h
          · cases h
          · rename_i c i3 h3
            split at h
            · cases h
            · rename_i d i4 h4
              split at h
              · rename_i hq
                cases h
                refine ⟨hq, ?_⟩
                rw [pg_back h0 h1 h2 h3 h4]
                exact (unA_some hu).1
              · cases h
end Go.Proofs.YtaolinlginloaadDoor

/-
  What ReadPage answers.
-/
namespace Go.Proofs.YtaolinlginloaadDoor
open Go.RowKit
open Words Sums

/-- What ReadPage answers, as a value. -/
def pgRes : Option Pg → Value
  | some p => .tuple #[pgVal p, .bool true]
  | none => .tuple #[pgVal ⟨0, 0, 0, 0, 0, ⟨#[]⟩⟩, .bool false]
end Go.Proofs.YtaolinlginloaadDoor
