/-
  A text made into bytes of the call's own, one of them changed, and made into a text again.
-/
import Derived.Test.YtaolinlginloaacDoorPq0
namespace Go.Proofs.YtaolinlginloaacDoor
open Go.RowKit

/-- The bytes l lie in block g, from its start on, and may be written. -/
def BytesAt (w : World) (g : Nat) (l : List UInt8) : Prop :=
  g < w.heap.size ∧ ∀ j (hj : j < l.length), w.cell? ⟨g, j, none⟩ = some (.int .u8 (l[j].toNat : Int)) ∧ w.frozen? ⟨g, j, none⟩ = false

theorem BytesAt.below {w w' : World} {g C : Nat} {l : List UInt8} (h : BytesAt w g l) (hb : Below C w w') (hg : g < C) : BytesAt w' g l :=
  ⟨Nat.lt_of_lt_of_le h.1 hb.size, fun j hj => ⟨by rw [hb.cell (show g < C from hg)]; exact (h.2 j hj).1, by rw [hb.frozen (show g < C from hg)]; exact (h.2 j hj).2⟩⟩

theorem bytes_new (w : World) (s : ByteArray) : ∃ (C : Nat) (w' : World), (convert 9 32 (.string s)).run Tryd.prog w = .ok (.slice (some ⟨w.heap.size, 0, none⟩) s.size C) w' ∧ Below w.heap.size w w' ∧ BytesAt w' w.heap.size s.data.toList := by
  have h := run_bytes_of_string (P := Tryd.prog) w 9 32 5 s Tryd.underlying9 Tryd.underlying32 Tryd.underlying5
  generalize grownCap w s.size 0 5 = C at h
  refine ⟨C, _, h, ((Below.refl _ _).drew).alloc (Nat.le_refl _) _, by simp, ?_⟩
  intro j hj
  have hj2 : j < s.data.size := by simpa using hj
  have hj3 : j < s.size := hj2
  have e := bytesRow_at s C j hj2
  have hsz : j < (bytesRow s C).size := by
    unfold bytesRow
    rw [Array.size_append, Array.size_map]
    omega
  have d : w.drew.heap.size = w.heap.size := rfl
  constructor
  · have := World.cell?_alloc_mark w.drew (bytesRow s C) 5 ((bytesRow s C).size, (bytesRow s C).size + 1) j
    rw [d] at this
    rw [this, e]
    simp
  · have := World.frozen?_alloc_mark w.drew (bytesRow s C) 5 (bytesRow s C).size ((bytesRow s C).size + 1) j
    rw [d] at this
    rw [this]
    simp; omega

theorem BytesAt.set {w : World} {g : Nat} {l : List UInt8} (h : BytesAt w g l) (i : Nat) (y : UInt8) (v : Int) (hv : (y.toNat : Int) = v) : BytesAt (w.setCell ⟨g, i, none⟩ (.int .u8 v)) g (l.set i y) := by
  refine ⟨by simpa using h.1, fun j hj => ?_⟩
  have hj2 : j < l.length := by simpa using hj
  refine ⟨?_, by rw [World.frozen?_setCell]; exact (h.2 j hj2).2⟩
  by_cases hij : i = j
  · subst hij
    rw [World.cell?_setCell_same _ _ _ (h.2 i hj2).1]
    simp [hv]
  · rw [World.cell?_setCell_other _ _ _ _ (fun e => hij (by injection e)), (h.2 j hj2).1]
    simp [hij]

theorem BytesAt.text {w : World} {g : Nat} {l : List UInt8} (h : BytesAt w g l) (n C : Nat) (hn : n = l.length) : (convert 32 9 (.slice (some ⟨g, 0, none⟩) n C)).run Tryd.prog w = .ok (.string ⟨l.toArray⟩) w := by
  subst hn
  exact run_convert_bytes_back (P := Tryd.prog) w 32 9 5 ⟨g, 0, none⟩ C l Tryd.underlying32 Tryd.underlying5 Tryd.underlying9 (fun j hj => by rw [addr_at]; exact (h.2 j hj).1)
end Go.Proofs.YtaolinlginloaacDoor
