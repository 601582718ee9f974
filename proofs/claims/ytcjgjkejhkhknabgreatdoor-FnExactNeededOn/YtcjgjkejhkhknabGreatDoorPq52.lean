/-
  StsM; KnMkF; ArMkF; MkVl
-/
import Derived.Test.YtcjgjkejhkhknabGreatDoorPq9
import Derived.Test.YtcjgjkejhkhknabGreatDoorPq19
import Derived.Deep.DeepCutAuto
import Derived.Deep.RegionHeld3
import Derived.Test.YtcjgjkejhkhknabGreatDoorPq21
import Derived.Test.YtcjgjkejhkhknabGreatDoorPq0
/-
  A store among what a law holds.
-/
namespace Go.Proofs.YtcjgjkejhkhknabGreatDoor
open Go.RowKit
open Words

/-- A store in blocks lo to hi. -/
def Sts (lo hi : Nat) (v : Value) (s : Sto) : World → Prop := fun W =>
  ∃ vv kv lo1 hi1 lo2 hi2, v = .agg #[vv, kv, .int .i64 s.next] ∧ Sli 107 lo1 hi1 vv s.vols.length (vlcells s.vols) W ∧ Kns lo2 hi2 kv s.kns W ∧ lo ≤ lo1 ∧ hi1 ≤ hi ∧ lo ≤ lo2 ∧ hi2 ≤ hi ∧ (hi1 ≤ lo2 ∨ hi2 ≤ lo1)
theorem Sts.loc (lo hi : Nat) (v : Value) (s : Sto) : Loc lo hi (Sts lo hi v s) := by
  rintro w w' hk ⟨vv, kv, lo1, hi1, lo2, hi2, e, h1, h2, h3, h4, h5, h6, h7⟩
  exact ⟨vv, kv, lo1, hi1, lo2, hi2, e, Sli.loc _ _ _ _ _ _ w w' (fun g g1 g2 => hk g (by omega) (by omega)) h1, Kns.loc _ _ _ _ w w' (fun g g1 g2 => hk g (by omega) (by omega)) h2, h3, h4, h5, h6, h7⟩
theorem StOut.sts {w w' : World} {v : Value} {s : Sto} (h : StOut w s v w') : Sts w.heap.size w'.heap.size v s w' := by
  obtain ⟨vv, kv, lo1, hi1, lo2, hi2, e, h1, h2, h3, h4, h5, h6, h7, -⟩ := h
  exact ⟨vv, kv, lo1, hi1, lo2, hi2, e, h1, h2, h3, h4, h5, h6, h7⟩
theorem Sts.rd {lo hi : Nat} {W : World} {v : Value} {s : Sto} (h : Sts lo hi v s W) (hf : s.Fit) (hh : hi ≤ W.heap.size) : StIn W v s := by
  obtain ⟨vv, kv, lo1, hi1, lo2, hi2, rfl, h1, h2, h3, h4, h5, h6, h7⟩ := h
  obtain ⟨va, vc, rfl, h9, h10⟩ := VlSl.of h1 (by have := hf.1; unfold maxLen; omega) (by omega)
  obtain ⟨ad, cap, rfl⟩ := h2.form
  obtain ⟨rs, e, hr⟩ := h2.rd rfl (by omega)
  refine ⟨va, s.vols.length, vc, ad, s.kns.length, cap, rs, rfl, e.symm, hf.1, hf.2.1, fun r hr => ?_, h9, h10, hr⟩
  exact hf.2.2 (ktell r) (by rw [← e]; exact List.mem_map.2 ⟨r, hr, rfl⟩)
theorem Sts.form {lo hi : Nat} {W : World} {v : Value} {s : Sto} (h : Sts lo hi v s W) : ∃ va vc ad cap, v = .agg #[.slice va s.vols.length vc, .slice ad s.kns.length cap, .int .i64 s.next] := by
  obtain ⟨vv, kv, lo1, hi1, lo2, hi2, rfl, h1, h2, -⟩ := h
  obtain ⟨va, vc, rfl, -⟩ := h1.form
  obtain ⟨ad, cap, rfl⟩ := h2.form
  exact ⟨_, _, _, _, rfl⟩
end Go.Proofs.YtcjgjkejhkhknabGreatDoor

/-
  Rows of knots: marked from any number on, and held.
-/
namespace Go.Proofs.YtcjgjkejhkhknabGreatDoor
open Go.RowKit
open Words

end Go.Proofs.YtcjgjkejhkhknabGreatDoor

/-
  Arenas: marked from any number on, and held.
-/
namespace Go.Proofs.YtcjgjkejhkhknabGreatDoor
open Go.RowKit
open Words

end Go.Proofs.YtcjgjkejhkhknabGreatDoor

/-
  Rows of volumes: marked.
-/
namespace Go.Proofs.YtcjgjkejhkhknabGreatDoor
open Go.RowKit

/-- What the cells of one element are: numbers, and texts. -/
def patVl : List Bool := [false, false]
end Go.Proofs.YtcjgjkejhkhknabGreatDoor
