/-
  The walk of the specification's round of a block.
-/
import Derived.Test.YtcjgjkejhkhknabGreatDoorPq43
import Derived.Test.YtcjgjkejhkhknabGreatDoorPq44
namespace Go.Proofs.YtcjgjkejhkhknabGreatDoor
open Go.RowKit
open Dig

theorem own_open {w : World} {base : Nat} {v : Value} {l : List Nat} (h : w.ownsRow base 131 1 v l.length (wcells l)) (h0 : 0 < l.length) :
    ∃ g cap, v = .slice (some ⟨g, 0, none⟩) l.length cap ∧ base ≤ g ∧ WordsAt w g l ∧ ∀ j, w.frozen? ⟨g, j, none⟩ = false := by
  have h1 := h.lt
  have h2 := h
  rcases h.2 with ⟨-, h0'⟩ | ⟨g, cap, cur, rfl, -, -, -, -, -, -⟩
  · omega
  · have hg := h1 g rfl
    refine ⟨g, cap, rfl, hg.1, ⟨hg.2, fun j hj => ?_⟩, fun j => h2.frozenAt j⟩
    have := h2.cells (g := g) rfl j _ (wcells_at l j hj)
    rw [addr_at] at this
    exact this

theorem grown_below' {B g : Nat} {w w1 w2 : World} (h : Below B w w1) (hg : w1.grownBy w2 (some g)) (hB : B ≤ g) (hs : B ≤ w1.heap.size) : Below B w w2 :=
  h.grown hg hs (fun k hk => by cases hk; exact hB)
theorem joined_at {v u : List Nat} (h : St v) (k : St u) (i : Nat) (hi : i < 8) : ∃ x y z : Nat, v[i]? = some x ∧ u[i]? = some y ∧ IntKind.u32.wrap ((x : Int) + y) = z ∧ (joined v u).take (i + 1) = (joined v u).take i ++ [z] := by
  have hl : i < (joined v u).length := by rw [(joined_st h k).1]; omega
  have hv : i < v.length := by rw [h.1]; omega
  have hu : i < u.length := by rw [k.1]; omega
  refine ⟨v[i], u[i], (v[i] + u[i]) % 4294967296, List.getElem?_eq_getElem hv, List.getElem?_eq_getElem hu, by rw [IntKind.wrap_u32']; omega, ?_⟩
  rw [List.take_succ_eq_append_getElem hl]
  simp [joined]
theorem low_17 : Low 131072 := ⟨by decide, by decide⟩
theorem low_19 : Low 524288 := ⟨by decide, by decide⟩
theorem low_10 : Low 1024 := ⟨by decide, by decide⟩
theorem low_7 : Low 128 := ⟨by decide, by decide⟩
theorem low_18 : Low 262144 := ⟨by decide, by decide⟩
theorem low_3 : Low 8 := ⟨by decide, by decide⟩
theorem low_6 : Low 64 := ⟨by decide, by decide⟩
theorem low_11 : Low 2048 := ⟨by decide, by decide⟩
theorem low_25 : Low 33554432 := ⟨by decide, by decide⟩
theorem low_2 : Low 4 := ⟨by decide, by decide⟩
theorem low_13 : Low 8192 := ⟨by decide, by decide⟩
theorem low_22 : Low 4194304 := ⟨by decide, by decide⟩

/-- What a step of the schedule reads and makes. -/
theorem next_open (L : List Nat) (t : Nat) (ht : L.length = t) (h16 : 16 ≤ t) (hL : ∀ x ∈ L, x < 4294967296) :
    ∃ (a2 a7 a15 a16 x2 x7 x15 x16 s2 s15 y1 y2 y3 : Nat), a2 < t ∧ a7 < t ∧ a15 < t ∧ a16 < t ∧ (t : Int) - 2 = a2 ∧ (t : Int) - 7 = a7 ∧ (t : Int) - 15 = a15 ∧ (t : Int) - 16 = a16 ∧
      L[a2]? = some x2 ∧ L[a7]? = some x7 ∧ L[a15]? = some x15 ∧ L[a16]? = some x16 ∧ x2 < 4294967296 ∧ x15 < 4294967296 ∧
      sig x2 131072 524288 1024 true = s2 ∧ sig x15 128 262144 8 true = s15 ∧ IntKind.u32.wrap ((s2 : Int) + x7) = y1 ∧ IntKind.u32.wrap ((y1 : Int) + s15) = y2 ∧ IntKind.u32.wrap ((y2 : Int) + x16) = y3 ∧ next L = y3 := by
  have g : ∀ k, 2 ≤ k → k ≤ 16 → L[t - k]? = some (L.getD (t - k) 0) ∧ L.getD (t - k) 0 < 4294967296 := by
    intro k h1 h2
    have hlt : t - k < L.length := by omega
    rw [List.getD_eq_getElem?_getD, List.getElem?_eq_getElem hlt]
    exact ⟨rfl, hL _ (List.getElem_mem _)⟩
  refine ⟨t - 2, t - 7, t - 15, t - 16, L.getD (t - 2) 0, L.getD (t - 7) 0, L.getD (t - 15) 0, L.getD (t - 16) 0, _, _,
    (sig (L.getD (t - 2) 0) 131072 524288 1024 true + L.getD (t - 7) 0) % 4294967296,
    ((sig (L.getD (t - 2) 0) 131072 524288 1024 true + L.getD (t - 7) 0) % 4294967296 + sig (L.getD (t - 15) 0) 128 262144 8 true) % 4294967296,
    (((sig (L.getD (t - 2) 0) 131072 524288 1024 true + L.getD (t - 7) 0) % 4294967296 + sig (L.getD (t - 15) 0) 128 262144 8 true) % 4294967296 + L.getD (t - 16) 0) % 4294967296,
    by omega, by omega, by omega, by omega, by omega, by omega, by omega, by omega,
    (g 2 (by omega) (by omega)).1, (g 7 (by omega) (by omega)).1, (g 15 (by omega) (by omega)).1, (g 16 (by omega) (by omega)).1, (g 2 (by omega) (by omega)).2, (g 15 (by omega) (by omega)).2, rfl, rfl, ?_, ?_, ?_, ?_⟩
  · rw [IntKind.wrap_u32']; omega
  · rw [IntKind.wrap_u32']; omega
  · rw [IntKind.wrap_u32']; omega
  · unfold next
    rw [ht]
    omega

end Go.Proofs.YtcjgjkejhkhknabGreatDoor
