/-
  impl's linked knots: a leaf with one more number.
-/
import Derived.Test.YtnebelflnpbbiarITree
namespace Go.Proofs.Ytnebelflnpbbiar
open Go.RowKit
open Words

theorem set4 (a b c d n : Int) (t : Nat) (h : t < 4) : True → (t = 0 ∧ [a, b, c, d].set t n = [n, b, c, d]) ∨ (t = 1 ∧ [a, b, c, d].set t n = [a, n, c, d]) ∨ (t = 2 ∧ [a, b, c, d].set t n = [a, b, n, d]) ∨ (t = 3 ∧ [a, b, c, d].set t n = [a, b, c, n]) := by
  intro _
  match t, h with
  | 0, _ => exact .inl ⟨rfl, rfl⟩
  | 1, _ => exact .inr (.inl ⟨rfl, rfl⟩)
  | 2, _ => exact .inr (.inr (.inl ⟨rfl, rfl⟩))
  | 3, _ => exact .inr (.inr (.inr ⟨rfl, rfl⟩))

set_option maxHeartbeats 2000000 in
set_option maxRecDepth 100000 in
theorem ileafWith (b : Nat) (x : Lk) (s : Nat) (n : Int) (old : List Int) (w : World) (hs : s ≤ 15) (h : LkAt w b x) (ho : (∃ k, k = s / 4 ∧ x.tos[k]? = some none ∧ old = [0, 0, 0, 0]) ∨ ∃ c y, x.tos[s / 4]? = some (some c) ∧ LkAt w c y ∧ y.nums = old) :
    Calls Try.prog 43 #[ptr b, .int .i64 s, .int .i64 n] w fun e w' => e = .returned (ptr w.heap.size) ∧ LkAt w' w.heap.size ⟨0, true, old.set (s % 4) n, [none, none, none, none], false⟩ ∧ Below w.heap.size w w' := by
  obtain ⟨q, hq⟩ : ∃ q, s / 4 = q := ⟨_, rfl⟩
  obtain ⟨t, ht⟩ : ∃ t, s % 4 = t := ⟨_, rfl⟩
  rw [hq] at ho
  rw [ht]
  have tq : (s : Int).tdiv 4 = (q : Int) := by rw [Int.tdiv_eq_ediv_of_nonneg (by omega)]; omega
  have tt : (s : Int).tmod 4 = (t : Int) := by rw [Int.tmod_eq_emod_of_nonneg (by omega)]; omega
  have tq2 : (s : Int) / 4 = (q : Int) := by omega
  have tt2 : (s : Int) % 4 = (t : Int) := by omega
  have q0 : (0 : Int) ≤ q := by omega
  have q4 : (q : Int) < 4 := by omega
  have t4 : t < 4 := by omega
  have hB : Below w.heap.size w (w.alloc (.cells #[.int .i64 0, .bool true, .int .i64 0, .int .i64 0, .int .i64 0, .int .i64 0, .pointer none, .pointer none, .pointer none, .pointer none, .bool false] 69)) := (Below.refl _ _).alloc (Nat.le_refl _) _
  rcases ho with ⟨k, rfl, hk, rfl⟩ | ⟨c, y, hk, hy, rfl⟩
  · have c1 := (h.blw hB).to hk
    have c2 : (w.alloc (.cells #[.int .i64 0, .bool true, .int .i64 0, .int .i64 0, .int .i64 0, .int .i64 0, .pointer none, .pointer none, .pointer none, .pointer none, .bool false] 69)).cell? ⟨b, 6 + k, none⟩ = some (.pointer none) := c1
    clear h hk hq ht hB c1
    unfold ptr
    rcases set4 0 0 0 0 n t t4 trivial with ⟨rfl, e⟩ | ⟨rfl, e⟩ | ⟨rfl, e⟩ | ⟨rfl, e⟩
    all_goals
      rw [e]
      clear e t4
      go_enter Try.func43, Try.ntmps43
      go_wp2
      go_ret
      exact ⟨rfl, ⟨heap_alloc_new w _, rfl, rfl⟩, (Below.refl _ _).alloc (Nat.le_refl _) _⟩
  · obtain ⟨n0, n1, n2, n3, hn⟩ := list4 hy.2.1
    have c1 := (h.blw hB).to hk
    have c2 : (w.alloc (.cells #[.int .i64 0, .bool true, .int .i64 0, .int .i64 0, .int .i64 0, .int .i64 0, .pointer none, .pointer none, .pointer none, .pointer none, .bool false] 69)).cell? ⟨b, 6 + q, none⟩ = some (.pointer (some ⟨c, 0, none⟩)) := c1
    have d0 := (hy.blw hB).num (k := 0) (n := n0) (by rw [hn]; rfl)
    have d1 := (hy.blw hB).num (k := 1) (n := n1) (by rw [hn]; rfl)
    have d2 := (hy.blw hB).num (k := 2) (n := n2) (by rw [hn]; rfl)
    have d3 := (hy.blw hB).num (k := 3) (n := n3) (by rw [hn]; rfl)
    simp only [Nat.reduceAdd] at d0 d1 d2 d3
    rw [hn]
    clear h hk hq ht hB c1 hy hn
    unfold ptr
    rcases set4 n0 n1 n2 n3 n t t4 trivial with ⟨rfl, e⟩ | ⟨rfl, e⟩ | ⟨rfl, e⟩ | ⟨rfl, e⟩
    all_goals
      rw [e]
      clear e t4
      go_enter Try.func43, Try.ntmps43
      go_wp2
      go_ret
      exact ⟨rfl, ⟨heap_alloc_new w _, rfl, rfl⟩, (Below.refl _ _).alloc (Nat.le_refl _) _⟩
end Go.Proofs.Ytnebelflnpbbiar
