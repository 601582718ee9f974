/-
  CeSt; StRow
-/
import Derived.Test.YtcjgjkejhkhknaaPq0
import Derived.Test.YtcjgjkejhkhknaaPq80
import Derived.Test.YtcjgjkejhkhknaaPq6
/-
  The cells of Steps in a row.
-/
namespace Go.Proofs.Ytcjgjkejhkhknaa
open Go.RowKit

/-- The cells of elements. -/
def stcell (t : Int × Int × Int × ByteArray) : List Value := [.int .i64 t.1, .int .i64 t.2.1, .int .i64 t.2.2.1, .string t.2.2.2]
def stcells (l : List (Int × Int × Int × ByteArray)) : List Value := l.flatMap stcell
theorem stcells_len (l : List (Int × Int × Int × ByteArray)) : (stcells l).length = l.length * 4 := by
  induction l with
  | nil => rfl
  | cons t l ih => simp [stcells, stcell] at ih ⊢; omega
theorem stcells_app (a b : List (Int × Int × Int × ByteArray)) : stcells (a ++ b) = stcells a ++ stcells b := by simp [stcells]
theorem stcells_cons (t : Int × Int × Int × ByteArray) (l : List (Int × Int × Int × ByteArray)) : stcells (t :: l) = stcell t ++ stcells l := by simp [stcells]
theorem stcells_at (l : List (Int × Int × Int × ByteArray)) (k : Nat) (t : Int × Int × Int × ByteArray) (h : l[k]? = some t) (j : Nat) (v : Value) (hj : (stcell t)[j]? = some v) : (stcells l)[k * 4 + j]? = some v := by
  have hlt : j < 4 := (List.getElem?_eq_some_iff.1 hj).1
  induction l generalizing k with
  | nil => simp at h
  | cons a l ih =>
    rw [stcells_cons]
    cases k with
    | zero =>
      simp at h
      subst h
      rw [List.getElem?_append_left (by show _ < 4; omega), Nat.zero_mul, Nat.zero_add]
      exact hj
    | succ k =>
      rw [List.getElem?_append_right (by show 4 ≤ _; omega), show (k + 1) * 4 + j - (stcell a).length = k * 4 + j by show _ - 4 = _; omega]
      exact ih k (by simpa using h)
theorem stcells_one (l : List (Int × Int × Int × ByteArray)) : ∀ v ∈ stcells l, v.oneCell' = true := by
  intro v hv
  obtain ⟨t, -, ht⟩ := List.mem_flatMap.1 hv
  simp [stcell] at ht
  rcases ht with h | h | h | h <;> subst h <;> rfl
theorem infoSt : (Try.prog.info? 49).map (fun i => (i.zero, i.size, i.bytes)) = some (some (.agg #[.int .i64 0, .int .i64 0, .int .i64 0, .string ⟨#[]⟩]), 4, 40) := by kernel_rfl
theorem infoStz : (Try.prog.info? 49).map (·.size) = some 4 := by kernel_rfl
end Go.Proofs.Ytcjgjkejhkhknaa

/-
  Rows of steps that can be read, wherever they begin.
-/
namespace Go.Proofs.Ytcjgjkejhkhknaa
open Go.RowKit

def StAt (w : World) (g o : Nat) (s : Stp) : Prop := w.cell? ⟨g, o, none⟩ = some (.int .i64 s.1) ∧ w.cell? ⟨g, o + 1, none⟩ = some (.int .i64 s.2.1) ∧ w.cell? ⟨g, o + 2, none⟩ = some (.int .i64 s.2.2.1) ∧ w.cell? ⟨g, o + 3, none⟩ = some (.string s.2.2.2)
def StRd (w : World) (u : Value) (l : List Stp) : Prop :=
  ∃ ad cap, u = .slice ad l.length cap ∧ l.length ≤ cap ∧ cap ≤ 9223372036854775807 ∧ (ad = none → cap = 0) ∧ ∀ i s, l[i]? = some s → ∃ g o, ad = some ⟨g, o, none⟩ ∧ StAt w g (o + i * 4) s
theorem StAt.below {w w' : World} {g o : Nat} {s : Stp} (h : StAt w g o s) (hb : Below w.heap.size w w') : StAt w' g o s := by
  obtain ⟨c1, c2, c3, c4⟩ := h
  exact ⟨(hb.cell (World.block_lt_of_cell? w _ c1)).trans c1, (hb.cell (World.block_lt_of_cell? w _ c2)).trans c2, (hb.cell (World.block_lt_of_cell? w _ c3)).trans c3, (hb.cell (World.block_lt_of_cell? w _ c4)).trans c4⟩
theorem StRd.below {w w' : World} {u : Value} {l : List Stp} (h : StRd w u l) (hb : Below w.heap.size w w') : StRd w' u l := by
  obtain ⟨ad, cap, e, h1, h2, h3, h⟩ := h
  refine ⟨ad, cap, e, h1, h2, h3, fun i s hs => ?_⟩
  obtain ⟨g, o, e2, h4⟩ := h i s hs
  exact ⟨g, o, e2, h4.below hb⟩
theorem StRd.form {w : World} {u : Value} {l : List Stp} (h : StRd w u l) : ∃ ad cap, u = .slice ad l.length cap ∧ l.length ≤ cap ∧ cap ≤ 9223372036854775807 ∧ (ad = none → cap = 0) := by
  obtain ⟨ad, cap, e, h1, h2, h3, h⟩ := h
  exact ⟨ad, cap, e, h1, h2, h3⟩
theorem StRd.at {w : World} {ad : Option Addr} {n cap i : Nat} {l : List Stp} {s : Stp} (h : StRd w (.slice ad n cap) l) (hs : l[i]? = some s) : ∃ g o, ad = some ⟨g, o, none⟩ ∧ StAt w g (o + i * 4) s := by
  obtain ⟨ad', cap', e, h1, h2, h3, h⟩ := h
  injection e with e1 e2 e3
  subst e1
  exact h i s hs
/-- The first k of them. -/
theorem StRd.take {w : World} {ad : Option Addr} {n cap : Nat} {l : List Stp} (h : StRd w (.slice ad n cap) l) (k : Nat) (hk : k ≤ l.length) : StRd w (.slice ad k cap) (l.take k) := by
  obtain ⟨ad', cap', e, h1, h2, h3, h⟩ := h
  injection e with e1 e2 e3
  subst e1 e3
  refine ⟨ad, cap, by rw [List.length_take, Nat.min_eq_left hk], by rw [List.length_take]; omega, h2, h3, fun i s hs => ?_⟩
  rw [List.getElem?_take] at hs
  split at hs
  · exact h i s hs
  · cases hs
/-- All but the first k. -/
theorem StRd.drop {w : World} {g o n cap : Nat} {l : List Stp} (h : StRd w (.slice (some ⟨g, o, none⟩) n cap) l) (k : Nat) (hk : k ≤ l.length) : StRd w (.slice (if cap = k then some ⟨g, o, none⟩ else some ⟨g, o + k * 4, none⟩) (n - k) (cap - k)) (l.drop k) := by
  obtain ⟨ad', cap', e, h1, h2, h3, h⟩ := h
  injection e with e1 e2 e3
  subst e1 e2 e3
  refine ⟨_, _, by rw [List.length_drop], by rw [List.length_drop]; omega, by omega, (fun e => by split at e <;> cases e), fun i s hs => ?_⟩
  rw [List.getElem?_drop] at hs
  have hlt := (List.getElem?_eq_some_iff.1 hs).1
  obtain ⟨g', o', e, h4⟩ := h _ s hs
  injection e with e
  injection e with e5 e6
  subst e5 e6
  rw [if_neg (by omega)]
  refine ⟨g, o + k * 4, rfl, ?_⟩
  rw [show o + k * 4 + i * 4 = o + (k + i) * 4 by omega]
  exact h4
theorem step_size (w : World) : (sizeOf (Try.prog.elem 40)).run Try.prog w = .ok 4 w := by kernel_rfl
theorem step_slice : Try.prog.underlying 40 = some (.slice (Try.prog.elem 40)) := by kernel_rfl
theorem addr_zero (a : Addr) : a.add 0 = a := by
  simp only [Addr.add]
  split <;> simp_all
/-- list[:k]. -/
theorem take_run (ad : Option Addr) (n cap k : Nat) (w : World) (hk : k ≤ cap) : (Instr.slice 40 (.slice ad n cap) none (some (.int .i64 (k : Int))) none).run Try.prog w = .ok (.slice ad k cap) w := by
  rw [run_slice_h w 40 ad n cap step_slice .i64 _ (by omega) (by omega), step_size]
  simp only [Result.andThen, sliced, Int.toNat_natCast, Nat.zero_mul, Nat.sub_zero]
  congr 2
  split
  · rfl
  · cases ad <;> simp [addr_zero]
/-- list[k:]. -/
theorem drop_run (g o n cap k : Nat) (w : World) (hk : k ≤ n) : (Instr.slice 40 (.slice (some ⟨g, o, none⟩) n cap) (some (.int .i64 (k : Int))) none none).run Try.prog w = .ok (.slice (if cap = k then some ⟨g, o, none⟩ else some ⟨g, o + k * 4, none⟩) (n - k) (cap - k)) w := by
  rw [run_slice_l w 40 (some ⟨g, o, none⟩) n cap step_slice .i64 _ (by omega) (by omega), step_size]
  simp only [Result.andThen, sliced, Int.toNat_natCast]
  congr 2
  split
  · rfl
  · simp [addr_offR]
end Go.Proofs.Ytcjgjkejhkhknaa
