/-
  StShape; StRow
-/
import Derived.Test.YthgfhjfnlecolapStRd
import Derived.Test.YthgfhjfnlecolapLawB
import Derived.Test.YthgfhjfnlecolapStMath
import Derived.Test.YthgfhjfnlecolapPk6
/-
  Steps leave blocks as long as they were; what the laws' measure says of a flash.
-/
namespace Go.Proofs.Ythgfhjfnlecolap
open Go.RowKit

abbrev shp (bs : List Bk) : List Nat := bs.map (fun r => r.2.2.length)
theorem shp_modify (bs : List Bk) (k : Nat) (f : Bk → Bk) (h : ∀ r, bs[k]? = some r → (f r).2.2.length = r.2.2.length) : shp (bs.modify k f) = shp bs := by
  apply List.ext_getElem?
  intro i
  unfold shp
  rw [List.getElem?_map, List.getElem?_map, List.getElem?_modify]
  by_cases hi : k = i
  · subst hi
    cases hb : bs[k]? with
    | none => rfl
    | some r => simp [h r hb]
  · simp [hi]
theorem shp_prog (bs : List Bk) (b leaf : Int) (t : ByteArray) : shp (programF bs b leaf t).1 = shp bs := by
  unfold programF
  split
  · exact shp_modify _ _ _ (fun r _ => by simp)
  · rfl
theorem shp_wipe (bs : List Bk) (b : Int) : shp (wipeF bs b).1 = shp bs := by
  unfold wipeF
  split
  · rename_i h
    rw [Bool.and_eq_true] at h
    refine shp_modify _ _ _ (fun r hr => ?_)
    rw [flOk_four h.1 (List.mem_of_getElem? hr)]
    rfl
  · rfl
theorem shp_do (bs : List Bk) (s : Stp) : shp (doF bs s).1 = shp bs := by
  unfold doF
  split
  · exact shp_prog _ _ _ _
  · split
    · exact shp_wipe _ _
    · rfl
theorem shp_all (bs : List Bk) (l : List Stp) : shp (doAll bs l).1 = shp bs := by
  induction l generalizing bs with
  | nil => rfl
  | cons s l ih =>
    simp only [doAll]
    split
    · exact (ih _).trans (shp_do bs s)
    · rfl
theorem shp_torn (bs : List Bk) (s : Stp) : shp (tornF bs s) = shp bs := by
  unfold tornF
  split
  · exact shp_modify _ _ _ (fun r _ => by simp)
  · exact shp_modify _ _ _ (fun r _ => by simp)
theorem shp_torm (bs : List Bk) (s : Stp) : shp (tormF bs s).1 = shp bs := by
  unfold tormF
  split
  · exact shp_torn bs s
  · rfl
theorem shp_cut (bs : List Bk) (l : List Stp) (whole : Int) (torn : Bool) : shp (cutF bs l whole torn).1 = shp bs := by
  unfold cutF
  split
  · split
    · split
      · split
        · exact (shp_torm _ _).trans (shp_all _ _)
        · rfl
      · exact shp_all _ _
    · rfl
  · rfl
theorem Sml.of {bs : List Bk} (ho : Okk bs) (ht : TxK bs) : Sml bs := ⟨ho.1, fun r hr => ⟨ho.2.1 r hr, ht r hr⟩⟩
end Go.Proofs.Ythgfhjfnlecolap

/-
  Rows of steps that can be read, wherever they begin.
-/
namespace Go.Proofs.Ythgfhjfnlecolap
open Go.RowKit

def StAt (w : World) (g o : Nat) (s : Stp) : Prop := w.cell? ⟨g, o, none⟩ = some (.int .i64 s.1) ∧ w.cell? ⟨g, o + 1, none⟩ = some (.int .i64 s.2.1) ∧ w.cell? ⟨g, o + 2, none⟩ = some (.int .i64 s.2.2.1) ∧ w.cell? ⟨g, o + 3, none⟩ = some (.string s.2.2.2)
def StRd (w : World) (u : Value) (l : List Stp) : Prop :=
  ∃ ad cap, u = .slice ad l.length cap ∧ l.length ≤ cap ∧ cap ≤ 9223372036854775807 ∧ (ad = none → cap = 0) ∧ ∀ i s, l[i]? = some s → ∃ g o, ad = some ⟨g, o, none⟩ ∧ StAt w g (o + i * 4) s
theorem StAt.below {w w' : World} {g o : Nat} {s : Stp} (h : StAt w g o s) (hb : Below w.heap.size w w') : StAt w' g o s := by
  obtain ⟨c1, c2, c3, c4⟩ := h
  exact ⟨(hb.cell (World.block_lt_of_cell? w _ c1)).trans c1, (hb.cell (World.block_lt_of_cell? w _ c2)).trans c2, (hb.cell (World.block_lt_of_cell? w _ c3)).trans c3, (hb.cell (World.block_lt_of_cell? w _ c4)).trans c4⟩
theorem StRd.below {w w' : World} {u : Value} {l : List Stp} (h : StRd w u l) (hb : Below w.heap.size w w') : StRd w' u l := by
  obtain ⟨ad, cap, e, h1, h2, h3, h⟩ := h
  refine ⟨ad, cap, e, h1, h2, h3, fun i s hs => ?_⟩
  obtain ⟨g, o, e2, h4⟩ := h i s hs
  exact ⟨g, o, e2, h4.below hb⟩
theorem StRd.form {w : World} {u : Value} {l : List Stp} (h : StRd w u l) : ∃ ad cap, u = .slice ad l.length cap ∧ l.length ≤ cap ∧ cap ≤ 9223372036854775807 ∧ (ad = none → cap = 0) := by
  obtain ⟨ad, cap, e, h1, h2, h3, h⟩ := h
  exact ⟨ad, cap, e, h1, h2, h3⟩
theorem StRd.at {w : World} {ad : Option Addr} {n cap i : Nat} {l : List Stp} {s : Stp} (h : StRd w (.slice ad n cap) l) (hs : l[i]? = some s) : ∃ g o, ad = some ⟨g, o, none⟩ ∧ StAt w g (o + i * 4) s := by
  obtain ⟨ad', cap', e, h1, h2, h3, h⟩ := h
  injection e with e1 e2 e3
  subst e1
  exact h i s hs
/-- The first k of them. -/
theorem StRd.take {w : World} {ad : Option Addr} {n cap : Nat} {l : List Stp} (h : StRd w (.slice ad n cap) l) (k : Nat) (hk : k ≤ l.length) : StRd w (.slice ad k cap) (l.take k) := by
  obtain ⟨ad', cap', e, h1, h2, h3, h⟩ := h
  injection e with e1 e2 e3
  subst e1 e3
  refine ⟨ad, cap, by rw [List.length_take, Nat.min_eq_left hk], by rw [List.length_take]; omega, h2, h3, fun i s hs => ?_⟩
  rw [List.getElem?_take] at hs
  split at hs
  · exact h i s hs
  · cases hs
/-- All but the first k. -/
theorem StRd.drop {w : World} {g o n cap : Nat} {l : List Stp} (h : StRd w (.slice (some ⟨g, o, none⟩) n cap) l) (k : Nat) (hk : k ≤ l.length) : StRd w (.slice (if cap = k then some ⟨g, o, none⟩ else some ⟨g, o + k * 4, none⟩) (n - k) (cap - k)) (l.drop k) := by
  obtain ⟨ad', cap', e, h1, h2, h3, h⟩ := h
  injection e with e1 e2 e3
  subst e1 e2 e3
  refine ⟨_, _, by rw [List.length_drop], by rw [List.length_drop]; omega, by omega, (fun e => by split at e <;> cases e), fun i s hs => ?_⟩
  rw [List.getElem?_drop] at hs
  have hlt := (List.getElem?_eq_some_iff.1 hs).1
  obtain ⟨g', o', e, h4⟩ := h _ s hs
  injection e with e
  injection e with e5 e6
  subst e5 e6
  rw [if_neg (by omega)]
  refine ⟨g, o + k * 4, rfl, ?_⟩
  rw [show o + k * 4 + i * 4 = o + (k + i) * 4 by omega]
  exact h4
theorem step_size (w : World) : (sizeOf (Try.prog.elem 48)).run Try.prog w = .ok 4 w := by kernel_rfl
theorem step_slice : Try.prog.underlying 48 = some (.slice (Try.prog.elem 48)) := by kernel_rfl
theorem addr_zero (a : Addr) : a.add 0 = a := by
  simp only [Addr.add]
  split <;> simp_all
/-- list[:k]. -/
theorem take_run (ad : Option Addr) (n cap k : Nat) (w : World) (hk : k ≤ cap) : (Instr.slice 48 (.slice ad n cap) none (some (.int .i64 (k : Int))) none).run Try.prog w = .ok (.slice ad k cap) w := by
  rw [run_slice_h w 48 ad n cap step_slice .i64 _ (by omega) (by omega), step_size]
  simp only [Result.andThen, sliced, Int.toNat_natCast, Nat.zero_mul, Nat.sub_zero]
  congr 2
  split
  · rfl
  · cases ad <;> simp [addr_zero]
/-- list[k:]. -/
theorem drop_run (g o n cap k : Nat) (w : World) (hk : k ≤ n) : (Instr.slice 48 (.slice (some ⟨g, o, none⟩) n cap) (some (.int .i64 (k : Int))) none none).run Try.prog w = .ok (.slice (if cap = k then some ⟨g, o, none⟩ else some ⟨g, o + k * 4, none⟩) (n - k) (cap - k)) w := by
  rw [run_slice_l w 48 (some ⟨g, o, none⟩) n cap step_slice .i64 _ (by omega) (by omega), step_size]
  simp only [Result.andThen, sliced, Int.toNat_natCast]
  congr 2
  split
  · rfl
  · simp [addr_off]
end Go.Proofs.Ythgfhjfnlecolap
