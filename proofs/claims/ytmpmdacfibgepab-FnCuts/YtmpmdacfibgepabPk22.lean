/-
  CeSt; StRow; RoMath
-/
import Derived.Test.YtmpmdacfibgepabPk0
import Derived.Test.YtmpmdacfibgepabPk1
import Derived.Test.YtmpmdacfibgepabPk4
/-
  The cells of Steps in a row.
-/
namespace Go.Proofs.Ytmpmdacfibgepab
open Go.RowKit

/-- The cells of elements. -/
def stcell (t : Int × Int × Int × ByteArray) : List Value := [.int .i64 t.1, .int .i64 t.2.1, .int .i64 t.2.2.1, .string t.2.2.2]
def stcells (l : List (Int × Int × Int × ByteArray)) : List Value := l.flatMap stcell
theorem stcells_len (l : List (Int × Int × Int × ByteArray)) : (stcells l).length = l.length * 4 := by
  induction l with
  | nil => rfl
  | cons t l ih => simp [stcells, stcell] at ih ⊢; omega
theorem stcells_app (a b : List (Int × Int × Int × ByteArray)) : stcells (a ++ b) = stcells a ++ stcells b := by simp [stcells]
theorem stcells_cons (t : Int × Int × Int × ByteArray) (l : List (Int × Int × Int × ByteArray)) : stcells (t :: l) = stcell t ++ stcells l := by simp [stcells]
theorem stcells_at (l : List (Int × Int × Int × ByteArray)) (k : Nat) (t : Int × Int × Int × ByteArray) (h : l[k]? = some t) (j : Nat) (v : Value) (hj : (stcell t)[j]? = some v) : (stcells l)[k * 4 + j]? = some v := by
  have hlt : j < 4 := (List.getElem?_eq_some_iff.1 hj).1
  induction l generalizing k with
  | nil => simp at h
  | cons a l ih =>
    rw [stcells_cons]
    cases k with
    | zero =>
      simp at h
      subst h
      rw [List.getElem?_append_left (by show _ < 4; omega), Nat.zero_mul, Nat.zero_add]
      exact hj
    | succ k =>
      rw [List.getElem?_append_right (by show 4 ≤ _; omega), show (k + 1) * 4 + j - (stcell a).length = k * 4 + j by show _ - 4 = _; omega]
      exact ih k (by simpa using h)
theorem stcells_one (l : List (Int × Int × Int × ByteArray)) : ∀ v ∈ stcells l, v.oneCell' = true := by
  intro v hv
  obtain ⟨t, -, ht⟩ := List.mem_flatMap.1 hv
  simp [stcell] at ht
  rcases ht with h | h | h | h <;> subst h <;> rfl
theorem infoSt : (Try.prog.info? 52).map (fun i => (i.zero, i.size, i.bytes)) = some (some (.agg #[.int .i64 0, .int .i64 0, .int .i64 0, .string ⟨#[]⟩]), 4, 40) := by kernel_rfl
theorem infoStz : (Try.prog.info? 52).map (·.size) = some 4 := by kernel_rfl
end Go.Proofs.Ytmpmdacfibgepab

/-
  Rows of steps that can be read, wherever they begin.
-/
namespace Go.Proofs.Ytmpmdacfibgepab
open Go.RowKit

def StAt (w : World) (g o : Nat) (s : Stp) : Prop := w.cell? ⟨g, o, none⟩ = some (.int .i64 s.1) ∧ w.cell? ⟨g, o + 1, none⟩ = some (.int .i64 s.2.1) ∧ w.cell? ⟨g, o + 2, none⟩ = some (.int .i64 s.2.2.1) ∧ w.cell? ⟨g, o + 3, none⟩ = some (.string s.2.2.2)
def StRd (w : World) (u : Value) (l : List Stp) : Prop :=
  ∃ ad cap, u = .slice ad l.length cap ∧ l.length ≤ cap ∧ cap ≤ 9223372036854775807 ∧ (ad = none → cap = 0) ∧ ∀ i s, l[i]? = some s → ∃ g o, ad = some ⟨g, o, none⟩ ∧ StAt w g (o + i * 4) s
theorem StAt.below {w w' : World} {g o : Nat} {s : Stp} (h : StAt w g o s) (hb : Below w.heap.size w w') : StAt w' g o s := by
  obtain ⟨c1, c2, c3, c4⟩ := h
  exact ⟨(hb.cell (World.block_lt_of_cell? w _ c1)).trans c1, (hb.cell (World.block_lt_of_cell? w _ c2)).trans c2, (hb.cell (World.block_lt_of_cell? w _ c3)).trans c3, (hb.cell (World.block_lt_of_cell? w _ c4)).trans c4⟩
theorem StRd.below {w w' : World} {u : Value} {l : List Stp} (h : StRd w u l) (hb : Below w.heap.size w w') : StRd w' u l := by
  obtain ⟨ad, cap, e, h1, h2, h3, h⟩ := h
  refine ⟨ad, cap, e, h1, h2, h3, fun i s hs => ?_⟩
  obtain ⟨g, o, e2, h4⟩ := h i s hs
  exact ⟨g, o, e2, h4.below hb⟩
theorem StRd.form {w : World} {u : Value} {l : List Stp} (h : StRd w u l) : ∃ ad cap, u = .slice ad l.length cap ∧ l.length ≤ cap ∧ cap ≤ 9223372036854775807 ∧ (ad = none → cap = 0) := by
  obtain ⟨ad, cap, e, h1, h2, h3, h⟩ := h
  exact ⟨ad, cap, e, h1, h2, h3⟩
theorem StRd.at {w : World} {ad : Option Addr} {n cap i : Nat} {l : List Stp} {s : Stp} (h : StRd w (.slice ad n cap) l) (hs : l[i]? = some s) : ∃ g o, ad = some ⟨g, o, none⟩ ∧ StAt w g (o + i * 4) s := by
  obtain ⟨ad', cap', e, h1, h2, h3, h⟩ := h
  injection e with e1 e2 e3
  subst e1
  exact h i s hs
/-- The first k of them. -/
theorem StRd.take {w : World} {ad : Option Addr} {n cap : Nat} {l : List Stp} (h : StRd w (.slice ad n cap) l) (k : Nat) (hk : k ≤ l.length) : StRd w (.slice ad k cap) (l.take k) := by
  obtain ⟨ad', cap', e, h1, h2, h3, h⟩ := h
  injection e with e1 e2 e3
  subst e1 e3
  refine ⟨ad, cap, by rw [List.length_take, Nat.min_eq_left hk], by rw [List.length_take]; omega, h2, h3, fun i s hs => ?_⟩
  rw [List.getElem?_take] at hs
  split at hs
  · exact h i s hs
  · cases hs
/-- All but the first k. -/
theorem StRd.drop {w : World} {g o n cap : Nat} {l : List Stp} (h : StRd w (.slice (some ⟨g, o, none⟩) n cap) l) (k : Nat) (hk : k ≤ l.length) : StRd w (.slice (if cap = k then some ⟨g, o, none⟩ else some ⟨g, o + k * 4, none⟩) (n - k) (cap - k)) (l.drop k) := by
  obtain ⟨ad', cap', e, h1, h2, h3, h⟩ := h
  injection e with e1 e2 e3
  subst e1 e2 e3
  refine ⟨_, _, by rw [List.length_drop], by rw [List.length_drop]; omega, by omega, (fun e => by split at e <;> cases e), fun i s hs => ?_⟩
  rw [List.getElem?_drop] at hs
  have hlt := (List.getElem?_eq_some_iff.1 hs).1
  obtain ⟨g', o', e, h4⟩ := h _ s hs
  injection e with e
  injection e with e5 e6
  subst e5 e6
  rw [if_neg (by omega)]
  refine ⟨g, o + k * 4, rfl, ?_⟩
  rw [show o + k * 4 + i * 4 = o + (k + i) * 4 by omega]
  exact h4
theorem step_size (w : World) : (sizeOf (Try.prog.elem 40)).run Try.prog w = .ok 4 w := by kernel_rfl
theorem step_slice : Try.prog.underlying 40 = some (.slice (Try.prog.elem 40)) := by kernel_rfl
theorem addr_zero (a : Addr) : a.add 0 = a := by
  simp only [Addr.add]
  split <;> simp_all
/-- list[:k]. -/
theorem take_run (ad : Option Addr) (n cap k : Nat) (w : World) (hk : k ≤ cap) : (Instr.slice 40 (.slice ad n cap) none (some (.int .i64 (k : Int))) none).run Try.prog w = .ok (.slice ad k cap) w := by
  rw [run_slice_h w 40 ad n cap step_slice .i64 _ (by omega) (by omega), step_size]
  simp only [Result.andThen, sliced, Int.toNat_natCast, Nat.zero_mul, Nat.sub_zero]
  congr 2
  split
  · rfl
  · cases ad <;> simp [addr_zero]
/-- list[k:]. -/
theorem drop_run (g o n cap k : Nat) (w : World) (hk : k ≤ n) : (Instr.slice 40 (.slice (some ⟨g, o, none⟩) n cap) (some (.int .i64 (k : Int))) none none).run Try.prog w = .ok (.slice (if cap = k then some ⟨g, o, none⟩ else some ⟨g, o + k * 4, none⟩) (n - k) (cap - k)) w := by
  rw [run_slice_l w 40 (some ⟨g, o, none⟩) n cap step_slice .i64 _ (by omega) (by omega), step_size]
  simp only [Result.andThen, sliced, Int.toNat_natCast]
  congr 2
  split
  · rfl
  · simp [addr_offR]
end Go.Proofs.Ytmpmdacfibgepab

/-
  What chapter 7 says of room, in plain words.
-/
namespace Go.Proofs.Ytmpmdacfibgepab

/-- How many of these leaves are blank. -/
def blanks (ls : List (Int × ByteArray)) : Nat := ls.countP (fun t => t.1 == 0)
theorem blanks_le (ls : List (Int × ByteArray)) : blanks ls ≤ ls.length := List.countP_le_length
theorem blanks_take {ls : List (Int × ByteArray)} {k : Nat} {t : Int × ByteArray} (ht : ls[k]? = some t) : blanks (ls.take (k + 1)) = blanks (ls.take k) + if t.1 = 0 then 1 else 0 := by
  obtain ⟨h1, h2⟩ := List.getElem?_eq_some_iff.1 ht
  rw [List.take_succ_eq_append_getElem h1, h2]
  unfold blanks
  rw [List.countP_append]
  by_cases h : t.1 = 0 <;> simp [h]
def freeB (b : Bk) : Bool := !b.1 && decide (blanks b.2.2 = b.2.2.length)
def openB (b : Bk) : Bool := !b.1 && decide (0 < blanks b.2.2 ∧ blanks b.2.2 < b.2.2.length)
/-- The free ones of the first k blocks. -/
def freeTo (bs : List Bk) : Nat → List Int
  | 0 => []
  | k + 1 => freeTo bs k ++ (match bs[k]? with | some b => if freeB b = true then [(k : Int)] else [] | none => [])
def freeL (bs : List Bk) : List Int := freeTo bs bs.length
theorem freeTo_yes {bs : List Bk} {k : Nat} {b : Bk} (hb : bs[k]? = some b) (h : freeB b = true) : freeTo bs (k + 1) = freeTo bs k ++ [(k : Int)] := by simp [freeTo, hb, h]
theorem freeTo_no {bs : List Bk} {k : Nat} {b : Bk} (hb : bs[k]? = some b) (h : freeB b = false) : freeTo bs (k + 1) = freeTo bs k := by simp [freeTo, hb, h]
theorem freeTo_len (bs : List Bk) (k : Nat) : (freeTo bs k).length ≤ k := by
  induction k with
  | zero => exact Nat.le_refl _
  | succ k ih =>
    simp only [freeTo, List.length_append]
    split
    · split <;> simp <;> omega
    · simp; omega
theorem freeTo_mem {bs : List Bk} {k : Nat} {x : Int} (h : x ∈ freeTo bs k) : ∃ i : Nat, x = i ∧ i < k ∧ ∃ b, bs[i]? = some b ∧ freeB b = true := by
  induction k with
  | zero => cases h
  | succ k ih =>
    simp only [freeTo, List.mem_append] at h
    rcases h with h | h
    · obtain ⟨i, e, hi, r⟩ := ih h
      exact ⟨i, e, by omega, r⟩
    · cases hb : bs[k]? with
      | none => rw [hb] at h; cases h
      | some b =>
        rw [hb] at h
        simp only at h
        by_cases hf : freeB b = true
        · rw [if_pos hf, List.mem_singleton] at h
          exact ⟨k, h, by omega, b, hb, hf⟩
        · rw [if_neg hf] at h
          cases h
theorem freeTo_has {bs : List Bk} {k i : Nat} {b : Bk} (hi : i < k) (hb : bs[i]? = some b) (hf : freeB b = true) : (i : Int) ∈ freeTo bs k := by
  induction k with
  | zero => omega
  | succ k ih =>
    simp only [freeTo, List.mem_append]
    by_cases e : i = k
    · subst e
      right
      rw [hb]
      simp [hf]
    · exact Or.inl (ih (by omega))
theorem freeTo_asc (bs : List Bk) (k : Nat) : (freeTo bs k).Pairwise (· < ·) := by
  induction k with
  | zero => exact List.Pairwise.nil
  | succ k ih =>
    simp only [freeTo]
    refine List.pairwise_append.2 ⟨ih, ?_, fun a ha c hc => ?_⟩
    · split
      · split
        · exact List.pairwise_singleton _ _
        · exact List.Pairwise.nil
      · exact List.Pairwise.nil
    · obtain ⟨i, rfl, hi, -⟩ := freeTo_mem ha
      cases hb : bs[k]? with
      | none => rw [hb] at hc; cases hc
      | some b =>
        rw [hb] at hc
        simp only at hc
        split at hc
        · rw [List.mem_singleton] at hc
          omega
        · cases hc
/-- The first open block; -1 without one. -/
def openF (bs : List Bk) : Int := if bs.findIdx openB < bs.length then (bs.findIdx openB : Int) else -1
theorem openF_at {bs : List Bk} {k : Nat} {b : Bk} (hb : bs[k]? = some b) (h : openB b = true) (hn : ∀ (j : Nat) (c : Bk), j < k → bs[j]? = some c → openB c = false) : openF bs = k := by
  obtain ⟨h1, h2⟩ := List.getElem?_eq_some_iff.1 hb
  have e : bs.findIdx openB = k := by
    rw [List.findIdx_eq h1]
    refine ⟨by rw [h2]; exact h, fun j hj => ?_⟩
    exact hn j bs[j] hj (List.getElem?_eq_getElem (by omega))
  simp only [openF, e, if_pos h1]
theorem openF_none {bs : List Bk} (hn : ∀ (j : Nat) (c : Bk), bs[j]? = some c → openB c = false) : openF bs = -1 := by
  have e : bs.findIdx openB = bs.length := by
    rw [List.findIdx_eq_length]
    intro c hc
    obtain ⟨j, hj, rfl⟩ := List.getElem_of_mem hc
    exact hn j bs[j] (List.getElem?_eq_getElem hj)
  simp only [openF, e]
  rw [if_neg (by omega)]
theorem openF_cases (bs : List Bk) : (openF bs = -1 ∧ ∀ (j : Nat) (c : Bk), bs[j]? = some c → openB c = false) ∨ ∃ k b, openF bs = (k : Nat) ∧ bs[k]? = some b ∧ openB b = true ∧ ∀ (j : Nat) (c : Bk), j < k → bs[j]? = some c → openB c = false := by
  by_cases h : bs.findIdx openB < bs.length
  · right
    refine ⟨bs.findIdx openB, bs[bs.findIdx openB], by simp only [openF, if_pos h], List.getElem?_eq_getElem h, List.findIdx_getElem, fun j c hj hc => ?_⟩
    obtain ⟨h1, rfl⟩ := List.getElem?_eq_some_iff.1 hc
    have := List.not_of_lt_findIdx hj
    simpa using this
  · left
    refine ⟨by simp only [openF, if_neg h], fun j c hc => ?_⟩
    have e : bs.findIdx openB = bs.length := by have := List.findIdx_le_length (xs := bs) (p := openB); omega
    rw [List.findIdx_eq_length] at e
    exact e c (List.mem_of_getElem? hc)
/-- The blank leaves of the first k blocks that are not Bad. -/
def roomTo (bs : List Bk) : Nat → Nat
  | 0 => 0
  | k + 1 => roomTo bs k + (match bs[k]? with | some b => if b.1 = true then 0 else blanks b.2.2 | none => 0)
def roomF (bs : List Bk) : Nat := roomTo bs bs.length
theorem roomTo_yes {bs : List Bk} {k : Nat} {b : Bk} (hb : bs[k]? = some b) (h : b.1 = false) : roomTo bs (k + 1) = roomTo bs k + blanks b.2.2 := by simp [roomTo, hb, h]
theorem roomTo_no {bs : List Bk} {k : Nat} {b : Bk} (hb : bs[k]? = some b) (h : b.1 = true) : roomTo bs (k + 1) = roomTo bs k := by simp [roomTo, hb, h]
theorem roomTo_le {bs : List Bk} {m : Nat} (hll : ∀ b ∈ bs, b.2.2.length ≤ m) (k : Nat) : roomTo bs k ≤ k * m := by
  induction k with
  | zero => exact Nat.zero_le _
  | succ k ih =>
    rw [Nat.succ_mul]
    simp only [roomTo]
    cases hb : bs[k]? with
    | none => simp only; omega
    | some b =>
      have h1 := hll b (List.mem_of_getElem? hb)
      have h2 := blanks_le b.2.2
      simp only
      split <;> omega
end Go.Proofs.Ytmpmdacfibgepab
