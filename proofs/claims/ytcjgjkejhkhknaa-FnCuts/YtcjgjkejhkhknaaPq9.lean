/-
  FrS; ISmall; INext; BkP
-/
import Derived.Test.YtcjgjkejhkhknaaPq3
import Derived.Test.YtcjgjkejhkhknaaPq6
import Derived.Test.YtcjgjkejhkhknaaPq0
/-
  A row of numbers that grows while blocks are looked at; three answers.
-/
namespace Go.Proofs.Ytcjgjkejhkhknaa
open Go.RowKit

/-- A row of numbers that the call owns from block B on. -/
def IntsOf (w : World) (B : Nat) (u : Value) (l : List Int) : Prop := w.ownsRow B 3 1 u l.length (icells l)
/-- What a look at the blocks holds. -/
def Frs (w wr : World) (v out : Value) (l : List Int) : Prop := Below w.heap.size w wr ∧ wr.heap[w.heap.size]? = some (.cells #[v] 28 (0, 0)) ∧ IntsOf wr (w.heap.size + 1) out l
theorem Frs.below {w wr w' : World} {v out : Value} {l : List Int} (h : Frs w wr v out l) (hb : Below wr.heap.size wr w') : Frs w w' v out l :=
  ⟨h.1.trans (hb.mono h.1.size), (hb.block _ (Array.getElem?_eq_some_iff.1 h.2.1).1).trans h.2.1, own_below h.2.2 hb⟩
theorem Frs.snoc {w wr w2 : World} {v out v' : Value} {l : List Int} {x : Int} {t : TypeId} (h : Frs w wr v out l) (ho : w2.ownsRow (w.heap.size + 1) 3 1 v' (l.length + 1) (icells l ++ [.int .i64 x])) (hg : (wr.alloc (.cells #[.int .i64 x] t)).grownBy w2 out.ownBlock) : Frs w w2 v v' (l ++ [x]) := by
  have hz := h.below ((Below.refl _ _).alloc (Nat.le_refl _) (.cells #[.int .i64 x] t))
  have lt0 := (Array.getElem?_eq_some_iff.1 hz.2.1).1
  refine ⟨hz.1.grown hg hz.1.size (fun k hk => Nat.le_of_succ_le (h.2.2.lt k hk).1), (hg.block w.heap.size lt0 (fun e => ?_)).trans hz.2.1, ?_⟩
  · have := (h.2.2.lt _ e.symm).1
    omega
  · unfold IntsOf
    rw [List.length_append, ← icells_snoc]
    exact ho

/-- Three answers. -/
def plV (p : Int × Int × Bool) : Value := .tuple #[.int .i64 p.1, .int .i64 p.2.1, .bool p.2.2]
end Go.Proofs.Ytcjgjkejhkhknaa

/-
  impl.isBlockCount, impl.fillsLeaf, (*impl.Leaf).isRight.
-/
namespace Go.Proofs.Ytcjgjkejhkhknaa
open Go.RowKit

set_option maxHeartbeats 400000 in
set_option maxRecDepth 100000 in
theorem icount_b (x : Int) (b : Bool) (w : World) (h : (3 ≤ x ∧ x ≤ 10 ∧ b = true) ∨ ((x < 3 ∨ 3 ≤ x ∧ ¬ x ≤ 10) ∧ b = false)) :
    Calls Try.prog 87 #[.int .i64 x] w fun e w' => e = .returned (.bool b) ∧ w' = w := by
  rcases h with ⟨h1, h2, rfl⟩ | ⟨h1 | ⟨h1, h2⟩, rfl⟩
  all_goals
    go_enter Try.func87, Try.ntmps87
    go_wp2
    go_ret
    exact ⟨rfl, rfl⟩
theorem icount_any (x : Int) (w : World) :
    Calls Try.prog 87 #[.int .i64 x] w fun e w' => e = .returned (.bool (decide (3 ≤ x ∧ x ≤ 10))) ∧ w' = w := by
  apply icount_b
  by_cases h : 3 ≤ x ∧ x ≤ 10
  · exact .inl ⟨h.1, h.2, decide_eq_true h⟩
  · exact .inr ⟨by omega, decide_eq_false h⟩
theorem empty_size (t : ByteArray) : t.toList.isEmpty = decide (t.size = 0) := by
  rw [Lib.toList_data]
  have hsz : t.size = t.data.toList.length := rfl
  cases hc : t.data.toList with
  | nil => rw [hc] at hsz; exact (decide_eq_true hsz).symm
  | cons a l => rw [hc] at hsz; exact (decide_eq_false (by simp only [List.length_cons] at hsz; omega)).symm
def fillsP (t : ByteArray) : Bool := decide ((1 : Int) ≤ t.size ∧ (t.size : Int) ≤ 120)
set_option maxHeartbeats 400000 in
set_option maxRecDepth 100000 in
theorem fills_any (t : ByteArray) (w : World) :
    Calls Try.prog 138 #[.string t] w fun e w' => e = .returned (.bool (fillsP t)) ∧ w' = w := by
  by_cases h0 : t.size = 0
  · have he : t.toList.isEmpty = true := by rw [empty_size]; exact decide_eq_true h0
    have HE : Hid (fillsP t = false) := decide_eq_false (by omega)
    go_enter Try.func138, Try.ntmps138
    go_wp2
    go_ret
    exact ⟨by rw [HE.out]; rfl, rfl⟩
  · have he : t.toList.isEmpty = false := by rw [empty_size]; exact decide_eq_false h0
    have HE : Hid (fillsP t = decide ((t.size : Int) ≤ 120)) := by
      show _ = _
      unfold fillsP
      congr 1
      apply propext
      omega
    go_enter Try.func138, Try.ntmps138
    go_wp2
    go_ret
    exact ⟨by rw [HE.out]; rfl, rfl⟩
set_option maxHeartbeats 400000 in
set_option maxRecDepth 100000 in
theorem ileaf_any (g o : Nat) (x : Int) (t : ByteArray) (w : World) (h1 : w.cell? ⟨g, o, none⟩ = some (.int .i64 x)) (h2 : w.cell? ⟨g, o + 1, none⟩ = some (.string t)) :
    Calls Try.prog 115 #[.pointer (some ⟨g, o, none⟩)] w fun e w' => e = .returned (.bool (leafOk (x, t))) ∧ w' = w := by
  by_cases h0 : x = 0
  · subst h0
    have HE : Hid (leafOk (0, t) = t.toList.isEmpty) := by
      show _ = _
      rw [empty_size]
      simp only [leafOk]
      congr 1
      apply propext
      simp
    go_enter Try.func115, Try.ntmps115
    go_wp2
    go_ret
    exact ⟨by rw [HE.out]; rfl, rfl⟩
  · by_cases h1 : x = 1
    · subst h1
      have HE : Hid (leafOk (1, t) = fillsP t) := by
        show _ = _
        simp only [leafOk, fillsP]
        congr 1
        apply propext
        simp
        omega
      go_enter Try.func115, Try.ntmps115
      go_wp2_with fail
      refine (fills_any t _).mono ?_
      rintro e w1 ⟨rfl, rfl⟩
      rw [← HE.out]
      clear HE
      go_wp2
      go_ret
      exact ⟨rfl, rfl⟩
    · have e0 : (x == 0) = false := by simpa using h0
      have e1 : (x == 1) = false := by simpa using h1
      by_cases h2 : x = 2
      · subst h2
        have HE : Hid (leafOk (2, t) = decide ((t.size : Int) ≤ 120)) := by
          show _ = _
          simp only [leafOk]
          congr 1
          apply propext
          simp
          omega
        go_enter Try.func115, Try.ntmps115
        go_wp2
        go_ret
        exact ⟨by rw [HE.out]; rfl, rfl⟩
      · have e2 : (x == 2) = false := by simpa using h2
        have HE : Hid (leafOk (x, t) = false) := by
          show _ = _
          simp only [leafOk]
          exact decide_eq_false (by omega)
        go_enter Try.func115, Try.ntmps115
        go_wp2
        go_ret
        exact ⟨by rw [HE.out]; rfl, rfl⟩
end Go.Proofs.Ytcjgjkejhkhknaa

/-
  impl.NextBlank.
-/
namespace Go.Proofs.Ytcjgjkejhkhknaa
open Go.RowKit

set_option maxHeartbeats 400000 in
set_option maxRecDepth 100000 in
theorem inext_any (x : Bool) (y : Int) (v : Value) (ls : List (Int × ByteArray)) (B : Nat) (w : World) (hl : ls.length ≤ 1048576) (ha : w.ownsRow B 94 2 v ls.length (lcells ls)) :
    Calls Try.prog 25 #[.agg #[.bool x, .int .i64 y, v]] w fun e w' => e = .returned (.int .i64 (nextB ls : Nat)) ∧ Below w.heap.size w w' := by
  obtain ⟨ad, capa, rfl, a1, a2, a3⟩ := frow_form ha
  unfold maxLen at a2
  have A3 := hide a3
  have HB := hide ((Below.refl w.heap.size w).alloc (Nat.le_refl _) (.cells #[.bool x, .int .i64 y, .slice ad ls.length capa] 39))
  have HA := hide (own_below ha HB.out)
  clear a3 ha
  go_enter Try.func25, Try.ntmps25
  go_wp2
  have hcb := cell_of_row _ _ 2 _ _ _ (heap_alloc_new w (.cells #[.bool x, .int .i64 y, .slice ad ls.length capa] 39))
  have HCB : Hid ((w.alloc (.cells #[.bool x, .int .i64 y, .slice ad ls.length capa] 39)).cell? ⟨w.heap.size, 2, none⟩ = some (.slice ad ls.length capa)) := hcb
  have HSZ := hide (show (w.alloc (.cells #[.bool x, .int .i64 y, .slice ad ls.length capa] 39)).heap.size = w.heap.size + 1 by simp)
  clear hcb
  generalize w.alloc (.cells #[.bool x, .int .i64 y, .slice ad ls.length capa] 39) = wA at HB HA HCB HSZ ⊢
  go_loopw [7] (fun iv wr => ∃ k : Nat, k ≤ ls.length ∧ iv = .int .i64 k ∧ Hid (∀ (j : Nat) (u : Int × ByteArray), j < k → ls[j]? = some u → u.1 ≠ 0) ∧ Hid (Below wA.heap.size wA wr)) (fun iv _ => ls.length - (intOf iv).toNat)
  case atStart => exact ⟨0, Nat.zero_le _, rfl, (show ∀ (j : Nat) (u : Int × ByteArray), j < 0 → ls[j]? = some u → u.1 ≠ 0 from fun j u hj => by omega), Below.refl _ _⟩
  case round =>
    obtain ⟨k, hk, rfl, HN, HW⟩ := hrel
    have hcb : wr.cell? ⟨w.heap.size, 2, none⟩ = some (.slice ad ls.length capa) := (HW.out.cell (show w.heap.size < wA.heap.size by have := HSZ.out; omega)).trans HCB.out
    have HBW := hide (HB.out.trans (HW.out.mono HB.out.size))
    by_cases hlt : (k : Int) < ls.length
    · obtain ⟨g, rfl, _, hg⟩ := A3.out (by omega)
      have hkl : k < ls.length := by omega
      obtain ⟨z, t, ht⟩ : ∃ z t, ls[k]? = some (z, t) := ⟨ls[k].1, ls[k].2, List.getElem?_eq_getElem hkl⟩
      obtain ⟨c1, -⟩ := lown_cells (own_below HA.out HW.out) ht
      simp only at c1
      have HTT := hide ht
      have k0 : (0 : Int) ≤ k := by omega
      clear ht
      by_cases hz : z = 0
      · subst hz
        have HE := hide (nextB_at HTT.out rfl HN.out)
        go_wp2
        go_ret
        exact ⟨by rw [HE.out]; rfl, HBW.out⟩
      · have hz2 : (z == 0) = false := by simpa using hz
        go_wp2
        go_roundw
        case rel =>
          refine ⟨k + 1, by omega, by go_num, hide (fun j u hj hu => ?_), HW⟩
          by_cases hjk : j = k
          · subst hjk
            rw [HTT.out] at hu
            cases hu
            exact hz
          · exact HN.out j u (by omega) hu
        case measure => simp [intOf]; omega
    · have hke : k = ls.length := by omega
      have HE := hide (nextB_none (ls := ls) (fun j u hu => HN.out j u (by have := (List.getElem?_eq_some_iff.1 hu).1; omega) hu))
      clear hke
      go_wp2
      go_ret
      exact ⟨by rw [HE.out]; rfl, HBW.out⟩
end Go.Proofs.Ytcjgjkejhkhknaa

/-
  Blocks that are right, in plain words.
-/
namespace Go.Proofs.Ytcjgjkejhkhknaa

theorem nextB_le {ls : List (Int × ByteArray)} {k : Nat} {u : Int × ByteArray} (hu : ls[k]? = some u) (h0 : u.1 = 0) : nextB ls ≤ k := by
  obtain ⟨h1, h2⟩ := List.getElem?_eq_some_iff.1 hu
  have h : ls.findIdx (fun t => t.1 == 0) ≤ k := Nat.le_of_not_lt (fun hlt => by
    have h3 := List.not_of_lt_findIdx hlt
    rw [h2] at h3
    simp [h0] at h3)
  simp only [nextB]
  rw [if_pos (by omega)]
  exact h
theorem nextB_blank {ls : List (Int × ByteArray)} (h4 : ls.length ≤ 4) {k : Nat} (hk : k < ls.length) (hn : nextB ls < k) : ∃ u, ls[nextB ls]? = some u ∧ u.1 = 0 := by
  have h : ls.findIdx (fun t => t.1 == 0) < ls.length := Nat.lt_of_not_le (fun hh => by
    simp only [nextB] at hn
    rw [if_neg (by omega)] at hn
    omega)
  have e : nextB ls = ls.findIdx (fun t => t.1 == 0) := by simp only [nextB]; rw [if_pos h]
  have h3 := List.findIdx_getElem (w := h)
  refine ⟨ls[ls.findIdx (fun t => t.1 == 0)], by rw [e]; exact List.getElem?_eq_getElem h, by simpa using h3⟩
theorem blank_on {ls : List (Int × ByteArray)} (h : ∀ k, k < ls.length → leafAt ls k = true) {n : Nat} {u : Int × ByteArray} (hu : ls[n]? = some u) (h0 : u.1 = 0) (d : Nat) : ∀ t, ls[n + d]? = some t → t.1 = 0 := by
  induction d with
  | zero =>
    intro t ht
    rw [Nat.add_zero, hu] at ht
    cases ht
    exact h0
  | succ d ih =>
    intro t ht
    have hl := (List.getElem?_eq_some_iff.1 ht).1
    have hp : ls[n + d]? = some ls[n + d] := List.getElem?_eq_getElem (by omega)
    have hz := ih _ hp
    cases Decidable.em (t.1 = 0) with
    | inl e => exact e
    | inr e =>
      have := leafAt_bad (k := n + d) ht hp hz e
      rw [show n + d + 1 = n + (d + 1) from rfl, h _ hl] at this
      cases this
theorem blkOk_behind {b : Bk} {k : Nat} {t : Int × ByteArray} (h4 : b.2.2.length = 4) (ht : b.2.2[k]? = some t) (hn : nextB b.2.2 < k) (hz : t.1 ≠ 0) : blkOk b = false := by
  cases hb : blkOk b with
  | false => rfl
  | true =>
    have hk := (List.getElem?_eq_some_iff.1 ht).1
    simp only [blkOk, Bool.and_eq_true] at hb
    have hall : ∀ k, k < b.2.2.length → leafAt b.2.2 k = true := fun k hk => List.all_eq_true.1 hb.2 k (List.mem_range.2 hk)
    obtain ⟨u, hu, h0⟩ := nextB_blank (by omega) hk hn
    exact absurd (blank_on hall hu h0 (k - nextB b.2.2) t (by rw [show nextB b.2.2 + (k - nextB b.2.2) = k by omega]; exact ht)) hz
theorem blkOk_each {b : Bk} (h4 : b.2.2.length = 4) (hw : 0 ≤ b.2.1 ∧ b.2.1 ≤ 1000000000) (h : ∀ k t, b.2.2[k]? = some t → leafOk t = true ∧ (nextB b.2.2 < k → t.1 = 0)) : blkOk b = true := by
  refine blkOk_yes h4 hw (fun k hk => ?_)
  have ht : b.2.2[k]? = some b.2.2[k] := List.getElem?_eq_getElem hk
  generalize b.2.2[k] = t at ht
  cases k with
  | zero => exact leafAt_zero ht (h 0 t ht).1
  | succ k =>
    have hu : b.2.2[k]? = some b.2.2[k] := List.getElem?_eq_getElem (by omega)
    generalize b.2.2[k] = u at hu
    refine leafAt_yes ht hu (h _ t ht).1 ?_
    cases Decidable.em (u.1 = 0) with
    | inr e => exact Or.inl e
    | inl e => exact Or.inr ((h _ t ht).2 (by have := nextB_le hu e; omega))
end Go.Proofs.Ytcjgjkejhkhknaa
