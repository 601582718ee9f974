/-
  StMath; Same; CopyM
-/
import Derived.Test.YtcjgjkejhkhknaaPq3
import Derived.Test.YtcjgjkejhkhknaaFRow
import Derived.Test.YtcjgjkejhkhknaaPq7
/-
  Chapter 8 in plain words: steps, steps one behind the other, and where they are cut.
-/
namespace Go.Proofs.Ytcjgjkejhkhknaa

/-- A step: Kind, Block, Leaf, Text. -/
abbrev Stp := Int × Int × Int × ByteArray
def stV (s : Stp) : Value := .agg #[.int .i64 s.1, .int .i64 s.2.1, .int .i64 s.2.2.1, .string s.2.2.2]
def doF (bs : List Bk) (s : Stp) : List Bk × Bool := if s.1 = 1 then programF bs s.2.1 s.2.2.1 s.2.2.2 else if s.1 = 2 then wipeF bs s.2.1 else (bs, false)
theorem prog_false {bs : List Bk} {b leaf : Int} {t : ByteArray} (h : (programF bs b leaf t).2 = false) : (programF bs b leaf t).1 = bs := by
  unfold programF at *
  split
  · rename_i h1; rw [if_pos h1] at h; cases h
  · rfl
theorem wipe_false {bs : List Bk} {b : Int} (h : (wipeF bs b).2 = false) : (wipeF bs b).1 = bs := by
  unfold wipeF at *
  split
  · rename_i h1; rw [if_pos h1] at h; cases h
  · rfl
theorem do_false {bs : List Bk} {s : Stp} (h : (doF bs s).2 = false) : (doF bs s).1 = bs := by
  unfold doF at *
  split
  · rename_i h1; rw [if_pos h1] at h; exact prog_false h
  · rename_i h1
    rw [if_neg h1] at h
    split
    · rename_i h2; rw [if_pos h2] at h; exact wipe_false h
    · rfl
def doAll : List Bk → List Stp → List Bk × Nat
  | bs, [] => (bs, 0)
  | bs, s :: l => if (doF bs s).2 then ((doAll (doF bs s).1 l).1, (doAll (doF bs s).1 l).2 + 1) else (bs, 0)
theorem doAll_le (bs : List Bk) (l : List Stp) : (doAll bs l).2 ≤ l.length := by
  induction l generalizing bs with
  | nil => simp [doAll]
  | cons s l ih =>
    simp only [doAll]
    split
    · have := ih (doF bs s).1
      simp only [List.length_cons]
      omega
    · simp
/-- All of the first list done: then go on. -/
theorem doAll_app {bs c : List Bk} {l m : List Stp} (h : doAll bs l = (c, l.length)) : doAll bs (l ++ m) = ((doAll c m).1, l.length + (doAll c m).2) := by
  induction l generalizing bs with
  | nil =>
    simp only [doAll] at h
    cases h
    simp
  | cons s l ih =>
    simp only [doAll, List.length_cons] at h
    by_cases hs : (doF bs s).2 = true
    · rw [if_pos hs] at h
      have h1 : doAll (doF bs s).1 l = (c, l.length) := by
        have e1 := congrArg Prod.fst h
        have e2 := congrArg Prod.snd h
        simp only at e1 e2
        exact Prod.ext e1 (by simp only; omega)
      rw [List.cons_append, doAll, if_pos hs, ih h1]
      simp only [List.length_cons]
      congr 1
      omega
    · rw [if_neg hs] at h
      have e2 := congrArg Prod.snd h
      simp at e2
theorem doAll_one (bs : List Bk) (s : Stp) : doAll bs [s] = if (doF bs s).2 then ((doF bs s).1, 1) else (bs, 0) := by
  simp only [doAll]
theorem doAll_next {bs b : List Bk} {l : List Stp} {i : Nat} {s : Stp} (h : doAll bs (l.take i) = (b, i)) (hs : l[i]? = some s) (hd : (doF b s).2 = true) : doAll bs (l.take (i + 1)) = ((doF b s).1, i + 1) := by
  obtain ⟨h1, rfl⟩ := List.getElem?_eq_some_iff.1 hs
  have hl : (l.take i).length = i := by rw [List.length_take]; omega
  rw [List.take_succ_eq_append_getElem h1, doAll_app (c := b) (by rw [hl]; exact h), doAll_one, if_pos hd, hl]
theorem doAll_stop {bs b : List Bk} {l : List Stp} {i : Nat} {s : Stp} (h : doAll bs (l.take i) = (b, i)) (hs : l[i]? = some s) (hd : (doF b s).2 = false) : doAll bs l = (b, i) := by
  obtain ⟨h1, rfl⟩ := List.getElem?_eq_some_iff.1 hs
  have hl : (l.take i).length = i := by rw [List.length_take]; omega
  have e : l = l.take i ++ (l[i] :: l.drop (i + 1)) := by rw [← List.drop_eq_getElem_cons h1, List.take_append_drop]
  rw [e, doAll_app (c := b) (by rw [hl]; exact h), doAll, if_neg (by rw [hd]; simp), hl]
  rfl
theorem doAll_end {bs b : List Bk} {l : List Stp} {i : Nat} (h : doAll bs (l.take i) = (b, i)) (hi : i = l.length) : doAll bs l = (b, l.length) := by
  subst hi
  rw [List.take_of_length_le (Nat.le_refl _)] at h
  exact h
/-- What is done is done by the first of them alone. -/
theorem doAll_pre (bs : List Bk) (l : List Stp) (k : Nat) (hk : k ≤ (doAll bs l).2) : ∃ b, doAll bs (l.take k) = (b, k) ∧ doAll b (l.drop k) = ((doAll bs l).1, (doAll bs l).2 - k) := by
  induction l generalizing bs k with
  | nil =>
    simp only [doAll] at hk
    have : k = 0 := by omega
    subst this
    exact ⟨bs, rfl, rfl⟩
  | cons s l ih =>
    cases k with
    | zero => exact ⟨bs, by simp [doAll], by simp⟩
    | succ k =>
      by_cases hs : (doF bs s).2 = true
      · simp only [doAll, if_pos hs] at hk ⊢
        obtain ⟨b, h1, h2⟩ := ih (doF bs s).1 k (by omega)
        refine ⟨b, ?_, ?_⟩
        · rw [List.take_succ_cons, doAll, if_pos hs, h1]
        · rw [List.drop_succ_cons, h2]
          congr 1
          omega
      · simp only [doAll, if_neg hs] at hk
        omega

def halfT (t : ByteArray) : ByteArray := t.extract 0 (t.size / 2)
theorem halfT_size (t : ByteArray) : (halfT t).size = t.size / 2 := by
  unfold halfT
  rw [ByteArray.size_extract]
  omega
/-- What a torn step leaves, where it may be done. -/
def tornF (bs : List Bk) (s : Stp) : List Bk :=
  if s.1 = 1 then bs.modify s.2.1.toNat (fun r => (r.1, r.2.1, r.2.2.set s.2.2.1.toNat (2, halfT s.2.2.2)))
  else bs.modify s.2.1.toNat (fun r => (r.1, r.2.1, List.replicate r.2.2.length (2, ⟨#[]⟩)))
def tormF (bs : List Bk) (s : Stp) : List Bk × Bool := if (doF bs s).2 then (tornF bs s, true) else (bs, false)
def cutF (bs : List Bk) (l : List Stp) (whole : Int) (torn : Bool) : List Bk × Bool :=
  if 0 ≤ whole ∧ whole ≤ l.length then
    if (doAll bs (l.take whole.toNat)).2 = whole.toNat then
      match torn, l[whole.toNat]? with
      | true, some s => if (tormF (doAll bs (l.take whole.toNat)).1 s).2 then ((tormF (doAll bs (l.take whole.toNat)).1 s).1, true) else (bs, false)
      | _, _ => ((doAll bs (l.take whole.toNat)).1, true)
    else (bs, false)
  else (bs, false)
theorem cut_out {bs : List Bk} {l : List Stp} {whole : Int} {torn : Bool} (h : ¬ (0 ≤ whole ∧ whole ≤ l.length)) : cutF bs l whole torn = (bs, false) := by
  unfold cutF
  rw [if_neg h]
theorem cut_less {bs : List Bk} {l : List Stp} {k : Nat} {torn : Bool} {c : List Bk} {n : Nat} (h : doAll bs (l.take k) = (c, n)) (hn : n ≠ k) : cutF bs l (k : Int) torn = (bs, false) := by
  unfold cutF
  rw [Int.toNat_natCast, h]
  split
  · first | rfl | (rw [if_neg hn])
  · rfl
theorem cut_whole {bs : List Bk} {l : List Stp} {k : Nat} {torn : Bool} {c : List Bk} (h : doAll bs (l.take k) = (c, k)) (hk : k ≤ l.length) (ht : torn = false ∨ k = l.length) : cutF bs l (k : Int) torn = (c, true) := by
  unfold cutF
  rw [Int.toNat_natCast, h, if_pos ⟨by omega, by omega⟩, if_pos rfl]
  rcases ht with rfl | rfl
  · rfl
  · rw [List.getElem?_eq_none (Nat.le_refl _)]
    cases torn <;> rfl
theorem cut_torn {bs : List Bk} {l : List Stp} {k : Nat} {c : List Bk} {s : Stp} (h : doAll bs (l.take k) = (c, k)) (hs : l[k]? = some s) : cutF bs l (k : Int) true = if (tormF c s).2 then ((tormF c s).1, true) else (bs, false) := by
  have hk := (List.getElem?_eq_some_iff.1 hs).1
  unfold cutF
  rw [Int.toNat_natCast, h, if_pos ⟨by omega, by omega⟩, if_pos rfl, hs]
/-- A step that can be done has its place. -/
theorem do_place {bs : List Bk} {s : Stp} (h : (doF bs s).2 = true) : ∃ (k : Nat) (r : Bk), s.2.1 = k ∧ bs[k]? = some r ∧ r.2.2.length = 4 ∧ (s.1 = 1 ∨ s.1 = 2) ∧ (s.1 = 1 → ∃ j : Nat, s.2.2.1 = j ∧ j < 4 ∧ j = nextB r.2.2 ∧ 1 ≤ s.2.2.2.size ∧ s.2.2.2.size ≤ 120) ∧ flOk bs = true ∧ r.1 = false := by
  have four : ∀ r ∈ bs, flOk bs = true → r.2.2.length = 4 := by
    intro r hr h
    simp only [flOk, Bool.and_eq_true, List.all_eq_true] at h
    have h2 := h.2 r hr
    simp only [blkOk, Bool.and_eq_true, decide_eq_true_eq] at h2
    exact h2.1.1
  unfold doF at h
  by_cases h1 : s.1 = 1
  · rw [if_pos h1] at h
    unfold programF at h
    split at h
    · rename_i h2
      rw [Bool.and_eq_true] at h2
      obtain ⟨hf, hm⟩ := h2
      unfold mayP at hm
      cases hb : bs[s.2.1.toNat]? with
      | none => rw [hb] at hm; cases hm
      | some r =>
        rw [hb] at hm
        have hm := of_decide_eq_true hm
        exact ⟨s.2.1.toNat, r, by omega, hb, four r (List.mem_of_getElem? hb) hf, Or.inl h1, fun _ => ⟨nextB r.2.2, hm.2.2.2.1, by omega, rfl, hm.2.2.2.2.1, hm.2.2.2.2.2⟩, hf, hm.2.1⟩
    · cases h
  · rw [if_neg h1] at h
    by_cases h2 : s.1 = 2
    · rw [if_pos h2] at h
      unfold wipeF at h
      split at h
      · rename_i h3
        rw [Bool.and_eq_true] at h3
        obtain ⟨hf, hm⟩ := h3
        unfold mayW at hm
        cases hb : bs[s.2.1.toNat]? with
        | none => rw [hb] at hm; cases hm
        | some r =>
          rw [hb] at hm
          have hm := of_decide_eq_true hm
          exact ⟨s.2.1.toNat, r, by omega, hb, four r (List.mem_of_getElem? hb) hf, Or.inr h2, fun h => absurd h h1, hf, hm.2.1⟩
      · cases h
    · rw [if_neg h2] at h
      cases h
end Go.Proofs.Ytcjgjkejhkhknaa

/-
  A cell that is written with what it holds: nothing turns.
-/
namespace Go.Proofs.Ytcjgjkejhkhknaa
theorem setCell_same (w : World) (g k : Nat) (u : Value) (h : w.cell? ⟨g, k, none⟩ = some u) : w.setCell ⟨g, k, none⟩ u = w := by
  unfold World.setCell
  have e : ∀ (f : Obj → Obj), (∀ o, w.heap[g]? = some o → f o = o) → w.heap.modify g f = w.heap := by
    intro f hf
    apply Array.ext_getElem?
    intro i
    rw [Array.getElem?_modify]
    split
    · rename_i hi
      subst hi
      cases ho : w.heap[g]? with
      | none => rfl
      | some o => simp [hf o ho]
    · rfl
  rw [e]
  intro o ho
  cases o with
  | cells c t fr =>
    simp only [World.cell?, ho] at h
    have hc : c[k]? = some u := by simpa using h
    obtain ⟨hk, rfl⟩ := Array.getElem?_eq_some_iff.1 hc
    have e2 : c.setIfInBounds k c[k] = c := by
      apply Array.ext_getElem?
      intro i
      rw [Array.getElem?_setIfInBounds]
      split
      · rename_i hi
        subst hi
        simp [hk]
      · rfl
    simp [e2]
  | _ => rfl
end Go.Proofs.Ytcjgjkejhkhknaa

/-
  A flash that is being copied by the program: the first blocks have leaves of their own, the others still those of the flash that came in.
-/
namespace Go.Proofs.Ytcjgjkejhkhknaa
open Go.RowKit

theorem kcells_one (rs : List Rw) (h : ∀ r ∈ rs, ∃ a n c, r.2.2.1 = .slice a n c) : ∀ v ∈ kcells (rs.map cellOf), v.oneCell' = true := by
  intro v hv
  obtain ⟨t, ht, hv⟩ := List.mem_flatMap.1 hv
  obtain ⟨r, hr, rfl⟩ := List.mem_map.1 ht
  obtain ⟨a, n, c, e⟩ := h r hr
  simp only [kcell, cellOf, e] at hv
  exact blk_one _ _ _ _ _ v hv
def CopyI (B : Nat) (w : World) (v : Value) (rs d : List Rw) : Prop :=
  w.ownsRow B 39 3 v rs.length (kcells (d.map cellOf ++ (rs.drop d.length).map cellOf)) ∧ (∀ r ∈ d, LeafIn w B w.heap.size r.2.2.1 r.2.2.2) ∧
    (d.map fun r => r.2.2.1).Pairwise (fun a b => a.ownBlock = none ∨ a.ownBlock ≠ b.ownBlock)
theorem CopyI.below {B : Nat} {w w' : World} {v : Value} {rs d : List Rw} (h : CopyI B w v rs d) (hb : Below w.heap.size w w') : CopyI B w' v rs d :=
  ⟨own_below h.1 hb, fun r hr => ((h.2.1 r hr).below hb (Nat.le_refl _)).up hb.size, h.2.2⟩
theorem CopyI.start {B : Nat} {w : World} {v : Value} {rs : List Rw} (h : w.ownsRow B 39 3 v rs.length (kcells (rs.map cellOf))) : CopyI B w v rs [] :=
  ⟨(by simpa using h), fun r hr => (by cases hr), List.Pairwise.nil⟩
theorem CopyI.done {B : Nat} {w : World} {v : Value} {rs d : List Rw} (h : CopyI B w v rs d) (hd : d.length = rs.length) : FlashIn w B w.heap.size v d := by
  obtain ⟨h1, h2, h3⟩ := h
  rw [List.drop_eq_nil_of_le (by omega), List.map_nil, List.append_nil] at h1
  exact ⟨by rw [hd]; exact h1, fun g hg => (own_block_lt h1 g hg).2, h2, h3⟩
theorem copy_mid {rs d : List Rw} {r : Rw} (hr : rs[d.length]? = some r) : (d.map cellOf ++ (rs.drop d.length).map cellOf)[d.length]? = some (cellOf r) := by
  rw [List.getElem?_append_right (by simp), List.length_map, Nat.sub_self, List.getElem?_map, List.getElem?_drop, Nat.add_zero, hr]
  rfl
theorem CopyI.at {B : Nat} {w : World} {g n cap : Nat} {rs d : List Rw} {r : Rw} (h : CopyI B w (.slice (some ⟨g, 0, none⟩) n cap) rs d) (hn : n = rs.length) (hr : rs[d.length]? = some r) :
    w.cell? ⟨g, d.length * 3, none⟩ = some (.bool r.1) ∧ w.cell? ⟨g, d.length * 3 + 1, none⟩ = some (.int .i64 r.2.1) ∧ w.cell? ⟨g, d.length * 3 + 2, none⟩ = some r.2.2.1 := by
  subst hn
  exact kown_cells (t := cellOf r) h.1 (copy_mid hr)
theorem CopyI.lt3 {B : Nat} {w : World} {v : Value} {rs d : List Rw} {r : Rw} (h : CopyI B w v rs d) (hr : rs[d.length]? = some r) : d.length * 3 + 2 < (kcells (d.map cellOf ++ (rs.drop d.length).map cellOf)).length := by
  have hl := (List.getElem?_eq_some_iff.1 hr).1
  have := h.1.1
  omega
/-- A cell of an own row that is written holds what was written. -/
theorem row_cell_set {w : World} {B : Nat} {e : TypeId} {size g n cap : Nat} {xs : List Value} (h : w.ownsRow B e size (.slice (some ⟨g, 0, none⟩) n cap) n xs) (k : Nat) (u : Value) (hk : k < xs.length) : (w.setCell ⟨g, k, none⟩ u).cell? ⟨g, k, none⟩ = some u := by
  have o := fown_set h rfl k u
  have := o.cells (g := g) rfl k u (by rw [List.getElem?_set_self hk])
  rw [addr_at] at this
  exact this
theorem CopyI.step {B : Nat} {w w3 : World} {g n cap : Nat} {rs d : List Rw} {x : Bool} {y : Int} {u0 v' : Value} {ls ls0 : List (Int × ByteArray)} (h : CopyI B w (.slice (some ⟨g, 0, none⟩) n cap) rs d) (hn : n = rs.length) (hr : rs[d.length]? = some (x, y, u0, ls0))
    (hb : Below w.heap.size w w3) (hv : w3.ownsRow w.heap.size 94 2 v' ls.length (lcells ls)) (hB : B ≤ w.heap.size) : CopyI B (w3.setCell ⟨g, d.length * 3 + 2, none⟩ v') (.slice (some ⟨g, 0, none⟩) n cap) rs (d ++ [(x, y, v', ls)]) := by
  subst hn
  obtain ⟨h1, h2, h3⟩ := h
  have o3 := own_below h1 hb
  have o4 := fown_set o3 rfl (d.length * 3 + 2) v'
  have hlen := (List.getElem?_eq_some_iff.1 hr).1
  have hL : (d.map cellOf ++ (rs.drop d.length).map cellOf).set d.length (x, y, v') = (d ++ [((x, y, v', ls) : Rw)]).map cellOf ++ (rs.drop (d ++ [((x, y, v', ls) : Rw)]).length).map cellOf := by
    rw [List.set_append_right _ _ (by simp), List.length_map, Nat.sub_self, List.drop_eq_getElem_cons hlen, List.map_cons, List.set_cons_zero, List.map_append, List.append_assoc]
    simp [cellOf]
  rw [(kcells_upd _ d.length _ (copy_mid hr)).2.2 v'] at o4
  simp only [cellOf] at o4
  have hL2 : (d.map cellOf ++ (rs.drop d.length).map cellOf).set d.length (x, y, v') = _ := hL
  have o5 : (w3.setCell ⟨g, d.length * 3 + 2, none⟩ v').ownsRow B 39 3 (.slice (some ⟨g, 0, none⟩) rs.length cap) rs.length (kcells ((d ++ [((x, y, v', ls) : Rw)]).map cellOf ++ (rs.drop (d ++ [((x, y, v', ls) : Rw)]).length).map cellOf)) := by
    rw [← hL2]
    exact o4
  have hs := hb.size
  refine ⟨o5, fun r hr => ?_, ?_⟩
  · have hl : LeafIn w3 B w3.heap.size r.2.2.1 r.2.2.2 := by
      rcases List.mem_append.1 hr with hr | hr
      · exact ((h2 r hr).below hb (Nat.le_refl _)).up hs
      · rw [List.mem_singleton] at hr
        subst hr
        exact ⟨own_down hv hB, fun g hg => (own_block_lt hv g hg).2⟩
    have : LeafIn (w3.setCell ⟨g, d.length * 3 + 2, none⟩ v') B w3.heap.size r.2.2.1 r.2.2.2 := ⟨hl.1.kept (grown_cell w3 g _ v') (leaf_ne o3 hl.1), hl.2⟩
    simpa [World.setCell] using this
  · rw [List.map_append, List.pairwise_append]
    refine ⟨h3, by simp, fun a ha b hb2 => ?_⟩
    obtain ⟨r, hr, rfl⟩ := List.mem_map.1 ha
    simp at hb2
    subst hb2
    cases hq : r.2.2.1.ownBlock with
    | none => exact Or.inl rfl
    | some g =>
      refine Or.inr (fun e => ?_)
      have k1 := (h2 r hr).2 g hq
      have k2 := (own_block_lt hv g e.symm).1
      omega
end Go.Proofs.Ytcjgjkejhkhknaa
