/-
  FRP; DvM2
-/
import Derived.Test.YtiicghepilbgfaaGreatDoorPk22
/-
  Right flashes stay right.
-/
namespace Go.Proofs.YtiicghepilbgfaaGreatDoor

theorem blkOk_open {b : Bk} (h : blkOk b = true) : b.2.2.length = 4 ∧ (0 ≤ b.2.1 ∧ b.2.1 ≤ 1000000000) ∧ ∀ k t, b.2.2[k]? = some t → leafOk t = true ∧ (nextB b.2.2 < k → t.1 = 0) := by
  have h0 := h
  simp only [blkOk, Bool.and_eq_true, decide_eq_true_eq] at h
  refine ⟨h.1.1, h.1.2, fun k t ht => ?_⟩
  have hk := (List.getElem?_eq_some_iff.1 ht).1
  have hl := List.all_eq_true.1 h.2 k (List.mem_range.2 hk)
  refine ⟨?_, fun hn => ?_⟩
  · cases hq : leafOk t with
    | true => rfl
    | false =>
      rw [leafAt_no ht hq] at hl
      cases hl
  · cases Decidable.em (t.1 = 0) with
    | inl e => exact e
    | inr e =>
      rw [blkOk_behind h.1.1 ht hn e] at h0
      cases h0
theorem flOk_open {bs : List Bk} (h : flOk bs = true) : (3 ≤ bs.length ∧ bs.length ≤ 10) ∧ ∀ b ∈ bs, blkOk b = true := by
  simp only [flOk, Bool.and_eq_true, List.all_eq_true, decide_eq_true_eq] at h
  exact h
theorem flOk_shut {bs : List Bk} (h1 : 3 ≤ bs.length ∧ bs.length ≤ 10) (h2 : ∀ b ∈ bs, blkOk b = true) : flOk bs = true := by
  rw [flOk_all h2]
  exact decide_eq_true h1
theorem nextB_le4 (ls : List (Int × ByteArray)) (h : ls.length = 4) : nextB ls ≤ 4 := by
  unfold nextB
  split <;> omega
theorem nextB_first {ls : List (Int × ByteArray)} {i : Nat} {u : Int × ByteArray} (hu : ls[i]? = some u) (hi : i < nextB ls) : u.1 ≠ 0 := by
  intro h0
  have := nextB_le hu h0
  omega
theorem nextB_set {b : Bk} (h : blkOk b = true) (hj : nextB b.2.2 < 4) (z : Int) (t : ByteArray) (hz : z ≠ 0) : nextB (b.2.2.set (nextB b.2.2) (z, t)) = nextB b.2.2 + 1 := by
  obtain ⟨h4, -, h2⟩ := blkOk_open h
  generalize hn : nextB b.2.2 = j at hj
  have hb : ∀ (i : Nat) (u : Int × ByteArray), i < j + 1 → (b.2.2.set j (z, t))[i]? = some u → u.1 ≠ 0 := by
    intro i u hi hu
    by_cases e : j = i
    · subst e
      rw [List.getElem?_set_self (by omega)] at hu
      cases hu
      exact hz
    · rw [List.getElem?_set_ne e] at hu
      exact nextB_first hu (by omega)
  by_cases hj3 : j + 1 < 4
  · have hu : b.2.2[j + 1]? = some b.2.2[j + 1] := List.getElem?_eq_getElem (by omega)
    refine nextB_at (t := b.2.2[j + 1]) (by rw [List.getElem?_set_ne (by omega)]; exact hu) ((h2 (j + 1) _ hu).2 (by omega)) hb
  · rw [nextB_none (fun i u hu => hb i u (by have := (List.getElem?_eq_some_iff.1 hu).1; rw [List.length_set] at this; omega) hu)]
    omega
theorem blkOk_put {b : Bk} (h : blkOk b = true) (hj : nextB b.2.2 < 4) (z : Int) (t : ByteArray) (hz : z ≠ 0) (hl : leafOk (z, t) = true) : blkOk (b.1, b.2.1, b.2.2.set (nextB b.2.2) (z, t)) = true := by
  obtain ⟨h4, hw, h2⟩ := blkOk_open h
  refine blkOk_each (by simpa using h4) hw (fun k u hu => ?_)
  simp only at hu ⊢
  rw [nextB_set h hj z t hz]
  by_cases e : nextB b.2.2 = k
  · subst e
    rw [List.getElem?_set_self (by omega)] at hu
    cases hu
    exact ⟨hl, fun hh => by omega⟩
  · rw [List.getElem?_set_ne e] at hu
    exact ⟨(h2 k u hu).1, fun hh => (h2 k u hu).2 (by omega)⟩
theorem flOk_modify {bs : List Bk} {k : Nat} {f : Bk → Bk} (h : flOk bs = true) (hf : ∀ r, bs[k]? = some r → blkOk (f r) = true) : flOk (bs.modify k f) = true := by
  obtain ⟨h1, h2⟩ := flOk_open h
  refine flOk_shut (by rw [List.length_modify]; exact h1) (fun b hb => ?_)
  obtain ⟨i, hi, rfl⟩ := List.getElem_of_mem hb
  have hq : (bs.modify k f)[i]? = some (bs.modify k f)[i] := List.getElem?_eq_getElem hi
  generalize (bs.modify k f)[i] = x at hq
  rw [List.getElem?_modify] at hq
  cases hb : bs[i]? with
  | none => rw [hb] at hq; cases hq
  | some r =>
    rw [hb] at hq
    by_cases e : k = i
    · subst e
      simp at hq
      subst hq
      exact hf r hb
    · simp [e] at hq
      subst hq
      exact h2 _ (List.mem_of_getElem? hb)
theorem blank4_ok (x : Bool) (y : Int) (hy : 0 ≤ y ∧ y ≤ 1000000000) : blkOk (x, y, blank4) = true := by
  refine blkOk_each rfl hy (fun k t ht => ?_)
  have hm : t ∈ blank4 := List.mem_of_getElem? ht
  have e : t = (0, ⟨#[]⟩) := by
    simp only [blank4, List.mem_cons, List.not_mem_nil, or_false, or_self] at hm
    exact hm
  subst e
  exact ⟨rfl, fun _ => rfl⟩
/-- A right flash, no block of which was wiped more than n times. -/
def Right (n : Int) (bs : List Bk) : Prop := flOk bs = true ∧ ∀ r ∈ bs, r.2.1 ≤ n
theorem mem_modify {bs : List Bk} {k : Nat} {f : Bk → Bk} {x : Bk} (h : x ∈ bs.modify k f) : x ∈ bs ∨ ∃ r, bs[k]? = some r ∧ x = f r := by
  obtain ⟨i, hi, rfl⟩ := List.getElem_of_mem h
  have hq : (bs.modify k f)[i]? = some (bs.modify k f)[i] := List.getElem?_eq_getElem hi
  generalize (bs.modify k f)[i] = x at hq
  rw [List.getElem?_modify] at hq
  cases hb : bs[i]? with
  | none => rw [hb] at hq; cases hq
  | some r =>
    rw [hb] at hq
    by_cases e : k = i
    · subst e
      simp at hq
      subst hq
      exact Or.inr ⟨r, hb, rfl⟩
    · simp [e] at hq
      subst hq
      exact Or.inl (List.mem_of_getElem? hb)
theorem Right.new {n : Int} (h : 3 ≤ n ∧ n ≤ 10) : Right 0 (newF n) := by
  unfold newF
  rw [if_pos h]
  refine ⟨flOk_shut (by rw [List.length_replicate]; omega) (fun b hb => ?_), fun r hr => ?_⟩
  · rw [(List.mem_replicate.1 hb).2]
    exact blank4_ok _ _ (by omega)
  · rw [(List.mem_replicate.1 hr).2]
    exact Int.le_refl _
theorem Right.prog {n : Int} {bs : List Bk} (h : Right n bs) (b leaf : Int) (t : ByteArray) : Right n (programF bs b leaf t).1 := by
  unfold programF
  split
  · rename_i hh
    rw [Bool.and_eq_true] at hh
    have hm := hh.2
    unfold mayP at hm
    cases hb : bs[b.toNat]? with
    | none => rw [hb] at hm; cases hm
    | some r =>
      rw [hb] at hm
      obtain ⟨h0, hf, hl4, hln, ht1, ht2⟩ := of_decide_eq_true hm
      have hj : leaf.toNat = nextB r.2.2 := by omega
      have hok : leafOk (1, t) = true := decide_eq_true (Or.inr (Or.inl ⟨rfl, ht1, ht2⟩))
      refine ⟨flOk_modify h.1 (fun q hq => ?_), fun q hq => ?_⟩
      · rw [hb] at hq
        cases hq
        rw [hj]
        exact blkOk_put ((flOk_open h.1).2 r (List.mem_of_getElem? hb)) (by omega) 1 t (by omega) hok
      · rcases mem_modify hq with hq | ⟨x, hx, rfl⟩
        · exact h.2 q hq
        · exact h.2 x (List.mem_of_getElem? hx)
  · exact h
theorem Right.wipe {n : Int} {bs : List Bk} (h : Right n bs) (hn : n < 1000000000) (b : Int) : Right (n + 1) (wipeF bs b).1 := by
  unfold wipeF
  split
  · refine ⟨flOk_modify h.1 (fun q hq => ?_), fun q hq => ?_⟩
    · have h1 := (blkOk_open ((flOk_open h.1).2 q (List.mem_of_getElem? hq))).2.1
      have h2 := h.2 q (List.mem_of_getElem? hq)
      exact blank4_ok _ _ (by omega)
    · rcases mem_modify hq with hq | ⟨x, hx, rfl⟩
      · have := h.2 q hq
        omega
      · have := h.2 x (List.mem_of_getElem? hx)
        simp only
        omega
  · exact ⟨h.1, fun r hr => by have := h.2 r hr; omega⟩
theorem Right.put {n : Int} {bs : List Bk} {k : Nat} {r : Bk} (h : Right n bs) (hr : bs[k]? = some r) (hj : nextB r.2.2 < 4) (z : Int) (t : ByteArray) (hz : z ≠ 0) (hl : leafOk (z, t) = true) : Right n (bs.modify k (fun q => (q.1, q.2.1, q.2.2.set (nextB r.2.2) (z, t)))) := by
  refine ⟨flOk_modify h.1 (fun q hq => ?_), fun q hq => ?_⟩
  · rw [hr] at hq
    cases hq
    exact blkOk_put ((flOk_open h.1).2 r (List.mem_of_getElem? hr)) hj z t hz hl
  · rcases mem_modify hq with hq | ⟨x, hx, rfl⟩
    · exact h.2 q hq
    · exact h.2 x (List.mem_of_getElem? hx)
theorem Right.bad {n : Int} {bs : List Bk} (h : Right n bs) (b : Int) : Right n (badF bs b) := by
  unfold badF
  split
  · refine ⟨flOk_modify h.1 (fun q hq => ?_), fun q hq => ?_⟩
    · have := (flOk_open h.1).2 q (List.mem_of_getElem? hq)
      obtain ⟨h4, hw, h2⟩ := blkOk_open this
      exact blkOk_each h4 hw h2
    · rcases mem_modify hq with hq | ⟨x, hx, rfl⟩
      · exact h.2 q hq
      · exact h.2 x (List.mem_of_getElem? hx)
  · exact h
theorem Right.mono {n m : Int} {bs : List Bk} (h : Right n bs) (hm : n ≤ m) : Right m bs := ⟨h.1, fun r hr => by have := h.2 r hr; omega⟩
theorem Right.lens {n : Int} {bs : List Bk} (h : Right n bs) : 3 ≤ bs.length ∧ bs.length ≤ 10 ∧ ∀ r ∈ bs, r.2.2.length = 4 := by
  obtain ⟨h1, h2⟩ := flOk_open h.1
  exact ⟨h1.1, h1.2, fun r hr => (blkOk_open (h2 r hr)).1⟩
theorem Right.tx {n : Int} {bs : List Bk} (h : Right n bs) : ∀ r ∈ bs, ∀ t ∈ r.2.2, t.2.size ≤ 120 := by
  intro r hr t ht
  obtain ⟨k, hk, rfl⟩ := List.getElem_of_mem ht
  have := ((blkOk_open ((flOk_open h.1).2 r hr)).2.2 k _ (List.getElem?_eq_getElem hk)).1
  have := of_decide_eq_true this
  omega
end Go.Proofs.YtiicghepilbgfaaGreatDoor

/-
  Devices: what steps that put pages make of them.
-/
namespace Go.Proofs.YtiicghepilbgfaaGreatDoor
open Words Sums Pack

theorem right_top {bs : List Bk} (h : flOk bs = true) : Right 1000000000 bs := ⟨h, fun r hr => (blkOk_open ((flOk_open h).2 r hr)).2.1.2⟩
theorem prog_right {bs : List Bk} (h : flOk bs = true) (b l : Int) (t : ByteArray) : flOk (programF bs b l t).1 = true := ((right_top h).prog b l t).1
theorem leaf_none {bs : List Bk} {k j : Nat} {b : Bk} {u : Int × ByteArray} (hb : bs[k]? = some b) (hj : b.2.2[j]? = some u) (h0 : u.1 = 0) : leafPg bs k j = none := by
  unfold leafPg
  have : (readF bs (k : Int) (j : Int)).2 = false := by
    unfold readF
    rw [Int.toNat_natCast, hb]
    simp only [Int.toNat_natCast, hj]
    simp [h0]
  rw [this]
  rfl
/-- The flash behind some pages that were put, each with a number above all others. -/
theorem put_scan {bs : List Bk} {l : List Stp} {p : Pg} (hok : flOk bs = true) (hk : ∀ y ∈ scanF bs, y.key < p.seq) (h : (putP bs l p).2.2 = true) :
    ∃ (cs : List Bk) (s : Stp) (x : Fnd), putP bs l p = (cs, l ++ [s], true) ∧ doF bs s = (cs, true) ∧ flOk cs = true ∧ x.page = p ∧ p.Right ∧ scanF cs = scanF bs ++ [x] ∧ x.block = s.2.1 ∧ s.1 = 1 ∧ roomF cs + 1 = roomF bs := by
  obtain ⟨hr, k, b, s, hb, h1, h2, ⟨u, hu, hu0⟩, hs, hd, hp⟩ := put_ok hok h
  have hsz : 1 ≤ (sealA (pageA p)).size ∧ (sealA (pageA p)).size ≤ 120 := by
    have hf : (doF bs s).2 = true := by rw [hd]
    obtain ⟨k', r, e1, -, -, -, h5⟩ := do_place hf
    obtain ⟨j, -, -, -, h8, h9⟩ := h5.1 (by rw [hs])
    rw [hs] at h8 h9
    exact ⟨h8, h9⟩
  have hl : nextB b.2.2 < b.2.2.length := by rw [ok_len4 hok b (List.mem_of_getElem? hb)]; omega
  refine ⟨_, s, ⟨(k : Int), ((nextB b.2.2 : Nat) : Int), p⟩, hp, hd, ?_, rfl, hr, ?_, by rw [hs], by rw [hs], ?_⟩
  · have hf : (doF bs s).2 = true := by rw [hd]
    have h9 := prog_right hok s.2.1 s.2.2.1 s.2.2.2
    have h10 : doF bs s = programF bs s.2.1 s.2.2.1 s.2.2.2 := by unfold doF; rw [if_pos (by rw [hs])]
    rw [← h10, hd] at h9
    exact h9
  · exact scan_put hb hl (leaf_none hb hu hu0) (readPg_seal p hr) hk
  · exact (put_math hok hb h1 h2 ⟨u, hu, hu0⟩ hsz.1 hsz.2).2
end Go.Proofs.YtiicghepilbgfaaGreatDoor
