/-
  What chapter 7 says of a flash that has nothing but blank leaves.
-/
import Derived.Test.YtcjgjkejhkhknaaPq4
namespace Go.Proofs.Ytcjgjkejhkhknaa

/-- Five blank blocks, none of them wiped more than k times. -/
def Bl5 (k : Int) (bs : List Bk) : Prop := bs.length = 5 ∧ ∀ b ∈ bs, b.1 = false ∧ b.2.2 = blank4 ∧ 0 ≤ b.2.1 ∧ b.2.1 ≤ k
theorem blank4_b : blanks blank4 = 4 := rfl
theorem blank4_ok' (y : Int) (h0 : 0 ≤ y) (h1 : y ≤ 1000000000) : blkOk (false, y, blank4) = true := by
  refine blkOk_yes rfl ⟨h0, h1⟩ (fun k hk => ?_)
  match k, hk with
  | 0, _ => rfl
  | 1, _ => rfl
  | 2, _ => rfl
  | 3, _ => rfl
theorem Bl5.new : Bl5 0 (newF 5) := by
  unfold newF
  rw [if_pos (by omega)]
  refine ⟨by simp, fun b hb => ?_⟩
  rw [(List.mem_replicate.1 hb).2]
  exact ⟨rfl, rfl, Int.le_refl _, Int.le_refl _⟩
theorem Bl5.ok {k : Int} {bs : List Bk} (h : Bl5 k bs) (hk : k ≤ 1000000000) : flOk bs = true := by
  rw [flOk_all (fun b hb => ?_)]
  · exact decide_eq_true (by rw [h.1]; omega)
  · obtain ⟨h1, h2, h3, h4⟩ := h.2 b hb
    obtain ⟨x, y, ls⟩ := b
    simp only at h1 h2 h3 h4
    subst h1 h2
    exact blank4_ok' y h3 (by omega)
theorem Bl5.wipe {k : Int} {bs : List Bk} (h : Bl5 k bs) (hk : k < 1000000000) (b : Int) (h0 : 0 ≤ b) (h5 : b < 5) : Bl5 (k + 1) (wipeF bs b).1 := by
  have hbl : b.toNat < bs.length := by rw [h.1]; omega
  have hb : bs[b.toNat]? = some bs[b.toNat] := List.getElem?_eq_getElem hbl
  have hx := h.2 _ (List.mem_of_getElem? hb)
  unfold wipeF
  have hm : mayW bs b = true := by
    unfold mayW
    rw [hb]
    exact decide_eq_true ⟨h0, hx.1, fun e => by have := hx.2.2.2; rw [e] at this; omega⟩
  rw [h.ok (by omega), hm, Bool.and_self, if_pos rfl]
  refine ⟨by rw [List.length_modify]; exact h.1, fun c hc => ?_⟩
  obtain ⟨i, hi, rfl⟩ := List.getElem_of_mem hc
  rw [List.getElem_modify]
  have hi2 : i < bs.length := by rw [List.length_modify] at hi; exact hi
  have hy := h.2 bs[i] (List.getElem_mem hi2)
  split
  · exact ⟨rfl, rfl, by show (0 : Int) ≤ bs[i].2.1 + 1; omega, by show bs[i].2.1 + 1 ≤ k + 1; omega⟩
  · exact ⟨hy.1, hy.2.1, hy.2.2.1, by omega⟩
theorem Bl5.free {k : Int} {bs : List Bk} (h : Bl5 k bs) (b : Bk) (hb : b ∈ bs) : freeB b = true ∧ openB b = false := by
  obtain ⟨h1, h2, h3, h4⟩ := h.2 b hb
  obtain ⟨x, y, ls⟩ := b
  simp only at h1 h2
  subst h1 h2
  exact ⟨rfl, rfl⟩
theorem Bl5.open {k : Int} {bs : List Bk} (h : Bl5 k bs) : openF bs = -1 := openF_none (fun _ c hc => (h.free c (List.mem_of_getElem? hc)).2)
theorem Bl5.frees {k : Int} {bs : List Bk} (h : Bl5 k bs) : (freeL bs).length = 5 := by
  have : ∀ j, j ≤ 5 → (freeTo bs j).length = j := by
    intro j
    induction j with
    | zero => intro _; rfl
    | succ j ih =>
      intro hj
      have hjl : j < bs.length := by rw [h.1]; omega
      have hb : bs[j]? = some bs[j] := List.getElem?_eq_getElem hjl
      rw [freeTo_yes hb (h.free _ (List.mem_of_getElem? hb)).1, List.length_append, ih (by omega)]
      rfl
  unfold freeL
  rw [h.1]
  exact this 5 (Nat.le_refl _)
/-- The place of such a flash: no block is worn less. -/
theorem Bl5.place {k : Int} {bs : List Bk} (h : Bl5 k bs) (hk : k ≤ 1000000000) : ∃ (p : Nat) (b : Bk), placeF bs = ((p : Int), 0, true) ∧ p < 5 ∧ bs[p]? = some b ∧ ∀ (i : Nat) (c : Bk), bs[i]? = some c → ¬ c.2.1 < b.2.1 ∧ (c.2.1 = b.2.1 → ¬ (i : Int) < p) := by
  obtain ⟨r, -, hr⟩ := leastW_some (L := wearL bs (freeL bs)) (fun e => by have := congrArg List.length e; simp only [wearL, List.length_map, List.length_nil, h.frees] at this; omega)
  have hp := place_least (h.ok hk) h.open hr
  obtain ⟨x, hx, e⟩ := List.mem_map.1 hr.1
  obtain ⟨p, e2, hp5, b, hb, -⟩ := freeTo_mem hx
  subst e2
  have hw : wearOf bs (p : Int) = b.2.1 := by unfold wearOf; rw [Int.toNat_natCast, hb]
  have hr1 : r = ((p : Int), b.2.1) := by rw [← e, hw]
  subst hr1
  refine ⟨p, b, hp, by rw [h.1] at hp5; exact hp5, hb, fun i c hc => ?_⟩
  have hil : i < bs.length := (List.getElem?_eq_some_iff.1 hc).1
  have hm : ((i : Int), c.2.1) ∈ wearL bs (freeL bs) := by
    refine List.mem_map.2 ⟨(i : Int), freeTo_has hil hc (h.free c (List.mem_of_getElem? hc)).1, ?_⟩
    unfold wearOf
    rw [Int.toNat_natCast, hc]
  have := hr.2 _ hm
  unfold ltW at this
  simp only at this
  omega
end Go.Proofs.Ytcjgjkejhkhknaa
