/-
  Places, room and what is written there, of right flashes.
-/
import Derived.Test.YtmpmdacfibgepabPlMath
namespace Go.Proofs.Ytmpmdacfibgepab

theorem blank_next {ls : List (Int × ByteArray)} (h : 0 < blanks ls) : nextB ls < ls.length ∧ ∃ t, ls[nextB ls]? = some t ∧ t.1 = 0 := by
  have h1 : ∃ t ∈ ls, (t.1 == 0) = true := by
    unfold blanks at h
    exact List.countP_pos_iff.1 h
  have h2 : ls.findIdx (fun t => t.1 == 0) < ls.length := List.findIdx_lt_length.2 h1
  have e : nextB ls = ls.findIdx (fun t => t.1 == 0) := by simp only [nextB]; rw [if_pos h2]
  have h3 := List.findIdx_getElem (w := h2)
  rw [e]
  exact ⟨h2, _, List.getElem?_eq_getElem h2, by simpa using h3⟩
theorem blanks_all {ls : List (Int × ByteArray)} (h : blanks ls = ls.length) (hl : 0 < ls.length) : nextB ls = 0 := by
  unfold blanks at h
  rw [List.countP_eq_length] at h
  have h0 : ls[0]? = some ls[0] := List.getElem?_eq_getElem hl
  exact nextB_at h0 (by simpa using h _ (List.mem_of_getElem? h0)) (fun j u hj => by omega)
theorem blanks_put {ls : List (Int × ByteArray)} {j : Nat} {t : Int × ByteArray} (ht : ls[j]? = some t) (h0 : t.1 = 0) (x : ByteArray) : blanks (ls.set j (1, x)) + 1 = blanks ls := by
  obtain ⟨hj, e⟩ := List.getElem?_eq_some_iff.1 ht
  have hp : 0 < blanks ls := by
    unfold blanks
    exact List.countP_pos_iff.2 ⟨t, List.mem_of_getElem? ht, by simp [h0]⟩
  unfold blanks at *
  rw [List.countP_set hj, e]
  simp [h0]
  omega
theorem roomTo_put {bs : List Bk} {k : Nat} {f : Bk → Bk} {b : Bk} (hb : bs[k]? = some b) (h1 : (f b).1 = false) (h2 : b.1 = false) (h3 : blanks (f b).2.2 + 1 = blanks b.2.2) (n : Nat) : roomTo (bs.modify k f) n + (if k < n then 1 else 0) = roomTo bs n := by
  induction n with
  | zero => simp [roomTo]
  | succ n ih =>
    by_cases e : k = n
    · subst e
      have hm : (bs.modify k f)[k]? = some (f b) := by rw [List.getElem?_modify, hb]; simp
      rw [roomTo_yes hm h1, roomTo_yes hb h2, if_pos (by omega)]
      rw [if_neg (by omega)] at ih
      omega
    · have hm : (bs.modify k f)[n]? = bs[n]? := by
        rw [List.getElem?_modify]
        cases bs[n]? with
        | none => rfl
        | some c => simp [e]
      simp only [roomTo, hm]
      by_cases hk : k < n
      · rw [if_pos hk] at ih
        rw [if_pos (by omega)]
        omega
      · rw [if_neg hk] at ih
        rw [if_neg (by omega)]
        omega
theorem roomTo_none {bs : List Bk} (h : ∀ (i : Nat) (b : Bk), bs[i]? = some b → b.1 = true ∨ blanks b.2.2 = 0) (n : Nat) : roomTo bs n = 0 := by
  induction n with
  | zero => rfl
  | succ n ih =>
    simp only [roomTo, ih]
    cases hb : bs[n]? with
    | none => rfl
    | some b =>
      simp only
      rcases h n b hb with h | h
      · simp [h]
      · simp [h]
theorem roomTo_some {bs : List Bk} {k : Nat} {b : Bk} (hb : bs[k]? = some b) (h1 : b.1 = false) (h2 : 0 < blanks b.2.2) (n : Nat) (hn : k < n) : 0 < roomTo bs n := by
  induction n with
  | zero => omega
  | succ n ih =>
    by_cases e : k = n
    · subst e
      rw [roomTo_yes hb h1]
      omega
    · have := ih (by omega)
      simp only [roomTo]
      omega
/-- What a place is, of a right flash. -/
theorem place_math {bs : List Bk} (hok : flOk bs = true) (h4 : ∀ b ∈ bs, b.2.2.length = 4) :
    (placeF bs = (0, 0, false) ∧ roomF bs = 0 ∧ openF bs = -1 ∧ freeL bs = []) ∨
    ∃ (k : Nat) (b : Bk), bs[k]? = some b ∧ b.1 = false ∧ nextB b.2.2 < 4 ∧ (∃ t, b.2.2[nextB b.2.2]? = some t ∧ t.1 = 0) ∧ placeF bs = ((k : Int), ((nextB b.2.2 : Nat) : Int), true) ∧ 0 < roomF bs ∧ (openF bs = (k : Int) ∨ openF bs = -1 ∧ (k : Int) ∈ freeL bs) := by
  rcases openF_cases bs with ⟨ho, hno⟩ | ⟨k, b, ho, hb, hop, -⟩
  · by_cases hf : freeL bs = []
    · left
      refine ⟨place_full hok ho hf, roomTo_none (fun i b hb => ?_) _, ho, hf⟩
      have h1 := hno i b hb
      have h2 : freeB b = false := by
        cases hq : freeB b with
        | false => rfl
        | true =>
          have := freeTo_has (k := bs.length) (List.getElem?_eq_some_iff.1 hb).1 hb hq
          change (i : Int) ∈ freeL bs at this
          rw [hf] at this
          cases this
      unfold openB at h1
      unfold freeB at h2
      have h3 := blanks_le b.2.2
      cases hb1 : b.1 with
      | true => exact Or.inl rfl
      | false =>
        right
        rw [hb1] at h1 h2
        simp at h1 h2
        omega
    · right
      obtain ⟨r, -, hr⟩ := leastW_some (L := wearL bs (freeL bs)) (fun e => hf (by simpa [wearL] using e))
      obtain ⟨x, hx, e⟩ := List.mem_map.1 hr.1
      obtain ⟨p, e2, hp, b, hb, hfb⟩ := freeTo_mem hx
      subst e2
      have hlen := h4 b (List.mem_of_getElem? hb)
      unfold freeB at hfb
      simp only [Bool.and_eq_true, Bool.not_eq_true', decide_eq_true_eq] at hfb
      have hpos : 0 < blanks b.2.2 := by rw [hfb.2, hlen]; omega
      have hnx := blanks_all hfb.2 (by omega)
      obtain ⟨h5, h6⟩ := blank_next hpos
      refine ⟨p, b, hb, hfb.1, by omega, h6, ?_, roomTo_some hb hfb.1 hpos _ hp, Or.inr ⟨ho, hx⟩⟩
      rw [place_least hok ho hr, hnx, ← e]
      rfl
  · right
    have hlen := h4 b (List.mem_of_getElem? hb)
    have hop2 := hop
    unfold openB at hop2
    simp only [Bool.and_eq_true, Bool.not_eq_true', decide_eq_true_eq] at hop2
    obtain ⟨h5, h6⟩ := blank_next hop2.2.1
    exact ⟨k, b, hb, hop2.1, by omega, h6, place_open hok ho hb, roomTo_some hb hop2.1 hop2.2.1 _ (List.getElem?_eq_some_iff.1 hb).1, Or.inl ho⟩
/-- What is written there. -/
theorem put_math {bs : List Bk} {k : Nat} {b : Bk} {t : ByteArray} (hok : flOk bs = true) (hb : bs[k]? = some b) (h1 : b.1 = false) (hn : nextB b.2.2 < 4) (ht : ∃ t, b.2.2[nextB b.2.2]? = some t ∧ t.1 = 0) (h2 : 1 ≤ t.size) (h3 : t.size ≤ 120) :
    programF bs (k : Int) ((nextB b.2.2 : Nat) : Int) t = (putLeaf bs k (nextB b.2.2) t, true) ∧ roomF (putLeaf bs k (nextB b.2.2) t) + 1 = roomF bs := by
  have hm : mayP bs (k : Int) ((nextB b.2.2 : Nat) : Int) t = true := by
    unfold mayP
    rw [Int.toNat_natCast, hb]
    exact decide_eq_true ⟨by omega, h1, by omega, rfl, h2, h3⟩
  refine ⟨?_, ?_⟩
  · unfold programF
    rw [hok, hm]
    rw [Bool.and_self, if_pos rfl, Int.toNat_natCast, Int.toNat_natCast]
  · obtain ⟨u, hu, hu0⟩ := ht
    have := roomTo_put (f := fun r => (r.1, r.2.1, r.2.2.set (nextB b.2.2) (1, t))) hb h1 h1 (blanks_put hu hu0 t) bs.length
    rw [if_pos (List.getElem?_eq_some_iff.1 hb).1] at this
    unfold roomF putLeaf
    rw [List.length_modify]
    exact this
/-- Free blocks, of a right flash. -/
theorem free_math {bs : List Bk} (h4 : ∀ b ∈ bs, b.2.2.length = 4) {x : Int} (hx : x ∈ freeL bs) : ∃ (k : Nat) (b : Bk), x = k ∧ bs[k]? = some b ∧ b.1 = false ∧ nextB b.2.2 = 0 := by
  obtain ⟨k, e, hk, b, hb, hf⟩ := freeTo_mem hx
  unfold freeB at hf
  simp only [Bool.and_eq_true, Bool.not_eq_true', decide_eq_true_eq] at hf
  exact ⟨k, b, e, hb, hf.1, blanks_all hf.2 (by rw [h4 b (List.mem_of_getElem? hb)]; omega)⟩
end Go.Proofs.Ytmpmdacfibgepab
