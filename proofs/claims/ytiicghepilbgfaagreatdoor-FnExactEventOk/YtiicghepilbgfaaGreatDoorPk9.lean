/-
  PlMath; PoMath; RcMath
-/
import Derived.Test.YtiicghepilbgfaaGreatDoorPk8
import Derived.Test.YtiicghepilbgfaaGreatDoorPk2
/-
  Where to write next: what comes of each way.
-/
namespace Go.Proofs.YtiicghepilbgfaaGreatDoor

theorem place_no {bs : List Bk} (h : flOk bs = false) : placeF bs = (0, 0, false) := by unfold placeF; rw [h]; rfl
theorem place_open {bs : List Bk} {k : Nat} {b : Bk} (h : flOk bs = true) (hk : openF bs = k) (hb : bs[k]? = some b) : placeF bs = ((k : Int), ((nextB b.2.2 : Nat) : Int), true) := by
  unfold placeF leafs
  rw [h, hk, if_pos rfl, if_pos (by omega), Int.toNat_natCast, hb]
theorem place_least {bs : List Bk} {r : Wb} (h : flOk bs = true) (hk : openF bs = -1) (hr : IsLeast (wearL bs (freeL bs)) r) : placeF bs = (r.1, 0, true) := by
  unfold placeF
  rw [h, hk, if_pos rfl, if_neg (by omega), hr.is]
theorem place_full {bs : List Bk} (h : flOk bs = true) (hk : openF bs = -1) (hr : freeL bs = []) : placeF bs = (0, 0, false) := by
  unfold placeF
  rw [h, hk, if_pos rfl, if_neg (by omega), hr]
  rfl
theorem flOk_len {bs : List Bk} (h : flOk bs = true) : 3 ≤ bs.length ∧ bs.length ≤ 10 := by
  simp only [flOk, Bool.and_eq_true, decide_eq_true_eq] at h
  exact h.1
end Go.Proofs.YtiicghepilbgfaaGreatDoor

/-
  Places, room and what is written there, of right flashes.
-/
namespace Go.Proofs.YtiicghepilbgfaaGreatDoor

theorem blank_next {ls : List (Int × ByteArray)} (h : 0 < blanks ls) : nextB ls < ls.length ∧ ∃ t, ls[nextB ls]? = some t ∧ t.1 = 0 := by
  have h1 : ∃ t ∈ ls, (t.1 == 0) = true := by
    unfold blanks at h
    exact List.countP_pos_iff.1 h
  have h2 : ls.findIdx (fun t => t.1 == 0) < ls.length := List.findIdx_lt_length.2 h1
  have e : nextB ls = ls.findIdx (fun t => t.1 == 0) := by simp only [nextB]; rw [if_pos h2]
  have h3 := List.findIdx_getElem (w := h2)
  rw [e]
  exact ⟨h2, _, List.getElem?_eq_getElem h2, by simpa using h3⟩
theorem blanks_all {ls : List (Int × ByteArray)} (h : blanks ls = ls.length) (hl : 0 < ls.length) : nextB ls = 0 := by
  unfold blanks at h
  rw [List.countP_eq_length] at h
  have h0 : ls[0]? = some ls[0] := List.getElem?_eq_getElem hl
  exact nextB_at h0 (by simpa using h _ (List.mem_of_getElem? h0)) (fun j u hj => by omega)
theorem blanks_put {ls : List (Int × ByteArray)} {j : Nat} {t : Int × ByteArray} (ht : ls[j]? = some t) (h0 : t.1 = 0) (x : ByteArray) : blanks (ls.set j (1, x)) + 1 = blanks ls := by
  obtain ⟨hj, e⟩ := List.getElem?_eq_some_iff.1 ht
  have hp : 0 < blanks ls := by
    unfold blanks
    exact List.countP_pos_iff.2 ⟨t, List.mem_of_getElem? ht, by simp [h0]⟩
  unfold blanks at *
  rw [List.countP_set hj, e]
  simp [h0]
  omega
theorem roomTo_put {bs : List Bk} {k : Nat} {f : Bk → Bk} {b : Bk} (hb : bs[k]? = some b) (h1 : (f b).1 = false) (h2 : b.1 = false) (h3 : blanks (f b).2.2 + 1 = blanks b.2.2) (n : Nat) : roomTo (bs.modify k f) n + (if k < n then 1 else 0) = roomTo bs n := by
  induction n with
  | zero => simp [roomTo]
  | succ n ih =>
    by_cases e : k = n
    · subst e
      have hm : (bs.modify k f)[k]? = some (f b) := by rw [List.getElem?_modify, hb]; simp
      rw [roomTo_yes hm h1, roomTo_yes hb h2, if_pos (by omega)]
      rw [if_neg (by omega)] at ih
      omega
    · have hm : (bs.modify k f)[n]? = bs[n]? := by
        rw [List.getElem?_modify]
        cases bs[n]? with
        | none => rfl
        | some c => simp [e]
      simp only [roomTo, hm]
      by_cases hk : k < n
      · rw [if_pos hk] at ih
        rw [if_pos (by omega)]
        omega
      · rw [if_neg hk] at ih
        rw [if_neg (by omega)]
        omega
theorem roomTo_none {bs : List Bk} (h : ∀ (i : Nat) (b : Bk), bs[i]? = some b → b.1 = true ∨ blanks b.2.2 = 0) (n : Nat) : roomTo bs n = 0 := by
  induction n with
  | zero => rfl
  | succ n ih =>
    simp only [roomTo, ih]
    cases hb : bs[n]? with
    | none => rfl
    | some b =>
      simp only
      rcases h n b hb with h | h
      · simp [h]
      · simp [h]
theorem roomTo_some {bs : List Bk} {k : Nat} {b : Bk} (hb : bs[k]? = some b) (h1 : b.1 = false) (h2 : 0 < blanks b.2.2) (n : Nat) (hn : k < n) : 0 < roomTo bs n := by
  induction n with
  | zero => omega
  | succ n ih =>
    by_cases e : k = n
    · subst e
      rw [roomTo_yes hb h1]
      omega
    · have := ih (by omega)
      simp only [roomTo]
      omega
/-- What a place is, of a right flash. -/
theorem place_math {bs : List Bk} (hok : flOk bs = true) (h4 : ∀ b ∈ bs, b.2.2.length = 4) :
    (placeF bs = (0, 0, false) ∧ roomF bs = 0 ∧ openF bs = -1 ∧ freeL bs = []) ∨
    ∃ (k : Nat) (b : Bk), bs[k]? = some b ∧ b.1 = false ∧ nextB b.2.2 < 4 ∧ (∃ t, b.2.2[nextB b.2.2]? = some t ∧ t.1 = 0) ∧ placeF bs = ((k : Int), ((nextB b.2.2 : Nat) : Int), true) ∧ 0 < roomF bs ∧ (openF bs = (k : Int) ∨ openF bs = -1 ∧ (k : Int) ∈ freeL bs) := by
  rcases openF_cases bs with ⟨ho, hno⟩ | ⟨k, b, ho, hb, hop, -⟩
  · by_cases hf : freeL bs = []
    · left
      refine ⟨place_full hok ho hf, roomTo_none (fun i b hb => ?_) _, ho, hf⟩
      have h1 := hno i b hb
      have h2 : freeB b = false := by
        cases hq : freeB b with
        | false => rfl
        | true =>
          have := freeTo_has (k := bs.length) (List.getElem?_eq_some_iff.1 hb).1 hb hq
          change (i : Int) ∈ freeL bs at this
          rw [hf] at this
          cases this
      unfold openB at h1
      unfold freeB at h2
      have h3 := blanks_le b.2.2
      cases hb1 : b.1 with
      | true => exact Or.inl rfl
      | false =>
        right
        rw [hb1] at h1 h2
        simp at h1 h2
        omega
    · right
      obtain ⟨r, -, hr⟩ := leastW_some (L := wearL bs (freeL bs)) (fun e => hf (by simpa [wearL] using e))
      obtain ⟨x, hx, e⟩ := List.mem_map.1 hr.1
      obtain ⟨p, e2, hp, b, hb, hfb⟩ := freeTo_mem hx
      subst e2
      have hlen := h4 b (List.mem_of_getElem? hb)
      unfold freeB at hfb
      simp only [Bool.and_eq_true, Bool.not_eq_true', decide_eq_true_eq] at hfb
      have hpos : 0 < blanks b.2.2 := by rw [hfb.2, hlen]; omega
      have hnx := blanks_all hfb.2 (by omega)
      obtain ⟨h5, h6⟩ := blank_next hpos
      refine ⟨p, b, hb, hfb.1, by omega, h6, ?_, roomTo_some hb hfb.1 hpos _ hp, Or.inr ⟨ho, hx⟩⟩
      rw [place_least hok ho hr, hnx, ← e]
      rfl
  · right
    have hlen := h4 b (List.mem_of_getElem? hb)
    have hop2 := hop
    unfold openB at hop2
    simp only [Bool.and_eq_true, Bool.not_eq_true', decide_eq_true_eq] at hop2
    obtain ⟨h5, h6⟩ := blank_next hop2.2.1
    exact ⟨k, b, hb, hop2.1, by omega, h6, place_open hok ho hb, roomTo_some hb hop2.1 hop2.2.1 _ (List.getElem?_eq_some_iff.1 hb).1, Or.inl ho⟩
/-- What is written there. -/
theorem put_math {bs : List Bk} {k : Nat} {b : Bk} {t : ByteArray} (hok : flOk bs = true) (hb : bs[k]? = some b) (h1 : b.1 = false) (hn : nextB b.2.2 < 4) (ht : ∃ t, b.2.2[nextB b.2.2]? = some t ∧ t.1 = 0) (h2 : 1 ≤ t.size) (h3 : t.size ≤ 120) :
    programF bs (k : Int) ((nextB b.2.2 : Nat) : Int) t = (putLeaf bs k (nextB b.2.2) t, true) ∧ roomF (putLeaf bs k (nextB b.2.2) t) + 1 = roomF bs := by
  have hm : mayP bs (k : Int) ((nextB b.2.2 : Nat) : Int) t = true := by
    unfold mayP
    rw [Int.toNat_natCast, hb]
    exact decide_eq_true ⟨by omega, h1, by omega, rfl, h2, h3⟩
  refine ⟨?_, ?_⟩
  · unfold programF
    rw [hok, hm]
    rw [Bool.and_self, if_pos rfl, Int.toNat_natCast, Int.toNat_natCast]
  · obtain ⟨u, hu, hu0⟩ := ht
    have := roomTo_put (f := fun r => (r.1, r.2.1, r.2.2.set (nextB b.2.2) (1, t))) hb h1 h1 (blanks_put hu hu0 t) bs.length
    rw [if_pos (List.getElem?_eq_some_iff.1 hb).1] at this
    unfold roomF putLeaf
    rw [List.length_modify]
    exact this
/-- Free blocks, of a right flash. -/
theorem free_math {bs : List Bk} (h4 : ∀ b ∈ bs, b.2.2.length = 4) {x : Int} (hx : x ∈ freeL bs) : ∃ (k : Nat) (b : Bk), x = k ∧ bs[k]? = some b ∧ b.1 = false ∧ nextB b.2.2 = 0 := by
  obtain ⟨k, e, hk, b, hb, hf⟩ := freeTo_mem hx
  unfold freeB at hf
  simp only [Bool.and_eq_true, Bool.not_eq_true', decide_eq_true_eq] at hf
  exact ⟨k, b, e, hb, hf.1, blanks_all hf.2 (by rw [h4 b (List.mem_of_getElem? hb)]; omega)⟩
end Go.Proofs.YtiicghepilbgfaaGreatDoor

/-
  Plain facts on records and the bytes that they are written in: no Go in them.
-/
namespace Go.Proofs.YtiicghepilbgfaaGreatDoor.Words

structure Rc where
  kind : Int
  vol : Int
  arg : Int
  chunk : Int
def Rc.tu (r : Rc) : Int × Int × Int × Int := (r.kind, r.vol, r.arg, r.chunk)

/-- A record that is right. -/
def Rc.Right (r : Rc) : Prop :=
  (0 ≤ r.arg ∧ r.arg ≤ 1000000000) ∧ (r.kind = 1 ∧ r.vol = 0 ∧ r.chunk = 0 ∨ (1 ≤ r.vol ∧ r.vol ≤ 9) ∧ (r.kind = 2 ∧ r.arg ≤ 9 ∧ r.chunk = 0 ∨ r.kind = 3 ∧ r.arg = 0 ∧ r.chunk = 0 ∨ r.kind = 4 ∧ r.arg < 16 ∧ 1 ≤ r.chunk ∧ r.chunk ≤ 1000000000 ∨ r.kind = 5 ∧ r.arg < 16 ∧ r.chunk = 0))
abbrev Rc.decR (r : Rc) : Decidable r.Right := by unfold Rc.Right; exact inferInstance

/-- The bytes of a record. -/
def recL (r : Rc) : List UInt8 := UInt8.ofNat (16 * r.kind + r.vol).toNat :: (varL r.arg.toNat ++ varL r.chunk.toNat)
def recA (r : Rc) : ByteArray := (byteA (16 * r.kind + r.vol).toNat ++ varA r.arg.toNat) ++ varA r.chunk.toNat
theorem recA_list (r : Rc) : (recA r).data.toList = recL r := by
  simp [recA, recL, byteA, varA, ByteArray.data_append]
theorem recL_len (r : Rc) (h : r.Right) : 3 ≤ (recL r).length ∧ (recL r).length ≤ 19 := by
  obtain ⟨h1, h2⟩ := h
  have a := varL_len r.arg.toNat (by omega)
  have b := varL_len r.chunk.toNat (by omega)
  simp only [recL, List.length_cons, List.length_append]
  omega

/-- The bytes of many. -/
def recsL : List Rc → List UInt8
  | [] => []
  | r :: l => recL r ++ recsL l
theorem recsL_append (a b : List Rc) : recsL (a ++ b) = recsL a ++ recsL b := by
  induction a with
  | nil => rfl
  | cons r a ih => simp only [List.cons_append, recsL, ih, List.append_assoc]
theorem recsL_snoc (a : List Rc) (r : Rc) : recsL (a ++ [r]) = recsL a ++ recL r := by
  rw [recsL_append]; simp [recsL]
theorem recsL_len (a : List Rc) (h : ∀ r ∈ a, r.Right) : 3 * a.length ≤ (recsL a).length ∧ (recsL a).length ≤ 19 * a.length := by
  induction a with
  | nil => simp [recsL]
  | cons r a ih =>
    have h1 := recL_len r (h r (by simp))
    have h2 := ih (fun x hx => h x (by simp [hx]))
    simp only [recsL, List.length_append, List.length_cons]
    omega

/-- The record that stands at a place, and where it ends. -/
def rec1 (l : List UInt8) (q : Nat) : Option (Rc × Nat) :=
  match l[q]? with
  | none => none
  | some k =>
    match readV l (q + 1) with
    | none => none
    | some (a, i) =>
      match readV l i with
      | none => none
      | some (c, j) => letI := (Rc.mk (k.toNat / 16 : Nat) (k.toNat % 16 : Nat) a c).decR; if (Rc.mk (k.toNat / 16 : Nat) (k.toNat % 16 : Nat) a c).Right then some (Rc.mk (k.toNat / 16 : Nat) (k.toNat % 16 : Nat) a c, j) else none

theorem drop_at {l : List UInt8} {q : Nat} {k : UInt8} (h : l[q]? = some k) : q < l.length ∧ l.drop q = k :: l.drop (q + 1) := by
  obtain ⟨h1, h2⟩ := List.getElem?_eq_some_iff.1 h
  exact ⟨h1, by rw [← h2]; exact List.drop_eq_getElem_cons h1⟩

theorem rec1_parts {l : List UInt8} {q j : Nat} {r : Rc} (h : rec1 l q = some (r, j)) :
    ∃ (k : UInt8) (a i c : Nat), l[q]? = some k ∧ readV l (q + 1) = some (a, i) ∧ readV l i = some (c, j) ∧ r = Rc.mk (k.toNat / 16 : Nat) (k.toNat % 16 : Nat) a c ∧ r.Right := by
  unfold rec1 at h
  split at h
  · cases h
  rename_i k hk
  split at h
  · cases h
  rename_i a i ha
  split at h
  · cases h
  rename_i c j' hc
  split at h
  · rename_i hr
    cases h
    exact ⟨k, a, i, c, hk, ha, hc, rfl, hr⟩
  · cases h

theorem rec1_cut {l : List UInt8} {q j : Nat} {r : Rc} (h : rec1 l q = some (r, j)) : r.Right ∧ q < l.length ∧ q < j ∧ j ≤ l.length ∧ l.drop q = recL r ++ l.drop j := by
  obtain ⟨k, a, i, c, hk, ha, hc, rfl, hr⟩ := rec1_parts h
  obtain ⟨h1, h2⟩ := drop_at hk
  have e1 := readV_cut _ _ _ _ ha
  have e2 := readV_cut _ _ _ _ hc
  have l1 := readV_le l (q + 1) a i (by omega) ha
  have l2 := readV_le l i c j (by omega) hc
  have e : UInt8.ofNat (16 * ((k.toNat / 16 : Nat) : Int) + ((k.toNat % 16 : Nat) : Int)).toNat = k := by
    have : (16 * ((k.toNat / 16 : Nat) : Int) + ((k.toNat % 16 : Nat) : Int)).toNat = k.toNat := by omega
    rw [this]; exact UInt8.ofNat_toNat
  have cut : l.drop q = recL (Rc.mk (k.toNat / 16 : Nat) (k.toNat % 16 : Nat) a c) ++ l.drop j := by
    rw [h2, e1, e2]
    simp only [recL, e, Int.toNat_natCast, List.cons_append, List.append_assoc]
  refine ⟨hr, h1, ?_, by omega, cut⟩
  have hl := recL_len _ hr
  have := congrArg List.length cut
  simp only [List.length_append, List.length_drop] at this
  omega

theorem rec1_of {l : List UInt8} {q : Nat} {r : Rc} {t : List UInt8} (hr : r.Right) (h : l.drop q = recL r ++ t) : rec1 l q = some (r, q + (recL r).length) ∧ l.drop (q + (recL r).length) = t := by
  have hb := hr
  obtain ⟨h1, h2⟩ := hb
  have hk : l[q]? = some (UInt8.ofNat (16 * r.kind + r.vol).toNat) := by
    have : (l.drop q)[0]? = some (UInt8.ofNat (16 * r.kind + r.vol).toNat) := by rw [h]; rfl
    rw [List.getElem?_drop] at this
    simpa using this
  have h3 : l.drop (q + 1) = varL r.arg.toNat ++ (varL r.chunk.toNat ++ t) := by
    rw [← List.drop_drop, h]
    simp [recL]
  obtain ⟨ha, h4⟩ := readV_of l (q + 1) r.arg.toNat _ (by omega) h3
  obtain ⟨hc, h5⟩ := readV_of l _ r.chunk.toNat _ (by omega) h4
  have en : (UInt8.ofNat (16 * r.kind + r.vol).toNat).toNat = (16 * r.kind + r.vol).toNat := by rw [UInt8.toNat_ofNat']; omega
  have er : Rc.mk ((UInt8.ofNat (16 * r.kind + r.vol).toNat).toNat / 16 : Nat) ((UInt8.ofNat (16 * r.kind + r.vol).toNat).toNat % 16 : Nat) (r.arg.toNat : Nat) (r.chunk.toNat : Nat) = r := by
    rw [en]
    cases r
    simp only [Rc.mk.injEq]
    simp only at h1 h2
    omega
  have el : q + (recL r).length = q + 1 + (varL r.arg.toNat).length + (varL r.chunk.toNat).length := by simp only [recL, List.length_cons, List.length_append]; omega
  constructor
  · unfold rec1
    rw [hk]
    simp only [ha, hc, el]
    rw [er, if_pos hr]
  · rw [el]; exact h5

/-- All the records of a place on. -/
def recsF (l : List UInt8) : Nat → Nat → Option (List Rc)
  | 0, _ => none
  | f + 1, q => if l.length ≤ q then some [] else
    match rec1 l q with
    | none => none
    | some (r, j) => (recsF l f j).map (r :: ·)
def recs (l : List UInt8) (q : Nat) : Option (List Rc) := recsF l (l.length - q + 1) q
theorem recsF_any (l : List UInt8) : ∀ (f q : Nat), l.length - q + 1 ≤ f → recsF l f q = recs l q := by
  intro f
  induction f using Nat.strongRecOn with
  | ind f ih =>
    intro q h
    cases f with
    | zero => omega
    | succ f =>
      unfold recs
      simp only [recsF]
      split
      · rfl
      · cases e : rec1 l q with
        | none => rfl
        | some x =>
          obtain ⟨r, j⟩ := x
          obtain ⟨-, h1, h2, h3, -⟩ := rec1_cut e
          simp only
          rw [ih f (by omega) j (by omega)]
          by_cases hf : l.length - q = f
          · rw [hf, ih f (by omega) j (by omega)]
          · rw [ih (l.length - q) (by omega) j (by omega)]
theorem recs_end {l : List UInt8} {q : Nat} (h : l.length ≤ q) : recs l q = some [] := by
  unfold recs; simp only [recsF, if_pos h]
theorem recs_none {l : List UInt8} {q : Nat} (h : q < l.length) (h1 : rec1 l q = none) : recs l q = none := by
  unfold recs; simp only [recsF, if_neg (Nat.not_le.2 h), h1]
theorem recs_some {l : List UInt8} {q j : Nat} {r : Rc} (h1 : rec1 l q = some (r, j)) : recs l q = (recs l j).map (r :: ·) := by
  obtain ⟨-, a, b, c, -⟩ := rec1_cut h1
  unfold recs
  simp only [recsF, if_neg (Nat.not_le.2 a), h1]
  rw [recsF_any l (l.length - q) j (by omega)]
  rfl

/-- What was written is read back. -/
theorem recs_of : ∀ (x : List Rc) (l : List UInt8) (q : Nat), (∀ r ∈ x, r.Right) → l.drop q = recsL x → recs l q = some x := by
  intro x
  induction x with
  | nil =>
    intro l q _ h
    have := congrArg List.length h
    simp only [recsL, List.length_drop, List.length_nil] at this
    exact recs_end (by omega)
  | cons r x ih =>
    intro l q hr h
    obtain ⟨h1, h2⟩ := rec1_of (hr r (by simp)) (by simpa only [recsL] using h)
    rw [recs_some h1, ih l _ (fun y hy => hr y (by simp [hy])) h2]
    rfl
/-- What is read was so written. -/
theorem recs_back : ∀ (x : List Rc) (l : List UInt8) (q : Nat), recs l q = some x → (∀ r ∈ x, r.Right) ∧ l.drop q = recsL x := by
  intro x
  induction x with
  | nil =>
    intro l q h
    refine ⟨by simp, ?_⟩
    by_cases hq : l.length ≤ q
    · exact List.drop_eq_nil_of_le hq
    · cases e : rec1 l q with
      | none => rw [recs_none (by omega) e] at h; cases h
      | some y =>
        obtain ⟨r, j⟩ := y
        rw [recs_some e] at h
        cases e2 : recs l j with
        | none => rw [e2] at h; cases h
        | some z => rw [e2] at h; simp at h
  | cons r x ih =>
    intro l q h
    by_cases hq : l.length ≤ q
    · rw [recs_end hq] at h; simp at h
    · cases e : rec1 l q with
      | none => rw [recs_none (by omega) e] at h; cases h
      | some y =>
        obtain ⟨r', j⟩ := y
        rw [recs_some e] at h
        cases e2 : recs l j with
        | none => rw [e2] at h; cases h
        | some z =>
          rw [e2] at h
          simp at h
          obtain ⟨rfl, rfl⟩ := h
          obtain ⟨h1, h2⟩ := ih l j e2
          obtain ⟨h3, -, -, -, h4⟩ := rec1_cut e
          refine ⟨?_, ?_⟩
          · intro y hy
            rcases List.mem_cons.1 hy with rfl | hy
            · exact h3
            · exact h1 y hy
          · rw [h4, h2]; rfl

end Go.Proofs.YtiicghepilbgfaaGreatDoor.Words
