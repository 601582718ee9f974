/-
  DvM; BkP
-/
import Derived.Test.YtiicghepilbgfaaGreatDoorChM
import Derived.Test.YtiicghepilbgfaaGreatDoorPk9
import Derived.Test.YtiicghepilbgfaaGreatDoorTxMath2
import Derived.Test.YtiicghepilbgfaaGreatDoorStoM7
import Derived.Test.YtiicghepilbgfaaGreatDoorPk3
/-
  Devices, in plain words.
-/
namespace Go.Proofs.YtiicghepilbgfaaGreatDoor
open Words Sums Pack

structure Dv where
  flash : List Bk
  store : Sto
  seq : Int
  tx : Int
  base : Int
def seqP (M : List Fnd) : Int := M.foldl (fun s x => if s ≤ x.page.seq then x.page.seq + 1 else s) 1
def txP (M : List Fnd) : Int := M.foldl (fun s x => if x.page.kind = 2 ∧ s ≤ x.page.tx then x.page.tx + 1 else s) 1
/-- The transactions that count. -/
def txsP (M : List Fnd) : List TxR := sinceP (gatherP (M.map Fnd.page))
def storeP (T : List TxR) : Sto := T.foldl (fun s t => (enterAllS s t.recs).1) stoNew
def baseP : List TxR → Int
  | [] => 0
  | t :: _ => t.num
/-- What comes up. -/
def mountP (bs : List Bk) : Dv := ⟨bs, storeP (txsP (scanF bs)), seqP (scanF bs), txP (scanF bs), baseP (txsP (scanF bs))⟩
def noDv : Dv := ⟨[], ⟨[], [], 0⟩, 0, 0, 0⟩
def mountF (bs : List Bk) : Dv × Bool := if flOk bs then (mountP bs, true) else (noDv, false)
def devB (d : Dv) : Bool := (mountF d.flash).2 && sameS (mountF d.flash).1.store d.store && decide ((mountF d.flash).1.seq = d.seq) && decide ((mountF d.flash).1.tx = d.tx) && decide ((mountF d.flash).1.base = d.base) && stoB d.store
def pgT (p : Pg) : ByteArray × Bool := letI := p.decR; if p.Right then (sealA (pageA p), true) else (⟨#[]⟩, false)
/-- A page at the next place. -/
def putP (bs : List Bk) (l : List Stp) (p : Pg) : List Bk × List Stp × Bool :=
  if (pgT p).2 && (placeF bs).2.2 then ((doF bs (1, (placeF bs).1, (placeF bs).2.1, (pgT p).1)).1, l ++ [(1, (placeF bs).1, (placeF bs).2.1, (pgT p).1)], (doF bs (1, (placeF bs).1, (placeF bs).2.1, (pgT p).1)).2) else (bs, l, false)
def putsP : List Bk × List Stp × Bool → List Pg → List Bk × List Stp × Bool
  | s, [] => s
  | s, p :: ps => if s.2.2 then putsP (putP s.1 s.2.1 p) ps else s
def lastCk (l : List Rc) : Int := (l.getLast?.map Rc.chunk).getD 0
def dataPg (seq c : Int) (t : ByteArray) : Pg := ⟨1, seq, c, 0, 1, t⟩
def write0 (d : Dv) (l : List Rc) (t : ByteArray) : List Bk × List Stp × Bool := if t.size = 0 then (d.flash, [], true) else putP d.flash [] (dataPg d.seq (lastCk l) t)
def writeQ (d : Dv) (t : ByteArray) : Int := if t.size = 0 then d.seq else d.seq + 1
def writeP (d : Dv) (l : List Rc) (t : ByteArray) : List Stp × Bool :=
  if l.length = 0 then ([], true)
  else if (putsP (write0 d l t) (txOut (writeQ d t) d.tx l)).2.2 && @decide (TxOk (writeQ d t) d.tx l) (decTx (writeQ d t) d.tx l) then ((putsP (write0 d l t) (txOut (writeQ d t) d.tx l)).2.1, true) else ([], false)
def stepsP (d : Dv) (l : List Stp) : Dv := (mountF (doAll d.flash l).1).1

/-- A device as it comes up. -/
structure Up (d : Dv) : Prop where
  ok : flOk d.flash = true
  is : d = mountP d.flash
theorem seq_ge (M : List Fnd) : ∀ x ∈ M, x.page.seq < seqP M := by
  have h : ∀ (L : List Fnd) (s : Int), s ≤ L.foldl (fun s x => if s ≤ x.page.seq then x.page.seq + 1 else s) s ∧ ∀ x ∈ L, x.page.seq < L.foldl (fun s x => if s ≤ x.page.seq then x.page.seq + 1 else s) s := by
    intro L
    induction L with
    | nil => intro s; exact ⟨Int.le_refl _, fun x hx => by cases hx⟩
    | cons y L ih =>
      intro s
      rw [List.foldl_cons]
      obtain ⟨h1, h2⟩ := ih (if s ≤ y.page.seq then y.page.seq + 1 else s)
      have h3 : s ≤ (if s ≤ y.page.seq then y.page.seq + 1 else s) ∧ y.page.seq < (if s ≤ y.page.seq then y.page.seq + 1 else s) := by split <;> omega
      refine ⟨?_, fun x hx => ?_⟩
      · omega
      · rcases List.mem_cons.1 hx with e | e
        · subst e; omega
        · exact h2 x e
  exact (h M 1).2
theorem tx_ge (M : List Fnd) : ∀ x ∈ M, x.page.kind = 2 → x.page.tx < txP M := by
  have h : ∀ (L : List Fnd) (s : Int), s ≤ L.foldl (fun s x => if x.page.kind = 2 ∧ s ≤ x.page.tx then x.page.tx + 1 else s) s ∧ ∀ x ∈ L, x.page.kind = 2 → x.page.tx < L.foldl (fun s x => if x.page.kind = 2 ∧ s ≤ x.page.tx then x.page.tx + 1 else s) s := by
    intro L
    induction L with
    | nil => intro s; exact ⟨Int.le_refl _, fun x hx => by cases hx⟩
    | cons y L ih =>
      intro s
      rw [List.foldl_cons]
      obtain ⟨h1, h2⟩ := ih (if y.page.kind = 2 ∧ s ≤ y.page.tx then y.page.tx + 1 else s)
      have h3 : s ≤ (if y.page.kind = 2 ∧ s ≤ y.page.tx then y.page.tx + 1 else s) ∧ (y.page.kind = 2 → y.page.tx < (if y.page.kind = 2 ∧ s ≤ y.page.tx then y.page.tx + 1 else s)) := by split <;> omega
      refine ⟨?_, fun x hx hk => ?_⟩
      · omega
      · rcases List.mem_cons.1 hx with e | e
        · subst e; have := h3.2 hk; omega
        · exact h2 x e hk
  exact (h M 1).2
theorem ok_len4 {bs : List Bk} (h : flOk bs = true) : ∀ b ∈ bs, b.2.2.length = 4 := by
  intro b hb
  have h1 := h
  unfold flOk at h1
  rw [Bool.and_eq_true, List.all_eq_true] at h1
  have h2 := h1.2 b hb
  unfold blkOk at h2
  rw [Bool.and_eq_true, dcT] at h2
  exact h2.1.1
theorem put_ok {bs : List Bk} {l : List Stp} {p : Pg} (hok : flOk bs = true) (h : (putP bs l p).2.2 = true) :
    p.Right ∧ ∃ (k : Nat) (b : Bk) (s : Stp), bs[k]? = some b ∧ b.1 = false ∧ nextB b.2.2 < 4 ∧ (∃ u, b.2.2[nextB b.2.2]? = some u ∧ u.1 = 0) ∧ s = (1, (k : Int), ((nextB b.2.2 : Nat) : Int), sealA (pageA p)) ∧ doF bs s = (putLeaf bs k (nextB b.2.2) (sealA (pageA p)), true) ∧ putP bs l p = (putLeaf bs k (nextB b.2.2) (sealA (pageA p)), l ++ [s], true) := by
  unfold putP at h
  by_cases hr : p.Right
  · have e1 : pgT p = (sealA (pageA p), true) := by unfold pgT; rw [if_pos hr]
    rw [e1] at h
    rcases place_math hok (ok_len4 hok) with ⟨hp, -⟩ | ⟨k, b, hb, h1, h2, h3, hp, -, -⟩
    · rw [hp] at h; simp at h
    · refine ⟨hr, k, b, _, hb, h1, h2, h3, rfl, ?_⟩
      rw [hp] at h
      simp only [Bool.true_and, if_true] at h
      have hd : doF bs (1, (k : Int), ((nextB b.2.2 : Nat) : Int), sealA (pageA p)) = (putLeaf bs k (nextB b.2.2) (sealA (pageA p)), true) := by
        have hf : (doF bs (1, (k : Int), ((nextB b.2.2 : Nat) : Int), sealA (pageA p))).2 = true := h
        unfold doF programF at hf ⊢
        simp only [if_true] at hf ⊢
        split at hf
        · rename_i hq
          rw [if_pos hq, Int.toNat_natCast, Int.toNat_natCast]
        · cases hf
      refine ⟨hd, ?_⟩
      unfold putP
      rw [e1, hp]
      simp only [Bool.true_and, if_true]
      rw [hd]
  · have e1 : pgT p = (⟨#[]⟩, false) := by unfold pgT; rw [if_neg hr]
    rw [e1] at h
    simp at h
end Go.Proofs.YtiicghepilbgfaaGreatDoor

/-
  Blocks that are right, in plain words.
-/
namespace Go.Proofs.YtiicghepilbgfaaGreatDoor

theorem nextB_le {ls : List (Int × ByteArray)} {k : Nat} {u : Int × ByteArray} (hu : ls[k]? = some u) (h0 : u.1 = 0) : nextB ls ≤ k := by
  obtain ⟨h1, h2⟩ := List.getElem?_eq_some_iff.1 hu
  have h : ls.findIdx (fun t => t.1 == 0) ≤ k := Nat.le_of_not_lt (fun hlt => by
    have h3 := List.not_of_lt_findIdx hlt
    rw [h2] at h3
    simp [h0] at h3)
  simp only [nextB]
  rw [if_pos (by omega)]
  exact h
theorem nextB_blank {ls : List (Int × ByteArray)} (h4 : ls.length ≤ 4) {k : Nat} (hk : k < ls.length) (hn : nextB ls < k) : ∃ u, ls[nextB ls]? = some u ∧ u.1 = 0 := by
  have h : ls.findIdx (fun t => t.1 == 0) < ls.length := Nat.lt_of_not_le (fun hh => by
    simp only [nextB] at hn
    rw [if_neg (by omega)] at hn
    omega)
  have e : nextB ls = ls.findIdx (fun t => t.1 == 0) := by simp only [nextB]; rw [if_pos h]
  have h3 := List.findIdx_getElem (w := h)
  refine ⟨ls[ls.findIdx (fun t => t.1 == 0)], by rw [e]; exact List.getElem?_eq_getElem h, by simpa using h3⟩
theorem blank_on {ls : List (Int × ByteArray)} (h : ∀ k, k < ls.length → leafAt ls k = true) {n : Nat} {u : Int × ByteArray} (hu : ls[n]? = some u) (h0 : u.1 = 0) (d : Nat) : ∀ t, ls[n + d]? = some t → t.1 = 0 := by
  induction d with
  | zero =>
    intro t ht
    rw [Nat.add_zero, hu] at ht
    cases ht
    exact h0
  | succ d ih =>
    intro t ht
    have hl := (List.getElem?_eq_some_iff.1 ht).1
    have hp : ls[n + d]? = some ls[n + d] := List.getElem?_eq_getElem (by omega)
    have hz := ih _ hp
    cases Decidable.em (t.1 = 0) with
    | inl e => exact e
    | inr e =>
      have := leafAt_bad (k := n + d) ht hp hz e
      rw [show n + d + 1 = n + (d + 1) from rfl, h _ hl] at this
      cases this
theorem blkOk_behind {b : Bk} {k : Nat} {t : Int × ByteArray} (h4 : b.2.2.length = 4) (ht : b.2.2[k]? = some t) (hn : nextB b.2.2 < k) (hz : t.1 ≠ 0) : blkOk b = false := by
  cases hb : blkOk b with
  | false => rfl
  | true =>
    have hk := (List.getElem?_eq_some_iff.1 ht).1
    simp only [blkOk, Bool.and_eq_true] at hb
    have hall : ∀ k, k < b.2.2.length → leafAt b.2.2 k = true := fun k hk => List.all_eq_true.1 hb.2 k (List.mem_range.2 hk)
    obtain ⟨u, hu, h0⟩ := nextB_blank (by omega) hk hn
    exact absurd (blank_on hall hu h0 (k - nextB b.2.2) t (by rw [show nextB b.2.2 + (k - nextB b.2.2) = k by omega]; exact ht)) hz
theorem blkOk_each {b : Bk} (h4 : b.2.2.length = 4) (hw : 0 ≤ b.2.1 ∧ b.2.1 ≤ 1000000000) (h : ∀ k t, b.2.2[k]? = some t → leafOk t = true ∧ (nextB b.2.2 < k → t.1 = 0)) : blkOk b = true := by
  refine blkOk_yes h4 hw (fun k hk => ?_)
  have ht : b.2.2[k]? = some b.2.2[k] := List.getElem?_eq_getElem hk
  generalize b.2.2[k] = t at ht
  cases k with
  | zero => exact leafAt_zero ht (h 0 t ht).1
  | succ k =>
    have hu : b.2.2[k]? = some b.2.2[k] := List.getElem?_eq_getElem (by omega)
    generalize b.2.2[k] = u at hu
    refine leafAt_yes ht hu (h _ t ht).1 ?_
    cases Decidable.em (u.1 = 0) with
    | inr e => exact Or.inl e
    | inl e => exact Or.inr ((h _ t ht).2 (by have := nextB_le hu e; omega))
end Go.Proofs.YtiicghepilbgfaaGreatDoor
