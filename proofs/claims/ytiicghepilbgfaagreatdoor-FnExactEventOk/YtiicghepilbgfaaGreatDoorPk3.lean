/-
  RdP; FlP; SoMath; FoP
-/
import Derived.Test.YtiicghepilbgfaaGreatDoorPk1
import Derived.Test.YtiicghepilbgfaaGreatDoorPk2
import Derived.Test.YtiicghepilbgfaaGreatDoorPk0
/-
  What a text is read as, in plain words.
-/
namespace Go.Proofs.YtiicghepilbgfaaGreatDoor
open Words Sums

def readPg (t : ByteArray) : Option Pg := match unA t with | none => none | some s => pgOf s
theorem readPg_seal (p : Pg) (h : p.Right) : readPg (sealA (pageA p)) = some p := by
  unfold readPg
  rw [unA_seal _ (by have := pageA_size p h; omega)]
  exact pg_read p h
theorem readPg_right {t : ByteArray} {p : Pg} (h : readPg t = some p) : p.Right ∧ sealA (pageA p) = t := by
  unfold readPg at h
  cases hu : unA t with
  | none => rw [hu] at h; cases h
  | some s =>
    rw [hu] at h
    simp only at h
    unfold pgOf at h
    split at h
    · cases h
    · rename_i k0 h0
      split at h
      · cases h
      · rename_i a i1 h1
        split at h
        · cases h
        · rename_i b i2 h2
          split at h
          · cases h
          · rename_i c i3 h3
            split at h
            · cases h
            · rename_i d i4 h4
              split at h
              · rename_i hq
                cases h
                refine ⟨hq, ?_⟩
                rw [pg_back h0 h1 h2 h3 h4]
                exact (unA_some hu).1
              · cases h
end Go.Proofs.YtiicghepilbgfaaGreatDoor

/-
  What chapter 5 says of flashes, in plain words: no Go in them.
-/
namespace Go.Proofs.YtiicghepilbgfaaGreatDoor

abbrev Bk := Bool × Int × List (Int × ByteArray)
def leafOk (t : Int × ByteArray) : Bool := decide (t.1 = 0 ∧ t.2.size = 0 ∨ t.1 = 1 ∧ 1 ≤ t.2.size ∧ t.2.size ≤ 120 ∨ t.1 = 2 ∧ t.2.size ≤ 120)
/-- The leaf at k is right, and not behind a blank one where it isn't blank. -/
def leafAt (ls : List (Int × ByteArray)) (k : Nat) : Bool := match ls[k]? with
  | none => true
  | some t => leafOk t && !(decide (0 < k ∧ t.1 ≠ 0 ∧ ∃ u, ls[k - 1]? = some u ∧ u.1 = 0))
def blkOk (b : Bk) : Bool := decide (b.2.2.length = 4 ∧ 0 ≤ b.2.1 ∧ b.2.1 ≤ 1000000000) && (List.range b.2.2.length).all (leafAt b.2.2)
def flOk (bs : List Bk) : Bool := decide (3 ≤ bs.length ∧ bs.length ≤ 10) && bs.all blkOk
theorem flOk_no {bs : List Bk} {b : Bk} (hb : b ∈ bs) (h : blkOk b = false) : flOk bs = false := by
  have h1 : bs.all blkOk = false := List.all_eq_false.2 ⟨b, hb, by simp [h]⟩
  simp [flOk, h1]
theorem flOk_all {bs : List Bk} (h : ∀ b ∈ bs, blkOk b = true) : flOk bs = decide (3 ≤ bs.length ∧ bs.length ≤ 10) := by
  have h1 : bs.all blkOk = true := List.all_eq_true.2 h
  simp [flOk, h1]
theorem blkOk_len {b : Bk} (h : b.2.2.length ≠ 4) : blkOk b = false := by simp [blkOk, h]
theorem blkOk_wear {b : Bk} (h : ¬ (0 ≤ b.2.1 ∧ b.2.1 ≤ 1000000000)) : blkOk b = false := by
  have h1 : decide (b.2.2.length = 4 ∧ 0 ≤ b.2.1 ∧ b.2.1 ≤ 1000000000) = false := decide_eq_false (fun hh => h hh.2)
  simp only [blkOk, h1, Bool.false_and]
theorem blkOk_no {b : Bk} {k : Nat} (hk : k < b.2.2.length) (h : leafAt b.2.2 k = false) : blkOk b = false := by
  have h1 : (List.range b.2.2.length).all (leafAt b.2.2) = false := List.all_eq_false.2 ⟨k, List.mem_range.2 hk, by simp [h]⟩
  simp only [blkOk, h1, Bool.and_false]
theorem blkOk_yes {b : Bk} (hl : b.2.2.length = 4) (hw : 0 ≤ b.2.1 ∧ b.2.1 ≤ 1000000000) (h : ∀ k, k < b.2.2.length → leafAt b.2.2 k = true) : blkOk b = true := by
  have h1 : (List.range b.2.2.length).all (leafAt b.2.2) = true := List.all_eq_true.2 (fun k hk => h k (List.mem_range.1 hk))
  simp only [blkOk, h1, Bool.and_true]
  exact decide_eq_true ⟨hl, hw⟩
theorem leafAt_no {ls : List (Int × ByteArray)} {k : Nat} {t : Int × ByteArray} (ht : ls[k]? = some t) (h : leafOk t = false) : leafAt ls k = false := by simp [leafAt, ht, h]
theorem leafAt_zero {ls : List (Int × ByteArray)} {t : Int × ByteArray} (ht : ls[0]? = some t) (h : leafOk t = true) : leafAt ls 0 = true := by simp only [leafAt, ht, h]; simp
theorem leafAt_yes {ls : List (Int × ByteArray)} {k : Nat} {t u : Int × ByteArray} (ht : ls[k + 1]? = some t) (hu : ls[k]? = some u) (h : leafOk t = true) (hn : u.1 ≠ 0 ∨ t.1 = 0) : leafAt ls (k + 1) = true := by
  have h1 : decide (0 < k + 1 ∧ t.1 ≠ 0 ∧ ∃ u, ls[k + 1 - 1]? = some u ∧ u.1 = 0) = false := by
    refine decide_eq_false (fun hh => ?_)
    obtain ⟨-, a, q, b, c⟩ := hh
    rw [Nat.add_sub_cancel, hu] at b
    cases b
    rcases hn with hn | hn
    · exact hn c
    · exact a hn
  simp only [leafAt, ht, h, h1]
  rfl
theorem leafAt_bad {ls : List (Int × ByteArray)} {k : Nat} {t u : Int × ByteArray} (ht : ls[k + 1]? = some t) (hu : ls[k]? = some u) (h0 : u.1 = 0) (hn : t.1 ≠ 0) : leafAt ls (k + 1) = false := by
  have h1 : decide (0 < k + 1 ∧ t.1 ≠ 0 ∧ ∃ u, ls[k + 1 - 1]? = some u ∧ u.1 = 0) = true := decide_eq_true ⟨by omega, hn, u, by rw [Nat.add_sub_cancel]; exact hu, h0⟩
  simp only [leafAt, ht, h1]
  simp
/-- The first blank leaf; 4 where there is none. -/
def nextB (ls : List (Int × ByteArray)) : Nat := if ls.findIdx (fun t => t.1 == 0) < ls.length then ls.findIdx (fun t => t.1 == 0) else 4
theorem nextB_at {ls : List (Int × ByteArray)} {k : Nat} {t : Int × ByteArray} (ht : ls[k]? = some t) (h0 : t.1 = 0) (hb : ∀ (j : Nat) (u : Int × ByteArray), j < k → ls[j]? = some u → u.1 ≠ 0) : nextB ls = k := by
  obtain ⟨h1, h2⟩ := List.getElem?_eq_some_iff.1 ht
  have h : ls.findIdx (fun t => t.1 == 0) = k := by
    rw [List.findIdx_eq h1]
    refine ⟨by rw [h2]; simp [h0], fun j hj => ?_⟩
    have := hb j ls[j] hj (List.getElem?_eq_getElem (by omega))
    simpa using this
  simp only [nextB, h, if_pos h1]
theorem nextB_none {ls : List (Int × ByteArray)} (hb : ∀ (j : Nat) (u : Int × ByteArray), ls[j]? = some u → u.1 ≠ 0) : nextB ls = 4 := by
  have h : ls.findIdx (fun t => t.1 == 0) = ls.length := by
    rw [List.findIdx_eq_length]
    intro t ht
    obtain ⟨j, hj, rfl⟩ := List.getElem_of_mem ht
    have := hb j ls[j] (List.getElem?_eq_getElem hj)
    simpa using this
  simp only [nextB, h]
  rw [if_neg (by omega)]
def blank4 : List (Int × ByteArray) := [(0, ⟨#[]⟩), (0, ⟨#[]⟩), (0, ⟨#[]⟩), (0, ⟨#[]⟩)]
def newF (n : Int) : List Bk := if 3 ≤ n ∧ n ≤ 10 then List.replicate n.toNat (false, 0, blank4) else []
def mayP (bs : List Bk) (b leaf : Int) (t : ByteArray) : Bool := match bs[b.toNat]? with
  | none => false
  | some r => decide (0 ≤ b ∧ r.1 = false ∧ leaf < 4 ∧ leaf = nextB r.2.2 ∧ 1 ≤ t.size ∧ t.size ≤ 120)
def putLeaf (bs : List Bk) (b leaf : Nat) (t : ByteArray) : List Bk := bs.modify b (fun r => (r.1, r.2.1, r.2.2.set leaf (1, t)))
def programF (bs : List Bk) (b leaf : Int) (t : ByteArray) : List Bk × Bool := if flOk bs && mayP bs b leaf t then (putLeaf bs b.toNat leaf.toNat t, true) else (bs, false)
def mayW (bs : List Bk) (b : Int) : Bool := match bs[b.toNat]? with
  | none => false
  | some r => decide (0 ≤ b ∧ r.1 = false ∧ r.2.1 ≠ 1000000000)
def wipeF (bs : List Bk) (b : Int) : List Bk × Bool := if flOk bs && mayW bs b then (bs.modify b.toNat (fun r => (false, r.2.1 + 1, blank4)), true) else (bs, false)
def readF (bs : List Bk) (b leaf : Int) : ByteArray × Bool := match bs[b.toNat]? with
  | none => (⟨#[]⟩, false)
  | some r => match r.2.2[leaf.toNat]? with
    | none => (⟨#[]⟩, false)
    | some t => if 0 ≤ b ∧ 0 ≤ leaf ∧ t.1 = 1 then (t.2, true) else (⟨#[]⟩, false)
def badF (bs : List Bk) (b : Int) : List Bk := if 0 ≤ b then bs.modify b.toNat (fun r => (true, r.2)) else bs
end Go.Proofs.YtiicghepilbgfaaGreatDoor

/-
  Plain facts on stable sorting by a key: no Go in them.
-/
namespace Go.Proofs.YtiicghepilbgfaaGreatDoor.Words

structure Fnd where
  block : Int
  leaf : Int
  page : Pg

def Fnd.key (x : Fnd) : Int := x.page.seq

/-- A row that ascends. -/
def Asc (l : List Fnd) : Prop := l.Pairwise (fun a b => a.key ≤ b.key)
/-- Two rows that tell, of each key, the same elements in the same order. -/
def Akin (l k : List Fnd) : Prop := ∀ c : Int, l.filter (fun x => x.key == c) = k.filter (fun x => x.key == c)

theorem Akin.refl (l : List Fnd) : Akin l l := fun _ => rfl
theorem Akin.symm {l k : List Fnd} (h : Akin l k) : Akin k l := fun c => (h c).symm
theorem Akin.trans {l k m : List Fnd} (h : Akin l k) (h2 : Akin k m) : Akin l m := fun c => (h c).trans (h2 c)
theorem Akin.app {a b c d : List Fnd} (h : Akin a b) (h2 : Akin c d) : Akin (a ++ c) (b ++ d) := fun z => by
  rw [List.filter_append, List.filter_append, h z, h2 z]
theorem Akin.flip {a b : List Fnd} (h : ∀ x ∈ a, ∀ y ∈ b, x.key ≠ y.key) : Akin (a ++ b) (b ++ a) := fun c => by
  rw [List.filter_append, List.filter_append]
  by_cases hc : ∃ x ∈ a, x.key = c
  · obtain ⟨x, hx, rfl⟩ := hc
    have : b.filter (fun y => y.key == x.key) = [] := by
      rw [List.filter_eq_nil_iff]
      intro y hy
      have := h x hx y hy
      simpa using fun e => this e.symm
    rw [this]
    simp
  · have : a.filter (fun y => y.key == c) = [] := by
      rw [List.filter_eq_nil_iff]
      intro y hy
      simpa using fun e => hc ⟨y, hy, e⟩
    rw [this]
    simp
theorem Akin.mem {l k : List Fnd} (h : Akin l k) (x : Fnd) : x ∈ l ↔ x ∈ k := by
  have := h x.key
  have e : ∀ m : List Fnd, x ∈ m ↔ x ∈ m.filter (fun y => y.key == x.key) := fun m => by simp
  rw [e l, e k, this]
/-- Two rows that ascend and are alike are the same. -/
theorem Akin.eq : ∀ {l k : List Fnd}, Akin l k → Asc l → Asc k → l = k := by
  intro l
  induction l with
  | nil =>
    intro k h _ _
    cases k with
    | nil => rfl
    | cons b k =>
      have := h b.key
      simp at this
  | cons a l ih =>
    intro k h ha hk
    cases k with
    | nil =>
      have := h a.key
      simp at this
    | cons b k =>
      have hab : a.key = b.key := by
        have h1 : b ∈ a :: l := (h.mem b).2 List.mem_cons_self
        have h2 : a ∈ b :: k := (h.mem a).1 List.mem_cons_self
        have c1 : a.key ≤ b.key := by
          rcases List.mem_cons.1 h1 with e | e
          · rw [e]; exact Int.le_refl _
          · exact (List.pairwise_cons.1 ha).1 b e
        have c2 : b.key ≤ a.key := by
          rcases List.mem_cons.1 h2 with e | e
          · rw [e]; exact Int.le_refl _
          · exact (List.pairwise_cons.1 hk).1 a e
        omega
      have h0 := h a.key
      rw [List.filter_cons_of_pos (by simp), List.filter_cons_of_pos (by simp [hab])] at h0
      injection h0 with e1 _
      subst e1
      congr 1
      refine ih (fun c => ?_) (List.pairwise_cons.1 ha).2 (List.pairwise_cons.1 hk).2
      have hc := h c
      by_cases e : a.key = c
      · rw [List.filter_cons_of_pos (by simp [e]), List.filter_cons_of_pos (by simp [e])] at hc
        injection hc
      · rw [List.filter_cons_of_neg (by simpa using e), List.filter_cons_of_neg (by simpa using e)] at hc
        exact hc
theorem Asc.app {a b : List Fnd} (ha : Asc a) (hb : Asc b) (h : ∀ x ∈ a, ∀ y ∈ b, x.key ≤ y.key) : Asc (a ++ b) := List.pairwise_append.2 ⟨ha, hb, h⟩
theorem Asc.left {a b : List Fnd} (h : Asc (a ++ b)) : Asc a := (List.pairwise_append.1 h).1
theorem Asc.right {a b : List Fnd} (h : Asc (a ++ b)) : Asc b := (List.pairwise_append.1 h).2.1
theorem Asc.across {a b : List Fnd} (h : Asc (a ++ b)) : ∀ x ∈ a, ∀ y ∈ b, x.key ≤ y.key := (List.pairwise_append.1 h).2.2
theorem Asc.le {l : List Fnd} (h : Asc l) {i j : Nat} {x y : Fnd} (hi : l[i]? = some x) (hj : l[j]? = some y) (hij : i ≤ j) : x.key ≤ y.key := by
  by_cases e : i = j
  · subst e
    rw [hi] at hj
    cases hj
    exact Int.le_refl _
  · obtain ⟨h1, e1⟩ := List.getElem?_eq_some_iff.1 hi
    obtain ⟨h2, e2⟩ := List.getElem?_eq_some_iff.1 hj
    rw [← e1, ← e2]
    exact List.pairwise_iff_getElem.1 h i j h1 h2 (by omega)
theorem akin_len {l k : List Fnd} (h : Akin l k) : l.length = k.length := by
  classical
  have : l.Perm k := List.perm_iff_count.2 (fun x => by
    have h1 := h x.key
    have e : ∀ m : List Fnd, List.count x (m.filter (fun y => y.key == x.key)) = List.count x m := fun m => List.count_filter (by simp)
    rw [← e l, ← e k, h1])
  exact this.length_eq
end Go.Proofs.YtiicghepilbgfaaGreatDoor.Words

/-
  What stands on a flash, in plain words.
-/
namespace Go.Proofs.YtiicghepilbgfaaGreatDoor
open Words Sums

/-- The page that stands on a leaf, if one does. -/
def leafPg (bs : List Bk) (b k : Int) : Option Pg := if (readF bs b k).2 then readPg (readF bs b k).1 else none
/-- What stands on the first k leaves of block b. -/
def foundsAt (bs : List Bk) (b : Nat) : Nat → List Fnd
  | 0 => []
  | k + 1 => foundsAt bs b k ++ (match leafPg bs b k with | some p => [⟨b, k, p⟩] | none => [])
/-- What stands on the first b blocks. -/
def founds (bs : List Bk) : Nat → List Fnd
  | 0 => []
  | b + 1 => founds bs b ++ foundsAt bs b ((bs[b]?).map (fun r => r.2.2.length) |>.getD 0)
theorem foundsAt_len (bs : List Bk) (b k : Nat) : (foundsAt bs b k).length ≤ k := by
  induction k with
  | zero => exact Nat.le_refl _
  | succ k ih =>
    simp only [foundsAt, List.length_append]
    split <;> simp <;> omega

end Go.Proofs.YtiicghepilbgfaaGreatDoor
