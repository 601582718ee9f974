/-
  PgMath; RdP; FlP; SoMath; FoP; StMath; ScM; ScM2; TMath; ZMath; ChM
-/
import Derived.Test.YtcjgjkejhkhknacGreatDoorPk3
import Derived.Test.YtcjgjkejhkhknacGreatDoorPk0
namespace Go.Proofs.YtcjgjkejhkhknacGreatDoor.Words
structure Pg where
 kind : Int
 seq : Int
 tx : Int
 part : Int
 count : Int
 text : ByteArray
def Pg.Right (p : Pg) : Prop :=
 (p.kind = 1 ∧ p.count = 1 ∧ p.part = 0 ∨ p.kind = 2 ∧ 1 ≤ p.count ∧ p.count ≤ 9 ∧ 0 ≤ p.part ∧ p.part < p.count) ∧ 1 ≤ p.seq ∧ p.seq ≤ 1000000000 ∧ 1 ≤ p.tx ∧ p.tx ≤ 1000000000 ∧ (p.text.size : Int) ≤ 90
abbrev Pg.decR (p : Pg) : Decidable p.Right := by unfold Pg.Right; exact inferInstance
def varA (n : Nat) : ByteArray := ⟨(varL n).toArray⟩
def byteA (n : Nat) : ByteArray := ⟨#[UInt8.ofNat n]⟩
def pageA (p : Pg) : ByteArray := ((((byteA p.kind.toNat ++ varA p.seq.toNat) ++ varA p.tx.toNat) ++ varA p.part.toNat) ++ varA p.count.toNat) ++ p.text
theorem pageA_list (p : Pg) : (pageA p).data.toList = UInt8.ofNat p.kind.toNat :: (varL p.seq.toNat ++ (varL p.tx.toNat ++ (varL p.part.toNat ++ (varL p.count.toNat ++ p.text.data.toList)))) := by
 simp [pageA, byteA, varA, ByteArray.data_append]
theorem pageA_size (p : Pg) (h : p.Right) : (pageA p).size ≤ 127 := by
 obtain ⟨h1, h2, h3, h4, h5, h6⟩ := h
 have a := (varL_len p.seq.toNat (by omega)).2
 have b := (varL_len p.tx.toNat (by omega)).2
 have c := (varL_len p.part.toNat (by omega)).2
 have d := (varL_len p.count.toNat (by omega)).2
 have e : (pageA p).size = (pageA p).data.toList.length := rfl
 have f : p.text.size = p.text.data.toList.length := rfl
 rw [e, pageA_list]
 simp only [List.length_cons, List.length_append]
 omega
theorem scan_cut : ∀ (f : Nat) (l r : List UInt8), scan f l = some r → l = r ++ l.drop r.length := by
 intro f
 induction f with
 | zero => intro l r h; simp [scan] at h
 | succ f ih =>
  intro l r h
  cases l with
  | nil => simp [scan] at h
  | cons c l =>
   simp only [scan] at h
   split at h
   ·cases h; simp
   ·cases e : scan f l with
    | none => simp [e] at h
    | some r' =>
     simp [e] at h
     subst h
     have := ih l r' e
     simp only [List.cons_append, List.length_cons, List.drop_succ_cons]
     rw [← this]
theorem readV_cut (l : List UInt8) (q n j : Nat) (h : readV l q = some (n, j)) : l.drop q = varL n ++ l.drop j := by
 unfold readV at h
 cases e : scan 5 (l.drop q) with
 | none => simp [e] at h
 | some r =>
  have h3 := scan_cut 5 _ _ e
  simp only [e] at h
  split at h
  ·rename_i h1
   cases h
   rw [h1.2]
   rw [List.drop_drop] at h3
   exact h3
  ·cases h
def pgOf (s : ByteArray) : Option Pg :=
 match s.data.toList[0]? with
 | none => none
 | some k =>
  match readV s.data.toList 1 with
  | none => none
  | some (a, i1) =>
   match readV s.data.toList i1 with
   | none => none
   | some (b, i2) =>
    match readV s.data.toList i2 with
    | none => none
    | some (c, i3) =>
     match readV s.data.toList i3 with
     | none => none
     | some (d, i4) => letI := (Pg.mk k.toNat a b c d (s.extract i4 s.size)).decR; if (Pg.mk k.toNat a b c d (s.extract i4 s.size)).Right then some (Pg.mk k.toNat a b c d (s.extract i4 s.size)) else none
theorem cut_list (s : ByteArray) (i : Nat) : (s.extract i s.size).data.toList = s.data.toList.drop i := by
 simp [ByteArray.data_extract]
 exact List.take_of_length_le (by rw [List.length_drop]; exact Nat.le_refl _)
theorem ba_ext {a b : ByteArray} (h : a.data.toList = b.data.toList) : a = b := ByteArray.ext (Array.toList_inj.1 h)
theorem pg_back {s : ByteArray} {k : UInt8} {a b c d i1 i2 i3 i4 : Nat} (h0 : s.data.toList[0]? = some k) (h1 : readV s.data.toList 1 = some (a, i1)) (h2 : readV s.data.toList i1 = some (b, i2)) (h3 : readV s.data.toList i2 = some (c, i3)) (h4 : readV s.data.toList i3 = some (d, i4)) :
 pageA (Pg.mk k.toNat a b c d (s.extract i4 s.size)) = s := by
 apply ba_ext
 rw [pageA_list, cut_list]
 have e1 := readV_cut _ _ _ _ h1
 have e2 := readV_cut _ _ _ _ h2
 have e3 := readV_cut _ _ _ _ h3
 have e4 := readV_cut _ _ _ _ h4
 simp only [Int.toNat_natCast, ofNat_toNat]
 rw [← e4, ← e3, ← e2, ← e1]
 cases hl : s.data.toList with
 | nil => rw [hl] at h0; cases h0
 | cons x l => rw [hl] at h0; cases h0; simp
end Go.Proofs.YtcjgjkejhkhknacGreatDoor.Words
namespace Go.Proofs.YtcjgjkejhkhknacGreatDoor
open Words Sums
def readPg (t : ByteArray) : Option Pg := match unA t with | none => none | some s => pgOf s
theorem readPg_right {t : ByteArray} {p : Pg} (h : readPg t = some p) : p.Right ∧ sealA (pageA p) = t := by
 unfold readPg at h
 cases hu : unA t with
 | none => rw [hu] at h; cases h
 | some s =>
  rw [hu] at h
  simp only at h
  unfold pgOf at h
  split at h
  ·cases h
  ·rename_i k0 h0
   split at h
   ·cases h
   ·rename_i a i1 h1
    split at h
    ·cases h
    ·rename_i b i2 h2
     split at h
     ·cases h
     ·rename_i c i3 h3
      split at h
      ·cases h
      ·rename_i d i4 h4
       split at h
       ·rename_i hq
        cases h
        refine ⟨hq, ?_⟩
        rw [pg_back h0 h1 h2 h3 h4]
        exact (unA_some hu).1
       ·cases h
end Go.Proofs.YtcjgjkejhkhknacGreatDoor
namespace Go.Proofs.YtcjgjkejhkhknacGreatDoor
abbrev Bk := Bool × Int × List (Int × ByteArray)
def leafOk (t : Int × ByteArray) : Bool := decide (t.1 = 0 ∧ t.2.size = 0 ∨ t.1 = 1 ∧ 1 ≤ t.2.size ∧ t.2.size ≤ 120 ∨ t.1 = 2 ∧ t.2.size ≤ 120)
def leafAt (ls : List (Int × ByteArray)) (k : Nat) : Bool := match ls[k]? with
 | none => true
 | some t => leafOk t && !(decide (0 < k ∧ t.1 ≠ 0 ∧ ∃ u, ls[k - 1]? = some u ∧ u.1 = 0))
def blkOk (b : Bk) : Bool := decide (b.2.2.length = 4 ∧ 0 ≤ b.2.1 ∧ b.2.1 ≤ 1000000000) && (List.range b.2.2.length).all (leafAt b.2.2)
def flOk (bs : List Bk) : Bool := decide (3 ≤ bs.length ∧ bs.length ≤ 10) && bs.all blkOk
def readF (bs : List Bk) (b leaf : Int) : ByteArray × Bool := match bs[b.toNat]? with
 | none => (⟨#[]⟩, false)
 | some r => match r.2.2[leaf.toNat]? with
  | none => (⟨#[]⟩, false)
  | some t => if 0 ≤ b ∧ 0 ≤ leaf ∧ t.1 = 1 then (t.2, true) else (⟨#[]⟩, false)
end Go.Proofs.YtcjgjkejhkhknacGreatDoor
namespace Go.Proofs.YtcjgjkejhkhknacGreatDoor.Words
structure Fnd where
 block : Int
 leaf : Int
 page : Pg
def Fnd.key (x : Fnd) : Int := x.page.seq
def Asc (l : List Fnd) : Prop := l.Pairwise (fun a b => a.key ≤ b.key)
def Akin (l k : List Fnd) : Prop := ∀ c : Int, l.filter (fun x => x.key == c) = k.filter (fun x => x.key == c)
theorem Akin.refl (l : List Fnd) : Akin l l := fun _ => rfl
theorem Akin.symm {l k : List Fnd} (h : Akin l k) : Akin k l := fun c => (h c).symm
theorem Akin.trans {l k m : List Fnd} (h : Akin l k) (h2 : Akin k m) : Akin l m := fun c => (h c).trans (h2 c)
theorem Akin.app {a b c d : List Fnd} (h : Akin a b) (h2 : Akin c d) : Akin (a ++ c) (b ++ d) := fun z => by
 rw [List.filter_append, List.filter_append, h z, h2 z]
theorem Akin.flip {a b : List Fnd} (h : ∀ x ∈ a, ∀ y ∈ b, x.key ≠ y.key) : Akin (a ++ b) (b ++ a) := fun c => by
 rw [List.filter_append, List.filter_append]
 by_cases hc : ∃ x ∈ a, x.key = c
 ·obtain ⟨x, hx, rfl⟩ := hc
  have : b.filter (fun y => y.key == x.key) = [] := by
   rw [List.filter_eq_nil_iff]
   intro y hy
   have := h x hx y hy
   simpa using fun e => this e.symm
  rw [this]
  simp
 ·have : a.filter (fun y => y.key == c) = [] := by
   rw [List.filter_eq_nil_iff]
   intro y hy
   simpa using fun e => hc ⟨y, hy, e⟩
  rw [this]
  simp
theorem Akin.mem {l k : List Fnd} (h : Akin l k) (x : Fnd) : x ∈ l ↔ x ∈ k := by
 have := h x.key
 have e : ∀ m : List Fnd, x ∈ m ↔ x ∈ m.filter (fun y => y.key == x.key) := fun m => by simp
 rw [e l, e k, this]
theorem Akin.eq : ∀ {l k : List Fnd}, Akin l k → Asc l → Asc k → l = k := by
 intro l
 induction l with
 | nil =>
  intro k h _ _
  cases k with
  | nil => rfl
  | cons b k =>
   have := h b.key
   simp at this
 | cons a l ih =>
  intro k h ha hk
  cases k with
  | nil =>
   have := h a.key
   simp at this
  | cons b k =>
   have hab : a.key = b.key := by
    have h1 : b ∈ a :: l := (h.mem b).2 List.mem_cons_self
    have h2 : a ∈ b :: k := (h.mem a).1 List.mem_cons_self
    have c1 : a.key ≤ b.key := by
     rcases List.mem_cons.1 h1 with e | e
     ·rw [e]; exact Int.le_refl _
     ·exact (List.pairwise_cons.1 ha).1 b e
    have c2 : b.key ≤ a.key := by
     rcases List.mem_cons.1 h2 with e | e
     ·rw [e]; exact Int.le_refl _
     ·exact (List.pairwise_cons.1 hk).1 a e
    omega
   have h0 := h a.key
   rw [List.filter_cons_of_pos (by simp), List.filter_cons_of_pos (by simp [hab])] at h0
   injection h0 with e1 _
   subst e1
   congr 1
   refine ih (fun c => ?_) (List.pairwise_cons.1 ha).2 (List.pairwise_cons.1 hk).2
   have hc := h c
   by_cases e : a.key = c
   ·rw [List.filter_cons_of_pos (by simp [e]), List.filter_cons_of_pos (by simp [e])] at hc
    injection hc
   ·rw [List.filter_cons_of_neg (by simpa using e), List.filter_cons_of_neg (by simpa using e)] at hc
    exact hc
theorem Asc.app {a b : List Fnd} (ha : Asc a) (hb : Asc b) (h : ∀ x ∈ a, ∀ y ∈ b, x.key ≤ y.key) : Asc (a ++ b) := List.pairwise_append.2 ⟨ha, hb, h⟩
theorem Asc.left {a b : List Fnd} (h : Asc (a ++ b)) : Asc a := (List.pairwise_append.1 h).1
theorem Asc.right {a b : List Fnd} (h : Asc (a ++ b)) : Asc b := (List.pairwise_append.1 h).2.1
theorem Asc.across {a b : List Fnd} (h : Asc (a ++ b)) : ∀ x ∈ a, ∀ y ∈ b, x.key ≤ y.key := (List.pairwise_append.1 h).2.2
theorem Asc.le {l : List Fnd} (h : Asc l) {i j : Nat} {x y : Fnd} (hi : l[i]? = some x) (hj : l[j]? = some y) (hij : i ≤ j) : x.key ≤ y.key := by
 by_cases e : i = j
 ·subst e
  rw [hi] at hj
  cases hj
  exact Int.le_refl _
 ·obtain ⟨h1, e1⟩ := List.getElem?_eq_some_iff.1 hi
  obtain ⟨h2, e2⟩ := List.getElem?_eq_some_iff.1 hj
  rw [← e1, ← e2]
  exact List.pairwise_iff_getElem.1 h i j h1 h2 (by omega)
end Go.Proofs.YtcjgjkejhkhknacGreatDoor.Words
namespace Go.Proofs.YtcjgjkejhkhknacGreatDoor
open Words Sums
def leafPg (bs : List Bk) (b k : Int) : Option Pg := if (readF bs b k).2 then readPg (readF bs b k).1 else none
def foundsAt (bs : List Bk) (b : Nat) : Nat → List Fnd
 | 0 => []
 | k + 1 => foundsAt bs b k ++ (match leafPg bs b k with | some p => [⟨b, k, p⟩] | none => [])
def founds (bs : List Bk) : Nat → List Fnd
 | 0 => []
 | b + 1 => founds bs b ++ foundsAt bs b ((bs[b]?).map (fun r => r.2.2.length) |>.getD 0)
theorem foundsAt_len (bs : List Bk) (b k : Nat) : (foundsAt bs b k).length ≤ k := by
 induction k with
 | zero => exact Nat.le_refl _
 | succ k ih =>
  simp only [foundsAt, List.length_append]
  split <;> simp <;> omega
def inSq (x : Fnd) : List Fnd → List Fnd
 | [] => [x]
 | y :: l => if x.key < y.key then x :: y :: l else y :: inSq x l
def sortS (l : List Fnd) : List Fnd := l.foldl (fun m x => inSq x m) []
theorem inSq_mem {x y : Fnd} {l : List Fnd} : y ∈ inSq x l ↔ y = x ∨ y ∈ l := by
 induction l with
 | nil => simp [inSq]
 | cons z l ih =>
  unfold inSq
  split
  ·simp
  ·simp only [List.mem_cons, ih]
   constructor
   ·rintro (h | h | h)
    ·exact .inr (.inl h)
    ·exact .inl h
    ·exact .inr (.inr h)
   ·rintro (h | h | h)
    ·exact .inr (.inl h)
    ·exact .inl h
    ·exact .inr (.inr h)
theorem inSq_asc {x : Fnd} {l : List Fnd} (h : Asc l) : Asc (inSq x l) := by
 induction l with
 | nil => exact List.pairwise_singleton _ _
 | cons z l ih =>
  have h1 := List.pairwise_cons.1 h
  unfold inSq
  split
  ·rename_i hx
   refine List.pairwise_cons.2 ⟨?_, h⟩
   intro y hy
   rcases List.mem_cons.1 hy with e | e
   ·subst e; omega
   ·have := h1.1 y e; omega
  ·rename_i hx
   refine List.pairwise_cons.2 ⟨?_, ih h1.2⟩
   intro y hy
   rcases inSq_mem.1 hy with e | e
   ·subst e; omega
   ·exact h1.1 y e
theorem inSq_akin {x : Fnd} {l : List Fnd} (h : Asc l) : Akin (inSq x l) (l ++ [x]) := by
 intro c
 induction l with
 | nil => rfl
 | cons z l ih =>
  have h1 := List.pairwise_cons.1 h
  unfold inSq
  split
  ·rename_i hx
   rw [List.filter_append]
   by_cases e : x.key = c
   ·have hn : (z :: l).filter (fun y => y.key == c) = [] := by
     rw [List.filter_eq_nil_iff]
     intro y hy
     rcases List.mem_cons.1 hy with q | q
     ·subst q; simp; omega
     ·have := h1.1 y q; simp; omega
    rw [hn, List.filter_cons_of_pos (by simpa using e), hn, List.filter_cons_of_pos (by simpa using e)]
    rfl
   ·rw [List.filter_cons_of_neg (a := x) (by simpa using e), List.filter_cons_of_neg (a := x) (l := []) (by simpa using e)]
    simp
  ·rw [List.cons_append]
   by_cases e : z.key = c
   ·rw [List.filter_cons_of_pos (by simpa using e), List.filter_cons_of_pos (by simpa using e), ih h1.2]
   ·rw [List.filter_cons_of_neg (by simpa using e), List.filter_cons_of_neg (by simpa using e), ih h1.2]
theorem sortS_snoc (l : List Fnd) (x : Fnd) : sortS (l ++ [x]) = inSq x (sortS l) := by simp [sortS, List.foldl_append]
theorem snocS_ind {α : Type} {P : List α → Prop} (h0 : P []) (h1 : ∀ l r, P l → P (l ++ [r])) : ∀ l, P l := by
 intro l
 have : ∀ m : List α, P m.reverse := by
  intro m
  induction m with
  | nil => simpa using h0
  | cons a m ih => rw [List.reverse_cons]; exact h1 _ _ ih
 simpa using this l.reverse
theorem sortS_asc (l : List Fnd) : Asc (sortS l) := by
 induction l using snocS_ind with
 | h0 => exact List.Pairwise.nil
 | h1 l x ih => rw [sortS_snoc]; exact inSq_asc ih
theorem sortS_akin (l : List Fnd) : Akin l (sortS l) := by
 induction l using snocS_ind with
 | h0 => exact Akin.refl _
 | h1 l x ih =>
  rw [sortS_snoc]
  exact (ih.app (Akin.refl [x])).trans (inSq_akin (sortS_asc l)).symm
theorem sortS_eq {l m : List Fnd} (h : Akin l m) (ha : Asc m) : m = sortS l := (h.symm.trans (sortS_akin l)).eq ha (sortS_asc l)
theorem sortS_mem (l : List Fnd) (x : Fnd) : x ∈ sortS l ↔ x ∈ l := ((sortS_akin l).mem x).symm
def scanF (bs : List Bk) : List Fnd := sortS (founds bs bs.length)
theorem scanF_is {bs : List Bk} {M : List Fnd} (ha : Asc M) (hk : Akin (founds bs bs.length) M) : M = scanF bs := sortS_eq hk ha
def lenAt (bs : List Bk) (b : Nat) : Nat := (bs[b]?).map (fun r => r.2.2.length) |>.getD 0
def posAt (b k : Nat) : List (Nat × Nat) := (List.range k).map (fun j => (b, j))
def posN (bs : List Bk) (n : Nat) : List (Nat × Nat) := (List.range n).flatMap (fun b => posAt b (lenAt bs b))
def atQ (bs : List Bk) (q : Nat × Nat) : Option Fnd := (leafPg bs q.1 q.2).map (fun p => ⟨q.1, q.2, p⟩)
theorem posAt_succ (b k : Nat) : posAt b (k + 1) = posAt b k ++ [(b, k)] := by simp [posAt, List.range_succ]
theorem posN_succ (bs : List Bk) (n : Nat) : posN bs (n + 1) = posN bs n ++ posAt n (lenAt bs n) := by simp [posN, List.range_succ, List.flatMap_append]
theorem foundsAt_pos (bs : List Bk) (b k : Nat) : foundsAt bs b k = (posAt b k).filterMap (atQ bs) := by
 induction k with
 | zero => rfl
 | succ k ih =>
  rw [posAt_succ, List.filterMap_append, foundsAt, ih]
  congr 1
  cases h : leafPg bs (b : Int) (k : Int) with
  | none => simp [atQ, h]
  | some p => simp [atQ, h]
theorem founds_pos (bs : List Bk) (n : Nat) : founds bs n = (posN bs n).filterMap (atQ bs) := by
 induction n with
 | zero => rfl
 | succ n ih =>
  rw [posN_succ, List.filterMap_append, founds, ih, foundsAt_pos]
  rfl
theorem posAt_mem {b k : Nat} {q : Nat × Nat} : q ∈ posAt b k ↔ q.1 = b ∧ q.2 < k := by
 simp only [posAt, List.mem_map, List.mem_range]
 constructor
 ·rintro ⟨j, hj, rfl⟩; exact ⟨rfl, hj⟩
 ·rintro ⟨rfl, h⟩; exact ⟨q.2, h, rfl⟩
theorem posN_mem {bs : List Bk} {n : Nat} {q : Nat × Nat} : q ∈ posN bs n ↔ q.1 < n ∧ q.2 < lenAt bs q.1 := by
 simp only [posN, List.mem_flatMap, List.mem_range]
 constructor
 ·rintro ⟨b, hb, hq⟩
  obtain ⟨rfl, h⟩ := posAt_mem.1 hq
  exact ⟨hb, h⟩
 ·rintro ⟨h1, h2⟩; exact ⟨q.1, h1, posAt_mem.2 ⟨rfl, h2⟩⟩
theorem scan_mem {bs : List Bk} {x : Fnd} (h : x ∈ scanF bs) : ∃ b l : Nat, x.block = b ∧ x.leaf = l ∧ b < bs.length ∧ l < lenAt bs b ∧ leafPg bs b l = some x.page := by
 unfold scanF at h
 rw [sortS_mem, founds_pos, List.mem_filterMap] at h
 obtain ⟨q, hq, e⟩ := h
 have hm := posN_mem.1 hq
 simp only [atQ] at e
 cases hp : leafPg bs (q.1 : Int) (q.2 : Int) with
 | none => rw [hp] at e; cases e
 | some p =>
  rw [hp] at e
  simp only [Option.map_some, Option.some.injEq] at e
  subst e
  exact ⟨q.1, q.2, rfl, rfl, hm.1, hm.2, hp⟩
end Go.Proofs.YtcjgjkejhkhknacGreatDoor
namespace Go.Proofs.YtcjgjkejhkhknacGreatDoor.Pack
def mlen : Nat → List UInt8 → List UInt8 → Nat
 | 0, _, _ => 0
 | f + 1, a :: al, b :: bs => if a = b then mlen f al bs + 1 else 0
 | _ + 1, _, _ => 0
theorem mlen_le (f : Nat) (a b : List UInt8) : mlen f a b ≤ f ∧ mlen f a b ≤ b.length := by
 induction f generalizing a b with
 | zero => simp [mlen]
 | succ f ih =>
  cases a with
  | nil => simp [mlen]
  | cons x al =>
   cases b with
   | nil => simp [mlen]
   | cons y bs =>
    unfold mlen
    split
    ·have := ih al bs
     simp only [List.length_cons]
     omega
    ·simp
theorem mlen_same (f : Nat) (a b : List UInt8) (i : Nat) (h : i < mlen f a b) : a[i]? = b[i]? ∧ i < b.length := by
 induction f generalizing a b i with
 | zero => simp [mlen] at h
 | succ f ih =>
  cases a with
  | nil => simp [mlen] at h
  | cons x al =>
   cases b with
   | nil => simp [mlen] at h
   | cons y bs =>
    unfold mlen at h
    split at h
    ·rename_i e
     subst e
     cases i with
     | zero => simp
     | succ i =>
      have := ih al bs i (by omega)
      simp only [List.getElem?_cons_succ, List.length_cons]
      exact ⟨this.1, by omega⟩
    ·omega
def best (s : List UInt8) (at_ : Nat) : Nat → Nat × Nat
 | 0 => (0, 0)
 | k + 1 => if 4 ≤ mlen 31 (s.drop (at_ - (k + 1))) (s.drop at_) ∧ (best s at_ k).1 < mlen 31 (s.drop (at_ - (k + 1))) (s.drop at_) then (mlen 31 (s.drop (at_ - (k + 1))) (s.drop at_), k + 1) else best s at_ k
theorem best_of (s : List UInt8) (at_ k : Nat) : best s at_ k = (0, 0) ∨ (4 ≤ (best s at_ k).1 ∧ (best s at_ k).1 ≤ 31 ∧ 0 < (best s at_ k).2 ∧ (best s at_ k).2 ≤ k ∧ (best s at_ k).1 = mlen 31 (s.drop (at_ - (best s at_ k).2)) (s.drop at_)) := by
 induction k with
 | zero => left; rfl
 | succ k ih =>
  unfold best
  split
  ·rename_i h
   right
   have := (mlen_le 31 (s.drop (at_ - (k + 1))) (s.drop at_)).1
   exact ⟨h.1, this, Nat.succ_pos k, Nat.le_refl _, rfl⟩
  ·rcases ih with h | h
   ·left; exact h
   ·right; exact ⟨h.1, h.2.1, h.2.2.1, by omega, h.2.2.2.2⟩
def stepT (s : List UInt8) (st : Nat × List (Nat × Nat × List UInt8)) : Nat × List (Nat × Nat × List UInt8) :=
 if 0 < (best s st.1 st.1).1 then (st.1 + (best s st.1 st.1).1, st.2 ++ [((best s st.1 st.1).2, (best s st.1 st.1).1, [])])
 else match st.2.getLast? with
  | some (0, z, t) => if t.length < 31 then (st.1 + 1, st.2.dropLast ++ [(0, z, t ++ [s.getD st.1 0])]) else (st.1 + 1, st.2 ++ [(0, 0, [s.getD st.1 0])])
  | _ => (st.1 + 1, st.2 ++ [(0, 0, [s.getD st.1 0])])
def stepsT : Nat → List UInt8 → Nat × List (Nat × Nat × List UInt8)
 | 0, _ => (0, [])
 | n + 1, s => if (stepsT n s).1 < s.length then stepT s (stepsT n s) else stepsT n s
def toks (s : List UInt8) : List (Nat × Nat × List UInt8) := (stepsT s.length s).2
def again : Nat → Nat → List UInt8 → List UInt8
 | 0, _, out => out
 | n + 1, back, out => again n back (out ++ [out.getD (out.length - back) 0])
def TokOk (len : Nat) (t : Nat × Nat × List UInt8) : Prop := if t.1 = 0 then (1 ≤ t.2.2.length ∧ t.2.2.length ≤ 31 ∧ t.2.1 = 0) else (t.1 ≤ len ∧ 1 ≤ t.2.1 ∧ t.2.1 ≤ 31 ∧ t.2.2 = [])
abbrev decTok (len : Nat) (t : Nat × Nat × List UInt8) : Decidable (TokOk len t) := by unfold TokOk; exact inferInstance
def tell (out : List UInt8) (t : Nat × Nat × List UInt8) : List UInt8 := if t.1 = 0 then out ++ t.2.2 else again t.2.1 t.1 out
def plainFrom (out : List UInt8) : List (Nat × Nat × List UInt8) → Option (List UInt8)
 | [] => some out
 | t :: r => letI := decTok out.length t; if TokOk out.length t then (if (tell out t).length ≤ 64 then plainFrom (tell out t) r else none) else none
def plain (l : List (Nat × Nat × List UInt8)) : Option (List UInt8) := plainFrom [] l
theorem plainFrom_append (out : List UInt8) (a b : List (Nat × Nat × List UInt8)) : plainFrom out (a ++ b) = (plainFrom out a).bind fun o => plainFrom o b := by
 induction a generalizing out with
 | nil => rfl
 | cons t a ih =>
  simp only [List.cons_append, plainFrom]
  split
  ·split
   ·exact ih _
   ·rfl
  ·rfl
theorem plainFrom_snoc (a : List (Nat × Nat × List UInt8)) (t : Nat × Nat × List UInt8) (o : List UInt8) (h : plain a = some o) (h1 : TokOk o.length t) (h2 : (tell o t).length ≤ 64) : plain (a ++ [t]) = some (tell o t) := by
 unfold plain at *
 rw [plainFrom_append, h]
 simp only [Option.bind_some, plainFrom]
 rw [if_pos h1, if_pos h2]
theorem again_take (s : List UInt8) (at_ back n : Nat) (hb : 0 < back) (hk : back ≤ at_) (h : ∀ i, i < n → s[at_ - back + i]? = s[at_ + i]? ∧ at_ + i < s.length) : again n back (s.take at_) = s.take (at_ + n) := by
 induction n generalizing at_ with
 | zero => rfl
 | succ n ih =>
  have h0 := h 0 (by omega)
  have hl : at_ < s.length := by have := h0.2; omega
  have hlen : (s.take at_).length = at_ := by rw [List.length_take]; omega
  have e : s.take at_ ++ [(s.take at_).getD ((s.take at_).length - back) 0] = s.take (at_ + 1) := by
   rw [List.take_succ_eq_append_getElem hl, hlen]
   congr 2
   rw [List.getD_eq_getElem?_getD, List.getElem?_take_of_lt (by omega)]
   have := h0.1
   simp only [Nat.add_zero] at this
   rw [this, List.getElem?_eq_getElem hl]
   rfl
  unfold again
  rw [e, ih (at_ + 1) (by omega) (fun i hi => by
   have := h (i + 1) (by omega)
   rw [show at_ + 1 - back + i = at_ - back + (i + 1) by omega, show at_ + 1 + i = at_ + (i + 1) by omega]
   exact this), show at_ + 1 + n = at_ + (n + 1) by omega]
def Kept (s : List UInt8) (st : Nat × List (Nat × Nat × List UInt8)) : Prop := st.1 ≤ s.length ∧ plain st.2 = some (s.take st.1) ∧ ∀ t ∈ st.2, t.1 = 0 ∨ 4 ≤ t.2.1
theorem plain_last (a : List (Nat × Nat × List UInt8)) (t : Nat × Nat × List UInt8) (o : List UInt8) (h : plain (a ++ [t]) = some o) : ∃ o', plain a = some o' ∧ TokOk o'.length t ∧ tell o' t = o := by
 unfold plain at *
 rw [plainFrom_append] at h
 cases hp : plainFrom [] a with
 | none => rw [hp] at h; cases h
 | some o' =>
  rw [hp] at h
  simp only [Option.bind_some, plainFrom] at h
  split at h
  ·split at h
   ·rename_i h1 h2
    cases h
    exact ⟨o', rfl, h1, rfl⟩
   ·cases h
  ·cases h
theorem take_next (s : List UInt8) (k : Nat) (h : k < s.length) : s.take k ++ [s.getD k 0] = s.take (k + 1) := by
 rw [List.take_succ_eq_append_getElem h, List.getD_eq_getElem?_getD, List.getElem?_eq_getElem h]
 rfl
theorem kept_new (s : List UInt8) (k : Nat) (out : List (Nat × Nat × List UInt8)) (hs : s.length ≤ 64) (hk : k < s.length) (h : Kept s (k, out)) : Kept s (k + 1, out ++ [(0, 0, [s.getD k 0])]) := by
 refine ⟨hk, ?_, ?_⟩
 ·have hp := plainFrom_snoc out (0, 0, [s.getD k 0]) _ h.2.1 (by simp [TokOk]) (by simp [tell]; omega)
  rw [hp]
  simp only [tell, if_true]
  exact congrArg some (take_next s k hk)
 ·intro t ht
  rcases List.mem_append.1 ht with h' | h'
  ·exact h.2.2 t h'
  ·simp at h'; subst h'; left; rfl
theorem kept_step (s : List UInt8) (st : Nat × List (Nat × Nat × List UInt8)) (hs : s.length ≤ 64) (hk : st.1 < s.length) (h : Kept s st) : Kept s (stepT s st) ∧ st.1 < (stepT s st).1 := by
 obtain ⟨k, out⟩ := st
 unfold stepT
 simp only
 split
 ·rename_i hb
  rcases best_of s k k with h0 | ⟨h4, h31, hb0, hbk, hm⟩
  ·rw [h0] at hb; simp at hb
  ·have hsame : ∀ i, i < (best s k k).1 → s[k - (best s k k).2 + i]? = s[k + i]? ∧ k + i < s.length := by
    intro i hi
    rw [hm] at hi
    obtain ⟨e1, e2⟩ := mlen_same _ _ _ i hi
    rw [List.getElem?_drop, List.getElem?_drop] at e1
    rw [List.length_drop] at e2
    exact ⟨e1, by omega⟩
   have hle : k + (best s k k).1 ≤ s.length := by
    have := (hsame ((best s k k).1 - 1) (by omega)).2
    omega
   have ht := again_take s k (best s k k).2 (best s k k).1 hb0 hbk hsame
   refine ⟨⟨hle, ?_, ?_⟩, by omega⟩
   ·have hl : (s.take k).length = k := by simp at hk ⊢; omega
    have hok : TokOk (s.take k).length ((best s k k).2, (best s k k).1, []) := by
     unfold TokOk
     rw [if_neg (by simp only; omega), hl]
     exact ⟨hbk, by simp only; omega, h31, rfl⟩
    have htell : tell (s.take k) ((best s k k).2, (best s k k).1, []) = s.take (k + (best s k k).1) := by
     unfold tell
     rw [if_neg (by simp only; omega)]
     exact ht
    have := plainFrom_snoc out _ _ h.2.1 hok (by rw [htell, List.length_take]; omega)
    rw [this, htell]
   ·intro t ht
    rcases List.mem_append.1 ht with h' | h'
    ·exact h.2.2 t h'
    ·simp at h'; subst h'; right; exact h4
 ·split
  ·rename_i z t hlast
   split
   ·rename_i ht
    obtain ⟨ini, hini⟩ : ∃ ini, out = ini ++ [(0, z, t)] := by
     obtain ⟨ini, hi⟩ := List.getLast?_eq_some_iff.1 hlast
     exact ⟨ini, hi⟩
    subst hini
    obtain ⟨o', h1, h2, h3⟩ := plain_last ini _ _ h.2.1
    simp only [List.dropLast_concat]
    have h2' := h2
    unfold TokOk at h2'
    rw [if_pos rfl] at h2'
    have htl : tell o' (0, z, t ++ [s.getD k 0]) = s.take (k + 1) := by
     unfold tell at h3 ⊢
     rw [if_pos rfl] at h3 ⊢
     rw [← take_next s k hk, ← h3, List.append_assoc]
    refine ⟨⟨hk, ?_, ?_⟩, Nat.lt_succ_self k⟩
    ·have := plainFrom_snoc ini (0, z, t ++ [s.getD k 0]) o' h1 (by
      unfold TokOk
      rw [if_pos rfl]
      simp only [List.length_append, List.length_singleton]
      exact ⟨by omega, by omega, h2'.2.2⟩) (by rw [htl, List.length_take]; omega)
     rw [this, htl]
    ·intro t' ht'
     rcases List.mem_append.1 ht' with h' | h'
     ·exact h.2.2 t' (List.mem_append_left _ h')
     ·simp at h'; subst h'; left; rfl
   ·exact ⟨kept_new s k out hs hk h, Nat.lt_succ_self k⟩
  ·exact ⟨kept_new s k out hs hk h, Nat.lt_succ_self k⟩
theorem kept_steps (s : List UInt8) (hs : s.length ≤ 64) (n : Nat) : Kept s (stepsT n s) ∧ min n s.length ≤ (stepsT n s).1 := by
 induction n with
 | zero => exact ⟨⟨Nat.zero_le _, rfl, fun t ht => by cases ht⟩, by simp⟩
 | succ n ih =>
  unfold stepsT
  split
  ·rename_i h
   have := kept_step s _ hs h ih.1
   exact ⟨this.1, by omega⟩
  ·exact ⟨ih.1, by omega⟩
theorem plain_toks (s : List UInt8) (hs : s.length ≤ 64) : plain (toks s) = some s ∧ ∀ t ∈ toks s, t.1 = 0 ∨ 4 ≤ t.2.1 := by
 obtain ⟨⟨h1, h2, h3⟩, h4⟩ := kept_steps s hs s.length
 refine ⟨?_, h3⟩
 unfold toks
 rw [h2, List.take_of_length_le (by omega)]
end Go.Proofs.YtcjgjkejhkhknacGreatDoor.Pack
namespace Go.Proofs.YtcjgjkejhkhknacGreatDoor.Pack
def zTok (t : Nat × Nat × List UInt8) : List UInt8 := if t.1 = 0 then UInt8.ofNat t.2.2.length :: t.2.2 else [UInt8.ofNat (128 + t.2.1), UInt8.ofNat t.1]
def zOf (s : List UInt8) : List UInt8 := 122 :: (toks s).flatMap zTok
def packL (s : List UInt8) : Option (List UInt8) := if 64 < s.length then none else some (if s.length + 1 ≤ (zOf s).length then 114 :: s else zOf s)
def readT : Nat → List UInt8 → Option (List (Nat × Nat × List UInt8))
 | _, [] => some []
 | 0, _ :: _ => none
 | f + 1, n :: r =>
  if 128 < n.toNat then (match r with
   | b :: r' => (readT f r').map fun l => (b.toNat, n.toNat - 128, []) :: l
   | [] => none)
  else if n.toNat ≤ r.length then (readT f (r.drop n.toNat)).map fun l => (0, 0, r.take n.toNat) :: l else none
def unpackL (t : List UInt8) : Option (List UInt8) :=
 match t with
 | [] => none
 | c :: r => (if c = 122 then (readT r.length r).bind plain else some r).bind fun s => if packL s = some t then some s else none
theorem pack_len (s t : List UInt8) (h : packL s = some t) : t.length ≤ s.length + 1 := by
 unfold packL at h
 split at h
 ·cases h
 ·cases h
  split
  ·simp
  ·omega
def Fit (t : Nat × Nat × List UInt8) : Prop := (t.1 = 0 ∧ 1 ≤ t.2.2.length ∧ t.2.2.length ≤ 31 ∧ t.2.1 = 0) ∨ (0 < t.1 ∧ t.1 ≤ 64 ∧ 1 ≤ t.2.1 ∧ t.2.1 ≤ 31 ∧ t.2.2 = [])
theorem fit_of (out o : List UInt8) (l : List (Nat × Nat × List UInt8)) (ho : out.length ≤ 64) (h : plainFrom out l = some o) : ∀ t ∈ l, Fit t := by
 induction l generalizing out with
 | nil => intro t ht; cases ht
 | cons a l ih =>
  unfold plainFrom at h
  split at h
  ·rename_i hok
   split at h
   ·rename_i hlen
    intro t ht
    rcases List.mem_cons.1 ht with e | e
    ·subst e
     unfold TokOk at hok
     split at hok
     ·rename_i h0
      exact .inl ⟨h0, hok⟩
     ·rename_i h0
      exact .inr ⟨by omega, by omega, hok.2⟩
    ·exact ih _ hlen h t e
   ·cases h
  ·cases h
theorem small_byte (n : Nat) (h : n < 256) : (UInt8.ofNat n).toNat = n := by rw [UInt8.toNat_ofNat']; omega
theorem zTok_len (t : Nat × Nat × List UInt8) : 1 ≤ (zTok t).length := by
 unfold zTok
 split <;> simp
theorem readT_of (l : List (Nat × Nat × List UInt8)) (h : ∀ t ∈ l, Fit t) (f : Nat) (hf : (l.flatMap zTok).length ≤ f) : readT f (l.flatMap zTok) = some l := by
 induction l generalizing f with
 | nil =>
  simp only [List.flatMap_nil]
  cases f <;> rfl
 | cons t l ih =>
  have ht := h t (by simp)
  have hl := ih (fun t ht => h t (by simp [ht]))
  rw [List.flatMap_cons] at hf ⊢
  rw [List.length_append] at hf
  have h1 := zTok_len t
  obtain ⟨g, rfl⟩ : ∃ g, f = g + 1 := ⟨f - 1, by omega⟩
  obtain ⟨b, n, x⟩ := t
  rcases ht with ⟨e0, e1, e2, e3⟩ | ⟨e0, e1, e2, e3, e4⟩
  ·simp only at e0 e1 e2 e3
   subst e0 e3
   have hz : zTok (0, 0, x) = UInt8.ofNat x.length :: x := rfl
   rw [hz] at hf ⊢
   rw [List.cons_append]
   unfold readT
   rw [small_byte x.length (by omega), if_neg (by omega), if_pos (by simp)]
   rw [List.drop_left, List.take_left, hl g (by simp only [List.length_cons] at hf; omega)]
   rfl
  ·simp only at e0 e1 e2 e3 e4
   subst e4
   have hz : zTok (b, n, []) = [UInt8.ofNat (128 + n), UInt8.ofNat b] := by
    unfold zTok
    rw [if_neg (by simp only; omega)]
   rw [hz] at hf ⊢
   rw [List.cons_append]
   unfold readT
   rw [small_byte (128 + n) (by omega), if_pos (by omega)]
   simp only [List.cons_append, List.nil_append]
   rw [hl g (by simp only [List.length_cons, List.length_nil] at hf; omega), small_byte b (by omega)]
   simp
theorem unpack_pack (s t : List UInt8) (h : packL s = some t) : unpackL t = some s := by
 have hs : s.length ≤ 64 := by
  unfold packL at h
  split at h
  ·cases h
  ·omega
 obtain ⟨hp, -⟩ := plain_toks s hs
 have h' := h
 unfold packL at h'
 rw [if_neg (by omega)] at h'
 split at h'
 ·cases h'
  unfold unpackL
  simp only
  rw [if_neg (by decide)]
  simp only [Option.bind_some]
  rw [if_pos h]
 ·cases h'
  show (if (122 : UInt8) = 122 then (readT ((toks s).flatMap zTok).length ((toks s).flatMap zTok)).bind plain else some _).bind _ = _
  rw [if_pos rfl, readT_of _ (fit_of [] s _ (by simp) hp) _ (Nat.le_refl _)]
  simp only [Option.bind_some, hp]
  rw [if_pos h]
theorem pack_unpack (s t : List UInt8) (h : unpackL t = some s) : packL s = some t := by
 unfold unpackL at h
 split at h
 ·cases h
 ·rename_i c r
  cases hx : (if c = 122 then (readT r.length r).bind plain else some r) with
  | none => rw [hx] at h; cases h
  | some x =>
   rw [hx] at h
   simp only [Option.bind_some] at h
   split at h
   ·rename_i e
    cases h
    exact e
   ·cases h
theorem again_len (n back : Nat) (out : List UInt8) : (again n back out).length = out.length + n := by
 induction n generalizing out with
 | zero => rfl
 | succ n ih => unfold again; rw [ih]; simp; omega
end Go.Proofs.YtcjgjkejhkhknacGreatDoor.Pack
namespace Go.Proofs.YtcjgjkejhkhknacGreatDoor
open Words Sums Pack
def isData (c : Int) (x : Fnd) : Bool := x.page.kind == 1 && x.page.tx == c
def newP (M : List Fnd) (c : Int) : Option Fnd := (M.filter (isData c)).getLast?
def textP (M : List Fnd) (c : Int) : Option (List UInt8) := (newP M c).bind fun x => unpackL x.page.text.data.toList
def sameP (M : List Fnd) (live : List Int) (t : List UInt8) : Int := (live.find? fun c => decide (textP M c = some t)).getD 0
theorem newP_snoc (l : List Fnd) (x : Fnd) (c : Int) : newP (l ++ [x]) c = if isData c x then some x else newP l c := by
 unfold newP
 rw [List.filter_append]
 by_cases h : isData c x = true
 ·rw [List.filter_cons_of_pos h, List.filter_nil, List.getLast?_concat, if_pos h]
 ·rw [List.filter_cons_of_neg h, List.filter_nil, List.append_nil, if_neg h]
theorem newP_mem {l : List Fnd} {c : Int} {x : Fnd} (h : newP l c = some x) : x ∈ l ∧ isData c x = true := by
 unfold newP at h
 have := List.mem_of_getLast? h
 rw [List.mem_filter] at this
 exact this
theorem newP_succ {M : List Fnd} {k : Nat} {x : Fnd} (h : M[k]? = some x) (c : Int) : newP (M.take (k + 1)) c = if isData c x then some x else newP (M.take k) c := by
 rw [List.take_add_one, h]
 exact newP_snoc _ _ _
theorem inSq_perm (x : Fnd) (l : List Fnd) : (inSq x l).Perm (x :: l) := by
 induction l with
 | nil => exact List.Perm.refl _
 | cons y l ih =>
  unfold inSq
  split
  ·exact List.Perm.refl _
  ·exact (List.Perm.cons y ih).trans (List.Perm.swap x y l)
theorem sortS_perm (l : List Fnd) : (sortS l).Perm l := by
 induction l using snocS_ind with
 | h0 => exact List.Perm.refl _
 | h1 l x ih =>
  rw [sortS_snoc]
  exact (inSq_perm x _).trans ((List.Perm.cons x ih).trans (List.perm_append_singleton x l).symm)
theorem sameP_cons (M : List Fnd) (c : Int) (l : List Int) (t : List UInt8) : sameP M (c :: l) t = if textP M c = some t then c else sameP M l t := by
 unfold sameP
 rw [List.find?_cons]
 by_cases h : textP M c = some t
 ·simp [h]
 ·simp [h]
theorem sameP_drop {M : List Fnd} {live : List Int} {k : Nat} {c : Int} (t : List UInt8) (h : live[k]? = some c) : sameP M (live.drop k) t = if textP M c = some t then c else sameP M (live.drop (k + 1)) t := by
 obtain ⟨hk, e⟩ := List.getElem?_eq_some_iff.1 h
 rw [List.drop_eq_getElem_cons hk, sameP_cons, e]
theorem scan_count (bs : List Bk) (m : Nat) (h : ∀ b ∈ bs, b.2.2.length ≤ m) : (scanF bs).length ≤ bs.length * m := by
 have hf : ∀ n, (founds bs n).length ≤ n * m := by
  intro n
  induction n with
  | zero => simp [founds]
  | succ n ih =>
   rw [founds, List.length_append, Nat.succ_mul]
   have h1 := foundsAt_len bs n ((bs[n]?).map (fun r => r.2.2.length) |>.getD 0)
   have h2 : ((bs[n]?).map (fun r => r.2.2.length) |>.getD 0) ≤ m := by
    cases e : bs[n]? with
    | none => simp
    | some r => simpa using h r (List.mem_of_getElem? e)
   omega
 unfold scanF
 rw [(sortS_perm _).length_eq]
 exact hf bs.length
theorem scan_right {bs : List Bk} {x : Fnd} (h : x ∈ scanF bs) : x.page.Right := by
 obtain ⟨b, l, -, -, -, -, hp⟩ := scan_mem h
 unfold leafPg at hp
 split at hp
 ·exact (readPg_right hp).1
 ·cases hp
end Go.Proofs.YtcjgjkejhkhknacGreatDoor
