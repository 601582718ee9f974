/-
  SMath; SeP; RdP; FoP; StMath; ScM; ScM2; TMath; ZMath; ChM
-/
import Derived.Test.YtfmnaidhfgmemaaGreatDoorPk0
import Derived.Test.YtfmnaidhfgmemaaGreatDoorPk7
import Derived.Test.YtfmnaidhfgmemaaGreatDoorPk13
import Derived.Test.YtfmnaidhfgmemaaGreatDoorPk14
import Derived.Test.YtfmnaidhfgmemaaGreatDoorPk6
namespace Go.Proofs.YtfmnaidhfgmemaaGreatDoor.Sums
def poly : Nat := 3558460437
def half (x : Nat) : Nat := x / 2 ^^^ (if x % 2 = 1 then poly else 0)
def h4 (x : Nat) : Nat := half (half (half (half x)))
def sumB (s : Nat) (b : UInt8) : Nat := h4 (h4 (s ^^^ b.toNat))
def sumL (s : Nat) (l : List UInt8) : Nat := l.foldl sumB s
def tab : List Nat := [0, 1166650509, 2333301018, 3466261911, 3189058079, 4221339282, 889615109, 1888477064, 3558460437, 2442158232, 1594529039, 444807554, 1779230218, 797264519, 3776954128, 2761298845]
theorem mod2_lt (x : Nat) : x % 2 = 0 ∨ x % 2 = 1 := by omega
theorem half_lt (x : Nat) (h : x < 4294967296) : half x < 4294967296 := by
  unfold half
  refine Nat.xor_lt_two_pow (n := 32) (by omega) ?_
  split <;> simp [poly]
theorem h4_lt (x : Nat) (h : x < 4294967296) : h4 x < 4294967296 := half_lt _ (half_lt _ (half_lt _ (half_lt _ h)))
theorem byte_lt (b : UInt8) : b.toNat < 256 := by have := b.toNat_lt; omega
theorem xor_lt32 (x y : Nat) (h : x < 4294967296) (k : y < 4294967296) : x ^^^ y < 4294967296 := Nat.xor_lt_two_pow (n := 32) h k
theorem xb_lt (s : Nat) (b : UInt8) (h : s < 4294967296) : s ^^^ b.toNat < 4294967296 := xor_lt32 _ _ h (by have := byte_lt b; omega)
theorem sumB_lt (s : Nat) (b : UInt8) (h : s < 4294967296) : sumB s b < 4294967296 := h4_lt _ (h4_lt _ (xb_lt s b h))
theorem sumL_lt (l : List UInt8) : ∀ s, s < 4294967296 → sumL s l < 4294967296 := by
  induction l with
  | nil => intro s h; exact h
  | cons a l ih => intro s h; exact ih _ (sumB_lt s a h)
theorem sumL_app (s : Nat) (l k : List UInt8) : sumL s (l ++ k) = sumL (sumL s l) k := by simp [sumL]
theorem sumL_take (s : Nat) (l : List UInt8) (k : Nat) (h : k < l.length) : sumL s (l.take (k + 1)) = sumB (sumL s (l.take k)) l[k] := by
  rw [List.take_succ_eq_append_getElem h, sumL_app]; rfl
theorem xor_half (x y : Nat) : half (x ^^^ y) = half x ^^^ half y := by
  unfold half
  have e1 : (x ^^^ y) / 2 = x / 2 ^^^ y / 2 := by
    have := Nat.shiftRight_xor_distrib (a := x) (b := y) (i := 1)
    simpa [Nat.shiftRight_eq_div_pow] using this
  have e2 : (x ^^^ y) % 2 = (x % 2) ^^^ (y % 2) := by
    have := Nat.xor_mod_two_pow (a := x) (b := y) (n := 1)
    simpa using this
  rw [e1, e2]
  rcases mod2_lt x with hx | hx <;> rcases mod2_lt y with hy | hy <;> simp [hx, hy]
  · rw [Nat.xor_assoc]
  · rw [Nat.xor_assoc, Nat.xor_assoc]; congr 1; exact Nat.xor_comm _ _
  · rw [Nat.xor_assoc, ← Nat.xor_assoc poly, Nat.xor_comm poly, Nat.xor_assoc (y / 2), Nat.xor_self, Nat.xor_zero]
theorem xor_h4 (x y : Nat) : h4 (x ^^^ y) = h4 x ^^^ h4 y := by simp only [h4, xor_half]
theorem half_two (x : Nat) : half (2 * x) = x := by
  unfold half
  have e1 : 2 * x / 2 = x := by omega
  have e2 : 2 * x % 2 = 0 := by omega
  rw [e1, e2]; simp
theorem h4_16 (q : Nat) : h4 (16 * q) = q := by
  unfold h4
  rw [show 16 * q = 2 * (2 * (2 * (2 * q))) by omega, half_two, half_two, half_two, half_two]
theorem h4_low : ∀ r : Fin 16, h4 r.val = tab[r.val]'(by simp [tab]) := by decide
theorem split16 (x : Nat) : x = (16 * (x / 16)) ^^^ (x % 16) := by
  have h := Nat.two_pow_add_eq_or_of_lt (i := 4) (b := x % 16) (by omega) (x / 16)
  have e : 16 * (x / 16) ^^^ (x % 16) = 16 * (x / 16) ||| (x % 16) := by
    apply Nat.eq_of_testBit_eq
    intro i
    rw [Nat.testBit_xor, Nat.testBit_or]
    have e16 : (16 : Nat) = 2 ^ 4 := rfl
    by_cases hi : i < 4
    · have : (16 * (x / 16)).testBit i = false := by rw [e16, Nat.testBit_two_pow_mul]; simp; omega
      simp [this]
    · have : (x % 16).testBit i = false := by rw [e16, Nat.testBit_mod_two_pow]; simp; omega
      simp [this]
  rw [e]
  simp at h
  omega
theorem tab_len : tab.length = 16 := rfl
theorem h4_tab (x : Nat) (h : x % 16 < tab.length) : h4 x = x / 16 ^^^ tab[x % 16] := by
  have e := h4_low ⟨x % 16, by omega⟩
  simp only at e
  rw [← e]
  conv => lhs; rw [split16 x, xor_h4, h4_16]
def four (x : Nat) : List UInt8 := [UInt8.ofNat (x / 16777216 % 256), UInt8.ofNat (x / 65536 % 256), UInt8.ofNat (x / 256 % 256), UInt8.ofNat (x % 256)]
theorem four_len (x : Nat) : (four x).length = 4 := rfl
def start : Nat := 4294967295
def sumOf (l : List UInt8) : Nat := sumL start l
theorem sumOf_lt (l : List UInt8) : sumOf l < 4294967296 := sumL_lt l _ (by decide)
end Go.Proofs.YtfmnaidhfgmemaaGreatDoor.Sums

namespace Go.Proofs.YtfmnaidhfgmemaaGreatDoor
open Sums
def sealA (t : ByteArray) : ByteArray := t ++ ⟨(four (sumOf t.data.toList)).toArray⟩
def body (t : ByteArray) : ByteArray := t.extract 0 (t.size - 4)
theorem body_size (t : ByteArray) : (body t).size = t.size - 4 := by simp [body]
def unA (t : ByteArray) : Option ByteArray :=
  if 4 ≤ t.size ∧ t.size ≤ 20004 ∧ (sealA (body t)).data.toList = t.data.toList then some (body t) else none
theorem unA_some {t s : ByteArray} (h : unA t = some s) : sealA s = t ∧ s.size ≤ 20000 := by
  unfold unA at h
  split at h
  · rename_i hc
    cases h
    exact ⟨ByteArray.ext (Array.toList_inj.1 hc.2.2), by rw [body_size]; omega⟩
  · cases h
theorem unA_none {t : ByteArray} (h : ¬ (4 ≤ t.size ∧ t.size ≤ 20004 ∧ sealA (body t) = t)) : unA t = none := by
  unfold unA
  rw [if_neg]
  rintro ⟨a, b, c⟩
  exact h ⟨a, b, ByteArray.ext (Array.toList_inj.1 c)⟩
theorem unA_yes {t : ByteArray} (h1 : 4 ≤ t.size) (h2 : t.size ≤ 20004) (h3 : sealA (body t) = t) : unA t = some (body t) := by
  unfold unA
  rw [if_pos ⟨h1, h2, by rw [h3]⟩]
end Go.Proofs.YtfmnaidhfgmemaaGreatDoor

namespace Go.Proofs.YtfmnaidhfgmemaaGreatDoor
open Words Sums
def readPg (t : ByteArray) : Option Pg := match unA t with | none => none | some s => pgOf s
theorem readPg_right {t : ByteArray} {p : Pg} (h : readPg t = some p) : p.Right ∧ sealA (pageA p) = t := by
  unfold readPg at h
  cases hu : unA t with
  | none => rw [hu] at h; cases h
  | some s =>
    rw [hu] at h
    simp only at h
    unfold pgOf at h
    split at h
    · cases h
    · rename_i k0 h0
      split at h
      · cases h
      · rename_i a i1 h1
        split at h
        · cases h
        · rename_i b i2 h2
          split at h
          · cases h
          · rename_i c i3 h3
            split at h
            · cases h
            · rename_i d i4 h4
              split at h
              · rename_i hq
                cases h
                refine ⟨hq, ?_⟩
                rw [pg_back h0 h1 h2 h3 h4]
                exact (unA_some hu).1
              · cases h
end Go.Proofs.YtfmnaidhfgmemaaGreatDoor

namespace Go.Proofs.YtfmnaidhfgmemaaGreatDoor
open Words Sums
def leafPg (bs : List Bk) (b k : Int) : Option Pg := if (readF bs b k).2 then readPg (readF bs b k).1 else none
def foundsAt (bs : List Bk) (b : Nat) : Nat → List Fnd
  | 0 => []
  | k + 1 => foundsAt bs b k ++ (match leafPg bs b k with | some p => [⟨b, k, p⟩] | none => [])
def founds (bs : List Bk) : Nat → List Fnd
  | 0 => []
  | b + 1 => founds bs b ++ foundsAt bs b ((bs[b]?).map (fun r => r.2.2.length) |>.getD 0)
theorem foundsAt_len (bs : List Bk) (b k : Nat) : (foundsAt bs b k).length ≤ k := by
  induction k with
  | zero => exact Nat.le_refl _
  | succ k ih =>
    simp only [foundsAt, List.length_append]
    split <;> simp <;> omega
end Go.Proofs.YtfmnaidhfgmemaaGreatDoor

namespace Go.Proofs.YtfmnaidhfgmemaaGreatDoor
end Go.Proofs.YtfmnaidhfgmemaaGreatDoor

namespace Go.Proofs.YtfmnaidhfgmemaaGreatDoor
open Words Sums
def inSq (x : Fnd) : List Fnd → List Fnd
  | [] => [x]
  | y :: l => if x.key < y.key then x :: y :: l else y :: inSq x l
def sortS (l : List Fnd) : List Fnd := l.foldl (fun m x => inSq x m) []
theorem inSq_mem {x y : Fnd} {l : List Fnd} : y ∈ inSq x l ↔ y = x ∨ y ∈ l := by
  induction l with
  | nil => simp [inSq]
  | cons z l ih =>
    unfold inSq
    split
    · simp
    · simp only [List.mem_cons, ih]
      constructor
      · rintro (h | h | h)
        · exact .inr (.inl h)
        · exact .inl h
        · exact .inr (.inr h)
      · rintro (h | h | h)
        · exact .inr (.inl h)
        · exact .inl h
        · exact .inr (.inr h)
theorem inSq_asc {x : Fnd} {l : List Fnd} (h : Asc l) : Asc (inSq x l) := by
  induction l with
  | nil => exact List.pairwise_singleton _ _
  | cons z l ih =>
    have h1 := List.pairwise_cons.1 h
    unfold inSq
    split
    · rename_i hx
      refine List.pairwise_cons.2 ⟨?_, h⟩
      intro y hy
      rcases List.mem_cons.1 hy with e | e
      · subst e; omega
      · have := h1.1 y e; omega
    · rename_i hx
      refine List.pairwise_cons.2 ⟨?_, ih h1.2⟩
      intro y hy
      rcases inSq_mem.1 hy with e | e
      · subst e; omega
      · exact h1.1 y e
theorem inSq_akin {x : Fnd} {l : List Fnd} (h : Asc l) : Akin (inSq x l) (l ++ [x]) := by
  intro c
  induction l with
  | nil => rfl
  | cons z l ih =>
    have h1 := List.pairwise_cons.1 h
    unfold inSq
    split
    · rename_i hx
      rw [List.filter_append]
      by_cases e : x.key = c
      · have hn : (z :: l).filter (fun y => y.key == c) = [] := by
          rw [List.filter_eq_nil_iff]
          intro y hy
          rcases List.mem_cons.1 hy with q | q
          · subst q; simp; omega
          · have := h1.1 y q; simp; omega
        rw [hn, List.filter_cons_of_pos (by simpa using e), hn, List.filter_cons_of_pos (by simpa using e)]
        rfl
      · rw [List.filter_cons_of_neg (a := x) (by simpa using e), List.filter_cons_of_neg (a := x) (l := []) (by simpa using e)]
        simp
    · rw [List.cons_append]
      by_cases e : z.key = c
      · rw [List.filter_cons_of_pos (by simpa using e), List.filter_cons_of_pos (by simpa using e), ih h1.2]
      · rw [List.filter_cons_of_neg (by simpa using e), List.filter_cons_of_neg (by simpa using e), ih h1.2]
theorem sortS_snoc (l : List Fnd) (x : Fnd) : sortS (l ++ [x]) = inSq x (sortS l) := by simp [sortS, List.foldl_append]
theorem snocS_ind {α : Type} {P : List α → Prop} (h0 : P []) (h1 : ∀ l r, P l → P (l ++ [r])) : ∀ l, P l := by
  intro l
  have : ∀ m : List α, P m.reverse := by
    intro m
    induction m with
    | nil => simpa using h0
    | cons a m ih => rw [List.reverse_cons]; exact h1 _ _ ih
  simpa using this l.reverse
theorem sortS_asc (l : List Fnd) : Asc (sortS l) := by
  induction l using snocS_ind with
  | h0 => exact List.Pairwise.nil
  | h1 l x ih => rw [sortS_snoc]; exact inSq_asc ih
theorem sortS_akin (l : List Fnd) : Akin l (sortS l) := by
  induction l using snocS_ind with
  | h0 => exact Akin.refl _
  | h1 l x ih =>
    rw [sortS_snoc]
    exact (ih.app (Akin.refl [x])).trans (inSq_akin (sortS_asc l)).symm
theorem sortS_eq {l m : List Fnd} (h : Akin l m) (ha : Asc m) : m = sortS l := (h.symm.trans (sortS_akin l)).eq ha (sortS_asc l)
theorem sortS_mem (l : List Fnd) (x : Fnd) : x ∈ sortS l ↔ x ∈ l := ((sortS_akin l).mem x).symm
def scanF (bs : List Bk) : List Fnd := sortS (founds bs bs.length)
theorem scanF_is {bs : List Bk} {M : List Fnd} (ha : Asc M) (hk : Akin (founds bs bs.length) M) : M = scanF bs := sortS_eq hk ha
end Go.Proofs.YtfmnaidhfgmemaaGreatDoor

namespace Go.Proofs.YtfmnaidhfgmemaaGreatDoor
open Words Sums
def lenAt (bs : List Bk) (b : Nat) : Nat := (bs[b]?).map (fun r => r.2.2.length) |>.getD 0
def posAt (b k : Nat) : List (Nat × Nat) := (List.range k).map (fun j => (b, j))
def posN (bs : List Bk) (n : Nat) : List (Nat × Nat) := (List.range n).flatMap (fun b => posAt b (lenAt bs b))
def atQ (bs : List Bk) (q : Nat × Nat) : Option Fnd := (leafPg bs q.1 q.2).map (fun p => ⟨q.1, q.2, p⟩)
theorem posAt_succ (b k : Nat) : posAt b (k + 1) = posAt b k ++ [(b, k)] := by simp [posAt, List.range_succ]
theorem posN_succ (bs : List Bk) (n : Nat) : posN bs (n + 1) = posN bs n ++ posAt n (lenAt bs n) := by simp [posN, List.range_succ, List.flatMap_append]
theorem foundsAt_pos (bs : List Bk) (b k : Nat) : foundsAt bs b k = (posAt b k).filterMap (atQ bs) := by
  induction k with
  | zero => rfl
  | succ k ih =>
    rw [posAt_succ, List.filterMap_append, foundsAt, ih]
    congr 1
    cases h : leafPg bs (b : Int) (k : Int) with
    | none => simp [atQ, h]
    | some p => simp [atQ, h]
theorem founds_pos (bs : List Bk) (n : Nat) : founds bs n = (posN bs n).filterMap (atQ bs) := by
  induction n with
  | zero => rfl
  | succ n ih =>
    rw [posN_succ, List.filterMap_append, founds, ih, foundsAt_pos]
    rfl
theorem posAt_mem {b k : Nat} {q : Nat × Nat} : q ∈ posAt b k ↔ q.1 = b ∧ q.2 < k := by
  simp only [posAt, List.mem_map, List.mem_range]
  constructor
  · rintro ⟨j, hj, rfl⟩; exact ⟨rfl, hj⟩
  · rintro ⟨rfl, h⟩; exact ⟨q.2, h, rfl⟩
theorem posN_mem {bs : List Bk} {n : Nat} {q : Nat × Nat} : q ∈ posN bs n ↔ q.1 < n ∧ q.2 < lenAt bs q.1 := by
  simp only [posN, List.mem_flatMap, List.mem_range]
  constructor
  · rintro ⟨b, hb, hq⟩
    obtain ⟨rfl, h⟩ := posAt_mem.1 hq
    exact ⟨hb, h⟩
  · rintro ⟨h1, h2⟩; exact ⟨q.1, h1, posAt_mem.2 ⟨rfl, h2⟩⟩
theorem posAt_nodup (b k : Nat) : (posAt b k).Nodup := by
  induction k with
  | zero => exact List.nodup_nil
  | succ k ih =>
    rw [posAt_succ, List.nodup_append]
    refine ⟨ih, by simp, ?_⟩
    intro x hx y hy
    rw [List.mem_singleton] at hy
    subst hy
    have := (posAt_mem.1 hx).2
    intro e
    rw [e] at this
    simp at this
theorem posN_nodup (bs : List Bk) (n : Nat) : (posN bs n).Nodup := by
  induction n with
  | zero => exact List.nodup_nil
  | succ n ih =>
    rw [posN_succ, List.nodup_append]
    refine ⟨ih, posAt_nodup _ _, ?_⟩
    intro x hx y hy e
    have h1 := (posN_mem.1 hx).1
    have h2 := (posAt_mem.1 hy).1
    rw [e] at h1
    omega
theorem scan_mem {bs : List Bk} {x : Fnd} (h : x ∈ scanF bs) : ∃ b l : Nat, x.block = b ∧ x.leaf = l ∧ b < bs.length ∧ l < lenAt bs b ∧ leafPg bs b l = some x.page := by
  unfold scanF at h
  rw [sortS_mem, founds_pos, List.mem_filterMap] at h
  obtain ⟨q, hq, e⟩ := h
  have hm := posN_mem.1 hq
  simp only [atQ] at e
  cases hp : leafPg bs (q.1 : Int) (q.2 : Int) with
  | none => rw [hp] at e; cases e
  | some p =>
    rw [hp] at e
    simp only [Option.map_some, Option.some.injEq] at e
    subst e
    exact ⟨q.1, q.2, rfl, rfl, hm.1, hm.2, hp⟩
end Go.Proofs.YtfmnaidhfgmemaaGreatDoor

namespace Go.Proofs.YtfmnaidhfgmemaaGreatDoor.Pack
def again : Nat → Nat → List UInt8 → List UInt8
  | 0, _, out => out
  | n + 1, back, out => again n back (out ++ [out.getD (out.length - back) 0])
def TokOk (len : Nat) (t : Nat × Nat × List UInt8) : Prop := if t.1 = 0 then (1 ≤ t.2.2.length ∧ t.2.2.length ≤ 31 ∧ t.2.1 = 0) else (t.1 ≤ len ∧ 1 ≤ t.2.1 ∧ t.2.1 ≤ 31 ∧ t.2.2 = [])
abbrev decTok (len : Nat) (t : Nat × Nat × List UInt8) : Decidable (TokOk len t) := by unfold TokOk; exact inferInstance
def tell (out : List UInt8) (t : Nat × Nat × List UInt8) : List UInt8 := if t.1 = 0 then out ++ t.2.2 else again t.2.1 t.1 out
def plainFrom (out : List UInt8) : List (Nat × Nat × List UInt8) → Option (List UInt8)
  | [] => some out
  | t :: r => letI := decTok out.length t; if TokOk out.length t then (if (tell out t).length ≤ 64 then plainFrom (tell out t) r else none) else none
def plain (l : List (Nat × Nat × List UInt8)) : Option (List UInt8) := plainFrom [] l
end Go.Proofs.YtfmnaidhfgmemaaGreatDoor.Pack

namespace Go.Proofs.YtfmnaidhfgmemaaGreatDoor.Pack
end Go.Proofs.YtfmnaidhfgmemaaGreatDoor.Pack

namespace Go.Proofs.YtfmnaidhfgmemaaGreatDoor
open Words Sums Pack
def isData (c : Int) (x : Fnd) : Bool := x.page.kind == 1 && x.page.tx == c
def newP (M : List Fnd) (c : Int) : Option Fnd := (M.filter (isData c)).getLast?
theorem newP_snoc (l : List Fnd) (x : Fnd) (c : Int) : newP (l ++ [x]) c = if isData c x then some x else newP l c := by
  unfold newP
  rw [List.filter_append]
  by_cases h : isData c x = true
  · rw [List.filter_cons_of_pos h, List.filter_nil, List.getLast?_concat, if_pos h]
  · rw [List.filter_cons_of_neg h, List.filter_nil, List.append_nil, if_neg h]
theorem newP_app (l m : List Fnd) (c : Int) : newP (l ++ m) c = (newP m c).or (newP l c) := by
  unfold newP
  rw [List.filter_append, List.getLast?_append]
theorem newP_mem {l : List Fnd} {c : Int} {x : Fnd} (h : newP l c = some x) : x ∈ l ∧ isData c x = true := by
  unfold newP at h
  have := List.mem_of_getLast? h
  rw [List.mem_filter] at this
  exact this
theorem newP_none {l : List Fnd} {c : Int} : newP l c = none ↔ ∀ x ∈ l, isData c x = false := by
  unfold newP
  rw [List.getLast?_eq_none_iff, List.filter_eq_nil_iff]
  simp
theorem newP_succ {M : List Fnd} {k : Nat} {x : Fnd} (h : M[k]? = some x) (c : Int) : newP (M.take (k + 1)) c = if isData c x then some x else newP (M.take k) c := by
  rw [List.take_add_one, h]
  exact newP_snoc _ _ _
theorem newP_cons (x : Fnd) (l : List Fnd) (c : Int) : newP (x :: l) c = (newP l c).or (if isData c x then some x else none) := by
  rw [show x :: l = [x] ++ l from rfl, newP_app]
  congr 1
  exact (newP_snoc [] x c).trans (by split <;> rfl)
def needS (M : List Fnd) (live : List Int) (base : Int) (i : Nat) (x : Fnd) : Bool :=
  (x.page.kind == 2 && decide (base ≤ x.page.tx)) || (x.page.kind == 1 && live.contains x.page.tx && (newP (M.drop (i + 1)) x.page.tx).isNone)
def rowS (M : List Fnd) (live : List Int) (base : Int) : List Bool := M.mapIdx (needS M live base)
def onS (M : List Fnd) (row : List Bool) (b : Int) : Nat := ((M.zip row).filter fun p => p.2 && p.1.block == b).length
def neededP (M : List Fnd) (live : List Int) (base b : Int) : Nat := onS M (rowS M live base) b
theorem rowS_len (M : List Fnd) (live : List Int) (base : Int) : (rowS M live base).length = M.length := by simp [rowS]
theorem rowS_at {M : List Fnd} {i : Nat} {x : Fnd} (live : List Int) (base : Int) (h : M[i]? = some x) : (rowS M live base)[i]? = some (needS M live base i x) := by simp [rowS, h]
theorem rowS_nil (M : List Fnd) (base : Int) : rowS M [] base = M.map fun x => x.page.kind == 2 && decide (base ≤ x.page.tx) := by
  apply List.ext_getElem?
  intro i
  cases h : M[i]? with
  | none => simp [rowS, h]
  | some x => rw [rowS_at _ _ h, List.getElem?_map, h]; simp [needS]
theorem rowS_none {M : List Fnd} {c : Int} (L : List Int) (base : Int) (h : newP M c = none) : rowS M (L ++ [c]) base = rowS M L base := by
  apply List.ext_getElem?
  intro i
  cases hi : M[i]? with
  | none => simp [rowS, hi]
  | some x =>
    rw [rowS_at _ _ hi, rowS_at _ _ hi]
    congr 1
    have := newP_none.1 h x (List.mem_of_getElem? hi)
    unfold isData at this
    unfold needS
    congr 1
    by_cases hk : x.page.kind = 1
    · have ht : ¬ x.page.tx = c := by simpa [hk] using this
      simp [hk, ht]
    · have hk2 : (x.page.kind == 1) = false := by simpa using hk
      simp [hk2]
theorem rowS_set {M : List Fnd} {c : Int} {i : Nat} {x : Fnd} (L : List Int) (base : Int) (hi : M[i]? = some x) (hx : isData c x = true) (hn : newP (M.drop (i + 1)) c = none) : rowS M (L ++ [c]) base = (rowS M L base).set i true := by
  have hx' := hx
  unfold isData at hx'
  simp only [Bool.and_eq_true, beq_iff_eq] at hx'
  apply List.ext_getElem?
  intro j
  rw [List.getElem?_set]
  by_cases e : i = j
  · subst e
    rw [if_pos rfl, rowS_len, if_pos (List.getElem?_eq_some_iff.1 hi).1, rowS_at _ _ hi]
    congr 1
    unfold needS
    simp [hx'.1, hx'.2, hn]
  · rw [if_neg e]
    cases hj : M[j]? with
    | none => simp [rowS, hj]
    | some y =>
      rw [rowS_at _ _ hj, rowS_at _ _ hj]
      congr 1
      unfold needS
      congr 1
      by_cases hk : y.page.kind = 1
      · by_cases ht : y.page.tx = c
        · have hyd : isData c y = true := by unfold isData; simp [hk, ht]
          have hlt : j < i := by
            rcases Nat.lt_or_ge j i with q | q
            · exact q
            · exfalso
              have := newP_none.1 hn y (List.mem_of_getElem? (i := j - (i + 1)) (by rw [List.getElem?_drop, show i + 1 + (j - (i + 1)) = j by omega]; exact hj))
              rw [hyd] at this
              cases this
          have hs : (newP (M.drop (j + 1)) y.page.tx).isNone = false := by
            rw [ht]
            cases hq : newP (M.drop (j + 1)) c with
            | some _ => rfl
            | none =>
              exfalso
              have := newP_none.1 hq x (List.mem_of_getElem? (i := i - (j + 1)) (by rw [List.getElem?_drop, show j + 1 + (i - (j + 1)) = i by omega]; exact hi))
              rw [hx] at this
              cases this
          simp [hs]
        · simp [ht]
      · have hk2 : (y.page.kind == 1) = false := by simpa using hk
        simp [hk2]
def fndB (x y : Fnd) : Bool := x.block == y.block && x.leaf == y.leaf && x.page.kind == y.page.kind && x.page.seq == y.page.seq && x.page.tx == y.page.tx && x.page.part == y.page.part && x.page.count == y.page.count && decide (x.page.text.data.toList = y.page.text.data.toList)
theorem fndB_self (x : Fnd) : fndB x x = true := by simp [fndB]
def needI (M : List Fnd) (live : List Int) (base : Int) (x : Fnd) : Bool :=
  if x.page.kind = 2 then decide (base ≤ x.page.tx) else (match newP M x.page.tx with | some y => fndB y x | none => false) && live.contains x.page.tx
def Apl (M : List Fnd) : Prop := M.Pairwise fun x y => ¬ (x.block = y.block ∧ x.leaf = y.leaf)
theorem need_same {M : List Fnd} {i : Nat} {x : Fnd} (live : List Int) (base : Int) (ha : Apl M) (hk : x.page.kind = 1 ∨ x.page.kind = 2) (hi : M[i]? = some x) : needS M live base i x = needI M live base x := by
  unfold needS needI
  rcases hk with hk | hk
  · rw [if_neg (by omega)]
    simp only [hk, show ((1 : Int) == 2) = false from rfl, Bool.false_and, Bool.false_or, beq_self_eq_true, Bool.true_and]
    rw [Bool.and_comm]
    congr 1
    have hd : isData x.page.tx x = true := by unfold isData; simp [hk]
    have hsp : M = M.take (i + 1) ++ M.drop (i + 1) := (List.take_append_drop _ _).symm
    have hh := newP_app (M.take (i + 1)) (M.drop (i + 1)) x.page.tx
    rw [← hsp, newP_succ hi, if_pos hd] at hh
    cases hq : newP (M.drop (i + 1)) x.page.tx with
    | none =>
      rw [hq] at hh
      rw [hh]
      simp [fndB_self]
    | some y =>
      rw [hq] at hh
      rw [hh]
      simp only [Option.or, Option.isNone_some]
      have hm := (newP_mem hq).1
      have hne : ¬ (x.block = y.block ∧ x.leaf = y.leaf) := by
        unfold Apl at ha
        rw [hsp, List.pairwise_append] at ha
        refine ha.2.2 x ?_ y hm
        rw [List.take_add_one, hi]
        simp
      cases hb : fndB y x with
      | false => rfl
      | true =>
        unfold fndB at hb
        simp only [Bool.and_eq_true, beq_iff_eq] at hb
        exact absurd ⟨hb.1.1.1.1.1.1.1.symm, hb.1.1.1.1.1.1.2.symm⟩ hne
  · rw [if_pos hk]
    simp [hk]
theorem on_map (f : Fnd → Bool) (b : Int) : ∀ M : List Fnd, onS M (M.map f) b = (M.filter fun x => x.block == b && f x).length
  | [] => rfl
  | x :: M => by
    have ih := on_map f b M
    unfold onS at ih ⊢
    rw [List.map_cons, List.zip_cons_cons, List.filter_cons, List.filter_cons]
    simp only
    rw [Bool.and_comm]
    split <;> simp [ih]
theorem needed_same {M : List Fnd} (live : List Int) (base b : Int) (ha : Apl M) (hk : ∀ x ∈ M, x.page.kind = 1 ∨ x.page.kind = 2) : neededP M live base b = (M.filter fun x => x.block == b && needI M live base x).length := by
  unfold neededP
  have : rowS M live base = M.map (needI M live base) := by
    apply List.ext_getElem?
    intro i
    cases h : M[i]? with
    | none => simp [rowS, h]
    | some x => rw [rowS_at _ _ h, List.getElem?_map, h, need_same live base ha (hk x (List.mem_of_getElem? h)) h]; rfl
  rw [this, on_map]
theorem inSq_perm (x : Fnd) (l : List Fnd) : (inSq x l).Perm (x :: l) := by
  induction l with
  | nil => exact List.Perm.refl _
  | cons y l ih =>
    unfold inSq
    split
    · exact List.Perm.refl _
    · exact (List.Perm.cons y ih).trans (List.Perm.swap x y l)
theorem sortS_perm (l : List Fnd) : (sortS l).Perm l := by
  induction l using snocS_ind with
  | h0 => exact List.Perm.refl _
  | h1 l x ih =>
    rw [sortS_snoc]
    exact (inSq_perm x _).trans ((List.Perm.cons x ih).trans (List.perm_append_singleton x l).symm)
theorem onS_succ {M : List Fnd} {row : List Bool} {k : Nat} {x : Fnd} {r : Bool} (b : Int) (hx : M[k]? = some x) (hr : row[k]? = some r) : onS (M.take (k + 1)) (row.take (k + 1)) b = onS (M.take k) (row.take k) b + if r && x.block == b then 1 else 0 := by
  have h1 := (List.getElem?_eq_some_iff.1 hx).1
  have h2 := (List.getElem?_eq_some_iff.1 hr).1
  unfold onS
  rw [List.take_add_one, List.take_add_one, hx, hr]
  simp only [Option.toList_some]
  rw [List.zip_append (by rw [List.length_take, List.length_take]; omega), List.filter_append, List.length_append]
  congr 1
  cases r <;> cases hq : (x.block == b) <;> simp [hq]
theorem scan_count (bs : List Bk) (m : Nat) (h : ∀ b ∈ bs, b.2.2.length ≤ m) : (scanF bs).length ≤ bs.length * m := by
  have hf : ∀ n, (founds bs n).length ≤ n * m := by
    intro n
    induction n with
    | zero => simp [founds]
    | succ n ih =>
      rw [founds, List.length_append, Nat.succ_mul]
      have h1 := foundsAt_len bs n ((bs[n]?).map (fun r => r.2.2.length) |>.getD 0)
      have h2 : ((bs[n]?).map (fun r => r.2.2.length) |>.getD 0) ≤ m := by
        cases e : bs[n]? with
        | none => simp
        | some r => simpa using h r (List.mem_of_getElem? e)
      omega
  unfold scanF
  rw [(sortS_perm _).length_eq]
  exact hf bs.length
theorem scan_apart (bs : List Bk) : Apl (scanF bs) := by
  unfold Apl scanF
  rw [(sortS_perm _).pairwise_iff (fun h hh => h ⟨hh.1.symm, hh.2.symm⟩)]
  rw [founds_pos, List.pairwise_filterMap]
  refine (posN_nodup bs bs.length).imp ?_
  intro p q hne x hx y hy hh
  unfold atQ at hx hy
  cases h1 : leafPg bs p.1 p.2 with
  | none => rw [h1] at hx; cases hx
  | some a =>
    cases h2 : leafPg bs q.1 q.2 with
    | none => rw [h2] at hy; cases hy
    | some c =>
      rw [h1] at hx
      rw [h2] at hy
      simp only [Option.map_some, Option.some.injEq] at hx hy
      subst hx hy
      simp only at hh
      exact hne (Prod.ext (by omega) (by omega))
theorem scan_right {bs : List Bk} {x : Fnd} (h : x ∈ scanF bs) : x.page.Right := by
  obtain ⟨b, l, -, -, -, -, hp⟩ := scan_mem h
  unfold leafPg at hp
  split at hp
  · exact (readPg_right hp).1
  · cases hp
theorem scan_kind {bs : List Bk} {x : Fnd} (h : x ∈ scanF bs) : x.page.kind = 1 ∨ x.page.kind = 2 := by
  rcases (scan_right h).1 with q | q
  · exact .inl q.1
  · exact .inr q.1
end Go.Proofs.YtfmnaidhfgmemaaGreatDoor
