/-
  RdP; FlP; SoMath; FoP; StMath; ScM; ScM2; TMath; ZMath; ChM; RoMath
-/
import Derived.Test.YtfmnaidhfgmemaaGreatDoorPk4
import Derived.Test.YtfmnaidhfgmemaaGreatDoorPk3
import Derived.Test.YtfmnaidhfgmemaaGreatDoorPk0
namespace Go.Proofs.YtfmnaidhfgmemaaGreatDoor
open Words Sums
end Go.Proofs.YtfmnaidhfgmemaaGreatDoor

namespace Go.Proofs.YtfmnaidhfgmemaaGreatDoor
abbrev Bk := Bool × Int × List (Int × ByteArray)
def leafOk (t : Int × ByteArray) : Bool := decide (t.1 = 0 ∧ t.2.size = 0 ∨ t.1 = 1 ∧ 1 ≤ t.2.size ∧ t.2.size ≤ 120 ∨ t.1 = 2 ∧ t.2.size ≤ 120)
def leafAt (ls : List (Int × ByteArray)) (k : Nat) : Bool := match ls[k]? with
  | none => true
  | some t => leafOk t && !(decide (0 < k ∧ t.1 ≠ 0 ∧ ∃ u, ls[k - 1]? = some u ∧ u.1 = 0))
def blkOk (b : Bk) : Bool := decide (b.2.2.length = 4 ∧ 0 ≤ b.2.1 ∧ b.2.1 ≤ 1000000000) && (List.range b.2.2.length).all (leafAt b.2.2)
def flOk (bs : List Bk) : Bool := decide (3 ≤ bs.length ∧ bs.length ≤ 10) && bs.all blkOk
theorem flOk_no {bs : List Bk} {b : Bk} (hb : b ∈ bs) (h : blkOk b = false) : flOk bs = false := by
  have h1 : bs.all blkOk = false := List.all_eq_false.2 ⟨b, hb, by simp [h]⟩
  simp [flOk, h1]
theorem flOk_all {bs : List Bk} (h : ∀ b ∈ bs, blkOk b = true) : flOk bs = decide (3 ≤ bs.length ∧ bs.length ≤ 10) := by
  have h1 : bs.all blkOk = true := List.all_eq_true.2 h
  simp [flOk, h1]
theorem blkOk_len {b : Bk} (h : b.2.2.length ≠ 4) : blkOk b = false := by simp [blkOk, h]
theorem blkOk_wear {b : Bk} (h : ¬ (0 ≤ b.2.1 ∧ b.2.1 ≤ 1000000000)) : blkOk b = false := by
  have h1 : decide (b.2.2.length = 4 ∧ 0 ≤ b.2.1 ∧ b.2.1 ≤ 1000000000) = false := decide_eq_false (fun hh => h hh.2)
  simp only [blkOk, h1, Bool.false_and]
theorem blkOk_no {b : Bk} {k : Nat} (hk : k < b.2.2.length) (h : leafAt b.2.2 k = false) : blkOk b = false := by
  have h1 : (List.range b.2.2.length).all (leafAt b.2.2) = false := List.all_eq_false.2 ⟨k, List.mem_range.2 hk, by simp [h]⟩
  simp only [blkOk, h1, Bool.and_false]
theorem blkOk_yes {b : Bk} (hl : b.2.2.length = 4) (hw : 0 ≤ b.2.1 ∧ b.2.1 ≤ 1000000000) (h : ∀ k, k < b.2.2.length → leafAt b.2.2 k = true) : blkOk b = true := by
  have h1 : (List.range b.2.2.length).all (leafAt b.2.2) = true := List.all_eq_true.2 (fun k hk => h k (List.mem_range.1 hk))
  simp only [blkOk, h1, Bool.and_true]
  exact decide_eq_true ⟨hl, hw⟩
theorem leafAt_no {ls : List (Int × ByteArray)} {k : Nat} {t : Int × ByteArray} (ht : ls[k]? = some t) (h : leafOk t = false) : leafAt ls k = false := by simp [leafAt, ht, h]
theorem leafAt_zero {ls : List (Int × ByteArray)} {t : Int × ByteArray} (ht : ls[0]? = some t) (h : leafOk t = true) : leafAt ls 0 = true := by simp only [leafAt, ht, h]; simp
theorem leafAt_yes {ls : List (Int × ByteArray)} {k : Nat} {t u : Int × ByteArray} (ht : ls[k + 1]? = some t) (hu : ls[k]? = some u) (h : leafOk t = true) (hn : u.1 ≠ 0 ∨ t.1 = 0) : leafAt ls (k + 1) = true := by
  have h1 : decide (0 < k + 1 ∧ t.1 ≠ 0 ∧ ∃ u, ls[k + 1 - 1]? = some u ∧ u.1 = 0) = false := by
    refine decide_eq_false (fun hh => ?_)
    obtain ⟨-, a, q, b, c⟩ := hh
    rw [Nat.add_sub_cancel, hu] at b
    cases b
    rcases hn with hn | hn
    · exact hn c
    · exact a hn
  simp only [leafAt, ht, h, h1]
  rfl
theorem leafAt_bad {ls : List (Int × ByteArray)} {k : Nat} {t u : Int × ByteArray} (ht : ls[k + 1]? = some t) (hu : ls[k]? = some u) (h0 : u.1 = 0) (hn : t.1 ≠ 0) : leafAt ls (k + 1) = false := by
  have h1 : decide (0 < k + 1 ∧ t.1 ≠ 0 ∧ ∃ u, ls[k + 1 - 1]? = some u ∧ u.1 = 0) = true := decide_eq_true ⟨by omega, hn, u, by rw [Nat.add_sub_cancel]; exact hu, h0⟩
  simp only [leafAt, ht, h1]
  simp
def nextB (ls : List (Int × ByteArray)) : Nat := if ls.findIdx (fun t => t.1 == 0) < ls.length then ls.findIdx (fun t => t.1 == 0) else 4
theorem nextB_at {ls : List (Int × ByteArray)} {k : Nat} {t : Int × ByteArray} (ht : ls[k]? = some t) (h0 : t.1 = 0) (hb : ∀ (j : Nat) (u : Int × ByteArray), j < k → ls[j]? = some u → u.1 ≠ 0) : nextB ls = k := by
  obtain ⟨h1, h2⟩ := List.getElem?_eq_some_iff.1 ht
  have h : ls.findIdx (fun t => t.1 == 0) = k := by
    rw [List.findIdx_eq h1]
    refine ⟨by rw [h2]; simp [h0], fun j hj => ?_⟩
    have := hb j ls[j] hj (List.getElem?_eq_getElem (by omega))
    simpa using this
  simp only [nextB, h, if_pos h1]
theorem nextB_none {ls : List (Int × ByteArray)} (hb : ∀ (j : Nat) (u : Int × ByteArray), ls[j]? = some u → u.1 ≠ 0) : nextB ls = 4 := by
  have h : ls.findIdx (fun t => t.1 == 0) = ls.length := by
    rw [List.findIdx_eq_length]
    intro t ht
    obtain ⟨j, hj, rfl⟩ := List.getElem_of_mem ht
    have := hb j ls[j] (List.getElem?_eq_getElem hj)
    simpa using this
  simp only [nextB, h]
  rw [if_neg (by omega)]
def blank4 : List (Int × ByteArray) := [(0, ⟨#[]⟩), (0, ⟨#[]⟩), (0, ⟨#[]⟩), (0, ⟨#[]⟩)]
def mayP (bs : List Bk) (b leaf : Int) (t : ByteArray) : Bool := match bs[b.toNat]? with
  | none => false
  | some r => decide (0 ≤ b ∧ r.1 = false ∧ leaf < 4 ∧ leaf = nextB r.2.2 ∧ 1 ≤ t.size ∧ t.size ≤ 120)
def putLeaf (bs : List Bk) (b leaf : Nat) (t : ByteArray) : List Bk := bs.modify b (fun r => (r.1, r.2.1, r.2.2.set leaf (1, t)))
def programF (bs : List Bk) (b leaf : Int) (t : ByteArray) : List Bk × Bool := if flOk bs && mayP bs b leaf t then (putLeaf bs b.toNat leaf.toNat t, true) else (bs, false)
def mayW (bs : List Bk) (b : Int) : Bool := match bs[b.toNat]? with
  | none => false
  | some r => decide (0 ≤ b ∧ r.1 = false ∧ r.2.1 ≠ 1000000000)
def wipeF (bs : List Bk) (b : Int) : List Bk × Bool := if flOk bs && mayW bs b then (bs.modify b.toNat (fun r => (false, r.2.1 + 1, blank4)), true) else (bs, false)
end Go.Proofs.YtfmnaidhfgmemaaGreatDoor

namespace Go.Proofs.YtfmnaidhfgmemaaGreatDoor.Words
end Go.Proofs.YtfmnaidhfgmemaaGreatDoor.Words

namespace Go.Proofs.YtfmnaidhfgmemaaGreatDoor
open Words Sums
end Go.Proofs.YtfmnaidhfgmemaaGreatDoor

namespace Go.Proofs.YtfmnaidhfgmemaaGreatDoor
abbrev Stp := Int × Int × Int × ByteArray
def stV (s : Stp) : Value := .agg #[.int .i64 s.1, .int .i64 s.2.1, .int .i64 s.2.2.1, .string s.2.2.2]
def doF (bs : List Bk) (s : Stp) : List Bk × Bool := if s.1 = 1 then programF bs s.2.1 s.2.2.1 s.2.2.2 else if s.1 = 2 then wipeF bs s.2.1 else (bs, false)
end Go.Proofs.YtfmnaidhfgmemaaGreatDoor

namespace Go.Proofs.YtfmnaidhfgmemaaGreatDoor
open Words Sums
end Go.Proofs.YtfmnaidhfgmemaaGreatDoor

namespace Go.Proofs.YtfmnaidhfgmemaaGreatDoor
open Words Sums
end Go.Proofs.YtfmnaidhfgmemaaGreatDoor

namespace Go.Proofs.YtfmnaidhfgmemaaGreatDoor.Pack
def mlen : Nat → List UInt8 → List UInt8 → Nat
  | 0, _, _ => 0
  | f + 1, a :: al, b :: bs => if a = b then mlen f al bs + 1 else 0
  | _ + 1, _, _ => 0
def best (s : List UInt8) (at_ : Nat) : Nat → Nat × Nat
  | 0 => (0, 0)
  | k + 1 => if 4 ≤ mlen 31 (s.drop (at_ - (k + 1))) (s.drop at_) ∧ (best s at_ k).1 < mlen 31 (s.drop (at_ - (k + 1))) (s.drop at_) then (mlen 31 (s.drop (at_ - (k + 1))) (s.drop at_), k + 1) else best s at_ k
def again : Nat → Nat → List UInt8 → List UInt8
  | 0, _, out => out
  | n + 1, back, out => again n back (out ++ [out.getD (out.length - back) 0])
def tell (out : List UInt8) (t : Nat × Nat × List UInt8) : List UInt8 := if t.1 = 0 then out ++ t.2.2 else again t.2.1 t.1 out
end Go.Proofs.YtfmnaidhfgmemaaGreatDoor.Pack

namespace Go.Proofs.YtfmnaidhfgmemaaGreatDoor.Pack
end Go.Proofs.YtfmnaidhfgmemaaGreatDoor.Pack

namespace Go.Proofs.YtfmnaidhfgmemaaGreatDoor
open Words Sums Pack
end Go.Proofs.YtfmnaidhfgmemaaGreatDoor

namespace Go.Proofs.YtfmnaidhfgmemaaGreatDoor
def blanks (ls : List (Int × ByteArray)) : Nat := ls.countP (fun t => t.1 == 0)
theorem blanks_le (ls : List (Int × ByteArray)) : blanks ls ≤ ls.length := List.countP_le_length
theorem blanks_take {ls : List (Int × ByteArray)} {k : Nat} {t : Int × ByteArray} (ht : ls[k]? = some t) : blanks (ls.take (k + 1)) = blanks (ls.take k) + if t.1 = 0 then 1 else 0 := by
  obtain ⟨h1, h2⟩ := List.getElem?_eq_some_iff.1 ht
  rw [List.take_succ_eq_append_getElem h1, h2]
  unfold blanks
  rw [List.countP_append]
  by_cases h : t.1 = 0 <;> simp [h]
def freeB (b : Bk) : Bool := !b.1 && decide (blanks b.2.2 = b.2.2.length)
def openB (b : Bk) : Bool := !b.1 && decide (0 < blanks b.2.2 ∧ blanks b.2.2 < b.2.2.length)
def freeTo (bs : List Bk) : Nat → List Int
  | 0 => []
  | k + 1 => freeTo bs k ++ (match bs[k]? with | some b => if freeB b = true then [(k : Int)] else [] | none => [])
def freeL (bs : List Bk) : List Int := freeTo bs bs.length
theorem freeTo_yes {bs : List Bk} {k : Nat} {b : Bk} (hb : bs[k]? = some b) (h : freeB b = true) : freeTo bs (k + 1) = freeTo bs k ++ [(k : Int)] := by simp [freeTo, hb, h]
theorem freeTo_no {bs : List Bk} {k : Nat} {b : Bk} (hb : bs[k]? = some b) (h : freeB b = false) : freeTo bs (k + 1) = freeTo bs k := by simp [freeTo, hb, h]
theorem freeTo_len (bs : List Bk) (k : Nat) : (freeTo bs k).length ≤ k := by
  induction k with
  | zero => exact Nat.le_refl _
  | succ k ih =>
    simp only [freeTo, List.length_append]
    split
    · split <;> simp <;> omega
    · simp; omega
theorem freeTo_mem {bs : List Bk} {k : Nat} {x : Int} (h : x ∈ freeTo bs k) : ∃ i : Nat, x = i ∧ i < k ∧ ∃ b, bs[i]? = some b ∧ freeB b = true := by
  induction k with
  | zero => cases h
  | succ k ih =>
    simp only [freeTo, List.mem_append] at h
    rcases h with h | h
    · obtain ⟨i, e, hi, r⟩ := ih h
      exact ⟨i, e, by omega, r⟩
    · cases hb : bs[k]? with
      | none => rw [hb] at h; cases h
      | some b =>
        rw [hb] at h
        simp only at h
        by_cases hf : freeB b = true
        · rw [if_pos hf, List.mem_singleton] at h
          exact ⟨k, h, by omega, b, hb, hf⟩
        · rw [if_neg hf] at h
          cases h
theorem freeTo_has {bs : List Bk} {k i : Nat} {b : Bk} (hi : i < k) (hb : bs[i]? = some b) (hf : freeB b = true) : (i : Int) ∈ freeTo bs k := by
  induction k with
  | zero => omega
  | succ k ih =>
    simp only [freeTo, List.mem_append]
    by_cases e : i = k
    · subst e
      right
      rw [hb]
      simp [hf]
    · exact Or.inl (ih (by omega))
theorem freeTo_asc (bs : List Bk) (k : Nat) : (freeTo bs k).Pairwise (· < ·) := by
  induction k with
  | zero => exact List.Pairwise.nil
  | succ k ih =>
    simp only [freeTo]
    refine List.pairwise_append.2 ⟨ih, ?_, fun a ha c hc => ?_⟩
    · split
      · split
        · exact List.pairwise_singleton _ _
        · exact List.Pairwise.nil
      · exact List.Pairwise.nil
    · obtain ⟨i, rfl, hi, -⟩ := freeTo_mem ha
      cases hb : bs[k]? with
      | none => rw [hb] at hc; cases hc
      | some b =>
        rw [hb] at hc
        simp only at hc
        split at hc
        · rw [List.mem_singleton] at hc
          omega
        · cases hc
def openF (bs : List Bk) : Int := if bs.findIdx openB < bs.length then (bs.findIdx openB : Int) else -1
theorem openF_at {bs : List Bk} {k : Nat} {b : Bk} (hb : bs[k]? = some b) (h : openB b = true) (hn : ∀ (j : Nat) (c : Bk), j < k → bs[j]? = some c → openB c = false) : openF bs = k := by
  obtain ⟨h1, h2⟩ := List.getElem?_eq_some_iff.1 hb
  have e : bs.findIdx openB = k := by
    rw [List.findIdx_eq h1]
    refine ⟨by rw [h2]; exact h, fun j hj => ?_⟩
    exact hn j bs[j] hj (List.getElem?_eq_getElem (by omega))
  simp only [openF, e, if_pos h1]
theorem openF_none {bs : List Bk} (hn : ∀ (j : Nat) (c : Bk), bs[j]? = some c → openB c = false) : openF bs = -1 := by
  have e : bs.findIdx openB = bs.length := by
    rw [List.findIdx_eq_length]
    intro c hc
    obtain ⟨j, hj, rfl⟩ := List.getElem_of_mem hc
    exact hn j bs[j] (List.getElem?_eq_getElem hj)
  simp only [openF, e]
  rw [if_neg (by omega)]
theorem openF_cases (bs : List Bk) : (openF bs = -1 ∧ ∀ (j : Nat) (c : Bk), bs[j]? = some c → openB c = false) ∨ ∃ k b, openF bs = (k : Nat) ∧ bs[k]? = some b ∧ openB b = true ∧ ∀ (j : Nat) (c : Bk), j < k → bs[j]? = some c → openB c = false := by
  by_cases h : bs.findIdx openB < bs.length
  · right
    refine ⟨bs.findIdx openB, bs[bs.findIdx openB], by simp only [openF, if_pos h], List.getElem?_eq_getElem h, List.findIdx_getElem, fun j c hj hc => ?_⟩
    obtain ⟨h1, rfl⟩ := List.getElem?_eq_some_iff.1 hc
    have := List.not_of_lt_findIdx hj
    simpa using this
  · left
    refine ⟨by simp only [openF, if_neg h], fun j c hc => ?_⟩
    have e : bs.findIdx openB = bs.length := by have := List.findIdx_le_length (xs := bs) (p := openB); omega
    rw [List.findIdx_eq_length] at e
    exact e c (List.mem_of_getElem? hc)
def roomTo (bs : List Bk) : Nat → Nat
  | 0 => 0
  | k + 1 => roomTo bs k + (match bs[k]? with | some b => if b.1 = true then 0 else blanks b.2.2 | none => 0)
def roomF (bs : List Bk) : Nat := roomTo bs bs.length
theorem roomTo_yes {bs : List Bk} {k : Nat} {b : Bk} (hb : bs[k]? = some b) (h : b.1 = false) : roomTo bs (k + 1) = roomTo bs k + blanks b.2.2 := by simp [roomTo, hb, h]
end Go.Proofs.YtfmnaidhfgmemaaGreatDoor
