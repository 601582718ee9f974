/-
  TxMath2; TrMath3; TrMath4; SwMath; StoM; StoM2; StoM3; StoM4; StoM5; StoM6; StoM7; DvM; BkP; FRP; DvM2; DvM3; DvM4; WrM; CePg; SRecOk
-/
import Derived.Test.YtfmnaidhfgmemaaGreatDoorPk8
import Derived.Test.YtfmnaidhfgmemaaGreatDoorPk2
import Derived.Test.YtfmnaidhfgmemaaGreatDoorPk7
import Derived.Test.YtfmnaidhfgmemaaGreatDoorPk0
import Derived.Test.YtfmnaidhfgmemaaGreatDoorPk3
namespace Go.Proofs.YtfmnaidhfgmemaaGreatDoor.Words
end Go.Proofs.YtfmnaidhfgmemaaGreatDoor.Words

namespace Go.Proofs.YtfmnaidhfgmemaaGreatDoor
namespace Words
section
variable {l : List Kn} {r : Int} {s : Nat} {n : Int}
end
end Words
end Go.Proofs.YtfmnaidhfgmemaaGreatDoor

namespace Go.Proofs.YtfmnaidhfgmemaaGreatDoor
namespace Words
def pt (l : List Kn) (r : Int) (s : Nat) (n : Int) : List Kn := l ++ [putLf l r s n, putTop l r s]
end Words
end Go.Proofs.YtfmnaidhfgmemaaGreatDoor

namespace Go.Proofs.YtfmnaidhfgmemaaGreatDoor
namespace Words
section
variable {l : List Kn} {rs : List Int}
end
end Words
end Go.Proofs.YtfmnaidhfgmemaaGreatDoor

namespace Go.Proofs.YtfmnaidhfgmemaaGreatDoor
namespace Words
structure Sto where
  vols : List (Int × Int)
  kns : List Kn
  next : Int
def baseK (id : Int) (L : List Int) (k : Nat) : List Rc := (List.range k).filterMap (fun (j : Nat) => if 0 < (L[j]?).getD 0 then some ⟨4, id, (j : Int), (L[j]?).getD 0⟩ else none)
def baseV (l : List Kn) (v : Int × Int) : List Rc := ⟨2, v.1, 0, 0⟩ :: baseK v.1 (allT l v.2) 16
def baseS (s : Sto) : List Rc := ⟨1, 0, s.next, 0⟩ :: s.vols.flatMap (baseV s.kns)
def tellS (s : Sto) : List (Int × List Int) := s.vols.map (fun v => (v.1, allT s.kns v.2))
end Words
end Go.Proofs.YtfmnaidhfgmemaaGreatDoor

namespace Go.Proofs.YtfmnaidhfgmemaaGreatDoor
namespace Words
end Words
end Go.Proofs.YtfmnaidhfgmemaaGreatDoor

namespace Go.Proofs.YtfmnaidhfgmemaaGreatDoor
namespace Words
theorem tell_at {s : Sto} {k : Nat} {v : Int × Int} (h : s.vols[k]? = some v) : (tellS s)[k]? = some (v.1, allT s.kns v.2) := by
  rw [tellS, List.getElem?_map, h]
  rfl
theorem baseK_succ (id : Int) (L : List Int) (k : Nat) : baseK id L (k + 1) = baseK id L k ++ (if 0 < (L[k]?).getD 0 then [⟨4, id, (k : Int), (L[k]?).getD 0⟩] else []) := by
  rw [baseK, baseK, List.range_succ, List.filterMap_append]
  congr 1
  simp only [List.filterMap_cons, List.filterMap_nil]
  split
  · rename_i h; split at h
    · cases h
    · rename_i h2; rw [if_neg h2]
  · rename_i x h; split at h
    · rename_i h2; injection h with h; rw [if_pos h2, h]
    · cases h
end Words
end Go.Proofs.YtfmnaidhfgmemaaGreatDoor

namespace Go.Proofs.YtfmnaidhfgmemaaGreatDoor
namespace Words
end Words
end Go.Proofs.YtfmnaidhfgmemaaGreatDoor

namespace Go.Proofs.YtfmnaidhfgmemaaGreatDoor
namespace Words
end Words
end Go.Proofs.YtfmnaidhfgmemaaGreatDoor

namespace Go.Proofs.YtfmnaidhfgmemaaGreatDoor
namespace Words
end Words
end Go.Proofs.YtfmnaidhfgmemaaGreatDoor

namespace Go.Proofs.YtfmnaidhfgmemaaGreatDoor
namespace Words
end Words
end Go.Proofs.YtfmnaidhfgmemaaGreatDoor

namespace Go.Proofs.YtfmnaidhfgmemaaGreatDoor
open Words Sums Pack
structure Dv where
  flash : List Bk
  store : Sto
  seq : Int
  tx : Int
  base : Int
def pgT (p : Pg) : ByteArray × Bool := letI := p.decR; if p.Right then (sealA (pageA p), true) else (⟨#[]⟩, false)
def putP (bs : List Bk) (l : List Stp) (p : Pg) : List Bk × List Stp × Bool :=
  if (pgT p).2 && (placeF bs).2.2 then ((doF bs (1, (placeF bs).1, (placeF bs).2.1, (pgT p).1)).1, l ++ [(1, (placeF bs).1, (placeF bs).2.1, (pgT p).1)], (doF bs (1, (placeF bs).1, (placeF bs).2.1, (pgT p).1)).2) else (bs, l, false)
def putsP : List Bk × List Stp × Bool → List Pg → List Bk × List Stp × Bool
  | s, [] => s
  | s, p :: ps => if s.2.2 then putsP (putP s.1 s.2.1 p) ps else s
def lastCk (l : List Rc) : Int := (l.getLast?.map Rc.chunk).getD 0
def dataPg (seq c : Int) (t : ByteArray) : Pg := ⟨1, seq, c, 0, 1, t⟩
def write0 (d : Dv) (l : List Rc) (t : ByteArray) : List Bk × List Stp × Bool := if t.size = 0 then (d.flash, [], true) else putP d.flash [] (dataPg d.seq (lastCk l) t)
def writeQ (d : Dv) (t : ByteArray) : Int := if t.size = 0 then d.seq else d.seq + 1
def writeP (d : Dv) (l : List Rc) (t : ByteArray) : List Stp × Bool :=
  if l.length = 0 then ([], true)
  else if (putsP (write0 d l t) (txOut (writeQ d t) d.tx l)).2.2 && @decide (TxOk (writeQ d t) d.tx l) (decTx (writeQ d t) d.tx l) then ((putsP (write0 d l t) (txOut (writeQ d t) d.tx l)).2.1, true) else ([], false)
theorem ok_len4 {bs : List Bk} (h : flOk bs = true) : ∀ b ∈ bs, b.2.2.length = 4 := by
  intro b hb
  have h1 := h
  unfold flOk at h1
  rw [Bool.and_eq_true, List.all_eq_true] at h1
  have h2 := h1.2 b hb
  unfold blkOk at h2
  rw [Bool.and_eq_true, dcT] at h2
  exact h2.1.1
end Go.Proofs.YtfmnaidhfgmemaaGreatDoor

namespace Go.Proofs.YtfmnaidhfgmemaaGreatDoor
theorem nextB_le {ls : List (Int × ByteArray)} {k : Nat} {u : Int × ByteArray} (hu : ls[k]? = some u) (h0 : u.1 = 0) : nextB ls ≤ k := by
  obtain ⟨h1, h2⟩ := List.getElem?_eq_some_iff.1 hu
  have h : ls.findIdx (fun t => t.1 == 0) ≤ k := Nat.le_of_not_lt (fun hlt => by
    have h3 := List.not_of_lt_findIdx hlt
    rw [h2] at h3
    simp [h0] at h3)
  simp only [nextB]
  rw [if_pos (by omega)]
  exact h
theorem nextB_blank {ls : List (Int × ByteArray)} (h4 : ls.length ≤ 4) {k : Nat} (hk : k < ls.length) (hn : nextB ls < k) : ∃ u, ls[nextB ls]? = some u ∧ u.1 = 0 := by
  have h : ls.findIdx (fun t => t.1 == 0) < ls.length := Nat.lt_of_not_le (fun hh => by
    simp only [nextB] at hn
    rw [if_neg (by omega)] at hn
    omega)
  have e : nextB ls = ls.findIdx (fun t => t.1 == 0) := by simp only [nextB]; rw [if_pos h]
  have h3 := List.findIdx_getElem (w := h)
  refine ⟨ls[ls.findIdx (fun t => t.1 == 0)], by rw [e]; exact List.getElem?_eq_getElem h, by simpa using h3⟩
theorem blank_on {ls : List (Int × ByteArray)} (h : ∀ k, k < ls.length → leafAt ls k = true) {n : Nat} {u : Int × ByteArray} (hu : ls[n]? = some u) (h0 : u.1 = 0) (d : Nat) : ∀ t, ls[n + d]? = some t → t.1 = 0 := by
  induction d with
  | zero =>
    intro t ht
    rw [Nat.add_zero, hu] at ht
    cases ht
    exact h0
  | succ d ih =>
    intro t ht
    have hl := (List.getElem?_eq_some_iff.1 ht).1
    have hp : ls[n + d]? = some ls[n + d] := List.getElem?_eq_getElem (by omega)
    have hz := ih _ hp
    cases Decidable.em (t.1 = 0) with
    | inl e => exact e
    | inr e =>
      have := leafAt_bad (k := n + d) ht hp hz e
      rw [show n + d + 1 = n + (d + 1) from rfl, h _ hl] at this
      cases this
theorem blkOk_behind {b : Bk} {k : Nat} {t : Int × ByteArray} (h4 : b.2.2.length = 4) (ht : b.2.2[k]? = some t) (hn : nextB b.2.2 < k) (hz : t.1 ≠ 0) : blkOk b = false := by
  cases hb : blkOk b with
  | false => rfl
  | true =>
    have hk := (List.getElem?_eq_some_iff.1 ht).1
    simp only [blkOk, Bool.and_eq_true] at hb
    have hall : ∀ k, k < b.2.2.length → leafAt b.2.2 k = true := fun k hk => List.all_eq_true.1 hb.2 k (List.mem_range.2 hk)
    obtain ⟨u, hu, h0⟩ := nextB_blank (by omega) hk hn
    exact absurd (blank_on hall hu h0 (k - nextB b.2.2) t (by rw [show nextB b.2.2 + (k - nextB b.2.2) = k by omega]; exact ht)) hz
theorem blkOk_each {b : Bk} (h4 : b.2.2.length = 4) (hw : 0 ≤ b.2.1 ∧ b.2.1 ≤ 1000000000) (h : ∀ k t, b.2.2[k]? = some t → leafOk t = true ∧ (nextB b.2.2 < k → t.1 = 0)) : blkOk b = true := by
  refine blkOk_yes h4 hw (fun k hk => ?_)
  have ht : b.2.2[k]? = some b.2.2[k] := List.getElem?_eq_getElem hk
  generalize b.2.2[k] = t at ht
  cases k with
  | zero => exact leafAt_zero ht (h 0 t ht).1
  | succ k =>
    have hu : b.2.2[k]? = some b.2.2[k] := List.getElem?_eq_getElem (by omega)
    generalize b.2.2[k] = u at hu
    refine leafAt_yes ht hu (h _ t ht).1 ?_
    cases Decidable.em (u.1 = 0) with
    | inr e => exact Or.inl e
    | inl e => exact Or.inr ((h _ t ht).2 (by have := nextB_le hu e; omega))
end Go.Proofs.YtfmnaidhfgmemaaGreatDoor

namespace Go.Proofs.YtfmnaidhfgmemaaGreatDoor
def Right (n : Int) (bs : List Bk) : Prop := flOk bs = true ∧ ∀ r ∈ bs, r.2.1 ≤ n
end Go.Proofs.YtfmnaidhfgmemaaGreatDoor

namespace Go.Proofs.YtfmnaidhfgmemaaGreatDoor
open Words Sums Pack
end Go.Proofs.YtfmnaidhfgmemaaGreatDoor

namespace Go.Proofs.YtfmnaidhfgmemaaGreatDoor
open Words Sums Pack
end Go.Proofs.YtfmnaidhfgmemaaGreatDoor

namespace Go.Proofs.YtfmnaidhfgmemaaGreatDoor
open Words Sums Pack
theorem puts_false : ∀ (ps : List Pg) (s : List Bk × List Stp × Bool), s.2.2 = false → (putsP s ps).2.2 = false
  | [], s, h => h
  | p :: ps, s, h => by rw [putsP, h]; exact h
end Go.Proofs.YtfmnaidhfgmemaaGreatDoor

namespace Go.Proofs.YtfmnaidhfgmemaaGreatDoor
open Words Sums Pack
theorem varL_five (n : Nat) (h : n ≤ 1000000000) : (varL n).length ≤ 5 := by
  by_cases h1 : n < 128
  · rw [varL_low n h1]; simp
  rw [varL_high n (by omega), List.length_cons]
  by_cases h2 : n / 128 < 128
  · rw [varL_low _ h2]; simp
  rw [varL_high _ (by omega), List.length_cons]
  by_cases h3 : n / 128 / 128 < 128
  · rw [varL_low _ h3]; simp
  rw [varL_high _ (by omega), List.length_cons]
  by_cases h4 : n / 128 / 128 / 128 < 128
  · rw [varL_low _ h4]; simp
  rw [varL_high _ (by omega), List.length_cons, varL_low _ (by omega)]
  simp
theorem seal_fits {p : Pg} (h : p.Right) : 1 ≤ (sealA (pageA p)).size ∧ (sealA (pageA p)).size ≤ 116 := by
  obtain ⟨h1, h2, h3, h4, h5, h6⟩ := h
  have a := varL_five p.seq.toNat (by omega)
  have b := varL_five p.tx.toNat (by omega)
  have c := varL_five p.part.toNat (by omega)
  have d := varL_five p.count.toNat (by omega)
  have e : (pageA p).size = (pageA p).data.toList.length := rfl
  have f : p.text.size = p.text.data.toList.length := rfl
  have g : (pageA p).size ≤ 112 := by
    rw [e, pageA_list]
    simp only [List.length_cons, List.length_append]
    by_cases q : p.part.toNat < 128 ∧ p.count.toNat < 128
    · rw [varL_low _ q.1, varL_low _ q.2]
      simp only [List.length_cons, List.length_nil]
      omega
    · omega
  rw [sealA_size]
  omega
theorem do_placed {bs : List Bk} {t : ByteArray} (hp : (placeF bs).2.2 = true) (h1 : 1 ≤ t.size) (h2 : t.size ≤ 120) : (doF bs (1, (placeF bs).1, (placeF bs).2.1, t)).2 = true := by
  cases hok : flOk bs with
  | false => rw [place_no hok] at hp; cases hp
  | true =>
    rcases place_math hok (ok_len4 hok) with ⟨e, -⟩ | ⟨k, b, hb, b1, b2, -, e, -, -⟩
    · rw [e] at hp; cases hp
    · rw [e]
      unfold doF programF mayP
      simp only [if_true, Int.toNat_natCast]
      rw [hb, hok]
      rw [if_pos (by rw [Bool.true_and]; exact decide_eq_true ⟨by omega, b1, by omega, rfl, h1, h2⟩)]
theorem pgT_yes {p : Pg} (h : p.Right) : pgT p = (sealA (pageA p), true) := by unfold pgT; rw [if_pos h]
theorem pgT_no {p : Pg} (h : ¬ p.Right) : pgT p = (⟨#[]⟩, false) := by unfold pgT; rw [if_neg h]
theorem put_yes {bs : List Bk} {p : Pg} (l : List Stp) (h : p.Right) (hp : (placeF bs).2.2 = true) :
    putP bs l p = ((doF bs (1, (placeF bs).1, (placeF bs).2.1, sealA (pageA p))).1, l ++ [(1, (placeF bs).1, (placeF bs).2.1, sealA (pageA p))], true) := by
  have h1 := seal_fits h
  have h2 := do_placed hp h1.1 (show (sealA (pageA p)).size ≤ 120 by omega)
  unfold putP
  rw [pgT_yes h, hp]
  simp only [Bool.and_self, if_true]
  rw [h2]
theorem put_none {bs : List Bk} {l : List Stp} {p : Pg} (hp : (placeF bs).2.2 = false) : putP bs l p = (bs, l, false) := by
  unfold putP
  rw [hp, Bool.and_false, if_neg (by decide)]
theorem put_wrong {bs : List Bk} {l : List Stp} {p : Pg} (h : ¬ p.Right) : (putP bs l p).2.2 = false := by
  unfold putP
  rw [pgT_no h, Bool.false_and, if_neg (by decide)]
theorem puts_wrong : ∀ (Q : List Pg) (s : List Bk × List Stp × Bool), (∃ p ∈ Q, ¬ p.Right) → (putsP s Q).2.2 = false
  | [], s, h => by obtain ⟨p, hp, -⟩ := h; cases hp
  | p :: Q, s, h => by
    rw [putsP]
    split
    · by_cases hq : p.Right
      · refine puts_wrong Q _ ?_
        obtain ⟨x, hx, hn⟩ := h
        rcases List.mem_cons.1 hx with e | e
        · subst e; exact absurd hq hn
        · exact ⟨x, e, hn⟩
      · exact puts_false Q _ (put_wrong hq)
    · rename_i hs
      simpa using hs
def pagesQ (d : Dv) (l : List Rc) (t : ByteArray) : List Pg := if t.size = 0 then txOut d.seq d.tx l else dataPg d.seq (lastCk l) t :: txOut (d.seq + 1) d.tx l
theorem write_pages (d : Dv) (l : List Rc) (t : ByteArray) : putsP (write0 d l t) (txOut (writeQ d t) d.tx l) = putsP (d.flash, [], true) (pagesQ d l t) := by
  unfold write0 writeQ pagesQ
  split
  · rfl
  · rw [putsP, if_pos rfl]
theorem write_is {d : Dv} {l : List Rc} {t : ByteArray} (hl : l.length ≠ 0) : writeP d l t = if (putsP (d.flash, [], true) (pagesQ d l t)).2.2 && @decide (TxOk (writeQ d t) d.tx l) (decTx (writeQ d t) d.tx l) then ((putsP (d.flash, [], true) (pagesQ d l t)).2.1, true) else ([], false) := by
  unfold writeP
  rw [if_neg hl, write_pages]
end Go.Proofs.YtfmnaidhfgmemaaGreatDoor

namespace Go.Proofs.YtfmnaidhfgmemaaGreatDoor
open Go.RowKit
def pgcell (t : Int × Int × Int × Int × Int × ByteArray) : List Value := [.int .i64 t.1, .int .i64 t.2.1, .int .i64 t.2.2.1, .int .i64 t.2.2.2.1, .int .i64 t.2.2.2.2.1, .string t.2.2.2.2.2]
def pgcells (l : List (Int × Int × Int × Int × Int × ByteArray)) : List Value := l.flatMap pgcell
theorem pgcells_len (l : List (Int × Int × Int × Int × Int × ByteArray)) : (pgcells l).length = l.length * 6 := by
  induction l with
  | nil => rfl
  | cons t l ih => simp [pgcells, pgcell] at ih ⊢; omega
theorem pgcells_app (a b : List (Int × Int × Int × Int × Int × ByteArray)) : pgcells (a ++ b) = pgcells a ++ pgcells b := by simp [pgcells]
theorem pgcells_cons (t : Int × Int × Int × Int × Int × ByteArray) (l : List (Int × Int × Int × Int × Int × ByteArray)) : pgcells (t :: l) = pgcell t ++ pgcells l := by simp [pgcells]
theorem pgcells_at (l : List (Int × Int × Int × Int × Int × ByteArray)) (k : Nat) (t : Int × Int × Int × Int × Int × ByteArray) (h : l[k]? = some t) (j : Nat) (v : Value) (hj : (pgcell t)[j]? = some v) : (pgcells l)[k * 6 + j]? = some v := by
  have hlt : j < 6 := (List.getElem?_eq_some_iff.1 hj).1
  induction l generalizing k with
  | nil => simp at h
  | cons a l ih =>
    rw [pgcells_cons]
    cases k with
    | zero =>
      simp at h
      subst h
      rw [List.getElem?_append_left (by show _ < 6; omega), Nat.zero_mul, Nat.zero_add]
      exact hj
    | succ k =>
      rw [List.getElem?_append_right (by show 6 ≤ _; omega), show (k + 1) * 6 + j - (pgcell a).length = k * 6 + j by show _ - 6 = _; omega]
      exact ih k (by simpa using h)
theorem pgcells_one (l : List (Int × Int × Int × Int × Int × ByteArray)) : ∀ v ∈ pgcells l, v.oneCell' = true := by
  intro v hv
  obtain ⟨t, -, ht⟩ := List.mem_flatMap.1 hv
  simp [pgcell] at ht
  rcases ht with h | h | h | h | h | h <;> subst h <;> rfl
theorem infoPg : (Tryz.prog.info? 92).map (fun i => (i.zero, i.size, i.bytes)) = some (some (.agg #[.int .i64 0, .int .i64 0, .int .i64 0, .int .i64 0, .int .i64 0, .string ⟨#[]⟩]), 6, 56) := by kernel_rfl
end Go.Proofs.YtfmnaidhfgmemaaGreatDoor

namespace Go.Proofs.YtfmnaidhfgmemaaGreatDoor
open Go.RowKit
open Words
def rcVal (r : Rc) : Value := .agg #[.int .i64 r.kind, .int .i64 r.vol, .int .i64 r.arg, .int .i64 r.chunk]
theorem rc_spec (k v a c : Int) : (Rc.mk k v a c).Right ↔ (0 ≤ a ∧ a ≤ 1000000000) ∧ (k = 1 ∧ v = 0 ∧ c = 0 ∨ (1 ≤ v ∧ v ≤ 9) ∧ (k = 2 ∧ a ≤ 9 ∧ c = 0 ∨ k = 3 ∧ a = 0 ∧ c = 0 ∨ k = 4 ∧ a < 16 ∧ 1 ≤ c ∧ c ≤ 1000000000 ∨ k = 5 ∧ a < 16 ∧ c = 0)) := Iff.rfl
set_option maxHeartbeats 1000000 in
set_option maxRecDepth 100000 in
theorem srecOk (r : Rc) (w : World) :
    Calls Tryz.prog 101 #[rcVal r] w fun e w' => e = .returned (.bool (@decide r.Right r.decR)) ∧ Below w.heap.size w w' := by
  obtain ⟨k, v, a, c⟩ := r
  have HE := hide (rc_spec k v a c)
  have HB := hide ((Below.refl w.heap.size w).alloc (Nat.le_refl _) (.cells #[.int .i64 k, .int .i64 v, .int .i64 a, .int .i64 c] 90))
  unfold rcVal
  simp only
  by_cases a1 : 0 ≤ a ∧ a ≤ 1000000000
  · by_cases a2 : k = 1
    · subst a2
      by_cases a3 : (v == 0) = true
      · go_enter Tryz.func101, Tryz.ntmps101
        go_wp2_with fail
        refine (sin_b a 0 1000000000 true _ (.inl ⟨by omega, by omega, rfl⟩)).mono ?_
        rintro e w1 ⟨rfl, rfl⟩
        go_wp2
        go_ret
        refine ⟨?_, HB.out⟩
        have e : @decide (Rc.mk 1 v a c).Right (Rc.mk 1 v a c).decR = (c == 0) := by
          cases hq : (c == 0) with
          | true => exact dcY (HE.out.2 (by first | omega | (simp_all; done) | (simp_all; omega)))
          | false => exact dcN (fun h => by have := HE.out.1 h; first | omega | (simp_all; done) | (simp_all; omega))
        rw [e]
        rfl
      · have a3 : (v == 0) = false := by simpa using a3
        go_enter Tryz.func101, Tryz.ntmps101
        go_wp2_with fail
        refine (sin_b a 0 1000000000 true _ (.inl ⟨by omega, by omega, rfl⟩)).mono ?_
        rintro e w1 ⟨rfl, rfl⟩
        go_wp2
        go_ret
        exact ⟨by rw [dcN (fun h => by have := HE.out.1 h; first | omega | (simp at this; omega) | (simp_all; done) | (simp_all; omega))]; rfl, HB.out⟩
    · have a2 : (k == 1) = false := by simpa using a2
      by_cases a3 : 2 ≤ k ∧ k ≤ 5
      · by_cases a4 : 1 ≤ v ∧ v ≤ 9
        · obtain a5 | a5 | a5 | a5 : k = 2 ∨ k = 3 ∨ k = 4 ∨ k = 5 := by omega
          · subst a5
            by_cases a6 : (c == 0) = true
            · go_enter Tryz.func101, Tryz.ntmps101
              go_wp2_with fail
              refine (sin_b a 0 1000000000 true _ (.inl ⟨by omega, by omega, rfl⟩)).mono ?_
              rintro e w1 ⟨rfl, rfl⟩
              go_wp2_with fail
              refine (sin_b 2 2 5 true _ (.inl ⟨by omega, by omega, rfl⟩)).mono ?_
              rintro e w1 ⟨rfl, rfl⟩
              go_wp2_with fail
              refine (sin_b v 1 9 true _ (.inl ⟨by omega, by omega, rfl⟩)).mono ?_
              rintro e w1 ⟨rfl, rfl⟩
              go_wp2
              go_ret
              refine ⟨?_, HB.out⟩
              have e : @decide (Rc.mk 2 v a c).Right (Rc.mk 2 v a c).decR = decide (a ≤ 9) := by
                cases hq : decide (a ≤ 9) with
                | true => exact dcY (HE.out.2 (by first | omega | (simp_all; done) | (simp_all; omega)))
                | false => exact dcN (fun h => by have := HE.out.1 h; first | omega | (simp_all; done) | (simp_all; omega))
              rw [e]
              rfl
            · have a6 : (c == 0) = false := by simpa using a6
              go_enter Tryz.func101, Tryz.ntmps101
              go_wp2_with fail
              refine (sin_b a 0 1000000000 true _ (.inl ⟨by omega, by omega, rfl⟩)).mono ?_
              rintro e w1 ⟨rfl, rfl⟩
              go_wp2_with fail
              refine (sin_b 2 2 5 true _ (.inl ⟨by omega, by omega, rfl⟩)).mono ?_
              rintro e w1 ⟨rfl, rfl⟩
              go_wp2_with fail
              refine (sin_b v 1 9 true _ (.inl ⟨by omega, by omega, rfl⟩)).mono ?_
              rintro e w1 ⟨rfl, rfl⟩
              go_wp2
              go_ret
              exact ⟨by rw [dcN (fun h => by have := HE.out.1 h; first | omega | (simp at this; omega) | (simp_all; done) | (simp_all; omega))]; rfl, HB.out⟩
          · subst a5
            by_cases a6 : (c == 0) = true
            · go_enter Tryz.func101, Tryz.ntmps101
              go_wp2_with fail
              refine (sin_b a 0 1000000000 true _ (.inl ⟨by omega, by omega, rfl⟩)).mono ?_
              rintro e w1 ⟨rfl, rfl⟩
              go_wp2_with fail
              refine (sin_b 3 2 5 true _ (.inl ⟨by omega, by omega, rfl⟩)).mono ?_
              rintro e w1 ⟨rfl, rfl⟩
              go_wp2_with fail
              refine (sin_b v 1 9 true _ (.inl ⟨by omega, by omega, rfl⟩)).mono ?_
              rintro e w1 ⟨rfl, rfl⟩
              go_wp2
              go_ret
              refine ⟨?_, HB.out⟩
              have e : @decide (Rc.mk 3 v a c).Right (Rc.mk 3 v a c).decR = (a == 0) := by
                cases hq : (a == 0) with
                | true => exact dcY (HE.out.2 (by first | omega | (simp_all; done) | (simp_all; omega)))
                | false => exact dcN (fun h => by have := HE.out.1 h; first | omega | (simp_all; done) | (simp_all; omega))
              rw [e]
              rfl
            · have a6 : (c == 0) = false := by simpa using a6
              go_enter Tryz.func101, Tryz.ntmps101
              go_wp2_with fail
              refine (sin_b a 0 1000000000 true _ (.inl ⟨by omega, by omega, rfl⟩)).mono ?_
              rintro e w1 ⟨rfl, rfl⟩
              go_wp2_with fail
              refine (sin_b 3 2 5 true _ (.inl ⟨by omega, by omega, rfl⟩)).mono ?_
              rintro e w1 ⟨rfl, rfl⟩
              go_wp2_with fail
              refine (sin_b v 1 9 true _ (.inl ⟨by omega, by omega, rfl⟩)).mono ?_
              rintro e w1 ⟨rfl, rfl⟩
              go_wp2
              go_ret
              exact ⟨by rw [dcN (fun h => by have := HE.out.1 h; first | omega | (simp at this; omega) | (simp_all; done) | (simp_all; omega))]; rfl, HB.out⟩
          · subst a5
            by_cases a6 : a < 16
            · by_cases a7 : 1 ≤ c ∧ c ≤ 1000000000
              · go_enter Tryz.func101, Tryz.ntmps101
                go_wp2_with fail
                refine (sin_b a 0 1000000000 true _ (.inl ⟨by omega, by omega, rfl⟩)).mono ?_
                rintro e w1 ⟨rfl, rfl⟩
                go_wp2_with fail
                refine (sin_b 4 2 5 true _ (.inl ⟨by omega, by omega, rfl⟩)).mono ?_
                rintro e w1 ⟨rfl, rfl⟩
                go_wp2_with fail
                refine (sin_b v 1 9 true _ (.inl ⟨by omega, by omega, rfl⟩)).mono ?_
                rintro e w1 ⟨rfl, rfl⟩
                go_wp2_with fail
                refine (sin_b c 1 1000000000 true _ (.inl ⟨by omega, by omega, rfl⟩)).mono ?_
                rintro e w1 ⟨rfl, rfl⟩
                go_wp2
                go_ret
                exact ⟨by rw [dcY (HE.out.2 (by first | omega | (simp; omega)))]; rfl, HB.out⟩
              · go_enter Tryz.func101, Tryz.ntmps101
                go_wp2_with fail
                refine (sin_b a 0 1000000000 true _ (.inl ⟨by omega, by omega, rfl⟩)).mono ?_
                rintro e w1 ⟨rfl, rfl⟩
                go_wp2_with fail
                refine (sin_b 4 2 5 true _ (.inl ⟨by omega, by omega, rfl⟩)).mono ?_
                rintro e w1 ⟨rfl, rfl⟩
                go_wp2_with fail
                refine (sin_b v 1 9 true _ (.inl ⟨by omega, by omega, rfl⟩)).mono ?_
                rintro e w1 ⟨rfl, rfl⟩
                go_wp2_with fail
                refine (sin_b c 1 1000000000 false _ (.inr ⟨by omega, rfl⟩)).mono ?_
                rintro e w1 ⟨rfl, rfl⟩
                go_wp2
                go_ret
                exact ⟨by rw [dcN (fun h => by have := HE.out.1 h; first | omega | (simp at this; omega) | (simp_all; done) | (simp_all; omega))]; rfl, HB.out⟩
            · go_enter Tryz.func101, Tryz.ntmps101
              go_wp2_with fail
              refine (sin_b a 0 1000000000 true _ (.inl ⟨by omega, by omega, rfl⟩)).mono ?_
              rintro e w1 ⟨rfl, rfl⟩
              go_wp2_with fail
              refine (sin_b 4 2 5 true _ (.inl ⟨by omega, by omega, rfl⟩)).mono ?_
              rintro e w1 ⟨rfl, rfl⟩
              go_wp2_with fail
              refine (sin_b v 1 9 true _ (.inl ⟨by omega, by omega, rfl⟩)).mono ?_
              rintro e w1 ⟨rfl, rfl⟩
              go_wp2
              go_ret
              exact ⟨by rw [dcN (fun h => by have := HE.out.1 h; first | omega | (simp at this; omega) | (simp_all; done) | (simp_all; omega))]; rfl, HB.out⟩
          · subst a5
            by_cases a6 : (c == 0) = true
            · go_enter Tryz.func101, Tryz.ntmps101
              go_wp2_with fail
              refine (sin_b a 0 1000000000 true _ (.inl ⟨by omega, by omega, rfl⟩)).mono ?_
              rintro e w1 ⟨rfl, rfl⟩
              go_wp2_with fail
              refine (sin_b 5 2 5 true _ (.inl ⟨by omega, by omega, rfl⟩)).mono ?_
              rintro e w1 ⟨rfl, rfl⟩
              go_wp2_with fail
              refine (sin_b v 1 9 true _ (.inl ⟨by omega, by omega, rfl⟩)).mono ?_
              rintro e w1 ⟨rfl, rfl⟩
              go_wp2
              go_ret
              refine ⟨?_, HB.out⟩
              have e : @decide (Rc.mk 5 v a c).Right (Rc.mk 5 v a c).decR = decide (a < 16) := by
                cases hq : decide (a < 16) with
                | true => exact dcY (HE.out.2 (by first | omega | (simp_all; done) | (simp_all; omega)))
                | false => exact dcN (fun h => by have := HE.out.1 h; first | omega | (simp_all; done) | (simp_all; omega))
              rw [e]
              rfl
            · have a6 : (c == 0) = false := by simpa using a6
              go_enter Tryz.func101, Tryz.ntmps101
              go_wp2_with fail
              refine (sin_b a 0 1000000000 true _ (.inl ⟨by omega, by omega, rfl⟩)).mono ?_
              rintro e w1 ⟨rfl, rfl⟩
              go_wp2_with fail
              refine (sin_b 5 2 5 true _ (.inl ⟨by omega, by omega, rfl⟩)).mono ?_
              rintro e w1 ⟨rfl, rfl⟩
              go_wp2_with fail
              refine (sin_b v 1 9 true _ (.inl ⟨by omega, by omega, rfl⟩)).mono ?_
              rintro e w1 ⟨rfl, rfl⟩
              go_wp2
              go_ret
              exact ⟨by rw [dcN (fun h => by have := HE.out.1 h; first | omega | (simp at this; omega) | (simp_all; done) | (simp_all; omega))]; rfl, HB.out⟩
        · go_enter Tryz.func101, Tryz.ntmps101
          go_wp2_with fail
          refine (sin_b a 0 1000000000 true _ (.inl ⟨by omega, by omega, rfl⟩)).mono ?_
          rintro e w1 ⟨rfl, rfl⟩
          go_wp2_with fail
          refine (sin_b k 2 5 true _ (.inl ⟨by omega, by omega, rfl⟩)).mono ?_
          rintro e w1 ⟨rfl, rfl⟩
          go_wp2_with fail
          refine (sin_b v 1 9 false _ (.inr ⟨by omega, rfl⟩)).mono ?_
          rintro e w1 ⟨rfl, rfl⟩
          go_wp2
          go_ret
          exact ⟨by rw [dcN (fun h => by have := HE.out.1 h; first | omega | (simp at this; omega) | (simp_all; done) | (simp_all; omega))]; rfl, HB.out⟩
      · go_enter Tryz.func101, Tryz.ntmps101
        go_wp2_with fail
        refine (sin_b a 0 1000000000 true _ (.inl ⟨by omega, by omega, rfl⟩)).mono ?_
        rintro e w1 ⟨rfl, rfl⟩
        go_wp2_with fail
        refine (sin_b k 2 5 false _ (.inr ⟨by omega, rfl⟩)).mono ?_
        rintro e w1 ⟨rfl, rfl⟩
        go_wp2
        go_ret
        exact ⟨by rw [dcN (fun h => by have := HE.out.1 h; first | omega | (simp at this; omega) | (simp_all; done) | (simp_all; omega))]; rfl, HB.out⟩
  · go_enter Tryz.func101, Tryz.ntmps101
    go_wp2_with fail
    refine (sin_b a 0 1000000000 false _ (.inr ⟨by omega, rfl⟩)).mono ?_
    rintro e w1 ⟨rfl, rfl⟩
    go_wp2
    go_ret
    exact ⟨by rw [dcN (fun h => by have := HE.out.1 h; first | omega | (simp at this; omega) | (simp_all; done) | (simp_all; omega))]; rfl, HB.out⟩
end Go.Proofs.YtfmnaidhfgmemaaGreatDoor
