/-
  Math2; PgMath; RcMath; StoM; StoM2; StoM3; SRoots; VlApp; StApp; LastOp; KnCp; Gate; SCopyS; CeRc; RcRow; TreeC
-/
import Derived.Test.YtfmnaidhfgmemaaGreatDoorPk6
import Derived.Test.YtfmnaidhfgmemaaGreatDoorPk5
import Derived.Test.YtfmnaidhfgmemaaGreatDoorPk0
import Derived.Test.YtfmnaidhfgmemaaGreatDoorPk1
import Derived.Deep.AppendLies
import Derived.Maps.AppendAt
import Derived.Orders
import Derived.OrdersHeld
import Derived.Tactics
import Derived.Deep.RegionHeld
import Derived.Deep.RegionHeld3
import Derived.Deep.DeepCutAuto
import Derived.Laws.AppendOwnNone
namespace Go.Proofs.YtfmnaidhfgmemaaGreatDoor.Words
def St (l : List UInt8) (q k n u : Nat) : Prop :=
  k ≤ 5 ∧ q + k ≤ l.length ∧ (∀ x ∈ (l.drop q).take k, 128 ≤ x.toNat) ∧ n = valL ((l.drop q).take k) ∧ u = 128 ^ k
theorem St.zero {l : List UInt8} {q : Nat} (h : q ≤ l.length) : St l q 0 0 1 := ⟨by omega, by omega, by simp, by simp [valL], by simp⟩
theorem take_step {l : List UInt8} {q k : Nat} (h : q + k < l.length) : (l.drop q).take (k + 1) = (l.drop q).take k ++ [l[q + k]] := by
  rw [List.take_succ_eq_append_getElem (by simp; omega)]
  simp
theorem pre_len {l : List UInt8} {q k : Nat} (h : q + k ≤ l.length) : ((l.drop q).take k).length = k := by simp; omega
theorem St.step {l : List UInt8} {q k n u : Nat} (h : St l q k n u) (hk : k < 5) (hq : q + k < l.length) (hc : 128 ≤ l[q + k].toNat) :
    St l q (k + 1) (n + l[q + k].toNat % 128 * u) (u * 128) := by
  obtain ⟨h1, h2, h3, h4, h5⟩ := h
  refine ⟨by omega, by omega, ?_, ?_, ?_⟩
  · rw [take_step hq]
    intro x hx
    rcases List.mem_append.1 hx with hx | hx
    · exact h3 x hx
    · simp at hx; subst hx; exact hc
  · rw [take_step hq, valL_snoc, pre_len h2, ← h4, ← h5]
  · rw [h5, Nat.pow_succ]
theorem St.bounds {l : List UInt8} {q k n u : Nat} (h : St l q k n u) : 0 < u ∧ n < u ∧ u ≤ 34359738368 ∧ (k < 5 → u ≤ 268435456) ∧ (k = 5 → u = 34359738368) := by
  obtain ⟨h1, h2, h3, h4, h5⟩ := h
  have hv := valL_lt ((l.drop q).take k)
  rw [pre_len h2, ← h4, ← h5] at hv
  have e : u = 1 ∧ k = 0 ∨ u = 128 ∧ k = 1 ∨ u = 16384 ∧ k = 2 ∨ u = 2097152 ∧ k = 3 ∨ u = 268435456 ∧ k = 4 ∨ u = 34359738368 ∧ k = 5 := by
    match k, h1, h5 with
    | 0, _, h => left; exact ⟨h, rfl⟩
    | 1, _, h => right; left; exact ⟨h, rfl⟩
    | 2, _, h => right; right; left; exact ⟨h, rfl⟩
    | 3, _, h => right; right; right; left; exact ⟨h, rfl⟩
    | 4, _, h => right; right; right; right; left; exact ⟨h, rfl⟩
    | 5, _, h => right; right; right; right; right; exact ⟨h, rfl⟩
    | k + 6, h, _ => omega
  omega
theorem drop_split {l : List UInt8} {q k : Nat} : l.drop q = (l.drop q).take k ++ l.drop (q + k) := by
  have := List.take_append_drop k (l.drop q)
  rw [List.drop_drop] at this
  exact this.symm
theorem St.scan {l : List UInt8} {q k n u : Nat} (h : St l q k n u) : scan 5 (l.drop q) = (scan (5 - k) (l.drop (q + k))).map ((l.drop q).take k ++ ·) := by
  obtain ⟨h1, h2, h3, _, _⟩ := h
  have e := scan_pre ((l.drop q).take k) (l.drop (q + k)) (5 - k) h3
  rw [pre_len h2, ← drop_split] at e
  rw [← e]
  congr 1
  omega
theorem St.stop {l : List UInt8} {q k n u : Nat} (h : St l q k n u) (hs : ¬ (q + k < l.length ∧ k < 5)) : readV l q = none := by
  have e := h.scan
  obtain ⟨h1, h2, _, _, _⟩ := h
  have : Words.scan (5 - k) (l.drop (q + k)) = none := by
    by_cases hk : k = 5
    · subst hk; rfl
    · have : l.drop (q + k) = [] := List.drop_eq_nil_of_le (by omega)
      rw [this]
      obtain ⟨f, hf⟩ : ∃ f, 5 - k = f + 1 := ⟨4 - k, by omega⟩
      rw [hf]; rfl
  rw [this] at e
  simp [readV, e]
theorem St.hit {l : List UInt8} {q k n u : Nat} (h : St l q k n u) (hk : k < 5) (hq : q + k < l.length) (hc : l[q + k].toNat < 128) :
    readV l q = if n + l[q + k].toNat % 128 * u ≤ 1000000000 ∧ ¬ (l[q + k].toNat = 0 ∧ k ≠ 0) then some (n + l[q + k].toNat % 128 * u, q + k + 1) else none := by
  have e := h.scan
  obtain ⟨h1, h2, h3, h4, h5⟩ := h
  have e2 : l.drop (q + k) = l[q + k] :: l.drop (q + k + 1) := List.drop_eq_getElem_cons hq
  obtain ⟨f, hf⟩ : ∃ f, 5 - k = f + 1 := ⟨4 - k, by omega⟩
  rw [e2, hf, Words.scan, if_pos hc, Option.map_some] at e
  have hv := (var_val ((l.drop q).take k) l[q + k] hc h3).1
  have e3 : valL ((l.drop q).take k ++ [l[q + k]]) = n + l[q + k].toNat % 128 * u := by rw [valL_snoc, pre_len h2, ← h4, ← h5]
  have e4 : (l.drop q).take k ≠ [] ↔ k ≠ 0 := by
    rw [← List.length_pos_iff, pre_len h2]; omega
  rw [e3, e4] at hv
  unfold readV
  rw [e]
  simp only [e3, hv]
  have e5 : ((l.drop q).take k ++ [l[q + k]]).length = k + 1 := by rw [List.length_append, pre_len h2]; rfl
  rw [e5, Nat.add_assoc]
theorem St.hit_yes {l : List UInt8} {q k n u : Nat} (h : St l q k n u) (hk : k < 5) (hq : q + k < l.length) (hc : l[q + k].toNat < 128)
    (h1 : n + l[q + k].toNat % 128 * u ≤ 1000000000) (h2 : ¬ (l[q + k].toNat = 0 ∧ k ≠ 0)) : readV l q = some (n + l[q + k].toNat % 128 * u, q + k + 1) := by
  rw [h.hit hk hq hc, if_pos ⟨h1, h2⟩]
theorem St.hit_no {l : List UInt8} {q k n u : Nat} (h : St l q k n u) (hk : k < 5) (hq : q + k < l.length) (hc : l[q + k].toNat < 128)
    (h1 : 1000000000 < n + l[q + k].toNat % 128 * u ∨ l[q + k].toNat = 0 ∧ k ≠ 0) : readV l q = none := by
  rw [h.hit hk hq hc, if_neg (by omega)]
theorem St.hit_var {l : List UInt8} {q k n u : Nat} (h : St l q k n u) (hq : q + k < l.length) (hc : l[q + k].toNat < 128) :
    varL (n + l[q + k].toNat % 128 * u) = (l.drop q).take (k + 1) ↔ ¬ (l[q + k].toNat = 0 ∧ k ≠ 0) := by
  obtain ⟨h1, h2, h3, h4, h5⟩ := h
  have hv := (var_val ((l.drop q).take k) l[q + k] hc h3).1
  have e3 : valL ((l.drop q).take k ++ [l[q + k]]) = n + l[q + k].toNat % 128 * u := by rw [valL_snoc, pre_len h2, ← h4, ← h5]
  have e4 : (l.drop q).take k ≠ [] ↔ k ≠ 0 := by
    rw [← List.length_pos_iff, pre_len h2]; omega
  rw [e3, e4] at hv
  rw [take_step hq]
  exact hv
def At (l : List UInt8) (i c : Nat) : Prop := ∃ h : i < l.length, l[i].toNat = c
theorem St.step' {l : List UInt8} {q k n u c : Nat} (h : St l q k n u) (hk : k < 5) (ha : At l (q + k) c) (hc : 128 ≤ c) : St l q (k + 1) (n + c % 128 * u) (u * 128) := by
  obtain ⟨hq, rfl⟩ := ha
  exact h.step hk hq hc
theorem St.yes' {l : List UInt8} {q k n u c : Nat} (h : St l q k n u) (hk : k < 5) (ha : At l (q + k) c) (hc : c < 128) (h1 : n + c % 128 * u ≤ 1000000000) (h2 : ¬ (c = 0 ∧ k ≠ 0)) :
    readV l q = some (n + c % 128 * u, q + k + 1) := by
  obtain ⟨hq, rfl⟩ := ha
  exact h.hit_yes hk hq hc h1 h2
theorem St.no' {l : List UInt8} {q k n u c : Nat} (h : St l q k n u) (hk : k < 5) (ha : At l (q + k) c) (hc : c < 128) (h1 : 1000000000 < n + c % 128 * u ∨ c = 0 ∧ k ≠ 0) :
    readV l q = none := by
  obtain ⟨hq, rfl⟩ := ha
  exact h.hit_no hk hq hc h1
theorem St.var' {l : List UInt8} {q k n u c : Nat} (h : St l q k n u) (ha : At l (q + k) c) (hc : c < 128) :
    varL (n + c % 128 * u) = (l.drop q).take (k + 1) ↔ ¬ (c = 0 ∧ k ≠ 0) := by
  obtain ⟨hq, rfl⟩ := ha
  exact h.hit_var hq hc
theorem prod_le (c u : Nat) (hu : u ≤ 268435456) : c % 128 * u ≤ 34091302912 := by
  have h1 : c % 128 ≤ 127 := by omega
  have := Nat.mul_le_mul h1 hu
  omega
theorem scan_len : ∀ (f : Nat) (l r : List UInt8), scan f l = some r → r.length ≤ l.length := by
  intro f
  induction f with
  | zero => intro l r h; simp [scan] at h
  | succ f ih =>
    intro l r h
    cases l with
    | nil => simp [scan] at h
    | cons c l =>
      rw [scan] at h
      split at h
      · cases h; simp
      · cases e : scan f l with
        | none => simp [e] at h
        | some r' =>
          simp [e] at h
          subst h
          have := ih l r' e
          simp; omega
theorem readV_le (l : List UInt8) (q n j : Nat) (hq : q ≤ l.length) (h : readV l q = some (n, j)) : j ≤ l.length ∧ n ≤ 1000000000 := by
  unfold readV at h
  cases e : scan 5 (l.drop q) with
  | none => simp [e] at h
  | some r =>
    have := scan_len 5 _ _ e
    simp only [List.length_drop] at this
    simp only [e] at h
    split at h
    · rename_i h1
      cases h
      exact ⟨by omega, h1.1⟩
    · cases h
theorem prod_le_int (c u : Nat) (hu : u ≤ 268435456) : (c : Int) % 128 * u ≤ 34091302912 := by
  have := prod_le c u hu
  have h : ((c % 128 * u : Nat) : Int) ≤ (34091302912 : Nat) := Int.ofNat_le.2 this
  simpa using h
theorem prod_nn (c u : Nat) : 0 ≤ (c : Int) % 128 * u := by
  have h : (0 : Int) ≤ ((c % 128 * u : Nat) : Int) := Int.natCast_nonneg _
  simpa using h
theorem prod_cast (n c u : Nat) : ((n + c % 128 * u : Nat) : Int) = n + (c : Int) % 128 * u := by simp
end Go.Proofs.YtfmnaidhfgmemaaGreatDoor.Words

namespace Go.Proofs.YtfmnaidhfgmemaaGreatDoor.Words
structure Pg where
  kind : Int
  seq : Int
  tx : Int
  part : Int
  count : Int
  text : ByteArray
def Pg.Right (p : Pg) : Prop :=
  (p.kind = 1 ∧ p.count = 1 ∧ p.part = 0 ∨ p.kind = 2 ∧ 1 ≤ p.count ∧ p.count ≤ 9 ∧ 0 ≤ p.part ∧ p.part < p.count) ∧ 1 ≤ p.seq ∧ p.seq ≤ 1000000000 ∧ 1 ≤ p.tx ∧ p.tx ≤ 1000000000 ∧ (p.text.size : Int) ≤ 90
abbrev Pg.decR (p : Pg) : Decidable p.Right := by unfold Pg.Right; exact inferInstance
def varA (n : Nat) : ByteArray := ⟨(varL n).toArray⟩
def byteA (n : Nat) : ByteArray := ⟨#[UInt8.ofNat n]⟩
def pageA (p : Pg) : ByteArray := ((((byteA p.kind.toNat ++ varA p.seq.toNat) ++ varA p.tx.toNat) ++ varA p.part.toNat) ++ varA p.count.toNat) ++ p.text
theorem pageA_list (p : Pg) : (pageA p).data.toList = UInt8.ofNat p.kind.toNat :: (varL p.seq.toNat ++ (varL p.tx.toNat ++ (varL p.part.toNat ++ (varL p.count.toNat ++ p.text.data.toList)))) := by
  simp [pageA, byteA, varA, ByteArray.data_append]
theorem pageA_size (p : Pg) (h : p.Right) : (pageA p).size ≤ 127 := by
  obtain ⟨h1, h2, h3, h4, h5, h6⟩ := h
  have a := (varL_len p.seq.toNat (by omega)).2
  have b := (varL_len p.tx.toNat (by omega)).2
  have c := (varL_len p.part.toNat (by omega)).2
  have d := (varL_len p.count.toNat (by omega)).2
  have e : (pageA p).size = (pageA p).data.toList.length := rfl
  have f : p.text.size = p.text.data.toList.length := rfl
  rw [e, pageA_list]
  simp only [List.length_cons, List.length_append]
  omega
theorem scan_cut : ∀ (f : Nat) (l r : List UInt8), scan f l = some r → l = r ++ l.drop r.length := by
  intro f
  induction f with
  | zero => intro l r h; simp [scan] at h
  | succ f ih =>
    intro l r h
    cases l with
    | nil => simp [scan] at h
    | cons c l =>
      simp only [scan] at h
      split at h
      · cases h; simp
      · cases e : scan f l with
        | none => simp [e] at h
        | some r' =>
          simp [e] at h
          subst h
          have := ih l r' e
          simp only [List.cons_append, List.length_cons, List.drop_succ_cons]
          rw [← this]
theorem readV_cut (l : List UInt8) (q n j : Nat) (h : readV l q = some (n, j)) : l.drop q = varL n ++ l.drop j := by
  unfold readV at h
  cases e : scan 5 (l.drop q) with
  | none => simp [e] at h
  | some r =>
    have h3 := scan_cut 5 _ _ e
    simp only [e] at h
    split at h
    · rename_i h1
      cases h
      rw [h1.2]
      rw [List.drop_drop] at h3
      exact h3
    · cases h
def pgOf (s : ByteArray) : Option Pg :=
  match s.data.toList[0]? with
  | none => none
  | some k =>
    match readV s.data.toList 1 with
    | none => none
    | some (a, i1) =>
      match readV s.data.toList i1 with
      | none => none
      | some (b, i2) =>
        match readV s.data.toList i2 with
        | none => none
        | some (c, i3) =>
          match readV s.data.toList i3 with
          | none => none
          | some (d, i4) => letI := (Pg.mk k.toNat a b c d (s.extract i4 s.size)).decR; if (Pg.mk k.toNat a b c d (s.extract i4 s.size)).Right then some (Pg.mk k.toNat a b c d (s.extract i4 s.size)) else none
theorem cut_list (s : ByteArray) (i : Nat) : (s.extract i s.size).data.toList = s.data.toList.drop i := by
  simp [ByteArray.data_extract]
  exact List.take_of_length_le (by rw [List.length_drop]; exact Nat.le_refl _)
theorem ba_ext {a b : ByteArray} (h : a.data.toList = b.data.toList) : a = b := ByteArray.ext (Array.toList_inj.1 h)
theorem pg_back {s : ByteArray} {k : UInt8} {a b c d i1 i2 i3 i4 : Nat} (h0 : s.data.toList[0]? = some k) (h1 : readV s.data.toList 1 = some (a, i1)) (h2 : readV s.data.toList i1 = some (b, i2)) (h3 : readV s.data.toList i2 = some (c, i3)) (h4 : readV s.data.toList i3 = some (d, i4)) :
    pageA (Pg.mk k.toNat a b c d (s.extract i4 s.size)) = s := by
  apply ba_ext
  rw [pageA_list, cut_list]
  have e1 := readV_cut _ _ _ _ h1
  have e2 := readV_cut _ _ _ _ h2
  have e3 := readV_cut _ _ _ _ h3
  have e4 := readV_cut _ _ _ _ h4
  simp only [Int.toNat_natCast, ofNat_toNat]
  rw [← e4, ← e3, ← e2, ← e1]
  cases hl : s.data.toList with
  | nil => rw [hl] at h0; cases h0
  | cons x l => rw [hl] at h0; cases h0; simp
end Go.Proofs.YtfmnaidhfgmemaaGreatDoor.Words

namespace Go.Proofs.YtfmnaidhfgmemaaGreatDoor.Words
structure Rc where
  kind : Int
  vol : Int
  arg : Int
  chunk : Int
def recL (r : Rc) : List UInt8 := UInt8.ofNat (16 * r.kind + r.vol).toNat :: (varL r.arg.toNat ++ varL r.chunk.toNat)
def recsL : List Rc → List UInt8
  | [] => []
  | r :: l => recL r ++ recsL l
end Go.Proofs.YtfmnaidhfgmemaaGreatDoor.Words

namespace Go.Proofs.YtfmnaidhfgmemaaGreatDoor
namespace Words
structure Sto where
  vols : List (Int × Int)
  kns : List Kn
  next : Int
def insI (l : List Int) (x : Int) : List Int := l.filter (fun y => decide (y < x)) ++ (if 0 < x then [x] else []) ++ l.filter (fun y => decide (x < y))
def liveS (s : Sto) : List Int := s.vols.foldl (fun acc v => (allT s.kns v.2).foldl insI acc) []
def tellS (s : Sto) : List (Int × List Int) := s.vols.map (fun v => (v.1, allT s.kns v.2))
end Words
end Go.Proofs.YtfmnaidhfgmemaaGreatDoor

namespace Go.Proofs.YtfmnaidhfgmemaaGreatDoor
namespace Words
end Words
end Go.Proofs.YtfmnaidhfgmemaaGreatDoor

namespace Go.Proofs.YtfmnaidhfgmemaaGreatDoor
namespace Words
theorem tell_at {s : Sto} {k : Nat} {v : Int × Int} (h : s.vols[k]? = some v) : (tellS s)[k]? = some (v.1, allT s.kns v.2) := by
  rw [tellS, List.getElem?_map, h]
  rfl
end Words
end Go.Proofs.YtfmnaidhfgmemaaGreatDoor

namespace Go.Proofs.YtfmnaidhfgmemaaGreatDoor
open Go.RowKit
open Words
theorem infoSto : (Tryz.prog.info? 45).map (·.size) = some 3 := by kernel_rfl
abbrev SBox (va : Option Addr) (vl vc : Nat) (ad : Option Addr) (len cap : Nat) (nx : Int) : Array Value := #[.slice va vl vc, .slice ad len cap, .int .i64 nx]
theorem sbox_at (w : World) (a b c : Value) : (w.alloc (.cells #[a, b, c] 45)).cell? ⟨w.heap.size, 0, none⟩ = some a ∧ (w.alloc (.cells #[a, b, c] 45)).cell? ⟨w.heap.size, 1, none⟩ = some b ∧ (w.alloc (.cells #[a, b, c] 45)).cell? ⟨w.heap.size, 2, none⟩ = some c := by
  have h := heap_alloc_new w (.cells #[a, b, c] 45)
  exact ⟨cell_of_row _ _ 0 _ _ _ h, cell_of_row _ _ 1 _ _ _ h, cell_of_row _ _ 2 _ _ _ h⟩
end Go.Proofs.YtfmnaidhfgmemaaGreatDoor

namespace Go.Proofs.YtfmnaidhfgmemaaGreatDoor
open Go.RowKit
open Words
def VlSl (W : World) (v : Value) (ls : List (Int × Int)) : Prop := ∃ a c, v = .slice a ls.length c ∧ (a = none → c = 0) ∧ VlRow W a ls.length ls
theorem VlSl.of {lo hi : Nat} {v : Value} {ls : List (Int × Int)} {W : World} (h : Sli 97 lo hi v ls.length (vlcells ls) W) (hm : ls.length ≤ maxLen) (hh : hi ≤ W.heap.size) : VlSl W v ls := by
  rcases h with ⟨rfl, h0⟩ | ⟨g, cap, rfl, h1, h2, h3⟩
  · exact ⟨none, 0, by rw [h0], fun _ => rfl, rfl, hm, by simp, fun h => by omega⟩
  · refine ⟨_, _, rfl, (fun e => by cases e), rfl, hm, by simp, fun _ => ⟨g, 0, rfl, by omega, fun i t hi => ?_⟩⟩
    have hc := fun j v hj => h3.cell (vlcells_at ls i t hi j v hj)
    refine ⟨?_, ?_⟩
    · simpa using hc 0 _ rfl
    · simpa using hc 1 _ rfl
end Go.Proofs.YtfmnaidhfgmemaaGreatDoor

namespace Go.Proofs.YtfmnaidhfgmemaaGreatDoor
open Go.RowKit
end Go.Proofs.YtfmnaidhfgmemaaGreatDoor

namespace Go.Proofs.YtfmnaidhfgmemaaGreatDoor
open Go Go.RowKit
end Go.Proofs.YtfmnaidhfgmemaaGreatDoor

namespace Go.Proofs.YtfmnaidhfgmemaaGreatDoor
open Go.RowKit
open Words
end Go.Proofs.YtfmnaidhfgmemaaGreatDoor

namespace Go.Proofs.YtfmnaidhfgmemaaGreatDoor
open Go Go.RowKit
end Go.Proofs.YtfmnaidhfgmemaaGreatDoor

namespace Go.Proofs.YtfmnaidhfgmemaaGreatDoor
open Go.RowKit
open Words
def StOut (w : World) (s : Sto) (v : Value) (w' : World) : Prop :=
  ∃ vv kv lo1 hi1 lo2 hi2, v = .agg #[vv, kv, .int .i64 s.next] ∧ Sli 97 lo1 hi1 vv s.vols.length (vlcells s.vols) w' ∧ Kns lo2 hi2 kv s.kns w' ∧ w.heap.size ≤ lo1 ∧ hi1 ≤ w'.heap.size ∧ w.heap.size ≤ lo2 ∧ hi2 ≤ w'.heap.size ∧ (hi1 ≤ lo2 ∨ hi2 ≤ lo1) ∧ Below w.heap.size w w'
end Go.Proofs.YtfmnaidhfgmemaaGreatDoor

namespace Go.Proofs.YtfmnaidhfgmemaaGreatDoor
open Go.RowKit
end Go.Proofs.YtfmnaidhfgmemaaGreatDoor

namespace Go.Proofs.YtfmnaidhfgmemaaGreatDoor
open Go.RowKit
set_option maxRecDepth 100000
end Go.Proofs.YtfmnaidhfgmemaaGreatDoor

namespace Go.Proofs.YtfmnaidhfgmemaaGreatDoor
open Go.RowKit
open Words
def AllC (f : Nat) : Prop := ∀ (ad : Option Addr) (len cap : Nat) (rs : List Kw) (r : Int) (w : World), len ≤ 1048578 → KnRd w ad len rs → Calls Tryz.prog f #[.agg #[.slice ad len cap], .int .i64 r] w (IOut w (allT (rs.map ktell) r))
theorem Kns.rd {W : World} {lo hi n c : Nat} {ad : Option Addr} {M : List Kn} (h : Kns lo hi (.slice ad n c) M W) (hn : M.length = n) (hh : hi ≤ W.heap.size) : ∃ rs, rs.map ktell = M ∧ KnRd W ad n rs := by
  obtain ⟨rs, e, hx⟩ := h
  exact ⟨rs, e, hx.rd (by rw [← hn, ← e, List.length_map]) hh⟩
end Go.Proofs.YtfmnaidhfgmemaaGreatDoor
