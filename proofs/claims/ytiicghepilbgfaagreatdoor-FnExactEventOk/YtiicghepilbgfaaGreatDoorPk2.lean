/-
  Math2; PgMath
-/
import Derived.Test.YtiicghepilbgfaaGreatDoorPk1
/-
  Plain facts on how a number is read from bytes, byte by byte: no Go in them.
-/
namespace Go.Proofs.YtiicghepilbgfaaGreatDoor.Words

/-- Behind k bytes, each of which says that more come: what has been read, and the next byte's unit. -/
def St (l : List UInt8) (q k n u : Nat) : Prop :=
  k ≤ 5 ∧ q + k ≤ l.length ∧ (∀ x ∈ (l.drop q).take k, 128 ≤ x.toNat) ∧ n = valL ((l.drop q).take k) ∧ u = 128 ^ k

theorem St.zero {l : List UInt8} {q : Nat} (h : q ≤ l.length) : St l q 0 0 1 := ⟨by omega, by omega, by simp, by simp [valL], by simp⟩

theorem take_step {l : List UInt8} {q k : Nat} (h : q + k < l.length) : (l.drop q).take (k + 1) = (l.drop q).take k ++ [l[q + k]] := by
  rw [List.take_succ_eq_append_getElem (by simp; omega)]
  simp

theorem pre_len {l : List UInt8} {q k : Nat} (h : q + k ≤ l.length) : ((l.drop q).take k).length = k := by simp; omega

theorem St.step {l : List UInt8} {q k n u : Nat} (h : St l q k n u) (hk : k < 5) (hq : q + k < l.length) (hc : 128 ≤ l[q + k].toNat) :
    St l q (k + 1) (n + l[q + k].toNat % 128 * u) (u * 128) := by
  obtain ⟨h1, h2, h3, h4, h5⟩ := h
  refine ⟨by omega, by omega, ?_, ?_, ?_⟩
  · rw [take_step hq]
    intro x hx
    rcases List.mem_append.1 hx with hx | hx
    · exact h3 x hx
    · simp at hx; subst hx; exact hc
  · rw [take_step hq, valL_snoc, pre_len h2, ← h4, ← h5]
  · rw [h5, Nat.pow_succ]

theorem St.bounds {l : List UInt8} {q k n u : Nat} (h : St l q k n u) : 0 < u ∧ n < u ∧ u ≤ 34359738368 ∧ (k < 5 → u ≤ 268435456) ∧ (k = 5 → u = 34359738368) := by
  obtain ⟨h1, h2, h3, h4, h5⟩ := h
  have hv := valL_lt ((l.drop q).take k)
  rw [pre_len h2, ← h4, ← h5] at hv
  have e : u = 1 ∧ k = 0 ∨ u = 128 ∧ k = 1 ∨ u = 16384 ∧ k = 2 ∨ u = 2097152 ∧ k = 3 ∨ u = 268435456 ∧ k = 4 ∨ u = 34359738368 ∧ k = 5 := by
    match k, h1, h5 with
    | 0, _, h => left; exact ⟨h, rfl⟩
    | 1, _, h => right; left; exact ⟨h, rfl⟩
    | 2, _, h => right; right; left; exact ⟨h, rfl⟩
    | 3, _, h => right; right; right; left; exact ⟨h, rfl⟩
    | 4, _, h => right; right; right; right; left; exact ⟨h, rfl⟩
    | 5, _, h => right; right; right; right; right; exact ⟨h, rfl⟩
    | k + 6, h, _ => omega
  omega

theorem drop_split {l : List UInt8} {q k : Nat} : l.drop q = (l.drop q).take k ++ l.drop (q + k) := by
  have := List.take_append_drop k (l.drop q)
  rw [List.drop_drop] at this
  exact this.symm

theorem St.scan {l : List UInt8} {q k n u : Nat} (h : St l q k n u) : scan 5 (l.drop q) = (scan (5 - k) (l.drop (q + k))).map ((l.drop q).take k ++ ·) := by
  obtain ⟨h1, h2, h3, _, _⟩ := h
  have e := scan_pre ((l.drop q).take k) (l.drop (q + k)) (5 - k) h3
  rw [pre_len h2, ← drop_split] at e
  rw [← e]
  congr 1
  omega

/-- No byte below 128 in time: there is no number. -/
theorem St.stop {l : List UInt8} {q k n u : Nat} (h : St l q k n u) (hs : ¬ (q + k < l.length ∧ k < 5)) : readV l q = none := by
  have e := h.scan
  obtain ⟨h1, h2, _, _, _⟩ := h
  have : Words.scan (5 - k) (l.drop (q + k)) = none := by
    by_cases hk : k = 5
    · subst hk; rfl
    · have : l.drop (q + k) = [] := List.drop_eq_nil_of_le (by omega)
      rw [this]
      obtain ⟨f, hf⟩ : ∃ f, 5 - k = f + 1 := ⟨4 - k, by omega⟩
      rw [hf]; rfl
  rw [this] at e
  simp [readV, e]

theorem St.hit {l : List UInt8} {q k n u : Nat} (h : St l q k n u) (hk : k < 5) (hq : q + k < l.length) (hc : l[q + k].toNat < 128) :
    readV l q = if n + l[q + k].toNat % 128 * u ≤ 1000000000 ∧ ¬ (l[q + k].toNat = 0 ∧ k ≠ 0) then some (n + l[q + k].toNat % 128 * u, q + k + 1) else none := by
  have e := h.scan
  obtain ⟨h1, h2, h3, h4, h5⟩ := h
  have e2 : l.drop (q + k) = l[q + k] :: l.drop (q + k + 1) := List.drop_eq_getElem_cons hq
  obtain ⟨f, hf⟩ : ∃ f, 5 - k = f + 1 := ⟨4 - k, by omega⟩
  rw [e2, hf, Words.scan, if_pos hc, Option.map_some] at e
  have hv := (var_val ((l.drop q).take k) l[q + k] hc h3).1
  have e3 : valL ((l.drop q).take k ++ [l[q + k]]) = n + l[q + k].toNat % 128 * u := by rw [valL_snoc, pre_len h2, ← h4, ← h5]
  have e4 : (l.drop q).take k ≠ [] ↔ k ≠ 0 := by
    rw [← List.length_pos_iff, pre_len h2]; omega
  rw [e3, e4] at hv
  unfold readV
  rw [e]
  simp only [e3, hv]
  have e5 : ((l.drop q).take k ++ [l[q + k]]).length = k + 1 := by rw [List.length_append, pre_len h2]; rfl
  rw [e5, Nat.add_assoc]

theorem St.hit_yes {l : List UInt8} {q k n u : Nat} (h : St l q k n u) (hk : k < 5) (hq : q + k < l.length) (hc : l[q + k].toNat < 128)
    (h1 : n + l[q + k].toNat % 128 * u ≤ 1000000000) (h2 : ¬ (l[q + k].toNat = 0 ∧ k ≠ 0)) : readV l q = some (n + l[q + k].toNat % 128 * u, q + k + 1) := by
  rw [h.hit hk hq hc, if_pos ⟨h1, h2⟩]
theorem St.hit_no {l : List UInt8} {q k n u : Nat} (h : St l q k n u) (hk : k < 5) (hq : q + k < l.length) (hc : l[q + k].toNat < 128)
    (h1 : 1000000000 < n + l[q + k].toNat % 128 * u ∨ l[q + k].toNat = 0 ∧ k ≠ 0) : readV l q = none := by
  rw [h.hit hk hq hc, if_neg (by omega)]
/-- What the specification asks: the number's own bytes are those that were read. -/
theorem St.hit_var {l : List UInt8} {q k n u : Nat} (h : St l q k n u) (hq : q + k < l.length) (hc : l[q + k].toNat < 128) :
    varL (n + l[q + k].toNat % 128 * u) = (l.drop q).take (k + 1) ↔ ¬ (l[q + k].toNat = 0 ∧ k ≠ 0) := by
  obtain ⟨h1, h2, h3, h4, h5⟩ := h
  have hv := (var_val ((l.drop q).take k) l[q + k] hc h3).1
  have e3 : valL ((l.drop q).take k ++ [l[q + k]]) = n + l[q + k].toNat % 128 * u := by rw [valL_snoc, pre_len h2, ← h4, ← h5]
  have e4 : (l.drop q).take k ≠ [] ↔ k ≠ 0 := by
    rw [← List.length_pos_iff, pre_len h2]; omega
  rw [e3, e4] at hv
  rw [take_step hq]
  exact hv

/-- The byte at a place. -/
def At (l : List UInt8) (i c : Nat) : Prop := ∃ h : i < l.length, l[i].toNat = c
theorem St.step' {l : List UInt8} {q k n u c : Nat} (h : St l q k n u) (hk : k < 5) (ha : At l (q + k) c) (hc : 128 ≤ c) : St l q (k + 1) (n + c % 128 * u) (u * 128) := by
  obtain ⟨hq, rfl⟩ := ha
  exact h.step hk hq hc
theorem St.yes' {l : List UInt8} {q k n u c : Nat} (h : St l q k n u) (hk : k < 5) (ha : At l (q + k) c) (hc : c < 128) (h1 : n + c % 128 * u ≤ 1000000000) (h2 : ¬ (c = 0 ∧ k ≠ 0)) :
    readV l q = some (n + c % 128 * u, q + k + 1) := by
  obtain ⟨hq, rfl⟩ := ha
  exact h.hit_yes hk hq hc h1 h2
theorem St.no' {l : List UInt8} {q k n u c : Nat} (h : St l q k n u) (hk : k < 5) (ha : At l (q + k) c) (hc : c < 128) (h1 : 1000000000 < n + c % 128 * u ∨ c = 0 ∧ k ≠ 0) :
    readV l q = none := by
  obtain ⟨hq, rfl⟩ := ha
  exact h.hit_no hk hq hc h1
theorem St.var' {l : List UInt8} {q k n u c : Nat} (h : St l q k n u) (ha : At l (q + k) c) (hc : c < 128) :
    varL (n + c % 128 * u) = (l.drop q).take (k + 1) ↔ ¬ (c = 0 ∧ k ≠ 0) := by
  obtain ⟨hq, rfl⟩ := ha
  exact h.hit_var hq hc

theorem prod_le (c u : Nat) (hu : u ≤ 268435456) : c % 128 * u ≤ 34091302912 := by
  have h1 : c % 128 ≤ 127 := by omega
  have := Nat.mul_le_mul h1 hu
  omega
theorem scan_len : ∀ (f : Nat) (l r : List UInt8), scan f l = some r → r.length ≤ l.length := by
  intro f
  induction f with
  | zero => intro l r h; simp [scan] at h
  | succ f ih =>
    intro l r h
    cases l with
    | nil => simp [scan] at h
    | cons c l =>
      rw [scan] at h
      split at h
      · cases h; simp
      · cases e : scan f l with
        | none => simp [e] at h
        | some r' =>
          simp [e] at h
          subst h
          have := ih l r' e
          simp; omega
theorem readV_le (l : List UInt8) (q n j : Nat) (hq : q ≤ l.length) (h : readV l q = some (n, j)) : j ≤ l.length ∧ n ≤ 1000000000 := by
  unfold readV at h
  cases e : scan 5 (l.drop q) with
  | none => simp [e] at h
  | some r =>
    have := scan_len 5 _ _ e
    simp only [List.length_drop] at this
    simp only [e] at h
    split at h
    · rename_i h1
      cases h
      exact ⟨by omega, h1.1⟩
    · cases h
theorem prod_le_int (c u : Nat) (hu : u ≤ 268435456) : (c : Int) % 128 * u ≤ 34091302912 := by
  have := prod_le c u hu
  have h : ((c % 128 * u : Nat) : Int) ≤ (34091302912 : Nat) := Int.ofNat_le.2 this
  simpa using h
theorem prod_nn (c u : Nat) : 0 ≤ (c : Int) % 128 * u := by
  have h : (0 : Int) ≤ ((c % 128 * u : Nat) : Int) := Int.natCast_nonneg _
  simpa using h
theorem prod_cast (n c u : Nat) : ((n + c % 128 * u : Nat) : Int) = n + (c : Int) % 128 * u := by simp
end Go.Proofs.YtiicghepilbgfaaGreatDoor.Words

/-
  Plain facts on pages and the bytes that they are written in: no Go in them.
-/
namespace Go.Proofs.YtiicghepilbgfaaGreatDoor.Words

structure Pg where
  kind : Int
  seq : Int
  tx : Int
  part : Int
  count : Int
  text : ByteArray

/-- A page that is right. -/
def Pg.Right (p : Pg) : Prop :=
  (p.kind = 1 ∧ p.count = 1 ∧ p.part = 0 ∨ p.kind = 2 ∧ 1 ≤ p.count ∧ p.count ≤ 9 ∧ 0 ≤ p.part ∧ p.part < p.count) ∧ 1 ≤ p.seq ∧ p.seq ≤ 1000000000 ∧ 1 ≤ p.tx ∧ p.tx ≤ 1000000000 ∧ (p.text.size : Int) ≤ 90
abbrev Pg.decR (p : Pg) : Decidable p.Right := by unfold Pg.Right; exact inferInstance

def varA (n : Nat) : ByteArray := ⟨(varL n).toArray⟩
def byteA (n : Nat) : ByteArray := ⟨#[UInt8.ofNat n]⟩
/-- The bytes of a page, not yet sealed. -/
def pageA (p : Pg) : ByteArray := ((((byteA p.kind.toNat ++ varA p.seq.toNat) ++ varA p.tx.toNat) ++ varA p.part.toNat) ++ varA p.count.toNat) ++ p.text

theorem pageA_list (p : Pg) : (pageA p).data.toList = UInt8.ofNat p.kind.toNat :: (varL p.seq.toNat ++ (varL p.tx.toNat ++ (varL p.part.toNat ++ (varL p.count.toNat ++ p.text.data.toList)))) := by
  simp [pageA, byteA, varA, ByteArray.data_append]

theorem varA_size (n : Nat) : (varA n).size = (varL n).length := by simp [varA, ByteArray.size]
theorem pageA_size (p : Pg) (h : p.Right) : (pageA p).size ≤ 127 := by
  obtain ⟨h1, h2, h3, h4, h5, h6⟩ := h
  have a := (varL_len p.seq.toNat (by omega)).2
  have b := (varL_len p.tx.toNat (by omega)).2
  have c := (varL_len p.part.toNat (by omega)).2
  have d := (varL_len p.count.toNat (by omega)).2
  have e : (pageA p).size = (pageA p).data.toList.length := rfl
  have f : p.text.size = p.text.data.toList.length := rfl
  rw [e, pageA_list]
  simp only [List.length_cons, List.length_append]
  omega

theorem scan_cut : ∀ (f : Nat) (l r : List UInt8), scan f l = some r → l = r ++ l.drop r.length := by
  intro f
  induction f with
  | zero => intro l r h; simp [scan] at h
  | succ f ih =>
    intro l r h
    cases l with
    | nil => simp [scan] at h
    | cons c l =>
      simp only [scan] at h
      split at h
      · cases h; simp
      · cases e : scan f l with
        | none => simp [e] at h
        | some r' =>
          simp [e] at h
          subst h
          have := ih l r' e
          simp only [List.cons_append, List.length_cons, List.drop_succ_cons]
          rw [← this]
theorem readV_cut (l : List UInt8) (q n j : Nat) (h : readV l q = some (n, j)) : l.drop q = varL n ++ l.drop j := by
  unfold readV at h
  cases e : scan 5 (l.drop q) with
  | none => simp [e] at h
  | some r =>
    have h3 := scan_cut 5 _ _ e
    simp only [e] at h
    split at h
    · rename_i h1
      cases h
      rw [h1.2]
      rw [List.drop_drop] at h3
      exact h3
    · cases h

theorem scan_var : ∀ (f n : Nat) (r : List UInt8), n < 128 ^ (f + 1) → scan (f + 1) (varL n ++ r) = some (varL n) := by
  intro f
  induction f with
  | zero =>
    intro n r h
    have h1 : n < 128 := by simpa using h
    have e : (UInt8.ofNat n).toNat = n := by rw [UInt8.toNat_ofNat']; omega
    rw [varL_low n h1, List.singleton_append, scan, e, if_pos h1]
  | succ f ih =>
    intro n r h
    by_cases h1 : n < 128
    · have e : (UInt8.ofNat n).toNat = n := by rw [UInt8.toNat_ofNat']; omega
      rw [varL_low n h1, List.singleton_append, scan, e, if_pos h1]
    · have e : (UInt8.ofNat (n % 128 + 128)).toNat = n % 128 + 128 := by rw [UInt8.toNat_ofNat']; omega
      have h2 : n / 128 < 128 ^ (f + 1) := by
        rw [Nat.pow_succ] at h
        omega
      rw [varL_high n (by omega), List.cons_append, scan, e, if_neg (by omega), ih (n / 128) r h2]
      rfl
theorem val_var : ∀ (k n : Nat), n ≤ k → valL (varL n) = n := by
  intro k
  induction k with
  | zero =>
    intro n h
    have : n = 0 := by omega
    subst this
    rfl
  | succ k ih =>
    intro n h
    by_cases h1 : n < 128
    · have e : (UInt8.ofNat n).toNat = n := by rw [UInt8.toNat_ofNat']; omega
      rw [varL_low n h1, valL, valL, e]; omega
    · have e : (UInt8.ofNat (n % 128 + 128)).toNat = n % 128 + 128 := by rw [UInt8.toNat_ofNat']; omega
      rw [varL_high n (by omega), valL, e, ih (n / 128) (by omega)]; omega
theorem readV_of (l : List UInt8) (q n : Nat) (r : List UInt8) (hn : n ≤ 1000000000) (h : l.drop q = varL n ++ r) : readV l q = some (n, q + (varL n).length) ∧ l.drop (q + (varL n).length) = r := by
  constructor
  · unfold readV
    rw [h, scan_var 4 n r (by omega)]
    have e := val_var n n (Nat.le_refl _)
    simp only [e]
    rw [if_pos ⟨hn, trivial⟩]
  · rw [← List.drop_drop, h, List.drop_left]

/-- The page that these bytes are, if they are one's. -/
def pgOf (s : ByteArray) : Option Pg :=
  match s.data.toList[0]? with
  | none => none
  | some k =>
    match readV s.data.toList 1 with
    | none => none
    | some (a, i1) =>
      match readV s.data.toList i1 with
      | none => none
      | some (b, i2) =>
        match readV s.data.toList i2 with
        | none => none
        | some (c, i3) =>
          match readV s.data.toList i3 with
          | none => none
          | some (d, i4) => letI := (Pg.mk k.toNat a b c d (s.extract i4 s.size)).decR; if (Pg.mk k.toNat a b c d (s.extract i4 s.size)).Right then some (Pg.mk k.toNat a b c d (s.extract i4 s.size)) else none

theorem cut_list (s : ByteArray) (i : Nat) : (s.extract i s.size).data.toList = s.data.toList.drop i := by
  simp [ByteArray.data_extract]
  exact List.take_of_length_le (by rw [List.length_drop]; exact Nat.le_refl _)

theorem ba_ext {a b : ByteArray} (h : a.data.toList = b.data.toList) : a = b := ByteArray.ext (Array.toList_inj.1 h)

theorem pg_back {s : ByteArray} {k : UInt8} {a b c d i1 i2 i3 i4 : Nat} (h0 : s.data.toList[0]? = some k) (h1 : readV s.data.toList 1 = some (a, i1)) (h2 : readV s.data.toList i1 = some (b, i2)) (h3 : readV s.data.toList i2 = some (c, i3)) (h4 : readV s.data.toList i3 = some (d, i4)) :
    pageA (Pg.mk k.toNat a b c d (s.extract i4 s.size)) = s := by
  apply ba_ext
  rw [pageA_list, cut_list]
  have e1 := readV_cut _ _ _ _ h1
  have e2 := readV_cut _ _ _ _ h2
  have e3 := readV_cut _ _ _ _ h3
  have e4 := readV_cut _ _ _ _ h4
  simp only [Int.toNat_natCast, ofNat_toNat]
  rw [← e4, ← e3, ← e2, ← e1]
  cases hl : s.data.toList with
  | nil => rw [hl] at h0; cases h0
  | cons x l => rw [hl] at h0; cases h0; simp

theorem pg_read (p : Pg) (h : p.Right) : pgOf (pageA p) = some p := by
  obtain ⟨h1, h2, h3, h4, h5, h6⟩ := id h
  have e := pageA_list p
  have k0 : (pageA p).data.toList[0]? = some (UInt8.ofNat p.kind.toNat) := by rw [e]; rfl
  obtain ⟨k1, l1⟩ := readV_of (pageA p).data.toList 1 p.seq.toNat _ (by omega) (by rw [e]; rfl)
  obtain ⟨k2, l2⟩ := readV_of (pageA p).data.toList _ p.tx.toNat _ (by omega) l1
  obtain ⟨k3, l3⟩ := readV_of (pageA p).data.toList _ p.part.toNat _ (by omega) l2
  obtain ⟨k4, l4⟩ := readV_of (pageA p).data.toList _ p.count.toNat _ (by omega) l3
  unfold pgOf
  rw [k0]
  simp only [k1, k2, k3, k4]
  have et : (pageA p).extract (1 + (varL p.seq.toNat).length + (varL p.tx.toNat).length + (varL p.part.toNat).length + (varL p.count.toNat).length) (pageA p).size = p.text := by
    apply ba_ext
    rw [cut_list, l4]
  have ek : ((UInt8.ofNat p.kind.toNat).toNat : Int) = p.kind := by rw [UInt8.toNat_ofNat']; omega
  have e1 : ((p.seq.toNat : Nat) : Int) = p.seq := by omega
  have e2 : ((p.tx.toNat : Nat) : Int) = p.tx := by omega
  have e3 : ((p.part.toNat : Nat) : Int) = p.part := by omega
  have e4 : ((p.count.toNat : Nat) : Int) = p.count := by omega
  rw [et, ek, e1, e2, e3, e4]
  exact if_pos h
end Go.Proofs.YtiicghepilbgfaaGreatDoor.Words
