/-
  PgMath; SoMath; FdC
-/
import Derived.Test.YtcjgjkejhkhknabDoorPq7
import Derived.Test.YtcjgjkejhkhknabDoorPq0
/-
  Plain facts on pages and the bytes that they are written in: no Go in them.
-/
namespace Go.Proofs.YtcjgjkejhkhknabDoor.Words

structure Pg where
  kind : Int
  seq : Int
  tx : Int
  part : Int
  count : Int
  text : ByteArray

/-- A page that is right. -/
def Pg.Right (p : Pg) : Prop :=
  (p.kind = 1 ∧ p.count = 1 ∧ p.part = 0 ∨ p.kind = 2 ∧ 1 ≤ p.count ∧ p.count ≤ 9 ∧ 0 ≤ p.part ∧ p.part < p.count) ∧ 1 ≤ p.seq ∧ p.seq ≤ 1000000000 ∧ 1 ≤ p.tx ∧ p.tx ≤ 1000000000 ∧ (p.text.size : Int) ≤ 90
abbrev Pg.decR (p : Pg) : Decidable p.Right := by unfold Pg.Right; exact inferInstance

def varA (n : Nat) : ByteArray := ⟨(varL n).toArray⟩
def byteA (n : Nat) : ByteArray := ⟨#[UInt8.ofNat n]⟩
/-- The bytes of a page, not yet sealed. -/
def pageA (p : Pg) : ByteArray := ((((byteA p.kind.toNat ++ varA p.seq.toNat) ++ varA p.tx.toNat) ++ varA p.part.toNat) ++ varA p.count.toNat) ++ p.text

theorem pageA_list (p : Pg) : (pageA p).data.toList = UInt8.ofNat p.kind.toNat :: (varL p.seq.toNat ++ (varL p.tx.toNat ++ (varL p.part.toNat ++ (varL p.count.toNat ++ p.text.data.toList)))) := by
  simp [pageA, byteA, varA, ByteArray.data_append]

theorem varA_size (n : Nat) : (varA n).size = (varL n).length := by simp [varA, ByteArray.size]
theorem pageA_size (p : Pg) (h : p.Right) : (pageA p).size ≤ 127 := by
  obtain ⟨h1, h2, h3, h4, h5, h6⟩ := h
  have a := (varL_len p.seq.toNat (by omega)).2
  have b := (varL_len p.tx.toNat (by omega)).2
  have c := (varL_len p.part.toNat (by omega)).2
  have d := (varL_len p.count.toNat (by omega)).2
  have e : (pageA p).size = (pageA p).data.toList.length := rfl
  have f : p.text.size = p.text.data.toList.length := rfl
  rw [e, pageA_list]
  simp only [List.length_cons, List.length_append]
  omega

theorem scan_cut : ∀ (f : Nat) (l r : List UInt8), scan f l = some r → l = r ++ l.drop r.length := by
  intro f
  induction f with
  | zero => intro l r h; simp [scan] at h
  | succ f ih =>
    intro l r h
    cases l with
    | nil => simp [scan] at h
    | cons c l =>
      simp only [scan] at h
      split at h
      · cases h; simp
      · cases e : scan f l with
        | none => simp [e] at h
        | some r' =>
          simp [e] at h
          subst h
          have := ih l r' e
          simp only [List.cons_append, List.length_cons, List.drop_succ_cons]
          rw [← this]
theorem readV_cut (l : List UInt8) (q n j : Nat) (h : readV l q = some (n, j)) : l.drop q = varL n ++ l.drop j := by
  unfold readV at h
  cases e : scan 5 (l.drop q) with
  | none => simp [e] at h
  | some r =>
    have h3 := scan_cut 5 _ _ e
    simp only [e] at h
    split at h
    · rename_i h1
      cases h
      rw [h1.2]
      rw [List.drop_drop] at h3
      exact h3
    · cases h

theorem scan_var : ∀ (f n : Nat) (r : List UInt8), n < 128 ^ (f + 1) → scan (f + 1) (varL n ++ r) = some (varL n) := by
  intro f
  induction f with
  | zero =>
    intro n r h
    have h1 : n < 128 := by simpa using h
    have e : (UInt8.ofNat n).toNat = n := by rw [UInt8.toNat_ofNat']; omega
    rw [varL_low n h1, List.singleton_append, scan, e, if_pos h1]
  | succ f ih =>
    intro n r h
    by_cases h1 : n < 128
    · have e : (UInt8.ofNat n).toNat = n := by rw [UInt8.toNat_ofNat']; omega
      rw [varL_low n h1, List.singleton_append, scan, e, if_pos h1]
    · have e : (UInt8.ofNat (n % 128 + 128)).toNat = n % 128 + 128 := by rw [UInt8.toNat_ofNat']; omega
      have h2 : n / 128 < 128 ^ (f + 1) := by
        rw [Nat.pow_succ] at h
        omega
      rw [varL_high n (by omega), List.cons_append, scan, e, if_neg (by omega), ih (n / 128) r h2]
      rfl
theorem val_var : ∀ (k n : Nat), n ≤ k → valL (varL n) = n := by
  intro k
  induction k with
  | zero =>
    intro n h
    have : n = 0 := by omega
    subst this
    rfl
  | succ k ih =>
    intro n h
    by_cases h1 : n < 128
    · have e : (UInt8.ofNat n).toNat = n := by rw [UInt8.toNat_ofNat']; omega
      rw [varL_low n h1, valL, valL, e]; omega
    · have e : (UInt8.ofNat (n % 128 + 128)).toNat = n % 128 + 128 := by rw [UInt8.toNat_ofNat']; omega
      rw [varL_high n (by omega), valL, e, ih (n / 128) (by omega)]; omega
theorem readV_of (l : List UInt8) (q n : Nat) (r : List UInt8) (hn : n ≤ 1000000000) (h : l.drop q = varL n ++ r) : readV l q = some (n, q + (varL n).length) ∧ l.drop (q + (varL n).length) = r := by
  constructor
  · unfold readV
    rw [h, scan_var 4 n r (by omega)]
    have e := val_var n n (Nat.le_refl _)
    simp only [e]
    rw [if_pos ⟨hn, trivial⟩]
  · rw [← List.drop_drop, h, List.drop_left]

/-- The page that these bytes are, if they are one's. -/
def pgOf (s : ByteArray) : Option Pg :=
  match s.data.toList[0]? with
  | none => none
  | some k =>
    match readV s.data.toList 1 with
    | none => none
    | some (a, i1) =>
      match readV s.data.toList i1 with
      | none => none
      | some (b, i2) =>
        match readV s.data.toList i2 with
        | none => none
        | some (c, i3) =>
          match readV s.data.toList i3 with
          | none => none
          | some (d, i4) => letI := (Pg.mk k.toNat a b c d (s.extract i4 s.size)).decR; if (Pg.mk k.toNat a b c d (s.extract i4 s.size)).Right then some (Pg.mk k.toNat a b c d (s.extract i4 s.size)) else none

theorem cut_list (s : ByteArray) (i : Nat) : (s.extract i s.size).data.toList = s.data.toList.drop i := by
  simp [ByteArray.data_extract]
  exact List.take_of_length_le (by rw [List.length_drop]; exact Nat.le_refl _)

theorem ba_ext {a b : ByteArray} (h : a.data.toList = b.data.toList) : a = b := ByteArray.ext (Array.toList_inj.1 h)

theorem pg_back {s : ByteArray} {k : UInt8} {a b c d i1 i2 i3 i4 : Nat} (h0 : s.data.toList[0]? = some k) (h1 : readV s.data.toList 1 = some (a, i1)) (h2 : readV s.data.toList i1 = some (b, i2)) (h3 : readV s.data.toList i2 = some (c, i3)) (h4 : readV s.data.toList i3 = some (d, i4)) :
    pageA (Pg.mk k.toNat a b c d (s.extract i4 s.size)) = s := by
  apply ba_ext
  rw [pageA_list, cut_list]
  have e1 := readV_cut _ _ _ _ h1
  have e2 := readV_cut _ _ _ _ h2
  have e3 := readV_cut _ _ _ _ h3
  have e4 := readV_cut _ _ _ _ h4
  simp only [Int.toNat_natCast, ofNat_toNat]
  rw [← e4, ← e3, ← e2, ← e1]
  cases hl : s.data.toList with
  | nil => rw [hl] at h0; cases h0
  | cons x l => rw [hl] at h0; cases h0; simp

theorem pg_read (p : Pg) (h : p.Right) : pgOf (pageA p) = some p := by
  obtain ⟨h1, h2, h3, h4, h5, h6⟩ := id h
  have e := pageA_list p
  have k0 : (pageA p).data.toList[0]? = some (UInt8.ofNat p.kind.toNat) := by rw [e]; rfl
  obtain ⟨k1, l1⟩ := readV_of (pageA p).data.toList 1 p.seq.toNat _ (by omega) (by rw [e]; rfl)
  obtain ⟨k2, l2⟩ := readV_of (pageA p).data.toList _ p.tx.toNat _ (by omega) l1
  obtain ⟨k3, l3⟩ := readV_of (pageA p).data.toList _ p.part.toNat _ (by omega) l2
  obtain ⟨k4, l4⟩ := readV_of (pageA p).data.toList _ p.count.toNat _ (by omega) l3
  unfold pgOf
  rw [k0]
  simp only [k1, k2, k3, k4]
  have et : (pageA p).extract (1 + (varL p.seq.toNat).length + (varL p.tx.toNat).length + (varL p.part.toNat).length + (varL p.count.toNat).length) (pageA p).size = p.text := by
    apply ba_ext
    rw [cut_list, l4]
  have ek : ((UInt8.ofNat p.kind.toNat).toNat : Int) = p.kind := by rw [UInt8.toNat_ofNat']; omega
  have e1 : ((p.seq.toNat : Nat) : Int) = p.seq := by omega
  have e2 : ((p.tx.toNat : Nat) : Int) = p.tx := by omega
  have e3 : ((p.part.toNat : Nat) : Int) = p.part := by omega
  have e4 : ((p.count.toNat : Nat) : Int) = p.count := by omega
  rw [et, ek, e1, e2, e3, e4]
  exact if_pos h
end Go.Proofs.YtcjgjkejhkhknabDoor.Words

/-
  Plain facts on stable sorting by a key: no Go in them.
-/
namespace Go.Proofs.YtcjgjkejhkhknabDoor.Words

structure Fnd where
  block : Int
  leaf : Int
  page : Pg

def Fnd.key (x : Fnd) : Int := x.page.seq

/-- A row that ascends. -/
def Asc (l : List Fnd) : Prop := l.Pairwise (fun a b => a.key ≤ b.key)
/-- Two rows that tell, of each key, the same elements in the same order. -/
def Akin (l k : List Fnd) : Prop := ∀ c : Int, l.filter (fun x => x.key == c) = k.filter (fun x => x.key == c)

theorem Akin.refl (l : List Fnd) : Akin l l := fun _ => rfl
theorem Akin.symm {l k : List Fnd} (h : Akin l k) : Akin k l := fun c => (h c).symm
theorem Akin.trans {l k m : List Fnd} (h : Akin l k) (h2 : Akin k m) : Akin l m := fun c => (h c).trans (h2 c)
theorem Akin.app {a b c d : List Fnd} (h : Akin a b) (h2 : Akin c d) : Akin (a ++ c) (b ++ d) := fun z => by
  rw [List.filter_append, List.filter_append, h z, h2 z]
theorem Akin.flip {a b : List Fnd} (h : ∀ x ∈ a, ∀ y ∈ b, x.key ≠ y.key) : Akin (a ++ b) (b ++ a) := fun c => by
  rw [List.filter_append, List.filter_append]
  by_cases hc : ∃ x ∈ a, x.key = c
  · obtain ⟨x, hx, rfl⟩ := hc
    have : b.filter (fun y => y.key == x.key) = [] := by
      rw [List.filter_eq_nil_iff]
      intro y hy
      have := h x hx y hy
      simpa using fun e => this e.symm
    rw [this]
    simp
  · have : a.filter (fun y => y.key == c) = [] := by
      rw [List.filter_eq_nil_iff]
      intro y hy
      simpa using fun e => hc ⟨y, hy, e⟩
    rw [this]
    simp
theorem Akin.mem {l k : List Fnd} (h : Akin l k) (x : Fnd) : x ∈ l ↔ x ∈ k := by
  have := h x.key
  have e : ∀ m : List Fnd, x ∈ m ↔ x ∈ m.filter (fun y => y.key == x.key) := fun m => by simp
  rw [e l, e k, this]
/-- Two rows that ascend and are alike are the same. -/
theorem Akin.eq : ∀ {l k : List Fnd}, Akin l k → Asc l → Asc k → l = k := by
  intro l
  induction l with
  | nil =>
    intro k h _ _
    cases k with
    | nil => rfl
    | cons b k =>
      have := h b.key
      simp at this
  | cons a l ih =>
    intro k h ha hk
    cases k with
    | nil =>
      have := h a.key
      simp at this
    | cons b k =>
      have hab : a.key = b.key := by
        have h1 : b ∈ a :: l := (h.mem b).2 List.mem_cons_self
        have h2 : a ∈ b :: k := (h.mem a).1 List.mem_cons_self
        have c1 : a.key ≤ b.key := by
          rcases List.mem_cons.1 h1 with e | e
          · rw [e]; exact Int.le_refl _
          · exact (List.pairwise_cons.1 ha).1 b e
        have c2 : b.key ≤ a.key := by
          rcases List.mem_cons.1 h2 with e | e
          · rw [e]; exact Int.le_refl _
          · exact (List.pairwise_cons.1 hk).1 a e
        omega
      have h0 := h a.key
      rw [List.filter_cons_of_pos (by simp), List.filter_cons_of_pos (by simp [hab])] at h0
      injection h0 with e1 _
      subst e1
      congr 1
      refine ih (fun c => ?_) (List.pairwise_cons.1 ha).2 (List.pairwise_cons.1 hk).2
      have hc := h c
      by_cases e : a.key = c
      · rw [List.filter_cons_of_pos (by simp [e]), List.filter_cons_of_pos (by simp [e])] at hc
        injection hc
      · rw [List.filter_cons_of_neg (by simpa using e), List.filter_cons_of_neg (by simpa using e)] at hc
        exact hc
theorem Asc.app {a b : List Fnd} (ha : Asc a) (hb : Asc b) (h : ∀ x ∈ a, ∀ y ∈ b, x.key ≤ y.key) : Asc (a ++ b) := List.pairwise_append.2 ⟨ha, hb, h⟩
theorem Asc.left {a b : List Fnd} (h : Asc (a ++ b)) : Asc a := (List.pairwise_append.1 h).1
theorem Asc.right {a b : List Fnd} (h : Asc (a ++ b)) : Asc b := (List.pairwise_append.1 h).2.1
theorem Asc.across {a b : List Fnd} (h : Asc (a ++ b)) : ∀ x ∈ a, ∀ y ∈ b, x.key ≤ y.key := (List.pairwise_append.1 h).2.2
theorem Asc.le {l : List Fnd} (h : Asc l) {i j : Nat} {x y : Fnd} (hi : l[i]? = some x) (hj : l[j]? = some y) (hij : i ≤ j) : x.key ≤ y.key := by
  by_cases e : i = j
  · subst e
    rw [hi] at hj
    cases hj
    exact Int.le_refl _
  · obtain ⟨h1, e1⟩ := List.getElem?_eq_some_iff.1 hi
    obtain ⟨h2, e2⟩ := List.getElem?_eq_some_iff.1 hj
    rw [← e1, ← e2]
    exact List.pairwise_iff_getElem.1 h i j h1 h2 (by omega)
theorem akin_len {l k : List Fnd} (h : Akin l k) : l.length = k.length := by
  classical
  have : l.Perm k := List.perm_iff_count.2 (fun x => by
    have h1 := h x.key
    have e : ∀ m : List Fnd, List.count x (m.filter (fun y => y.key == x.key)) = List.count x m := fun m => List.count_filter (by simp)
    rw [← e l, ← e k, h1])
  exact this.length_eq
end Go.Proofs.YtcjgjkejhkhknabDoor.Words

/-
  The cells of what a scan found, in a row.
-/
namespace Go.Proofs.YtcjgjkejhkhknabDoor
open Go.RowKit
open Words

def fdVal (x : Fnd) : Value := .agg #[.int .i64 x.block, .int .i64 x.leaf, .int .i64 x.page.kind, .int .i64 x.page.seq, .int .i64 x.page.tx, .int .i64 x.page.part, .int .i64 x.page.count, .string x.page.text]
def fdCells (x : Fnd) : List Value := [.int .i64 x.block, .int .i64 x.leaf, .int .i64 x.page.kind, .int .i64 x.page.seq, .int .i64 x.page.tx, .int .i64 x.page.part, .int .i64 x.page.count, .string x.page.text]
theorem infoFound : (Tryd.prog.info? 49).map (fun i => (i.zero, i.size, i.bytes)) = some (some (.agg #[.int .i64 0, .int .i64 0, .int .i64 0, .int .i64 0, .int .i64 0, .int .i64 0, .int .i64 0, .string ⟨#[]⟩]), 8, 72) := by kernel_rfl
def fcells (l : List Fnd) : List Value := l.flatMap fdCells
theorem fcells_len (l : List Fnd) : (fcells l).length = l.length * 8 := by
  induction l with
  | nil => rfl
  | cons x l ih => simp only [fcells, List.flatMap_cons, List.length_append, List.length_cons] at ih ⊢; rw [ih]; show 8 + _ = _; omega
theorem fcells_snoc (l : List Fnd) (x : Fnd) : fcells l ++ fdCells x = fcells (l ++ [x]) := by simp [fcells]
theorem fd_one (x : Fnd) : ∀ u ∈ fdCells x, u.oneCell' = true := by
  intro u hu
  simp [fdCells] at hu
  rcases hu with h | h | h | h | h | h | h | h <;> subst h <;> rfl
theorem fcells_at : ∀ (l : List Fnd) (i : Nat) (x : Fnd), l[i]? = some x → ∀ j v, (fdCells x)[j]? = some v → (fcells l)[i * 8 + j]? = some v := by
  intro l
  induction l with
  | nil => intro i x h; simp at h
  | cons y l ih =>
    intro i x h j v hv
    have hj : j < 8 := (List.getElem?_eq_some_iff.1 hv).1
    have e : fcells (y :: l) = fdCells y ++ fcells l := by simp [fcells]
    rw [e]
    cases i with
    | zero =>
      simp at h
      subst h
      rw [List.getElem?_append_left (by show 0 * 8 + j < 8; omega)]
      simpa using hv
    | succ i =>
      rw [List.getElem?_cons_succ] at h
      rw [List.getElem?_append_right (by show 8 ≤ (i + 1) * 8 + j; omega)]
      have : (i + 1) * 8 + j - (fdCells y).length = i * 8 + j := by show (i + 1) * 8 + j - 8 = _; omega
      rw [this]
      exact ih i x h j v hv
/-- The cells of what a scan found, by their places. -/
theorem fcells_back (M : List Fnd) (i : Nat) (v : Value) (h : (fcells M)[i]? = some v) : ∃ x, M[i / 8]? = some x ∧ (fdCells x)[i % 8]? = some v := by
  have hl := (List.getElem?_eq_some_iff.1 h).1
  rw [fcells_len] at hl
  obtain ⟨x, hx⟩ : ∃ x, M[i / 8]? = some x := ⟨_, List.getElem?_eq_getElem (by omega)⟩
  obtain ⟨u, hu⟩ : ∃ u, (fdCells x)[i % 8]? = some u := ⟨_, List.getElem?_eq_getElem (by show i % 8 < 8; omega)⟩
  have := fcells_at M (i / 8) x hx (i % 8) u hu
  rw [show i / 8 * 8 + i % 8 = i by omega, h] at this
  cases this
  exact ⟨x, hx, hu⟩
end Go.Proofs.YtcjgjkejhkhknabDoor
