/-
  PgMath; RcMath; StoM; StoM2
-/
import Derived.Test.YtcjgjkejhkhknabGreatDoorPk4
/-
  Plain facts on pages and the bytes that they are written in: no Go in them.
-/
namespace Go.Proofs.YtcjgjkejhkhknabGreatDoor.Words

structure Pg where
  kind : Int
  seq : Int
  tx : Int
  part : Int
  count : Int
  text : ByteArray

/-- A page that is right. -/
def Pg.Right (p : Pg) : Prop :=
  (p.kind = 1 ∧ p.count = 1 ∧ p.part = 0 ∨ p.kind = 2 ∧ 1 ≤ p.count ∧ p.count ≤ 9 ∧ 0 ≤ p.part ∧ p.part < p.count) ∧ 1 ≤ p.seq ∧ p.seq ≤ 1000000000 ∧ 1 ≤ p.tx ∧ p.tx ≤ 1000000000 ∧ (p.text.size : Int) ≤ 90
abbrev Pg.decR (p : Pg) : Decidable p.Right := by unfold Pg.Right; exact inferInstance

def varA (n : Nat) : ByteArray := ⟨(varL n).toArray⟩
def byteA (n : Nat) : ByteArray := ⟨#[UInt8.ofNat n]⟩
/-- The bytes of a page, not yet sealed. -/
def pageA (p : Pg) : ByteArray := ((((byteA p.kind.toNat ++ varA p.seq.toNat) ++ varA p.tx.toNat) ++ varA p.part.toNat) ++ varA p.count.toNat) ++ p.text

theorem pageA_list (p : Pg) : (pageA p).data.toList = UInt8.ofNat p.kind.toNat :: (varL p.seq.toNat ++ (varL p.tx.toNat ++ (varL p.part.toNat ++ (varL p.count.toNat ++ p.text.data.toList)))) := by
  simp [pageA, byteA, varA, ByteArray.data_append]

theorem varA_size (n : Nat) : (varA n).size = (varL n).length := by simp [varA, ByteArray.size]
theorem pageA_size (p : Pg) (h : p.Right) : (pageA p).size ≤ 127 := by
  obtain ⟨h1, h2, h3, h4, h5, h6⟩ := h
  have a := (varL_len p.seq.toNat (by omega)).2
  have b := (varL_len p.tx.toNat (by omega)).2
  have c := (varL_len p.part.toNat (by omega)).2
  have d := (varL_len p.count.toNat (by omega)).2
  have e : (pageA p).size = (pageA p).data.toList.length := rfl
  have f : p.text.size = p.text.data.toList.length := rfl
  rw [e, pageA_list]
  simp only [List.length_cons, List.length_append]
  omega

theorem scan_cut : ∀ (f : Nat) (l r : List UInt8), scan f l = some r → l = r ++ l.drop r.length := by
  intro f
  induction f with
  | zero => intro l r h; simp [scan] at h
  | succ f ih =>
    intro l r h
    cases l with
    | nil => simp [scan] at h
    | cons c l =>
      simp only [scan] at h
      split at h
      · cases h; simp
      · cases e : scan f l with
        | none => simp [e] at h
        | some r' =>
          simp [e] at h
          subst h
          have := ih l r' e
          simp only [List.cons_append, List.length_cons, List.drop_succ_cons]
          rw [← this]
theorem readV_cut (l : List UInt8) (q n j : Nat) (h : readV l q = some (n, j)) : l.drop q = varL n ++ l.drop j := by
  unfold readV at h
  cases e : scan 5 (l.drop q) with
  | none => simp [e] at h
  | some r =>
    have h3 := scan_cut 5 _ _ e
    simp only [e] at h
    split at h
    · rename_i h1
      cases h
      rw [h1.2]
      rw [List.drop_drop] at h3
      exact h3
    · cases h

theorem scan_var : ∀ (f n : Nat) (r : List UInt8), n < 128 ^ (f + 1) → scan (f + 1) (varL n ++ r) = some (varL n) := by
  intro f
  induction f with
  | zero =>
    intro n r h
    have h1 : n < 128 := by simpa using h
    have e : (UInt8.ofNat n).toNat = n := by rw [UInt8.toNat_ofNat']; omega
    rw [varL_low n h1, List.singleton_append, scan, e, if_pos h1]
  | succ f ih =>
    intro n r h
    by_cases h1 : n < 128
    · have e : (UInt8.ofNat n).toNat = n := by rw [UInt8.toNat_ofNat']; omega
      rw [varL_low n h1, List.singleton_append, scan, e, if_pos h1]
    · have e : (UInt8.ofNat (n % 128 + 128)).toNat = n % 128 + 128 := by rw [UInt8.toNat_ofNat']; omega
      have h2 : n / 128 < 128 ^ (f + 1) := by
        rw [Nat.pow_succ] at h
        omega
      rw [varL_high n (by omega), List.cons_append, scan, e, if_neg (by omega), ih (n / 128) r h2]
      rfl
theorem val_var : ∀ (k n : Nat), n ≤ k → valL (varL n) = n := by
  intro k
  induction k with
  | zero =>
    intro n h
    have : n = 0 := by omega
    subst this
    rfl
  | succ k ih =>
    intro n h
    by_cases h1 : n < 128
    · have e : (UInt8.ofNat n).toNat = n := by rw [UInt8.toNat_ofNat']; omega
      rw [varL_low n h1, valL, valL, e]; omega
    · have e : (UInt8.ofNat (n % 128 + 128)).toNat = n % 128 + 128 := by rw [UInt8.toNat_ofNat']; omega
      rw [varL_high n (by omega), valL, e, ih (n / 128) (by omega)]; omega
theorem readV_of (l : List UInt8) (q n : Nat) (r : List UInt8) (hn : n ≤ 1000000000) (h : l.drop q = varL n ++ r) : readV l q = some (n, q + (varL n).length) ∧ l.drop (q + (varL n).length) = r := by
  constructor
  · unfold readV
    rw [h, scan_var 4 n r (by omega)]
    have e := val_var n n (Nat.le_refl _)
    simp only [e]
    rw [if_pos ⟨hn, trivial⟩]
  · rw [← List.drop_drop, h, List.drop_left]

/-- The page that these bytes are, if they are one's. -/
def pgOf (s : ByteArray) : Option Pg :=
  match s.data.toList[0]? with
  | none => none
  | some k =>
    match readV s.data.toList 1 with
    | none => none
    | some (a, i1) =>
      match readV s.data.toList i1 with
      | none => none
      | some (b, i2) =>
        match readV s.data.toList i2 with
        | none => none
        | some (c, i3) =>
          match readV s.data.toList i3 with
          | none => none
          | some (d, i4) => letI := (Pg.mk k.toNat a b c d (s.extract i4 s.size)).decR; if (Pg.mk k.toNat a b c d (s.extract i4 s.size)).Right then some (Pg.mk k.toNat a b c d (s.extract i4 s.size)) else none

theorem cut_list (s : ByteArray) (i : Nat) : (s.extract i s.size).data.toList = s.data.toList.drop i := by
  simp [ByteArray.data_extract]
  exact List.take_of_length_le (by rw [List.length_drop]; exact Nat.le_refl _)

theorem ba_ext {a b : ByteArray} (h : a.data.toList = b.data.toList) : a = b := ByteArray.ext (Array.toList_inj.1 h)

theorem pg_back {s : ByteArray} {k : UInt8} {a b c d i1 i2 i3 i4 : Nat} (h0 : s.data.toList[0]? = some k) (h1 : readV s.data.toList 1 = some (a, i1)) (h2 : readV s.data.toList i1 = some (b, i2)) (h3 : readV s.data.toList i2 = some (c, i3)) (h4 : readV s.data.toList i3 = some (d, i4)) :
    pageA (Pg.mk k.toNat a b c d (s.extract i4 s.size)) = s := by
  apply ba_ext
  rw [pageA_list, cut_list]
  have e1 := readV_cut _ _ _ _ h1
  have e2 := readV_cut _ _ _ _ h2
  have e3 := readV_cut _ _ _ _ h3
  have e4 := readV_cut _ _ _ _ h4
  simp only [Int.toNat_natCast, ofNat_toNat]
  rw [← e4, ← e3, ← e2, ← e1]
  cases hl : s.data.toList with
  | nil => rw [hl] at h0; cases h0
  | cons x l => rw [hl] at h0; cases h0; simp

theorem pg_read (p : Pg) (h : p.Right) : pgOf (pageA p) = some p := by
  obtain ⟨h1, h2, h3, h4, h5, h6⟩ := id h
  have e := pageA_list p
  have k0 : (pageA p).data.toList[0]? = some (UInt8.ofNat p.kind.toNat) := by rw [e]; rfl
  obtain ⟨k1, l1⟩ := readV_of (pageA p).data.toList 1 p.seq.toNat _ (by omega) (by rw [e]; rfl)
  obtain ⟨k2, l2⟩ := readV_of (pageA p).data.toList _ p.tx.toNat _ (by omega) l1
  obtain ⟨k3, l3⟩ := readV_of (pageA p).data.toList _ p.part.toNat _ (by omega) l2
  obtain ⟨k4, l4⟩ := readV_of (pageA p).data.toList _ p.count.toNat _ (by omega) l3
  unfold pgOf
  rw [k0]
  simp only [k1, k2, k3, k4]
  have et : (pageA p).extract (1 + (varL p.seq.toNat).length + (varL p.tx.toNat).length + (varL p.part.toNat).length + (varL p.count.toNat).length) (pageA p).size = p.text := by
    apply ba_ext
    rw [cut_list, l4]
  have ek : ((UInt8.ofNat p.kind.toNat).toNat : Int) = p.kind := by rw [UInt8.toNat_ofNat']; omega
  have e1 : ((p.seq.toNat : Nat) : Int) = p.seq := by omega
  have e2 : ((p.tx.toNat : Nat) : Int) = p.tx := by omega
  have e3 : ((p.part.toNat : Nat) : Int) = p.part := by omega
  have e4 : ((p.count.toNat : Nat) : Int) = p.count := by omega
  rw [et, ek, e1, e2, e3, e4]
  exact if_pos h
end Go.Proofs.YtcjgjkejhkhknabGreatDoor.Words

/-
  Plain facts on records and the bytes that they are written in: no Go in them.
-/
namespace Go.Proofs.YtcjgjkejhkhknabGreatDoor.Words

structure Rc where
  kind : Int
  vol : Int
  arg : Int
  chunk : Int
def Rc.tu (r : Rc) : Int × Int × Int × Int := (r.kind, r.vol, r.arg, r.chunk)

/-- A record that is right. -/
def Rc.Right (r : Rc) : Prop :=
  (0 ≤ r.arg ∧ r.arg ≤ 1000000000) ∧ (r.kind = 1 ∧ r.vol = 0 ∧ r.chunk = 0 ∨ (1 ≤ r.vol ∧ r.vol ≤ 9) ∧ (r.kind = 2 ∧ r.arg ≤ 9 ∧ r.chunk = 0 ∨ r.kind = 3 ∧ r.arg = 0 ∧ r.chunk = 0 ∨ r.kind = 4 ∧ r.arg < 16 ∧ 1 ≤ r.chunk ∧ r.chunk ≤ 1000000000 ∨ r.kind = 5 ∧ r.arg < 16 ∧ r.chunk = 0))
abbrev Rc.decR (r : Rc) : Decidable r.Right := by unfold Rc.Right; exact inferInstance

/-- The bytes of a record. -/
def recL (r : Rc) : List UInt8 := UInt8.ofNat (16 * r.kind + r.vol).toNat :: (varL r.arg.toNat ++ varL r.chunk.toNat)
def recA (r : Rc) : ByteArray := (byteA (16 * r.kind + r.vol).toNat ++ varA r.arg.toNat) ++ varA r.chunk.toNat
theorem recA_list (r : Rc) : (recA r).data.toList = recL r := by
  simp [recA, recL, byteA, varA, ByteArray.data_append]
theorem recL_len (r : Rc) (h : r.Right) : 3 ≤ (recL r).length ∧ (recL r).length ≤ 19 := by
  obtain ⟨h1, h2⟩ := h
  have a := varL_len r.arg.toNat (by omega)
  have b := varL_len r.chunk.toNat (by omega)
  simp only [recL, List.length_cons, List.length_append]
  omega

/-- The bytes of many. -/
def recsL : List Rc → List UInt8
  | [] => []
  | r :: l => recL r ++ recsL l
theorem recsL_append (a b : List Rc) : recsL (a ++ b) = recsL a ++ recsL b := by
  induction a with
  | nil => rfl
  | cons r a ih => simp only [List.cons_append, recsL, ih, List.append_assoc]
theorem recsL_snoc (a : List Rc) (r : Rc) : recsL (a ++ [r]) = recsL a ++ recL r := by
  rw [recsL_append]; simp [recsL]
theorem recsL_len (a : List Rc) (h : ∀ r ∈ a, r.Right) : 3 * a.length ≤ (recsL a).length ∧ (recsL a).length ≤ 19 * a.length := by
  induction a with
  | nil => simp [recsL]
  | cons r a ih =>
    have h1 := recL_len r (h r (by simp))
    have h2 := ih (fun x hx => h x (by simp [hx]))
    simp only [recsL, List.length_append, List.length_cons]
    omega

/-- The record that stands at a place, and where it ends. -/
def rec1 (l : List UInt8) (q : Nat) : Option (Rc × Nat) :=
  match l[q]? with
  | none => none
  | some k =>
    match readV l (q + 1) with
    | none => none
    | some (a, i) =>
      match readV l i with
      | none => none
      | some (c, j) => letI := (Rc.mk (k.toNat / 16 : Nat) (k.toNat % 16 : Nat) a c).decR; if (Rc.mk (k.toNat / 16 : Nat) (k.toNat % 16 : Nat) a c).Right then some (Rc.mk (k.toNat / 16 : Nat) (k.toNat % 16 : Nat) a c, j) else none

theorem drop_at {l : List UInt8} {q : Nat} {k : UInt8} (h : l[q]? = some k) : q < l.length ∧ l.drop q = k :: l.drop (q + 1) := by
  obtain ⟨h1, h2⟩ := List.getElem?_eq_some_iff.1 h
  exact ⟨h1, by rw [← h2]; exact List.drop_eq_getElem_cons h1⟩

theorem rec1_parts {l : List UInt8} {q j : Nat} {r : Rc} (h : rec1 l q = some (r, j)) :
    ∃ (k : UInt8) (a i c : Nat), l[q]? = some k ∧ readV l (q + 1) = some (a, i) ∧ readV l i = some (c, j) ∧ r = Rc.mk (k.toNat / 16 : Nat) (k.toNat % 16 : Nat) a c ∧ r.Right := by
  unfold rec1 at h
  split at h
  · cases h
  rename_i k hk
  split at h
  · cases h
  rename_i a i ha
  split at h
  · cases h
  rename_i c j' hc
  split at h
  · rename_i hr
    cases h
    exact ⟨k, a, i, c, hk, ha, hc, rfl, hr⟩
  · cases h

theorem rec1_cut {l : List UInt8} {q j : Nat} {r : Rc} (h : rec1 l q = some (r, j)) : r.Right ∧ q < l.length ∧ q < j ∧ j ≤ l.length ∧ l.drop q = recL r ++ l.drop j := by
  obtain ⟨k, a, i, c, hk, ha, hc, rfl, hr⟩ := rec1_parts h
  obtain ⟨h1, h2⟩ := drop_at hk
  have e1 := readV_cut _ _ _ _ ha
  have e2 := readV_cut _ _ _ _ hc
  have l1 := readV_le l (q + 1) a i (by omega) ha
  have l2 := readV_le l i c j (by omega) hc
  have e : UInt8.ofNat (16 * ((k.toNat / 16 : Nat) : Int) + ((k.toNat % 16 : Nat) : Int)).toNat = k := by
    have : (16 * ((k.toNat / 16 : Nat) : Int) + ((k.toNat % 16 : Nat) : Int)).toNat = k.toNat := by omega
    rw [this]; exact UInt8.ofNat_toNat
  have cut : l.drop q = recL (Rc.mk (k.toNat / 16 : Nat) (k.toNat % 16 : Nat) a c) ++ l.drop j := by
    rw [h2, e1, e2]
    simp only [recL, e, Int.toNat_natCast, List.cons_append, List.append_assoc]
  refine ⟨hr, h1, ?_, by omega, cut⟩
  have hl := recL_len _ hr
  have := congrArg List.length cut
  simp only [List.length_append, List.length_drop] at this
  omega

theorem rec1_of {l : List UInt8} {q : Nat} {r : Rc} {t : List UInt8} (hr : r.Right) (h : l.drop q = recL r ++ t) : rec1 l q = some (r, q + (recL r).length) ∧ l.drop (q + (recL r).length) = t := by
  have hb := hr
  obtain ⟨h1, h2⟩ := hb
  have hk : l[q]? = some (UInt8.ofNat (16 * r.kind + r.vol).toNat) := by
    have : (l.drop q)[0]? = some (UInt8.ofNat (16 * r.kind + r.vol).toNat) := by rw [h]; rfl
    rw [List.getElem?_drop] at this
    simpa using this
  have h3 : l.drop (q + 1) = varL r.arg.toNat ++ (varL r.chunk.toNat ++ t) := by
    rw [← List.drop_drop, h]
    simp [recL]
  obtain ⟨ha, h4⟩ := readV_of l (q + 1) r.arg.toNat _ (by omega) h3
  obtain ⟨hc, h5⟩ := readV_of l _ r.chunk.toNat _ (by omega) h4
  have en : (UInt8.ofNat (16 * r.kind + r.vol).toNat).toNat = (16 * r.kind + r.vol).toNat := by rw [UInt8.toNat_ofNat']; omega
  have er : Rc.mk ((UInt8.ofNat (16 * r.kind + r.vol).toNat).toNat / 16 : Nat) ((UInt8.ofNat (16 * r.kind + r.vol).toNat).toNat % 16 : Nat) (r.arg.toNat : Nat) (r.chunk.toNat : Nat) = r := by
    rw [en]
    cases r
    simp only [Rc.mk.injEq]
    simp only at h1 h2
    omega
  have el : q + (recL r).length = q + 1 + (varL r.arg.toNat).length + (varL r.chunk.toNat).length := by simp only [recL, List.length_cons, List.length_append]; omega
  constructor
  · unfold rec1
    rw [hk]
    simp only [ha, hc, el]
    rw [er, if_pos hr]
  · rw [el]; exact h5

/-- All the records of a place on. -/
def recsF (l : List UInt8) : Nat → Nat → Option (List Rc)
  | 0, _ => none
  | f + 1, q => if l.length ≤ q then some [] else
    match rec1 l q with
    | none => none
    | some (r, j) => (recsF l f j).map (r :: ·)
def recs (l : List UInt8) (q : Nat) : Option (List Rc) := recsF l (l.length - q + 1) q
theorem recsF_any (l : List UInt8) : ∀ (f q : Nat), l.length - q + 1 ≤ f → recsF l f q = recs l q := by
  intro f
  induction f using Nat.strongRecOn with
  | ind f ih =>
    intro q h
    cases f with
    | zero => omega
    | succ f =>
      unfold recs
      simp only [recsF]
      split
      · rfl
      · cases e : rec1 l q with
        | none => rfl
        | some x =>
          obtain ⟨r, j⟩ := x
          obtain ⟨-, h1, h2, h3, -⟩ := rec1_cut e
          simp only
          rw [ih f (by omega) j (by omega)]
          by_cases hf : l.length - q = f
          · rw [hf, ih f (by omega) j (by omega)]
          · rw [ih (l.length - q) (by omega) j (by omega)]
theorem recs_end {l : List UInt8} {q : Nat} (h : l.length ≤ q) : recs l q = some [] := by
  unfold recs; simp only [recsF, if_pos h]
theorem recs_none {l : List UInt8} {q : Nat} (h : q < l.length) (h1 : rec1 l q = none) : recs l q = none := by
  unfold recs; simp only [recsF, if_neg (Nat.not_le.2 h), h1]
theorem recs_some {l : List UInt8} {q j : Nat} {r : Rc} (h1 : rec1 l q = some (r, j)) : recs l q = (recs l j).map (r :: ·) := by
  obtain ⟨-, a, b, c, -⟩ := rec1_cut h1
  unfold recs
  simp only [recsF, if_neg (Nat.not_le.2 a), h1]
  rw [recsF_any l (l.length - q) j (by omega)]
  rfl

/-- What was written is read back. -/
theorem recs_of : ∀ (x : List Rc) (l : List UInt8) (q : Nat), (∀ r ∈ x, r.Right) → l.drop q = recsL x → recs l q = some x := by
  intro x
  induction x with
  | nil =>
    intro l q _ h
    have := congrArg List.length h
    simp only [recsL, List.length_drop, List.length_nil] at this
    exact recs_end (by omega)
  | cons r x ih =>
    intro l q hr h
    obtain ⟨h1, h2⟩ := rec1_of (hr r (by simp)) (by simpa only [recsL] using h)
    rw [recs_some h1, ih l _ (fun y hy => hr y (by simp [hy])) h2]
    rfl
/-- What is read was so written. -/
theorem recs_back : ∀ (x : List Rc) (l : List UInt8) (q : Nat), recs l q = some x → (∀ r ∈ x, r.Right) ∧ l.drop q = recsL x := by
  intro x
  induction x with
  | nil =>
    intro l q h
    refine ⟨by simp, ?_⟩
    by_cases hq : l.length ≤ q
    · exact List.drop_eq_nil_of_le hq
    · cases e : rec1 l q with
      | none => rw [recs_none (by omega) e] at h; cases h
      | some y =>
        obtain ⟨r, j⟩ := y
        rw [recs_some e] at h
        cases e2 : recs l j with
        | none => rw [e2] at h; cases h
        | some z => rw [e2] at h; simp at h
  | cons r x ih =>
    intro l q h
    by_cases hq : l.length ≤ q
    · rw [recs_end hq] at h; simp at h
    · cases e : rec1 l q with
      | none => rw [recs_none (by omega) e] at h; cases h
      | some y =>
        obtain ⟨r', j⟩ := y
        rw [recs_some e] at h
        cases e2 : recs l j with
        | none => rw [e2] at h; cases h
        | some z =>
          rw [e2] at h
          simp at h
          obtain ⟨rfl, rfl⟩ := h
          obtain ⟨h1, h2⟩ := ih l j e2
          obtain ⟨h3, -, -, -, h4⟩ := rec1_cut e
          refine ⟨?_, ?_⟩
          · intro y hy
            rcases List.mem_cons.1 hy with rfl | hy
            · exact h3
            · exact h1 y hy
          · rw [h4, h2]; rfl

end Go.Proofs.YtcjgjkejhkhknabGreatDoor.Words

/-
  What there is, in plain words: no Go in them.
-/
namespace Go.Proofs.YtcjgjkejhkhknabGreatDoor
namespace Words

/-- Volumes (number and root), knots, the next chunk's number. -/
structure Sto where
  vols : List (Int × Int)
  kns : List Kn
  next : Int
def rootsV (l : List (Int × Int)) : List Int := l.map (·.2)
def stoNew : Sto := ⟨[], [], 1⟩
/-- Is the volume ahead of the i'th below? -/
def ascB (s : Sto) (i : Nat) (id : Int) : Bool := match i with
  | 0 => true
  | j + 1 => match s.vols[j]? with
    | some u => decide (u.1 < id)
    | none => true
/-- Are the numbers of the first k sectors below the next one? -/
def lessB (s : Sto) (r : Int) (k : Nat) : Bool := (List.range k).all (fun j => decide (getP s.kns r j < s.next))
def volB (s : Sto) (i : Nat) (v : Int × Int) : Bool := ((decide (1 ≤ v.1) && decide (v.1 ≤ 9)) && ascB s i v.1) && (rootB s.kns v.2 && lessB s v.2 16)
/-- The first k volumes are right. -/
def volsK (s : Sto) : Nat → Bool
  | 0 => true
  | k + 1 => volsK s k && (match s.vols[k]? with | some v => volB s k v | none => true)
def stoB (s : Sto) : Bool := ((decide (s.vols.length ≤ 3) && arB s.kns) && (decide (1 ≤ s.next) && decide (s.next ≤ 1000000000))) && (volsK s s.vols.length && decide ((sweepL s.kns (rootsV s.vols)).length = s.kns.length))
theorem volsK_succ {s : Sto} {k : Nat} {v : Int × Int} (h : s.vols[k]? = some v) : volsK s (k + 1) = (volsK s k && volB s k v) := by rw [volsK, h]
theorem volsK_le {s : Sto} {j k : Nat} (h : j ≤ k) (hk : volsK s k = true) : volsK s j = true := by
  induction k with
  | zero => have : j = 0 := by omega
            subst this; exact hk
  | succ k ih =>
    rw [volsK, Bool.and_eq_true] at hk
    by_cases e : j = k + 1
    · subst e; rw [volsK, Bool.and_eq_true]; exact hk
    · exact ih (by omega) hk.1
theorem volsK_at {s : Sto} (h : volsK s s.vols.length = true) {i : Nat} {v : Int × Int} (hi : s.vols[i]? = some v) : volB s i v = true := by
  have hl := (List.getElem?_eq_some_iff.1 hi).1
  have := volsK_le (show i + 1 ≤ s.vols.length by omega) h
  rw [volsK_succ hi, Bool.and_eq_true] at this
  exact this.2
theorem volsK_bad {s : Sto} {i : Nat} {v : Int × Int} (hi : s.vols[i]? = some v) (hv : volB s i v = false) : volsK s s.vols.length = false := by
  cases h : volsK s s.vols.length with
  | false => rfl
  | true => rw [volsK_at h hi] at hv; cases hv
theorem volsK_of {s : Sto} (h : ∀ i v, s.vols[i]? = some v → volB s i v = true) : ∀ k, k ≤ s.vols.length → volsK s k = true := by
  intro k
  induction k with
  | zero => intro _; rfl
  | succ k ih =>
    intro hk
    have e := List.getElem?_eq_getElem (show k < s.vols.length by omega)
    rw [volsK_succ e, ih (by omega), h k _ e]
    rfl
theorem swN_full {u : Nat → Bool} {n : Nat} (h : swN u n = n) : ∀ j, j < n → u j = true := by
  induction n with
  | zero => intro j hj; omega
  | succ n ih =>
    rw [swN_succ] at h
    have h1 := swN_le u n
    cases hu : u n with
    | false => rw [hu, if_neg (by decide)] at h; omega
    | true =>
      rw [hu, if_pos rfl] at h
      intro j hj
      by_cases e : j = n
      · subst e; exact hu
      · exact ih (by omega) j (by omega)

/-- A store that is right, but for knots that no volume has. -/
structure Sto.Near (s : Sto) : Prop where
  few : s.vols.length ≤ 3
  ar : arB s.kns = true
  nx : 1 ≤ s.next ∧ s.next ≤ 1000000000
  ids : ∀ v ∈ s.vols, 1 ≤ v.1 ∧ v.1 ≤ 9
  asc : s.vols.Pairwise (fun u v => u.1 < v.1)
  root : ∀ v ∈ s.vols, rootB s.kns v.2 = true
  less : ∀ v ∈ s.vols, ∀ k : Nat, k ≤ 15 → getP s.kns v.2 k < s.next
structure Sto.Right (s : Sto) : Prop extends Sto.Near s where
  used : ∀ j, j < s.kns.length → swU s.kns (rootsV s.vols) j = true
theorem Sto.Near.trs {s : Sto} (h : s.Near) : TrsOk s.kns (rootsV s.vols) := ⟨h.ar, fun r hr => by
  obtain ⟨v, hv, rfl⟩ := List.mem_map.1 hr
  exact h.root v hv⟩
theorem pair_of {l : List (Int × Int)} (h : ∀ i u v, l[i]? = some u → l[i + 1]? = some v → u.1 < v.1) : l.Pairwise (fun u v => u.1 < v.1) := by
  have step : ∀ d i u v, l[i]? = some u → l[i + d + 1]? = some v → u.1 < v.1 := by
    intro d
    induction d with
    | zero => intro i u v h1 h2; exact h i u v h1 h2
    | succ d ih =>
      intro i u v h1 h2
      have hl := (List.getElem?_eq_some_iff.1 h2).1
      have e := List.getElem?_eq_getElem (show i + d + 1 < l.length by omega)
      have a := ih i u _ h1 e
      have b := h (i + d + 1) _ v e (by rw [show i + d + 1 + 1 = i + (d + 1) + 1 by omega]; exact h2)
      omega
  rw [List.pairwise_iff_getElem]
  intro i j hi hj hij
  refine step (j - i - 1) i _ _ (List.getElem?_eq_getElem hi) ?_
  rw [show i + (j - i - 1) + 1 = j by omega]
  exact List.getElem?_eq_getElem hj
theorem lessB_iff {s : Sto} {r : Int} : lessB s r 16 = true ↔ ∀ k : Nat, k ≤ 15 → getP s.kns r k < s.next := by
  rw [lessB, List.all_eq_true]
  constructor
  · intro h k hk
    have := h k (List.mem_range.2 (by omega))
    simpa using this
  · intro h k hk
    have := h k (by have := List.mem_range.1 hk; omega)
    simpa using this
theorem stoB_iff (s : Sto) : stoB s = true ↔ s.Right := by
  unfold stoB
  simp only [Bool.and_eq_true, dcT]
  constructor
  · rintro ⟨⟨⟨h1, h2⟩, h3⟩, h4, h5⟩
    have vb : ∀ i v, s.vols[i]? = some v → ((1 ≤ v.1 ∧ v.1 ≤ 9) ∧ ascB s i v.1 = true) ∧ rootB s.kns v.2 = true ∧ lessB s v.2 16 = true := by
      intro i v hi
      have := volsK_at h4 hi
      rw [volB] at this
      simpa only [Bool.and_eq_true, dcT] using this
    have mb : ∀ v ∈ s.vols, (1 ≤ v.1 ∧ v.1 ≤ 9) ∧ rootB s.kns v.2 = true ∧ lessB s v.2 16 = true := by
      intro v hv
      obtain ⟨i, hi, e⟩ := List.mem_iff_getElem.1 hv
      have := vb i v (by rw [← e]; exact List.getElem?_eq_getElem hi)
      exact ⟨this.1.1, this.2⟩
    have nr : s.Near := by
      refine ⟨h1, h2, h3, fun v hv => (mb v hv).1, pair_of ?_, fun v hv => (mb v hv).2.1, fun v hv => lessB_iff.1 (mb v hv).2.2⟩
      intro i u v hu hv
      have := (vb (i + 1) v hv).1.2
      rw [ascB, hu] at this
      simpa using this
    refine ⟨nr, ?_⟩
    rw [sweepL, if_pos (swB_of nr.trs), swL_len] at h5
    exact swN_full h5
  · intro h
    refine ⟨⟨⟨h.few, h.ar⟩, h.nx⟩, volsK_of ?_ _ (Nat.le_refl _), ?_⟩
    · intro i v hi
      have hm := List.mem_of_getElem? hi
      rw [volB]
      simp only [Bool.and_eq_true, dcT]
      refine ⟨⟨h.ids v hm, ?_⟩, h.root v hm, lessB_iff.2 (h.less v hm)⟩
      cases i with
      | zero => rfl
      | succ j =>
        have hl := (List.getElem?_eq_some_iff.1 hi).1
        have e := List.getElem?_eq_getElem (show j < s.vols.length by omega)
        rw [ascB, e]
        have := (List.pairwise_iff_getElem.1 h.asc) j (j + 1) (by omega) hl (by omega)
        rw [(List.getElem?_eq_some_iff.1 hi).2] at this
        simpa using this
    · rw [sweepL, if_pos (swB_of h.trs), swL_len]
      exact swN_all h.used _ (Nat.le_refl _)

/-- Where a volume is, among the first k. -/
def atK (l : List (Int × Int)) (id : Int) : Nat → Option Nat
  | 0 => none
  | k + 1 => match atK l id k with
    | some j => some j
    | none => match l[k]? with
      | some v => if v.1 = id then some k else none
      | none => none
def atV (l : List (Int × Int)) (id : Int) : Option Nat := atK l id l.length
theorem atK_some {l : List (Int × Int)} {id : Int} {k j : Nat} (h : atK l id k = some j) : j < k ∧ ∃ v, l[j]? = some v ∧ v.1 = id := by
  induction k with
  | zero => cases h
  | succ k ih =>
    rw [atK] at h
    cases e : atK l id k with
    | some i =>
      rw [e] at h
      injection h with h
      subst h
      obtain ⟨h1, h2⟩ := ih e
      exact ⟨by omega, h2⟩
    | none =>
      rw [e] at h
      simp only at h
      split at h
      · rename_i v hv
        split at h
        · rename_i hid
          injection h with h
          subst h
          exact ⟨by omega, v, hv, hid⟩
        · cases h
      · cases h
theorem atK_none {l : List (Int × Int)} {id : Int} {k : Nat} (h : atK l id k = none) : ∀ j v, j < k → l[j]? = some v → v.1 ≠ id := by
  induction k with
  | zero => intro j v hj; omega
  | succ k ih =>
    rw [atK] at h
    cases e : atK l id k with
    | some i => rw [e] at h; cases h
    | none =>
      rw [e] at h
      simp only at h
      intro j v hj hv
      by_cases ej : j = k
      · subst ej
        rw [hv] at h
        simp only at h
        intro hid
        rw [if_pos hid] at h
        cases h
      · exact ih e j v (by omega) hv
theorem atK_no {l : List (Int × Int)} {id : Int} {k : Nat} {v : Int × Int} (h : atK l id k = none) (hv : l[k]? = some v) (hn : v.1 ≠ id) : atK l id (k + 1) = none := by
  rw [atK, h, hv]
  exact if_neg hn
theorem atK_yes {l : List (Int × Int)} {id : Int} {k : Nat} {v : Int × Int} (h : atK l id k = none) (hv : l[k]? = some v) (hn : v.1 = id) : ∀ m, k < m → atK l id m = some k := by
  intro m
  induction m with
  | zero => intro h; omega
  | succ m ih =>
    intro hm
    by_cases e : m = k
    · subst e
      rw [atK, h, hv]
      exact if_pos hn
    · rw [atK, ih (by omega)]
theorem atV_some {l : List (Int × Int)} {id : Int} {j : Nat} (h : atV l id = some j) : ∃ v, l[j]? = some v ∧ v.1 = id := (atK_some h).2
theorem atV_none {l : List (Int × Int)} {id : Int} (h : atV l id = none) : ∀ v ∈ l, v.1 ≠ id := by
  intro v hv
  obtain ⟨i, hi, e⟩ := List.mem_iff_getElem.1 hv
  exact atK_none h i v hi (by rw [← e]; exact List.getElem?_eq_getElem hi)
theorem atV_of {l : List (Int × Int)} {id : Int} {v : Int × Int} (hv : v ∈ l) (e : v.1 = id) : ∃ j, atV l id = some j := by
  cases h : atV l id with
  | some j => exact ⟨j, rfl⟩
  | none => exact absurd e (atV_none h v hv)
/-- The root of a volume. -/
def rootV (l : List (Int × Int)) (id : Int) : Option Int := (atV l id).bind (fun k => (l[k]?).map (·.2))

/-- Without knots that are not needed. -/
def sweptS (s : Sto) : Sto := ⟨List.zipWith (fun v r => (v.1, r)) s.vols (sweepR s.kns (rootsV s.vols)), sweepL s.kns (rootsV s.vols), s.next⟩
def insV (l : List (Int × Int)) (id r : Int) : List (Int × Int) := l.filter (fun v => decide (v.1 < id)) ++ (id, r) :: l.filter (fun v => decide (id < v.1))
def volE (s : Sto) (r : Rc) : Sto × Bool :=
  match (if 0 < r.arg then rootV s.vols r.arg else some (-1)) with
  | none => (s, false)
  | some q => if (atV s.vols r.vol).isSome || decide (s.vols.length = 3) then (s, false) else (⟨insV s.vols r.vol q, s.kns, s.next⟩, true)
def dropE (s : Sto) (k : Nat) : Sto := sweptS ⟨s.vols.take k ++ s.vols.drop (k + 1), s.kns, s.next⟩
def putE (s : Sto) (k : Nat) (v : Int × Int) (r : Rc) : Sto := sweptS ⟨s.vols.set k (v.1, putR s.kns v.2 r.arg r.chunk), putL s.kns v.2 r.arg r.chunk, if s.next ≤ r.chunk then r.chunk + 1 else s.next⟩
def enterS (s : Sto) (r : Rc) : Sto × Bool :=
  letI := r.decR
  if stoB s = true ∧ r.Right then
    if r.kind = 1 then (⟨[], [], if r.arg = 0 then 1 else r.arg⟩, true)
    else if r.kind = 2 then volE s r
    else match atV s.vols r.vol with
      | none => (s, false)
      | some k => if r.chunk = 1000000000 then (s, false) else if r.kind = 3 then (dropE s k, true) else (putE s k ((s.vols[k]?).getD (0, 0)) r, true)
  else (s, false)
def enterGo : Sto → List Rc → Option Sto
  | s, [] => some s
  | s, r :: l => if (enterS s r).2 = true then enterGo (enterS s r).1 l else none
def enterAllS (s : Sto) (l : List Rc) : Sto × Bool := match enterGo s l with
  | some n => (n, true)
  | none => (s, false)
def chunkS (s : Sto) (vol sector : Int) : Int := match rootV s.vols vol with
  | some r => getT s.kns r sector
  | none => 0
def refsS (s : Sto) (chunk : Int) : Nat := if 0 < chunk then (s.vols.map (fun v => (allT s.kns v.2).count chunk)).sum else 0
/-- A number above 0 put into an ascending list, once. -/
def insI (l : List Int) (x : Int) : List Int := l.filter (fun y => decide (y < x)) ++ (if 0 < x then [x] else []) ++ l.filter (fun y => decide (x < y))
def liveS (s : Sto) : List Int := s.vols.foldl (fun acc v => (allT s.kns v.2).foldl insI acc) []
def baseK (id : Int) (L : List Int) (k : Nat) : List Rc := (List.range k).filterMap (fun (j : Nat) => if 0 < (L[j]?).getD 0 then some ⟨4, id, (j : Int), (L[j]?).getD 0⟩ else none)
def baseV (l : List Kn) (v : Int × Int) : List Rc := ⟨2, v.1, 0, 0⟩ :: baseK v.1 (allT l v.2) 16
def baseS (s : Sto) : List Rc := ⟨1, 0, s.next, 0⟩ :: s.vols.flatMap (baseV s.kns)
/-- What a store tells: numbers of volumes, with what their sectors have. -/
def tellS (s : Sto) : List (Int × List Int) := s.vols.map (fun v => (v.1, allT s.kns v.2))
def sameS (a b : Sto) : Bool := decide (tellS a = tellS b) && decide (a.next = b.next)

/-- A store that is swept tells what it told, and is right. -/
theorem swept_vols {s : Sto} (h : s.Near) : (sweptS s).vols = s.vols.map (fun v => (v.1, swP (swU s.kns (rootsV s.vols)) v.2)) := by
  show List.zipWith _ _ _ = _
  rw [sweepR, if_pos (swB_of h.trs)]
  generalize swP (swU s.kns (rootsV s.vols)) = f
  unfold rootsV
  generalize s.vols = l
  induction l with
  | nil => rfl
  | cons v l ih => simp only [List.map_cons, List.zipWith_cons_cons, ih]
theorem swept_kns {s : Sto} (h : s.Near) : (sweptS s).kns = swL s.kns (rootsV s.vols) := by
  show sweepL _ _ = _
  rw [sweepL, if_pos (swB_of h.trs)]
theorem swept_roots {s : Sto} (h : s.Near) : rootsV (sweptS s).vols = (rootsV s.vols).map (swP (swU s.kns (rootsV s.vols))) := by
  rw [swept_vols h]
  unfold rootsV
  rw [List.map_map, List.map_map]
  rfl
theorem swept_right {s : Sto} (h : s.Near) : (sweptS s).Right := by
  have hm : ∀ v ∈ s.vols, v.2 ∈ rootsV s.vols := fun v hv => List.mem_map.2 ⟨v, hv, rfl⟩
  refine ⟨⟨?_, ?_, h.nx, ?_, ?_, ?_, ?_⟩, ?_⟩
  · rw [swept_vols h, List.length_map]; exact h.few
  · rw [swept_kns h]; exact sw_right h.trs
  · rw [swept_vols h]
    intro v hv
    obtain ⟨u, hu, rfl⟩ := List.mem_map.1 hv
    exact h.ids u hu
  · rw [swept_vols h, List.pairwise_map]; exact h.asc
  · rw [swept_vols h, swept_kns h]
    intro v hv
    obtain ⟨u, hu, rfl⟩ := List.mem_map.1 hv
    exact sw_root h.trs (hm u hu)
  · rw [swept_vols h, swept_kns h]
    intro v hv k hk
    obtain ⟨u, hu, rfl⟩ := List.mem_map.1 hv
    show getP _ _ k < s.next
    rw [sw_get h.trs (hm u hu) hk]
    exact h.less u hu k hk
  · rw [swept_roots h, swept_kns h]
    intro j hj
    exact sw_used h.trs hj
theorem swept_tell {s : Sto} (h : s.Near) : tellS (sweptS s) = tellS s := by
  unfold tellS
  rw [swept_vols h, swept_kns h, List.map_map]
  refine List.map_congr_left fun v hv => ?_
  show (v.1, _) = (v.1, _)
  rw [sw_all h.trs (List.mem_map.2 ⟨v, hv, rfl⟩)]
end Words
end Go.Proofs.YtcjgjkejhkhknabGreatDoor

/-
  What records do to a store, in plain words.
-/
namespace Go.Proofs.YtcjgjkejhkhknabGreatDoor
namespace Words

theorem insV_len {l : List (Int × Int)} {id r : Int} (h : ∀ v ∈ l, v.1 ≠ id) : (insV l id r).length = l.length + 1 := by
  rw [insV, List.length_append, List.length_cons]
  have key : (l.filter (fun v => decide (v.1 < id))).length + (l.filter (fun v => decide (id < v.1))).length = l.length := by
    induction l with
    | nil => rfl
    | cons v l ih =>
      have i := ih (fun u hu => h u (List.mem_cons_of_mem _ hu))
      have hv := h v List.mem_cons_self
      rw [List.filter_cons, List.filter_cons]
      by_cases hlt : v.1 < id
      · rw [if_pos (by simpa using hlt), if_neg (by simp; omega), List.length_cons, List.length_cons]; omega
      · rw [if_neg (by simpa using hlt), if_pos (by simp; omega), List.length_cons, List.length_cons]; omega
  omega
theorem insV_mem {l : List (Int × Int)} {id r : Int} {v : Int × Int} (h : v ∈ insV l id r) : v = (id, r) ∨ v ∈ l := by
  rw [insV, List.mem_append, List.mem_cons, List.mem_filter, List.mem_filter] at h
  rcases h with h | h | h
  · exact .inr h.1
  · exact .inl h
  · exact .inr h.1
theorem insV_old {l : List (Int × Int)} {id r : Int} {v : Int × Int} (h : v ∈ l) (hn : v.1 ≠ id) : v ∈ insV l id r := by
  rw [insV, List.mem_append, List.mem_cons, List.mem_filter, List.mem_filter]
  by_cases hlt : v.1 < id
  · exact .inl ⟨h, by simpa using hlt⟩
  · exact .inr (.inr ⟨h, by simp; omega⟩)
theorem insV_new {l : List (Int × Int)} {id r : Int} : (id, r) ∈ insV l id r := by
  rw [insV, List.mem_append, List.mem_cons]
  exact .inr (.inl rfl)
theorem insV_asc {l : List (Int × Int)} {id r : Int} (h : l.Pairwise (fun u v => u.1 < v.1)) : (insV l id r).Pairwise (fun u v => u.1 < v.1) := by
  rw [insV, List.pairwise_append, List.pairwise_cons]
  refine ⟨h.filter _, ⟨?_, h.filter _⟩, ?_⟩
  · intro v hv
    simpa using (List.mem_filter.1 hv).2
  · intro u hu v hv
    have h1 : u.1 < id := by simpa using (List.mem_filter.1 hu).2
    rcases List.mem_cons.1 hv with e | e
    · rw [e]; exact h1
    · have : id < v.1 := by simpa using (List.mem_filter.1 e).2
      omega
/-- A volume more. -/
theorem ins_right {s : Sto} (h : s.Right) {id q : Int} (hid : 1 ≤ id ∧ id ≤ 9) (hn : ∀ v ∈ s.vols, v.1 ≠ id) (hl : s.vols.length < 3) (hq : rootB s.kns q = true) (hg : ∀ k : Nat, k ≤ 15 → getP s.kns q k < s.next) : (Sto.mk (insV s.vols id q) s.kns s.next).Right := by
  refine ⟨⟨?_, h.ar, h.nx, ?_, insV_asc h.asc, ?_, ?_⟩, ?_⟩
  · show (insV s.vols id q).length ≤ 3
    rw [insV_len hn]; omega
  · intro v hv
    rcases insV_mem hv with e | e
    · rw [e]; exact hid
    · exact h.ids v e
  · intro v hv
    rcases insV_mem hv with e | e
    · rw [e]; exact hq
    · exact h.root v e
  · intro v hv
    rcases insV_mem hv with e | e
    · rw [e]; exact hg
    · exact h.less v e
  · intro j hj
    have := h.used j hj
    rw [swU, List.any_eq_true] at this ⊢
    obtain ⟨r, hr, hb⟩ := this
    obtain ⟨v, hv, rfl⟩ := List.mem_map.1 hr
    exact ⟨v.2, List.mem_map.2 ⟨v, insV_old hv (hn v hv), rfl⟩, hb⟩
/-- A volume less. -/
theorem drop_near {s : Sto} (h : s.Near) (k : Nat) : (Sto.mk (s.vols.take k ++ s.vols.drop (k + 1)) s.kns s.next).Near := by
  have sub : (s.vols.take k ++ s.vols.drop (k + 1)).Sublist s.vols := by
    rw [← List.eraseIdx_eq_take_drop_succ]
    exact List.eraseIdx_sublist _ _
  exact ⟨Nat.le_trans sub.length_le h.few, h.ar, h.nx, fun v hv => h.ids v (sub.subset hv), h.asc.sublist sub, fun v hv => h.root v (sub.subset hv), fun v hv => h.less v (sub.subset hv)⟩
theorem set_ids {l : List (Int × Int)} {k : Nat} {v : Int × Int} {q : Int} (hk : l[k]? = some v) : (l.set k (v.1, q)).map (·.1) = l.map (·.1) := by
  rw [List.map_set]
  obtain ⟨h1, h2⟩ := List.getElem?_eq_some_iff.1 hk
  have : (l.map (·.1))[k]'(by simpa using h1) = v.1 := by rw [List.getElem_map, h2]
  show (l.map (·.1)).set k v.1 = _
  rw [← this]
  exact List.set_getElem_self _
/-- A sector put. -/
theorem put_near {s : Sto} (h : s.Near) {k : Nat} {v : Int × Int} (hk : s.vols[k]? = some v) {i : Nat} {c : Int} (hi : i ≤ 15) (h0 : 0 ≤ c) (hc : c < 1000000000) :
    (Sto.mk (s.vols.set k (v.1, putR s.kns v.2 (i : Int) c)) (putL s.kns v.2 (i : Int) c) (if s.next ≤ c then c + 1 else s.next)).Near ∧
      tellS (Sto.mk (s.vols.set k (v.1, putR s.kns v.2 (i : Int) c)) (putL s.kns v.2 (i : Int) c) (if s.next ≤ c then c + 1 else s.next)) = (tellS s).set k (v.1, (allT s.kns v.2).set i c) := by
  have hm := List.mem_of_getElem? hk
  have ht : TrOk s.kns v.2 := ⟨h.ar, h.root v hm⟩
  obtain ⟨e1, e2⟩ := pt_put (n := c) ht hi h0
  rw [e1, e2]
  have hn : s.next ≤ (if s.next ≤ c then c + 1 else s.next) ∧ c < (if s.next ≤ c then c + 1 else s.next) ∧ (if s.next ≤ c then c + 1 else s.next) ≤ 1000000000 := by
    have := h.nx
    split <;> omega
  generalize (if s.next ≤ c then c + 1 else s.next) = nx at hn ⊢
  have hnx := h.nx
  refine ⟨⟨by show (s.vols.set k _).length ≤ 3; rw [List.length_set]; exact h.few, (pt_ok ht hi h0).1, ⟨by show 1 ≤ nx; omega, hn.2.2⟩, ?_, ?_, ?_, ?_⟩, ?_⟩
  · intro u hu
    rcases List.mem_or_eq_of_mem_set hu with e | e
    · exact h.ids u e
    · rw [e]; exact h.ids v hm
  · have := h.asc
    rw [← List.pairwise_map (f := fun (x : Int × Int) => x.1) (R := fun a b => a < b)] at this ⊢
    show ((s.vols.set k _).map _).Pairwise _
    rw [set_ids hk]
    exact this
  · intro u hu
    rcases List.mem_or_eq_of_mem_set hu with e | e
    · exact (pt_old ht hi h0 (h.root u e)).2
    · rw [e]; exact (pt_ok ht hi h0).2
  · intro u hu j hj
    show getP (pt s.kns v.2 i c) u.2 j < nx
    rcases List.mem_or_eq_of_mem_set hu with e | e
    · have a := pt_keep ht hi h0 (h.root u e) hj
      rw [getT_ok (pt_old ht hi h0 (h.root u e)) hj, getT_ok ⟨h.ar, h.root u e⟩ hj] at a
      rw [a]
      have := h.less u e j hj
      omega
    · rw [e]
      have a := pt_get ht hi h0 hj
      rw [getT_ok (pt_ok ht hi h0) hj, getT_ok ht hj] at a
      rw [a]
      split
      · omega
      · have := h.less v hm j hj
        omega
  · unfold tellS
    show (s.vols.set k _).map _ = _
    rw [List.map_set]
    have ea : s.vols.map (fun u => (u.1, allT (pt s.kns v.2 i c) u.2)) = s.vols.map (fun u => (u.1, allT s.kns u.2)) :=
      List.map_congr_left fun u hu => by rw [all_keep ht hi h0 (h.root u hu)]
    rw [ea]
    congr 1
    show (v.1, allT (pt s.kns v.2 i c) (ptR s.kns)) = _
    congr 1
    refine List.ext_getElem? fun j => ?_
    rw [List.getElem?_set]
    unfold allT
    simp only [List.getElem?_map, List.length_map, List.length_range]
    by_cases hj : j < 16
    · rw [List.getElem?_range hj]
      simp only [Option.map_some]
      rw [pt_get ht hi h0 (by omega)]
      by_cases e : i = j
      · subst e
        rw [if_pos rfl, if_pos rfl, if_pos (by omega)]
      · rw [if_neg (Ne.symm e), if_neg e]
    · rw [List.getElem?_eq_none (by simp; omega)]
      simp only [Option.map_none]
      by_cases e : i = j
      · omega
      · rw [if_neg e]
theorem none_less {s : Sto} (h : s.Near) : ∀ k : Nat, k ≤ 15 → getP s.kns (-1) k < s.next := by
  intro k _
  rw [getP, if_pos (by omega)]
  have := h.nx
  omega
theorem root_none (l : List Kn) : rootB l (-1) = true := by simp [rootB]
theorem rootV_some {s : Sto} {id q : Int} (e : rootV s.vols id = some q) : (id, q) ∈ s.vols := by
  rw [rootV] at e
  cases ha : atV s.vols id with
  | none => rw [ha] at e; cases e
  | some k =>
    rw [ha] at e
    obtain ⟨v, hv, hid⟩ := atV_some ha
    simp only [Option.bind_some, hv, Option.map_some, Option.some.injEq] at e
    have := List.mem_of_getElem? hv
    rw [← hid, ← e]
    exact this
theorem new_right : stoNew.Right := by
  refine ⟨⟨by decide, rfl, by decide, ?_, List.Pairwise.nil, ?_, ?_⟩, ?_⟩
  all_goals intro v hv; first | cases hv | (exact absurd hv (Nat.not_lt_zero _))
theorem base_right {n : Int} (h : 1 ≤ n ∧ n ≤ 1000000000) : (Sto.mk [] [] n).Right := by
  refine ⟨⟨by show 0 ≤ 3; omega, rfl, h, ?_, List.Pairwise.nil, ?_, ?_⟩, ?_⟩
  all_goals intro v hv; first | cases hv | (exact absurd hv (Nat.not_lt_zero _))
/-- Whatever record comes, a right store stays right. -/
theorem enter_right {s : Sto} (h : s.Right) (r : Rc) : (enterS s r).1.Right := by
  unfold enterS
  split
  · rename_i hb
    obtain ⟨-, ⟨ha, hr⟩⟩ := hb
    split
    · refine base_right ?_
      split <;> omega
    · rename_i hk1
      split
      · rename_i hk2
        unfold volE
        split
        · exact h
        · rename_i q hq
          split
          · exact h
          · rename_i hc
            simp only [Bool.or_eq_true, decide_eq_true_eq, not_or, Bool.not_eq_true, Option.isSome_eq_false_iff, Option.isNone_iff_eq_none] at hc
            have hf := h.few
            have hqr : rootB s.kns q = true ∧ ∀ k : Nat, k ≤ 15 → getP s.kns q k < s.next := by
              split at hq
              · have hm := rootV_some hq
                exact ⟨h.root _ hm, h.less _ hm⟩
              · injection hq with hq
                subst hq
                exact ⟨root_none _, none_less h.toNear⟩
            exact ins_right h (by omega) (atV_none hc.1) (by omega) hqr.1 hqr.2
      · split
        · exact h
        · rename_i k ha2
          split
          · exact h
          · split
            · exact swept_right (drop_near h.toNear k)
            · rename_i hcn hk3
              obtain ⟨v, hv, -⟩ := atV_some ha2
              rw [hv, Option.getD_some]
              have hi : r.arg.toNat ≤ 15 := by omega
              have := (put_near h.toNear hv (c := r.chunk) hi (by omega) (by omega)).1
              rw [show ((r.arg.toNat : Nat) : Int) = r.arg by omega] at this
              exact swept_right this
  · exact h
end Words
end Go.Proofs.YtcjgjkejhkhknabGreatDoor
