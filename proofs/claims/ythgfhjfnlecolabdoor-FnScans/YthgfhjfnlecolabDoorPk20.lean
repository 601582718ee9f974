/-
  PgMath; IPageOk
-/
import Derived.Test.YthgfhjfnlecolabDoorPk17
import Derived.Test.YthgfhjfnlecolabDoorPk0
/-
  Plain facts on pages and the bytes that they are written in: no Go in them.
-/
namespace Go.Proofs.YthgfhjfnlecolabDoor.Words

structure Pg where
  kind : Int
  seq : Int
  tx : Int
  part : Int
  count : Int
  text : ByteArray

/-- A page that is right. -/
def Pg.Right (p : Pg) : Prop :=
  (p.kind = 1 ∧ p.count = 1 ∧ p.part = 0 ∨ p.kind = 2 ∧ 1 ≤ p.count ∧ p.count ≤ 9 ∧ 0 ≤ p.part ∧ p.part < p.count) ∧ 1 ≤ p.seq ∧ p.seq ≤ 1000000000 ∧ 1 ≤ p.tx ∧ p.tx ≤ 1000000000 ∧ (p.text.size : Int) ≤ 90
instance (p : Pg) : Decidable p.Right := by unfold Pg.Right; infer_instance

def varA (n : Nat) : ByteArray := ⟨(varL n).toArray⟩
def byteA (n : Nat) : ByteArray := ⟨#[UInt8.ofNat n]⟩
/-- The bytes of a page, not yet sealed. -/
def pageA (p : Pg) : ByteArray := ((((byteA p.kind.toNat ++ varA p.seq.toNat) ++ varA p.tx.toNat) ++ varA p.part.toNat) ++ varA p.count.toNat) ++ p.text

theorem pageA_list (p : Pg) : (pageA p).data.toList = UInt8.ofNat p.kind.toNat :: (varL p.seq.toNat ++ (varL p.tx.toNat ++ (varL p.part.toNat ++ (varL p.count.toNat ++ p.text.data.toList)))) := by
  simp [pageA, byteA, varA, ByteArray.data_append]

theorem varA_size (n : Nat) : (varA n).size = (varL n).length := by simp [varA, ByteArray.size]
theorem pageA_size (p : Pg) (h : p.Right) : (pageA p).size ≤ 127 := by
  obtain ⟨h1, h2, h3, h4, h5, h6⟩ := h
  have a := (varL_len p.seq.toNat (by omega)).2
  have b := (varL_len p.tx.toNat (by omega)).2
  have c := (varL_len p.part.toNat (by omega)).2
  have d := (varL_len p.count.toNat (by omega)).2
  have e : (pageA p).size = (pageA p).data.toList.length := rfl
  have f : p.text.size = p.text.data.toList.length := rfl
  rw [e, pageA_list]
  simp only [List.length_cons, List.length_append]
  omega

theorem scan_cut : ∀ (f : Nat) (l r : List UInt8), scan f l = some r → l = r ++ l.drop r.length := by
  intro f
  induction f with
  | zero => intro l r h; simp [scan] at h
  | succ f ih =>
    intro l r h
    cases l with
    | nil => simp [scan] at h
    | cons c l =>
      simp only [scan] at h
      split at h
      · cases h; simp
      · cases e : scan f l with
        | none => simp [e] at h
        | some r' =>
          simp [e] at h
          subst h
          have := ih l r' e
          simp only [List.cons_append, List.length_cons, List.drop_succ_cons]
          rw [← this]
theorem readV_cut (l : List UInt8) (q n j : Nat) (h : readV l q = some (n, j)) : l.drop q = varL n ++ l.drop j := by
  unfold readV at h
  cases e : scan 5 (l.drop q) with
  | none => simp [e] at h
  | some r =>
    have h3 := scan_cut 5 _ _ e
    simp only [e] at h
    split at h
    · rename_i h1
      cases h
      rw [h1.2]
      rw [List.drop_drop] at h3
      exact h3
    · cases h

theorem scan_var : ∀ (f n : Nat) (r : List UInt8), n < 128 ^ (f + 1) → scan (f + 1) (varL n ++ r) = some (varL n) := by
  intro f
  induction f with
  | zero =>
    intro n r h
    have h1 : n < 128 := by simpa using h
    have e : (UInt8.ofNat n).toNat = n := by rw [UInt8.toNat_ofNat']; omega
    rw [varL_low n h1, List.singleton_append, scan, e, if_pos h1]
  | succ f ih =>
    intro n r h
    by_cases h1 : n < 128
    · have e : (UInt8.ofNat n).toNat = n := by rw [UInt8.toNat_ofNat']; omega
      rw [varL_low n h1, List.singleton_append, scan, e, if_pos h1]
    · have e : (UInt8.ofNat (n % 128 + 128)).toNat = n % 128 + 128 := by rw [UInt8.toNat_ofNat']; omega
      have h2 : n / 128 < 128 ^ (f + 1) := by
        rw [Nat.pow_succ] at h
        omega
      rw [varL_high n (by omega), List.cons_append, scan, e, if_neg (by omega), ih (n / 128) r h2]
      rfl
theorem val_var : ∀ (k n : Nat), n ≤ k → valL (varL n) = n := by
  intro k
  induction k with
  | zero =>
    intro n h
    have : n = 0 := by omega
    subst this
    rfl
  | succ k ih =>
    intro n h
    by_cases h1 : n < 128
    · have e : (UInt8.ofNat n).toNat = n := by rw [UInt8.toNat_ofNat']; omega
      rw [varL_low n h1, valL, valL, e]; omega
    · have e : (UInt8.ofNat (n % 128 + 128)).toNat = n % 128 + 128 := by rw [UInt8.toNat_ofNat']; omega
      rw [varL_high n (by omega), valL, e, ih (n / 128) (by omega)]; omega
theorem readV_of (l : List UInt8) (q n : Nat) (r : List UInt8) (hn : n ≤ 1000000000) (h : l.drop q = varL n ++ r) : readV l q = some (n, q + (varL n).length) ∧ l.drop (q + (varL n).length) = r := by
  constructor
  · unfold readV
    rw [h, scan_var 4 n r (by omega)]
    have e := val_var n n (Nat.le_refl _)
    simp only [e]
    rw [if_pos ⟨hn, trivial⟩]
  · rw [← List.drop_drop, h, List.drop_left]

/-- The page that these bytes are, if they are one's. -/
def pgOf (s : ByteArray) : Option Pg :=
  match s.data.toList[0]? with
  | none => none
  | some k =>
    match readV s.data.toList 1 with
    | none => none
    | some (a, i1) =>
      match readV s.data.toList i1 with
      | none => none
      | some (b, i2) =>
        match readV s.data.toList i2 with
        | none => none
        | some (c, i3) =>
          match readV s.data.toList i3 with
          | none => none
          | some (d, i4) => if (Pg.mk k.toNat a b c d (s.extract i4 s.size)).Right then some (Pg.mk k.toNat a b c d (s.extract i4 s.size)) else none

theorem cut_list (s : ByteArray) (i : Nat) : (s.extract i s.size).data.toList = s.data.toList.drop i := by
  simp [ByteArray.data_extract]
  exact List.take_of_length_le (by rw [List.length_drop]; exact Nat.le_refl _)

theorem ba_ext {a b : ByteArray} (h : a.data.toList = b.data.toList) : a = b := ByteArray.ext (Array.toList_inj.1 h)

theorem pg_back {s : ByteArray} {k : UInt8} {a b c d i1 i2 i3 i4 : Nat} (h0 : s.data.toList[0]? = some k) (h1 : readV s.data.toList 1 = some (a, i1)) (h2 : readV s.data.toList i1 = some (b, i2)) (h3 : readV s.data.toList i2 = some (c, i3)) (h4 : readV s.data.toList i3 = some (d, i4)) :
    pageA (Pg.mk k.toNat a b c d (s.extract i4 s.size)) = s := by
  apply ba_ext
  rw [pageA_list, cut_list]
  have e1 := readV_cut _ _ _ _ h1
  have e2 := readV_cut _ _ _ _ h2
  have e3 := readV_cut _ _ _ _ h3
  have e4 := readV_cut _ _ _ _ h4
  simp only [Int.toNat_natCast, ofNat_toNat]
  rw [← e4, ← e3, ← e2, ← e1]
  cases hl : s.data.toList with
  | nil => rw [hl] at h0; cases h0
  | cons x l => rw [hl] at h0; cases h0; simp

theorem pg_read (p : Pg) (h : p.Right) : pgOf (pageA p) = some p := by
  obtain ⟨h1, h2, h3, h4, h5, h6⟩ := id h
  have e := pageA_list p
  have k0 : (pageA p).data.toList[0]? = some (UInt8.ofNat p.kind.toNat) := by rw [e]; rfl
  obtain ⟨k1, l1⟩ := readV_of (pageA p).data.toList 1 p.seq.toNat _ (by omega) (by rw [e]; rfl)
  obtain ⟨k2, l2⟩ := readV_of (pageA p).data.toList _ p.tx.toNat _ (by omega) l1
  obtain ⟨k3, l3⟩ := readV_of (pageA p).data.toList _ p.part.toNat _ (by omega) l2
  obtain ⟨k4, l4⟩ := readV_of (pageA p).data.toList _ p.count.toNat _ (by omega) l3
  unfold pgOf
  rw [k0]
  simp only [k1, k2, k3, k4]
  have et : (pageA p).extract (1 + (varL p.seq.toNat).length + (varL p.tx.toNat).length + (varL p.part.toNat).length + (varL p.count.toNat).length) (pageA p).size = p.text := by
    apply ba_ext
    rw [cut_list, l4]
  have ek : ((UInt8.ofNat p.kind.toNat).toNat : Int) = p.kind := by rw [UInt8.toNat_ofNat']; omega
  have e1 : ((p.seq.toNat : Nat) : Int) = p.seq := by omega
  have e2 : ((p.tx.toNat : Nat) : Int) = p.tx := by omega
  have e3 : ((p.part.toNat : Nat) : Int) = p.part := by omega
  have e4 : ((p.count.toNat : Nat) : Int) = p.count := by omega
  rw [et, ek, e1, e2, e3, e4]
  exact if_pos h
end Go.Proofs.YthgfhjfnlecolabDoor.Words

/-
  impl.PageOk.
-/
namespace Go.Proofs.YthgfhjfnlecolabDoor
open Go.RowKit
open Words

def pgVal (p : Pg) : Value := .agg #[.int .i64 p.kind, .int .i64 p.seq, .int .i64 p.tx, .int .i64 p.part, .int .i64 p.count, .string p.text]

def partP (k q c : Int) : Prop := k = 1 ∧ c = 1 ∧ q = 0 ∨ k = 2 ∧ 1 ≤ c ∧ c ≤ 9 ∧ 0 ≤ q ∧ q < c
instance (k q c : Int) : Decidable (partP k q c) := by unfold partP; infer_instance

set_option maxHeartbeats 400000 in
set_option maxRecDepth 100000 in
theorem ipart_any (k s x q c : Int) (t : ByteArray) (w : World) :
    Calls Tryd.prog 26 #[.agg #[.int .i64 k, .int .i64 s, .int .i64 x, .int .i64 q, .int .i64 c, .string t]] w fun e w' => e = .returned (.bool (decide (partP k q c))) ∧ Below w.heap.size w w' := by
  have HB := hide ((Below.refl w.heap.size w).alloc (Nat.le_refl _) (.cells #[.int .i64 k, .int .i64 s, .int .i64 x, .int .i64 q, .int .i64 c, .string t] 25))
  by_cases h1 : k = 1
  · subst h1
    have HE : Hid (decide (partP 1 q c) = (decide (c = 1) && decide (q = 0))) := by
      show _ = _
      by_cases a : c = 1 <;> by_cases b : q = 0 <;> simp [partP, a, b]
    by_cases a : (c == 1) = true
    · go_enter Tryd.func26, Tryd.ntmps26
      go_wp2
      go_ret
      exact ⟨by rw [HE.out]; simp at a; by_cases b : q = 0 <;> simp [a, b], HB.out⟩
    · have a : (c == 1) = false := by simpa using a
      go_enter Tryd.func26, Tryd.ntmps26
      go_wp2
      go_ret
      exact ⟨by rw [HE.out]; simp at a; by_cases b : q = 0 <;> simp [a, b], HB.out⟩
  · have h1' : (k == 1) = false := by simpa using h1
    by_cases h2 : k = 2
    · subst h2
      have HE : Hid (decide (partP 2 q c) = decide (1 ≤ c ∧ c ≤ 9 ∧ 0 ≤ q ∧ q < c)) := by
        show _ = _
        simp [partP]
      clear h1 h1'
      by_cases a1 : 1 ≤ c
      · by_cases a2 : c ≤ 9
        · by_cases a3 : 0 ≤ q
          · go_enter Tryd.func26, Tryd.ntmps26
            go_wp2
            go_ret
            exact ⟨by rw [HE.out]; simp [a1, a2, a3], HB.out⟩
          · go_enter Tryd.func26, Tryd.ntmps26
            go_wp2
            go_ret
            exact ⟨by rw [HE.out]; simp; omega, HB.out⟩
        · go_enter Tryd.func26, Tryd.ntmps26
          go_wp2
          go_ret
          exact ⟨by rw [HE.out]; simp; omega, HB.out⟩
      · go_enter Tryd.func26, Tryd.ntmps26
        go_wp2
        go_ret
        exact ⟨by rw [HE.out]; simp; omega, HB.out⟩
    · have h2' : (k == 2) = false := by simpa using h2
      have HE : Hid (decide (partP k q c) = false) := by
        show _ = _
        simp [partP, h1, h2]
      clear h1 h2
      go_enter Tryd.func26, Tryd.ntmps26
      go_wp2
      go_ret
      exact ⟨by rw [HE.out]; rfl, HB.out⟩

theorem right_eq (k s x q c : Int) (t : ByteArray) : (Pg.mk k s x q c t).Right ↔ (1 ≤ s ∧ s ≤ 1000000000 ∧ 1 ≤ x ∧ x ≤ 1000000000) ∧ partP k q c ∧ (t.size : Int) ≤ 90 := by
  unfold Pg.Right partP
  simp only
  constructor
  · rintro ⟨h, h1, h2, h3, h4, h5⟩; exact ⟨⟨h1, h2, h3, h4⟩, h, h5⟩
  · rintro ⟨⟨h1, h2, h3, h4⟩, h, h5⟩; exact ⟨h, h1, h2, h3, h4, h5⟩

set_option maxHeartbeats 400000 in
set_option maxRecDepth 100000 in
theorem ipageOk (p : Pg) (w : World) :
    Calls Tryd.prog 10 #[pgVal p] w fun e w' => e = .returned (.bool (decide p.Right)) ∧ Below w.heap.size w w' := by
  obtain ⟨k, s, x, q, c, t⟩ := p
  have HE := hide (right_eq k s x q c t)
  have HB := hide ((Below.refl w.heap.size w).alloc (Nat.le_refl _) (.cells #[.int .i64 k, .int .i64 s, .int .i64 x, .int .i64 q, .int .i64 c, .string t] 25))
  unfold pgVal
  simp only
  by_cases a1 : s < 1
  · go_enter Tryd.func10, Tryd.ntmps10
    go_wp2
    go_ret
    exact ⟨by rw [decide_eq_false (fun h => by have := (HE.out.1 h).1; omega)]; rfl, HB.out⟩
  by_cases a2 : 1000000000 < s
  · go_enter Tryd.func10, Tryd.ntmps10
    go_wp2
    go_ret
    exact ⟨by rw [decide_eq_false (fun h => by have := (HE.out.1 h).1; omega)]; rfl, HB.out⟩
  by_cases a3 : x < 1
  · go_enter Tryd.func10, Tryd.ntmps10
    go_wp2
    go_ret
    exact ⟨by rw [decide_eq_false (fun h => by have := (HE.out.1 h).1; omega)]; rfl, HB.out⟩
  by_cases a4 : 1000000000 < x
  · go_enter Tryd.func10, Tryd.ntmps10
    go_wp2
    go_ret
    exact ⟨by rw [decide_eq_false (fun h => by have := (HE.out.1 h).1; omega)]; rfl, HB.out⟩
  by_cases a5 : partP k q c
  · go_enter Tryd.func10, Tryd.ntmps10
    go_wp2_with fail
    refine (ipart_any k s x q c t _).mono ?_
    rintro e w1 ⟨rfl, hb⟩
    rw [decide_eq_true a5]
    have A5 := hide a5
    clear a5
    have hs := HB.out.size
    have kp : ∀ i, i < 6 → w1.cell? ⟨w.heap.size, i, none⟩ = (w.alloc (.cells #[.int .i64 k, .int .i64 s, .int .i64 x, .int .i64 q, .int .i64 c, .string t] 25)).cell? ⟨w.heap.size, i, none⟩ := fun i _ => hb.cell (by simp)
    have k5 := kp 5 (by omega)
    simp at k5
    clear kp
    go_wp2
    go_ret
    have e : decide (Pg.mk k s x q c t).Right = decide ((t.size : Int) ≤ 90) := decide_eq_decide.2 (HE.out.trans ⟨fun h => h.2.2, fun h => ⟨by omega, A5.out, h⟩⟩)
    exact ⟨by rw [e]; rfl, HB.out.trans (hb.mono hs)⟩
  · go_enter Tryd.func10, Tryd.ntmps10
    go_wp2_with fail
    refine (ipart_any k s x q c t _).mono ?_
    rintro e w1 ⟨rfl, hb⟩
    rw [decide_eq_false a5]
    have A5 := hide a5
    clear a5
    have hs := HB.out.size
    go_wp2
    go_ret
    exact ⟨by rw [decide_eq_false (fun h => A5.out (HE.out.1 h).2.1)]; rfl, HB.out.trans (hb.mono hs)⟩
end Go.Proofs.YthgfhjfnlecolabDoor
