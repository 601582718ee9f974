/-
  SMath; SeP; RdP; FoP; StMath
-/
import Derived.Test.YtcjgjkejhkhknabDoorPq0
import Derived.Test.YtcjgjkejhkhknabDoorPq8
/-
  Plain facts on sums of 32 bits: no Go in them.
-/
namespace Go.Proofs.YtcjgjkejhkhknabDoor.Sums

def poly : Nat := 3558460437
def half (x : Nat) : Nat := x / 2 ^^^ (if x % 2 = 1 then poly else 0)
def h4 (x : Nat) : Nat := half (half (half (half x)))
/-- A sum and one byte more. -/
def sumB (s : Nat) (b : UInt8) : Nat := h4 (h4 (s ^^^ b.toNat))
/-- A sum and more bytes. -/
def sumL (s : Nat) (l : List UInt8) : Nat := l.foldl sumB s

def tab : List Nat := [0, 1166650509, 2333301018, 3466261911, 3189058079, 4221339282, 889615109, 1888477064, 3558460437, 2442158232, 1594529039, 444807554, 1779230218, 797264519, 3776954128, 2761298845]

theorem xor_right_cancel {x y z : Nat} (h : x ^^^ z = y ^^^ z) : x = y := by
  have := congrArg (· ^^^ z) h
  simpa [Nat.xor_assoc] using this
theorem xor_left_cancel {x y z : Nat} (h : z ^^^ x = z ^^^ y) : x = y := by
  rw [Nat.xor_comm z, Nat.xor_comm z] at h
  exact xor_right_cancel h
theorem mod2_lt (x : Nat) : x % 2 = 0 ∨ x % 2 = 1 := by omega

theorem half_lt (x : Nat) (h : x < 4294967296) : half x < 4294967296 := by
  unfold half
  refine Nat.xor_lt_two_pow (n := 32) (by omega) ?_
  split <;> simp [poly]
theorem h4_lt (x : Nat) (h : x < 4294967296) : h4 x < 4294967296 := half_lt _ (half_lt _ (half_lt _ (half_lt _ h)))
theorem byte_lt (b : UInt8) : b.toNat < 256 := by have := b.toNat_lt; omega
theorem xor_lt32 (x y : Nat) (h : x < 4294967296) (k : y < 4294967296) : x ^^^ y < 4294967296 := Nat.xor_lt_two_pow (n := 32) h k
theorem xb_lt (s : Nat) (b : UInt8) (h : s < 4294967296) : s ^^^ b.toNat < 4294967296 := xor_lt32 _ _ h (by have := byte_lt b; omega)
theorem sumB_lt (s : Nat) (b : UInt8) (h : s < 4294967296) : sumB s b < 4294967296 := h4_lt _ (h4_lt _ (xb_lt s b h))
theorem sumL_lt (l : List UInt8) : ∀ s, s < 4294967296 → sumL s l < 4294967296 := by
  induction l with
  | nil => intro s h; exact h
  | cons a l ih => intro s h; exact ih _ (sumB_lt s a h)
theorem sumL_app (s : Nat) (l k : List UInt8) : sumL s (l ++ k) = sumL (sumL s l) k := by simp [sumL]
theorem sumL_take (s : Nat) (l : List UInt8) (k : Nat) (h : k < l.length) : sumL s (l.take (k + 1)) = sumB (sumL s (l.take k)) l[k] := by
  rw [List.take_succ_eq_append_getElem h, sumL_app]; rfl

theorem xor_half (x y : Nat) : half (x ^^^ y) = half x ^^^ half y := by
  unfold half
  have e1 : (x ^^^ y) / 2 = x / 2 ^^^ y / 2 := by
    have := Nat.shiftRight_xor_distrib (a := x) (b := y) (i := 1)
    simpa [Nat.shiftRight_eq_div_pow] using this
  have e2 : (x ^^^ y) % 2 = (x % 2) ^^^ (y % 2) := by
    have := Nat.xor_mod_two_pow (a := x) (b := y) (n := 1)
    simpa using this
  rw [e1, e2]
  rcases mod2_lt x with hx | hx <;> rcases mod2_lt y with hy | hy <;> simp [hx, hy]
  · rw [Nat.xor_assoc]
  · rw [Nat.xor_assoc, Nat.xor_assoc]; congr 1; exact Nat.xor_comm _ _
  · rw [Nat.xor_assoc, ← Nat.xor_assoc poly, Nat.xor_comm poly, Nat.xor_assoc (y / 2), Nat.xor_self, Nat.xor_zero]
theorem xor_h4 (x y : Nat) : h4 (x ^^^ y) = h4 x ^^^ h4 y := by simp only [h4, xor_half]

theorem half_two (x : Nat) : half (2 * x) = x := by
  unfold half
  have e1 : 2 * x / 2 = x := by omega
  have e2 : 2 * x % 2 = 0 := by omega
  rw [e1, e2]; simp
theorem h4_16 (q : Nat) : h4 (16 * q) = q := by
  unfold h4
  rw [show 16 * q = 2 * (2 * (2 * (2 * q))) by omega, half_two, half_two, half_two, half_two]
theorem h4_low : ∀ r : Fin 16, h4 r.val = tab[r.val]'(by simp [tab]) := by decide
theorem split16 (x : Nat) : x = (16 * (x / 16)) ^^^ (x % 16) := by
  have h := Nat.two_pow_add_eq_or_of_lt (i := 4) (b := x % 16) (by omega) (x / 16)
  have e : 16 * (x / 16) ^^^ (x % 16) = 16 * (x / 16) ||| (x % 16) := by
    apply Nat.eq_of_testBit_eq
    intro i
    rw [Nat.testBit_xor, Nat.testBit_or]
    have e16 : (16 : Nat) = 2 ^ 4 := rfl
    by_cases hi : i < 4
    · have : (16 * (x / 16)).testBit i = false := by rw [e16, Nat.testBit_two_pow_mul]; simp; omega
      simp [this]
    · have : (x % 16).testBit i = false := by rw [e16, Nat.testBit_mod_two_pow]; simp; omega
      simp [this]
  rw [e]
  simp at h
  omega
theorem tab_len : tab.length = 16 := rfl
theorem h4_tab (x : Nat) (h : x % 16 < tab.length) : h4 x = x / 16 ^^^ tab[x % 16] := by
  have e := h4_low ⟨x % 16, by omega⟩
  simp only at e
  rw [← e]
  conv => lhs; rw [split16 x, xor_h4, h4_16]

theorem half_inj (x y : Nat) (hx : x < 4294967296) (hy : y < 4294967296) (h : half x = half y) : x = y := by
  have top : ∀ z, z < 4294967296 → (half z).testBit 31 = decide (z % 2 = 1) := by
    intro z hz
    unfold half
    rw [Nat.testBit_xor]
    have : (z / 2).testBit 31 = false := Nat.testBit_lt_two_pow (by omega)
    rw [this]
    rcases mod2_lt z with h | h <;> simp [h]
    decide
  have t := top x hx
  rw [h, top y hy] at t
  unfold half at h
  have em : x % 2 = y % 2 := by
    rcases mod2_lt x with h1 | h1 <;> rcases mod2_lt y with h2 | h2 <;> simp [h1, h2] at t ⊢
  rw [em] at h
  have := xor_right_cancel h
  omega
theorem h4_inj (x y : Nat) (hx : x < 4294967296) (hy : y < 4294967296) (h : h4 x = h4 y) : x = y :=
  half_inj _ _ hx hy (half_inj _ _ (half_lt _ hx) (half_lt _ hy) (half_inj _ _ (half_lt _ (half_lt _ hx)) (half_lt _ (half_lt _ hy)) (half_inj _ _ (half_lt _ (half_lt _ (half_lt _ hx))) (half_lt _ (half_lt _ (half_lt _ hy))) h)))
theorem sumB_inj (s t : Nat) (b c : UInt8) (hs : s < 4294967296) (ht : t < 4294967296) (h : sumB s b = sumB t c) : s ^^^ b.toNat = t ^^^ c.toNat :=
  h4_inj _ _ (xb_lt _ _ hs) (xb_lt _ _ ht) (h4_inj _ _ (h4_lt _ (xb_lt _ _ hs)) (h4_lt _ (xb_lt _ _ ht)) h)
theorem sumL_inj (l : List UInt8) : ∀ (s t : Nat), s < 4294967296 → t < 4294967296 → sumL s l = sumL t l → s = t := by
  induction l with
  | nil => intro s t _ _ h; exact h
  | cons a l ih =>
    intro s t hs ht h
    have := sumB_inj s t a a hs ht (ih _ _ (sumB_lt s a hs) (sumB_lt t a ht) h)
    exact xor_right_cancel this
/-- One byte turned turns the sum. -/
theorem sumL_turned (s : Nat) (hs : s < 4294967296) (l k : List UInt8) (b c : UInt8) (h : sumL s (l ++ b :: k) = sumL s (l ++ c :: k)) : b = c := by
  rw [sumL_app, sumL_app] at h
  have hl := sumL_lt l s hs
  have h1 := sumL_inj k _ _ (sumB_lt _ b hl) (sumB_lt _ c hl) h
  have h2 := xor_left_cancel (sumB_inj _ _ b c hl hl h1)
  exact UInt8.toNat_inj.1 h2

/-- A sum in four bytes, the highest first. -/
def four (x : Nat) : List UInt8 := [UInt8.ofNat (x / 16777216 % 256), UInt8.ofNat (x / 65536 % 256), UInt8.ofNat (x / 256 % 256), UInt8.ofNat (x % 256)]
theorem four_len (x : Nat) : (four x).length = 4 := rfl
theorem ofNat_inj (a b : Nat) (ha : a < 256) (hb : b < 256) (h : UInt8.ofNat a = UInt8.ofNat b) : a = b := by
  have := congrArg UInt8.toNat h
  simp at this
  omega
theorem four_inj (x y : Nat) (hx : x < 4294967296) (hy : y < 4294967296) (h : four x = four y) : x = y := by
  simp only [four, List.cons.injEq, and_true] at h
  obtain ⟨h1, h2, h3, h4⟩ := h
  have := ofNat_inj _ _ (by omega) (by omega) h1
  have := ofNat_inj _ _ (by omega) (by omega) h2
  have := ofNat_inj _ _ (by omega) (by omega) h3
  have := ofNat_inj _ _ (by omega) (by omega) h4
  omega
def start : Nat := 4294967295
def sumOf (l : List UInt8) : Nat := sumL start l
theorem sumOf_lt (l : List UInt8) : sumOf l < 4294967296 := sumL_lt l _ (by decide)
def sealL (l : List UInt8) : List UInt8 := l ++ four (sumOf l)
theorem seal_len (l : List UInt8) : (sealL l).length = l.length + 4 := by simp [sealL, four]
/-- A sealed text with one byte turned is no sealed text. -/
theorem seal_turned (l m k1 k2 : List UInt8) (b c : UInt8) (hbc : b ≠ c) (h1 : sealL l = k1 ++ b :: k2) (h2 : sealL m = k1 ++ c :: k2) : False := by
  have e1 := congrArg List.length h1
  have e2 := congrArg List.length h2
  rw [seal_len] at e1 e2
  simp at e1 e2
  have hml : m.length = l.length := by omega
  by_cases hk : k1.length < l.length
  · -- the byte lies in the text
    have t1 : l = k1 ++ b :: k2.take (l.length - k1.length - 1) := by
      have := congrArg (List.take l.length) h1
      rw [sealL, List.take_left] at this
      rw [this, List.take_append, List.take_of_length_le (by omega)]
      rw [show l.length - k1.length = (l.length - k1.length - 1) + 1 by omega, List.take_succ_cons]
      simp
    have t2 : m = k1 ++ c :: k2.take (l.length - k1.length - 1) := by
      have := congrArg (List.take m.length) h2
      rw [sealL, List.take_left] at this
      rw [this, List.take_append, List.take_of_length_le (by omega), hml]
      rw [show l.length - k1.length = (l.length - k1.length - 1) + 1 by omega, List.take_succ_cons]
      simp
    have d1 := congrArg (List.drop l.length) h1
    have d2 := congrArg (List.drop m.length) h2
    rw [sealL, List.drop_left] at d1 d2
    rw [hml] at d2
    rw [List.drop_append, List.drop_of_length_le (by omega), show l.length - k1.length = (l.length - k1.length - 1) + 1 by omega, List.drop_succ_cons] at d1 d2
    have d3 : sumOf l = sumOf m := four_inj _ _ (sumOf_lt l) (sumOf_lt m) (d1.trans d2.symm)
    rw [t1, t2] at d3
    exact hbc (sumL_turned start (by decide) _ _ b c d3)
  · have t1 : l = k1.take l.length := by
      have := congrArg (List.take l.length) h1
      rw [sealL, List.take_left, List.take_append_of_le_length (by omega)] at this
      exact this
    have t2 : m = k1.take l.length := by
      have := congrArg (List.take m.length) h2
      rw [sealL, List.take_left, List.take_append_of_le_length (by omega), hml] at this
      exact this
    have e : m = l := t2.trans t1.symm
    subst e
    rw [h1] at h2
    have := List.append_cancel_left h2
    simp at this
    exact hbc this
end Go.Proofs.YtcjgjkejhkhknabDoor.Sums

/-
  Texts sealed with a sum, in plain words.
-/
namespace Go.Proofs.YtcjgjkejhkhknabDoor
open Sums

def sealA (t : ByteArray) : ByteArray := t ++ ⟨(four (sumOf t.data.toList)).toArray⟩
theorem sealA_size (t : ByteArray) : (sealA t).size = t.size + 4 := by
  simp [sealA, ByteArray.size_append]; rfl
theorem sealA_list (t : ByteArray) : (sealA t).data.toList = sealL t.data.toList := by
  simp [sealA, sealL, ByteArray.data_append]

def body (t : ByteArray) : ByteArray := t.extract 0 (t.size - 4)
theorem body_size (t : ByteArray) : (body t).size = t.size - 4 := by simp [body]
/-- What stands sealed in a text, if any does. -/
def unA (t : ByteArray) : Option ByteArray :=
  if 4 ≤ t.size ∧ t.size ≤ 20004 ∧ (sealA (body t)).data.toList = t.data.toList then some (body t) else none
theorem unA_some {t s : ByteArray} (h : unA t = some s) : sealA s = t ∧ s.size ≤ 20000 := by
  unfold unA at h
  split at h
  · rename_i hc
    cases h
    exact ⟨ByteArray.ext (Array.toList_inj.1 hc.2.2), by rw [body_size]; omega⟩
  · cases h
theorem body_seal (s : ByteArray) : body (sealA s) = s := by
  unfold body
  rw [sealA_size]
  apply ByteArray.ext
  unfold sealA
  have e : s.size + 4 - 4 = s.data.size := by simp
  rw [e]
  simp [ByteArray.data_append, ByteArray.data_extract]
theorem unA_seal (s : ByteArray) (h : s.size ≤ 20000) : unA (sealA s) = some s := by
  unfold unA
  rw [body_seal, if_pos ⟨by rw [sealA_size]; omega, by rw [sealA_size]; omega, rfl⟩]

theorem unA_none {t : ByteArray} (h : ¬ (4 ≤ t.size ∧ t.size ≤ 20004 ∧ sealA (body t) = t)) : unA t = none := by
  unfold unA
  rw [if_neg]
  rintro ⟨a, b, c⟩
  exact h ⟨a, b, ByteArray.ext (Array.toList_inj.1 c)⟩
theorem unA_yes {t : ByteArray} (h1 : 4 ≤ t.size) (h2 : t.size ≤ 20004) (h3 : sealA (body t) = t) : unA t = some (body t) := by
  unfold unA
  rw [if_pos ⟨h1, h2, by rw [h3]⟩]

end Go.Proofs.YtcjgjkejhkhknabDoor

/-
  What a text is read as, in plain words.
-/
namespace Go.Proofs.YtcjgjkejhkhknabDoor
open Words Sums

def readPg (t : ByteArray) : Option Pg := match unA t with | none => none | some s => pgOf s
theorem readPg_seal (p : Pg) (h : p.Right) : readPg (sealA (pageA p)) = some p := by
  unfold readPg
  rw [unA_seal _ (by have := pageA_size p h; omega)]
  exact pg_read p h
theorem readPg_right {t : ByteArray} {p : Pg} (h : readPg t = some p) : p.Right ∧ sealA (pageA p) = t := by
  unfold readPg at h
  cases hu : unA t with
  | none => rw [hu] at h; cases h
  | some s =>
    rw [hu] at h
    simp only at h
    unfold pgOf at h
    split at h
    · cases h
    · rename_i k0 h0
      split at h
      · cases h
      · rename_i a i1 h1
        split at h
        · cases h
        · rename_i b i2 h2
          split at h
          · cases h
          · rename_i c i3 h3
            split at h
            · cases h
            · rename_i d i4 h4
              split at h
              · rename_i hq
                cases h
                refine ⟨hq, ?_⟩
                rw [pg_back h0 h1 h2 h3 h4]
                exact (unA_some hu).1
              · cases h
end Go.Proofs.YtcjgjkejhkhknabDoor

/-
  What stands on a flash, in plain words.
-/
namespace Go.Proofs.YtcjgjkejhkhknabDoor
open Words Sums

/-- The page that stands on a leaf, if one does. -/
def leafPg (bs : List Bk) (b k : Int) : Option Pg := if (readF bs b k).2 then readPg (readF bs b k).1 else none
/-- What stands on the first k leaves of block b. -/
def foundsAt (bs : List Bk) (b : Nat) : Nat → List Fnd
  | 0 => []
  | k + 1 => foundsAt bs b k ++ (match leafPg bs b k with | some p => [⟨b, k, p⟩] | none => [])
/-- What stands on the first b blocks. -/
def founds (bs : List Bk) : Nat → List Fnd
  | 0 => []
  | b + 1 => founds bs b ++ foundsAt bs b ((bs[b]?).map (fun r => r.2.2.length) |>.getD 0)
theorem foundsAt_len (bs : List Bk) (b k : Nat) : (foundsAt bs b k).length ≤ k := by
  induction k with
  | zero => exact Nat.le_refl _
  | succ k ih =>
    simp only [foundsAt, List.length_append]
    split <;> simp <;> omega

end Go.Proofs.YtcjgjkejhkhknabDoor

/-
  Chapter 8 in plain words: steps, steps one behind the other, and where they are cut.
-/
namespace Go.Proofs.YtcjgjkejhkhknabDoor

/-- A step: Kind, Block, Leaf, Text. -/
abbrev Stp := Int × Int × Int × ByteArray
def stV (s : Stp) : Value := .agg #[.int .i64 s.1, .int .i64 s.2.1, .int .i64 s.2.2.1, .string s.2.2.2]
def doF (bs : List Bk) (s : Stp) : List Bk × Bool := if s.1 = 1 then programF bs s.2.1 s.2.2.1 s.2.2.2 else if s.1 = 2 then wipeF bs s.2.1 else (bs, false)
theorem prog_false {bs : List Bk} {b leaf : Int} {t : ByteArray} (h : (programF bs b leaf t).2 = false) : (programF bs b leaf t).1 = bs := by
  unfold programF at *
  split
  · rename_i h1; rw [if_pos h1] at h; cases h
  · rfl
theorem wipe_false {bs : List Bk} {b : Int} (h : (wipeF bs b).2 = false) : (wipeF bs b).1 = bs := by
  unfold wipeF at *
  split
  · rename_i h1; rw [if_pos h1] at h; cases h
  · rfl
theorem do_false {bs : List Bk} {s : Stp} (h : (doF bs s).2 = false) : (doF bs s).1 = bs := by
  unfold doF at *
  split
  · rename_i h1; rw [if_pos h1] at h; exact prog_false h
  · rename_i h1
    rw [if_neg h1] at h
    split
    · rename_i h2; rw [if_pos h2] at h; exact wipe_false h
    · rfl
def doAll : List Bk → List Stp → List Bk × Nat
  | bs, [] => (bs, 0)
  | bs, s :: l => if (doF bs s).2 then ((doAll (doF bs s).1 l).1, (doAll (doF bs s).1 l).2 + 1) else (bs, 0)
theorem doAll_le (bs : List Bk) (l : List Stp) : (doAll bs l).2 ≤ l.length := by
  induction l generalizing bs with
  | nil => simp [doAll]
  | cons s l ih =>
    simp only [doAll]
    split
    · have := ih (doF bs s).1
      simp only [List.length_cons]
      omega
    · simp
/-- All of the first list done: then go on. -/
theorem doAll_app {bs c : List Bk} {l m : List Stp} (h : doAll bs l = (c, l.length)) : doAll bs (l ++ m) = ((doAll c m).1, l.length + (doAll c m).2) := by
  induction l generalizing bs with
  | nil =>
    simp only [doAll] at h
    cases h
    simp
  | cons s l ih =>
    simp only [doAll, List.length_cons] at h
    by_cases hs : (doF bs s).2 = true
    · rw [if_pos hs] at h
      have h1 : doAll (doF bs s).1 l = (c, l.length) := by
        have e1 := congrArg Prod.fst h
        have e2 := congrArg Prod.snd h
        simp only at e1 e2
        exact Prod.ext e1 (by simp only; omega)
      rw [List.cons_append, doAll, if_pos hs, ih h1]
      simp only [List.length_cons]
      congr 1
      omega
    · rw [if_neg hs] at h
      have e2 := congrArg Prod.snd h
      simp at e2
theorem doAll_one (bs : List Bk) (s : Stp) : doAll bs [s] = if (doF bs s).2 then ((doF bs s).1, 1) else (bs, 0) := by
  simp only [doAll]
theorem doAll_next {bs b : List Bk} {l : List Stp} {i : Nat} {s : Stp} (h : doAll bs (l.take i) = (b, i)) (hs : l[i]? = some s) (hd : (doF b s).2 = true) : doAll bs (l.take (i + 1)) = ((doF b s).1, i + 1) := by
  obtain ⟨h1, rfl⟩ := List.getElem?_eq_some_iff.1 hs
  have hl : (l.take i).length = i := by rw [List.length_take]; omega
  rw [List.take_succ_eq_append_getElem h1, doAll_app (c := b) (by rw [hl]; exact h), doAll_one, if_pos hd, hl]
theorem doAll_stop {bs b : List Bk} {l : List Stp} {i : Nat} {s : Stp} (h : doAll bs (l.take i) = (b, i)) (hs : l[i]? = some s) (hd : (doF b s).2 = false) : doAll bs l = (b, i) := by
  obtain ⟨h1, rfl⟩ := List.getElem?_eq_some_iff.1 hs
  have hl : (l.take i).length = i := by rw [List.length_take]; omega
  have e : l = l.take i ++ (l[i] :: l.drop (i + 1)) := by rw [← List.drop_eq_getElem_cons h1, List.take_append_drop]
  rw [e, doAll_app (c := b) (by rw [hl]; exact h), doAll, if_neg (by rw [hd]; simp), hl]
  rfl
theorem doAll_end {bs b : List Bk} {l : List Stp} {i : Nat} (h : doAll bs (l.take i) = (b, i)) (hi : i = l.length) : doAll bs l = (b, l.length) := by
  subst hi
  rw [List.take_of_length_le (Nat.le_refl _)] at h
  exact h
/-- What is done is done by the first of them alone. -/
theorem doAll_pre (bs : List Bk) (l : List Stp) (k : Nat) (hk : k ≤ (doAll bs l).2) : ∃ b, doAll bs (l.take k) = (b, k) ∧ doAll b (l.drop k) = ((doAll bs l).1, (doAll bs l).2 - k) := by
  induction l generalizing bs k with
  | nil =>
    simp only [doAll] at hk
    have : k = 0 := by omega
    subst this
    exact ⟨bs, rfl, rfl⟩
  | cons s l ih =>
    cases k with
    | zero => exact ⟨bs, by simp [doAll], by simp⟩
    | succ k =>
      by_cases hs : (doF bs s).2 = true
      · simp only [doAll, if_pos hs] at hk ⊢
        obtain ⟨b, h1, h2⟩ := ih (doF bs s).1 k (by omega)
        refine ⟨b, ?_, ?_⟩
        · rw [List.take_succ_cons, doAll, if_pos hs, h1]
        · rw [List.drop_succ_cons, h2]
          congr 1
          omega
      · simp only [doAll, if_neg hs] at hk
        omega

def halfT (t : ByteArray) : ByteArray := t.extract 0 (t.size / 2)
theorem halfT_size (t : ByteArray) : (halfT t).size = t.size / 2 := by
  unfold halfT
  rw [ByteArray.size_extract]
  omega
/-- What a torn step leaves, where it may be done. -/
def tornF (bs : List Bk) (s : Stp) : List Bk :=
  if s.1 = 1 then bs.modify s.2.1.toNat (fun r => (r.1, r.2.1, r.2.2.set s.2.2.1.toNat (2, halfT s.2.2.2)))
  else bs.modify s.2.1.toNat (fun r => (r.1, r.2.1, List.replicate r.2.2.length (2, ⟨#[]⟩)))
def tormF (bs : List Bk) (s : Stp) : List Bk × Bool := if (doF bs s).2 then (tornF bs s, true) else (bs, false)
def cutF (bs : List Bk) (l : List Stp) (whole : Int) (torn : Bool) : List Bk × Bool :=
  if 0 ≤ whole ∧ whole ≤ l.length then
    if (doAll bs (l.take whole.toNat)).2 = whole.toNat then
      match torn, l[whole.toNat]? with
      | true, some s => if (tormF (doAll bs (l.take whole.toNat)).1 s).2 then ((tormF (doAll bs (l.take whole.toNat)).1 s).1, true) else (bs, false)
      | _, _ => ((doAll bs (l.take whole.toNat)).1, true)
    else (bs, false)
  else (bs, false)
theorem cut_out {bs : List Bk} {l : List Stp} {whole : Int} {torn : Bool} (h : ¬ (0 ≤ whole ∧ whole ≤ l.length)) : cutF bs l whole torn = (bs, false) := by
  unfold cutF
  rw [if_neg h]
theorem cut_less {bs : List Bk} {l : List Stp} {k : Nat} {torn : Bool} {c : List Bk} {n : Nat} (h : doAll bs (l.take k) = (c, n)) (hn : n ≠ k) : cutF bs l (k : Int) torn = (bs, false) := by
  unfold cutF
  rw [Int.toNat_natCast, h]
  split
  · first | rfl | (rw [if_neg hn])
  · rfl
theorem cut_whole {bs : List Bk} {l : List Stp} {k : Nat} {torn : Bool} {c : List Bk} (h : doAll bs (l.take k) = (c, k)) (hk : k ≤ l.length) (ht : torn = false ∨ k = l.length) : cutF bs l (k : Int) torn = (c, true) := by
  unfold cutF
  rw [Int.toNat_natCast, h, if_pos ⟨by omega, by omega⟩, if_pos rfl]
  rcases ht with rfl | rfl
  · rfl
  · rw [List.getElem?_eq_none (Nat.le_refl _)]
    cases torn <;> rfl
theorem cut_torn {bs : List Bk} {l : List Stp} {k : Nat} {c : List Bk} {s : Stp} (h : doAll bs (l.take k) = (c, k)) (hs : l[k]? = some s) : cutF bs l (k : Int) true = if (tormF c s).2 then ((tormF c s).1, true) else (bs, false) := by
  have hk := (List.getElem?_eq_some_iff.1 hs).1
  unfold cutF
  rw [Int.toNat_natCast, h, if_pos ⟨by omega, by omega⟩, if_pos rfl, hs]
/-- A step that can be done has its place. -/
theorem do_place {bs : List Bk} {s : Stp} (h : (doF bs s).2 = true) : ∃ (k : Nat) (r : Bk), s.2.1 = k ∧ bs[k]? = some r ∧ r.2.2.length = 4 ∧ (s.1 = 1 ∨ s.1 = 2) ∧ (s.1 = 1 → ∃ j : Nat, s.2.2.1 = j ∧ j < 4 ∧ j = nextB r.2.2 ∧ 1 ≤ s.2.2.2.size ∧ s.2.2.2.size ≤ 120) ∧ flOk bs = true ∧ r.1 = false := by
  have four : ∀ r ∈ bs, flOk bs = true → r.2.2.length = 4 := by
    intro r hr h
    simp only [flOk, Bool.and_eq_true, List.all_eq_true] at h
    have h2 := h.2 r hr
    simp only [blkOk, Bool.and_eq_true, decide_eq_true_eq] at h2
    exact h2.1.1
  unfold doF at h
  by_cases h1 : s.1 = 1
  · rw [if_pos h1] at h
    unfold programF at h
    split at h
    · rename_i h2
      rw [Bool.and_eq_true] at h2
      obtain ⟨hf, hm⟩ := h2
      unfold mayP at hm
      cases hb : bs[s.2.1.toNat]? with
      | none => rw [hb] at hm; cases hm
      | some r =>
        rw [hb] at hm
        have hm := of_decide_eq_true hm
        exact ⟨s.2.1.toNat, r, by omega, hb, four r (List.mem_of_getElem? hb) hf, Or.inl h1, fun _ => ⟨nextB r.2.2, hm.2.2.2.1, by omega, rfl, hm.2.2.2.2.1, hm.2.2.2.2.2⟩, hf, hm.2.1⟩
    · cases h
  · rw [if_neg h1] at h
    by_cases h2 : s.1 = 2
    · rw [if_pos h2] at h
      unfold wipeF at h
      split at h
      · rename_i h3
        rw [Bool.and_eq_true] at h3
        obtain ⟨hf, hm⟩ := h3
        unfold mayW at hm
        cases hb : bs[s.2.1.toNat]? with
        | none => rw [hb] at hm; cases hm
        | some r =>
          rw [hb] at hm
          have hm := of_decide_eq_true hm
          exact ⟨s.2.1.toNat, r, by omega, hb, four r (List.mem_of_getElem? hb) hf, Or.inr h2, fun h => absurd h h1, hf, hm.2.1⟩
      · cases h
    · rw [if_neg h2] at h
      cases h
end Go.Proofs.YtcjgjkejhkhknabDoor
