/-
  Base; SMath
-/
import Derived.Test.YtiicghepilbgfaaGreatDoorRows
import Derived.WalkKit
import Derived.WalkSpells
import Derived.WalkLawsBesides
import Derived.WalkSmall
import Derived.OwnWalk
import Derived.OneCell
import Derived.Lib.Slices
import Derived.Lib.Strings
import Derived.Laws.IdiomStrings
import Derived.Laws.DeepStrings4
import Derived.Deep.RegionWith
import Derived.Deep.RegionHeld3
import Derived.Deep.QuietTactic
import Derived.Deep.AppendLies
import Derived.BigQuiet
import Derived.WalkMore
/-
  Small facts that every walk of this seat uses: bytes and numbers in rows that the call owns, cells, what is hidden from a walk.
-/
namespace Go.Proofs.YtiicghepilbgfaaGreatDoor
open Go.RowKit

theorem infoByte : (Tryz.prog.info? 5).map (fun i => (i.zero, i.size, i.bytes)) = some (some (.int .u8 0), 1, 1) := by kernel_rfl

theorem hide {p : Prop} (h : p) : Hid p := h
theorem unhide {p : Prop} (h : Hid p) : p := h

/-- The cells of bytes. -/
def bcells (l : List UInt8) : List Value := l.map fun b => Value.int .u8 b.toNat
theorem bcells_len (l : List UInt8) : (bcells l).length = l.length := by simp [bcells]
theorem bcells_snoc (l : List UInt8) (c : UInt8) (x : Int) (h : (c.toNat : Int) = x) : bcells l ++ [Value.int .u8 x] = bcells (l ++ [c]) := by
  subst h; simp [bcells]
theorem bcells_at (l : List UInt8) (j : Nat) (hj : j < l.length) : (bcells l)[j]? = some (.int .u8 (l[j].toNat : Int)) := by
  simp [bcells, hj]
theorem one_cell (w : World) (x : Value) (t : TypeId) : ∀ (j : Nat) (u : Value), [x][j]? = some u → (w.alloc (.cells #[x] t)).cell? ((⟨w.heap.size, 0, none⟩ : Addr).add j) = some u := by
  intro j u hj
  match j, hj with
  | 0, hj => simp at hj; subst hj; simp [Addr.add]
theorem one_u8 (x : Int) : ∀ u ∈ [Value.int .u8 x], u.oneCell' = true := by
  intro u hu; simp at hu; subst hu; rfl
theorem own_grown {B : Nat} {w wr w2 : World} {v : Value} {n : Nat} {xs : List Value} {e : TypeId} {o : Obj} (hb : Below B w wr) (hB : B ≤ wr.heap.size)
    (hown : wr.ownsRow B e 1 v n xs) (hg : (wr.alloc o).grownBy w2 v.ownBlock) : Below B w w2 :=
  (hb.alloc hB _).grown hg (by simp; omega) (fun k hk => (hown.lt k hk).1)
theorem own_grown2 {B : Nat} {w wr w2 : World} {v : Value} {n : Nat} {xs : List Value} {e : TypeId} {o : Obj} (hb : Below B w wr) (hB : B ≤ wr.heap.size)
    (hown : wr.ownsRow B e 1 v n xs) (hg : (wr.alloc o).drew.grownBy w2 v.ownBlock) : Below B w w2 :=
  own_grown (o := o) hb hB hown ⟨hg.os, hg.tape, hg.output, hg.size, hg.block⟩

theorem conv_own {B : Nat} (wr : World) (v : Value) (l : List UInt8) (h : wr.ownsRow B 5 1 v l.length (bcells l)) : (convert 155 9 v).run Tryz.prog wr = .ok (.string ⟨l.toArray⟩) wr := by
  have hown := h
  rcases h.2 with ⟨rfl, h0⟩ | ⟨g, cap, cur, rfl, -, -, -, -, -, -⟩
  · have : l = [] := List.length_eq_zero_iff.1 h0
    subst this
    rw [run_convert_bytes_string wr 155 9 5 none 0 0 Tryz.underlying155 Tryz.underlying5 Tryz.underlying9]
    rfl
  · exact run_convert_bytes_back (P := Tryz.prog) wr 155 9 5 ⟨g, 0, none⟩ cap l Tryz.underlying155 Tryz.underlying5 Tryz.underlying9 (fun j hj => hown.cells (g := g) rfl j _ (bcells_at l j hj))

theorem infoInt : (Tryz.prog.info? 3).map (fun i => (i.zero, i.size, i.bytes)) = some (some (.int .i64 0), 1, 8) := by kernel_rfl
def icells (l : List Int) : List Value := l.map fun n => Value.int .i64 n
theorem icells_snoc (l : List Int) (x : Int) : icells l ++ [Value.int .i64 x] = icells (l ++ [x]) := by simp [icells]
theorem icells_at (l : List Int) (j : Nat) (hj : j < l.length) : (icells l)[j]? = some (.int .i64 l[j]) := by simp [icells, hj]
theorem one_i64 (x : Int) : ∀ u ∈ [Value.int .i64 x], u.oneCell' = true := by
  intro u hu; simp at hu; subst hu; rfl

theorem addr_at (g j : Nat) : (⟨g, 0, none⟩ : Addr).add j = ⟨g, j, none⟩ := by
  simp only [Addr.add]
  split <;> simp_all

theorem zeros_set (A : List Value) (z u : Value) (n k : Nat) (hA : A.length = k) (hk : k < n) :
    (A ++ List.replicate (n - k) z).set k u = (A ++ [u]) ++ List.replicate (n - (k + 1)) z := by
  obtain ⟨d, hd⟩ : ∃ d, n - k = d + 1 := ⟨n - k - 1, by omega⟩
  have hd2 : n - (k + 1) = d := by omega
  rw [hd, hd2, List.set_append_right _ _ (by omega), hA, Nat.sub_self, List.replicate_succ]
  simp

end Go.Proofs.YtiicghepilbgfaaGreatDoor

/-
  Plain facts on sums of 32 bits: no Go in them.
-/
namespace Go.Proofs.YtiicghepilbgfaaGreatDoor.Sums

def poly : Nat := 3558460437
def half (x : Nat) : Nat := x / 2 ^^^ (if x % 2 = 1 then poly else 0)
def h4 (x : Nat) : Nat := half (half (half (half x)))
/-- A sum and one byte more. -/
def sumB (s : Nat) (b : UInt8) : Nat := h4 (h4 (s ^^^ b.toNat))
/-- A sum and more bytes. -/
def sumL (s : Nat) (l : List UInt8) : Nat := l.foldl sumB s

def tab : List Nat := [0, 1166650509, 2333301018, 3466261911, 3189058079, 4221339282, 889615109, 1888477064, 3558460437, 2442158232, 1594529039, 444807554, 1779230218, 797264519, 3776954128, 2761298845]

theorem xor_right_cancel {x y z : Nat} (h : x ^^^ z = y ^^^ z) : x = y := by
  have := congrArg (· ^^^ z) h
  simpa [Nat.xor_assoc] using this
theorem xor_left_cancel {x y z : Nat} (h : z ^^^ x = z ^^^ y) : x = y := by
  rw [Nat.xor_comm z, Nat.xor_comm z] at h
  exact xor_right_cancel h
theorem mod2_lt (x : Nat) : x % 2 = 0 ∨ x % 2 = 1 := by omega

theorem half_lt (x : Nat) (h : x < 4294967296) : half x < 4294967296 := by
  unfold half
  refine Nat.xor_lt_two_pow (n := 32) (by omega) ?_
  split <;> simp [poly]
theorem h4_lt (x : Nat) (h : x < 4294967296) : h4 x < 4294967296 := half_lt _ (half_lt _ (half_lt _ (half_lt _ h)))
theorem byte_lt (b : UInt8) : b.toNat < 256 := by have := b.toNat_lt; omega
theorem xor_lt32 (x y : Nat) (h : x < 4294967296) (k : y < 4294967296) : x ^^^ y < 4294967296 := Nat.xor_lt_two_pow (n := 32) h k
theorem xb_lt (s : Nat) (b : UInt8) (h : s < 4294967296) : s ^^^ b.toNat < 4294967296 := xor_lt32 _ _ h (by have := byte_lt b; omega)
theorem sumB_lt (s : Nat) (b : UInt8) (h : s < 4294967296) : sumB s b < 4294967296 := h4_lt _ (h4_lt _ (xb_lt s b h))
theorem sumL_lt (l : List UInt8) : ∀ s, s < 4294967296 → sumL s l < 4294967296 := by
  induction l with
  | nil => intro s h; exact h
  | cons a l ih => intro s h; exact ih _ (sumB_lt s a h)
theorem sumL_app (s : Nat) (l k : List UInt8) : sumL s (l ++ k) = sumL (sumL s l) k := by simp [sumL]
theorem sumL_take (s : Nat) (l : List UInt8) (k : Nat) (h : k < l.length) : sumL s (l.take (k + 1)) = sumB (sumL s (l.take k)) l[k] := by
  rw [List.take_succ_eq_append_getElem h, sumL_app]; rfl

theorem xor_half (x y : Nat) : half (x ^^^ y) = half x ^^^ half y := by
  unfold half
  have e1 : (x ^^^ y) / 2 = x / 2 ^^^ y / 2 := by
    have := Nat.shiftRight_xor_distrib (a := x) (b := y) (i := 1)
    simpa [Nat.shiftRight_eq_div_pow] using this
  have e2 : (x ^^^ y) % 2 = (x % 2) ^^^ (y % 2) := by
    have := Nat.xor_mod_two_pow (a := x) (b := y) (n := 1)
    simpa using this
  rw [e1, e2]
  rcases mod2_lt x with hx | hx <;> rcases mod2_lt y with hy | hy <;> simp [hx, hy]
  · rw [Nat.xor_assoc]
  · rw [Nat.xor_assoc, Nat.xor_assoc]; congr 1; exact Nat.xor_comm _ _
  · rw [Nat.xor_assoc, ← Nat.xor_assoc poly, Nat.xor_comm poly, Nat.xor_assoc (y / 2), Nat.xor_self, Nat.xor_zero]
theorem xor_h4 (x y : Nat) : h4 (x ^^^ y) = h4 x ^^^ h4 y := by simp only [h4, xor_half]

theorem half_two (x : Nat) : half (2 * x) = x := by
  unfold half
  have e1 : 2 * x / 2 = x := by omega
  have e2 : 2 * x % 2 = 0 := by omega
  rw [e1, e2]; simp
theorem h4_16 (q : Nat) : h4 (16 * q) = q := by
  unfold h4
  rw [show 16 * q = 2 * (2 * (2 * (2 * q))) by omega, half_two, half_two, half_two, half_two]
theorem h4_low : ∀ r : Fin 16, h4 r.val = tab[r.val]'(by simp [tab]) := by decide
theorem split16 (x : Nat) : x = (16 * (x / 16)) ^^^ (x % 16) := by
  have h := Nat.two_pow_add_eq_or_of_lt (i := 4) (b := x % 16) (by omega) (x / 16)
  have e : 16 * (x / 16) ^^^ (x % 16) = 16 * (x / 16) ||| (x % 16) := by
    apply Nat.eq_of_testBit_eq
    intro i
    rw [Nat.testBit_xor, Nat.testBit_or]
    have e16 : (16 : Nat) = 2 ^ 4 := rfl
    by_cases hi : i < 4
    · have : (16 * (x / 16)).testBit i = false := by rw [e16, Nat.testBit_two_pow_mul]; simp; omega
      simp [this]
    · have : (x % 16).testBit i = false := by rw [e16, Nat.testBit_mod_two_pow]; simp; omega
      simp [this]
  rw [e]
  simp at h
  omega
theorem tab_len : tab.length = 16 := rfl
theorem h4_tab (x : Nat) (h : x % 16 < tab.length) : h4 x = x / 16 ^^^ tab[x % 16] := by
  have e := h4_low ⟨x % 16, by omega⟩
  simp only at e
  rw [← e]
  conv => lhs; rw [split16 x, xor_h4, h4_16]

theorem half_inj (x y : Nat) (hx : x < 4294967296) (hy : y < 4294967296) (h : half x = half y) : x = y := by
  have top : ∀ z, z < 4294967296 → (half z).testBit 31 = decide (z % 2 = 1) := by
    intro z hz
    unfold half
    rw [Nat.testBit_xor]
    have : (z / 2).testBit 31 = false := Nat.testBit_lt_two_pow (by omega)
    rw [this]
    rcases mod2_lt z with h | h <;> simp [h]
    decide
  have t := top x hx
  rw [h, top y hy] at t
  unfold half at h
  have em : x % 2 = y % 2 := by
    rcases mod2_lt x with h1 | h1 <;> rcases mod2_lt y with h2 | h2 <;> simp [h1, h2] at t ⊢
  rw [em] at h
  have := xor_right_cancel h
  omega
theorem h4_inj (x y : Nat) (hx : x < 4294967296) (hy : y < 4294967296) (h : h4 x = h4 y) : x = y :=
  half_inj _ _ hx hy (half_inj _ _ (half_lt _ hx) (half_lt _ hy) (half_inj _ _ (half_lt _ (half_lt _ hx)) (half_lt _ (half_lt _ hy)) (half_inj _ _ (half_lt _ (half_lt _ (half_lt _ hx))) (half_lt _ (half_lt _ (half_lt _ hy))) h)))
theorem sumB_inj (s t : Nat) (b c : UInt8) (hs : s < 4294967296) (ht : t < 4294967296) (h : sumB s b = sumB t c) : s ^^^ b.toNat = t ^^^ c.toNat :=
  h4_inj _ _ (xb_lt _ _ hs) (xb_lt _ _ ht) (h4_inj _ _ (h4_lt _ (xb_lt _ _ hs)) (h4_lt _ (xb_lt _ _ ht)) h)
theorem sumL_inj (l : List UInt8) : ∀ (s t : Nat), s < 4294967296 → t < 4294967296 → sumL s l = sumL t l → s = t := by
  induction l with
  | nil => intro s t _ _ h; exact h
  | cons a l ih =>
    intro s t hs ht h
    have := sumB_inj s t a a hs ht (ih _ _ (sumB_lt s a hs) (sumB_lt t a ht) h)
    exact xor_right_cancel this
/-- One byte turned turns the sum. -/
theorem sumL_turned (s : Nat) (hs : s < 4294967296) (l k : List UInt8) (b c : UInt8) (h : sumL s (l ++ b :: k) = sumL s (l ++ c :: k)) : b = c := by
  rw [sumL_app, sumL_app] at h
  have hl := sumL_lt l s hs
  have h1 := sumL_inj k _ _ (sumB_lt _ b hl) (sumB_lt _ c hl) h
  have h2 := xor_left_cancel (sumB_inj _ _ b c hl hl h1)
  exact UInt8.toNat_inj.1 h2

/-- A sum in four bytes, the highest first. -/
def four (x : Nat) : List UInt8 := [UInt8.ofNat (x / 16777216 % 256), UInt8.ofNat (x / 65536 % 256), UInt8.ofNat (x / 256 % 256), UInt8.ofNat (x % 256)]
theorem four_len (x : Nat) : (four x).length = 4 := rfl
theorem ofNat_inj (a b : Nat) (ha : a < 256) (hb : b < 256) (h : UInt8.ofNat a = UInt8.ofNat b) : a = b := by
  have := congrArg UInt8.toNat h
  simp at this
  omega
theorem four_inj (x y : Nat) (hx : x < 4294967296) (hy : y < 4294967296) (h : four x = four y) : x = y := by
  simp only [four, List.cons.injEq, and_true] at h
  obtain ⟨h1, h2, h3, h4⟩ := h
  have := ofNat_inj _ _ (by omega) (by omega) h1
  have := ofNat_inj _ _ (by omega) (by omega) h2
  have := ofNat_inj _ _ (by omega) (by omega) h3
  have := ofNat_inj _ _ (by omega) (by omega) h4
  omega
def start : Nat := 4294967295
def sumOf (l : List UInt8) : Nat := sumL start l
theorem sumOf_lt (l : List UInt8) : sumOf l < 4294967296 := sumL_lt l _ (by decide)
def sealL (l : List UInt8) : List UInt8 := l ++ four (sumOf l)
theorem seal_len (l : List UInt8) : (sealL l).length = l.length + 4 := by simp [sealL, four]
/-- A sealed text with one byte turned is no sealed text. -/
theorem seal_turned (l m k1 k2 : List UInt8) (b c : UInt8) (hbc : b ≠ c) (h1 : sealL l = k1 ++ b :: k2) (h2 : sealL m = k1 ++ c :: k2) : False := by
  have e1 := congrArg List.length h1
  have e2 := congrArg List.length h2
  rw [seal_len] at e1 e2
  simp at e1 e2
  have hml : m.length = l.length := by omega
  by_cases hk : k1.length < l.length
  · -- the byte lies in the text
    have t1 : l = k1 ++ b :: k2.take (l.length - k1.length - 1) := by
      have := congrArg (List.take l.length) h1
      rw [sealL, List.take_left] at this
      rw [this, List.take_append, List.take_of_length_le (by omega)]
      rw [show l.length - k1.length = (l.length - k1.length - 1) + 1 by omega, List.take_succ_cons]
      simp
    have t2 : m = k1 ++ c :: k2.take (l.length - k1.length - 1) := by
      have := congrArg (List.take m.length) h2
      rw [sealL, List.take_left] at this
      rw [this, List.take_append, List.take_of_length_le (by omega), hml]
      rw [show l.length - k1.length = (l.length - k1.length - 1) + 1 by omega, List.take_succ_cons]
      simp
    have d1 := congrArg (List.drop l.length) h1
    have d2 := congrArg (List.drop m.length) h2
    rw [sealL, List.drop_left] at d1 d2
    rw [hml] at d2
    rw [List.drop_append, List.drop_of_length_le (by omega), show l.length - k1.length = (l.length - k1.length - 1) + 1 by omega, List.drop_succ_cons] at d1 d2
    have d3 : sumOf l = sumOf m := four_inj _ _ (sumOf_lt l) (sumOf_lt m) (d1.trans d2.symm)
    rw [t1, t2] at d3
    exact hbc (sumL_turned start (by decide) _ _ b c d3)
  · have t1 : l = k1.take l.length := by
      have := congrArg (List.take l.length) h1
      rw [sealL, List.take_left, List.take_append_of_le_length (by omega)] at this
      exact this
    have t2 : m = k1.take l.length := by
      have := congrArg (List.take m.length) h2
      rw [sealL, List.take_left, List.take_append_of_le_length (by omega), hml] at this
      exact this
    have e : m = l := t2.trans t1.symm
    subst e
    rw [h1] at h2
    have := List.append_cancel_left h2
    simp at this
    exact hbc this
end Go.Proofs.YtiicghepilbgfaaGreatDoor.Sums
