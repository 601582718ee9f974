/-
  ToStoT; SoMath; FdC; FdR; SMath
-/
import Derived.Test.YtcjhnoapjhohfaaGreatDoorPk22
import Derived.Test.YtcjhnoapjhohfaaGreatDoorPk5
import Derived.Test.YtcjhnoapjhohfaaGreatDoorPk0
/-
  toStore, held.
-/
namespace Go.Proofs.YtcjhnoapjhohfaaGreatDoor
open Go.RowKit
open Words

theorem tosto_tk {w wi : World} {hs : List Hold} {va : Option Addr} {vl vc : Nat} {ad : Option Addr} {len cap : Nat} {nx : Int} {vs : List (Int × Int)} {rs : List Kw} {s : Sto} (T : Tk w wi hs) (H : VlRow w va vl vs) (K : KnRd w ad len rs) (hvl : vl ≤ 1048576) (hl : len ≤ 1048576) (hll : ∀ r ∈ rs, r.2.2.length ≤ 1048576) (hM : s = ⟨vs, rs.map ktell, nx⟩) :
    Calls Tryz.prog 14 #[.agg #[.slice va vl vc, .slice ad len cap, .int .i64 nx]] wi fun e w' => ∃ g1 g2 : Nat, e = .returned (.agg #[.slice (some ⟨g1, 0, none⟩) vl vl, .slice (some ⟨g2, 0, none⟩) len len, .int .i64 nx]) ∧ Tk w w' ((wi.heap.size, w'.heap.size, Sts wi.heap.size w'.heap.size (.agg #[.slice (some ⟨g1, 0, none⟩) vl vl, .slice (some ⟨g2, 0, none⟩) len len, .int .i64 nx]) s) :: hs) ∧ wi.heap.size ≤ w'.heap.size := by
  refine (toSto_any va vl vc ad len cap nx vs rs wi hvl hl hll (H.below T.1) (K.below T.1)).mono ?_
  rintro e w' ⟨g1, g2, rfl, h⟩
  subst hM
  exact ⟨g1, g2, rfl, T.add h.blw (Sts.loc _ _ _ _) h.sts, h.blw.size⟩
end Go.Proofs.YtcjhnoapjhohfaaGreatDoor

/-
  Plain facts on stable sorting by a key: no Go in them.
-/
namespace Go.Proofs.YtcjhnoapjhohfaaGreatDoor.Words

structure Fnd where
  block : Int
  leaf : Int
  page : Pg

def Fnd.key (x : Fnd) : Int := x.page.seq

/-- A row that ascends. -/
def Asc (l : List Fnd) : Prop := l.Pairwise (fun a b => a.key ≤ b.key)
/-- Two rows that tell, of each key, the same elements in the same order. -/
def Akin (l k : List Fnd) : Prop := ∀ c : Int, l.filter (fun x => x.key == c) = k.filter (fun x => x.key == c)

theorem Akin.refl (l : List Fnd) : Akin l l := fun _ => rfl
theorem Akin.symm {l k : List Fnd} (h : Akin l k) : Akin k l := fun c => (h c).symm
theorem Akin.trans {l k m : List Fnd} (h : Akin l k) (h2 : Akin k m) : Akin l m := fun c => (h c).trans (h2 c)
theorem Akin.app {a b c d : List Fnd} (h : Akin a b) (h2 : Akin c d) : Akin (a ++ c) (b ++ d) := fun z => by
  rw [List.filter_append, List.filter_append, h z, h2 z]
theorem Akin.flip {a b : List Fnd} (h : ∀ x ∈ a, ∀ y ∈ b, x.key ≠ y.key) : Akin (a ++ b) (b ++ a) := fun c => by
  rw [List.filter_append, List.filter_append]
  by_cases hc : ∃ x ∈ a, x.key = c
  · obtain ⟨x, hx, rfl⟩ := hc
    have : b.filter (fun y => y.key == x.key) = [] := by
      rw [List.filter_eq_nil_iff]
      intro y hy
      have := h x hx y hy
      simpa using fun e => this e.symm
    rw [this]
    simp
  · have : a.filter (fun y => y.key == c) = [] := by
      rw [List.filter_eq_nil_iff]
      intro y hy
      simpa using fun e => hc ⟨y, hy, e⟩
    rw [this]
    simp
theorem Akin.mem {l k : List Fnd} (h : Akin l k) (x : Fnd) : x ∈ l ↔ x ∈ k := by
  have := h x.key
  have e : ∀ m : List Fnd, x ∈ m ↔ x ∈ m.filter (fun y => y.key == x.key) := fun m => by simp
  rw [e l, e k, this]
/-- Two rows that ascend and are alike are the same. -/
theorem Akin.eq : ∀ {l k : List Fnd}, Akin l k → Asc l → Asc k → l = k := by
  intro l
  induction l with
  | nil =>
    intro k h _ _
    cases k with
    | nil => rfl
    | cons b k =>
      have := h b.key
      simp at this
  | cons a l ih =>
    intro k h ha hk
    cases k with
    | nil =>
      have := h a.key
      simp at this
    | cons b k =>
      have hab : a.key = b.key := by
        have h1 : b ∈ a :: l := (h.mem b).2 List.mem_cons_self
        have h2 : a ∈ b :: k := (h.mem a).1 List.mem_cons_self
        have c1 : a.key ≤ b.key := by
          rcases List.mem_cons.1 h1 with e | e
          · rw [e]; exact Int.le_refl _
          · exact (List.pairwise_cons.1 ha).1 b e
        have c2 : b.key ≤ a.key := by
          rcases List.mem_cons.1 h2 with e | e
          · rw [e]; exact Int.le_refl _
          · exact (List.pairwise_cons.1 hk).1 a e
        omega
      have h0 := h a.key
      rw [List.filter_cons_of_pos (by simp), List.filter_cons_of_pos (by simp [hab])] at h0
      injection h0 with e1 _
      subst e1
      congr 1
      refine ih (fun c => ?_) (List.pairwise_cons.1 ha).2 (List.pairwise_cons.1 hk).2
      have hc := h c
      by_cases e : a.key = c
      · rw [List.filter_cons_of_pos (by simp [e]), List.filter_cons_of_pos (by simp [e])] at hc
        injection hc
      · rw [List.filter_cons_of_neg (by simpa using e), List.filter_cons_of_neg (by simpa using e)] at hc
        exact hc
theorem Asc.app {a b : List Fnd} (ha : Asc a) (hb : Asc b) (h : ∀ x ∈ a, ∀ y ∈ b, x.key ≤ y.key) : Asc (a ++ b) := List.pairwise_append.2 ⟨ha, hb, h⟩
theorem Asc.left {a b : List Fnd} (h : Asc (a ++ b)) : Asc a := (List.pairwise_append.1 h).1
theorem Asc.right {a b : List Fnd} (h : Asc (a ++ b)) : Asc b := (List.pairwise_append.1 h).2.1
theorem Asc.across {a b : List Fnd} (h : Asc (a ++ b)) : ∀ x ∈ a, ∀ y ∈ b, x.key ≤ y.key := (List.pairwise_append.1 h).2.2
theorem Asc.le {l : List Fnd} (h : Asc l) {i j : Nat} {x y : Fnd} (hi : l[i]? = some x) (hj : l[j]? = some y) (hij : i ≤ j) : x.key ≤ y.key := by
  by_cases e : i = j
  · subst e
    rw [hi] at hj
    cases hj
    exact Int.le_refl _
  · obtain ⟨h1, e1⟩ := List.getElem?_eq_some_iff.1 hi
    obtain ⟨h2, e2⟩ := List.getElem?_eq_some_iff.1 hj
    rw [← e1, ← e2]
    exact List.pairwise_iff_getElem.1 h i j h1 h2 (by omega)
end Go.Proofs.YtcjhnoapjhohfaaGreatDoor.Words

/-
  The cells of what a scan found, in a row.
-/
namespace Go.Proofs.YtcjhnoapjhohfaaGreatDoor
open Go.RowKit
open Words

def fdVal (x : Fnd) : Value := .agg #[.int .i64 x.block, .int .i64 x.leaf, .int .i64 x.page.kind, .int .i64 x.page.seq, .int .i64 x.page.tx, .int .i64 x.page.part, .int .i64 x.page.count, .string x.page.text]
def fdCells (x : Fnd) : List Value := [.int .i64 x.block, .int .i64 x.leaf, .int .i64 x.page.kind, .int .i64 x.page.seq, .int .i64 x.page.tx, .int .i64 x.page.part, .int .i64 x.page.count, .string x.page.text]
theorem infoFound : (Tryz.prog.info? 77).map (fun i => (i.zero, i.size, i.bytes)) = some (some (.agg #[.int .i64 0, .int .i64 0, .int .i64 0, .int .i64 0, .int .i64 0, .int .i64 0, .int .i64 0, .string ⟨#[]⟩]), 8, 72) := by kernel_rfl
def fcells (l : List Fnd) : List Value := l.flatMap fdCells
theorem fcells_len (l : List Fnd) : (fcells l).length = l.length * 8 := by
  induction l with
  | nil => rfl
  | cons x l ih => simp only [fcells, List.flatMap_cons, List.length_append, List.length_cons] at ih ⊢; rw [ih]; show 8 + _ = _; omega
theorem fcells_snoc (l : List Fnd) (x : Fnd) : fcells l ++ fdCells x = fcells (l ++ [x]) := by simp [fcells]
theorem fd_one (x : Fnd) : ∀ u ∈ fdCells x, u.oneCell' = true := by
  intro u hu
  simp [fdCells] at hu
  rcases hu with h | h | h | h | h | h | h | h <;> subst h <;> rfl
theorem fcells_at : ∀ (l : List Fnd) (i : Nat) (x : Fnd), l[i]? = some x → ∀ j v, (fdCells x)[j]? = some v → (fcells l)[i * 8 + j]? = some v := by
  intro l
  induction l with
  | nil => intro i x h; simp at h
  | cons y l ih =>
    intro i x h j v hv
    have hj : j < 8 := (List.getElem?_eq_some_iff.1 hv).1
    have e : fcells (y :: l) = fdCells y ++ fcells l := by simp [fcells]
    rw [e]
    cases i with
    | zero =>
      simp at h
      subst h
      rw [List.getElem?_append_left (by show 0 * 8 + j < 8; omega)]
      simpa using hv
    | succ i =>
      rw [List.getElem?_cons_succ] at h
      rw [List.getElem?_append_right (by show 8 ≤ (i + 1) * 8 + j; omega)]
      have : (i + 1) * 8 + j - (fdCells y).length = i * 8 + j := by show (i + 1) * 8 + j - 8 = _; omega
      rw [this]
      exact ih i x h j v hv
/-- The cells of what a scan found, by their places. -/
theorem fcells_back (M : List Fnd) (i : Nat) (v : Value) (h : (fcells M)[i]? = some v) : ∃ x, M[i / 8]? = some x ∧ (fdCells x)[i % 8]? = some v := by
  have hl := (List.getElem?_eq_some_iff.1 h).1
  rw [fcells_len] at hl
  obtain ⟨x, hx⟩ : ∃ x, M[i / 8]? = some x := ⟨_, List.getElem?_eq_getElem (by omega)⟩
  obtain ⟨u, hu⟩ : ∃ u, (fdCells x)[i % 8]? = some u := ⟨_, List.getElem?_eq_getElem (by show i % 8 < 8; omega)⟩
  have := fcells_at M (i / 8) x hx (i % 8) u hu
  rw [show i / 8 * 8 + i % 8 = i by omega, h] at this
  cases this
  exact ⟨x, hx, hu⟩
end Go.Proofs.YtcjhnoapjhohfaaGreatDoor

/-
  Rows of what a scan found that can be read.
-/
namespace Go.Proofs.YtcjhnoapjhohfaaGreatDoor
open Go.RowKit
open Words

def FdRd (w : World) (a : Option Addr) (len : Nat) (ls : List Fnd) : Prop :=
  ls.length = len ∧ len ≤ maxLen ∧ (0 < len → ∃ b off, a = some ⟨b, off, none⟩ ∧ b < w.heap.size ∧ ∀ i t, ls[i]? = some t → ∀ j v, (fdCells t)[j]? = some v → w.cell? ⟨b, off + (i * 8 + j), none⟩ = some v)
theorem FdRd.below {w w' : World} {a : Option Addr} {len : Nat} {ls : List Fnd} (h : FdRd w a len ls) (hb : Below w.heap.size w w') : FdRd w' a len ls := by
  obtain ⟨h1, h2, h4⟩ := h
  refine ⟨h1, h2, fun h0 => ?_⟩
  obtain ⟨b, off, e, hl, hc⟩ := h4 h0
  have hs := hb.size
  exact ⟨b, off, e, by omega, fun i t ht j v hv => (hb.cell (show b < w.heap.size from hl)).trans (hc i t ht j v hv)⟩
theorem FdRd.at {w : World} {a : Option Addr} {len : Nat} {ls : List Fnd} (h : FdRd w a len ls) {k : Nat} {t : Fnd} (hk : ls[k]? = some t) :
    ∃ b off, a = some ⟨b, off, none⟩ ∧ b < w.heap.size ∧ w.cell? ⟨b, off + k * 8, none⟩ = some (.int .i64 t.block) ∧ w.cell? ⟨b, off + k * 8 + 1, none⟩ = some (.int .i64 t.leaf) ∧
      w.cell? ⟨b, off + k * 8 + 2, none⟩ = some (.int .i64 t.page.kind) ∧ w.cell? ⟨b, off + k * 8 + 2 + 1, none⟩ = some (.int .i64 t.page.seq) ∧ w.cell? ⟨b, off + k * 8 + 2 + 2, none⟩ = some (.int .i64 t.page.tx) ∧
      w.cell? ⟨b, off + k * 8 + 2 + 3, none⟩ = some (.int .i64 t.page.part) ∧ w.cell? ⟨b, off + k * 8 + 2 + 4, none⟩ = some (.int .i64 t.page.count) ∧ w.cell? ⟨b, off + k * 8 + 2 + 5, none⟩ = some (.string t.page.text) := by
  obtain ⟨h1, -, h4⟩ := h
  have hl := (List.getElem?_eq_some_iff.1 hk).1
  obtain ⟨b, off, e, hb, hc⟩ := h4 (by omega)
  have hc := hc k t hk
  refine ⟨b, off, e, hb, hc 0 _ rfl, ?_, ?_, ?_, ?_, ?_, ?_, ?_⟩
  · have := hc 1 _ rfl; rwa [← Nat.add_assoc] at this
  · have := hc 2 _ rfl; rwa [← Nat.add_assoc] at this
  · have := hc 3 _ rfl; rwa [← Nat.add_assoc] at this
  · have := hc 4 _ rfl; rwa [← Nat.add_assoc] at this
  · have := hc 5 _ rfl; rwa [← Nat.add_assoc] at this
  · have := hc 6 _ rfl; rwa [← Nat.add_assoc] at this
  · have := hc 7 _ rfl; rwa [← Nat.add_assoc] at this
theorem Sli.fdrd {lo hi n c : Nat} {ad : Option Addr} {M : List Fnd} {W : World} (h : Sli 77 lo hi (.slice ad n c) n (fcells M) W) (hn : M.length = n) (hm : n ≤ maxLen) (hh : hi ≤ W.heap.size) : FdRd W ad n M := by
  refine ⟨hn, hm, fun h0 => ?_⟩
  rcases h with ⟨e, rfl⟩ | ⟨g, cap, e, h1, h2, h3⟩
  · omega
  · injection e with e1 e2 e3
    refine ⟨g, 0, e1, by omega, fun i t hi j v hj => ?_⟩
    rw [Nat.zero_add]
    exact h3.cell (fcells_at M i t hi j v hj)
end Go.Proofs.YtcjhnoapjhohfaaGreatDoor

/-
  Plain facts on sums of 32 bits: no Go in them.
-/
namespace Go.Proofs.YtcjhnoapjhohfaaGreatDoor.Sums

def poly : Nat := 3558460437
def half (x : Nat) : Nat := x / 2 ^^^ (if x % 2 = 1 then poly else 0)
def h4 (x : Nat) : Nat := half (half (half (half x)))
/-- A sum and one byte more. -/
def sumB (s : Nat) (b : UInt8) : Nat := h4 (h4 (s ^^^ b.toNat))
/-- A sum and more bytes. -/
def sumL (s : Nat) (l : List UInt8) : Nat := l.foldl sumB s

def tab : List Nat := [0, 1166650509, 2333301018, 3466261911, 3189058079, 4221339282, 889615109, 1888477064, 3558460437, 2442158232, 1594529039, 444807554, 1779230218, 797264519, 3776954128, 2761298845]

theorem xor_right_cancel {x y z : Nat} (h : x ^^^ z = y ^^^ z) : x = y := by
  have := congrArg (· ^^^ z) h
  simpa [Nat.xor_assoc] using this
theorem xor_left_cancel {x y z : Nat} (h : z ^^^ x = z ^^^ y) : x = y := by
  rw [Nat.xor_comm z, Nat.xor_comm z] at h
  exact xor_right_cancel h
theorem mod2_lt (x : Nat) : x % 2 = 0 ∨ x % 2 = 1 := by omega

theorem half_lt (x : Nat) (h : x < 4294967296) : half x < 4294967296 := by
  unfold half
  refine Nat.xor_lt_two_pow (n := 32) (by omega) ?_
  split <;> simp [poly]
theorem h4_lt (x : Nat) (h : x < 4294967296) : h4 x < 4294967296 := half_lt _ (half_lt _ (half_lt _ (half_lt _ h)))
theorem byte_lt (b : UInt8) : b.toNat < 256 := by have := b.toNat_lt; omega
theorem xor_lt32 (x y : Nat) (h : x < 4294967296) (k : y < 4294967296) : x ^^^ y < 4294967296 := Nat.xor_lt_two_pow (n := 32) h k
theorem xb_lt (s : Nat) (b : UInt8) (h : s < 4294967296) : s ^^^ b.toNat < 4294967296 := xor_lt32 _ _ h (by have := byte_lt b; omega)
theorem sumB_lt (s : Nat) (b : UInt8) (h : s < 4294967296) : sumB s b < 4294967296 := h4_lt _ (h4_lt _ (xb_lt s b h))
theorem sumL_lt (l : List UInt8) : ∀ s, s < 4294967296 → sumL s l < 4294967296 := by
  induction l with
  | nil => intro s h; exact h
  | cons a l ih => intro s h; exact ih _ (sumB_lt s a h)
theorem sumL_app (s : Nat) (l k : List UInt8) : sumL s (l ++ k) = sumL (sumL s l) k := by simp [sumL]
theorem sumL_take (s : Nat) (l : List UInt8) (k : Nat) (h : k < l.length) : sumL s (l.take (k + 1)) = sumB (sumL s (l.take k)) l[k] := by
  rw [List.take_succ_eq_append_getElem h, sumL_app]; rfl

theorem xor_half (x y : Nat) : half (x ^^^ y) = half x ^^^ half y := by
  unfold half
  have e1 : (x ^^^ y) / 2 = x / 2 ^^^ y / 2 := by
    have := Nat.shiftRight_xor_distrib (a := x) (b := y) (i := 1)
    simpa [Nat.shiftRight_eq_div_pow] using this
  have e2 : (x ^^^ y) % 2 = (x % 2) ^^^ (y % 2) := by
    have := Nat.xor_mod_two_pow (a := x) (b := y) (n := 1)
    simpa using this
  rw [e1, e2]
  rcases mod2_lt x with hx | hx <;> rcases mod2_lt y with hy | hy <;> simp [hx, hy]
  · rw [Nat.xor_assoc]
  · rw [Nat.xor_assoc, Nat.xor_assoc]; congr 1; exact Nat.xor_comm _ _
  · rw [Nat.xor_assoc, ← Nat.xor_assoc poly, Nat.xor_comm poly, Nat.xor_assoc (y / 2), Nat.xor_self, Nat.xor_zero]
theorem xor_h4 (x y : Nat) : h4 (x ^^^ y) = h4 x ^^^ h4 y := by simp only [h4, xor_half]

theorem half_two (x : Nat) : half (2 * x) = x := by
  unfold half
  have e1 : 2 * x / 2 = x := by omega
  have e2 : 2 * x % 2 = 0 := by omega
  rw [e1, e2]; simp
theorem h4_16 (q : Nat) : h4 (16 * q) = q := by
  unfold h4
  rw [show 16 * q = 2 * (2 * (2 * (2 * q))) by omega, half_two, half_two, half_two, half_two]
theorem h4_low : ∀ r : Fin 16, h4 r.val = tab[r.val]'(by simp [tab]) := by decide
theorem split16 (x : Nat) : x = (16 * (x / 16)) ^^^ (x % 16) := by
  have h := Nat.two_pow_add_eq_or_of_lt (i := 4) (b := x % 16) (by omega) (x / 16)
  have e : 16 * (x / 16) ^^^ (x % 16) = 16 * (x / 16) ||| (x % 16) := by
    apply Nat.eq_of_testBit_eq
    intro i
    rw [Nat.testBit_xor, Nat.testBit_or]
    have e16 : (16 : Nat) = 2 ^ 4 := rfl
    by_cases hi : i < 4
    · have : (16 * (x / 16)).testBit i = false := by rw [e16, Nat.testBit_two_pow_mul]; simp; omega
      simp [this]
    · have : (x % 16).testBit i = false := by rw [e16, Nat.testBit_mod_two_pow]; simp; omega
      simp [this]
  rw [e]
  simp at h
  omega
theorem tab_len : tab.length = 16 := rfl
theorem h4_tab (x : Nat) (h : x % 16 < tab.length) : h4 x = x / 16 ^^^ tab[x % 16] := by
  have e := h4_low ⟨x % 16, by omega⟩
  simp only at e
  rw [← e]
  conv => lhs; rw [split16 x, xor_h4, h4_16]

theorem half_inj (x y : Nat) (hx : x < 4294967296) (hy : y < 4294967296) (h : half x = half y) : x = y := by
  have top : ∀ z, z < 4294967296 → (half z).testBit 31 = decide (z % 2 = 1) := by
    intro z hz
    unfold half
    rw [Nat.testBit_xor]
    have : (z / 2).testBit 31 = false := Nat.testBit_lt_two_pow (by omega)
    rw [this]
    rcases mod2_lt z with h | h <;> simp [h]
    decide
  have t := top x hx
  rw [h, top y hy] at t
  unfold half at h
  have em : x % 2 = y % 2 := by
    rcases mod2_lt x with h1 | h1 <;> rcases mod2_lt y with h2 | h2 <;> simp [h1, h2] at t ⊢
  rw [em] at h
  have := xor_right_cancel h
  omega
theorem h4_inj (x y : Nat) (hx : x < 4294967296) (hy : y < 4294967296) (h : h4 x = h4 y) : x = y :=
  half_inj _ _ hx hy (half_inj _ _ (half_lt _ hx) (half_lt _ hy) (half_inj _ _ (half_lt _ (half_lt _ hx)) (half_lt _ (half_lt _ hy)) (half_inj _ _ (half_lt _ (half_lt _ (half_lt _ hx))) (half_lt _ (half_lt _ (half_lt _ hy))) h)))
theorem sumB_inj (s t : Nat) (b c : UInt8) (hs : s < 4294967296) (ht : t < 4294967296) (h : sumB s b = sumB t c) : s ^^^ b.toNat = t ^^^ c.toNat :=
  h4_inj _ _ (xb_lt _ _ hs) (xb_lt _ _ ht) (h4_inj _ _ (h4_lt _ (xb_lt _ _ hs)) (h4_lt _ (xb_lt _ _ ht)) h)
theorem sumL_inj (l : List UInt8) : ∀ (s t : Nat), s < 4294967296 → t < 4294967296 → sumL s l = sumL t l → s = t := by
  induction l with
  | nil => intro s t _ _ h; exact h
  | cons a l ih =>
    intro s t hs ht h
    have := sumB_inj s t a a hs ht (ih _ _ (sumB_lt s a hs) (sumB_lt t a ht) h)
    exact xor_right_cancel this
/-- One byte turned turns the sum. -/
theorem sumL_turned (s : Nat) (hs : s < 4294967296) (l k : List UInt8) (b c : UInt8) (h : sumL s (l ++ b :: k) = sumL s (l ++ c :: k)) : b = c := by
  rw [sumL_app, sumL_app] at h
  have hl := sumL_lt l s hs
  have h1 := sumL_inj k _ _ (sumB_lt _ b hl) (sumB_lt _ c hl) h
  have h2 := xor_left_cancel (sumB_inj _ _ b c hl hl h1)
  exact UInt8.toNat_inj.1 h2

/-- A sum in four bytes, the highest first. -/
def four (x : Nat) : List UInt8 := [UInt8.ofNat (x / 16777216 % 256), UInt8.ofNat (x / 65536 % 256), UInt8.ofNat (x / 256 % 256), UInt8.ofNat (x % 256)]
theorem four_len (x : Nat) : (four x).length = 4 := rfl
theorem ofNat_inj (a b : Nat) (ha : a < 256) (hb : b < 256) (h : UInt8.ofNat a = UInt8.ofNat b) : a = b := by
  have := congrArg UInt8.toNat h
  simp at this
  omega
theorem four_inj (x y : Nat) (hx : x < 4294967296) (hy : y < 4294967296) (h : four x = four y) : x = y := by
  simp only [four, List.cons.injEq, and_true] at h
  obtain ⟨h1, h2, h3, h4⟩ := h
  have := ofNat_inj _ _ (by omega) (by omega) h1
  have := ofNat_inj _ _ (by omega) (by omega) h2
  have := ofNat_inj _ _ (by omega) (by omega) h3
  have := ofNat_inj _ _ (by omega) (by omega) h4
  omega
def start : Nat := 4294967295
def sumOf (l : List UInt8) : Nat := sumL start l
theorem sumOf_lt (l : List UInt8) : sumOf l < 4294967296 := sumL_lt l _ (by decide)
def sealL (l : List UInt8) : List UInt8 := l ++ four (sumOf l)
theorem seal_len (l : List UInt8) : (sealL l).length = l.length + 4 := by simp [sealL, four]
/-- A sealed text with one byte turned is no sealed text. -/
theorem seal_turned (l m k1 k2 : List UInt8) (b c : UInt8) (hbc : b ≠ c) (h1 : sealL l = k1 ++ b :: k2) (h2 : sealL m = k1 ++ c :: k2) : False := by
  have e1 := congrArg List.length h1
  have e2 := congrArg List.length h2
  rw [seal_len] at e1 e2
  simp at e1 e2
  have hml : m.length = l.length := by omega
  by_cases hk : k1.length < l.length
  · -- the byte lies in the text
    have t1 : l = k1 ++ b :: k2.take (l.length - k1.length - 1) := by
      have := congrArg (List.take l.length) h1
      rw [sealL, List.take_left] at this
      rw [this, List.take_append, List.take_of_length_le (by omega)]
      rw [show l.length - k1.length = (l.length - k1.length - 1) + 1 by omega, List.take_succ_cons]
      simp
    have t2 : m = k1 ++ c :: k2.take (l.length - k1.length - 1) := by
      have := congrArg (List.take m.length) h2
      rw [sealL, List.take_left] at this
      rw [this, List.take_append, List.take_of_length_le (by omega), hml]
      rw [show l.length - k1.length = (l.length - k1.length - 1) + 1 by omega, List.take_succ_cons]
      simp
    have d1 := congrArg (List.drop l.length) h1
    have d2 := congrArg (List.drop m.length) h2
    rw [sealL, List.drop_left] at d1 d2
    rw [hml] at d2
    rw [List.drop_append, List.drop_of_length_le (by omega), show l.length - k1.length = (l.length - k1.length - 1) + 1 by omega, List.drop_succ_cons] at d1 d2
    have d3 : sumOf l = sumOf m := four_inj _ _ (sumOf_lt l) (sumOf_lt m) (d1.trans d2.symm)
    rw [t1, t2] at d3
    exact hbc (sumL_turned start (by decide) _ _ b c d3)
  · have t1 : l = k1.take l.length := by
      have := congrArg (List.take l.length) h1
      rw [sealL, List.take_left, List.take_append_of_le_length (by omega)] at this
      exact this
    have t2 : m = k1.take l.length := by
      have := congrArg (List.take m.length) h2
      rw [sealL, List.take_left, List.take_append_of_le_length (by omega), hml] at this
      exact this
    have e : m = l := t2.trans t1.symm
    subst e
    rw [h1] at h2
    have := List.append_cancel_left h2
    simp at this
    exact hbc this
end Go.Proofs.YtcjhnoapjhohfaaGreatDoor.Sums
