/-
  TxPC; SoMath; FdC; FdR; TxC
-/
import Derived.Test.YtogfdhfmamabiaaTxRow
import Derived.Test.YtogfdhfmamabiaaTxMath2
import Derived.Test.YtogfdhfmamabiaaPk0
import Derived.Test.YtogfdhfmamabiaaPgMath
import Derived.Test.YtogfdhfmamabiaaPk2
import Derived.Test.YtogfdhfmamabiaaTxN
/-
  What TxPages does.
-/
namespace Go.Proofs.Ytogfdhfmamabiaa
open Go.RowKit
open Words

/-- What a TxPages does. -/
def TxPagesC (f : Nat) : Prop := ∀ (seq tx : Int) (ad : Option Addr) (len cap : Nat) (l : List Rc) (w : World), len ≤ 33554432 → RcRow w ad len (l.map Rc.tu) → Calls Try.prog f #[.int .i64 seq, .int .i64 tx, .slice ad len cap] w (PgOut w (txOut seq tx l) (@decide (TxOk seq tx l) (decTx seq tx l)))
end Go.Proofs.Ytogfdhfmamabiaa

/-
  Plain facts on stable sorting by a key: no Go in them.
-/
namespace Go.Proofs.Ytogfdhfmamabiaa.Words

structure Fnd where
  block : Int
  leaf : Int
  page : Pg

def Fnd.key (x : Fnd) : Int := x.page.seq

/-- A row that ascends. -/
def Asc (l : List Fnd) : Prop := l.Pairwise (fun a b => a.key ≤ b.key)
/-- Two rows that tell, of each key, the same elements in the same order. -/
def Akin (l k : List Fnd) : Prop := ∀ c : Int, l.filter (fun x => x.key == c) = k.filter (fun x => x.key == c)

theorem Akin.refl (l : List Fnd) : Akin l l := fun _ => rfl
theorem Akin.symm {l k : List Fnd} (h : Akin l k) : Akin k l := fun c => (h c).symm
theorem Akin.trans {l k m : List Fnd} (h : Akin l k) (h2 : Akin k m) : Akin l m := fun c => (h c).trans (h2 c)
theorem Akin.app {a b c d : List Fnd} (h : Akin a b) (h2 : Akin c d) : Akin (a ++ c) (b ++ d) := fun z => by
  rw [List.filter_append, List.filter_append, h z, h2 z]
theorem Akin.flip {a b : List Fnd} (h : ∀ x ∈ a, ∀ y ∈ b, x.key ≠ y.key) : Akin (a ++ b) (b ++ a) := fun c => by
  rw [List.filter_append, List.filter_append]
  by_cases hc : ∃ x ∈ a, x.key = c
  · obtain ⟨x, hx, rfl⟩ := hc
    have : b.filter (fun y => y.key == x.key) = [] := by
      rw [List.filter_eq_nil_iff]
      intro y hy
      have := h x hx y hy
      simpa using fun e => this e.symm
    rw [this]
    simp
  · have : a.filter (fun y => y.key == c) = [] := by
      rw [List.filter_eq_nil_iff]
      intro y hy
      simpa using fun e => hc ⟨y, hy, e⟩
    rw [this]
    simp
theorem Akin.mem {l k : List Fnd} (h : Akin l k) (x : Fnd) : x ∈ l ↔ x ∈ k := by
  have := h x.key
  have e : ∀ m : List Fnd, x ∈ m ↔ x ∈ m.filter (fun y => y.key == x.key) := fun m => by simp
  rw [e l, e k, this]
/-- Two rows that ascend and are alike are the same. -/
theorem Akin.eq : ∀ {l k : List Fnd}, Akin l k → Asc l → Asc k → l = k := by
  intro l
  induction l with
  | nil =>
    intro k h _ _
    cases k with
    | nil => rfl
    | cons b k =>
      have := h b.key
      simp at this
  | cons a l ih =>
    intro k h ha hk
    cases k with
    | nil =>
      have := h a.key
      simp at this
    | cons b k =>
      have hab : a.key = b.key := by
        have h1 : b ∈ a :: l := (h.mem b).2 List.mem_cons_self
        have h2 : a ∈ b :: k := (h.mem a).1 List.mem_cons_self
        have c1 : a.key ≤ b.key := by
          rcases List.mem_cons.1 h1 with e | e
          · rw [e]; exact Int.le_refl _
          · exact (List.pairwise_cons.1 ha).1 b e
        have c2 : b.key ≤ a.key := by
          rcases List.mem_cons.1 h2 with e | e
          · rw [e]; exact Int.le_refl _
          · exact (List.pairwise_cons.1 hk).1 a e
        omega
      have h0 := h a.key
      rw [List.filter_cons_of_pos (by simp), List.filter_cons_of_pos (by simp [hab])] at h0
      injection h0 with e1 _
      subst e1
      congr 1
      refine ih (fun c => ?_) (List.pairwise_cons.1 ha).2 (List.pairwise_cons.1 hk).2
      have hc := h c
      by_cases e : a.key = c
      · rw [List.filter_cons_of_pos (by simp [e]), List.filter_cons_of_pos (by simp [e])] at hc
        injection hc
      · rw [List.filter_cons_of_neg (by simpa using e), List.filter_cons_of_neg (by simpa using e)] at hc
        exact hc
theorem Asc.app {a b : List Fnd} (ha : Asc a) (hb : Asc b) (h : ∀ x ∈ a, ∀ y ∈ b, x.key ≤ y.key) : Asc (a ++ b) := List.pairwise_append.2 ⟨ha, hb, h⟩
theorem Asc.left {a b : List Fnd} (h : Asc (a ++ b)) : Asc a := (List.pairwise_append.1 h).1
theorem Asc.right {a b : List Fnd} (h : Asc (a ++ b)) : Asc b := (List.pairwise_append.1 h).2.1
theorem Asc.across {a b : List Fnd} (h : Asc (a ++ b)) : ∀ x ∈ a, ∀ y ∈ b, x.key ≤ y.key := (List.pairwise_append.1 h).2.2
theorem Asc.le {l : List Fnd} (h : Asc l) {i j : Nat} {x y : Fnd} (hi : l[i]? = some x) (hj : l[j]? = some y) (hij : i ≤ j) : x.key ≤ y.key := by
  by_cases e : i = j
  · subst e
    rw [hi] at hj
    cases hj
    exact Int.le_refl _
  · obtain ⟨h1, e1⟩ := List.getElem?_eq_some_iff.1 hi
    obtain ⟨h2, e2⟩ := List.getElem?_eq_some_iff.1 hj
    rw [← e1, ← e2]
    exact List.pairwise_iff_getElem.1 h i j h1 h2 (by omega)
theorem akin_len {l k : List Fnd} (h : Akin l k) : l.length = k.length := by
  classical
  have : l.Perm k := List.perm_iff_count.2 (fun x => by
    have h1 := h x.key
    have e : ∀ m : List Fnd, List.count x (m.filter (fun y => y.key == x.key)) = List.count x m := fun m => List.count_filter (by simp)
    rw [← e l, ← e k, h1])
  exact this.length_eq
end Go.Proofs.Ytogfdhfmamabiaa.Words

/-
  The cells of what a scan found, in a row.
-/
namespace Go.Proofs.Ytogfdhfmamabiaa
open Go.RowKit
open Words

def fdVal (x : Fnd) : Value := .agg #[.int .i64 x.block, .int .i64 x.leaf, .int .i64 x.page.kind, .int .i64 x.page.seq, .int .i64 x.page.tx, .int .i64 x.page.part, .int .i64 x.page.count, .string x.page.text]
def fdCells (x : Fnd) : List Value := [.int .i64 x.block, .int .i64 x.leaf, .int .i64 x.page.kind, .int .i64 x.page.seq, .int .i64 x.page.tx, .int .i64 x.page.part, .int .i64 x.page.count, .string x.page.text]
theorem infoFound : (Try.prog.info? 42).map (fun i => (i.zero, i.size, i.bytes)) = some (some (.agg #[.int .i64 0, .int .i64 0, .int .i64 0, .int .i64 0, .int .i64 0, .int .i64 0, .int .i64 0, .string ⟨#[]⟩]), 8, 72) := by kernel_rfl
def fcells (l : List Fnd) : List Value := l.flatMap fdCells
theorem fcells_len (l : List Fnd) : (fcells l).length = l.length * 8 := by
  induction l with
  | nil => rfl
  | cons x l ih => simp only [fcells, List.flatMap_cons, List.length_append, List.length_cons] at ih ⊢; rw [ih]; show 8 + _ = _; omega
theorem fcells_snoc (l : List Fnd) (x : Fnd) : fcells l ++ fdCells x = fcells (l ++ [x]) := by simp [fcells]
theorem fd_one (x : Fnd) : ∀ u ∈ fdCells x, u.oneCell' = true := by
  intro u hu
  simp [fdCells] at hu
  rcases hu with h | h | h | h | h | h | h | h <;> subst h <;> rfl
theorem fcells_at : ∀ (l : List Fnd) (i : Nat) (x : Fnd), l[i]? = some x → ∀ j v, (fdCells x)[j]? = some v → (fcells l)[i * 8 + j]? = some v := by
  intro l
  induction l with
  | nil => intro i x h; simp at h
  | cons y l ih =>
    intro i x h j v hv
    have hj : j < 8 := (List.getElem?_eq_some_iff.1 hv).1
    have e : fcells (y :: l) = fdCells y ++ fcells l := by simp [fcells]
    rw [e]
    cases i with
    | zero =>
      simp at h
      subst h
      rw [List.getElem?_append_left (by show 0 * 8 + j < 8; omega)]
      simpa using hv
    | succ i =>
      rw [List.getElem?_cons_succ] at h
      rw [List.getElem?_append_right (by show 8 ≤ (i + 1) * 8 + j; omega)]
      have : (i + 1) * 8 + j - (fdCells y).length = i * 8 + j := by show (i + 1) * 8 + j - 8 = _; omega
      rw [this]
      exact ih i x h j v hv
/-- The cells of what a scan found, by their places. -/
theorem fcells_back (M : List Fnd) (i : Nat) (v : Value) (h : (fcells M)[i]? = some v) : ∃ x, M[i / 8]? = some x ∧ (fdCells x)[i % 8]? = some v := by
  have hl := (List.getElem?_eq_some_iff.1 h).1
  rw [fcells_len] at hl
  obtain ⟨x, hx⟩ : ∃ x, M[i / 8]? = some x := ⟨_, List.getElem?_eq_getElem (by omega)⟩
  obtain ⟨u, hu⟩ : ∃ u, (fdCells x)[i % 8]? = some u := ⟨_, List.getElem?_eq_getElem (by show i % 8 < 8; omega)⟩
  have := fcells_at M (i / 8) x hx (i % 8) u hu
  rw [show i / 8 * 8 + i % 8 = i by omega, h] at this
  cases this
  exact ⟨x, hx, hu⟩
end Go.Proofs.Ytogfdhfmamabiaa

/-
  Rows of what a scan found that can be read.
-/
namespace Go.Proofs.Ytogfdhfmamabiaa
open Go.RowKit
open Words

def FdRd (w : World) (a : Option Addr) (len : Nat) (ls : List Fnd) : Prop :=
  ls.length = len ∧ len ≤ maxLen ∧ (0 < len → ∃ b off, a = some ⟨b, off, none⟩ ∧ b < w.heap.size ∧ ∀ i t, ls[i]? = some t → ∀ j v, (fdCells t)[j]? = some v → w.cell? ⟨b, off + (i * 8 + j), none⟩ = some v)
theorem FdRd.below {w w' : World} {a : Option Addr} {len : Nat} {ls : List Fnd} (h : FdRd w a len ls) (hb : Below w.heap.size w w') : FdRd w' a len ls := by
  obtain ⟨h1, h2, h4⟩ := h
  refine ⟨h1, h2, fun h0 => ?_⟩
  obtain ⟨b, off, e, hl, hc⟩ := h4 h0
  have hs := hb.size
  exact ⟨b, off, e, by omega, fun i t ht j v hv => (hb.cell (show b < w.heap.size from hl)).trans (hc i t ht j v hv)⟩
theorem FdRd.at {w : World} {a : Option Addr} {len : Nat} {ls : List Fnd} (h : FdRd w a len ls) {k : Nat} {t : Fnd} (hk : ls[k]? = some t) :
    ∃ b off, a = some ⟨b, off, none⟩ ∧ b < w.heap.size ∧ w.cell? ⟨b, off + k * 8, none⟩ = some (.int .i64 t.block) ∧ w.cell? ⟨b, off + k * 8 + 1, none⟩ = some (.int .i64 t.leaf) ∧
      w.cell? ⟨b, off + k * 8 + 2, none⟩ = some (.int .i64 t.page.kind) ∧ w.cell? ⟨b, off + k * 8 + 2 + 1, none⟩ = some (.int .i64 t.page.seq) ∧ w.cell? ⟨b, off + k * 8 + 2 + 2, none⟩ = some (.int .i64 t.page.tx) ∧
      w.cell? ⟨b, off + k * 8 + 2 + 3, none⟩ = some (.int .i64 t.page.part) ∧ w.cell? ⟨b, off + k * 8 + 2 + 4, none⟩ = some (.int .i64 t.page.count) ∧ w.cell? ⟨b, off + k * 8 + 2 + 5, none⟩ = some (.string t.page.text) := by
  obtain ⟨h1, -, h4⟩ := h
  have hl := (List.getElem?_eq_some_iff.1 hk).1
  obtain ⟨b, off, e, hb, hc⟩ := h4 (by omega)
  have hc := hc k t hk
  refine ⟨b, off, e, hb, hc 0 _ rfl, ?_, ?_, ?_, ?_, ?_, ?_, ?_⟩
  · have := hc 1 _ rfl; rwa [← Nat.add_assoc] at this
  · have := hc 2 _ rfl; rwa [← Nat.add_assoc] at this
  · have := hc 3 _ rfl; rwa [← Nat.add_assoc] at this
  · have := hc 4 _ rfl; rwa [← Nat.add_assoc] at this
  · have := hc 5 _ rfl; rwa [← Nat.add_assoc] at this
  · have := hc 6 _ rfl; rwa [← Nat.add_assoc] at this
  · have := hc 7 _ rfl; rwa [← Nat.add_assoc] at this
theorem Sli.fdrd {lo hi n c : Nat} {ad : Option Addr} {M : List Fnd} {W : World} (h : Sli 42 lo hi (.slice ad n c) n (fcells M) W) (hn : M.length = n) (hm : n ≤ maxLen) (hh : hi ≤ W.heap.size) : FdRd W ad n M := by
  refine ⟨hn, hm, fun h0 => ?_⟩
  rcases h with ⟨e, rfl⟩ | ⟨g, cap, e, h1, h2, h3⟩
  · omega
  · injection e with e1 e2 e3
    refine ⟨g, 0, e1, by omega, fun i t hi j v hj => ?_⟩
    rw [Nat.zero_add]
    exact h3.cell (fcells_at M i t hi j v hj)
end Go.Proofs.Ytogfdhfmamabiaa

/-
  What TxPages, Gather and SinceBase do.
-/
namespace Go.Proofs.Ytogfdhfmamabiaa
open Go.RowKit
open Words

/-- What a Gather does. -/
def GatherC (f : Nat) : Prop := ∀ (ad : Option Addr) (len cap : Nat) (M : List Fnd) (w : World), len ≤ 1048576 → sumF (fun p => p.text.size) (M.map Fnd.page) ≤ 1048576 → FdRd w ad len M → Calls Try.prog f #[.slice ad len cap] w (TxOut w (gatherP (M.map Fnd.page)))
/-- What a SinceBase does. -/
def SinceC (f : Nat) : Prop := ∀ (ad : Option Addr) (len cap : Nat) (rs : List Xw) (L : List TxR) (w : World), len ≤ 1048576 → len ≤ cap → (∀ r ∈ rs, r.2.2.2.length ≤ 1048576) → rs.map xtell = L.map TxR.tu → TxRd w ad len rs → Calls Try.prog f #[.slice ad len cap] w (TxOut w (sinceP L))
theorem XOwn.cap {W : World} {B n c : Nat} {ad : Option Addr} {rs : List Xw} (h : XOwn W B (.slice ad n c) rs) : n ≤ c := by
  rcases h.1.2 with ⟨e, -⟩ | ⟨g, cap, cur, e, -, -, h1, -⟩
  · cases e; exact Nat.le_refl _
  · injection e with e1 e2 e3
    omega
theorem TxOut.rows {w w' : World} {L : List TxR} {e : Ending} (h : TxOut w L e w') {n : Nat} (hn : L.length = n) : ∃ (ad : Option Addr) (c : Nat) (rs : List Xw), e = .returned (.slice ad n c) ∧ rs.length = n ∧ rs.map xtell = L.map TxR.tu ∧ XOwn w' w.heap.size (.slice ad n c) rs ∧ Below w.heap.size w w' := by
  obtain ⟨uv, rs, rfl, hx, ht, hb⟩ := h
  have hl : rs.length = n := by have := congrArg List.length ht; simp only [List.length_map] at this; omega
  obtain ⟨ad, c, rfl⟩ := hx.form
  rw [hl] at hx ⊢
  exact ⟨ad, c, rs, rfl, hl, ht, hx, hb⟩
end Go.Proofs.Ytogfdhfmamabiaa
