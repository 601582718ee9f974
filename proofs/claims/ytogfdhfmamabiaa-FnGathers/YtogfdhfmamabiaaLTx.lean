/-
  The local transaction of a gatherer, and what it answers.
-/
import Derived.Test.YtogfdhfmamabiaaTxN
import Derived.Test.YtogfdhfmamabiaaTxMath2
import Derived.Test.YtogfdhfmamabiaaPk25
namespace Go.Proofs.Ytogfdhfmamabiaa
open Go.RowKit
open Words

/-- The result's cell, and the transaction that is gathered, in two blocks of the call's own. -/
def LT (w W : World) (tx sq : Int) : Prop :=
  Below w.heap.size w W ∧ W.heap[w.heap.size]? = some (.cells #[.int .i64 0, .int .i64 0, .slice none 0 0] 31 (0, 0)) ∧ W.heap[w.heap.size + 1]? = some (.cells #[.int .i64 tx, .int .i64 sq, .slice none 0 0] 31 (0, 0))
theorem LT.below {w W W' : World} {tx sq : Int} (h : LT w W tx sq) (b : Below W.heap.size W W') : LT w W' tx sq :=
  ⟨h.1.trans (b.mono h.1.size), (b.block _ (Array.getElem?_eq_some_iff.1 h.2.1).1).trans h.2.1, (b.block _ (Array.getElem?_eq_some_iff.1 h.2.2).1).trans h.2.2⟩
theorem LT.start (w : World) (tx : Int) : LT w ((w.alloc (.cells #[.int .i64 0, .int .i64 0, .slice none 0 0] 31)).alloc (.cells #[.int .i64 tx, .int .i64 0, .slice none 0 0] 31)) tx 0 := by
  have hz : (w.alloc (.cells #[.int .i64 0, .int .i64 0, .slice none 0 0] 31)).heap.size = w.heap.size + 1 := by simp
  have h1 := heap_alloc_new (w.alloc (.cells #[.int .i64 0, .int .i64 0, .slice none 0 0] 31)) (.cells #[.int .i64 tx, .int .i64 0, .slice none 0 0] 31)
  rw [hz] at h1
  exact ⟨((Below.refl _ _).alloc (Nat.le_refl _) _).alloc (by simp) _, (Below.heap_alloc _ _ w.heap.size (by simp)).trans (heap_alloc_new w _), h1⟩
theorem LT.set {w W : World} {tx sq : Int} (h : LT w W tx sq) (s : Int) : LT w (W.setCell ⟨w.heap.size + 1, 1, none⟩ (.int .i64 s)) tx s :=
  ⟨h.1.setCell (by simp) _, row_set_ne h.2.1 (by omega) _ _, row_set h.2.2 1 (.int .i64 s)⟩
theorem LT.at {w W : World} {tx sq : Int} (h : LT w W tx sq) : W.cell? ⟨w.heap.size + 1, 0, none⟩ = some (.int .i64 tx) ∧ W.cell? ⟨w.heap.size + 1, 1, none⟩ = some (.int .i64 sq) ∧ W.cell? ⟨w.heap.size + 1, 2, none⟩ = some (.slice none 0 0) :=
  ⟨cell_of_row _ _ 0 _ _ _ h.2.2, cell_of_row _ _ 1 _ _ _ h.2.2, cell_of_row _ _ 2 _ _ _ h.2.2⟩
theorem LT.fr {w W : World} {tx sq : Int} (h : LT w W tx sq) (j : Nat) : W.frozen? ⟨w.heap.size + 1, j, none⟩ = false := frozen_of_row _ _ j _ _ h.2.2
theorem LT.at0 {w W : World} {tx sq : Int} (h : LT w W tx sq) : W.cell? ⟨w.heap.size, 0, none⟩ = some (.int .i64 0) ∧ W.cell? ⟨w.heap.size, 1, none⟩ = some (.int .i64 0) ∧ W.cell? ⟨w.heap.size, 2, none⟩ = some (.slice none 0 0) :=
  ⟨cell_of_row _ _ 0 _ _ _ h.2.1, cell_of_row _ _ 1 _ _ _ h.2.1, cell_of_row _ _ 2 _ _ _ h.2.1⟩
theorem LT.fr0 {w W : World} {tx sq : Int} (h : LT w W tx sq) (j : Nat) : W.frozen? ⟨w.heap.size, j, none⟩ = false := frozen_of_row _ _ j _ _ h.2.1
theorem results_tx2 {fn : Func} {p q : Tmp} (h : fn.results = #[.cell p 31, .tmp q]) (tmps : Array Value) (w : World) (g : Nat) (a b : Int) (v : Value)
    (hp : tmps.getD p undef = .pointer (some ⟨g, 0, none⟩)) (hc : w.heap[g]? = some (.cells #[.int .i64 a, .int .i64 b, v] 31 (0, 0))) :
    (results fn tmps).run Try.prog w = .ok (.tuple #[.agg #[.int .i64 a, .int .i64 b, v], tmps.getD q undef]) w := by
  have hp' : tmps[p]?.getD undef = .pointer (some ⟨g, 0, none⟩) := by simpa using hp
  have hl := run_loadVar_row (P := Try.prog) w g 31 31 _ _ _ hc Try.underlying31 rfl infoTxz
  simp [results, h, hp', asAddr, hl]
theorem tx_set3 {w : World} {g : Nat} {cs : Array Value} {x y z : Value} (h : w.heap[g]? = some (.cells cs 31 (0, 0))) : (((w.setCell ⟨g, 0, none⟩ x).setCell ⟨g, 1, none⟩ y).setCell ⟨g, 2, none⟩ z).heap[g]? = some (.cells (((cs.setIfInBounds 0 x).setIfInBounds 1 y).setIfInBounds 2 z) 31 (0, 0)) :=
  row_set (row_set (row_set h 0 x) 1 y) 2 z
theorem below_tx3 {B g : Nat} {a w : World} {x y z : Value} (h : Below B a w) (hg : B ≤ g) : Below B a (((w.setCell ⟨g, 0, none⟩ x).setCell ⟨g, 1, none⟩ y).setCell ⟨g, 2, none⟩ z) :=
  ((h.setCell (p := ⟨g, 0, none⟩) hg x).setCell (p := ⟨g, 1, none⟩) hg y).setCell (p := ⟨g, 2, none⟩) hg z

theorem below_tx3k {B g k : Nat} {a w : World} {x y z : Value} (h : Below B a w) (hg : B ≤ g) : Below B a (((w.setCell ⟨g, k * 3, none⟩ x).setCell ⟨g, k * 3 + 1, none⟩ y).setCell ⟨g, k * 3 + 2, none⟩ z) :=
  ((h.setCell (p := ⟨g, k * 3, none⟩) hg x).setCell (p := ⟨g, k * 3 + 1, none⟩) hg y).setCell (p := ⟨g, k * 3 + 2, none⟩) hg z
/-- Whether a page is the one that is looked for. -/
def NxB (tx : Int) (k : Nat) (c : Int) (p : Pg) : Bool := decide (p.kind = 2 ∧ p.tx = tx ∧ p.part = k ∧ (0 < k → p.count = c))
/-- What is known while pages are looked at: not found yet among the first m, or found. -/
def Look (ps : List Pg) (tx : Int) (k : Nat) (c : Int) (t : ByteArray) (sq : Int) (m : Nat) (c' : Int) (t' : ByteArray) (f : Bool) (sq' : Int) : Prop :=
  (f = false ∧ c' = c ∧ t' = t ∧ sq' = sq ∧ (ps.take m).find? (NxB tx k c) = none) ∨ (f = true ∧ ∃ p, nextP ps tx k c = some p ∧ c' = p.count ∧ t' = t ++ p.text ∧ sq' = if k = 0 ∨ p.seq < sq then p.seq else sq)
theorem Look.skip {ps : List Pg} {tx : Int} {k : Nat} {c : Int} {t : ByteArray} {sq : Int} {m : Nat} {c' : Int} {t' : ByteArray} {sq' : Int} {p : Pg} (h : Look ps tx k c t sq m c' t' false sq') (hp : ps[m]? = some p) (hn : NxB tx k c p = false) : Look ps tx k c t sq (m + 1) c' t' false sq' := by
  rcases h with ⟨-, h1, h2, h3, h4⟩ | ⟨h, -⟩
  · exact .inl ⟨rfl, h1, h2, h3, (find_take hp h4).1 hn⟩
  · cases h
theorem Look.take {ps : List Pg} {tx : Int} {k : Nat} {c : Int} {t : ByteArray} {sq : Int} {m : Nat} {c' : Int} {t' : ByteArray} {sq' : Int} {p : Pg} (h : Look ps tx k c t sq m c' t' false sq') (hp : ps[m]? = some p) (hn : NxB tx k c p = true) : c' = c ∧ t' = t ∧ sq' = sq ∧ nextP ps tx k c = some p := by
  rcases h with ⟨-, h1, h2, h3, h4⟩ | ⟨h, -⟩
  · exact ⟨h1, h2, h3, (find_take hp h4).2 hn⟩
  · cases h
theorem Look.none {ps : List Pg} {tx : Int} {k : Nat} {c : Int} {t : ByteArray} {sq : Int} {m : Nat} {c' : Int} {t' : ByteArray} {sq' : Int} (h : Look ps tx k c t sq m c' t' false sq') (hm : ps.length ≤ m) : nextP ps tx k c = Option.none := by
  rcases h with ⟨-, -, -, -, h4⟩ | ⟨h, -⟩
  · rw [List.take_of_length_le hm] at h4; exact h4
  · cases h
/-- What is known when all parts ahead of the k-th were found. -/
def Sofar (ps : List Pg) (tx : Int) (k : Nat) (c sq : Int) (t : ByteArray) (done : List Pg) : Prop :=
  t = catP done ∧ Gone ps tx k c sq done ∧ t.size ≤ sumBP (fun p => p.text.size) ps k ∧ k ≤ sumBP (fun _ => 1) ps k
theorem sofar_size {ps : List Pg} {tx : Int} {k : Nat} {c sq : Int} {t : ByteArray} {done : List Pg} (G : Sofar ps tx k c sq t done) (hS : sumF (fun p => p.text.size) ps ≤ 1048576) {p : Pg} (hp : nextP ps tx k c = some p) : t.size + p.text.size ≤ sumBP (fun p => p.text.size) ps ((k + 1 : Nat) : Int) ∧ t.size + p.text.size ≤ 1048576 := by
  obtain ⟨-, -, h3, -⟩ := G
  have hn := nextP_some hp
  have h1 := sumB_step (fun p => p.text.size) hn.1 hn.2.2.2.1
  have h2 := sumB_le (fun p => p.text.size) ps ((k : Int) + 1)
  have e : ((k + 1 : Nat) : Int) = (k : Int) + 1 := by omega
  rw [e]
  try simp only at h1
  exact ⟨by omega, by omega⟩
theorem look_next {ps : List Pg} {tx : Int} {k m S len : Nat} {c sq c' sq' : Int} {t t' : ByteArray} {done : List Pg} (G : Sofar ps tx k c sq t done) (hgo : k = 0 ∨ (k : Int) < c) (hS : sumF (fun p => p.text.size) ps ≤ 1048576) (hlen : ps.length = len) (hSS : sumF (fun p => p.count.toNat) ps = S) (h : Look ps tx k c t sq m c' t' true sq') :
    (∃ done', Sofar ps tx (k + 1) c' sq' t' done') ∧ t'.size ≤ 1048576 ∧ k + 1 ≤ len ∧ c'.toNat - (k + 1) < (if k = 0 then S + 1 else c.toNat - k) := by
  rcases h with ⟨h, -⟩ | ⟨-, p, hp, rfl, rfl, rfl⟩
  · cases h
  have hsz := sofar_size G hS hp
  obtain ⟨g1, g2, g3, g4⟩ := G
  have hn := nextP_some hp
  have e : ((k + 1 : Nat) : Int) = (k : Int) + 1 := by omega
  have h1 := sumB_step (fun _ => 1) hn.1 hn.2.2.2.1
  have h2 := sumB_le (fun _ => 1) ps ((k : Int) + 1)
  rw [sumF_one, hlen] at h2
  have h3 := sumF_mem (fun p => p.count.toNat) hn.1
  rw [hSS] at h3
  try simp only at h1 h3
  refine ⟨⟨done ++ [p], ?_, g2.yes hgo hp, ?_, ?_⟩, ?_, by omega, ?_⟩
  · rw [g1]; exact catP_snoc done p
  · rw [ByteArray.size_append]; exact hsz.1
  · rw [e]; omega
  · rw [ByteArray.size_append]; exact hsz.2
  · by_cases hk : k = 0
    · rw [if_pos hk]; omega
    · rw [if_neg hk, hn.2.2.2.2 (by omega)]; omega
theorem own_len {w : World} {B : Nat} {e : TypeId} {size n : Nat} {v : Value} {xs : List Value} (h : w.ownsRow B e size v n xs) : n ≤ maxLen := by
  rcases h.2 with ⟨rfl, h0⟩ | ⟨g, cap, cur, rfl, -, -, h1, h2, -⟩
  · rw [h0]; unfold maxLen; omega
  · omega
/-- What is answered of one transaction. -/
def OneOut (w : World) (ps : List Pg) (tx : Int) (e : Ending) (w' : World) : Prop :=
  ∃ (sq : Int) (a : Option Addr) (n c : Nat) (ok : Bool), e = .returned (.tuple #[.agg #[.int .i64 tx, .int .i64 sq, .slice a n c], .bool ok]) ∧ Below w.heap.size w w' ∧
    (oneTx ps tx = none ∧ ok = false ∨ ∃ x : TxR, oneTx ps tx = some x ∧ ok = true ∧ x.num = tx ∧ x.seq = sq ∧ n = x.recs.length ∧ n ≤ maxLen ∧ Sli 34 w.heap.size w'.heap.size (.slice a n c) n (rccells (x.recs.map Rc.tu)) w')
theorem one_none {ps : List Pg} {tx : Int} (h : partsP ps tx = none) : oneTx ps tx = none := by unfold oneTx; rw [h]
theorem one_some {ps : List Pg} {tx : Int} {l : List Pg} (h : partsP ps tx = some l) : oneTx ps tx = (recs (catP l).data.toList 0).map (fun rs => ⟨tx, least l, rs⟩) := by unfold oneTx; rw [h]
end Go.Proofs.Ytogfdhfmamabiaa
