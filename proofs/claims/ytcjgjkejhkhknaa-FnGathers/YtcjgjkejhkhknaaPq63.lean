/-
  LTx; TxMath3
-/
import Derived.Test.YtcjgjkejhkhknaaTxN
import Derived.Test.YtcjgjkejhkhknaaTxMath2
import Derived.Test.YtcjgjkejhkhknaaPq61
/-
  The local transaction of a gatherer, and what it answers.
-/
namespace Go.Proofs.Ytcjgjkejhkhknaa
open Go.RowKit
open Words

/-- The result's cell, and the transaction that is gathered, in two blocks of the call's own. -/
def LT (w W : World) (tx sq : Int) : Prop :=
  Below w.heap.size w W ∧ W.heap[w.heap.size]? = some (.cells #[.int .i64 0, .int .i64 0, .slice none 0 0] 60 (0, 0)) ∧ W.heap[w.heap.size + 1]? = some (.cells #[.int .i64 tx, .int .i64 sq, .slice none 0 0] 60 (0, 0))
theorem LT.below {w W W' : World} {tx sq : Int} (h : LT w W tx sq) (b : Below W.heap.size W W') : LT w W' tx sq :=
  ⟨h.1.trans (b.mono h.1.size), (b.block _ (Array.getElem?_eq_some_iff.1 h.2.1).1).trans h.2.1, (b.block _ (Array.getElem?_eq_some_iff.1 h.2.2).1).trans h.2.2⟩
theorem LT.start (w : World) (tx : Int) : LT w ((w.alloc (.cells #[.int .i64 0, .int .i64 0, .slice none 0 0] 60)).alloc (.cells #[.int .i64 tx, .int .i64 0, .slice none 0 0] 60)) tx 0 := by
  have hz : (w.alloc (.cells #[.int .i64 0, .int .i64 0, .slice none 0 0] 60)).heap.size = w.heap.size + 1 := by simp
  have h1 := heap_alloc_new (w.alloc (.cells #[.int .i64 0, .int .i64 0, .slice none 0 0] 60)) (.cells #[.int .i64 tx, .int .i64 0, .slice none 0 0] 60)
  rw [hz] at h1
  exact ⟨((Below.refl _ _).alloc (Nat.le_refl _) _).alloc (by simp) _, (Below.heap_alloc _ _ w.heap.size (by simp)).trans (heap_alloc_new w _), h1⟩
theorem LT.set {w W : World} {tx sq : Int} (h : LT w W tx sq) (s : Int) : LT w (W.setCell ⟨w.heap.size + 1, 1, none⟩ (.int .i64 s)) tx s :=
  ⟨h.1.setCell (by simp) _, row_set_ne h.2.1 (by omega) _ _, row_set h.2.2 1 (.int .i64 s)⟩
theorem LT.at {w W : World} {tx sq : Int} (h : LT w W tx sq) : W.cell? ⟨w.heap.size + 1, 0, none⟩ = some (.int .i64 tx) ∧ W.cell? ⟨w.heap.size + 1, 1, none⟩ = some (.int .i64 sq) ∧ W.cell? ⟨w.heap.size + 1, 2, none⟩ = some (.slice none 0 0) :=
  ⟨cell_of_row _ _ 0 _ _ _ h.2.2, cell_of_row _ _ 1 _ _ _ h.2.2, cell_of_row _ _ 2 _ _ _ h.2.2⟩
theorem LT.fr {w W : World} {tx sq : Int} (h : LT w W tx sq) (j : Nat) : W.frozen? ⟨w.heap.size + 1, j, none⟩ = false := frozen_of_row _ _ j _ _ h.2.2
theorem LT.at0 {w W : World} {tx sq : Int} (h : LT w W tx sq) : W.cell? ⟨w.heap.size, 0, none⟩ = some (.int .i64 0) ∧ W.cell? ⟨w.heap.size, 1, none⟩ = some (.int .i64 0) ∧ W.cell? ⟨w.heap.size, 2, none⟩ = some (.slice none 0 0) :=
  ⟨cell_of_row _ _ 0 _ _ _ h.2.1, cell_of_row _ _ 1 _ _ _ h.2.1, cell_of_row _ _ 2 _ _ _ h.2.1⟩
theorem LT.fr0 {w W : World} {tx sq : Int} (h : LT w W tx sq) (j : Nat) : W.frozen? ⟨w.heap.size, j, none⟩ = false := frozen_of_row _ _ j _ _ h.2.1
theorem results_tx2 {fn : Func} {p q : Tmp} (h : fn.results = #[.cell p 60, .tmp q]) (tmps : Array Value) (w : World) (g : Nat) (a b : Int) (v : Value)
    (hp : tmps.getD p undef = .pointer (some ⟨g, 0, none⟩)) (hc : w.heap[g]? = some (.cells #[.int .i64 a, .int .i64 b, v] 60 (0, 0))) :
    (results fn tmps).run Try.prog w = .ok (.tuple #[.agg #[.int .i64 a, .int .i64 b, v], tmps.getD q undef]) w := by
  have hp' : tmps[p]?.getD undef = .pointer (some ⟨g, 0, none⟩) := by simpa using hp
  have hl := run_loadVar_row (P := Try.prog) w g 60 60 _ _ _ hc Try.underlying60 rfl infoTxz
  simp [results, h, hp', asAddr, hl]
theorem tx_set3 {w : World} {g : Nat} {cs : Array Value} {x y z : Value} (h : w.heap[g]? = some (.cells cs 60 (0, 0))) : (((w.setCell ⟨g, 0, none⟩ x).setCell ⟨g, 1, none⟩ y).setCell ⟨g, 2, none⟩ z).heap[g]? = some (.cells (((cs.setIfInBounds 0 x).setIfInBounds 1 y).setIfInBounds 2 z) 60 (0, 0)) :=
  row_set (row_set (row_set h 0 x) 1 y) 2 z
theorem below_tx3 {B g : Nat} {a w : World} {x y z : Value} (h : Below B a w) (hg : B ≤ g) : Below B a (((w.setCell ⟨g, 0, none⟩ x).setCell ⟨g, 1, none⟩ y).setCell ⟨g, 2, none⟩ z) :=
  ((h.setCell (p := ⟨g, 0, none⟩) hg x).setCell (p := ⟨g, 1, none⟩) hg y).setCell (p := ⟨g, 2, none⟩) hg z

theorem below_tx3k {B g k : Nat} {a w : World} {x y z : Value} (h : Below B a w) (hg : B ≤ g) : Below B a (((w.setCell ⟨g, k * 3, none⟩ x).setCell ⟨g, k * 3 + 1, none⟩ y).setCell ⟨g, k * 3 + 2, none⟩ z) :=
  ((h.setCell (p := ⟨g, k * 3, none⟩) hg x).setCell (p := ⟨g, k * 3 + 1, none⟩) hg y).setCell (p := ⟨g, k * 3 + 2, none⟩) hg z
/-- Whether a page is the one that is looked for. -/
def NxB (tx : Int) (k : Nat) (c : Int) (p : Pg) : Bool := decide (p.kind = 2 ∧ p.tx = tx ∧ p.part = k ∧ (0 < k → p.count = c))
/-- What is known while pages are looked at: not found yet among the first m, or found. -/
def Look (ps : List Pg) (tx : Int) (k : Nat) (c : Int) (t : ByteArray) (sq : Int) (m : Nat) (c' : Int) (t' : ByteArray) (f : Bool) (sq' : Int) : Prop :=
  (f = false ∧ c' = c ∧ t' = t ∧ sq' = sq ∧ (ps.take m).find? (NxB tx k c) = none) ∨ (f = true ∧ ∃ p, nextP ps tx k c = some p ∧ c' = p.count ∧ t' = t ++ p.text ∧ sq' = if k = 0 ∨ p.seq < sq then p.seq else sq)
theorem Look.skip {ps : List Pg} {tx : Int} {k : Nat} {c : Int} {t : ByteArray} {sq : Int} {m : Nat} {c' : Int} {t' : ByteArray} {sq' : Int} {p : Pg} (h : Look ps tx k c t sq m c' t' false sq') (hp : ps[m]? = some p) (hn : NxB tx k c p = false) : Look ps tx k c t sq (m + 1) c' t' false sq' := by
  rcases h with ⟨-, h1, h2, h3, h4⟩ | ⟨h, -⟩
  · exact .inl ⟨rfl, h1, h2, h3, (find_take hp h4).1 hn⟩
  · cases h
theorem Look.take {ps : List Pg} {tx : Int} {k : Nat} {c : Int} {t : ByteArray} {sq : Int} {m : Nat} {c' : Int} {t' : ByteArray} {sq' : Int} {p : Pg} (h : Look ps tx k c t sq m c' t' false sq') (hp : ps[m]? = some p) (hn : NxB tx k c p = true) : c' = c ∧ t' = t ∧ sq' = sq ∧ nextP ps tx k c = some p := by
  rcases h with ⟨-, h1, h2, h3, h4⟩ | ⟨h, -⟩
  · exact ⟨h1, h2, h3, (find_take hp h4).2 hn⟩
  · cases h
theorem Look.none {ps : List Pg} {tx : Int} {k : Nat} {c : Int} {t : ByteArray} {sq : Int} {m : Nat} {c' : Int} {t' : ByteArray} {sq' : Int} (h : Look ps tx k c t sq m c' t' false sq') (hm : ps.length ≤ m) : nextP ps tx k c = Option.none := by
  rcases h with ⟨-, -, -, -, h4⟩ | ⟨h, -⟩
  · rw [List.take_of_length_le hm] at h4; exact h4
  · cases h
/-- What is known when all parts ahead of the k-th were found. -/
def Sofar (ps : List Pg) (tx : Int) (k : Nat) (c sq : Int) (t : ByteArray) (done : List Pg) : Prop :=
  t = catP done ∧ Gone ps tx k c sq done ∧ t.size ≤ sumBP (fun p => p.text.size) ps k ∧ k ≤ sumBP (fun _ => 1) ps k
theorem sofar_size {ps : List Pg} {tx : Int} {k : Nat} {c sq : Int} {t : ByteArray} {done : List Pg} (G : Sofar ps tx k c sq t done) (hS : sumF (fun p => p.text.size) ps ≤ 1048576) {p : Pg} (hp : nextP ps tx k c = some p) : t.size + p.text.size ≤ sumBP (fun p => p.text.size) ps ((k + 1 : Nat) : Int) ∧ t.size + p.text.size ≤ 1048576 := by
  obtain ⟨-, -, h3, -⟩ := G
  have hn := nextP_some hp
  have h1 := sumB_step (fun p => p.text.size) hn.1 hn.2.2.2.1
  have h2 := sumB_le (fun p => p.text.size) ps ((k : Int) + 1)
  have e : ((k + 1 : Nat) : Int) = (k : Int) + 1 := by omega
  rw [e]
  try simp only at h1
  exact ⟨by omega, by omega⟩
theorem look_next {ps : List Pg} {tx : Int} {k m S len : Nat} {c sq c' sq' : Int} {t t' : ByteArray} {done : List Pg} (G : Sofar ps tx k c sq t done) (hgo : k = 0 ∨ (k : Int) < c) (hS : sumF (fun p => p.text.size) ps ≤ 1048576) (hlen : ps.length = len) (hSS : sumF (fun p => p.count.toNat) ps = S) (h : Look ps tx k c t sq m c' t' true sq') :
    (∃ done', Sofar ps tx (k + 1) c' sq' t' done') ∧ t'.size ≤ 1048576 ∧ k + 1 ≤ len ∧ c'.toNat - (k + 1) < (if k = 0 then S + 1 else c.toNat - k) := by
  rcases h with ⟨h, -⟩ | ⟨-, p, hp, rfl, rfl, rfl⟩
  · cases h
  have hsz := sofar_size G hS hp
  obtain ⟨g1, g2, g3, g4⟩ := G
  have hn := nextP_some hp
  have e : ((k + 1 : Nat) : Int) = (k : Int) + 1 := by omega
  have h1 := sumB_step (fun _ => 1) hn.1 hn.2.2.2.1
  have h2 := sumB_le (fun _ => 1) ps ((k : Int) + 1)
  rw [sumF_one, hlen] at h2
  have h3 := sumF_mem (fun p => p.count.toNat) hn.1
  rw [hSS] at h3
  try simp only at h1 h3
  refine ⟨⟨done ++ [p], ?_, g2.yes hgo hp, ?_, ?_⟩, ?_, by omega, ?_⟩
  · rw [g1]; exact catP_snoc done p
  · rw [ByteArray.size_append]; exact hsz.1
  · rw [e]; omega
  · rw [ByteArray.size_append]; exact hsz.2
  · by_cases hk : k = 0
    · rw [if_pos hk]; omega
    · rw [if_neg hk, hn.2.2.2.2 (by omega)]; omega
theorem own_len {w : World} {B : Nat} {e : TypeId} {size n : Nat} {v : Value} {xs : List Value} (h : w.ownsRow B e size v n xs) : n ≤ maxLen := by
  rcases h.2 with ⟨rfl, h0⟩ | ⟨g, cap, cur, rfl, -, -, h1, h2, -⟩
  · rw [h0]; unfold maxLen; omega
  · omega
/-- What is answered of one transaction. -/
def OneOut (w : World) (ps : List Pg) (tx : Int) (e : Ending) (w' : World) : Prop :=
  ∃ (sq : Int) (a : Option Addr) (n c : Nat) (ok : Bool), e = .returned (.tuple #[.agg #[.int .i64 tx, .int .i64 sq, .slice a n c], .bool ok]) ∧ Below w.heap.size w w' ∧
    (oneTx ps tx = none ∧ ok = false ∨ ∃ x : TxR, oneTx ps tx = some x ∧ ok = true ∧ x.num = tx ∧ x.seq = sq ∧ n = x.recs.length ∧ n ≤ maxLen ∧ Sli 63 w.heap.size w'.heap.size (.slice a n c) n (rccells (x.recs.map Rc.tu)) w')
theorem one_none {ps : List Pg} {tx : Int} (h : partsP ps tx = none) : oneTx ps tx = none := by unfold oneTx; rw [h]
theorem one_some {ps : List Pg} {tx : Int} {l : List Pg} (h : partsP ps tx = some l) : oneTx ps tx = (recs (catP l).data.toList 0).map (fun rs => ⟨tx, least l, rs⟩) := by unfold oneTx; rw [h]
end Go.Proofs.Ytcjgjkejhkhknaa

/-
  Plain facts: how much is gathered, and of how many records.
-/
namespace Go.Proofs.Ytcjgjkejhkhknaa.Words

/-- The texts of one transaction's pages. -/
def szTxP (tx : Int) (p : Pg) : Nat := if p.tx = tx then p.text.size else 0
def sumLP (l : List Pg) : Nat := (l.map (fun p => p.text.size)).sum
theorem catP_size (l : List Pg) : (catP l).size = sumLP l := by
  show (l.flatMap (fun p => p.text.data.toList)).toArray.size = _
  rw [List.size_toArray, List.length_flatMap]
  rfl
theorem moreP_sum {ps : List Pg} {tx c : Int} : ∀ (n k : Nat) (l : List Pg), moreP ps tx c n k = some l → sumBP (szTxP tx) ps k + sumLP l ≤ sumBP (szTxP tx) ps ((k + n : Nat) : Int) := by
  intro n
  induction n with
  | zero => intro k l h; simp only [moreP, Option.some.injEq] at h; subst h; simp [sumLP]
  | succ n ih =>
    intro k l h
    simp only [moreP] at h
    cases hp : firstK ps tx k c with
    | none => rw [hp] at h; simp at h
    | some p =>
      rw [hp] at h
      simp only at h
      cases hm : moreP ps tx c n (k + 1) with
      | none => rw [hm] at h; simp at h
      | some l' =>
        rw [hm] at h
        simp only [Option.map_some, Option.some.injEq] at h
        subst h
        have h1 := ih (k + 1) l' hm
        have h2 := List.mem_of_find?_eq_some hp
        have h3 := List.find?_some hp
        simp only [decide_eq_true_eq] at h3
        have h4 := sumB_step (szTxP tx) h2 h3.2.2.1
        have e1 : szTxP tx p = p.text.size := if_pos h3.2.1
        have e2 : ((k + 1 : Nat) : Int) = (k : Int) + 1 := by omega
        rw [e2] at h1
        rw [show k + (n + 1) = k + 1 + n by omega]
        simp only [sumLP, List.map_cons, List.sum_cons] at h1 ⊢
        omega
theorem partsP_sum {ps : List Pg} {tx : Int} {l : List Pg} (h : partsP ps tx = some l) : sumLP l ≤ sumF (szTxP tx) ps := by
  unfold partsP at h
  cases hp : first0 ps tx with
  | none => rw [hp] at h; cases h
  | some p =>
    rw [hp] at h
    simp only at h
    cases hm : moreP ps tx p.count (p.count.toNat - 1) 1 with
    | none => rw [hm] at h; simp at h
    | some l' =>
      rw [hm] at h
      simp only [Option.map_some, Option.some.injEq] at h
      subst h
      have h1 := moreP_sum _ _ _ hm
      have h2 := List.mem_of_find?_eq_some hp
      have h3 := List.find?_some hp
      simp only [decide_eq_true_eq] at h3
      have h4 := sumB_step (szTxP tx) h2 h3.2.2
      have h5 := sumB_le (szTxP tx) ps ((1 + (p.count.toNat - 1) : Nat) : Int)
      have e1 : szTxP tx p = p.text.size := if_pos h3.2.1
      have e2 : ((1 : Nat) : Int) = 0 + 1 := rfl
      rw [e2] at h1
      simp only [sumLP, List.map_cons, List.sum_cons] at h1 ⊢
      omega
theorem one_recs {ps : List Pg} {tx : Int} {x : TxR} (h : oneTx ps tx = some x) : 3 * x.recs.length ≤ sumF (szTxP tx) ps := by
  unfold oneTx at h
  cases hp : partsP ps tx with
  | none => rw [hp] at h; cases h
  | some l =>
    rw [hp] at h
    simp only at h
    cases hr : recs (catP l).data.toList 0 with
    | none => rw [hr] at h; cases h
    | some rs =>
      rw [hr] at h
      simp only [Option.map_some, Option.some.injEq] at h
      subst h
      obtain ⟨h1, h2⟩ := recs_back rs _ 0 hr
      have h3 := (recsL_len rs h1).1
      rw [← h2] at h3
      have h4 := partsP_sum hp
      rw [← catP_size] at h4
      have h5 : (catP l).data.toList.length = (catP l).size := rfl
      simp only [List.drop_zero] at h3
      simp only
      omega
theorem sum_split (ps : List Pg) : ∀ ns : List Int, ns.Nodup → (ns.map (fun n => sumF (szTxP n) ps)).sum ≤ sumF (fun p => p.text.size) ps := by
  induction ps with
  | nil =>
    intro ns _
    have : ∀ m : List Int, (m.map (fun n => sumF (szTxP n) [])).sum = 0 := by
      intro m
      induction m with
      | nil => rfl
      | cons a m ih => rw [List.map_cons, List.sum_cons, ih]; rfl
    rw [this]
    exact Nat.zero_le _
  | cons p ps ih =>
    intro ns hn
    have h1 := ih ns hn
    have h2 : ∀ m : List Int, (m.map (fun n => sumF (szTxP n) (p :: ps))).sum = (m.map (fun n => szTxP n p)).sum + (m.map (fun n => sumF (szTxP n) ps)).sum := by
      intro m
      induction m with
      | nil => rfl
      | cons a m ih =>
        rw [List.map_cons, List.sum_cons, List.map_cons, List.sum_cons, List.map_cons, List.sum_cons, ih]
        have : sumF (szTxP a) (p :: ps) = szTxP a p + sumF (szTxP a) ps := by simp [sumF]
        rw [this]
        omega
    have h3 : ∀ m : List Int, p.tx ∉ m → (m.map (fun n => szTxP n p)).sum = 0 := by
      intro m
      induction m with
      | nil => intro _; rfl
      | cons a m ih =>
        intro hm
        rw [List.mem_cons, not_or] at hm
        rw [List.map_cons, List.sum_cons, ih hm.2, szTxP, if_neg hm.1]
    have h4 : ∀ m : List Int, m.Nodup → (m.map (fun n => szTxP n p)).sum ≤ p.text.size := by
      intro m
      induction m with
      | nil => intro _; simp
      | cons a m ih =>
        intro hm
        rw [List.nodup_cons] at hm
        rw [List.map_cons, List.sum_cons]
        by_cases e : p.tx = a
        · rw [h3 m (by rw [e]; exact hm.1), szTxP, if_pos e]
          exact Nat.le_refl _
        · rw [szTxP, if_neg e, Nat.zero_add]
          exact ih hm.2
    have h5 := h4 ns hn
    have h6 : sumF (fun p => p.text.size) (p :: ps) = p.text.size + sumF (fun p => p.text.size) ps := by simp [sumF]
    rw [h2, h6]
    omega
/-- All records that are gathered have their bytes. -/
theorem gather_sum (ps : List Pg) : 3 * ((gatherP ps).map (fun x => x.recs.length)).sum ≤ sumF (fun p => p.text.size) ps ∧ (gatherP ps).length ≤ ps.length := by
  have hn : (numsP ps).Nodup := (numsP_asc ps).imp (fun h => by omega)
  have h1 := sum_split ps (numsP ps) hn
  have h2 : ∀ ns : List Int, 3 * ((ns.filterMap (oneTx ps)).map (fun x => x.recs.length)).sum ≤ (ns.map (fun n => sumF (szTxP n) ps)).sum := by
    intro ns
    induction ns with
    | nil => simp
    | cons n ns ih =>
      rw [List.map_cons, List.sum_cons, List.filterMap_cons]
      split
      · omega
      · rename_i x hx
        rw [List.map_cons, List.sum_cons]
        have := one_recs hx
        omega
  refine ⟨Nat.le_trans (h2 _) h1, Nat.le_trans (List.length_filterMap_le _ _) (numsP_len ps)⟩
end Go.Proofs.Ytcjgjkejhkhknaa.Words
