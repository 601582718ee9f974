/-
  Rows of transactions: those that can be read, those that a call owns, each with a row of records of its own.
-/
import Derived.Test.YtogfdhfmamabiaaPk17
import Derived.Test.YtogfdhfmamabiaaPk14
import Derived.Test.YtogfdhfmamabiaaPk11
import Derived.Test.YtogfdhfmamabiaaTxMath
import Derived.Test.YtogfdhfmamabiaaSReadRecs
namespace Go.Proofs.Ytogfdhfmamabiaa
open Go.RowKit
open Words

theorem infoTx : (Try.prog.info? 31).map (fun i => (i.zero, i.size, i.bytes)) = some (some (.agg #[.int .i64 0, .int .i64 0, .slice none 0 0]), 3, 40) := by kernel_rfl
theorem infoTxz : (Try.prog.info? 31).map (·.size) = some 3 := by kernel_rfl

/-- A transaction in a row: its number, its least Seq, the slice of its records, and these. -/
abbrev Xw := Int × Int × Value × List (Int × Int × Int × Int)
def xcell (t : Xw) : List Value := [.int .i64 t.1, .int .i64 t.2.1, t.2.2.1]
def xcells (l : List Xw) : List Value := l.flatMap xcell
def xtell (t : Xw) : Int × Int × List (Int × Int × Int × Int) := (t.1, t.2.1, t.2.2.2)
def Words.TxR.tu (x : TxR) : Int × Int × List (Int × Int × Int × Int) := (x.num, x.seq, x.recs.map Rc.tu)
theorem xcells_len (l : List Xw) : (xcells l).length = l.length * 3 := by
  induction l with
  | nil => rfl
  | cons t l ih => simp [xcells, xcell] at ih ⊢; omega
theorem xcells_app (a b : List Xw) : xcells (a ++ b) = xcells a ++ xcells b := by simp [xcells]
theorem xcells_cons (t : Xw) (l : List Xw) : xcells (t :: l) = xcell t ++ xcells l := by simp [xcells]
theorem xcells_snoc (l : List Xw) (t : Xw) : xcells l ++ xcell t = xcells (l ++ [t]) := by rw [xcells_app]; simp [xcells]
theorem xcells_at (l : List Xw) (k : Nat) (t : Xw) (h : l[k]? = some t) (j : Nat) (v : Value) (hj : (xcell t)[j]? = some v) : (xcells l)[k * 3 + j]? = some v := by
  have hlt : j < 3 := (List.getElem?_eq_some_iff.1 hj).1
  induction l generalizing k with
  | nil => simp at h
  | cons a l ih =>
    rw [xcells_cons]
    cases k with
    | zero =>
      simp at h
      subst h
      rw [List.getElem?_append_left (by show _ < 3; omega), Nat.zero_mul, Nat.zero_add]
      exact hj
    | succ k =>
      rw [List.getElem?_append_right (by show 3 ≤ _; omega), show (k + 1) * 3 + j - (xcell a).length = k * 3 + j by show _ - 3 = _; omega]
      exact ih k (by simpa using h)
/-- A slice of records, wherever it lies. -/
def RcSl (W : World) (v : Value) (ls : List (Int × Int × Int × Int)) : Prop := ∃ a c, v = .slice a ls.length c ∧ (a = none → c = 0) ∧ RcRow W a ls.length ls
theorem RcSl.below {W W' : World} {v : Value} {ls : List (Int × Int × Int × Int)} (h : RcSl W v ls) (b : Below W.heap.size W W') : RcSl W' v ls := by
  obtain ⟨a, c, e, h1, h2⟩ := h
  exact ⟨a, c, e, h1, h2.below b⟩
theorem RcSl.of {lo hi : Nat} {v : Value} {ls : List (Int × Int × Int × Int)} {W : World} (h : Sli 34 lo hi v ls.length (rccells ls) W) (hm : ls.length ≤ maxLen) (hh : hi ≤ W.heap.size) : RcSl W v ls := by
  rcases h with ⟨rfl, h0⟩ | ⟨g, cap, rfl, h1, h2, h3⟩
  · exact ⟨none, 0, by rw [h0], fun _ => rfl, rfl, hm, by simp, fun h => by omega⟩
  · refine ⟨_, _, rfl, (fun e => by cases e), rfl, hm, by simp, fun _ => ⟨g, 0, rfl, by omega, fun i t hi => ?_⟩⟩
    have hc := fun j v hj => h3.cell (rccells_at ls i t hi j v hj)
    refine ⟨?_, ?_, ?_, ?_⟩
    · simpa using hc 0 _ rfl
    · simpa using hc 1 _ rfl
    · simpa using hc 2 _ rfl
    · simpa using hc 3 _ rfl
theorem RcSl.one {W : World} {v : Value} {ls : List (Int × Int × Int × Int)} (h : RcSl W v ls) : v.oneCell' = true := by
  obtain ⟨a, c, rfl, -⟩ := h
  rfl
/-- A row of transactions, wherever it lies. -/
def TxRd (W : World) (ad : Option Addr) (len : Nat) (rs : List Xw) : Prop :=
  rs.length = len ∧ len ≤ maxLen ∧ (∀ r ∈ rs, RcSl W r.2.2.1 r.2.2.2) ∧ (0 < len → ∃ b off, ad = some ⟨b, off, none⟩ ∧ b < W.heap.size ∧ ∀ i r, rs[i]? = some r → W.cell? ⟨b, off + i * 3, none⟩ = some (.int .i64 r.1) ∧ W.cell? ⟨b, off + i * 3 + 1, none⟩ = some (.int .i64 r.2.1) ∧ W.cell? ⟨b, off + i * 3 + 2, none⟩ = some r.2.2.1)
theorem TxRd.below {W W' : World} {ad : Option Addr} {len : Nat} {rs : List Xw} (h : TxRd W ad len rs) (hb : Below W.heap.size W W') : TxRd W' ad len rs := by
  obtain ⟨h1, h2, h3, h4⟩ := h
  refine ⟨h1, h2, fun r hr => (h3 r hr).below hb, fun h0 => ?_⟩
  obtain ⟨b, off, e, hl, hc⟩ := h4 h0
  have hs := hb.size
  refine ⟨b, off, e, by omega, fun i t ht => ?_⟩
  obtain ⟨c0, c1, c2⟩ := hc i t ht
  exact ⟨(hb.cell (show b < W.heap.size from hl)).trans c0, (hb.cell (show b < W.heap.size from hl)).trans c1, (hb.cell (show b < W.heap.size from hl)).trans c2⟩
theorem TxRd.at {W : World} {ad : Option Addr} {len : Nat} {rs : List Xw} (h : TxRd W ad len rs) {k : Nat} {r : Xw} (hk : rs[k]? = some r) :
    ∃ b off, ad = some ⟨b, off, none⟩ ∧ b < W.heap.size ∧ W.cell? ⟨b, off + k * 3, none⟩ = some (.int .i64 r.1) ∧ W.cell? ⟨b, off + k * 3 + 1, none⟩ = some (.int .i64 r.2.1) ∧ W.cell? ⟨b, off + k * 3 + 2, none⟩ = some r.2.2.1 := by
  obtain ⟨h1, -, -, h4⟩ := h
  have hl := (List.getElem?_eq_some_iff.1 hk).1
  obtain ⟨b, off, e, hb, hc⟩ := h4 (by omega)
  obtain ⟨c0, c1, c2⟩ := hc k r hk
  exact ⟨b, off, e, hb, c0, c1, c2⟩

/-- Rows of records that share no block. -/
def Lone (rs : List Xw) : Prop := rs.Pairwise (fun a b => ∀ g, a.2.2.1.ownBlock = some g → b.2.2.1.ownBlock ≠ some g)
/-- A row of transactions that the call owns, with the rows of their records. -/
def XOwn (W : World) (B : Nat) (v : Value) (rs : List Xw) : Prop :=
  W.ownsRow B 31 3 v rs.length (xcells rs) ∧ (∀ r ∈ rs, Sli 34 B W.heap.size r.2.2.1 r.2.2.2.length (rccells r.2.2.2) W ∧ r.2.2.2.length ≤ maxLen) ∧ Lone rs
/-- The same, of the blocks lo to hi. -/
def XIn (lo hi : Nat) (v : Value) (rs : List Xw) (W : World) : Prop :=
  Sli 31 lo hi v rs.length (xcells rs) W ∧ (∀ r ∈ rs, Sli 34 lo hi r.2.2.1 r.2.2.2.length (rccells r.2.2.2) W ∧ r.2.2.2.length ≤ maxLen) ∧ Lone rs ∧ rs.length ≤ maxLen
def Txs (lo hi : Nat) (v : Value) (M : List (Int × Int × List (Int × Int × Int × Int))) : World → Prop := fun W => ∃ rs : List Xw, rs.map xtell = M ∧ XIn lo hi v rs W

theorem rec_ne_tx {w : World} {g : Nat} {cs cs' : Array Value} (h : w.heap[g]? = some (.cells cs 34 (0, 0))) (h' : w.heap[g]? = some (.cells cs' 31 (0, 0))) : False := by
  rw [h] at h'
  injection h' with h'
  injection h' with _ h'
  simp at h'
theorem XOwn.below {W W' : World} {B : Nat} {v : Value} {rs : List Xw} (h : XOwn W B v rs) (b : Below W.heap.size W W') : XOwn W' B v rs :=
  ⟨own_below h.1 b, fun r hr => ⟨((h.2.1 r hr).1.blw b).up b.size, (h.2.1 r hr).2⟩, h.2.2⟩
theorem XOwn.down {W : World} {B B' : Nat} {v : Value} {rs : List Xw} (h : XOwn W B v rs) (hB : B' ≤ B) : XOwn W B' v rs :=
  ⟨own_lower h.1 hB, fun r hr => ⟨(h.2.1 r hr).1.dn hB, (h.2.1 r hr).2⟩, h.2.2⟩
theorem XOwn.empty (W : World) (B : Nat) (hB : B ≤ W.heap.size) : XOwn (W.alloc (.cells #[] 31)) B (.slice (some ⟨W.heap.size, 0, none⟩) 0 0) [] :=
  ⟨⟨rfl, .inr ⟨W.heap.size, 0, #[], rfl, hB, heap_alloc_new W _, Nat.le_refl _, by unfold maxLen; omega, rfl, rfl⟩⟩, (fun _ h => by cases h), List.Pairwise.nil⟩
theorem XOwn.nil (W : World) (B : Nat) : XOwn W B (.slice none 0 0) [] := ⟨World.ownsRow_nil _ _ _ _, (fun _ h => by cases h), List.Pairwise.nil⟩
/-- One more: its records lie in a block that came since W0. -/
theorem XOwn.snoc {W0 W y : World} {B : Nat} {v u' : Value} {rs : List Xw} {r : Xw} (h0 : XOwn W0 B v rs) (hb : Below W0.heap.size W0 W) (hB : B ≤ W0.heap.size) (hr : Sli 34 W0.heap.size W.heap.size r.2.2.1 r.2.2.2.length (rccells r.2.2.2) W) (hm : r.2.2.2.length ≤ maxLen)
    (hg : W.grownBy y v.ownBlock) (ho : y.ownsRow B 31 3 u' (rs ++ [r]).length (xcells (rs ++ [r]))) : XOwn y B u' (rs ++ [r]) := by
  have h := h0.below hb
  have hk := own_kind h.1
  have far : ∀ (t : Value) (g : Nat), v.ownBlock = some g → ∀ {lo hi n : Nat} {xs : List Value}, Sli 34 lo hi t n xs W → t.ownBlock ≠ some g := by
    intro t g hg lo hi n xs hs e
    obtain ⟨-, -, cs, q⟩ := hk g hg
    obtain ⟨-, -, cs', q'⟩ := hs.lt g e
    exact rec_ne_tx q' q
  refine ⟨ho, ?_, ?_⟩
  · intro x hx
    rcases List.mem_append.1 hx with hx | hx
    · exact ⟨((h.2.1 x hx).1.grown hg (fun g e e2 => far _ g e2 (h.2.1 x hx).1 e)).up hg.size, (h.2.1 x hx).2⟩
    · simp only [List.mem_singleton] at hx
      subst hx
      exact ⟨((hr.grown hg (fun g e e2 => far _ g e2 hr e)).dn hB).up hg.size, hm⟩
  · refine List.pairwise_append.2 ⟨h.2.2, List.pairwise_singleton _ _, ?_⟩
    intro a ha b hb2 g e1 e2
    simp only [List.mem_singleton] at hb2
    subst hb2
    have q1 := ((h0.2.1 a ha).1.lt g e1).2.1
    have q2 := (hr.lt g e2).1
    omega
theorem XOwn.form {W : World} {B : Nat} {v : Value} {rs : List Xw} (h : XOwn W B v rs) : ∃ ad c, v = .slice ad rs.length c := by
  rcases h.1.2 with ⟨rfl, h0⟩ | ⟨g, cap, cur, rfl, -⟩
  · exact ⟨_, _, by rw [h0]⟩
  · exact ⟨_, _, rfl⟩
theorem XOwn.len {W : World} {B : Nat} {v : Value} {rs : List Xw} (h : XOwn W B v rs) : rs.length ≤ maxLen := by
  rcases h.1.2 with ⟨rfl, h0⟩ | ⟨g, cap, cur, rfl, -, -, h1, h2, -⟩
  · rw [h0]; unfold maxLen; omega
  · omega
theorem XOwn.txs {W : World} {B : Nat} {v : Value} {rs : List Xw} (h : XOwn W B v rs) : XIn B W.heap.size v rs W := ⟨Sli.of h.1, h.2.1, h.2.2, h.len⟩
theorem XIn.rd {W : World} {lo hi c : Nat} {ad : Option Addr} {n : Nat} {rs : List Xw} (h : XIn lo hi (.slice ad n c) rs W) (hn : rs.length = n) (hh : hi ≤ W.heap.size) : TxRd W ad n rs := by
  obtain ⟨h1, h2, h3, h4⟩ := h
  refine ⟨hn, by omega, fun r hr => RcSl.of (h2 r hr).1 (h2 r hr).2 hh, fun h0 => ?_⟩
  rcases h1 with ⟨e, q⟩ | ⟨g, cap, e, q1, q2, q3⟩
  · omega
  · injection e with e1 e2 e3
    refine ⟨g, 0, e1, by omega, fun i r hi => ?_⟩
    have hc := fun j v hj => q3.cell (xcells_at rs i r hi j v hj)
    refine ⟨?_, ?_, ?_⟩
    · simpa using hc 0 _ rfl
    · simpa using hc 1 _ rfl
    · simpa using hc 2 _ rfl
theorem XIn.loc (lo hi : Nat) (v : Value) (rs : List Xw) : Loc lo hi (XIn lo hi v rs) := by
  intro w w' hk h
  exact ⟨Sli.loc _ _ _ _ _ _ w w' hk h.1, fun r hr => ⟨Sli.loc _ _ _ _ _ _ w w' hk (h.2.1 r hr).1, (h.2.1 r hr).2⟩, h.2.2⟩
theorem Txs.loc (lo hi : Nat) (v : Value) (M : List (Int × Int × List (Int × Int × Int × Int))) : Loc lo hi (Txs lo hi v M) := by
  rintro w w' hk ⟨rs, h1, h2⟩
  exact ⟨rs, h1, XIn.loc _ _ _ _ w w' hk h2⟩
theorem Txs.form {W : World} {lo hi : Nat} {v : Value} {M : List (Int × Int × List (Int × Int × Int × Int))} (h : Txs lo hi v M W) : ∃ ad c, v = .slice ad M.length c := by
  obtain ⟨rs, rfl, h1, -⟩ := h
  obtain ⟨ad, c, e, -⟩ := h1.form
  exact ⟨ad, c, by rw [e]; simp⟩

/-- What gatherers answer. -/
def TxOut (w : World) (L : List TxR) (e : Ending) (w' : World) : Prop :=
  ∃ uv rs, e = .returned uv ∧ XOwn w' w.heap.size uv rs ∧ rs.map xtell = L.map TxR.tu ∧ Below w.heap.size w w'
end Go.Proofs.Ytogfdhfmamabiaa
