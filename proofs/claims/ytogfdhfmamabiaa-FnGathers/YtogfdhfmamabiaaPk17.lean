/-
  TxRow; RcRow; OwnC; SliL
-/
import Derived.Test.YtogfdhfmamabiaaPk15
import Derived.Test.YtogfdhfmamabiaaTxMath
import Derived.Test.YtogfdhfmamabiaaSReadRecs
import Derived.Test.YtogfdhfmamabiaaPk11
import Derived.Test.YtogfdhfmamabiaaPk0
import Derived.Test.YtogfdhfmamabiaaPk9
import Derived.Deep.MidRow
import Derived.Test.YtogfdhfmamabiaaPk14
/-
  Rows of texts and of pages that a call owns, while it lays records into pages.
-/
namespace Go.Proofs.Ytogfdhfmamabiaa
open Go.RowKit
open Words

def Words.Pg.tu (p : Pg) : Int × Int × Int × Int × Int × ByteArray := (p.kind, p.seq, p.tx, p.part, p.count, p.text)
/-- What a maker of pages answers. -/
def PgOut (w : World) (Q : List Pg) (ok : Bool) (e : Ending) (w' : World) : Prop :=
  ∃ uv, e = .returned (.tuple #[uv, .bool ok]) ∧ w'.ownsRow w.heap.size 40 6 uv Q.length (pgcells (Q.map Pg.tu)) ∧ Below w.heap.size w w'

/-- The cells of texts. -/
def gcels (gs : List (List Rc)) : List Value := gs.map (fun g => Value.string (recsB g))
theorem gcels_len (gs : List (List Rc)) : (gcels gs).length = gs.length := by simp [gcels]
theorem gcels_snoc (gs : List (List Rc)) (g : List Rc) : gcels gs ++ [Value.string (recsB g)] = gcels (gs ++ [g]) := by simp [gcels]
theorem gcels_set (gs : List (List Rc)) (g g' : List Rc) (m : Nat) (hm : gs.length = m) : (gcels (gs ++ [g])).set m (Value.string (recsB g')) = gcels (gs ++ [g']) := by
  subst hm
  simp [gcels, List.set_append_right]
/-- The empty row of pages that lies ready, and the row of texts. -/
def TS (w W : World) (uv : Value) (gs : List (List Rc)) : Prop :=
  Below w.heap.size w W ∧ W.heap[w.heap.size]? = some (.cells #[] 40 (0, 0)) ∧ W.ownsRow (w.heap.size + 1) 9 1 uv gs.length (gcels gs)
theorem TS.below {w W W' : World} {uv : Value} {gs : List (List Rc)} (h : TS w W uv gs) (b : Below W.heap.size W W') : TS w W' uv gs :=
  ⟨h.1.trans (b.mono h.1.size), (b.block _ (Array.getElem?_eq_some_iff.1 h.2.1).1).trans h.2.1, own_below h.2.2 b⟩
theorem TS.start (w : World) : TS w ((w.alloc (.cells #[] 40)).alloc (.cells #[.string ⟨#[]⟩] 9)) (.slice (some ⟨w.heap.size + 1, 0, none⟩) 1 1) [[]] := by
  have hz : (w.alloc (.cells #[] 40)).heap.size = w.heap.size + 1 := by simp
  have h1 := heap_alloc_new (w.alloc (.cells #[] 40)) (.cells #[.string ⟨#[]⟩] 9)
  rw [hz] at h1
  refine ⟨((Below.refl _ _).alloc (Nat.le_refl _) _).alloc (by simp) _, ?_, rfl, .inr ⟨w.heap.size + 1, 1, #[.string ⟨#[]⟩], rfl, Nat.le_refl _, h1, Nat.le_refl _, by unfold maxLen; omega, rfl, rfl⟩⟩
  exact (Below.heap_alloc (w.alloc (.cells #[] 40)) (.cells #[.string ⟨#[]⟩] 9) w.heap.size (by simp)).trans (heap_alloc_new w (.cells #[] 40))
theorem TS.grown {w W y : World} {uv u' : Value} {gs gs' : List (List Rc)} (h : TS w W uv gs) (hg : W.grownBy y uv.ownBlock) (ho : y.ownsRow (w.heap.size + 1) 9 1 u' gs'.length (gcels gs')) : TS w y u' gs' := by
  obtain ⟨h1, h2, h3⟩ := h
  have hlt := (Array.getElem?_eq_some_iff.1 h2).1
  refine ⟨h1.grown hg h1.size (fun k hk => Nat.le_of_succ_le (h3.lt k hk).1), ?_, ho⟩
  refine (hg.block _ hlt (fun e => ?_)).trans h2
  have := (h3.lt _ e.symm).1
  omega
/-- No page at all. -/
theorem TS.none {w W : World} {uv : Value} {gs : List (List Rc)} (h : TS w W uv gs) : W.ownsRow w.heap.size 40 6 (.slice (some ⟨w.heap.size, 0, Option.none⟩) 0 0) ([] : List Pg).length (pgcells (([] : List Pg).map Pg.tu)) :=
  ⟨rfl, .inr ⟨w.heap.size, 0, #[], rfl, Nat.le_refl _, h.2.1, Nat.le_refl _, by unfold maxLen; omega, rfl, rfl⟩⟩
theorem TS.len {w W : World} {g n c : Nat} {gs : List (List Rc)} (h : TS w W (.slice (some ⟨g, 0, Option.none⟩) n c) gs) : gs.length = n := by
  rcases h.2.2.2 with ⟨e, -⟩ | ⟨_, _, _, e, -⟩
  · simp at e
  · simp at e; exact e.2.1.symm
theorem TS.at_ {w W : World} {g n c m : Nat} {gs : List (List Rc)} (h : TS w W (.slice (some ⟨g, 0, Option.none⟩) n c) gs) {x : List Rc} (hx : gs[m]? = some x) : W.cell? ⟨g, m, Option.none⟩ = some (.string (recsB x)) := by
  have := h.2.2.cells (g := g) rfl m (.string (recsB x)) (by simp [gcels, hx])
  rwa [addr_at] at this
theorem TS.stored {w W : World} {g n c m : Nat} {gs : List (List Rc)} {x y : List Rc} (h : TS w W (.slice (some ⟨g, 0, Option.none⟩) n c) (gs ++ [x])) (hm : gs.length = m) : TS w (W.setCell ⟨g, m, Option.none⟩ (.string (recsB y))) (.slice (some ⟨g, 0, Option.none⟩) n c) (gs ++ [y]) := by
  have hl := h.len
  have h3 := h.2.2
  rw [hl] at h3
  obtain ⟨h4, h5⟩ := h3.stored m (.string (recsB y))
  rw [gcels_set gs x y m hm] at h4
  refine TS.grown h h5 ?_
  rw [show (gs ++ [y]).length = n by simpa using hl]
  exact h4
theorem infoText : (Try.prog.info? 9).map (fun i => (i.zero, i.size, i.bytes)) = some (some (.string ⟨#[]⟩), 1, 16) := by kernel_rfl
theorem one_text (x : ByteArray) : ∀ u ∈ [Value.string x], u.oneCell' = true := by
  intro u hu; simp at hu; subst hu; rfl
/-- The row of pages besides. -/
def PSx (w W : World) (uv : Value) (gs : List (List Rc)) (ov : Value) (Q : List Pg) : Prop :=
  TS w W uv gs ∧ W.ownsRow (w.heap.size + 1) 40 6 ov Q.length (pgcells (Q.map Pg.tu))
theorem PSx.below {w W W' : World} {uv ov : Value} {gs : List (List Rc)} {Q : List Pg} (h : PSx w W uv gs ov Q) (b : Below W.heap.size W W') : PSx w W' uv gs ov Q :=
  ⟨h.1.below b, own_below h.2 b⟩
theorem PSx.grown {w W y : World} {uv ov o' : Value} {gs : List (List Rc)} {Q Q' : List Pg} (h : PSx w W uv gs ov Q) (hg : W.grownBy y ov.ownBlock) (ho : y.ownsRow (w.heap.size + 1) 40 6 o' Q'.length (pgcells (Q'.map Pg.tu))) : PSx w y uv gs o' Q' := by
  obtain ⟨⟨h1, h2, h3⟩, h4⟩ := h
  have hlt := (Array.getElem?_eq_some_iff.1 h2).1
  refine ⟨⟨h1.grown hg h1.size (fun k hk => Nat.le_of_succ_le (h4.lt k hk).1), ?_, ?_⟩, ho⟩
  · refine (hg.block _ hlt (fun e => ?_)).trans h2
    have := (h4.lt _ e.symm).1
    omega
  · refine h3.kept hg ?_
    cases hu : uv.ownBlock with
    | none => exact .inl rfl
    | some a =>
      refine .inr fun e => ?_
      rcases h3.2 with ⟨rfl, -⟩ | ⟨g3, c3, cu3, rfl, -, q3, -⟩
      · cases hu
      · rcases h4.2 with ⟨rfl, -⟩ | ⟨g4, c4, cu4, rfl, -, q4, -⟩
        · cases e
        · simp only [Value.ownBlock, Option.some.injEq] at hu e
          subst hu
          subst e
          rw [q3] at q4
          injection q4 with q4
          injection q4 with _ q4
          simp at q4
theorem PSx.start {w W : World} {uv : Value} {gs : List (List Rc)} (h : TS w W uv gs) : PSx w (W.alloc (.cells #[] 40)) uv gs (.slice (some ⟨W.heap.size, 0, Option.none⟩) 0 0) [] :=
  ⟨h.below ((Below.refl _ _).alloc (Nat.le_refl _) _), rfl, .inr ⟨W.heap.size, 0, #[], rfl, (Array.getElem?_eq_some_iff.1 h.2.1).1, heap_alloc_new W _, Nat.le_refl _, by unfold maxLen; omega, rfl, rfl⟩⟩
theorem pg_new (W : World) (p : Pg) (g : Nat) (hg : W.heap.size = g) : ∀ (j : Nat) (u : Value), (pgcell p.tu)[j]? = some u → (W.alloc (.cells #[.int .i64 p.kind, .int .i64 p.seq, .int .i64 p.tx, .int .i64 p.part, .int .i64 p.count, .string p.text] 40)).cell? ((⟨g, 0, Option.none⟩ : Addr).add j) = some u := by
  intro j u hj
  subst hg
  match j, hj with
  | 0, hj | 1, hj | 2, hj | 3, hj | 4, hj | 5, hj =>
    simp [pgcell, Pg.tu] at hj
    subst hj
    simp [Addr.add]
theorem pg_one (p : Pg) : ∀ u ∈ pgcell p.tu, u.oneCell' = true := by
  intro u hu
  simp [pgcell] at hu
  rcases hu with h | h | h | h | h | h <;> subst h <;> rfl
theorem pg_snoc (Q : List Pg) (p : Pg) : pgcells (Q.map Pg.tu) ++ pgcell p.tu = pgcells ((Q ++ [p]).map Pg.tu) := by
  rw [List.map_append, pgcells_app]
  simp [pgcells]
theorem Below.mono_self {B : Nat} {a b : World} (h : Below B a b) (hB : a.heap.size ≤ B) : Below a.heap.size a b := h.mono hB
end Go.Proofs.Ytogfdhfmamabiaa

/-
  Rows of records that can be read.
-/
namespace Go.Proofs.Ytogfdhfmamabiaa
open Go.RowKit
set_option maxRecDepth 100000

/-- Elements that came in, each in 4 cells. -/
def RcRow (w : World) (a : Option Addr) (len : Nat) (ls : List (Int × Int × Int × Int)) : Prop :=
  ls.length = len ∧ len ≤ maxLen ∧ (∀ t ∈ ls, True) ∧ (0 < len → ∃ b off, a = some ⟨b, off, none⟩ ∧ b < w.heap.size ∧ ∀ i t, ls[i]? = some t → w.cell? ⟨b, off + i * 4, none⟩ = some (.int .i64 t.1) ∧ w.cell? ⟨b, off + i * 4 + 1, none⟩ = some (.int .i64 t.2.1) ∧ w.cell? ⟨b, off + i * 4 + 2, none⟩ = some (.int .i64 t.2.2.1) ∧ w.cell? ⟨b, off + i * 4 + 3, none⟩ = some (.int .i64 t.2.2.2))
theorem RcRow.below {w w' : World} {a : Option Addr} {len : Nat} {ls : List (Int × Int × Int × Int)} (h : RcRow w a len ls) (hb : Below w.heap.size w w') : RcRow w' a len ls := by
  obtain ⟨h1, h2, h3, h4⟩ := h
  refine ⟨h1, h2, h3, fun h0 => ?_⟩
  obtain ⟨b, off, e, hl, hc⟩ := h4 h0
  have hs := hb.size
  refine ⟨b, off, e, by omega, fun i t ht => ?_⟩
  obtain ⟨c0, c1, c2, c3⟩ := hc i t ht
  exact ⟨(hb.cell (show b < w.heap.size from hl)).trans c0, (hb.cell (show b < w.heap.size from hl)).trans c1, (hb.cell (show b < w.heap.size from hl)).trans c2, (hb.cell (show b < w.heap.size from hl)).trans c3⟩

theorem RcRow.at {w : World} {a : Option Addr} {len : Nat} {ls : List (Int × Int × Int × Int)} (h : RcRow w a len ls) {k : Nat} {t : Int × Int × Int × Int} (hk : ls[k]? = some t) :
    ∃ b off, a = some ⟨b, off, none⟩ ∧ b < w.heap.size ∧ w.cell? ⟨b, off + k * 4, none⟩ = some (.int .i64 t.1) ∧ w.cell? ⟨b, off + k * 4 + 1, none⟩ = some (.int .i64 t.2.1) ∧ w.cell? ⟨b, off + k * 4 + 2, none⟩ = some (.int .i64 t.2.2.1) ∧ w.cell? ⟨b, off + k * 4 + 3, none⟩ = some (.int .i64 t.2.2.2) := by
  obtain ⟨h1, -, -, h4⟩ := h
  have hl := (List.getElem?_eq_some_iff.1 hk).1
  obtain ⟨b, off, e, hb, hc⟩ := h4 (by omega)
  obtain ⟨c0, c1, c2, c3⟩ := hc k t hk
  exact ⟨b, off, e, hb, c0, c1, c2, c3⟩
theorem RcRow.of_own {w : World} {base : Nat} {v : Value} {n : Nat} {M : List (Int × Int × Int × Int)} (hn : M.length = n) (h : w.ownsRow base 34 4 v n (rccells M)) :
    ∃ a c, v = .slice a n c ∧ RcRow w a n M := by
  have hh := h
  obtain ⟨-, h2⟩ := hh
  rcases h2 with ⟨rfl, rfl⟩ | ⟨g, cap, cur, rfl, h3, h4, h5, h6, -, -⟩
  · exact ⟨none, 0, rfl, hn, by unfold maxLen; omega, by simp, fun h => by omega⟩
  · refine ⟨_, _, rfl, hn, by omega, by simp, fun _ => ⟨g, 0, rfl, (Array.getElem?_eq_some_iff.1 h4).1, fun i t hi => ?_⟩⟩
    have hc := fun j v hj => h.cells (g := g) rfl (i * 4 + j) v (rccells_at M i t hi j v hj)
    have ea : ∀ j, (⟨g, 0, none⟩ : Addr).add j = ⟨g, 0 + j, none⟩ := fun j => by simp only [Addr.add]; split <;> simp_all
    simp only [ea] at hc
    exact ⟨hc 0 _ rfl, by simpa [Nat.add_assoc] using hc 1 _ rfl, by simpa [Nat.add_assoc] using hc 2 _ rfl, by simpa [Nat.add_assoc] using hc 3 _ rfl⟩
end Go.Proofs.Ytogfdhfmamabiaa

/-
  Rows that a call owns: a cell written elsewhere, a lower bound.
-/
namespace Go.Proofs.Ytogfdhfmamabiaa
open Go.RowKit

theorem row_set {w : World} {g : Nat} {cs : Array Value} {t : TypeId} (h : w.heap[g]? = some (.cells cs t (0, 0))) (i : Nat) (u : Value) : (w.setCell ⟨g, i, none⟩ u).heap[g]? = some (.cells (cs.setIfInBounds i u) t (0, 0)) := by
  rw [setCell_eq_setRow w g i cs t (0, 0) u h]
  exact setRow_heap w g cs _ t _ h
theorem row_set_ne {w : World} {g g' : Nat} {o : Obj} (h : w.heap[g]? = some o) (hn : g ≠ g') (i : Nat) (u : Value) : (w.setCell ⟨g', i, none⟩ u).heap[g]? = some o := (Below.heap_setCell _ _ _ _ hn).trans h
theorem own_down {w : World} {B B' : Nat} {e : TypeId} {size n : Nat} {v : Value} {xs : List Value} (h : w.ownsRow B e size v n xs) (hb : B' ≤ B) : w.ownsRow B' e size v n xs := by
  obtain ⟨h1, h2⟩ := h
  refine ⟨h1, ?_⟩
  rcases h2 with h | ⟨g, cap, cur, rfl, a2, a3⟩
  · exact .inl h
  · exact .inr ⟨g, cap, cur, rfl, by omega, a3⟩
theorem own_cell {w : World} {B : Nat} {e : TypeId} {size n : Nat} {v : Value} {xs : List Value} (h : w.ownsRow B e size v n xs) {g : Nat} (hg : g < B) (i : Nat) (u : Value) : (w.setCell ⟨g, i, none⟩ u).ownsRow B e size v n xs := by
  obtain ⟨h1, h2⟩ := h
  refine ⟨h1, ?_⟩
  rcases h2 with h | ⟨g', cap, cur, rfl, a2, a3, a4⟩
  · exact .inl h
  · exact .inr ⟨g', cap, cur, rfl, a2, row_set_ne a3 (by omega) _ _, a4⟩
theorem own_block_lt {w : World} {B : Nat} {e : TypeId} {size n : Nat} {v : Value} {xs : List Value} (h : w.ownsRow B e size v n xs) : ∀ g, v.ownBlock = some g → B ≤ g ∧ g < w.heap.size := by
  intro g hg
  exact h.lt g hg
theorem fown_set {w : World} {base : Nat} {e : TypeId} {size n : Nat} {v : Value} {xs : List Value} {g cap : Nat} (h : w.ownsRow base e size v n xs) (hv : v = .slice (some ⟨g, 0, none⟩) n cap) (k : Nat) (u : Value) :
    (w.setCell ⟨g, k, none⟩ u).ownsRow base e size v n (xs.set k u) := by
  obtain ⟨h1, h2⟩ := h
  refine ⟨by simpa using h1, ?_⟩
  rcases h2 with ⟨h3, -⟩ | ⟨g', cap', cur, h3, h4, h5, h6, h7, h8, h9⟩
  · rw [hv] at h3; cases h3
  · right
    have hg : g' = g := by rw [hv] at h3; injection h3 with a; simp at a; exact a.symm
    subst hg
    refine ⟨g', cap', cur.setIfInBounds k u, h3, h4, ?_, h6, h7, by simpa using h8, ?_⟩
    · rw [setCell_eq_setRow w g' k cur e (0, 0) u h5]
      exact setRow_heap w g' cur _ e _ h5
    · rw [Array.toList_setIfInBounds, List.take_set, h9]
theorem grown_cell (w : World) (g k : Nat) (u : Value) : w.grownBy (w.setCell ⟨g, k, none⟩ u) (some g) :=
  ⟨rfl, rfl, rfl, by simp [World.setCell], fun i _ hi => Below.heap_setCell _ _ _ _ (fun e => hi (by rw [e]))⟩
end Go.Proofs.Ytogfdhfmamabiaa

/-
  Slices by their cells: bounds, growth.
-/
namespace Go.Proofs.Ytogfdhfmamabiaa
open Go.RowKit

theorem Sli.up {t : TypeId} {lo hi hi' n : Nat} {v : Value} {xs : List Value} {w : World} (h : Sli t lo hi v n xs w) (hh : hi ≤ hi') : Sli t lo hi' v n xs w := by
  rcases h with h | ⟨g, cap, e, h1, h2, h3⟩
  · exact .inl h
  · exact .inr ⟨g, cap, e, h1, by omega, h3⟩
theorem Sli.dn {t : TypeId} {lo lo' hi n : Nat} {v : Value} {xs : List Value} {w : World} (h : Sli t lo hi v n xs w) (hh : lo' ≤ lo) : Sli t lo' hi v n xs w := by
  rcases h with h | ⟨g, cap, e, h1, h2, h3⟩
  · exact .inl h
  · exact .inr ⟨g, cap, e, by omega, h2, h3⟩
theorem Sli.blw {t : TypeId} {lo hi n : Nat} {v : Value} {xs : List Value} {w w' : World} (h : Sli t lo hi v n xs w) (hb : Below w.heap.size w w') : Sli t lo hi v n xs w' := by
  rcases h with h | ⟨g, cap, e, h1, h2, h3⟩
  · exact .inl h
  · exact .inr ⟨g, cap, e, h1, h2, h3.below hb⟩
theorem Sli.lt {t : TypeId} {lo hi n : Nat} {v : Value} {xs : List Value} {w : World} (h : Sli t lo hi v n xs w) : ∀ g, v.ownBlock = some g → lo ≤ g ∧ g < hi ∧ ∃ cs, w.heap[g]? = some (.cells cs t (0, 0)) := by
  intro g hg
  rcases h with ⟨rfl, -⟩ | ⟨g', cap, rfl, h1, h2, cs, h3, -⟩
  · cases hg
  · simp only [Value.ownBlock, Option.some.injEq] at hg
    subst hg
    exact ⟨h1, h2, cs, h3⟩
theorem Sli.grown {t : TypeId} {lo hi n : Nat} {v : Value} {xs : List Value} {w y : World} {row : Option Nat} (h : Sli t lo hi v n xs w) (hg : w.grownBy y row) (hr : ∀ g, v.ownBlock = some g → row ≠ some g) : Sli t lo hi v n xs y := by
  rcases h with h | ⟨g, cap, rfl, h1, h2, cs, h3, h4⟩
  · exact .inl h
  · exact .inr ⟨g, cap, rfl, h1, h2, cs, (hg.block g (Array.getElem?_eq_some_iff.1 h3).1 (fun e => hr g rfl e.symm)).trans h3, h4⟩
theorem own_kind {w : World} {B : Nat} {e : TypeId} {size n : Nat} {v : Value} {xs : List Value} (h : w.ownsRow B e size v n xs) : ∀ g, v.ownBlock = some g → B ≤ g ∧ g < w.heap.size ∧ ∃ cs, w.heap[g]? = some (.cells cs e (0, 0)) := by
  intro g hg
  obtain ⟨h1, h2⟩ := h.lt g hg
  rcases h.2 with ⟨rfl, -⟩ | ⟨g', cap, cur, rfl, -, q, -⟩
  · cases hg
  · simp only [Value.ownBlock, Option.some.injEq] at hg
    subst hg
    exact ⟨h1, h2, _, q⟩
end Go.Proofs.Ytogfdhfmamabiaa
