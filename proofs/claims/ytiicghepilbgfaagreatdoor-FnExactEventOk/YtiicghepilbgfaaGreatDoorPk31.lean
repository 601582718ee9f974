/-
  FSnoc; SCopy; FPut
-/
import Derived.Test.YtiicghepilbgfaaGreatDoorPk29
import Derived.Test.YtiicghepilbgfaaGreatDoorPk30
/-
  A flash that grows by a block; leaves appended to a row of none.
-/
namespace Go.Proofs.YtiicghepilbgfaaGreatDoor
open Go.RowKit

theorem leaf_grown {w w' : World} {B hi : Nat} {v u : Value} {n : Nat} {xs : List Value} {ls : List (Int × ByteArray)} (hv : w.ownsRow B 99 3 v n xs) (hg : w.grownBy w' v.ownBlock) (h : LeafIn w B hi u ls) : LeafIn w' B hi u ls := by
  refine ⟨h.1.kept hg ?_, h.2⟩
  cases hq : v.ownBlock with
  | none =>
    cases hu : u.ownBlock with
    | none => exact Or.inl rfl
    | some g => exact Or.inr (by simp)
  | some g => exact Or.inr (leaf_not_block hv h.1 g hq)
theorem FlashIn.snoc {w w' : World} {B B' : Nat} {v v' : Value} {d : List Rw} {r : Rw} (h : FlashIn w B w.heap.size v d) (hg : w.grownBy w' v.ownBlock)
    (ho : w'.ownsRow B 99 3 v' (d.length + 1) (kcells (d.map cellOf) ++ [.bool r.1, .int .i64 r.2.1, r.2.2.1])) (hl : w.ownsRow B' 130 2 r.2.2.1 r.2.2.2.length (lcells r.2.2.2)) (hB : B ≤ B')
    (hfresh : ∀ q ∈ d, ∀ g, q.2.2.1.ownBlock = some g → g < B') : FlashIn w' B w'.heap.size v' (d ++ [r]) := by
  have hs := hg.size
  refine ⟨?_, fun g hq => (own_block_lt ho g hq).2, fun q hq => ?_, ?_⟩
  · rw [List.map_append, List.length_append, kcells_app]
    exact ho
  · rcases List.mem_append.1 hq with hq | hq
    · exact (leaf_grown h.1 hg (h.2.2.1 q hq)).up hs
    · rw [List.mem_singleton] at hq
      subst hq
      exact (leaf_grown h.1 hg ⟨own_down hl hB, fun g hq => (own_block_lt hl g hq).2⟩).up hs
  · rw [List.map_append, List.pairwise_append]
    refine ⟨h.2.2.2, by simp, fun a ha b hb2 => ?_⟩
    obtain ⟨q, hq, rfl⟩ := List.mem_map.1 ha
    simp at hb2
    subst hb2
    cases e1 : q.2.2.1.ownBlock with
    | none => exact Or.inl rfl
    | some g =>
      refine Or.inr (fun e => ?_)
      have k1 := hfresh q hq g e1
      have k2 := (own_block_lt hl g e.symm).1
      omega
theorem FlashIn.cellb {w : World} {B : Nat} {v : Value} {rs : List Rw} (h : FlashIn w B w.heap.size v rs) {g : Nat} (hg : g < B) (i : Nat) (u : Value) : FlashIn (w.setCell ⟨g, i, none⟩ u) B (w.setCell ⟨g, i, none⟩ u).heap.size v rs := by
  have := h.kept (w' := w.setCell ⟨g, i, none⟩ u) (fun k h1 _ => Below.heap_setCell _ _ _ _ (by show k ≠ g; omega))
  simpa [World.setCell] using this
theorem empty_leaves (w : World) : (w.alloc (.cells #[] 130)).ownsRow w.heap.size 130 2 (.slice (some ⟨w.heap.size, 0, none⟩) 0 0) 0 (lcells []) :=
  ⟨rfl, .inr ⟨w.heap.size, 0, #[], rfl, Nat.le_refl _, heap_alloc_new w _, Nat.le_refl _, by unfold maxLen; omega, rfl, rfl⟩⟩
/-- append([]Leaf{}, ls...), wherever they lie. -/
theorem leaf_append_rd (w : World) {ops : Array Oper} {rest : List Oper} {o : Oper} {a : Act} {Q : Exit → Act → World → Prop} (hg : o.guard = none) (s x : Operand)
    (hop : o.op = Op.call { callee := Callee.builtin Builtin.append, args := #[s, x], argTypes := #[97, 97] }) (g : Nat) (hs : a.eval s = .slice (some ⟨g, 0, none⟩) 0 0)
    (hown : w.ownsRow g 130 2 (.slice (some ⟨g, 0, none⟩) 0 0) 0 (lcells [])) (ao : Option Addr) (c : Nat) (ls : List (Int × ByteArray)) (hx : a.eval x = .slice ao ls.length c) (hl : ls.length ≤ 1048576)
    (hsrc : LeafRd w (.slice ao ls.length c) ls)
    (hK : ∀ v' w', w'.ownsRow g 130 2 v' ls.length (lcells ls) → w.grownBy w' (some g) → wpList Tryz.prog ops Q rest (a.put o.dst v') w') : wpList Tryz.prog ops Q (o :: rest) a w := by
  obtain ⟨i0, hi, hz0, hz1, hz2⟩ := info_parts infoLeaf
  have hgl := (own_block_lt hown g rfl).2
  by_cases h0 : ls.length = 0
  · have hls : ls = [] := List.eq_nil_of_length_eq_zero h0
    subst hls
    refine wpList_append_fits_any w hg s x _ hop g _ i0 2 Tryz.underlying97 hi hz1 g 0 0 [] hs hown ao 0 c [] hx rfl ?_ (by simp) (by simp) (Nat.le_refl _) (fun w' h1 h2 => hK _ w' h1 h2)
    exact fun hn => ⟨rfl, hsrc.none0 hn⟩
  · obtain ⟨g', o', rfl⟩ := hsrc.head (by omega)
    refine wpList_append_own w hg s x _ hop g _ i0 (.agg #[.int .i64 0, .string ⟨#[]⟩]) 2 24 Tryz.underlying97 hi hz0 hz1 hz2 rfl (by decide) _ 0 [] hs hown ⟨g', o', none⟩ ls.length c (lcells ls) hx (lcells_len ls) (fun j u hj => by rw [addr_offR]; exact hsrc.cells j u hj) (lcells_one ls) (by unfold maxLen; omega) (by omega) (by omega) ?_
    intro v' w' h1 h2 _
    rw [Nat.zero_add] at h1
    exact hK v' w' h1 h2
/-- append([]Leaf{}, ls...). -/
theorem leaf_append (w : World) {ops : Array Oper} {rest : List Oper} {o : Oper} {a : Act} {Q : Exit → Act → World → Prop} (hg : o.guard = none) (s x : Operand)
    (hop : o.op = Op.call { callee := Callee.builtin Builtin.append, args := #[s, x], argTypes := #[97, 97] }) (g : Nat) (hs : a.eval s = .slice (some ⟨g, 0, none⟩) 0 0)
    (hown : w.ownsRow g 130 2 (.slice (some ⟨g, 0, none⟩) 0 0) 0 (lcells [])) (ao : Option Addr) (c : Nat) (ls : List (Int × ByteArray)) (hx : a.eval x = .slice ao ls.length c) (hl : ls.length ≤ 1048576) (B : Nat)
    (hsrc : w.ownsRow B 130 2 (.slice ao ls.length c) ls.length (lcells ls))
    (hK : ∀ v' w', w'.ownsRow g 130 2 v' ls.length (lcells ls) → w.grownBy w' (some g) → wpList Tryz.prog ops Q rest (a.put o.dst v') w') : wpList Tryz.prog ops Q (o :: rest) a w := by
  obtain ⟨i0, hi, hz0, hz1, hz2⟩ := info_parts infoLeaf
  obtain ⟨ad, cap, e, h1, h2, h3⟩ := frow_form hsrc
  injection e with e1 e2 e3
  subst e1 e3
  have hgl := (own_block_lt hown g rfl).2
  by_cases h0 : ls.length = 0
  · have hls : ls = [] := List.eq_nil_of_length_eq_zero h0
    subst hls
    refine wpList_append_fits_any w hg s x _ hop g _ i0 2 Tryz.underlying97 hi hz1 g 0 0 [] hs hown ao 0 c [] hx rfl ?_ (by simp) (by simp) (Nat.le_refl _) (fun w' h1 h2 => hK _ w' h1 h2)
    intro hn
    rcases hsrc.2 with ⟨h, -⟩ | ⟨g', cap', cur, h, -⟩
    · injection h with a1 a2 a3
      exact ⟨rfl, a3⟩
    · rw [hn] at h
      cases h
  · obtain ⟨g', rfl, -, -⟩ := h3 (by omega)
    refine wpList_append_own w hg s x _ hop g _ i0 (.agg #[.int .i64 0, .string ⟨#[]⟩]) 2 24 Tryz.underlying97 hi hz0 hz1 hz2 rfl (by decide) _ 0 [] hs hown ⟨g', 0, none⟩ ls.length c (lcells ls) hx (lcells_len ls) (fun j u hj => hsrc.cells (g := g') rfl j u hj) (lcells_one ls) (by unfold maxLen; omega) (by omega) (by omega) ?_
    intro v' w' h1 h2 _
    rw [Nat.zero_add] at h1
    exact hK v' w' h1 h2
end Go.Proofs.YtiicghepilbgfaaGreatDoor

/-
  spec.l05Copy.
-/
namespace Go.Proofs.YtiicghepilbgfaaGreatDoor
open Go.RowKit

theorem new_cells (w : World) (cs : Array Value) (t : TypeId) (g : Nat) (hg : w.heap.size = g) : ∀ (j : Nat) (u : Value), cs.toList[j]? = some u → (w.alloc (.cells cs t)).cell? ((⟨g, 0, none⟩ : Addr).add j) = some u := by
  intro j u hj
  subst hg
  rw [addr_at, cell_of_row _ _ j _ _ _ (heap_alloc_new w (.cells cs t))]
  simpa using hj
theorem one_blk (x : Bool) (y : Int) (a : Option Addr) (n c : Nat) : ∀ u ∈ [Value.bool x, Value.int .i64 y, Value.slice a n c], u.oneCell' = true := by
  intro u hu
  simp at hu
  rcases hu with h | h | h <;> subst h <;> rfl
/-- Where the copy stands: the flash handed in, the answer's cell, and the blocks so far. -/
def CopyS (w wr : World) (arg out : Value) (d : List Rw) : Prop :=
  wr.heap[w.heap.size]? = some (.cells #[arg] 49 (0, 0)) ∧ wr.heap[w.heap.size + 1]? = some (.cells #[.slice none 0 0] 49 (0, 0)) ∧ wr.heap[w.heap.size + 1 + 1]? = some (.cells #[out] 49 (0, 0)) ∧
    FlashIn wr (w.heap.size + 3) wr.heap.size out d ∧ Below w.heap.size w wr
theorem copy_start (w : World) (arg : Value) : CopyS w (((w.alloc (.cells #[arg] 49)).alloc (.cells #[.slice none 0 0] 49)).alloc (.cells #[.slice none 0 0] 49)) arg (.slice none 0 0) [] := by
  refine ⟨?_, ?_, ?_, ⟨⟨rfl, .inl ⟨rfl, rfl⟩⟩, fun g hg => (by cases hg), fun r hr => (by cases hr), List.Pairwise.nil⟩, (((Below.refl _ _).alloc (Nat.le_refl _) _).alloc (by simp) _).alloc (by simp; omega) _⟩
  · rw [Below.heap_alloc _ _ _ (by simp; omega), Below.heap_alloc _ _ _ (by simp)]
    exact heap_alloc_new w _
  · rw [Below.heap_alloc _ _ _ (by simp)]
    have := heap_alloc_new (w.alloc (.cells #[arg] 49)) (.cells #[.slice none 0 0] 49)
    rw [show (w.alloc (.cells #[arg] 49)).heap.size = w.heap.size + 1 by simp] at this
    exact this
  · have := heap_alloc_new ((w.alloc (.cells #[arg] 49)).alloc (.cells #[.slice none 0 0] 49)) (.cells #[.slice none 0 0] 49)
    rw [show ((w.alloc (.cells #[arg] 49)).alloc (.cells #[.slice none 0 0] 49)).heap.size = w.heap.size + 1 + 1 by simp] at this
    exact this
/-- What the round did so far turned no block that was there. -/
theorem CopyS.below {w wr w' : World} {arg out : Value} {d : List Rw} (h : CopyS w wr arg out d) (hb : Below wr.heap.size wr w') : CopyS w w' arg out d := by
  obtain ⟨h1, h2, h3, h4, h5⟩ := h
  have l3 := (Array.getElem?_eq_some_iff.1 h3).1
  exact ⟨(hb.block _ (by omega)).trans h1, (hb.block _ (by omega)).trans h2, (hb.block _ (by omega)).trans h3, (h4.below hb (Nat.le_refl _)).up hb.size, h5.trans (hb.mono h5.size)⟩
/-- .. and the append, with the store of what it gave. -/
theorem CopyS.snoc {w wr w' : World} {arg out out' : Value} {d : List Rw} {r : Rw} {B' : Nat} (h : CopyS w wr arg out d) (hg : wr.grownBy w' out.ownBlock)
    (ho : w'.ownsRow (w.heap.size + 3) 99 3 out' (d.length + 1) (kcells (d.map cellOf) ++ [.bool r.1, .int .i64 r.2.1, r.2.2.1])) (hl : wr.ownsRow B' 130 2 r.2.2.1 r.2.2.2.length (lcells r.2.2.2)) (hB : w.heap.size + 3 ≤ B')
    (hfresh : ∀ q ∈ d, ∀ g, q.2.2.1.ownBlock = some g → g < B') : CopyS w (w'.setCell ⟨w.heap.size + 1 + 1, 0, none⟩ out') arg out' (d ++ [r]) := by
  obtain ⟨h1, h2, h3, h4, h5⟩ := h
  have l3 := (Array.getElem?_eq_some_iff.1 h3).1
  have hne : ∀ i, i < w.heap.size + 3 → some i ≠ out.ownBlock := fun i hi e => by
    have := (own_block_lt h4.1 i e.symm).1
    omega
  have hf := h4.snoc hg ho hl hB hfresh
  refine ⟨row_set_ne ((hg.block _ (by omega) (hne _ (by omega))).trans h1) (by omega) _ _, row_set_ne ((hg.block _ (by omega) (hne _ (by omega))).trans h2) (by omega) _ _, row_set ((hg.block _ (by omega) (hne _ (by omega))).trans h3) 0 out', hf.cellb (by omega) 0 out', ?_⟩
  exact (h5.trans ((Below.refl w.heap.size wr).grown hg h5.size (fun k hk => by have := (own_block_lt h4.1 k hk).1; omega))).setCell (p := ⟨w.heap.size + 1 + 1, 0, none⟩) (by show _ ≤ _ + 1 + 1; omega) _

end Go.Proofs.YtiicghepilbgfaaGreatDoor

/-
  A leaf of a flash is written; the results of a function that answers a flash and a bool.
-/
namespace Go.Proofs.YtiicghepilbgfaaGreatDoor
open Go.RowKit

theorem results_flash2 {fn : Func} {p q : Tmp} (h : fn.results = #[.cell p 49, .tmp q]) (tmps : Array Value) (w : World) (g : Nat) (v : Value)
    (hp : tmps.getD p undef = .pointer (some ⟨g, 0, none⟩)) (hg : w.heap[g]? = some (.cells #[v] 49 (0, 0))) :
    (results fn tmps).run Tryz.prog w = .ok (.tuple #[.agg #[v], tmps.getD q undef]) w := by
  have hp' : tmps[p]?.getD undef = .pointer (some ⟨g, 0, none⟩) := by simpa using hp
  have hl := run_loadVar_row (P := Tryz.prog) w g 49 49 #[v] (0, 0) _ hg Tryz.underlying49 rfl infoFlash1
  simp [results, h, hp', asAddr, hl]

theorem modify_tell (ss : List Rw) (k : Nat) (r : Rw) (f : Bk → Bk) (h : ss[k]? = some r) (r' : Rw) (hr : tellOf r' = f (tellOf r)) : (ss.set k r').map tellOf = (ss.map tellOf).modify k f := by
  apply List.ext_getElem?
  intro i
  rw [List.getElem?_map, List.getElem?_modify, List.getElem?_map]
  by_cases hi : k = i
  · subst hi
    have := (List.getElem?_eq_some_iff.1 h).1
    rw [List.getElem?_set_self this, h]
    simp [hr]
  · rw [List.getElem?_set_ne hi]
    simp [hi]
theorem leaf_not_flash {w : World} {B gl n m cap : Nat} {xs : List Value} (h : w.ownsRow B 130 2 (.slice (some ⟨gl, 0, none⟩) n cap) m xs) : ∀ i cs, w.heap[i]? = some (.cells cs 49 (0, 0)) → i ≠ gl := by
  intro i cs hi e
  subst e
  rcases h.2 with ⟨h1, -⟩ | ⟨g, cap, cur, h1, -, h2, -⟩
  · cases h1
  · injection h1 with a1
    simp at a1
    subst a1
    rw [hi] at h2
    simp at h2
theorem FlashOf.put {w : World} {B : Nat} {ud : Option Addr} {n ucap : Nat} {bs : List Bk} {k j : Nat} {b : Bk} (h : FlashOf w B (.slice ud n ucap) bs) (hk : bs[k]? = some b) (hj : j < b.2.2.length) :
    ∃ gu gl lcap, ud = some ⟨gu, 0, none⟩ ∧ w.cell? ⟨gu, k * 3 + 2, none⟩ = some (.slice (some ⟨gl, 0, none⟩) b.2.2.length lcap) ∧ (∃ x, w.cell? ⟨gl, j * 2, none⟩ = some x) ∧ (∃ x, w.cell? ⟨gl, j * 2 + 1, none⟩ = some x) ∧
      w.frozen? ⟨gl, j * 2, none⟩ = false ∧ w.frozen? ⟨gl, j * 2 + 1, none⟩ = false ∧ B ≤ gl ∧ B ≤ gu ∧ (∀ i cs, w.heap[i]? = some (.cells cs 49 (0, 0)) → i ≠ gl) ∧
      ∀ (z : Int) (t : ByteArray), FlashOf ((w.setCell ⟨gl, j * 2, none⟩ (.int .i64 z)).setCell ⟨gl, j * 2 + 1, none⟩ (.string t)) B (.slice ud n ucap) (bs.modify k (fun r => (r.1, r.2.1, r.2.2.set j (z, t)))) := by
  obtain ⟨ss, rfl, hs⟩ := h
  rw [List.getElem?_map] at hk
  obtain ⟨r, hr, rfl⟩ := Option.map_eq_some_iff.1 hk
  obtain ⟨ud', ucap', e, -, -, u3⟩ := frow_form hs.1
  injection e with e1 e2 e3
  subst e1 e2 e3
  have hkl := (List.getElem?_eq_some_iff.1 hr).1
  obtain ⟨gu, rfl, hgu, -⟩ := u3 (by omega)
  obtain ⟨x, y, u, ls⟩ := r
  have hlf := hs.2.2.1 _ (List.mem_of_getElem? hr)
  simp only [tellOf] at hj hlf ⊢
  obtain ⟨ld, lcap, rfl, -, -, l3⟩ := frow_form hlf.1
  obtain ⟨gl, rfl, hgl, -⟩ := l3 (by omega)
  obtain ⟨-, -, c3⟩ := kown_cells (k := k) (t := cellOf (x, y, .slice (some ⟨gl, 0, none⟩) ls.length lcap, ls)) hs.1 (by rw [List.getElem?_map, hr]; rfl)
  obtain ⟨t0, ht⟩ : ∃ t0, ls[j]? = some t0 := ⟨ls[j], List.getElem?_eq_getElem hj⟩
  obtain ⟨d1, d2⟩ := lown_cells hlf.1 ht
  refine ⟨gu, gl, lcap, rfl, c3, ⟨_, d1⟩, ⟨_, d2⟩, hlf.1.frozenAt _, hlf.1.frozenAt _, hgl, hgu, leaf_not_flash hlf.1, fun z t => ⟨ss.set k (x, y, .slice (some ⟨gl, 0, none⟩) ls.length lcap, ls.set j (z, t)), modify_tell ss k _ _ hr _ rfl, ?_⟩⟩
  have g1 := grown_cell w gl (j * 2) (.int .i64 z)
  have g2 := grown_cell (w.setCell ⟨gl, j * 2, none⟩ (.int .i64 z)) gl (j * 2 + 1) (.string t)
  have gg : w.grownBy ((w.setCell ⟨gl, j * 2, none⟩ (.int .i64 z)).setCell ⟨gl, j * 2 + 1, none⟩ (.string t)) (some gl) :=
    ⟨g2.os.trans g1.os, g2.tape.trans g1.tape, g2.output.trans g1.output, Nat.le_trans g1.size g2.size, fun i hi hn => (g2.block i (Nat.lt_of_lt_of_le hi g1.size) hn).trans (g1.block i hi hn)⟩
  have o1 := fown_set (fown_set hlf.1 rfl (j * 2) (.int .i64 z)) rfl (j * 2 + 1) (.string t)
  rw [(lcells_upd ls j t0 ht).1 z, (lcells_upd (ls.set j (z, t0.2)) j (z, t0.2) (by rw [List.getElem?_set_self hj])).2 t, List.set_set] at o1
  have := hs.leaves (k := k) (ls' := ls.set j (z, t)) hr gg ⟨by rw [List.length_set]; exact o1, hlf.2⟩
  simpa [World.setCell] using this
theorem put_len {B : Nat} {w : World} {v : Value} {bs : List Bk} (h : FlashOf w B v bs) (n : Nat) (a : Option Addr) (c : Nat) (hv : v = .slice a n c) : bs.length = n := by
  obtain ⟨a', c', e⟩ := h.form
  rw [hv] at e
  injection e with e1 e2 e3
  exact e2.symm
theorem cell_two {w : World} {gl gu i j k : Nat} {u v x : Value} (h : w.cell? ⟨gu, k, none⟩ = some x) (hne : gu ≠ gl) : ((w.setCell ⟨gl, i, none⟩ u).setCell ⟨gl, j, none⟩ v).cell? ⟨gu, k, none⟩ = some x := by
  have hlt := World.block_lt_of_cell? w _ h
  have hn : some gu ≠ some gl := fun e => hne (by injection e)
  have h1 := (grown_cell w gl i u).cell_far ⟨gu, k, none⟩ hlt hn
  have h2 := (grown_cell (w.setCell ⟨gl, i, none⟩ u) gl j v).cell_far ⟨gu, k, none⟩ (by simpa [World.setCell] using hlt) hn
  exact h2.trans (h1.trans h)
end Go.Proofs.YtiicghepilbgfaaGreatDoor
