/-
  FMath; Rd; FSnoc; Cells; HPush
-/
import Derived.Test.YtfmnaidhfgmemaaGreatDoorPk10
import Derived.Test.YtfmnaidhfgmemaaGreatDoorPk7
import Derived.Test.YtfmnaidhfgmemaaGreatDoorPk12
import Derived.Deep.RegionLaw
import Derived.Deep.AppendLies
namespace Go.Proofs.YtfmnaidhfgmemaaGreatDoor
def Tx (ls : List (Int × ByteArray)) : Prop := ∀ t ∈ ls, t.2.size ≤ 1048576
def TxB (rs : List Rw) : Prop := ∀ r ∈ rs, Tx r.2.2.2
theorem Tx.succ {ls : List (Int × ByteArray)} {k : Nat} {t : Int × ByteArray} (h : Tx (ls.take k)) (ht : ls[k]? = some t) (hs : t.2.size ≤ 1048576) : Tx (ls.take (k + 1)) := by
  obtain ⟨h1, h2⟩ := List.getElem?_eq_some_iff.1 ht
  rw [List.take_succ_eq_append_getElem h1, h2]
  intro u hu
  rcases List.mem_append.1 hu with hu | hu
  · exact h u hu
  · rw [List.mem_singleton] at hu
    subst hu
    exact hs
theorem TxB.succ {rs : List Rw} {k : Nat} {r : Rw} (h : TxB (rs.take k)) (hr : rs[k]? = some r) (hs : Tx r.2.2.2) : TxB (rs.take (k + 1)) := by
  obtain ⟨h1, h2⟩ := List.getElem?_eq_some_iff.1 hr
  rw [List.take_succ_eq_append_getElem h1, h2]
  intro u hu
  rcases List.mem_append.1 hu with hu | hu
  · exact h u hu
  · rw [List.mem_singleton] at hu
    subst hu
    exact hs
end Go.Proofs.YtfmnaidhfgmemaaGreatDoor

namespace Go.Proofs.YtfmnaidhfgmemaaGreatDoor
open Go.RowKit
def LeafRd (w : World) (u : Value) (ls : List (Int × ByteArray)) : Prop :=
  ∃ ld lc, u = .slice ld ls.length lc ∧ (ld = none → lc = 0) ∧ ∀ j t, ls[j]? = some t → ∃ gl o, ld = some ⟨gl, o, none⟩ ∧ w.cell? ⟨gl, o + j * 2, none⟩ = some (.int .i64 t.1) ∧ w.cell? ⟨gl, o + j * 2 + 1, none⟩ = some (.string t.2)
def FlashRd (w : World) (v : Value) (rs : List Rw) : Prop :=
  ∃ vd vcap, v = .slice vd rs.length vcap ∧ (vd = none → vcap = 0) ∧ ∀ k r, rs[k]? = some r → ∃ g, vd = some ⟨g, 0, none⟩ ∧ (w.cell? ⟨g, k * 3, none⟩ = some (.bool r.1) ∧ w.cell? ⟨g, k * 3 + 1, none⟩ = some (.int .i64 r.2.1) ∧ w.cell? ⟨g, k * 3 + 2, none⟩ = some r.2.2.1) ∧ LeafRd w r.2.2.1 r.2.2.2
theorem LeafRd.below {w w' : World} {u : Value} {ls : List (Int × ByteArray)} (h : LeafRd w u ls) (hb : Below w.heap.size w w') : LeafRd w' u ls := by
  obtain ⟨ld, lc, e, en, h⟩ := h
  refine ⟨ld, lc, e, en, fun j t ht => ?_⟩
  obtain ⟨gl, o, e2, c1, c2⟩ := h j t ht
  exact ⟨gl, o, e2, (hb.cell (World.block_lt_of_cell? w _ c1)).trans c1, (hb.cell (World.block_lt_of_cell? w _ c2)).trans c2⟩
theorem FlashRd.below {w w' : World} {v : Value} {rs : List Rw} (h : FlashRd w v rs) (hb : Below w.heap.size w w') : FlashRd w' v rs := by
  obtain ⟨vd, vcap, e, en, h⟩ := h
  refine ⟨vd, vcap, e, en, fun k r hr => ?_⟩
  obtain ⟨g, e2, ⟨c1, c2, c3⟩, hl⟩ := h k r hr
  exact ⟨g, e2, ⟨(hb.cell (World.block_lt_of_cell? w _ c1)).trans c1, (hb.cell (World.block_lt_of_cell? w _ c2)).trans c2, (hb.cell (World.block_lt_of_cell? w _ c3)).trans c3⟩, hl.below hb⟩
theorem FlashRd.at {w : World} {vd : Option Addr} {n vcap k : Nat} {rs : List Rw} {r : Rw} (h : FlashRd w (.slice vd n vcap) rs) (hr : rs[k]? = some r) : ∃ g, vd = some ⟨g, 0, none⟩ ∧ (w.cell? ⟨g, k * 3, none⟩ = some (.bool r.1) ∧ w.cell? ⟨g, k * 3 + 1, none⟩ = some (.int .i64 r.2.1) ∧ w.cell? ⟨g, k * 3 + 2, none⟩ = some r.2.2.1) ∧ LeafRd w r.2.2.1 r.2.2.2 := by
  obtain ⟨vd', vcap', e, -, h⟩ := h
  injection e with e1 e2 e3
  subst e1
  exact h k r hr
theorem own_nil {w : World} {B : Nat} {e : TypeId} {size n cap m : Nat} {a : Option Addr} {xs : List Value} (h : w.ownsRow B e size (.slice a m cap) n xs) : a = none → cap = 0 := by
  rintro rfl
  rcases h.2 with ⟨h, -⟩ | ⟨g, cap', cur, h, -⟩
  · injection h
  · cases h
theorem LeafIn.rd {w : World} {lo hi : Nat} {u : Value} {ls : List (Int × ByteArray)} (h : LeafIn w lo hi u ls) : LeafRd w u ls := by
  obtain ⟨ld, lc, rfl, -, -, l3⟩ := frow_form h.1
  refine ⟨ld, lc, rfl, own_nil h.1, fun j t ht => ?_⟩
  obtain ⟨gl, rfl, -, -⟩ := l3 (by have := (List.getElem?_eq_some_iff.1 ht).1; omega)
  obtain ⟨d1, d2⟩ := lown_cells h.1 ht
  exact ⟨gl, 0, rfl, by rw [Nat.zero_add]; exact d1, by rw [Nat.zero_add]; exact d2⟩
theorem FlashIn.rd {w : World} {lo hi : Nat} {v : Value} {rs : List Rw} (h : FlashIn w lo hi v rs) : FlashRd w v rs := by
  obtain ⟨vd, vcap, rfl, -, -, a3⟩ := frow_form h.1
  refine ⟨vd, vcap, rfl, own_nil h.1, fun k r hr => ?_⟩
  obtain ⟨g, rfl, -, -⟩ := a3 (by have := (List.getElem?_eq_some_iff.1 hr).1; omega)
  exact ⟨g, rfl, kown_cells (k := k) (t := cellOf r) h.1 (by rw [List.getElem?_map, hr]; rfl), (h.2.2.1 r (List.mem_of_getElem? hr)).rd⟩
theorem addr_offR (g o j : Nat) : (⟨g, o, none⟩ : Addr).add j = ⟨g, o + j, none⟩ := by
  simp only [Addr.add]
  split <;> simp_all
theorem LeafRd.cells {w : World} {gl o n lc : Nat} {ls : List (Int × ByteArray)} (h : LeafRd w (.slice (some ⟨gl, o, none⟩) n lc) ls) (j : Nat) (u : Value) (hj : (lcells ls)[j]? = some u) : w.cell? ⟨gl, o + j, none⟩ = some u := by
  obtain ⟨ld, lc', e, -, h⟩ := h
  injection e with e1 e2 e3
  subst e1
  have hlt := (List.getElem?_eq_some_iff.1 hj).1
  rw [lcells_len] at hlt
  obtain ⟨t, ht⟩ : ∃ t, ls[j / 2]? = some t := ⟨_, List.getElem?_eq_getElem (by omega)⟩
  obtain ⟨gl', o', e4, c1, c2⟩ := h _ t ht
  injection e4 with e4
  injection e4 with e5 e6
  subst e5 e6
  obtain ⟨k1, k2⟩ := lcells_at ls (j / 2) t ht
  rcases Nat.mod_two_eq_zero_or_one j with hm | hm
  · have e : j / 2 * 2 = j := by omega
    rw [e] at k1 c1
    rw [hj] at k1
    cases k1
    exact c1
  · have e : j / 2 * 2 + 1 = j := by omega
    rw [e, hj] at k2
    cases k2
    rw [Nat.add_assoc, e] at c2
    exact c2
theorem LeafRd.head {w : World} {ld : Option Addr} {n lc : Nat} {ls : List (Int × ByteArray)} (h : LeafRd w (.slice ld n lc) ls) (hn : 0 < ls.length) : ∃ gl o, ld = some ⟨gl, o, none⟩ := by
  obtain ⟨ld', lc', e, -, h⟩ := h
  injection e with e1 e2 e3
  subst e1
  obtain ⟨gl, o, e, -⟩ := h 0 _ (List.getElem?_eq_getElem hn)
  exact ⟨gl, o, e⟩
theorem LeafRd.two {w : World} {gl o n lc j : Nat} {ls : List (Int × ByteArray)} {t : Int × ByteArray} (h : LeafRd w (.slice (some ⟨gl, o, none⟩) n lc) ls) (ht : ls[j]? = some t) : w.cell? ⟨gl, o + j * 2, none⟩ = some (.int .i64 t.1) ∧ w.cell? ⟨gl, o + j * 2 + 1, none⟩ = some (.string t.2) := by
  obtain ⟨k1, k2⟩ := lcells_at ls j t ht
  exact ⟨h.cells _ _ k1, h.cells _ _ k2⟩
theorem LeafRd.none0 {w : World} {ld : Option Addr} {n lc : Nat} {ls : List (Int × ByteArray)} (h : LeafRd w (.slice ld n lc) ls) : ld = none → lc = 0 := by
  obtain ⟨ld', lc', e, h, -⟩ := h
  injection e with e1 e2 e3
  subst e1 e3
  exact h
theorem FlashRd.head {w : World} {vd : Option Addr} {n vcap : Nat} {rs : List Rw} (h : FlashRd w (.slice vd n vcap) rs) (hn : 0 < rs.length) : ∃ g, vd = some ⟨g, 0, none⟩ := by
  obtain ⟨g, e, -⟩ := h.at (List.getElem?_eq_getElem hn)
  exact ⟨g, e⟩
end Go.Proofs.YtfmnaidhfgmemaaGreatDoor

namespace Go.Proofs.YtfmnaidhfgmemaaGreatDoor
open Go.RowKit
theorem leaf_grown {w w' : World} {B hi : Nat} {v u : Value} {n : Nat} {xs : List Value} {ls : List (Int × ByteArray)} (hv : w.ownsRow B 80 3 v n xs) (hg : w.grownBy w' v.ownBlock) (h : LeafIn w B hi u ls) : LeafIn w' B hi u ls := by
  refine ⟨h.1.kept hg ?_, h.2⟩
  cases hq : v.ownBlock with
  | none =>
    cases hu : u.ownBlock with
    | none => exact Or.inl rfl
    | some g => exact Or.inr (by simp)
  | some g => exact Or.inr (leaf_not_block hv h.1 g hq)
theorem FlashIn.snoc {w w' : World} {B B' : Nat} {v v' : Value} {d : List Rw} {r : Rw} (h : FlashIn w B w.heap.size v d) (hg : w.grownBy w' v.ownBlock)
    (ho : w'.ownsRow B 80 3 v' (d.length + 1) (kcells (d.map cellOf) ++ [.bool r.1, .int .i64 r.2.1, r.2.2.1])) (hl : w.ownsRow B' 119 2 r.2.2.1 r.2.2.2.length (lcells r.2.2.2)) (hB : B ≤ B')
    (hfresh : ∀ q ∈ d, ∀ g, q.2.2.1.ownBlock = some g → g < B') : FlashIn w' B w'.heap.size v' (d ++ [r]) := by
  have hs := hg.size
  refine ⟨?_, fun g hq => (own_block_lt ho g hq).2, fun q hq => ?_, ?_⟩
  · rw [List.map_append, List.length_append, kcells_app]
    exact ho
  · rcases List.mem_append.1 hq with hq | hq
    · exact (leaf_grown h.1 hg (h.2.2.1 q hq)).up hs
    · rw [List.mem_singleton] at hq
      subst hq
      exact (leaf_grown h.1 hg ⟨own_down hl hB, fun g hq => (own_block_lt hl g hq).2⟩).up hs
  · rw [List.map_append, List.pairwise_append]
    refine ⟨h.2.2.2, by simp, fun a ha b hb2 => ?_⟩
    obtain ⟨q, hq, rfl⟩ := List.mem_map.1 ha
    simp at hb2
    subst hb2
    cases e1 : q.2.2.1.ownBlock with
    | none => exact Or.inl rfl
    | some g =>
      refine Or.inr (fun e => ?_)
      have k1 := hfresh q hq g e1
      have k2 := (own_block_lt hl g e.symm).1
      omega
theorem FlashIn.cellb {w : World} {B : Nat} {v : Value} {rs : List Rw} (h : FlashIn w B w.heap.size v rs) {g : Nat} (hg : g < B) (i : Nat) (u : Value) : FlashIn (w.setCell ⟨g, i, none⟩ u) B (w.setCell ⟨g, i, none⟩ u).heap.size v rs := by
  have := h.kept (w' := w.setCell ⟨g, i, none⟩ u) (fun k h1 _ => Below.heap_setCell _ _ _ _ (by show k ≠ g; omega))
  simpa [World.setCell] using this
theorem empty_leaves (w : World) : (w.alloc (.cells #[] 119)).ownsRow w.heap.size 119 2 (.slice (some ⟨w.heap.size, 0, none⟩) 0 0) 0 (lcells []) :=
  ⟨rfl, .inr ⟨w.heap.size, 0, #[], rfl, Nat.le_refl _, heap_alloc_new w _, Nat.le_refl _, by unfold maxLen; omega, rfl, rfl⟩⟩
theorem leaf_append_rd (w : World) {ops : Array Oper} {rest : List Oper} {o : Oper} {a : Act} {Q : Exit → Act → World → Prop} (hg : o.guard = none) (s x : Operand)
    (hop : o.op = Op.call { callee := Callee.builtin Builtin.append, args := #[s, x], argTypes := #[78, 78] }) (g : Nat) (hs : a.eval s = .slice (some ⟨g, 0, none⟩) 0 0)
    (hown : w.ownsRow g 119 2 (.slice (some ⟨g, 0, none⟩) 0 0) 0 (lcells [])) (ao : Option Addr) (c : Nat) (ls : List (Int × ByteArray)) (hx : a.eval x = .slice ao ls.length c) (hl : ls.length ≤ 1048576)
    (hsrc : LeafRd w (.slice ao ls.length c) ls)
    (hK : ∀ v' w', w'.ownsRow g 119 2 v' ls.length (lcells ls) → w.grownBy w' (some g) → wpList Tryz.prog ops Q rest (a.put o.dst v') w') : wpList Tryz.prog ops Q (o :: rest) a w := by
  obtain ⟨i0, hi, hz0, hz1, hz2⟩ := info_parts infoLeaf
  have hgl := (own_block_lt hown g rfl).2
  by_cases h0 : ls.length = 0
  · have hls : ls = [] := List.eq_nil_of_length_eq_zero h0
    subst hls
    refine wpList_append_fits_any w hg s x _ hop g _ i0 2 Tryz.underlying78 hi hz1 g 0 0 [] hs hown ao 0 c [] hx rfl ?_ (by simp) (by simp) (Nat.le_refl _) (fun w' h1 h2 => hK _ w' h1 h2)
    exact fun hn => ⟨rfl, hsrc.none0 hn⟩
  · obtain ⟨g', o', rfl⟩ := hsrc.head (by omega)
    refine wpList_append_own w hg s x _ hop g _ i0 (.agg #[.int .i64 0, .string ⟨#[]⟩]) 2 24 Tryz.underlying78 hi hz0 hz1 hz2 rfl (by decide) _ 0 [] hs hown ⟨g', o', none⟩ ls.length c (lcells ls) hx (lcells_len ls) (fun j u hj => by rw [addr_offR]; exact hsrc.cells j u hj) (lcells_one ls) (by unfold maxLen; omega) (by omega) (by omega) ?_
    intro v' w' h1 h2 _
    rw [Nat.zero_add] at h1
    exact hK v' w' h1 h2
end Go.Proofs.YtfmnaidhfgmemaaGreatDoor

namespace Go.Proofs.YtfmnaidhfgmemaaGreatDoor
open Go.RowKit
theorem cells_new (w : World) (cs : Array Value) (t : TypeId) (g : Nat) (hg : w.heap.size = g) : ∀ (j : Nat) (u : Value), cs.toList[j]? = some u → (w.alloc (.cells cs t)).cell? ((⟨g, 0, none⟩ : Addr).add j) = some u := by
  intro j u hj
  subst hg
  rw [addr_at, cell_of_row _ _ j _ _ _ (heap_alloc_new w (.cells cs t))]
  simpa using hj
theorem blk_one (x : Bool) (y : Int) (a : Option Addr) (n c : Nat) : ∀ u ∈ [Value.bool x, Value.int .i64 y, Value.slice a n c], u.oneCell' = true := by
  intro u hu
  simp at hu
  rcases hu with h | h | h <;> subst h <;> rfl
end Go.Proofs.YtfmnaidhfgmemaaGreatDoor

namespace Go.Proofs.YtfmnaidhfgmemaaGreatDoor
open Go.RowKit
theorem worn_assert (x y : Int) (w : World) : (Instr.typeAssert (.iface 182 (.agg #[.int .i64 x, .int .i64 y])) 20 182 false).run Tryz.prog w = .ok (.agg #[.int .i64 x, .int .i64 y]) w := by kernel_rfl
theorem HeapAt.row {w w2 : World} {hp q : Nat} {u : Value} {D : List Wb} (h : HeapAt w hp q u D) (hg : w.grownBy w2 u.ownBlock) : w2.heap[hp]? = some (.cells #[u] 216 (0, 0)) := by
  obtain ⟨h1, h2, h3, h4, h5⟩ := h
  exact (hg.block hp (Array.getElem?_eq_some_iff.1 h4).1 (fun e => by have := (h5.lt hp e.symm).1; omega)).trans h4
theorem HeapAt.snoc {w w2 : World} {hp q g cap : Nat} {u : Value} {D : List Wb} {x : Wb} (h : HeapAt w hp q u D) (hd : D.length < 1048576) (hg : w.grownBy w2 u.ownBlock) (ho : w2.ownsRow q 182 2 (.slice (some ⟨g, 0, none⟩) (D.length + 1) cap) (D.length + 1) (wcells D ++ [.int .i64 x.1, .int .i64 x.2])) :
    HeapAt (w2.setCell ⟨hp, 0, none⟩ (.slice (some ⟨g, 0, none⟩) (D.length + 1) cap)) hp q (.slice (some ⟨g, 0, none⟩) (D.length + 1) cap) (D ++ [x]) ∧ KeptH w (w2.setCell ⟨hp, 0, none⟩ (.slice (some ⟨g, 0, none⟩) (D.length + 1) cap)) hp q := by
  obtain ⟨h1, h2, h3, h4, h5⟩ := h
  have hlt := (Array.getElem?_eq_some_iff.1 h4).1
  have hb := hg.block hp hlt (fun e => by have := (h5.lt hp e.symm).1; omega)
  have hs := hg.size
  rw [wcells_snoc] at ho
  refine ⟨⟨h1, by simp only [World.setCell, Array.size_modify]; omega, by simp; omega, ?_, ?_⟩, ?_⟩
  · have := row_set (hb.trans h4) 0 (.slice (some ⟨g, 0, none⟩) (D.length + 1) cap)
    simpa using this
  · rw [List.length_append]
    exact own_cell ho h1 _ _
  · refine ⟨hg.os, hg.tape, hg.output, by simp only [World.setCell, Array.size_modify]; omega, fun i hi hne => ?_⟩
    refine (Below.heap_setCell _ _ _ _ (fun (e : i = hp) => by omega)).trans (hg.block i hi (fun e => ?_))
    have := (h5.lt i e.symm).1
    omega
set_option maxHeartbeats 1000000 in
set_option maxRecDepth 100000 in
theorem hpush_any (hp q : Nat) (u : Value) (D : List Wb) (x : Wb) (w : World) (h : HeapAt w hp q u D) (hd : D.length < 1048576) :
    Calls Tryz.prog 229 #[.pointer (some ⟨hp, 0, none⟩), .iface 182 (.agg #[.int .i64 x.1, .int .i64 x.2])] w fun e w' => e = .returned (.tuple #[]) ∧ ∃ u', HeapAt w' hp q u' (D ++ [x]) ∧ KeptH w w' hp q := by
  obtain ⟨i0, hi0, hz0, hz1, hz2⟩ := info_parts infoWorn
  obtain ⟨ad, cap, rfl, -⟩ := h.form
  have c := h.cell
  obtain ⟨x, y⟩ := x
  simp only
  have TA := worn_assert x y
  have bA := (Below.refl w.heap.size w).alloc (Nat.le_refl _) (.cells #[.int .i64 x, .int .i64 y] 182)
  have HA := hide (h.below bA.drew)
  have HK : Hid (KeptH w (w.alloc (.cells #[.int .i64 x, .int .i64 y] 182)).drew hp q) := KeptH.below bA.drew
  have ca : (w.alloc (.cells #[.int .i64 x, .int .i64 y] 182)).cell? ⟨hp, 0, none⟩ = some (.slice ad D.length cap) := HA.out.cell
  have HN : Hid (∀ (j : Nat) (u : Value), [Value.int .i64 x, Value.int .i64 y][j]? = some u → (w.alloc (.cells #[.int .i64 x, .int .i64 y] 182)).drew.cell? ((⟨w.heap.size, 0, none⟩ : Addr).add j) = some u) := cells_new w #[.int .i64 x, .int .i64 y] 182 w.heap.size rfl
  have HD := hide hd
  clear bA h hd
  go_enter Tryz.func229, Tryz.ntmps229
  go_wp2
  go_region_law (
    (refine step_append_lies _ (by rfl) (.tmp 7) (.tmp 10) 216 (by rfl) q 182 i0 (.agg #[.int .i64 0, .int .i64 0]) 2 16 Tryz.underlying216 hi0 hz0 hz1 hz2 rfl (by decide) _ D.length (wcells D) (by simp [Act.eval]) HA.out.2.2.2.2 ⟨w.heap.size, 0, none⟩ 1 1 [.int .i64 x, .int .i64 y] (by simp [Act.eval]) (by rfl) HN.out (worn_one (x, y)) (by omega) (by have := HD.out; unfold maxLen; omega) (by have := HD.out; omega) HA.out.2.1 _ rfl ?_; intro g6 cap6 w6 o6 gr6 hat hlt6; have P6 := hide (HA.out.snoc (x := (x, y)) HD.out gr6 o6); have t6 := HA.out.row gr6; have x6 := cell_of_row _ _ 0 _ _ _ t6; have y6 := frozen_of_row _ _ 0 _ _ t6))
  all_goals
    go_wp2
    go_end0
    exact ⟨rfl, _, P6.out.1, HK.out.trans P6.out.2⟩
end Go.Proofs.YtfmnaidhfgmemaaGreatDoor
