/-
  CopyM; ISlices
-/
import Derived.Test.YtiicghepilbgfaaGreatDoorPk32
import Derived.Test.YtiicghepilbgfaaGreatDoorPk31
import Derived.Lib.SliceRun
/-
  A flash that is being copied by the program: the first blocks have leaves of their own, the others still those of the flash that came in.
-/
namespace Go.Proofs.YtiicghepilbgfaaGreatDoor
open Go.RowKit

theorem kcells_one (rs : List Rw) (h : ∀ r ∈ rs, ∃ a n c, r.2.2.1 = .slice a n c) : ∀ v ∈ kcells (rs.map cellOf), v.oneCell' = true := by
  intro v hv
  obtain ⟨t, ht, hv⟩ := List.mem_flatMap.1 hv
  obtain ⟨r, hr, rfl⟩ := List.mem_map.1 ht
  obtain ⟨a, n, c, e⟩ := h r hr
  simp only [kcell, cellOf, e] at hv
  exact blk_one _ _ _ _ _ v hv
def CopyI (B : Nat) (w : World) (v : Value) (rs d : List Rw) : Prop :=
  w.ownsRow B 99 3 v rs.length (kcells (d.map cellOf ++ (rs.drop d.length).map cellOf)) ∧ (∀ r ∈ d, LeafIn w B w.heap.size r.2.2.1 r.2.2.2) ∧
    (d.map fun r => r.2.2.1).Pairwise (fun a b => a.ownBlock = none ∨ a.ownBlock ≠ b.ownBlock)
theorem CopyI.below {B : Nat} {w w' : World} {v : Value} {rs d : List Rw} (h : CopyI B w v rs d) (hb : Below w.heap.size w w') : CopyI B w' v rs d :=
  ⟨own_below h.1 hb, fun r hr => ((h.2.1 r hr).below hb (Nat.le_refl _)).up hb.size, h.2.2⟩
theorem CopyI.start {B : Nat} {w : World} {v : Value} {rs : List Rw} (h : w.ownsRow B 99 3 v rs.length (kcells (rs.map cellOf))) : CopyI B w v rs [] :=
  ⟨(by simpa using h), fun r hr => (by cases hr), List.Pairwise.nil⟩
theorem CopyI.done {B : Nat} {w : World} {v : Value} {rs d : List Rw} (h : CopyI B w v rs d) (hd : d.length = rs.length) : FlashIn w B w.heap.size v d := by
  obtain ⟨h1, h2, h3⟩ := h
  rw [List.drop_eq_nil_of_le (by omega), List.map_nil, List.append_nil] at h1
  exact ⟨by rw [hd]; exact h1, fun g hg => (own_block_lt h1 g hg).2, h2, h3⟩
theorem copy_mid {rs d : List Rw} {r : Rw} (hr : rs[d.length]? = some r) : (d.map cellOf ++ (rs.drop d.length).map cellOf)[d.length]? = some (cellOf r) := by
  rw [List.getElem?_append_right (by simp), List.length_map, Nat.sub_self, List.getElem?_map, List.getElem?_drop, Nat.add_zero, hr]
  rfl
theorem CopyI.at {B : Nat} {w : World} {g n cap : Nat} {rs d : List Rw} {r : Rw} (h : CopyI B w (.slice (some ⟨g, 0, none⟩) n cap) rs d) (hn : n = rs.length) (hr : rs[d.length]? = some r) :
    w.cell? ⟨g, d.length * 3, none⟩ = some (.bool r.1) ∧ w.cell? ⟨g, d.length * 3 + 1, none⟩ = some (.int .i64 r.2.1) ∧ w.cell? ⟨g, d.length * 3 + 2, none⟩ = some r.2.2.1 := by
  subst hn
  exact kown_cells (t := cellOf r) h.1 (copy_mid hr)
theorem CopyI.lt3 {B : Nat} {w : World} {v : Value} {rs d : List Rw} {r : Rw} (h : CopyI B w v rs d) (hr : rs[d.length]? = some r) : d.length * 3 + 2 < (kcells (d.map cellOf ++ (rs.drop d.length).map cellOf)).length := by
  have hl := (List.getElem?_eq_some_iff.1 hr).1
  have := h.1.1
  omega
/-- A cell of an own row that is written holds what was written. -/
theorem row_cell_set {w : World} {B : Nat} {e : TypeId} {size g n cap : Nat} {xs : List Value} (h : w.ownsRow B e size (.slice (some ⟨g, 0, none⟩) n cap) n xs) (k : Nat) (u : Value) (hk : k < xs.length) : (w.setCell ⟨g, k, none⟩ u).cell? ⟨g, k, none⟩ = some u := by
  have o := fown_set h rfl k u
  have := o.cells (g := g) rfl k u (by rw [List.getElem?_set_self hk])
  rw [addr_at] at this
  exact this
theorem CopyI.step {B : Nat} {w w3 : World} {g n cap : Nat} {rs d : List Rw} {x : Bool} {y : Int} {u0 v' : Value} {ls ls0 : List (Int × ByteArray)} (h : CopyI B w (.slice (some ⟨g, 0, none⟩) n cap) rs d) (hn : n = rs.length) (hr : rs[d.length]? = some (x, y, u0, ls0))
    (hb : Below w.heap.size w w3) (hv : w3.ownsRow w.heap.size 130 2 v' ls.length (lcells ls)) (hB : B ≤ w.heap.size) : CopyI B (w3.setCell ⟨g, d.length * 3 + 2, none⟩ v') (.slice (some ⟨g, 0, none⟩) n cap) rs (d ++ [(x, y, v', ls)]) := by
  subst hn
  obtain ⟨h1, h2, h3⟩ := h
  have o3 := own_below h1 hb
  have o4 := fown_set o3 rfl (d.length * 3 + 2) v'
  have hlen := (List.getElem?_eq_some_iff.1 hr).1
  have hL : (d.map cellOf ++ (rs.drop d.length).map cellOf).set d.length (x, y, v') = (d ++ [((x, y, v', ls) : Rw)]).map cellOf ++ (rs.drop (d ++ [((x, y, v', ls) : Rw)]).length).map cellOf := by
    rw [List.set_append_right _ _ (by simp), List.length_map, Nat.sub_self, List.drop_eq_getElem_cons hlen, List.map_cons, List.set_cons_zero, List.map_append, List.append_assoc]
    simp [cellOf]
  rw [(kcells_upd _ d.length _ (copy_mid hr)).2.2 v'] at o4
  simp only [cellOf] at o4
  have hL2 : (d.map cellOf ++ (rs.drop d.length).map cellOf).set d.length (x, y, v') = _ := hL
  have o5 : (w3.setCell ⟨g, d.length * 3 + 2, none⟩ v').ownsRow B 99 3 (.slice (some ⟨g, 0, none⟩) rs.length cap) rs.length (kcells ((d ++ [((x, y, v', ls) : Rw)]).map cellOf ++ (rs.drop (d ++ [((x, y, v', ls) : Rw)]).length).map cellOf)) := by
    rw [← hL2]
    exact o4
  have hs := hb.size
  refine ⟨o5, fun r hr => ?_, ?_⟩
  · have hl : LeafIn w3 B w3.heap.size r.2.2.1 r.2.2.2 := by
      rcases List.mem_append.1 hr with hr | hr
      · exact ((h2 r hr).below hb (Nat.le_refl _)).up hs
      · rw [List.mem_singleton] at hr
        subst hr
        exact ⟨own_down hv hB, fun g hg => (own_block_lt hv g hg).2⟩
    have : LeafIn (w3.setCell ⟨g, d.length * 3 + 2, none⟩ v') B w3.heap.size r.2.2.1 r.2.2.2 := ⟨hl.1.kept (grown_cell w3 g _ v') (leaf_ne o3 hl.1), hl.2⟩
    simpa [World.setCell] using this
  · rw [List.map_append, List.pairwise_append]
    refine ⟨h3, by simp, fun a ha b hb2 => ?_⟩
    obtain ⟨r, hr, rfl⟩ := List.mem_map.1 ha
    simp at hb2
    subst hb2
    cases hq : r.2.2.1.ownBlock with
    | none => exact Or.inl rfl
    | some g =>
      refine Or.inr (fun e => ?_)
      have k1 := (h2 r hr).2 g hq
      have k2 := (own_block_lt hv g e.symm).1
      omega
end Go.Proofs.YtiicghepilbgfaaGreatDoor

/-
  slices.Clone of leaves, and of blocks.
-/
namespace Go.Proofs.YtiicghepilbgfaaGreatDoor
open Go.RowKit

theorem empty_blocks (w : World) : (w.alloc (.cells #[] 99)).ownsRow w.heap.size 99 3 (.slice (some ⟨w.heap.size, 0, none⟩) 0 0) 0 (kcells []) :=
  ⟨rfl, .inr ⟨w.heap.size, 0, #[], rfl, Nat.le_refl _, heap_alloc_new w _, Nat.le_refl _, by unfold maxLen; omega, rfl, rfl⟩⟩
theorem FlashRd.cells {w : World} {g n cap : Nat} {rs : List Rw} (h : FlashRd w (.slice (some ⟨g, 0, none⟩) n cap) rs) (j : Nat) (u : Value) (hj : (kcells (rs.map cellOf))[j]? = some u) : w.cell? ⟨g, j, none⟩ = some u := by
  have hlt := (List.getElem?_eq_some_iff.1 hj).1
  rw [kcells_len, List.length_map] at hlt
  obtain ⟨r, hr⟩ : ∃ r, rs[j / 3]? = some r := ⟨_, List.getElem?_eq_getElem (by omega)⟩
  obtain ⟨g', e, ⟨c1, c2, c3⟩, -⟩ := h.at hr
  injection e with e
  injection e with e
  subst e
  obtain ⟨k1, k2, k3⟩ := kcells_at (rs.map cellOf) (j / 3) (cellOf r) (by rw [List.getElem?_map, hr]; rfl)
  have hm : j % 3 = 0 ∨ j % 3 = 1 ∨ j % 3 = 2 := by omega
  rcases hm with hm | hm | hm
  · have e : j / 3 * 3 = j := by omega
    rw [e, hj] at k1
    rw [e] at c1
    cases k1
    exact c1
  · have e : j / 3 * 3 + 1 = j := by omega
    rw [e, hj] at k2
    rw [e] at c2
    cases k2
    exact c2
  · have e : j / 3 * 3 + 2 = j := by omega
    rw [e, hj] at k3
    rw [e] at c3
    cases k3
    exact c3
theorem FlashRd.slices {w : World} {v : Value} {rs : List Rw} (h : FlashRd w v rs) : ∀ r ∈ rs, ∃ a n c, r.2.2.1 = .slice a n c := by
  intro r hr
  obtain ⟨k, hk, rfl⟩ := List.getElem_of_mem hr
  obtain ⟨vd, vc, rfl, -, h⟩ := h
  obtain ⟨g, -, -, ld, lc, e, -⟩ := h k _ (List.getElem?_eq_getElem hk)
  exact ⟨_, _, _, e⟩
/-- append([]Block{}, bs...). -/
theorem blk_append_rd (w : World) {ops : Array Oper} {rest : List Oper} {o : Oper} {a : Act} {Q : Exit → Act → World → Prop} (hg : o.guard = none) (s x : Operand)
    (hop : o.op = Op.call { callee := Callee.builtin Builtin.append, args := #[s, x], argTypes := #[47, 47] }) (g : Nat) (hs : a.eval s = .slice (some ⟨g, 0, none⟩) 0 0)
    (hown : w.ownsRow g 99 3 (.slice (some ⟨g, 0, none⟩) 0 0) 0 (kcells [])) (ao : Option Addr) (c : Nat) (rs : List Rw) (hx : a.eval x = .slice ao rs.length c) (hl : rs.length ≤ 1048576) (hone : ∀ v ∈ kcells (rs.map cellOf), v.oneCell' = true)
    (hsrc : FlashRd w (.slice ao rs.length c) rs)
    (hK : ∀ v' w', w'.ownsRow g 99 3 v' rs.length (kcells (rs.map cellOf)) → w.grownBy w' (some g) → wpList Tryz.prog ops Q rest (a.put o.dst v') w') : wpList Tryz.prog ops Q (o :: rest) a w := by
  obtain ⟨i0, hi, hz0, hz1, hz2⟩ := info_parts infoBlock
  have hgl := (own_block_lt hown g rfl).2
  by_cases h0 : rs.length = 0
  · have hls : rs = [] := List.eq_nil_of_length_eq_zero h0
    subst hls
    refine wpList_append_fits_any w hg s x _ hop g _ i0 3 Tryz.underlying47 hi hz1 g 0 0 [] hs hown ao 0 c [] hx rfl ?_ (by simp) (by simp) (Nat.le_refl _) (fun w' h1 h2 => hK _ w' h1 h2)
    intro hn
    obtain ⟨vd, vc, e, h, -⟩ := hsrc
    injection e with e1 e2 e3
    subst e1 e3
    exact ⟨rfl, h hn⟩
  · obtain ⟨g', rfl⟩ := hsrc.head (by omega)
    refine wpList_append_own w hg s x _ hop g _ i0 (.agg #[.bool false, .int .i64 0, .slice none 0 0]) 3 40 Tryz.underlying47 hi hz0 hz1 hz2 rfl (by decide) _ 0 [] hs hown ⟨g', 0, none⟩ rs.length c (kcells (rs.map cellOf)) hx (by rw [kcells_len, List.length_map]) (fun j u hj => by rw [addr_at]; exact hsrc.cells j u hj) hone (by unfold maxLen; omega) (by omega) (by omega) ?_
    intro v' w' h1 h2 _
    rw [Nat.zero_add] at h1
    exact hK v' w' h1 h2
end Go.Proofs.YtiicghepilbgfaaGreatDoor
