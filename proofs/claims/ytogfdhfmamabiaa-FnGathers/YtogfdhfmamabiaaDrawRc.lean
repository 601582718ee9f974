/-
  The draw of a right record: spec.l09Rec.
-/
import Derived.Test.YtogfdhfmamabiaaPk1
import Derived.Test.YtogfdhfmamabiaaSRecOk
import Derived.Laws.Rows
namespace Go.Proofs.Ytogfdhfmamabiaa
open Go.RowKit
open Words

/-- What the draws of records hold: the cursor p, the result's variable in gr, the record in gp. -/
def DRt (w W : World) (p : Nat) (ad : Option Addr) (len cap gr gp : Nat) (cs : Array Value) : Prop :=
  Drawn w W p ad len cap ∧ w.heap.size ≤ gr ∧ gr < gp ∧ W.heap[gr]? = some (.cells #[.int .i64 0, .int .i64 0, .int .i64 0, .int .i64 0] 34 (0, 0)) ∧ W.heap[gp]? = some (.cells cs 34 (0, 0))
theorem DRt.drawn {w W W' : World} {p : Nat} {ad : Option Addr} {len cap gr gp : Nat} {cs : Array Value} (h : DRt w W p ad len cap gr gp cs) (d : Drawn W W' p ad len cap) (hp : p < w.heap.size) : DRt w W' p ad len cap gr gp cs := by
  obtain ⟨h1, h2, h3, h4, h5⟩ := h
  have l4 := (Array.getElem?_eq_some_iff.1 h4).1
  have l5 := (Array.getElem?_eq_some_iff.1 h5).1
  exact ⟨h1.trans d, h2, h3, (d.1.block gr l4 (by simp; omega)).trans h4, (d.1.block gp l5 (by simp; omega)).trans h5⟩
theorem drawn_put {w W : World} {p g k : Nat} {ad : Option Addr} {len cap : Nat} {v : Value} (h : Drawn w W p ad len cap) (hp : p < w.heap.size) (hg : w.heap.size ≤ g) : Drawn w (W.setCell ⟨g, k, none⟩ v) p ad len cap :=
  h.below ((Below.refl _ _).setCell hg _) hp
theorem DRt.set {w W : World} {p : Nat} {ad : Option Addr} {len cap gr gp : Nat} {cs : Array Value} (h : DRt w W p ad len cap gr gp cs) (hp : p < w.heap.size) (k : Nat) (v : Value) : DRt w (W.setCell ⟨gp, k, none⟩ v) p ad len cap gr gp (cs.setIfInBounds k v) := by
  obtain ⟨h1, h2, h3, h4, h5⟩ := h
  exact ⟨drawn_put h1 hp (by omega), h2, h3, (Below.heap_setCell _ _ _ _ (by simp; omega)).trans h4, heap_setCell_same _ _ _ _ _ _ h5⟩
theorem DRt.at_ {w W : World} {p : Nat} {ad : Option Addr} {len cap gr gp : Nat} {cs : Array Value} (h : DRt w W p ad len cap gr gp cs) (k : Nat) (v : Value) (hv : cs[k]? = some v) : W.cell? ⟨gp, k, none⟩ = some v ∧ W.frozen? ⟨gp, k, none⟩ = false :=
  ⟨cell_of_row _ _ k _ _ _ h.2.2.2.2 ▸ hv, frozen_of_row _ _ k _ _ h.2.2.2.2⟩
theorem DRt.below {w W W' : World} {p : Nat} {ad : Option Addr} {len cap gr gp : Nat} {cs : Array Value} (h : DRt w W p ad len cap gr gp cs) (hp : p < w.heap.size) (b : Below W.heap.size W W') : DRt w W' p ad len cap gr gp cs := by
  obtain ⟨h1, h2, h3, h4, h5⟩ := h
  exact ⟨h1.below (b.mono h1.1.size) hp, h2, h3, (b.block _ (Array.getElem?_eq_some_iff.1 h4).1).trans h4, (b.block _ (Array.getElem?_eq_some_iff.1 h5).1).trans h5⟩
theorem four_cs {w : World} {g : Nat} {t : TypeId} {y0 y1 y2 y3 a b c d : Value} (h : w.heap[g]? = some (.cells #[y0, y1, y2, y3] t (0, 0))) :
    ((((w.setCell ⟨g, 0, none⟩ a).setCell ⟨g, 1, none⟩ b).setCell ⟨g, 2, none⟩ c).setCell ⟨g, 3, none⟩ d).heap[g]? = some (.cells #[a, b, c, d] t (0, 0)) :=
  heap_setCell_same _ _ 3 _ _ _ (heap_setCell_same _ _ 2 _ _ _ (heap_setCell_same _ _ 1 _ _ _ (heap_setCell_same _ _ 0 _ _ _ h)))
theorem four_drawn {w W : World} {p g : Nat} {ad : Option Addr} {len cap : Nat} {a b c d : Value} (h : Drawn w W p ad len cap) (hp : p < w.heap.size) (hg : w.heap.size ≤ g) :
    Drawn w ((((W.setCell ⟨g, 0, none⟩ a).setCell ⟨g, 1, none⟩ b).setCell ⟨g, 2, none⟩ c).setCell ⟨g, 3, none⟩ d) p ad len cap :=
  drawn_put (drawn_put (drawn_put (drawn_put h hp hg) hp hg) hp hg) hp hg

/-- A record as it is drawn. -/
def RcDr (r : Rc) : Prop := r.Right ∧ 2 ≤ r.kind ∧ r.vol ≤ 3 ∧ r.chunk ≤ 9
set_option maxHeartbeats 4000000 in
set_option maxRecDepth 100000 in
theorem drecK (p : Nat) (ad : Option Addr) (len cap B : Nat) (w : World) (hl : len ≤ 1048576) (hc : CurIn w p ad len cap) (hd : CodeIn w ad len B) (hB : B ≤ p) :
    Calls Try.prog 51 #[.pointer (some ⟨p, 0, none⟩)] w fun e w' => ∃ r : Rc, e = .returned (rcVal r) ∧ RcDr r ∧ Drawn w w' p ad len cap := by
  have hpw := hc.2.2.2.2.2
  have HD := hide hd
  have bz : Below w.heap.size w (w.alloc (.cells #[.int .i64 0, .int .i64 0, .int .i64 0, .int .i64 0] 34)) := (Below.refl w.heap.size w).alloc (Nat.le_refl _) _
  have by1 : Below (w.heap.size + 1) (w.alloc (.cells #[.int .i64 0, .int .i64 0, .int .i64 0, .int .i64 0] 34)) ((w.alloc (.cells #[.int .i64 0, .int .i64 0, .int .i64 0, .int .i64 0] 34)).alloc (.cells #[.int .i64 2, .int .i64 2, .int .i64 3, .int .i64 4, .int .i64 4, .int .i64 4, .int .i64 4, .int .i64 4, .int .i64 5] 3)) := (Below.refl _ _).alloc (by simp) _
  have D0 := hide ((Drawn.refl hc).below (bz.trans (by1.mono (by omega))) hpw)
  have Z0 := hide ((by1.block w.heap.size (by omega)).trans (heap_alloc_new w (.cells #[.int .i64 0, .int .i64 0, .int .i64 0, .int .i64 0] 34)))
  have HCL : Hid (∀ j, j < ([2, 2, 3, 4, 4, 4, 4, 4, 5] : List Int).length → ((w.alloc (.cells #[.int .i64 0, .int .i64 0, .int .i64 0, .int .i64 0] 34)).alloc (.cells #[.int .i64 2, .int .i64 2, .int .i64 3, .int .i64 4, .int .i64 4, .int .i64 4, .int .i64 4, .int .i64 4, .int .i64 5] 3)).cell? ⟨w.heap.size + 1, j, none⟩ = some (.int .i64 (([2, 2, 3, 4, 4, 4, 4, 4, 5] : List Int).getD j 0))) := by
    intro j hj
    have h1 := heap_alloc_new (w.alloc (.cells #[.int .i64 0, .int .i64 0, .int .i64 0, .int .i64 0] 34)) (.cells #[.int .i64 2, .int .i64 2, .int .i64 3, .int .i64 4, .int .i64 4, .int .i64 4, .int .i64 4, .int .i64 4, .int .i64 5] 3)
    rw [show (w.alloc (.cells #[.int .i64 0, .int .i64 0, .int .i64 0, .int .i64 0] 34)).heap.size = w.heap.size + 1 by simp] at h1
    rw [cell_of_row _ _ j _ _ _ h1]
    match j, hj with
    | 0, _ => rfl | 1, _ => rfl | 2, _ => rfl | 3, _ => rfl | 4, _ => rfl | 5, _ => rfl | 6, _ => rfl | 7, _ => rfl | 8, _ => rfl
  clear hc hd bz by1
  go_enter Try.func51, Try.ntmps51
  go_wp2_with fail
  generalize (w.alloc (.cells #[.int .i64 0, .int .i64 0, .int .i64 0, .int .i64 0] 34)).alloc (.cells #[.int .i64 2, .int .i64 2, .int .i64 3, .int .i64 4, .int .i64 4, .int .i64 4, .int .i64 4, .int .i64 4, .int .i64 5] 3) = w0 at D0 Z0 HCL ⊢
  refine (pickIn_any (w.heap.size + 1) [2, 2, 3, 4, 4, 4, 4, 4, 5] p ad len cap B _ (by simp) (by simp) (by omega) HCL.out hl D0.out.2 (D0.out.code HD.out hB hpw) hB).mono ?_
  rintro e w1 ⟨x, rfl, hx, d1⟩
  have D1 := hide (D0.out.trans d1)
  have Z1 := hide ((d1.1.block w.heap.size (Array.getElem?_eq_some_iff.1 Z0.out).1 (by simp; omega)).trans Z0.out)
  clear d1 D0 Z0 HCL
  go_wp2_with fail
  refine (below_any 3 p ad len cap B _ (by omega) hl D1.out.2 (D1.out.code HD.out hB hpw) hB).mono ?_
  rintro e w2 ⟨y, rfl, y0, y1, -, d2⟩
  have y2 := y1 (by omega)
  have D2 := hide (D1.out.trans d2)
  have Z2 := hide ((d2.1.block w.heap.size (Array.getElem?_eq_some_iff.1 Z1.out).1 (by simp; omega)).trans Z1.out)
  clear d2 D1 Z1 y1
  have l1 : w.heap.size < w2.heap.size := (Array.getElem?_eq_some_iff.1 Z2.out).1
  have wy : IntKind.i64.wrap (1 + y) = 1 + y := by rw [IntKind.wrap_i64]; omega
  have P0 : Hid (DRt w (w2.alloc (.cells #[.int .i64 x, .int .i64 (1 + y), .int .i64 0, .int .i64 0] 34)) p ad len cap w.heap.size w2.heap.size #[.int .i64 x, .int .i64 (1 + y), .int .i64 0, .int .i64 0]) := by
    have ba : Below w2.heap.size w2 (w2.alloc (.cells #[.int .i64 x, .int .i64 (1 + y), .int .i64 0, .int .i64 0] 34)) := (Below.refl _ _).alloc (Nat.le_refl _) _
    exact ⟨D2.out.below (ba.mono D2.out.1.size) hpw, Nat.le_refl _, l1, (ba.block _ l1).trans Z2.out, heap_alloc_new _ _⟩
  clear D2 Z2
  have hx4 : x = 2 ∨ x = 3 ∨ x = 4 ∨ x = 5 := by have := hx.out; simp at this; omega
  clear hx
  obtain ⟨sc, hsc⟩ : ∃ sc, w2.heap.size = sc := ⟨_, rfl⟩
  rw [hsc] at P0
  rcases hx4 with hx | hx | hx | hx
  · subst hx
    have v0 := (P0.out.at_ 0 _ rfl).1
    have ba : Below (w2.alloc (.cells #[.int .i64 2, .int .i64 (1 + y), .int .i64 0, .int .i64 0] 34)).heap.size (w2.alloc (.cells #[.int .i64 2, .int .i64 (1 + y), .int .i64 0, .int .i64 0] 34)) ((w2.alloc (.cells #[.int .i64 2, .int .i64 (1 + y), .int .i64 0, .int .i64 0] 34)).alloc (.cells #[.int .i64 0, .int .i64 0, .int .i64 1, .int .i64 2] 3)) := (Below.refl _ _).alloc (Nat.le_refl _) _
    have P1 := hide (P0.out.below hpw ba)
    have HCL : Hid (∀ j, j < ([0, 0, 1, 2] : List Int).length → ((w2.alloc (.cells #[.int .i64 2, .int .i64 (1 + y), .int .i64 0, .int .i64 0] 34)).alloc (.cells #[.int .i64 0, .int .i64 0, .int .i64 1, .int .i64 2] 3)).cell? ⟨w2.heap.size + 1, j, none⟩ = some (.int .i64 (([0, 0, 1, 2] : List Int).getD j 0))) := by
      intro j hj
      have h1 := heap_alloc_new (w2.alloc (.cells #[.int .i64 2, .int .i64 (1 + y), .int .i64 0, .int .i64 0] 34)) (.cells #[.int .i64 0, .int .i64 0, .int .i64 1, .int .i64 2] 3)
      rw [show (w2.alloc (.cells #[.int .i64 2, .int .i64 (1 + y), .int .i64 0, .int .i64 0] 34)).heap.size = w2.heap.size + 1 by simp] at h1
      rw [cell_of_row _ _ j _ _ _ h1]
      match j, hj with
      | 0, _ => rfl | 1, _ => rfl | 2, _ => rfl | 3, _ => rfl
    rw [hsc] at HCL
    clear ba P0
    go_wp2_with fail
    try rw [hsc]
    generalize (w2.alloc (.cells #[.int .i64 2, .int .i64 (1 + y), .int .i64 0, .int .i64 0] 34)).alloc (.cells #[.int .i64 0, .int .i64 0, .int .i64 1, .int .i64 2] 3) = x1 at P1 HCL ⊢
    refine (pickIn_any (sc + 1) [0, 0, 1, 2] p ad len cap B _ (by simp) (by simp) (by omega) HCL.out hl P1.out.1.2 (P1.out.1.code HD.out hB hpw) hB).mono ?_
    rintro e w3 ⟨z, rfl, hz, d3⟩
    have hz4 : 0 ≤ z ∧ z ≤ 2 := by have := hz.out; simp at this; omega
    have P3 := hide (P1.out.drawn d3 hpw)
    clear d3 P1 HCL hz hsc v0
    obtain ⟨q0, g0⟩ := P3.out.at_ 2 _ rfl
    have P4 := hide (P3.out.set hpw 2 (.int .i64 z))
    change Hid (DRt w _ p ad len cap w.heap.size sc #[.int .i64 2, .int .i64 (1 + y), .int .i64 z, .int .i64 0]) at P4
    clear P3
    obtain ⟨u0, -⟩ := P4.out.at_ 0 _ rfl
    obtain ⟨u1, -⟩ := P4.out.at_ 1 _ rfl
    obtain ⟨u2, -⟩ := P4.out.at_ 2 _ rfl
    obtain ⟨u3, -⟩ := P4.out.at_ 3 _ rfl
    have Z := P4.out.2.2.2.1
    have c0 := cell_of_row _ _ 0 _ _ _ Z
    have f0 := frozen_of_row _ _ 0 _ _ Z
    have c1 := cell_of_row _ _ 1 _ _ _ Z
    have f1 := frozen_of_row _ _ 1 _ _ Z
    have c2 := cell_of_row _ _ 2 _ _ _ Z
    have f2 := frozen_of_row _ _ 2 _ _ Z
    have c3 := cell_of_row _ _ 3 _ _ _ Z
    have f3 := frozen_of_row _ _ 3 _ _ Z
    have Z6 := four_cs (a := .int .i64 2) (b := .int .i64 (1 + y)) (c := .int .i64 z) (d := .int .i64 0) Z
    have B6 := hide (four_drawn (a := .int .i64 2) (b := .int .i64 (1 + y)) (c := .int .i64 z) (d := .int .i64 0) P4.out.1 hpw P4.out.2.1)
    have r0 := cell_of_row _ _ 0 _ _ _ Z6
    have r1 := cell_of_row _ _ 1 _ _ _ Z6
    have r2 := cell_of_row _ _ 2 _ _ _ Z6
    have r3 := cell_of_row _ _ 3 _ _ _ Z6
    clear Z Z6
    go_wp2
    exact bodyPost_ret (v := .agg #[.int .i64 2, .int .i64 (1 + y), .int .i64 z, .int .i64 0]) (by simp [results, Try.results51, go_sem, r0, r1, r2, r3]) rfl ⟨⟨2, 1 + y, z, 0⟩, rfl, ⟨(rc_spec _ _ _ _).2 (by omega), by dsimp only; omega⟩, B6.out⟩
  · subst hx
    have v0 := (P0.out.at_ 0 _ rfl).1
    obtain ⟨u0, -⟩ := P0.out.at_ 0 _ rfl
    obtain ⟨u1, -⟩ := P0.out.at_ 1 _ rfl
    obtain ⟨u2, -⟩ := P0.out.at_ 2 _ rfl
    obtain ⟨u3, -⟩ := P0.out.at_ 3 _ rfl
    have Z := P0.out.2.2.2.1
    have c0 := cell_of_row _ _ 0 _ _ _ Z
    have f0 := frozen_of_row _ _ 0 _ _ Z
    have c1 := cell_of_row _ _ 1 _ _ _ Z
    have f1 := frozen_of_row _ _ 1 _ _ Z
    have c2 := cell_of_row _ _ 2 _ _ _ Z
    have f2 := frozen_of_row _ _ 2 _ _ Z
    have c3 := cell_of_row _ _ 3 _ _ _ Z
    have f3 := frozen_of_row _ _ 3 _ _ Z
    have Z6 := four_cs (a := .int .i64 3) (b := .int .i64 (1 + y)) (c := .int .i64 0) (d := .int .i64 0) Z
    have B6 := hide (four_drawn (a := .int .i64 3) (b := .int .i64 (1 + y)) (c := .int .i64 0) (d := .int .i64 0) P0.out.1 hpw P0.out.2.1)
    have r0 := cell_of_row _ _ 0 _ _ _ Z6
    have r1 := cell_of_row _ _ 1 _ _ _ Z6
    have r2 := cell_of_row _ _ 2 _ _ _ Z6
    have r3 := cell_of_row _ _ 3 _ _ _ Z6
    clear Z Z6
    go_wp2
    exact bodyPost_ret (v := .agg #[.int .i64 3, .int .i64 (1 + y), .int .i64 0, .int .i64 0]) (by simp [results, Try.results51, go_sem, r0, r1, r2, r3]) rfl ⟨⟨3, 1 + y, 0, 0⟩, rfl, ⟨(rc_spec _ _ _ _).2 (by omega), by dsimp only; omega⟩, B6.out⟩
  · subst hx
    have v0 := (P0.out.at_ 0 _ rfl).1
    go_wp2_with fail
    try rw [hsc]
    generalize w2.alloc (.cells #[.int .i64 4, .int .i64 (1 + y), .int .i64 0, .int .i64 0] 34) = x1 at P0 v0 ⊢
    refine (below_any 16 p ad len cap B _ (by omega) hl P0.out.1.2 (P0.out.1.code HD.out hB hpw) hB).mono ?_
    rintro e w3 ⟨z, rfl, z0, z1, -, d3⟩
    have z2 := z1 (by omega)
    have P3 := hide (P0.out.drawn d3 hpw)
    clear d3 P0 z1 hsc v0
    obtain ⟨q0, g0⟩ := P3.out.at_ 2 _ rfl
    have P4 := hide (P3.out.set hpw 2 (.int .i64 z))
    change Hid (DRt w _ p ad len cap w.heap.size sc #[.int .i64 4, .int .i64 (1 + y), .int .i64 z, .int .i64 0]) at P4
    clear P3
    go_wp2_with fail
    generalize w3.setCell ⟨sc, 2, none⟩ (.int .i64 z) = x3 at P4 ⊢
    refine (below_any 9 p ad len cap B _ (by omega) hl P4.out.1.2 (P4.out.1.code HD.out hB hpw) hB).mono ?_
    rintro e w5 ⟨u, rfl, t0, t1, -, d5⟩
    have t2 := t1 (by omega)
    have P5 := hide (P4.out.drawn d5 hpw)
    clear d5 P4 t1 q0 g0
    have wu : IntKind.i64.wrap (1 + u) = 1 + u := by rw [IntKind.wrap_i64]; omega
    obtain ⟨q0, g0⟩ := P5.out.at_ 3 _ rfl
    have P6 := hide (P5.out.set hpw 3 (.int .i64 (1 + u)))
    change Hid (DRt w _ p ad len cap w.heap.size sc #[.int .i64 4, .int .i64 (1 + y), .int .i64 z, .int .i64 (1 + u)]) at P6
    clear P5
    obtain ⟨u0, -⟩ := P6.out.at_ 0 _ rfl
    obtain ⟨u1, -⟩ := P6.out.at_ 1 _ rfl
    obtain ⟨u2, -⟩ := P6.out.at_ 2 _ rfl
    obtain ⟨u3, -⟩ := P6.out.at_ 3 _ rfl
    have Z := P6.out.2.2.2.1
    have c0 := cell_of_row _ _ 0 _ _ _ Z
    have f0 := frozen_of_row _ _ 0 _ _ Z
    have c1 := cell_of_row _ _ 1 _ _ _ Z
    have f1 := frozen_of_row _ _ 1 _ _ Z
    have c2 := cell_of_row _ _ 2 _ _ _ Z
    have f2 := frozen_of_row _ _ 2 _ _ Z
    have c3 := cell_of_row _ _ 3 _ _ _ Z
    have f3 := frozen_of_row _ _ 3 _ _ Z
    have Z6 := four_cs (a := .int .i64 4) (b := .int .i64 (1 + y)) (c := .int .i64 z) (d := .int .i64 (1 + u)) Z
    have B6 := hide (four_drawn (a := .int .i64 4) (b := .int .i64 (1 + y)) (c := .int .i64 z) (d := .int .i64 (1 + u)) P6.out.1 hpw P6.out.2.1)
    have r0 := cell_of_row _ _ 0 _ _ _ Z6
    have r1 := cell_of_row _ _ 1 _ _ _ Z6
    have r2 := cell_of_row _ _ 2 _ _ _ Z6
    have r3 := cell_of_row _ _ 3 _ _ _ Z6
    clear Z Z6
    go_wp2
    exact bodyPost_ret (v := .agg #[.int .i64 4, .int .i64 (1 + y), .int .i64 z, .int .i64 (1 + u)]) (by simp [results, Try.results51, go_sem, r0, r1, r2, r3]) rfl ⟨⟨4, 1 + y, z, 1 + u⟩, rfl, ⟨(rc_spec _ _ _ _).2 (by omega), by dsimp only; omega⟩, B6.out⟩
  · subst hx
    have v0 := (P0.out.at_ 0 _ rfl).1
    go_wp2_with fail
    try rw [hsc]
    generalize w2.alloc (.cells #[.int .i64 5, .int .i64 (1 + y), .int .i64 0, .int .i64 0] 34) = x1 at P0 v0 ⊢
    refine (below_any 16 p ad len cap B _ (by omega) hl P0.out.1.2 (P0.out.1.code HD.out hB hpw) hB).mono ?_
    rintro e w3 ⟨z, rfl, z0, z1, -, d3⟩
    have z2 := z1 (by omega)
    have P3 := hide (P0.out.drawn d3 hpw)
    clear d3 P0 z1 hsc v0
    obtain ⟨q0, g0⟩ := P3.out.at_ 2 _ rfl
    have P4 := hide (P3.out.set hpw 2 (.int .i64 z))
    change Hid (DRt w _ p ad len cap w.heap.size sc #[.int .i64 5, .int .i64 (1 + y), .int .i64 z, .int .i64 0]) at P4
    clear P3
    obtain ⟨u0, -⟩ := P4.out.at_ 0 _ rfl
    obtain ⟨u1, -⟩ := P4.out.at_ 1 _ rfl
    obtain ⟨u2, -⟩ := P4.out.at_ 2 _ rfl
    obtain ⟨u3, -⟩ := P4.out.at_ 3 _ rfl
    have Z := P4.out.2.2.2.1
    have c0 := cell_of_row _ _ 0 _ _ _ Z
    have f0 := frozen_of_row _ _ 0 _ _ Z
    have c1 := cell_of_row _ _ 1 _ _ _ Z
    have f1 := frozen_of_row _ _ 1 _ _ Z
    have c2 := cell_of_row _ _ 2 _ _ _ Z
    have f2 := frozen_of_row _ _ 2 _ _ Z
    have c3 := cell_of_row _ _ 3 _ _ _ Z
    have f3 := frozen_of_row _ _ 3 _ _ Z
    have Z6 := four_cs (a := .int .i64 5) (b := .int .i64 (1 + y)) (c := .int .i64 z) (d := .int .i64 0) Z
    have B6 := hide (four_drawn (a := .int .i64 5) (b := .int .i64 (1 + y)) (c := .int .i64 z) (d := .int .i64 0) P4.out.1 hpw P4.out.2.1)
    have r0 := cell_of_row _ _ 0 _ _ _ Z6
    have r1 := cell_of_row _ _ 1 _ _ _ Z6
    have r2 := cell_of_row _ _ 2 _ _ _ Z6
    have r3 := cell_of_row _ _ 3 _ _ _ Z6
    clear Z Z6
    go_wp2
    exact bodyPost_ret (v := .agg #[.int .i64 5, .int .i64 (1 + y), .int .i64 z, .int .i64 0]) (by simp [results, Try.results51, go_sem, r0, r1, r2, r3]) rfl ⟨⟨5, 1 + y, z, 0⟩, rfl, ⟨(rc_spec _ _ _ _).2 (by omega), by dsimp only; omega⟩, B6.out⟩
theorem drec (p : Nat) (ad : Option Addr) (len cap B : Nat) (w : World) (hl : len ≤ 1048576) (hc : CurIn w p ad len cap) (hd : CodeIn w ad len B) (hB : B ≤ p) :
    Calls Try.prog 51 #[.pointer (some ⟨p, 0, none⟩)] w fun e w' => ∃ r : Rc, e = .returned (rcVal r) ∧ r.Right ∧ Drawn w w' p ad len cap :=
  (drecK p ad len cap B w hl hc hd hB).mono fun _ _ ⟨r, h1, h2, h3⟩ => ⟨r, h1, h2.1, h3⟩
end Go.Proofs.Ytogfdhfmamabiaa
