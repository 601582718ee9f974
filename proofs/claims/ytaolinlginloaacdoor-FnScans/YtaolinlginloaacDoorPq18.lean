/-
  DrawPg; D3; Big; Code
-/
import Derived.Test.YtaolinlginloaacDoorPq17
import Derived.Test.YtaolinlginloaacDoorSRPage
import Derived.Test.YtaolinlginloaacDoorPq0
import Derived.Test.YtaolinlginloaacDoorDraw
/-
  The draws of pages.
-/
namespace Go.Proofs.YtaolinlginloaacDoor
open Go.RowKit
open Words

/-- What the draws of pages hold: the cursor p, the result's variable in gr, the page in gp. -/
def DSt (w W : World) (p : Nat) (ad : Option Addr) (len cap gr gp : Nat) (cs : Array Value) : Prop :=
  Drawn w W p ad len cap ∧ w.heap.size ≤ gr ∧ gr < gp ∧ W.heap[gr]? = some (.cells #[.int .i64 0, .int .i64 0, .int .i64 0, .int .i64 0, .int .i64 0, .string ⟨#[]⟩] 35 (0, 0)) ∧ W.heap[gp]? = some (.cells cs 35 (0, 0))
theorem DSt.drawn {w W W' : World} {p : Nat} {ad : Option Addr} {len cap gr gp : Nat} {cs : Array Value} (h : DSt w W p ad len cap gr gp cs) (d : Drawn W W' p ad len cap) (hp : p < w.heap.size) : DSt w W' p ad len cap gr gp cs := by
  obtain ⟨h1, h2, h3, h4, h5⟩ := h
  have l4 := (Array.getElem?_eq_some_iff.1 h4).1
  have l5 := (Array.getElem?_eq_some_iff.1 h5).1
  exact ⟨h1.trans d, h2, h3, (d.1.block gr l4 (by simp; omega)).trans h4, (d.1.block gp l5 (by simp; omega)).trans h5⟩
theorem drawn_set {w W : World} {p g k : Nat} {ad : Option Addr} {len cap : Nat} {v : Value} (h : Drawn w W p ad len cap) (hp : p < w.heap.size) (hg : w.heap.size ≤ g) : Drawn w (W.setCell ⟨g, k, none⟩ v) p ad len cap :=
  h.below ((Below.refl _ _).setCell hg _) hp
theorem DSt.set {w W : World} {p : Nat} {ad : Option Addr} {len cap gr gp : Nat} {cs : Array Value} (h : DSt w W p ad len cap gr gp cs) (hp : p < w.heap.size) (k : Nat) (v : Value) : DSt w (W.setCell ⟨gp, k, none⟩ v) p ad len cap gr gp (cs.setIfInBounds k v) := by
  obtain ⟨h1, h2, h3, h4, h5⟩ := h
  exact ⟨drawn_set h1 hp (by omega), h2, h3, (Below.heap_setCell _ _ _ _ (by simp; omega)).trans h4, heap_setCell_same _ _ _ _ _ _ h5⟩
theorem DSt.at_ {w W : World} {p : Nat} {ad : Option Addr} {len cap gr gp : Nat} {cs : Array Value} (h : DSt w W p ad len cap gr gp cs) (k : Nat) (v : Value) (hv : cs[k]? = some v) : W.cell? ⟨gp, k, none⟩ = some v ∧ W.frozen? ⟨gp, k, none⟩ = false :=
  ⟨cell_of_row _ _ k _ _ _ h.2.2.2.2 ▸ hv, frozen_of_row _ _ k _ _ h.2.2.2.2⟩
theorem DSt.below {w W W' : World} {p : Nat} {ad : Option Addr} {len cap gr gp : Nat} {cs : Array Value} (h : DSt w W p ad len cap gr gp cs) (hp : p < w.heap.size) (b : Below W.heap.size W W') : DSt w W' p ad len cap gr gp cs := by
  obtain ⟨h1, h2, h3, h4, h5⟩ := h
  exact ⟨h1.below (b.mono h1.1.size) hp, h2, h3, (b.block _ (Array.getElem?_eq_some_iff.1 h4).1).trans h4, (b.block _ (Array.getElem?_eq_some_iff.1 h5).1).trans h5⟩
theorem six_drawn {w W : World} {p g : Nat} {ad : Option Addr} {len cap : Nat} {a b c d e f : Value} (h : Drawn w W p ad len cap) (hp : p < w.heap.size) (hg : w.heap.size ≤ g) :
    Drawn w ((((((W.setCell ⟨g, 0, none⟩ a).setCell ⟨g, 1, none⟩ b).setCell ⟨g, 2, none⟩ c).setCell ⟨g, 3, none⟩ d).setCell ⟨g, 4, none⟩ e).setCell ⟨g, 5, none⟩ f) p ad len cap :=
  h.below (six_below (Below.refl _ _) hg) hp

set_option maxHeartbeats 4000000 in
set_option maxRecDepth 100000 in
theorem dpage (p : Nat) (ad : Option Addr) (len cap B : Nat) (w : World) (hl : len ≤ 1048576) (hc : CurIn w p ad len cap) (hd : CodeIn w ad len B) (hB : B ≤ p) :
    Calls Tryd.prog 75 #[.pointer (some ⟨p, 0, none⟩)] w fun e w' => ∃ pg : Pg, e = .returned (pgVal pg) ∧ pg.text.size ≤ 5000 ∧ Drawn w w' p ad len cap := by
  have hpw := hc.2.2.2.2.2
  have HD := hide hd
  have D0 := hide ((Drawn.refl hc).below ((Below.refl w.heap.size w).alloc (Nat.le_refl _) (.cells #[.int .i64 0, .int .i64 0, .int .i64 0, .int .i64 0, .int .i64 0, .string ⟨#[]⟩] 35)) hpw)
  have Z0 := hide (heap_alloc_new w (.cells #[.int .i64 0, .int .i64 0, .int .i64 0, .int .i64 0, .int .i64 0, .string ⟨#[]⟩] 35))
  clear hc hd
  go_enter Tryd.func75, Tryd.ntmps75
  go_wp2_with fail
  refine (below_any 2 p ad len cap B _ (by omega) hl D0.out.2 (D0.out.code HD.out hB hpw) hB).mono ?_
  rintro e w1 ⟨x1, rfl, a1, b1, -, d1⟩
  have b1' := b1 (by omega)
  have D1 := hide (D0.out.trans d1)
  have Z1 := hide ((d1.1.block w.heap.size (Array.getElem?_eq_some_iff.1 Z0.out).1 (by simp; omega)).trans Z0.out)
  clear d1 b1 D0 Z0
  go_wp2_with fail
  refine (below_any 30 p ad len cap B _ (by omega) hl D1.out.2 (D1.out.code HD.out hB hpw) hB).mono ?_
  rintro e w2 ⟨x2, rfl, a2, b2, -, d2⟩
  have b2' := b2 (by omega)
  have D2 := hide (D1.out.trans d2)
  have Z2 := hide ((d2.1.block w.heap.size (Array.getElem?_eq_some_iff.1 Z1.out).1 (by simp; omega)).trans Z1.out)
  clear d2 b2 D1 Z1
  go_wp2_with fail
  refine (below_any 9 p ad len cap B _ (by omega) hl D2.out.2 (D2.out.code HD.out hB hpw) hB).mono ?_
  rintro e w3 ⟨x3, rfl, a3, b3, -, d3⟩
  have b3' := b3 (by omega)
  have D3 := hide (D2.out.trans d3)
  have Z3 := hide ((d3.1.block w.heap.size (Array.getElem?_eq_some_iff.1 Z2.out).1 (by simp; omega)).trans Z2.out)
  clear d3 b3 D2 Z2
  go_wp2_with fail
  refine (below_any 9 p ad len cap B _ (by omega) hl D3.out.2 (D3.out.code HD.out hB hpw) hB).mono ?_
  rintro e w4 ⟨x4, rfl, a4, b4, -, d4⟩
  have b4' := b4 (by omega)
  have D4 := hide (D3.out.trans d4)
  have Z4 := hide ((d4.1.block w.heap.size (Array.getElem?_eq_some_iff.1 Z3.out).1 (by simp; omega)).trans Z3.out)
  clear d4 b4 D3 Z3
  go_wp2_with fail
  refine (text_any x4 p ad len cap B _ hl D4.out.2 (D4.out.code HD.out hB hpw) hB).mono ?_
  rintro e w5 ⟨t, rfl, ht, -, d5⟩
  have D5 := hide (D4.out.trans d5)
  have Z5 := hide ((d5.1.block w.heap.size (Array.getElem?_eq_some_iff.1 Z4.out).1 (by simp; omega)).trans Z4.out)
  clear d5 D4 Z4
  have l5 : w.heap.size < w5.heap.size := (Array.getElem?_eq_some_iff.1 Z5.out).1
  have P0 : Hid (DSt w (w5.alloc (.cells #[.int .i64 (1 + x1), .int .i64 (1 + x2), .int .i64 (1 + x3), .int .i64 0, .int .i64 1, .string ⟨t.toArray⟩] 35)) p ad len cap w.heap.size w5.heap.size #[.int .i64 (1 + x1), .int .i64 (1 + x2), .int .i64 (1 + x3), .int .i64 0, .int .i64 1, .string ⟨t.toArray⟩]) := by
    have ba : Below w5.heap.size w5 (w5.alloc (.cells #[.int .i64 (1 + x1), .int .i64 (1 + x2), .int .i64 (1 + x3), .int .i64 0, .int .i64 1, .string ⟨t.toArray⟩] 35)) := (Below.refl _ _).alloc (Nat.le_refl _) _
    exact ⟨D5.out.below (ba.mono D5.out.1.size) hpw, Nat.le_refl _, l5, (ba.block _ l5).trans Z5.out, heap_alloc_new _ _⟩
  obtain ⟨q0, -⟩ := P0.out.at_ 0 _ rfl
  by_cases hk : (1 + x1 == 2) = true
  · go_wp2_with fail
    refine (once_any 2 p ad len cap B _ (by omega) hl P0.out.1.2 (P0.out.1.code HD.out hB hpw) hB).mono ?_
    rintro e w6 ⟨b, rfl, d6⟩
    have P1 := hide (P0.out.drawn d6 hpw)
    clear d6 P0
    cases b with
    | true =>
      go_wp2_with fail
      refine (below_any 4 p ad len cap B _ (by omega) hl P1.out.1.2 (P1.out.1.code HD.out hB hpw) hB).mono ?_
      rintro e w7 ⟨x7, rfl, a7, b7, -, d7⟩
      have b7' := b7 (by omega)
      have P2 := hide (P1.out.drawn d7 hpw)
      clear d7 b7 P1
      obtain ⟨q4, g4⟩ := P2.out.at_ 4 _ rfl
      have P3 := hide (P2.out.set hpw 4 (.int .i64 (1 + x7)))
      change Hid (DSt w _ p ad len cap w.heap.size w5.heap.size #[.int .i64 (1 + x1), .int .i64 (1 + x2), .int .i64 (1 + x3), .int .i64 0, .int .i64 (1 + x7), .string ⟨t.toArray⟩]) at P3
      clear P2
      obtain ⟨s4, -⟩ := P3.out.at_ 4 _ rfl
      go_wp2_with fail
      refine (below_any (1 + x7) p ad len cap B _ (by omega) hl P3.out.1.2 (P3.out.1.code HD.out hB hpw) hB).mono ?_
      rintro e w8 ⟨x8, rfl, a8, b8, -, d8⟩
      have b8' := b8 (by omega)
      have P4 := hide (P3.out.drawn d8 hpw)
      clear d8 b8 P3
      obtain ⟨q3, g3⟩ := P4.out.at_ 3 _ rfl
      have P5 := hide (P4.out.set hpw 3 (.int .i64 x8))
      change Hid (DSt w _ p ad len cap w.heap.size w5.heap.size #[.int .i64 (1 + x1), .int .i64 (1 + x2), .int .i64 (1 + x3), .int .i64 x8, .int .i64 (1 + x7), .string ⟨t.toArray⟩]) at P5
      clear P4
      obtain ⟨u0, -⟩ := P5.out.at_ 0 _ rfl
      obtain ⟨u1, -⟩ := P5.out.at_ 1 _ rfl
      obtain ⟨u2, -⟩ := P5.out.at_ 2 _ rfl
      obtain ⟨u3, -⟩ := P5.out.at_ 3 _ rfl
      obtain ⟨u4, -⟩ := P5.out.at_ 4 _ rfl
      obtain ⟨u5, -⟩ := P5.out.at_ 5 _ rfl
      have Z := P5.out.2.2.2.1
      have c0 := cell_of_row _ _ 0 _ _ _ Z
      have f0 := frozen_of_row _ _ 0 _ _ Z
      have c1 := cell_of_row _ _ 1 _ _ _ Z
      have f1 := frozen_of_row _ _ 1 _ _ Z
      have c2 := cell_of_row _ _ 2 _ _ _ Z
      have f2 := frozen_of_row _ _ 2 _ _ Z
      have c3 := cell_of_row _ _ 3 _ _ _ Z
      have f3 := frozen_of_row _ _ 3 _ _ Z
      have c4 := cell_of_row _ _ 4 _ _ _ Z
      have f4 := frozen_of_row _ _ 4 _ _ Z
      have c5 := cell_of_row _ _ 5 _ _ _ Z
      have f5 := frozen_of_row _ _ 5 _ _ Z
      have Z6 := six_cs (a := .int .i64 (1 + x1)) (b := .int .i64 (1 + x2)) (c := .int .i64 (1 + x3)) (d := .int .i64 x8) (e := .int .i64 (1 + x7)) (f := .string ⟨t.toArray⟩) Z
      have B6 := hide (six_drawn (a := .int .i64 (1 + x1)) (b := .int .i64 (1 + x2)) (c := .int .i64 (1 + x3)) (d := .int .i64 x8) (e := .int .i64 (1 + x7)) (f := .string ⟨t.toArray⟩) P5.out.1 hpw P5.out.2.1)
      have r0 := cell_of_row _ _ 0 _ _ _ Z6
      have r1 := cell_of_row _ _ 1 _ _ _ Z6
      have r2 := cell_of_row _ _ 2 _ _ _ Z6
      have r3 := cell_of_row _ _ 3 _ _ _ Z6
      have r4 := cell_of_row _ _ 4 _ _ _ Z6
      have r5 := cell_of_row _ _ 5 _ _ _ Z6
      clear Z Z6
      go_wp2
      exact bodyPost_ret (v := .agg #[.int .i64 (1 + x1), .int .i64 (1 + x2), .int .i64 (1 + x3), .int .i64 x8, .int .i64 (1 + x7), .string ⟨t.toArray⟩]) (by simp [results, Tryd.results75, go_sem, r0, r1, r2, r3, r4, r5]) rfl ⟨⟨(1 + x1), (1 + x2), (1 + x3), x8, (1 + x7), ⟨t.toArray⟩⟩, rfl, by simp [ByteArray.size]; omega, B6.out⟩
    | false =>
      obtain ⟨u0, -⟩ := P1.out.at_ 0 _ rfl
      obtain ⟨u1, -⟩ := P1.out.at_ 1 _ rfl
      obtain ⟨u2, -⟩ := P1.out.at_ 2 _ rfl
      obtain ⟨u3, -⟩ := P1.out.at_ 3 _ rfl
      obtain ⟨u4, -⟩ := P1.out.at_ 4 _ rfl
      obtain ⟨u5, -⟩ := P1.out.at_ 5 _ rfl
      have Z := P1.out.2.2.2.1
      have c0 := cell_of_row _ _ 0 _ _ _ Z
      have f0 := frozen_of_row _ _ 0 _ _ Z
      have c1 := cell_of_row _ _ 1 _ _ _ Z
      have f1 := frozen_of_row _ _ 1 _ _ Z
      have c2 := cell_of_row _ _ 2 _ _ _ Z
      have f2 := frozen_of_row _ _ 2 _ _ Z
      have c3 := cell_of_row _ _ 3 _ _ _ Z
      have f3 := frozen_of_row _ _ 3 _ _ Z
      have c4 := cell_of_row _ _ 4 _ _ _ Z
      have f4 := frozen_of_row _ _ 4 _ _ Z
      have c5 := cell_of_row _ _ 5 _ _ _ Z
      have f5 := frozen_of_row _ _ 5 _ _ Z
      have Z6 := six_cs (a := .int .i64 (1 + x1)) (b := .int .i64 (1 + x2)) (c := .int .i64 (1 + x3)) (d := .int .i64 0) (e := .int .i64 1) (f := .string ⟨t.toArray⟩) Z
      have B6 := hide (six_drawn (a := .int .i64 (1 + x1)) (b := .int .i64 (1 + x2)) (c := .int .i64 (1 + x3)) (d := .int .i64 0) (e := .int .i64 1) (f := .string ⟨t.toArray⟩) P1.out.1 hpw P1.out.2.1)
      have r0 := cell_of_row _ _ 0 _ _ _ Z6
      have r1 := cell_of_row _ _ 1 _ _ _ Z6
      have r2 := cell_of_row _ _ 2 _ _ _ Z6
      have r3 := cell_of_row _ _ 3 _ _ _ Z6
      have r4 := cell_of_row _ _ 4 _ _ _ Z6
      have r5 := cell_of_row _ _ 5 _ _ _ Z6
      clear Z Z6
      go_wp2
      exact bodyPost_ret (v := .agg #[.int .i64 (1 + x1), .int .i64 (1 + x2), .int .i64 (1 + x3), .int .i64 0, .int .i64 1, .string ⟨t.toArray⟩]) (by simp [results, Tryd.results75, go_sem, r0, r1, r2, r3, r4, r5]) rfl ⟨⟨(1 + x1), (1 + x2), (1 + x3), 0, 1, ⟨t.toArray⟩⟩, rfl, by simp [ByteArray.size]; omega, B6.out⟩
  · have hk : (1 + x1 == 2) = false := by simpa using hk
    clear P0 q0
    have Z := Z5.out
    have c0 := cell_of_row _ _ 0 _ _ _ Z
    have f0 := frozen_of_row _ _ 0 _ _ Z
    have c1 := cell_of_row _ _ 1 _ _ _ Z
    have f1 := frozen_of_row _ _ 1 _ _ Z
    have c2 := cell_of_row _ _ 2 _ _ _ Z
    have f2 := frozen_of_row _ _ 2 _ _ Z
    have c3 := cell_of_row _ _ 3 _ _ _ Z
    have f3 := frozen_of_row _ _ 3 _ _ Z
    have c4 := cell_of_row _ _ 4 _ _ _ Z
    have f4 := frozen_of_row _ _ 4 _ _ Z
    have c5 := cell_of_row _ _ 5 _ _ _ Z
    have f5 := frozen_of_row _ _ 5 _ _ Z
    have Z6 := six_cs (a := .int .i64 (1 + x1)) (b := .int .i64 (1 + x2)) (c := .int .i64 (1 + x3)) (d := .int .i64 0) (e := .int .i64 1) (f := .string ⟨t.toArray⟩) Z
    have B6 := hide (six_drawn (a := .int .i64 (1 + x1)) (b := .int .i64 (1 + x2)) (c := .int .i64 (1 + x3)) (d := .int .i64 0) (e := .int .i64 1) (f := .string ⟨t.toArray⟩) D5.out hpw (Nat.le_refl _))
    have Z7 := (heap_alloc_old _ (.cells #[.int .i64 (1 + x1), .int .i64 (1 + x2), .int .i64 (1 + x3), .int .i64 0, .int .i64 1, .string ⟨t.toArray⟩] 35) (Array.getElem?_eq_some_iff.1 Z6).1).trans Z6
    have B7 := hide (B6.out.below ((Below.refl _ _).alloc B6.out.1.size (.cells #[.int .i64 (1 + x1), .int .i64 (1 + x2), .int .i64 (1 + x3), .int .i64 0, .int .i64 1, .string ⟨t.toArray⟩] 35)) hpw)
    have r0 := cell_of_row _ _ 0 _ _ _ Z7
    have r1 := cell_of_row _ _ 1 _ _ _ Z7
    have r2 := cell_of_row _ _ 2 _ _ _ Z7
    have r3 := cell_of_row _ _ 3 _ _ _ Z7
    have r4 := cell_of_row _ _ 4 _ _ _ Z7
    have r5 := cell_of_row _ _ 5 _ _ _ Z7
    clear Z Z6 Z7
    go_wp2
    exact bodyPost_ret (v := .agg #[.int .i64 (1 + x1), .int .i64 (1 + x2), .int .i64 (1 + x3), .int .i64 0, .int .i64 1, .string ⟨t.toArray⟩]) (by simp [results, Tryd.results75, go_sem, r0, r1, r2, r3, r4, r5]) rfl ⟨⟨(1 + x1), (1 + x2), (1 + x3), 0, 1, ⟨t.toArray⟩⟩, rfl, by simp [ByteArray.size]; omega, B7.out⟩
end Go.Proofs.YtaolinlginloaacDoor

/-
  A new cursor.
-/
namespace Go.Proofs.YtaolinlginloaacDoor
open Go.RowKit

set_option maxHeartbeats 400000 in
set_option maxRecDepth 100000 in
theorem new_any (ad : Option Addr) (len cap B : Nat) (w : World) (hl : len ≤ 1048576) (hd : CodeIn w ad len B) :
    Calls Tryd.prog 48 #[.slice ad len cap] w fun e w' => ∃ p, e = .returned (.pointer (some ⟨p, 0, none⟩)) ∧ w.heap.size ≤ p ∧ CurIn w' p ad len cap ∧ Below w.heap.size w w' := by
  have HD := hide hd
  clear hd
  go_enter Tryd.func48, Tryd.ntmps48
  go_wp2
  go_loop [3, 4] (fun hv iv => ∃ (x : Int) (k : Nat), k ≤ len ∧ hv = .int .i64 x ∧ iv = .int .i64 k) (fun _ iv => len - (intOf iv).toNat)
  case atStart => exact ⟨_, 0, Nat.zero_le _, rfl, rfl⟩
  case round =>
    obtain ⟨x, k, hk, rfl, rfl⟩ := hrel
    by_cases hlt : (k : Int) < len
    · by_cases h4 : (k : Int) < 4000
      · obtain ⟨b, off, rfl, hbB, c, hc8, hcell⟩ := HD.out k (by omega)
        go_wp2
        go_round
        case rel => exact ⟨_, k + 1, by omega, rfl, by go_num⟩
        case measure => simp [intOf]; omega
      · go_wp2
        go_ret
        refine ⟨w.heap.size, rfl, Nat.le_refl _, ?_, (Below.refl _ _).alloc (Nat.le_refl _) _⟩
        exact ⟨by simp, ⟨0, by omega, by simp⟩, ⟨x, by simp⟩, by simp, by simp, by simp⟩
    · go_wp2
      go_ret
      refine ⟨w.heap.size, rfl, Nat.le_refl _, ?_, (Below.refl _ _).alloc (Nat.le_refl _) _⟩
      exact ⟨by simp, ⟨0, by omega, by simp⟩, ⟨x, by simp⟩, by simp, by simp, by simp⟩
end Go.Proofs.YtaolinlginloaacDoor

/-
  The laws' own look at a code that is too long.
-/
namespace Go.Proofs.YtaolinlginloaacDoor
open Go.RowKit

theorem big_any (ad : Option Addr) (len cap : Nat) (w : World) :
    Calls Tryd.prog 16 #[.slice ad len cap] w fun e w' => e = .returned (.bool (decide ((1048576 : Int) < len))) ∧ w' = w := by
  by_cases h : (1048576 : Int) < len
  all_goals
    go_enter Tryd.func16, Tryd.ntmps16
    go_wp2
    go_ret
    exact ⟨by simp [h], rfl⟩
end Go.Proofs.YtaolinlginloaacDoor

/-
  Bytes that came in as an argument, as the draws take them.
-/
namespace Go.Proofs.YtaolinlginloaacDoor
open Go.RowKit

/-- A row of bytes that came in: nil, or cells that hold them. -/
def ByteRow (w : World) (a : Option Addr) (len cap : Nat) (zs : List Int) : Prop :=
  (a = none ∧ len = 0 ∧ cap = 0 ∧ zs = []) ∨
  ∃ x, a = some x ∧ len ≤ cap ∧ cap ≤ maxLen ∧ zs.length = cap ∧ (∀ i, i < zs.length → w.cell? (x.add i) = some (.int .u8 (zs.getD i 0))) ∧ ∀ n ∈ zs, (Lit.int .u8 n).wf = true
theorem addr_off (b off j : Nat) : (⟨b, off, none⟩ : Addr).add j = ⟨b, off + j, none⟩ := by
  simp only [Addr.add]
  split <;> simp_all
theorem code_of_row {w : World} {a : Option Addr} {len cap : Nat} {zs : List Int} (h : ByteRow w a len cap zs) : CodeIn w a len w.heap.size := by
  intro j hj
  rcases h with ⟨_, h2, _⟩ | ⟨x, rfl, h2, _, h4, h5, h6⟩
  · omega
  · obtain ⟨b, off, spot⟩ := x
    have hc := h5 j (by omega)
    have hspot : spot = none := by simpa [Addr.add] using World.cell?_spot (h5 0 (by omega))
    subst hspot
    rw [addr_off] at hc
    have hm : zs.getD j 0 ∈ zs := by
      rw [List.getD_eq_getElem?_getD, List.getElem?_eq_getElem (by omega)]
      exact List.getElem_mem _
    have hw : 0 ≤ zs.getD j 0 ∧ zs.getD j 0 ≤ 255 := by simpa [Lit.wf, IntKind.min, IntKind.max, IntKind.signed, IntKind.bits] using h6 _ hm
    refine ⟨b, off, rfl, World.block_lt_of_cell? w _ hc, (zs.getD j 0).toNat, by omega, ?_⟩
    rw [hc]
    congr 2
    omega
end Go.Proofs.YtaolinlginloaacDoor
