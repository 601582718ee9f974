/-
  The draw of any record: spec.l09Any.
-/
import Derived.Test.YtcjgjkejhkhknabDrawRc
import Derived.Test.YtcjgjkejhkhknabD3
namespace Go.Proofs.Ytcjgjkejhkhknab
open Go.RowKit
open Words

set_option maxHeartbeats 4000000 in
set_option maxRecDepth 100000 in
theorem drany (p : Nat) (ad : Option Addr) (len cap B : Nat) (w : World) (hl : len ≤ 1048576) (hc : CurIn w p ad len cap) (hd : CodeIn w ad len B) (hB : B ≤ p) :
    Calls Try.prog 26 #[.pointer (some ⟨p, 0, none⟩)] w fun e w' => ∃ r : Rc, e = .returned (rcVal r) ∧ Drawn w w' p ad len cap := by
  have hpw := hc.2.2.2.2.2
  have HD := hide hd
  have D0 := hide ((Drawn.refl hc).below ((Below.refl w.heap.size w).alloc (Nat.le_refl _) (.cells #[.int .i64 0, .int .i64 0, .int .i64 0, .int .i64 0] 25)) hpw)
  have Z0 := hide (heap_alloc_new w (.cells #[.int .i64 0, .int .i64 0, .int .i64 0, .int .i64 0] 25))
  clear hc hd
  go_enter Try.func26, Try.ntmps26
  go_wp2_with fail
  refine (drec p ad len cap B _ hl D0.out.2 (D0.out.code HD.out hB hpw) hB).mono ?_
  rintro e w1 ⟨r, rfl, -, d1⟩
  obtain ⟨k, v, x, c⟩ := r
  unfold rcVal
  simp only at *
  have D1 := hide (D0.out.trans d1)
  have Z1 := hide ((d1.1.block w.heap.size (Array.getElem?_eq_some_iff.1 Z0.out).1 (by simp; omega)).trans Z0.out)
  clear d1 D0 Z0
  have l1 : w.heap.size < w1.heap.size := (Array.getElem?_eq_some_iff.1 Z1.out).1
  have P0 : Hid (DRt w (w1.alloc (.cells #[.int .i64 k, .int .i64 v, .int .i64 x, .int .i64 c] 25)) p ad len cap w.heap.size w1.heap.size #[.int .i64 k, .int .i64 v, .int .i64 x, .int .i64 c]) := by
    have ba : Below w1.heap.size w1 (w1.alloc (.cells #[.int .i64 k, .int .i64 v, .int .i64 x, .int .i64 c] 25)) := (Below.refl _ _).alloc (Nat.le_refl _) _
    exact ⟨D1.out.below (ba.mono D1.out.1.size) hpw, Nat.le_refl _, l1, (ba.block _ l1).trans Z1.out, heap_alloc_new _ _⟩
  clear D1 Z1
  go_wp2_with fail
  refine (below_any 12 p ad len cap B _ (by omega) hl P0.out.1.2 (P0.out.1.code HD.out hB hpw) hB).mono ?_
  rintro e w2 ⟨y, rfl, y0, y1, -, d2⟩
  have P1 := hide (P0.out.drawn d2 hpw)
  clear d2 P0 y1
  by_cases h0 : (y == 0) = true
  · go_wp2_with fail
    refine (below_any 7 p ad len cap B _ (by omega) hl P1.out.1.2 (P1.out.1.code HD.out hB hpw) hB).mono ?_
    rintro e w3 ⟨z, rfl, -, -, -, d3⟩
    have P3 := hide (P1.out.drawn d3 hpw)
    clear d3 P1
    obtain ⟨q0, g0⟩ := P3.out.at_ 0 _ rfl
    have P4 := hide (P3.out.set hpw 0 (.int .i64 z))
    change Hid (DRt w _ p ad len cap w.heap.size w1.heap.size #[.int .i64 z, .int .i64 v, .int .i64 x, .int .i64 c]) at P4
    clear P3
    obtain ⟨u0, -⟩ := P4.out.at_ 0 _ rfl
    obtain ⟨u1, -⟩ := P4.out.at_ 1 _ rfl
    obtain ⟨u2, -⟩ := P4.out.at_ 2 _ rfl
    obtain ⟨u3, -⟩ := P4.out.at_ 3 _ rfl
    have Z := P4.out.2.2.2.1
    have c0 := cell_of_row _ _ 0 _ _ _ Z
    have f0 := frozen_of_row _ _ 0 _ _ Z
    have c1 := cell_of_row _ _ 1 _ _ _ Z
    have f1 := frozen_of_row _ _ 1 _ _ Z
    have c2 := cell_of_row _ _ 2 _ _ _ Z
    have f2 := frozen_of_row _ _ 2 _ _ Z
    have c3 := cell_of_row _ _ 3 _ _ _ Z
    have f3 := frozen_of_row _ _ 3 _ _ Z
    have Z6 := four_cs (a := .int .i64 z) (b := .int .i64 v) (c := .int .i64 x) (d := .int .i64 c) Z
    have B6 := hide (four_drawn (a := .int .i64 z) (b := .int .i64 v) (c := .int .i64 x) (d := .int .i64 c) P4.out.1 hpw P4.out.2.1)
    have r0 := cell_of_row _ _ 0 _ _ _ Z6
    have r1 := cell_of_row _ _ 1 _ _ _ Z6
    have r2 := cell_of_row _ _ 2 _ _ _ Z6
    have r3 := cell_of_row _ _ 3 _ _ _ Z6
    clear Z Z6
    go_wp2
    exact bodyPost_ret (v := .agg #[.int .i64 z, .int .i64 v, .int .i64 x, .int .i64 c]) (by simp [results, Try.results26, go_sem, r0, r1, r2, r3]) rfl ⟨⟨z, v, x, c⟩, rfl, B6.out⟩
  have h0 : (y == 0) = false := by simpa using h0
  by_cases h1 : (y == 1) = true
  · have ba : Below w2.heap.size w2 (w2.alloc (.cells #[.int .i64 0, .int .i64 9, .int .i64 10, .int .i64 16] 3)) := (Below.refl _ _).alloc (Nat.le_refl _) _
    have P2 := hide (P1.out.below hpw ba)
    have HCL : Hid (∀ j, j < ([0, 9, 10, 16] : List Int).length → (w2.alloc (.cells #[.int .i64 0, .int .i64 9, .int .i64 10, .int .i64 16] 3)).cell? ⟨w2.heap.size, j, none⟩ = some (.int .i64 (([0, 9, 10, 16] : List Int).getD j 0))) := by
      intro j hj
      rw [cell_of_row _ _ j _ _ _ (heap_alloc_new w2 (.cells #[.int .i64 0, .int .i64 9, .int .i64 10, .int .i64 16] 3))]
      match j, hj with
      | 0, _ => rfl | 1, _ => rfl | 2, _ => rfl | 3, _ => rfl
    have np : w2.heap.size ≠ p := by have := P1.out.1.1.size; omega
    clear ba P1
    go_wp2_with fail
    refine (pickIn_any w2.heap.size [0, 9, 10, 16] p ad len cap B _ (by simp) (by simp) np HCL.out hl P2.out.1.2 (P2.out.1.code HD.out hB hpw) hB).mono ?_
    rintro e w3 ⟨z, rfl, -, d3⟩
    have P3 := hide (P2.out.drawn d3 hpw)
    clear d3 P2 HCL
    obtain ⟨q0, g0⟩ := P3.out.at_ 1 _ rfl
    have P4 := hide (P3.out.set hpw 1 (.int .i64 z))
    change Hid (DRt w _ p ad len cap w.heap.size w1.heap.size #[.int .i64 k, .int .i64 z, .int .i64 x, .int .i64 c]) at P4
    clear P3
    obtain ⟨u0, -⟩ := P4.out.at_ 0 _ rfl
    obtain ⟨u1, -⟩ := P4.out.at_ 1 _ rfl
    obtain ⟨u2, -⟩ := P4.out.at_ 2 _ rfl
    obtain ⟨u3, -⟩ := P4.out.at_ 3 _ rfl
    have Z := P4.out.2.2.2.1
    have c0 := cell_of_row _ _ 0 _ _ _ Z
    have f0 := frozen_of_row _ _ 0 _ _ Z
    have c1 := cell_of_row _ _ 1 _ _ _ Z
    have f1 := frozen_of_row _ _ 1 _ _ Z
    have c2 := cell_of_row _ _ 2 _ _ _ Z
    have f2 := frozen_of_row _ _ 2 _ _ Z
    have c3 := cell_of_row _ _ 3 _ _ _ Z
    have f3 := frozen_of_row _ _ 3 _ _ Z
    have Z6 := four_cs (a := .int .i64 k) (b := .int .i64 z) (c := .int .i64 x) (d := .int .i64 c) Z
    have B6 := hide (four_drawn (a := .int .i64 k) (b := .int .i64 z) (c := .int .i64 x) (d := .int .i64 c) P4.out.1 hpw P4.out.2.1)
    have r0 := cell_of_row _ _ 0 _ _ _ Z6
    have r1 := cell_of_row _ _ 1 _ _ _ Z6
    have r2 := cell_of_row _ _ 2 _ _ _ Z6
    have r3 := cell_of_row _ _ 3 _ _ _ Z6
    clear Z Z6
    go_wp2
    exact bodyPost_ret (v := .agg #[.int .i64 k, .int .i64 z, .int .i64 x, .int .i64 c]) (by simp [results, Try.results26, go_sem, r0, r1, r2, r3]) rfl ⟨⟨k, z, x, c⟩, rfl, B6.out⟩
  have h1 : (y == 1) = false := by simpa using h1
  by_cases h2 : (y == 2) = true
  · have ba : Below w2.heap.size w2 (w2.alloc (.cells #[.int .i64 (-1), .int .i64 15, .int .i64 16, .int .i64 1000000000, .int .i64 1000000001] 3)) := (Below.refl _ _).alloc (Nat.le_refl _) _
    have P2 := hide (P1.out.below hpw ba)
    have HCL : Hid (∀ j, j < ([(-1), 15, 16, 1000000000, 1000000001] : List Int).length → (w2.alloc (.cells #[.int .i64 (-1), .int .i64 15, .int .i64 16, .int .i64 1000000000, .int .i64 1000000001] 3)).cell? ⟨w2.heap.size, j, none⟩ = some (.int .i64 (([(-1), 15, 16, 1000000000, 1000000001] : List Int).getD j 0))) := by
      intro j hj
      rw [cell_of_row _ _ j _ _ _ (heap_alloc_new w2 (.cells #[.int .i64 (-1), .int .i64 15, .int .i64 16, .int .i64 1000000000, .int .i64 1000000001] 3))]
      match j, hj with
      | 0, _ => rfl | 1, _ => rfl | 2, _ => rfl | 3, _ => rfl | 4, _ => rfl
    have np : w2.heap.size ≠ p := by have := P1.out.1.1.size; omega
    clear ba P1
    go_wp2_with fail
    refine (pickIn_any w2.heap.size [(-1), 15, 16, 1000000000, 1000000001] p ad len cap B _ (by simp) (by simp) np HCL.out hl P2.out.1.2 (P2.out.1.code HD.out hB hpw) hB).mono ?_
    rintro e w3 ⟨z, rfl, -, d3⟩
    have P3 := hide (P2.out.drawn d3 hpw)
    clear d3 P2 HCL
    obtain ⟨q0, g0⟩ := P3.out.at_ 2 _ rfl
    have P4 := hide (P3.out.set hpw 2 (.int .i64 z))
    change Hid (DRt w _ p ad len cap w.heap.size w1.heap.size #[.int .i64 k, .int .i64 v, .int .i64 z, .int .i64 c]) at P4
    clear P3
    obtain ⟨u0, -⟩ := P4.out.at_ 0 _ rfl
    obtain ⟨u1, -⟩ := P4.out.at_ 1 _ rfl
    obtain ⟨u2, -⟩ := P4.out.at_ 2 _ rfl
    obtain ⟨u3, -⟩ := P4.out.at_ 3 _ rfl
    have Z := P4.out.2.2.2.1
    have c0 := cell_of_row _ _ 0 _ _ _ Z
    have f0 := frozen_of_row _ _ 0 _ _ Z
    have c1 := cell_of_row _ _ 1 _ _ _ Z
    have f1 := frozen_of_row _ _ 1 _ _ Z
    have c2 := cell_of_row _ _ 2 _ _ _ Z
    have f2 := frozen_of_row _ _ 2 _ _ Z
    have c3 := cell_of_row _ _ 3 _ _ _ Z
    have f3 := frozen_of_row _ _ 3 _ _ Z
    have Z6 := four_cs (a := .int .i64 k) (b := .int .i64 v) (c := .int .i64 z) (d := .int .i64 c) Z
    have B6 := hide (four_drawn (a := .int .i64 k) (b := .int .i64 v) (c := .int .i64 z) (d := .int .i64 c) P4.out.1 hpw P4.out.2.1)
    have r0 := cell_of_row _ _ 0 _ _ _ Z6
    have r1 := cell_of_row _ _ 1 _ _ _ Z6
    have r2 := cell_of_row _ _ 2 _ _ _ Z6
    have r3 := cell_of_row _ _ 3 _ _ _ Z6
    clear Z Z6
    go_wp2
    exact bodyPost_ret (v := .agg #[.int .i64 k, .int .i64 v, .int .i64 z, .int .i64 c]) (by simp [results, Try.results26, go_sem, r0, r1, r2, r3]) rfl ⟨⟨k, v, z, c⟩, rfl, B6.out⟩
  have h2 : (y == 2) = false := by simpa using h2
  by_cases h3 : (y == 3) = true
  · have ba : Below w2.heap.size w2 (w2.alloc (.cells #[.int .i64 (-1), .int .i64 0, .int .i64 1, .int .i64 1000000001] 3)) := (Below.refl _ _).alloc (Nat.le_refl _) _
    have P2 := hide (P1.out.below hpw ba)
    have HCL : Hid (∀ j, j < ([(-1), 0, 1, 1000000001] : List Int).length → (w2.alloc (.cells #[.int .i64 (-1), .int .i64 0, .int .i64 1, .int .i64 1000000001] 3)).cell? ⟨w2.heap.size, j, none⟩ = some (.int .i64 (([(-1), 0, 1, 1000000001] : List Int).getD j 0))) := by
      intro j hj
      rw [cell_of_row _ _ j _ _ _ (heap_alloc_new w2 (.cells #[.int .i64 (-1), .int .i64 0, .int .i64 1, .int .i64 1000000001] 3))]
      match j, hj with
      | 0, _ => rfl | 1, _ => rfl | 2, _ => rfl | 3, _ => rfl
    have np : w2.heap.size ≠ p := by have := P1.out.1.1.size; omega
    clear ba P1
    go_wp2_with fail
    refine (pickIn_any w2.heap.size [(-1), 0, 1, 1000000001] p ad len cap B _ (by simp) (by simp) np HCL.out hl P2.out.1.2 (P2.out.1.code HD.out hB hpw) hB).mono ?_
    rintro e w3 ⟨z, rfl, -, d3⟩
    have P3 := hide (P2.out.drawn d3 hpw)
    clear d3 P2 HCL
    obtain ⟨q0, g0⟩ := P3.out.at_ 3 _ rfl
    have P4 := hide (P3.out.set hpw 3 (.int .i64 z))
    change Hid (DRt w _ p ad len cap w.heap.size w1.heap.size #[.int .i64 k, .int .i64 v, .int .i64 x, .int .i64 z]) at P4
    clear P3
    obtain ⟨u0, -⟩ := P4.out.at_ 0 _ rfl
    obtain ⟨u1, -⟩ := P4.out.at_ 1 _ rfl
    obtain ⟨u2, -⟩ := P4.out.at_ 2 _ rfl
    obtain ⟨u3, -⟩ := P4.out.at_ 3 _ rfl
    have Z := P4.out.2.2.2.1
    have c0 := cell_of_row _ _ 0 _ _ _ Z
    have f0 := frozen_of_row _ _ 0 _ _ Z
    have c1 := cell_of_row _ _ 1 _ _ _ Z
    have f1 := frozen_of_row _ _ 1 _ _ Z
    have c2 := cell_of_row _ _ 2 _ _ _ Z
    have f2 := frozen_of_row _ _ 2 _ _ Z
    have c3 := cell_of_row _ _ 3 _ _ _ Z
    have f3 := frozen_of_row _ _ 3 _ _ Z
    have Z6 := four_cs (a := .int .i64 k) (b := .int .i64 v) (c := .int .i64 x) (d := .int .i64 z) Z
    have B6 := hide (four_drawn (a := .int .i64 k) (b := .int .i64 v) (c := .int .i64 x) (d := .int .i64 z) P4.out.1 hpw P4.out.2.1)
    have r0 := cell_of_row _ _ 0 _ _ _ Z6
    have r1 := cell_of_row _ _ 1 _ _ _ Z6
    have r2 := cell_of_row _ _ 2 _ _ _ Z6
    have r3 := cell_of_row _ _ 3 _ _ _ Z6
    clear Z Z6
    go_wp2
    exact bodyPost_ret (v := .agg #[.int .i64 k, .int .i64 v, .int .i64 x, .int .i64 z]) (by simp [results, Try.results26, go_sem, r0, r1, r2, r3]) rfl ⟨⟨k, v, x, z⟩, rfl, B6.out⟩
  have h3 : (y == 3) = false := by simpa using h3
  obtain ⟨u0, -⟩ := P1.out.at_ 0 _ rfl
  obtain ⟨u1, -⟩ := P1.out.at_ 1 _ rfl
  obtain ⟨u2, -⟩ := P1.out.at_ 2 _ rfl
  obtain ⟨u3, -⟩ := P1.out.at_ 3 _ rfl
  have Z := P1.out.2.2.2.1
  have c0 := cell_of_row _ _ 0 _ _ _ Z
  have f0 := frozen_of_row _ _ 0 _ _ Z
  have c1 := cell_of_row _ _ 1 _ _ _ Z
  have f1 := frozen_of_row _ _ 1 _ _ Z
  have c2 := cell_of_row _ _ 2 _ _ _ Z
  have f2 := frozen_of_row _ _ 2 _ _ Z
  have c3 := cell_of_row _ _ 3 _ _ _ Z
  have f3 := frozen_of_row _ _ 3 _ _ Z
  have Z6 := four_cs (a := .int .i64 k) (b := .int .i64 v) (c := .int .i64 x) (d := .int .i64 c) Z
  have B6 := hide (four_drawn (a := .int .i64 k) (b := .int .i64 v) (c := .int .i64 x) (d := .int .i64 c) P1.out.1 hpw P1.out.2.1)
  have r0 := cell_of_row _ _ 0 _ _ _ Z6
  have r1 := cell_of_row _ _ 1 _ _ _ Z6
  have r2 := cell_of_row _ _ 2 _ _ _ Z6
  have r3 := cell_of_row _ _ 3 _ _ _ Z6
  clear Z Z6
  go_wp2
  exact bodyPost_ret (v := .agg #[.int .i64 k, .int .i64 v, .int .i64 x, .int .i64 c]) (by simp [results, Try.results26, go_sem, r0, r1, r2, r3]) rfl ⟨⟨k, v, x, c⟩, rfl, B6.out⟩

set_option maxHeartbeats 400000 in
set_option maxRecDepth 100000 in
theorem drawRecText (ad : Option Addr) (len cap : Nat) (w : World) (hl : len ≤ 1048576) (hd : CodeIn w ad len w.heap.size) :
    Calls Try.prog 14 #[.slice ad len cap] w fun e w' => ∃ r : Rc, e = .returned (rcVal r) ∧ Below w.heap.size w w' := by
  have hb0 : Below w.heap.size w (w.alloc (.cells #[.int .i64 0, .int .i64 0, .int .i64 0, .int .i64 0] 25)) := (Below.refl w.heap.size w).alloc (Nat.le_refl _) _
  have HD := hide (hd.on hb0 (Nat.le_refl _))
  have Z0 := hide (heap_alloc_new w (.cells #[.int .i64 0, .int .i64 0, .int .i64 0, .int .i64 0] 25))
  have B0 := hide hb0
  clear hd hb0
  go_enter Try.func14, Try.ntmps14
  go_wp2_with fail
  generalize w.alloc (.cells #[.int .i64 0, .int .i64 0, .int .i64 0, .int .i64 0] 25) = w0 at HD Z0 B0 ⊢
  have l0 : w.heap.size < w0.heap.size := (Array.getElem?_eq_some_iff.1 Z0.out).1
  refine (new_any ad len cap w.heap.size _ hl HD.out).mono ?_
  rintro e w1 ⟨p, rfl, hp, hc, hb⟩
  have HC := hide hc
  have HB := hide (B0.out.trans (hb.mono B0.out.size))
  have hs := hb.size
  have HD1 := hide (HD.out.on hb (by omega))
  have Z1 := hide ((hb.block _ l0).trans Z0.out)
  clear hc hb HD Z0
  go_wp2_with fail
  refine (drany p ad len cap w.heap.size _ hl HC.out HD1.out (by omega)).mono ?_
  rintro e w2 ⟨r, rfl, d2⟩
  have Z2 := (d2.1.block w.heap.size (Array.getElem?_eq_some_iff.1 Z1.out).1 (by simp; omega)).trans Z1.out
  have B2 := HB.out.trans (grown_below d2.1 (show w.heap.size ≤ p by omega) (by omega))
  clear d2 Z1
  unfold rcVal
  have c0 := cell_of_row _ _ 0 _ _ _ Z2
  have f0 := frozen_of_row _ _ 0 _ _ Z2
  have c1 := cell_of_row _ _ 1 _ _ _ Z2
  have f1 := frozen_of_row _ _ 1 _ _ Z2
  have c2 := cell_of_row _ _ 2 _ _ _ Z2
  have f2 := frozen_of_row _ _ 2 _ _ Z2
  have c3 := cell_of_row _ _ 3 _ _ _ Z2
  have f3 := frozen_of_row _ _ 3 _ _ Z2
  have Z6 := four_cs (a := .int .i64 r.kind) (b := .int .i64 r.vol) (c := .int .i64 r.arg) (d := .int .i64 r.chunk) Z2
  have B6 := hide ((((B2.setCell (p := ⟨w.heap.size, 0, none⟩) (Nat.le_refl _) (.int .i64 r.kind)).setCell (p := ⟨w.heap.size, 1, none⟩) (Nat.le_refl _) (.int .i64 r.vol)).setCell (p := ⟨w.heap.size, 2, none⟩) (Nat.le_refl _) (.int .i64 r.arg)).setCell (p := ⟨w.heap.size, 3, none⟩) (Nat.le_refl _) (.int .i64 r.chunk))
  have r0 := cell_of_row _ _ 0 _ _ _ Z6
  have r1 := cell_of_row _ _ 1 _ _ _ Z6
  have r2 := cell_of_row _ _ 2 _ _ _ Z6
  have r3 := cell_of_row _ _ 3 _ _ _ Z6
  clear Z2 Z6 B2
  go_wp2
  exact bodyPost_ret (v := .agg #[.int .i64 r.kind, .int .i64 r.vol, .int .i64 r.arg, .int .i64 r.chunk]) (by simp [results, Try.results14, go_sem, r0, r1, r2, r3]) rfl ⟨r, rfl, B6.out⟩
end Go.Proofs.Ytcjgjkejhkhknab
