/-
  The draws of pages, of any sort, and of their texts.
-/
import Derived.Test.YtaolinlginloaacDoorPq18
import Derived.Test.YtaolinlginloaacDoorSpoilt
import Derived.Test.YtaolinlginloaacDoorPq6
import Derived.Test.YtaolinlginloaacDoorPq10
namespace Go.Proofs.YtaolinlginloaacDoor
open Go.RowKit
open Words Sums

set_option maxHeartbeats 4000000 in
set_option maxRecDepth 100000 in
theorem dany (p : Nat) (ad : Option Addr) (len cap B : Nat) (w : World) (hl : len ≤ 1048576) (hc : CurIn w p ad len cap) (hd : CodeIn w ad len B) (hB : B ≤ p) :
    Calls Tryd.prog 47 #[.pointer (some ⟨p, 0, none⟩)] w fun e w' => ∃ pg : Pg, e = .returned (pgVal pg) ∧ pg.text.size ≤ 5000 ∧ Drawn w w' p ad len cap := by
  have hpw := hc.2.2.2.2.2
  have HD := hide hd
  have D0 := hide ((Drawn.refl hc).below ((Below.refl w.heap.size w).alloc (Nat.le_refl _) (.cells #[.int .i64 0, .int .i64 0, .int .i64 0, .int .i64 0, .int .i64 0, .string ⟨#[]⟩] 35)) hpw)
  have Z0 := hide (heap_alloc_new w (.cells #[.int .i64 0, .int .i64 0, .int .i64 0, .int .i64 0, .int .i64 0, .string ⟨#[]⟩] 35))
  clear hc hd
  go_enter Tryd.func47, Tryd.ntmps47
  go_wp2_with fail
  refine (dpage p ad len cap B _ hl D0.out.2 (D0.out.code HD.out hB hpw) hB).mono ?_
  rintro e w1 ⟨pg, rfl, ht, d1⟩
  obtain ⟨k, s, x, q, c, t⟩ := pg
  unfold pgVal
  simp only at *
  have D1 := hide (D0.out.trans d1)
  have Z1 := hide ((d1.1.block w.heap.size (Array.getElem?_eq_some_iff.1 Z0.out).1 (by simp; omega)).trans Z0.out)
  clear d1 D0 Z0
  have l1 : w.heap.size < w1.heap.size := (Array.getElem?_eq_some_iff.1 Z1.out).1
  have P0 : Hid (DSt w (w1.alloc (.cells #[.int .i64 k, .int .i64 s, .int .i64 x, .int .i64 q, .int .i64 c, .string t] 35)) p ad len cap w.heap.size w1.heap.size #[.int .i64 k, .int .i64 s, .int .i64 x, .int .i64 q, .int .i64 c, .string t]) := by
    have ba : Below w1.heap.size w1 (w1.alloc (.cells #[.int .i64 k, .int .i64 s, .int .i64 x, .int .i64 q, .int .i64 c, .string t] 35)) := (Below.refl _ _).alloc (Nat.le_refl _) _
    exact ⟨D1.out.below (ba.mono D1.out.1.size) hpw, Nat.le_refl _, l1, (ba.block _ l1).trans Z1.out, heap_alloc_new _ _⟩
  clear D1 Z1
  go_wp2_with fail
  refine (below_any 16 p ad len cap B _ (by omega) hl P0.out.1.2 (P0.out.1.code HD.out hB hpw) hB).mono ?_
  rintro e w2 ⟨y, rfl, y0, y1, -, d2⟩
  have P1 := hide (P0.out.drawn d2 hpw)
  clear d2 P0 y1
  by_cases h0 : (y == 0) = true
  · have ba : Below w2.heap.size w2 (w2.alloc (.cells #[.int .i64 0, .int .i64 1, .int .i64 3] 3)) := (Below.refl _ _).alloc (Nat.le_refl _) _
    have P2 := hide (P1.out.below hpw ba)
    have HCL : Hid (∀ j, j < ([0, 1, 3] : List Int).length → (w2.alloc (.cells #[.int .i64 0, .int .i64 1, .int .i64 3] 3)).cell? ⟨w2.heap.size, j, none⟩ = some (.int .i64 (([0, 1, 3] : List Int).getD j 0))) := by
      intro j hj
      match j, hj with
      | 0, _ => simp | 1, _ => simp | 2, _ => simp
    have np : w2.heap.size ≠ p := by have := P1.out.1.1.size; omega
    clear ba P1
    go_wp2_with fail
    refine (pickInt_any w2.heap.size [0, 1, 3] p ad len cap B _ (by simp) (by simp) np HCL.out hl P2.out.1.2 (P2.out.1.code HD.out hB hpw) hB).mono ?_
    rintro e w3 ⟨z, rfl, d3⟩
    have P3 := hide (P2.out.drawn d3 hpw)
    clear d3 P2 HCL
    obtain ⟨q0, g0⟩ := P3.out.at_ 0 _ rfl
    have P4 := hide (P3.out.set hpw 0 (.int .i64 z))
    change Hid (DSt w _ p ad len cap w.heap.size w1.heap.size #[.int .i64 z, .int .i64 s, .int .i64 x, .int .i64 q, .int .i64 c, .string t]) at P4
    clear P3
    obtain ⟨u0, -⟩ := P4.out.at_ 0 _ rfl
    obtain ⟨u1, -⟩ := P4.out.at_ 1 _ rfl
    obtain ⟨u2, -⟩ := P4.out.at_ 2 _ rfl
    obtain ⟨u3, -⟩ := P4.out.at_ 3 _ rfl
    obtain ⟨u4, -⟩ := P4.out.at_ 4 _ rfl
    obtain ⟨u5, -⟩ := P4.out.at_ 5 _ rfl
    have Z := P4.out.2.2.2.1
    have c0 := cell_of_row _ _ 0 _ _ _ Z
    have f0 := frozen_of_row _ _ 0 _ _ Z
    have c1 := cell_of_row _ _ 1 _ _ _ Z
    have f1 := frozen_of_row _ _ 1 _ _ Z
    have c2 := cell_of_row _ _ 2 _ _ _ Z
    have f2 := frozen_of_row _ _ 2 _ _ Z
    have c3 := cell_of_row _ _ 3 _ _ _ Z
    have f3 := frozen_of_row _ _ 3 _ _ Z
    have c4 := cell_of_row _ _ 4 _ _ _ Z
    have f4 := frozen_of_row _ _ 4 _ _ Z
    have c5 := cell_of_row _ _ 5 _ _ _ Z
    have f5 := frozen_of_row _ _ 5 _ _ Z
    have Z6 := six_cs (a := .int .i64 z) (b := .int .i64 s) (c := .int .i64 x) (d := .int .i64 q) (e := .int .i64 c) (f := .string t) Z
    have B6 := hide (six_drawn (a := .int .i64 z) (b := .int .i64 s) (c := .int .i64 x) (d := .int .i64 q) (e := .int .i64 c) (f := .string t) P4.out.1 hpw P4.out.2.1)
    have r0 := cell_of_row _ _ 0 _ _ _ Z6
    have r1 := cell_of_row _ _ 1 _ _ _ Z6
    have r2 := cell_of_row _ _ 2 _ _ _ Z6
    have r3 := cell_of_row _ _ 3 _ _ _ Z6
    have r4 := cell_of_row _ _ 4 _ _ _ Z6
    have r5 := cell_of_row _ _ 5 _ _ _ Z6
    clear Z Z6
    go_wp2
    exact bodyPost_ret (v := .agg #[.int .i64 z, .int .i64 s, .int .i64 x, .int .i64 q, .int .i64 c, .string t]) (by simp [results, Tryd.results47, go_sem, r0, r1, r2, r3, r4, r5]) rfl ⟨⟨z, s, x, q, c, t⟩, rfl, ht, B6.out⟩
  have h0 : (y == 0) = false := by simpa using h0
  by_cases h1 : (y == 1) = true
  · have ba : Below w2.heap.size w2 (w2.alloc (.cells #[.int .i64 0, .int .i64 1000000000, .int .i64 1000000001] 3)) := (Below.refl _ _).alloc (Nat.le_refl _) _
    have P2 := hide (P1.out.below hpw ba)
    have HCL : Hid (∀ j, j < ([0, 1000000000, 1000000001] : List Int).length → (w2.alloc (.cells #[.int .i64 0, .int .i64 1000000000, .int .i64 1000000001] 3)).cell? ⟨w2.heap.size, j, none⟩ = some (.int .i64 (([0, 1000000000, 1000000001] : List Int).getD j 0))) := by
      intro j hj
      match j, hj with
      | 0, _ => simp | 1, _ => simp | 2, _ => simp
    have np : w2.heap.size ≠ p := by have := P1.out.1.1.size; omega
    clear ba P1
    go_wp2_with fail
    refine (pickInt_any w2.heap.size [0, 1000000000, 1000000001] p ad len cap B _ (by simp) (by simp) np HCL.out hl P2.out.1.2 (P2.out.1.code HD.out hB hpw) hB).mono ?_
    rintro e w3 ⟨z, rfl, d3⟩
    have P3 := hide (P2.out.drawn d3 hpw)
    clear d3 P2 HCL
    obtain ⟨q1, g1⟩ := P3.out.at_ 1 _ rfl
    have P4 := hide (P3.out.set hpw 1 (.int .i64 z))
    change Hid (DSt w _ p ad len cap w.heap.size w1.heap.size #[.int .i64 k, .int .i64 z, .int .i64 x, .int .i64 q, .int .i64 c, .string t]) at P4
    clear P3
    obtain ⟨u0, -⟩ := P4.out.at_ 0 _ rfl
    obtain ⟨u1, -⟩ := P4.out.at_ 1 _ rfl
    obtain ⟨u2, -⟩ := P4.out.at_ 2 _ rfl
    obtain ⟨u3, -⟩ := P4.out.at_ 3 _ rfl
    obtain ⟨u4, -⟩ := P4.out.at_ 4 _ rfl
    obtain ⟨u5, -⟩ := P4.out.at_ 5 _ rfl
    have Z := P4.out.2.2.2.1
    have c0 := cell_of_row _ _ 0 _ _ _ Z
    have f0 := frozen_of_row _ _ 0 _ _ Z
    have c1 := cell_of_row _ _ 1 _ _ _ Z
    have f1 := frozen_of_row _ _ 1 _ _ Z
    have c2 := cell_of_row _ _ 2 _ _ _ Z
    have f2 := frozen_of_row _ _ 2 _ _ Z
    have c3 := cell_of_row _ _ 3 _ _ _ Z
    have f3 := frozen_of_row _ _ 3 _ _ Z
    have c4 := cell_of_row _ _ 4 _ _ _ Z
    have f4 := frozen_of_row _ _ 4 _ _ Z
    have c5 := cell_of_row _ _ 5 _ _ _ Z
    have f5 := frozen_of_row _ _ 5 _ _ Z
    have Z6 := six_cs (a := .int .i64 k) (b := .int .i64 z) (c := .int .i64 x) (d := .int .i64 q) (e := .int .i64 c) (f := .string t) Z
    have B6 := hide (six_drawn (a := .int .i64 k) (b := .int .i64 z) (c := .int .i64 x) (d := .int .i64 q) (e := .int .i64 c) (f := .string t) P4.out.1 hpw P4.out.2.1)
    have r0 := cell_of_row _ _ 0 _ _ _ Z6
    have r1 := cell_of_row _ _ 1 _ _ _ Z6
    have r2 := cell_of_row _ _ 2 _ _ _ Z6
    have r3 := cell_of_row _ _ 3 _ _ _ Z6
    have r4 := cell_of_row _ _ 4 _ _ _ Z6
    have r5 := cell_of_row _ _ 5 _ _ _ Z6
    clear Z Z6
    go_wp2
    exact bodyPost_ret (v := .agg #[.int .i64 k, .int .i64 z, .int .i64 x, .int .i64 q, .int .i64 c, .string t]) (by simp [results, Tryd.results47, go_sem, r0, r1, r2, r3, r4, r5]) rfl ⟨⟨k, z, x, q, c, t⟩, rfl, ht, B6.out⟩
  have h1 : (y == 1) = false := by simpa using h1
  by_cases h2 : (y == 2) = true
  · obtain ⟨m4, -⟩ := P1.out.at_ 4 _ rfl
    have ba : Below w2.heap.size w2 (w2.alloc (.cells #[.int .i64 (-1), .int .i64 c] 3)) := (Below.refl _ _).alloc (Nat.le_refl _) _
    have P2 := hide (P1.out.below hpw ba)
    have HCL : Hid (∀ j, j < ([(-1), c] : List Int).length → (w2.alloc (.cells #[.int .i64 (-1), .int .i64 c] 3)).cell? ⟨w2.heap.size, j, none⟩ = some (.int .i64 (([(-1), c] : List Int).getD j 0))) := by
      intro j hj
      match j, hj with
      | 0, _ => simp | 1, _ => simp
    have np : w2.heap.size ≠ p := by have := P1.out.1.1.size; omega
    clear ba P1
    go_wp2_with fail
    refine (pickInt_any w2.heap.size [(-1), c] p ad len cap B _ (by simp) (by simp) np HCL.out hl P2.out.1.2 (P2.out.1.code HD.out hB hpw) hB).mono ?_
    rintro e w3 ⟨z, rfl, d3⟩
    have P3 := hide (P2.out.drawn d3 hpw)
    clear d3 P2 HCL
    obtain ⟨q3, g3⟩ := P3.out.at_ 3 _ rfl
    have P4 := hide (P3.out.set hpw 3 (.int .i64 z))
    change Hid (DSt w _ p ad len cap w.heap.size w1.heap.size #[.int .i64 k, .int .i64 s, .int .i64 x, .int .i64 z, .int .i64 c, .string t]) at P4
    clear P3
    obtain ⟨u0, -⟩ := P4.out.at_ 0 _ rfl
    obtain ⟨u1, -⟩ := P4.out.at_ 1 _ rfl
    obtain ⟨u2, -⟩ := P4.out.at_ 2 _ rfl
    obtain ⟨u3, -⟩ := P4.out.at_ 3 _ rfl
    obtain ⟨u4, -⟩ := P4.out.at_ 4 _ rfl
    obtain ⟨u5, -⟩ := P4.out.at_ 5 _ rfl
    have Z := P4.out.2.2.2.1
    have c0 := cell_of_row _ _ 0 _ _ _ Z
    have f0 := frozen_of_row _ _ 0 _ _ Z
    have c1 := cell_of_row _ _ 1 _ _ _ Z
    have f1 := frozen_of_row _ _ 1 _ _ Z
    have c2 := cell_of_row _ _ 2 _ _ _ Z
    have f2 := frozen_of_row _ _ 2 _ _ Z
    have c3 := cell_of_row _ _ 3 _ _ _ Z
    have f3 := frozen_of_row _ _ 3 _ _ Z
    have c4 := cell_of_row _ _ 4 _ _ _ Z
    have f4 := frozen_of_row _ _ 4 _ _ Z
    have c5 := cell_of_row _ _ 5 _ _ _ Z
    have f5 := frozen_of_row _ _ 5 _ _ Z
    have Z6 := six_cs (a := .int .i64 k) (b := .int .i64 s) (c := .int .i64 x) (d := .int .i64 z) (e := .int .i64 c) (f := .string t) Z
    have B6 := hide (six_drawn (a := .int .i64 k) (b := .int .i64 s) (c := .int .i64 x) (d := .int .i64 z) (e := .int .i64 c) (f := .string t) P4.out.1 hpw P4.out.2.1)
    have r0 := cell_of_row _ _ 0 _ _ _ Z6
    have r1 := cell_of_row _ _ 1 _ _ _ Z6
    have r2 := cell_of_row _ _ 2 _ _ _ Z6
    have r3 := cell_of_row _ _ 3 _ _ _ Z6
    have r4 := cell_of_row _ _ 4 _ _ _ Z6
    have r5 := cell_of_row _ _ 5 _ _ _ Z6
    clear Z Z6
    go_wp2
    exact bodyPost_ret (v := .agg #[.int .i64 k, .int .i64 s, .int .i64 x, .int .i64 z, .int .i64 c, .string t]) (by simp [results, Tryd.results47, go_sem, r0, r1, r2, r3, r4, r5]) rfl ⟨⟨k, s, x, z, c, t⟩, rfl, ht, B6.out⟩
  have h2 : (y == 2) = false := by simpa using h2
  by_cases h3 : (y == 3) = true
  · have ba : Below w2.heap.size w2 (w2.alloc (.cells #[.int .i64 0, .int .i64 9, .int .i64 10] 3)) := (Below.refl _ _).alloc (Nat.le_refl _) _
    have P2 := hide (P1.out.below hpw ba)
    have HCL : Hid (∀ j, j < ([0, 9, 10] : List Int).length → (w2.alloc (.cells #[.int .i64 0, .int .i64 9, .int .i64 10] 3)).cell? ⟨w2.heap.size, j, none⟩ = some (.int .i64 (([0, 9, 10] : List Int).getD j 0))) := by
      intro j hj
      match j, hj with
      | 0, _ => simp | 1, _ => simp | 2, _ => simp
    have np : w2.heap.size ≠ p := by have := P1.out.1.1.size; omega
    clear ba P1
    go_wp2_with fail
    refine (pickInt_any w2.heap.size [0, 9, 10] p ad len cap B _ (by simp) (by simp) np HCL.out hl P2.out.1.2 (P2.out.1.code HD.out hB hpw) hB).mono ?_
    rintro e w3 ⟨z, rfl, d3⟩
    have P3 := hide (P2.out.drawn d3 hpw)
    clear d3 P2 HCL
    obtain ⟨q4, g4⟩ := P3.out.at_ 4 _ rfl
    have P4 := hide (P3.out.set hpw 4 (.int .i64 z))
    change Hid (DSt w _ p ad len cap w.heap.size w1.heap.size #[.int .i64 k, .int .i64 s, .int .i64 x, .int .i64 q, .int .i64 z, .string t]) at P4
    clear P3
    obtain ⟨u0, -⟩ := P4.out.at_ 0 _ rfl
    obtain ⟨u1, -⟩ := P4.out.at_ 1 _ rfl
    obtain ⟨u2, -⟩ := P4.out.at_ 2 _ rfl
    obtain ⟨u3, -⟩ := P4.out.at_ 3 _ rfl
    obtain ⟨u4, -⟩ := P4.out.at_ 4 _ rfl
    obtain ⟨u5, -⟩ := P4.out.at_ 5 _ rfl
    have Z := P4.out.2.2.2.1
    have c0 := cell_of_row _ _ 0 _ _ _ Z
    have f0 := frozen_of_row _ _ 0 _ _ Z
    have c1 := cell_of_row _ _ 1 _ _ _ Z
    have f1 := frozen_of_row _ _ 1 _ _ Z
    have c2 := cell_of_row _ _ 2 _ _ _ Z
    have f2 := frozen_of_row _ _ 2 _ _ Z
    have c3 := cell_of_row _ _ 3 _ _ _ Z
    have f3 := frozen_of_row _ _ 3 _ _ Z
    have c4 := cell_of_row _ _ 4 _ _ _ Z
    have f4 := frozen_of_row _ _ 4 _ _ Z
    have c5 := cell_of_row _ _ 5 _ _ _ Z
    have f5 := frozen_of_row _ _ 5 _ _ Z
    have Z6 := six_cs (a := .int .i64 k) (b := .int .i64 s) (c := .int .i64 x) (d := .int .i64 q) (e := .int .i64 z) (f := .string t) Z
    have B6 := hide (six_drawn (a := .int .i64 k) (b := .int .i64 s) (c := .int .i64 x) (d := .int .i64 q) (e := .int .i64 z) (f := .string t) P4.out.1 hpw P4.out.2.1)
    have r0 := cell_of_row _ _ 0 _ _ _ Z6
    have r1 := cell_of_row _ _ 1 _ _ _ Z6
    have r2 := cell_of_row _ _ 2 _ _ _ Z6
    have r3 := cell_of_row _ _ 3 _ _ _ Z6
    have r4 := cell_of_row _ _ 4 _ _ _ Z6
    have r5 := cell_of_row _ _ 5 _ _ _ Z6
    clear Z Z6
    go_wp2
    exact bodyPost_ret (v := .agg #[.int .i64 k, .int .i64 s, .int .i64 x, .int .i64 q, .int .i64 z, .string t]) (by simp [results, Tryd.results47, go_sem, r0, r1, r2, r3, r4, r5]) rfl ⟨⟨k, s, x, q, z, t⟩, rfl, ht, B6.out⟩
  have h3 : (y == 3) = false := by simpa using h3
  by_cases h4 : (y == 4) = true
  · go_wp2_with fail
    refine (below_any 2 p ad len cap B _ (by omega) hl P1.out.1.2 (P1.out.1.code HD.out hB hpw) hB).mono ?_
    rintro e w3 ⟨z, rfl, z0, z1, -, d3⟩
    have z2 := z1 (by omega)
    obtain ⟨n, rfl⟩ := Int.eq_ofNat_of_zero_le z0
    have P2 := hide (P1.out.drawn d3 hpw)
    have LC := hide (fun W => long_any (90 + n) 65 W (by omega) (by omega))
    rw [show ((90 + n : Nat) : Int) = 90 + (n : Int) by omega] at LC
    clear d3 P1 z1
    go_wp2_with fail
    refine (LC.out _).mono ?_
    rintro e w4 ⟨tt, rfl, htt, b4⟩
    have P3 := hide (P2.out.below hpw b4)
    have htt2 : tt.length ≤ 5000 := by omega
    clear b4 P2 LC htt
    obtain ⟨q5, g5⟩ := P3.out.at_ 5 _ rfl
    have P4 := hide (P3.out.set hpw 5 (.string ⟨tt.toArray⟩))
    change Hid (DSt w _ p ad len cap w.heap.size w1.heap.size #[.int .i64 k, .int .i64 s, .int .i64 x, .int .i64 q, .int .i64 c, .string ⟨tt.toArray⟩]) at P4
    clear P3
    obtain ⟨u0, -⟩ := P4.out.at_ 0 _ rfl
    obtain ⟨u1, -⟩ := P4.out.at_ 1 _ rfl
    obtain ⟨u2, -⟩ := P4.out.at_ 2 _ rfl
    obtain ⟨u3, -⟩ := P4.out.at_ 3 _ rfl
    obtain ⟨u4, -⟩ := P4.out.at_ 4 _ rfl
    obtain ⟨u5, -⟩ := P4.out.at_ 5 _ rfl
    have Z := P4.out.2.2.2.1
    have c0 := cell_of_row _ _ 0 _ _ _ Z
    have f0 := frozen_of_row _ _ 0 _ _ Z
    have c1 := cell_of_row _ _ 1 _ _ _ Z
    have f1 := frozen_of_row _ _ 1 _ _ Z
    have c2 := cell_of_row _ _ 2 _ _ _ Z
    have f2 := frozen_of_row _ _ 2 _ _ Z
    have c3 := cell_of_row _ _ 3 _ _ _ Z
    have f3 := frozen_of_row _ _ 3 _ _ Z
    have c4 := cell_of_row _ _ 4 _ _ _ Z
    have f4 := frozen_of_row _ _ 4 _ _ Z
    have c5 := cell_of_row _ _ 5 _ _ _ Z
    have f5 := frozen_of_row _ _ 5 _ _ Z
    have Z6 := six_cs (a := .int .i64 k) (b := .int .i64 s) (c := .int .i64 x) (d := .int .i64 q) (e := .int .i64 c) (f := .string ⟨tt.toArray⟩) Z
    have B6 := hide (six_drawn (a := .int .i64 k) (b := .int .i64 s) (c := .int .i64 x) (d := .int .i64 q) (e := .int .i64 c) (f := .string ⟨tt.toArray⟩) P4.out.1 hpw P4.out.2.1)
    have r0 := cell_of_row _ _ 0 _ _ _ Z6
    have r1 := cell_of_row _ _ 1 _ _ _ Z6
    have r2 := cell_of_row _ _ 2 _ _ _ Z6
    have r3 := cell_of_row _ _ 3 _ _ _ Z6
    have r4 := cell_of_row _ _ 4 _ _ _ Z6
    have r5 := cell_of_row _ _ 5 _ _ _ Z6
    clear Z Z6
    go_wp2
    exact bodyPost_ret (v := .agg #[.int .i64 k, .int .i64 s, .int .i64 x, .int .i64 q, .int .i64 c, .string ⟨tt.toArray⟩]) (by simp [results, Tryd.results47, go_sem, r0, r1, r2, r3, r4, r5]) rfl ⟨⟨k, s, x, q, c, ⟨tt.toArray⟩⟩, rfl, by simp [ByteArray.size]; omega, B6.out⟩
  have h4 : (y == 4) = false := by simpa using h4
  obtain ⟨u0, -⟩ := P1.out.at_ 0 _ rfl
  obtain ⟨u1, -⟩ := P1.out.at_ 1 _ rfl
  obtain ⟨u2, -⟩ := P1.out.at_ 2 _ rfl
  obtain ⟨u3, -⟩ := P1.out.at_ 3 _ rfl
  obtain ⟨u4, -⟩ := P1.out.at_ 4 _ rfl
  obtain ⟨u5, -⟩ := P1.out.at_ 5 _ rfl
  have Z := P1.out.2.2.2.1
  have c0 := cell_of_row _ _ 0 _ _ _ Z
  have f0 := frozen_of_row _ _ 0 _ _ Z
  have c1 := cell_of_row _ _ 1 _ _ _ Z
  have f1 := frozen_of_row _ _ 1 _ _ Z
  have c2 := cell_of_row _ _ 2 _ _ _ Z
  have f2 := frozen_of_row _ _ 2 _ _ Z
  have c3 := cell_of_row _ _ 3 _ _ _ Z
  have f3 := frozen_of_row _ _ 3 _ _ Z
  have c4 := cell_of_row _ _ 4 _ _ _ Z
  have f4 := frozen_of_row _ _ 4 _ _ Z
  have c5 := cell_of_row _ _ 5 _ _ _ Z
  have f5 := frozen_of_row _ _ 5 _ _ Z
  have Z6 := six_cs (a := .int .i64 k) (b := .int .i64 s) (c := .int .i64 x) (d := .int .i64 q) (e := .int .i64 c) (f := .string t) Z
  have B6 := hide (six_drawn (a := .int .i64 k) (b := .int .i64 s) (c := .int .i64 x) (d := .int .i64 q) (e := .int .i64 c) (f := .string t) P1.out.1 hpw P1.out.2.1)
  have r0 := cell_of_row _ _ 0 _ _ _ Z6
  have r1 := cell_of_row _ _ 1 _ _ _ Z6
  have r2 := cell_of_row _ _ 2 _ _ _ Z6
  have r3 := cell_of_row _ _ 3 _ _ _ Z6
  have r4 := cell_of_row _ _ 4 _ _ _ Z6
  have r5 := cell_of_row _ _ 5 _ _ _ Z6
  clear Z Z6
  go_wp2
  exact bodyPost_ret (v := .agg #[.int .i64 k, .int .i64 s, .int .i64 x, .int .i64 q, .int .i64 c, .string t]) (by simp [results, Tryd.results47, go_sem, r0, r1, r2, r3, r4, r5]) rfl ⟨⟨k, s, x, q, c, t⟩, rfl, ht, B6.out⟩
end Go.Proofs.YtaolinlginloaacDoor
