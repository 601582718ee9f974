/-
  The draws of the law on pages.
-/
import Derived.Test.YtaolinlginloaacDoorDrawPg2
import Derived.Test.YtaolinlginloaacDoorDPl
namespace Go.Proofs.YtaolinlginloaacDoor
open Go.RowKit
open Words Sums

set_option maxHeartbeats 1000000 in
set_option maxRecDepth 100000 in
theorem drawPageText_any (ad : Option Addr) (len cap : Nat) (w : World) (hl : len ≤ 1048576) (hd : CodeIn w ad len w.heap.size) :
    Calls Tryd.prog 17 #[.slice ad len cap] w fun e w' => ∃ pg : Pg, e = .returned (pgVal pg) ∧ pg.text.size ≤ 5000 ∧ Below w.heap.size w w' := by
  have b0 : Below w.heap.size w (w.alloc (.cells #[.int .i64 0, .int .i64 0, .int .i64 0, .int .i64 0, .int .i64 0, .string ⟨#[]⟩] 35)) := (Below.refl _ _).alloc (Nat.le_refl _) _
  have HD := hide (hd.on b0 (Nat.le_refl _))
  have B0 := hide b0
  have Z0 := hide (heap_alloc_new w (.cells #[.int .i64 0, .int .i64 0, .int .i64 0, .int .i64 0, .int .i64 0, .string ⟨#[]⟩] 35))
  clear hd b0
  go_enter Tryd.func17, Tryd.ntmps17
  go_wp2_with fail
  refine (new_any ad len cap w.heap.size _ hl HD.out).mono ?_
  rintro e w1 ⟨p, rfl, hp, c1, b1⟩
  have hp' : w.heap.size < p := by simp at hp; omega
  have HD1 := hide (HD.out.on b1 (by simp))
  have B1 := hide (B0.out.trans (b1.mono (by simp)))
  have Z1 := hide ((b1.block w.heap.size (by simp)).trans Z0.out)
  have C1 := hide c1
  clear c1 b1 hp HD B0 Z0
  go_wp2_with fail
  refine (dany p ad len cap w.heap.size _ hl C1.out HD1.out (by omega)).mono ?_
  rintro e w2 ⟨pg, rfl, hsz, d2⟩
  obtain ⟨k, s, x, q, c, t⟩ := pg
  unfold pgVal
  simp only at *
  have Z2 := (d2.1.block w.heap.size (Array.getElem?_eq_some_iff.1 Z1.out).1 (by simp; omega)).trans Z1.out
  have B2 := hide (B1.out.trans (grown_below d2.1 (show w.heap.size ≤ p by omega) B1.out.size))
  clear d2 Z1 B1 C1 HD1
  have c0 := cell_of_row _ _ 0 _ _ _ Z2
  have f0 := frozen_of_row _ _ 0 _ _ Z2
  have c1 := cell_of_row _ _ 1 _ _ _ Z2
  have f1 := frozen_of_row _ _ 1 _ _ Z2
  have c2 := cell_of_row _ _ 2 _ _ _ Z2
  have f2 := frozen_of_row _ _ 2 _ _ Z2
  have c3 := cell_of_row _ _ 3 _ _ _ Z2
  have f3 := frozen_of_row _ _ 3 _ _ Z2
  have c4 := cell_of_row _ _ 4 _ _ _ Z2
  have f4 := frozen_of_row _ _ 4 _ _ Z2
  have c5 := cell_of_row _ _ 5 _ _ _ Z2
  have f5 := frozen_of_row _ _ 5 _ _ Z2
  have Z6 := six_cs (a := .int .i64 k) (b := .int .i64 s) (c := .int .i64 x) (d := .int .i64 q) (e := .int .i64 c) (f := .string t) Z2
  have B6 := hide (six_below (a := .int .i64 k) (b := .int .i64 s) (c := .int .i64 x) (d := .int .i64 q) (e := .int .i64 c) (f := .string t) B2.out (Nat.le_refl _))
  have r0 := cell_of_row _ _ 0 _ _ _ Z6
  have r1 := cell_of_row _ _ 1 _ _ _ Z6
  have r2 := cell_of_row _ _ 2 _ _ _ Z6
  have r3 := cell_of_row _ _ 3 _ _ _ Z6
  have r4 := cell_of_row _ _ 4 _ _ _ Z6
  have r5 := cell_of_row _ _ 5 _ _ _ Z6
  clear Z2 Z6
  go_wp2
  exact bodyPost_ret (v := .agg #[.int .i64 k, .int .i64 s, .int .i64 x, .int .i64 q, .int .i64 c, .string t]) (by simp [results, Tryd.results17, go_sem, r0, r1, r2, r3, r4, r5]) rfl ⟨⟨k, s, x, q, c, t⟩, rfl, hsz, B6.out⟩

theorem ptRes_tuple (p : Pg) : ∃ (s : ByteArray) (ok : Bool), ptRes p = .tuple #[.string s, .bool ok] ∧ s.size ≤ 131 ∧ (ok = true → p.Right ∧ s = sealA (pageA p)) ∧ (ok = false → ¬ p.Right ∧ s = ⟨#[]⟩) := by
  by_cases h : p.Right
  · exact ⟨_, _, if_pos h, by rw [sealA_size]; have := pageA_size p h; omega, fun _ => ⟨h, rfl⟩, fun e => by cases e⟩
  · exact ⟨_, _, if_neg h, by decide, (fun e => by cases e), fun _ => ⟨h, rfl⟩⟩
theorem unR_tuple (o : Option ByteArray) (n : Nat) (h : ∀ s, o = some s → s.size ≤ n) : ∃ (s : ByteArray) (ok : Bool), unR o = .tuple #[.string s, .bool ok] ∧ s.size ≤ n := by
  cases o with
  | none => exact ⟨_, _, rfl, by simp [ByteArray.size]⟩
  | some s => exact ⟨_, _, rfl, h s rfl⟩

set_option maxHeartbeats 1000000 in
set_option maxRecDepth 100000 in
theorem drawReadPage_any (ad : Option Addr) (len cap : Nat) (w : World) (hl : len ≤ 1048576) (hd : CodeIn w ad len w.heap.size) :
    Calls Tryd.prog 22 #[.slice ad len cap] w fun e w' => ∃ t : ByteArray, e = .returned (.string t) ∧ t.size ≤ 4000 ∧ Below w.heap.size w w' := by
  have HD := hide hd
  clear hd
  go_enter Tryd.func22, Tryd.ntmps22
  go_wp2_with fail
  refine (new_any ad len cap w.heap.size _ hl HD.out).mono ?_
  rintro e w1 ⟨p, rfl, hp, c1, b1⟩
  have HD1 := hide (HD.out.on b1 (Nat.le_refl _))
  have B1 := hide b1
  have C1 := hide c1
  have hpw1 := c1.2.2.2.2.2
  clear c1 b1 HD
  go_wp2_with fail
  refine (dany p ad len cap w.heap.size _ hl C1.out HD1.out hp).mono ?_
  rintro e w2 ⟨pg, rfl, hsz, d2⟩
  have D2 := hide d2
  obtain ⟨s, ok, hpt, hss, -, -⟩ := ptRes_tuple pg
  have CP := hide (fun W => spageText pg W)
  rw [hpt] at CP
  unfold pgVal at *
  clear d2 hpt hsz
  go_wp2_with fail
  refine (CP.out _).mono ?_
  rintro e w3 ⟨rfl, b3⟩
  have D3 := hide (D2.out.below (b3.mono D2.out.1.size) hpw1)
  clear b3 D2 CP
  go_wp2_with fail
  refine (once_any 3 p ad len cap w.heap.size _ (by omega) hl D3.out.2 (D3.out.code HD1.out hp hpw1) hp).mono ?_
  rintro e w4 ⟨b, rfl, d4⟩
  have D4 := hide (D3.out.trans d4)
  clear d4 D3
  cases b with
  | true =>
    have CU := hide (fun W => sunseal s (by unfold maxLen; omega) W)
    obtain ⟨u, uk, hun, hus⟩ := unR_tuple (unA s) 20000 (fun v hv => (unA_some hv).2)
    have hus' : u.size ≤ 131 := by
      cases hv : unA s with
      | none => rw [hv] at hun; unfold unR at hun; injection hun with h1; simp at h1; rw [← h1.1]; simp [ByteArray.size]
      | some v =>
        have h2 := (unA_some hv).1
        have h3 := sealA_size v
        rw [h2] at h3
        rw [hv] at hun; unfold unR at hun; injection hun with h1; simp at h1; rw [← h1.1]; omega
    rw [hun] at CU
    clear hun hus
    go_wp2_with fail
    refine (CU.out _).mono ?_
    rintro e w5 ⟨rfl, b5⟩
    have D5 := hide (D4.out.below (b5.mono D4.out.1.size) hpw1)
    clear b5 D4 CU
    cases uk with
    | true =>
      go_wp2_with fail
      refine (spoilt_any u p ad len cap w.heap.size _ (by omega) hl D5.out.2 (D5.out.code HD1.out hp hpw1) hp).mono ?_
      rintro e w6 ⟨v, rfl, hv, d6⟩
      have D6 := hide (D5.out.trans d6)
      clear d6 D5
      go_wp2_with fail
      refine (specSealed v _ (by omega)).mono ?_
      rintro e w7 ⟨rfl, b7⟩
      have D7 := hide (D6.out.below (b7.mono D6.out.1.size) hpw1)
      clear b7 D6
      have hvs := sealA_size v
      generalize sealA v = r at hvs
      go_wp2
      go_ret
      exact ⟨r, rfl, by omega, B1.out.trans (grown_below D7.out.1 hp B1.out.size)⟩
    | false =>
      go_wp2
      go_ret
      exact ⟨s, rfl, by omega, B1.out.trans (grown_below D5.out.1 hp B1.out.size)⟩
  | false =>
    go_wp2_with fail
    refine (spoilt_any s p ad len cap w.heap.size _ (by omega) hl D4.out.2 (D4.out.code HD1.out hp hpw1) hp).mono ?_
    rintro e w6 ⟨v, rfl, hv, d6⟩
    have D6 := hide (D4.out.trans d6)
    clear d6 D4
    go_wp2
    go_ret
    exact ⟨v, rfl, by omega, B1.out.trans (grown_below D6.out.1 hp B1.out.size)⟩
end Go.Proofs.YtaolinlginloaacDoor
