/-
  spec.DrawRightFlash.
-/
import Derived.Test.YthkkefbhcmhijaaDrawF
namespace Go.Proofs.Ythkkefbhcmhijaa
open Go.RowKit

set_option maxHeartbeats 400000 in
set_option maxRecDepth 100000 in
theorem drawRF_any (ad : Option Addr) (len cap : Nat) (w : World) (hl : len ≤ 1048576) (hd : CodeIn w ad len w.heap.size) :
    Calls Try.prog 6 #[.slice ad len cap] w fun e w' => ∃ v bs, e = .returned (.agg #[v]) ∧ Right 20 bs ∧ FlashOf w' w.heap.size v bs ∧ Below w.heap.size w w' := by
  have hb0 := (Below.refl w.heap.size w).alloc (Nat.le_refl _) (.cells #[.slice none 0 0] 26)
  have R0 := hide (heap_alloc_new w (.cells #[.slice none 0 0] 26))
  have HZ := hide (show (w.alloc (.cells #[.slice none 0 0] 26)).heap.size = w.heap.size + 1 by simp)
  have HB0 := hide hb0
  have HD := hide (hd.on hb0 (Nat.le_refl _))
  clear hd hb0
  go_enter Try.func6, Try.ntmps6
  go_wp2_with fail
  refine (new_any ad len cap w.heap.size _ hl HD.out).mono ?_
  rintro e w1 ⟨p, rfl, hp, hc, b1⟩
  have HC := hide hc
  have hz := HZ.out
  have s1 := b1.size
  have HD1 := hide (HD.out.on b1 (by omega))
  have R1 := hide ((b1.block _ (by omega)).trans R0.out)
  have HB1 := hide (HB0.out.trans (b1.mono (by omega)))
  have hpw := hc.2.2.2.2.2
  clear hc b1 R0 HD HB0
  go_wp2_with fail
  refine (l05_any p ad len cap w.heap.size _ hl HC.out HD1.out (by omega)).mono ?_
  rintro e w2 ⟨v, bs, rfl, hr, fo, d2⟩
  have R2 := (d2.1.block _ (by omega) (fun e => by cases e; omega)).trans R1.out
  have HR := hide hr
  have HB2 := HB1.out.trans (grown_below d2.1 (show w.heap.size ≤ p by omega) (by omega))
  obtain ⟨vd, vcap, rfl⟩ := fo.form
  have n1 : w2.cell? ⟨w.heap.size, 0, none⟩ = some (.slice none 0 0) := cell_of_row _ _ 0 _ _ _ R2
  have f1 := frozen_of_row _ _ 0 _ _ R2
  have Q1 := hide (row_set R2 0 (.slice vd bs.length vcap))
  have G := hide ((fo.cell (show w.heap.size < w1.heap.size by omega) 0 (.slice vd bs.length vcap)).down (show w.heap.size ≤ w1.heap.size by omega))
  have HBE := hide (HB2.setCell (p := ⟨w.heap.size, 0, none⟩) (Nat.le_refl _) (.slice vd bs.length vcap))
  clear R2 HB2 fo d2 hr hz
  go_wp2
  exact bodyPost_ret (results_cell_row rfl _ _ w.heap.size 26 _ (0, 0) _ rfl Q1.out Try.underlying26 rfl infoFlash1) rfl ⟨_, _, rfl, HR.out, G.out, HBE.out⟩
end Go.Proofs.Ythkkefbhcmhijaa
