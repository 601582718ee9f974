/-
  The draw of a text to be summed.
-/
import Derived.Test.YtcckljalnphneaaDoorDraw3
namespace Go.Proofs.YtcckljalnphneaaDoor
open Go.RowKit

set_option maxHeartbeats 400000 in
theorem drawSum_any (ad : Option Addr) (len cap : Nat) (w : World) (hl : len ≤ 1048576) (hd : CodeIn w ad len w.heap.size) :
    Calls Tryd.prog 16 #[.slice ad len cap] w fun e w' => ∃ t : List UInt8, e = .returned (.string ⟨t.toArray⟩) ∧ t.length ≤ 40 ∧ Below w.heap.size w w' := by
  have HD := hide hd
  clear hd
  go_enter Tryd.func16, Tryd.ntmps16
  go_wp2_with fail
  refine (new_any ad len cap w.heap.size _ hl HD.out).mono ?_
  rintro e w1 ⟨p, rfl, hp, hc, hb⟩
  have HC := hide hc
  have hs := hb.size
  have hpw := hc.2.2.2.2.2
  have HD1 := hide (HD.out.on hb (Nat.le_refl _))
  clear hc
  go_wp2_with fail
  refine (below_any 40 p ad len cap w.heap.size _ (by omega) hl HC.out HD1.out hp).mono ?_
  rintro e w2 ⟨x, rfl, x0, x1, _, D⟩
  have x2 := x1 (by omega)
  have HD2 := hide (D.code HD1.out hp hpw)
  have hb2 : Below w.heap.size w w2 := hb.trans (grown_below D.1 hp hs)
  have hs2 := hb2.size
  have HC2 := hide D.2
  clear D hb HC HD HD1 x1
  go_wp2_with fail
  refine (text_any x p ad len cap w.heap.size _ hl HC2.out HD2.out hp).mono ?_
  rintro e w3 ⟨t, rfl, ht, ht2, D⟩
  have hb3 : Below w.heap.size w w3 := hb2.trans (grown_below D.1 hp hs2)
  have H4 : Hid (t.length ≤ 40) := by show _ ≤ _; omega
  clear D hb2 ht ht2
  go_wp2
  go_ret
  exact ⟨t, rfl, H4.out, hb3⟩
end Go.Proofs.YtcckljalnphneaaDoor
