/-
  The draws of records, and of their bytes.
-/
import Derived.Test.YtcjgjkejhkhknabDrRcs
import Derived.Test.YtcjgjkejhkhknabSBytes
import Derived.Test.YtcjgjkejhkhknabSpoilt
import Derived.Test.YtcjgjkejhkhknabD3
namespace Go.Proofs.Ytcjgjkejhkhknab
open Go.RowKit
open Words

set_option maxHeartbeats 400000 in
set_option maxRecDepth 100000 in
theorem drawReadRecs (ad : Option Addr) (len cap : Nat) (w : World) (hl : len ≤ 1048576) (hd : CodeIn w ad len w.heap.size) :
    Calls Try.prog 12 #[.slice ad len cap] w fun e w' => ∃ t : ByteArray, e = .returned (.string t) ∧ t.size ≤ 3000 ∧ Below w.heap.size w w' := by
  have HD := hide hd
  clear hd
  go_enter Try.func12, Try.ntmps12
  go_wp2_with fail
  refine (new_any ad len cap w.heap.size _ hl HD.out).mono ?_
  rintro e w1 ⟨p, rfl, hp, hc, hb⟩
  have HC := hide hc
  have HB := hide hb
  have hs := hb.size
  have hpw := hc.2.2.2.2.2
  have HD1 := hide (HD.out.on hb (Nat.le_refl _))
  clear hc hb HD
  go_wp2_with fail
  refine (drecs p ad len cap w.heap.size _ hl HC.out HD1.out hp).mono ?_
  rintro e w2 ⟨g, c, l, rfl, h8, hr, ho, d2⟩
  have C := hide (sbytes g l.length c w1.heap.size l w2 rfl h8 hr ho)
  have hz := recsA_size l hr
  have D2 := hide d2
  clear ho d2 hr
  generalize recsA l = s at C hz
  have hz2 : s.size ≤ 152 := by omega
  clear hz
  go_wp2_with fail
  refine C.out.mono ?_
  rintro e w3 ⟨rfl, b3⟩
  have D3 := hide (D2.out.below (b3.mono D2.out.1.size) hpw)
  clear b3 C D2
  go_wp2_with fail
  refine (once_any 3 p ad len cap w.heap.size _ (by omega) hl D3.out.2 (D3.out.code HD1.out hp hpw) hp).mono ?_
  rintro e w4 ⟨o, rfl, d4⟩
  have D4 := hide (D3.out.trans d4)
  clear d4 D3
  cases o with
  | true =>
    go_wp2_with fail
    refine (spoilt_any s p ad len cap w.heap.size _ (by omega) hl D4.out.2 (D4.out.code HD1.out hp hpw) hp).mono ?_
    rintro e w5 ⟨t, rfl, ht, d5⟩
    have HB5 := hide (HB.out.trans (grown_below (D4.out.trans d5).1 hp hs))
    clear d5
    go_wp2_with fail
    go_ret
    exact ⟨t, rfl, ht, HB5.out⟩
  | false =>
    have HB5 := hide (HB.out.trans (grown_below D4.out.1 hp hs))
    go_wp2_with fail
    go_ret
    exact ⟨s, rfl, by omega, HB5.out⟩
end Go.Proofs.Ytcjgjkejhkhknab
