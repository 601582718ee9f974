/-
  The draw of records: spec.DrawRecords.
-/
import Derived.Test.YtcjgjkejhkhknabDrawRcs
import Derived.Test.YtcjgjkejhkhknabD3
namespace Go.Proofs.Ytcjgjkejhkhknab
open Go.RowKit
open Words

/-- Right records, in a row of their own. -/
def RecsIn (w : World) (e : Ending) (w' : World) : Prop := ∃ (g c : Nat) (l : List Rc), e = .returned (.slice (some ⟨g, 0, none⟩) l.length c) ∧ l.length ≤ 8 ∧ (∀ r ∈ l, r.Right) ∧ w'.ownsRow w.heap.size 25 4 (.slice (some ⟨g, 0, none⟩) l.length c) l.length (rccells (l.map Rc.tu)) ∧ Below w.heap.size w w'

set_option maxHeartbeats 400000 in
set_option maxRecDepth 100000 in
theorem drawRecords (ad : Option Addr) (len cap : Nat) (w : World) (hl : len ≤ 1048576) (hd : CodeIn w ad len w.heap.size) :
    Calls Try.prog 9 #[.slice ad len cap] w (RecsIn w) := by
  have HD := hide hd
  clear hd
  go_enter Try.func9, Try.ntmps9
  go_wp2_with fail
  refine (new_any ad len cap w.heap.size _ hl HD.out).mono ?_
  rintro e w1 ⟨p, rfl, hp, hc, hb⟩
  have HC := hide hc
  have HB := hide hb
  have hs := hb.size
  have HD1 := hide (HD.out.on hb (Nat.le_refl _))
  clear hc hb HD
  go_wp2_with fail
  refine (drecs p ad len cap w.heap.size _ hl HC.out HD1.out hp).mono ?_
  rintro e w2 ⟨g, c, l, rfl, h8, hr, ho, d2⟩
  have HO := hide (own_lower ho hs)
  have HB2 := hide (HB.out.trans (grown_below d2.1 hp hs))
  have HR := hide hr
  clear ho d2 hr
  go_wp2_with fail
  go_ret
  exact ⟨g, c, l, rfl, h8, HR.out, HO.out, HB2.out⟩
end Go.Proofs.Ytcjgjkejhkhknab
