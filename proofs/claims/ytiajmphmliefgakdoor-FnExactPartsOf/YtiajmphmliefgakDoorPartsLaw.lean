/-
  The walk of the law on PartsOf.
-/
import Derived.Test.YtiajmphmliefgakDoorMarks2
import Derived.Test.YtiajmphmliefgakDoorParts2
namespace Go.Proofs.YtiajmphmliefgakDoor
open Go.RowKit
open Words

theorem owns_low {w w' : World} {B C : Nat} {e : TypeId} {z : Nat} {v : Value} {n : Nat} {xs : List Value} (h : w.ownsRow B e z v n xs) (hb : Below C w w') (hlt : ∀ k, v.ownBlock = some k → k < C) : w'.ownsRow B e z v n xs := by
  rcases h.2 with ⟨h1, h2⟩ | ⟨g, cap, cur, h1, h2, h3, h4, h5, h6, h7⟩
  · exact ⟨h.1, .inl ⟨h1, h2⟩⟩
  · exact ⟨h.1, .inr ⟨g, cap, cur, h1, h2, (hb.block g (hlt g (by rw [h1]; rfl))).trans h3, h4, h5, h6, h7⟩⟩

set_option maxHeartbeats 1000000 in
set_option maxRecDepth 100000 in
theorem lawParts (a0 : ByteArray) (_w0 : a0.size ≤ maxLen) (w : World) (ht : SpIn w) :
    Calls Tryd.prog 5 #[.string a0] w fun e w' => e = .returned (.bool true) ∧ Below w.heap.size w w' := by
  have HT := hide ht
  clear ht
  by_cases hs : (1048576 : Int) < a0.size
  · go_enter Tryd.func5, Tryd.ntmps5
    go_wp2
    go_ret
    exact ⟨rfl, Below.refl _ _⟩
  · obtain ⟨ls, b, hl, h1, h2⟩ := parts_all a0
    have H1 := hide h1
    have H2 := hide h2
    clear h1 h2
    go_enter Tryd.func5, Tryd.ntmps5
    go_wp2_with fail
    refine (unhide H1 _).mono ?_
    rintro e w1 ⟨vs, rfl, os1, b1⟩
    go_wp2_with fail
    refine (unhide H2 _ (HT.out.on b1)).mono ?_
    rintro e w2 ⟨vg, rfl, og2, b2⟩
    have low : Hid (∀ k, vs.ownBlock = some k → k < w1.heap.size) := fun k hk => (os1.lt k hk).2
    have os2 := owns_below os1 b2
    have c2 : Below w.heap.size w w2 := b1.trans (b2.mono b1.size)
    have s1 := b1.size
    have s2 := b2.size
    go_wp2_with fail
    refine (eqS_any vg vs ls _ _ _ (by omega) og2 os2).mono ?_
    rintro e w3 ⟨rfl, b3⟩
    have og3 := owns_below og2 b3
    have os3 := owns_below os2 b3
    have c3 : Below w.heap.size w w3 := c2.trans (b3.mono (by omega))
    have s3 := b3.size
    have nb : ((b != b) = false) := by cases b <;> rfl
    clear os1 og2 os2 c2 b3
    go_wp2_with fail
    refine (markS_any vg ls _ _ (by omega) og3).mono ?_
    rintro e w4 ⟨rfl, og4, b4⟩
    have c4 : Below w.heap.size w w4 := c3.trans (b4.mono (by omega))
    have s4 := b4.size
    have os4 := owns_low os3 b4 low.out
    clear og3 os3 c3
    go_wp2_with fail
    refine (heldS_any vg ls.length _ _ (by omega) og4).mono ?_
    rintro e w5 ⟨rfl, b5⟩
    have og5 := owns_below og4 b5
    have os5 := owns_below os4 b5
    have c5 : Below w.heap.size w w5 := c4.trans (b5.mono (by omega))
    have s5 := b5.size
    clear og4 os4 c4 b5 b4
    go_wp2_with fail
    refine (unhide H2 _ (HT.out.on c5)).mono ?_
    rintro e w6 ⟨vh, rfl, oh6, b6⟩
    have og6 := owns_below og5 b6
    have os6 := owns_below os5 b6
    have c6 : Below w.heap.size w w6 := c5.trans (b6.mono (by omega))
    have s6 := b6.size
    clear og5 os5 c5 b6
    go_wp2_with fail
    refine (eqS_any vh vs ls _ _ _ (by omega) oh6 os6).mono ?_
    rintro e w7 ⟨rfl, b7⟩
    have og7 := owns_below og6 b7
    have c7 : Below w.heap.size w w7 := c6.trans (b7.mono (by omega))
    have s7 := b7.size
    clear og6 os6 oh6 c6 b7
    go_wp2_with fail
    refine (heldS_any vg ls.length _ _ (by omega) og7).mono ?_
    rintro e w8 ⟨rfl, b8⟩
    have c8 : Below w.heap.size w w8 := c7.trans (b8.mono (by omega))
    clear og7 c7 b8
    go_wp2
    go_ret
    exact ⟨rfl, c8⟩
end Go.Proofs.YtiajmphmliefgakDoor
