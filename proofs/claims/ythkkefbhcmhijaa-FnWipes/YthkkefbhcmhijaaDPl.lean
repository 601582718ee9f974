/-
  The draw of twelve places.
-/
import Derived.Test.YthkkefbhcmhijaaD3
namespace Go.Proofs.Ythkkefbhcmhijaa
open Go.RowKit

theorem CodeIn.up {w : World} {ad : Option Addr} {len B C : Nat} (h : CodeIn w ad len B) (hB : B ≤ C) : CodeIn w ad len C := by
  intro j hj
  obtain ⟨b, off, h1, h2, c⟩ := h j hj
  exact ⟨b, off, h1, by omega, c⟩
/-- Twelve numbers below 10000, in a new block. -/
def Placed (w : World) (e : Ending) (w' : World) : Prop :=
  ∃ (g cp : Nat) (l : List Int), e = .returned (.slice (some ⟨g, 0, none⟩) 12 cp) ∧ w.heap.size ≤ g ∧ g < w'.heap.size ∧ l.length = 12 ∧ (∀ x ∈ l, 0 ≤ x ∧ x < 10000) ∧ (∀ j (hj : j < l.length), w'.cell? ⟨g, j, none⟩ = some (.int .i64 l[j])) ∧ Below w.heap.size w w'

set_option maxHeartbeats 400000 in
set_option maxRecDepth 100000 in
theorem places_any (ad : Option Addr) (len cap : Nat) (w : World) (hl : len ≤ 1048576) (hd : CodeIn w ad len w.heap.size) :
    Calls Try.prog 7 #[.slice ad len cap] w fun e w' => Placed w e w' := by
  obtain ⟨i0, hi, hz0, hz1, hz2⟩ := info_parts infoInt
  have HD := hide hd
  clear hd
  go_enter Try.func7, Try.ntmps7
  go_wp2_with fail
  refine (new_any ad len cap w.heap.size _ hl HD.out).mono ?_
  rintro e w1 ⟨p, rfl, hp, hc, hb⟩
  have HC := hide hc
  have hs := hb.size
  have hpw := hc.2.2.2.2.2
  have HD1 := hide (HD.out.on hb (Nat.le_refl _))
  clear hc
  go_wp2_with fail
  refine (byte_any p ad len cap w.heap.size _ hl HC.out HD1.out hp).mono ?_
  rintro e w2 ⟨x, rfl, x0, x1, g1, c1⟩
  have hb2 : Below w.heap.size w w2 := hb.trans (grown_below g1 hp hs)
  have HD2 := hide (Drawn.code ⟨g1, c1⟩ HD1.out hp hpw)
  have HC2 := hide c1
  have hp2 := c1.2.2.2.2.2
  have hs2 := hb2.size
  clear g1 c1 hb HC HD1 HD
  go_wp2
  go_loopw [4, 5] (fun out iv wr => ∃ l : List Int, l.length ≤ 12 ∧ iv = .int .i64 l.length ∧ Hid (∀ x ∈ l, 0 ≤ x ∧ x < 10000) ∧ wr.ownsRow w2.heap.size 3 1 out l.length (icells l) ∧ w2.heap.size ≤ wr.heap.size ∧ Hid (Drawn w2 wr p ad len cap)) (fun _ iv _ => 12 - (intOf iv).toNat)
  case atStart => exact ⟨[], by simp, rfl, (by intro x hx; cases hx), World.ownsRow_made w2 #[] 0 (Nat.le_refl _) (by unfold maxLen; omega) (by simp), by simp, Drawn.below (Drawn.refl HC2.out) ((Below.refl _ _).alloc (Nat.le_refl _) _) hp2⟩
  case round =>
    obtain ⟨l, ht, rfl, hall, hown, hsz, hdr⟩ := hrel
    by_cases hlt : (l.length : Int) < 12
    · have HDr := hide (hdr.out.code HD2.out hp hp2)
      go_wp2_with fail
      refine (below_any 10000 p ad len cap w.heap.size _ (by omega) hl hdr.out.2 HDr.out hp).mono ?_
      rintro e w3 ⟨x, rfl, x0, x1, _, D⟩
      have x2 := x1 (by omega)
      have hlow := hown.lt
      have hown1 := hown.kept D.1 (.inr (fun h => by have := hlow p h; omega))
      have D1 : Hid (Drawn w2 w3 p ad len cap) := hdr.out.trans D
      have hs1 := D.1.size
      clear D hown hdr HDr x1
      go_wp2_with (at_builtin; refine wpList_append_own _ rfl _ _ 28 rfl w2.heap.size 3 i0 (.int .i64 0) 1 8 Try.underlying28 hi hz0 hz1 hz2 rfl (by decide) _ _ _ rfl (by exact hown1.alloc _) ⟨w3.heap.size, 0, none⟩ 1 1 [Value.int .i64 _] rfl rfl (by exact one_cell _ _ _) (one_i64 _) (by unfold maxLen; omega) (by omega) (by simp; omega) ?_)
      intro v' w4 hown2 hgrow _
      have hb4 : Below w2.heap.size w3 w4 := own_grown (Below.refl _ _) (by omega) hown1 hgrow
      have D2 : Hid (Drawn w2 w4 p ad len cap) := D1.out.below hb4 hp2
      rw [icells_snoc l x] at hown2
      have hs4 := hb4.size
      have hall2 : Hid (∀ y ∈ l ++ [x], 0 ≤ y ∧ y < 10000) := by
        intro y hy
        rcases List.mem_append.1 hy with h | h
        · exact hall.out y h
        · simp at h; subst h; exact ⟨x0, x2⟩
      clear hown1 hgrow hb4 D1 hall
      go_wp2
      go_roundw
      case rel => exact ⟨l ++ [x], by simp; omega, by simp, hall2, by simpa using hown2, by omega, D2⟩
      case measure => simp [intOf]; omega
    · have e12 : l.length = 12 := by omega
      have hb5 : Below w.heap.size w wr := hb2.trans (grown_below hdr.out.1 hp hs2)
      rw [e12] at hown
      have hlow := hown.lt
      have hcs := hown
      rcases hown.2 with ⟨-, h0⟩ | ⟨g, cp, cur, rfl, -, -, -, -, -, -⟩
      · omega
      · have hlt := hlow g rfl
        have hge : w.heap.size ≤ g := by omega
        have hgw : g < wr.heap.size := hlt.2
        have hcell : ∀ j (hj : j < l.length), wr.cell? ⟨g, j, none⟩ = some (.int .i64 l[j]) := by
          intro j hj
          have := hcs.cells (g := g) rfl j _ (icells_at l j hj)
          rw [addr_at] at this
          exact this
        have HO := hide hcell
        have E := hide e12
        clear e12 hcell hcs hown hlow
        go_wp2
        go_ret
        exact ⟨g, cp, l, rfl, hge, hgw, E.out, hall.out, HO.out, hb5⟩
end Go.Proofs.Ythkkefbhcmhijaa
