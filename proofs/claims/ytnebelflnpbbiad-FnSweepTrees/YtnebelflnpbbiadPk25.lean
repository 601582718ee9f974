/-
  D3; DrawFo
-/
import Derived.Test.YtnebelflnpbbiadD2
import Derived.Test.YtnebelflnpbbiadDrFor
/-
  A new cursor.
-/
namespace Go.Proofs.Ytnebelflnpbbiad
open Go.RowKit

set_option maxHeartbeats 400000 in
set_option maxRecDepth 100000 in
theorem new_any (ad : Option Addr) (len cap B : Nat) (w : World) (hl : len ≤ 1048576) (hd : CodeIn w ad len B) :
    Calls Try.prog 13 #[.slice ad len cap] w fun e w' => ∃ p, e = .returned (.pointer (some ⟨p, 0, none⟩)) ∧ w.heap.size ≤ p ∧ CurIn w' p ad len cap ∧ Below w.heap.size w w' := by
  have HD := hide hd
  clear hd
  go_enter Try.func13, Try.ntmps13
  go_wp2
  go_loop [3, 4] (fun hv iv => ∃ (x : Int) (k : Nat), k ≤ len ∧ hv = .int .i64 x ∧ iv = .int .i64 k) (fun _ iv => len - (intOf iv).toNat)
  case atStart => exact ⟨_, 0, Nat.zero_le _, rfl, rfl⟩
  case round =>
    obtain ⟨x, k, hk, rfl, rfl⟩ := hrel
    by_cases hlt : (k : Int) < len
    · by_cases h4 : (k : Int) < 4000
      · obtain ⟨b, off, rfl, hbB, c, hc8, hcell⟩ := HD.out k (by omega)
        go_wp2
        go_round
        case rel => exact ⟨_, k + 1, by omega, rfl, by go_num⟩
        case measure => simp [intOf]; omega
      · go_wp2
        go_ret
        refine ⟨w.heap.size, rfl, Nat.le_refl _, ?_, (Below.refl _ _).alloc (Nat.le_refl _) _⟩
        exact ⟨by simp, ⟨0, by omega, by simp⟩, ⟨x, by simp⟩, by simp, by simp, by simp⟩
    · go_wp2
      go_ret
      refine ⟨w.heap.size, rfl, Nat.le_refl _, ?_, (Below.refl _ _).alloc (Nat.le_refl _) _⟩
      exact ⟨by simp, ⟨0, by omega, by simp⟩, ⟨x, by simp⟩, by simp, by simp, by simp⟩
end Go.Proofs.Ytnebelflnpbbiad

/-
  spec.DrawForest.
-/
namespace Go.Proofs.Ytnebelflnpbbiad
open Go.RowKit
open Words

/-- An arena with some trees, and its roots, answered. -/
def ForE (w : World) (e : Ending) (w' : World) : Prop :=
  ∃ av rv ks R lo hi, e = .returned (.tuple #[.agg #[av], rv]) ∧ R.length ≤ 8 ∧ ForOk ks R ∧ Kns lo hi av ks w' ∧ w'.ownsRow w.heap.size 3 1 rv R.length (icells R) ∧ (∀ g, rv.ownBlock = some g → g < lo ∨ hi ≤ g) ∧ (w.heap.size ≤ lo ∧ lo ≤ hi ∧ hi ≤ w'.heap.size) ∧ Below w.heap.size w w'

set_option maxHeartbeats 400000 in
set_option maxRecDepth 100000 in
theorem drawForest (ad : Option Addr) (len cap : Nat) (w : World) (hl : len ≤ 1048576) (hd : CodeIn w ad len w.heap.size) :
    Calls Try.prog 5 #[.slice ad len cap] w (ForE w) := by
  have hb0 := (Below.refl w.heap.size w).alloc (Nat.le_refl _) (.cells #[.slice none 0 0] 26)
  have R0 := hide (heap_alloc_new w (.cells #[.slice none 0 0] 26))
  have HZ := hide (show (w.alloc (.cells #[.slice none 0 0] 26)).heap.size = w.heap.size + 1 by simp)
  have HB0 := hide hb0
  have HD := hide (hd.on hb0 (Nat.le_refl _))
  clear hd hb0
  go_enter Try.func5, Try.ntmps5
  go_wp2_with fail
  refine (new_any ad len cap w.heap.size _ hl HD.out).mono ?_
  rintro e w1 ⟨p, rfl, hp, hc, b1⟩
  have HC := hide hc
  have hz := HZ.out
  have s1 := b1.size
  have HD1 := hide (HD.out.on b1 (by omega))
  have R1 := hide ((b1.block _ (by omega)).trans R0.out)
  have HB1 := hide (HB0.out.trans (b1.mono (by omega)))
  have hpw := hc.2.2.2.2.2
  clear hc b1 R0 HD HB0
  go_wp2_with fail
  refine (dforest p ad len cap w.heap.size _ hl HC.out HD1.out (by omega)).mono ?_
  rintro e w2 ⟨av, rv, ks, R, lo, hi, rfl, h8, ok, kn, ow, dj, ⟨l1, l2, l3⟩, d2⟩
  obtain ⟨va, vc, hav⟩ := kn.form
  subst hav
  obtain ⟨ra, rc, hrv, -⟩ := (Sli.of ow).form
  subst hrv
  have hs2 := d2.1.size
  have R2 := hide ((d2.1.block _ (by omega) (fun e => by cases e; omega)).trans R1.out)
  have n2 : w2.cell? ⟨w.heap.size, 0, none⟩ = some (.slice none 0 0) := cell_of_row _ _ 0 _ _ _ R2.out
  have f2 : w2.frozen? ⟨w.heap.size, 0, none⟩ = false := frozen_of_row _ _ 0 _ _ R2.out
  have Q1 := hide (row_set R2.out 0 (.slice va ks.length vc))
  have FO : Hid (ForE w (.returned (.tuple #[.agg #[.slice va ks.length vc], .slice ra R.length rc])) (w2.setCell ⟨w.heap.size, 0, none⟩ (.slice va ks.length vc))) := by
    have hsz : (w2.setCell ⟨w.heap.size, 0, none⟩ (.slice va ks.length vc)).heap.size = w2.heap.size := by simp [World.setCell]
    refine ⟨_, _, ks, R, lo, hi, rfl, h8, ok, Kns.loc _ _ _ _ w2 _ (fun g g1 g2 => Below.heap_setCell _ _ _ _ (fun (e : g = w.heap.size) => by omega)) kn, own_lower (own_cell ow (show w.heap.size < w1.heap.size by omega) 0 _) (by omega), dj, ⟨by omega, l2, by omega⟩, ?_⟩
    exact (HB1.out.trans (grown_below d2.1 (show w.heap.size ≤ p by omega) (by omega))).setCell (p := ⟨w.heap.size, 0, none⟩) (Nat.le_refl _) _
  clear h8 ok kn ow dj d2
  go_wp2
  exact bodyPost_ret (results_ar2 (p := 2) (q := 3) rfl _ _ w.heap.size _ rfl Q1.out) rfl FO.out
end Go.Proofs.Ytnebelflnpbbiad
