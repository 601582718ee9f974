/-
  spec.NextBlank.
-/
import Derived.Test.YthkkefbhcmhijaaPq4
import Derived.Test.YthkkefbhcmhijaaRd
namespace Go.Proofs.Ythkkefbhcmhijaa
open Go.RowKit

set_option maxHeartbeats 400000 in
set_option maxRecDepth 100000 in
theorem snext_rd (x : Bool) (y : Int) (v : Value) (ls : List (Int × ByteArray)) (w : World) (hl : ls.length ≤ 1048576) (ha : LeafRd w v ls) :
    Calls Try.prog 29 #[.agg #[.bool x, .int .i64 y, v]] w fun e w' => e = .returned (.int .i64 (nextB ls : Nat)) ∧ Below w.heap.size w w' := by
  have ha1 := ha
  obtain ⟨ad, capa, rfl, -, -⟩ := ha1
  have HB := hide ((Below.refl w.heap.size w).alloc (Nat.le_refl _) (.cells #[.bool x, .int .i64 y, .slice ad ls.length capa] 33))
  have HA := hide (ha.below HB.out)
  clear ha
  go_enter Try.func29, Try.ntmps29
  go_wp2
  have hcb := cell_of_row _ _ 2 _ _ _ (heap_alloc_new w (.cells #[.bool x, .int .i64 y, .slice ad ls.length capa] 33))
  have HCB : Hid ((w.alloc (.cells #[.bool x, .int .i64 y, .slice ad ls.length capa] 33)).cell? ⟨w.heap.size, 2, none⟩ = some (.slice ad ls.length capa)) := hcb
  have HSZ := hide (show (w.alloc (.cells #[.bool x, .int .i64 y, .slice ad ls.length capa] 33)).heap.size = w.heap.size + 1 by simp)
  clear hcb
  generalize w.alloc (.cells #[.bool x, .int .i64 y, .slice ad ls.length capa] 33) = wA at HB HA HCB HSZ ⊢
  go_loopw [3] (fun iv wr => ∃ k : Nat, k ≤ ls.length ∧ iv = .int .i64 k ∧ Hid (∀ (j : Nat) (u : Int × ByteArray), j < k → ls[j]? = some u → u.1 ≠ 0) ∧ Hid (Below wA.heap.size wA wr)) (fun iv _ => ls.length - (intOf iv).toNat)
  case atStart => exact ⟨0, Nat.zero_le _, rfl, (show ∀ (j : Nat) (u : Int × ByteArray), j < 0 → ls[j]? = some u → u.1 ≠ 0 from fun j u hj => by omega), Below.refl _ _⟩
  case round =>
    obtain ⟨k, hk, rfl, HN, HW⟩ := hrel
    have hcb : wr.cell? ⟨w.heap.size, 2, none⟩ = some (.slice ad ls.length capa) := (HW.out.cell (show w.heap.size < wA.heap.size by have := HSZ.out; omega)).trans HCB.out
    have HBW := hide (HB.out.trans (HW.out.mono HB.out.size))
    by_cases hlt : (k : Int) < ls.length
    · obtain ⟨g, lo, el⟩ := HA.out.head (by omega)
      subst el
      have hkl : k < ls.length := by omega
      obtain ⟨z, t, ht⟩ : ∃ z t, ls[k]? = some (z, t) := ⟨ls[k].1, ls[k].2, List.getElem?_eq_getElem hkl⟩
      obtain ⟨c1, -⟩ := (HA.out.below HW.out).two ht
      simp only at c1
      have HTT := hide ht
      have k0 : (0 : Int) ≤ k := by omega
      clear ht
      by_cases hz : z = 0
      · subst hz
        have HE := hide (nextB_at HTT.out rfl HN.out)
        go_wp2
        go_ret
        exact ⟨by rw [HE.out]; rfl, HBW.out⟩
      · have hz2 : (z == 0) = false := by simpa using hz
        go_wp2
        go_roundw
        case rel =>
          refine ⟨k + 1, by omega, by go_num, hide (fun j u hj hu => ?_), HW⟩
          by_cases hjk : j = k
          · subst hjk
            rw [HTT.out] at hu
            cases hu
            exact hz
          · exact HN.out j u (by omega) hu
        case measure => simp [intOf]; omega
    · have hke : k = ls.length := by omega
      have HE := hide (nextB_none (ls := ls) (fun j u hu => HN.out j u (by have := (List.getElem?_eq_some_iff.1 hu).1; omega) hu))
      clear hke
      go_wp2
      go_ret
      exact ⟨by rw [HE.out]; rfl, HBW.out⟩
theorem snext_any (x : Bool) (y : Int) (v : Value) (ls : List (Int × ByteArray)) (B : Nat) (w : World) (hl : ls.length ≤ 1048576) (ha : w.ownsRow B 41 2 v ls.length (lcells ls)) :
    Calls Try.prog 29 #[.agg #[.bool x, .int .i64 y, v]] w fun e w' => e = .returned (.int .i64 (nextB ls : Nat)) ∧ Below w.heap.size w w' := snext_rd x y v ls w hl (LeafIn.rd (lo := B) (hi := w.heap.size) ⟨ha, fun g hg => (own_block_lt ha g hg).2⟩)
end Go.Proofs.Ythkkefbhcmhijaa
