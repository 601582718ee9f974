/-
  (*impl.Block).isRight.
-/
import Derived.Test.YthkkefbhcmhijaaPq4
import Derived.Test.YthkkefbhcmhijaaINext
import Derived.Test.YthkkefbhcmhijaaBkP
namespace Go.Proofs.Ythkkefbhcmhijaa
open Go.RowKit


set_option maxHeartbeats 400000 in
set_option maxRecDepth 100000 in
theorem iblk_any (g o : Nat) (x : Bool) (y : Int) (v : Value) (ls : List (Int × ByteArray)) (B : Nat) (w : World) (hl : ls.length ≤ 1048576) (hg : g < w.heap.size) (c1 : w.cell? ⟨g, o, none⟩ = some (.bool x)) (c2 : w.cell? ⟨g, o + 1, none⟩ = some (.int .i64 y)) (c3 : w.cell? ⟨g, o + 2, none⟩ = some v)
    (ha : w.ownsRow B 41 2 v ls.length (lcells ls)) :
    Calls Try.prog 25 #[.pointer (some ⟨g, o, none⟩)] w fun e w' => e = .returned (.bool (blkOk (x, y, ls))) ∧ Below w.heap.size w w' := by
  obtain ⟨ad, capa, rfl, a1, a2, a3⟩ := frow_form ha
  unfold maxLen at a2
  have A3 := hide a3
  have HA := hide ha
  clear a3 ha
  by_cases h4 : ls.length = 4
  · have h4b : ((ls.length : Int) != 4) = false := by rw [h4]; rfl
    have H4 := hide h4
    clear h4
    by_cases hy : 0 ≤ y ∧ y ≤ 1000000000
    · have HY := hide hy
      have y1 : decide (y < 0) = false := decide_eq_false (by omega)
      have y2 : decide (y > 1000000000) = false := decide_eq_false (by omega)
      have hy1 := hy.1
      have hy2 := hy.2
      clear hy
      go_enter Try.func25, Try.ntmps25
      go_wp2_with fail
      refine (inext_any x y _ ls B _ hl HA.out).mono ?_
      rintro e w1 ⟨rfl, hb1⟩
      have hc3 : w1.cell? ⟨g, o + 2, none⟩ = some (.slice ad ls.length capa) := (hb1.cell hg).trans c3
      have HA1 := hide (own_below HA.out hb1)
      have HB1 := hide hb1
      have hg1 : g < w1.heap.size := Nat.lt_of_lt_of_le hg hb1.size
      generalize hq : nextB ls = q
      have HQ := hide hq
      clear hb1 hq
      go_wp2
      go_loopw [35] (fun iv wr => ∃ k : Nat, k ≤ ls.length ∧ iv = .int .i64 k ∧ Hid (∀ (i : Nat) (t : Int × ByteArray), i < k → ls[i]? = some t → leafOk t = true ∧ (q < i → t.1 = 0)) ∧ wr = w1) (fun iv _ => ls.length - (intOf iv).toNat)
      case atStart => exact ⟨0, Nat.zero_le _, rfl, (show ∀ (i : Nat) (t : Int × ByteArray), i < 0 → ls[i]? = some t → leafOk t = true ∧ (q < i → t.1 = 0) from fun i t hi => by omega), rfl⟩
      case round =>
        obtain ⟨k, hk, rfl, HN, rfl⟩ := hrel
        by_cases hlt : (k : Int) < ls.length
        · obtain ⟨gl, rfl, _, hgl⟩ := A3.out (by omega)
          have hkl : k < ls.length := by omega
          obtain ⟨z, t, ht⟩ : ∃ z t, ls[k]? = some (z, t) := ⟨ls[k].1, ls[k].2, List.getElem?_eq_getElem hkl⟩
          obtain ⟨d1, d2⟩ := lown_cells HA1.out ht
          simp only at d1 d2
          have HT := hide ht
          have k0 : (0 : Int) ≤ k := by omega
          clear ht
          cases hlo : leafOk (z, t) with
          | false =>
            have HE : Hid (blkOk (x, y, ls) = false) := blkOk_no (b := (x, y, ls)) hkl (leafAt_no HT.out hlo)
            go_wp2_with fail
            refine (ileaf_any gl (k * 2) z t _ d1 d2).mono ?_
            rintro e w2 ⟨rfl, rfl⟩
            rw [hlo]
            go_wp2
            go_ret
            exact ⟨by rw [HE.out]; rfl, HB1.out⟩
          | true =>
            have HLO := hide hlo
            have HNX : (q < k → z = 0) → Hid (∀ (i : Nat) (t : Int × ByteArray), i < k + 1 → ls[i]? = some t → leafOk t = true ∧ (q < i → t.1 = 0)) := fun hq i u hi hu => by
              by_cases h1 : i = k
              · subst h1
                rw [HT.out] at hu
                cases hu
                exact ⟨HLO.out, hq⟩
              · exact HN.out i u (by omega) hu
            by_cases hqk : (q : Int) < k
            · by_cases hz : z = 0
              · have HN2 := HNX (fun _ => hz)
                have e1 : (z != 0) = false := by simp [hz]
                clear HNX hz
                go_wp2_with fail
                refine (ileaf_any gl (k * 2) z t _ d1 d2).mono ?_
                rintro e w2 ⟨rfl, rfl⟩
                rw [hlo]
                go_wp2
                go_roundw
                case rel => exact ⟨k + 1, by omega, by go_num, HN2, (by first | rfl | trivial)⟩
                case measure => simp [intOf]; omega
              · have HE : Hid (blkOk (x, y, ls) = false) := blkOk_behind (b := (x, y, ls)) H4.out HT.out (by have := HQ.out; simp only [this]; omega) hz
                have e1 : (z != 0) = true := by simp [hz]
                clear HNX hz
                go_wp2_with fail
                refine (ileaf_any gl (k * 2) z t _ d1 d2).mono ?_
                rintro e w2 ⟨rfl, rfl⟩
                rw [hlo]
                go_wp2
                go_ret
                exact ⟨by rw [HE.out]; rfl, HB1.out⟩
            · have HN2 := HNX (fun h => by omega)
              clear HNX
              go_wp2_with fail
              refine (ileaf_any gl (k * 2) z t _ d1 d2).mono ?_
              rintro e w2 ⟨rfl, rfl⟩
              rw [hlo]
              go_wp2
              go_roundw
              case rel => exact ⟨k + 1, by omega, by go_num, HN2, (by first | rfl | trivial)⟩
              case measure => simp [intOf]; omega
        · have hke : k = ls.length := by omega
          have HE : Hid (blkOk (x, y, ls) = true) := blkOk_each (b := (x, y, ls)) H4.out HY.out (fun i t hi => by
            have := HN.out i t (by have := (List.getElem?_eq_some_iff.1 hi).1; simp only at this; omega) hi
            exact ⟨this.1, fun h => this.2 (by rw [← HQ.out]; exact h)⟩)
          clear hke
          go_wp2
          go_ret
          exact ⟨by rw [HE.out]; rfl, HB1.out⟩
    · have HE : Hid (blkOk (x, y, ls) = false) := blkOk_wear hy
      by_cases hy0 : y < 0
      · go_enter Try.func25, Try.ntmps25
        go_wp2
        go_ret
        exact ⟨by rw [HE.out]; rfl, Below.refl _ _⟩
      · have hy1 : 1000000000 < y := by omega
        go_enter Try.func25, Try.ntmps25
        go_wp2
        go_ret
        exact ⟨by rw [HE.out]; rfl, Below.refl _ _⟩
  · have hl4b : ((ls.length : Int) != 4) = true := by simp; omega
    have HE : Hid (blkOk (x, y, ls) = false) := blkOk_len h4
    go_enter Try.func25, Try.ntmps25
    go_wp2
    go_ret
    exact ⟨by rw [HE.out]; rfl, Below.refl _ _⟩
end Go.Proofs.Ythkkefbhcmhijaa
