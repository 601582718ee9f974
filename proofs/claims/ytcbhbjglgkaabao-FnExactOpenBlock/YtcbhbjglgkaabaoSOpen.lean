/-
  spec.OpenBlock.
-/
import Derived.Test.YtcbhbjglgkaabaoRoMath
namespace Go.Proofs.Ytcbhbjglgkaabao
open Go.RowKit

set_option maxHeartbeats 400000 in
set_option maxRecDepth 100000 in
theorem sopen_any (v : Value) (rs : List Rw) (lo hi : Nat) (w : World) (hl : rs.length ≤ 1048576) (hll : ∀ r ∈ rs, r.2.2.2.length ≤ 1048576) (hh : hi ≤ w.heap.size) (ha : FlashIn w lo hi v rs) :
    Calls Try.prog 14 #[.agg #[v]] w fun e w' => e = .returned (.int .i64 (openF (rs.map tellOf))) ∧ Below w.heap.size w w' := by
  obtain ⟨vd, vcap, rfl, -, -, a3⟩ := frow_form ha.1
  have HLL := hide hll
  have A3 := hide a3
  obtain ⟨n, hn⟩ : ∃ n, rs.length = n := ⟨_, rfl⟩
  have HN := hide hn
  have HB := hide ((Below.refl w.heap.size w).alloc (Nat.le_refl _) (.cells #[.slice vd n vcap] 30))
  have HF2 := hide ha
  rw [hn] at hl HF2 ⊢
  have R0 := hide (heap_alloc_new w (.cells #[.slice vd n vcap] 30))
  have HH := hide hh
  clear ha hll a3 hn
  go_enter Try.func14, Try.ntmps14
  go_wp2
  have HF := hide (HF2.out.below HB.out HH.out)
  clear HF2
  generalize w.alloc (.cells #[.slice vd n vcap] 30) = wA at HB HF R0 ⊢
  have cf : wA.cell? ⟨w.heap.size, 0, none⟩ = some (.slice vd n vcap) := cell_of_row _ _ 0 _ _ _ R0.out
  go_loop [3] (fun bv => ∃ b : Nat, bv = .int .i64 b ∧ b ≤ n ∧ Hid (∀ (j : Nat) (c : Bk), j < b → (rs.map tellOf)[j]? = some c → openB c = false)) (fun bv => n - (intOf bv).toNat)
  case atStart => exact ⟨0, rfl, Nat.zero_le _, (show ∀ (j : Nat) (c : Bk), j < 0 → (rs.map tellOf)[j]? = some c → openB c = false from fun j c hj => by omega)⟩
  case round =>
    obtain ⟨b, rfl, r1, HNo⟩ := hrel
    by_cases hlt : (b : Int) < n
    · have hbl : b < rs.length := by have := HN.out; omega
      obtain ⟨r, hr⟩ : ∃ r, rs[b]? = some r := ⟨_, List.getElem?_eq_getElem hbl⟩
      obtain ⟨gv, e, -, -⟩ := A3.out (by omega)
      subst e
      have hrow := HF.out.1
      rw [HN.out] at hrow
      have hrc : (rs.map cellOf)[b]? = some (cellOf r) := by rw [List.getElem?_map, hr]; rfl
      have hrt : (rs.map tellOf)[b]? = some (tellOf r) := by rw [List.getElem?_map, hr]; rfl
      obtain ⟨c1, c2, c3⟩ := kown_cells hrow hrc
      have hlf := (HF.out.2.2.1 r (List.mem_of_getElem? hr)).1
      have hml := HLL.out r (List.mem_of_getElem? hr)
      obtain ⟨x, y, u, ls⟩ := r
      simp only [cellOf] at c1 c2 c3
      simp only at hlf hml
      have b0 : (0 : Int) ≤ b := by omega
      obtain ⟨ld, lc, rfl, -, -, l3⟩ := frow_form hlf
      have L3 := hide l3
      have HLf := hide hlf
      have HRT := hide hrt
      obtain ⟨m, hm⟩ : ∃ m, ls.length = m := ⟨_, rfl⟩
      have HM := hide hm
      rw [hm] at c3 hml
      clear hrow hrc hrt hlf hr hbl l3 hm
      go_wp2
      go_loop [4, 5, 6] (fun nv mv kv => ∃ (k p q : Nat), kv = .int .i64 k ∧ k ≤ m ∧ nv = .int .i64 p ∧ mv = .int .i64 q ∧ p ≤ k ∧ q ≤ k ∧ Hid (blanks (ls.take k) = p ∧ p + q = k)) (fun _ _ kv => m - (intOf kv).toNat)
      case atStart => exact ⟨0, 0, 0, rfl, Nat.zero_le _, rfl, rfl, Nat.le_refl _, Nat.le_refl _, ⟨rfl, rfl⟩⟩
      case round =>
        obtain ⟨k, p, q, rfl, hk, rfl, rfl, hp, hq, HA⟩ := hrel
        by_cases hlk : (k : Int) < m
        · have hkl : k < ls.length := by have := HM.out; omega
          obtain ⟨z, t, ht⟩ : ∃ z t, ls[k]? = some (z, t) := ⟨ls[k].1, ls[k].2, List.getElem?_eq_getElem hkl⟩
          obtain ⟨gl, e, _, hg⟩ := L3.out (by have := HM.out; omega)
          subst e
          obtain ⟨d1, -⟩ := lown_cells HLf.out ht
          simp only at d1
          have k0 : (0 : Int) ≤ k := by omega
          have hbt := blanks_take ht
          simp only at hbt
          by_cases hz : z = 0
          · have AN : Hid (blanks (ls.take (k + 1)) = p + 1 ∧ p + 1 + q = k + 1) := by
              rw [if_pos hz, HA.out.1] at hbt
              exact ⟨hbt, by have := HA.out.2; omega⟩
            subst hz
            clear ht hkl HA hbt
            go_wp2
            go_round
            case rel => exact ⟨k + 1, p + 1, q, by go_num, by omega, by go_num, rfl, by omega, by omega, AN⟩
            case measure => simp [intOf]; omega
          · have AN : Hid (blanks (ls.take (k + 1)) = p ∧ p + (q + 1) = k + 1) := by
              rw [if_neg hz, HA.out.1] at hbt
              exact ⟨hbt, by have := HA.out.2; omega⟩
            have hz2 : (z == 0) = false := by simpa using hz
            clear ht hkl HA hbt
            go_wp2
            go_round
            case rel => exact ⟨k + 1, p, q + 1, by go_num, by omega, rfl, by go_num, by omega, by omega, AN⟩
            case measure => simp [intOf]; omega
        · have hkm : k = ls.length := by have := HM.out; omega
          have hbl : blanks ls = p := by rw [← HA.out.1, hkm, List.take_of_length_le (Nat.le_refl _)]
          have hop : openB (x, y, ls) = (!x && decide (0 < p ∧ 0 < q)) := by
            unfold openB
            simp only [hbl]
            congr 2
            apply propext
            have := HA.out.2
            omega
          have HNext : openB (x, y, ls) = false → Hid (∀ (j : Nat) (c : Bk), j < b + 1 → (rs.map tellOf)[j]? = some c → openB c = false) := by
            intro hf j c hj hc
            by_cases e : j = b
            · subst e
              rw [HRT.out] at hc
              cases hc
              exact hf
            · exact HNo.out j c (by omega) hc
          clear hkm hbl
          cases x with
          | true =>
            have NL := HNext (by rw [hop]; rfl)
            clear hop HNext HA
            go_wp2
            go_round
            case rel => exact ⟨b + 1, by go_num, by omega, NL⟩
            case measure => simp [intOf]; omega
          | false =>
            by_cases hp0 : (0 : Int) < p
            · by_cases hq0 : (0 : Int) < q
              · have PF : Hid (openF (rs.map tellOf) = b) := openF_at HRT.out (show openB (false, y, ls) = true by rw [hop]; simp; omega) HNo.out
                clear hop HNext HA
                go_wp2
                go_ret
                exact ⟨by rw [PF.out]; rfl, HB.out⟩
              · have NL := HNext (by rw [hop]; simp; omega)
                clear hop HNext HA
                go_wp2
                go_round
                case rel => exact ⟨b + 1, by go_num, by omega, NL⟩
                case measure => simp [intOf]; omega
            · have NL := HNext (by rw [hop]; simp; omega)
              clear hop HNext HA
              go_wp2
              go_round
              case rel => exact ⟨b + 1, by go_num, by omega, NL⟩
              case measure => simp [intOf]; omega
    · have PF : Hid (openF (rs.map tellOf) = -1) := openF_none (fun j c hc => HNo.out j c (by have := (List.getElem?_eq_some_iff.1 hc).1; rw [List.length_map] at this; have := HN.out; omega) hc)
      clear HNo
      go_wp2
      go_ret
      exact ⟨by rw [PF.out]; rfl, HB.out⟩
end Go.Proofs.Ytcbhbjglgkaabao
