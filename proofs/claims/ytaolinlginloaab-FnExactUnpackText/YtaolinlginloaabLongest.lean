/-
  The walk of the program's longest match.
-/
import Derived.Test.YtaolinlginloaabIMatch
import Derived.Test.YtaolinlginloaabLMath
import Derived.Test.YtaolinlginloaabNote
namespace Go.Proofs.Ytaolinlginloaab
open Go.RowKit
open Pack

theorem placesI_at (s q : List UInt8) (m j p : Nat) (L : List Nat) (h : (placesN s q m).take (j + 1) = L ++ [p]) (hL : L.length = j) : (placesI s q m)[j]? = some (p : Int) := by
  have h1 : (placesN s q m)[j]? = some p := by
    have e1 : ((placesN s q m).take (j + 1))[j]? = some p := by rw [h, ← hL]; simp
    rwa [List.getElem?_take_of_lt (by omega)] at e1
  simp [placesI, h1]

theorem ints_slice {w : World} {base : Nat} {v : Value} {zs : List Int} (h : w.ownsInts base 3 .i64 v zs) : ∃ (ao : Option Addr) (n cap : Nat), v = .slice ao n cap ∧ n = zs.length ∧
    (0 < n → ∃ g, ao = some ⟨g, 0, none⟩ ∧ g < w.heap.size ∧ ∀ (j : Nat) (p : Int), zs[j]? = some p → w.cell? ⟨g, j, none⟩ = some (.int .i64 p)) := by
  have hlt := h.1.lt
  have hc := h.1
  rcases h.1.2 with ⟨rfl, h0⟩ | ⟨g, cap, cur, rfl, hb, hg, hn, hcap, hcs, htake⟩
  · exact ⟨none, 0, 0, rfl, h0.symm, fun h => by omega⟩
  · refine ⟨_, _, _, rfl, rfl, fun _ => ⟨g, rfl, (hlt g rfl).2, fun j p hj => ?_⟩⟩
    have := hc.cells (g := g) rfl j (.int .i64 p) (by simp [hj])
    rwa [addr_at] at this

set_option maxHeartbeats 400000 in
set_option maxRecDepth 100000 in
theorem longest_any (s : ByteArray) (b base k : Nat) (w : World) (No : Nat → Prop) (hs : s.size ≤ 64) (hk : k ≤ s.size) (hp : PMapAt w base b k s.data.toList No) :
    Calls Try.prog 35 #[.map (some b), .string s, .int .i64 k] w fun e w' => e = .returned (.tuple #[.int .i64 ((best s.data.toList k k).2 : Nat), .int .i64 ((best s.data.toList k k).1 : Nat)]) ∧ Below w.heap.size w w' := by
  have hl : s.data.toList.length = s.size := by simp
  have HP := hide hp
  clear hp
  go_enter Try.func35, Try.ntmps35
  go_wp2_with fail
  refine (start_any s k _ hs (by omega)).mono ?_
  rintro e w5 ⟨rfl, hb5⟩
  have HM5 := hide (pmap_kept HP.out (grown_old hb5 none) (fun j hj => by cases hj))
  have HB5 := hide hb5
  have hsz5 := hb5.size
  clear hb5 HP
  have hv := hide (bytes_made w5 [0, 0, 0, 0] #[Value.int .u8 0, Value.int .u8 0, Value.int .u8 0, Value.int .u8 0] 65 rfl)
  by_cases h4 : k + 4 ≤ s.size
  · rw [decide_eq_true h4]
    go_wp2_with (first
      | (refine wpList_store_key rfl _ _ rfl w5.heap.size _ [0, 0, 0, 0] rfl rfl hv.out (fourAt_len _ _) rfl ?_
         intro w6 hw6
         obtain ⟨hy6, hm6, hb6, hsz6⟩ := note_prep (fourAt_len _ _) HM5.out hw6
         have HY := hide hy6
         have HM6 := hide hm6
         have HB6 := hide (HB5.out.trans (hb6.mono hsz5))
         obtain ⟨v, hlook, hoi⟩ := pmap_look hm6 (by omega) (fourAt s.data.toList k) (fourAt_len _ _)
         have HOI := hide hoi
         have hlk := hlook false rfl
         obtain ⟨ao, n, cap, rfl, hn, hao⟩ := ints_slice hoi
         have hn64 : n ≤ 64 := by have := places_len s.data.toList (fourAt s.data.toList k) k; omega
         have HN := hide hn
         have HA := hide hao
         clear hn hao
         have hge : w.heap.size ≤ w6.heap.size := by omega
         clear hw6 hy6 hm6 hb6 hsz6 hoi hlook HM5 HB5)
      | refine wpList_load_key rfl _ rfl _ rfl _ HY.out (fourAt_len _ _) ?_
      | go_in)
    have hN2 : n = (placesN s.data.toList (fourAt s.data.toList k) k).length := by rw [HN.out]; simp [placesI]
    have HN2 := hide hN2
    clear hN2 HN hlk HM6 HY hv
    go_loopw [10, 11, 13] (fun bv zv iv wr => ∃ (c j b1 b2 : Nat), c ≤ k ∧ j ≤ n ∧ iv = .int .i64 ((j : Int) - 1) ∧ bv = .int .i64 b2 ∧ zv = .int .i64 b1 ∧ b1 ≤ 31 ∧ b2 ≤ 64 ∧ Hid (best s.data.toList k c = (b1, b2)) ∧ Hid (placesN s.data.toList (fourAt s.data.toList k) (k - c) = (placesN s.data.toList (fourAt s.data.toList k) k).take j) ∧ Hid (Below w6.heap.size w6 wr)) (fun _ _ iv _ => (intOf iv + 1).toNat)
    case atStart => exact ⟨0, n, 0, 0, by omega, Nat.le_refl _, by go_num, rfl, rfl, by omega, by omega, rfl, (by show _ = _; rw [Nat.sub_zero, HN2.out, List.take_length]), Below.refl _ _⟩
    case round =>
      obtain ⟨c, j, b1, b2, hc, hj, rfl, rfl, rfl, hb1, hb2, HB, HL, HW⟩ := hrel
      cases j with
      | zero =>
        have hlast := best_last s.data.toList k c hc (by rw [hl]; exact h4) (by rw [HL.out]; rfl)
        have HX : Hid (best s.data.toList k k = (b1, b2)) := by show _ = _; rw [hlast, HB.out]
        have hneg : ¬ (0 : Int) ≤ ((0 : Nat) : Int) - 1 := by omega
        clear hlast HB HL
        go_wp2
        exact bodyPost_ret (results_tmp2 rfl _ _ _) rfl ⟨by rw [HX.out]; rfl, HB6.out.trans (HW.out.mono hge)⟩
      | succ j =>
        have ej : (((j + 1 : Nat) : Int) - 1) = (j : Int) := by omega
        rw [ej]
        rcases List.eq_nil_or_concat (placesN s.data.toList (fourAt s.data.toList k) (k - c)) with h0 | ⟨L, p, h0⟩
        · exfalso
          have := congrArg List.length HL.out
          rw [h0, List.length_take] at this
          have := HN2.out
          simp at *
          omega
        · rw [List.concat_eq_append] at h0
          have hLl : L.length = j := by
            have e1 := congrArg List.length HL.out
            rw [h0, List.length_take, List.length_append] at e1
            have := HN2.out
            simp at e1
            omega
          obtain ⟨q1, q2, q3, q4, q5⟩ := best_place s.data.toList k c p L hc (by rw [hl]; exact h4) h0
          have hat := placesI_at s.data.toList (fourAt s.data.toList k) k j p L (by rw [← HL.out, h0]) hLl
          obtain ⟨g, rfl, hgl, hcell⟩ := HA.out (by omega)
          have hc1 : wr.cell? ⟨g, j, none⟩ = some (.int .i64 (p : Int)) := by
            rw [HW.out.cell (show g < w6.heap.size from hgl)]
            exact hcell j _ hat
          have HL2 : Hid (placesN s.data.toList (fourAt s.data.toList k) (k - (k - p)) = (placesN s.data.toList (fourAt s.data.toList k) k).take j) := by
            show _ = _
            rw [show k - (k - p) = p by omega, q2]
            have e1 := HL.out
            rw [h0] at e1
            have e2 := congrArg (List.take j) e1
            rw [List.take_take, List.take_append_of_le_length (by omega), ← hLl, List.take_length] at e2
            rw [e2, hLl]
            congr 1
            omega
          have hpk : p < k := by omega
          have hb1e : (best s.data.toList k c).1 = b1 := by rw [HB.out]
          rw [hb1e] at q4 q5
          have HQ := hide (⟨q4, q5⟩ : _ ∧ _)
          have HBc := hide HB.out
          have hj0 : (0 : Int) ≤ j := by omega
          have hjn : (j : Int) < n := by omega
          have hm31 := (mlen_le 31 (s.data.toList.drop p) (s.data.toList.drop k)).1
          clear h0 q2 q3 q4 q5 hat hcell HL hLl hb1e q1 ej
          go_wp2_with fail
          refine (imatch_any s p k _ hs hpk hk).mono ?_
          rintro e w7 ⟨rfl, hb7⟩
          have hc7 : w7.cell? ⟨g, j, none⟩ = some (.int .i64 (p : Int)) := by
            rw [hb7.cell (show g < wr.heap.size from Nat.lt_of_lt_of_le hgl HW.out.size)]
            exact hc1
          have HW7 := hide (HW.out.trans (hb7.mono HW.out.size))
          obtain ⟨m, hm⟩ : ∃ m, mlen 31 (s.data.toList.drop p) (s.data.toList.drop k) = m := ⟨_, rfl⟩
          rw [hm] at hm31 HQ ⊢
          clear hm hb7 HW hc1
          by_cases hgt : (b1 : Int) < m
          · have HB2 := hide (HQ.out.1 (by omega))
            clear HQ HBc HB
            go_wp2
            go_roundw
            case rel => exact ⟨k - p, j, m, k - p, by omega, by omega, by go_num, by go_num, rfl, by omega, by omega, HB2, HL2, HW7⟩
            case measure => simp [intOf]
          · have HB2 : Hid (best s.data.toList k (k - p) = (b1, b2)) := by
              show _ = _
              rw [HQ.out.2 (by omega), HBc.out]
            clear HQ HBc HB
            go_wp2
            go_roundw
            case rel => exact ⟨k - p, j, b1, b2, by omega, by omega, by go_num, rfl, rfl, hb1, hb2, HB2, HL2, HW7⟩
            case measure => simp [intOf]
  · rw [decide_eq_false h4]
    have HX := hide (best_short s.data.toList k (by rw [hl]; exact h4))
    go_wp2_with (first
      | (refine wpList_store_key rfl _ _ rfl w5.heap.size _ [0, 0, 0, 0] rfl rfl hv.out (fourAt_len _ _) rfl ?_
         intro w6 hw6
         obtain ⟨-, -, hb6, hsz6⟩ := note_prep (fourAt_len _ _) HM5.out hw6
         have HB6 := hide (HB5.out.trans (hb6.mono hsz5))
         clear hw6 hb6 HM5)
      | go_in)
    exact bodyPost_ret (results_tmp2 rfl _ _ _) rfl ⟨by rw [HX.out]; rfl, HB6.out⟩
end Go.Proofs.Ytaolinlginloaab
