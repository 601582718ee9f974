/-
  The laws' own szFoundS and toFoundS.
-/
import Derived.Test.YtmpmdacfibgepagPk31
import Derived.Test.YtmpmdacfibgepagPk3
import Derived.Deep.RegionHeld3
namespace Go.Proofs.Ytmpmdacfibgepag
open Go.RowKit
open Words

set_option maxHeartbeats 400000 in
set_option maxRecDepth 100000 in
theorem szPg_any (x0 : Int) (x1 : Int) (x2 : Int) (x3 : Int) (x4 : Int) (x5 : ByteArray) (z : Nat) (w : World) (ht : x5.size ≤ maxLen) (hz : z ≤ 1048576) :
    Calls Try.prog 77 #[.agg #[.int .i64 x0, .int .i64 x1, .int .i64 x2, .int .i64 x3, .int .i64 x4, .string x5], .int .i64 z] w fun e w' => (∃ r : Int, e = .returned (.int .i64 r) ∧ -1 ≤ r ∧ r ≤ z ∧ (0 ≤ r → r + (x5.size : Int) ≤ z)) ∧ Below w.heap.size w w' := by
  unfold maxLen at ht
  have hw : IntKind.i64.wrap ((z : Int) - x5.size) = (z : Int) - x5.size := by rw [IntKind.wrap_i64]; omega
  by_cases h : (z : Int) - x5.size < 0
  · go_enter Try.func77, Try.ntmps77
    go_wp2
    go_ret
    exact ⟨⟨_, rfl, by omega, by omega, by omega⟩, (Below.refl _ _).alloc (Nat.le_refl _) _⟩
  · go_enter Try.func77, Try.ntmps77
    go_wp2
    go_ret
    exact ⟨⟨_, rfl, by omega, by omega, by omega⟩, (Below.refl _ _).alloc (Nat.le_refl _) _⟩
set_option maxHeartbeats 1000000 in
set_option maxRecDepth 100000 in
theorem toFd_any (x0 : Int) (x1 : Int) (x2 : Int) (x3 : Int) (x4 : Int) (x5 : Int) (x6 : Int) (x7 : ByteArray) (w : World) :
    Calls Try.prog 57 #[.agg #[.int .i64 x0, .int .i64 x1, .int .i64 x2, .int .i64 x3, .int .i64 x4, .int .i64 x5, .int .i64 x6, .string x7]] w fun e w' => e = .returned (.agg #[.int .i64 x0, .int .i64 x1, .int .i64 x2, .int .i64 x3, .int .i64 x4, .int .i64 x5, .int .i64 x6, .string x7]) ∧ Below w.heap.size w w' := by
  have C := hide (fun w => toPage_any ⟨x2, x3, x4, x5, x6, x7⟩ w)
  unfold pgVal at C
  simp only at C
  have za : (w.alloc (.cells #[.int .i64 x0, .int .i64 x1, .int .i64 x2, .int .i64 x3, .int .i64 x4, .int .i64 x5, .int .i64 x6, .string x7] 91)).heap.size = w.heap.size + 1 := by simp
  have zb : ((w.alloc (.cells #[.int .i64 x0, .int .i64 x1, .int .i64 x2, .int .i64 x3, .int .i64 x4, .int .i64 x5, .int .i64 x6, .string x7] 91)).alloc (.cells #[.int .i64 0, .int .i64 0, .int .i64 0, .int .i64 0, .int .i64 0, .int .i64 0, .int .i64 0, .string ⟨#[]⟩] 94)).heap.size = w.heap.size + 1 + 1 := by simp
  have R0 := hide (heap_alloc_new (w.alloc (.cells #[.int .i64 x0, .int .i64 x1, .int .i64 x2, .int .i64 x3, .int .i64 x4, .int .i64 x5, .int .i64 x6, .string x7] 91)) (.cells #[.int .i64 0, .int .i64 0, .int .i64 0, .int .i64 0, .int .i64 0, .int .i64 0, .int .i64 0, .string ⟨#[]⟩] 94))
  have O0 := hide (heap_alloc_new ((w.alloc (.cells #[.int .i64 x0, .int .i64 x1, .int .i64 x2, .int .i64 x3, .int .i64 x4, .int .i64 x5, .int .i64 x6, .string x7] 91)).alloc (.cells #[.int .i64 0, .int .i64 0, .int .i64 0, .int .i64 0, .int .i64 0, .int .i64 0, .int .i64 0, .string ⟨#[]⟩] 94)) (.cells #[.int .i64 x0, .int .i64 x1, .int .i64 0, .int .i64 0, .int .i64 0, .int .i64 0, .int .i64 0, .string ⟨#[]⟩] 94))
  rw [za] at R0
  rw [zb] at O0
  have R1 := hide ((Below.heap_alloc ((w.alloc (.cells #[.int .i64 x0, .int .i64 x1, .int .i64 x2, .int .i64 x3, .int .i64 x4, .int .i64 x5, .int .i64 x6, .string x7] 91)).alloc (.cells #[.int .i64 0, .int .i64 0, .int .i64 0, .int .i64 0, .int .i64 0, .int .i64 0, .int .i64 0, .string ⟨#[]⟩] 94)) (.cells #[.int .i64 x0, .int .i64 x1, .int .i64 0, .int .i64 0, .int .i64 0, .int .i64 0, .int .i64 0, .string ⟨#[]⟩] 94) (w.heap.size + 1) (by simp)).trans R0.out)
  have B0 : Hid (Below w.heap.size w (((w.alloc (.cells #[.int .i64 x0, .int .i64 x1, .int .i64 x2, .int .i64 x3, .int .i64 x4, .int .i64 x5, .int .i64 x6, .string x7] 91)).alloc (.cells #[.int .i64 0, .int .i64 0, .int .i64 0, .int .i64 0, .int .i64 0, .int .i64 0, .int .i64 0, .string ⟨#[]⟩] 94)).alloc (.cells #[.int .i64 x0, .int .i64 x1, .int .i64 0, .int .i64 0, .int .i64 0, .int .i64 0, .int .i64 0, .string ⟨#[]⟩] 94))) := (((Below.refl _ _).alloc (Nat.le_refl _) _).alloc (by simp) _).alloc (by simp; omega) _
  clear za zb R0
  go_enter Try.func57, Try.ntmps57
  go_wp2_with fail
  generalize ((w.alloc (.cells #[.int .i64 x0, .int .i64 x1, .int .i64 x2, .int .i64 x3, .int .i64 x4, .int .i64 x5, .int .i64 x6, .string x7] 91)).alloc (.cells #[.int .i64 0, .int .i64 0, .int .i64 0, .int .i64 0, .int .i64 0, .int .i64 0, .int .i64 0, .string ⟨#[]⟩] 94)).alloc (.cells #[.int .i64 x0, .int .i64 x1, .int .i64 0, .int .i64 0, .int .i64 0, .int .i64 0, .int .i64 0, .string ⟨#[]⟩] 94) = wx at R1 O0 B0 ⊢
  refine (C.out _).mono ?_
  rintro e w1 ⟨rfl, b1⟩
  have R := hide ((b1.block _ (Array.getElem?_eq_some_iff.1 R1.out).1).trans R1.out)
  have O := hide ((b1.block _ (Array.getElem?_eq_some_iff.1 O0.out).1).trans O0.out)
  have B1 := hide (B0.out.trans (b1.mono B0.out.size))
  clear b1 R1 O0 B0 C
  have r0 := cell_of_row _ _ 0 _ _ _ R.out
  have r1 := cell_of_row _ _ 1 _ _ _ R.out
  have r2 := cell_of_row _ _ 2 _ _ _ R.out
  have r3 := cell_of_row _ _ 3 _ _ _ R.out
  have r4 := cell_of_row _ _ 4 _ _ _ R.out
  have r5 := cell_of_row _ _ 5 _ _ _ R.out
  have r6 := cell_of_row _ _ 6 _ _ _ R.out
  have r7 := cell_of_row _ _ 7 _ _ _ R.out
  have o0 := cell_of_row _ _ 0 _ _ _ O.out
  have o1 := cell_of_row _ _ 1 _ _ _ O.out
  have o2 := cell_of_row _ _ 2 _ _ _ O.out
  have o3 := cell_of_row _ _ 3 _ _ _ O.out
  have o4 := cell_of_row _ _ 4 _ _ _ O.out
  have o5 := cell_of_row _ _ 5 _ _ _ O.out
  have o6 := cell_of_row _ _ 6 _ _ _ O.out
  have o7 := cell_of_row _ _ 7 _ _ _ O.out
  have f0 := frozen_of_row _ _ 0 _ _ R.out
  have f1 := frozen_of_row _ _ 1 _ _ R.out
  have f2 := frozen_of_row _ _ 2 _ _ R.out
  have f3 := frozen_of_row _ _ 3 _ _ R.out
  have f4 := frozen_of_row _ _ 4 _ _ R.out
  have f5 := frozen_of_row _ _ 5 _ _ R.out
  have f6 := frozen_of_row _ _ 6 _ _ R.out
  have f7 := frozen_of_row _ _ 7 _ _ R.out
  have g0 := frozen_of_row _ _ 0 _ _ O.out
  have g1 := frozen_of_row _ _ 1 _ _ O.out
  have g2 := frozen_of_row _ _ 2 _ _ O.out
  have g3 := frozen_of_row _ _ 3 _ _ O.out
  have g4 := frozen_of_row _ _ 4 _ _ O.out
  have g5 := frozen_of_row _ _ 5 _ _ O.out
  have g6 := frozen_of_row _ _ 6 _ _ O.out
  have g7 := frozen_of_row _ _ 7 _ _ O.out
  go_wp2
  exact bodyPost_ret (results_cell_row rfl _ _ (w.heap.size + 1) 94 _ (0, 0) _ rfl (row_set (row_set (row_set (row_set (row_set (row_set (row_set (row_set (row_set_ne (row_set_ne (row_set_ne (row_set_ne (row_set_ne (row_set_ne R.out (by omega) 2 (.int .i64 x2)) (by omega) 3 (.int .i64 x3)) (by omega) 4 (.int .i64 x4)) (by omega) 5 (.int .i64 x5)) (by omega) 6 (.int .i64 x6)) (by omega) 7 (.string x7)) 0 (.int .i64 x0)) 1 (.int .i64 x1)) 2 (.int .i64 x2)) 3 (.int .i64 x3)) 4 (.int .i64 x4)) 5 (.int .i64 x5)) 6 (.int .i64 x6)) 7 (.string x7)) Try.underlying94 rfl infoFdz) rfl ⟨rfl, ((((((((((((((B1.out.setCell (p := ⟨w.heap.size + 1 + 1, 2, none⟩) (by show w.heap.size ≤ w.heap.size + 1 + 1; omega) (.int .i64 x2)).setCell (p := ⟨w.heap.size + 1 + 1, 3, none⟩) (by show w.heap.size ≤ w.heap.size + 1 + 1; omega) (.int .i64 x3)).setCell (p := ⟨w.heap.size + 1 + 1, 4, none⟩) (by show w.heap.size ≤ w.heap.size + 1 + 1; omega) (.int .i64 x4)).setCell (p := ⟨w.heap.size + 1 + 1, 5, none⟩) (by show w.heap.size ≤ w.heap.size + 1 + 1; omega) (.int .i64 x5)).setCell (p := ⟨w.heap.size + 1 + 1, 6, none⟩) (by show w.heap.size ≤ w.heap.size + 1 + 1; omega) (.int .i64 x6)).setCell (p := ⟨w.heap.size + 1 + 1, 7, none⟩) (by show w.heap.size ≤ w.heap.size + 1 + 1; omega) (.string x7)).setCell (p := ⟨w.heap.size + 1, 0, none⟩) (by show w.heap.size ≤ w.heap.size + 1; omega) (.int .i64 x0)).setCell (p := ⟨w.heap.size + 1, 1, none⟩) (by show w.heap.size ≤ w.heap.size + 1; omega) (.int .i64 x1)).setCell (p := ⟨w.heap.size + 1, 2, none⟩) (by show w.heap.size ≤ w.heap.size + 1; omega) (.int .i64 x2)).setCell (p := ⟨w.heap.size + 1, 3, none⟩) (by show w.heap.size ≤ w.heap.size + 1; omega) (.int .i64 x3)).setCell (p := ⟨w.heap.size + 1, 4, none⟩) (by show w.heap.size ≤ w.heap.size + 1; omega) (.int .i64 x4)).setCell (p := ⟨w.heap.size + 1, 5, none⟩) (by show w.heap.size ≤ w.heap.size + 1; omega) (.int .i64 x5)).setCell (p := ⟨w.heap.size + 1, 6, none⟩) (by show w.heap.size ≤ w.heap.size + 1; omega) (.int .i64 x6)).setCell (p := ⟨w.heap.size + 1, 7, none⟩) (by show w.heap.size ≤ w.heap.size + 1; omega) (.string x7))⟩
set_option maxHeartbeats 400000 in
set_option maxRecDepth 100000 in
theorem szFd_any (x0 : Int) (x1 : Int) (x2 : Int) (x3 : Int) (x4 : Int) (x5 : Int) (x6 : Int) (x7 : ByteArray) (z : Nat) (w : World) (ht : x7.size ≤ maxLen) (hz : z ≤ 1048576) :
    Calls Try.prog 55 #[.agg #[.int .i64 x0, .int .i64 x1, .int .i64 x2, .int .i64 x3, .int .i64 x4, .int .i64 x5, .int .i64 x6, .string x7], .int .i64 z] w fun e w' => (∃ r : Int, e = .returned (.int .i64 r) ∧ -1 ≤ r ∧ r ≤ z ∧ (0 ≤ r → r + (x7.size : Int) ≤ z)) ∧ Below w.heap.size w w' := by
  have HB := hide ((Below.refl w.heap.size w).alloc (Nat.le_refl _) (.cells #[.int .i64 x0, .int .i64 x1, .int .i64 x2, .int .i64 x3, .int .i64 x4, .int .i64 x5, .int .i64 x6, .string x7] 91))
  go_enter Try.func55, Try.ntmps55
  go_wp2_with fail
  refine (szPg_any x2 x3 x4 x5 x6 x7 z _ ht hz).mono ?_
  rintro e w1 ⟨⟨r, rfl, r1, r2, r3⟩, b1⟩
  have B1 := hide (HB.out.trans (b1.mono HB.out.size))
  have R3 := hide r3
  clear b1 HB r3
  by_cases hr : r < 0
  · go_wp2
    go_ret
    exact ⟨⟨_, rfl, by omega, by omega, by omega⟩, B1.out⟩
  · go_wp2
    go_ret
    exact ⟨⟨_, rfl, by omega, by omega, R3.out⟩, B1.out⟩
/-- How much elements hold: one each, and their texts. -/
def fdsum (l : List (Int × Int × Int × Int × Int × Int × Int × ByteArray)) : Nat := (l.map (fun t => t.2.2.2.2.2.2.2.size)).sum
theorem fdsum_succ {l : List (Int × Int × Int × Int × Int × Int × Int × ByteArray)} {k : Nat} {t : Int × Int × Int × Int × Int × Int × Int × ByteArray} (h : l[k]? = some t) : fdsum (l.take (k + 1)) = fdsum (l.take k) + (t.2.2.2.2.2.2.2.size) := by
  obtain ⟨h1, rfl⟩ := List.getElem?_eq_some_iff.1 h
  unfold fdsum
  rw [List.take_succ_eq_append_getElem h1, List.map_append, List.sum_append]
  simp
theorem fdsum_mem {l : List (Int × Int × Int × Int × Int × Int × Int × ByteArray)} {t : Int × Int × Int × Int × Int × Int × Int × ByteArray} (h : t ∈ l) : t.2.2.2.2.2.2.2.size ≤ fdsum l := by
  unfold fdsum
  induction l with
  | nil => cases h
  | cons a l ih =>
    simp only [List.map_cons, List.sum_cons]
    rcases List.mem_cons.1 h with rfl | h
    · omega
    · have := ih h
      omega
set_option maxHeartbeats 400000 in
set_option maxRecDepth 100000 in
theorem szFds_any (a : Option Addr) (len cap : Nat) (ls : List (Int × Int × Int × Int × Int × Int × Int × ByteArray)) (z0 : Nat) (w : World) (hz0 : z0 ≤ 1048576) (h : FdRow w a len ls) :
    Calls Try.prog 24 #[.slice a len cap, .int .i64 z0] w fun e w' => (∃ r : Int, e = .returned (.int .i64 r) ∧ -1 ≤ r ∧ r ≤ z0 ∧ (0 ≤ r → r + len + fdsum ls ≤ z0)) ∧ Below w.heap.size w w' := by
  obtain ⟨h1, h2, h3, h4⟩ := h
  unfold maxLen at h2
  have H3 := hide h3
  have H4 := hide h4
  have H1 := hide h1
  clear h3 h4 h1
  have hw : IntKind.i64.wrap ((z0 : Int) - len) = (z0 : Int) - len := by rw [IntKind.wrap_i64]; omega
  by_cases hlt : (z0 : Int) - len < 0
  · go_enter Try.func24, Try.ntmps24
    go_wp2
    go_ret
    exact ⟨⟨_, rfl, by omega, by omega, fun h => by omega⟩, Below.refl _ _⟩
  · go_enter Try.func24, Try.ntmps24
    go_wp2
    go_loopw [1, 5] (fun lv iv wr => ∃ (k z : Nat), k ≤ len ∧ z + len ≤ z0 ∧ iv = .int .i64 k ∧ lv = .int .i64 z ∧ Hid (z + len + fdsum (ls.take k) ≤ z0) ∧ Hid (Below w.heap.size w wr)) (fun _ iv _ => len - (intOf iv).toNat)
    case atStart => exact ⟨0, z0 - len, Nat.zero_le _, by omega, rfl, by congr 1; omega, (by show _ ≤ _; simp only [List.take_zero, fdsum, List.map_nil, List.sum_nil]; omega), Below.refl _ _⟩
    case round =>
      obtain ⟨k, z, hk, hz, rfl, rfl, HX, HW⟩ := hrel
      have hsz := HW.out.size
      by_cases hkl : (k : Int) < len
      · obtain ⟨b, off, rfl, hb, hc⟩ := H4.out (by omega)
        have hl1 := H1.out
        have hkl2 : k < ls.length := by omega
        obtain ⟨x0, x1, x2, x3, x4, x5, x6, x7, ht⟩ : ∃ x0 x1 x2 x3 x4 x5 x6 x7, ls[k]? = some (x0, x1, x2, x3, x4, x5, x6, x7) := ⟨ls[k].1, ls[k].2.1, ls[k].2.2.1, ls[k].2.2.2.1, ls[k].2.2.2.2.1, ls[k].2.2.2.2.2.1, ls[k].2.2.2.2.2.2.1, ls[k].2.2.2.2.2.2.2, List.getElem?_eq_getElem hkl2⟩
        have hts := H3.out (x0, x1, x2, x3, x4, x5, x6, x7) (List.mem_of_getElem? ht)
        obtain ⟨c0, c1, c2, c3, c4, c5, c6, c7⟩ := hc k (x0, x1, x2, x3, x4, x5, x6, x7) ht
        rw [← HW.out.cell (show b < w.heap.size from hb)] at c0 c1 c2 c3 c4 c5 c6 c7
        simp only at c0 c1 c2 c3 c4 c5 c6 c7 hts
        have k0 : (0 : Int) ≤ k := by omega
        have HS := hide (fdsum_succ ht)
        clear ht hc hl1 hkl2
        go_wp2_with fail
        refine (szFd_any x0 x1 x2 x3 x4 x5 x6 x7 z _ hts (by omega)).mono ?_
        rintro e w1 ⟨⟨r, rfl, r1, r2, r3⟩, hb1⟩
        have HW1 := hide (HW.out.trans (hb1.mono hsz))
        clear hb1 HW c0 c1 c2 c3 c4 c5 c6 c7
        by_cases hr : r < 0
        · go_wp2
          go_ret
          exact ⟨⟨_, rfl, by omega, by omega, fun h => by omega⟩, HW1.out⟩
        · have HX1 : Hid (r.toNat + len + fdsum (ls.take (k + 1)) ≤ z0) := by
            have h5 := HX.out
            have h6 := r3 (by omega)
            show _ ≤ _
            rw [HS.out]
            omega
          clear r3
          go_wp2
          go_roundw
          case rel => exact ⟨k + 1, r.toNat, by omega, by omega, by go_num, by congr 1; omega, HX1, HW1⟩
          case measure => simp [intOf]; omega
      · have hke : k = len := by omega
        have hx := HX.out
        rw [hke, List.take_of_length_le (by have := H1.out; omega)] at hx
        have HX2 := hide hx
        clear hx hke
        go_wp2
        go_ret
        exact ⟨⟨_, rfl, by omega, by omega, fun _ => by have := HX2.out; omega⟩, HW.out⟩
theorem fdcells_put (ls : List (Int × Int × Int × Int × Int × Int × Int × ByteArray)) (R : List Value) (j : Nat) (x0 : Int) (x1 : Int) (x2 : Int) (x3 : Int) (x4 : Int) (x5 : Int) (x6 : Int) (x7 : ByteArray) (hj : ls[j]? = some (x0, x1, x2, x3, x4, x5, x6, x7)) (hR : R.length = ls.length * 8) :
    ((((((((fdcells (ls.take j) ++ R.drop (j * 8)).set (j * 8) (.int .i64 x0)).set (j * 8 + 1) (.int .i64 x1)).set (j * 8 + 2) (.int .i64 x2)).set (j * 8 + 3) (.int .i64 x3)).set (j * 8 + 4) (.int .i64 x4)).set (j * 8 + 5) (.int .i64 x5)).set (j * 8 + 6) (.int .i64 x6)).set (j * 8 + 7) (.string x7) = fdcells (ls.take (j + 1)) ++ R.drop ((j + 1) * 8) := by
  obtain ⟨hj1, hj2⟩ := List.getElem?_eq_some_iff.1 hj
  have hm : (fdcells (ls.take j)).length = j * 8 := by rw [fdcells_len, List.length_take]; congr 1; omega
  have e2 : fdcells [(x0, x1, x2, x3, x4, x5, x6, x7)] = [.int .i64 x0, .int .i64 x1, .int .i64 x2, .int .i64 x3, .int .i64 x4, .int .i64 x5, .int .i64 x6, .string x7] := rfl
  have e3 : ls.take (j + 1) = ls.take j ++ [(x0, x1, x2, x3, x4, x5, x6, x7)] := by rw [List.take_succ_eq_append_getElem hj1, hj2]
  rw [e3, fdcells_app, e2, List.set_append_right _ _ (by omega), List.set_append_right _ _ (by omega), List.set_append_right _ _ (by omega), List.set_append_right _ _ (by omega), List.set_append_right _ _ (by omega), List.set_append_right _ _ (by omega), List.set_append_right _ _ (by omega), List.set_append_right _ _ (by omega), hm, Nat.sub_self, Nat.add_sub_cancel_left, Nat.add_sub_cancel_left, Nat.add_sub_cancel_left, Nat.add_sub_cancel_left, Nat.add_sub_cancel_left, Nat.add_sub_cancel_left, Nat.add_sub_cancel_left, List.append_assoc]
  rw [List.drop_eq_getElem_cons (show j * 8 < R.length by omega), List.drop_eq_getElem_cons (show j * 8 + 1 < R.length by omega), List.drop_eq_getElem_cons (show j * 8 + 2 < R.length by omega), List.drop_eq_getElem_cons (show j * 8 + 3 < R.length by omega), List.drop_eq_getElem_cons (show j * 8 + 4 < R.length by omega), List.drop_eq_getElem_cons (show j * 8 + 5 < R.length by omega), List.drop_eq_getElem_cons (show j * 8 + 6 < R.length by omega), List.drop_eq_getElem_cons (show j * 8 + 7 < R.length by omega), show (j + 1) * 8 = j * 8 + 1 + 1 + 1 + 1 + 1 + 1 + 1 + 1 by omega]
  rfl
set_option maxHeartbeats 800000 in
set_option maxRecDepth 100000 in
theorem toFds_any (a : Option Addr) (len cap : Nat) (ls : List (Int × Int × Int × Int × Int × Int × Int × ByteArray)) (w : World) (hl : len ≤ 1048576) (h : FdRow w a len ls) :
    Calls Try.prog 26 #[.slice a len cap] w fun e w' => ∃ g : Nat, e = .returned (.slice (some ⟨g, 0, none⟩) len len) ∧ w'.ownsRow w.heap.size 94 8 (.slice (some ⟨g, 0, none⟩) len len) ls.length (fdcells ls) ∧ Below w.heap.size w w' := by
  obtain ⟨i0, hi, hz0, hz1, hz2⟩ := info_parts infoFd
  obtain ⟨h1, -, -, h4⟩ := h
  have H4 := hide h4
  have H1 := hide h1
  clear h4 h1
  go_enter Try.func26, Try.ntmps26
  go_wp2_with (at_make; refine wpList_make_full _ rfl _ _ 48 rfl w.heap.size 94 i0 (.agg #[.int .i64 0, .int .i64 0, .int .i64 0, .int .i64 0, .int .i64 0, .int .i64 0, .int .i64 0, .string ⟨#[]⟩]) 8 Try.underlying48 hi hz0 hz1 .i64 .i64 _ _ len rfl rfl rfl rfl (by rw [hz2]; omega) (by unfold maxLen; omega) (Nat.le_refl _) ?_)
  intro w1 hown hgrow
  generalize (madeCells #[Value.int .i64 0, Value.int .i64 0, Value.int .i64 0, Value.int .i64 0, Value.int .i64 0, Value.int .i64 0, Value.int .i64 0, Value.string ⟨#[]⟩] (len * 8)).toList = R at hown
  have HR : Hid (R.length = ls.length * 8) := by show _ = _; rw [H1.out]; exact hown.1
  have HO := hide hown
  have HB1 := hide ((Below.refl w.heap.size w).grown hgrow (Nat.le_refl _) (fun k hk => by cases hk))
  have hg1 := (hown.lt w.heap.size rfl).2
  clear hown hgrow
  go_wp2
  go_loopw [4] (fun iv wr => ∃ k : Nat, k ≤ len ∧ iv = .int .i64 k ∧ Hid (wr.ownsRow w.heap.size 94 8 (.slice (some ⟨w.heap.size, 0, none⟩) len len) len (fdcells (ls.take k) ++ R.drop (k * 8))) ∧ Hid (Below w.heap.size w wr)) (fun iv _ => len - (intOf iv).toNat)
  case atStart => exact ⟨0, Nat.zero_le _, rfl, HO, HB1⟩
  case round =>
    obtain ⟨k, hk, rfl, HO2, HW⟩ := hrel
    have hsz := HW.out.size
    by_cases hkl : (k : Int) < len
    · obtain ⟨b, off, rfl, hb, hc⟩ := H4.out (by omega)
      have hl1 := H1.out
      have hkl2 : k < ls.length := by omega
      obtain ⟨x0, x1, x2, x3, x4, x5, x6, x7, ht⟩ : ∃ x0 x1 x2 x3 x4 x5 x6 x7, ls[k]? = some (x0, x1, x2, x3, x4, x5, x6, x7) := ⟨ls[k].1, ls[k].2.1, ls[k].2.2.1, ls[k].2.2.2.1, ls[k].2.2.2.2.1, ls[k].2.2.2.2.2.1, ls[k].2.2.2.2.2.2.1, ls[k].2.2.2.2.2.2.2, List.getElem?_eq_getElem hkl2⟩
      obtain ⟨c0, c1, c2, c3, c4, c5, c6, c7⟩ := hc k (x0, x1, x2, x3, x4, x5, x6, x7) ht
      rw [← HW.out.cell (show b < w.heap.size from hb)] at c0 c1 c2 c3 c4 c5 c6 c7
      simp only at c0 c1 c2 c3 c4 c5 c6 c7
      have k0 : (0 : Int) ≤ k := by omega
      clear hc hl1
      go_wp2_with fail
      refine (toFd_any x0 x1 x2 x3 x4 x5 x6 x7 _).mono ?_
      rintro e w3 ⟨rfl, hb3⟩
      have o3 := own_below HO2.out hb3
      have hlen3 : (fdcells (ls.take k) ++ R.drop (k * 8)).length = len * 8 := HO2.out.1
      have e3 : ∀ d, d < 8 → ∃ u, w3.cell? ⟨w.heap.size, k * 8 + d, none⟩ = some u := by
        intro d hd
        have := o3.cells (g := w.heap.size) rfl (k * 8 + d) _ (List.getElem?_eq_getElem (by rw [hlen3]; omega))
        rw [addr_at] at this
        exact ⟨_, this⟩
      obtain ⟨u0, d0⟩ := e3 0 (by omega)
      obtain ⟨u1, d1⟩ := e3 1 (by omega)
      obtain ⟨u2, d2⟩ := e3 2 (by omega)
      obtain ⟨u3, d3⟩ := e3 3 (by omega)
      obtain ⟨u4, d4⟩ := e3 4 (by omega)
      obtain ⟨u5, d5⟩ := e3 5 (by omega)
      obtain ⟨u6, d6⟩ := e3 6 (by omega)
      obtain ⟨u7, d7⟩ := e3 7 (by omega)
      rw [Nat.add_zero] at d0
      have f0 := o3.frozenAt (k * 8)
      have f1 := o3.frozenAt (k * 8 + 1)
      have f2 := o3.frozenAt (k * 8 + 2)
      have f3 := o3.frozenAt (k * 8 + 3)
      have f4 := o3.frozenAt (k * 8 + 4)
      have f5 := o3.frozenAt (k * 8 + 5)
      have f6 := o3.frozenAt (k * 8 + 6)
      have f7 := o3.frozenAt (k * 8 + 7)
      have o6 := fown_set (fown_set (fown_set (fown_set (fown_set (fown_set (fown_set (fown_set o3 rfl (k * 8) (.int .i64 x0)) rfl (k * 8 + 1) (.int .i64 x1)) rfl (k * 8 + 2) (.int .i64 x2)) rfl (k * 8 + 3) (.int .i64 x3)) rfl (k * 8 + 4) (.int .i64 x4)) rfl (k * 8 + 5) (.int .i64 x5)) rfl (k * 8 + 6) (.int .i64 x6)) rfl (k * 8 + 7) (.string x7)
      rw [fdcells_put ls R k x0 x1 x2 x3 x4 x5 x6 x7 ht HR.out] at o6
      have b6 := (((((((((HW.out.trans (hb3.mono hsz)).setCell (p := ⟨w.heap.size, k * 8, none⟩) (Nat.le_refl _) (.int .i64 x0)).setCell (p := ⟨w.heap.size, k * 8 + 1, none⟩) (Nat.le_refl _) (.int .i64 x1)).setCell (p := ⟨w.heap.size, k * 8 + 2, none⟩) (Nat.le_refl _) (.int .i64 x2)).setCell (p := ⟨w.heap.size, k * 8 + 3, none⟩) (Nat.le_refl _) (.int .i64 x3)).setCell (p := ⟨w.heap.size, k * 8 + 4, none⟩) (Nat.le_refl _) (.int .i64 x4)).setCell (p := ⟨w.heap.size, k * 8 + 5, none⟩) (Nat.le_refl _) (.int .i64 x5)).setCell (p := ⟨w.heap.size, k * 8 + 6, none⟩) (Nat.le_refl _) (.int .i64 x6)).setCell (p := ⟨w.heap.size, k * 8 + 7, none⟩) (Nat.le_refl _) (.string x7))
      have O6 := hide o6
      have B6 := hide b6
      clear o3 o6 b6 hlen3 e3 hb3 HW HO2 c0 c1 c2 c3 c4 c5 c6 c7 ht hkl2
      go_wp2
      go_roundw
      case rel => exact ⟨k + 1, by omega, by go_num, O6, B6⟩
      case measure => simp [intOf]; omega
    · have hke : k = len := by omega
      have hO := HO2.out
      have hl1 := H1.out
      have hr1 := HR.out
      rw [hke, List.take_of_length_le (by omega), List.drop_eq_nil_of_le (by omega), List.append_nil] at hO
      have HO3 := hide hO
      clear hO hke hl1 hr1
      go_wp2
      go_ret
      exact ⟨_, rfl, (by rw [H1.out]; exact HO3.out), HW.out⟩
end Go.Proofs.Ytmpmdacfibgepag
