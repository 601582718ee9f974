/-
  The laws' own walks over Steps: copies, how much they hold, whether they are the same.
-/
import Derived.Test.YthgfhjfnlecolapOpSt
import Derived.Test.YthgfhjfnlecolapPk45
import Derived.Test.YthgfhjfnlecolapFOf
import Derived.Deep.RegionHeld3
namespace Go.Proofs.Ythgfhjfnlecolap
open Go.RowKit

set_option maxHeartbeats 400000 in
set_option maxRecDepth 100000 in
theorem toSt_any (x0 : Int) (x1 : Int) (x2 : Int) (x3 : ByteArray) (w : World) :
    Calls Try.prog 18 #[.agg #[.int .i64 x0, .int .i64 x1, .int .i64 x2, .string x3]] w fun e w' => e = .returned (.agg #[.int .i64 x0, .int .i64 x1, .int .i64 x2, .string x3]) ∧ Below w.heap.size w w' := by
  go_enter Try.func18, Try.ntmps18
  go_wp2
  have h1 := heap_alloc_new (w.alloc (.cells #[.int .i64 x0, .int .i64 x1, .int .i64 x2, .string x3] 36)) (.cells #[.int .i64 x0, .int .i64 x1, .int .i64 x2, .string x3] 40)
  have hs : (w.alloc (.cells #[.int .i64 x0, .int .i64 x1, .int .i64 x2, .string x3] 36)).heap.size = w.heap.size + 1 := by simp
  rw [hs] at h1
  have h2 := (Below.heap_alloc ((w.alloc (.cells #[.int .i64 x0, .int .i64 x1, .int .i64 x2, .string x3] 36)).alloc (.cells #[.int .i64 x0, .int .i64 x1, .int .i64 x2, .string x3] 40)) (.cells #[.int .i64 x0, .int .i64 x1, .int .i64 x2, .string x3] 40) (w.heap.size + 1) (by simp)).trans h1
  exact bodyPost_ret (results_cell_row rfl _ _ (w.heap.size + 1) 40 _ (0, 0) _ rfl h2 Try.underlying40 rfl infoStz) rfl ⟨rfl, (((Below.refl _ _).alloc (Nat.le_refl _) _).alloc (by simp) _).alloc (by simp; omega) _⟩
set_option maxHeartbeats 400000 in
set_option maxRecDepth 100000 in
theorem szSt_any (x0 : Int) (x1 : Int) (x2 : Int) (x3 : ByteArray) (z : Nat) (w : World) (ht : x3.size ≤ maxLen) (hz : z ≤ 1048576) :
    Calls Try.prog 16 #[.agg #[.int .i64 x0, .int .i64 x1, .int .i64 x2, .string x3], .int .i64 z] w fun e w' => (∃ r : Int, e = .returned (.int .i64 r) ∧ -1 ≤ r ∧ r ≤ z ∧ (0 ≤ r → r + (x3.size : Int) ≤ z)) ∧ Below w.heap.size w w' := by
  unfold maxLen at ht
  have hw : IntKind.i64.wrap ((z : Int) - x3.size) = (z : Int) - x3.size := by rw [IntKind.wrap_i64]; omega
  by_cases h : (z : Int) - x3.size < 0
  · go_enter Try.func16, Try.ntmps16
    go_wp2
    go_ret
    exact ⟨⟨_, rfl, by omega, by omega, by omega⟩, (Below.refl _ _).alloc (Nat.le_refl _) _⟩
  · go_enter Try.func16, Try.ntmps16
    go_wp2
    go_ret
    exact ⟨⟨_, rfl, by omega, by omega, by omega⟩, (Below.refl _ _).alloc (Nat.le_refl _) _⟩
/-- How much elements hold: one each, and their texts. -/
def stsum (l : List (Int × Int × Int × ByteArray)) : Nat := (l.map (fun t => t.2.2.2.size)).sum
theorem stsum_succ {l : List (Int × Int × Int × ByteArray)} {k : Nat} {t : Int × Int × Int × ByteArray} (h : l[k]? = some t) : stsum (l.take (k + 1)) = stsum (l.take k) + (t.2.2.2.size) := by
  obtain ⟨h1, rfl⟩ := List.getElem?_eq_some_iff.1 h
  unfold stsum
  rw [List.take_succ_eq_append_getElem h1, List.map_append, List.sum_append]
  simp
theorem stsum_mem {l : List (Int × Int × Int × ByteArray)} {t : Int × Int × Int × ByteArray} (h : t ∈ l) : t.2.2.2.size ≤ stsum l := by
  unfold stsum
  induction l with
  | nil => cases h
  | cons a l ih =>
    simp only [List.map_cons, List.sum_cons]
    rcases List.mem_cons.1 h with rfl | h
    · omega
    · have := ih h
      omega
set_option maxHeartbeats 400000 in
set_option maxRecDepth 100000 in
theorem szSts_any (a : Option Addr) (len cap : Nat) (ls : List (Int × Int × Int × ByteArray)) (z0 : Nat) (w : World) (hz0 : z0 ≤ 1048576) (h : StRow w a len ls) :
    Calls Try.prog 22 #[.slice a len cap, .int .i64 z0] w fun e w' => (∃ r : Int, e = .returned (.int .i64 r) ∧ -1 ≤ r ∧ r ≤ z0 ∧ (0 ≤ r → r + len + stsum ls ≤ z0)) ∧ Below w.heap.size w w' := by
  obtain ⟨h1, h2, h3, h4⟩ := h
  unfold maxLen at h2
  have H3 := hide h3
  have H4 := hide h4
  have H1 := hide h1
  clear h3 h4 h1
  have hw : IntKind.i64.wrap ((z0 : Int) - len) = (z0 : Int) - len := by rw [IntKind.wrap_i64]; omega
  by_cases hlt : (z0 : Int) - len < 0
  · go_enter Try.func22, Try.ntmps22
    go_wp2
    go_ret
    exact ⟨⟨_, rfl, by omega, by omega, fun h => by omega⟩, Below.refl _ _⟩
  · go_enter Try.func22, Try.ntmps22
    go_wp2
    go_loopw [1, 5] (fun lv iv wr => ∃ (k z : Nat), k ≤ len ∧ z + len ≤ z0 ∧ iv = .int .i64 k ∧ lv = .int .i64 z ∧ Hid (z + len + stsum (ls.take k) ≤ z0) ∧ Hid (Below w.heap.size w wr)) (fun _ iv _ => len - (intOf iv).toNat)
    case atStart => exact ⟨0, z0 - len, Nat.zero_le _, by omega, rfl, by congr 1; omega, (by show _ ≤ _; simp only [List.take_zero, stsum, List.map_nil, List.sum_nil]; omega), Below.refl _ _⟩
    case round =>
      obtain ⟨k, z, hk, hz, rfl, rfl, HX, HW⟩ := hrel
      have hsz := HW.out.size
      by_cases hkl : (k : Int) < len
      · obtain ⟨b, off, rfl, hb, hc⟩ := H4.out (by omega)
        have hl1 := H1.out
        have hkl2 : k < ls.length := by omega
        obtain ⟨x0, x1, x2, x3, ht⟩ : ∃ x0 x1 x2 x3, ls[k]? = some (x0, x1, x2, x3) := ⟨ls[k].1, ls[k].2.1, ls[k].2.2.1, ls[k].2.2.2, List.getElem?_eq_getElem hkl2⟩
        have hts := H3.out (x0, x1, x2, x3) (List.mem_of_getElem? ht)
        obtain ⟨c0, c1, c2, c3⟩ := hc k (x0, x1, x2, x3) ht
        rw [← HW.out.cell (show b < w.heap.size from hb)] at c0 c1 c2 c3
        simp only at c0 c1 c2 c3 hts
        have k0 : (0 : Int) ≤ k := by omega
        have HS := hide (stsum_succ ht)
        clear ht hc hl1 hkl2
        go_wp2_with fail
        refine (szSt_any x0 x1 x2 x3 z _ hts (by omega)).mono ?_
        rintro e w1 ⟨⟨r, rfl, r1, r2, r3⟩, hb1⟩
        have HW1 := hide (HW.out.trans (hb1.mono hsz))
        clear hb1 HW c0 c1 c2 c3
        by_cases hr : r < 0
        · go_wp2
          go_ret
          exact ⟨⟨_, rfl, by omega, by omega, fun h => by omega⟩, HW1.out⟩
        · have HX1 : Hid (r.toNat + len + stsum (ls.take (k + 1)) ≤ z0) := by
            have h5 := HX.out
            have h6 := r3 (by omega)
            show _ ≤ _
            rw [HS.out]
            omega
          clear r3
          go_wp2
          go_roundw
          case rel => exact ⟨k + 1, r.toNat, by omega, by omega, by go_num, by congr 1; omega, HX1, HW1⟩
          case measure => simp [intOf]; omega
      · have hke : k = len := by omega
        have hx := HX.out
        rw [hke, List.take_of_length_le (by have := H1.out; omega)] at hx
        have HX2 := hide hx
        clear hx hke
        go_wp2
        go_ret
        exact ⟨⟨_, rfl, by omega, by omega, fun _ => by have := HX2.out; omega⟩, HW.out⟩
theorem stcells_put (ls : List (Int × Int × Int × ByteArray)) (R : List Value) (j : Nat) (x0 : Int) (x1 : Int) (x2 : Int) (x3 : ByteArray) (hj : ls[j]? = some (x0, x1, x2, x3)) (hR : R.length = ls.length * 4) :
    ((((stcells (ls.take j) ++ R.drop (j * 4)).set (j * 4) (.int .i64 x0)).set (j * 4 + 1) (.int .i64 x1)).set (j * 4 + 2) (.int .i64 x2)).set (j * 4 + 3) (.string x3) = stcells (ls.take (j + 1)) ++ R.drop ((j + 1) * 4) := by
  obtain ⟨hj1, hj2⟩ := List.getElem?_eq_some_iff.1 hj
  have hm : (stcells (ls.take j)).length = j * 4 := by rw [stcells_len, List.length_take]; congr 1; omega
  have e2 : stcells [(x0, x1, x2, x3)] = [.int .i64 x0, .int .i64 x1, .int .i64 x2, .string x3] := rfl
  have e3 : ls.take (j + 1) = ls.take j ++ [(x0, x1, x2, x3)] := by rw [List.take_succ_eq_append_getElem hj1, hj2]
  rw [e3, stcells_app, e2, List.set_append_right _ _ (by omega), List.set_append_right _ _ (by omega), List.set_append_right _ _ (by omega), List.set_append_right _ _ (by omega), hm, Nat.sub_self, Nat.add_sub_cancel_left, Nat.add_sub_cancel_left, Nat.add_sub_cancel_left, List.append_assoc]
  rw [List.drop_eq_getElem_cons (show j * 4 < R.length by omega), List.drop_eq_getElem_cons (show j * 4 + 1 < R.length by omega), List.drop_eq_getElem_cons (show j * 4 + 2 < R.length by omega), List.drop_eq_getElem_cons (show j * 4 + 3 < R.length by omega), show (j + 1) * 4 = j * 4 + 1 + 1 + 1 + 1 by omega]
  rfl
set_option maxHeartbeats 800000 in
set_option maxRecDepth 100000 in
theorem toSts_any (a : Option Addr) (len cap : Nat) (ls : List (Int × Int × Int × ByteArray)) (w : World) (hl : len ≤ 1048576) (h : StRow w a len ls) :
    Calls Try.prog 24 #[.slice a len cap] w fun e w' => ∃ g : Nat, e = .returned (.slice (some ⟨g, 0, none⟩) len len) ∧ w'.ownsRow w.heap.size 40 4 (.slice (some ⟨g, 0, none⟩) len len) ls.length (stcells ls) ∧ Below w.heap.size w w' := by
  obtain ⟨i0, hi, hz0, hz1, hz2⟩ := info_parts infoSt
  obtain ⟨h1, -, -, h4⟩ := h
  have H4 := hide h4
  have H1 := hide h1
  clear h4 h1
  go_enter Try.func24, Try.ntmps24
  go_wp2_with (at_make; refine wpList_make_full _ rfl _ _ 48 rfl w.heap.size 40 i0 (.agg #[.int .i64 0, .int .i64 0, .int .i64 0, .string ⟨#[]⟩]) 4 Try.underlying48 hi hz0 hz1 .i64 .i64 _ _ len rfl rfl rfl rfl (by rw [hz2]; omega) (by unfold maxLen; omega) (Nat.le_refl _) ?_)
  intro w1 hown hgrow
  generalize (madeCells #[Value.int .i64 0, Value.int .i64 0, Value.int .i64 0, Value.string ⟨#[]⟩] (len * 4)).toList = R at hown
  have HR : Hid (R.length = ls.length * 4) := by show _ = _; rw [H1.out]; exact hown.1
  have HO := hide hown
  have HB1 := hide ((Below.refl w.heap.size w).grown hgrow (Nat.le_refl _) (fun k hk => by cases hk))
  have hg1 := (hown.lt w.heap.size rfl).2
  clear hown hgrow
  go_wp2
  go_loopw [4] (fun iv wr => ∃ k : Nat, k ≤ len ∧ iv = .int .i64 k ∧ Hid (wr.ownsRow w.heap.size 40 4 (.slice (some ⟨w.heap.size, 0, none⟩) len len) len (stcells (ls.take k) ++ R.drop (k * 4))) ∧ Hid (Below w.heap.size w wr)) (fun iv _ => len - (intOf iv).toNat)
  case atStart => exact ⟨0, Nat.zero_le _, rfl, HO, HB1⟩
  case round =>
    obtain ⟨k, hk, rfl, HO2, HW⟩ := hrel
    have hsz := HW.out.size
    by_cases hkl : (k : Int) < len
    · obtain ⟨b, off, rfl, hb, hc⟩ := H4.out (by omega)
      have hl1 := H1.out
      have hkl2 : k < ls.length := by omega
      obtain ⟨x0, x1, x2, x3, ht⟩ : ∃ x0 x1 x2 x3, ls[k]? = some (x0, x1, x2, x3) := ⟨ls[k].1, ls[k].2.1, ls[k].2.2.1, ls[k].2.2.2, List.getElem?_eq_getElem hkl2⟩
      obtain ⟨c0, c1, c2, c3⟩ := hc k (x0, x1, x2, x3) ht
      rw [← HW.out.cell (show b < w.heap.size from hb)] at c0 c1 c2 c3
      simp only at c0 c1 c2 c3
      have k0 : (0 : Int) ≤ k := by omega
      clear hc hl1
      go_wp2_with fail
      refine (toSt_any x0 x1 x2 x3 _).mono ?_
      rintro e w3 ⟨rfl, hb3⟩
      have o3 := own_below HO2.out hb3
      have hlen3 : (stcells (ls.take k) ++ R.drop (k * 4)).length = len * 4 := HO2.out.1
      have e3 : ∀ d, d < 4 → ∃ u, w3.cell? ⟨w.heap.size, k * 4 + d, none⟩ = some u := by
        intro d hd
        have := o3.cells (g := w.heap.size) rfl (k * 4 + d) _ (List.getElem?_eq_getElem (by rw [hlen3]; omega))
        rw [addr_at] at this
        exact ⟨_, this⟩
      obtain ⟨u0, d0⟩ := e3 0 (by omega)
      obtain ⟨u1, d1⟩ := e3 1 (by omega)
      obtain ⟨u2, d2⟩ := e3 2 (by omega)
      obtain ⟨u3, d3⟩ := e3 3 (by omega)
      rw [Nat.add_zero] at d0
      have f0 := o3.frozenAt (k * 4)
      have f1 := o3.frozenAt (k * 4 + 1)
      have f2 := o3.frozenAt (k * 4 + 2)
      have f3 := o3.frozenAt (k * 4 + 3)
      have o6 := fown_set (fown_set (fown_set (fown_set o3 rfl (k * 4) (.int .i64 x0)) rfl (k * 4 + 1) (.int .i64 x1)) rfl (k * 4 + 2) (.int .i64 x2)) rfl (k * 4 + 3) (.string x3)
      rw [stcells_put ls R k x0 x1 x2 x3 ht HR.out] at o6
      have b6 := (((((HW.out.trans (hb3.mono hsz)).setCell (p := ⟨w.heap.size, k * 4, none⟩) (Nat.le_refl _) (.int .i64 x0)).setCell (p := ⟨w.heap.size, k * 4 + 1, none⟩) (Nat.le_refl _) (.int .i64 x1)).setCell (p := ⟨w.heap.size, k * 4 + 2, none⟩) (Nat.le_refl _) (.int .i64 x2)).setCell (p := ⟨w.heap.size, k * 4 + 3, none⟩) (Nat.le_refl _) (.string x3))
      have O6 := hide o6
      have B6 := hide b6
      clear o3 o6 b6 hlen3 e3 hb3 HW HO2 c0 c1 c2 c3 ht hkl2
      go_wp2
      go_roundw
      case rel => exact ⟨k + 1, by omega, by go_num, O6, B6⟩
      case measure => simp [intOf]; omega
    · have hke : k = len := by omega
      have hO := HO2.out
      have hl1 := H1.out
      have hr1 := HR.out
      rw [hke, List.take_of_length_le (by omega), List.drop_eq_nil_of_le (by omega), List.append_nil] at hO
      have HO3 := hide hO
      clear hO hke hl1 hr1
      go_wp2
      go_ret
      exact ⟨_, rfl, (by rw [H1.out]; exact HO3.out), HW.out⟩
set_option maxHeartbeats 400000 in
set_option maxRecDepth 100000 in
theorem eqSt_same (x0 : Int) (x1 : Int) (x2 : Int) (x3 : ByteArray) (w : World) :
    Calls Try.prog 53 #[.agg #[.int .i64 x0, .int .i64 x1, .int .i64 x2, .string x3], .agg #[.int .i64 x0, .int .i64 x1, .int .i64 x2, .string x3]] w fun e w' => e = .returned (.bool true) ∧ Below w.heap.size w w' := by
  have e0 : (x0 != x0) = false := by simp
  have e1 : (x1 != x1) = false := by simp
  have e2 : (x2 != x2) = false := by simp
  go_enter Try.func53, Try.ntmps53
  go_wp2
  go_ret
  exact ⟨rfl, ((Below.refl _ _).alloc (Nat.le_refl _) _).alloc (by simp) _⟩
set_option maxHeartbeats 1000000 in
set_option maxRecDepth 100000 in
theorem eqSts_same (a b : Value) (M : List (Int × Int × Int × ByteArray)) (B1 C1 B2 C2 : Nat) (w : World) (hM : M.length ≤ 1000000000000000000) (ha : Sli 40 B1 C1 a M.length (stcells M) w) (hb : Sli 40 B2 C2 b M.length (stcells M) w) :
    Calls Try.prog 26 #[a, b] w fun e w' => e = .returned (.bool true) ∧ Below w.heap.size w w' := by
  obtain ⟨ad, capa, rfl, a3⟩ := ha.form
  obtain ⟨bd, capb, rfl, b3⟩ := hb.form
  obtain ⟨n, hn⟩ : ∃ n, M.length = n := ⟨_, rfl⟩
  have HN := hide hn
  have HSA := hide ha
  have HSB := hide hb
  rw [hn] at hM a3 b3 HSA HSB ⊢
  have A3 := hide a3
  have B3 := hide b3
  clear a3 b3 ha hb hn
  go_enter Try.func26, Try.ntmps26
  go_wp2
  go_loopw [5] (fun iv wr => ∃ k : Nat, k ≤ n ∧ iv = .int .i64 k ∧ Hid (Below w.heap.size w wr)) (fun iv _ => n - (intOf iv).toNat)
  case atStart => exact ⟨0, Nat.zero_le _, rfl, Below.refl _ _⟩
  case round =>
    obtain ⟨k, hk, rfl, HW⟩ := hrel
    by_cases hlt : (k : Int) < n
    · obtain ⟨ga, e, _, _⟩ := A3.out (by omega)
      subst e
      obtain ⟨gb, e, _, _⟩ := B3.out (by omega)
      subst e
      have hkl : k < M.length := by have := HN.out; omega
      obtain ⟨x0, x1, x2, x3, hx⟩ : ∃ x0 x1 x2 x3, M[k]? = some (x0, x1, x2, x3) := ⟨M[k].1, M[k].2.1, M[k].2.2.1, M[k].2.2.2, List.getElem?_eq_getElem hkl⟩
      have GA := HSA.out.flt.below HW.out
      have GB := HSB.out.flt.below HW.out
      have c0 : wr.cell? ⟨ga, k * 4, none⟩ = some (.int .i64 x0) := GA.cell (stcells_at M k _ hx 0 _ rfl)
      have d0 : wr.cell? ⟨gb, k * 4, none⟩ = some (.int .i64 x0) := GB.cell (stcells_at M k _ hx 0 _ rfl)
      have c1 : wr.cell? ⟨ga, k * 4 + 1, none⟩ = some (.int .i64 x1) := GA.cell (stcells_at M k _ hx 1 _ rfl)
      have d1 : wr.cell? ⟨gb, k * 4 + 1, none⟩ = some (.int .i64 x1) := GB.cell (stcells_at M k _ hx 1 _ rfl)
      have c2 : wr.cell? ⟨ga, k * 4 + 2, none⟩ = some (.int .i64 x2) := GA.cell (stcells_at M k _ hx 2 _ rfl)
      have d2 : wr.cell? ⟨gb, k * 4 + 2, none⟩ = some (.int .i64 x2) := GB.cell (stcells_at M k _ hx 2 _ rfl)
      have c3 : wr.cell? ⟨ga, k * 4 + 3, none⟩ = some (.string x3) := GA.cell (stcells_at M k _ hx 3 _ rfl)
      have d3 : wr.cell? ⟨gb, k * 4 + 3, none⟩ = some (.string x3) := GB.cell (stcells_at M k _ hx 3 _ rfl)
      have k0 : (0 : Int) ≤ k := by omega
      have CE := hide (eqSt_same x0 x1 x2 x3 wr.drew)
      have CF := hide (eqSt_same x0 x1 x2 x3 wr)
      have hsz := HW.out.size
      have gaw : ga < wr.heap.size := World.block_lt_of_cell? wr _ c0
      have gbw : gb < wr.heap.size := World.block_lt_of_cell? wr _ d0
      clear hx hkl GA GB
      first
        | (go_wp2_with fail
           refine CF.out.mono ?_
           rintro e w1 ⟨rfl, b1⟩
           have HW1 := hide (HW.out.trans (b1.mono hsz)))
        | (go_wp2
           go_region_held3 (fun w' => w'.cell? ⟨ga, k * 4, none⟩ = some (.int .i64 x0) ∧ w'.cell? ⟨ga, k * 4 + 1, none⟩ = some (.int .i64 x1) ∧ w'.cell? ⟨ga, k * 4 + 2, none⟩ = some (.int .i64 x2) ∧ w'.cell? ⟨ga, k * 4 + 3, none⟩ = some (.string x3) ∧ w'.cell? ⟨gb, k * 4, none⟩ = some (.int .i64 x0) ∧ w'.cell? ⟨gb, k * 4 + 1, none⟩ = some (.int .i64 x1) ∧ w'.cell? ⟨gb, k * 4 + 2, none⟩ = some (.int .i64 x2) ∧ w'.cell? ⟨gb, k * 4 + 3, none⟩ = some (.string x3)) (first | go_keep | exact ⟨(b1.cell (show ga < wr.drew.heap.size from gaw)).trans c0, (b1.cell (show ga < wr.drew.heap.size from gaw)).trans c1, (b1.cell (show ga < wr.drew.heap.size from gaw)).trans c2, (b1.cell (show ga < wr.drew.heap.size from gaw)).trans c3, (b1.cell (show gb < wr.drew.heap.size from gbw)).trans d0, (b1.cell (show gb < wr.drew.heap.size from gbw)).trans d1, (b1.cell (show gb < wr.drew.heap.size from gbw)).trans d2, (b1.cell (show gb < wr.drew.heap.size from gbw)).trans d3⟩) ((go_at_call 53; (with_reducible refine Calls.mono CE.out ?_); rintro en w1 ⟨rfl, b1⟩))
           have HW1 := hide (HW.out.drew.trans (b1.mono (show w.heap.size ≤ wr.drew.heap.size from hsz))))
      all_goals
        clear b1 CE CF HW c0 c1 c2 c3 d0 d1 d2 d3
        go_wp2
        go_roundw
        case rel => exact ⟨k + 1, by omega, by go_num, HW1⟩
        case measure => simp [intOf]; omega
    · go_wp2
      go_ret
      exact ⟨rfl, HW.out⟩
end Go.Proofs.Ythgfhjfnlecolap
