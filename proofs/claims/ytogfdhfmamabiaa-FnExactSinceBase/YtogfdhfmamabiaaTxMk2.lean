/-
  The laws' own markTxS and heldTxS.
-/
import Derived.Test.YtogfdhfmamabiaaTxMk
namespace Go.Proofs.Ytogfdhfmamabiaa
open Go.RowKit
open Words

set_option maxHeartbeats 1000000 in
set_option maxRecDepth 100000 in
theorem markTxs_any (lo hi : Nat) (a : Value) (ys : List Yw) (w : World) (hl : ys.length ≤ 1048576) (hll : ∀ y ∈ ys, y.2.2.2.1 ≤ 1048576 ∧ y.2.2.2.2.length = y.2.2.2.1 * 4) (he : yend 1 ys ≤ 1000000000) (hh : hi ≤ w.heap.size) (ha : YIn lo hi a ys w) :
    Calls Try.prog 19 #[a, .int .i64 1] w fun e w' => e = .returned (.int .i64 ((yend 1 ys : Nat) : Int)) ∧ Hid (YIn lo hi a (ymk 1 ys) w') ∧ Hid (Kept2 w w' (Apt lo hi)) := by
  obtain ⟨ad, ca, rfl, a3⟩ := ha.1.form
  have A3 := hide a3
  have HA := hide ha
  have HLL := hide hll
  have HE := hide he
  clear a3 ha hll he
  obtain ⟨n, hn⟩ : ∃ n, ys.length = n := ⟨_, rfl⟩
  have HN := hide hn
  rw [hn] at hl A3 HA ⊢
  clear hn
  go_enter Try.func19, Try.ntmps19
  go_wp2
  go_loopw [1, 5] (fun kv iv wr => ∃ j p : Nat, j ≤ n ∧ iv = .int .i64 j ∧ kv = .int .i64 (p : Int) ∧ Hid (p = yend 1 (ys.take j)) ∧ Hid (YIn lo hi (.slice ad n ca) (ymk 1 (ys.take j) ++ ys.drop j) wr) ∧ Hid (Kept2 w wr (Apt lo hi))) (fun _ iv _ => n - (intOf iv).toNat)
  case atStart => exact ⟨0, 1, Nat.zero_le _, rfl, rfl, rfl, HA, Kept2.refl _ _⟩
  case round =>
    obtain ⟨j, p, hj, rfl, rfl, HP, HO, HW⟩ := hrel
    have hp0 : 0 < p := by have := yend_le (ys.take j) 1; have := HP.out; omega
    have hp1 : p ≤ 1000000000 := by have := yend_take ys 1 j; have := HP.out; have := HE.out; omega
    by_cases hlt : (j : Int) < n
    · obtain ⟨ga, e, g1, g2⟩ := A3.out (by omega)
      subst e
      have hjl : j < ys.length := by have := HN.out; omega
      obtain ⟨y, hy⟩ : ∃ y, ys[j]? = some y := ⟨_, List.getElem?_eq_getElem hjl⟩
      have hlm : (ymk 1 (ys.take j)).length = j := by rw [ymk_len, List.length_take]; omega
      have hms := ymk_set (k := 1) hy
      have hend := yend_succ (k := 1) hy
      rw [← HP.out] at hms hend
      obtain ⟨cur, hcur⟩ : ∃ cur, ymk 1 (ys.take j) ++ ys.drop j = cur := ⟨_, rfl⟩
      have hcl : cur.length = n := by rw [← hcur, List.length_append, hlm, List.length_drop, HN.out]; omega
      have hcj : cur[j]? = some y := by
        rw [← hcur, List.getElem?_append_right (by omega), hlm, Nat.sub_self, List.getElem?_drop, Nat.add_zero, hy]
      rw [hcur] at hms HO
      obtain ⟨hy1, hy2⟩ := HLL.out y (List.mem_of_getElem? hy)
      obtain ⟨x0, x1, sv, m, xs⟩ := y
      simp only at hms hend hy1 hy2
      have HO1 := HO.out.1
      rw [hcl] at HO1
      have c0 : wr.cell? ⟨ga, j * 3, none⟩ = some (.int .i64 x0) := HO1.flt.cell (ycells_at cur j _ hcj 0 _ rfl)
      have c1 : wr.cell? ⟨ga, j * 3 + 1, none⟩ = some (.int .i64 x1) := HO1.flt.cell (ycells_at cur j _ hcj 1 _ rfl)
      have c2 : wr.cell? ⟨ga, j * 3 + 2, none⟩ = some sv := HO1.flt.cell (ycells_at cur j _ hcj 2 _ rfl)
      have f0 := HO1.flt.frozen (j * 3)
      have f1 := HO1.flt.frozen (j * 3 + 1)
      have F2 := HO.out.nums hcl hcj (p : Int) ((p + 1 : Nat) : Int)
      simp only at F2
      have hc2 : (cur.set j ((p : Int), ((p + 1 : Nat) : Int), sv, m, xs))[j]? = some ((p : Int), ((p + 1 : Nat) : Int), sv, m, xs) := by rw [List.getElem?_set_self (by omega)]
      have LL := F2.2.1 _ (List.mem_of_getElem? hc2)
      simp only at LL
      obtain ⟨sa, sc, rfl, -⟩ := LL.form
      have K2 : Kept2 w ((wr.setCell ⟨ga, j * 3, none⟩ (.int .i64 (p : Int))).setCell ⟨ga, j * 3 + 1, none⟩ (.int .i64 ((p + 1 : Nat) : Int))) (Apt lo hi) := HW.out.trans ((Kept2.grown (ok := Apt lo hi) (grown_cell wr ga (j * 3) (.int .i64 (p : Int))) (fun i hi' hok => by cases hi'; exact hok ⟨g1, g2⟩)).trans (Kept2.grown (grown_cell _ ga (j * 3 + 1) (.int .i64 ((p + 1 : Nat) : Int))) (fun i hi' hok => by cases hi'; exact hok ⟨g1, g2⟩)))
      obtain ⟨W2, hW2⟩ : ∃ W2, (wr.setCell ⟨ga, j * 3, none⟩ (.int .i64 (p : Int))).setCell ⟨ga, j * 3 + 1, none⟩ (.int .i64 ((p + 1 : Nat) : Int)) = W2 := ⟨_, rfl⟩
      rw [hW2] at F2 LL K2
      have hws : hi ≤ W2.heap.size := Nat.le_trans hh K2.2.2.2.1
      have CM : Hid (Calls Try.prog 39 #[.slice sa m sc, .int .i64 ((p + 2 : Nat) : Int)] W2 fun e w' => e = .returned (.int .i64 ((p + 2 + m * 4 : Nat) : Int)) ∧ Hid (YIn lo hi (.slice (some ⟨ga, 0, none⟩) n ca) (ymk 1 (ys.take (j + 1)) ++ ys.drop (j + 1)) w') ∧ Hid (Kept2 w w' (Apt lo hi))) := by
        refine (markRc_at lo hi (.slice sa m sc) m (p + 2) xs W2 (by omega) hy2 (by omega) (by omega) hws LL).mono ?_
        rintro e w' ⟨rfl, hs, hk⟩
        refine ⟨rfl, ?_, ?_⟩
        · have F3 := F2.inner hc2 (mkFlat patRc (p + 2) m) hk hs
          rw [List.set_set] at F3
          simp only at F3
          rw [hms] at F3
          exact F3
        · refine K2.trans ⟨hk.1, hk.2.1, hk.2.2.1, hk.2.2.2.1, fun i hi' hok => hk.2.2.2.2 i hi' (fun e => ?_)⟩
          have := LL.lt i e
          exact hok ⟨this.1, this.2.1⟩
      have HP2 : Hid (p + 2 + m * 4 = yend 1 (ys.take (j + 1))) := hend.symm
      have e1 : (p : Int) + 1 = ((p + 1 : Nat) : Int) := by omega
      have e2 : ((p + 1 : Nat) : Int) + 1 = ((p + 2 : Nat) : Int) := by omega
      have j0 : (0 : Int) ≤ j := by omega
      have HW2 := hide hW2
      clear hy hlm hms hend hcur hcl hcj hy1 hy2 HO1 F2 hc2 LL K2 HO HW HP hW2
      obtain ⟨p1, hp1'⟩ : ∃ p1, p + 1 = p1 := ⟨_, rfl⟩
      obtain ⟨p2, hp2'⟩ : ∃ p2, p + 2 = p2 := ⟨_, rfl⟩
      rw [hp1'] at e1 e2 HW2
      rw [hp2'] at e2 CM HP2
      have hb2 : p2 ≤ 1000000002 := by omega
      have hb1 : p1 ≤ 1000000001 := by omega
      clear hp1' hp2'
      go_wp2_with fail
      rw [HW2.out]
      refine CM.out.mono ?_
      rintro e w5 ⟨rfl, HF5, HK5⟩
      clear CM HW2
      obtain ⟨p3, hp3⟩ : ∃ p3, p2 + m * 4 = p3 := ⟨_, rfl⟩
      rw [hp3] at HP2 ⊢
      clear hp3 c0 c1 c2 f0 f1
      go_wp2
      go_roundw
      case rel => exact ⟨j + 1, p3, by omega, by go_num, by first | rfl | go_num, HP2, HF5, HK5⟩
      case measure => simp [intOf]; omega
    · have hje : j = ys.length := by have := HN.out; omega
      have hO := HO.out
      rw [hje, List.drop_length, List.append_nil, List.take_length] at hO
      have hP := HP.out
      rw [hje, List.take_length] at hP
      have HO2 := hide hO
      have E : Hid ((p : Int) = ((yend 1 ys : Nat) : Int)) := by show _ = _; rw [hP]
      clear hO hje HO hP HP
      go_wp2
      go_ret
      exact ⟨congrArg (fun x => Ending.returned (.int .i64 x)) E.out, HO2, HW⟩

set_option maxHeartbeats 1000000 in
set_option maxRecDepth 100000 in
theorem heldTxs_any (lo hi : Nat) (a : Value) (ys : List Yw) (w : World) (hl : ys.length ≤ 1048576) (hll : ∀ y ∈ ys, y.2.2.2.1 ≤ 1048576) (he : yend 1 ys ≤ 1000000000) (hh : hi ≤ w.heap.size) (ha : YIn lo hi a (ymk 1 ys) w) :
    Calls Try.prog 20 #[a, .int .i64 1] w fun e w' => e = .returned (.int .i64 ((yend 1 ys : Nat) : Int)) ∧ Below w.heap.size w w' := by
  obtain ⟨ad, ca, rfl, a3⟩ := ha.1.form
  have A3 := hide a3
  have HA := hide ha
  have HLL := hide hll
  have HE := hide he
  clear a3 ha hll he
  obtain ⟨n, hn⟩ : ∃ n, ys.length = n := ⟨_, rfl⟩
  have HN := hide hn
  rw [ymk_len, hn] at A3 HA ⊢
  rw [hn] at hl
  clear hn
  go_enter Try.func20, Try.ntmps20
  go_wp2
  go_loopw [1, 5] (fun kv iv wr => ∃ j p : Nat, j ≤ n ∧ iv = .int .i64 j ∧ kv = .int .i64 (p : Int) ∧ Hid (p = yend 1 (ys.take j)) ∧ Hid (Below w.heap.size w wr)) (fun _ iv _ => n - (intOf iv).toNat)
  case atStart => exact ⟨0, 1, Nat.zero_le _, rfl, rfl, rfl, Below.refl _ _⟩
  case round =>
    obtain ⟨j, p, hj, rfl, rfl, HP, HW⟩ := hrel
    have hp0 : 0 < p := by have := yend_le (ys.take j) 1; have := HP.out; omega
    have hp1 : p ≤ 1000000000 := by have := yend_take ys 1 j; have := HP.out; have := HE.out; omega
    by_cases hlt : (j : Int) < n
    · obtain ⟨ga, e, g1, g2⟩ := A3.out (by omega)
      subst e
      have hjl : j < ys.length := by have := HN.out; omega
      obtain ⟨y, hy⟩ : ∃ y, ys[j]? = some y := ⟨_, List.getElem?_eq_getElem hjl⟩
      have hmj := ymk_at (k := 1) hy
      have hend := yend_succ (k := 1) hy
      rw [← HP.out] at hmj hend
      have hy1 := HLL.out y (List.mem_of_getElem? hy)
      obtain ⟨x0, x1, sv, m, xs⟩ := y
      simp only at hmj hend hy1
      have HO1 := HA.out.1
      rw [ymk_len, HN.out] at HO1
      have GA := HO1.flt.below HW.out
      have c0 : wr.cell? ⟨ga, j * 3, none⟩ = some (.int .i64 (p : Int)) := GA.cell (ycells_at _ j _ hmj 0 _ rfl)
      have c1 : wr.cell? ⟨ga, j * 3 + 1, none⟩ = some (.int .i64 ((p + 1 : Nat) : Int)) := GA.cell (ycells_at _ j _ hmj 1 _ rfl)
      have c2 : wr.cell? ⟨ga, j * 3 + 2, none⟩ = some sv := GA.cell (ycells_at _ j _ hmj 2 _ rfl)
      have LL := HA.out.2.1 _ (List.mem_of_getElem? hmj)
      simp only at LL
      obtain ⟨sa, sc, rfl, -⟩ := LL.form
      have CM := hide (heldRc_any lo hi (.slice sa m sc) m (p + 2) wr (by omega) (by omega) (by omega) (Nat.le_trans hh HW.out.size) (LL.blw HW.out))
      have HP2 : Hid (p + 2 + m * 4 = yend 1 (ys.take (j + 1))) := hend.symm
      have e1 : (p : Int) + 1 = ((p + 1 : Nat) : Int) := by omega
      have e2 : ((p + 1 : Nat) : Int) + 1 = ((p + 2 : Nat) : Int) := by omega
      have j0 : (0 : Int) ≤ j := by omega
      clear hy hmj hend HO1 GA LL HP
      obtain ⟨p1, hp1'⟩ : ∃ p1, p + 1 = p1 := ⟨_, rfl⟩
      obtain ⟨p2, hp2'⟩ : ∃ p2, p + 2 = p2 := ⟨_, rfl⟩
      rw [hp1'] at e1 e2 c1
      rw [hp2'] at e2 CM HP2
      have hb2 : p2 ≤ 1000000002 := by omega
      have hb1 : p1 ≤ 1000000001 := by omega
      clear hp1' hp2'
      have n0 : ((p : Int) != p) = false := by simp
      have n1 : ((p1 : Int) != p1) = false := by simp
      go_wp2_with fail
      refine CM.out.mono ?_
      rintro e w5 ⟨rfl, b5⟩
      have HW5 := hide (HW.out.trans (b5.mono HW.out.size))
      clear CM b5 HW
      obtain ⟨p3, hp3⟩ : ∃ p3, p2 + m * 4 = p3 := ⟨_, rfl⟩
      have m0 : ¬ ((p3 : Int) < 0) := by omega
      rw [hp3] at HP2 ⊢
      clear hp3 c0 c1 c2
      go_wp2
      go_roundw
      case rel => exact ⟨j + 1, p3, by omega, by go_num, by first | rfl | go_num, HP2, HW5⟩
      case measure => simp [intOf]; omega
    · have hje : j = ys.length := by have := HN.out; omega
      have hP := HP.out
      rw [hje, List.take_length] at hP
      have E : Hid ((p : Int) = ((yend 1 ys : Nat) : Int)) := by show _ = _; rw [hP]
      clear hje hP HP
      go_wp2
      go_ret
      exact ⟨congrArg (fun x => Ending.returned (.int .i64 x)) E.out, HW.out⟩
end Go.Proofs.Ytogfdhfmamabiaa
