/-
  FnTrees, of what the program answers.
-/
import Derived.Test.YtnebelflnpbbiacTkTree
import Derived.Test.YtnebelflnpbbiacPk28
import Derived.Test.YtnebelflnpbbiacSShare
import Derived.Test.YtnebelflnpbbiacSAll
import Derived.Deep.RegionHeld3
namespace Go.Proofs.Ytnebelflnpbbiac
open Go.RowKit
open Words

theorem pt_len2 (l : List Kn) (r : Int) (s : Nat) (n : Int) : (pt l r s n).length = l.length + 2 := by simp [pt]

set_option maxHeartbeats 8000000 in
set_option maxRecDepth 100000 in
theorem lawTree_of (ad : Option Addr) (len cap : Nat) (w : World) (hd : CodeIn w ad len w.heap.size) (HP : Hid (PutC 40)) (HA : Hid (AllC 45)) (HG : Hid (GetC 42)) (HO : Hid (ArC 41)) (HS : Hid (ShareC 47)) :
    Calls Try.prog 8 #[.slice ad len cap] w fun e w' => e = .returned (.bool true) ∧ Below w.heap.size w w' := by
  have HD := hide hd
  clear hd
  by_cases hbig : (1048576 : Int) < len
  · go_enter Try.func8, Try.ntmps8
    go_wp2_with fail
    refine (big_any ad len cap _).mono ?_
    rintro e w1 ⟨rfl, rfl⟩
    rw [decide_eq_true hbig]
    go_wp2
    go_ret
    exact ⟨rfl, Below.refl _ _⟩
  have hl2 : len ≤ 1048576 := by omega
  have hbd : decide ((1048576 : Int) < len) = false := decide_eq_false hbig
  clear hbig
  go_enter Try.func8, Try.ntmps8
  go_wp2_with fail
  refine (big_any ad len cap _).mono ?_
  rintro e w0 ⟨rfl, hw0⟩
  subst hw0
  rw [hbd]
  clear hbd
  go_wp2_with fail
  refine (forest_tk (Tk.start w0) hl2 HD.out).mono ?_
  rintro e w1 ⟨va, vc, g, rc, ks, R, lo, hi, rfl, ⟨h8, h1, ok⟩, t1, s1⟩
  have T1 := hide (t1.cell #[.slice va ks.length vc] 77)
  have OK := hide ok
  have hk14 : ks.length ≤ 14 := by have := ok.2.2.2; omega
  obtain ⟨m, hm⟩ : ∃ m, ks.length = m := ⟨_, rfl⟩
  obtain ⟨nR, hnR⟩ : ∃ nR, R.length = nR := ⟨_, rfl⟩
  rw [hm] at T1 hk14 ⊢
  rw [hnR] at h8 h1 ⊢
  have HM := hide hm
  have HNR := hide hnR
  clear t1 ok hm hnR
  go_wp2_with fail
  generalize w1.alloc (.cells #[.slice va m vc] 77) = w1b at T1 ⊢
  refine (places_tk T1.out hl2 HD.out).mono ?_
  rintro e w2 ⟨pg, cp, l, rfl, ⟨h12, hx⟩, t2, s2⟩
  have T2 := hide t2
  obtain ⟨p0, e0⟩ : ∃ x, l[0]? = some x := ⟨_, List.getElem?_eq_getElem (by omega)⟩
  obtain ⟨p1, e1⟩ : ∃ x, l[1]? = some x := ⟨_, List.getElem?_eq_getElem (by omega)⟩
  have y0 := hx p0 (List.mem_of_getElem? e0)
  have y1 := hx p1 (List.mem_of_getElem? e1)
  have c0 : w2.cell? ⟨pg, 0, none⟩ = some (.int .i64 p0) := (show PlH pg l w2 from t2.get 0 rfl) 0 p0 e0
  have c1 : w2.cell? ⟨pg, 1, none⟩ = some (.int .i64 p1) := (show PlH pg l w2 from t2.get 0 rfl) 1 p1 e1
  obtain ⟨k, hk⟩ : ∃ k, p0.toNat % nR = k := ⟨_, rfl⟩
  have hkn : k < nR := by rw [← hk]; exact Nat.mod_lt _ (by omega)
  obtain ⟨r, hr⟩ : ∃ r, R[k]? = some r := ⟨_, List.getElem?_eq_getElem (by have := HNR.out; omega)⟩
  have cr : w2.cell? ⟨g, k, none⟩ = some (.int .i64 r) := (show Flt 3 g (icells R) w2 from t2.get 2 rfl).cell (icells_get hr)
  have ca : w2.cell? ⟨w1.heap.size, 0, none⟩ = some (.slice va m vc) := t2.at 1 0 rfl rfl
  have TO : Hid (TrOk ks r) := ⟨OK.out.1, OK.out.2.1 r (List.mem_of_getElem? hr)⟩
  obtain ⟨s, hs⟩ : ∃ s, p1.toNat % 16 = s := ⟨_, rfl⟩
  have hs15 : s ≤ 15 := by omega
  have m0 : p0.tmod (nR : Int) = (k : Int) := by rw [Int.tmod_eq_emod_of_nonneg y0.1, ← hk]; have : p0 = (p0.toNat : Int) := by omega
                                                 rw [this]; simp
  have m1 : p1.tmod 16 = (s : Int) := by rw [Int.tmod_eq_emod_of_nonneg y1.1]; omega
  have k0 : (0 : Int) ≤ k := by omega
  have k1 : (k : Int) < nR := by omega
  have n0 : (nR : Int) ≠ 0 := by omega
  clear t2 e0 e1 hx hk hr hs T1
  obtain ⟨Bk, hBk⟩ : ∃ Bk, pt ks r s 77 = Bk := ⟨_, rfl⟩
  obtain ⟨q, hq⟩ : ∃ q, ptR ks = q := ⟨_, rfl⟩
  have TB : Hid (TrOk Bk q) := by rw [← hBk, ← hq]; exact pt_ok TO.out hs15 (by omega)
  have LB : Hid (Bk.length = m + 2) := by show _ = _; rw [← hBk, pt_len2, HM.out]
  have GS : Hid (getT Bk q (s : Int) = 77) := by show _ = _; rw [← hBk, ← hq, pt_get TO.out hs15 (by omega) hs15, if_pos rfl]
  have GO : Hid (∀ i : Nat, i ≤ 15 → i ≠ s → getT Bk q (i : Int) = getT ks r (i : Int)) := fun i hi hne => by rw [← hBk, ← hq, pt_get TO.out hs15 (by omega) hi, if_neg hne]
  have AK : Hid (∀ k ∈ R, allT Bk k = allT ks k) := fun k hk => by rw [← hBk]; exact all_keep TO.out hs15 (by omega) (OK.out.2.1 k hk)
  have SP : Hid (2 ≤ shareT Bk q q ∧ shareT Bk q r ≤ 3 ∧ shareT Bk (-1) q = 0) := by show _ ∧ _; rw [← hBk, ← hq]; exact share_put TO.out hs15 (by omega)
  have HBK2 := hide hBk
  have HQ2 := hide hq
  clear hBk hq
  go_wp2_with fail
  refine (gput_tk HP.out TO.out hs15 (by omega) T2.out 3 HM.out (by omega) rfl).mono ?_
  rintro e w3 ⟨ba, bc, rfl, t_w3, s_w3⟩
  rw [HBK2.out] at t_w3
  rw [HQ2.out]
  obtain ⟨lB, hlB⟩ : ∃ lB, w2.heap.size = lB := ⟨_, rfl⟩
  obtain ⟨hB, hhB⟩ : ∃ hB, w3.heap.size = hB := ⟨_, rfl⟩
  have T3 : Hid (Tk w0 (w3.alloc (.cells #[.slice ba (m + 2) bc] 77)) [(w3.heap.size, w3.heap.size + 1, Cel w3.heap.size #[.slice ba (m + 2) bc] 77), (lB, hB, Kns lB hB (.slice ba (m + 2) bc) Bk), (w1.heap.size, w1.heap.size + 1, Cel w1.heap.size #[.slice va m vc] 77), (g, g + 1, Flt 3 g (icells R)), (lo, hi, Kns lo hi (.slice va m vc) ks)]) := by
    have := (t_w3.cell #[.slice ba (m + 2) bc] 77).drop (hs' := [(w3.heap.size, w3.heap.size + 1, Cel w3.heap.size #[.slice ba (m + 2) bc] 77), (w2.heap.size, w3.heap.size, Kns w2.heap.size w3.heap.size (.slice ba (m + 2) bc) Bk), (w1.heap.size, w1.heap.size + 1, Cel w1.heap.size #[.slice va m vc] 77), (g, g + 1, Flt 3 g (icells R)), (lo, hi, Kns lo hi (.slice va m vc) ks)]) (by
      intro x hx
      simp only [List.mem_cons, List.not_mem_nil, or_false] at hx ⊢
      rcases hx with rfl | rfl | rfl | rfl | rfl
      · exact .inl rfl
      · exact .inr (.inl rfl)
      · exact .inr (.inr (.inr (.inl rfl)))
      · exact .inr (.inr (.inr (.inr (.inl rfl))))
      · exact .inr (.inr (.inr (.inr (.inr rfl)))))
    rw [hlB, hhB] at this
    rw [← hhB]
    rw [← hhB] at this
    exact this
  clear t_w3 T2 c0 c1 cr ca hlB hhB
  have ca : (w3.alloc (.cells #[.slice ba (m + 2) bc] 77)).cell? ⟨w1.heap.size, 0, none⟩ = some (.slice va m vc) := T3.out.at 2 0 rfl rfl
  go_wp2_with fail
  generalize w3.alloc (.cells #[.slice ba (m + 2) bc] 77) = w3b at T3 ca ⊢
  obtain ⟨c3, hc3⟩ : ∃ c3, w3.heap.size = c3 := ⟨_, rfl⟩
  obtain ⟨c1, hc1⟩ : ∃ c1, w1.heap.size = c1 := ⟨_, rfl⟩
  rw [hc3] at T3 ⊢
  rw [hc1] at T3 ca ⊢
  clear hc3 hc1
  refine (gok_tk HO.out T3.out 4 HM.out (by omega) rfl).mono ?_
  rintro e w4 ⟨rfl, t4, -⟩
  have T4 := hide t4
  rw [TO.out.1]
  have cb : w4.cell? ⟨c3, 0, none⟩ = some (.slice ba (m + 2) bc) := t4.at 0 0 rfl rfl
  clear t4 T3 ca
  go_wp2_with fail
  refine (gok_tk HO.out T4.out 1 LB.out (by omega) rfl).mono ?_
  rintro e w5 ⟨rfl, t5, -⟩
  have T5 := hide t5
  rw [TB.out.1]
  clear cb
  have cb : w5.cell? ⟨c3, 0, none⟩ = some (.slice ba (m + 2) bc) := t5.at 0 0 rfl rfl
  clear t5 T4
  go_wp2_with fail
  refine (gget_tk (r := q) (s := (s : Int)) HG.out T5.out 1 LB.out (by omega) rfl).mono ?_
  rintro e w6 ⟨rfl, t6, -⟩
  have T6 := hide t6
  rw [GS.out]
  clear t6 T5 cb
  go_wp2
  go_loopw [10] (fun iv W => ∃ i : Nat, i ≤ 16 ∧ iv = .int .i64 i ∧ Hid (Tk w0 W [(c3, c3 + 1, Cel c3 #[.slice ba (m + 2) bc] 77), (lB, hB, Kns lB hB (.slice ba (m + 2) bc) Bk), (c1, c1 + 1, Cel c1 #[.slice va m vc] 77), (g, g + 1, Flt 3 g (icells R)), (lo, hi, Kns lo hi (.slice va m vc) ks)])) (fun iv _ => 16 - (intOf iv).toNat)
  case atStart => exact ⟨0, by omega, rfl, T6⟩
  case round =>
    obtain ⟨i, hi16, rfl, TL⟩ := hrel
    clear T6
    have cb : wr.cell? ⟨c3, 0, none⟩ = some (.slice ba (m + 2) bc) := TL.out.at 0 0 rfl rfl
    have ca : wr.cell? ⟨c1, 0, none⟩ = some (.slice va m vc) := TL.out.at 2 0 rfl rfl
    by_cases hlt : (i : Int) < 16
    · by_cases his : i = s
      · have hg : ((i : Int) != (s : Int)) = false := by simp [his]
        clear his
        go_wp2
        go_quiet (fail)
        have TN := hide (TL.out.drewN nq)
        go_wp2
        go_roundw
        case rel => exact ⟨i + 1, by omega, by go_num, TN⟩
        case measure => simp [intOf]; omega
      · have hg : ((i : Int) != (s : Int)) = true := by simp; omega
        have GE := hide (GO.out i (by omega) his)
        have TD := hide TL.out.drew
        have C1 := hide (gget_tk (r := q) (s := (i : Int)) HG.out TD.out 1 LB.out (by omega) rfl)
        obtain ⟨gv, hgv⟩ : ∃ gv, getT ks r (i : Int) = gv := ⟨_, rfl⟩
        rw [hgv] at GE
        have HGV := hide hgv
        have hne : (gv != gv) = false := by simp
        clear his hgv TL
        have KP : Hid True := trivial
        go_wp2
        go_region_held3 (fun w' => w'.cell? ⟨c3, 0, none⟩ = some (.slice ba (m + 2) bc) ∧ w'.cell? ⟨c1, 0, none⟩ = some (.slice va m vc)) (first | exact KP.out | go_keep) (first
          | (go_at_call 42; (with_reducible refine Calls.mono C1.out ?_); rintro en w7 ⟨rfl, t7, -⟩; rw [GE.out]; have T7 := hide t7; clear t7 C1 KP; have KP : Hid (w7.cell? ⟨c3, 0, none⟩ = some (.slice ba (m + 2) bc) ∧ w7.cell? ⟨c1, 0, none⟩ = some (.slice va m vc)) := ⟨T7.out.at 0 0 rfl rfl, T7.out.at 2 0 rfl rfl⟩; have C2 := hide (gget_tk (r := r) (s := (i : Int)) sgetAt T7.out 4 HM.out (by omega) rfl))
          | (go_at_call 43; (with_reducible refine Calls.mono C2.out ?_); rintro en w8 ⟨rfl, t8, -⟩; rw [HGV.out]; have T8 := hide t8; clear t8 C2 KP T7; have KP : Hid (w8.cell? ⟨c3, 0, none⟩ = some (.slice ba (m + 2) bc) ∧ w8.cell? ⟨c1, 0, none⟩ = some (.slice va m vc)) := ⟨T8.out.at 0 0 rfl rfl, T8.out.at 2 0 rfl rfl⟩))
        all_goals
          go_wp2
          go_roundw
          case rel => exact ⟨i + 1, by omega, by go_num, T8⟩
          case measure => simp [intOf]; omega
    · clear cb ca
      go_wp2
      go_loopw [11] (fun iv W => ∃ i : Nat, i ≤ nR ∧ iv = .int .i64 i ∧ Hid (Tk w0 W [(c3, c3 + 1, Cel c3 #[.slice ba (m + 2) bc] 77), (lB, hB, Kns lB hB (.slice ba (m + 2) bc) Bk), (c1, c1 + 1, Cel c1 #[.slice va m vc] 77), (g, g + 1, Flt 3 g (icells R)), (lo, hi, Kns lo hi (.slice va m vc) ks)])) (fun iv _ => nR - (intOf iv).toNat)
      case atStart => exact ⟨0, by omega, rfl, TL⟩
      case round =>
        obtain ⟨j, hj, rfl, TM⟩ := hrel
        clear TL
        have cb : wr.cell? ⟨c3, 0, none⟩ = some (.slice ba (m + 2) bc) := TM.out.at 0 0 rfl rfl
        have ca : wr.cell? ⟨c1, 0, none⟩ = some (.slice va m vc) := TM.out.at 2 0 rfl rfl
        by_cases hlt2 : (j : Int) < nR
        · obtain ⟨rj, hrj⟩ : ∃ x, R[j]? = some x := ⟨_, List.getElem?_eq_getElem (by have := HNR.out; omega)⟩
          have cj : wr.cell? ⟨g, j, none⟩ = some (.int .i64 rj) := (show Flt 3 g (icells R) wr from TM.out.get 3 rfl).cell (icells_get hrj)
          have HRJ := hide hrj
          have AJ := hide (AK.out rj (List.mem_of_getElem? hrj))
          have j0 : (0 : Int) ≤ j := by omega
          have TD := hide TM.out.drew
          have C1 := hide (gall_tk (r := rj) HA.out TD.out 1 LB.out (by omega) rfl)
          rw [AJ.out] at C1
          clear hrj TM
          have KP : Hid True := trivial
          go_wp2
          go_region_held3 (fun w' => w'.cell? ⟨c3, 0, none⟩ = some (.slice ba (m + 2) bc) ∧ w'.cell? ⟨c1, 0, none⟩ = some (.slice va m vc) ∧ w'.cell? ⟨g, j, none⟩ = some (.int .i64 rj)) (first | exact KP.out | go_keep) (first
            | (go_at_call 45; (with_reducible refine Calls.mono C1.out ?_); rintro en w7 ⟨a7, c7, rfl, t7, -⟩; have T7 := hide t7; clear t7 C1 KP; have KP : Hid ((fun w' : World => w'.cell? ⟨c3, 0, none⟩ = some (.slice ba (m + 2) bc) ∧ w'.cell? ⟨c1, 0, none⟩ = some (.slice va m vc) ∧ w'.cell? ⟨g, j, none⟩ = some (.int .i64 rj)) w7) := ⟨T7.out.at 1 0 rfl rfl, T7.out.at 3 0 rfl rfl, (show Flt 3 g (icells R) w7 from T7.out.get 4 rfl).cell (icells_get HRJ.out)⟩; have C2 := hide (gall_tk (r := rj) sall T7.out 5 HM.out (by omega) rfl))
            | (go_at_call 46; (with_reducible refine Calls.mono C2.out ?_); rintro en w8 ⟨a8, c8, rfl, t8, -⟩; have T8 := hide t8; clear t8 C2 KP T7; have KP : Hid ((fun w' : World => w'.cell? ⟨c3, 0, none⟩ = some (.slice ba (m + 2) bc) ∧ w'.cell? ⟨c1, 0, none⟩ = some (.slice va m vc) ∧ w'.cell? ⟨g, j, none⟩ = some (.int .i64 rj)) w8) := ⟨T8.out.at 2 0 rfl rfl, T8.out.at 4 0 rfl rfl, (show Flt 3 g (icells R) w8 from T8.out.get 5 rfl).cell (icells_get HRJ.out)⟩; have C3 := hide (same_tk T8.out 1 0 (allT_len _ _) rfl rfl))
            | (go_at_call 44; (with_reducible refine Calls.mono C3.out ?_); rintro en w9 ⟨rfl, t9, -⟩; have T9 := hide (t9.drop (hs' := [(c3, c3 + 1, Cel c3 #[.slice ba (m + 2) bc] 77), (lB, hB, Kns lB hB (.slice ba (m + 2) bc) Bk), (c1, c1 + 1, Cel c1 #[.slice va m vc] 77), (g, g + 1, Flt 3 g (icells R)), (lo, hi, Kns lo hi (.slice va m vc) ks)]) (fun x hx => List.mem_cons_of_mem _ (List.mem_cons_of_mem _ hx))); clear t9 C3 KP T8; have KP : Hid ((fun w' : World => w'.cell? ⟨c3, 0, none⟩ = some (.slice ba (m + 2) bc) ∧ w'.cell? ⟨c1, 0, none⟩ = some (.slice va m vc) ∧ w'.cell? ⟨g, j, none⟩ = some (.int .i64 rj)) w9) := ⟨T9.out.at 0 0 rfl rfl, T9.out.at 2 0 rfl rfl, (show Flt 3 g (icells R) w9 from T9.out.get 3 rfl).cell (icells_get HRJ.out)⟩))
          all_goals
            go_wp2
            go_roundw
            case rel => exact ⟨j + 1, by omega, by go_num, T9⟩
            case measure => simp [intOf]; omega
        · obtain ⟨n1, hn1⟩ : ∃ n1, shareT Bk q q = n1 := ⟨_, rfl⟩
          obtain ⟨n2, hn2⟩ : ∃ n2, shareT Bk q r = n2 := ⟨_, rfl⟩
          obtain ⟨p1, p2, p3⟩ := SP.out
          rw [hn1] at p1
          rw [hn2] at p2
          have N1 := hide hn1
          have N2 := hide hn2
          have N3 := hide p3
          have hee : (n2 == n2) = true := by simp
          have g1 : decide ((2 : Int) ≤ n1) = true := decide_eq_true p1
          have g2 : decide (n2 ≤ (3 : Int)) = true := decide_eq_true p2
          have TD := hide TM.out.drew
          have C1 := hide (gshare_tk (r := q) (s := q) HS.out TD.out 1 LB.out (by omega) rfl)
          clear hn1 hn2 p3 ca TM
          have KP : Hid True := trivial
          go_wp2
          go_region_held3 (fun w' => w'.cell? ⟨c3, 0, none⟩ = some (.slice ba (m + 2) bc)) (first | exact KP.out | go_keep) (first
            | (go_at_call 47; (with_reducible refine Calls.mono C1.out ?_); rintro en w7 ⟨rfl, t7, -⟩; rw [N1.out]; have T7 := hide t7; clear t7 C1 KP; have KP : Hid (w7.cell? ⟨c3, 0, none⟩ = some (.slice ba (m + 2) bc)) := T7.out.at 0 0 rfl rfl; have C2 := hide (gshare_tk (r := q) (s := r) HS.out T7.out 1 LB.out (by omega) rfl))
            | (go_at_call 47; (with_reducible refine Calls.mono C2.out ?_); rintro en w8 ⟨rfl, t8, -⟩; rw [N2.out]; have T8 := hide t8; clear t8 C2 KP T7; have KP : Hid (w8.cell? ⟨c3, 0, none⟩ = some (.slice ba (m + 2) bc)) := T8.out.at 0 0 rfl rfl; have C3 := hide (gshare_tk (r := -1) (s := q) HS.out T8.out 1 LB.out (by omega) rfl))
            | (go_at_call 47; (with_reducible refine Calls.mono C3.out ?_); rintro en w9 ⟨rfl, t9, -⟩; rw [N3.out]; have T9 := hide t9; clear t9 C3 KP T8; have KP : Hid (w9.cell? ⟨c3, 0, none⟩ = some (.slice ba (m + 2) bc)) := T9.out.at 0 0 rfl rfl; have C4 := hide (gshare_tk (r := q) (s := r) HS.out T9.out 1 LB.out (by omega) rfl))
            | (go_at_call 47; (with_reducible refine Calls.mono C4.out ?_); rintro en w10 ⟨rfl, t10, -⟩; rw [N2.out]; have T10 := hide t10; clear t10 C4 KP T9; have KP : Hid (w10.cell? ⟨c3, 0, none⟩ = some (.slice ba (m + 2) bc)) := T10.out.at 0 0 rfl rfl; have C5 := hide (gshare_tk (r := q) (s := r) sshared T10.out 1 LB.out (by omega) rfl))
            | (go_at_call 48; (with_reducible refine Calls.mono C5.out ?_); rintro en w11 ⟨rfl, t11, -⟩; rw [N2.out]; have T11 := hide t11; clear t11 C5 KP T10; have KP : Hid (w11.cell? ⟨c3, 0, none⟩ = some (.slice ba (m + 2) bc)) := T11.out.at 0 0 rfl rfl))
          all_goals
            go_wp2
            go_ret
            exact ⟨rfl, T11.out.1⟩
end Go.Proofs.Ytnebelflnpbbiac
