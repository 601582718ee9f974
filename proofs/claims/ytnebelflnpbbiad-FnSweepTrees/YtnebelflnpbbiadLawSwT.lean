/-
  FnSweepTrees, of what the program answers.
-/
import Derived.Test.YtnebelflnpbbiadPk15
import Derived.Test.YtnebelflnpbbiadPk27
import Derived.Test.YtnebelflnpbbiadSAll
import Derived.Test.YtnebelflnpbbiadPk29
import Derived.Deep.RegionHeld3
namespace Go.Proofs.Ytnebelflnpbbiad
open Go.RowKit
open Words


set_option maxHeartbeats 8000000 in
set_option maxRecDepth 100000 in
theorem lawSwT_of (ad : Option Addr) (len cap : Nat) (w : World) (hd : CodeIn w ad len w.heap.size) (HA : Hid (AllC 10)) (HO : Hid (ArC 8)) (HW : Hid (SweepC 7)) :
    Calls Try.prog 3 #[.slice ad len cap] w fun e w' => e = .returned (.bool true) ∧ Below w.heap.size w w' := by
  have HD := hide hd
  clear hd
  by_cases hbig : (1048576 : Int) < len
  · go_enter Try.func3, Try.ntmps3
    go_wp2_with fail
    refine (big_any ad len cap _).mono ?_
    rintro e w1 ⟨rfl, rfl⟩
    rw [decide_eq_true hbig]
    go_wp2
    go_ret
    exact ⟨rfl, Below.refl _ _⟩
  have hl2 : len ≤ 1048576 := by omega
  have hbd : decide ((1048576 : Int) < len) = false := decide_eq_false hbig
  clear hbig
  go_enter Try.func3, Try.ntmps3
  go_wp2_with fail
  refine (big_any ad len cap _).mono ?_
  rintro e w0 ⟨rfl, hw0⟩
  subst hw0
  rw [hbd]
  clear hbd
  go_wp2_with fail
  refine (forest_tk (Tk.start w0) hl2 HD.out).mono ?_
  rintro e w1 ⟨va, vc, g, rc, ks, R, lo, hi, rfl, ⟨h8, h1, ok⟩, t1, s1⟩
  have T1 := hide (t1.cell #[.slice va ks.length vc] 26)
  have OK := hide ok
  have hk14 : ks.length ≤ 14 := by have := ok.2.2.2; omega
  obtain ⟨m, hm⟩ : ∃ m, ks.length = m := ⟨_, rfl⟩
  obtain ⟨nR, hnR⟩ : ∃ nR, R.length = nR := ⟨_, rfl⟩
  rw [hm] at T1 hk14 ⊢
  rw [hnR] at h8 h1 ⊢
  have HM := hide hm
  have HNR := hide hnR
  clear t1 ok hm hnR
  go_wp2_with fail
  generalize w1.alloc (.cells #[.slice va m vc] 26) = w1b at T1 ⊢
  refine (places_tk T1.out hl2 HD.out).mono ?_
  rintro e w2 ⟨pg, cp, l, rfl, ⟨h12, hx⟩, t2, s2⟩
  have T2 := hide t2
  have HL12 := hide h12
  have HLX := hide hx
  have O0 : Hid ((w2.alloc (.cells #[] 3)).ownsRow w2.heap.size 3 1 (.slice (some ⟨w2.heap.size, 0, none⟩) 0 0) 0 []) := ⟨rfl, .inr ⟨w2.heap.size, 0, #[], rfl, Nat.le_refl _, heap_alloc_new w2 _, Nat.le_refl _, by unfold maxLen; omega, rfl, rfl⟩⟩
  have TA := hide (T2.out.below ((Below.refl _ _).alloc (Nat.le_refl _) (.cells #[] 3)))
  have HIB : Hid (∀ x ∈ ([(pg, pg + 1, PlH pg l), (w1.heap.size, w1.heap.size + 1, Cel w1.heap.size #[.slice va m vc] 26), (g, g + 1, Flt 3 g (icells R)), (lo, hi, Kns lo hi (.slice va m vc) ks)] : List Hold), x.2.1 ≤ w2.heap.size) := fun x hx => (T2.out.2 x hx).1
  have hw0 : w0.heap.size ≤ w2.heap.size := T2.out.1.size
  obtain ⟨i0, hi0, hz0, hz1, hz2⟩ := info_parts infoInt
  have I0 := hide hi0
  have Y0 := hide hz0
  have Y1 := hide hz1
  have Y2 := hide hz2
  clear hi0 hz0 hz1 hz2 t2 T1 T2 hx h12
  go_wp2
  have BW0 : w2.heap.size ≤ (w2.alloc (.cells #[] 3)).heap.size := by simp
  generalize w2.alloc (.cells #[] 3) = w2b at O0 TA BW0 ⊢
  obtain ⟨B, hB⟩ : ∃ B, w2.heap.size = B := ⟨_, rfl⟩
  rw [hB] at O0 HIB hw0 BW0 ⊢
  clear hB
  go_loopw [6, 7] (fun sv iv W => ∃ (i : Nat) (sm : List Int), i ≤ nR ∧ iv = .int .i64 i ∧ sm.length ≤ i ∧ Hid (∀ r ∈ sm, r ∈ R) ∧ Hid (W.ownsRow B 3 1 sv sm.length (icells sm)) ∧ Hid (Tk w0 W [(pg, pg + 1, PlH pg l), (w1.heap.size, w1.heap.size + 1, Cel w1.heap.size #[.slice va m vc] 26), (g, g + 1, Flt 3 g (icells R)), (lo, hi, Kns lo hi (.slice va m vc) ks)]) ∧ B ≤ W.heap.size) (fun _ iv _ => nR - (intOf iv).toNat)
  case atStart => exact ⟨0, [], Nat.zero_le _, rfl, Nat.le_refl _, (fun _ h => by cases h), O0, TA, BW0⟩
  case round =>
    obtain ⟨i, sm, hin, rfl, hsi, HSM, OW, TL, hBW⟩ := hrel
    clear O0 TA
    obtain ⟨sa, sc, hsv, -⟩ := (Sli.of OW.out).form
    subst hsv
    by_cases hlt : (i : Int) < nR
    · obtain ⟨p, hp⟩ : ∃ x, l[i]? = some x := ⟨_, List.getElem?_eq_getElem (by have := HL12.out; omega)⟩
      obtain ⟨r, hr⟩ : ∃ x, R[i]? = some x := ⟨_, List.getElem?_eq_getElem (by have := HNR.out; omega)⟩
      have yp := HLX.out p (List.mem_of_getElem? hp)
      have cp0 : wr.cell? ⟨pg, i, none⟩ = some (.int .i64 p) := (show PlH pg l wr from TL.out.get 0 rfl) i p hp
      have cr0 : wr.cell? ⟨g, i, none⟩ = some (.int .i64 r) := (show Flt 3 g (icells R) wr from TL.out.get 2 rfl).cell (icells_get hr)
      have m12 : (i : Int).tmod 12 = (i : Int) := by rw [Int.tmod_eq_emod_of_nonneg (by omega)]; omega
      have m12' : (i : Int) % 12 = (i : Int) := by omega
      have i00 : (0 : Int) ≤ i := by omega
      have i12 : (i : Int) < 12 := by omega
      obtain ⟨pm, hpm⟩ : ∃ pm, p.tmod 2 = pm := ⟨_, rfl⟩
      have hpm2 : p % 2 = pm := by rw [← hpm, Int.tmod_eq_emod_of_nonneg yp.1]
      have HRM := hide (List.mem_of_getElem? hr)
      clear hp hr
      by_cases hpz : pm = 0
      · subst hpz
        have BA : Hid (Below wr.heap.size wr (wr.alloc (.cells #[.int .i64 r] 3))) := (Below.refl _ _).alloc (Nat.le_refl _) _
        have OWN := hide (own_below OW.out BA.out)
        have TB := hide (TL.out.below BA.out)
        have HBS : Hid (B ≤ (wr.alloc (.cells #[.int .i64 r] 3)).heap.size) := by
          have h1 : B ≤ wr.heap.size := hBW
          show _ ≤ _
          simp; omega
        obtain ⟨n, hn⟩ : ∃ n, sm.length = n := ⟨_, rfl⟩
        rw [hn] at OWN hsi ⊢
        have HN := hide hn
        clear hn OW TL
        go_wp2_with (at_builtin; refine wpList_append_own _ rfl _ _ 27 rfl B 3 i0 (.int .i64 0) 1 8 Try.underlying27 I0.out Y0.out Y1.out Y2.out rfl (by decide) _ _ _ rfl OWN.out ⟨wr.heap.size, 0, none⟩ 1 1 [Value.int .i64 r] rfl rfl (one_cell _ _ _) (one_i64 _) ?c1 ?c2 HBS.out ?_)
        case c1 => unfold maxLen; omega
        case c2 => omega
        intro u' y ho hgr _
        have ho2 : y.ownsRow B 3 1 u' (sm ++ [r]).length (icells (sm ++ [r])) := by rw [← icells_snoc, List.length_append, HN.out]; exact ho
        have TY : Hid (Tk w0 y [(pg, pg + 1, PlH pg l), (w1.heap.size, w1.heap.size + 1, Cel w1.heap.size #[.slice va m vc] 26), (g, g + 1, Flt 3 g (icells R)), (lo, hi, Kns lo hi (.slice va m vc) ks)]) := TB.out.grownB (B := B) hgr (fun q hq => (own_kind OWN.out q hq).1) hw0 HIB.out
        have HO2 := hide ho2
        have hBY : B ≤ y.heap.size := Nat.le_trans HBS.out hgr.size
        have HM2 : Hid (∀ x ∈ sm ++ [r], x ∈ R) := fun x hx => by
          rcases List.mem_append.1 hx with hx | hx
          · exact HSM.out x hx
          · simp only [List.mem_singleton] at hx; rw [hx]; exact HRM.out
        have hl2 : (sm ++ [r]).length ≤ i + 1 := by rw [List.length_append, HN.out]; simp; omega
        obtain ⟨ua, uc, hu, -⟩ := (Sli.of ho2).form
        subst hu
        generalize sm ++ [r] = sm2 at HO2 HM2 hl2
        clear ho ho2 hgr OWN TB BA HBS
        go_wp2
        go_roundw
        case rel => exact ⟨i + 1, sm2, by omega, by go_num, hl2, HM2, HO2, TY, hBY⟩
        case measure => simp [intOf]; omega
      · have hpb : (pm == 0) = false := by simpa using hpz
        go_wp2
        go_roundw
        case rel => exact ⟨i + 1, sm, by omega, by go_num, by omega, HSM, OW, TL, hBW⟩
        case measure => simp [intOf]; omega
    · obtain ⟨n, hn⟩ : ∃ n, sm.length = n := ⟨_, rfl⟩
      have hn8 : n ≤ 8 := by omega
      have HN := hide hn
      rw [hn] at OW
      have TS : Hid (Tk w0 wr ((B, wr.heap.size, Sli 3 B wr.heap.size (.slice sa n sc) n (icells sm)) :: [(pg, pg + 1, PlH pg l), (w1.heap.size, w1.heap.size + 1, Cel w1.heap.size #[.slice va m vc] 26), (g, g + 1, Flt 3 g (icells R)), (lo, hi, Kns lo hi (.slice va m vc) ks)])) := TL.out.put (Nat.le_refl _) (Sli.loc _ _ _ _ _ _) (Sli.of OW.out)
      obtain ⟨hB, hhB⟩ : ∃ hB, wr.heap.size = hB := ⟨_, rfl⟩
      rw [hhB] at TS
      have TO : Hid (TrsOk ks sm) := ⟨OK.out.1, fun r hr => OK.out.2.1 r (HSM.out r hr)⟩
      have K4 : Hid (∀ x ∈ ks, x.kids.length ≤ 1048576) := fun x hx => by
        obtain ⟨i, hi⟩ := List.getElem?_of_mem hx
        rw [knB_len (arB_at OK.out.1 hi)]; omega
      have ca : wr.cell? ⟨w1.heap.size, 0, none⟩ = some (.slice va m vc) := TS.out.at 2 0 rfl rfl
      clear hn hhB OW TL
      rw [HN.out]
      go_wp2_with fail
      refine (gsweep_tk HW.out K4.out TS.out 4 0 HM.out (by omega) HN.out (by omega) rfl rfl).mono ?_
      rw [(sweepR_ok TO.out).1, (sweepR_ok TO.out).2]
      rintro e w3 ⟨ba, bc, na, nc, lo1, hi1, lo2, hi2, rfl, t3, -, -, -, -⟩
      have ST := hide (sw_trs TO.out)
      have SAG := hide (sw_again TO.out)
      have SAL : Hid (∀ r ∈ sm, allT (swL ks sm) (swP (swU ks sm) r) = allT ks r) := fun r hr => sw_all TO.out hr
      have SLE : Hid ((swL ks sm).length ≤ m) := by show _ ≤ _; rw [← HM.out]; exact sw_less
      obtain ⟨Bk, hBk⟩ : ∃ Bk, swL ks sm = Bk := ⟨_, rfl⟩
      obtain ⟨NW, hNW⟩ : ∃ NW, sm.map (swP (swU ks sm)) = NW := ⟨_, rfl⟩
      have HNW := hide hNW
      rw [hBk] at t3 ST SAG SAL SLE ⊢
      rw [hNW] at t3 ST SAG
      obtain ⟨bl, hbl⟩ : ∃ bl, Bk.length = bl := ⟨_, rfl⟩
      rw [hbl] at t3 SAG SLE ⊢
      have HBL := hide hbl
      have NWL : Hid (NW.length = n) := by show _ = _; rw [← hNW, List.length_map]; exact HN.out
      have KB : Hid (∀ x ∈ Bk, x.kids.length ≤ 1048576) := fun x hx => by
        obtain ⟨i, hi⟩ := List.getElem?_of_mem hx
        rw [knB_len (arB_at ST.out.1 hi)]; omega
      have blm := SLE.out
      obtain ⟨c1, hc1⟩ : ∃ c1, w1.heap.size = c1 := ⟨_, rfl⟩
      obtain ⟨cb, hcb⟩ : ∃ cb, w3.heap.size = cb := ⟨_, rfl⟩
      obtain ⟨lB, hlB⟩ : ∃ lB, B = lB := ⟨_, rfl⟩
      have T4 : Hid (Tk w0 (w3.alloc (.cells #[.slice ba bl bc] 26)) [(cb, cb + 1, Cel cb #[.slice ba bl bc] 26), (lo2, hi2, Sli 3 lo2 hi2 (.slice na n nc) n (icells NW)), (lo1, hi1, Kns lo1 hi1 (.slice ba bl bc) Bk), (lB, hB, Sli 3 lB hB (.slice sa n sc) n (icells sm)), (c1, c1 + 1, Cel c1 #[.slice va m vc] 26), (lo, hi, Kns lo hi (.slice va m vc) ks)]) := by
        have := (t3.cell #[.slice ba bl bc] 26).drop (hs' := [(w3.heap.size, w3.heap.size + 1, Cel w3.heap.size #[.slice ba bl bc] 26), (lo2, hi2, Sli 3 lo2 hi2 (.slice na n nc) n (icells NW)), (lo1, hi1, Kns lo1 hi1 (.slice ba bl bc) Bk), (B, hB, Sli 3 B hB (.slice sa n sc) n (icells sm)), (w1.heap.size, w1.heap.size + 1, Cel w1.heap.size #[.slice va m vc] 26), (lo, hi, Kns lo hi (.slice va m vc) ks)]) (by
          intro x hx
          simp only [List.mem_cons, List.not_mem_nil, or_false] at hx ⊢
          rcases hx with rfl | rfl | rfl | rfl | rfl | rfl
          · exact .inl rfl
          · exact .inr (.inl rfl)
          · exact .inr (.inr (.inl rfl))
          · exact .inr (.inr (.inr (.inl rfl)))
          · exact .inr (.inr (.inr (.inr (.inr (.inl rfl)))))
          · exact .inr (.inr (.inr (.inr (.inr (.inr (.inr rfl)))))))
        rw [hc1, hcb, hlB] at this
        exact this
      have cbb : (w3.alloc (.cells #[.slice ba bl bc] 26)).cell? ⟨w3.heap.size, 0, none⟩ = some (.slice ba bl bc) := by rw [hcb]; exact T4.out.at 0 0 rfl rfl
      clear t3 TS ca hBk hNW hbl hlB
      go_wp2_with fail
      try rw [hcb] at cbb
      clear hcb hc1
      generalize w3.alloc (.cells #[.slice ba bl bc] 26) = w3b at T4 cbb ⊢
      refine (gok_tk HO.out T4.out 2 HBL.out (by omega) rfl).mono ?_
      rw [ST.out.1]
      rintro e w4 ⟨rfl, t4, -⟩
      have T5 := hide t4
      have cb4 : w4.cell? ⟨cb, 0, none⟩ = some (.slice ba bl bc) := t4.at 0 0 rfl rfl
      have ca4 : w4.cell? ⟨c1, 0, none⟩ = some (.slice va m vc) := t4.at 4 0 rfl rfl
      have hnn : ((n : Int) != (n : Int)) = false := by simp
      have hgt : decide ((m : Int) < (bl : Int)) = false := decide_eq_false (by omega)
      have hgt2 : decide (m < bl) = false := decide_eq_false (by omega)
      clear t4 T4 cbb
      go_wp2
      go_loopw [10] (fun iv W => ∃ j : Nat, j ≤ n ∧ iv = .int .i64 j ∧ Hid (Tk w0 W [(cb, cb + 1, Cel cb #[.slice ba bl bc] 26), (lo2, hi2, Sli 3 lo2 hi2 (.slice na n nc) n (icells NW)), (lo1, hi1, Kns lo1 hi1 (.slice ba bl bc) Bk), (lB, hB, Sli 3 lB hB (.slice sa n sc) n (icells sm)), (c1, c1 + 1, Cel c1 #[.slice va m vc] 26), (lo, hi, Kns lo hi (.slice va m vc) ks)])) (fun iv _ => n - (intOf iv).toNat)
      case atStart => exact ⟨0, Nat.zero_le _, rfl, T5⟩
      case round =>
        obtain ⟨j, hj, rfl, TM⟩ := hrel
        clear T5 cb4 ca4
        have cb5 : wr.cell? ⟨cb, 0, none⟩ = some (.slice ba bl bc) := TM.out.at 0 0 rfl rfl
        by_cases hlt2 : (j : Int) < n
        · obtain ⟨sj, hsj⟩ : ∃ x, sm[j]? = some x := ⟨_, List.getElem?_eq_getElem (by have := HN.out; omega)⟩
          obtain ⟨nj, hnj⟩ : ∃ x, NW[j]? = some x := ⟨_, List.getElem?_eq_getElem (by have := NWL.out; omega)⟩
          have hSn : Sli 3 lo2 hi2 (.slice na n nc) n (icells NW) wr := TM.out.get 1 rfl
          have hSs : Sli 3 lB hB (.slice sa n sc) n (icells sm) wr := TM.out.get 3 rfl
          obtain ⟨ng, hng⟩ : ∃ ng, na = some ⟨ng, 0, none⟩ := by
            obtain ⟨ad', c', e, q⟩ := hSn.form
            injection e with e1 e2 e3
            subst e1
            obtain ⟨ng, e, -⟩ := q (by omega)
            exact ⟨ng, e⟩
          obtain ⟨sg, hsg⟩ : ∃ sg, sa = some ⟨sg, 0, none⟩ := by
            obtain ⟨ad', c', e, q⟩ := hSs.form
            injection e with e1 e2 e3
            subst e1
            obtain ⟨sg, e, -⟩ := q (by omega)
            exact ⟨sg, e⟩
          subst hng hsg
          have cn5 : wr.cell? ⟨ng, j, none⟩ = some (.int .i64 nj) := hSn.flt.cell (icells_get hnj)
          have cs5 : wr.cell? ⟨sg, j, none⟩ = some (.int .i64 sj) := hSs.flt.cell (icells_get hsj)
          have ca5 : wr.cell? ⟨c1, 0, none⟩ = some (.slice va m vc) := TM.out.at 4 0 rfl rfl
          have j0 : (0 : Int) ≤ j := by omega
          have AJ : Hid (allT Bk nj = allT ks sj) := by
            show _ = _
            have e : nj = swP (swU ks sm) sj := by
              rw [← HNW.out, List.getElem?_map, hsj] at hnj
              exact (Option.some.inj hnj).symm
            rw [e]
            exact SAL.out sj (List.mem_of_getElem? hsj)
          have HSJ := hide hsj
          have HNJ := hide hnj
          have TD := hide TM.out.drew
          have C1 := hide (gall_tk (r := nj) HA.out TD.out 2 HBL.out (by omega) rfl)
          rw [AJ.out] at C1
          clear hsj hnj hSn hSs TM
          have KP : Hid True := trivial
          go_wp2
          go_region_held3 (fun w' => w'.cell? ⟨cb, 0, none⟩ = some (.slice ba bl bc) ∧ w'.cell? ⟨ng, j, none⟩ = some (.int .i64 nj) ∧ w'.cell? ⟨c1, 0, none⟩ = some (.slice va m vc) ∧ w'.cell? ⟨sg, j, none⟩ = some (.int .i64 sj)) (first | exact KP.out | go_keep) (first
            | (go_at_call 10; (with_reducible refine Calls.mono C1.out ?_); rintro en w7 ⟨a7, c7, rfl, t7, -⟩; have T7 := hide t7; clear t7 C1 KP; have KP : Hid ((fun w' : World => w'.cell? ⟨cb, 0, none⟩ = some (.slice ba bl bc) ∧ w'.cell? ⟨ng, j, none⟩ = some (.int .i64 nj) ∧ w'.cell? ⟨c1, 0, none⟩ = some (.slice va m vc) ∧ w'.cell? ⟨sg, j, none⟩ = some (.int .i64 sj)) w7) := ⟨T7.out.at 1 0 rfl rfl, (T7.out.get 2 rfl : Sli 3 lo2 hi2 (.slice (some ⟨ng, 0, none⟩) n nc) n (icells NW) w7).flt.cell (icells_get HNJ.out), T7.out.at 5 0 rfl rfl, (T7.out.get 4 rfl : Sli 3 lB hB (.slice (some ⟨sg, 0, none⟩) n sc) n (icells sm) w7).flt.cell (icells_get HSJ.out)⟩; have C2 := hide (gall_tk (r := sj) sall T7.out 6 HM.out (by omega) rfl))
            | (go_at_call 11; (with_reducible refine Calls.mono C2.out ?_); rintro en w8 ⟨a8, c8, rfl, t8, -⟩; have T8 := hide t8; clear t8 C2 KP T7; have KP : Hid ((fun w' : World => w'.cell? ⟨cb, 0, none⟩ = some (.slice ba bl bc) ∧ w'.cell? ⟨ng, j, none⟩ = some (.int .i64 nj) ∧ w'.cell? ⟨c1, 0, none⟩ = some (.slice va m vc) ∧ w'.cell? ⟨sg, j, none⟩ = some (.int .i64 sj)) w8) := ⟨T8.out.at 2 0 rfl rfl, (T8.out.get 3 rfl : Sli 3 lo2 hi2 (.slice (some ⟨ng, 0, none⟩) n nc) n (icells NW) w8).flt.cell (icells_get HNJ.out), T8.out.at 6 0 rfl rfl, (T8.out.get 5 rfl : Sli 3 lB hB (.slice (some ⟨sg, 0, none⟩) n sc) n (icells sm) w8).flt.cell (icells_get HSJ.out)⟩; have C3 := hide (same_tk T8.out 1 0 (allT_len _ _) rfl rfl))
            | (go_at_call 9; (with_reducible refine Calls.mono C3.out ?_); rintro en w9 ⟨rfl, t9, -⟩; have T9 := hide (t9.drop (hs' := [(cb, cb + 1, Cel cb #[.slice ba bl bc] 26), (lo2, hi2, Sli 3 lo2 hi2 (.slice (some ⟨ng, 0, none⟩) n nc) n (icells NW)), (lo1, hi1, Kns lo1 hi1 (.slice ba bl bc) Bk), (lB, hB, Sli 3 lB hB (.slice (some ⟨sg, 0, none⟩) n sc) n (icells sm)), (c1, c1 + 1, Cel c1 #[.slice va m vc] 26), (lo, hi, Kns lo hi (.slice va m vc) ks)]) (fun x hx => List.mem_cons_of_mem _ (List.mem_cons_of_mem _ hx))); clear t9 C3 KP T8; have KP : Hid ((fun w' : World => w'.cell? ⟨cb, 0, none⟩ = some (.slice ba bl bc) ∧ w'.cell? ⟨ng, j, none⟩ = some (.int .i64 nj) ∧ w'.cell? ⟨c1, 0, none⟩ = some (.slice va m vc) ∧ w'.cell? ⟨sg, j, none⟩ = some (.int .i64 sj)) w9) := ⟨T9.out.at 0 0 rfl rfl, (T9.out.get 1 rfl : Sli 3 lo2 hi2 (.slice (some ⟨ng, 0, none⟩) n nc) n (icells NW) w9).flt.cell (icells_get HNJ.out), T9.out.at 4 0 rfl rfl, (T9.out.get 3 rfl : Sli 3 lB hB (.slice (some ⟨sg, 0, none⟩) n sc) n (icells sm) w9).flt.cell (icells_get HSJ.out)⟩))
          all_goals
            go_wp2
            go_roundw
            case rel => first | exact ⟨j + 1, by omega, by go_num, T9⟩ | ((repeat apply Exists.intro); exact ⟨⟨j + 1, by omega, by go_num, T9⟩, rfl⟩)
            case measure => simp [intOf]; omega
        · go_wp2_with fail
          refine (gsweep_tk HW.out KB.out TM.out 2 1 HBL.out (by omega) NWL.out (by omega) rfl rfl).mono ?_
          rw [SAG.out.1, SAG.out.2]
          rintro e w5 ⟨ea, ec, sa5, sc5, lo3, hi3, lo4, hi4, rfl, t5, -, -, -, -⟩
          have T6 := hide (t5.cell #[.slice ea bl ec] 26)
          have ce : (w5.alloc (.cells #[.slice ea bl ec] 26)).cell? ⟨w5.heap.size, 0, none⟩ = some (.slice ea bl ec) := T6.out.at 0 0 rfl rfl
          have cb6 : (w5.alloc (.cells #[.slice ea bl ec] 26)).cell? ⟨cb, 0, none⟩ = some (.slice ba bl bc) := T6.out.at 3 0 rfl rfl
          have hbb : ((bl : Int) == (bl : Int)) = true := by simp
          clear t5 TM cb5
          go_wp2_with fail
          refine (samel_tk T6.out 1 4 NWL.out (by omega) rfl rfl).mono ?_
          rintro e w6 ⟨rfl, t6, -⟩
          have T7 := hide t6
          clear t6 T6 ce cb6
          go_wp2
          go_ret
          exact ⟨rfl, T7.out.1⟩
end Go.Proofs.Ytnebelflnpbbiad
