/-
  FnPutsAgain, of what the program answers.
-/
import Derived.Test.YtnebelflnpbbiahTkTree
import Derived.Test.YtnebelflnpbbiahTkFor
import Derived.Test.YtnebelflnpbbiahBig
import Derived.Deep.RegionHeld3
namespace Go.Proofs.Ytnebelflnpbbiah
open Go.RowKit
open Words

theorem pt_len (l : List Kn) (r : Int) (s : Nat) (n : Int) : (pt l r s n).length = l.length + 2 := by simp [pt]

set_option maxHeartbeats 8000000 in
set_option maxRecDepth 100000 in
theorem lawPa_of (ad : Option Addr) (len cap : Nat) (w : World) (hd : CodeIn w ad len w.heap.size) (HP : Hid (PutC 19)) (HA : Hid (AllC 21)) (HG : Hid (GetC 22)) :
    Calls Try.prog 5 #[.slice ad len cap] w fun e w' => e = .returned (.bool true) ∧ Below w.heap.size w w' := by
  have HD := hide hd
  clear hd
  by_cases hbig : (1048576 : Int) < len
  · go_enter Try.func5, Try.ntmps5
    go_wp2_with fail
    refine (big_any ad len cap _).mono ?_
    rintro e w1 ⟨rfl, rfl⟩
    rw [decide_eq_true hbig]
    go_wp2
    go_ret
    exact ⟨rfl, Below.refl _ _⟩
  have hl2 : len ≤ 1048576 := by omega
  have hbd : decide ((1048576 : Int) < len) = false := decide_eq_false hbig
  clear hbig
  go_enter Try.func5, Try.ntmps5
  go_wp2_with fail
  refine (big_any ad len cap _).mono ?_
  rintro e w0 ⟨rfl, hw0⟩
  subst hw0
  rw [hbd]
  clear hbd
  go_wp2_with fail
  refine (forest_tk (Tk.start w0) hl2 HD.out).mono ?_
  rintro e w1 ⟨va, vc, g, rc, ks, R, lo, hi, rfl, ⟨h8, h1, ok⟩, t1, s1⟩
  have T1 := hide (t1.cell #[.slice va ks.length vc] 56)
  have OK := hide ok
  have hk14 : ks.length ≤ 14 := by have := ok.2.2.2; omega
  obtain ⟨m, hm⟩ : ∃ m, ks.length = m := ⟨_, rfl⟩
  obtain ⟨nR, hnR⟩ : ∃ nR, R.length = nR := ⟨_, rfl⟩
  rw [hm] at T1 hk14 ⊢
  rw [hnR] at h8 h1 ⊢
  have HM := hide hm
  have HNR := hide hnR
  clear t1 ok hm hnR
  go_wp2_with fail
  generalize w1.alloc (.cells #[.slice va m vc] 56) = w1b at T1 ⊢
  refine (places_tk T1.out hl2 HD.out).mono ?_
  rintro e w2 ⟨pg, cp, l, rfl, ⟨h12, hx⟩, t2, s2⟩
  have T2 := hide t2
  obtain ⟨p0, e0⟩ : ∃ x, l[0]? = some x := ⟨_, List.getElem?_eq_getElem (by omega)⟩
  obtain ⟨p1, e1⟩ : ∃ x, l[1]? = some x := ⟨_, List.getElem?_eq_getElem (by omega)⟩
  obtain ⟨p2, e2⟩ : ∃ x, l[2]? = some x := ⟨_, List.getElem?_eq_getElem (by omega)⟩
  have y0 := hx p0 (List.mem_of_getElem? e0)
  have y1 := hx p1 (List.mem_of_getElem? e1)
  have y2 := hx p2 (List.mem_of_getElem? e2)
  have c0 : w2.cell? ⟨pg, 0, none⟩ = some (.int .i64 p0) := (show PlH pg l w2 from t2.get 0 rfl) 0 p0 e0
  have c1 : w2.cell? ⟨pg, 1, none⟩ = some (.int .i64 p1) := (show PlH pg l w2 from t2.get 0 rfl) 1 p1 e1
  have c2 : w2.cell? ⟨pg, 2, none⟩ = some (.int .i64 p2) := (show PlH pg l w2 from t2.get 0 rfl) 2 p2 e2
  obtain ⟨k, hk⟩ : ∃ k, p0.toNat % nR = k := ⟨_, rfl⟩
  have hkn : k < nR := by rw [← hk]; exact Nat.mod_lt _ (by omega)
  obtain ⟨r, hr⟩ : ∃ r, R[k]? = some r := ⟨_, List.getElem?_eq_getElem (by have := HNR.out; omega)⟩
  have cr : w2.cell? ⟨g, k, none⟩ = some (.int .i64 r) := (show Flt 3 g (icells R) w2 from t2.get 2 rfl).cell (icells_get hr)
  have ca : w2.cell? ⟨w1.heap.size, 0, none⟩ = some (.slice va m vc) := t2.at 1 0 rfl rfl
  have TO : Hid (TrOk ks r) := ⟨OK.out.1, OK.out.2.1 r (List.mem_of_getElem? hr)⟩
  obtain ⟨s, hs⟩ : ∃ s, p1.toNat % 16 = s := ⟨_, rfl⟩
  obtain ⟨dd, hdd⟩ : ∃ dd, p2.toNat % 15 = dd := ⟨_, rfl⟩
  obtain ⟨t, ht⟩ : ∃ t, (s + 1 + dd) % 16 = t := ⟨_, rfl⟩
  have hs15 : s ≤ 15 := by omega
  have hd14 : dd ≤ 14 := by omega
  have ht15 : t ≤ 15 := by omega
  have hst : s ≠ t := by omega
  have m0 : p0.tmod (nR : Int) = (k : Int) := by rw [Int.tmod_eq_emod_of_nonneg y0.1, ← hk]; have : p0 = (p0.toNat : Int) := by omega
                                                 rw [this]; simp
  have m1 : p1.tmod 16 = (s : Int) := by rw [Int.tmod_eq_emod_of_nonneg y1.1]; omega
  have m2 : p2.tmod 15 = (dd : Int) := by rw [Int.tmod_eq_emod_of_nonneg y2.1]; omega
  have m3 : ((s : Int) + 1 + dd).tmod 16 = (t : Int) := by rw [Int.tmod_eq_emod_of_nonneg (by omega)]; omega
  have k0 : (0 : Int) ≤ k := by omega
  have k1 : (k : Int) < nR := by omega
  have n0 : (nR : Int) ≠ 0 := by omega
  have HST := hide hst
  clear t2 e0 e1 e2 hx hk hr hs hdd ht T1 hst
  obtain ⟨Bk, hBk⟩ : ∃ Bk, pt ks r s 5 = Bk := ⟨_, rfl⟩
  obtain ⟨Ek, hEk⟩ : ∃ Ek, pt ks r t 6 = Ek := ⟨_, rfl⟩
  obtain ⟨q, hq⟩ : ∃ q, ptR ks = q := ⟨_, rfl⟩
  obtain ⟨Ck, hCk⟩ : ∃ Ck, pt Bk q s 5 = Ck := ⟨_, rfl⟩
  obtain ⟨Dk, hDk⟩ : ∃ Dk, pt Bk q t 6 = Dk := ⟨_, rfl⟩
  obtain ⟨u, hu⟩ : ∃ u, ptR Bk = u := ⟨_, rfl⟩
  obtain ⟨Fk, hFk⟩ : ∃ Fk, pt Ek q s 5 = Fk := ⟨_, rfl⟩
  obtain ⟨x, hxx⟩ : ∃ x, ptR Ek = x := ⟨_, rfl⟩
  have TB : Hid (TrOk Bk q) := by rw [← hBk, ← hq]; exact pt_ok TO.out hs15 (by omega)
  have TE : Hid (TrOk Ek q) := by rw [← hEk, ← hq]; exact pt_ok TO.out ht15 (by omega)
  have LB : Hid (Bk.length = m + 2) := by show _ = _; rw [← hBk, pt_len, HM.out]
  have LE : Hid (Ek.length = m + 2) := by show _ = _; rw [← hEk, pt_len, HM.out]
  have LC : Hid (Ck.length = m + 2 + 2) := by show _ = _; rw [← hCk, pt_len, LB.out]
  have LD : Hid (Dk.length = m + 2 + 2) := by show _ = _; rw [← hDk, pt_len, LB.out]
  have LF : Hid (Fk.length = m + 2 + 2) := by show _ = _; rw [← hFk, pt_len, LE.out]
  have AG : Hid (allT Ck u = allT Bk q) := by show _ = _; rw [← hCk, ← hu, ← hBk, ← hq]; exact all_again TO.out hs15 (by omega)
  have OR : Hid (allT Fk x = allT Dk u) := by show _ = _; rw [← hFk, ← hxx, ← hDk, ← hu, ← hEk, ← hBk, ← hq]; exact (all_order TO.out hs15 ht15 (by omega) (by omega) HST.out).symm
  have GB : Hid (getT Dk u (s : Int) = 5 ∧ getT Dk u (t : Int) = 6) := by show _ ∧ _; rw [← hDk, ← hu, ← hBk, ← hq]; exact get_both TO.out hs15 ht15 (by omega) (by omega) HST.out
  have HBK2 := hide hBk
  have HEK2 := hide hEk
  have HQ2 := hide hq
  have HCK2 := hide hCk
  have HDK2 := hide hDk
  have HU2 := hide hu
  have HFK2 := hide hFk
  have HXX2 := hide hxx
  clear hBk hEk hq hCk hDk hu hFk hxx
  go_wp2_with fail
  refine (gput_tk HP.out TO.out hs15 (by omega) T2.out 3 HM.out (by omega) rfl).mono ?_
  rintro e w3 ⟨ba, bc, rfl, t_w3, s_w3⟩
  rw [HBK2.out] at t_w3
  rw [HQ2.out]
  have T3 := hide (t_w3.cell #[.slice ba (m + 2) bc] 56)
  clear t_w3 T2
  clear c0 c1 c2 cr ca
  have cb : (w3.alloc (.cells #[.slice ba (m + 2) bc] 56)).cell? ⟨w3.heap.size, 0, none⟩ = some (.slice ba (m + 2) bc) := T3.out.at 0 0 rfl rfl
  go_wp2_with fail
  generalize w3.alloc (.cells #[.slice ba (m + 2) bc] 56) = w3b at T3 cb ⊢
  refine (gput_tk HP.out TB.out hs15 (by omega) T3.out 1 LB.out (by omega) rfl).mono ?_
  rintro e w4 ⟨ca4, cc4, rfl, t_w4, s_w4⟩
  rw [HCK2.out] at t_w4
  rw [HU2.out]
  have T4 := hide (t_w4.cell #[.slice ca4 (m + 2 + 2) cc4] 56)
  clear t_w4 T3
  clear cb
  have cb : (w4.alloc (.cells #[.slice ca4 (m + 2 + 2) cc4] 56)).cell? ⟨w3.heap.size, 0, none⟩ = some (.slice ba (m + 2) bc) := T4.out.at 2 0 rfl rfl
  go_wp2_with fail
  generalize w4.alloc (.cells #[.slice ca4 (m + 2 + 2) cc4] 56) = w4b at T4 cb ⊢
  refine (gput_tk HP.out TB.out ht15 (by omega) T4.out 3 LB.out (by omega) rfl).mono ?_
  rintro e w5 ⟨da, dc, rfl, t_w5, s_w5⟩
  rw [HDK2.out] at t_w5
  rw [HU2.out]
  have T5 := hide (t_w5.cell #[.slice da (m + 2 + 2) dc] 56)
  clear t_w5 T4
  clear cb
  have ca : (w5.alloc (.cells #[.slice da (m + 2 + 2) dc] 56)).cell? ⟨w1.heap.size, 0, none⟩ = some (.slice va m vc) := T5.out.at 7 0 rfl rfl
  go_wp2_with fail
  generalize w5.alloc (.cells #[.slice da (m + 2 + 2) dc] 56) = w5b at T5 ca ⊢
  refine (gput_tk HP.out TO.out ht15 (by omega) T5.out 9 HM.out (by omega) rfl).mono ?_
  rintro e w6 ⟨ea, ec, rfl, t_w6, s_w6⟩
  rw [HEK2.out] at t_w6
  rw [HQ2.out]
  have T6 := hide (t_w6.cell #[.slice ea (m + 2) ec] 56)
  clear t_w6 T5
  clear ca
  have ce : (w6.alloc (.cells #[.slice ea (m + 2) ec] 56)).cell? ⟨w6.heap.size, 0, none⟩ = some (.slice ea (m + 2) ec) := T6.out.at 0 0 rfl rfl
  go_wp2_with fail
  generalize w6.alloc (.cells #[.slice ea (m + 2) ec] 56) = w6b at T6 ce ⊢
  refine (gput_tk HP.out TE.out hs15 (by omega) T6.out 1 LE.out (by omega) rfl).mono ?_
  rintro e w7 ⟨fa, fc, rfl, t_w7, s_w7⟩
  rw [HFK2.out] at t_w7
  rw [HXX2.out]
  have T7 := hide (t_w7.cell #[.slice fa (m + 2 + 2) fc] 56)
  clear t_w7 T6
  clear ce
  have kb : (w7.alloc (.cells #[.slice fa (m + 2 + 2) fc] 56)).cell? ⟨w3.heap.size, 0, none⟩ = some (.slice ba (m + 2) bc) := T7.out.at 8 0 rfl rfl
  have kc : (w7.alloc (.cells #[.slice fa (m + 2 + 2) fc] 56)).cell? ⟨w4.heap.size, 0, none⟩ = some (.slice ca4 (m + 2 + 2) cc4) := T7.out.at 6 0 rfl rfl
  have kd : (w7.alloc (.cells #[.slice fa (m + 2 + 2) fc] 56)).cell? ⟨w5.heap.size, 0, none⟩ = some (.slice da (m + 2 + 2) dc) := T7.out.at 4 0 rfl rfl
  have kf : (w7.alloc (.cells #[.slice fa (m + 2 + 2) fc] 56)).cell? ⟨w7.heap.size, 0, none⟩ = some (.slice fa (m + 2 + 2) fc) := T7.out.at 0 0 rfl rfl
  have T7d := hide T7.out.drew
  have C1 := hide (gall_tk (r := q) HA.out T7d.out 9 LB.out (by omega) rfl)
  have KP : Hid True := trivial
  go_wp2
  go_region_held3 (fun w' => w'.cell? ⟨w3.heap.size, 0, none⟩ = some (.slice ba (m + 2) bc) ∧ w'.cell? ⟨w4.heap.size, 0, none⟩ = some (.slice ca4 (m + 2 + 2) cc4) ∧ w'.cell? ⟨w5.heap.size, 0, none⟩ = some (.slice da (m + 2 + 2) dc) ∧ w'.cell? ⟨w7.heap.size, 0, none⟩ = some (.slice fa (m + 2 + 2) fc)) (first | exact KP.out | go_keep) (first
    | (go_at_call 21; (with_reducible refine Calls.mono C1.out ?_); rintro en w8 ⟨a8, c8, rfl, t8, -⟩; have T8 := hide t8; clear t8 T7d C1 KP; have KP : Hid ((fun w' : World => w'.cell? ⟨w3.heap.size, 0, none⟩ = some (.slice ba (m + 2) bc) ∧ w'.cell? ⟨w4.heap.size, 0, none⟩ = some (.slice ca4 (m + 2 + 2) cc4) ∧ w'.cell? ⟨w5.heap.size, 0, none⟩ = some (.slice da (m + 2 + 2) dc) ∧ w'.cell? ⟨w7.heap.size, 0, none⟩ = some (.slice fa (m + 2 + 2) fc)) w8) := ⟨T8.out.at 9 0 rfl rfl, T8.out.at 7 0 rfl rfl, T8.out.at 5 0 rfl rfl, T8.out.at 1 0 rfl rfl⟩; have C2 := hide (gall_tk (r := u) HA.out T8.out 8 LC.out (by omega) rfl))
    | (go_at_call 21; (with_reducible refine Calls.mono C2.out ?_); rintro en w9 ⟨a9, c9, rfl, t9, -⟩; rw [AG.out] at t9; have T9 := hide t9; clear t9 T8 C2 KP; have KP : Hid ((fun w' : World => w'.cell? ⟨w3.heap.size, 0, none⟩ = some (.slice ba (m + 2) bc) ∧ w'.cell? ⟨w4.heap.size, 0, none⟩ = some (.slice ca4 (m + 2 + 2) cc4) ∧ w'.cell? ⟨w5.heap.size, 0, none⟩ = some (.slice da (m + 2 + 2) dc) ∧ w'.cell? ⟨w7.heap.size, 0, none⟩ = some (.slice fa (m + 2 + 2) fc)) w9) := ⟨T9.out.at 10 0 rfl rfl, T9.out.at 8 0 rfl rfl, T9.out.at 6 0 rfl rfl, T9.out.at 2 0 rfl rfl⟩; have C3 := hide (same_tk T9.out 1 0 (allT_len _ _) rfl rfl))
    | (go_at_call 20; (with_reducible refine Calls.mono C3.out ?_); rintro en w10 ⟨rfl, t10, -⟩; have T10 := hide t10; clear t10 T9 C3 KP; have KP : Hid ((fun w' : World => w'.cell? ⟨w3.heap.size, 0, none⟩ = some (.slice ba (m + 2) bc) ∧ w'.cell? ⟨w4.heap.size, 0, none⟩ = some (.slice ca4 (m + 2 + 2) cc4) ∧ w'.cell? ⟨w5.heap.size, 0, none⟩ = some (.slice da (m + 2 + 2) dc) ∧ w'.cell? ⟨w7.heap.size, 0, none⟩ = some (.slice fa (m + 2 + 2) fc)) w10) := ⟨T10.out.at 10 0 rfl rfl, T10.out.at 8 0 rfl rfl, T10.out.at 6 0 rfl rfl, T10.out.at 2 0 rfl rfl⟩; have C4 := hide (gall_tk (r := u) HA.out T10.out 7 LD.out (by omega) rfl))
    | (go_at_call 21; (with_reducible refine Calls.mono C4.out ?_); rintro en w11 ⟨a11, c11, rfl, t11, -⟩; have T11 := hide t11; clear t11 T10 C4 KP; have KP : Hid ((fun w' : World => w'.cell? ⟨w3.heap.size, 0, none⟩ = some (.slice ba (m + 2) bc) ∧ w'.cell? ⟨w4.heap.size, 0, none⟩ = some (.slice ca4 (m + 2 + 2) cc4) ∧ w'.cell? ⟨w5.heap.size, 0, none⟩ = some (.slice da (m + 2 + 2) dc) ∧ w'.cell? ⟨w7.heap.size, 0, none⟩ = some (.slice fa (m + 2 + 2) fc)) w11) := ⟨T11.out.at 11 0 rfl rfl, T11.out.at 9 0 rfl rfl, T11.out.at 7 0 rfl rfl, T11.out.at 3 0 rfl rfl⟩; have C5 := hide (gall_tk (r := x) HA.out T11.out 4 LF.out (by omega) rfl))
    | (go_at_call 21; (with_reducible refine Calls.mono C5.out ?_); rintro en w12 ⟨a12, c12, rfl, t12, -⟩; rw [OR.out] at t12; have T12 := hide t12; clear t12 T11 C5 KP; have KP : Hid ((fun w' : World => w'.cell? ⟨w3.heap.size, 0, none⟩ = some (.slice ba (m + 2) bc) ∧ w'.cell? ⟨w4.heap.size, 0, none⟩ = some (.slice ca4 (m + 2 + 2) cc4) ∧ w'.cell? ⟨w5.heap.size, 0, none⟩ = some (.slice da (m + 2 + 2) dc) ∧ w'.cell? ⟨w7.heap.size, 0, none⟩ = some (.slice fa (m + 2 + 2) fc)) w12) := ⟨T12.out.at 12 0 rfl rfl, T12.out.at 10 0 rfl rfl, T12.out.at 8 0 rfl rfl, T12.out.at 4 0 rfl rfl⟩; have C6 := hide (same_tk T12.out 1 0 (allT_len _ _) rfl rfl))
    | (go_at_call 20; (with_reducible refine Calls.mono C6.out ?_); rintro en w13 ⟨rfl, t13, -⟩; have T13 := hide t13; clear t13 T12 C6 KP; have KP : Hid ((fun w' : World => w'.cell? ⟨w3.heap.size, 0, none⟩ = some (.slice ba (m + 2) bc) ∧ w'.cell? ⟨w4.heap.size, 0, none⟩ = some (.slice ca4 (m + 2 + 2) cc4) ∧ w'.cell? ⟨w5.heap.size, 0, none⟩ = some (.slice da (m + 2 + 2) dc) ∧ w'.cell? ⟨w7.heap.size, 0, none⟩ = some (.slice fa (m + 2 + 2) fc)) w13) := ⟨T13.out.at 12 0 rfl rfl, T13.out.at 10 0 rfl rfl, T13.out.at 8 0 rfl rfl, T13.out.at 4 0 rfl rfl⟩; have C7 := hide (gget_tk (r := u) (s := (s : Int)) HG.out T13.out 9 LD.out (by omega) rfl))
    | (go_at_call 22; (with_reducible refine Calls.mono C7.out ?_); rintro en w14 ⟨rfl, t14, -⟩; rw [GB.out.1]; have T14 := hide t14; clear t14 T13 C7 KP; have KP : Hid ((fun w' : World => w'.cell? ⟨w3.heap.size, 0, none⟩ = some (.slice ba (m + 2) bc) ∧ w'.cell? ⟨w4.heap.size, 0, none⟩ = some (.slice ca4 (m + 2 + 2) cc4) ∧ w'.cell? ⟨w5.heap.size, 0, none⟩ = some (.slice da (m + 2 + 2) dc) ∧ w'.cell? ⟨w7.heap.size, 0, none⟩ = some (.slice fa (m + 2 + 2) fc)) w14) := ⟨T14.out.at 12 0 rfl rfl, T14.out.at 10 0 rfl rfl, T14.out.at 8 0 rfl rfl, T14.out.at 4 0 rfl rfl⟩; have C8 := hide (gget_tk (r := u) (s := (t : Int)) HG.out T14.out 9 LD.out (by omega) rfl))
    | (go_at_call 22; (with_reducible refine Calls.mono C8.out ?_); rintro en w15 ⟨rfl, t15, -⟩; rw [GB.out.2]; have T15 := hide t15; clear t15 T14 C8 KP; have KP : Hid ((fun w' : World => w'.cell? ⟨w3.heap.size, 0, none⟩ = some (.slice ba (m + 2) bc) ∧ w'.cell? ⟨w4.heap.size, 0, none⟩ = some (.slice ca4 (m + 2 + 2) cc4) ∧ w'.cell? ⟨w5.heap.size, 0, none⟩ = some (.slice da (m + 2 + 2) dc) ∧ w'.cell? ⟨w7.heap.size, 0, none⟩ = some (.slice fa (m + 2 + 2) fc)) w15) := ⟨T15.out.at 12 0 rfl rfl, T15.out.at 10 0 rfl rfl, T15.out.at 8 0 rfl rfl, T15.out.at 4 0 rfl rfl⟩; have C9 := hide (gget_tk (r := x) (s := 99) HG.out T15.out 5 LF.out (by omega) rfl))
    | (go_at_call 22; (with_reducible refine Calls.mono C9.out ?_); rintro en w16 ⟨rfl, t16, -⟩; rw [getT_out (by omega)]; have T16 := hide t16; clear t16 T15 C9 KP; have KP : Hid ((fun w' : World => w'.cell? ⟨w3.heap.size, 0, none⟩ = some (.slice ba (m + 2) bc) ∧ w'.cell? ⟨w4.heap.size, 0, none⟩ = some (.slice ca4 (m + 2 + 2) cc4) ∧ w'.cell? ⟨w5.heap.size, 0, none⟩ = some (.slice da (m + 2 + 2) dc) ∧ w'.cell? ⟨w7.heap.size, 0, none⟩ = some (.slice fa (m + 2 + 2) fc)) w16) := ⟨T16.out.at 12 0 rfl rfl, T16.out.at 10 0 rfl rfl, T16.out.at 8 0 rfl rfl, T16.out.at 4 0 rfl rfl⟩))
  all_goals
    go_wp2
    go_ret
    exact ⟨rfl, T16.out.1⟩
end Go.Proofs.Ytnebelflnpbbiah
