/-
  DrSto; D3
-/
import Derived.Test.YtcnaahajaaifjaaPq28
import Derived.Deep.RegionHeld3
import Derived.Deep.DeepCutAuto
import Derived.Deep.Cut
import Derived.Test.YtcnaahajaaifjaaPq27
/-
  The draw of a store: spec.l12Store.
-/
namespace Go.Proofs.Ytcnaahajaaifjaa
open Go.RowKit
open Words

set_option maxHeartbeats 4000000 in
set_option maxRecDepth 100000 in
theorem dstore (p : Nat) (ad : Option Addr) (len cap B : Nat) (w : World) (hl : len ≤ 1048576) (hc : CurIn w p ad len cap) (hd : CodeIn w ad len B) (hB : B ≤ p) :
    Calls Try.prog 35 #[.pointer (some ⟨p, 0, none⟩)] w (DStO w p ad len cap) := by
  have hpw := hc.2.2.2.2.2
  have HPW := hide hpw
  have HD := hide hd
  have R0 := hide (heap_alloc_new w (.cells #[.slice none 0 0, .slice none 0 0, .int .i64 0] 29))
  have D0 : Hid (Drawn w (w.alloc (.cells #[.slice none 0 0, .slice none 0 0, .int .i64 0] 29)) p ad len cap) := (Drawn.refl hc).below ((Below.refl _ _).alloc (Nat.le_refl _) _) hpw
  obtain ⟨xo, hxo⟩ : ∃ xo : Obj, xo = .cells #[.slice none 0 0, .slice none 0 0, .int .i64 0] 29 (0, 0) := ⟨_, rfl⟩
  have R1 : Hid ((w.alloc (.cells #[.slice none 0 0, .slice none 0 0, .int .i64 0] 29)).heap[w.heap.size]? = some xo) := by rw [hxo]; exact R0.out
  clear R0
  have R0 := R1
  have HXO := hide hxo
  clear hc hd hxo R1
  go_enter Try.func35, Try.ntmps35
  go_wp2_with fail
  refine (snewS _).mono ?_
  rintro e w1 ⟨u, rfl, hu⟩
  have HC := hide (hu.vcap rfl)
  obtain ⟨ua, ul, uc, ub, um, ud, rfl⟩ := hu.form
  have S0 := hide (SDr.new hpw D0.out R0.out hu HC.out new_drn)
  have HN0 : Hid (ul = 0) := by
    have := hu.vlen
    exact this
  clear hu HC D0 R0
  go_wp2_with fail
  (try rw [show stoNew.next = 1 from rfl] at S0)
  (try rw [show stoNew.next = 1 from rfl])
  generalize w1.alloc (.cells #[.slice ua ul uc, .slice ub um ud, .int .i64 1] 29) = wa at S0 ⊢
  obtain ⟨zb, hzb⟩ : ∃ zb, w1.heap.size = zb := ⟨_, rfl⟩
  rw [hzb] at S0 ⊢
  clear hzb
  go_loopw [4] (fun iv W => ∃ (i G n m : Nat) (va : Option Addr) (vc : Nat) (kd : Option Addr) (kc : Nat) (s : Sto), i ≤ 14 ∧ iv = .int .i64 i ∧ Hid (s.vols.length = n ∧ SDr xo w W G zb p ad len cap (.slice va n vc) (.slice kd m kc) s)) (fun iv _ => 14 - (intOf iv).toNat)
  case atStart => exact ⟨0, _, ul, um, ua, uc, ub, ud, stoNew, Nat.zero_le _, rfl, HN0.out.symm, S0.out⟩
  case round =>
    obtain ⟨i, G, n, m, va, vc, kd, kc, s, hi, rfl, HS⟩ := hrel
    clear S0
    have HN := hide HS.out.1
    have SD := hide HS.out.2
    have hn3 : n ≤ 3 := by rw [← HN.out]; exact SD.out.2.2.2.2.1.1.few
    clear HS
    go_wp2_with fail
    refine (sdr_below hl HD.out hB 14 (by omega) (by omega) SD.out).mono ?_
    rintro e x1 ⟨y, rfl, y0, y1, S1⟩
    clear SD
    by_cases hlt : (i : Int) < y
    · go_wp2_with fail
      refine (drecK p ad len cap B _ hl S1.out.1.2 (S1.out.1.code HD.out hB hpw) hB).mono ?_
      rintro e x2 ⟨r, rfl, hr, d2⟩
      have RR := hide (SRr.new (S1.out.go d2) hr)
      obtain ⟨kind, vol, arg, chunk⟩ := r
      simp only at RR
      unfold rcVal
      simp only
      clear S1 d2 hr
      go_upto_region 6 with fail
      generalize x2.alloc (.cells #[.int .i64 kind, .int .i64 vol, .int .i64 arg, .int .i64 chunk] 31) = x2a at RR ⊢
      obtain ⟨g, hg⟩ : ∃ g, x2.heap.size = g := ⟨_, rfl⟩
      rw [hg] at RR ⊢
      obtain ⟨G2, hG2⟩ : ∃ G2, G2 = g := ⟨_, rfl⟩
      have RX : Hid (SRr xo w x2a G2 zb p g ad len cap (.slice va n vc) (.slice kd m kc) s ⟨kind, vol, arg, chunk⟩) := by rw [hG2]; exact RR.out
      clear RR hg hG2
      go_cut [28] (fun s28 V => ∃ bb : Bool, s28 = .bool bb ∧ (bb = true → 0 < n) ∧ Hid (SRr xo w V G2 zb p g ad len cap (.slice va n vc) (.slice kd m kc) s ⟨kind, vol, arg, chunk⟩))
      case first =>
        obtain ⟨c0, c1, c2⟩ := RX.out.1.cells
        obtain ⟨d0, d1, d2, d3⟩ := RX.out.rc
        simp only at d0 d1 d2 d3
        by_cases n0 : 0 < n
        · have n1 : (n : Int) > 0 := by omega
          by_cases k2 : kind = 2
          · have k2b : (kind != 2) = false := by simpa using k2
            go_wp2_with fail
            go_meet
            case rel => exact ⟨false, rfl, (fun h => by cases h), RX⟩
          · have k2b : (kind != 2) = true := by simpa using k2
            go_wp2_with fail
            refine (srr_once hl HD.out hB 5 (by omega) RX.out).mono ?_
            rintro e x3 ⟨b3, rfl, S3⟩
            go_wp2_with fail
            go_meet
            case rel => exact ⟨!b3, rfl, (fun _ => n0), S3⟩
        · have n1 : ¬ ((n : Int) > 0) := by omega
          go_wp2_with fail
          go_meet
          case rel => exact ⟨false, rfl, (fun h => by cases h), RX⟩
      case rest =>
        obtain ⟨bb, hs28, hbn, RY⟩ := hcut
        subst hs28
        obtain ⟨V, hV⟩ : ∃ V, V = wc := ⟨_, rfl⟩
        subst hV
        clear RX
        have RX := RY
        clear RY
        go_upto_if 28 with fail
        go_cut [] (fun V => ∃ vol : Int, Hid (SRr xo w V G2 zb p g ad len cap (.slice va n vc) (.slice kd m kc) s ⟨kind, vol, arg, chunk⟩))
        case first =>
          cases bb with
          | false =>
            go_wp2_with fail
            go_meet
            case rel => exact ⟨vol, RX⟩
          | true =>
            obtain ⟨vb, vo, hva, -⟩ := (RX.out.1.row HN.out).at (List.getElem?_eq_getElem (show 0 < s.vols.length by rw [HN.out]; exact hbn rfl))
            subst hva
            have KK : Hid (∀ W, SRr xo w W G2 zb p g ad len cap (.slice (some ⟨vb, vo, none⟩) n vc) (.slice kd m kc) s ⟨kind, vol, arg, chunk⟩ → W.cell? ⟨zb, 0, none⟩ = some (.slice (some ⟨vb, vo, none⟩) n vc) ∧ ∀ j : Nat, j < n → W.cell? ⟨vb, vo + j * 2, none⟩ = some (.int .i64 (s.vols[j]?.getD (0, 0)).1)) := fun W H => by
              refine ⟨H.1.cells.1, fun j hj => ?_⟩
              have hj2 : j < s.vols.length := by rw [HN.out]; exact hj
              obtain ⟨b', o', e, -, q, -⟩ := (H.1.row HN.out).at (List.getElem?_eq_getElem hj2)
              injection e with e
              injection e with e1 e2
              subst e1 e2
              rw [List.getElem?_eq_getElem hj2]
              exact q
            have CB : Hid (∀ W, SRr xo w W G2 zb p g ad len cap (.slice (some ⟨vb, vo, none⟩) n vc) (.slice kd m kc) s ⟨kind, vol, arg, chunk⟩ → Calls Try.prog 38 #[.pointer (some ⟨p, 0, none⟩), .int .i64 (n : Int)] W fun e w' => ∃ k : Nat, e = .returned (.int .i64 (k : Int)) ∧ k < n ∧ Hid (SRr xo w w' G2 zb p g ad len cap (.slice (some ⟨vb, vo, none⟩) n vc) (.slice kd m kc) s ⟨kind, vol, arg, chunk⟩)) := fun W H => by
              refine (srr_below hl HD.out hB (n : Int) (by have := hbn rfl; omega) (by omega) H).mono ?_
              rintro e w' ⟨x, rfl, x0, x1, hS⟩
              exact ⟨x.toNat, by rw [Int.toNat_of_nonneg x0], by omega, hS⟩
            have RXd : Hid (SRr xo w V.drew G2 zb p g ad len cap (.slice (some ⟨vb, vo, none⟩) n vc) (.slice kd m kc) s ⟨kind, vol, arg, chunk⟩) := RX.out.bel (Below.refl _ _).drew
            go_upto_region 7 with fail
            go_region_held3 (fun w' => w'.cell? ⟨zb, 0, none⟩ = some (.slice (some ⟨vb, vo, none⟩) n vc) ∧ ∀ j : Nat, j < n → w'.cell? ⟨vb, vo + j * 2, none⟩ = some (.int .i64 (s.vols[j]?.getD (0, 0)).1)) (first | exact KK.out _ RXd.out | exact KK.out _ S3.out | exact KK2.out) (first
              | (go_at_call 38; (with_reducible refine Calls.mono (CB.out _ RXd.out) ?_); rintro en x3 ⟨k3, rfl, hk3, S3⟩; have NV := hide (S3.out.vol (v := (s.vols[k3]?.getD (0, 0)).1) (drn_id S3.out.1.2.2.2.2.1 k3)); have KK2 := hide (keep_vol NV.out HN.out); have kc := S3.out.rc.2.1; have kf := S3.out.rf.2.1; simp only at kc kf))
            all_goals
              go_wp2_with fail
              go_meet
              case rel => exact ⟨_, NV⟩
        case rest =>
          obtain ⟨V1, hV1⟩ : ∃ V1, V1 = wc := ⟨_, rfl⟩
          subst hV1
          clear hbn RX
          obtain ⟨vol, RX⟩ := hcut
          go_upto_region 8 with fail
          go_cut [48] (fun s48 V => ∃ bb : Bool, s48 = .bool bb ∧ Hid (SRr xo w V G2 zb p g ad len cap (.slice va n vc) (.slice kd m kc) s ⟨kind, vol, arg, chunk⟩))
          case first =>
            obtain ⟨c0, c1, c2⟩ := RX.out.1.cells
            obtain ⟨d0, d1, d2, d3⟩ := RX.out.rc
            simp only at d0 d1 d2 d3
            by_cases n0 : 0 < n
            · have n1 : ((n : Int) == 0) = false := by simp; omega
              go_wp2_with fail
              go_meet
              case rel => exact ⟨false, rfl, RX⟩
            · have n1 : ((n : Int) == 0) = true := by simp; omega
              go_wp2_with fail
              refine (srr_once hl HD.out hB 5 (by omega) RX.out).mono ?_
              rintro e x3 ⟨b3, rfl, S3⟩
              go_wp2_with fail
              go_meet
              case rel => exact ⟨!b3, rfl, S3⟩
          case rest =>
            obtain ⟨bb, hs48, RY⟩ := hcut
            subst hs48
            obtain ⟨V2, hV2⟩ : ∃ V2, V2 = wc := ⟨_, rfl⟩
            subst hV2
            clear RX
            have RX := RY
            clear RY
            go_upto_if 48 with fail
            go_cut [] (fun V => ∃ kind vol arg chunk : Int, Hid (SRr xo w V G2 zb p g ad len cap (.slice va n vc) (.slice kd m kc) s ⟨kind, vol, arg, chunk⟩))
            case first =>
              cases bb with
              | false =>
                go_wp2_with fail
                go_meet
                case rel => exact ⟨kind, vol, arg, chunk, RX⟩
              | true =>
                go_wp2_with fail
                refine (srr_below hl HD.out hB 3 (by omega) (by omega) RX.out).mono ?_
                rintro e x3 ⟨x, rfl, x0, x1, S3⟩
                have wx : IntKind.i64.wrap (1 + x) = 1 + x := by rw [IntKind.wrap_i64]; omega
                have NV := hide (S3.out.put (q := ⟨2, 1 + x, 0, 0⟩) (show (2 : Int) ≠ 1 by omega) (show 1 + x ≤ 3 by omega) (show (0 : Int) ≤ 9 by omega))
                obtain ⟨d0, d1, d2, d3⟩ := S3.out.rc
                obtain ⟨f0, f1, f2, f3⟩ := S3.out.rf
                simp only at d0 d1 d2 d3 f0 f1 f2 f3 NV
                clear RX
                go_wp2_with fail
                go_meet
                case rel => exact ⟨2, 1 + x, 0, 0, NV⟩
            case rest =>
              obtain ⟨V3, hV3⟩ : ∃ V3, V3 = wc := ⟨_, rfl⟩
              subst hV3
              clear RX
              obtain ⟨kind, vol, arg, chunk, RX⟩ := hcut
              go_upto_region 10 with fail
              go_cut [60] (fun s60 V => ∃ bb : Bool, s60 = .bool bb ∧ Hid (SRr xo w V G2 zb p g ad len cap (.slice va n vc) (.slice kd m kc) s ⟨kind, vol, arg, chunk⟩))
              case first =>
                obtain ⟨c0, c1, c2⟩ := RX.out.1.cells
                obtain ⟨d0, d1, d2, d3⟩ := RX.out.rc
                simp only at d0 d1 d2 d3
                by_cases k3 : kind = 3
                · have k3b : (kind == 3) = true := by simpa using k3
                  go_wp2_with fail
                  refine (srr_once hl HD.out hB 3 (by omega) RX.out).mono ?_
                  rintro e x3 ⟨b3, rfl, S3⟩
                  go_wp2_with fail
                  go_meet
                  case rel => exact ⟨!b3, rfl, S3⟩
                · have k3b : (kind == 3) = false := by simpa using k3
                  go_wp2_with fail
                  go_meet
                  case rel => exact ⟨false, rfl, RX⟩
              case rest =>
                obtain ⟨bb, hs60, RY⟩ := hcut
                subst hs60
                obtain ⟨V4, hV4⟩ : ∃ V4, V4 = wc := ⟨_, rfl⟩
                subst hV4
                clear RX
                have RX := RY
                clear RY
                go_upto_if 60 with fail
                go_cut [] (fun V => ∃ kind vol arg chunk : Int, Hid (SRr xo w V G2 zb p g ad len cap (.slice va n vc) (.slice kd m kc) s ⟨kind, vol, arg, chunk⟩))
                case first =>
                  cases bb with
                  | false =>
                    go_wp2_with fail
                    go_meet
                    case rel => exact ⟨kind, vol, arg, chunk, RX⟩
                  | true =>
                    go_upto_region 11 with fail
                    have KK : Hid (∀ W (r : Rc), SRr xo w W G2 zb p g ad len cap (.slice va n vc) (.slice kd m kc) s r → r.vol = vol → W.cell? ⟨g, 1, none⟩ = some (.int .i64 vol)) := fun W r H e => by rw [← e]; exact H.rc.2.1
                    have CB1 : Hid (∀ W, SRr xo w W G2 zb p g ad len cap (.slice va n vc) (.slice kd m kc) s ⟨kind, vol, arg, chunk⟩ → Calls Try.prog 38 #[.pointer (some ⟨p, 0, none⟩), .int .i64 16] W fun e w' => ∃ x : Int, e = .returned (.int .i64 x) ∧ 0 ≤ x ∧ x < 16 ∧ Hid (SRr xo w w' G2 zb p g ad len cap (.slice va n vc) (.slice kd m kc) s ⟨kind, vol, arg, chunk⟩)) := fun W H => srr_below hl HD.out hB 16 (by omega) (by omega) H
                    have CB2 : Hid (∀ W, SRr xo w W G2 zb p g ad len cap (.slice va n vc) (.slice kd m kc) s ⟨kind, vol, arg, chunk⟩ → Calls Try.prog 38 #[.pointer (some ⟨p, 0, none⟩), .int .i64 9] W fun e w' => ∃ x : Int, e = .returned (.int .i64 x) ∧ 0 ≤ x ∧ x < 9 ∧ Hid (SRr xo w w' G2 zb p g ad len cap (.slice va n vc) (.slice kd m kc) s ⟨kind, vol, arg, chunk⟩)) := fun W H => srr_below hl HD.out hB 9 (by omega) (by omega) H
                    have RXd : Hid (SRr xo w V4.drew G2 zb p g ad len cap (.slice va n vc) (.slice kd m kc) s ⟨kind, vol, arg, chunk⟩) := RX.out.bel (Below.refl _ _).drew
                    go_region_held3 (fun w' => w'.cell? ⟨g, 1, none⟩ = some (.int .i64 vol)) (first | exact KK.out _ _ RXd.out rfl | exact KK.out _ _ S3.out rfl | exact KK.out _ _ S5.out rfl | exact KK.out _ _ NV.out rfl) (first
                      | (go_at_call 38; (with_reducible refine Calls.mono (CB1.out _ RXd.out) ?_); rintro en x3 ⟨x, rfl, x0, x1, S3⟩)
                      | (go_at_call 38; (with_reducible refine Calls.mono (CB2.out _ S3.out) ?_); rintro en x5 ⟨y5, rfl, y50, y51, S5⟩; have wy : IntKind.i64.wrap (1 + y5) = 1 + y5 := (by rw [IntKind.wrap_i64]; omega); have NV := hide (S5.out.put (q := ⟨4, vol, x, 1 + y5⟩) (show (4 : Int) ≠ 1 by omega) S5.out.2.2.2.2.1 (show 1 + y5 ≤ 9 by omega)); obtain ⟨d0, d1, d2, d3⟩ := S5.out.rc; obtain ⟨f0, f1, f2, f3⟩ := S5.out.rf; simp only at d0 d1 d2 d3 f0 f1 f2 f3 NV))
                    all_goals
                      go_wp2_with fail
                      go_meet
                      case rel => exact ⟨_, _, _, _, NV⟩
                case rest =>
                  obtain ⟨V5, hV5⟩ : ∃ V5, V5 = wc := ⟨_, rfl⟩
                  subst hV5
                  clear RX
                  obtain ⟨kind, vol, arg, chunk, RX⟩ := hcut
                  obtain ⟨c0, c1, c2⟩ := RX.out.1.cells
                  obtain ⟨d0, d1, d2, d3⟩ := RX.out.rc
                  simp only at d0 d1 d2 d3
                  have HR := hide (enter_drn RX.out.1.2.2.2.2.1 (r := ⟨kind, vol, arg, chunk⟩) RX.out.2.2.2.1 RX.out.2.2.2.2.1 RX.out.2.2.2.2.2)
                  go_wp2_with fail
                  refine (senter _ s ⟨kind, vol, arg, chunk⟩ _ RX.out.1.rd RX.out.1.2.2.2.2.2.1).mono ?_
                  rintro e x6 ⟨u, rfl, hu, hcp⟩
                  obtain ⟨ua, ul, uc, ub, um, ud, rfl⟩ := hu.form
                  have NX := hide (RX.out.1.put hu hcp HR.out)
                  have NL : Hid ((enterS s ⟨kind, vol, arg, chunk⟩).1.vols.length = ul) := hu.vlen.symm
                  have BX := RX.out.1.bel hu.blw
                  obtain ⟨c0', c1', c2'⟩ := BX.cells
                  have f0 := frozen_of_row _ _ 0 _ _ BX.var
                  have f1 := frozen_of_row _ _ 1 _ _ BX.var
                  have f2 := frozen_of_row _ _ 2 _ _ BX.var
                  generalize (enterS s ⟨kind, vol, arg, chunk⟩).1 = t at NX NL HR ⊢
                  generalize (enterS s ⟨kind, vol, arg, chunk⟩).2 = ok
                  clear hu hcp BX RX c0 c1 c2 d0 d1 d2 d3
                  go_wp2
                  go_roundw
                  case rel => exact ⟨i + 1, _, ul, um, ua, uc, ub, ud, t, by omega, by go_num, NL.out, NX.out⟩
                  case measure => simp [intOf]; omega
    · have FIN := hide S1.out.fin
      have R5 := S1.out.res
      rw [HXO.out] at R5
      obtain ⟨c0, c1, c2⟩ := S1.out.cells
      have r0 := cell_of_row _ _ 0 _ _ _ R5
      have r1 := cell_of_row _ _ 1 _ _ _ R5
      have r2 := cell_of_row _ _ 2 _ _ _ R5
      have f0 := frozen_of_row _ _ 0 _ _ R5
      have f1 := frozen_of_row _ _ 1 _ _ R5
      have f2 := frozen_of_row _ _ 2 _ _ R5
      have FR := hide (sto_row3 (a := .slice va n vc) (b := .slice kd m kc) (c := .int .i64 s.next) R5)
      clear R5 S1
      go_wp2
      exact bodyPost_ret (results_cell_row rfl _ _ w.heap.size 29 _ (0, 0) _ rfl FR.out Try.underlying29 rfl infoSto) rfl FIN.out
end Go.Proofs.Ytcnaahajaaifjaa

/-
  A new cursor.
-/
namespace Go.Proofs.Ytcnaahajaaifjaa
open Go.RowKit

set_option maxHeartbeats 400000 in
set_option maxRecDepth 100000 in
theorem new_any (ad : Option Addr) (len cap B : Nat) (w : World) (hl : len ≤ 1048576) (hd : CodeIn w ad len B) :
    Calls Try.prog 34 #[.slice ad len cap] w fun e w' => ∃ p, e = .returned (.pointer (some ⟨p, 0, none⟩)) ∧ w.heap.size ≤ p ∧ CurIn w' p ad len cap ∧ Below w.heap.size w w' := by
  have HD := hide hd
  clear hd
  go_enter Try.func34, Try.ntmps34
  go_wp2
  go_loop [3, 4] (fun hv iv => ∃ (x : Int) (k : Nat), k ≤ len ∧ hv = .int .i64 x ∧ iv = .int .i64 k) (fun _ iv => len - (intOf iv).toNat)
  case atStart => exact ⟨_, 0, Nat.zero_le _, rfl, rfl⟩
  case round =>
    obtain ⟨x, k, hk, rfl, rfl⟩ := hrel
    by_cases hlt : (k : Int) < len
    · by_cases h4 : (k : Int) < 4000
      · obtain ⟨b, off, rfl, hbB, c, hc8, hcell⟩ := HD.out k (by omega)
        go_wp2
        go_round
        case rel => exact ⟨_, k + 1, by omega, rfl, by go_num⟩
        case measure => simp [intOf]; omega
      · go_wp2
        go_ret
        refine ⟨w.heap.size, rfl, Nat.le_refl _, ?_, (Below.refl _ _).alloc (Nat.le_refl _) _⟩
        exact ⟨by simp, ⟨0, by omega, by simp⟩, ⟨x, by simp⟩, by simp, by simp, by simp⟩
    · go_wp2
      go_ret
      refine ⟨w.heap.size, rfl, Nat.le_refl _, ?_, (Below.refl _ _).alloc (Nat.le_refl _) _⟩
      exact ⟨by simp, ⟨0, by omega, by simp⟩, ⟨x, by simp⟩, by simp, by simp, by simp⟩
end Go.Proofs.Ytcnaahajaaifjaa
