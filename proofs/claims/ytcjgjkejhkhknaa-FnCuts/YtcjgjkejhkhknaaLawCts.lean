/-
  FnCuts.
-/
import Derived.Test.YtcjgjkejhkhknaaDrawDo
import Derived.Test.YtcjgjkejhkhknaaPq104
import Derived.Test.YtcjgjkejhkhknaaSCut
import Derived.Test.YtcjgjkejhkhknaaPq107
import Derived.Test.YtcjgjkejhkhknaaPq108
import Derived.Test.YtcjgjkejhkhknaaPq2
import Derived.Deep.RegionWith
import Derived.Deep.RegionHeld3
import Derived.Deep.DeepCutAuto
namespace Go.Proofs.Ytcjgjkejhkhknaa
open Go.RowKit

theorem sml_cut {bs : List Bk} (h : Sml bs) (l : List Stp) (whole : Int) (torn : Bool) : Sml (cutF bs l whole torn).1 := by
  cases hok : (cutF bs l whole torn).2 with
  | false => rw [cut_false hok]; exact h
  | true =>
    obtain ⟨k, cs, e1, hkn, hdo, hwh, hto⟩ := cut_true hok
    have hc : Sml cs := by have := h.all (l.take k); rw [hdo] at this; exact this
    by_cases hend : torn = false ∨ k = l.length
    · rw [hwh hend]
      exact hc
    · have htn : torn = true := by cases torn <;> simp_all
      obtain ⟨s, hs⟩ : ∃ s, l[k]? = some s := ⟨_, List.getElem?_eq_getElem (by
        rcases Nat.lt_or_ge k l.length with h | h
        · exact h
        · exact absurd (Or.inr (by omega)) hend)⟩
      obtain ⟨h1, h2⟩ := hto s htn hs
      rw [h2]
      exact hc.torn s h1

theorem iread_b (v : Value) (bs : List Bk) (b leaf : Int) (w : World) (hs : Sml bs) (ha : RdB w v bs) :
    Calls Try.prog 24 #[.agg #[v], .int .i64 b, .int .i64 leaf] w fun e w' => ∃ T, e = .returned (.tuple #[.string T, .bool (readF bs b leaf).2]) ∧ Below w.heap.size w w' := by
  obtain ⟨rs, rfl, h, l, ll, lt⟩ := ha.lens hs
  refine (iread_rd v rs b leaf w l ll lt h).mono ?_
  rintro e w' ⟨rfl, b⟩
  exact ⟨_, rfl, b⟩
set_option maxHeartbeats 8000000 in
set_option maxRecDepth 100000 in
theorem lawCts (ad : Option Addr) (len cap : Nat) (w : World) (hd : CodeIn w ad len w.heap.size) :
    Calls Try.prog 5 #[.slice ad len cap] w fun e w' => e = .returned (.bool true) ∧ Below w.heap.size w w' := by
  have HD := hide hd
  clear hd
  by_cases hbig : (1048576 : Int) < len
  · go_enter Try.func5, Try.ntmps5
    go_wp2_with fail
    refine (big_any ad len cap _).mono ?_
    rintro e w1 ⟨rfl, rfl⟩
    rw [decide_eq_true hbig]
    go_wp2
    go_ret
    exact ⟨rfl, Below.refl _ _⟩
  · have hl2 : len ≤ 1048576 := by omega
    have hbd : decide ((1048576 : Int) < len) = false := decide_eq_false hbig
    clear hbig
    go_enter Try.func5, Try.ntmps5
    go_wp2_with fail
    refine (big_any ad len cap _).mono ?_
    rintro e w0 ⟨rfl, hw0⟩
    subst hw0
    rw [hbd]
    clear hbd
    go_wp2_with fail
    refine (drawCut_any ad len cap w0 hl2 HD.out).mono ?_
    rintro e w1 ⟨v, u, bs, l, whole, torn, rfl, hsm, hrd, hl7, ⟨g, c, rfl⟩, hst, b1⟩
    obtain ⟨vd, vc, rfl⟩ := hrd.form
    have bA := (Below.refl w1.heap.size w1).alloc (Nat.le_refl _) (.cells #[.slice vd bs.length vc] 28)
    have HSM := hide hsm
    have B0 := hide (b1.alloc b1.size (.cells #[.slice vd bs.length vc] 28))
    have FB := hide (hrd.below bA)
    have SB := hide (hst.below bA)
    have hst2 := hst
    obtain ⟨ad9, cp9, e9, hlc, hc9, -, -⟩ := hst2
    injection e9 with e91 e92 e93
    subst e91 e93
    have CB := hide (heap_alloc_new w1 (.cells #[.slice vd bs.length vc] 28))
    obtain ⟨n, hn⟩ : ∃ n, l.length = n := ⟨_, rfl⟩
    have HN := hide hn
    rw [hn] at SB hlc hl7 ⊢
    obtain ⟨fc, hfc⟩ : ∃ fc, w1.heap.size = fc := ⟨_, rfl⟩
    rw [hfc] at CB
    obtain ⟨A1, ok, hR⟩ : ∃ A1 ok, cutF bs l whole torn = (A1, ok) := ⟨_, _, rfl⟩
    have HR := hide hR
    have HSA : Hid (Sml A1) := by have := sml_cut hsm l whole torn; rw [hR] at this; exact this
    clear hsm hrd hst b1 bA e92 hn hR
    have hl9 : n ≤ 1000000000 := by omega
    go_wp2_with fail
    try rw [hfc]
    clear hfc
    generalize w1.alloc (.cells #[.slice vd bs.length vc] 28) = wB at B0 FB SB CB ⊢
    have KF : Hid (∀ W, Below wB.heap.size wB W → W.cell? ⟨fc, 0, none⟩ = some (.slice vd bs.length vc)) := fun W hW => cell_of_row _ _ 0 _ _ _ ((hW.block _ (Array.getElem?_eq_some_iff.1 CB.out).1).trans CB.out)
    have CI : Hid (∀ W, Below wB.heap.size wB W → Calls Try.prog 19 #[.agg #[.slice vd bs.length vc], .slice (some ⟨g, 0, none⟩) n c, .int .i64 whole, .bool torn] W fun e w' => ∃ x, e = .returned (.tuple #[.agg #[x], .bool ok]) ∧ FlashOf w' W.heap.size x A1 ∧ Below W.heap.size W w') := by
      intro W hW
      have := icut_b (.slice vd bs.length vc) (.slice (some ⟨g, 0, none⟩) n c) bs l whole torn W HSM.out (by rw [HN.out]; exact hl9) (FB.out.below hW) (SB.out.below hW)
      rw [HR.out] at this
      exact this
    have CS : Hid (∀ W, Below wB.heap.size wB W → Calls Try.prog 20 #[.agg #[.slice vd bs.length vc], .slice (some ⟨g, 0, none⟩) n c, .int .i64 whole, .bool torn] W fun e w' => ∃ x, e = .returned (.tuple #[.agg #[x], .bool ok]) ∧ FlashOf w' W.heap.size x A1 ∧ Below W.heap.size W w') := by
      intro W hW
      have := scut_b (.slice vd bs.length vc) (.slice (some ⟨g, 0, none⟩) n c) bs l whole torn W HSM.out (by rw [HN.out]; exact hl9) (FB.out.below hW) (SB.out.below hW)
      rw [HR.out] at this
      exact this
    refine (CI.out wB (Below.refl _ _)).mono ?_
    rintro e w2 ⟨x2, rfl, f2, b2⟩
    obtain ⟨ad2, cp2, rfl⟩ := f2.form
    obtain ⟨c5, hc5⟩ : ∃ c5, w2.heap.size = c5 := ⟨_, rfl⟩
    obtain ⟨lo2, hi2, t2⟩ := (Tk.start wB).late b2 f2 hc5
    have T2 := hide t2
    have k2 := KF.out _ t2.1
    clear f2 b2 t2 CI
    go_wp2_with fail
    try rw [hc5]
    clear hc5
    generalize w2.alloc (.cells #[.slice ad2 A1.length cp2] 28) = w2a at T2 k2 ⊢
    refine (CS.out w2a T2.out.1).mono ?_
    rintro e w3 ⟨x3, rfl, f3, b3⟩
    obtain ⟨ad3, cp3, rfl⟩ := f3.form
    obtain ⟨c7, hc7⟩ : ∃ c7, w3.heap.size = c7 := ⟨_, rfl⟩
    obtain ⟨lo3, hi3, t3⟩ := T2.out.late b3 f3 hc7
    have T3 := hide t3
    have k3 : (w3.alloc (.cells #[.slice ad3 A1.length cp3] 28)).cell? ⟨c5, 0, none⟩ = some (.slice ad2 A1.length cp2) := t3.at 2 0 rfl rfl
    have hoo : (ok != ok) = false := by simp
    clear f3 b3 t3 T2 k2 CS
    go_wp2_with fail
    try rw [hc7]
    clear hc7
    generalize w3.alloc (.cells #[.slice ad3 A1.length cp3] 28) = w3a at T3 k3 ⊢
    refine (same_b _ _ A1 w3a HSA.out (T3.out.get 3 rfl).rdb (T3.out.get 1 rfl).rdb).mono ?_
    rintro e w4 ⟨rfl, b4⟩
    have T4 := hide ((T3.out.below b4).drop (hs' := [(c5, c5 + 1, Cel c5 #[.slice ad2 A1.length cp2] 28), (lo2, hi2, Fla lo2 hi2 (.slice ad2 A1.length cp2) A1)]) (fun x hx => List.mem_cons_of_mem _ (List.mem_cons_of_mem _ hx)))
    have k4 : w4.cell? ⟨c5, 0, none⟩ = some (.slice ad2 A1.length cp2) := T4.out.at 0 0 rfl rfl
    have kf4 := KF.out _ T4.out.1
    clear b4 T3 k3
    cases ok with
    | false =>
      have e : A1 = bs := by have := cut_false (by rw [HR.out]); rw [HR.out] at this; exact this
      subst e
      go_wp2_with fail
      refine (same_b _ _ A1 w4 HSA.out (T4.out.get 1 rfl).rdb (FB.out.below T4.out.1)).mono ?_
      rintro e w5 ⟨rfl, b5⟩
      have BE := hide (B0.out.trans ((T4.out.below b5).1.mono B0.out.size))
      clear b5 T4 k4 kf4
      go_wp2
      go_ret
      exact ⟨rfl, BE.out⟩
    | true =>
      obtain ⟨k, cs, e1, hkn, hdo, hwh, hto⟩ := cut_true (by rw [HR.out])
      subst e1
      rw [HN.out] at hkn hwh
      have HDO := hide hdo
      have HWH := hide hwh
      have HTO := hide hto
      have HSC : Hid (Sml cs) := by have := HSM.out.all (l.take k); rw [hdo] at this; exact this
      have sR := fun W => take_run (some ⟨g, 0, none⟩) n c k W (by omega)
      have CT : Hid (∀ W, Below wB.heap.size wB W → Calls Try.prog 22 #[.agg #[.slice vd bs.length vc], .slice (some ⟨g, 0, none⟩) k c] W fun e w' => ∃ x, e = .returned (.tuple #[.agg #[x], .int .i64 (k : Int)]) ∧ FlashOf w' W.heap.size x cs ∧ Below W.heap.size W w') := by
        intro W hW
        have := sdos_b (.slice vd bs.length vc) (.slice (some ⟨g, 0, none⟩) k c) bs (l.take k) W HSM.out (by rw [List.length_take]; omega) (FB.out.below hW) ((SB.out.take k (by rw [HN.out]; omega)).below hW)
        rw [HDO.out] at this
        exact this
      have T4d := hide T4.out.drew
      have T4e := hide (T4.out.below ((Below.refl _ _).alloc (Nat.le_refl _) (.cells #[.slice none 0 0] 28)).drew)
      have CA := hide (CT.out _ T4d.out.1)
      have CB2 := hide (CT.out _ T4e.out.1)
      have kk0 : (0 : Int) ≤ k := by omega
      have hfw : fc < w4.heap.size := World.block_lt_of_cell? w4 _ kf4
      clear hdo hwh hto CT
      go_upto_region 10 with fail
      go_cut [11, 12] (fun s11 s12 wc => s12 = .int .i64 (k : Int) ∧ ∃ (c11 : Nat) (ad6 : Option Addr) (cp6 lo6 hi6 : Nat), s11 = .pointer (some ⟨c11, 0, none⟩) ∧ Hid (Tk wB wc [(c11, c11 + 1, Cel c11 #[.slice ad6 cs.length cp6] 28), (lo6, hi6, Fla lo6 hi6 (.slice ad6 cs.length cp6) cs), (c5, c5 + 1, Cel c5 #[.slice ad2 A1.length cp2] 28), (lo2, hi2, Fla lo2 hi2 (.slice ad2 A1.length cp2) A1)]))
      case first =>
        go_region_with (first
          | (go_at_call 22; (with_reducible refine Calls.mono CA.out ?_); rintro en w6 ⟨x, rfl, fo, b6⟩; obtain ⟨ad6, cp6, rfl⟩ := fo.form; obtain ⟨lo6, hi6, t6⟩ := T4d.out.late b6 fo rfl; have TL := hide t6; clear fo b6 t6)
          | (go_at_call 22; (with_reducible refine Calls.mono CB2.out ?_); rintro en w7 ⟨x, rfl, fo, b6⟩; obtain ⟨ad6, cp6, rfl⟩ := fo.form; obtain ⟨n7, f7, lo6, hi6, t6⟩ := T4.out.early b6 fo; have TE := hide t6; clear fo b6 t6))
        all_goals
          go_wp2_with fail
          go_meet
          case rel => first
            | exact ⟨rfl, _, _, _, _, _, rfl, TL⟩
            | exact ⟨rfl, _, _, _, _, _, rfl, TE⟩
      case rest =>
        obtain ⟨wq, hwc⟩ : ∃ wq, wq = wc := ⟨_, rfl⟩
        subst hwc
        obtain ⟨hs12, c11, ad6, cp6, lo6, hi6, hs11, TQ⟩ := hcut
        subst hs12 hs11
        clear CA CB2 T4d T4e T4 kf4 k4 sR hfw
        have kq : wq.cell? ⟨c11, 0, none⟩ = some (.slice ad6 cs.length cp6) := TQ.out.at 0 0 rfl rfl
        have ka : wq.cell? ⟨c5, 0, none⟩ = some (.slice ad2 A1.length cp2) := TQ.out.at 2 0 rfl rfl
        have hkk : ((k : Int) != (k : Int)) = false := by simp
        by_cases hend : torn = false ∨ k = n
        · have e := HR.out.symm.trans (HWH.out hend)
          injection e with e1 e2
          subst e1
          have FIN : Hid (Calls Try.prog 21 #[.agg #[.slice ad2 A1.length cp2], .agg #[.slice ad6 A1.length cp6]] wq fun e w' => e = .returned (.bool true) ∧ Below wq.heap.size wq w') := same_b _ _ A1 wq HSA.out (TQ.out.get 3 rfl).rdb (TQ.out.get 1 rfl).rdb
          have BQ := hide (fun (W : World) (h : Below wq.heap.size wq W) => B0.out.trans ((TQ.out.below h).1.mono B0.out.size))
          clear HWH HTO HR HDO TQ e2
          cases torn with
          | false =>
            clear hend
            go_wp2_with fail
            refine FIN.out.mono ?_
            rintro e wy ⟨rfl, by9⟩
            have BE := hide (BQ.out wy by9)
            clear by9 FIN BQ
            go_wp2
            go_ret
            exact ⟨rfl, BE.out⟩
          | true =>
            have hkn2 : k = n := hend.resolve_left (by simp)
            have hkn3 : ((k : Int) == (n : Int)) = true := by simp [hkn2]
            clear hend hkn2
            go_wp2_with fail
            refine FIN.out.mono ?_
            rintro e wy ⟨rfl, by9⟩
            have BE := hide (BQ.out wy by9)
            clear by9 FIN BQ
            go_wp2
            go_ret
            exact ⟨rfl, BE.out⟩
        · have htn : torn = true := by cases torn <;> simp_all
          subst htn
          have hkn2 : k < n := by
            rcases Nat.lt_or_ge k n with h | h
            · exact h
            · exact absurd (Or.inr (by omega)) hend
          have hkn3 : ((k : Int) == (n : Int)) = false := by simp; omega
          obtain ⟨s, hs⟩ : ∃ s, l[k]? = some s := ⟨_, List.getElem?_eq_getElem (by have := HN.out; omega)⟩
          obtain ⟨hds, hce⟩ := HTO.out s rfl hs
          have e := HR.out.symm.trans hce
          injection e with e1 e2
          subst e1
          obtain ⟨gg, og, eg, q0, q1, q2, q3⟩ := (SB.out.below TQ.out.1).at hs
          injection eg with eg
          injection eg with eg1 eg2
          subst eg1 eg2
          rw [Nat.zero_add] at q0 q1 q2 q3
          obtain ⟨sk, sb, sl, st⟩ := s
          simp only at q0 q1 q2 q3
          have HDS := hide hds
          clear hend hce e2 HWH HTO HR HDO
          have CT0 : Hid (∀ W, RdB W (.slice ad6 cs.length cp6) cs → Calls Try.prog 23 #[.agg #[.slice ad6 cs.length cp6], .agg #[.int .i64 sk, .int .i64 sb, .int .i64 sl, .string st]] W fun e w' => ∃ x, e = .returned (.tuple #[.agg #[x], .bool true]) ∧ FlashOf w' W.heap.size x (tornF cs (sk, sb, sl, st)) ∧ Below W.heap.size W w') := by
            intro W hW
            have := ito_b (.slice ad6 cs.length cp6) cs (sk, sb, sl, st) W HSC.out hW
            rw [torn_do hds] at this
            exact this
          have MP : sk = 1 → ∃ (kb j : Nat) (r : Bk), sb = kb ∧ sl = j ∧ (tornF cs (sk, sb, sl, st))[kb]? = some r ∧ j < 4 ∧ (readF (tornF cs (sk, sb, sl, st)) sb sl).2 = false ∧ nextB r.2.2 = j + 1 ∧ r.2.2.length = 4 := by
            intro e
            subst e
            exact torn_prog hds
          have MW : sk ≠ 1 → ∃ (kb : Nat) (r : Bk), sb = kb ∧ (tornF cs (sk, sb, sl, st))[kb]? = some r ∧ (wipeF (tornF cs (sk, sb, sl, st)) sb).2 = true ∧ nextB r.2.2 = 4 ∧ r.2.2.length = 4 := fun e => torn_wipe e hds
          obtain ⟨A1, hA1⟩ : ∃ A1, tornF cs (sk, sb, sl, st) = A1 := ⟨_, rfl⟩
          rw [hA1] at CT0 MP MW HSA TQ ka
          try rw [hA1]
          have HMP := hide MP
          have HMW := hide MW
          have TQd := hide TQ.out.drew
          have TQe := hide (TQ.out.below ((Below.refl _ _).alloc (Nat.le_refl _) (.cells #[.slice none 0 0] 28)).drew)
          have CA := hide (CT0.out _ (TQd.out.get 1 rfl).rdb)
          have CB2 := hide (CT0.out _ (TQe.out.get 1 rfl).rdb)
          have kn0 : (k : Int) < n := by omega
          have gw : g < wq.heap.size := World.block_lt_of_cell? wq _ q0
          have cw : c11 < wq.heap.size := World.block_lt_of_cell? wq _ kq
          have QS : Hid (∀ W, Below wB.heap.size wB W → W.cell? ⟨g, k * 4, none⟩ = some (.int .i64 sk) ∧ W.cell? ⟨g, k * 4 + 1, none⟩ = some (.int .i64 sb) ∧ W.cell? ⟨g, k * 4 + 2, none⟩ = some (.int .i64 sl) ∧ W.cell? ⟨g, k * 4 + 3, none⟩ = some (.string st)) := by
            intro W hW
            obtain ⟨gg, og, eg, q0, q1, q2, q3⟩ := (SB.out.below hW).at hs
            injection eg with eg
            injection eg with eg1 eg2
            subst eg1 eg2
            rw [Nat.zero_add] at q0 q1 q2 q3
            exact ⟨q0, q1, q2, q3⟩
          clear CT0 MP MW hA1 hds hs HDS
          go_upto_region 15 with fail
          go_cut [13, 14] (fun s13 s14 wc => s14 = .bool true ∧ ∃ (c13 : Nat) (ad8 : Option Addr) (cp8 lo8 hi8 : Nat), s13 = .pointer (some ⟨c13, 0, none⟩) ∧ Hid (Tk wB wc [(c13, c13 + 1, Cel c13 #[.slice ad8 A1.length cp8] 28), (lo8, hi8, Fla lo8 hi8 (.slice ad8 A1.length cp8) A1), (c11, c11 + 1, Cel c11 #[.slice ad6 cs.length cp6] 28), (lo6, hi6, Fla lo6 hi6 (.slice ad6 cs.length cp6) cs), (c5, c5 + 1, Cel c5 #[.slice ad2 A1.length cp2] 28), (lo2, hi2, Fla lo2 hi2 (.slice ad2 A1.length cp2) A1)]))
          case first =>
            go_region_with (first
              | (go_at_call 23; (with_reducible refine Calls.mono CA.out ?_); rintro en w8 ⟨x, rfl, fo, b8⟩; obtain ⟨ad8, cp8, rfl⟩ := fo.form; obtain ⟨lo8, hi8, t8⟩ := TQd.out.late b8 fo rfl; have TL := hide t8; clear fo b8 t8)
              | (go_at_call 23; (with_reducible refine Calls.mono CB2.out ?_); rintro en w9 ⟨x, rfl, fo, b8⟩; obtain ⟨ad8, cp8, rfl⟩ := fo.form; obtain ⟨n9, f9, lo8, hi8, t8⟩ := TQ.out.early b8 fo; have TE := hide t8; clear fo b8 t8))
            all_goals
              go_wp2_with fail
              go_meet
              case rel => first
                | exact ⟨rfl, _, _, _, _, _, rfl, TL⟩
                | exact ⟨rfl, _, _, _, _, _, rfl, TE⟩
          case rest =>
            obtain ⟨wz, hwc⟩ : ∃ wz, wz = wc := ⟨_, rfl⟩
            subst hwc
            obtain ⟨hs14, c13, ad8, cp8, lo8, hi8, hs13, TZ⟩ := hcut
            subst hs14 hs13
            clear CA CB2 TQd TQe TQ kq ka gw cw q0 q1 q2 q3
            obtain ⟨q0, q1, q2, q3⟩ := QS.out _ TZ.out.1
            obtain ⟨c15, hc15⟩ : ∃ c15, wz.heap.size = c15 := ⟨_, rfl⟩
            have TY := hide (TZ.out.celln hc15 #[.int .i64 sk, .int .i64 sb, .int .i64 sl, .string st] 49)
            by_cases hsk : sk = 1
            · subst hsk
              obtain ⟨kb, j, r, e1, e2, hr, hj, hrd, hnx, hr4⟩ := HMP.out rfl
              subst e1 e2
              have HRD := hide hrd
              have hkb := (List.getElem?_eq_some_iff.1 hr).1
              have kb0 : (0 : Int) ≤ kb := by omega
              have kb1 : (kb : Int) < A1.length := by omega
              have ya : (wz.alloc (.cells #[.int .i64 1, .int .i64 kb, .int .i64 j, .string st] 49)).cell? ⟨c5, 0, none⟩ = some (.slice ad2 A1.length cp2) := TY.out.at 5 0 rfl rfl
              have HRR := hide hr
              clear HMP HMW QS hrd hr
              go_wp2_with fail
              try rw [hc15]
              generalize wz.alloc (.cells #[.int .i64 1, .int .i64 kb, .int .i64 j, .string st] 49) = wy at TY ya ⊢
              clear hc15 q0 q1 q2 q3 TZ
              refine (iread_b _ A1 (kb : Int) (j : Int) wy HSA.out (TY.out.get 6 rfl).rdb).mono ?_
              rintro e wx ⟨Tx, rfl, bx⟩
              rw [HRD.out]
              have TX := hide (TY.out.below bx)
              clear bx TY ya HRD
              have KA : Hid (∃ gu u, ad2 = some ⟨gu, 0, none⟩ ∧ ∀ W, Below wx.heap.size wx W → (W.cell? ⟨gu, kb * 3, none⟩ = some (.bool r.1) ∧ W.cell? ⟨gu, kb * 3 + 1, none⟩ = some (.int .i64 r.2.1) ∧ W.cell? ⟨gu, kb * 3 + 2, none⟩ = some u) ∧ W.ownsRow lo2 94 2 u r.2.2.length (lcells r.2.2)) := by
                have F := TX.out.get 6 rfl
                obtain ⟨ad', cp', e, h9⟩ := F.form
                injection e with ea eb ec
                subst ea
                obtain ⟨gu, e9, -, -⟩ := h9 (by omega)
                subst e9
                obtain ⟨c1, c2, u, c3, ow⟩ := F.cells HRR.out
                refine ⟨gu, u, rfl, fun W hW => ?_⟩
                have F' := (TX.out.below hW).get 6 rfl
                obtain ⟨c1', c2', u', c3', ow'⟩ := F'.cells HRR.out
                have hu : u' = u := by
                  have hlt := World.block_lt_of_cell? wx _ c3
                  rw [hW.cell hlt, c3] at c3'
                  injection c3' with c3'
                  exact c3'.symm
                subst hu
                exact ⟨⟨c1', c2', c3'⟩, ow'⟩
              obtain ⟨gu, u, e9, ka⟩ := KA.out
              subst e9
              have KAA := hide ka
              obtain ⟨⟨a1, a2, a3⟩, own⟩ := ka wx (Below.refl _ _)
              obtain ⟨ld, lc, rfl, -⟩ := frow_form own
              obtain ⟨rb, rw0, ls⟩ := r
              simp only at a1 a2 a3 hnx hr4 KAA
              have hnI : ((nextB ls : Nat) : Int) = (j : Int) + 1 := by omega
              have hjj : IntKind.i64.wrap ((j : Int) + 1) = (j : Int) + 1 := by rw [IntKind.wrap_i64]; omega
              have hjb : (((j : Int) + 1) == ((j : Int) + 1)) = true := by simp
              have CN : Hid (∀ W, Below wx.heap.size wx W → Calls Try.prog 25 #[.agg #[.bool rb, .int .i64 rw0, .slice ld ls.length lc]] W fun e w' => e = .returned (.int .i64 ((j : Int) + 1)) ∧ Below W.heap.size W w') := by
                intro W hW
                have := inext_any rb rw0 _ ls lo2 W (by omega) (KAA.out W hW).2
                rw [hnI] at this
                exact this
              have CM : Hid (∀ W, Below wx.heap.size wx W → Calls Try.prog 21 #[.agg #[.slice (some ⟨gu, 0, none⟩) A1.length cp2], .agg #[.slice ad8 A1.length cp8]] W fun e w' => e = .returned (.bool true) ∧ Below W.heap.size W w') := fun W hW => same_b _ _ A1 W HSA.out ((TX.out.below hW).get 6 rfl).rdb ((TX.out.below hW).get 2 rfl).rdb
              have KK : Hid (∀ W, Below wx.heap.size wx W → (W.cell? ⟨c5, 0, none⟩ = some (.slice (some ⟨gu, 0, none⟩) A1.length cp2) ∧ W.cell? ⟨c13, 0, none⟩ = some (.slice ad8 A1.length cp8) ∧ W.cell? ⟨c15, 1, none⟩ = some (.int .i64 kb) ∧ W.cell? ⟨c15, 2, none⟩ = some (.int .i64 j) ∧ W.cell? ⟨gu, kb * 3, none⟩ = some (.bool rb) ∧ W.cell? ⟨gu, kb * 3 + 1, none⟩ = some (.int .i64 rw0) ∧ W.cell? ⟨gu, kb * 3 + 2, none⟩ = some (.slice ld ls.length lc))) := by
                intro W hW
                have t := TX.out.below hW
                obtain ⟨⟨b1, b2, b3⟩, -⟩ := KAA.out W hW
                exact ⟨t.at 5 0 rfl rfl, t.at 1 0 rfl rfl, t.at 0 1 rfl rfl, t.at 0 2 rfl rfl, b1, b2, b3⟩
              have BX := hide (fun (W : World) (h : Below wx.heap.size wx W) => B0.out.trans ((TX.out.below h).1.mono B0.out.size))
              obtain ⟨m1, m2, m3, m4, -, -, -⟩ := KK.out wx (Below.refl _ _)
              have BD := hide ((Below.refl wx.heap.size wx).drew)
              clear own KA hnx hr4 ka KAA TX HSA HD HSM FB SB CB KF HN HSC HRR B0 hc9 hl7 hlc hl9 hoo hkk hkn hkn2 hkn3 kn0 kk0 hjj hnI
              have hjj : IntKind.i64.wrap ((j : Int) + 1) = (j : Int) + 1 := by rw [IntKind.wrap_i64]; omega
              go_wp2
              go_region_held3 (fun w' => w'.cell? ⟨c5, 0, none⟩ = some (.slice (some ⟨gu, 0, none⟩) A1.length cp2) ∧ w'.cell? ⟨c13, 0, none⟩ = some (.slice ad8 A1.length cp8) ∧ w'.cell? ⟨c15, 1, none⟩ = some (.int .i64 kb) ∧ w'.cell? ⟨c15, 2, none⟩ = some (.int .i64 j) ∧ w'.cell? ⟨gu, kb * 3, none⟩ = some (.bool rb) ∧ w'.cell? ⟨gu, kb * 3 + 1, none⟩ = some (.int .i64 rw0) ∧ w'.cell? ⟨gu, kb * 3 + 2, none⟩ = some (.slice ld ls.length lc)) (first | go_keep | exact KK.out _ BD.out | exact KK.out _ B1.out | exact KK.out _ B2.out) (first
                | (go_at_call 21; (with_reducible refine Calls.mono (CM.out _ BD.out) ?_); rintro en v1 ⟨rfl, b1⟩; have B1 := hide (BD.out.trans (b1.mono BD.out.size)); clear b1)
                | (go_at_call 25; (with_reducible refine Calls.mono (CN.out _ B1.out) ?_); rintro en v2 ⟨rfl, b2⟩; have B2 := hide (B1.out.trans (b2.mono B1.out.size)); clear b2))
              all_goals
                have BE := hide (BX.out _ B2.out)
                clear KK CM CN BX BD B1 B2 m1 m2 m3 m4 a1 a2 a3
                go_wp2
                go_ret
                exact ⟨by simp, BE.out⟩
            · have hsb : (sk == 1) = false := by simpa using hsk
              obtain ⟨kb, r, e1, hr, hwp, hnx, hr4⟩ := HMW.out hsk
              subst e1
              have hkb := (List.getElem?_eq_some_iff.1 hr).1
              have kb0 : (0 : Int) ≤ kb := by omega
              have kb1 : (kb : Int) < A1.length := by omega
              have ya : (wz.alloc (.cells #[.int .i64 sk, .int .i64 kb, .int .i64 sl, .string st] 49)).cell? ⟨c5, 0, none⟩ = some (.slice ad2 A1.length cp2) := TY.out.at 5 0 rfl rfl
              have HRR := hide hr
              obtain ⟨W1, hW1⟩ : ∃ W1, (wipeF A1 (kb : Int)) = (W1, true) := ⟨_, Prod.ext rfl hwp⟩
              have CW := hide (fun W h => iwipe_b (.slice ad2 A1.length cp2) A1 (kb : Int) W HSA.out h)
              rw [hW1] at CW
              clear HMP HMW QS hr hwp hsk hW1
              go_wp2_with fail
              try rw [hc15]
              generalize wz.alloc (.cells #[.int .i64 sk, .int .i64 kb, .int .i64 sl, .string st] 49) = wy at TY ya ⊢
              clear hc15 q0 q1 q2 q3 TZ
              refine (CW.out wy (TY.out.get 6 rfl).rdb).mono ?_
              rintro e wx ⟨x9, rfl, f9, bx⟩
              obtain ⟨ad9, cp9, rfl⟩ := f9.form
              have TX := hide ((TY.out.below bx).below ((Below.refl _ _).alloc (Nat.le_refl _) (.cells #[.slice ad9 W1.length cp9] 28)))
              have ma : (wx.alloc (.cells #[.slice ad9 W1.length cp9] 28)).cell? ⟨c5, 0, none⟩ = some (.slice ad2 A1.length cp2) := TX.out.at 5 0 rfl rfl
              have mc : (wx.alloc (.cells #[.slice ad9 W1.length cp9] 28)).cell? ⟨c13, 0, none⟩ = some (.slice ad8 A1.length cp8) := TX.out.at 1 0 rfl rfl
              clear bx TY ya CW f9
              go_wp2_with fail
              generalize wx.alloc (.cells #[.slice ad9 W1.length cp9] 28) = wv at TX ma mc ⊢
              refine (same_b _ _ A1 wv HSA.out (TX.out.get 6 rfl).rdb (TX.out.get 2 rfl).rdb).mono ?_
              rintro e wu ⟨rfl, bu⟩
              have TU := hide (TX.out.below bu)
              have F := TU.out.get 6 rfl
              obtain ⟨ad', cp', e, h9⟩ := F.form
              injection e with ea eb ec
              subst ea
              obtain ⟨gu, e9, -, -⟩ := h9 (by omega)
              subst e9
              obtain ⟨a1, a2, u, a3, own⟩ := F.cells HRR.out
              have m1 : wu.cell? ⟨c5, 0, none⟩ = some (.slice (some ⟨gu, 0, none⟩) A1.length cp2) := TU.out.at 5 0 rfl rfl
              have m2 : wu.cell? ⟨c15, 1, none⟩ = some (.int .i64 kb) := TU.out.at 0 1 rfl rfl
              obtain ⟨ld, lc, rfl, -⟩ := frow_form own
              obtain ⟨rb, rw0, ls⟩ := r
              simp only at a1 a2 a3 hnx hr4 own
              have CN := hide (inext_any rb rw0 _ ls lo2 wu (by omega) own)
              rw [hnx] at CN
              clear bu TX ma mc F eb ec h9 own hnx hr4
              go_wp2_with fail
              refine CN.out.mono ?_
              rintro e wt ⟨rfl, bt⟩
              have BE := hide (B0.out.trans ((TU.out.below bt).1.mono B0.out.size))
              clear bt CN TU a1 a2 a3 m1 m2
              go_wp2
              go_ret
              exact ⟨rfl, BE.out⟩
end Go.Proofs.Ytcjgjkejhkhknaa
