/-
  ICut; SDoS
-/
import Derived.Test.YtcjgjkejhkhknaaPq100
import Derived.Test.YtcjgjkejhkhknaaITo
import Derived.Test.YtcjgjkejhkhknaaDz
import Derived.Test.YtcjgjkejhkhknaaPq0
import Derived.Deep.RegionWith
import Derived.Test.YtcjgjkejhkhknaaPq88
/-
  impl.CutSteps.
-/
namespace Go.Proofs.Ytcjgjkejhkhknaa
open Go.RowKit

set_option maxHeartbeats 3200000 in
set_option maxRecDepth 100000 in
theorem icut_b (v u : Value) (bs : List Bk) (l : List Stp) (whole : Int) (torn : Bool) (w : World) (hs : Sml bs) (hl : l.length ≤ 1000000000) (ha : RdB w v bs) (hu : StRd w u l) :
    Calls Try.prog 19 #[.agg #[v], u, .int .i64 whole, .bool torn] w fun e w' => ∃ x, e = .returned (.tuple #[.agg #[x], .bool (cutF bs l whole torn).2]) ∧ FlashOf w' w.heap.size x (cutF bs l whole torn).1 ∧ Below w.heap.size w w' := by
  obtain ⟨vd, vc, rfl⟩ := ha.form
  obtain ⟨ad, cap, rfl, u1, u2, u3⟩ := hu.form
  have Zw0 := hide (Rz.start w (.slice vd bs.length vc))
  have F0 := hide ha
  have HU := hide hu
  have HS := hide hs
  obtain ⟨n, hn⟩ : ∃ n, l.length = n := ⟨_, rfl⟩
  have HN := hide hn
  rw [hn] at hl u1 HU ⊢
  clear ha hu hs hn
  by_cases hw : 0 ≤ whole ∧ whole ≤ (n : Int)
  · obtain ⟨k, rfl⟩ : ∃ k : Nat, whole = k := ⟨whole.toNat, by omega⟩
    have hkn : k ≤ n := by omega
    have k0 : (0 : Int) ≤ k := by omega
    have kn : (k : Int) ≤ n := by omega
    have sR := fun W => take_run ad n cap k W (by omega)
    have HUK := hide (HU.out.take k (by rw [HN.out]; exact hkn))
    obtain ⟨cs, d, hd⟩ : ∃ cs d, doAll bs (l.take k) = (cs, d) := ⟨_, _, rfl⟩
    have hdk : d ≤ k := by have := doAll_le bs (l.take k); rw [hd, List.length_take] at this; simp only at this; omega
    have HD := hide hd
    have HCS : Hid (Sml cs) := by have := HS.out.all (l.take k); rw [hd] at this; exact this
    have CD : Hid (∀ W, Below w.heap.size w W → Calls Try.prog 59 #[.agg #[.slice vd bs.length vc], .slice ad k cap] W fun e w' => ∃ x, e = .returned (.tuple #[.agg #[x], .int .i64 (d : Int)]) ∧ FlashOf w' W.heap.size x cs ∧ Below W.heap.size W w') := by
      intro W hW
      have := idos_b (.slice vd bs.length vc) (.slice ad k cap) bs (l.take k) W HS.out (by rw [List.length_take]; omega) (F0.out.below hW) (HUK.out.below hW)
      rw [hd] at this
      exact this
    have HT1 : Hid (d ≠ k → cutF bs l (k : Int) torn = (bs, false)) := fun h => cut_less HD.out h
    have HT2 : Hid (d = k → (torn = false ∨ k = n) → cutF bs l (k : Int) torn = (cs, true)) := fun h ht => cut_whole (by rw [HD.out, h]) (by rw [HN.out]; exact hkn) (by rw [HN.out]; exact ht)
    have HT3 : Hid (∀ s, d = k → l[k]? = some s → cutF bs l (k : Int) true = if (tormF cs s).2 then ((tormF cs s).1, true) else (bs, false)) := fun s h hs => cut_torn (by rw [HD.out, h]) hs
    clear hd
    go_enter Try.func19, Try.ntmps19
    go_wp2
    obtain ⟨w0, hw0⟩ : ∃ w0, ((w.alloc (.cells #[.slice vd bs.length vc] 28)).alloc (.cells #[.slice none 0 0] 28)) = w0 := ⟨_, rfl⟩
    rw [hw0] at Zw0 ⊢
    clear hw0
    obtain ⟨q0, -, -⟩ := Zw0.out.cell
    have ZA := hide (Zw0.out.below (Below.refl _ _).drew)
    have ZB := hide (Zw0.out.below ((Below.refl _ _).alloc (Nat.le_refl _) (.cells #[.slice none 0 0] 28)).drew)
    have hcw : w.heap.size < w0.heap.size := by have := Zw0.out.size; omega
    have CA := hide (CD.out _ ZA.out.1)
    have CB := hide (CD.out _ ZB.out.1)
    go_region_with (first
      | (go_at_call 59; (with_reducible refine Calls.mono CA.out ?_); rintro en w4 ⟨x, rfl, fo, b4⟩; obtain ⟨xd, xc, rfl⟩ := fo.form; have DZ := hide (Dz.mk1 ZA.out b4 fo rfl); clear fo b4)
      | (go_at_call 59; (with_reducible refine Calls.mono CB.out ?_); rintro en w5 ⟨x, rfl, fo, b4⟩; obtain ⟨xd, xc, rfl⟩ := fo.form; obtain ⟨n5, f5, dz5⟩ := Dz.mk2 Zw0.out b4 fo; have DY := hide dz5; clear fo b4 dz5))
    all_goals first
      | (generalize w4.alloc (.cells #[.slice xd cs.length xc] 28) = wr at DZ ⊢
         generalize w4.heap.size = c at DZ ⊢
         have DQ := DZ
         clear DZ)
      | (generalize w5.setCell ⟨w0.heap.size, 0, none⟩ (.slice xd cs.length xc) = wr at DY ⊢
         generalize w0.heap.size = c at DY ⊢
         have DQ := DY
         clear DY n5 f5)
    all_goals
      obtain ⟨q1, q2⟩ := DQ.out.cell
      have Zwr := hide DQ.out.rz
      obtain ⟨p0, p1, p2⟩ := DQ.out.rz.cell
      clear CA CB CD ZA ZB Zw0 q0 hcw sR HD
      by_cases hdd : d = k
      · subst hdd
        cases torn with
        | false =>
          have HT := hide (HT2.out rfl (Or.inl rfl))
          have FI := hide DQ.out.fin
          clear HT1 HT2 HT3
          go_wp2
          exact bodyPost_ret (results_flash2 rfl _ _ (w.heap.size + 1) _ rfl FI.out.1) rfl ⟨_, by rw [HT.out]; rfl, by rw [HT.out]; exact FI.out.2.1, FI.out.2.2⟩
        | true =>
          by_cases hdn : (d : Int) < n
          · obtain ⟨s, hsi⟩ : ∃ s, l[d]? = some s := ⟨_, List.getElem?_eq_getElem (by have := HN.out; omega)⟩
            obtain ⟨g, og, eg, t1, t2, t3, t4⟩ := (HU.out.below DQ.out.rz.1).at hsi
            subst eg
            have HT := hide (HT3.out s rfl hsi)
            have DQd := hide (DQ.out.below (Below.refl _ _).drew)
            have CT := hide (ito_b (.slice xd cs.length xc) cs s wr.drew HCS.out DQd.out.rdb)
            obtain ⟨TB, ok, hTB⟩ : ∃ TB ok, tormF cs s = (TB, ok) := ⟨_, _, rfl⟩
            rw [hTB] at CT HT
            obtain ⟨k', b', lf', t'⟩ := s
            unfold stV at CT
            simp only at CT HT t1 t2 t3 t4
            clear HT1 HT2 HT3 hsi hTB
            go_wp2
            go_region_with ((go_at_call 23; (with_reducible refine Calls.mono CT.out ?_); rintro en w6 ⟨z, rfl, fo, b6⟩; obtain ⟨zd, zc, rfl⟩ := fo.form; have DN := hide (DQd.out.next b6 fo); obtain ⟨m1, m2⟩ := (DQd.out.below b6).cell; clear fo b6))
            all_goals
              clear m1 m2 q1 q2 p0 p1 p2 t1 t2 t3 t4 CT DQd DQ Zwr
              generalize w6.setCell ⟨c, 0, none⟩ (.slice zd TB.length zc) = wr at DN ⊢
              have Zwr := hide DN.out.rz
              obtain ⟨p0, p1, p2⟩ := DN.out.rz.cell
              obtain ⟨q1, q2⟩ := DN.out.cell
              cases ok with
              | true =>
                have FI := hide DN.out.fin
                have HTT : Hid (cutF bs l (d : Int) true = (TB, true)) := by show _ = _; rw [HT.out]; rfl
                clear HT
                go_wp2
                exact bodyPost_ret (results_flash2 rfl _ _ (w.heap.size + 1) _ rfl FI.out.1) rfl ⟨_, by rw [HTT.out]; rfl, by rw [HTT.out]; exact FI.out.2.1, FI.out.2.2⟩
              | false =>
                have HTT : Hid (cutF bs l (d : Int) true = (bs, false)) := by show _ = _; rw [HT.out]; rfl
                clear HT
                go_wp2_with fail
                refine (icopy_b _ bs wr HS.out (F0.out.below Zwr.out.1)).mono ?_
                rintro e wq ⟨xq, rfl, fo, bq⟩
                obtain ⟨qd, qc, rfl⟩ := fo.form
                obtain ⟨-, n1, f1⟩ := (Zwr.out.below bq).cell
                have FI := hide (Zwr.out.fin bq fo)
                clear bq fo
                go_wp2
                exact bodyPost_ret (results_flash2 rfl _ _ (w.heap.size + 1) _ rfl FI.out.1) rfl ⟨_, by rw [HTT.out]; rfl, by rw [HTT.out]; exact FI.out.2.1, FI.out.2.2⟩
          · have hdn2 : d = n := by omega
            have HT := hide (HT2.out rfl (Or.inr hdn2))
            have FI := hide DQ.out.fin
            clear HT1 HT2 HT3 hdn2
            go_wp2
            exact bodyPost_ret (results_flash2 rfl _ _ (w.heap.size + 1) _ rfl FI.out.1) rfl ⟨_, by rw [HT.out]; rfl, by rw [HT.out]; exact FI.out.2.1, FI.out.2.2⟩
      · have e1 : ((d : Int) == (k : Int)) = false := by simp; omega
        have HT := hide (HT1.out hdd)
        clear HT1 HT2 HT3 hdd
        go_wp2_with fail
        refine (icopy_b _ bs wr HS.out (F0.out.below Zwr.out.1)).mono ?_
        rintro e wq ⟨xq, rfl, fo, bq⟩
        obtain ⟨qd, qc, rfl⟩ := fo.form
        obtain ⟨-, n1, f1⟩ := (Zwr.out.below bq).cell
        have FI := hide (Zwr.out.fin bq fo)
        clear bq fo
        go_wp2
        exact bodyPost_ret (results_flash2 rfl _ _ (w.heap.size + 1) _ rfl FI.out.1) rfl ⟨_, by rw [HT.out]; rfl, by rw [HT.out]; exact FI.out.2.1, FI.out.2.2⟩
  · have HT : Hid (cutF bs l whole torn = (bs, false)) := cut_out (by rw [HN.out]; exact hw)
    by_cases h0 : whole < 0
    · clear hw
      go_enter Try.func19, Try.ntmps19
      go_wp2_with fail
      generalize ((w.alloc (.cells #[.slice vd bs.length vc] 28)).alloc (.cells #[.slice none 0 0] 28)) = w0 at Zw0 ⊢
      refine (icopy_b _ bs w0 HS.out (F0.out.below Zw0.out.1)).mono ?_
      rintro e wq ⟨xq, rfl, fo, bq⟩
      obtain ⟨qd, qc, rfl⟩ := fo.form
      obtain ⟨-, n1, f1⟩ := (Zw0.out.below bq).cell
      have FI := hide (Zw0.out.fin bq fo)
      clear bq fo
      go_wp2
      exact bodyPost_ret (results_flash2 rfl _ _ (w.heap.size + 1) _ rfl FI.out.1) rfl ⟨_, by rw [HT.out]; rfl, by rw [HT.out]; exact FI.out.2.1, FI.out.2.2⟩
    · have h1 : (n : Int) < whole := by omega
      clear hw
      go_enter Try.func19, Try.ntmps19
      go_wp2_with fail
      generalize ((w.alloc (.cells #[.slice vd bs.length vc] 28)).alloc (.cells #[.slice none 0 0] 28)) = w0 at Zw0 ⊢
      refine (icopy_b _ bs w0 HS.out (F0.out.below Zw0.out.1)).mono ?_
      rintro e wq ⟨xq, rfl, fo, bq⟩
      obtain ⟨qd, qc, rfl⟩ := fo.form
      obtain ⟨-, n1, f1⟩ := (Zw0.out.below bq).cell
      have FI := hide (Zw0.out.fin bq fo)
      clear bq fo
      go_wp2
      exact bodyPost_ret (results_flash2 rfl _ _ (w.heap.size + 1) _ rfl FI.out.1) rfl ⟨_, by rw [HT.out]; rfl, by rw [HT.out]; exact FI.out.2.1, FI.out.2.2⟩
end Go.Proofs.Ytcjgjkejhkhknaa

/-
  spec.DoSteps.
-/
namespace Go.Proofs.Ytcjgjkejhkhknaa
open Go.RowKit

set_option maxHeartbeats 800000 in
set_option maxRecDepth 100000 in
theorem sdos_b (v u : Value) (bs : List Bk) (l : List Stp) (w : World) (hs : Sml bs) (hl : l.length ≤ 1000000000) (ha : RdB w v bs) (hu : StRd w u l) :
    Calls Try.prog 22 #[.agg #[v], u] w fun e w' => ∃ x, e = .returned (.tuple #[.agg #[x], .int .i64 ((doAll bs l).2 : Int)]) ∧ FlashOf w' w.heap.size x (doAll bs l).1 ∧ Below w.heap.size w w' := by
  obtain ⟨vd, vc, rfl⟩ := ha.form
  obtain ⟨ad, cap, rfl, u1, u2, u3⟩ := hu.form
  obtain ⟨n, hn⟩ : ∃ n, l.length = n := ⟨_, rfl⟩
  have HN := hide hn
  have HB0 := hide (((Below.refl w.heap.size w).alloc (Nat.le_refl _) (.cells #[.slice vd bs.length vc] 28)).alloc (by simp) (.cells #[.slice none 0 0] 28))
  have F0 := hide (ha.below HB0.out)
  have HU := hide hu
  have HS := hide hs
  rw [hn] at hl u1 HU ⊢
  clear ha hu hs u3 hn
  go_enter Try.func22, Try.ntmps22
  go_wp2_with fail
  refine (scopy_b _ bs _ HS.out F0.out).mono ?_
  rintro e w1 ⟨x, rfl, fo, b1⟩
  obtain ⟨xd, xc, rfl⟩ := fo.form
  obtain ⟨c, hc⟩ : ∃ c, w1.heap.size = c := ⟨_, rfl⟩
  have D0 := hide (DoS.start b1 fo hc)
  clear b1 fo F0
  go_wp2
  try rw [hc]
  clear hc
  generalize w1.alloc (.cells #[.slice xd bs.length xc] 28) = w2 at D0 ⊢
  go_loopw [7] (fun iv wr => ∃ (i : Nat) (y : Value) (cs : List Bk), i ≤ n ∧ iv = .int .i64 i ∧ Hid (doAll bs (l.take i) = (cs, i)) ∧ Hid (Sml cs) ∧ Hid (DoS w wr c y cs)) (fun iv _ => n - (intOf iv).toNat)
  case atStart => exact ⟨0, _, bs, Nat.zero_le _, rfl, rfl, HS, D0⟩
  case round =>
    obtain ⟨i, y, cs, hi, rfl, HA, HC, D⟩ := hrel
    clear D0
    obtain ⟨yd, yc, rfl⟩ := D.out.form
    obtain ⟨k1, f1, k2, f2⟩ := D.out.cell
    by_cases hlt : (i : Int) < n
    · obtain ⟨s, hsi⟩ : ∃ s, l[i]? = some s := ⟨_, List.getElem?_eq_getElem (by have := HN.out; omega)⟩
      obtain ⟨g, o, eg, q1, q2, q3, q4⟩ := (HU.out.below D.out.bel).at hsi
      subst eg
      have HSI := hide hsi
      obtain ⟨k, b, lf, t⟩ := s
      simp only at q1 q2 q3 q4
      have i0 : (0 : Int) ≤ i := by omega
      obtain ⟨cs', ok, hd⟩ : ∃ cs' ok, doF cs (k, b, lf, t) = (cs', ok) := ⟨_, _, rfl⟩
      have HDF := hide hd
      have Dd := hide (D.out.below (Below.refl _ _).drew)
      have De := hide (D.out.below ((Below.refl _ _).alloc (Nat.le_refl _) (.cells #[.slice none 0 0] 28)).drew)
      have CD := hide (sdo_b (.slice yd cs.length yc) cs (k, b, lf, t) wr.drew HC.out Dd.out.rdb)
      have CE := hide (sdo_b (.slice yd cs.length yc) cs (k, b, lf, t) (wr.alloc (.cells #[.slice none 0 0] 28)).drew HC.out De.out.rdb)
      unfold stV at CD CE
      rw [hd] at CD CE
      simp only at CD CE
      have HE : ok = false → Hid (doAll bs l = (cs, i)) := fun h => doAll_stop HA.out HSI.out (by rw [HDF.out]; exact h)
      have HA2 : ok = true → Hid (doAll bs (l.take (i + 1)) = (cs', i + 1)) := fun h => by
        have := doAll_next HA.out HSI.out (by rw [HDF.out]; exact h)
        rw [HDF.out] at this
        exact this
      have HC2 : Hid (Sml cs') := by have := HC.out.step (k, b, lf, t); rw [HDF.out] at this; exact this
      clear hsi hd
      have gw : g < wr.heap.size := World.block_lt_of_cell? wr _ q1
      have cw : c < wr.heap.size := World.block_lt_of_cell? wr _ k1
      go_wp2
      go_region_with (first
        | (go_at_call 61; (with_reducible refine Calls.mono CD.out ?_); rintro en w4 ⟨z, rfl, fo, b4⟩; obtain ⟨zd, zc, rfl⟩ := fo.form; have D4 := hide (Dd.out.below b4); have FO := hide fo; have B4 := hide b4; clear fo b4)
        | (go_at_call 61; (with_reducible refine Calls.mono CE.out ?_); rintro en w5 ⟨z, rfl, fo, b4⟩; obtain ⟨zd, zc, rfl⟩ := fo.form; have DE := hide (D.out.next2 b4 fo); obtain ⟨n5, f5⟩ := DE.out.1; clear fo b4))
      all_goals first
        | (have b5 := (Below.refl w4.heap.size w4).alloc (Nat.le_refl _) (.cells #[.slice zd cs'.length zc] 28)
           have D5 := hide (D4.out.below b5)
           have DN := hide (Dd.out.next B4.out FO.out b5)
           obtain ⟨p1, p4, p2, p3⟩ := D5.out.cell
           have FI := hide D5.out.fin
           clear b5 FO B4 D4)
        | (obtain ⟨-, p0, p5, p6⟩ := DE.out
           have DN := hide p6
           have FI := hide p5.fin
           obtain ⟨p1, p4, p2, p3⟩ := p5.cell
           clear p5 p6 DE n5 f5)
      all_goals
          clear CD CE D De Dd k1 k2 f1 f2 q1 q2 q3 q4 HA HC HDF HSI
          cases ok with
          | false =>
            have HEQ := HE rfl
            clear HA2 HE
            go_wp2
            exact bodyPost_ret (results_flash2 rfl _ _ (w.heap.size + 1) _ rfl FI.out.1) rfl ⟨_, by rw [HEQ.out]; rfl, by rw [HEQ.out]; exact FI.out.2.1, FI.out.2.2⟩
          | true =>
            have HAQ := HA2 rfl
            clear HE HA2
            go_wp2
            go_roundw
            case rel => exact ⟨i + 1, _, cs', by omega, by go_num, HAQ, HC2, DN⟩
            case measure => simp [intOf]; omega
    · have hin : i = n := by omega
      have HE : Hid (doAll bs l = (cs, n)) := by
        have := doAll_end HA.out (hin.trans HN.out.symm)
        rw [HN.out] at this
        exact this
      have FI := hide D.out.fin
      clear hin
      go_wp2
      exact bodyPost_ret (results_flash2 rfl _ _ (w.heap.size + 1) _ rfl FI.out.1) rfl ⟨_, by rw [HE.out]; rfl, by rw [HE.out]; exact FI.out.2.1, FI.out.2.2⟩
end Go.Proofs.Ytcjgjkejhkhknaa
