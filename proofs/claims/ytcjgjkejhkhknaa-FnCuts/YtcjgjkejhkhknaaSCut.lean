/-
  spec.CutSteps.
-/
import Derived.Test.YtcjgjkejhkhknaaPq104
import Derived.Test.YtcjgjkejhkhknaaSTo
import Derived.Test.YtcjgjkejhkhknaaDz
import Derived.Test.YtcjgjkejhkhknaaPq0
import Derived.Deep.RegionWith
namespace Go.Proofs.Ytcjgjkejhkhknaa
open Go.RowKit

set_option maxHeartbeats 3200000 in
set_option maxRecDepth 100000 in
theorem scut_b (v u : Value) (bs : List Bk) (l : List Stp) (whole : Int) (torn : Bool) (w : World) (hs : Sml bs) (hl : l.length ≤ 1000000000) (ha : RdB w v bs) (hu : StRd w u l) :
    Calls Try.prog 20 #[.agg #[v], u, .int .i64 whole, .bool torn] w fun e w' => ∃ x, e = .returned (.tuple #[.agg #[x], .bool (cutF bs l whole torn).2]) ∧ FlashOf w' w.heap.size x (cutF bs l whole torn).1 ∧ Below w.heap.size w w' := by
  obtain ⟨vd, vc, rfl⟩ := ha.form
  obtain ⟨ad, cap, rfl, u1, u2, u3⟩ := hu.form
  have Zw0 := hide (Rz.start w (.slice vd bs.length vc))
  have F0 := hide ha
  have HU := hide hu
  have HS := hide hs
  obtain ⟨n, hn⟩ : ∃ n, l.length = n := ⟨_, rfl⟩
  have HN := hide hn
  rw [hn] at hl u1 HU ⊢
  clear ha hu hs hn
  by_cases hw : 0 ≤ whole ∧ whole ≤ (n : Int)
  · obtain ⟨k, rfl⟩ : ∃ k : Nat, whole = k := ⟨whole.toNat, by omega⟩
    have hkn : k ≤ n := by omega
    have k0 : (0 : Int) ≤ k := by omega
    have kn : (k : Int) ≤ n := by omega
    have sR := fun W => take_run ad n cap k W (by omega)
    have HUK := hide (HU.out.take k (by rw [HN.out]; exact hkn))
    obtain ⟨cs, d, hd⟩ : ∃ cs d, doAll bs (l.take k) = (cs, d) := ⟨_, _, rfl⟩
    have hdk : d ≤ k := by have := doAll_le bs (l.take k); rw [hd, List.length_take] at this; simp only at this; omega
    have HD := hide hd
    have HCS : Hid (Sml cs) := by have := HS.out.all (l.take k); rw [hd] at this; exact this
    have CD : Hid (∀ W, Below w.heap.size w W → Calls Try.prog 22 #[.agg #[.slice vd bs.length vc], .slice ad k cap] W fun e w' => ∃ x, e = .returned (.tuple #[.agg #[x], .int .i64 (d : Int)]) ∧ FlashOf w' W.heap.size x cs ∧ Below W.heap.size W w') := by
      intro W hW
      have := sdos_b (.slice vd bs.length vc) (.slice ad k cap) bs (l.take k) W HS.out (by rw [List.length_take]; omega) (F0.out.below hW) (HUK.out.below hW)
      rw [hd] at this
      exact this
    have HT1 : Hid (d ≠ k → cutF bs l (k : Int) torn = (bs, false)) := fun h => cut_less HD.out h
    have HT2 : Hid (d = k → (torn = false ∨ k = n) → cutF bs l (k : Int) torn = (cs, true)) := fun h ht => cut_whole (by rw [HD.out, h]) (by rw [HN.out]; exact hkn) (by rw [HN.out]; exact ht)
    have HT3 : Hid (∀ s, d = k → l[k]? = some s → cutF bs l (k : Int) true = if (tormF cs s).2 then ((tormF cs s).1, true) else (bs, false)) := fun s h hs => cut_torn (by rw [HD.out, h]) hs
    clear hd
    go_enter Try.func20, Try.ntmps20
    go_wp2_with fail
    refine (sin_any (k : Int) 0 (n : Int) _).mono ?_
    rintro e w0 ⟨rfl, hw0⟩
    subst hw0
    rw [decide_eq_true (show (0 : Int) ≤ k ∧ (k : Int) ≤ n from ⟨k0, kn⟩)]
    go_wp2
    obtain ⟨w0, hw0⟩ : ∃ w0, ((w.alloc (.cells #[.slice vd bs.length vc] 28)).alloc (.cells #[.slice none 0 0] 28)) = w0 := ⟨_, rfl⟩
    rw [hw0] at Zw0 ⊢
    clear hw0
    obtain ⟨q0, -, -⟩ := Zw0.out.cell
    have ZA := hide (Zw0.out.below (Below.refl _ _).drew)
    have ZB := hide (Zw0.out.below ((Below.refl _ _).alloc (Nat.le_refl _) (.cells #[.slice none 0 0] 28)).drew)
    have hcw : w.heap.size < w0.heap.size := by have := Zw0.out.size; omega
    have CA := hide (CD.out _ ZA.out.1)
    have CB := hide (CD.out _ ZB.out.1)
    go_region_with (first
      | (go_at_call 22; (with_reducible refine Calls.mono CA.out ?_); rintro en w4 ⟨x, rfl, fo, b4⟩; obtain ⟨xd, xc, rfl⟩ := fo.form; have DZ := hide (Dz.mk1 ZA.out b4 fo rfl); clear fo b4)
      | (go_at_call 22; (with_reducible refine Calls.mono CB.out ?_); rintro en w5 ⟨x, rfl, fo, b4⟩; obtain ⟨xd, xc, rfl⟩ := fo.form; obtain ⟨n5, f5, dz5⟩ := Dz.mk2 Zw0.out b4 fo; have DY := hide dz5; clear fo b4 dz5))
    all_goals first
      | (generalize w4.alloc (.cells #[.slice xd cs.length xc] 28) = wr at DZ ⊢
         generalize w4.heap.size = c at DZ ⊢
         have DQ := DZ
         clear DZ)
      | (generalize w5.setCell ⟨w0.heap.size, 0, none⟩ (.slice xd cs.length xc) = wr at DY ⊢
         generalize w0.heap.size = c at DY ⊢
         have DQ := DY
         clear DY n5 f5)
    all_goals
      obtain ⟨q1, q2⟩ := DQ.out.cell
      have Zwr := hide DQ.out.rz
      obtain ⟨p0, p1, p2⟩ := DQ.out.rz.cell
      clear CA CB CD ZA ZB Zw0 q0 hcw sR HD
      by_cases hdd : d = k
      · subst hdd
        have e0 : ¬ ((d : Int) < (d : Int)) := by omega
        cases torn with
        | false =>
          have HT := hide (HT2.out rfl (Or.inl rfl))
          have FI := hide DQ.out.fin
          clear HT1 HT2 HT3
          go_wp2
          exact bodyPost_ret (results_flash2 rfl _ _ (w.heap.size + 1) _ rfl FI.out.1) rfl ⟨_, by rw [HT.out]; rfl, by rw [HT.out]; exact FI.out.2.1, FI.out.2.2⟩
        | true =>
          by_cases hdn : d < n
          · have e1 : ((d : Int) == (n : Int)) = false := by simp; omega
            obtain ⟨s, hsi⟩ : ∃ s, l[d]? = some s := ⟨_, List.getElem?_eq_getElem (by have := HN.out; omega)⟩
            obtain ⟨g, og, eg, t1, t2, t3, t4⟩ := (HU.out.below DQ.out.rz.1).at hsi
            subst eg
            have HT := hide (HT3.out s rfl hsi)
            have DQd := hide (DQ.out.below (Below.refl _ _).drew)
            have DQe := hide (DQ.out.below ((Below.refl _ _).alloc (Nat.le_refl _) (.cells #[.slice none 0 0] 28)).drew)
            have CT := hide (sto_b (.slice xd cs.length xc) cs s wr.drew HCS.out DQd.out.rdb)
            have CU := hide (sto_b (.slice xd cs.length xc) cs s (wr.alloc (.cells #[.slice none 0 0] 28)).drew HCS.out DQe.out.rdb)
            obtain ⟨TB, ok, hTB⟩ : ∃ TB ok, tormF cs s = (TB, ok) := ⟨_, _, rfl⟩
            rw [hTB] at CT CU HT
            obtain ⟨k', b', lf', t'⟩ := s
            unfold stV at CT CU
            simp only at CT CU HT t1 t2 t3 t4
            have Zd := hide DQd.out.rz
            have gw : g < wr.heap.size := World.block_lt_of_cell? wr _ t1
            have cw : c < wr.heap.size := World.block_lt_of_cell? wr _ q1
            have dn0 : (d : Int) < n := by omega
            clear HT1 HT2 HT3 hsi hTB
            go_wp2
            go_region_with (first
              | (go_at_call 60; (with_reducible refine Calls.mono CT.out ?_); rintro en w6 ⟨z, rfl, fo, b6⟩; obtain ⟨zd, zc, rfl⟩ := fo.form; have DN := hide (Dz.mk1 Zd.out b6 fo rfl); clear fo b6)
              | (go_at_call 60; (with_reducible refine Calls.mono CU.out ?_); rintro en w7 ⟨z, rfl, fo, b6⟩; obtain ⟨zd, zc, rfl⟩ := fo.form; obtain ⟨n7, f7, dz7⟩ := Dz.mk2 Zwr.out b6 fo; have DM := hide dz7; clear fo b6 dz7))
            all_goals first
              | (generalize w6.alloc (.cells #[.slice zd TB.length zc] 28) = wt at DN ⊢
                 generalize w6.heap.size = c6 at DN ⊢
                 have DO := DN
                 clear DN)
              | (generalize w7.setCell ⟨wr.heap.size, 0, none⟩ (.slice zd TB.length zc) = wt at DM ⊢
                 generalize wr.heap.size = c6 at DM ⊢
                 have DO := DM
                 clear DM n7 f7)
            all_goals
              clear q1 q2 p0 p1 p2 t1 t2 t3 t4 CT CU DQd DQe DQ Zwr Zd
              have Zwt := hide DO.out.rz
              obtain ⟨p0, p1, p2⟩ := DO.out.rz.cell
              obtain ⟨q1, q2⟩ := DO.out.cell
              cases ok with
              | true =>
                have FI := hide DO.out.fin
                have HTT : Hid (cutF bs l (d : Int) true = (TB, true)) := by show _ = _; rw [HT.out]; rfl
                clear HT
                go_wp2
                exact bodyPost_ret (results_flash2 rfl _ _ (w.heap.size + 1) _ rfl FI.out.1) rfl ⟨_, by rw [HTT.out]; rfl, by rw [HTT.out]; exact FI.out.2.1, FI.out.2.2⟩
              | false =>
                have HTT : Hid (cutF bs l (d : Int) true = (bs, false)) := by show _ = _; rw [HT.out]; rfl
                clear HT
                go_wp2_with fail
                refine (scopy_b _ bs wt HS.out (F0.out.below Zwt.out.1)).mono ?_
                rintro e wq ⟨xq, rfl, fo, bq⟩
                obtain ⟨qd, qc, rfl⟩ := fo.form
                obtain ⟨-, n1, f1⟩ := (Zwt.out.below bq).cell
                have FI := hide (Zwt.out.fin bq fo)
                clear bq fo
                go_wp2
                exact bodyPost_ret (results_flash2 rfl _ _ (w.heap.size + 1) _ rfl FI.out.1) rfl ⟨_, by rw [HTT.out]; rfl, by rw [HTT.out]; exact FI.out.2.1, FI.out.2.2⟩
          · have hdn2 : d = n := by omega
            have HT := hide (HT2.out rfl (Or.inr hdn2))
            have FI := hide DQ.out.fin
            have e1 : ((d : Int) == (n : Int)) = true := by simp; omega
            clear HT1 HT2 HT3 hdn2 hdn
            go_wp2
            exact bodyPost_ret (results_flash2 rfl _ _ (w.heap.size + 1) _ rfl FI.out.1) rfl ⟨_, by rw [HT.out]; rfl, by rw [HT.out]; exact FI.out.2.1, FI.out.2.2⟩
      · have e1 : (d : Int) < (k : Int) := by omega
        have HT := hide (HT1.out hdd)
        clear HT1 HT2 HT3 hdd
        go_wp2_with fail
        refine (scopy_b _ bs wr HS.out (F0.out.below Zwr.out.1)).mono ?_
        rintro e wq ⟨xq, rfl, fo, bq⟩
        obtain ⟨qd, qc, rfl⟩ := fo.form
        obtain ⟨-, n1, f1⟩ := (Zwr.out.below bq).cell
        have FI := hide (Zwr.out.fin bq fo)
        clear bq fo
        go_wp2
        exact bodyPost_ret (results_flash2 rfl _ _ (w.heap.size + 1) _ rfl FI.out.1) rfl ⟨_, by rw [HT.out]; rfl, by rw [HT.out]; exact FI.out.2.1, FI.out.2.2⟩
  · have HT : Hid (cutF bs l whole torn = (bs, false)) := cut_out (by rw [HN.out]; exact hw)
    go_enter Try.func20, Try.ntmps20
    go_wp2_with fail
    refine (sin_any whole 0 (n : Int) _).mono ?_
    rintro e w0 ⟨rfl, hw0⟩
    rw [decide_eq_false hw]
    rw [← hw0] at Zw0
    clear hw0
    obtain ⟨y0, -, -⟩ := Zw0.out.cell
    go_wp2_with fail
    refine (scopy_b _ bs w0 HS.out (F0.out.below Zw0.out.1)).mono ?_
    rintro e wq ⟨xq, rfl, fo, bq⟩
    obtain ⟨qd, qc, rfl⟩ := fo.form
    obtain ⟨-, n1, f1⟩ := (Zw0.out.below bq).cell
    have FI := hide (Zw0.out.fin bq fo)
    clear bq fo
    go_wp2
    exact bodyPost_ret (results_flash2 rfl _ _ (w.heap.size + 1) _ rfl FI.out.1) rfl ⟨_, by rw [HT.out]; rfl, by rw [HT.out]; exact FI.out.2.1, FI.out.2.2⟩
end Go.Proofs.Ytcjgjkejhkhknaa
