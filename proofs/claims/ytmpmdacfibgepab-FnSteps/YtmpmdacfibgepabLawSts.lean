/-
  FnSteps.
-/
import Derived.Test.YtmpmdacfibgepabDrawDo
import Derived.Test.YtmpmdacfibgepabPk46
import Derived.Test.YtmpmdacfibgepabSameB
import Derived.Test.YtmpmdacfibgepabPk48
import Derived.Deep.RegionWith
namespace Go.Proofs.Ytmpmdacfibgepab
open Go.RowKit

set_option maxHeartbeats 4000000 in
set_option maxRecDepth 100000 in
theorem lawSts (ad : Option Addr) (len cap : Nat) (w : World) (hd : CodeIn w ad len w.heap.size) :
    Calls Try.prog 4 #[.slice ad len cap] w fun e w' => e = .returned (.bool true) ∧ Below w.heap.size w w' := by
  have HD := hide hd
  clear hd
  by_cases hbig : (1048576 : Int) < len
  · go_enter Try.func4, Try.ntmps4
    go_wp2_with fail
    refine (big_any ad len cap _).mono ?_
    rintro e w1 ⟨rfl, rfl⟩
    rw [decide_eq_true hbig]
    go_wp2
    go_ret
    exact ⟨rfl, Below.refl _ _⟩
  · have hl2 : len ≤ 1048576 := by omega
    have hbd : decide ((1048576 : Int) < len) = false := decide_eq_false hbig
    clear hbig
    go_enter Try.func4, Try.ntmps4
    go_wp2_with fail
    refine (big_any ad len cap _).mono ?_
    rintro e w0 ⟨rfl, hw0⟩
    subst hw0
    rw [hbd]
    clear hbd
    go_wp2_with fail
    refine (drawDo_any ad len cap w0 hl2 HD.out).mono ?_
    rintro e w1 ⟨v, u, bs, l, rfl, hsm, hrd, hl7, ⟨g, c, rfl⟩, hst, b1⟩
    obtain ⟨vd, vc, rfl⟩ := hrd.form
    have bA := (Below.refl w1.heap.size w1).alloc (Nat.le_refl _) (.cells #[.slice vd bs.length vc] 26)
    have HSM := hide hsm
    have B0 := hide (b1.alloc b1.size (.cells #[.slice vd bs.length vc] 26))
    have FB := hide (hrd.below bA)
    have SB := hide (hst.below bA)
    have hst2 := hst
    obtain ⟨ad9, cp9, e9, hlc, hc9, -, -⟩ := hst2
    injection e9 with e91 e92 e93
    subst e91 e93
    have CB := hide (heap_alloc_new w1 (.cells #[.slice vd bs.length vc] 26))
    obtain ⟨n, hn⟩ : ∃ n, l.length = n := ⟨_, rfl⟩
    have HN := hide hn
    rw [hn] at SB hlc hl7 ⊢
    obtain ⟨fc, hfc⟩ : ∃ fc, w1.heap.size = fc := ⟨_, rfl⟩
    rw [hfc] at CB
    obtain ⟨R1, m, hR⟩ : ∃ R1 m, doAll bs l = (R1, m) := ⟨_, _, rfl⟩
    have hmn : m ≤ n := by have := doAll_le bs l; rw [hR] at this; simp only at this; omega
    have HR := hide hR
    have HSR : Hid (Sml R1) := by have := hsm.all l; rw [hR] at this; exact this
    clear hsm hrd hst b1 bA e92 hn
    have hl9 : n ≤ 1000000000 := by omega
    go_wp2_with fail
    try rw [hfc]
    clear hfc
    generalize w1.alloc (.cells #[.slice vd bs.length vc] 26) = wB at B0 FB SB CB ⊢
    have KF : Hid (∀ W, Below wB.heap.size wB W → W.cell? ⟨fc, 0, none⟩ = some (.slice vd bs.length vc)) := fun W hW => cell_of_row _ _ 0 _ _ _ ((hW.block _ (Array.getElem?_eq_some_iff.1 CB.out).1).trans CB.out)
    have CI : Hid (∀ W, Below wB.heap.size wB W → Calls Try.prog 19 #[.agg #[.slice vd bs.length vc], .slice (some ⟨g, 0, none⟩) n c] W fun e w' => ∃ x, e = .returned (.tuple #[.agg #[x], .int .i64 (m : Int)]) ∧ FlashOf w' W.heap.size x R1 ∧ Below W.heap.size W w') := by
      intro W hW
      have := idos_b (.slice vd bs.length vc) (.slice (some ⟨g, 0, none⟩) n c) bs l W HSM.out (by rw [HN.out]; exact hl9) (FB.out.below hW) (SB.out.below hW)
      rw [HR.out] at this
      exact this
    have CS : Hid (∀ W, Below wB.heap.size wB W → Calls Try.prog 20 #[.agg #[.slice vd bs.length vc], .slice (some ⟨g, 0, none⟩) n c] W fun e w' => ∃ x, e = .returned (.tuple #[.agg #[x], .int .i64 (m : Int)]) ∧ FlashOf w' W.heap.size x R1 ∧ Below W.heap.size W w') := by
      intro W hW
      have := sdos_b (.slice vd bs.length vc) (.slice (some ⟨g, 0, none⟩) n c) bs l W HSM.out (by rw [HN.out]; exact hl9) (FB.out.below hW) (SB.out.below hW)
      rw [HR.out] at this
      exact this
    refine (CI.out wB (Below.refl _ _)).mono ?_
    rintro e w2 ⟨x2, rfl, f2, b2⟩
    obtain ⟨ad2, cp2, rfl⟩ := f2.form
    obtain ⟨c5, hc5⟩ : ∃ c5, w2.heap.size = c5 := ⟨_, rfl⟩
    obtain ⟨lo2, hi2, t2⟩ := (Tk.start wB).late b2 f2 hc5
    have T2 := hide t2
    have k2 := KF.out _ t2.1
    clear f2 b2 t2 CI
    go_wp2_with fail
    try rw [hc5]
    clear hc5
    generalize w2.alloc (.cells #[.slice ad2 R1.length cp2] 26) = w2a at T2 k2 ⊢
    refine (CS.out w2a T2.out.1).mono ?_
    rintro e w3 ⟨x3, rfl, f3, b3⟩
    obtain ⟨ad3, cp3, rfl⟩ := f3.form
    obtain ⟨c7, hc7⟩ : ∃ c7, w3.heap.size = c7 := ⟨_, rfl⟩
    obtain ⟨lo3, hi3, t3⟩ := T2.out.late b3 f3 hc7
    have T3 := hide t3
    have k3 : (w3.alloc (.cells #[.slice ad3 R1.length cp3] 26)).cell? ⟨c5, 0, none⟩ = some (.slice ad2 R1.length cp2) := t3.at 2 0 rfl rfl
    have hmm : ((m : Int) != (m : Int)) = false := by simp
    clear f3 b3 t3 T2 k2 CS
    go_wp2_with fail
    try rw [hc7]
    clear hc7
    generalize w3.alloc (.cells #[.slice ad3 R1.length cp3] 26) = w3a at T3 k3 ⊢
    refine (same_b _ _ R1 w3a HSR.out (T3.out.get 3 rfl).rdb (T3.out.get 1 rfl).rdb).mono ?_
    rintro e w4 ⟨rfl, b4⟩
    have T4 := hide (T3.out.below b4)
    have hmg : ¬ ((n : Int) < (m : Int)) := by omega
    have CPL := hide (places_any ad len cap w4 hl2 ((HD.out.on (B0.out.trans (T4.out.1.mono B0.out.size)) (Nat.le_refl _)).up (by have := B0.out.size; have := T4.out.1.size; omega)))
    clear b4 T3 k3
    go_wp2_with fail
    refine CPL.out.mono ?_
    rintro e w5 ⟨gp, cp, pl, rfl, hgp, hgp2, hpl, hpx, hpc, b5⟩
    have T5 := hide (T4.out.below b5)
    have p0 := hpc 0 (by omega)
    have px := hpx pl[0] (List.getElem_mem _)
    generalize pl[0] = x0 at p0 px
    have hw1 : IntKind.i64.wrap ((m : Int) + 1) = (m : Int) + 1 := by rw [IntKind.wrap_i64]; omega
    have hm1 : ((m : Int) + 1 == 0) = false := by simp; omega
    have hm2 : ¬ ((m : Int) + 1 = 0) := by omega
    obtain ⟨k, hk, hkt, hkm⟩ : ∃ k : Nat, x0 % ((m : Int) + 1) = k ∧ x0.tmod ((m : Int) + 1) = k ∧ k ≤ m := by
      have h1 := Int.emod_nonneg x0 hm2
      have h2 := Int.emod_lt_of_pos x0 (show (0 : Int) < (m : Int) + 1 by omega)
      refine ⟨(x0 % ((m : Int) + 1)).toNat, by omega, ?_, by omega⟩
      rw [Int.tmod_eq_emod_of_nonneg px.1]
      omega
    obtain ⟨b', hp1, hp2⟩ := doAll_pre bs l k (by rw [hR]; exact hkm)
    rw [hR] at hp2
    simp only at hp2
    obtain ⟨d, hdk⟩ : ∃ d, m - k = d := ⟨_, rfl⟩
    rw [hdk] at hp2
    have hdI : (m : Int) - (k : Int) = (d : Int) := by omega
    have HSB' : Hid (Sml b') := by have := HSM.out.all (l.take k); rw [hp1] at this; exact this
    have HP1 := hide hp1
    have HP2 := hide hp2
    have kf5 := KF.out _ T5.out.1
    have sR := fun W => take_run (some ⟨g, 0, none⟩) n c k W (by omega)
    have CT : Hid (∀ W, Below wB.heap.size wB W → Calls Try.prog 19 #[.agg #[.slice vd bs.length vc], .slice (some ⟨g, 0, none⟩) k c] W fun e w' => ∃ x, e = .returned (.tuple #[.agg #[x], .int .i64 (k : Int)]) ∧ FlashOf w' W.heap.size x b' ∧ Below W.heap.size W w') := by
      intro W hW
      have := idos_b (.slice vd bs.length vc) (.slice (some ⟨g, 0, none⟩) k c) bs (l.take k) W HSM.out (by rw [List.length_take]; omega) (FB.out.below hW) ((SB.out.take k (by rw [HN.out]; omega)).below hW)
      rw [HP1.out] at this
      exact this
    have T5d := hide T5.out.drew
    have T5e := hide (T5.out.below ((Below.refl _ _).alloc (Nat.le_refl _) (.cells #[.slice none 0 0] 26)).drew)
    have CA := hide (CT.out _ T5d.out.1)
    have CB2 := hide (CT.out _ T5e.out.1)
    have kk0 : (0 : Int) ≤ k := by omega
    have hfw : fc < w5.heap.size := World.block_lt_of_cell? w5 _ kf5
    clear hpc hpx b5 hpl T4 CPL hgp hp1 hp2 CT hR
    go_wp2
    go_region_with (first
      | (go_at_call 19; (with_reducible refine Calls.mono CA.out ?_); rintro en w6 ⟨x, rfl, fo, b6⟩; obtain ⟨ad6, cp6, rfl⟩ := fo.form; obtain ⟨lo6, hi6, t6⟩ := T5d.out.late b6 fo rfl; have TL := hide t6; clear fo b6 t6)
      | (go_at_call 19; (with_reducible refine Calls.mono CB2.out ?_); rintro en w7 ⟨x, rfl, fo, b6⟩; obtain ⟨ad6, cp6, rfl⟩ := fo.form; obtain ⟨n7, f7, lo6, hi6, t6⟩ := T5.out.early b6 fo; have TE := hide t6; clear fo b6 t6))
    all_goals first
      | (generalize w6.alloc (.cells #[.slice ad6 b'.length cp6] 26) = wq at TL ⊢
         generalize w6.heap.size = c10 at TL ⊢
         have TQ := TL
         clear TL)
      | (generalize w7.setCell ⟨w5.heap.size, 0, none⟩ (.slice ad6 b'.length cp6) = wq at TE ⊢
         generalize w5.heap.size = c10 at TE ⊢
         have TQ := TE
         clear TE n7 f7)
    all_goals
      clear CA CB2 T5d T5e T5 kf5 p0 hgp2 sR hfw
      have kq : wq.cell? ⟨c10, 0, none⟩ = some (.slice ad6 b'.length cp6) := TQ.out.at 0 0 rfl rfl
      have hcq : c10 < wq.heap.size := World.block_lt_of_cell? wq _ kq
      have sD := fun W => drop_run g 0 n c k W (by omega)
      have SD := hide (SB.out.drop k (by rw [HN.out]; omega))
      obtain ⟨dv, hdv⟩ : ∃ dv, (if c = k then some (⟨g, 0, none⟩ : Addr) else some ⟨g, 0 + k * 4, none⟩) = dv := ⟨_, rfl⟩
      rw [hdv] at sD SD
      have CT : Hid (∀ W, Below wB.heap.size wB W → RdB W (.slice ad6 b'.length cp6) b' → Calls Try.prog 19 #[.agg #[.slice ad6 b'.length cp6], .slice dv (n - k) (c - k)] W fun e w' => ∃ x, e = .returned (.tuple #[.agg #[x], .int .i64 (d : Int)]) ∧ FlashOf w' W.heap.size x R1 ∧ Below W.heap.size W w') := by
        intro W hW hr
        have := idos_b (.slice ad6 b'.length cp6) (.slice dv (n - k) (c - k)) b' (l.drop k) W HSB'.out (by rw [List.length_drop, HN.out]; omega) hr (SD.out.below hW)
        rw [HP2.out] at this
        exact this
      have TQd := hide TQ.out.drew
      have TQe := hide (TQ.out.below ((Below.refl _ _).alloc (Nat.le_refl _) (.cells #[.slice none 0 0] 26)).drew)
      have CA := hide (CT.out _ TQd.out.1 (TQd.out.get 1 rfl).rdb)
      have CB2 := hide (CT.out _ TQe.out.1 (TQe.out.get 1 rfl).rdb)
      clear CT hdv
      go_wp2
      go_region_with (first
        | (go_at_call 19; (with_reducible refine Calls.mono CA.out ?_); rintro en w8 ⟨x, rfl, fo, b8⟩; obtain ⟨ad8, cp8, rfl⟩ := fo.form; obtain ⟨lo8, hi8, t8⟩ := TQd.out.late b8 fo rfl; have TL := hide t8; clear fo b8 t8)
        | (go_at_call 19; (with_reducible refine Calls.mono CB2.out ?_); rintro en w9 ⟨x, rfl, fo, b8⟩; obtain ⟨ad8, cp8, rfl⟩ := fo.form; obtain ⟨n9, f9, lo8, hi8, t8⟩ := TQ.out.early b8 fo; have TE := hide t8; clear fo b8 t8))
      all_goals first
        | (generalize w8.alloc (.cells #[.slice ad8 R1.length cp8] 26) = wz at TL ⊢
           generalize w8.heap.size = c12 at TL ⊢
           have TZ := TL
           clear TL)
        | (generalize w9.setCell ⟨wq.heap.size, 0, none⟩ (.slice ad8 R1.length cp8) = wz at TE ⊢
           generalize wq.heap.size = c12 at TE ⊢
           have TZ := TE
           clear TE n9 f9)
      all_goals
        clear CA CB2 TQd TQe TQ kq sD hcq
        have q12 : wz.cell? ⟨c12, 0, none⟩ = some (.slice ad8 R1.length cp8) := TZ.out.at 0 0 rfl rfl
        have q5 : wz.cell? ⟨c5, 0, none⟩ = some (.slice ad2 R1.length cp2) := TZ.out.at 6 0 rfl rfl
        have hwd : IntKind.i64.wrap ((m : Int) - (k : Int)) = (d : Int) := by rw [IntKind.wrap_i64]; omega
        have hdd : ((d : Int) == (d : Int)) = true := by simp
        have hkk : ((k : Int) == (k : Int)) = true := by simp
        go_wp2_with fail
        refine (same_b _ _ R1 wz HSR.out (TZ.out.get 7 rfl).rdb (TZ.out.get 1 rfl).rdb).mono ?_
        rintro e wy ⟨rfl, by9⟩
        have BE := hide (B0.out.trans ((TZ.out.below by9).1.mono B0.out.size))
        clear by9 TZ q12 q5
        go_wp2
        go_ret
        exact ⟨by simp, BE.out⟩
end Go.Proofs.Ytmpmdacfibgepab
