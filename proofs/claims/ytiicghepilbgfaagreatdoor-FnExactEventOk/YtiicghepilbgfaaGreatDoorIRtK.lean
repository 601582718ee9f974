/-
  (impl.Ask).rightKind, impl.AskOk.
-/
import Derived.Test.YtiicghepilbgfaaGreatDoorPk48
namespace Go.Proofs.YtiicghepilbgfaaGreatDoor
open Go.RowKit
open Words Sums

theorem infoKdA : (Tryz.prog.info? 91).map (fun i => (i.zero, i.size, i.bytes)) = some (some (.agg #[.int .i64 0, .int .i64 0, .int .i64 0, .int .i64 0, .nilFunc, .nilFunc]), 6, 48) := by kernel_rfl
set_option maxRecDepth 100000 in
theorem kinds_at {k : Int} (h : 1 ≤ k ∧ k ≤ 6) (W : World) : (Instr.index 122 kindsV (.int .i64 k)).run Tryz.prog W = .ok (kdV (kd k)) W := by
  obtain rfl | rfl | rfl | rfl | rfl | rfl : k = 1 ∨ k = 2 ∨ k = 3 ∨ k = 4 ∨ k = 5 ∨ k = 6 := by omega
  all_goals
    obtain ⟨i0, hi, hz0, hz1, hz2⟩ := info_parts infoKdA
    simp [Instr.index, run_underlying Tryz.underlying122, asIntOf, kindsV, part, sizeOf, typeInfo, hi, hz1, isAgg, run_underlying Tryz.underlying91, kindsC, kdV, kd, fnV]
theorem kd_in {k : Int} (h : 1 ≤ k ∧ k ≤ 6) : ∃ c1 c2 c3 c4 n1 n2, kd k = ⟨c1, c2, c3, c4, .func (.func n1) #[] #[], .func (.func n2) #[] #[]⟩ := by
  obtain rfl | rfl | rfl | rfl | rfl | rfl : k = 1 ∨ k = 2 ∨ k = 3 ∨ k = 4 ∨ k = 5 ∨ k = 6 := by omega
  all_goals exact ⟨_, _, _, _, _, _, rfl⟩
/-- What rightKind holds behind its table: the ask, the cell of its answer, the kind. -/
def RkSt (w W : World) (q : Ak) (g : Nat) : Prop := AkAt W w.heap.size q ∧ KdAt W (w.heap.size + 1) kd0 ∧ KdAt W g (kd q.kind) ∧ Below w.heap.size w W
def RkI (w W : World) (q : Ak) : Prop := AkAt W w.heap.size q ∧ KdAt W (w.heap.size + 1) kd0 ∧ Below w.heap.size w W
theorem RkI.below {w W W' : World} {q : Ak} (h : RkI w W q) (hb : Below W.heap.size W W') : RkI w W' q := ⟨h.1.below hb, h.2.1.below hb, h.2.2.trans (hb.mono h.2.2.size)⟩
theorem RkI.late {w W : World} {q : Ak} {c : Kd} (h : RkI w W q) (hc : kd q.kind = c) : RkSt w (W.alloc (.cells #[.int .i64 c.sec, .int .i64 c.of1, .int .i64 c.of2, .int .i64 c.text, c.ref, c.plan] 91)) q W.heap.size := by
  have b := (Below.refl W.heap.size W).alloc (Nat.le_refl _) (.cells #[.int .i64 c.sec, .int .i64 c.of1, .int .i64 c.of2, .int .i64 c.text, c.ref, c.plan] 91)
  have h2 := h.below b
  refine ⟨h2.1, h2.2.1, ?_, h2.2.2⟩
  rw [hc]
  exact heap_alloc_new _ _
theorem RkI.early {w W : World} {q : Ak} {c : Kd} {g : Nat} (h : RkI w W q) (hz : KdAt W g kd0) (hg : w.heap.size + 1 < g) (hc : kd q.kind = c) : RkSt w (put6 W g (.int .i64 c.sec) (.int .i64 c.of1) (.int .i64 c.of2) (.int .i64 c.text) c.ref c.plan) q g := by
  refine ⟨(put6_other _ _ _ _ _ _ _ _ (by omega)).trans h.1, (put6_other _ _ _ _ _ _ _ _ (by omega)).trans h.2.1, ?_, put6_below _ _ _ _ _ _ h.2.2 (by omega)⟩
  rw [hc]
  exact put6_at hz c
set_option maxHeartbeats 2000000 in
set_option maxRecDepth 100000 in
theorem irightK (q : Ak) (w : World) : Calls Tryz.prog 37 #[akV q] w fun e w' => e = .returned (.tuple #[kdV (kd q.kind), .bool (akB q)]) ∧ Below w.heap.size w w' := by
  obtain ⟨k, v, s, o, t⟩ := q
  unfold akV
  simp only
  have s0 : (w.alloc (.cells #[.int .i64 k, .int .i64 v, .int .i64 s, .int .i64 o, .string t] 28)).heap.size = w.heap.size + 1 := by simp
  have b0 : Below w.heap.size w (w.alloc (.cells #[.int .i64 k, .int .i64 v, .int .i64 s, .int .i64 o, .string t] 28)) := (Below.refl _ _).alloc (Nat.le_refl _) _
  have a0 : AkAt (w.alloc (.cells #[.int .i64 k, .int .i64 v, .int .i64 s, .int .i64 o, .string t] 28)) w.heap.size ⟨k, v, s, o, t⟩ := heap_alloc_new _ _
  have b1 := (Below.refl (w.alloc (.cells #[.int .i64 k, .int .i64 v, .int .i64 s, .int .i64 o, .string t] 28)).heap.size _).alloc (Nat.le_refl _) (.cells #[.int .i64 0, .int .i64 0, .int .i64 0, .int .i64 0, .nilFunc, .nilFunc] 91)
  have aA := a0.below b1
  have zA : KdAt ((w.alloc (.cells #[.int .i64 k, .int .i64 v, .int .i64 s, .int .i64 o, .string t] 28)).alloc (.cells #[.int .i64 0, .int .i64 0, .int .i64 0, .int .i64 0, .nilFunc, .nilFunc] 91)) (w.heap.size + 1) kd0 := by
    rw [← s0]
    exact heap_alloc_new _ _
  have bA := b0.trans (b1.mono b0.size)
  generalize hwa : (w.alloc (.cells #[.int .i64 k, .int .i64 v, .int .i64 s, .int .i64 o, .string t] 28)).alloc (.cells #[.int .i64 0, .int .i64 0, .int .i64 0, .int .i64 0, .nilFunc, .nilFunc] 91) = wa at aA zA bA
  have hwz : wa.heap.size = w.heap.size + 1 + 1 := by rw [← hwa]; simp
  obtain ⟨c0, c1, c2, c3, c4⟩ := aA.cells
  simp only at c0 c1 c2 c3 c4
  obtain ⟨R, hR⟩ : ∃ R, akB ⟨k, v, s, o, t⟩ = R := ⟨_, rfl⟩
  rw [hR]
  have HR : Hid (R = decide ((1 ≤ k ∧ k ≤ 6) ∧ (1 ≤ v ∧ v ≤ 9) ∧ (0 ≤ s ∧ s ≤ (kd k).sec) ∧ ((kd k).of1 ≤ o ∧ o ≤ (kd k).of2) ∧ (t.size : Int) ≤ (kd k).text)) := hR.symm.trans (akB_is _)
  have HA := hide aA
  have HZ := hide zA
  have HB := hide bA
  have HS := hide hwz
  clear s0 b0 a0 b1 aA zA bA hwz hR
  by_cases p1 : ¬ (1 ≤ k ∧ k ≤ 6)
  · have HE : Hid (R = false) := by show _ = _; rw [HR.out]; exact decide_eq_false (fun x => p1 x.1)
    have HK := hide (kd_not p1)
    obtain ⟨z0, z1, z2, z3, z4, z5⟩ := HZ.out.cells
    unfold kd0 at z0 z1 z2 z3 z4 z5
    simp only at z0 z1 z2 z3 z4 z5
    have f0 := HZ.out.fr 0
    have f1 := HZ.out.fr 1
    have f2 := HZ.out.fr 2
    have f3 := HZ.out.fr 3
    have f4 := HZ.out.fr 4
    have f5 := HZ.out.fr 5
    have FA := hide (put6_at HZ.out kd0)
    have FB := hide (put6_below (.int .i64 kd0.sec) (.int .i64 kd0.of1) (.int .i64 kd0.of2) (.int .i64 kd0.text) kd0.ref kd0.plan HB.out (g := w.heap.size + 1) (by omega))
    unfold put6 kd0 at FA FB
    simp only at FA FB
    clear HR
    go_enter Tryz.func37, Tryz.ntmps37
    go_wp2_with fail
    clear hwa
    refine (iwithin k 1 6 false _ (.inr ⟨by omega, rfl⟩)).mono ?_
    rintro e w' ⟨rfl, rfl⟩
    go_wp2
    refine bodyPost_ret (results_kd2 rfl _ _ (w.heap.size + 1) _ rfl FA.out) rfl ?_
    rw [HK.out, HE.out]
    exact ⟨rfl, FB.out⟩
  have p1 : 1 ≤ k ∧ k ≤ 6 := Classical.not_not.1 p1
  have hix := kinds_at p1
  obtain ⟨C1, C2, C3, C4, n1, n2, hC⟩ := kd_in p1
  rw [hC] at HR hix ⊢
  unfold kdV at hix ⊢
  simp only at HR hix ⊢
  have HC := hide hC
  clear hC
  go_enter Tryz.func37, Tryz.ntmps37
  go_wp2_with fail
  clear hwa
  refine (iwithin k 1 6 true _ (.inl ⟨p1.1, p1.2, rfl⟩)).mono ?_
  rintro e wq ⟨rfl, rfl⟩
  go_upto_region 3 with fail
  go_cut [4] (fun s4 wc => ∃ g : Nat, s4 = .pointer (some ⟨g, 0, none⟩) ∧ Hid (RkSt w wc ⟨k, v, s, o, t⟩ g) ∧ w.heap.size + 1 < g)
  case first =>
    have hk0 : (0 : Int) ≤ k := by omega
    have R0 := hide (show RkI w wq ⟨k, v, s, o, t⟩ from ⟨HA.out, HZ.out, HB.out⟩)
    have RD := hide (R0.out.below (W' := wq.drew) (Below.refl _ _).drew)
    have RE := hide (R0.out.below (W' := (wq.alloc (.cells #[.int .i64 0, .int .i64 0, .int .i64 0, .int .i64 0, .nilFunc, .nilFunc] 91)).drew) ((Below.refl _ _).alloc (Nat.le_refl _) _).drew)
    have ZE : Hid (KdAt (wq.alloc (.cells #[.int .i64 0, .int .i64 0, .int .i64 0, .int .i64 0, .nilFunc, .nilFunc] 91)).drew wq.heap.size kd0) := heap_alloc_new wq (.cells #[.int .i64 0, .int .i64 0, .int .i64 0, .int .i64 0, .nilFunc, .nilFunc] 91)
    have K0 := hide RD.out.1.cells.1
    have K1 := hide RE.out.1.cells.1
    simp only at K0 K1
    clear c1 c2 c3 c4
    go_region_held3 (fun W => W.cell? ⟨w.heap.size, 0, none⟩ = some (.int .i64 k)) (first | (with_reducible exact K0.out) | (with_reducible exact K1.out) | (with_reducible exact KC.out) | (with_reducible exact KD.out) | (with_reducible exact KE.out) | go_keep) ((go_at_call 61; (with_reducible refine Calls.mono (ikinds _) ?_); rintro en y1 ⟨rfl, b1⟩; have R1 := hide (show RkI w y1 ⟨k, v, s, o, t⟩ from by first | (with_reducible exact RD.out.below b1) | (with_reducible exact RE.out.below b1)); (try have Z1 := hide (show KdAt y1 wq.heap.size kd0 from by with_reducible exact ZE.out.below b1)); have KC := hide R1.out.1.cells.1; have FL := hide (R1.out.late HC.out); have KD := hide FL.out.1.cells.1; (try have FE := hide (R1.out.early Z1.out (show w.heap.size + 1 < wq.heap.size by have := HS.out; omega) HC.out)); (try have KE := hide FE.out.1.cells.1); (try unfold put6 at FE KE); simp only at KC FL KD; (try simp only at FE KE); (try obtain ⟨z0, z1, z2, z3, z4, z5⟩ := Z1.out.cells); (try unfold kd0 at z0 z1 z2 z3 z4 z5); (try simp only at z0 z1 z2 z3 z4 z5); (try have f0 := Z1.out.fr 0); (try have f1 := Z1.out.fr 1); (try have f2 := Z1.out.fr 2); (try have f3 := Z1.out.fr 3); (try have f4 := Z1.out.fr 4); (try have f5 := Z1.out.fr 5); clear b1))
    all_goals
      go_wp2_with fail
      go_meet
      case rel => first
        | ((with_reducible refine ⟨_, rfl, FL, ?_⟩); have := R1.out.2.1.lt; omega)
        | ((with_reducible refine ⟨_, rfl, FE, ?_⟩); have := HS.out; omega)
  case rest =>
    obtain ⟨w2, hwc⟩ : ∃ w2, w2 = wc := ⟨_, rfl⟩
    subst hwc
    obtain ⟨g, hs4, hg, hlt⟩ := hcut
    subst hs4
    obtain ⟨A2, Z2, G2, B2⟩ := hg.out
    obtain ⟨d0, d1, d2, d3, d4⟩ := A2.cells
    simp only at d0 d1 d2 d3 d4
    simp only at G2
    rw [HC.out] at G2
    obtain ⟨e0, e1, e2, e3, e4, e5⟩ := G2.cells
    simp only at e0 e1 e2 e3 e4 e5
    have HG := hide G2
    have HZ2 := hide Z2
    have HB2 := hide B2
    clear HA HZ HB HS hg A2 Z2 G2 B2 hix
    go_upto_region 4 with fail
    go_cut [5] (fun s5 wc => s5 = .bool R ∧ wc = w2)
    case first =>
      by_cases p2 : 1 ≤ v ∧ v ≤ 9
      · go_wp2_with fail
        refine (iwithin v 1 9 true _ (.inl ⟨p2.1, p2.2, rfl⟩)).mono ?_
        rintro e w' ⟨rfl, rfl⟩
        by_cases p3 : 0 ≤ s ∧ s ≤ C1
        · go_wp2_with fail
          refine (iwithin s 0 C1 true _ (.inl ⟨p3.1, p3.2, rfl⟩)).mono ?_
          rintro e w' ⟨rfl, rfl⟩
          by_cases p4 : C2 ≤ o ∧ o ≤ C3
          · go_wp2_with fail
            refine (iwithin o C2 C3 true _ (.inl ⟨p4.1, p4.2, rfl⟩)).mono ?_
            rintro e w' ⟨rfl, rfl⟩
            have HE : Hid (R = decide ((t.size : Int) ≤ C4)) := by show _ = _; rw [HR.out]; exact decide_eq_decide.2 ⟨fun h => h.2.2.2.2, fun h => ⟨p1, p2, p3, p4, h⟩⟩
            by_cases p5 : (t.size : Int) ≤ C4
            · go_wp2
              go_meet
              case rel => exact ⟨by rw [HE.out, decide_eq_true p5], rfl⟩
            · go_wp2
              go_meet
              case rel => exact ⟨by rw [HE.out, decide_eq_false (by omega)], rfl⟩
          · have HE : Hid (R = false) := by show _ = _; rw [HR.out]; exact decide_eq_false (fun h => p4 h.2.2.2.1)
            go_wp2_with fail
            refine (iwithin o C2 C3 false _ (.inr ⟨by omega, rfl⟩)).mono ?_
            rintro e w' ⟨rfl, rfl⟩
            go_wp2
            go_meet
            case rel => exact ⟨by rw [HE.out], rfl⟩
        · have HE : Hid (R = false) := by show _ = _; rw [HR.out]; exact decide_eq_false (fun h => p3 h.2.2.1)
          go_wp2_with fail
          refine (iwithin s 0 C1 false _ (.inr ⟨by omega, rfl⟩)).mono ?_
          rintro e w' ⟨rfl, rfl⟩
          go_wp2
          go_meet
          case rel => exact ⟨by rw [HE.out], rfl⟩
      · have HE : Hid (R = false) := by show _ = _; rw [HR.out]; exact decide_eq_false (fun h => p2 h.2.1)
        go_wp2_with fail
        refine (iwithin v 1 9 false _ (.inr ⟨by omega, rfl⟩)).mono ?_
        rintro e w' ⟨rfl, rfl⟩
        go_wp2
        go_meet
        case rel => exact ⟨by rw [HE.out], rfl⟩
    case rest =>
      obtain ⟨w3, hwc⟩ : ∃ w3, w3 = wc := ⟨_, rfl⟩
      subst hwc
      obtain ⟨hs5, hw3⟩ := hcut
      subst hs5 hw3
      obtain ⟨z0, z1, z2, z3, z4, z5⟩ := HZ2.out.cells
      have f0 := HZ2.out.fr 0
      have f1 := HZ2.out.fr 1
      have f2 := HZ2.out.fr 2
      have f3 := HZ2.out.fr 3
      have f4 := HZ2.out.fr 4
      have f5 := HZ2.out.fr 5
      have FA := hide (put6_at HZ2.out ⟨C1, C2, C3, C4, .func (.func n1) #[] #[], .func (.func n2) #[] #[]⟩)
      have FB := hide (put6_below (.int .i64 C1) (.int .i64 C2) (.int .i64 C3) (.int .i64 C4) (.func (.func n1) #[] #[]) (.func (.func n2) #[] #[]) HB2.out (g := w.heap.size + 1) (by omega))
      unfold put6 at FA FB
      simp only at FA
      clear HR d0 d1 d2 d3 d4 HG HZ2 HB2
      go_wp2
      refine bodyPost_ret (results_kd2 rfl _ _ (w.heap.size + 1) _ rfl FA.out) rfl ?_
      exact ⟨rfl, FB.out⟩
set_option maxHeartbeats 400000 in
set_option maxRecDepth 100000 in
theorem iaskOk (q : Ak) (w : World) : Calls Tryz.prog 21 #[akV q] w fun e w' => e = .returned (.bool (akB q)) ∧ Below w.heap.size w w' := by
  obtain ⟨k, v, s, o, t⟩ := q
  have b0 : Below w.heap.size w (w.alloc (.cells #[.int .i64 k, .int .i64 v, .int .i64 s, .int .i64 o, .string t] 28)) := (Below.refl _ _).alloc (Nat.le_refl _) _
  have C := hide (irightK ⟨k, v, s, o, t⟩ (w.alloc (.cells #[.int .i64 k, .int .i64 v, .int .i64 s, .int .i64 o, .string t] 28)))
  obtain ⟨R, hR⟩ : ∃ R, akB ⟨k, v, s, o, t⟩ = R := ⟨_, rfl⟩
  rw [hR] at C ⊢
  have hc : ∃ c1 c2 c3 c4 v1 v2, kd k = ⟨c1, c2, c3, c4, v1, v2⟩ ∧ ((v1 = .nilFunc ∧ v2 = .nilFunc) ∨ ∃ n1 n2, v1 = .func (.func n1) #[] #[] ∧ v2 = .func (.func n2) #[] #[]) := by
    by_cases h : 1 ≤ k ∧ k ≤ 6
    · obtain ⟨c1, c2, c3, c4, n1, n2, e⟩ := kd_in h
      exact ⟨_, _, _, _, _, _, e, .inr ⟨_, _, rfl, rfl⟩⟩
    · exact ⟨_, _, _, _, _, _, kd_not h, .inl ⟨rfl, rfl⟩⟩
  obtain ⟨c1, c2, c3, c4, v1, v2, hc, hv⟩ := hc
  simp only at C
  rw [hc] at C
  unfold akV kdV at C
  unfold akV
  simp only at C ⊢
  have HB := hide b0
  clear hR hc b0
  rcases hv with ⟨rfl, rfl⟩ | ⟨n1, n2, rfl, rfl⟩
  all_goals
    go_enter Tryz.func21, Tryz.ntmps21
    go_wp2_with fail
    refine C.out.mono ?_
    rintro e w1 ⟨rfl, b1⟩
    have FB := hide (HB.out.trans (b1.mono HB.out.size))
    clear b1 C HB
    go_wp2
    go_ret
    exact ⟨rfl, FB.out.alloc FB.out.size _⟩
end Go.Proofs.YtiicghepilbgfaaGreatDoor
