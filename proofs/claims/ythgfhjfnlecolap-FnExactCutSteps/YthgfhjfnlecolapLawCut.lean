/-
  FnExactCutSteps.
-/
import Derived.Test.YthgfhjfnlecolapSCut
import Derived.Test.YthgfhjfnlecolapICut
import Derived.Test.YthgfhjfnlecolapPk49
import Derived.Deep.RegionHeld3
namespace Go.Proofs.Ythgfhjfnlecolap
open Go.RowKit

theorem lawCut_stk {w wi : World} {hs : List Hold} {u : Value} {l1 h1 l2 h2 g n : Nat} {bs R1 : List Bk} {l : List Stp} {R2 : Bool} {whole : Int} {torn : Bool} (T : Tk w wi hs) (n1 n2 : Nat) (hS : Sml bs) (hn : l.length = n) (hn9 : n ≤ 1048576) (e1 : hs[n1]? = some (l1, h1, Fla l1 h1 u bs)) (e2 : hs[n2]? = some (l2, h2, Sli 40 l2 h2 (.slice (some ⟨g, 0, none⟩) n n) n (stcells l))) (hR : cutF bs l whole torn = (R1, R2)) :
    Calls Try.prog 28 #[.agg #[u], .slice (some ⟨g, 0, none⟩) n n, .int .i64 whole, .bool torn] wi fun e w' => ∃ ad c, e = .returned (.tuple #[.agg #[.slice ad R1.length c], .bool R2]) ∧ Tk w w' ((wi.heap.size, w'.heap.size, Fla wi.heap.size w'.heap.size (.slice ad R1.length c) R1) :: hs) ∧ wi.heap.size ≤ w'.heap.size := by
  refine (scut_b u (.slice (some ⟨g, 0, none⟩) n n) bs l whole torn wi hS (by omega) (T.get n1 e1).rdb ((T.get n2 e2).strd hn (Nat.le_refl _) (by omega))).mono ?_
  rintro e w2 ⟨x, rfl, f, b2⟩
  rw [hR] at f ⊢
  obtain ⟨ad, c, rfl⟩ := f.form
  exact ⟨ad, c, rfl, T.fla b2 f, b2.size⟩
theorem lawCut_itk {w wi : World} {hs : List Hold} {u : Value} {l1 h1 l2 h2 g n : Nat} {bs R1 : List Bk} {l : List Stp} {R2 : Bool} {whole : Int} {torn : Bool} (T : Tk w wi hs) (n1 n2 : Nat) (hS : Sml bs) (hn : l.length = n) (hn9 : n ≤ 1048576) (e1 : hs[n1]? = some (l1, h1, Fla l1 h1 u bs)) (e2 : hs[n2]? = some (l2, h2, Sli 40 l2 h2 (.slice (some ⟨g, 0, none⟩) n n) n (stcells l))) (hR : cutF bs l whole torn = (R1, R2)) :
    Calls Try.prog 29 #[.agg #[u], .slice (some ⟨g, 0, none⟩) n n, .int .i64 whole, .bool torn] wi fun e w' => ∃ ad c, e = .returned (.tuple #[.agg #[.slice ad R1.length c], .bool R2]) ∧ Tk w w' ((wi.heap.size, w'.heap.size, Fla wi.heap.size w'.heap.size (.slice ad R1.length c) R1) :: hs) ∧ wi.heap.size ≤ w'.heap.size := by
  refine (icut_b u (.slice (some ⟨g, 0, none⟩) n n) bs l whole torn wi hS (by omega) (T.get n1 e1).rdb ((T.get n2 e2).strd hn (Nat.le_refl _) (by omega))).mono ?_
  rintro e w2 ⟨x, rfl, f, b2⟩
  rw [hR] at f ⊢
  obtain ⟨ad, c, rfl⟩ := f.form
  exact ⟨ad, c, rfl, T.fla b2 f, b2.size⟩

set_option maxHeartbeats 3200000 in
set_option maxRecDepth 100000 in
theorem lawCut_any (a : Option Addr) (len cap : Nat) (rs : List Rw) (a2 : Option Addr) (len2 cap2 : Nat) (l : List Stp) (whole : Int) (torn : Bool) (w : World) (h : BkRow w a len rs) (h2 : StRow w a2 len2 l) :
    Calls Try.prog 7 #[.agg #[.slice a len cap], .slice a2 len2 cap2, .int .i64 whole, .bool torn] w fun e w' => e = .returned (.bool true) ∧ Below w.heap.size w w' := by
  obtain ⟨bs, hbs⟩ : ∃ bs, rs.map tellOf = bs := ⟨_, rfl⟩
  obtain ⟨R1, R2, hR⟩ : ∃ R1 R2, cutF bs l whole torn = (R1, R2) := ⟨_, _, rfl⟩
  have T0 := hide ((Tk.start w).celln rfl #[.slice a len cap] 24)
  have H := hide h
  have H2 := hide h2
  have HBS := hide hbs
  have HR := hide hR
  have hlen := h.1
  have hlen2 : l.length = len2 := h2.1
  have HN2 := hide hlen2
  clear h h2 hbs hR hlen2
  go_enter Try.func7, Try.ntmps7
  go_wp2_with fail
  generalize w.alloc (.cells #[.slice a len cap] 24) = w0 at T0 ⊢
  refine (szFlash_any a len cap rs 1048576 w0 (Nat.le_refl _) (H.out.below T0.out.1)).mono ?_
  rintro e w1 ⟨⟨r, rfl, r1, r2, r3⟩, b1⟩
  have T1 := hide (T0.out.below b1)
  have z1 : w.heap.size + 1 ≤ w1.heap.size := T1.out.hi 0 rfl
  clear b1 T0
  by_cases hr : r < 0
  · clear r2 r3
    go_wp2
    go_ret
    exact ⟨rfl, T1.out.1⟩
  · obtain ⟨hl, hll, ho⟩ := meas (by omega) (r2 (by omega))
    have htx := tx_tell (r3 (by omega))
    have hr9 : r ≤ 1048576 := by have := r2 (by omega); omega
    rw [HBS.out] at ho htx
    obtain ⟨zz, rfl⟩ : ∃ zz : Nat, r = zz := ⟨r.toNat, by omega⟩
    have HLL := hide hll
    have HO := hide ho
    have HSM := hide (Sml.of ho htx)
    have HLE := hide (show len ≤ 1048576 by omega)
    clear r2 r3 hll ho htx hl hlen
    go_wp2_with fail
    refine (szSts_any a2 len2 cap2 l zz w1 (by omega) (H2.out.below T1.out.1)).mono ?_
    rintro e w2 ⟨⟨q, rfl, q1, q2, q3⟩, b2⟩
    have T2 := hide (T1.out.below b2)
    have k2 : w2.cell? ⟨w.heap.size, 0, none⟩ = some (.slice a len cap) := T2.out.at 0 0 rfl rfl
    have z2 := b2.size
    clear b2 T1
    by_cases hq : q < 0
    · clear q3
      go_wp2
      go_ret
      exact ⟨rfl, T2.out.1⟩
    · have hq3 := q3 (by omega)
      have HL2 := hide (show len2 ≤ 1048576 by omega)
      have HL9 := hide (show len2 ≤ 1000000000 by omega)
      have hor : Okk R1 := HO.out.shape (by have := shp_cut bs l whole torn; rw [HR.out] at this; exact this)
      have HOR := hide hor
      obtain ⟨N, hN⟩ : ∃ N, endK 1 R1 = N := ⟨_, rfl⟩
      have HN9 := hide (show N ≤ 1000000000 by have := hor.2.2; omega)
      have HN := hide hN
      obtain ⟨K, hK⟩ : ∃ K, endK 1 bs = K := ⟨_, rfl⟩
      have HK := hide hK
      have hK9 : K ≤ 1000000000 := by have := HO.out.2.2; omega
      have hK1 : 0 < K := by have := endK_sum1 1 bs; omega
      have HK2 := hide (And.intro hK1 hK9)
      have hl29 := HL2.out
      clear q3 hq3 hor hN hK
      go_wp2_with fail
      refine (to_tk T2.out H.out HBS.out HLE.out HLL.out).mono ?_
      rintro e w3 ⟨ad3, c3, rfl, t3, s3⟩
      have T3 := hide t3
      clear t3 T2 k2
      go_wp2_with fail
      refine (tost_tk T3.out H2.out HL2.out).mono ?_
      rintro e w4 ⟨g4, rfl, t4, s4⟩
      have T4 := hide t4
      clear t4 T3
      go_wp2_with fail
      refine (lawCut_stk T4.out 1 0 HSM.out HN2.out HL2.out rfl rfl HR.out).mono ?_
      rintro e w5 ⟨ad5, c5, rfl, t5, s5⟩
      have T5 := hide ((t5.celln rfl #[.slice ad5 R1.length c5] 30).drop (hs' := [(w5.heap.size, w5.heap.size + 1, Cel w5.heap.size #[.slice ad5 R1.length c5] 30), (w4.heap.size, w5.heap.size, Fla w4.heap.size w5.heap.size (.slice ad5 R1.length c5) R1), (w.heap.size, w.heap.size + 1, Cel w.heap.size #[.slice a len cap] 24)]) (by intro x hx; simp only [List.mem_cons, List.not_mem_nil, or_false] at hx ⊢; rcases hx with rfl | rfl | rfl <;> simp))
      have k5 : (w5.alloc (.cells #[.slice ad5 R1.length c5] 30)).cell? ⟨w.heap.size, 0, none⟩ = some (.slice a len cap) := T5.out.at 2 0 rfl rfl
      have y5 : (w5.alloc (.cells #[.slice ad5 R1.length c5] 30)).heap.size = w5.heap.size + 1 := alloc_size rfl _
      have Y5 := hide y5
      clear t5 T4 y5
      go_wp2_with fail
      generalize w5.alloc (.cells #[.slice ad5 R1.length c5] 30) = w5a at T5 k5 Y5 ⊢
      refine (to_tk T5.out H.out HBS.out HLE.out HLL.out).mono ?_
      rintro e w6 ⟨ad6, c6, rfl, t6, s6⟩
      have T6 := hide (t6.celln rfl #[.slice ad6 bs.length c6] 30)
      have Y6 := hide (show (w6.alloc (.cells #[.slice ad6 bs.length c6] 30)).heap.size = w6.heap.size + 1 from alloc_size rfl _)
      clear t6 T5 k5
      go_wp2_with fail
      generalize w6.alloc (.cells #[.slice ad6 bs.length c6] 30) = w6a at T6 Y6 ⊢
      refine (tost_tk T6.out H2.out HL2.out).mono ?_
      rintro e w7 ⟨g7, rfl, t7, s7⟩
      have T7 := hide t7
      have k7 : w7.cell? ⟨w6.heap.size, 0, none⟩ = some (.slice ad6 bs.length c6) := T7.out.at 1 0 rfl rfl
      clear t7 T6
      go_wp2_with fail
      refine (lawCut_itk T7.out 2 0 HSM.out HN2.out HL2.out rfl rfl HR.out).mono ?_
      rintro e w8 ⟨ad8, c8, rfl, t8, s8⟩
      have T8 := hide (t8.celln rfl #[.slice ad8 R1.length c8] 30)
      have Y8 := hide (show (w8.alloc (.cells #[.slice ad8 R1.length c8] 30)).heap.size = w8.heap.size + 1 from alloc_size rfl _)
      have k8 : (w8.alloc (.cells #[.slice ad8 R1.length c8] 30)).cell? ⟨w5.heap.size, 0, none⟩ = some (.slice ad5 R1.length c5) := T8.out.at 5 0 rfl rfl
      have hne : (R2 != R2) = false := by simp
      clear t8 T7 k7
      go_wp2_with fail
      generalize w8.alloc (.cells #[.slice ad8 R1.length c8] 30) = w8a at T8 Y8 k8 ⊢
      refine (eq_tk T8.out 1 6 HOR.out rfl rfl).mono ?_
      rintro e w9 ⟨rfl, t9, s9⟩
      have T9 := hide t9
      have T9d := hide t9.drew
      have k9 : w9.cell? ⟨w.heap.size, 0, none⟩ = some (.slice a len cap) := t9.at 7 0 rfl rfl
      have x9 : w9.cell? ⟨w6.heap.size, 0, none⟩ = some (.slice ad6 bs.length c6) := t9.at 3 0 rfl rfl
      clear t9 T8 k8
      go_wp2
      go_region_held3 (fun w' => w'.cell? ⟨w6.heap.size, 0, none⟩ = some (.slice ad6 bs.length c6) ∧ w'.cell? ⟨w.heap.size, 0, none⟩ = some (.slice a len cap)) (first | go_keep | exact ⟨T10.out.at 4 0 rfl rfl, T10.out.at 8 0 rfl rfl⟩ | exact ⟨T11.out.at 4 0 rfl rfl, T11.out.at 8 0 rfl rfl⟩) (first
        | (go_at_call 11; (with_reducible refine Calls.mono (to_tk T9d.out H.out HBS.out HLE.out HLL.out) ?_); rintro en w10 ⟨ad10, c10, rfl, t10, s10⟩; have T10 := hide t10; clear t10)
        | (go_at_call 13; (with_reducible refine Calls.mono (eq_tk T10.out 5 0 HO.out rfl rfl) ?_); rintro en w11 ⟨rfl, t11, s11⟩; have T11 := hide t11; clear t11))
      all_goals
        have T12 := hide (T11.out.drop (fun x hx => List.mem_cons_of_mem _ hx))
        have s10' : w9.heap.size ≤ w10.heap.size := s10
        clear T9 T9d T10 T11 k9 x9
        go_wp2_with fail
        refine (tost_tk T12.out H2.out HL2.out).mono ?_
        rintro e w12 ⟨g12, rfl, t12, s12⟩
        have T13 := hide t12
        clear t12 T12
        go_wp2_with fail
        refine (eqst_tk T13.out 3 0 HL9.out HN2.out rfl rfl).mono ?_
        rintro e w13 ⟨rfl, t13, s13⟩
        have T14 := hide (t13.drop (fun x hx => List.mem_cons_of_mem _ hx))
        have x13 : w13.cell? ⟨w6.heap.size, 0, none⟩ = some (.slice ad6 bs.length c6) := T14.out.at 3 0 rfl rfl
        have y5 := Y5.out
        have y6 := Y6.out
        have y8 := Y8.out
        have hm1 := hide (show ∀ x ∈ [(w8.heap.size, w8.heap.size + 1, Cel w8.heap.size #[.slice ad8 R1.length c8] 30), (w7.heap.size, w8.heap.size, Fla w7.heap.size w8.heap.size (.slice ad8 R1.length c8) R1), (w6a.heap.size, w7.heap.size, Sli 40 w6a.heap.size w7.heap.size (.slice (some ⟨g7, 0, none⟩) len2 len2) len2 (stcells l)), (w5.heap.size, w5.heap.size + 1, Cel w5.heap.size #[.slice ad5 R1.length c5] 30), (w4.heap.size, w5.heap.size, Fla w4.heap.size w5.heap.size (.slice ad5 R1.length c5) R1), (w.heap.size, w.heap.size + 1, Cel w.heap.size #[.slice a len cap] 24)], x ∈ [(w8.heap.size, w8.heap.size + 1, Cel w8.heap.size #[.slice ad8 R1.length c8] 30), (w7.heap.size, w8.heap.size, Fla w7.heap.size w8.heap.size (.slice ad8 R1.length c8) R1), (w6a.heap.size, w7.heap.size, Sli 40 w6a.heap.size w7.heap.size (.slice (some ⟨g7, 0, none⟩) len2 len2) len2 (stcells l)), (w6.heap.size, w6.heap.size + 1, Cel w6.heap.size #[.slice ad6 bs.length c6] 30), (w5a.heap.size, w6.heap.size, Fla w5a.heap.size w6.heap.size (.slice ad6 bs.length c6) bs), (w5.heap.size, w5.heap.size + 1, Cel w5.heap.size #[.slice ad5 R1.length c5] 30), (w4.heap.size, w5.heap.size, Fla w4.heap.size w5.heap.size (.slice ad5 R1.length c5) R1), (w.heap.size, w.heap.size + 1, Cel w.heap.size #[.slice a len cap] 24)] ∧ (x.2.1 ≤ w5a.heap.size ∨ w6.heap.size ≤ x.1) from (fun x hx => by simp only [List.mem_cons, List.not_mem_nil, or_false] at hx; rcases hx with rfl | rfl | rfl | rfl | rfl | rfl <;> exact ⟨by simp, by simp only; omega⟩))
        have hm2 := hide (show ∀ x ∈ [(w8.heap.size, w8.heap.size + 1, Cel w8.heap.size #[.slice ad8 R1.length c8] 30), (w7.heap.size, w8.heap.size, Fla w7.heap.size w8.heap.size (.slice ad8 R1.length c8) R1), (w5.heap.size, w5.heap.size + 1, Cel w5.heap.size #[.slice ad5 R1.length c5] 30), (w4.heap.size, w5.heap.size, Fla w4.heap.size w5.heap.size (.slice ad5 R1.length c5) R1), (w.heap.size, w.heap.size + 1, Cel w.heap.size #[.slice a len cap] 24)], x ∈ [(w8.heap.size, w8.heap.size + 1, Cel w8.heap.size #[.slice ad8 R1.length c8] 30), (w7.heap.size, w8.heap.size, Fla w7.heap.size w8.heap.size (.slice ad8 R1.length c8) R1), (w6a.heap.size, w7.heap.size, Sli 40 w6a.heap.size w7.heap.size (.slice (some ⟨g7, 0, none⟩) len2 len2) len2 (stcells l)), (w5.heap.size, w5.heap.size + 1, Cel w5.heap.size #[.slice ad5 R1.length c5] 30), (w4.heap.size, w5.heap.size, Fla w4.heap.size w5.heap.size (.slice ad5 R1.length c5) R1), (w.heap.size, w.heap.size + 1, Cel w.heap.size #[.slice a len cap] 24)] ∧ (x.2.1 ≤ w6a.heap.size ∨ w7.heap.size ≤ x.1) from (fun x hx => by simp only [List.mem_cons, List.not_mem_nil, or_false] at hx; rcases hx with rfl | rfl | rfl | rfl | rfl <;> exact ⟨by simp, by simp only; omega⟩))
        have hm3 := hide (show ∀ x ∈ [(w8.heap.size, w8.heap.size + 1, Cel w8.heap.size #[.slice ad8 R1.length c8] 30), (w5.heap.size, w5.heap.size + 1, Cel w5.heap.size #[.slice ad5 R1.length c5] 30), (w4.heap.size, w5.heap.size, Fla w4.heap.size w5.heap.size (.slice ad5 R1.length c5) R1), (w.heap.size, w.heap.size + 1, Cel w.heap.size #[.slice a len cap] 24)], x ∈ [(w8.heap.size, w8.heap.size + 1, Cel w8.heap.size #[.slice ad8 R1.length c8] 30), (w7.heap.size, w8.heap.size, Fla w7.heap.size w8.heap.size (.slice ad8 R1.length c8) R1), (w5.heap.size, w5.heap.size + 1, Cel w5.heap.size #[.slice ad5 R1.length c5] 30), (w4.heap.size, w5.heap.size, Fla w4.heap.size w5.heap.size (.slice ad5 R1.length c5) R1), (w.heap.size, w.heap.size + 1, Cel w.heap.size #[.slice a len cap] 24)] ∧ (x.2.1 ≤ w7.heap.size ∨ w8.heap.size ≤ x.1) from (fun x hx => by simp only [List.mem_cons, List.not_mem_nil, or_false] at hx; rcases hx with rfl | rfl | rfl | rfl <;> exact ⟨by simp, by simp only; omega⟩))
        have lo1 : w.heap.size ≤ w5a.heap.size := by omega
        have lo2 : w.heap.size ≤ w6a.heap.size := by omega
        have lo3 : w.heap.size ≤ w7.heap.size := by omega
        have hk0 : (0 : Int) ≤ ((K + len2 * 4 : Nat) : Int) := by omega
        obtain ⟨KK, hKK⟩ : ∃ KK : Nat, K + len2 * 4 = KK := ⟨_, rfl⟩
        have HKK := hide hKK
        have hkk0 : (0 : Int) ≤ (KK : Int) := by omega
        have hN0 : (0 : Int) ≤ (N : Int) := by omega
        have hNN : ((N : Int) != (N : Int)) = false := by simp
        clear t13 T13 y5 y6 y8 hk0 hKK
        go_wp2_with fail
        refine (markk_tk T14.out 4 HO.out HK.out rfl lo1 hm1.out).mono ?_
        rintro e w15 ⟨rfl, t15, -⟩
        have T15 := hide (t15.drop (fun x hx => List.mem_cons_of_mem _ hx))
        clear t15 T14 x13 hm1
        go_wp2_with fail
        refine (markst_tk T15.out 2 HL9.out HN2.out HK2.out.1 (by have := HK2.out.2; omega) rfl lo2 hm2.out).mono ?_
        rintro e w16 ⟨rfl, t16, -⟩
        rw [HKK.out]
        have T16 := hide t16
        have g16 : w16.cell? ⟨w8.heap.size, 0, none⟩ = some (.slice ad8 R1.length c8) := t16.at 0 0 rfl rfl
        have v16 : w16.cell? ⟨w5.heap.size, 0, none⟩ = some (.slice ad5 R1.length c5) := t16.at 2 0 rfl rfl
        clear t16 T15 hm2
        go_wp2_with fail
        refine (eq_tk T16.out 1 3 HOR.out rfl rfl).mono ?_
        rintro e w17 ⟨rfl, t17, -⟩
        have T17 := hide t17
        have g17 : w17.cell? ⟨w8.heap.size, 0, none⟩ = some (.slice ad8 R1.length c8) := t17.at 0 0 rfl rfl
        clear t17 T16 g16 v16
        go_wp2_with fail
        refine (markk_tk T17.out 1 HOR.out HN.out rfl lo3 hm3.out).mono ?_
        rintro e w18 ⟨rfl, t18, -⟩
        have T18 := hide t18
        have g18 : w18.cell? ⟨w8.heap.size, 0, none⟩ = some (.slice ad8 R1.length c8) := t18.at 1 0 rfl rfl
        clear t18 T17 g17 hm3
        go_wp2_with fail
        refine (held_tk T18.out 0 HN9.out rfl).mono ?_
        rintro e w19 ⟨rfl, t19, -⟩
        have T19 := hide t19
        have k19 : w19.cell? ⟨w.heap.size, 0, none⟩ = some (.slice a len cap) := t19.at 4 0 rfl rfl
        clear t19 T18 g18
        go_wp2_with fail
        refine (to_tk T19.out H.out HBS.out HLE.out HLL.out).mono ?_
        rintro e w20 ⟨ad20, c20, rfl, t20, -⟩
        have T20 := hide t20
        clear t20 T19 k19
        go_wp2_with fail
        refine (tost_tk T20.out H2.out HL2.out).mono ?_
        rintro e w21 ⟨g21, rfl, t21, -⟩
        have T21 := hide t21
        clear t21 T20
        go_wp2_with fail
        refine (lawCut_itk T21.out 1 0 HSM.out HN2.out HL2.out rfl rfl HR.out).mono ?_
        rintro e w22 ⟨ad22, c22, rfl, t22, -⟩
        have T22 := hide (t22.cell #[.slice ad22 R1.length c22] 30)
        have v22 : (w22.alloc (.cells #[.slice ad22 R1.length c22] 30)).cell? ⟨w5.heap.size, 0, none⟩ = some (.slice ad5 R1.length c5) := T22.out.at 6 0 rfl rfl
        clear t22 T21
        go_wp2_with fail
        generalize w22.alloc (.cells #[.slice ad22 R1.length c22] 30) = w22a at T22 v22 ⊢
        refine (eq_tk T22.out 1 7 HOR.out rfl rfl).mono ?_
        rintro e w23 ⟨rfl, t23, -⟩
        have T23 := hide t23
        have g23 : w23.cell? ⟨w8.heap.size, 0, none⟩ = some (.slice ad8 R1.length c8) := t23.at 5 0 rfl rfl
        clear t23 T22 v22
        go_wp2_with fail
        refine (held_tk T23.out 4 HN9.out rfl).mono ?_
        rintro e w24 ⟨rfl, t24, -⟩
        have T24 := hide t24
        clear t24 T23 g23
        go_wp2
        go_ret
        exact ⟨rfl, T24.out.1⟩
end Go.Proofs.Ythgfhjfnlecolap
