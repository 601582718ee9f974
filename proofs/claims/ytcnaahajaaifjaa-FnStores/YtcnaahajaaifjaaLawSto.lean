/-
  FnStores, of what the program answers.
-/
import Derived.Test.YtcnaahajaaifjaaPq31
import Derived.Test.YtcnaahajaaifjaaPq10
import Derived.Deep.RegionHeld3
import Derived.Deep.DeepCutAuto
namespace Go.Proofs.Ytcnaahajaaifjaa
open Go.RowKit
open Words

set_option maxHeartbeats 8000000 in
set_option maxRecDepth 100000 in
theorem lawSt_of (ad : Option Addr) (len cap : Nat) (w : World) (hd : CodeIn w ad len w.heap.size) (HI : Hid (EnterC 11)) (HM : Hid (SameC 13)) (HO : Hid (OkC 14)) (HC : Hid (ChunkC 15)) :
    Calls Try.prog 3 #[.slice ad len cap] w fun e w' => e = .returned (.bool true) ∧ Below w.heap.size w w' := by
  have HD := hide hd
  clear hd
  by_cases hbig : (1048576 : Int) < len
  · go_enter Try.func3, Try.ntmps3
    go_wp2_with fail
    refine (big_any ad len cap _).mono ?_
    rintro e w1 ⟨rfl, rfl⟩
    rw [decide_eq_true hbig]
    go_wp2
    go_ret
    exact ⟨rfl, Below.refl _ _⟩
  have hl2 : len ≤ 1048576 := by omega
  have hbd : decide ((1048576 : Int) < len) = false := decide_eq_false hbig
  clear hbig
  go_enter Try.func3, Try.ntmps3
  go_wp2_with fail
  refine (big_any ad len cap _).mono ?_
  rintro e w0 ⟨rfl, hw0⟩
  subst hw0
  rw [hbd]
  clear hbd
  go_wp2_with fail
  refine (dsr_tk (Tk.start w0) hl2 HD.out).mono ?_
  rintro e w1 ⟨va, vl, vc, kd, kl, kc, s, kind, vol, arg, chunk, rfl, ⟨hs, hv, hvl, hkl, hcp⟩, t1, s1⟩
  have HS := hide hs
  have HVL := hide hvl
  have HKL := hide hkl
  have hvl3 : vl ≤ 3 := by rw [hvl]; exact hs.1.few
  have HF := hide (drn_fit hs)
  obtain ⟨E1, E2, hE⟩ : ∃ E1 E2, enterS s ⟨kind, vol, arg, chunk⟩ = (E1, E2) := ⟨_, _, rfl⟩
  have HE := hide hE
  have HER : Hid E1.Right := by
    have := enter_right hs.1 ⟨kind, vol, arg, chunk⟩
    rw [hE] at this
    exact this
  have HEF := hide (right_fit HER.out)
  clear hs hvl hkl hE
  have T2 := hide ((t1.celln rfl #[.slice va vl vc, .slice kd kl kc, .int .i64 s.next] 29).celln (alloc_size rfl _) #[.int .i64 kind, .int .i64 vol, .int .i64 arg, .int .i64 chunk] 31)
  obtain ⟨z, hz⟩ : ∃ z, w1.heap.size = z := ⟨_, rfl⟩
  rw [hz] at T2
  clear t1
  go_upto_region 4 with fail
  try rw [hz]
  generalize (w1.alloc (.cells #[.slice va vl vc, .slice kd kl kc, .int .i64 s.next] 29)).alloc (.cells #[.int .i64 kind, .int .i64 vol, .int .i64 arg, .int .i64 chunk] 31) = w2 at T2 ⊢
  clear hz
  have hee : (E2 != E2) = false := by simp
  have c0 : w2.cell? ⟨z, 0, none⟩ = some (.slice va vl vc) := T2.out.at 1 0 rfl rfl
  have c1 : w2.cell? ⟨z, 1, none⟩ = some (.slice kd kl kc) := T2.out.at 1 1 rfl rfl
  have c2 : w2.cell? ⟨z, 2, none⟩ = some (.int .i64 s.next) := T2.out.at 1 2 rfl rfl
  have d0 : w2.cell? ⟨z + 1, 0, none⟩ = some (.int .i64 kind) := T2.out.at 0 0 rfl rfl
  have d1 : w2.cell? ⟨z + 1, 1, none⟩ = some (.int .i64 vol) := T2.out.at 0 1 rfl rfl
  have d2 : w2.cell? ⟨z + 1, 2, none⟩ = some (.int .i64 arg) := T2.out.at 0 2 rfl rfl
  have d3 : w2.cell? ⟨z + 1, 3, none⟩ = some (.int .i64 chunk) := T2.out.at 0 3 rfl rfl
  go_wp2_with fail
  refine (gent_tk HI.out HE.out T2.out 2 HF.out rfl).mono ?_
  rintro e w3 ⟨x3, xl3, xc3, y3, yl3, yc3, rfl, ⟨hx3, -⟩, t3, s3⟩
  have HX3 := hide hx3
  have hx33 : xl3 ≤ 3 := by rw [hx3]; exact HER.out.few
  have T4 := hide (t3.celln rfl #[.slice x3 xl3 xc3, .slice y3 yl3 yc3, .int .i64 E1.next] 29)
  clear t3
  clear c0 c1 c2 d0 d1 d2 d3 T2 hx3
  go_upto_region 5 with fail
  generalize w3.alloc (.cells #[.slice x3 xl3 xc3, .slice y3 yl3 yc3, .int .i64 E1.next] 29) = w4 at T4 ⊢
  have c0 : w4.cell? ⟨z, 0, none⟩ = some (.slice va vl vc) := T4.out.at 3 0 rfl rfl
  have c1 : w4.cell? ⟨z, 1, none⟩ = some (.slice kd kl kc) := T4.out.at 3 1 rfl rfl
  have c2 : w4.cell? ⟨z, 2, none⟩ = some (.int .i64 s.next) := T4.out.at 3 2 rfl rfl
  have d0 : w4.cell? ⟨z + 1, 0, none⟩ = some (.int .i64 kind) := T4.out.at 2 0 rfl rfl
  have d1 : w4.cell? ⟨z + 1, 1, none⟩ = some (.int .i64 vol) := T4.out.at 2 1 rfl rfl
  have d2 : w4.cell? ⟨z + 1, 2, none⟩ = some (.int .i64 arg) := T4.out.at 2 2 rfl rfl
  have d3 : w4.cell? ⟨z + 1, 3, none⟩ = some (.int .i64 chunk) := T4.out.at 2 3 rfl rfl
  go_wp2_with fail
  refine (sent_tk HE.out T4.out 4 HF.out hcp rfl).mono ?_
  rintro e w5 ⟨x5, xl5, xc5, y5, yl5, yc5, rfl, -, t5, s5⟩
  have T6 := hide (t5.celln rfl #[.slice x5 xl5 xc5, .slice y5 yl5 yc5, .int .i64 E1.next] 29)
  clear t5
  clear c0 c1 c2 d0 d1 d2 d3 T4
  go_upto_region 6 with fail
  generalize w5.alloc (.cells #[.slice x5 xl5 xc5, .slice y5 yl5 yc5, .int .i64 E1.next] 29) = w6 at T6 ⊢
  have c0 : w6.cell? ⟨w3.heap.size, 0, none⟩ = some (.slice x3 xl3 xc3) := T6.out.at 2 0 rfl rfl
  have c1 : w6.cell? ⟨w3.heap.size, 1, none⟩ = some (.slice y3 yl3 yc3) := T6.out.at 2 1 rfl rfl
  have c2 : w6.cell? ⟨w3.heap.size, 2, none⟩ = some (.int .i64 E1.next) := T6.out.at 2 2 rfl rfl
  have f0 : w6.cell? ⟨w5.heap.size, 0, none⟩ = some (.slice x5 xl5 xc5) := T6.out.at 0 0 rfl rfl
  have f1 : w6.cell? ⟨w5.heap.size, 1, none⟩ = some (.slice y5 yl5 yc5) := T6.out.at 0 1 rfl rfl
  have f2 : w6.cell? ⟨w5.heap.size, 2, none⟩ = some (.int .i64 E1.next) := T6.out.at 0 2 rfl rfl
  go_wp2_with fail
  refine (gsam_tk HM.out (same_self E1) T6.out 3 1 HEF.out HEF.out rfl rfl).mono ?_
  rintro e w7 ⟨rfl, t7, s7⟩
  have T7 := hide t7
  clear t7 T6 c0 c1 c2 f0 f1 f2
  have c0 : w7.cell? ⟨z, 0, none⟩ = some (.slice va vl vc) := T7.out.at 5 0 rfl rfl
  have c1 : w7.cell? ⟨z, 1, none⟩ = some (.slice kd kl kc) := T7.out.at 5 1 rfl rfl
  have c2 : w7.cell? ⟨z, 2, none⟩ = some (.int .i64 s.next) := T7.out.at 5 2 rfl rfl
  go_wp2_with fail
  refine (gsok_tk HO.out ((stoB_iff s).2 HS.out.1) T7.out 6 HF.out rfl).mono ?_
  rintro e w8 ⟨rfl, t8, s8⟩
  have T8 := hide t8
  clear t8 T7 c0 c1 c2
  have c0 : w8.cell? ⟨w3.heap.size, 0, none⟩ = some (.slice x3 xl3 xc3) := T8.out.at 2 0 rfl rfl
  have c1 : w8.cell? ⟨w3.heap.size, 1, none⟩ = some (.slice y3 yl3 yc3) := T8.out.at 2 1 rfl rfl
  have c2 : w8.cell? ⟨w3.heap.size, 2, none⟩ = some (.int .i64 E1.next) := T8.out.at 2 2 rfl rfl
  go_wp2_with fail
  refine (gsok_tk HO.out ((stoB_iff E1).2 HER.out) T8.out 3 HEF.out rfl).mono ?_
  rintro e w9 ⟨rfl, t9, s9⟩
  have T9 := hide t9
  clear t9 T8 c0 c1 c2
  change Hid (Tk w0 w9 [(w5.heap.size, w5.heap.size + 1, Cel w5.heap.size #[.slice x5 xl5 xc5, .slice y5 yl5 yc5, .int .i64 E1.next] 29), (w4.heap.size, w5.heap.size, Sts w4.heap.size w5.heap.size (.agg #[.slice x5 xl5 xc5, .slice y5 yl5 yc5, .int .i64 E1.next]) E1), (w3.heap.size, w3.heap.size + 1, Cel w3.heap.size #[.slice x3 xl3 xc3, .slice y3 yl3 yc3, .int .i64 E1.next] 29), (w2.heap.size, w3.heap.size, Sts w2.heap.size w3.heap.size (.agg #[.slice x3 xl3 xc3, .slice y3 yl3 yc3, .int .i64 E1.next]) E1), (z + 1, z + 1 + 1, Cel (z + 1) #[.int .i64 kind, .int .i64 vol, .int .i64 arg, .int .i64 chunk] 31), (z, z + 1, Cel z #[.slice va vl vc, .slice kd kl kc, .int .i64 s.next] 29), (w0.heap.size, z, Sts w0.heap.size z (.agg #[.slice va vl vc, .slice kd kl kc, .int .i64 s.next]) s)]) at T9
  cases E2 with
  | false =>
    have EE : Hid (E1 = s) := by
      have := enter_no (s := s) (r := ⟨kind, vol, arg, chunk⟩) (by rw [HE.out])
      rw [HE.out] at this
      exact this
    have HSS : Hid (sameS E1 s = true) := by show _ = _; rw [EE.out]; exact same_self s
    have c0 : w9.cell? ⟨w3.heap.size, 0, none⟩ = some (.slice x3 xl3 xc3) := T9.out.at 2 0 rfl rfl
    have c1 : w9.cell? ⟨w3.heap.size, 1, none⟩ = some (.slice y3 yl3 yc3) := T9.out.at 2 1 rfl rfl
    have c2 : w9.cell? ⟨w3.heap.size, 2, none⟩ = some (.int .i64 E1.next) := T9.out.at 2 2 rfl rfl
    have f0 : w9.cell? ⟨z, 0, none⟩ = some (.slice va vl vc) := T9.out.at 5 0 rfl rfl
    have f1 : w9.cell? ⟨z, 1, none⟩ = some (.slice kd kl kc) := T9.out.at 5 1 rfl rfl
    have f2 : w9.cell? ⟨z, 2, none⟩ = some (.int .i64 s.next) := T9.out.at 5 2 rfl rfl
    go_wp2_with fail
    refine (gsam_tk HM.out HSS.out T9.out 3 6 HEF.out HF.out rfl rfl).mono ?_
    rintro e w10 ⟨rfl, t10, s10⟩
    have T10 := hide t10
    clear t10 T9 c0 c1 c2 f0 f1 f2
    have BF := hide T10.out.1
    go_wp2
    go_ret
    exact ⟨rfl, BF.out⟩
  | true =>
    have HY : Hid ((enterS s ⟨kind, vol, arg, chunk⟩).2 = true) := by show _ = _; rw [HE.out]
    have HRR := hide ((rc_spec kind vol arg chunk).1 (enter_yes HY.out).2)
    have hk := HRR.out
    have d0 : w9.cell? ⟨z + 1, 0, none⟩ = some (.int .i64 kind) := T9.out.at 4 0 rfl rfl
    have d1 : w9.cell? ⟨z + 1, 1, none⟩ = some (.int .i64 vol) := T9.out.at 4 1 rfl rfl
    have d2 : w9.cell? ⟨z + 1, 2, none⟩ = some (.int .i64 arg) := T9.out.at 4 2 rfl rfl
    have d3 : w9.cell? ⟨z + 1, 3, none⟩ = some (.int .i64 chunk) := T9.out.at 4 3 rfl rfl
    have c0 : w9.cell? ⟨w3.heap.size, 0, none⟩ = some (.slice x3 xl3 xc3) := T9.out.at 2 0 rfl rfl
    have c1 : w9.cell? ⟨w3.heap.size, 1, none⟩ = some (.slice y3 yl3 yc3) := T9.out.at 2 1 rfl rfl
    have c2 : w9.cell? ⟨w3.heap.size, 2, none⟩ = some (.int .i64 E1.next) := T9.out.at 2 2 rfl rfl
    have f0 : w9.cell? ⟨z, 0, none⟩ = some (.slice va vl vc) := T9.out.at 5 0 rfl rfl
    have f1 : w9.cell? ⟨z, 1, none⟩ = some (.slice kd kl kc) := T9.out.at 5 1 rfl rfl
    have f2 : w9.cell? ⟨z, 2, none⟩ = some (.int .i64 s.next) := T9.out.at 5 2 rfl rfl
    by_cases k4 : kind = 4
    · subst k4
      obtain ⟨q1, q2, q3⟩ := put_chunk HY.out (.inl rfl)
      rw [HE.out] at q1 q2 q3
      simp only at q1 q2 q3
      have Q1 := hide q1
      have q2' : E1.next > chunk := q2
      have q3' : E1.next ≥ s.next := q3
      have hcc : (chunk == chunk) = true := by simp
      have T9d := hide T9.out.drew
      clear q1 hk
      go_upto_region 12 with fail
      go_region_held3 (fun w' => ((w'.cell? ⟨w3.heap.size, 0, none⟩ = some (.slice x3 xl3 xc3) ∧ w'.cell? ⟨w3.heap.size, 1, none⟩ = some (.slice y3 yl3 yc3) ∧ w'.cell? ⟨w3.heap.size, 2, none⟩ = some (.int .i64 E1.next)) ∧ (w'.cell? ⟨z, 0, none⟩ = some (.slice va vl vc) ∧ w'.cell? ⟨z, 1, none⟩ = some (.slice kd kl kc) ∧ w'.cell? ⟨z, 2, none⟩ = some (.int .i64 s.next)) ∧ w'.cell? ⟨z + 1, 0, none⟩ = some (.int .i64 4) ∧ w'.cell? ⟨z + 1, 1, none⟩ = some (.int .i64 vol) ∧ w'.cell? ⟨z + 1, 2, none⟩ = some (.int .i64 arg) ∧ w'.cell? ⟨z + 1, 3, none⟩ = some (.int .i64 chunk))) (first | go_keep | exact ⟨⟨T9d.out.at 2 0 rfl rfl, T9d.out.at 2 1 rfl rfl, T9d.out.at 2 2 rfl rfl⟩, ⟨T9d.out.at 5 0 rfl rfl, T9d.out.at 5 1 rfl rfl, T9d.out.at 5 2 rfl rfl⟩, T9d.out.at 4 0 rfl rfl, T9d.out.at 4 1 rfl rfl, T9d.out.at 4 2 rfl rfl, T9d.out.at 4 3 rfl rfl⟩ | exact ⟨⟨T10.out.at 2 0 rfl rfl, T10.out.at 2 1 rfl rfl, T10.out.at 2 2 rfl rfl⟩, ⟨T10.out.at 5 0 rfl rfl, T10.out.at 5 1 rfl rfl, T10.out.at 5 2 rfl rfl⟩, T10.out.at 4 0 rfl rfl, T10.out.at 4 1 rfl rfl, T10.out.at 4 2 rfl rfl, T10.out.at 4 3 rfl rfl⟩) (first
        | (go_at_call 15; (with_reducible refine Calls.mono (gchk_tk HC.out Q1.out T9d.out 3 HEF.out rfl) ?_); rintro en w10 ⟨rfl, t10, s10⟩; have T10 := hide t10; clear t10))
      all_goals
        clear T9 T9d c0 c1 c2 d0 d1 d2 d3 f0 f1 f2
        have BF := hide T10.out.1
        go_wp2
        go_ret
        exact ⟨rfl, BF.out⟩
    · have k4b : (kind == 4) = false := by simpa using k4
      by_cases k5 : kind = 5
      · subst k5
        have q1 := (put_chunk HY.out (.inr rfl)).1
        have hc0 : chunk = 0 := by omega
        rw [HE.out] at q1
        simp only at q1
        rw [hc0] at q1
        have Q1 := hide q1
        clear q1 hk
        go_wp2_with fail
        refine (gchk_tk HC.out Q1.out T9.out 3 HEF.out rfl).mono ?_
        rintro e w10 ⟨rfl, t10, s10⟩
        have T10 := hide t10
        clear t10 T9 c0 c1 c2 d0 d1 d2 d3 f0 f1 f2
        have BF := hide T10.out.1
        go_wp2
        go_ret
        exact ⟨rfl, BF.out⟩
      · have k5b : (kind == 5) = false := by simpa using k5
        by_cases k3 : kind = 3
        · subst k3
          have q1 := enter_drop HY.out rfl
          rw [HE.out] at q1
          simp only at q1
          have q2 : xl3 + 1 = vl := by rw [HX3.out, HVL.out]; exact q1
          have q3 : (((xl3 : Int) + 1) == (vl : Int)) = true := by simp; omega
          have q4 : IntKind.i64.wrap ((xl3 : Int) + 1) = (xl3 : Int) + 1 := by rw [IntKind.wrap_i64]; omega
          clear q1 q2 hk
          have BF := hide T9.out.1
          go_wp2
          go_ret
          exact ⟨rfl, BF.out⟩
        · have k3b : (kind == 3) = false := by simpa using k3
          by_cases k2 : kind = 2
          · subst k2
            have q1 := vol_len HY.out rfl
            have CK : Hid (∀ i : Nat, i < 16 → (0 < arg → chunkS E1 vol (i : Int) = chunkS s arg (i : Int)) ∧ (¬ 0 < arg → chunkS E1 vol (i : Int) = 0)) := fun i hi => by
              have := vol_chunk HY.out rfl hi
              rw [HE.out] at this
              exact this
            rw [HE.out] at q1
            simp only at q1
            have q2 : xl3 = vl + 1 := by rw [HX3.out, HVL.out]; exact q1
            have q3 : ((xl3 : Int) == ((vl : Int) + 1)) = true := by simp; omega
            have q4 : IntKind.i64.wrap ((vl : Int) + 1) = (vl : Int) + 1 := by rw [IntKind.wrap_i64]; omega
            clear q1 q2
            clear c0 c1 c2 d0 d1 d2 d3 f0 f1 f2
            have d0 : w9.cell? ⟨z + 1, 0, none⟩ = some (.int .i64 2) := T9.out.at 4 0 rfl rfl
            go_upto_region 19 with fail
            clear d0
            go_loopw [9] (fun iv W => ∃ i : Nat, i ≤ 16 ∧ iv = .int .i64 i ∧ Hid (Tk w0 W [(w5.heap.size, w5.heap.size + 1, Cel w5.heap.size #[.slice x5 xl5 xc5, .slice y5 yl5 yc5, .int .i64 E1.next] 29), (w4.heap.size, w5.heap.size, Sts w4.heap.size w5.heap.size (.agg #[.slice x5 xl5 xc5, .slice y5 yl5 yc5, .int .i64 E1.next]) E1), (w3.heap.size, w3.heap.size + 1, Cel w3.heap.size #[.slice x3 xl3 xc3, .slice y3 yl3 yc3, .int .i64 E1.next] 29), (w2.heap.size, w3.heap.size, Sts w2.heap.size w3.heap.size (.agg #[.slice x3 xl3 xc3, .slice y3 yl3 yc3, .int .i64 E1.next]) E1), (z + 1, z + 1 + 1, Cel (z + 1) #[.int .i64 2, .int .i64 vol, .int .i64 arg, .int .i64 chunk] 31), (z, z + 1, Cel z #[.slice va vl vc, .slice kd kl kc, .int .i64 s.next] 29), (w0.heap.size, z, Sts w0.heap.size z (.agg #[.slice va vl vc, .slice kd kl kc, .int .i64 s.next]) s)])) (fun iv _ => 16 - (intOf iv).toNat)
            case atStart => exact ⟨0, by omega, rfl, T9⟩
            case round =>
              obtain ⟨i, hi, rfl, TI⟩ := hrel
              clear T9
              by_cases hlt : (i : Int) < 16
              · have TD := hide TI.out.drew
                have SD : ((wr.drew.cell? ⟨w3.heap.size, 0, none⟩ = some (.slice x3 xl3 xc3) ∧ wr.drew.cell? ⟨w3.heap.size, 1, none⟩ = some (.slice y3 yl3 yc3) ∧ wr.drew.cell? ⟨w3.heap.size, 2, none⟩ = some (.int .i64 E1.next)) ∧ (wr.drew.cell? ⟨z, 0, none⟩ = some (.slice va vl vc) ∧ wr.drew.cell? ⟨z, 1, none⟩ = some (.slice kd kl kc) ∧ wr.drew.cell? ⟨z, 2, none⟩ = some (.int .i64 s.next)) ∧ wr.drew.cell? ⟨z + 1, 0, none⟩ = some (.int .i64 2) ∧ wr.drew.cell? ⟨z + 1, 1, none⟩ = some (.int .i64 vol) ∧ wr.drew.cell? ⟨z + 1, 2, none⟩ = some (.int .i64 arg) ∧ wr.drew.cell? ⟨z + 1, 3, none⟩ = some (.int .i64 chunk)) := ⟨⟨TD.out.at 2 0 rfl rfl, TD.out.at 2 1 rfl rfl, TD.out.at 2 2 rfl rfl⟩, ⟨TD.out.at 5 0 rfl rfl, TD.out.at 5 1 rfl rfl, TD.out.at 5 2 rfl rfl⟩, TD.out.at 4 0 rfl rfl, TD.out.at 4 1 rfl rfl, TD.out.at 4 2 rfl rfl, TD.out.at 4 3 rfl rfl⟩
                have CI := hide (CK.out i (by omega))
                go_upto_region 21 with fail
                by_cases ha : 0 < arg
                · have ha' : arg > 0 := ha
                  have ha0 : (arg == 0) = false := by simp; omega
                  obtain ⟨cv, hcv⟩ : ∃ cv, chunkS s arg (i : Int) = cv := ⟨_, rfl⟩
                  have C1 : Hid (chunkS E1 vol (i : Int) = cv) := by show _ = _; rw [CI.out.1 ha]; exact hcv
                  have C2 := hide hcv
                  have hcn : (cv != cv) = false := by simp
                  clear hcv CI hk
                  refine wp_region_ops (fun w' => ((w'.cell? ⟨w3.heap.size, 0, none⟩ = some (.slice x3 xl3 xc3) ∧ w'.cell? ⟨w3.heap.size, 1, none⟩ = some (.slice y3 yl3 yc3) ∧ w'.cell? ⟨w3.heap.size, 2, none⟩ = some (.int .i64 E1.next)) ∧ (w'.cell? ⟨z, 0, none⟩ = some (.slice va vl vc) ∧ w'.cell? ⟨z, 1, none⟩ = some (.slice kd kl kc) ∧ w'.cell? ⟨z, 2, none⟩ = some (.int .i64 s.next)) ∧ w'.cell? ⟨z + 1, 0, none⟩ = some (.int .i64 2) ∧ w'.cell? ⟨z + 1, 1, none⟩ = some (.int .i64 vol) ∧ w'.cell? ⟨z + 1, 2, none⟩ = some (.int .i64 arg) ∧ w'.cell? ⟨z + 1, 3, none⟩ = some (.int .i64 chunk))) (by kernel_rfl) SD (fun hHeld => ?_)
                  simp only [List.length_cons, List.length_nil, Nat.reduceAdd]
                  refine takeL 0 (v := ?_) rfl (by kernel_rfl) (by kernel_rfl) (by kernel_rfl) (fun _ _ _ h => h) (by rfl) (by assumption) ?_ ?_
                  rotate_left 1
                  · (intro w hSw; (try dsimp only at hSw); go_simp; all_goals with_reducible rfl)
                  simp only [Act.put, List.setIfInBounds_toArray, List.set_cons_zero, List.set_cons_succ]
                  refine takeL 1 (v := ?_) rfl (by kernel_rfl) (by kernel_rfl) (by kernel_rfl) (fun _ _ _ h => h) (by rfl) (by assumption) ?_ ?_
                  rotate_left 1
                  · (intro w hSw; (try dsimp only at hSw); go_simp; all_goals with_reducible rfl)
                  simp only [Act.put, List.setIfInBounds_toArray, List.set_cons_zero, List.set_cons_succ]
                  refine takeL 2 (v := ?_) rfl (by kernel_rfl) (by kernel_rfl) (by kernel_rfl) (fun _ _ _ h => h) (by rfl) (by assumption) ?_ ?_
                  rotate_left 1
                  · (intro w hSw; (try dsimp only at hSw); go_simp; all_goals with_reducible rfl)
                  simp only [Act.put, List.setIfInBounds_toArray, List.set_cons_zero, List.set_cons_succ]
                  refine takeL 3 (v := ?_) rfl (by kernel_rfl) (by kernel_rfl) (by kernel_rfl) (fun _ _ _ h => h) (by rfl) (by assumption) ?_ ?_
                  rotate_left 1
                  · (intro w hSw; (try dsimp only at hSw); go_simp; all_goals with_reducible rfl)
                  simp only [Act.put, List.setIfInBounds_toArray, List.set_cons_zero, List.set_cons_succ]
                  refine takeL 4 (v := ?_) rfl (by kernel_rfl) (by kernel_rfl) (by kernel_rfl) (fun _ _ _ h => h) (by rfl) (by assumption) ?_ ?_
                  rotate_left 1
                  · (intro w hSw; (try dsimp only at hSw); go_simp; all_goals with_reducible rfl)
                  simp only [Act.put, List.setIfInBounds_toArray, List.set_cons_zero, List.set_cons_succ]
                  refine takeL 5 (v := ?_) rfl (by kernel_rfl) (by kernel_rfl) (by kernel_rfl) (fun _ _ _ h => h) (by rfl) (by assumption) ?_ ?_
                  rotate_left 1
                  · (intro w hSw; (try dsimp only at hSw); go_simp; all_goals with_reducible rfl)
                  simp only [Act.put, List.setIfInBounds_toArray, List.set_cons_zero, List.set_cons_succ]
                  refine takeL 6 (v := ?_) rfl (by kernel_rfl) (by kernel_rfl) (by kernel_rfl) (fun _ _ _ h => h) (by rfl) (by assumption) ?_ ?_
                  rotate_left 1
                  · (intro w hSw; (try dsimp only at hSw); go_simp; all_goals with_reducible rfl)
                  simp only [Act.put, List.setIfInBounds_toArray, List.set_cons_zero, List.set_cons_succ]
                  refine takeL 7 (v := ?_) rfl (by kernel_rfl) (by kernel_rfl) (by kernel_rfl) (fun _ _ _ h => h) (by rfl) (by assumption) ?_ ?_
                  rotate_left 1
                  · (intro w hSw; (try dsimp only at hSw); go_simp; all_goals with_reducible rfl)
                  simp only [Act.put, List.setIfInBounds_toArray, List.set_cons_zero, List.set_cons_succ]
                  refine takeL 9 (v := ?_) rfl (by kernel_rfl) (by kernel_rfl) (by kernel_rfl) (fun _ _ _ h => h) (by rfl) (by assumption) ?_ ?_
                  rotate_left 1
                  · (intro w hSw; (try dsimp only at hSw); go_simp; all_goals with_reducible rfl)
                  simp only [Act.put, List.setIfInBounds_toArray, List.set_cons_zero, List.set_cons_succ]
                  refine takeL 10 (v := ?_) rfl (by kernel_rfl) (by kernel_rfl) (by kernel_rfl) (fun _ _ _ h => h) (by rfl) (by assumption) ?_ ?_
                  rotate_left 1
                  · (intro w hSw; (try dsimp only at hSw); go_simp; all_goals with_reducible rfl)
                  simp only [Act.put, List.setIfInBounds_toArray, List.set_cons_zero, List.set_cons_succ]
                  refine takeL 11 (v := ?_) rfl (by kernel_rfl) (by kernel_rfl) (by kernel_rfl) (fun _ _ _ h => h) (by rfl) (by assumption) ?_ ?_
                  rotate_left 1
                  · (intro w hSw; (try dsimp only at hSw); go_simp; all_goals with_reducible rfl)
                  simp only [Act.put, List.setIfInBounds_toArray, List.set_cons_zero, List.set_cons_succ]
                  refine takeL 12 (v := ?_) rfl (by kernel_rfl) (by kernel_rfl) (by kernel_rfl) (fun _ _ _ h => h) (by rfl) (by assumption) ?_ ?_
                  rotate_left 1
                  · (intro w hSw; (try dsimp only at hSw); go_simp; all_goals with_reducible rfl)
                  simp only [Act.put, List.setIfInBounds_toArray, List.set_cons_zero, List.set_cons_succ]
                  refine oneL 8 rfl (by kernel_rfl) (fun K hK => ?_)
                  go_simp
                  refine (gchk_tk HC.out C1.out TD.out 3 HEF.out rfl).mono ?_
                  rintro en v1 ⟨rfl, t10, -⟩
                  have T10 := hide t10
                  clear t10
                  refine hK.out _ _ (⟨⟨T10.out.at 2 0 rfl rfl, T10.out.at 2 1 rfl rfl, T10.out.at 2 2 rfl rfl⟩, ⟨T10.out.at 5 0 rfl rfl, T10.out.at 5 1 rfl rfl, T10.out.at 5 2 rfl rfl⟩, T10.out.at 4 0 rfl rfl, T10.out.at 4 1 rfl rfl, T10.out.at 4 2 rfl rfl, T10.out.at 4 3 rfl rfl⟩) (fun hHeld2 => ?_)
                  clear hK K hHeld
                  have hHeld := hHeld2
                  clear hHeld2
                  (try simp only [Act.put, List.setIfInBounds_toArray, List.set_cons_zero, List.set_cons_succ])
                  refine oneL 13 rfl (by kernel_rfl) (fun K hK => ?_)
                  go_simp
                  refine (gchk_tk HC.out C2.out T10.out 6 HF.out rfl).mono ?_
                  rintro en v2 ⟨rfl, t11, -⟩
                  have T11 := hide t11
                  clear t11
                  refine hK.out _ _ (⟨⟨T11.out.at 2 0 rfl rfl, T11.out.at 2 1 rfl rfl, T11.out.at 2 2 rfl rfl⟩, ⟨T11.out.at 5 0 rfl rfl, T11.out.at 5 1 rfl rfl, T11.out.at 5 2 rfl rfl⟩, T11.out.at 4 0 rfl rfl, T11.out.at 4 1 rfl rfl, T11.out.at 4 2 rfl rfl, T11.out.at 4 3 rfl rfl⟩) (fun hHeld2 => ?_)
                  clear hK K hHeld
                  have hHeld := hHeld2
                  clear hHeld2
                  (try simp only [Act.put, List.setIfInBounds_toArray, List.set_cons_zero, List.set_cons_succ])
                  refine takeL 14 (v := ?_) rfl (by kernel_rfl) (by kernel_rfl) (by kernel_rfl) (fun _ _ _ h => h) (by rfl) (by assumption) ?_ ?_
                  rotate_left 1
                  · (intro w hSw; (try dsimp only at hSw); go_simp; all_goals with_reducible rfl)
                  simp only [Act.put, List.setIfInBounds_toArray, List.set_cons_zero, List.set_cons_succ]
                  refine takeL 15 (v := ?_) rfl (by kernel_rfl) (by kernel_rfl) (by kernel_rfl) (fun _ _ _ h => h) (by rfl) (by assumption) ?_ ?_
                  rotate_left 1
                  · (intro w hSw; (try dsimp only at hSw); go_simp; all_goals with_reducible rfl)
                  simp only [Act.put, List.setIfInBounds_toArray, List.set_cons_zero, List.set_cons_succ]
                  refine takeL 16 (v := ?_) rfl (by kernel_rfl) (by kernel_rfl) (by kernel_rfl) (fun _ _ _ h => h) (by rfl) (by assumption) ?_ ?_
                  rotate_left 1
                  · (intro w hSw; (try dsimp only at hSw); go_simp; all_goals with_reducible rfl)
                  simp only [Act.put, List.setIfInBounds_toArray, List.set_cons_zero, List.set_cons_succ]
                  refine takeL 17 (v := ?_) rfl (by kernel_rfl) (by kernel_rfl) (by kernel_rfl) (fun _ _ _ h => h) (by rfl) (by assumption) ?_ ?_
                  rotate_left 1
                  · (intro w hSw; (try dsimp only at hSw); go_simp; all_goals with_reducible rfl)
                  simp only [Act.put, List.setIfInBounds_toArray, List.set_cons_zero, List.set_cons_succ]
                  refine takeL 18 (v := ?_) rfl (by kernel_rfl) (by kernel_rfl) (by kernel_rfl) (fun _ _ _ h => h) (by rfl) (by assumption) ?_ ?_
                  rotate_left 1
                  · (intro w hSw; (try dsimp only at hSw); go_simp; all_goals with_reducible rfl)
                  simp only [Act.put, List.setIfInBounds_toArray, List.set_cons_zero, List.set_cons_succ]
                  refine takeL 19 (v := ?_) rfl (by kernel_rfl) (by kernel_rfl) (by kernel_rfl) (fun _ _ _ h => h) (by rfl) (by assumption) ?_ ?_
                  rotate_left 1
                  · (intro w hSw; (try dsimp only at hSw); go_simp; all_goals with_reducible rfl)
                  simp only [Act.put, List.setIfInBounds_toArray, List.set_cons_zero, List.set_cons_succ]
                  refine takeL 20 (v := ?_) rfl (by kernel_rfl) (by kernel_rfl) (by kernel_rfl) (fun _ _ _ h => h) (by rfl) (by assumption) ?_ ?_
                  rotate_left 1
                  · (intro w hSw; (try dsimp only at hSw); go_simp; all_goals with_reducible rfl)
                  simp only [Act.put, List.setIfInBounds_toArray, List.set_cons_zero, List.set_cons_succ]
                  refine skipL 21 rfl (by kernel_rfl) (by kernel_rfl) (by kernel_rfl) (fun _ _ _ h => h) (by rfl) (by assumption) ?_
                  simp only [Act.put, List.setIfInBounds_toArray, List.set_cons_zero, List.set_cons_succ]
                  refine skipL 22 rfl (by kernel_rfl) (by kernel_rfl) (by kernel_rfl) (fun _ _ _ h => h) (by rfl) (by assumption) ?_
                  simp only [Act.put, List.setIfInBounds_toArray, List.set_cons_zero, List.set_cons_succ]
                  refine skipL 23 rfl (by kernel_rfl) (by kernel_rfl) (by kernel_rfl) (fun _ _ _ h => h) (by rfl) (by assumption) ?_
                  simp only [Act.put, List.setIfInBounds_toArray, List.set_cons_zero, List.set_cons_succ]
                  refine skipL 24 rfl (by kernel_rfl) (by kernel_rfl) (by kernel_rfl) (fun _ _ _ h => h) (by rfl) (by assumption) ?_
                  simp only [Act.put, List.setIfInBounds_toArray, List.set_cons_zero, List.set_cons_succ]
                  refine skipL 25 rfl (by kernel_rfl) (by kernel_rfl) (by kernel_rfl) (fun _ _ _ h => h) (by rfl) (by assumption) ?_
                  simp only [Act.put, List.setIfInBounds_toArray, List.set_cons_zero, List.set_cons_succ]
                  refine skipL 26 rfl (by kernel_rfl) (by kernel_rfl) (by kernel_rfl) (fun _ _ _ h => h) (by rfl) (by assumption) ?_
                  simp only [Act.put, List.setIfInBounds_toArray, List.set_cons_zero, List.set_cons_succ]
                  refine takeL 27 (v := ?_) rfl (by kernel_rfl) (by kernel_rfl) (by kernel_rfl) (fun _ _ _ h => h) (by rfl) (by assumption) ?_ ?_
                  rotate_left 1
                  · (intro w hSw; (try dsimp only at hSw); go_simp; all_goals with_reducible rfl)
                  simp only [Act.put, List.setIfInBounds_toArray, List.set_cons_zero, List.set_cons_succ]
                  refine takeL 28 (v := ?_) rfl (by kernel_rfl) (by kernel_rfl) (by kernel_rfl) (fun _ _ _ h => h) (by rfl) (by assumption) ?_ ?_
                  rotate_left 1
                  · (intro w hSw; (try dsimp only at hSw); go_simp; all_goals with_reducible rfl)
                  simp only [Act.put, List.setIfInBounds_toArray, List.set_cons_zero, List.set_cons_succ]
                  refine doneL (by kernel_rfl) ?_
                  clear hHeld TD T10 SD
                  go_wp2
                  go_roundw
                  case rel => exact ⟨i + 1, by omega, by go_num, T11⟩
                  case measure => simp [intOf]; omega
                · have ha' : ¬ arg > 0 := ha
                  have ha0 : (arg == 0) = true := by simp; omega
                  have C1 : Hid (chunkS E1 vol (i : Int) = 0) := CI.out.2 (by omega)
                  clear CI hk
                  refine wp_region_ops (fun w' => ((w'.cell? ⟨w3.heap.size, 0, none⟩ = some (.slice x3 xl3 xc3) ∧ w'.cell? ⟨w3.heap.size, 1, none⟩ = some (.slice y3 yl3 yc3) ∧ w'.cell? ⟨w3.heap.size, 2, none⟩ = some (.int .i64 E1.next)) ∧ (w'.cell? ⟨z, 0, none⟩ = some (.slice va vl vc) ∧ w'.cell? ⟨z, 1, none⟩ = some (.slice kd kl kc) ∧ w'.cell? ⟨z, 2, none⟩ = some (.int .i64 s.next)) ∧ w'.cell? ⟨z + 1, 0, none⟩ = some (.int .i64 2) ∧ w'.cell? ⟨z + 1, 1, none⟩ = some (.int .i64 vol) ∧ w'.cell? ⟨z + 1, 2, none⟩ = some (.int .i64 arg) ∧ w'.cell? ⟨z + 1, 3, none⟩ = some (.int .i64 chunk))) (by kernel_rfl) SD (fun hHeld => ?_)
                  simp only [List.length_cons, List.length_nil, Nat.reduceAdd]
                  refine takeL 0 (v := ?_) rfl (by kernel_rfl) (by kernel_rfl) (by kernel_rfl) (fun _ _ _ h => h) (by rfl) (by assumption) ?_ ?_
                  rotate_left 1
                  · (intro w hSw; (try dsimp only at hSw); go_simp; all_goals with_reducible rfl)
                  simp only [Act.put, List.setIfInBounds_toArray, List.set_cons_zero, List.set_cons_succ]
                  refine takeL 1 (v := ?_) rfl (by kernel_rfl) (by kernel_rfl) (by kernel_rfl) (fun _ _ _ h => h) (by rfl) (by assumption) ?_ ?_
                  rotate_left 1
                  · (intro w hSw; (try dsimp only at hSw); go_simp; all_goals with_reducible rfl)
                  simp only [Act.put, List.setIfInBounds_toArray, List.set_cons_zero, List.set_cons_succ]
                  refine takeL 2 (v := ?_) rfl (by kernel_rfl) (by kernel_rfl) (by kernel_rfl) (fun _ _ _ h => h) (by rfl) (by assumption) ?_ ?_
                  rotate_left 1
                  · (intro w hSw; (try dsimp only at hSw); go_simp; all_goals with_reducible rfl)
                  simp only [Act.put, List.setIfInBounds_toArray, List.set_cons_zero, List.set_cons_succ]
                  refine takeL 3 (v := ?_) rfl (by kernel_rfl) (by kernel_rfl) (by kernel_rfl) (fun _ _ _ h => h) (by rfl) (by assumption) ?_ ?_
                  rotate_left 1
                  · (intro w hSw; (try dsimp only at hSw); go_simp; all_goals with_reducible rfl)
                  simp only [Act.put, List.setIfInBounds_toArray, List.set_cons_zero, List.set_cons_succ]
                  refine skipL 4 rfl (by kernel_rfl) (by kernel_rfl) (by kernel_rfl) (fun _ _ _ h => h) (by rfl) (by assumption) ?_
                  simp only [Act.put, List.setIfInBounds_toArray, List.set_cons_zero, List.set_cons_succ]
                  refine skipL 5 rfl (by kernel_rfl) (by kernel_rfl) (by kernel_rfl) (fun _ _ _ h => h) (by rfl) (by assumption) ?_
                  simp only [Act.put, List.setIfInBounds_toArray, List.set_cons_zero, List.set_cons_succ]
                  refine skipL 6 rfl (by kernel_rfl) (by kernel_rfl) (by kernel_rfl) (fun _ _ _ h => h) (by rfl) (by assumption) ?_
                  simp only [Act.put, List.setIfInBounds_toArray, List.set_cons_zero, List.set_cons_succ]
                  refine skipL 7 rfl (by kernel_rfl) (by kernel_rfl) (by kernel_rfl) (fun _ _ _ h => h) (by rfl) (by assumption) ?_
                  simp only [Act.put, List.setIfInBounds_toArray, List.set_cons_zero, List.set_cons_succ]
                  refine skipL 8 rfl (by kernel_rfl) (by kernel_rfl) (by kernel_rfl) (fun _ _ _ h => h) (by rfl) (by assumption) ?_
                  simp only [Act.put, List.setIfInBounds_toArray, List.set_cons_zero, List.set_cons_succ]
                  refine skipL 9 rfl (by kernel_rfl) (by kernel_rfl) (by kernel_rfl) (fun _ _ _ h => h) (by rfl) (by assumption) ?_
                  simp only [Act.put, List.setIfInBounds_toArray, List.set_cons_zero, List.set_cons_succ]
                  refine skipL 10 rfl (by kernel_rfl) (by kernel_rfl) (by kernel_rfl) (fun _ _ _ h => h) (by rfl) (by assumption) ?_
                  simp only [Act.put, List.setIfInBounds_toArray, List.set_cons_zero, List.set_cons_succ]
                  refine skipL 11 rfl (by kernel_rfl) (by kernel_rfl) (by kernel_rfl) (fun _ _ _ h => h) (by rfl) (by assumption) ?_
                  simp only [Act.put, List.setIfInBounds_toArray, List.set_cons_zero, List.set_cons_succ]
                  refine skipL 12 rfl (by kernel_rfl) (by kernel_rfl) (by kernel_rfl) (fun _ _ _ h => h) (by rfl) (by assumption) ?_
                  simp only [Act.put, List.setIfInBounds_toArray, List.set_cons_zero, List.set_cons_succ]
                  refine skipL 13 rfl (by kernel_rfl) (by kernel_rfl) (by kernel_rfl) (fun _ _ _ h => h) (by rfl) (by assumption) ?_
                  simp only [Act.put, List.setIfInBounds_toArray, List.set_cons_zero, List.set_cons_succ]
                  refine skipL 14 rfl (by kernel_rfl) (by kernel_rfl) (by kernel_rfl) (fun _ _ _ h => h) (by rfl) (by assumption) ?_
                  simp only [Act.put, List.setIfInBounds_toArray, List.set_cons_zero, List.set_cons_succ]
                  refine takeL 15 (v := ?_) rfl (by kernel_rfl) (by kernel_rfl) (by kernel_rfl) (fun _ _ _ h => h) (by rfl) (by assumption) ?_ ?_
                  rotate_left 1
                  · (intro w hSw; (try dsimp only at hSw); go_simp; all_goals with_reducible rfl)
                  simp only [Act.put, List.setIfInBounds_toArray, List.set_cons_zero, List.set_cons_succ]
                  refine takeL 16 (v := ?_) rfl (by kernel_rfl) (by kernel_rfl) (by kernel_rfl) (fun _ _ _ h => h) (by rfl) (by assumption) ?_ ?_
                  rotate_left 1
                  · (intro w hSw; (try dsimp only at hSw); go_simp; all_goals with_reducible rfl)
                  simp only [Act.put, List.setIfInBounds_toArray, List.set_cons_zero, List.set_cons_succ]
                  refine takeL 17 (v := ?_) rfl (by kernel_rfl) (by kernel_rfl) (by kernel_rfl) (fun _ _ _ h => h) (by rfl) (by assumption) ?_ ?_
                  rotate_left 1
                  · (intro w hSw; (try dsimp only at hSw); go_simp; all_goals with_reducible rfl)
                  simp only [Act.put, List.setIfInBounds_toArray, List.set_cons_zero, List.set_cons_succ]
                  refine takeL 18 (v := ?_) rfl (by kernel_rfl) (by kernel_rfl) (by kernel_rfl) (fun _ _ _ h => h) (by rfl) (by assumption) ?_ ?_
                  rotate_left 1
                  · (intro w hSw; (try dsimp only at hSw); go_simp; all_goals with_reducible rfl)
                  simp only [Act.put, List.setIfInBounds_toArray, List.set_cons_zero, List.set_cons_succ]
                  refine takeL 19 (v := ?_) rfl (by kernel_rfl) (by kernel_rfl) (by kernel_rfl) (fun _ _ _ h => h) (by rfl) (by assumption) ?_ ?_
                  rotate_left 1
                  · (intro w hSw; (try dsimp only at hSw); go_simp; all_goals with_reducible rfl)
                  simp only [Act.put, List.setIfInBounds_toArray, List.set_cons_zero, List.set_cons_succ]
                  refine takeL 20 (v := ?_) rfl (by kernel_rfl) (by kernel_rfl) (by kernel_rfl) (fun _ _ _ h => h) (by rfl) (by assumption) ?_ ?_
                  rotate_left 1
                  · (intro w hSw; (try dsimp only at hSw); go_simp; all_goals with_reducible rfl)
                  simp only [Act.put, List.setIfInBounds_toArray, List.set_cons_zero, List.set_cons_succ]
                  refine takeL 21 (v := ?_) rfl (by kernel_rfl) (by kernel_rfl) (by kernel_rfl) (fun _ _ _ h => h) (by rfl) (by assumption) ?_ ?_
                  rotate_left 1
                  · (intro w hSw; (try dsimp only at hSw); go_simp; all_goals with_reducible rfl)
                  simp only [Act.put, List.setIfInBounds_toArray, List.set_cons_zero, List.set_cons_succ]
                  refine takeL 22 (v := ?_) rfl (by kernel_rfl) (by kernel_rfl) (by kernel_rfl) (fun _ _ _ h => h) (by rfl) (by assumption) ?_ ?_
                  rotate_left 1
                  · (intro w hSw; (try dsimp only at hSw); go_simp; all_goals with_reducible rfl)
                  simp only [Act.put, List.setIfInBounds_toArray, List.set_cons_zero, List.set_cons_succ]
                  refine takeL 23 (v := ?_) rfl (by kernel_rfl) (by kernel_rfl) (by kernel_rfl) (fun _ _ _ h => h) (by rfl) (by assumption) ?_ ?_
                  rotate_left 1
                  · (intro w hSw; (try dsimp only at hSw); go_simp; all_goals with_reducible rfl)
                  simp only [Act.put, List.setIfInBounds_toArray, List.set_cons_zero, List.set_cons_succ]
                  refine takeL 24 (v := ?_) rfl (by kernel_rfl) (by kernel_rfl) (by kernel_rfl) (fun _ _ _ h => h) (by rfl) (by assumption) ?_ ?_
                  rotate_left 1
                  · (intro w hSw; (try dsimp only at hSw); go_simp; all_goals with_reducible rfl)
                  simp only [Act.put, List.setIfInBounds_toArray, List.set_cons_zero, List.set_cons_succ]
                  refine oneL 25 rfl (by kernel_rfl) (fun K hK => ?_)
                  go_simp
                  refine (gchk_tk HC.out C1.out TD.out 3 HEF.out rfl).mono ?_
                  rintro en v1 ⟨rfl, t10, -⟩
                  have T10 := hide t10
                  clear t10
                  refine hK.out _ _ (⟨⟨T10.out.at 2 0 rfl rfl, T10.out.at 2 1 rfl rfl, T10.out.at 2 2 rfl rfl⟩, ⟨T10.out.at 5 0 rfl rfl, T10.out.at 5 1 rfl rfl, T10.out.at 5 2 rfl rfl⟩, T10.out.at 4 0 rfl rfl, T10.out.at 4 1 rfl rfl, T10.out.at 4 2 rfl rfl, T10.out.at 4 3 rfl rfl⟩) (fun hHeld2 => ?_)
                  clear hK K hHeld
                  have hHeld := hHeld2
                  clear hHeld2
                  (try simp only [Act.put, List.setIfInBounds_toArray, List.set_cons_zero, List.set_cons_succ])
                  refine takeL 26 (v := ?_) rfl (by kernel_rfl) (by kernel_rfl) (by kernel_rfl) (fun _ _ _ h => h) (by rfl) (by assumption) ?_ ?_
                  rotate_left 1
                  · (intro w hSw; (try dsimp only at hSw); go_simp; all_goals with_reducible rfl)
                  simp only [Act.put, List.setIfInBounds_toArray, List.set_cons_zero, List.set_cons_succ]
                  refine takeL 27 (v := ?_) rfl (by kernel_rfl) (by kernel_rfl) (by kernel_rfl) (fun _ _ _ h => h) (by rfl) (by assumption) ?_ ?_
                  rotate_left 1
                  · (intro w hSw; (try dsimp only at hSw); go_simp; all_goals with_reducible rfl)
                  simp only [Act.put, List.setIfInBounds_toArray, List.set_cons_zero, List.set_cons_succ]
                  refine takeL 28 (v := ?_) rfl (by kernel_rfl) (by kernel_rfl) (by kernel_rfl) (fun _ _ _ h => h) (by rfl) (by assumption) ?_ ?_
                  rotate_left 1
                  · (intro w hSw; (try dsimp only at hSw); go_simp; all_goals with_reducible rfl)
                  simp only [Act.put, List.setIfInBounds_toArray, List.set_cons_zero, List.set_cons_succ]
                  refine doneL (by kernel_rfl) ?_
                  clear hHeld TD SD
                  go_wp2
                  go_roundw
                  case rel => exact ⟨i + 1, by omega, by go_num, T10⟩
                  case measure => simp [intOf]; omega
              · have c0 : wr.cell? ⟨w3.heap.size, 0, none⟩ = some (.slice x3 xl3 xc3) := TI.out.at 2 0 rfl rfl
                have f0 : wr.cell? ⟨z, 0, none⟩ = some (.slice va vl vc) := TI.out.at 5 0 rfl rfl
                clear hk
                have BF := hide TI.out.1
                go_wp2
                go_ret
                exact ⟨rfl, BF.out⟩
          · have k2b : (kind == 2) = false := by simpa using k2
            have k1 : kind = 1 := by omega
            subst k1
            have q1 := enter_base HY.out rfl
            rw [HE.out] at q1
            simp only at q1
            have q2 : xl3 = 0 := by rw [HX3.out, q1]; rfl
            subst q2
            clear q1 hk
            have BF := hide T9.out.1
            go_wp2
            go_ret
            exact ⟨rfl, BF.out⟩
end Go.Proofs.Ytcnaahajaaifjaa
