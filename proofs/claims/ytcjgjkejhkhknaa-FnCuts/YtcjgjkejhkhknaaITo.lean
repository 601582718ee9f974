/-
  impl.Torment.
-/
import Derived.Test.YtcjgjkejhkhknaaIDo2
import Derived.Test.YtcjgjkejhkhknaaITorn
namespace Go.Proofs.Ytcjgjkejhkhknaa
open Go.RowKit

/-- What a step does through the interface. -/
theorem torn_b (v : Value) (bs : List Bk) (s : Stp) (w : World) (hs : Sml bs) (ha : RdB w v bs) (hd : (doF bs s).2 = true) :
    Calls Try.prog 63 #[.agg #[v], ifS s] w fun e w' => ∃ u, e = .returned (.agg #[u]) ∧ FlashOf w' w.heap.size u (tornF bs s) ∧ Below w.heap.size w w' := by
  obtain ⟨k, r, h1, h2, h3, h4, h5, -, -⟩ := do_place hd
  obtain ⟨kk, b, lf, t⟩ := s
  simp only at h1 h4 h5
  subst h1
  unfold ifS tornF
  by_cases h : kk = 1
  · obtain ⟨j, rfl, hj, -, -, hz⟩ := h5 h
    simp only [if_pos h, Int.toNat_natCast]
    exact tornP_b v bs k j t r w hs ha h2 h3 hj (by omega)
  · have h6 : kk = 2 := by rcases h4 with h4 | h4 <;> simp_all
    simp only [if_neg h, if_pos h6, Int.toNat_natCast]
    exact tornW_b v bs k r w hs ha h2 h3

set_option maxHeartbeats 800000 in
set_option maxRecDepth 100000 in
theorem ito_b (v : Value) (bs : List Bk) (s : Stp) (w : World) (hs : Sml bs) (ha : RdB w v bs) :
    Calls Try.prog 23 #[.agg #[v], stV s] w fun e w' => ∃ u, e = .returned (.tuple #[.agg #[u], .bool (tormF bs s).2]) ∧ FlashOf w' w.heap.size u (tormF bs s).1 ∧ Below w.heap.size w w' := by
  obtain ⟨vd, vc, rfl⟩ := ha.form
  have HTB := hide (fun W (h : RdB W (.slice vd bs.length vc) bs) hd => torn_b (.slice vd bs.length vc) bs s W hs h hd)
  obtain ⟨k, b, lf, t⟩ := s
  have CS := hide (stepOf_any (k, b, lf, t))
  unfold stV at CS ⊢
  simp only at CS ⊢
  have T0 := hide (Tk.three w #[.slice vd bs.length vc] #[.int .i64 k, .int .i64 b, .int .i64 lf, .string t] #[.slice none 0 0] 28 49 28)
  have F0 := hide (ha.below T0.out.1)
  have HS := hide hs
  obtain ⟨R1, R2, hR⟩ : ∃ R1 R2, doF bs (k, b, lf, t) = (R1, R2) := ⟨_, _, rfl⟩
  have HR := hide hR
  have hn : w.heap.size ≤ w.heap.size + 1 + 1 := by omega
  unfold ifS at CS
  simp only at CS
  clear ha hs hR
  by_cases h1 : k = 1
  · subst h1
    rw [if_pos rfl] at CS
    have HP : Hid (programF bs b lf t = (R1, R2)) := by show _ = _; rw [← HR.out]; simp [doF]
    have mP := find_doneP b lf t
    have mQ := find_doneLP b lf t
    go_enter Try.func23, Try.ntmps23
    go_wp2_with fail
    generalize ((w.alloc (.cells #[.slice vd bs.length vc] 28)).alloc (.cells #[.int .i64 1, .int .i64 b, .int .i64 lf, .string t] 49)).alloc (.cells #[.slice none 0 0] 28) = w0 at T0 F0 ⊢
    refine (CS.out w0).mono ?_
    rintro e w1 ⟨rfl, b1⟩
    have T1 := hide (T0.out.below b1)
    have F1 := hide (F0.out.below b1)
    have k1 : w1.cell? ⟨w.heap.size, 0, none⟩ = some (.slice vd bs.length vc) := T1.out.at 2 0 rfl rfl
    clear b1 T0 F0
    go_wp2_with fail
    refine (doneP_b _ bs b lf t w1 HS.out F1.out).mono ?_
    rintro e w2 ⟨u, rfl, fo, b2⟩
    rw [HP.out] at fo ⊢
    simp only at fo ⊢
    obtain ⟨ud, uc, rfl⟩ := fo.form
    have b3 := b2.alloc b2.size (.cells #[.slice ud R1.length uc] 28)
    have T3 := hide (T1.out.below b3)
    have F3 := hide (F1.out.below b3)
    have k3 : (w2.alloc (.cells #[.slice ud R1.length uc] 28)).cell? ⟨w.heap.size, 0, none⟩ = some (.slice vd bs.length vc) := T3.out.at 2 0 rfl rfl
    clear b2 b3 fo T1 F1 k1
    cases R2 with
    | false =>
      have HT : Hid (tormF bs (1, b, lf, t) = (bs, false)) := by show _ = _; simp [tormF, HR.out]
      go_wp2_with fail
      generalize w2.alloc (.cells #[.slice ud R1.length uc] 28) = w3 at T3 F3 k3 ⊢
      refine (icopy_b _ bs w3 HS.out F3.out).mono ?_
      rintro e w4 ⟨u2, rfl, fo, b4⟩
      obtain ⟨xd, xc, rfl⟩ := fo.form
      have T4 := hide (T3.out.fla b4 fo)
      have z3 : w.heap.size + 1 + 1 + 1 ≤ w3.heap.size := T3.out.hi 0 rfl
      have n4 : w4.cell? ⟨w.heap.size + 1 + 1, 0, none⟩ = some (.slice none 0 0) := T4.out.at 1 0 rfl rfl
      have f4 := T4.out.fr 1 0 rfl
      have T5 := hide (T4.out.write (hs' := [(w3.heap.size, w4.heap.size, Fla w3.heap.size w4.heap.size (.slice xd bs.length xc) (bs))]) 1 rfl hn (.slice xd bs.length xc) (fun x hx => by rw [List.mem_singleton] at hx; subst hx; exact ⟨List.mem_cons_self .., Or.inr z3⟩))
      clear b4 fo T3 T4 F3 k3
      go_wp2
      exact bodyPost_ret (results_flash2 rfl _ _ (w.heap.size + 1 + 1) _ rfl (T5.out.get 0 rfl)) rfl ⟨_, by rw [HT.out]; rfl, by rw [HT.out]; exact (T5.out.get 1 rfl).of (T5.out.hi 1 rfl) (by omega), T5.out.1⟩
    | true =>
      have HT : Hid (tormF bs (1, b, lf, t) = (tornF bs (1, b, lf, t), true)) := by show _ = _; simp [tormF, HR.out]
      have CT := hide (fun W h => HTB.out W h (by rw [HR.out]))
      unfold ifS at CT
      simp only [if_pos] at CT
      obtain ⟨TB, hTB⟩ : ∃ TB, tornF bs (1, b, lf, t) = TB := ⟨_, rfl⟩
      rw [hTB] at CT HT
      clear hTB
      go_wp2_with fail
      generalize w2.alloc (.cells #[.slice ud R1.length uc] 28) = w3 at T3 F3 k3 ⊢
      refine (CT.out w3 F3.out).mono ?_
      rintro e w4 ⟨u2, rfl, fo, b4⟩
      obtain ⟨xd, xc, rfl⟩ := fo.form
      have T4 := hide (T3.out.fla b4 fo)
      have z3 : w.heap.size + 1 + 1 + 1 ≤ w3.heap.size := T3.out.hi 0 rfl
      have n4 : w4.cell? ⟨w.heap.size + 1 + 1, 0, none⟩ = some (.slice none 0 0) := T4.out.at 1 0 rfl rfl
      have f4 := T4.out.fr 1 0 rfl
      have T5 := hide (T4.out.write (hs' := [(w3.heap.size, w4.heap.size, Fla w3.heap.size w4.heap.size (.slice xd TB.length xc) (TB))]) 1 rfl hn (.slice xd TB.length xc) (fun x hx => by rw [List.mem_singleton] at hx; subst hx; exact ⟨List.mem_cons_self .., Or.inr z3⟩))
      clear b4 fo T3 T4 F3 k3
      go_wp2
      exact bodyPost_ret (results_flash2 rfl _ _ (w.heap.size + 1 + 1) _ rfl (T5.out.get 0 rfl)) rfl ⟨_, by rw [HT.out]; rfl, by rw [HT.out]; exact (T5.out.get 1 rfl).of (T5.out.hi 1 rfl) (by omega), T5.out.1⟩
  · have e1 : (k == 1) = false := by simpa using h1
    rw [if_neg h1] at CS
    by_cases h2 : k = 2
    · subst h2
      rw [if_pos rfl] at CS
      have HP : Hid (wipeF bs b = (R1, R2)) := by show _ = _; rw [← HR.out]; simp [doF]
      have mP := find_doneW b
      have mQ := find_doneLW b
      go_enter Try.func23, Try.ntmps23
      go_wp2_with fail
      generalize ((w.alloc (.cells #[.slice vd bs.length vc] 28)).alloc (.cells #[.int .i64 2, .int .i64 b, .int .i64 lf, .string t] 49)).alloc (.cells #[.slice none 0 0] 28) = w0 at T0 F0 ⊢
      refine (CS.out w0).mono ?_
      rintro e w1 ⟨rfl, b1⟩
      have T1 := hide (T0.out.below b1)
      have F1 := hide (F0.out.below b1)
      have k1 : w1.cell? ⟨w.heap.size, 0, none⟩ = some (.slice vd bs.length vc) := T1.out.at 2 0 rfl rfl
      clear b1 T0 F0
      go_wp2_with fail
      refine (doneW_b _ bs b w1 HS.out F1.out).mono ?_
      rintro e w2 ⟨u, rfl, fo, b2⟩
      rw [HP.out] at fo ⊢
      simp only at fo ⊢
      obtain ⟨ud, uc, rfl⟩ := fo.form
      have b3 := b2.alloc b2.size (.cells #[.slice ud R1.length uc] 28)
      have T3 := hide (T1.out.below b3)
      have F3 := hide (F1.out.below b3)
      have k3 : (w2.alloc (.cells #[.slice ud R1.length uc] 28)).cell? ⟨w.heap.size, 0, none⟩ = some (.slice vd bs.length vc) := T3.out.at 2 0 rfl rfl
      clear b2 b3 fo T1 F1 k1
      cases R2 with
      | false =>
        have HT : Hid (tormF bs (2, b, lf, t) = (bs, false)) := by show _ = _; simp [tormF, HR.out]
        go_wp2_with fail
        generalize w2.alloc (.cells #[.slice ud R1.length uc] 28) = w3 at T3 F3 k3 ⊢
        refine (icopy_b _ bs w3 HS.out F3.out).mono ?_
        rintro e w4 ⟨u2, rfl, fo, b4⟩
        obtain ⟨xd, xc, rfl⟩ := fo.form
        have T4 := hide (T3.out.fla b4 fo)
        have z3 : w.heap.size + 1 + 1 + 1 ≤ w3.heap.size := T3.out.hi 0 rfl
        have n4 : w4.cell? ⟨w.heap.size + 1 + 1, 0, none⟩ = some (.slice none 0 0) := T4.out.at 1 0 rfl rfl
        have f4 := T4.out.fr 1 0 rfl
        have T5 := hide (T4.out.write (hs' := [(w3.heap.size, w4.heap.size, Fla w3.heap.size w4.heap.size (.slice xd bs.length xc) (bs))]) 1 rfl hn (.slice xd bs.length xc) (fun x hx => by rw [List.mem_singleton] at hx; subst hx; exact ⟨List.mem_cons_self .., Or.inr z3⟩))
        clear b4 fo T3 T4 F3 k3
        go_wp2
        exact bodyPost_ret (results_flash2 rfl _ _ (w.heap.size + 1 + 1) _ rfl (T5.out.get 0 rfl)) rfl ⟨_, by rw [HT.out]; rfl, by rw [HT.out]; exact (T5.out.get 1 rfl).of (T5.out.hi 1 rfl) (by omega), T5.out.1⟩
      | true =>
        have HT : Hid (tormF bs (2, b, lf, t) = (tornF bs (2, b, lf, t), true)) := by show _ = _; simp [tormF, HR.out]
        have CT := hide (fun W h => HTB.out W h (by rw [HR.out]))
        unfold ifS at CT
        simp only [if_pos, reduceIte, (by decide : ¬ ((2 : Int) = 1))] at CT
        obtain ⟨TB, hTB⟩ : ∃ TB, tornF bs (2, b, lf, t) = TB := ⟨_, rfl⟩
        rw [hTB] at CT HT
        clear hTB
        go_wp2_with fail
        generalize w2.alloc (.cells #[.slice ud R1.length uc] 28) = w3 at T3 F3 k3 ⊢
        refine (CT.out w3 F3.out).mono ?_
        rintro e w4 ⟨u2, rfl, fo, b4⟩
        obtain ⟨xd, xc, rfl⟩ := fo.form
        have T4 := hide (T3.out.fla b4 fo)
        have z3 : w.heap.size + 1 + 1 + 1 ≤ w3.heap.size := T3.out.hi 0 rfl
        have n4 : w4.cell? ⟨w.heap.size + 1 + 1, 0, none⟩ = some (.slice none 0 0) := T4.out.at 1 0 rfl rfl
        have f4 := T4.out.fr 1 0 rfl
        have T5 := hide (T4.out.write (hs' := [(w3.heap.size, w4.heap.size, Fla w3.heap.size w4.heap.size (.slice xd TB.length xc) (TB))]) 1 rfl hn (.slice xd TB.length xc) (fun x hx => by rw [List.mem_singleton] at hx; subst hx; exact ⟨List.mem_cons_self .., Or.inr z3⟩))
        clear b4 fo T3 T4 F3 k3
        go_wp2
        exact bodyPost_ret (results_flash2 rfl _ _ (w.heap.size + 1 + 1) _ rfl (T5.out.get 0 rfl)) rfl ⟨_, by rw [HT.out]; rfl, by rw [HT.out]; exact (T5.out.get 1 rfl).of (T5.out.hi 1 rfl) (by omega), T5.out.1⟩
    · rw [if_neg h2] at CS
      have HP : Hid ((bs, false) = (R1, R2)) := by show _ = _; rw [← HR.out]; simp [doF, h1, h2]
      obtain ⟨rfl, rfl⟩ := Prod.mk.inj HP.out
      clear h1 h2 e1
      have mP := find_doneN
      have mQ := find_doneLN
      go_enter Try.func23, Try.ntmps23
      go_wp2_with fail
      generalize ((w.alloc (.cells #[.slice vd bs.length vc] 28)).alloc (.cells #[.int .i64 k, .int .i64 b, .int .i64 lf, .string t] 49)).alloc (.cells #[.slice none 0 0] 28) = w0 at T0 F0 ⊢
      refine (CS.out w0).mono ?_
      rintro e w1 ⟨rfl, b1⟩
      have T1 := hide (T0.out.below b1)
      have F1 := hide (F0.out.below b1)
      have k1 : w1.cell? ⟨w.heap.size, 0, none⟩ = some (.slice vd bs.length vc) := T1.out.at 2 0 rfl rfl
      clear b1 T0 F0
      go_wp2_with fail
      refine (doneN_b _ bs w1 HS.out F1.out).mono ?_
      rintro e w2 ⟨u, rfl, fo, b2⟩
      obtain ⟨ud, uc, rfl⟩ := fo.form
      have b3 := b2.alloc b2.size (.cells #[.slice ud bs.length uc] 28)
      have T3 := hide (T1.out.below b3)
      have F3 := hide (F1.out.below b3)
      have k3 : (w2.alloc (.cells #[.slice ud bs.length uc] 28)).cell? ⟨w.heap.size, 0, none⟩ = some (.slice vd bs.length vc) := T3.out.at 2 0 rfl rfl
      clear b2 b3 fo T1 F1 k1
      have HT : Hid (tormF bs (k, b, lf, t) = (bs, false)) := by show _ = _; simp [tormF, HR.out]
      go_wp2_with fail
      generalize w2.alloc (.cells #[.slice ud bs.length uc] 28) = w3 at T3 F3 k3 ⊢
      refine (icopy_b _ bs w3 HS.out F3.out).mono ?_
      rintro e w4 ⟨u2, rfl, fo, b4⟩
      obtain ⟨xd, xc, rfl⟩ := fo.form
      have T4 := hide (T3.out.fla b4 fo)
      have z3 : w.heap.size + 1 + 1 + 1 ≤ w3.heap.size := T3.out.hi 0 rfl
      have n4 : w4.cell? ⟨w.heap.size + 1 + 1, 0, none⟩ = some (.slice none 0 0) := T4.out.at 1 0 rfl rfl
      have f4 := T4.out.fr 1 0 rfl
      have T5 := hide (T4.out.write (hs' := [(w3.heap.size, w4.heap.size, Fla w3.heap.size w4.heap.size (.slice xd bs.length xc) (bs))]) 1 rfl hn (.slice xd bs.length xc) (fun x hx => by rw [List.mem_singleton] at hx; subst hx; exact ⟨List.mem_cons_self .., Or.inr z3⟩))
      clear b4 fo T3 T4 F3 k3
      go_wp2
      exact bodyPost_ret (results_flash2 rfl _ _ (w.heap.size + 1 + 1) _ rfl (T5.out.get 0 rfl)) rfl ⟨_, by rw [HT.out]; rfl, by rw [HT.out]; exact (T5.out.get 1 rfl).of (T5.out.hi 1 rfl) (by omega), T5.out.1⟩
end Go.Proofs.Ytcjgjkejhkhknaa
