/-
  spec.DoStep.
-/
import Derived.Test.YthgfhjfnlecolapStRd
namespace Go.Proofs.Ythgfhjfnlecolap
open Go.RowKit

set_option maxHeartbeats 800000 in
set_option maxRecDepth 100000 in
theorem sdo_b (v : Value) (bs : List Bk) (s : Stp) (w : World) (hs : Sml bs) (ha : RdB w v bs) :
    Calls Try.prog 17 #[.agg #[v], stV s] w fun e w' => ∃ u, e = .returned (.tuple #[.agg #[u], .bool (doF bs s).2]) ∧ FlashOf w' w.heap.size u (doF bs s).1 ∧ Below w.heap.size w w' := by
  obtain ⟨vd, vc, rfl⟩ := ha.form
  obtain ⟨k, b, lf, t⟩ := s
  unfold stV
  simp only
  have T0 := hide (Tk.three w #[.slice vd bs.length vc] #[.int .i64 k, .int .i64 b, .int .i64 lf, .string t] #[.slice none 0 0] 30 40 30)
  have F0 := hide (ha.below T0.out.1)
  have HS := hide hs
  obtain ⟨R1, R2, hR⟩ : ∃ R1 R2, doF bs (k, b, lf, t) = (R1, R2) := ⟨_, _, rfl⟩
  have HR := hide hR
  rw [hR]
  clear ha hs hR
  have hn : w.heap.size ≤ w.heap.size + 1 + 1 := by omega
  by_cases h1 : k = 1
  · subst h1
    have HP : Hid (programF bs b lf t = (R1, R2)) := by show _ = _; rw [← HR.out]; simp [doF]
    go_enter Try.func17, Try.ntmps17
    go_wp2_with fail
    generalize ((w.alloc (.cells #[.slice vd bs.length vc] 30)).alloc (.cells #[.int .i64 1, .int .i64 b, .int .i64 lf, .string t] 40)).alloc (.cells #[.slice none 0 0] 30) = w0 at T0 F0 ⊢
    refine (sprog_b _ bs b lf t w0 HS.out F0.out).mono ?_
    rintro e w1 ⟨u, rfl, fo, b1⟩
    rw [HP.out] at fo ⊢
    simp only at fo ⊢
    obtain ⟨ud, uc, rfl⟩ := fo.form
    have T1 := hide (T0.out.fla b1 fo)
    have z0 : w.heap.size + 1 + 1 + 1 ≤ w0.heap.size := T0.out.hi 0 rfl
    have n1 : w1.cell? ⟨w.heap.size + 1 + 1, 0, none⟩ = some (.slice none 0 0) := T1.out.at 1 0 rfl rfl
    have f1 := T1.out.fr 1 0 rfl
    have T2 := hide (T1.out.write (hs' := [(w0.heap.size, w1.heap.size, Fla w0.heap.size w1.heap.size (.slice ud R1.length uc) R1)]) 1 rfl hn (.slice ud R1.length uc) (fun x hx => by rw [List.mem_singleton] at hx; subst hx; exact ⟨List.mem_cons_self .., Or.inr z0⟩))
    clear b1 fo T0 T1
    go_wp2
    exact bodyPost_ret (results_flash2 rfl _ _ (w.heap.size + 1 + 1) _ rfl (T2.out.get 0 rfl)) rfl ⟨_, rfl, (T2.out.get 1 rfl).of (T2.out.hi 1 rfl) (by omega), T2.out.1⟩
  · have e1 : (k == 1) = false := by simpa using h1
    by_cases h2 : k = 2
    · subst h2
      have HP : Hid (wipeF bs b = (R1, R2)) := by show _ = _; rw [← HR.out]; simp [doF]
      go_enter Try.func17, Try.ntmps17
      go_wp2_with fail
      generalize ((w.alloc (.cells #[.slice vd bs.length vc] 30)).alloc (.cells #[.int .i64 2, .int .i64 b, .int .i64 lf, .string t] 40)).alloc (.cells #[.slice none 0 0] 30) = w0 at T0 F0 ⊢
      refine (swipe_b _ bs b w0 HS.out F0.out).mono ?_
      rintro e w1 ⟨u, rfl, fo, b1⟩
      rw [HP.out] at fo ⊢
      simp only at fo ⊢
      obtain ⟨ud, uc, rfl⟩ := fo.form
      have T1 := hide (T0.out.fla b1 fo)
      have z0 : w.heap.size + 1 + 1 + 1 ≤ w0.heap.size := T0.out.hi 0 rfl
      have n1 : w1.cell? ⟨w.heap.size + 1 + 1, 0, none⟩ = some (.slice none 0 0) := T1.out.at 1 0 rfl rfl
      have f1 := T1.out.fr 1 0 rfl
      have T2 := hide (T1.out.write (hs' := [(w0.heap.size, w1.heap.size, Fla w0.heap.size w1.heap.size (.slice ud R1.length uc) R1)]) 1 rfl hn (.slice ud R1.length uc) (fun x hx => by rw [List.mem_singleton] at hx; subst hx; exact ⟨List.mem_cons_self .., Or.inr z0⟩))
      clear b1 fo T0 T1
      go_wp2
      exact bodyPost_ret (results_flash2 rfl _ _ (w.heap.size + 1 + 1) _ rfl (T2.out.get 0 rfl)) rfl ⟨_, rfl, (T2.out.get 1 rfl).of (T2.out.hi 1 rfl) (by omega), T2.out.1⟩
    · have e2 : (k == 2) = false := by simpa using h2
      have HP : Hid ((bs, false) = (R1, R2)) := by show _ = _; rw [← HR.out]; simp [doF, h1, h2]
      obtain ⟨rfl, rfl⟩ := Prod.mk.inj HP.out
      clear h1 h2
      go_enter Try.func17, Try.ntmps17
      go_wp2_with fail
      generalize ((w.alloc (.cells #[.slice vd bs.length vc] 30)).alloc (.cells #[.int .i64 k, .int .i64 b, .int .i64 lf, .string t] 40)).alloc (.cells #[.slice none 0 0] 30) = w0 at T0 F0 ⊢
      refine (scopy_b _ bs w0 HS.out F0.out).mono ?_
      rintro e w1 ⟨u, rfl, fo, b1⟩
      obtain ⟨ud, uc, rfl⟩ := fo.form
      have T1 := hide (T0.out.fla b1 fo)
      have z0 : w.heap.size + 1 + 1 + 1 ≤ w0.heap.size := T0.out.hi 0 rfl
      have n1 : w1.cell? ⟨w.heap.size + 1 + 1, 0, none⟩ = some (.slice none 0 0) := T1.out.at 1 0 rfl rfl
      have f1 := T1.out.fr 1 0 rfl
      have T2 := hide (T1.out.write (hs' := [(w0.heap.size, w1.heap.size, Fla w0.heap.size w1.heap.size (.slice ud bs.length uc) bs)]) 1 rfl hn (.slice ud bs.length uc) (fun x hx => by rw [List.mem_singleton] at hx; subst hx; exact ⟨List.mem_cons_self .., Or.inr z0⟩))
      clear b1 fo T0 T1
      go_wp2
      exact bodyPost_ret (results_flash2 rfl _ _ (w.heap.size + 1 + 1) _ rfl (T2.out.get 0 rfl)) rfl ⟨_, rfl, (T2.out.get 1 rfl).of (T2.out.hi 1 rfl) (by omega), T2.out.1⟩
end Go.Proofs.Ythgfhjfnlecolap
