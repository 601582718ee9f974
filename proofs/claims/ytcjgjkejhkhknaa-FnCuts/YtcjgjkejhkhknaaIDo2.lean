/-
  impl.DoStep.
-/
import Derived.Test.YtcjgjkejhkhknaaIDo
import Derived.Deep.RegionWith
namespace Go.Proofs.Ytcjgjkejhkhknaa
open Go.RowKit

theorem find_doneP (b lf : Int) (t : ByteArray) (w : World) : Sem.run Try.prog (method 336 143 (.agg #[.int .i64 b, .int .i64 lf, .string t]) "loop.example/g00195/impl.doneOn") w = .ok (175, .agg #[.int .i64 b, .int .i64 lf, .string t]) w := by kernel_rfl
theorem find_doneW (b : Int) (w : World) : Sem.run Try.prog (method 336 145 (.agg #[.int .i64 b]) "loop.example/g00195/impl.doneOn") w = .ok (177, .agg #[.int .i64 b]) w := by kernel_rfl
theorem find_doneN (w : World) : Sem.run Try.prog (method 336 147 (.agg #[]) "loop.example/g00195/impl.doneOn") w = .ok (178, .agg #[]) w := by kernel_rfl
theorem find_doneLP (b lf : Int) (t : ByteArray) (w : World) : Sem.run Try.prog (method (Try.prog.types.size + 100) 143 (.agg #[.int .i64 b, .int .i64 lf, .string t]) "loop.example/g00195/impl.doneOn") w = .ok (175, .agg #[.int .i64 b, .int .i64 lf, .string t]) w := by kernel_rfl
theorem find_doneLW (b : Int) (w : World) : Sem.run Try.prog (method (Try.prog.types.size + 100) 145 (.agg #[.int .i64 b]) "loop.example/g00195/impl.doneOn") w = .ok (177, .agg #[.int .i64 b]) w := by kernel_rfl
theorem find_doneLN (w : World) : Sem.run Try.prog (method (Try.prog.types.size + 100) 147 (.agg #[]) "loop.example/g00195/impl.doneOn") w = .ok (178, .agg #[]) w := by kernel_rfl

set_option maxHeartbeats 800000 in
set_option maxRecDepth 100000 in
theorem ido_b (v : Value) (bs : List Bk) (s : Stp) (w : World) (hs : Sml bs) (ha : RdB w v bs) :
    Calls Try.prog 97 #[.agg #[v], stV s] w fun e w' => ∃ u, e = .returned (.tuple #[.agg #[u], .bool (doF bs s).2]) ∧ FlashOf w' w.heap.size u (doF bs s).1 ∧ Below w.heap.size w w' := by
  obtain ⟨vd, vc, rfl⟩ := ha.form
  obtain ⟨k, b, lf, t⟩ := s
  have CS := hide (stepOf_any (k, b, lf, t))
  unfold stV at CS ⊢
  unfold ifS at CS
  simp only at CS ⊢
  have T0 := hide (Tk.three w #[.slice vd bs.length vc] #[.int .i64 k, .int .i64 b, .int .i64 lf, .string t] #[.slice none 0 0] 28 49 28)
  have F0 := hide (ha.below T0.out.1)
  have HS := hide hs
  obtain ⟨R1, R2, hR⟩ : ∃ R1 R2, doF bs (k, b, lf, t) = (R1, R2) := ⟨_, _, rfl⟩
  have HR := hide hR
  rw [hR]
  clear ha hs hR
  have hn : w.heap.size ≤ w.heap.size + 1 + 1 := by omega
  by_cases h1 : k = 1
  · subst h1
    rw [if_pos rfl] at CS
    have HP : Hid (programF bs b lf t = (R1, R2)) := by show _ = _; rw [← HR.out]; simp [doF]
    have mP := find_doneP b lf t
    go_enter Try.func97, Try.ntmps97
    go_wp2_with fail
    generalize ((w.alloc (.cells #[.slice vd bs.length vc] 28)).alloc (.cells #[.int .i64 1, .int .i64 b, .int .i64 lf, .string t] 49)).alloc (.cells #[.slice none 0 0] 28) = w0 at T0 F0 ⊢
    have k0 : w0.cell? ⟨w.heap.size, 0, none⟩ = some (.slice vd bs.length vc) := T0.out.at 2 0 rfl rfl
    have k1 : w0.cell? ⟨w.heap.size + 1, 0, none⟩ = some (.int .i64 1) := T0.out.at 1 0 rfl rfl
    have k2 : w0.cell? ⟨w.heap.size + 1, 1, none⟩ = some (.int .i64 b) := T0.out.at 1 1 rfl rfl
    have k3 : w0.cell? ⟨w.heap.size + 1, 2, none⟩ = some (.int .i64 lf) := T0.out.at 1 2 rfl rfl
    have k4 : w0.cell? ⟨w.heap.size + 1, 3, none⟩ = some (.string t) := T0.out.at 1 3 rfl rfl
    have T0d := hide T0.out.drew
    have F0d := hide (F0.out.below (Below.refl _ _).drew)
    clear T0 F0
    go_region_with (first
      | (go_at_call 62; (with_reducible refine Calls.mono (CS.out _) ?_); rintro en w1 ⟨rfl, b1⟩; have T1 := hide (T0d.out.below b1); have F1 := hide (F0d.out.below b1); have q0 : w1.cell? ⟨w.heap.size, 0, none⟩ = some (.slice vd bs.length vc) := T1.out.at 2 0 rfl rfl; clear b1)
      | (go_at_call 175; (with_reducible refine Calls.mono (doneP_b _ bs b lf t w1 HS.out F1.out) ?_); rintro en w2 ⟨u, rfl, fo, b2⟩; rw [HP.out] at fo ⊢; simp only at fo ⊢; obtain ⟨ud, uc, rfl⟩ := fo.form; have T2 := hide (T1.out.fla b2 fo); have n2 : w2.cell? ⟨w.heap.size + 1 + 1, 0, none⟩ = some (.slice none 0 0) := T2.out.at 1 0 rfl rfl; have f2 := T2.out.fr 1 0 rfl; clear b2 fo))
    all_goals
      have z1 : w.heap.size + 1 + 1 + 1 ≤ w1.heap.size := T1.out.hi 0 rfl
      have T3 := hide (T2.out.write (hs' := [(w1.heap.size, w2.heap.size, Fla w1.heap.size w2.heap.size (.slice ud R1.length uc) R1)]) 1 rfl hn (.slice ud R1.length uc) (fun x hx => by rw [List.mem_singleton] at hx; subst hx; exact ⟨List.mem_cons_self .., Or.inr z1⟩))
      clear T1 T2 T0d F0d F1 k0 k1 k2 k3 k4 q0 mP n2 f2
      go_wp2
      exact bodyPost_ret (results_flash2 rfl _ _ (w.heap.size + 1 + 1) _ rfl (T3.out.get 0 rfl)) rfl ⟨_, rfl, (T3.out.get 1 rfl).of (T3.out.hi 1 rfl) (by omega), T3.out.1⟩
  · have e1 : (k == 1) = false := by simpa using h1
    rw [if_neg h1] at CS
    by_cases h2 : k = 2
    · subst h2
      rw [if_pos rfl] at CS
      have HP : Hid (wipeF bs b = (R1, R2)) := by show _ = _; rw [← HR.out]; simp [doF]
      have mP := find_doneW b
      go_enter Try.func97, Try.ntmps97
      go_wp2_with fail
      generalize ((w.alloc (.cells #[.slice vd bs.length vc] 28)).alloc (.cells #[.int .i64 2, .int .i64 b, .int .i64 lf, .string t] 49)).alloc (.cells #[.slice none 0 0] 28) = w0 at T0 F0 ⊢
      have k0 : w0.cell? ⟨w.heap.size, 0, none⟩ = some (.slice vd bs.length vc) := T0.out.at 2 0 rfl rfl
      have k1 : w0.cell? ⟨w.heap.size + 1, 0, none⟩ = some (.int .i64 2) := T0.out.at 1 0 rfl rfl
      have k2 : w0.cell? ⟨w.heap.size + 1, 1, none⟩ = some (.int .i64 b) := T0.out.at 1 1 rfl rfl
      have k3 : w0.cell? ⟨w.heap.size + 1, 2, none⟩ = some (.int .i64 lf) := T0.out.at 1 2 rfl rfl
      have k4 : w0.cell? ⟨w.heap.size + 1, 3, none⟩ = some (.string t) := T0.out.at 1 3 rfl rfl
      have T0d := hide T0.out.drew
      have F0d := hide (F0.out.below (Below.refl _ _).drew)
      clear T0 F0
      go_region_with (first
        | (go_at_call 62; (with_reducible refine Calls.mono (CS.out _) ?_); rintro en w1 ⟨rfl, b1⟩; have T1 := hide (T0d.out.below b1); have F1 := hide (F0d.out.below b1); have q0 : w1.cell? ⟨w.heap.size, 0, none⟩ = some (.slice vd bs.length vc) := T1.out.at 2 0 rfl rfl; clear b1)
        | (go_at_call 177; (with_reducible refine Calls.mono (doneW_b _ bs b w1 HS.out F1.out) ?_); rintro en w2 ⟨u, rfl, fo, b2⟩; rw [HP.out] at fo ⊢; simp only at fo ⊢; obtain ⟨ud, uc, rfl⟩ := fo.form; have T2 := hide (T1.out.fla b2 fo); have n2 : w2.cell? ⟨w.heap.size + 1 + 1, 0, none⟩ = some (.slice none 0 0) := T2.out.at 1 0 rfl rfl; have f2 := T2.out.fr 1 0 rfl; clear b2 fo))
      all_goals
        have z1 : w.heap.size + 1 + 1 + 1 ≤ w1.heap.size := T1.out.hi 0 rfl
        have T3 := hide (T2.out.write (hs' := [(w1.heap.size, w2.heap.size, Fla w1.heap.size w2.heap.size (.slice ud R1.length uc) R1)]) 1 rfl hn (.slice ud R1.length uc) (fun x hx => by rw [List.mem_singleton] at hx; subst hx; exact ⟨List.mem_cons_self .., Or.inr z1⟩))
        clear T1 T2 T0d F0d F1 k0 k1 k2 k3 k4 q0 mP n2 f2
        go_wp2
        exact bodyPost_ret (results_flash2 rfl _ _ (w.heap.size + 1 + 1) _ rfl (T3.out.get 0 rfl)) rfl ⟨_, rfl, (T3.out.get 1 rfl).of (T3.out.hi 1 rfl) (by omega), T3.out.1⟩
    · rw [if_neg h2] at CS
      have HP : Hid ((bs, false) = (R1, R2)) := by show _ = _; rw [← HR.out]; simp [doF, h1, h2]
      obtain ⟨rfl, rfl⟩ := Prod.mk.inj HP.out
      clear h1 h2 e1
      have mP := find_doneN
      go_enter Try.func97, Try.ntmps97
      go_wp2_with fail
      generalize ((w.alloc (.cells #[.slice vd bs.length vc] 28)).alloc (.cells #[.int .i64 k, .int .i64 b, .int .i64 lf, .string t] 49)).alloc (.cells #[.slice none 0 0] 28) = w0 at T0 F0 ⊢
      have k0 : w0.cell? ⟨w.heap.size, 0, none⟩ = some (.slice vd bs.length vc) := T0.out.at 2 0 rfl rfl
      have k1 : w0.cell? ⟨w.heap.size + 1, 0, none⟩ = some (.int .i64 k) := T0.out.at 1 0 rfl rfl
      have k2 : w0.cell? ⟨w.heap.size + 1, 1, none⟩ = some (.int .i64 b) := T0.out.at 1 1 rfl rfl
      have k3 : w0.cell? ⟨w.heap.size + 1, 2, none⟩ = some (.int .i64 lf) := T0.out.at 1 2 rfl rfl
      have k4 : w0.cell? ⟨w.heap.size + 1, 3, none⟩ = some (.string t) := T0.out.at 1 3 rfl rfl
      have T0d := hide T0.out.drew
      have F0d := hide (F0.out.below (Below.refl _ _).drew)
      clear T0 F0
      go_region_with (first
        | (go_at_call 62; (with_reducible refine Calls.mono (CS.out _) ?_); rintro en w1 ⟨rfl, b1⟩; have T1 := hide (T0d.out.below b1); have F1 := hide (F0d.out.below b1); have q0 : w1.cell? ⟨w.heap.size, 0, none⟩ = some (.slice vd bs.length vc) := T1.out.at 2 0 rfl rfl; clear b1)
        | (go_at_call 178; (with_reducible refine Calls.mono (doneN_b _ bs w1 HS.out F1.out) ?_); rintro en w2 ⟨u, rfl, fo, b2⟩; obtain ⟨ud, uc, rfl⟩ := fo.form; have T2 := hide (T1.out.fla b2 fo); have n2 : w2.cell? ⟨w.heap.size + 1 + 1, 0, none⟩ = some (.slice none 0 0) := T2.out.at 1 0 rfl rfl; have f2 := T2.out.fr 1 0 rfl; clear b2 fo))
      all_goals
        have z1 : w.heap.size + 1 + 1 + 1 ≤ w1.heap.size := T1.out.hi 0 rfl
        have T3 := hide (T2.out.write (hs' := [(w1.heap.size, w2.heap.size, Fla w1.heap.size w2.heap.size (.slice ud bs.length uc) bs)]) 1 rfl hn (.slice ud bs.length uc) (fun x hx => by rw [List.mem_singleton] at hx; subst hx; exact ⟨List.mem_cons_self .., Or.inr z1⟩))
        clear T1 T2 T0d F0d F1 k0 k1 k2 k3 k4 q0 mP n2 f2
        go_wp2
        exact bodyPost_ret (results_flash2 rfl _ _ (w.heap.size + 1 + 1) _ rfl (T3.out.get 0 rfl)) rfl ⟨_, rfl, (T3.out.get 1 rfl).of (T3.out.hi 1 rfl) (by omega), T3.out.1⟩
end Go.Proofs.Ytcjgjkejhkhknaa
