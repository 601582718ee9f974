/-
  FnExactFlashNew.
-/
import Derived.Test.YtcfkbemlldfnnamLawM
import Derived.Test.YtcfkbemlldfnnamSNew
import Derived.Test.YtcfkbemlldfnnamINew
namespace Go.Proofs.Ytcfkbemlldfnnam
open Go.RowKit

theorem Trk.none (w : World) : Trk w w [] [] [] := ⟨Below.refl _ _, fun c hc => (by cases hc), fun f hf => (by cases hf), fun f hf => (by cases hf)⟩
theorem endK_rep (k m : Nat) : endK k (List.replicate m (false, 0, blank4)) = k + 10 * m := by
  induction m generalizing k with
  | zero => rfl
  | succ m ih =>
    rw [List.replicate_succ]
    simp only [endK]
    rw [ih]
    show k + 2 + 2 * 4 + 10 * m = _
    omega
theorem newF_ok (n : Int) : Okk (newF n) := by
  unfold newF
  split
  · rename_i h
    refine ⟨by rw [List.length_replicate]; omega, fun r hr => ?_, by rw [endK_rep]; omega⟩
    rw [(List.mem_replicate.1 hr).2]
    show 4 ≤ 1048576
    omega
  · refine ⟨by simp, fun r hr => (by cases hr), by show 1 ≤ _; omega⟩
theorem snew_trk {w wi : World} {cs : List (Nat × Value × TypeId)} {fs : List (Nat × Nat × Value × List Bk)} {ms : List (Nat × Nat × Value × Nat)} {n : Int} {R1 : List Bk} {R2 : Bool} (T : Trk w wi cs fs ms) (h1 : newF n = R1) (h2 : decide (3 ≤ n ∧ n ≤ 10) = R2) :
    Calls Try.prog 22 #[.int .i64 n] wi fun e w' => ∃ ad c, e = .returned (.tuple #[.agg #[.slice ad R1.length c], .bool R2]) ∧ Trk w w' cs ((wi.heap.size, w'.heap.size, .slice ad R1.length c, R1) :: fs) ms ∧ wi.heap.size ≤ w'.heap.size := by
  refine (snew_any n wi).mono ?_
  rintro e w2 ⟨u1, rfl, f1, b2⟩
  rw [h1] at f1
  rw [h2]
  have T2 := T.add b2 f1
  obtain ⟨ad1, cap1, rfl⟩ := f1.form
  exact ⟨ad1, cap1, rfl, T2, b2.size⟩
theorem inew_trk {w wi : World} {cs : List (Nat × Value × TypeId)} {fs : List (Nat × Nat × Value × List Bk)} {ms : List (Nat × Nat × Value × Nat)} {n : Int} {R1 : List Bk} {R2 : Bool} (T : Trk w wi cs fs ms) (h1 : newF n = R1) (h2 : decide (3 ≤ n ∧ n ≤ 10) = R2) :
    Calls Try.prog 23 #[.int .i64 n] wi fun e w' => ∃ ad c, e = .returned (.tuple #[.agg #[.slice ad R1.length c], .bool R2]) ∧ Trk w w' cs ((wi.heap.size, w'.heap.size, .slice ad R1.length c, R1) :: fs) ms ∧ wi.heap.size ≤ w'.heap.size := by
  refine (inew_any n wi).mono ?_
  rintro e w2 ⟨u1, rfl, f1, b2⟩
  rw [h1] at f1
  rw [h2]
  have T2 := T.add b2 f1
  obtain ⟨ad1, cap1, rfl⟩ := f1.form
  exact ⟨ad1, cap1, rfl, T2, b2.size⟩

set_option maxHeartbeats 800000 in
set_option maxRecDepth 100000 in
theorem lawNew_any (n : Int) (w : World) :
    Calls Try.prog 7 #[.int .i64 n] w fun e w' => e = .returned (.bool true) ∧ Below w.heap.size w w' := by
  obtain ⟨R1, hR1⟩ : ∃ R1, newF n = R1 := ⟨_, rfl⟩
  obtain ⟨R2, hR2⟩ : ∃ R2, decide (3 ≤ n ∧ n ≤ 10) = R2 := ⟨_, rfl⟩
  have hor := newF_ok n
  rw [hR1] at hor
  obtain ⟨N, hN⟩ : ∃ N, endK 1 R1 = N := ⟨_, rfl⟩
  have hN9 := hor.2.2
  rw [hN] at hN9
  have HN := hide hN
  have HOR := hide hor
  have H1 := hide hR1
  have H2 := hide hR2
  have hne : (R2 != R2) = false := by simp
  have hN0 : (0 : Int) ≤ ((N : Nat) : Int) := by omega
  have hNN : (((N : Nat) : Int) != ((N : Nat) : Int)) = false := by simp
  clear hR1 hR2 hor hN
  go_enter Try.func7, Try.ntmps7
  go_wp2_with fail
  refine (snew_trk (Trk.none w) H1.out H2.out).mono ?_
  rintro e w3 ⟨ad3, cap3, rfl, t3, s3⟩
  have T3 := hide (t3.cell (.slice ad3 R1.length cap3) 36)
  have HZ3 := hide (show (w3.alloc (.cells #[.slice ad3 R1.length cap3] 36)).heap.size = w3.heap.size + 1 by simp)
  clear t3
  go_wp2_with fail
  generalize w3.alloc (.cells #[.slice ad3 R1.length cap3] 36) = w4a at T3 HZ3 ⊢
  refine (inew_trk T3.out H1.out H2.out).mono ?_
  rintro e w5 ⟨ad5, cap5, rfl, t5, s5⟩
  have T5 := hide (t5.cell (.slice ad5 R1.length cap5) 36)
  have k5 : (w5.alloc (.cells #[.slice ad5 R1.length cap5] 36)).cell? ⟨w3.heap.size, 0, none⟩ = some (.slice ad3 R1.length cap3) := T5.out.at 1 rfl
  clear t5 T3
  go_wp2_with fail
  generalize w5.alloc (.cells #[.slice ad5 R1.length cap5] 36) = w5a at T5 k5 ⊢
  refine (eq_trk T5.out 0 1 HOR.out rfl rfl).mono ?_
  rintro e w10 ⟨rfl, t10, -⟩
  have g10 : w10.cell? ⟨w5.heap.size, 0, none⟩ = some (.slice ad5 R1.length cap5) := t10.at 0 rfl
  have T10 := hide t10
  have T10s := hide (t10.drop (fs' := [(w.heap.size, w3.heap.size, .slice ad3 R1.length cap3, R1)]) (fun c h => h) (fun f hf => by
    rw [List.mem_singleton] at hf
    subst hf
    exact List.mem_of_getElem? (i := 1) rfl))
  have hcs : ∀ c ∈ [(w5.heap.size, Value.slice ad5 R1.length cap5, 36), (w3.heap.size, Value.slice ad3 R1.length cap3, 36)], c.1 < w4a.heap.size ∨ w5.heap.size ≤ c.1 := by
    have z3 := HZ3.out
    intro c hc
    simp only [List.mem_cons, List.not_mem_nil, or_false] at hc
    rcases hc with rfl | rfl <;> simp only <;> omega
  have hf2 : ∀ f ∈ [(w.heap.size, w3.heap.size, Value.slice ad3 R1.length cap3, R1)], f.2.1 ≤ w4a.heap.size ∨ w5.heap.size ≤ f.1 := by
    have z3 := HZ3.out
    intro c hc
    rw [List.mem_singleton] at hc
    subst hc
    simp only
    omega
  have hlo2 : w.heap.size ≤ w4a.heap.size := by have := HZ3.out; omega
  have HCS := hide hcs
  have HF2 := hide hf2
  clear t10 T5 k5 hcs hf2
  go_wp2_with fail
  refine (mark_of _ R1 _ _ _ HOR.out (T10.out.fl 0 rfl)).mono ?_
  rintro e w11 ⟨rfl, M11, K11⟩
  rw [HN.out] at M11
  rw [HN.out]
  have T11 := hide (Trk.mark T10s.out K11.out M11.out (T10.out.fl 0 rfl).1 hlo2 HCS.out HF2.out (fun f hf => by cases hf))
  have g11 : w11.cell? ⟨w5.heap.size, 0, none⟩ = some (.slice ad5 R1.length cap5) := T11.out.at 0 rfl
  clear M11 K11 T10 T10s g10 HF2 HCS
  go_wp2_with fail
  refine (held_of _ N _ _ _ hN9 (T11.out.mk 0 rfl)).mono ?_
  rintro e w12 ⟨rfl, b12⟩
  have T12 := hide (T11.out.below b12)
  clear b12 T11 g11
  go_wp2_with fail
  refine (inew_trk T12.out H1.out H2.out).mono ?_
  rintro e w14 ⟨ad14, cap14, rfl, t14, -⟩
  have T14 := hide (t14.cell (.slice ad14 R1.length cap14) 36)
  have v14 : (w14.alloc (.cells #[.slice ad14 R1.length cap14] 36)).cell? ⟨w3.heap.size, 0, none⟩ = some (.slice ad3 R1.length cap3) := T14.out.at 2 rfl
  clear t14 T12
  go_wp2_with fail
  generalize w14.alloc (.cells #[.slice ad14 R1.length cap14] 36) = w14a at T14 v14 ⊢
  refine (eq_trk T14.out 0 1 HOR.out rfl rfl).mono ?_
  rintro e w15 ⟨rfl, t15, -⟩
  have g15 : w15.cell? ⟨w5.heap.size, 0, none⟩ = some (.slice ad5 R1.length cap5) := t15.at 1 rfl
  have T15 := hide t15
  clear t15 T14 v14
  go_wp2_with fail
  refine (held_of _ N _ _ _ hN9 (T15.out.mk 0 rfl)).mono ?_
  rintro e w16 ⟨rfl, b16⟩
  have T16 := hide (T15.out.below b16)
  clear b16 T15 g15
  go_wp2
  go_ret
  exact ⟨rfl, T16.out.1⟩
end Go.Proofs.Ytcfkbemlldfnnam
