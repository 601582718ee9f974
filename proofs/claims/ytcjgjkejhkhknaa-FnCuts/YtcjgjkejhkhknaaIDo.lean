/-
  impl.stepOf and the steps' doneOn; impl.DoStep.
-/
import Derived.Test.YtcjgjkejhkhknaaPq88
import Derived.Deep.RegionWith
namespace Go.Proofs.Ytcjgjkejhkhknaa
open Go.RowKit

/-- A step behind the program's interface. -/
def ifS (s : Stp) : Value := if s.1 = 1 then .iface 143 (.agg #[.int .i64 s.2.1, .int .i64 s.2.2.1, .string s.2.2.2]) else if s.1 = 2 then .iface 145 (.agg #[.int .i64 s.2.1]) else .iface 147 (.agg #[])
set_option maxHeartbeats 400000 in
set_option maxRecDepth 100000 in
theorem stepOf_any (s : Stp) (w : World) :
    Calls Try.prog 62 #[stV s] w fun e w' => e = .returned (ifS s) ∧ Below w.heap.size w w' := by
  obtain ⟨k, b, lf, t⟩ := s
  unfold stV ifS
  simp only
  have HB := hide ((Below.refl w.heap.size w).alloc (Nat.le_refl _) (.cells #[.int .i64 k, .int .i64 b, .int .i64 lf, .string t] 49))
  by_cases h1 : k = 1
  · subst h1
    rw [if_pos rfl]
    go_enter Try.func62, Try.ntmps62
    go_wp2
    go_ret
    exact ⟨rfl, HB.out⟩
  · have e1 : (k == 1) = false := by simpa using h1
    rw [if_neg h1]
    by_cases h2 : k = 2
    · subst h2
      rw [if_pos rfl]
      go_enter Try.func62, Try.ntmps62
      go_wp2
      go_ret
      exact ⟨rfl, HB.out⟩
    · have e2 : (k == 2) = false := by simpa using h2
      rw [if_neg h2]
      clear h1 h2
      go_enter Try.func62, Try.ntmps62
      go_wp2
      go_ret
      exact ⟨rfl, HB.out⟩

set_option maxHeartbeats 400000 in
set_option maxRecDepth 100000 in
theorem doneP_b (v : Value) (bs : List Bk) (b lf : Int) (t : ByteArray) (w : World) (hs : Sml bs) (ha : RdB w v bs) :
    Calls Try.prog 175 #[.agg #[.int .i64 b, .int .i64 lf, .string t], .agg #[v]] w fun e w' => ∃ u, e = .returned (.tuple #[.agg #[u], .bool (programF bs b lf t).2]) ∧ FlashOf w' w.heap.size u (programF bs b lf t).1 ∧ Below w.heap.size w w' := by
  obtain ⟨vd, vc, rfl⟩ := ha.form
  have T0 := hide (Tk.three w #[.int .i64 b, .int .i64 lf, .string t] #[.slice vd bs.length vc] #[.slice none 0 0] 143 28 28)
  have F0 := hide (ha.below T0.out.1)
  have HS := hide hs
  obtain ⟨R1, R2, hR⟩ : ∃ R1 R2, programF bs b lf t = (R1, R2) := ⟨_, _, rfl⟩
  have HP := hide hR
  rw [hR]
  clear ha hs hR
  have hn : w.heap.size ≤ w.heap.size + 1 + 1 := by omega
  go_enter Try.func175, Try.ntmps175
  go_wp2_with fail
  generalize ((w.alloc (.cells #[.int .i64 b, .int .i64 lf, .string t] 143)).alloc (.cells #[.slice vd bs.length vc] 28)).alloc (.cells #[.slice none 0 0] 28) = w0 at T0 F0 ⊢
  refine (iprog_b _ bs b lf t w0 HS.out F0.out).mono ?_
  rintro e w1 ⟨u, rfl, fo, b1⟩
  rw [HP.out] at fo ⊢
  simp only at fo ⊢
  obtain ⟨ud, uc, rfl⟩ := fo.form
  have T1 := hide (T0.out.fla b1 fo)
  have z0 : w.heap.size + 1 + 1 + 1 ≤ w0.heap.size := T0.out.hi 0 rfl
  have n1 : w1.cell? ⟨w.heap.size + 1 + 1, 0, none⟩ = some (.slice none 0 0) := T1.out.at 1 0 rfl rfl
  have f1 := T1.out.fr 1 0 rfl
  have T2 := hide (T1.out.write (hs' := [(w0.heap.size, w1.heap.size, Fla w0.heap.size w1.heap.size (.slice ud R1.length uc) R1)]) 1 rfl hn (.slice ud R1.length uc) (fun x hx => by rw [List.mem_singleton] at hx; subst hx; exact ⟨List.mem_cons_self .., Or.inr z0⟩))
  clear b1 fo T0 T1
  go_wp2
  exact bodyPost_ret (results_flash2 rfl _ _ (w.heap.size + 1 + 1) _ rfl (T2.out.get 0 rfl)) rfl ⟨_, rfl, (T2.out.get 1 rfl).of (T2.out.hi 1 rfl) (by omega), T2.out.1⟩
set_option maxHeartbeats 400000 in
set_option maxRecDepth 100000 in
theorem doneW_b (v : Value) (bs : List Bk) (b : Int) (w : World) (hs : Sml bs) (ha : RdB w v bs) :
    Calls Try.prog 177 #[.agg #[.int .i64 b], .agg #[v]] w fun e w' => ∃ u, e = .returned (.tuple #[.agg #[u], .bool (wipeF bs b).2]) ∧ FlashOf w' w.heap.size u (wipeF bs b).1 ∧ Below w.heap.size w w' := by
  obtain ⟨vd, vc, rfl⟩ := ha.form
  have T0 := hide (Tk.three w #[.int .i64 b] #[.slice vd bs.length vc] #[.slice none 0 0] 145 28 28)
  have F0 := hide (ha.below T0.out.1)
  have HS := hide hs
  obtain ⟨R1, R2, hR⟩ : ∃ R1 R2, wipeF bs b = (R1, R2) := ⟨_, _, rfl⟩
  have HP := hide hR
  rw [hR]
  clear ha hs hR
  have hn : w.heap.size ≤ w.heap.size + 1 + 1 := by omega
  go_enter Try.func177, Try.ntmps177
  go_wp2_with fail
  generalize ((w.alloc (.cells #[.int .i64 b] 145)).alloc (.cells #[.slice vd bs.length vc] 28)).alloc (.cells #[.slice none 0 0] 28) = w0 at T0 F0 ⊢
  refine (iwipe_b _ bs b w0 HS.out F0.out).mono ?_
  rintro e w1 ⟨u, rfl, fo, b1⟩
  rw [HP.out] at fo ⊢
  simp only at fo ⊢
  obtain ⟨ud, uc, rfl⟩ := fo.form
  have T1 := hide (T0.out.fla b1 fo)
  have z0 : w.heap.size + 1 + 1 + 1 ≤ w0.heap.size := T0.out.hi 0 rfl
  have n1 : w1.cell? ⟨w.heap.size + 1 + 1, 0, none⟩ = some (.slice none 0 0) := T1.out.at 1 0 rfl rfl
  have f1 := T1.out.fr 1 0 rfl
  have T2 := hide (T1.out.write (hs' := [(w0.heap.size, w1.heap.size, Fla w0.heap.size w1.heap.size (.slice ud R1.length uc) R1)]) 1 rfl hn (.slice ud R1.length uc) (fun x hx => by rw [List.mem_singleton] at hx; subst hx; exact ⟨List.mem_cons_self .., Or.inr z0⟩))
  clear b1 fo T0 T1
  go_wp2
  exact bodyPost_ret (results_flash2 rfl _ _ (w.heap.size + 1 + 1) _ rfl (T2.out.get 0 rfl)) rfl ⟨_, rfl, (T2.out.get 1 rfl).of (T2.out.hi 1 rfl) (by omega), T2.out.1⟩
set_option maxHeartbeats 400000 in
set_option maxRecDepth 100000 in
theorem doneN_b (v : Value) (bs : List Bk) (w : World) (hs : Sml bs) (ha : RdB w v bs) :
    Calls Try.prog 178 #[.agg #[], .agg #[v]] w fun e w' => ∃ u, e = .returned (.tuple #[.agg #[u], .bool false]) ∧ FlashOf w' w.heap.size u bs ∧ Below w.heap.size w w' := by
  obtain ⟨vd, vc, rfl⟩ := ha.form
  have T0 := hide (Tk.three w #[] #[.slice vd bs.length vc] #[.slice none 0 0] 147 28 28)
  have F0 := hide (ha.below T0.out.1)
  have HS := hide hs
  clear ha hs
  have hn : w.heap.size ≤ w.heap.size + 1 + 1 := by omega
  go_enter Try.func178, Try.ntmps178
  go_wp2_with fail
  generalize ((w.alloc (.cells #[] 147)).alloc (.cells #[.slice vd bs.length vc] 28)).alloc (.cells #[.slice none 0 0] 28) = w0 at T0 F0 ⊢
  refine (icopy_b _ bs w0 HS.out F0.out).mono ?_
  rintro e w1 ⟨u, rfl, fo, b1⟩
  obtain ⟨ud, uc, rfl⟩ := fo.form
  have T1 := hide (T0.out.fla b1 fo)
  have z0 : w.heap.size + 1 + 1 + 1 ≤ w0.heap.size := T0.out.hi 0 rfl
  have n1 : w1.cell? ⟨w.heap.size + 1 + 1, 0, none⟩ = some (.slice none 0 0) := T1.out.at 1 0 rfl rfl
  have f1 := T1.out.fr 1 0 rfl
  have T2 := hide (T1.out.write (hs' := [(w0.heap.size, w1.heap.size, Fla w0.heap.size w1.heap.size (.slice ud bs.length uc) bs)]) 1 rfl hn (.slice ud bs.length uc) (fun x hx => by rw [List.mem_singleton] at hx; subst hx; exact ⟨List.mem_cons_self .., Or.inr z0⟩))
  clear b1 fo T0 T1
  go_wp2
  exact bodyPost_ret (results_flash2 rfl _ _ (w.heap.size + 1 + 1) _ rfl (T2.out.get 0 rfl)) rfl ⟨_, rfl, (T2.out.get 1 rfl).of (T2.out.hi 1 rfl) (by omega), T2.out.1⟩
end Go.Proofs.Ytcjgjkejhkhknaa
