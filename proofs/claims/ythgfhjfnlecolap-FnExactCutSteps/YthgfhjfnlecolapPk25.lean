/-
  SDo; StRow
-/
import Derived.Test.YthgfhjfnlecolapStRd
import Derived.Test.YthgfhjfnlecolapStMath
import Derived.Test.YthgfhjfnlecolapPk5
/-
  spec.DoStep.
-/
namespace Go.Proofs.Ythgfhjfnlecolap
open Go.RowKit

set_option maxHeartbeats 800000 in
set_option maxRecDepth 100000 in
theorem sdo_b (v : Value) (bs : List Bk) (s : Stp) (w : World) (hs : Sml bs) (ha : RdB w v bs) :
    Calls Try.prog 17 #[.agg #[v], stV s] w fun e w' => ∃ u, e = .returned (.tuple #[.agg #[u], .bool (doF bs s).2]) ∧ FlashOf w' w.heap.size u (doF bs s).1 ∧ Below w.heap.size w w' := by
  obtain ⟨vd, vc, rfl⟩ := ha.form
  obtain ⟨k, b, lf, t⟩ := s
  unfold stV
  simp only
  have T0 := hide (Tk.three w #[.slice vd bs.length vc] #[.int .i64 k, .int .i64 b, .int .i64 lf, .string t] #[.slice none 0 0] 30 40 30)
  have F0 := hide (ha.below T0.out.1)
  have HS := hide hs
  obtain ⟨R1, R2, hR⟩ : ∃ R1 R2, doF bs (k, b, lf, t) = (R1, R2) := ⟨_, _, rfl⟩
  have HR := hide hR
  rw [hR]
  clear ha hs hR
  have hn : w.heap.size ≤ w.heap.size + 1 + 1 := by omega
  by_cases h1 : k = 1
  · subst h1
    have HP : Hid (programF bs b lf t = (R1, R2)) := by show _ = _; rw [← HR.out]; simp [doF]
    go_enter Try.func17, Try.ntmps17
    go_wp2_with fail
    generalize ((w.alloc (.cells #[.slice vd bs.length vc] 30)).alloc (.cells #[.int .i64 1, .int .i64 b, .int .i64 lf, .string t] 40)).alloc (.cells #[.slice none 0 0] 30) = w0 at T0 F0 ⊢
    refine (sprog_b _ bs b lf t w0 HS.out F0.out).mono ?_
    rintro e w1 ⟨u, rfl, fo, b1⟩
    rw [HP.out] at fo ⊢
    simp only at fo ⊢
    obtain ⟨ud, uc, rfl⟩ := fo.form
    have T1 := hide (T0.out.fla b1 fo)
    have z0 : w.heap.size + 1 + 1 + 1 ≤ w0.heap.size := T0.out.hi 0 rfl
    have n1 : w1.cell? ⟨w.heap.size + 1 + 1, 0, none⟩ = some (.slice none 0 0) := T1.out.at 1 0 rfl rfl
    have f1 := T1.out.fr 1 0 rfl
    have T2 := hide (T1.out.write (hs' := [(w0.heap.size, w1.heap.size, Fla w0.heap.size w1.heap.size (.slice ud R1.length uc) R1)]) 1 rfl hn (.slice ud R1.length uc) (fun x hx => by rw [List.mem_singleton] at hx; subst hx; exact ⟨List.mem_cons_self .., Or.inr z0⟩))
    clear b1 fo T0 T1
    go_wp2
    exact bodyPost_ret (results_flash2 rfl _ _ (w.heap.size + 1 + 1) _ rfl (T2.out.get 0 rfl)) rfl ⟨_, rfl, (T2.out.get 1 rfl).of (T2.out.hi 1 rfl) (by omega), T2.out.1⟩
  · have e1 : (k == 1) = false := by simpa using h1
    by_cases h2 : k = 2
    · subst h2
      have HP : Hid (wipeF bs b = (R1, R2)) := by show _ = _; rw [← HR.out]; simp [doF]
      go_enter Try.func17, Try.ntmps17
      go_wp2_with fail
      generalize ((w.alloc (.cells #[.slice vd bs.length vc] 30)).alloc (.cells #[.int .i64 2, .int .i64 b, .int .i64 lf, .string t] 40)).alloc (.cells #[.slice none 0 0] 30) = w0 at T0 F0 ⊢
      refine (swipe_b _ bs b w0 HS.out F0.out).mono ?_
      rintro e w1 ⟨u, rfl, fo, b1⟩
      rw [HP.out] at fo ⊢
      simp only at fo ⊢
      obtain ⟨ud, uc, rfl⟩ := fo.form
      have T1 := hide (T0.out.fla b1 fo)
      have z0 : w.heap.size + 1 + 1 + 1 ≤ w0.heap.size := T0.out.hi 0 rfl
      have n1 : w1.cell? ⟨w.heap.size + 1 + 1, 0, none⟩ = some (.slice none 0 0) := T1.out.at 1 0 rfl rfl
      have f1 := T1.out.fr 1 0 rfl
      have T2 := hide (T1.out.write (hs' := [(w0.heap.size, w1.heap.size, Fla w0.heap.size w1.heap.size (.slice ud R1.length uc) R1)]) 1 rfl hn (.slice ud R1.length uc) (fun x hx => by rw [List.mem_singleton] at hx; subst hx; exact ⟨List.mem_cons_self .., Or.inr z0⟩))
      clear b1 fo T0 T1
      go_wp2
      exact bodyPost_ret (results_flash2 rfl _ _ (w.heap.size + 1 + 1) _ rfl (T2.out.get 0 rfl)) rfl ⟨_, rfl, (T2.out.get 1 rfl).of (T2.out.hi 1 rfl) (by omega), T2.out.1⟩
    · have e2 : (k == 2) = false := by simpa using h2
      have HP : Hid ((bs, false) = (R1, R2)) := by show _ = _; rw [← HR.out]; simp [doF, h1, h2]
      obtain ⟨rfl, rfl⟩ := Prod.mk.inj HP.out
      clear h1 h2
      go_enter Try.func17, Try.ntmps17
      go_wp2_with fail
      generalize ((w.alloc (.cells #[.slice vd bs.length vc] 30)).alloc (.cells #[.int .i64 k, .int .i64 b, .int .i64 lf, .string t] 40)).alloc (.cells #[.slice none 0 0] 30) = w0 at T0 F0 ⊢
      refine (scopy_b _ bs w0 HS.out F0.out).mono ?_
      rintro e w1 ⟨u, rfl, fo, b1⟩
      obtain ⟨ud, uc, rfl⟩ := fo.form
      have T1 := hide (T0.out.fla b1 fo)
      have z0 : w.heap.size + 1 + 1 + 1 ≤ w0.heap.size := T0.out.hi 0 rfl
      have n1 : w1.cell? ⟨w.heap.size + 1 + 1, 0, none⟩ = some (.slice none 0 0) := T1.out.at 1 0 rfl rfl
      have f1 := T1.out.fr 1 0 rfl
      have T2 := hide (T1.out.write (hs' := [(w0.heap.size, w1.heap.size, Fla w0.heap.size w1.heap.size (.slice ud bs.length uc) bs)]) 1 rfl hn (.slice ud bs.length uc) (fun x hx => by rw [List.mem_singleton] at hx; subst hx; exact ⟨List.mem_cons_self .., Or.inr z0⟩))
      clear b1 fo T0 T1
      go_wp2
      exact bodyPost_ret (results_flash2 rfl _ _ (w.heap.size + 1 + 1) _ rfl (T2.out.get 0 rfl)) rfl ⟨_, rfl, (T2.out.get 1 rfl).of (T2.out.hi 1 rfl) (by omega), T2.out.1⟩
end Go.Proofs.Ythgfhjfnlecolap

/-
  Rows of steps that can be read, wherever they begin.
-/
namespace Go.Proofs.Ythgfhjfnlecolap
open Go.RowKit

def StAt (w : World) (g o : Nat) (s : Stp) : Prop := w.cell? ⟨g, o, none⟩ = some (.int .i64 s.1) ∧ w.cell? ⟨g, o + 1, none⟩ = some (.int .i64 s.2.1) ∧ w.cell? ⟨g, o + 2, none⟩ = some (.int .i64 s.2.2.1) ∧ w.cell? ⟨g, o + 3, none⟩ = some (.string s.2.2.2)
def StRd (w : World) (u : Value) (l : List Stp) : Prop :=
  ∃ ad cap, u = .slice ad l.length cap ∧ l.length ≤ cap ∧ cap ≤ 9223372036854775807 ∧ (ad = none → cap = 0) ∧ ∀ i s, l[i]? = some s → ∃ g o, ad = some ⟨g, o, none⟩ ∧ StAt w g (o + i * 4) s
theorem StAt.below {w w' : World} {g o : Nat} {s : Stp} (h : StAt w g o s) (hb : Below w.heap.size w w') : StAt w' g o s := by
  obtain ⟨c1, c2, c3, c4⟩ := h
  exact ⟨(hb.cell (World.block_lt_of_cell? w _ c1)).trans c1, (hb.cell (World.block_lt_of_cell? w _ c2)).trans c2, (hb.cell (World.block_lt_of_cell? w _ c3)).trans c3, (hb.cell (World.block_lt_of_cell? w _ c4)).trans c4⟩
theorem StRd.below {w w' : World} {u : Value} {l : List Stp} (h : StRd w u l) (hb : Below w.heap.size w w') : StRd w' u l := by
  obtain ⟨ad, cap, e, h1, h2, h3, h⟩ := h
  refine ⟨ad, cap, e, h1, h2, h3, fun i s hs => ?_⟩
  obtain ⟨g, o, e2, h4⟩ := h i s hs
  exact ⟨g, o, e2, h4.below hb⟩
theorem StRd.form {w : World} {u : Value} {l : List Stp} (h : StRd w u l) : ∃ ad cap, u = .slice ad l.length cap ∧ l.length ≤ cap ∧ cap ≤ 9223372036854775807 ∧ (ad = none → cap = 0) := by
  obtain ⟨ad, cap, e, h1, h2, h3, h⟩ := h
  exact ⟨ad, cap, e, h1, h2, h3⟩
theorem StRd.at {w : World} {ad : Option Addr} {n cap i : Nat} {l : List Stp} {s : Stp} (h : StRd w (.slice ad n cap) l) (hs : l[i]? = some s) : ∃ g o, ad = some ⟨g, o, none⟩ ∧ StAt w g (o + i * 4) s := by
  obtain ⟨ad', cap', e, h1, h2, h3, h⟩ := h
  injection e with e1 e2 e3
  subst e1
  exact h i s hs
/-- The first k of them. -/
theorem StRd.take {w : World} {ad : Option Addr} {n cap : Nat} {l : List Stp} (h : StRd w (.slice ad n cap) l) (k : Nat) (hk : k ≤ l.length) : StRd w (.slice ad k cap) (l.take k) := by
  obtain ⟨ad', cap', e, h1, h2, h3, h⟩ := h
  injection e with e1 e2 e3
  subst e1 e3
  refine ⟨ad, cap, by rw [List.length_take, Nat.min_eq_left hk], by rw [List.length_take]; omega, h2, h3, fun i s hs => ?_⟩
  rw [List.getElem?_take] at hs
  split at hs
  · exact h i s hs
  · cases hs
/-- All but the first k. -/
theorem StRd.drop {w : World} {g o n cap : Nat} {l : List Stp} (h : StRd w (.slice (some ⟨g, o, none⟩) n cap) l) (k : Nat) (hk : k ≤ l.length) : StRd w (.slice (if cap = k then some ⟨g, o, none⟩ else some ⟨g, o + k * 4, none⟩) (n - k) (cap - k)) (l.drop k) := by
  obtain ⟨ad', cap', e, h1, h2, h3, h⟩ := h
  injection e with e1 e2 e3
  subst e1 e2 e3
  refine ⟨_, _, by rw [List.length_drop], by rw [List.length_drop]; omega, by omega, (fun e => by split at e <;> cases e), fun i s hs => ?_⟩
  rw [List.getElem?_drop] at hs
  have hlt := (List.getElem?_eq_some_iff.1 hs).1
  obtain ⟨g', o', e, h4⟩ := h _ s hs
  injection e with e
  injection e with e5 e6
  subst e5 e6
  rw [if_neg (by omega)]
  refine ⟨g, o + k * 4, rfl, ?_⟩
  rw [show o + k * 4 + i * 4 = o + (k + i) * 4 by omega]
  exact h4
theorem step_size (w : World) : (sizeOf (Try.prog.elem 48)).run Try.prog w = .ok 4 w := by kernel_rfl
theorem step_slice : Try.prog.underlying 48 = some (.slice (Try.prog.elem 48)) := by kernel_rfl
theorem addr_zero (a : Addr) : a.add 0 = a := by
  simp only [Addr.add]
  split <;> simp_all
/-- list[:k]. -/
theorem take_run (ad : Option Addr) (n cap k : Nat) (w : World) (hk : k ≤ cap) : (Instr.slice 48 (.slice ad n cap) none (some (.int .i64 (k : Int))) none).run Try.prog w = .ok (.slice ad k cap) w := by
  rw [run_slice_h w 48 ad n cap step_slice .i64 _ (by omega) (by omega), step_size]
  simp only [Result.andThen, sliced, Int.toNat_natCast, Nat.zero_mul, Nat.sub_zero]
  congr 2
  split
  · rfl
  · cases ad <;> simp [addr_zero]
/-- list[k:]. -/
theorem drop_run (g o n cap k : Nat) (w : World) (hk : k ≤ n) : (Instr.slice 48 (.slice (some ⟨g, o, none⟩) n cap) (some (.int .i64 (k : Int))) none none).run Try.prog w = .ok (.slice (if cap = k then some ⟨g, o, none⟩ else some ⟨g, o + k * 4, none⟩) (n - k) (cap - k)) w := by
  rw [run_slice_l w 48 (some ⟨g, o, none⟩) n cap step_slice .i64 _ (by omega) (by omega), step_size]
  simp only [Result.andThen, sliced, Int.toNat_natCast]
  congr 2
  split
  · rfl
  · simp [addr_off]
end Go.Proofs.Ythgfhjfnlecolap
