/-
  StRd; SDo
-/
import Derived.Test.YtcjgjkejhkhknaaPq80
import Derived.Test.YtcjgjkejhkhknaaPq11
import Derived.Test.YtcjgjkejhkhknaaSProg
import Derived.Test.YtcjgjkejhkhknaaSWipe
import Derived.Test.YtcjgjkejhkhknaaIProg
import Derived.Test.YtcjgjkejhkhknaaIWipe
/-
  Flashes that can be read, by what they tell: copied, written, wiped.
-/
namespace Go.Proofs.Ytcjgjkejhkhknaa
open Go.RowKit

def RdB (w : World) (v : Value) (bs : List Bk) : Prop := ∃ rs : List Rw, rs.map tellOf = bs ∧ FlashRd w v rs
/-- Neither long lists nor long texts. -/
def Sml (bs : List Bk) : Prop := bs.length ≤ 1048576 ∧ ∀ r ∈ bs, r.2.2.length ≤ 1048576 ∧ ∀ t ∈ r.2.2, t.2.size ≤ 1048576
theorem RdB.below {w w' : World} {v : Value} {bs : List Bk} (h : RdB w v bs) (hb : Below w.heap.size w w') : RdB w' v bs := by
  obtain ⟨rs, e, h⟩ := h
  exact ⟨rs, e, h.below hb⟩
theorem RdB.form {w : World} {v : Value} {bs : List Bk} (h : RdB w v bs) : ∃ ad cap, v = .slice ad bs.length cap := by
  obtain ⟨rs, rfl, vd, vc, e, -⟩ := h
  exact ⟨vd, vc, by rw [e, List.length_map]⟩
theorem FlashOf.rdb {w : World} {B : Nat} {v : Value} {bs : List Bk} (h : FlashOf w B v bs) : RdB w v bs := by
  obtain ⟨ss, e, h⟩ := h
  exact ⟨ss, e, h.rd⟩
theorem Fla.rdb {w : World} {lo hi : Nat} {v : Value} {bs : List Bk} (h : Fla lo hi v bs w) : RdB w v bs := by
  obtain ⟨ss, e, h⟩ := h
  exact ⟨ss, e, h.rd⟩
theorem RdB.lens {w : World} {v : Value} {bs : List Bk} (h : RdB w v bs) (hs : Sml bs) : ∃ rs : List Rw, rs.map tellOf = bs ∧ FlashRd w v rs ∧ rs.length ≤ 1048576 ∧ (∀ r ∈ rs, r.2.2.2.length ≤ 1048576) ∧ TxB rs := by
  obtain ⟨rs, rfl, h⟩ := h
  refine ⟨rs, rfl, h, by have := hs.1; rwa [List.length_map] at this, fun r hr => (hs.2 _ (List.mem_map_of_mem (f := tellOf) hr)).1, fun r hr t ht => (hs.2 _ (List.mem_map_of_mem (f := tellOf) hr)).2 t ht⟩
theorem Sml.modify {bs : List Bk} (h : Sml bs) (k : Nat) (f : Bk → Bk) (hf : ∀ r ∈ bs, (f r).2.2.length ≤ 1048576 ∧ ∀ t ∈ (f r).2.2, t.2.size ≤ 1048576) : Sml (bs.modify k f) := by
  refine ⟨by rw [List.length_modify]; exact h.1, fun r hr => ?_⟩
  obtain ⟨i, hi, rfl⟩ := List.getElem_of_mem hr
  rw [List.length_modify] at hi
  rw [List.getElem_modify]
  split
  · exact hf _ (List.getElem_mem _)
  · exact h.2 _ (List.getElem_mem _)
theorem Sml.prog {bs : List Bk} (h : Sml bs) (b leaf : Int) (t : ByteArray) : Sml (programF bs b leaf t).1 := by
  unfold programF
  split
  · rename_i h1
    rw [Bool.and_eq_true] at h1
    have ht : t.size ≤ 120 := by
      have h2 := h1.2
      unfold mayP at h2
      split at h2
      · cases h2
      · exact (of_decide_eq_true h2).2.2.2.2.2
    refine h.modify _ _ (fun r hr => ⟨by rw [List.length_set]; exact (h.2 r hr).1, fun u hu => ?_⟩)
    rcases List.mem_or_eq_of_mem_set hu with hu | rfl
    · exact (h.2 r hr).2 u hu
    · simp only; omega
  · exact h
theorem Sml.wipe {bs : List Bk} (h : Sml bs) (b : Int) : Sml (wipeF bs b).1 := by
  unfold wipeF
  split
  · refine h.modify _ _ (fun r hr => ⟨by simp [blank4], fun u hu => ?_⟩)
    simp only [blank4, List.mem_cons, List.not_mem_nil, or_false] at hu
    rcases hu with rfl | rfl | rfl | rfl <;> exact Nat.zero_le _
  · exact h
theorem Sml.step {bs : List Bk} (h : Sml bs) (s : Stp) : Sml (doF bs s).1 := by
  unfold doF
  split
  · exact h.prog _ _ _
  · split
    · exact h.wipe _
    · exact h
theorem Sml.all {bs : List Bk} (h : Sml bs) (l : List Stp) : Sml (doAll bs l).1 := by
  induction l generalizing bs with
  | nil => exact h
  | cons s l ih =>
    simp only [doAll]
    split
    · exact ih (h.step s)
    · exact h
theorem Sml.torn {bs : List Bk} (h : Sml bs) (s : Stp) (hd : (doF bs s).2 = true) : Sml (tornF bs s) := by
  obtain ⟨k, r, h1, h2, h3, h4, h5, -⟩ := do_place hd
  unfold tornF
  split
  · rename_i hs
    obtain ⟨j, -, -, -, -, hz⟩ := h5 hs
    refine h.modify _ _ (fun r hr => ⟨by rw [List.length_set]; exact (h.2 r hr).1, fun u hu => ?_⟩)
    rcases List.mem_or_eq_of_mem_set hu with hu | rfl
    · exact (h.2 r hr).2 u hu
    · simp only [halfT_size]; omega
  · refine h.modify _ _ (fun r hr => ⟨by rw [List.length_replicate]; exact (h.2 r hr).1, fun u hu => ?_⟩)
    rw [List.mem_replicate] at hu
    rw [hu.2]
    exact Nat.zero_le _

theorem scopy_b (v : Value) (bs : List Bk) (w : World) (hs : Sml bs) (ha : RdB w v bs) :
    Calls Try.prog 48 #[.agg #[v]] w fun e w' => ∃ u, e = .returned (.agg #[u]) ∧ FlashOf w' w.heap.size u bs ∧ Below w.heap.size w w' := by
  obtain ⟨rs, rfl, h, l, ll, lt⟩ := ha.lens hs
  exact scopy_rd v rs w l ll h
theorem icopy_b (v : Value) (bs : List Bk) (w : World) (hs : Sml bs) (ha : RdB w v bs) :
    Calls Try.prog 58 #[.agg #[v]] w fun e w' => ∃ u, e = .returned (.agg #[u]) ∧ FlashOf w' w.heap.size u bs ∧ Below w.heap.size w w' := by
  obtain ⟨rs, rfl, h, l, ll, lt⟩ := ha.lens hs
  exact icopy_rd v rs w l ll lt h
theorem sprog_b (v : Value) (bs : List Bk) (b leaf : Int) (t : ByteArray) (w : World) (hs : Sml bs) (ha : RdB w v bs) :
    Calls Try.prog 13 #[.agg #[v], .int .i64 b, .int .i64 leaf, .string t] w fun e w' => ∃ u, e = .returned (.tuple #[.agg #[u], .bool (programF bs b leaf t).2]) ∧ FlashOf w' w.heap.size u (programF bs b leaf t).1 ∧ Below w.heap.size w w' := by
  obtain ⟨rs, rfl, h, l, ll, lt⟩ := ha.lens hs
  exact sprog_rd v rs b leaf t w l ll h
theorem iprog_b (v : Value) (bs : List Bk) (b leaf : Int) (t : ByteArray) (w : World) (hs : Sml bs) (ha : RdB w v bs) :
    Calls Try.prog 176 #[.agg #[v], .int .i64 b, .int .i64 leaf, .string t] w fun e w' => ∃ u, e = .returned (.tuple #[.agg #[u], .bool (programF bs b leaf t).2]) ∧ FlashOf w' w.heap.size u (programF bs b leaf t).1 ∧ Below w.heap.size w w' := by
  obtain ⟨rs, rfl, h, l, ll, lt⟩ := ha.lens hs
  exact iprog_rd v rs b leaf t w l ll lt h
theorem swipe_b (v : Value) (bs : List Bk) (b : Int) (w : World) (hs : Sml bs) (ha : RdB w v bs) :
    Calls Try.prog 17 #[.agg #[v], .int .i64 b] w fun e w' => ∃ u, e = .returned (.tuple #[.agg #[u], .bool (wipeF bs b).2]) ∧ FlashOf w' w.heap.size u (wipeF bs b).1 ∧ Below w.heap.size w w' := by
  obtain ⟨rs, rfl, h, l, ll, lt⟩ := ha.lens hs
  exact swipe_rd v rs b w l ll h
theorem iwipe_b (v : Value) (bs : List Bk) (b : Int) (w : World) (hs : Sml bs) (ha : RdB w v bs) :
    Calls Try.prog 26 #[.agg #[v], .int .i64 b] w fun e w' => ∃ u, e = .returned (.tuple #[.agg #[u], .bool (wipeF bs b).2]) ∧ FlashOf w' w.heap.size u (wipeF bs b).1 ∧ Below w.heap.size w w' := by
  obtain ⟨rs, rfl, h, l, ll, lt⟩ := ha.lens hs
  exact iwipe_rd v rs b w l ll lt h
end Go.Proofs.Ytcjgjkejhkhknaa

/-
  spec.DoStep.
-/
namespace Go.Proofs.Ytcjgjkejhkhknaa
open Go.RowKit

set_option maxHeartbeats 800000 in
set_option maxRecDepth 100000 in
theorem sdo_b (v : Value) (bs : List Bk) (s : Stp) (w : World) (hs : Sml bs) (ha : RdB w v bs) :
    Calls Try.prog 61 #[.agg #[v], stV s] w fun e w' => ∃ u, e = .returned (.tuple #[.agg #[u], .bool (doF bs s).2]) ∧ FlashOf w' w.heap.size u (doF bs s).1 ∧ Below w.heap.size w w' := by
  obtain ⟨vd, vc, rfl⟩ := ha.form
  obtain ⟨k, b, lf, t⟩ := s
  unfold stV
  simp only
  have T0 := hide (Tk.three w #[.slice vd bs.length vc] #[.int .i64 k, .int .i64 b, .int .i64 lf, .string t] #[.slice none 0 0] 28 49 28)
  have F0 := hide (ha.below T0.out.1)
  have HS := hide hs
  obtain ⟨R1, R2, hR⟩ : ∃ R1 R2, doF bs (k, b, lf, t) = (R1, R2) := ⟨_, _, rfl⟩
  have HR := hide hR
  rw [hR]
  clear ha hs hR
  have hn : w.heap.size ≤ w.heap.size + 1 + 1 := by omega
  by_cases h1 : k = 1
  · subst h1
    have HP : Hid (programF bs b lf t = (R1, R2)) := by show _ = _; rw [← HR.out]; simp [doF]
    go_enter Try.func61, Try.ntmps61
    go_wp2_with fail
    generalize ((w.alloc (.cells #[.slice vd bs.length vc] 28)).alloc (.cells #[.int .i64 1, .int .i64 b, .int .i64 lf, .string t] 49)).alloc (.cells #[.slice none 0 0] 28) = w0 at T0 F0 ⊢
    refine (sprog_b _ bs b lf t w0 HS.out F0.out).mono ?_
    rintro e w1 ⟨u, rfl, fo, b1⟩
    rw [HP.out] at fo ⊢
    simp only at fo ⊢
    obtain ⟨ud, uc, rfl⟩ := fo.form
    have T1 := hide (T0.out.fla b1 fo)
    have z0 : w.heap.size + 1 + 1 + 1 ≤ w0.heap.size := T0.out.hi 0 rfl
    have n1 : w1.cell? ⟨w.heap.size + 1 + 1, 0, none⟩ = some (.slice none 0 0) := T1.out.at 1 0 rfl rfl
    have f1 := T1.out.fr 1 0 rfl
    have T2 := hide (T1.out.write (hs' := [(w0.heap.size, w1.heap.size, Fla w0.heap.size w1.heap.size (.slice ud R1.length uc) R1)]) 1 rfl hn (.slice ud R1.length uc) (fun x hx => by rw [List.mem_singleton] at hx; subst hx; exact ⟨List.mem_cons_self .., Or.inr z0⟩))
    clear b1 fo T0 T1
    go_wp2
    exact bodyPost_ret (results_flash2 rfl _ _ (w.heap.size + 1 + 1) _ rfl (T2.out.get 0 rfl)) rfl ⟨_, rfl, (T2.out.get 1 rfl).of (T2.out.hi 1 rfl) (by omega), T2.out.1⟩
  · have e1 : (k == 1) = false := by simpa using h1
    by_cases h2 : k = 2
    · subst h2
      have HP : Hid (wipeF bs b = (R1, R2)) := by show _ = _; rw [← HR.out]; simp [doF]
      go_enter Try.func61, Try.ntmps61
      go_wp2_with fail
      generalize ((w.alloc (.cells #[.slice vd bs.length vc] 28)).alloc (.cells #[.int .i64 2, .int .i64 b, .int .i64 lf, .string t] 49)).alloc (.cells #[.slice none 0 0] 28) = w0 at T0 F0 ⊢
      refine (swipe_b _ bs b w0 HS.out F0.out).mono ?_
      rintro e w1 ⟨u, rfl, fo, b1⟩
      rw [HP.out] at fo ⊢
      simp only at fo ⊢
      obtain ⟨ud, uc, rfl⟩ := fo.form
      have T1 := hide (T0.out.fla b1 fo)
      have z0 : w.heap.size + 1 + 1 + 1 ≤ w0.heap.size := T0.out.hi 0 rfl
      have n1 : w1.cell? ⟨w.heap.size + 1 + 1, 0, none⟩ = some (.slice none 0 0) := T1.out.at 1 0 rfl rfl
      have f1 := T1.out.fr 1 0 rfl
      have T2 := hide (T1.out.write (hs' := [(w0.heap.size, w1.heap.size, Fla w0.heap.size w1.heap.size (.slice ud R1.length uc) R1)]) 1 rfl hn (.slice ud R1.length uc) (fun x hx => by rw [List.mem_singleton] at hx; subst hx; exact ⟨List.mem_cons_self .., Or.inr z0⟩))
      clear b1 fo T0 T1
      go_wp2
      exact bodyPost_ret (results_flash2 rfl _ _ (w.heap.size + 1 + 1) _ rfl (T2.out.get 0 rfl)) rfl ⟨_, rfl, (T2.out.get 1 rfl).of (T2.out.hi 1 rfl) (by omega), T2.out.1⟩
    · have e2 : (k == 2) = false := by simpa using h2
      have HP : Hid ((bs, false) = (R1, R2)) := by show _ = _; rw [← HR.out]; simp [doF, h1, h2]
      obtain ⟨rfl, rfl⟩ := Prod.mk.inj HP.out
      clear h1 h2
      go_enter Try.func61, Try.ntmps61
      go_wp2_with fail
      generalize ((w.alloc (.cells #[.slice vd bs.length vc] 28)).alloc (.cells #[.int .i64 k, .int .i64 b, .int .i64 lf, .string t] 49)).alloc (.cells #[.slice none 0 0] 28) = w0 at T0 F0 ⊢
      refine (scopy_b _ bs w0 HS.out F0.out).mono ?_
      rintro e w1 ⟨u, rfl, fo, b1⟩
      obtain ⟨ud, uc, rfl⟩ := fo.form
      have T1 := hide (T0.out.fla b1 fo)
      have z0 : w.heap.size + 1 + 1 + 1 ≤ w0.heap.size := T0.out.hi 0 rfl
      have n1 : w1.cell? ⟨w.heap.size + 1 + 1, 0, none⟩ = some (.slice none 0 0) := T1.out.at 1 0 rfl rfl
      have f1 := T1.out.fr 1 0 rfl
      have T2 := hide (T1.out.write (hs' := [(w0.heap.size, w1.heap.size, Fla w0.heap.size w1.heap.size (.slice ud bs.length uc) bs)]) 1 rfl hn (.slice ud bs.length uc) (fun x hx => by rw [List.mem_singleton] at hx; subst hx; exact ⟨List.mem_cons_self .., Or.inr z0⟩))
      clear b1 fo T0 T1
      go_wp2
      exact bodyPost_ret (results_flash2 rfl _ _ (w.heap.size + 1 + 1) _ rfl (T2.out.get 0 rfl)) rfl ⟨_, rfl, (T2.out.get 1 rfl).of (T2.out.hi 1 rfl) (by omega), T2.out.1⟩
end Go.Proofs.Ytcjgjkejhkhknaa
