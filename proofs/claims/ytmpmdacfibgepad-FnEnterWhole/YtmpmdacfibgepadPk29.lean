/-
  LawEW; IRecOk
-/
import Derived.Test.YtmpmdacfibgepadPk28
import Derived.Deep.RegionHeld3
import Derived.Deep.DeepCutAuto
import Derived.Test.YtmpmdacfibgepadPk21
/-
  FnEnterWhole, of what the program answers.
-/
namespace Go.Proofs.Ytmpmdacfibgepad
open Go.RowKit
open Words

set_option maxHeartbeats 8000000 in
set_option maxRecDepth 100000 in
theorem lawEW_of (ad : Option Addr) (len cap : Nat) (w : World) (hd : CodeIn w ad len w.heap.size) (HA : Hid (EnterAllC 21)) (HM : Hid (SameC 23)) :
    Calls Try.prog 5 #[.slice ad len cap] w fun e w' => e = .returned (.bool true) ∧ Below w.heap.size w w' := by
  have HD := hide hd
  clear hd
  by_cases hbig : (1048576 : Int) < len
  · go_enter Try.func5, Try.ntmps5
    go_wp2_with fail
    refine (big_any ad len cap _).mono ?_
    rintro e w1 ⟨rfl, rfl⟩
    rw [decide_eq_true hbig]
    go_wp2
    go_ret
    exact ⟨rfl, Below.refl _ _⟩
  have hl2 : len ≤ 1048576 := by omega
  have hbd : decide ((1048576 : Int) < len) = false := decide_eq_false hbig
  clear hbig
  go_enter Try.func5, Try.ntmps5
  go_wp2_with fail
  refine (big_any ad len cap _).mono ?_
  rintro e w0 ⟨rfl, hw0⟩
  subst hw0
  rw [hbd]
  clear hbd
  go_wp2_with fail
  refine (dsr_tk (Tk.start w0) hl2 HD.out).mono ?_
  rintro e w1 ⟨va, vl, vc, kd, kl, kc, s, kind, vol, arg, chunk, rfl, ⟨hs, hv, hvl, hkl, hcp⟩, t1, s1⟩
  have HS := hide hs
  have HVL := hide hvl
  have HKL := hide hkl
  have hvl3 : vl ≤ 3 := by rw [hvl]; exact hs.1.few
  have HF := hide (drn_fit hs)
  obtain ⟨E1, E2, hE⟩ : ∃ E1 E2, enterS s ⟨kind, vol, arg, chunk⟩ = (E1, E2) := ⟨_, _, rfl⟩
  have HE := hide hE
  have HER : Hid E1.Right := by
    have := enter_right hs.1 ⟨kind, vol, arg, chunk⟩
    rw [hE] at this
    exact this
  have HEF := hide (right_fit HER.out)
  clear hs hvl hkl hE
  have T2 := hide ((t1.celln rfl #[.slice va vl vc, .slice kd kl kc, .int .i64 s.next] 45).celln (alloc_size rfl _) #[.int .i64 kind, .int .i64 vol, .int .i64 arg, .int .i64 chunk] 47)
  obtain ⟨z, hz⟩ : ∃ z, w1.heap.size = z := ⟨_, rfl⟩
  rw [hz] at T2
  clear t1
  go_upto_region 4 with fail
  try rw [hz]
  generalize (w1.alloc (.cells #[.slice va vl vc, .slice kd kl kc, .int .i64 s.next] 45)).alloc (.cells #[.int .i64 kind, .int .i64 vol, .int .i64 arg, .int .i64 chunk] 47) = w2 at T2 ⊢
  clear hz
  have hee : (E2 == E2) = true := by simp
  have HW : Hid (enterAllS s [⟨kind, vol, arg, chunk⟩, ⟨3, 8, 0, 0⟩] = (s, false)) := whole_no HS.out hv
  have HO : Hid (enterAllS s [⟨kind, vol, arg, chunk⟩] = (E1, E2)) := by show _ = _; rw [all_one]; exact HE.out
  have T3 := hide (T2.out.celln rfl #[.int .i64 kind, .int .i64 vol, .int .i64 arg, .int .i64 chunk, .int .i64 3, .int .i64 8, .int .i64 0, .int .i64 0] 47)
  have c0 : w2.cell? ⟨z, 0, none⟩ = some (.slice va vl vc) := T2.out.at 1 0 rfl rfl
  have c1 : w2.cell? ⟨z, 1, none⟩ = some (.slice kd kl kc) := T2.out.at 1 1 rfl rfl
  have c2 : w2.cell? ⟨z, 2, none⟩ = some (.int .i64 s.next) := T2.out.at 1 2 rfl rfl
  have d0 : w2.cell? ⟨z + 1, 0, none⟩ = some (.int .i64 kind) := T2.out.at 0 0 rfl rfl
  have d1 : w2.cell? ⟨z + 1, 1, none⟩ = some (.int .i64 vol) := T2.out.at 0 1 rfl rfl
  have d2 : w2.cell? ⟨z + 1, 2, none⟩ = some (.int .i64 arg) := T2.out.at 0 2 rfl rfl
  have d3 : w2.cell? ⟨z + 1, 3, none⟩ = some (.int .i64 chunk) := T2.out.at 0 3 rfl rfl
  go_upto_region 5 with fail
  generalize w2.alloc (.cells #[.int .i64 kind, .int .i64 vol, .int .i64 arg, .int .i64 chunk, .int .i64 3, .int .i64 8, .int .i64 0, .int .i64 0] 47) = w3 at T3 ⊢
  have Q3 : Hid (RcRow w3 (some ⟨w2.heap.size, 0, none⟩) 2 ([⟨kind, vol, arg, chunk⟩, ⟨3, 8, 0, 0⟩].map Rc.tu)) := rows_of (l := [⟨kind, vol, arg, chunk⟩, ⟨3, 8, 0, 0⟩]) (by simp) ⟨_, T3.out.get 0 rfl, fun i v hv => by rw [← Array.getElem?_toList]; exact hv⟩
  clear c0 c1 c2 d0 d1 d2 d3 T2
  have c0 : w3.cell? ⟨z, 0, none⟩ = some (.slice va vl vc) := T3.out.at 2 0 rfl rfl
  have c1 : w3.cell? ⟨z, 1, none⟩ = some (.slice kd kl kc) := T3.out.at 2 1 rfl rfl
  have c2 : w3.cell? ⟨z, 2, none⟩ = some (.int .i64 s.next) := T3.out.at 2 2 rfl rfl
  go_wp2_with fail
  refine (gena_tk HA.out HW.out (by decide) Q3.out T3.out 3 HF.out rfl).mono ?_
  rintro e w4 ⟨x4, xl4, xc4, y4, yl4, yc4, rfl, -, t4, s4⟩
  have T5 := hide (t4.celln rfl #[.slice x4 xl4 xc4, .slice y4 yl4 yc4, .int .i64 s.next] 45)
  clear t4
  clear c0 c1 c2 T3 Q3
  go_upto_region 6 with fail
  generalize w4.alloc (.cells #[.slice x4 xl4 xc4, .slice y4 yl4 yc4, .int .i64 s.next] 45) = w5 at T5 ⊢
  have T6 := hide (T5.out.celln rfl #[.int .i64 kind, .int .i64 vol, .int .i64 arg, .int .i64 chunk] 47)
  have Q6 : Hid (RcRow (w5.alloc (.cells #[.int .i64 kind, .int .i64 vol, .int .i64 arg, .int .i64 chunk] 47)) (some ⟨w5.heap.size, 0, none⟩) 1 ([⟨kind, vol, arg, chunk⟩].map Rc.tu)) := rows_of (l := [⟨kind, vol, arg, chunk⟩]) (by simp) ⟨_, T6.out.get 0 rfl, fun i v hv => by rw [← Array.getElem?_toList]; exact hv⟩
  have c0 : w5.cell? ⟨z, 0, none⟩ = some (.slice va vl vc) := T5.out.at 4 0 rfl rfl
  have c1 : w5.cell? ⟨z, 1, none⟩ = some (.slice kd kl kc) := T5.out.at 4 1 rfl rfl
  have c2 : w5.cell? ⟨z, 2, none⟩ = some (.int .i64 s.next) := T5.out.at 4 2 rfl rfl
  have d0 : w5.cell? ⟨z + 1, 0, none⟩ = some (.int .i64 kind) := T5.out.at 3 0 rfl rfl
  have d1 : w5.cell? ⟨z + 1, 1, none⟩ = some (.int .i64 vol) := T5.out.at 3 1 rfl rfl
  have d2 : w5.cell? ⟨z + 1, 2, none⟩ = some (.int .i64 arg) := T5.out.at 3 2 rfl rfl
  have d3 : w5.cell? ⟨z + 1, 3, none⟩ = some (.int .i64 chunk) := T5.out.at 3 3 rfl rfl
  go_wp2_with fail
  generalize w5.alloc (.cells #[.int .i64 kind, .int .i64 vol, .int .i64 arg, .int .i64 chunk] 47) = w6 at T6 Q6 ⊢
  refine (gena_tk HA.out HO.out (by decide) Q6.out T6.out 6 HF.out rfl).mono ?_
  rintro e w7 ⟨x7, xl7, xc7, y7, yl7, yc7, rfl, -, t7, s7⟩
  have T8 := hide (t7.celln rfl #[.slice x7 xl7 xc7, .slice y7 yl7 yc7, .int .i64 E1.next] 45)
  clear t7
  clear c0 c1 c2 d0 d1 d2 d3 T5 T6 Q6
  go_upto_region 7 with fail
  generalize w7.alloc (.cells #[.slice x7 xl7 xc7, .slice y7 yl7 yc7, .int .i64 E1.next] 45) = w8 at T8 ⊢
  have c0 : w8.cell? ⟨z, 0, none⟩ = some (.slice va vl vc) := T8.out.at 7 0 rfl rfl
  have c1 : w8.cell? ⟨z, 1, none⟩ = some (.slice kd kl kc) := T8.out.at 7 1 rfl rfl
  have c2 : w8.cell? ⟨z, 2, none⟩ = some (.int .i64 s.next) := T8.out.at 7 2 rfl rfl
  have d0 : w8.cell? ⟨z + 1, 0, none⟩ = some (.int .i64 kind) := T8.out.at 6 0 rfl rfl
  have d1 : w8.cell? ⟨z + 1, 1, none⟩ = some (.int .i64 vol) := T8.out.at 6 1 rfl rfl
  have d2 : w8.cell? ⟨z + 1, 2, none⟩ = some (.int .i64 arg) := T8.out.at 6 2 rfl rfl
  have d3 : w8.cell? ⟨z + 1, 3, none⟩ = some (.int .i64 chunk) := T8.out.at 6 3 rfl rfl
  go_wp2_with fail
  refine (sent_tk HE.out T8.out 8 HF.out hcp rfl).mono ?_
  rintro e w9 ⟨x9, xl9, xc9, y9, yl9, yc9, rfl, -, t9, s9⟩
  have T10 := hide (t9.celln rfl #[.slice x9 xl9 xc9, .slice y9 yl9 yc9, .int .i64 E1.next] 45)
  clear t9
  clear c0 c1 c2 d0 d1 d2 d3 T8
  go_upto_region 8 with fail
  generalize w9.alloc (.cells #[.slice x9 xl9 xc9, .slice y9 yl9 yc9, .int .i64 E1.next] 45) = w10 at T10 ⊢
  have c0 : w10.cell? ⟨z, 0, none⟩ = some (.slice va vl vc) := T10.out.at 9 0 rfl rfl
  have c1 : w10.cell? ⟨z, 1, none⟩ = some (.slice kd kl kc) := T10.out.at 9 1 rfl rfl
  have c2 : w10.cell? ⟨z, 2, none⟩ = some (.int .i64 s.next) := T10.out.at 9 2 rfl rfl
  have f0 : w10.cell? ⟨w4.heap.size, 0, none⟩ = some (.slice x4 xl4 xc4) := T10.out.at 5 0 rfl rfl
  have f1 : w10.cell? ⟨w4.heap.size, 1, none⟩ = some (.slice y4 yl4 yc4) := T10.out.at 5 1 rfl rfl
  have f2 : w10.cell? ⟨w4.heap.size, 2, none⟩ = some (.int .i64 s.next) := T10.out.at 5 2 rfl rfl
  go_wp2_with fail
  refine (gsam_tk HM.out (same_self s) T10.out 6 10 HF.out HF.out rfl rfl).mono ?_
  rintro e w11 ⟨rfl, t11, s11⟩
  have T11 := hide t11
  clear t11 T10 c0 c1 c2 f0 f1 f2
  have c0 : w11.cell? ⟨w7.heap.size, 0, none⟩ = some (.slice x7 xl7 xc7) := T11.out.at 2 0 rfl rfl
  have c1 : w11.cell? ⟨w7.heap.size, 1, none⟩ = some (.slice y7 yl7 yc7) := T11.out.at 2 1 rfl rfl
  have c2 : w11.cell? ⟨w7.heap.size, 2, none⟩ = some (.int .i64 E1.next) := T11.out.at 2 2 rfl rfl
  have f0 : w11.cell? ⟨w9.heap.size, 0, none⟩ = some (.slice x9 xl9 xc9) := T11.out.at 0 0 rfl rfl
  have f1 : w11.cell? ⟨w9.heap.size, 1, none⟩ = some (.slice y9 yl9 yc9) := T11.out.at 0 1 rfl rfl
  have f2 : w11.cell? ⟨w9.heap.size, 2, none⟩ = some (.int .i64 E1.next) := T11.out.at 0 2 rfl rfl
  go_wp2_with fail
  refine (gsam_tk HM.out (same_self E1) T11.out 3 1 HEF.out HEF.out rfl rfl).mono ?_
  rintro e w12 ⟨rfl, t12, s12⟩
  have B12 := hide t12.1
  clear t12 T11
  go_wp2
  go_ret
  exact ⟨rfl, B12.out⟩
end Go.Proofs.Ytmpmdacfibgepad

/-
  impl.isWithin, impl.RecOk.
-/
namespace Go.Proofs.Ytmpmdacfibgepad
open Go.RowKit
open Words

set_option maxHeartbeats 400000 in
set_option maxRecDepth 100000 in
theorem iwithin (x lo hi : Int) (b : Bool) (w : World) (h : (lo ≤ x ∧ x ≤ hi ∧ b = true) ∨ ((x < lo ∨ lo ≤ x ∧ ¬ x ≤ hi) ∧ b = false)) :
    Calls Try.prog 33 #[.int .i64 x, .int .i64 lo, .int .i64 hi] w fun e w' => e = .returned (.bool b) ∧ w' = w := by
  rcases h with ⟨h1, h2, rfl⟩ | ⟨h1 | ⟨h1, h2⟩, rfl⟩
  all_goals
    go_enter Try.func33, Try.ntmps33
    go_wp2
    go_ret
    exact ⟨rfl, rfl⟩
set_option maxHeartbeats 1000000 in
set_option maxRecDepth 100000 in
theorem irecOk (r : Rc) (w : World) :
    Calls Try.prog 47 #[rcVal r] w fun e w' => e = .returned (.bool (@decide r.Right r.decR)) ∧ Below w.heap.size w w' := by
  obtain ⟨k, v, a, c⟩ := r
  have HE := hide (rc_spec k v a c)
  have HB := hide ((Below.refl w.heap.size w).alloc (Nat.le_refl _) (.cells #[.int .i64 k, .int .i64 v, .int .i64 a, .int .i64 c] 47))
  unfold rcVal
  simp only
  by_cases a1 : 1 ≤ k ∧ k ≤ 5
  · obtain a5 | a5 | a5 | a5 | a5 : k = 1 ∨ k = 2 ∨ k = 3 ∨ k = 4 ∨ k = 5 := by omega
    · subst a5
      by_cases a2 : 0 ≤ a ∧ a ≤ 1000000000
      · by_cases a3 : (v == 0) = true
        · go_enter Try.func47, Try.ntmps47
          go_wp2_with fail
          refine (iwithin a 0 1000000000 true _ (.inl ⟨by omega, by omega, rfl⟩)).mono ?_
          rintro e w1 ⟨rfl, rfl⟩
          go_wp2
          go_ret
          refine ⟨?_, by first | exact HB.out | exact (Below.refl _ _).alloc (Nat.le_refl _) _ | (repeat (first | exact HB.out | exact (Below.refl _ _).alloc (Nat.le_refl _) _ | refine Below.setCell ?_ (by simp) _))⟩
          have e : @decide (Rc.mk 1 v a c).Right (Rc.mk 1 v a c).decR = (c == 0) := by
            cases hq : (c == 0) with
            | true => exact dcY (HE.out.2 (by first | omega | (simp_all; done) | (simp_all; omega)))
            | false => exact dcN (fun h => by have := HE.out.1 h; first | omega | (simp_all; done) | (simp_all; omega))
          rw [e]
          rfl
        · have a3 : (v == 0) = false := by simpa using a3
          go_enter Try.func47, Try.ntmps47
          go_wp2_with fail
          refine (iwithin a 0 1000000000 true _ (.inl ⟨by omega, by omega, rfl⟩)).mono ?_
          rintro e w1 ⟨rfl, rfl⟩
          go_wp2
          go_ret
          exact ⟨by rw [dcN (fun h => by have := HE.out.1 h; first | omega | (simp at this; omega) | (simp_all; done) | (simp_all; omega))]; rfl, by first | exact HB.out | exact (Below.refl _ _).alloc (Nat.le_refl _) _ | (repeat (first | exact HB.out | exact (Below.refl _ _).alloc (Nat.le_refl _) _ | refine Below.setCell ?_ (by simp) _))⟩
      · go_enter Try.func47, Try.ntmps47
        go_wp2_with fail
        refine (iwithin a 0 1000000000 false _ (.inr ⟨by omega, rfl⟩)).mono ?_
        rintro e w1 ⟨rfl, rfl⟩
        go_wp2
        go_ret
        exact ⟨by rw [dcN (fun h => by have := HE.out.1 h; first | omega | (simp at this; omega) | (simp_all; done) | (simp_all; omega))]; rfl, by first | exact HB.out | exact (Below.refl _ _).alloc (Nat.le_refl _) _ | (repeat (first | exact HB.out | exact (Below.refl _ _).alloc (Nat.le_refl _) _ | refine Below.setCell ?_ (by simp) _))⟩
    · subst a5
      by_cases a2 : 1 ≤ v ∧ v ≤ 9
      · by_cases a3 : 0 ≤ a ∧ a ≤ 9
        · go_enter Try.func47, Try.ntmps47
          go_wp2_with fail
          refine (iwithin v 1 9 true _ (.inl ⟨by omega, by omega, rfl⟩)).mono ?_
          rintro e w1 ⟨rfl, rfl⟩
          go_wp2_with fail
          refine (iwithin a 0 9 true _ (.inl ⟨by omega, by omega, rfl⟩)).mono ?_
          rintro e w1 ⟨rfl, rfl⟩
          go_wp2_with fail
          refine (iwithin a 0 1000000000 true _ (.inl ⟨by omega, by omega, rfl⟩)).mono ?_
          rintro e w1 ⟨rfl, rfl⟩
          go_wp2
          go_ret
          refine ⟨?_, by first | exact HB.out | exact (Below.refl _ _).alloc (Nat.le_refl _) _ | (repeat (first | exact HB.out | exact (Below.refl _ _).alloc (Nat.le_refl _) _ | refine Below.setCell ?_ (by simp) _))⟩
          have e : @decide (Rc.mk 2 v a c).Right (Rc.mk 2 v a c).decR = (c == 0) := by
            cases hq : (c == 0) with
            | true => exact dcY (HE.out.2 (by first | omega | (simp_all; done) | (simp_all; omega)))
            | false => exact dcN (fun h => by have := HE.out.1 h; first | omega | (simp_all; done) | (simp_all; omega))
          rw [e]
          rfl
        · go_enter Try.func47, Try.ntmps47
          go_wp2_with fail
          refine (iwithin v 1 9 true _ (.inl ⟨by omega, by omega, rfl⟩)).mono ?_
          rintro e w1 ⟨rfl, rfl⟩
          go_wp2_with fail
          refine (iwithin a 0 9 false _ (.inr ⟨by omega, rfl⟩)).mono ?_
          rintro e w1 ⟨rfl, rfl⟩
          go_wp2
          go_ret
          exact ⟨by rw [dcN (fun h => by have := HE.out.1 h; first | omega | (simp at this; omega) | (simp_all; done) | (simp_all; omega))]; rfl, by first | exact HB.out | exact (Below.refl _ _).alloc (Nat.le_refl _) _ | (repeat (first | exact HB.out | exact (Below.refl _ _).alloc (Nat.le_refl _) _ | refine Below.setCell ?_ (by simp) _))⟩
      · go_enter Try.func47, Try.ntmps47
        go_wp2_with fail
        refine (iwithin v 1 9 false _ (.inr ⟨by omega, rfl⟩)).mono ?_
        rintro e w1 ⟨rfl, rfl⟩
        go_wp2
        go_ret
        exact ⟨by rw [dcN (fun h => by have := HE.out.1 h; first | omega | (simp at this; omega) | (simp_all; done) | (simp_all; omega))]; rfl, by first | exact HB.out | exact (Below.refl _ _).alloc (Nat.le_refl _) _ | (repeat (first | exact HB.out | exact (Below.refl _ _).alloc (Nat.le_refl _) _ | refine Below.setCell ?_ (by simp) _))⟩
    · subst a5
      by_cases a2 : a = 0
      · subst a2
        by_cases a3 : 1 ≤ v ∧ v ≤ 9
        · go_enter Try.func47, Try.ntmps47
          go_wp2_with fail
          refine (iwithin v 1 9 true _ (.inl ⟨by omega, by omega, rfl⟩)).mono ?_
          rintro e w1 ⟨rfl, rfl⟩
          go_wp2_with fail
          refine (iwithin 0 0 9 true _ (.inl ⟨by omega, by omega, rfl⟩)).mono ?_
          rintro e w1 ⟨rfl, rfl⟩
          go_wp2_with fail
          refine (iwithin 0 0 1000000000 true _ (.inl ⟨by omega, by omega, rfl⟩)).mono ?_
          rintro e w1 ⟨rfl, rfl⟩
          go_wp2
          go_ret
          refine ⟨?_, by first | exact HB.out | exact (Below.refl _ _).alloc (Nat.le_refl _) _ | (repeat (first | exact HB.out | exact (Below.refl _ _).alloc (Nat.le_refl _) _ | refine Below.setCell ?_ (by simp) _))⟩
          have e : @decide (Rc.mk 3 v 0 c).Right (Rc.mk 3 v 0 c).decR = (c == 0) := by
            cases hq : (c == 0) with
            | true => exact dcY (HE.out.2 (by first | omega | (simp_all; done) | (simp_all; omega)))
            | false => exact dcN (fun h => by have := HE.out.1 h; first | omega | (simp_all; done) | (simp_all; omega))
          rw [e]
          rfl
        · go_enter Try.func47, Try.ntmps47
          go_wp2_with fail
          refine (iwithin v 1 9 false _ (.inr ⟨by omega, rfl⟩)).mono ?_
          rintro e w1 ⟨rfl, rfl⟩
          go_wp2
          go_ret
          exact ⟨by rw [dcN (fun h => by have := HE.out.1 h; first | omega | (simp at this; omega) | (simp_all; done) | (simp_all; omega))]; rfl, by first | exact HB.out | exact (Below.refl _ _).alloc (Nat.le_refl _) _ | (repeat (first | exact HB.out | exact (Below.refl _ _).alloc (Nat.le_refl _) _ | refine Below.setCell ?_ (by simp) _))⟩
      · have a2 : (a != 0) = true := by simpa using a2
        go_enter Try.func47, Try.ntmps47
        go_wp2
        go_ret
        exact ⟨by rw [dcN (fun h => by have := HE.out.1 h; first | omega | (simp at this; omega) | (simp_all; done) | (simp_all; omega))]; rfl, by first | exact HB.out | exact (Below.refl _ _).alloc (Nat.le_refl _) _ | (repeat (first | exact HB.out | exact (Below.refl _ _).alloc (Nat.le_refl _) _ | refine Below.setCell ?_ (by simp) _))⟩
    · subst a5
      by_cases a2 : 1 ≤ c ∧ c ≤ 1000000000
      · by_cases a3 : 0 ≤ a ∧ a ≤ 15
        · by_cases a4 : 1 ≤ v ∧ v ≤ 9
          · go_enter Try.func47, Try.ntmps47
            go_wp2_with fail
            refine (iwithin c 1 1000000000 true _ (.inl ⟨by omega, by omega, rfl⟩)).mono ?_
            rintro e w1 ⟨rfl, rfl⟩
            go_wp2_with fail
            refine (iwithin a 0 15 true _ (.inl ⟨by omega, by omega, rfl⟩)).mono ?_
            rintro e w1 ⟨rfl, rfl⟩
            go_wp2_with fail
            refine (iwithin v 1 9 true _ (.inl ⟨by omega, by omega, rfl⟩)).mono ?_
            rintro e w1 ⟨rfl, rfl⟩
            go_wp2_with fail
            refine (iwithin 0 0 9 true _ (.inl ⟨by omega, by omega, rfl⟩)).mono ?_
            rintro e w1 ⟨rfl, rfl⟩
            go_wp2_with fail
            refine (iwithin 0 0 1000000000 true _ (.inl ⟨by omega, by omega, rfl⟩)).mono ?_
            rintro e w1 ⟨rfl, rfl⟩
            go_wp2
            go_ret
            exact ⟨by rw [dcY (HE.out.2 (by first | omega | (simp; omega)))]; rfl, by first | exact HB.out | exact (Below.refl _ _).alloc (Nat.le_refl _) _ | (repeat (first | exact HB.out | exact (Below.refl _ _).alloc (Nat.le_refl _) _ | refine Below.setCell ?_ (by simp) _))⟩
          · go_enter Try.func47, Try.ntmps47
            go_wp2_with fail
            refine (iwithin c 1 1000000000 true _ (.inl ⟨by omega, by omega, rfl⟩)).mono ?_
            rintro e w1 ⟨rfl, rfl⟩
            go_wp2_with fail
            refine (iwithin a 0 15 true _ (.inl ⟨by omega, by omega, rfl⟩)).mono ?_
            rintro e w1 ⟨rfl, rfl⟩
            go_wp2_with fail
            refine (iwithin v 1 9 false _ (.inr ⟨by omega, rfl⟩)).mono ?_
            rintro e w1 ⟨rfl, rfl⟩
            go_wp2
            go_ret
            exact ⟨by rw [dcN (fun h => by have := HE.out.1 h; first | omega | (simp at this; omega) | (simp_all; done) | (simp_all; omega))]; rfl, by first | exact HB.out | exact (Below.refl _ _).alloc (Nat.le_refl _) _ | (repeat (first | exact HB.out | exact (Below.refl _ _).alloc (Nat.le_refl _) _ | refine Below.setCell ?_ (by simp) _))⟩
        · go_enter Try.func47, Try.ntmps47
          go_wp2_with fail
          refine (iwithin c 1 1000000000 true _ (.inl ⟨by omega, by omega, rfl⟩)).mono ?_
          rintro e w1 ⟨rfl, rfl⟩
          go_wp2_with fail
          refine (iwithin a 0 15 false _ (.inr ⟨by omega, rfl⟩)).mono ?_
          rintro e w1 ⟨rfl, rfl⟩
          go_wp2
          go_ret
          exact ⟨by rw [dcN (fun h => by have := HE.out.1 h; first | omega | (simp at this; omega) | (simp_all; done) | (simp_all; omega))]; rfl, by first | exact HB.out | exact (Below.refl _ _).alloc (Nat.le_refl _) _ | (repeat (first | exact HB.out | exact (Below.refl _ _).alloc (Nat.le_refl _) _ | refine Below.setCell ?_ (by simp) _))⟩
      · go_enter Try.func47, Try.ntmps47
        go_wp2_with fail
        refine (iwithin c 1 1000000000 false _ (.inr ⟨by omega, rfl⟩)).mono ?_
        rintro e w1 ⟨rfl, rfl⟩
        go_wp2
        go_ret
        exact ⟨by rw [dcN (fun h => by have := HE.out.1 h; first | omega | (simp at this; omega) | (simp_all; done) | (simp_all; omega))]; rfl, by first | exact HB.out | exact (Below.refl _ _).alloc (Nat.le_refl _) _ | (repeat (first | exact HB.out | exact (Below.refl _ _).alloc (Nat.le_refl _) _ | refine Below.setCell ?_ (by simp) _))⟩
    · subst a5
      by_cases a3 : 0 ≤ a ∧ a ≤ 15
      · by_cases a4 : 1 ≤ v ∧ v ≤ 9
        · go_enter Try.func47, Try.ntmps47
          go_wp2_with fail
          refine (iwithin a 0 15 true _ (.inl ⟨by omega, by omega, rfl⟩)).mono ?_
          rintro e w1 ⟨rfl, rfl⟩
          go_wp2_with fail
          refine (iwithin v 1 9 true _ (.inl ⟨by omega, by omega, rfl⟩)).mono ?_
          rintro e w1 ⟨rfl, rfl⟩
          go_wp2_with fail
          refine (iwithin 0 0 9 true _ (.inl ⟨by omega, by omega, rfl⟩)).mono ?_
          rintro e w1 ⟨rfl, rfl⟩
          go_wp2_with fail
          refine (iwithin 0 0 1000000000 true _ (.inl ⟨by omega, by omega, rfl⟩)).mono ?_
          rintro e w1 ⟨rfl, rfl⟩
          go_wp2
          go_ret
          refine ⟨?_, by first | exact HB.out | exact (Below.refl _ _).alloc (Nat.le_refl _) _ | (repeat (first | exact HB.out | exact (Below.refl _ _).alloc (Nat.le_refl _) _ | refine Below.setCell ?_ (by simp) _))⟩
          have e : @decide (Rc.mk 5 v a c).Right (Rc.mk 5 v a c).decR = (c == 0) := by
            cases hq : (c == 0) with
            | true => exact dcY (HE.out.2 (by first | omega | (simp_all; done) | (simp_all; omega)))
            | false => exact dcN (fun h => by have := HE.out.1 h; first | omega | (simp_all; done) | (simp_all; omega))
          rw [e]
          rfl
        · go_enter Try.func47, Try.ntmps47
          go_wp2_with fail
          refine (iwithin a 0 15 true _ (.inl ⟨by omega, by omega, rfl⟩)).mono ?_
          rintro e w1 ⟨rfl, rfl⟩
          go_wp2_with fail
          refine (iwithin v 1 9 false _ (.inr ⟨by omega, rfl⟩)).mono ?_
          rintro e w1 ⟨rfl, rfl⟩
          go_wp2
          go_ret
          exact ⟨by rw [dcN (fun h => by have := HE.out.1 h; first | omega | (simp at this; omega) | (simp_all; done) | (simp_all; omega))]; rfl, by first | exact HB.out | exact (Below.refl _ _).alloc (Nat.le_refl _) _ | (repeat (first | exact HB.out | exact (Below.refl _ _).alloc (Nat.le_refl _) _ | refine Below.setCell ?_ (by simp) _))⟩
      · go_enter Try.func47, Try.ntmps47
        go_wp2_with fail
        refine (iwithin a 0 15 false _ (.inr ⟨by omega, rfl⟩)).mono ?_
        rintro e w1 ⟨rfl, rfl⟩
        go_wp2
        go_ret
        exact ⟨by rw [dcN (fun h => by have := HE.out.1 h; first | omega | (simp at this; omega) | (simp_all; done) | (simp_all; omega))]; rfl, by first | exact HB.out | exact (Below.refl _ _).alloc (Nat.le_refl _) _ | (repeat (first | exact HB.out | exact (Below.refl _ _).alloc (Nat.le_refl _) _ | refine Below.setCell ?_ (by simp) _))⟩
  · have n1 : (k == 1) = false := by simp; omega
    have n2 : (k == 2) = false := by simp; omega
    have n3 : (k == 3) = false := by simp; omega
    have n4 : (k == 4) = false := by simp; omega
    have n5 : (k == 5) = false := by simp; omega
    go_enter Try.func47, Try.ntmps47
    go_wp2
    go_ret
    exact ⟨by rw [dcN (fun h => by have := HE.out.1 h; first | omega | (simp at this; omega) | (simp_all; done) | (simp_all; omega))]; rfl, by first | exact HB.out | exact (Below.refl _ _).alloc (Nat.le_refl _) _ | (repeat (first | exact HB.out | exact (Below.refl _ _).alloc (Nat.le_refl _) _ | refine Below.setCell ?_ (by simp) _))⟩
end Go.Proofs.Ytmpmdacfibgepad
