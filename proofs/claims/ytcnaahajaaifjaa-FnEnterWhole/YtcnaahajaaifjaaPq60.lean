/-
  LawEW; LawEWF
-/
import Derived.Test.YtcnaahajaaifjaaPq31
import Derived.Deep.RegionHeld3
import Derived.Deep.DeepCutAuto
import Derived.Test.YtcnaahajaaifjaaPq49
import Derived.Test.YtcnaahajaaifjaaISame
/-
  FnEnterWhole, of what the program answers.
-/
namespace Go.Proofs.Ytcnaahajaaifjaa
open Go.RowKit
open Words

set_option maxHeartbeats 8000000 in
set_option maxRecDepth 100000 in
theorem lawEW_of (ad : Option Addr) (len cap : Nat) (w : World) (hd : CodeIn w ad len w.heap.size) (HA : Hid (EnterAllC 17)) (HM : Hid (SameC 13)) :
    Calls Try.prog 7 #[.slice ad len cap] w fun e w' => e = .returned (.bool true) ∧ Below w.heap.size w w' := by
  have HD := hide hd
  clear hd
  by_cases hbig : (1048576 : Int) < len
  · go_enter Try.func7, Try.ntmps7
    go_wp2_with fail
    refine (big_any ad len cap _).mono ?_
    rintro e w1 ⟨rfl, rfl⟩
    rw [decide_eq_true hbig]
    go_wp2
    go_ret
    exact ⟨rfl, Below.refl _ _⟩
  have hl2 : len ≤ 1048576 := by omega
  have hbd : decide ((1048576 : Int) < len) = false := decide_eq_false hbig
  clear hbig
  go_enter Try.func7, Try.ntmps7
  go_wp2_with fail
  refine (big_any ad len cap _).mono ?_
  rintro e w0 ⟨rfl, hw0⟩
  subst hw0
  rw [hbd]
  clear hbd
  go_wp2_with fail
  refine (dsr_tk (Tk.start w0) hl2 HD.out).mono ?_
  rintro e w1 ⟨va, vl, vc, kd, kl, kc, s, kind, vol, arg, chunk, rfl, ⟨hs, hv, hvl, hkl, hcp⟩, t1, s1⟩
  have HS := hide hs
  have HVL := hide hvl
  have HKL := hide hkl
  have hvl3 : vl ≤ 3 := by rw [hvl]; exact hs.1.few
  have HF := hide (drn_fit hs)
  obtain ⟨E1, E2, hE⟩ : ∃ E1 E2, enterS s ⟨kind, vol, arg, chunk⟩ = (E1, E2) := ⟨_, _, rfl⟩
  have HE := hide hE
  have HER : Hid E1.Right := by
    have := enter_right hs.1 ⟨kind, vol, arg, chunk⟩
    rw [hE] at this
    exact this
  have HEF := hide (right_fit HER.out)
  clear hs hvl hkl hE
  have T2 := hide ((t1.celln rfl #[.slice va vl vc, .slice kd kl kc, .int .i64 s.next] 29).celln (alloc_size rfl _) #[.int .i64 kind, .int .i64 vol, .int .i64 arg, .int .i64 chunk] 31)
  obtain ⟨z, hz⟩ : ∃ z, w1.heap.size = z := ⟨_, rfl⟩
  rw [hz] at T2
  clear t1
  go_upto_region 4 with fail
  try rw [hz]
  generalize (w1.alloc (.cells #[.slice va vl vc, .slice kd kl kc, .int .i64 s.next] 29)).alloc (.cells #[.int .i64 kind, .int .i64 vol, .int .i64 arg, .int .i64 chunk] 31) = w2 at T2 ⊢
  clear hz
  have hee : (E2 == E2) = true := by simp
  have HW : Hid (enterAllS s [⟨kind, vol, arg, chunk⟩, ⟨3, 8, 0, 0⟩] = (s, false)) := whole_no HS.out hv
  have HO : Hid (enterAllS s [⟨kind, vol, arg, chunk⟩] = (E1, E2)) := by show _ = _; rw [all_one]; exact HE.out
  have T3 := hide (T2.out.celln rfl #[.int .i64 kind, .int .i64 vol, .int .i64 arg, .int .i64 chunk, .int .i64 3, .int .i64 8, .int .i64 0, .int .i64 0] 31)
  have c0 : w2.cell? ⟨z, 0, none⟩ = some (.slice va vl vc) := T2.out.at 1 0 rfl rfl
  have c1 : w2.cell? ⟨z, 1, none⟩ = some (.slice kd kl kc) := T2.out.at 1 1 rfl rfl
  have c2 : w2.cell? ⟨z, 2, none⟩ = some (.int .i64 s.next) := T2.out.at 1 2 rfl rfl
  have d0 : w2.cell? ⟨z + 1, 0, none⟩ = some (.int .i64 kind) := T2.out.at 0 0 rfl rfl
  have d1 : w2.cell? ⟨z + 1, 1, none⟩ = some (.int .i64 vol) := T2.out.at 0 1 rfl rfl
  have d2 : w2.cell? ⟨z + 1, 2, none⟩ = some (.int .i64 arg) := T2.out.at 0 2 rfl rfl
  have d3 : w2.cell? ⟨z + 1, 3, none⟩ = some (.int .i64 chunk) := T2.out.at 0 3 rfl rfl
  go_upto_region 5 with fail
  generalize w2.alloc (.cells #[.int .i64 kind, .int .i64 vol, .int .i64 arg, .int .i64 chunk, .int .i64 3, .int .i64 8, .int .i64 0, .int .i64 0] 31) = w3 at T3 ⊢
  have Q3 : Hid (RcRow w3 (some ⟨w2.heap.size, 0, none⟩) 2 ([⟨kind, vol, arg, chunk⟩, ⟨3, 8, 0, 0⟩].map Rc.tu)) := rows_of (l := [⟨kind, vol, arg, chunk⟩, ⟨3, 8, 0, 0⟩]) (by simp) ⟨_, T3.out.get 0 rfl, fun i v hv => by rw [← Array.getElem?_toList]; exact hv⟩
  clear c0 c1 c2 d0 d1 d2 d3 T2
  have c0 : w3.cell? ⟨z, 0, none⟩ = some (.slice va vl vc) := T3.out.at 2 0 rfl rfl
  have c1 : w3.cell? ⟨z, 1, none⟩ = some (.slice kd kl kc) := T3.out.at 2 1 rfl rfl
  have c2 : w3.cell? ⟨z, 2, none⟩ = some (.int .i64 s.next) := T3.out.at 2 2 rfl rfl
  go_wp2_with fail
  refine (gena_tk HA.out HW.out (by decide) Q3.out T3.out 3 HF.out rfl).mono ?_
  rintro e w4 ⟨x4, xl4, xc4, y4, yl4, yc4, rfl, -, t4, s4⟩
  have T5 := hide (t4.celln rfl #[.slice x4 xl4 xc4, .slice y4 yl4 yc4, .int .i64 s.next] 29)
  clear t4
  clear c0 c1 c2 T3 Q3
  go_upto_region 6 with fail
  generalize w4.alloc (.cells #[.slice x4 xl4 xc4, .slice y4 yl4 yc4, .int .i64 s.next] 29) = w5 at T5 ⊢
  have T6 := hide (T5.out.celln rfl #[.int .i64 kind, .int .i64 vol, .int .i64 arg, .int .i64 chunk] 31)
  have Q6 : Hid (RcRow (w5.alloc (.cells #[.int .i64 kind, .int .i64 vol, .int .i64 arg, .int .i64 chunk] 31)) (some ⟨w5.heap.size, 0, none⟩) 1 ([⟨kind, vol, arg, chunk⟩].map Rc.tu)) := rows_of (l := [⟨kind, vol, arg, chunk⟩]) (by simp) ⟨_, T6.out.get 0 rfl, fun i v hv => by rw [← Array.getElem?_toList]; exact hv⟩
  have c0 : w5.cell? ⟨z, 0, none⟩ = some (.slice va vl vc) := T5.out.at 4 0 rfl rfl
  have c1 : w5.cell? ⟨z, 1, none⟩ = some (.slice kd kl kc) := T5.out.at 4 1 rfl rfl
  have c2 : w5.cell? ⟨z, 2, none⟩ = some (.int .i64 s.next) := T5.out.at 4 2 rfl rfl
  have d0 : w5.cell? ⟨z + 1, 0, none⟩ = some (.int .i64 kind) := T5.out.at 3 0 rfl rfl
  have d1 : w5.cell? ⟨z + 1, 1, none⟩ = some (.int .i64 vol) := T5.out.at 3 1 rfl rfl
  have d2 : w5.cell? ⟨z + 1, 2, none⟩ = some (.int .i64 arg) := T5.out.at 3 2 rfl rfl
  have d3 : w5.cell? ⟨z + 1, 3, none⟩ = some (.int .i64 chunk) := T5.out.at 3 3 rfl rfl
  go_wp2_with fail
  generalize w5.alloc (.cells #[.int .i64 kind, .int .i64 vol, .int .i64 arg, .int .i64 chunk] 31) = w6 at T6 Q6 ⊢
  refine (gena_tk HA.out HO.out (by decide) Q6.out T6.out 6 HF.out rfl).mono ?_
  rintro e w7 ⟨x7, xl7, xc7, y7, yl7, yc7, rfl, -, t7, s7⟩
  have T8 := hide (t7.celln rfl #[.slice x7 xl7 xc7, .slice y7 yl7 yc7, .int .i64 E1.next] 29)
  clear t7
  clear c0 c1 c2 d0 d1 d2 d3 T5 T6 Q6
  go_upto_region 7 with fail
  generalize w7.alloc (.cells #[.slice x7 xl7 xc7, .slice y7 yl7 yc7, .int .i64 E1.next] 29) = w8 at T8 ⊢
  have c0 : w8.cell? ⟨z, 0, none⟩ = some (.slice va vl vc) := T8.out.at 7 0 rfl rfl
  have c1 : w8.cell? ⟨z, 1, none⟩ = some (.slice kd kl kc) := T8.out.at 7 1 rfl rfl
  have c2 : w8.cell? ⟨z, 2, none⟩ = some (.int .i64 s.next) := T8.out.at 7 2 rfl rfl
  have d0 : w8.cell? ⟨z + 1, 0, none⟩ = some (.int .i64 kind) := T8.out.at 6 0 rfl rfl
  have d1 : w8.cell? ⟨z + 1, 1, none⟩ = some (.int .i64 vol) := T8.out.at 6 1 rfl rfl
  have d2 : w8.cell? ⟨z + 1, 2, none⟩ = some (.int .i64 arg) := T8.out.at 6 2 rfl rfl
  have d3 : w8.cell? ⟨z + 1, 3, none⟩ = some (.int .i64 chunk) := T8.out.at 6 3 rfl rfl
  go_wp2_with fail
  refine (sent_tk HE.out T8.out 8 HF.out hcp rfl).mono ?_
  rintro e w9 ⟨x9, xl9, xc9, y9, yl9, yc9, rfl, -, t9, s9⟩
  have T10 := hide (t9.celln rfl #[.slice x9 xl9 xc9, .slice y9 yl9 yc9, .int .i64 E1.next] 29)
  clear t9
  clear c0 c1 c2 d0 d1 d2 d3 T8
  go_upto_region 8 with fail
  generalize w9.alloc (.cells #[.slice x9 xl9 xc9, .slice y9 yl9 yc9, .int .i64 E1.next] 29) = w10 at T10 ⊢
  have c0 : w10.cell? ⟨z, 0, none⟩ = some (.slice va vl vc) := T10.out.at 9 0 rfl rfl
  have c1 : w10.cell? ⟨z, 1, none⟩ = some (.slice kd kl kc) := T10.out.at 9 1 rfl rfl
  have c2 : w10.cell? ⟨z, 2, none⟩ = some (.int .i64 s.next) := T10.out.at 9 2 rfl rfl
  have f0 : w10.cell? ⟨w4.heap.size, 0, none⟩ = some (.slice x4 xl4 xc4) := T10.out.at 5 0 rfl rfl
  have f1 : w10.cell? ⟨w4.heap.size, 1, none⟩ = some (.slice y4 yl4 yc4) := T10.out.at 5 1 rfl rfl
  have f2 : w10.cell? ⟨w4.heap.size, 2, none⟩ = some (.int .i64 s.next) := T10.out.at 5 2 rfl rfl
  go_wp2_with fail
  refine (gsam_tk HM.out (same_self s) T10.out 6 10 HF.out HF.out rfl rfl).mono ?_
  rintro e w11 ⟨rfl, t11, s11⟩
  have T11 := hide t11
  clear t11 T10 c0 c1 c2 f0 f1 f2
  have c0 : w11.cell? ⟨w7.heap.size, 0, none⟩ = some (.slice x7 xl7 xc7) := T11.out.at 2 0 rfl rfl
  have c1 : w11.cell? ⟨w7.heap.size, 1, none⟩ = some (.slice y7 yl7 yc7) := T11.out.at 2 1 rfl rfl
  have c2 : w11.cell? ⟨w7.heap.size, 2, none⟩ = some (.int .i64 E1.next) := T11.out.at 2 2 rfl rfl
  have f0 : w11.cell? ⟨w9.heap.size, 0, none⟩ = some (.slice x9 xl9 xc9) := T11.out.at 0 0 rfl rfl
  have f1 : w11.cell? ⟨w9.heap.size, 1, none⟩ = some (.slice y9 yl9 yc9) := T11.out.at 0 1 rfl rfl
  have f2 : w11.cell? ⟨w9.heap.size, 2, none⟩ = some (.int .i64 E1.next) := T11.out.at 0 2 rfl rfl
  go_wp2_with fail
  refine (gsam_tk HM.out (same_self E1) T11.out 3 1 HEF.out HEF.out rfl rfl).mono ?_
  rintro e w12 ⟨rfl, t12, s12⟩
  have B12 := hide t12.1
  clear t12 T11
  go_wp2
  go_ret
  exact ⟨rfl, B12.out⟩
end Go.Proofs.Ytcnaahajaaifjaa

/-
  FnEnterWhole, whole.
-/
namespace Go.Proofs.Ytcnaahajaaifjaa
open Go.RowKit
open Words

theorem lawEW (ad : Option Addr) (len cap : Nat) (w : World) (hd : CodeIn w ad len w.heap.size) :
    Calls Try.prog 7 #[.slice ad len cap] w fun e w' => e = .returned (.bool true) ∧ Below w.heap.size w w' := lawEW_of ad len cap w hd ienterAll isame
end Go.Proofs.Ytcnaahajaaifjaa
