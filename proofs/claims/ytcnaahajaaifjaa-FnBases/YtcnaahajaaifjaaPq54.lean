/-
  LawBs; INewS; LawBsF
-/
import Derived.Test.YtcnaahajaaifjaaPq31
import Derived.Test.YtcnaahajaaifjaaPq52
import Derived.Test.YtcnaahajaaifjaaPlTk
import Derived.Test.YtcnaahajaaifjaaPq53
import Derived.Deep.RegionHeld3
import Derived.Deep.DeepCutAuto
import Derived.Test.YtcnaahajaaifjaaPq12
import Derived.Test.YtcnaahajaaifjaaPq49
import Derived.Test.YtcnaahajaaifjaaISame
/-
  FnBases, of what the program answers.
-/
namespace Go.Proofs.Ytcnaahajaaifjaa
open Go.RowKit
open Words

set_option maxHeartbeats 8000000 in
set_option maxRecDepth 100000 in
theorem lawBs_of (ad : Option Addr) (len cap : Nat) (w : World) (hd : CodeIn w ad len w.heap.size) (HB : Hid (BaseC 16)) (HN : Hid (NewC 18)) (HA : Hid (EnterAllC 17)) (HM : Hid (SameC 13)) :
    Calls Try.prog 4 #[.slice ad len cap] w fun e w' => e = .returned (.bool true) ∧ Below w.heap.size w w' := by
  have HD := hide hd
  clear hd
  by_cases hbig : (1048576 : Int) < len
  · go_enter Try.func4, Try.ntmps4
    go_wp2_with fail
    refine (big_any ad len cap _).mono ?_
    rintro e w1 ⟨rfl, rfl⟩
    rw [decide_eq_true hbig]
    go_wp2
    go_ret
    exact ⟨rfl, Below.refl _ _⟩
  have hl2 : len ≤ 1048576 := by omega
  have hbd : decide ((1048576 : Int) < len) = false := decide_eq_false hbig
  clear hbig
  go_enter Try.func4, Try.ntmps4
  go_wp2_with fail
  refine (big_any ad len cap _).mono ?_
  rintro e w0 ⟨rfl, hw0⟩
  subst hw0
  rw [hbd]
  clear hbd
  go_wp2_with fail
  refine (dsr_tk (Tk.start w0) hl2 HD.out).mono ?_
  rintro e w1 ⟨va, vl, vc, kd, kl, kc, s, kind, vol, arg, chunk, rfl, ⟨hs, hv, hvl, hkl, hcp⟩, t1, s1⟩
  have HS := hide hs
  have HVL := hide hvl
  have HKL := hide hkl
  have hvl3 : vl ≤ 3 := by rw [hvl]; exact hs.1.few
  have HF := hide (drn_fit hs)
  obtain ⟨E1, E2, hE⟩ : ∃ E1 E2, enterS s ⟨kind, vol, arg, chunk⟩ = (E1, E2) := ⟨_, _, rfl⟩
  have HE := hide hE
  have HER : Hid E1.Right := by
    have := enter_right hs.1 ⟨kind, vol, arg, chunk⟩
    rw [hE] at this
    exact this
  have HEF := hide (right_fit HER.out)
  clear hs hvl hkl hE
  have T2 := hide ((t1.celln rfl #[.slice va vl vc, .slice kd kl kc, .int .i64 s.next] 29).celln (alloc_size rfl _) #[.int .i64 kind, .int .i64 vol, .int .i64 arg, .int .i64 chunk] 31)
  obtain ⟨z, hz⟩ : ∃ z, w1.heap.size = z := ⟨_, rfl⟩
  rw [hz] at T2
  clear t1
  go_upto_region 4 with fail
  try rw [hz]
  generalize (w1.alloc (.cells #[.slice va vl vc, .slice kd kl kc, .int .i64 s.next] 29)).alloc (.cells #[.int .i64 kind, .int .i64 vol, .int .i64 arg, .int .i64 chunk] 31) = w2 at T2 ⊢
  clear hz
  clear E1 E2 HE HER HEF
  obtain ⟨B, hB⟩ : ∃ B, baseS s = B := ⟨_, rfl⟩
  obtain ⟨nb, hnb⟩ : ∃ nb, B.length = nb := ⟨_, rfl⟩
  have HBB := hide hB
  have HNB := hide hnb
  have nbb : nb ≤ 52 := by
    have h1 := base_bound s
    have h2 := HVL.out
    rw [hB, hnb] at h1
    omega
  have nb1 : 1 ≤ nb := by
    rw [← hnb, ← hB]
    simp [baseS]
  have HB0 : Hid (∃ q, B = ⟨1, 0, s.next, 0⟩ :: q) := ⟨s.vols.flatMap (baseV s.kns), by rw [← hB]; rfl⟩
  obtain ⟨A1, f1, f2, f3, f4⟩ := base_again HS.out.1 new_right
  obtain ⟨A2, g1, g2, g3, g4⟩ := base_again HS.out.1 HS.out.1
  rw [hB] at f1 g1
  have F1 : Hid (enterAllS stoNew B = (A1, true)) := go_all f1
  have F2 := hide f2
  have F3 : Hid (sameS A1 s = true) := same_of f3 f4
  have G1 : Hid (enterAllS s B = (A2, true)) := go_all g1
  have G2 := hide g2
  have G3 : Hid (sameS A2 s = true) := same_of g3 g4
  clear f1 f2 f3 f4 g1 g2 g3 g4 hB hnb
  have c0 : w2.cell? ⟨z, 0, none⟩ = some (.slice va vl vc) := T2.out.at 1 0 rfl rfl
  have c1 : w2.cell? ⟨z, 1, none⟩ = some (.slice kd kl kc) := T2.out.at 1 1 rfl rfl
  have c2 : w2.cell? ⟨z, 2, none⟩ = some (.int .i64 s.next) := T2.out.at 1 2 rfl rfl
  go_wp2_with fail
  refine (gbase_tk HB.out HBB.out HNB.out T2.out 2 HF.out rfl).mono ?_
  rintro e w3 ⟨ba, bc, rfl, hbc, t3, s3⟩
  obtain ⟨bg, hbg, -⟩ := (show Sli 31 _ _ _ _ _ _ from t3.get 0 rfl).adr2 (by omega)
  subst hbg
  have T3 := hide t3
  clear t3 T2 c0 c1 c2
  have RW : Hid (∀ W, Sli 31 w2.heap.size w3.heap.size (.slice (some ⟨bg, 0, none⟩) nb bc) nb (rccells (B.map Rc.tu)) W → RcRow W (some ⟨bg, 0, none⟩) nb (B.map Rc.tu)) := fun W h => rows_sl h HNB.out (by omega)
  go_wp2_with fail
  refine (gnew_tk HN.out T3.out).mono ?_
  rintro e w4 ⟨x4, xc4, y4, yc4, rfl, t4, s4⟩
  have T4 := hide t4
  clear t4 T3
  go_wp2_with fail
  refine (gena_tk HA.out F1.out (by omega) (RW.out _ (T4.out.get 1 rfl)) T4.out 0 (right_fit new_right) rfl).mono ?_
  rintro e w5 ⟨x5, xl5, xc5, y5, yl5, yc5, rfl, -, t5', s5⟩
  have t5 := t5'.drop (hs' := [(w4.heap.size, w5.heap.size, Sts w4.heap.size w5.heap.size (.agg #[.slice x5 xl5 xc5, .slice y5 yl5 yc5, .int .i64 A1.next]) A1), (w2.heap.size, w3.heap.size, Sli 31 w2.heap.size w3.heap.size (.slice (some ⟨bg, 0, none⟩) nb bc) nb (rccells (B.map Rc.tu))), (z + 1, z + 1 + 1, Cel (z + 1) #[.int .i64 kind, .int .i64 vol, .int .i64 arg, .int .i64 chunk] 31), (z, z + 1, Cel z #[.slice va vl vc, .slice kd kl kc, .int .i64 s.next] 29), (w0.heap.size, z, Sts w0.heap.size z (.agg #[.slice va vl vc, .slice kd kl kc, .int .i64 s.next]) s)]) (by intro x hx; simp only [List.mem_cons, List.not_mem_nil, or_false] at hx ⊢; rcases hx with rfl | rfl | rfl | rfl | rfl <;> simp)
  have T6 := hide (t5.celln rfl #[.slice x5 xl5 xc5, .slice y5 yl5 yc5, .int .i64 A1.next] 29)
  clear t5 t5' T4
  go_upto_region 6 with fail
  generalize w5.alloc (.cells #[.slice x5 xl5 xc5, .slice y5 yl5 yc5, .int .i64 A1.next] 29) = w6 at T6 ⊢
  have c0 : w6.cell? ⟨z, 0, none⟩ = some (.slice va vl vc) := T6.out.at 4 0 rfl rfl
  have c1 : w6.cell? ⟨z, 1, none⟩ = some (.slice kd kl kc) := T6.out.at 4 1 rfl rfl
  have c2 : w6.cell? ⟨z, 2, none⟩ = some (.int .i64 s.next) := T6.out.at 4 2 rfl rfl
  go_wp2_with fail
  refine (gena_tk HA.out G1.out (by omega) (RW.out _ (T6.out.get 2 rfl)) T6.out 5 HF.out rfl).mono ?_
  rintro e w7 ⟨x7, xl7, xc7, y7, yl7, yc7, rfl, -, t7, s7⟩
  have T8 := hide (t7.celln rfl #[.slice x7 xl7 xc7, .slice y7 yl7 yc7, .int .i64 A2.next] 29)
  clear t7 T6 c0 c1 c2
  go_upto_region 7 with fail
  generalize w7.alloc (.cells #[.slice x7 xl7 xc7, .slice y7 yl7 yc7, .int .i64 A2.next] 29) = w8 at T8 ⊢
  go_wp2_with fail
  refine (places_tk T8.out hl2 HD.out).mono ?_
  rintro e w9 ⟨pg, cp, l, rfl, ⟨h12, hx⟩, t9, s9⟩
  have T9 := hide t9
  change Hid (Tk w0 w9 [(pg, pg + 1, PlH pg l), (w7.heap.size, w7.heap.size + 1, Cel w7.heap.size #[.slice x7 xl7 xc7, .slice y7 yl7 yc7, .int .i64 A2.next] 29), (w6.heap.size, w7.heap.size, Sts w6.heap.size w7.heap.size (.agg #[.slice x7 xl7 xc7, .slice y7 yl7 yc7, .int .i64 A2.next]) A2), (w5.heap.size, w5.heap.size + 1, Cel w5.heap.size #[.slice x5 xl5 xc5, .slice y5 yl5 yc5, .int .i64 A1.next] 29), (w4.heap.size, w5.heap.size, Sts w4.heap.size w5.heap.size (.agg #[.slice x5 xl5 xc5, .slice y5 yl5 yc5, .int .i64 A1.next]) A1), (w2.heap.size, w3.heap.size, Sli 31 w2.heap.size w3.heap.size (.slice (some ⟨bg, 0, none⟩) nb bc) nb (rccells (B.map Rc.tu))), (z + 1, z + 1 + 1, Cel (z + 1) #[.int .i64 kind, .int .i64 vol, .int .i64 arg, .int .i64 chunk] 31), (z, z + 1, Cel z #[.slice va vl vc, .slice kd kl kc, .int .i64 s.next] 29), (w0.heap.size, z, Sts w0.heap.size z (.agg #[.slice va vl vc, .slice kd kl kc, .int .i64 s.next]) s)]) at T9
  obtain ⟨p0, e0⟩ : ∃ x, l[0]? = some x := ⟨_, List.getElem?_eq_getElem (by omega)⟩
  have y0 := hx p0 (List.mem_of_getElem? e0)
  obtain ⟨k, hk⟩ : ∃ k, p0.toNat % (nb + 1) = k := ⟨_, rfl⟩
  have kn : k ≤ nb := by have := Nat.mod_lt p0.toNat (show 0 < nb + 1 by omega); omega
  have m0 : p0.tmod ((nb : Int) + 1) = (k : Int) := by
    rw [Int.tmod_eq_emod_of_nonneg y0.1, ← hk]
    have : p0 = (p0.toNat : Int) := by omega
    have e1 : (nb : Int) + 1 = ((nb + 1 : Nat) : Int) := by omega
    rw [this, Int.toNat_natCast, e1, Int.natCast_emod]
  have wn : IntKind.i64.wrap ((nb : Int) + 1) = (nb : Int) + 1 := by rw [IntKind.wrap_i64]; omega
  have ne1 : ¬ ((nb : Int) + 1 = 0) := by omega
  have q0 : w9.cell? ⟨pg, 0, none⟩ = some (.int .i64 p0) := (T9.out.get 0 rfl) 0 p0 e0
  clear t9 T8 hx h12 e0 hk y0
  obtain ⟨P1, P2, h1, h2, h3⟩ := base_parts HS.out.1 new_right k
  rw [HBB.out] at h1 h2
  have PR1 := hide (go_fit new_right h1)
  have PR2 := hide (go_fit (go_fit new_right h1) h2)
  have H1 : Hid (enterAllS stoNew (B.take k) = (P1, true)) := go_all h1
  have H2 : Hid (enterAllS P1 (B.drop k) = (P2, true)) := go_all h2
  have H3 := hide h3
  clear h1 h2 h3
  go_upto_region 8 with fail
  have kt : ∀ W : World, (Instr.slice 39 (.slice (some ⟨bg, 0, none⟩) nb bc) none (some (.int .i64 (k : Int))) none).run Try.prog W = .ok (.slice (some ⟨bg, 0, none⟩) k bc) W := fun W => rtake_run _ nb bc k W (by omega)
  have B0d := hide ((Below.refl w9.heap.size w9).drew)
  have B0e := hide (((Below.refl w9.heap.size w9).alloc (Nat.le_refl _) (.cells #[.slice none 0 0, .slice none 0 0, .int .i64 0] 29)).drew)
  have CN : Hid (∀ W, Below w9.heap.size w9 W → Calls Try.prog 18 #[] W fun e w' => ∃ x xc y yc, e = .returned (.agg #[.slice x 0 xc, .slice y 0 yc, .int .i64 1]) ∧ StIn w' (.agg #[.slice x 0 xc, .slice y 0 yc, .int .i64 1]) stoNew ∧ Below W.heap.size W w') := fun W _ => by
    refine (HN.out W).mono ?_
    rintro e w' ⟨u, rfl, hu⟩
    have hr := hu.rd (right_fit new_right)
    obtain ⟨x, xc, y, yc, rfl⟩ := hu.sts.form
    exact ⟨x, xc, y, yc, rfl, hr, hu.blw⟩
  have CA : Hid (∀ W x xc y yc, Below w9.heap.size w9 W → StIn W (.agg #[.slice x 0 xc, .slice y 0 yc, .int .i64 1]) stoNew → Calls Try.prog 17 #[.agg #[.slice x 0 xc, .slice y 0 yc, .int .i64 1], .slice (some ⟨bg, 0, none⟩) k bc] W fun e w' => ∃ x xl xc y yl yc, e = .returned (.tuple #[.agg #[.slice x xl xc, .slice y yl yc, .int .i64 P1.next], .bool true]) ∧ StOut W P1 (.agg #[.slice x xl xc, .slice y yl yc, .int .i64 P1.next]) w') := fun W x xc y yc hW hi => by
    refine (HA.out _ stoNew (some ⟨bg, 0, none⟩) k bc (B.take k) W (by omega) hi ((RW.out _ ((T9.out.below hW).get 5 rfl)).takeR kn)).mono ?_
    rintro e w' ⟨u, rfl, hu⟩
    rw [H1.out] at hu
    simp only at hu
    obtain ⟨x, xl, xc, y, yl, yc, rfl⟩ := hu.form
    rw [H1.out]
    exact ⟨x, xl, xc, y, yl, yc, rfl, hu⟩
  clear q0
  go_cut [11, 12] (fun s11 s12 wc => s12 = .bool true ∧ ∃ (c : Nat) (x : Option Addr) (xl xc : Nat) (y : Option Addr) (yl yc : Nat), s11 = .pointer (some ⟨c, 0, none⟩) ∧ Hid (Gs w0 wc [(pg, pg + 1, PlH pg l), (w7.heap.size, w7.heap.size + 1, Cel w7.heap.size #[.slice x7 xl7 xc7, .slice y7 yl7 yc7, .int .i64 A2.next] 29), (w6.heap.size, w7.heap.size, Sts w6.heap.size w7.heap.size (.agg #[.slice x7 xl7 xc7, .slice y7 yl7 yc7, .int .i64 A2.next]) A2), (w5.heap.size, w5.heap.size + 1, Cel w5.heap.size #[.slice x5 xl5 xc5, .slice y5 yl5 yc5, .int .i64 A1.next] 29), (w4.heap.size, w5.heap.size, Sts w4.heap.size w5.heap.size (.agg #[.slice x5 xl5 xc5, .slice y5 yl5 yc5, .int .i64 A1.next]) A1), (w2.heap.size, w3.heap.size, Sli 31 w2.heap.size w3.heap.size (.slice (some ⟨bg, 0, none⟩) nb bc) nb (rccells (B.map Rc.tu))), (z + 1, z + 1 + 1, Cel (z + 1) #[.int .i64 kind, .int .i64 vol, .int .i64 arg, .int .i64 chunk] 31), (z, z + 1, Cel z #[.slice va vl vc, .slice kd kl kc, .int .i64 s.next] 29), (w0.heap.size, z, Sts w0.heap.size z (.agg #[.slice va vl vc, .slice kd kl kc, .int .i64 s.next]) s)] w9.heap.size c (.slice x xl xc) (.slice y yl yc) P1))
  case first =>
    go_region_held3 (fun _ => True) (trivial) (first
      | (go_at_call 18; (with_reducible refine Calls.mono (CN.out _ (by first | exact B0d.out | exact B0e.out)) ?_); rintro en y1 ⟨x1, xc1, z1, zc1, rfl, f1, b1⟩; have B1 := hide (bel_tr (by first | exact B0d.out | exact B0e.out) (by simp) b1); have R1d := hide f1; have B1a := hide (B1.out.alloc B1.out.size (.cells #[.slice none 0 0, .slice none 0 0, .int .i64 0] 29)); have R1a := hide (f1.below ((Below.refl _ _).alloc (Nat.le_refl _) (.cells #[.slice none 0 0, .slice none 0 0, .int .i64 0] 29))); (try have Z1 := hide ((b1.block w9.heap.size (by simp)).trans (show (w9.alloc (.cells #[.slice none 0 0, .slice none 0 0, .int .i64 0] 29)).drew.heap[w9.heap.size]? = _ from heap_alloc_new w9 (.cells #[.slice none 0 0, .slice none 0 0, .int .i64 0] 29)))); clear b1 f1)
      | (go_at_call 17; (with_reducible refine Calls.mono (CA.out _ _ _ _ _ (by first | exact B1.out | exact B1a.out) (by first | exact R1d.out | exact R1a.out)) ?_); rintro en y3 ⟨x3, xl3, xc3, z3, yl3, yc3, rfl, f3⟩; have B3 := hide (bel_tr (by first | exact B1.out | exact B1a.out) (by first | exact B1.out.size | exact B1a.out.size) f3.blw); have F3' := hide f3; (try have Z3 := hide ((f3.blw.block _ (Array.getElem?_eq_some_iff.1 Z1.out).1).trans Z1.out)); (try have Y3 := hide ((f3.blw.block y1.heap.size (by simp)).trans (heap_alloc_new y1 (.cells #[.slice none 0 0, .slice none 0 0, .int .i64 0] 29)))); (try have nZ0 := cell_of_row _ _ 0 _ _ _ Z3.out); (try have nZ1 := cell_of_row _ _ 1 _ _ _ Z3.out); (try have nZ2 := cell_of_row _ _ 2 _ _ _ Z3.out); (try have fZ0 := frozen_of_row _ _ 0 _ _ Z3.out); (try have fZ1 := frozen_of_row _ _ 1 _ _ Z3.out); (try have fZ2 := frozen_of_row _ _ 2 _ _ Z3.out); (try have nY0 := cell_of_row _ _ 0 _ _ _ Y3.out); (try have nY1 := cell_of_row _ _ 1 _ _ _ Y3.out); (try have nY2 := cell_of_row _ _ 2 _ _ _ Y3.out); (try have fY0 := frozen_of_row _ _ 0 _ _ Y3.out); (try have fY1 := frozen_of_row _ _ 1 _ _ Y3.out); (try have fY2 := frozen_of_row _ _ 2 _ _ Y3.out); clear f3))
    all_goals
      go_wp2_with fail
      go_meet
      case rel => first
        | exact ⟨rfl, _, _, _, _, _, _, _, rfl, hide (Gs.late T9.out B3.out F3'.out B1.out.size)⟩
        | exact ⟨rfl, _, _, _, _, _, _, _, rfl, hide (Gs.early T9.out B3.out F3'.out Z3.out (Nat.le_refl _) (Array.getElem?_eq_some_iff.1 Z1.out).1)⟩
        | exact ⟨rfl, _, _, _, _, _, _, _, rfl, hide (Gs.early T9.out B3.out F3'.out Y3.out B1.out.size (by simp))⟩
  case rest =>
    obtain ⟨w11, hwc⟩ : ∃ w11, w11 = wc := ⟨_, rfl⟩
    subst hwc
    obtain ⟨hs12, c11, x11, xl11, xc11, y11, yl11, yc11, hs11, hg⟩ := hcut
    subst hs12 hs11
    obtain ⟨lo11, hi11, -, -, -, t11⟩ := hg.out
    have T11 := hide t11
    clear t11 hg B0d B0e CN CA T9 kt
    obtain ⟨xa, hxa⟩ : ∃ xa, (if bc = k then some (⟨bg, 0, none⟩ : Addr) else some ⟨bg, 0 + k * 4, none⟩) = xa := ⟨_, rfl⟩
    have kd' : ∀ W : World, (Instr.slice 39 (.slice (some ⟨bg, 0, none⟩) nb bc) (some (.int .i64 (k : Int))) none none).run Try.prog W = .ok (.slice xa (nb - k) (bc - k)) W := fun W => by
      have := rdrop_run bg 0 nb bc k W kn
      rw [hxa] at this
      exact this
    have HXA := hide hxa
    clear hxa
    go_upto_region 9 with fail
    have KK : Hid (∀ W, Below w11.heap.size w11 W → W.cell? ⟨c11, 0, none⟩ = some (.slice x11 xl11 xc11) ∧ W.cell? ⟨c11, 1, none⟩ = some (.slice y11 yl11 yc11) ∧ W.cell? ⟨c11, 2, none⟩ = some (.int .i64 P1.next)) := fun W hW => by
      have t := T11.out.below hW
      exact ⟨t.at 0 0 rfl rfl, t.at 0 1 rfl rfl, t.at 0 2 rfl rfl⟩
    have B0d := hide ((Below.refl w11.heap.size w11).drew)
    have B0e := hide (((Below.refl w11.heap.size w11).alloc (Nat.le_refl _) (.cells #[.slice none 0 0, .slice none 0 0, .int .i64 0] 29)).drew)
    obtain ⟨cc0, cc1, cc2⟩ := KK.out _ (Below.refl _ _)
    have CA : Hid (∀ W, Below w11.heap.size w11 W → Calls Try.prog 17 #[.agg #[.slice x11 xl11 xc11, .slice y11 yl11 yc11, .int .i64 P1.next], .slice xa (nb - k) (bc - k)] W fun e w' => ∃ x xl xc y yl yc, e = .returned (.tuple #[.agg #[.slice x xl xc, .slice y yl yc, .int .i64 P2.next], .bool true]) ∧ StOut W P2 (.agg #[.slice x xl xc, .slice y yl yc, .int .i64 P2.next]) w') := fun W hW => by
      have t := T11.out.below hW
      have hr := (RW.out _ (t.get 7 rfl)).dropR hbc kn
      rw [HXA.out] at hr
      refine (HA.out _ P1 xa (nb - k) (bc - k) (B.drop k) W (by omega) ((t.get 1 rfl).rd (right_fit PR1.out) (t.hi 1 rfl)) hr).mono ?_
      rintro e w' ⟨u, rfl, hu⟩
      rw [H2.out] at hu
      simp only at hu
      obtain ⟨x, xl, xc, y, yl, yc, rfl⟩ := hu.form
      rw [H2.out]
      exact ⟨x, xl, xc, y, yl, yc, rfl, hu⟩
    go_cut [13, 14] (fun s13 s14 wc => s14 = .bool true ∧ ∃ (c : Nat) (x : Option Addr) (xl xc : Nat) (y : Option Addr) (yl yc : Nat), s13 = .pointer (some ⟨c, 0, none⟩) ∧ Hid (Gs w0 wc [(c11, c11 + 1, Cel c11 #[.slice x11 xl11 xc11, .slice y11 yl11 yc11, .int .i64 P1.next] 29), (lo11, hi11, Sts lo11 hi11 (.agg #[.slice x11 xl11 xc11, .slice y11 yl11 yc11, .int .i64 P1.next]) P1), (pg, pg + 1, PlH pg l), (w7.heap.size, w7.heap.size + 1, Cel w7.heap.size #[.slice x7 xl7 xc7, .slice y7 yl7 yc7, .int .i64 A2.next] 29), (w6.heap.size, w7.heap.size, Sts w6.heap.size w7.heap.size (.agg #[.slice x7 xl7 xc7, .slice y7 yl7 yc7, .int .i64 A2.next]) A2), (w5.heap.size, w5.heap.size + 1, Cel w5.heap.size #[.slice x5 xl5 xc5, .slice y5 yl5 yc5, .int .i64 A1.next] 29), (w4.heap.size, w5.heap.size, Sts w4.heap.size w5.heap.size (.agg #[.slice x5 xl5 xc5, .slice y5 yl5 yc5, .int .i64 A1.next]) A1), (w2.heap.size, w3.heap.size, Sli 31 w2.heap.size w3.heap.size (.slice (some ⟨bg, 0, none⟩) nb bc) nb (rccells (B.map Rc.tu))), (z + 1, z + 1 + 1, Cel (z + 1) #[.int .i64 kind, .int .i64 vol, .int .i64 arg, .int .i64 chunk] 31), (z, z + 1, Cel z #[.slice va vl vc, .slice kd kl kc, .int .i64 s.next] 29), (w0.heap.size, z, Sts w0.heap.size z (.agg #[.slice va vl vc, .slice kd kl kc, .int .i64 s.next]) s)] w11.heap.size c (.slice x xl xc) (.slice y yl yc) P2))
    case first =>
      go_region_held3 (fun w' => w'.cell? ⟨c11, 0, none⟩ = some (.slice x11 xl11 xc11) ∧ w'.cell? ⟨c11, 1, none⟩ = some (.slice y11 yl11 yc11) ∧ w'.cell? ⟨c11, 2, none⟩ = some (.int .i64 P1.next)) (first | go_keep | exact KK.out _ B0d.out | exact KK.out _ B0e.out | exact KK.out _ B3.out | exact KK.out _ (B3.out.alloc B3.out.size _) | exact KK.out _ (bel3 B3.out (Nat.le_refl _) _ _ _)) (first
        | (go_at_call 17; (with_reducible refine Calls.mono (CA.out _ (by first | exact B0d.out | exact B0e.out)) ?_); rintro en y3 ⟨x3, xl3, xc3, z3, yl3, yc3, rfl, f3⟩; have B3 : Hid (Below w11.heap.size w11 y3) := (by first | exact bel_tr B0d.out B0d.out.size f3.blw | exact bel_tr B0e.out B0e.out.size f3.blw); (try have Z3 := hide ((f3.blw.block w11.heap.size (by simp)).trans (show (w11.alloc (.cells #[.slice none 0 0, .slice none 0 0, .int .i64 0] 29)).drew.heap[w11.heap.size]? = _ from heap_alloc_new w11 (.cells #[.slice none 0 0, .slice none 0 0, .int .i64 0] 29)))); have F3' := hide f3; (try have nZ0 := cell_of_row _ _ 0 _ _ _ Z3.out); (try have nZ1 := cell_of_row _ _ 1 _ _ _ Z3.out); (try have nZ2 := cell_of_row _ _ 2 _ _ _ Z3.out); (try have fZ0 := frozen_of_row _ _ 0 _ _ Z3.out); (try have fZ1 := frozen_of_row _ _ 1 _ _ Z3.out); (try have fZ2 := frozen_of_row _ _ 2 _ _ Z3.out); clear f3))
      all_goals
        go_wp2_with fail
        go_meet
        case rel => first
          | exact ⟨rfl, _, _, _, _, _, _, _, rfl, hide (Gs.late T11.out B3.out F3'.out B0d.out.size)⟩
          | exact ⟨rfl, _, _, _, _, _, _, _, rfl, hide (Gs.early T11.out B3.out F3'.out Z3.out (Nat.le_refl _) (by simp))⟩
    case rest =>
      obtain ⟨w13, hwc⟩ : ∃ w13, w13 = wc := ⟨_, rfl⟩
      subst hwc
      obtain ⟨hs14, c13, x13, xl13, xc13, y13, yl13, yc13, hs13, hg⟩ := hcut
      subst hs14 hs13
      obtain ⟨lo13, hi13, -, -, -, t13⟩ := hg.out
      have T13 := hide t13
      clear t13 hg B0d B0e CA T11 kd' KK cc0 cc1 cc2
      have c0 : w13.cell? ⟨z, 0, none⟩ = some (.slice va vl vc) := T13.out.at 11 0 rfl rfl
      have c1 : w13.cell? ⟨z, 1, none⟩ = some (.slice kd kl kc) := T13.out.at 11 1 rfl rfl
      have c2 : w13.cell? ⟨z, 2, none⟩ = some (.int .i64 s.next) := T13.out.at 11 2 rfl rfl
      have f0 : w13.cell? ⟨w5.heap.size, 0, none⟩ = some (.slice x5 xl5 xc5) := T13.out.at 7 0 rfl rfl
      have f1 : w13.cell? ⟨w5.heap.size, 1, none⟩ = some (.slice y5 yl5 yc5) := T13.out.at 7 1 rfl rfl
      have f2 : w13.cell? ⟨w5.heap.size, 2, none⟩ = some (.int .i64 A1.next) := T13.out.at 7 2 rfl rfl
      go_wp2_with fail
      refine (gsam_tk HM.out F3.out T13.out 8 12 (right_fit F2.out) HF.out rfl rfl).mono ?_
      rintro e v1 ⟨rfl, t1, -⟩
      have T14 := hide t1
      clear t1 T13 c0 c1 c2 f0 f1 f2
      have c0 : v1.cell? ⟨z, 0, none⟩ = some (.slice va vl vc) := T14.out.at 11 0 rfl rfl
      have c1 : v1.cell? ⟨z, 1, none⟩ = some (.slice kd kl kc) := T14.out.at 11 1 rfl rfl
      have c2 : v1.cell? ⟨z, 2, none⟩ = some (.int .i64 s.next) := T14.out.at 11 2 rfl rfl
      have f0 : v1.cell? ⟨w7.heap.size, 0, none⟩ = some (.slice x7 xl7 xc7) := T14.out.at 5 0 rfl rfl
      have f1 : v1.cell? ⟨w7.heap.size, 1, none⟩ = some (.slice y7 yl7 yc7) := T14.out.at 5 1 rfl rfl
      have f2 : v1.cell? ⟨w7.heap.size, 2, none⟩ = some (.int .i64 A2.next) := T14.out.at 5 2 rfl rfl
      go_wp2_with fail
      refine (gsam_tk HM.out G3.out T14.out 6 12 (right_fit G2.out) HF.out rfl rfl).mono ?_
      rintro e v2 ⟨rfl, t2, -⟩
      have T15 := hide t2
      clear t2 T14 c0 c1 c2 f0 f1 f2
      have c0 : v2.cell? ⟨z, 0, none⟩ = some (.slice va vl vc) := T15.out.at 11 0 rfl rfl
      have c1 : v2.cell? ⟨z, 1, none⟩ = some (.slice kd kl kc) := T15.out.at 11 1 rfl rfl
      have c2 : v2.cell? ⟨z, 2, none⟩ = some (.int .i64 s.next) := T15.out.at 11 2 rfl rfl
      have f0 : v2.cell? ⟨c13, 0, none⟩ = some (.slice x13 xl13 xc13) := T15.out.at 0 0 rfl rfl
      have f1 : v2.cell? ⟨c13, 1, none⟩ = some (.slice y13 yl13 yc13) := T15.out.at 0 1 rfl rfl
      have f2 : v2.cell? ⟨c13, 2, none⟩ = some (.int .i64 P2.next) := T15.out.at 0 2 rfl rfl
      go_wp2_with fail
      refine (gsam_tk HM.out H3.out T15.out 1 12 (right_fit PR2.out) HF.out rfl rfl).mono ?_
      rintro e v3 ⟨rfl, t3, -⟩
      have T16 := hide t3
      clear t3 T15 c0 c1 c2 f0 f1 f2
      have c0 : v3.cell? ⟨z, 0, none⟩ = some (.slice va vl vc) := T16.out.at 11 0 rfl rfl
      have c1 : v3.cell? ⟨z, 1, none⟩ = some (.slice kd kl kc) := T16.out.at 11 1 rfl rfl
      have c2 : v3.cell? ⟨z, 2, none⟩ = some (.int .i64 s.next) := T16.out.at 11 2 rfl rfl
      go_wp2_with fail
      refine (gbase_tk sbaseRecs HBB.out HNB.out T16.out 12 HF.out rfl).mono ?_
      rintro e v4 ⟨b4, c4, rfl, -, t4, -⟩
      have T17 := hide t4
      clear t4 T16 c0 c1 c2
      have LN : Hid ((B.map Rc.tu).length = nb) := by show _ = _; rw [List.length_map]; exact HNB.out
      have SQ := hide (sameRcs (.slice (some ⟨bg, 0, none⟩) nb bc) (.slice b4 nb c4) (B.map Rc.tu) _ _ _ _ v4 (by rw [LN.out]; omega) (by rw [LN.out]; exact T17.out.get 10 rfl) (by rw [LN.out]; exact T17.out.get 0 rfl))
      go_wp2_with fail
      refine SQ.out.mono ?_
      rintro e v5 ⟨rfl, b5⟩
      have T18 := hide (T17.out.below b5)
      clear b5 SQ T17
      have k1 : v5.cell? ⟨bg, 0, none⟩ = some (.int .i64 1) := by
        obtain ⟨q, hq⟩ := HB0.out
        have h := (show Sli 31 _ _ _ _ _ _ from T18.out.get 10 rfl).flt
        rw [hq] at h
        exact h.cell (k := 0) rfl
      have nbp : (0 : Int) < nb := by omega
      have BF := hide T18.out.1
      go_wp2
      go_ret
      exact ⟨rfl, BF.out⟩
end Go.Proofs.Ytcnaahajaaifjaa

/-
  impl.StoreNew.
-/
namespace Go.Proofs.Ytcnaahajaaifjaa
open Go.RowKit
open Words

set_option maxHeartbeats 400000 in
set_option maxRecDepth 100000 in
theorem inewS : NewC 18 := by
  intro w
  have FIN : Hid (StOut w stoNew (.agg #[.slice none 0 0, .slice none 0 0, .int .i64 1]) (w.alloc (.cells #[.slice none 0 0, .slice none 0 0, .int .i64 1] 29))) := by
    have hb : Below w.heap.size w (w.alloc (.cells #[.slice none 0 0, .slice none 0 0, .int .i64 1] 29)) := (Below.refl _ _).alloc (Nat.le_refl _) _
    have hz := hb.size
    refine ⟨_, _, w.heap.size, w.heap.size, w.heap.size, w.heap.size, rfl, .inl ⟨rfl, rfl⟩, ⟨[], rfl, .inl ⟨rfl, rfl⟩, (fun _ h => by cases h), List.Pairwise.nil, by show (0 : Nat) ≤ _; omega⟩, Nat.le_refl _, hz, Nat.le_refl _, hz, .inl (Nat.le_refl _), hb⟩
  have R := hide (heap_alloc_new w (.cells #[.slice none 0 0, .slice none 0 0, .int .i64 1] 29))
  go_enter Try.func18, Try.ntmps18
  go_wp2
  exact bodyPost_ret (results_cell_row rfl _ _ w.heap.size 29 _ (0, 0) _ rfl R.out Try.underlying29 rfl infoSto) rfl ⟨_, rfl, FIN.out⟩
end Go.Proofs.Ytcnaahajaaifjaa

/-
  FnBases, whole.
-/
namespace Go.Proofs.Ytcnaahajaaifjaa
open Go.RowKit
open Words

theorem lawBs (ad : Option Addr) (len cap : Nat) (w : World) (hd : CodeIn w ad len w.heap.size) :
    Calls Try.prog 4 #[.slice ad len cap] w fun e w' => e = .returned (.bool true) ∧ Below w.heap.size w w' := lawBs_of ad len cap w hd ibase inewS ienterAll isame
end Go.Proofs.Ytcnaahajaaifjaa
