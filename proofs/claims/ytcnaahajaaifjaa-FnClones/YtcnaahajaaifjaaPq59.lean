/-
  LawCl; LawClF
-/
import Derived.Test.YtcnaahajaaifjaaPq31
import Derived.Test.YtcnaahajaaifjaaPlTk
import Derived.Test.YtcnaahajaaifjaaPq18
import Derived.Deep.RegionHeld3
import Derived.Deep.DeepCutAuto
import Derived.Test.YtcnaahajaaifjaaPq44
import Derived.Test.YtcnaahajaaifjaaIChunk
/-
  FnClones, of what the program answers.
-/
namespace Go.Proofs.Ytcnaahajaaifjaa
open Go.RowKit
open Words

set_option maxHeartbeats 8000000 in
set_option maxRecDepth 100000 in
theorem lawCl_of (ad : Option Addr) (len cap : Nat) (w : World) (hd : CodeIn w ad len w.heap.size) (HI : Hid (EnterC 11)) (HO : Hid (OkC 14)) (HC : Hid (ChunkC 15)) (HR : Hid (RefsC 23)) :
    Calls Try.prog 6 #[.slice ad len cap] w fun e w' => e = .returned (.bool true) ∧ Below w.heap.size w w' := by
  have HD := hide hd
  clear hd
  by_cases hbig : (1048576 : Int) < len
  · go_enter Try.func6, Try.ntmps6
    go_wp2_with fail
    refine (big_any ad len cap _).mono ?_
    rintro e w1 ⟨rfl, rfl⟩
    rw [decide_eq_true hbig]
    go_wp2
    go_ret
    exact ⟨rfl, Below.refl _ _⟩
  have hl2 : len ≤ 1048576 := by omega
  have hbd : decide ((1048576 : Int) < len) = false := decide_eq_false hbig
  clear hbig
  go_enter Try.func6, Try.ntmps6
  go_wp2_with fail
  refine (big_any ad len cap _).mono ?_
  rintro e w0 ⟨rfl, hw0⟩
  subst hw0
  rw [hbd]
  clear hbd
  go_wp2_with fail
  refine (dsr_tk (Tk.start w0) hl2 HD.out).mono ?_
  rintro e w1 ⟨va, vl, vc, kd, kl, kc, s, kind, vol, arg, chunk, rfl, ⟨hs, hv, hvl, hkl, hcp⟩, t1, s1⟩
  have HS := hide hs
  have HVL := hide hvl
  have HKL := hide hkl
  have hvl3 : vl ≤ 3 := by rw [hvl]; exact hs.1.few
  have HF := hide (drn_fit hs)
  obtain ⟨E1, E2, hE⟩ : ∃ E1 E2, enterS s ⟨kind, vol, arg, chunk⟩ = (E1, E2) := ⟨_, _, rfl⟩
  have HE := hide hE
  have HER : Hid E1.Right := by
    have := enter_right hs.1 ⟨kind, vol, arg, chunk⟩
    rw [hE] at this
    exact this
  have HEF := hide (right_fit HER.out)
  clear hs hvl hkl hE
  have T2 := hide ((t1.celln rfl #[.slice va vl vc, .slice kd kl kc, .int .i64 s.next] 29).celln (alloc_size rfl _) #[.int .i64 kind, .int .i64 vol, .int .i64 arg, .int .i64 chunk] 31)
  obtain ⟨z, hz⟩ : ∃ z, w1.heap.size = z := ⟨_, rfl⟩
  rw [hz] at T2
  clear t1
  go_upto_region 4 with fail
  try rw [hz]
  generalize (w1.alloc (.cells #[.slice va vl vc, .slice kd kl kc, .int .i64 s.next] 29)).alloc (.cells #[.int .i64 kind, .int .i64 vol, .int .i64 arg, .int .i64 chunk] 31) = w2 at T2 ⊢
  clear hz
  clear E1 E2 HE HER HEF
  go_wp2_with fail
  refine (places_tk T2.out hl2 HD.out).mono ?_
  rintro e w3 ⟨pg, cp, l, rfl, ⟨h12, hx⟩, t3, s3⟩
  have T3 := hide t3
  obtain ⟨p0, e0⟩ : ∃ x, l[0]? = some x := ⟨_, List.getElem?_eq_getElem (by omega)⟩
  obtain ⟨p1, e1⟩ : ∃ x, l[1]? = some x := ⟨_, List.getElem?_eq_getElem (by omega)⟩
  have y0 := hx p0 (List.mem_of_getElem? e0)
  have y1 := hx p1 (List.mem_of_getElem? e1)
  have E0 := hide e0
  have E1' := hide e1
  clear t3 T2 hx h12 e0 e1
  have c0 : w3.cell? ⟨z, 0, none⟩ = some (.slice va vl vc) := T3.out.at 2 0 rfl rfl
  have c1 : w3.cell? ⟨z, 1, none⟩ = some (.slice kd kl kc) := T3.out.at 2 1 rfl rfl
  have c2 : w3.cell? ⟨z, 2, none⟩ = some (.int .i64 s.next) := T3.out.at 2 2 rfl rfl
  by_cases v0 : vl = 0
  · have v0b : ((vl : Int) == 0) = true := by simp; omega
    clear v0
    go_wp2_with fail
    refine (gsok_tk HO.out ((stoB_iff s).2 HS.out.1) T3.out 3 HF.out rfl).mono ?_
    rintro e w8 ⟨rfl, t8, s8⟩
    have T8 := hide t8
    clear t8 T3 c0 c1 c2
    have BF := hide T8.out.1
    go_wp2
    go_ret
    exact ⟨rfl, BF.out⟩
  have v0b : ((vl : Int) == 0) = false := by simp; omega
  by_cases v3 : vl = 3
  · have v3b : ((vl : Int) == 3) = true := by simp; omega
    clear v3 hvl3
    go_wp2_with fail
    refine (gsok_tk HO.out ((stoB_iff s).2 HS.out.1) T3.out 3 HF.out rfl).mono ?_
    rintro e w8 ⟨rfl, t8, s8⟩
    have T8 := hide t8
    clear t8 T3 c0 c1 c2
    have BF := hide T8.out.1
    go_wp2
    go_ret
    exact ⟨rfl, BF.out⟩
  have v3b : ((vl : Int) == 3) = false := by simp; omega
  obtain ⟨k, hk⟩ : ∃ k, p0.toNat % vl = k := ⟨_, rfl⟩
  have kv : k < vl := by rw [← hk]; exact Nat.mod_lt _ (by omega)
  have m0 : p0.tmod (vl : Int) = (k : Int) := by
    rw [Int.tmod_eq_emod_of_nonneg y0.1, ← hk]
    have : p0 = (p0.toNat : Int) := by omega
    rw [this, Int.toNat_natCast, Int.natCast_emod]
  obtain ⟨sec, hsec⟩ : ∃ t, p1.toNat % 16 = t := ⟨_, rfl⟩
  have hs16 : sec < 16 := by omega
  have m1 : p1.tmod 16 = (sec : Int) := by rw [Int.tmod_eq_emod_of_nonneg y1.1]; omega
  clear hk hsec y0 y1
  obtain ⟨v, hvk⟩ : ∃ v, s.vols[k]? = some v := ⟨_, List.getElem?_eq_getElem (by rw [← HVL.out]; exact kv)⟩
  obtain ⟨N1, M1, n1, n2, n3, n4, n5, n6, n7, n8⟩ := clone_all HS.out (List.mem_of_getElem? hvk) (by rw [← HVL.out]; exact v3) hs16
  have C1 := hide n1
  have C2 := hide n2
  have CN := hide n3
  have CM := hide n4
  have C5 := hide n5
  have C6 := hide n6
  have C7 := hide n7
  have C8 := hide n8
  clear n1 n2 n3 n4 n5 n6 n7 n8
  have VR : Hid (∀ W hs, Tk w0 W hs → (w0.heap.size, z, Sts w0.heap.size z (.agg #[.slice va vl vc, .slice kd kl kc, .int .i64 s.next]) s) ∈ hs → VlRow W va vl s.vols) := fun W hs t hm => by
    obtain ⟨h1, h2, h3⟩ := t.2 _ hm
    obtain ⟨va', vl', vc', ad', len', cap', rs', e', -, -, -, -, -, hr, -⟩ := (show Sts w0.heap.size z (.agg #[.slice va vl vc, .slice kd kl kc, .int .i64 s.next]) s W from h3).rd HF.out h1
    injection e' with e'
    injection e' with e'
    simp only [List.cons.injEq, and_true] at e'
    obtain ⟨e', -⟩ := e'
    injection e' with a1 a2 a3
    rw [a1, a2]
    exact hr
  obtain ⟨vb, vo, hva, -, cv0, -⟩ := (VR.out _ _ T3.out (by simp)).at hvk
  subst hva
  have HVK := hide hvk
  have kl0 : (k : Int) < vl := by omega
  clear hvk kv
  have q0 : w3.cell? ⟨pg, 0, none⟩ = some (.int .i64 p0) := (T3.out.get 0 rfl) 0 p0 E0.out
  have k0 : (0 : Int) ≤ k := by omega
  have vne : ¬ ((vl : Int) = 0) := by omega
  go_upto_region 7 with fail
  go_quiet (fail)
  have T4 := hide (T3.out.drewN nq)
  clear T3 c0 c1 c2 q0 cv0
  generalize w3.drewN nq = w4 at T4 ⊢
  have c0 : w4.cell? ⟨z, 0, none⟩ = some (.slice (some ⟨vb, vo, none⟩) vl vc) := T4.out.at 2 0 rfl rfl
  have c1 : w4.cell? ⟨z, 1, none⟩ = some (.slice kd kl kc) := T4.out.at 2 1 rfl rfl
  have c2 : w4.cell? ⟨z, 2, none⟩ = some (.int .i64 s.next) := T4.out.at 2 2 rfl rfl
  go_wp2_with fail
  refine (gent_tk HI.out C1.out T4.out 3 HF.out rfl).mono ?_
  rintro e w5 ⟨x5, xl5, xc5, y5, yl5, yc5, rfl, ⟨-, hy5⟩, t5, s5⟩
  have HY5 := hide hy5
  have T6 := hide (t5.celln rfl #[.slice x5 xl5 xc5, .slice y5 yl5 yc5, .int .i64 N1.next] 29)
  clear t5
  clear c0 c1 c2 T4 hy5
  go_upto_region 9 with fail
  generalize w5.alloc (.cells #[.slice x5 xl5 xc5, .slice y5 yl5 yc5, .int .i64 N1.next] 29) = w6 at T6 ⊢
  have KK : Hid (∀ W, Below w6.heap.size w6 W → (W.cell? ⟨w5.heap.size, 0, none⟩ = some (.slice x5 xl5 xc5) ∧ W.cell? ⟨w5.heap.size, 1, none⟩ = some (.slice y5 yl5 yc5) ∧ W.cell? ⟨w5.heap.size, 2, none⟩ = some (.int .i64 N1.next)) ∧ W.cell? ⟨pg, 1, none⟩ = some (.int .i64 p1) ∧ W.cell? ⟨z, 2, none⟩ = some (.int .i64 s.next)) := fun W hW => by
    have t := T6.out.below hW
    exact ⟨⟨t.at 0 0 rfl rfl, t.at 0 1 rfl rfl, t.at 0 2 rfl rfl⟩, (t.get 2 rfl) 1 p1 E1'.out, t.at 4 2 rfl rfl⟩
  have B0d := hide ((Below.refl w6.heap.size w6).drew)
  have B0e := hide (((Below.refl w6.heap.size w6).alloc (Nat.le_refl _) (.cells #[.slice none 0 0, .slice none 0 0, .int .i64 0] 29)).drew)
  obtain ⟨⟨cc0, cc1, cc2⟩, cc3, cc4⟩ := KK.out _ (Below.refl _ _)
  have CG : Hid (∀ W, Below w6.heap.size w6 W → Calls Try.prog 11 #[.agg #[.slice x5 xl5 xc5, .slice y5 yl5 yc5, .int .i64 N1.next], .agg #[.int .i64 4, .int .i64 v.1, .int .i64 (sec : Int), .int .i64 s.next]] W fun e w' => ∃ x xl xc y yl yc, e = .returned (.tuple #[.agg #[.slice x xl xc, .slice y yl yc, .int .i64 M1.next], .bool true]) ∧ Hid (yl = M1.kns.length) ∧ StOut W M1 (.agg #[.slice x xl xc, .slice y yl yc, .int .i64 M1.next]) w') := fun W hW => by
    have t := T6.out.below hW
    refine (HI.out _ N1 ⟨4, v.1, (sec : Int), s.next⟩ W ((t.get 1 rfl).rd (right_fit CN.out) (t.hi 1 rfl))).mono ?_
    rintro e w' ⟨u, rfl, hu⟩
    rw [C2.out] at hu
    simp only at hu
    obtain ⟨x, xc, y, yc, rfl⟩ := hu.sts.form
    rw [C2.out]
    exact ⟨x, _, xc, y, _, yc, rfl, (rfl : _ = _), hu⟩
  go_cut [9, 10] (fun s9 s10 wc => s10 = .bool true ∧ ∃ (c : Nat) (x : Option Addr) (xl xc : Nat) (y : Option Addr) (yl yc : Nat), s9 = .pointer (some ⟨c, 0, none⟩) ∧ Hid (yl = M1.kns.length) ∧ Hid (Gs w0 wc [(w5.heap.size, w5.heap.size + 1, Cel w5.heap.size #[.slice x5 xl5 xc5, .slice y5 yl5 yc5, .int .i64 N1.next] 29), (w4.heap.size, w5.heap.size, Sts w4.heap.size w5.heap.size (.agg #[.slice x5 xl5 xc5, .slice y5 yl5 yc5, .int .i64 N1.next]) N1), (pg, pg + 1, PlH pg l), (z + 1, z + 1 + 1, Cel (z + 1) #[.int .i64 kind, .int .i64 vol, .int .i64 arg, .int .i64 chunk] 31), (z, z + 1, Cel z #[.slice (some ⟨vb, vo, none⟩) vl vc, .slice kd kl kc, .int .i64 s.next] 29), (w0.heap.size, z, Sts w0.heap.size z (.agg #[.slice (some ⟨vb, vo, none⟩) vl vc, .slice kd kl kc, .int .i64 s.next]) s)] w6.heap.size c (.slice x xl xc) (.slice y yl yc) M1))
  case first =>
    go_region_held3 (fun w' => (w'.cell? ⟨w5.heap.size, 0, none⟩ = some (.slice x5 xl5 xc5) ∧ w'.cell? ⟨w5.heap.size, 1, none⟩ = some (.slice y5 yl5 yc5) ∧ w'.cell? ⟨w5.heap.size, 2, none⟩ = some (.int .i64 N1.next)) ∧ w'.cell? ⟨pg, 1, none⟩ = some (.int .i64 p1) ∧ w'.cell? ⟨z, 2, none⟩ = some (.int .i64 s.next)) (first | go_keep | exact KK.out _ B0d.out | exact KK.out _ B0e.out | exact KK.out _ B3.out | exact KK.out _ (B3.out.alloc B3.out.size _) | exact KK.out _ (bel3 B3.out (Nat.le_refl _) _ _ _)) (first
      | (go_at_call 11; (with_reducible refine Calls.mono (CG.out _ (by first | exact B0d.out | exact B0e.out)) ?_); rintro en y3 ⟨x3, xl3, xc3, y3x, yl3, yc3, rfl, hy3, f3⟩; have B3 : Hid (Below w6.heap.size w6 y3) := (by first | exact bel_tr B0d.out B0d.out.size f3.blw | exact bel_tr B0e.out B0e.out.size f3.blw); (try have Z3 := hide ((f3.blw.block w6.heap.size (by simp)).trans (show (w6.alloc (.cells #[.slice none 0 0, .slice none 0 0, .int .i64 0] 29)).drew.heap[w6.heap.size]? = _ from heap_alloc_new w6 (.cells #[.slice none 0 0, .slice none 0 0, .int .i64 0] 29)))); have F3 := hide f3; (try have nZ0 := cell_of_row _ _ 0 _ _ _ Z3.out); (try have nZ1 := cell_of_row _ _ 1 _ _ _ Z3.out); (try have nZ2 := cell_of_row _ _ 2 _ _ _ Z3.out); (try have fZ0 := frozen_of_row _ _ 0 _ _ Z3.out); (try have fZ1 := frozen_of_row _ _ 1 _ _ Z3.out); (try have fZ2 := frozen_of_row _ _ 2 _ _ Z3.out); clear f3))
    all_goals
      go_wp2_with fail
      go_meet
      case rel => first
        | exact ⟨rfl, _, _, _, _, _, _, _, rfl, hy3, hide (Gs.late T6.out B3.out F3.out B0d.out.size)⟩
        | exact ⟨rfl, _, _, _, _, _, _, _, rfl, hy3, hide (Gs.early T6.out B3.out F3.out Z3.out (Nat.le_refl _) (by simp))⟩
  case rest =>
    obtain ⟨w9, hwc⟩ : ∃ w9, w9 = wc := ⟨_, rfl⟩
    subst hwc
    obtain ⟨hs10, c9, x9, xl9, xc9, y9, yl9, yc9, hs9, hy9, hg⟩ := hcut
    subst hs10 hs9
    obtain ⟨lo9, hi9, -, -, -, t9⟩ := hg.out
    have HY9 := hide hy9.out
    have T9 := hide t9
    clear t9 hg KK B0d B0e cc0 cc1 cc2 cc3 cc4 CG T6 hy9
    have hkn : ((yl5 : Int) != (kl : Int)) = false := by
      have h1 := HY5.out
      have h2 := C5.out
      have h3 := HKL.out
      simp
      omega
    have hmn : (yl9 : Int) ≤ (kl : Int) + 2 := by
      have h1 := HY9.out
      have h2 := C6.out
      have h3 := HKL.out
      omega
    have klb : kl ≤ 15 := by rw [HKL.out]; exact right_small HS.out.1
    have wkl : IntKind.i64.wrap ((kl : Int) + 2) = (kl : Int) + 2 := by rw [IntKind.wrap_i64]; omega
    have r1 : w9.cell? ⟨w5.heap.size, 1, none⟩ = some (.slice y5 yl5 yc5) := T9.out.at 2 1 rfl rfl
    have r2 : w9.cell? ⟨z, 1, none⟩ = some (.slice kd kl kc) := T9.out.at 6 1 rfl rfl
    go_upto_region 13 with fail
    clear r1 r2
    go_loopw [11, 12] (fun iv cv W => ∃ i : Nat, i ≤ 16 ∧ iv = .int .i64 i ∧ Hid (Tk w0 W [(c9, c9 + 1, Cel c9 #[.slice x9 xl9 xc9, .slice y9 yl9 yc9, .int .i64 M1.next] 29), (lo9, hi9, Sts lo9 hi9 (.agg #[.slice x9 xl9 xc9, .slice y9 yl9 yc9, .int .i64 M1.next]) M1), (w5.heap.size, w5.heap.size + 1, Cel w5.heap.size #[.slice x5 xl5 xc5, .slice y5 yl5 yc5, .int .i64 N1.next] 29), (w4.heap.size, w5.heap.size, Sts w4.heap.size w5.heap.size (.agg #[.slice x5 xl5 xc5, .slice y5 yl5 yc5, .int .i64 N1.next]) N1), (pg, pg + 1, PlH pg l), (z + 1, z + 1 + 1, Cel (z + 1) #[.int .i64 kind, .int .i64 vol, .int .i64 arg, .int .i64 chunk] 31), (z, z + 1, Cel z #[.slice (some ⟨vb, vo, none⟩) vl vc, .slice kd kl kc, .int .i64 s.next] 29), (w0.heap.size, z, Sts w0.heap.size z (.agg #[.slice (some ⟨vb, vo, none⟩) vl vc, .slice kd kl kc, .int .i64 s.next]) s)])) (fun iv _ _ => 16 - (intOf iv).toNat)
    case atStart => exact ⟨0, by omega, rfl, T9⟩
    case round =>
      obtain ⟨i, hi, rfl, TI⟩ := hrel
      clear T9
      by_cases hlt : (i : Int) < 16
      · obtain ⟨cv, hcv⟩ : ∃ cv, chunkS s v.1 (i : Int) = cv := ⟨_, rfl⟩
        obtain ⟨a1, a2, a3⟩ := C8.out i (by omega)
        rw [hcv] at a1 a2 a3
        have A1 := hide a1
        have A2 := hide a2
        have A3 := hide a3
        have HCV := hide hcv
        have hcn : (cv != cv) = false := by simp
        clear a1 a2 a3 hcv
        have c0 : wr.cell? ⟨z, 0, none⟩ = some (.slice (some ⟨vb, vo, none⟩) vl vc) := TI.out.at 6 0 rfl rfl
        have c1 : wr.cell? ⟨z, 1, none⟩ = some (.slice kd kl kc) := TI.out.at 6 1 rfl rfl
        have c2 : wr.cell? ⟨z, 2, none⟩ = some (.int .i64 s.next) := TI.out.at 6 2 rfl rfl
        go_wp2_with fail
        refine (gchk_tk schunkOf HCV.out TI.out 7 HF.out rfl).mono ?_
        rintro e v1 ⟨rfl, t1, -⟩
        have T1 := hide t1
        clear t1 TI c0 c1 c2
        have c0 : v1.cell? ⟨w5.heap.size, 0, none⟩ = some (.slice x5 xl5 xc5) := T1.out.at 2 0 rfl rfl
        have c1 : v1.cell? ⟨w5.heap.size, 1, none⟩ = some (.slice y5 yl5 yc5) := T1.out.at 2 1 rfl rfl
        have c2 : v1.cell? ⟨w5.heap.size, 2, none⟩ = some (.int .i64 N1.next) := T1.out.at 2 2 rfl rfl
        go_wp2_with fail
        refine (gchk_tk HC.out A1.out T1.out 3 (right_fit CN.out) rfl).mono ?_
        rintro e v2 ⟨rfl, t2, -⟩
        have T2 := hide t2
        clear t2 T1 c0 c1 c2
        have c0 : v2.cell? ⟨c9, 0, none⟩ = some (.slice x9 xl9 xc9) := T2.out.at 0 0 rfl rfl
        have c1 : v2.cell? ⟨c9, 1, none⟩ = some (.slice y9 yl9 yc9) := T2.out.at 0 1 rfl rfl
        have c2 : v2.cell? ⟨c9, 2, none⟩ = some (.int .i64 M1.next) := T2.out.at 0 2 rfl rfl
        go_wp2_with fail
        refine (gchk_tk HC.out A2.out T2.out 1 (right_fit CM.out) rfl).mono ?_
        rintro e v3' ⟨rfl, t3, -⟩
        have T3 := hide t3
        clear t3 T2 c0 c1 c2
        have c0 : v3'.cell? ⟨c9, 0, none⟩ = some (.slice x9 xl9 xc9) := T3.out.at 0 0 rfl rfl
        have c1 : v3'.cell? ⟨c9, 1, none⟩ = some (.slice y9 yl9 yc9) := T3.out.at 0 1 rfl rfl
        have c2 : v3'.cell? ⟨c9, 2, none⟩ = some (.int .i64 M1.next) := T3.out.at 0 2 rfl rfl
        have q1 : v3'.cell? ⟨pg, 1, none⟩ = some (.int .i64 p1) := (T3.out.get 4 rfl) 1 p1 E1'.out
        by_cases his : i = sec
        · have hib : ((i : Int) != (sec : Int)) = false := by simp; omega
          go_wp2
          go_roundw
          case rel => exact ⟨i + 1, by omega, by go_num, T3⟩
          case measure => simp [intOf]; omega
        · have hib : ((i : Int) != (sec : Int)) = true := by simp; omega
          go_wp2_with fail
          refine (gchk_tk HC.out (A3.out his) T3.out 1 (right_fit CM.out) rfl).mono ?_
          rintro e v4 ⟨rfl, t4, -⟩
          have T4 := hide t4
          clear t4 T3 c0 c1 c2 q1
          go_wp2
          go_roundw
          case rel => exact ⟨i + 1, by omega, by go_num, T4⟩
          case measure => simp [intOf]; omega
      · have c0 : wr.cell? ⟨c9, 0, none⟩ = some (.slice x9 xl9 xc9) := TI.out.at 0 0 rfl rfl
        have c1 : wr.cell? ⟨c9, 1, none⟩ = some (.slice y9 yl9 yc9) := TI.out.at 0 1 rfl rfl
        have c2 : wr.cell? ⟨c9, 2, none⟩ = some (.int .i64 M1.next) := TI.out.at 0 2 rfl rfl
        have q2 : wr.cell? ⟨z, 2, none⟩ = some (.int .i64 s.next) := TI.out.at 6 2 rfl rfl
        go_wp2_with fail
        refine (gref_tk HR.out C7.out TI.out 1 (right_fit CM.out) rfl).mono ?_
        rintro e v1 ⟨rfl, t1, -⟩
        have T1 := hide t1
        clear t1 TI c0 c1 c2 q2
        have r1 : v1.cell? ⟨c9, 1, none⟩ = some (.slice y9 yl9 yc9) := T1.out.at 0 1 rfl rfl
        have r2 : v1.cell? ⟨z, 1, none⟩ = some (.slice kd kl kc) := T1.out.at 6 1 rfl rfl
        have BF := hide T1.out.1
        go_wp2
        go_ret
        exact ⟨rfl, BF.out⟩
end Go.Proofs.Ytcnaahajaaifjaa

/-
  FnClones, whole.
-/
namespace Go.Proofs.Ytcnaahajaaifjaa
open Go.RowKit
open Words

theorem lawCl (ad : Option Addr) (len cap : Nat) (w : World) (hd : CodeIn w ad len w.heap.size) :
    Calls Try.prog 6 #[.slice ad len cap] w fun e w' => e = .returned (.bool true) ∧ Below w.heap.size w w' := lawCl_of ad len cap w hd ienter istoOk ichunk irefs
end Go.Proofs.Ytcnaahajaaifjaa
