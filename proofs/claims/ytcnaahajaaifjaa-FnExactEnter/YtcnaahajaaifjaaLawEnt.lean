/-
  FnExactEnter, of what impl answers.
-/
import Derived.Test.YtcnaahajaaifjaaPk19
import Derived.Test.YtcnaahajaaifjaaSEnter
import Derived.Deep.RegionHeld3
import Derived.Deep.DeepCutAuto
namespace Go.Proofs.Ytcnaahajaaifjaa
open Go.RowKit
open Words

set_option maxHeartbeats 6400000 in
set_option maxRecDepth 100000 in
theorem lent_of (va : Option Addr) (vl vc : Nat) (ad : Option Addr) (len cap : Nat) (nx : Int) (vs : List (Int × Int)) (rs : List Kw) (kind vol arg chunk : Int) (w : World) (h : VlRow w va vl vs) (hk : KnRd w ad len rs) (HI : EnterC 11) :
    Calls Try.prog 8 #[.agg #[.slice va vl vc, .slice ad len cap, .int .i64 nx], .agg #[.int .i64 kind, .int .i64 vol, .int .i64 arg, .int .i64 chunk]] w fun e w' => e = .returned (.bool true) ∧ Below w.heap.size w w' := by
  obtain ⟨s, hs⟩ : ∃ s : Sto, s = ⟨vs, rs.map ktell, nx⟩ := ⟨_, rfl⟩
  obtain ⟨R1, R2, hR⟩ : ∃ R1 R2, enterS s ⟨kind, vol, arg, chunk⟩ = (R1, R2) := ⟨_, _, rfl⟩
  have T0 := hide (Tk.two w #[.slice va vl vc, .slice ad len cap, .int .i64 nx] #[.int .i64 kind, .int .i64 vol, .int .i64 arg, .int .i64 chunk] 56 57)
  have H := hide h
  have HK := hide hk
  have H1 := hide h.1
  have H2 := hide h.2.1
  have K1 := hide hk.1
  have HIH := hide HI
  have HS := hide hs
  have HR := hide hR
  clear h hk hR HI hs
  go_enter Try.func8, Try.ntmps8
  go_wp2_with fail
  generalize (w.alloc (.cells #[.slice va vl vc, .slice ad len cap, .int .i64 nx] 56)).alloc (.cells #[.int .i64 kind, .int .i64 vol, .int .i64 arg, .int .i64 chunk] 57) = w0 at T0 ⊢
  refine (szSto_any va vl vc ad len cap nx rs 1048576 w0 (Nat.le_refl _) H2.out (HK.out.below T0.out.1)).mono ?_
  rintro e w1 ⟨⟨r0, rfl, r1, r2, r3⟩, b1⟩
  have T1 := hide (T0.out.below b1)
  clear b1 T0
  by_cases hr : r0 < 0
  · clear r3
    go_wp2
    go_ret
    exact ⟨rfl, T1.out.1⟩
  · have h3 := r3 (by omega)
    have hvl : vl ≤ 1048576 := by omega
    have hl : len ≤ 1048576 := by omega
    have HLL : Hid (∀ r ∈ rs, r.2.2.length ≤ 1048576) := fun r hr2 => by have := ksum_mem hr2; omega
    have OK : Hid (OkS s) := by
      have e1 := H1.out
      have e2 := K1.out
      have e3 := ksum_kids rs
      rw [HS.out]
      exact OkS.of (show vs.length ≤ _ by omega) (by show (rs.map ktell).length ≤ _; rw [List.length_map]; omega) (show kkids (rs.map ktell) ≤ _ by omega)
    have HOR : Hid (OkS R1) := by
      have := enter_oks OK.out ⟨kind, vol, arg, chunk⟩
      rw [HR.out] at this
      exact this
    have HVE := hide hvl
    have HLE := hide hl
    obtain ⟨K, hK⟩ : ∃ m : Nat, kend (1 + s.vols.length * 2) s.kns = m := ⟨_, rfl⟩
    have HMK := hide hK
    obtain ⟨N, hN⟩ : ∃ m : Nat, kend (1 + R1.vols.length * 2) R1.kns = m := ⟨_, rfl⟩
    have HMN := hide hN
    have HN9 : Hid (N ≤ 1000000000) := by
      have := HOR.out.2.2.2
      rw [HMN.out] at this
      exact this
    have hk0 : ¬ ((K : Int) < 0) := by omega
    have hN0 : ¬ ((N : Int) < 0) := by omega
    have hNN : ((N : Int) != (N : Int)) = false := by simp
    have hne : (R2 != R2) = false := by simp
    have s1 := T1.out.1.size
    have z1 : w.heap.size + 1 + 1 ≤ w1.heap.size := T1.out.hi 0 rfl
    clear r3 h3 hK hN
    obtain ⟨k0, k1, k2⟩ : w1.cell? ⟨w.heap.size, 0, none⟩ = some (.slice va vl vc) ∧ w1.cell? ⟨w.heap.size, 1, none⟩ = some (.slice ad len cap) ∧ w1.cell? ⟨w.heap.size, 2, none⟩ = some (.int .i64 nx) := ⟨T1.out.at 1 0 rfl rfl, T1.out.at 1 1 rfl rfl, T1.out.at 1 2 rfl rfl⟩
    go_upto_region 5 with fail
    have KK : Hid (∀ W, Below w1.heap.size w1 W → (W.cell? ⟨w.heap.size, 0, none⟩ = some (.slice va vl vc) ∧ W.cell? ⟨w.heap.size, 1, none⟩ = some (.slice ad len cap) ∧ W.cell? ⟨w.heap.size, 2, none⟩ = some (.int .i64 nx) ∧ W.cell? ⟨w.heap.size + 1, 0, none⟩ = some (.int .i64 kind) ∧ W.cell? ⟨w.heap.size + 1, 1, none⟩ = some (.int .i64 vol) ∧ W.cell? ⟨w.heap.size + 1, 2, none⟩ = some (.int .i64 arg) ∧ W.cell? ⟨w.heap.size + 1, 3, none⟩ = some (.int .i64 chunk))) := by
      intro W hW
      have t := T1.out.below hW
      exact ⟨t.at 1 0 rfl rfl, t.at 1 1 rfl rfl, t.at 1 2 rfl rfl, t.at 0 0 rfl rfl, t.at 0 1 rfl rfl, t.at 0 2 rfl rfl, t.at 0 3 rfl rfl⟩
    have B0d := hide ((Below.refl w1.heap.size w1).drew)
    have B0e := hide (((Below.refl w1.heap.size w1).alloc (Nat.le_refl _) (.cells #[.slice none 0 0, .slice none 0 0, .int .i64 0] 29)).drew)
    obtain ⟨m0, m1, m2, m3, m4, m5, m6⟩ := KK.out _ (Below.refl _ _)
    go_cut [6, 7] (fun s6 s7 wc => s7 = .bool R2 ∧ ∃ (c : Nat) (x : Option Addr) (xl xc : Nat) (y : Option Addr) (yl yc : Nat), s6 = .pointer (some ⟨c, 0, none⟩) ∧ Hid (Gs w wc [(w.heap.size + 1, w.heap.size + 1 + 1, Cel (w.heap.size + 1) #[.int .i64 kind, .int .i64 vol, .int .i64 arg, .int .i64 chunk] 57), (w.heap.size, w.heap.size + 1, Cel w.heap.size #[.slice va vl vc, .slice ad len cap, .int .i64 nx] 56)] w1.heap.size c (.slice x xl xc) (.slice y yl yc) R1))
    case first =>
      have CF : Hid (∀ W, Below w1.heap.size w1 W → Calls Try.prog 29 #[.agg #[.slice va vl vc, .slice ad len cap, .int .i64 nx]] W fun e w' => ∃ g1 g2 : Nat, e = .returned (.agg #[.slice (some ⟨g1, 0, none⟩) vl vl, .slice (some ⟨g2, 0, none⟩) len len, .int .i64 nx]) ∧ StIn w' (.agg #[.slice (some ⟨g1, 0, none⟩) vl vl, .slice (some ⟨g2, 0, none⟩) len len, .int .i64 nx]) s ∧ Below W.heap.size W w') := by
        intro W hW
        have t := T1.out.below hW
        refine (toSto_any va vl vc ad len cap nx vs rs W HVE.out HLE.out HLL.out (H.out.below t.1) (HK.out.below t.1)).mono ?_
        rintro e y2 ⟨g1, g2, rfl, f1⟩
        rw [← HS.out] at f1
        exact ⟨g1, g2, rfl, f1.rd OK.out.fit, f1.blw⟩
      have CG : Hid (∀ W (g1 g2 : Nat), StIn W (.agg #[.slice (some ⟨g1, 0, none⟩) vl vl, .slice (some ⟨g2, 0, none⟩) len len, .int .i64 nx]) s → Calls Try.prog 12 #[.agg #[.slice (some ⟨g1, 0, none⟩) vl vl, .slice (some ⟨g2, 0, none⟩) len len, .int .i64 nx], .agg #[.int .i64 kind, .int .i64 vol, .int .i64 arg, .int .i64 chunk]] W fun e w' => ∃ x xl xc y yl yc, e = .returned (.tuple #[.agg #[.slice x xl xc, .slice y yl yc, .int .i64 R1.next], .bool R2]) ∧ StOut W R1 (.agg #[.slice x xl xc, .slice y yl yc, .int .i64 R1.next]) w') := by
        intro W g1 g2 hW
        refine (senter _ s ⟨kind, vol, arg, chunk⟩ W hW ⟨_, _, _, _, _, rfl, Nat.le_refl _⟩).mono ?_
        rintro e w' ⟨u, rfl, hu, -⟩
        rw [HR.out] at hu
        simp only at hu
        obtain ⟨x, xl, xc, y, yl, yc, rfl⟩ := hu.form
        rw [HR.out]
        exact ⟨x, xl, xc, y, yl, yc, rfl, hu⟩
      go_region_held3 (fun w' => w'.cell? ⟨w.heap.size, 0, none⟩ = some (.slice va vl vc) ∧ w'.cell? ⟨w.heap.size, 1, none⟩ = some (.slice ad len cap) ∧ w'.cell? ⟨w.heap.size, 2, none⟩ = some (.int .i64 nx) ∧ w'.cell? ⟨w.heap.size + 1, 0, none⟩ = some (.int .i64 kind) ∧ w'.cell? ⟨w.heap.size + 1, 1, none⟩ = some (.int .i64 vol) ∧ w'.cell? ⟨w.heap.size + 1, 2, none⟩ = some (.int .i64 arg) ∧ w'.cell? ⟨w.heap.size + 1, 3, none⟩ = some (.int .i64 chunk)) (first | go_keep | exact KK.out _ B0d.out | exact KK.out _ B0e.out | exact KK.out _ B1.out | exact KK.out _ B1a.out | exact KK.out _ B2.out | exact KK.out _ B2a.out | exact KK.out _ B3.out | exact KK.out _ B3a.out | exact KK.out _ BZ.out | exact KK.out _ BY.out | exact KK.out _ BX.out) (first
        | (go_at_call 29; (with_reducible refine Calls.mono (CF.out _ (by first | exact B0d.out | exact B0e.out)) ?_); rintro en y1 ⟨g1, g2, rfl, f1, b1⟩; have B1 := hide (bel_tr (by first | exact B0d.out | exact B0e.out) (by simp) b1); have R1d := hide f1; have B1a := hide (B1.out.alloc B1.out.size (.cells #[.slice none 0 0, .slice none 0 0, .int .i64 0] 29)); have R1a := hide (f1.below ((Below.refl _ _).alloc (Nat.le_refl _) (.cells #[.slice none 0 0, .slice none 0 0, .int .i64 0] 29))); (try have Z1 := hide ((b1.block w1.heap.size (by simp)).trans (show (w1.alloc (.cells #[.slice none 0 0, .slice none 0 0, .int .i64 0] 29)).drew.heap[w1.heap.size]? = _ from heap_alloc_new w1 (.cells #[.slice none 0 0, .slice none 0 0, .int .i64 0] 29)))); clear b1 f1)
        | (go_at_call 30; (with_reducible refine Calls.mono (toRc_any kind vol arg chunk _) ?_); rintro en y2 ⟨rfl, b2⟩; have B2 := hide (bel_tr (by first | exact B1.out | exact B1a.out) (by first | exact B1.out.size | exact B1a.out.size) b2); have R2d := hide (StIn.below (by first | exact R1d.out | exact R1a.out) b2); have B2a := hide (B2.out.alloc B2.out.size (.cells #[.slice none 0 0, .slice none 0 0, .int .i64 0] 29)); have R2a := hide (R2d.out.below ((Below.refl _ _).alloc (Nat.le_refl _) (.cells #[.slice none 0 0, .slice none 0 0, .int .i64 0] 29))); (try have Z2 := hide ((b2.block _ (Array.getElem?_eq_some_iff.1 Z1.out).1).trans Z1.out)); (try have Y2 := hide ((b2.block y1.heap.size (by simp)).trans (heap_alloc_new y1 (.cells #[.slice none 0 0, .slice none 0 0, .int .i64 0] 29)))); clear b2)
        | (go_at_call 12; (with_reducible refine Calls.mono (CG.out _ _ _ (by first | exact R2d.out | exact R2a.out)) ?_); rintro en y3 ⟨x3, xl3, xc3, y3x, yl3, yc3, rfl, f3⟩; have b3 := f3.blw; have B3 := hide (bel_tr (by first | exact B2.out | exact B2a.out) (by first | exact B2.out.size | exact B2a.out.size) b3); have F3 := hide f3; have B3a := hide (B3.out.alloc B3.out.size (.cells #[.slice x3 xl3 xc3, .slice y3x yl3 yc3, .int .i64 R1.next] 29)); (try have Z3 := hide ((b3.block _ (Array.getElem?_eq_some_iff.1 Z2.out).1).trans Z2.out)); (try have Y3 := hide ((b3.block _ (Array.getElem?_eq_some_iff.1 Y2.out).1).trans Y2.out)); (try have X3 := hide ((b3.block y2.heap.size (by simp)).trans (heap_alloc_new y2 (.cells #[.slice none 0 0, .slice none 0 0, .int .i64 0] 29)))); have BZ := hide (bel3 B3.out (Nat.le_refl _) (.slice x3 xl3 xc3) (.slice y3x yl3 yc3) (.int .i64 R1.next)); (try have BY := hide (bel3 B3.out B1.out.size (.slice x3 xl3 xc3) (.slice y3x yl3 yc3) (.int .i64 R1.next))); have BX := hide (bel3 B3.out B2.out.size (.slice x3 xl3 xc3) (.slice y3x yl3 yc3) (.int .i64 R1.next)); (try have nZ0 := cell_of_row _ _ 0 _ _ _ Z3.out); (try have nZ1 := cell_of_row _ _ 1 _ _ _ Z3.out); (try have nZ2 := cell_of_row _ _ 2 _ _ _ Z3.out); (try have fZ0 := frozen_of_row _ _ 0 _ _ Z3.out); (try have fZ1 := frozen_of_row _ _ 1 _ _ Z3.out); (try have fZ2 := frozen_of_row _ _ 2 _ _ Z3.out); (try have nY0 := cell_of_row _ _ 0 _ _ _ Y3.out); (try have nY1 := cell_of_row _ _ 1 _ _ _ Y3.out); (try have nY2 := cell_of_row _ _ 2 _ _ _ Y3.out); (try have fY0 := frozen_of_row _ _ 0 _ _ Y3.out); (try have fY1 := frozen_of_row _ _ 1 _ _ Y3.out); (try have fY2 := frozen_of_row _ _ 2 _ _ Y3.out); (try have nX0 := cell_of_row _ _ 0 _ _ _ X3.out); (try have nX1 := cell_of_row _ _ 1 _ _ _ X3.out); (try have nX2 := cell_of_row _ _ 2 _ _ _ X3.out); (try have fX0 := frozen_of_row _ _ 0 _ _ X3.out); (try have fX1 := frozen_of_row _ _ 1 _ _ X3.out); (try have fX2 := frozen_of_row _ _ 2 _ _ X3.out); clear f3 b3))
      all_goals
        go_wp2_with fail
        go_meet
        case rel => first
          | exact ⟨rfl, _, _, _, _, _, _, _, rfl, hide (Gs.late T1.out B3.out F3.out B2.out.size)⟩
          | exact ⟨rfl, _, _, _, _, _, _, _, rfl, hide (Gs.early T1.out B3.out F3.out Z3.out (Nat.le_refl _) (Array.getElem?_eq_some_iff.1 Z2.out).1)⟩
          | exact ⟨rfl, _, _, _, _, _, _, _, rfl, hide (Gs.early T1.out B3.out F3.out Y3.out B1.out.size (Array.getElem?_eq_some_iff.1 Y2.out).1)⟩
          | exact ⟨rfl, _, _, _, _, _, _, _, rfl, hide (Gs.early T1.out B3.out F3.out X3.out B2.out.size (by simp))⟩
    case rest =>
      obtain ⟨w5, hwc⟩ : ∃ w5, w5 = wc := ⟨_, rfl⟩
      subst hwc
      obtain ⟨hs7, c6, x6, xl6, xc6, y6, yl6, yc6, hs6, hg⟩ := hcut
      subst hs7 hs6
      obtain ⟨lo6, hi6, p16, p26, p36, t6⟩ := hg.out
      have T5 := hide t6
      have h16 : c6 + 1 ≤ w5.heap.size := t6.hi 0 rfl
      have h26 : hi6 ≤ w5.heap.size := t6.hi 1 rfl
      clear t6 hg KK B0d B0e m0 m1 m2 m3 m4 m5 m6
      have k0 : w5.cell? ⟨w.heap.size, 0, none⟩ = some (.slice va vl vc) := T5.out.at 3 0 rfl rfl
      have k1 : w5.cell? ⟨w.heap.size, 1, none⟩ = some (.slice ad len cap) := T5.out.at 3 1 rfl rfl
      have k2 : w5.cell? ⟨w.heap.size, 2, none⟩ = some (.int .i64 nx) := T5.out.at 3 2 rfl rfl
      clear T1
      go_wp2_with fail
      refine (tosto_tk (vc := vc) (cap := cap) T5.out H.out HK.out HVE.out HLE.out HLL.out HS.out).mono ?_
      rintro e w6 ⟨g8, k8, rfl, t6, s6⟩
      have T6 := hide (t6.celln rfl #[.slice (some ⟨g8, 0, none⟩) vl vl, .slice (some ⟨k8, 0, none⟩) len len, .int .i64 nx] 29)
      have Y6 := hide (show (w6.alloc (.cells #[.slice (some ⟨g8, 0, none⟩) vl vl, .slice (some ⟨k8, 0, none⟩) len len, .int .i64 nx] 29)).heap.size = w6.heap.size + 1 from alloc_size rfl _)
      clear t6 T5 k0 k1 k2
      obtain ⟨w6a, hw6a⟩ : ∃ w6a, w6.alloc (.cells #[.slice (some ⟨g8, 0, none⟩) vl vl, .slice (some ⟨k8, 0, none⟩) len len, .int .i64 nx] 29) = w6a := ⟨_, rfl⟩
      rw [hw6a] at T6 Y6
      have HW6 := hide hw6a
      clear hw6a
      go_upto_region 7 with fail
      rw [HW6.out]
      clear HW6
      have KK : Hid (∀ W, Below w6a.heap.size w6a W → (W.cell? ⟨w6.heap.size, 0, none⟩ = some (.slice (some ⟨g8, 0, none⟩) vl vl) ∧ W.cell? ⟨w6.heap.size, 1, none⟩ = some (.slice (some ⟨k8, 0, none⟩) len len) ∧ W.cell? ⟨w6.heap.size, 2, none⟩ = some (.int .i64 nx) ∧ W.cell? ⟨w.heap.size + 1, 0, none⟩ = some (.int .i64 kind) ∧ W.cell? ⟨w.heap.size + 1, 1, none⟩ = some (.int .i64 vol) ∧ W.cell? ⟨w.heap.size + 1, 2, none⟩ = some (.int .i64 arg) ∧ W.cell? ⟨w.heap.size + 1, 3, none⟩ = some (.int .i64 chunk))) := by
        intro W hW
        have t := T6.out.below hW
        exact ⟨t.at 0 0 rfl rfl, t.at 0 1 rfl rfl, t.at 0 2 rfl rfl, t.at 4 0 rfl rfl, t.at 4 1 rfl rfl, t.at 4 2 rfl rfl, t.at 4 3 rfl rfl⟩
      have B0d := hide ((Below.refl w6a.heap.size w6a).drew)
      have B0e := hide (((Below.refl w6a.heap.size w6a).alloc (Nat.le_refl _) (.cells #[.slice none 0 0, .slice none 0 0, .int .i64 0] 29)).drew)
      obtain ⟨m0, m1, m2, m3, m4, m5, m6⟩ := KK.out _ (Below.refl _ _)
      go_cut [9, 10] (fun s6 s7 wc => s7 = .bool R2 ∧ ∃ (c : Nat) (x : Option Addr) (xl xc : Nat) (y : Option Addr) (yl yc : Nat), s6 = .pointer (some ⟨c, 0, none⟩) ∧ Hid (Gs w wc [(w6.heap.size, w6.heap.size + 1, Cel w6.heap.size #[.slice (some ⟨g8, 0, none⟩) vl vl, .slice (some ⟨k8, 0, none⟩) len len, .int .i64 nx] 29), (w5.heap.size, w6.heap.size, Sts w5.heap.size w6.heap.size (.agg #[.slice (some ⟨g8, 0, none⟩) vl vl, .slice (some ⟨k8, 0, none⟩) len len, .int .i64 nx]) s), (c6, c6 + 1, Cel c6 #[.slice x6 xl6 xc6, .slice y6 yl6 yc6, .int .i64 R1.next] 29), (lo6, hi6, Sts lo6 hi6 (.agg #[.slice x6 xl6 xc6, .slice y6 yl6 yc6, .int .i64 R1.next]) R1), (w.heap.size + 1, w.heap.size + 1 + 1, Cel (w.heap.size + 1) #[.int .i64 kind, .int .i64 vol, .int .i64 arg, .int .i64 chunk] 57), (w.heap.size, w.heap.size + 1, Cel w.heap.size #[.slice va vl vc, .slice ad len cap, .int .i64 nx] 56)] w6a.heap.size c (.slice x xl xc) (.slice y yl yc) R1))
      case first =>
        have RX : Hid (∀ W, Below w6a.heap.size w6a W → StIn W (.agg #[.slice (some ⟨g8, 0, none⟩) vl vl, .slice (some ⟨k8, 0, none⟩) len len, .int .i64 nx]) s) := fun W hW => ((T6.out.below hW).get 1 rfl).rd OK.out.fit ((T6.out.below hW).hi 1 rfl)
        have CG : Hid (∀ W (g1 g2 : Nat), StIn W (.agg #[.slice (some ⟨g1, 0, none⟩) vl vl, .slice (some ⟨g2, 0, none⟩) len len, .int .i64 nx]) s → Calls Try.prog 11 #[.agg #[.slice (some ⟨g1, 0, none⟩) vl vl, .slice (some ⟨g2, 0, none⟩) len len, .int .i64 nx], .agg #[.int .i64 kind, .int .i64 vol, .int .i64 arg, .int .i64 chunk]] W fun e w' => ∃ x xl xc y yl yc, e = .returned (.tuple #[.agg #[.slice x xl xc, .slice y yl yc, .int .i64 R1.next], .bool R2]) ∧ StOut W R1 (.agg #[.slice x xl xc, .slice y yl yc, .int .i64 R1.next]) w') := by
          intro W g1 g2 hW
          refine (HIH.out _ s ⟨kind, vol, arg, chunk⟩ W hW).mono ?_
          rintro e w' ⟨u, rfl, hu⟩
          rw [HR.out] at hu
          simp only at hu
          obtain ⟨x, xl, xc, y, yl, yc, rfl⟩ := hu.form
          rw [HR.out]
          exact ⟨x, xl, xc, y, yl, yc, rfl, hu⟩
        go_region_held3 (fun w' => w'.cell? ⟨w6.heap.size, 0, none⟩ = some (.slice (some ⟨g8, 0, none⟩) vl vl) ∧ w'.cell? ⟨w6.heap.size, 1, none⟩ = some (.slice (some ⟨k8, 0, none⟩) len len) ∧ w'.cell? ⟨w6.heap.size, 2, none⟩ = some (.int .i64 nx) ∧ w'.cell? ⟨w.heap.size + 1, 0, none⟩ = some (.int .i64 kind) ∧ w'.cell? ⟨w.heap.size + 1, 1, none⟩ = some (.int .i64 vol) ∧ w'.cell? ⟨w.heap.size + 1, 2, none⟩ = some (.int .i64 arg) ∧ w'.cell? ⟨w.heap.size + 1, 3, none⟩ = some (.int .i64 chunk)) (first | go_keep | exact KK.out _ B0d.out | exact KK.out _ B0e.out | exact KK.out _ B1.out | exact KK.out _ B1a.out | exact KK.out _ B2.out | exact KK.out _ B2a.out | exact KK.out _ B3.out | exact KK.out _ B3a.out | exact KK.out _ BZ.out | exact KK.out _ BY.out | exact KK.out _ BX.out) (first
          | (go_at_call 30; (with_reducible refine Calls.mono (toRc_any kind vol arg chunk _) ?_); rintro en y2 ⟨rfl, b2⟩; have B2 := hide (bel_tr (by first | exact B0d.out | exact B0e.out) (by simp) b2); have B2a := hide (B2.out.alloc B2.out.size (.cells #[.slice none 0 0, .slice none 0 0, .int .i64 0] 29)); have R2d := hide (RX.out _ B2.out); have R2a := hide (RX.out _ B2a.out); (try have Z2 := hide ((b2.block w6a.heap.size (by simp)).trans (show (w6a.alloc (.cells #[.slice none 0 0, .slice none 0 0, .int .i64 0] 29)).drew.heap[w6a.heap.size]? = _ from heap_alloc_new w6a (.cells #[.slice none 0 0, .slice none 0 0, .int .i64 0] 29)))); clear b2)
          | (go_at_call 11; (with_reducible refine Calls.mono (CG.out _ _ _ (by first | exact R2d.out | exact R2a.out)) ?_); rintro en y3 ⟨x3, xl3, xc3, y3x, yl3, yc3, rfl, f3⟩; have b3 := f3.blw; have B3 := hide (bel_tr (by first | exact B2.out | exact B2a.out) (by first | exact B2.out.size | exact B2a.out.size) b3); have F3 := hide f3; have B3a := hide (B3.out.alloc B3.out.size (.cells #[.slice x3 xl3 xc3, .slice y3x yl3 yc3, .int .i64 R1.next] 29)); (try have Z3 := hide ((b3.block _ (Array.getElem?_eq_some_iff.1 Z2.out).1).trans Z2.out)); (try have Y3 := hide ((b3.block _ (Array.getElem?_eq_some_iff.1 Y2.out).1).trans Y2.out)); (try have X3 := hide ((b3.block y2.heap.size (by simp)).trans (heap_alloc_new y2 (.cells #[.slice none 0 0, .slice none 0 0, .int .i64 0] 29)))); have BZ := hide (bel3 B3.out (Nat.le_refl _) (.slice x3 xl3 xc3) (.slice y3x yl3 yc3) (.int .i64 R1.next)); (try have BY := hide (bel3 B3.out B1.out.size (.slice x3 xl3 xc3) (.slice y3x yl3 yc3) (.int .i64 R1.next))); have BX := hide (bel3 B3.out B2.out.size (.slice x3 xl3 xc3) (.slice y3x yl3 yc3) (.int .i64 R1.next)); (try have nZ0 := cell_of_row _ _ 0 _ _ _ Z3.out); (try have nZ1 := cell_of_row _ _ 1 _ _ _ Z3.out); (try have nZ2 := cell_of_row _ _ 2 _ _ _ Z3.out); (try have fZ0 := frozen_of_row _ _ 0 _ _ Z3.out); (try have fZ1 := frozen_of_row _ _ 1 _ _ Z3.out); (try have fZ2 := frozen_of_row _ _ 2 _ _ Z3.out); (try have nY0 := cell_of_row _ _ 0 _ _ _ Y3.out); (try have nY1 := cell_of_row _ _ 1 _ _ _ Y3.out); (try have nY2 := cell_of_row _ _ 2 _ _ _ Y3.out); (try have fY0 := frozen_of_row _ _ 0 _ _ Y3.out); (try have fY1 := frozen_of_row _ _ 1 _ _ Y3.out); (try have fY2 := frozen_of_row _ _ 2 _ _ Y3.out); (try have nX0 := cell_of_row _ _ 0 _ _ _ X3.out); (try have nX1 := cell_of_row _ _ 1 _ _ _ X3.out); (try have nX2 := cell_of_row _ _ 2 _ _ _ X3.out); (try have fX0 := frozen_of_row _ _ 0 _ _ X3.out); (try have fX1 := frozen_of_row _ _ 1 _ _ X3.out); (try have fX2 := frozen_of_row _ _ 2 _ _ X3.out); clear f3 b3))
        all_goals
          go_wp2_with fail
          go_meet
          case rel => first
            | exact ⟨rfl, _, _, _, _, _, _, _, rfl, hide (Gs.late T6.out B3.out F3.out B2.out.size)⟩
            | exact ⟨rfl, _, _, _, _, _, _, _, rfl, hide (Gs.early T6.out B3.out F3.out Z3.out (Nat.le_refl _) (Array.getElem?_eq_some_iff.1 Z2.out).1)⟩
            | exact ⟨rfl, _, _, _, _, _, _, _, rfl, hide (Gs.early T6.out B3.out F3.out Y3.out B1.out.size (Array.getElem?_eq_some_iff.1 Y2.out).1)⟩
            | exact ⟨rfl, _, _, _, _, _, _, _, rfl, hide (Gs.early T6.out B3.out F3.out X3.out B2.out.size (by simp))⟩
      case rest =>
        obtain ⟨w9, hwc⟩ : ∃ w9, w9 = wc := ⟨_, rfl⟩
        subst hwc
        obtain ⟨hs7, c9, x9, xl9, xc9, y9, yl9, yc9, hs6, hg⟩ := hcut
        subst hs7 hs6
        obtain ⟨lo9, hi9, p19, p29, p39, t9⟩ := hg.out
        have T9 := hide t9
        have h19 : c9 + 1 ≤ w9.heap.size := t9.hi 0 rfl
        have h29 : hi9 ≤ w9.heap.size := t9.hi 1 rfl
        clear t9 hg KK B0d B0e m0 m1 m2 m3 m4 m5 m6
        have k0 : w9.cell? ⟨c9, 0, none⟩ = some (.slice x9 xl9 xc9) := T9.out.at 0 0 rfl rfl
        have k1 : w9.cell? ⟨c9, 1, none⟩ = some (.slice y9 yl9 yc9) := T9.out.at 0 1 rfl rfl
        have k2 : w9.cell? ⟨c9, 2, none⟩ = some (.int .i64 R1.next) := T9.out.at 0 2 rfl rfl
        have v0 : w9.cell? ⟨c6, 0, none⟩ = some (.slice x6 xl6 xc6) := T9.out.at 4 0 rfl rfl
        have v1 : w9.cell? ⟨c6, 1, none⟩ = some (.slice y6 yl6 yc6) := T9.out.at 4 1 rfl rfl
        have v2 : w9.cell? ⟨c6, 2, none⟩ = some (.int .i64 R1.next) := T9.out.at 4 2 rfl rfl
        clear T6
        go_wp2_with fail
        refine (eqsto_tk T9.out 1 5 HOR.out rfl rfl).mono ?_
        rintro e w10 ⟨rfl, t10, s10⟩
        have T10 := hide t10
        have T10d := hide t10.drew
        clear k0 k1 k2 v0 v1 v2
        have k0 : w10.cell? ⟨w.heap.size, 0, none⟩ = some (.slice va vl vc) := T10.out.at 7 0 rfl rfl
        have k1 : w10.cell? ⟨w.heap.size, 1, none⟩ = some (.slice ad len cap) := T10.out.at 7 1 rfl rfl
        have k2 : w10.cell? ⟨w.heap.size, 2, none⟩ = some (.int .i64 nx) := T10.out.at 7 2 rfl rfl
        have v0 : w10.cell? ⟨w6.heap.size, 0, none⟩ = some (.slice (some ⟨g8, 0, none⟩) vl vl) := T10.out.at 2 0 rfl rfl
        have v1 : w10.cell? ⟨w6.heap.size, 1, none⟩ = some (.slice (some ⟨k8, 0, none⟩) len len) := T10.out.at 2 1 rfl rfl
        have v2 : w10.cell? ⟨w6.heap.size, 2, none⟩ = some (.int .i64 nx) := T10.out.at 2 2 rfl rfl
        clear t10 T9
        go_wp2
        go_region_held3 (fun w' => (w'.cell? ⟨w6.heap.size, 0, none⟩ = some (.slice (some ⟨g8, 0, none⟩) vl vl) ∧ w'.cell? ⟨w6.heap.size, 1, none⟩ = some (.slice (some ⟨k8, 0, none⟩) len len) ∧ w'.cell? ⟨w6.heap.size, 2, none⟩ = some (.int .i64 nx)) ∧ w'.cell? ⟨w.heap.size, 0, none⟩ = some (.slice va vl vc) ∧ w'.cell? ⟨w.heap.size, 1, none⟩ = some (.slice ad len cap) ∧ w'.cell? ⟨w.heap.size, 2, none⟩ = some (.int .i64 nx)) (first | go_keep | exact ⟨⟨T11.out.at 3 0 rfl rfl, T11.out.at 3 1 rfl rfl, T11.out.at 3 2 rfl rfl⟩, T11.out.at 8 0 rfl rfl, T11.out.at 8 1 rfl rfl, T11.out.at 8 2 rfl rfl⟩ | exact ⟨⟨T12.out.at 3 0 rfl rfl, T12.out.at 3 1 rfl rfl, T12.out.at 3 2 rfl rfl⟩, T12.out.at 8 0 rfl rfl, T12.out.at 8 1 rfl rfl, T12.out.at 8 2 rfl rfl⟩) (first
          | (go_at_call 29; (with_reducible refine Calls.mono (tosto_tk (vc := vc) (cap := cap) T10d.out H.out HK.out HVE.out HLE.out HLL.out HS.out) ?_); rintro en w11 ⟨g11, k11, rfl, t11, s11⟩; have T11 := hide t11; clear t11)
          | (go_at_call 31; (with_reducible refine Calls.mono (eqsto_tk T11.out 4 0 OK.out rfl rfl) ?_); rintro en w12 ⟨rfl, t12, s12⟩; have T12 := hide t12; clear t12))
        all_goals
          have T13 := hide (T12.out.drop (fun x hx => List.mem_cons_of_mem _ hx))
          clear T10 T10d T11 T12 k0 k1 k2 v0 v1 v2
          have v0 : w12.cell? ⟨w6.heap.size, 0, none⟩ = some (.slice (some ⟨g8, 0, none⟩) vl vl) := T13.out.at 2 0 rfl rfl
          have v1 : w12.cell? ⟨w6.heap.size, 1, none⟩ = some (.slice (some ⟨k8, 0, none⟩) len len) := T13.out.at 2 1 rfl rfl
          have v2 : w12.cell? ⟨w6.heap.size, 2, none⟩ = some (.int .i64 nx) := T13.out.at 2 2 rfl rfl
          have ysz := Y6.out
          have hm1 := hide (show ∀ x ∈ [(c9, c9 + 1, Cel c9 #[.slice x9 xl9 xc9, .slice y9 yl9 yc9, .int .i64 R1.next] 29), (lo9, hi9, Sts lo9 hi9 (.agg #[.slice x9 xl9 xc9, .slice y9 yl9 yc9, .int .i64 R1.next]) R1), (c6, c6 + 1, Cel c6 #[.slice x6 xl6 xc6, .slice y6 yl6 yc6, .int .i64 R1.next] 29), (lo6, hi6, Sts lo6 hi6 (.agg #[.slice x6 xl6 xc6, .slice y6 yl6 yc6, .int .i64 R1.next]) R1), (w.heap.size + 1, w.heap.size + 1 + 1, Cel (w.heap.size + 1) #[.int .i64 kind, .int .i64 vol, .int .i64 arg, .int .i64 chunk] 57), (w.heap.size, w.heap.size + 1, Cel w.heap.size #[.slice va vl vc, .slice ad len cap, .int .i64 nx] 56)], x ∈ [(c9, c9 + 1, Cel c9 #[.slice x9 xl9 xc9, .slice y9 yl9 yc9, .int .i64 R1.next] 29), (lo9, hi9, Sts lo9 hi9 (.agg #[.slice x9 xl9 xc9, .slice y9 yl9 yc9, .int .i64 R1.next]) R1), (w6.heap.size, w6.heap.size + 1, Cel w6.heap.size #[.slice (some ⟨g8, 0, none⟩) vl vl, .slice (some ⟨k8, 0, none⟩) len len, .int .i64 nx] 29), (w5.heap.size, w6.heap.size, Sts w5.heap.size w6.heap.size (.agg #[.slice (some ⟨g8, 0, none⟩) vl vl, .slice (some ⟨k8, 0, none⟩) len len, .int .i64 nx]) s), (c6, c6 + 1, Cel c6 #[.slice x6 xl6 xc6, .slice y6 yl6 yc6, .int .i64 R1.next] 29), (lo6, hi6, Sts lo6 hi6 (.agg #[.slice x6 xl6 xc6, .slice y6 yl6 yc6, .int .i64 R1.next]) R1), (w.heap.size + 1, w.heap.size + 1 + 1, Cel (w.heap.size + 1) #[.int .i64 kind, .int .i64 vol, .int .i64 arg, .int .i64 chunk] 57), (w.heap.size, w.heap.size + 1, Cel w.heap.size #[.slice va vl vc, .slice ad len cap, .int .i64 nx] 56)] ∧ (x.2.1 ≤ w5.heap.size ∨ w6.heap.size ≤ x.1) from (fun x hx => by simp only [List.mem_cons, List.not_mem_nil, or_false] at hx; rcases hx with rfl | rfl | rfl | rfl | rfl | rfl <;> exact ⟨by simp, by simp only; omega⟩))
          have hm2 := hide (show ∀ x ∈ [(c9, c9 + 1, Cel c9 #[.slice x9 xl9 xc9, .slice y9 yl9 yc9, .int .i64 R1.next] 29), (c6, c6 + 1, Cel c6 #[.slice x6 xl6 xc6, .slice y6 yl6 yc6, .int .i64 R1.next] 29), (lo6, hi6, Sts lo6 hi6 (.agg #[.slice x6 xl6 xc6, .slice y6 yl6 yc6, .int .i64 R1.next]) R1), (w.heap.size + 1, w.heap.size + 1 + 1, Cel (w.heap.size + 1) #[.int .i64 kind, .int .i64 vol, .int .i64 arg, .int .i64 chunk] 57), (w.heap.size, w.heap.size + 1, Cel w.heap.size #[.slice va vl vc, .slice ad len cap, .int .i64 nx] 56)], x ∈ [(c9, c9 + 1, Cel c9 #[.slice x9 xl9 xc9, .slice y9 yl9 yc9, .int .i64 R1.next] 29), (lo9, hi9, Sts lo9 hi9 (.agg #[.slice x9 xl9 xc9, .slice y9 yl9 yc9, .int .i64 R1.next]) R1), (c6, c6 + 1, Cel c6 #[.slice x6 xl6 xc6, .slice y6 yl6 yc6, .int .i64 R1.next] 29), (lo6, hi6, Sts lo6 hi6 (.agg #[.slice x6 xl6 xc6, .slice y6 yl6 yc6, .int .i64 R1.next]) R1), (w.heap.size + 1, w.heap.size + 1 + 1, Cel (w.heap.size + 1) #[.int .i64 kind, .int .i64 vol, .int .i64 arg, .int .i64 chunk] 57), (w.heap.size, w.heap.size + 1, Cel w.heap.size #[.slice va vl vc, .slice ad len cap, .int .i64 nx] 56)] ∧ (x.2.1 ≤ lo9 ∨ hi9 ≤ x.1) from (fun x hx => by simp only [List.mem_cons, List.not_mem_nil, or_false] at hx; rcases hx with rfl | rfl | rfl | rfl | rfl <;> exact ⟨by simp, by simp only; omega⟩))
          have lo1 : w.heap.size ≤ w5.heap.size := by omega
          have lo2 : w.heap.size ≤ lo9 := by omega
          clear ysz
          go_wp2_with fail
          refine (marksto_sp T13.out 3 OK.out HMK.out lo1 rfl hm1.out).mono ?_
          rintro e w14 ⟨rfl, t14, -⟩
          have T14 := hide t14
          clear t14 T13 v0 v1 v2 hm1
          have k0 : w14.cell? ⟨c9, 0, none⟩ = some (.slice x9 xl9 xc9) := T14.out.at 0 0 rfl rfl
          have k1 : w14.cell? ⟨c9, 1, none⟩ = some (.slice y9 yl9 yc9) := T14.out.at 0 1 rfl rfl
          have k2 : w14.cell? ⟨c9, 2, none⟩ = some (.int .i64 R1.next) := T14.out.at 0 2 rfl rfl
          have v0 : w14.cell? ⟨c6, 0, none⟩ = some (.slice x6 xl6 xc6) := T14.out.at 2 0 rfl rfl
          have v1 : w14.cell? ⟨c6, 1, none⟩ = some (.slice y6 yl6 yc6) := T14.out.at 2 1 rfl rfl
          have v2 : w14.cell? ⟨c6, 2, none⟩ = some (.int .i64 R1.next) := T14.out.at 2 2 rfl rfl
          go_wp2_with fail
          refine (eqsto_tk T14.out 1 3 HOR.out rfl rfl).mono ?_
          rintro e w15 ⟨rfl, t15, -⟩
          have T15 := hide t15
          clear t15 T14 k0 k1 k2 v0 v1 v2
          have k0 : w15.cell? ⟨c9, 0, none⟩ = some (.slice x9 xl9 xc9) := T15.out.at 0 0 rfl rfl
          have k1 : w15.cell? ⟨c9, 1, none⟩ = some (.slice y9 yl9 yc9) := T15.out.at 0 1 rfl rfl
          have k2 : w15.cell? ⟨c9, 2, none⟩ = some (.int .i64 R1.next) := T15.out.at 0 2 rfl rfl
          go_wp2_with fail
          refine (marksto_tk T15.out 1 HOR.out HMN.out lo2 rfl hm2.out).mono ?_
          rintro e w16 ⟨rfl, t16, -⟩
          have T16 := hide t16
          clear t16 T15 k0 k1 k2 hm2
          have k0 : w16.cell? ⟨c9, 0, none⟩ = some (.slice x9 xl9 xc9) := T16.out.at 1 0 rfl rfl
          have k1 : w16.cell? ⟨c9, 1, none⟩ = some (.slice y9 yl9 yc9) := T16.out.at 1 1 rfl rfl
          have k2 : w16.cell? ⟨c9, 2, none⟩ = some (.int .i64 R1.next) := T16.out.at 1 2 rfl rfl
          go_wp2_with fail
          refine (heldsto_tk T16.out 0 HN9.out rfl).mono ?_
          rintro e w17 ⟨rfl, t17, -⟩
          have T17 := hide t17
          clear t17 T16 k0 k1 k2
          obtain ⟨k0, k1, k2⟩ : w17.cell? ⟨w.heap.size, 0, none⟩ = some (.slice va vl vc) ∧ w17.cell? ⟨w.heap.size, 1, none⟩ = some (.slice ad len cap) ∧ w17.cell? ⟨w.heap.size, 2, none⟩ = some (.int .i64 nx) := ⟨T17.out.at 5 0 rfl rfl, T17.out.at 5 1 rfl rfl, T17.out.at 5 2 rfl rfl⟩
          go_upto_region 24 with fail
          have KK : Hid (∀ W, Below w17.heap.size w17 W → (W.cell? ⟨w.heap.size, 0, none⟩ = some (.slice va vl vc) ∧ W.cell? ⟨w.heap.size, 1, none⟩ = some (.slice ad len cap) ∧ W.cell? ⟨w.heap.size, 2, none⟩ = some (.int .i64 nx) ∧ W.cell? ⟨w.heap.size + 1, 0, none⟩ = some (.int .i64 kind) ∧ W.cell? ⟨w.heap.size + 1, 1, none⟩ = some (.int .i64 vol) ∧ W.cell? ⟨w.heap.size + 1, 2, none⟩ = some (.int .i64 arg) ∧ W.cell? ⟨w.heap.size + 1, 3, none⟩ = some (.int .i64 chunk))) := by
            intro W hW
            have t := T17.out.below hW
            exact ⟨t.at 5 0 rfl rfl, t.at 5 1 rfl rfl, t.at 5 2 rfl rfl, t.at 4 0 rfl rfl, t.at 4 1 rfl rfl, t.at 4 2 rfl rfl, t.at 4 3 rfl rfl⟩
          have B0d := hide ((Below.refl w17.heap.size w17).drew)
          have B0e := hide (((Below.refl w17.heap.size w17).alloc (Nat.le_refl _) (.cells #[.slice none 0 0, .slice none 0 0, .int .i64 0] 29)).drew)
          obtain ⟨m0, m1, m2, m3, m4, m5, m6⟩ := KK.out _ (Below.refl _ _)
          go_cut [14, 15] (fun s6 s7 wc => s7 = .bool R2 ∧ ∃ (c : Nat) (x : Option Addr) (xl xc : Nat) (y : Option Addr) (yl yc : Nat), s6 = .pointer (some ⟨c, 0, none⟩) ∧ Hid (Gs w wc [(lo9, hi9, MSt lo9 hi9 (.agg #[.slice x9 xl9 xc9, .slice y9 yl9 yc9, .int .i64 R1.next]) N), (c9, c9 + 1, Cel c9 #[.slice x9 xl9 xc9, .slice y9 yl9 yc9, .int .i64 R1.next] 29), (c6, c6 + 1, Cel c6 #[.slice x6 xl6 xc6, .slice y6 yl6 yc6, .int .i64 R1.next] 29), (lo6, hi6, Sts lo6 hi6 (.agg #[.slice x6 xl6 xc6, .slice y6 yl6 yc6, .int .i64 R1.next]) R1), (w.heap.size + 1, w.heap.size + 1 + 1, Cel (w.heap.size + 1) #[.int .i64 kind, .int .i64 vol, .int .i64 arg, .int .i64 chunk] 57), (w.heap.size, w.heap.size + 1, Cel w.heap.size #[.slice va vl vc, .slice ad len cap, .int .i64 nx] 56)] w17.heap.size c (.slice x xl xc) (.slice y yl yc) R1))
          case first =>
            have CF : Hid (∀ W, Below w17.heap.size w17 W → Calls Try.prog 29 #[.agg #[.slice va vl vc, .slice ad len cap, .int .i64 nx]] W fun e w' => ∃ g1 g2 : Nat, e = .returned (.agg #[.slice (some ⟨g1, 0, none⟩) vl vl, .slice (some ⟨g2, 0, none⟩) len len, .int .i64 nx]) ∧ StIn w' (.agg #[.slice (some ⟨g1, 0, none⟩) vl vl, .slice (some ⟨g2, 0, none⟩) len len, .int .i64 nx]) s ∧ Below W.heap.size W w') := by
              intro W hW
              have t := T17.out.below hW
              refine (toSto_any va vl vc ad len cap nx vs rs W HVE.out HLE.out HLL.out (H.out.below t.1) (HK.out.below t.1)).mono ?_
              rintro e y2 ⟨g1, g2, rfl, f1⟩
              rw [← HS.out] at f1
              exact ⟨g1, g2, rfl, f1.rd OK.out.fit, f1.blw⟩
            have CG : Hid (∀ W (g1 g2 : Nat), StIn W (.agg #[.slice (some ⟨g1, 0, none⟩) vl vl, .slice (some ⟨g2, 0, none⟩) len len, .int .i64 nx]) s → Calls Try.prog 11 #[.agg #[.slice (some ⟨g1, 0, none⟩) vl vl, .slice (some ⟨g2, 0, none⟩) len len, .int .i64 nx], .agg #[.int .i64 kind, .int .i64 vol, .int .i64 arg, .int .i64 chunk]] W fun e w' => ∃ x xl xc y yl yc, e = .returned (.tuple #[.agg #[.slice x xl xc, .slice y yl yc, .int .i64 R1.next], .bool R2]) ∧ StOut W R1 (.agg #[.slice x xl xc, .slice y yl yc, .int .i64 R1.next]) w') := by
              intro W g1 g2 hW
              refine (HIH.out _ s ⟨kind, vol, arg, chunk⟩ W hW).mono ?_
              rintro e w' ⟨u, rfl, hu⟩
              rw [HR.out] at hu
              simp only at hu
              obtain ⟨x, xl, xc, y, yl, yc, rfl⟩ := hu.form
              rw [HR.out]
              exact ⟨x, xl, xc, y, yl, yc, rfl, hu⟩
            go_region_held3 (fun w' => w'.cell? ⟨w.heap.size, 0, none⟩ = some (.slice va vl vc) ∧ w'.cell? ⟨w.heap.size, 1, none⟩ = some (.slice ad len cap) ∧ w'.cell? ⟨w.heap.size, 2, none⟩ = some (.int .i64 nx) ∧ w'.cell? ⟨w.heap.size + 1, 0, none⟩ = some (.int .i64 kind) ∧ w'.cell? ⟨w.heap.size + 1, 1, none⟩ = some (.int .i64 vol) ∧ w'.cell? ⟨w.heap.size + 1, 2, none⟩ = some (.int .i64 arg) ∧ w'.cell? ⟨w.heap.size + 1, 3, none⟩ = some (.int .i64 chunk)) (first | go_keep | exact KK.out _ B0d.out | exact KK.out _ B0e.out | exact KK.out _ B1.out | exact KK.out _ B1a.out | exact KK.out _ B2.out | exact KK.out _ B2a.out | exact KK.out _ B3.out | exact KK.out _ B3a.out | exact KK.out _ BZ.out | exact KK.out _ BY.out | exact KK.out _ BX.out) (first
              | (go_at_call 29; (with_reducible refine Calls.mono (CF.out _ (by first | exact B0d.out | exact B0e.out)) ?_); rintro en y1 ⟨g1, g2, rfl, f1, b1⟩; have B1 := hide (bel_tr (by first | exact B0d.out | exact B0e.out) (by simp) b1); have R1d := hide f1; have B1a := hide (B1.out.alloc B1.out.size (.cells #[.slice none 0 0, .slice none 0 0, .int .i64 0] 29)); have R1a := hide (f1.below ((Below.refl _ _).alloc (Nat.le_refl _) (.cells #[.slice none 0 0, .slice none 0 0, .int .i64 0] 29))); (try have Z1 := hide ((b1.block w17.heap.size (by simp)).trans (show (w17.alloc (.cells #[.slice none 0 0, .slice none 0 0, .int .i64 0] 29)).drew.heap[w17.heap.size]? = _ from heap_alloc_new w17 (.cells #[.slice none 0 0, .slice none 0 0, .int .i64 0] 29)))); clear b1 f1)
              | (go_at_call 30; (with_reducible refine Calls.mono (toRc_any kind vol arg chunk _) ?_); rintro en y2 ⟨rfl, b2⟩; have B2 := hide (bel_tr (by first | exact B1.out | exact B1a.out) (by first | exact B1.out.size | exact B1a.out.size) b2); have R2d := hide (StIn.below (by first | exact R1d.out | exact R1a.out) b2); have B2a := hide (B2.out.alloc B2.out.size (.cells #[.slice none 0 0, .slice none 0 0, .int .i64 0] 29)); have R2a := hide (R2d.out.below ((Below.refl _ _).alloc (Nat.le_refl _) (.cells #[.slice none 0 0, .slice none 0 0, .int .i64 0] 29))); (try have Z2 := hide ((b2.block _ (Array.getElem?_eq_some_iff.1 Z1.out).1).trans Z1.out)); (try have Y2 := hide ((b2.block y1.heap.size (by simp)).trans (heap_alloc_new y1 (.cells #[.slice none 0 0, .slice none 0 0, .int .i64 0] 29)))); clear b2)
              | (go_at_call 11; (with_reducible refine Calls.mono (CG.out _ _ _ (by first | exact R2d.out | exact R2a.out)) ?_); rintro en y3 ⟨x3, xl3, xc3, y3x, yl3, yc3, rfl, f3⟩; have b3 := f3.blw; have B3 := hide (bel_tr (by first | exact B2.out | exact B2a.out) (by first | exact B2.out.size | exact B2a.out.size) b3); have F3 := hide f3; have B3a := hide (B3.out.alloc B3.out.size (.cells #[.slice x3 xl3 xc3, .slice y3x yl3 yc3, .int .i64 R1.next] 29)); (try have Z3 := hide ((b3.block _ (Array.getElem?_eq_some_iff.1 Z2.out).1).trans Z2.out)); (try have Y3 := hide ((b3.block _ (Array.getElem?_eq_some_iff.1 Y2.out).1).trans Y2.out)); (try have X3 := hide ((b3.block y2.heap.size (by simp)).trans (heap_alloc_new y2 (.cells #[.slice none 0 0, .slice none 0 0, .int .i64 0] 29)))); have BZ := hide (bel3 B3.out (Nat.le_refl _) (.slice x3 xl3 xc3) (.slice y3x yl3 yc3) (.int .i64 R1.next)); (try have BY := hide (bel3 B3.out B1.out.size (.slice x3 xl3 xc3) (.slice y3x yl3 yc3) (.int .i64 R1.next))); have BX := hide (bel3 B3.out B2.out.size (.slice x3 xl3 xc3) (.slice y3x yl3 yc3) (.int .i64 R1.next)); (try have nZ0 := cell_of_row _ _ 0 _ _ _ Z3.out); (try have nZ1 := cell_of_row _ _ 1 _ _ _ Z3.out); (try have nZ2 := cell_of_row _ _ 2 _ _ _ Z3.out); (try have fZ0 := frozen_of_row _ _ 0 _ _ Z3.out); (try have fZ1 := frozen_of_row _ _ 1 _ _ Z3.out); (try have fZ2 := frozen_of_row _ _ 2 _ _ Z3.out); (try have nY0 := cell_of_row _ _ 0 _ _ _ Y3.out); (try have nY1 := cell_of_row _ _ 1 _ _ _ Y3.out); (try have nY2 := cell_of_row _ _ 2 _ _ _ Y3.out); (try have fY0 := frozen_of_row _ _ 0 _ _ Y3.out); (try have fY1 := frozen_of_row _ _ 1 _ _ Y3.out); (try have fY2 := frozen_of_row _ _ 2 _ _ Y3.out); (try have nX0 := cell_of_row _ _ 0 _ _ _ X3.out); (try have nX1 := cell_of_row _ _ 1 _ _ _ X3.out); (try have nX2 := cell_of_row _ _ 2 _ _ _ X3.out); (try have fX0 := frozen_of_row _ _ 0 _ _ X3.out); (try have fX1 := frozen_of_row _ _ 1 _ _ X3.out); (try have fX2 := frozen_of_row _ _ 2 _ _ X3.out); clear f3 b3))
            all_goals
              go_wp2_with fail
              go_meet
              case rel => first
                | exact ⟨rfl, _, _, _, _, _, _, _, rfl, hide (Gs.late T17.out B3.out F3.out B2.out.size)⟩
                | exact ⟨rfl, _, _, _, _, _, _, _, rfl, hide (Gs.early T17.out B3.out F3.out Z3.out (Nat.le_refl _) (Array.getElem?_eq_some_iff.1 Z2.out).1)⟩
                | exact ⟨rfl, _, _, _, _, _, _, _, rfl, hide (Gs.early T17.out B3.out F3.out Y3.out B1.out.size (Array.getElem?_eq_some_iff.1 Y2.out).1)⟩
                | exact ⟨rfl, _, _, _, _, _, _, _, rfl, hide (Gs.early T17.out B3.out F3.out X3.out B2.out.size (by simp))⟩
          case rest =>
            obtain ⟨w20, hwc⟩ : ∃ w20, w20 = wc := ⟨_, rfl⟩
            subst hwc
            obtain ⟨hs7, c20, x20, xl20, xc20, y20, yl20, yc20, hs6, hg⟩ := hcut
            subst hs7 hs6
            obtain ⟨lo20, hi20, p120, p220, p320, t20⟩ := hg.out
            have T20 := hide t20
            have h120 : c20 + 1 ≤ w20.heap.size := t20.hi 0 rfl
            have h220 : hi20 ≤ w20.heap.size := t20.hi 1 rfl
            clear t20 hg KK B0d B0e m0 m1 m2 m3 m4 m5 m6
            clear k0 k1 k2
            have k0 : w20.cell? ⟨c20, 0, none⟩ = some (.slice x20 xl20 xc20) := T20.out.at 0 0 rfl rfl
            have k1 : w20.cell? ⟨c20, 1, none⟩ = some (.slice y20 yl20 yc20) := T20.out.at 0 1 rfl rfl
            have k2 : w20.cell? ⟨c20, 2, none⟩ = some (.int .i64 R1.next) := T20.out.at 0 2 rfl rfl
            have v0 : w20.cell? ⟨c6, 0, none⟩ = some (.slice x6 xl6 xc6) := T20.out.at 4 0 rfl rfl
            have v1 : w20.cell? ⟨c6, 1, none⟩ = some (.slice y6 yl6 yc6) := T20.out.at 4 1 rfl rfl
            have v2 : w20.cell? ⟨c6, 2, none⟩ = some (.int .i64 R1.next) := T20.out.at 4 2 rfl rfl
            clear T17
            go_wp2_with fail
            refine (eqsto_tk T20.out 1 5 HOR.out rfl rfl).mono ?_
            rintro e w21 ⟨rfl, t21, -⟩
            have T21 := hide t21
            clear t21 T20 k0 k1 k2 v0 v1 v2
            have k0 : w21.cell? ⟨c9, 0, none⟩ = some (.slice x9 xl9 xc9) := T21.out.at 3 0 rfl rfl
            have k1 : w21.cell? ⟨c9, 1, none⟩ = some (.slice y9 yl9 yc9) := T21.out.at 3 1 rfl rfl
            have k2 : w21.cell? ⟨c9, 2, none⟩ = some (.int .i64 R1.next) := T21.out.at 3 2 rfl rfl
            go_wp2_with fail
            refine (heldsto_tk T21.out 2 HN9.out rfl).mono ?_
            rintro e w22 ⟨rfl, t22, -⟩
            have T22 := hide t22
            clear t22 T21 k0 k1 k2
            go_wp2
            go_ret
            exact ⟨rfl, T22.out.1⟩
end Go.Proofs.Ytcnaahajaaifjaa
