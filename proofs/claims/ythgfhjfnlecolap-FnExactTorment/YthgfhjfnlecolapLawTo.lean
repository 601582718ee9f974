/-
  FnExactTorment.
-/
import Derived.Test.YthgfhjfnlecolapSTo
import Derived.Test.YthgfhjfnlecolapITo
import Derived.Test.YthgfhjfnlecolapPk49
import Derived.Deep.RegionHeld3
import Derived.Deep.DeepCutAuto
namespace Go.Proofs.Ythgfhjfnlecolap
open Go.RowKit

set_option maxHeartbeats 6400000 in
set_option maxRecDepth 100000 in
theorem lawTo_any (a : Option Addr) (len cap : Nat) (rs : List Rw) (k b lf : Int) (t : ByteArray) (w : World) (h : BkRow w a len rs) (ht : t.size ≤ maxLen) :
    Calls Try.prog 8 #[.agg #[.slice a len cap], .agg #[.int .i64 k, .int .i64 b, .int .i64 lf, .string t]] w fun e w' => e = .returned (.bool true) ∧ Below w.heap.size w w' := by
  obtain ⟨bs, hbs⟩ : ∃ bs, rs.map tellOf = bs := ⟨_, rfl⟩
  obtain ⟨R1, R2, hR⟩ : ∃ R1 R2, tormF bs (k, b, lf, t) = (R1, R2) := ⟨_, _, rfl⟩
  have T0 := hide (Tk.two w #[.slice a len cap] #[.int .i64 k, .int .i64 b, .int .i64 lf, .string t] 24 36)
  have H := hide h
  have HBS := hide hbs
  have HR := hide hR
  have hlen := h.1
  have HT := hide ht
  clear h hbs hR ht
  go_enter Try.func8, Try.ntmps8
  go_wp2_with fail
  generalize (w.alloc (.cells #[.slice a len cap] 24)).alloc (.cells #[.int .i64 k, .int .i64 b, .int .i64 lf, .string t] 36) = w0 at T0 ⊢
  refine (szFlash_any a len cap rs 1048576 w0 (Nat.le_refl _) (H.out.below T0.out.1)).mono ?_
  rintro e w1 ⟨⟨r, rfl, r1, r2, r3⟩, b1⟩
  have T1 := hide (T0.out.below b1)
  have z1 : w.heap.size + 1 + 1 ≤ w1.heap.size := T1.out.hi 0 rfl
  have j0 : w1.cell? ⟨w.heap.size + 1, 0, none⟩ = some (.int .i64 k) := T1.out.at 0 0 rfl rfl
  have j1 : w1.cell? ⟨w.heap.size + 1, 1, none⟩ = some (.int .i64 b) := T1.out.at 0 1 rfl rfl
  have j2 : w1.cell? ⟨w.heap.size + 1, 2, none⟩ = some (.int .i64 lf) := T1.out.at 0 2 rfl rfl
  have j3 : w1.cell? ⟨w.heap.size + 1, 3, none⟩ = some (.string t) := T1.out.at 0 3 rfl rfl
  clear b1 T0
  by_cases hr : r < 0
  · clear r2 r3
    go_wp2
    go_ret
    exact ⟨rfl, T1.out.1⟩
  · obtain ⟨hl, hll, ho⟩ := meas (by omega) (r2 (by omega))
    have htx := tx_tell (r3 (by omega))
    have hr9 : r ≤ 1048576 := by have := r2 (by omega); omega
    rw [HBS.out] at ho htx
    obtain ⟨zz, rfl⟩ : ∃ zz : Nat, r = zz := ⟨r.toNat, by omega⟩
    have HLL := hide hll
    have HO := hide ho
    have HSM := hide (Sml.of ho htx)
    have HLE := hide (show len ≤ 1048576 by omega)
    clear r2 r3 hll ho htx hl hlen
    go_wp2_with fail
    refine (szSt_any k b lf t zz w1 HT.out (by omega)).mono ?_
    rintro e w2 ⟨⟨q, rfl, q1, q2, q3⟩, b2⟩
    have T2 := hide (T1.out.below b2)
    have z2 := b2.size
    clear b2 T1 j0 j1 j2 j3
    by_cases hq : q < 0
    · clear q3
      go_wp2
      go_ret
      exact ⟨rfl, T2.out.1⟩
    · have hor : Okk R1 := HO.out.shape (by have := shp_torm bs (k, b, lf, t); rw [HR.out] at this; exact this)
      have HOR := hide hor
      obtain ⟨N, hN⟩ : ∃ N, endK 1 R1 = N := ⟨_, rfl⟩
      have HN9 := hide (show N ≤ 1000000000 by have := hor.2.2; omega)
      have HN := hide hN
      obtain ⟨K, hK⟩ : ∃ K, endK 1 bs = K := ⟨_, rfl⟩
      have HK := hide hK
      clear q3 hor hN hK
      go_upto_region 8 with fail
      have KK : Hid (∀ W, Below w2.heap.size w2 W → (W.cell? ⟨w.heap.size, 0, none⟩ = some (.slice a len cap) ∧ W.cell? ⟨w.heap.size + 1, 0, none⟩ = some (.int .i64 k) ∧ W.cell? ⟨w.heap.size + 1, 1, none⟩ = some (.int .i64 b) ∧ W.cell? ⟨w.heap.size + 1, 2, none⟩ = some (.int .i64 lf) ∧ W.cell? ⟨w.heap.size + 1, 3, none⟩ = some (.string t))) := by
        intro W hW
        have t := T2.out.below hW
        exact ⟨t.at 1 0 rfl rfl, t.at 0 0 rfl rfl, t.at 0 1 rfl rfl, t.at 0 2 rfl rfl, t.at 0 3 rfl rfl⟩
      have B0d := hide ((Below.refl w2.heap.size w2).drew)
      have B0e := hide (((Below.refl w2.heap.size w2).alloc (Nat.le_refl _) (.cells #[.slice none 0 0] 30)).drew)
      obtain ⟨m0, m1, m2, m3, m4⟩ := KK.out _ (Below.refl _ _)
      go_cut [6, 7] (fun s6 s7 wc => s7 = .bool R2 ∧ ∃ (c : Nat) (ad : Option Addr) (cp : Nat), s6 = .pointer (some ⟨c, 0, none⟩) ∧ Hid (Gt w wc [(w.heap.size + 1, w.heap.size + 1 + 1, Cel (w.heap.size + 1) #[.int .i64 k, .int .i64 b, .int .i64 lf, .string t] 36), (w.heap.size, w.heap.size + 1, Cel w.heap.size #[.slice a len cap] 24)] w2.heap.size c (.slice ad R1.length cp) R1))
      case first =>
        have CF : Hid (∀ W, Below w2.heap.size w2 W → Calls Try.prog 11 #[.agg #[.slice a len cap]] W fun e w' => ∃ ad c, e = .returned (.agg #[.slice ad bs.length c]) ∧ RdB w' (.slice ad bs.length c) bs ∧ Below W.heap.size W w') := by
          intro W hW
          refine (toFlash_any a len cap rs W HLE.out HLL.out (H.out.below (T2.out.below hW).1)).mono ?_
          rintro e y2 ⟨v1, rfl, f1, b2⟩
          rw [HBS.out] at f1
          obtain ⟨ad1, cap1, rfl⟩ := f1.form
          exact ⟨ad1, cap1, rfl, f1.rdb, b2⟩
        have CG : Hid (∀ W v, RdB W v bs → Calls Try.prog 30 #[.agg #[v], .agg #[.int .i64 k, .int .i64 b, .int .i64 lf, .string t]] W fun e w' => ∃ u, e = .returned (.tuple #[.agg #[u], .bool R2]) ∧ FlashOf w' W.heap.size u R1 ∧ Below W.heap.size W w') := by
          intro W v hW
          have := sto_b v bs (k, b, lf, t) W HSM.out hW
          rw [HR.out] at this
          exact this
        go_region_held3 (fun w' => w'.cell? ⟨w.heap.size, 0, none⟩ = some (.slice a len cap) ∧ w'.cell? ⟨w.heap.size + 1, 0, none⟩ = some (.int .i64 k) ∧ w'.cell? ⟨w.heap.size + 1, 1, none⟩ = some (.int .i64 b) ∧ w'.cell? ⟨w.heap.size + 1, 2, none⟩ = some (.int .i64 lf) ∧ w'.cell? ⟨w.heap.size + 1, 3, none⟩ = some (.string t)) (first | go_keep | exact KK.out _ B0d.out | exact KK.out _ B0e.out | exact KK.out _ B1.out | exact KK.out _ B1a.out | exact KK.out _ B2.out | exact KK.out _ B2a.out | exact KK.out _ B3.out | exact KK.out _ B3a.out | exact KK.out _ BZ.out | exact KK.out _ BY.out | exact KK.out _ BX.out) (first
          | (go_at_call 11; (with_reducible refine Calls.mono (CF.out _ (by first | exact B0d.out | exact B0e.out)) ?_); rintro en y1 ⟨ad1, c1, rfl, f1, b1⟩; have B1 := hide (bel_trans (by first | exact B0d.out | exact B0e.out) (by simp) b1); have R1d := hide f1; have B1a := hide (B1.out.alloc B1.out.size (.cells #[.slice none 0 0] 30)); have R1a := hide (f1.below ((Below.refl _ _).alloc (Nat.le_refl _) (.cells #[.slice none 0 0] 30))); (try have Z1 := hide ((b1.block w2.heap.size (by simp)).trans (show (w2.alloc (.cells #[.slice none 0 0] 30)).drew.heap[w2.heap.size]? = _ from heap_alloc_new w2 (.cells #[.slice none 0 0] 30)))); clear b1 f1)
          | (go_at_call 18; (with_reducible refine Calls.mono (toSt_any k b lf t _) ?_); rintro en y2 ⟨rfl, b2⟩; have B2 := hide (bel_trans (by first | exact B1.out | exact B1a.out) (by first | exact B1.out.size | exact B1a.out.size) b2); have R2d := hide (RdB.below (by first | exact R1d.out | exact R1a.out) b2); have B2a := hide (B2.out.alloc B2.out.size (.cells #[.slice none 0 0] 30)); have R2a := hide (R2d.out.below ((Below.refl _ _).alloc (Nat.le_refl _) (.cells #[.slice none 0 0] 30))); (try have Z2 := hide ((b2.block _ (Array.getElem?_eq_some_iff.1 Z1.out).1).trans Z1.out)); (try have Y2 := hide ((b2.block y1.heap.size (by simp)).trans (heap_alloc_new y1 (.cells #[.slice none 0 0] 30)))); clear b2)
          | (go_at_call 30; (with_reducible refine Calls.mono (CG.out _ _ (by first | exact R2d.out | exact R2a.out)) ?_); rintro en y3 ⟨u3, rfl, f3, b3⟩; obtain ⟨ad3, c3, rfl⟩ := f3.form; have B3 := hide (bel_trans (by first | exact B2.out | exact B2a.out) (by first | exact B2.out.size | exact B2a.out.size) b3); have F3 := hide f3; have B3a := hide (B3.out.alloc B3.out.size (.cells #[.slice ad3 R1.length c3] 30)); (try have Z3 := hide ((b3.block _ (Array.getElem?_eq_some_iff.1 Z2.out).1).trans Z2.out)); (try have Y3 := hide ((b3.block _ (Array.getElem?_eq_some_iff.1 Y2.out).1).trans Y2.out)); (try have X3 := hide ((b3.block y2.heap.size (by simp)).trans (heap_alloc_new y2 (.cells #[.slice none 0 0] 30)))); have BZ := hide (B3.out.setCell (p := ⟨w2.heap.size, 0, none⟩) (Nat.le_refl _) (.slice ad3 R1.length c3)); (try have BY := hide (B3.out.setCell (p := ⟨y1.heap.size, 0, none⟩) B1.out.size (.slice ad3 R1.length c3))); have BX := hide (B3.out.setCell (p := ⟨y2.heap.size, 0, none⟩) B2.out.size (.slice ad3 R1.length c3)); (try have n3 : y3.cell? ⟨w2.heap.size, 0, none⟩ = some (.slice none 0 0) := cell_of_row _ _ 0 _ _ _ Z3.out); (try have f3' := frozen_of_row _ _ 0 _ _ Z3.out); (try have n3 : y3.cell? ⟨y1.heap.size, 0, none⟩ = some (.slice none 0 0) := cell_of_row _ _ 0 _ _ _ Y3.out); (try have f3' := frozen_of_row _ _ 0 _ _ Y3.out); (try have n3 : y3.cell? ⟨y2.heap.size, 0, none⟩ = some (.slice none 0 0) := cell_of_row _ _ 0 _ _ _ X3.out); (try have f3' := frozen_of_row _ _ 0 _ _ X3.out); clear f3 b3))
        all_goals
          go_wp2_with fail
          go_meet
          case rel => first
            | exact ⟨rfl, _, _, _, rfl, hide (Gt.late T2.out B3.out F3.out B2.out.size)⟩
            | exact ⟨rfl, _, _, _, rfl, hide (Gt.early T2.out B3.out F3.out Z3.out (Nat.le_refl _) (Array.getElem?_eq_some_iff.1 Z2.out).1)⟩
            | exact ⟨rfl, _, _, _, rfl, hide (Gt.early T2.out B3.out F3.out Y3.out B1.out.size (Array.getElem?_eq_some_iff.1 Y2.out).1)⟩
            | exact ⟨rfl, _, _, _, rfl, hide (Gt.early T2.out B3.out F3.out X3.out B2.out.size (by simp))⟩
      case rest =>
        obtain ⟨w5, hwc⟩ : ∃ w5, w5 = wc := ⟨_, rfl⟩
        subst hwc
        obtain ⟨hs7, c6, ad6, cp6, hs6, hg⟩ := hcut
        subst hs7 hs6
        obtain ⟨lo6, hi6, p1c6, p2c6, p3c6, tc6⟩ := hg.out
        have T5 := hide tc6
        have h1c6 : c6 + 1 ≤ w5.heap.size := tc6.hi 0 rfl
        have h2c6 : hi6 ≤ w5.heap.size := tc6.hi 1 rfl
        clear tc6 hg KK B0d B0e m0 m1 m2 m3 m4
        have k5 : w5.cell? ⟨w.heap.size, 0, none⟩ = some (.slice a len cap) := T5.out.at 3 0 rfl rfl
        clear T2
        go_wp2_with fail
        refine (to_tk T5.out H.out HBS.out HLE.out HLL.out).mono ?_
        rintro e w6 ⟨ad8, cp8, rfl, t6, s6⟩
        have T6 := hide (t6.celln rfl #[.slice ad8 bs.length cp8] 30)
        have Y6 := hide (show (w6.alloc (.cells #[.slice ad8 bs.length cp8] 30)).heap.size = w6.heap.size + 1 from alloc_size rfl _)
        clear t6 T5 k5
        obtain ⟨w6a, hw6a⟩ : ∃ w6a, w6.alloc (.cells #[.slice ad8 bs.length cp8] 30) = w6a := ⟨_, rfl⟩
        rw [hw6a] at T6 Y6
        have HW6 := hide hw6a
        clear hw6a
        go_upto_region 10 with fail
        rw [HW6.out]
        clear HW6
        have KK : Hid (∀ W, Below w6a.heap.size w6a W → (W.cell? ⟨w6.heap.size, 0, none⟩ = some (.slice ad8 bs.length cp8) ∧ W.cell? ⟨w.heap.size + 1, 0, none⟩ = some (.int .i64 k) ∧ W.cell? ⟨w.heap.size + 1, 1, none⟩ = some (.int .i64 b) ∧ W.cell? ⟨w.heap.size + 1, 2, none⟩ = some (.int .i64 lf) ∧ W.cell? ⟨w.heap.size + 1, 3, none⟩ = some (.string t))) := by
          intro W hW
          have t := T6.out.below hW
          exact ⟨t.at 0 0 rfl rfl, t.at 4 0 rfl rfl, t.at 4 1 rfl rfl, t.at 4 2 rfl rfl, t.at 4 3 rfl rfl⟩
        have B0d := hide ((Below.refl w6a.heap.size w6a).drew)
        have B0e := hide (((Below.refl w6a.heap.size w6a).alloc (Nat.le_refl _) (.cells #[.slice none 0 0] 30)).drew)
        obtain ⟨m0, m1, m2, m3, m4⟩ := KK.out _ (Below.refl _ _)
        go_cut [9, 10] (fun s6 s7 wc => s7 = .bool R2 ∧ ∃ (c : Nat) (ad : Option Addr) (cp : Nat), s6 = .pointer (some ⟨c, 0, none⟩) ∧ Hid (Gt w wc [(w6.heap.size, w6.heap.size + 1, Cel w6.heap.size #[.slice ad8 bs.length cp8] 30), (w5.heap.size, w6.heap.size, Fla w5.heap.size w6.heap.size (.slice ad8 bs.length cp8) bs), (c6, c6 + 1, Cel c6 #[.slice ad6 R1.length cp6] 30), (lo6, hi6, Fla lo6 hi6 (.slice ad6 R1.length cp6) R1), (w.heap.size + 1, w.heap.size + 1 + 1, Cel (w.heap.size + 1) #[.int .i64 k, .int .i64 b, .int .i64 lf, .string t] 36), (w.heap.size, w.heap.size + 1, Cel w.heap.size #[.slice a len cap] 24)] w6a.heap.size c (.slice ad R1.length cp) R1))
        case first =>
          have RX : Hid (∀ W, Below w6a.heap.size w6a W → RdB W (.slice ad8 bs.length cp8) bs) := fun W hW => ((T6.out.below hW).get 1 rfl).rdb
          have CG : Hid (∀ W v, RdB W v bs → Calls Try.prog 31 #[.agg #[v], .agg #[.int .i64 k, .int .i64 b, .int .i64 lf, .string t]] W fun e w' => ∃ u, e = .returned (.tuple #[.agg #[u], .bool R2]) ∧ FlashOf w' W.heap.size u R1 ∧ Below W.heap.size W w') := by
            intro W v hW
            have := ito_b v bs (k, b, lf, t) W HSM.out hW
            rw [HR.out] at this
            exact this
          go_region_held3 (fun w' => w'.cell? ⟨w6.heap.size, 0, none⟩ = some (.slice ad8 bs.length cp8) ∧ w'.cell? ⟨w.heap.size + 1, 0, none⟩ = some (.int .i64 k) ∧ w'.cell? ⟨w.heap.size + 1, 1, none⟩ = some (.int .i64 b) ∧ w'.cell? ⟨w.heap.size + 1, 2, none⟩ = some (.int .i64 lf) ∧ w'.cell? ⟨w.heap.size + 1, 3, none⟩ = some (.string t)) (first | go_keep | exact KK.out _ B0d.out | exact KK.out _ B0e.out | exact KK.out _ B1.out | exact KK.out _ B1a.out | exact KK.out _ B2.out | exact KK.out _ B2a.out | exact KK.out _ B3.out | exact KK.out _ B3a.out | exact KK.out _ BZ.out | exact KK.out _ BY.out | exact KK.out _ BX.out) (first
            | (go_at_call 18; (with_reducible refine Calls.mono (toSt_any k b lf t _) ?_); rintro en y2 ⟨rfl, b2⟩; have B2 := hide (bel_trans (by first | exact B0d.out | exact B0e.out) (by simp) b2); have B2a := hide (B2.out.alloc B2.out.size (.cells #[.slice none 0 0] 30)); have R2d := hide (RX.out _ B2.out); have R2a := hide (RX.out _ B2a.out); (try have Z2 := hide ((b2.block w6a.heap.size (by simp)).trans (show (w6a.alloc (.cells #[.slice none 0 0] 30)).drew.heap[w6a.heap.size]? = _ from heap_alloc_new w6a (.cells #[.slice none 0 0] 30)))); clear b2)
            | (go_at_call 31; (with_reducible refine Calls.mono (CG.out _ _ (by first | exact R2d.out | exact R2a.out)) ?_); rintro en y3 ⟨u3, rfl, f3, b3⟩; obtain ⟨ad3, c3, rfl⟩ := f3.form; have B3 := hide (bel_trans (by first | exact B2.out | exact B2a.out) (by first | exact B2.out.size | exact B2a.out.size) b3); have F3 := hide f3; have B3a := hide (B3.out.alloc B3.out.size (.cells #[.slice ad3 R1.length c3] 30)); (try have Z3 := hide ((b3.block _ (Array.getElem?_eq_some_iff.1 Z2.out).1).trans Z2.out)); (try have Y3 := hide ((b3.block _ (Array.getElem?_eq_some_iff.1 Y2.out).1).trans Y2.out)); (try have X3 := hide ((b3.block y2.heap.size (by simp)).trans (heap_alloc_new y2 (.cells #[.slice none 0 0] 30)))); have BZ := hide (B3.out.setCell (p := ⟨w6a.heap.size, 0, none⟩) (Nat.le_refl _) (.slice ad3 R1.length c3)); (try have BY := hide (B3.out.setCell (p := ⟨y1.heap.size, 0, none⟩) B1.out.size (.slice ad3 R1.length c3))); have BX := hide (B3.out.setCell (p := ⟨y2.heap.size, 0, none⟩) B2.out.size (.slice ad3 R1.length c3)); (try have n3 : y3.cell? ⟨w6a.heap.size, 0, none⟩ = some (.slice none 0 0) := cell_of_row _ _ 0 _ _ _ Z3.out); (try have f3' := frozen_of_row _ _ 0 _ _ Z3.out); (try have n3 : y3.cell? ⟨y1.heap.size, 0, none⟩ = some (.slice none 0 0) := cell_of_row _ _ 0 _ _ _ Y3.out); (try have f3' := frozen_of_row _ _ 0 _ _ Y3.out); (try have n3 : y3.cell? ⟨y2.heap.size, 0, none⟩ = some (.slice none 0 0) := cell_of_row _ _ 0 _ _ _ X3.out); (try have f3' := frozen_of_row _ _ 0 _ _ X3.out); clear f3 b3))
          all_goals
            go_wp2_with fail
            go_meet
            case rel => first
              | exact ⟨rfl, _, _, _, rfl, hide (Gt.late T6.out B3.out F3.out B2.out.size)⟩
              | exact ⟨rfl, _, _, _, rfl, hide (Gt.early T6.out B3.out F3.out Z3.out (Nat.le_refl _) (Array.getElem?_eq_some_iff.1 Z2.out).1)⟩
              | exact ⟨rfl, _, _, _, rfl, hide (Gt.early T6.out B3.out F3.out Y3.out B1.out.size (Array.getElem?_eq_some_iff.1 Y2.out).1)⟩
              | exact ⟨rfl, _, _, _, rfl, hide (Gt.early T6.out B3.out F3.out X3.out B2.out.size (by simp))⟩
        case rest =>
          obtain ⟨w9, hwc⟩ : ∃ w9, w9 = wc := ⟨_, rfl⟩
          subst hwc
          obtain ⟨hs7, c9, ad9, cp9, hs6, hg⟩ := hcut
          subst hs7 hs6
          obtain ⟨lo9, hi9, p1c9, p2c9, p3c9, tc9⟩ := hg.out
          have T9 := hide tc9
          have h1c9 : c9 + 1 ≤ w9.heap.size := tc9.hi 0 rfl
          have h2c9 : hi9 ≤ w9.heap.size := tc9.hi 1 rfl
          clear tc9 hg KK B0d B0e m0 m1 m2 m3 m4
          have k9 : w9.cell? ⟨c9, 0, none⟩ = some (.slice ad9 R1.length cp9) := T9.out.at 0 0 rfl rfl
          have v9 : w9.cell? ⟨c6, 0, none⟩ = some (.slice ad6 R1.length cp6) := T9.out.at 4 0 rfl rfl
          have hne : (R2 != R2) = false := by simp
          clear T6
          go_wp2_with fail
          refine (eq_tk T9.out 1 5 HOR.out rfl rfl).mono ?_
          rintro e w10 ⟨rfl, t10, s10⟩
          have T10 := hide t10
          have T10d := hide t10.drew
          have k10 : w10.cell? ⟨w.heap.size, 0, none⟩ = some (.slice a len cap) := t10.at 7 0 rfl rfl
          have x10 : w10.cell? ⟨w6.heap.size, 0, none⟩ = some (.slice ad8 bs.length cp8) := t10.at 2 0 rfl rfl
          clear t10 T9 k9 v9
          go_wp2
          go_region_held3 (fun w' => w'.cell? ⟨w6.heap.size, 0, none⟩ = some (.slice ad8 bs.length cp8) ∧ w'.cell? ⟨w.heap.size, 0, none⟩ = some (.slice a len cap)) (first | go_keep | exact ⟨T11.out.at 3 0 rfl rfl, T11.out.at 8 0 rfl rfl⟩ | exact ⟨T12.out.at 3 0 rfl rfl, T12.out.at 8 0 rfl rfl⟩) (first
            | (go_at_call 11; (with_reducible refine Calls.mono (to_tk T10d.out H.out HBS.out HLE.out HLL.out) ?_); rintro en w11 ⟨ad11, c11, rfl, t11, s11⟩; have T11 := hide t11; clear t11)
            | (go_at_call 13; (with_reducible refine Calls.mono (eq_tk T11.out 4 0 HO.out rfl rfl) ?_); rintro en w12 ⟨rfl, t12, s12⟩; have T12 := hide t12; clear t12))
          all_goals
            have T13 := hide (T12.out.drop (fun x hx => List.mem_cons_of_mem _ hx))
            clear T10 T10d T11 T12 k10 x10
            have x13 : w12.cell? ⟨w6.heap.size, 0, none⟩ = some (.slice ad8 bs.length cp8) := T13.out.at 2 0 rfl rfl
            have y6 := Y6.out
            have hm1 := hide (show ∀ x ∈ [(c9, c9 + 1, Cel c9 #[.slice ad9 R1.length cp9] 30), (lo9, hi9, Fla lo9 hi9 (.slice ad9 R1.length cp9) R1), (c6, c6 + 1, Cel c6 #[.slice ad6 R1.length cp6] 30), (lo6, hi6, Fla lo6 hi6 (.slice ad6 R1.length cp6) R1), (w.heap.size + 1, w.heap.size + 1 + 1, Cel (w.heap.size + 1) #[.int .i64 k, .int .i64 b, .int .i64 lf, .string t] 36), (w.heap.size, w.heap.size + 1, Cel w.heap.size #[.slice a len cap] 24)], x ∈ [(c9, c9 + 1, Cel c9 #[.slice ad9 R1.length cp9] 30), (lo9, hi9, Fla lo9 hi9 (.slice ad9 R1.length cp9) R1), (w6.heap.size, w6.heap.size + 1, Cel w6.heap.size #[.slice ad8 bs.length cp8] 30), (w5.heap.size, w6.heap.size, Fla w5.heap.size w6.heap.size (.slice ad8 bs.length cp8) bs), (c6, c6 + 1, Cel c6 #[.slice ad6 R1.length cp6] 30), (lo6, hi6, Fla lo6 hi6 (.slice ad6 R1.length cp6) R1), (w.heap.size + 1, w.heap.size + 1 + 1, Cel (w.heap.size + 1) #[.int .i64 k, .int .i64 b, .int .i64 lf, .string t] 36), (w.heap.size, w.heap.size + 1, Cel w.heap.size #[.slice a len cap] 24)] ∧ (x.2.1 ≤ w5.heap.size ∨ w6.heap.size ≤ x.1) from (fun x hx => by simp only [List.mem_cons, List.not_mem_nil, or_false] at hx; rcases hx with rfl | rfl | rfl | rfl | rfl | rfl <;> exact ⟨by simp, by simp only; omega⟩))
            have hm2 := hide (show ∀ x ∈ [(c9, c9 + 1, Cel c9 #[.slice ad9 R1.length cp9] 30), (c6, c6 + 1, Cel c6 #[.slice ad6 R1.length cp6] 30), (lo6, hi6, Fla lo6 hi6 (.slice ad6 R1.length cp6) R1), (w.heap.size + 1, w.heap.size + 1 + 1, Cel (w.heap.size + 1) #[.int .i64 k, .int .i64 b, .int .i64 lf, .string t] 36), (w.heap.size, w.heap.size + 1, Cel w.heap.size #[.slice a len cap] 24)], x ∈ [(c9, c9 + 1, Cel c9 #[.slice ad9 R1.length cp9] 30), (lo9, hi9, Fla lo9 hi9 (.slice ad9 R1.length cp9) R1), (c6, c6 + 1, Cel c6 #[.slice ad6 R1.length cp6] 30), (lo6, hi6, Fla lo6 hi6 (.slice ad6 R1.length cp6) R1), (w.heap.size + 1, w.heap.size + 1 + 1, Cel (w.heap.size + 1) #[.int .i64 k, .int .i64 b, .int .i64 lf, .string t] 36), (w.heap.size, w.heap.size + 1, Cel w.heap.size #[.slice a len cap] 24)] ∧ (x.2.1 ≤ lo9 ∨ hi9 ≤ x.1) from (fun x hx => by simp only [List.mem_cons, List.not_mem_nil, or_false] at hx; rcases hx with rfl | rfl | rfl | rfl | rfl <;> exact ⟨by simp, by simp only; omega⟩))
            have lo1 : w.heap.size ≤ w5.heap.size := by omega
            have lo2 : w.heap.size ≤ lo9 := by omega
            have hk0 : (0 : Int) ≤ (K : Int) := by omega
            have hN0 : (0 : Int) ≤ (N : Int) := by omega
            have hNN : ((N : Int) != (N : Int)) = false := by simp
            clear y6
            go_wp2_with fail
            refine (markk_tk T13.out 3 HO.out HK.out rfl lo1 hm1.out).mono ?_
            rintro e w14 ⟨rfl, t14, -⟩
            have T14 := hide (t14.drop (fun x hx => List.mem_cons_of_mem _ hx))
            have g14 : w14.cell? ⟨c9, 0, none⟩ = some (.slice ad9 R1.length cp9) := T14.out.at 0 0 rfl rfl
            have v14 : w14.cell? ⟨c6, 0, none⟩ = some (.slice ad6 R1.length cp6) := T14.out.at 2 0 rfl rfl
            clear t14 T13 x13 hm1
            go_wp2_with fail
            refine (eq_tk T14.out 1 3 HOR.out rfl rfl).mono ?_
            rintro e w15 ⟨rfl, t15, -⟩
            have T15 := hide t15
            have g15 : w15.cell? ⟨c9, 0, none⟩ = some (.slice ad9 R1.length cp9) := t15.at 0 0 rfl rfl
            clear t15 T14 g14 v14
            go_wp2_with fail
            refine (markk_tk T15.out 1 HOR.out HN.out rfl lo2 hm2.out).mono ?_
            rintro e w16 ⟨rfl, t16, -⟩
            have T16 := hide t16
            have g16 : w16.cell? ⟨c9, 0, none⟩ = some (.slice ad9 R1.length cp9) := t16.at 1 0 rfl rfl
            clear t16 T15 g15 hm2
            go_wp2_with fail
            refine (held_tk T16.out 0 HN9.out rfl).mono ?_
            rintro e w17 ⟨rfl, t17, -⟩
            have T17 := hide t17
            clear t17 T16 g16
            go_upto_region 27 with fail
            have KK : Hid (∀ W, Below w17.heap.size w17 W → (W.cell? ⟨w.heap.size, 0, none⟩ = some (.slice a len cap) ∧ W.cell? ⟨w.heap.size + 1, 0, none⟩ = some (.int .i64 k) ∧ W.cell? ⟨w.heap.size + 1, 1, none⟩ = some (.int .i64 b) ∧ W.cell? ⟨w.heap.size + 1, 2, none⟩ = some (.int .i64 lf) ∧ W.cell? ⟨w.heap.size + 1, 3, none⟩ = some (.string t))) := by
              intro W hW
              have t := T17.out.below hW
              exact ⟨t.at 5 0 rfl rfl, t.at 4 0 rfl rfl, t.at 4 1 rfl rfl, t.at 4 2 rfl rfl, t.at 4 3 rfl rfl⟩
            have B0d := hide ((Below.refl w17.heap.size w17).drew)
            have B0e := hide (((Below.refl w17.heap.size w17).alloc (Nat.le_refl _) (.cells #[.slice none 0 0] 30)).drew)
            obtain ⟨m0, m1, m2, m3, m4⟩ := KK.out _ (Below.refl _ _)
            go_cut [14, 15] (fun s6 s7 wc => s7 = .bool R2 ∧ ∃ (c : Nat) (ad : Option Addr) (cp : Nat), s6 = .pointer (some ⟨c, 0, none⟩) ∧ Hid (Gt w wc [(lo9, hi9, Mrq lo9 hi9 (.slice ad9 R1.length cp9) N), (c9, c9 + 1, Cel c9 #[.slice ad9 R1.length cp9] 30), (c6, c6 + 1, Cel c6 #[.slice ad6 R1.length cp6] 30), (lo6, hi6, Fla lo6 hi6 (.slice ad6 R1.length cp6) R1), (w.heap.size + 1, w.heap.size + 1 + 1, Cel (w.heap.size + 1) #[.int .i64 k, .int .i64 b, .int .i64 lf, .string t] 36), (w.heap.size, w.heap.size + 1, Cel w.heap.size #[.slice a len cap] 24)] w17.heap.size c (.slice ad R1.length cp) R1))
            case first =>
              have CF : Hid (∀ W, Below w17.heap.size w17 W → Calls Try.prog 11 #[.agg #[.slice a len cap]] W fun e w' => ∃ ad c, e = .returned (.agg #[.slice ad bs.length c]) ∧ RdB w' (.slice ad bs.length c) bs ∧ Below W.heap.size W w') := by
                intro W hW
                refine (toFlash_any a len cap rs W HLE.out HLL.out (H.out.below (T17.out.below hW).1)).mono ?_
                rintro e y2 ⟨v1, rfl, f1, b2⟩
                rw [HBS.out] at f1
                obtain ⟨ad1, cap1, rfl⟩ := f1.form
                exact ⟨ad1, cap1, rfl, f1.rdb, b2⟩
              have CG : Hid (∀ W v, RdB W v bs → Calls Try.prog 31 #[.agg #[v], .agg #[.int .i64 k, .int .i64 b, .int .i64 lf, .string t]] W fun e w' => ∃ u, e = .returned (.tuple #[.agg #[u], .bool R2]) ∧ FlashOf w' W.heap.size u R1 ∧ Below W.heap.size W w') := by
                intro W v hW
                have := ito_b v bs (k, b, lf, t) W HSM.out hW
                rw [HR.out] at this
                exact this
              go_region_held3 (fun w' => w'.cell? ⟨w.heap.size, 0, none⟩ = some (.slice a len cap) ∧ w'.cell? ⟨w.heap.size + 1, 0, none⟩ = some (.int .i64 k) ∧ w'.cell? ⟨w.heap.size + 1, 1, none⟩ = some (.int .i64 b) ∧ w'.cell? ⟨w.heap.size + 1, 2, none⟩ = some (.int .i64 lf) ∧ w'.cell? ⟨w.heap.size + 1, 3, none⟩ = some (.string t)) (first | go_keep | exact KK.out _ B0d.out | exact KK.out _ B0e.out | exact KK.out _ B1.out | exact KK.out _ B1a.out | exact KK.out _ B2.out | exact KK.out _ B2a.out | exact KK.out _ B3.out | exact KK.out _ B3a.out | exact KK.out _ BZ.out | exact KK.out _ BY.out | exact KK.out _ BX.out) (first
                | (go_at_call 11; (with_reducible refine Calls.mono (CF.out _ (by first | exact B0d.out | exact B0e.out)) ?_); rintro en y1 ⟨ad1, c1, rfl, f1, b1⟩; have B1 := hide (bel_trans (by first | exact B0d.out | exact B0e.out) (by simp) b1); have R1d := hide f1; have B1a := hide (B1.out.alloc B1.out.size (.cells #[.slice none 0 0] 30)); have R1a := hide (f1.below ((Below.refl _ _).alloc (Nat.le_refl _) (.cells #[.slice none 0 0] 30))); (try have Z1 := hide ((b1.block w17.heap.size (by simp)).trans (show (w17.alloc (.cells #[.slice none 0 0] 30)).drew.heap[w17.heap.size]? = _ from heap_alloc_new w17 (.cells #[.slice none 0 0] 30)))); clear b1 f1)
                | (go_at_call 18; (with_reducible refine Calls.mono (toSt_any k b lf t _) ?_); rintro en y2 ⟨rfl, b2⟩; have B2 := hide (bel_trans (by first | exact B1.out | exact B1a.out) (by first | exact B1.out.size | exact B1a.out.size) b2); have R2d := hide (RdB.below (by first | exact R1d.out | exact R1a.out) b2); have B2a := hide (B2.out.alloc B2.out.size (.cells #[.slice none 0 0] 30)); have R2a := hide (R2d.out.below ((Below.refl _ _).alloc (Nat.le_refl _) (.cells #[.slice none 0 0] 30))); (try have Z2 := hide ((b2.block _ (Array.getElem?_eq_some_iff.1 Z1.out).1).trans Z1.out)); (try have Y2 := hide ((b2.block y1.heap.size (by simp)).trans (heap_alloc_new y1 (.cells #[.slice none 0 0] 30)))); clear b2)
                | (go_at_call 31; (with_reducible refine Calls.mono (CG.out _ _ (by first | exact R2d.out | exact R2a.out)) ?_); rintro en y3 ⟨u3, rfl, f3, b3⟩; obtain ⟨ad3, c3, rfl⟩ := f3.form; have B3 := hide (bel_trans (by first | exact B2.out | exact B2a.out) (by first | exact B2.out.size | exact B2a.out.size) b3); have F3 := hide f3; have B3a := hide (B3.out.alloc B3.out.size (.cells #[.slice ad3 R1.length c3] 30)); (try have Z3 := hide ((b3.block _ (Array.getElem?_eq_some_iff.1 Z2.out).1).trans Z2.out)); (try have Y3 := hide ((b3.block _ (Array.getElem?_eq_some_iff.1 Y2.out).1).trans Y2.out)); (try have X3 := hide ((b3.block y2.heap.size (by simp)).trans (heap_alloc_new y2 (.cells #[.slice none 0 0] 30)))); have BZ := hide (B3.out.setCell (p := ⟨w17.heap.size, 0, none⟩) (Nat.le_refl _) (.slice ad3 R1.length c3)); (try have BY := hide (B3.out.setCell (p := ⟨y1.heap.size, 0, none⟩) B1.out.size (.slice ad3 R1.length c3))); have BX := hide (B3.out.setCell (p := ⟨y2.heap.size, 0, none⟩) B2.out.size (.slice ad3 R1.length c3)); (try have n3 : y3.cell? ⟨w17.heap.size, 0, none⟩ = some (.slice none 0 0) := cell_of_row _ _ 0 _ _ _ Z3.out); (try have f3' := frozen_of_row _ _ 0 _ _ Z3.out); (try have n3 : y3.cell? ⟨y1.heap.size, 0, none⟩ = some (.slice none 0 0) := cell_of_row _ _ 0 _ _ _ Y3.out); (try have f3' := frozen_of_row _ _ 0 _ _ Y3.out); (try have n3 : y3.cell? ⟨y2.heap.size, 0, none⟩ = some (.slice none 0 0) := cell_of_row _ _ 0 _ _ _ X3.out); (try have f3' := frozen_of_row _ _ 0 _ _ X3.out); clear f3 b3))
              all_goals
                go_wp2_with fail
                go_meet
                case rel => first
                  | exact ⟨rfl, _, _, _, rfl, hide (Gt.late T17.out B3.out F3.out B2.out.size)⟩
                  | exact ⟨rfl, _, _, _, rfl, hide (Gt.early T17.out B3.out F3.out Z3.out (Nat.le_refl _) (Array.getElem?_eq_some_iff.1 Z2.out).1)⟩
                  | exact ⟨rfl, _, _, _, rfl, hide (Gt.early T17.out B3.out F3.out Y3.out B1.out.size (Array.getElem?_eq_some_iff.1 Y2.out).1)⟩
                  | exact ⟨rfl, _, _, _, rfl, hide (Gt.early T17.out B3.out F3.out X3.out B2.out.size (by simp))⟩
            case rest =>
              obtain ⟨w20, hwc⟩ : ∃ w20, w20 = wc := ⟨_, rfl⟩
              subst hwc
              obtain ⟨hs7, c20, ad20, cp20, hs6, hg⟩ := hcut
              subst hs7 hs6
              obtain ⟨lo20, hi20, p1c20, p2c20, p3c20, tc20⟩ := hg.out
              have T20 := hide tc20
              have h1c20 : c20 + 1 ≤ w20.heap.size := tc20.hi 0 rfl
              have h2c20 : hi20 ≤ w20.heap.size := tc20.hi 1 rfl
              clear tc20 hg KK B0d B0e m0 m1 m2 m3 m4
              have k20 : w20.cell? ⟨c20, 0, none⟩ = some (.slice ad20 R1.length cp20) := T20.out.at 0 0 rfl rfl
              have v20 : w20.cell? ⟨c6, 0, none⟩ = some (.slice ad6 R1.length cp6) := T20.out.at 4 0 rfl rfl
              clear T17
              go_wp2_with fail
              refine (eq_tk T20.out 1 5 HOR.out rfl rfl).mono ?_
              rintro e w21 ⟨rfl, t21, -⟩
              have T21 := hide t21
              have g21 : w21.cell? ⟨c9, 0, none⟩ = some (.slice ad9 R1.length cp9) := t21.at 3 0 rfl rfl
              clear t21 T20 k20 v20
              go_wp2_with fail
              refine (held_tk T21.out 2 HN9.out rfl).mono ?_
              rintro e w22 ⟨rfl, t22, -⟩
              have T22 := hide t22
              clear t22 T21 g21
              go_wp2
              go_ret
              exact ⟨rfl, T22.out.1⟩
end Go.Proofs.Ythgfhjfnlecolap
