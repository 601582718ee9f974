/-
  IDoS; SDoS
-/
import Derived.Test.YtmpmdacfibgepabIDo2
import Derived.Test.YtmpmdacfibgepabDoS
import Derived.Test.YtmpmdacfibgepabPk26
import Derived.Deep.RegionWith
/-
  impl.DoSteps.
-/
namespace Go.Proofs.Ytmpmdacfibgepab
open Go.RowKit

set_option maxHeartbeats 800000 in
set_option maxRecDepth 100000 in
theorem idos_b (v u : Value) (bs : List Bk) (l : List Stp) (w : World) (hs : Sml bs) (hl : l.length ≤ 1000000000) (ha : RdB w v bs) (hu : StRd w u l) :
    Calls Try.prog 19 #[.agg #[v], u] w fun e w' => ∃ x, e = .returned (.tuple #[.agg #[x], .int .i64 ((doAll bs l).2 : Int)]) ∧ FlashOf w' w.heap.size x (doAll bs l).1 ∧ Below w.heap.size w w' := by
  obtain ⟨vd, vc, rfl⟩ := ha.form
  obtain ⟨ad, cap, rfl, u1, u2, u3⟩ := hu.form
  obtain ⟨n, hn⟩ : ∃ n, l.length = n := ⟨_, rfl⟩
  have HN := hide hn
  have HB0 := hide (((Below.refl w.heap.size w).alloc (Nat.le_refl _) (.cells #[.slice vd bs.length vc] 26)).alloc (by simp) (.cells #[.slice none 0 0] 26))
  have F0 := hide (ha.below HB0.out)
  have HU := hide hu
  have HS := hide hs
  rw [hn] at hl u1 HU ⊢
  clear ha hu hs u3 hn
  go_enter Try.func19, Try.ntmps19
  go_wp2_with fail
  refine (icopy_b _ bs _ HS.out F0.out).mono ?_
  rintro e w1 ⟨x, rfl, fo, b1⟩
  obtain ⟨xd, xc, rfl⟩ := fo.form
  obtain ⟨c, hc⟩ : ∃ c, w1.heap.size = c := ⟨_, rfl⟩
  have D0 := hide (DoS.start b1 fo hc)
  clear b1 fo F0
  go_wp2
  try rw [hc]
  clear hc
  generalize w1.alloc (.cells #[.slice xd bs.length xc] 26) = w2 at D0 ⊢
  go_loopw [15] (fun iv wr => ∃ (i : Nat) (y : Value) (cs : List Bk), i ≤ n ∧ iv = .int .i64 i ∧ Hid (doAll bs (l.take i) = (cs, i)) ∧ Hid (Sml cs) ∧ Hid (DoS w wr c y cs)) (fun iv _ => n - (intOf iv).toNat)
  case atStart => exact ⟨0, _, bs, Nat.zero_le _, rfl, rfl, HS, D0⟩
  case round =>
    obtain ⟨i, y, cs, hi, rfl, HA, HC, D⟩ := hrel
    clear D0
    obtain ⟨yd, yc, rfl⟩ := D.out.form
    obtain ⟨k1, f1, k2, f2⟩ := D.out.cell
    by_cases hlt : (i : Int) < n
    · obtain ⟨s, hsi⟩ : ∃ s, l[i]? = some s := ⟨_, List.getElem?_eq_getElem (by have := HN.out; omega)⟩
      obtain ⟨g, o, eg, q1, q2, q3, q4⟩ := (HU.out.below D.out.bel).at hsi
      subst eg
      have HSI := hide hsi
      obtain ⟨k, b, lf, t⟩ := s
      simp only at q1 q2 q3 q4
      have i0 : (0 : Int) ≤ i := by omega
      have bA := (Below.refl wr.heap.size wr).alloc (Nat.le_refl _) (.cells #[.int .i64 k, .int .i64 b, .int .i64 lf, .string t] 52)
      have D1 := hide (D.out.below bA)
      obtain ⟨k1', -, -, -⟩ := D1.out.cell
      obtain ⟨cs', ok, hd⟩ : ∃ cs' ok, doF cs (k, b, lf, t) = (cs', ok) := ⟨_, _, rfl⟩
      have HDF := hide hd
      clear hsi bA hd
      go_wp2_with fail
      have CD := hide (ido_b (.slice yd cs.length yc) cs (k, b, lf, t) (wr.alloc (.cells #[.int .i64 k, .int .i64 b, .int .i64 lf, .string t] 52)) HC.out D1.out.rdb)
      generalize wr.alloc (.cells #[.int .i64 k, .int .i64 b, .int .i64 lf, .string t] 52) = w3 at D1 CD ⊢
      unfold stV at CD
      simp only at CD
      refine CD.out.mono ?_
      rintro e w4 ⟨z, rfl, fo, b4⟩
      rw [HDF.out] at fo ⊢
      simp only at fo ⊢
      obtain ⟨zd, zc, rfl⟩ := fo.form
      have b5 := (Below.refl w4.heap.size w4).alloc (Nat.le_refl _) (.cells #[.slice zd cs'.length zc] 26)
      cases ok with
      | false =>
        have D5 := hide ((D1.out.below b4).below b5)
        have HE : Hid (doAll bs l = (cs, i)) := doAll_stop HA.out HSI.out (by rw [HDF.out])
        obtain ⟨p1, -, p2, p3⟩ := D5.out.cell
        have FI := hide D5.out.fin
        clear b4 b5 fo CD D1 D k1 k2 f1 f2 q1 q2 q3 q4 k1'
        go_wp2
        exact bodyPost_ret (results_flash2 rfl _ _ (w.heap.size + 1) _ rfl FI.out.1) rfl ⟨_, by rw [HE.out]; rfl, by rw [HE.out]; exact FI.out.2.1, FI.out.2.2⟩
      | true =>
        have D5 := hide ((D1.out.below b4).below b5)
        obtain ⟨p1, p4, -, -⟩ := D5.out.cell
        have DN := hide (D1.out.next b4 fo b5)
        have HA2 : Hid (doAll bs (l.take (i + 1)) = (cs', i + 1)) := by
          have := doAll_next HA.out HSI.out (by rw [HDF.out])
          rw [HDF.out] at this
          exact this
        have HC2 : Hid (Sml cs') := by have := HC.out.step (k, b, lf, t); rw [HDF.out] at this; exact this
        clear b4 b5 fo CD D1 D D5 k1 k2 f1 f2 q1 q2 q3 q4 k1'
        go_wp2
        go_roundw
        case rel => exact ⟨i + 1, _, cs', by omega, by go_num, HA2, HC2, DN⟩
        case measure => simp [intOf]; omega
    · have hin : i = n := by omega
      have HE : Hid (doAll bs l = (cs, n)) := by
        have := doAll_end HA.out (hin.trans HN.out.symm)
        rw [HN.out] at this
        exact this
      have FI := hide D.out.fin
      clear hin
      go_wp2
      exact bodyPost_ret (results_flash2 rfl _ _ (w.heap.size + 1) _ rfl FI.out.1) rfl ⟨_, by rw [HE.out]; rfl, by rw [HE.out]; exact FI.out.2.1, FI.out.2.2⟩
end Go.Proofs.Ytmpmdacfibgepab

/-
  spec.DoSteps.
-/
namespace Go.Proofs.Ytmpmdacfibgepab
open Go.RowKit

set_option maxHeartbeats 800000 in
set_option maxRecDepth 100000 in
theorem sdos_b (v u : Value) (bs : List Bk) (l : List Stp) (w : World) (hs : Sml bs) (hl : l.length ≤ 1000000000) (ha : RdB w v bs) (hu : StRd w u l) :
    Calls Try.prog 20 #[.agg #[v], u] w fun e w' => ∃ x, e = .returned (.tuple #[.agg #[x], .int .i64 ((doAll bs l).2 : Int)]) ∧ FlashOf w' w.heap.size x (doAll bs l).1 ∧ Below w.heap.size w w' := by
  obtain ⟨vd, vc, rfl⟩ := ha.form
  obtain ⟨ad, cap, rfl, u1, u2, u3⟩ := hu.form
  obtain ⟨n, hn⟩ : ∃ n, l.length = n := ⟨_, rfl⟩
  have HN := hide hn
  have HB0 := hide (((Below.refl w.heap.size w).alloc (Nat.le_refl _) (.cells #[.slice vd bs.length vc] 26)).alloc (by simp) (.cells #[.slice none 0 0] 26))
  have F0 := hide (ha.below HB0.out)
  have HU := hide hu
  have HS := hide hs
  rw [hn] at hl u1 HU ⊢
  clear ha hu hs u3 hn
  go_enter Try.func20, Try.ntmps20
  go_wp2_with fail
  refine (scopy_b _ bs _ HS.out F0.out).mono ?_
  rintro e w1 ⟨x, rfl, fo, b1⟩
  obtain ⟨xd, xc, rfl⟩ := fo.form
  obtain ⟨c, hc⟩ : ∃ c, w1.heap.size = c := ⟨_, rfl⟩
  have D0 := hide (DoS.start b1 fo hc)
  clear b1 fo F0
  go_wp2
  try rw [hc]
  clear hc
  generalize w1.alloc (.cells #[.slice xd bs.length xc] 26) = w2 at D0 ⊢
  go_loopw [7] (fun iv wr => ∃ (i : Nat) (y : Value) (cs : List Bk), i ≤ n ∧ iv = .int .i64 i ∧ Hid (doAll bs (l.take i) = (cs, i)) ∧ Hid (Sml cs) ∧ Hid (DoS w wr c y cs)) (fun iv _ => n - (intOf iv).toNat)
  case atStart => exact ⟨0, _, bs, Nat.zero_le _, rfl, rfl, HS, D0⟩
  case round =>
    obtain ⟨i, y, cs, hi, rfl, HA, HC, D⟩ := hrel
    clear D0
    obtain ⟨yd, yc, rfl⟩ := D.out.form
    obtain ⟨k1, f1, k2, f2⟩ := D.out.cell
    by_cases hlt : (i : Int) < n
    · obtain ⟨s, hsi⟩ : ∃ s, l[i]? = some s := ⟨_, List.getElem?_eq_getElem (by have := HN.out; omega)⟩
      obtain ⟨g, o, eg, q1, q2, q3, q4⟩ := (HU.out.below D.out.bel).at hsi
      subst eg
      have HSI := hide hsi
      obtain ⟨k, b, lf, t⟩ := s
      simp only at q1 q2 q3 q4
      have i0 : (0 : Int) ≤ i := by omega
      obtain ⟨cs', ok, hd⟩ : ∃ cs' ok, doF cs (k, b, lf, t) = (cs', ok) := ⟨_, _, rfl⟩
      have HDF := hide hd
      have Dd := hide (D.out.below (Below.refl _ _).drew)
      have De := hide (D.out.below ((Below.refl _ _).alloc (Nat.le_refl _) (.cells #[.slice none 0 0] 26)).drew)
      have CD := hide (sdo_b (.slice yd cs.length yc) cs (k, b, lf, t) wr.drew HC.out Dd.out.rdb)
      have CE := hide (sdo_b (.slice yd cs.length yc) cs (k, b, lf, t) (wr.alloc (.cells #[.slice none 0 0] 26)).drew HC.out De.out.rdb)
      unfold stV at CD CE
      rw [hd] at CD CE
      simp only at CD CE
      have HE : ok = false → Hid (doAll bs l = (cs, i)) := fun h => doAll_stop HA.out HSI.out (by rw [HDF.out]; exact h)
      have HA2 : ok = true → Hid (doAll bs (l.take (i + 1)) = (cs', i + 1)) := fun h => by
        have := doAll_next HA.out HSI.out (by rw [HDF.out]; exact h)
        rw [HDF.out] at this
        exact this
      have HC2 : Hid (Sml cs') := by have := HC.out.step (k, b, lf, t); rw [HDF.out] at this; exact this
      clear hsi hd
      have gw : g < wr.heap.size := World.block_lt_of_cell? wr _ q1
      have cw : c < wr.heap.size := World.block_lt_of_cell? wr _ k1
      go_wp2
      go_region_with (first
        | (go_at_call 63; (with_reducible refine Calls.mono CD.out ?_); rintro en w4 ⟨z, rfl, fo, b4⟩; obtain ⟨zd, zc, rfl⟩ := fo.form; have D4 := hide (Dd.out.below b4); have FO := hide fo; have B4 := hide b4; clear fo b4)
        | (go_at_call 63; (with_reducible refine Calls.mono CE.out ?_); rintro en w5 ⟨z, rfl, fo, b4⟩; obtain ⟨zd, zc, rfl⟩ := fo.form; have DE := hide (D.out.next2 b4 fo); obtain ⟨n5, f5⟩ := DE.out.1; clear fo b4))
      all_goals first
        | (have b5 := (Below.refl w4.heap.size w4).alloc (Nat.le_refl _) (.cells #[.slice zd cs'.length zc] 26)
           have D5 := hide (D4.out.below b5)
           have DN := hide (Dd.out.next B4.out FO.out b5)
           obtain ⟨p1, p4, p2, p3⟩ := D5.out.cell
           have FI := hide D5.out.fin
           clear b5 FO B4 D4)
        | (obtain ⟨-, p0, p5, p6⟩ := DE.out
           have DN := hide p6
           have FI := hide p5.fin
           obtain ⟨p1, p4, p2, p3⟩ := p5.cell
           clear p5 p6 DE n5 f5)
      all_goals
          clear CD CE D De Dd k1 k2 f1 f2 q1 q2 q3 q4 HA HC HDF HSI
          cases ok with
          | false =>
            have HEQ := HE rfl
            clear HA2 HE
            go_wp2
            exact bodyPost_ret (results_flash2 rfl _ _ (w.heap.size + 1) _ rfl FI.out.1) rfl ⟨_, by rw [HEQ.out]; rfl, by rw [HEQ.out]; exact FI.out.2.1, FI.out.2.2⟩
          | true =>
            have HAQ := HA2 rfl
            clear HE HA2
            go_wp2
            go_roundw
            case rel => exact ⟨i + 1, _, cs', by omega, by go_num, HAQ, HC2, DN⟩
            case measure => simp [intOf]; omega
    · have hin : i = n := by omega
      have HE : Hid (doAll bs l = (cs, n)) := by
        have := doAll_end HA.out (hin.trans HN.out.symm)
        rw [HN.out] at this
        exact this
      have FI := hide D.out.fin
      clear hin
      go_wp2
      exact bodyPost_ret (results_flash2 rfl _ _ (w.heap.size + 1) _ rfl FI.out.1) rfl ⟨_, by rw [HE.out]; rfl, by rw [HE.out]; exact FI.out.2.1, FI.out.2.2⟩
end Go.Proofs.Ytmpmdacfibgepab
