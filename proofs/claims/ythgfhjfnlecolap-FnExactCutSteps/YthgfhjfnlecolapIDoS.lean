/-
  impl.DoSteps.
-/
import Derived.Test.YthgfhjfnlecolapIDo2
import Derived.Test.YthgfhjfnlecolapPk26
namespace Go.Proofs.Ythgfhjfnlecolap
open Go.RowKit

set_option maxHeartbeats 800000 in
set_option maxRecDepth 100000 in
theorem idos_b (v u : Value) (bs : List Bk) (l : List Stp) (w : World) (hs : Sml bs) (hl : l.length ≤ 1000000000) (ha : RdB w v bs) (hu : StRd w u l) :
    Calls Try.prog 25 #[.agg #[v], u] w fun e w' => ∃ x, e = .returned (.tuple #[.agg #[x], .int .i64 ((doAll bs l).2 : Int)]) ∧ FlashOf w' w.heap.size x (doAll bs l).1 ∧ Below w.heap.size w w' := by
  obtain ⟨vd, vc, rfl⟩ := ha.form
  obtain ⟨ad, cap, rfl, u1, u2, u3⟩ := hu.form
  obtain ⟨n, hn⟩ : ∃ n, l.length = n := ⟨_, rfl⟩
  have HN := hide hn
  have HB0 := hide (((Below.refl w.heap.size w).alloc (Nat.le_refl _) (.cells #[.slice vd bs.length vc] 30)).alloc (by simp) (.cells #[.slice none 0 0] 30))
  have F0 := hide (ha.below HB0.out)
  have HU := hide hu
  have HS := hide hs
  rw [hn] at hl u1 HU ⊢
  clear ha hu hs u3 hn
  go_enter Try.func25, Try.ntmps25
  go_wp2_with fail
  refine (icopy_b _ bs _ HS.out F0.out).mono ?_
  rintro e w1 ⟨x, rfl, fo, b1⟩
  obtain ⟨xd, xc, rfl⟩ := fo.form
  obtain ⟨c, hc⟩ : ∃ c, w1.heap.size = c := ⟨_, rfl⟩
  have D0 := hide (DoS.start b1 fo hc)
  clear b1 fo F0
  go_wp2
  try rw [hc]
  clear hc
  generalize w1.alloc (.cells #[.slice xd bs.length xc] 30) = w2 at D0 ⊢
  go_loopw [15] (fun iv wr => ∃ (i : Nat) (y : Value) (cs : List Bk), i ≤ n ∧ iv = .int .i64 i ∧ Hid (doAll bs (l.take i) = (cs, i)) ∧ Hid (Sml cs) ∧ Hid (DoS w wr c y cs)) (fun iv _ => n - (intOf iv).toNat)
  case atStart => exact ⟨0, _, bs, Nat.zero_le _, rfl, rfl, HS, D0⟩
  case round =>
    obtain ⟨i, y, cs, hi, rfl, HA, HC, D⟩ := hrel
    clear D0
    obtain ⟨yd, yc, rfl⟩ := D.out.form
    obtain ⟨k1, f1, k2, f2⟩ := D.out.cell
    by_cases hlt : (i : Int) < n
    · obtain ⟨s, hsi⟩ : ∃ s, l[i]? = some s := ⟨_, List.getElem?_eq_getElem (by have := HN.out; omega)⟩
      obtain ⟨g, o, eg, q1, q2, q3, q4⟩ := (HU.out.below D.out.bel).at hsi
      subst eg
      have HSI := hide hsi
      obtain ⟨k, b, lf, t⟩ := s
      simp only at q1 q2 q3 q4
      have i0 : (0 : Int) ≤ i := by omega
      have bA := (Below.refl wr.heap.size wr).alloc (Nat.le_refl _) (.cells #[.int .i64 k, .int .i64 b, .int .i64 lf, .string t] 40)
      have D1 := hide (D.out.below bA)
      obtain ⟨k1', -, -, -⟩ := D1.out.cell
      obtain ⟨cs', ok, hd⟩ : ∃ cs' ok, doF cs (k, b, lf, t) = (cs', ok) := ⟨_, _, rfl⟩
      have HDF := hide hd
      clear hsi bA hd
      go_wp2_with fail
      have CD := hide (ido_b (.slice yd cs.length yc) cs (k, b, lf, t) (wr.alloc (.cells #[.int .i64 k, .int .i64 b, .int .i64 lf, .string t] 40)) HC.out D1.out.rdb)
      generalize wr.alloc (.cells #[.int .i64 k, .int .i64 b, .int .i64 lf, .string t] 40) = w3 at D1 CD ⊢
      unfold stV at CD
      simp only at CD
      refine CD.out.mono ?_
      rintro e w4 ⟨z, rfl, fo, b4⟩
      rw [HDF.out] at fo ⊢
      simp only at fo ⊢
      obtain ⟨zd, zc, rfl⟩ := fo.form
      have b5 := (Below.refl w4.heap.size w4).alloc (Nat.le_refl _) (.cells #[.slice zd cs'.length zc] 30)
      cases ok with
      | false =>
        have D5 := hide ((D1.out.below b4).below b5)
        have HE : Hid (doAll bs l = (cs, i)) := doAll_stop HA.out HSI.out (by rw [HDF.out])
        obtain ⟨p1, -, p2, p3⟩ := D5.out.cell
        have FI := hide D5.out.fin
        clear b4 b5 fo CD D1 D k1 k2 f1 f2 q1 q2 q3 q4 k1'
        go_wp2
        exact bodyPost_ret (results_flash2 rfl _ _ (w.heap.size + 1) _ rfl FI.out.1) rfl ⟨_, by rw [HE.out]; rfl, by rw [HE.out]; exact FI.out.2.1, FI.out.2.2⟩
      | true =>
        have D5 := hide ((D1.out.below b4).below b5)
        obtain ⟨p1, p4, -, -⟩ := D5.out.cell
        have DN := hide (D1.out.next b4 fo b5)
        have HA2 : Hid (doAll bs (l.take (i + 1)) = (cs', i + 1)) := by
          have := doAll_next HA.out HSI.out (by rw [HDF.out])
          rw [HDF.out] at this
          exact this
        have HC2 : Hid (Sml cs') := by have := HC.out.step (k, b, lf, t); rw [HDF.out] at this; exact this
        clear b4 b5 fo CD D1 D D5 k1 k2 f1 f2 q1 q2 q3 q4 k1'
        go_wp2
        go_roundw
        case rel => exact ⟨i + 1, _, cs', by omega, by go_num, HA2, HC2, DN⟩
        case measure => simp [intOf]; omega
    · have hin : i = n := by omega
      have HE : Hid (doAll bs l = (cs, n)) := by
        have := doAll_end HA.out (hin.trans HN.out.symm)
        rw [HN.out] at this
        exact this
      have FI := hide D.out.fin
      clear hin
      go_wp2
      exact bodyPost_ret (results_flash2 rfl _ _ (w.heap.size + 1) _ rfl FI.out.1) rfl ⟨_, by rw [HE.out]; rfl, by rw [HE.out]; exact FI.out.2.1, FI.out.2.2⟩
end Go.Proofs.Ythgfhjfnlecolap
