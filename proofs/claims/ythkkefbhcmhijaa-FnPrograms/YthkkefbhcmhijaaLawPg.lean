/-
  FnPrograms.
-/
import Derived.Test.YthkkefbhcmhijaaWiPut
import Derived.Test.YthkkefbhcmhijaaDPl
import Derived.Test.YthkkefbhcmhijaaPq50
import Derived.Laws.StructEq
import Derived.Deep.QuietTactic
import Derived.BigQuiet
namespace Go.Proofs.Ythkkefbhcmhijaa
open Go.RowKit

def txt : ByteArray := ⟨#[116, 101, 120, 116]⟩
theorem txt_fills : fillsP txt = true := by decide

/-- The leaf that both flashes have at a place that was not written. -/
theorem pg_leaf {bs : List Bk} {k m i j : Nat} {r : Bk} {t : ByteArray} (h : Right 20 bs) (hr : bs[k]? = some r) (hi : i < bs.length) (hj : j < 4) (hne : ¬ (i = k ∧ j = m)) :
    ∃ (a b : Bk) (z : Int) (u : ByteArray), bs[i]? = some a ∧ (putLeaf bs k m t)[i]? = some b ∧ a.2.2.length = 4 ∧ b.2.2.length = 4 ∧ a.2.2[j]? = some (z, u) ∧ b.2.2[j]? = some (z, u) := by
  have ha : bs[i]? = some bs[i] := List.getElem?_eq_getElem hi
  have l4 := h.lens.2.2 _ (List.mem_of_getElem? ha)
  have hl : bs[i].2.2[j]? = some bs[i].2.2[j] := List.getElem?_eq_getElem (by omega)
  by_cases hik : i = k
  · subst hik
    rw [ha] at hr
    injection hr with hr
    refine ⟨bs[i], (r.1, r.2.1, r.2.2.set m (1, t)), _, _, ha, ?_, l4, ?_, hl, ?_⟩
    · unfold putLeaf
      rw [List.getElem?_modify, ha, hr]
      simp
    · simp [← hr, l4]
    · simp only
      rw [← hr, List.getElem?_set_ne (fun e => hne ⟨rfl, e.symm⟩)]
      exact hl
  · refine ⟨bs[i], bs[i], _, _, ha, ?_, l4, l4, hl, hl⟩
    unfold putLeaf
    rw [List.getElem?_modify, ha]
    simp
    exact fun e => absurd e.symm hik

set_option maxHeartbeats 4000000 in
set_option maxRecDepth 100000 in
theorem lawPg (ad : Option Addr) (len cap : Nat) (w : World) (hd : CodeIn w ad len w.heap.size) :
    Calls Try.prog 3 #[.slice ad len cap] w fun e w' => e = .returned (.bool true) ∧ Below w.heap.size w w' := by
  have HD := hide hd
  clear hd
  by_cases hbig : (1048576 : Int) < len
  · go_enter Try.func3, Try.ntmps3
    go_wp2_with fail
    refine (big_any ad len cap _).mono ?_
    rintro e w1 ⟨rfl, rfl⟩
    rw [decide_eq_true hbig]
    go_wp2
    go_ret
    exact ⟨rfl, Below.refl _ _⟩
  · have hl2 : len ≤ 1048576 := by omega
    have hbd : decide ((1048576 : Int) < len) = false := decide_eq_false hbig
    clear hbig
    go_enter Try.func3, Try.ntmps3
    go_wp2_with fail
    refine (big_any ad len cap _).mono ?_
    rintro e w0 ⟨rfl, hw0⟩
    subst hw0
    rw [hbd]
    clear hbd
    go_wp2_with fail
    refine (drawRF_any ad len cap _ hl2 HD.out).mono ?_
    rintro e w2 ⟨v, bs, rfl, hr, fo, b2⟩
    obtain ⟨vd, vcap, rfl⟩ := fo.form
    obtain ⟨l3, l10, -⟩ := hr.lens
    obtain ⟨gu, rfl, -, -, -⟩ := fo.ptr (by omega)
    obtain ⟨n, hn⟩ : ∃ n, bs.length = n := ⟨_, rfl⟩
    rw [hn] at fo l3 l10
    rw [hn]
    have HN := hide hn
    clear hn
    have T0 : Hid (Tr w0 w2 [] [(w0.heap.size, w2.heap.size, .slice (some ⟨gu, 0, none⟩) n vcap, bs)]) := ⟨b2, fun c hc => (by cases hc), fun f hf => by rw [List.mem_singleton] at hf; subst hf; exact ⟨Nat.le_refl _, fo⟩⟩
    have T1 := hide (T0.out.cell #[.slice (some ⟨gu, 0, none⟩) n vcap] 26)
    have s2 := b2.size
    have HD2 := hide (HD.out.on b2 (Nat.le_refl _))
    have HR := hide hr
    have hz : (w2.alloc (.cells #[.slice (some ⟨gu, 0, none⟩) n vcap] 26)).heap.size = w2.heap.size + 1 := by simp
    have HD3 := hide ((HD2.out.on ((Below.refl w2.heap.size w2).alloc (Nat.le_refl _) (.cells #[.slice (some ⟨gu, 0, none⟩) n vcap] 26)) s2))
    clear fo b2 hr T0 HD2
    go_wp2_with fail
    generalize w2.alloc (.cells #[.slice (some ⟨gu, 0, none⟩) n vcap] 26) = w3 at T1 HD3 hz ⊢
    have hcd : CodeIn w3 ad len w3.heap.size := by
      intro j hj
      obtain ⟨b, off, h1, h2, h3⟩ := HD3.out j hj
      exact ⟨b, off, h1, (by omega), h3⟩
    generalize w2.heap.size = gf at T1 hz s2 ⊢
    refine (places_any ad len cap _ hl2 hcd).mono ?_
    rintro en w4 ⟨gp, cp, pl, rfl, hgp, hgp2, hpl, hpx, hpc, b4⟩
    have T4 := hide (T1.out.below b4)
    have c4 : w4.cell? ⟨gf, 0, none⟩ = some (.slice (some ⟨gu, 0, none⟩) n vcap) := T4.out.at 0 rfl
    have p0 := hpc 0 (by omega)
    have px := hpx pl[0] (List.getElem_mem _)
    generalize pl[0] = x0 at p0 px
    have hn1 : ¬ (n : Int) = 0 := by omega
    have hn0 : ((n : Int) == 0) = false := beq_eq_false_iff_ne.2 hn1
    obtain ⟨k, hk, hkn⟩ : ∃ k : Nat, x0 % (n : Int) = k ∧ (k : Int) < n := by
      have h1 := Int.emod_nonneg x0 hn1
      have h2 := Int.emod_lt_of_pos x0 (show (0 : Int) < n by omega)
      exact ⟨(x0 % n).toNat, by omega, by omega⟩
    have m0 : x0.tmod (n : Int) = k := by rw [Int.tmod_eq_emod_of_nonneg (by omega)]; exact hk
    clear hpc hpx b4 hpl hcd HD3 T1 HD hk
    go_wp2
    go_quiet (fail)
    have T5 := hide (T4.out.below (below_drewN (Below.refl _ _) nq))
    have hkl : k < bs.length := by have := HN.out; omega
    have hr : bs[k]? = some bs[k] := List.getElem?_eq_getElem hkl
    generalize bs[k] = r at hr
    obtain ⟨x, y, ls⟩ := r
    have HRR := hide hr
    have M := hide (pg_math HR.out hr txt_fills)
    have h4 : ls.length = 4 := HR.out.lens.2.2 _ (List.mem_of_getElem? hr)
    have H4 := hide h4
    have hle := nextB_le4 ls h4
    have k0 : (0 : Int) ≤ k := by omega
    have hl6 : ls.length ≤ 1048576 := by omega
    clear T4 c4 p0 hr h4 hkl
    generalize w4.drewN nq = w5 at T5 ⊢
    have c5 : w5.cell? ⟨gf, 0, none⟩ = some (.slice (some ⟨gu, 0, none⟩) n vcap) := T5.out.at 0 rfl
    obtain ⟨ldf, lcf, ⟨f1, f2, f3⟩, ownF⟩ := (T5.out.of 0 rfl).blk HRR.out
    simp only at f1 f2 f3 ownF
    have OWF := hide ownF
    clear ownF
    have CNB := hide (fun W B (h : W.ownsRow B 41 2 (.slice ldf ls.length lcf) ls.length (lcells ls)) => inext_any x y (.slice ldf ls.length lcf) ls B W hl6 h)
    have M1 := hide (show _ from M.out)
    simp only at M
    obtain ⟨m, hm⟩ : ∃ m, m = nextB ls := ⟨_, rfl⟩
    rw [← hm] at hle M CNB
    have HM := hide hm
    clear hm M1 hl6
    go_wp2_with fail
    refine (CNB.out _ _ OWF.out).mono ?_
    rintro e w6 ⟨rfl, b6⟩
    have T6 := hide (T5.out.below b6)
    have c6 : w6.cell? ⟨gf, 0, none⟩ = some (.slice (some ⟨gu, 0, none⟩) n vcap) := T6.out.at 0 rfl
    clear b6 T5 c5 f1 f2 f3 CNB OWF
    go_wp2_with fail
    refine (prog_fo (k : Int) (m : Int) txt (T6.out.of 0 rfl) HR.out).mono ?_
    rintro e w7 ⟨u7, rfl, fo7, b7⟩
    by_cases hc : m < 4 ∧ x = false
    · obtain ⟨hm4, hx⟩ := hc
      subst hx
      obtain ⟨M1, M2, M3, M4, M5, M6⟩ := M.out.2 hm4 rfl
      have RP : Hid (Right 20 (putLeaf bs k m txt)) := by
        show Right 20 _
        have := HR.out.prog (k : Int) (m : Int) txt
        rw [M1] at this
        exact this
      rw [M1] at fo7
      rw [M1]
      have HM2 := hide M2
      have HM3 := hide M3
      have HM4 := hide M4
      have HM5 := hide M5
      have HM6 := hide M6
      have lP : (putLeaf bs k m txt).length = n := by unfold putLeaf; rw [List.length_modify]; exact HN.out
      obtain ⟨ad7, cap7, rfl⟩ := fo7.form
      rw [lP] at fo7
      rw [lP]
      obtain ⟨gn, rfl, -, -, -⟩ := fo7.ptr (show 0 < (putLeaf bs k m txt).length by rw [lP]; omega)
      have T7a := hide (T6.out.add b7 fo7)
      have T7 := hide (T7a.out.cell #[.slice (some ⟨gn, 0, none⟩) n cap7] 26)
      clear b7 fo7 T7a T6 M M1 M2 M3 M4 M5 M6 lP c6
      have hm4' : (m : Int) < 4 := by omega
      have cF7 : (w7.alloc (.cells #[.slice (some ⟨gn, 0, none⟩) n cap7] 26)).cell? ⟨gf, 0, none⟩ = some (.slice (some ⟨gu, 0, none⟩) n vcap) := T7.out.at 1 rfl
      go_wp2_with fail
      generalize w7.alloc (.cells #[.slice (some ⟨gn, 0, none⟩) n cap7] 26) = w7a at T7 cF7 ⊢
      refine (ok_fo (T7.out.of 1 rfl) HR.out).mono ?_
      rintro e w8 ⟨rfl, b8⟩
      have T8 := hide (T7.out.below b8)
      have cN8 : w8.cell? ⟨w7.heap.size, 0, none⟩ = some (.slice (some ⟨gn, 0, none⟩) n cap7) := T8.out.at 0 rfl
      clear b8 T7 cF7
      go_wp2_with fail
      refine (ok_fo (T8.out.of 0 rfl) RP.out).mono ?_
      rintro e w9 ⟨rfl, b9⟩
      have T9 := hide (T8.out.below b9)
      have cF9 : w9.cell? ⟨gf, 0, none⟩ = some (.slice (some ⟨gu, 0, none⟩) n vcap) := T9.out.at 1 rfl
      have cN9 : w9.cell? ⟨w7.heap.size, 0, none⟩ = some (.slice (some ⟨gn, 0, none⟩) n cap7) := T9.out.at 0 rfl
      obtain ⟨ldf2, lcf2, ⟨f1, f2, f3⟩, -⟩ := (T9.out.of 1 rfl).blk HRR.out
      simp only at f1 f2 f3
      clear b9 T8 cN8
      go_wp2_with fail
      refine (read_fo (k : Int) (m : Int) (T9.out.of 0 rfl) RP.out).mono ?_
      rintro e w10 ⟨rfl, b10⟩
      rw [HM2.out]
      have T10 := hide (T9.out.below b10)
      have cN10 : w10.cell? ⟨w7.heap.size, 0, none⟩ = some (.slice (some ⟨gn, 0, none⟩) n cap7) := T10.out.at 0 rfl
      clear b10 T9 cF9 cN9 f1 f2 f3
      go_wp2_with fail
      refine (prog_no (T10.out.of 0 rfl) RP.out HM3.out).mono ?_
      rintro e w11 ⟨ad11, cap11, L11, rfl, b11⟩
      have T11 := hide ((T10.out.below b11).cell #[.slice ad11 L11 cap11] 26)
      have cF11 : (w11.alloc (.cells #[.slice ad11 L11 cap11] 26)).cell? ⟨gf, 0, none⟩ = some (.slice (some ⟨gu, 0, none⟩) n vcap) := T11.out.at 2 rfl
      clear b11 T10 cN10
      go_wp2_with fail
      generalize w11.alloc (.cells #[.slice ad11 L11 cap11] 26) = w11a at T11 cF11 ⊢
      refine (prog_no (T11.out.of 1 rfl) HR.out HM4.out).mono ?_
      rintro e w12 ⟨ad12, cap12, L12, rfl, b12⟩
      have T12 := hide ((T11.out.below b12).cell #[.slice ad12 L12 cap12] 26)
      clear b12 T11 cF11
      go_wp2
      generalize w12.alloc (.cells #[.slice ad12 L12 cap12] 26) = wA at T12 ⊢
      have RN := hide (T12.out.of 0 rfl).rd
      have RF := hide (T12.out.of 1 rfl).rd
      have CN : Hid (wA.cell? ⟨w7.heap.size, 0, none⟩ = some (.slice (some ⟨gn, 0, none⟩) n cap7)) := T12.out.at 2 rfl
      have CF : Hid (wA.cell? ⟨gf, 0, none⟩ = some (.slice (some ⟨gu, 0, none⟩) n vcap)) := T12.out.at 3 rfl
      go_loopw [15] (fun iv wr => ∃ i : Nat, i ≤ n ∧ iv = .int .i64 i ∧ Hid (Below wA.heap.size wA wr)) (fun iv _ => n - (intOf iv).toNat)
      case atStart => exact ⟨0, Nat.zero_le _, rfl, Below.refl _ _⟩
      case round =>
        rename World => wo
        obtain ⟨i, hi, rfl, HW⟩ := hrel
        have cf : wo.cell? ⟨gf, 0, none⟩ = some (.slice (some ⟨gu, 0, none⟩) n vcap) := (HW.out.cell (World.block_lt_of_cell? wA _ CF.out)).trans CF.out
        have cn : wo.cell? ⟨w7.heap.size, 0, none⟩ = some (.slice (some ⟨gn, 0, none⟩) n cap7) := (HW.out.cell (World.block_lt_of_cell? wA _ CN.out)).trans CN.out
        have i0 : (0 : Int) ≤ i := by omega
        by_cases hlt : (i : Int) < n
        · have hib : i < bs.length := by have := HN.out; omega
          have HIB := hide hib
          clear hib
          go_wp2
          go_loopw [16] (fun jv wr => ∃ j : Nat, j ≤ 4 ∧ jv = .int .i64 j ∧ Hid (Below wo.heap.size wo wr)) (fun jv _ => 4 - (intOf jv).toNat)
          case atStart => exact ⟨0, by omega, rfl, Below.refl _ _⟩
          case round =>
            obtain ⟨j, hj, rfl, HI⟩ := hrel
            have HWI : Hid (Below wA.heap.size wA wr) := HW.out.trans (HI.out.mono HW.out.size)
            have j0 : (0 : Int) ≤ j := by omega
            by_cases hjl : (j : Int) < 4
            · by_cases hij : i = k ∧ j = m
              · have e1 : ((i : Int) != k) = false := by simp [hij.1]
                have e2 : ((j : Int) != m) = false := by simp [hij.2]
                clear hij
                go_wp2
                go_quiet (fail)
                go_wp2
                go_roundw
                case rel => exact ⟨j + 1, by omega, by go_num, hide (below_drewN HI.out _)⟩
                case measure => simp [intOf]; omega
              · obtain ⟨a, b, z, u, ha, hb, la, lb, za, zb⟩ := pg_leaf (t := txt) HR.out HRR.out HIB.out (show j < 4 by omega) hij
                obtain ⟨ld1, lc1, ⟨-, -, c3⟩, L1⟩ := (RN.out.below HWI.out) i b hb
                obtain ⟨ld2, lc2, ⟨-, -, d3⟩, L2⟩ := (RF.out.below HWI.out) i a ha
                rw [lb] at c3
                rw [la] at d3
                obtain ⟨g1, rfl, p1, p2⟩ := L1 j _ zb
                obtain ⟨g2, rfl, q1, q2⟩ := L2 j _ za
                simp only at p1 p2 q1 q2
                have cfr : wr.cell? ⟨gf, 0, none⟩ = some (.slice (some ⟨gu, 0, none⟩) n vcap) := (HI.out.cell (World.block_lt_of_cell? wo _ cf)).trans cf
                have cnr : wr.cell? ⟨w7.heap.size, 0, none⟩ = some (.slice (some ⟨gn, 0, none⟩) n cap7) := (HI.out.cell (World.block_lt_of_cell? wo _ cn)).trans cn
                have HI2 := hide HI.out.drew
                clear ha hb la lb za zb L1 L2
                by_cases hik : i = k
                · have e1 : ((i : Int) != k) = false := by simp [hik]
                  have e2 : ((j : Int) != m) = true := by
                    rw [bne_iff_ne]
                    intro e
                    exact hij ⟨hik, by omega⟩
                  clear hij hik
                  go_wp2
                  go_region_held3 (fun w' => w'.cell? ⟨w7.heap.size, 0, none⟩ = some (.slice (some ⟨gn, 0, none⟩) n cap7) ∧ w'.cell? ⟨gf, 0, none⟩ = some (.slice (some ⟨gu, 0, none⟩) n vcap) ∧ w'.cell? ⟨gn, i * 3 + 2, none⟩ = some (.slice (some ⟨g1, 0, none⟩) 4 lc1) ∧ w'.cell? ⟨gu, i * 3 + 2, none⟩ = some (.slice (some ⟨g2, 0, none⟩) 4 lc2) ∧ w'.cell? ⟨g1, j * 2, none⟩ = some (.int .i64 z) ∧ w'.cell? ⟨g1, j * 2 + 1, none⟩ = some (.string u) ∧ w'.cell? ⟨g2, j * 2, none⟩ = some (.int .i64 z) ∧ w'.cell? ⟨g2, j * 2 + 1, none⟩ = some (.string u)) (go_keep) (fail)
                  all_goals
                    go_wp2
                    go_roundw
                    case rel => exact ⟨j + 1, by omega, by go_num, HI2⟩
                    case measure => simp [intOf]; omega
                · have e1 : ((i : Int) != k) = true := by
                    rw [bne_iff_ne]
                    omega
                  clear hij hik
                  go_wp2
                  go_quiet (fail)
                  all_goals
                    go_wp2
                    go_roundw
                    case rel => exact ⟨j + 1, by omega, by go_num, hide (below_drewN HI.out _)⟩
                    case measure => simp [intOf]; omega
            · go_wp2
              go_roundw
              case rel => exact ⟨i + 1, by omega, by go_num, HWI⟩
              case measure => simp [intOf]; omega
        · have TW := hide (T12.out.below HW.out)
          obtain ⟨ldn, lcn, ⟨n1, n2, n3⟩, ownN⟩ := (TW.out.of 0 rfl).blk HM5.out
          simp only at n1 n2 n3 ownN
          have l4 : (ls.set m (1, txt)).length = 4 := by rw [List.length_set]; exact H4.out
          rw [l4] at n3
          have CX := hide (inext_any false y (.slice ldn 4 lcn) (ls.set m (1, txt)) _ wo (by rw [l4]; omega) (by rw [l4] at ownN ⊢; exact ownN))
          rw [HM6.out] at CX
          have ts : (txt.toList == [116, 101, 120, 116]) = true := by
            rw [ByteArray.toList_eq]
            decide
          have ew : IntKind.i64.wrap ((m : Int) + 1) = m + 1 := by rw [IntKind.wrap_i64]; omega
          have kn : (k : Int) < n := hkn
          clear l4 ownN
          go_wp2_with fail
          refine CX.out.mono ?_
          rintro e w20 ⟨rfl, b20⟩
          have T20 := hide (TW.out.below b20)
          clear b20 TW
          have em : (((m + 1 : Nat) : Int) == (m : Int) + 1) = true := by simp
          go_wp2
          go_ret
          exact ⟨rfl, T20.out.1⟩
    · have hp := M.out.1 hc
      have hnot := hc
      rw [hp] at fo7
      rw [hp]
      obtain ⟨ad7, cap7, rfl⟩ := fo7.form
      rw [HN.out] at fo7
      rw [HN.out]
      obtain ⟨gn, rfl, -, -, -⟩ := fo7.ptr (show 0 < bs.length by have := HN.out; omega)
      have T7a := hide (T6.out.add b7 fo7)
      have T7 := hide (T7a.out.cell #[.slice (some ⟨gn, 0, none⟩) n cap7] 26)
      have cF7 : (w7.alloc (.cells #[.slice (some ⟨gn, 0, none⟩) n cap7] 26)).cell? ⟨gf, 0, none⟩ = some (.slice (some ⟨gu, 0, none⟩) n vcap) := T7.out.at 1 rfl
      clear b7 fo7 T7a T6 M hp c6 hc
      go_wp2_with fail
      generalize w7.alloc (.cells #[.slice (some ⟨gn, 0, none⟩) n cap7] 26) = w7a at T7 cF7 ⊢
      refine (ok_fo (T7.out.of 1 rfl) HR.out).mono ?_
      rintro e w8 ⟨rfl, b8⟩
      have T8 := hide (T7.out.below b8)
      have cN8 : w8.cell? ⟨w7.heap.size, 0, none⟩ = some (.slice (some ⟨gn, 0, none⟩) n cap7) := T8.out.at 0 rfl
      clear b8 T7 cF7
      go_wp2_with fail
      refine (ok_fo (T8.out.of 0 rfl) HR.out).mono ?_
      rintro e w9 ⟨rfl, b9⟩
      have T9 := hide (T8.out.below b9)
      have cF9 : w9.cell? ⟨gf, 0, none⟩ = some (.slice (some ⟨gu, 0, none⟩) n vcap) := T9.out.at 1 rfl
      have cN9 : w9.cell? ⟨w7.heap.size, 0, none⟩ = some (.slice (some ⟨gn, 0, none⟩) n cap7) := T9.out.at 0 rfl
      obtain ⟨ldf2, lcf2, ⟨f1, f2, f3⟩, -⟩ := (T9.out.of 1 rfl).blk HRR.out
      simp only at f1 f2 f3
      clear b9 T8 cN8
      by_cases hm4 : (m : Int) < 4
      · have hx : x = true := by
          cases x with
          | true => rfl
          | false => exact absurd ⟨by omega, rfl⟩ hnot
        subst hx
        clear hnot
        go_wp2_with fail
        refine (same_n gn gu cap7 vcap n HN.out HR.out (T9.out.of 0 rfl).rd (T9.out.of 1 rfl).rd).mono ?_
        rintro e w10 ⟨rfl, b10⟩
        have T10 := hide (T9.out.below b10)
        clear b10 T9
        go_wp2
        go_ret
        exact ⟨rfl, T10.out.1⟩
      · clear hnot
        go_wp2_with fail
        refine (same_n gn gu cap7 vcap n HN.out HR.out (T9.out.of 0 rfl).rd (T9.out.of 1 rfl).rd).mono ?_
        rintro e w10 ⟨rfl, b10⟩
        have T10 := hide (T9.out.below b10)
        clear b10 T9
        go_wp2
        go_ret
        exact ⟨rfl, T10.out.1⟩
end Go.Proofs.Ythkkefbhcmhijaa
