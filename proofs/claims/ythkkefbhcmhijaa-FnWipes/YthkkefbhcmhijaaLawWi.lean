/-
  FnWipes.
-/
import Derived.Test.YthkkefbhcmhijaaWiPut
import Derived.Test.YthkkefbhcmhijaaDPl
import Derived.Test.YthkkefbhcmhijaaPq50
import Derived.Deep.DeepCutAuto
namespace Go.Proofs.Ythkkefbhcmhijaa
open Go.RowKit

theorem one_at {w : World} {g : Nat} {v : Value} {t : TypeId} (h : w.heap[g]? = some (.cells #[v] t (0, 0))) : w.cell? ⟨g, 0, none⟩ = some v := cell_of_row _ _ 0 _ _ _ h
set_option maxHeartbeats 3000000 in
set_option maxRecDepth 100000 in
theorem lawWi (ad : Option Addr) (len cap : Nat) (w : World) (hd : CodeIn w ad len w.heap.size) :
    Calls Try.prog 4 #[.slice ad len cap] w fun e w' => e = .returned (.bool true) ∧ Below w.heap.size w w' := by
  have HD := hide hd
  clear hd
  by_cases hbig : (1048576 : Int) < len
  · go_enter Try.func4, Try.ntmps4
    go_wp2_with fail
    refine (big_any ad len cap _).mono ?_
    rintro e w1 ⟨rfl, rfl⟩
    rw [decide_eq_true hbig]
    go_wp2
    go_ret
    exact ⟨rfl, Below.refl _ _⟩
  · have hl2 : len ≤ 1048576 := by omega
    have hbd : decide ((1048576 : Int) < len) = false := decide_eq_false hbig
    clear hbig
    go_enter Try.func4, Try.ntmps4
    go_wp2_with fail
    refine (big_any ad len cap _).mono ?_
    rintro e w0 ⟨rfl, hw0⟩
    subst hw0
    rw [hbd]
    clear hbd
    go_wp2_with fail
    refine (drawRF_any ad len cap _ hl2 HD.out).mono ?_
    rintro e w2 ⟨v, bs, rfl, hr, fo, b2⟩
    obtain ⟨vd, vcap, rfl⟩ := fo.form
    obtain ⟨l3, l10, -⟩ := hr.lens
    obtain ⟨gu, rfl, -, -, -⟩ := fo.ptr (by omega)
    obtain ⟨n, hn⟩ : ∃ n, bs.length = n := ⟨_, rfl⟩
    rw [hn] at fo l3 l10
    rw [hn]
    have HN := hide hn
    clear hn
    have T0 : Hid (Tr w0 w2 [] [(w0.heap.size, w2.heap.size, .slice (some ⟨gu, 0, none⟩) n vcap, bs)]) := ⟨b2, fun c hc => (by cases hc), fun f hf => by rw [List.mem_singleton] at hf; subst hf; exact ⟨Nat.le_refl _, fo⟩⟩
    have T1 := hide (T0.out.cell #[.slice (some ⟨gu, 0, none⟩) n vcap] 26)
    have s2 := b2.size
    have HD2 := hide (HD.out.on b2 (Nat.le_refl _))
    have HR := hide hr
    have hz : (w2.alloc (.cells #[.slice (some ⟨gu, 0, none⟩) n vcap] 26)).heap.size = w2.heap.size + 1 := by simp
    have HD3 := hide ((HD2.out.on ((Below.refl w2.heap.size w2).alloc (Nat.le_refl _) (.cells #[.slice (some ⟨gu, 0, none⟩) n vcap] 26)) s2))
    clear fo b2 hr T0 HD2
    go_upto_region 4 with fail
    generalize w2.alloc (.cells #[.slice (some ⟨gu, 0, none⟩) n vcap] 26) = w3 at T1 HD3 hz ⊢
    have T1d := hide T1.out.drew
    have hcd : CodeIn w3.drew ad len w3.drew.heap.size := by
      intro j hj
      obtain ⟨b, off, h1, h2, h3⟩ := HD3.out j hj
      exact ⟨b, off, h1, (by show b < w3.heap.size; omega), h3⟩
    have HCD := hide hcd
    have c3 : w3.cell? ⟨w2.heap.size, 0, none⟩ = some (.slice (some ⟨gu, 0, none⟩) n vcap) := T1.out.at 0 rfl
    have hn0 : ((n : Int) == 0) = false := by rw [beq_eq_false_iff_ne]; omega
    have hn1 : ¬ (n : Int) = 0 := by omega
    have hn2 : (0 : Int) < n := by omega
    generalize w2.heap.size = gf at T1 T1d c3 hz s2 ⊢
    clear hcd HD3
    go_cut [4] (fun b wc => ∃ k : Nat, b = .int .i64 k ∧ (k : Int) < n ∧ Hid (Tr w0 wc [(gf, #[.slice (some ⟨gu, 0, none⟩) n vcap], 26)] [(w0.heap.size, gf, .slice (some ⟨gu, 0, none⟩) n vcap, bs)]))
    case first =>
      go_region_with (go_at_call 7; refine (places_any ad len cap _ hl2 HCD.out).mono ?_; rintro en w4 ⟨gp, cp, pl, rfl, hgp, hgp2, hpl, hpx, hpc, b4⟩; have T4 := hide (T1d.out.below b4); have c4 : w4.cell? ⟨gf, 0, none⟩ = some (.slice (some ⟨gu, 0, none⟩) n vcap) := T4.out.at 0 rfl; have p0 := hpc 0 (by omega); have px := hpx pl[0] (List.getElem_mem _); generalize pl[0] = x0 at p0 px; clear hpc hpx b4 hpl)
      all_goals
        obtain ⟨k, hk, hkn⟩ : ∃ k : Nat, x0 % (n : Int) = k ∧ (k : Int) < n := by
          have h1 := Int.emod_nonneg x0 hn1
          have h2 := Int.emod_lt_of_pos x0 hn2
          exact ⟨(x0 % n).toNat, by omega, by omega⟩
        rw [hk]
        go_wp2_with fail
        go_meet
        case rel => exact ⟨k, rfl, hkn, T4⟩
    case rest =>
      obtain ⟨k, rfl, hkn, T4⟩ := hcut
      have c4 : wc.cell? ⟨gf, 0, none⟩ = some (.slice (some ⟨gu, 0, none⟩) n vcap) := T4.out.at 0 rfl
      have hgf : gf < wc.heap.size := World.block_lt_of_cell? wc _ c4
      have hkl : k < bs.length := by have := HN.out; omega
      have hr : bs[k]? = some bs[k] := List.getElem?_eq_getElem hkl
      generalize bs[k] = r at hr
      have HRR := hide hr
      have M := hide (wi_math HR.out hr)
      obtain ⟨W1, W2, hW⟩ : ∃ W1 W2, wipeF bs (k : Int) = (W1, W2) := ⟨_, _, rfl⟩
      obtain ⟨B1, hB1⟩ : ∃ B1, badF bs (k : Int) = B1 := ⟨_, rfl⟩
      have HW := hide hW
      have HBB := hide hB1
      have k0 : (0 : Int) ≤ k := by omega
      have RB : Hid (Right 20 B1) := by show Right 20 B1; rw [← hB1]; exact HR.out.bad _
      clear hr hW hB1 hkl c3
      go_wp2_with fail
      refine (wipe_fo (k : Int) (T4.out.of 0 rfl) HR.out).mono ?_
      rintro e w5 ⟨u5, rfl, fo5, b5⟩
      rw [HW.out] at fo5
      rw [HW.out]
      have T5a := hide (T4.out.add b5 fo5)
      obtain ⟨ad5, cap5, rfl⟩ := fo5.form
      have T5 := hide (T5a.out.cell #[.slice ad5 W1.length cap5] 26)
      have f5 : (w5.alloc (.cells #[.slice ad5 W1.length cap5] 26)).cell? ⟨gf, 0, none⟩ = some (.slice (some ⟨gu, 0, none⟩) n vcap) := T5.out.at 1 rfl
      have z5 : (w5.alloc (.cells #[.slice ad5 W1.length cap5] 26)).heap.size = w5.heap.size + 1 := by simp
      clear b5 fo5 T5a c4 T4
      go_wp2_with fail
      generalize w5.alloc (.cells #[.slice ad5 W1.length cap5] 26) = w5a at T5 f5 z5 ⊢
      refine (bad_fo (k : Int) (T5.out.of 1 rfl) HR.out).mono ?_
      rintro e w6 ⟨u6, rfl, fo6, b6⟩
      rw [HBB.out] at fo6
      have T6a := hide (T5.out.add b6 fo6)
      obtain ⟨ad6, cap6, rfl⟩ := fo6.form
      have T6 := hide (T6a.out.cell #[.slice ad6 B1.length cap6] 26)
      have z6 : (w6.alloc (.cells #[.slice ad6 B1.length cap6] 26)).heap.size = w6.heap.size + 1 := by simp
      clear b6 fo6 T6a f5 T5
      go_wp2_with fail
      generalize w6.alloc (.cells #[.slice ad6 B1.length cap6] 26) = w6a at T6 z6 ⊢
      refine (wipe_fo (k : Int) (T6.out.of 0 rfl) RB.out).mono ?_
      rintro e w7 ⟨u7, rfl, fo7, b7⟩
      have hbw : (wipeF B1 (k : Int)).2 = false := by rw [← HBB.out]; exact M.out.2.1
      rw [hbw]
      have T7a := hide (T6.out.add b7 fo7)
      generalize (wipeF B1 (k : Int)).1 = W7 at fo7 T7a
      obtain ⟨ad7, cap7, rfl⟩ := fo7.form
      have T7 := hide (T7a.out.cell #[.slice ad7 W7.length cap7] 26)
      clear b7 fo7 T7a T6 hbw
      go_upto_region 8 with fail
      generalize w7.alloc (.cells #[.slice ad7 W7.length cap7] 26) = w7a at T7 ⊢
      have lB : B1.length = n := by rw [← HBB.out, ← HN.out]; unfold badF; split <;> simp
      have hkB : (k : Int) < B1.length := by omega
      have hrB : B1[k]? = some (true, r.2) := by
        rw [← HBB.out]
        unfold badF
        rw [if_pos k0, Int.toNat_natCast, List.getElem?_modify, HRR.out]
        simp
      obtain ⟨g6, e6, -, -, -⟩ := (T7.out.of 1 rfl).ptr (by omega)
      subst e6
      have bZ := (Below.refl w7a.heap.size w7a).alloc (Nat.le_refl _) (.cells #[.slice none 0 0] 26)
      have T7d := hide T7.out.drew
      have T7e := hide (T7.out.below bZ).drew
      obtain ⟨x, y, ls⟩ := r
      have h4 : ls.length = 4 := HR.out.lens.2.2 _ (List.mem_of_getElem? HRR.out)
      have H4 := hide h4
      have hl6 : ls.length ≤ 1048576 := by omega
      obtain ⟨ld, lcap, ⟨k1, k2, k3⟩, own⟩ := (T7.out.of 1 rfl).blk hrB
      simp only at k1 k2 k3 own
      have OWN : Hid (w7a.drew.ownsRow w5a.heap.size 41 2 (.slice ld ls.length lcap) ls.length (lcells ls)) := own
      have OWNe : Hid ((w7a.alloc (.cells #[.slice none 0 0] 26)).drew.ownsRow w5a.heap.size 41 2 (.slice ld ls.length lcap) ls.length (lcells ls)) := own.alloc (.cells #[.slice none 0 0] 26)
      have m7 : w7a.cell? ⟨w6.heap.size, 0, none⟩ = some (.slice (some ⟨g6, 0, none⟩) B1.length cap6) := T7.out.at 1 rfl
      have m7e := (bZ.cell (World.block_lt_of_cell? w7a _ m7)).trans m7
      have k1e := (bZ.cell (World.block_lt_of_cell? w7a _ k1)).trans k1
      have k2e := (bZ.cell (World.block_lt_of_cell? w7a _ k2)).trans k2
      have k3e := (bZ.cell (World.block_lt_of_cell? w7a _ k3)).trans k3
      have hpf := M.out.2.2.1
      rw [HBB.out] at hpf
      have HPF := hide hpf
      have HLB := hide lB
      clear own h4 hrB hpf lB bZ
      go_cut [10, 11] (fun s10 s11 wd => s11 = .bool false ∧ Hid (Tr w0 wd [(w7.heap.size, #[.slice ad7 W7.length cap7], 26), (w6.heap.size, #[.slice (some ⟨g6, 0, none⟩) B1.length cap6], 26), (w5.heap.size, #[.slice ad5 W1.length cap5], 26), (gf, #[.slice (some ⟨gu, 0, none⟩) n vcap], 26)] [(w6a.heap.size, w7.heap.size, .slice ad7 W7.length cap7, W7), (w5a.heap.size, w6.heap.size, .slice (some ⟨g6, 0, none⟩) B1.length cap6, B1), (wc.heap.size, w5.heap.size, .slice ad5 W1.length cap5, W1), (w0.heap.size, gf, .slice (some ⟨gu, 0, none⟩) n vcap, bs)]))
      case first =>
        have KE : Hid (∀ (W W' : World), Below W.heap.size W W' → (W.cell? ⟨w6.heap.size, 0, none⟩ = some (.slice (some ⟨g6, 0, none⟩) B1.length cap6) ∧ W.cell? ⟨g6, k * 3, none⟩ = some (.bool true) ∧ W.cell? ⟨g6, k * 3 + 1, none⟩ = some (.int .i64 y) ∧ W.cell? ⟨g6, k * 3 + 2, none⟩ = some (.slice ld ls.length lcap)) → (W'.cell? ⟨w6.heap.size, 0, none⟩ = some (.slice (some ⟨g6, 0, none⟩) B1.length cap6) ∧ W'.cell? ⟨g6, k * 3, none⟩ = some (.bool true) ∧ W'.cell? ⟨g6, k * 3 + 1, none⟩ = some (.int .i64 y) ∧ W'.cell? ⟨g6, k * 3 + 2, none⟩ = some (.slice ld ls.length lcap))) := fun W W' hb h => ⟨(hb.cell (World.block_lt_of_cell? W _ h.1)).trans h.1, (hb.cell (World.block_lt_of_cell? W _ h.2.1)).trans h.2.1, (hb.cell (World.block_lt_of_cell? W _ h.2.2.1)).trans h.2.2.1, (hb.cell (World.block_lt_of_cell? W _ h.2.2.2)).trans h.2.2.2⟩
        have K7 : Hid (w7a.cell? ⟨w6.heap.size, 0, none⟩ = some (.slice (some ⟨g6, 0, none⟩) B1.length cap6) ∧ w7a.cell? ⟨g6, k * 3, none⟩ = some (.bool true) ∧ w7a.cell? ⟨g6, k * 3 + 1, none⟩ = some (.int .i64 y) ∧ w7a.cell? ⟨g6, k * 3 + 2, none⟩ = some (.slice ld ls.length lcap)) := ⟨m7, k1, k2, k3⟩
        have hb1 := World.block_lt_of_cell? w7a _ m7
        have hb2 := World.block_lt_of_cell? w7a _ k1
        have KS : Hid (∀ (W : World) (g : Nat) (v : Value), w7a.heap.size ≤ g → (W.cell? ⟨w6.heap.size, 0, none⟩ = some (.slice (some ⟨g6, 0, none⟩) B1.length cap6) ∧ W.cell? ⟨g6, k * 3, none⟩ = some (.bool true) ∧ W.cell? ⟨g6, k * 3 + 1, none⟩ = some (.int .i64 y) ∧ W.cell? ⟨g6, k * 3 + 2, none⟩ = some (.slice ld ls.length lcap)) → ((W.setCell ⟨g, 0, none⟩ v).cell? ⟨w6.heap.size, 0, none⟩ = some (.slice (some ⟨g6, 0, none⟩) B1.length cap6) ∧ (W.setCell ⟨g, 0, none⟩ v).cell? ⟨g6, k * 3, none⟩ = some (.bool true) ∧ (W.setCell ⟨g, 0, none⟩ v).cell? ⟨g6, k * 3 + 1, none⟩ = some (.int .i64 y) ∧ (W.setCell ⟨g, 0, none⟩ v).cell? ⟨g6, k * 3 + 2, none⟩ = some (.slice ld ls.length lcap))) := fun W g v hg h => by
          have q1 : (⟨w6.heap.size, 0, none⟩ : Addr).block ≠ g := by simp only at hb1 ⊢; omega
          have q2 : g6 ≠ g := by simp only at hb2; omega
          have far : ∀ (b o : Nat), b ≠ g → (W.setCell ⟨g, 0, none⟩ v).cell? ⟨b, o, none⟩ = W.cell? ⟨b, o, none⟩ := fun b o hb => World.cell?_of_block (Below.heap_setCell _ _ _ _ hb)
          exact ⟨(far _ _ q1).trans h.1, (far _ _ q2).trans h.2.1, (far _ _ q2).trans h.2.2.1, (far _ _ q2).trans h.2.2.2⟩
        have K7d : Hid (w7a.drew.cell? ⟨w6.heap.size, 0, none⟩ = some (.slice (some ⟨g6, 0, none⟩) B1.length cap6) ∧ w7a.drew.cell? ⟨g6, k * 3, none⟩ = some (.bool true) ∧ w7a.drew.cell? ⟨g6, k * 3 + 1, none⟩ = some (.int .i64 y) ∧ w7a.drew.cell? ⟨g6, k * 3 + 2, none⟩ = some (.slice ld ls.length lcap)) := ⟨m7, k1, k2, k3⟩
        have K7e : Hid ((w7a.alloc (.cells #[.slice none 0 0] 26)).drew.cell? ⟨w6.heap.size, 0, none⟩ = some (.slice (some ⟨g6, 0, none⟩) B1.length cap6) ∧ (w7a.alloc (.cells #[.slice none 0 0] 26)).drew.cell? ⟨g6, k * 3, none⟩ = some (.bool true) ∧ (w7a.alloc (.cells #[.slice none 0 0] 26)).drew.cell? ⟨g6, k * 3 + 1, none⟩ = some (.int .i64 y) ∧ (w7a.alloc (.cells #[.slice none 0 0] 26)).drew.cell? ⟨g6, k * 3 + 2, none⟩ = some (.slice ld ls.length lcap)) := ⟨m7e, k1e, k2e, k3e⟩
        go_region_held3 (fun w' => w'.cell? ⟨w6.heap.size, 0, none⟩ = some (.slice (some ⟨g6, 0, none⟩) B1.length cap6) ∧ w'.cell? ⟨g6, k * 3, none⟩ = some (.bool true) ∧ w'.cell? ⟨g6, k * 3 + 1, none⟩ = some (.int .i64 y) ∧ w'.cell? ⟨g6, k * 3 + 2, none⟩ = some (.slice ld ls.length lcap)) (first | go_keep | exact K8.out | exact K9.out | exact KS.out _ _ _ (Nat.le_refl _) K9.out | exact KS.out _ _ _ s8 K9.out | exact KE.out _ _ ((Below.refl _ _).alloc (Nat.le_refl _) _) K7.out | exact KE.out _ _ ((Below.refl _ _).alloc (Nat.le_refl _) _) K8.out | exact KE.out _ _ ((Below.refl _ _).alloc (Nat.le_refl _) _) K9.out) (first
          | (go_at_call 8; (with_reducible refine Calls.mono (inext_any true y _ ls _ _ hl6 (by first | exact OWN.out | exact OWNe.out)) ?_); rintro en w8 ⟨rfl, b8⟩; have T8 := hide (Tr.below (by first | exact T7d.out | exact T7e.out) b8); have s8 : w7a.heap.size ≤ w8.heap.size := (by have := b8.size; simp at this; omega); have T8a := hide (T8.out.below ((Below.refl _ _).alloc (Nat.le_refl _) (.cells #[.slice none 0 0] 26))); have K8 := hide (KE.out _ _ b8 (by first | exact K7d.out | exact K7e.out)); have F8 := hide (T8.out.of 1 rfl); have F8a := hide (T8a.out.of 1 rfl); (try have ZA8 := hide ((b8.block w7a.heap.size (by simp)).trans (show (w7a.alloc (.cells #[.slice none 0 0] 26)).drew.heap[w7a.heap.size]? = some (.cells #[.slice none 0 0] 26 (0, 0)) from heap_alloc_new w7a (.cells #[.slice none 0 0] 26)))); clear b8)
          | (go_at_call 9; (with_reducible refine Calls.mono (prog_no (by first | exact F8.out | exact F8a.out) RB.out (HPF.out _ _)) ?_); rintro en w9 ⟨ad9, cap9, L9, rfl, b9⟩; have T9 := hide (Tr.below (by first | exact T8.out | exact T8a.out) b9); have K9 := hide (KE.out _ _ b9 (by first | exact K8.out | exact KE.out _ _ ((Below.refl _ _).alloc (Nat.le_refl _) _) K8.out)); (try have ZA9 := hide ((b9.block _ (Array.getElem?_eq_some_iff.1 ZA8.out).1).trans ZA8.out)); (try have cA9 := one_at ZA9.out); (try have fA9 := frozen_of_row _ _ 0 _ _ ZA9.out); (try have ZB9 := hide ((b9.block w8.heap.size (by simp)).trans (heap_alloc_new w8 (.cells #[.slice none 0 0] 26)))); (try have cB9 := one_at ZB9.out); (try have fB9 := frozen_of_row _ _ 0 _ _ ZB9.out); clear b9))
        all_goals
          go_wp2_with fail
          go_meet
          case rel => exact ⟨rfl, by first | exact hide (T9.out.below ((Below.refl _ _).alloc (Nat.le_refl _) _)) | exact hide (Tr.past T7.out T9.out (Nat.le_refl _) _ _) | exact hide (Tr.past T7.out T9.out s8 _ _)⟩
      case rest =>
        obtain ⟨rfl, T8⟩ := hcut
        cases x with
        | true =>
          have e := HW.out.symm.trans (M.out.1.1 rfl)
          injection e with e1 e2
          subst e1 e2
          rw [HN.out] at T8
          obtain ⟨gn, e5, -, -, -⟩ := (T8.out.of 2 rfl).ptr (by have := HN.out; omega)
          subst e5
          have cF : wc.cell? ⟨gf, 0, none⟩ = some (.slice (some ⟨gu, 0, none⟩) n vcap) := T8.out.at 3 rfl
          have cN : wc.cell? ⟨w5.heap.size, 0, none⟩ = some (.slice (some ⟨gn, 0, none⟩) n cap5) := T8.out.at 2 rfl
          obtain ⟨ldf, lcf, ⟨f1, f2, f3⟩, -⟩ := (T8.out.of 3 rfl).blk HRR.out
          simp only at f1 f2 f3
          clear T7 T7d T7e OWN OWNe m7 m7e k1 k2 k3 k1e k2e k3e
          go_wp2_with fail
          refine (ok_fo (T8.out.of 2 rfl) HR.out).mono ?_
          rintro e w9 ⟨rfl, b9⟩
          have T9 := hide (T8.out.below b9)
          have cF9 : w9.cell? ⟨gf, 0, none⟩ = some (.slice (some ⟨gu, 0, none⟩) n vcap) := T9.out.at 3 rfl
          have cN9 : w9.cell? ⟨w5.heap.size, 0, none⟩ = some (.slice (some ⟨gn, 0, none⟩) n cap5) := T9.out.at 2 rfl
          clear b9 T8 cF cN f1 f2 f3
          go_wp2_with fail
          refine (same_n gn gu cap5 vcap n HN.out HR.out (T9.out.of 2 rfl).rd (T9.out.of 3 rfl).rd).mono ?_
          rintro e w10 ⟨rfl, b10⟩
          have T10 := hide (T9.out.below b10)
          clear b10 T9 cF9 cN9
          go_wp2
          go_ret
          exact ⟨rfl, T10.out.1⟩
        | false =>
          have e := HW.out.symm.trans (M.out.1.2 rfl)
          injection e with e1 e2
          have R1 : Hid (Right 21 W1) := by
            show Right 21 W1
            have := HR.out.wipe (by omega) (k : Int)
            rw [HW.out] at this
            exact this
          have lW : W1.length = n := by rw [e1, List.length_modify]; exact HN.out
          subst e2
          rw [lW] at T8
          obtain ⟨gn, e5, hgn, -, -⟩ := (T8.out.of 2 rfl).ptr (by omega)
          subst e5
          have hm : W1[k]? = some (false, y + 1, blank4) := by rw [e1, List.getElem?_modify, HRR.out]; simp
          have cF : wc.cell? ⟨gf, 0, none⟩ = some (.slice (some ⟨gu, 0, none⟩) n vcap) := T8.out.at 3 rfl
          have cN : wc.cell? ⟨w5.heap.size, 0, none⟩ = some (.slice (some ⟨gn, 0, none⟩) n cap5) := T8.out.at 2 rfl
          obtain ⟨ldf, lcf, ⟨f1, f2, f3⟩, -⟩ := (T8.out.of 3 rfl).blk HRR.out
          simp only at f1 f2 f3
          have E1 := hide e1
          have LW := hide lW
          have HM := hide hm
          clear T7 T7d T7e OWN OWNe m7 m7e k1 k2 k3 k1e k2e k3e e1 lW hm
          go_wp2_with fail
          refine (ok_fo (T8.out.of 2 rfl) R1.out).mono ?_
          rintro e w9 ⟨rfl, b9⟩
          have T9 := hide (T8.out.below b9)
          have cF9 : w9.cell? ⟨gf, 0, none⟩ = some (.slice (some ⟨gu, 0, none⟩) n vcap) := T9.out.at 3 rfl
          have cN9 : w9.cell? ⟨w5.heap.size, 0, none⟩ = some (.slice (some ⟨gn, 0, none⟩) n cap5) := T9.out.at 2 rfl
          obtain ⟨ldn, lcn, ⟨n1, n2, n3⟩, ownN⟩ := (T9.out.of 2 rfl).blk HM.out
          simp only at n1 n2 n3
          change w9.cell? _ = some (.slice ldn 4 lcn) at n3
          have OWN := hide ownN
          clear b9 T8 cF cN f1 f2 f3 ownN
          go_wp2
          have T10 := hide (T9.out.cell #[.bool false, .int .i64 (y + 1), .slice ldn 4 lcn] 33)
          have OWN2 := hide (OWN.out.alloc (.cells #[.bool false, .int .i64 (y + 1), .slice ldn 4 lcn] 33))
          have z10 : (w9.alloc (.cells #[.bool false, .int .i64 (y + 1), .slice ldn 4 lcn] 33)).heap.size = w9.heap.size + 1 := by simp
          generalize w9.alloc (.cells #[.bool false, .int .i64 (y + 1), .slice ldn 4 lcn] 33) = w10 at T10 OWN2 z10 ⊢
          have cF10 : w10.cell? ⟨gf, 0, none⟩ = some (.slice (some ⟨gu, 0, none⟩) n vcap) := T10.out.at 4 rfl
          have cN10 : w10.cell? ⟨w5.heap.size, 0, none⟩ = some (.slice (some ⟨gn, 0, none⟩) n cap5) := T10.out.at 3 rfl
          have x0 := cell_of_row _ _ 0 _ _ _ (T10.out.row 0 rfl)
          have x1 := cell_of_row _ _ 1 _ _ _ (T10.out.row 0 rfl)
          have x2 := cell_of_row _ _ 2 _ _ _ (T10.out.row 0 rfl)
          obtain ⟨ldg, lcg, ⟨g1, g2, g3⟩, -⟩ := (T10.out.of 3 rfl).blk HRR.out
          obtain ⟨ldm, lcm, ⟨m1, m2, m3⟩, -⟩ := (T10.out.of 2 rfl).blk HM.out
          simp only at g1 g2 g3 m1 m2 m3
          obtain ⟨ssn, esn, hsn⟩ := T10.out.of 2 rfl
          have hs1 := hsn.1
          have lsn : ssn.length = n := by rw [← LW.out, ← esn, List.length_map]
          rw [lsn] at hs1
          have q0 := hs1.frozenAt (k * 3)
          have q1 := hs1.frozenAt (k * 3 + 1)
          have q2 := hs1.frozenAt (k * 3 + 2)
          have hgn5 : gn < w5.heap.size := by obtain ⟨-, ss5, -, hs5⟩ := T10.out.fl 2 rfl; exact hs5.2.1 gn rfl
          have hgg : gf < gn := by omega
          have hW1 := T10.out.of 2 rfl
          rw [E1.out] at hW1
          have WP := hide (wi_put (T10.out.fl 3 rfl) hW1 hgg HRR.out g3)
          have ubn : w9.heap.size ≠ gn := by have := World.block_lt_of_cell? w9 _ n1; simp only at this; omega
          clear cF9 cN9 n1 n2 n3 hsn hs1 esn lsn hW1 OWN
          go_region
          obtain ⟨bL, rdN, ffF, far, own11⟩ := WP.out _ rfl
          generalize (((w10.setCell ⟨gn, k * 3, none⟩ (.bool false)).setCell ⟨gn, k * 3 + 1, none⟩ (.int .i64 y)).setCell ⟨gn, k * 3 + 2, none⟩ (.slice ldg ls.length lcg)).drew = w11 at bL rdN ffF far own11 ⊢
          have hguf : gu < gf := by obtain ⟨-, ss5, -, hs5⟩ := T10.out.fl 3 rfl; exact hs5.2.1 gu rfl
          have S11 : Hid (w11.cell? ⟨w9.heap.size, 0, none⟩ = some (.bool false) ∧ w11.cell? ⟨w9.heap.size, 1, none⟩ = some (.int .i64 (y + 1)) ∧ w11.cell? ⟨w9.heap.size, 2, none⟩ = some (.slice ldn 4 lcn) ∧ w11.cell? ⟨gf, 0, none⟩ = some (.slice (some ⟨gu, 0, none⟩) n vcap) ∧ w11.cell? ⟨w5.heap.size, 0, none⟩ = some (.slice (some ⟨gn, 0, none⟩) n cap5) ∧ w11.cell? ⟨gu, k * 3 + 1, none⟩ = some (.int .i64 y)) := ⟨(far _ _ ubn).trans x0, (far _ _ ubn).trans x1, (far _ _ ubn).trans x2, (far _ _ (by omega)).trans cF10, (far _ _ (by omega)).trans cN10, (far _ _ (by omega)).trans g2⟩
          have B11 : Hid (Below w0.heap.size w0 w11) := T10.out.1.trans (bL.mono s2)
          have RN11 := hide rdN
          have FF11 := hide ffF
          have OW11 := hide (own11 _ _ _ _ OWN2.out)
          have cF11 := S11.out.2.2.2.1
          have hread := M.out.2.2.2
          have HRD := hide hread
          clear bL rdN ffF far own11 x0 x1 x2 cF10 cN10 g1 g2 g3 m1 m2 m3 q0 q1 q2 WP OWN2 T10 T9 hread
          go_wp2_with fail
          refine (read_fo (k : Int) 4 FF11.out HR.out).mono ?_
          rintro e w12 ⟨rfl, b12⟩
          rw [HRD.out]
          have KE : Hid (∀ (W W' : World), Below W.heap.size W W' → (W.cell? ⟨w9.heap.size, 0, none⟩ = some (.bool false) ∧ W.cell? ⟨w9.heap.size, 1, none⟩ = some (.int .i64 (y + 1)) ∧ W.cell? ⟨w9.heap.size, 2, none⟩ = some (.slice ldn 4 lcn) ∧ W.cell? ⟨gf, 0, none⟩ = some (.slice (some ⟨gu, 0, none⟩) n vcap) ∧ W.cell? ⟨w5.heap.size, 0, none⟩ = some (.slice (some ⟨gn, 0, none⟩) n cap5) ∧ W.cell? ⟨gu, k * 3 + 1, none⟩ = some (.int .i64 y)) → (W'.cell? ⟨w9.heap.size, 0, none⟩ = some (.bool false) ∧ W'.cell? ⟨w9.heap.size, 1, none⟩ = some (.int .i64 (y + 1)) ∧ W'.cell? ⟨w9.heap.size, 2, none⟩ = some (.slice ldn 4 lcn) ∧ W'.cell? ⟨gf, 0, none⟩ = some (.slice (some ⟨gu, 0, none⟩) n vcap) ∧ W'.cell? ⟨w5.heap.size, 0, none⟩ = some (.slice (some ⟨gn, 0, none⟩) n cap5) ∧ W'.cell? ⟨gu, k * 3 + 1, none⟩ = some (.int .i64 y))) := fun W W' hb h => ⟨(hb.cell (World.block_lt_of_cell? W _ h.1)).trans h.1, (hb.cell (World.block_lt_of_cell? W _ h.2.1)).trans h.2.1, (hb.cell (World.block_lt_of_cell? W _ h.2.2.1)).trans h.2.2.1, (hb.cell (World.block_lt_of_cell? W _ h.2.2.2.1)).trans h.2.2.2.1, (hb.cell (World.block_lt_of_cell? W _ h.2.2.2.2.1)).trans h.2.2.2.2.1, (hb.cell (World.block_lt_of_cell? W _ h.2.2.2.2.2)).trans h.2.2.2.2.2⟩
          have b12d : Below w11.heap.size w11 w12.drew := b12.drew
          have S12 := hide (KE.out _ _ b12 S11.out)
          have S12d := hide (KE.out _ _ b12d S11.out)
          have B12 := hide (B11.out.trans (b12d.mono B11.out.size))
          have RN12 := hide (RN11.out.below b12d)
          have RF12 := hide (FF11.out.rd.below b12d)
          have OW12 := hide (own_below OW11.out b12d)
          have hy1 : y ≤ 20 := HR.out.2 _ (List.mem_of_getElem? HRR.out)
          have hy0 : 0 ≤ y := (blkOk_open ((flOk_open HR.out.1).2 _ (List.mem_of_getElem? HRR.out))).2.1.1
          have ew : IntKind.i64.wrap (y + 1) = y + 1 := by rw [IntKind.wrap_i64]; omega
          have CNB : Hid (Calls Try.prog 8 #[.agg #[.bool false, .int .i64 (y + 1), .slice ldn 4 lcn]] w12.drew fun e w' => e = .returned (.int .i64 0) ∧ Below w12.drew.heap.size w12.drew w') := by
            have := inext_any false (y + 1) (.slice ldn 4 lcn) blank4 _ w12.drew (by decide) OW12.out
            rw [blank_next] at this
            exact this
          obtain ⟨a0, a1, a2, a3, a4, a5⟩ := S12.out
          clear b12 b12d S11 B11 RN11 FF11 OW11 OW12 cF11 HRD
          go_wp2
          go_region_held3 (fun w' => (w'.cell? ⟨w9.heap.size, 0, none⟩ = some (.bool false) ∧ w'.cell? ⟨w9.heap.size, 1, none⟩ = some (.int .i64 (y + 1)) ∧ w'.cell? ⟨w9.heap.size, 2, none⟩ = some (.slice ldn 4 lcn) ∧ w'.cell? ⟨gf, 0, none⟩ = some (.slice (some ⟨gu, 0, none⟩) n vcap) ∧ w'.cell? ⟨w5.heap.size, 0, none⟩ = some (.slice (some ⟨gn, 0, none⟩) n cap5) ∧ w'.cell? ⟨gu, k * 3 + 1, none⟩ = some (.int .i64 y))) (first | go_keep | exact S12d.out | exact S13.out | exact S14.out) (first
            | (go_at_call 8; (with_reducible refine Calls.mono CNB.out ?_); rintro en w13 ⟨rfl, b13⟩; have S13 := hide (KE.out _ _ b13 S12d.out); have B13 := hide (B12.out.trans (b13.mono B12.out.size)); have RN13 := hide (RN12.out.below b13); have RF13 := hide (RF12.out.below b13); clear b13)
            | (go_at_call 11; (with_reducible refine Calls.mono (same_n gn gu cap5 vcap n HN.out HR.out RN13.out RF13.out) ?_); rintro en w14 ⟨rfl, b14⟩; have S14 := hide (KE.out _ _ b14 S13.out); have B14 := hide (B13.out.trans (b14.mono B13.out.size)); clear b14))
          all_goals
            go_wp2
            go_ret
            exact ⟨rfl, B14.out⟩
end Go.Proofs.Ythkkefbhcmhijaa
