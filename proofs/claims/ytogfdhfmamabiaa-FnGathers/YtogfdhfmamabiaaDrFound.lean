/-
  The draw of pages: spec.l10Found, spec.DrawGather.
-/
import Derived.Test.YtogfdhfmamabiaaFdD
import Derived.Test.YtogfdhfmamabiaaPk26
import Derived.Test.YtogfdhfmamabiaaPk25
import Derived.Deep.DeepCutAuto
namespace Go.Proofs.Ytogfdhfmamabiaa
open Go.RowKit
open Words

/-- What the draw answers: some pages, not too many, in a row of their own. -/
def FoundD (w : World) (p : Nat) (ad : Option Addr) (len cap : Nat) (e : Ending) (w' : World) : Prop := ∃ (g c : Nat) (zs : List Fnd), e = .returned (.slice (some ⟨g, 0, none⟩) zs.length c) ∧ zs.length ≤ 95 ∧ (∀ x ∈ zs, x.page.text.size ≤ 90) ∧ FdSt w w' p ad len cap (.slice (some ⟨g, 0, none⟩) zs.length c) zs

set_option maxHeartbeats 8000000 in
set_option maxRecDepth 100000 in
theorem dfound (p : Nat) (ad : Option Addr) (len cap B : Nat) (w : World) (hl : len ≤ 1048576) (hc : CurIn w p ad len cap) (hd : CodeIn w ad len B) (hB : B ≤ p) :
    Calls Try.prog 21 #[.pointer (some ⟨p, 0, none⟩)] w (FoundD w p ad len cap) := by
  obtain ⟨i0, hi0, hz0, hz1, hz2⟩ := info_parts infoFound
  have I0 := hide hi0
  have Y0 := hide hz0
  have Y1 := hide hz1
  have Y2 := hide hz2
  clear hi0 hz0 hz1 hz2
  obtain ⟨j0, hi0, hz0, hz1, hz2⟩ := info_parts infoRc
  have J0 := hide hi0
  have X0 := hide hz0
  have X1 := hide hz1
  have X2 := hide hz2
  clear hi0 hz0 hz1 hz2
  have hpw := hc.2.2.2.2.2
  have HD := hide hd
  have S0 : Hid (FdSt w (w.alloc (.cells #[] 42)) p ad len cap (.slice (some ⟨w.heap.size, 0, none⟩) ([] : List Fnd).length 0) []) :=
    ⟨(Drawn.refl hc).below ((Below.refl _ _).alloc (Nat.le_refl _) _) hpw, rfl, .inr ⟨w.heap.size, 0, #[], rfl, Nat.le_refl _, heap_alloc_new w _, Nat.le_refl _, by unfold maxLen; omega, rfl, rfl⟩⟩
  clear hc hd
  go_enter Try.func21, Try.ntmps21
  go_wp2
  generalize w.alloc (.cells #[] 42) = wa at S0 ⊢
  go_loopw [3, 4, 5] (fun ov sv tv W => ∃ (t s og oc : Nat) (zs : List Fnd), 1 ≤ t ∧ t ≤ 5 ∧ tv = .int .i64 t ∧ sv = .int .i64 s ∧ ov = .slice (some ⟨og, 0, none⟩) zs.length oc ∧ s ≤ 9 * t ∧ zs.length + 19 ≤ 19 * t ∧ Hid (∀ x ∈ zs, x.page.text.size ≤ 90) ∧ Hid (FdSt w W p ad len cap (.slice (some ⟨og, 0, none⟩) zs.length oc) zs)) (fun _ _ tv _ => 6 - (intOf tv).toNat)
  case atStart => exact ⟨1, 1, _, _, [], Nat.le_refl _, by omega, rfl, rfl, rfl, by omega, by simp, (fun x hx => by cases hx), S0⟩
  case round =>
    obtain ⟨t, s, og, oc, zs, ht1, ht5, rfl, rfl, rfl, hs9, hz9, HT, F⟩ := hrel
    clear S0
    go_wp2_with fail
    refine (below_any 5 p ad len cap B _ (by omega) hl F.out.1.2 (F.out.1.code HD.out hB hpw) hB).mono ?_
    rintro e x1 ⟨y, rfl, y0, y1, -, d1⟩
    have y2 := y1 (by omega)
    have F1 := hide (F.out.drawn d1 hpw)
    clear d1 F y1
    by_cases hlt : (t : Int) ≤ y
    · go_wp2_with fail
      refine (drecs p ad len cap B _ hl F1.out.1.2 (F1.out.1.code HD.out hB hpw) hB).mono ?_
      rintro e x2 ⟨rg, rc, l, rfl, h8, hr, ho, d2⟩
      have FR2 : Hid (FR w x2 p ad len cap (.slice (some ⟨og, 0, none⟩) zs.length oc) zs (.slice (some ⟨rg, 0, none⟩) l.length rc) l) := ⟨F1.out.drawn d2 hpw, own_lower ho F1.out.1.1.size⟩
      clear ho d2 hr F1
      go_wp2_with fail
      refine (once_any 4 p ad len cap B _ (by omega) hl FR2.out.1.1.2 (FR2.out.1.1.code HD.out hB hpw) hB).mono ?_
      rintro e x3 ⟨o3, rfl, d3⟩
      have FR3 := hide (FR2.out.drawn d3 hpw)
      clear d3 FR2
      cases o3 with
      | false =>
        have FRl := FR3
        have h9 : l.length ≤ 9 := by omega
        clear FR3 h8
        go_wp2_with fail
        refine (once_any 3 p ad len cap B _ (by omega) hl FRl.out.1.1.2 (FRl.out.1.1.code HD.out hB hpw) hB).mono ?_
        rintro e x6 ⟨o6, rfl, d6⟩
        have FRr := hide (FRl.out.drawn d6 hpw)
        clear d6 FRl
        cases o6 with
        | false =>
          go_wp2_with fail
          refine (FRr.out.pages hpw (by omega) (s : Int) (t : Int)).mono ?_
          rintro e xp ⟨pa, pc, n, M, ok, rfl, hn9, hMn, hM9, fp⟩
          have FP0 := hide fp
          have HMn := hide hMn
          have HM9 := hide hM9
          clear fp hMn hM9 FRr
          go_wp2
          go_loopw [3, 4, 9] (fun ov sv iv W => ∃ (i s og oc : Nat) (zs : List Fnd), i ≤ n ∧ iv = .int .i64 i ∧ sv = .int .i64 s ∧ ov = .slice (some ⟨og, 0, none⟩) zs.length oc ∧ s ≤ 9 * t + i ∧ zs.length + 19 ≤ 19 * t + 2 * i ∧ Hid (∀ x ∈ zs, x.page.text.size ≤ 90) ∧ Hid (FP w W p ad len cap (.slice (some ⟨og, 0, none⟩) zs.length oc) zs (.slice pa n pc) n M)) (fun _ _ iv _ => n - (intOf iv).toNat)
          case atStart => exact ⟨0, s, og, oc, zs, Nat.zero_le _, rfl, rfl, rfl, by omega, by omega, HT, FP0⟩
          case round =>
            obtain ⟨i, s, og, oc, zs, hi, rfl, rfl, rfl, hs9, hz9, HT, F3⟩ := hrel
            clear FP0
            by_cases hlt3 : (i : Int) < n
            · obtain ⟨gp, hpa⟩ : ∃ g, pa = some ⟨g, 0, none⟩ := by
                obtain ⟨y1, y2, e, h⟩ := F3.out.2.form
                injection e with e1 e2 e3
                obtain ⟨g, a1, -, -⟩ := h (by omega)
                exact ⟨g, by rw [e1, a1]⟩
              subst hpa
              obtain ⟨⟨t0, t1, t2, t3, t4, t5⟩, hx⟩ : ∃ x, M[i]? = some x := ⟨_, List.getElem?_eq_getElem (by have := HMn.out; omega)⟩
              obtain ⟨ht90, hc0, hc9⟩ := HM9.out _ (List.mem_of_getElem? hx)
              simp only at ht90 hc0 hc9
              have PC : Hid (∀ (W : World) {ov : Value} {zs : List Fnd}, FP w W p ad len cap ov zs (.slice (some ⟨gp, 0, none⟩) n pc) n M → W.cell? ⟨gp, i * 6, none⟩ = some (.int .i64 t0) ∧ W.cell? ⟨gp, i * 6 + 1, none⟩ = some (.int .i64 t1) ∧ W.cell? ⟨gp, i * 6 + 2, none⟩ = some (.int .i64 t2) ∧ W.cell? ⟨gp, i * 6 + 3, none⟩ = some (.int .i64 t3) ∧ W.cell? ⟨gp, i * 6 + 4, none⟩ = some (.int .i64 t4) ∧ W.cell? ⟨gp, i * 6 + 5, none⟩ = some (.string t5)) := by
                intro W ov zs hF
                have hc := fun j v hj => hF.2.flt.cell (pgcells_at M i _ hx j v hj)
                exact ⟨hc 0 _ rfl, hc 1 _ rfl, hc 2 _ rfl, hc 3 _ rfl, hc 4 _ rfl, hc 5 _ rfl⟩
              obtain ⟨s4, hs4⟩ : ∃ k, s / 4 = k := ⟨_, rfl⟩
              obtain ⟨r4, hr4⟩ : ∃ k, s % 4 = k := ⟨_, rfl⟩
              have ed : (s : Int).tdiv 4 = (s4 : Int) := by rw [← hs4]; rfl
              have er : (s : Int).tmod 4 = (r4 : Int) := by rw [← hr4]; rfl
              have ed2 : (s : Int) / 4 = (s4 : Int) := by omega
              have er2 : (s : Int) % 4 = (r4 : Int) := by omega
              have b4 : s4 ≤ s := by omega
              have i0' : (0 : Int) ≤ i := by omega
              clear hx hs4 hr4
              go_wp2_with fail
              refine (once_any 8 p ad len cap B _ (by omega) hl F3.out.1.1.2 (F3.out.1.1.code HD.out hB hpw) hB).mono ?_
              rintro e x8 ⟨o8, rfl, d8⟩
              have F8 := hide (F3.out.drawn d8 hpw)
              clear d8 F3
              cases o8 with
              | true =>
                have FA := F8
                have HTA := HT
                clear F8 HT
                have hl3 : zs.length ≤ zs.length + 1 := by omega
                go_wp2_with fail
                refine (once_any 16 p ad len cap B _ (by omega) hl FA.out.1.1.2 (FA.out.1.1.code HD.out hB hpw) hB).mono ?_
                rintro e x9 ⟨o9, rfl, d9⟩
                have F9 := hide (FA.out.drawn d9 hpw)
                clear d9 FA
                cases o9 with
                | true =>
                  obtain ⟨c0, c1, c2, c3, c4, c5⟩ := PC.out x9 F9.out
                  have wc : IntKind.i64.wrap (t4 + 1) = t4 + 1 := by rw [IntKind.wrap_i64]; omega
                  have BX : Hid (Below x9.heap.size x9 (x9.alloc (.cells #[.int .i64 t0, .int .i64 t1, .int .i64 t2, .int .i64 t3, .int .i64 (t4 + 1), .string t5] 40))) := (Below.refl _ _).alloc (Nat.le_refl _) _
                  have FX := hide (F9.out.below BX.out hpw)
                  have PX := hide (heap_alloc_new x9 (.cells #[.int .i64 t0, .int .i64 t1, .int .i64 t2, .int .i64 t3, .int .i64 (t4 + 1), .string t5] 40))
                  obtain ⟨xb, hxb⟩ : ∃ xb, x9.heap.size = xb := ⟨_, rfl⟩
                  rw [hxb] at PX
                  have HT := HTA
                  clear HTA BX F9
                  go_upto_region 21 with fail
                  try rw [hxb]
                  generalize x9.alloc (.cells #[.int .i64 t0, .int .i64 t1, .int .i64 t2, .int .i64 t3, .int .i64 (t4 + 1), .string t5] 40) = x10 at FX PX ⊢
                  have e0 := cell_of_row _ _ 0 _ _ _ PX.out
                  have e1 := cell_of_row _ _ 1 _ _ _ PX.out
                  have e2 := cell_of_row _ _ 2 _ _ _ PX.out
                  have e3 := cell_of_row _ _ 3 _ _ _ PX.out
                  have e4 := cell_of_row _ _ 4 _ _ _ PX.out
                  have e5 := cell_of_row _ _ 5 _ _ _ PX.out
                  clear c0 c1 c2 c3 c4 c5 hxb wc
                  have BN : Hid (Below x10.heap.size x10 (x10.alloc (.cells #[.int .i64 0, .int .i64 0, .int .i64 t0, .int .i64 t1, .int .i64 t2, .int .i64 t3, .int .i64 (t4 + 1), .string t5] 42))) := (Below.refl _ _).alloc (Nat.le_refl _) _
                  have SN := hide (FX.out.below BN.out hpw)
                  have OW := hide SN.out.1.2
                  have H1 := hide (fd_new x10 (⟨0, 0, ⟨t0, t1, t2, t3, t4 + 1, t5⟩⟩ : Fnd) x10.heap.size rfl)
                  have H2 := hide (fd_one (⟨0, 0, ⟨t0, t1, t2, t3, t4 + 1, t5⟩⟩ : Fnd))
                  simp only [fdCells] at H1 H2
                  have HSZ := hide SN.out.1.1.1.size
                  have HZ1 := hide ht90
                  go_wp2_with (at_builtin; refine wpList_append_own _ rfl _ _ 24 rfl w.heap.size 42 i0 (.agg #[.int .i64 0, .int .i64 0, .int .i64 0, .int .i64 0, .int .i64 0, .int .i64 0, .int .i64 0, .string ⟨#[]⟩]) 8 72 Try.underlying24 I0.out Y0.out Y1.out Y2.out rfl (by decide) _ _ _ rfl OW.out ⟨x10.heap.size, 0, none⟩ 1 1 [.int .i64 0, .int .i64 0, .int .i64 t0, .int .i64 t1, .int .i64 t2, .int .i64 t3, .int .i64 (t4 + 1), .string t5] rfl rfl H1.out H2.out ?c1 ?c2 HSZ.out ?_)
                  case c1 => unfold maxLen; omega
                  case c2 => omega
                  intro u' z ho hg2 _
                  have ho2 : z.ownsRow w.heap.size 42 8 u' (zs ++ [(⟨0, 0, ⟨t0, t1, t2, t3, t4 + 1, t5⟩⟩ : Fnd)]).length (fcells (zs ++ [(⟨0, 0, ⟨t0, t1, t2, t3, t4 + 1, t5⟩⟩ : Fnd)])) := by
                    rw [← fcells_snoc, List.length_append]
                    exact ho
                  have SZ := hide (SN.out.out hpw hg2 ho2)
                  have hl3 : (zs ++ [(⟨0, 0, ⟨t0, t1, t2, t3, t4 + 1, t5⟩⟩ : Fnd)]).length ≤ zs.length + 1 := by simp
                  have hl0 : 0 < (zs ++ [(⟨0, 0, ⟨t0, t1, t2, t3, t4 + 1, t5⟩⟩ : Fnd)]).length := by simp
                  have HT3 : Hid (∀ x ∈ zs ++ [(⟨0, 0, ⟨t0, t1, t2, t3, t4 + 1, t5⟩⟩ : Fnd)], x.page.text.size ≤ 90) := by
                    intro x hx
                    rcases List.mem_append.1 hx with h | h
                    · exact HT.out x h
                    · simp only [List.mem_singleton] at h; subst h; exact HZ1.out
                  generalize zs ++ [(⟨0, 0, ⟨t0, t1, t2, t3, t4 + 1, t5⟩⟩ : Fnd)] = zs2 at SZ HT3 hl3 hl0
                  rcases id SZ.out.1.2.2 with ⟨-, h0⟩ | ⟨og', oc', cur, rfl, -⟩
                  · omega
                  clear ho ho2 hg2 OW H1 H2 HSZ BN SN HZ1
                  clear e0 e1 e2 e3 e4 e5 FX PX
                  go_wp2
                  go_roundw
                  case rel => exact ⟨i + 1, s + 1, og', oc', zs2, by omega, by go_num, by go_num, rfl, by omega, by omega, HT3, SZ⟩
                  case measure => simp [intOf]; omega
                | false =>
                  go_wp2
                  go_roundw
                  case rel => exact ⟨i + 1, s + 1, og, oc, zs, by omega, by go_num, by go_num, rfl, by omega, by omega, HTA, F9⟩
                  case measure => simp [intOf]; omega
              | false =>
                obtain ⟨c0, c1, c2, c3, c4, c5⟩ := PC.out x8 F8.out
                have BN : Hid (Below x8.heap.size x8 (x8.alloc (.cells #[.int .i64 (s4 : Int), .int .i64 (r4 : Int), .int .i64 t0, .int .i64 t1, .int .i64 t2, .int .i64 t3, .int .i64 t4, .string t5] 42))) := (Below.refl _ _).alloc (Nat.le_refl _) _
                have SN := hide (F8.out.below BN.out hpw)
                have OW := hide SN.out.1.2
                have H1 := hide (fd_new x8 (⟨(s4 : Int), (r4 : Int), ⟨t0, t1, t2, t3, t4, t5⟩⟩ : Fnd) x8.heap.size rfl)
                have H2 := hide (fd_one (⟨(s4 : Int), (r4 : Int), ⟨t0, t1, t2, t3, t4, t5⟩⟩ : Fnd))
                simp only [fdCells] at H1 H2
                have HSZ := hide SN.out.1.1.1.size
                have HZ1 := hide ht90
                go_wp2_with (at_builtin; refine wpList_append_own _ rfl _ _ 24 rfl w.heap.size 42 i0 (.agg #[.int .i64 0, .int .i64 0, .int .i64 0, .int .i64 0, .int .i64 0, .int .i64 0, .int .i64 0, .string ⟨#[]⟩]) 8 72 Try.underlying24 I0.out Y0.out Y1.out Y2.out rfl (by decide) _ _ _ rfl OW.out ⟨x8.heap.size, 0, none⟩ 1 1 [.int .i64 (s4 : Int), .int .i64 (r4 : Int), .int .i64 t0, .int .i64 t1, .int .i64 t2, .int .i64 t3, .int .i64 t4, .string t5] rfl rfl H1.out H2.out ?c1 ?c2 HSZ.out ?_)
                case c1 => unfold maxLen; omega
                case c2 => omega
                intro u' z ho hg2 _
                have ho2 : z.ownsRow w.heap.size 42 8 u' (zs ++ [(⟨(s4 : Int), (r4 : Int), ⟨t0, t1, t2, t3, t4, t5⟩⟩ : Fnd)]).length (fcells (zs ++ [(⟨(s4 : Int), (r4 : Int), ⟨t0, t1, t2, t3, t4, t5⟩⟩ : Fnd)])) := by
                  rw [← fcells_snoc, List.length_append]
                  exact ho
                have SZ := hide (SN.out.out hpw hg2 ho2)
                have hl3 : (zs ++ [(⟨(s4 : Int), (r4 : Int), ⟨t0, t1, t2, t3, t4, t5⟩⟩ : Fnd)]).length ≤ zs.length + 1 := by simp
                have hl0 : 0 < (zs ++ [(⟨(s4 : Int), (r4 : Int), ⟨t0, t1, t2, t3, t4, t5⟩⟩ : Fnd)]).length := by simp
                have HT3 : Hid (∀ x ∈ zs ++ [(⟨(s4 : Int), (r4 : Int), ⟨t0, t1, t2, t3, t4, t5⟩⟩ : Fnd)], x.page.text.size ≤ 90) := by
                  intro x hx
                  rcases List.mem_append.1 hx with h | h
                  · exact HT.out x h
                  · simp only [List.mem_singleton] at h; subst h; exact HZ1.out
                generalize zs ++ [(⟨(s4 : Int), (r4 : Int), ⟨t0, t1, t2, t3, t4, t5⟩⟩ : Fnd)] = zs2 at SZ HT3 hl3 hl0
                rcases id SZ.out.1.2.2 with ⟨-, h0⟩ | ⟨og', oc', cur, rfl, -⟩
                · omega
                clear ho ho2 hg2 OW H1 H2 HSZ BN SN HZ1
                clear c0 c1 c2 c3 c4 c5 F8 HT
                have FA := SZ
                clear SZ
                have HTA := HT3
                clear HT3
                go_wp2_with fail
                refine (once_any 16 p ad len cap B _ (by omega) hl FA.out.1.1.2 (FA.out.1.1.code HD.out hB hpw) hB).mono ?_
                rintro e x9 ⟨o9, rfl, d9⟩
                have F9 := hide (FA.out.drawn d9 hpw)
                clear d9 FA
                cases o9 with
                | true =>
                  obtain ⟨c0, c1, c2, c3, c4, c5⟩ := PC.out x9 F9.out
                  have wc : IntKind.i64.wrap (t4 + 1) = t4 + 1 := by rw [IntKind.wrap_i64]; omega
                  have BX : Hid (Below x9.heap.size x9 (x9.alloc (.cells #[.int .i64 t0, .int .i64 t1, .int .i64 t2, .int .i64 t3, .int .i64 (t4 + 1), .string t5] 40))) := (Below.refl _ _).alloc (Nat.le_refl _) _
                  have FX := hide (F9.out.below BX.out hpw)
                  have PX := hide (heap_alloc_new x9 (.cells #[.int .i64 t0, .int .i64 t1, .int .i64 t2, .int .i64 t3, .int .i64 (t4 + 1), .string t5] 40))
                  obtain ⟨xb, hxb⟩ : ∃ xb, x9.heap.size = xb := ⟨_, rfl⟩
                  rw [hxb] at PX
                  have HT := HTA
                  clear HTA BX F9
                  go_upto_region 21 with fail
                  try rw [hxb]
                  generalize x9.alloc (.cells #[.int .i64 t0, .int .i64 t1, .int .i64 t2, .int .i64 t3, .int .i64 (t4 + 1), .string t5] 40) = x10 at FX PX ⊢
                  have e0 := cell_of_row _ _ 0 _ _ _ PX.out
                  have e1 := cell_of_row _ _ 1 _ _ _ PX.out
                  have e2 := cell_of_row _ _ 2 _ _ _ PX.out
                  have e3 := cell_of_row _ _ 3 _ _ _ PX.out
                  have e4 := cell_of_row _ _ 4 _ _ _ PX.out
                  have e5 := cell_of_row _ _ 5 _ _ _ PX.out
                  clear c0 c1 c2 c3 c4 c5 hxb wc
                  have hl4 := hl3
                  clear hl3
                  generalize hzz : zs2 = zs1 at FX HT hl4 hl0
                  clear hzz
                  have BN : Hid (Below x10.heap.size x10 (x10.alloc (.cells #[.int .i64 0, .int .i64 0, .int .i64 t0, .int .i64 t1, .int .i64 t2, .int .i64 t3, .int .i64 (t4 + 1), .string t5] 42))) := (Below.refl _ _).alloc (Nat.le_refl _) _
                  have SN := hide (FX.out.below BN.out hpw)
                  have OW := hide SN.out.1.2
                  have H1 := hide (fd_new x10 (⟨0, 0, ⟨t0, t1, t2, t3, t4 + 1, t5⟩⟩ : Fnd) x10.heap.size rfl)
                  have H2 := hide (fd_one (⟨0, 0, ⟨t0, t1, t2, t3, t4 + 1, t5⟩⟩ : Fnd))
                  simp only [fdCells] at H1 H2
                  have HSZ := hide SN.out.1.1.1.size
                  have HZ1 := hide ht90
                  go_wp2_with (at_builtin; refine wpList_append_own _ rfl _ _ 24 rfl w.heap.size 42 i0 (.agg #[.int .i64 0, .int .i64 0, .int .i64 0, .int .i64 0, .int .i64 0, .int .i64 0, .int .i64 0, .string ⟨#[]⟩]) 8 72 Try.underlying24 I0.out Y0.out Y1.out Y2.out rfl (by decide) _ _ _ rfl OW.out ⟨x10.heap.size, 0, none⟩ 1 1 [.int .i64 0, .int .i64 0, .int .i64 t0, .int .i64 t1, .int .i64 t2, .int .i64 t3, .int .i64 (t4 + 1), .string t5] rfl rfl H1.out H2.out ?c1 ?c2 HSZ.out ?_)
                  case c1 => unfold maxLen; omega
                  case c2 => omega
                  intro u' z ho hg2 _
                  have ho2 : z.ownsRow w.heap.size 42 8 u' (zs1 ++ [(⟨0, 0, ⟨t0, t1, t2, t3, t4 + 1, t5⟩⟩ : Fnd)]).length (fcells (zs1 ++ [(⟨0, 0, ⟨t0, t1, t2, t3, t4 + 1, t5⟩⟩ : Fnd)])) := by
                    rw [← fcells_snoc, List.length_append]
                    exact ho
                  have SZ := hide (SN.out.out hpw hg2 ho2)
                  have hl3 : (zs1 ++ [(⟨0, 0, ⟨t0, t1, t2, t3, t4 + 1, t5⟩⟩ : Fnd)]).length ≤ zs1.length + 1 := by simp
                  have hl0 : 0 < (zs1 ++ [(⟨0, 0, ⟨t0, t1, t2, t3, t4 + 1, t5⟩⟩ : Fnd)]).length := by simp
                  have HT3 : Hid (∀ x ∈ zs1 ++ [(⟨0, 0, ⟨t0, t1, t2, t3, t4 + 1, t5⟩⟩ : Fnd)], x.page.text.size ≤ 90) := by
                    intro x hx
                    rcases List.mem_append.1 hx with h | h
                    · exact HT.out x h
                    · simp only [List.mem_singleton] at h; subst h; exact HZ1.out
                  generalize zs1 ++ [(⟨0, 0, ⟨t0, t1, t2, t3, t4 + 1, t5⟩⟩ : Fnd)] = zs3 at SZ HT3 hl3 hl0
                  rcases id SZ.out.1.2.2 with ⟨-, h0⟩ | ⟨og'', oc'', cur, rfl, -⟩
                  · omega
                  clear ho ho2 hg2 OW H1 H2 HSZ BN SN HZ1
                  clear e0 e1 e2 e3 e4 e5 FX PX
                  go_wp2
                  go_roundw
                  case rel => exact ⟨i + 1, s + 1, og'', oc'', zs3, by omega, by go_num, by go_num, rfl, by omega, by omega, HT3, SZ⟩
                  case measure => simp [intOf]; omega
                | false =>
                  go_wp2
                  go_roundw
                  case rel => exact ⟨i + 1, s + 1, og', oc', zs2, by omega, by go_num, by go_num, rfl, by omega, by omega, HTA, F9⟩
                  case measure => simp [intOf]; omega
            · have F4 := hide F3.out.1
              clear F3
              go_wp2_with fail
              refine (once_any 4 p ad len cap B _ (by omega) hl F4.out.1.2 (F4.out.1.code HD.out hB hpw) hB).mono ?_
              rintro e x7 ⟨o7, rfl, d7⟩
              have F7 := hide (F4.out.drawn d7 hpw)
              clear d7 F4
              cases o7 with
              | true =>
                have h1x : (⟨#[120]⟩ : ByteArray).size ≤ 90 := by decide
                have BN : Hid (Below x7.heap.size x7 (x7.alloc (.cells #[.int .i64 0, .int .i64 0, .int .i64 1, .int .i64 (s : Int), .int .i64 (t : Int), .int .i64 0, .int .i64 1, .string ⟨#[120]⟩] 42))) := (Below.refl _ _).alloc (Nat.le_refl _) _
                have SN := hide (F7.out.below BN.out hpw)
                have OW := hide SN.out.2
                have H1 := hide (fd_new x7 (⟨0, 0, ⟨1, (s : Int), (t : Int), 0, 1, ⟨#[120]⟩⟩⟩ : Fnd) x7.heap.size rfl)
                have H2 := hide (fd_one (⟨0, 0, ⟨1, (s : Int), (t : Int), 0, 1, ⟨#[120]⟩⟩⟩ : Fnd))
                simp only [fdCells] at H1 H2
                have HSZ := hide SN.out.1.1.size
                have HZ1 := hide h1x
                go_wp2_with (at_builtin; refine wpList_append_own _ rfl _ _ 24 rfl w.heap.size 42 i0 (.agg #[.int .i64 0, .int .i64 0, .int .i64 0, .int .i64 0, .int .i64 0, .int .i64 0, .int .i64 0, .string ⟨#[]⟩]) 8 72 Try.underlying24 I0.out Y0.out Y1.out Y2.out rfl (by decide) _ _ _ rfl OW.out ⟨x7.heap.size, 0, none⟩ 1 1 [.int .i64 0, .int .i64 0, .int .i64 1, .int .i64 (s : Int), .int .i64 (t : Int), .int .i64 0, .int .i64 1, .string ⟨#[120]⟩] rfl rfl H1.out H2.out ?c1 ?c2 HSZ.out ?_)
                case c1 => unfold maxLen; omega
                case c2 => omega
                intro u' z ho hg2 _
                have ho2 : z.ownsRow w.heap.size 42 8 u' (zs ++ [(⟨0, 0, ⟨1, (s : Int), (t : Int), 0, 1, ⟨#[120]⟩⟩⟩ : Fnd)]).length (fcells (zs ++ [(⟨0, 0, ⟨1, (s : Int), (t : Int), 0, 1, ⟨#[120]⟩⟩⟩ : Fnd)])) := by
                  rw [← fcells_snoc, List.length_append]
                  exact ho
                have SZ := hide (SN.out.out hpw hg2 ho2)
                have hl3 : (zs ++ [(⟨0, 0, ⟨1, (s : Int), (t : Int), 0, 1, ⟨#[120]⟩⟩⟩ : Fnd)]).length ≤ zs.length + 1 := by simp
                have hl0 : 0 < (zs ++ [(⟨0, 0, ⟨1, (s : Int), (t : Int), 0, 1, ⟨#[120]⟩⟩⟩ : Fnd)]).length := by simp
                have HT3 : Hid (∀ x ∈ zs ++ [(⟨0, 0, ⟨1, (s : Int), (t : Int), 0, 1, ⟨#[120]⟩⟩⟩ : Fnd)], x.page.text.size ≤ 90) := by
                  intro x hx
                  rcases List.mem_append.1 hx with h | h
                  · exact HT.out x h
                  · simp only [List.mem_singleton] at h; subst h; exact HZ1.out
                generalize zs ++ [(⟨0, 0, ⟨1, (s : Int), (t : Int), 0, 1, ⟨#[120]⟩⟩⟩ : Fnd)] = zs2 at SZ HT3 hl3 hl0
                rcases id SZ.out.2.2 with ⟨-, h0⟩ | ⟨og', oc', cur, rfl, -⟩
                · omega
                clear ho ho2 hg2 OW H1 H2 HSZ BN SN HZ1
                clear F7
                go_wp2
                go_roundw
                case rel => exact ⟨t + 1, s, og', oc', zs2, by omega, by omega, by go_num, rfl, rfl, by omega, by omega, HT3, SZ⟩
                case measure => simp [intOf]; omega
              | false =>
                go_wp2
                go_roundw
                case rel => exact ⟨t + 1, s, og, oc, zs, by omega, by omega, by go_num, rfl, rfl, by omega, by omega, HT, F7⟩
                case measure => simp [intOf]; omega
        | true =>
          go_wp2
          go_loopw [6] (fun uv W => ∃ (rg rc : Nat) (l : List Rc), l.length ≤ 60 ∧ uv = .slice (some ⟨rg, 0, none⟩) l.length rc ∧ Hid (FR w W p ad len cap (.slice (some ⟨og, 0, none⟩) zs.length oc) zs (.slice (some ⟨rg, 0, none⟩) l.length rc) l)) (fun uv _ => 60 - rcLen uv)
          case atStart => exact ⟨rg, rc, l, by omega, rfl, FRr⟩
          case round =>
            obtain ⟨rg, rc, l, h60, rfl, FRq⟩ := hrel
            clear FRr
            by_cases hlt6 : (l.length : Int) < 60
            · obtain ⟨m, hm⟩ : ∃ m, l.length = m := ⟨_, rfl⟩
              obtain ⟨r, hr⟩ : ∃ r : Rc, r = ⟨4, 1, 3, 200 + (m : Int)⟩ := ⟨_, rfl⟩
              have BR : Hid (Below wr.heap.size wr (wr.alloc (.cells #[.int .i64 4, .int .i64 1, .int .i64 3, .int .i64 (200 + (m : Int))] 34))) := (Below.refl _ _).alloc (Nat.le_refl _) _
              have FB := hide (FRq.out.below BR.out hpw)
              have OW := hide FB.out.2
              have HNw := hide (rc_new wr r wr.heap.size rfl)
              have HO := hide (rc_one r)
              have HSZ := hide FB.out.1.1.1.size
              have HSn := hide (rc_snoc l r)
              rw [hr] at HNw HO
              simp only at HNw HO
              have HRE := hide hr
              have HML := hide hm
              rw [hm] at OW hlt6 ⊢
              clear hr hm FRq BR
              go_wp2_with (at_builtin; refine wpList_append_own _ rfl _ _ 29 rfl w.heap.size 34 j0 (.agg #[.int .i64 0, .int .i64 0, .int .i64 0, .int .i64 0]) 4 32 Try.underlying29 J0.out X0.out X1.out X2.out rfl (by decide) _ m (rccells (l.map Rc.tu)) rfl OW.out ⟨wr.heap.size, 0, none⟩ 1 1 [Value.int .i64 4, Value.int .i64 1, Value.int .i64 3, Value.int .i64 (200 + (m : Int))] rfl rfl HNw.out HO.out ?m1 ?m2 HSZ.out ?_)
              case m1 => unfold maxLen; omega
              case m2 => omega
              intro u' z ho hg2 _
              have es := HSn.out
              rw [HRE.out] at es
              simp only at es
              have hll : (l ++ [r]).length = m + 1 := by simp [HML.out]
              rw [es, ← HRE.out, ← hll] at ho
              have FN := hide (FB.out.1.recs hpw FB.out.2 hg2 ho)
              generalize l ++ [r] = l' at FN hll ho
              rcases id ho.2 with ⟨-, h0⟩ | ⟨rg', rc', cur, rfl, -⟩
              · omega
              clear ho hg2 OW HNw HO HSZ HSn HRE es FB
              go_wp2
              go_roundw
              case rel => exact ⟨rg', rc', l', by omega, rfl, FN⟩
              case measure => have := HML.out; simp [rcLen]; omega
            · have FRr := FRq
              clear FRq
              go_wp2_with fail
              refine (FRr.out.pages hpw (by omega) (s : Int) (t : Int)).mono ?_
              rintro e xp ⟨pa, pc, n, M, ok, rfl, hn9, hMn, hM9, fp⟩
              have FP0 := hide fp
              have HMn := hide hMn
              have HM9 := hide hM9
              clear fp hMn hM9 FRr
              go_wp2
              go_loopw [3, 4, 9] (fun ov sv iv W => ∃ (i s og oc : Nat) (zs : List Fnd), i ≤ n ∧ iv = .int .i64 i ∧ sv = .int .i64 s ∧ ov = .slice (some ⟨og, 0, none⟩) zs.length oc ∧ s ≤ 9 * t + i ∧ zs.length + 19 ≤ 19 * t + 2 * i ∧ Hid (∀ x ∈ zs, x.page.text.size ≤ 90) ∧ Hid (FP w W p ad len cap (.slice (some ⟨og, 0, none⟩) zs.length oc) zs (.slice pa n pc) n M)) (fun _ _ iv _ => n - (intOf iv).toNat)
              case atStart => exact ⟨0, s, og, oc, zs, Nat.zero_le _, rfl, rfl, rfl, by omega, by omega, HT, FP0⟩
              case round =>
                obtain ⟨i, s, og, oc, zs, hi, rfl, rfl, rfl, hs9, hz9, HT, F3⟩ := hrel
                clear FP0
                by_cases hlt3 : (i : Int) < n
                · obtain ⟨gp, hpa⟩ : ∃ g, pa = some ⟨g, 0, none⟩ := by
                    obtain ⟨y1, y2, e, h⟩ := F3.out.2.form
                    injection e with e1 e2 e3
                    obtain ⟨g, a1, -, -⟩ := h (by omega)
                    exact ⟨g, by rw [e1, a1]⟩
                  subst hpa
                  obtain ⟨⟨t0, t1, t2, t3, t4, t5⟩, hx⟩ : ∃ x, M[i]? = some x := ⟨_, List.getElem?_eq_getElem (by have := HMn.out; omega)⟩
                  obtain ⟨ht90, hc0, hc9⟩ := HM9.out _ (List.mem_of_getElem? hx)
                  simp only at ht90 hc0 hc9
                  have PC : Hid (∀ (W : World) {ov : Value} {zs : List Fnd}, FP w W p ad len cap ov zs (.slice (some ⟨gp, 0, none⟩) n pc) n M → W.cell? ⟨gp, i * 6, none⟩ = some (.int .i64 t0) ∧ W.cell? ⟨gp, i * 6 + 1, none⟩ = some (.int .i64 t1) ∧ W.cell? ⟨gp, i * 6 + 2, none⟩ = some (.int .i64 t2) ∧ W.cell? ⟨gp, i * 6 + 3, none⟩ = some (.int .i64 t3) ∧ W.cell? ⟨gp, i * 6 + 4, none⟩ = some (.int .i64 t4) ∧ W.cell? ⟨gp, i * 6 + 5, none⟩ = some (.string t5)) := by
                    intro W ov zs hF
                    have hc := fun j v hj => hF.2.flt.cell (pgcells_at M i _ hx j v hj)
                    exact ⟨hc 0 _ rfl, hc 1 _ rfl, hc 2 _ rfl, hc 3 _ rfl, hc 4 _ rfl, hc 5 _ rfl⟩
                  obtain ⟨s4, hs4⟩ : ∃ k, s / 4 = k := ⟨_, rfl⟩
                  obtain ⟨r4, hr4⟩ : ∃ k, s % 4 = k := ⟨_, rfl⟩
                  have ed : (s : Int).tdiv 4 = (s4 : Int) := by rw [← hs4]; rfl
                  have er : (s : Int).tmod 4 = (r4 : Int) := by rw [← hr4]; rfl
                  have ed2 : (s : Int) / 4 = (s4 : Int) := by omega
                  have er2 : (s : Int) % 4 = (r4 : Int) := by omega
                  have b4 : s4 ≤ s := by omega
                  have i0' : (0 : Int) ≤ i := by omega
                  clear hx hs4 hr4
                  go_wp2_with fail
                  refine (once_any 8 p ad len cap B _ (by omega) hl F3.out.1.1.2 (F3.out.1.1.code HD.out hB hpw) hB).mono ?_
                  rintro e x8 ⟨o8, rfl, d8⟩
                  have F8 := hide (F3.out.drawn d8 hpw)
                  clear d8 F3
                  cases o8 with
                  | true =>
                    have FA := F8
                    have HTA := HT
                    clear F8 HT
                    have hl3 : zs.length ≤ zs.length + 1 := by omega
                    go_wp2_with fail
                    refine (once_any 16 p ad len cap B _ (by omega) hl FA.out.1.1.2 (FA.out.1.1.code HD.out hB hpw) hB).mono ?_
                    rintro e x9 ⟨o9, rfl, d9⟩
                    have F9 := hide (FA.out.drawn d9 hpw)
                    clear d9 FA
                    cases o9 with
                    | true =>
                      obtain ⟨c0, c1, c2, c3, c4, c5⟩ := PC.out x9 F9.out
                      have wc : IntKind.i64.wrap (t4 + 1) = t4 + 1 := by rw [IntKind.wrap_i64]; omega
                      have BX : Hid (Below x9.heap.size x9 (x9.alloc (.cells #[.int .i64 t0, .int .i64 t1, .int .i64 t2, .int .i64 t3, .int .i64 (t4 + 1), .string t5] 40))) := (Below.refl _ _).alloc (Nat.le_refl _) _
                      have FX := hide (F9.out.below BX.out hpw)
                      have PX := hide (heap_alloc_new x9 (.cells #[.int .i64 t0, .int .i64 t1, .int .i64 t2, .int .i64 t3, .int .i64 (t4 + 1), .string t5] 40))
                      obtain ⟨xb, hxb⟩ : ∃ xb, x9.heap.size = xb := ⟨_, rfl⟩
                      rw [hxb] at PX
                      have HT := HTA
                      clear HTA BX F9
                      go_upto_region 21 with fail
                      try rw [hxb]
                      generalize x9.alloc (.cells #[.int .i64 t0, .int .i64 t1, .int .i64 t2, .int .i64 t3, .int .i64 (t4 + 1), .string t5] 40) = x10 at FX PX ⊢
                      have e0 := cell_of_row _ _ 0 _ _ _ PX.out
                      have e1 := cell_of_row _ _ 1 _ _ _ PX.out
                      have e2 := cell_of_row _ _ 2 _ _ _ PX.out
                      have e3 := cell_of_row _ _ 3 _ _ _ PX.out
                      have e4 := cell_of_row _ _ 4 _ _ _ PX.out
                      have e5 := cell_of_row _ _ 5 _ _ _ PX.out
                      clear c0 c1 c2 c3 c4 c5 hxb wc
                      have BN : Hid (Below x10.heap.size x10 (x10.alloc (.cells #[.int .i64 0, .int .i64 0, .int .i64 t0, .int .i64 t1, .int .i64 t2, .int .i64 t3, .int .i64 (t4 + 1), .string t5] 42))) := (Below.refl _ _).alloc (Nat.le_refl _) _
                      have SN := hide (FX.out.below BN.out hpw)
                      have OW := hide SN.out.1.2
                      have H1 := hide (fd_new x10 (⟨0, 0, ⟨t0, t1, t2, t3, t4 + 1, t5⟩⟩ : Fnd) x10.heap.size rfl)
                      have H2 := hide (fd_one (⟨0, 0, ⟨t0, t1, t2, t3, t4 + 1, t5⟩⟩ : Fnd))
                      simp only [fdCells] at H1 H2
                      have HSZ := hide SN.out.1.1.1.size
                      have HZ1 := hide ht90
                      go_wp2_with (at_builtin; refine wpList_append_own _ rfl _ _ 24 rfl w.heap.size 42 i0 (.agg #[.int .i64 0, .int .i64 0, .int .i64 0, .int .i64 0, .int .i64 0, .int .i64 0, .int .i64 0, .string ⟨#[]⟩]) 8 72 Try.underlying24 I0.out Y0.out Y1.out Y2.out rfl (by decide) _ _ _ rfl OW.out ⟨x10.heap.size, 0, none⟩ 1 1 [.int .i64 0, .int .i64 0, .int .i64 t0, .int .i64 t1, .int .i64 t2, .int .i64 t3, .int .i64 (t4 + 1), .string t5] rfl rfl H1.out H2.out ?c1 ?c2 HSZ.out ?_)
                      case c1 => unfold maxLen; omega
                      case c2 => omega
                      intro u' z ho hg2 _
                      have ho2 : z.ownsRow w.heap.size 42 8 u' (zs ++ [(⟨0, 0, ⟨t0, t1, t2, t3, t4 + 1, t5⟩⟩ : Fnd)]).length (fcells (zs ++ [(⟨0, 0, ⟨t0, t1, t2, t3, t4 + 1, t5⟩⟩ : Fnd)])) := by
                        rw [← fcells_snoc, List.length_append]
                        exact ho
                      have SZ := hide (SN.out.out hpw hg2 ho2)
                      have hl3 : (zs ++ [(⟨0, 0, ⟨t0, t1, t2, t3, t4 + 1, t5⟩⟩ : Fnd)]).length ≤ zs.length + 1 := by simp
                      have hl0 : 0 < (zs ++ [(⟨0, 0, ⟨t0, t1, t2, t3, t4 + 1, t5⟩⟩ : Fnd)]).length := by simp
                      have HT3 : Hid (∀ x ∈ zs ++ [(⟨0, 0, ⟨t0, t1, t2, t3, t4 + 1, t5⟩⟩ : Fnd)], x.page.text.size ≤ 90) := by
                        intro x hx
                        rcases List.mem_append.1 hx with h | h
                        · exact HT.out x h
                        · simp only [List.mem_singleton] at h; subst h; exact HZ1.out
                      generalize zs ++ [(⟨0, 0, ⟨t0, t1, t2, t3, t4 + 1, t5⟩⟩ : Fnd)] = zs2 at SZ HT3 hl3 hl0
                      rcases id SZ.out.1.2.2 with ⟨-, h0⟩ | ⟨og', oc', cur, rfl, -⟩
                      · omega
                      clear ho ho2 hg2 OW H1 H2 HSZ BN SN HZ1
                      clear e0 e1 e2 e3 e4 e5 FX PX
                      go_wp2
                      go_roundw
                      case rel => exact ⟨i + 1, s + 1, og', oc', zs2, by omega, by go_num, by go_num, rfl, by omega, by omega, HT3, SZ⟩
                      case measure => simp [intOf]; omega
                    | false =>
                      go_wp2
                      go_roundw
                      case rel => exact ⟨i + 1, s + 1, og, oc, zs, by omega, by go_num, by go_num, rfl, by omega, by omega, HTA, F9⟩
                      case measure => simp [intOf]; omega
                  | false =>
                    obtain ⟨c0, c1, c2, c3, c4, c5⟩ := PC.out x8 F8.out
                    have BN : Hid (Below x8.heap.size x8 (x8.alloc (.cells #[.int .i64 (s4 : Int), .int .i64 (r4 : Int), .int .i64 t0, .int .i64 t1, .int .i64 t2, .int .i64 t3, .int .i64 t4, .string t5] 42))) := (Below.refl _ _).alloc (Nat.le_refl _) _
                    have SN := hide (F8.out.below BN.out hpw)
                    have OW := hide SN.out.1.2
                    have H1 := hide (fd_new x8 (⟨(s4 : Int), (r4 : Int), ⟨t0, t1, t2, t3, t4, t5⟩⟩ : Fnd) x8.heap.size rfl)
                    have H2 := hide (fd_one (⟨(s4 : Int), (r4 : Int), ⟨t0, t1, t2, t3, t4, t5⟩⟩ : Fnd))
                    simp only [fdCells] at H1 H2
                    have HSZ := hide SN.out.1.1.1.size
                    have HZ1 := hide ht90
                    go_wp2_with (at_builtin; refine wpList_append_own _ rfl _ _ 24 rfl w.heap.size 42 i0 (.agg #[.int .i64 0, .int .i64 0, .int .i64 0, .int .i64 0, .int .i64 0, .int .i64 0, .int .i64 0, .string ⟨#[]⟩]) 8 72 Try.underlying24 I0.out Y0.out Y1.out Y2.out rfl (by decide) _ _ _ rfl OW.out ⟨x8.heap.size, 0, none⟩ 1 1 [.int .i64 (s4 : Int), .int .i64 (r4 : Int), .int .i64 t0, .int .i64 t1, .int .i64 t2, .int .i64 t3, .int .i64 t4, .string t5] rfl rfl H1.out H2.out ?c1 ?c2 HSZ.out ?_)
                    case c1 => unfold maxLen; omega
                    case c2 => omega
                    intro u' z ho hg2 _
                    have ho2 : z.ownsRow w.heap.size 42 8 u' (zs ++ [(⟨(s4 : Int), (r4 : Int), ⟨t0, t1, t2, t3, t4, t5⟩⟩ : Fnd)]).length (fcells (zs ++ [(⟨(s4 : Int), (r4 : Int), ⟨t0, t1, t2, t3, t4, t5⟩⟩ : Fnd)])) := by
                      rw [← fcells_snoc, List.length_append]
                      exact ho
                    have SZ := hide (SN.out.out hpw hg2 ho2)
                    have hl3 : (zs ++ [(⟨(s4 : Int), (r4 : Int), ⟨t0, t1, t2, t3, t4, t5⟩⟩ : Fnd)]).length ≤ zs.length + 1 := by simp
                    have hl0 : 0 < (zs ++ [(⟨(s4 : Int), (r4 : Int), ⟨t0, t1, t2, t3, t4, t5⟩⟩ : Fnd)]).length := by simp
                    have HT3 : Hid (∀ x ∈ zs ++ [(⟨(s4 : Int), (r4 : Int), ⟨t0, t1, t2, t3, t4, t5⟩⟩ : Fnd)], x.page.text.size ≤ 90) := by
                      intro x hx
                      rcases List.mem_append.1 hx with h | h
                      · exact HT.out x h
                      · simp only [List.mem_singleton] at h; subst h; exact HZ1.out
                    generalize zs ++ [(⟨(s4 : Int), (r4 : Int), ⟨t0, t1, t2, t3, t4, t5⟩⟩ : Fnd)] = zs2 at SZ HT3 hl3 hl0
                    rcases id SZ.out.1.2.2 with ⟨-, h0⟩ | ⟨og', oc', cur, rfl, -⟩
                    · omega
                    clear ho ho2 hg2 OW H1 H2 HSZ BN SN HZ1
                    clear c0 c1 c2 c3 c4 c5 F8 HT
                    have FA := SZ
                    clear SZ
                    have HTA := HT3
                    clear HT3
                    go_wp2_with fail
                    refine (once_any 16 p ad len cap B _ (by omega) hl FA.out.1.1.2 (FA.out.1.1.code HD.out hB hpw) hB).mono ?_
                    rintro e x9 ⟨o9, rfl, d9⟩
                    have F9 := hide (FA.out.drawn d9 hpw)
                    clear d9 FA
                    cases o9 with
                    | true =>
                      obtain ⟨c0, c1, c2, c3, c4, c5⟩ := PC.out x9 F9.out
                      have wc : IntKind.i64.wrap (t4 + 1) = t4 + 1 := by rw [IntKind.wrap_i64]; omega
                      have BX : Hid (Below x9.heap.size x9 (x9.alloc (.cells #[.int .i64 t0, .int .i64 t1, .int .i64 t2, .int .i64 t3, .int .i64 (t4 + 1), .string t5] 40))) := (Below.refl _ _).alloc (Nat.le_refl _) _
                      have FX := hide (F9.out.below BX.out hpw)
                      have PX := hide (heap_alloc_new x9 (.cells #[.int .i64 t0, .int .i64 t1, .int .i64 t2, .int .i64 t3, .int .i64 (t4 + 1), .string t5] 40))
                      obtain ⟨xb, hxb⟩ : ∃ xb, x9.heap.size = xb := ⟨_, rfl⟩
                      rw [hxb] at PX
                      have HT := HTA
                      clear HTA BX F9
                      go_upto_region 21 with fail
                      try rw [hxb]
                      generalize x9.alloc (.cells #[.int .i64 t0, .int .i64 t1, .int .i64 t2, .int .i64 t3, .int .i64 (t4 + 1), .string t5] 40) = x10 at FX PX ⊢
                      have e0 := cell_of_row _ _ 0 _ _ _ PX.out
                      have e1 := cell_of_row _ _ 1 _ _ _ PX.out
                      have e2 := cell_of_row _ _ 2 _ _ _ PX.out
                      have e3 := cell_of_row _ _ 3 _ _ _ PX.out
                      have e4 := cell_of_row _ _ 4 _ _ _ PX.out
                      have e5 := cell_of_row _ _ 5 _ _ _ PX.out
                      clear c0 c1 c2 c3 c4 c5 hxb wc
                      have hl4 := hl3
                      clear hl3
                      generalize hzz : zs2 = zs1 at FX HT hl4 hl0
                      clear hzz
                      have BN : Hid (Below x10.heap.size x10 (x10.alloc (.cells #[.int .i64 0, .int .i64 0, .int .i64 t0, .int .i64 t1, .int .i64 t2, .int .i64 t3, .int .i64 (t4 + 1), .string t5] 42))) := (Below.refl _ _).alloc (Nat.le_refl _) _
                      have SN := hide (FX.out.below BN.out hpw)
                      have OW := hide SN.out.1.2
                      have H1 := hide (fd_new x10 (⟨0, 0, ⟨t0, t1, t2, t3, t4 + 1, t5⟩⟩ : Fnd) x10.heap.size rfl)
                      have H2 := hide (fd_one (⟨0, 0, ⟨t0, t1, t2, t3, t4 + 1, t5⟩⟩ : Fnd))
                      simp only [fdCells] at H1 H2
                      have HSZ := hide SN.out.1.1.1.size
                      have HZ1 := hide ht90
                      go_wp2_with (at_builtin; refine wpList_append_own _ rfl _ _ 24 rfl w.heap.size 42 i0 (.agg #[.int .i64 0, .int .i64 0, .int .i64 0, .int .i64 0, .int .i64 0, .int .i64 0, .int .i64 0, .string ⟨#[]⟩]) 8 72 Try.underlying24 I0.out Y0.out Y1.out Y2.out rfl (by decide) _ _ _ rfl OW.out ⟨x10.heap.size, 0, none⟩ 1 1 [.int .i64 0, .int .i64 0, .int .i64 t0, .int .i64 t1, .int .i64 t2, .int .i64 t3, .int .i64 (t4 + 1), .string t5] rfl rfl H1.out H2.out ?c1 ?c2 HSZ.out ?_)
                      case c1 => unfold maxLen; omega
                      case c2 => omega
                      intro u' z ho hg2 _
                      have ho2 : z.ownsRow w.heap.size 42 8 u' (zs1 ++ [(⟨0, 0, ⟨t0, t1, t2, t3, t4 + 1, t5⟩⟩ : Fnd)]).length (fcells (zs1 ++ [(⟨0, 0, ⟨t0, t1, t2, t3, t4 + 1, t5⟩⟩ : Fnd)])) := by
                        rw [← fcells_snoc, List.length_append]
                        exact ho
                      have SZ := hide (SN.out.out hpw hg2 ho2)
                      have hl3 : (zs1 ++ [(⟨0, 0, ⟨t0, t1, t2, t3, t4 + 1, t5⟩⟩ : Fnd)]).length ≤ zs1.length + 1 := by simp
                      have hl0 : 0 < (zs1 ++ [(⟨0, 0, ⟨t0, t1, t2, t3, t4 + 1, t5⟩⟩ : Fnd)]).length := by simp
                      have HT3 : Hid (∀ x ∈ zs1 ++ [(⟨0, 0, ⟨t0, t1, t2, t3, t4 + 1, t5⟩⟩ : Fnd)], x.page.text.size ≤ 90) := by
                        intro x hx
                        rcases List.mem_append.1 hx with h | h
                        · exact HT.out x h
                        · simp only [List.mem_singleton] at h; subst h; exact HZ1.out
                      generalize zs1 ++ [(⟨0, 0, ⟨t0, t1, t2, t3, t4 + 1, t5⟩⟩ : Fnd)] = zs3 at SZ HT3 hl3 hl0
                      rcases id SZ.out.1.2.2 with ⟨-, h0⟩ | ⟨og'', oc'', cur, rfl, -⟩
                      · omega
                      clear ho ho2 hg2 OW H1 H2 HSZ BN SN HZ1
                      clear e0 e1 e2 e3 e4 e5 FX PX
                      go_wp2
                      go_roundw
                      case rel => exact ⟨i + 1, s + 1, og'', oc'', zs3, by omega, by go_num, by go_num, rfl, by omega, by omega, HT3, SZ⟩
                      case measure => simp [intOf]; omega
                    | false =>
                      go_wp2
                      go_roundw
                      case rel => exact ⟨i + 1, s + 1, og', oc', zs2, by omega, by go_num, by go_num, rfl, by omega, by omega, HTA, F9⟩
                      case measure => simp [intOf]; omega
                · have F4 := hide F3.out.1
                  clear F3
                  go_wp2_with fail
                  refine (once_any 4 p ad len cap B _ (by omega) hl F4.out.1.2 (F4.out.1.code HD.out hB hpw) hB).mono ?_
                  rintro e x7 ⟨o7, rfl, d7⟩
                  have F7 := hide (F4.out.drawn d7 hpw)
                  clear d7 F4
                  cases o7 with
                  | true =>
                    have h1x : (⟨#[120]⟩ : ByteArray).size ≤ 90 := by decide
                    have BN : Hid (Below x7.heap.size x7 (x7.alloc (.cells #[.int .i64 0, .int .i64 0, .int .i64 1, .int .i64 (s : Int), .int .i64 (t : Int), .int .i64 0, .int .i64 1, .string ⟨#[120]⟩] 42))) := (Below.refl _ _).alloc (Nat.le_refl _) _
                    have SN := hide (F7.out.below BN.out hpw)
                    have OW := hide SN.out.2
                    have H1 := hide (fd_new x7 (⟨0, 0, ⟨1, (s : Int), (t : Int), 0, 1, ⟨#[120]⟩⟩⟩ : Fnd) x7.heap.size rfl)
                    have H2 := hide (fd_one (⟨0, 0, ⟨1, (s : Int), (t : Int), 0, 1, ⟨#[120]⟩⟩⟩ : Fnd))
                    simp only [fdCells] at H1 H2
                    have HSZ := hide SN.out.1.1.size
                    have HZ1 := hide h1x
                    go_wp2_with (at_builtin; refine wpList_append_own _ rfl _ _ 24 rfl w.heap.size 42 i0 (.agg #[.int .i64 0, .int .i64 0, .int .i64 0, .int .i64 0, .int .i64 0, .int .i64 0, .int .i64 0, .string ⟨#[]⟩]) 8 72 Try.underlying24 I0.out Y0.out Y1.out Y2.out rfl (by decide) _ _ _ rfl OW.out ⟨x7.heap.size, 0, none⟩ 1 1 [.int .i64 0, .int .i64 0, .int .i64 1, .int .i64 (s : Int), .int .i64 (t : Int), .int .i64 0, .int .i64 1, .string ⟨#[120]⟩] rfl rfl H1.out H2.out ?c1 ?c2 HSZ.out ?_)
                    case c1 => unfold maxLen; omega
                    case c2 => omega
                    intro u' z ho hg2 _
                    have ho2 : z.ownsRow w.heap.size 42 8 u' (zs ++ [(⟨0, 0, ⟨1, (s : Int), (t : Int), 0, 1, ⟨#[120]⟩⟩⟩ : Fnd)]).length (fcells (zs ++ [(⟨0, 0, ⟨1, (s : Int), (t : Int), 0, 1, ⟨#[120]⟩⟩⟩ : Fnd)])) := by
                      rw [← fcells_snoc, List.length_append]
                      exact ho
                    have SZ := hide (SN.out.out hpw hg2 ho2)
                    have hl3 : (zs ++ [(⟨0, 0, ⟨1, (s : Int), (t : Int), 0, 1, ⟨#[120]⟩⟩⟩ : Fnd)]).length ≤ zs.length + 1 := by simp
                    have hl0 : 0 < (zs ++ [(⟨0, 0, ⟨1, (s : Int), (t : Int), 0, 1, ⟨#[120]⟩⟩⟩ : Fnd)]).length := by simp
                    have HT3 : Hid (∀ x ∈ zs ++ [(⟨0, 0, ⟨1, (s : Int), (t : Int), 0, 1, ⟨#[120]⟩⟩⟩ : Fnd)], x.page.text.size ≤ 90) := by
                      intro x hx
                      rcases List.mem_append.1 hx with h | h
                      · exact HT.out x h
                      · simp only [List.mem_singleton] at h; subst h; exact HZ1.out
                    generalize zs ++ [(⟨0, 0, ⟨1, (s : Int), (t : Int), 0, 1, ⟨#[120]⟩⟩⟩ : Fnd)] = zs2 at SZ HT3 hl3 hl0
                    rcases id SZ.out.2.2 with ⟨-, h0⟩ | ⟨og', oc', cur, rfl, -⟩
                    · omega
                    clear ho ho2 hg2 OW H1 H2 HSZ BN SN HZ1
                    clear F7
                    go_wp2
                    go_roundw
                    case rel => exact ⟨t + 1, s, og', oc', zs2, by omega, by omega, by go_num, rfl, rfl, by omega, by omega, HT3, SZ⟩
                    case measure => simp [intOf]; omega
                  | false =>
                    go_wp2
                    go_roundw
                    case rel => exact ⟨t + 1, s, og, oc, zs, by omega, by omega, by go_num, rfl, rfl, by omega, by omega, HT, F7⟩
                    case measure => simp [intOf]; omega
      | true =>
        have BR : Hid (Below x3.heap.size x3 (x3.alloc (.cells #[.int .i64 1, .int .i64 0, .int .i64 5, .int .i64 0] 34))) := (Below.refl _ _).alloc (Nat.le_refl _) _
        have FB := hide (FR3.out.below BR.out hpw)
        have OB : Hid ((x3.alloc (.cells #[.int .i64 1, .int .i64 0, .int .i64 5, .int .i64 0] 34)).ownsRow w.heap.size 34 4 (.slice (some ⟨x3.heap.size, 0, none⟩) 1 1) 1 (rccells [(1, 0, 5, 0)])) := ⟨rfl, .inr ⟨x3.heap.size, 1, _, rfl, FR3.out.1.1.1.size, heap_alloc_new x3 _, Nat.le_refl _, by unfold maxLen; omega, rfl, rfl⟩⟩
        have HSZ := hide FB.out.1.1.1.size
        have CL := hide (fun j u hj => FB.out.2.cells (g := rg) rfl j u hj)
        have LN : Hid ((rccells (l.map Rc.tu)).length = l.length * 4) := by show _ = _; rw [rccells_len, List.length_map]
        clear FR3 BR
        go_wp2_with (at_builtin; refine wpList_append_own _ rfl _ _ 29 rfl w.heap.size 34 j0 (.agg #[.int .i64 0, .int .i64 0, .int .i64 0, .int .i64 0]) 4 32 Try.underlying29 J0.out X0.out X1.out X2.out rfl (by decide) _ 1 (rccells [(1, 0, 5, 0)]) rfl OB.out ⟨rg, 0, none⟩ l.length rc (rccells (l.map Rc.tu)) rfl LN.out CL.out (rccells_one _) ?m1 ?m2 HSZ.out ?_)
        case m1 => unfold maxLen; omega
        case m2 => omega
        intro u' z ho hg2 _
        obtain ⟨l', hl'⟩ : ∃ l' : List Rc, l' = (⟨1, 0, 5, 0⟩ : Rc) :: l := ⟨_, rfl⟩
        have ec : rccells [(1, 0, 5, 0)] ++ rccells (l.map Rc.tu) = rccells (l'.map Rc.tu) := by rw [← rccells_app, hl']; rfl
        have hll : l'.length = 1 + l.length := by rw [hl']; simp; omega
        rw [ec, ← hll] at ho
        have FN := hide (FB.out.1.recs hpw OB.out hg2 ho)
        rcases id ho.2 with ⟨-, h0⟩ | ⟨rg', rc', cur, rfl, -⟩
        · omega
        have h9 : l'.length ≤ 9 := by omega
        clear ho hg2 OB HSZ CL LN FB ec hll hl' h8
        have FRl := FN
        clear FN
        go_wp2_with fail
        refine (once_any 3 p ad len cap B _ (by omega) hl FRl.out.1.1.2 (FRl.out.1.1.code HD.out hB hpw) hB).mono ?_
        rintro e x6 ⟨o6, rfl, d6⟩
        have FRr := hide (FRl.out.drawn d6 hpw)
        clear d6 FRl
        cases o6 with
        | false =>
          go_wp2_with fail
          refine (FRr.out.pages hpw (by omega) (s : Int) (t : Int)).mono ?_
          rintro e xp ⟨pa, pc, n, M, ok, rfl, hn9, hMn, hM9, fp⟩
          have FP0 := hide fp
          have HMn := hide hMn
          have HM9 := hide hM9
          clear fp hMn hM9 FRr
          go_wp2
          go_loopw [3, 4, 9] (fun ov sv iv W => ∃ (i s og oc : Nat) (zs : List Fnd), i ≤ n ∧ iv = .int .i64 i ∧ sv = .int .i64 s ∧ ov = .slice (some ⟨og, 0, none⟩) zs.length oc ∧ s ≤ 9 * t + i ∧ zs.length + 19 ≤ 19 * t + 2 * i ∧ Hid (∀ x ∈ zs, x.page.text.size ≤ 90) ∧ Hid (FP w W p ad len cap (.slice (some ⟨og, 0, none⟩) zs.length oc) zs (.slice pa n pc) n M)) (fun _ _ iv _ => n - (intOf iv).toNat)
          case atStart => exact ⟨0, s, og, oc, zs, Nat.zero_le _, rfl, rfl, rfl, by omega, by omega, HT, FP0⟩
          case round =>
            obtain ⟨i, s, og, oc, zs, hi, rfl, rfl, rfl, hs9, hz9, HT, F3⟩ := hrel
            clear FP0
            by_cases hlt3 : (i : Int) < n
            · obtain ⟨gp, hpa⟩ : ∃ g, pa = some ⟨g, 0, none⟩ := by
                obtain ⟨y1, y2, e, h⟩ := F3.out.2.form
                injection e with e1 e2 e3
                obtain ⟨g, a1, -, -⟩ := h (by omega)
                exact ⟨g, by rw [e1, a1]⟩
              subst hpa
              obtain ⟨⟨t0, t1, t2, t3, t4, t5⟩, hx⟩ : ∃ x, M[i]? = some x := ⟨_, List.getElem?_eq_getElem (by have := HMn.out; omega)⟩
              obtain ⟨ht90, hc0, hc9⟩ := HM9.out _ (List.mem_of_getElem? hx)
              simp only at ht90 hc0 hc9
              have PC : Hid (∀ (W : World) {ov : Value} {zs : List Fnd}, FP w W p ad len cap ov zs (.slice (some ⟨gp, 0, none⟩) n pc) n M → W.cell? ⟨gp, i * 6, none⟩ = some (.int .i64 t0) ∧ W.cell? ⟨gp, i * 6 + 1, none⟩ = some (.int .i64 t1) ∧ W.cell? ⟨gp, i * 6 + 2, none⟩ = some (.int .i64 t2) ∧ W.cell? ⟨gp, i * 6 + 3, none⟩ = some (.int .i64 t3) ∧ W.cell? ⟨gp, i * 6 + 4, none⟩ = some (.int .i64 t4) ∧ W.cell? ⟨gp, i * 6 + 5, none⟩ = some (.string t5)) := by
                intro W ov zs hF
                have hc := fun j v hj => hF.2.flt.cell (pgcells_at M i _ hx j v hj)
                exact ⟨hc 0 _ rfl, hc 1 _ rfl, hc 2 _ rfl, hc 3 _ rfl, hc 4 _ rfl, hc 5 _ rfl⟩
              obtain ⟨s4, hs4⟩ : ∃ k, s / 4 = k := ⟨_, rfl⟩
              obtain ⟨r4, hr4⟩ : ∃ k, s % 4 = k := ⟨_, rfl⟩
              have ed : (s : Int).tdiv 4 = (s4 : Int) := by rw [← hs4]; rfl
              have er : (s : Int).tmod 4 = (r4 : Int) := by rw [← hr4]; rfl
              have ed2 : (s : Int) / 4 = (s4 : Int) := by omega
              have er2 : (s : Int) % 4 = (r4 : Int) := by omega
              have b4 : s4 ≤ s := by omega
              have i0' : (0 : Int) ≤ i := by omega
              clear hx hs4 hr4
              go_wp2_with fail
              refine (once_any 8 p ad len cap B _ (by omega) hl F3.out.1.1.2 (F3.out.1.1.code HD.out hB hpw) hB).mono ?_
              rintro e x8 ⟨o8, rfl, d8⟩
              have F8 := hide (F3.out.drawn d8 hpw)
              clear d8 F3
              cases o8 with
              | true =>
                have FA := F8
                have HTA := HT
                clear F8 HT
                have hl3 : zs.length ≤ zs.length + 1 := by omega
                go_wp2_with fail
                refine (once_any 16 p ad len cap B _ (by omega) hl FA.out.1.1.2 (FA.out.1.1.code HD.out hB hpw) hB).mono ?_
                rintro e x9 ⟨o9, rfl, d9⟩
                have F9 := hide (FA.out.drawn d9 hpw)
                clear d9 FA
                cases o9 with
                | true =>
                  obtain ⟨c0, c1, c2, c3, c4, c5⟩ := PC.out x9 F9.out
                  have wc : IntKind.i64.wrap (t4 + 1) = t4 + 1 := by rw [IntKind.wrap_i64]; omega
                  have BX : Hid (Below x9.heap.size x9 (x9.alloc (.cells #[.int .i64 t0, .int .i64 t1, .int .i64 t2, .int .i64 t3, .int .i64 (t4 + 1), .string t5] 40))) := (Below.refl _ _).alloc (Nat.le_refl _) _
                  have FX := hide (F9.out.below BX.out hpw)
                  have PX := hide (heap_alloc_new x9 (.cells #[.int .i64 t0, .int .i64 t1, .int .i64 t2, .int .i64 t3, .int .i64 (t4 + 1), .string t5] 40))
                  obtain ⟨xb, hxb⟩ : ∃ xb, x9.heap.size = xb := ⟨_, rfl⟩
                  rw [hxb] at PX
                  have HT := HTA
                  clear HTA BX F9
                  go_upto_region 21 with fail
                  try rw [hxb]
                  generalize x9.alloc (.cells #[.int .i64 t0, .int .i64 t1, .int .i64 t2, .int .i64 t3, .int .i64 (t4 + 1), .string t5] 40) = x10 at FX PX ⊢
                  have e0 := cell_of_row _ _ 0 _ _ _ PX.out
                  have e1 := cell_of_row _ _ 1 _ _ _ PX.out
                  have e2 := cell_of_row _ _ 2 _ _ _ PX.out
                  have e3 := cell_of_row _ _ 3 _ _ _ PX.out
                  have e4 := cell_of_row _ _ 4 _ _ _ PX.out
                  have e5 := cell_of_row _ _ 5 _ _ _ PX.out
                  clear c0 c1 c2 c3 c4 c5 hxb wc
                  have BN : Hid (Below x10.heap.size x10 (x10.alloc (.cells #[.int .i64 0, .int .i64 0, .int .i64 t0, .int .i64 t1, .int .i64 t2, .int .i64 t3, .int .i64 (t4 + 1), .string t5] 42))) := (Below.refl _ _).alloc (Nat.le_refl _) _
                  have SN := hide (FX.out.below BN.out hpw)
                  have OW := hide SN.out.1.2
                  have H1 := hide (fd_new x10 (⟨0, 0, ⟨t0, t1, t2, t3, t4 + 1, t5⟩⟩ : Fnd) x10.heap.size rfl)
                  have H2 := hide (fd_one (⟨0, 0, ⟨t0, t1, t2, t3, t4 + 1, t5⟩⟩ : Fnd))
                  simp only [fdCells] at H1 H2
                  have HSZ := hide SN.out.1.1.1.size
                  have HZ1 := hide ht90
                  go_wp2_with (at_builtin; refine wpList_append_own _ rfl _ _ 24 rfl w.heap.size 42 i0 (.agg #[.int .i64 0, .int .i64 0, .int .i64 0, .int .i64 0, .int .i64 0, .int .i64 0, .int .i64 0, .string ⟨#[]⟩]) 8 72 Try.underlying24 I0.out Y0.out Y1.out Y2.out rfl (by decide) _ _ _ rfl OW.out ⟨x10.heap.size, 0, none⟩ 1 1 [.int .i64 0, .int .i64 0, .int .i64 t0, .int .i64 t1, .int .i64 t2, .int .i64 t3, .int .i64 (t4 + 1), .string t5] rfl rfl H1.out H2.out ?c1 ?c2 HSZ.out ?_)
                  case c1 => unfold maxLen; omega
                  case c2 => omega
                  intro u' z ho hg2 _
                  have ho2 : z.ownsRow w.heap.size 42 8 u' (zs ++ [(⟨0, 0, ⟨t0, t1, t2, t3, t4 + 1, t5⟩⟩ : Fnd)]).length (fcells (zs ++ [(⟨0, 0, ⟨t0, t1, t2, t3, t4 + 1, t5⟩⟩ : Fnd)])) := by
                    rw [← fcells_snoc, List.length_append]
                    exact ho
                  have SZ := hide (SN.out.out hpw hg2 ho2)
                  have hl3 : (zs ++ [(⟨0, 0, ⟨t0, t1, t2, t3, t4 + 1, t5⟩⟩ : Fnd)]).length ≤ zs.length + 1 := by simp
                  have hl0 : 0 < (zs ++ [(⟨0, 0, ⟨t0, t1, t2, t3, t4 + 1, t5⟩⟩ : Fnd)]).length := by simp
                  have HT3 : Hid (∀ x ∈ zs ++ [(⟨0, 0, ⟨t0, t1, t2, t3, t4 + 1, t5⟩⟩ : Fnd)], x.page.text.size ≤ 90) := by
                    intro x hx
                    rcases List.mem_append.1 hx with h | h
                    · exact HT.out x h
                    · simp only [List.mem_singleton] at h; subst h; exact HZ1.out
                  generalize zs ++ [(⟨0, 0, ⟨t0, t1, t2, t3, t4 + 1, t5⟩⟩ : Fnd)] = zs2 at SZ HT3 hl3 hl0
                  rcases id SZ.out.1.2.2 with ⟨-, h0⟩ | ⟨og', oc', cur, rfl, -⟩
                  · omega
                  clear ho ho2 hg2 OW H1 H2 HSZ BN SN HZ1
                  clear e0 e1 e2 e3 e4 e5 FX PX
                  go_wp2
                  go_roundw
                  case rel => exact ⟨i + 1, s + 1, og', oc', zs2, by omega, by go_num, by go_num, rfl, by omega, by omega, HT3, SZ⟩
                  case measure => simp [intOf]; omega
                | false =>
                  go_wp2
                  go_roundw
                  case rel => exact ⟨i + 1, s + 1, og, oc, zs, by omega, by go_num, by go_num, rfl, by omega, by omega, HTA, F9⟩
                  case measure => simp [intOf]; omega
              | false =>
                obtain ⟨c0, c1, c2, c3, c4, c5⟩ := PC.out x8 F8.out
                have BN : Hid (Below x8.heap.size x8 (x8.alloc (.cells #[.int .i64 (s4 : Int), .int .i64 (r4 : Int), .int .i64 t0, .int .i64 t1, .int .i64 t2, .int .i64 t3, .int .i64 t4, .string t5] 42))) := (Below.refl _ _).alloc (Nat.le_refl _) _
                have SN := hide (F8.out.below BN.out hpw)
                have OW := hide SN.out.1.2
                have H1 := hide (fd_new x8 (⟨(s4 : Int), (r4 : Int), ⟨t0, t1, t2, t3, t4, t5⟩⟩ : Fnd) x8.heap.size rfl)
                have H2 := hide (fd_one (⟨(s4 : Int), (r4 : Int), ⟨t0, t1, t2, t3, t4, t5⟩⟩ : Fnd))
                simp only [fdCells] at H1 H2
                have HSZ := hide SN.out.1.1.1.size
                have HZ1 := hide ht90
                go_wp2_with (at_builtin; refine wpList_append_own _ rfl _ _ 24 rfl w.heap.size 42 i0 (.agg #[.int .i64 0, .int .i64 0, .int .i64 0, .int .i64 0, .int .i64 0, .int .i64 0, .int .i64 0, .string ⟨#[]⟩]) 8 72 Try.underlying24 I0.out Y0.out Y1.out Y2.out rfl (by decide) _ _ _ rfl OW.out ⟨x8.heap.size, 0, none⟩ 1 1 [.int .i64 (s4 : Int), .int .i64 (r4 : Int), .int .i64 t0, .int .i64 t1, .int .i64 t2, .int .i64 t3, .int .i64 t4, .string t5] rfl rfl H1.out H2.out ?c1 ?c2 HSZ.out ?_)
                case c1 => unfold maxLen; omega
                case c2 => omega
                intro u' z ho hg2 _
                have ho2 : z.ownsRow w.heap.size 42 8 u' (zs ++ [(⟨(s4 : Int), (r4 : Int), ⟨t0, t1, t2, t3, t4, t5⟩⟩ : Fnd)]).length (fcells (zs ++ [(⟨(s4 : Int), (r4 : Int), ⟨t0, t1, t2, t3, t4, t5⟩⟩ : Fnd)])) := by
                  rw [← fcells_snoc, List.length_append]
                  exact ho
                have SZ := hide (SN.out.out hpw hg2 ho2)
                have hl3 : (zs ++ [(⟨(s4 : Int), (r4 : Int), ⟨t0, t1, t2, t3, t4, t5⟩⟩ : Fnd)]).length ≤ zs.length + 1 := by simp
                have hl0 : 0 < (zs ++ [(⟨(s4 : Int), (r4 : Int), ⟨t0, t1, t2, t3, t4, t5⟩⟩ : Fnd)]).length := by simp
                have HT3 : Hid (∀ x ∈ zs ++ [(⟨(s4 : Int), (r4 : Int), ⟨t0, t1, t2, t3, t4, t5⟩⟩ : Fnd)], x.page.text.size ≤ 90) := by
                  intro x hx
                  rcases List.mem_append.1 hx with h | h
                  · exact HT.out x h
                  · simp only [List.mem_singleton] at h; subst h; exact HZ1.out
                generalize zs ++ [(⟨(s4 : Int), (r4 : Int), ⟨t0, t1, t2, t3, t4, t5⟩⟩ : Fnd)] = zs2 at SZ HT3 hl3 hl0
                rcases id SZ.out.1.2.2 with ⟨-, h0⟩ | ⟨og', oc', cur, rfl, -⟩
                · omega
                clear ho ho2 hg2 OW H1 H2 HSZ BN SN HZ1
                clear c0 c1 c2 c3 c4 c5 F8 HT
                have FA := SZ
                clear SZ
                have HTA := HT3
                clear HT3
                go_wp2_with fail
                refine (once_any 16 p ad len cap B _ (by omega) hl FA.out.1.1.2 (FA.out.1.1.code HD.out hB hpw) hB).mono ?_
                rintro e x9 ⟨o9, rfl, d9⟩
                have F9 := hide (FA.out.drawn d9 hpw)
                clear d9 FA
                cases o9 with
                | true =>
                  obtain ⟨c0, c1, c2, c3, c4, c5⟩ := PC.out x9 F9.out
                  have wc : IntKind.i64.wrap (t4 + 1) = t4 + 1 := by rw [IntKind.wrap_i64]; omega
                  have BX : Hid (Below x9.heap.size x9 (x9.alloc (.cells #[.int .i64 t0, .int .i64 t1, .int .i64 t2, .int .i64 t3, .int .i64 (t4 + 1), .string t5] 40))) := (Below.refl _ _).alloc (Nat.le_refl _) _
                  have FX := hide (F9.out.below BX.out hpw)
                  have PX := hide (heap_alloc_new x9 (.cells #[.int .i64 t0, .int .i64 t1, .int .i64 t2, .int .i64 t3, .int .i64 (t4 + 1), .string t5] 40))
                  obtain ⟨xb, hxb⟩ : ∃ xb, x9.heap.size = xb := ⟨_, rfl⟩
                  rw [hxb] at PX
                  have HT := HTA
                  clear HTA BX F9
                  go_upto_region 21 with fail
                  try rw [hxb]
                  generalize x9.alloc (.cells #[.int .i64 t0, .int .i64 t1, .int .i64 t2, .int .i64 t3, .int .i64 (t4 + 1), .string t5] 40) = x10 at FX PX ⊢
                  have e0 := cell_of_row _ _ 0 _ _ _ PX.out
                  have e1 := cell_of_row _ _ 1 _ _ _ PX.out
                  have e2 := cell_of_row _ _ 2 _ _ _ PX.out
                  have e3 := cell_of_row _ _ 3 _ _ _ PX.out
                  have e4 := cell_of_row _ _ 4 _ _ _ PX.out
                  have e5 := cell_of_row _ _ 5 _ _ _ PX.out
                  clear c0 c1 c2 c3 c4 c5 hxb wc
                  have hl4 := hl3
                  clear hl3
                  generalize hzz : zs2 = zs1 at FX HT hl4 hl0
                  clear hzz
                  have BN : Hid (Below x10.heap.size x10 (x10.alloc (.cells #[.int .i64 0, .int .i64 0, .int .i64 t0, .int .i64 t1, .int .i64 t2, .int .i64 t3, .int .i64 (t4 + 1), .string t5] 42))) := (Below.refl _ _).alloc (Nat.le_refl _) _
                  have SN := hide (FX.out.below BN.out hpw)
                  have OW := hide SN.out.1.2
                  have H1 := hide (fd_new x10 (⟨0, 0, ⟨t0, t1, t2, t3, t4 + 1, t5⟩⟩ : Fnd) x10.heap.size rfl)
                  have H2 := hide (fd_one (⟨0, 0, ⟨t0, t1, t2, t3, t4 + 1, t5⟩⟩ : Fnd))
                  simp only [fdCells] at H1 H2
                  have HSZ := hide SN.out.1.1.1.size
                  have HZ1 := hide ht90
                  go_wp2_with (at_builtin; refine wpList_append_own _ rfl _ _ 24 rfl w.heap.size 42 i0 (.agg #[.int .i64 0, .int .i64 0, .int .i64 0, .int .i64 0, .int .i64 0, .int .i64 0, .int .i64 0, .string ⟨#[]⟩]) 8 72 Try.underlying24 I0.out Y0.out Y1.out Y2.out rfl (by decide) _ _ _ rfl OW.out ⟨x10.heap.size, 0, none⟩ 1 1 [.int .i64 0, .int .i64 0, .int .i64 t0, .int .i64 t1, .int .i64 t2, .int .i64 t3, .int .i64 (t4 + 1), .string t5] rfl rfl H1.out H2.out ?c1 ?c2 HSZ.out ?_)
                  case c1 => unfold maxLen; omega
                  case c2 => omega
                  intro u' z ho hg2 _
                  have ho2 : z.ownsRow w.heap.size 42 8 u' (zs1 ++ [(⟨0, 0, ⟨t0, t1, t2, t3, t4 + 1, t5⟩⟩ : Fnd)]).length (fcells (zs1 ++ [(⟨0, 0, ⟨t0, t1, t2, t3, t4 + 1, t5⟩⟩ : Fnd)])) := by
                    rw [← fcells_snoc, List.length_append]
                    exact ho
                  have SZ := hide (SN.out.out hpw hg2 ho2)
                  have hl3 : (zs1 ++ [(⟨0, 0, ⟨t0, t1, t2, t3, t4 + 1, t5⟩⟩ : Fnd)]).length ≤ zs1.length + 1 := by simp
                  have hl0 : 0 < (zs1 ++ [(⟨0, 0, ⟨t0, t1, t2, t3, t4 + 1, t5⟩⟩ : Fnd)]).length := by simp
                  have HT3 : Hid (∀ x ∈ zs1 ++ [(⟨0, 0, ⟨t0, t1, t2, t3, t4 + 1, t5⟩⟩ : Fnd)], x.page.text.size ≤ 90) := by
                    intro x hx
                    rcases List.mem_append.1 hx with h | h
                    · exact HT.out x h
                    · simp only [List.mem_singleton] at h; subst h; exact HZ1.out
                  generalize zs1 ++ [(⟨0, 0, ⟨t0, t1, t2, t3, t4 + 1, t5⟩⟩ : Fnd)] = zs3 at SZ HT3 hl3 hl0
                  rcases id SZ.out.1.2.2 with ⟨-, h0⟩ | ⟨og'', oc'', cur, rfl, -⟩
                  · omega
                  clear ho ho2 hg2 OW H1 H2 HSZ BN SN HZ1
                  clear e0 e1 e2 e3 e4 e5 FX PX
                  go_wp2
                  go_roundw
                  case rel => exact ⟨i + 1, s + 1, og'', oc'', zs3, by omega, by go_num, by go_num, rfl, by omega, by omega, HT3, SZ⟩
                  case measure => simp [intOf]; omega
                | false =>
                  go_wp2
                  go_roundw
                  case rel => exact ⟨i + 1, s + 1, og', oc', zs2, by omega, by go_num, by go_num, rfl, by omega, by omega, HTA, F9⟩
                  case measure => simp [intOf]; omega
            · have F4 := hide F3.out.1
              clear F3
              go_wp2_with fail
              refine (once_any 4 p ad len cap B _ (by omega) hl F4.out.1.2 (F4.out.1.code HD.out hB hpw) hB).mono ?_
              rintro e x7 ⟨o7, rfl, d7⟩
              have F7 := hide (F4.out.drawn d7 hpw)
              clear d7 F4
              cases o7 with
              | true =>
                have h1x : (⟨#[120]⟩ : ByteArray).size ≤ 90 := by decide
                have BN : Hid (Below x7.heap.size x7 (x7.alloc (.cells #[.int .i64 0, .int .i64 0, .int .i64 1, .int .i64 (s : Int), .int .i64 (t : Int), .int .i64 0, .int .i64 1, .string ⟨#[120]⟩] 42))) := (Below.refl _ _).alloc (Nat.le_refl _) _
                have SN := hide (F7.out.below BN.out hpw)
                have OW := hide SN.out.2
                have H1 := hide (fd_new x7 (⟨0, 0, ⟨1, (s : Int), (t : Int), 0, 1, ⟨#[120]⟩⟩⟩ : Fnd) x7.heap.size rfl)
                have H2 := hide (fd_one (⟨0, 0, ⟨1, (s : Int), (t : Int), 0, 1, ⟨#[120]⟩⟩⟩ : Fnd))
                simp only [fdCells] at H1 H2
                have HSZ := hide SN.out.1.1.size
                have HZ1 := hide h1x
                go_wp2_with (at_builtin; refine wpList_append_own _ rfl _ _ 24 rfl w.heap.size 42 i0 (.agg #[.int .i64 0, .int .i64 0, .int .i64 0, .int .i64 0, .int .i64 0, .int .i64 0, .int .i64 0, .string ⟨#[]⟩]) 8 72 Try.underlying24 I0.out Y0.out Y1.out Y2.out rfl (by decide) _ _ _ rfl OW.out ⟨x7.heap.size, 0, none⟩ 1 1 [.int .i64 0, .int .i64 0, .int .i64 1, .int .i64 (s : Int), .int .i64 (t : Int), .int .i64 0, .int .i64 1, .string ⟨#[120]⟩] rfl rfl H1.out H2.out ?c1 ?c2 HSZ.out ?_)
                case c1 => unfold maxLen; omega
                case c2 => omega
                intro u' z ho hg2 _
                have ho2 : z.ownsRow w.heap.size 42 8 u' (zs ++ [(⟨0, 0, ⟨1, (s : Int), (t : Int), 0, 1, ⟨#[120]⟩⟩⟩ : Fnd)]).length (fcells (zs ++ [(⟨0, 0, ⟨1, (s : Int), (t : Int), 0, 1, ⟨#[120]⟩⟩⟩ : Fnd)])) := by
                  rw [← fcells_snoc, List.length_append]
                  exact ho
                have SZ := hide (SN.out.out hpw hg2 ho2)
                have hl3 : (zs ++ [(⟨0, 0, ⟨1, (s : Int), (t : Int), 0, 1, ⟨#[120]⟩⟩⟩ : Fnd)]).length ≤ zs.length + 1 := by simp
                have hl0 : 0 < (zs ++ [(⟨0, 0, ⟨1, (s : Int), (t : Int), 0, 1, ⟨#[120]⟩⟩⟩ : Fnd)]).length := by simp
                have HT3 : Hid (∀ x ∈ zs ++ [(⟨0, 0, ⟨1, (s : Int), (t : Int), 0, 1, ⟨#[120]⟩⟩⟩ : Fnd)], x.page.text.size ≤ 90) := by
                  intro x hx
                  rcases List.mem_append.1 hx with h | h
                  · exact HT.out x h
                  · simp only [List.mem_singleton] at h; subst h; exact HZ1.out
                generalize zs ++ [(⟨0, 0, ⟨1, (s : Int), (t : Int), 0, 1, ⟨#[120]⟩⟩⟩ : Fnd)] = zs2 at SZ HT3 hl3 hl0
                rcases id SZ.out.2.2 with ⟨-, h0⟩ | ⟨og', oc', cur, rfl, -⟩
                · omega
                clear ho ho2 hg2 OW H1 H2 HSZ BN SN HZ1
                clear F7
                go_wp2
                go_roundw
                case rel => exact ⟨t + 1, s, og', oc', zs2, by omega, by omega, by go_num, rfl, rfl, by omega, by omega, HT3, SZ⟩
                case measure => simp [intOf]; omega
              | false =>
                go_wp2
                go_roundw
                case rel => exact ⟨t + 1, s, og, oc, zs, by omega, by omega, by go_num, rfl, rfl, by omega, by omega, HT, F7⟩
                case measure => simp [intOf]; omega
        | true =>
          go_wp2
          go_loopw [6] (fun uv W => ∃ (rg rc : Nat) (l : List Rc), l.length ≤ 60 ∧ uv = .slice (some ⟨rg, 0, none⟩) l.length rc ∧ Hid (FR w W p ad len cap (.slice (some ⟨og, 0, none⟩) zs.length oc) zs (.slice (some ⟨rg, 0, none⟩) l.length rc) l)) (fun uv _ => 60 - rcLen uv)
          case atStart => exact ⟨rg', rc', l', by omega, rfl, FRr⟩
          case round =>
            obtain ⟨rg, rc, l, h60, rfl, FRq⟩ := hrel
            clear FRr
            by_cases hlt6 : (l.length : Int) < 60
            · obtain ⟨m, hm⟩ : ∃ m, l.length = m := ⟨_, rfl⟩
              obtain ⟨r, hr⟩ : ∃ r : Rc, r = ⟨4, 1, 3, 200 + (m : Int)⟩ := ⟨_, rfl⟩
              have BR : Hid (Below wr.heap.size wr (wr.alloc (.cells #[.int .i64 4, .int .i64 1, .int .i64 3, .int .i64 (200 + (m : Int))] 34))) := (Below.refl _ _).alloc (Nat.le_refl _) _
              have FB := hide (FRq.out.below BR.out hpw)
              have OW := hide FB.out.2
              have HNw := hide (rc_new wr r wr.heap.size rfl)
              have HO := hide (rc_one r)
              have HSZ := hide FB.out.1.1.1.size
              have HSn := hide (rc_snoc l r)
              rw [hr] at HNw HO
              simp only at HNw HO
              have HRE := hide hr
              have HML := hide hm
              rw [hm] at OW hlt6 ⊢
              clear hr hm FRq BR
              go_wp2_with (at_builtin; refine wpList_append_own _ rfl _ _ 29 rfl w.heap.size 34 j0 (.agg #[.int .i64 0, .int .i64 0, .int .i64 0, .int .i64 0]) 4 32 Try.underlying29 J0.out X0.out X1.out X2.out rfl (by decide) _ m (rccells (l.map Rc.tu)) rfl OW.out ⟨wr.heap.size, 0, none⟩ 1 1 [Value.int .i64 4, Value.int .i64 1, Value.int .i64 3, Value.int .i64 (200 + (m : Int))] rfl rfl HNw.out HO.out ?m1 ?m2 HSZ.out ?_)
              case m1 => unfold maxLen; omega
              case m2 => omega
              intro u' z ho hg2 _
              have es := HSn.out
              rw [HRE.out] at es
              simp only at es
              have hll : (l ++ [r]).length = m + 1 := by simp [HML.out]
              rw [es, ← HRE.out, ← hll] at ho
              have FN := hide (FB.out.1.recs hpw FB.out.2 hg2 ho)
              generalize l ++ [r] = l' at FN hll ho
              rcases id ho.2 with ⟨-, h0⟩ | ⟨rg', rc', cur, rfl, -⟩
              · omega
              clear ho hg2 OW HNw HO HSZ HSn HRE es FB
              go_wp2
              go_roundw
              case rel => exact ⟨rg', rc', l', by omega, rfl, FN⟩
              case measure => have := HML.out; simp [rcLen]; omega
            · have FRr := FRq
              clear FRq
              go_wp2_with fail
              refine (FRr.out.pages hpw (by omega) (s : Int) (t : Int)).mono ?_
              rintro e xp ⟨pa, pc, n, M, ok, rfl, hn9, hMn, hM9, fp⟩
              have FP0 := hide fp
              have HMn := hide hMn
              have HM9 := hide hM9
              clear fp hMn hM9 FRr
              go_wp2
              go_loopw [3, 4, 9] (fun ov sv iv W => ∃ (i s og oc : Nat) (zs : List Fnd), i ≤ n ∧ iv = .int .i64 i ∧ sv = .int .i64 s ∧ ov = .slice (some ⟨og, 0, none⟩) zs.length oc ∧ s ≤ 9 * t + i ∧ zs.length + 19 ≤ 19 * t + 2 * i ∧ Hid (∀ x ∈ zs, x.page.text.size ≤ 90) ∧ Hid (FP w W p ad len cap (.slice (some ⟨og, 0, none⟩) zs.length oc) zs (.slice pa n pc) n M)) (fun _ _ iv _ => n - (intOf iv).toNat)
              case atStart => exact ⟨0, s, og, oc, zs, Nat.zero_le _, rfl, rfl, rfl, by omega, by omega, HT, FP0⟩
              case round =>
                obtain ⟨i, s, og, oc, zs, hi, rfl, rfl, rfl, hs9, hz9, HT, F3⟩ := hrel
                clear FP0
                by_cases hlt3 : (i : Int) < n
                · obtain ⟨gp, hpa⟩ : ∃ g, pa = some ⟨g, 0, none⟩ := by
                    obtain ⟨y1, y2, e, h⟩ := F3.out.2.form
                    injection e with e1 e2 e3
                    obtain ⟨g, a1, -, -⟩ := h (by omega)
                    exact ⟨g, by rw [e1, a1]⟩
                  subst hpa
                  obtain ⟨⟨t0, t1, t2, t3, t4, t5⟩, hx⟩ : ∃ x, M[i]? = some x := ⟨_, List.getElem?_eq_getElem (by have := HMn.out; omega)⟩
                  obtain ⟨ht90, hc0, hc9⟩ := HM9.out _ (List.mem_of_getElem? hx)
                  simp only at ht90 hc0 hc9
                  have PC : Hid (∀ (W : World) {ov : Value} {zs : List Fnd}, FP w W p ad len cap ov zs (.slice (some ⟨gp, 0, none⟩) n pc) n M → W.cell? ⟨gp, i * 6, none⟩ = some (.int .i64 t0) ∧ W.cell? ⟨gp, i * 6 + 1, none⟩ = some (.int .i64 t1) ∧ W.cell? ⟨gp, i * 6 + 2, none⟩ = some (.int .i64 t2) ∧ W.cell? ⟨gp, i * 6 + 3, none⟩ = some (.int .i64 t3) ∧ W.cell? ⟨gp, i * 6 + 4, none⟩ = some (.int .i64 t4) ∧ W.cell? ⟨gp, i * 6 + 5, none⟩ = some (.string t5)) := by
                    intro W ov zs hF
                    have hc := fun j v hj => hF.2.flt.cell (pgcells_at M i _ hx j v hj)
                    exact ⟨hc 0 _ rfl, hc 1 _ rfl, hc 2 _ rfl, hc 3 _ rfl, hc 4 _ rfl, hc 5 _ rfl⟩
                  obtain ⟨s4, hs4⟩ : ∃ k, s / 4 = k := ⟨_, rfl⟩
                  obtain ⟨r4, hr4⟩ : ∃ k, s % 4 = k := ⟨_, rfl⟩
                  have ed : (s : Int).tdiv 4 = (s4 : Int) := by rw [← hs4]; rfl
                  have er : (s : Int).tmod 4 = (r4 : Int) := by rw [← hr4]; rfl
                  have ed2 : (s : Int) / 4 = (s4 : Int) := by omega
                  have er2 : (s : Int) % 4 = (r4 : Int) := by omega
                  have b4 : s4 ≤ s := by omega
                  have i0' : (0 : Int) ≤ i := by omega
                  clear hx hs4 hr4
                  go_wp2_with fail
                  refine (once_any 8 p ad len cap B _ (by omega) hl F3.out.1.1.2 (F3.out.1.1.code HD.out hB hpw) hB).mono ?_
                  rintro e x8 ⟨o8, rfl, d8⟩
                  have F8 := hide (F3.out.drawn d8 hpw)
                  clear d8 F3
                  cases o8 with
                  | true =>
                    have FA := F8
                    have HTA := HT
                    clear F8 HT
                    have hl3 : zs.length ≤ zs.length + 1 := by omega
                    go_wp2_with fail
                    refine (once_any 16 p ad len cap B _ (by omega) hl FA.out.1.1.2 (FA.out.1.1.code HD.out hB hpw) hB).mono ?_
                    rintro e x9 ⟨o9, rfl, d9⟩
                    have F9 := hide (FA.out.drawn d9 hpw)
                    clear d9 FA
                    cases o9 with
                    | true =>
                      obtain ⟨c0, c1, c2, c3, c4, c5⟩ := PC.out x9 F9.out
                      have wc : IntKind.i64.wrap (t4 + 1) = t4 + 1 := by rw [IntKind.wrap_i64]; omega
                      have BX : Hid (Below x9.heap.size x9 (x9.alloc (.cells #[.int .i64 t0, .int .i64 t1, .int .i64 t2, .int .i64 t3, .int .i64 (t4 + 1), .string t5] 40))) := (Below.refl _ _).alloc (Nat.le_refl _) _
                      have FX := hide (F9.out.below BX.out hpw)
                      have PX := hide (heap_alloc_new x9 (.cells #[.int .i64 t0, .int .i64 t1, .int .i64 t2, .int .i64 t3, .int .i64 (t4 + 1), .string t5] 40))
                      obtain ⟨xb, hxb⟩ : ∃ xb, x9.heap.size = xb := ⟨_, rfl⟩
                      rw [hxb] at PX
                      have HT := HTA
                      clear HTA BX F9
                      go_upto_region 21 with fail
                      try rw [hxb]
                      generalize x9.alloc (.cells #[.int .i64 t0, .int .i64 t1, .int .i64 t2, .int .i64 t3, .int .i64 (t4 + 1), .string t5] 40) = x10 at FX PX ⊢
                      have e0 := cell_of_row _ _ 0 _ _ _ PX.out
                      have e1 := cell_of_row _ _ 1 _ _ _ PX.out
                      have e2 := cell_of_row _ _ 2 _ _ _ PX.out
                      have e3 := cell_of_row _ _ 3 _ _ _ PX.out
                      have e4 := cell_of_row _ _ 4 _ _ _ PX.out
                      have e5 := cell_of_row _ _ 5 _ _ _ PX.out
                      clear c0 c1 c2 c3 c4 c5 hxb wc
                      have BN : Hid (Below x10.heap.size x10 (x10.alloc (.cells #[.int .i64 0, .int .i64 0, .int .i64 t0, .int .i64 t1, .int .i64 t2, .int .i64 t3, .int .i64 (t4 + 1), .string t5] 42))) := (Below.refl _ _).alloc (Nat.le_refl _) _
                      have SN := hide (FX.out.below BN.out hpw)
                      have OW := hide SN.out.1.2
                      have H1 := hide (fd_new x10 (⟨0, 0, ⟨t0, t1, t2, t3, t4 + 1, t5⟩⟩ : Fnd) x10.heap.size rfl)
                      have H2 := hide (fd_one (⟨0, 0, ⟨t0, t1, t2, t3, t4 + 1, t5⟩⟩ : Fnd))
                      simp only [fdCells] at H1 H2
                      have HSZ := hide SN.out.1.1.1.size
                      have HZ1 := hide ht90
                      go_wp2_with (at_builtin; refine wpList_append_own _ rfl _ _ 24 rfl w.heap.size 42 i0 (.agg #[.int .i64 0, .int .i64 0, .int .i64 0, .int .i64 0, .int .i64 0, .int .i64 0, .int .i64 0, .string ⟨#[]⟩]) 8 72 Try.underlying24 I0.out Y0.out Y1.out Y2.out rfl (by decide) _ _ _ rfl OW.out ⟨x10.heap.size, 0, none⟩ 1 1 [.int .i64 0, .int .i64 0, .int .i64 t0, .int .i64 t1, .int .i64 t2, .int .i64 t3, .int .i64 (t4 + 1), .string t5] rfl rfl H1.out H2.out ?c1 ?c2 HSZ.out ?_)
                      case c1 => unfold maxLen; omega
                      case c2 => omega
                      intro u' z ho hg2 _
                      have ho2 : z.ownsRow w.heap.size 42 8 u' (zs ++ [(⟨0, 0, ⟨t0, t1, t2, t3, t4 + 1, t5⟩⟩ : Fnd)]).length (fcells (zs ++ [(⟨0, 0, ⟨t0, t1, t2, t3, t4 + 1, t5⟩⟩ : Fnd)])) := by
                        rw [← fcells_snoc, List.length_append]
                        exact ho
                      have SZ := hide (SN.out.out hpw hg2 ho2)
                      have hl3 : (zs ++ [(⟨0, 0, ⟨t0, t1, t2, t3, t4 + 1, t5⟩⟩ : Fnd)]).length ≤ zs.length + 1 := by simp
                      have hl0 : 0 < (zs ++ [(⟨0, 0, ⟨t0, t1, t2, t3, t4 + 1, t5⟩⟩ : Fnd)]).length := by simp
                      have HT3 : Hid (∀ x ∈ zs ++ [(⟨0, 0, ⟨t0, t1, t2, t3, t4 + 1, t5⟩⟩ : Fnd)], x.page.text.size ≤ 90) := by
                        intro x hx
                        rcases List.mem_append.1 hx with h | h
                        · exact HT.out x h
                        · simp only [List.mem_singleton] at h; subst h; exact HZ1.out
                      generalize zs ++ [(⟨0, 0, ⟨t0, t1, t2, t3, t4 + 1, t5⟩⟩ : Fnd)] = zs2 at SZ HT3 hl3 hl0
                      rcases id SZ.out.1.2.2 with ⟨-, h0⟩ | ⟨og', oc', cur, rfl, -⟩
                      · omega
                      clear ho ho2 hg2 OW H1 H2 HSZ BN SN HZ1
                      clear e0 e1 e2 e3 e4 e5 FX PX
                      go_wp2
                      go_roundw
                      case rel => exact ⟨i + 1, s + 1, og', oc', zs2, by omega, by go_num, by go_num, rfl, by omega, by omega, HT3, SZ⟩
                      case measure => simp [intOf]; omega
                    | false =>
                      go_wp2
                      go_roundw
                      case rel => exact ⟨i + 1, s + 1, og, oc, zs, by omega, by go_num, by go_num, rfl, by omega, by omega, HTA, F9⟩
                      case measure => simp [intOf]; omega
                  | false =>
                    obtain ⟨c0, c1, c2, c3, c4, c5⟩ := PC.out x8 F8.out
                    have BN : Hid (Below x8.heap.size x8 (x8.alloc (.cells #[.int .i64 (s4 : Int), .int .i64 (r4 : Int), .int .i64 t0, .int .i64 t1, .int .i64 t2, .int .i64 t3, .int .i64 t4, .string t5] 42))) := (Below.refl _ _).alloc (Nat.le_refl _) _
                    have SN := hide (F8.out.below BN.out hpw)
                    have OW := hide SN.out.1.2
                    have H1 := hide (fd_new x8 (⟨(s4 : Int), (r4 : Int), ⟨t0, t1, t2, t3, t4, t5⟩⟩ : Fnd) x8.heap.size rfl)
                    have H2 := hide (fd_one (⟨(s4 : Int), (r4 : Int), ⟨t0, t1, t2, t3, t4, t5⟩⟩ : Fnd))
                    simp only [fdCells] at H1 H2
                    have HSZ := hide SN.out.1.1.1.size
                    have HZ1 := hide ht90
                    go_wp2_with (at_builtin; refine wpList_append_own _ rfl _ _ 24 rfl w.heap.size 42 i0 (.agg #[.int .i64 0, .int .i64 0, .int .i64 0, .int .i64 0, .int .i64 0, .int .i64 0, .int .i64 0, .string ⟨#[]⟩]) 8 72 Try.underlying24 I0.out Y0.out Y1.out Y2.out rfl (by decide) _ _ _ rfl OW.out ⟨x8.heap.size, 0, none⟩ 1 1 [.int .i64 (s4 : Int), .int .i64 (r4 : Int), .int .i64 t0, .int .i64 t1, .int .i64 t2, .int .i64 t3, .int .i64 t4, .string t5] rfl rfl H1.out H2.out ?c1 ?c2 HSZ.out ?_)
                    case c1 => unfold maxLen; omega
                    case c2 => omega
                    intro u' z ho hg2 _
                    have ho2 : z.ownsRow w.heap.size 42 8 u' (zs ++ [(⟨(s4 : Int), (r4 : Int), ⟨t0, t1, t2, t3, t4, t5⟩⟩ : Fnd)]).length (fcells (zs ++ [(⟨(s4 : Int), (r4 : Int), ⟨t0, t1, t2, t3, t4, t5⟩⟩ : Fnd)])) := by
                      rw [← fcells_snoc, List.length_append]
                      exact ho
                    have SZ := hide (SN.out.out hpw hg2 ho2)
                    have hl3 : (zs ++ [(⟨(s4 : Int), (r4 : Int), ⟨t0, t1, t2, t3, t4, t5⟩⟩ : Fnd)]).length ≤ zs.length + 1 := by simp
                    have hl0 : 0 < (zs ++ [(⟨(s4 : Int), (r4 : Int), ⟨t0, t1, t2, t3, t4, t5⟩⟩ : Fnd)]).length := by simp
                    have HT3 : Hid (∀ x ∈ zs ++ [(⟨(s4 : Int), (r4 : Int), ⟨t0, t1, t2, t3, t4, t5⟩⟩ : Fnd)], x.page.text.size ≤ 90) := by
                      intro x hx
                      rcases List.mem_append.1 hx with h | h
                      · exact HT.out x h
                      · simp only [List.mem_singleton] at h; subst h; exact HZ1.out
                    generalize zs ++ [(⟨(s4 : Int), (r4 : Int), ⟨t0, t1, t2, t3, t4, t5⟩⟩ : Fnd)] = zs2 at SZ HT3 hl3 hl0
                    rcases id SZ.out.1.2.2 with ⟨-, h0⟩ | ⟨og', oc', cur, rfl, -⟩
                    · omega
                    clear ho ho2 hg2 OW H1 H2 HSZ BN SN HZ1
                    clear c0 c1 c2 c3 c4 c5 F8 HT
                    have FA := SZ
                    clear SZ
                    have HTA := HT3
                    clear HT3
                    go_wp2_with fail
                    refine (once_any 16 p ad len cap B _ (by omega) hl FA.out.1.1.2 (FA.out.1.1.code HD.out hB hpw) hB).mono ?_
                    rintro e x9 ⟨o9, rfl, d9⟩
                    have F9 := hide (FA.out.drawn d9 hpw)
                    clear d9 FA
                    cases o9 with
                    | true =>
                      obtain ⟨c0, c1, c2, c3, c4, c5⟩ := PC.out x9 F9.out
                      have wc : IntKind.i64.wrap (t4 + 1) = t4 + 1 := by rw [IntKind.wrap_i64]; omega
                      have BX : Hid (Below x9.heap.size x9 (x9.alloc (.cells #[.int .i64 t0, .int .i64 t1, .int .i64 t2, .int .i64 t3, .int .i64 (t4 + 1), .string t5] 40))) := (Below.refl _ _).alloc (Nat.le_refl _) _
                      have FX := hide (F9.out.below BX.out hpw)
                      have PX := hide (heap_alloc_new x9 (.cells #[.int .i64 t0, .int .i64 t1, .int .i64 t2, .int .i64 t3, .int .i64 (t4 + 1), .string t5] 40))
                      obtain ⟨xb, hxb⟩ : ∃ xb, x9.heap.size = xb := ⟨_, rfl⟩
                      rw [hxb] at PX
                      have HT := HTA
                      clear HTA BX F9
                      go_upto_region 21 with fail
                      try rw [hxb]
                      generalize x9.alloc (.cells #[.int .i64 t0, .int .i64 t1, .int .i64 t2, .int .i64 t3, .int .i64 (t4 + 1), .string t5] 40) = x10 at FX PX ⊢
                      have e0 := cell_of_row _ _ 0 _ _ _ PX.out
                      have e1 := cell_of_row _ _ 1 _ _ _ PX.out
                      have e2 := cell_of_row _ _ 2 _ _ _ PX.out
                      have e3 := cell_of_row _ _ 3 _ _ _ PX.out
                      have e4 := cell_of_row _ _ 4 _ _ _ PX.out
                      have e5 := cell_of_row _ _ 5 _ _ _ PX.out
                      clear c0 c1 c2 c3 c4 c5 hxb wc
                      have hl4 := hl3
                      clear hl3
                      generalize hzz : zs2 = zs1 at FX HT hl4 hl0
                      clear hzz
                      have BN : Hid (Below x10.heap.size x10 (x10.alloc (.cells #[.int .i64 0, .int .i64 0, .int .i64 t0, .int .i64 t1, .int .i64 t2, .int .i64 t3, .int .i64 (t4 + 1), .string t5] 42))) := (Below.refl _ _).alloc (Nat.le_refl _) _
                      have SN := hide (FX.out.below BN.out hpw)
                      have OW := hide SN.out.1.2
                      have H1 := hide (fd_new x10 (⟨0, 0, ⟨t0, t1, t2, t3, t4 + 1, t5⟩⟩ : Fnd) x10.heap.size rfl)
                      have H2 := hide (fd_one (⟨0, 0, ⟨t0, t1, t2, t3, t4 + 1, t5⟩⟩ : Fnd))
                      simp only [fdCells] at H1 H2
                      have HSZ := hide SN.out.1.1.1.size
                      have HZ1 := hide ht90
                      go_wp2_with (at_builtin; refine wpList_append_own _ rfl _ _ 24 rfl w.heap.size 42 i0 (.agg #[.int .i64 0, .int .i64 0, .int .i64 0, .int .i64 0, .int .i64 0, .int .i64 0, .int .i64 0, .string ⟨#[]⟩]) 8 72 Try.underlying24 I0.out Y0.out Y1.out Y2.out rfl (by decide) _ _ _ rfl OW.out ⟨x10.heap.size, 0, none⟩ 1 1 [.int .i64 0, .int .i64 0, .int .i64 t0, .int .i64 t1, .int .i64 t2, .int .i64 t3, .int .i64 (t4 + 1), .string t5] rfl rfl H1.out H2.out ?c1 ?c2 HSZ.out ?_)
                      case c1 => unfold maxLen; omega
                      case c2 => omega
                      intro u' z ho hg2 _
                      have ho2 : z.ownsRow w.heap.size 42 8 u' (zs1 ++ [(⟨0, 0, ⟨t0, t1, t2, t3, t4 + 1, t5⟩⟩ : Fnd)]).length (fcells (zs1 ++ [(⟨0, 0, ⟨t0, t1, t2, t3, t4 + 1, t5⟩⟩ : Fnd)])) := by
                        rw [← fcells_snoc, List.length_append]
                        exact ho
                      have SZ := hide (SN.out.out hpw hg2 ho2)
                      have hl3 : (zs1 ++ [(⟨0, 0, ⟨t0, t1, t2, t3, t4 + 1, t5⟩⟩ : Fnd)]).length ≤ zs1.length + 1 := by simp
                      have hl0 : 0 < (zs1 ++ [(⟨0, 0, ⟨t0, t1, t2, t3, t4 + 1, t5⟩⟩ : Fnd)]).length := by simp
                      have HT3 : Hid (∀ x ∈ zs1 ++ [(⟨0, 0, ⟨t0, t1, t2, t3, t4 + 1, t5⟩⟩ : Fnd)], x.page.text.size ≤ 90) := by
                        intro x hx
                        rcases List.mem_append.1 hx with h | h
                        · exact HT.out x h
                        · simp only [List.mem_singleton] at h; subst h; exact HZ1.out
                      generalize zs1 ++ [(⟨0, 0, ⟨t0, t1, t2, t3, t4 + 1, t5⟩⟩ : Fnd)] = zs3 at SZ HT3 hl3 hl0
                      rcases id SZ.out.1.2.2 with ⟨-, h0⟩ | ⟨og'', oc'', cur, rfl, -⟩
                      · omega
                      clear ho ho2 hg2 OW H1 H2 HSZ BN SN HZ1
                      clear e0 e1 e2 e3 e4 e5 FX PX
                      go_wp2
                      go_roundw
                      case rel => exact ⟨i + 1, s + 1, og'', oc'', zs3, by omega, by go_num, by go_num, rfl, by omega, by omega, HT3, SZ⟩
                      case measure => simp [intOf]; omega
                    | false =>
                      go_wp2
                      go_roundw
                      case rel => exact ⟨i + 1, s + 1, og', oc', zs2, by omega, by go_num, by go_num, rfl, by omega, by omega, HTA, F9⟩
                      case measure => simp [intOf]; omega
                · have F4 := hide F3.out.1
                  clear F3
                  go_wp2_with fail
                  refine (once_any 4 p ad len cap B _ (by omega) hl F4.out.1.2 (F4.out.1.code HD.out hB hpw) hB).mono ?_
                  rintro e x7 ⟨o7, rfl, d7⟩
                  have F7 := hide (F4.out.drawn d7 hpw)
                  clear d7 F4
                  cases o7 with
                  | true =>
                    have h1x : (⟨#[120]⟩ : ByteArray).size ≤ 90 := by decide
                    have BN : Hid (Below x7.heap.size x7 (x7.alloc (.cells #[.int .i64 0, .int .i64 0, .int .i64 1, .int .i64 (s : Int), .int .i64 (t : Int), .int .i64 0, .int .i64 1, .string ⟨#[120]⟩] 42))) := (Below.refl _ _).alloc (Nat.le_refl _) _
                    have SN := hide (F7.out.below BN.out hpw)
                    have OW := hide SN.out.2
                    have H1 := hide (fd_new x7 (⟨0, 0, ⟨1, (s : Int), (t : Int), 0, 1, ⟨#[120]⟩⟩⟩ : Fnd) x7.heap.size rfl)
                    have H2 := hide (fd_one (⟨0, 0, ⟨1, (s : Int), (t : Int), 0, 1, ⟨#[120]⟩⟩⟩ : Fnd))
                    simp only [fdCells] at H1 H2
                    have HSZ := hide SN.out.1.1.size
                    have HZ1 := hide h1x
                    go_wp2_with (at_builtin; refine wpList_append_own _ rfl _ _ 24 rfl w.heap.size 42 i0 (.agg #[.int .i64 0, .int .i64 0, .int .i64 0, .int .i64 0, .int .i64 0, .int .i64 0, .int .i64 0, .string ⟨#[]⟩]) 8 72 Try.underlying24 I0.out Y0.out Y1.out Y2.out rfl (by decide) _ _ _ rfl OW.out ⟨x7.heap.size, 0, none⟩ 1 1 [.int .i64 0, .int .i64 0, .int .i64 1, .int .i64 (s : Int), .int .i64 (t : Int), .int .i64 0, .int .i64 1, .string ⟨#[120]⟩] rfl rfl H1.out H2.out ?c1 ?c2 HSZ.out ?_)
                    case c1 => unfold maxLen; omega
                    case c2 => omega
                    intro u' z ho hg2 _
                    have ho2 : z.ownsRow w.heap.size 42 8 u' (zs ++ [(⟨0, 0, ⟨1, (s : Int), (t : Int), 0, 1, ⟨#[120]⟩⟩⟩ : Fnd)]).length (fcells (zs ++ [(⟨0, 0, ⟨1, (s : Int), (t : Int), 0, 1, ⟨#[120]⟩⟩⟩ : Fnd)])) := by
                      rw [← fcells_snoc, List.length_append]
                      exact ho
                    have SZ := hide (SN.out.out hpw hg2 ho2)
                    have hl3 : (zs ++ [(⟨0, 0, ⟨1, (s : Int), (t : Int), 0, 1, ⟨#[120]⟩⟩⟩ : Fnd)]).length ≤ zs.length + 1 := by simp
                    have hl0 : 0 < (zs ++ [(⟨0, 0, ⟨1, (s : Int), (t : Int), 0, 1, ⟨#[120]⟩⟩⟩ : Fnd)]).length := by simp
                    have HT3 : Hid (∀ x ∈ zs ++ [(⟨0, 0, ⟨1, (s : Int), (t : Int), 0, 1, ⟨#[120]⟩⟩⟩ : Fnd)], x.page.text.size ≤ 90) := by
                      intro x hx
                      rcases List.mem_append.1 hx with h | h
                      · exact HT.out x h
                      · simp only [List.mem_singleton] at h; subst h; exact HZ1.out
                    generalize zs ++ [(⟨0, 0, ⟨1, (s : Int), (t : Int), 0, 1, ⟨#[120]⟩⟩⟩ : Fnd)] = zs2 at SZ HT3 hl3 hl0
                    rcases id SZ.out.2.2 with ⟨-, h0⟩ | ⟨og', oc', cur, rfl, -⟩
                    · omega
                    clear ho ho2 hg2 OW H1 H2 HSZ BN SN HZ1
                    clear F7
                    go_wp2
                    go_roundw
                    case rel => exact ⟨t + 1, s, og', oc', zs2, by omega, by omega, by go_num, rfl, rfl, by omega, by omega, HT3, SZ⟩
                    case measure => simp [intOf]; omega
                  | false =>
                    go_wp2
                    go_roundw
                    case rel => exact ⟨t + 1, s, og, oc, zs, by omega, by omega, by go_num, rfl, rfl, by omega, by omega, HT, F7⟩
                    case measure => simp [intOf]; omega
    · go_wp2_with fail
      go_ret
      exact ⟨og, oc, zs, rfl, by omega, HT.out, F1.out⟩
end Go.Proofs.Ytogfdhfmamabiaa
