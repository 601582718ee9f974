/-
  spec.ArenaOk, spec.l11Root.
-/
import Derived.Test.YtiicghepilbgfaaGreatDoorKnN
import Derived.Test.YtiicghepilbgfaaGreatDoorPk30
namespace Go.Proofs.YtiicghepilbgfaaGreatDoor
open Go.RowKit
open Words

/-- The arena's own box. -/
theorem box_at (w : World) (v : Value) : (w.alloc (.cells #[v] 53)).cell? ⟨w.heap.size, 0, none⟩ = some v := (cell_of_row _ _ 0 _ _ _ (heap_alloc_new w _)).trans rfl
theorem kw_at {rs : List Kw} {i : Nat} {r : Kw} (h : rs[i]? = some r) : (rs.map ktell)[i]? = some (ktell r) := by rw [List.getElem?_map, h]; rfl

set_option maxHeartbeats 2000000 in
set_option maxRecDepth 100000 in
theorem sarOk (ad : Option Addr) (len cap : Nat) (rs : List Kw) (w : World) (hl : len ≤ 1048578) (h : KnRd w ad len rs) :
    Calls Tryz.prog 99 #[.agg #[.slice ad len cap]] w fun e w' => e = .returned (.bool (arB (rs.map ktell))) ∧ Below w.heap.size w w' := by
  have H1 := hide h.1
  have BX := hide (box_at w (.slice ad len cap))
  have B0 : Hid (Below w.heap.size w (w.alloc (.cells #[.slice ad len cap] 53))) := (Below.refl _ _).alloc (Nat.le_refl _) _
  have H := hide (h.below B0.out)
  have hzz : w.heap.size < (w.alloc (.cells #[.slice ad len cap] 53)).heap.size := by simp
  have HZ := hide hzz
  clear h hzz
  obtain ⟨L, hL⟩ : ∃ L, rs.map ktell = L := ⟨_, rfl⟩
  have HL := hide hL
  rw [hL]
  clear hL
  go_enter Tryz.func99, Tryz.ntmps99
  go_wp2
  generalize w.alloc (.cells #[.slice ad len cap] 53) = wb at BX B0 H HZ ⊢
  obtain ⟨z, hz⟩ : ∃ z, w.heap.size = z := ⟨_, rfl⟩
  rw [hz] at BX HZ ⊢
  have HZW := hide hz
  clear hz
  go_loopw [3] (fun iv W => ∃ i : Nat, i ≤ len ∧ iv = .int .i64 i ∧ Hid (arK L i = true) ∧ Hid (Below wb.heap.size wb W)) (fun iv _ => len - (intOf iv).toNat)
  case atStart => exact ⟨0, Nat.zero_le _, rfl, rfl, Below.refl _ _⟩
  case round =>
    obtain ⟨i, hi, rfl, HA, HW⟩ := hrel
    have bx := (HW.out.cell (show z < wb.heap.size from HZ.out)).trans BX.out
    by_cases hlt : (i : Int) < len
    · obtain ⟨r, hr⟩ : ∃ r, rs[i]? = some r := ⟨_, List.getElem?_eq_getElem (by have := H1.out; omega)⟩
      obtain ⟨b, off, e, hb⟩ := H.out.adr (by omega)
      subst e
      have KR := hide (H.out.below HW.out)
      obtain ⟨c0, c1⟩ := KR.out.cell hr
      have KI := KR.out.2.2.1 r (List.mem_of_getElem? hr)
      have hLr : L[i]? = some (ktell r) := by rw [← HL.out]; exact kw_at hr
      obtain ⟨lf, kv, ks⟩ := r
      simp only at c0 c1 KI
      simp only [ktell] at hLr
      obtain ⟨ka, kc, e, -, kr⟩ := KI
      subst e
      have KROW := hide kr
      have HLR := hide hLr
      obtain ⟨kl, hkl⟩ : ∃ kl, ks.length = kl := ⟨_, rfl⟩
      have HKL := hide hkl
      rw [hkl] at c1 KROW
      have klm : kl ≤ maxLen := KROW.out.2.1
      unfold maxLen at klm
      clear kr hLr hkl hr hb
      have i0 : (0 : Int) ≤ i := by omega
      have BA : Hid (Below wr.heap.size wr (wr.alloc (.cells #[.bool lf, .slice ka kl kc] 176))) := (Below.refl _ _).alloc (Nat.le_refl _) _
      have X0 : Hid ((wr.alloc (.cells #[.bool lf, .slice ka kl kc] 176)).cell? ⟨wr.heap.size, 0, none⟩ = some (.bool lf) ∧ (wr.alloc (.cells #[.bool lf, .slice ka kl kc] 176)).cell? ⟨wr.heap.size, 1, none⟩ = some (.slice ka kl kc)) := ⟨(cell_of_row _ _ 0 _ _ _ (heap_alloc_new wr _)).trans rfl, (cell_of_row _ _ 1 _ _ _ (heap_alloc_new wr _)).trans rfl⟩
      by_cases hk4 : kl = 4
      · subst hk4
        have n4 : ((4 : Int) != 4) = false := by simp
        go_wp2
        clear n4
        have WX : Hid (Below wb.heap.size wb (wr.alloc (.cells #[.bool lf, .slice ka 4 kc] 176))) := HW.out.trans (BA.out.mono HW.out.size)
        have KX := hide (KR.out.below BA.out)
        have KRX := hide (KROW.out.below BA.out)
        have bx2 := (WX.out.cell (show z < wb.heap.size from HZ.out)).trans BX.out
        have x0 := X0.out.1
        have x1 := X0.out.2
        clear X0 BA KR KROW c0 c1 bx
        obtain ⟨y, hy⟩ : ∃ y, wr.heap.size = y := ⟨_, rfl⟩
        rw [hy] at x0 x1 ⊢
        clear hy
        generalize wr.alloc (.cells #[.bool lf, .slice ka 4 kc] 176) = wx at x0 x1 bx2 WX KX KRX ⊢
        go_loopw [5] (fun kv W => ∃ k : Nat, k ≤ 4 ∧ kv = .int .i64 k ∧ Hid (∀ j n, j < k → ks[j]? = some n → kidB L i lf n = true) ∧ W = wx) (fun kv _ => 4 - (intOf kv).toNat)
        case atStart => exact ⟨0, Nat.zero_le _, rfl, (fun j n hj => by omega), rfl⟩
        case round =>
          obtain ⟨k, hk, rfl, HKS, rfl⟩ := hrel
          by_cases hk4 : (k : Int) < 4
          · obtain ⟨n, hn⟩ : ∃ n, ks[k]? = some n := ⟨_, List.getElem?_eq_getElem (by have := HKL.out; omega)⟩
            obtain ⟨kb, ko, e, -, kcell⟩ := KRX.out.at hn
            subst e
            have k0 : (0 : Int) ≤ k := by omega
            have BAD : Hid (kidB L i lf n = false → arB L = false) := fun hb => arB_bad HLR.out (knB_bad (x := ⟨lf, ks⟩) hn hb)
            have GOOD : Hid (kidB L i lf n = true → ∀ j n', j < k + 1 → ks[j]? = some n' → kidB L i lf n' = true) := by
              intro hg j n' hj hn'
              by_cases e : j = k
              · subst e; rw [hn] at hn'; injection hn' with e2; rw [← e2]; exact hg
              · exact HKS.out j n' (by omega) hn'
            clear hn HKS
            cases lf with
            | true =>
              by_cases hneg : n < 0
              · have E := hide (BAD.out (by simp only [kidB, if_true]; exact decide_eq_false (by omega)))
                go_wp2
                go_ret
                exact ⟨congrArg (fun q => Ending.returned (.bool q)) E.out.symm, B0.out.trans (WX.out.mono B0.out.size)⟩
              · have E := hide (GOOD.out (by simp only [kidB, if_true]; exact decide_eq_true (by omega)))
                go_wp2
                go_roundw
                case rel => exact ⟨k + 1, by omega, by go_num, E, by trivial⟩
                case measure => simp [intOf]; omega
            | false =>
              by_cases hm1 : n = -1
              · subst hm1
                have E := hide (GOOD.out (by simp [kidB]))
                go_wp2
                go_roundw
                case rel => exact ⟨k + 1, by omega, by go_num, E, by trivial⟩
                case measure => simp [intOf]; omega
              · have nm1 : (n != -1) = true := by simpa using hm1
                have hwi : IntKind.i64.wrap ((i : Int) - 1) = (i : Int) - 1 := by rw [IntKind.wrap_i64]; omega
                go_wp2_with fail
                refine (sin_any n 0 ((i : Int) - 1) _).mono ?_
                rintro e w1 ⟨rfl, rfl⟩
                by_cases hin : 0 ≤ n ∧ n ≤ (i : Int) - 1
                · rw [decide_eq_true hin]
                  obtain ⟨m, rfl⟩ : ∃ m : Nat, n = (m : Int) := ⟨n.toNat, by omega⟩
                  obtain ⟨y2, hy2⟩ : ∃ y2, rs[m]? = some y2 := ⟨_, List.getElem?_eq_getElem (by have := H1.out; omega)⟩
                  have m0 : (0 : Int) ≤ m := by omega
                  have mL : (m : Int) < len := by omega
                  have lc := (KX.out.cell hy2).1
                  have hlm : knLeaf L (m : Int) = y2.1 := knLeaf_some (y := ktell y2) (by rw [← HL.out]; exact kw_at hy2)
                  obtain ⟨lf2, hlf2⟩ : ∃ lf2, y2.1 = lf2 := ⟨_, rfl⟩
                  rw [hlf2] at lc hlm
                  clear hy2 hlf2
                  cases lf2 with
                  | true =>
                    have E := hide (GOOD.out (by simp only [kidB, hlm]; simp; omega))
                    clear hlm
                    go_wp2
                    go_roundw
                    case rel => exact ⟨k + 1, by omega, by go_num, E, by trivial⟩
                    case measure => simp [intOf]; omega
                  | false =>
                    have E := hide (BAD.out (by simp [kidB, hlm]))
                    clear hlm
                    go_wp2
                    go_ret
                    exact ⟨congrArg (fun q => Ending.returned (.bool q)) E.out.symm, B0.out.trans (WX.out.mono B0.out.size)⟩
                · rw [decide_eq_false hin]
                  have E := hide (BAD.out (by simp only [kidB]; simp; omega))
                  go_wp2
                  go_ret
                  exact ⟨congrArg (fun q => Ending.returned (.bool q)) E.out.symm, B0.out.trans (WX.out.mono B0.out.size)⟩
          · have E : Hid (arK L (i + 1) = true) := by
              show _ = _
              rw [arK_succ HLR.out, HA.out, Bool.true_and, knB, Bool.and_eq_true, List.all_eq_true]
              refine ⟨decide_eq_true HKL.out, fun n hn => ?_⟩
              obtain ⟨j, hj⟩ := List.getElem?_of_mem hn
              exact HKS.out j n (by have := (List.getElem?_eq_some_iff.1 hj).1; have := HKL.out; simp only at *; omega) hj
            go_wp2
            go_roundw
            case rel => exact ⟨i + 1, by omega, by go_num, E, WX⟩
            case measure => simp [intOf]; omega
      · have E : Hid (arB L = false) := arB_bad HLR.out (by
          rw [knB]
          have : decide ((⟨lf, ks⟩ : Kn).kids.length = 4) = false := decide_eq_false (by have := HKL.out; simp only; omega)
          rw [this, Bool.false_and])
        have n4 : ((kl : Int) != 4) = true := by simp; omega
        have WX : Hid (Below wb.heap.size wb (wr.alloc (.cells #[.bool lf, .slice ka kl kc] 176))) := HW.out.trans (BA.out.mono HW.out.size)
        have x1 := X0.out.2
        go_wp2
        go_ret
        exact ⟨congrArg (fun q => Ending.returned (.bool q)) E.out.symm, B0.out.trans (WX.out.mono B0.out.size)⟩
    · have E : Hid (arB L = true) := by
        have hLl : L.length = len := by rw [← HL.out, List.length_map]; exact H1.out
        show _ = _
        rw [arB, hLl, show len = i by omega]
        exact HA.out
      go_wp2
      go_ret
      exact ⟨congrArg (fun q => Ending.returned (.bool q)) E.out.symm, B0.out.trans (HW.out.mono B0.out.size)⟩
set_option maxHeartbeats 400000 in
set_option maxRecDepth 100000 in
theorem sroot (ad : Option Addr) (len cap : Nat) (rs : List Kw) (r : Int) (w : World) (hl : len ≤ 1048578) (h : KnRd w ad len rs) :
    Calls Tryz.prog 100 #[.agg #[.slice ad len cap], .int .i64 r] w fun e w' => e = .returned (.bool (rootB (rs.map ktell) r)) ∧ Below w.heap.size w w' := by
  have bx := box_at w (.slice ad len cap)
  have B0 : Hid (Below w.heap.size w (w.alloc (.cells #[.slice ad len cap] 53))) := (Below.refl _ _).alloc (Nat.le_refl _) _
  have H := hide (h.below B0.out)
  have H1 := hide h.1
  clear h
  by_cases hr : r = -1
  · subst hr
    have E : Hid (rootB (rs.map ktell) (-1) = true) := by show _ = _; simp [rootB]
    rw [E.out]
    go_enter Tryz.func100, Tryz.ntmps100
    go_wp2
    go_ret
    exact ⟨rfl, B0.out⟩
  · have hr1 : (r == -1) = false := by simpa using hr
    have hwl : IntKind.i64.wrap ((len : Int) - 1) = (len : Int) - 1 := by rw [IntKind.wrap_i64]; omega
    have hlL : (rs.map ktell).length = len := by rw [List.length_map]; exact H1.out
    by_cases hin : 0 ≤ r ∧ r ≤ (len : Int) - 1
    · obtain ⟨m, rfl⟩ : ∃ m : Nat, r = (m : Int) := ⟨r.toNat, by omega⟩
      obtain ⟨b, off, e, -⟩ := H.out.adr (by omega)
      subst e
      obtain ⟨y, hy⟩ : ∃ y, rs[m]? = some y := ⟨_, List.getElem?_eq_getElem (by have := H1.out; omega)⟩
      have lc := (H.out.cell hy).1
      have hlm : knLeaf (rs.map ktell) (m : Int) = y.1 := knLeaf_some (y := ktell y) (kw_at hy)
      have E : Hid (rootB (rs.map ktell) (m : Int) = !y.1) := by
        show _ = _
        rw [rootB, hlm, hlL, decide_eq_false hr, decide_eq_true hin.1, decide_eq_true (show (m : Int) < len by omega)]
        simp
      rw [E.out]
      obtain ⟨lf, hlf⟩ : ∃ lf, y.1 = lf := ⟨_, rfl⟩
      rw [hlf] at lc ⊢
      have m0 : (0 : Int) ≤ m := by omega
      have mL : (m : Int) < len := by omega
      have D := hide (decide_eq_true hin)
      clear hy hlm hlf E hlL hin H
      go_enter Tryz.func100, Tryz.ntmps100
      go_wp2_with fail
      refine (sin_any (m : Int) 0 ((len : Int) - 1) _).mono ?_
      rintro e w1 ⟨rfl, rfl⟩
      rw [D.out]
      go_wp2
      go_ret
      exact ⟨rfl, B0.out⟩
    · have E : Hid (rootB (rs.map ktell) r = false) := by
        show _ = _
        rw [rootB, hlL, decide_eq_false hr]
        by_cases h0 : 0 ≤ r
        · rw [decide_eq_false (show ¬ r < (len : Int) by omega)]; simp
        · rw [decide_eq_false h0]; simp
      rw [E.out]
      have D := hide (decide_eq_false hin)
      clear E hlL hin H
      go_enter Tryz.func100, Tryz.ntmps100
      go_wp2_with fail
      refine (sin_any r 0 ((len : Int) - 1) _).mono ?_
      rintro e w1 ⟨rfl, rfl⟩
      rw [D.out]
      go_wp2
      go_ret
      exact ⟨rfl, B0.out⟩
end Go.Proofs.YtiicghepilbgfaaGreatDoor
