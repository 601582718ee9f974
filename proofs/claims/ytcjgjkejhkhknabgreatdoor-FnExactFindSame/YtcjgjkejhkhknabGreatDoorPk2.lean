/-
  SIn; SArOk; SGet; SAll
-/
import Derived.Test.YtcjgjkejhkhknabGreatDoorPk0
import Derived.Test.YtcjgjkejhkhknabGreatDoorPk1
/-
  spec.l01In.
-/
namespace Go.Proofs.YtcjgjkejhkhknabGreatDoor
open Go.RowKit
set_option maxHeartbeats 400000 in
set_option maxRecDepth 100000 in
theorem sin_b (x lo hi : Int) (b : Bool) (w : World) (h : (lo ≤ x ∧ x ≤ hi ∧ b = true) ∨ ((x < lo ∨ lo ≤ x ∧ ¬ x ≤ hi) ∧ b = false)) :
    Calls Tryz.prog 63 #[.int .i64 x, .int .i64 lo, .int .i64 hi] w fun e w' => e = .returned (.bool b) ∧ w' = w := by
  rcases h with ⟨h1, h2, rfl⟩ | ⟨h1 | ⟨h1, h2⟩, rfl⟩
  all_goals
    go_enter Tryz.func63, Tryz.ntmps63
    go_wp2
    go_ret
    exact ⟨rfl, rfl⟩
theorem sin_any (x lo hi : Int) (w : World) :
    Calls Tryz.prog 63 #[.int .i64 x, .int .i64 lo, .int .i64 hi] w fun e w' => e = .returned (.bool (decide (lo ≤ x ∧ x ≤ hi))) ∧ w' = w := by
  apply sin_b
  by_cases h : lo ≤ x ∧ x ≤ hi
  · exact .inl ⟨h.1, h.2, decide_eq_true h⟩
  · exact .inr ⟨by omega, decide_eq_false h⟩
end Go.Proofs.YtcjgjkejhkhknabGreatDoor

/-
  spec.ArenaOk, spec.l11Root.
-/
namespace Go.Proofs.YtcjgjkejhkhknabGreatDoor
open Go.RowKit
open Words

/-- The arena's own box. -/
theorem box_at (w : World) (v : Value) : (w.alloc (.cells #[v] 47)).cell? ⟨w.heap.size, 0, none⟩ = some v := (cell_of_row _ _ 0 _ _ _ (heap_alloc_new w _)).trans rfl
theorem kw_at {rs : List Kw} {i : Nat} {r : Kw} (h : rs[i]? = some r) : (rs.map ktell)[i]? = some (ktell r) := by rw [List.getElem?_map, h]; rfl

set_option maxHeartbeats 2000000 in
set_option maxRecDepth 100000 in
theorem sarOk (ad : Option Addr) (len cap : Nat) (rs : List Kw) (w : World) (hl : len ≤ 1048578) (h : KnRd w ad len rs) :
    Calls Tryz.prog 110 #[.agg #[.slice ad len cap]] w fun e w' => e = .returned (.bool (arB (rs.map ktell))) ∧ Below w.heap.size w w' := by
  have H1 := hide h.1
  have BX := hide (box_at w (.slice ad len cap))
  have B0 : Hid (Below w.heap.size w (w.alloc (.cells #[.slice ad len cap] 47))) := (Below.refl _ _).alloc (Nat.le_refl _) _
  have H := hide (h.below B0.out)
  have hzz : w.heap.size < (w.alloc (.cells #[.slice ad len cap] 47)).heap.size := by simp
  have HZ := hide hzz
  clear h hzz
  obtain ⟨L, hL⟩ : ∃ L, rs.map ktell = L := ⟨_, rfl⟩
  have HL := hide hL
  rw [hL]
  clear hL
  go_enter Tryz.func110, Tryz.ntmps110
  go_wp2
  generalize w.alloc (.cells #[.slice ad len cap] 47) = wb at BX B0 H HZ ⊢
  obtain ⟨z, hz⟩ : ∃ z, w.heap.size = z := ⟨_, rfl⟩
  rw [hz] at BX HZ ⊢
  have HZW := hide hz
  clear hz
  go_loopw [3] (fun iv W => ∃ i : Nat, i ≤ len ∧ iv = .int .i64 i ∧ Hid (arK L i = true) ∧ Hid (Below wb.heap.size wb W)) (fun iv _ => len - (intOf iv).toNat)
  case atStart => exact ⟨0, Nat.zero_le _, rfl, rfl, Below.refl _ _⟩
  case round =>
    obtain ⟨i, hi, rfl, HA, HW⟩ := hrel
    have bx := (HW.out.cell (show z < wb.heap.size from HZ.out)).trans BX.out
    by_cases hlt : (i : Int) < len
    · obtain ⟨r, hr⟩ : ∃ r, rs[i]? = some r := ⟨_, List.getElem?_eq_getElem (by have := H1.out; omega)⟩
      obtain ⟨b, off, e, hb⟩ := H.out.adr (by omega)
      subst e
      have KR := hide (H.out.below HW.out)
      obtain ⟨c0, c1⟩ := KR.out.cell hr
      have KI := KR.out.2.2.1 r (List.mem_of_getElem? hr)
      have hLr : L[i]? = some (ktell r) := by rw [← HL.out]; exact kw_at hr
      obtain ⟨lf, kv, ks⟩ := r
      simp only at c0 c1 KI
      simp only [ktell] at hLr
      obtain ⟨ka, kc, e, -, kr⟩ := KI
      subst e
      have KROW := hide kr
      have HLR := hide hLr
      obtain ⟨kl, hkl⟩ : ∃ kl, ks.length = kl := ⟨_, rfl⟩
      have HKL := hide hkl
      rw [hkl] at c1 KROW
      have klm : kl ≤ maxLen := KROW.out.2.1
      unfold maxLen at klm
      clear kr hLr hkl hr hb
      have i0 : (0 : Int) ≤ i := by omega
      have BA : Hid (Below wr.heap.size wr (wr.alloc (.cells #[.bool lf, .slice ka kl kc] 143))) := (Below.refl _ _).alloc (Nat.le_refl _) _
      have X0 : Hid ((wr.alloc (.cells #[.bool lf, .slice ka kl kc] 143)).cell? ⟨wr.heap.size, 0, none⟩ = some (.bool lf) ∧ (wr.alloc (.cells #[.bool lf, .slice ka kl kc] 143)).cell? ⟨wr.heap.size, 1, none⟩ = some (.slice ka kl kc)) := ⟨(cell_of_row _ _ 0 _ _ _ (heap_alloc_new wr _)).trans rfl, (cell_of_row _ _ 1 _ _ _ (heap_alloc_new wr _)).trans rfl⟩
      by_cases hk4 : kl = 4
      · subst hk4
        have n4 : ((4 : Int) != 4) = false := by simp
        go_wp2
        clear n4
        have WX : Hid (Below wb.heap.size wb (wr.alloc (.cells #[.bool lf, .slice ka 4 kc] 143))) := HW.out.trans (BA.out.mono HW.out.size)
        have KX := hide (KR.out.below BA.out)
        have KRX := hide (KROW.out.below BA.out)
        have bx2 := (WX.out.cell (show z < wb.heap.size from HZ.out)).trans BX.out
        have x0 := X0.out.1
        have x1 := X0.out.2
        clear X0 BA KR KROW c0 c1 bx
        obtain ⟨y, hy⟩ : ∃ y, wr.heap.size = y := ⟨_, rfl⟩
        rw [hy] at x0 x1 ⊢
        clear hy
        generalize wr.alloc (.cells #[.bool lf, .slice ka 4 kc] 143) = wx at x0 x1 bx2 WX KX KRX ⊢
        go_loopw [5] (fun kv W => ∃ k : Nat, k ≤ 4 ∧ kv = .int .i64 k ∧ Hid (∀ j n, j < k → ks[j]? = some n → kidB L i lf n = true) ∧ W = wx) (fun kv _ => 4 - (intOf kv).toNat)
        case atStart => exact ⟨0, Nat.zero_le _, rfl, (fun j n hj => by omega), rfl⟩
        case round =>
          obtain ⟨k, hk, rfl, HKS, rfl⟩ := hrel
          by_cases hk4 : (k : Int) < 4
          · obtain ⟨n, hn⟩ : ∃ n, ks[k]? = some n := ⟨_, List.getElem?_eq_getElem (by have := HKL.out; omega)⟩
            obtain ⟨kb, ko, e, -, kcell⟩ := KRX.out.at hn
            subst e
            have k0 : (0 : Int) ≤ k := by omega
            have BAD : Hid (kidB L i lf n = false → arB L = false) := fun hb => arB_bad HLR.out (knB_bad (x := ⟨lf, ks⟩) hn hb)
            have GOOD : Hid (kidB L i lf n = true → ∀ j n', j < k + 1 → ks[j]? = some n' → kidB L i lf n' = true) := by
              intro hg j n' hj hn'
              by_cases e : j = k
              · subst e; rw [hn] at hn'; injection hn' with e2; rw [← e2]; exact hg
              · exact HKS.out j n' (by omega) hn'
            clear hn HKS
            cases lf with
            | true =>
              by_cases hneg : n < 0
              · have E := hide (BAD.out (by simp only [kidB, if_true]; exact decide_eq_false (by omega)))
                go_wp2
                go_ret
                exact ⟨congrArg (fun q => Ending.returned (.bool q)) E.out.symm, B0.out.trans (WX.out.mono B0.out.size)⟩
              · have E := hide (GOOD.out (by simp only [kidB, if_true]; exact decide_eq_true (by omega)))
                go_wp2
                go_roundw
                case rel => exact ⟨k + 1, by omega, by go_num, E, by trivial⟩
                case measure => simp [intOf]; omega
            | false =>
              by_cases hm1 : n = -1
              · subst hm1
                have E := hide (GOOD.out (by simp [kidB]))
                go_wp2
                go_roundw
                case rel => exact ⟨k + 1, by omega, by go_num, E, by trivial⟩
                case measure => simp [intOf]; omega
              · have nm1 : (n != -1) = true := by simpa using hm1
                have hwi : IntKind.i64.wrap ((i : Int) - 1) = (i : Int) - 1 := by rw [IntKind.wrap_i64]; omega
                go_wp2_with fail
                refine (sin_any n 0 ((i : Int) - 1) _).mono ?_
                rintro e w1 ⟨rfl, rfl⟩
                by_cases hin : 0 ≤ n ∧ n ≤ (i : Int) - 1
                · rw [decide_eq_true hin]
                  obtain ⟨m, rfl⟩ : ∃ m : Nat, n = (m : Int) := ⟨n.toNat, by omega⟩
                  obtain ⟨y2, hy2⟩ : ∃ y2, rs[m]? = some y2 := ⟨_, List.getElem?_eq_getElem (by have := H1.out; omega)⟩
                  have m0 : (0 : Int) ≤ m := by omega
                  have mL : (m : Int) < len := by omega
                  have lc := (KX.out.cell hy2).1
                  have hlm : knLeaf L (m : Int) = y2.1 := knLeaf_some (y := ktell y2) (by rw [← HL.out]; exact kw_at hy2)
                  obtain ⟨lf2, hlf2⟩ : ∃ lf2, y2.1 = lf2 := ⟨_, rfl⟩
                  rw [hlf2] at lc hlm
                  clear hy2 hlf2
                  cases lf2 with
                  | true =>
                    have E := hide (GOOD.out (by simp only [kidB, hlm]; simp; omega))
                    clear hlm
                    go_wp2
                    go_roundw
                    case rel => exact ⟨k + 1, by omega, by go_num, E, by trivial⟩
                    case measure => simp [intOf]; omega
                  | false =>
                    have E := hide (BAD.out (by simp [kidB, hlm]))
                    clear hlm
                    go_wp2
                    go_ret
                    exact ⟨congrArg (fun q => Ending.returned (.bool q)) E.out.symm, B0.out.trans (WX.out.mono B0.out.size)⟩
                · rw [decide_eq_false hin]
                  have E := hide (BAD.out (by simp only [kidB]; simp; omega))
                  go_wp2
                  go_ret
                  exact ⟨congrArg (fun q => Ending.returned (.bool q)) E.out.symm, B0.out.trans (WX.out.mono B0.out.size)⟩
          · have E : Hid (arK L (i + 1) = true) := by
              show _ = _
              rw [arK_succ HLR.out, HA.out, Bool.true_and, knB, Bool.and_eq_true, List.all_eq_true]
              refine ⟨decide_eq_true HKL.out, fun n hn => ?_⟩
              obtain ⟨j, hj⟩ := List.getElem?_of_mem hn
              exact HKS.out j n (by have := (List.getElem?_eq_some_iff.1 hj).1; have := HKL.out; simp only at *; omega) hj
            go_wp2
            go_roundw
            case rel => exact ⟨i + 1, by omega, by go_num, E, WX⟩
            case measure => simp [intOf]; omega
      · have E : Hid (arB L = false) := arB_bad HLR.out (by
          rw [knB]
          have : decide ((⟨lf, ks⟩ : Kn).kids.length = 4) = false := decide_eq_false (by have := HKL.out; simp only; omega)
          rw [this, Bool.false_and])
        have n4 : ((kl : Int) != 4) = true := by simp; omega
        have WX : Hid (Below wb.heap.size wb (wr.alloc (.cells #[.bool lf, .slice ka kl kc] 143))) := HW.out.trans (BA.out.mono HW.out.size)
        have x1 := X0.out.2
        go_wp2
        go_ret
        exact ⟨congrArg (fun q => Ending.returned (.bool q)) E.out.symm, B0.out.trans (WX.out.mono B0.out.size)⟩
    · have E : Hid (arB L = true) := by
        have hLl : L.length = len := by rw [← HL.out, List.length_map]; exact H1.out
        show _ = _
        rw [arB, hLl, show len = i by omega]
        exact HA.out
      go_wp2
      go_ret
      exact ⟨congrArg (fun q => Ending.returned (.bool q)) E.out.symm, B0.out.trans (HW.out.mono B0.out.size)⟩
set_option maxHeartbeats 400000 in
set_option maxRecDepth 100000 in
theorem sroot (ad : Option Addr) (len cap : Nat) (rs : List Kw) (r : Int) (w : World) (hl : len ≤ 1048578) (h : KnRd w ad len rs) :
    Calls Tryz.prog 111 #[.agg #[.slice ad len cap], .int .i64 r] w fun e w' => e = .returned (.bool (rootB (rs.map ktell) r)) ∧ Below w.heap.size w w' := by
  have bx := box_at w (.slice ad len cap)
  have B0 : Hid (Below w.heap.size w (w.alloc (.cells #[.slice ad len cap] 47))) := (Below.refl _ _).alloc (Nat.le_refl _) _
  have H := hide (h.below B0.out)
  have H1 := hide h.1
  clear h
  by_cases hr : r = -1
  · subst hr
    have E : Hid (rootB (rs.map ktell) (-1) = true) := by show _ = _; simp [rootB]
    rw [E.out]
    go_enter Tryz.func111, Tryz.ntmps111
    go_wp2
    go_ret
    exact ⟨rfl, B0.out⟩
  · have hr1 : (r == -1) = false := by simpa using hr
    have hwl : IntKind.i64.wrap ((len : Int) - 1) = (len : Int) - 1 := by rw [IntKind.wrap_i64]; omega
    have hlL : (rs.map ktell).length = len := by rw [List.length_map]; exact H1.out
    by_cases hin : 0 ≤ r ∧ r ≤ (len : Int) - 1
    · obtain ⟨m, rfl⟩ : ∃ m : Nat, r = (m : Int) := ⟨r.toNat, by omega⟩
      obtain ⟨b, off, e, -⟩ := H.out.adr (by omega)
      subst e
      obtain ⟨y, hy⟩ : ∃ y, rs[m]? = some y := ⟨_, List.getElem?_eq_getElem (by have := H1.out; omega)⟩
      have lc := (H.out.cell hy).1
      have hlm : knLeaf (rs.map ktell) (m : Int) = y.1 := knLeaf_some (y := ktell y) (kw_at hy)
      have E : Hid (rootB (rs.map ktell) (m : Int) = !y.1) := by
        show _ = _
        rw [rootB, hlm, hlL, decide_eq_false hr, decide_eq_true hin.1, decide_eq_true (show (m : Int) < len by omega)]
        simp
      rw [E.out]
      obtain ⟨lf, hlf⟩ : ∃ lf, y.1 = lf := ⟨_, rfl⟩
      rw [hlf] at lc ⊢
      have m0 : (0 : Int) ≤ m := by omega
      have mL : (m : Int) < len := by omega
      have D := hide (decide_eq_true hin)
      clear hy hlm hlf E hlL hin H
      go_enter Tryz.func111, Tryz.ntmps111
      go_wp2_with fail
      refine (sin_any (m : Int) 0 ((len : Int) - 1) _).mono ?_
      rintro e w1 ⟨rfl, rfl⟩
      rw [D.out]
      go_wp2
      go_ret
      exact ⟨rfl, B0.out⟩
    · have E : Hid (rootB (rs.map ktell) r = false) := by
        show _ = _
        rw [rootB, hlL, decide_eq_false hr]
        by_cases h0 : 0 ≤ r
        · rw [decide_eq_false (show ¬ r < (len : Int) by omega)]; simp
        · rw [decide_eq_false h0]; simp
      rw [E.out]
      have D := hide (decide_eq_false hin)
      clear E hlL hin H
      go_enter Tryz.func111, Tryz.ntmps111
      go_wp2_with fail
      refine (sin_any r 0 ((len : Int) - 1) _).mono ?_
      rintro e w1 ⟨rfl, rfl⟩
      rw [D.out]
      go_wp2
      go_ret
      exact ⟨rfl, B0.out⟩
end Go.Proofs.YtcjgjkejhkhknabGreatDoor

/-
  spec.l11Get, spec.GetAt.
-/
namespace Go.Proofs.YtcjgjkejhkhknabGreatDoor
open Go.RowKit
open Words

/-- A knot's cells, and its children's. -/
theorem KnRd.kids {W : World} {b off len : Nat} {rs : List Kw} (h : KnRd W (some ⟨b, off, none⟩) len rs) {k : Nat} {x : Kn} (hk : (rs.map ktell)[k]? = some x) :
    ∃ ka kc, W.cell? ⟨b, off + k * 2, none⟩ = some (.bool x.leaf) ∧ W.cell? ⟨b, off + k * 2 + 1, none⟩ = some (.slice ka x.kids.length kc) ∧ IRow W ka x.kids.length x.kids := by
  rw [List.getElem?_map] at hk
  obtain ⟨r, hr, rfl⟩ := Option.map_eq_some_iff.1 hk
  obtain ⟨c0, c1⟩ := h.cell hr
  obtain ⟨ka, kc, e, -, kr⟩ := h.2.2.1 r (List.mem_of_getElem? hr)
  exact ⟨ka, kc, c0, by rw [c1, e]; rfl, kr⟩

set_option maxHeartbeats 400000 in
set_option maxRecDepth 100000 in
theorem sget (ad : Option Addr) (len cap : Nat) (rs : List Kw) (r : Int) (s : Nat) (w : World) (hl : len ≤ 1048578) (h : KnRd w ad len rs) (ha : arB (rs.map ktell) = true) (hr : rootB (rs.map ktell) r = true) (hs : s ≤ 15) :
    Calls Tryz.prog 112 #[.agg #[.slice ad len cap], .int .i64 r, .int .i64 s] w fun e w' => e = .returned (.int .i64 (getP (rs.map ktell) r s)) ∧ Below w.heap.size w w' := by
  have bx := box_at w (.slice ad len cap)
  have B0 : Hid (Below w.heap.size w (w.alloc (.cells #[.slice ad len cap] 47))) := (Below.refl _ _).alloc (Nat.le_refl _) _
  have H := hide (h.below B0.out)
  have hlL : (rs.map ktell).length = len := by rw [List.length_map]; exact h.1
  clear h
  by_cases hneg : r < 0
  · have E : Hid (getP (rs.map ktell) r s = 0) := if_pos hneg
    rw [E.out]
    clear E ha hr hlL
    go_enter Tryz.func112, Tryz.ntmps112
    go_wp2
    go_ret
    exact ⟨rfl, B0.out⟩
  · obtain ⟨m, rfl⟩ : ∃ m : Nat, r = (m : Int) := ⟨r.toNat, by omega⟩
    obtain ⟨x, hx, hxl⟩ := rootB_pos hr (by omega)
    have hml : m < len := by have := (List.getElem?_eq_some_iff.1 hx).1; rw [hlL] at this; simpa using this
    obtain ⟨b, off, e, -⟩ := H.out.adr (by omega)
    subst e
    obtain ⟨q, hq⟩ : ∃ q, s / 4 = q := ⟨_, rfl⟩
    obtain ⟨t, ht⟩ : ∃ t, s % 4 = t := ⟨_, rfl⟩
    have hq4 : q < 4 := by omega
    have ht4 : t < 4 := by omega
    have tq : (s : Int).tdiv 4 = (q : Int) := by rw [Int.tdiv_eq_ediv_of_nonneg (by omega)]; omega
    have tt : (s : Int).tmod 4 = (t : Int) := by rw [Int.tmod_eq_emod_of_nonneg (by omega)]; omega
    have tq2 : (s : Int) / 4 = (q : Int) := by omega
    have tt2 : (s : Int) % 4 = (t : Int) := by omega
    have x4 := knB_len (arB_at ha hx)
    obtain ⟨n, hn, hcase⟩ := inner_kid ha hx hxl hq4
    have hka : kidAt (rs.map ktell) (m : Int) q = n := kidAt_some hx hn
    obtain ⟨ka, kc, -, c1, kr⟩ := H.out.kids hx
    rw [x4] at c1 kr
    simp only [Int.toNat_natCast] at c1
    obtain ⟨kb, ko, e, -, kncell⟩ := kr.at hn
    subst e
    have m0 : (0 : Int) ≤ m := by omega
    have mL : (m : Int) < len := by omega
    have q0 : (0 : Int) ≤ q := by omega
    have q4 : (q : Int) < 4 := by omega
    rcases hcase with rfl | ⟨n0, nm, y, hy, hyl, hy4⟩
    · have E : Hid (getP (rs.map ktell) (m : Int) s = 0) := by show _ = _; rw [getP, if_neg hneg, hq, hka, if_pos (by omega)]
      rw [E.out]
      clear E ha hr hlL hq ht hka hn hx kr hneg H x4
      go_enter Tryz.func112, Tryz.ntmps112
      go_wp2
      go_ret
      exact ⟨rfl, B0.out⟩
    · obtain ⟨j, rfl⟩ : ∃ j : Nat, n = (j : Int) := ⟨n.toNat, by omega⟩
      obtain ⟨v, hv, -⟩ := leaf_kid ha hy hyl ht4
      have hkb : kidAt (rs.map ktell) (j : Int) t = v := kidAt_some hy hv
      obtain ⟨la, lc, -, d1, lr⟩ := H.out.kids hy
      rw [hy4] at d1 lr
      simp only [Int.toNat_natCast] at d1
      obtain ⟨lb, lo, e, -, lcell⟩ := lr.at hv
      subst e
      have j0 : (0 : Int) ≤ j := by omega
      have jL : (j : Int) < len := by simp only [Int.toNat_natCast] at nm; omega
      have t0 : (0 : Int) ≤ t := by omega
      have t4 : (t : Int) < 4 := by omega
      have E : Hid (getP (rs.map ktell) (m : Int) s = v) := by show _ = _; rw [getP, if_neg hneg, hq, ht, hka, if_neg (by omega), hkb]
      rw [E.out]
      clear E ha hr hlL hq ht hka hkb hn hx kr lr hneg H x4 hy hv hy4 nm n0
      go_enter Tryz.func112, Tryz.ntmps112
      go_wp2
      go_ret
      exact ⟨rfl, B0.out⟩
set_option maxHeartbeats 400000 in
set_option maxRecDepth 100000 in
theorem sgetAt (ad : Option Addr) (len cap : Nat) (rs : List Kw) (r s : Int) (w : World) (hl : len ≤ 1048578) (h : KnRd w ad len rs) :
    Calls Tryz.prog 78 #[.agg #[.slice ad len cap], .int .i64 r, .int .i64 s] w fun e w' => e = .returned (.int .i64 (getT (rs.map ktell) r s)) ∧ Below w.heap.size w w' := by
  have BX := hide (box_at w (.slice ad len cap))
  have B0 : Hid (Below w.heap.size w (w.alloc (.cells #[.slice ad len cap] 47))) := (Below.refl _ _).alloc (Nat.le_refl _) _
  have H := hide (h.below B0.out)
  have HZ := hide (show w.heap.size < (w.alloc (.cells #[.slice ad len cap] 47)).heap.size by simp)
  clear h
  have bx := BX.out
  go_enter Tryz.func78, Tryz.ntmps78
  go_wp2_with fail
  generalize w.alloc (.cells #[.slice ad len cap] 47) = wb at BX bx B0 H HZ ⊢
  obtain ⟨z, hz⟩ : ∃ z, w.heap.size = z := ⟨_, rfl⟩
  rw [hz] at BX bx HZ ⊢
  refine (sarOk ad len cap rs wb hl H.out).mono ?_
  rintro e w1 ⟨rfl, b1⟩
  have BX1 := hide ((b1.cell (show z < wb.heap.size from HZ.out)).trans BX.out)
  have B1 := hide b1
  clear bx b1
  have bx := BX1.out
  have HF1 : Hid (Below w.heap.size w w1) := B0.out.trans (B1.out.mono B0.out.size)
  cases hA : arB (rs.map ktell) with
  | false =>
    have E : Hid (getT (rs.map ktell) r s = 0) := if_neg (by rw [askB, hA]; simp)
    clear hA
    go_wp2
    go_ret
    exact ⟨congrArg (fun q => Ending.returned (.int .i64 q)) E.out.symm, HF1.out⟩
  | true =>
    have HA := hide hA
    go_wp2_with fail
    refine (sroot ad len cap rs r w1 hl (H.out.below B1.out)).mono ?_
    rintro e w2 ⟨rfl, b2⟩
    have BX2 := hide ((b2.cell (show z < w1.heap.size from Nat.lt_of_lt_of_le HZ.out B1.out.size)).trans BX1.out)
    have B2 := hide (B1.out.trans (b2.mono B1.out.size))
    clear bx b2 hA
    have bx := BX2.out
    have HF2 : Hid (Below w.heap.size w w2) := B0.out.trans (B2.out.mono B0.out.size)
    cases hR : rootB (rs.map ktell) r with
    | false =>
      have E : Hid (getT (rs.map ktell) r s = 0) := if_neg (by rw [askB, hR]; simp)
      clear hR
      go_wp2
      go_ret
      exact ⟨congrArg (fun q => Ending.returned (.int .i64 q)) E.out.symm, HF2.out⟩
    | true =>
      have HR := hide hR
      clear hR
      go_wp2_with fail
      refine (sin_any s 0 15 _).mono ?_
      rintro e w3 ⟨rfl, rfl⟩
      by_cases hin : 0 ≤ s ∧ s ≤ 15
      · have hask : askB (rs.map ktell) r s = true := by rw [askB, HA.out, HR.out, decide_eq_true hin.1, decide_eq_true hin.2]; rfl
        have E : Hid (getT (rs.map ktell) r s = getP (rs.map ktell) r s.toNat) := if_pos hask
        rw [decide_eq_true hin]
        obtain ⟨t, rfl⟩ : ∃ t : Nat, s = (t : Int) := ⟨s.toNat, by omega⟩
        simp only [Int.toNat_natCast] at E
        have ht : t ≤ 15 := by omega
        clear hask hin
        go_wp2_with fail
        refine (sget ad len cap rs r t _ hl (H.out.below B2.out) HA.out HR.out ht).mono ?_
        rintro e w4 ⟨rfl, b4⟩
        have HF := hide (HF2.out.trans (b4.mono HF2.out.size))
        clear b4
        go_wp2
        go_ret
        exact ⟨congrArg (fun q => Ending.returned (.int .i64 q)) E.out.symm, HF.out⟩
      · have E : Hid (getT (rs.map ktell) r s = 0) := if_neg (by
          rw [askB]
          simp only [Bool.and_eq_true, decide_eq_true_eq]
          rintro ⟨-, h1, h2⟩
          exact hin ⟨h1, h2⟩)
        rw [decide_eq_false hin]
        clear hin
        go_wp2
        go_ret
        exact ⟨congrArg (fun q => Ending.returned (.int .i64 q)) E.out.symm, HF2.out⟩
end Go.Proofs.YtcjgjkejhkhknabGreatDoor

/-
  spec.AllAt.
-/
namespace Go.Proofs.YtcjgjkejhkhknabGreatDoor
open Go.RowKit
open Words

/-- A row of numbers of the call's own. -/
def IOut (w : World) (l : List Int) (e : Ending) (w' : World) : Prop := ∃ v, e = .returned v ∧ w'.ownsRow w.heap.size 3 1 v l.length (icells l) ∧ Below w.heap.size w w'
theorem allT_len (l : List Kn) (r : Int) : (allT l r).length = 16 := by simp [allT]
theorem allT_take (l : List Kn) (r : Int) {k : Nat} (hk : k < 16) : (allT l r).take (k + 1) = (allT l r).take k ++ [getT l r k] := by
  rw [List.take_add_one, allT, List.getElem?_map, List.getElem?_range hk]
  rfl

set_option maxHeartbeats 400000 in
set_option maxRecDepth 100000 in
theorem sall (ad : Option Addr) (len cap : Nat) (rs : List Kw) (r : Int) (w : World) (hl : len ≤ 1048578) (h : KnRd w ad len rs) :
    Calls Tryz.prog 50 #[.agg #[.slice ad len cap], .int .i64 r] w (IOut w (allT (rs.map ktell) r)) := by
  obtain ⟨i0, hi, hz0, hz1, hz2⟩ := info_parts infoInt
  have I0 := hide hi
  have Y0 := hide hz0
  have Y1 := hide hz1
  have Y2 := hide hz2
  clear hi hz0 hz1 hz2
  have BX := hide (box_at w (.slice ad len cap))
  have B0 : Hid (Below w.heap.size w (w.alloc (.cells #[.slice ad len cap] 47))) := (Below.refl _ _).alloc (Nat.le_refl _) _
  have H := hide (h.below B0.out)
  have HZ := hide (show w.heap.size < (w.alloc (.cells #[.slice ad len cap] 47)).heap.size by simp)
  have HS := hide (show (w.alloc (.cells #[.slice ad len cap] 47)).heap.size = w.heap.size + 1 by simp)
  clear h
  obtain ⟨M, hM⟩ : ∃ M, allT (rs.map ktell) r = M := ⟨_, rfl⟩
  have HM := hide hM
  rw [hM]
  clear hM
  go_enter Tryz.func50, Tryz.ntmps50
  go_wp2_with fail
  generalize w.alloc (.cells #[.slice ad len cap] 47) = wb at BX B0 H HZ HS ⊢
  have O0 : Hid ((wb.alloc (.cells #[] 3)).ownsRow wb.heap.size 3 1 (.slice (some ⟨wb.heap.size, 0, none⟩) 0 0) ([] : List Int).length (icells [])) := World.ownsRow_made wb #[] 0 (Nat.le_refl _) (by unfold maxLen; omega) (by simp)
  have BA : Hid (Below wb.heap.size wb (wb.alloc (.cells #[] 3))) := (Below.refl _ _).alloc (Nat.le_refl _) _
  generalize wb.alloc (.cells #[] 3) = wa at O0 BA ⊢
  obtain ⟨z, hz⟩ : ∃ z, w.heap.size = z := ⟨_, rfl⟩
  rw [hz] at BX HZ HS ⊢
  have HZW := hide hz
  clear hz
  go_loopw [5, 6] (fun ov kv W => ∃ (k : Nat) (l : List Int), k ≤ 16 ∧ kv = .int .i64 k ∧ l.length ≤ k ∧ Hid (l = M.take k) ∧ Hid (W.ownsRow wb.heap.size 3 1 ov l.length (icells l) ∧ Below wb.heap.size wb W)) (fun _ kv _ => 16 - (intOf kv).toNat)
  case atStart => exact ⟨0, [], Nat.zero_le _, rfl, Nat.zero_le _, by show _ = _; simp, by rw [← HS.out]; exact O0.out, BA.out⟩
  case round =>
    obtain ⟨k, l, hk, rfl, hlk, HL, HO⟩ := hrel
    have bx := (HO.out.2.cell (show z < wb.heap.size from HZ.out)).trans BX.out
    by_cases hlt : (k : Int) < 16
    · have hw := HO.out.2.size
      go_wp2_with fail
      refine (sgetAt ad len cap rs r (k : Int) _ hl (H.out.below HO.out.2)).mono ?_
      rintro e w1 ⟨rfl, b1⟩
      have HL2 : Hid (l ++ [getT (rs.map ktell) r (k : Int)] = M.take (k + 1)) := by
        show _ = _
        rw [← HM.out, allT_take _ _ (by omega), HM.out, HL.out]
      generalize getT (rs.map ktell) r (k : Int) = y at HL2 ⊢
      have OW := hide (own_below HO.out.1 b1)
      have B1 := hide (HO.out.2.trans (b1.mono hw))
      have hw1 := B1.out.size
      clear b1 bx HO HL
      have BN : Hid (Below w1.heap.size w1 (w1.alloc (.cells #[.int .i64 y] 3))) := (Below.refl _ _).alloc (Nat.le_refl _) _
      have OWN := hide (own_below OW.out BN.out)
      go_wp2_with (at_builtin; refine wpList_append_own _ rfl _ _ 25 rfl wb.heap.size 3 i0 (.int .i64 0) 1 8 Tryz.underlying25 I0.out Y0.out Y1.out Y2.out rfl (by decide) _ _ _ rfl OWN.out ⟨w1.heap.size, 0, none⟩ 1 1 [Value.int .i64 y] rfl rfl (one_cell _ _ _) (one_i64 _) ?c1 ?c2 ?c3 ?_)
      case c1 => unfold maxLen; omega
      case c2 => omega
      case c3 => have := BN.out.size; omega
      intro u' z2 ho hg _
      rw [icells_snoc] at ho
      have ho2 : z2.ownsRow wb.heap.size 3 1 u' (l ++ [y]).length (icells (l ++ [y])) := by rw [List.length_append]; exact ho
      have ON : Hid (z2.ownsRow wb.heap.size 3 1 u' (l ++ [y]).length (icells (l ++ [y])) ∧ Below wb.heap.size wb z2) := ⟨ho2, (B1.out.trans (BN.out.mono hw1)).grown hg (by have := BN.out.size; omega) (fun q hq => (OWN.out.lt q hq).1)⟩
      have hl3 : (l ++ [y]).length ≤ k + 1 := by simp; omega
      generalize l ++ [y] = l2 at HL2 ON hl3
      clear ho ho2 hg OWN OW BN B1
      go_wp2
      go_roundw
      case rel => exact ⟨k + 1, l2, by omega, by go_num, hl3, HL2, ON⟩
      case measure => simp [intOf]; omega
    · have EL : Hid (l = M) := by
        show _ = _
        rw [HL.out, show k = M.length by rw [← HM.out, allT_len]; omega, List.take_length]
      have HF : Hid (Below w.heap.size w wr) := B0.out.trans (HO.out.2.mono B0.out.size)
      go_wp2
      go_ret
      refine ⟨_, rfl, ?_, HF.out⟩
      rw [← EL.out]
      exact own_lower HO.out.1 B0.out.size
end Go.Proofs.YtcjgjkejhkhknabGreatDoor
