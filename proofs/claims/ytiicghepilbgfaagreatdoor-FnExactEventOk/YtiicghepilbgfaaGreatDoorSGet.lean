/-
  spec.l11Get, spec.GetAt.
-/
import Derived.Test.YtiicghepilbgfaaGreatDoorSArOk
namespace Go.Proofs.YtiicghepilbgfaaGreatDoor
open Go.RowKit
open Words

/-- A knot's cells, and its children's. -/
theorem KnRd.kids {W : World} {b off len : Nat} {rs : List Kw} (h : KnRd W (some ⟨b, off, none⟩) len rs) {k : Nat} {x : Kn} (hk : (rs.map ktell)[k]? = some x) :
    ∃ ka kc, W.cell? ⟨b, off + k * 2, none⟩ = some (.bool x.leaf) ∧ W.cell? ⟨b, off + k * 2 + 1, none⟩ = some (.slice ka x.kids.length kc) ∧ IRow W ka x.kids.length x.kids := by
  rw [List.getElem?_map] at hk
  obtain ⟨r, hr, rfl⟩ := Option.map_eq_some_iff.1 hk
  obtain ⟨c0, c1⟩ := h.cell hr
  obtain ⟨ka, kc, e, -, kr⟩ := h.2.2.1 r (List.mem_of_getElem? hr)
  exact ⟨ka, kc, c0, by rw [c1, e]; rfl, kr⟩

set_option maxHeartbeats 400000 in
set_option maxRecDepth 100000 in
theorem sget (ad : Option Addr) (len cap : Nat) (rs : List Kw) (r : Int) (s : Nat) (w : World) (hl : len ≤ 1048578) (h : KnRd w ad len rs) (ha : arB (rs.map ktell) = true) (hr : rootB (rs.map ktell) r = true) (hs : s ≤ 15) :
    Calls Tryz.prog 101 #[.agg #[.slice ad len cap], .int .i64 r, .int .i64 s] w fun e w' => e = .returned (.int .i64 (getP (rs.map ktell) r s)) ∧ Below w.heap.size w w' := by
  have bx := box_at w (.slice ad len cap)
  have B0 : Hid (Below w.heap.size w (w.alloc (.cells #[.slice ad len cap] 53))) := (Below.refl _ _).alloc (Nat.le_refl _) _
  have H := hide (h.below B0.out)
  have hlL : (rs.map ktell).length = len := by rw [List.length_map]; exact h.1
  clear h
  by_cases hneg : r < 0
  · have E : Hid (getP (rs.map ktell) r s = 0) := if_pos hneg
    rw [E.out]
    clear E ha hr hlL
    go_enter Tryz.func101, Tryz.ntmps101
    go_wp2
    go_ret
    exact ⟨rfl, B0.out⟩
  · obtain ⟨m, rfl⟩ : ∃ m : Nat, r = (m : Int) := ⟨r.toNat, by omega⟩
    obtain ⟨x, hx, hxl⟩ := rootB_pos hr (by omega)
    have hml : m < len := by have := (List.getElem?_eq_some_iff.1 hx).1; rw [hlL] at this; simpa using this
    obtain ⟨b, off, e, -⟩ := H.out.adr (by omega)
    subst e
    obtain ⟨q, hq⟩ : ∃ q, s / 4 = q := ⟨_, rfl⟩
    obtain ⟨t, ht⟩ : ∃ t, s % 4 = t := ⟨_, rfl⟩
    have hq4 : q < 4 := by omega
    have ht4 : t < 4 := by omega
    have tq : (s : Int).tdiv 4 = (q : Int) := by rw [Int.tdiv_eq_ediv_of_nonneg (by omega)]; omega
    have tt : (s : Int).tmod 4 = (t : Int) := by rw [Int.tmod_eq_emod_of_nonneg (by omega)]; omega
    have tq2 : (s : Int) / 4 = (q : Int) := by omega
    have tt2 : (s : Int) % 4 = (t : Int) := by omega
    have x4 := knB_len (arB_at ha hx)
    obtain ⟨n, hn, hcase⟩ := inner_kid ha hx hxl hq4
    have hka : kidAt (rs.map ktell) (m : Int) q = n := kidAt_some hx hn
    obtain ⟨ka, kc, -, c1, kr⟩ := H.out.kids hx
    rw [x4] at c1 kr
    simp only [Int.toNat_natCast] at c1
    obtain ⟨kb, ko, e, -, kncell⟩ := kr.at hn
    subst e
    have m0 : (0 : Int) ≤ m := by omega
    have mL : (m : Int) < len := by omega
    have q0 : (0 : Int) ≤ q := by omega
    have q4 : (q : Int) < 4 := by omega
    rcases hcase with rfl | ⟨n0, nm, y, hy, hyl, hy4⟩
    · have E : Hid (getP (rs.map ktell) (m : Int) s = 0) := by show _ = _; rw [getP, if_neg hneg, hq, hka, if_pos (by omega)]
      rw [E.out]
      clear E ha hr hlL hq ht hka hn hx kr hneg H x4
      go_enter Tryz.func101, Tryz.ntmps101
      go_wp2
      go_ret
      exact ⟨rfl, B0.out⟩
    · obtain ⟨j, rfl⟩ : ∃ j : Nat, n = (j : Int) := ⟨n.toNat, by omega⟩
      obtain ⟨v, hv, -⟩ := leaf_kid ha hy hyl ht4
      have hkb : kidAt (rs.map ktell) (j : Int) t = v := kidAt_some hy hv
      obtain ⟨la, lc, -, d1, lr⟩ := H.out.kids hy
      rw [hy4] at d1 lr
      simp only [Int.toNat_natCast] at d1
      obtain ⟨lb, lo, e, -, lcell⟩ := lr.at hv
      subst e
      have j0 : (0 : Int) ≤ j := by omega
      have jL : (j : Int) < len := by simp only [Int.toNat_natCast] at nm; omega
      have t0 : (0 : Int) ≤ t := by omega
      have t4 : (t : Int) < 4 := by omega
      have E : Hid (getP (rs.map ktell) (m : Int) s = v) := by show _ = _; rw [getP, if_neg hneg, hq, ht, hka, if_neg (by omega), hkb]
      rw [E.out]
      clear E ha hr hlL hq ht hka hkb hn hx kr lr hneg H x4 hy hv hy4 nm n0
      go_enter Tryz.func101, Tryz.ntmps101
      go_wp2
      go_ret
      exact ⟨rfl, B0.out⟩
set_option maxHeartbeats 400000 in
set_option maxRecDepth 100000 in
theorem sgetAt (ad : Option Addr) (len cap : Nat) (rs : List Kw) (r s : Int) (w : World) (hl : len ≤ 1048578) (h : KnRd w ad len rs) :
    Calls Tryz.prog 67 #[.agg #[.slice ad len cap], .int .i64 r, .int .i64 s] w fun e w' => e = .returned (.int .i64 (getT (rs.map ktell) r s)) ∧ Below w.heap.size w w' := by
  have BX := hide (box_at w (.slice ad len cap))
  have B0 : Hid (Below w.heap.size w (w.alloc (.cells #[.slice ad len cap] 53))) := (Below.refl _ _).alloc (Nat.le_refl _) _
  have H := hide (h.below B0.out)
  have HZ := hide (show w.heap.size < (w.alloc (.cells #[.slice ad len cap] 53)).heap.size by simp)
  clear h
  have bx := BX.out
  go_enter Tryz.func67, Tryz.ntmps67
  go_wp2_with fail
  generalize w.alloc (.cells #[.slice ad len cap] 53) = wb at BX bx B0 H HZ ⊢
  obtain ⟨z, hz⟩ : ∃ z, w.heap.size = z := ⟨_, rfl⟩
  rw [hz] at BX bx HZ ⊢
  refine (sarOk ad len cap rs wb hl H.out).mono ?_
  rintro e w1 ⟨rfl, b1⟩
  have BX1 := hide ((b1.cell (show z < wb.heap.size from HZ.out)).trans BX.out)
  have B1 := hide b1
  clear bx b1
  have bx := BX1.out
  have HF1 : Hid (Below w.heap.size w w1) := B0.out.trans (B1.out.mono B0.out.size)
  cases hA : arB (rs.map ktell) with
  | false =>
    have E : Hid (getT (rs.map ktell) r s = 0) := if_neg (by rw [askB, hA]; simp)
    clear hA
    go_wp2
    go_ret
    exact ⟨congrArg (fun q => Ending.returned (.int .i64 q)) E.out.symm, HF1.out⟩
  | true =>
    have HA := hide hA
    go_wp2_with fail
    refine (sroot ad len cap rs r w1 hl (H.out.below B1.out)).mono ?_
    rintro e w2 ⟨rfl, b2⟩
    have BX2 := hide ((b2.cell (show z < w1.heap.size from Nat.lt_of_lt_of_le HZ.out B1.out.size)).trans BX1.out)
    have B2 := hide (B1.out.trans (b2.mono B1.out.size))
    clear bx b2 hA
    have bx := BX2.out
    have HF2 : Hid (Below w.heap.size w w2) := B0.out.trans (B2.out.mono B0.out.size)
    cases hR : rootB (rs.map ktell) r with
    | false =>
      have E : Hid (getT (rs.map ktell) r s = 0) := if_neg (by rw [askB, hR]; simp)
      clear hR
      go_wp2
      go_ret
      exact ⟨congrArg (fun q => Ending.returned (.int .i64 q)) E.out.symm, HF2.out⟩
    | true =>
      have HR := hide hR
      clear hR
      go_wp2_with fail
      refine (sin_any s 0 15 _).mono ?_
      rintro e w3 ⟨rfl, rfl⟩
      by_cases hin : 0 ≤ s ∧ s ≤ 15
      · have hask : askB (rs.map ktell) r s = true := by rw [askB, HA.out, HR.out, decide_eq_true hin.1, decide_eq_true hin.2]; rfl
        have E : Hid (getT (rs.map ktell) r s = getP (rs.map ktell) r s.toNat) := if_pos hask
        rw [decide_eq_true hin]
        obtain ⟨t, rfl⟩ : ∃ t : Nat, s = (t : Int) := ⟨s.toNat, by omega⟩
        simp only [Int.toNat_natCast] at E
        have ht : t ≤ 15 := by omega
        clear hask hin
        go_wp2_with fail
        refine (sget ad len cap rs r t _ hl (H.out.below B2.out) HA.out HR.out ht).mono ?_
        rintro e w4 ⟨rfl, b4⟩
        have HF := hide (HF2.out.trans (b4.mono HF2.out.size))
        clear b4
        go_wp2
        go_ret
        exact ⟨congrArg (fun q => Ending.returned (.int .i64 q)) E.out.symm, HF.out⟩
      · have E : Hid (getT (rs.map ktell) r s = 0) := if_neg (by
          rw [askB]
          simp only [Bool.and_eq_true, decide_eq_true_eq]
          rintro ⟨-, h1, h2⟩
          exact hin ⟨h1, h2⟩)
        rw [decide_eq_false hin]
        clear hin
        go_wp2
        go_ret
        exact ⟨congrArg (fun q => Ending.returned (.int .i64 q)) E.out.symm, HF2.out⟩
end Go.Proofs.YtiicghepilbgfaaGreatDoor
