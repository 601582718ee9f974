/-
  SRefs; SRecOk
-/
import Derived.Test.YtcnaahajaaifjabPq15
import Derived.Test.YtcnaahajaaifjabPq19
import Derived.Deep.RegionHeld3
import Derived.Test.YtcnaahajaaifjabPq0
import Derived.Test.YtcnaahajaaifjabPq12
import Derived.Test.YtcnaahajaaifjabPq6
/-
  spec.RefsOf.
-/
namespace Go.Proofs.Ytcnaahajaaifjab
open Go.RowKit
open Words

/-- References among the first k volumes. -/
def refsK (l : List Kn) (vs : List (Int × Int)) (c : Int) (k : Nat) : Nat := ((vs.take k).map (fun v => (allT l v.2).count c)).sum
theorem refsK_succ {l : List Kn} {vs : List (Int × Int)} {c : Int} {k : Nat} {v : Int × Int} (h : vs[k]? = some v) : refsK l vs c (k + 1) = refsK l vs c k + (allT l v.2).count c := by
  obtain ⟨h1, h2⟩ := List.getElem?_eq_some_iff.1 h
  rw [refsK, refsK, List.take_succ_eq_append_getElem h1, h2, List.map_append, List.sum_append]
  simp
theorem refsK_le (l : List Kn) (vs : List (Int × Int)) (c : Int) (k : Nat) : refsK l vs c k ≤ 16 * k := by
  induction k with
  | zero => simp [refsK]
  | succ k ih =>
    by_cases hk : k < vs.length
    · rw [refsK_succ (List.getElem?_eq_getElem hk)]
      have := List.count_le_length (a := c) (l := allT l (vs[k]).2)
      rw [allT_len] at this
      omega
    · rw [refsK, List.take_of_length_le (by omega)]
      rw [refsK, List.take_of_length_le (by omega)] at ih
      omega
theorem count_take {L : List Int} {c x : Int} {m : Nat} (h : L[m]? = some x) : (L.take (m + 1)).count c = (L.take m).count c + (if x = c then 1 else 0) := by
  obtain ⟨h1, h2⟩ := List.getElem?_eq_some_iff.1 h
  rw [List.take_succ_eq_append_getElem h1, h2, List.count_append, List.count_singleton]
  simp

set_option maxHeartbeats 1000000 in
set_option maxRecDepth 100000 in
theorem srefs (va : Option Addr) (vl vc : Nat) (ad : Option Addr) (len cap : Nat) (nx : Int) (vs : List (Int × Int)) (rs : List Kw) (c : Int) (w : World) (hvl : vl ≤ 1048578) (hl : len ≤ 1048578) (h : VlRow w va vl vs) (hk : KnRd w ad len rs) :
    Calls Try.prog 16 #[.agg (SBox va vl vc ad len cap nx), .int .i64 c] w fun e w' => e = .returned (.int .i64 (refsS ⟨vs, rs.map ktell, nx⟩ c : Nat)) ∧ Below w.heap.size w w' := by
  have T0 := hide ((Tk.start w).cell #[.slice va vl vc, .slice ad len cap, .int .i64 nx] 35)
  have HVL := hide h.1
  have HV := hide h
  have HK := hide hk
  clear h hk
  obtain ⟨C, hC⟩ : ∃ C, refsS ⟨vs, rs.map ktell, nx⟩ c = C := ⟨_, rfl⟩
  have HC := hide hC
  rw [hC]
  clear hC
  unfold SBox
  go_enter Try.func16, Try.ntmps16
  go_wp2_with fail
  generalize w.alloc (.cells #[.slice va vl vc, .slice ad len cap, .int .i64 nx] 35) = wb at T0 ⊢
  have x0 : wb.cell? ⟨w.heap.size, 0, none⟩ = some (.slice va vl vc) := T0.out.at 0 0 rfl rfl
  have x1 : wb.cell? ⟨w.heap.size, 1, none⟩ = some (.slice ad len cap) := T0.out.at 0 1 rfl rfl
  have XB := hide (World.block_lt_of_cell? wb _ x0)
  obtain ⟨z, hz⟩ : ∃ z, w.heap.size = z := ⟨_, rfl⟩
  rw [hz] at x0 x1 XB ⊢
  have HZW := hide hz
  clear hz
  go_loopw [5, 6] (fun nv iv W => ∃ (k n : Nat), k ≤ vl ∧ iv = .int .i64 k ∧ nv = .int .i64 n ∧ n ≤ 16 * k ∧ Hid (0 < c → n = refsK (rs.map ktell) vs c k) ∧ Hid (¬ 0 < c → n = 0) ∧ Hid (Below wb.heap.size wb W)) (fun _ iv _ => vl - (intOf iv).toNat)
  case atStart => exact ⟨0, 0, Nat.zero_le _, rfl, rfl, Nat.le_refl _, fun _ => rfl, fun _ => rfl, Below.refl _ _⟩
  case round =>
    obtain ⟨k, n, hk, rfl, rfl, hn, HN, HN0, HW⟩ := hrel
    have y0 := (HW.out.cell (show z < wb.heap.size from XB.out)).trans x0
    have y1 := (HW.out.cell (show z < wb.heap.size from XB.out)).trans x1
    by_cases hc : (0 : Int) < c
    · by_cases hlt : (k : Int) < vl
      · have hv := List.getElem?_eq_getElem (show k < vs.length by have := HVL.out; omega)
        generalize vs[k]'(by have := HVL.out; omega) = v at hv
        obtain ⟨b, off, e, hb, c0, c1⟩ := (((HV.out.below T0.out.1).below HW.out)).at hv
        subst e
        have k0 : (0 : Int) ≤ k := by omega
        have HR : Hid (refsK (rs.map ktell) vs c (k + 1) = n + (allT (rs.map ktell) v.2).count c) := by
          show _ = _
          rw [refsK_succ hv, HN.out hc]
        have CG := hide (sall ad len cap rs v.2 wr.drew hl ((HK.out.below T0.out.1).below HW.out.drew))
        have CF := hide (sall ad len cap rs v.2 wr hl ((HK.out.below T0.out.1).below HW.out))
        have HWD := hide HW.out.drew
        have l0 := World.block_lt_of_cell? wr _ y0
        have l1 := World.block_lt_of_cell? wr _ y1
        have l2 := World.block_lt_of_cell? wr _ c1
        clear hv
        first
          | (go_wp2_with fail
             refine CF.out.mono ?_
             rintro e w2 ⟨lv, rfl, o2, b2⟩
             have B2 := hide (HW.out.trans (b2.mono HW.out.size)))
          | (go_wp2
             go_region_held3 (fun w' => w'.cell? ⟨z, 0, none⟩ = some (.slice (some ⟨b, off, none⟩) vl vc) ∧ w'.cell? ⟨z, 1, none⟩ = some (.slice ad len cap) ∧ w'.cell? ⟨b, off + k * 2 + 1, none⟩ = some (.int .i64 v.2)) (first | exact ⟨y0, y1, c1⟩ | exact KY.out) ((go_at_call 51; (with_reducible refine Calls.mono CG.out ?_); rintro en w2 ⟨lv, rfl, o2, b2⟩; have KY : Hid (w2.cell? ⟨z, 0, none⟩ = some (.slice (some ⟨b, off, none⟩) vl vc) ∧ w2.cell? ⟨z, 1, none⟩ = some (.slice ad len cap) ∧ w2.cell? ⟨b, off + k * 2 + 1, none⟩ = some (.int .i64 v.2)) := ⟨(b2.cell l0).trans y0, (b2.cell l1).trans y1, (b2.cell l2).trans c1⟩))
             have B2 := hide (HWD.out.trans (b2.mono HWD.out.size)))
        all_goals
          obtain ⟨la, lc, e2, -, hrow⟩ := ISl.of (Sli.of o2) (by rw [allT_len]; unfold maxLen; omega) (Nat.le_refl _)
          rw [allT_len] at e2 hrow
          subst e2
          have HROW := hide hrow
          obtain ⟨L, hL⟩ : ∃ L, allT (rs.map ktell) v.2 = L := ⟨_, rfl⟩
          have HLL : Hid (L.length = 16) := by show _ = _; rw [← hL, allT_len]
          rw [hL] at HROW HR
          clear CG CF y0 y1 c0 c1 l0 l1 l2 HWD HW o2 b2 hrow hL HN HN0
          go_wp2
          go_loopw [5, 8] (fun nv kv W => ∃ (m n2 : Nat), m ≤ 16 ∧ kv = .int .i64 m ∧ nv = .int .i64 n2 ∧ n2 ≤ n + m ∧ Hid (n2 = n + (L.take m).count c) ∧ Hid (Below w2.heap.size w2 W)) (fun _ kv _ => 16 - (intOf kv).toNat)
          case atStart => exact ⟨0, n, Nat.zero_le _, rfl, rfl, by omega, (by show _ = _; simp), Below.refl _ _⟩
          case round =>
            obtain ⟨m, n2, hm, rfl, rfl, hn2, HN2, HY⟩ := hrel
            by_cases hm16 : (m : Int) < 16
            · have hx := List.getElem?_eq_getElem (show m < L.length by have := HLL.out; omega)
              generalize L[m]'(by have := HLL.out; omega) = x at hx
              obtain ⟨lb, lo, e3, -, d0⟩ := (HROW.out.below HY.out).at hx
              subst e3
              have m0 : (0 : Int) ≤ m := by omega
              have HCT := hide (count_take (c := c) hx)
              clear hx
              by_cases hxc : (x == c) = true
              · have HN3 : Hid (n2 + 1 = n + (L.take (m + 1)).count c) := by
                  show _ = _
                  rw [HCT.out, if_pos (by simpa using hxc), HN2.out]
                  omega
                go_wp2
                go_roundw
                case rel => exact ⟨m + 1, n2 + 1, by omega, by go_num, by go_num, by omega, HN3, HY⟩
                case measure => simp [intOf]; omega
              · have HN3 : Hid (n2 = n + (L.take (m + 1)).count c) := by
                  show _ = _
                  rw [HCT.out, if_neg (by simpa using hxc), HN2.out]
                  omega
                go_wp2
                go_roundw
                case rel => exact ⟨m + 1, n2, by omega, by go_num, rfl, by omega, HN3, HY⟩
                case measure => simp [intOf]; omega
            · have HN3 : Hid ((0 : Int) < c → n2 = refsK (rs.map ktell) vs c (k + 1)) := fun _ => by
                have e : m = 16 := by omega
                have := HN2.out
                rw [e, List.take_of_length_le (by rw [HLL.out]; omega)] at this
                rw [this, HR.out]
              have HN4 : Hid (¬ (0 : Int) < c → n2 = 0) := fun q => absurd hc q
              have HW2 := hide (B2.out.trans (HY.out.mono B2.out.size))
              go_wp2
              go_roundw
              case rel => exact ⟨k + 1, n2, by omega, by go_num, rfl, by omega, HN3, HN4, HW2⟩
              case measure => simp [intOf]; omega
      · have E : Hid (n = C) := by
          show _ = _
          have e : k = vl := by omega
          rw [HN.out hc, ← HC.out, refsS, if_pos hc, refsK, List.take_of_length_le (by have := HVL.out; omega)]
        have BE : Hid (Below w.heap.size w wr) := T0.out.1.trans (HW.out.mono T0.out.1.size)
        go_wp2
        go_ret
        exact ⟨by rw [← E.out]; rfl, BE.out⟩
    · have E : Hid (n = C) := by
        show _ = _
        rw [HN0.out hc, ← HC.out, refsS, if_neg hc]
      have BE : Hid (Below w.heap.size w wr) := T0.out.1.trans (HW.out.mono T0.out.1.size)
      by_cases hlt : (k : Int) < vl
      · go_wp2
        go_ret
        exact ⟨by rw [← E.out]; rfl, BE.out⟩
      · go_wp2
        go_ret
        exact ⟨by rw [← E.out]; rfl, BE.out⟩
end Go.Proofs.Ytcnaahajaaifjab

/-
  spec.RecOk.
-/
namespace Go.Proofs.Ytcnaahajaaifjab
open Go.RowKit
open Words

def rcVal (r : Rc) : Value := .agg #[.int .i64 r.kind, .int .i64 r.vol, .int .i64 r.arg, .int .i64 r.chunk]

theorem rc_spec (k v a c : Int) : (Rc.mk k v a c).Right ↔ (0 ≤ a ∧ a ≤ 1000000000) ∧ (k = 1 ∧ v = 0 ∧ c = 0 ∨ (1 ≤ v ∧ v ≤ 9) ∧ (k = 2 ∧ a ≤ 9 ∧ c = 0 ∨ k = 3 ∧ a = 0 ∧ c = 0 ∨ k = 4 ∧ a < 16 ∧ 1 ≤ c ∧ c ≤ 1000000000 ∨ k = 5 ∧ a < 16 ∧ c = 0)) := Iff.rfl

end Go.Proofs.Ytcnaahajaaifjab
