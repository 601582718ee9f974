/-
  SChunk; SRefs; SCon; StH
-/
import Derived.Test.YtcnaahajaaifjaaPq8
import Derived.Deep.RegionHeld3
import Derived.Test.YtcnaahajaaifjaaPq11
import Derived.Test.YtcnaahajaaifjaaPq12
import Derived.Test.YtcnaahajaaifjaaSStOk
/-
  spec.ChunkOf.
-/
namespace Go.Proofs.Ytcnaahajaaifjaa
open Go.RowKit
open Words

set_option maxHeartbeats 1000000 in
set_option maxRecDepth 100000 in
theorem schunk (va : Option Addr) (vl vc : Nat) (ad : Option Addr) (len cap : Nat) (nx : Int) (vs : List (Int × Int)) (rs : List Kw) (vol sec : Int) (w : World) (hvl : vl ≤ 1048578) (hl : len ≤ 1048578) (h : VlRow w va vl vs) (hk : KnRd w ad len rs) :
    Calls Try.prog 27 #[.agg (SBox va vl vc ad len cap nx), .int .i64 vol, .int .i64 sec] w fun e w' => e = .returned (.int .i64 (chunkS ⟨vs, rs.map ktell, nx⟩ vol sec)) ∧ Below w.heap.size w w' := by
  have T0 := hide ((Tk.start w).cell #[.slice va vl vc, .slice ad len cap, .int .i64 nx] 29)
  have HVL := hide h.1
  have HV := hide h
  have HK := hide hk
  clear h hk
  obtain ⟨C, hC⟩ : ∃ C, chunkS ⟨vs, rs.map ktell, nx⟩ vol sec = C := ⟨_, rfl⟩
  have HC := hide hC
  rw [hC]
  clear hC
  unfold SBox
  go_enter Try.func27, Try.ntmps27
  go_wp2_with fail
  refine (satV va vl vc ad len cap nx vs vol _ hvl (HV.out.below T0.out.1)).mono ?_
  rintro e w1 ⟨rfl, b1⟩
  have T1 := hide (T0.out.below b1)
  clear b1 T0
  have x0 : w1.cell? ⟨w.heap.size, 0, none⟩ = some (.slice va vl vc) := T1.out.at 0 0 rfl rfl
  have x1 : w1.cell? ⟨w.heap.size, 1, none⟩ = some (.slice ad len cap) := T1.out.at 0 1 rfl rfl
  cases ha : atV vs vol with
  | none =>
    have E : Hid (C = 0) := by
      show _ = _
      rw [← HC.out]
      simp only [chunkS, rootV, ha, Option.bind_none]
    have e1 : atI none = -1 := rfl
    rw [e1]
    clear ha
    go_wp2
    go_ret
    exact ⟨by rw [E.out]; rfl, T1.out.1⟩
  | some k =>
    obtain ⟨v, hv, hid⟩ := atV_some ha
    have hkl := (List.getElem?_eq_some_iff.1 hv).1
    have hkv : (k : Int) < vl := by have := HVL.out; omega
    have k0 : (0 : Int) ≤ k := by omega
    have k1 : ¬ ((k : Int) < 0) := by omega
    have E : Hid (getT (rs.map ktell) v.2 sec = C) := by
      show _ = _
      rw [← HC.out]
      simp only [chunkS, rootV, ha, Option.bind_some, hv, Option.map_some]
    obtain ⟨b, off, e, hb, c0, c1⟩ := (HV.out.below T1.out.1).at hv
    subst e
    have e1 : atI (some k) = (k : Int) := rfl
    rw [e1]
    have CG := hide (sgetAt ad len cap rs v.2 sec w1.drew hl (HK.out.below T1.out.1.drew))
    have CF := hide (sgetAt ad len cap rs v.2 sec w1 hl (HK.out.below T1.out.1))
    rw [E.out] at CG CF
    have T1d := hide T1.out.1.drew
    have l0 := World.block_lt_of_cell? w1 _ x0
    have l1 := World.block_lt_of_cell? w1 _ x1
    have l2 := World.block_lt_of_cell? w1 _ c1
    clear ha hv hid hkl E
    first
      | (go_wp2_with fail
         refine CF.out.mono ?_
         rintro e w2 ⟨rfl, b2⟩
         have B2 := hide (T1.out.1.trans (b2.mono T1.out.1.size)))
      | (go_wp2
         go_region_held3 (fun w' => w'.cell? ⟨w.heap.size, 0, none⟩ = some (.slice (some ⟨b, off, none⟩) vl vc) ∧ w'.cell? ⟨w.heap.size, 1, none⟩ = some (.slice ad len cap) ∧ w'.cell? ⟨b, off + k * 2 + 1, none⟩ = some (.int .i64 v.2)) (first | exact ⟨x0, x1, c1⟩ | exact KY.out) ((go_at_call 67; (with_reducible refine Calls.mono CG.out ?_); rintro en w2 ⟨rfl, b2⟩; have KY : Hid (w2.cell? ⟨w.heap.size, 0, none⟩ = some (.slice (some ⟨b, off, none⟩) vl vc) ∧ w2.cell? ⟨w.heap.size, 1, none⟩ = some (.slice ad len cap) ∧ w2.cell? ⟨b, off + k * 2 + 1, none⟩ = some (.int .i64 v.2)) := ⟨(b2.cell l0).trans x0, (b2.cell l1).trans x1, (b2.cell l2).trans c1⟩))
         have B2 := hide (T1d.out.trans (b2.mono T1d.out.size)))
    all_goals
      clear CG CF
      go_wp2
      go_ret
      exact ⟨rfl, B2.out⟩
end Go.Proofs.Ytcnaahajaaifjaa

/-
  spec.RefsOf.
-/
namespace Go.Proofs.Ytcnaahajaaifjaa
open Go.RowKit
open Words

/-- References among the first k volumes. -/
def refsK (l : List Kn) (vs : List (Int × Int)) (c : Int) (k : Nat) : Nat := ((vs.take k).map (fun v => (allT l v.2).count c)).sum
theorem refsK_succ {l : List Kn} {vs : List (Int × Int)} {c : Int} {k : Nat} {v : Int × Int} (h : vs[k]? = some v) : refsK l vs c (k + 1) = refsK l vs c k + (allT l v.2).count c := by
  obtain ⟨h1, h2⟩ := List.getElem?_eq_some_iff.1 h
  rw [refsK, refsK, List.take_succ_eq_append_getElem h1, h2, List.map_append, List.sum_append]
  simp
theorem refsK_le (l : List Kn) (vs : List (Int × Int)) (c : Int) (k : Nat) : refsK l vs c k ≤ 16 * k := by
  induction k with
  | zero => simp [refsK]
  | succ k ih =>
    by_cases hk : k < vs.length
    · rw [refsK_succ (List.getElem?_eq_getElem hk)]
      have := List.count_le_length (a := c) (l := allT l (vs[k]).2)
      rw [allT_len] at this
      omega
    · rw [refsK, List.take_of_length_le (by omega)]
      rw [refsK, List.take_of_length_le (by omega)] at ih
      omega
theorem count_take {L : List Int} {c x : Int} {m : Nat} (h : L[m]? = some x) : (L.take (m + 1)).count c = (L.take m).count c + (if x = c then 1 else 0) := by
  obtain ⟨h1, h2⟩ := List.getElem?_eq_some_iff.1 h
  rw [List.take_succ_eq_append_getElem h1, h2, List.count_append, List.count_singleton]
  simp

set_option maxHeartbeats 1000000 in
set_option maxRecDepth 100000 in
theorem srefs (va : Option Addr) (vl vc : Nat) (ad : Option Addr) (len cap : Nat) (nx : Int) (vs : List (Int × Int)) (rs : List Kw) (c : Int) (w : World) (hvl : vl ≤ 1048578) (hl : len ≤ 1048578) (h : VlRow w va vl vs) (hk : KnRd w ad len rs) :
    Calls Try.prog 24 #[.agg (SBox va vl vc ad len cap nx), .int .i64 c] w fun e w' => e = .returned (.int .i64 (refsS ⟨vs, rs.map ktell, nx⟩ c : Nat)) ∧ Below w.heap.size w w' := by
  have T0 := hide ((Tk.start w).cell #[.slice va vl vc, .slice ad len cap, .int .i64 nx] 29)
  have HVL := hide h.1
  have HV := hide h
  have HK := hide hk
  clear h hk
  obtain ⟨C, hC⟩ : ∃ C, refsS ⟨vs, rs.map ktell, nx⟩ c = C := ⟨_, rfl⟩
  have HC := hide hC
  rw [hC]
  clear hC
  unfold SBox
  go_enter Try.func24, Try.ntmps24
  go_wp2_with fail
  generalize w.alloc (.cells #[.slice va vl vc, .slice ad len cap, .int .i64 nx] 29) = wb at T0 ⊢
  have x0 : wb.cell? ⟨w.heap.size, 0, none⟩ = some (.slice va vl vc) := T0.out.at 0 0 rfl rfl
  have x1 : wb.cell? ⟨w.heap.size, 1, none⟩ = some (.slice ad len cap) := T0.out.at 0 1 rfl rfl
  have XB := hide (World.block_lt_of_cell? wb _ x0)
  obtain ⟨z, hz⟩ : ∃ z, w.heap.size = z := ⟨_, rfl⟩
  rw [hz] at x0 x1 XB ⊢
  have HZW := hide hz
  clear hz
  go_loopw [5, 6] (fun nv iv W => ∃ (k n : Nat), k ≤ vl ∧ iv = .int .i64 k ∧ nv = .int .i64 n ∧ n ≤ 16 * k ∧ Hid (0 < c → n = refsK (rs.map ktell) vs c k) ∧ Hid (¬ 0 < c → n = 0) ∧ Hid (Below wb.heap.size wb W)) (fun _ iv _ => vl - (intOf iv).toNat)
  case atStart => exact ⟨0, 0, Nat.zero_le _, rfl, rfl, Nat.le_refl _, fun _ => rfl, fun _ => rfl, Below.refl _ _⟩
  case round =>
    obtain ⟨k, n, hk, rfl, rfl, hn, HN, HN0, HW⟩ := hrel
    have y0 := (HW.out.cell (show z < wb.heap.size from XB.out)).trans x0
    have y1 := (HW.out.cell (show z < wb.heap.size from XB.out)).trans x1
    by_cases hc : (0 : Int) < c
    · by_cases hlt : (k : Int) < vl
      · have hv := List.getElem?_eq_getElem (show k < vs.length by have := HVL.out; omega)
        generalize vs[k]'(by have := HVL.out; omega) = v at hv
        obtain ⟨b, off, e, hb, c0, c1⟩ := (((HV.out.below T0.out.1).below HW.out)).at hv
        subst e
        have k0 : (0 : Int) ≤ k := by omega
        have HR : Hid (refsK (rs.map ktell) vs c (k + 1) = n + (allT (rs.map ktell) v.2).count c) := by
          show _ = _
          rw [refsK_succ hv, HN.out hc]
        have CG := hide (sall ad len cap rs v.2 wr.drew hl ((HK.out.below T0.out.1).below HW.out.drew))
        have CF := hide (sall ad len cap rs v.2 wr hl ((HK.out.below T0.out.1).below HW.out))
        have HWD := hide HW.out.drew
        have l0 := World.block_lt_of_cell? wr _ y0
        have l1 := World.block_lt_of_cell? wr _ y1
        have l2 := World.block_lt_of_cell? wr _ c1
        clear hv
        first
          | (go_wp2_with fail
             refine CF.out.mono ?_
             rintro e w2 ⟨lv, rfl, o2, b2⟩
             have B2 := hide (HW.out.trans (b2.mono HW.out.size)))
          | (go_wp2
             go_region_held3 (fun w' => w'.cell? ⟨z, 0, none⟩ = some (.slice (some ⟨b, off, none⟩) vl vc) ∧ w'.cell? ⟨z, 1, none⟩ = some (.slice ad len cap) ∧ w'.cell? ⟨b, off + k * 2 + 1, none⟩ = some (.int .i64 v.2)) (first | exact ⟨y0, y1, c1⟩ | exact KY.out) ((go_at_call 62; (with_reducible refine Calls.mono CG.out ?_); rintro en w2 ⟨lv, rfl, o2, b2⟩; have KY : Hid (w2.cell? ⟨z, 0, none⟩ = some (.slice (some ⟨b, off, none⟩) vl vc) ∧ w2.cell? ⟨z, 1, none⟩ = some (.slice ad len cap) ∧ w2.cell? ⟨b, off + k * 2 + 1, none⟩ = some (.int .i64 v.2)) := ⟨(b2.cell l0).trans y0, (b2.cell l1).trans y1, (b2.cell l2).trans c1⟩))
             have B2 := hide (HWD.out.trans (b2.mono HWD.out.size)))
        all_goals
          obtain ⟨la, lc, e2, -, hrow⟩ := ISl.of (Sli.of o2) (by rw [allT_len]; unfold maxLen; omega) (Nat.le_refl _)
          rw [allT_len] at e2 hrow
          subst e2
          have HROW := hide hrow
          obtain ⟨L, hL⟩ : ∃ L, allT (rs.map ktell) v.2 = L := ⟨_, rfl⟩
          have HLL : Hid (L.length = 16) := by show _ = _; rw [← hL, allT_len]
          rw [hL] at HROW HR
          clear CG CF y0 y1 c0 c1 l0 l1 l2 HWD HW o2 b2 hrow hL HN HN0
          go_wp2
          go_loopw [5, 8] (fun nv kv W => ∃ (m n2 : Nat), m ≤ 16 ∧ kv = .int .i64 m ∧ nv = .int .i64 n2 ∧ n2 ≤ n + m ∧ Hid (n2 = n + (L.take m).count c) ∧ Hid (Below w2.heap.size w2 W)) (fun _ kv _ => 16 - (intOf kv).toNat)
          case atStart => exact ⟨0, n, Nat.zero_le _, rfl, rfl, by omega, (by show _ = _; simp), Below.refl _ _⟩
          case round =>
            obtain ⟨m, n2, hm, rfl, rfl, hn2, HN2, HY⟩ := hrel
            by_cases hm16 : (m : Int) < 16
            · have hx := List.getElem?_eq_getElem (show m < L.length by have := HLL.out; omega)
              generalize L[m]'(by have := HLL.out; omega) = x at hx
              obtain ⟨lb, lo, e3, -, d0⟩ := (HROW.out.below HY.out).at hx
              subst e3
              have m0 : (0 : Int) ≤ m := by omega
              have HCT := hide (count_take (c := c) hx)
              clear hx
              by_cases hxc : (x == c) = true
              · have HN3 : Hid (n2 + 1 = n + (L.take (m + 1)).count c) := by
                  show _ = _
                  rw [HCT.out, if_pos (by simpa using hxc), HN2.out]
                  omega
                go_wp2
                go_roundw
                case rel => exact ⟨m + 1, n2 + 1, by omega, by go_num, by go_num, by omega, HN3, HY⟩
                case measure => simp [intOf]; omega
              · have HN3 : Hid (n2 = n + (L.take (m + 1)).count c) := by
                  show _ = _
                  rw [HCT.out, if_neg (by simpa using hxc), HN2.out]
                  omega
                go_wp2
                go_roundw
                case rel => exact ⟨m + 1, n2, by omega, by go_num, rfl, by omega, HN3, HY⟩
                case measure => simp [intOf]; omega
            · have HN3 : Hid ((0 : Int) < c → n2 = refsK (rs.map ktell) vs c (k + 1)) := fun _ => by
                have e : m = 16 := by omega
                have := HN2.out
                rw [e, List.take_of_length_le (by rw [HLL.out]; omega)] at this
                rw [this, HR.out]
              have HN4 : Hid (¬ (0 : Int) < c → n2 = 0) := fun q => absurd hc q
              have HW2 := hide (B2.out.trans (HY.out.mono B2.out.size))
              go_wp2
              go_roundw
              case rel => exact ⟨k + 1, n2, by omega, by go_num, rfl, by omega, HN3, HN4, HW2⟩
              case measure => simp [intOf]; omega
      · have E : Hid (n = C) := by
          show _ = _
          have e : k = vl := by omega
          rw [HN.out hc, ← HC.out, refsS, if_pos hc, refsK, List.take_of_length_le (by have := HVL.out; omega)]
        have BE : Hid (Below w.heap.size w wr) := T0.out.1.trans (HW.out.mono T0.out.1.size)
        go_wp2
        go_ret
        exact ⟨by rw [← E.out]; rfl, BE.out⟩
    · have E : Hid (n = C) := by
        show _ = _
        rw [HN0.out hc, ← HC.out, refsS, if_neg hc]
      have BE : Hid (Below w.heap.size w wr) := T0.out.1.trans (HW.out.mono T0.out.1.size)
      by_cases hlt : (k : Int) < vl
      · go_wp2
        go_ret
        exact ⟨by rw [← E.out]; rfl, BE.out⟩
      · go_wp2
        go_ret
        exact ⟨by rw [← E.out]; rfl, BE.out⟩
end Go.Proofs.Ytcnaahajaaifjaa

/-
  The specification's functions that only read a store, by their contracts.
-/
namespace Go.Proofs.Ytcnaahajaaifjaa
open Go.RowKit
open Words

theorem sstoreOk : OkC 45 := by
  rintro v ⟨vs, kns, nx⟩ w ⟨va, vl, vc, ad, len, cap, rs, rfl, h2, h3, h4, h5, h6, h7, h8⟩
  simp only at h2 h7
  subst h2
  exact sstOk va vl vc ad len cap nx vs rs w (by omega) (by omega) h5 h7 h8
theorem schunkOf : ChunkC 27 := by
  rintro v ⟨vs, kns, nx⟩ vol sec w ⟨va, vl, vc, ad, len, cap, rs, rfl, h2, h3, h4, h5, h6, h7, h8⟩
  simp only at h2 h7
  subst h2
  exact schunk va vl vc ad len cap nx vs rs vol sec w (by omega) (by omega) h7 h8
theorem srefsOf : RefsC 24 := by
  rintro v ⟨vs, kns, nx⟩ c w ⟨va, vl, vc, ad, len, cap, rs, rfl, h2, h3, h4, h5, h6, h7, h8⟩
  simp only at h2 h7
  subst h2
  exact srefs va vl vc ad len cap nx vs rs c w (by omega) (by omega) h7 h8
end Go.Proofs.Ytcnaahajaaifjaa

/-
  A store in a variable: its rows lie apart from the variable.
-/
namespace Go.Proofs.Ytcnaahajaaifjaa
open Go.RowKit
open Words

def StH (lo zb : Nat) (v : Value) (s : Sto) (V : World) : Prop := ∃ vv kv lo1 hi1 lo2 hi2, v = .agg #[vv, kv, .int .i64 s.next] ∧ Sli 49 lo1 hi1 vv s.vols.length (vlcells s.vols) V ∧ Kns lo2 hi2 kv s.kns V ∧ (lo ≤ lo1 ∧ (hi1 ≤ zb ∨ zb < lo1)) ∧ (lo ≤ lo2 ∧ (hi2 ≤ zb ∨ zb < lo2)) ∧ hi1 ≤ V.heap.size ∧ hi2 ≤ V.heap.size ∧ (hi1 ≤ lo2 ∨ hi2 ≤ lo1)
theorem StH.keep {lo zb : Nat} {v : Value} {s : Sto} {V V' : World} (h : StH lo zb v s V) (hq : ∀ g, lo ≤ g → g ≠ zb → g < V.heap.size → V'.heap[g]? = V.heap[g]?) (hz : V.heap.size ≤ V'.heap.size) : StH lo zb v s V' := by
  obtain ⟨vv, kv, lo1, hi1, lo2, hi2, e, h1, h2, h3, h4, h5, h6, h7⟩ := h
  refine ⟨vv, kv, lo1, hi1, lo2, hi2, e, ?_, ?_, h3, h4, by omega, by omega, h7⟩
  · exact Sli.loc _ _ _ _ _ _ V _ (fun g g1 g2 => hq g (by omega) (by omega) (by omega)) h1
  · exact Kns.loc _ _ _ _ V _ (fun g g1 g2 => hq g (by omega) (by omega) (by omega)) h2
theorem StH.below {lo zb : Nat} {v : Value} {s : Sto} {V V' : World} (h : StH lo zb v s V) (hb : Below V.heap.size V V') : StH lo zb v s V' := h.keep (fun g _ _ hg => hb.block g hg) hb.size
theorem StH.of {lo zb : Nat} {v : Value} {s : Sto} {w V : World} (h : StOut w s v V) (hlo : lo ≤ w.heap.size) (hzb : zb < w.heap.size ∨ V.heap.size ≤ zb) : StH lo zb v s V := by
  obtain ⟨vv, kv, lo1, hi1, lo2, hi2, e, h1, h2, h3, h4, h5, h6, h7, -⟩ := h
  exact ⟨vv, kv, lo1, hi1, lo2, hi2, e, h1, h2, ⟨by omega, by omega⟩, ⟨by omega, by omega⟩, h4, h6, h7⟩
/-- The variable is written. -/
theorem StH.set {lo zb k : Nat} {v u : Value} {s : Sto} {V : World} (h : StH lo zb v s V) : StH lo zb v s (V.setCell ⟨zb, k, none⟩ u) :=
  h.keep (fun g _ hg _ => Below.heap_setCell _ _ _ _ hg) (by simp [World.setCell])
theorem StH.form {lo zb : Nat} {v : Value} {s : Sto} {V : World} (h : StH lo zb v s V) : ∃ va vl vc ad len cap, v = .agg #[.slice va vl vc, .slice ad len cap, .int .i64 s.next] := by
  obtain ⟨vv, kv, lo1, hi1, lo2, hi2, rfl, h1, h2, -⟩ := h
  obtain ⟨va, vc, rfl, -⟩ := h1.form
  obtain ⟨ad, cap, rfl⟩ := h2.form
  exact ⟨_, _, _, _, _, _, rfl⟩
theorem StH.rd {lo zb : Nat} {v : Value} {s : Sto} {V : World} (h : StH lo zb v s V) (hf : s.Fit) : StIn V v s := by
  obtain ⟨vv, kv, lo1, hi1, lo2, hi2, rfl, h1, h2, h3, h4, h5, h6, h7⟩ := h
  obtain ⟨va, vc, rfl, h9, h10⟩ := VlSl.of h1 (by have := hf.1; unfold maxLen; omega) h5
  obtain ⟨ad, cap, rfl⟩ := h2.form
  obtain ⟨rs, e, hr⟩ := h2.rd rfl h6
  refine ⟨va, s.vols.length, vc, ad, s.kns.length, cap, rs, rfl, e.symm, hf.1, hf.2.1, fun r hr => ?_, h9, h10, hr⟩
  exact hf.2.2 (ktell r) (by rw [← e]; exact List.mem_map.2 ⟨r, hr, rfl⟩)
/-- It is answered by way of the cell g, below all. -/
theorem StH.fin {w V : World} {lo zb g : Nat} {a b : Value} {n : Int} {s : Sto} (h : StH lo zb (.agg #[a, b, .int .i64 n]) s V) (hb : Below w.heap.size w V) (hg : w.heap.size ≤ g) (hl : g < lo) : StOut w s (.agg #[a, b, .int .i64 n]) (((V.setCell ⟨g, 0, none⟩ a).setCell ⟨g, 1, none⟩ b).setCell ⟨g, 2, none⟩ (.int .i64 n)) := by
  obtain ⟨vv, kv, lo1, hi1, lo2, hi2, e, h1, h2, h3, h4, h5, h6, h7⟩ := h
  injection e with e
  injection e with e
  simp only [List.cons.injEq, and_true] at e
  obtain ⟨e1, e2, e3⟩ := e
  rw [e1, e2, e3]
  exact st_fin hg h1 h2 ⟨by omega, .inr (by omega)⟩ ⟨by omega, .inr (by omega)⟩ h5 h6 h7 hb
theorem fit_go {s t : Sto} {l : List Rc} (h : s.Fit) (e : enterGo s l = some t) : t.Fit := by
  induction l generalizing s with
  | nil => rw [enterGo] at e; cases e; exact h
  | cons r l ih =>
    rw [enterGo] at e
    split at e
    · exact ih (enter_fit h r) e
    · cases e
theorem go_snoc {s t : Sto} {l : List Rc} {k : Nat} {r : Rc} (h : enterGo s (l.take k) = some t) (hr : l[k]? = some r) : enterGo s (l.take (k + 1)) = if (enterS t r).2 = true then some (enterS t r).1 else none := by
  obtain ⟨h1, h2⟩ := List.getElem?_eq_some_iff.1 hr
  rw [List.take_succ_eq_append_getElem h1, h2, enterGo_app, h, Option.bind_some, enterGo]
  split <;> rfl
theorem go_bad {s t : Sto} {l : List Rc} {k : Nat} {r : Rc} (h : enterGo s (l.take k) = some t) (hr : l[k]? = some r) (hb : (enterS t r).2 = false) : enterAllS s l = (s, false) := by
  have e : enterGo s l = none := by
    conv => lhs; rw [← List.take_append_drop (k + 1) l]
    rw [enterGo_app, go_snoc h hr, if_neg (by rw [hb]; decide)]
    rfl
  rw [enterAllS, e]
theorem go_all {s t : Sto} {l : List Rc} (h : enterGo s l = some t) : enterAllS s l = (t, true) := by rw [enterAllS, h]
end Go.Proofs.Ytcnaahajaaifjaa
