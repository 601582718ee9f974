/-
  SChunk; SCon
-/
import Derived.Test.YtcnaahajaaifjabPq15
import Derived.Deep.RegionHeld3
import Derived.Test.YtcnaahajaaifjabPq21
import Derived.Test.YtcnaahajaaifjabSStOk
import Derived.Test.YtcnaahajaaifjabPq33
/-
  spec.ChunkOf.
-/
namespace Go.Proofs.Ytcnaahajaaifjab
open Go.RowKit
open Words

set_option maxHeartbeats 1000000 in
set_option maxRecDepth 100000 in
theorem schunk (va : Option Addr) (vl vc : Nat) (ad : Option Addr) (len cap : Nat) (nx : Int) (vs : List (Int × Int)) (rs : List Kw) (vol sec : Int) (w : World) (hvl : vl ≤ 1048578) (hl : len ≤ 1048578) (h : VlRow w va vl vs) (hk : KnRd w ad len rs) :
    Calls Try.prog 14 #[.agg (SBox va vl vc ad len cap nx), .int .i64 vol, .int .i64 sec] w fun e w' => e = .returned (.int .i64 (chunkS ⟨vs, rs.map ktell, nx⟩ vol sec)) ∧ Below w.heap.size w w' := by
  have T0 := hide ((Tk.start w).cell #[.slice va vl vc, .slice ad len cap, .int .i64 nx] 35)
  have HVL := hide h.1
  have HV := hide h
  have HK := hide hk
  clear h hk
  obtain ⟨C, hC⟩ : ∃ C, chunkS ⟨vs, rs.map ktell, nx⟩ vol sec = C := ⟨_, rfl⟩
  have HC := hide hC
  rw [hC]
  clear hC
  unfold SBox
  go_enter Try.func14, Try.ntmps14
  go_wp2_with fail
  refine (satV va vl vc ad len cap nx vs vol _ hvl (HV.out.below T0.out.1)).mono ?_
  rintro e w1 ⟨rfl, b1⟩
  have T1 := hide (T0.out.below b1)
  clear b1 T0
  have x0 : w1.cell? ⟨w.heap.size, 0, none⟩ = some (.slice va vl vc) := T1.out.at 0 0 rfl rfl
  have x1 : w1.cell? ⟨w.heap.size, 1, none⟩ = some (.slice ad len cap) := T1.out.at 0 1 rfl rfl
  cases ha : atV vs vol with
  | none =>
    have E : Hid (C = 0) := by
      show _ = _
      rw [← HC.out]
      simp only [chunkS, rootV, ha, Option.bind_none]
    have e1 : atI none = -1 := rfl
    rw [e1]
    clear ha
    go_wp2
    go_ret
    exact ⟨by rw [E.out]; rfl, T1.out.1⟩
  | some k =>
    obtain ⟨v, hv, hid⟩ := atV_some ha
    have hkl := (List.getElem?_eq_some_iff.1 hv).1
    have hkv : (k : Int) < vl := by have := HVL.out; omega
    have k0 : (0 : Int) ≤ k := by omega
    have k1 : ¬ ((k : Int) < 0) := by omega
    have E : Hid (getT (rs.map ktell) v.2 sec = C) := by
      show _ = _
      rw [← HC.out]
      simp only [chunkS, rootV, ha, Option.bind_some, hv, Option.map_some]
    obtain ⟨b, off, e, hb, c0, c1⟩ := (HV.out.below T1.out.1).at hv
    subst e
    have e1 : atI (some k) = (k : Int) := rfl
    rw [e1]
    have CG := hide (sgetAt ad len cap rs v.2 sec w1.drew hl (HK.out.below T1.out.1.drew))
    have CF := hide (sgetAt ad len cap rs v.2 sec w1 hl (HK.out.below T1.out.1))
    rw [E.out] at CG CF
    have T1d := hide T1.out.1.drew
    have l0 := World.block_lt_of_cell? w1 _ x0
    have l1 := World.block_lt_of_cell? w1 _ x1
    have l2 := World.block_lt_of_cell? w1 _ c1
    clear ha hv hid hkl E
    first
      | (go_wp2_with fail
         refine CF.out.mono ?_
         rintro e w2 ⟨rfl, b2⟩
         have B2 := hide (T1.out.1.trans (b2.mono T1.out.1.size)))
      | (go_wp2
         go_region_held3 (fun w' => w'.cell? ⟨w.heap.size, 0, none⟩ = some (.slice (some ⟨b, off, none⟩) vl vc) ∧ w'.cell? ⟨w.heap.size, 1, none⟩ = some (.slice ad len cap) ∧ w'.cell? ⟨b, off + k * 2 + 1, none⟩ = some (.int .i64 v.2)) (first | exact ⟨x0, x1, c1⟩ | exact KY.out) ((go_at_call 48; (with_reducible refine Calls.mono CG.out ?_); rintro en w2 ⟨rfl, b2⟩; have KY : Hid (w2.cell? ⟨w.heap.size, 0, none⟩ = some (.slice (some ⟨b, off, none⟩) vl vc) ∧ w2.cell? ⟨w.heap.size, 1, none⟩ = some (.slice ad len cap) ∧ w2.cell? ⟨b, off + k * 2 + 1, none⟩ = some (.int .i64 v.2)) := ⟨(b2.cell l0).trans x0, (b2.cell l1).trans x1, (b2.cell l2).trans c1⟩))
         have B2 := hide (T1d.out.trans (b2.mono T1d.out.size)))
    all_goals
      clear CG CF
      go_wp2
      go_ret
      exact ⟨rfl, B2.out⟩
end Go.Proofs.Ytcnaahajaaifjab

/-
  The specification's functions that only read a store, by their contracts.
-/
namespace Go.Proofs.Ytcnaahajaaifjab
open Go.RowKit
open Words

theorem sstoreOk : OkC 10 := by
  rintro v ⟨vs, kns, nx⟩ w ⟨va, vl, vc, ad, len, cap, rs, rfl, h2, h3, h4, h5, h6, h7, h8⟩
  simp only at h2 h7
  subst h2
  exact sstOk va vl vc ad len cap nx vs rs w (by omega) (by omega) h5 h7 h8
theorem schunkOf : ChunkC 14 := by
  rintro v ⟨vs, kns, nx⟩ vol sec w ⟨va, vl, vc, ad, len, cap, rs, rfl, h2, h3, h4, h5, h6, h7, h8⟩
  simp only at h2 h7
  subst h2
  exact schunk va vl vc ad len cap nx vs rs vol sec w (by omega) (by omega) h7 h8
theorem srefsOf : RefsC 16 := by
  rintro v ⟨vs, kns, nx⟩ c w ⟨va, vl, vc, ad, len, cap, rs, rfl, h2, h3, h4, h5, h6, h7, h8⟩
  simp only at h2 h7
  subst h2
  exact srefs va vl vc ad len cap nx vs rs c w (by omega) (by omega) h7 h8
end Go.Proofs.Ytcnaahajaaifjab
