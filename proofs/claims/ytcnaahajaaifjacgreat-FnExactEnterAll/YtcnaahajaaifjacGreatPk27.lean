/-
  SChunk; SRefs; SCon; SPut
-/
import Derived.Test.YtcnaahajaaifjacGreatPk12
import Derived.Deep.RegionHeld3
import Derived.Test.YtcnaahajaaifjacGreatPk15
import Derived.Test.YtcnaahajaaifjacGreatPk16
import Derived.Test.YtcnaahajaaifjacGreatSStOk
import Derived.Test.YtcnaahajaaifjacGreatPk23
/-
  spec.ChunkOf.
-/
namespace Go.Proofs.YtcnaahajaaifjacGreat
open Go.RowKit
open Words

end Go.Proofs.YtcnaahajaaifjacGreat

/-
  spec.RefsOf.
-/
namespace Go.Proofs.YtcnaahajaaifjacGreat
open Go.RowKit
open Words

/-- References among the first k volumes. -/
def refsK (l : List Kn) (vs : List (Int × Int)) (c : Int) (k : Nat) : Nat := ((vs.take k).map (fun v => (allT l v.2).count c)).sum
theorem refsK_succ {l : List Kn} {vs : List (Int × Int)} {c : Int} {k : Nat} {v : Int × Int} (h : vs[k]? = some v) : refsK l vs c (k + 1) = refsK l vs c k + (allT l v.2).count c := by
  obtain ⟨h1, h2⟩ := List.getElem?_eq_some_iff.1 h
  rw [refsK, refsK, List.take_succ_eq_append_getElem h1, h2, List.map_append, List.sum_append]
  simp
theorem refsK_le (l : List Kn) (vs : List (Int × Int)) (c : Int) (k : Nat) : refsK l vs c k ≤ 16 * k := by
  induction k with
  | zero => simp [refsK]
  | succ k ih =>
    by_cases hk : k < vs.length
    · rw [refsK_succ (List.getElem?_eq_getElem hk)]
      have := List.count_le_length (a := c) (l := allT l (vs[k]).2)
      rw [allT_len] at this
      omega
    · rw [refsK, List.take_of_length_le (by omega)]
      rw [refsK, List.take_of_length_le (by omega)] at ih
      omega
theorem count_take {L : List Int} {c x : Int} {m : Nat} (h : L[m]? = some x) : (L.take (m + 1)).count c = (L.take m).count c + (if x = c then 1 else 0) := by
  obtain ⟨h1, h2⟩ := List.getElem?_eq_some_iff.1 h
  rw [List.take_succ_eq_append_getElem h1, h2, List.count_append, List.count_singleton]
  simp

end Go.Proofs.YtcnaahajaaifjacGreat

/-
  The specification's functions that only read a store, by their contracts.
-/
namespace Go.Proofs.YtcnaahajaaifjacGreat
open Go.RowKit
open Words

theorem sstoreOk : OkC 33 := by
  rintro v ⟨vs, kns, nx⟩ w ⟨va, vl, vc, ad, len, cap, rs, rfl, h2, h3, h4, h5, h6, h7, h8⟩
  simp only at h2 h7
  subst h2
  exact sstOk va vl vc ad len cap nx vs rs w (by omega) (by omega) h5 h7 h8
end Go.Proofs.YtcnaahajaaifjacGreat

/-
  spec.PutAt.
-/
namespace Go.Proofs.YtcnaahajaaifjacGreat
open Go.RowKit
open Words

set_option maxHeartbeats 2000000 in
set_option maxRecDepth 100000 in
theorem sput (ad : Option Addr) (len cap : Nat) (rs : List Kw) (r s n : Int) (w : World) (hl : len ≤ 1048578) (hll : ∀ r ∈ rs, r.2.2.length ≤ 1048576) (h : KnRd w ad len rs) :
    Calls Tryz.prog 38 #[.agg #[.slice ad len cap], .int .i64 r, .int .i64 s, .int .i64 n] w (PutOut w (putL (rs.map ktell) r s n) (putR (rs.map ktell) r s n)) := by
  have T0 := hide (Tk.two w #[.slice ad len cap] #[.slice none 0 0] 34 34)
  have K0 := hide (h.below T0.out.1)
  have HLL := hide hll
  clear h hll
  have q0 : ((w.alloc (.cells #[.slice ad len cap] 34)).alloc (.cells #[.slice none 0 0] 34)).cell? ⟨w.heap.size, 0, none⟩ = some (.slice ad len cap) := T0.out.at 1 0 rfl rfl
  have HZ0 : Hid (((w.alloc (.cells #[.slice ad len cap] 34)).alloc (.cells #[.slice none 0 0] 34)).heap.size = w.heap.size + 1 + 1) := by show _ = _; simp
  go_enter Tryz.func38, Tryz.ntmps38
  go_wp2_with fail
  generalize (w.alloc (.cells #[.slice ad len cap] 34)).alloc (.cells #[.slice none 0 0] 34) = w0 at T0 K0 q0 HZ0 ⊢
  refine (skcopy ad len cap rs w0 hl HLL.out K0.out).mono ?_
  rintro e w1 ⟨v, rfl, uv, ss, rfl, ko, hss, b1⟩
  obtain ⟨ua, uc, rfl⟩ := ko.form
  have HSS := hide hss
  have T1 := hide (T0.out.below b1)
  have hz0 : Hid (w0.heap.size = w.heap.size + 1 + 1) := HZ0
  have hz1 : Hid (w.heap.size + 1 + 1 ≤ w1.heap.size) := by have := b1.size; have := hz0.out; show _ ≤ _; omega
  have KO := hide ko
  have K1 := hide (K0.out.below b1)
  obtain ⟨z, hz⟩ : ∃ z, w.heap.size = z := ⟨_, rfl⟩
  have HZ := hide hz
  rw [hz] at T0 T1 hz0 hz1 ⊢
  clear hz hss ko b1 q0 T0 K0 HZ0
  have KZ : Hid (∀ W, Below w1.heap.size w1 W → W.cell? ⟨z, 0, none⟩ = some (.slice ad len cap) ∧ W.cell? ⟨z + 1, 0, none⟩ = some (.slice none 0 0) ∧ W.frozen? ⟨z + 1, 0, none⟩ = false) := fun W hW =>
    ⟨(hW.cell (show z < w1.heap.size by have := hz1.out; omega)).trans (T1.out.at 1 0 rfl rfl), (hW.cell (show z + 1 < w1.heap.size by have := hz1.out; omega)).trans (T1.out.at 0 0 rfl rfl), frozen_of_row _ _ 0 _ _ ((hW.block (z + 1) (by have := hz1.out; omega)).trans (T1.out.get 0 rfl))⟩
  have NO : Hid (∀ W, Below w1.heap.size w1 W → KOut w (rs.map ktell) (.agg #[.slice ua ss.length uc]) (W.setCell ⟨z + 1, 0, none⟩ (.slice ua ss.length uc)) ∧ (W.setCell ⟨z + 1, 0, none⟩ (.slice ua ss.length uc)).heap[z + 1]? = some (.cells #[.slice ua ss.length uc] 34 (0, 0))) := fun W hW =>
    ⟨⟨_, ss, rfl, by rw [HZ.out]; exact ((KO.out.below hW).cellB (show z + 1 < w0.heap.size by have := hz0.out; omega) _ _).down (by have := hz0.out; omega), HSS.out, (T1.out.1.trans (hW.mono T1.out.1.size)).setCell (p := ⟨z + 1, 0, none⟩) (by show w.heap.size ≤ z + 1; have := HZ.out; omega) _⟩, row_set ((hW.block (z + 1) (by have := hz1.out; omega)).trans (T1.out.get 0 rfl)) 0 _⟩
  have U0 := hide ((Tk.start w1).cell #[.slice ua ss.length uc] 34)
  obtain ⟨g, hg⟩ : ∃ g, w1.heap.size = g := ⟨_, rfl⟩
  have HG := hide hg
  have q1 := (KZ.out _ U0.out.1).1
  have HW2 := hide (show (w1.alloc (.cells #[.slice ua ss.length uc] 34)).heap.size = w1.heap.size + 1 by simp)
  rw [hg] at U0 HW2
  go_wp2_with fail
  clear hg
  generalize w1.alloc (.cells #[.slice ua ss.length uc] 34) = w2 at U0 HW2 q1 ⊢
  refine (sarOk ad len cap rs w2 hl (K1.out.below U0.out.1)).mono ?_
  rintro e w3 ⟨rfl, b3⟩
  have U1 := hide (U0.out.below b3)
  clear q1 b3
  have q1 := (KZ.out _ U1.out.1).1
  have f1 := (KZ.out _ U1.out.1).2.2
  have g1 : w3.cell? ⟨g, 0, none⟩ = some (.slice ua ss.length uc) := U1.out.at 0 0 rfl rfl
  have n1 := (KZ.out _ U1.out.1).2.1
  cases hA : arB (rs.map ktell) with
  | false =>
    have E : Hid (putL (rs.map ktell) r s n = rs.map ktell ∧ putR (rs.map ktell) r s n = r) := put_refused (by rw [putB, askB, hA]; simp)
    clear hA
    go_wp2
    exact bodyPost_ret (results_ar2 (p := 8) (q := 9) rfl _ _ (z + 1) _ rfl (NO.out _ U1.out.1).2) rfl (putout_no E.out (NO.out _ U1.out.1).1)
  | true =>
    have HA := hide hA
    go_wp2_with fail
    refine (sroot ad len cap rs r w3 hl (K1.out.below U1.out.1)).mono ?_
    rintro e w4 ⟨rfl, b4⟩
    have U2 := hide (U1.out.below b4)
    clear q1 f1 g1 n1 b4 hA
    have q1 := (KZ.out _ U2.out.1).1
    have f1 := (KZ.out _ U2.out.1).2.2
    have g1 : w4.cell? ⟨g, 0, none⟩ = some (.slice ua ss.length uc) := U2.out.at 0 0 rfl rfl
    have n1 := (KZ.out _ U2.out.1).2.1
    cases hR : rootB (rs.map ktell) r with
    | false =>
      have E : Hid (putL (rs.map ktell) r s n = rs.map ktell ∧ putR (rs.map ktell) r s n = r) := put_refused (by rw [putB, askB, hR]; simp)
      clear hR
      go_wp2
      exact bodyPost_ret (results_ar2 (p := 8) (q := 9) rfl _ _ (z + 1) _ rfl (NO.out _ U2.out.1).2) rfl (putout_no E.out (NO.out _ U2.out.1).1)
    | true =>
      have HR := hide hR
      clear hR
      go_wp2_with fail
      refine (sin_any s 0 15 _).mono ?_
      rintro e w5 ⟨rfl, rfl⟩
      by_cases hin : 0 ≤ s ∧ s ≤ 15
      · rw [decide_eq_true hin]
        by_cases hn : n < 0
        · have E : Hid (putL (rs.map ktell) r s n = rs.map ktell ∧ putR (rs.map ktell) r s n = r) := put_refused (by rw [putB, decide_eq_false (show ¬ 0 ≤ n by omega)]; simp)
          go_wp2
          exact bodyPost_ret (results_ar2 (p := 8) (q := 9) rfl _ _ (z + 1) _ rfl (NO.out _ U2.out.1).2) rfl (putout_no E.out (NO.out _ U2.out.1).1)
        · obtain ⟨i0, hi0, hz0', hz1', hz2'⟩ := info_parts infoInt
          have I0 := hide hi0
          have Y0 := hide hz0'
          have Y1 := hide hz1'
          have Y2 := hide hz2'
          clear hi0 hz0' hz1' hz2'
          obtain ⟨p, hp⟩ : ∃ p, w5.heap.size = p := ⟨_, rfl⟩
          have hgp : Hid (g + 1 ≤ p) := by have : g + 1 ≤ w5.heap.size := U2.out.hi 0 rfl; show _ ≤ _; omega
          go_wp2_with (at_make; refine wpList_make_full _ rfl _ _ 81 rfl w5.heap.size 3 i0 (.int .i64 0) 1 Tryz.underlying81 I0.out Y0.out Y1.out .i64 .i64 _ _ 4 rfl rfl rfl rfl (by rw [Y2.out]; omega) (by unfold maxLen; omega) (Nat.le_refl _) ?_)
          intro w6 hown hgrow
          rw [toList_madeCells_one] at hown
          have BG : Below w5.heap.size w5 w6 := (Below.refl _ _).grown hgrow (Nat.le_refl _) (fun k hk => by cases hk)
          have F1 := (Sli.of hown).flt
          have hw6 : p + 1 ≤ w6.heap.size := by obtain ⟨cs, q, -⟩ := F1; have := (Array.getElem?_eq_some_iff.1 q).1; omega
          have U3 := hide ((U2.out.below BG).put (P := Flt 3 p (icells [0, 0, 0, 0])) hw6 (Flt.loc _ _ _) F1)
          obtain ⟨d, hd⟩ : ∃ d, w6.heap.size = d := ⟨_, rfl⟩
          have hpd : Hid (p + 1 ≤ d) := by show _ ≤ _; omega
          clear hown hgrow BG F1 hw6 q1 f1 g1 n1 U0 U1 hp
          have U4 := hide (((U3.out.celln hd #[.bool true, .slice (some ⟨p, 0, none⟩) 4 4] 84).celln (alloc_size hd _) #[.int .i64 (-1), .int .i64 (-1), .int .i64 (-1), .int .i64 (-1)] 3).celln (alloc_size (alloc_size hd _) _) #[.bool false, .slice (some ⟨d + 1, 0, none⟩) 4 4] 84)
          have U5 : Hid (Tk w1 (((w6.alloc (.cells #[.bool true, .slice (some ⟨p, 0, none⟩) 4 4] 84)).alloc (.cells #[.int .i64 (-1), .int .i64 (-1), .int .i64 (-1), .int .i64 (-1)] 3)).alloc (.cells #[.bool false, .slice (some ⟨d + 1, 0, none⟩) 4 4] 84)) (PutH g d (d + 1 + 1) p (d + 1) 4 4 (.slice ua ss.length uc) [0, 0, 0, 0] [-1, -1, -1, -1])) :=
            (U4.out.as 1 rfl (Q := Flt 3 (d + 1) (icells [-1, -1, -1, -1])) (Flt.loc _ _ _) ⟨_, U4.out.get 1 rfl, fun i v hi => by simpa [icells] using hi⟩).drop (fun y hy => by
              simp only [List.mem_cons, List.not_mem_nil, or_false] at hy ⊢
              rcases hy with h | h | h | h | h <;> simp [h])
          obtain ⟨sn, rfl⟩ : ∃ sn : Nat, s = (sn : Int) := ⟨s.toNat, by omega⟩
          obtain ⟨q, hq⟩ : ∃ q, sn / 4 = q := ⟨_, rfl⟩
          obtain ⟨t, ht⟩ : ∃ t, sn % 4 = t := ⟨_, rfl⟩
          have hq4 : q < 4 := by omega
          have ht4 : t < 4 := by omega
          have tq : (sn : Int).tdiv 4 = (q : Int) := by rw [Int.tdiv_eq_ediv_of_nonneg (by omega)]; omega
          have tt : (sn : Int).tmod 4 = (t : Int) := by rw [Int.tmod_eq_emod_of_nonneg (by omega)]; omega
          have tq2 : (sn : Int) / 4 = (q : Int) := by omega
          have tt2 : (sn : Int) % 4 = (t : Int) := by omega
          have q0 : (0 : Int) ≤ q := by omega
          have q4 : (q : Int) < 4 := by omega
          have t0 : (0 : Int) ≤ t := by omega
          have t4 : (t : Int) < 4 := by omega
          have HSL : Hid ((rs.map ktell).length = ss.length) := by show _ = _; rw [← HSS.out, List.length_map]
          have HPB : Hid (putB (rs.map ktell) r (sn : Int) n = true) := by show _ = _; rw [putB, askB, HA.out, HR.out, decide_eq_true hin.1, decide_eq_true hin.2, decide_eq_true (show 0 ≤ n by omega)]; rfl
          have HQ := hide hq
          have HT := hide ht
          have hgw : Hid (w1.heap.size = g) := HG
          clear U3 U4 hq ht hin
          by_cases hr0 : r < 0
          · have HLK : Hid (putLf (rs.map ktell) r sn n = ⟨true, [0, 0, 0, 0].set t n⟩ ∧ putTop (rs.map ktell) r sn = ⟨false, [-1, -1, -1, -1].set q (ss.length : Int)⟩) := ⟨by rw [putLf, if_pos hr0, HT.out], by rw [putTop, if_pos hr0, HQ.out, HSL.out]⟩
            have DA : Hid (Apart5 w1.heap.size g d (d + 1 + 1) p (d + 1)) := by have := hgw.out; have := hgp.out; have := hpd.out; constructor <;> omega
            obtain ⟨⟨a1, ⟨e2, a2⟩, a3, a4, a5, ⟨e6, a6⟩, a7, a8, b1, b2, b3, b4⟩, V⟩ := put_cells (t := t) (q := q) U5.out DA.out rfl rfl ht4 hq4 n (ss.length : Int)
            have V2 := hide V
            clear V U5
            have HE := hide hd
            obtain ⟨j0, hi0, hz0', hz1', hz2'⟩ := info_parts infoKn
            have J0 := hide hi0
            have X0 := hide hz0'
            have X1 := hide hz1'
            have X2 := hide hz2'
            clear hi0 hz0' hz1' hz2'
            have hsl : ss.length ≤ 1048578 := by rw [← HSL.out, List.length_map]; have := K1.out.1; omega
            have OW : Hid (((((((w6.alloc (.cells #[.bool true, .slice (some ⟨p, 0, none⟩) 4 4] 84)).alloc (.cells #[.int .i64 (-1), .int .i64 (-1), .int .i64 (-1), .int .i64 (-1)] 3)).alloc (.cells #[.bool false, .slice (some ⟨d + 1, 0, none⟩) 4 4] 84)).setCell ⟨p, t, none⟩ (.int .i64 n)).setCell ⟨d + 1, q, none⟩ (.int .i64 (ss.length : Int))).alloc (.cells #[.bool true, .slice (some ⟨p, 0, none⟩) 4 4, .bool false, .slice (some ⟨d + 1, 0, none⟩) 4 4] 84)).ownsRow w0.heap.size 84 2 (.slice ua ss.length uc) ss.length (kncells ss)) := own_below (own_below KO.out.1 V2.out.1) ((Below.refl _ _).alloc (Nat.le_refl _) _)
            have HN := hide (kn2_new (((((w6.alloc (.cells #[.bool true, .slice (some ⟨p, 0, none⟩) 4 4] 84)).alloc (.cells #[.int .i64 (-1), .int .i64 (-1), .int .i64 (-1), .int .i64 (-1)] 3)).alloc (.cells #[.bool false, .slice (some ⟨d + 1, 0, none⟩) 4 4] 84)).setCell ⟨p, t, none⟩ (.int .i64 n)).setCell ⟨d + 1, q, none⟩ (.int .i64 (ss.length : Int))) (E := d + 1 + 1 + 1) (by simp [HE.out]) (.slice (some ⟨p, 0, none⟩) 4 4) (.slice (some ⟨d + 1, 0, none⟩) 4 4))
            have HB : Hid (w0.heap.size ≤ ((((((w6.alloc (.cells #[.bool true, .slice (some ⟨p, 0, none⟩) 4 4] 84)).alloc (.cells #[.int .i64 (-1), .int .i64 (-1), .int .i64 (-1), .int .i64 (-1)] 3)).alloc (.cells #[.bool false, .slice (some ⟨d + 1, 0, none⟩) 4 4] 84)).setCell ⟨p, t, none⟩ (.int .i64 n)).setCell ⟨d + 1, q, none⟩ (.int .i64 (ss.length : Int))).alloc (.cells #[.bool true, .slice (some ⟨p, 0, none⟩) 4 4, .bool false, .slice (some ⟨d + 1, 0, none⟩) 4 4] 84)).heap.size) := Nat.le_trans (Nat.le_trans (show w0.heap.size ≤ w1.heap.size by have := hz0.out; have := hz1.out; omega) V2.out.1.size) (((Below.refl _ _).alloc (Nat.le_refl _) _ : Below _ _ _).size)
            go_wp2_with (at_builtin; refine wpList_append_own _ rfl _ _ 32 rfl w0.heap.size 84 j0 (.agg #[.bool false, .slice none 0 0]) 2 32 Tryz.underlying32 J0.out X0.out X1.out X2.out rfl (by decide) _ ss.length (kncells ss) rfl OW.out ⟨d + 1 + 1 + 1, 0, none⟩ 2 2 [.bool true, .slice (some ⟨p, 0, none⟩) 4 4, .bool false, .slice (some ⟨d + 1, 0, none⟩) 4 4] rfl rfl HN.out (kn2_one _ _ _ _ _ _) ?c1 ?c2 HB.out ?_)
            case c1 => unfold maxLen; omega
            case c2 => omega
            intro u2 y o2 g2 _
            obtain ⟨ub, ubc, hu2, -⟩ := (Sli.of o2).form
            subst hu2
            obtain ⟨⟨ev, e1⟩, e2, e3, e4, e5, e8, e6, e7⟩ := put_end HZ.out T1.out rfl KO.out hz0.out (show w0.heap.size ≤ w1.heap.size by have := hz0.out; have := hz1.out; omega) V2.out DA.out (by simp) (by simp) rfl o2 g2
            have E6 := hide e6
            have E7 := hide e7
            clear e6 e7 o2 g2 a1 a2 a3 a4 a5 a6 a7 a8 b1 b2 b3 b4 V2 HB HN OW
            have hwr : IntKind.i64.wrap (((ss.length + 2 : Nat) : Int) - 1) = (ss.length : Int) + 1 := by rw [IntKind.wrap_i64] <;> omega
            go_wp2_with fail
            generalize y.setCell ⟨g, 0, none⟩ (.slice ub (ss.length + 2) ubc) = yy at e3 e4 e5 e8 E6 E7 ⊢
            go_region
            go_wp2
            exact bodyPost_ret (results_ar2 (p := 8) (q := 9) rfl _ _ (z + 1) _ rfl E6.out) rfl (put_yes HPB.out HLK.out (by have := HSL.out; omega) HSS.out E7.out)
          · obtain ⟨m, rfl⟩ : ∃ m : Nat, r = (m : Int) := ⟨r.toNat, by omega⟩
            obtain ⟨x, hx, hxl⟩ := rootB_pos HR.out (by omega)
            have hml : m < len := by have := (List.getElem?_eq_some_iff.1 hx).1; rw [List.length_map, K1.out.1] at this; simpa using this
            have HE4 : Hid ((((w6.alloc (.cells #[.bool true, .slice (some ⟨p, 0, none⟩) 4 4] 84)).alloc (.cells #[.int .i64 (-1), .int .i64 (-1), .int .i64 (-1), .int .i64 (-1)] 3)).alloc (.cells #[.bool false, .slice (some ⟨d + 1, 0, none⟩) 4 4] 84)).heap.size = d + 1 + 1 + 1) := alloc_size (alloc_size (alloc_size hd _) _) _
            have B5 : Hid (Below w1.heap.size w1 ((((w6.alloc (.cells #[.bool true, .slice (some ⟨p, 0, none⟩) 4 4] 84)).alloc (.cells #[.int .i64 (-1), .int .i64 (-1), .int .i64 (-1), .int .i64 (-1)] 3)).alloc (.cells #[.bool false, .slice (some ⟨d + 1, 0, none⟩) 4 4] 84)).alloc (.cells #[] 3))) := U5.out.1.alloc U5.out.1.size _
            have K5 := hide (K1.out.below B5.out)
            obtain ⟨b, off, e, -⟩ := K1.out.adr (by omega)
            subst e
            have x4 := knB_len (arB_at HA.out hx)
            obtain ⟨o, ho, hcase⟩ := inner_kid HA.out hx hxl hq4
            have HKA : Hid (kidAt (rs.map ktell) (m : Int) q = o) := kidAt_some hx ho
            obtain ⟨ka, kc, -, c1, kr⟩ := K5.out.kids hx
            rw [x4] at c1 kr
            simp only [Int.toNat_natCast] at c1
            obtain ⟨kb, ko, e, -, -⟩ := kr.at ho
            subst e
            have C1 := hide kr.cells
            have OE := hide (row_empty (((w6.alloc (.cells #[.bool true, .slice (some ⟨p, 0, none⟩) 4 4] 84)).alloc (.cells #[.int .i64 (-1), .int .i64 (-1), .int .i64 (-1), .int .i64 (-1)] 3)).alloc (.cells #[.bool false, .slice (some ⟨d + 1, 0, none⟩) 4 4] 84)) HE4.out)
            have L1 : Hid ((icells x.kids).length = 4 * 1) := by show _ = _; rw [icells, List.length_map, x4]
            have m0 : (0 : Int) ≤ m := by omega
            have mL : (m : Int) < len := by omega
            have cz := (KZ.out _ B5.out).1
            have HB5 : Hid (d + 1 + 1 + 1 ≤ ((((w6.alloc (.cells #[.bool true, .slice (some ⟨p, 0, none⟩) 4 4] 84)).alloc (.cells #[.int .i64 (-1), .int .i64 (-1), .int .i64 (-1), .int .i64 (-1)] 3)).alloc (.cells #[.bool false, .slice (some ⟨d + 1, 0, none⟩) 4 4] 84)).alloc (.cells #[] 3)).heap.size) := by have := alloc_size HE4.out (.cells #[] 3); show _ ≤ _; omega
            have HX := hide hx
            have HXL := hide hxl
            have HX4 := hide x4
            have HO := hide ho
            have HC := hide hcase
            have HML := hide hml
            clear hx hxl x4 ho hcase kr hml
            go_wp2_with (at_builtin; refine wpList_append_own _ rfl _ _ 81 rfl (d + 1 + 1 + 1) 3 i0 (.int .i64 0) 1 8 Tryz.underlying81 I0.out Y0.out Y1.out Y2.out rfl (by decide) _ 0 [] rfl OE.out ⟨kb, ko, none⟩ 4 kc (icells x.kids) rfl L1.out C1.out (icells_one _) (by unfold maxLen; omega) (by omega) HB5.out ?_)
            intro v1 w7 o1 g1 _
            obtain ⟨tk, vc, rfl, htk, U6⟩ := put_row U5.out HE4.out o1 g1
            have DA : Hid (Apart5 w1.heap.size g d (d + 1 + 1) p tk) := by have := hgw.out; have := hgp.out; have := hpd.out; constructor <;> omega
            obtain ⟨s1, s2, U7⟩ := put_top (tc := vc) U6 DA.out
            have U8 := hide U7
            have s3 : (w7.setCell ⟨d + 1 + 1, 1, none⟩ (.slice (some ⟨tk, 0, none⟩) 4 vc)).cell? ⟨d + 1 + 1, 1, none⟩ = some (.slice (some ⟨tk, 0, none⟩) 4 vc) := U7.at 0 1 rfl rfl
            have s4 : (w7.setCell ⟨d + 1 + 1, 1, none⟩ (.slice (some ⟨tk, 0, none⟩) 4 vc)).cell? ⟨tk, q, none⟩ = some (.int .i64 o) := (show Flt 3 tk (icells x.kids) _ from U7.get 1 rfl).cell (icells_get HO.out)
            clear o1 g1 U6 U7 c1 C1 OE L1 cz HB5 K5 B5 U5
            rcases HC.out with rfl | ⟨n0, nm, yk, hy, hyl, hy4⟩
            · have HLK : Hid (putLf (rs.map ktell) (m : Int) sn n = ⟨true, [0, 0, 0, 0].set t n⟩ ∧ putTop (rs.map ktell) (m : Int) sn = ⟨false, x.kids.set q (ss.length : Int)⟩) := ⟨by rw [putLf, if_neg (show ¬ (m : Int) < 0 by omega), HT.out, HQ.out, HKA.out, if_pos (by omega)], by rw [putTop, if_neg (show ¬ (m : Int) < 0 by omega), HQ.out, HSL.out, HX.out]; rfl⟩
              obtain ⟨⟨a1, ⟨e2, a2⟩, a3, a4, a5, ⟨e6, a6⟩, a7, a8, b1, b2, b3, b4⟩, V⟩ := put_cells (t := t) (q := q) U8.out DA.out rfl HX4.out ht4 hq4 n (ss.length : Int)
              have V2 := hide V
              obtain ⟨ee, hee⟩ : ∃ ee, w7.heap.size = ee := ⟨_, rfl⟩
              have HE := hide hee
              clear V U8
              obtain ⟨j0, hi0, hz0', hz1', hz2'⟩ := info_parts infoKn
              have J0 := hide hi0
              have X0 := hide hz0'
              have X1 := hide hz1'
              have X2 := hide hz2'
              clear hi0 hz0' hz1' hz2'
              have hsl : ss.length ≤ 1048578 := by rw [← HSL.out, List.length_map]; have := K1.out.1; omega
              have OW : Hid (((((w7.setCell ⟨d + 1 + 1, 1, none⟩ (.slice (some ⟨tk, 0, none⟩) 4 vc)).setCell ⟨p, t, none⟩ (.int .i64 n)).setCell ⟨tk, q, none⟩ (.int .i64 (ss.length : Int))).alloc (.cells #[.bool true, .slice (some ⟨p, 0, none⟩) 4 4, .bool false, .slice (some ⟨tk, 0, none⟩) 4 vc] 84)).ownsRow w0.heap.size 84 2 (.slice ua ss.length uc) ss.length (kncells ss)) := own_below (own_below KO.out.1 V2.out.1) ((Below.refl _ _).alloc (Nat.le_refl _) _)
              have HN := hide (kn2_new (((w7.setCell ⟨d + 1 + 1, 1, none⟩ (.slice (some ⟨tk, 0, none⟩) 4 vc)).setCell ⟨p, t, none⟩ (.int .i64 n)).setCell ⟨tk, q, none⟩ (.int .i64 (ss.length : Int))) (E := ee) (by simp [HE.out]) (.slice (some ⟨p, 0, none⟩) 4 4) (.slice (some ⟨tk, 0, none⟩) 4 vc))
              have HB : Hid (w0.heap.size ≤ ((((w7.setCell ⟨d + 1 + 1, 1, none⟩ (.slice (some ⟨tk, 0, none⟩) 4 vc)).setCell ⟨p, t, none⟩ (.int .i64 n)).setCell ⟨tk, q, none⟩ (.int .i64 (ss.length : Int))).alloc (.cells #[.bool true, .slice (some ⟨p, 0, none⟩) 4 4, .bool false, .slice (some ⟨tk, 0, none⟩) 4 vc] 84)).heap.size) := Nat.le_trans (Nat.le_trans (show w0.heap.size ≤ w1.heap.size by have := hz0.out; have := hz1.out; omega) V2.out.1.size) (((Below.refl _ _).alloc (Nat.le_refl _) _ : Below _ _ _).size)
              go_wp2_with (at_builtin; refine wpList_append_own _ rfl _ _ 32 rfl w0.heap.size 84 j0 (.agg #[.bool false, .slice none 0 0]) 2 32 Tryz.underlying32 J0.out X0.out X1.out X2.out rfl (by decide) _ ss.length (kncells ss) rfl OW.out ⟨ee, 0, none⟩ 2 2 [.bool true, .slice (some ⟨p, 0, none⟩) 4 4, .bool false, .slice (some ⟨tk, 0, none⟩) 4 vc] rfl rfl HN.out (kn2_one _ _ _ _ _ _) ?c1 ?c2 HB.out ?_)
              case c1 => unfold maxLen; omega
              case c2 => omega
              intro u2 y o2 g2 _
              obtain ⟨ub, ubc, hu2, -⟩ := (Sli.of o2).form
              subst hu2
              obtain ⟨⟨ev, e1⟩, e2, e3, e4, e5, e8, e6, e7⟩ := put_end HZ.out T1.out rfl KO.out hz0.out (show w0.heap.size ≤ w1.heap.size by have := hz0.out; have := hz1.out; omega) V2.out DA.out (by simp) (by simp [HX4.out]) rfl o2 g2
              have E6 := hide e6
              have E7 := hide e7
              clear e6 e7 o2 g2 a1 a2 a3 a4 a5 a6 a7 a8 b1 b2 b3 b4 V2 HB HN OW
              have hwr : IntKind.i64.wrap (((ss.length + 2 : Nat) : Int) - 1) = (ss.length : Int) + 1 := by rw [IntKind.wrap_i64] <;> omega
              go_wp2_with fail
              generalize y.setCell ⟨g, 0, none⟩ (.slice ub (ss.length + 2) ubc) = yy at e3 e4 e5 e8 E6 E7 ⊢
              go_region
              go_wp2
              exact bodyPost_ret (results_ar2 (p := 8) (q := 9) rfl _ _ (z + 1) _ rfl E6.out) rfl (put_yes HPB.out HLK.out (by have := HSL.out; omega) HSS.out E7.out)
            · obtain ⟨j, rfl⟩ : ∃ j : Nat, o = (j : Int) := ⟨o.toNat, by omega⟩
              have HY4 := hide hy4
              have HLK : Hid (putLf (rs.map ktell) (m : Int) sn n = ⟨true, yk.kids.set t n⟩ ∧ putTop (rs.map ktell) (m : Int) sn = ⟨false, x.kids.set q (ss.length : Int)⟩) := ⟨by rw [putLf, if_neg (show ¬ (m : Int) < 0 by omega), HT.out, HQ.out, HKA.out, if_neg (by omega), hy]; rfl, by rw [putTop, if_neg (show ¬ (m : Int) < 0 by omega), HQ.out, HSL.out, HX.out]; rfl⟩
              obtain ⟨ee, hee⟩ : ∃ ee, w7.heap.size = ee := ⟨_, rfl⟩
              have HE0 : Hid ((w7.setCell ⟨d + 1 + 1, 1, none⟩ (.slice (some ⟨tk, 0, none⟩) 4 vc)).heap.size = ee) := by show _ = _; rw [← hee]; simp [World.setCell]
              have htke : tk < ee := by have : tk + 1 ≤ (w7.setCell ⟨d + 1 + 1, 1, none⟩ (.slice (some ⟨tk, 0, none⟩) 4 vc)).heap.size := U8.out.hi 1 rfl; have := HE0.out; omega
              have B8 : Hid (Below w1.heap.size w1 ((w7.setCell ⟨d + 1 + 1, 1, none⟩ (.slice (some ⟨tk, 0, none⟩) 4 vc)).alloc (.cells #[] 3))) := U8.out.1.alloc U8.out.1.size _
              obtain ⟨la, lc0, -, c1, lr⟩ := (K1.out.below B8.out).kids hy
              rw [hy4] at c1 lr
              simp only [Int.toNat_natCast] at c1
              obtain ⟨lv, hlv⟩ : ∃ lv, yk.kids[0]? = some lv := ⟨_, List.getElem?_eq_getElem (by omega)⟩
              obtain ⟨lkb, lko, e, -, -⟩ := lr.at hlv
              subst e
              have C1 := hide lr.cells
              have OE := hide (row_empty (w7.setCell ⟨d + 1 + 1, 1, none⟩ (.slice (some ⟨tk, 0, none⟩) 4 vc)) HE0.out)
              have L1 : Hid ((icells yk.kids).length = 4 * 1) := by show _ = _; rw [icells, List.length_map, hy4]
              have j0' : (0 : Int) ≤ j := by omega
              have jL : (j : Int) < len := by have := HML.out; simp only [Int.toNat_natCast] at nm; omega
              have cz := (KZ.out _ B8.out).1
              have HB5 : Hid (ee ≤ ((w7.setCell ⟨d + 1 + 1, 1, none⟩ (.slice (some ⟨tk, 0, none⟩) 4 vc)).alloc (.cells #[] 3)).heap.size) := by have := alloc_size HE0.out (.cells #[] 3); show _ ≤ _; omega
              have HY := hide hy
              clear hy hyl hy4 lr hlv nm n0
              go_wp2_with (at_builtin; refine wpList_append_own _ rfl _ _ 81 rfl ee 3 i0 (.int .i64 0) 1 8 Tryz.underlying81 I0.out Y0.out Y1.out Y2.out rfl (by decide) _ 0 [] rfl OE.out ⟨lkb, lko, none⟩ 4 lc0 (icells yk.kids) rfl L1.out C1.out (icells_one _) (by unfold maxLen; omega) (by omega) HB5.out ?_)
              intro v2 w8 o1 g1 _
              obtain ⟨lk, lc, rfl, hlk, U9⟩ := put_row U8.out HE0.out o1 g1
              have DB : Hid (Apart5 w1.heap.size g d (d + 1 + 1) lk tk) := by have := hgw.out; have := hgp.out; have := hpd.out; constructor <;> omega
              obtain ⟨s5, s6, U10⟩ := put_leaf (lc := lc) U9 DB.out
              clear o1 g1 U9 c1 C1 OE L1 cz HB5 B8 U8 s1 s2 s3 s4
              obtain ⟨⟨a1, ⟨e2, a2⟩, a3, a4, a5, ⟨e6, a6⟩, a7, a8, b1, b2, b3, b4⟩, V⟩ := put_cells (t := t) (q := q) U10 DB.out HY4.out HX4.out ht4 hq4 n (ss.length : Int)
              have V2 := hide V
              obtain ⟨ff, hff⟩ : ∃ ff, w8.heap.size = ff := ⟨_, rfl⟩
              have HF := hide hff
              clear V U10
              obtain ⟨j0, hi0, hz0', hz1', hz2'⟩ := info_parts infoKn
              have J0 := hide hi0
              have X0 := hide hz0'
              have X1 := hide hz1'
              have X2 := hide hz2'
              clear hi0 hz0' hz1' hz2'
              have hsl : ss.length ≤ 1048578 := by rw [← HSL.out, List.length_map]; have := K1.out.1; omega
              have OW : Hid (((((w8.setCell ⟨d, 1, none⟩ (.slice (some ⟨lk, 0, none⟩) 4 lc)).setCell ⟨lk, t, none⟩ (.int .i64 n)).setCell ⟨tk, q, none⟩ (.int .i64 (ss.length : Int))).alloc (.cells #[.bool true, .slice (some ⟨lk, 0, none⟩) 4 lc, .bool false, .slice (some ⟨tk, 0, none⟩) 4 vc] 84)).ownsRow w0.heap.size 84 2 (.slice ua ss.length uc) ss.length (kncells ss)) := own_below (own_below KO.out.1 V2.out.1) ((Below.refl _ _).alloc (Nat.le_refl _) _)
              have HN := hide (kn2_new (((w8.setCell ⟨d, 1, none⟩ (.slice (some ⟨lk, 0, none⟩) 4 lc)).setCell ⟨lk, t, none⟩ (.int .i64 n)).setCell ⟨tk, q, none⟩ (.int .i64 (ss.length : Int))) (E := ff) (by simp [HF.out]) (.slice (some ⟨lk, 0, none⟩) 4 lc) (.slice (some ⟨tk, 0, none⟩) 4 vc))
              have HB : Hid (w0.heap.size ≤ ((((w8.setCell ⟨d, 1, none⟩ (.slice (some ⟨lk, 0, none⟩) 4 lc)).setCell ⟨lk, t, none⟩ (.int .i64 n)).setCell ⟨tk, q, none⟩ (.int .i64 (ss.length : Int))).alloc (.cells #[.bool true, .slice (some ⟨lk, 0, none⟩) 4 lc, .bool false, .slice (some ⟨tk, 0, none⟩) 4 vc] 84)).heap.size) := Nat.le_trans (Nat.le_trans (show w0.heap.size ≤ w1.heap.size by have := hz0.out; have := hz1.out; omega) V2.out.1.size) (((Below.refl _ _).alloc (Nat.le_refl _) _ : Below _ _ _).size)
              go_wp2_with (at_builtin; refine wpList_append_own _ rfl _ _ 32 rfl w0.heap.size 84 j0 (.agg #[.bool false, .slice none 0 0]) 2 32 Tryz.underlying32 J0.out X0.out X1.out X2.out rfl (by decide) _ ss.length (kncells ss) rfl OW.out ⟨ff, 0, none⟩ 2 2 [.bool true, .slice (some ⟨lk, 0, none⟩) 4 lc, .bool false, .slice (some ⟨tk, 0, none⟩) 4 vc] rfl rfl HN.out (kn2_one _ _ _ _ _ _) ?c1 ?c2 HB.out ?_)
              case c1 => unfold maxLen; omega
              case c2 => omega
              intro u2 y o2 g2 _
              obtain ⟨ub, ubc, hu2, -⟩ := (Sli.of o2).form
              subst hu2
              obtain ⟨⟨ev, e1⟩, e2, e3, e4, e5, e8, e6, e7⟩ := put_end HZ.out T1.out rfl KO.out hz0.out (show w0.heap.size ≤ w1.heap.size by have := hz0.out; have := hz1.out; omega) V2.out DB.out (by simp [HY4.out]) (by simp [HX4.out]) rfl o2 g2
              have E6 := hide e6
              have E7 := hide e7
              clear e6 e7 o2 g2 a1 a2 a3 a4 a5 a6 a7 a8 b1 b2 b3 b4 V2 HB HN OW
              have hwr : IntKind.i64.wrap (((ss.length + 2 : Nat) : Int) - 1) = (ss.length : Int) + 1 := by rw [IntKind.wrap_i64] <;> omega
              go_wp2_with fail
              generalize y.setCell ⟨g, 0, none⟩ (.slice ub (ss.length + 2) ubc) = yy at e3 e4 e5 e8 E6 E7 ⊢
              go_region
              go_wp2
              exact bodyPost_ret (results_ar2 (p := 8) (q := 9) rfl _ _ (z + 1) _ rfl E6.out) rfl (put_yes HPB.out HLK.out (by have := HSL.out; omega) HSS.out E7.out)
      · have E : Hid (putL (rs.map ktell) r s n = rs.map ktell ∧ putR (rs.map ktell) r s n = r) := put_refused (by
          rw [putB, askB]
          simp only [Bool.and_eq_false_iff, decide_eq_false_iff_not]
          omega)
        rw [decide_eq_false hin]
        clear hin
        go_wp2
        exact bodyPost_ret (results_ar2 (p := 8) (q := 9) rfl _ _ (z + 1) _ rfl (NO.out _ U2.out.1).2) rfl (putout_no E.out (NO.out _ U2.out.1).1)
end Go.Proofs.YtcnaahajaaifjacGreat
