/-
  impl's forests: what is left of one that is swept.
-/
import Derived.Test.YtcnaahajaaifjacGreatPk40
namespace Go.Proofs.YtcnaahajaaifjacGreat
open Go.RowKit
open Words

theorem SwSt.grown {lo : Nat} {w W y : World} {fv tv : Value} {bs ts : List Nat} {L : List Kn} {rs : List Int} {u : Nat → Bool} {p : Nat → Int} {row : Option Nat} (h : SwSt lo w W fv bs L tv ts rs u p) (hg : W.grownBy y row) (hlo : lo ≤ W.heap.size)
    (hr : ∀ g, row = some g → lo ≤ g ∧ (∃ cs, W.heap[g]? = some (.cells cs 113 (0, 0))) ∧ fv.ownBlock ≠ some g ∧ tv.ownBlock ≠ some g) : SwSt lo w y fv bs L tv ts rs u p := by
  have far : ∀ {v : Value} {n : Nat} {xs : List Value}, W.ownsRow lo 113 1 v n xs → (∀ g, row = some g → v.ownBlock ≠ some g) → y.ownsRow lo 113 1 v n xs := by
    intro v n xs ho hv
    refine ho.kept hg ?_
    cases hq : v.ownBlock with
    | none => exact .inl rfl
    | some g => exact .inr (fun e => hv g e.symm hq)
  refine ⟨far h.1 (fun g e => (hr g e).2.2.1), far h.2.1 (fun g e => (hr g e).2.2.2), h.2.2.1.grown hg (fun g e => (hr g e).2.1), fun i t h1 h2 => ⟨?_, (h.2.2.2.1 i t h1 h2).2⟩, h.2.2.2.2.grown hg hlo (fun g e => (hr g e).1)⟩
  have hx := (h.2.2.2.1 i t h1 h2).1
  refine ⟨(hg.block t hx.lt (fun e => ?_)).trans hx.1, hx.2⟩
  obtain ⟨cs, q⟩ := (hr t e.symm).2.1
  rw [hx.1] at q
  injection q with q
  injection q with _ q
  simp at q
/-- What sweptFor answers. -/
def SwOut (lo : Nat) (w : World) (fv : Value) (bs : List Nat) (L : List Kn) (tv : Value) (ts : List Nat) (rs : List Int) (e : Ending) (w' : World) : Prop :=
  ∃ v, e = .returned v ∧ w'.ownsRow w.heap.size 113 1 v (swN (swU L rs) L.length) (bcellsP (swG (swU L rs) bs L.length)) ∧ SwSt lo w w' fv bs L tv ts rs (swU L rs) (pK (swU L rs) L.length)

set_option maxHeartbeats 2000000 in
set_option maxRecDepth 100000 in
theorem iswept (lo : Nat) (fa : Option Addr) (n c : Nat) (bs : List Nat) (L : List Kn) (ta : Option Addr) (m tc : Nat) (ts : List Nat) (rs : List Int) (w : World) (hn : n ≤ 1048578) (hm : m ≤ 1048576) (hnl : L.length = n) (hbl : bs.length = n) (htl : ts.length = m) (hrl : rs.length = m) (hlo : lo ≤ w.heap.size) (ha : arB L = true) (hR : ∀ r ∈ rs, rootB L r = true) (hasc : bs.Pairwise (· < ·)) (hbl2 : ∀ b ∈ bs, lo ≤ b) (htb : ∀ (k t q : Nat), ts[k]? = some t → rs[k]? = some (q : Int) → bs[q]? = some t)
    (h : SwSt lo w w (.slice fa n c) bs L (.slice ta m tc) ts rs (fun _ => false) (fun i => (i : Int))) :
    Calls Tryz.prog 79 #[.slice fa n c, .slice ta m tc] w (SwOut lo w (.slice fa n c) bs L (.slice ta m tc) ts rs) := by
  have S0 : Hid (SwSt lo w w (.slice fa n c) bs L (.slice ta m tc) ts rs (swU L (rs.take 0)) (fun i => (i : Int))) := h.congr (fun i _ => ⟨by rw [swU_zero], rfl⟩)
  have HNL := hide hnl
  have HBL := hide hbl
  have HTL := hide htl
  have HRL := hide hrl
  have HA := hide ha
  have HR := hide hR
  have HASC := hide hasc
  have HLO := hide hbl2
  have HTB := hide htb
  have FB : Hid (∀ g, (Value.slice fa n c).ownBlock = some g → g < w.heap.size) := fun g e => (own_kind h.1 g e).2.1
  have TB : Hid (∀ g, (Value.slice ta m tc).ownBlock = some g → g < w.heap.size) := fun g e => (own_kind h.2.1 g e).2.1
  clear h hnl hbl htl hrl ha hR hasc hbl2 htb
  go_enter Tryz.func79, Tryz.ntmps79
  go_wp2
  go_loopw [14] (fun iv W => ∃ k : Nat, k ≤ m ∧ iv = .int .i64 k ∧ Hid (SwSt lo w W (.slice fa n c) bs L (.slice ta m tc) ts rs (swU L (rs.take k)) (fun i => (i : Int)))) (fun iv _ => m - (intOf iv).toNat)
  case atStart => exact ⟨0, Nat.zero_le _, rfl, S0⟩
  case round =>
    obtain ⟨k, hk, rfl, HS⟩ := hrel
    clear S0
    by_cases hlt : (k : Int) < m
    · obtain ⟨t, ht⟩ : ∃ t, ts[k]? = some t := ⟨_, List.getElem?_eq_getElem (by have := HTL.out; omega)⟩
      obtain ⟨r, hr⟩ : ∃ r, rs[k]? = some r := ⟨_, List.getElem?_eq_getElem (by have := HRL.out; omega)⟩
      obtain ⟨ta', tc', e, hpr⟩ := PRow.of HS.out.2.1
      injection e with e1 e2 e3
      obtain ⟨g, hg, -, hcell⟩ := hpr.at ht
      rw [← e1] at hg
      subst hg
      have k0 : (0 : Int) ≤ k := by omega
      unfold ptr at hcell
      have HRR := hide hr
      have C := hide (iknotsU t bs ts L rs lo (.slice fa n c) _ (swU L (rs.take k)) k r w wr HA.out hr (HR.out r (List.mem_of_getElem? hr)) ht (fun q hq => HTB.out k t q ht (by rw [hr, hq])) HS.out)
      have hlw : lo ≤ wr.heap.size := Nat.le_trans hlo HS.out.2.2.2.2.size
      unfold ptr at C
      clear hpr e1 e2 e3 ht hr
      go_wp2_with fail
      refine C.out.mono ?_
      rintro e w1 ⟨kv, K, rfl, hkw, hkl, hkm⟩
      obtain ⟨ka, kc, hkv, -⟩ := PRow.of hkw.1
      subst hkv
      have KM := hide hkm
      have S1 : Hid (SwSt lo w w1 (.slice fa n c) bs L (.slice (some ⟨g, 0, none⟩) m tc) ts rs (fun i => swU L (rs.take k) i || inK bs (K.take 0) i) (fun i => (i : Int)) ∧ w1.ownsRow lo 113 1 (.slice ka K.length kc) K.length (bcellsP K)) :=
        ⟨(HS.out.below hkw.2 hlw).congr (fun i _ => ⟨by simp [inK], rfl⟩), own_lower hkw.1 hlw⟩
      obtain ⟨kn, hkn⟩ : ∃ kn, K.length = kn := ⟨_, rfl⟩
      rw [hkn] at S1 hkl ⊢
      have HKN := hide hkn
      clear hkw hkm hkn C HS hcell hlw
      go_wp2
      go_loopw [21] (fun iv W => ∃ j : Nat, j ≤ kn ∧ iv = .int .i64 j ∧ Hid (SwSt lo w W (.slice fa n c) bs L (.slice (some ⟨g, 0, none⟩) m tc) ts rs (fun i => swU L (rs.take k) i || inK bs (K.take j) i) (fun i => (i : Int)) ∧ W.ownsRow lo 113 1 (.slice ka kn kc) kn (bcellsP K))) (fun iv _ => kn - (intOf iv).toNat)
      case atStart => exact ⟨0, Nat.zero_le _, rfl, S1⟩
      case round =>
        obtain ⟨j, hj, rfl, HI⟩ := hrel
        clear S1
        by_cases hlt2 : (j : Int) < kn
        · obtain ⟨d, hd⟩ : ∃ d, K[j]? = some d := ⟨_, List.getElem?_eq_getElem (by have := HKN.out; omega)⟩
          obtain ⟨ka', kc', e, hpr⟩ := PRow.of (bs := K) (by rw [HKN.out]; exact HI.out.2)
          injection e with e1 e2 e3
          obtain ⟨kg, hkg, -, hcell⟩ := hpr.at hd
          rw [← e1] at hkg
          subst hkg
          unfold ptr at hcell
          have j0 : (0 : Int) ≤ j := by omega
          obtain ⟨i, hi, -⟩ := (KM.out d).1 (List.mem_of_getElem? hd)
          have hil : i < L.length := by have := (List.getElem?_eq_some_iff.1 hi).1; have := HBL.out; have := HNL.out; omega
          have hxi : L[i]? = some L[i] := List.getElem?_eq_getElem hil
          have hat := HI.out.1.2.2.1.2 i d _ hi (lksU_some hxi)
          have oc := hat.need
          have of := hat.frozen 10
          obtain ⟨bv, hbv⟩ : ∃ bv, (lkU bs (fun i => swU L (rs.take k) i || inK bs (K.take j) i) (fun i => (i : Int)) i L[i]).need = bv := ⟨_, rfl⟩
          rw [hbv] at oc
          have NX : Hid (SwSt lo w (wr.setCell ⟨d, 10, none⟩ (.bool true)) (.slice fa n c) bs L (.slice (some ⟨g, 0, none⟩) m tc) ts rs (fun i => swU L (rs.take k) i || inK bs (K.take (j + 1)) i) (fun i => (i : Int)) ∧ (wr.setCell ⟨d, 10, none⟩ (.bool true)).ownsRow lo 113 1 (.slice (some ⟨kg, 0, none⟩) kn kc) kn (bcellsP K)) := by
            refine ⟨(HI.out.1.mark hi hxi (HLO.out d (List.mem_of_getElem? hi)) HASC.out).congr (fun q _ => ⟨?_, rfl⟩), row_kept HI.out.2 hat _⟩
            rw [List.take_add_one, hd]
            simp only [Option.toList_some]
            rw [inK_snoc HASC.out hi, Bool.or_assoc]
          clear hpr e1 e2 e3 hd hi hxi hat HI hbv
          go_wp2
          go_roundw
          case rel => exact ⟨j + 1, by omega, by go_num, NX⟩
          case measure => simp [intOf]; omega
        · have NX : Hid (SwSt lo w wr (.slice fa n c) bs L (.slice (some ⟨g, 0, none⟩) m tc) ts rs (swU L (rs.take (k + 1))) (fun i => (i : Int))) := by
            refine HI.out.1.congr (fun i hi => ⟨?_, rfl⟩)
            have ek : K.take j = K := List.take_of_length_le (by have := HKN.out; omega)
            rw [swU_take HRR.out, ek, inK_has HASC.out (by rw [HBL.out, HNL.out]) KM.out hi]
          clear HI
          go_wp2
          go_roundw
          case rel => exact ⟨k + 1, by omega, by go_num, NX⟩
          case measure => simp [intOf]; omega
    · have S2 : Hid (SwSt lo w wr (.slice fa n c) bs L (.slice ta m tc) ts rs (swU L rs) (pK (swU L rs) 0)) := by
        have := HS.out
        rw [List.take_of_length_le (by have := HRL.out; omega)] at this
        exact this.congr (fun i _ => ⟨rfl, (pK_zero _ i).symm⟩)
      have O2 : Hid (wr.ownsRow w.heap.size 113 1 (.slice none 0 0) (swN (swU L rs) 0) (bcellsP (swG (swU L rs) bs 0))) := ⟨rfl, .inl ⟨rfl, rfl⟩⟩
      obtain ⟨i0, hi0, hz0, hz1, hz2⟩ := info_parts infoPt
      have I0 := hide hi0
      have Y0 := hide hz0
      have Y1 := hide hz1
      have Y2 := hide hz2
      clear hi0 hz0 hz1 hz2 HS
      obtain ⟨U, hU⟩ : ∃ U, swU L rs = U := ⟨_, rfl⟩
      have HU := hide hU
      rw [hU] at S2 O2
      clear hU
      go_wp2
      go_loopw [9, 32] (fun lv iv W => ∃ k : Nat, k ≤ n ∧ iv = .int .i64 k ∧ Hid (SwSt lo w W (.slice fa n c) bs L (.slice ta m tc) ts rs U (pK U k)) ∧ Hid (W.ownsRow w.heap.size 113 1 lv (swN U k) (bcellsP (swG U bs k)))) (fun _ iv _ => n - (intOf iv).toNat)
      case atStart => exact ⟨0, Nat.zero_le _, rfl, S2, O2⟩
      case round =>
        obtain ⟨k, hk, rfl, HI, HO⟩ := hrel
        clear S2 O2
        obtain ⟨la, lc, hlv, -⟩ := (Sli.of HO.out).form
        subst hlv
        by_cases hlt2 : (k : Int) < n
        · have hkb : k < bs.length := by have := HBL.out; omega
          obtain ⟨d, hd⟩ : ∃ d, bs[k]? = some d := ⟨_, List.getElem?_eq_getElem hkb⟩
          obtain ⟨x, hx⟩ : ∃ x, L[k]? = some x := ⟨_, List.getElem?_eq_getElem (by have := HNL.out; omega)⟩
          obtain ⟨fa', fc', e, hpr⟩ := PRow.of HI.out.1
          injection e with e1 e2 e3
          obtain ⟨fg, hfg, -, hcell⟩ := hpr.at hd
          rw [← e1] at hfg
          subst hfg
          unfold ptr at hcell
          have k0 : (0 : Int) ≤ k := by omega
          have hat := HI.out.2.2.1.2 k d _ hd (lksU_some hx)
          have oc : wr.cell? ⟨d, 10, none⟩ = some (.bool (U k)) := hat.need
          have op := hat.place
          have of := hat.frozen 0
          have hsl : swN U k ≤ k := swN_le U k
          clear hpr e1 e2 e3
          cases hu : U k with
          | false =>
            rw [hu] at oc
            have NS : Hid (SwSt lo w wr (.slice (some ⟨fg, 0, none⟩) n c) bs L (.slice ta m tc) ts rs U (pK U (k + 1))) := HI.out.congr (fun i _ => ⟨rfl, (pK_no hu i).symm⟩)
            have NO : Hid (wr.ownsRow w.heap.size 113 1 (.slice la (swN U k) lc) (swN U (k + 1)) (bcellsP (swG U bs (k + 1)))) := by
              have := HO.out
              rw [swG_no hu, swN_succ, hu]
              exact this
            clear hd hx hat HI HO hu op of
            go_wp2
            go_roundw
            case rel => exact ⟨k + 1, by omega, by go_num, NS, NO⟩
            case measure => simp [intOf]; omega
          | true =>
            rw [hu] at oc
            have NS : Hid (SwSt lo w (wr.setCell ⟨d, 0, none⟩ (.int .i64 (swN U k))) (.slice (some ⟨fg, 0, none⟩) n c) bs L (.slice ta m tc) ts rs U (pK U (k + 1))) := (HI.out.place hd hx (HLO.out d (List.mem_of_getElem? hd)) HASC.out (swN U k)).congr (fun i _ => ⟨rfl, (pK_yes hu i).symm⟩)
            have NO : Hid ((wr.setCell ⟨d, 0, none⟩ (.int .i64 (swN U k))).ownsRow w.heap.size 113 1 (.slice la (swN U k) lc) (swN U k) (bcellsP (swG U bs k))) := row_kept HO.out hat _
            have NE : Hid (swG U bs (k + 1) = swG U bs k ++ [d] ∧ swN U (k + 1) = swN U k + 1) := ⟨swG_yes hu hd, by rw [swN_succ, hu]; rfl⟩
            obtain ⟨sn, hsn⟩ : ∃ sn, swN U k = sn := ⟨_, rfl⟩
            rw [hsn] at NS NO NE hsl ⊢
            clear hd hx hat HI HO hu hsn
            have HSZ : Hid ((wr.setCell ⟨d, 0, none⟩ (.int .i64 (sn : Int))).heap.size = wr.heap.size) := by show _ = _; simp [World.setCell]
            have BA : Hid (Below (wr.setCell ⟨d, 0, none⟩ (.int .i64 (sn : Int))).heap.size (wr.setCell ⟨d, 0, none⟩ (.int .i64 (sn : Int))) ((wr.setCell ⟨d, 0, none⟩ (.int .i64 (sn : Int))).alloc (.cells #[.pointer (some ⟨d, 0, none⟩)] 113))) := (Below.refl _ _).alloc (Nat.le_refl _) _
            have hw1 : w.heap.size ≤ (wr.setCell ⟨d, 0, none⟩ (.int .i64 (sn : Int))).heap.size := NS.out.2.2.2.2.size
            have OWN := hide (own_below NO.out BA.out)
            have NS2 := hide (NS.out.below BA.out (Nat.le_trans hlo hw1))
            have HZA : Hid (w.heap.size ≤ ((wr.setCell ⟨d, 0, none⟩ (.int .i64 (sn : Int))).alloc (.cells #[.pointer (some ⟨d, 0, none⟩)] 113)).heap.size) := Nat.le_trans hw1 BA.out.size
            have CN : Hid (∀ (j : Nat) (u : Value), [Value.pointer (some ⟨d, 0, none⟩)][j]? = some u → ((wr.setCell ⟨d, 0, none⟩ (.int .i64 (sn : Int))).alloc (.cells #[.pointer (some ⟨d, 0, none⟩)] 113)).cell? ((⟨wr.heap.size, 0, none⟩ : Addr).add j) = some u) := by
              have := one_cell (wr.setCell ⟨d, 0, none⟩ (.int .i64 (sn : Int))) (.pointer (some ⟨d, 0, none⟩)) 113
              rw [HSZ.out] at this
              exact this
            clear NS NO hw1
            go_wp2_with (at_builtin; refine wpList_append_own _ rfl _ _ 107 rfl w.heap.size 113 i0 (.pointer none) 1 8 Tryz.underlying107 I0.out Y0.out Y1.out Y2.out rfl (by decide) _ _ _ rfl OWN.out ⟨wr.heap.size, 0, none⟩ 1 1 [Value.pointer (some ⟨d, 0, none⟩)] rfl rfl CN.out (ptr_one _) ?c1 ?c2 ?c3 ?_)
            case c1 => unfold maxLen; omega
            case c2 => omega
            case c3 => exact HZA.out
            intro u' y ho hg _
            have hza := HZA.out
            have ho2 : y.ownsRow w.heap.size 113 1 u' (swN U (k + 1)) (bcellsP (swG U bs (k + 1))) := by rw [NE.out.1, NE.out.2, ← bcellsP_snoc]; exact ho
            have ST : Hid (SwSt lo w y (.slice (some ⟨fg, 0, none⟩) n c) bs L (.slice ta m tc) ts rs U (pK U (k + 1))) := NS2.out.grown hg (Nat.le_trans hlo hza) (fun q hq => by
              obtain ⟨q1, -, q2⟩ := own_kind OWN.out q hq
              exact ⟨Nat.le_trans hlo q1, q2, fun e => by have := FB.out q e; omega, fun e => by have := TB.out q e; omega⟩)
            have HO2 := hide ho2
            obtain ⟨ua, uc, hu, -⟩ := (Sli.of ho2).form
            subst hu
            have hsn2 := NE.out.2
            clear ho ho2 hg OWN NS2 BA hza
            rw [hsn2] at HO2 ⊢
            go_wp2
            go_roundw
            case rel => exact ⟨k + 1, by omega, by go_num, ST, by rw [hsn2]; exact HO2⟩
            case measure => simp [intOf]; omega
        · have ek : k = n := by omega
          subst ek
          have FIN : Hid (SwOut lo w (.slice fa k c) bs L (.slice ta m tc) ts rs (.returned (.slice la (swN U k) lc)) wr) := by
            refine ⟨_, rfl, ?_, ?_⟩
            · rw [HU.out, HNL.out]; exact HO.out
            · rw [HU.out, HNL.out]; exact HI.out
          clear HI HO
          go_wp2
          go_ret
          exact FIN.out
end Go.Proofs.YtcnaahajaaifjacGreat
