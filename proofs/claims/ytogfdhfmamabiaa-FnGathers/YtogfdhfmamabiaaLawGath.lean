/-
  FnGathers, of what Gather and SinceBase answer.
-/
import Derived.Test.YtogfdhfmamabiaaPk28
import Derived.Test.YtogfdhfmamabiaaSGath
import Derived.Test.YtogfdhfmamabiaaTxMath3
import Derived.Deep.QuietTactic
import Derived.BigQuiet
namespace Go.Proofs.Ytogfdhfmamabiaa
open Go.RowKit
open Words

theorem le_sum_of_mem : ∀ {l : List Nat} {x : Nat}, x ∈ l → x ≤ l.sum
  | y :: l, x, h => by
    rw [List.sum_cons]
    rcases List.mem_cons.1 h with rfl | h
    · omega
    · have := le_sum_of_mem h
      omega

set_option maxHeartbeats 4000000 in
set_option maxRecDepth 100000 in
theorem lawGath_of (ad : Option Addr) (len cap : Nat) (w : World) (hd : CodeIn w ad len w.heap.size) (HG : Hid (GatherC 8)) (HSB : Hid (SinceC 10)) :
    Calls Try.prog 3 #[.slice ad len cap] w fun e w' => e = .returned (.bool true) ∧ Below w.heap.size w w' := by
  have HD := hide hd
  clear hd
  by_cases hbig : (1048576 : Int) < len
  · go_enter Try.func3, Try.ntmps3
    go_wp2_with fail
    refine (big_any ad len cap _).mono ?_
    rintro e w1 ⟨rfl, rfl⟩
    rw [decide_eq_true hbig]
    go_wp2
    go_ret
    exact ⟨rfl, Below.refl _ _⟩
  have hl2 : len ≤ 1048576 := by omega
  have hbd : decide ((1048576 : Int) < len) = false := decide_eq_false hbig
  clear hbig
  go_enter Try.func3, Try.ntmps3
  go_wp2_with fail
  refine (big_any ad len cap _).mono ?_
  rintro e w0 ⟨rfl, hw0⟩
  subst hw0
  rw [hbd]
  clear hbd
  go_wp2_with fail
  refine (drawGather ad len cap w0 hl2 HD.out).mono ?_
  rintro e w1 ⟨zg, zc, zs, rfl, hz95, hz90, ho, hb1⟩
  have ZS : Hid (sumF (fun p => p.text.size) (zs.map Fnd.page) ≤ 1048576) := by
    have := sumF_bound (Q := zs.map Fnd.page) (by
      intro p hp
      obtain ⟨x, hx, rfl⟩ := List.mem_map.1 hp
      exact hz90 x hx)
    rw [List.length_map] at this
    show _ ≤ _
    omega
  have FR := hide ((Sli.of ho).fdrd rfl (by unfold maxLen; omega) (Nat.le_refl _))
  have B1 := hide hb1
  obtain ⟨L, hL⟩ : ∃ L, gatherP (zs.map Fnd.page) = L := ⟨_, rfl⟩
  obtain ⟨n, hn⟩ : ∃ n, L.length = n := ⟨_, rfl⟩
  have hsum := gather_sum (zs.map Fnd.page)
  rw [List.length_map, hL, hn] at hsum
  have hn95 : n ≤ 95 := by omega
  have HREC : Hid (∀ t ∈ L, t.recs.length ≤ 1048576) := by
    intro t ht
    have h1 : t.recs.length ≤ (L.map (fun x => x.recs.length)).sum := le_sum_of_mem (List.mem_map.2 ⟨t, ht, rfl⟩)
    have := ZS.out
    omega
  have ASC : Hid (∀ i s t, L[i]? = some s → L[i + 1]? = some t → s.num < t.num) := by
    intro i s t hs ht
    rw [← hL] at hs ht
    exact gather_next hs ht
  have CG := hide (HG.out (some ⟨zg, 0, none⟩) zs.length zc zs w1 (by omega) ZS.out FR.out)
  have CS : Hid (∀ W, Below w1.heap.size w1 W → Calls Try.prog 9 #[.slice (some ⟨zg, 0, none⟩) zs.length zc] W (TxOut W L)) := by
    intro W hW
    have := sgather (some ⟨zg, 0, none⟩) zs.length zc zs W (by omega) ZS.out (FR.out.below hW)
    rw [hL] at this
    exact this
  rw [hL] at CG
  obtain ⟨nz, hnz⟩ : ∃ nz, zs.length = nz := ⟨_, rfl⟩
  rw [hnz] at CG CS ⊢
  have HN := hide hn
  clear ho hb1 hz90 hz95 hsum hL hn hnz FR ZS
  go_wp2_with fail
  refine CG.out.mono ?_
  rintro e w2 hto
  obtain ⟨ta, tc, rs, rfl, hrl, hrt, hxo, hb2⟩ := hto.rows HN.out
  have X2 := hide hxo
  have RL := hide hrl
  have RT := hide hrt
  have B2 := hide hb2
  clear hto hxo hrl hrt hb2 CG
  go_wp2_with fail
  refine (CS.out w2 B2.out).mono ?_
  rintro e w3 hto
  obtain ⟨qa, qc, rs3, rfl, hrl3, hrt3, hxo3, hb3⟩ := hto.rows HN.out
  have X23 := hide (X2.out.below hb3)
  have X3 := hide hxo3
  have RL3 := hide hrl3
  have RT3 := hide hrt3
  have B3 := hide hb3
  clear hto hxo3 hrl3 hrt3 hb3 CS X2
  have CB := hide (HSB.out ta n tc rs L w3 (by omega) X23.out.cap (by
    intro r hr
    obtain ⟨j, hj⟩ := List.getElem?_of_mem hr
    have h1 : (rs.map xtell)[j]? = some (xtell r) := by rw [List.getElem?_map, hj]; rfl
    rw [RT.out, List.getElem?_map] at h1
    obtain ⟨t, ht, e⟩ := Option.map_eq_some_iff.1 h1
    have h2 := HREC.out t (List.mem_of_getElem? ht)
    have h3 : r.2.2.2 = t.recs.map Rc.tu := by have := congrArg (fun z => z.2.2) e; exact this.symm
    rw [h3, List.length_map]
    exact h2) RT.out (X23.out.txs.rd RL.out (Nat.le_refl _)))
  obtain ⟨m, hm⟩ : ∃ m, (sinceP L).length = m := ⟨_, rfl⟩
  have SA := hide (since_at HN.out hm)
  have HM := hide hm
  have hmn : m ≤ n := SA.out.1
  clear hm
  go_wp2_with fail
  refine CB.out.mono ?_
  rintro e w4 hto
  obtain ⟨sa, sc, rs4, rfl, hrl4, hrt4, hxo4, hb4⟩ := hto.rows HM.out
  have S1 := hide ((X23.out.seen RL.out RT.out).below hb4)
  have S2 := hide ((X3.out.seen RL3.out RT3.out).below hb4)
  have S3 := hide (hxo4.seen hrl4 hrt4)
  have B4 : Hid (Below w0.heap.size w0 w4) := ((B1.out.trans (B2.out.mono B1.out.size)).trans (B3.out.mono (Nat.le_trans B1.out.size B2.out.size))).trans (hb4.mono (Nat.le_trans B1.out.size (Nat.le_trans B2.out.size B3.out.size)))
  clear hto hxo4 hb4 hrl4 hrt4 CB X23 X3 RL RT RL3 RT3 B1 B2 B3 HD
  have hmn2 : (m : Int) ≤ n := by omega
  have nn : ((n : Int) != n) = false := by simp
  have dmn : decide ((n : Int) < m) = false := decide_eq_false (by omega)
  go_wp2
  clear nn dmn
  go_loopw [7] (fun iv W => ∃ i q : Nat, i ≤ n ∧ iv = .int .i64 i ∧ W = w4.drewN q) (fun iv _ => n - (intOf iv).toNat)
  case atStart => exact ⟨0, 0, Nat.zero_le _, rfl, rfl⟩
  case round =>
    obtain ⟨i, q, hi, rfl, rfl⟩ := hrel
    by_cases hlt : (i : Int) < n
    · obtain ⟨g1, e⟩ := S1.out.2.1 (by omega)
      subst e
      obtain ⟨g2, e⟩ := S2.out.2.1 (by omega)
      subst e
      obtain ⟨t, ht⟩ : ∃ t, L[i]? = some t := ⟨_, List.getElem?_eq_getElem (by have := HN.out; omega)⟩
      obtain ⟨a1, c1, lo1, k0, -, k2, hs1⟩ := (S1.out.2.2 g1 rfl).2 i t ht
      obtain ⟨a2, c2, lo2, l0, -, l2, hs2⟩ := (S2.out.2.2 g2 rfl).2 i t ht
      have C : Hid (∀ r, Calls Try.prog 11 #[.slice a1 t.recs.length c1, .slice a2 t.recs.length c2] (w4.drewN (q + r)) fun e w' => e = .returned (.bool true) ∧ ∃ m, w' = w4.drewN (q + m)) := by
        intro r
        have hlen : (t.recs.map Rc.tu).length = t.recs.length := by simp
        have h := sameRcsQ (.slice a1 t.recs.length c1) (.slice a2 t.recs.length c2) (t.recs.map Rc.tu) lo1 w4.heap.size lo2 w4.heap.size (w4.drewN (q + r)) (by rw [hlen]; have := HREC.out t (List.mem_of_getElem? ht); omega) (by rw [hlen]; exact hs1.blw (below_drewN (Below.refl _ _) _)) (by rw [hlen]; exact hs2.blw (below_drewN (Below.refl _ _) _))
        refine h.mono ?_
        rintro e w' ⟨rfl, m, rfl⟩
        exact ⟨rfl, r + m, by rw [World.drewN_drewN, Nat.add_assoc]⟩
      obtain ⟨kk, hkk⟩ : ∃ kk, t.recs.length = kk := ⟨_, rfl⟩
      rw [hkk] at k2 l2 C
      obtain ⟨tn, htn⟩ : ∃ tn, t.num = tn := ⟨_, rfl⟩
      rw [htn] at k0 l0
      have nt : (tn != tn) = false := by simp
      have i0 : (0 : Int) ≤ i := by omega
      by_cases hz : i = 0
      · subst hz
        simp only [Nat.zero_mul, Nat.zero_add] at k0 k2 l0 l2
        clear hkk hs1 hs2
        go_wp2_with fail
        go_quiet ((go_at_call 11; exact C.out _))
        go_wp2
        go_roundw
        case rel => exact ⟨1, _, by omega, by go_num, rfl⟩
        case measure => simp [intOf]; omega
      · obtain ⟨j, hj⟩ : ∃ j, i = j + 1 := ⟨i - 1, by omega⟩
        obtain ⟨s, hsn⟩ : ∃ s, L[j]? = some s := ⟨_, List.getElem?_eq_getElem (by have := HN.out; omega)⟩
        obtain ⟨a3, c3, lo3, p0, -, -, -⟩ := (S1.out.2.2 g1 rfl).2 j s hsn
        have hasc := ASC.out j s t hsn (by rw [← hj]; exact ht)
        obtain ⟨sn, hsn2⟩ : ∃ sn, s.num = sn := ⟨_, rfl⟩
        rw [hsn2] at p0 hasc
        rw [htn] at hasc
        have hpi : 0 < i := by omega
        have dn : decide (tn ≤ sn) = false := decide_eq_false (by omega)
        have j0 : (0 : Int) ≤ j := by omega
        have jn : (j : Int) < n := by omega
        have hwj : IntKind.i64.wrap ((i : Int) - 1) = (j : Int) := by rw [IntKind.wrap_i64]; omega
        have HJ := hide hj
        clear hkk hs1 hs2 hasc hj hsn ht hz
        go_wp2_with fail
        go_quiet ((go_at_call 11; exact C.out _))
        go_wp2
        go_roundw
        case rel => exact ⟨i + 1, _, by omega, by go_num, rfl⟩
        case measure => simp [intOf]; omega
    · have hB5 : Hid (Below w0.heap.size w0 (w4.drewN q)) := below_drewN B4.out q
      have S51 := hide (S1.out.below (below_drewN (Below.refl _ _) q))
      have S53 := hide (S3.out.below (below_drewN (Below.refl _ _) q))
      clear S1 S2 S3 B4
      go_wp2
      clear hlt hi
      generalize w4.drewN q = w5 at hB5 S51 S53 ⊢
      go_loopw [8] (fun iv W => ∃ i : Nat, i ≤ m ∧ iv = .int .i64 i ∧ Hid (Below w5.heap.size w5 W)) (fun iv _ => m - (intOf iv).toNat)
      case atStart => exact ⟨0, Nat.zero_le _, rfl, Below.refl _ _⟩
      case round =>
        obtain ⟨i, hi, rfl, BW⟩ := hrel
        by_cases hlt : (i : Int) < m
        · obtain ⟨g1, e⟩ := S51.out.2.1 (by omega)
          subst e
          obtain ⟨g3, e⟩ := S53.out.2.1 (by omega)
          subst e
          obtain ⟨p, hp⟩ : ∃ p, n - m + i = p := ⟨_, rfl⟩
          have hpn : (p : Int) < n := by omega
          obtain ⟨t, ht⟩ : ∃ t, L[p]? = some t := ⟨_, List.getElem?_eq_getElem (by have := HN.out; omega)⟩
          have ht3 : (sinceP L)[i]? = some t := by rw [SA.out.2.1, hp]; exact ht
          have hidx : (n : Int) - m + i = p := by omega
          have p0 : (0 : Int) ≤ p := by omega
          have i0 : (0 : Int) ≤ i := by omega
          have HT3 := hide ht3
          have HTR := hide (HREC.out t (List.mem_of_getElem? ht))
          obtain ⟨hg1, q1⟩ := (S51.out.below BW.out).2.2 g1 rfl
          obtain ⟨hg3, q3⟩ := (S53.out.below BW.out).2.2 g3 rfl
          obtain ⟨a1, c1, lo1, k0, k1, k2, hs1⟩ := q1 p t ht
          obtain ⟨a3, c3, lo3, l0, l1, l2, hs3⟩ := q3 i t ht3
          obtain ⟨kk, hkk⟩ : ∃ kk, t.recs.length = kk := ⟨_, rfl⟩
          obtain ⟨tn, htn⟩ : ∃ tn, t.num = tn := ⟨_, rfl⟩
          obtain ⟨ts, hts⟩ : ∃ ts, t.seq = ts := ⟨_, rfl⟩
          rw [hkk] at k2 l2 hs1 hs3 HTR
          rw [htn] at k0 l0
          rw [hts] at k1 l1
          have nt : (tn != tn) = false := by simp
          have BA : Hid (Below wr.heap.size wr (wr.alloc (.cells #[.int .i64 tn, .int .i64 ts, .slice a1 kk c1] 31))) := (Below.refl _ _).alloc (Nat.le_refl _) _
          have X0 : Hid ((wr.alloc (.cells #[.int .i64 tn, .int .i64 ts, .slice a1 kk c1] 31)).cell? ⟨wr.heap.size, 0, none⟩ = some (.int .i64 tn) ∧ (wr.alloc (.cells #[.int .i64 tn, .int .i64 ts, .slice a1 kk c1] 31)).cell? ⟨wr.heap.size, 2, none⟩ = some (.slice a1 kk c1)) := ⟨(cell_of_row _ _ 0 _ _ _ (heap_alloc_new wr _)).trans rfl, (cell_of_row _ _ 2 _ _ _ (heap_alloc_new wr _)).trans rfl⟩
          have WA : Hid (Below w5.heap.size w5 (wr.alloc (.cells #[.int .i64 tn, .int .i64 ts, .slice a1 kk c1] 31))) := BW.out.trans (BA.out.mono BW.out.size)
          have L0 := hide ((BA.out.cell (show g3 < wr.heap.size from hg3)).trans l0)
          have L2 := hide ((BA.out.cell (show g3 < wr.heap.size from hg3)).trans l2)
          have SL1 := hide (hs1.blw BA.out)
          have SL3 := hide (hs3.blw BA.out)
          have HKK := hide hkk
          have HP := hide hp
          clear ht ht3 q1 q3 l0 l1 l2 hs1 hs3 hkk htn hts hp
          go_wp2
          obtain ⟨z, hz⟩ : ∃ z, wr.heap.size = z := ⟨_, rfl⟩
          rw [hz] at X0 ⊢
          generalize wr.alloc (.cells #[.int .i64 tn, .int .i64 ts, .slice a1 kk c1] 31) = wa at X0 WA L0 L2 SL1 SL3 BA ⊢
          have x0 := X0.out.1
          have x2 := X0.out.2
          have l0 := L0.out
          have l2 := L2.out
          clear k0 k1 k2 X0 L0 L2 BA hz hidx hpn p0
          have C : Hid (∀ r, Calls Try.prog 11 #[.slice a3 kk c3, .slice a1 kk c1] (wa.drewN r) fun e w' => e = .returned (.bool true) ∧ ∃ m, w' = wa.drewN m) := by
            intro r
            have hlen : (t.recs.map Rc.tu).length = kk := by rw [List.length_map]; exact HKK.out
            have h := sameRcsQ (.slice a3 kk c3) (.slice a1 kk c1) (t.recs.map Rc.tu) lo3 wr.heap.size lo1 wr.heap.size (wa.drewN r) (by rw [hlen]; have := HTR.out; omega) (by rw [hlen]; exact SL3.out.blw (below_drewN (Below.refl _ _) _)) (by rw [hlen]; exact SL1.out.blw (below_drewN (Below.refl _ _) _))
            refine h.mono ?_
            rintro e w' ⟨rfl, m, rfl⟩
            exact ⟨rfl, r + m, by rw [World.drewN_drewN]⟩
          by_cases hz0 : i = 0
          · subst hz0
            simp only [Nat.zero_mul, Nat.zero_add] at l0 l2
            go_quiet ((go_at_call 11; exact C.out _))
            go_wp2
            go_roundw
            case rel => exact ⟨1, by omega, by go_num, below_drewN WA.out _⟩
            case measure => simp [intOf]; omega
          · have hpi : 0 < i := by omega
            have HBF := hide (SA.out.2.2.1 i t hpi HT3.out)
            by_cases hk0 : kk = 0
            · subst hk0
              go_quiet ((go_at_call 11; exact C.out _))
              go_wp2
              go_roundw
              case rel => exact ⟨i + 1, by omega, by go_num, below_drewN WA.out _⟩
              case measure => simp [intOf]; omega
            · obtain ⟨gr, x, e, -, kc, hx⟩ := rec_kind SL1.out HKK.out (by omega)
              subst e
              have hx1 : (x == 1) = false := hx.trans HBF.out
              have hkp : 0 < kk := by omega
              have hkp2 : (0 : Int) < kk := by omega
              clear hx hk0 hz0
              go_quiet ((go_at_call 11; exact C.out _))
              go_wp2
              go_roundw
              case rel => exact ⟨i + 1, by omega, by go_num, below_drewN WA.out _⟩
              case measure => simp [intOf]; omega
        · have HF : Hid (Below w0.heap.size w0 wr) := hB5.out.trans (BW.out.mono hB5.out.size)
          by_cases hmn3 : m = n
          · subst hmn3
            go_wp2
            go_ret
            exact ⟨rfl, HF.out⟩
          · obtain ⟨h0, t, ht, hbt⟩ := SA.out.2.2.2 hmn3
            obtain ⟨g3, e⟩ := S53.out.2.1 h0
            subst e
            obtain ⟨a3, c3, lo3, -, -, l2, hs3⟩ := ((S53.out.below BW.out).2.2 g3 rfl).2 0 t ht
            obtain ⟨kk, hkk⟩ : ∃ kk, t.recs.length = kk := ⟨_, rfl⟩
            rw [hkk] at l2 hs3
            simp only [Nat.zero_mul, Nat.zero_add] at l2
            have hkp : 0 < kk := by
              rcases Nat.eq_zero_or_pos kk with h | h
              · rw [rec_none (hkk.trans h)] at hbt; cases hbt
              · exact h
            obtain ⟨gr, x, e, -, kc, hx⟩ := rec_kind hs3 hkk hkp
            subst e
            have hx1 : x = 1 := by simpa using hx.trans hbt
            subst hx1
            have hkp2 : (0 : Int) < kk := by omega
            have hm2 : (0 : Int) < m := by omega
            have hmn4 : ((m : Int) == n) = false := by
              rw [beq_eq_false_iff_ne]
              omega
            clear hx hs3 hkk hbt ht
            go_wp2
            go_ret
            exact ⟨rfl, HF.out⟩
end Go.Proofs.Ytogfdhfmamabiaa
