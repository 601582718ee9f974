/-
  impl.Gather.
-/
import Derived.Test.YtogfdhfmamabiaaIPartsOf
import Derived.Test.YtogfdhfmamabiaaITake
import Derived.Test.YtogfdhfmamabiaaPk47
import Derived.Test.YtogfdhfmamabiaaPk25
namespace Go.Proofs.Ytogfdhfmamabiaa
open Go.RowKit
open Words

theorem kept_grown {W W' : World} {B : Nat} (h : Kept2 W W' (· ≠ B)) : W.grownBy W' (some B) :=
  ⟨h.1, h.2.1, h.2.2.1, h.2.2.2.1, fun i hi hn => h.2.2.2.2 i hi (fun e => hn (by rw [e]))⟩
theorem XOwn.map {W W' : World} {C B : Nat} {v : Value} {rs : List Xw} {l : List (Int × Value)} (h : XOwn W C v rs) (hm : MapI W B l) (hk : W.grownBy W' (some B)) : XOwn W' C v rs := by
  have far : ∀ {g : Nat} {cs : Array Value} {t : TypeId}, W.heap[g]? = some (.cells cs t (0, 0)) → some B ≠ some g := fun q e => by
    have := Option.some.inj e
    subst this
    exact hm.not_cells q
  refine ⟨own_kept h.1 (fun i hi hb => hk.block i hi (fun e => ?_)), fun r hr => ⟨((h.2.1 r hr).1.grown hk (fun g e => ?_)).up hk.size, (h.2.1 r hr).2⟩, h.2.2⟩
  · obtain ⟨-, -, cs, q⟩ := own_kind h.1 i hb
    exact far q e.symm
  · obtain ⟨-, -, cs, q⟩ := (h.2.1 r hr).1.lt g e
    exact far q
/-- One more, whose records lie in a block that came since W0. -/
theorem XOwn.snoc2 {W0 W y : World} {B : Nat} {v u' : Value} {rs : List Xw} {r : Xw} (h0 : XOwn W0 B v rs) (h : XOwn W B v rs) (hB : B ≤ W0.heap.size) (hr : Sli 34 W0.heap.size W.heap.size r.2.2.1 r.2.2.2.length (rccells r.2.2.2) W) (hm : r.2.2.2.length ≤ maxLen)
    (hg : W.grownBy y v.ownBlock) (ho : y.ownsRow B 31 3 u' (rs ++ [r]).length (xcells (rs ++ [r]))) : XOwn y B u' (rs ++ [r]) := by
  have hk := own_kind h.1
  have far : ∀ (t : Value) (g : Nat), v.ownBlock = some g → ∀ {lo hi n : Nat} {xs : List Value}, Sli 34 lo hi t n xs W → t.ownBlock ≠ some g := by
    intro t g hg lo hi n xs hs e
    obtain ⟨-, -, cs, q⟩ := hk g hg
    obtain ⟨-, -, cs', q'⟩ := hs.lt g e
    exact rec_ne_tx q' q
  refine ⟨ho, ?_, ?_⟩
  · intro x hx
    rcases List.mem_append.1 hx with hx | hx
    · exact ⟨((h.2.1 x hx).1.grown hg (fun g e e2 => far _ g e2 (h.2.1 x hx).1 e)).up hg.size, (h.2.1 x hx).2⟩
    · simp only [List.mem_singleton] at hx
      subst hx
      exact ⟨((hr.grown hg (fun g e e2 => far _ g e2 hr e)).dn hB).up hg.size, hm⟩
  · refine List.pairwise_append.2 ⟨h.2.2, List.pairwise_singleton _ _, ?_⟩
    intro a ha b hb2 g e1 e2
    simp only [List.mem_singleton] at hb2
    subst hb2
    have q1 := ((h0.2.1 a ha).1.lt g e1).2.1
    have q2 := (hr.lt g e2).1
    omega
/-- Sorted by number they are what is gathered. -/
theorem took_sorted {ps : List Pg} {rs rs' : List Xw} (h : rs.map xtell = (tookP ps (ps.map (·.tx))).map TxR.tu) (hp : rs'.Perm rs) (hs : rs'.Pairwise (fun a b => ¬ b.1 < a.1)) : rs'.map xtell = (gatherP ps).map TxR.tu := by
  have hpm : (rs'.map xtell).Perm ((tookP ps (ps.map (·.tx))).map TxR.tu) := by rw [← h]; exact hp.map _
  have hnd : ((tookP ps (ps.map (·.tx))).map TxR.tu).Pairwise (fun a b => a.1 ≠ b.1) := List.pairwise_map.2 (took_nd ps _)
  have hnd2 : (rs'.map xtell).Pairwise (fun a b => a.1 ≠ b.1) := (hpm.pairwise_iff (fun {a b} h e => h e.symm)).2 hnd
  have hs2 : (rs'.map xtell).Pairwise (fun a b => ¬ b.1 < a.1) := List.pairwise_map.2 hs
  refine asc_ext_by (fun z : Int × Int × List (Int × Int × Int × Int) => z.1) ?_ ?_ ?_
  · exact hnd2.imp₂ (fun a b h1 h2 => by omega) hs2
  · have := gatherP_asc ps
    rw [List.pairwise_map] at this ⊢
    exact this
  · intro x
    rw [hpm.mem_iff, List.mem_map, List.mem_map]
    constructor
    · rintro ⟨t, ht, e⟩; exact ⟨t, (took_mem ps t).1 ht, e⟩
    · rintro ⟨t, ht, e⟩; exact ⟨t, (took_mem ps t).2 ht, e⟩
theorem xt_new3 (W : World) (a b : Int) (v : Value) (g : Nat) (hg : W.heap.size = g) : ∀ (j : Nat) (u : Value), [Value.int .i64 a, Value.int .i64 b, v][j]? = some u → (W.alloc (.cells #[.int .i64 a, .int .i64 b, v] 31)).cell? ((⟨g, 0, none⟩ : Addr).add j) = some u := by
  intro j u hj
  subst hg
  match j, hj with
  | 0, hj | 1, hj | 2, hj =>
    simp at hj
    subst hj
    simp [Addr.add]
theorem xt_one3 (a b : Int) (va : Option Addr) (n c : Nat) : ∀ u ∈ [Value.int .i64 a, Value.int .i64 b, Value.slice va n c], u.oneCell' = true := by
  intro u hu
  simp at hu
  rcases hu with h | h | h <;> subst h <;> rfl

set_option maxHeartbeats 2000000 in
set_option maxRecDepth 100000 in
theorem igather : GatherC 8 := by
  intro ad len cap M w hl hs h
  have HR := hide h
  have HN := hide (show M.length = len from h.1)
  have HS := hide hs
  have CP := hide (ipartsOf ad len cap M w hl h)
  clear h hs
  obtain ⟨ps, hps⟩ : ∃ ps, M.map Fnd.page = ps := ⟨_, rfl⟩
  rw [hps] at CP HS
  rw [hps]
  have HP := hide hps
  have HPL : Hid (ps.length = len) := by show _ = _; rw [← hps, List.length_map]; exact HN.out
  clear hps
  go_enter Try.func8, Try.ntmps8
  go_wp2_with fail
  refine CP.out.mono ?_
  rintro e w1 ⟨G0, rfl, p0, o0, b0⟩
  have P0 := hide p0
  have T0 : Hid (OutT ps ((ps.map (·.tx)).take 0) G0) := o0.outT
  have B0 := hide b0
  clear p0 o0 b0 CP
  go_wp2
  go_loopw [4, 13] (fun ov iv wr => ∃ (k : Nat) (G : Gm) (rs : List Xw), k ≤ len ∧ iv = .int .i64 k ∧ rs.length ≤ k ∧ Hid (PM w.heap.size wr w.heap.size G) ∧ Hid (OutT ps ((ps.map (·.tx)).take k) G) ∧ Hid (XOwn wr w.heap.size ov rs) ∧ Hid (rs.map xtell = (tookP ps ((ps.map (·.tx)).take k)).map TxR.tu) ∧ Hid (Below w.heap.size w wr)) (fun _ iv _ => len - (intOf iv).toNat)
  case atStart => exact ⟨0, G0, [], Nat.zero_le _, rfl, Nat.le_refl _, P0, T0, XOwn.nil _ _, rfl, B0⟩
  case round =>
    obtain ⟨k, G, rs, hk, rfl, hrk, P, O, X, E, BW⟩ := hrel
    clear P0 T0 B0
    by_cases hlt : (k : Int) < len
    · have hkl : k < M.length := by have := HN.out; omega
      obtain ⟨x, hx⟩ : ∃ x, M[k]? = some x := ⟨_, List.getElem?_eq_getElem hkl⟩
      have hpm : ps[k]? = some x.page := by rw [← HP.out, List.getElem?_map, hx]; rfl
      obtain ⟨rb, ro, rfl, c0, c1, c2, c3, c4, c5, c6, c7⟩ := (HR.out.below BW.out).at8 hx
      have HX : Hid ((ps.map (·.tx)).take k ++ [x.page.tx] = (ps.map (·.tx)).take (k + 1)) := by
        show _ = _
        rw [List.take_add_one, List.getElem?_map, hpm]
        rfl
      clear hx hpm hkl
      obtain ⟨xb, xl, pg⟩ := x
      simp only at c0 c1 c2 c3 c4 c5 c6 c7 HX
      have k0 : (0 : Int) ≤ k := by omega
      have bA := (Below.refl wr.heap.size wr).alloc (Nat.le_refl _) (.cells #[.int .i64 xb, .int .i64 xl, .int .i64 pg.kind, .int .i64 pg.seq, .int .i64 pg.tx, .int .i64 pg.part, .int .i64 pg.count, .string pg.text] 42)
      have P1 := hide (P.out.below bA)
      have X1 := hide (X.out.below bA)
      have B1 := hide (BW.out.trans (bA.mono BW.out.size))
      have CT := hide (itake w.heap.size w.heap.size G ps ((ps.map (·.tx)).take k) pg.tx _ P1.out O.out HS.out (by have := HPL.out; omega))
      clear bA P BW O X
      go_wp2_with fail
      generalize wr.alloc (.cells #[.int .i64 xb, .int .i64 xl, .int .i64 pg.kind, .int .i64 pg.seq, .int .i64 pg.tx, .int .i64 pg.part, .int .i64 pg.count, .string pg.text] 42) = wb at P1 X1 B1 CT ⊢
      refine CT.out.mono ?_
      rintro e w2 ⟨G', p2, o2, k2, hans⟩
      rw [HX.out] at o2 hans
      have P2 := hide p2
      have O2 := hide o2
      have X2 := hide (X1.out.map P1.out.2.1 (kept_grown k2))
      have B2 : Hid (Below w.heap.size w w2) := B1.out.trans (k2.down B1.out.size (fun i hi => by omega))
      clear p2 o2 k2 CT c0 c1 c2 c3 c4 c5 c6 c7
      rcases hans with ⟨ht, rfl⟩ | ⟨t, a, n, c, ht, hn, hnm, rfl, hS⟩
      · have E2 : Hid (rs.map xtell = (tookP ps ((ps.map (·.tx)).take (k + 1))).map TxR.tu) := by show _ = _; rw [ht]; exact E.out
        have bB := (Below.refl w2.heap.size w2).alloc (Nat.le_refl _) (.cells #[.int .i64 0, .int .i64 0, .slice none 0 0] 31)
        have P3 := hide (P2.out.below bB)
        have X3 := hide (X2.out.below bB)
        have B3 := hide (B2.out.trans (bB.mono B2.out.size))
        clear ht bB E P1 X1 B1 P2 X2 B2
        go_wp2
        go_roundw
        case rel => exact ⟨k + 1, G', rs, by omega, by go_num, by omega, P3, O2, X3, E2, B3⟩
        case measure => simp [intOf]; omega
      · have E2 : Hid (rs.map xtell ++ [t.tu] = (tookP ps ((ps.map (·.tx)).take (k + 1))).map TxR.tu) := by
          show _ = _
          rw [ht, List.map_append, E.out]
          rfl
        obtain ⟨tn, tq, tr⟩ := t
        simp only [TxR.tu] at E2 hn hS
        -- the local transaction, and the row of one
        have bB := (Below.refl w2.heap.size w2).alloc (Nat.le_refl _) (.cells #[.int .i64 tn, .int .i64 tq, .slice a n c] 31)
        have P3 := hide (P2.out.below bB)
        have X3 := hide (X2.out.below bB)
        have B3 := hide (B2.out.trans (bB.mono B2.out.size))
        have S3 := hide ((hS.blw bB).up bB.size)
        have HZ3 := hide bB.size
        have L3 : Hid ((w2.alloc (.cells #[.int .i64 tn, .int .i64 tq, .slice a n c] 31)).heap[w2.heap.size]? = some (.cells #[.int .i64 tn, .int .i64 tq, .slice a n c] 31 (0, 0))) := heap_alloc_new w2 _
        have HNT := hide hn
        have HNM := hide hnm
        clear ht bB E P2 X2 B2 hS hn hnm P1
        have bC := (Below.refl (w2.alloc (.cells #[.int .i64 tn, .int .i64 tq, .slice a n c] 31)).heap.size (w2.alloc (.cells #[.int .i64 tn, .int .i64 tq, .slice a n c] 31))).alloc (Nat.le_refl _) (.cells #[.int .i64 tn, .int .i64 tq, .slice a n c] 31)
        have P4 := hide (P3.out.below bC)
        have X4 := hide (X3.out.below bC)
        have B4 := hide (B3.out.trans (bC.mono B3.out.size))
        have S4 := hide ((S3.out.blw bC).up bC.size)
        have OW := hide X4.out.1
        have HSZ := hide B4.out.size
        have HN3 := hide (xt_new3 (w2.alloc (.cells #[.int .i64 tn, .int .i64 tq, .slice a n c] 31)) tn tq (.slice a n c) (w2.heap.size + 1) (by simp))
        have HO3 := hide (xt_one3 tn tq a n c)
        have HWB := hide B1.out.size
        obtain ⟨i0, hi0, hz0, hz1, hz2⟩ := info_parts infoTx
        have I0 := hide hi0
        have Z0 := hide hz0
        have Z1 := hide hz1
        have Z2 := hide hz2
        clear hi0 hz0 hz1 hz2 bC P3 X3 B3 S3
        go_wp2_with (at_builtin; refine wpList_append_own _ rfl _ _ 26 rfl w.heap.size 31 i0 (.agg #[.int .i64 0, .int .i64 0, .slice none 0 0]) 3 40 Try.underlying26 I0.out Z0.out Z1.out Z2.out rfl (by decide) _ _ _ rfl OW.out ⟨w2.heap.size + 1, 0, none⟩ 1 1 [.int .i64 tn, .int .i64 tq, .slice a n c] rfl rfl HN3.out HO3.out ?c1 ?c2 HSZ.out ?_)
        case c1 => unfold maxLen; omega
        case c2 => omega
        intro u' z ho hg _
        have ho2 : z.ownsRow w.heap.size 31 3 u' (rs ++ [((tn, tq, .slice a n c, tr.map Rc.tu) : Xw)]).length (xcells (rs ++ [((tn, tq, .slice a n c, tr.map Rc.tu) : Xw)])) := by
          rw [← xcells_snoc, List.length_append]
          exact ho
        have XF := hide (XOwn.snoc2 (r := ((tn, tq, .slice a n c, tr.map Rc.tu) : Xw)) X1.out X4.out HWB.out (by
          show Sli _ _ _ _ (tr.map Rc.tu).length _ _
          rw [List.length_map, ← HNT.out]
          exact S4.out) (by show (tr.map Rc.tu).length ≤ maxLen; rw [List.length_map, ← HNT.out]; exact HNM.out) hg ho2)
        have BF : Hid (Below w.heap.size w z) := B4.out.grown hg HSZ.out (fun k hk => (X4.out.1.lt k hk).1)
        have PF : Hid (PM w.heap.size z w.heap.size G') := P4.out.grown hg (fun g e => by
          obtain ⟨-, -, cs, q⟩ := own_kind X4.out.1 g e
          exact ⟨_, _, _, q⟩)
        have EF : Hid ((rs ++ [((tn, tq, .slice a n c, tr.map Rc.tu) : Xw)]).map xtell = (tookP ps ((ps.map (·.tx)).take (k + 1))).map TxR.tu) := by
          show _ = _
          rw [← E2.out, List.map_append]
          rfl
        clear ho hg ho2 X1 X4 S4 OW HSZ HN3 HO3 I0 Z0 Z1 Z2 P4 B4 B1 E2 L3 HZ3 HWB
        have hl2 : (rs ++ [((tn, tq, .slice a n c, tr.map Rc.tu) : Xw)]).length ≤ k + 1 := by simp; omega
        generalize rs ++ [((tn, tq, .slice a n c, tr.map Rc.tu) : Xw)] = rs2 at XF EF hl2
        go_wp2
        go_roundw
        case rel => exact ⟨k + 1, G', rs2, by omega, by go_num, hl2, PF, O2, XF, EF, BF⟩
        case measure => simp [intOf]; omega
    · have hkn : (ps.map (·.tx)).take k = ps.map (·.tx) := List.take_of_length_le (by have := HPL.out; simp; omega)
      rw [hkn] at E
      have CS := hide (isort w.heap.size _ rs wr X.out (by omega))
      clear hkn O P
      go_wp2_with fail
      refine CS.out.mono ?_
      rintro e w2 ⟨rfl, rs', hp, hs2, x2, g2⟩
      have X2 := hide x2
      have E2 := hide (took_sorted E.out hp (hs2.imp (fun h => by omega)))
      have B2 : Hid (Below w.heap.size w w2) := BW.out.grown g2 BW.out.size (fun k hk => (X.out.1.lt k hk).1)
      clear hp hs2 x2 g2 CS X E BW
      go_wp2
      go_ret
      exact ⟨_, rs', rfl, X2.out, E2.out, B2.out⟩
end Go.Proofs.Ytogfdhfmamabiaa
