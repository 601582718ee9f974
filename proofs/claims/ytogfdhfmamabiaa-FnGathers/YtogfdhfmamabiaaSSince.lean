/-
  spec.SinceBase.
-/
import Derived.Test.YtogfdhfmamabiaaRcApp
namespace Go.Proofs.Ytogfdhfmamabiaa
open Go.RowKit
open Words

theorem tell_getS {rs : List Xw} {L : List TxR} (h : rs.map xtell = L.map TxR.tu) {k : Nat} {r : Xw} (hr : rs[k]? = some r) : ∃ x, L[k]? = some x ∧ xtell r = x.tu := by
  have e := congrArg (fun l => l[k]?) h
  simp only [List.getElem?_map, hr] at e
  cases hx : L[k]? with
  | none => rw [hx] at e; simp at e
  | some x => rw [hx] at e; simp at e; exact ⟨x, rfl, e⟩
theorem tell_lenX {rs : List Xw} {L : List TxR} (h : rs.map xtell = L.map TxR.tu) : rs.length = L.length := by
  have := congrArg List.length h
  simpa using this
theorem base_tell {r : Xw} {x : TxR} (h : xtell r = x.tu) : x.base = match r.2.2.2 with | [] => false | t :: _ => t.1 == 1 := by
  have e : r.2.2.2 = x.recs.map Rc.tu := congrArg (fun z => z.2.2) h
  unfold TxR.base
  rw [e]
  cases x.recs <;> rfl
theorem grown_tx {w y : World} {sc g : Nat} {cs : Array Value} (h : w.heap[sc]? = some (.cells cs 31 (0, 0))) (hg : w.grownBy y (some g)) (hn : sc ≠ g) : y.heap[sc]? = some (.cells cs 31 (0, 0)) :=
  (hg.block sc (Array.getElem?_eq_some_iff.1 h).1 (fun e => hn (Option.some.inj e))).trans h

theorem xt_new (W : World) (a b : Int) (v : Value) (g : Nat) (hg : W.heap.size = g) : ∀ (j : Nat) (u : Value), [Value.int .i64 a, Value.int .i64 b, v][j]? = some u → (W.alloc (.cells #[.int .i64 a, .int .i64 b, v] 31)).cell? ((⟨g, 0, none⟩ : Addr).add j) = some u := by
  intro j u hj
  subst hg
  match j, hj with
  | 0, hj | 1, hj | 2, hj =>
    simp at hj
    subst hj
    simp [Addr.add]
theorem xt_one (a b : Int) (va : Option Addr) (n c : Nat) : ∀ u ∈ [Value.int .i64 a, Value.int .i64 b, Value.slice va n c], u.oneCell' = true := by
  intro u hu
  simp at hu
  rcases hu with h | h | h <;> subst h <;> rfl

set_option maxHeartbeats 2000000 in
set_option maxRecDepth 100000 in
theorem ssince (ad : Option Addr) (len cap : Nat) (rs : List Xw) (L : List TxR) (w : World) (hl : len ≤ 1048576) (hll : ∀ r ∈ rs, r.2.2.2.length ≤ 1048576) (hL : rs.map xtell = L.map TxR.tu) (h : TxRd w ad len rs) :
    Calls Try.prog 16 #[.slice ad len cap] w (TxOut w (sinceP L)) := by
  have HR := hide h
  have HT := hide hL
  have HLL := hide hll
  have HN := hide (show rs.length = len from h.1)
  clear h hL hll
  go_enter Try.func16, Try.ntmps16
  go_wp2
  go_loopw [3, 4] (fun av iv wr => ∃ (k b : Nat), k ≤ len ∧ iv = .int .i64 k ∧ av = .int .i64 b ∧ b ≤ k ∧ Hid (b = baseAt L k) ∧ wr = w) (fun _ iv _ => len - (intOf iv).toNat)
  case atStart => exact ⟨0, 0, Nat.zero_le _, rfl, rfl, Nat.le_refl _, rfl, rfl⟩
  case round =>
    obtain ⟨k, b, hk, rfl, rfl, hbk, HB, hwr⟩ := hrel
    have hwr2 := hwr.symm
    subst hwr2
    clear hwr
    by_cases hlt : (k : Int) < len
    · have hkl : k < rs.length := by have := HN.out; omega
      obtain ⟨r, hx⟩ : ∃ r, rs[k]? = some r := ⟨_, List.getElem?_eq_getElem hkl⟩
      obtain ⟨x, hxL, hxt⟩ := tell_getS HT.out hx
      obtain ⟨rb, ro, rfl, -, -, -, c2⟩ := HR.out.at hx
      obtain ⟨ra, rc, hsv, -, hrow⟩ := HR.out.2.2.1 r (List.mem_of_getElem? hx)
      rw [hsv] at c2
      have hlr := HLL.out r (List.mem_of_getElem? hx)
      have hbase := base_tell hxt
      have hstep : baseAt L (k + 1) = if x.base then k else baseAt L k := by simp only [baseAt, hxL]
      have k0 : (0 : Int) ≤ k := by omega
      cases hls : r.2.2.2 with
      | nil =>
        rw [hls] at hbase c2
        have HB' : Hid (b = baseAt L (k + 1)) := by show _ = _; rw [hstep, hbase]; exact HB.out
        clear hx hxL hxt hsv hrow hbase hstep hlr hls hkl HB
        simp only [List.length_nil] at c2
        go_wp2
        go_roundw
        case rel => exact ⟨k + 1, b, by omega, by go_num, rfl, by omega, HB', by first | trivial | rfl⟩
        case measure => simp [intOf]; omega
      | cons t ts =>
        rw [hls] at hbase c2 hrow hlr
        obtain ⟨b2, o2, rfl, -, d0, -, -, -⟩ := hrow.at (k := 0) (t := t) rfl
        simp only [Nat.zero_mul, Nat.add_zero] at d0
        simp only at hbase
        have hpos : (0 : Int) < (((t :: ts).length : Nat) : Int) := by simp only [List.length_cons]; omega
        generalize (t :: ts).length = n2 at c2 hpos hlr
        obtain ⟨t1, ht1⟩ : ∃ t1, t.1 = t1 := ⟨_, rfl⟩
        rw [ht1] at d0 hbase
        cases ht : (t1 == 1) with
        | true =>
          rw [ht] at hbase
          have HB' : Hid (k = baseAt L (k + 1)) := by show _ = _; rw [hstep, hbase]; rfl
          clear hx hxL hxt hsv hrow hbase hstep hls hkl HB ht1
          go_wp2
          go_roundw
          case rel => exact ⟨k + 1, k, by omega, by go_num, rfl, by omega, HB', by first | trivial | rfl⟩
          case measure => simp [intOf]; omega
        | false =>
          rw [ht] at hbase
          have HB' : Hid (b = baseAt L (k + 1)) := by show _ = _; rw [hstep, hbase]; exact HB.out
          clear hx hxL hxt hsv hrow hbase hstep hls hkl HB ht1
          go_wp2
          go_roundw
          case rel => exact ⟨k + 1, b, by omega, by go_num, rfl, by omega, HB', by first | trivial | rfl⟩
          case measure => simp [intOf]; omega
    · have hkn : k = L.length := by have := HN.out; have := tell_lenX HT.out; omega
      have HB2 : Hid (b = baseAt L L.length) := by show _ = _; rw [HB.out, hkn]
      have X0 := hide (XOwn.empty w w.heap.size (Nat.le_refl _))
      have B0 := hide ((Below.refl w.heap.size w).alloc (Nat.le_refl _) (.cells #[] 31))
      clear HB
      go_wp2
      generalize w.alloc (.cells #[] 31) = wa at X0 B0 ⊢
      go_loopw [5, 6] (fun ov iv W => ∃ (j : Nat) (ss : List Xw), b ≤ j ∧ j ≤ len ∧ iv = .int .i64 j ∧ ss.length ≤ j ∧ Hid (XOwn W w.heap.size ov ss) ∧ Hid (Below w.heap.size w W) ∧ Hid (ss.map xtell = ((rs.map xtell).take j).drop b)) (fun _ iv _ => len - (intOf iv).toNat)
      case atStart => exact ⟨b, [], Nat.le_refl _, by omega, rfl, Nat.zero_le _, X0, B0, by show _ = _; rw [List.drop_eq_nil_of_le (by simp; omega)]; rfl⟩
      case round =>
        obtain ⟨j, ss, hbj, hj, rfl, hsl, X, BW, E⟩ := hrel
        clear X0 B0
        by_cases hlt2 : (j : Int) < len
        · have hjl : j < rs.length := by have := HN.out; omega
          obtain ⟨r, hx⟩ : ∃ r, rs[j]? = some r := ⟨_, List.getElem?_eq_getElem hjl⟩
          obtain ⟨rb, ro, rfl, -, c0, c1, c2⟩ := (HR.out.below BW.out).at hx
          have hsv := (HR.out.below BW.out).2.2.1 r (List.mem_of_getElem? hx)
          have hlr := HLL.out r (List.mem_of_getElem? hx)
          obtain ⟨rn, rq, sv, ls⟩ := r
          simp only at c0 c1 c2 hsv hlr
          obtain ⟨sa, sc2, rfl, hn0, hrow⟩ := hsv
          have SV : Hid (RcSl wr (.slice sa ls.length sc2) ls) := ⟨sa, sc2, rfl, hn0, hrow⟩
          have E' : Hid (ss.map xtell ++ [(rn, rq, ls)] = ((rs.map xtell).take (j + 1)).drop b) := by
            show _ = _
            rw [E.out, List.take_add_one, List.getElem?_map, hx]
            simp only [Option.map_some, Option.toList_some]
            rw [List.drop_append_of_le_length (by simp; omega)]
            rfl
          have j0 : (0 : Int) ≤ j := by omega
          clear hx hrow hn0 E hjl
          -- the local transaction, and the empty row of records
          have BA : Hid (Below wr.heap.size wr ((wr.alloc (.cells #[.int .i64 rn, .int .i64 rq, .slice sa ls.length sc2] 31)).alloc (.cells #[] 34))) := ((Below.refl _ _).alloc (Nat.le_refl _) _).alloc (by simp) _
          have SV2 := hide (SV.out.below BA.out)
          have OE : Hid (((wr.alloc (.cells #[.int .i64 rn, .int .i64 rq, .slice sa ls.length sc2] 31)).alloc (.cells #[] 34)).ownsRow (wr.heap.size + 1) 34 4 (.slice (some ⟨wr.heap.size + 1, 0, none⟩) 0 0) 0 (rccells [])) := by
            have := empty_recs (wr.alloc (.cells #[.int .i64 rn, .int .i64 rq, .slice sa ls.length sc2] 31))
            rw [alloc_size rfl] at this
            exact this
          have LC : Hid (((wr.alloc (.cells #[.int .i64 rn, .int .i64 rq, .slice sa ls.length sc2] 31)).alloc (.cells #[] 34)).heap[wr.heap.size]? = some (.cells #[.int .i64 rn, .int .i64 rq, .slice sa ls.length sc2] 31 (0, 0))) :=
            (Below.heap_alloc _ _ wr.heap.size (by simp)).trans (heap_alloc_new wr _)
          obtain ⟨nl, hnl⟩ : ∃ nl, ls.length = nl := ⟨_, rfl⟩
          have HNL := hide hnl
          rw [hnl] at c2 hlr SV2 OE LC BA SV
          clear hnl
          go_wp2_with (at_builtin; refine rec_append_rd _ rfl _ _ rfl (wr.heap.size + 1) rfl OE.out _ ls rfl (by have := HNL.out; omega) SV2.out ?_)
          intro v' y ho hg
          have LY := hide (grown_tx LC.out hg (by omega))
          have BY : Hid (Below wr.heap.size wr y) := BA.out.grown hg BA.out.size (fun k hk => by simp only [Option.some.injEq] at hk; omega)
          have SY : Hid (Sli 34 wr.heap.size y.heap.size v' ls.length (rccells ls) y) := (Sli.of ho).dn (by omega)
          have VY : Hid (v'.ownBlock ≠ some wr.heap.size) := by
            intro e
            obtain ⟨-, -, cs, q⟩ := own_kind ho _ e
            exact rec_ne_tx q LY.out
          clear ho hg OE LC BA SV2 SV c0 c1 c2
          obtain ⟨x0, x1⟩ : y.cell? ⟨wr.heap.size, 0, none⟩ = some (.int .i64 rn) ∧ y.cell? ⟨wr.heap.size, 1, none⟩ = some (.int .i64 rq) := ⟨cell_of_row _ _ 0 _ _ _ LY.out, cell_of_row _ _ 1 _ _ _ LY.out⟩
          have x2 : y.cell? ⟨wr.heap.size, 2, none⟩ = some (.slice sa nl sc2) := cell_of_row _ _ 2 _ _ _ LY.out
          have f2 : y.frozen? ⟨wr.heap.size, 2, none⟩ = false := frozen_of_row _ _ 2 _ _ LY.out
          have LZ : Hid ((y.setCell ⟨wr.heap.size, 2, none⟩ v').heap[wr.heap.size]? = some (.cells #[.int .i64 rn, .int .i64 rq, v'] 31 (0, 0))) := row_set LY.out 2 v'
          have BZ : Hid (Below wr.heap.size wr (y.setCell ⟨wr.heap.size, 2, none⟩ v')) := BY.out.setCell (Nat.le_refl _) _
          have SZ : Hid (Sli 34 wr.heap.size (y.setCell ⟨wr.heap.size, 2, none⟩ v').heap.size v' ls.length (rccells ls) (y.setCell ⟨wr.heap.size, 2, none⟩ v')) := by
            have h2 := SY.out.grown (grown_cell y wr.heap.size 2 v') (fun g e e2 => VY.out (by rw [e, ← e2]))
            have e : (y.setCell ⟨wr.heap.size, 2, none⟩ v').heap.size = y.heap.size := by simp [World.setCell]
            show Sli _ _ _ _ _ _ _
            rw [e]
            exact h2
          clear LY BY SY VY
          obtain ⟨va, vc, rfl, -⟩ := SZ.out.form
          rw [HNL.out] at SZ BZ LZ
          rw [HNL.out]
          have XZ := hide (X.out.below BZ.out)
          have HN3 := hide (xt_new (y.setCell ⟨wr.heap.size, 2, none⟩ (.slice va nl vc)) rn rq (.slice va nl vc) y.heap.size (by simp [World.setCell]))
          have HO3 := hide (xt_one rn rq va nl vc)
          have BN : Hid (Below (y.setCell ⟨wr.heap.size, 2, none⟩ (.slice va nl vc)).heap.size (y.setCell ⟨wr.heap.size, 2, none⟩ (.slice va nl vc)) ((y.setCell ⟨wr.heap.size, 2, none⟩ (.slice va nl vc)).alloc (.cells #[.int .i64 rn, .int .i64 rq, .slice va nl vc] 31))) := (Below.refl _ _).alloc (Nat.le_refl _) _
          have XN := hide (XZ.out.below BN.out)
          have OW := hide XN.out.1
          have HSZ := hide (show w.heap.size ≤ ((y.setCell ⟨wr.heap.size, 2, none⟩ (.slice va nl vc)).alloc (.cells #[.int .i64 rn, .int .i64 rq, .slice va nl vc] 31)).heap.size by have := BW.out.size; have := BZ.out.size; have := BN.out.size; omega)
          obtain ⟨i0, hi0, hz0, hz1, hz2⟩ := info_parts infoTx
          have I0 := hide hi0
          have Z0 := hide hz0
          have Z1 := hide hz1
          have Z2 := hide hz2
          clear hi0 hz0 hz1 hz2
          go_wp2_with (at_builtin; refine wpList_append_own _ rfl _ _ 26 rfl w.heap.size 31 i0 (.agg #[.int .i64 0, .int .i64 0, .slice none 0 0]) 3 40 Try.underlying26 I0.out Z0.out Z1.out Z2.out rfl (by decide) _ _ _ rfl OW.out ⟨y.heap.size, 0, none⟩ 1 1 [.int .i64 rn, .int .i64 rq, .slice va nl vc] rfl rfl HN3.out HO3.out ?c1 ?c2 HSZ.out ?_)
          case c1 => unfold maxLen; omega
          case c2 => omega
          intro u' z ho hg _
          have ho2 : z.ownsRow w.heap.size 31 3 u' (ss ++ [((rn, rq, .slice va nl vc, ls) : Xw)]).length (xcells (ss ++ [((rn, rq, .slice va nl vc, ls) : Xw)])) := by
            rw [← xcells_snoc, List.length_append]
            exact ho
          have BB := hide (BZ.out.trans (BN.out.mono BZ.out.size))
          have XF := hide (XOwn.snoc (r := ((rn, rq, .slice va nl vc, ls) : Xw)) X.out BB.out BW.out.size (by
            show Sli _ _ _ _ ls.length _ _
            rw [HNL.out]
            exact (SZ.out.blw BN.out).up BN.out.size) (by show ls.length ≤ maxLen; rw [HNL.out]; unfold maxLen; omega) hg ho2)
          have BF : Hid (Below w.heap.size w z) := (BW.out.trans (BB.out.mono BW.out.size)).grown hg (by have := BW.out.size; have := BB.out.size; omega) (fun k hk => (XN.out.1.lt k hk).1)
          have E2 : Hid ((ss ++ [((rn, rq, .slice va nl vc, ls) : Xw)]).map xtell = ((rs.map xtell).take (j + 1)).drop b) := by
            show _ = _
            rw [← E'.out, List.map_append]
            rfl
          clear ho hg ho2 BB XN OW HSZ HN3 HO3 BN XZ SZ BZ LZ I0 Z0 Z1 Z2 E' X BW x0 x1 x2 f2
          have hl2 : (ss ++ [((rn, rq, .slice va nl vc, ls) : Xw)]).length ≤ j + 1 := by simp; omega
          generalize ss ++ [((rn, rq, .slice va nl vc, ls) : Xw)] = ss2 at XF E2 hl2
          go_wp2
          go_roundw
          case rel => exact ⟨j + 1, ss2, by omega, by omega, by go_num, hl2, XF, BF, E2⟩
          case measure => simp [intOf]; omega
        · have hjn : j = (rs.map xtell).length := by have := HN.out; simp; omega
          have EF : Hid (ss.map xtell = (sinceP L).map TxR.tu) := by
            show _ = _
            rw [E.out, hjn, List.take_length, HT.out, HB2.out, sinceP, List.map_drop]
          clear hjn
          go_wp2
          go_ret
          exact ⟨_, ss, rfl, X.out, EF.out, BW.out⟩
end Go.Proofs.Ytogfdhfmamabiaa
