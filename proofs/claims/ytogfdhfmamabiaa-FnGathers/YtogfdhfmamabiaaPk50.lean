/-
  ISince; LawGathF; Code
-/
import Derived.Test.YtogfdhfmamabiaaRcApp
import Derived.Test.YtogfdhfmamabiaaILastB
import Derived.Test.YtogfdhfmamabiaaPk25
import Derived.WalkLawsBesides
import Derived.Test.YtogfdhfmamabiaaLawGath
import Derived.Test.YtogfdhfmamabiaaIGath
import Derived.Test.YtogfdhfmamabiaaPk0
/-
  impl.SinceBase.
-/
namespace Go.Proofs.Ytogfdhfmamabiaa
open Go.RowKit
open Words

theorem xt_new2 (W : World) (a b : Int) (v : Value) (g : Nat) (hg : W.heap.size = g) : ∀ (j : Nat) (u : Value), [Value.int .i64 a, Value.int .i64 b, v][j]? = some u → (W.alloc (.cells #[.int .i64 a, .int .i64 b, v] 31)).cell? ((⟨g, 0, none⟩ : Addr).add j) = some u := by
  intro j u hj
  subst hg
  match j, hj with
  | 0, hj | 1, hj | 2, hj =>
    simp at hj
    subst hj
    simp [Addr.add]
theorem xt_one2 (a b : Int) (va : Option Addr) (n c : Nat) : ∀ u ∈ [Value.int .i64 a, Value.int .i64 b, Value.slice va n c], u.oneCell' = true := by
  intro u hu
  simp at hu
  rcases hu with h | h | h <;> subst h <;> rfl
theorem tx_slice (ad : Option Addr) (len cap B : Nat) (W : World) (hB : B ≤ len) : (Instr.slice 26 (.slice ad len cap) (some (.int .i64 (B : Int))) none none).run Try.prog W = .ok (.slice (if cap = B then ad else ad.map (·.add (B * 3))) (len - B) (cap - B)) W := by
  have h1 : (Instr.sliceBound (.int .i64 (B : Int)) len .sliceB).run Try.prog W = .ok B W := by
    simp [Instr.sliceBound, asIntOf, hB]
  simp [Instr.slice, run_underlying Try.underlying26, Instr.sliceBounds, h1, Result.andThen]
theorem TxRd.drop {W : World} {ad : Option Addr} {len cap B : Nat} {rs : List Xw} (h : TxRd W ad len rs) (hc : len ≤ cap) (hB : B ≤ len) : TxRd W (if cap = B then ad else ad.map (·.add (B * 3))) (len - B) (rs.drop B) := by
  obtain ⟨h1, h2, h3, h4⟩ := h
  refine ⟨by simp [h1], by omega, fun r hr => h3 r (List.mem_of_mem_drop hr), fun h0 => ?_⟩
  obtain ⟨b, off, e, hl, hcell⟩ := h4 (by omega)
  subst e
  rw [if_neg (by omega)]
  refine ⟨b, off + B * 3, by simp only [Option.map_some, addr_off2], hl, fun i r hr => ?_⟩
  rw [List.getElem?_drop] at hr
  have := hcell (B + i) r hr
  rw [show off + (B + i) * 3 = off + B * 3 + i * 3 by omega] at this
  exact this
set_option maxHeartbeats 1000000 in
set_option maxRecDepth 100000 in
theorem irclone (v : Value) (ls : List (Int × Int × Int × Int)) (w : World) (hl : ls.length ≤ 1048576) (h : RcSl w v ls) :
    Calls Try.prog 30 #[v] w fun e w' => ∃ v', e = .returned v' ∧ Sli 34 w.heap.size w'.heap.size v' ls.length (rccells ls) w' ∧ Below w.heap.size w w' := by
  have HR := hide h
  obtain ⟨a, c, rfl, hc0, hrow⟩ := h
  have hq : ∀ W : World, (binOp .eql 29 (.slice a ls.length c) (.slice none 0 0)).run Try.prog W = .ok (.bool a.isNone) W := fun W => Lib.run_eql_slice_nil W _ _ a _ _ _ _ Try.underlying29
  cases a with
  | none =>
    have h0 : ls.length = 0 := by
      rcases Nat.eq_zero_or_pos ls.length with e | e
      · exact e
      · obtain ⟨b, off, e2, -⟩ := hrow.2.2.2 e; cases e2
    have hls : ls = [] := List.eq_nil_of_length_eq_zero h0
    subst hls
    obtain rfl : c = 0 := hc0 rfl
    simp only [List.length_nil] at hq
    clear hrow hc0 HR h0 hl
    go_enter Try.func30, Try.ntmps30
    go_wp2
    go_ret
    exact ⟨_, rfl, .inl ⟨rfl, rfl⟩, Below.refl _ _⟩
  | some ad =>
    obtain ⟨nl, hnl⟩ : ∃ nl, ls.length = nl := ⟨_, rfl⟩
    have HNL := hide hnl
    have BA : Hid (Below w.heap.size w (w.alloc (.cells #[] 34))) := (Below.refl _ _).alloc (Nat.le_refl _) _
    have OE := hide (empty_recs w)
    have SV := hide (HR.out.below BA.out)
    rw [hnl] at SV hl hq
    rw [hnl]
    clear hrow hc0 HR hnl
    go_enter Try.func30, Try.ntmps30
    go_wp2_with (at_builtin; refine rec_append_rd _ rfl _ _ rfl w.heap.size rfl OE.out _ ls rfl (by have := HNL.out; omega) SV.out ?_)
    intro v' y ho hg
    have hS := Sli.of ho
    rw [HNL.out] at hS
    have hB : Below w.heap.size w y := BA.out.grown hg BA.out.size (fun k hk => by simp only [Option.some.injEq] at hk; omega)
    have R := hide (And.intro hS hB)
    clear ho hg hS hB
    go_wp2
    go_ret
    exact ⟨_, rfl, R.out.1, R.out.2⟩

set_option maxHeartbeats 2000000 in
set_option maxRecDepth 100000 in
theorem isince : SinceC 10 := by
  intro ad len cap rs L w hl hcap hll hL h
  have hN : rs.length = L.length := by have := congrArg List.length hL; simpa using this
  have hlen : rs.length = len := h.1
  obtain ⟨B, hB⟩ : ∃ B, baseAt L len = B := ⟨_, rfl⟩
  have hBl : B ≤ len := by rw [← hB]; exact baseAt_le L len
  have hsl := fun W => tx_slice ad len cap B W hBl
  have HR := hide (h.drop hcap hBl)
  have CL := hide (ilastB ad len cap rs L w hl hll hL h)
  rw [hB] at CL
  have HT : Hid ((rs.drop B).map xtell = (sinceP L).map TxR.tu) := by
    show _ = _
    rw [List.map_drop, hL, sinceP, ← List.map_drop, ← hN, hlen, hB]
  have HLL : Hid (∀ r ∈ rs.drop B, r.2.2.2.length ≤ 1048576) := fun r hr => hll r (List.mem_of_mem_drop hr)
  clear hN hlen hB hll hL h
  generalize (if cap = B then ad else ad.map (·.add (B * 3))) = ad2 at hsl HR
  obtain ⟨c2, hc2⟩ : ∃ c2, cap - B = c2 := ⟨_, rfl⟩
  obtain ⟨n, hn⟩ : ∃ n, len - B = n := ⟨_, rfl⟩
  rw [hc2, hn] at hsl
  rw [hn] at HR
  have hn1 : n ≤ 1048576 := by omega
  clear hc2 hn hcap hBl
  generalize rs.drop B = qs at HR HT HLL
  have HN := hide HR.out.1
  go_enter Try.func10, Try.ntmps10
  go_wp2_with fail
  refine CL.out.mono ?_
  rintro e w0 ⟨rfl, bl⟩
  have BL := hide bl
  have HR2 := hide (HR.out.below BL.out)
  clear CL HR bl
  have HR := HR2
  clear HR2
  go_wp2
  clear hsl
  go_loopw [3, 11] (fun ov iv W => ∃ (j : Nat) (ss : List Xw), j ≤ n ∧ iv = .int .i64 j ∧ ss.length = j ∧ Hid (XOwn W w0.heap.size ov ss) ∧ Hid (Below w0.heap.size w0 W) ∧ Hid (ss.map xtell = (qs.map xtell).take j)) (fun _ iv _ => n - (intOf iv).toNat)
  case atStart => exact ⟨0, [], Nat.zero_le _, rfl, rfl, XOwn.nil _ _, Below.refl _ _, rfl⟩
  case round =>
    obtain ⟨j, ss, hj, rfl, hsl, X, BW, E⟩ := hrel
    by_cases hlt2 : (j : Int) < n
    · have hjl : j < qs.length := by have := HN.out; omega
      obtain ⟨r, hx⟩ : ∃ r, qs[j]? = some r := ⟨_, List.getElem?_eq_getElem hjl⟩
      obtain ⟨rb, ro, rfl, -, c0, c1, c2'⟩ := (HR.out.below BW.out).at hx
      have hsv := (HR.out.below BW.out).2.2.1 r (List.mem_of_getElem? hx)
      have hlr := HLL.out r (List.mem_of_getElem? hx)
      obtain ⟨rn, rq, sv, ls⟩ := r
      simp only at c0 c1 c2' hsv hlr
      have SV0 := hide hsv
      obtain ⟨sa, sc2, rfl, hn0, hrow⟩ := hsv
      have E' : Hid (ss.map xtell ++ [(rn, rq, ls)] = (qs.map xtell).take (j + 1)) := by
        show _ = _
        rw [E.out, List.take_add_one, List.getElem?_map, hx]
        rfl
      have j0 : (0 : Int) ≤ j := by omega
      clear hx hrow hn0 E hjl
      have BA : Hid (Below wr.heap.size wr (wr.alloc (.cells #[.int .i64 rn, .int .i64 rq, .slice sa ls.length sc2] 31))) := (Below.refl _ _).alloc (Nat.le_refl _) _
      have LC : Hid ((wr.alloc (.cells #[.int .i64 rn, .int .i64 rq, .slice sa ls.length sc2] 31)).heap[wr.heap.size]? = some (.cells #[.int .i64 rn, .int .i64 rq, .slice sa ls.length sc2] 31 (0, 0))) := heap_alloc_new wr _
      have CC := hide (irclone _ ls _ hlr (SV0.out.below BA.out))
      have HZ : Hid ((wr.alloc (.cells #[.int .i64 rn, .int .i64 rq, .slice sa ls.length sc2] 31)).heap.size = wr.heap.size + 1) := by show _ = _; simp
      obtain ⟨nl, hnl⟩ : ∃ nl, ls.length = nl := ⟨_, rfl⟩
      have HNL := hide hnl
      rw [hnl] at c2' hlr LC BA CC HZ
      clear hnl SV0
      go_wp2_with fail
      generalize wr.alloc (.cells #[.int .i64 rn, .int .i64 rq, .slice sa nl sc2] 31) = wa at BA LC CC HZ ⊢
      refine CC.out.mono ?_
      rintro e y ⟨v', rfl, hS, hbY⟩
      have LY : Hid (y.heap[wr.heap.size]? = some (.cells #[.int .i64 rn, .int .i64 rq, .slice sa nl sc2] 31 (0, 0))) := (hbY.block _ (by have := HZ.out; omega)).trans LC.out
      have BY : Hid (Below wr.heap.size wr y) := BA.out.trans (hbY.mono BA.out.size)
      have VY : Hid (v'.ownBlock ≠ some wr.heap.size) := by
        intro e
        have := (hS.lt _ e).1
        have := HZ.out
        omega
      have SY : Hid (Sli 34 wr.heap.size y.heap.size v' ls.length (rccells ls) y) := by
        have := hS.dn (lo' := wr.heap.size) (by have := HZ.out; omega)
        show Sli _ _ _ _ _ _ _
        rw [HNL.out]
        exact this
      clear CC LC BA hS hbY HZ c0 c1 c2'
      obtain ⟨x0, x1⟩ : y.cell? ⟨wr.heap.size, 0, none⟩ = some (.int .i64 rn) ∧ y.cell? ⟨wr.heap.size, 1, none⟩ = some (.int .i64 rq) := ⟨cell_of_row _ _ 0 _ _ _ LY.out, cell_of_row _ _ 1 _ _ _ LY.out⟩
      have x2 : y.cell? ⟨wr.heap.size, 2, none⟩ = some (.slice sa nl sc2) := cell_of_row _ _ 2 _ _ _ LY.out
      have f2 : y.frozen? ⟨wr.heap.size, 2, none⟩ = false := frozen_of_row _ _ 2 _ _ LY.out
      have LZ : Hid ((y.setCell ⟨wr.heap.size, 2, none⟩ v').heap[wr.heap.size]? = some (.cells #[.int .i64 rn, .int .i64 rq, v'] 31 (0, 0))) := row_set LY.out 2 v'
      have BZ : Hid (Below wr.heap.size wr (y.setCell ⟨wr.heap.size, 2, none⟩ v')) := BY.out.setCell (Nat.le_refl _) _
      have SZ : Hid (Sli 34 wr.heap.size (y.setCell ⟨wr.heap.size, 2, none⟩ v').heap.size v' ls.length (rccells ls) (y.setCell ⟨wr.heap.size, 2, none⟩ v')) := by
        have h2 := SY.out.grown (grown_cell y wr.heap.size 2 v') (fun g e e2 => VY.out (by rw [e, ← e2]))
        have e : (y.setCell ⟨wr.heap.size, 2, none⟩ v').heap.size = y.heap.size := by simp [World.setCell]
        show Sli _ _ _ _ _ _ _
        rw [e]
        exact h2
      clear LY BY SY VY
      obtain ⟨va, vc, rfl, -⟩ := SZ.out.form
      rw [HNL.out] at SZ BZ LZ
      rw [HNL.out]
      have XZ := hide (X.out.below BZ.out)
      have HN3 := hide (xt_new2 (y.setCell ⟨wr.heap.size, 2, none⟩ (.slice va nl vc)) rn rq (.slice va nl vc) y.heap.size (by simp [World.setCell]))
      have HO3 := hide (xt_one2 rn rq va nl vc)
      have BN : Hid (Below (y.setCell ⟨wr.heap.size, 2, none⟩ (.slice va nl vc)).heap.size (y.setCell ⟨wr.heap.size, 2, none⟩ (.slice va nl vc)) ((y.setCell ⟨wr.heap.size, 2, none⟩ (.slice va nl vc)).alloc (.cells #[.int .i64 rn, .int .i64 rq, .slice va nl vc] 31))) := (Below.refl _ _).alloc (Nat.le_refl _) _
      have XN := hide (XZ.out.below BN.out)
      have OW := hide XN.out.1
      have HSZ := hide (show w0.heap.size ≤ ((y.setCell ⟨wr.heap.size, 2, none⟩ (.slice va nl vc)).alloc (.cells #[.int .i64 rn, .int .i64 rq, .slice va nl vc] 31)).heap.size by have := BW.out.size; have := BZ.out.size; have := BN.out.size; omega)
      obtain ⟨i0, hi0, hz0, hz1, hz2⟩ := info_parts infoTx
      have I0 := hide hi0
      have Z0 := hide hz0
      have Z1 := hide hz1
      have Z2 := hide hz2
      clear hi0 hz0 hz1 hz2
      go_wp2_with (at_builtin; refine wpList_append_own _ rfl _ _ 26 rfl w0.heap.size 31 i0 (.agg #[.int .i64 0, .int .i64 0, .slice none 0 0]) 3 40 Try.underlying26 I0.out Z0.out Z1.out Z2.out rfl (by decide) _ _ _ rfl OW.out ⟨y.heap.size, 0, none⟩ 1 1 [.int .i64 rn, .int .i64 rq, .slice va nl vc] rfl rfl HN3.out HO3.out ?c1 ?c2 HSZ.out ?_)
      case c1 => unfold maxLen; omega
      case c2 => omega
      intro u' z ho hg _
      have ho2 : z.ownsRow w0.heap.size 31 3 u' (ss ++ [((rn, rq, .slice va nl vc, ls) : Xw)]).length (xcells (ss ++ [((rn, rq, .slice va nl vc, ls) : Xw)])) := by
        rw [← xcells_snoc, List.length_append, hsl]
        exact ho
      have BB := hide (BZ.out.trans (BN.out.mono BZ.out.size))
      have XF := hide (XOwn.snoc (r := ((rn, rq, .slice va nl vc, ls) : Xw)) X.out BB.out BW.out.size (by
        show Sli _ _ _ _ ls.length _ _
        rw [HNL.out]
        exact (SZ.out.blw BN.out).up BN.out.size) (by show ls.length ≤ maxLen; rw [HNL.out]; unfold maxLen; omega) hg ho2)
      have BF : Hid (Below w0.heap.size w0 z) := (BW.out.trans (BB.out.mono BW.out.size)).grown hg (by have := BW.out.size; have := BB.out.size; omega) (fun k hk => (XN.out.1.lt k hk).1)
      have E2 : Hid ((ss ++ [((rn, rq, .slice va nl vc, ls) : Xw)]).map xtell = (qs.map xtell).take (j + 1)) := by
        show _ = _
        rw [← E'.out, List.map_append]
        rfl
      clear ho hg ho2 BB XN OW HSZ HN3 HO3 BN XZ SZ BZ LZ I0 Z0 Z1 Z2 E' X BW x0 x1 x2 f2
      have hl2 : (ss ++ [((rn, rq, .slice va nl vc, ls) : Xw)]).length = j + 1 := by simp; omega
      generalize ss ++ [((rn, rq, .slice va nl vc, ls) : Xw)] = ss2 at XF E2 hl2
      go_wp2
      go_roundw
      case rel => exact ⟨j + 1, ss2, by omega, by go_num, hl2, XF, BF, E2⟩
      case measure => simp [intOf]; omega
    · have hjn : j = (qs.map xtell).length := by have := HN.out; simp; omega
      have EF : Hid (ss.map xtell = (sinceP L).map TxR.tu) := by
        show _ = _
        rw [E.out, hjn, List.take_length, HT.out]
      clear hjn
      go_wp2
      go_ret
      exact ⟨_, ss, rfl, X.out.down BL.out.size, EF.out, BL.out.trans (BW.out.mono BL.out.size)⟩
end Go.Proofs.Ytogfdhfmamabiaa

/-
  FnGathers.
-/
namespace Go.Proofs.Ytogfdhfmamabiaa
open Go.RowKit
open Words

theorem lawGath (ad : Option Addr) (len cap : Nat) (w : World) (hd : CodeIn w ad len w.heap.size) :
    Calls Try.prog 3 #[.slice ad len cap] w fun e w' => e = .returned (.bool true) ∧ Below w.heap.size w w' :=
  lawGath_of ad len cap w hd igather isince
end Go.Proofs.Ytogfdhfmamabiaa

/-
  Bytes that came in as an argument, as the draws take them.
-/
namespace Go.Proofs.Ytogfdhfmamabiaa
open Go.RowKit

/-- A row of bytes that came in: nil, or cells that hold them. -/
def ByteRow (w : World) (a : Option Addr) (len cap : Nat) (zs : List Int) : Prop :=
  (a = none ∧ len = 0 ∧ cap = 0 ∧ zs = []) ∨
  ∃ x, a = some x ∧ len ≤ cap ∧ cap ≤ maxLen ∧ zs.length = cap ∧ (∀ i, i < zs.length → w.cell? (x.add i) = some (.int .u8 (zs.getD i 0))) ∧ ∀ n ∈ zs, (Lit.int .u8 n).wf = true
theorem addr_off (b off j : Nat) : (⟨b, off, none⟩ : Addr).add j = ⟨b, off + j, none⟩ := by
  simp only [Addr.add]
  split <;> simp_all
theorem code_of_row {w : World} {a : Option Addr} {len cap : Nat} {zs : List Int} (h : ByteRow w a len cap zs) : CodeIn w a len w.heap.size := by
  intro j hj
  rcases h with ⟨_, h2, _⟩ | ⟨x, rfl, h2, _, h4, h5, h6⟩
  · omega
  · obtain ⟨b, off, spot⟩ := x
    have hc := h5 j (by omega)
    have hspot : spot = none := by simpa [Addr.add] using World.cell?_spot (h5 0 (by omega))
    subst hspot
    rw [addr_off] at hc
    have hm : zs.getD j 0 ∈ zs := by
      rw [List.getD_eq_getElem?_getD, List.getElem?_eq_getElem (by omega)]
      exact List.getElem_mem _
    have hw : 0 ≤ zs.getD j 0 ∧ zs.getD j 0 ≤ 255 := by simpa [Lit.wf, IntKind.min, IntKind.max, IntKind.signed, IntKind.bits] using h6 _ hm
    refine ⟨b, off, rfl, World.block_lt_of_cell? w _ hc, (zs.getD j 0).toNat, by omega, ?_⟩
    rw [hc]
    congr 2
    omega
end Go.Proofs.Ytogfdhfmamabiaa
