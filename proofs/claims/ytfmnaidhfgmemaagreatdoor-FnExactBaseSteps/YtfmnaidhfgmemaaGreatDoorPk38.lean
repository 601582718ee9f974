/-
  ITxP; KnEq
-/
import Derived.Test.YtfmnaidhfgmemaaGreatDoorPk37
import Derived.Test.YtfmnaidhfgmemaaGreatDoorPk1
import Derived.Deep.RegionHeld3
namespace Go.Proofs.YtfmnaidhfgmemaaGreatDoor
open Go.RowKit
open Words
theorem pgcells_put (ls : List (Int × Int × Int × Int × Int × ByteArray)) (R : List Value) (j : Nat) (x0 x1 x2 x3 x4 : Int) (x5 : ByteArray) (hj : ls[j]? = some (x0, x1, x2, x3, x4, x5)) (hR : R.length = ls.length * 6) :
    ((((((pgcells (ls.take j) ++ R.drop (j * 6)).set (j * 6) (.int .i64 x0)).set (j * 6 + 1) (.int .i64 x1)).set (j * 6 + 2) (.int .i64 x2)).set (j * 6 + 3) (.int .i64 x3)).set (j * 6 + 4) (.int .i64 x4)).set (j * 6 + 5) (.string x5) = pgcells (ls.take (j + 1)) ++ R.drop ((j + 1) * 6) := by
  obtain ⟨hj1, hj2⟩ := List.getElem?_eq_some_iff.1 hj
  have hm : (pgcells (ls.take j)).length = j * 6 := by rw [pgcells_len, List.length_take]; congr 1; omega
  have e2 : pgcells [(x0, x1, x2, x3, x4, x5)] = [.int .i64 x0, .int .i64 x1, .int .i64 x2, .int .i64 x3, .int .i64 x4, .string x5] := rfl
  have e3 : ls.take (j + 1) = ls.take j ++ [(x0, x1, x2, x3, x4, x5)] := by rw [List.take_succ_eq_append_getElem hj1, hj2]
  rw [e3, pgcells_app, e2, List.set_append_right _ _ (by omega), List.set_append_right _ _ (by omega), List.set_append_right _ _ (by omega), List.set_append_right _ _ (by omega), List.set_append_right _ _ (by omega), List.set_append_right _ _ (by omega), hm, Nat.sub_self, Nat.add_sub_cancel_left, Nat.add_sub_cancel_left, Nat.add_sub_cancel_left, Nat.add_sub_cancel_left, Nat.add_sub_cancel_left, List.append_assoc]
  rw [List.drop_eq_getElem_cons (show j * 6 < R.length by omega), List.drop_eq_getElem_cons (show j * 6 + 1 < R.length by omega), List.drop_eq_getElem_cons (show j * 6 + 2 < R.length by omega), List.drop_eq_getElem_cons (show j * 6 + 3 < R.length by omega), List.drop_eq_getElem_cons (show j * 6 + 4 < R.length by omega), List.drop_eq_getElem_cons (show j * 6 + 5 < R.length by omega), show (j + 1) * 6 = j * 6 + 1 + 1 + 1 + 1 + 1 + 1 by omega]
  rfl
theorem PgOut.no {w w' : World} {seq tx : Int} {l : List Rc} (h : ¬ TxOk seq tx l) (hb : Below w.heap.size w w') : PgOut w (txOut seq tx l) (@decide (TxOk seq tx l) (decTx seq tx l)) (.returned (.tuple #[.slice none 0 0, .bool false])) w' := by
  rw [txOut, if_neg h, dcN h]
  exact ⟨_, rfl, World.ownsRow_nil _ _ _ _, hb⟩
theorem PgOut.no2 {w w' : World} {seq tx : Int} {l : List Rc} {e : Ending} (h : ¬ TxOk seq tx l) (he : e = .returned (.tuple #[.slice none 0 0, .bool false])) (hb : Below w.heap.size w w') : PgOut w (txOut seq tx l) (@decide (TxOk seq tx l) (decTx seq tx l)) e w' := by
  subst he
  exact PgOut.no h hb
set_option maxHeartbeats 2000000 in
set_option maxRecDepth 100000 in
theorem itxPages : TxPagesC 74 := by
  intro seq tx ad len cap l w hl h
  have CP := hide (ipartTexts ad len cap l w hl h)
  have hn : l.length = len := by have := h.1; simpa using this
  have HLN : Hid (l.length ≤ 33554432) := by show _ ≤ _; omega
  clear h hn
  go_enter Tryz.func74, Tryz.ntmps74
  go_wp2_with fail
  refine CP.out.mono ?_
  rintro e w1 (⟨hR, g, n, c, rfl, hn1, hT⟩ | ⟨hR, rfl, hb⟩)
  · have T := hide hT
    have RR := hide hR
    have HM := hide hT.len
    have hn2 : n ≤ 33554433 := by have := HLN.out; omega
    have hn0 : 1 ≤ n := by have := pkG_pos l; have := HM.out; omega
    clear hT hR hn1 CP HLN
    by_cases h9 : n ≤ 9
    · rw [dcY h9]
      by_cases ht : 1 ≤ tx ∧ tx ≤ 1000000000
      · have e1 : (1000000000 : Int) - ((n : Int) - 1) = 1000000000 - n + 1 := by omega
        by_cases hq : 1 ≤ seq ∧ seq ≤ 1000000000 - (n : Int) + 1
        · have hok : TxOk seq tx l := ⟨RR.out, by rw [HM.out]; exact h9, hq.1, by rw [HM.out]; exact hq.2, ht.1, ht.2⟩
          have HO : Hid (txOut seq tx l = txPgs seq tx l ∧ @decide (TxOk seq tx l) (decTx seq tx l) = true) := ⟨if_pos hok, dcY hok⟩
          obtain ⟨i0, hi, hz0, hz1, hz2⟩ := info_parts infoPg
          have I0 := hide hi
          have Z0 := hide hz0
          have Z1 := hide hz1
          have Z2 := hide hz2
          clear hok hi hz0 hz1 hz2
          go_wp2_with fail
          refine (iwithin tx 1 1000000000 true _ (.inl ⟨by omega, by omega, rfl⟩)).mono ?_
          rintro e w2 ⟨rfl, rfl⟩
          go_wp2_with fail
          refine (iwithin seq 1 _ true _ (.inl ⟨by omega, by omega, rfl⟩)).mono ?_
          rintro e w3 ⟨rfl, rfl⟩
          obtain ⟨x0, hx0⟩ : ∃ x0, w3.heap.size = x0 := ⟨_, rfl⟩
          go_wp2_with (at_make; refine wpList_make_full _ rfl _ _ 93 rfl w.heap.size 92 i0 (.agg #[.int .i64 0, .int .i64 0, .int .i64 0, .int .i64 0, .int .i64 0, .string ⟨#[]⟩]) 6 Tryz.underlying93 I0.out Z0.out Z1.out .i64 .i64 _ _ n rfl rfl rfl rfl (by rw [Z2.out]; omega) (by unfold maxLen; omega) (by exact T.out.1.size) ?_)
          intro w4 hown hgrow
          generalize (madeCells #[Value.int .i64 0, Value.int .i64 0, Value.int .i64 0, Value.int .i64 0, Value.int .i64 0, Value.string ⟨#[]⟩] (n * 6)).toList = R at hown
          have hlt := T.out.2.lt g rfl
          rw [hx0] at hlt
          try rw [hx0] at hown
          try rw [hx0]
          have T4 := hide (T.out.below ((Below.refl w3.heap.size w3).grown hgrow (Nat.le_refl _) (fun k hk => by cases hk)))
          have HR2 : Hid (R.length = ((txPgs seq tx l).map Pg.tu).length * 6) := by show _ = _; rw [List.length_map, txPgs_len, HM.out]; exact hown.1
          have HO4 := hide hown
          have hx4 := (hown.lt x0 rfl).2
          have hg0 := hlt.1
          have hgx := hlt.2
          clear hown hgrow hlt T I0 Z0 Z1 Z2 hx0
          go_wp2
          go_loopw [39] (fun iv wr => ∃ k : Nat, k ≤ n ∧ iv = .int .i64 k ∧ Hid (wr.ownsRow w.heap.size 92 6 (.slice (some ⟨x0, 0, none⟩) n n) n (pgcells (((txPgs seq tx l).map Pg.tu).take k) ++ R.drop (k * 6))) ∧ Hid (Below x0 w4 wr)) (fun iv _ => n - (intOf iv).toNat)
          case atStart => exact ⟨0, Nat.zero_le _, rfl, HO4, Below.refl _ _⟩
          case round =>
            obtain ⟨k, hk, rfl, HO2, HW⟩ := hrel
            by_cases hkl : (k : Int) < n
            · have hkm : k < (pkG l).length := by have := HM.out; omega
              obtain ⟨gg, hgg⟩ : ∃ gg, (pkG l)[k]? = some gg := ⟨_, List.getElem?_eq_getElem hkm⟩
              have d9 : wr.cell? ⟨g, k, none⟩ = some (.string (recsB gg)) := (HW.out.cell (show g < x0 from hgx)).trans (T4.out.at_ hgg)
              have hpk : ((txPgs seq tx l).map Pg.tu)[k]? = some (2, seq + k, tx, (k : Int), (n : Int), recsB gg) := by
                rw [List.getElem?_map, txPgs_get hgg]
                simp [pgTx, Pg.tu, HM.out]
              have k0 : (0 : Int) ≤ k := by omega
              have hlen3 : (pgcells (((txPgs seq tx l).map Pg.tu).take k) ++ R.drop (k * 6)).length = n * 6 := HO2.out.1
              have o3 := HO2.out
              have e3 : ∀ d, d < 6 → ∃ u, wr.cell? ⟨x0, k * 6 + d, none⟩ = some u := by
                intro d hd
                have := o3.cells (g := x0) rfl (k * 6 + d) _ (List.getElem?_eq_getElem (by rw [hlen3]; omega))
                rw [addr_at] at this
                exact ⟨_, this⟩
              obtain ⟨u0, d0⟩ := e3 0 (by omega)
              obtain ⟨u1, d1⟩ := e3 1 (by omega)
              obtain ⟨u2, d2⟩ := e3 2 (by omega)
              obtain ⟨u3, d3⟩ := e3 3 (by omega)
              obtain ⟨u4, d4⟩ := e3 4 (by omega)
              obtain ⟨u5, d5⟩ := e3 5 (by omega)
              rw [Nat.add_zero] at d0
              have f0 := o3.frozenAt (k * 6)
              have f1 := o3.frozenAt (k * 6 + 1)
              have f2 := o3.frozenAt (k * 6 + 2)
              have f3 := o3.frozenAt (k * 6 + 3)
              have f4 := o3.frozenAt (k * 6 + 4)
              have f5 := o3.frozenAt (k * 6 + 5)
              have o6 := fown_set (fown_set (fown_set (fown_set (fown_set (fown_set o3 rfl (k * 6) (.int .i64 2)) rfl (k * 6 + 1) (.int .i64 (seq + k))) rfl (k * 6 + 2) (.int .i64 tx)) rfl (k * 6 + 3) (.int .i64 k)) rfl (k * 6 + 4) (.int .i64 n)) rfl (k * 6 + 5) (.string (recsB gg))
              rw [pgcells_put ((txPgs seq tx l).map Pg.tu) R k 2 (seq + k) tx k n (recsB gg) hpk HR2.out] at o6
              have b6 := (((((HW.out.setCell (p := ⟨x0, k * 6, none⟩) (Nat.le_refl _) (.int .i64 2)).setCell (p := ⟨x0, k * 6 + 1, none⟩) (Nat.le_refl _) (.int .i64 (seq + k))).setCell (p := ⟨x0, k * 6 + 2, none⟩) (Nat.le_refl _) (.int .i64 tx)).setCell (p := ⟨x0, k * 6 + 3, none⟩) (Nat.le_refl _) (.int .i64 k)).setCell (p := ⟨x0, k * 6 + 4, none⟩) (Nat.le_refl _) (.int .i64 n)).setCell (p := ⟨x0, k * 6 + 5, none⟩) (Nat.le_refl _) (.string (recsB gg))
              have O6 := hide o6
              have B6 := hide b6
              clear o3 o6 b6 hlen3 e3 HW HO2 hpk hgg hkm
              generalize recsB gg = tt at d9 O6 B6
              go_wp2
              go_roundw
              case rel => exact ⟨k + 1, by omega, by go_num, O6, B6⟩
              case measure => simp [intOf]; omega
            · have hke : k = n := by omega
              have hO := HO2.out
              have hr1 := HR2.out
              have hm := HM.out
              have hpl : ((txPgs seq tx l).map Pg.tu).length = n := by rw [List.length_map, txPgs_len, hm]
              rw [hke, List.take_of_length_le (by omega), List.drop_eq_nil_of_le (by omega), List.append_nil] at hO
              have HO3 := hide hO
              have HPL : Hid ((txPgs seq tx l).length = n) := by show _ = _; rw [txPgs_len, hm]
              clear hO hke hr1 hm hpl
              go_wp2
              go_ret2
              rw [HO.out.1, HO.out.2]
              exact ⟨_, rfl, (by rw [HPL.out]; exact HO3.out), T4.out.1.trans (HW.out.mono (by have := T4.out.1.size; omega))⟩
        · have HX : Hid (¬ TxOk seq tx l) := fun h => hq ⟨h.2.2.1, by have := h.2.2.2.1; rw [HM.out] at this; exact this⟩
          go_wp2_with fail
          refine (iwithin tx 1 1000000000 true _ (.inl ⟨by omega, by omega, rfl⟩)).mono ?_
          rintro e w2 ⟨rfl, rfl⟩
          go_wp2_with fail
          refine (iwithin seq 1 _ false _ (.inr ⟨by omega, rfl⟩)).mono ?_
          rintro e w3 ⟨rfl, rfl⟩
          go_wp2
          go_ret2
          exact PgOut.no2 HX.out rfl T.out.1
      · have HX : Hid (¬ TxOk seq tx l) := fun h => ht h.2.2.2.2
        go_wp2_with fail
        refine (iwithin tx 1 1000000000 false _ (.inr ⟨by omega, rfl⟩)).mono ?_
        rintro e w2 ⟨rfl, rfl⟩
        go_wp2
        go_ret2
        exact PgOut.no2 HX.out rfl T.out.1
    · rw [dcN h9]
      have HX : Hid (¬ TxOk seq tx l) := fun h => by have := h.2.1; rw [HM.out] at this; omega
      go_wp2
      go_ret2
      exact PgOut.no2 HX.out rfl T.out.1
  · have HX : Hid (¬ TxOk seq tx l) := fun h => hR h.1
    have HB := hide hb
    clear hR hb CP
    go_wp2
    go_ret2
    exact PgOut.no2 HX.out rfl HB.out
end Go.Proofs.YtfmnaidhfgmemaaGreatDoor

namespace Go.Proofs.YtfmnaidhfgmemaaGreatDoor
open Go.RowKit
open Words
set_option maxHeartbeats 400000 in
set_option maxRecDepth 100000 in
theorem eqIs_same (a b : Value) (M : List Int) (n : Nat) (B1 C1 B2 C2 : Nat) (w : World) (hn : M.length = n) (hM : n ≤ 1000000000000000000) (ha : Sli 3 B1 C1 a n (icells M) w) (hb : Sli 3 B2 C2 b n (icells M) w) :
    Calls Tryz.prog 16 #[a, b] w fun e w' => e = .returned (.bool true) ∧ Below w.heap.size w w' := by
  obtain ⟨ad, capa, rfl, a3⟩ := ha.form
  obtain ⟨bd, capb, rfl, b3⟩ := hb.form
  have HSA := hide ha
  have HSB := hide hb
  have A3 := hide a3
  have B3 := hide b3
  have HN := hide hn
  clear ha hb a3 b3 hn
  go_enter Tryz.func16, Tryz.ntmps16
  go_wp2
  go_loopw [5] (fun iv wr => ∃ k : Nat, k ≤ n ∧ iv = .int .i64 k ∧ Hid (∃ q, wr = w.drewN q)) (fun iv _ => n - (intOf iv).toNat)
  case atStart => exact ⟨0, Nat.zero_le _, rfl, ⟨0, rfl⟩⟩
  case round =>
    obtain ⟨k, hk, rfl, HQ⟩ := hrel
    obtain ⟨q, hq⟩ := HQ.out
    subst hq
    clear HQ
    by_cases hlt : (k : Int) < n
    · obtain ⟨ga, e, -, -⟩ := A3.out (by omega)
      subst e
      obtain ⟨gb, e, -, -⟩ := B3.out (by omega)
      subst e
      obtain ⟨x, hx⟩ : ∃ x, M[k]? = some x := ⟨_, List.getElem?_eq_getElem (by have := HN.out; omega)⟩
      have c1 := HSA.out.flt.cell (icells_get hx)
      have c2 := HSB.out.flt.cell (icells_get hx)
      have hxx : (x != x) = false := by simp
      have k0 : (0 : Int) ≤ k := by omega
      clear hx
      go_wp2
      go_quiet (fail)
      go_wp2
      go_roundw
      case rel => exact ⟨k + 1, by omega, by go_num, ⟨_, rfl⟩⟩
      case measure => simp [intOf]; omega
    · go_wp2
      go_ret
      exact ⟨rfl, below_drewN (Below.refl _ _) _⟩
set_option maxHeartbeats 400000 in
set_option maxRecDepth 100000 in
theorem eqKn_same (x : Bool) (n : Nat) (a1 a2 : Option Addr) (c1 c2 : Nat) (ls : List Int) (B1 C1 B2 C2 : Nat) (w : World) (hn : ls.length = n) (hM : n ≤ 1000000000000000000) (h1 : Sli 3 B1 C1 (.slice a1 n c1) n (icells ls) w) (h2 : Sli 3 B2 C2 (.slice a2 n c2) n (icells ls) w) :
    Calls Tryz.prog 120 #[.agg #[.bool x, .slice a1 n c1], .agg #[.bool x, .slice a2 n c2]] w fun e w' => e = .returned (.bool true) ∧ Below w.heap.size w w' := by
  have e0 : (x != x) = false := by simp
  have HB : Hid (Below w.heap.size w ((w.alloc (.cells #[.bool x, .slice a1 n c1] 175)).alloc (.cells #[.bool x, .slice a2 n c2] 175))) := ((Below.refl _ _).alloc (Nat.le_refl _) _).alloc (by simp) _
  have C := hide (eqIs_same _ _ ls n B1 C1 B2 C2 _ hn hM (h1.blw HB.out) (h2.blw HB.out))
  clear h1 h2
  go_enter Tryz.func120, Tryz.ntmps120
  go_wp2_with fail
  refine C.out.mono ?_
  rintro e w1 ⟨rfl, b1⟩
  have HW := hide (HB.out.trans (b1.mono HB.out.size))
  clear b1 C HB
  go_wp2
  go_ret
  exact ⟨rfl, HW.out⟩
set_option maxHeartbeats 1000000 in
set_option maxRecDepth 100000 in
theorem eqKns_same (a b : Value) (rs ss : List Kw) (B1 C1 B2 C2 : Nat) (w : World) (hM : rs.length ≤ 1000000000000000000) (hll : ∀ r ∈ rs, r.2.2.length ≤ 1000000000000000000) (ha : KIn B1 C1 a rs w) (hb : KIn B2 C2 b ss w) (he : rs.map ktell = ss.map ktell) :
    Calls Tryz.prog 82 #[a, b] w fun e w' => e = .returned (.bool true) ∧ Below w.heap.size w w' := by
  have hls : rs.length = ss.length := by have := congrArg List.length he; simpa using this
  obtain ⟨ad, capa, rfl, a3⟩ := ha.1.form
  obtain ⟨bd, capb, rfl, b3⟩ := hb.1.form
  obtain ⟨n, hn⟩ : ∃ n, rs.length = n := ⟨_, rfl⟩
  have HN := hide hn
  have HSA := hide ha
  have HSB := hide hb
  have HE := hide he
  have HLL := hide hll
  rw [hn] at hls
  rw [← hls] at b3 HSB ⊢
  rw [hn] at hM a3 HSA ⊢
  have A3 := hide a3
  have B3 := hide b3
  have HLS := hide hls
  clear a3 b3 ha hb hn he hll hls
  go_enter Tryz.func82, Tryz.ntmps82
  go_wp2
  go_loopw [5] (fun iv wr => ∃ k : Nat, k ≤ n ∧ iv = .int .i64 k ∧ Hid (Below w.heap.size w wr)) (fun iv _ => n - (intOf iv).toNat)
  case atStart => exact ⟨0, Nat.zero_le _, rfl, Below.refl _ _⟩
  case round =>
    obtain ⟨k, hk, rfl, HW⟩ := hrel
    by_cases hlt : (k : Int) < n
    · obtain ⟨ga, e, _, _⟩ := A3.out (by omega)
      subst e
      obtain ⟨gb, e, _, _⟩ := B3.out (by omega)
      subst e
      have hkl : k < rs.length := by have := HN.out; omega
      have hkl2 : k < ss.length := by have := HLS.out; omega
      obtain ⟨r, hr⟩ : ∃ r, rs[k]? = some r := ⟨_, List.getElem?_eq_getElem hkl⟩
      obtain ⟨s, hs⟩ : ∃ s, ss[k]? = some s := ⟨_, List.getElem?_eq_getElem hkl2⟩
      have hrs : ktell r = ktell s := by
        have e := congrArg (fun l => l[k]?) HE.out
        simp only [List.getElem?_map, hr, hs, Option.map_some, Option.some.injEq] at e
        exact e
      have SA := (HSA.out.2.1 r (List.mem_of_getElem? hr)).1.blw HW.out
      have SB := (HSB.out.2.1 s (List.mem_of_getElem? hs)).1.blw HW.out
      have hlr := HLL.out r (List.mem_of_getElem? hr)
      have ha1 := HSA.out.1
      have hb1 := HSB.out.1
      rw [HN.out] at ha1
      rw [← HLS.out] at hb1
      have GA := ha1.flt.below HW.out
      have GB := hb1.flt.below HW.out
      clear ha1 hb1
      have c0 := GA.cell (kncells_at rs k _ hr 0 _ rfl)
      have c1 := GA.cell (kncells_at rs k _ hr 1 _ rfl)
      have d0 := GB.cell (kncells_at ss k _ hs 0 _ rfl)
      have d1 := GB.cell (kncells_at ss k _ hs 1 _ rfl)
      obtain ⟨rn, rv, rl⟩ := r
      obtain ⟨sn, sv, sl⟩ := s
      simp only [ktell, Kn.mk.injEq] at hrs
      obtain ⟨rfl, rfl⟩ := hrs
      simp only [Nat.add_zero] at SA SB c0 c1 d0 d1 hlr
      obtain ⟨m, hm⟩ : ∃ m, rl.length = m := ⟨_, rfl⟩
      rw [hm] at SA SB hlr
      obtain ⟨va, vc, rfl, -⟩ := SA.form
      obtain ⟨ua, uc, rfl, -⟩ := SB.form
      have CE := hide (eqKn_same rn m va ua vc uc rl _ _ _ _ wr.drew hm hlr (SA.blw (Below.refl _ _).drew) (SB.blw (Below.refl _ _).drew))
      have hsz := HW.out.size
      have k0 : (0 : Int) ≤ k := by omega
      have gaw : ga < wr.heap.size := World.block_lt_of_cell? wr _ c0
      have gbw : gb < wr.heap.size := World.block_lt_of_cell? wr _ d0
      clear hr hs hkl hkl2 GA GB SA SB hm
      go_wp2
      go_region_held3 (fun w' => w'.cell? ⟨ga, k * 2, none⟩ = some (.bool rn) ∧ w'.cell? ⟨ga, k * 2 + 1, none⟩ = some (.slice va m vc) ∧ w'.cell? ⟨gb, k * 2, none⟩ = some (.bool rn) ∧ w'.cell? ⟨gb, k * 2 + 1, none⟩ = some (.slice ua m uc)) (first | go_keep | exact ⟨(b1.cell (show ga < wr.drew.heap.size from gaw)).trans c0, (b1.cell (show ga < wr.drew.heap.size from gaw)).trans c1, (b1.cell (show gb < wr.drew.heap.size from gbw)).trans d0, (b1.cell (show gb < wr.drew.heap.size from gbw)).trans d1⟩) ((go_at_call 120; (with_reducible refine Calls.mono CE.out ?_); rintro en w1 ⟨rfl, b1⟩))
      all_goals
        have HW1 := hide (HW.out.drew.trans (b1.mono (show w.heap.size ≤ wr.drew.heap.size from hsz)))
        clear b1 CE HW c0 c1 d0 d1
        go_wp2
        go_roundw
        case rel => exact ⟨k + 1, by omega, by go_num, HW1⟩
        case measure => simp [intOf]; omega
    · go_wp2
      go_ret
      exact ⟨rfl, HW.out⟩
set_option maxHeartbeats 400000 in
set_option maxRecDepth 100000 in
theorem eqAr_same (a b : Value) (rs ss : List Kw) (B1 C1 B2 C2 : Nat) (w : World) (hM : rs.length ≤ 1000000000000000000) (hll : ∀ r ∈ rs, r.2.2.length ≤ 1000000000000000000) (ha : KIn B1 C1 a rs w) (hb : KIn B2 C2 b ss w) (he : rs.map ktell = ss.map ktell) (hC1 : C1 ≤ w.heap.size) (hC2 : C2 ≤ w.heap.size) :
    Calls Tryz.prog 53 #[.agg #[a], .agg #[b]] w fun e w' => e = .returned (.bool true) ∧ Below w.heap.size w w' := by
  obtain ⟨ad, capa, rfl, a3⟩ := ha.1.form
  obtain ⟨bd, capb, rfl, b3⟩ := hb.1.form
  have HB : Hid (Below w.heap.size w ((w.alloc (.cells #[.slice ad rs.length capa] 43)).alloc (.cells #[.slice bd ss.length capb] 43))) := ((Below.refl _ _).alloc (Nat.le_refl _) _).alloc (by simp) _
  have C := hide (eqKns_same _ _ rs ss B1 C1 B2 C2 _ hM hll (KIn.loc _ _ _ _ _ _ (fun i _ hi => HB.out.block i (by omega)) ha) (KIn.loc _ _ _ _ _ _ (fun i _ hi => HB.out.block i (by omega)) hb) he)
  obtain ⟨n, hn⟩ : ∃ n, rs.length = n := ⟨_, rfl⟩
  obtain ⟨m, hm⟩ : ∃ m, ss.length = m := ⟨_, rfl⟩
  rw [hn, hm] at C HB
  rw [hn, hm]
  clear ha hb a3 b3 hll hn hm he hM
  go_enter Tryz.func53, Tryz.ntmps53
  go_wp2_with fail
  refine C.out.mono ?_
  rintro e w1 ⟨rfl, b1⟩
  have HW := hide (HB.out.trans (b1.mono HB.out.size))
  clear b1 C HB
  go_wp2
  go_ret
  exact ⟨rfl, HW.out⟩
end Go.Proofs.YtfmnaidhfgmemaaGreatDoor
