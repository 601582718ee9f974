/-
  SGet; SAll; SRoots; VlApp; StApp; LastOp; KnCp; Gate; SCopyS
-/
import Derived.Test.YtfmnaidhfgmemaaGreatDoorSArOk
import Derived.Test.YtfmnaidhfgmemaaGreatDoorPk24
import Derived.Test.YtfmnaidhfgmemaaGreatDoorPk9
import Derived.Test.YtfmnaidhfgmemaaGreatDoorPk0
import Derived.Test.YtfmnaidhfgmemaaGreatDoorPk1
import Derived.Deep.AppendLies
import Derived.Maps.AppendAt
import Derived.Orders
import Derived.OrdersHeld
import Derived.Tactics
import Derived.Deep.RegionHeld
import Derived.Deep.RegionHeld3
import Derived.Deep.DeepCutAuto
import Derived.Laws.AppendOwnNone
namespace Go.Proofs.YtfmnaidhfgmemaaGreatDoor
open Go.RowKit
open Words
theorem KnRd.kids {W : World} {b off len : Nat} {rs : List Kw} (h : KnRd W (some ⟨b, off, none⟩) len rs) {k : Nat} {x : Kn} (hk : (rs.map ktell)[k]? = some x) :
    ∃ ka kc, W.cell? ⟨b, off + k * 2, none⟩ = some (.bool x.leaf) ∧ W.cell? ⟨b, off + k * 2 + 1, none⟩ = some (.slice ka x.kids.length kc) ∧ IRow W ka x.kids.length x.kids := by
  rw [List.getElem?_map] at hk
  obtain ⟨r, hr, rfl⟩ := Option.map_eq_some_iff.1 hk
  obtain ⟨c0, c1⟩ := h.cell hr
  obtain ⟨ka, kc, e, -, kr⟩ := h.2.2.1 r (List.mem_of_getElem? hr)
  exact ⟨ka, kc, c0, by rw [c1, e]; rfl, kr⟩
set_option maxHeartbeats 400000 in
set_option maxRecDepth 100000 in
theorem sget (ad : Option Addr) (len cap : Nat) (rs : List Kw) (r : Int) (s : Nat) (w : World) (hl : len ≤ 1048578) (h : KnRd w ad len rs) (ha : arB (rs.map ktell) = true) (hr : rootB (rs.map ktell) r = true) (hs : s ≤ 15) :
    Calls Tryz.prog 104 #[.agg #[.slice ad len cap], .int .i64 r, .int .i64 s] w fun e w' => e = .returned (.int .i64 (getP (rs.map ktell) r s)) ∧ Below w.heap.size w w' := by
  have bx := box_at w (.slice ad len cap)
  have B0 : Hid (Below w.heap.size w (w.alloc (.cells #[.slice ad len cap] 43))) := (Below.refl _ _).alloc (Nat.le_refl _) _
  have H := hide (h.below B0.out)
  have hlL : (rs.map ktell).length = len := by rw [List.length_map]; exact h.1
  clear h
  by_cases hneg : r < 0
  · have E : Hid (getP (rs.map ktell) r s = 0) := if_pos hneg
    rw [E.out]
    clear E ha hr hlL
    go_enter Tryz.func104, Tryz.ntmps104
    go_wp2
    go_ret
    exact ⟨rfl, B0.out⟩
  · obtain ⟨m, rfl⟩ : ∃ m : Nat, r = (m : Int) := ⟨r.toNat, by omega⟩
    obtain ⟨x, hx, hxl⟩ := rootB_pos hr (by omega)
    have hml : m < len := by have := (List.getElem?_eq_some_iff.1 hx).1; rw [hlL] at this; simpa using this
    obtain ⟨b, off, e, -⟩ := H.out.adr (by omega)
    subst e
    obtain ⟨q, hq⟩ : ∃ q, s / 4 = q := ⟨_, rfl⟩
    obtain ⟨t, ht⟩ : ∃ t, s % 4 = t := ⟨_, rfl⟩
    have hq4 : q < 4 := by omega
    have ht4 : t < 4 := by omega
    have tq : (s : Int).tdiv 4 = (q : Int) := by rw [Int.tdiv_eq_ediv_of_nonneg (by omega)]; omega
    have tt : (s : Int).tmod 4 = (t : Int) := by rw [Int.tmod_eq_emod_of_nonneg (by omega)]; omega
    have tq2 : (s : Int) / 4 = (q : Int) := by omega
    have tt2 : (s : Int) % 4 = (t : Int) := by omega
    have x4 := knB_len (arB_at ha hx)
    obtain ⟨n, hn, hcase⟩ := inner_kid ha hx hxl hq4
    have hka : kidAt (rs.map ktell) (m : Int) q = n := kidAt_some hx hn
    obtain ⟨ka, kc, -, c1, kr⟩ := H.out.kids hx
    rw [x4] at c1 kr
    simp only [Int.toNat_natCast] at c1
    obtain ⟨kb, ko, e, -, kncell⟩ := kr.at hn
    subst e
    have m0 : (0 : Int) ≤ m := by omega
    have mL : (m : Int) < len := by omega
    have q0 : (0 : Int) ≤ q := by omega
    have q4 : (q : Int) < 4 := by omega
    rcases hcase with rfl | ⟨n0, nm, y, hy, hyl, hy4⟩
    · have E : Hid (getP (rs.map ktell) (m : Int) s = 0) := by show _ = _; rw [getP, if_neg hneg, hq, hka, if_pos (by omega)]
      rw [E.out]
      clear E ha hr hlL hq ht hka hn hx kr hneg H x4
      go_enter Tryz.func104, Tryz.ntmps104
      go_wp2
      go_ret
      exact ⟨rfl, B0.out⟩
    · obtain ⟨j, rfl⟩ : ∃ j : Nat, n = (j : Int) := ⟨n.toNat, by omega⟩
      obtain ⟨v, hv, -⟩ := leaf_kid ha hy hyl ht4
      have hkb : kidAt (rs.map ktell) (j : Int) t = v := kidAt_some hy hv
      obtain ⟨la, lc, -, d1, lr⟩ := H.out.kids hy
      rw [hy4] at d1 lr
      simp only [Int.toNat_natCast] at d1
      obtain ⟨lb, lo, e, -, lcell⟩ := lr.at hv
      subst e
      have j0 : (0 : Int) ≤ j := by omega
      have jL : (j : Int) < len := by simp only [Int.toNat_natCast] at nm; omega
      have t0 : (0 : Int) ≤ t := by omega
      have t4 : (t : Int) < 4 := by omega
      have E : Hid (getP (rs.map ktell) (m : Int) s = v) := by show _ = _; rw [getP, if_neg hneg, hq, ht, hka, if_neg (by omega), hkb]
      rw [E.out]
      clear E ha hr hlL hq ht hka hkb hn hx kr lr hneg H x4 hy hv hy4 nm n0
      go_enter Tryz.func104, Tryz.ntmps104
      go_wp2
      go_ret
      exact ⟨rfl, B0.out⟩
set_option maxHeartbeats 400000 in
set_option maxRecDepth 100000 in
theorem sgetAt (ad : Option Addr) (len cap : Nat) (rs : List Kw) (r s : Int) (w : World) (hl : len ≤ 1048578) (h : KnRd w ad len rs) :
    Calls Tryz.prog 70 #[.agg #[.slice ad len cap], .int .i64 r, .int .i64 s] w fun e w' => e = .returned (.int .i64 (getT (rs.map ktell) r s)) ∧ Below w.heap.size w w' := by
  have BX := hide (box_at w (.slice ad len cap))
  have B0 : Hid (Below w.heap.size w (w.alloc (.cells #[.slice ad len cap] 43))) := (Below.refl _ _).alloc (Nat.le_refl _) _
  have H := hide (h.below B0.out)
  have HZ := hide (show w.heap.size < (w.alloc (.cells #[.slice ad len cap] 43)).heap.size by simp)
  clear h
  have bx := BX.out
  go_enter Tryz.func70, Tryz.ntmps70
  go_wp2_with fail
  generalize w.alloc (.cells #[.slice ad len cap] 43) = wb at BX bx B0 H HZ ⊢
  obtain ⟨z, hz⟩ : ∃ z, w.heap.size = z := ⟨_, rfl⟩
  rw [hz] at BX bx HZ ⊢
  refine (sarOk ad len cap rs wb hl H.out).mono ?_
  rintro e w1 ⟨rfl, b1⟩
  have BX1 := hide ((b1.cell (show z < wb.heap.size from HZ.out)).trans BX.out)
  have B1 := hide b1
  clear bx b1
  have bx := BX1.out
  have HF1 : Hid (Below w.heap.size w w1) := B0.out.trans (B1.out.mono B0.out.size)
  cases hA : arB (rs.map ktell) with
  | false =>
    have E : Hid (getT (rs.map ktell) r s = 0) := if_neg (by rw [askB, hA]; simp)
    clear hA
    go_wp2
    go_ret
    exact ⟨congrArg (fun q => Ending.returned (.int .i64 q)) E.out.symm, HF1.out⟩
  | true =>
    have HA := hide hA
    go_wp2_with fail
    refine (sroot ad len cap rs r w1 hl (H.out.below B1.out)).mono ?_
    rintro e w2 ⟨rfl, b2⟩
    have BX2 := hide ((b2.cell (show z < w1.heap.size from Nat.lt_of_lt_of_le HZ.out B1.out.size)).trans BX1.out)
    have B2 := hide (B1.out.trans (b2.mono B1.out.size))
    clear bx b2 hA
    have bx := BX2.out
    have HF2 : Hid (Below w.heap.size w w2) := B0.out.trans (B2.out.mono B0.out.size)
    cases hR : rootB (rs.map ktell) r with
    | false =>
      have E : Hid (getT (rs.map ktell) r s = 0) := if_neg (by rw [askB, hR]; simp)
      clear hR
      go_wp2
      go_ret
      exact ⟨congrArg (fun q => Ending.returned (.int .i64 q)) E.out.symm, HF2.out⟩
    | true =>
      have HR := hide hR
      clear hR
      go_wp2_with fail
      refine (sin_any s 0 15 _).mono ?_
      rintro e w3 ⟨rfl, rfl⟩
      by_cases hin : 0 ≤ s ∧ s ≤ 15
      · have hask : askB (rs.map ktell) r s = true := by rw [askB, HA.out, HR.out, decide_eq_true hin.1, decide_eq_true hin.2]; rfl
        have E : Hid (getT (rs.map ktell) r s = getP (rs.map ktell) r s.toNat) := if_pos hask
        rw [decide_eq_true hin]
        obtain ⟨t, rfl⟩ : ∃ t : Nat, s = (t : Int) := ⟨s.toNat, by omega⟩
        simp only [Int.toNat_natCast] at E
        have ht : t ≤ 15 := by omega
        clear hask hin
        go_wp2_with fail
        refine (sget ad len cap rs r t _ hl (H.out.below B2.out) HA.out HR.out ht).mono ?_
        rintro e w4 ⟨rfl, b4⟩
        have HF := hide (HF2.out.trans (b4.mono HF2.out.size))
        clear b4
        go_wp2
        go_ret
        exact ⟨congrArg (fun q => Ending.returned (.int .i64 q)) E.out.symm, HF.out⟩
      · have E : Hid (getT (rs.map ktell) r s = 0) := if_neg (by
          rw [askB]
          simp only [Bool.and_eq_true, decide_eq_true_eq]
          rintro ⟨-, h1, h2⟩
          exact hin ⟨h1, h2⟩)
        rw [decide_eq_false hin]
        clear hin
        go_wp2
        go_ret
        exact ⟨congrArg (fun q => Ending.returned (.int .i64 q)) E.out.symm, HF2.out⟩
end Go.Proofs.YtfmnaidhfgmemaaGreatDoor

namespace Go.Proofs.YtfmnaidhfgmemaaGreatDoor
open Go.RowKit
open Words
def IOut (w : World) (l : List Int) (e : Ending) (w' : World) : Prop := ∃ v, e = .returned v ∧ w'.ownsRow w.heap.size 3 1 v l.length (icells l) ∧ Below w.heap.size w w'
theorem allT_len (l : List Kn) (r : Int) : (allT l r).length = 16 := by simp [allT]
theorem allT_take (l : List Kn) (r : Int) {k : Nat} (hk : k < 16) : (allT l r).take (k + 1) = (allT l r).take k ++ [getT l r k] := by
  rw [List.take_add_one, allT, List.getElem?_map, List.getElem?_range hk]
  rfl
set_option maxHeartbeats 400000 in
set_option maxRecDepth 100000 in
theorem sall (ad : Option Addr) (len cap : Nat) (rs : List Kw) (r : Int) (w : World) (hl : len ≤ 1048578) (h : KnRd w ad len rs) :
    Calls Tryz.prog 44 #[.agg #[.slice ad len cap], .int .i64 r] w (IOut w (allT (rs.map ktell) r)) := by
  obtain ⟨i0, hi, hz0, hz1, hz2⟩ := info_parts infoInt
  have I0 := hide hi
  have Y0 := hide hz0
  have Y1 := hide hz1
  have Y2 := hide hz2
  clear hi hz0 hz1 hz2
  have BX := hide (box_at w (.slice ad len cap))
  have B0 : Hid (Below w.heap.size w (w.alloc (.cells #[.slice ad len cap] 43))) := (Below.refl _ _).alloc (Nat.le_refl _) _
  have H := hide (h.below B0.out)
  have HZ := hide (show w.heap.size < (w.alloc (.cells #[.slice ad len cap] 43)).heap.size by simp)
  have HS := hide (show (w.alloc (.cells #[.slice ad len cap] 43)).heap.size = w.heap.size + 1 by simp)
  clear h
  obtain ⟨M, hM⟩ : ∃ M, allT (rs.map ktell) r = M := ⟨_, rfl⟩
  have HM := hide hM
  rw [hM]
  clear hM
  go_enter Tryz.func44, Tryz.ntmps44
  go_wp2_with fail
  generalize w.alloc (.cells #[.slice ad len cap] 43) = wb at BX B0 H HZ HS ⊢
  have O0 : Hid ((wb.alloc (.cells #[] 3)).ownsRow wb.heap.size 3 1 (.slice (some ⟨wb.heap.size, 0, none⟩) 0 0) ([] : List Int).length (icells [])) := World.ownsRow_made wb #[] 0 (Nat.le_refl _) (by unfold maxLen; omega) (by simp)
  have BA : Hid (Below wb.heap.size wb (wb.alloc (.cells #[] 3))) := (Below.refl _ _).alloc (Nat.le_refl _) _
  generalize wb.alloc (.cells #[] 3) = wa at O0 BA ⊢
  obtain ⟨z, hz⟩ : ∃ z, w.heap.size = z := ⟨_, rfl⟩
  rw [hz] at BX HZ HS ⊢
  have HZW := hide hz
  clear hz
  go_loopw [5, 6] (fun ov kv W => ∃ (k : Nat) (l : List Int), k ≤ 16 ∧ kv = .int .i64 k ∧ l.length ≤ k ∧ Hid (l = M.take k) ∧ Hid (W.ownsRow wb.heap.size 3 1 ov l.length (icells l) ∧ Below wb.heap.size wb W)) (fun _ kv _ => 16 - (intOf kv).toNat)
  case atStart => exact ⟨0, [], Nat.zero_le _, rfl, Nat.zero_le _, by show _ = _; simp, by rw [← HS.out]; exact O0.out, BA.out⟩
  case round =>
    obtain ⟨k, l, hk, rfl, hlk, HL, HO⟩ := hrel
    have bx := (HO.out.2.cell (show z < wb.heap.size from HZ.out)).trans BX.out
    by_cases hlt : (k : Int) < 16
    · have hw := HO.out.2.size
      go_wp2_with fail
      refine (sgetAt ad len cap rs r (k : Int) _ hl (H.out.below HO.out.2)).mono ?_
      rintro e w1 ⟨rfl, b1⟩
      have HL2 : Hid (l ++ [getT (rs.map ktell) r (k : Int)] = M.take (k + 1)) := by
        show _ = _
        rw [← HM.out, allT_take _ _ (by omega), HM.out, HL.out]
      generalize getT (rs.map ktell) r (k : Int) = y at HL2 ⊢
      have OW := hide (own_below HO.out.1 b1)
      have B1 := hide (HO.out.2.trans (b1.mono hw))
      have hw1 := B1.out.size
      clear b1 bx HO HL
      have BN : Hid (Below w1.heap.size w1 (w1.alloc (.cells #[.int .i64 y] 3))) := (Below.refl _ _).alloc (Nat.le_refl _) _
      have OWN := hide (own_below OW.out BN.out)
      go_wp2_with (at_builtin; refine wpList_append_own _ rfl _ _ 54 rfl wb.heap.size 3 i0 (.int .i64 0) 1 8 Tryz.underlying54 I0.out Y0.out Y1.out Y2.out rfl (by decide) _ _ _ rfl OWN.out ⟨w1.heap.size, 0, none⟩ 1 1 [Value.int .i64 y] rfl rfl (one_cell _ _ _) (one_i64 _) ?c1 ?c2 ?c3 ?_)
      case c1 => unfold maxLen; omega
      case c2 => omega
      case c3 => have := BN.out.size; omega
      intro u' z2 ho hg _
      rw [icells_snoc] at ho
      have ho2 : z2.ownsRow wb.heap.size 3 1 u' (l ++ [y]).length (icells (l ++ [y])) := by rw [List.length_append]; exact ho
      have ON : Hid (z2.ownsRow wb.heap.size 3 1 u' (l ++ [y]).length (icells (l ++ [y])) ∧ Below wb.heap.size wb z2) := ⟨ho2, (B1.out.trans (BN.out.mono hw1)).grown hg (by have := BN.out.size; omega) (fun q hq => (OWN.out.lt q hq).1)⟩
      have hl3 : (l ++ [y]).length ≤ k + 1 := by simp; omega
      generalize l ++ [y] = l2 at HL2 ON hl3
      clear ho ho2 hg OWN OW BN B1
      go_wp2
      go_roundw
      case rel => exact ⟨k + 1, l2, by omega, by go_num, hl3, HL2, ON⟩
      case measure => simp [intOf]; omega
    · have EL : Hid (l = M) := by
        show _ = _
        rw [HL.out, show k = M.length by rw [← HM.out, allT_len]; omega, List.take_length]
      have HF : Hid (Below w.heap.size w wr) := B0.out.trans (HO.out.2.mono B0.out.size)
      go_wp2
      go_ret
      refine ⟨_, rfl, ?_, HF.out⟩
      rw [← EL.out]
      exact own_lower HO.out.1 B0.out.size
end Go.Proofs.YtfmnaidhfgmemaaGreatDoor

namespace Go.Proofs.YtfmnaidhfgmemaaGreatDoor
open Go.RowKit
open Words
theorem infoSto : (Tryz.prog.info? 45).map (·.size) = some 3 := by kernel_rfl
abbrev SBox (va : Option Addr) (vl vc : Nat) (ad : Option Addr) (len cap : Nat) (nx : Int) : Array Value := #[.slice va vl vc, .slice ad len cap, .int .i64 nx]
end Go.Proofs.YtfmnaidhfgmemaaGreatDoor

namespace Go.Proofs.YtfmnaidhfgmemaaGreatDoor
open Go.RowKit
open Words
def VlSl (W : World) (v : Value) (ls : List (Int × Int)) : Prop := ∃ a c, v = .slice a ls.length c ∧ (a = none → c = 0) ∧ VlRow W a ls.length ls
theorem VlSl.of {lo hi : Nat} {v : Value} {ls : List (Int × Int)} {W : World} (h : Sli 97 lo hi v ls.length (vlcells ls) W) (hm : ls.length ≤ maxLen) (hh : hi ≤ W.heap.size) : VlSl W v ls := by
  rcases h with ⟨rfl, h0⟩ | ⟨g, cap, rfl, h1, h2, h3⟩
  · exact ⟨none, 0, by rw [h0], fun _ => rfl, rfl, hm, by simp, fun h => by omega⟩
  · refine ⟨_, _, rfl, (fun e => by cases e), rfl, hm, by simp, fun _ => ⟨g, 0, rfl, by omega, fun i t hi => ?_⟩⟩
    have hc := fun j v hj => h3.cell (vlcells_at ls i t hi j v hj)
    refine ⟨?_, ?_⟩
    · simpa using hc 0 _ rfl
    · simpa using hc 1 _ rfl
end Go.Proofs.YtfmnaidhfgmemaaGreatDoor

namespace Go.Proofs.YtfmnaidhfgmemaaGreatDoor
open Go.RowKit
theorem step_append_own {P : Program} (w : World) {ops : Array Oper} {o : Oper} {a : Act} {K : Act → World → Prop} {Q : Exit → Act → World → Prop} {E : Prop} (hgd : o.guard = none) (s x : Operand) (t : TypeId)
    (ho : o.op = .call { callee := .builtin .append, args := #[s, x], argTypes := #[t, t] })
    (base : Nat) (e : TypeId) (i : TypeInfo) (z : Value) (size bytes : Nat) (ht : P.underlying t = some (.slice e)) (hi : P.info? e = some i) (hz : i.zero = some z)
    (hsize : i.size = size) (hby : i.bytes = bytes) (hzs : z.cells.size = size) (hsz : 0 < size)
    (v : Value) (n : Nat) (xs : List Value) (hs : a.eval s = v) (hown : w.ownsRow base e size v n xs)
    (ad : Addr) (m c : Nat) (news : List Value) (hx : a.eval x = .slice (some ad) m c) (hl : news.length = m * size) (hnews : ∀ j u, news[j]? = some u → w.cell? (ad.add j) = some u) (h1 : ∀ u ∈ news, u.oneCell' = true)
    (h63 : n + m ≤ maxLen) (hbytes : (n + m) * bytes ≤ 140737488355328) (hbase : base ≤ w.heap.size)
    (h : ∀ v' w', w'.ownsRow base e size v' (n + m) (xs ++ news) → w.grownBy w' v.ownBlock → K (a.put o.dst v') w') :
    if Region.wanted o (yielded ops a.tmps) = true then Oper.wp P o a w K Q else E := by
  have hw : Region.wanted o (yielded ops a.tmps) = true := by simp [Region.wanted, hgd]
  rw [if_pos hw]
  obtain ⟨v', w', hr, h2, h3, _, _⟩ := run_append_own_at (P := P) w base t o.type e i z size bytes ht hi hz hsize hby hzs hsz v n xs hown ad m c news hl hnews h1 h63 hbytes hbase
  unfold Oper.wp execOp
  simp only [ho, resolve, invoke, builtin, Sem.run_bind, Sem.run_pure, Result.andThen_ok, List.map_toArray, List.map_cons, List.map_nil, hs, hx, hr]
  exact h v' w' h2 h3
end Go.Proofs.YtfmnaidhfgmemaaGreatDoor

namespace Go.Proofs.YtfmnaidhfgmemaaGreatDoor
open Go Go.RowKit
theorem takeL {P : Program} {l : List Oper} {Q : Exit → Act → World → Prop} {S : World → Prop} (i : Nat) {oi : Oper} {rest : List Oper} {v : Value} {fuel : Nat} {listed : Array Bool} {a : Act} {w : World} (hd : l.drop i = oi :: rest)
    (hs : Region.noSelect l.toArray = true) (hf : Region.free .any l.toArray listed i = true) (hr : (Region.ready .any l.toArray listed).contains i = true)
    (hQ : ∀ c a w, Q (.panic c) (a.put oi.dst v) w → Q (.panic c) a w) (hg : Region.wanted oi (yielded l.toArray a.tmps) = true) (hS : S w) (hy : ∀ w, S w → (execOp a.eval oi).run P w = .ok (.value v) w)
    (h : wpAnyH P .any l.toArray Q S fuel (listed.setIfInBounds i true) (a.put oi.dst v) w) : wpAnyH P .any l.toArray Q S (fuel + 1) listed a w := by
  have hi : l.toArray[i]? = some oi := by
    have : l[i]? = (l.drop i)[0]? := by simp
    rw [List.getElem?_toArray, this, hd]
    rfl
  exact wpAnyH_take hi hs hf hr hQ (Or.inl ⟨hg, hy⟩) hS h
theorem oneL {P : Program} {l : List Oper} {Q : Exit → Act → World → Prop} {S : World → Prop} (i : Nat) {oi : Oper} {rest : List Oper} {fuel : Nat} {listed : Array Bool} {a : Act} {w : World} (hd : l.drop i = oi :: rest) (hr : Region.ready .any l.toArray listed = [i])
    (h : ∀ K' : Act → World → Prop, Shut (∀ a w, S w → (S w → wpAnyH P .any l.toArray Q S fuel (listed.setIfInBounds i true) a w) → K' a w) → if Region.wanted oi (yielded l.toArray a.tmps) = true then Oper.wp P oi a w K' Q else K' (a.put oi.dst undef) w) :
    wpAnyH P .any l.toArray Q S (fuel + 1) listed a w := by
  have hi : l.toArray[i]? = some oi := by
    have : l[i]? = (l.drop i)[0]? := by simp
    rw [List.getElem?_toArray, this, hd]
    rfl
  exact wpAnyH_ready hr (by simp) (AllReadyH.cons hi h AllReadyH.nil)
end Go.Proofs.YtfmnaidhfgmemaaGreatDoor

namespace Go.Proofs.YtfmnaidhfgmemaaGreatDoor
open Go.RowKit
open Words
end Go.Proofs.YtfmnaidhfgmemaaGreatDoor

namespace Go.Proofs.YtfmnaidhfgmemaaGreatDoor
open Go Go.RowKit
theorem wp_region_ops {P : Program} {id : Nat} {l : List Oper} {Q : Exit → Act → World → Prop} (S : World → Prop) {a : Act} {w : World} (hm : P.follows .mixedOrders = true) (hS : S w.drew)
    (hh : S w.drew → wpAnyH P .any l.toArray Q S l.length (Array.replicate l.length false) a w.drew) : (Code.region id l.toArray true).wp P Q a w := by
  refine wp_region_any hm ?_
  have e2 : l.toArray.size = l.length := by simp
  rw [e2]
  exact wpAny_of_held _ _ _ _ (hh hS)
theorem doneL {P : Program} {l : List Oper} {Q : Exit → Act → World → Prop} {S : World → Prop} {fuel : Nat} {listed : Array Bool} {a : Act} {w : World} (hr : Region.ready .any l.toArray listed = []) (h : Q .normal a w) : wpAnyH P .any l.toArray Q S fuel listed a w := wpAnyH_done hr h fuel
end Go.Proofs.YtfmnaidhfgmemaaGreatDoor

namespace Go.Proofs.YtfmnaidhfgmemaaGreatDoor
open Go.RowKit
open Words
def StOut (w : World) (s : Sto) (v : Value) (w' : World) : Prop :=
  ∃ vv kv lo1 hi1 lo2 hi2, v = .agg #[vv, kv, .int .i64 s.next] ∧ Sli 97 lo1 hi1 vv s.vols.length (vlcells s.vols) w' ∧ Kns lo2 hi2 kv s.kns w' ∧ w.heap.size ≤ lo1 ∧ hi1 ≤ w'.heap.size ∧ w.heap.size ≤ lo2 ∧ hi2 ≤ w'.heap.size ∧ (hi1 ≤ lo2 ∨ hi2 ≤ lo1) ∧ Below w.heap.size w w'
end Go.Proofs.YtfmnaidhfgmemaaGreatDoor
