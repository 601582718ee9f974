/-
  SInsI; SLive; SConL
-/
import Derived.Test.YtfmnaidhfgmemaaGreatDoorPk27
import Derived.Test.YtfmnaidhfgmemaaGreatDoorPk28
import Derived.Deep.RegionHeld3
namespace Go.Proofs.YtfmnaidhfgmemaaGreatDoor
open Go.RowKit
open Words
theorem filt_take {L : List Int} {p : Int → Bool} {k : Nat} {y : Int} (h : L[k]? = some y) : (L.take (k + 1)).filter p = (L.take k).filter p ++ (if p y = true then [y] else []) := by
  obtain ⟨h1, h2⟩ := List.getElem?_eq_some_iff.1 h
  rw [List.take_succ_eq_append_getElem h1, h2, List.filter_append, List.filter_cons, List.filter_nil]
set_option maxHeartbeats 1000000 in
set_option maxRecDepth 100000 in
theorem sinsI (ra : Option Addr) (n rc : Nat) (L : List Int) (x : Int) (w : World) (hn : n ≤ 100000000) (h : IRow w ra n L) :
    Calls Tryz.prog 59 #[.slice ra n rc, .int .i64 x] w (IOut w (insI L x)) := by
  obtain ⟨i0, hi, hz0, hz1, hz2⟩ := info_parts infoInt
  have I0 := hide hi
  have Y0 := hide hz0
  have Y1 := hide hz1
  have Y2 := hide hz2
  clear hi hz0 hz1 hz2
  have HNL := hide h.1
  have HR := hide h
  clear h
  obtain ⟨M, hM⟩ : ∃ M, insI L x = M := ⟨_, rfl⟩
  have HM := hide hM
  rw [hM]
  clear hM
  go_enter Tryz.func59, Tryz.ntmps59
  go_wp2_with fail
  have O0 : Hid ((w.alloc (.cells #[] 3)).ownsRow w.heap.size 3 1 (.slice (some ⟨w.heap.size, 0, none⟩) 0 0) ([] : List Int).length (icells [])) := World.ownsRow_made w #[] 0 (Nat.le_refl _) (by unfold maxLen; omega) (by simp)
  have BA : Hid (Below w.heap.size w (w.alloc (.cells #[] 3))) := (Below.refl _ _).alloc (Nat.le_refl _) _
  generalize w.alloc (.cells #[] 3) = wa at O0 BA ⊢
  obtain ⟨z, hz⟩ : ∃ z, w.heap.size = z := ⟨_, rfl⟩
  rw [hz] at O0 ⊢
  have HZW := hide hz
  clear hz
  go_loopw [5, 6] (fun ov kv W => ∃ (k : Nat) (l : List Int), k ≤ n ∧ kv = .int .i64 k ∧ l.length ≤ k ∧ Hid (l = (L.take k).filter (fun y => decide (y < x))) ∧ Hid (W.ownsRow w.heap.size 3 1 ov l.length (icells l) ∧ Below w.heap.size w W)) (fun _ kv _ => n - (intOf kv).toNat)
  case atStart => exact ⟨0, [], Nat.zero_le _, rfl, Nat.zero_le _, by show _ = _; simp, by rw [HZW.out]; exact O0.out, BA.out⟩
  case round =>
    obtain ⟨k, l, hk, rfl, hlk, HL, HO⟩ := hrel
    by_cases hlt : (k : Int) < n
    · have hy := List.getElem?_eq_getElem (show k < L.length by have := HNL.out; omega)
      generalize L[k]'(by have := HNL.out; omega) = y at hy
      obtain ⟨b, off, e, hb, c0⟩ := (HR.out.below HO.out.2).at hy
      subst e
      have k0 : (0 : Int) ≤ k := by omega
      have HF := hide (filt_take (p := fun y => decide (y < x)) hy)
      clear hy
      by_cases hyx : y < x
      · have HL2 : Hid (l ++ [y] = (L.take (k + 1)).filter (fun y => decide (y < x))) := by
          show _ = _
          rw [HF.out, if_pos (by simpa using hyx), HL.out]
        have OW := hide HO.out.1
        have B1 := hide HO.out.2
        have hw := HO.out.2.size
        clear HO
        have BN : Hid (Below wr.heap.size wr (wr.alloc (.cells #[.int .i64 y] 3))) := (Below.refl _ _).alloc (Nat.le_refl _) _
        have OWN := hide (own_below OW.out BN.out)
        go_wp2_with (at_builtin; refine wpList_append_own _ rfl _ _ 54 rfl w.heap.size 3 i0 (.int .i64 0) 1 8 Tryz.underlying54 I0.out Y0.out Y1.out Y2.out rfl (by decide) _ _ _ rfl OWN.out ⟨wr.heap.size, 0, none⟩ 1 1 [Value.int .i64 y] rfl rfl (one_cell _ _ _) (one_i64 _) ?c1 ?c2 ?c3 ?_)
        case c1 => unfold maxLen; omega
        case c2 => omega
        case c3 => have := BN.out.size; omega
        intro u' z2 ho hg _
        rw [icells_snoc] at ho
        have ho2 : z2.ownsRow w.heap.size 3 1 u' (l ++ [y]).length (icells (l ++ [y])) := by rw [List.length_append]; exact ho
        have ON : Hid (z2.ownsRow w.heap.size 3 1 u' (l ++ [y]).length (icells (l ++ [y])) ∧ Below w.heap.size w z2) := ⟨ho2, (B1.out.trans (BN.out.mono hw)).grown hg (by have := BN.out.size; omega) (fun q hq => (OWN.out.lt q hq).1)⟩
        have hl3 : (l ++ [y]).length ≤ k + 1 := by simp; omega
        generalize l ++ [y] = l2 at HL2 ON hl3
        clear ho ho2 hg OWN OW BN B1
        go_wp2
        go_roundw
        case rel => exact ⟨k + 1, l2, by omega, by go_num, hl3, HL2, ON⟩
        case measure => simp [intOf]; omega
      · have HL2 : Hid (l = (L.take (k + 1)).filter (fun y => decide (y < x))) := by
          show _ = _
          rw [HF.out, if_neg (by simpa using hyx), List.append_nil]
          exact HL.out
        go_wp2
        go_roundw
        case rel => exact ⟨k + 1, l, by omega, by go_num, by omega, HL2, HO⟩
        case measure => simp [intOf]; omega
    · have EL : Hid (l = L.filter (fun y => decide (y < x))) := by
        show _ = _
        rw [HL.out, List.take_of_length_le (by have := HNL.out; omega)]
      have hl1 : l.length ≤ n := by omega
      clear HL
      by_cases hx : (0 : Int) < x
      · have HL2 : Hid (l ++ [x] = L.filter (fun y => decide (y < x)) ++ (if 0 < x then [x] else [])) := by
          show _ = _
          rw [EL.out, if_pos hx]
        have OW := hide HO.out.1
        have B1 := hide HO.out.2
        have hw := HO.out.2.size
        clear HO
        have BN : Hid (Below wr.heap.size wr (wr.alloc (.cells #[.int .i64 x] 3))) := (Below.refl _ _).alloc (Nat.le_refl _) _
        have OWN := hide (own_below OW.out BN.out)
        go_wp2_with (at_builtin; refine wpList_append_own _ rfl _ _ 54 rfl w.heap.size 3 i0 (.int .i64 0) 1 8 Tryz.underlying54 I0.out Y0.out Y1.out Y2.out rfl (by decide) _ _ _ rfl OWN.out ⟨wr.heap.size, 0, none⟩ 1 1 [Value.int .i64 x] rfl rfl (one_cell _ _ _) (one_i64 _) ?c1 ?c2 ?c3 ?_)
        case c1 => unfold maxLen; omega
        case c2 => omega
        case c3 => have := BN.out.size; omega
        intro u' z2 ho hg _
        rw [icells_snoc] at ho
        have ho2 : z2.ownsRow w.heap.size 3 1 u' (l ++ [x]).length (icells (l ++ [x])) := by rw [List.length_append]; exact ho
        have ON : Hid (z2.ownsRow w.heap.size 3 1 u' (l ++ [x]).length (icells (l ++ [x])) ∧ Below w.heap.size w z2) := ⟨ho2, (B1.out.trans (BN.out.mono hw)).grown hg (by have := BN.out.size; omega) (fun q hq => (OWN.out.lt q hq).1)⟩
        have hl3 : (l ++ [x]).length ≤ n + 1 := by simp; omega
        generalize l ++ [x] = l2 at HL2 ON hl3
        clear ho ho2 hg OWN OW BN B1
        clear EL
        go_wp2
        obtain ⟨A0, hA⟩ : ∃ A0, L.filter (fun y => decide (y < x)) ++ (if 0 < x then [x] else []) = A0 := ⟨_, rfl⟩
        rw [hA] at HL2
        have HA := hide hA
        clear hA
        go_loopw [5, 7] (fun ov kv W => ∃ (k : Nat) (l : List Int), k ≤ n ∧ kv = .int .i64 k ∧ l.length ≤ n + 1 + k ∧ Hid (l = A0 ++ (L.take k).filter (fun y => decide (x < y))) ∧ Hid (W.ownsRow w.heap.size 3 1 ov l.length (icells l) ∧ Below w.heap.size w W)) (fun _ kv _ => n - (intOf kv).toNat)
        case atStart => exact ⟨0, l2, Nat.zero_le _, rfl, by omega, (by show _ = _; rw [HL2.out]; simp), ON⟩
        case round =>
          obtain ⟨k, l, hk, rfl, hlk, HL, HO⟩ := hrel
          by_cases hlt : (k : Int) < n
          · have hy := List.getElem?_eq_getElem (show k < L.length by have := HNL.out; omega)
            generalize L[k]'(by have := HNL.out; omega) = y at hy
            obtain ⟨b, off, e, hb, c0⟩ := (HR.out.below HO.out.2).at hy
            subst e
            have k0 : (0 : Int) ≤ k := by omega
            have HF := hide (filt_take (p := fun y => decide (x < y)) hy)
            clear hy
            by_cases hyx : x < y
            · have HL2 : Hid (l ++ [y] = A0 ++ (L.take (k + 1)).filter (fun y => decide (x < y))) := by
                show _ = _
                rw [HF.out, if_pos (by simpa using hyx), HL.out]; rw [List.append_assoc]
              have OW := hide HO.out.1
              have B1 := hide HO.out.2
              have hw := HO.out.2.size
              clear HO
              have BN : Hid (Below wr.heap.size wr (wr.alloc (.cells #[.int .i64 y] 3))) := (Below.refl _ _).alloc (Nat.le_refl _) _
              have OWN := hide (own_below OW.out BN.out)
              go_wp2_with (at_builtin; refine wpList_append_own _ rfl _ _ 54 rfl w.heap.size 3 i0 (.int .i64 0) 1 8 Tryz.underlying54 I0.out Y0.out Y1.out Y2.out rfl (by decide) _ _ _ rfl OWN.out ⟨wr.heap.size, 0, none⟩ 1 1 [Value.int .i64 y] rfl rfl (one_cell _ _ _) (one_i64 _) ?c1 ?c2 ?c3 ?_)
              case c1 => unfold maxLen; omega
              case c2 => omega
              case c3 => have := BN.out.size; omega
              intro u' z2 ho hg _
              rw [icells_snoc] at ho
              have ho2 : z2.ownsRow w.heap.size 3 1 u' (l ++ [y]).length (icells (l ++ [y])) := by rw [List.length_append]; exact ho
              have ON : Hid (z2.ownsRow w.heap.size 3 1 u' (l ++ [y]).length (icells (l ++ [y])) ∧ Below w.heap.size w z2) := ⟨ho2, (B1.out.trans (BN.out.mono hw)).grown hg (by have := BN.out.size; omega) (fun q hq => (OWN.out.lt q hq).1)⟩
              have hl3 : (l ++ [y]).length ≤ n + 1 + (k + 1) := by simp; omega
              generalize l ++ [y] = l2 at HL2 ON hl3
              clear ho ho2 hg OWN OW BN B1
              go_wp2
              go_roundw
              case rel => exact ⟨k + 1, l2, by omega, by go_num, hl3, HL2, ON⟩
              case measure => simp [intOf]; omega
            · have HL2 : Hid (l = A0 ++ (L.take (k + 1)).filter (fun y => decide (x < y))) := by
                show _ = _
                rw [HF.out, if_neg (by simpa using hyx), List.append_nil]
                exact HL.out
              go_wp2
              go_roundw
              case rel => exact ⟨k + 1, l, by omega, by go_num, by omega, HL2, HO⟩
              case measure => simp [intOf]; omega
          · have EL : Hid (l = A0 ++ L.filter (fun y => decide (x < y))) := by
              show _ = _
              rw [HL.out, List.take_of_length_le (by have := HNL.out; omega)]
            have EM : Hid (l = M) := by
              show _ = _
              rw [EL.out, ← HM.out, insI, ← HA.out]
            go_wp2
            go_ret
            refine ⟨_, rfl, ?_, HO.out.2⟩
            rw [← EM.out]
            exact HO.out.1
      · have HL2 : Hid (l = L.filter (fun y => decide (y < x)) ++ (if 0 < x then [x] else [])) := by
          show _ = _
          rw [if_neg hx, List.append_nil]
          exact EL.out
        have ON := hide HO.out
        have hl3 : l.length ≤ n + 1 := by omega
        clear HO EL
        go_wp2
        obtain ⟨A0, hA⟩ : ∃ A0, L.filter (fun y => decide (y < x)) ++ (if 0 < x then [x] else []) = A0 := ⟨_, rfl⟩
        rw [hA] at HL2
        have HA := hide hA
        clear hA
        go_loopw [5, 7] (fun ov kv W => ∃ (k : Nat) (l : List Int), k ≤ n ∧ kv = .int .i64 k ∧ l.length ≤ n + 1 + k ∧ Hid (l = A0 ++ (L.take k).filter (fun y => decide (x < y))) ∧ Hid (W.ownsRow w.heap.size 3 1 ov l.length (icells l) ∧ Below w.heap.size w W)) (fun _ kv _ => n - (intOf kv).toNat)
        case atStart => exact ⟨0, l, Nat.zero_le _, rfl, by omega, (by show _ = _; rw [HL2.out]; simp), ON⟩
        case round =>
          obtain ⟨k, l, hk, rfl, hlk, HL, HO⟩ := hrel
          by_cases hlt : (k : Int) < n
          · have hy := List.getElem?_eq_getElem (show k < L.length by have := HNL.out; omega)
            generalize L[k]'(by have := HNL.out; omega) = y at hy
            obtain ⟨b, off, e, hb, c0⟩ := (HR.out.below HO.out.2).at hy
            subst e
            have k0 : (0 : Int) ≤ k := by omega
            have HF := hide (filt_take (p := fun y => decide (x < y)) hy)
            clear hy
            by_cases hyx : x < y
            · have HL2 : Hid (l ++ [y] = A0 ++ (L.take (k + 1)).filter (fun y => decide (x < y))) := by
                show _ = _
                rw [HF.out, if_pos (by simpa using hyx), HL.out]; rw [List.append_assoc]
              have OW := hide HO.out.1
              have B1 := hide HO.out.2
              have hw := HO.out.2.size
              clear HO
              have BN : Hid (Below wr.heap.size wr (wr.alloc (.cells #[.int .i64 y] 3))) := (Below.refl _ _).alloc (Nat.le_refl _) _
              have OWN := hide (own_below OW.out BN.out)
              go_wp2_with (at_builtin; refine wpList_append_own _ rfl _ _ 54 rfl w.heap.size 3 i0 (.int .i64 0) 1 8 Tryz.underlying54 I0.out Y0.out Y1.out Y2.out rfl (by decide) _ _ _ rfl OWN.out ⟨wr.heap.size, 0, none⟩ 1 1 [Value.int .i64 y] rfl rfl (one_cell _ _ _) (one_i64 _) ?c1 ?c2 ?c3 ?_)
              case c1 => unfold maxLen; omega
              case c2 => omega
              case c3 => have := BN.out.size; omega
              intro u' z2 ho hg _
              rw [icells_snoc] at ho
              have ho2 : z2.ownsRow w.heap.size 3 1 u' (l ++ [y]).length (icells (l ++ [y])) := by rw [List.length_append]; exact ho
              have ON : Hid (z2.ownsRow w.heap.size 3 1 u' (l ++ [y]).length (icells (l ++ [y])) ∧ Below w.heap.size w z2) := ⟨ho2, (B1.out.trans (BN.out.mono hw)).grown hg (by have := BN.out.size; omega) (fun q hq => (OWN.out.lt q hq).1)⟩
              have hl3 : (l ++ [y]).length ≤ n + 1 + (k + 1) := by simp; omega
              generalize l ++ [y] = l2 at HL2 ON hl3
              clear ho ho2 hg OWN OW BN B1
              go_wp2
              go_roundw
              case rel => exact ⟨k + 1, l2, by omega, by go_num, hl3, HL2, ON⟩
              case measure => simp [intOf]; omega
            · have HL2 : Hid (l = A0 ++ (L.take (k + 1)).filter (fun y => decide (x < y))) := by
                show _ = _
                rw [HF.out, if_neg (by simpa using hyx), List.append_nil]
                exact HL.out
              go_wp2
              go_roundw
              case rel => exact ⟨k + 1, l, by omega, by go_num, by omega, HL2, HO⟩
              case measure => simp [intOf]; omega
          · have EL : Hid (l = A0 ++ L.filter (fun y => decide (x < y))) := by
              show _ = _
              rw [HL.out, List.take_of_length_le (by have := HNL.out; omega)]
            have EM : Hid (l = M) := by
              show _ = _
              rw [EL.out, ← HM.out, insI, ← HA.out]
            go_wp2
            go_ret
            refine ⟨_, rfl, ?_, HO.out.2⟩
            rw [← EM.out]
            exact HO.out.1
end Go.Proofs.YtfmnaidhfgmemaaGreatDoor

namespace Go.Proofs.YtfmnaidhfgmemaaGreatDoor
open Go.RowKit
open Words
theorem insI_len (l : List Int) (x : Int) : (insI l x).length ≤ l.length + 1 := by
  have key : (l.filter (fun y => decide (y < x))).length + (l.filter (fun y => decide (x < y))).length ≤ l.length := by
    induction l with
    | nil => exact Nat.le_refl _
    | cons v l ih =>
      rw [List.filter_cons, List.filter_cons]
      by_cases h1 : v < x
      · rw [if_pos (by simpa using h1), if_neg (by simp; omega), List.length_cons, List.length_cons]; omega
      · rw [if_neg (by simpa using h1)]
        split
        · rw [List.length_cons, List.length_cons]; omega
        · rw [List.length_cons]; omega
  rw [insI, List.length_append, List.length_append]
  split
  · rw [List.length_singleton]; omega
  · rw [List.length_nil]; omega
def liveK (l : List Kn) (vs : List (Int × Int)) (k : Nat) : List Int := (vs.take k).foldl (fun acc v => (allT l v.2).foldl insI acc) []
theorem liveK_succ {l : List Kn} {vs : List (Int × Int)} {k : Nat} {v : Int × Int} (h : vs[k]? = some v) : liveK l vs (k + 1) = (allT l v.2).foldl insI (liveK l vs k) := by
  obtain ⟨h1, h2⟩ := List.getElem?_eq_some_iff.1 h
  rw [liveK, liveK, List.take_succ_eq_append_getElem h1, h2, List.foldl_append, List.foldl_cons, List.foldl_nil]
theorem fold_take {L : List Int} {acc : List Int} {m : Nat} {x : Int} (h : L[m]? = some x) : (L.take (m + 1)).foldl insI acc = insI ((L.take m).foldl insI acc) x := by
  obtain ⟨h1, h2⟩ := List.getElem?_eq_some_iff.1 h
  rw [List.take_succ_eq_append_getElem h1, h2, List.foldl_append, List.foldl_cons, List.foldl_nil]
def IHas (w W : World) (ov : Value) (l : List Int) : Prop := ∃ oa oc, ov = .slice oa l.length oc ∧ IRow W oa l.length l ∧ W.ownsRow w.heap.size 3 1 ov l.length (icells l) ∧ Below w.heap.size w W
theorem IHas.of {w W : World} {ov : Value} {l : List Int} (h : W.ownsRow w.heap.size 3 1 ov l.length (icells l)) (hm : l.length ≤ maxLen) (hb : Below w.heap.size w W) : IHas w W ov l := by
  obtain ⟨oa, oc, e, -, hr⟩ := ISl.of (Sli.of h) hm (Nat.le_refl _)
  exact ⟨oa, oc, e, hr, h, hb⟩
set_option maxHeartbeats 1000000 in
set_option maxRecDepth 100000 in
theorem slive (va : Option Addr) (vl vc : Nat) (ad : Option Addr) (len cap : Nat) (nx : Int) (vs : List (Int × Int)) (rs : List Kw) (w : World) (hvl : vl ≤ 1048578) (hl : len ≤ 1048578) (h : VlRow w va vl vs) (hk : KnRd w ad len rs) :
    Calls Tryz.prog 35 #[.agg (SBox va vl vc ad len cap nx)] w (IOut w (liveS ⟨vs, rs.map ktell, nx⟩)) := by
  have T0 := hide ((Tk.start w).cell #[.slice va vl vc, .slice ad len cap, .int .i64 nx] 45)
  have HVL := hide h.1
  have HV := hide h
  have HK := hide hk
  clear h hk
  obtain ⟨C, hC⟩ : ∃ C, liveS ⟨vs, rs.map ktell, nx⟩ = C := ⟨_, rfl⟩
  have HC := hide hC
  rw [hC]
  clear hC
  unfold SBox
  go_enter Tryz.func35, Tryz.ntmps35
  go_wp2_with fail
  have HS := hide (show (w.alloc (.cells #[.slice va vl vc, .slice ad len cap, .int .i64 nx] 45)).heap.size = w.heap.size + 1 by simp)
  generalize w.alloc (.cells #[.slice va vl vc, .slice ad len cap, .int .i64 nx] 45) = wb at T0 HS ⊢
  have x0 : wb.cell? ⟨w.heap.size, 0, none⟩ = some (.slice va vl vc) := T0.out.at 0 0 rfl rfl
  have x1 : wb.cell? ⟨w.heap.size, 1, none⟩ = some (.slice ad len cap) := T0.out.at 0 1 rfl rfl
  have XB := hide (World.block_lt_of_cell? wb _ x0)
  have O0 : Hid ((wb.alloc (.cells #[] 3)).ownsRow wb.heap.size 3 1 (.slice (some ⟨wb.heap.size, 0, none⟩) 0 0) ([] : List Int).length (icells [])) := World.ownsRow_made wb #[] 0 (Nat.le_refl _) (by unfold maxLen; omega) (by simp)
  have BA : Hid (Below wb.heap.size wb (wb.alloc (.cells #[] 3))) := (Below.refl _ _).alloc (Nat.le_refl _) _
  have S0 := hide (IHas.of O0.out (by simp) BA.out)
  generalize wb.alloc (.cells #[] 3) = wa at S0 ⊢
  obtain ⟨z, hz⟩ : ∃ z, w.heap.size = z := ⟨_, rfl⟩
  rw [hz] at x0 x1 XB HS ⊢
  have HZW := hide hz
  clear hz O0 BA
  go_loopw [3, 4] (fun ov iv W => ∃ (k : Nat) (l : List Int), k ≤ vl ∧ iv = .int .i64 k ∧ l.length ≤ 16 * k ∧ Hid (l = liveK (rs.map ktell) vs k) ∧ Hid (IHas wb W ov l)) (fun _ iv _ => vl - (intOf iv).toNat)
  case atStart => exact ⟨0, [], Nat.zero_le _, rfl, Nat.zero_le _, (by show _ = _; simp [liveK]), by rw [← HS.out]; exact S0.out⟩
  case round =>
    obtain ⟨k, l, hk, rfl, hlk, HL, HO⟩ := hrel
    obtain ⟨oa, oc, e, hrw, how, hbw⟩ := HO.out
    subst e
    have HW := hide hbw
    have HOW := hide how
    have HRW := hide hrw
    clear hrw how hbw
    have y0 := (HW.out.cell (show z < wb.heap.size from XB.out)).trans x0
    have y1 := (HW.out.cell (show z < wb.heap.size from XB.out)).trans x1
    by_cases hlt : (k : Int) < vl
    · have hv := List.getElem?_eq_getElem (show k < vs.length by have := HVL.out; omega)
      generalize vs[k]'(by have := HVL.out; omega) = v at hv
      obtain ⟨b, off, e, hb, c0, c1⟩ := (((HV.out.below T0.out.1).below HW.out)).at hv
      subst e
      have k0 : (0 : Int) ≤ k := by omega
      have HR : Hid (liveK (rs.map ktell) vs (k + 1) = (allT (rs.map ktell) v.2).foldl insI l) := by
        show _ = _
        rw [liveK_succ hv, HL.out]
      have CG := hide (sall ad len cap rs v.2 wr.drew hl ((HK.out.below T0.out.1).below HW.out.drew))
      have HWD := hide HW.out.drew
      have l0 := World.block_lt_of_cell? wr _ y0
      have l1 := World.block_lt_of_cell? wr _ y1
      have l2 := World.block_lt_of_cell? wr _ c1
      clear hv
      go_wp2
      go_region_held3 (fun w' => w'.cell? ⟨z, 0, none⟩ = some (.slice (some ⟨b, off, none⟩) vl vc) ∧ w'.cell? ⟨z, 1, none⟩ = some (.slice ad len cap) ∧ w'.cell? ⟨b, off + k * 2 + 1, none⟩ = some (.int .i64 v.2)) (first | exact ⟨y0, y1, c1⟩ | exact KY.out) ((go_at_call 44; (with_reducible refine Calls.mono CG.out ?_); rintro en w2 ⟨lv, rfl, o2, b2⟩; have KY : Hid (w2.cell? ⟨z, 0, none⟩ = some (.slice (some ⟨b, off, none⟩) vl vc) ∧ w2.cell? ⟨z, 1, none⟩ = some (.slice ad len cap) ∧ w2.cell? ⟨b, off + k * 2 + 1, none⟩ = some (.int .i64 v.2)) := ⟨(b2.cell l0).trans y0, (b2.cell l1).trans y1, (b2.cell l2).trans c1⟩))
      have bd : Below wr.heap.size wr w2 := ((Below.refl wr.heap.size wr).drew).trans b2
      have B2 := hide (HW.out.trans (bd.mono HW.out.size))
      have S2 : Hid (IHas wb w2 (.slice oa l.length oc) l) := ⟨oa, oc, rfl, HRW.out.below bd, own_below HOW.out bd, B2.out⟩
      obtain ⟨la, lc, e2, -, hrow⟩ := ISl.of (Sli.of o2) (by rw [allT_len]; unfold maxLen; omega) (Nat.le_refl _)
      rw [allT_len] at e2 hrow
      subst e2
      have HROW := hide hrow
      obtain ⟨L, hL⟩ : ∃ L, allT (rs.map ktell) v.2 = L := ⟨_, rfl⟩
      have HLL : Hid (L.length = 16) := by show _ = _; rw [← hL, allT_len]
      rw [hL] at HROW HR
      clear CG y0 y1 c0 c1 l0 l1 l2 HWD HW o2 b2 hrow hL bd KY HRW HOW HO
      go_wp2
      go_loopw [3, 6] (fun ov kv W => ∃ (m : Nat) (q : List Int), m ≤ 16 ∧ kv = .int .i64 m ∧ q.length ≤ 16 * k + m ∧ Hid (q = (L.take m).foldl insI l) ∧ Hid (IHas wb W ov q) ∧ Hid (Below w2.heap.size w2 W)) (fun _ kv _ => 16 - (intOf kv).toNat)
      case atStart => exact ⟨0, l, Nat.zero_le _, rfl, by omega, (by show _ = _; simp), S2, Below.refl _ _⟩
      case round =>
        obtain ⟨m, q, hm, rfl, hq, HQ, HO, HY⟩ := hrel
        obtain ⟨oa2, oc2, e, hrw, how, hbw⟩ := HO.out
        subst e
        by_cases hm16 : (m : Int) < 16
        · have hx := List.getElem?_eq_getElem (show m < L.length by have := HLL.out; omega)
          generalize L[m]'(by have := HLL.out; omega) = x at hx
          obtain ⟨lb, lo, e3, -, d0⟩ := (HROW.out.below HY.out).at hx
          subst e3
          have m0 : (0 : Int) ≤ m := by omega
          have HF := hide (fold_take (acc := l) hx)
          have CI := hide (sinsI oa2 q.length oc2 q x wr (by omega) hrw)
          have HBW := hide hbw
          clear hx hrw how hbw HO
          go_wp2_with fail
          refine CI.out.mono ?_
          rintro e w3 ⟨uv, rfl, o3, b3⟩
          have hlen := insI_len q x
          have HQ2 : Hid (insI q x = (L.take (m + 1)).foldl insI l) := by show _ = _; rw [HF.out, HQ.out]
          have HO2 : Hid (IHas wb w3 uv (insI q x)) := IHas.of (own_lower o3 HBW.out.size) (by unfold maxLen; omega) (HBW.out.trans (b3.mono HBW.out.size))
          have HY2 := hide (HY.out.trans (b3.mono HY.out.size))
          generalize insI q x = q2 at hlen HQ2 HO2
          clear CI b3 o3 HBW HF
          go_wp2
          go_roundw
          case rel => first | exact ⟨m + 1, q2, by omega, by go_num, by omega, HQ2, HO2, HY2⟩ | exact ⟨m + 1, q2, by omega, by go_num, by omega, HQ2, HO2⟩
          case measure => simp [intOf]; omega
        · have HQ2 : Hid (q = liveK (rs.map ktell) vs (k + 1)) := by
            have e : m = 16 := by omega
            have := HQ.out
            rw [e, List.take_of_length_le (by rw [HLL.out]; omega)] at this
            show _ = _
            rw [this, HR.out]
          clear hrw how hbw
          go_wp2
          go_roundw
          case rel => exact ⟨k + 1, q, by omega, by go_num, by omega, HQ2, HO⟩
          case measure => simp [intOf]; omega
    · have E : Hid (l = C) := by
        show _ = _
        rw [HL.out, ← HC.out, liveS, liveK, List.take_of_length_le (by have := HVL.out; omega)]
      have BE : Hid (Below w.heap.size w wr) := T0.out.1.trans (HW.out.mono T0.out.1.size)
      have OE : Hid (wr.ownsRow w.heap.size 3 1 (.slice oa l.length oc) l.length (icells l)) := own_lower HOW.out T0.out.1.size
      go_wp2
      go_ret
      refine ⟨_, rfl, ?_, BE.out⟩
      rw [← E.out]
      exact OE.out
end Go.Proofs.YtfmnaidhfgmemaaGreatDoor

namespace Go.Proofs.YtfmnaidhfgmemaaGreatDoor
open Go.RowKit
open Words
theorem live_foldC : ∀ (l : List Int) (acc : List Int), (l.foldl insI acc).length ≤ acc.length + l.length := by
  intro l
  induction l with
  | nil => intro acc; simp
  | cons x l ih => intro acc; have := ih (insI acc x); have := insI_len acc x; simp only [List.foldl_cons, List.length_cons]; omega
theorem live_vols (kns : List Kn) : ∀ (vs : List (Int × Int)) (acc : List Int), (vs.foldl (fun acc v => (allT kns v.2).foldl insI acc) acc).length ≤ acc.length + 16 * vs.length := by
  intro vs
  induction vs with
  | nil => intro acc; simp
  | cons v vs ih =>
    intro acc
    have := ih ((allT kns v.2).foldl insI acc)
    have := live_foldC (allT kns v.2) acc
    have := allT_len kns v.2
    simp only [List.foldl_cons, List.length_cons]
    omega
theorem live_bound (s : Sto) : (liveS s).length ≤ 16 * s.vols.length := by
  have := live_vols s.kns s.vols []
  simpa [liveS] using this
theorem sliveOf : LiveC 35 := by
  rintro v ⟨vs, kns, nx⟩ w ⟨va, vl, vc, ad, len, cap, rs, rfl, h2, h3, h4, h5, h6, h7, h8⟩
  simp only at h2 h7
  subst h2
  exact slive va vl vc ad len cap nx vs rs w (by omega) (by omega) h7 h8
end Go.Proofs.YtfmnaidhfgmemaaGreatDoor
