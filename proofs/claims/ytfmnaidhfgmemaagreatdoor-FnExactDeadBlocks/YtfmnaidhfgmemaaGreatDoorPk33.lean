/-
  IChunk; ILive
-/
import Derived.Test.YtfmnaidhfgmemaaGreatDoorPk28
import Derived.Test.YtfmnaidhfgmemaaGreatDoorPk32
import Derived.Test.YtfmnaidhfgmemaaGreatDoorShelf
namespace Go.Proofs.YtfmnaidhfgmemaaGreatDoor
open Go.RowKit
open Words
def chunksK (l : List Kn) (vs : List (Int × Int)) (k : Nat) : List Int := ((vs.take k).flatMap (fun v => allT l v.2)).filter (fun y => decide (1 ≤ y))
theorem chunksK_succ {l : List Kn} {vs : List (Int × Int)} {k : Nat} {v : Int × Int} (h : vs[k]? = some v) : chunksK l vs (k + 1) = chunksK l vs k ++ (allT l v.2).filter (fun y => decide (1 ≤ y)) := by
  obtain ⟨h1, h2⟩ := List.getElem?_eq_some_iff.1 h
  rw [chunksK, chunksK, List.take_succ_eq_append_getElem h1, h2, List.flatMap_append, List.filter_append]
  simp
theorem filter_takeC {L : List Int} {x : Int} {m : Nat} (h : L[m]? = some x) : (L.take (m + 1)).filter (fun y => decide (1 ≤ y)) = (L.take m).filter (fun y => decide (1 ≤ y)) ++ (if 1 ≤ x then [x] else []) := by
  obtain ⟨h1, h2⟩ := List.getElem?_eq_some_iff.1 h
  rw [List.take_succ_eq_append_getElem h1, h2, List.filter_append, List.filter_cons, List.filter_nil]
  by_cases hx : 1 ≤ x <;> simp [hx]
def CkSt (w W : World) (z : Nat) (vv kv nv cv : Value) (l : List Int) : Prop := W.cell? ⟨z, 0, none⟩ = some vv ∧ W.cell? ⟨z, 1, none⟩ = some kv ∧ W.cell? ⟨z, 2, none⟩ = some nv ∧ W.ownsRow (w.heap.size + 1) 3 1 cv l.length (icells l) ∧ Below w.heap.size w W
theorem CkSt.below {w W W' : World} {z : Nat} {vv kv nv cv : Value} {l : List Int} (h : CkSt w W z vv kv nv cv l) (hb : Below W.heap.size W W') : CkSt w W' z vv kv nv cv l :=
  ⟨(hb.cell (World.block_lt_of_cell? W _ h.1)).trans h.1, (hb.cell (World.block_lt_of_cell? W _ h.2.1)).trans h.2.1, (hb.cell (World.block_lt_of_cell? W _ h.2.2.1)).trans h.2.2.1, own_below h.2.2.2.1 hb, h.2.2.2.2.trans (hb.mono h.2.2.2.2.size)⟩
theorem CkSt.snoc {w W y : World} {z : Nat} {vv kv nv cv u : Value} {l : List Int} {n : Int} (hz : z = w.heap.size) (h : CkSt w W z vv kv nv cv l) (ho : y.ownsRow (w.heap.size + 1) 3 1 u (l.length + 1) (icells l ++ [.int .i64 n])) (hg : (W.alloc (.cells #[.int .i64 n] 3)).grownBy y cv.ownBlock) : CkSt w y z vv kv nv u (l ++ [n]) := by
  have h1 := h.below ((Below.refl _ _).alloc (Nat.le_refl _) (.cells #[.int .i64 n] 3))
  have lt : ∀ q, cv.ownBlock = some q → w.heap.size + 1 ≤ q := fun q hq => (h1.2.2.2.1.lt q hq).1
  have b := h1.2.2.2.2.grown hg h1.2.2.2.2.size (fun q hq => by have := lt q hq; omega)
  have c : ∀ k v, (W.alloc (.cells #[.int .i64 n] 3)).cell? ⟨z, k, none⟩ = some v → y.cell? ⟨z, k, none⟩ = some v := fun k v hv => by
    have hl := World.block_lt_of_cell? _ _ hv
    have hb := hg.block z hl (fun e => by have := lt z e.symm; omega)
    unfold World.cell? at hv ⊢
    simp only at hb hv ⊢
    rw [hb]
    exact hv
  rw [icells_snoc] at ho
  exact ⟨c 0 _ h1.1, c 1 _ h1.2.1, c 2 _ h1.2.2.1, by rw [List.length_append]; exact ho, b⟩
def CkIn (w W : World) (z : Nat) (vv kv nv cv : Value) (l : List Int) (ag : Nat) (L : List Int) : Prop := CkSt w W z vv kv nv cv l ∧ (∀ (k : Nat) (x : Int), L[k]? = some x → W.cell? ⟨ag, k, none⟩ = some (.int .i64 x)) ∧ cv.ownBlock ≠ some ag ∧ ag < W.heap.size
theorem CkIn.snoc {w W y : World} {z ag : Nat} {vv kv nv cv u : Value} {l L : List Int} {n : Int} (hz : z = w.heap.size) (h : CkIn w W z vv kv nv cv l ag L) (ho : y.ownsRow (w.heap.size + 1) 3 1 u (l.length + 1) (icells l ++ [.int .i64 n])) (hg : (W.alloc (.cells #[.int .i64 n] 3)).grownBy y cv.ownBlock) (hu : u.ownBlock = cv.ownBlock ∨ u.ownBlock = some (W.heap.size + 1)) : CkIn w y z vv kv nv u (l ++ [n]) ag L := by
  obtain ⟨h1, h2, h3, h4⟩ := h
  have hz2 : (W.alloc (.cells #[.int .i64 n] 3)).heap.size = W.heap.size + 1 := by simp
  have hs := hg.size
  have hb : y.heap[ag]? = W.heap[ag]? := (hg.block ag (by omega) (fun e => h3 e.symm)).trans (((Below.refl _ _).alloc (Nat.le_refl _) (.cells #[.int .i64 n] 3)).block ag h4)
  refine ⟨h1.snoc hz ho hg, fun k x hk => ?_, ?_, by omega⟩
  · have := h2 k x hk
    unfold World.cell? at this ⊢
    simp only at hb this ⊢
    rw [hb]
    exact this
  · rcases hu with e | e
    · rw [e]; exact h3
    · rw [e]
      intro q
      injection q with q
      omega
set_option maxHeartbeats 1000000 in
set_option maxRecDepth 100000 in
theorem ichunksOf (va : Option Addr) (vl vc : Nat) (ad : Option Addr) (len cap : Nat) (nx : Int) (vs : List (Int × Int)) (rs : List Kw) (w : World) (hvl : vl ≤ 1048576) (hl : len ≤ 1048576) (h : VlRow w va vl vs) (hk : KnRd w ad len rs) :
    Calls Tryz.prog 151 #[.agg (SBox va vl vc ad len cap nx)] w (IOut w (chunksS ⟨vs, rs.map ktell, nx⟩)) := by
  have BX := hide (sbox_at w (.slice va vl vc) (.slice ad len cap) (.int .i64 nx))
  have B0 : Hid (Below w.heap.size w (w.alloc (.cells #[.slice va vl vc, .slice ad len cap, .int .i64 nx] 45))) := (Below.refl _ _).alloc (Nat.le_refl _) _
  have HV := hide h
  have HVL := hide h.1
  have HK := hide hk
  obtain ⟨i0, hi, hz0, hz1, hz2⟩ := info_parts infoInt
  have I0 := hide hi
  have Y0 := hide hz0
  have Y1 := hide hz1
  have Y2 := hide hz2
  clear h hk hi hz0 hz1 hz2
  unfold SBox
  go_enter Tryz.func151, Tryz.ntmps151
  go_wp2_with fail
  generalize w.alloc (.cells #[.slice va vl vc, .slice ad len cap, .int .i64 nx] 45) = wb at BX B0 ⊢
  obtain ⟨z, hz⟩ : ∃ z, w.heap.size = z := ⟨_, rfl⟩
  rw [hz] at BX ⊢
  have HZW := hide hz
  clear hz
  have S0 : Hid (CkSt w wb z (.slice va vl vc) (.slice ad len cap) (.int .i64 nx) (.slice none 0 0) []) := ⟨BX.out.1, BX.out.2.1, BX.out.2.2, World.ownsRow_nil _ _ _ _, B0.out⟩
  go_loopw [3, 11] (fun cv kv W => ∃ (k : Nat) (l : List Int), k ≤ vl ∧ kv = .int .i64 k ∧ l.length ≤ 16 * k ∧ Hid (l = chunksK (rs.map ktell) vs k) ∧ Hid (CkSt w W z (.slice va vl vc) (.slice ad len cap) (.int .i64 nx) cv l)) (fun _ kv _ => vl - (intOf kv).toNat)
  case atStart => exact ⟨0, [], Nat.zero_le _, rfl, Nat.le_refl _, (rfl : [] = chunksK (rs.map ktell) vs 0), S0⟩
  case round =>
    obtain ⟨k, l, hkv, rfl, hll, HL, HS⟩ := hrel
    clear S0
    by_cases hlt : (k : Int) < vl
    · obtain ⟨v, hv⟩ : ∃ v, vs[k]? = some v := ⟨_, List.getElem?_eq_getElem (by have := HVL.out; omega)⟩
      obtain ⟨b, off, e, hb, c0, c1⟩ := (HV.out.below HS.out.2.2.2.2).at hv
      subst e
      have k0 : (0 : Int) ≤ k := by omega
      have HKS := hide (chunksK_succ (l := rs.map ktell) hv)
      obtain ⟨y0, y1⟩ := v
      simp only at c0 c1 HKS
      have S1 := hide (HS.out.below ((Below.refl _ _).alloc (Nat.le_refl _) (.cells #[.int .i64 y0, .int .i64 y1] 97)))
      have d1 := cell_of_row _ _ 1 _ _ _ (heap_alloc_new wr (.cells #[.int .i64 y0, .int .i64 y1] 97))
      have d1' : (wr.alloc (.cells #[.int .i64 y0, .int .i64 y1] 97)).cell? ⟨wr.heap.size, 1, none⟩ = some (.int .i64 y1) := d1
      obtain ⟨x0, x1, x2, -, -⟩ := S1.out
      obtain ⟨X0, X1, X2, -, -⟩ := HS.out
      have CA := hide (iallAt ad len cap rs y1 (wr.alloc (.cells #[.int .i64 y0, .int .i64 y1] 97)) (by omega) (HK.out.below S1.out.2.2.2.2))
      have hal : (allT (rs.map ktell) y1).length = 16 := allT_len _ _
      obtain ⟨L, hL⟩ : ∃ L, allT (rs.map ktell) y1 = L := ⟨_, rfl⟩
      rw [hL] at CA hal HKS
      clear hv hL d1
      go_wp2_with fail
      refine CA.out.mono ?_
      rintro e w2 ⟨av, rfl, ao, b2⟩
      have S2 := hide (S1.out.below b2)
      obtain ⟨aa, ac, rfl, har⟩ := (Sli.of ao).form
      obtain ⟨ag, rfl, har1, har2⟩ := har (by omega)
      have S3 : Hid (CkIn w w2 z (.slice (some ⟨b, off, none⟩) vl vc) (.slice ad len cap) (.int .i64 nx) u3 l ag L) := by
        refine ⟨S2.out, fun k x hk => ?_, fun e => ?_, har2⟩
        · rw [← addr_at]
          exact ao.cells (g := ag) rfl k _ (icells_get hk)
        · have := (S1.out.2.2.2.1.lt ag e).2
          omega
      rw [hal]
      have HAL := hide hal
      clear ao b2 har CA S1 S2 x0 x1 x2 X0 X1 X2 HS d1' hal har1 har2
      go_wp2_with fail
      go_loopw [3, 21] (fun cv jv W => ∃ (j : Nat) (l2 : List Int), j ≤ 16 ∧ jv = .int .i64 j ∧ l2.length ≤ 16 * k + j ∧ Hid (l2 = l ++ (L.take j).filter (fun y => decide (1 ≤ y))) ∧ Hid (CkIn w W z (.slice (some ⟨b, off, none⟩) vl vc) (.slice ad len cap) (.int .i64 nx) cv l2 ag L)) (fun _ jv _ => 16 - (intOf jv).toNat)
      case atStart => exact ⟨0, l, Nat.zero_le _, rfl, by omega, (by simp : l = l ++ (L.take 0).filter _), S3⟩
      case round =>
        obtain ⟨j, l2, hj, rfl, hl2, HL2, HS2⟩ := hrel
        clear S3
        by_cases hjl : (j : Int) < 16
        · obtain ⟨x, hx⟩ : ∃ x, L[j]? = some x := ⟨_, List.getElem?_eq_getElem (by have := HAL.out; omega)⟩
          have cx := HS2.out.2.1 j x hx
          have FT := hide (filter_takeC hx)
          have j0 : (0 : Int) ≤ j := by omega
          clear hx
          by_cases h1x : 1 ≤ x
          · have HL3 : Hid (l2 ++ [x] = l ++ (L.take (j + 1)).filter (fun y => decide (1 ≤ y))) := by
              show _ = _
              rw [FT.out, if_pos h1x, ← List.append_assoc, ← HL2.out]
            have OW := hide (own_below HS2.out.1.2.2.2.1 ((Below.refl _ _).alloc (Nat.le_refl _) (.cells #[.int .i64 x] 3)))
            have HSZ : Hid (w.heap.size + 1 ≤ (wr.alloc (.cells #[.int .i64 x] 3)).heap.size) := by
              have := HS2.out.1.2.2.2.2.size
              show _ ≤ _
              simp
              omega
            go_wp2_with (at_builtin; refine wpList_append_own_at _ rfl _ _ 54 rfl (w.heap.size + 1) 3 i0 (.int .i64 0) 1 8 Tryz.underlying54 I0.out Y0.out Y1.out Y2.out rfl (by decide) _ _ _ rfl OW.out ⟨wr.heap.size, 0, none⟩ 1 1 [Value.int .i64 x] rfl rfl (one_cell _ _ _) (one_i64 _) ?c1 ?c2 ?c3 ?_)
            case c1 => unfold maxLen; omega
            case c2 => omega
            case c3 => exact HSZ.out
            intro u' y ho hg _ hu
            have NX := hide (HS2.out.snoc HZW.out.symm ho hg hu)
            have hl3 : (l2 ++ [x]).length ≤ 16 * k + (j + 1) := by simp; omega
            generalize l2 ++ [x] = l3 at HL3 NX hl3
            clear ho hg hu HS2 OW HSZ
            go_wp2
            go_roundw
            case rel => exact ⟨j + 1, l3, by omega, by go_num, hl3, HL3, NX⟩
            case measure => simp [intOf]; omega
          · have HL3 : Hid (l2 = l ++ (L.take (j + 1)).filter (fun y => decide (1 ≤ y))) := by
              show _ = _
              rw [FT.out, if_neg h1x, List.append_nil, ← HL2.out]
            go_wp2
            go_roundw
            case rel => exact ⟨j + 1, l2, by omega, by go_num, by omega, HL3, HS2⟩
            case measure => simp [intOf]; omega
        · have HL3 : Hid (l2 = chunksK (rs.map ktell) vs (k + 1)) := by
            show _ = _
            rw [HKS.out, ← HL.out, HL2.out, List.take_of_length_le (by have := HAL.out; omega)]
          have HS3 := hide HS2.out.1
          go_wp2
          go_roundw
          case rel => exact ⟨k + 1, l2, by omega, by go_num, by omega, HL3, HS3⟩
          case measure => simp [intOf]; omega
    · have HE : Hid (l = chunksS ⟨vs, rs.map ktell, nx⟩) := by
        show _ = _
        rw [HL.out, chunksK, List.take_of_length_le (by have := HVL.out; omega)]
        rfl
      have FIN : Hid (wr.ownsRow w.heap.size 3 1 u3 (chunksS ⟨vs, rs.map ktell, nx⟩).length (icells (chunksS ⟨vs, rs.map ktell, nx⟩)) ∧ Below w.heap.size w wr) := by
        rw [← HE.out]
        exact ⟨own_lower HS.out.2.2.2.1 (by omega), HS.out.2.2.2.2⟩
      go_wp2
      go_ret
      exact ⟨_, rfl, FIN.out.1, FIN.out.2⟩
end Go.Proofs.YtfmnaidhfgmemaaGreatDoor

namespace Go.Proofs.YtfmnaidhfgmemaaGreatDoor
open Go.RowKit Go.Shelf Go.Lib Go.Sort
open Words
theorem int_holds {W : World} {g : Nat} {l : List Int} {cur : Array Value} (hb : W.heap[g]? = some (.cells cur 3 (0, 0))) (h4 : cur.toList.take l.length = icells l) : Holds (Value.int .i64) W g 0 l.toArray := by
  intro j hj
  have hj' : j < l.length := by simpa using hj
  refine ⟨?_, frozen_of_row _ _ _ _ _ hb⟩
  rw [Nat.zero_add, cell_of_row _ _ j _ _ _ hb]
  have e1 : (cur.toList.take l.length)[j]? = (icells l)[j]? := by rw [h4]
  rw [List.getElem?_take_of_lt hj', Array.getElem?_toList] at e1
  rw [e1, icells_at l j hj', getElem!_pos _ j hj]
  simp
theorem put_take {cur : Array Value} {l : List Int} {n : Nat} (hn : n ≤ l.length) (hc : l.length ≤ cur.size) : (putCells (Value.int .i64) 0 l.toArray cur).toList.take n = icells (l.take n) := by
  apply List.ext_getElem?
  intro j
  by_cases hj : j < n
  · rw [List.getElem?_take_of_lt hj, Array.getElem?_toList]
    simp only [putCells, Array.getElem?_mapIdx, Nat.zero_le, true_and, Nat.zero_add, Nat.sub_zero]
    rw [Array.getElem?_eq_getElem (show j < cur.size by omega)]
    have hj2 : j < l.toArray.size := by simp; omega
    simp only [Option.map_some, hj2, if_true]
    rw [getElem!_pos _ j hj2]
    have e := List.getElem?_eq_getElem (show j < (l.take n).length by rw [List.length_take]; omega)
    rw [icells_get e]
    simp
  · rw [List.getElem?_eq_none (by rw [List.length_take]; omega), List.getElem?_eq_none (by simp [icells]; omega)]
theorem put_block {W : World} {g m : Nat} {cur : Array Value} {d : Array Int} (hb : W.heap[g]? = some (.cells cur 3 (0, 0))) : (putRow (Value.int .i64) (Sort.ahead W m) g 0 d).heap[g]? = some (.cells (putCells (Value.int .i64) 0 d cur) 3 (0, 0)) := by
  simp [putRow, mapBlock, Sort.ahead, Array.getElem?_modify, hb, onCells]
theorem put_grown (W : World) (g m : Nat) (d : Array Int) (os : Array Obj) : W.grownBy (grow (putRow (Value.int .i64) (Sort.ahead W m) g 0 d) os) (some g) := by
  refine ⟨rfl, rfl, rfl, by simp [putRow, mapBlock, Sort.ahead, grow], fun k hk hne => ?_⟩
  rw [heap_grow_old _ _ (by simpa [putRow, mapBlock, Sort.ahead] using hk)]
  have : g ≠ k := fun e => hne (by rw [e])
  simp [putRow, mapBlock, Sort.ahead, Array.getElem?_modify, this]
theorem grow_none (w : World) : grow w #[] = w := by simp [grow]
theorem isortI (lo : Nat) (v : Value) (l : List Int) (w : World) (h : w.ownsRow lo 3 1 v l.length (icells l)) (hn : l.length ≤ 16777216) :
    Calls Tryz.prog 152 #[v] w fun e w' => e = .returned (.tuple #[]) ∧ w'.ownsRow lo 3 1 v l.length (icells (l.mergeSort fun x y => decide (x ≤ y))) ∧ w.grownBy w' v.ownBlock := by
  have hown := h
  rcases h.2 with ⟨rfl, h0⟩ | ⟨g, cap, cur, rfl, hlo, hb, h1, h2, h3, h4⟩
  · have hl : l = [] := List.eq_nil_of_length_eq_zero h0
    subst hl
    refine Calls.mono (Tryz.slices_Sort_int_none none 0 w) ?_
    rintro e w' ⟨rfl, rfl⟩
    exact ⟨rfl, by rw [List.mergeSort_nil]; exact h, ⟨rfl, rfl, rfl, Nat.le_refl _, fun _ _ _ => rfl⟩⟩
  · rw [Nat.mul_one] at h3 h4
    refine Calls.mono (Tryz.slices_Sort_int g 0 cap l w (int_holds hb h4) (Array.getElem?_eq_some_iff.1 hb).1 (by omega)) ?_
    rintro e w' ⟨rfl, m, os, rfl⟩
    have hg := put_grown w g m (l.mergeSort fun x y => decide (x ≤ y)).toArray os
    have hlen : (l.mergeSort fun x y => decide (x ≤ y)).length = l.length := List.length_mergeSort l
    refine ⟨rfl, ⟨by simp [icells], .inr ⟨g, cap, putCells (Value.int .i64) 0 (l.mergeSort fun x y => decide (x ≤ y)).toArray cur, rfl, hlo, ?_, h1, h2, ?_, ?_⟩⟩, hg⟩
    · rw [heap_grow_old _ _ (by simpa [putRow, mapBlock, Sort.ahead] using (Array.getElem?_eq_some_iff.1 hb).1)]
      exact put_block hb
    · simp [putCells, h3]
    · rw [Nat.mul_one, ← hlen, put_take (Nat.le_refl _) (by omega), List.take_length]
theorem icompI (lo : Nat) (v : Value) (l : List Int) (w : World) (h : w.ownsRow lo 3 1 v l.length (icells l)) (hn : l.length ≤ 16777216) :
    Calls Tryz.prog 153 #[v] w fun e w' => ∃ v', e = .returned v' ∧ w'.ownsRow lo 3 1 v' (compact l).length (icells (compact l)) ∧ w.grownBy w' v.ownBlock := by
  have hown := h
  rcases h.2 with ⟨rfl, h0⟩ | ⟨g, cap, cur, rfl, hlo, hb, h1, h2, h3, h4⟩
  · have hl : l = [] := List.eq_nil_of_length_eq_zero h0
    subst hl
    refine Calls.mono (Tryz.slices_Compact_int_empty none 0 w) ?_
    rintro e w' ⟨rfl, rfl⟩
    exact ⟨_, rfl, h, ⟨rfl, rfl, rfl, Nat.le_refl _, fun _ _ _ => rfl⟩⟩
  · rw [Nat.mul_one] at h3 h4
    refine Calls.mono (Tryz.slices_Compact_int g 0 cap l w (int_holds hb h4) (by omega) h1) ?_
    rintro e w' ⟨rfl, m, rfl⟩
    have hc := compact_length_le l
    have hg := put_grown w g m (compact l ++ List.replicate (l.length - (compact l).length) 0).toArray #[]
    rw [grow_none] at hg
    have hlen : (compact l ++ List.replicate (l.length - (compact l).length) 0).length = l.length := by simp; omega
    refine ⟨_, rfl, ⟨by simp [icells], .inr ⟨g, cap, _, rfl, hlo, put_block hb, by omega, h2, by simp [putCells, h3], ?_⟩⟩, hg⟩
    rw [Nat.mul_one, put_take (by omega) (by omega), List.take_left' rfl]
theorem mem_compact {l : List Int} (x : Int) : x ∈ compact l ↔ x ∈ l := by
  unfold compact compactUpTo
  constructor
  · intro h
    obtain ⟨j, hj, rfl⟩ := List.mem_map.1 h
    have hj2 := List.mem_range.1 (List.mem_filter.1 hj).1
    rw [getElem!_pos _ j (by simpa using hj2)]
    simp
  · intro h
    have : ∀ n j : Nat, j ≤ n → l[j]? = some x → x ∈ ((List.range l.length).filter (keeps l.toArray)).map (l.toArray[·]!) := by
      intro n
      induction n with
      | zero =>
        intro j hj hx
        have e : j = 0 := by omega
        subst e
        have hl := (List.getElem?_eq_some_iff.1 hx).1
        refine List.mem_map.2 ⟨0, List.mem_filter.2 ⟨List.mem_range.2 hl, keeps_lt_one _ 0 (by omega)⟩, ?_⟩
        rw [getElem!_pos _ 0 (by simpa using hl)]
        simpa using (List.getElem?_eq_some_iff.1 hx).2
      | succ n ih =>
        intro j hj hx
        have hl := (List.getElem?_eq_some_iff.1 hx).1
        have hv : l.toArray[j]! = x := by
          rw [getElem!_pos _ j (by simpa using hl)]
          simpa using (List.getElem?_eq_some_iff.1 hx).2
        by_cases h0 : j = 0
        · exact ih j (by omega) hx
        · by_cases hk : l.toArray[j]! = l.toArray[j - 1]!
          · refine ih (j - 1) (by omega) ?_
            rw [List.getElem?_eq_getElem (by omega)]
            rw [hv, getElem!_pos _ (j - 1) (by simp; omega)] at hk
            rw [hk]
            simp
          · exact List.mem_map.2 ⟨j, List.mem_filter.2 ⟨List.mem_range.2 hl, keeps_pos hk⟩, hv⟩
    obtain ⟨j, hj⟩ := List.getElem?_of_mem h
    exact this j j (Nat.le_refl _) hj
theorem asc_compact {l : List Int} (h : l.Pairwise (fun x y => x ≤ y)) : (compact l).Pairwise (fun x y => x < y) := by
  unfold compact compactUpTo
  rw [List.pairwise_map]
  have hm : ∀ i j, i ≤ j → j < l.length → l.toArray[i]! ≤ l.toArray[j]! := by
    intro i j hij hj
    rw [getElem!_pos _ i (by simp; omega), getElem!_pos _ j (by simpa using hj)]
    by_cases e : i = j
    · subst e; exact Int.le_refl _
    · have := List.pairwise_iff_getElem.1 h i j (by omega) hj (by omega)
      simpa using this
  refine List.Pairwise.imp_of_mem ?_ ((List.pairwise_lt_range (n := l.length)).filter (keeps l.toArray))
  intro i j hi hj hij
  obtain ⟨j1, j2⟩ := List.mem_filter.1 hj
  have hjl := List.mem_range.1 j1
  have a := hm i (j - 1) (by omega) (by omega)
  have b := hm (j - 1) j (by omega) hjl
  simp only [keeps, decide_eq_true_eq] at j2
  rcases j2 with e | e
  · omega
  · omega
theorem live_sorted (s : Sto) : compact ((chunksS s).mergeSort fun x y => decide (x ≤ y)) = liveS s := by
  refine live_of (asc_compact ?_) (fun y => ?_)
  · have := List.pairwise_mergeSort (le := fun x y : Int => decide (x ≤ y)) (by intro a b c h1 h2; simp at *; omega) (by intro a b; simp; omega) (chunksS s)
    exact this.imp (fun {a b} h => by simpa using h)
  · rw [mem_compact]
    exact (List.mergeSort_perm _ _).mem_iff
set_option maxHeartbeats 1000000 in
set_option maxRecDepth 100000 in
theorem ilive : LiveC 126 := by
  rintro v s w ⟨va, vl, vc, ad, len, cap, rs, rfl, hks, hvl, hl, hll, hvc, h, hk⟩
  obtain ⟨vs, kns, nx⟩ := s
  simp only at hks h ⊢
  subst hks
  have B0 : Hid (Below w.heap.size w (w.alloc (.cells #[.slice va vl vc, .slice ad len cap, .int .i64 nx] 45))) := (Below.refl _ _).alloc (Nat.le_refl _) _
  have CC := hide (ichunksOf va vl vc ad len cap nx vs rs (w.alloc (.cells #[.slice va vl vc, .slice ad len cap, .int .i64 nx] 45)) hvl hl (h.below B0.out) (hk.below B0.out))
  unfold SBox at CC
  have HN : Hid ((chunksS ⟨vs, rs.map ktell, nx⟩).length ≤ 16777216) := by
    show _ ≤ _
    refine Nat.le_trans (List.length_filter_le _ _) ?_
    have e : ∀ l : List (Int × Int), (l.flatMap (fun v => allT (rs.map ktell) v.2)).length = 16 * l.length := by
      intro l
      induction l with
      | nil => rfl
      | cons v l ih => rw [List.flatMap_cons, List.length_append, ih, allT_len, List.length_cons]; omega
    show (vs.flatMap _).length ≤ _
    rw [e]
    have := h.1
    omega
  have HR := hide (live_sorted ⟨vs, rs.map ktell, nx⟩)
  obtain ⟨L, hL⟩ : ∃ L, chunksS ⟨vs, rs.map ktell, nx⟩ = L := ⟨_, rfl⟩
  rw [hL] at CC HN HR
  rw [← HR.out]
  clear h hk hll hvc hL HR
  have HM : Hid ((L.mergeSort fun x y => decide (x ≤ y)).length = L.length) := List.length_mergeSort L
  obtain ⟨M, hM⟩ : ∃ M, (L.mergeSort fun x y => decide (x ≤ y)) = M := ⟨_, rfl⟩
  have HME := hide hM
  rw [hM] at HM ⊢
  clear hM
  unfold SBox
  go_enter Tryz.func126, Tryz.ntmps126
  go_wp2_with fail
  refine CC.out.mono ?_
  rintro e w1 ⟨cv, rfl, co, b1⟩
  have BE := hide (B0.out.trans (b1.mono B0.out.size))
  have HLO : Hid (w.heap.size ≤ (w.alloc (.cells #[.slice va vl vc, .slice ad len cap, .int .i64 nx] 45)).heap.size) := B0.out.size
  have CS := hide (isortI _ cv L w1 co HN.out)
  rw [HME.out] at CS
  have CO := hide co
  clear co b1 CC
  go_wp2_with fail
  refine CS.out.mono ?_
  rintro e w2 ⟨rfl, o2, g2⟩
  rw [← HM.out] at o2
  have CP := hide (icompI _ cv M w2 o2 (by rw [HM.out]; exact HN.out))
  have BE2 := hide (BE.out.grown g2 BE.out.size (fun q hq => by have := (CO.out.lt q hq).1; have := HLO.out; omega))
  have O2 := hide o2
  clear o2 g2 CS
  go_wp2_with fail
  refine CP.out.mono ?_
  rintro e w3 ⟨v3, rfl, o3, g3⟩
  have FIN : Hid (w3.ownsRow w.heap.size 3 1 v3 (compact M).length (icells (compact M)) ∧ Below w.heap.size w w3) := ⟨own_lower o3 HLO.out, BE2.out.grown g3 BE2.out.size (fun q hq => by have := (O2.out.lt q hq).1; have := HLO.out; omega)⟩
  clear o3 g3 CP
  go_wp2
  go_ret
  exact ⟨_, rfl, FIN.out.1, FIN.out.2⟩
end Go.Proofs.YtfmnaidhfgmemaaGreatDoor
