import Derived.Test.YtfmnaidhfgmemaaGreatDoorPk8
import Derived.Test.YtfmnaidhfgmemaaGreatDoorPk9
namespace Go.Proofs.YtfmnaidhfgmemaaGreatDoor
open Go.RowKit
open Words
def chunksK (l : List Kn) (vs : List (Int × Int)) (k : Nat) : List Int := ((vs.take k).flatMap (fun v => allT l v.2)).filter (fun y => decide (1 ≤ y))
theorem chunksK_succ {l : List Kn} {vs : List (Int × Int)} {k : Nat} {v : Int × Int} (h : vs[k]? = some v) : chunksK l vs (k + 1) = chunksK l vs k ++ (allT l v.2).filter (fun y => decide (1 ≤ y)) := by
  obtain ⟨h1, h2⟩ := List.getElem?_eq_some_iff.1 h
  rw [chunksK, chunksK, List.take_succ_eq_append_getElem h1, h2, List.flatMap_append, List.filter_append]
  simp
theorem filter_takeC {L : List Int} {x : Int} {m : Nat} (h : L[m]? = some x) : (L.take (m + 1)).filter (fun y => decide (1 ≤ y)) = (L.take m).filter (fun y => decide (1 ≤ y)) ++ (if 1 ≤ x then [x] else []) := by
  obtain ⟨h1, h2⟩ := List.getElem?_eq_some_iff.1 h
  rw [List.take_succ_eq_append_getElem h1, h2, List.filter_append, List.filter_cons, List.filter_nil]
  by_cases hx : 1 ≤ x <;> simp [hx]
def CkSt (w W : World) (z : Nat) (vv kv nv cv : Value) (l : List Int) : Prop := W.cell? ⟨z, 0, none⟩ = some vv ∧ W.cell? ⟨z, 1, none⟩ = some kv ∧ W.cell? ⟨z, 2, none⟩ = some nv ∧ W.ownsRow (w.heap.size + 1) 3 1 cv l.length (icells l) ∧ Below w.heap.size w W
theorem CkSt.below {w W W' : World} {z : Nat} {vv kv nv cv : Value} {l : List Int} (h : CkSt w W z vv kv nv cv l) (hb : Below W.heap.size W W') : CkSt w W' z vv kv nv cv l :=
  ⟨(hb.cell (World.block_lt_of_cell? W _ h.1)).trans h.1, (hb.cell (World.block_lt_of_cell? W _ h.2.1)).trans h.2.1, (hb.cell (World.block_lt_of_cell? W _ h.2.2.1)).trans h.2.2.1, own_below h.2.2.2.1 hb, h.2.2.2.2.trans (hb.mono h.2.2.2.2.size)⟩
theorem CkSt.snoc {w W y : World} {z : Nat} {vv kv nv cv u : Value} {l : List Int} {n : Int} (hz : z = w.heap.size) (h : CkSt w W z vv kv nv cv l) (ho : y.ownsRow (w.heap.size + 1) 3 1 u (l.length + 1) (icells l ++ [.int .i64 n])) (hg : (W.alloc (.cells #[.int .i64 n] 3)).grownBy y cv.ownBlock) : CkSt w y z vv kv nv u (l ++ [n]) := by
  have h1 := h.below ((Below.refl _ _).alloc (Nat.le_refl _) (.cells #[.int .i64 n] 3))
  have lt : ∀ q, cv.ownBlock = some q → w.heap.size + 1 ≤ q := fun q hq => (h1.2.2.2.1.lt q hq).1
  have b := h1.2.2.2.2.grown hg h1.2.2.2.2.size (fun q hq => by have := lt q hq; omega)
  have c : ∀ k v, (W.alloc (.cells #[.int .i64 n] 3)).cell? ⟨z, k, none⟩ = some v → y.cell? ⟨z, k, none⟩ = some v := fun k v hv => by
    have hl := World.block_lt_of_cell? _ _ hv
    have hb := hg.block z hl (fun e => by have := lt z e.symm; omega)
    unfold World.cell? at hv ⊢
    simp only at hb hv ⊢
    rw [hb]
    exact hv
  rw [icells_snoc] at ho
  exact ⟨c 0 _ h1.1, c 1 _ h1.2.1, c 2 _ h1.2.2.1, by rw [List.length_append]; exact ho, b⟩
def CkIn (w W : World) (z : Nat) (vv kv nv cv : Value) (l : List Int) (ag : Nat) (L : List Int) : Prop := CkSt w W z vv kv nv cv l ∧ (∀ (k : Nat) (x : Int), L[k]? = some x → W.cell? ⟨ag, k, none⟩ = some (.int .i64 x)) ∧ cv.ownBlock ≠ some ag ∧ ag < W.heap.size
theorem CkIn.snoc {w W y : World} {z ag : Nat} {vv kv nv cv u : Value} {l L : List Int} {n : Int} (hz : z = w.heap.size) (h : CkIn w W z vv kv nv cv l ag L) (ho : y.ownsRow (w.heap.size + 1) 3 1 u (l.length + 1) (icells l ++ [.int .i64 n])) (hg : (W.alloc (.cells #[.int .i64 n] 3)).grownBy y cv.ownBlock) (hu : u.ownBlock = cv.ownBlock ∨ u.ownBlock = some (W.heap.size + 1)) : CkIn w y z vv kv nv u (l ++ [n]) ag L := by
  obtain ⟨h1, h2, h3, h4⟩ := h
  have hz2 : (W.alloc (.cells #[.int .i64 n] 3)).heap.size = W.heap.size + 1 := by simp
  have hs := hg.size
  have hb : y.heap[ag]? = W.heap[ag]? := (hg.block ag (by omega) (fun e => h3 e.symm)).trans (((Below.refl _ _).alloc (Nat.le_refl _) (.cells #[.int .i64 n] 3)).block ag h4)
  refine ⟨h1.snoc hz ho hg, fun k x hk => ?_, ?_, by omega⟩
  · have := h2 k x hk
    unfold World.cell? at this ⊢
    simp only at hb this ⊢
    rw [hb]
    exact this
  · rcases hu with e | e
    · rw [e]; exact h3
    · rw [e]
      intro q
      injection q with q
      omega
set_option maxHeartbeats 1000000 in
set_option maxRecDepth 100000 in
theorem ichunksOf (va : Option Addr) (vl vc : Nat) (ad : Option Addr) (len cap : Nat) (nx : Int) (vs : List (Int × Int)) (rs : List Kw) (w : World) (hvl : vl ≤ 1048576) (hl : len ≤ 1048576) (h : VlRow w va vl vs) (hk : KnRd w ad len rs) :
    Calls Tryz.prog 151 #[.agg (SBox va vl vc ad len cap nx)] w (IOut w (chunksS ⟨vs, rs.map ktell, nx⟩)) := by
  have BX := hide (sbox_at w (.slice va vl vc) (.slice ad len cap) (.int .i64 nx))
  have B0 : Hid (Below w.heap.size w (w.alloc (.cells #[.slice va vl vc, .slice ad len cap, .int .i64 nx] 45))) := (Below.refl _ _).alloc (Nat.le_refl _) _
  have HV := hide h
  have HVL := hide h.1
  have HK := hide hk
  obtain ⟨i0, hi, hz0, hz1, hz2⟩ := info_parts infoInt
  have I0 := hide hi
  have Y0 := hide hz0
  have Y1 := hide hz1
  have Y2 := hide hz2
  clear h hk hi hz0 hz1 hz2
  unfold SBox
  go_enter Tryz.func151, Tryz.ntmps151
  go_wp2_with fail
  generalize w.alloc (.cells #[.slice va vl vc, .slice ad len cap, .int .i64 nx] 45) = wb at BX B0 ⊢
  obtain ⟨z, hz⟩ : ∃ z, w.heap.size = z := ⟨_, rfl⟩
  rw [hz] at BX ⊢
  have HZW := hide hz
  clear hz
  have S0 : Hid (CkSt w wb z (.slice va vl vc) (.slice ad len cap) (.int .i64 nx) (.slice none 0 0) []) := ⟨BX.out.1, BX.out.2.1, BX.out.2.2, World.ownsRow_nil _ _ _ _, B0.out⟩
  go_loopw [3, 11] (fun cv kv W => ∃ (k : Nat) (l : List Int), k ≤ vl ∧ kv = .int .i64 k ∧ l.length ≤ 16 * k ∧ Hid (l = chunksK (rs.map ktell) vs k) ∧ Hid (CkSt w W z (.slice va vl vc) (.slice ad len cap) (.int .i64 nx) cv l)) (fun _ kv _ => vl - (intOf kv).toNat)
  case atStart => exact ⟨0, [], Nat.zero_le _, rfl, Nat.le_refl _, (rfl : [] = chunksK (rs.map ktell) vs 0), S0⟩
  case round =>
    obtain ⟨k, l, hkv, rfl, hll, HL, HS⟩ := hrel
    clear S0
    by_cases hlt : (k : Int) < vl
    · obtain ⟨v, hv⟩ : ∃ v, vs[k]? = some v := ⟨_, List.getElem?_eq_getElem (by have := HVL.out; omega)⟩
      obtain ⟨b, off, e, hb, c0, c1⟩ := (HV.out.below HS.out.2.2.2.2).at hv
      subst e
      have k0 : (0 : Int) ≤ k := by omega
      have HKS := hide (chunksK_succ (l := rs.map ktell) hv)
      obtain ⟨y0, y1⟩ := v
      simp only at c0 c1 HKS
      have S1 := hide (HS.out.below ((Below.refl _ _).alloc (Nat.le_refl _) (.cells #[.int .i64 y0, .int .i64 y1] 97)))
      have d1 := cell_of_row _ _ 1 _ _ _ (heap_alloc_new wr (.cells #[.int .i64 y0, .int .i64 y1] 97))
      have d1' : (wr.alloc (.cells #[.int .i64 y0, .int .i64 y1] 97)).cell? ⟨wr.heap.size, 1, none⟩ = some (.int .i64 y1) := d1
      obtain ⟨x0, x1, x2, -, -⟩ := S1.out
      obtain ⟨X0, X1, X2, -, -⟩ := HS.out
      have CA := hide (iallAt ad len cap rs y1 (wr.alloc (.cells #[.int .i64 y0, .int .i64 y1] 97)) (by omega) (HK.out.below S1.out.2.2.2.2))
      have hal : (allT (rs.map ktell) y1).length = 16 := allT_len _ _
      obtain ⟨L, hL⟩ : ∃ L, allT (rs.map ktell) y1 = L := ⟨_, rfl⟩
      rw [hL] at CA hal HKS
      clear hv hL d1
      go_wp2_with fail
      refine CA.out.mono ?_
      rintro e w2 ⟨av, rfl, ao, b2⟩
      have S2 := hide (S1.out.below b2)
      obtain ⟨aa, ac, rfl, har⟩ := (Sli.of ao).form
      obtain ⟨ag, rfl, har1, har2⟩ := har (by omega)
      have S3 : Hid (CkIn w w2 z (.slice (some ⟨b, off, none⟩) vl vc) (.slice ad len cap) (.int .i64 nx) u3 l ag L) := by
        refine ⟨S2.out, fun k x hk => ?_, fun e => ?_, har2⟩
        · rw [← addr_at]
          exact ao.cells (g := ag) rfl k _ (icells_get hk)
        · have := (S1.out.2.2.2.1.lt ag e).2
          omega
      rw [hal]
      have HAL := hide hal
      clear ao b2 har CA S1 S2 x0 x1 x2 X0 X1 X2 HS d1' hal har1 har2
      go_wp2_with fail
      go_loopw [3, 21] (fun cv jv W => ∃ (j : Nat) (l2 : List Int), j ≤ 16 ∧ jv = .int .i64 j ∧ l2.length ≤ 16 * k + j ∧ Hid (l2 = l ++ (L.take j).filter (fun y => decide (1 ≤ y))) ∧ Hid (CkIn w W z (.slice (some ⟨b, off, none⟩) vl vc) (.slice ad len cap) (.int .i64 nx) cv l2 ag L)) (fun _ jv _ => 16 - (intOf jv).toNat)
      case atStart => exact ⟨0, l, Nat.zero_le _, rfl, by omega, (by simp : l = l ++ (L.take 0).filter _), S3⟩
      case round =>
        obtain ⟨j, l2, hj, rfl, hl2, HL2, HS2⟩ := hrel
        clear S3
        by_cases hjl : (j : Int) < 16
        · obtain ⟨x, hx⟩ : ∃ x, L[j]? = some x := ⟨_, List.getElem?_eq_getElem (by have := HAL.out; omega)⟩
          have cx := HS2.out.2.1 j x hx
          have FT := hide (filter_takeC hx)
          have j0 : (0 : Int) ≤ j := by omega
          clear hx
          by_cases h1x : 1 ≤ x
          · have HL3 : Hid (l2 ++ [x] = l ++ (L.take (j + 1)).filter (fun y => decide (1 ≤ y))) := by
              show _ = _
              rw [FT.out, if_pos h1x, ← List.append_assoc, ← HL2.out]
            have OW := hide (own_below HS2.out.1.2.2.2.1 ((Below.refl _ _).alloc (Nat.le_refl _) (.cells #[.int .i64 x] 3)))
            have HSZ : Hid (w.heap.size + 1 ≤ (wr.alloc (.cells #[.int .i64 x] 3)).heap.size) := by
              have := HS2.out.1.2.2.2.2.size
              show _ ≤ _
              simp
              omega
            go_wp2_with (at_builtin; refine wpList_append_own_at _ rfl _ _ 54 rfl (w.heap.size + 1) 3 i0 (.int .i64 0) 1 8 Tryz.underlying54 I0.out Y0.out Y1.out Y2.out rfl (by decide) _ _ _ rfl OW.out ⟨wr.heap.size, 0, none⟩ 1 1 [Value.int .i64 x] rfl rfl (one_cell _ _ _) (one_i64 _) ?c1 ?c2 ?c3 ?_)
            case c1 => unfold maxLen; omega
            case c2 => omega
            case c3 => exact HSZ.out
            intro u' y ho hg _ hu
            have NX := hide (HS2.out.snoc HZW.out.symm ho hg hu)
            have hl3 : (l2 ++ [x]).length ≤ 16 * k + (j + 1) := by simp; omega
            generalize l2 ++ [x] = l3 at HL3 NX hl3
            clear ho hg hu HS2 OW HSZ
            go_wp2
            go_roundw
            case rel => exact ⟨j + 1, l3, by omega, by go_num, hl3, HL3, NX⟩
            case measure => simp [intOf]; omega
          · have HL3 : Hid (l2 = l ++ (L.take (j + 1)).filter (fun y => decide (1 ≤ y))) := by
              show _ = _
              rw [FT.out, if_neg h1x, List.append_nil, ← HL2.out]
            go_wp2
            go_roundw
            case rel => exact ⟨j + 1, l2, by omega, by go_num, by omega, HL3, HS2⟩
            case measure => simp [intOf]; omega
        · have HL3 : Hid (l2 = chunksK (rs.map ktell) vs (k + 1)) := by
            show _ = _
            rw [HKS.out, ← HL.out, HL2.out, List.take_of_length_le (by have := HAL.out; omega)]
          have HS3 := hide HS2.out.1
          go_wp2
          go_roundw
          case rel => exact ⟨k + 1, l2, by omega, by go_num, by omega, HL3, HS3⟩
          case measure => simp [intOf]; omega
    · have HE : Hid (l = chunksS ⟨vs, rs.map ktell, nx⟩) := by
        show _ = _
        rw [HL.out, chunksK, List.take_of_length_le (by have := HVL.out; omega)]
        rfl
      have FIN : Hid (wr.ownsRow w.heap.size 3 1 u3 (chunksS ⟨vs, rs.map ktell, nx⟩).length (icells (chunksS ⟨vs, rs.map ktell, nx⟩)) ∧ Below w.heap.size w wr) := by
        rw [← HE.out]
        exact ⟨own_lower HS.out.2.2.2.1 (by omega), HS.out.2.2.2.2⟩
      go_wp2
      go_ret
      exact ⟨_, rfl, FIN.out.1, FIN.out.2⟩
end Go.Proofs.YtfmnaidhfgmemaaGreatDoor
