/-
  ITree; IAll; SRefs; IChunk
-/
import Derived.Test.YtcjgjkejhkhknabGreatDoorPk9
import Derived.Test.YtcjgjkejhkhknabGreatDoorPk11
import Derived.Test.YtcjgjkejhkhknabGreatDoorPk7
import Derived.Test.YtcjgjkejhkhknabGreatDoorPk3
import Derived.Test.YtcjgjkejhkhknabGreatDoorPk6
import Derived.Deep.RegionHeld3
/-
  impl.ArenaOk; the tree at a root; impl.GetAt.
-/
namespace Go.Proofs.YtcjgjkejhkhknabGreatDoor
open Go.RowKit
open Words

theorem icells_rep (n : Nat) : List.replicate n (Value.int .i64 0) = icells (List.replicate n 0) := by simp [icells]
/-- The tree of a root stands in block b. -/
def TreeAt (W : World) (b : Nat) (bs : List Nat) (L : List Kn) (r : Int) : Prop :=
  FAt W bs (lksOf bs L) ∧ ((r = -1 ∧ LkAt W b lkNone) ∨ ∃ (m : Nat) (x : Kn), r = (m : Int) ∧ bs[m]? = some b ∧ L[m]? = some x ∧ x.leaf = false)
theorem TreeAt.below {W W' : World} {b : Nat} {bs : List Nat} {L : List Kn} {r : Int} (h : TreeAt W b bs L r) (hb : Below W.heap.size W W') : TreeAt W' b bs L r := by
  obtain ⟨h1, h2⟩ := h
  refine ⟨h1.below hb, ?_⟩
  rcases h2 with ⟨e, h⟩ | h
  · exact .inl ⟨e, h.blw hb⟩
  · exact .inr h
theorem rootB_neg {L : List Kn} {r : Int} (h : rootB L r = false) : r ≠ -1 ∧ (r < 0 ∨ (L.length : Int) ≤ r ∨ ∃ x, L[r.toNat]? = some x ∧ x.leaf = true) := by
  unfold rootB at h
  simp only [Bool.or_eq_false_iff, decide_eq_false_iff_not, Bool.and_eq_false_iff, Bool.not_eq_false'] at h
  refine ⟨h.1, ?_⟩
  rcases h.2 with (h | h) | h
  · exact .inl (by omega)
  · exact .inr (.inl (by omega))
  · obtain ⟨y, hy, hl⟩ := knLeaf_lt h
    exact .inr (.inr ⟨y, hy, hl⟩)
theorem rootB_yes {L : List Kn} {r : Int} (h : rootB L r = true) : r = -1 ∨ ∃ (m : Nat) (x : Kn), r = (m : Int) ∧ L[m]? = some x ∧ x.leaf = false := by
  by_cases h0 : r = -1
  · exact .inl h0
  · have h1 : 0 ≤ r := by
      unfold rootB at h
      simp only [Bool.or_eq_true, Bool.and_eq_true, decide_eq_true_eq] at h
      omega
    obtain ⟨x, hx, hl⟩ := rootB_pos h h1
    exact .inr ⟨r.toNat, x, by omega, hx, hl⟩
/-- What treeAt of a forest answers. -/
def FTOut (w : World) (bs : List Nat) (L : List Kn) (r : Int) (e : Ending) (w' : World) : Prop :=
  Below w.heap.size w w' ∧ ((rootB L r = true ∧ ∃ b, e = .returned (ptr b) ∧ TreeAt w' b bs L r ∧ (r = -1 → w.heap.size ≤ b)) ∨ (rootB L r = false ∧ e = .returned (.pointer none)))
theorem ftree (fa : Option Addr) (n c : Nat) (bs : List Nat) (L : List Kn) (r : Int) (w : World) (hr : PRow w fa n bs) (hf : FAt w bs (lksOf bs L)) :
    Calls Tryz.prog 144 #[.slice fa n c, .int .i64 r] w (FTOut w bs L r) := by
  cases hR : rootB L r with
  | true =>
    rcases rootB_yes hR with rfl | ⟨m, x, rfl, hx, hl⟩
    · refine (itree_new (.slice fa n c) w).mono ?_
      rintro e w' ⟨rfl, hat, hb⟩
      exact ⟨hb, .inl ⟨hR, _, rfl, ⟨hf.below hb, .inl ⟨rfl, hat⟩⟩, fun _ => Nat.le_refl _⟩⟩
    · have hm : m < bs.length := by rw [hf.1, lksOf_len]; exact (List.getElem?_eq_some_iff.1 hx).1
      refine (itree_at fa n c bs (lksOf bs L) m _ (lkOf bs m x) w hr hf (lksOf_some hx) (List.getElem?_eq_getElem hm) (by rw [lkOf_leaf]; exact hl)).mono ?_
      rintro e w' ⟨rfl, rfl⟩
      exact ⟨Below.refl _ _, .inl ⟨hR, _, rfl, ⟨hf, .inr ⟨m, x, rfl, List.getElem?_eq_getElem hm, hx, hl⟩⟩, fun h => by omega⟩⟩
  | false =>
    obtain ⟨h1, h2⟩ := rootB_neg hR
    have hl : (L.length : Int) = n := by have := hr.1; have := hf.1; rw [lksOf_len] at this; omega
    refine (itree_no fa n c bs (lksOf bs L) r w hr hf h1 ?_).mono ?_
    · rcases h2 with h | h | ⟨x, hx, hl⟩
      · exact .inl h
      · exact .inr (.inl (by omega))
      · exact .inr (.inr ⟨_, lksOf_some hx, by rw [lkOf_leaf]; exact hl⟩)
    · rintro e w' ⟨rfl, rfl⟩
      exact ⟨Below.refl _ _, .inr ⟨hR, rfl⟩⟩
/-- A tree's number at a sector. -/
theorem inum (b : Nat) (bs : List Nat) (L : List Kn) (r : Int) (s : Nat) (w : World) (hs : s ≤ 15) (ha : arB L = true) (h : TreeAt w b bs L r) :
    Calls Tryz.prog 114 #[ptr b, .int .i64 s] w fun e w' => e = .returned (.int .i64 (getP L r s)) ∧ w' = w := by
  have q4 : s / 4 < 4 := by omega
  have t4 : s % 4 < 4 := by omega
  obtain ⟨hf, ⟨rfl, hat⟩ | ⟨m, x, rfl, hb, hx, hl⟩⟩ := h
  · refine inumAt b lkNone s _ w hs hat (.inl ⟨s / 4, rfl, ?_, ?_⟩)
    · match s / 4, q4 with
      | 0, _ | 1, _ | 2, _ | 3, _ => rfl
    · exact if_pos (by omega)
  · have hat := hf.2 m b _ hb (lksOf_some hx)
    have hlk : lkOf bs m x = ⟨m, false, [0, 0, 0, 0], x.kids.map (kidP bs), false⟩ := by unfold lkOf; rw [if_neg (by rw [hl]; decide)]
    obtain ⟨n, hn, hc⟩ := inner_kid ha (r := (m : Int)) (by rw [Int.toNat_natCast]; exact hx) hl q4
    have hka : kidAt L (m : Int) (s / 4) = n := kidAt_some (by rw [Int.toNat_natCast]; exact hx) hn
    have hto : (lkOf bs m x).tos[s / 4]? = some (kidP bs n) := by
      rw [hlk]
      show (x.kids.map (kidP bs))[s / 4]? = _
      rw [List.getElem?_map, hn]
      rfl
    rcases hc with rfl | ⟨h0, h1, y, hy, hyl, -⟩
    · refine inumAt b _ s _ w hs hat (.inl ⟨s / 4, rfl, hto, ?_⟩)
      rw [getP, if_neg (by omega), hka, if_pos (by omega)]
    · obtain ⟨v, hv, -⟩ := leaf_kid ha hy hyl t4
      have hcl : n.toNat < bs.length := by rw [hf.1, lksOf_len]; exact (List.getElem?_eq_some_iff.1 hy).1
      have hkp : kidP bs n = some bs[n.toNat] := by rw [kidP, if_neg (by omega), List.getElem?_eq_getElem hcl]
      rw [hkp] at hto
      have hat2 := hf.2 n.toNat _ _ (List.getElem?_eq_getElem hcl) (lksOf_some hy)
      have e : getP L (m : Int) s = v := by rw [getP, if_neg (by omega), hka, if_neg (by omega), kidAt_some hy hv]
      rw [e]
      refine inumAt b _ s v w hs hat (.inr ⟨_, _, hto, hat2, ?_⟩)
      unfold lkOf
      rw [if_pos hyl]
      exact hv
/-- What treeAt of an arena answers. -/
def ATOut (w : World) (L : List Kn) (r : Int) (e : Ending) (w' : World) : Prop :=
  Below w.heap.size w w' ∧ ((arB L = true ∧ rootB L r = true ∧ ∃ b bs, e = .returned (ptr b) ∧ TreeAt w' b bs L r) ∨ ((arB L && rootB L r) = false ∧ e = .returned (.pointer none)))
set_option maxHeartbeats 400000 in
set_option maxRecDepth 100000 in
theorem iatree (ad : Option Addr) (len cap : Nat) (rs : List Kw) (r : Int) (w : World) (hl : len ≤ 1048578) (h : KnRd w ad len rs) :
    Calls Tryz.prog 113 #[.agg #[.slice ad len cap], .int .i64 r] w (ATOut w (rs.map ktell) r) := by
  have bx := box_at w (.slice ad len cap)
  have B0 : Hid (Below w.heap.size w (w.alloc (.cells #[.slice ad len cap] 47))) := (Below.refl _ _).alloc (Nat.le_refl _) _
  have H := hide (h.below B0.out)
  clear h
  go_enter Tryz.func113, Tryz.ntmps113
  go_wp2_with fail
  refine (ilinked ad len cap rs _ hl H.out).mono ?_
  rintro e w1 ⟨b1, h1⟩
  have HB : Hid (Below w.heap.size w w1) := B0.out.trans (b1.mono B0.out.size)
  clear b1
  rcases h1 with ⟨hA, v, bs, rfl, hF⟩ | ⟨hA, rfl⟩
  · have HA := hide hA
    have HF := hide hF
    obtain ⟨fa, fc, rfl, hpr⟩ := PRow.of (bs := bs) (by rw [hF.2.1]; exact hF.1)
    have HP := hide hpr
    clear hA hF hpr bx
    go_wp2_with fail
    refine (ftree fa _ fc bs (rs.map ktell) r w1 HP.out HF.out.2.2.1).mono ?_
    rintro e w2 ⟨b2, h2⟩
    have HB2 : Hid (Below w.heap.size w w2) := HB.out.trans (b2.mono HB.out.size)
    clear b2
    rcases h2 with ⟨hR, b, rfl, hT, -⟩ | ⟨hR, rfl⟩
    · have HR := hide hR
      have HT := hide hT
      clear hR hT
      unfold ptr
      go_wp2
      go_ret
      exact ⟨HB2.out, .inl ⟨HA.out, HR.out, b, bs, rfl, HT.out⟩⟩
    · have HR := hide hR
      clear hR
      go_wp2
      go_ret
      exact ⟨HB2.out, .inr ⟨by rw [HA.out, HR.out]; rfl, rfl⟩⟩
  · have HA := hide hA
    clear hA
    go_wp2
    go_ret
    exact ⟨HB.out, .inr ⟨by rw [HA.out]; rfl, rfl⟩⟩
end Go.Proofs.YtcjgjkejhkhknabGreatDoor

/-
  impl.AllAt.
-/
namespace Go.Proofs.YtcjgjkejhkhknabGreatDoor
open Go.RowKit
open Words

theorem allT_at (L : List Kn) (r : Int) {k : Nat} (h : k < 16) : (allT L r)[k]? = some (getT L r (k : Int)) := by
  rw [allT, List.getElem?_map, List.getElem?_range h]
  rfl
theorem allT_no {L : List Kn} {r : Int} (h : (arB L && rootB L r) = false) : allT L r = List.replicate 16 0 := by
  refine List.eq_replicate_iff.2 ⟨allT_len L r, fun n hn => ?_⟩
  obtain ⟨s, -, rfl⟩ := List.mem_map.1 hn
  exact if_neg (by rw [askB, h]; simp)

set_option maxHeartbeats 1000000 in
set_option maxRecDepth 100000 in
theorem iallAt : AllC 80 := by
  intro ad len cap rs r w hl h
  obtain ⟨i0, hi, hz0, hz1, hz2⟩ := info_parts infoInt
  have BX := hide (box_at w (.slice ad len cap))
  have bx := BX.out
  have B0 : Hid (Below w.heap.size w (w.alloc (.cells #[.slice ad len cap] 47))) := (Below.refl _ _).alloc (Nat.le_refl _) _
  have H := hide (h.below B0.out)
  clear h
  obtain ⟨L, hL⟩ : ∃ L, rs.map ktell = L := ⟨_, rfl⟩
  have HL := hide hL
  rw [hL]
  clear hL
  go_enter Tryz.func80, Tryz.ntmps80
  go_wp2_with (at_make; refine wpList_make_full _ rfl _ _ 25 rfl (w.heap.size + 1) 3 i0 (.int .i64 0) 1 Tryz.underlying25 hi hz0 hz1 .i64 .i64 _ _ 16 rfl rfl rfl rfl (by rw [hz2]; omega) (by unfold maxLen; omega) (by simp) ?_)
  intro w1 hown hgrow
  rw [toList_madeCells_one, icells_rep] at hown
  clear hi hz0 hz1 hz2
  have BG : Hid (Below (w.alloc (.cells #[.slice ad len cap] 47)).heap.size (w.alloc (.cells #[.slice ad len cap] 47)) w1) := (Below.refl _ _).grown hgrow (Nat.le_refl _) (fun k hk => by cases hk)
  have HSZ : Hid ((w.alloc (.cells #[.slice ad len cap] 47)).heap.size = w.heap.size + 1) := by show _ = _; simp
  have HO := hide hown
  have bx1 := (BG.out.cell (show w.heap.size < (w.alloc (.cells #[.slice ad len cap] 47)).heap.size by simp)).trans BX.out
  have H1 := hide (H.out.below BG.out)
  have B1 : Hid (Below w.heap.size w w1) := B0.out.trans (BG.out.mono B0.out.size)
  clear hown hgrow bx BX BG B0 H HSZ
  obtain ⟨z, hz⟩ : ∃ z, w.heap.size = z := ⟨_, rfl⟩
  have HZ := hide hz
  rw [hz] at HO bx1 ⊢
  clear hz
  go_wp2_with fail
  refine (iatree ad len cap rs r w1 hl H1.out).mono ?_
  rw [HL.out]
  rintro e w2 ⟨b2, h2⟩
  have HO2 := hide (own_below HO.out b2)
  have B2 : Hid (Below w.heap.size w w2) := B1.out.trans (b2.mono B1.out.size)
  clear b2 HO B1 H1 bx1
  rcases h2 with ⟨hA, hR, b, bs, rfl, hT⟩ | ⟨hA, rfl⟩
  · have HA := hide hA
    have HR := hide hR
    have S0 : Hid (∃ xs : List Int, xs = (allT L r).take 0 ++ (List.replicate 16 0).drop 0 ∧ w2.ownsRow (z + 1) 3 1 (.slice (some ⟨z + 1, 0, none⟩) 16 16) 16 (icells xs) ∧ TreeAt w2 b bs L r ∧ Below w.heap.size w w2) := ⟨_, rfl, HO2.out, hT, B2.out⟩
    clear hA hR hT HO2
    unfold ptr
    go_wp2
    go_loopw [17] (fun iv W => ∃ k : Nat, k ≤ 16 ∧ iv = .int .i64 k ∧ Hid (∃ xs : List Int, xs = (allT L r).take k ++ (List.replicate 16 0).drop k ∧ W.ownsRow (z + 1) 3 1 (.slice (some ⟨z + 1, 0, none⟩) 16 16) 16 (icells xs) ∧ TreeAt W b bs L r ∧ Below w.heap.size w W)) (fun iv _ => 16 - (intOf iv).toNat)
    case atStart => exact ⟨0, by omega, rfl, S0⟩
    case round =>
      obtain ⟨k, hk, rfl, HS⟩ := hrel
      clear S0
      by_cases hlt : (k : Int) < 16
      · have hk16 : k < 16 := by omega
        obtain ⟨xs, hxs, ho, ht, hb⟩ := HS.out
        have HT := hide ht
        have k0 : (0 : Int) ≤ k := by omega
        have hx0 : xs[k]? = some 0 := by rw [hxs, part_at (by rw [allT_len]; exact hk16), List.getElem?_replicate, if_pos hk16]
        have oc : wr.cell? ⟨z + 1, k, none⟩ = some (.int .i64 0) := by
          rw [← addr_at]
          exact ho.cells (g := z + 1) rfl k _ (icells_get hx0)
        have of : wr.frozen? ⟨z + 1, k, none⟩ = false := by
          obtain ⟨-, -, cs, q⟩ := own_kind ho (z + 1) rfl
          exact frozen_of_row _ _ k _ _ q
        have HN : Hid (∃ xs : List Int, xs = (allT L r).take (k + 1) ++ (List.replicate 16 0).drop (k + 1) ∧ (wr.setCell ⟨z + 1, k, none⟩ (.int .i64 (getP L r k))).ownsRow (z + 1) 3 1 (.slice (some ⟨z + 1, 0, none⟩) 16 16) 16 (icells xs) ∧ TreeAt (wr.setCell ⟨z + 1, k, none⟩ (.int .i64 (getP L r k))) b bs L r ∧ Below w.heap.size w (wr.setCell ⟨z + 1, k, none⟩ (.int .i64 (getP L r k)))) := by
          have hg : getT L r (k : Int) = getP L r k := if_pos (by rw [askB, HA.out, HR.out, decide_eq_true (show (0 : Int) ≤ k by omega), decide_eq_true (show (k : Int) ≤ 15 by omega)]; rfl)
          refine ⟨xs.set k (getP L r k), ?_, by rw [← icells_set]; exact fown_set ho rfl k _, ?_, hb.setCell (p := ⟨z + 1, k, none⟩) (by rw [HZ.out]; show z ≤ z + 1; omega) _⟩
          · rw [hxs]
            exact part_set (by rw [allT_at L r hk16, hg]) (by rw [allT_len]; rfl)
          · obtain ⟨-, -, cs, q⟩ := own_kind ho (z + 1) rfl
            have hne : ∀ {c : Nat} {x : Lk}, LkAt wr c x → c ≠ z + 1 := by
              intro c x hc e
              have := hc.1
              rw [e, q] at this
              injection this with this
              injection this with _ this
              simp at this
            refine ⟨⟨ht.1.1, fun i c x h1 h2 => (ht.1.2 i c x h1 h2).other (hne (ht.1.2 i c x h1 h2)) _⟩, ?_⟩
            rcases ht.2 with ⟨e, q⟩ | q
            · exact .inl ⟨e, q.other (hne q) _⟩
            · exact .inr q
        clear hxs ho ht hb hx0 HS
        go_wp2_with fail
        refine (inum b bs L r k wr (by omega) HA.out HT.out).mono ?_
        rintro e w3 ⟨rfl, rfl⟩
        go_wp2
        go_roundw
        case rel => exact ⟨k + 1, by omega, by go_num, HN⟩
        case measure => simp [intOf]; omega
      · have e16 : k = 16 := by omega
        subst e16
        obtain ⟨xs, hxs, ho, ht, hb⟩ := HS.out
        have e : xs = allT L r := by
          rw [hxs, List.take_of_length_le (by rw [allT_len]; omega)]
          simp
        subst e
        have HO := hide ho
        have HB := hide hb
        clear ho hb ht hxs HS
        go_wp2
        go_ret
        exact ⟨_, rfl, by rw [allT_len, HZ.out]; exact own_lower HO.out (by omega), HB.out⟩
  · have E : Hid (allT L r = List.replicate 16 0) := allT_no hA
    clear hA
    go_wp2
    go_ret
    exact ⟨_, rfl, by rw [allT_len, E.out, HZ.out]; exact own_lower HO2.out (by omega), B2.out⟩
end Go.Proofs.YtcjgjkejhkhknabGreatDoor

/-
  spec.RefsOf.
-/
namespace Go.Proofs.YtcjgjkejhkhknabGreatDoor
open Go.RowKit
open Words

/-- References among the first k volumes. -/
def refsK (l : List Kn) (vs : List (Int × Int)) (c : Int) (k : Nat) : Nat := ((vs.take k).map (fun v => (allT l v.2).count c)).sum
theorem refsK_succ {l : List Kn} {vs : List (Int × Int)} {c : Int} {k : Nat} {v : Int × Int} (h : vs[k]? = some v) : refsK l vs c (k + 1) = refsK l vs c k + (allT l v.2).count c := by
  obtain ⟨h1, h2⟩ := List.getElem?_eq_some_iff.1 h
  rw [refsK, refsK, List.take_succ_eq_append_getElem h1, h2, List.map_append, List.sum_append]
  simp
theorem refsK_le (l : List Kn) (vs : List (Int × Int)) (c : Int) (k : Nat) : refsK l vs c k ≤ 16 * k := by
  induction k with
  | zero => simp [refsK]
  | succ k ih =>
    by_cases hk : k < vs.length
    · rw [refsK_succ (List.getElem?_eq_getElem hk)]
      have := List.count_le_length (a := c) (l := allT l (vs[k]).2)
      rw [allT_len] at this
      omega
    · rw [refsK, List.take_of_length_le (by omega)]
      rw [refsK, List.take_of_length_le (by omega)] at ih
      omega
theorem count_take {L : List Int} {c x : Int} {m : Nat} (h : L[m]? = some x) : (L.take (m + 1)).count c = (L.take m).count c + (if x = c then 1 else 0) := by
  obtain ⟨h1, h2⟩ := List.getElem?_eq_some_iff.1 h
  rw [List.take_succ_eq_append_getElem h1, h2, List.count_append, List.count_singleton]
  simp

end Go.Proofs.YtcjgjkejhkhknabGreatDoor

/-
  impl.ChunkOf, impl.chunksOf, impl.RefsOf.
-/
namespace Go.Proofs.YtcjgjkejhkhknabGreatDoor
open Go.RowKit
open Words

/-- Chunks of the first k volumes. -/
def chunksK (l : List Kn) (vs : List (Int × Int)) (k : Nat) : List Int := ((vs.take k).flatMap (fun v => allT l v.2)).filter (fun y => decide (1 ≤ y))
theorem chunksK_succ {l : List Kn} {vs : List (Int × Int)} {k : Nat} {v : Int × Int} (h : vs[k]? = some v) : chunksK l vs (k + 1) = chunksK l vs k ++ (allT l v.2).filter (fun y => decide (1 ≤ y)) := by
  obtain ⟨h1, h2⟩ := List.getElem?_eq_some_iff.1 h
  rw [chunksK, chunksK, List.take_succ_eq_append_getElem h1, h2, List.flatMap_append, List.filter_append]
  simp
theorem filter_takeC {L : List Int} {x : Int} {m : Nat} (h : L[m]? = some x) : (L.take (m + 1)).filter (fun y => decide (1 ≤ y)) = (L.take m).filter (fun y => decide (1 ≤ y)) ++ (if 1 ≤ x then [x] else []) := by
  obtain ⟨h1, h2⟩ := List.getElem?_eq_some_iff.1 h
  rw [List.take_succ_eq_append_getElem h1, h2, List.filter_append, List.filter_cons, List.filter_nil]
  by_cases hx : 1 ≤ x <;> simp [hx]
/-- Chunks under way. -/
def CkSt (w W : World) (z : Nat) (vv kv nv cv : Value) (l : List Int) : Prop := W.cell? ⟨z, 0, none⟩ = some vv ∧ W.cell? ⟨z, 1, none⟩ = some kv ∧ W.cell? ⟨z, 2, none⟩ = some nv ∧ W.ownsRow (w.heap.size + 1) 3 1 cv l.length (icells l) ∧ Below w.heap.size w W
theorem CkSt.below {w W W' : World} {z : Nat} {vv kv nv cv : Value} {l : List Int} (h : CkSt w W z vv kv nv cv l) (hb : Below W.heap.size W W') : CkSt w W' z vv kv nv cv l :=
  ⟨(hb.cell (World.block_lt_of_cell? W _ h.1)).trans h.1, (hb.cell (World.block_lt_of_cell? W _ h.2.1)).trans h.2.1, (hb.cell (World.block_lt_of_cell? W _ h.2.2.1)).trans h.2.2.1, own_below h.2.2.2.1 hb, h.2.2.2.2.trans (hb.mono h.2.2.2.2.size)⟩
theorem CkSt.snoc {w W y : World} {z : Nat} {vv kv nv cv u : Value} {l : List Int} {n : Int} (hz : z = w.heap.size) (h : CkSt w W z vv kv nv cv l) (ho : y.ownsRow (w.heap.size + 1) 3 1 u (l.length + 1) (icells l ++ [.int .i64 n])) (hg : (W.alloc (.cells #[.int .i64 n] 3)).grownBy y cv.ownBlock) : CkSt w y z vv kv nv u (l ++ [n]) := by
  have h1 := h.below ((Below.refl _ _).alloc (Nat.le_refl _) (.cells #[.int .i64 n] 3))
  have lt : ∀ q, cv.ownBlock = some q → w.heap.size + 1 ≤ q := fun q hq => (h1.2.2.2.1.lt q hq).1
  have b := h1.2.2.2.2.grown hg h1.2.2.2.2.size (fun q hq => by have := lt q hq; omega)
  have c : ∀ k v, (W.alloc (.cells #[.int .i64 n] 3)).cell? ⟨z, k, none⟩ = some v → y.cell? ⟨z, k, none⟩ = some v := fun k v hv => by
    have hl := World.block_lt_of_cell? _ _ hv
    have hb := hg.block z hl (fun e => by have := lt z e.symm; omega)
    unfold World.cell? at hv ⊢
    simp only at hb hv ⊢
    rw [hb]
    exact hv
  rw [icells_snoc] at ho
  exact ⟨c 0 _ h1.1, c 1 _ h1.2.1, c 2 _ h1.2.2.1, by rw [List.length_append]; exact ho, b⟩
/-- .. with the numbers of one volume beside them. -/
def CkIn (w W : World) (z : Nat) (vv kv nv cv : Value) (l : List Int) (ag : Nat) (L : List Int) : Prop := CkSt w W z vv kv nv cv l ∧ (∀ (k : Nat) (x : Int), L[k]? = some x → W.cell? ⟨ag, k, none⟩ = some (.int .i64 x)) ∧ cv.ownBlock ≠ some ag ∧ ag < W.heap.size
theorem CkIn.snoc {w W y : World} {z ag : Nat} {vv kv nv cv u : Value} {l L : List Int} {n : Int} (hz : z = w.heap.size) (h : CkIn w W z vv kv nv cv l ag L) (ho : y.ownsRow (w.heap.size + 1) 3 1 u (l.length + 1) (icells l ++ [.int .i64 n])) (hg : (W.alloc (.cells #[.int .i64 n] 3)).grownBy y cv.ownBlock) (hu : u.ownBlock = cv.ownBlock ∨ u.ownBlock = some (W.heap.size + 1)) : CkIn w y z vv kv nv u (l ++ [n]) ag L := by
  obtain ⟨h1, h2, h3, h4⟩ := h
  have hz2 : (W.alloc (.cells #[.int .i64 n] 3)).heap.size = W.heap.size + 1 := by simp
  have hs := hg.size
  have hb : y.heap[ag]? = W.heap[ag]? := (hg.block ag (by omega) (fun e => h3 e.symm)).trans (((Below.refl _ _).alloc (Nat.le_refl _) (.cells #[.int .i64 n] 3)).block ag h4)
  refine ⟨h1.snoc hz ho hg, fun k x hk => ?_, ?_, by omega⟩
  · have := h2 k x hk
    unfold World.cell? at this ⊢
    simp only at hb this ⊢
    rw [hb]
    exact this
  · rcases hu with e | e
    · rw [e]; exact h3
    · rw [e]
      intro q
      injection q with q
      omega
set_option maxHeartbeats 1000000 in
set_option maxRecDepth 100000 in
theorem ichunksOf (va : Option Addr) (vl vc : Nat) (ad : Option Addr) (len cap : Nat) (nx : Int) (vs : List (Int × Int)) (rs : List Kw) (w : World) (hvl : vl ≤ 1048576) (hl : len ≤ 1048576) (h : VlRow w va vl vs) (hk : KnRd w ad len rs) :
    Calls Tryz.prog 54 #[.agg (SBox va vl vc ad len cap nx)] w (IOut w (chunksS ⟨vs, rs.map ktell, nx⟩)) := by
  have BX := hide (sbox_at w (.slice va vl vc) (.slice ad len cap) (.int .i64 nx))
  have B0 : Hid (Below w.heap.size w (w.alloc (.cells #[.slice va vl vc, .slice ad len cap, .int .i64 nx] 49))) := (Below.refl _ _).alloc (Nat.le_refl _) _
  have HV := hide h
  have HVL := hide h.1
  have HK := hide hk
  obtain ⟨i0, hi, hz0, hz1, hz2⟩ := info_parts infoInt
  have I0 := hide hi
  have Y0 := hide hz0
  have Y1 := hide hz1
  have Y2 := hide hz2
  clear h hk hi hz0 hz1 hz2
  unfold SBox
  go_enter Tryz.func54, Tryz.ntmps54
  go_wp2_with fail
  generalize w.alloc (.cells #[.slice va vl vc, .slice ad len cap, .int .i64 nx] 49) = wb at BX B0 ⊢
  obtain ⟨z, hz⟩ : ∃ z, w.heap.size = z := ⟨_, rfl⟩
  rw [hz] at BX ⊢
  have HZW := hide hz
  clear hz
  have S0 : Hid (CkSt w wb z (.slice va vl vc) (.slice ad len cap) (.int .i64 nx) (.slice none 0 0) []) := ⟨BX.out.1, BX.out.2.1, BX.out.2.2, World.ownsRow_nil _ _ _ _, B0.out⟩
  go_loopw [3, 11] (fun cv kv W => ∃ (k : Nat) (l : List Int), k ≤ vl ∧ kv = .int .i64 k ∧ l.length ≤ 16 * k ∧ Hid (l = chunksK (rs.map ktell) vs k) ∧ Hid (CkSt w W z (.slice va vl vc) (.slice ad len cap) (.int .i64 nx) cv l)) (fun _ kv _ => vl - (intOf kv).toNat)
  case atStart => exact ⟨0, [], Nat.zero_le _, rfl, Nat.le_refl _, (rfl : [] = chunksK (rs.map ktell) vs 0), S0⟩
  case round =>
    obtain ⟨k, l, hkv, rfl, hll, HL, HS⟩ := hrel
    clear S0
    by_cases hlt : (k : Int) < vl
    · obtain ⟨v, hv⟩ : ∃ v, vs[k]? = some v := ⟨_, List.getElem?_eq_getElem (by have := HVL.out; omega)⟩
      obtain ⟨b, off, e, hb, c0, c1⟩ := (HV.out.below HS.out.2.2.2.2).at hv
      subst e
      have k0 : (0 : Int) ≤ k := by omega
      have HKS := hide (chunksK_succ (l := rs.map ktell) hv)
      obtain ⟨y0, y1⟩ := v
      simp only at c0 c1 HKS
      have S1 := hide (HS.out.below ((Below.refl _ _).alloc (Nat.le_refl _) (.cells #[.int .i64 y0, .int .i64 y1] 107)))
      have d1 := cell_of_row _ _ 1 _ _ _ (heap_alloc_new wr (.cells #[.int .i64 y0, .int .i64 y1] 107))
      have d1' : (wr.alloc (.cells #[.int .i64 y0, .int .i64 y1] 107)).cell? ⟨wr.heap.size, 1, none⟩ = some (.int .i64 y1) := d1
      obtain ⟨x0, x1, x2, -, -⟩ := S1.out
      obtain ⟨X0, X1, X2, -, -⟩ := HS.out
      have CA := hide (iallAt ad len cap rs y1 (wr.alloc (.cells #[.int .i64 y0, .int .i64 y1] 107)) (by omega) (HK.out.below S1.out.2.2.2.2))
      have hal : (allT (rs.map ktell) y1).length = 16 := allT_len _ _
      obtain ⟨L, hL⟩ : ∃ L, allT (rs.map ktell) y1 = L := ⟨_, rfl⟩
      rw [hL] at CA hal HKS
      clear hv hL d1
      go_wp2_with fail
      refine CA.out.mono ?_
      rintro e w2 ⟨av, rfl, ao, b2⟩
      have S2 := hide (S1.out.below b2)
      obtain ⟨aa, ac, rfl, har⟩ := (Sli.of ao).form
      obtain ⟨ag, rfl, har1, har2⟩ := har (by omega)
      have S3 : Hid (CkIn w w2 z (.slice (some ⟨b, off, none⟩) vl vc) (.slice ad len cap) (.int .i64 nx) u3 l ag L) := by
        refine ⟨S2.out, fun k x hk => ?_, fun e => ?_, har2⟩
        · rw [← addr_at]
          exact ao.cells (g := ag) rfl k _ (icells_get hk)
        · have := (S1.out.2.2.2.1.lt ag e).2
          omega
      rw [hal]
      have HAL := hide hal
      clear ao b2 har CA S1 S2 x0 x1 x2 X0 X1 X2 HS d1' hal har1 har2
      go_wp2_with fail
      go_loopw [3, 21] (fun cv jv W => ∃ (j : Nat) (l2 : List Int), j ≤ 16 ∧ jv = .int .i64 j ∧ l2.length ≤ 16 * k + j ∧ Hid (l2 = l ++ (L.take j).filter (fun y => decide (1 ≤ y))) ∧ Hid (CkIn w W z (.slice (some ⟨b, off, none⟩) vl vc) (.slice ad len cap) (.int .i64 nx) cv l2 ag L)) (fun _ jv _ => 16 - (intOf jv).toNat)
      case atStart => exact ⟨0, l, Nat.zero_le _, rfl, by omega, (by simp : l = l ++ (L.take 0).filter _), S3⟩
      case round =>
        obtain ⟨j, l2, hj, rfl, hl2, HL2, HS2⟩ := hrel
        clear S3
        by_cases hjl : (j : Int) < 16
        · obtain ⟨x, hx⟩ : ∃ x, L[j]? = some x := ⟨_, List.getElem?_eq_getElem (by have := HAL.out; omega)⟩
          have cx := HS2.out.2.1 j x hx
          have FT := hide (filter_takeC hx)
          have j0 : (0 : Int) ≤ j := by omega
          clear hx
          by_cases h1x : 1 ≤ x
          · have HL3 : Hid (l2 ++ [x] = l ++ (L.take (j + 1)).filter (fun y => decide (1 ≤ y))) := by
              show _ = _
              rw [FT.out, if_pos h1x, ← List.append_assoc, ← HL2.out]
            have OW := hide (own_below HS2.out.1.2.2.2.1 ((Below.refl _ _).alloc (Nat.le_refl _) (.cells #[.int .i64 x] 3)))
            have HSZ : Hid (w.heap.size + 1 ≤ (wr.alloc (.cells #[.int .i64 x] 3)).heap.size) := by
              have := HS2.out.1.2.2.2.2.size
              show _ ≤ _
              simp
              omega
            go_wp2_with (at_builtin; refine wpList_append_own_at _ rfl _ _ 25 rfl (w.heap.size + 1) 3 i0 (.int .i64 0) 1 8 Tryz.underlying25 I0.out Y0.out Y1.out Y2.out rfl (by decide) _ _ _ rfl OW.out ⟨wr.heap.size, 0, none⟩ 1 1 [Value.int .i64 x] rfl rfl (one_cell _ _ _) (one_i64 _) ?c1 ?c2 ?c3 ?_)
            case c1 => unfold maxLen; omega
            case c2 => omega
            case c3 => exact HSZ.out
            intro u' y ho hg _ hu
            have NX := hide (HS2.out.snoc HZW.out.symm ho hg hu)
            have hl3 : (l2 ++ [x]).length ≤ 16 * k + (j + 1) := by simp; omega
            generalize l2 ++ [x] = l3 at HL3 NX hl3
            clear ho hg hu HS2 OW HSZ
            go_wp2
            go_roundw
            case rel => exact ⟨j + 1, l3, by omega, by go_num, hl3, HL3, NX⟩
            case measure => simp [intOf]; omega
          · have HL3 : Hid (l2 = l ++ (L.take (j + 1)).filter (fun y => decide (1 ≤ y))) := by
              show _ = _
              rw [FT.out, if_neg h1x, List.append_nil, ← HL2.out]
            go_wp2
            go_roundw
            case rel => exact ⟨j + 1, l2, by omega, by go_num, by omega, HL3, HS2⟩
            case measure => simp [intOf]; omega
        · have HL3 : Hid (l2 = chunksK (rs.map ktell) vs (k + 1)) := by
            show _ = _
            rw [HKS.out, ← HL.out, HL2.out, List.take_of_length_le (by have := HAL.out; omega)]
          have HS3 := hide HS2.out.1
          go_wp2
          go_roundw
          case rel => exact ⟨k + 1, l2, by omega, by go_num, by omega, HL3, HS3⟩
          case measure => simp [intOf]; omega
    · have HE : Hid (l = chunksS ⟨vs, rs.map ktell, nx⟩) := by
        show _ = _
        rw [HL.out, chunksK, List.take_of_length_le (by have := HVL.out; omega)]
        rfl
      have FIN : Hid (wr.ownsRow w.heap.size 3 1 u3 (chunksS ⟨vs, rs.map ktell, nx⟩).length (icells (chunksS ⟨vs, rs.map ktell, nx⟩)) ∧ Below w.heap.size w wr) := by
        rw [← HE.out]
        exact ⟨own_lower HS.out.2.2.2.1 (by omega), HS.out.2.2.2.2⟩
      go_wp2
      go_ret
      exact ⟨_, rfl, FIN.out.1, FIN.out.2⟩
end Go.Proofs.YtcjgjkejhkhknabGreatDoor
