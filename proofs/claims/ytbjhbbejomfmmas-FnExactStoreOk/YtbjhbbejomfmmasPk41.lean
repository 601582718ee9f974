/-
  ITree; IRootsI; ILeafW
-/
import Derived.Test.YtbjhbbejomfmmasPk40
import Derived.Test.YtbjhbbejomfmmasPk21
import Derived.Test.YtbjhbbejomfmmasPk11
import Derived.Test.YtbjhbbejomfmmasPk36
/-
  impl.ArenaOk; the tree at a root; impl.GetAt.
-/
namespace Go.Proofs.Ytbjhbbejomfmmas
open Go.RowKit
open Words

theorem icells_rep (n : Nat) : List.replicate n (Value.int .i64 0) = icells (List.replicate n 0) := by simp [icells]
theorem icells_set (l : List Int) (k : Nat) (n : Int) : (icells l).set k (.int .i64 n) = icells (l.set k n) := by simp [icells, List.map_set]
/-- The tree of a root stands in block b. -/
def TreeAt (W : World) (b : Nat) (bs : List Nat) (L : List Kn) (r : Int) : Prop :=
  FAt W bs (lksOf bs L) ∧ ((r = -1 ∧ LkAt W b lkNone) ∨ ∃ (m : Nat) (x : Kn), r = (m : Int) ∧ bs[m]? = some b ∧ L[m]? = some x ∧ x.leaf = false)
theorem TreeAt.below {W W' : World} {b : Nat} {bs : List Nat} {L : List Kn} {r : Int} (h : TreeAt W b bs L r) (hb : Below W.heap.size W W') : TreeAt W' b bs L r := by
  obtain ⟨h1, h2⟩ := h
  refine ⟨h1.below hb, ?_⟩
  rcases h2 with ⟨e, h⟩ | h
  · exact .inl ⟨e, h.blw hb⟩
  · exact .inr h
theorem rootB_neg {L : List Kn} {r : Int} (h : rootB L r = false) : r ≠ -1 ∧ (r < 0 ∨ (L.length : Int) ≤ r ∨ ∃ x, L[r.toNat]? = some x ∧ x.leaf = true) := by
  unfold rootB at h
  simp only [Bool.or_eq_false_iff, decide_eq_false_iff_not, Bool.and_eq_false_iff, Bool.not_eq_false'] at h
  refine ⟨h.1, ?_⟩
  rcases h.2 with (h | h) | h
  · exact .inl (by omega)
  · exact .inr (.inl (by omega))
  · obtain ⟨y, hy, hl⟩ := knLeaf_lt h
    exact .inr (.inr ⟨y, hy, hl⟩)
theorem rootB_yes {L : List Kn} {r : Int} (h : rootB L r = true) : r = -1 ∨ ∃ (m : Nat) (x : Kn), r = (m : Int) ∧ L[m]? = some x ∧ x.leaf = false := by
  by_cases h0 : r = -1
  · exact .inl h0
  · have h1 : 0 ≤ r := by
      unfold rootB at h
      simp only [Bool.or_eq_true, Bool.and_eq_true, decide_eq_true_eq] at h
      omega
    obtain ⟨x, hx, hl⟩ := rootB_pos h h1
    exact .inr ⟨r.toNat, x, by omega, hx, hl⟩
/-- What treeAt of a forest answers. -/
def FTOut (w : World) (bs : List Nat) (L : List Kn) (r : Int) (e : Ending) (w' : World) : Prop :=
  Below w.heap.size w w' ∧ ((rootB L r = true ∧ ∃ b, e = .returned (ptr b) ∧ TreeAt w' b bs L r ∧ (r = -1 → w.heap.size ≤ b)) ∨ (rootB L r = false ∧ e = .returned (.pointer none)))
theorem ftree (fa : Option Addr) (n c : Nat) (bs : List Nat) (L : List Kn) (r : Int) (w : World) (hr : PRow w fa n bs) (hf : FAt w bs (lksOf bs L)) :
    Calls Try.prog 90 #[.slice fa n c, .int .i64 r] w (FTOut w bs L r) := by
  cases hR : rootB L r with
  | true =>
    rcases rootB_yes hR with rfl | ⟨m, x, rfl, hx, hl⟩
    · refine (itree_new (.slice fa n c) w).mono ?_
      rintro e w' ⟨rfl, hat, hb⟩
      exact ⟨hb, .inl ⟨hR, _, rfl, ⟨hf.below hb, .inl ⟨rfl, hat⟩⟩, fun _ => Nat.le_refl _⟩⟩
    · have hm : m < bs.length := by rw [hf.1, lksOf_len]; exact (List.getElem?_eq_some_iff.1 hx).1
      refine (itree_at fa n c bs (lksOf bs L) m _ (lkOf bs m x) w hr hf (lksOf_some hx) (List.getElem?_eq_getElem hm) (by rw [lkOf_leaf]; exact hl)).mono ?_
      rintro e w' ⟨rfl, rfl⟩
      exact ⟨Below.refl _ _, .inl ⟨hR, _, rfl, ⟨hf, .inr ⟨m, x, rfl, List.getElem?_eq_getElem hm, hx, hl⟩⟩, fun h => by omega⟩⟩
  | false =>
    obtain ⟨h1, h2⟩ := rootB_neg hR
    have hl : (L.length : Int) = n := by have := hr.1; have := hf.1; rw [lksOf_len] at this; omega
    refine (itree_no fa n c bs (lksOf bs L) r w hr hf h1 ?_).mono ?_
    · rcases h2 with h | h | ⟨x, hx, hl⟩
      · exact .inl h
      · exact .inr (.inl (by omega))
      · exact .inr (.inr ⟨_, lksOf_some hx, by rw [lkOf_leaf]; exact hl⟩)
    · rintro e w' ⟨rfl, rfl⟩
      exact ⟨Below.refl _ _, .inr ⟨hR, rfl⟩⟩
/-- A tree's number at a sector. -/
theorem inum (b : Nat) (bs : List Nat) (L : List Kn) (r : Int) (s : Nat) (w : World) (hs : s ≤ 15) (ha : arB L = true) (h : TreeAt w b bs L r) :
    Calls Try.prog 82 #[ptr b, .int .i64 s] w fun e w' => e = .returned (.int .i64 (getP L r s)) ∧ w' = w := by
  have q4 : s / 4 < 4 := by omega
  have t4 : s % 4 < 4 := by omega
  obtain ⟨hf, ⟨rfl, hat⟩ | ⟨m, x, rfl, hb, hx, hl⟩⟩ := h
  · refine inumAt b lkNone s _ w hs hat (.inl ⟨s / 4, rfl, ?_, ?_⟩)
    · match s / 4, q4 with
      | 0, _ | 1, _ | 2, _ | 3, _ => rfl
    · exact if_pos (by omega)
  · have hat := hf.2 m b _ hb (lksOf_some hx)
    have hlk : lkOf bs m x = ⟨m, false, [0, 0, 0, 0], x.kids.map (kidP bs), false⟩ := by unfold lkOf; rw [if_neg (by rw [hl]; decide)]
    obtain ⟨n, hn, hc⟩ := inner_kid ha (r := (m : Int)) (by rw [Int.toNat_natCast]; exact hx) hl q4
    have hka : kidAt L (m : Int) (s / 4) = n := kidAt_some (by rw [Int.toNat_natCast]; exact hx) hn
    have hto : (lkOf bs m x).tos[s / 4]? = some (kidP bs n) := by
      rw [hlk]
      show (x.kids.map (kidP bs))[s / 4]? = _
      rw [List.getElem?_map, hn]
      rfl
    rcases hc with rfl | ⟨h0, h1, y, hy, hyl, -⟩
    · refine inumAt b _ s _ w hs hat (.inl ⟨s / 4, rfl, hto, ?_⟩)
      rw [getP, if_neg (by omega), hka, if_pos (by omega)]
    · obtain ⟨v, hv, -⟩ := leaf_kid ha hy hyl t4
      have hcl : n.toNat < bs.length := by rw [hf.1, lksOf_len]; exact (List.getElem?_eq_some_iff.1 hy).1
      have hkp : kidP bs n = some bs[n.toNat] := by rw [kidP, if_neg (by omega), List.getElem?_eq_getElem hcl]
      rw [hkp] at hto
      have hat2 := hf.2 n.toNat _ _ (List.getElem?_eq_getElem hcl) (lksOf_some hy)
      have e : getP L (m : Int) s = v := by rw [getP, if_neg (by omega), hka, if_neg (by omega), kidAt_some hy hv]
      rw [e]
      refine inumAt b _ s v w hs hat (.inr ⟨_, _, hto, hat2, ?_⟩)
      unfold lkOf
      rw [if_pos hyl]
      exact hv
/-- What treeAt of an arena answers. -/
def ATOut (w : World) (L : List Kn) (r : Int) (e : Ending) (w' : World) : Prop :=
  Below w.heap.size w w' ∧ ((arB L = true ∧ rootB L r = true ∧ ∃ b bs, e = .returned (ptr b) ∧ TreeAt w' b bs L r) ∨ ((arB L && rootB L r) = false ∧ e = .returned (.pointer none)))
set_option maxHeartbeats 400000 in
set_option maxRecDepth 100000 in
theorem iatree (ad : Option Addr) (len cap : Nat) (rs : List Kw) (r : Int) (w : World) (hl : len ≤ 1048578) (h : KnRd w ad len rs) :
    Calls Try.prog 80 #[.agg #[.slice ad len cap], .int .i64 r] w (ATOut w (rs.map ktell) r) := by
  have bx := box_at w (.slice ad len cap)
  have B0 : Hid (Below w.heap.size w (w.alloc (.cells #[.slice ad len cap] 25))) := (Below.refl _ _).alloc (Nat.le_refl _) _
  have H := hide (h.below B0.out)
  clear h
  go_enter Try.func80, Try.ntmps80
  go_wp2_with fail
  refine (ilinked ad len cap rs _ hl H.out).mono ?_
  rintro e w1 ⟨b1, h1⟩
  have HB : Hid (Below w.heap.size w w1) := B0.out.trans (b1.mono B0.out.size)
  clear b1
  rcases h1 with ⟨hA, v, bs, rfl, hF⟩ | ⟨hA, rfl⟩
  · have HA := hide hA
    have HF := hide hF
    obtain ⟨fa, fc, rfl, hpr⟩ := PRow.of (bs := bs) (by rw [hF.2.1]; exact hF.1)
    have HP := hide hpr
    clear hA hF hpr bx
    go_wp2_with fail
    refine (ftree fa _ fc bs (rs.map ktell) r w1 HP.out HF.out.2.2.1).mono ?_
    rintro e w2 ⟨b2, h2⟩
    have HB2 : Hid (Below w.heap.size w w2) := HB.out.trans (b2.mono HB.out.size)
    clear b2
    rcases h2 with ⟨hR, b, rfl, hT, -⟩ | ⟨hR, rfl⟩
    · have HR := hide hR
      have HT := hide hT
      clear hR hT
      unfold ptr
      go_wp2
      go_ret
      exact ⟨HB2.out, .inl ⟨HA.out, HR.out, b, bs, rfl, HT.out⟩⟩
    · have HR := hide hR
      clear hR
      go_wp2
      go_ret
      exact ⟨HB2.out, .inr ⟨by rw [HA.out, HR.out]; rfl, rfl⟩⟩
  · have HA := hide hA
    clear hA
    go_wp2
    go_ret
    exact ⟨HB.out, .inr ⟨by rw [HA.out]; rfl, rfl⟩⟩
set_option maxHeartbeats 400000 in
set_option maxRecDepth 100000 in
theorem isect (s : Int) (w : World) : Calls Try.prog 81 #[.int .i64 s] w fun e w' => e = .returned (.bool (decide (0 ≤ s ∧ s ≤ 15))) ∧ w' = w := by
  by_cases h0 : 0 ≤ s
  · by_cases h1 : s ≤ 15
    · rw [decide_eq_true ⟨h0, h1⟩]
      go_enter Try.func81, Try.ntmps81
      go_wp2
      go_ret
      exact ⟨rfl, rfl⟩
    · rw [decide_eq_false (fun h => h1 h.2)]
      go_enter Try.func81, Try.ntmps81
      go_wp2
      go_ret
      exact ⟨rfl, rfl⟩
  · rw [decide_eq_false (fun h => h0 h.1)]
    go_enter Try.func81, Try.ntmps81
    go_wp2
    go_ret
    exact ⟨rfl, rfl⟩
set_option maxHeartbeats 1000000 in
set_option maxRecDepth 100000 in
theorem igetAt : GetC 57 := by
  intro ad len cap rs r s w hl h
  have bx := box_at w (.slice ad len cap)
  have B0 : Hid (Below w.heap.size w (w.alloc (.cells #[.slice ad len cap] 25))) := (Below.refl _ _).alloc (Nat.le_refl _) _
  have H := hide (h.below B0.out)
  clear h
  obtain ⟨L, hL⟩ : ∃ L, rs.map ktell = L := ⟨_, rfl⟩
  have HL := hide hL
  rw [hL]
  clear hL
  go_enter Try.func57, Try.ntmps57
  go_wp2_with fail
  refine (iatree ad len cap rs r _ hl H.out).mono ?_
  rw [HL.out]
  rintro e w1 ⟨b1, h1⟩
  have HB : Hid (Below w.heap.size w w1) := B0.out.trans (b1.mono B0.out.size)
  clear b1
  rcases h1 with ⟨hA, hR, b, bs, rfl, hT⟩ | ⟨hA, rfl⟩
  · have HA := hide hA
    have HR := hide hR
    have HT := hide hT
    clear hA hR hT bx
    unfold ptr
    go_wp2_with fail
    refine (isect s w1).mono ?_
    rintro e w2 ⟨rfl, rfl⟩
    by_cases hin : 0 ≤ s ∧ s ≤ 15
    · have E : Hid (getT L r s = getP L r s.toNat) := if_pos (by rw [askB, HA.out, HR.out, decide_eq_true hin.1, decide_eq_true hin.2]; rfl)
      rw [decide_eq_true hin]
      obtain ⟨t, rfl⟩ : ∃ t : Nat, s = (t : Int) := ⟨s.toNat, by omega⟩
      simp only [Int.toNat_natCast] at E
      have ht : t ≤ 15 := by omega
      clear hin
      go_wp2_with fail
      refine (inum b bs L r t w2 ht HA.out HT.out).mono ?_
      rintro e w3 ⟨rfl, rfl⟩
      go_wp2
      go_ret
      exact ⟨congrArg (fun q => Ending.returned (.int .i64 q)) E.out.symm, HB.out⟩
    · have E : Hid (getT L r s = 0) := if_neg (by
        rw [askB]
        simp only [Bool.and_eq_true, decide_eq_true_eq]
        rintro ⟨-, h1, h2⟩
        exact hin ⟨h1, h2⟩)
      rw [decide_eq_false hin]
      clear hin
      go_wp2
      go_ret
      exact ⟨congrArg (fun q => Ending.returned (.int .i64 q)) E.out.symm, HB.out⟩
  · have E : Hid (getT L r s = 0) := if_neg (by rw [askB, hA]; simp)
    clear hA
    go_wp2
    go_ret
    exact ⟨congrArg (fun q => Ending.returned (.int .i64 q)) E.out.symm, HB.out⟩
end Go.Proofs.Ytbjhbbejomfmmas

/-
  roots, of a store that is worked on.
-/
namespace Go.Proofs.Ytbjhbbejomfmmas
open Go.RowKit
open Words

set_option maxHeartbeats 1000000 in
set_option maxRecDepth 100000 in
theorem irootsO (p : Nat) (s : Sto) (w W : World) (hn : s.vols.length ≤ 1048576) (h : OpS w W p s) :
    Calls Try.prog 72 #[.pointer (some ⟨p, 0, none⟩)] W (IOut W (rootsV s.vols)) := by
  obtain ⟨i0, hi, hz0, hz1, hz2⟩ := info_parts infoInt
  obtain ⟨ad, len, cap, rs, va, vl, vc, hc, e1, hl, hll, hk, hv, ho, hvl, hkh⟩ := h.open
  obtain ⟨c0, c1, c2, -⟩ := ops_cells hc
  have HO := hide h
  have HVL := hide hvl
  have HP := hide h.lt
  have HVR := hide hv
  rw [hvl] at hn
  clear h hc e1 hl hll hk hv ho hvl hkh c0 c2
  go_enter Try.func72, Try.ntmps72
  go_wp2_with (at_make; refine wpList_make_full _ rfl _ _ 64 rfl W.heap.size 3 i0 (.int .i64 0) 1 Try.underlying64 hi hz0 hz1 .i64 .i64 _ _ vl rfl rfl rfl rfl (by rw [hz2]; omega) (by unfold maxLen; omega) (by simp) ?_)
  intro w1 hown hgrow
  rw [toList_madeCells_one, icells_rep] at hown
  have B1 : Hid (Below W.heap.size W w1) := (Below.refl _ _).grown hgrow (Nat.le_refl _) (fun k hk => by cases hk)
  have O1 := hide hown
  have d1 := (B1.out.cell (show p < W.heap.size from HP.out)).trans c1
  have VR1 := hide (HVR.out.below B1.out)
  have P1 : Hid (p < w1.heap.size) := by have := B1.out.size; have := HP.out; show _ < _; omega
  have HG : Hid (W.heap.size < w1.heap.size) := (own_kind hown W.heap.size rfl).2.1
  clear hown hgrow hi hz0 hz1 hz2
  obtain ⟨g, hg⟩ : ∃ g, W.heap.size = g := ⟨_, rfl⟩
  have HGW := hide hg
  rw [hg] at O1 HG ⊢
  clear hg c1
  have ST : Hid (w1.ownsRow g 3 1 (.slice (some ⟨g, 0, none⟩) vl vl) vl (icells ((rootsV s.vols).take 0 ++ (List.replicate vl 0).drop 0)) ∧ Below W.heap.size W w1) := ⟨O1.out, B1.out⟩
  clear O1
  go_wp2_with fail
  go_loopw [17] (fun kv V => ∃ k : Nat, k ≤ vl ∧ kv = .int .i64 k ∧ Hid (V.ownsRow g 3 1 (.slice (some ⟨g, 0, none⟩) vl vl) vl (icells ((rootsV s.vols).take k ++ (List.replicate vl 0).drop k)) ∧ Below W.heap.size W V)) (fun kv _ => vl - (intOf kv).toNat)
  case atStart => exact ⟨0, Nat.zero_le _, rfl, ST⟩
  case round =>
    obtain ⟨k, hk, rfl, HS⟩ := hrel
    clear ST
    by_cases hlt : (k : Int) < vl
    · have hkv : k < vl := by omega
      obtain ⟨v, hv⟩ : ∃ v, s.vols[k]? = some v := ⟨_, List.getElem?_eq_getElem (by have := HVL.out; omega)⟩
      obtain ⟨b, off, e, hb, c0, c1⟩ := (HVR.out.below HS.out.2).at hv
      subst e
      have k0 : (0 : Int) ≤ k := by omega
      have oc : wr.cell? ⟨g, k, none⟩ = some (.int .i64 0) := by
        rw [← addr_at]
        refine HS.out.1.cells (g := g) rfl k _ (icells_get ?_)
        rw [part_at (by rw [rootsV, List.length_map, HVL.out]; exact hkv), List.getElem?_replicate, if_pos hkv]
      have of : wr.frozen? ⟨g, k, none⟩ = false := by
        obtain ⟨-, -, cs, q⟩ := own_kind HS.out.1 g rfl
        exact frozen_of_row _ _ k _ _ q
      obtain ⟨x0, x1⟩ := v
      simp only at c0 c1
      have hgw : g < wr.heap.size := (own_kind HS.out.1 g rfl).2.1
      have BA2 : Below wr.heap.size wr (wr.alloc (.cells #[.int .i64 x0, .int .i64 x1] 61)) := (Below.refl _ _).alloc (Nat.le_refl _) _
      have oc2 := (BA2.cell (show g < wr.heap.size from hgw)).trans oc
      have of2 := (BA2.frozen (p := ⟨g, k, none⟩) (show g < wr.heap.size from hgw)).trans of
      clear BA2
      have NX : Hid (((wr.setCell ⟨g, k, none⟩ (.int .i64 x1)).alloc (.cells #[.int .i64 x0, .int .i64 x1] 61)).ownsRow g 3 1 (.slice (some ⟨g, 0, none⟩) vl vl) vl (icells ((rootsV s.vols).take (k + 1) ++ (List.replicate vl 0).drop (k + 1))) ∧ Below W.heap.size W ((wr.setCell ⟨g, k, none⟩ (.int .i64 x1)).alloc (.cells #[.int .i64 x0, .int .i64 x1] 61))) := by
        have hg := HGW.out
        have h1 := fown_set HS.out.1 rfl k (.int .i64 x1)
        rw [icells_set, part_set (v := x1) (by rw [rootsV, List.getElem?_map, hv]; rfl) (by rw [rootsV, List.length_map, HVL.out]; simp)] at h1
        have h2 : Below W.heap.size W (wr.setCell ⟨g, k, none⟩ (.int .i64 x1)) := HS.out.2.setCell (p := ⟨g, k, none⟩) (by show _ ≤ g; omega) _
        exact ⟨own_below h1 ((Below.refl _ _).alloc (Nat.le_refl _) _), h2.alloc h2.size _⟩
      clear hv HS
      go_wp2
      go_roundw
      case rel => exact ⟨k + 1, by omega, by go_num, NX⟩
      case measure => simp [intOf]; omega
    · have ek : k = vl := by omega
      subst ek
      have FIN : Hid (wr.ownsRow W.heap.size 3 1 (.slice (some ⟨g, 0, none⟩) k k) (rootsV s.vols).length (icells (rootsV s.vols)) ∧ Below W.heap.size W wr) := by
        refine ⟨?_, HS.out.2⟩
        have h1 := HS.out.1
        have e : (rootsV s.vols).length = k := by rw [rootsV, List.length_map, HVL.out]
        rw [List.take_of_length_le (by omega)] at h1
        have e2 : (List.replicate k (0 : Int)).drop k = [] := by simp
        rw [e2, List.append_nil] at h1
        rw [e, HGW.out]
        exact h1
      clear HS
      go_wp2
      go_ret
      exact ⟨_, rfl, FIN.out.1, FIN.out.2⟩
end Go.Proofs.Ytbjhbbejomfmmas

/-
  impl's linked knots: a leaf with one more number.
-/
namespace Go.Proofs.Ytbjhbbejomfmmas
open Go.RowKit
open Words

theorem set4 (a b c d n : Int) (t : Nat) (h : t < 4) : True → (t = 0 ∧ [a, b, c, d].set t n = [n, b, c, d]) ∨ (t = 1 ∧ [a, b, c, d].set t n = [a, n, c, d]) ∨ (t = 2 ∧ [a, b, c, d].set t n = [a, b, n, d]) ∨ (t = 3 ∧ [a, b, c, d].set t n = [a, b, c, n]) := by
  intro _
  match t, h with
  | 0, _ => exact .inl ⟨rfl, rfl⟩
  | 1, _ => exact .inr (.inl ⟨rfl, rfl⟩)
  | 2, _ => exact .inr (.inr (.inl ⟨rfl, rfl⟩))
  | 3, _ => exact .inr (.inr (.inr ⟨rfl, rfl⟩))

set_option maxHeartbeats 2000000 in
set_option maxRecDepth 100000 in
theorem ileafWith (b : Nat) (x : Lk) (s : Nat) (n : Int) (old : List Int) (w : World) (hs : s ≤ 15) (h : LkAt w b x) (ho : (∃ k, k = s / 4 ∧ x.tos[k]? = some none ∧ old = [0, 0, 0, 0]) ∨ ∃ c y, x.tos[s / 4]? = some (some c) ∧ LkAt w c y ∧ y.nums = old) :
    Calls Try.prog 113 #[ptr b, .int .i64 s, .int .i64 n] w fun e w' => e = .returned (ptr w.heap.size) ∧ LkAt w' w.heap.size ⟨0, true, old.set (s % 4) n, [none, none, none, none], false⟩ ∧ Below w.heap.size w w' := by
  obtain ⟨q, hq⟩ : ∃ q, s / 4 = q := ⟨_, rfl⟩
  obtain ⟨t, ht⟩ : ∃ t, s % 4 = t := ⟨_, rfl⟩
  rw [hq] at ho
  rw [ht]
  have tq : (s : Int).tdiv 4 = (q : Int) := by rw [Int.tdiv_eq_ediv_of_nonneg (by omega)]; omega
  have tt : (s : Int).tmod 4 = (t : Int) := by rw [Int.tmod_eq_emod_of_nonneg (by omega)]; omega
  have tq2 : (s : Int) / 4 = (q : Int) := by omega
  have tt2 : (s : Int) % 4 = (t : Int) := by omega
  have q0 : (0 : Int) ≤ q := by omega
  have q4 : (q : Int) < 4 := by omega
  have t4 : t < 4 := by omega
  have hB : Below w.heap.size w (w.alloc (.cells #[.int .i64 0, .bool true, .int .i64 0, .int .i64 0, .int .i64 0, .int .i64 0, .pointer none, .pointer none, .pointer none, .pointer none, .bool false] 109)) := (Below.refl _ _).alloc (Nat.le_refl _) _
  rcases ho with ⟨k, rfl, hk, rfl⟩ | ⟨c, y, hk, hy, rfl⟩
  · have c1 := (h.blw hB).to hk
    have c2 : (w.alloc (.cells #[.int .i64 0, .bool true, .int .i64 0, .int .i64 0, .int .i64 0, .int .i64 0, .pointer none, .pointer none, .pointer none, .pointer none, .bool false] 109)).cell? ⟨b, 6 + k, none⟩ = some (.pointer none) := c1
    clear h hk hq ht hB c1
    unfold ptr
    rcases set4 0 0 0 0 n t t4 trivial with ⟨rfl, e⟩ | ⟨rfl, e⟩ | ⟨rfl, e⟩ | ⟨rfl, e⟩
    all_goals
      rw [e]
      clear e t4
      go_enter Try.func113, Try.ntmps113
      go_wp2
      go_ret
      exact ⟨rfl, ⟨heap_alloc_new w _, rfl, rfl⟩, (Below.refl _ _).alloc (Nat.le_refl _) _⟩
  · obtain ⟨n0, n1, n2, n3, hn⟩ := list4 hy.2.1
    have c1 := (h.blw hB).to hk
    have c2 : (w.alloc (.cells #[.int .i64 0, .bool true, .int .i64 0, .int .i64 0, .int .i64 0, .int .i64 0, .pointer none, .pointer none, .pointer none, .pointer none, .bool false] 109)).cell? ⟨b, 6 + q, none⟩ = some (.pointer (some ⟨c, 0, none⟩)) := c1
    have d0 := (hy.blw hB).num (k := 0) (n := n0) (by rw [hn]; rfl)
    have d1 := (hy.blw hB).num (k := 1) (n := n1) (by rw [hn]; rfl)
    have d2 := (hy.blw hB).num (k := 2) (n := n2) (by rw [hn]; rfl)
    have d3 := (hy.blw hB).num (k := 3) (n := n3) (by rw [hn]; rfl)
    simp only [Nat.reduceAdd] at d0 d1 d2 d3
    rw [hn]
    clear h hk hq ht hB c1 hy hn
    unfold ptr
    rcases set4 n0 n1 n2 n3 n t t4 trivial with ⟨rfl, e⟩ | ⟨rfl, e⟩ | ⟨rfl, e⟩ | ⟨rfl, e⟩
    all_goals
      rw [e]
      clear e t4
      go_enter Try.func113, Try.ntmps113
      go_wp2
      go_ret
      exact ⟨rfl, ⟨heap_alloc_new w _, rfl, rfl⟩, (Below.refl _ _).alloc (Nat.le_refl _) _⟩
end Go.Proofs.Ytbjhbbejomfmmas
