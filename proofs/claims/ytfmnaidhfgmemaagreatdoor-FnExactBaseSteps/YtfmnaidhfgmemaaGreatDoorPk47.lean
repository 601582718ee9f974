/-
  ITree; IAll; RowBk; IBase
-/
import Derived.Test.YtfmnaidhfgmemaaGreatDoorPk2
import Derived.Test.YtfmnaidhfgmemaaGreatDoorPk46
import Derived.Test.YtfmnaidhfgmemaaGreatDoorPk27
import Derived.Test.YtfmnaidhfgmemaaGreatDoorPk9
import Derived.Test.YtfmnaidhfgmemaaGreatDoorPk0
import Derived.Test.YtfmnaidhfgmemaaGreatDoorPk1
import Derived.Maps.AppendAt
namespace Go.Proofs.YtfmnaidhfgmemaaGreatDoor
open Go.RowKit
open Words
theorem icells_rep (n : Nat) : List.replicate n (Value.int .i64 0) = icells (List.replicate n 0) := by simp [icells]
def TreeAt (W : World) (b : Nat) (bs : List Nat) (L : List Kn) (r : Int) : Prop :=
  FAt W bs (lksOf bs L) ∧ ((r = -1 ∧ LkAt W b lkNone) ∨ ∃ (m : Nat) (x : Kn), r = (m : Int) ∧ bs[m]? = some b ∧ L[m]? = some x ∧ x.leaf = false)
theorem rootB_neg {L : List Kn} {r : Int} (h : rootB L r = false) : r ≠ -1 ∧ (r < 0 ∨ (L.length : Int) ≤ r ∨ ∃ x, L[r.toNat]? = some x ∧ x.leaf = true) := by
  unfold rootB at h
  simp only [Bool.or_eq_false_iff, decide_eq_false_iff_not, Bool.and_eq_false_iff, Bool.not_eq_false'] at h
  refine ⟨h.1, ?_⟩
  rcases h.2 with (h | h) | h
  · exact .inl (by omega)
  · exact .inr (.inl (by omega))
  · obtain ⟨y, hy, hl⟩ := knLeaf_lt h
    exact .inr (.inr ⟨y, hy, hl⟩)
theorem rootB_yes {L : List Kn} {r : Int} (h : rootB L r = true) : r = -1 ∨ ∃ (m : Nat) (x : Kn), r = (m : Int) ∧ L[m]? = some x ∧ x.leaf = false := by
  by_cases h0 : r = -1
  · exact .inl h0
  · have h1 : 0 ≤ r := by
      unfold rootB at h
      simp only [Bool.or_eq_true, Bool.and_eq_true, decide_eq_true_eq] at h
      omega
    obtain ⟨x, hx, hl⟩ := rootB_pos h h1
    exact .inr ⟨r.toNat, x, by omega, hx, hl⟩
def FTOut (w : World) (bs : List Nat) (L : List Kn) (r : Int) (e : Ending) (w' : World) : Prop :=
  Below w.heap.size w w' ∧ ((rootB L r = true ∧ ∃ b, e = .returned (ptr b) ∧ TreeAt w' b bs L r ∧ (r = -1 → w.heap.size ≤ b)) ∨ (rootB L r = false ∧ e = .returned (.pointer none)))
theorem ftree (fa : Option Addr) (n c : Nat) (bs : List Nat) (L : List Kn) (r : Int) (w : World) (hr : PRow w fa n bs) (hf : FAt w bs (lksOf bs L)) :
    Calls Tryz.prog 118 #[.slice fa n c, .int .i64 r] w (FTOut w bs L r) := by
  cases hR : rootB L r with
  | true =>
    rcases rootB_yes hR with rfl | ⟨m, x, rfl, hx, hl⟩
    · refine (itree_new (.slice fa n c) w).mono ?_
      rintro e w' ⟨rfl, hat, hb⟩
      exact ⟨hb, .inl ⟨hR, _, rfl, ⟨hf.below hb, .inl ⟨rfl, hat⟩⟩, fun _ => Nat.le_refl _⟩⟩
    · have hm : m < bs.length := by rw [hf.1, lksOf_len]; exact (List.getElem?_eq_some_iff.1 hx).1
      refine (itree_at fa n c bs (lksOf bs L) m _ (lkOf bs m x) w hr hf (lksOf_some hx) (List.getElem?_eq_getElem hm) (by rw [lkOf_leaf]; exact hl)).mono ?_
      rintro e w' ⟨rfl, rfl⟩
      exact ⟨Below.refl _ _, .inl ⟨hR, _, rfl, ⟨hf, .inr ⟨m, x, rfl, List.getElem?_eq_getElem hm, hx, hl⟩⟩, fun h => by omega⟩⟩
  | false =>
    obtain ⟨h1, h2⟩ := rootB_neg hR
    have hl : (L.length : Int) = n := by have := hr.1; have := hf.1; rw [lksOf_len] at this; omega
    refine (itree_no fa n c bs (lksOf bs L) r w hr hf h1 ?_).mono ?_
    · rcases h2 with h | h | ⟨x, hx, hl⟩
      · exact .inl h
      · exact .inr (.inl (by omega))
      · exact .inr (.inr ⟨_, lksOf_some hx, by rw [lkOf_leaf]; exact hl⟩)
    · rintro e w' ⟨rfl, rfl⟩
      exact ⟨Below.refl _ _, .inr ⟨hR, rfl⟩⟩
theorem inum (b : Nat) (bs : List Nat) (L : List Kn) (r : Int) (s : Nat) (w : World) (hs : s ≤ 15) (ha : arB L = true) (h : TreeAt w b bs L r) :
    Calls Tryz.prog 79 #[ptr b, .int .i64 s] w fun e w' => e = .returned (.int .i64 (getP L r s)) ∧ w' = w := by
  have q4 : s / 4 < 4 := by omega
  have t4 : s % 4 < 4 := by omega
  obtain ⟨hf, ⟨rfl, hat⟩ | ⟨m, x, rfl, hb, hx, hl⟩⟩ := h
  · refine inumAt b lkNone s _ w hs hat (.inl ⟨s / 4, rfl, ?_, ?_⟩)
    · match s / 4, q4 with
      | 0, _ | 1, _ | 2, _ | 3, _ => rfl
    · exact if_pos (by omega)
  · have hat := hf.2 m b _ hb (lksOf_some hx)
    have hlk : lkOf bs m x = ⟨m, false, [0, 0, 0, 0], x.kids.map (kidP bs), false⟩ := by unfold lkOf; rw [if_neg (by rw [hl]; decide)]
    obtain ⟨n, hn, hc⟩ := inner_kid ha (r := (m : Int)) (by rw [Int.toNat_natCast]; exact hx) hl q4
    have hka : kidAt L (m : Int) (s / 4) = n := kidAt_some (by rw [Int.toNat_natCast]; exact hx) hn
    have hto : (lkOf bs m x).tos[s / 4]? = some (kidP bs n) := by
      rw [hlk]
      show (x.kids.map (kidP bs))[s / 4]? = _
      rw [List.getElem?_map, hn]
      rfl
    rcases hc with rfl | ⟨h0, h1, y, hy, hyl, -⟩
    · refine inumAt b _ s _ w hs hat (.inl ⟨s / 4, rfl, hto, ?_⟩)
      rw [getP, if_neg (by omega), hka, if_pos (by omega)]
    · obtain ⟨v, hv, -⟩ := leaf_kid ha hy hyl t4
      have hcl : n.toNat < bs.length := by rw [hf.1, lksOf_len]; exact (List.getElem?_eq_some_iff.1 hy).1
      have hkp : kidP bs n = some bs[n.toNat] := by rw [kidP, if_neg (by omega), List.getElem?_eq_getElem hcl]
      rw [hkp] at hto
      have hat2 := hf.2 n.toNat _ _ (List.getElem?_eq_getElem hcl) (lksOf_some hy)
      have e : getP L (m : Int) s = v := by rw [getP, if_neg (by omega), hka, if_neg (by omega), kidAt_some hy hv]
      rw [e]
      refine inumAt b _ s v w hs hat (.inr ⟨_, _, hto, hat2, ?_⟩)
      unfold lkOf
      rw [if_pos hyl]
      exact hv
def ATOut (w : World) (L : List Kn) (r : Int) (e : Ending) (w' : World) : Prop :=
  Below w.heap.size w w' ∧ ((arB L = true ∧ rootB L r = true ∧ ∃ b bs, e = .returned (ptr b) ∧ TreeAt w' b bs L r) ∨ ((arB L && rootB L r) = false ∧ e = .returned (.pointer none)))
set_option maxHeartbeats 400000 in
set_option maxRecDepth 100000 in
theorem iatree (ad : Option Addr) (len cap : Nat) (rs : List Kw) (r : Int) (w : World) (hl : len ≤ 1048578) (h : KnRd w ad len rs) :
    Calls Tryz.prog 78 #[.agg #[.slice ad len cap], .int .i64 r] w (ATOut w (rs.map ktell) r) := by
  have bx := box_at w (.slice ad len cap)
  have B0 : Hid (Below w.heap.size w (w.alloc (.cells #[.slice ad len cap] 43))) := (Below.refl _ _).alloc (Nat.le_refl _) _
  have H := hide (h.below B0.out)
  clear h
  go_enter Tryz.func78, Tryz.ntmps78
  go_wp2_with fail
  refine (ilinked ad len cap rs _ hl H.out).mono ?_
  rintro e w1 ⟨b1, h1⟩
  have HB : Hid (Below w.heap.size w w1) := B0.out.trans (b1.mono B0.out.size)
  clear b1
  rcases h1 with ⟨hA, v, bs, rfl, hF⟩ | ⟨hA, rfl⟩
  · have HA := hide hA
    have HF := hide hF
    obtain ⟨fa, fc, rfl, hpr⟩ := PRow.of (bs := bs) (by rw [hF.2.1]; exact hF.1)
    have HP := hide hpr
    clear hA hF hpr bx
    go_wp2_with fail
    refine (ftree fa _ fc bs (rs.map ktell) r w1 HP.out HF.out.2.2.1).mono ?_
    rintro e w2 ⟨b2, h2⟩
    have HB2 : Hid (Below w.heap.size w w2) := HB.out.trans (b2.mono HB.out.size)
    clear b2
    rcases h2 with ⟨hR, b, rfl, hT, -⟩ | ⟨hR, rfl⟩
    · have HR := hide hR
      have HT := hide hT
      clear hR hT
      unfold ptr
      go_wp2
      go_ret
      exact ⟨HB2.out, .inl ⟨HA.out, HR.out, b, bs, rfl, HT.out⟩⟩
    · have HR := hide hR
      clear hR
      go_wp2
      go_ret
      exact ⟨HB2.out, .inr ⟨by rw [HA.out, HR.out]; rfl, rfl⟩⟩
  · have HA := hide hA
    clear hA
    go_wp2
    go_ret
    exact ⟨HB.out, .inr ⟨by rw [HA.out]; rfl, rfl⟩⟩
end Go.Proofs.YtfmnaidhfgmemaaGreatDoor

namespace Go.Proofs.YtfmnaidhfgmemaaGreatDoor
open Go.RowKit
open Words
theorem allT_at (L : List Kn) (r : Int) {k : Nat} (h : k < 16) : (allT L r)[k]? = some (getT L r (k : Int)) := by
  rw [allT, List.getElem?_map, List.getElem?_range h]
  rfl
theorem allT_no {L : List Kn} {r : Int} (h : (arB L && rootB L r) = false) : allT L r = List.replicate 16 0 := by
  refine List.eq_replicate_iff.2 ⟨allT_len L r, fun n hn => ?_⟩
  obtain ⟨s, -, rfl⟩ := List.mem_map.1 hn
  exact if_neg (by rw [askB, h]; simp)
set_option maxHeartbeats 1000000 in
set_option maxRecDepth 100000 in
theorem iallAt : AllC 50 := by
  intro ad len cap rs r w hl h
  obtain ⟨i0, hi, hz0, hz1, hz2⟩ := info_parts infoInt
  have BX := hide (box_at w (.slice ad len cap))
  have bx := BX.out
  have B0 : Hid (Below w.heap.size w (w.alloc (.cells #[.slice ad len cap] 43))) := (Below.refl _ _).alloc (Nat.le_refl _) _
  have H := hide (h.below B0.out)
  clear h
  obtain ⟨L, hL⟩ : ∃ L, rs.map ktell = L := ⟨_, rfl⟩
  have HL := hide hL
  rw [hL]
  clear hL
  go_enter Tryz.func50, Tryz.ntmps50
  go_wp2_with (at_make; refine wpList_make_full _ rfl _ _ 54 rfl (w.heap.size + 1) 3 i0 (.int .i64 0) 1 Tryz.underlying54 hi hz0 hz1 .i64 .i64 _ _ 16 rfl rfl rfl rfl (by rw [hz2]; omega) (by unfold maxLen; omega) (by simp) ?_)
  intro w1 hown hgrow
  rw [toList_madeCells_one, icells_rep] at hown
  clear hi hz0 hz1 hz2
  have BG : Hid (Below (w.alloc (.cells #[.slice ad len cap] 43)).heap.size (w.alloc (.cells #[.slice ad len cap] 43)) w1) := (Below.refl _ _).grown hgrow (Nat.le_refl _) (fun k hk => by cases hk)
  have HSZ : Hid ((w.alloc (.cells #[.slice ad len cap] 43)).heap.size = w.heap.size + 1) := by show _ = _; simp
  have HO := hide hown
  have bx1 := (BG.out.cell (show w.heap.size < (w.alloc (.cells #[.slice ad len cap] 43)).heap.size by simp)).trans BX.out
  have H1 := hide (H.out.below BG.out)
  have B1 : Hid (Below w.heap.size w w1) := B0.out.trans (BG.out.mono B0.out.size)
  clear hown hgrow bx BX BG B0 H HSZ
  obtain ⟨z, hz⟩ : ∃ z, w.heap.size = z := ⟨_, rfl⟩
  have HZ := hide hz
  rw [hz] at HO bx1 ⊢
  clear hz
  go_wp2_with fail
  refine (iatree ad len cap rs r w1 hl H1.out).mono ?_
  rw [HL.out]
  rintro e w2 ⟨b2, h2⟩
  have HO2 := hide (own_below HO.out b2)
  have B2 : Hid (Below w.heap.size w w2) := B1.out.trans (b2.mono B1.out.size)
  clear b2 HO B1 H1 bx1
  rcases h2 with ⟨hA, hR, b, bs, rfl, hT⟩ | ⟨hA, rfl⟩
  · have HA := hide hA
    have HR := hide hR
    have S0 : Hid (∃ xs : List Int, xs = (allT L r).take 0 ++ (List.replicate 16 0).drop 0 ∧ w2.ownsRow (z + 1) 3 1 (.slice (some ⟨z + 1, 0, none⟩) 16 16) 16 (icells xs) ∧ TreeAt w2 b bs L r ∧ Below w.heap.size w w2) := ⟨_, rfl, HO2.out, hT, B2.out⟩
    clear hA hR hT HO2
    unfold ptr
    go_wp2
    go_loopw [17] (fun iv W => ∃ k : Nat, k ≤ 16 ∧ iv = .int .i64 k ∧ Hid (∃ xs : List Int, xs = (allT L r).take k ++ (List.replicate 16 0).drop k ∧ W.ownsRow (z + 1) 3 1 (.slice (some ⟨z + 1, 0, none⟩) 16 16) 16 (icells xs) ∧ TreeAt W b bs L r ∧ Below w.heap.size w W)) (fun iv _ => 16 - (intOf iv).toNat)
    case atStart => exact ⟨0, by omega, rfl, S0⟩
    case round =>
      obtain ⟨k, hk, rfl, HS⟩ := hrel
      clear S0
      by_cases hlt : (k : Int) < 16
      · have hk16 : k < 16 := by omega
        obtain ⟨xs, hxs, ho, ht, hb⟩ := HS.out
        have HT := hide ht
        have k0 : (0 : Int) ≤ k := by omega
        have hx0 : xs[k]? = some 0 := by rw [hxs, part_at (by rw [allT_len]; exact hk16), List.getElem?_replicate, if_pos hk16]
        have oc : wr.cell? ⟨z + 1, k, none⟩ = some (.int .i64 0) := by
          rw [← addr_at]
          exact ho.cells (g := z + 1) rfl k _ (icells_get hx0)
        have of : wr.frozen? ⟨z + 1, k, none⟩ = false := by
          obtain ⟨-, -, cs, q⟩ := own_kind ho (z + 1) rfl
          exact frozen_of_row _ _ k _ _ q
        have HN : Hid (∃ xs : List Int, xs = (allT L r).take (k + 1) ++ (List.replicate 16 0).drop (k + 1) ∧ (wr.setCell ⟨z + 1, k, none⟩ (.int .i64 (getP L r k))).ownsRow (z + 1) 3 1 (.slice (some ⟨z + 1, 0, none⟩) 16 16) 16 (icells xs) ∧ TreeAt (wr.setCell ⟨z + 1, k, none⟩ (.int .i64 (getP L r k))) b bs L r ∧ Below w.heap.size w (wr.setCell ⟨z + 1, k, none⟩ (.int .i64 (getP L r k)))) := by
          have hg : getT L r (k : Int) = getP L r k := if_pos (by rw [askB, HA.out, HR.out, decide_eq_true (show (0 : Int) ≤ k by omega), decide_eq_true (show (k : Int) ≤ 15 by omega)]; rfl)
          refine ⟨xs.set k (getP L r k), ?_, by rw [← icells_set]; exact fown_set ho rfl k _, ?_, hb.setCell (p := ⟨z + 1, k, none⟩) (by rw [HZ.out]; show z ≤ z + 1; omega) _⟩
          · rw [hxs]
            exact part_set (by rw [allT_at L r hk16, hg]) (by rw [allT_len]; rfl)
          · obtain ⟨-, -, cs, q⟩ := own_kind ho (z + 1) rfl
            have hne : ∀ {c : Nat} {x : Lk}, LkAt wr c x → c ≠ z + 1 := by
              intro c x hc e
              have := hc.1
              rw [e, q] at this
              injection this with this
              injection this with _ this
              simp at this
            refine ⟨⟨ht.1.1, fun i c x h1 h2 => (ht.1.2 i c x h1 h2).other (hne (ht.1.2 i c x h1 h2)) _⟩, ?_⟩
            rcases ht.2 with ⟨e, q⟩ | q
            · exact .inl ⟨e, q.other (hne q) _⟩
            · exact .inr q
        clear hxs ho ht hb hx0 HS
        go_wp2_with fail
        refine (inum b bs L r k wr (by omega) HA.out HT.out).mono ?_
        rintro e w3 ⟨rfl, rfl⟩
        go_wp2
        go_roundw
        case rel => exact ⟨k + 1, by omega, by go_num, HN⟩
        case measure => simp [intOf]; omega
      · have e16 : k = 16 := by omega
        subst e16
        obtain ⟨xs, hxs, ho, ht, hb⟩ := HS.out
        have e : xs = allT L r := by
          rw [hxs, List.take_of_length_le (by rw [allT_len]; omega)]
          simp
        subst e
        have HO := hide ho
        have HB := hide hb
        clear ho hb ht hxs HS
        go_wp2
        go_ret
        exact ⟨_, rfl, by rw [allT_len, HZ.out]; exact own_lower HO.out (by omega), HB.out⟩
  · have E : Hid (allT L r = List.replicate 16 0) := allT_no hA
    clear hA
    go_wp2
    go_ret
    exact ⟨_, rfl, by rw [allT_len, E.out, HZ.out]; exact own_lower HO2.out (by omega), B2.out⟩
end Go.Proofs.YtfmnaidhfgmemaaGreatDoor

namespace Go.Proofs.YtfmnaidhfgmemaaGreatDoor
open Go.RowKit
def Blk (W : World) (cv : Value) (b : Nat) (o : Obj) : Prop := W.heap[b]? = some o ∧ cv.ownBlock ≠ some b
theorem Blk.lt {W : World} {cv : Value} {b : Nat} {o : Obj} (h : Blk W cv b o) : b < W.heap.size := (Array.getElem?_eq_some_iff.1 h.1).1
theorem Blk.below {W W' : World} {cv : Value} {b : Nat} {o : Obj} (h : Blk W cv b o) (hb : Below W.heap.size W W') : Blk W' cv b o := ⟨(hb.block b h.lt).trans h.1, h.2⟩
theorem Blk.grown {W W1 y : World} {cv u : Value} {b : Nat} {o : Obj} (h : Blk W cv b o) (hb : Below W.heap.size W W1) (hg : W1.grownBy y cv.ownBlock) (hu : u.ownBlock = cv.ownBlock ∨ ∃ q, u.ownBlock = some q ∧ W1.heap.size ≤ q) : Blk y u b o := by
  have h1 := h.below hb
  refine ⟨(hg.block b h1.lt (fun e => h.2 e.symm)).trans h1.1, ?_⟩
  rcases hu with e | ⟨q, e, hq⟩
  · rw [e]; exact h.2
  · rw [e]
    intro e2
    injection e2 with e2
    have := h1.lt
    omega
theorem Blk.new {W : World} {cv : Value} (cs : Array Value) (t : TypeId) (h : ∀ q, cv.ownBlock = some q → q < W.heap.size) : Blk (W.alloc (.cells cs t)) cv W.heap.size (.cells cs t (0, 0)) := ⟨heap_alloc_new W _, fun e => by have := h _ e; omega⟩
theorem Blk.cell {W : World} {cv : Value} {b k : Nat} {cs : Array Value} {t : TypeId} {v : Value} (h : Blk W cv b (.cells cs t (0, 0))) (hk : cs[k]? = some v) : W.cell? ⟨b, k, none⟩ = some v := by
  rw [cell_of_row _ _ k _ _ _ h.1]
  exact hk
end Go.Proofs.YtfmnaidhfgmemaaGreatDoor

namespace Go.Proofs.YtfmnaidhfgmemaaGreatDoor
open Go.RowKit
open Words
theorem rcn_new (W : World) (a b c d : Int) (g : Nat) (hg : W.heap.size = g) : ∀ (j : Nat) (u : Value), [Value.int .i64 a, Value.int .i64 b, Value.int .i64 c, Value.int .i64 d][j]? = some u → (W.alloc (.cells #[.int .i64 a, .int .i64 b, .int .i64 c, .int .i64 d] 90)).cell? ((⟨g, 0, none⟩ : Addr).add j) = some u := by
  intro j u hj
  subst hg
  rw [addr_at, cell_of_row _ _ j _ _ _ (heap_alloc_new W (.cells #[.int .i64 a, .int .i64 b, .int .i64 c, .int .i64 d] 90))]
  match j, hj with
  | 0, hj | 1, hj | 2, hj | 3, hj => simpa using hj
theorem rcn_one (a b c d : Int) : ∀ u ∈ [Value.int .i64 a, Value.int .i64 b, Value.int .i64 c, Value.int .i64 d], u.oneCell' = true := by
  intro u hu
  simp at hu
  rcases hu with h | h | h | h <;> subst h <;> rfl
theorem rcn_snoc (acc : List Rc) (a b c d : Int) : rccells (acc.map Rc.tu) ++ [Value.int .i64 a, Value.int .i64 b, Value.int .i64 c, Value.int .i64 d] = rccells ((acc ++ [(⟨a, b, c, d⟩ : Rc)]).map Rc.tu) := by
  rw [List.map_append, rccells_app]
  rfl
def basesK (s : Sto) (k : Nat) : List Rc := ⟨1, 0, s.next, 0⟩ :: (s.vols.take k).flatMap (baseV s.kns)
theorem basesK_succ {s : Sto} {k : Nat} {v : Int × Int} (h : s.vols[k]? = some v) : basesK s (k + 1) = (basesK s k ++ [(⟨2, v.1, 0, 0⟩ : Rc)]) ++ baseK v.1 (allT s.kns v.2) 16 := by
  obtain ⟨h1, h2⟩ := List.getElem?_eq_some_iff.1 h
  rw [basesK, basesK, List.take_succ_eq_append_getElem h1, h2, List.flatMap_append]
  simp [baseV]
def BsSt (w W : World) (z : Nat) (bx : Array Value) (cv : Value) (l : List Rc) : Prop := W.ownsRow (w.heap.size + 1) 90 4 cv l.length (rccells (l.map Rc.tu)) ∧ Below w.heap.size w W ∧ Blk W cv z (.cells bx 45 (0, 0))
theorem BsSt.below {w W W' : World} {z : Nat} {bx : Array Value} {cv : Value} {l : List Rc} (h : BsSt w W z bx cv l) (hb : Below W.heap.size W W') : BsSt w W' z bx cv l := ⟨own_below h.1 hb, h.2.1.trans (hb.mono h.2.1.size), h.2.2.below hb⟩
theorem BsSt.snoc {w W W1 y : World} {z : Nat} {bx : Array Value} {cv u : Value} {l : List Rc} {a b c d : Int} (h : BsSt w W z bx cv l) (hb : Below W.heap.size W W1) (ho : y.ownsRow (w.heap.size + 1) 90 4 u (l.length + 1) (rccells (l.map Rc.tu) ++ [.int .i64 a, .int .i64 b, .int .i64 c, .int .i64 d])) (hg : W1.grownBy y cv.ownBlock) (hu : u.ownBlock = cv.ownBlock ∨ ∃ q, u.ownBlock = some q ∧ W1.heap.size ≤ q) : BsSt w y z bx u (l ++ [⟨a, b, c, d⟩]) := by
  have h1 := h.below hb
  rw [rcn_snoc] at ho
  exact ⟨by rw [List.length_append]; exact ho, h1.2.1.grown hg h1.2.1.size (fun q hq => by have := (h1.1.lt q hq).1; omega), h.2.2.grown hb hg hu⟩
theorem BsSt.lt {w W : World} {z : Nat} {bx : Array Value} {cv : Value} {l : List Rc} (h : BsSt w W z bx cv l) : ∀ q, cv.ownBlock = some q → q < W.heap.size := fun q hq => (h.1.lt q hq).2
def NumsB (cur : Array Value) (L : List Int) : Prop := ∀ (k : Nat) (x : Int), L[k]? = some x → cur[k]? = some (.int .i64 x)
def BsIn (w W : World) (z : Nat) (bx : Array Value) (cv : Value) (l : List Rc) (vb : Nat) (vx : Array Value) (ag : Nat) (cur : Array Value) : Prop := BsSt w W z bx cv l ∧ Blk W cv vb (.cells vx 97 (0, 0)) ∧ Blk W cv ag (.cells cur 3 (0, 0))
theorem BsIn.snoc {w W W1 y : World} {z vb ag : Nat} {bx vx cur : Array Value} {cv u : Value} {l : List Rc} {a b c d : Int} (h : BsIn w W z bx cv l vb vx ag cur) (hb : Below W.heap.size W W1) (ho : y.ownsRow (w.heap.size + 1) 90 4 u (l.length + 1) (rccells (l.map Rc.tu) ++ [.int .i64 a, .int .i64 b, .int .i64 c, .int .i64 d])) (hg : W1.grownBy y cv.ownBlock) (hu : u.ownBlock = cv.ownBlock ∨ ∃ q, u.ownBlock = some q ∧ W1.heap.size ≤ q) : BsIn w y z bx u (l ++ [⟨a, b, c, d⟩]) vb vx ag cur := ⟨h.1.snoc hb ho hg hu, h.2.1.grown hb hg hu, h.2.2.grown hb hg hu⟩
theorem own_nums {W : World} {B n : Nat} {v : Value} {L : List Int} (h : W.ownsRow B 3 1 v n (icells L)) (h0 : 0 < n) : ∃ ag cap cur, v = .slice (some ⟨ag, 0, none⟩) n cap ∧ B ≤ ag ∧ W.heap[ag]? = some (.cells cur 3 (0, 0)) ∧ NumsB cur L := by
  have hh := h
  rcases h.2 with ⟨rfl, q⟩ | ⟨g, cap, cur, rfl, h2, h3, h4, h5, h6, h7⟩
  · omega
  · refine ⟨g, cap, cur, rfl, h2, h3, fun k x hk => ?_⟩
    have := hh.cells (g := g) rfl k _ (icells_get hk)
    rw [addr_at, cell_of_row _ _ k _ _ _ h3] at this
    exact this
set_option maxHeartbeats 1000000 in
set_option maxRecDepth 100000 in
theorem ibase : BaseC 26 := by
  rintro v s w ⟨va, vl, vc, ad, len, cap, rs, rfl, hks, hvl, hl, hll, hvc, h, hk⟩
  have HV := hide h
  have HVL := hide h.1
  have HK := hide hk
  have HKS := hide hks
  obtain ⟨nx, hnx⟩ : ∃ nx, s.next = nx := ⟨_, rfl⟩
  have HNX := hide hnx
  obtain ⟨i0, hi, hz0, hz1, hz2⟩ := info_parts infoRc
  have I0 := hide hi
  have Y0 := hide hz0
  have Y1 := hide hz1
  have Y2 := hide hz2
  have B0 : Hid (Below w.heap.size w (w.alloc (.cells #[.slice va vl vc, .slice ad len cap, .int .i64 nx] 45))) := (Below.refl _ _).alloc (Nat.le_refl _) _
  have R0 := hide (heap_alloc_new w (.cells #[.slice va vl vc, .slice ad len cap, .int .i64 nx] 45))
  have Z0 := hide (show (w.alloc (.cells #[.slice va vl vc, .slice ad len cap, .int .i64 nx] 45)).heap.size = w.heap.size + 1 by simp)
  unfold SBox
  rw [hnx]
  clear h hk hll hvc hks hnx hi hz0 hz1 hz2
  go_enter Tryz.func26, Tryz.ntmps26
  go_wp2_with fail
  generalize w.alloc (.cells #[.slice va vl vc, .slice ad len cap, .int .i64 nx] 45) = wb at B0 R0 Z0 ⊢
  have B1 : Hid (Below wb.heap.size wb (wb.alloc (.cells #[.int .i64 1, .int .i64 0, .int .i64 nx, .int .i64 0] 90))) := (Below.refl _ _).alloc (Nat.le_refl _) _
  have S0 : Hid (BsSt w (wb.alloc (.cells #[.int .i64 1, .int .i64 0, .int .i64 nx, .int .i64 0] 90)) w.heap.size #[.slice va vl vc, .slice ad len cap, .int .i64 nx] (.slice (some ⟨w.heap.size + 1, 0, none⟩) 1 1) [⟨1, 0, nx, 0⟩]) := by
    refine ⟨?_, B0.out.trans (B1.out.mono B0.out.size), (B1.out.block w.heap.size (by have := Z0.out; omega)).trans R0.out, fun e => ?_⟩
    · rw [← Z0.out]
      exact ⟨rfl, .inr ⟨wb.heap.size, 1, _, rfl, by have := Z0.out; omega, heap_alloc_new wb _, Nat.le_refl _, by unfold maxLen; omega, rfl, rfl⟩⟩
    · have := Z0.out
      simp only [Value.ownBlock, Option.some.injEq] at e
      omega
  generalize wb.alloc (.cells #[.int .i64 1, .int .i64 0, .int .i64 nx, .int .i64 0] 90) = w1 at B1 S0 ⊢
  have HWZ := hide (show w.heap.size + 1 = wb.heap.size from Z0.out.symm)
  obtain ⟨z, hz⟩ : ∃ z, w.heap.size = z := ⟨_, rfl⟩
  have HZW := hide hz
  rw [hz] at S0 ⊢
  clear hz
  have bx0 : w1.cell? ⟨z, 0, none⟩ = some (.slice va vl vc) := S0.out.2.2.cell rfl
  go_wp2_with fail
  go_loopw [3, 15] (fun cv kv W => ∃ (k : Nat) (l : List Rc), k ≤ vl ∧ kv = .int .i64 k ∧ l.length ≤ 17 * k + 1 ∧ Hid (l = basesK s k) ∧ Hid (BsSt w W z #[.slice va vl vc, .slice ad len cap, .int .i64 nx] cv l)) (fun _ kv _ => vl - (intOf kv).toNat)
  case atStart => exact ⟨0, [⟨1, 0, nx, 0⟩], Nat.zero_le _, rfl, Nat.le_refl _, (by rw [← HNX.out]; rfl : [⟨1, 0, nx, 0⟩] = basesK s 0), S0⟩
  case round =>
    obtain ⟨k, l, hkv, rfl, hll, HL, HS⟩ := hrel
    clear S0 bx0
    by_cases hlt : (k : Int) < vl
    · obtain ⟨v, hv⟩ : ∃ v, s.vols[k]? = some v := ⟨_, List.getElem?_eq_getElem (by have := HVL.out; omega)⟩
      obtain ⟨b, off, e, hb, c0, c1⟩ := (HV.out.below HS.out.2.1).at hv
      subst e
      have k0 : (0 : Int) ≤ k := by omega
      have HKS2 := hide (basesK_succ hv)
      obtain ⟨y0, y1⟩ := v
      simp only at c0 c1 HKS2
      have BV : Hid (Below wr.heap.size wr (wr.alloc (.cells #[.int .i64 y0, .int .i64 y1] 97))) := (Below.refl _ _).alloc (Nat.le_refl _) _
      have S1 := hide (HS.out.below BV.out)
      have K1 := hide (Blk.new (W := wr) #[.int .i64 y0, .int .i64 y1] 97 HS.out.lt)
      have BR : Hid (Below (wr.alloc (.cells #[.int .i64 y0, .int .i64 y1] 97)).heap.size (wr.alloc (.cells #[.int .i64 y0, .int .i64 y1] 97)) ((wr.alloc (.cells #[.int .i64 y0, .int .i64 y1] 97)).alloc (.cells #[.int .i64 2, .int .i64 y0, .int .i64 0, .int .i64 0] 90))) := (Below.refl _ _).alloc (Nat.le_refl _) _
      have OW := hide (own_below S1.out.1 BR.out)
      have HSZ : Hid (w.heap.size + 1 ≤ ((wr.alloc (.cells #[.int .i64 y0, .int .i64 y1] 97)).alloc (.cells #[.int .i64 2, .int .i64 y0, .int .i64 0, .int .i64 0] 90)).heap.size) := by
        have := HS.out.2.1.size
        show _ ≤ _
        simp
        omega
      have CN := hide (rcn_new (wr.alloc (.cells #[.int .i64 y0, .int .i64 y1] 97)) 2 y0 0 0 (wr.heap.size + 1) (by simp))
      clear hv
      go_wp2_with (at_builtin; refine wpList_append_own_at _ rfl _ _ 61 rfl (w.heap.size + 1) 90 i0 (.agg #[.int .i64 0, .int .i64 0, .int .i64 0, .int .i64 0]) 4 32 Tryz.underlying61 I0.out Y0.out Y1.out Y2.out rfl (by decide) _ _ _ rfl OW.out ⟨wr.heap.size + 1, 0, none⟩ 1 1 [Value.int .i64 2, Value.int .i64 y0, Value.int .i64 0, Value.int .i64 0] rfl rfl CN.out (rcn_one _ _ _ _) ?c1 ?c2 ?c3 ?_)
      case c1 => unfold maxLen; omega
      case c2 => omega
      case c3 => exact HSZ.out
      intro u2 w2 o2 g2 _ hu
      have hu2 : u2.ownBlock = u3.ownBlock ∨ ∃ q, u2.ownBlock = some q ∧ ((wr.alloc (.cells #[.int .i64 y0, .int .i64 y1] 97)).alloc (.cells #[.int .i64 2, .int .i64 y0, .int .i64 0, .int .i64 0] 90)).heap.size ≤ q := by
        rcases hu with e | e
        · exact .inl e
        · exact .inr ⟨_, e, by simp⟩
      have S2 := hide (S1.out.snoc BR.out o2 g2 hu2)
      have K2 := hide (K1.out.grown BR.out g2 hu2)
      have BW2 := hide S2.out.2.1
      clear o2 g2 hu hu2 OW HSZ CN S1 K1 BR BV c0 c1 HS
      obtain ⟨vb, hvb⟩ : ∃ vb, wr.heap.size = vb := ⟨_, rfl⟩
      rw [hvb] at K2 ⊢
      clear hvb
      have x1 : w2.cell? ⟨z, 1, none⟩ = some (.slice ad len cap) := S2.out.2.2.cell rfl
      have x0 : w2.cell? ⟨vb, 1, none⟩ = some (.int .i64 y1) := K2.out.cell rfl
      have CA := hide (iallAt ad len cap rs y1 w2 (by omega) (HK.out.below S2.out.2.1))
      rw [← HKS.out] at CA
      have hal : (allT s.kns y1).length = 16 := allT_len _ _
      obtain ⟨L, hL⟩ : ∃ L, allT s.kns y1 = L := ⟨_, rfl⟩
      rw [hL] at CA hal HKS2
      have hl2 : (l ++ [(⟨2, y0, 0, 0⟩ : Rc)]).length ≤ 17 * k + 2 := by simp; omega
      have HL2 : Hid (l ++ [(⟨2, y0, 0, 0⟩ : Rc)] = basesK s k ++ [⟨2, y0, 0, 0⟩]) := by show _ = _; rw [HL.out]
      generalize l ++ [(⟨2, y0, 0, 0⟩ : Rc)] = l2 at S2 hl2 HL2
      clear hL
      go_wp2_with fail
      refine CA.out.mono ?_
      rintro e w3 ⟨av, rfl, ao, b3⟩
      rw [hal] at ao
      obtain ⟨ag, ac, cur, rfl, ha1, ha2, ha3⟩ := own_nums ao (by omega)
      have S3 : Hid (BsIn w w3 z #[.slice (some ⟨b, off, none⟩) vl vc, .slice ad len cap, .int .i64 nx] u2 l2 vb #[.int .i64 y0, .int .i64 y1] ag cur) := ⟨S2.out.below b3, K2.out.below b3, ha2, fun e => by have := S2.out.lt _ e; omega⟩
      have HN := hide ha3
      have HAL := hide hal
      clear ao ha1 ha2 ha3 b3 CA S2 K2 x0 x1 hal BW2
      go_wp2_with fail
      go_loopw [3, 31] (fun cv jv W => ∃ (j : Nat) (l3 : List Rc), j ≤ 16 ∧ jv = .int .i64 j ∧ l3.length ≤ 17 * k + 2 + j ∧ Hid (l3 = l2 ++ baseK y0 L j) ∧ Hid (BsIn w W z #[.slice (some ⟨b, off, none⟩) vl vc, .slice ad len cap, .int .i64 nx] cv l3 vb #[.int .i64 y0, .int .i64 y1] ag cur)) (fun _ jv _ => 16 - (intOf jv).toNat)
      case atStart => exact ⟨0, l2, Nat.zero_le _, rfl, by omega, (by simp [baseK] : l2 = l2 ++ baseK y0 L 0), S3⟩
      case round =>
        obtain ⟨j, l3, hj, rfl, hl3, HL3, HS3⟩ := hrel
        clear S3
        by_cases hjl : (j : Int) < 16
        · obtain ⟨x, hx⟩ : ∃ x, L[j]? = some x := ⟨_, List.getElem?_eq_getElem (by have := HAL.out; omega)⟩
          have cx : wr.cell? ⟨ag, j, none⟩ = some (.int .i64 x) := HS3.out.2.2.cell (HN.out j x hx)
          have cy : wr.cell? ⟨vb, 0, none⟩ = some (.int .i64 y0) := HS3.out.2.1.cell rfl
          have FT : Hid (baseK y0 L (j + 1) = baseK y0 L j ++ (if 0 < x then [⟨4, y0, (j : Int), x⟩] else [])) := by
            show _ = _
            rw [baseK_succ, hx]
            rfl
          have j0 : (0 : Int) ≤ j := by omega
          clear hx
          by_cases h1x : 1 ≤ x
          · have HL4 : Hid (l3 ++ [(⟨4, y0, (j : Int), x⟩ : Rc)] = l2 ++ baseK y0 L (j + 1)) := by
              show _ = _
              rw [FT.out, if_pos (by omega), ← List.append_assoc, ← HL3.out]
            have BR : Hid (Below wr.heap.size wr (wr.alloc (.cells #[.int .i64 4, .int .i64 y0, .int .i64 j, .int .i64 x] 90))) := (Below.refl _ _).alloc (Nat.le_refl _) _
            have OW := hide (own_below HS3.out.1.1 BR.out)
            have HSZ : Hid (w.heap.size + 1 ≤ (wr.alloc (.cells #[.int .i64 4, .int .i64 y0, .int .i64 j, .int .i64 x] 90)).heap.size) := by
              have := HS3.out.1.2.1.size
              show _ ≤ _
              simp
              omega
            have CN := hide (rcn_new wr 4 y0 j x wr.heap.size rfl)
            go_wp2_with (at_builtin; refine wpList_append_own_at _ rfl _ _ 61 rfl (w.heap.size + 1) 90 i0 (.agg #[.int .i64 0, .int .i64 0, .int .i64 0, .int .i64 0]) 4 32 Tryz.underlying61 I0.out Y0.out Y1.out Y2.out rfl (by decide) _ _ _ rfl OW.out ⟨wr.heap.size, 0, none⟩ 1 1 [Value.int .i64 4, Value.int .i64 y0, Value.int .i64 j, Value.int .i64 x] rfl rfl CN.out (rcn_one _ _ _ _) ?c1 ?c2 ?c3 ?_)
            case c1 => unfold maxLen; omega
            case c2 => omega
            case c3 => exact HSZ.out
            intro u4 w4 o4 g4 _ hu
            have hu4 : u4.ownBlock = u3.ownBlock ∨ ∃ q, u4.ownBlock = some q ∧ (wr.alloc (.cells #[.int .i64 4, .int .i64 y0, .int .i64 j, .int .i64 x] 90)).heap.size ≤ q := by
              rcases hu with e | e
              · exact .inl e
              · exact .inr ⟨_, e, by simp⟩
            have NX := hide (HS3.out.snoc BR.out o4 g4 hu4)
            have hl4 : (l3 ++ [(⟨4, y0, (j : Int), x⟩ : Rc)]).length ≤ 17 * k + 2 + (j + 1) := by simp; omega
            generalize l3 ++ [(⟨4, y0, (j : Int), x⟩ : Rc)] = l4 at HL4 NX hl4
            clear o4 g4 hu hu4 HS3 OW HSZ CN BR
            go_wp2
            go_roundw
            case rel => exact ⟨j + 1, l4, by omega, by go_num, hl4, HL4, NX⟩
            case measure => simp [intOf]; omega
          · have HL4 : Hid (l3 = l2 ++ baseK y0 L (j + 1)) := by
              show _ = _
              rw [FT.out, if_neg (by omega), List.append_nil, ← HL3.out]
            go_wp2
            go_roundw
            case rel => exact ⟨j + 1, l3, by omega, by go_num, by omega, HL4, HS3⟩
            case measure => simp [intOf]; omega
        · have HL4 : Hid (l3 = basesK s (k + 1)) := by
            show _ = _
            have e : j = 16 := by omega
            rw [HKS2.out, HL3.out, HL2.out, e]
          have HS4 := hide HS3.out.1
          go_wp2
          go_roundw
          case rel => exact ⟨k + 1, l3, by omega, by go_num, by omega, HL4, HS4⟩
          case measure => simp [intOf]; omega
    · have HE : Hid (l = baseS s) := by
        show _ = _
        rw [HL.out, basesK, List.take_of_length_le (by have := HVL.out; omega)]
        rfl
      have FIN : Hid (wr.ownsRow w.heap.size 90 4 u3 (baseS s).length (rccells ((baseS s).map Rc.tu)) ∧ Below w.heap.size w wr) := by
        rw [← HE.out]
        exact ⟨own_lower HS.out.1 (by omega), HS.out.2.1⟩
      go_wp2
      go_ret
      exact ⟨_, rfl, FIN.out.1, FIN.out.2⟩
end Go.Proofs.YtfmnaidhfgmemaaGreatDoor
