/-
  ILinked; ITree; IAll; SRefs
-/
import Derived.Test.YtfmnaidhfgmemaaGreatDoorPk8
import Derived.Test.YtfmnaidhfgmemaaGreatDoorPk5
import Derived.Test.YtfmnaidhfgmemaaGreatDoorPk3
import Derived.Test.YtfmnaidhfgmemaaGreatDoorPk7
import Derived.Test.YtfmnaidhfgmemaaGreatDoorPk6
import Derived.Deep.RegionHeld3
namespace Go.Proofs.YtfmnaidhfgmemaaGreatDoor
open Go.RowKit
open Words
def LkdOut (w : World) (L : List Kn) (e : Ending) (w' : World) : Prop :=
  Below w.heap.size w w' ∧ ((arB L = true ∧ ∃ v bs, e = .returned (.tuple #[v, .bool true]) ∧ Forest w' w.heap.size v bs L) ∨ (arB L = false ∧ e = .returned (.tuple #[.slice none 0 0, .bool false])))
def LdSt (w W : World) (z : Nat) (av fv : Value) (L : List Kn) (k : Nat) (bs : List Nat) : Prop :=
  W.heap[z]? = some (.cells #[av] 43 (0, 0)) ∧ W.ownsRow z 145 1 fv k (bcellsP bs) ∧ bs.length = k ∧ FAt W bs (lksOf bs (L.take k)) ∧ bs.Pairwise (· < ·) ∧ (∀ b ∈ bs, z ≤ b) ∧ arK L k = true ∧ Below z w W
theorem ptr_one (b : Nat) : ∀ u ∈ [ptr b], u.oneCell' = true := by
  intro u hu; simp at hu; subst hu; rfl
set_option maxHeartbeats 1000000 in
set_option maxRecDepth 100000 in
theorem ilinked (ad : Option Addr) (len cap : Nat) (rs : List Kw) (w : World) (hl : len ≤ 1048578) (h : KnRd w ad len rs) :
    Calls Tryz.prog 117 #[.agg #[.slice ad len cap]] w (LkdOut w (rs.map ktell)) := by
  have S0 : Hid (LdSt w (w.alloc (.cells #[.slice ad len cap] 43)) w.heap.size (.slice ad len cap) (.slice none 0 0) (rs.map ktell) 0 []) :=
    ⟨heap_alloc_new w _, ⟨rfl, .inl ⟨rfl, rfl⟩⟩, rfl, FAt.nil _, List.Pairwise.nil, (fun _ h => by cases h), rfl, (Below.refl _ _).alloc (Nat.le_refl _) _⟩
  have H := hide h
  have H1 := hide h.1
  have HLL := hide (show (rs.map ktell).length = len by rw [List.length_map]; exact h.1)
  have bx := box_at w (.slice ad len cap)
  clear h
  obtain ⟨L, hL⟩ : ∃ L, rs.map ktell = L := ⟨_, rfl⟩
  have HL := hide hL
  rw [hL] at S0 HLL ⊢
  clear hL
  go_enter Tryz.func117, Tryz.ntmps117
  go_wp2
  obtain ⟨z, hz⟩ : ∃ z, w.heap.size = z := ⟨_, rfl⟩
  have HZ := hide hz
  rw [hz] at S0 ⊢
  clear hz bx
  generalize w.alloc (.cells #[.slice ad len cap] 43) = wa at S0 ⊢
  go_loopw [4, 12] (fun fv iv W => ∃ (k : Nat) (bs : List Nat), k ≤ len ∧ iv = .int .i64 k ∧ Hid (LdSt w W z (.slice ad len cap) fv L k bs)) (fun _ iv _ => len - (intOf iv).toNat)
  case atStart => exact ⟨0, [], Nat.zero_le _, rfl, S0⟩
  case round =>
    obtain ⟨k, bs, hk, rfl, HS⟩ := hrel
    clear S0
    by_cases hlt : (k : Int) < len
    · obtain ⟨r, hr⟩ : ∃ r, rs[k]? = some r := ⟨_, List.getElem?_eq_getElem (by have := H1.out; omega)⟩
      obtain ⟨b, off, e, hb⟩ := H.out.adr (by omega)
      subst e
      have KR := hide (H.out.below (by rw [HZ.out]; exact HS.out.2.2.2.2.2.2.2))
      obtain ⟨c0, c1⟩ := KR.out.cell hr
      obtain ⟨ka, kc, hkv, -, kr⟩ := KR.out.2.2.1 r (List.mem_of_getElem? hr)
      have hx : L[k]? = some (ktell r) := by rw [← HL.out, List.getElem?_map, hr]; rfl
      have HX := hide hx
      obtain ⟨lf, kv, ls⟩ := r
      simp only at c0 c1 hkv kr
      subst hkv
      obtain ⟨kl, hkl⟩ : ∃ kl, ls.length = kl := ⟨_, rfl⟩
      rw [hkl] at c1 kr
      have KI := hide kr
      have k0 : (0 : Int) ≤ k := by omega
      obtain ⟨fa, fc, hfv, hpr⟩ := PRow.of (bs := bs) (by rw [HS.out.2.2.1]; exact HS.out.2.1)
      rw [HS.out.2.2.1] at hfv hpr
      subst hfv
      have BN : Hid (Below wr.heap.size wr (wr.alloc (.cells #[.bool lf, .slice ka kl kc] 175))) := (Below.refl _ _).alloc (Nat.le_refl _) _
      have C := hide (ilink fa k fc bs (lksOf bs (L.take k)) lf ka kl kc ls (wr.alloc (.cells #[.bool lf, .slice ka kl kc] 175)) (hpr.below BN.out) (HS.out.2.2.2.1.below BN.out) lksOf_place (KI.out.below BN.out))
      have hkL : k ≤ L.length := by have := HLL.out; omega
      have EQ : Hid (linkOk bs (lksOf bs (L.take k)) lf ls = knB L k ⟨lf, ls⟩) := linkOk_is HS.out.2.2.1 hkL ⟨lf, ls⟩
      obtain ⟨mk, hmk⟩ : ∃ mk, lkMade bs (lksOf bs (L.take k)) k lf ls = mk := ⟨_, rfl⟩
      have EM := hide hmk
      obtain ⟨ok, hok⟩ : ∃ ok, linkOk bs (lksOf bs (L.take k)) lf ls = ok := ⟨_, rfl⟩
      rw [hmk, hok] at C
      rw [hok] at EQ
      have HOK := hide hok
      clear kr hr hb hpr hkl hx hmk hok
      go_wp2_with fail
      refine C.out.mono ?_
      rintro e w1 ⟨v, rfl, b1, hv⟩
      cases ok with
      | false =>
        have HB : Hid (Below z w w1) := HS.out.2.2.2.2.2.2.2.trans ((BN.out.trans (b1.mono BN.out.size)).mono (by rw [← HZ.out]; exact HS.out.2.2.2.2.2.2.2.size))
        have HA : Hid (arB L = false) := arB_bad HX.out EQ.out.symm
        clear hv b1 C
        go_wp2
        go_ret2
        exact ⟨by rw [HZ.out]; exact HB.out, .inr ⟨HA.out, rfl⟩⟩
      | true =>
        obtain ⟨bb, rfl, hat, hlo⟩ := hv rfl
        have hzr : z ≤ wr.heap.size := by rw [← HZ.out]; exact HS.out.2.2.2.2.2.2.2.size
        have hlt1 := hat.lt
        have hB1 : Below wr.heap.size wr w1 := BN.out.trans (b1.mono BN.out.size)
        have hs1 := hB1.size
        have hbn : wr.heap.size ≤ bb := by have := BN.out.size; omega
        have BA : Hid (Below w1.heap.size w1 (w1.alloc (.cells #[ptr bb] 145))) := (Below.refl _ _).alloc (Nat.le_refl _) _
        have OWN := hide (own_below (own_below HS.out.2.1 hB1) BA.out)
        have FA : Hid (FAt (w1.alloc (.cells #[ptr bb] 145)) (bs ++ [bb]) (lksOf (bs ++ [bb]) (L.take (k + 1)))) := by
          have hK : arK L (k + 1) = true := by rw [arK_succ HX.out, HS.out.2.2.2.2.2.2.1, Bool.true_and]; exact EQ.out.symm
          have := ((HS.out.2.2.2.1.below hB1).snoc hat).below BA.out
          rw [← EM.out, lkMade_is ⟨lf, ls⟩ HOK.out] at this
          show FAt _ _ _
          rw [lksOf_snoc HS.out.2.2.1 HX.out hK]
          exact this
        have HK1 : Hid (arK L (k + 1) = true) := by show _ = _; rw [arK_succ HX.out, HS.out.2.2.2.2.2.2.1, Bool.true_and]; exact EQ.out.symm
        have PW : Hid ((bs ++ [bb]).Pairwise (· < ·)) := asc_snoc HS.out.2.2.2.2.1 (fun c hc => by have := HS.out.2.2.2.1.all_lt c hc; omega)
        have LOW : Hid (∀ b ∈ bs ++ [bb], z ≤ b) := fun c hc => by
          rcases List.mem_append.1 hc with hc | hc
          · exact HS.out.2.2.2.2.2.1 c hc
          · simp only [List.mem_singleton] at hc; omega
        have HB : Hid (Below z w (w1.alloc (.cells #[ptr bb] 145))) := (HS.out.2.2.2.2.2.2.2.trans (hB1.mono hzr)).trans (BA.out.mono (by omega))
        have AV : Hid ((w1.alloc (.cells #[ptr bb] 145)).heap[z]? = some (.cells #[.slice (some ⟨b, off, none⟩) len cap] 43 (0, 0))) := by
          have hz1 := (Array.getElem?_eq_some_iff.1 HS.out.1).1
          exact (BA.out.block z (by omega)).trans ((hB1.block z hz1).trans HS.out.1)
        have HBL : Hid (bs.length = k) := HS.out.2.2.1
        have hza : z ≤ (w1.alloc (.cells #[ptr bb] 145)).heap.size := by simp; omega
        obtain ⟨i0, hi0, hz0, hz1, hz2⟩ := info_parts infoPt
        have I0 := hide hi0
        have Y0 := hide hz0
        have Y1 := hide hz1
        have Y2 := hide hz2
        clear hi0 hz0 hz1 hz2 hat hB1 b1 hv C HS BN KI EM EQ HOK c0 c1
        unfold ptr at *
        go_wp2_with (at_builtin; refine wpList_append_own _ rfl _ _ 189 rfl z 145 i0 (.pointer none) 1 8 Tryz.underlying189 I0.out Y0.out Y1.out Y2.out rfl (by decide) _ _ _ rfl OWN.out ⟨w1.heap.size, 0, none⟩ 1 1 [Value.pointer (some ⟨bb, 0, none⟩)] rfl rfl (one_cell _ _ _) (ptr_one _) ?c1 ?c2 ?c3 ?_)
        case c1 => unfold maxLen; omega
        case c2 => omega
        case c3 => exact hza
        intro u' y ho hg _
        have ho2 : y.ownsRow z 145 1 u' (k + 1) (bcellsP (bs ++ [bb])) := by rw [← bcellsP_snoc]; exact ho
        have hrow : ∀ g, (Value.slice fa k fc).ownBlock = some g → z ≤ g ∧ ∃ cs, (w1.alloc (.cells #[.pointer (some ⟨bb, 0, none⟩)] 145)).heap[g]? = some (.cells cs 145 (0, 0)) := fun g hg2 => by
          obtain ⟨q1, -, q2⟩ := own_kind OWN.out g hg2
          exact ⟨q1, q2⟩
        have ST : Hid (LdSt w y z (.slice (some ⟨b, off, none⟩) len cap) u' L (k + 1) (bs ++ [bb])) := by
          refine ⟨?_, ho2, by rw [List.length_append, HBL.out]; rfl, FA.out.grown hg (fun g e => (hrow g e).2), PW.out, LOW.out, HK1.out, HB.out.grown hg hza (fun g e => (hrow g e).1)⟩
          refine (hg.block z (Array.getElem?_eq_some_iff.1 AV.out).1 (fun e => ?_)).trans AV.out
          obtain ⟨-, cs, q⟩ := hrow z e.symm
          rw [AV.out] at q
          injection q with q
          injection q with _ q
          simp at q
        obtain ⟨ua, uc, hu, -⟩ := (Sli.of ho2).form
        subst hu
        clear ho ho2 hg hrow OWN FA HB AV
        go_wp2
        go_roundw
        case rel => exact ⟨k + 1, bs ++ [bb], by omega, by go_num, ST⟩
        case measure => simp [intOf]; omega
    · have ek : k = len := by omega
      subst ek
      have HF : Hid (LkdOut w L (.returned (.tuple #[u4, .bool true])) wr) := by
        obtain ⟨-, h2, h3, h4, h5, h6, h7, h8⟩ := HS.out
        rw [List.take_of_length_le (by have := HLL.out; omega)] at h4
        have e : arB L = true := by rw [arB, HLL.out]; exact h7
        exact ⟨by rw [HZ.out]; exact h8, .inl ⟨e, u4, bs, rfl, by rw [HLL.out, HZ.out]; exact h2, by rw [HLL.out]; exact h3, h4, h5, fun b hb => by rw [HZ.out]; exact h6 b hb⟩⟩
      obtain ⟨fa, fc, hfv, -⟩ := PRow.of (bs := bs) (by rw [HS.out.2.2.1]; exact HS.out.2.1)
      clear HS
      subst hfv
      go_wp2
      go_ret2
      exact HF.out
end Go.Proofs.YtfmnaidhfgmemaaGreatDoor

namespace Go.Proofs.YtfmnaidhfgmemaaGreatDoor
open Go.RowKit
open Words
theorem icells_rep (n : Nat) : List.replicate n (Value.int .i64 0) = icells (List.replicate n 0) := by simp [icells]
def TreeAt (W : World) (b : Nat) (bs : List Nat) (L : List Kn) (r : Int) : Prop :=
  FAt W bs (lksOf bs L) ∧ ((r = -1 ∧ LkAt W b lkNone) ∨ ∃ (m : Nat) (x : Kn), r = (m : Int) ∧ bs[m]? = some b ∧ L[m]? = some x ∧ x.leaf = false)
theorem rootB_neg {L : List Kn} {r : Int} (h : rootB L r = false) : r ≠ -1 ∧ (r < 0 ∨ (L.length : Int) ≤ r ∨ ∃ x, L[r.toNat]? = some x ∧ x.leaf = true) := by
  unfold rootB at h
  simp only [Bool.or_eq_false_iff, decide_eq_false_iff_not, Bool.and_eq_false_iff, Bool.not_eq_false'] at h
  refine ⟨h.1, ?_⟩
  rcases h.2 with (h | h) | h
  · exact .inl (by omega)
  · exact .inr (.inl (by omega))
  · obtain ⟨y, hy, hl⟩ := knLeaf_lt h
    exact .inr (.inr ⟨y, hy, hl⟩)
theorem rootB_yes {L : List Kn} {r : Int} (h : rootB L r = true) : r = -1 ∨ ∃ (m : Nat) (x : Kn), r = (m : Int) ∧ L[m]? = some x ∧ x.leaf = false := by
  by_cases h0 : r = -1
  · exact .inl h0
  · have h1 : 0 ≤ r := by
      unfold rootB at h
      simp only [Bool.or_eq_true, Bool.and_eq_true, decide_eq_true_eq] at h
      omega
    obtain ⟨x, hx, hl⟩ := rootB_pos h h1
    exact .inr ⟨r.toNat, x, by omega, hx, hl⟩
def FTOut (w : World) (bs : List Nat) (L : List Kn) (r : Int) (e : Ending) (w' : World) : Prop :=
  Below w.heap.size w w' ∧ ((rootB L r = true ∧ ∃ b, e = .returned (ptr b) ∧ TreeAt w' b bs L r ∧ (r = -1 → w.heap.size ≤ b)) ∨ (rootB L r = false ∧ e = .returned (.pointer none)))
theorem ftree (fa : Option Addr) (n c : Nat) (bs : List Nat) (L : List Kn) (r : Int) (w : World) (hr : PRow w fa n bs) (hf : FAt w bs (lksOf bs L)) :
    Calls Tryz.prog 118 #[.slice fa n c, .int .i64 r] w (FTOut w bs L r) := by
  cases hR : rootB L r with
  | true =>
    rcases rootB_yes hR with rfl | ⟨m, x, rfl, hx, hl⟩
    · refine (itree_new (.slice fa n c) w).mono ?_
      rintro e w' ⟨rfl, hat, hb⟩
      exact ⟨hb, .inl ⟨hR, _, rfl, ⟨hf.below hb, .inl ⟨rfl, hat⟩⟩, fun _ => Nat.le_refl _⟩⟩
    · have hm : m < bs.length := by rw [hf.1, lksOf_len]; exact (List.getElem?_eq_some_iff.1 hx).1
      refine (itree_at fa n c bs (lksOf bs L) m _ (lkOf bs m x) w hr hf (lksOf_some hx) (List.getElem?_eq_getElem hm) (by rw [lkOf_leaf]; exact hl)).mono ?_
      rintro e w' ⟨rfl, rfl⟩
      exact ⟨Below.refl _ _, .inl ⟨hR, _, rfl, ⟨hf, .inr ⟨m, x, rfl, List.getElem?_eq_getElem hm, hx, hl⟩⟩, fun h => by omega⟩⟩
  | false =>
    obtain ⟨h1, h2⟩ := rootB_neg hR
    have hl : (L.length : Int) = n := by have := hr.1; have := hf.1; rw [lksOf_len] at this; omega
    refine (itree_no fa n c bs (lksOf bs L) r w hr hf h1 ?_).mono ?_
    · rcases h2 with h | h | ⟨x, hx, hl⟩
      · exact .inl h
      · exact .inr (.inl (by omega))
      · exact .inr (.inr ⟨_, lksOf_some hx, by rw [lkOf_leaf]; exact hl⟩)
    · rintro e w' ⟨rfl, rfl⟩
      exact ⟨Below.refl _ _, .inr ⟨hR, rfl⟩⟩
theorem inum (b : Nat) (bs : List Nat) (L : List Kn) (r : Int) (s : Nat) (w : World) (hs : s ≤ 15) (ha : arB L = true) (h : TreeAt w b bs L r) :
    Calls Tryz.prog 79 #[ptr b, .int .i64 s] w fun e w' => e = .returned (.int .i64 (getP L r s)) ∧ w' = w := by
  have q4 : s / 4 < 4 := by omega
  have t4 : s % 4 < 4 := by omega
  obtain ⟨hf, ⟨rfl, hat⟩ | ⟨m, x, rfl, hb, hx, hl⟩⟩ := h
  · refine inumAt b lkNone s _ w hs hat (.inl ⟨s / 4, rfl, ?_, ?_⟩)
    · match s / 4, q4 with
      | 0, _ | 1, _ | 2, _ | 3, _ => rfl
    · exact if_pos (by omega)
  · have hat := hf.2 m b _ hb (lksOf_some hx)
    have hlk : lkOf bs m x = ⟨m, false, [0, 0, 0, 0], x.kids.map (kidP bs), false⟩ := by unfold lkOf; rw [if_neg (by rw [hl]; decide)]
    obtain ⟨n, hn, hc⟩ := inner_kid ha (r := (m : Int)) (by rw [Int.toNat_natCast]; exact hx) hl q4
    have hka : kidAt L (m : Int) (s / 4) = n := kidAt_some (by rw [Int.toNat_natCast]; exact hx) hn
    have hto : (lkOf bs m x).tos[s / 4]? = some (kidP bs n) := by
      rw [hlk]
      show (x.kids.map (kidP bs))[s / 4]? = _
      rw [List.getElem?_map, hn]
      rfl
    rcases hc with rfl | ⟨h0, h1, y, hy, hyl, -⟩
    · refine inumAt b _ s _ w hs hat (.inl ⟨s / 4, rfl, hto, ?_⟩)
      rw [getP, if_neg (by omega), hka, if_pos (by omega)]
    · obtain ⟨v, hv, -⟩ := leaf_kid ha hy hyl t4
      have hcl : n.toNat < bs.length := by rw [hf.1, lksOf_len]; exact (List.getElem?_eq_some_iff.1 hy).1
      have hkp : kidP bs n = some bs[n.toNat] := by rw [kidP, if_neg (by omega), List.getElem?_eq_getElem hcl]
      rw [hkp] at hto
      have hat2 := hf.2 n.toNat _ _ (List.getElem?_eq_getElem hcl) (lksOf_some hy)
      have e : getP L (m : Int) s = v := by rw [getP, if_neg (by omega), hka, if_neg (by omega), kidAt_some hy hv]
      rw [e]
      refine inumAt b _ s v w hs hat (.inr ⟨_, _, hto, hat2, ?_⟩)
      unfold lkOf
      rw [if_pos hyl]
      exact hv
def ATOut (w : World) (L : List Kn) (r : Int) (e : Ending) (w' : World) : Prop :=
  Below w.heap.size w w' ∧ ((arB L = true ∧ rootB L r = true ∧ ∃ b bs, e = .returned (ptr b) ∧ TreeAt w' b bs L r) ∨ ((arB L && rootB L r) = false ∧ e = .returned (.pointer none)))
set_option maxHeartbeats 400000 in
set_option maxRecDepth 100000 in
theorem iatree (ad : Option Addr) (len cap : Nat) (rs : List Kw) (r : Int) (w : World) (hl : len ≤ 1048578) (h : KnRd w ad len rs) :
    Calls Tryz.prog 78 #[.agg #[.slice ad len cap], .int .i64 r] w (ATOut w (rs.map ktell) r) := by
  have bx := box_at w (.slice ad len cap)
  have B0 : Hid (Below w.heap.size w (w.alloc (.cells #[.slice ad len cap] 43))) := (Below.refl _ _).alloc (Nat.le_refl _) _
  have H := hide (h.below B0.out)
  clear h
  go_enter Tryz.func78, Tryz.ntmps78
  go_wp2_with fail
  refine (ilinked ad len cap rs _ hl H.out).mono ?_
  rintro e w1 ⟨b1, h1⟩
  have HB : Hid (Below w.heap.size w w1) := B0.out.trans (b1.mono B0.out.size)
  clear b1
  rcases h1 with ⟨hA, v, bs, rfl, hF⟩ | ⟨hA, rfl⟩
  · have HA := hide hA
    have HF := hide hF
    obtain ⟨fa, fc, rfl, hpr⟩ := PRow.of (bs := bs) (by rw [hF.2.1]; exact hF.1)
    have HP := hide hpr
    clear hA hF hpr bx
    go_wp2_with fail
    refine (ftree fa _ fc bs (rs.map ktell) r w1 HP.out HF.out.2.2.1).mono ?_
    rintro e w2 ⟨b2, h2⟩
    have HB2 : Hid (Below w.heap.size w w2) := HB.out.trans (b2.mono HB.out.size)
    clear b2
    rcases h2 with ⟨hR, b, rfl, hT, -⟩ | ⟨hR, rfl⟩
    · have HR := hide hR
      have HT := hide hT
      clear hR hT
      unfold ptr
      go_wp2
      go_ret
      exact ⟨HB2.out, .inl ⟨HA.out, HR.out, b, bs, rfl, HT.out⟩⟩
    · have HR := hide hR
      clear hR
      go_wp2
      go_ret
      exact ⟨HB2.out, .inr ⟨by rw [HA.out, HR.out]; rfl, rfl⟩⟩
  · have HA := hide hA
    clear hA
    go_wp2
    go_ret
    exact ⟨HB.out, .inr ⟨by rw [HA.out]; rfl, rfl⟩⟩
end Go.Proofs.YtfmnaidhfgmemaaGreatDoor

namespace Go.Proofs.YtfmnaidhfgmemaaGreatDoor
open Go.RowKit
open Words
theorem allT_at (L : List Kn) (r : Int) {k : Nat} (h : k < 16) : (allT L r)[k]? = some (getT L r (k : Int)) := by
  rw [allT, List.getElem?_map, List.getElem?_range h]
  rfl
theorem allT_no {L : List Kn} {r : Int} (h : (arB L && rootB L r) = false) : allT L r = List.replicate 16 0 := by
  refine List.eq_replicate_iff.2 ⟨allT_len L r, fun n hn => ?_⟩
  obtain ⟨s, -, rfl⟩ := List.mem_map.1 hn
  exact if_neg (by rw [askB, h]; simp)
set_option maxHeartbeats 1000000 in
set_option maxRecDepth 100000 in
theorem iallAt : AllC 50 := by
  intro ad len cap rs r w hl h
  obtain ⟨i0, hi, hz0, hz1, hz2⟩ := info_parts infoInt
  have BX := hide (box_at w (.slice ad len cap))
  have bx := BX.out
  have B0 : Hid (Below w.heap.size w (w.alloc (.cells #[.slice ad len cap] 43))) := (Below.refl _ _).alloc (Nat.le_refl _) _
  have H := hide (h.below B0.out)
  clear h
  obtain ⟨L, hL⟩ : ∃ L, rs.map ktell = L := ⟨_, rfl⟩
  have HL := hide hL
  rw [hL]
  clear hL
  go_enter Tryz.func50, Tryz.ntmps50
  go_wp2_with (at_make; refine wpList_make_full _ rfl _ _ 54 rfl (w.heap.size + 1) 3 i0 (.int .i64 0) 1 Tryz.underlying54 hi hz0 hz1 .i64 .i64 _ _ 16 rfl rfl rfl rfl (by rw [hz2]; omega) (by unfold maxLen; omega) (by simp) ?_)
  intro w1 hown hgrow
  rw [toList_madeCells_one, icells_rep] at hown
  clear hi hz0 hz1 hz2
  have BG : Hid (Below (w.alloc (.cells #[.slice ad len cap] 43)).heap.size (w.alloc (.cells #[.slice ad len cap] 43)) w1) := (Below.refl _ _).grown hgrow (Nat.le_refl _) (fun k hk => by cases hk)
  have HSZ : Hid ((w.alloc (.cells #[.slice ad len cap] 43)).heap.size = w.heap.size + 1) := by show _ = _; simp
  have HO := hide hown
  have bx1 := (BG.out.cell (show w.heap.size < (w.alloc (.cells #[.slice ad len cap] 43)).heap.size by simp)).trans BX.out
  have H1 := hide (H.out.below BG.out)
  have B1 : Hid (Below w.heap.size w w1) := B0.out.trans (BG.out.mono B0.out.size)
  clear hown hgrow bx BX BG B0 H HSZ
  obtain ⟨z, hz⟩ : ∃ z, w.heap.size = z := ⟨_, rfl⟩
  have HZ := hide hz
  rw [hz] at HO bx1 ⊢
  clear hz
  go_wp2_with fail
  refine (iatree ad len cap rs r w1 hl H1.out).mono ?_
  rw [HL.out]
  rintro e w2 ⟨b2, h2⟩
  have HO2 := hide (own_below HO.out b2)
  have B2 : Hid (Below w.heap.size w w2) := B1.out.trans (b2.mono B1.out.size)
  clear b2 HO B1 H1 bx1
  rcases h2 with ⟨hA, hR, b, bs, rfl, hT⟩ | ⟨hA, rfl⟩
  · have HA := hide hA
    have HR := hide hR
    have S0 : Hid (∃ xs : List Int, xs = (allT L r).take 0 ++ (List.replicate 16 0).drop 0 ∧ w2.ownsRow (z + 1) 3 1 (.slice (some ⟨z + 1, 0, none⟩) 16 16) 16 (icells xs) ∧ TreeAt w2 b bs L r ∧ Below w.heap.size w w2) := ⟨_, rfl, HO2.out, hT, B2.out⟩
    clear hA hR hT HO2
    unfold ptr
    go_wp2
    go_loopw [17] (fun iv W => ∃ k : Nat, k ≤ 16 ∧ iv = .int .i64 k ∧ Hid (∃ xs : List Int, xs = (allT L r).take k ++ (List.replicate 16 0).drop k ∧ W.ownsRow (z + 1) 3 1 (.slice (some ⟨z + 1, 0, none⟩) 16 16) 16 (icells xs) ∧ TreeAt W b bs L r ∧ Below w.heap.size w W)) (fun iv _ => 16 - (intOf iv).toNat)
    case atStart => exact ⟨0, by omega, rfl, S0⟩
    case round =>
      obtain ⟨k, hk, rfl, HS⟩ := hrel
      clear S0
      by_cases hlt : (k : Int) < 16
      · have hk16 : k < 16 := by omega
        obtain ⟨xs, hxs, ho, ht, hb⟩ := HS.out
        have HT := hide ht
        have k0 : (0 : Int) ≤ k := by omega
        have hx0 : xs[k]? = some 0 := by rw [hxs, part_at (by rw [allT_len]; exact hk16), List.getElem?_replicate, if_pos hk16]
        have oc : wr.cell? ⟨z + 1, k, none⟩ = some (.int .i64 0) := by
          rw [← addr_at]
          exact ho.cells (g := z + 1) rfl k _ (icells_get hx0)
        have of : wr.frozen? ⟨z + 1, k, none⟩ = false := by
          obtain ⟨-, -, cs, q⟩ := own_kind ho (z + 1) rfl
          exact frozen_of_row _ _ k _ _ q
        have HN : Hid (∃ xs : List Int, xs = (allT L r).take (k + 1) ++ (List.replicate 16 0).drop (k + 1) ∧ (wr.setCell ⟨z + 1, k, none⟩ (.int .i64 (getP L r k))).ownsRow (z + 1) 3 1 (.slice (some ⟨z + 1, 0, none⟩) 16 16) 16 (icells xs) ∧ TreeAt (wr.setCell ⟨z + 1, k, none⟩ (.int .i64 (getP L r k))) b bs L r ∧ Below w.heap.size w (wr.setCell ⟨z + 1, k, none⟩ (.int .i64 (getP L r k)))) := by
          have hg : getT L r (k : Int) = getP L r k := if_pos (by rw [askB, HA.out, HR.out, decide_eq_true (show (0 : Int) ≤ k by omega), decide_eq_true (show (k : Int) ≤ 15 by omega)]; rfl)
          refine ⟨xs.set k (getP L r k), ?_, by rw [← icells_set]; exact fown_set ho rfl k _, ?_, hb.setCell (p := ⟨z + 1, k, none⟩) (by rw [HZ.out]; show z ≤ z + 1; omega) _⟩
          · rw [hxs]
            exact part_set (by rw [allT_at L r hk16, hg]) (by rw [allT_len]; rfl)
          · obtain ⟨-, -, cs, q⟩ := own_kind ho (z + 1) rfl
            have hne : ∀ {c : Nat} {x : Lk}, LkAt wr c x → c ≠ z + 1 := by
              intro c x hc e
              have := hc.1
              rw [e, q] at this
              injection this with this
              injection this with _ this
              simp at this
            refine ⟨⟨ht.1.1, fun i c x h1 h2 => (ht.1.2 i c x h1 h2).other (hne (ht.1.2 i c x h1 h2)) _⟩, ?_⟩
            rcases ht.2 with ⟨e, q⟩ | q
            · exact .inl ⟨e, q.other (hne q) _⟩
            · exact .inr q
        clear hxs ho ht hb hx0 HS
        go_wp2_with fail
        refine (inum b bs L r k wr (by omega) HA.out HT.out).mono ?_
        rintro e w3 ⟨rfl, rfl⟩
        go_wp2
        go_roundw
        case rel => exact ⟨k + 1, by omega, by go_num, HN⟩
        case measure => simp [intOf]; omega
      · have e16 : k = 16 := by omega
        subst e16
        obtain ⟨xs, hxs, ho, ht, hb⟩ := HS.out
        have e : xs = allT L r := by
          rw [hxs, List.take_of_length_le (by rw [allT_len]; omega)]
          simp
        subst e
        have HO := hide ho
        have HB := hide hb
        clear ho hb ht hxs HS
        go_wp2
        go_ret
        exact ⟨_, rfl, by rw [allT_len, HZ.out]; exact own_lower HO.out (by omega), HB.out⟩
  · have E : Hid (allT L r = List.replicate 16 0) := allT_no hA
    clear hA
    go_wp2
    go_ret
    exact ⟨_, rfl, by rw [allT_len, E.out, HZ.out]; exact own_lower HO2.out (by omega), B2.out⟩
end Go.Proofs.YtfmnaidhfgmemaaGreatDoor

namespace Go.Proofs.YtfmnaidhfgmemaaGreatDoor
open Go.RowKit
open Words
end Go.Proofs.YtfmnaidhfgmemaaGreatDoor
