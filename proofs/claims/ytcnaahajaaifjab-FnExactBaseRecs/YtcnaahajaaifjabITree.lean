/-
  impl.ArenaOk; the tree at a root; impl.GetAt.
-/
import Derived.Test.YtcnaahajaaifjabPq26
import Derived.Test.YtcnaahajaaifjabPq29
import Derived.Test.YtcnaahajaaifjabPq19
import Derived.Test.YtcnaahajaaifjabPq9
namespace Go.Proofs.Ytcnaahajaaifjab
open Go.RowKit
open Words

theorem icells_rep (n : Nat) : List.replicate n (Value.int .i64 0) = icells (List.replicate n 0) := by simp [icells]
/-- The tree of a root stands in block b. -/
def TreeAt (W : World) (b : Nat) (bs : List Nat) (L : List Kn) (r : Int) : Prop :=
  FAt W bs (lksOf bs L) ∧ ((r = -1 ∧ LkAt W b lkNone) ∨ ∃ (m : Nat) (x : Kn), r = (m : Int) ∧ bs[m]? = some b ∧ L[m]? = some x ∧ x.leaf = false)
theorem TreeAt.below {W W' : World} {b : Nat} {bs : List Nat} {L : List Kn} {r : Int} (h : TreeAt W b bs L r) (hb : Below W.heap.size W W') : TreeAt W' b bs L r := by
  obtain ⟨h1, h2⟩ := h
  refine ⟨h1.below hb, ?_⟩
  rcases h2 with ⟨e, h⟩ | h
  · exact .inl ⟨e, h.blw hb⟩
  · exact .inr h
theorem rootB_neg {L : List Kn} {r : Int} (h : rootB L r = false) : r ≠ -1 ∧ (r < 0 ∨ (L.length : Int) ≤ r ∨ ∃ x, L[r.toNat]? = some x ∧ x.leaf = true) := by
  unfold rootB at h
  simp only [Bool.or_eq_false_iff, decide_eq_false_iff_not, Bool.and_eq_false_iff, Bool.not_eq_false'] at h
  refine ⟨h.1, ?_⟩
  rcases h.2 with (h | h) | h
  · exact .inl (by omega)
  · exact .inr (.inl (by omega))
  · obtain ⟨y, hy, hl⟩ := knLeaf_lt h
    exact .inr (.inr ⟨y, hy, hl⟩)
theorem rootB_yes {L : List Kn} {r : Int} (h : rootB L r = true) : r = -1 ∨ ∃ (m : Nat) (x : Kn), r = (m : Int) ∧ L[m]? = some x ∧ x.leaf = false := by
  by_cases h0 : r = -1
  · exact .inl h0
  · have h1 : 0 ≤ r := by
      unfold rootB at h
      simp only [Bool.or_eq_true, Bool.and_eq_true, decide_eq_true_eq] at h
      omega
    obtain ⟨x, hx, hl⟩ := rootB_pos h h1
    exact .inr ⟨r.toNat, x, by omega, hx, hl⟩
/-- What treeAt of a forest answers. -/
def FTOut (w : World) (bs : List Nat) (L : List Kn) (r : Int) (e : Ending) (w' : World) : Prop :=
  Below w.heap.size w w' ∧ ((rootB L r = true ∧ ∃ b, e = .returned (ptr b) ∧ TreeAt w' b bs L r ∧ (r = -1 → w.heap.size ≤ b)) ∨ (rootB L r = false ∧ e = .returned (.pointer none)))
theorem ftree (fa : Option Addr) (n c : Nat) (bs : List Nat) (L : List Kn) (r : Int) (w : World) (hr : PRow w fa n bs) (hf : FAt w bs (lksOf bs L)) :
    Calls Try.prog 86 #[.slice fa n c, .int .i64 r] w (FTOut w bs L r) := by
  cases hR : rootB L r with
  | true =>
    rcases rootB_yes hR with rfl | ⟨m, x, rfl, hx, hl⟩
    · refine (itree_new (.slice fa n c) w).mono ?_
      rintro e w' ⟨rfl, hat, hb⟩
      exact ⟨hb, .inl ⟨hR, _, rfl, ⟨hf.below hb, .inl ⟨rfl, hat⟩⟩, fun _ => Nat.le_refl _⟩⟩
    · have hm : m < bs.length := by rw [hf.1, lksOf_len]; exact (List.getElem?_eq_some_iff.1 hx).1
      refine (itree_at fa n c bs (lksOf bs L) m _ (lkOf bs m x) w hr hf (lksOf_some hx) (List.getElem?_eq_getElem hm) (by rw [lkOf_leaf]; exact hl)).mono ?_
      rintro e w' ⟨rfl, rfl⟩
      exact ⟨Below.refl _ _, .inl ⟨hR, _, rfl, ⟨hf, .inr ⟨m, x, rfl, List.getElem?_eq_getElem hm, hx, hl⟩⟩, fun h => by omega⟩⟩
  | false =>
    obtain ⟨h1, h2⟩ := rootB_neg hR
    have hl : (L.length : Int) = n := by have := hr.1; have := hf.1; rw [lksOf_len] at this; omega
    refine (itree_no fa n c bs (lksOf bs L) r w hr hf h1 ?_).mono ?_
    · rcases h2 with h | h | ⟨x, hx, hl⟩
      · exact .inl h
      · exact .inr (.inl (by omega))
      · exact .inr (.inr ⟨_, lksOf_some hx, by rw [lkOf_leaf]; exact hl⟩)
    · rintro e w' ⟨rfl, rfl⟩
      exact ⟨Below.refl _ _, .inr ⟨hR, rfl⟩⟩
/-- A tree's number at a sector. -/
theorem inum (b : Nat) (bs : List Nat) (L : List Kn) (r : Int) (s : Nat) (w : World) (hs : s ≤ 15) (ha : arB L = true) (h : TreeAt w b bs L r) :
    Calls Try.prog 79 #[ptr b, .int .i64 s] w fun e w' => e = .returned (.int .i64 (getP L r s)) ∧ w' = w := by
  have q4 : s / 4 < 4 := by omega
  have t4 : s % 4 < 4 := by omega
  obtain ⟨hf, ⟨rfl, hat⟩ | ⟨m, x, rfl, hb, hx, hl⟩⟩ := h
  · refine inumAt b lkNone s _ w hs hat (.inl ⟨s / 4, rfl, ?_, ?_⟩)
    · match s / 4, q4 with
      | 0, _ | 1, _ | 2, _ | 3, _ => rfl
    · exact if_pos (by omega)
  · have hat := hf.2 m b _ hb (lksOf_some hx)
    have hlk : lkOf bs m x = ⟨m, false, [0, 0, 0, 0], x.kids.map (kidP bs), false⟩ := by unfold lkOf; rw [if_neg (by rw [hl]; decide)]
    obtain ⟨n, hn, hc⟩ := inner_kid ha (r := (m : Int)) (by rw [Int.toNat_natCast]; exact hx) hl q4
    have hka : kidAt L (m : Int) (s / 4) = n := kidAt_some (by rw [Int.toNat_natCast]; exact hx) hn
    have hto : (lkOf bs m x).tos[s / 4]? = some (kidP bs n) := by
      rw [hlk]
      show (x.kids.map (kidP bs))[s / 4]? = _
      rw [List.getElem?_map, hn]
      rfl
    rcases hc with rfl | ⟨h0, h1, y, hy, hyl, -⟩
    · refine inumAt b _ s _ w hs hat (.inl ⟨s / 4, rfl, hto, ?_⟩)
      rw [getP, if_neg (by omega), hka, if_pos (by omega)]
    · obtain ⟨v, hv, -⟩ := leaf_kid ha hy hyl t4
      have hcl : n.toNat < bs.length := by rw [hf.1, lksOf_len]; exact (List.getElem?_eq_some_iff.1 hy).1
      have hkp : kidP bs n = some bs[n.toNat] := by rw [kidP, if_neg (by omega), List.getElem?_eq_getElem hcl]
      rw [hkp] at hto
      have hat2 := hf.2 n.toNat _ _ (List.getElem?_eq_getElem hcl) (lksOf_some hy)
      have e : getP L (m : Int) s = v := by rw [getP, if_neg (by omega), hka, if_neg (by omega), kidAt_some hy hv]
      rw [e]
      refine inumAt b _ s v w hs hat (.inr ⟨_, _, hto, hat2, ?_⟩)
      unfold lkOf
      rw [if_pos hyl]
      exact hv
/-- What treeAt of an arena answers. -/
def ATOut (w : World) (L : List Kn) (r : Int) (e : Ending) (w' : World) : Prop :=
  Below w.heap.size w w' ∧ ((arB L = true ∧ rootB L r = true ∧ ∃ b bs, e = .returned (ptr b) ∧ TreeAt w' b bs L r) ∨ ((arB L && rootB L r) = false ∧ e = .returned (.pointer none)))
set_option maxHeartbeats 400000 in
set_option maxRecDepth 100000 in
theorem iatree (ad : Option Addr) (len cap : Nat) (rs : List Kw) (r : Int) (w : World) (hl : len ≤ 1048578) (h : KnRd w ad len rs) :
    Calls Try.prog 77 #[.agg #[.slice ad len cap], .int .i64 r] w (ATOut w (rs.map ktell) r) := by
  have bx := box_at w (.slice ad len cap)
  have B0 : Hid (Below w.heap.size w (w.alloc (.cells #[.slice ad len cap] 33))) := (Below.refl _ _).alloc (Nat.le_refl _) _
  have H := hide (h.below B0.out)
  clear h
  go_enter Try.func77, Try.ntmps77
  go_wp2_with fail
  refine (ilinked ad len cap rs _ hl H.out).mono ?_
  rintro e w1 ⟨b1, h1⟩
  have HB : Hid (Below w.heap.size w w1) := B0.out.trans (b1.mono B0.out.size)
  clear b1
  rcases h1 with ⟨hA, v, bs, rfl, hF⟩ | ⟨hA, rfl⟩
  · have HA := hide hA
    have HF := hide hF
    obtain ⟨fa, fc, rfl, hpr⟩ := PRow.of (bs := bs) (by rw [hF.2.1]; exact hF.1)
    have HP := hide hpr
    clear hA hF hpr bx
    go_wp2_with fail
    refine (ftree fa _ fc bs (rs.map ktell) r w1 HP.out HF.out.2.2.1).mono ?_
    rintro e w2 ⟨b2, h2⟩
    have HB2 : Hid (Below w.heap.size w w2) := HB.out.trans (b2.mono HB.out.size)
    clear b2
    rcases h2 with ⟨hR, b, rfl, hT, -⟩ | ⟨hR, rfl⟩
    · have HR := hide hR
      have HT := hide hT
      clear hR hT
      unfold ptr
      go_wp2
      go_ret
      exact ⟨HB2.out, .inl ⟨HA.out, HR.out, b, bs, rfl, HT.out⟩⟩
    · have HR := hide hR
      clear hR
      go_wp2
      go_ret
      exact ⟨HB2.out, .inr ⟨by rw [HA.out, HR.out]; rfl, rfl⟩⟩
  · have HA := hide hA
    clear hA
    go_wp2
    go_ret
    exact ⟨HB.out, .inr ⟨by rw [HA.out]; rfl, rfl⟩⟩
set_option maxHeartbeats 400000 in
set_option maxRecDepth 100000 in
theorem isect (s : Int) (w : World) : Calls Try.prog 78 #[.int .i64 s] w fun e w' => e = .returned (.bool (decide (0 ≤ s ∧ s ≤ 15))) ∧ w' = w := by
  by_cases h0 : 0 ≤ s
  · by_cases h1 : s ≤ 15
    · rw [decide_eq_true ⟨h0, h1⟩]
      go_enter Try.func78, Try.ntmps78
      go_wp2
      go_ret
      exact ⟨rfl, rfl⟩
    · rw [decide_eq_false (fun h => h1 h.2)]
      go_enter Try.func78, Try.ntmps78
      go_wp2
      go_ret
      exact ⟨rfl, rfl⟩
  · rw [decide_eq_false (fun h => h0 h.1)]
    go_enter Try.func78, Try.ntmps78
    go_wp2
    go_ret
    exact ⟨rfl, rfl⟩
set_option maxHeartbeats 1000000 in
set_option maxRecDepth 100000 in
theorem igetAt : GetC 50 := by
  intro ad len cap rs r s w hl h
  have bx := box_at w (.slice ad len cap)
  have B0 : Hid (Below w.heap.size w (w.alloc (.cells #[.slice ad len cap] 33))) := (Below.refl _ _).alloc (Nat.le_refl _) _
  have H := hide (h.below B0.out)
  clear h
  obtain ⟨L, hL⟩ : ∃ L, rs.map ktell = L := ⟨_, rfl⟩
  have HL := hide hL
  rw [hL]
  clear hL
  go_enter Try.func50, Try.ntmps50
  go_wp2_with fail
  refine (iatree ad len cap rs r _ hl H.out).mono ?_
  rw [HL.out]
  rintro e w1 ⟨b1, h1⟩
  have HB : Hid (Below w.heap.size w w1) := B0.out.trans (b1.mono B0.out.size)
  clear b1
  rcases h1 with ⟨hA, hR, b, bs, rfl, hT⟩ | ⟨hA, rfl⟩
  · have HA := hide hA
    have HR := hide hR
    have HT := hide hT
    clear hA hR hT bx
    unfold ptr
    go_wp2_with fail
    refine (isect s w1).mono ?_
    rintro e w2 ⟨rfl, rfl⟩
    by_cases hin : 0 ≤ s ∧ s ≤ 15
    · have E : Hid (getT L r s = getP L r s.toNat) := if_pos (by rw [askB, HA.out, HR.out, decide_eq_true hin.1, decide_eq_true hin.2]; rfl)
      rw [decide_eq_true hin]
      obtain ⟨t, rfl⟩ : ∃ t : Nat, s = (t : Int) := ⟨s.toNat, by omega⟩
      simp only [Int.toNat_natCast] at E
      have ht : t ≤ 15 := by omega
      clear hin
      go_wp2_with fail
      refine (inum b bs L r t w2 ht HA.out HT.out).mono ?_
      rintro e w3 ⟨rfl, rfl⟩
      go_wp2
      go_ret
      exact ⟨congrArg (fun q => Ending.returned (.int .i64 q)) E.out.symm, HB.out⟩
    · have E : Hid (getT L r s = 0) := if_neg (by
        rw [askB]
        simp only [Bool.and_eq_true, decide_eq_true_eq]
        rintro ⟨-, h1, h2⟩
        exact hin ⟨h1, h2⟩)
      rw [decide_eq_false hin]
      clear hin
      go_wp2
      go_ret
      exact ⟨congrArg (fun q => Ending.returned (.int .i64 q)) E.out.symm, HB.out⟩
  · have E : Hid (getT L r s = 0) := if_neg (by rw [askB, hA]; simp)
    clear hA
    go_wp2
    go_ret
    exact ⟨congrArg (fun q => Ending.returned (.int .i64 q)) E.out.symm, HB.out⟩
end Go.Proofs.Ytcnaahajaaifjab
