/-
  ITree; ILeafW; IArena
-/
import Derived.Test.YtcnaahajaaifjaaPk21
import Derived.Test.YtcnaahajaaifjaaPk36
import Derived.Test.YtcnaahajaaifjaaPk14
import Derived.Test.YtcnaahajaaifjaaPk8
import Derived.Test.YtcnaahajaaifjaaPk32
import Derived.Test.YtcnaahajaaifjaaPk34
import Derived.Deep.RegionHeld3
/-
  impl.ArenaOk; the tree at a root; impl.GetAt.
-/
namespace Go.Proofs.Ytcnaahajaaifjaa
open Go.RowKit
open Words

theorem icells_rep (n : Nat) : List.replicate n (Value.int .i64 0) = icells (List.replicate n 0) := by simp [icells]
/-- The tree of a root stands in block b. -/
def TreeAt (W : World) (b : Nat) (bs : List Nat) (L : List Kn) (r : Int) : Prop :=
  FAt W bs (lksOf bs L) ∧ ((r = -1 ∧ LkAt W b lkNone) ∨ ∃ (m : Nat) (x : Kn), r = (m : Int) ∧ bs[m]? = some b ∧ L[m]? = some x ∧ x.leaf = false)
theorem TreeAt.below {W W' : World} {b : Nat} {bs : List Nat} {L : List Kn} {r : Int} (h : TreeAt W b bs L r) (hb : Below W.heap.size W W') : TreeAt W' b bs L r := by
  obtain ⟨h1, h2⟩ := h
  refine ⟨h1.below hb, ?_⟩
  rcases h2 with ⟨e, h⟩ | h
  · exact .inl ⟨e, h.blw hb⟩
  · exact .inr h
theorem rootB_neg {L : List Kn} {r : Int} (h : rootB L r = false) : r ≠ -1 ∧ (r < 0 ∨ (L.length : Int) ≤ r ∨ ∃ x, L[r.toNat]? = some x ∧ x.leaf = true) := by
  unfold rootB at h
  simp only [Bool.or_eq_false_iff, decide_eq_false_iff_not, Bool.and_eq_false_iff, Bool.not_eq_false'] at h
  refine ⟨h.1, ?_⟩
  rcases h.2 with (h | h) | h
  · exact .inl (by omega)
  · exact .inr (.inl (by omega))
  · obtain ⟨y, hy, hl⟩ := knLeaf_lt h
    exact .inr (.inr ⟨y, hy, hl⟩)
theorem rootB_yes {L : List Kn} {r : Int} (h : rootB L r = true) : r = -1 ∨ ∃ (m : Nat) (x : Kn), r = (m : Int) ∧ L[m]? = some x ∧ x.leaf = false := by
  by_cases h0 : r = -1
  · exact .inl h0
  · have h1 : 0 ≤ r := by
      unfold rootB at h
      simp only [Bool.or_eq_true, Bool.and_eq_true, decide_eq_true_eq] at h
      omega
    obtain ⟨x, hx, hl⟩ := rootB_pos h h1
    exact .inr ⟨r.toNat, x, by omega, hx, hl⟩
/-- What treeAt of a forest answers. -/
def FTOut (w : World) (bs : List Nat) (L : List Kn) (r : Int) (e : Ending) (w' : World) : Prop :=
  Below w.heap.size w w' ∧ ((rootB L r = true ∧ ∃ b, e = .returned (ptr b) ∧ TreeAt w' b bs L r ∧ (r = -1 → w.heap.size ≤ b)) ∨ (rootB L r = false ∧ e = .returned (.pointer none)))
theorem ftree (fa : Option Addr) (n c : Nat) (bs : List Nat) (L : List Kn) (r : Int) (w : World) (hr : PRow w fa n bs) (hf : FAt w bs (lksOf bs L)) :
    Calls Try.prog 120 #[.slice fa n c, .int .i64 r] w (FTOut w bs L r) := by
  cases hR : rootB L r with
  | true =>
    rcases rootB_yes hR with rfl | ⟨m, x, rfl, hx, hl⟩
    · refine (itree_new (.slice fa n c) w).mono ?_
      rintro e w' ⟨rfl, hat, hb⟩
      exact ⟨hb, .inl ⟨hR, _, rfl, ⟨hf.below hb, .inl ⟨rfl, hat⟩⟩, fun _ => Nat.le_refl _⟩⟩
    · have hm : m < bs.length := by rw [hf.1, lksOf_len]; exact (List.getElem?_eq_some_iff.1 hx).1
      refine (itree_at fa n c bs (lksOf bs L) m _ (lkOf bs m x) w hr hf (lksOf_some hx) (List.getElem?_eq_getElem hm) (by rw [lkOf_leaf]; exact hl)).mono ?_
      rintro e w' ⟨rfl, rfl⟩
      exact ⟨Below.refl _ _, .inl ⟨hR, _, rfl, ⟨hf, .inr ⟨m, x, rfl, List.getElem?_eq_getElem hm, hx, hl⟩⟩, fun h => by omega⟩⟩
  | false =>
    obtain ⟨h1, h2⟩ := rootB_neg hR
    have hl : (L.length : Int) = n := by have := hr.1; have := hf.1; rw [lksOf_len] at this; omega
    refine (itree_no fa n c bs (lksOf bs L) r w hr hf h1 ?_).mono ?_
    · rcases h2 with h | h | ⟨x, hx, hl⟩
      · exact .inl h
      · exact .inr (.inl (by omega))
      · exact .inr (.inr ⟨_, lksOf_some hx, by rw [lkOf_leaf]; exact hl⟩)
    · rintro e w' ⟨rfl, rfl⟩
      exact ⟨Below.refl _ _, .inr ⟨hR, rfl⟩⟩
/-- A tree's number at a sector. -/
theorem inum (b : Nat) (bs : List Nat) (L : List Kn) (r : Int) (s : Nat) (w : World) (hs : s ≤ 15) (ha : arB L = true) (h : TreeAt w b bs L r) :
    Calls Try.prog 95 #[ptr b, .int .i64 s] w fun e w' => e = .returned (.int .i64 (getP L r s)) ∧ w' = w := by
  have q4 : s / 4 < 4 := by omega
  have t4 : s % 4 < 4 := by omega
  obtain ⟨hf, ⟨rfl, hat⟩ | ⟨m, x, rfl, hb, hx, hl⟩⟩ := h
  · refine inumAt b lkNone s _ w hs hat (.inl ⟨s / 4, rfl, ?_, ?_⟩)
    · match s / 4, q4 with
      | 0, _ | 1, _ | 2, _ | 3, _ => rfl
    · exact if_pos (by omega)
  · have hat := hf.2 m b _ hb (lksOf_some hx)
    have hlk : lkOf bs m x = ⟨m, false, [0, 0, 0, 0], x.kids.map (kidP bs), false⟩ := by unfold lkOf; rw [if_neg (by rw [hl]; decide)]
    obtain ⟨n, hn, hc⟩ := inner_kid ha (r := (m : Int)) (by rw [Int.toNat_natCast]; exact hx) hl q4
    have hka : kidAt L (m : Int) (s / 4) = n := kidAt_some (by rw [Int.toNat_natCast]; exact hx) hn
    have hto : (lkOf bs m x).tos[s / 4]? = some (kidP bs n) := by
      rw [hlk]
      show (x.kids.map (kidP bs))[s / 4]? = _
      rw [List.getElem?_map, hn]
      rfl
    rcases hc with rfl | ⟨h0, h1, y, hy, hyl, -⟩
    · refine inumAt b _ s _ w hs hat (.inl ⟨s / 4, rfl, hto, ?_⟩)
      rw [getP, if_neg (by omega), hka, if_pos (by omega)]
    · obtain ⟨v, hv, -⟩ := leaf_kid ha hy hyl t4
      have hcl : n.toNat < bs.length := by rw [hf.1, lksOf_len]; exact (List.getElem?_eq_some_iff.1 hy).1
      have hkp : kidP bs n = some bs[n.toNat] := by rw [kidP, if_neg (by omega), List.getElem?_eq_getElem hcl]
      rw [hkp] at hto
      have hat2 := hf.2 n.toNat _ _ (List.getElem?_eq_getElem hcl) (lksOf_some hy)
      have e : getP L (m : Int) s = v := by rw [getP, if_neg (by omega), hka, if_neg (by omega), kidAt_some hy hv]
      rw [e]
      refine inumAt b _ s v w hs hat (.inr ⟨_, _, hto, hat2, ?_⟩)
      unfold lkOf
      rw [if_pos hyl]
      exact hv
/-- What treeAt of an arena answers. -/
def ATOut (w : World) (L : List Kn) (r : Int) (e : Ending) (w' : World) : Prop :=
  Below w.heap.size w w' ∧ ((arB L = true ∧ rootB L r = true ∧ ∃ b bs, e = .returned (ptr b) ∧ TreeAt w' b bs L r) ∨ ((arB L && rootB L r) = false ∧ e = .returned (.pointer none)))
set_option maxHeartbeats 400000 in
set_option maxRecDepth 100000 in
theorem iatree (ad : Option Addr) (len cap : Nat) (rs : List Kw) (r : Int) (w : World) (hl : len ≤ 1048578) (h : KnRd w ad len rs) :
    Calls Try.prog 94 #[.agg #[.slice ad len cap], .int .i64 r] w (ATOut w (rs.map ktell) r) := by
  have bx := box_at w (.slice ad len cap)
  have B0 : Hid (Below w.heap.size w (w.alloc (.cells #[.slice ad len cap] 27))) := (Below.refl _ _).alloc (Nat.le_refl _) _
  have H := hide (h.below B0.out)
  clear h
  go_enter Try.func94, Try.ntmps94
  go_wp2_with fail
  refine (ilinked ad len cap rs _ hl H.out).mono ?_
  rintro e w1 ⟨b1, h1⟩
  have HB : Hid (Below w.heap.size w w1) := B0.out.trans (b1.mono B0.out.size)
  clear b1
  rcases h1 with ⟨hA, v, bs, rfl, hF⟩ | ⟨hA, rfl⟩
  · have HA := hide hA
    have HF := hide hF
    obtain ⟨fa, fc, rfl, hpr⟩ := PRow.of (bs := bs) (by rw [hF.2.1]; exact hF.1)
    have HP := hide hpr
    clear hA hF hpr bx
    go_wp2_with fail
    refine (ftree fa _ fc bs (rs.map ktell) r w1 HP.out HF.out.2.2.1).mono ?_
    rintro e w2 ⟨b2, h2⟩
    have HB2 : Hid (Below w.heap.size w w2) := HB.out.trans (b2.mono HB.out.size)
    clear b2
    rcases h2 with ⟨hR, b, rfl, hT, -⟩ | ⟨hR, rfl⟩
    · have HR := hide hR
      have HT := hide hT
      clear hR hT
      unfold ptr
      go_wp2
      go_ret
      exact ⟨HB2.out, .inl ⟨HA.out, HR.out, b, bs, rfl, HT.out⟩⟩
    · have HR := hide hR
      clear hR
      go_wp2
      go_ret
      exact ⟨HB2.out, .inr ⟨by rw [HA.out, HR.out]; rfl, rfl⟩⟩
  · have HA := hide hA
    clear hA
    go_wp2
    go_ret
    exact ⟨HB.out, .inr ⟨by rw [HA.out]; rfl, rfl⟩⟩
set_option maxHeartbeats 400000 in
set_option maxRecDepth 100000 in
theorem isect (s : Int) (w : World) : Calls Try.prog 100 #[.int .i64 s] w fun e w' => e = .returned (.bool (decide (0 ≤ s ∧ s ≤ 15))) ∧ w' = w := by
  by_cases h0 : 0 ≤ s
  · by_cases h1 : s ≤ 15
    · rw [decide_eq_true ⟨h0, h1⟩]
      go_enter Try.func100, Try.ntmps100
      go_wp2
      go_ret
      exact ⟨rfl, rfl⟩
    · rw [decide_eq_false (fun h => h1 h.2)]
      go_enter Try.func100, Try.ntmps100
      go_wp2
      go_ret
      exact ⟨rfl, rfl⟩
  · rw [decide_eq_false (fun h => h0 h.1)]
    go_enter Try.func100, Try.ntmps100
    go_wp2
    go_ret
    exact ⟨rfl, rfl⟩
set_option maxHeartbeats 1000000 in
set_option maxRecDepth 100000 in
theorem igetAt : GetC 60 := by
  intro ad len cap rs r s w hl h
  have bx := box_at w (.slice ad len cap)
  have B0 : Hid (Below w.heap.size w (w.alloc (.cells #[.slice ad len cap] 27))) := (Below.refl _ _).alloc (Nat.le_refl _) _
  have H := hide (h.below B0.out)
  clear h
  obtain ⟨L, hL⟩ : ∃ L, rs.map ktell = L := ⟨_, rfl⟩
  have HL := hide hL
  rw [hL]
  clear hL
  go_enter Try.func60, Try.ntmps60
  go_wp2_with fail
  refine (iatree ad len cap rs r _ hl H.out).mono ?_
  rw [HL.out]
  rintro e w1 ⟨b1, h1⟩
  have HB : Hid (Below w.heap.size w w1) := B0.out.trans (b1.mono B0.out.size)
  clear b1
  rcases h1 with ⟨hA, hR, b, bs, rfl, hT⟩ | ⟨hA, rfl⟩
  · have HA := hide hA
    have HR := hide hR
    have HT := hide hT
    clear hA hR hT bx
    unfold ptr
    go_wp2_with fail
    refine (isect s w1).mono ?_
    rintro e w2 ⟨rfl, rfl⟩
    by_cases hin : 0 ≤ s ∧ s ≤ 15
    · have E : Hid (getT L r s = getP L r s.toNat) := if_pos (by rw [askB, HA.out, HR.out, decide_eq_true hin.1, decide_eq_true hin.2]; rfl)
      rw [decide_eq_true hin]
      obtain ⟨t, rfl⟩ : ∃ t : Nat, s = (t : Int) := ⟨s.toNat, by omega⟩
      simp only [Int.toNat_natCast] at E
      have ht : t ≤ 15 := by omega
      clear hin
      go_wp2_with fail
      refine (inum b bs L r t w2 ht HA.out HT.out).mono ?_
      rintro e w3 ⟨rfl, rfl⟩
      go_wp2
      go_ret
      exact ⟨congrArg (fun q => Ending.returned (.int .i64 q)) E.out.symm, HB.out⟩
    · have E : Hid (getT L r s = 0) := if_neg (by
        rw [askB]
        simp only [Bool.and_eq_true, decide_eq_true_eq]
        rintro ⟨-, h1, h2⟩
        exact hin ⟨h1, h2⟩)
      rw [decide_eq_false hin]
      clear hin
      go_wp2
      go_ret
      exact ⟨congrArg (fun q => Ending.returned (.int .i64 q)) E.out.symm, HB.out⟩
  · have E : Hid (getT L r s = 0) := if_neg (by rw [askB, hA]; simp)
    clear hA
    go_wp2
    go_ret
    exact ⟨congrArg (fun q => Ending.returned (.int .i64 q)) E.out.symm, HB.out⟩
end Go.Proofs.Ytcnaahajaaifjaa

/-
  impl's linked knots: a leaf with one more number.
-/
namespace Go.Proofs.Ytcnaahajaaifjaa
open Go.RowKit
open Words

theorem set4 (a b c d n : Int) (t : Nat) (h : t < 4) : True → (t = 0 ∧ [a, b, c, d].set t n = [n, b, c, d]) ∨ (t = 1 ∧ [a, b, c, d].set t n = [a, n, c, d]) ∨ (t = 2 ∧ [a, b, c, d].set t n = [a, b, n, d]) ∨ (t = 3 ∧ [a, b, c, d].set t n = [a, b, c, n]) := by
  intro _
  match t, h with
  | 0, _ => exact .inl ⟨rfl, rfl⟩
  | 1, _ => exact .inr (.inl ⟨rfl, rfl⟩)
  | 2, _ => exact .inr (.inr (.inl ⟨rfl, rfl⟩))
  | 3, _ => exact .inr (.inr (.inr ⟨rfl, rfl⟩))

set_option maxHeartbeats 2000000 in
set_option maxRecDepth 100000 in
theorem ileafWith (b : Nat) (x : Lk) (s : Nat) (n : Int) (old : List Int) (w : World) (hs : s ≤ 15) (h : LkAt w b x) (ho : (∃ k, k = s / 4 ∧ x.tos[k]? = some none ∧ old = [0, 0, 0, 0]) ∨ ∃ c y, x.tos[s / 4]? = some (some c) ∧ LkAt w c y ∧ y.nums = old) :
    Calls Try.prog 156 #[ptr b, .int .i64 s, .int .i64 n] w fun e w' => e = .returned (ptr w.heap.size) ∧ LkAt w' w.heap.size ⟨0, true, old.set (s % 4) n, [none, none, none, none], false⟩ ∧ Below w.heap.size w w' := by
  obtain ⟨q, hq⟩ : ∃ q, s / 4 = q := ⟨_, rfl⟩
  obtain ⟨t, ht⟩ : ∃ t, s % 4 = t := ⟨_, rfl⟩
  rw [hq] at ho
  rw [ht]
  have tq : (s : Int).tdiv 4 = (q : Int) := by rw [Int.tdiv_eq_ediv_of_nonneg (by omega)]; omega
  have tt : (s : Int).tmod 4 = (t : Int) := by rw [Int.tmod_eq_emod_of_nonneg (by omega)]; omega
  have tq2 : (s : Int) / 4 = (q : Int) := by omega
  have tt2 : (s : Int) % 4 = (t : Int) := by omega
  have q0 : (0 : Int) ≤ q := by omega
  have q4 : (q : Int) < 4 := by omega
  have t4 : t < 4 := by omega
  have hB : Below w.heap.size w (w.alloc (.cells #[.int .i64 0, .bool true, .int .i64 0, .int .i64 0, .int .i64 0, .int .i64 0, .pointer none, .pointer none, .pointer none, .pointer none, .bool false] 126)) := (Below.refl _ _).alloc (Nat.le_refl _) _
  rcases ho with ⟨k, rfl, hk, rfl⟩ | ⟨c, y, hk, hy, rfl⟩
  · have c1 := (h.blw hB).to hk
    have c2 : (w.alloc (.cells #[.int .i64 0, .bool true, .int .i64 0, .int .i64 0, .int .i64 0, .int .i64 0, .pointer none, .pointer none, .pointer none, .pointer none, .bool false] 126)).cell? ⟨b, 6 + k, none⟩ = some (.pointer none) := c1
    clear h hk hq ht hB c1
    unfold ptr
    rcases set4 0 0 0 0 n t t4 trivial with ⟨rfl, e⟩ | ⟨rfl, e⟩ | ⟨rfl, e⟩ | ⟨rfl, e⟩
    all_goals
      rw [e]
      clear e t4
      go_enter Try.func156, Try.ntmps156
      go_wp2
      go_ret
      exact ⟨rfl, ⟨heap_alloc_new w _, rfl, rfl⟩, (Below.refl _ _).alloc (Nat.le_refl _) _⟩
  · obtain ⟨n0, n1, n2, n3, hn⟩ := list4 hy.2.1
    have c1 := (h.blw hB).to hk
    have c2 : (w.alloc (.cells #[.int .i64 0, .bool true, .int .i64 0, .int .i64 0, .int .i64 0, .int .i64 0, .pointer none, .pointer none, .pointer none, .pointer none, .bool false] 126)).cell? ⟨b, 6 + q, none⟩ = some (.pointer (some ⟨c, 0, none⟩)) := c1
    have d0 := (hy.blw hB).num (k := 0) (n := n0) (by rw [hn]; rfl)
    have d1 := (hy.blw hB).num (k := 1) (n := n1) (by rw [hn]; rfl)
    have d2 := (hy.blw hB).num (k := 2) (n := n2) (by rw [hn]; rfl)
    have d3 := (hy.blw hB).num (k := 3) (n := n3) (by rw [hn]; rfl)
    simp only [Nat.reduceAdd] at d0 d1 d2 d3
    rw [hn]
    clear h hk hq ht hB c1 hy hn
    unfold ptr
    rcases set4 n0 n1 n2 n3 n t t4 trivial with ⟨rfl, e⟩ | ⟨rfl, e⟩ | ⟨rfl, e⟩ | ⟨rfl, e⟩
    all_goals
      rw [e]
      clear e t4
      go_enter Try.func156, Try.ntmps156
      go_wp2
      go_ret
      exact ⟨rfl, ⟨heap_alloc_new w _, rfl, rfl⟩, (Below.refl _ _).alloc (Nat.le_refl _) _⟩
end Go.Proofs.Ytcnaahajaaifjaa

/-
  impl's forests: the arena of a forest.
-/
namespace Go.Proofs.Ytcnaahajaaifjaa
open Go.RowKit
open Words

theorem KidsR.below {W W' : World} {x : Lk} {ks : List Int} (h : KidsR W x ks) (hb : Below W.heap.size W W') : KidsR W' x ks := by
  unfold KidsR at h ⊢
  split at h
  · rename_i hl
    rw [if_pos hl]
    exact h
  · rename_i hl
    rw [if_neg hl]
    refine ⟨h.1, fun k o ho => ?_⟩
    obtain ⟨p, hp, hc⟩ := h.2 k o ho
    refine ⟨p, hp, ?_⟩
    rcases hc with hc | ⟨c, e, hc, hl⟩
    · exact .inl hc
    · have := hb.size
      exact .inr ⟨c, e, (hb.cell (show c < W.heap.size from hl)).trans hc, by omega⟩
theorem KidsR.len {W : World} {x : Lk} {ks : List Int} (h : KidsR W x ks) (h4 : x.Four) : ks.length = 4 := by
  unfold KidsR at h
  split at h
  · rw [h]; exact h4.1
  · exact h.1
/-- The arena under way. -/
def ArSt (w W : World) (z n : Nat) (ss : List Kw) (zs : List Value) : Prop := W.heap[z]? = some (.cells #[.slice none 0 0] 27 (0, 0)) ∧ KFil W (z + 1) (.slice (some ⟨z + 1, 0, none⟩) n n) n ss zs ∧ Below z w W
theorem drop2 {R : List Value} {k n : Nat} (h : R.length = n * 2) (hk : k < n) : ∃ a b, R.drop (k * 2) = a :: b :: R.drop ((k + 1) * 2) := by
  refine ⟨R[k * 2], R[k * 2 + 1], ?_⟩
  rw [List.drop_eq_getElem_cons (by omega), List.drop_eq_getElem_cons (by omega)]
  rw [show k * 2 + 1 + 1 = (k + 1) * 2 by omega]

set_option maxHeartbeats 2000000 in
set_option maxRecDepth 100000 in
theorem iarena (fa : Option Addr) (n c : Nat) (bs : List Nat) (xs : List Lk) (L : List Kn) (w : World) (hn : n ≤ 1048600) (hr : PRow w fa n bs) (hf : FAt w bs xs) (hL : L.length = n) (hk : ∀ (i : Nat) (x : Lk) (y : Kn), xs[i]? = some x → L[i]? = some y → x.leaf = y.leaf ∧ KidsR w x y.kids) :
    Calls Try.prog 142 #[.slice fa n c] w fun e w' => ∃ v, e = .returned v ∧ KOut w L v w' := by
  obtain ⟨i0, hi, hz0, hz1, hz2⟩ := info_parts infoKn
  have R0 := hide (heap_alloc_new w (.cells #[.slice none 0 0] 27))
  have B0 : Hid (Below w.heap.size w (w.alloc (.cells #[.slice none 0 0] 27))) := (Below.refl _ _).alloc (Nat.le_refl _) _
  have HR := hide hr
  have HF := hide hf
  have HL := hide hL
  have HK := hide hk
  clear hr hf hL hk
  go_enter Try.func142, Try.ntmps142
  go_wp2_with (at_make; refine wpList_make_full _ rfl _ _ 25 rfl (w.heap.size + 1) 110 i0 (.agg #[.bool false, .slice none 0 0]) 2 Try.underlying25 hi hz0 hz1 .i64 .i64 _ _ n rfl rfl rfl rfl (by rw [hz2]; omega) (by unfold maxLen; omega) (by simp) ?_)
  intro w1 hown hgrow
  generalize (madeCells #[Value.bool false, Value.slice none 0 0] (n * 2)).toList = R at hown
  have HRL : Hid (R.length = n * 2) := hown.1
  have BG : Below (w.alloc (.cells #[.slice none 0 0] 27)).heap.size (w.alloc (.cells #[.slice none 0 0] 27)) w1 := (Below.refl _ _).grown hgrow (Nat.le_refl _) (fun k hk => by cases hk)
  have S0 : Hid (ArSt w w1 w.heap.size n [] R) := by
    refine ⟨(BG.block w.heap.size (by simp)).trans R0.out, ⟨by simpa [kncells] using hown, (fun _ h => by cases h), List.Pairwise.nil⟩, B0.out.trans (BG.mono B0.out.size)⟩
  obtain ⟨z, hz⟩ : ∃ z, w.heap.size = z := ⟨_, rfl⟩
  have HZ := hide hz
  rw [hz] at S0 ⊢
  clear hz hown hgrow BG R0 B0 hi hz0 hz1 hz2
  go_wp2
  go_loopw [12] (fun iv W => ∃ (k : Nat) (ss : List Kw), k ≤ n ∧ iv = .int .i64 k ∧ Hid (ss.length = k ∧ ss.map ktell = L.take k ∧ ArSt w W z n ss (R.drop (k * 2)))) (fun iv _ => n - (intOf iv).toNat)
  case atStart => exact ⟨0, [], Nat.zero_le _, rfl, rfl, by simp, by simpa using S0.out⟩
  case round =>
    obtain ⟨k, ss, hk, rfl, HS⟩ := hrel
    clear S0
    obtain ⟨hsl, hst, hca⟩ := HS.out
    have HSL := hide hsl
    have HST := hide hst
    have HC := hide hca
    clear HS hsl hst hca
    have HW : Hid (Below w.heap.size w wr) := by rw [hide HZ.out]; exact HC.out.2.2
    by_cases hlt : (k : Int) < n
    · obtain ⟨y, hy⟩ : ∃ y, L[k]? = some y := ⟨_, List.getElem?_eq_getElem (by have := HL.out; omega)⟩
      obtain ⟨x, hx⟩ : ∃ x, xs[k]? = some x := ⟨_, List.getElem?_eq_getElem (by have := HF.out.1; have := HR.out.1; omega)⟩
      obtain ⟨hlf, hkr⟩ := HK.out k x y hx hy
      obtain ⟨b, hb, hat⟩ := (HF.out.below HW.out).get hx
      obtain ⟨fg, rfl, -, hcf⟩ := (HR.out.below HW.out).at hb
      have hbz : b < z := by have := HF.out.2 k b x hb hx; rw [← HZ.out]; exact this.lt
      have k4 := hkr.len hat.2
      have C := hide (ikids b x y.kids wr hat (hkr.below HW.out))
      obtain ⟨k0, k1, k2, k3, hks⟩ := list4 k4
      have HAT := hide hat
      have k00 : (0 : Int) ≤ k := by omega
      obtain ⟨lf, hlfe⟩ : ∃ lf, y.leaf = lf := ⟨_, rfl⟩
      rw [hlfe] at hlf
      have hYE : y = ⟨lf, [k0, k1, k2, k3]⟩ := by cases y; simp only at hks hlfe; rw [hks, hlfe]
      have HY := hide hy
      rw [hYE] at HY
      rw [hks] at C
      have hlc := hat.leaf
      rw [hlf] at hlc
      obtain ⟨oa, ob, hd⟩ := drop2 HRL.out (show k < n by omega)
      have HF1 : Hid (KFil wr (z + 1) (.slice (some ⟨z + 1, 0, none⟩) n n) n ss (oa :: ob :: R.drop ((k + 1) * 2))) := by have := HC.out.2.1; rw [hd] at this; exact this
      have LC := hide hlc
      unfold ptr at hcf C
      clear hks k4 hkr hat hx hb hy hYE hlfe hd hlf hlc
      go_wp2_with fail
      refine C.out.mono ?_
      rintro e w2 ⟨rfl, b2⟩
      have HB2 := hide b2
      simp only [icells, List.map_cons, List.map_nil]
      have B3 : Hid (Below wr.heap.size wr (w2.alloc (.cells #[.int .i64 k0, .int .i64 k1, .int .i64 k2, .int .i64 k3] 123))) := b2.trans (((Below.refl _ _).alloc (Nat.le_refl _) _).mono b2.size)
      have hzw : z + 1 < wr.heap.size := (own_kind HF1.out.1 (z + 1) rfl).2.1
      have hw2 := b2.size
      have AR : Hid (ISl (w2.alloc (.cells #[.int .i64 k0, .int .i64 k1, .int .i64 k2, .int .i64 k3] 123)).drew (.slice (some ⟨w2.heap.size, 0, none⟩) 4 4) [k0, k1, k2, k3]) := by
        refine ⟨_, 4, rfl, (fun e => by cases e), rfl, by simp [maxLen], fun _ => ⟨w2.heap.size, 0, rfl, by show _ < (w2.alloc _).heap.size; simp, fun i t ht => ?_⟩⟩
        have := cell_of_row _ _ (0 + i) _ _ _ (heap_alloc_new w2 (.cells #[.int .i64 k0, .int .i64 k1, .int .i64 k2, .int .i64 k3] 123))
        refine Eq.trans this ?_
        rw [Nat.zero_add]
        match i, ht with
        | 0, ht | 1, ht | 2, ht | 3, ht => simp at ht; subst ht; rfl
      have C2 := hide (icl_ints (.slice (some ⟨w2.heap.size, 0, none⟩) 4 4) [k0, k1, k2, k3] (w2.alloc (.cells #[.int .i64 k0, .int .i64 k1, .int .i64 k2, .int .i64 k3] 123)).drew (by simp) AR.out)
      have lc3 : (w2.alloc (.cells #[.int .i64 k0, .int .i64 k1, .int .i64 k2, .int .i64 k3] 123)).cell? ⟨b, 1, none⟩ = some (.bool lf) := (B3.out.cell (show b < wr.heap.size by omega)).trans LC.out
      clear b2 C
      go_wp2_with fail
      generalize hw3 : w2.alloc (.cells #[.int .i64 k0, .int .i64 k1, .int .i64 k2, .int .i64 k3] 123) = w3 at B3 AR C2 lc3 ⊢
      have LK : Hid (∀ W, Below w3.drew.heap.size w3.drew W → W.cell? ⟨b, 1, none⟩ = some (.bool lf)) := fun W hW => (hW.cell (show b < w3.drew.heap.size by have := B3.out.size; show b < w3.heap.size; omega)).trans lc3
      have LS : Hid (∀ (W : World) (u v : Value), W.cell? ⟨b, 1, none⟩ = some (.bool lf) → ((W.setCell ⟨z + 1, k * 2, none⟩ u).setCell ⟨z + 1, k * 2 + 1, none⟩ v).cell? ⟨b, 1, none⟩ = some (.bool lf)) := fun W u v hW => by
        rw [World.cell?_setCell_other _ _ _ _ (fun e => by injection e; omega), World.cell?_setCell_other _ _ _ _ (fun e => by injection e; omega)]
        exact hW
      clear hw3
      go_region_held3 (fun w' => w'.cell? ⟨b, 1, none⟩ = some (.bool lf)) (first | go_keep | exact LK.out _ BB.out | exact LS.out _ _ _ (LK.out _ BB.out)) ((go_at_call 117; (with_reducible refine Calls.mono C2.out ?_); rintro en w4 ⟨nv, rfl, on, bb⟩; have BB := hide bb; have ON := hide on; (obtain ⟨na, nc, hnv, -⟩ := (Sli.of on).form); subst hnv; clear bb on; have HF4 := hide ((HF1.out.below B3.out).below (Below.drew (Below.refl _ _)) |>.below BB.out); have q0 := HF4.out.cell0 HSL.out; have q1 := HF4.out.cell1 HSL.out; have f0 := HF4.out.fr (k * 2); have f1 := HF4.out.fr (k * 2 + 1)))
      all_goals
        have hz4 : ((w4.setCell ⟨z + 1, k * 2, none⟩ (.bool lf)).setCell ⟨z + 1, k * 2 + 1, none⟩ (.slice na 4 nc)).heap.size = w4.heap.size := by simp [World.setCell]
        have NX : Hid (ArSt w ((w4.setCell ⟨z + 1, k * 2, none⟩ (.bool lf)).setCell ⟨z + 1, k * 2 + 1, none⟩ (.slice na 4 nc)) z n (ss ++ [(lf, .slice na 4 nc, [k0, k1, k2, k3])]) (R.drop ((k + 1) * 2))) := by
          have hb4 : Below wr.heap.size wr w4 := (B3.out.drew).trans (BB.out.mono B3.out.size)
          have hs3 := B3.out.size
          obtain ⟨-, -, cs, q⟩ := own_kind HF4.out.1 (z + 1) rfl
          obtain ⟨-, -, cs2, q2⟩ := own_kind (HF4.out.set (set_even HSL.out oa ob (.bool lf) _)).1 (z + 1) rfl
          refine ⟨row_set_ne (row_set_ne ((hb4.block z (by omega)).trans HC.out.1) (by omega) _ _) (by omega) _ _, ?_, ?_⟩
          · refine KFil.take (W0 := wr) HF1.out.lt (by omega) ((HF4.out.set (set_even HSL.out oa ob (.bool lf) _)).set (set_odd HSL.out _ _ _ _)) ?_ (by simp [maxLen])
            rw [hz4]
            exact (((Sli.of ON.out).dn (show wr.heap.size ≤ w3.drew.heap.size from hs3)).setK q).setK q2
          · exact ((HC.out.2.2.trans (hb4.mono (by omega))).setCell (p := ⟨z + 1, k * 2, none⟩) (by show z ≤ z + 1; omega) _).setCell (p := ⟨z + 1, k * 2 + 1, none⟩) (by show z ≤ z + 1; omega) _
        have NT : Hid ((ss ++ [(lf, Value.slice na 4 nc, [k0, k1, k2, k3])]).map ktell = L.take (k + 1)) := by
          show _ = _
          rw [List.map_append, HST.out, List.take_add_one, HY.out]
          rfl
        have NL : Hid ((ss ++ [(lf, Value.slice na 4 nc, [k0, k1, k2, k3])]).length = k + 1) := by show _ = _; rw [List.length_append, HSL.out]; rfl
        generalize (w4.setCell ⟨z + 1, k * 2, none⟩ (.bool lf)).setCell ⟨z + 1, k * 2 + 1, none⟩ (.slice na 4 nc) = w5 at NX ⊢
        generalize ss ++ [(lf, Value.slice na 4 nc, [k0, k1, k2, k3])] = ss2 at NX NT NL
        clear HC HF1 HF4 ON BB LK LS C2 AR B3 HY HAT LC q0 q1 f0 f1 HSL HST HB2
        go_wp2
        go_roundw
        case rel => exact ⟨k + 1, ss2, by omega, by go_num, NL.out, NT.out, NX.out⟩
        case measure => simp [intOf]; omega
    · have ek : k = n := by omega
      subst ek
      have KO : Hid (KOwn wr (z + 1) (.slice (some ⟨z + 1, 0, none⟩) k k) ss) := by
        have := HC.out.2.1
        rw [List.drop_eq_nil_of_le (by have := HRL.out; omega)] at this
        refine KFil.own ?_
        rw [HSL.out]
        exact this
      have r0 := cell_of_row _ _ 0 _ _ _ HC.out.1
      have f0 := frozen_of_row _ _ 0 _ _ HC.out.1
      have ET : Hid (ss.map ktell = L) := by
        show _ = _
        rw [HST.out, List.take_of_length_le (by have := HL.out; omega)]
      clear HR HF HK
      go_wp2
      refine bodyPost_ret (results_cell_row rfl _ _ z 27 _ (0, 0) _ rfl (row_set HC.out.1 0 (.slice (some ⟨z + 1, 0, none⟩) k k)) Try.underlying27 rfl infoArc) rfl ⟨_, rfl, .slice (some ⟨z + 1, 0, none⟩) k k, ss, rfl, ?_, ET.out, ?_⟩
      · rw [HZ.out]
        exact (KO.out.cellB (show z < z + 1 by omega) _ _).down (by omega)
      · rw [HZ.out]
        exact HC.out.2.2.setCell (p := ⟨z, 0, none⟩) (by show z ≤ z; omega) _
end Go.Proofs.Ytcnaahajaaifjaa
