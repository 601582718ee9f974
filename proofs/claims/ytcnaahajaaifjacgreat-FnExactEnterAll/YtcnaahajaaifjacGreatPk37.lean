/-
  ILinked; ITree; ILeafW; IArena
-/
import Derived.Test.YtcnaahajaaifjacGreatPk36
import Derived.Test.YtcnaahajaaifjacGreatPk6
import Derived.Test.YtcnaahajaaifjacGreatPk22
import Derived.Test.YtcnaahajaaifjacGreatPk15
import Derived.Test.YtcnaahajaaifjacGreatPk8
import Derived.Test.YtcnaahajaaifjacGreatPk33
import Derived.Test.YtcnaahajaaifjacGreatPk35
import Derived.Deep.RegionHeld3
/-
  impl's forests: an arena, linked.
-/
namespace Go.Proofs.YtcnaahajaaifjacGreat
open Go.RowKit
open Words

/-- What linked answers. -/
def LkdOut (w : World) (L : List Kn) (e : Ending) (w' : World) : Prop :=
  Below w.heap.size w w' ∧ ((arB L = true ∧ ∃ v bs, e = .returned (.tuple #[v, .bool true]) ∧ Forest w' w.heap.size v bs L) ∨ (arB L = false ∧ e = .returned (.tuple #[.slice none 0 0, .bool false])))
/-- The linking under way. -/
def LdSt (w W : World) (z : Nat) (av fv : Value) (L : List Kn) (k : Nat) (bs : List Nat) : Prop :=
  W.heap[z]? = some (.cells #[av] 34 (0, 0)) ∧ W.ownsRow z 113 1 fv k (bcellsP bs) ∧ bs.length = k ∧ FAt W bs (lksOf bs (L.take k)) ∧ bs.Pairwise (· < ·) ∧ (∀ b ∈ bs, z ≤ b) ∧ arK L k = true ∧ Below z w W

theorem ptr_one (b : Nat) : ∀ u ∈ [ptr b], u.oneCell' = true := by
  intro u hu; simp at hu; subst hu; rfl

set_option maxHeartbeats 1000000 in
set_option maxRecDepth 100000 in
theorem ilinked (ad : Option Addr) (len cap : Nat) (rs : List Kw) (w : World) (hl : len ≤ 1048578) (h : KnRd w ad len rs) :
    Calls Tryz.prog 77 #[.agg #[.slice ad len cap]] w (LkdOut w (rs.map ktell)) := by
  have S0 : Hid (LdSt w (w.alloc (.cells #[.slice ad len cap] 34)) w.heap.size (.slice ad len cap) (.slice none 0 0) (rs.map ktell) 0 []) :=
    ⟨heap_alloc_new w _, ⟨rfl, .inl ⟨rfl, rfl⟩⟩, rfl, FAt.nil _, List.Pairwise.nil, (fun _ h => by cases h), rfl, (Below.refl _ _).alloc (Nat.le_refl _) _⟩
  have H := hide h
  have H1 := hide h.1
  have HLL := hide (show (rs.map ktell).length = len by rw [List.length_map]; exact h.1)
  have bx := box_at w (.slice ad len cap)
  clear h
  obtain ⟨L, hL⟩ : ∃ L, rs.map ktell = L := ⟨_, rfl⟩
  have HL := hide hL
  rw [hL] at S0 HLL ⊢
  clear hL
  go_enter Tryz.func77, Tryz.ntmps77
  go_wp2
  obtain ⟨z, hz⟩ : ∃ z, w.heap.size = z := ⟨_, rfl⟩
  have HZ := hide hz
  rw [hz] at S0 ⊢
  clear hz bx
  generalize w.alloc (.cells #[.slice ad len cap] 34) = wa at S0 ⊢
  go_loopw [4, 12] (fun fv iv W => ∃ (k : Nat) (bs : List Nat), k ≤ len ∧ iv = .int .i64 k ∧ Hid (LdSt w W z (.slice ad len cap) fv L k bs)) (fun _ iv _ => len - (intOf iv).toNat)
  case atStart => exact ⟨0, [], Nat.zero_le _, rfl, S0⟩
  case round =>
    obtain ⟨k, bs, hk, rfl, HS⟩ := hrel
    clear S0
    by_cases hlt : (k : Int) < len
    · obtain ⟨r, hr⟩ : ∃ r, rs[k]? = some r := ⟨_, List.getElem?_eq_getElem (by have := H1.out; omega)⟩
      obtain ⟨b, off, e, hb⟩ := H.out.adr (by omega)
      subst e
      have KR := hide (H.out.below (by rw [HZ.out]; exact HS.out.2.2.2.2.2.2.2))
      obtain ⟨c0, c1⟩ := KR.out.cell hr
      obtain ⟨ka, kc, hkv, -, kr⟩ := KR.out.2.2.1 r (List.mem_of_getElem? hr)
      have hx : L[k]? = some (ktell r) := by rw [← HL.out, List.getElem?_map, hr]; rfl
      have HX := hide hx
      obtain ⟨lf, kv, ls⟩ := r
      simp only at c0 c1 hkv kr
      subst hkv
      obtain ⟨kl, hkl⟩ : ∃ kl, ls.length = kl := ⟨_, rfl⟩
      rw [hkl] at c1 kr
      have KI := hide kr
      have k0 : (0 : Int) ≤ k := by omega
      obtain ⟨fa, fc, hfv, hpr⟩ := PRow.of (bs := bs) (by rw [HS.out.2.2.1]; exact HS.out.2.1)
      rw [HS.out.2.2.1] at hfv hpr
      subst hfv
      have BN : Hid (Below wr.heap.size wr (wr.alloc (.cells #[.bool lf, .slice ka kl kc] 84))) := (Below.refl _ _).alloc (Nat.le_refl _) _
      have C := hide (ilink fa k fc bs (lksOf bs (L.take k)) lf ka kl kc ls (wr.alloc (.cells #[.bool lf, .slice ka kl kc] 84)) (hpr.below BN.out) (HS.out.2.2.2.1.below BN.out) lksOf_place (KI.out.below BN.out))
      have hkL : k ≤ L.length := by have := HLL.out; omega
      have EQ : Hid (linkOk bs (lksOf bs (L.take k)) lf ls = knB L k ⟨lf, ls⟩) := linkOk_is HS.out.2.2.1 hkL ⟨lf, ls⟩
      obtain ⟨mk, hmk⟩ : ∃ mk, lkMade bs (lksOf bs (L.take k)) k lf ls = mk := ⟨_, rfl⟩
      have EM := hide hmk
      obtain ⟨ok, hok⟩ : ∃ ok, linkOk bs (lksOf bs (L.take k)) lf ls = ok := ⟨_, rfl⟩
      rw [hmk, hok] at C
      rw [hok] at EQ
      have HOK := hide hok
      clear kr hr hb hpr hkl hx hmk hok
      go_wp2_with fail
      refine C.out.mono ?_
      rintro e w1 ⟨v, rfl, b1, hv⟩
      cases ok with
      | false =>
        have HB : Hid (Below z w w1) := HS.out.2.2.2.2.2.2.2.trans ((BN.out.trans (b1.mono BN.out.size)).mono (by rw [← HZ.out]; exact HS.out.2.2.2.2.2.2.2.size))
        have HA : Hid (arB L = false) := arB_bad HX.out EQ.out.symm
        clear hv b1 C
        go_wp2
        go_ret2
        exact ⟨by rw [HZ.out]; exact HB.out, .inr ⟨HA.out, rfl⟩⟩
      | true =>
        obtain ⟨bb, rfl, hat, hlo⟩ := hv rfl
        have hzr : z ≤ wr.heap.size := by rw [← HZ.out]; exact HS.out.2.2.2.2.2.2.2.size
        have hlt1 := hat.lt
        have hB1 : Below wr.heap.size wr w1 := BN.out.trans (b1.mono BN.out.size)
        have hs1 := hB1.size
        have hbn : wr.heap.size ≤ bb := by have := BN.out.size; omega
        have BA : Hid (Below w1.heap.size w1 (w1.alloc (.cells #[ptr bb] 113))) := (Below.refl _ _).alloc (Nat.le_refl _) _
        have OWN := hide (own_below (own_below HS.out.2.1 hB1) BA.out)
        have FA : Hid (FAt (w1.alloc (.cells #[ptr bb] 113)) (bs ++ [bb]) (lksOf (bs ++ [bb]) (L.take (k + 1)))) := by
          have hK : arK L (k + 1) = true := by rw [arK_succ HX.out, HS.out.2.2.2.2.2.2.1, Bool.true_and]; exact EQ.out.symm
          have := ((HS.out.2.2.2.1.below hB1).snoc hat).below BA.out
          rw [← EM.out, lkMade_is ⟨lf, ls⟩ HOK.out] at this
          show FAt _ _ _
          rw [lksOf_snoc HS.out.2.2.1 HX.out hK]
          exact this
        have HK1 : Hid (arK L (k + 1) = true) := by show _ = _; rw [arK_succ HX.out, HS.out.2.2.2.2.2.2.1, Bool.true_and]; exact EQ.out.symm
        have PW : Hid ((bs ++ [bb]).Pairwise (· < ·)) := asc_snoc HS.out.2.2.2.2.1 (fun c hc => by have := HS.out.2.2.2.1.all_lt c hc; omega)
        have LOW : Hid (∀ b ∈ bs ++ [bb], z ≤ b) := fun c hc => by
          rcases List.mem_append.1 hc with hc | hc
          · exact HS.out.2.2.2.2.2.1 c hc
          · simp only [List.mem_singleton] at hc; omega
        have HB : Hid (Below z w (w1.alloc (.cells #[ptr bb] 113))) := (HS.out.2.2.2.2.2.2.2.trans (hB1.mono hzr)).trans (BA.out.mono (by omega))
        have AV : Hid ((w1.alloc (.cells #[ptr bb] 113)).heap[z]? = some (.cells #[.slice (some ⟨b, off, none⟩) len cap] 34 (0, 0))) := by
          have hz1 := (Array.getElem?_eq_some_iff.1 HS.out.1).1
          exact (BA.out.block z (by omega)).trans ((hB1.block z hz1).trans HS.out.1)
        have HBL : Hid (bs.length = k) := HS.out.2.2.1
        have hza : z ≤ (w1.alloc (.cells #[ptr bb] 113)).heap.size := by simp; omega
        obtain ⟨i0, hi0, hz0, hz1, hz2⟩ := info_parts infoPt
        have I0 := hide hi0
        have Y0 := hide hz0
        have Y1 := hide hz1
        have Y2 := hide hz2
        clear hi0 hz0 hz1 hz2 hat hB1 b1 hv C HS BN KI EM EQ HOK c0 c1
        unfold ptr at *
        go_wp2_with (at_builtin; refine wpList_append_own _ rfl _ _ 107 rfl z 113 i0 (.pointer none) 1 8 Tryz.underlying107 I0.out Y0.out Y1.out Y2.out rfl (by decide) _ _ _ rfl OWN.out ⟨w1.heap.size, 0, none⟩ 1 1 [Value.pointer (some ⟨bb, 0, none⟩)] rfl rfl (one_cell _ _ _) (ptr_one _) ?c1 ?c2 ?c3 ?_)
        case c1 => unfold maxLen; omega
        case c2 => omega
        case c3 => exact hza
        intro u' y ho hg _
        have ho2 : y.ownsRow z 113 1 u' (k + 1) (bcellsP (bs ++ [bb])) := by rw [← bcellsP_snoc]; exact ho
        have hrow : ∀ g, (Value.slice fa k fc).ownBlock = some g → z ≤ g ∧ ∃ cs, (w1.alloc (.cells #[.pointer (some ⟨bb, 0, none⟩)] 113)).heap[g]? = some (.cells cs 113 (0, 0)) := fun g hg2 => by
          obtain ⟨q1, -, q2⟩ := own_kind OWN.out g hg2
          exact ⟨q1, q2⟩
        have ST : Hid (LdSt w y z (.slice (some ⟨b, off, none⟩) len cap) u' L (k + 1) (bs ++ [bb])) := by
          refine ⟨?_, ho2, by rw [List.length_append, HBL.out]; rfl, FA.out.grown hg (fun g e => (hrow g e).2), PW.out, LOW.out, HK1.out, HB.out.grown hg hza (fun g e => (hrow g e).1)⟩
          refine (hg.block z (Array.getElem?_eq_some_iff.1 AV.out).1 (fun e => ?_)).trans AV.out
          obtain ⟨-, cs, q⟩ := hrow z e.symm
          rw [AV.out] at q
          injection q with q
          injection q with _ q
          simp at q
        obtain ⟨ua, uc, hu, -⟩ := (Sli.of ho2).form
        subst hu
        clear ho ho2 hg hrow OWN FA HB AV
        go_wp2
        go_roundw
        case rel => exact ⟨k + 1, bs ++ [bb], by omega, by go_num, ST⟩
        case measure => simp [intOf]; omega
    · have ek : k = len := by omega
      subst ek
      have HF : Hid (LkdOut w L (.returned (.tuple #[u4, .bool true])) wr) := by
        obtain ⟨-, h2, h3, h4, h5, h6, h7, h8⟩ := HS.out
        rw [List.take_of_length_le (by have := HLL.out; omega)] at h4
        have e : arB L = true := by rw [arB, HLL.out]; exact h7
        exact ⟨by rw [HZ.out]; exact h8, .inl ⟨e, u4, bs, rfl, by rw [HLL.out, HZ.out]; exact h2, by rw [HLL.out]; exact h3, h4, h5, fun b hb => by rw [HZ.out]; exact h6 b hb⟩⟩
      obtain ⟨fa, fc, hfv, -⟩ := PRow.of (bs := bs) (by rw [HS.out.2.2.1]; exact HS.out.2.1)
      clear HS
      subst hfv
      go_wp2
      go_ret2
      exact HF.out
end Go.Proofs.YtcnaahajaaifjacGreat

/-
  impl.ArenaOk; the tree at a root; impl.GetAt.
-/
namespace Go.Proofs.YtcnaahajaaifjacGreat
open Go.RowKit
open Words

theorem icells_rep (n : Nat) : List.replicate n (Value.int .i64 0) = icells (List.replicate n 0) := by simp [icells]
/-- The tree of a root stands in block b. -/
def TreeAt (W : World) (b : Nat) (bs : List Nat) (L : List Kn) (r : Int) : Prop :=
  FAt W bs (lksOf bs L) ∧ ((r = -1 ∧ LkAt W b lkNone) ∨ ∃ (m : Nat) (x : Kn), r = (m : Int) ∧ bs[m]? = some b ∧ L[m]? = some x ∧ x.leaf = false)
theorem TreeAt.below {W W' : World} {b : Nat} {bs : List Nat} {L : List Kn} {r : Int} (h : TreeAt W b bs L r) (hb : Below W.heap.size W W') : TreeAt W' b bs L r := by
  obtain ⟨h1, h2⟩ := h
  refine ⟨h1.below hb, ?_⟩
  rcases h2 with ⟨e, h⟩ | h
  · exact .inl ⟨e, h.blw hb⟩
  · exact .inr h
theorem rootB_neg {L : List Kn} {r : Int} (h : rootB L r = false) : r ≠ -1 ∧ (r < 0 ∨ (L.length : Int) ≤ r ∨ ∃ x, L[r.toNat]? = some x ∧ x.leaf = true) := by
  unfold rootB at h
  simp only [Bool.or_eq_false_iff, decide_eq_false_iff_not, Bool.and_eq_false_iff, Bool.not_eq_false'] at h
  refine ⟨h.1, ?_⟩
  rcases h.2 with (h | h) | h
  · exact .inl (by omega)
  · exact .inr (.inl (by omega))
  · obtain ⟨y, hy, hl⟩ := knLeaf_lt h
    exact .inr (.inr ⟨y, hy, hl⟩)
theorem rootB_yes {L : List Kn} {r : Int} (h : rootB L r = true) : r = -1 ∨ ∃ (m : Nat) (x : Kn), r = (m : Int) ∧ L[m]? = some x ∧ x.leaf = false := by
  by_cases h0 : r = -1
  · exact .inl h0
  · have h1 : 0 ≤ r := by
      unfold rootB at h
      simp only [Bool.or_eq_true, Bool.and_eq_true, decide_eq_true_eq] at h
      omega
    obtain ⟨x, hx, hl⟩ := rootB_pos h h1
    exact .inr ⟨r.toNat, x, by omega, hx, hl⟩
/-- What treeAt of a forest answers. -/
def FTOut (w : World) (bs : List Nat) (L : List Kn) (r : Int) (e : Ending) (w' : World) : Prop :=
  Below w.heap.size w w' ∧ ((rootB L r = true ∧ ∃ b, e = .returned (ptr b) ∧ TreeAt w' b bs L r ∧ (r = -1 → w.heap.size ≤ b)) ∨ (rootB L r = false ∧ e = .returned (.pointer none)))
theorem ftree (fa : Option Addr) (n c : Nat) (bs : List Nat) (L : List Kn) (r : Int) (w : World) (hr : PRow w fa n bs) (hf : FAt w bs (lksOf bs L)) :
    Calls Tryz.prog 91 #[.slice fa n c, .int .i64 r] w (FTOut w bs L r) := by
  cases hR : rootB L r with
  | true =>
    rcases rootB_yes hR with rfl | ⟨m, x, rfl, hx, hl⟩
    · refine (itree_new (.slice fa n c) w).mono ?_
      rintro e w' ⟨rfl, hat, hb⟩
      exact ⟨hb, .inl ⟨hR, _, rfl, ⟨hf.below hb, .inl ⟨rfl, hat⟩⟩, fun _ => Nat.le_refl _⟩⟩
    · have hm : m < bs.length := by rw [hf.1, lksOf_len]; exact (List.getElem?_eq_some_iff.1 hx).1
      refine (itree_at fa n c bs (lksOf bs L) m _ (lkOf bs m x) w hr hf (lksOf_some hx) (List.getElem?_eq_getElem hm) (by rw [lkOf_leaf]; exact hl)).mono ?_
      rintro e w' ⟨rfl, rfl⟩
      exact ⟨Below.refl _ _, .inl ⟨hR, _, rfl, ⟨hf, .inr ⟨m, x, rfl, List.getElem?_eq_getElem hm, hx, hl⟩⟩, fun h => by omega⟩⟩
  | false =>
    obtain ⟨h1, h2⟩ := rootB_neg hR
    have hl : (L.length : Int) = n := by have := hr.1; have := hf.1; rw [lksOf_len] at this; omega
    refine (itree_no fa n c bs (lksOf bs L) r w hr hf h1 ?_).mono ?_
    · rcases h2 with h | h | ⟨x, hx, hl⟩
      · exact .inl h
      · exact .inr (.inl (by omega))
      · exact .inr (.inr ⟨_, lksOf_some hx, by rw [lkOf_leaf]; exact hl⟩)
    · rintro e w' ⟨rfl, rfl⟩
      exact ⟨Below.refl _ _, .inr ⟨hR, rfl⟩⟩
/-- What treeAt of an arena answers. -/
def ATOut (w : World) (L : List Kn) (r : Int) (e : Ending) (w' : World) : Prop :=
  Below w.heap.size w w' ∧ ((arB L = true ∧ rootB L r = true ∧ ∃ b bs, e = .returned (ptr b) ∧ TreeAt w' b bs L r) ∨ ((arB L && rootB L r) = false ∧ e = .returned (.pointer none)))
set_option maxHeartbeats 400000 in
set_option maxRecDepth 100000 in
theorem isect (s : Int) (w : World) : Calls Tryz.prog 101 #[.int .i64 s] w fun e w' => e = .returned (.bool (decide (0 ≤ s ∧ s ≤ 15))) ∧ w' = w := by
  by_cases h0 : 0 ≤ s
  · by_cases h1 : s ≤ 15
    · rw [decide_eq_true ⟨h0, h1⟩]
      go_enter Tryz.func101, Tryz.ntmps101
      go_wp2
      go_ret
      exact ⟨rfl, rfl⟩
    · rw [decide_eq_false (fun h => h1 h.2)]
      go_enter Tryz.func101, Tryz.ntmps101
      go_wp2
      go_ret
      exact ⟨rfl, rfl⟩
  · rw [decide_eq_false (fun h => h0 h.1)]
    go_enter Tryz.func101, Tryz.ntmps101
    go_wp2
    go_ret
    exact ⟨rfl, rfl⟩
end Go.Proofs.YtcnaahajaaifjacGreat

/-
  impl's linked knots: a leaf with one more number.
-/
namespace Go.Proofs.YtcnaahajaaifjacGreat
open Go.RowKit
open Words

theorem set4 (a b c d n : Int) (t : Nat) (h : t < 4) : True → (t = 0 ∧ [a, b, c, d].set t n = [n, b, c, d]) ∨ (t = 1 ∧ [a, b, c, d].set t n = [a, n, c, d]) ∨ (t = 2 ∧ [a, b, c, d].set t n = [a, b, n, d]) ∨ (t = 3 ∧ [a, b, c, d].set t n = [a, b, c, n]) := by
  intro _
  match t, h with
  | 0, _ => exact .inl ⟨rfl, rfl⟩
  | 1, _ => exact .inr (.inl ⟨rfl, rfl⟩)
  | 2, _ => exact .inr (.inr (.inl ⟨rfl, rfl⟩))
  | 3, _ => exact .inr (.inr (.inr ⟨rfl, rfl⟩))

set_option maxHeartbeats 2000000 in
set_option maxRecDepth 100000 in
theorem ileafWith (b : Nat) (x : Lk) (s : Nat) (n : Int) (old : List Int) (w : World) (hs : s ≤ 15) (h : LkAt w b x) (ho : (∃ k, k = s / 4 ∧ x.tos[k]? = some none ∧ old = [0, 0, 0, 0]) ∨ ∃ c y, x.tos[s / 4]? = some (some c) ∧ LkAt w c y ∧ y.nums = old) :
    Calls Tryz.prog 102 #[ptr b, .int .i64 s, .int .i64 n] w fun e w' => e = .returned (ptr w.heap.size) ∧ LkAt w' w.heap.size ⟨0, true, old.set (s % 4) n, [none, none, none, none], false⟩ ∧ Below w.heap.size w w' := by
  obtain ⟨q, hq⟩ : ∃ q, s / 4 = q := ⟨_, rfl⟩
  obtain ⟨t, ht⟩ : ∃ t, s % 4 = t := ⟨_, rfl⟩
  rw [hq] at ho
  rw [ht]
  have tq : (s : Int).tdiv 4 = (q : Int) := by rw [Int.tdiv_eq_ediv_of_nonneg (by omega)]; omega
  have tt : (s : Int).tmod 4 = (t : Int) := by rw [Int.tmod_eq_emod_of_nonneg (by omega)]; omega
  have tq2 : (s : Int) / 4 = (q : Int) := by omega
  have tt2 : (s : Int) % 4 = (t : Int) := by omega
  have q0 : (0 : Int) ≤ q := by omega
  have q4 : (q : Int) < 4 := by omega
  have t4 : t < 4 := by omega
  have hB : Below w.heap.size w (w.alloc (.cells #[.int .i64 0, .bool true, .int .i64 0, .int .i64 0, .int .i64 0, .int .i64 0, .pointer none, .pointer none, .pointer none, .pointer none, .bool false] 119)) := (Below.refl _ _).alloc (Nat.le_refl _) _
  rcases ho with ⟨k, rfl, hk, rfl⟩ | ⟨c, y, hk, hy, rfl⟩
  · have c1 := (h.blw hB).to hk
    have c2 : (w.alloc (.cells #[.int .i64 0, .bool true, .int .i64 0, .int .i64 0, .int .i64 0, .int .i64 0, .pointer none, .pointer none, .pointer none, .pointer none, .bool false] 119)).cell? ⟨b, 6 + k, none⟩ = some (.pointer none) := c1
    clear h hk hq ht hB c1
    unfold ptr
    rcases set4 0 0 0 0 n t t4 trivial with ⟨rfl, e⟩ | ⟨rfl, e⟩ | ⟨rfl, e⟩ | ⟨rfl, e⟩
    all_goals
      rw [e]
      clear e t4
      go_enter Tryz.func102, Tryz.ntmps102
      go_wp2
      go_ret
      exact ⟨rfl, ⟨heap_alloc_new w _, rfl, rfl⟩, (Below.refl _ _).alloc (Nat.le_refl _) _⟩
  · obtain ⟨n0, n1, n2, n3, hn⟩ := list4 hy.2.1
    have c1 := (h.blw hB).to hk
    have c2 : (w.alloc (.cells #[.int .i64 0, .bool true, .int .i64 0, .int .i64 0, .int .i64 0, .int .i64 0, .pointer none, .pointer none, .pointer none, .pointer none, .bool false] 119)).cell? ⟨b, 6 + q, none⟩ = some (.pointer (some ⟨c, 0, none⟩)) := c1
    have d0 := (hy.blw hB).num (k := 0) (n := n0) (by rw [hn]; rfl)
    have d1 := (hy.blw hB).num (k := 1) (n := n1) (by rw [hn]; rfl)
    have d2 := (hy.blw hB).num (k := 2) (n := n2) (by rw [hn]; rfl)
    have d3 := (hy.blw hB).num (k := 3) (n := n3) (by rw [hn]; rfl)
    simp only [Nat.reduceAdd] at d0 d1 d2 d3
    rw [hn]
    clear h hk hq ht hB c1 hy hn
    unfold ptr
    rcases set4 n0 n1 n2 n3 n t t4 trivial with ⟨rfl, e⟩ | ⟨rfl, e⟩ | ⟨rfl, e⟩ | ⟨rfl, e⟩
    all_goals
      rw [e]
      clear e t4
      go_enter Tryz.func102, Tryz.ntmps102
      go_wp2
      go_ret
      exact ⟨rfl, ⟨heap_alloc_new w _, rfl, rfl⟩, (Below.refl _ _).alloc (Nat.le_refl _) _⟩
end Go.Proofs.YtcnaahajaaifjacGreat

/-
  impl's forests: the arena of a forest.
-/
namespace Go.Proofs.YtcnaahajaaifjacGreat
open Go.RowKit
open Words

theorem KidsR.below {W W' : World} {x : Lk} {ks : List Int} (h : KidsR W x ks) (hb : Below W.heap.size W W') : KidsR W' x ks := by
  unfold KidsR at h ⊢
  split at h
  · rename_i hl
    rw [if_pos hl]
    exact h
  · rename_i hl
    rw [if_neg hl]
    refine ⟨h.1, fun k o ho => ?_⟩
    obtain ⟨p, hp, hc⟩ := h.2 k o ho
    refine ⟨p, hp, ?_⟩
    rcases hc with hc | ⟨c, e, hc, hl⟩
    · exact .inl hc
    · have := hb.size
      exact .inr ⟨c, e, (hb.cell (show c < W.heap.size from hl)).trans hc, by omega⟩
theorem KidsR.len {W : World} {x : Lk} {ks : List Int} (h : KidsR W x ks) (h4 : x.Four) : ks.length = 4 := by
  unfold KidsR at h
  split at h
  · rw [h]; exact h4.1
  · exact h.1
/-- The arena under way. -/
def ArSt (w W : World) (z n : Nat) (ss : List Kw) (zs : List Value) : Prop := W.heap[z]? = some (.cells #[.slice none 0 0] 34 (0, 0)) ∧ KFil W (z + 1) (.slice (some ⟨z + 1, 0, none⟩) n n) n ss zs ∧ Below z w W
theorem drop2 {R : List Value} {k n : Nat} (h : R.length = n * 2) (hk : k < n) : ∃ a b, R.drop (k * 2) = a :: b :: R.drop ((k + 1) * 2) := by
  refine ⟨R[k * 2], R[k * 2 + 1], ?_⟩
  rw [List.drop_eq_getElem_cons (by omega), List.drop_eq_getElem_cons (by omega)]
  rw [show k * 2 + 1 + 1 = (k + 1) * 2 by omega]

set_option maxHeartbeats 2000000 in
set_option maxRecDepth 100000 in
theorem iarena (fa : Option Addr) (n c : Nat) (bs : List Nat) (xs : List Lk) (L : List Kn) (w : World) (hn : n ≤ 1048600) (hr : PRow w fa n bs) (hf : FAt w bs xs) (hL : L.length = n) (hk : ∀ (i : Nat) (x : Lk) (y : Kn), xs[i]? = some x → L[i]? = some y → x.leaf = y.leaf ∧ KidsR w x y.kids) :
    Calls Tryz.prog 96 #[.slice fa n c] w fun e w' => ∃ v, e = .returned v ∧ KOut w L v w' := by
  obtain ⟨i0, hi, hz0, hz1, hz2⟩ := info_parts infoKn
  have R0 := hide (heap_alloc_new w (.cells #[.slice none 0 0] 34))
  have B0 : Hid (Below w.heap.size w (w.alloc (.cells #[.slice none 0 0] 34))) := (Below.refl _ _).alloc (Nat.le_refl _) _
  have HR := hide hr
  have HF := hide hf
  have HL := hide hL
  have HK := hide hk
  clear hr hf hL hk
  go_enter Tryz.func96, Tryz.ntmps96
  go_wp2_with (at_make; refine wpList_make_full _ rfl _ _ 32 rfl (w.heap.size + 1) 84 i0 (.agg #[.bool false, .slice none 0 0]) 2 Tryz.underlying32 hi hz0 hz1 .i64 .i64 _ _ n rfl rfl rfl rfl (by rw [hz2]; omega) (by unfold maxLen; omega) (by simp) ?_)
  intro w1 hown hgrow
  generalize (madeCells #[Value.bool false, Value.slice none 0 0] (n * 2)).toList = R at hown
  have HRL : Hid (R.length = n * 2) := hown.1
  have BG : Below (w.alloc (.cells #[.slice none 0 0] 34)).heap.size (w.alloc (.cells #[.slice none 0 0] 34)) w1 := (Below.refl _ _).grown hgrow (Nat.le_refl _) (fun k hk => by cases hk)
  have S0 : Hid (ArSt w w1 w.heap.size n [] R) := by
    refine ⟨(BG.block w.heap.size (by simp)).trans R0.out, ⟨by simpa [kncells] using hown, (fun _ h => by cases h), List.Pairwise.nil⟩, B0.out.trans (BG.mono B0.out.size)⟩
  obtain ⟨z, hz⟩ : ∃ z, w.heap.size = z := ⟨_, rfl⟩
  have HZ := hide hz
  rw [hz] at S0 ⊢
  clear hz hown hgrow BG R0 B0 hi hz0 hz1 hz2
  go_wp2
  go_loopw [12] (fun iv W => ∃ (k : Nat) (ss : List Kw), k ≤ n ∧ iv = .int .i64 k ∧ Hid (ss.length = k ∧ ss.map ktell = L.take k ∧ ArSt w W z n ss (R.drop (k * 2)))) (fun iv _ => n - (intOf iv).toNat)
  case atStart => exact ⟨0, [], Nat.zero_le _, rfl, rfl, by simp, by simpa using S0.out⟩
  case round =>
    obtain ⟨k, ss, hk, rfl, HS⟩ := hrel
    clear S0
    obtain ⟨hsl, hst, hca⟩ := HS.out
    have HSL := hide hsl
    have HST := hide hst
    have HC := hide hca
    clear HS hsl hst hca
    have HW : Hid (Below w.heap.size w wr) := by rw [hide HZ.out]; exact HC.out.2.2
    by_cases hlt : (k : Int) < n
    · obtain ⟨y, hy⟩ : ∃ y, L[k]? = some y := ⟨_, List.getElem?_eq_getElem (by have := HL.out; omega)⟩
      obtain ⟨x, hx⟩ : ∃ x, xs[k]? = some x := ⟨_, List.getElem?_eq_getElem (by have := HF.out.1; have := HR.out.1; omega)⟩
      obtain ⟨hlf, hkr⟩ := HK.out k x y hx hy
      obtain ⟨b, hb, hat⟩ := (HF.out.below HW.out).get hx
      obtain ⟨fg, rfl, -, hcf⟩ := (HR.out.below HW.out).at hb
      have hbz : b < z := by have := HF.out.2 k b x hb hx; rw [← HZ.out]; exact this.lt
      have k4 := hkr.len hat.2
      have C := hide (ikids b x y.kids wr hat (hkr.below HW.out))
      obtain ⟨k0, k1, k2, k3, hks⟩ := list4 k4
      have HAT := hide hat
      have k00 : (0 : Int) ≤ k := by omega
      obtain ⟨lf, hlfe⟩ : ∃ lf, y.leaf = lf := ⟨_, rfl⟩
      rw [hlfe] at hlf
      have hYE : y = ⟨lf, [k0, k1, k2, k3]⟩ := by cases y; simp only at hks hlfe; rw [hks, hlfe]
      have HY := hide hy
      rw [hYE] at HY
      rw [hks] at C
      have hlc := hat.leaf
      rw [hlf] at hlc
      obtain ⟨oa, ob, hd⟩ := drop2 HRL.out (show k < n by omega)
      have HF1 : Hid (KFil wr (z + 1) (.slice (some ⟨z + 1, 0, none⟩) n n) n ss (oa :: ob :: R.drop ((k + 1) * 2))) := by have := HC.out.2.1; rw [hd] at this; exact this
      have LC := hide hlc
      unfold ptr at hcf C
      clear hks k4 hkr hat hx hb hy hYE hlfe hd hlf hlc
      go_wp2_with fail
      refine C.out.mono ?_
      rintro e w2 ⟨rfl, b2⟩
      have HB2 := hide b2
      simp only [icells, List.map_cons, List.map_nil]
      have B3 : Hid (Below wr.heap.size wr (w2.alloc (.cells #[.int .i64 k0, .int .i64 k1, .int .i64 k2, .int .i64 k3] 116))) := b2.trans (((Below.refl _ _).alloc (Nat.le_refl _) _).mono b2.size)
      have hzw : z + 1 < wr.heap.size := (own_kind HF1.out.1 (z + 1) rfl).2.1
      have hw2 := b2.size
      have AR : Hid (ISl (w2.alloc (.cells #[.int .i64 k0, .int .i64 k1, .int .i64 k2, .int .i64 k3] 116)).drew (.slice (some ⟨w2.heap.size, 0, none⟩) 4 4) [k0, k1, k2, k3]) := by
        refine ⟨_, 4, rfl, (fun e => by cases e), rfl, by simp [maxLen], fun _ => ⟨w2.heap.size, 0, rfl, by show _ < (w2.alloc _).heap.size; simp, fun i t ht => ?_⟩⟩
        have := cell_of_row _ _ (0 + i) _ _ _ (heap_alloc_new w2 (.cells #[.int .i64 k0, .int .i64 k1, .int .i64 k2, .int .i64 k3] 116))
        refine Eq.trans this ?_
        rw [Nat.zero_add]
        match i, ht with
        | 0, ht | 1, ht | 2, ht | 3, ht => simp at ht; subst ht; rfl
      have C2 := hide (icl_ints (.slice (some ⟨w2.heap.size, 0, none⟩) 4 4) [k0, k1, k2, k3] (w2.alloc (.cells #[.int .i64 k0, .int .i64 k1, .int .i64 k2, .int .i64 k3] 116)).drew (by simp) AR.out)
      have lc3 : (w2.alloc (.cells #[.int .i64 k0, .int .i64 k1, .int .i64 k2, .int .i64 k3] 116)).cell? ⟨b, 1, none⟩ = some (.bool lf) := (B3.out.cell (show b < wr.heap.size by omega)).trans LC.out
      clear b2 C
      go_wp2_with fail
      generalize hw3 : w2.alloc (.cells #[.int .i64 k0, .int .i64 k1, .int .i64 k2, .int .i64 k3] 116) = w3 at B3 AR C2 lc3 ⊢
      have LK : Hid (∀ W, Below w3.drew.heap.size w3.drew W → W.cell? ⟨b, 1, none⟩ = some (.bool lf)) := fun W hW => (hW.cell (show b < w3.drew.heap.size by have := B3.out.size; show b < w3.heap.size; omega)).trans lc3
      have LS : Hid (∀ (W : World) (u v : Value), W.cell? ⟨b, 1, none⟩ = some (.bool lf) → ((W.setCell ⟨z + 1, k * 2, none⟩ u).setCell ⟨z + 1, k * 2 + 1, none⟩ v).cell? ⟨b, 1, none⟩ = some (.bool lf)) := fun W u v hW => by
        rw [World.cell?_setCell_other _ _ _ _ (fun e => by injection e; omega), World.cell?_setCell_other _ _ _ _ (fun e => by injection e; omega)]
        exact hW
      clear hw3
      go_region_held3 (fun w' => w'.cell? ⟨b, 1, none⟩ = some (.bool lf)) (first | go_keep | exact LK.out _ BB.out | exact LS.out _ _ _ (LK.out _ BB.out)) ((go_at_call 62; (with_reducible refine Calls.mono C2.out ?_); rintro en w4 ⟨nv, rfl, on, bb⟩; have BB := hide bb; have ON := hide on; (obtain ⟨na, nc, hnv, -⟩ := (Sli.of on).form); subst hnv; clear bb on; have HF4 := hide ((HF1.out.below B3.out).below (Below.drew (Below.refl _ _)) |>.below BB.out); have q0 := HF4.out.cell0 HSL.out; have q1 := HF4.out.cell1 HSL.out; have f0 := HF4.out.fr (k * 2); have f1 := HF4.out.fr (k * 2 + 1)))
      all_goals
        have hz4 : ((w4.setCell ⟨z + 1, k * 2, none⟩ (.bool lf)).setCell ⟨z + 1, k * 2 + 1, none⟩ (.slice na 4 nc)).heap.size = w4.heap.size := by simp [World.setCell]
        have NX : Hid (ArSt w ((w4.setCell ⟨z + 1, k * 2, none⟩ (.bool lf)).setCell ⟨z + 1, k * 2 + 1, none⟩ (.slice na 4 nc)) z n (ss ++ [(lf, .slice na 4 nc, [k0, k1, k2, k3])]) (R.drop ((k + 1) * 2))) := by
          have hb4 : Below wr.heap.size wr w4 := (B3.out.drew).trans (BB.out.mono B3.out.size)
          have hs3 := B3.out.size
          obtain ⟨-, -, cs, q⟩ := own_kind HF4.out.1 (z + 1) rfl
          obtain ⟨-, -, cs2, q2⟩ := own_kind (HF4.out.set (set_even HSL.out oa ob (.bool lf) _)).1 (z + 1) rfl
          refine ⟨row_set_ne (row_set_ne ((hb4.block z (by omega)).trans HC.out.1) (by omega) _ _) (by omega) _ _, ?_, ?_⟩
          · refine KFil.take (W0 := wr) HF1.out.lt (by omega) ((HF4.out.set (set_even HSL.out oa ob (.bool lf) _)).set (set_odd HSL.out _ _ _ _)) ?_ (by simp [maxLen])
            rw [hz4]
            exact (((Sli.of ON.out).dn (show wr.heap.size ≤ w3.drew.heap.size from hs3)).setK q).setK q2
          · exact ((HC.out.2.2.trans (hb4.mono (by omega))).setCell (p := ⟨z + 1, k * 2, none⟩) (by show z ≤ z + 1; omega) _).setCell (p := ⟨z + 1, k * 2 + 1, none⟩) (by show z ≤ z + 1; omega) _
        have NT : Hid ((ss ++ [(lf, Value.slice na 4 nc, [k0, k1, k2, k3])]).map ktell = L.take (k + 1)) := by
          show _ = _
          rw [List.map_append, HST.out, List.take_add_one, HY.out]
          rfl
        have NL : Hid ((ss ++ [(lf, Value.slice na 4 nc, [k0, k1, k2, k3])]).length = k + 1) := by show _ = _; rw [List.length_append, HSL.out]; rfl
        generalize (w4.setCell ⟨z + 1, k * 2, none⟩ (.bool lf)).setCell ⟨z + 1, k * 2 + 1, none⟩ (.slice na 4 nc) = w5 at NX ⊢
        generalize ss ++ [(lf, Value.slice na 4 nc, [k0, k1, k2, k3])] = ss2 at NX NT NL
        clear HC HF1 HF4 ON BB LK LS C2 AR B3 HY HAT LC q0 q1 f0 f1 HSL HST HB2
        go_wp2
        go_roundw
        case rel => exact ⟨k + 1, ss2, by omega, by go_num, NL.out, NT.out, NX.out⟩
        case measure => simp [intOf]; omega
    · have ek : k = n := by omega
      subst ek
      have KO : Hid (KOwn wr (z + 1) (.slice (some ⟨z + 1, 0, none⟩) k k) ss) := by
        have := HC.out.2.1
        rw [List.drop_eq_nil_of_le (by have := HRL.out; omega)] at this
        refine KFil.own ?_
        rw [HSL.out]
        exact this
      have r0 := cell_of_row _ _ 0 _ _ _ HC.out.1
      have f0 := frozen_of_row _ _ 0 _ _ HC.out.1
      have ET : Hid (ss.map ktell = L) := by
        show _ = _
        rw [HST.out, List.take_of_length_le (by have := HL.out; omega)]
      clear HR HF HK
      go_wp2
      refine bodyPost_ret (results_cell_row rfl _ _ z 34 _ (0, 0) _ rfl (row_set HC.out.1 0 (.slice (some ⟨z + 1, 0, none⟩) k k)) Tryz.underlying34 rfl infoArc) rfl ⟨_, rfl, .slice (some ⟨z + 1, 0, none⟩) k k, ss, rfl, ?_, ET.out, ?_⟩
      · rw [HZ.out]
        exact (KO.out.cellB (show z < z + 1 by omega) _ _).down (by omega)
      · rw [HZ.out]
        exact HC.out.2.2.setCell (p := ⟨z, 0, none⟩) (by show z ≤ z; omega) _
end Go.Proofs.YtcnaahajaaifjacGreat
