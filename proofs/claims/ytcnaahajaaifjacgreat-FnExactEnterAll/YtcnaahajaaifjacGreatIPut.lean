/-
  impl.PutAt.
-/
import Derived.Test.YtcnaahajaaifjacGreatPk37
import Derived.Test.YtcnaahajaaifjacGreatPk23
import Derived.Test.YtcnaahajaaifjacGreatPk12
namespace Go.Proofs.YtcnaahajaaifjacGreat
open Go.RowKit
open Words

theorem rootB_ge {L : List Kn} {r : Int} (h : rootB L r = true) : -1 ≤ r := by
  rcases rootB_yes h with h | ⟨m, x, h, -⟩ <;> omega
/-- What stands in a tree's block. -/
theorem TreeAt.lk {W : World} {b : Nat} {bs : List Nat} {L : List Kn} {r : Int} (h : TreeAt W b bs L r) : ∃ x, LkAt W b x ∧ x.leaf = false ∧ x.tos = (topOf L r).map (kidP bs) ∧ x.place = r := by
  obtain ⟨hf, ⟨rfl, hat⟩ | ⟨m, x, rfl, hb, hx, hl⟩⟩ := h
  · refine ⟨lkNone, hat, rfl, ?_, rfl⟩
    rw [topOf, if_pos (by omega)]
    rfl
  · refine ⟨_, hf.2 m b _ hb (lksOf_some hx), by rw [lkOf_leaf]; exact hl, ?_, lkOf_place _ _ _⟩
    rw [topOf, if_neg (by omega), Int.toNat_natCast, hx]
    unfold lkOf
    rw [if_neg (by rw [hl]; decide)]
    rfl
theorem TreeAt.lt {W : World} {b : Nat} {bs : List Nat} {L : List Kn} {r : Int} (h : TreeAt W b bs L r) : b < W.heap.size := by
  obtain ⟨x, hx, -⟩ := h.lk
  exact hx.lt
theorem kidP_at {bs : List Nat} {n : Int} {c : Nat} (h : kidP bs n = some c) : 0 ≤ n ∧ bs[n.toNat]? = some c := by
  unfold kidP at h
  split at h
  · cases h
  · exact ⟨by omega, h⟩
theorem ileafT (b : Nat) (bs : List Nat) (L : List Kn) (r : Int) (s : Nat) (n : Int) (w : World) (hs : s ≤ 15) (ha : arB L = true) (hr : rootB L r = true) (h : TreeAt w b bs L r) :
    Calls Tryz.prog 102 #[ptr b, .int .i64 s, .int .i64 n] w fun e w' => e = .returned (ptr w.heap.size) ∧ LkAt w' w.heap.size ⟨0, true, (putLf L r s n).kids, [none, none, none, none], false⟩ ∧ Below w.heap.size w w' := by
  obtain ⟨x, hat, -, ht, -⟩ := h.lk
  have q4 : s / 4 < 4 := by omega
  obtain ⟨m, hm, hc, hme⟩ := top_at ha hr q4
  have hto : x.tos[s / 4]? = some (kidP bs m) := by rw [ht, List.getElem?_map, hm]; rfl
  rw [putLf_eq]
  refine ileafWith b x s n (lfOf L r (s / 4)) w hs hat ?_
  unfold lfOf
  by_cases h0 : r < 0
  · rw [if_pos h0] at hme ⊢
    refine .inl ⟨s / 4, rfl, ?_, rfl⟩
    rw [hto, hme]
    rfl
  · rw [if_neg h0] at hme ⊢
    rw [← hme]
    rcases hc with rfl | ⟨h1, h2, h3⟩
    · rw [if_pos (by omega)]
      exact .inl ⟨s / 4, rfl, hto, rfl⟩
    · rw [if_neg (by omega)]
      obtain ⟨y, hy, hyl⟩ := knLeaf_lt h3
      have hlt : m.toNat < bs.length := by rw [h.1.1, lksOf_len]; exact (List.getElem?_eq_some_iff.1 hy).1
      have hk : kidP bs m = some bs[m.toNat] := by rw [kidP, if_neg (by omega), List.getElem?_eq_getElem hlt]
      refine .inr ⟨_, _, by rw [hto, hk], h.1.2 _ _ _ (List.getElem?_eq_getElem hlt) (lksOf_some hy), ?_⟩
      rw [hy]
      unfold lkOf
      rw [if_pos hyl]
      rfl
/-- The children of a forest's knots are the arena's. -/
theorem kidsR_of {W : World} {bs : List Nat} {L : List Kn} (ha : arB L = true) (hf : FAt W bs (lksOf bs L)) {i : Nat} {y : Kn} (hy : L[i]? = some y) : KidsR W (lkOf bs i y) y.kids := by
  unfold KidsR
  rw [lkOf_leaf]
  cases hl : y.leaf with
  | true =>
    rw [if_pos rfl]
    unfold lkOf
    rw [if_pos hl]
  | false =>
    rw [if_neg (by decide)]
    refine ⟨knB_len (arB_at ha hy), fun k o ho => ?_⟩
    have e : (lkOf bs i y).tos = y.kids.map (kidP bs) := by unfold lkOf; rw [if_neg (by rw [hl]; decide)]
    rw [e, List.getElem?_map, Option.map_eq_some_iff] at ho
    obtain ⟨n, hn, rfl⟩ := ho
    have hk := (List.getElem?_eq_some_iff.1 hn).1
    rw [knB_len (arB_at ha hy)] at hk
    obtain ⟨n', hn', hc⟩ := inner_kid ha (r := (i : Int)) (by rw [Int.toNat_natCast]; exact hy) hl hk
    rw [hn] at hn'
    cases hn'
    refine ⟨n, hn, ?_⟩
    rcases hc with rfl | ⟨h0, -, z, hz, -⟩
    · exact .inl ⟨rfl, rfl⟩
    · have hlt : n.toNat < bs.length := by rw [hf.1, lksOf_len]; exact (List.getElem?_eq_some_iff.1 hz).1
      have hat := hf.2 _ _ _ (List.getElem?_eq_getElem hlt) (lksOf_some hz)
      refine .inr ⟨bs[n.toNat], by rw [kidP, if_neg (by omega), List.getElem?_eq_getElem hlt], ?_, hat.lt⟩
      rw [hat.place, lkOf_place, Int.toNat_of_nonneg h0]
/-- What PutAt has while it goes on. -/
def PSt (w W : World) (z : Nat) (av : Value) : Prop := W.heap[z]? = some (.cells #[av] 34 (0, 0)) ∧ W.heap[z + 1]? = some (.cells #[.slice none 0 0] 34 (0, 0)) ∧ Below z w W
theorem PSt.lt {w W : World} {z : Nat} {av : Value} (h : PSt w W z av) : z + 1 < W.heap.size := (Array.getElem?_eq_some_iff.1 h.2.1).1
theorem PSt.below {w W W' : World} {z : Nat} {av : Value} (h : PSt w W z av) (hb : Below W.heap.size W W') : PSt w W' z av := by
  have := h.lt
  exact ⟨(hb.block z (by omega)).trans h.1, (hb.block (z + 1) (by omega)).trans h.2.1, h.2.2.trans (hb.mono (by omega))⟩
/-- The copy that a refused put answers. -/
def CpOut (w : World) (z : Nat) (L : List Kn) (e : Ending) (w' : World) : Prop := ∃ uv, e = .returned (.agg #[uv]) ∧ (∃ a n c, uv = .slice a n c) ∧ w'.cell? ⟨z + 1, 0, none⟩ = some (.slice none 0 0) ∧ w'.frozen? ⟨z + 1, 0, none⟩ = false ∧ KOut w L (.agg #[uv]) (w'.setCell ⟨z + 1, 0, none⟩ uv) ∧ (w'.setCell ⟨z + 1, 0, none⟩ uv).heap[z + 1]? = some (.cells #[uv] 34 (0, 0))
/-- An answer that is laid into the result's cell. -/
theorem kout_cell {w W w' : World} {z : Nat} {av v : Value} {L : List Kn} (hz : w.heap.size = z) (hp : PSt w W z av) (h : KOut W L v w') : ∃ uv, v = .agg #[uv] ∧ (∃ a n c, uv = .slice a n c) ∧ w'.cell? ⟨z + 1, 0, none⟩ = some (.slice none 0 0) ∧ w'.frozen? ⟨z + 1, 0, none⟩ = false ∧ KOut w L (.agg #[uv]) (w'.setCell ⟨z + 1, 0, none⟩ uv) ∧ (w'.setCell ⟨z + 1, 0, none⟩ uv).heap[z + 1]? = some (.cells #[uv] 34 (0, 0)) := by
  obtain ⟨uv, ss, rfl, ko, hss, hb⟩ := h
  have hp' := hp.below hb
  have := hp.lt
  refine ⟨uv, rfl, ?_, cell_of_row _ _ 0 _ _ _ hp'.2.1, frozen_of_row _ _ 0 _ _ hp'.2.1, ⟨uv, ss, rfl, (ko.cellB (show z + 1 < W.heap.size from this) _ _).down (by omega), hss, ?_⟩, row_set hp'.2.1 0 _⟩
  · obtain ⟨a, c, e⟩ := ko.form
    exact ⟨_, _, _, e⟩
  · rw [hz]
    exact hp'.2.2.setCell (p := ⟨z + 1, 0, none⟩) (by show z ≤ z + 1; omega) _

/-- What is answered of an arena with two more knots. -/
def PutFin (w : World) (z h len : Nat) (L : List Kn) (r : Int) (t : Nat) (n : Int) (e : Ending) (w' : World) : Prop :=
  ∃ uv, e = .returned (.agg #[uv]) ∧ (∃ a n c, uv = .slice a n c) ∧ w'.cell? ⟨z + 1, 0, none⟩ = some (.slice none 0 0) ∧ w'.frozen? ⟨z + 1, 0, none⟩ = false ∧ w'.cell? ⟨h, 0, none⟩ = some (.int .i64 ((len : Int) + 1)) ∧ KOut w (L ++ [putLf L r t n, putTop L r t]) (.agg #[uv]) (w'.setCell ⟨z + 1, 0, none⟩ uv) ∧ (w'.setCell ⟨z + 1, 0, none⟩ uv).heap[z + 1]? = some (.cells #[uv] 34 (0, 0))
/-- A knot's children do not hang on blocks that others write. -/
theorem put_arena {w W y : World} {z base len g h t : Nat} {av v v8 : Value} {bs : List Nat} {L : List Kn} {r n : Int} (hz : w.heap.size = z) (hP : PSt w W z av) (hA : arB L = true) (hR : rootB L r = true) (hF : FAt W bs (lksOf bs L)) (hlen : L.length = len) (hle : len ≤ 1048578)
    (hlf : LkAt W g ⟨len, true, (putLf L r t n).kids, [none, none, none, none], false⟩) (htop : LkAt W h ⟨(len : Int) + 1, false, [0, 0, 0, 0], ((topOf L r).map (kidP bs)).set (t / 4) (some g), false⟩)
    (hg : W.grownBy y v.ownBlock) (hrow : ∀ q, v.ownBlock = some q → base ≤ q ∧ ∃ cs, W.heap[q]? = some (.cells cs 113 (0, 0))) (hb : z + 2 ≤ base) (ho : y.ownsRow base 113 1 v8 (len + 2) (bcellsP (bs ++ [g] ++ [h]))) :
    ∃ fa c, v8 = .slice fa (len + 2) c ∧ Calls Tryz.prog 96 #[.slice fa (len + 2) c] y (PutFin w z h len L r t n) := by
  have hbl : bs.length = len := by rw [hF.1, lksOf_len, hlen]
  have hFy := ((hF.snoc hlf).snoc htop).grown hg (fun q e => (hrow q e).2)
  have hF0 := hF.grown hg (fun q e => (hrow q e).2)
  have one : ∀ {c : Nat} {x : Lk}, LkAt W c x → LkAt y c x := by
    intro c x hc
    refine ⟨(hg.block c hc.lt (fun e => ?_)).trans hc.1, hc.2⟩
    obtain ⟨-, cs, q⟩ := hrow c e.symm
    rw [hc.1] at q
    injection q with q
    injection q with _ q
    simp at q
  have hlfy := one hlf
  have htopy := one htop
  have hPy : PSt w y z av := by
    have hl := hP.lt
    have far : ∀ q, q < z + 2 → q < W.heap.size → y.heap[q]? = W.heap[q]? := fun q h1 h2 => hg.block q h2 (fun e => by have := (hrow q e.symm).1; omega)
    exact ⟨(far z (by omega) (by omega)).trans hP.1, (far (z + 1) (by omega) hl).trans hP.2.1, hP.2.2.grown hg (by omega) (fun k hk => by have := (hrow k hk).1; omega)⟩
  obtain ⟨fa, c, e, hpr⟩ := PRow.of (bs := bs ++ [g] ++ [h]) (by
    rw [show (bs ++ [g] ++ [h]).length = len + 2 by simp [hbl]]
    exact ho)
  rw [show (bs ++ [g] ++ [h]).length = len + 2 by simp [hbl]] at e hpr
  refine ⟨fa, c, e, (iarena fa (len + 2) c (bs ++ [g] ++ [h]) _ (L ++ [putLf L r t n, putTop L r t]) y (by omega) hpr hFy (by simp [hlen]) ?_).mono ?_⟩
  · intro i x k hx hk
    by_cases hi : i < len
    · rw [List.append_assoc, List.getElem?_append_left (by rw [lksOf_len, hlen]; exact hi)] at hx
      rw [List.getElem?_append_left (by omega)] at hk
      obtain ⟨k', hk', rfl⟩ := lksOf_back hx
      rw [hk] at hk'
      cases hk'
      exact ⟨lkOf_leaf _ _ _, kidsR_of hA hF0 hk⟩
    · have hx2 := hx
      rw [List.append_assoc, List.getElem?_append_right (by rw [lksOf_len, hlen]; omega), lksOf_len, hlen] at hx2
      rw [List.getElem?_append_right (by omega), hlen] at hk
      have hil := (List.getElem?_eq_some_iff.1 hk).1
      simp only [List.length_cons, List.length_nil] at hil
      have : i - len = 0 ∨ i - len = 1 := by omega
      rcases this with e0 | e1
      · rw [e0] at hx2 hk
        simp at hx2 hk
        subst hx2 hk
        exact ⟨rfl, rfl⟩
      · rw [e1] at hx2 hk
        simp at hx2 hk
        subst hx2 hk
        refine ⟨rfl, ?_⟩
        unfold KidsR
        rw [if_neg (show ¬ (false = true) by decide), putTop_eq]
        refine ⟨by rw [List.length_set]; exact top_len hA hR, fun j o hj => ?_⟩
        simp only at hj
        have hj4 := (List.getElem?_eq_some_iff.1 hj).1
        rw [List.length_set, List.length_map, top_len hA hR] at hj4
        by_cases eq : t / 4 = j
        · subst eq
          rw [List.getElem?_set_self (by rw [List.length_map, top_len hA hR]; exact hj4)] at hj
          cases hj
          refine ⟨len, by rw [List.getElem?_set_self (by rw [top_len hA hR]; exact hj4), hlen], .inr ⟨g, rfl, hlfy.place, hlfy.lt⟩⟩
        · rw [List.getElem?_set_ne eq, List.getElem?_map] at hj
          obtain ⟨m, hm, hc, -⟩ := top_at hA hR hj4
          rw [hm] at hj
          cases hj
          refine ⟨m, by rw [List.getElem?_set_ne eq]; exact hm, ?_⟩
          rcases hc with rfl | ⟨h0, h1, h2⟩
          · exact .inl ⟨rfl, rfl⟩
          · obtain ⟨x, hx, -⟩ := knLeaf_lt h2
            have hml : m.toNat < bs.length := by omega
            have hat := hF0.2 _ _ _ (List.getElem?_eq_getElem hml) (lksOf_some hx)
            refine .inr ⟨bs[m.toNat], by rw [kidP, if_neg (by omega), List.getElem?_eq_getElem hml], ?_, hat.lt⟩
            rw [hat.place, lkOf_place, Int.toNat_of_nonneg h0]
  · rintro e w' ⟨v, rfl, hk⟩
    have hb' : Below y.heap.size y w' := by obtain ⟨_, _, _, _, _, q⟩ := hk; exact q
    obtain ⟨uv, rfl, u1, u2, u3, u4, u5⟩ := kout_cell hz hPy hk
    exact ⟨uv, rfl, u1, u2, u3, (htopy.blw hb').place, u4, u5⟩

set_option maxHeartbeats 2000000 in
set_option maxRecDepth 100000 in
theorem iput : PutC 95 := by
  intro ad len cap rs r s n w hl hll h
  have bx : ((w.alloc (.cells #[.slice ad len cap] 34)).alloc (.cells #[.slice none 0 0] 34)).cell? ⟨w.heap.size, 0, none⟩ = some (.slice ad len cap) :=
    (((Below.refl _ _).alloc (Nat.le_refl _) _).cell (show w.heap.size < (w.alloc (.cells #[.slice ad len cap] 34)).heap.size by simp)).trans (box_at w _)
  have P0 : Hid (PSt w ((w.alloc (.cells #[.slice ad len cap] 34)).alloc (.cells #[.slice none 0 0] 34)) w.heap.size (.slice ad len cap)) := by
    have za : (w.alloc (.cells #[.slice ad len cap] 34)).heap.size = w.heap.size + 1 := by simp
    have R1 := heap_alloc_new (w.alloc (.cells #[.slice ad len cap] 34)) (.cells #[.slice none 0 0] 34)
    rw [za] at R1
    exact ⟨(Below.heap_alloc _ _ _ (by simp)).trans (heap_alloc_new w _), R1, ((Below.refl _ _).alloc (Nat.le_refl _) _).alloc (by simp) _⟩
  have H := hide h
  have HLL := hide hll
  have HLn := hide (show (rs.map ktell).length = len by rw [List.length_map]; exact h.1)
  clear h hll
  obtain ⟨L, hL⟩ : ∃ L, rs.map ktell = L := ⟨_, rfl⟩
  have HL := hide hL
  rw [hL] at HLn ⊢
  clear hL
  go_enter Tryz.func95, Tryz.ntmps95
  go_wp2_with fail
  obtain ⟨z, hz⟩ : ∃ z, w.heap.size = z := ⟨_, rfl⟩
  have HZ := hide hz
  rw [hz] at P0 bx ⊢
  clear hz
  generalize (w.alloc (.cells #[.slice ad len cap] 34)).alloc (.cells #[.slice none 0 0] 34) = w0 at P0 bx ⊢
  have B0 : Hid (z + 2 ≤ w0.heap.size) := P0.out.lt
  have KR : Hid (∀ W, PSt w W z (.slice ad len cap) → KnRd W ad len rs) := fun W hW => H.out.below (by rw [HZ.out]; exact hW.2.2)
  have CP : Hid (∀ W, PSt w W z (.slice ad len cap) → Calls Tryz.prog 42 #[.agg #[.slice ad len cap]] W (CpOut w z L)) := fun W hW => (icopied ad len cap rs W hl HLL.out (KR.out W hW)).mono (fun e w' ⟨v, he, hk⟩ => by
    rw [HL.out] at hk
    obtain ⟨uv, rfl, q⟩ := kout_cell HZ.out hW hk
    exact ⟨uv, he, q⟩)
  refine (ilinked ad len cap rs w0 hl (KR.out _ P0.out)).mono ?_
  rw [HL.out]
  rintro e w1 ⟨b1, h1⟩
  have P1 := hide (P0.out.below b1)
  have B01 := hide b1.size
  clear b1 bx P0
  rcases h1 with ⟨hA, v, bs, rfl, hF⟩ | ⟨hA, rfl⟩
  · have HA := hide hA
    obtain ⟨fa, fc, rfl, hpr⟩ := PRow.of (bs := bs) (by rw [hF.2.1]; exact hF.1)
    have HPR := hide hpr
    have HFO := hide hF
    clear hA hF hpr
    have hbl := HFO.out.2.1
    rw [hbl] at HPR HFO ⊢
    rw [HLn.out] at HPR HFO ⊢
    go_wp2_with fail
    refine (ftree fa len fc bs L r w1 HPR.out HFO.out.2.2.1).mono ?_
    rintro e w2 ⟨b2, h2⟩
    have P2 := hide (P1.out.below b2)
    have B2 := hide b2
    have bx := cell_of_row _ _ 0 _ _ _ P2.out.1
    have bx2 : w2.cell? ⟨z, 0, none⟩ = some (.slice ad len cap) := bx
    clear b2 bx
    rcases h2 with ⟨hR, b, rfl, hT, -⟩ | ⟨hR, rfl⟩
    · have HR := hide hR
      have HT := hide hT
      clear hR hT
      unfold ptr
      go_wp2_with fail
      refine (isect s w2).mono ?_
      rintro e w2' ⟨rfl, rfl⟩
      by_cases hin : 0 ≤ s ∧ s ≤ 15
      · rw [decide_eq_true hin]
        by_cases hn : n < 0
        · have E : Hid (putL L r s n = L ∧ putR L r s n = r) := put_refused (by rw [putB, decide_eq_false (show ¬ 0 ≤ n by omega), Bool.and_false])
          go_wp2_with fail
          refine (CP.out _ P2.out).mono ?_
          rintro e wc ⟨uv, rfl, ⟨ua, un, uc, rfl⟩, r0, f0, fin, fr⟩
          have FIN := hide fin
          have FR := hide fr
          clear fin fr
          go_wp2
          exact bodyPost_ret (results_ar2 (p := 8) (q := 9) rfl _ _ (z + 1) _ rfl FR.out) rfl (putout_no E.out FIN.out)
        · have hn0 : 0 ≤ n := by omega
          obtain ⟨t, rfl⟩ : ∃ t : Nat, s = (t : Int) := ⟨s.toNat, by omega⟩
          have ht : t ≤ 15 := by omega
          have PB : Hid (putB L r (t : Int) n = true) := by show _ = _; rw [putB, askB, HA.out, HR.out, decide_eq_true hin.1, decide_eq_true hin.2, decide_eq_true hn0]; rfl
          clear hin bx2
          go_wp2_with fail
          refine (ileafT b bs L r t n _ ht HA.out HR.out HT.out).mono ?_
          rintro e w3 ⟨rfl, hlf, b3⟩
          obtain ⟨g, hg⟩ : ∃ g, w2'.heap.size = g := ⟨_, rfl⟩
          rw [hg] at hlf b3 ⊢
          have HG := hide hg
          clear hg
          have LF := hide (hlf.setPlace (len : Int))
          have B4 : Hid (Below g w2' (w3.setCell ⟨g, 0, none⟩ (.int .i64 len))) := b3.setCell (p := ⟨g, 0, none⟩) (Nat.le_refl _) _
          have c0 := hlf.place
          have f0 := hlf.frozen 0
          clear hlf b3
          unfold ptr
          go_wp2_with fail
          generalize w3.setCell ⟨g, 0, none⟩ (.int .i64 len) = w4 at LF B4 ⊢
          have B4' : Hid (Below w2'.heap.size w2' w4) := by rw [hide HG.out]; exact B4.out
          have T4 := hide (HT.out.below B4'.out)
          obtain ⟨tx, hat, -, htt, -⟩ := T4.out.lk
          obtain ⟨o0, o1, o2, o3, ho⟩ := list4 hat.2.2
          have pv : ∀ o : Option Nat, ∃ a, pval o = .pointer a := fun o => by cases o <;> exact ⟨_, rfl⟩
          obtain ⟨a0, ha0⟩ := pv o0
          obtain ⟨a1, ha1⟩ := pv o1
          obtain ⟨a2, ha2⟩ := pv o2
          obtain ⟨a3, ha3⟩ := pv o3
          have d0 := hat.to (k := 0) (o := o0) (by rw [ho]; rfl)
          have d1 := hat.to (k := 1) (o := o1) (by rw [ho]; rfl)
          have d2 := hat.to (k := 2) (o := o2) (by rw [ho]; rfl)
          have d3 := hat.to (k := 3) (o := o3) (by rw [ho]; rfl)
          simp only [Nat.reduceAdd] at d0 d1 d2 d3
          rw [ha0] at d0
          rw [ha1] at d1
          rw [ha2] at d2
          rw [ha3] at d3
          have e0 := LF.out.place
          simp only at e0
          have hwr : IntKind.i64.wrap ((len : Int) + 1) = (len : Int) + 1 := by rw [IntKind.wrap_i64]; omega
          have TT : Hid ((topOf L r).map (kidP bs) = [o0, o1, o2, o3]) := by show _ = _; rw [← htt, ho]
          have LT : Hid (LkAt (w4.alloc (.cells #[.int .i64 ((len : Int) + 1), .bool false, .int .i64 0, .int .i64 0, .int .i64 0, .int .i64 0, .pointer a0, .pointer a1, .pointer a2, .pointer a3, .bool false] 119)).drew w4.heap.size ⟨(len : Int) + 1, false, [0, 0, 0, 0], [o0, o1, o2, o3], false⟩) := by
            refine ⟨?_, rfl, rfl⟩
            have := heap_alloc_new w4 (.cells #[.int .i64 ((len : Int) + 1), .bool false, .int .i64 0, .int .i64 0, .int .i64 0, .int .i64 0, .pointer a0, .pointer a1, .pointer a2, .pointer a3, .bool false] 119)
            refine Eq.trans this ?_
            rw [← ha0, ← ha1, ← ha2, ← ha3]
            rfl
          have B5 : Hid (Below w4.heap.size w4 (w4.alloc (.cells #[.int .i64 ((len : Int) + 1), .bool false, .int .i64 0, .int .i64 0, .int .i64 0, .int .i64 0, .pointer a0, .pointer a1, .pointer a2, .pointer a3, .bool false] 119)).drew) := ((Below.refl _ _).alloc (Nat.le_refl _) _).drew
          clear ho hat htt ha0 ha1 ha2 ha3 pv c0 f0
          go_region_held3 (fun w' => w'.cell? ⟨g, 0, none⟩ = some (.int .i64 len) ∧ w'.cell? ⟨b, 6, none⟩ = some (.pointer a0) ∧ w'.cell? ⟨b, 7, none⟩ = some (.pointer a1) ∧ w'.cell? ⟨b, 8, none⟩ = some (.pointer a2) ∧ w'.cell? ⟨b, 9, none⟩ = some (.pointer a3)) (first | go_keep | exact ⟨(B5.out.cell LF.out.lt).trans e0, (B5.out.cell T4.out.lt).trans d0, (B5.out.cell T4.out.lt).trans d1, (B5.out.cell T4.out.lt).trans d2, (B5.out.cell T4.out.lt).trans d3⟩) (fail)
          rename_i hHeld
          clear hHeld e0 d0 d1 d2 d3
          obtain ⟨h, hh⟩ : ∃ h, w4.heap.size = h := ⟨_, rfl⟩
          have HH := hide hh
          rw [hh] at LT ⊢
          clear hh
          generalize (w4.alloc (.cells #[.int .i64 ((len : Int) + 1), .bool false, .int .i64 0, .int .i64 0, .int .i64 0, .int .i64 0, .pointer a0, .pointer a1, .pointer a2, .pointer a3, .bool false] 119)).drew = w5 at LT B5 ⊢
          obtain ⟨q, hq⟩ : ∃ q, t / 4 = q := ⟨_, rfl⟩
          have HQ := hide hq
          have tq : (t : Int).tdiv 4 = (q : Int) := by rw [Int.tdiv_eq_ediv_of_nonneg (by omega)]; omega
          have tq2 : (t : Int) / 4 = (q : Int) := by omega
          have q0 : (0 : Int) ≤ q := by omega
          have q4 : (q : Int) < 4 := by omega
          have q4n : q < 4 := by omega
          obtain ⟨oq, hoq⟩ : ∃ oq, [o0, o1, o2, o3][q]? = some oq := ⟨_, List.getElem?_eq_getElem (by simpa using q4n)⟩
          have c1 := LT.out.to hoq
          have hpv : ∃ a, pval oq = .pointer a := by cases oq <;> exact ⟨_, rfl⟩
          obtain ⟨aq, haq⟩ := hpv
          rw [haq] at c1
          have f1 := LT.out.frozen (6 + q)
          have hs12 := B2.out.size
          have hs24 := B4'.out.size
          have hs45 := B5.out.size
          have hgh : g < h := by rw [← HH.out]; exact LF.out.lt
          have hw1h : w1.heap.size ≤ h := by have := HH.out; omega
          have LT6 := hide (LT.out.setTo q4n (some g))
          have LF6 := hide ((LF.out.blw B5.out).other (k := 6 + q) (g := h) (by omega) (.pointer (some ⟨g, 0, none⟩)))
          have B6 : Hid (Below w1.heap.size w1 (w5.setCell ⟨h, 6 + q, none⟩ (.pointer (some ⟨g, 0, none⟩)))) := ((B2.out.trans (B4'.out.mono hs12)).trans (B5.out.mono (by omega))).setCell (p := ⟨h, 6 + q, none⟩) hw1h _
          clear hq hoq haq LT B5 LF
          go_wp2_with fail
          have LT7 : Hid (LkAt (w5.setCell ⟨h, 6 + q, none⟩ (.pointer (some ⟨g, 0, none⟩))) h ⟨(len : Int) + 1, false, [0, 0, 0, 0], ((topOf L r).map (kidP bs)).set (t / 4) (some g), false⟩) := by
            show LkAt _ _ _
            rw [TT.out, HQ.out]
            exact LT6.out
          generalize w5.setCell ⟨h, 6 + q, none⟩ (.pointer (some ⟨g, 0, none⟩)) = w6 at LT7 LF6 B6 ⊢
          have B7 : Hid (Below w6.heap.size w6 (w6.alloc (.cells #[.pointer (some ⟨g, 0, none⟩), .pointer (some ⟨h, 0, none⟩)] 113)).drew) := ((Below.refl _ _).alloc (Nat.le_refl _) _).drew
          have hs16 := B6.out.size
          have B17 : Hid (Below w1.heap.size w1 (w6.alloc (.cells #[.pointer (some ⟨g, 0, none⟩), .pointer (some ⟨h, 0, none⟩)] 113)).drew) := B6.out.trans (B7.out.mono hs16)
          have OW := hide (own_below HFO.out.1 B17.out)
          rw [HLn.out] at OW
          have CN : Hid (∀ (j : Nat) (u : Value), [Value.pointer (some ⟨g, 0, none⟩), Value.pointer (some ⟨h, 0, none⟩)][j]? = some u → (w6.alloc (.cells #[.pointer (some ⟨g, 0, none⟩), .pointer (some ⟨h, 0, none⟩)] 113)).drew.cell? ((⟨w6.heap.size, 0, none⟩ : Addr).add j) = some u) := fun j u hj => by
            rw [addr_at]
            have := cell_of_row _ _ j _ _ _ (heap_alloc_new w6 (.cells #[.pointer (some ⟨g, 0, none⟩), .pointer (some ⟨h, 0, none⟩)] 113))
            refine Eq.trans this ?_
            match j, hj with
            | 0, hj | 1, hj => simp at hj; subst hj; rfl
          have C1 : Hid (∀ u ∈ [Value.pointer (some ⟨g, 0, none⟩), Value.pointer (some ⟨h, 0, none⟩)], u.oneCell' = true) := fun u hu => by
            simp only [List.mem_cons, List.not_mem_nil, or_false] at hu
            rcases hu with rfl | rfl <;> rfl
          have hb0 : Hid (z + 2 ≤ w0.heap.size) := B0.out
          have HSB : Hid (w0.heap.size ≤ (w6.alloc (.cells #[.pointer (some ⟨g, 0, none⟩), .pointer (some ⟨h, 0, none⟩)] 113)).drew.heap.size) := Nat.le_trans B01.out B17.out.size
          have PA : Hid (∀ v8 y, (w6.alloc (.cells #[.pointer (some ⟨g, 0, none⟩), .pointer (some ⟨h, 0, none⟩)] 113)).drew.grownBy y (Value.slice fa len fc).ownBlock → y.ownsRow w0.heap.size 113 1 v8 (len + 2) (bcellsP bs ++ [.pointer (some ⟨g, 0, none⟩), .pointer (some ⟨h, 0, none⟩)]) → ∃ fa8 c8, v8 = .slice fa8 (len + 2) c8 ∧ Calls Tryz.prog 96 #[.slice fa8 (len + 2) c8] y (PutFin w z h len L r t n)) := fun v8 y hg ho =>
            put_arena HZ.out (P1.out.below B17.out) HA.out HR.out (HFO.out.2.2.1.below B17.out) HLn.out hl (LF6.out.blw B7.out) (LT7.out.blw B7.out) hg (fun q hq => by
              obtain ⟨q1, -, q2⟩ := own_kind OW.out q hq
              exact ⟨q1, q2⟩) hb0.out (by
              have e : bcellsP (bs ++ [g] ++ [h]) = bcellsP bs ++ [.pointer (some ⟨g, 0, none⟩), .pointer (some ⟨h, 0, none⟩)] := by simp [bcellsP, ptr]
              rw [e]
              exact ho)
          have p7 := (LT7.out.blw B7.out).place
          have p6 := LT7.out.place
          simp only at p6 p7
          have KG : Hid (∀ y v, (w6.alloc (.cells #[.pointer (some ⟨g, 0, none⟩), .pointer (some ⟨h, 0, none⟩)] 113)).drew.grownBy y v → (∀ q, v = some q → ∃ cs, (w6.alloc (.cells #[.pointer (some ⟨g, 0, none⟩), .pointer (some ⟨h, 0, none⟩)] 113)).drew.heap[q]? = some (.cells cs 113 (0, 0))) → y.cell? ⟨h, 0, none⟩ = some (.int .i64 ((len : Int) + 1))) := fun y v hg hv => by
            have := (FAt.grown (bs := [h]) (xs := [_]) ⟨rfl, fun i b x h1 h2 => by
              have hi := (List.getElem?_eq_some_iff.1 h1).1
              have : i = 0 := by simpa using hi
              subst this
              simp at h1 h2
              subst h1 h2
              exact LT7.out.blw B7.out⟩ hg hv).2 0 h _ rfl rfl
            exact this.place
          obtain ⟨i0, hi0, hz0, hz1, hz2⟩ := info_parts infoPt
          have I0 := hide hi0
          have Y0 := hide hz0
          have Y1 := hide hz1
          have Y2 := hide hz2
          have RK : Hid (∀ q, (Value.slice fa len fc).ownBlock = some q → ∃ cs, (w6.alloc (.cells #[.pointer (some ⟨g, 0, none⟩), .pointer (some ⟨h, 0, none⟩)] 113)).drew.heap[q]? = some (.cells cs 113 (0, 0))) := fun q hq => (own_kind OW.out q hq).2.2
          have PY : Hid (∀ (ua : Option Addr) (un uc : Nat) (w9 : World), KOut w (L ++ [putLf L r t n, putTop L r t]) (.agg #[.slice ua un uc]) (w9.setCell ⟨z + 1, 0, none⟩ (.slice ua un uc)) → PutOut w (putL L r (t : Int) n) (putR L r (t : Int) n) (.returned (.tuple #[.agg #[.slice ua un uc], .int .i64 ((len : Int) + 1)])) (w9.setCell ⟨z + 1, 0, none⟩ (.slice ua un uc))) := fun ua un uc w9 hk => put_yes PB.out ⟨rfl, rfl⟩ (by rw [HLn.out]) rfl hk
          have QS : Hid (∀ (W : World) (u v : Value), W.cell? ⟨h, 0, none⟩ = some v → (W.setCell ⟨z + 1, 0, none⟩ u).cell? ⟨h, 0, none⟩ = some v) := fun W u v hW => by
            have h1 := hb0.out
            have h2 := B01.out
            rw [World.cell?_setCell_other _ _ _ _ (fun e => by injection e; omega)]
            exact hW
          clear hi0 hz0 hz1 hz2 LT6 LF6 LT7 B6 B17 B4 B4' T4 HT P2 HFO HPR P1 KR CP B2 TT
          go_region_held3 (fun w' => w'.cell? ⟨h, 0, none⟩ = some (.int .i64 ((len : Int) + 1))) (first | go_keep | exact p7 | exact KG.out _ _ G8.out RK.out | exact Q9.out | exact QS.out _ _ _ Q9.out) (first
            | (refine step_append_own _ (by rfl) (.tmp 68) (.tmp 71) 107 (by rfl) w0.heap.size 113 i0 (.pointer none) 1 8 Tryz.underlying107 I0.out Y0.out Y1.out Y2.out rfl (by decide) _ len (bcellsP bs) (by simp [Act.eval]) OW.out ⟨w6.heap.size, 0, none⟩ 2 2 [Value.pointer (some ⟨g, 0, none⟩), Value.pointer (some ⟨h, 0, none⟩)] (by simp [Act.eval]) rfl CN.out C1.out (by unfold maxLen; omega) (by omega) HSB.out ?_; intro v8 w8 o8 g8; have G8 := hide g8; (obtain ⟨fa8, c8, hv8, hc8⟩ := PA.out v8 w8 g8 o8); subst hv8; have C8 := hide hc8; clear o8 g8 hc8)
            | (go_at_call 96; (with_reducible refine Calls.mono C8.out ?_); rintro en w9 ⟨uv, rfl, ⟨ua, un, uc, rfl⟩, r9, f9, q9, fin, fr⟩; have Q9 := hide q9; have FIN := hide fin; have FR := hide fr; clear fin fr))
          all_goals
            go_wp2
            exact bodyPost_ret (results_ar2 (p := 8) (q := 9) rfl _ _ (z + 1) _ rfl FR.out) rfl (PY.out _ _ _ _ FIN.out)
      · have E : Hid (putL L r s n = L ∧ putR L r s n = r) := put_refused (by
          rw [putB, askB]
          simp only [Bool.and_eq_false_iff, decide_eq_false_iff_not]
          omega)
        rw [decide_eq_false hin]
        go_wp2_with fail
        refine (CP.out _ P2.out).mono ?_
        rintro e wc ⟨uv, rfl, ⟨ua, un, uc, rfl⟩, r0, f0, fin, fr⟩
        have FIN := hide fin
        have FR := hide fr
        clear fin fr
        go_wp2
        exact bodyPost_ret (results_ar2 (p := 8) (q := 9) rfl _ _ (z + 1) _ rfl FR.out) rfl (putout_no E.out FIN.out)
    · have E : Hid (putL L r s n = L ∧ putR L r s n = r) := put_refused (by rw [putB, askB, hR]; simp)
      clear hR
      go_wp2_with fail
      refine (CP.out _ P2.out).mono ?_
      rintro e wc ⟨uv, rfl, ⟨ua, un, uc, rfl⟩, r0, f0, fin, fr⟩
      have FIN := hide fin
      have FR := hide fr
      clear fin fr
      go_wp2
      exact bodyPost_ret (results_ar2 (p := 8) (q := 9) rfl _ _ (z + 1) _ rfl FR.out) rfl (putout_no E.out FIN.out)
  · have E : Hid (putL L r s n = L ∧ putR L r s n = r) := put_refused (by rw [putB, askB, hA]; simp)
    clear hA
    go_wp2_with fail
    refine (ftree none 0 0 [] [] r w1 ⟨rfl, by unfold maxLen; omega, fun h => by omega⟩ (FAt.nil _)).mono ?_
    rintro e w2 ⟨b2, h2⟩
    have P2 := hide (P1.out.below b2)
    have bx := cell_of_row _ _ 0 _ _ _ P2.out.1
    have bx2 : w2.cell? ⟨z, 0, none⟩ = some (.slice ad len cap) := bx
    have hte : ∃ q, e = .returned (.pointer q) := by
      rcases h2 with ⟨-, b, rfl, -⟩ | ⟨-, rfl⟩
      · exact ⟨_, rfl⟩
      · exact ⟨_, rfl⟩
    obtain ⟨q, rfl⟩ := hte
    clear b2 bx h2
    go_wp2_with fail
    refine (CP.out _ P2.out).mono ?_
    rintro e wc ⟨uv, rfl, ⟨ua, un, uc, rfl⟩, r0, f0, fin, fr⟩
    have FIN := hide fin
    have FR := hide fr
    clear fin fr
    go_wp2
    exact bodyPost_ret (results_ar2 (p := 8) (q := 9) rfl _ _ (z + 1) _ rfl FR.out) rfl (putout_no E.out FIN.out)
end Go.Proofs.YtcnaahajaaifjacGreat
