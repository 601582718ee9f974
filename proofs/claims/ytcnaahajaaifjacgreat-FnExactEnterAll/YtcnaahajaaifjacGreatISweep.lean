/-
  impl.SweepArena.
-/
import Derived.Test.YtcnaahajaaifjacGreatISwept
import Derived.Test.YtcnaahajaaifjacGreatPk23
namespace Go.Proofs.YtcnaahajaaifjacGreat
open Go.RowKit
open Words

theorem swK_eq {u : Nat → Bool} {l : List Kn} {k : Nat} (hk : k ≤ l.length) {j i : Nat} {x : Kn} (hi : i < k) (hu : u i = true) (hj : swN u i = j) (hx : l[i]? = some x) : (swK u l k)[j]? = some (swX u x) := by
  rw [← hj]
  exact swK_at hk hi hu hx
/-- What is left, read as an arena, is what is swept. -/
theorem swept_kids {lo : Nat} {w W : World} {fv tv : Value} {bs ts : List Nat} {L : List Kn} {rs : List Int} (ht : TrsOk L rs) (h : SwSt lo w W fv bs L tv ts rs (swU L rs) (pK (swU L rs) L.length)) :
    FAt W (swG (swU L rs) bs L.length) (swG (swU L rs) (lksU bs L (swU L rs) (pK (swU L rs) L.length)) L.length) ∧ ∀ (j : Nat) (x : Lk) (y : Kn), (swG (swU L rs) (lksU bs L (swU L rs) (pK (swU L rs) L.length)) L.length)[j]? = some x → (swL L rs)[j]? = some y → x.leaf = y.leaf ∧ KidsR W x y.kids := by
  have hf := h.2.2.1
  have hbl : bs.length = L.length := by rw [hf.1, lksU_len]
  have hxl : (lksU bs L (swU L rs) (pK (swU L rs) L.length)).length = L.length := lksU_len _ _ _ _
  refine ⟨⟨by rw [swG_len (by omega), swG_len (by omega)], fun j b x h1 h2 => ?_⟩, fun j x y h1 h2 => ?_⟩
  · have hj := (List.getElem?_eq_some_iff.1 h1).1
    rw [swG_len (by omega)] at hj
    obtain ⟨i, hi, hu, rfl⟩ := swN_back hj
    rw [swG_at (by omega) hi hu] at h1 h2
    exact hf.2 i b x h1 h2
  · obtain ⟨i, k, hk, hu, hj, rfl⟩ := swL_back h2
    have hi := (List.getElem?_eq_some_iff.1 hk).1
    rw [← hj, swG_at (by omega) hi hu, lksU_some hk] at h1
    cases h1
    refine ⟨by rw [swX_leaf]; exact lkOf_leaf _ _ _, ?_⟩
    unfold KidsR
    have hlf : (lkU bs (swU L rs) (pK (swU L rs) L.length) i k).leaf = k.leaf := lkOf_leaf _ _ _
    rw [hlf]
    cases hl : k.leaf with
    | true =>
      rw [if_pos rfl, swX, if_pos hl]
      show k.kids = (lkOf bs i k).nums
      unfold lkOf
      rw [if_pos hl]
    | false =>
      rw [if_neg (by decide), swX, if_neg (by rw [hl]; decide)]
      refine ⟨by rw [List.length_map]; exact knB_len (arB_at ht.1 hk), fun q o ho => ?_⟩
      have e : (lkU bs (swU L rs) (pK (swU L rs) L.length) i k).tos = k.kids.map (kidP bs) := by show (lkOf bs i k).tos = _; unfold lkOf; rw [if_neg (by rw [hl]; decide)]
      rw [e, List.getElem?_map, Option.map_eq_some_iff] at ho
      obtain ⟨n, hn, rfl⟩ := ho
      have hq := (List.getElem?_eq_some_iff.1 hn).1
      rw [knB_len (arB_at ht.1 hk)] at hq
      obtain ⟨n', hn', hc⟩ := inner_kid ht.1 (r := (i : Int)) (by rw [Int.toNat_natCast]; exact hk) hl hq
      rw [hn] at hn'
      cases hn'
      refine ⟨swP (swU L rs) n, by rw [List.getElem?_map, hn]; rfl, ?_⟩
      rcases hc with rfl | ⟨h0, -, z, hz, -⟩
      · exact .inl ⟨rfl, swP_neg _ (by omega)⟩
      · obtain ⟨m, rfl⟩ : ∃ m : Nat, n = (m : Int) := ⟨n.toNat, by omega⟩
        rw [Int.toNat_natCast] at hz
        have hm := (List.getElem?_eq_some_iff.1 hz).1
        have hum := swU_kid ht hk hl hu hq hn
        have hbm : bs[m]? = some bs[m] := List.getElem?_eq_getElem (by omega)
        have hat := hf.2 m _ _ hbm (lksU_some hz)
        refine .inr ⟨bs[m], by rw [kidP, if_neg (by omega), Int.toNat_natCast, hbm], ?_, hat.lt⟩
        rw [hat.place, swP_pos]
        show some (Value.int .i64 (pK (swU L rs) L.length m)) = _
        rw [pK, if_pos ⟨hm, hum⟩]
/-- A tree's place then. -/
theorem swept_place {lo : Nat} {w W : World} {fv tv : Value} {bs ts : List Nat} {L : List Kn} {rs : List Int} (ht : TrsOk L rs) (h : SwSt lo w W fv bs L tv ts rs (swU L rs) (pK (swU L rs) L.length)) (htb : ∀ (k t q : Nat), ts[k]? = some t → rs[k]? = some (q : Int) → bs[q]? = some t) {k t : Nat} {r : Int} (h1 : ts[k]? = some t) (h2 : rs[k]? = some r) :
    ∃ x, LkAt W t x ∧ x.place = swP (swU L rs) r := by
  have hr := List.mem_of_getElem? h2
  rcases rootB_yes (ht.2 r hr) with rfl | ⟨m, y, rfl, hy, hl⟩
  · exact ⟨lkNone, (h.2.2.2.1 k t h1 h2).1, (swP_neg _ (show (-1 : Int) < 0 by omega)).symm⟩
  · refine ⟨_, h.2.2.1.2 m t _ (htb k t m h1 h2) (lksU_some hy), ?_⟩
    have hu := swU_root (l := L) hr (by omega)
    rw [Int.toNat_natCast] at hu
    rw [swP_pos]
    show pK (swU L rs) L.length m = _
    rw [pK, if_pos ⟨(List.getElem?_eq_some_iff.1 hy).1, hu⟩]
theorem lk_ne_int {W : World} {b g : Nat} {x : Lk} {cs : Array Value} (h : LkAt W b x) (q : W.heap[g]? = some (.cells cs 3 (0, 0))) : b ≠ g := by
  intro e
  have := h.1
  rw [e, q] at this
  injection this with this
  injection this with _ this
  simp at this
/-- A number elsewhere is written. -/
theorem SwSt.cellI {lo : Nat} {w W : World} {fv tv : Value} {bs ts : List Nat} {L : List Kn} {rs : List Int} {u : Nat → Bool} {p : Nat → Int} {g j : Nat} {c : Value} {cs : Array Value} (h : SwSt lo w W fv bs L tv ts rs u p) (q : W.heap[g]? = some (.cells cs 3 (0, 0))) (hlo : lo ≤ g) : SwSt lo w (W.setCell ⟨g, j, none⟩ c) fv bs L tv ts rs u p := by
  have far : ∀ {v : Value} {n : Nat} {xs : List Value}, W.ownsRow lo 113 1 v n xs → (W.setCell ⟨g, j, none⟩ c).ownsRow lo 113 1 v n xs := by
    intro v n xs ho
    refine ho.kept (grown_cell W g j c) (.inr (fun e => ?_))
    obtain ⟨-, -, cs', q'⟩ := own_kind ho g e
    rw [q] at q'
    injection q' with q'
    injection q' with _ q'
    simp at q'
  exact ⟨far h.1, far h.2.1, ⟨h.2.2.1.1, fun i b x h1 h2 => (h.2.2.1.2 i b x h1 h2).other (lk_ne_int (h.2.2.1.2 i b x h1 h2) q) _⟩, fun i t h1 h2 => ⟨(h.2.2.2.1 i t h1 h2).1.other (lk_ne_int (h.2.2.2.1 i t h1 h2).1 q) _, (h.2.2.2.1 i t h1 h2).2⟩, h.2.2.2.2.setCell (p := ⟨g, j, none⟩) hlo _⟩
theorem sli_rep (n : Nat) (l : List Int) (k : Nat) (hk : k ≤ n) (hl : l.length = n) : (l.take k ++ (List.replicate n (0 : Int)).drop k).length = n := by simp; omega

/-- The places of the roots, under way. -/
def SlSt (w : World) (lo : Nat) (w2 W : World) (a0 g z : Nat) (av uv fv : Value) (bs : List Nat) (L : List Kn) (tv : Value) (ts : List Nat) (qs : List Int) (m : Nat) (xs : List Int) : Prop :=
  W.ownsRow (g + 1) 3 1 (.slice (some ⟨g + 1, 0, none⟩) m m) m (icells xs) ∧ SwSt lo w2 W fv bs L tv ts qs (swU L qs) (pK (swU L qs) L.length) ∧ W.heap[g]? = some (.cells #[uv] 34 (0, 0)) ∧ Kns a0 g uv (swL L qs) W ∧ PSt w W z av

set_option maxHeartbeats 2000000 in
set_option maxRecDepth 100000 in
theorem isweep : SweepC 88 := by
  intro ad len cap rs ra m rc qs w hl hm hll h hra hqs
  have bx : ((w.alloc (.cells #[.slice ad len cap] 34)).alloc (.cells #[.slice none 0 0] 34)).cell? ⟨w.heap.size, 0, none⟩ = some (.slice ad len cap) :=
    (((Below.refl _ _).alloc (Nat.le_refl _) _).cell (show w.heap.size < (w.alloc (.cells #[.slice ad len cap] 34)).heap.size by simp)).trans (box_at w _)
  have P0 : Hid (PSt w ((w.alloc (.cells #[.slice ad len cap] 34)).alloc (.cells #[.slice none 0 0] 34)) w.heap.size (.slice ad len cap)) := by
    have za : (w.alloc (.cells #[.slice ad len cap] 34)).heap.size = w.heap.size + 1 := by simp
    have R1 := heap_alloc_new (w.alloc (.cells #[.slice ad len cap] 34)) (.cells #[.slice none 0 0] 34)
    rw [za] at R1
    exact ⟨(Below.heap_alloc _ _ _ (by simp)).trans (heap_alloc_new w _), R1, ((Below.refl _ _).alloc (Nat.le_refl _) _).alloc (by simp) _⟩
  have H := hide h
  have HQ := hide hqs
  have HQL := hide hqs.1
  have HRA := hide hra
  have HLL := hide hll
  have HLn := hide (show (rs.map ktell).length = len by rw [List.length_map]; exact h.1)
  clear h hll hqs hra
  obtain ⟨L, hL⟩ : ∃ L, rs.map ktell = L := ⟨_, rfl⟩
  have HL := hide hL
  rw [hL] at HLn ⊢
  clear hL
  go_enter Tryz.func88, Tryz.ntmps88
  go_wp2_with fail
  obtain ⟨z, hz⟩ : ∃ z, w.heap.size = z := ⟨_, rfl⟩
  have HZ := hide hz
  rw [hz] at P0 bx ⊢
  clear hz
  generalize (w.alloc (.cells #[.slice ad len cap] 34)).alloc (.cells #[.slice none 0 0] 34) = w0 at P0 bx ⊢
  have B0 : Hid (z + 2 ≤ w0.heap.size) := P0.out.lt
  have KR : Hid (∀ W, PSt w W z (.slice ad len cap) → KnRd W ad len rs) := fun W hW => H.out.below (by rw [HZ.out]; exact hW.2.2)
  have QR : Hid (∀ W, PSt w W z (.slice ad len cap) → IRow W ra m qs) := fun W hW => HQ.out.below (by rw [HZ.out]; exact hW.2.2)
  -- the copies that a refused sweep answers
  have CP : Hid (∀ W, PSt w W z (.slice ad len cap) → Calls Tryz.prog 42 #[.agg #[.slice ad len cap]] W (fun e w' => ∃ ua un uc, e = .returned (.agg #[.slice ua un uc]) ∧ PSt w w' z (.slice ad len cap) ∧ Kns W.heap.size w'.heap.size (.slice ua un uc) L w' ∧ W.heap.size ≤ w'.heap.size)) := fun W hW => (icopied ad len cap rs W hl HLL.out (KR.out W hW)).mono (fun e w' ⟨v, he, hk⟩ => by
    rw [HL.out] at hk
    obtain ⟨uv, ss, rfl, ko, hss, hb⟩ := hk
    obtain ⟨ua, uc, rfl⟩ := ko.form
    exact ⟨ua, _, uc, he, hW.below hb, ⟨ss, hss, ko.kns⟩, hb.size⟩)
  refine (ilinked ad len cap rs w0 hl (KR.out _ P0.out)).mono ?_
  rw [HL.out]
  rintro e w1 ⟨b1, h1⟩
  have P1 := hide (P0.out.below b1)
  have B01 := hide b1.size
  clear b1 bx P0
  rcases h1 with ⟨hA, v, bs, rfl, hF⟩ | ⟨hA, rfl⟩
  · have HA := hide hA
    obtain ⟨fa, fc, rfl, hpr⟩ := PRow.of (bs := bs) (by rw [hF.2.1]; exact hF.1)
    have HPR := hide hpr
    have HFO := hide hF
    clear hA hF hpr
    have hbl := HFO.out.2.1
    rw [hbl] at HPR HFO ⊢
    rw [HLn.out] at HPR HFO ⊢
    go_wp2_with fail
    refine (itreesAt fa len fc bs L ra m rc qs w1 hm HPR.out HFO.out.2.2.1 (QR.out _ P1.out)).mono ?_
    rintro e w2 ⟨b2, h2⟩
    have P2 := hide (P1.out.below b2)
    have B2 := hide b2
    have bx2 : w2.cell? ⟨z, 0, none⟩ = some (.slice ad len cap) := cell_of_row _ _ 0 _ _ _ P2.out.1
    clear b2
    rcases h2 with ⟨hR, ts, tc, rfl, ot, hT, hfr⟩ | ⟨hR, rfl⟩
    · have TO : Hid (TrsOk L qs) := ⟨HA.out, fun r hr => List.all_eq_true.1 hR r hr⟩
      have E : Hid (sweepL L qs = swL L qs ∧ sweepR L qs = qs.map (swP (swU L qs))) := by
        have := swB_of TO.out
        exact ⟨by rw [sweepL, if_pos this], by rw [sweepR, if_pos this]⟩
      have HTL : Hid (ts.length = m) := by show _ = _; rw [hT.1]; exact HQL.out
      have TB : Hid (∀ (k t q : Nat), ts[k]? = some t → qs[k]? = some (q : Int) → bs[q]? = some t) := fun k t q h1 h2 => by
        rcases (hT.2 k t _ h1 h2).2 with ⟨e, -⟩ | ⟨q', x, e, hb, -⟩
        · omega
        · have : q = q' := by omega
          rw [this]; exact hb
      have hs01 := B01.out
      have S2 : Hid (SwSt w0.heap.size w2 w2 (.slice fa len fc) bs L (.slice (some ⟨w1.heap.size, 0, none⟩) m tc) ts qs (fun _ => false) (fun i => (i : Int))) := by
        refine ⟨?_, ?_, ?_, ?_, Below.refl _ _⟩
        · have := own_below HFO.out.1 B2.out
          rw [hbl]
          exact this
        · have := ot
          rw [HQL.out] at this
          exact own_lower this hs01
        · rw [← lksU_of]
          exact HFO.out.2.2.1.below B2.out
        · intro i t h1 h2
          refine ⟨?_, fun hin => ?_⟩
          · rcases (hT.2 i t _ h1 h2).2 with ⟨-, q⟩ | ⟨q', x, e, -⟩
            · exact q
            · omega
          · have := hfr i t h1 h2
            have := HFO.out.2.2.1.all_lt t hin
            omega
      have hz2 : w0.heap.size ≤ w2.heap.size := Nat.le_trans hs01 B2.out.size
      have hz2' := hz2
      rw [HQL.out]
      clear hR ot hT hfr bx2
      go_wp2_with fail
      refine (iswept w0.heap.size fa len fc bs L (some ⟨w1.heap.size, 0, none⟩) m tc ts qs w2 hl hm HLn.out (by rw [hbl, HLn.out]) HTL.out HQL.out hz2 HA.out TO.out.2 HFO.out.2.2.2.1 HFO.out.2.2.2.2 TB.out S2.out).mono ?_
      rintro e w3 ⟨lv, rfl, ol, s3⟩
      have S3 := hide s3
      have S3Z := hide s3.2.2.2.2.size
      obtain ⟨sfF, sfK⟩ := swept_kids TO.out s3
      have hsl : (swG (swU L qs) bs L.length).length = swN (swU L qs) L.length := swG_len (by omega)
      have hsn := swN_le (swU L qs) L.length
      have hln := HLn.out
      obtain ⟨la, lc, rfl, hlp⟩ := PRow.of (bs := swG (swU L qs) bs L.length) (by rw [hsl]; exact ol)
      rw [hsl] at hlp ⊢
      have P3 : Hid (PSt w w3 z (.slice ad len cap)) := by
        have hb := s3.2.2.2.2
        have := B0.out
        have := P2.out.lt
        exact ⟨(hb.block z (by omega)).trans P2.out.1, (hb.block (z + 1) (by omega)).trans P2.out.2.1, P2.out.2.2.trans (hb.mono (by omega))⟩
      have CA := hide (iarena la (swN (swU L qs) L.length) lc _ _ (swL L qs) w3 (by omega) hlp sfF swL_len sfK)
      clear s3 ol hlp sfF sfK hsl
      obtain ⟨sn, hsn2⟩ : ∃ sn, swN (swU L qs) L.length = sn := ⟨_, rfl⟩
      rw [hsn2] at CA hsn ⊢
      clear hsn2
      go_wp2_with fail
      refine CA.out.mono ?_
      rintro e w4 ⟨v4, rfl, uv, ss, rfl, ko, hss, b4⟩
      obtain ⟨ua, uc, rfl⟩ := ko.form
      obtain ⟨un, hun⟩ : ∃ un, ss.length = un := ⟨_, rfl⟩
      have K4 : Hid (Kns w3.heap.size w4.heap.size (.slice ua ss.length uc) (swL L qs) w4) := ⟨ss, hss, ko.kns⟩
      rw [hun] at K4 ⊢
      have P4 := hide (P3.out.below b4)
      have S4 := hide (S3.out.below b4 (Nat.le_trans hz2 S3.out.2.2.2.2.size))
      clear hz2
      have hs34 := b4.size
      clear ko hss b4 hun CA
      obtain ⟨i0, hi, hz0, hz1, hz2⟩ := info_parts infoInt
      have BA : Hid (Below w4.heap.size w4 (w4.alloc (.cells #[.slice ua un uc] 34))) := (Below.refl _ _).alloc (Nat.le_refl _) _
      have CC := hide (heap_alloc_new w4 (.cells #[.slice ua un uc] 34))
      go_wp2_with (at_make; refine wpList_make_full _ rfl _ _ 81 rfl (w4.heap.size + 1) 3 i0 (.int .i64 0) 1 Tryz.underlying81 hi hz0 hz1 .i64 .i64 _ _ m rfl rfl rfl rfl (by rw [hz2]; omega) (by unfold maxLen; omega) (by simp) ?_)
      intro w5 hown hgrow
      rw [toList_madeCells_one, icells_rep] at hown
      have BG : Below (w4.alloc (.cells #[.slice ua un uc] 34)).heap.size (w4.alloc (.cells #[.slice ua un uc] 34)) w5 := (Below.refl _ _).grown hgrow (Nat.le_refl _) (fun k hk => by cases hk)
      have B45 : Hid (Below w4.heap.size w4 w5) := BA.out.trans (BG.mono BA.out.size)
      have hlow : w0.heap.size ≤ w4.heap.size := Nat.le_trans (Nat.le_trans hz2' S3.out.2.2.2.2.size) hs34
      have ST0 : Hid (SlSt w w0.heap.size w2 w5 w3.heap.size w4.heap.size z (.slice ad len cap) (.slice ua un uc) (.slice fa len fc) bs L (.slice (some ⟨w1.heap.size, 0, none⟩) m tc) ts qs m ((qs.map (swP (swU L qs))).take 0 ++ (List.replicate m 0).drop 0)) := by
        refine ⟨hown, S4.out.below B45.out hlow, (BG.block w4.heap.size (by simp)).trans CC.out, ?_, P4.out.below B45.out⟩
        exact Kns.loc _ _ _ _ _ _ (fun q q1 q2 => B45.out.block q q2) K4.out
      clear hown hgrow BG hi hz0 hz1 hz2 BA CC B45 K4 P4 S4 S3 S2 P3 P2 P1 HFO HPR
      obtain ⟨g, hg⟩ : ∃ g, w4.heap.size = g := ⟨_, rfl⟩
      rw [hg] at ST0 hs34 hlow ⊢
      clear hg
      go_wp2
      go_loopw [44] (fun iv W => ∃ k : Nat, k ≤ m ∧ iv = .int .i64 k ∧ Hid (SlSt w w0.heap.size w2 W w3.heap.size g z (.slice ad len cap) (.slice ua un uc) (.slice fa len fc) bs L (.slice (some ⟨w1.heap.size, 0, none⟩) m tc) ts qs m ((qs.map (swP (swU L qs))).take k ++ (List.replicate m 0).drop k))) (fun iv _ => m - (intOf iv).toNat)
      case atStart => exact ⟨0, Nat.zero_le _, rfl, ST0⟩
      case round =>
        obtain ⟨k, hk, rfl, HS⟩ := hrel
        clear ST0
        by_cases hlt : (k : Int) < m
        · obtain ⟨t, ht⟩ : ∃ t, ts[k]? = some t := ⟨_, List.getElem?_eq_getElem (by have := HTL.out; omega)⟩
          obtain ⟨r, hr⟩ : ∃ r, qs[k]? = some r := ⟨_, List.getElem?_eq_getElem (by have := HQL.out; omega)⟩
          obtain ⟨ta', tc', e, hpr⟩ := PRow.of HS.out.2.1.2.1
          injection e with e1 e2 e3
          obtain ⟨tg, htg, -, hcell⟩ := hpr.at ht
          rw [← e1] at htg
          injection htg with htg
          injection htg with htg
          subst htg
          unfold ptr at hcell
          obtain ⟨x, hat, hpl⟩ := swept_place TO.out HS.out.2.1 TB.out ht hr
          have pc := hat.place
          rw [hpl] at pc
          have k0 : (0 : Int) ≤ k := by omega
          obtain ⟨pv, hpv⟩ : ∃ pv, swP (swU L qs) r = pv := ⟨_, rfl⟩
          rw [hpv] at pc
          have hkm : k < m := by omega
          have oc : wr.cell? ⟨g + 1, k, none⟩ = some (.int .i64 0) := by
            rw [← addr_at]
            refine HS.out.1.cells (g := g + 1) rfl k _ (icells_get ?_)
            rw [part_at (by rw [List.length_map, HQL.out]; exact hkm), List.getElem?_replicate, if_pos hkm]
          have of : wr.frozen? ⟨g + 1, k, none⟩ = false := by
            obtain ⟨-, -, cs, q⟩ := own_kind HS.out.1 (g + 1) rfl
            exact frozen_of_row _ _ k _ _ q
          have NX : Hid (SlSt w w0.heap.size w2 (wr.setCell ⟨g + 1, k, none⟩ (.int .i64 pv)) w3.heap.size g z (.slice ad len cap) (.slice ua un uc) (.slice fa len fc) bs L (.slice (some ⟨w1.heap.size, 0, none⟩) m tc) ts qs m ((qs.map (swP (swU L qs))).take (k + 1) ++ (List.replicate m 0).drop (k + 1))) := by
            obtain ⟨-, -, cs, q⟩ := own_kind HS.out.1 (g + 1) rfl
            have hb0 := B0.out
            refine ⟨?_, HS.out.2.1.cellI q (by omega), row_set_ne HS.out.2.2.1 (by omega) _ _, ?_, ?_⟩
            · have := fown_set HS.out.1 rfl k (.int .i64 pv)
              rw [icells_set, part_set (by rw [List.getElem?_map, hr, ← hpv]; rfl) (by rw [List.length_map, HQL.out]; simp)] at this
              exact this
            · exact Kns.loc _ _ _ _ _ _ (fun q q1 q2 => Below.heap_setCell _ _ _ _ (show q ≠ g + 1 by omega)) HS.out.2.2.2.1
            · have hp := HS.out.2.2.2.2
              exact ⟨row_set_ne hp.1 (by omega) _ _, row_set_ne hp.2.1 (by omega) _ _, hp.2.2.setCell (p := ⟨g + 1, k, none⟩) (by show z ≤ g + 1; omega) _⟩
          clear hpr e1 e2 e3 ht hr hat hpl hpv HS
          go_wp2
          go_roundw
          case rel => exact ⟨k + 1, by omega, by go_num, NX⟩
          case measure => simp [intOf]; omega
        · have ek : k = m := by omega
          subst ek
          have r0 := cell_of_row _ _ 0 _ _ _ HS.out.2.2.2.2.2.1
          have f0 := frozen_of_row _ _ 0 _ _ HS.out.2.2.2.2.2.1
          have c0 : wr.cell? ⟨g, 0, none⟩ = some (.slice ua un uc) := cell_of_row _ _ 0 _ _ _ HS.out.2.2.1
          have FR : Hid ((wr.setCell ⟨z + 1, 0, none⟩ (.slice ua un uc)).heap[z + 1]? = some (.cells #[.slice ua un uc] 34 (0, 0))) := row_set HS.out.2.2.2.2.2.1 0 _
          have FIN : Hid (SweepOut w (sweepL L qs) (sweepR L qs) (.returned (.tuple #[.agg #[.slice ua un uc], .slice (some ⟨g + 1, 0, none⟩) k k])) (wr.setCell ⟨z + 1, 0, none⟩ (.slice ua un uc))) := by
            have hb0 := B0.out
            rw [E.out.1, E.out.2]
            obtain ⟨-, gl, cs, q⟩ := own_kind HS.out.1 (g + 1) rfl
            have hz4 : (wr.setCell ⟨z + 1, 0, none⟩ (.slice ua un uc)).heap.size = wr.heap.size := by simp [World.setCell]
            have hw3 := Nat.le_trans hz2' S3Z.out
            refine ⟨_, _, w3.heap.size, g, g + 1, g + 1 + 1, rfl, ?_, ?_, by rw [HZ.out]; omega, by rw [hz4]; omega, by rw [HZ.out]; omega, by rw [hz4]; omega, .inl (by omega), ?_⟩
            · exact Kns.loc _ _ _ _ _ _ (fun q q1 q2 => Below.heap_setCell _ _ _ _ (show q ≠ z + 1 by omega)) HS.out.2.2.2.1
            · have h1 := HS.out.1
              rw [List.take_of_length_le (by rw [List.length_map, HQL.out]; exact Nat.le_refl _)] at h1
              have e2 : (List.replicate k (0 : Int)).drop k = [] := by simp
              rw [e2, List.append_nil] at h1
              rw [List.length_map, HQL.out]
              refine .inr ⟨g + 1, k, rfl, Nat.le_refl _, by omega, ?_⟩
              exact Flt.loc _ _ _ _ _ (fun q q1 q2 => Below.heap_setCell _ _ _ _ (show q ≠ z + 1 by omega)) (Sli.of h1).flt
            · rw [HZ.out]
              exact HS.out.2.2.2.2.2.2.setCell (p := ⟨z + 1, 0, none⟩) (by show z ≤ z + 1; omega) _
          clear HS
          go_wp2
          exact bodyPost_ret (results_ar2 (p := 4) (q := 5) rfl _ _ (z + 1) _ rfl FR.out) rfl FIN.out
    · have E : Hid (sweepL L qs = L ∧ sweepR L qs = qs) := by
        have : swB L qs = false := by rw [swB, hR, Bool.and_false]
        exact ⟨by rw [sweepL, this]; rfl, by rw [sweepR, this]; rfl⟩
      clear hR
      go_wp2_with fail
      refine (CP.out _ P2.out).mono ?_
      rintro e w3 ⟨ua, un, uc, rfl, p3, k3, s3⟩
      have P3 := hide p3
      have K3 := hide k3
      have QS := hide (QR.out _ p3)
      clear p3 k3
      go_wp2_with fail
      refine (icl_ints (.slice ra m rc) qs w3 (by have := HQL.out; omega) (by have := HQL.out; rw [← this]; exact ⟨ra, rc, rfl, HRA.out, by rw [this]; exact QS.out⟩)).mono ?_
      rintro e w4 ⟨nv, rfl, on, b4⟩
      have P4 := hide (P3.out.below b4)
      have r0 := cell_of_row _ _ 0 _ _ _ P4.out.2.1
      have f0 := frozen_of_row _ _ 0 _ _ P4.out.2.1
      have FIN : Hid (SweepOut w (sweepL L qs) (sweepR L qs) (.returned (.tuple #[.agg #[.slice ua un uc], nv])) (w4.setCell ⟨z + 1, 0, none⟩ (.slice ua un uc))) := by
        rw [E.out.1, E.out.2]
        have hl4 := P4.out.lt
        have hl2 := P2.out.lt
        have hz4 : (w4.setCell ⟨z + 1, 0, none⟩ (.slice ua un uc)).heap.size = w4.heap.size := by simp [World.setCell]
        have hs4 := b4.size
        have far : ∀ q, w2.heap.size ≤ q → (w4.setCell ⟨z + 1, 0, none⟩ (.slice ua un uc)).heap[q]? = w4.heap[q]? := fun q hq => Below.heap_setCell _ _ _ _ (show q ≠ z + 1 by omega)
        refine ⟨_, nv, w2.heap.size, w3.heap.size, w3.heap.size, w4.heap.size, rfl, ?_, ?_, ?_, by rw [hz4]; exact hs4, ?_, by rw [hz4]; exact Nat.le_refl _, .inl (Nat.le_refl _), ?_⟩
        · exact Kns.loc _ _ _ _ _ _ (fun q q1 q2 => (far q q1).trans (b4.block q q2)) K3.out
        · exact Sli.loc _ _ _ _ _ _ _ _ (fun q q1 q2 => far q (by omega)) (Sli.of on)
        · rw [HZ.out]; omega
        · rw [HZ.out]; omega
        · rw [HZ.out]; exact P4.out.2.2.setCell (p := ⟨z + 1, 0, none⟩) (by show z ≤ z + 1; omega) _
      have FR : Hid ((w4.setCell ⟨z + 1, 0, none⟩ (.slice ua un uc)).heap[z + 1]? = some (.cells #[.slice ua un uc] 34 (0, 0))) := row_set P4.out.2.1 0 _
      obtain ⟨na, nc, rfl, -⟩ := (Sli.of on).form
      clear on b4 bx2
      go_wp2
      exact bodyPost_ret (results_ar2 (p := 4) (q := 5) rfl _ _ (z + 1) _ rfl FR.out) rfl FIN.out
  · have E : Hid (sweepL L qs = L ∧ sweepR L qs = qs) := by
      have : swB L qs = false := by rw [swB, hA, Bool.false_and]
      exact ⟨by rw [sweepL, this]; rfl, by rw [sweepR, this]; rfl⟩
    clear hA
    go_wp2_with fail
    refine (itreesAt none 0 0 [] [] ra m rc qs w1 hm ⟨rfl, by unfold maxLen; omega, fun h => by omega⟩ (FAt.nil _) (QR.out _ P1.out)).mono ?_
    rintro e w2 ⟨b2, h2⟩
    have P2 := hide (P1.out.below b2)
    have bx2 : w2.cell? ⟨z, 0, none⟩ = some (.slice ad len cap) := cell_of_row _ _ 0 _ _ _ P2.out.1
    obtain ⟨v2, ok2, rfl⟩ : ∃ v ok, e = .returned (.tuple #[v, .bool ok]) := by
      rcases h2 with ⟨-, ts, tc, rfl, -⟩ | ⟨-, rfl⟩
      · exact ⟨_, _, rfl⟩
      · exact ⟨_, _, rfl⟩
    clear b2 h2
    go_wp2_with fail
    refine (CP.out _ P2.out).mono ?_
    rintro e w3 ⟨ua, un, uc, rfl, p3, k3, s3⟩
    have P3 := hide p3
    have K3 := hide k3
    have QS := hide (QR.out _ p3)
    clear p3 k3
    go_wp2_with fail
    refine (icl_ints (.slice ra m rc) qs w3 (by have := HQL.out; omega) (by have := HQL.out; rw [← this]; exact ⟨ra, rc, rfl, HRA.out, by rw [this]; exact QS.out⟩)).mono ?_
    rintro e w4 ⟨nv, rfl, on, b4⟩
    have P4 := hide (P3.out.below b4)
    have r0 := cell_of_row _ _ 0 _ _ _ P4.out.2.1
    have f0 := frozen_of_row _ _ 0 _ _ P4.out.2.1
    have FIN : Hid (SweepOut w (sweepL L qs) (sweepR L qs) (.returned (.tuple #[.agg #[.slice ua un uc], nv])) (w4.setCell ⟨z + 1, 0, none⟩ (.slice ua un uc))) := by
      rw [E.out.1, E.out.2]
      have hl4 := P4.out.lt
      have hl2 := P2.out.lt
      have hz4 : (w4.setCell ⟨z + 1, 0, none⟩ (.slice ua un uc)).heap.size = w4.heap.size := by simp [World.setCell]
      have hs4 := b4.size
      have far : ∀ q, w2.heap.size ≤ q → (w4.setCell ⟨z + 1, 0, none⟩ (.slice ua un uc)).heap[q]? = w4.heap[q]? := fun q hq => Below.heap_setCell _ _ _ _ (show q ≠ z + 1 by omega)
      refine ⟨_, nv, w2.heap.size, w3.heap.size, w3.heap.size, w4.heap.size, rfl, ?_, ?_, ?_, by rw [hz4]; exact hs4, ?_, by rw [hz4]; exact Nat.le_refl _, .inl (Nat.le_refl _), ?_⟩
      · exact Kns.loc _ _ _ _ _ _ (fun q q1 q2 => (far q q1).trans (b4.block q q2)) K3.out
      · exact Sli.loc _ _ _ _ _ _ _ _ (fun q q1 q2 => far q (by omega)) (Sli.of on)
      · rw [HZ.out]; omega
      · rw [HZ.out]; omega
      · rw [HZ.out]; exact P4.out.2.2.setCell (p := ⟨z + 1, 0, none⟩) (by show z ≤ z + 1; omega) _
    have FR : Hid ((w4.setCell ⟨z + 1, 0, none⟩ (.slice ua un uc)).heap[z + 1]? = some (.cells #[.slice ua un uc] 34 (0, 0))) := row_set P4.out.2.1 0 _
    obtain ⟨na, nc, rfl, -⟩ := (Sli.of on).form
    clear on b4 bx2
    go_wp2
    exact bodyPost_ret (results_ar2 (p := 4) (q := 5) rfl _ _ (z + 1) _ rfl FR.out) rfl FIN.out
end Go.Proofs.YtcnaahajaaifjacGreat
