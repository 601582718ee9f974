/-
  slices.EqualFunc of volumes; impl.SameStore.
-/
import Derived.Test.YtcnaahajaaifjaaPq12
import Derived.Test.YtcnaahajaaifjaaPq31
import Derived.Test.YtcnaahajaaifjaaShelf
namespace Go.Proofs.Ytcnaahajaaifjaa
open Go.RowKit
open Words

/-- What two volumes that are held against each other have. -/
def volEq (l m : List Kn) (x y : Int × Int) : Bool := decide (x.1 = y.1) && decide (allT l x.2 = allT m y.2)
theorem same_is (a b : Sto) : sameS a b = (decide (a.next = b.next) && (decide (a.vols.length = b.vols.length) && (a.vols.zip b.vols).all (fun p => volEq a.kns b.kns p.1 p.2))) := by
  unfold sameS tellS
  rw [Bool.and_comm]
  congr 1
  rw [Bool.eq_iff_iff]
  simp only [decide_eq_true_eq, Bool.and_eq_true, List.all_eq_true, volEq]
  generalize a.vols = x
  generalize b.vols = y
  induction x generalizing y with
  | nil =>
    cases y with
    | nil => simp
    | cons v y => simp
  | cons u x ih =>
    cases y with
    | nil => simp
    | cons v y =>
      rw [List.map_cons, List.map_cons, List.cons.injEq, ih, Prod.mk.injEq]
      simp only [List.length_cons, List.zip_cons_cons, List.mem_cons]
      constructor
      · rintro ⟨⟨h1, h2⟩, h3, h4⟩
        refine ⟨by omega, fun p hp => ?_⟩
        rcases hp with rfl | hp
        · exact ⟨h1, h2⟩
        · exact h4 p hp
      · rintro ⟨h1, h2⟩
        exact ⟨h2 (u, v) (.inl rfl), by omega, fun p hp => h2 p (.inr hp)⟩

set_option maxHeartbeats 1000000 in
set_option maxRecDepth 100000 in
theorem isameVol (za zb : Nat) (aa : Option Addr) (al ac : Nat) (ba : Option Addr) (bl bc : Nat) (ra rb : List Kw) (x y : Int × Int) (w : World) (hal : al ≤ 1048576) (hbl : bl ≤ 1048576) (ha : w.cell? ⟨za, 1, none⟩ = some (.slice aa al ac)) (hb : w.cell? ⟨zb, 1, none⟩ = some (.slice ba bl bc)) (hka : KnRd w aa al ra) (hkb : KnRd w ba bl rb) :
    Calls Try.prog 52 #[.agg #[.int .i64 x.1, .int .i64 x.2], .agg #[.int .i64 y.1, .int .i64 y.2], .pointer (some ⟨za, 0, none⟩), .pointer (some ⟨zb, 0, none⟩)] w fun e w' => e = .returned (.bool (volEq (ra.map ktell) (rb.map ktell) x y)) ∧ Below w.heap.size w w' := by
  obtain ⟨x0, x1⟩ := x
  obtain ⟨y0, y1⟩ := y
  simp only
  have HA := hide ha
  have HB := hide hb
  have HKA := hide hka
  have HKB := hide hkb
  have T0 := hide (Tk.two w #[.int .i64 x0, .int .i64 x1] #[.int .i64 y0, .int .i64 y1] 49 49)
  have LA := hide (World.block_lt_of_cell? w _ ha)
  have LB := hide (World.block_lt_of_cell? w _ hb)
  clear ha hb hka hkb
  obtain ⟨C, hC⟩ : ∃ C, volEq (ra.map ktell) (rb.map ktell) (x0, x1) (y0, y1) = C := ⟨_, rfl⟩
  have HC := hide hC
  rw [hC]
  clear hC
  go_enter Try.func52, Try.ntmps52
  go_wp2_with fail
  generalize (w.alloc (.cells #[.int .i64 x0, .int .i64 x1] 49)).alloc (.cells #[.int .i64 y0, .int .i64 y1] 49) = wb at T0 ⊢
  have c0 : wb.cell? ⟨w.heap.size, 0, none⟩ = some (.int .i64 x0) := T0.out.at 1 0 rfl rfl
  have c1 : wb.cell? ⟨w.heap.size, 1, none⟩ = some (.int .i64 x1) := T0.out.at 1 1 rfl rfl
  have d0 : wb.cell? ⟨w.heap.size + 1, 0, none⟩ = some (.int .i64 y0) := T0.out.at 0 0 rfl rfl
  have d1 : wb.cell? ⟨w.heap.size + 1, 1, none⟩ = some (.int .i64 y1) := T0.out.at 0 1 rfl rfl
  have a1 := (T0.out.1.cell (show za < w.heap.size from LA.out)).trans HA.out
  have b1 := (T0.out.1.cell (show zb < w.heap.size from LB.out)).trans HB.out
  obtain ⟨z, hz⟩ : ∃ z, w.heap.size = z := ⟨_, rfl⟩
  have HZW := hide hz
  rw [hz] at c0 c1 d0 d1 ⊢
  clear hz
  have BD : Hid (Below wb.heap.size wb wb.drew) := (Below.refl _ _).drew
  have KK : Hid (∀ W, Below wb.heap.size wb W → W.cell? ⟨z, 0, none⟩ = some (.int .i64 x0) ∧ W.cell? ⟨z, 1, none⟩ = some (.int .i64 x1) ∧ W.cell? ⟨z + 1, 0, none⟩ = some (.int .i64 y0) ∧ W.cell? ⟨z + 1, 1, none⟩ = some (.int .i64 y1) ∧ W.cell? ⟨za, 1, none⟩ = some (.slice aa al ac) ∧ W.cell? ⟨zb, 1, none⟩ = some (.slice ba bl bc)) := by
    have l0 : z < wb.heap.size := World.block_lt_of_cell? wb _ c0
    have l1 : z + 1 < wb.heap.size := World.block_lt_of_cell? wb _ d0
    have l2 := World.block_lt_of_cell? wb _ a1
    have l3 := World.block_lt_of_cell? wb _ b1
    exact fun W H => ⟨(H.cell l0).trans c0, (H.cell l0).trans c1, (H.cell l1).trans d0, (H.cell l1).trans d1, (H.cell l2).trans a1, (H.cell l3).trans b1⟩
  by_cases hxy : (x0 == y0) = true
  · have E : Hid (∀ A B : List Int, allT (ra.map ktell) x1 = A → allT (rb.map ktell) y1 = B → C = (A == B)) := fun A B hA hB => by
      rw [← HC.out, volEq, hA, hB]
      have : x0 = y0 := by simpa using hxy
      simp only [this, decide_true, Bool.true_and]
      rw [Bool.eq_iff_iff]
      simp
    obtain ⟨A, hA⟩ : ∃ A, allT (ra.map ktell) x1 = A := ⟨_, rfl⟩
    obtain ⟨B, hB⟩ : ∃ B, allT (rb.map ktell) y1 = B := ⟨_, rfl⟩
    have LNA : Hid (A.length = 16) := by show _ = _; rw [← hA]; exact allT_len _ _
    have LNB : Hid (B.length = 16) := by show _ = _; rw [← hB]; exact allT_len _ _
    have EC := hide (E.out A B hA hB)
    have BW := hide T0.out.1
    have CA1 := hide (iallAt aa al ac ra x1 wb.drew (by omega) (HKA.out.below (BW.out.trans (BD.out.mono BW.out.size))))
    have CB : Hid (∀ W, Below wb.heap.size wb W → Calls Try.prog 54 #[.agg #[.slice ba bl bc], .int .i64 y1] W (IOut W B)) := fun W H => by
      have := iallAt ba bl bc rb y1 W (by omega) (HKB.out.below (BW.out.trans (H.mono BW.out.size)))
      rw [hB] at this
      exact this
    have CE : Hid (∀ (W : World) (ag bg c d : Nat), (∀ (k : Nat) (x : Int), A[k]? = some x → W.cell? ⟨ag, k, none⟩ = some (.int .i64 x)) → (∀ (k : Nat) (x : Int), B[k]? = some x → W.cell? ⟨bg, k, none⟩ = some (.int .i64 x)) → Calls Try.prog 53 #[.slice (some ⟨ag, 0, none⟩) 16 c, .slice (some ⟨bg, 0, none⟩) 16 d] W fun e w' => e = .returned (.bool C) ∧ Below W.heap.size W w') := fun W ag bg c d hca hcb => (Try.slices_Equal_int ag 0 16 c bg 0 16 d A B W (by rw [LNA.out]; omega) (by rw [LNB.out]; omega) (by omega) (by omega) (fun j hj => by rw [Nat.zero_add]; exact hca j _ (by rw [List.getD_eq_getElem?_getD, List.getElem?_eq_getElem hj]; rfl)) (fun j hj => by rw [Nat.zero_add]; exact hcb j _ (by rw [List.getD_eq_getElem?_getD, List.getElem?_eq_getElem hj]; rfl))).mono (by
        rintro e w' ⟨rfl, q, rfl⟩
        rw [List.take_of_length_le (by rw [LNA.out]; omega), List.take_of_length_le (by rw [LNB.out]; omega)]
        exact ⟨by rw [EC.out], below_drewN (Below.refl _ _) q⟩)
    rw [hA] at CA1
    have OG : Hid (∀ (W : World) (B0 : Nat) (v : Value) (L : List Int), L.length = 16 → W.ownsRow B0 3 1 v L.length (icells L) → ∃ g c, v = .slice (some ⟨g, 0, none⟩) 16 c ∧ g < W.heap.size ∧ ∀ (k : Nat) (x : Int), L[k]? = some x → W.cell? ⟨g, k, none⟩ = some (.int .i64 x)) := fun W B0 v L hl ho => by
      obtain ⟨va, vc, rfl, hr⟩ := (Sli.of ho).form
      obtain ⟨g, rfl, -, hg⟩ := hr (by omega)
      refine ⟨g, vc, by rw [hl], hg, fun k x hk => ?_⟩
      rw [← addr_at]
      exact ho.cells (g := g) rfl k _ (icells_get hk)
    have KP := hide (KK.out _ BD.out)
    clear hA hB E c0 c1 d0 d1 a1 b1 HA HB
    go_region_held3 (fun w' => w'.cell? ⟨z, 0, none⟩ = some (.int .i64 x0) ∧ w'.cell? ⟨z, 1, none⟩ = some (.int .i64 x1) ∧ w'.cell? ⟨z + 1, 0, none⟩ = some (.int .i64 y0) ∧ w'.cell? ⟨z + 1, 1, none⟩ = some (.int .i64 y1) ∧ w'.cell? ⟨za, 1, none⟩ = some (.slice aa al ac) ∧ w'.cell? ⟨zb, 1, none⟩ = some (.slice ba bl bc)) (first | exact KP.out | go_keep) (first
      | (go_at_call 54; (with_reducible refine Calls.mono CA1.out ?_); rintro en w1 ⟨v1, rfl, o1, b1⟩; (obtain ⟨ag, c1, hv1, hg1, hc1⟩ := OG.out _ _ _ _ LNA.out o1); subst hv1; have HC1 := hide hc1; have HG1 := hide hg1; have BE := hide (BD.out.trans (b1.mono BD.out.size)); clear KP CA1 o1 hc1 hg1 b1; have KP := hide (KK.out _ BE.out); have CB1 := hide (CB.out _ BE.out))
      | (go_at_call 54; (with_reducible refine Calls.mono CB1.out ?_); rintro en w2 ⟨v2, rfl, o2, b2⟩; (obtain ⟨bg, c2, hv2, hg2, hc2⟩ := OG.out _ _ _ _ LNB.out o2); subst hv2; have CE1 := hide (CE.out w2 ag bg c1 c2 (fun k x hk => (b2.cell (show ag < w1.heap.size from HG1.out)).trans (HC1.out k x hk)) hc2); have BE2 := hide (BE.out.trans (b2.mono BE.out.size)); clear KP CB1 o2 hc2 hg2 b2; have KP := hide (KK.out _ BE2.out))
      | (go_at_call 53; (with_reducible refine Calls.mono CE1.out ?_); rintro en w3 ⟨rfl, b3⟩; have BE3 := hide (BE2.out.trans (b3.mono BE2.out.size)); clear KP CE1 b3; have KP := hide (KK.out _ BE3.out)))
    have BF := hide (BW.out.trans (BE3.out.mono BW.out.size))
    go_wp2
    go_ret
    exact ⟨rfl, by rw [HZW.out]; have := BF.out; rw [HZW.out] at this; exact this⟩
  · have E : Hid (C = false) := by
      show _ = _
      rw [← HC.out, volEq, decide_eq_false (by simpa using hxy), Bool.false_and]
    have BW := hide T0.out.1
    have hxf : (x0 == y0) = false := by simpa using hxy
    clear hxy
    go_quiet (fail)
    have BF := hide (below_drewN BW.out nq)
    go_wp2
    go_ret
    exact ⟨by rw [E.out]; rfl, by rw [HZW.out]; have := BF.out; rw [HZW.out] at this; exact this⟩
/-- The first k of two rows are alike. -/
def eqK (f : (Int × Int) → (Int × Int) → Bool) (a b : List (Int × Int)) (k : Nat) : Bool := ((a.take k).zip (b.take k)).all (fun p => f p.1 p.2)
theorem eqK_succ {f : (Int × Int) → (Int × Int) → Bool} {a b : List (Int × Int)} {k : Nat} {x y : Int × Int} (ha : a[k]? = some x) (hb : b[k]? = some y) : eqK f a b (k + 1) = (eqK f a b k && f x y) := by
  obtain ⟨h1, h2⟩ := List.getElem?_eq_some_iff.1 ha
  obtain ⟨h3, h4⟩ := List.getElem?_eq_some_iff.1 hb
  rw [eqK, eqK, List.take_succ_eq_append_getElem h1, h2, List.take_succ_eq_append_getElem h3, h4, List.zip_append (by rw [List.length_take, List.length_take]; omega), List.all_append]
  simp
theorem eqK_bad {f : (Int × Int) → (Int × Int) → Bool} {a b : List (Int × Int)} {k : Nat} {x y : Int × Int} (ha : a[k]? = some x) (hb : b[k]? = some y) (h : f x y = false) : (a.zip b).all (fun p => f p.1 p.2) = false := by
  rw [List.all_eq_false]
  refine ⟨(x, y), ?_, by rw [h]; decide⟩
  refine List.mem_of_getElem? (i := k) ?_
  rw [List.getElem?_zip_eq_some]
  exact ⟨ha, hb⟩
set_option maxHeartbeats 1000000 in
set_option maxRecDepth 100000 in
theorem ieqF (fv : Value) (f : (Int × Int) → (Int × Int) → Bool) (va : Option Addr) (vl vc : Nat) (ua : Option Addr) (ul uc : Nat) (vs us : List (Int × Int)) (za zb : Nat) (w : World) (hfv : fv = .func (.func 52) #[] #[.pointer (some ⟨za, 0, none⟩), .pointer (some ⟨zb, 0, none⟩)]) (hvl : vl ≤ 1048576) (hul : ul ≤ 1048576) (hv : VlRow w va vl vs) (hu : VlRow w ua ul us)
    (hf : ∀ W x y, Below w.heap.size w W → Calls Try.prog 52 #[.agg #[.int .i64 x.1, .int .i64 x.2], .agg #[.int .i64 y.1, .int .i64 y.2], .pointer (some ⟨za, 0, none⟩), .pointer (some ⟨zb, 0, none⟩)] W fun e w' => e = .returned (.bool (f x y)) ∧ Below W.heap.size W w') :
    Calls Try.prog 55 #[.slice va vl vc, .slice ua ul uc, fv] w fun e w' => e = .returned (.bool (decide (vs.length = us.length) && (vs.zip us).all (fun p => f p.1 p.2))) ∧ Below w.heap.size w w' := by
  subst hfv
  have HV := hide hv
  have HU := hide hu
  have HVL := hide hv.1
  have HUL := hide hu.1
  have HF := hide hf
  obtain ⟨C, hC⟩ : ∃ C, (decide (vs.length = us.length) && (vs.zip us).all (fun p => f p.1 p.2)) = C := ⟨_, rfl⟩
  have HC := hide hC
  rw [hC]
  clear hC hv hu hf
  by_cases hne : (vl : Int) = ul
  · have enl : vl = ul := by omega
    subst enl
    have EC : Hid (C = (vs.zip us).all (fun p => f p.1 p.2)) := by
      show _ = _
      rw [← HC.out, HVL.out, HUL.out, decide_eq_true rfl, Bool.true_and]
    clear hne
    go_enter Try.func55, Try.ntmps55
    go_wp2_with fail
    go_loopw [17] (fun kv W => ∃ k : Nat, k ≤ vl ∧ kv = .int .i64 k ∧ Hid (eqK f vs us k = true ∧ Below w.heap.size w W)) (fun kv _ => vl - (intOf kv).toNat)
    case atStart => exact ⟨0, Nat.zero_le _, rfl, rfl, Below.refl _ _⟩
    case round =>
      obtain ⟨k, hk, rfl, HS⟩ := hrel
      by_cases hlt : (k : Int) < vl
      · obtain ⟨x, hx⟩ : ∃ x, vs[k]? = some x := ⟨_, List.getElem?_eq_getElem (by have := HVL.out; omega)⟩
        obtain ⟨y, hy⟩ : ∃ y, us[k]? = some y := ⟨_, List.getElem?_eq_getElem (by have := HUL.out; omega)⟩
        obtain ⟨b, off, e, hb, c0, c1⟩ := (HV.out.below HS.out.2).at hx
        subst e
        obtain ⟨b2, off2, e, hb2, d0, d1⟩ := (HU.out.below HS.out.2).at hy
        subst e
        have k0 : (0 : Int) ≤ k := by omega
        have ES := hide (eqK_succ (f := f) hx hy)
        have EB := hide (fun h => eqK_bad (f := f) hx hy h)
        obtain ⟨x0, x1⟩ := x
        obtain ⟨y0, y1⟩ := y
        simp only at c0 c1 d0 d1
        have BA : Hid (Below wr.heap.size wr (wr.alloc (.cells #[.int .i64 x0, .int .i64 x1] 49))) := (Below.refl _ _).alloc (Nat.le_refl _) _
        have BB : Hid (Below w.heap.size w ((wr.alloc (.cells #[.int .i64 x0, .int .i64 x1] 49)).alloc (.cells #[.int .i64 y0, .int .i64 y1] 49))) := (HS.out.2.alloc HS.out.2.size _).alloc (by have := HS.out.2.size; simp; omega) _
        have e0 := (BA.out.cell (show b2 < wr.heap.size from hb2)).trans d0
        have e1 := (BA.out.cell (show b2 < wr.heap.size from hb2)).trans d1
        have CF := hide (HF.out _ (x0, x1) (y0, y1) BB.out)
        simp only at CF
        clear hx hy
        go_wp2_with fail
        refine CF.out.mono ?_
        rintro e w1 ⟨rfl, b1⟩
        have B1 := hide (BB.out.trans (b1.mono BB.out.size))
        clear b1 CF e0 e1
        by_cases hfx : f (x0, x1) (y0, y1) = true
        · have HS2 : Hid (eqK f vs us (k + 1) = true ∧ Below w.heap.size w w1) := ⟨by rw [ES.out, HS.out.1, hfx]; rfl, B1.out⟩
          rw [hfx]
          go_wp2
          go_roundw
          case rel => exact ⟨k + 1, by omega, by go_num, HS2⟩
          case measure => simp [intOf]; omega
        · have hff : f (x0, x1) (y0, y1) = false := by simpa using hfx
          have E2 : Hid (C = false) := by show _ = _; rw [EC.out]; exact EB.out hff
          rw [hff]
          go_wp2
          go_ret
          exact ⟨by rw [E2.out]; rfl, B1.out⟩
      · have E2 : Hid (C = true) := by
          show _ = _
          rw [EC.out]
          have := HS.out.1
          unfold eqK at this
          rw [List.take_of_length_le (by have := HVL.out; omega), List.take_of_length_le (by have := HUL.out; omega)] at this
          exact this
        go_wp2
        go_ret
        exact ⟨by rw [E2.out]; rfl, HS.out.2⟩
  · have EC : Hid (C = false) := by
      show _ = _
      rw [← HC.out, HVL.out, HUL.out, decide_eq_false (by omega), Bool.false_and]
    have hbn : ((vl : Int) == ul) = false := by simpa using hne
    have hbn2 : ((vl : Int) != ul) = true := by simpa using hne
    go_enter Try.func55, Try.ntmps55
    go_wp2
    go_ret
    exact ⟨by rw [EC.out]; rfl, Below.refl _ _⟩
set_option maxHeartbeats 1000000 in
set_option maxRecDepth 100000 in
theorem isame : SameC 13 := by
  rintro v s u t w ⟨va, vl, vc, ad, len, cap, rs, rfl, hks, hvl, hl, hll, hvc, h, hk⟩ ⟨ua, ul, uc, bd, ben, bap, qs, rfl, hkt, hul, hbl, hll2, huc, h2, hk2⟩
  obtain ⟨vs, kns, nx⟩ := s
  obtain ⟨us, kms, my⟩ := t
  simp only at hks h hkt h2 ⊢
  subst hks hkt
  have T0 := hide (Tk.two w #[.slice va vl vc, .slice ad len cap, .int .i64 nx] #[.slice ua ul uc, .slice bd ben bap, .int .i64 my] 29 29)
  have HV := hide h
  have HU := hide h2
  have HK := hide hk
  have HK2 := hide hk2
  have EQ := hide (same_is ⟨vs, rs.map ktell, nx⟩ ⟨us, qs.map ktell, my⟩)
  simp only at EQ
  obtain ⟨C, hC⟩ : ∃ C, sameS ⟨vs, rs.map ktell, nx⟩ ⟨us, qs.map ktell, my⟩ = C := ⟨_, rfl⟩
  rw [hC] at EQ ⊢
  clear hC h h2 hk hk2 hll hll2 hvc huc
  unfold SBox
  by_cases hxy : nx = my
  · subst hxy
    have EC : Hid (C = (decide (vs.length = us.length) && (vs.zip us).all (fun p => volEq (rs.map ktell) (qs.map ktell) p.1 p.2))) := by
      show _ = _
      rw [EQ.out, decide_eq_true rfl, Bool.true_and]
    have CF : Hid (∀ wb, Tk w wb [(w.heap.size + 1, w.heap.size + 1 + 1, Cel (w.heap.size + 1) #[.slice ua ul uc, .slice bd ben bap, .int .i64 nx] 29), (w.heap.size, w.heap.size + 1, Cel w.heap.size #[.slice va vl vc, .slice ad len cap, .int .i64 nx] 29)] → Calls Try.prog 55 #[.slice va vl vc, .slice ua ul uc, .func (.func 52) #[] #[.pointer (some ⟨w.heap.size, 0, none⟩), .pointer (some ⟨w.heap.size + 1, 0, none⟩)]] wb fun e w' => e = .returned (.bool C) ∧ Below wb.heap.size wb w') := fun wb T => by
      have x1 : wb.cell? ⟨w.heap.size, 1, none⟩ = some (.slice ad len cap) := T.at 1 1 rfl rfl
      have y1 : wb.cell? ⟨w.heap.size + 1, 1, none⟩ = some (.slice bd ben bap) := T.at 0 1 rfl rfl
      have l1 : w.heap.size < wb.heap.size := World.block_lt_of_cell? wb _ x1
      have l2 : w.heap.size + 1 < wb.heap.size := World.block_lt_of_cell? wb _ y1
      rw [EC.out]
      exact ieqF _ (volEq (rs.map ktell) (qs.map ktell)) va vl vc ua ul uc vs us w.heap.size (w.heap.size + 1) wb rfl hvl hul (HV.out.below T.1) (HU.out.below T.1) (fun W x y H => isameVol w.heap.size (w.heap.size + 1) ad len cap bd ben bap rs qs x y W hl hbl ((H.cell (show w.heap.size < wb.heap.size from l1)).trans x1) ((H.cell (show w.heap.size + 1 < wb.heap.size from l2)).trans y1) (HK.out.below (T.1.trans (H.mono T.1.size))) (HK2.out.below (T.1.trans (H.mono T.1.size))))
    go_enter Try.func13, Try.ntmps13
    go_wp2_with fail
    refine (CF.out _ T0.out).mono ?_
    rintro e w1 ⟨rfl, b1⟩
    have BE := hide (T0.out.1.trans (b1.mono T0.out.1.size))
    clear b1 CF
    go_wp2
    go_ret
    exact ⟨rfl, BE.out⟩
  · have EC : Hid (C = false) := by
      show _ = _
      rw [EQ.out, decide_eq_false hxy, Bool.false_and]
    have hxf : (nx == my) = false := by simpa using hxy
    go_enter Try.func13, Try.ntmps13
    go_wp2
    go_ret
    exact ⟨by rw [EC.out]; rfl, T0.out.1⟩
end Go.Proofs.Ytcnaahajaaifjaa
