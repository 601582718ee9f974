import Derived.Test.YtfmnaidhfgmemaaGreatDoorPk14
import Derived.Test.YtfmnaidhfgmemaaGreatDoorPk34
import Derived.Test.YtfmnaidhfgmemaaGreatDoorLawDbO
import Derived.BigQuiet
namespace Go.Proofs.YtfmnaidhfgmemaaGreatDoor
open Go.RowKit
open Words Sums
theorem blank_all (ls : List (Int × ByteArray)) : (ls.all fun t => t.1 == 0) = decide (blanks ls = ls.length) := by
  unfold blanks
  rw [Bool.eq_iff_iff, decide_eq_true_eq, List.all_eq_true, List.countP_eq_length]
set_option maxHeartbeats 1000000 in
set_option maxRecDepth 100000 in
theorem inSince (x : Value) (d : Dv) (base b : Int) (w : World) (h : DvIn w x d) (hv : HalvIn w) : Calls Tryz.prog 62 #[x, .int .i64 base, .int .i64 b] w fun e w' => e = .returned (.int .i64 ((neededP (scanF d.flash) (liveS d.store) base b : Nat) : Int)) ∧ Below w.heap.size w w' := by
  obtain ⟨fd, fc, va, vl, vc, ad, ln, cap, rfl, h1, h2, h3⟩ := h.form
  have bA : Below w.heap.size w (w.alloc (.cells #[.slice fd d.flash.length fc, .slice va vl vc, .slice ad ln cap, .int .i64 d.store.next, .int .i64 d.seq, .int .i64 d.tx, .int .i64 d.base] 47)) := (Below.refl _ _).alloc (Nat.le_refl _) _
  have gA : DAt (w.alloc (.cells #[.slice fd d.flash.length fc, .slice va vl vc, .slice ad ln cap, .int .i64 d.store.next, .int .i64 d.seq, .int .i64 d.tx, .int .i64 d.base] 47)) w.heap.size (.slice fd d.flash.length fc) (.slice va vl vc) (.slice ad ln cap) d.store.next d.seq d.tx d.base := heap_alloc_new _ _
  obtain ⟨rs, e1, i1, l1, ll1, tb1⟩ := (h1.below bA).lens h2
  have CN := hide (ineededOn _ rs _ d.store base b _ l1 ll1 tb1 i1 (h3.below bA) (hv.on bA))
  rw [e1] at CN
  obtain ⟨m, hm⟩ : ∃ m, neededP (scanF d.flash) (liveS d.store) base b = m := ⟨_, rfl⟩
  rw [hm] at CN ⊢
  obtain ⟨n, hn⟩ : ∃ n, d.flash.length = n := ⟨_, rfl⟩
  rw [hn] at CN bA gA ⊢
  have BA := hide bA
  obtain ⟨y0, y1, y2, y3, -, -, -⟩ := gA.cells
  clear e1 i1 l1 ll1 tb1 h1 h2 h3 h hv hm hn bA gA
  go_enter Tryz.func62, Tryz.ntmps62
  go_wp2_with fail
  refine CN.out.mono ?_
  rintro e w1 ⟨rfl, b1⟩
  have FN := hide (BA.out.trans (b1.mono BA.out.size))
  clear b1 CN BA y0 y1 y2 y3
  go_wp2
  go_ret
  exact ⟨rfl, FN.out⟩
def deadB (d : Dv) (k : Nat) (y : Bk) : Bool := !y.1 && !blankB y && decide (neededP (scanF d.flash) (liveS d.store) d.base (k : Int) = 0)
theorem deadF_is (d : Dv) {k : Nat} {y : Bk} (h : d.flash[k]? = some y) : deadF d k = if deadB d k y = true then some (k : Int) else none := by
  unfold deadF deadB
  rw [h]
set_option maxHeartbeats 2000000 in
set_option maxRecDepth 100000 in
theorem iisDead (x : Value) (d : Dv) (lo hi k : Nat) (y : Bk) (w : World) (hd : Dvs lo hi x d w) (hh : hi ≤ w.heap.size) (ho : OkD d) (hv : HalvIn w) (hk : d.flash[k]? = some y) : Calls Tryz.prog 38 #[x, .int .i64 (k : Int)] w fun e w' => e = .returned (.bool (deadB d k y)) ∧ Below w.heap.size w w' := by
  have HDI := hide (hd.rd hh ho.fit)
  have hsm : Sml d.flash := ho.fit.1
  have hkl : k < d.flash.length := (List.getElem?_eq_some_iff.1 hk).1
  have hyl : y.2.2.length ≤ 1048576 := (hsm.2 y (List.mem_of_getElem? hk)).1
  obtain ⟨fv, vv, kv, lo1, hi1, lo2, hi2, rfl, h1, h2, h3, h4, -⟩ := hd
  obtain ⟨fd, fc, rfl, hfd⟩ := h1.form
  obtain ⟨g, rfl, hg1, hg2⟩ := hfd (by omega)
  obtain ⟨va, vc, ad, cap, e2⟩ := h2.form
  injection e2 with e2
  injection e2 with e2
  simp only [List.cons.injEq, and_true] at e2
  obtain ⟨rfl, rfl⟩ := e2
  generalize hvl : d.store.vols.length = vl at HDI
  generalize hln : d.store.kns.length = ln at HDI
  have bA : Below w.heap.size w (w.alloc (.cells #[.slice (some ⟨g, 0, none⟩) d.flash.length fc, .slice va vl vc, .slice ad ln cap, .int .i64 d.store.next, .int .i64 d.seq, .int .i64 d.tx, .int .i64 d.base] 47)) := (Below.refl _ _).alloc (Nat.le_refl _) _
  have gA : DAt (w.alloc (.cells #[.slice (some ⟨g, 0, none⟩) d.flash.length fc, .slice va vl vc, .slice ad ln cap, .int .i64 d.store.next, .int .i64 d.seq, .int .i64 d.tx, .int .i64 d.base] 47)) w.heap.size (.slice (some ⟨g, 0, none⟩) d.flash.length fc) (.slice va vl vc) (.slice ad ln cap) d.store.next d.seq d.tx d.base := heap_alloc_new _ _
  have CAT := hide (iat_in g d.flash.length fc k (w.alloc (.cells #[.slice (some ⟨g, 0, none⟩) d.flash.length fc, .slice va vl vc, .slice ad ln cap, .int .i64 d.store.next, .int .i64 d.seq, .int .i64 d.tx, .int .i64 d.base] 47)) hsm.1 hkl)
  have F1 := hide h1
  have HH1 : Hid (hi1 ≤ w.heap.size) := Nat.le_trans h4 hh
  have HGW : Hid (g < w.heap.size) := Nat.lt_of_lt_of_le hg2 HH1.out
  have HV := hide hv
  have BA := hide bA
  have GA := hide gA
  have HK := hide hk
  obtain ⟨q, hq⟩ : ∃ q, neededP (scanF d.flash) (liveS d.store) d.base (k : Int) = q := ⟨_, rfl⟩
  have HDB : Hid (deadB d k y = (!y.1 && !decide (blanks y.2.2 = y.2.2.length) && decide (q = 0))) := by
    show _ = _
    unfold deadB blankB
    rw [blank_all, hq]
  have HQ := hide hq
  obtain ⟨r, hr⟩ : ∃ r, deadB d k y = r := ⟨_, rfl⟩
  rw [hr] at HDB ⊢
  have y0 := gA.cells.1
  clear h1 h2 h3 h4 hh ho hv hk hfd hg1 hg2 hsm hkl hq hr bA gA hvl hln
  go_enter Tryz.func38, Tryz.ntmps38
  go_wp2_with fail
  refine CAT.out.mono ?_
  rintro e w1 ⟨rfl, b1⟩
  have BW := hide (BA.out.trans (b1.mono BA.out.size))
  have G1 := hide (GA.out.below b1)
  obtain ⟨c1, c2, u, c3, hlf⟩ := (Fla.loc lo1 hi1 _ _ w w1 (fun g _ g2 => BW.out.block g (by have := HH1.out; omega)) F1.out).cells HK.out
  clear b1 CAT GA BA HK F1 HH1 y0
  obtain ⟨y0, y1, y2, y3, y4, y5, y6⟩ := G1.out.cells
  obtain ⟨yb, yw, ls⟩ := y
  simp only at c1 c2 c3 hlf hyl
  have CBL : Hid (∀ n, Calls Tryz.prog 61 #[.pointer (some ⟨g, k * 3, none⟩)] (w1.drewN n) fun e w' => e = .returned (.int .i64 (blanks ls : Nat)) ∧ w' = w1.drewN n) := fun n => iblank_any g (k * 3) u ls lo1 (w1.drewN n) hyl c3 (own_below hlf (below_drewN (Below.refl _ _) _))
  obtain ⟨lad, lcap, rfl, a1, a2, -⟩ := frow_form hlf
  unfold maxLen at a2
  have hle := blanks_le ls
  simp only at HDB
  generalize blanks ls = m at CBL hle HDB
  generalize ls.length = nl at c3 hyl HDB hle a1 a2
  clear hlf a1 a2
  cases yb with
  | true =>
    have HR : Hid (r = false) := by show _ = _; rw [HDB.out]; rfl
    clear HDB
    go_wp2
    go_quiet (fail)
    go_wp2
    go_ret
    exact ⟨by rw [HR.out]; rfl, below_drewN BW.out _⟩
  | false =>
    by_cases hb : m = nl
    · subst hb
      have HR : Hid (r = false) := by show _ = _; rw [HDB.out]; simp
      clear HDB hle
      go_wp2
      go_quiet ((go_at_call 61; exact Calls.quiet_of_same (CBL.out _)))
      go_wp2
      go_ret
      exact ⟨by rw [HR.out]; rfl, below_drewN BW.out _⟩
    · have HR : Hid (r = decide (q = 0)) := by show _ = _; rw [HDB.out, decide_eq_false hb]; rfl
      have hlt : (m : Int) < (nl : Int) := by omega
      have CN : Hid (Calls Tryz.prog 62 #[.agg #[.slice (some ⟨g, 0, none⟩) d.flash.length fc, .slice va vl vc, .slice ad ln cap, .int .i64 d.store.next, .int .i64 d.seq, .int .i64 d.tx, .int .i64 d.base], .int .i64 d.base, .int .i64 (k : Int)] w1.drew fun e w' => e = .returned (.int .i64 (q : Int)) ∧ Below w1.drew.heap.size w1.drew w') := by
        have h := inSince _ d d.base (k : Int) w1.drew (HDI.out.below (BW.out.trans ((Below.refl _ _).drew.mono BW.out.size))) (HV.out.on (BW.out.trans ((Below.refl _ _).drew.mono BW.out.size)))
        rw [HQ.out] at h
        exact h
      have BD : Hid (Below w.heap.size w w1.drew) := BW.out.trans ((Below.refl _ _).drew.mono BW.out.size)
      have CB1 : Hid (Calls Tryz.prog 61 #[.pointer (some ⟨g, k * 3, none⟩)] w1.drew fun e w' => e = .returned (.int .i64 (m : Int)) ∧ w' = w1.drew) := CBL.out 1
      have KP : Hid (w1.drew.cell? ⟨w.heap.size, 0, none⟩ = some (.slice (some ⟨g, 0, none⟩) d.flash.length fc) ∧ w1.drew.cell? ⟨w.heap.size, 1, none⟩ = some (.slice va vl vc) ∧ w1.drew.cell? ⟨w.heap.size, 2, none⟩ = some (.slice ad ln cap) ∧ w1.drew.cell? ⟨w.heap.size, 3, none⟩ = some (.int .i64 d.store.next) ∧ w1.drew.cell? ⟨w.heap.size, 4, none⟩ = some (.int .i64 d.seq) ∧ w1.drew.cell? ⟨w.heap.size, 5, none⟩ = some (.int .i64 d.tx) ∧ w1.drew.cell? ⟨w.heap.size, 6, none⟩ = some (.int .i64 d.base) ∧ w1.drew.cell? ⟨g, k * 3, none⟩ = some (.bool false) ∧ w1.drew.cell? ⟨g, k * 3 + 2, none⟩ = some (.slice lad nl lcap)) := ⟨y0, y1, y2, y3, y4, y5, y6, c1, c3⟩
      have SG : Hid (g < w1.drew.heap.size ∧ w.heap.size < w1.drew.heap.size) := ⟨Nat.lt_of_lt_of_le HGW.out BD.out.size, G1.out.lt⟩
      have HQZ : Hid (((q : Int) == 0) = decide (q = 0)) := by
        show _ = _
        rw [Bool.eq_iff_iff]
        simp
      clear HDB CBL HQ hle hb BW G1 HDI HV
      go_wp2
      go_region_held3 (fun w' => w'.cell? ⟨w.heap.size, 0, none⟩ = some (.slice (some ⟨g, 0, none⟩) d.flash.length fc) ∧ w'.cell? ⟨w.heap.size, 1, none⟩ = some (.slice va vl vc) ∧ w'.cell? ⟨w.heap.size, 2, none⟩ = some (.slice ad ln cap) ∧ w'.cell? ⟨w.heap.size, 3, none⟩ = some (.int .i64 d.store.next) ∧ w'.cell? ⟨w.heap.size, 4, none⟩ = some (.int .i64 d.seq) ∧ w'.cell? ⟨w.heap.size, 5, none⟩ = some (.int .i64 d.tx) ∧ w'.cell? ⟨w.heap.size, 6, none⟩ = some (.int .i64 d.base) ∧ w'.cell? ⟨g, k * 3, none⟩ = some (.bool false) ∧ w'.cell? ⟨g, k * 3 + 2, none⟩ = some (.slice lad nl lcap)) (first | exact KP.out | exact KQ | go_keep) (first
        | (go_at_call 61; (with_reducible refine Calls.mono CB1.out ?_); rintro e w2 ⟨rfl, rfl⟩; clear CB1)
        | (go_at_call 62; (with_reducible refine Calls.mono CN.out ?_); rintro e w3 ⟨rfl, b3⟩; have B3 := hide (BD.out.trans (b3.mono BD.out.size)); have KQ : w3.cell? ⟨w.heap.size, 0, none⟩ = some (.slice (some ⟨g, 0, none⟩) d.flash.length fc) ∧ w3.cell? ⟨w.heap.size, 1, none⟩ = some (.slice va vl vc) ∧ w3.cell? ⟨w.heap.size, 2, none⟩ = some (.slice ad ln cap) ∧ w3.cell? ⟨w.heap.size, 3, none⟩ = some (.int .i64 d.store.next) ∧ w3.cell? ⟨w.heap.size, 4, none⟩ = some (.int .i64 d.seq) ∧ w3.cell? ⟨w.heap.size, 5, none⟩ = some (.int .i64 d.tx) ∧ w3.cell? ⟨w.heap.size, 6, none⟩ = some (.int .i64 d.base) ∧ w3.cell? ⟨g, k * 3, none⟩ = some (.bool false) ∧ w3.cell? ⟨g, k * 3 + 2, none⟩ = some (.slice lad nl lcap) := (by have kc : ∀ {a : Addr} {v : Value}, a.block < w1.drew.heap.size → w1.drew.cell? a = some v → w3.cell? a = some v := fun h e => (World.cell?_of_block (b3.block _ h)).trans e; obtain ⟨z0, z1, z2, z3, z4, z5, z6, z7, z8⟩ := KP.out; exact ⟨kc SG.out.2 z0, kc SG.out.2 z1, kc SG.out.2 z2, kc SG.out.2 z3, kc SG.out.2 z4, kc SG.out.2 z5, kc SG.out.2 z6, kc SG.out.1 z7, kc SG.out.1 z8⟩); clear b3 CN))
      all_goals
        go_wp2
        go_ret
        exact ⟨by rw [HR.out, ← HQZ.out]; rfl, B3.out⟩
theorem dat_grown {w W W4 : World} {u a b c : Value} {l : List Int} {x n q t s : Int} {g : Nat} {ty : TypeId} (hg : DAt W g a b c n q t s) (hn : NumR w W u l) (hgrow : (W.alloc (.cells #[.int .i64 x] ty)).grownBy W4 u.ownBlock) : DAt W4 g a b c n q t s := by
  have h1 : DAt (W.alloc (.cells #[.int .i64 x] ty)) g a b c n q t s := hg.below ((Below.refl _ _).alloc (Nat.le_refl _) _)
  refine (hgrow.block g h1.lt ?_).trans h1
  intro e
  obtain ⟨-, -, cs, hc⟩ := own_kind hn.2 g e.symm
  have h2 := (show W.heap[g]? = _ from hg).symm.trans hc
  injection h2 with h2
  injection h2 with _ h3
  exact absurd h3 (by decide)
set_option maxHeartbeats 2000000 in
set_option maxRecDepth 100000 in
theorem ideadBlocks : lawDbOC 15 := by
  intro x d lo hi w hd hh ho hv
  obtain ⟨i0, hi0, hz0, hz1, hz2⟩ := info_parts infoInt
  have HDV := hide hd
  have HHI := hide hh
  have HOD := hide ho
  have HVW := hide hv
  obtain ⟨fd, fc, va, vl, vc, ad, ln, cap, rfl⟩ := hd.form
  have bA : Below w.heap.size w (w.alloc (.cells #[.slice fd d.flash.length fc, .slice va vl vc, .slice ad ln cap, .int .i64 d.store.next, .int .i64 d.seq, .int .i64 d.tx, .int .i64 d.base] 47)) := (Below.refl _ _).alloc (Nat.le_refl _) _
  have gA : DAt (w.alloc (.cells #[.slice fd d.flash.length fc, .slice va vl vc, .slice ad ln cap, .int .i64 d.store.next, .int .i64 d.seq, .int .i64 d.tx, .int .i64 d.base] 47)) w.heap.size (.slice fd d.flash.length fc) (.slice va vl vc) (.slice ad ln cap) d.store.next d.seq d.tx d.base := heap_alloc_new _ _
  have N0 : Hid (NumR w (w.alloc (.cells #[.slice fd d.flash.length fc, .slice va vl vc, .slice ad ln cap, .int .i64 d.store.next, .int .i64 d.seq, .int .i64 d.tx, .int .i64 d.base] 47)) (.slice none 0 0) []) := ⟨bA, World.ownsRow_nil _ _ _ _⟩
  have G0 := hide gA
  have y0 := gA.cells.1
  have hsm : d.flash.length ≤ 1048576 := ho.fit.1.1
  obtain ⟨n, hn⟩ : ∃ n, d.flash.length = n := ⟨_, rfl⟩
  have HN := hide hn
  rw [hn] at N0 G0 y0 hsm HDV ⊢
  clear bA gA hd hh ho hv hn
  go_enter Tryz.func15, Tryz.ntmps15
  go_wp2
  go_loopw [3, 9] (fun ov bv wr => ∃ (b : Nat) (l : List Int), bv = .int .i64 b ∧ b ≤ n ∧ l.length ≤ b ∧ Hid (l = deadTo d b) ∧ Hid (NumR w wr ov l) ∧ Hid (DAt wr w.heap.size (.slice fd n fc) (.slice va vl vc) (.slice ad ln cap) d.store.next d.seq d.tx d.base)) (fun _ bv _ => n - (intOf bv).toNat)
  case atStart => exact ⟨0, [], rfl, Nat.zero_le _, Nat.zero_le _, rfl, N0, G0⟩
  case round =>
    obtain ⟨b, l, rfl, hb, hlen, HL, HNR, HG⟩ := hrel
    clear N0 G0 y0
    have hb0 : (0 : Int) ≤ b := by omega
    by_cases hlt : (b : Int) < n
    · obtain ⟨y, hy⟩ : ∃ y, d.flash[b]? = some y := ⟨_, List.getElem?_eq_getElem (by have := HN.out; omega)⟩
      have HDF := hide (deadF_is d hy)
      have CD := hide (iisDead _ d lo hi b y wr (Dvs.loc lo hi _ d w wr (fun g _ g2 => HNR.out.1.block g (by have := HHI.out; omega)) HDV.out) (Nat.le_trans HHI.out HNR.out.1.size) HOD.out (HVW.out.on HNR.out.1) hy)
      obtain ⟨r, hr⟩ : ∃ r, deadB d b y = r := ⟨_, rfl⟩
      rw [hr] at CD HDF
      obtain ⟨y0, y1, y2, y3, y4, y5, y6⟩ := HG.out.cells
      clear hy hr
      go_wp2_with fail
      refine CD.out.mono ?_
      rintro e w2 ⟨rfl, b2⟩
      have N2 := hide (HNR.out.below b2)
      have G2 := hide (HG.out.below b2)
      clear b2 CD HNR HG y0 y1 y2 y3 y4 y5 y6
      cases r with
      | false =>
        have NL : Hid (l = deadTo d (b + 1)) := by
          show _ = _
          rw [deadTo_succ, HDF.out]
          simpa using HL.out
        clear HDF HL
        go_wp2
        go_roundw
        case rel => exact ⟨b + 1, l, by go_num, by omega, by omega, NL, N2, G2⟩
        case measure => simp [intOf]; omega
      | true =>
        have NL : Hid (l ++ [(b : Int)] = deadTo d (b + 1)) := by
          show _ = _
          rw [deadTo_succ, HDF.out, ← HL.out]
          simp
        clear HDF HL
        go_wp2_with (at_builtin; refine wpList_append_own _ rfl _ _ 54 rfl w.heap.size 3 i0 (.int .i64 0) 1 8 Tryz.underlying54 hi0 hz0 hz1 hz2 rfl (by decide) _ l.length (icells l) rfl (N2.out.2.alloc _) ⟨w2.heap.size, 0, none⟩ 1 1 [Value.int .i64 _] rfl rfl (by exact one_cell _ _ _) (one_i64 _) ?g1 ?g2 ?g3 ?_)
        case g1 => unfold maxLen; omega
        case g2 => omega
        case g3 => have := N2.out.1.size; simp; omega
        intro v' w4 hown hgrow _
        have G4 : Hid (DAt w4 w.heap.size (.slice fd n fc) (.slice va vl vc) (.slice ad ln cap) d.store.next d.seq d.tx d.base) := dat_grown G2.out N2.out hgrow
        have NS := hide (N2.out.snoc hown hgrow)
        have NN : (l ++ [(b : Int)]).length = l.length + 1 := by simp
        generalize l ++ [(b : Int)] = l3 at NL NS NN
        clear hown hgrow N2 G2
        go_wp2
        go_roundw
        case rel => exact ⟨b + 1, l3, by go_num, by omega, by omega, NL, NS, G4⟩
        case measure => simp [intOf]; omega
    · have HE : Hid (deadP d = l) := by
        show _ = _
        rw [HL.out]
        show deadTo d d.flash.length = _
        congr 1
        have := HN.out
        omega
      clear HL
      go_wp2
      go_ret
      rw [HE.out]
      exact ⟨_, rfl, HNR.out.2, HNR.out.1⟩
end Go.Proofs.YtfmnaidhfgmemaaGreatDoor
