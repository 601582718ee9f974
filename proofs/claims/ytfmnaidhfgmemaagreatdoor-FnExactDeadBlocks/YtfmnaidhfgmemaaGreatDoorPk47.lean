/-
  FrS; SDo; SOpen; SFree; SPlace; CeSt; StRow; SPut16; Emp; SRecText; CePg; SReadRecs; TxRow; STxP; SWrite; SDead; DvM8; DvLen
-/
import Derived.Test.YtfmnaidhfgmemaaGreatDoorPk13
import Derived.Test.YtfmnaidhfgmemaaGreatDoorPk14
import Derived.Test.YtfmnaidhfgmemaaGreatDoorPk0
import Derived.Test.YtfmnaidhfgmemaaGreatDoorPk35
import Derived.Test.YtfmnaidhfgmemaaGreatDoorPk16
import Derived.BigQuiet
import Derived.Test.YtfmnaidhfgmemaaGreatDoorPk15
import Derived.Test.YtfmnaidhfgmemaaGreatDoorPk22
import Derived.Test.YtfmnaidhfgmemaaGreatDoorPk7
import Derived.Test.YtfmnaidhfgmemaaGreatDoorPk8
import Derived.Test.YtfmnaidhfgmemaaGreatDoorPk21
import Derived.Deep.RegionHeld3
import Derived.Maps.AppendAt
import Derived.Test.YtfmnaidhfgmemaaGreatDoorPk46
import Derived.Test.YtfmnaidhfgmemaaGreatDoorPk43
namespace Go.Proofs.YtfmnaidhfgmemaaGreatDoor
open Go.RowKit
end Go.Proofs.YtfmnaidhfgmemaaGreatDoor

namespace Go.Proofs.YtfmnaidhfgmemaaGreatDoor
open Go.RowKit
end Go.Proofs.YtfmnaidhfgmemaaGreatDoor

namespace Go.Proofs.YtfmnaidhfgmemaaGreatDoor
open Go.RowKit
end Go.Proofs.YtfmnaidhfgmemaaGreatDoor

namespace Go.Proofs.YtfmnaidhfgmemaaGreatDoor
open Go.RowKit
end Go.Proofs.YtfmnaidhfgmemaaGreatDoor

namespace Go.Proofs.YtfmnaidhfgmemaaGreatDoor
open Go.RowKit
end Go.Proofs.YtfmnaidhfgmemaaGreatDoor

namespace Go.Proofs.YtfmnaidhfgmemaaGreatDoor
open Go.RowKit
end Go.Proofs.YtfmnaidhfgmemaaGreatDoor

namespace Go.Proofs.YtfmnaidhfgmemaaGreatDoor
open Go.RowKit
end Go.Proofs.YtfmnaidhfgmemaaGreatDoor

namespace Go.Proofs.YtfmnaidhfgmemaaGreatDoor
open Go.RowKit
open Words Sums
end Go.Proofs.YtfmnaidhfgmemaaGreatDoor

namespace Go.Proofs.YtfmnaidhfgmemaaGreatDoor
open Go.RowKit
end Go.Proofs.YtfmnaidhfgmemaaGreatDoor

namespace Go.Proofs.YtfmnaidhfgmemaaGreatDoor
open Go.RowKit
open Words
end Go.Proofs.YtfmnaidhfgmemaaGreatDoor

namespace Go.Proofs.YtfmnaidhfgmemaaGreatDoor
open Go.RowKit
end Go.Proofs.YtfmnaidhfgmemaaGreatDoor

namespace Go.Proofs.YtfmnaidhfgmemaaGreatDoor
open Go.RowKit
open Words
end Go.Proofs.YtfmnaidhfgmemaaGreatDoor

namespace Go.Proofs.YtfmnaidhfgmemaaGreatDoor
open Go.RowKit
open Words
end Go.Proofs.YtfmnaidhfgmemaaGreatDoor

namespace Go.Proofs.YtfmnaidhfgmemaaGreatDoor
open Go.RowKit
open Words
end Go.Proofs.YtfmnaidhfgmemaaGreatDoor

namespace Go.Proofs.YtfmnaidhfgmemaaGreatDoor
open Go.RowKit
open Words Sums
theorem own_down16 {W : World} {B B' e s n : Nat} {v : Value} {xs : List Value} (h : W.ownsRow B e s v n xs) (hB : B' ≤ B) : W.ownsRow B' e s v n xs := by
  obtain ⟨h0, h⟩ := h
  refine ⟨h0, ?_⟩
  rcases h with h | ⟨g, cap, cur, e, h1, h2⟩
  · exact .inl h
  · exact .inr ⟨g, cap, cur, e, by omega, h2⟩
end Go.Proofs.YtfmnaidhfgmemaaGreatDoor

namespace Go.Proofs.YtfmnaidhfgmemaaGreatDoor
open Go.RowKit
open Words Sums
def deadF (d : Dv) (b : Nat) : Option Int := match d.flash[b]? with
  | none => none
  | some x => if !x.1 && !blankB x && decide (neededP (scanF d.flash) (liveS d.store) d.base (b : Int) = 0) then some (b : Int) else none
def deadTo (d : Dv) (k : Nat) : List Int := (List.range k).filterMap (deadF d)
theorem deadTo_succ (d : Dv) (k : Nat) : deadTo d (k + 1) = deadTo d k ++ (deadF d k).toList := by
  unfold deadTo
  rw [List.range_succ, List.filterMap_append]
  congr 1
def NumR (w W : World) (u : Value) (l : List Int) : Prop := Below w.heap.size w W ∧ W.ownsRow w.heap.size 3 1 u l.length (icells l)
theorem NumR.below {w W W' : World} {u : Value} {l : List Int} (h : NumR w W u l) (hb : Below W.heap.size W W') : NumR w W' u l := ⟨h.1.trans (hb.mono h.1.size), own_below h.2 hb⟩
theorem NumR.snoc {w W W2 : World} {u v' : Value} {l : List Int} {x : Int} {t : TypeId} (h : NumR w W u l) (ho : W2.ownsRow w.heap.size 3 1 v' (l.length + 1) (icells l ++ [.int .i64 x])) (hg : (W.alloc (.cells #[.int .i64 x] t)).grownBy W2 u.ownBlock) : NumR w W2 v' (l ++ [x]) := by
  have hz := h.below ((Below.refl _ _).alloc (Nat.le_refl _) (.cells #[.int .i64 x] t))
  refine ⟨hz.1.grown hg hz.1.size (fun k hk => (h.2.lt k hk).1), ?_⟩
  rw [List.length_append, ← icells_snoc]
  exact ho
theorem NumR.fresh (w : World) : NumR w (w.alloc (.cells #[] 3)) (.slice (some ⟨w.heap.size, 0, none⟩) 0 0) [] :=
  ⟨(Below.refl _ _).alloc (Nat.le_refl _) _, rfl, .inr ⟨w.heap.size, 0, #[], rfl, Nat.le_refl _, heap_alloc_new w _, Nat.le_refl _, by unfold maxLen; omega, rfl, rfl⟩⟩
set_option maxHeartbeats 2000000 in
set_option maxRecDepth 100000 in
theorem sdead (x : Value) (d : Dv) (w : World) (h : DvIn w x d) : Calls Tryz.prog 14 #[x] w (IOut w (deadP d)) := by
  obtain ⟨i0, hi0, hz0, hz1, hz2⟩ := info_parts infoInt
  obtain ⟨fd, fc, va, vl, vc, ad, ln, cap, rfl, h1, h2, h3⟩ := h.form
  have bA : Below w.heap.size w (w.alloc (.cells #[.slice fd d.flash.length fc, .slice va vl vc, .slice ad ln cap, .int .i64 d.store.next, .int .i64 d.seq, .int .i64 d.tx, .int .i64 d.base] 47)) := (Below.refl _ _).alloc (Nat.le_refl _) _
  have gA : DAt (w.alloc (.cells #[.slice fd d.flash.length fc, .slice va vl vc, .slice ad ln cap, .int .i64 d.store.next, .int .i64 d.seq, .int .i64 d.tx, .int .i64 d.base] 47)) w.heap.size (.slice fd d.flash.length fc) (.slice va vl vc) (.slice ad ln cap) d.store.next d.seq d.tx d.base := heap_alloc_new _ _
  generalize hwa : w.alloc (.cells #[.slice fd d.flash.length fc, .slice va vl vc, .slice ad ln cap, .int .i64 d.store.next, .int .i64 d.seq, .int .i64 d.tx, .int .i64 d.base] 47) = wa at bA gA
  obtain ⟨rs, e1, i1, l1, ll1, tb1⟩ := (h1.below bA).lens h2
  have CS := hide (sscanO (.slice fd d.flash.length fc) rs wa l1 ll1 tb1 i1)
  rw [e1] at CS
  unfold ScOut at CS
  have hfit := h3.fit
  have hlb := live_bound d.store
  have HLB : Hid ((liveS d.store).length ≤ 16 * 1048576) := by have := hfit.1; show _ ≤ _; omega
  have HDP : Hid (deadP d = deadTo d d.flash.length) := rfl
  have HDF : Hid (∀ (k : Nat) (y : Bk), d.flash[k]? = some y → deadF d k = if !y.1 && !blankB y && decide (onS (scanF d.flash) (rowS (scanF d.flash) (liveS d.store) d.base) (k : Int) = 0) then some (k : Int) else none) := fun k y hy => by unfold deadF; rw [hy]; rfl
  obtain ⟨R, hR⟩ : ∃ R, deadP d = R := ⟨_, rfl⟩
  rw [hR] at HDP ⊢
  obtain ⟨M, hM⟩ : ∃ M, scanF d.flash = M := ⟨_, rfl⟩
  rw [hM] at CS HDF
  have HS := hide (h3.below bA)
  have HF := hide i1
  have HE1 := hide e1
  have HLL := hide ll1
  have HNL : Hid (rs.length = d.flash.length) := by show _ = _; rw [← e1, List.length_map]
  have hsm : d.flash.length ≤ 1048576 := h2.1
  have HB := hide bA
  have HG := hide gA
  have y0 := gA.cells.1
  clear h1 h2 h3 h e1 i1 l1 ll1 tb1 hM hR bA gA hfit hlb
  go_enter Tryz.func14, Tryz.ntmps14
  go_wp2_with fail
  clear hwa
  refine CS.out.mono ?_
  rintro e w1 ⟨la, lc, rfl, f1, f2, f3⟩
  have b7 : Below w1.heap.size w1 w1.drew := (Below.refl _ _).drew
  have f4 := f3.trans (b7.mono f3.size)
  have HR := hide (f1.below b7)
  have HML := hide f2
  have G1 := hide (HG.out.below f4)
  have S1 := hide (HS.out.below f4)
  have B1 := hide (HB.out.trans (f4.mono HB.out.size))
  have F1 := hide (HF.out.below f4)
  have SD : w1.drew.cell? ⟨w.heap.size, 1, none⟩ = some (.slice va vl vc) ∧ w1.drew.cell? ⟨w.heap.size, 2, none⟩ = some (.slice ad ln cap) ∧ w1.drew.cell? ⟨w.heap.size, 3, none⟩ = some (.int .i64 d.store.next) ∧ w1.drew.cell? ⟨w.heap.size, 6, none⟩ = some (.int .i64 d.base) := ⟨G1.out.cells.2.1, G1.out.cells.2.2.1, G1.out.cells.2.2.2.1, G1.out.cells.2.2.2.2.2.2⟩
  clear CS f1 f2 f3 f4 b7 HG HS HB HF y0
  go_wp2_with fail
  go_region_held3 (fun w' => w'.cell? ⟨w.heap.size, 1, none⟩ = some (.slice va vl vc) ∧ w'.cell? ⟨w.heap.size, 2, none⟩ = some (.slice ad ln cap) ∧ w'.cell? ⟨w.heap.size, 3, none⟩ = some (.int .i64 d.store.next) ∧ w'.cell? ⟨w.heap.size, 6, none⟩ = some (.int .i64 d.base)) (first | (with_reducible exact SD) | (with_reducible exact SE) | (with_reducible exact SF) | go_keep) (first
    | (go_at_call 35; refine (sliveOf _ d.store _ S1.out).mono ?_; rintro e w2 ⟨lv, rfl, ho, b2⟩; obtain ⟨ia, ic, rfl, hir, -, -⟩ := IHas.of ho (by have := HLB.out; unfold maxLen; omega) b2; have G2 := hide (G1.out.below b2); have B2 := hide (B1.out.trans (b2.mono B1.out.size)); have F2 := hide (F1.out.below b2); have HR2 := hide (HR.out.below b2); have SE : w2.cell? ⟨w.heap.size, 1, none⟩ = some (.slice va vl vc) ∧ w2.cell? ⟨w.heap.size, 2, none⟩ = some (.slice ad ln cap) ∧ w2.cell? ⟨w.heap.size, 3, none⟩ = some (.int .i64 d.store.next) ∧ w2.cell? ⟨w.heap.size, 6, none⟩ = some (.int .i64 d.base) := ⟨G2.out.cells.2.1, G2.out.cells.2.2.1, G2.out.cells.2.2.2.1, G2.out.cells.2.2.2.2.2.2⟩; have CN := hide (sneeded la M.length lc M ia (liveS d.store).length ic (liveS d.store) d.base w2 HML.out (by have := HLB.out; omega) HR2.out hir); clear ho hir b2)
    | (go_at_call 34; refine CN.out.mono ?_; rintro e w3 ⟨g, rfl, g1, g2, g3, g4⟩; have G3 := hide (G2.out.below g4); have B3 := hide (B2.out.trans (g4.mono B2.out.size)); have F3 := hide (F2.out.below g4); have HR3 := hide (HR2.out.below g4); have HNR := hide g3; have SF : w3.cell? ⟨w.heap.size, 1, none⟩ = some (.slice va vl vc) ∧ w3.cell? ⟨w.heap.size, 2, none⟩ = some (.slice ad ln cap) ∧ w3.cell? ⟨w.heap.size, 3, none⟩ = some (.int .i64 d.store.next) ∧ w3.cell? ⟨w.heap.size, 6, none⟩ = some (.int .i64 d.base) := ⟨G3.out.cells.2.1, G3.out.cells.2.2.1, G3.out.cells.2.2.2.1, G3.out.cells.2.2.2.2.2.2⟩; clear g1 g2 g3 g4))
  all_goals
    clear SD SE SF CN G1 G2 S1 B1 B2 F1 F2 HR HR2
    have N0 := hide (NumR.fresh w3)
    go_wp2
    go_loopw [5, 6] (fun ov bv wr => ∃ (b : Nat) (l : List Int) (u : Value), ov = u ∧ bv = .int .i64 b ∧ b ≤ d.flash.length ∧ l.length ≤ b ∧ Hid (l = deadTo d b) ∧ Hid (NumR w3 wr u l)) (fun _ bv _ => d.flash.length - (intOf bv).toNat)
    case atStart => exact ⟨0, [], _, rfl, rfl, Nat.zero_le _, Nat.zero_le _, rfl, N0⟩
    case round =>
      rename World => wr
      obtain ⟨b, l, ov, rfl, rfl, hb, hlen, HL, HN⟩ := hrel
      clear N0
      have y0 := (G3.out.below HN.out.1).cells.1
      have hb0 : (0 : Int) ≤ b := by omega
      by_cases hlt : (b : Int) < d.flash.length
      · obtain ⟨r, hr⟩ : ∃ r, rs[b]? = some r := ⟨_, List.getElem?_eq_getElem (by have := HNL.out; omega)⟩
        have hrt : d.flash[b]? = some (tellOf r) := by rw [← HE1.out, List.getElem?_map, hr]; rfl
        obtain ⟨gv, e, ⟨c1, c2, c3⟩, hlf⟩ := (F3.out.below HN.out.1).at hr
        subst e
        have hml := HLL.out r (List.mem_of_getElem? hr)
        obtain ⟨x, y, u, ls⟩ := r
        have HDS : Hid (deadF d b = if (!x && !blankB (x, y, ls) && decide (onS M (rowS M (liveS d.store) d.base) (b : Int) = 0)) = true then some (b : Int) else none) := HDF.out b (x, y, ls) hrt
        simp only at c1 c2 c3 hlf hml
        have hlf2 := hlf
        obtain ⟨ld, lcp, rfl, -, -⟩ := hlf2
        have bX : Below wr.heap.size wr (wr.alloc (.cells #[.bool x, .int .i64 y, .slice ld ls.length lcp] 80)) := (Below.refl _ _).alloc (Nat.le_refl _) _
        have hX := heap_alloc_new wr (.cells #[.bool x, .int .i64 y, .slice ld ls.length lcp] 80)
        have x0 := cell_of_row _ _ 0 _ _ _ hX
        have x1 := cell_of_row _ _ 1 _ _ _ hX
        have x2 := cell_of_row _ _ 2 _ _ _ hX
        simp only [List.getElem?_toArray, List.getElem?_cons_zero, List.getElem?_cons_succ] at x0 x1 x2
        clear hX
        generalize hwx : wr.alloc (.cells #[.bool x, .int .i64 y, .slice ld ls.length lcp] 80) = wx at bX x0 x1 x2
        have NX := hide (HN.out.below bX)
        have CB := hide (sblank17 x y _ ls wx hml (hlf.below bX))
        obtain ⟨z, hz⟩ : ∃ z, blankB (x, y, ls) = z := ⟨_, rfl⟩
        rw [hz] at CB HDS
        clear hr hrt hlf hml hz bX HN
        cases x with
        | true =>
          have NL : Hid (l = deadTo d (b + 1)) := by
            show _ = _
            rw [deadTo_succ, HDS.out]
            simpa using HL.out
          clear HDS HL CB
          go_wp2
          go_roundw
          case rel => exact ⟨b + 1, l, _, rfl, by go_num, by omega, by omega, NL, NX⟩
          case measure => simp [intOf]; omega
        | false =>
          go_wp2_with fail
          clear hwx
          refine CB.out.mono ?_
          rintro e w5 ⟨rfl, b5⟩
          have N5 := hide (NX.out.below b5)
          clear CB NX b5 x0 x1 x2 c1 c2 c3 y0
          cases z with
          | true =>
            have NL : Hid (l = deadTo d (b + 1)) := by
              show _ = _
              rw [deadTo_succ, HDS.out]
              simpa using HL.out
            clear HDS HL
            go_wp2
            go_roundw
            case rel => exact ⟨b + 1, l, _, rfl, by go_num, by omega, by omega, NL, N5⟩
            case measure => simp [intOf]; omega
          | false =>
            have CO := hide (son la M.length lc M g M.length M.length (rowS M (liveS d.store) d.base) b w5 HML.out (rowS_len _ _ _) rfl (HR3.out.below N5.out.1) (HNR.out.below N5.out.1))
            obtain ⟨q, hq⟩ : ∃ q, onS M (rowS M (liveS d.store) d.base) (b : Int) = q := ⟨_, rfl⟩
            rw [hq] at CO HDS
            clear hq
            go_wp2_with fail
            refine CO.out.mono ?_
            rintro e w6 ⟨rfl, rfl⟩
            by_cases hq0 : q = 0
            · have NL : Hid (l ++ [(b : Int)] = deadTo d (b + 1)) := by
                show _ = _
                rw [deadTo_succ, HDS.out, hq0, ← HL.out]
                simp
              have hqb : ((q : Int) == 0) = true := by simp [hq0]
              clear HDS HL CO hq0
              go_wp2_with (at_builtin; refine wpList_append_own _ rfl _ _ 54 rfl w3.heap.size 3 i0 (.int .i64 0) 1 8 Tryz.underlying54 hi0 hz0 hz1 hz2 rfl (by decide) _ l.length (icells l) rfl (N5.out.2.alloc _) ⟨w6.heap.size, 0, none⟩ 1 1 [Value.int .i64 _] rfl rfl (by exact one_cell _ _ _) (one_i64 _) ?g1 ?g2 ?g3 ?_)
              case g1 => unfold maxLen; omega
              case g2 => omega
              case g3 => have := N5.out.1.size; simp; omega
              intro v' w7 hown hgrow _
              have NS := hide (N5.out.snoc hown hgrow)
              have NN : (l ++ [(b : Int)]).length = l.length + 1 := by simp
              generalize l ++ [(b : Int)] = l3 at NL NS NN
              clear hown hgrow N5
              go_wp2
              go_roundw
              case rel => exact ⟨b + 1, l3, _, rfl, by go_num, by omega, by omega, NL, NS⟩
              case measure => simp [intOf]; omega
            · have NL : Hid (l = deadTo d (b + 1)) := by
                show _ = _
                rw [deadTo_succ, HDS.out, decide_eq_false hq0]
                simpa using HL.out
              have hqb : ((q : Int) == 0) = false := by rw [beq_eq_false_iff_ne]; omega
              clear HDS HL CO hq0
              go_wp2
              go_roundw
              case rel => exact ⟨b + 1, l, _, rfl, by go_num, by omega, by omega, NL, N5⟩
              case measure => simp [intOf]; omega
      · have HE : Hid (R = l) := by
          show _ = _
          rw [HDP.out, HL.out]
          congr 1
          omega
        clear HDP HL
        go_wp2
        go_ret
        rw [HE.out]
        exact ⟨_, rfl, own_down16 HN.out.2 B3.out.size, B3.out.trans (HN.out.1.mono B3.out.size)⟩
end Go.Proofs.YtfmnaidhfgmemaaGreatDoor

namespace Go.Proofs.YtfmnaidhfgmemaaGreatDoor
open Words Sums Pack
end Go.Proofs.YtfmnaidhfgmemaaGreatDoor

namespace Go.Proofs.YtfmnaidhfgmemaaGreatDoor
open Words Sums Pack
theorem endK_len (bs : List Bk) : bs.length * 2 + 1 ≤ endK 1 bs := by
  have go : ∀ (bs : List Bk) (k : Nat), bs.length * 2 + k ≤ endK k bs := by
    intro bs
    induction bs with
    | nil => intro k; simp [endK]
    | cons r bs ih => intro k; have := ih (k + 2 + 2 * r.2.2.length); simp only [endK, List.length_cons]; omega
  exact go bs 1
theorem dead_len (d : Dv) : (deadP d).length ≤ d.flash.length := by
  unfold deadP
  refine Nat.le_trans (List.length_filterMap_le _ _) ?_
  simp
end Go.Proofs.YtfmnaidhfgmemaaGreatDoor
