import Derived.Test.YtfmnaidhfgmemaaGreatDoorPk35
import Derived.Test.YtfmnaidhfgmemaaGreatDoorPk40
import Derived.Test.YtfmnaidhfgmemaaGreatDoorPk43
namespace Go.Proofs.YtfmnaidhfgmemaaGreatDoor
open Go.RowKit
open Words
def Dvs (lo hi : Nat) (v : Value) (d : Dv) : World → Prop := fun W =>
  ∃ fv vv kv lo1 hi1 lo2 hi2, v = .agg #[fv, vv, kv, .int .i64 d.store.next, .int .i64 d.seq, .int .i64 d.tx, .int .i64 d.base] ∧ Fla lo1 hi1 fv d.flash W ∧ Sts lo2 hi2 (.agg #[vv, kv, .int .i64 d.store.next]) d.store W ∧ lo ≤ lo1 ∧ hi1 ≤ hi ∧ lo ≤ lo2 ∧ hi2 ≤ hi ∧ (hi1 ≤ lo2 ∨ hi2 ≤ lo1)
theorem Dvs.loc (lo hi : Nat) (v : Value) (d : Dv) : Loc lo hi (Dvs lo hi v d) := by
  rintro w w' hk ⟨fv, vv, kv, lo1, hi1, lo2, hi2, e, h1, h2, h3, h4, h5, h6, h7⟩
  exact ⟨fv, vv, kv, lo1, hi1, lo2, hi2, e, Fla.loc _ _ _ _ w w' (fun g g1 g2 => hk g (by omega) (by omega)) h1, Sts.loc _ _ _ _ w w' (fun g g1 g2 => hk g (by omega) (by omega)) h2, h3, h4, h5, h6, h7⟩
def OkD (d : Dv) : Prop := Okk d.flash ∧ OkS d.store ∧ TxK d.flash
theorem OkD.fit {d : Dv} (h : OkD d) : d.Fit := ⟨⟨h.1.1, fun r hr => ⟨h.1.2.1 r hr, h.2.2 r hr⟩⟩, h.2.1.fit⟩
theorem Dvs.rd {lo hi : Nat} {v : Value} {d : Dv} {W : World} (h : Dvs lo hi v d W) (hh : hi ≤ W.heap.size) (hf : d.Fit) : DvIn W v d := by
  obtain ⟨fv, vv, kv, lo1, hi1, lo2, hi2, e, h1, h2, h3, h4, h5, h6, h7⟩ := h
  exact ⟨fv, vv, kv, e, h1.rdb, hf.1, h2.rd hf.2 (by omega)⟩
theorem Dvs.form {lo hi : Nat} {v : Value} {d : Dv} {W : World} (h : Dvs lo hi v d W) : ∃ fd fc va vl vc ad len cap, v = .agg #[.slice fd d.flash.length fc, .slice va vl vc, .slice ad len cap, .int .i64 d.store.next, .int .i64 d.seq, .int .i64 d.tx, .int .i64 d.base] := by
  obtain ⟨fv, vv, kv, lo1, hi1, lo2, hi2, e, h1, h2, -⟩ := h
  obtain ⟨fd, fc, rfl, -⟩ := h1.form
  obtain ⟨va, vc, ad, cap, e2⟩ := h2.form
  injection e2 with e2
  injection e2 with e2
  simp only [List.cons.injEq, and_true] at e2
  obtain ⟨rfl, rfl⟩ := e2
  exact ⟨_, _, _, _, _, _, _, _, e⟩
def OkA (rs : List Rw) (vl len : Nat) (vs : List (Int × Int)) (kr : List Kw) (nx : Int) : Prop := rs.length ≤ 1048576 ∧ (∀ q ∈ rs, q.2.2.2.length ≤ 1048576) ∧ Okk (rs.map tellOf) ∧ TxB rs ∧ vl ≤ 1048576 ∧ len ≤ 1048576 ∧ (∀ r ∈ kr, r.2.2.length ≤ 1048576) ∧ OkS ⟨vs, kr.map ktell, nx⟩ ∧ endK 1 (rs.map tellOf) ≤ 10000000 ∧ kkids (kr.map ktell) ≤ 1048576
theorem OkA.okd {rs : List Rw} {vl len : Nat} {vs : List (Int × Int)} {kr : List Kw} {nx sq tx bs : Int} (h : OkA rs vl len vs kr nx) : OkD ⟨rs.map tellOf, ⟨vs, kr.map ktell, nx⟩, sq, tx, bs⟩ := ⟨h.2.2.1, h.2.2.2.2.2.2.2.1, tx_tell h.2.2.2.1⟩
theorem DAt.flT {W : World} {g : Nat} {a b c : Value} {n q t s : Int} (h : DAt W g a b c n q t s) (x : Value) : DAt (W.setCell ⟨g, 0, none⟩ x) g x b c n q t s := heap_setCell_same _ _ 0 _ _ _ h
set_option maxHeartbeats 1000000 in
set_option maxRecDepth 100000 in
theorem szd_any (fa : Option Addr) (n fc : Nat) (rs : List Rw) (va : Option Addr) (vl vc : Nat) (vs : List (Int × Int)) (ad : Option Addr) (len cap : Nat) (kr : List Kw) (nx sq tx bs : Int) (z0 : Nat) (w : World) (hz0 : z0 ≤ 1048576) (hb : BkRow w fa n rs) (hv : VlRow w va vl vs) (hk : KnRd w ad len kr) :
    Calls Tryz.prog 5 #[.agg #[.slice fa n fc, .slice va vl vc, .slice ad len cap, .int .i64 nx, .int .i64 sq, .int .i64 tx, .int .i64 bs], .int .i64 z0] w fun e w' => (∃ r : Int, e = .returned (.int .i64 r) ∧ -1 ≤ r ∧ r ≤ z0 ∧ (0 ≤ r → OkA rs vl len vs kr nx)) ∧ Below w.heap.size w w' := by
  have bA : Below w.heap.size w (w.alloc (.cells #[.slice fa n fc, .slice va vl vc, .slice ad len cap, .int .i64 nx, .int .i64 sq, .int .i64 tx, .int .i64 bs] 32)) := (Below.refl _ _).alloc (Nat.le_refl _) _
  have hA := heap_alloc_new w (.cells #[.slice fa n fc, .slice va vl vc, .slice ad len cap, .int .i64 nx, .int .i64 sq, .int .i64 tx, .int .i64 bs] 32)
  have c0 : (w.alloc (.cells #[.slice fa n fc, .slice va vl vc, .slice ad len cap, .int .i64 nx, .int .i64 sq, .int .i64 tx, .int .i64 bs] 32)).cell? ⟨w.heap.size, 0, none⟩ = some (.slice fa n fc) := cell_of_row _ _ 0 _ _ _ hA
  have c1 : (w.alloc (.cells #[.slice fa n fc, .slice va vl vc, .slice ad len cap, .int .i64 nx, .int .i64 sq, .int .i64 tx, .int .i64 bs] 32)).cell? ⟨w.heap.size, 1, none⟩ = some (.slice va vl vc) := cell_of_row _ _ 1 _ _ _ hA
  have c2 : (w.alloc (.cells #[.slice fa n fc, .slice va vl vc, .slice ad len cap, .int .i64 nx, .int .i64 sq, .int .i64 tx, .int .i64 bs] 32)).cell? ⟨w.heap.size, 2, none⟩ = some (.slice ad len cap) := cell_of_row _ _ 2 _ _ _ hA
  have c3 : (w.alloc (.cells #[.slice fa n fc, .slice va vl vc, .slice ad len cap, .int .i64 nx, .int .i64 sq, .int .i64 tx, .int .i64 bs] 32)).cell? ⟨w.heap.size, 3, none⟩ = some (.int .i64 nx) := cell_of_row _ _ 3 _ _ _ hA
  have CS := hide (szFlash_any fa n fc rs z0 (w.alloc (.cells #[.slice fa n fc, .slice va vl vc, .slice ad len cap, .int .i64 nx, .int .i64 sq, .int .i64 tx, .int .i64 bs] 32)) hz0 (hb.below bA))
  have HK := hide hk
  have HV := hide hv
  have HBR := hide hb
  have BA := hide bA
  clear hA hb hv hk bA
  go_enter Tryz.func5, Tryz.ntmps5
  go_wp2_with fail
  generalize (w.alloc (.cells #[.slice fa n fc, .slice va vl vc, .slice ad len cap, .int .i64 nx, .int .i64 sq, .int .i64 tx, .int .i64 bs] 32)) = wa at c0 c1 c2 c3 CS BA ⊢
  refine CS.out.mono ?_
  rintro e w1 ⟨⟨r, rfl, r1, r2, r3⟩, b1⟩
  have B1 := hide (BA.out.trans (b1.mono BA.out.size))
  have k1 := (b1.cell (World.block_lt_of_cell? wa _ c1)).trans c1
  have k2 := (b1.cell (World.block_lt_of_cell? wa _ c2)).trans c2
  have k3 := (b1.cell (World.block_lt_of_cell? wa _ c3)).trans c3
  clear CS BA b1 c0 c1 c2 c3
  by_cases hr : r < 0
  · clear r2 r3
    go_wp2
    go_ret
    exact ⟨⟨-1, rfl, by omega, by omega, fun h => by omega⟩, B1.out⟩
  · have h2 := r2 (by omega)
    have h3 := hide (r3 (by omega))
    have HEB : Hid (endK 1 (rs.map tellOf) ≤ 10000000) := by show _ ≤ _; rw [endK_tell]; omega
    have hm := meas (show (0 : Int) ≤ r by omega) (show 2 * r + (endB 1 rs : Nat) ≤ 2 * (1048576 : Nat) + 1 by omega)
    have HME := hide hm
    have hrz : r ≤ z0 := by have := endB_len 1 rs; omega
    obtain ⟨q, rfl⟩ : ∃ q : Nat, r = q := ⟨r.toNat, by omega⟩
    have CK := hide (szSto_any va vl vc ad len cap nx kr q w1 (by omega) HV.out.2.1 (HK.out.below B1.out))
    clear r1 r2 r3 h2 hm
    go_wp2_with fail
    refine CK.out.mono ?_
    rintro e w2 ⟨⟨y, rfl, y1, y2, y3⟩, b2⟩
    have B2 := hide (B1.out.trans (b2.mono B1.out.size))
    have HY := hide y3
    clear CK b2 k1 k2 k3 y3
    by_cases hy : y < 0
    · go_wp2
      go_ret
      exact ⟨⟨-1, rfl, by omega, by omega, fun h => by omega⟩, B2.out⟩
    · have HOK : Hid (OkA rs vl len vs kr nx) := by
        have z3 := HY.out (by omega)
        have e1 := HV.out.1
        have e2 := HK.out.1
        have e3 := ksum_kids kr
        exact ⟨HME.out.1, HME.out.2.1, HME.out.2.2, h3.out, by omega, by omega, fun r hr2 => by have := ksum_mem hr2; omega, OkS.of (show vs.length ≤ _ by omega) (by show (kr.map ktell).length ≤ _; rw [List.length_map]; omega) (show kkids (kr.map ktell) ≤ _ by omega), HEB.out, (show kkids (kr.map ktell) ≤ _ by omega)⟩
      clear HY
      go_wp2
      go_ret
      exact ⟨⟨y, rfl, by omega, by omega, fun _ => HOK.out⟩, B2.out⟩
set_option maxHeartbeats 2000000 in
set_option maxRecDepth 100000 in
theorem tod_any (fa : Option Addr) (n fc : Nat) (rs : List Rw) (va : Option Addr) (vl vc : Nat) (vs : List (Int × Int)) (ad : Option Addr) (len cap : Nat) (kr : List Kw) (nx sq tx bs : Int) (w : World) (ho : OkA rs vl len vs kr nx) (hn : n ≤ 1048576) (hb : BkRow w fa n rs) (hv : VlRow w va vl vs) (hk : KnRd w ad len kr) :
    Calls Tryz.prog 7 #[.agg #[.slice fa n fc, .slice va vl vc, .slice ad len cap, .int .i64 nx, .int .i64 sq, .int .i64 tx, .int .i64 bs]] w fun e w' => ∃ v, e = .returned v ∧ Dvs w.heap.size w'.heap.size v ⟨rs.map tellOf, ⟨vs, kr.map ktell, nx⟩, sq, tx, bs⟩ w' ∧ Below w.heap.size w w' := by
  have s0 : (w.alloc (.cells #[.slice fa n fc, .slice va vl vc, .slice ad len cap, .int .i64 nx, .int .i64 sq, .int .i64 tx, .int .i64 bs] 32)).heap.size = w.heap.size + 1 := by simp
  have s1 : ((w.alloc (.cells #[.slice fa n fc, .slice va vl vc, .slice ad len cap, .int .i64 nx, .int .i64 sq, .int .i64 tx, .int .i64 bs] 32)).alloc (.cells #[.slice none 0 0, .slice none 0 0, .slice none 0 0, .int .i64 0, .int .i64 0, .int .i64 0, .int .i64 0] 47)).heap.size = w.heap.size + 1 + 1 := by simp
  have s2 : (((w.alloc (.cells #[.slice fa n fc, .slice va vl vc, .slice ad len cap, .int .i64 nx, .int .i64 sq, .int .i64 tx, .int .i64 bs] 32)).alloc (.cells #[.slice none 0 0, .slice none 0 0, .slice none 0 0, .int .i64 0, .int .i64 0, .int .i64 0, .int .i64 0] 47)).alloc (.cells #[.slice none 0 0, .slice none 0 0, .slice none 0 0, .int .i64 0, .int .i64 0, .int .i64 0, .int .i64 0] 47)).heap.size = w.heap.size + 1 + 1 + 1 := by simp
  have b0 : Below w.heap.size w (w.alloc (.cells #[.slice fa n fc, .slice va vl vc, .slice ad len cap, .int .i64 nx, .int .i64 sq, .int .i64 tx, .int .i64 bs] 32)) := (Below.refl _ _).alloc (Nat.le_refl _) _
  have b1 : Below (w.alloc (.cells #[.slice fa n fc, .slice va vl vc, .slice ad len cap, .int .i64 nx, .int .i64 sq, .int .i64 tx, .int .i64 bs] 32)).heap.size (w.alloc (.cells #[.slice fa n fc, .slice va vl vc, .slice ad len cap, .int .i64 nx, .int .i64 sq, .int .i64 tx, .int .i64 bs] 32)) ((w.alloc (.cells #[.slice fa n fc, .slice va vl vc, .slice ad len cap, .int .i64 nx, .int .i64 sq, .int .i64 tx, .int .i64 bs] 32)).alloc (.cells #[.slice none 0 0, .slice none 0 0, .slice none 0 0, .int .i64 0, .int .i64 0, .int .i64 0, .int .i64 0] 47)) := (Below.refl _ _).alloc (Nat.le_refl _) _
  have b2 : Below ((w.alloc (.cells #[.slice fa n fc, .slice va vl vc, .slice ad len cap, .int .i64 nx, .int .i64 sq, .int .i64 tx, .int .i64 bs] 32)).alloc (.cells #[.slice none 0 0, .slice none 0 0, .slice none 0 0, .int .i64 0, .int .i64 0, .int .i64 0, .int .i64 0] 47)).heap.size ((w.alloc (.cells #[.slice fa n fc, .slice va vl vc, .slice ad len cap, .int .i64 nx, .int .i64 sq, .int .i64 tx, .int .i64 bs] 32)).alloc (.cells #[.slice none 0 0, .slice none 0 0, .slice none 0 0, .int .i64 0, .int .i64 0, .int .i64 0, .int .i64 0] 47)) (((w.alloc (.cells #[.slice fa n fc, .slice va vl vc, .slice ad len cap, .int .i64 nx, .int .i64 sq, .int .i64 tx, .int .i64 bs] 32)).alloc (.cells #[.slice none 0 0, .slice none 0 0, .slice none 0 0, .int .i64 0, .int .i64 0, .int .i64 0, .int .i64 0] 47)).alloc (.cells #[.slice none 0 0, .slice none 0 0, .slice none 0 0, .int .i64 0, .int .i64 0, .int .i64 0, .int .i64 0] 47)) := (Below.refl _ _).alloc (Nat.le_refl _) _
  have g0 : (w.alloc (.cells #[.slice fa n fc, .slice va vl vc, .slice ad len cap, .int .i64 nx, .int .i64 sq, .int .i64 tx, .int .i64 bs] 32)).heap[w.heap.size]? = some (.cells #[.slice fa n fc, .slice va vl vc, .slice ad len cap, .int .i64 nx, .int .i64 sq, .int .i64 tx, .int .i64 bs] 32 (0, 0)) := heap_alloc_new _ _
  have gA : (((w.alloc (.cells #[.slice fa n fc, .slice va vl vc, .slice ad len cap, .int .i64 nx, .int .i64 sq, .int .i64 tx, .int .i64 bs] 32)).alloc (.cells #[.slice none 0 0, .slice none 0 0, .slice none 0 0, .int .i64 0, .int .i64 0, .int .i64 0, .int .i64 0] 47)).alloc (.cells #[.slice none 0 0, .slice none 0 0, .slice none 0 0, .int .i64 0, .int .i64 0, .int .i64 0, .int .i64 0] 47)).heap[w.heap.size]? = some (.cells #[.slice fa n fc, .slice va vl vc, .slice ad len cap, .int .i64 nx, .int .i64 sq, .int .i64 tx, .int .i64 bs] 32 (0, 0)) := (b2.block _ (by omega)).trans ((b1.block _ (by omega)).trans g0)
  have z1 : DAt ((w.alloc (.cells #[.slice fa n fc, .slice va vl vc, .slice ad len cap, .int .i64 nx, .int .i64 sq, .int .i64 tx, .int .i64 bs] 32)).alloc (.cells #[.slice none 0 0, .slice none 0 0, .slice none 0 0, .int .i64 0, .int .i64 0, .int .i64 0, .int .i64 0] 47)) (w.heap.size + 1) (.slice none 0 0) (.slice none 0 0) (.slice none 0 0) 0 0 0 0 := by
    rw [← s0]
    exact heap_alloc_new _ _
  have zA := z1.below b2
  have oA : DAt (((w.alloc (.cells #[.slice fa n fc, .slice va vl vc, .slice ad len cap, .int .i64 nx, .int .i64 sq, .int .i64 tx, .int .i64 bs] 32)).alloc (.cells #[.slice none 0 0, .slice none 0 0, .slice none 0 0, .int .i64 0, .int .i64 0, .int .i64 0, .int .i64 0] 47)).alloc (.cells #[.slice none 0 0, .slice none 0 0, .slice none 0 0, .int .i64 0, .int .i64 0, .int .i64 0, .int .i64 0] 47)) (w.heap.size + 1 + 1) (.slice none 0 0) (.slice none 0 0) (.slice none 0 0) 0 0 0 0 := by
    rw [← s1]
    exact heap_alloc_new _ _
  have c2 := b0.trans (b1.mono b0.size)
  have bA := c2.trans (b2.mono c2.size)
  generalize hwa : (((w.alloc (.cells #[.slice fa n fc, .slice va vl vc, .slice ad len cap, .int .i64 nx, .int .i64 sq, .int .i64 tx, .int .i64 bs] 32)).alloc (.cells #[.slice none 0 0, .slice none 0 0, .slice none 0 0, .int .i64 0, .int .i64 0, .int .i64 0, .int .i64 0] 47)).alloc (.cells #[.slice none 0 0, .slice none 0 0, .slice none 0 0, .int .i64 0, .int .i64 0, .int .i64 0, .int .i64 0] 47)) = wa at gA zA oA bA s2
  have CF := hide (toFlash_any fa n fc rs wa hn ho.2.1 (hb.below bA))
  have HV := hide hv
  have HK := hide hk
  have HO := hide ho
  have BA := hide bA
  have GA := hide gA
  have ZA := hide zA
  have OA := hide oA
  have SA := hide s2
  have y0 : wa.cell? ⟨w.heap.size, 0, none⟩ = some (.slice fa n fc) := cell_of_row _ _ 0 _ _ _ gA
  clear s0 s1 s2 b0 b1 b2 g0 gA z1 zA oA c2 bA hb hv hk ho
  go_enter Tryz.func7, Tryz.ntmps7
  go_wp2_with fail
  clear hwa
  refine CF.out.mono ?_
  rintro e w1 ⟨fv, rfl, f1, b1⟩
  obtain ⟨xd, xc, rfl⟩ := f1.form
  rw [List.length_map] at f1 ⊢
  have hs1 := SA.out
  have hw1 := b1.size
  have G1 : (w1.setCell ⟨w.heap.size + 1 + 1, 0, none⟩ (.slice xd rs.length xc)).heap[w.heap.size]? = some (.cells #[.slice fa n fc, .slice va vl vc, .slice ad len cap, .int .i64 nx, .int .i64 sq, .int .i64 tx, .int .i64 bs] 32 (0, 0)) := (Below.heap_setCell _ _ _ _ (show w.heap.size ≠ w.heap.size + 1 + 1 by omega)).trans ((b1.block _ (by omega)).trans GA.out)
  have Z1 := hide ((ZA.out.below b1).far (h := w.heap.size + 1 + 1) (k := 0) (u := .slice xd rs.length xc) (by omega))
  have O0 := OA.out.below b1
  have O1 := hide (O0.flT (.slice xd rs.length xc))
  have q0 := O0.cells.1
  have q1 := O0.fr 0
  have B1 := hide ((BA.out.trans (b1.mono BA.out.size)).setCell (p := ⟨w.heap.size + 1 + 1, 0, none⟩) (by show _ ≤ w.heap.size + 1 + 1; omega) (.slice xd rs.length xc))
  have F1 : Hid (Fla wa.heap.size w1.heap.size (.slice xd rs.length xc) (rs.map tellOf) (w1.setCell ⟨w.heap.size + 1 + 1, 0, none⟩ (.slice xd rs.length xc))) := Fla.loc _ _ _ _ w1 _ (fun y y1 y2 => Below.heap_setCell _ _ _ _ (show y ≠ w.heap.size + 1 + 1 by omega)) f1
  have hz1 : (w1.setCell ⟨w.heap.size + 1 + 1, 0, none⟩ (.slice xd rs.length xc)).heap.size = w1.heap.size := by simp
  clear CF BA GA ZA OA b1 f1 y0 O0
  go_upto_region 3 with fail
  generalize w1.setCell ⟨w.heap.size + 1 + 1, 0, none⟩ (.slice xd rs.length xc) = w2 at G1 Z1 O1 B1 F1 hz1 ⊢
  clear q0 q1
  have k1 : w2.cell? ⟨w.heap.size, 1, none⟩ = some (.slice va vl vc) := cell_of_row _ _ 1 _ _ _ G1
  have k2 : w2.cell? ⟨w.heap.size, 2, none⟩ = some (.slice ad len cap) := cell_of_row _ _ 2 _ _ _ G1
  have k3 : w2.cell? ⟨w.heap.size, 3, none⟩ = some (.int .i64 nx) := cell_of_row _ _ 3 _ _ _ G1
  have CT := hide (toSto_any va vl vc ad len cap nx vs kr w2 HO.out.2.2.2.2.1 HO.out.2.2.2.2.2.1 HO.out.2.2.2.2.2.2.1 (HV.out.below B1.out) (HK.out.below B1.out))
  have HG1 := hide G1
  clear G1
  go_wp2_with fail
  refine CT.out.mono ?_
  rintro e w3 ⟨t1, t2, rfl, so⟩
  have b3 := so.blw
  have st := so.sts
  have hw3 := b3.size
  have hgz : w.heap.size + 1 ≠ w.heap.size + 1 + 1 := by omega
  have O2 := O1.out.below b3
  have O3 := hide (O2.store (.slice (some ⟨t1, 0, none⟩) vl vl) (.slice (some ⟨t2, 0, none⟩) len len) nx)
  have Z3 := hide ((((Z1.out.below b3).far (h := w.heap.size + 1 + 1) (k := 1) (u := .slice (some ⟨t1, 0, none⟩) vl vl) hgz).far (h := w.heap.size + 1 + 1) (k := 2) (u := .slice (some ⟨t2, 0, none⟩) len len) hgz).far (h := w.heap.size + 1 + 1) (k := 3) (u := .int .i64 nx) hgz)
  have hk3 : ∀ y, y ≠ w.heap.size + 1 + 1 → (((w3.setCell ⟨w.heap.size + 1 + 1, 1, none⟩ (.slice (some ⟨t1, 0, none⟩) vl vl)).setCell ⟨w.heap.size + 1 + 1, 2, none⟩ (.slice (some ⟨t2, 0, none⟩) len len)).setCell ⟨w.heap.size + 1 + 1, 3, none⟩ (.int .i64 nx)).heap[y]? = w3.heap[y]? := fun y hy => by
    rw [Below.heap_setCell _ ⟨w.heap.size + 1 + 1, 3, none⟩ _ _ hy, Below.heap_setCell _ ⟨w.heap.size + 1 + 1, 2, none⟩ _ _ hy, Below.heap_setCell _ ⟨w.heap.size + 1 + 1, 1, none⟩ _ _ hy]
  have hsz : (((w3.setCell ⟨w.heap.size + 1 + 1, 1, none⟩ (.slice (some ⟨t1, 0, none⟩) vl vl)).setCell ⟨w.heap.size + 1 + 1, 2, none⟩ (.slice (some ⟨t2, 0, none⟩) len len)).setCell ⟨w.heap.size + 1 + 1, 3, none⟩ (.int .i64 nx)).heap.size = w3.heap.size := by simp
  have B3 := B1.out.trans (b3.mono B1.out.size)
  have B4 := hide (((B3.setCell (p := ⟨w.heap.size + 1 + 1, 1, none⟩) (by show _ ≤ w.heap.size + 1 + 1; omega) (.slice (some ⟨t1, 0, none⟩) vl vl)).setCell (p := ⟨w.heap.size + 1 + 1, 2, none⟩) (by show _ ≤ w.heap.size + 1 + 1; omega) (.slice (some ⟨t2, 0, none⟩) len len)).setCell (p := ⟨w.heap.size + 1 + 1, 3, none⟩) (by show _ ≤ w.heap.size + 1 + 1; omega) (.int .i64 nx))
  have G4 : Hid ((((w3.setCell ⟨w.heap.size + 1 + 1, 1, none⟩ (.slice (some ⟨t1, 0, none⟩) vl vl)).setCell ⟨w.heap.size + 1 + 1, 2, none⟩ (.slice (some ⟨t2, 0, none⟩) len len)).setCell ⟨w.heap.size + 1 + 1, 3, none⟩ (.int .i64 nx)).heap[w.heap.size]? = some (.cells #[.slice fa n fc, .slice va vl vc, .slice ad len cap, .int .i64 nx, .int .i64 sq, .int .i64 tx, .int .i64 bs] 32 (0, 0))) := (hk3 _ (by omega)).trans ((b3.block _ (Array.getElem?_eq_some_iff.1 HG1.out).1).trans HG1.out)
  have F4 : Hid (Fla wa.heap.size w1.heap.size (.slice xd rs.length xc) (rs.map tellOf) (((w3.setCell ⟨w.heap.size + 1 + 1, 1, none⟩ (.slice (some ⟨t1, 0, none⟩) vl vl)).setCell ⟨w.heap.size + 1 + 1, 2, none⟩ (.slice (some ⟨t2, 0, none⟩) len len)).setCell ⟨w.heap.size + 1 + 1, 3, none⟩ (.int .i64 nx))) := Fla.loc _ _ _ _ w2 _ (fun y y1 y2 => (hk3 y (by omega)).trans (b3.block y (by omega))) F1.out
  have S4 : Hid (Sts w2.heap.size w3.heap.size (.agg #[.slice (some ⟨t1, 0, none⟩) vl vl, .slice (some ⟨t2, 0, none⟩) len len, .int .i64 nx]) ⟨vs, kr.map ktell, nx⟩ (((w3.setCell ⟨w.heap.size + 1 + 1, 1, none⟩ (.slice (some ⟨t1, 0, none⟩) vl vl)).setCell ⟨w.heap.size + 1 + 1, 2, none⟩ (.slice (some ⟨t2, 0, none⟩) len len)).setCell ⟨w.heap.size + 1 + 1, 3, none⟩ (.int .i64 nx))) := Sts.loc _ _ _ _ w3 _ (fun y y1 y2 => hk3 y (by omega)) st
  obtain ⟨-, o1, o2, o3, -, -, -⟩ := O2.cells
  have p1 := O2.fr 1
  have p2 := O2.fr 2
  have p3 := O2.fr 3
  have HSZ := hide hsz
  clear CT so b3 st O2 B3 hk3 hsz k1 k2 k3 F1 Z1 O1 B1 HG1
  go_upto_region 4 with fail
  generalize ((w3.setCell ⟨w.heap.size + 1 + 1, 1, none⟩ (.slice (some ⟨t1, 0, none⟩) vl vl)).setCell ⟨w.heap.size + 1 + 1, 2, none⟩ (.slice (some ⟨t2, 0, none⟩) len len)).setCell ⟨w.heap.size + 1 + 1, 3, none⟩ (.int .i64 nx) = w4 at O3 Z3 B4 G4 F4 S4 HSZ ⊢
  clear o1 o2 o3 p1 p2 p3
  have Y4 := HSZ
  have Z4 := Z3
  clear HSZ Z3
  have a4 : w4.cell? ⟨w.heap.size, 4, none⟩ = some (.int .i64 sq) := cell_of_row _ _ 4 _ _ _ G4.out
  have o4 := O3.out.cells.2.2.2.2.1
  have p4 := O3.out.fr 4
  have O5 := hide (O3.out.seq sq)
  have Z5 := hide (Z4.out.far (h := w.heap.size + 1 + 1) (k := 4) (u := .int .i64 sq) (by omega))
  have B5 := hide (B4.out.setCell (p := ⟨w.heap.size + 1 + 1, 4, none⟩) (by show _ ≤ w.heap.size + 1 + 1; omega) (.int .i64 sq))
  have G5 : Hid ((w4.setCell ⟨w.heap.size + 1 + 1, 4, none⟩ (.int .i64 sq)).heap[w.heap.size]? = some (.cells #[.slice fa n fc, .slice va vl vc, .slice ad len cap, .int .i64 nx, .int .i64 sq, .int .i64 tx, .int .i64 bs] 32 (0, 0))) := (Below.heap_setCell _ _ _ _ (show w.heap.size ≠ w.heap.size + 1 + 1 by omega)).trans G4.out
  have F5 : Hid (Fla wa.heap.size w1.heap.size (.slice xd rs.length xc) (rs.map tellOf) (w4.setCell ⟨w.heap.size + 1 + 1, 4, none⟩ (.int .i64 sq))) := Fla.loc _ _ _ _ w4 _ (fun y y1 y2 => Below.heap_setCell _ _ _ _ (show y ≠ w.heap.size + 1 + 1 by have := SA.out; omega)) F4.out
  have S5 : Hid (Sts w2.heap.size w3.heap.size (.agg #[.slice (some ⟨t1, 0, none⟩) vl vl, .slice (some ⟨t2, 0, none⟩) len len, .int .i64 nx]) ⟨vs, kr.map ktell, nx⟩ (w4.setCell ⟨w.heap.size + 1 + 1, 4, none⟩ (.int .i64 sq))) := Sts.loc _ _ _ _ w4 _ (fun y y1 y2 => Below.heap_setCell _ _ _ _ (show y ≠ w.heap.size + 1 + 1 by omega)) S4.out
  have Y5 : Hid ((w4.setCell ⟨w.heap.size + 1 + 1, 4, none⟩ (.int .i64 sq)).heap.size = w3.heap.size) := by show _ = _; rw [← Y4.out]; simp
  clear O3 Z4 B4 G4 F4 S4 Y4
  go_upto_region 5 with fail
  generalize w4.setCell ⟨w.heap.size + 1 + 1, 4, none⟩ (.int .i64 sq) = w5 at O5 Z5 B5 G5 F5 S5 Y5 ⊢
  clear a4 o4 p4
  have a5 : w5.cell? ⟨w.heap.size, 5, none⟩ = some (.int .i64 tx) := cell_of_row _ _ 5 _ _ _ G5.out
  have o5 := O5.out.cells.2.2.2.2.2.1
  have p5 := O5.out.fr 5
  have O6 := hide (O5.out.tx tx)
  have Z6 := hide (Z5.out.far (h := w.heap.size + 1 + 1) (k := 5) (u := .int .i64 tx) (by omega))
  have B6 := hide (B5.out.setCell (p := ⟨w.heap.size + 1 + 1, 5, none⟩) (by show _ ≤ w.heap.size + 1 + 1; omega) (.int .i64 tx))
  have G6 : Hid ((w5.setCell ⟨w.heap.size + 1 + 1, 5, none⟩ (.int .i64 tx)).heap[w.heap.size]? = some (.cells #[.slice fa n fc, .slice va vl vc, .slice ad len cap, .int .i64 nx, .int .i64 sq, .int .i64 tx, .int .i64 bs] 32 (0, 0))) := (Below.heap_setCell _ _ _ _ (show w.heap.size ≠ w.heap.size + 1 + 1 by omega)).trans G5.out
  have F6 : Hid (Fla wa.heap.size w1.heap.size (.slice xd rs.length xc) (rs.map tellOf) (w5.setCell ⟨w.heap.size + 1 + 1, 5, none⟩ (.int .i64 tx))) := Fla.loc _ _ _ _ w5 _ (fun y y1 y2 => Below.heap_setCell _ _ _ _ (show y ≠ w.heap.size + 1 + 1 by have := SA.out; omega)) F5.out
  have S6 : Hid (Sts w2.heap.size w3.heap.size (.agg #[.slice (some ⟨t1, 0, none⟩) vl vl, .slice (some ⟨t2, 0, none⟩) len len, .int .i64 nx]) ⟨vs, kr.map ktell, nx⟩ (w5.setCell ⟨w.heap.size + 1 + 1, 5, none⟩ (.int .i64 tx))) := Sts.loc _ _ _ _ w5 _ (fun y y1 y2 => Below.heap_setCell _ _ _ _ (show y ≠ w.heap.size + 1 + 1 by omega)) S5.out
  have Y6 : Hid ((w5.setCell ⟨w.heap.size + 1 + 1, 5, none⟩ (.int .i64 tx)).heap.size = w3.heap.size) := by show _ = _; rw [← Y5.out]; simp
  clear O5 Z5 B5 G5 F5 S5 Y5
  go_upto_region 6 with fail
  generalize w5.setCell ⟨w.heap.size + 1 + 1, 5, none⟩ (.int .i64 tx) = w6 at O6 Z6 B6 G6 F6 S6 Y6 ⊢
  clear a5 o5 p5
  have a6 : w6.cell? ⟨w.heap.size, 6, none⟩ = some (.int .i64 bs) := cell_of_row _ _ 6 _ _ _ G6.out
  have o6 := O6.out.cells.2.2.2.2.2.2
  have p6 := O6.out.fr 6
  have O7 := hide (O6.out.base bs)
  have Z7 := hide (Z6.out.far (h := w.heap.size + 1 + 1) (k := 6) (u := .int .i64 bs) (by omega))
  have B7 := hide (B6.out.setCell (p := ⟨w.heap.size + 1 + 1, 6, none⟩) (by show _ ≤ w.heap.size + 1 + 1; omega) (.int .i64 bs))
  have G7 : Hid ((w6.setCell ⟨w.heap.size + 1 + 1, 6, none⟩ (.int .i64 bs)).heap[w.heap.size]? = some (.cells #[.slice fa n fc, .slice va vl vc, .slice ad len cap, .int .i64 nx, .int .i64 sq, .int .i64 tx, .int .i64 bs] 32 (0, 0))) := (Below.heap_setCell _ _ _ _ (show w.heap.size ≠ w.heap.size + 1 + 1 by omega)).trans G6.out
  have F7 : Hid (Fla wa.heap.size w1.heap.size (.slice xd rs.length xc) (rs.map tellOf) (w6.setCell ⟨w.heap.size + 1 + 1, 6, none⟩ (.int .i64 bs))) := Fla.loc _ _ _ _ w6 _ (fun y y1 y2 => Below.heap_setCell _ _ _ _ (show y ≠ w.heap.size + 1 + 1 by have := SA.out; omega)) F6.out
  have S7 : Hid (Sts w2.heap.size w3.heap.size (.agg #[.slice (some ⟨t1, 0, none⟩) vl vl, .slice (some ⟨t2, 0, none⟩) len len, .int .i64 nx]) ⟨vs, kr.map ktell, nx⟩ (w6.setCell ⟨w.heap.size + 1 + 1, 6, none⟩ (.int .i64 bs))) := Sts.loc _ _ _ _ w6 _ (fun y y1 y2 => Below.heap_setCell _ _ _ _ (show y ≠ w.heap.size + 1 + 1 by omega)) S6.out
  have Y7 : Hid ((w6.setCell ⟨w.heap.size + 1 + 1, 6, none⟩ (.int .i64 bs)).heap.size = w3.heap.size) := by show _ = _; rw [← Y6.out]; simp
  clear O6 Z6 B6 G6 F6 S6 Y6
  go_upto_region 7 with fail
  generalize w6.setCell ⟨w.heap.size + 1 + 1, 6, none⟩ (.int .i64 bs) = w7 at O7 Z7 B7 G7 F7 S7 Y7 ⊢
  clear a6 o6 p6
  obtain ⟨i0, i1, i2, i3, i4, i5, i6⟩ := O7.out.cells
  obtain ⟨j0, j1, j2, j3, j4, j5, j6⟩ := Z7.out.cells
  have q0 := Z7.out.fr 0
  have q1 := Z7.out.fr 1
  have q2 := Z7.out.fr 2
  have q3 := Z7.out.fr 3
  have q4 := Z7.out.fr 4
  have q5 := Z7.out.fr 5
  have q6 := Z7.out.fr 6
  have FD := hide (put7_at Z7.out (.slice xd rs.length xc) (.slice (some ⟨t1, 0, none⟩) vl vl) (.slice (some ⟨t2, 0, none⟩) len len) nx sq tx bs)
  have FB := hide (put7_below (.slice xd rs.length xc) (.slice (some ⟨t1, 0, none⟩) vl vl) (.slice (some ⟨t2, 0, none⟩) len len) nx sq tx bs B7.out (g := w.heap.size + 1) (by omega))
  have FI : Hid (Dvs w.heap.size (put7 w7 (w.heap.size + 1) (.slice xd rs.length xc) (.slice (some ⟨t1, 0, none⟩) vl vl) (.slice (some ⟨t2, 0, none⟩) len len) nx sq tx bs).heap.size (.agg #[.slice xd rs.length xc, .slice (some ⟨t1, 0, none⟩) vl vl, .slice (some ⟨t2, 0, none⟩) len len, .int .i64 nx, .int .i64 sq, .int .i64 tx, .int .i64 bs]) ⟨rs.map tellOf, ⟨vs, kr.map ktell, nx⟩, sq, tx, bs⟩ (put7 w7 (w.heap.size + 1) (.slice xd rs.length xc) (.slice (some ⟨t1, 0, none⟩) vl vl) (.slice (some ⟨t2, 0, none⟩) len len) nx sq tx bs)) := by
    have h0 := SA.out
    have h7 := Y7.out
    refine ⟨_, _, _, wa.heap.size, w1.heap.size, w2.heap.size, w3.heap.size, rfl, Fla.loc _ _ _ _ w7 _ (fun y y1 y2 => put7_other _ _ _ _ _ _ _ _ _ (by omega)) F7.out, Sts.loc _ _ _ _ w7 _ (fun y y1 y2 => put7_other _ _ _ _ _ _ _ _ _ (by omega)) S7.out, by omega, ?_, by omega, ?_, .inl (by omega)⟩
    · rw [put7_size]; omega
    · rw [put7_size]; omega
  unfold put7 at FD FB FI
  clear O7 Z7 B7 G7 F7 S7 Y7
  go_wp2
  refine bodyPost_ret (results_dv1 (p := 2) rfl _ _ (w.heap.size + 1) _ _ _ _ _ _ _ rfl FD.out) rfl ?_
  exact ⟨_, rfl, FI.out, FB.out⟩
end Go.Proofs.YtfmnaidhfgmemaaGreatDoor
