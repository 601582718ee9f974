/-
  SBad; FBlk; Make4; SWipe
-/
import Derived.Test.YtfmnaidhfgmemaaGreatDoorPk3
import Derived.Test.YtfmnaidhfgmemaaGreatDoorPk18
import Derived.Test.YtfmnaidhfgmemaaGreatDoorPk19
import Derived.Test.YtfmnaidhfgmemaaGreatDoorPk13
namespace Go.Proofs.YtfmnaidhfgmemaaGreatDoor
open Go.RowKit
theorem block_not_flash {w : World} {B gl n m cap : Nat} {xs : List Value} (h : w.ownsRow B 80 3 (.slice (some ⟨gl, 0, none⟩) n cap) m xs) : ∀ i cs, w.heap[i]? = some (.cells cs 39 (0, 0)) → i ≠ gl := by
  intro i cs hi e
  subst e
  rcases h.2 with ⟨h1, -⟩ | ⟨g, cap, cur, h1, -, h2, -⟩
  · cases h1
  · injection h1 with a1
    simp at a1
    subst a1
    rw [hi] at h2
    simp at h2
end Go.Proofs.YtfmnaidhfgmemaaGreatDoor

namespace Go.Proofs.YtfmnaidhfgmemaaGreatDoor
open Go.RowKit
theorem pair_set {l : List Value} {k : Nat} {v : Value} {H : Nat} (h : l.Pairwise (fun a b => a.ownBlock = none ∨ a.ownBlock ≠ b.ownBlock)) (hl : ∀ a ∈ l, ∀ g, a.ownBlock = some g → g < H) (hv : ∀ g, v.ownBlock = some g → H ≤ g) :
    (l.set k v).Pairwise (fun a b => a.ownBlock = none ∨ a.ownBlock ≠ b.ownBlock) := by
  rw [List.pairwise_iff_getElem] at h ⊢
  intro i j hi hj hij
  have hi2 : i < l.length := by simpa using hi
  have hj2 : j < l.length := by simpa using hj
  rw [List.getElem_set, List.getElem_set]
  by_cases h1 : k = i
  · rw [if_pos h1, if_neg (by omega)]
    cases e : v.ownBlock with
    | none => exact Or.inl rfl
    | some g =>
      refine Or.inr (fun q => ?_)
      have a1 := hv g e
      have a2 := hl _ (List.getElem_mem hj2) g q.symm
      omega
  · rw [if_neg h1]
    by_cases h2 : k = j
    · rw [if_pos h2]
      cases e : l[i].ownBlock with
      | none => exact Or.inl rfl
      | some g =>
        refine Or.inr (fun q => ?_)
        have a1 := hv g q.symm
        have a2 := hl _ (List.getElem_mem hi2) g e
        omega
    · rw [if_neg h2]
      exact h i j hi2 hj2 hij
theorem FlashOf.setBlock {w w' : World} {B : Nat} {ud : Option Addr} {n ucap : Nat} {bs : List Bk} {b : Bk} {k : Nat} {v : Value} {ls : List (Int × ByteArray)} (h : FlashOf w B (.slice ud n ucap) bs) (hk : bs[k]? = some b) (hb : Below w.heap.size w w')
    (hv : w'.ownsRow w.heap.size 119 2 v ls.length (lcells ls)) (hB : B ≤ w.heap.size) :
    ∃ gu, ud = some ⟨gu, 0, none⟩ ∧ (w'.cell? ⟨gu, k * 3, none⟩ = some (.bool b.1) ∧ w'.cell? ⟨gu, k * 3 + 1, none⟩ = some (.int .i64 b.2.1) ∧ ∃ x, w'.cell? ⟨gu, k * 3 + 2, none⟩ = some x) ∧ (∀ j, w'.frozen? ⟨gu, j, none⟩ = false) ∧ B ≤ gu ∧ gu < w.heap.size ∧
      (∀ i cs, w'.heap[i]? = some (.cells cs 39 (0, 0)) → i ≠ gu) ∧
      ∀ (x : Bool) (y : Int) (f : Bk → Bk), f b = (x, y, ls) → FlashOf (((w'.setCell ⟨gu, k * 3, none⟩ (.bool x)).setCell ⟨gu, k * 3 + 1, none⟩ (.int .i64 y)).setCell ⟨gu, k * 3 + 2, none⟩ v) B (.slice ud n ucap) (bs.modify k f) := by
  obtain ⟨ss, rfl, hs0⟩ := h
  rw [List.getElem?_map] at hk
  obtain ⟨r, hr, rfl⟩ := Option.map_eq_some_iff.1 hk
  have hkl := (List.getElem?_eq_some_iff.1 hr).1
  obtain ⟨ud', ucap', e, -, -, u3⟩ := frow_form hs0.1
  injection e with e1 e2 e3
  subst e1 e2 e3
  obtain ⟨gu, rfl, hgu, hgl⟩ := u3 (by omega)
  have hs := hs0.below hb (Nat.le_refl _)
  obtain ⟨c1, c2, c3⟩ := kown_cells (k := k) (t := cellOf r) hs.1 (by rw [List.getElem?_map, hr]; rfl)
  refine ⟨gu, rfl, ⟨c1, c2, _, c3⟩, fun j => hs.1.frozenAt j, hgu, hgl, block_not_flash hs.1, fun x y f hf => ⟨ss.set k (x, y, v, ls), modify_tell ss k r f hr _ hf.symm, ?_⟩⟩
  have hkc : (ss.map cellOf)[k]? = some (cellOf r) := by rw [List.getElem?_map, hr]; rfl
  have hkc1 : k < (ss.map cellOf).length := by simpa using hkl
  have o1 := fown_set hs.1 rfl (k * 3) (.bool x)
  have o2 := fown_set o1 rfl (k * 3 + 1) (.int .i64 y)
  have o3 := fown_set o2 rfl (k * 3 + 2) v
  have hl3 : ∀ q ls2, LeafIn w' B w'.heap.size q ls2 → LeafIn (((w'.setCell ⟨gu, k * 3, none⟩ (.bool x)).setCell ⟨gu, k * 3 + 1, none⟩ (.int .i64 y)).setCell ⟨gu, k * 3 + 2, none⟩ v) B w'.heap.size q ls2 := fun q ls2 hq => by
    have a1 : LeafIn (w'.setCell ⟨gu, k * 3, none⟩ (.bool x)) B w'.heap.size q ls2 := ⟨hq.1.kept (grown_cell _ gu _ _) (leaf_ne hs.1 hq.1), hq.2⟩
    have a2 : LeafIn ((w'.setCell ⟨gu, k * 3, none⟩ (.bool x)).setCell ⟨gu, k * 3 + 1, none⟩ (.int .i64 y)) B w'.heap.size q ls2 := ⟨a1.1.kept (grown_cell _ gu _ _) (leaf_ne o1 a1.1), a1.2⟩
    exact ⟨a2.1.kept (grown_cell _ gu _ _) (leaf_ne o2 a2.1), a2.2⟩
  rw [(kcells_upd (ss.map cellOf) k (cellOf r) hkc).1 x, (kcells_upd ((ss.map cellOf).set k (x, (cellOf r).2.1, (cellOf r).2.2)) k (x, (cellOf r).2.1, (cellOf r).2.2) (by rw [List.getElem?_set_self hkc1])).2.1 y, List.set_set,
    (kcells_upd ((ss.map cellOf).set k (x, y, (cellOf r).2.2)) k (x, y, (cellOf r).2.2) (by rw [List.getElem?_set_self hkc1])).2.2 v, List.set_set] at o3
  have hz : ((((w'.setCell ⟨gu, k * 3, none⟩ (.bool x)).setCell ⟨gu, k * 3 + 1, none⟩ (.int .i64 y)).setCell ⟨gu, k * 3 + 2, none⟩ v).heap.size) = w'.heap.size := by simp [World.setCell]
  rw [hz]
  refine ⟨?_, fun g hg => Nat.lt_of_lt_of_le (hs.2.1 g hg) hb.size, fun q hq => ?_, ?_⟩
  · rw [List.map_set, List.length_set]
    exact o3
  · rcases List.mem_or_eq_of_mem_set hq with h1 | h1
    · exact hl3 _ _ ((hs.2.2.1 q h1).up hb.size)
    · subst h1
      exact hl3 _ _ ⟨own_down hv hB, fun g hg => (own_block_lt hv g hg).2⟩
  · rw [List.map_set]
    refine pair_set (H := w.heap.size) hs.2.2.2 (fun a ha g hg => ?_) (fun g hg => (own_block_lt hv g hg).1)
    obtain ⟨q, hq, rfl⟩ := List.mem_map.1 ha
    exact (hs0.2.2.1 q hq).2 g hg
end Go.Proofs.YtfmnaidhfgmemaaGreatDoor

namespace Go.Proofs.YtfmnaidhfgmemaaGreatDoor
open Go.RowKit
def leaf4 : Array Value := #[.int .i64 0, .string ⟨#[]⟩, .int .i64 0, .string ⟨#[]⟩, .int .i64 0, .string ⟨#[]⟩, .int .i64 0, .string ⟨#[]⟩]
theorem made4 : madeCells #[Value.int .i64 0, Value.string ⟨#[]⟩] (4 * 2) = leaf4 := by
  apply Array.toList_inj.1
  simp [madeCells]
  rfl
theorem make4 (w : World) : (Instr.makeSlice 78 (.int .i64 4) (.int .i64 4)).run Tryz.prog w = .ok (.slice (some ⟨w.heap.size, 0, none⟩) 4 4) (w.alloc (.cells leaf4 119)) := by
  obtain ⟨i0, hi0, hz0, hz1, hz2⟩ := info_parts infoLeaf
  have hr := run_make (P := Tryz.prog) w 78 119 i0 (.agg #[.int .i64 0, .string ⟨#[]⟩]) Tryz.underlying78 hi0 hz0 .i64 .i64 4 4 (by omega) (Int.le_refl _) (by rw [hz2]; omega) (by omega)
  rw [hz1] at hr
  rw [← made4]
  exact hr
theorem own4 (w : World) : (w.alloc (.cells leaf4 119)).ownsRow w.heap.size 119 2 (.slice (some ⟨w.heap.size, 0, none⟩) 4 4) blank4.length (lcells blank4) :=
  ⟨rfl, .inr ⟨w.heap.size, 4, leaf4, rfl, Nat.le_refl _, heap_alloc_new w _, Nat.le_refl _, by unfold maxLen; omega, rfl, rfl⟩⟩
end Go.Proofs.YtfmnaidhfgmemaaGreatDoor

namespace Go.Proofs.YtfmnaidhfgmemaaGreatDoor
open Go.RowKit
theorem mayW_out {bs : List Bk} {b : Int} (h : ¬ (0 ≤ b ∧ b ≤ (bs.length : Int) - 1)) : mayW bs b = false := by
  unfold mayW
  cases hb : bs[b.toNat]? with
  | none => rfl
  | some r =>
    have := (List.getElem?_eq_some_iff.1 hb).1
    exact decide_eq_false (fun hh => h ⟨hh.1, by omega⟩)
theorem mayW_in {bs : List Bk} {b : Int} {r : Bk} (h0 : 0 ≤ b) (hr : bs[b.toNat]? = some r) : mayW bs b = decide (r.1 = false ∧ r.2.1 ≠ 1000000000) := by
  unfold mayW
  rw [hr]
  simp [h0]
theorem flOk_wear {bs : List Bk} {b : Bk} (h : flOk bs = true) (hb : b ∈ bs) : 0 ≤ b.2.1 ∧ b.2.1 ≤ 1000000000 := by
  simp only [flOk, Bool.and_eq_true, List.all_eq_true] at h
  have h2 := h.2 b hb
  simp only [blkOk, Bool.and_eq_true, decide_eq_true_eq] at h2
  exact h2.1.2
set_option maxHeartbeats 1600000 in
set_option maxRecDepth 100000 in
theorem swipe_rd (v : Value) (rs : List Rw) (b : Int) (w : World) (hl : rs.length ≤ 1048576) (hll : ∀ r ∈ rs, r.2.2.2.length ≤ 1048576) (ha : FlashRd w v rs) :
    Calls Tryz.prog 99 #[.agg #[v], .int .i64 b] w fun e w' => ∃ u, e = .returned (.tuple #[.agg #[u], .bool (wipeF (rs.map tellOf) b).2]) ∧ FlashOf w' w.heap.size u (wipeF (rs.map tellOf) b).1 ∧ Below w.heap.size w w' := by
  obtain ⟨i0, hi0, hz0, hz1, hz2⟩ := info_parts infoLeaf
  have hw1 : IntKind.i64.wrap ((rs.length : Int) - 1) = (rs.length : Int) - 1 := by rw [IntKind.wrap_i64]; omega
  have HLL := hide hll
  have h1 := ha
  obtain ⟨vd, vcap, rfl, -, -⟩ := h1
  have hb0 := ((Below.refl w.heap.size w).alloc (Nat.le_refl _) (.cells #[.slice vd rs.length vcap] 39)).alloc (by simp) (.cells #[.slice none 0 0] 39)
  have HB0 := hide hb0
  have HA := hide (ha.below hb0)
  have r0 := (Below.heap_alloc (w.alloc (.cells #[.slice vd rs.length vcap] 39)) (.cells #[.slice none 0 0] 39) w.heap.size (by simp)).trans (heap_alloc_new w (.cells #[.slice vd rs.length vcap] 39))
  have r1 := heap_alloc_new (w.alloc (.cells #[.slice vd rs.length vcap] 39)) (.cells #[.slice none 0 0] 39)
  rw [show (w.alloc (.cells #[.slice vd rs.length vcap] 39)).heap.size = w.heap.size + 1 by simp] at r1
  have R0 := hide r0
  have R1 := hide r1
  have HZ := hide (show ((w.alloc (.cells #[.slice vd rs.length vcap] 39)).alloc (.cells #[.slice none 0 0] 39)).heap.size = w.heap.size + 2 by simp)
  clear ha hll hb0 r0 r1
  go_enter Tryz.func99, Tryz.ntmps99
  go_wp2_with fail
  refine (scopy_rd _ rs _ hl HLL.out HA.out).mono ?_
  rintro e w1 ⟨u, rfl, fo, b1⟩
  obtain ⟨ud, ucap, rfl⟩ := fo.form
  rw [List.length_map] at fo
  rw [List.length_map]
  have z1 := b1.size
  have HA1 := hide (HA.out.below b1)
  rw [HZ.out] at fo b1 z1
  have q0 := (b1.block _ (by omega)).trans R0.out
  have q1 := (b1.block _ (by omega)).trans R1.out
  have b2 := (Below.refl w1.heap.size w1).alloc (Nat.le_refl _) (.cells #[.slice ud rs.length ucap] 39)
  have q2 := heap_alloc_new w1 (.cells #[.slice ud rs.length ucap] 39)
  have p0 := (b2.block _ (by omega)).trans q0
  have p1 := (b2.block _ (by omega)).trans q1
  have HB2 := hide ((HB0.out.trans (b1.mono (by omega))).trans (b2.mono (by omega)))
  have HF2 := hide (fo.below b2)
  have HA2 := hide (HA1.out.below b2)
  have P0 := hide p0
  have P1 := hide p1
  have P2 := hide q2
  have HZ2 := hide (show (w1.alloc (.cells #[.slice ud rs.length ucap] 39)).heap.size = w1.heap.size + 1 by simp)
  have k0 : (w1.alloc (.cells #[.slice ud rs.length ucap] 39)).cell? ⟨w.heap.size, 0, none⟩ = some (.slice vd rs.length vcap) := cell_of_row _ _ 0 _ _ _ p0
  clear p0 p1 q0 q1 q2 b1 b2 fo
  go_wp2_with fail
  refine (sok_rd _ rs _ hl HLL.out HA2.out).mono ?_
  rintro e w3 ⟨rfl, b3⟩
  have z3 := b3.size
  have HA3 := hide (HA2.out.below b3)
  rw [HZ2.out] at b3 z3
  have t0 := (b3.block _ (by omega)).trans P0.out
  have t1 := (b3.block _ (by omega)).trans P1.out
  have t2 := (b3.block _ (by omega)).trans P2.out
  have HB3 := hide (HB2.out.trans (b3.mono (by omega)))
  have HF3 := hide (HF2.out.below (by rw [HZ2.out]; exact b3))
  have m0 : w3.cell? ⟨w.heap.size, 0, none⟩ = some (.slice vd rs.length vcap) := cell_of_row _ _ 0 _ _ _ t0
  have m1 : w3.cell? ⟨w.heap.size + 1, 0, none⟩ = some (.slice none 0 0) := cell_of_row _ _ 0 _ _ _ t1
  have m2 : w3.cell? ⟨w1.heap.size, 0, none⟩ = some (.slice ud rs.length ucap) := cell_of_row _ _ 0 _ _ _ t2
  have f1 := frozen_of_row _ _ 0 _ _ t1
  have T1 := hide t1
  have T2 := hide t2
  clear t0 t2 t1 b3 k0
  have G := hide (HF3.out.cell (show w.heap.size + 1 < w.heap.size + 2 by omega) 0 (.slice ud rs.length ucap))
  have Q1 := hide (row_set T1.out 0 (.slice ud rs.length ucap))
  have HBE := hide (HB3.out.setCell (p := ⟨w.heap.size + 1, 0, none⟩) (by show _ ≤ _ + 1; omega) (.slice ud rs.length ucap))
  cases hok : flOk (rs.map tellOf) with
  | false =>
    have HP : Hid (wipeF (rs.map tellOf) b = (rs.map tellOf, false)) := by show _ = _; simp [wipeF, hok]
    clear hok
    go_wp2
    exact bodyPost_ret (results_flash2 rfl _ _ (w.heap.size + 1) _ rfl Q1.out) rfl ⟨_, by rw [HP.out]; rfl, by rw [HP.out]; exact G.out.down (by omega), HBE.out⟩
  | true =>
    have HOK := hide hok
    clear hok
    go_wp2_with fail
    refine (sin_any b 0 ((rs.length : Int) - 1) _).mono ?_
    rintro e w4 ⟨rfl, rfl⟩
    by_cases hb : 0 ≤ b ∧ b ≤ (rs.length : Int) - 1
    · have hbd : decide (0 ≤ b ∧ b ≤ (rs.length : Int) - 1) = true := decide_eq_true hb
      rw [hbd]
      obtain ⟨k, rfl⟩ : ∃ k : Nat, b = k := ⟨b.toNat, by omega⟩
      have hk1 : k < rs.length := by omega
      have hr : rs[k]? = some rs[k] := List.getElem?_eq_getElem hk1
      generalize rs[k] = r at hr
      obtain ⟨gv, eg, ⟨c1, c2, -⟩, -⟩ := HA3.out.at hr
      subst eg
      obtain ⟨x, y, u, ls⟩ := r
      simp only at c1 c2
      have hbk : (rs.map tellOf)[k]? = some (x, y, ls) := by rw [List.getElem?_map, hr]; rfl
      have hy := flOk_wear HOK.out (List.mem_of_getElem? hbk)
      simp only at hy
      have HM := hide (mayW_in (bs := rs.map tellOf) (b := (k : Int)) hb.1 (by rw [Int.toNat_natCast]; exact hbk))
      have hkl : (k : Int) < rs.length := by omega
      have k0 : (0 : Int) ≤ k := by omega
      have HBK := hide hbk
      clear hr hb hbd hbk
      cases x with
      | true =>
        have HP : Hid (wipeF (rs.map tellOf) (k : Int) = (rs.map tellOf, false)) := by show _ = _; simp [wipeF, HM.out]
        go_wp2
        exact bodyPost_ret (results_flash2 rfl _ _ (w.heap.size + 1) _ rfl Q1.out) rfl ⟨_, by rw [HP.out]; rfl, by rw [HP.out]; exact G.out.down (by omega), HBE.out⟩
      | false =>
        by_cases hy9 : y = 1000000000
        · have HP : Hid (wipeF (rs.map tellOf) (k : Int) = (rs.map tellOf, false)) := by show _ = _; simp [wipeF, HM.out, hy9]
          have e9 : (y == 1000000000) = true := by simp [hy9]
          clear hy9
          go_wp2
          exact bodyPost_ret (results_flash2 rfl _ _ (w.heap.size + 1) _ rfl Q1.out) rfl ⟨_, by rw [HP.out]; rfl, by rw [HP.out]; exact G.out.down (by omega), HBE.out⟩
        · have HP : Hid (wipeF (rs.map tellOf) (k : Int) = ((rs.map tellOf).modify k (fun r => (false, r.2.1 + 1, blank4)), true)) := by show _ = _; simp [wipeF, HM.out, hy9, HOK.out]
          have e9 : (y == 1000000000) = false := by simpa using hy9
          have hw2 : IntKind.i64.wrap (y + 1) = y + 1 := by rw [IntKind.wrap_i64]; omega
          clear hy9
          have b5 := (Below.refl w4.heap.size w4).alloc (Nat.le_refl _) (.cells leaf4 119)
          obtain ⟨gu, rfl, ⟨d1, d2, x3, d3⟩, fz, hgu, hgu2, hne, hput⟩ := HF3.out.setBlock HBK.out b5 (own4 w4) (by omega)
          have MK := make4
          have g1 := fz (k * 3)
          have g2 := fz (k * 3 + 1)
          have g3 := fz (k * 3 + 2)
          have d1' := d1
          have d2' := d2
          have d3' := d3
          rw [b5.cell (show gu < w4.heap.size from hgu2)] at d1' d2' d3'
          have g1' := g1
          have g2' := g2
          have g3' := g3
          rw [b5.frozen (show gu < w4.heap.size from hgu2)] at g1' g2' g3'
          have s0 : w.heap.size < w4.heap.size := by omega
          have s1 : w1.heap.size < w4.heap.size := by omega
          have sv : gv < w4.heap.size := World.block_lt_of_cell? w4 _ c1
          have n0 : w.heap.size ≠ w4.heap.size := by omega
          have n1 : w1.heap.size ≠ w4.heap.size := by omega
          have nv : gv ≠ w4.heap.size := by omega
          have nu : gu ≠ w4.heap.size := by omega
          have a0 := (b5.cell (p := ⟨w.heap.size, 0, none⟩) s0).trans m0
          have a1 := (b5.cell (p := ⟨w1.heap.size, 0, none⟩) s1).trans m2
          have a2 := (b5.cell (p := ⟨gv, k * 3, none⟩) sv).trans c1
          have a3 := (b5.cell (p := ⟨gv, k * 3 + 1, none⟩) sv).trans c2
          have hp := hput false (y + 1) (fun r => (false, r.2.1 + 1, blank4)) rfl
          have v1 := row_set_ne (row_set_ne (row_set_ne ((b5.block _ (show w.heap.size + 1 < w4.heap.size by omega)).trans T1.out) (hne _ _ ((b5.block _ (show w.heap.size + 1 < w4.heap.size by omega)).trans T1.out)) (k * 3) (.bool false)) (hne _ _ ((b5.block _ (show w.heap.size + 1 < w4.heap.size by omega)).trans T1.out)) (k * 3 + 1) (.int .i64 (y + 1))) (hne _ _ ((b5.block _ (show w.heap.size + 1 < w4.heap.size by omega)).trans T1.out)) (k * 3 + 2) (.slice (some ⟨w4.heap.size, 0, none⟩) 4 4)
          have v2 := row_set_ne (row_set_ne (row_set_ne ((b5.block _ s1).trans T2.out) (hne _ _ ((b5.block _ s1).trans T2.out)) (k * 3) (.bool false)) (hne _ _ ((b5.block _ s1).trans T2.out)) (k * 3 + 1) (.int .i64 (y + 1))) (hne _ _ ((b5.block _ s1).trans T2.out)) (k * 3 + 2) (.slice (some ⟨w4.heap.size, 0, none⟩) 4 4)
          have hb6 := (((HB3.out.alloc HB3.out.size (.cells leaf4 119)).setCell (p := ⟨gu, k * 3, none⟩) (by show _ ≤ gu; omega) (.bool false)).setCell (p := ⟨gu, k * 3 + 1, none⟩) (by show _ ≤ gu; omega) (.int .i64 (y + 1))).setCell (p := ⟨gu, k * 3 + 2, none⟩) (by show _ ≤ gu; omega) (.slice (some ⟨w4.heap.size, 0, none⟩) 4 4)
          have HWE : Hid ((((w4.alloc (.cells leaf4 119)).setCell ⟨gu, k * 3, none⟩ (.bool false)).setCell ⟨gu, k * 3 + 1, none⟩ (.int .i64 (y + 1))).setCell ⟨gu, k * 3 + 2, none⟩ (.slice (some ⟨w4.heap.size, 0, none⟩) 4 4) = (((w4.setCell ⟨gu, k * 3, none⟩ (.bool false)).setCell ⟨gu, k * 3 + 1, none⟩ (.int .i64 (y + 1))).setCell ⟨gu, k * 3 + 2, none⟩ (.slice (some ⟨w4.heap.size, 0, none⟩) 4 4)).alloc (.cells leaf4 119)) := by
            show _ = _
            rw [World.setCell_alloc_past _ _ _ _ hgu2, World.setCell_alloc_past _ _ _ _ (by simpa [World.setCell] using hgu2), World.setCell_alloc_past _ _ _ _ (by simpa [World.setCell] using hgu2)]
          rw [HWE.out] at hp v1 v2 hb6
          go_wp2_with fail
          go_region
          have FP := hide (show FlashOf ((((w4.setCell ⟨gu, k * 3, none⟩ (.bool false)).setCell ⟨gu, k * 3 + 1, none⟩ (.int .i64 (y + 1))).setCell ⟨gu, k * 3 + 2, none⟩ (.slice (some ⟨w4.heap.size, 0, none⟩) 4 4)).alloc (.cells leaf4 119)).drew _ _ _ from hp)
          have V1 := hide (show ((((w4.setCell ⟨gu, k * 3, none⟩ (.bool false)).setCell ⟨gu, k * 3 + 1, none⟩ (.int .i64 (y + 1))).setCell ⟨gu, k * 3 + 2, none⟩ (.slice (some ⟨w4.heap.size, 0, none⟩) 4 4)).alloc (.cells leaf4 119)).drew.heap[w.heap.size + 1]? = _ from v1)
          have V2 := hide (show ((((w4.setCell ⟨gu, k * 3, none⟩ (.bool false)).setCell ⟨gu, k * 3 + 1, none⟩ (.int .i64 (y + 1))).setCell ⟨gu, k * 3 + 2, none⟩ (.slice (some ⟨w4.heap.size, 0, none⟩) 4 4)).alloc (.cells leaf4 119)).drew.heap[w1.heap.size]? = _ from v2)
          have HB6 := hide hb6.drew
          clear hp v1 v2 hb6 hput hne HWE
          generalize ((((w4.setCell ⟨gu, k * 3, none⟩ (.bool false)).setCell ⟨gu, k * 3 + 1, none⟩ (.int .i64 (y + 1))).setCell ⟨gu, k * 3 + 2, none⟩ (.slice (some ⟨w4.heap.size, 0, none⟩) 4 4)).alloc (.cells leaf4 119)).drew = w6 at FP V1 V2 HB6 ⊢
          have x5 : w6.cell? ⟨w.heap.size + 1, 0, none⟩ = some (.slice none 0 0) := cell_of_row _ _ 0 _ _ _ V1.out
          have y5 : w6.cell? ⟨w1.heap.size, 0, none⟩ = some (.slice (some ⟨gu, 0, none⟩) rs.length ucap) := cell_of_row _ _ 0 _ _ _ V2.out
          have f5 := frozen_of_row _ _ 0 _ _ V1.out
          have G := hide (FP.out.cell (show w.heap.size + 1 < w.heap.size + 2 by omega) 0 (.slice (some ⟨gu, 0, none⟩) rs.length ucap))
          have Q1 := hide (row_set V1.out 0 (.slice (some ⟨gu, 0, none⟩) rs.length ucap))
          have HBE := hide (HB6.out.setCell (p := ⟨w.heap.size + 1, 0, none⟩) (by show _ ≤ _ + 1; omega) (.slice (some ⟨gu, 0, none⟩) rs.length ucap))
          go_wp2
          exact bodyPost_ret (results_flash2 rfl _ _ (w.heap.size + 1) _ rfl Q1.out) rfl ⟨_, by rw [HP.out]; rfl, by rw [HP.out]; exact G.out.down (by omega), HBE.out⟩
    · have hbd : decide (0 ≤ b ∧ b ≤ (rs.length : Int) - 1) = false := decide_eq_false hb
      rw [hbd]
      have HP : Hid (wipeF (rs.map tellOf) b = (rs.map tellOf, false)) := by show _ = _; simp [wipeF, mayW_out (bs := rs.map tellOf) (b := b) (by rw [List.length_map]; exact hb)]
      clear hb hbd
      go_wp2
      exact bodyPost_ret (results_flash2 rfl _ _ (w.heap.size + 1) _ rfl Q1.out) rfl ⟨_, by rw [HP.out]; rfl, by rw [HP.out]; exact G.out.down (by omega), HBE.out⟩
end Go.Proofs.YtfmnaidhfgmemaaGreatDoor
