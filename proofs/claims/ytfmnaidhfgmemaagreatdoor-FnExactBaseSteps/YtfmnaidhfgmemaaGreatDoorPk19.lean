/-
  FPut; SProg
-/
import Derived.Test.YtfmnaidhfgmemaaGreatDoorPk13
import Derived.Test.YtfmnaidhfgmemaaGreatDoorPk17
import Derived.Test.YtfmnaidhfgmemaaGreatDoorPk18
namespace Go.Proofs.YtfmnaidhfgmemaaGreatDoor
open Go.RowKit
theorem results_flash2 {fn : Func} {p q : Tmp} (h : fn.results = #[.cell p 39, .tmp q]) (tmps : Array Value) (w : World) (g : Nat) (v : Value)
    (hp : tmps.getD p undef = .pointer (some ⟨g, 0, none⟩)) (hg : w.heap[g]? = some (.cells #[v] 39 (0, 0))) :
    (results fn tmps).run Tryz.prog w = .ok (.tuple #[.agg #[v], tmps.getD q undef]) w := by
  have hp' : tmps[p]?.getD undef = .pointer (some ⟨g, 0, none⟩) := by simpa using hp
  have hl := run_loadVar_row (P := Tryz.prog) w g 39 39 #[v] (0, 0) _ hg Tryz.underlying39 rfl infoFlash1
  simp [results, h, hp', asAddr, hl]
theorem modify_tell (ss : List Rw) (k : Nat) (r : Rw) (f : Bk → Bk) (h : ss[k]? = some r) (r' : Rw) (hr : tellOf r' = f (tellOf r)) : (ss.set k r').map tellOf = (ss.map tellOf).modify k f := by
  apply List.ext_getElem?
  intro i
  rw [List.getElem?_map, List.getElem?_modify, List.getElem?_map]
  by_cases hi : k = i
  · subst hi
    have := (List.getElem?_eq_some_iff.1 h).1
    rw [List.getElem?_set_self this, h]
    simp [hr]
  · rw [List.getElem?_set_ne hi]
    simp [hi]
theorem leaf_not_flash {w : World} {B gl n m cap : Nat} {xs : List Value} (h : w.ownsRow B 119 2 (.slice (some ⟨gl, 0, none⟩) n cap) m xs) : ∀ i cs, w.heap[i]? = some (.cells cs 39 (0, 0)) → i ≠ gl := by
  intro i cs hi e
  subst e
  rcases h.2 with ⟨h1, -⟩ | ⟨g, cap, cur, h1, -, h2, -⟩
  · cases h1
  · injection h1 with a1
    simp at a1
    subst a1
    rw [hi] at h2
    simp at h2
theorem FlashOf.put {w : World} {B : Nat} {ud : Option Addr} {n ucap : Nat} {bs : List Bk} {k j : Nat} {b : Bk} (h : FlashOf w B (.slice ud n ucap) bs) (hk : bs[k]? = some b) (hj : j < b.2.2.length) :
    ∃ gu gl lcap, ud = some ⟨gu, 0, none⟩ ∧ w.cell? ⟨gu, k * 3 + 2, none⟩ = some (.slice (some ⟨gl, 0, none⟩) b.2.2.length lcap) ∧ (∃ x, w.cell? ⟨gl, j * 2, none⟩ = some x) ∧ (∃ x, w.cell? ⟨gl, j * 2 + 1, none⟩ = some x) ∧
      w.frozen? ⟨gl, j * 2, none⟩ = false ∧ w.frozen? ⟨gl, j * 2 + 1, none⟩ = false ∧ B ≤ gl ∧ B ≤ gu ∧ (∀ i cs, w.heap[i]? = some (.cells cs 39 (0, 0)) → i ≠ gl) ∧
      ∀ (z : Int) (t : ByteArray), FlashOf ((w.setCell ⟨gl, j * 2, none⟩ (.int .i64 z)).setCell ⟨gl, j * 2 + 1, none⟩ (.string t)) B (.slice ud n ucap) (bs.modify k (fun r => (r.1, r.2.1, r.2.2.set j (z, t)))) := by
  obtain ⟨ss, rfl, hs⟩ := h
  rw [List.getElem?_map] at hk
  obtain ⟨r, hr, rfl⟩ := Option.map_eq_some_iff.1 hk
  obtain ⟨ud', ucap', e, -, -, u3⟩ := frow_form hs.1
  injection e with e1 e2 e3
  subst e1 e2 e3
  have hkl := (List.getElem?_eq_some_iff.1 hr).1
  obtain ⟨gu, rfl, hgu, -⟩ := u3 (by omega)
  obtain ⟨x, y, u, ls⟩ := r
  have hlf := hs.2.2.1 _ (List.mem_of_getElem? hr)
  simp only [tellOf] at hj hlf ⊢
  obtain ⟨ld, lcap, rfl, -, -, l3⟩ := frow_form hlf.1
  obtain ⟨gl, rfl, hgl, -⟩ := l3 (by omega)
  obtain ⟨-, -, c3⟩ := kown_cells (k := k) (t := cellOf (x, y, .slice (some ⟨gl, 0, none⟩) ls.length lcap, ls)) hs.1 (by rw [List.getElem?_map, hr]; rfl)
  obtain ⟨t0, ht⟩ : ∃ t0, ls[j]? = some t0 := ⟨ls[j], List.getElem?_eq_getElem hj⟩
  obtain ⟨d1, d2⟩ := lown_cells hlf.1 ht
  refine ⟨gu, gl, lcap, rfl, c3, ⟨_, d1⟩, ⟨_, d2⟩, hlf.1.frozenAt _, hlf.1.frozenAt _, hgl, hgu, leaf_not_flash hlf.1, fun z t => ⟨ss.set k (x, y, .slice (some ⟨gl, 0, none⟩) ls.length lcap, ls.set j (z, t)), modify_tell ss k _ _ hr _ rfl, ?_⟩⟩
  have g1 := grown_cell w gl (j * 2) (.int .i64 z)
  have g2 := grown_cell (w.setCell ⟨gl, j * 2, none⟩ (.int .i64 z)) gl (j * 2 + 1) (.string t)
  have gg : w.grownBy ((w.setCell ⟨gl, j * 2, none⟩ (.int .i64 z)).setCell ⟨gl, j * 2 + 1, none⟩ (.string t)) (some gl) :=
    ⟨g2.os.trans g1.os, g2.tape.trans g1.tape, g2.output.trans g1.output, Nat.le_trans g1.size g2.size, fun i hi hn => (g2.block i (Nat.lt_of_lt_of_le hi g1.size) hn).trans (g1.block i hi hn)⟩
  have o1 := fown_set (fown_set hlf.1 rfl (j * 2) (.int .i64 z)) rfl (j * 2 + 1) (.string t)
  rw [(lcells_upd ls j t0 ht).1 z, (lcells_upd (ls.set j (z, t0.2)) j (z, t0.2) (by rw [List.getElem?_set_self hj])).2 t, List.set_set] at o1
  have := hs.leaves (k := k) (ls' := ls.set j (z, t)) hr gg ⟨by rw [List.length_set]; exact o1, hlf.2⟩
  simpa [World.setCell] using this
theorem cell_two {w : World} {gl gu i j k : Nat} {u v x : Value} (h : w.cell? ⟨gu, k, none⟩ = some x) (hne : gu ≠ gl) : ((w.setCell ⟨gl, i, none⟩ u).setCell ⟨gl, j, none⟩ v).cell? ⟨gu, k, none⟩ = some x := by
  have hlt := World.block_lt_of_cell? w _ h
  have hn : some gu ≠ some gl := fun e => hne (by injection e)
  have h1 := (grown_cell w gl i u).cell_far ⟨gu, k, none⟩ hlt hn
  have h2 := (grown_cell (w.setCell ⟨gl, i, none⟩ u) gl j v).cell_far ⟨gu, k, none⟩ (by simpa [World.setCell] using hlt) hn
  exact h2.trans (h1.trans h)
end Go.Proofs.YtfmnaidhfgmemaaGreatDoor

namespace Go.Proofs.YtfmnaidhfgmemaaGreatDoor
open Go.RowKit
theorem mayP_yes {bs : List Bk} {b leaf : Int} {t : ByteArray} (hok : flOk bs = true) (h : mayP bs b leaf t = true) : ∃ (k j : Nat) (r : Bk), b = k ∧ leaf = j ∧ bs[k]? = some r ∧ j < 4 ∧ r.2.2.length = 4 := by
  unfold mayP at h
  cases hb : bs[b.toNat]? with
  | none => rw [hb] at h; cases h
  | some r =>
    rw [hb] at h
    have h := of_decide_eq_true h
    refine ⟨b.toNat, nextB r.2.2, r, by omega, h.2.2.2.1, hb, by omega, ?_⟩
    simp only [flOk, Bool.and_eq_true, List.all_eq_true] at hok
    have h2 := hok.2 r (List.mem_of_getElem? hb)
    simp only [blkOk, Bool.and_eq_true, decide_eq_true_eq] at h2
    exact h2.1.1
set_option maxHeartbeats 1600000 in
set_option maxRecDepth 100000 in
theorem sprog_rd (v : Value) (rs : List Rw) (b leaf : Int) (t : ByteArray) (w : World) (hl : rs.length ≤ 1048576) (hll : ∀ r ∈ rs, r.2.2.2.length ≤ 1048576) (ha : FlashRd w v rs) :
    Calls Tryz.prog 98 #[.agg #[v], .int .i64 b, .int .i64 leaf, .string t] w fun e w' => ∃ u, e = .returned (.tuple #[.agg #[u], .bool (programF (rs.map tellOf) b leaf t).2]) ∧ FlashOf w' w.heap.size u (programF (rs.map tellOf) b leaf t).1 ∧ Below w.heap.size w w' := by
  have HLL := hide hll
  have h1 := ha
  obtain ⟨vd, vcap, rfl, -, -⟩ := h1
  have hb0 := ((Below.refl w.heap.size w).alloc (Nat.le_refl _) (.cells #[.slice vd rs.length vcap] 39)).alloc (by simp) (.cells #[.slice none 0 0] 39)
  have HB0 := hide hb0
  have HA := hide (ha.below hb0)
  have r0 := (Below.heap_alloc (w.alloc (.cells #[.slice vd rs.length vcap] 39)) (.cells #[.slice none 0 0] 39) w.heap.size (by simp)).trans (heap_alloc_new w (.cells #[.slice vd rs.length vcap] 39))
  have r1 := heap_alloc_new (w.alloc (.cells #[.slice vd rs.length vcap] 39)) (.cells #[.slice none 0 0] 39)
  rw [show (w.alloc (.cells #[.slice vd rs.length vcap] 39)).heap.size = w.heap.size + 1 by simp] at r1
  have R0 := hide r0
  have R1 := hide r1
  have HZ := hide (show ((w.alloc (.cells #[.slice vd rs.length vcap] 39)).alloc (.cells #[.slice none 0 0] 39)).heap.size = w.heap.size + 2 by simp)
  clear ha hll hb0 r0 r1
  go_enter Tryz.func98, Tryz.ntmps98
  go_wp2_with fail
  refine (scopy_rd _ rs _ hl HLL.out HA.out).mono ?_
  rintro e w1 ⟨u, rfl, fo, b1⟩
  obtain ⟨ud, ucap, rfl⟩ := fo.form
  rw [List.length_map] at fo
  rw [List.length_map]
  have z1 := b1.size
  have HA1 := hide (HA.out.below b1)
  rw [HZ.out] at fo b1 z1
  have q0 := (b1.block _ (by omega)).trans R0.out
  have q1 := (b1.block _ (by omega)).trans R1.out
  have b2 := (Below.refl w1.heap.size w1).alloc (Nat.le_refl _) (.cells #[.slice ud rs.length ucap] 39)
  have q2 := heap_alloc_new w1 (.cells #[.slice ud rs.length ucap] 39)
  have p0 := (b2.block _ (by omega)).trans q0
  have p1 := (b2.block _ (by omega)).trans q1
  have HB2 := hide ((HB0.out.trans (b1.mono (by omega))).trans (b2.mono (by omega)))
  have HF2 := hide (fo.below b2)
  have HA2 := hide (HA1.out.below b2)
  have P0 := hide p0
  have P1 := hide p1
  have P2 := hide q2
  have HZ2 := hide (show (w1.alloc (.cells #[.slice ud rs.length ucap] 39)).heap.size = w1.heap.size + 1 by simp)
  have k0 : (w1.alloc (.cells #[.slice ud rs.length ucap] 39)).cell? ⟨w.heap.size, 0, none⟩ = some (.slice vd rs.length vcap) := cell_of_row _ _ 0 _ _ _ p0
  clear p0 p1 q0 q1 q2 b1 b2 fo
  go_wp2_with fail
  refine (sok_rd _ rs _ hl HLL.out HA2.out).mono ?_
  rintro e w3 ⟨rfl, b3⟩
  have z3 := b3.size
  have HA3 := hide (HA2.out.below b3)
  rw [HZ2.out] at b3 z3
  have t0 := (b3.block _ (by omega)).trans P0.out
  have t1 := (b3.block _ (by omega)).trans P1.out
  have t2 := (b3.block _ (by omega)).trans P2.out
  have HB3 := hide (HB2.out.trans (b3.mono (by omega)))
  have HF3 := hide (HF2.out.below (by rw [HZ2.out]; exact b3))
  have m0 : w3.cell? ⟨w.heap.size, 0, none⟩ = some (.slice vd rs.length vcap) := cell_of_row _ _ 0 _ _ _ t0
  have m1 : w3.cell? ⟨w.heap.size + 1, 0, none⟩ = some (.slice none 0 0) := cell_of_row _ _ 0 _ _ _ t1
  have m2 : w3.cell? ⟨w1.heap.size, 0, none⟩ = some (.slice ud rs.length ucap) := cell_of_row _ _ 0 _ _ _ t2
  have f1 := frozen_of_row _ _ 0 _ _ t1
  have T1 := hide t1
  have T2 := hide t2
  clear t0 t2 t1 b3 k0
  cases hok : flOk (rs.map tellOf) with
  | false =>
    have HP : Hid (programF (rs.map tellOf) b leaf t = (rs.map tellOf, false)) := by show _ = _; simp [programF, hok]
    have G := hide (HF3.out.cell (show w.heap.size + 1 < w.heap.size + 2 by omega) 0 (.slice ud rs.length ucap))
    have Q1 := hide (row_set T1.out 0 (.slice ud rs.length ucap))
    have HBE := hide (HB3.out.setCell (p := ⟨w.heap.size + 1, 0, none⟩) (by show _ ≤ _ + 1; omega) (.slice ud rs.length ucap))
    clear hok
    go_wp2
    exact bodyPost_ret (results_flash2 rfl _ _ (w.heap.size + 1) _ rfl Q1.out) rfl ⟨_, by rw [HP.out]; rfl, by rw [HP.out]; exact G.out.down (by omega), HBE.out⟩
  | true =>
    have HOK := hide hok
    clear hok
    go_wp2_with fail
    refine (smay_rd _ rs b leaf t _ hl HLL.out HA3.out).mono ?_
    rintro e w4 ⟨rfl, b4⟩
    have z4 := b4.size
    have t1 := (b4.block _ (by omega)).trans T1.out
    have t2 := (b4.block _ (by omega)).trans T2.out
    have HB4 := hide (HB3.out.trans (b4.mono (by omega)))
    have HF4 := hide (HF3.out.below b4)
    have n1 : w4.cell? ⟨w.heap.size + 1, 0, none⟩ = some (.slice none 0 0) := cell_of_row _ _ 0 _ _ _ t1
    have n2 : w4.cell? ⟨w1.heap.size, 0, none⟩ = some (.slice ud rs.length ucap) := cell_of_row _ _ 0 _ _ _ t2
    have o1 := frozen_of_row _ _ 0 _ _ t1
    have U1 := hide t1
    have U2 := hide t2
    clear m0 m1 m2 f1 t1 t2 b4
    cases hm : mayP (rs.map tellOf) b leaf t with
    | false =>
      have HP : Hid (programF (rs.map tellOf) b leaf t = (rs.map tellOf, false)) := by show _ = _; simp [programF, hm]
      have G := hide (HF4.out.cell (show w.heap.size + 1 < w.heap.size + 2 by omega) 0 (.slice ud rs.length ucap))
      have Q1 := hide (row_set U1.out 0 (.slice ud rs.length ucap))
      have HBE := hide (HB4.out.setCell (p := ⟨w.heap.size + 1, 0, none⟩) (by show _ ≤ _ + 1; omega) (.slice ud rs.length ucap))
      clear hm
      go_wp2
      exact bodyPost_ret (results_flash2 rfl _ _ (w.heap.size + 1) _ rfl Q1.out) rfl ⟨_, by rw [HP.out]; rfl, by rw [HP.out]; exact G.out.down (by omega), HBE.out⟩
    | true =>
      have HP0 : Hid (programF (rs.map tellOf) b leaf t = (putLeaf (rs.map tellOf) b.toNat leaf.toNat t, true)) := by show _ = _; simp [programF, hm, HOK.out]
      obtain ⟨k, j, r, rfl, rfl, hr, hj4, hr4⟩ := mayP_yes HOK.out hm
      obtain ⟨gu, gl, lcap, rfl, c3, ⟨x1, d1⟩, ⟨x2, d2⟩, f1, f2, hgl, hgu, hne, hput⟩ := HF4.out.put (j := j) hr (by omega)
      rw [hr4] at c3
      have hk1 := (List.getElem?_eq_some_iff.1 hr).1
      rw [List.length_map] at hk1
      have hkl : (k : Int) < rs.length := by omega
      have k0 : (0 : Int) ≤ k := by omega
      have j0 : (0 : Int) ≤ j := by omega
      have j4 : (j : Int) < 4 := by omega
      have HPUT := hide (hput 1 t)
      have HP : Hid (programF (rs.map tellOf) (k : Int) (j : Int) t = ((rs.map tellOf).modify k (fun r => (r.1, r.2.1, r.2.2.set j (1, t))), true)) := by show _ = _; rw [HP0.out]; rfl
      have v1 := row_set_ne (row_set_ne U1.out (hne _ _ U1.out) (j * 2) (.int .i64 1)) (hne _ _ U1.out) (j * 2 + 1) (.string t)
      have v2 := row_set_ne (row_set_ne U2.out (hne _ _ U2.out) (j * 2) (.int .i64 1)) (hne _ _ U2.out) (j * 2 + 1) (.string t)
      have x5 : ((w4.setCell ⟨gl, j * 2, none⟩ (.int .i64 1)).setCell ⟨gl, j * 2 + 1, none⟩ (.string t)).cell? ⟨w.heap.size + 1, 0, none⟩ = some (.slice none 0 0) := cell_of_row _ _ 0 _ _ _ v1
      have y5 : ((w4.setCell ⟨gl, j * 2, none⟩ (.int .i64 1)).setCell ⟨gl, j * 2 + 1, none⟩ (.string t)).cell? ⟨w1.heap.size, 0, none⟩ = some (.slice (some ⟨gu, 0, none⟩) rs.length ucap) := cell_of_row _ _ 0 _ _ _ v2
      have hne1 : w1.heap.size ≠ gl := hne _ _ U2.out
      have hne2 : w.heap.size + 1 ≠ gl := hne _ _ U1.out
      have G := hide (HPUT.out.cell (show w.heap.size + 1 < w.heap.size + 2 by omega) 0 (.slice (some ⟨gu, 0, none⟩) rs.length ucap))
      have Q1 := hide (row_set v1 0 (.slice (some ⟨gu, 0, none⟩) rs.length ucap))
      have HBE := hide (((HB4.out.setCell (p := ⟨gl, j * 2, none⟩) (by show _ ≤ gl; omega) (.int .i64 1)).setCell (p := ⟨gl, j * 2 + 1, none⟩) (by show _ ≤ gl; omega) (.string t)).setCell (p := ⟨w.heap.size + 1, 0, none⟩) (by show _ ≤ _ + 1; omega) (.slice (some ⟨gu, 0, none⟩) rs.length ucap))
      clear hput hm hr hr4 HP0 hne v1 v2
      go_wp2
      exact bodyPost_ret (results_flash2 rfl _ _ (w.heap.size + 1) _ rfl Q1.out) rfl ⟨_, by rw [HP.out]; rfl, by rw [HP.out]; exact G.out.down (by omega), HBE.out⟩
end Go.Proofs.YtfmnaidhfgmemaaGreatDoor
