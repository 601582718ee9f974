import Derived.Test.YtfmnaidhfgmemaaGreatDoorPk27
import Derived.Test.YtfmnaidhfgmemaaGreatDoorPk28
import Derived.Test.YtfmnaidhfgmemaaGreatDoorPk29
import Derived.Test.YtfmnaidhfgmemaaGreatDoorPk6
import Derived.Test.YtfmnaidhfgmemaaGreatDoorPk24
import Derived.Test.YtfmnaidhfgmemaaGreatDoorPk0
import Derived.Test.YtfmnaidhfgmemaaGreatDoorPk26
import Derived.Test.YtfmnaidhfgmemaaGreatDoorPk19
namespace Go.Proofs.YtfmnaidhfgmemaaGreatDoor
open Go.RowKit
open Words Sums
def RdN (q : Nat) (W : World) (v : Value) (bs : List Bk) : Prop := ∀ W' : World, W.heap.size ≤ W'.heap.size → (∀ x, x ≠ q → x < W.heap.size → W'.heap[x]? = W.heap[x]?) → RdB W' v bs
theorem RdN.rdb {q : Nat} {W : World} {v : Value} {bs : List Bk} (h : RdN q W v bs) : RdB W v bs := h W (Nat.le_refl _) (fun _ _ _ => rfl)
theorem RdN.keep {q : Nat} {W W' : World} {v : Value} {bs : List Bk} (h : RdN q W v bs) (hz : W.heap.size ≤ W'.heap.size) (hk : ∀ x, x ≠ q → x < W.heap.size → W'.heap[x]? = W.heap[x]?) : RdN q W' v bs :=
  fun V h1 h2 => h V (by omega) (fun x x1 x2 => (h2 x x1 (by omega)).trans (hk x x1 x2))
theorem rdb_blocks {w W : World} {v : Value} {bs : List Bk} (h : RdB w v bs) (hk : ∀ x, x < w.heap.size → W.heap[x]? = w.heap[x]?) : RdB W v bs := by
  have kc : ∀ (g o : Nat) (x : Value), w.cell? ⟨g, o, none⟩ = some x → W.cell? ⟨g, o, none⟩ = some x := fun g o x hx => (World.cell?_of_block (hk g (World.block_lt_of_cell? w _ hx))).trans hx
  obtain ⟨rs, e, vd, vcap, rfl, en, h⟩ := h
  refine ⟨rs, e, vd, vcap, rfl, en, fun k r hr => ?_⟩
  obtain ⟨g, e2, ⟨c1, c2, c3⟩, ld, lc, e3, en3, hl⟩ := h k r hr
  refine ⟨g, e2, ⟨kc _ _ _ c1, kc _ _ _ c2, kc _ _ _ c3⟩, ld, lc, e3, en3, fun j t ht => ?_⟩
  obtain ⟨gl, o, e4, d1, d2⟩ := hl j t ht
  exact ⟨gl, o, e4, kc _ _ _ d1, kc _ _ _ d2⟩
theorem RdN.of_rdb {q : Nat} {w W : World} {v : Value} {bs : List Bk} (h : RdB w v bs) (hb : Below w.heap.size w W) (hq : w.heap.size ≤ q) : RdN q W v bs :=
  fun V h1 h2 => rdb_blocks h (fun x hx => (h2 x (by omega) (by have := hb.size; omega)).trans (hb.block x hx))
theorem RdN.of_fla {q lo hi : Nat} {W : World} {v : Value} {bs : List Bk} (h : Fla lo hi v bs W) (hh : hi ≤ W.heap.size) (hq : q < lo) : RdN q W v bs :=
  fun V h1 h2 => (Fla.loc lo hi v bs W V (fun x x1 x2 => h2 x (by omega) (by omega)) h).rdb
theorem own_type16 {W : World} {B n z k : Nat} {u x : Value} {xs : List Value} {c : Array Value} (h : W.ownsRow B 67 4 u n xs) (hz : W.heap[z]? = some (.cells c 39 (0, 0))) : (W.setCell ⟨z, k, none⟩ x).ownsRow B 67 4 u n xs := by
  obtain ⟨h0, h⟩ := h
  refine ⟨h0, ?_⟩
  rcases h with h | ⟨g, cap, cur, e, h1, h2, h3⟩
  · exact .inl h
  · refine .inr ⟨g, cap, cur, e, h1, (Below.heap_setCell _ _ _ _ (fun hgz => ?_)).trans h2, h3⟩
    simp only at hgz
    subst hgz
    rw [hz] at h2
    simp at h2
theorem kept_put16 {w x : World} {ok : Nat → Prop} {g o : Nat} {u : Value} (h : Kept2 w x ok) (hg : w.heap.size ≤ g) : Kept2 w (x.setCell ⟨g, o, none⟩ u) ok :=
  ⟨h.1, h.2.1, h.2.2.1, by simpa [World.setCell] using h.2.2.2.1, fun i hi ho => (Below.heap_setCell _ _ _ _ (by show i ≠ g; omega)).trans (h.2.2.2.2 i hi ho)⟩
theorem splace16 (v : Value) (bs : List Bk) (w : World) (hs : Sml bs) (ha : RdB w v bs) :
    Calls Tryz.prog 66 #[.agg #[v]] w fun e w' => e = .returned (plV (placeF bs)) ∧ Below w.heap.size w w' := by
  obtain ⟨rs, rfl, h, l, ll, lt⟩ := ha.lens hs
  exact splace_rd v rs w l ll h
theorem ptRes_is (p : Pg) : ptRes p = .tuple #[.string (pgT p).1, .bool (pgT p).2] := by
  unfold ptRes pgT
  split <;> rfl
theorem infoFlS16 : (Tryz.prog.info? 39).map (·.size) = some 1 := by kernel_rfl
theorem results_fl3 {fn : Func} {p q r : Tmp} (h : fn.results = #[.cell p 39, .tmp q, .tmp r]) (tmps : Array Value) (w : World) (g : Nat) (v : Value)
    (hp : tmps.getD p undef = .pointer (some ⟨g, 0, none⟩)) (hg : w.heap[g]? = some (.cells #[v] 39 (0, 0))) :
    (results fn tmps).run Tryz.prog w = .ok (.tuple #[.agg #[v], tmps.getD q undef, tmps.getD r undef]) w := by
  have hp' : tmps[p]?.getD undef = .pointer (some ⟨g, 0, none⟩) := by simpa using hp
  have hl := run_loadVar_row (P := Tryz.prog) w g 39 39 #[v] (0, 0) _ hg Tryz.underlying39 rfl infoFlS16
  simp [results, h, hp', asAddr, hl]
theorem one_st16 (k b lf : Int) (t : ByteArray) : ∀ u ∈ [Value.int .i64 k, Value.int .i64 b, Value.int .i64 lf, Value.string t], u.oneCell' = true := by
  intro u hu
  simp only [List.mem_cons, List.not_mem_nil, or_false] at hu
  rcases hu with rfl | rfl | rfl | rfl <;> rfl
theorem new_cells16 (w : World) (cs : Array Value) (t : TypeId) (g : Nat) (hg : w.heap.size = g) : ∀ (j : Nat) (u : Value), cs.toList[j]? = some u → (w.alloc (.cells cs t)).cell? ((⟨g, 0, none⟩ : Addr).add j) = some u := by
  intro j u hj
  subst hg
  rw [addr_at]
  exact cell_of_row _ _ j _ _ _ (heap_alloc_new w (.cells cs t)) |>.trans (by simpa using hj)
def PutO16 (B q : Nat) (w : World) (u : Value) (r : List Bk × List Stp × Bool) (e : Ending) (w' : World) : Prop :=
  ∃ v' u', e = .returned (.tuple #[.agg #[v'], u', .bool r.2.2]) ∧ RdN q w' v' r.1 ∧ w'.ownsRow B 67 4 u' r.2.1.length (stcells r.2.1) ∧ Kept2 w w' (fun x => u.ownBlock ≠ some x)
set_option maxHeartbeats 2000000 in
set_option maxRecDepth 100000 in
theorem sput16 (v u : Value) (bs : List Bk) (l : List Stp) (p : Pg) (B q : Nat) (w : World) (hs : Sml bs) (hl : l.length ≤ 1000000000000) (ha : RdN q w v bs) (ho : w.ownsRow B 67 4 u l.length (stcells l)) (hB : B ≤ w.heap.size) (hq : q < w.heap.size) :
    Calls Tryz.prog 42 #[.agg #[v], u, pgVal p] w (PutO16 B q w u (putP bs l p)) := by
  obtain ⟨fd, fc, rfl⟩ := ha.rdb.form
  obtain ⟨i0, hi0, hz0, hz1, hz2⟩ := info_parts infoSt
  have I0 := hide hi0
  have I1 := hide hz0
  have I2 := hide hz1
  have I3 := hide hz2
  have HPT := hide (ptRes_is p)
  obtain ⟨tx, ok, hpt⟩ : ∃ tx ok, pgT p = (tx, ok) := ⟨_, _, rfl⟩
  obtain ⟨b, lf, rm, hpl⟩ : ∃ b lf rm, placeF bs = (b, lf, rm) := ⟨_, _, _, rfl⟩
  have HP : Hid (putP bs l p = if (ok && rm) = true then ((doF bs (1, b, lf, tx)).1, l ++ [(1, b, lf, tx)], (doF bs (1, b, lf, tx)).2) else (bs, l, false)) := by show _ = _; unfold putP; rw [hpt, hpl]
  have HPL := hide hpl
  rw [hpt] at HPT
  simp only at HPT
  obtain ⟨pk, pq, px, pp, pc, pt⟩ := p
  obtain ⟨R, hR⟩ : ∃ R, putP bs l ⟨pk, pq, px, pp, pc, pt⟩ = R := ⟨_, rfl⟩
  rw [hR] at HP ⊢
  have s0 : (w.alloc (.cells #[.slice fd bs.length fc] 39)).heap.size = w.heap.size + 1 := by simp
  have s1 : ((w.alloc (.cells #[.slice fd bs.length fc] 39)).alloc (.cells #[.int .i64 pk, .int .i64 pq, .int .i64 px, .int .i64 pp, .int .i64 pc, .string pt] 92)).heap.size = w.heap.size + 1 + 1 := by simp
  have b0 : Below w.heap.size w (w.alloc (.cells #[.slice fd bs.length fc] 39)) := (Below.refl _ _).alloc (Nat.le_refl _) _
  have b1 : Below w.heap.size w ((w.alloc (.cells #[.slice fd bs.length fc] 39)).alloc (.cells #[.int .i64 pk, .int .i64 pq, .int .i64 px, .int .i64 pp, .int .i64 pc, .string pt] 92)) := b0.alloc (by omega) _
  have bA : Below w.heap.size w (((w.alloc (.cells #[.slice fd bs.length fc] 39)).alloc (.cells #[.int .i64 pk, .int .i64 pq, .int .i64 px, .int .i64 pp, .int .i64 pc, .string pt] 92)).alloc (.cells #[.slice none 0 0] 39)) := b1.alloc (by omega) _
  have g0 : (((w.alloc (.cells #[.slice fd bs.length fc] 39)).alloc (.cells #[.int .i64 pk, .int .i64 pq, .int .i64 px, .int .i64 pp, .int .i64 pc, .string pt] 92)).alloc (.cells #[.slice none 0 0] 39)).heap[w.heap.size]? = some (.cells #[.slice fd bs.length fc] 39 (0, 0)) := (heap_alloc_old _ _ (by simp; omega)).trans ((heap_alloc_old _ _ (by simp)).trans (heap_alloc_new w _))
  have g1 : (((w.alloc (.cells #[.slice fd bs.length fc] 39)).alloc (.cells #[.int .i64 pk, .int .i64 pq, .int .i64 px, .int .i64 pp, .int .i64 pc, .string pt] 92)).alloc (.cells #[.slice none 0 0] 39)).heap[w.heap.size + 1]? = some (.cells #[.int .i64 pk, .int .i64 pq, .int .i64 px, .int .i64 pp, .int .i64 pc, .string pt] 92 (0, 0)) := by
    refine (heap_alloc_old _ _ (by simp)).trans ?_
    rw [← s0]
    exact heap_alloc_new _ _
  have g2 : (((w.alloc (.cells #[.slice fd bs.length fc] 39)).alloc (.cells #[.int .i64 pk, .int .i64 pq, .int .i64 px, .int .i64 pp, .int .i64 pc, .string pt] 92)).alloc (.cells #[.slice none 0 0] 39)).heap[w.heap.size + 1 + 1]? = some (.cells #[.slice none 0 0] 39 (0, 0)) := by
    rw [← s1]
    exact heap_alloc_new _ _
  generalize hwa : ((w.alloc (.cells #[.slice fd bs.length fc] 39)).alloc (.cells #[.int .i64 pk, .int .i64 pq, .int .i64 px, .int .i64 pp, .int .i64 pc, .string pt] 92)).alloc (.cells #[.slice none 0 0] 39) = wa at bA g0 g1 g2
  have CP := hide (spageText ⟨pk, pq, px, pp, pc, pt⟩ wa)
  rw [HPT.out] at CP
  unfold pgVal at CP ⊢
  simp only at CP ⊢
  have HBA := hide bA
  have G0 := hide g0
  have G2 := hide g2
  have HA := hide ha
  have HS := hide hs
  have HO := hide ho
  have c0 := cell_of_row _ _ 0 _ _ _ g1
  have c1 := cell_of_row _ _ 1 _ _ _ g1
  have c2 := cell_of_row _ _ 2 _ _ _ g1
  have c3 := cell_of_row _ _ 3 _ _ _ g1
  have c4 := cell_of_row _ _ 4 _ _ _ g1
  have c5 := cell_of_row _ _ 5 _ _ _ g1
  clear hi0 hz0 hz1 hz2 hpt hpl hR s0 s1 b0 b1 bA g0 g1 g2 ha hs ho HPT
  go_enter Tryz.func42, Tryz.ntmps42
  go_wp2_with fail
  clear hwa
  refine CP.out.mono ?_
  rintro e w1 ⟨rfl, b1⟩
  have B1 := hide (HBA.out.trans (b1.mono HBA.out.size))
  have F1 := hide ((b1.block _ (Array.getElem?_eq_some_iff.1 G0.out).1).trans G0.out)
  have Z1 := hide ((b1.block _ (Array.getElem?_eq_some_iff.1 G2.out).1).trans G2.out)
  have k1 := cell_of_row _ _ 0 _ _ _ F1.out
  have CL := hide (splace16 (.slice fd bs.length fc) bs w1 HS.out (HA.out.rdb.below B1.out))
  rw [HPL.out] at CL
  unfold plV at CL
  simp only at CL
  clear CP HBA G0 G2 HPL b1 c0 c1 c2 c3 c4 c5
  go_wp2_with fail
  refine CL.out.mono ?_
  rintro e w2 ⟨rfl, b2⟩
  have B2 := hide (B1.out.trans (b2.mono B1.out.size))
  have F2 := hide ((b2.block _ (Array.getElem?_eq_some_iff.1 F1.out).1).trans F1.out)
  have Z2 := hide ((b2.block _ (Array.getElem?_eq_some_iff.1 Z1.out).1).trans Z1.out)
  have hz2 := (Array.getElem?_eq_some_iff.1 Z2.out).1
  clear CL B1 F1 Z1 b2 k1
  by_cases hc : (ok && rm) = true
  case neg =>
    have HE : Hid (R = (bs, l, false)) := by show _ = _; rw [HP.out, if_neg hc]
    have k0 := cell_of_row _ _ 0 _ _ _ F2.out
    have k1 := cell_of_row _ _ 0 _ _ _ Z2.out
    have k2 := frozen_of_row _ _ 0 _ _ Z2.out
    have RB := hide (B2.out.setCell (p := ⟨w.heap.size + 1 + 1, 0, none⟩) (by show _ ≤ _ + 1 + 1; omega) (.slice fd bs.length fc))
    have RR : Hid ((w2.setCell ⟨w.heap.size + 1 + 1, 0, none⟩ (.slice fd bs.length fc)).heap[w.heap.size + 1 + 1]? = some (.cells #[.slice fd bs.length fc] 39 (0, 0))) := heap_setCell_same _ _ 0 _ _ _ Z2.out
    have FN : Hid (PutO16 B q w u (bs, l, false) (.returned (.tuple #[.agg #[.slice fd bs.length fc], u, .bool false])) (w2.setCell ⟨w.heap.size + 1 + 1, 0, none⟩ (.slice fd bs.length fc))) := ⟨_, _, rfl, HA.out.keep RB.out.size (fun x _ x2 => RB.out.block x x2), own_below HO.out RB.out, Kept2.below RB.out⟩
    have hcc : ok = false ∨ (ok = true ∧ rm = false) := by
      cases ok with
      | false => exact .inl rfl
      | true => cases rm with
        | false => exact .inr ⟨rfl, rfl⟩
        | true => exact absurd rfl hc
    clear HP hc F2 Z2 B2 HA HO RB
    rcases hcc with rfl | ⟨rfl, rfl⟩
    all_goals
      go_wp2
      refine bodyPost_ret (results_fl3 rfl _ _ (w.heap.size + 1 + 1) _ rfl RR.out) rfl ?_
      rw [HE.out]
      exact FN.out
  case pos =>
    have HE : Hid (R = ((doF bs (1, b, lf, tx)).1, l ++ [(1, b, lf, tx)], (doF bs (1, b, lf, tx)).2)) := by show _ = _; rw [HP.out, if_pos hc]
    obtain ⟨rfl, rfl⟩ : ok = true ∧ rm = true := by simpa using hc
    obtain ⟨cs, yes, hcs⟩ : ∃ cs yes, doF bs (1, b, lf, tx) = (cs, yes) := ⟨_, _, rfl⟩
    rw [hcs] at HE
    have b3 : Below w2.heap.size w2 (w2.alloc (.cells #[.int .i64 1, .int .i64 b, .int .i64 lf, .string tx] 67)) := (Below.refl _ _).alloc (Nat.le_refl _) _
    have t3 : (w2.alloc (.cells #[.int .i64 1, .int .i64 b, .int .i64 lf, .string tx] 67)).heap[w2.heap.size]? = some (.cells #[.int .i64 1, .int .i64 b, .int .i64 lf, .string tx] 67 (0, 0)) := heap_alloc_new _ _
    have B3 := hide (B2.out.trans (b3.mono B2.out.size))
    have F3 := hide ((b3.block _ (Array.getElem?_eq_some_iff.1 F2.out).1).trans F2.out)
    have Z3 := hide ((b3.block _ (Array.getElem?_eq_some_iff.1 Z2.out).1).trans Z2.out)
    have hs3 : (w2.alloc (.cells #[.int .i64 1, .int .i64 b, .int .i64 lf, .string tx] 67)).heap.size = w2.heap.size + 1 := by simp
    generalize hw3 : w2.alloc (.cells #[.int .i64 1, .int .i64 b, .int .i64 lf, .string tx] 67) = w3 at b3 t3 B3 F3 Z3 hs3
    have T3 := hide t3
    have CD := hide (sdo_b (.slice fd bs.length fc) bs (1, b, lf, tx) w3 HS.out (HA.out.rdb.below B3.out))
    rw [hcs] at CD
    unfold stV at CD
    simp only at CD
    have k0 := cell_of_row _ _ 0 _ _ _ F3.out
    have c0 := cell_of_row _ _ 0 _ _ _ t3
    have c1 := cell_of_row _ _ 1 _ _ _ t3
    have c2 := cell_of_row _ _ 2 _ _ _ t3
    have c3 := cell_of_row _ _ 3 _ _ _ t3
    clear HP hc F2 Z2 B2 hcs b3 t3
    go_wp2_with fail
    clear hw3
    refine CD.out.mono ?_
    rintro e w4 ⟨nv, rfl, fo, b4⟩
    obtain ⟨nd, nc, rfl⟩ := fo.form
    have b5 : Below w4.heap.size w4 (w4.alloc (.cells #[.slice nd cs.length nc] 39)) := (Below.refl _ _).alloc (Nat.le_refl _) _
    have n5 : (w4.alloc (.cells #[.slice nd cs.length nc] 39)).heap[w4.heap.size]? = some (.cells #[.slice nd cs.length nc] 39 (0, 0)) := heap_alloc_new _ _
    have hs5 : (w4.alloc (.cells #[.slice nd cs.length nc] 39)).heap.size = w4.heap.size + 1 := by simp
    have bb := B3.out.trans (b4.mono B3.out.size)
    have B5 := hide (bb.trans (b5.mono bb.size))
    have T5 := hide (((b5.block _ (by have := b4.size; omega)).trans (b4.block _ (by omega))).trans T3.out)
    have Z5 := hide (((b5.block _ (by have := b4.size; omega)).trans (b4.block _ (by omega))).trans Z3.out)
    have FO : Hid (Fla w3.heap.size w4.heap.size (.slice nd cs.length nc) cs (w4.alloc (.cells #[.slice nd cs.length nc] 39))) := Fla.loc _ _ _ _ w4 _ (fun x x1 x2 => b5.block x x2) fo
    have hs4 := b4.size
    generalize hw5 : w4.alloc (.cells #[.slice nd cs.length nc] 39) = w5 at b5 n5 hs5 B5 T5 Z5 FO
    have SD : (w5.drew.cell? ⟨w4.heap.size, 0, none⟩ = some (.slice nd cs.length nc)) ∧ w5.drew.cell? ⟨w2.heap.size, 0, none⟩ = some (.int .i64 1) ∧ w5.drew.cell? ⟨w2.heap.size, 1, none⟩ = some (.int .i64 b) ∧ w5.drew.cell? ⟨w2.heap.size, 2, none⟩ = some (.int .i64 lf) ∧ w5.drew.cell? ⟨w2.heap.size, 3, none⟩ = some (.string tx) := ⟨cell_of_row _ _ 0 _ _ _ n5, cell_of_row _ _ 0 _ _ _ T5.out, cell_of_row _ _ 1 _ _ _ T5.out, cell_of_row _ _ 2 _ _ _ T5.out, cell_of_row _ _ 3 _ _ _ T5.out⟩
    have B6 : Hid (Below w.heap.size w (w5.drew.alloc (.cells #[.int .i64 1, .int .i64 b, .int .i64 lf, .string tx] 67))) := B5.out.drew.alloc (by have := B5.out.size; exact this) _
    have OW := hide (own_below HO.out B6.out)
    have N6 : Hid ((w5.drew.alloc (.cells #[.int .i64 1, .int .i64 b, .int .i64 lf, .string tx] 67)).heap[w4.heap.size]? = some (.cells #[.slice nd cs.length nc] 39 (0, 0))) := (heap_alloc_old _ _ (by show _ < w5.heap.size; omega)).trans n5
    have T6 : Hid ((w5.drew.alloc (.cells #[.int .i64 1, .int .i64 b, .int .i64 lf, .string tx] 67)).heap[w2.heap.size]? = some (.cells #[.int .i64 1, .int .i64 b, .int .i64 lf, .string tx] 67 (0, 0))) := (heap_alloc_old _ _ (by show _ < w5.heap.size; omega)).trans T5.out
    have Z6 : Hid ((w5.drew.alloc (.cells #[.int .i64 1, .int .i64 b, .int .i64 lf, .string tx] 67)).heap[w.heap.size + 1 + 1]? = some (.cells #[.slice none 0 0] 39 (0, 0))) := (heap_alloc_old _ _ (by show _ < w5.heap.size; omega)).trans Z5.out
    have FO6 : Hid (Fla w3.heap.size w4.heap.size (.slice nd cs.length nc) cs (w5.drew.alloc (.cells #[.int .i64 1, .int .i64 b, .int .i64 lf, .string tx] 67))) := Fla.loc _ _ _ _ w5 _ (fun x x1 x2 => heap_alloc_old _ _ (by show _ < w5.heap.size; omega)) FO.out
    have SE : ((w5.drew.alloc (.cells #[.int .i64 1, .int .i64 b, .int .i64 lf, .string tx] 67)).cell? ⟨w4.heap.size, 0, none⟩ = some (.slice nd cs.length nc)) ∧ (w5.drew.alloc (.cells #[.int .i64 1, .int .i64 b, .int .i64 lf, .string tx] 67)).cell? ⟨w2.heap.size, 0, none⟩ = some (.int .i64 1) ∧ (w5.drew.alloc (.cells #[.int .i64 1, .int .i64 b, .int .i64 lf, .string tx] 67)).cell? ⟨w2.heap.size, 1, none⟩ = some (.int .i64 b) ∧ (w5.drew.alloc (.cells #[.int .i64 1, .int .i64 b, .int .i64 lf, .string tx] 67)).cell? ⟨w2.heap.size, 2, none⟩ = some (.int .i64 lf) ∧ (w5.drew.alloc (.cells #[.int .i64 1, .int .i64 b, .int .i64 lf, .string tx] 67)).cell? ⟨w2.heap.size, 3, none⟩ = some (.string tx) := ⟨cell_of_row _ _ 0 _ _ _ N6.out, cell_of_row _ _ 0 _ _ _ T6.out, cell_of_row _ _ 1 _ _ _ T6.out, cell_of_row _ _ 2 _ _ _ T6.out, cell_of_row _ _ 3 _ _ _ T6.out⟩
    have HN := hide (new_cells16 w5.drew #[.int .i64 1, .int .i64 b, .int .i64 lf, .string tx] 67 w5.heap.size rfl)
    have HZ6 : Hid (B ≤ (w5.drew.alloc (.cells #[.int .i64 1, .int .i64 b, .int .i64 lf, .string tx] 67)).heap.size) := Nat.le_trans hB B6.out.size
    have hs6 : (w5.drew.alloc (.cells #[.int .i64 1, .int .i64 b, .int .i64 lf, .string tx] 67)).heap.size = w5.heap.size + 1 := (show (w5.drew.alloc (.cells #[.int .i64 1, .int .i64 b, .int .i64 lf, .string tx] 67)).heap.size = w5.drew.heap.size + 1 by simp)
    have HLT : Hid (∀ x, x < w5.heap.size → x < (w5.drew.alloc (.cells #[.int .i64 1, .int .i64 b, .int .i64 lf, .string tx] 67)).heap.size) := fun x hx => by rw [hs6]; omega
    have HUL := hide (own_block_lt HO.out)
    have hw2s : w.heap.size + 1 + 1 < w2.heap.size := hz2
    clear CD b4 b5 bb fo k0 c0 c1 c2 c3 T3 F3 Z3 B3
    go_upto_region 7 with fail
    clear hw5
    refine wp_region_ops (fun w' => (w'.cell? ⟨w4.heap.size, 0, none⟩ = some (.slice nd cs.length nc)) ∧ w'.cell? ⟨w2.heap.size, 0, none⟩ = some (.int .i64 1) ∧ w'.cell? ⟨w2.heap.size, 1, none⟩ = some (.int .i64 b) ∧ w'.cell? ⟨w2.heap.size, 2, none⟩ = some (.int .i64 lf) ∧ w'.cell? ⟨w2.heap.size, 3, none⟩ = some (.string tx)) (by kernel_rfl) SD (fun hHeld => ?_)
    simp only [List.length_cons, List.length_nil, Nat.reduceAdd]
    refine takeL 0 (v := ?_) rfl (by kernel_rfl) (by kernel_rfl) (by kernel_rfl) (fun _ _ _ h => h) (by rfl) (by assumption) ?_ ?_
    rotate_left 1
    · (intro w hSw; (try dsimp only at hSw); go_simp; all_goals with_reducible rfl)
    simp only [Act.put, List.setIfInBounds_toArray, List.set_cons_zero, List.set_cons_succ]
    refine takeL 1 (v := ?_) rfl (by kernel_rfl) (by kernel_rfl) (by kernel_rfl) (fun _ _ _ h => h) (by rfl) (by assumption) ?_ ?_
    rotate_left 1
    · (intro w hSw; (try dsimp only at hSw); go_simp; all_goals with_reducible rfl)
    simp only [Act.put, List.setIfInBounds_toArray, List.set_cons_zero, List.set_cons_succ]
    refine takeL 2 (v := ?_) rfl (by kernel_rfl) (by kernel_rfl) (by kernel_rfl) (fun _ _ _ h => h) (by rfl) (by assumption) ?_ ?_
    rotate_left 1
    · (intro w hSw; (try dsimp only at hSw); go_simp; all_goals with_reducible rfl)
    simp only [Act.put, List.setIfInBounds_toArray, List.set_cons_zero, List.set_cons_succ]
    refine takeL 5 (v := ?_) rfl (by kernel_rfl) (by kernel_rfl) (by kernel_rfl) (fun _ _ _ h => h) (by rfl) (by assumption) ?_ ?_
    rotate_left 1
    · (intro w hSw; (try dsimp only at hSw); go_simp; all_goals with_reducible rfl)
    simp only [Act.put, List.setIfInBounds_toArray, List.set_cons_zero, List.set_cons_succ]
    refine oneL 3 rfl (by kernel_rfl) (fun K hK => ?_)
    go_simp
    refine hK.out _ _ SE (fun hHeld2 => ?_)
    clear hK K hHeld
    have hHeld := hHeld2
    clear hHeld2
    (try simp only [Act.put, List.setIfInBounds_toArray, List.set_cons_zero, List.set_cons_succ])
    refine oneL 4 rfl (by kernel_rfl) (fun K hK => ?_)
    refine step_append_own _ (by rfl) (.tmp 47) (.tmp 49) 34 (by rfl) B 67 i0 (.agg #[.int .i64 0, .int .i64 0, .int .i64 0, .string ⟨#[]⟩]) 4 40 Tryz.underlying34 I0.out I1.out I2.out I3.out rfl (by decide) _ l.length (stcells l) (by simp [Act.eval]) OW.out ⟨w5.heap.size, 0, none⟩ 1 1 [.int .i64 1, .int .i64 b, .int .i64 lf, .string tx] (by simp [Act.eval]) rfl HN.out (one_st16 _ _ _ _) (by unfold maxLen; omega) (by omega) HZ6.out ?_
    intro u7 w7 o7 g7
    have hne : ∀ x, w.heap.size ≤ x → some x ≠ u.ownBlock := fun x hx e => by have := (HUL.out x e.symm).2; omega
    have N7 := hide ((g7.block _ (HLT.out _ (by omega)) (hne w4.heap.size (by omega))).trans N6.out)
    have T7 := hide ((g7.block _ (HLT.out _ (by omega)) (hne w2.heap.size (by omega))).trans T6.out)
    have Z7 := hide ((g7.block _ (HLT.out _ (by omega)) (hne (w.heap.size + 1 + 1) (by omega))).trans Z6.out)
    have FO7 : Hid (Fla w3.heap.size w4.heap.size (.slice nd cs.length nc) cs w7) := Fla.loc _ _ _ _ _ _ (fun x x1 x2 => g7.block x (HLT.out _ (by omega)) (hne x (by omega))) FO6.out
    have SF : (w7.cell? ⟨w4.heap.size, 0, none⟩ = some (.slice nd cs.length nc)) ∧ w7.cell? ⟨w2.heap.size, 0, none⟩ = some (.int .i64 1) ∧ w7.cell? ⟨w2.heap.size, 1, none⟩ = some (.int .i64 b) ∧ w7.cell? ⟨w2.heap.size, 2, none⟩ = some (.int .i64 lf) ∧ w7.cell? ⟨w2.heap.size, 3, none⟩ = some (.string tx) := ⟨cell_of_row _ _ 0 _ _ _ N7.out, cell_of_row _ _ 0 _ _ _ T7.out, cell_of_row _ _ 1 _ _ _ T7.out, cell_of_row _ _ 2 _ _ _ T7.out, cell_of_row _ _ 3 _ _ _ T7.out⟩
    have KK : Hid (Kept2 w w7 (fun x => u.ownBlock ≠ some x)) := (Kept2.below B6.out).trans (Kept2.grown g7 (fun j e hh => hh e))
    have hs7 : w5.heap.size < w7.heap.size := Nat.lt_of_lt_of_le (show w5.heap.size < (w5.drew.alloc (.cells #[.int .i64 1, .int .i64 b, .int .i64 lf, .string tx] 67)).heap.size by rw [hs6]; omega) g7.size
    have O7 := hide o7
    have z0 := cell_of_row _ _ 0 _ _ _ Z7.out
    have z1 := frozen_of_row _ _ 0 _ _ Z7.out
    clear o7 g7 N7 T7 N6 T6 Z6 FO6 OW B6 HN HZ6
    refine hK.out _ _ SF (fun hHeld2 => ?_)
    clear hK K hHeld
    have hHeld := hHeld2
    clear hHeld2
    (try simp only [Act.put, List.setIfInBounds_toArray, List.set_cons_zero, List.set_cons_succ])
    refine oneL 6 rfl (by kernel_rfl) (fun K hK => ?_)
    go_simp
    refine hK.out _ _ (by first | go_keep | (refine ⟨?_, ?_, ?_, ?_, ?_⟩ <;> (rw [World.cell?_setCell_other (h := fun e => by have := congrArg Addr.block e; simp at this; omega)]; first | exact SF.1 | exact SF.2.1 | exact SF.2.2.1 | exact SF.2.2.2.1 | exact SF.2.2.2.2))) (fun hHeld2 => ?_)
    clear hK K hHeld
    have hHeld := hHeld2
    clear hHeld2
    (try simp only [Act.put, List.setIfInBounds_toArray, List.set_cons_zero, List.set_cons_succ])
    refine takeL 7 (v := ?_) rfl (by kernel_rfl) (by kernel_rfl) (by kernel_rfl) (fun _ _ _ h => h) (by rfl) (by assumption) ?_ ?_
    rotate_left 1
    · (intro w hSw; (try dsimp only at hSw); go_simp; all_goals with_reducible rfl)
    simp only [Act.put, List.setIfInBounds_toArray, List.set_cons_zero, List.set_cons_succ]
    refine takeL 8 (v := ?_) rfl (by kernel_rfl) (by kernel_rfl) (by kernel_rfl) (fun _ _ _ h => h) (by rfl) (by assumption) ?_ ?_
    rotate_left 1
    · (intro w hSw; (try dsimp only at hSw); go_simp; all_goals with_reducible rfl)
    simp only [Act.put, List.setIfInBounds_toArray, List.set_cons_zero, List.set_cons_succ]
    refine doneL (by kernel_rfl) ?_
    have RR : Hid ((w7.setCell ⟨w.heap.size + 1 + 1, 0, none⟩ (.slice nd cs.length nc)).heap[w.heap.size + 1 + 1]? = some (.cells #[.slice nd cs.length nc] 39 (0, 0))) := heap_setCell_same _ _ 0 _ _ _ Z7.out
    have FN : Hid (PutO16 B q w u (cs, l ++ [(1, b, lf, tx)], yes) (.returned (.tuple #[.agg #[.slice nd cs.length nc], u7, .bool yes])) (w7.setCell ⟨w.heap.size + 1 + 1, 0, none⟩ (.slice nd cs.length nc))) := by
      refine ⟨_, _, rfl, RdN.of_fla (lo := w3.heap.size) (hi := w4.heap.size) (Fla.loc _ _ _ _ w7 _ (fun x x1 x2 => Below.heap_setCell _ _ _ _ (by show x ≠ w.heap.size + 1 + 1; omega)) FO7.out) (by simp [World.setCell]; omega) (by omega), ?_, kept_put16 KK.out (by omega)⟩
      have h1 := own_type16 (k := 0) (x := .slice nd cs.length nc) O7.out Z7.out
      have h2 : stcells (l ++ [((1, b, lf, tx) : Stp)]) = stcells l ++ [.int .i64 1, .int .i64 b, .int .i64 lf, .string tx] := by rw [stcells_app]; rfl
      show World.ownsRow _ B _ 4 u7 (l ++ [((1, b, lf, tx) : Stp)]).length (stcells (l ++ [((1, b, lf, tx) : Stp)]))
      rw [h2, List.length_append]
      exact h1
    clear hHeld SD SE SF KK O7 Z7 FO7 z0 z1
    go_wp2
    refine bodyPost_ret (results_fl3 rfl _ _ (w.heap.size + 1 + 1) _ rfl RR.out) rfl ?_
    rw [HE.out]
    exact FN.out
end Go.Proofs.YtfmnaidhfgmemaaGreatDoor
