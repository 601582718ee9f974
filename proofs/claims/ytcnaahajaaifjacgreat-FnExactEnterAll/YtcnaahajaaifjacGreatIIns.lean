/-
  slices.Insert of one volume.
-/
import Derived.Test.YtcnaahajaaifjacGreatPk43
import Derived.Laws.Externs
namespace Go.Proofs.YtcnaahajaaifjacGreat
open Go.RowKit
open Words

/-- The cells of a row into which one is put. -/
theorem ins_shift {L xs : List Value} {l : List (Int × Int)} {x : Int × Int} {i n : Nat} (hn : l.length = n) (hi : i < n) (hL : (n + 1) * 2 ≤ L.length) (ht : L.take (n * 2) = vlcells l) (hx : xs = vlcell x) : (lay (lay L ((i + 1) * 2) (vlcells (l.drop i))) (i * 2) xs).take ((n + 1) * 2) = vlcells (l.take i ++ x :: l.drop i) := by
  have hd : (vlcells (l.drop i)).length = (n - i) * 2 := by rw [vlcells_len, List.length_drop, hn]
  have hxl : xs.length = 2 := by rw [hx]; rfl
  have h1 : (i + 1) * 2 + (vlcells (l.drop i)).length ≤ L.length := by rw [hd]; omega
  apply List.ext_getElem?
  intro k
  by_cases hk : k < (n + 1) * 2
  · rw [List.getElem?_take_of_lt hk, lay_at (by rw [lay_len h1, hxl]; omega), hxl, vlcells_app, vlcells_cons]
    have ha : (vlcells (l.take i)).length = i * 2 := by rw [vlcells_len, List.length_take]; congr 1; omega
    by_cases k1 : i * 2 ≤ k ∧ k < i * 2 + 2
    · rw [if_pos k1, List.getElem?_append_right (by omega), List.getElem?_append_left (by rw [ha]; show k - i * 2 < 2; omega), ha, hx]
    · rw [if_neg k1, lay_at h1]
      by_cases k2 : k < i * 2
      · rw [if_neg (by omega), List.getElem?_append_left (by omega), ← vlcells_take, List.getElem?_take_of_lt k2, ← ht, List.getElem?_take_of_lt (by omega)]
      · rw [if_pos (by rw [hd]; omega), List.getElem?_append_right (by omega), List.getElem?_append_right (by rw [ha]; show 2 ≤ _; omega), ha]
        congr 1
        show _ = _ - 2
        omega
  · rw [List.getElem?_eq_none (by rw [List.length_take]; omega), List.getElem?_eq_none (by rw [vlcells_len]; simp; omega)]
/-- .. into a new row. -/
theorem ins_grow {L xs : List Value} {l : List (Int × Int)} {x : Int × Int} {i n : Nat} (hn : l.length = n) (hi : i < n) (hL : (n + 1) * 2 ≤ L.length) (ht : L.take (i * 2) = vlcells (l.take i)) (hx : xs = vlcell x) : (lay (lay L (i * 2) xs) ((i + 1) * 2) (vlcells (l.drop i))).take ((n + 1) * 2) = vlcells (l.take i ++ x :: l.drop i) := by
  have hd : (vlcells (l.drop i)).length = (n - i) * 2 := by rw [vlcells_len, List.length_drop, hn]
  have hxl : xs.length = 2 := by rw [hx]; rfl
  have h1 : i * 2 + xs.length ≤ L.length := by rw [hxl]; omega
  apply List.ext_getElem?
  intro k
  by_cases hk : k < (n + 1) * 2
  · rw [List.getElem?_take_of_lt hk, lay_at (by rw [lay_len h1, hd]; omega), vlcells_app, vlcells_cons]
    have ha : (vlcells (l.take i)).length = i * 2 := by rw [vlcells_len, List.length_take]; congr 1; omega
    by_cases k1 : (i + 1) * 2 ≤ k
    · rw [if_pos ⟨k1, by rw [hd]; omega⟩, List.getElem?_append_right (by omega), List.getElem?_append_right (by rw [ha]; show 2 ≤ _; omega), ha]
      congr 1
      show _ = _ - 2
      omega
    · rw [if_neg (by omega), lay_at h1, hxl]
      by_cases k2 : k < i * 2
      · rw [if_neg (by omega), List.getElem?_append_left (by omega), ← ht, List.getElem?_take_of_lt k2]
      · rw [if_pos (by omega), List.getElem?_append_right (by omega), List.getElem?_append_left (by rw [ha]; show k - i * 2 < 2; omega), ha, hx]
  · rw [List.getElem?_eq_none (by rw [List.length_take]; omega), List.getElem?_eq_none (by rw [vlcells_len]; simp; omega)]
/-- What Insert answers. -/
def InsOut (lo : Nat) (row : Option Nat) (w : World) (l : List (Int × Int)) (e : Ending) (w' : World) : Prop := ∃ v', e = .returned v' ∧ w'.ownsRow lo 69 2 v' l.length (vlcells l) ∧ w.grownBy w' row
set_option maxHeartbeats 1000000 in
set_option maxRecDepth 100000 in
theorem iins_end (lo : Nat) (v : Value) (n vb : Nat) (l : List (Int × Int)) (x0 x1 : Int) (w : World) (hn : l.length = n) (hn3 : n ≤ 1048576) (hlo : lo ≤ w.heap.size) (ho : w.ownsRow lo 69 2 v n (vlcells l)) (hvb : w.heap[vb]? = some (.cells #[.int .i64 x0, .int .i64 x1] 69 (0, 0))) :
    Calls Tryz.prog 84 #[v, .int .i64 n, .slice (some ⟨vb, 0, none⟩) 1 1] w (InsOut lo v.ownBlock w (l ++ [(x0, x1)])) := by
  obtain ⟨va, vc, rfl, -⟩ := (Sli.of ho).form
  obtain ⟨i0, hi, hz0, hz1, hz2⟩ := info_parts infoVl
  have I0 := hide hi
  have Y0 := hide hz0
  have Y1 := hide hz1
  have Y2 := hide hz2
  have HO := hide ho
  have CN : Hid (∀ (j : Nat) (u : Value), [Value.int .i64 x0, Value.int .i64 x1][j]? = some u → w.cell? ((⟨vb, 0, none⟩ : Addr).add j) = some u) := fun j u hj => by
    rw [addr_at, cell_of_row _ _ j _ _ _ hvb]
    simpa using hj
  have C1 : Hid (∀ u ∈ [Value.int .i64 x0, Value.int .i64 x1], u.oneCell' = true) := fun u hu => by
    simp at hu
    rcases hu with h | h <;> subst h <;> rfl
  have HN := hide hn
  have hnc : n ≤ vc ∧ vc ≤ 9223372036854775807 := by
    rcases ho.2 with ⟨e, e0⟩ | ⟨g', cap, cur, e, -, -, h1, h2, -, -⟩
    · injection e with _ _ e
      subst e
      omega
    · injection e with _ _ e
      subst e
      unfold maxLen at h2
      omega
  have hnc1 := hnc.1
  have hnc2 := hnc.2
  clear hi hz0 hz1 hz2 ho hvb hn hnc
  obtain ⟨X, sD⟩ := vdrop_any va n vc n (Nat.le_refl _)
  go_enter Tryz.func84, Tryz.ntmps84
  go_wp2_with (at_builtin; refine wpList_append_own _ rfl _ _ 31 rfl lo 69 i0 (.agg #[.int .i64 0, .int .i64 0]) 2 16 Tryz.underlying31 I0.out Y0.out Y1.out Y2.out rfl (by decide) _ _ _ rfl HO.out ⟨vb, 0, none⟩ 1 1 [Value.int .i64 x0, Value.int .i64 x1] rfl rfl CN.out C1.out ?c1 ?c2 ?c3 ?_)
  case c1 => unfold maxLen; omega
  case c2 => omega
  case c3 => exact hlo
  intro v' w3 o3 g3 _
  have FIN : Hid (InsOut lo (Value.slice va n vc).ownBlock w (l ++ [(x0, x1)]) (.returned v') w3) := by
    refine ⟨v', rfl, ?_, g3⟩
    rw [List.length_append, HN.out, vlcells_app]
    exact o3
  clear o3 g3
  go_wp2
  go_ret
  exact FIN.out
set_option maxHeartbeats 2000000 in
set_option maxRecDepth 100000 in
theorem iins_mid (lo g n c i vb : Nat) (l : List (Int × Int)) (x0 x1 : Int) (w : World) (hn : l.length = n) (hn3 : n ≤ 1048576) (hi : i < n) (hlo : lo ≤ w.heap.size) (ho : w.ownsRow lo 69 2 (.slice (some ⟨g, 0, none⟩) n c) n (vlcells l)) (hvb : w.heap[vb]? = some (.cells #[.int .i64 x0, .int .i64 x1] 69 (0, 0))) (hne : vb ≠ g) :
    Calls Tryz.prog 84 #[.slice (some ⟨g, 0, none⟩) n c, .int .i64 i, .slice (some ⟨vb, 0, none⟩) 1 1] w (InsOut lo (some g) w (l.take i ++ (x0, x1) :: l.drop i)) := by
  obtain ⟨cur, hcur, hlg, hnc, hcm, hsz, htk⟩ : ∃ cur : Array Value, w.heap[g]? = some (.cells cur 69 (0, 0)) ∧ lo ≤ g ∧ n ≤ c ∧ c ≤ maxLen ∧ cur.size = c * 2 ∧ cur.toList.take (n * 2) = vlcells l := by
    rcases ho.2 with ⟨e, -⟩ | ⟨g', cap, cur, e, h2, h3, h4, h5, h6, h7⟩
    · cases e
    · injection e with e1 e2 e3
      injection e1 with e1
      injection e1 with e1
      subst e1 e3
      exact ⟨cur, h3, h2, h4, h5, h6, h7⟩
  have hc63 : c ≤ 9223372036854775807 := by unfold maxLen at hcm; omega
  obtain ⟨X, sD⟩ := vdrop_any (some ⟨g, 0, none⟩) n c i (by omega)
  have hlen : (l.take i ++ (x0, x1) :: l.drop i).length = n + 1 := by simp; omega
  have hdl : (vlcells (l.drop i)).length = (n - i) * 2 := by rw [vlcells_len, List.length_drop, hn]
  have hz1 : ((1 : Int) == 0) = false := by rfl
  have hz2 : ((i : Int) == (n : Int)) = false := by simp; omega
  have hw1 : IntKind.i64.wrap ((n : Int) + 1) = (n : Int) + 1 := by rw [IntKind.wrap_i64]; omega
  have hw2 : IntKind.i64.wrap ((i : Int) + 1) = (i : Int) + 1 := by rw [IntKind.wrap_i64]; omega
  have hvl : (vlcells l).length = n * 2 := by rw [vlcells_len, hn]
  have srcD : ∀ (W : World), W.heap[g]? = some (.cells cur 69 (0, 0)) → ∀ (j : Nat) (v : Value), (vlcells (l.drop i))[j]? = some v → W.cell? ((⟨g, i * 2, none⟩ : Addr).add j) = some v := fun W hW j v hj => by
    have hjl := (List.getElem?_eq_some_iff.1 hj).1
    rw [addr_off3v, cell_of_row _ _ _ _ _ _ hW, ← Array.getElem?_toList]
    have e1 : (cur.toList.take (n * 2))[i * 2 + j]? = some v := by
      rw [htk]
      have e2 : vlcells l = vlcells (l.take i) ++ vlcells (l.drop i) := by rw [← vlcells_app, List.take_append_drop]
      have e3 : (vlcells (l.take i)).length = i * 2 := by rw [vlcells_len, List.length_take]; congr 1; omega
      rw [e2, List.getElem?_append_right (by omega), e3, show i * 2 + j - i * 2 = j by omega]
      exact hj
    rw [List.getElem?_take_of_lt (by rw [hdl] at hjl; omega)] at e1
    exact e1
  have srcV : ∀ (W : World), W.heap[vb]? = some (.cells #[.int .i64 x0, .int .i64 x1] 69 (0, 0)) → ∀ (j : Nat) (u : Value), [Value.int .i64 x0, Value.int .i64 x1][j]? = some u → W.cell? ((⟨vb, 0, none⟩ : Addr).add j) = some u := fun W hW j u hj => by
    rw [addr_at, cell_of_row _ _ j _ _ _ hW]
    simpa using hj
  have oneV : ∀ u ∈ [Value.int .i64 x0, Value.int .i64 x1], u.oneCell' = true := fun u hu => by
    simp at hu
    rcases hu with h | h <;> subst h <;> rfl
  have mixed : Tryz.prog.follows .mixedOrders = true := by kernel_rfl
  by_cases hroom : n + 1 ≤ c
  · -- there is room
    have hov : ∀ lb cb, (callFunc 93 #[.slice (some ⟨vb, 0, none⟩) 1 1, .slice (some ⟨g, (i + 1) * 2, none⟩) lb cb]).run Tryz.prog w = .ok (.value (.bool false)) w := fun lb cb => by
      rw [run_callFunc_extern Tryz.func93 (by kernel_rfl) (by kernel_rfl) (by kernel_rfl) (e := Extern.SlicesOverlaps.overlaps #[31, 31] #[4]) (by kernel_rfl),
        Lib.run_overlaps_apart w 31 4 69 Tryz.underlying31 2 vol_size2 ⟨vb, 0, none⟩ ⟨g, (i + 1) * 2, none⟩ 1 1 lb cb hne 69 69 2 cur.size (by simp [World.shape?, hvb]) (by simp [World.shape?, hcur]) (by omega) (frozen_of_row _ _ _ _ _ hvb) (frozen_of_row _ _ _ _ _ hvb)]
      rfl
    have hcw : Hid (w.drew.heap[g]? = some (.cells cur 69 (0, 0))) := hcur
    have hcp1 := fun ty dc sc => run_copy_v w.drew ty g ((i + 1) * 2) (n - i) dc ⟨g, i * 2, none⟩ (n + 1 - i) sc cur (vlcells (l.drop i)) (n - i) (by simp only [Nat.min_def]; split <;> omega) hcw.out hdl (srcD w.drew hcw.out) (by rw [hdl]; omega) (vlcells_one _)
    obtain ⟨W1, hW1⟩ : ∃ W1, W1 = w.drew.setRow g (lay cur.toList ((i + 1) * 2) (vlcells (l.drop i))).toArray := ⟨_, rfl⟩
    have hr1 : W1.heap[g]? = some (.cells (lay cur.toList ((i + 1) * 2) (vlcells (l.drop i))).toArray 69 (0, 0)) := by rw [hW1]; exact setRow_heap _ g cur _ _ _ hcw.out
    have hv1 : W1.heap[vb]? = some (.cells #[.int .i64 x0, .int .i64 x1] 69 (0, 0)) := by rw [hW1, setRow_other _ _ _ _ hne]; exact hvb
    have hll1 : (lay cur.toList ((i + 1) * 2) (vlcells (l.drop i))).length = c * 2 := by rw [lay_len (by rw [hdl]; simp; omega)]; simpa using hsz
    have hcp2 := fun ty dc => run_copy_v W1 ty g (i * 2) (n + 1 - i) dc ⟨vb, 0, none⟩ 1 1 _ [Value.int .i64 x0, Value.int .i64 x1] 1 (by simp only [Nat.min_def]; split <;> omega) hr1 rfl (srcV W1 hv1) (by rw [List.size_toArray, hll1]; simp; omega) oneV
    rw [← hW1] at hcp1
    obtain ⟨W2, hW2⟩ : ∃ W2, W2 = W1.setRow g (lay (lay cur.toList ((i + 1) * 2) (vlcells (l.drop i))) (i * 2) [Value.int .i64 x0, Value.int .i64 x1]).toArray := ⟨_, rfl⟩
    rw [← hW2] at hcp2
    have FIN : Hid (InsOut lo (some g) w (l.take i ++ (x0, x1) :: l.drop i) (.returned (.slice (some ⟨g, 0, none⟩) (n + 1) c)) W2) := by
      have hr2 : W2.heap[g]? = some (.cells (lay (lay cur.toList ((i + 1) * 2) (vlcells (l.drop i))) (i * 2) [Value.int .i64 x0, Value.int .i64 x1]).toArray 69 (0, 0)) := by rw [hW2]; exact setRow_heap _ g _ _ _ _ hr1
      have g1 : w.grownBy W2 (some g) := by
        have a := setRow_grown w.drew g (lay cur.toList ((i + 1) * 2) (vlcells (l.drop i))).toArray
        have b := setRow_grown W1 g (lay (lay cur.toList ((i + 1) * 2) (vlcells (l.drop i))) (i * 2) [Value.int .i64 x0, Value.int .i64 x1]).toArray
        rw [← hW1] at a
        rw [← hW2] at b
        exact ⟨b.os.trans a.os, b.tape.trans a.tape, b.output.trans a.output, Nat.le_trans a.size b.size, fun t ht hne => (b.block t (Nat.lt_of_lt_of_le ht a.size) hne).trans (a.block t ht hne)⟩
      refine ⟨_, rfl, ⟨by rw [vlcells_len], .inr ⟨g, c, _, by rw [hlen], hlg, hr2, by omega, hcm, ?_, ?_⟩⟩, g1⟩
      · rw [List.size_toArray, lay_len (by rw [hll1]; simp; omega), hll1]
      · rw [hlen]
        exact ins_shift hn hi (by simp; omega) htk rfl
    clear hW1 hW2 hr1 hv1 srcD srcV oneV hcw hcur hvb ho
    have sE : ∀ w', (Instr.slice 31 (.slice (some ⟨g, 0, none⟩) n c) none (some (.int .i64 ((n : Int) + 1))) none).run Tryz.prog w' = .ok (.slice (some ⟨g, 0, none⟩) (n + 1) c) w' := fun w' => vtake_run (some ⟨g, 0, none⟩) n c (n + 1) w' hroom
    have sF : ∀ w', (Instr.slice 31 (.slice (some ⟨g, 0, none⟩) (n + 1) c) (some (.int .i64 ((i : Int) + 1))) none none).run Tryz.prog w' = .ok (.slice (some ⟨g, (i + 1) * 2, none⟩) (n - i) (c - (i + 1))) w' := fun w' => by
      have := vdrop_run g 0 (n + 1) c (i + 1) w' (by omega)
      rw [if_neg (by omega), Nat.zero_add, show n + 1 - (i + 1) = n - i by omega] at this
      exact this
    have sG : ∀ w', (Instr.slice 31 (.slice (some ⟨g, 0, none⟩) (n + 1) c) (some (.int .i64 (i : Int))) none none).run Tryz.prog w' = .ok (.slice (some ⟨g, i * 2, none⟩) (n + 1 - i) (c - i)) w' := fun w' => by
      have := vdrop_run g 0 (n + 1) c i w' (by omega)
      rw [if_neg (by omega), Nat.zero_add] at this
      exact this
    have hgt : ¬ ((c : Int) < (n : Int) + 1) := by omega
    go_enter Tryz.func84, Tryz.ntmps84
    go_wp2_with (simp only [hov])
    go_region_law_o (refine step_copy_vr rfl _ _ 31 31 rfl _ _ (by simp [Act.eval, Act.put]) (by simp [Act.eval, Act.put]) (hcp1 _ _ _) ?_)
    go_wp2_with (at_builtin; refine wpList_copy_vr _ rfl _ _ 31 31 rfl _ _ rfl rfl (hcp2 _ _) ?_)
    go_ret
    exact FIN.out
  · -- a new row
    have ecn : c = n := by omega
    subst ecn
    obtain ⟨i0, hi0, hz0, hzs, hzb⟩ := info_parts infoVl
    have hcd : w.drew.heap[g]? = some (.cells cur 69 (0, 0)) := hcur
    have hti : cur.toList.take (i * 2) = vlcells (l.take i) := by
      rw [← vlcells_take, ← htk, List.take_take, Nat.min_eq_left (by omega)]
    have hold : (Builtin.firstCells i0.size i (.slice (some ⟨g, 0, none⟩) i c)).run Tryz.prog w.drew = .ok (vlcells (l.take i)).toArray w.drew := by
      rw [hzs]
      have e : (vlcells (l.take i)).length = i * 2 := by rw [vlcells_len, List.length_take]; congr 1; omega
      have := run_loadCells_list (P := Tryz.prog) w.drew ⟨g, 0, none⟩ (vlcells (l.take i)) (fun j v hj => by
        have hjl := (List.getElem?_eq_some_iff.1 hj).1
        rw [addr_at, cell_of_row _ _ _ _ _ _ hcd, ← Array.getElem?_toList]
        rw [← hti, List.getElem?_take_of_lt (by omega)] at hj
        exact hj)
      rw [e] at this
      simpa [Builtin.firstCells] using this
    have hrz : ∀ ty, (Builtin.append_ #[31, 3] ty #[.slice (some ⟨g, 0, none⟩) i c, .int .i64 ((c : Int) + 1 - (i : Int))]).run Tryz.prog w = .ok (.slice (some ⟨w.heap.size, 0, none⟩) (c + 1) (grownCap w (c + 1) c 69)) (w.drew.alloc (.cells ((vlcells (l.take i)).toArray ++ Builtin.zeroCells (Value.agg #[.int .i64 0, .int .i64 0]).cells (c + 1 - i) ++ Builtin.zeroCells (Value.agg #[.int .i64 0, .int .i64 0]).cells (grownCap w (c + 1) c 69 - (c + 1))) 69)) := fun ty => by
      have h := Lib.run_append_grow_zeros w 31 3 ty 69 i0 _ .i64 .i64 Tryz.underlying31 Tryz.underlying3 hi0 hz0 (some ⟨g, 0, none⟩) i c (vlcells (l.take i)) hold (c + 1 - i) (by omega) (by omega) (by omega) (by omega) (by rw [hzb]; omega) (by rw [hzb, show i + (c + 1 - i) = c + 1 by omega]; exact growslice_fits (by omega) (by omega))
      rw [show i + (c + 1 - i) = c + 1 by omega] at h
      rw [show (c : Int) + 1 - (i : Int) = ((c + 1 - i : Nat) : Int) by omega]
      exact h
    have hGn : c + 1 ≤ grownCap w (c + 1) c 69 := grownCap_ge w _ _ _
    have hGm := grownCap_le_maxLen w (c + 1) c 69 (by unfold maxLen; omega)
    obtain ⟨G, hG⟩ : ∃ G, G = grownCap w (c + 1) c 69 := ⟨_, rfl⟩
    rw [← hG] at hrz hGn hGm
    obtain ⟨ROW, hROW⟩ : ∃ ROW : Array Value, ROW = (vlcells (l.take i)).toArray ++ Builtin.zeroCells (Value.agg #[.int .i64 0, .int .i64 0]).cells (c + 1 - i) ++ Builtin.zeroCells (Value.agg #[.int .i64 0, .int .i64 0]).cells (G - (c + 1)) := ⟨_, rfl⟩
    rw [← hROW] at hrz
    have hte : (vlcells (l.take i)).length = i * 2 := by rw [vlcells_len, List.length_take]; congr 1; omega
    have hRl : ROW.size = G * 2 := by
      rw [hROW]
      simp [Builtin.zeroCells, Value.cells, hte]
      omega
    have hRt : ROW.toList.take (i * 2) = vlcells (l.take i) := by
      rw [hROW, Array.toList_append, Array.toList_append, List.append_assoc, List.take_left' hte]
    have hGi : ¬ (G = i) := by omega
    have hGi1 : ¬ (G = i + 1) := by omega
    obtain ⟨z, hz⟩ : ∃ z, w.heap.size = z := ⟨_, rfl⟩
    obtain ⟨W1, hW1⟩ : ∃ W1, W1 = w.drew.alloc (.cells ROW 69) := ⟨_, rfl⟩
    rw [← hW1, hz] at hrz
    have gw : g < z := by rw [← hz]; exact (Array.getElem?_eq_some_iff.1 hcur).1
    have vw : vb < z := by rw [← hz]; exact (Array.getElem?_eq_some_iff.1 hvb).1
    have hb1 : Below w.heap.size w W1 := by rw [hW1]; exact (Below.refl _ _).drew.alloc (Nat.le_refl _) _
    have hr1 : W1.heap[z]? = some (.cells ROW 69 (0, 0)) := by rw [hW1, ← hz]; exact heap_alloc_new w.drew _
    have hv1 : W1.heap[vb]? = some (.cells #[.int .i64 x0, .int .i64 x1] 69 (0, 0)) := (hb1.block vb (by omega)).trans hvb
    have hg1 : W1.heap[g]? = some (.cells cur 69 (0, 0)) := (hb1.block g (by omega)).trans hcur
    have hcpA := fun ty dc => run_copy_v W1 ty z (i * 2) (c + 1 - i) dc ⟨vb, 0, none⟩ 1 1 _ [Value.int .i64 x0, Value.int .i64 x1] 1 (by simp only [Nat.min_def]; split <;> omega) hr1 rfl (srcV W1 hv1) (by rw [hRl]; simp; omega) oneV
    obtain ⟨W2, hW2⟩ : ∃ W2, W2 = W1.setRow z (lay ROW.toList (i * 2) [Value.int .i64 x0, Value.int .i64 x1]).toArray := ⟨_, rfl⟩
    rw [← hW2] at hcpA
    have hr2 : W2.drew.heap[z]? = some (.cells (lay ROW.toList (i * 2) [Value.int .i64 x0, Value.int .i64 x1]).toArray 69 (0, 0)) := by
      rw [hW2]
      exact setRow_heap W1 z ROW _ _ _ hr1
    have hg2 : W2.drew.heap[g]? = some (.cells cur 69 (0, 0)) := by
      rw [hW2]
      exact (setRow_other W1 z g _ (by omega)).trans hg1
    have hll2 : (lay ROW.toList (i * 2) [Value.int .i64 x0, Value.int .i64 x1]).length = G * 2 := by rw [lay_len (by simp; omega)]; simpa using hRl
    have hcpB := fun ty dc sc => run_copy_v W2.drew ty z ((i + 1) * 2) (c - i) dc ⟨g, i * 2, none⟩ (c - i) sc _ (vlcells (l.drop i)) (c - i) (by simp only [Nat.min_def]; split <;> omega) hr2 hdl (srcD W2.drew hg2) (by rw [List.size_toArray, hll2, hdl]; omega) (vlcells_one _)
    obtain ⟨W3, hW3⟩ : ∃ W3, W3 = W2.drew.setRow z (lay (lay ROW.toList (i * 2) [Value.int .i64 x0, Value.int .i64 x1]) ((i + 1) * 2) (vlcells (l.drop i))).toArray := ⟨_, rfl⟩
    rw [← hW3] at hcpB
    have FIN : Hid (InsOut lo (some g) w (l.take i ++ (x0, x1) :: l.drop i) (.returned (.slice (some ⟨z, 0, none⟩) (c + 1) G)) W3) := by
      have hr3 : W3.heap[z]? = some (.cells (lay (lay ROW.toList (i * 2) [Value.int .i64 x0, Value.int .i64 x1]) ((i + 1) * 2) (vlcells (l.drop i))).toArray 69 (0, 0)) := by rw [hW3]; exact setRow_heap _ z _ _ _ _ hr2
      have g1 : w.grownBy W3 (some g) := by
        have a := setRow_grown W1 z (lay ROW.toList (i * 2) [Value.int .i64 x0, Value.int .i64 x1]).toArray
        have b := setRow_grown W2.drew z (lay (lay ROW.toList (i * 2) [Value.int .i64 x0, Value.int .i64 x1]) ((i + 1) * 2) (vlcells (l.drop i))).toArray
        rw [← hW2] at a
        rw [← hW3] at b
        have hs1 := hb1.size
        have hs2 := a.size
        have hs3 : W2.heap.size ≤ W3.heap.size := b.size
        refine ⟨(b.os.trans a.os).trans hb1.os, (b.tape.trans a.tape).trans hb1.tape, (b.output.trans a.output).trans hb1.output, by omega, fun t ht hne => ?_⟩
        have hbb : W3.heap[t]? = W2.heap[t]? := b.block t (show t < W2.heap.size by omega) (fun e => by injection e; omega)
        exact (hbb.trans (a.block t (by omega) (fun e => by injection e; omega))).trans (hb1.block t ht)
      refine ⟨_, rfl, ⟨by rw [vlcells_len], .inr ⟨z, G, _, by rw [hlen], by omega, hr3, by omega, hGm, ?_, ?_⟩⟩, g1⟩
      · rw [List.size_toArray, lay_len (by rw [hll2, hdl]; omega), hll2]
      · rw [hlen]
        exact ins_grow hn hi (by simp; omega) hRt rfl
    have hG63 : G ≤ 9223372036854775807 := by unfold maxLen at hGm; omega
    have sE := fun w' => vtake_run (some ⟨g, 0, none⟩) c c i w' (by omega)
    have sF : ∀ w', (Instr.slice 31 (.slice (some ⟨z, 0, none⟩) (c + 1) G) (some (.int .i64 ((i : Int) + 1))) none none).run Tryz.prog w' = .ok (.slice (some ⟨z, (i + 1) * 2, none⟩) (c - i) (G - (i + 1))) w' := fun w' => by
      have := vdrop_run z 0 (c + 1) G (i + 1) w' (by omega)
      rw [if_neg (by omega), Nat.zero_add, show c + 1 - (i + 1) = c - i by omega] at this
      exact this
    have sG : ∀ w', (Instr.slice 31 (.slice (some ⟨z, 0, none⟩) (c + 1) G) (some (.int .i64 (i : Int))) none none).run Tryz.prog w' = .ok (.slice (some ⟨z, i * 2, none⟩) (c + 1 - i) (G - i)) w' := fun w' => by
      have := vdrop_run z 0 (c + 1) G i w' (by omega)
      rw [if_neg (by omega), Nat.zero_add] at this
      exact this
    have sH : ∀ w', (Instr.slice 31 (.slice (some ⟨g, 0, none⟩) c c) (some (.int .i64 (i : Int))) none none).run Tryz.prog w' = .ok (.slice (some ⟨g, i * 2, none⟩) (c - i) (c - i)) w' := fun w' => by
      have := vdrop_run g 0 c c i w' (by omega)
      rw [if_neg (by omega), Nat.zero_add] at this
      exact this
    have hgt : (c : Int) < (c : Int) + 1 := by omega
    have hE1 : ∀ x, W1.cell? x = W1.cell? x := fun _ => rfl
    clear sD hW1 hW2 hW3 hr1 hv1 hg1 hr2 hg2 srcD srcV oneV hcur hvb ho hROW hold hcd hb1 hE1 hz hG
    go_enter Tryz.func84, Tryz.ntmps84
    go_wp2_with (first
      | (at_builtin; refine Lib.wpList_append_run _ rfl _ _ _ _ rfl _ _ rfl rfl _ _ (hrz _) ?_)
      | (at_builtin; refine wpList_copy_vr _ rfl _ _ 31 31 rfl _ _ rfl rfl (hcpA _ _) ?_))
    go_region_law_o (refine step_copy_vr rfl _ _ 31 31 rfl _ _ (by simp [Act.eval, Act.put]) (by simp [Act.eval, Act.put]) (hcpB _ _ _) ?_)
    go_wp2
    go_ret
    exact FIN.out
end Go.Proofs.YtcnaahajaaifjacGreat
