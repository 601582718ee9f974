/-
  StoTk2; ToRcS; StH; StoTk3; SnewS; SEnv
-/
import Derived.Test.YtcnaahajaaifjacGreatPk18
import Derived.Test.YtcnaahajaaifjacGreatPk19
import Derived.Test.YtcnaahajaaifjacGreatPk15
import Derived.Test.YtcnaahajaaifjacGreatPk1
import Derived.Deep.RegionHeld3
import Derived.Test.YtcnaahajaaifjacGreatPk16
/-
  What the laws hold: rows of numbers and of records, great ones too.
-/
namespace Go.Proofs.YtcnaahajaaifjacGreat
open Go.RowKit
open Words

theorem eqiw_tk {w wi : World} {hs : List Hold} {a b : Value} {l : List Int} {n l1 h1 l2 h2 : Nat} (T : Tk w wi hs) (n1 n2 : Nat) (hn : l.length = n) (hm : n ≤ 100000000) (e1 : hs[n1]? = some (l1, h1, IsH l1 h1 a n l)) (e2 : hs[n2]? = some (l2, h2, IsH l2 h2 b n l)) :
    Calls Tryz.prog 89 #[a, b] wi fun e w' => e = .returned (.bool true) ∧ Tk w w' hs ∧ wi.heap.size ≤ w'.heap.size := by
  refine (eqIs_same a b l n l1 h1 l2 h2 wi hn (by omega) (T.get n1 e1) (T.get n2 e2)).mono ?_
  rintro e w' ⟨rfl, hb⟩
  exact ⟨rfl, T.below hb, hb.size⟩
theorem markiw_tk {w wi : World} {hs hs' : List Hold} {a : Value} {l : List Int} {n m l1 h1 : Nat} (T : Tk w wi hs) (n1 : Nat) (hn : l.length = n) (hn2 : n ≤ 100000000) (hm : 1 + n = m) (hlo : w.heap.size ≤ l1) (e1 : hs[n1]? = some (l1, h1, IsH l1 h1 a n l)) (hh : ∀ x ∈ hs', x ∈ hs ∧ (x.2.1 ≤ l1 ∨ h1 ≤ x.1)) :
    Calls Tryz.prog 72 #[a, .int .i64 1] wi fun e w' => e = .returned (.int .i64 (m : Int)) ∧ Tk w w' ((l1, h1, IsM l1 h1 a n) :: hs') ∧ wi.heap.size ≤ w'.heap.size := by
  have hx : Sli 3 l1 h1 a n (icells l) wi := T.get n1 e1
  refine (markIs_any l1 h1 a n 1 (icells l) wi (by omega) (by simp [icells, hn]) (by omega) (by omega) hx).mono ?_
  rintro e w' ⟨rfl, hs2, hk⟩
  rw [hm]
  have hk2 : Kept2 wi w' (Apt l1 h1) := ⟨hk.out.1, hk.out.2.1, hk.out.2.2.1, hk.out.2.2.2.1, fun i hi ho => hk.out.2.2.2.2 i hi (fun e => by
    have := hx.lt i e
    exact ho ⟨this.1, this.2.1⟩)⟩
  exact ⟨rfl, T.touch hk2 hlo (T.hi n1 e1) (IsM.loc _ _ _ _) hs2.out hh, hk.out.2.2.2.1⟩
theorem heldiw_tk {w wi : World} {hs : List Hold} {a : Value} {n m l1 h1 : Nat} (T : Tk w wi hs) (n1 : Nat) (hn2 : n ≤ 100000000) (hm : 1 + n = m) (e1 : hs[n1]? = some (l1, h1, IsM l1 h1 a n)) :
    Calls Tryz.prog 73 #[a, .int .i64 1] wi fun e w' => e = .returned (.int .i64 (m : Int)) ∧ Tk w w' hs ∧ wi.heap.size ≤ w'.heap.size := by
  refine (heldIs_any l1 h1 a n 1 wi (by omega) (by omega) (by omega) (T.get n1 e1)).mono ?_
  rintro e w' ⟨rfl, hb⟩
  rw [hm]
  exact ⟨rfl, T.below hb, hb.size⟩
/-- A row of records in the blocks lo to hi; marked. -/
def RcH (lo hi : Nat) (v : Value) (n : Nat) (l : List Rc) : World → Prop := Sli 52 lo hi v n (rccells (l.map Rc.tu))
theorem RcH.loc (lo hi : Nat) (v : Value) (n : Nat) (l : List Rc) : Loc lo hi (RcH lo hi v n l) := Sli.loc _ _ _ _ _ _
def RcM (lo hi : Nat) (v : Value) (n : Nat) : World → Prop := Sli 52 lo hi v n (mkFlat patRc 1 n)
theorem RcM.loc (lo hi : Nat) (v : Value) (n : Nat) : Loc lo hi (RcM lo hi v n) := Sli.loc _ _ _ _ _ _
theorem eqrw_tk {w wi : World} {hs : List Hold} {a b : Value} {l : List Rc} {n l1 h1 l2 h2 : Nat} (T : Tk w wi hs) (n1 n2 : Nat) (hn : l.length = n) (hM : n ≤ 100000000) (e1 : hs[n1]? = some (l1, h1, RcH l1 h1 a n l)) (e2 : hs[n2]? = some (l2, h2, RcH l2 h2 b n l)) :
    Calls Tryz.prog 11 #[a, b] wi fun e w' => e = .returned (.bool true) ∧ Tk w w' hs ∧ wi.heap.size ≤ w'.heap.size := by
  have x1 : Sli 52 l1 h1 a n (rccells (l.map Rc.tu)) wi := T.get n1 e1
  have x2 : Sli 52 l2 h2 b n (rccells (l.map Rc.tu)) wi := T.get n2 e2
  have hn2 : n = (l.map Rc.tu).length := by rw [List.length_map, hn]
  rw [hn2] at x1 x2 hM
  refine (eqRcs_same a b (l.map Rc.tu) l1 h1 l2 h2 wi (by omega) x1 x2).mono ?_
  rintro e w' ⟨rfl, hb⟩
  exact ⟨rfl, T.below hb, hb.size⟩
theorem markrw_tk {w wi : World} {hs hs' : List Hold} {a : Value} {l : List Rc} {n m l1 h1 : Nat} (T : Tk w wi hs) (n1 : Nat) (hn : l.length = n) (hM : n ≤ 100000000) (hm : 1 + n * 4 = m) (hlo : w.heap.size ≤ l1) (e1 : hs[n1]? = some (l1, h1, RcH l1 h1 a n l)) (hh : ∀ x ∈ hs', x ∈ hs ∧ (x.2.1 ≤ l1 ∨ h1 ≤ x.1)) :
    Calls Tryz.prog 13 #[a, .int .i64 1] wi fun e w' => e = .returned (.int .i64 (m : Int)) ∧ Tk w w' ((l1, h1, RcM l1 h1 a n) :: hs') ∧ wi.heap.size ≤ w'.heap.size := by
  refine (markRc_any l1 h1 a n 1 (rccells (l.map Rc.tu)) wi (by omega) (by rw [rccells_len, List.length_map, hn]) (by omega) (by omega) (T.hi n1 e1) (T.get n1 e1)).mono ?_
  rintro e w' ⟨rfl, hs, hk⟩
  rw [hm]
  exact ⟨rfl, T.touch hk.out hlo (T.hi n1 e1) (RcM.loc _ _ _ _) hs.out hh, hk.out.2.2.2.1⟩
end Go.Proofs.YtcnaahajaaifjacGreat

/-
  The laws' own szRecS and toRecS.
-/
namespace Go.Proofs.YtcnaahajaaifjacGreat
open Go.RowKit

set_option maxHeartbeats 400000 in
set_option maxRecDepth 100000 in
theorem szRcs_any (a : Option Addr) (len cap : Nat) (z0 : Nat) (w : World) (hz0 : z0 ≤ 1048576) (hl : len ≤ maxLen) :
    Calls Tryz.prog 5 #[.slice a len cap, .int .i64 z0] w fun e w' => (∃ r : Int, e = .returned (.int .i64 r) ∧ -1 ≤ r ∧ r ≤ z0 ∧ (0 ≤ r → r + len ≤ z0)) ∧ w' = w := by
  unfold maxLen at hl
  have hw : IntKind.i64.wrap ((z0 : Int) - len) = (z0 : Int) - len := by rw [IntKind.wrap_i64]; omega
  by_cases hlt : (z0 : Int) - len < 0
  · go_enter Tryz.func5, Tryz.ntmps5
    go_wp2
    go_ret
    exact ⟨⟨_, rfl, by omega, by omega, fun h => by omega⟩, rfl⟩
  · go_enter Tryz.func5, Tryz.ntmps5
    go_wp2
    go_ret
    exact ⟨⟨_, rfl, by omega, by omega, fun h => by omega⟩, rfl⟩
theorem rccells_put (ls : List (Int × Int × Int × Int)) (R : List Value) (j : Nat) (x0 : Int) (x1 : Int) (x2 : Int) (x3 : Int) (hj : ls[j]? = some (x0, x1, x2, x3)) (hR : R.length = ls.length * 4) :
    ((((rccells (ls.take j) ++ R.drop (j * 4)).set (j * 4) (.int .i64 x0)).set (j * 4 + 1) (.int .i64 x1)).set (j * 4 + 2) (.int .i64 x2)).set (j * 4 + 3) (.int .i64 x3) = rccells (ls.take (j + 1)) ++ R.drop ((j + 1) * 4) := by
  obtain ⟨hj1, hj2⟩ := List.getElem?_eq_some_iff.1 hj
  have hm : (rccells (ls.take j)).length = j * 4 := by rw [rccells_len, List.length_take]; congr 1; omega
  have e2 : rccells [(x0, x1, x2, x3)] = [.int .i64 x0, .int .i64 x1, .int .i64 x2, .int .i64 x3] := rfl
  have e3 : ls.take (j + 1) = ls.take j ++ [(x0, x1, x2, x3)] := by rw [List.take_succ_eq_append_getElem hj1, hj2]
  rw [e3, rccells_app, e2, List.set_append_right _ _ (by omega), List.set_append_right _ _ (by omega), List.set_append_right _ _ (by omega), List.set_append_right _ _ (by omega), hm, Nat.sub_self, Nat.add_sub_cancel_left, Nat.add_sub_cancel_left, Nat.add_sub_cancel_left, List.append_assoc]
  rw [List.drop_eq_getElem_cons (show j * 4 < R.length by omega), List.drop_eq_getElem_cons (show j * 4 + 1 < R.length by omega), List.drop_eq_getElem_cons (show j * 4 + 2 < R.length by omega), List.drop_eq_getElem_cons (show j * 4 + 3 < R.length by omega), show (j + 1) * 4 = j * 4 + 1 + 1 + 1 + 1 by omega]
  rfl
set_option maxHeartbeats 800000 in
set_option maxRecDepth 100000 in
theorem toRcs_any (a : Option Addr) (len cap : Nat) (ls : List (Int × Int × Int × Int)) (w : World) (hl : len ≤ 1048576) (h : RcRow w a len ls) :
    Calls Tryz.prog 8 #[.slice a len cap] w fun e w' => ∃ g : Nat, e = .returned (.slice (some ⟨g, 0, none⟩) len len) ∧ w'.ownsRow w.heap.size 52 4 (.slice (some ⟨g, 0, none⟩) len len) ls.length (rccells ls) ∧ Below w.heap.size w w' := by
  obtain ⟨i0, hi, hz0, hz1, hz2⟩ := info_parts infoRc
  obtain ⟨h1, -, -, h4⟩ := h
  have H4 := hide h4
  have H1 := hide h1
  clear h4 h1
  go_enter Tryz.func8, Tryz.ntmps8
  go_wp2_with (at_make; refine wpList_make_full _ rfl _ _ 40 rfl w.heap.size 52 i0 (.agg #[.int .i64 0, .int .i64 0, .int .i64 0, .int .i64 0]) 4 Tryz.underlying40 hi hz0 hz1 .i64 .i64 _ _ len rfl rfl rfl rfl (by rw [hz2]; omega) (by unfold maxLen; omega) (Nat.le_refl _) ?_)
  intro w1 hown hgrow
  generalize (madeCells #[Value.int .i64 0, Value.int .i64 0, Value.int .i64 0, Value.int .i64 0] (len * 4)).toList = R at hown
  have HR : Hid (R.length = ls.length * 4) := by show _ = _; rw [H1.out]; exact hown.1
  have HO := hide hown
  have HB1 := hide ((Below.refl w.heap.size w).grown hgrow (Nat.le_refl _) (fun k hk => by cases hk))
  have hg1 := (hown.lt w.heap.size rfl).2
  clear hown hgrow
  go_wp2
  go_loopw [4] (fun iv wr => ∃ k : Nat, k ≤ len ∧ iv = .int .i64 k ∧ Hid (wr.ownsRow w.heap.size 52 4 (.slice (some ⟨w.heap.size, 0, none⟩) len len) len (rccells (ls.take k) ++ R.drop (k * 4))) ∧ Hid (Below w.heap.size w wr)) (fun iv _ => len - (intOf iv).toNat)
  case atStart => exact ⟨0, Nat.zero_le _, rfl, HO, HB1⟩
  case round =>
    obtain ⟨k, hk, rfl, HO2, HW⟩ := hrel
    have hsz := HW.out.size
    by_cases hkl : (k : Int) < len
    · obtain ⟨b, off, rfl, hb, hc⟩ := H4.out (by omega)
      have hl1 := H1.out
      have hkl2 : k < ls.length := by omega
      obtain ⟨x0, x1, x2, x3, ht⟩ : ∃ x0 x1 x2 x3, ls[k]? = some (x0, x1, x2, x3) := ⟨ls[k].1, ls[k].2.1, ls[k].2.2.1, ls[k].2.2.2, List.getElem?_eq_getElem hkl2⟩
      obtain ⟨c0, c1, c2, c3⟩ := hc k (x0, x1, x2, x3) ht
      rw [← HW.out.cell (show b < w.heap.size from hb)] at c0 c1 c2 c3
      simp only at c0 c1 c2 c3
      have k0 : (0 : Int) ≤ k := by omega
      clear hc hl1
      go_wp2_with fail
      refine (toRc_any x0 x1 x2 x3 _).mono ?_
      rintro e w3 ⟨rfl, hb3⟩
      have o3 := own_below HO2.out hb3
      have hlen3 : (rccells (ls.take k) ++ R.drop (k * 4)).length = len * 4 := HO2.out.1
      have e3 : ∀ d, d < 4 → ∃ u, w3.cell? ⟨w.heap.size, k * 4 + d, none⟩ = some u := by
        intro d hd
        have := o3.cells (g := w.heap.size) rfl (k * 4 + d) _ (List.getElem?_eq_getElem (by rw [hlen3]; omega))
        rw [addr_at] at this
        exact ⟨_, this⟩
      obtain ⟨u0, d0⟩ := e3 0 (by omega)
      obtain ⟨u1, d1⟩ := e3 1 (by omega)
      obtain ⟨u2, d2⟩ := e3 2 (by omega)
      obtain ⟨u3, d3⟩ := e3 3 (by omega)
      rw [Nat.add_zero] at d0
      have f0 := o3.frozenAt (k * 4)
      have f1 := o3.frozenAt (k * 4 + 1)
      have f2 := o3.frozenAt (k * 4 + 2)
      have f3 := o3.frozenAt (k * 4 + 3)
      have o6 := fown_set (fown_set (fown_set (fown_set o3 rfl (k * 4) (.int .i64 x0)) rfl (k * 4 + 1) (.int .i64 x1)) rfl (k * 4 + 2) (.int .i64 x2)) rfl (k * 4 + 3) (.int .i64 x3)
      rw [rccells_put ls R k x0 x1 x2 x3 ht HR.out] at o6
      have b6 := (((((HW.out.trans (hb3.mono hsz)).setCell (p := ⟨w.heap.size, k * 4, none⟩) (Nat.le_refl _) (.int .i64 x0)).setCell (p := ⟨w.heap.size, k * 4 + 1, none⟩) (Nat.le_refl _) (.int .i64 x1)).setCell (p := ⟨w.heap.size, k * 4 + 2, none⟩) (Nat.le_refl _) (.int .i64 x2)).setCell (p := ⟨w.heap.size, k * 4 + 3, none⟩) (Nat.le_refl _) (.int .i64 x3))
      have O6 := hide o6
      have B6 := hide b6
      clear o3 o6 b6 hlen3 e3 hb3 HW HO2 c0 c1 c2 c3 ht hkl2
      go_wp2
      go_roundw
      case rel => exact ⟨k + 1, by omega, by go_num, O6, B6⟩
      case measure => simp [intOf]; omega
    · have hke : k = len := by omega
      have hO := HO2.out
      have hl1 := H1.out
      have hr1 := HR.out
      rw [hke, List.take_of_length_le (by omega), List.drop_eq_nil_of_le (by omega), List.append_nil] at hO
      have HO3 := hide hO
      clear hO hke hl1 hr1
      go_wp2
      go_ret
      exact ⟨_, rfl, (by rw [H1.out]; exact HO3.out), HW.out⟩
end Go.Proofs.YtcnaahajaaifjacGreat

/-
  A store in a variable: its rows lie apart from the variable.
-/
namespace Go.Proofs.YtcnaahajaaifjacGreat
open Go.RowKit
open Words

def StH (lo zb : Nat) (v : Value) (s : Sto) (V : World) : Prop := ∃ vv kv lo1 hi1 lo2 hi2, v = .agg #[vv, kv, .int .i64 s.next] ∧ Sli 69 lo1 hi1 vv s.vols.length (vlcells s.vols) V ∧ Kns lo2 hi2 kv s.kns V ∧ (lo ≤ lo1 ∧ (hi1 ≤ zb ∨ zb < lo1)) ∧ (lo ≤ lo2 ∧ (hi2 ≤ zb ∨ zb < lo2)) ∧ hi1 ≤ V.heap.size ∧ hi2 ≤ V.heap.size ∧ (hi1 ≤ lo2 ∨ hi2 ≤ lo1)
theorem StH.keep {lo zb : Nat} {v : Value} {s : Sto} {V V' : World} (h : StH lo zb v s V) (hq : ∀ g, lo ≤ g → g ≠ zb → g < V.heap.size → V'.heap[g]? = V.heap[g]?) (hz : V.heap.size ≤ V'.heap.size) : StH lo zb v s V' := by
  obtain ⟨vv, kv, lo1, hi1, lo2, hi2, e, h1, h2, h3, h4, h5, h6, h7⟩ := h
  refine ⟨vv, kv, lo1, hi1, lo2, hi2, e, ?_, ?_, h3, h4, by omega, by omega, h7⟩
  · exact Sli.loc _ _ _ _ _ _ V _ (fun g g1 g2 => hq g (by omega) (by omega) (by omega)) h1
  · exact Kns.loc _ _ _ _ V _ (fun g g1 g2 => hq g (by omega) (by omega) (by omega)) h2
theorem StH.below {lo zb : Nat} {v : Value} {s : Sto} {V V' : World} (h : StH lo zb v s V) (hb : Below V.heap.size V V') : StH lo zb v s V' := h.keep (fun g _ _ hg => hb.block g hg) hb.size
theorem StH.of {lo zb : Nat} {v : Value} {s : Sto} {w V : World} (h : StOut w s v V) (hlo : lo ≤ w.heap.size) (hzb : zb < w.heap.size ∨ V.heap.size ≤ zb) : StH lo zb v s V := by
  obtain ⟨vv, kv, lo1, hi1, lo2, hi2, e, h1, h2, h3, h4, h5, h6, h7, -⟩ := h
  exact ⟨vv, kv, lo1, hi1, lo2, hi2, e, h1, h2, ⟨by omega, by omega⟩, ⟨by omega, by omega⟩, h4, h6, h7⟩
/-- The variable is written. -/
theorem StH.set {lo zb k : Nat} {v u : Value} {s : Sto} {V : World} (h : StH lo zb v s V) : StH lo zb v s (V.setCell ⟨zb, k, none⟩ u) :=
  h.keep (fun g _ hg _ => Below.heap_setCell _ _ _ _ hg) (by simp [World.setCell])
theorem StH.form {lo zb : Nat} {v : Value} {s : Sto} {V : World} (h : StH lo zb v s V) : ∃ va vl vc ad len cap, v = .agg #[.slice va vl vc, .slice ad len cap, .int .i64 s.next] := by
  obtain ⟨vv, kv, lo1, hi1, lo2, hi2, rfl, h1, h2, -⟩ := h
  obtain ⟨va, vc, rfl, -⟩ := h1.form
  obtain ⟨ad, cap, rfl⟩ := h2.form
  exact ⟨_, _, _, _, _, _, rfl⟩
theorem StH.rd {lo zb : Nat} {v : Value} {s : Sto} {V : World} (h : StH lo zb v s V) (hf : s.Fit) : StIn V v s := by
  obtain ⟨vv, kv, lo1, hi1, lo2, hi2, rfl, h1, h2, h3, h4, h5, h6, h7⟩ := h
  obtain ⟨va, vc, rfl, h9, h10⟩ := VlSl.of h1 (by have := hf.1; unfold maxLen; omega) h5
  obtain ⟨ad, cap, rfl⟩ := h2.form
  obtain ⟨rs, e, hr⟩ := h2.rd rfl h6
  refine ⟨va, s.vols.length, vc, ad, s.kns.length, cap, rs, rfl, e.symm, hf.1, hf.2.1, fun r hr => ?_, h9, h10, hr⟩
  exact hf.2.2 (ktell r) (by rw [← e]; exact List.mem_map.2 ⟨r, hr, rfl⟩)
/-- It is answered by way of the cell g, below all. -/
theorem StH.fin {w V : World} {lo zb g : Nat} {a b : Value} {n : Int} {s : Sto} (h : StH lo zb (.agg #[a, b, .int .i64 n]) s V) (hb : Below w.heap.size w V) (hg : w.heap.size ≤ g) (hl : g < lo) : StOut w s (.agg #[a, b, .int .i64 n]) (((V.setCell ⟨g, 0, none⟩ a).setCell ⟨g, 1, none⟩ b).setCell ⟨g, 2, none⟩ (.int .i64 n)) := by
  obtain ⟨vv, kv, lo1, hi1, lo2, hi2, e, h1, h2, h3, h4, h5, h6, h7⟩ := h
  injection e with e
  injection e with e
  simp only [List.cons.injEq, and_true] at e
  obtain ⟨e1, e2, e3⟩ := e
  rw [e1, e2, e3]
  exact st_fin hg h1 h2 ⟨by omega, .inr (by omega)⟩ ⟨by omega, .inr (by omega)⟩ h5 h6 h7 hb
theorem fit_go {s t : Sto} {l : List Rc} (h : s.Fit) (e : enterGo s l = some t) : t.Fit := by
  induction l generalizing s with
  | nil => rw [enterGo] at e; cases e; exact h
  | cons r l ih =>
    rw [enterGo] at e
    split at e
    · exact ih (enter_fit h r) e
    · cases e
theorem go_snoc {s t : Sto} {l : List Rc} {k : Nat} {r : Rc} (h : enterGo s (l.take k) = some t) (hr : l[k]? = some r) : enterGo s (l.take (k + 1)) = if (enterS t r).2 = true then some (enterS t r).1 else none := by
  obtain ⟨h1, h2⟩ := List.getElem?_eq_some_iff.1 hr
  rw [List.take_succ_eq_append_getElem h1, h2, enterGo_app, h, Option.bind_some, enterGo]
  split <;> rfl
theorem go_bad {s t : Sto} {l : List Rc} {k : Nat} {r : Rc} (h : enterGo s (l.take k) = some t) (hr : l[k]? = some r) (hb : (enterS t r).2 = false) : enterAllS s l = (s, false) := by
  have e : enterGo s l = none := by
    conv => lhs; rw [← List.take_append_drop (k + 1) l]
    rw [enterGo_app, go_snoc h hr, if_neg (by rw [hb]; decide)]
    rfl
  rw [enterAllS, e]
theorem go_all {s t : Sto} {l : List Rc} (h : enterGo s l = some t) : enterAllS s l = (t, true) := by rw [enterAllS, h]
end Go.Proofs.YtcnaahajaaifjacGreat

/-
  What the laws hold: rows of records beside stores; EnterAll over them.
-/
namespace Go.Proofs.YtcnaahajaaifjacGreat
open Go.RowKit
open Words

theorem rc_tu (ls : List (Int × Int × Int × Int)) : ∃ l : List Rc, l.map Rc.tu = ls := ⟨ls.map (fun t => ⟨t.1, t.2.1, t.2.2.1, t.2.2.2⟩), by rw [List.map_map]; exact (List.map_congr_left (fun t _ => rfl)).trans (List.map_id _)⟩
theorem RcH.row {lo hi n c : Nat} {ad : Option Addr} {l : List Rc} {W : World} (h : RcH lo hi (.slice ad n c) n l W) (hn : l.length = n) (hm : n ≤ 1048576) (hh : hi ≤ W.heap.size) : RcRow W ad n (l.map Rc.tu) := by
  refine ⟨by rw [List.length_map]; exact hn, by unfold maxLen; omega, by simp, fun h0 => ?_⟩
  rcases h with ⟨e, rfl⟩ | ⟨g, cap, e, h1, h2, h3⟩
  · omega
  · injection e with e1 e2 e3
    refine ⟨g, 0, e1, by omega, fun i t hi => ?_⟩
    have hc := fun j v hj => h3.cell (rccells_at (l.map Rc.tu) i t hi j v hj)
    refine ⟨?_, ?_, ?_, ?_⟩
    · simpa using hc 0 _ rfl
    · simpa using hc 1 _ rfl
    · simpa using hc 2 _ rfl
    · simpa using hc 3 _ rfl
theorem torw_tk {w wi : World} {hs : List Hold} {a : Option Addr} {len cap : Nat} {l : List Rc} (T : Tk w wi hs) (H : RcRow w a len (l.map Rc.tu)) (hl : len ≤ 1048576) :
    Calls Tryz.prog 8 #[.slice a len cap] wi fun e w' => ∃ g : Nat, e = .returned (.slice (some ⟨g, 0, none⟩) len len) ∧ Tk w w' ((wi.heap.size, w'.heap.size, RcH wi.heap.size w'.heap.size (.slice (some ⟨g, 0, none⟩) len len) len l) :: hs) ∧ wi.heap.size ≤ w'.heap.size := by
  refine (toRcs_any a len cap (l.map Rc.tu) wi hl (H.below T.1)).mono ?_
  rintro e w' ⟨g, rfl, ho, hb⟩
  rw [H.1] at ho
  exact ⟨g, rfl, T.add hb (RcH.loc _ _ _ _ _) (Sli.of ho), hb.size⟩
theorem markrk_sp {w wi : World} {hs hs' : List Hold} {a : Value} {l : List Rc} {n k m l1 h1 : Nat} (T : Tk w wi hs) (n1 : Nat) (hn : l.length = n) (hM : n ≤ 100000000) (hk0 : 0 < k) (hk : k ≤ 1000000000) (hm : k + n * 4 = m) (hlo : w.heap.size ≤ l1) (e1 : hs[n1]? = some (l1, h1, RcH l1 h1 a n l)) (hh : ∀ x ∈ hs', x ∈ hs ∧ (x.2.1 ≤ l1 ∨ h1 ≤ x.1)) :
    Calls Tryz.prog 13 #[a, .int .i64 (k : Int)] wi fun e w' => e = .returned (.int .i64 (m : Int)) ∧ Tk w w' hs' ∧ wi.heap.size ≤ w'.heap.size := by
  refine (markRc_any l1 h1 a n k (rccells (l.map Rc.tu)) wi (by omega) (by rw [rccells_len, List.length_map, hn]) hk0 (by omega) (T.hi n1 e1) (T.get n1 e1)).mono ?_
  rintro e w' ⟨rfl, hs, hk⟩
  rw [hm]
  exact ⟨rfl, T.spoil hk.out hlo (T.hi n1 e1) hh, hk.out.2.2.2.1⟩
theorem ena_oks {s : Sto} (h : OkS s) (l : List Rc) : OkS (enterAllS s l).1 := by
  have go : ∀ (l : List Rc) (s t : Sto), OkS s → enterGo s l = some t → OkS t := by
    intro l
    induction l with
    | nil => intro s t h e; injection e with e; rw [← e]; exact h
    | cons r l ih =>
      intro s t h e
      rw [enterGo] at e
      split at e
      · exact ih _ _ (enter_oks h r) e
      · cases e
  rw [enterAllS]
  cases e : enterGo s l with
  | none => exact h
  | some t => exact go l s t h e
theorem ena_tk {f : Nat} (HC : EnterAllC f) {w wi : World} {hs : List Hold} {lo hi l1 h1 n g : Nat} {v : Value} {s R1 : Sto} {R2 : Bool} {l : List Rc} (hR : enterAllS s l = (R1, R2)) (hn : l.length = n) (hm : n ≤ 1048576) (T : Tk w wi hs) (n1 n2 : Nat) (ho : OkS s) (e1 : hs[n1]? = some (lo, hi, Sts lo hi v s)) (e2 : hs[n2]? = some (l1, h1, RcH l1 h1 (.slice (some ⟨g, 0, none⟩) n n) n l)) :
    Calls Tryz.prog f #[v, .slice (some ⟨g, 0, none⟩) n n] wi fun e w' => ∃ x xl xc y yl yc, e = .returned (.tuple #[.agg #[.slice x xl xc, .slice y yl yc, .int .i64 R1.next], .bool R2]) ∧ Tk w w' ((wi.heap.size, w'.heap.size, Sts wi.heap.size w'.heap.size (.agg #[.slice x xl xc, .slice y yl yc, .int .i64 R1.next]) R1) :: hs) ∧ wi.heap.size ≤ w'.heap.size := by
  refine (HC v s (some ⟨g, 0, none⟩) n n l wi (by omega) ((T.get n1 e1).rd ho.fit (T.hi n1 e1)) ((T.get n2 e2).row hn hm (T.hi n2 e2))).mono ?_
  rintro e w' ⟨u, rfl, hu⟩
  rw [hR] at hu
  simp only at hu
  obtain ⟨x, xl, xc, y, yl, yc, rfl⟩ := hu.form
  rw [hR]
  exact ⟨x, xl, xc, y, yl, yc, rfl, T.add hu.blw (Sts.loc _ _ _ _) hu.sts, hu.blw.size⟩
end Go.Proofs.YtcnaahajaaifjacGreat

/-
  spec.StoreNew.
-/
namespace Go.Proofs.YtcnaahajaaifjacGreat
open Go.RowKit
open Words

end Go.Proofs.YtcnaahajaaifjacGreat

/-
  A store and a record as arguments, a store as the answer's cell: what stays while a call goes on.
-/
namespace Go.Proofs.YtcnaahajaaifjacGreat
open Go.RowKit
open Words

def EnvS (w w0 : World) (z : Nat) (a b c : Value) (r : Rc) : Prop :=
  w.heap.size = z ∧ Below w.heap.size w w0 ∧ w0.heap[z]? = some (.cells #[a, b, c] 36 (0, 0)) ∧ w0.heap[z + 1]? = some (.cells #[.int .i64 r.kind, .int .i64 r.vol, .int .i64 r.arg, .int .i64 r.chunk] 52 (0, 0)) ∧ w0.heap[z + 1 + 1]? = some (.cells #[.slice none 0 0, .slice none 0 0, .int .i64 0] 36 (0, 0))
theorem EnvS.lt {w w0 : World} {z : Nat} {a b c : Value} {r : Rc} (h : EnvS w w0 z a b c r) : z + 1 + 1 < w0.heap.size := (Array.getElem?_eq_some_iff.1 h.2.2.2.2).1
theorem EnvS.on {w w0 W : World} {z : Nat} {a b c : Value} {r : Rc} (h : EnvS w w0 z a b c r) (H : Below w0.heap.size w0 W) : EnvS w W z a b c r := by
  have := h.lt
  obtain ⟨h1, h2, h3, h4, h5⟩ := h
  exact ⟨h1, h2.trans (H.mono h2.size), (H.block z (by omega)).trans h3, (H.block (z + 1) (by omega)).trans h4, (H.block (z + 1 + 1) this).trans h5⟩
theorem EnvS.sc {w W : World} {z : Nat} {a b c : Value} {r : Rc} (h : EnvS w W z a b c r) : W.cell? ⟨z, 0, none⟩ = some a ∧ W.cell? ⟨z, 1, none⟩ = some b ∧ W.cell? ⟨z, 2, none⟩ = some c :=
  ⟨cell_of_row _ _ 0 _ _ _ h.2.2.1, cell_of_row _ _ 1 _ _ _ h.2.2.1, cell_of_row _ _ 2 _ _ _ h.2.2.1⟩
theorem EnvS.rc {w W : World} {z : Nat} {a b c : Value} {r : Rc} (h : EnvS w W z a b c r) : W.cell? ⟨z + 1, 0, none⟩ = some (.int .i64 r.kind) ∧ W.cell? ⟨z + 1, 1, none⟩ = some (.int .i64 r.vol) ∧ W.cell? ⟨z + 1, 2, none⟩ = some (.int .i64 r.arg) ∧ W.cell? ⟨z + 1, 3, none⟩ = some (.int .i64 r.chunk) :=
  ⟨cell_of_row _ _ 0 _ _ _ h.2.2.2.1, cell_of_row _ _ 1 _ _ _ h.2.2.2.1, cell_of_row _ _ 2 _ _ _ h.2.2.2.1, cell_of_row _ _ 3 _ _ _ h.2.2.2.1⟩
theorem EnvS.rf {w W : World} {z : Nat} {a b c : Value} {r : Rc} (h : EnvS w W z a b c r) : W.cell? ⟨z + 1 + 1, 0, none⟩ = some (.slice none 0 0) ∧ W.cell? ⟨z + 1 + 1, 1, none⟩ = some (.slice none 0 0) ∧ W.cell? ⟨z + 1 + 1, 2, none⟩ = some (.int .i64 0) ∧ W.frozen? ⟨z + 1 + 1, 0, none⟩ = false ∧ W.frozen? ⟨z + 1 + 1, 1, none⟩ = false ∧ W.frozen? ⟨z + 1 + 1, 2, none⟩ = false :=
  ⟨cell_of_row _ _ 0 _ _ _ h.2.2.2.2, cell_of_row _ _ 1 _ _ _ h.2.2.2.2, cell_of_row _ _ 2 _ _ _ h.2.2.2.2, frozen_of_row _ _ 0 _ _ h.2.2.2.2, frozen_of_row _ _ 1 _ _ h.2.2.2.2, frozen_of_row _ _ 2 _ _ h.2.2.2.2⟩
/-- What an answer of a store and a yes or no is, its row of volumes with room for them. -/
def EnOut2 (w : World) (p : Sto × Bool) (e : Ending) (w' : World) : Prop := ∃ u, e = .returned (.tuple #[u, .bool p.2]) ∧ StOut w p.1 u w' ∧ VCap u
theorem EnOut2.out {w w' : World} {p : Sto × Bool} {e : Ending} (h : EnOut2 w p e w') : EnOut w p e w' := by
  obtain ⟨u, h1, h2, -⟩ := h
  exact ⟨u, h1, h2⟩
/-- A store that is answered by way of the answer's cells. -/
theorem EnvS.fin {w W w' : World} {z : Nat} {a b c u : Value} {r : Rc} {s : Sto} {p : Sto × Bool} {ok : Bool} (h : EnvS w W z a b c r) (he : p = (s, ok)) (hu : StOut W s u w') (hc : VCap u) : ∃ ua ul uc ub um ud, u = .agg #[.slice ua ul uc, .slice ub um ud, .int .i64 s.next] ∧ EnvS w w' z a b c r ∧ (((w'.setCell ⟨z + 1 + 1, 0, none⟩ (.slice ua ul uc)).setCell ⟨z + 1 + 1, 1, none⟩ (.slice ub um ud)).setCell ⟨z + 1 + 1, 2, none⟩ (.int .i64 s.next)).heap[z + 1 + 1]? = some (.cells #[.slice ua ul uc, .slice ub um ud, .int .i64 s.next] 36 (0, 0)) ∧ EnOut2 w p (.returned (.tuple #[.agg #[.slice ua ul uc, .slice ub um ud, .int .i64 s.next], .bool ok])) (((w'.setCell ⟨z + 1 + 1, 0, none⟩ (.slice ua ul uc)).setCell ⟨z + 1 + 1, 1, none⟩ (.slice ub um ud)).setCell ⟨z + 1 + 1, 2, none⟩ (.int .i64 s.next)) := by
  obtain ⟨ua, ul, uc, ub, um, ud, rfl⟩ := hu.form
  have h2 := h.on hu.blw
  refine ⟨ua, ul, uc, ub, um, ud, rfl, h2, sto_row3 h2.2.2.2.2, ?_⟩
  rw [he]
  have h3 := h.lt
  have h4 := h.1
  exact ⟨_, rfl, hu.set3 (w0 := w) h.2.1 (g := z + 1 + 1) h3 (by omega), hc⟩
/-- A store in a cell and a yes or no, answered. -/
theorem res_st2 {fn : Func} {p q : Tmp} (h : fn.results = #[.cell p 36, .tmp q]) (tmps : Array Value) (w : World) (g : Nat) (a b c : Value)
    (hp : tmps.getD p undef = .pointer (some ⟨g, 0, none⟩)) (hg : w.heap[g]? = some (.cells #[a, b, c] 36 (0, 0))) :
    (results fn tmps).run Tryz.prog w = .ok (.tuple #[.agg #[a, b, c], tmps.getD q undef]) w := by
  have hp' : tmps[p]?.getD undef = .pointer (some ⟨g, 0, none⟩) := by simpa using hp
  have hl := run_loadVar_row (P := Tryz.prog) w g 36 36 #[a, b, c] (0, 0) _ hg Tryz.underlying36 rfl infoSto
  simp [results, h, hp', asAddr, hl]
theorem scopy_in {v : Value} {s : Sto} {w : World} (h : StIn w v s) : Calls Tryz.prog 17 #[v] w fun e w' => ∃ u, e = .returned u ∧ StOut w s u w' ∧ VCap u := by
  obtain ⟨va, vl, vc, ad, len, cap, rs, rfl, hks, hvl, hl, hll, hvc, h, hk⟩ := h
  have := scopyS va vl vc ad len cap s.next s.vols rs w hvl (by omega) hll hvc h hk
  rw [← hks] at this
  exact this
theorem vfilter_take {l : List (Int × Int)} {k : Nat} {v : Int × Int} {f : Int × Int → Bool} (h : l[k]? = some v) : (l.take (k + 1)).filter f = (l.take k).filter f ++ (if f v = true then [v] else []) := by
  rw [List.take_add_one, h, List.filter_append]
  simp [List.filter_cons]
theorem vl_snoc (l : List (Int × Int)) (a b : Int) : vlcells l ++ [Value.int .i64 a, Value.int .i64 b] = vlcells (l ++ [(a, b)]) := by
  rw [vlcells_app]
  rfl
theorem vl_new (W : World) (a b : Int) : ∀ (j : Nat) (u : Value), [Value.int .i64 a, Value.int .i64 b][j]? = some u → (W.alloc (.cells #[.int .i64 a, .int .i64 b] 69)).cell? ((⟨W.heap.size, 0, none⟩ : Addr).add j) = some u := by
  intro j u hj
  rw [addr_at, cell_of_row _ _ j _ _ _ (heap_alloc_new W (.cells #[.int .i64 a, .int .i64 b] 69))]
  match j, hj with
  | 0, hj | 1, hj => simpa using hj
theorem vl_one (a b : Int) : ∀ u ∈ [Value.int .i64 a, Value.int .i64 b], u.oneCell' = true := by
  intro u hu
  simp at hu
  rcases hu with h | h <;> subst h <;> rfl
end Go.Proofs.YtcnaahajaaifjacGreat
