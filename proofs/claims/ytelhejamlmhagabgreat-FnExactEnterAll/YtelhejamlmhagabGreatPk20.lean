/-
  StoTk2; ToRcS; SRecOk
-/
import Derived.Test.YtelhejamlmhagabGreatPk18
import Derived.Test.YtelhejamlmhagabGreatPk19
import Derived.Test.YtelhejamlmhagabGreatPk15
import Derived.Test.YtelhejamlmhagabGreatPk1
import Derived.Deep.RegionHeld3
import Derived.Test.YtelhejamlmhagabGreatPk0
import Derived.Test.YtelhejamlmhagabGreatPk9
import Derived.Test.YtelhejamlmhagabGreatPk6
/-
  What the laws hold: rows of numbers and of records, great ones too.
-/
namespace Go.Proofs.YtelhejamlmhagabGreat
open Go.RowKit
open Words

theorem eqiw_tk {w wi : World} {hs : List Hold} {a b : Value} {l : List Int} {n l1 h1 l2 h2 : Nat} (T : Tk w wi hs) (n1 n2 : Nat) (hn : l.length = n) (hm : n ≤ 100000000) (e1 : hs[n1]? = some (l1, h1, IsH l1 h1 a n l)) (e2 : hs[n2]? = some (l2, h2, IsH l2 h2 b n l)) :
    Calls Tryz.prog 89 #[a, b] wi fun e w' => e = .returned (.bool true) ∧ Tk w w' hs ∧ wi.heap.size ≤ w'.heap.size := by
  refine (eqIs_same a b l n l1 h1 l2 h2 wi hn (by omega) (T.get n1 e1) (T.get n2 e2)).mono ?_
  rintro e w' ⟨rfl, hb⟩
  exact ⟨rfl, T.below hb, hb.size⟩
theorem markiw_tk {w wi : World} {hs hs' : List Hold} {a : Value} {l : List Int} {n m l1 h1 : Nat} (T : Tk w wi hs) (n1 : Nat) (hn : l.length = n) (hn2 : n ≤ 100000000) (hm : 1 + n = m) (hlo : w.heap.size ≤ l1) (e1 : hs[n1]? = some (l1, h1, IsH l1 h1 a n l)) (hh : ∀ x ∈ hs', x ∈ hs ∧ (x.2.1 ≤ l1 ∨ h1 ≤ x.1)) :
    Calls Tryz.prog 72 #[a, .int .i64 1] wi fun e w' => e = .returned (.int .i64 (m : Int)) ∧ Tk w w' ((l1, h1, IsM l1 h1 a n) :: hs') ∧ wi.heap.size ≤ w'.heap.size := by
  have hx : Sli 3 l1 h1 a n (icells l) wi := T.get n1 e1
  refine (markIs_any l1 h1 a n 1 (icells l) wi (by omega) (by simp [icells, hn]) (by omega) (by omega) hx).mono ?_
  rintro e w' ⟨rfl, hs2, hk⟩
  rw [hm]
  have hk2 : Kept2 wi w' (Apt l1 h1) := ⟨hk.out.1, hk.out.2.1, hk.out.2.2.1, hk.out.2.2.2.1, fun i hi ho => hk.out.2.2.2.2 i hi (fun e => by
    have := hx.lt i e
    exact ho ⟨this.1, this.2.1⟩)⟩
  exact ⟨rfl, T.touch hk2 hlo (T.hi n1 e1) (IsM.loc _ _ _ _) hs2.out hh, hk.out.2.2.2.1⟩
theorem heldiw_tk {w wi : World} {hs : List Hold} {a : Value} {n m l1 h1 : Nat} (T : Tk w wi hs) (n1 : Nat) (hn2 : n ≤ 100000000) (hm : 1 + n = m) (e1 : hs[n1]? = some (l1, h1, IsM l1 h1 a n)) :
    Calls Tryz.prog 73 #[a, .int .i64 1] wi fun e w' => e = .returned (.int .i64 (m : Int)) ∧ Tk w w' hs ∧ wi.heap.size ≤ w'.heap.size := by
  refine (heldIs_any l1 h1 a n 1 wi (by omega) (by omega) (by omega) (T.get n1 e1)).mono ?_
  rintro e w' ⟨rfl, hb⟩
  rw [hm]
  exact ⟨rfl, T.below hb, hb.size⟩
/-- A row of records in the blocks lo to hi; marked. -/
def RcH (lo hi : Nat) (v : Value) (n : Nat) (l : List Rc) : World → Prop := Sli 52 lo hi v n (rccells (l.map Rc.tu))
theorem RcH.loc (lo hi : Nat) (v : Value) (n : Nat) (l : List Rc) : Loc lo hi (RcH lo hi v n l) := Sli.loc _ _ _ _ _ _
def RcM (lo hi : Nat) (v : Value) (n : Nat) : World → Prop := Sli 52 lo hi v n (mkFlat patRc 1 n)
theorem RcM.loc (lo hi : Nat) (v : Value) (n : Nat) : Loc lo hi (RcM lo hi v n) := Sli.loc _ _ _ _ _ _
theorem eqrw_tk {w wi : World} {hs : List Hold} {a b : Value} {l : List Rc} {n l1 h1 l2 h2 : Nat} (T : Tk w wi hs) (n1 n2 : Nat) (hn : l.length = n) (hM : n ≤ 100000000) (e1 : hs[n1]? = some (l1, h1, RcH l1 h1 a n l)) (e2 : hs[n2]? = some (l2, h2, RcH l2 h2 b n l)) :
    Calls Tryz.prog 11 #[a, b] wi fun e w' => e = .returned (.bool true) ∧ Tk w w' hs ∧ wi.heap.size ≤ w'.heap.size := by
  have x1 : Sli 52 l1 h1 a n (rccells (l.map Rc.tu)) wi := T.get n1 e1
  have x2 : Sli 52 l2 h2 b n (rccells (l.map Rc.tu)) wi := T.get n2 e2
  have hn2 : n = (l.map Rc.tu).length := by rw [List.length_map, hn]
  rw [hn2] at x1 x2 hM
  refine (eqRcs_same a b (l.map Rc.tu) l1 h1 l2 h2 wi (by omega) x1 x2).mono ?_
  rintro e w' ⟨rfl, hb⟩
  exact ⟨rfl, T.below hb, hb.size⟩
theorem markrw_tk {w wi : World} {hs hs' : List Hold} {a : Value} {l : List Rc} {n m l1 h1 : Nat} (T : Tk w wi hs) (n1 : Nat) (hn : l.length = n) (hM : n ≤ 100000000) (hm : 1 + n * 4 = m) (hlo : w.heap.size ≤ l1) (e1 : hs[n1]? = some (l1, h1, RcH l1 h1 a n l)) (hh : ∀ x ∈ hs', x ∈ hs ∧ (x.2.1 ≤ l1 ∨ h1 ≤ x.1)) :
    Calls Tryz.prog 13 #[a, .int .i64 1] wi fun e w' => e = .returned (.int .i64 (m : Int)) ∧ Tk w w' ((l1, h1, RcM l1 h1 a n) :: hs') ∧ wi.heap.size ≤ w'.heap.size := by
  refine (markRc_any l1 h1 a n 1 (rccells (l.map Rc.tu)) wi (by omega) (by rw [rccells_len, List.length_map, hn]) (by omega) (by omega) (T.hi n1 e1) (T.get n1 e1)).mono ?_
  rintro e w' ⟨rfl, hs, hk⟩
  rw [hm]
  exact ⟨rfl, T.touch hk.out hlo (T.hi n1 e1) (RcM.loc _ _ _ _) hs.out hh, hk.out.2.2.2.1⟩
end Go.Proofs.YtelhejamlmhagabGreat

/-
  The laws' own szRecS and toRecS.
-/
namespace Go.Proofs.YtelhejamlmhagabGreat
open Go.RowKit

set_option maxHeartbeats 400000 in
set_option maxRecDepth 100000 in
theorem szRcs_any (a : Option Addr) (len cap : Nat) (z0 : Nat) (w : World) (hz0 : z0 ≤ 1048576) (hl : len ≤ maxLen) :
    Calls Tryz.prog 5 #[.slice a len cap, .int .i64 z0] w fun e w' => (∃ r : Int, e = .returned (.int .i64 r) ∧ -1 ≤ r ∧ r ≤ z0 ∧ (0 ≤ r → r + len ≤ z0)) ∧ w' = w := by
  unfold maxLen at hl
  have hw : IntKind.i64.wrap ((z0 : Int) - len) = (z0 : Int) - len := by rw [IntKind.wrap_i64]; omega
  by_cases hlt : (z0 : Int) - len < 0
  · go_enter Tryz.func5, Tryz.ntmps5
    go_wp2
    go_ret
    exact ⟨⟨_, rfl, by omega, by omega, fun h => by omega⟩, rfl⟩
  · go_enter Tryz.func5, Tryz.ntmps5
    go_wp2
    go_ret
    exact ⟨⟨_, rfl, by omega, by omega, fun h => by omega⟩, rfl⟩
theorem rccells_put (ls : List (Int × Int × Int × Int)) (R : List Value) (j : Nat) (x0 : Int) (x1 : Int) (x2 : Int) (x3 : Int) (hj : ls[j]? = some (x0, x1, x2, x3)) (hR : R.length = ls.length * 4) :
    ((((rccells (ls.take j) ++ R.drop (j * 4)).set (j * 4) (.int .i64 x0)).set (j * 4 + 1) (.int .i64 x1)).set (j * 4 + 2) (.int .i64 x2)).set (j * 4 + 3) (.int .i64 x3) = rccells (ls.take (j + 1)) ++ R.drop ((j + 1) * 4) := by
  obtain ⟨hj1, hj2⟩ := List.getElem?_eq_some_iff.1 hj
  have hm : (rccells (ls.take j)).length = j * 4 := by rw [rccells_len, List.length_take]; congr 1; omega
  have e2 : rccells [(x0, x1, x2, x3)] = [.int .i64 x0, .int .i64 x1, .int .i64 x2, .int .i64 x3] := rfl
  have e3 : ls.take (j + 1) = ls.take j ++ [(x0, x1, x2, x3)] := by rw [List.take_succ_eq_append_getElem hj1, hj2]
  rw [e3, rccells_app, e2, List.set_append_right _ _ (by omega), List.set_append_right _ _ (by omega), List.set_append_right _ _ (by omega), List.set_append_right _ _ (by omega), hm, Nat.sub_self, Nat.add_sub_cancel_left, Nat.add_sub_cancel_left, Nat.add_sub_cancel_left, List.append_assoc]
  rw [List.drop_eq_getElem_cons (show j * 4 < R.length by omega), List.drop_eq_getElem_cons (show j * 4 + 1 < R.length by omega), List.drop_eq_getElem_cons (show j * 4 + 2 < R.length by omega), List.drop_eq_getElem_cons (show j * 4 + 3 < R.length by omega), show (j + 1) * 4 = j * 4 + 1 + 1 + 1 + 1 by omega]
  rfl
set_option maxHeartbeats 800000 in
set_option maxRecDepth 100000 in
theorem toRcs_any (a : Option Addr) (len cap : Nat) (ls : List (Int × Int × Int × Int)) (w : World) (hl : len ≤ 1048576) (h : RcRow w a len ls) :
    Calls Tryz.prog 8 #[.slice a len cap] w fun e w' => ∃ g : Nat, e = .returned (.slice (some ⟨g, 0, none⟩) len len) ∧ w'.ownsRow w.heap.size 52 4 (.slice (some ⟨g, 0, none⟩) len len) ls.length (rccells ls) ∧ Below w.heap.size w w' := by
  obtain ⟨i0, hi, hz0, hz1, hz2⟩ := info_parts infoRc
  obtain ⟨h1, -, -, h4⟩ := h
  have H4 := hide h4
  have H1 := hide h1
  clear h4 h1
  go_enter Tryz.func8, Tryz.ntmps8
  go_wp2_with (at_make; refine wpList_make_full _ rfl _ _ 40 rfl w.heap.size 52 i0 (.agg #[.int .i64 0, .int .i64 0, .int .i64 0, .int .i64 0]) 4 Tryz.underlying40 hi hz0 hz1 .i64 .i64 _ _ len rfl rfl rfl rfl (by rw [hz2]; omega) (by unfold maxLen; omega) (Nat.le_refl _) ?_)
  intro w1 hown hgrow
  generalize (madeCells #[Value.int .i64 0, Value.int .i64 0, Value.int .i64 0, Value.int .i64 0] (len * 4)).toList = R at hown
  have HR : Hid (R.length = ls.length * 4) := by show _ = _; rw [H1.out]; exact hown.1
  have HO := hide hown
  have HB1 := hide ((Below.refl w.heap.size w).grown hgrow (Nat.le_refl _) (fun k hk => by cases hk))
  have hg1 := (hown.lt w.heap.size rfl).2
  clear hown hgrow
  go_wp2
  go_loopw [4] (fun iv wr => ∃ k : Nat, k ≤ len ∧ iv = .int .i64 k ∧ Hid (wr.ownsRow w.heap.size 52 4 (.slice (some ⟨w.heap.size, 0, none⟩) len len) len (rccells (ls.take k) ++ R.drop (k * 4))) ∧ Hid (Below w.heap.size w wr)) (fun iv _ => len - (intOf iv).toNat)
  case atStart => exact ⟨0, Nat.zero_le _, rfl, HO, HB1⟩
  case round =>
    obtain ⟨k, hk, rfl, HO2, HW⟩ := hrel
    have hsz := HW.out.size
    by_cases hkl : (k : Int) < len
    · obtain ⟨b, off, rfl, hb, hc⟩ := H4.out (by omega)
      have hl1 := H1.out
      have hkl2 : k < ls.length := by omega
      obtain ⟨x0, x1, x2, x3, ht⟩ : ∃ x0 x1 x2 x3, ls[k]? = some (x0, x1, x2, x3) := ⟨ls[k].1, ls[k].2.1, ls[k].2.2.1, ls[k].2.2.2, List.getElem?_eq_getElem hkl2⟩
      obtain ⟨c0, c1, c2, c3⟩ := hc k (x0, x1, x2, x3) ht
      rw [← HW.out.cell (show b < w.heap.size from hb)] at c0 c1 c2 c3
      simp only at c0 c1 c2 c3
      have k0 : (0 : Int) ≤ k := by omega
      clear hc hl1
      go_wp2_with fail
      refine (toRc_any x0 x1 x2 x3 _).mono ?_
      rintro e w3 ⟨rfl, hb3⟩
      have o3 := own_below HO2.out hb3
      have hlen3 : (rccells (ls.take k) ++ R.drop (k * 4)).length = len * 4 := HO2.out.1
      have e3 : ∀ d, d < 4 → ∃ u, w3.cell? ⟨w.heap.size, k * 4 + d, none⟩ = some u := by
        intro d hd
        have := o3.cells (g := w.heap.size) rfl (k * 4 + d) _ (List.getElem?_eq_getElem (by rw [hlen3]; omega))
        rw [addr_at] at this
        exact ⟨_, this⟩
      obtain ⟨u0, d0⟩ := e3 0 (by omega)
      obtain ⟨u1, d1⟩ := e3 1 (by omega)
      obtain ⟨u2, d2⟩ := e3 2 (by omega)
      obtain ⟨u3, d3⟩ := e3 3 (by omega)
      rw [Nat.add_zero] at d0
      have f0 := o3.frozenAt (k * 4)
      have f1 := o3.frozenAt (k * 4 + 1)
      have f2 := o3.frozenAt (k * 4 + 2)
      have f3 := o3.frozenAt (k * 4 + 3)
      have o6 := fown_set (fown_set (fown_set (fown_set o3 rfl (k * 4) (.int .i64 x0)) rfl (k * 4 + 1) (.int .i64 x1)) rfl (k * 4 + 2) (.int .i64 x2)) rfl (k * 4 + 3) (.int .i64 x3)
      rw [rccells_put ls R k x0 x1 x2 x3 ht HR.out] at o6
      have b6 := (((((HW.out.trans (hb3.mono hsz)).setCell (p := ⟨w.heap.size, k * 4, none⟩) (Nat.le_refl _) (.int .i64 x0)).setCell (p := ⟨w.heap.size, k * 4 + 1, none⟩) (Nat.le_refl _) (.int .i64 x1)).setCell (p := ⟨w.heap.size, k * 4 + 2, none⟩) (Nat.le_refl _) (.int .i64 x2)).setCell (p := ⟨w.heap.size, k * 4 + 3, none⟩) (Nat.le_refl _) (.int .i64 x3))
      have O6 := hide o6
      have B6 := hide b6
      clear o3 o6 b6 hlen3 e3 hb3 HW HO2 c0 c1 c2 c3 ht hkl2
      go_wp2
      go_roundw
      case rel => exact ⟨k + 1, by omega, by go_num, O6, B6⟩
      case measure => simp [intOf]; omega
    · have hke : k = len := by omega
      have hO := HO2.out
      have hl1 := H1.out
      have hr1 := HR.out
      rw [hke, List.take_of_length_le (by omega), List.drop_eq_nil_of_le (by omega), List.append_nil] at hO
      have HO3 := hide hO
      clear hO hke hl1 hr1
      go_wp2
      go_ret
      exact ⟨_, rfl, (by rw [H1.out]; exact HO3.out), HW.out⟩
end Go.Proofs.YtelhejamlmhagabGreat

/-
  spec.RecOk.
-/
namespace Go.Proofs.YtelhejamlmhagabGreat
open Go.RowKit
open Words

def rcVal (r : Rc) : Value := .agg #[.int .i64 r.kind, .int .i64 r.vol, .int .i64 r.arg, .int .i64 r.chunk]

theorem rc_spec (k v a c : Int) : (Rc.mk k v a c).Right ↔ (0 ≤ a ∧ a ≤ 1000000000) ∧ (k = 1 ∧ v = 0 ∧ c = 0 ∨ (1 ≤ v ∧ v ≤ 9) ∧ (k = 2 ∧ a ≤ 9 ∧ c = 0 ∨ k = 3 ∧ a = 0 ∧ c = 0 ∨ k = 4 ∧ a < 16 ∧ 1 ≤ c ∧ c ≤ 1000000000 ∨ k = 5 ∧ a < 16 ∧ c = 0)) := Iff.rfl

set_option maxHeartbeats 1000000 in
set_option maxRecDepth 100000 in
theorem srecOk (r : Rc) (w : World) :
    Calls Tryz.prog 34 #[rcVal r] w fun e w' => e = .returned (.bool (decide r.Right)) ∧ Below w.heap.size w w' := by
  obtain ⟨k, v, a, c⟩ := r
  have HE := hide (rc_spec k v a c)
  have HB := hide ((Below.refl w.heap.size w).alloc (Nat.le_refl _) (.cells #[.int .i64 k, .int .i64 v, .int .i64 a, .int .i64 c] 52))
  unfold rcVal
  simp only
  by_cases a1 : 0 ≤ a ∧ a ≤ 1000000000
  · by_cases a2 : k = 1
    · subst a2
      by_cases a3 : (v == 0) = true
      · go_enter Tryz.func34, Tryz.ntmps34
        go_wp2_with fail
        refine (sin_b a 0 1000000000 true _ (.inl ⟨by omega, by omega, rfl⟩)).mono ?_
        rintro e w1 ⟨rfl, rfl⟩
        go_wp2
        go_ret
        refine ⟨?_, HB.out⟩
        have e : decide (Rc.mk 1 v a c).Right = (c == 0) := by
          cases hq : (c == 0) with
          | true => exact decide_eq_true (HE.out.2 (by first | omega | (simp_all; done) | (simp_all; omega)))
          | false => exact decide_eq_false (fun h => by have := HE.out.1 h; first | omega | (simp_all; done) | (simp_all; omega))
        rw [e]
        rfl
      · have a3 : (v == 0) = false := by simpa using a3
        go_enter Tryz.func34, Tryz.ntmps34
        go_wp2_with fail
        refine (sin_b a 0 1000000000 true _ (.inl ⟨by omega, by omega, rfl⟩)).mono ?_
        rintro e w1 ⟨rfl, rfl⟩
        go_wp2
        go_ret
        exact ⟨by rw [decide_eq_false (fun h => by have := HE.out.1 h; first | omega | (simp at this; omega) | (simp_all; done) | (simp_all; omega))]; rfl, HB.out⟩
    · have a2 : (k == 1) = false := by simpa using a2
      by_cases a3 : 2 ≤ k ∧ k ≤ 5
      · by_cases a4 : 1 ≤ v ∧ v ≤ 9
        · obtain a5 | a5 | a5 | a5 : k = 2 ∨ k = 3 ∨ k = 4 ∨ k = 5 := by omega
          · subst a5
            by_cases a6 : (c == 0) = true
            · go_enter Tryz.func34, Tryz.ntmps34
              go_wp2_with fail
              refine (sin_b a 0 1000000000 true _ (.inl ⟨by omega, by omega, rfl⟩)).mono ?_
              rintro e w1 ⟨rfl, rfl⟩
              go_wp2_with fail
              refine (sin_b 2 2 5 true _ (.inl ⟨by omega, by omega, rfl⟩)).mono ?_
              rintro e w1 ⟨rfl, rfl⟩
              go_wp2_with fail
              refine (sin_b v 1 9 true _ (.inl ⟨by omega, by omega, rfl⟩)).mono ?_
              rintro e w1 ⟨rfl, rfl⟩
              go_wp2
              go_ret
              refine ⟨?_, HB.out⟩
              have e : decide (Rc.mk 2 v a c).Right = decide (a ≤ 9) := by
                cases hq : decide (a ≤ 9) with
                | true => exact decide_eq_true (HE.out.2 (by first | omega | (simp_all; done) | (simp_all; omega)))
                | false => exact decide_eq_false (fun h => by have := HE.out.1 h; first | omega | (simp_all; done) | (simp_all; omega))
              rw [e]
              rfl
            · have a6 : (c == 0) = false := by simpa using a6
              go_enter Tryz.func34, Tryz.ntmps34
              go_wp2_with fail
              refine (sin_b a 0 1000000000 true _ (.inl ⟨by omega, by omega, rfl⟩)).mono ?_
              rintro e w1 ⟨rfl, rfl⟩
              go_wp2_with fail
              refine (sin_b 2 2 5 true _ (.inl ⟨by omega, by omega, rfl⟩)).mono ?_
              rintro e w1 ⟨rfl, rfl⟩
              go_wp2_with fail
              refine (sin_b v 1 9 true _ (.inl ⟨by omega, by omega, rfl⟩)).mono ?_
              rintro e w1 ⟨rfl, rfl⟩
              go_wp2
              go_ret
              exact ⟨by rw [decide_eq_false (fun h => by have := HE.out.1 h; first | omega | (simp at this; omega) | (simp_all; done) | (simp_all; omega))]; rfl, HB.out⟩
          · subst a5
            by_cases a6 : (c == 0) = true
            · go_enter Tryz.func34, Tryz.ntmps34
              go_wp2_with fail
              refine (sin_b a 0 1000000000 true _ (.inl ⟨by omega, by omega, rfl⟩)).mono ?_
              rintro e w1 ⟨rfl, rfl⟩
              go_wp2_with fail
              refine (sin_b 3 2 5 true _ (.inl ⟨by omega, by omega, rfl⟩)).mono ?_
              rintro e w1 ⟨rfl, rfl⟩
              go_wp2_with fail
              refine (sin_b v 1 9 true _ (.inl ⟨by omega, by omega, rfl⟩)).mono ?_
              rintro e w1 ⟨rfl, rfl⟩
              go_wp2
              go_ret
              refine ⟨?_, HB.out⟩
              have e : decide (Rc.mk 3 v a c).Right = (a == 0) := by
                cases hq : (a == 0) with
                | true => exact decide_eq_true (HE.out.2 (by first | omega | (simp_all; done) | (simp_all; omega)))
                | false => exact decide_eq_false (fun h => by have := HE.out.1 h; first | omega | (simp_all; done) | (simp_all; omega))
              rw [e]
              rfl
            · have a6 : (c == 0) = false := by simpa using a6
              go_enter Tryz.func34, Tryz.ntmps34
              go_wp2_with fail
              refine (sin_b a 0 1000000000 true _ (.inl ⟨by omega, by omega, rfl⟩)).mono ?_
              rintro e w1 ⟨rfl, rfl⟩
              go_wp2_with fail
              refine (sin_b 3 2 5 true _ (.inl ⟨by omega, by omega, rfl⟩)).mono ?_
              rintro e w1 ⟨rfl, rfl⟩
              go_wp2_with fail
              refine (sin_b v 1 9 true _ (.inl ⟨by omega, by omega, rfl⟩)).mono ?_
              rintro e w1 ⟨rfl, rfl⟩
              go_wp2
              go_ret
              exact ⟨by rw [decide_eq_false (fun h => by have := HE.out.1 h; first | omega | (simp at this; omega) | (simp_all; done) | (simp_all; omega))]; rfl, HB.out⟩
          · subst a5
            by_cases a6 : a < 16
            · by_cases a7 : 1 ≤ c ∧ c ≤ 1000000000
              · go_enter Tryz.func34, Tryz.ntmps34
                go_wp2_with fail
                refine (sin_b a 0 1000000000 true _ (.inl ⟨by omega, by omega, rfl⟩)).mono ?_
                rintro e w1 ⟨rfl, rfl⟩
                go_wp2_with fail
                refine (sin_b 4 2 5 true _ (.inl ⟨by omega, by omega, rfl⟩)).mono ?_
                rintro e w1 ⟨rfl, rfl⟩
                go_wp2_with fail
                refine (sin_b v 1 9 true _ (.inl ⟨by omega, by omega, rfl⟩)).mono ?_
                rintro e w1 ⟨rfl, rfl⟩
                go_wp2_with fail
                refine (sin_b c 1 1000000000 true _ (.inl ⟨by omega, by omega, rfl⟩)).mono ?_
                rintro e w1 ⟨rfl, rfl⟩
                go_wp2
                go_ret
                exact ⟨by rw [decide_eq_true (HE.out.2 (by first | omega | (simp; omega)))]; rfl, HB.out⟩
              · go_enter Tryz.func34, Tryz.ntmps34
                go_wp2_with fail
                refine (sin_b a 0 1000000000 true _ (.inl ⟨by omega, by omega, rfl⟩)).mono ?_
                rintro e w1 ⟨rfl, rfl⟩
                go_wp2_with fail
                refine (sin_b 4 2 5 true _ (.inl ⟨by omega, by omega, rfl⟩)).mono ?_
                rintro e w1 ⟨rfl, rfl⟩
                go_wp2_with fail
                refine (sin_b v 1 9 true _ (.inl ⟨by omega, by omega, rfl⟩)).mono ?_
                rintro e w1 ⟨rfl, rfl⟩
                go_wp2_with fail
                refine (sin_b c 1 1000000000 false _ (.inr ⟨by omega, rfl⟩)).mono ?_
                rintro e w1 ⟨rfl, rfl⟩
                go_wp2
                go_ret
                exact ⟨by rw [decide_eq_false (fun h => by have := HE.out.1 h; first | omega | (simp at this; omega) | (simp_all; done) | (simp_all; omega))]; rfl, HB.out⟩
            · go_enter Tryz.func34, Tryz.ntmps34
              go_wp2_with fail
              refine (sin_b a 0 1000000000 true _ (.inl ⟨by omega, by omega, rfl⟩)).mono ?_
              rintro e w1 ⟨rfl, rfl⟩
              go_wp2_with fail
              refine (sin_b 4 2 5 true _ (.inl ⟨by omega, by omega, rfl⟩)).mono ?_
              rintro e w1 ⟨rfl, rfl⟩
              go_wp2_with fail
              refine (sin_b v 1 9 true _ (.inl ⟨by omega, by omega, rfl⟩)).mono ?_
              rintro e w1 ⟨rfl, rfl⟩
              go_wp2
              go_ret
              exact ⟨by rw [decide_eq_false (fun h => by have := HE.out.1 h; first | omega | (simp at this; omega) | (simp_all; done) | (simp_all; omega))]; rfl, HB.out⟩
          · subst a5
            by_cases a6 : (c == 0) = true
            · go_enter Tryz.func34, Tryz.ntmps34
              go_wp2_with fail
              refine (sin_b a 0 1000000000 true _ (.inl ⟨by omega, by omega, rfl⟩)).mono ?_
              rintro e w1 ⟨rfl, rfl⟩
              go_wp2_with fail
              refine (sin_b 5 2 5 true _ (.inl ⟨by omega, by omega, rfl⟩)).mono ?_
              rintro e w1 ⟨rfl, rfl⟩
              go_wp2_with fail
              refine (sin_b v 1 9 true _ (.inl ⟨by omega, by omega, rfl⟩)).mono ?_
              rintro e w1 ⟨rfl, rfl⟩
              go_wp2
              go_ret
              refine ⟨?_, HB.out⟩
              have e : decide (Rc.mk 5 v a c).Right = decide (a < 16) := by
                cases hq : decide (a < 16) with
                | true => exact decide_eq_true (HE.out.2 (by first | omega | (simp_all; done) | (simp_all; omega)))
                | false => exact decide_eq_false (fun h => by have := HE.out.1 h; first | omega | (simp_all; done) | (simp_all; omega))
              rw [e]
              rfl
            · have a6 : (c == 0) = false := by simpa using a6
              go_enter Tryz.func34, Tryz.ntmps34
              go_wp2_with fail
              refine (sin_b a 0 1000000000 true _ (.inl ⟨by omega, by omega, rfl⟩)).mono ?_
              rintro e w1 ⟨rfl, rfl⟩
              go_wp2_with fail
              refine (sin_b 5 2 5 true _ (.inl ⟨by omega, by omega, rfl⟩)).mono ?_
              rintro e w1 ⟨rfl, rfl⟩
              go_wp2_with fail
              refine (sin_b v 1 9 true _ (.inl ⟨by omega, by omega, rfl⟩)).mono ?_
              rintro e w1 ⟨rfl, rfl⟩
              go_wp2
              go_ret
              exact ⟨by rw [decide_eq_false (fun h => by have := HE.out.1 h; first | omega | (simp at this; omega) | (simp_all; done) | (simp_all; omega))]; rfl, HB.out⟩
        · go_enter Tryz.func34, Tryz.ntmps34
          go_wp2_with fail
          refine (sin_b a 0 1000000000 true _ (.inl ⟨by omega, by omega, rfl⟩)).mono ?_
          rintro e w1 ⟨rfl, rfl⟩
          go_wp2_with fail
          refine (sin_b k 2 5 true _ (.inl ⟨by omega, by omega, rfl⟩)).mono ?_
          rintro e w1 ⟨rfl, rfl⟩
          go_wp2_with fail
          refine (sin_b v 1 9 false _ (.inr ⟨by omega, rfl⟩)).mono ?_
          rintro e w1 ⟨rfl, rfl⟩
          go_wp2
          go_ret
          exact ⟨by rw [decide_eq_false (fun h => by have := HE.out.1 h; first | omega | (simp at this; omega) | (simp_all; done) | (simp_all; omega))]; rfl, HB.out⟩
      · go_enter Tryz.func34, Tryz.ntmps34
        go_wp2_with fail
        refine (sin_b a 0 1000000000 true _ (.inl ⟨by omega, by omega, rfl⟩)).mono ?_
        rintro e w1 ⟨rfl, rfl⟩
        go_wp2_with fail
        refine (sin_b k 2 5 false _ (.inr ⟨by omega, rfl⟩)).mono ?_
        rintro e w1 ⟨rfl, rfl⟩
        go_wp2
        go_ret
        exact ⟨by rw [decide_eq_false (fun h => by have := HE.out.1 h; first | omega | (simp at this; omega) | (simp_all; done) | (simp_all; omega))]; rfl, HB.out⟩
  · go_enter Tryz.func34, Tryz.ntmps34
    go_wp2_with fail
    refine (sin_b a 0 1000000000 false _ (.inr ⟨by omega, rfl⟩)).mono ?_
    rintro e w1 ⟨rfl, rfl⟩
    go_wp2
    go_ret
    exact ⟨by rw [decide_eq_false (fun h => by have := HE.out.1 h; first | omega | (simp at this; omega) | (simp_all; done) | (simp_all; omega))]; rfl, HB.out⟩
end Go.Proofs.YtelhejamlmhagabGreat
