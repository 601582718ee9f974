/-
  ToRcS; CePg; EqPgS
-/
import Derived.Test.YtogfdhfmamabiaaPk0
import Derived.Test.YtogfdhfmamabiaaPk3
import Derived.Deep.RegionHeld3
import Derived.Test.YtogfdhfmamabiaaPk2
/-
  The laws' own szRecS and toRecS.
-/
namespace Go.Proofs.Ytogfdhfmamabiaa
open Go.RowKit

set_option maxHeartbeats 400000 in
set_option maxRecDepth 100000 in
theorem szRcs_any (a : Option Addr) (len cap : Nat) (z0 : Nat) (w : World) (hz0 : z0 ≤ 1048576) (hl : len ≤ maxLen) :
    Calls Try.prog 54 #[.slice a len cap, .int .i64 z0] w fun e w' => (∃ r : Int, e = .returned (.int .i64 r) ∧ -1 ≤ r ∧ r ≤ z0 ∧ (0 ≤ r → r + len ≤ z0)) ∧ w' = w := by
  unfold maxLen at hl
  have hw : IntKind.i64.wrap ((z0 : Int) - len) = (z0 : Int) - len := by rw [IntKind.wrap_i64]; omega
  by_cases hlt : (z0 : Int) - len < 0
  · go_enter Try.func54, Try.ntmps54
    go_wp2
    go_ret
    exact ⟨⟨_, rfl, by omega, by omega, fun h => by omega⟩, rfl⟩
  · go_enter Try.func54, Try.ntmps54
    go_wp2
    go_ret
    exact ⟨⟨_, rfl, by omega, by omega, fun h => by omega⟩, rfl⟩
theorem rccells_put (ls : List (Int × Int × Int × Int)) (R : List Value) (j : Nat) (x0 : Int) (x1 : Int) (x2 : Int) (x3 : Int) (hj : ls[j]? = some (x0, x1, x2, x3)) (hR : R.length = ls.length * 4) :
    ((((rccells (ls.take j) ++ R.drop (j * 4)).set (j * 4) (.int .i64 x0)).set (j * 4 + 1) (.int .i64 x1)).set (j * 4 + 2) (.int .i64 x2)).set (j * 4 + 3) (.int .i64 x3) = rccells (ls.take (j + 1)) ++ R.drop ((j + 1) * 4) := by
  obtain ⟨hj1, hj2⟩ := List.getElem?_eq_some_iff.1 hj
  have hm : (rccells (ls.take j)).length = j * 4 := by rw [rccells_len, List.length_take]; congr 1; omega
  have e2 : rccells [(x0, x1, x2, x3)] = [.int .i64 x0, .int .i64 x1, .int .i64 x2, .int .i64 x3] := rfl
  have e3 : ls.take (j + 1) = ls.take j ++ [(x0, x1, x2, x3)] := by rw [List.take_succ_eq_append_getElem hj1, hj2]
  rw [e3, rccells_app, e2, List.set_append_right _ _ (by omega), List.set_append_right _ _ (by omega), List.set_append_right _ _ (by omega), List.set_append_right _ _ (by omega), hm, Nat.sub_self, Nat.add_sub_cancel_left, Nat.add_sub_cancel_left, Nat.add_sub_cancel_left, List.append_assoc]
  rw [List.drop_eq_getElem_cons (show j * 4 < R.length by omega), List.drop_eq_getElem_cons (show j * 4 + 1 < R.length by omega), List.drop_eq_getElem_cons (show j * 4 + 2 < R.length by omega), List.drop_eq_getElem_cons (show j * 4 + 3 < R.length by omega), show (j + 1) * 4 = j * 4 + 1 + 1 + 1 + 1 by omega]
  rfl
set_option maxHeartbeats 800000 in
set_option maxRecDepth 100000 in
theorem toRcs_any (a : Option Addr) (len cap : Nat) (ls : List (Int × Int × Int × Int)) (w : World) (hl : len ≤ 1048576) (h : RcRow w a len ls) :
    Calls Try.prog 55 #[.slice a len cap] w fun e w' => ∃ g : Nat, e = .returned (.slice (some ⟨g, 0, none⟩) len len) ∧ w'.ownsRow w.heap.size 34 4 (.slice (some ⟨g, 0, none⟩) len len) ls.length (rccells ls) ∧ Below w.heap.size w w' := by
  obtain ⟨i0, hi, hz0, hz1, hz2⟩ := info_parts infoRc
  obtain ⟨h1, -, -, h4⟩ := h
  have H4 := hide h4
  have H1 := hide h1
  clear h4 h1
  go_enter Try.func55, Try.ntmps55
  go_wp2_with (at_make; refine wpList_make_full _ rfl _ _ 29 rfl w.heap.size 34 i0 (.agg #[.int .i64 0, .int .i64 0, .int .i64 0, .int .i64 0]) 4 Try.underlying29 hi hz0 hz1 .i64 .i64 _ _ len rfl rfl rfl rfl (by rw [hz2]; omega) (by unfold maxLen; omega) (Nat.le_refl _) ?_)
  intro w1 hown hgrow
  generalize (madeCells #[Value.int .i64 0, Value.int .i64 0, Value.int .i64 0, Value.int .i64 0] (len * 4)).toList = R at hown
  have HR : Hid (R.length = ls.length * 4) := by show _ = _; rw [H1.out]; exact hown.1
  have HO := hide hown
  have HB1 := hide ((Below.refl w.heap.size w).grown hgrow (Nat.le_refl _) (fun k hk => by cases hk))
  have hg1 := (hown.lt w.heap.size rfl).2
  clear hown hgrow
  go_wp2
  go_loopw [4] (fun iv wr => ∃ k : Nat, k ≤ len ∧ iv = .int .i64 k ∧ Hid (wr.ownsRow w.heap.size 34 4 (.slice (some ⟨w.heap.size, 0, none⟩) len len) len (rccells (ls.take k) ++ R.drop (k * 4))) ∧ Hid (Below w.heap.size w wr)) (fun iv _ => len - (intOf iv).toNat)
  case atStart => exact ⟨0, Nat.zero_le _, rfl, HO, HB1⟩
  case round =>
    obtain ⟨k, hk, rfl, HO2, HW⟩ := hrel
    have hsz := HW.out.size
    by_cases hkl : (k : Int) < len
    · obtain ⟨b, off, rfl, hb, hc⟩ := H4.out (by omega)
      have hl1 := H1.out
      have hkl2 : k < ls.length := by omega
      obtain ⟨x0, x1, x2, x3, ht⟩ : ∃ x0 x1 x2 x3, ls[k]? = some (x0, x1, x2, x3) := ⟨ls[k].1, ls[k].2.1, ls[k].2.2.1, ls[k].2.2.2, List.getElem?_eq_getElem hkl2⟩
      obtain ⟨c0, c1, c2, c3⟩ := hc k (x0, x1, x2, x3) ht
      rw [← HW.out.cell (show b < w.heap.size from hb)] at c0 c1 c2 c3
      simp only at c0 c1 c2 c3
      have k0 : (0 : Int) ≤ k := by omega
      clear hc hl1
      go_wp2_with fail
      refine (toRc_any x0 x1 x2 x3 _).mono ?_
      rintro e w3 ⟨rfl, hb3⟩
      have o3 := own_below HO2.out hb3
      have hlen3 : (rccells (ls.take k) ++ R.drop (k * 4)).length = len * 4 := HO2.out.1
      have e3 : ∀ d, d < 4 → ∃ u, w3.cell? ⟨w.heap.size, k * 4 + d, none⟩ = some u := by
        intro d hd
        have := o3.cells (g := w.heap.size) rfl (k * 4 + d) _ (List.getElem?_eq_getElem (by rw [hlen3]; omega))
        rw [addr_at] at this
        exact ⟨_, this⟩
      obtain ⟨u0, d0⟩ := e3 0 (by omega)
      obtain ⟨u1, d1⟩ := e3 1 (by omega)
      obtain ⟨u2, d2⟩ := e3 2 (by omega)
      obtain ⟨u3, d3⟩ := e3 3 (by omega)
      rw [Nat.add_zero] at d0
      have f0 := o3.frozenAt (k * 4)
      have f1 := o3.frozenAt (k * 4 + 1)
      have f2 := o3.frozenAt (k * 4 + 2)
      have f3 := o3.frozenAt (k * 4 + 3)
      have o6 := fown_set (fown_set (fown_set (fown_set o3 rfl (k * 4) (.int .i64 x0)) rfl (k * 4 + 1) (.int .i64 x1)) rfl (k * 4 + 2) (.int .i64 x2)) rfl (k * 4 + 3) (.int .i64 x3)
      rw [rccells_put ls R k x0 x1 x2 x3 ht HR.out] at o6
      have b6 := (((((HW.out.trans (hb3.mono hsz)).setCell (p := ⟨w.heap.size, k * 4, none⟩) (Nat.le_refl _) (.int .i64 x0)).setCell (p := ⟨w.heap.size, k * 4 + 1, none⟩) (Nat.le_refl _) (.int .i64 x1)).setCell (p := ⟨w.heap.size, k * 4 + 2, none⟩) (Nat.le_refl _) (.int .i64 x2)).setCell (p := ⟨w.heap.size, k * 4 + 3, none⟩) (Nat.le_refl _) (.int .i64 x3))
      have O6 := hide o6
      have B6 := hide b6
      clear o3 o6 b6 hlen3 e3 hb3 HW HO2 c0 c1 c2 c3 ht hkl2
      go_wp2
      go_roundw
      case rel => exact ⟨k + 1, by omega, by go_num, O6, B6⟩
      case measure => simp [intOf]; omega
    · have hke : k = len := by omega
      have hO := HO2.out
      have hl1 := H1.out
      have hr1 := HR.out
      rw [hke, List.take_of_length_le (by omega), List.drop_eq_nil_of_le (by omega), List.append_nil] at hO
      have HO3 := hide hO
      clear hO hke hl1 hr1
      go_wp2
      go_ret
      exact ⟨_, rfl, (by rw [H1.out]; exact HO3.out), HW.out⟩
end Go.Proofs.Ytogfdhfmamabiaa

/-
  The cells of Pages in a row.
-/
namespace Go.Proofs.Ytogfdhfmamabiaa
open Go.RowKit

/-- The cells of elements. -/
def pgcell (t : Int × Int × Int × Int × Int × ByteArray) : List Value := [.int .i64 t.1, .int .i64 t.2.1, .int .i64 t.2.2.1, .int .i64 t.2.2.2.1, .int .i64 t.2.2.2.2.1, .string t.2.2.2.2.2]
def pgcells (l : List (Int × Int × Int × Int × Int × ByteArray)) : List Value := l.flatMap pgcell
theorem pgcells_len (l : List (Int × Int × Int × Int × Int × ByteArray)) : (pgcells l).length = l.length * 6 := by
  induction l with
  | nil => rfl
  | cons t l ih => simp [pgcells, pgcell] at ih ⊢; omega
theorem pgcells_app (a b : List (Int × Int × Int × Int × Int × ByteArray)) : pgcells (a ++ b) = pgcells a ++ pgcells b := by simp [pgcells]
theorem pgcells_cons (t : Int × Int × Int × Int × Int × ByteArray) (l : List (Int × Int × Int × Int × Int × ByteArray)) : pgcells (t :: l) = pgcell t ++ pgcells l := by simp [pgcells]
theorem pgcells_at (l : List (Int × Int × Int × Int × Int × ByteArray)) (k : Nat) (t : Int × Int × Int × Int × Int × ByteArray) (h : l[k]? = some t) (j : Nat) (v : Value) (hj : (pgcell t)[j]? = some v) : (pgcells l)[k * 6 + j]? = some v := by
  have hlt : j < 6 := (List.getElem?_eq_some_iff.1 hj).1
  induction l generalizing k with
  | nil => simp at h
  | cons a l ih =>
    rw [pgcells_cons]
    cases k with
    | zero =>
      simp at h
      subst h
      rw [List.getElem?_append_left (by show _ < 6; omega), Nat.zero_mul, Nat.zero_add]
      exact hj
    | succ k =>
      rw [List.getElem?_append_right (by show 6 ≤ _; omega), show (k + 1) * 6 + j - (pgcell a).length = k * 6 + j by show _ - 6 = _; omega]
      exact ih k (by simpa using h)
theorem pgcells_one (l : List (Int × Int × Int × Int × Int × ByteArray)) : ∀ v ∈ pgcells l, v.oneCell' = true := by
  intro v hv
  obtain ⟨t, -, ht⟩ := List.mem_flatMap.1 hv
  simp [pgcell] at ht
  rcases ht with h | h | h | h | h | h <;> subst h <;> rfl
theorem infoPg : (Try.prog.info? 40).map (fun i => (i.zero, i.size, i.bytes)) = some (some (.agg #[.int .i64 0, .int .i64 0, .int .i64 0, .int .i64 0, .int .i64 0, .string ⟨#[]⟩]), 6, 56) := by kernel_rfl
theorem infoPgz : (Try.prog.info? 40).map (·.size) = some 6 := by kernel_rfl
end Go.Proofs.Ytogfdhfmamabiaa

/-
  The laws' own eqPageS.
-/
namespace Go.Proofs.Ytogfdhfmamabiaa
open Go.RowKit

end Go.Proofs.Ytogfdhfmamabiaa
