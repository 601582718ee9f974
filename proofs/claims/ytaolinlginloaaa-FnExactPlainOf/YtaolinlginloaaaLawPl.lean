/-
  The walk of the law on PlainOf.
-/
import Derived.Test.YtaolinlginloaaaOpenT
import Derived.Test.YtaolinlginloaaaMarkT
import Derived.Test.YtaolinlginloaaaIPlain
import Derived.Test.YtaolinlginloaaaSPlain
namespace Go.Proofs.Ytaolinlginloaaa
open Go.RowKit
open Pack

theorem tokrow_below {w w' : World} {a : Option Addr} {len : Nat} {ls : List (Int × Int × ByteArray)} (h : TokRow w a len ls) (hb : Below w.heap.size w w') : TokRow w' a len ls := by
  refine ⟨h.1, h.2.1, h.2.2.1, fun h0 => ?_⟩
  obtain ⟨b, off, e, hl, hc⟩ := h.2.2.2 h0
  refine ⟨b, off, e, Nat.lt_of_lt_of_le hl hb.size, fun i t hi => ?_⟩
  rw [hb.cell (show b < w.heap.size from hl), hb.cell (show b < w.heap.size from hl), hb.cell (show b < w.heap.size from hl)]
  exact hc i t hi

theorem infoTok3 : (Try.prog.info? 31).map (·.size) = some 3 := by kernel_rfl

set_option maxHeartbeats 400000 in
set_option maxRecDepth 100000 in
theorem szTok_any (x y : Int) (t : ByteArray) (z : Nat) (w : World) (ht : t.size ≤ maxLen) (hz : z ≤ 1048576) :
    Calls Try.prog 46 #[.agg #[.int .i64 x, .int .i64 y, .string t], .int .i64 z] w fun e w' => (∃ r : Int, e = .returned (.int .i64 r) ∧ -1 ≤ r ∧ r ≤ z) ∧ Below w.heap.size w w' := by
  unfold maxLen at ht
  have hw : IntKind.i64.wrap ((z : Int) - t.size) = (z : Int) - t.size := by rw [IntKind.wrap_i64]; omega
  by_cases h : (z : Int) - t.size < 0
  · go_enter Try.func46, Try.ntmps46
    go_wp2
    go_ret
    exact ⟨⟨_, rfl, by omega, by omega⟩, (Below.refl _ _).alloc (Nat.le_refl _) _⟩
  · go_enter Try.func46, Try.ntmps46
    go_wp2
    go_ret
    exact ⟨⟨_, rfl, by omega, by omega⟩, (Below.refl _ _).alloc (Nat.le_refl _) _⟩

set_option maxHeartbeats 400000 in
set_option maxRecDepth 100000 in
theorem szToks_any (a : Option Addr) (len cap : Nat) (ls : List (Int × Int × ByteArray)) (w : World) (h : TokRow w a len ls) :
    Calls Try.prog 22 #[.slice a len cap, .int .i64 1048576] w fun e w' => (∃ r : Int, e = .returned (.int .i64 r) ∧ (0 ≤ r → len ≤ 1048576)) ∧ Below w.heap.size w w' := by
  obtain ⟨h1, h2, h3, h4⟩ := h
  unfold maxLen at h2
  have H3 := hide h3
  have H4 := hide h4
  have H1 := hide h1
  clear h3 h4 h1
  by_cases hlt : (1048576 : Int) - len < 0
  · go_enter Try.func22, Try.ntmps22
    go_wp2
    go_ret
    exact ⟨⟨_, rfl, by omega⟩, Below.refl _ _⟩
  · go_enter Try.func22, Try.ntmps22
    go_wp2
    go_loopw [1, 5] (fun lv iv wr => ∃ (k z : Nat), k ≤ len ∧ z ≤ 1048576 ∧ iv = .int .i64 k ∧ lv = .int .i64 z ∧ Hid (Below w.heap.size w wr)) (fun _ iv _ => len - (intOf iv).toNat)
    case atStart => exact ⟨0, 1048576 - len, Nat.zero_le _, by omega, rfl, by go_num, Below.refl _ _⟩
    case round =>
      obtain ⟨k, z, hk, hz, rfl, rfl, HW⟩ := hrel
      have hsz := HW.out.size
      by_cases hkl : (k : Int) < len
      · obtain ⟨b, off, rfl, hb, hc⟩ := H4.out (by omega)
        have hl1 := H1.out
        have hkl2 : k < ls.length := by omega
        obtain ⟨x, y, t, ht⟩ : ∃ x y t, ls[k]? = some (x, y, t) := ⟨ls[k].1, ls[k].2.1, ls[k].2.2, List.getElem?_eq_getElem hkl2⟩
        have hts := H3.out (x, y, t) (List.mem_of_getElem? ht)
        obtain ⟨c1, c2, c3⟩ := hc k (x, y, t) ht
        rw [← HW.out.cell (show b < w.heap.size from hb)] at c1 c2 c3
        simp only at c1 c2 c3 hts
        have k0 : (0 : Int) ≤ k := by omega
        clear ht hc hl1 hkl2
        go_wp2_with fail
        refine (szTok_any x y t z _ hts hz).mono ?_
        rintro e w1 ⟨⟨r, rfl, r1, r2⟩, hb1⟩
        have HW1 := hide (HW.out.trans (hb1.mono hsz))
        clear hb1 HW c1 c2 c3
        by_cases hr : r < 0
        · go_wp2
          go_ret
          exact ⟨⟨_, rfl, by omega⟩, HW1.out⟩
        · go_wp2
          go_roundw
          case rel => exact ⟨k + 1, r.toNat, by omega, by omega, by go_num, by congr 1; omega, HW1⟩
          case measure => simp [intOf]; omega
      · go_wp2
        go_ret
        exact ⟨⟨_, rfl, by omega⟩, HW.out⟩

set_option maxHeartbeats 400000 in
set_option maxRecDepth 100000 in
theorem toTok_any (x y : Int) (t : ByteArray) (w : World) :
    Calls Try.prog 47 #[.agg #[.int .i64 x, .int .i64 y, .string t]] w fun e w' => e = .returned (.agg #[.int .i64 x, .int .i64 y, .string t]) ∧ Below w.heap.size w w' := by
  go_enter Try.func47, Try.ntmps47
  go_wp2
  have h1 := (tok_new (w.alloc (.cells #[.int .i64 x, .int .i64 y, .string t] 66)) x y t).alloc (.cells #[.int .i64 x, .int .i64 y, .string t] 31)
  have hs : (w.alloc (.cells #[.int .i64 x, .int .i64 y, .string t] 66)).heap.size = w.heap.size + 1 := by simp
  rw [hs] at h1
  exact bodyPost_ret (results_cell_row rfl _ _ (w.heap.size + 1) 31 _ (0, 0) _ rfl h1 Try.underlying31 rfl infoTok3) rfl ⟨rfl, (((Below.refl _ _).alloc (Nat.le_refl _) _).alloc (by simp) _).alloc (by simp; omega) _⟩

theorem gcells_set (ls : List (Int × Int × ByteArray)) (R : List Value) (j : Nat) (x y : Int) (t : ByteArray) (hj : ls[j]? = some (x, y, t)) (hR : R.length = ls.length * 3) :
    (((gcells (ls.take j) ++ R.drop (j * 3)).set (j * 3) (.int .i64 x)).set (j * 3 + 1) (.int .i64 y)).set (j * 3 + 2) (.string t) = gcells (ls.take (j + 1)) ++ R.drop ((j + 1) * 3) := by
  obtain ⟨hj1, hj2⟩ := List.getElem?_eq_some_iff.1 hj
  have hm : (gcells (ls.take j)).length = j * 3 := by rw [gcells_len, List.length_take]; congr 1; omega
  have e2 : gcells [(x, y, t)] = [.int .i64 x, .int .i64 y, .string t] := rfl
  have e3 : ls.take (j + 1) = ls.take j ++ [(x, y, t)] := by rw [List.take_succ_eq_append_getElem hj1, hj2]
  rw [e3, gcells_app, e2, List.set_append_right _ _ (by omega), List.set_append_right _ _ (by omega), List.set_append_right _ _ (by omega), hm, Nat.sub_self, Nat.add_sub_cancel_left, Nat.add_sub_cancel_left, List.append_assoc]
  rw [List.drop_eq_getElem_cons (show j * 3 < R.length by omega), List.drop_eq_getElem_cons (show j * 3 + 1 < R.length by omega), List.drop_eq_getElem_cons (show j * 3 + 1 + 1 < R.length by omega), show (j + 1) * 3 = j * 3 + 1 + 1 + 1 by omega]
  rfl

set_option maxHeartbeats 400000 in
set_option maxRecDepth 100000 in
theorem toToks_any (a : Option Addr) (len cap : Nat) (ls : List (Int × Int × ByteArray)) (w : World) (hl : len ≤ 1048576) (h : TokRow w a len ls) :
    Calls Try.prog 23 #[.slice a len cap] w fun e w' => ∃ v : Value, e = .returned v ∧ w'.ownsRow w.heap.size 31 3 v ls.length (gcells ls) ∧ Below w.heap.size w w' := by
  obtain ⟨i0, hi, hz0, hz1, hz2⟩ := info_parts infoTok
  obtain ⟨h1, -, -, h4⟩ := h
  have H4 := hide h4
  have H1 := hide h1
  clear h4 h1
  go_enter Try.func23, Try.ntmps23
  go_wp2_with (at_make; refine wpList_make_full _ rfl _ _ 27 rfl w.heap.size 31 i0 (.agg #[.int .i64 0, .int .i64 0, .string ⟨#[]⟩]) 3 Try.underlying27 hi hz0 hz1 .i64 .i64 _ _ len rfl rfl rfl rfl (by rw [hz2]; omega) (by unfold maxLen; omega) (Nat.le_refl _) ?_)
  intro w1 hown hgrow
  generalize (madeCells #[Value.int .i64 0, Value.int .i64 0, Value.string ⟨#[]⟩] (len * 3)).toList = R at hown
  have HR : Hid (R.length = ls.length * 3) := by show _ = _; rw [H1.out]; exact hown.1
  have HO := hide hown
  have HB1 := hide ((Below.refl w.heap.size w).grown hgrow (Nat.le_refl _) (fun k hk => by cases hk))
  have hg1 := (hown.lt w.heap.size rfl).2
  clear hown hgrow
  go_wp2
  go_loopw [4] (fun iv wr => ∃ k : Nat, k ≤ len ∧ iv = .int .i64 k ∧ Hid (wr.ownsRow w.heap.size 31 3 (.slice (some ⟨w.heap.size, 0, none⟩) len len) len (gcells (ls.take k) ++ R.drop (k * 3))) ∧ Hid (Below w.heap.size w wr)) (fun iv _ => len - (intOf iv).toNat)
  case atStart => exact ⟨0, Nat.zero_le _, rfl, HO, HB1⟩
  case round =>
    obtain ⟨k, hk, rfl, HO2, HW⟩ := hrel
    have hsz := HW.out.size
    by_cases hkl : (k : Int) < len
    · obtain ⟨b, off, rfl, hb, hc⟩ := H4.out (by omega)
      have hl1 := H1.out
      have hkl2 : k < ls.length := by omega
      obtain ⟨x, y, t, ht⟩ : ∃ x y t, ls[k]? = some (x, y, t) := ⟨ls[k].1, ls[k].2.1, ls[k].2.2, List.getElem?_eq_getElem hkl2⟩
      obtain ⟨c1, c2, c3⟩ := hc k (x, y, t) ht
      rw [← HW.out.cell (show b < w.heap.size from hb)] at c1 c2 c3
      simp only at c1 c2 c3
      have k0 : (0 : Int) ≤ k := by omega
      clear hc hl1
      go_wp2_with fail
      refine (toTok_any x y t _).mono ?_
      rintro e w3 ⟨rfl, hb3⟩
      have o3 := own_below HO2.out hb3
      have hlen3 : (gcells (ls.take k) ++ R.drop (k * 3)).length = len * 3 := HO2.out.1
      have e3 : ∀ d, d < 3 → ∃ u, w3.cell? ⟨w.heap.size, k * 3 + d, none⟩ = some u := by
        intro d hd
        have := o3.cells (g := w.heap.size) rfl (k * 3 + d) _ (List.getElem?_eq_getElem (by rw [hlen3]; omega))
        rw [addr_at] at this
        exact ⟨_, this⟩
      obtain ⟨u0, d0⟩ := e3 0 (by omega)
      obtain ⟨u1, d1⟩ := e3 1 (by omega)
      obtain ⟨u2, d2⟩ := e3 2 (by omega)
      rw [Nat.add_zero] at d0
      have f0 := o3.frozenAt (k * 3)
      have f1 := o3.frozenAt (k * 3 + 1)
      have f2 := o3.frozenAt (k * 3 + 2)
      have o6 := own_set (own_set (own_set o3 rfl (k * 3) (.int .i64 x)) rfl (k * 3 + 1) (.int .i64 y)) rfl (k * 3 + 2) (.string t)
      rw [gcells_set ls R k x y t ht HR.out] at o6
      have b6 := (((HW.out.trans (hb3.mono hsz)).setCell (p := ⟨w.heap.size, k * 3, none⟩) (Nat.le_refl _) (.int .i64 x)).setCell (p := ⟨w.heap.size, k * 3 + 1, none⟩) (Nat.le_refl _) (.int .i64 y)).setCell (p := ⟨w.heap.size, k * 3 + 2, none⟩) (Nat.le_refl _) (.string t)
      have O6 := hide o6
      have B6 := hide b6
      clear o3 o6 b6 hlen3 e3 hb3 HW HO2 c1 c2 c3 ht hkl2
      go_wp2
      go_roundw
      case rel => exact ⟨k + 1, by omega, by go_num, O6, B6⟩
      case measure => simp [intOf]; omega
    · have hke : k = len := by omega
      have hO := HO2.out
      have hl1 := H1.out
      have hr1 := HR.out
      rw [hke, List.take_of_length_le (by omega), List.drop_eq_nil_of_le (by omega), List.append_nil] at hO
      have HO3 := hide hO
      clear hO hke hl1 hr1
      go_wp2
      go_ret
      exact ⟨_, rfl, (by rw [H1.out]; exact HO3.out), HW.out⟩

set_option maxHeartbeats 1000000 in
set_option maxRecDepth 100000 in
theorem lawPl (a : Option Addr) (len cap : Nat) (ls : List (Int × Int × ByteArray)) (w : World) (h : TokRow w a len ls) :
    Calls Try.prog 7 #[.slice a len cap] w fun e w' => e = .returned (.bool true) ∧ Below w.heap.size w w' := by
  have H := hide h
  clear h
  go_enter Try.func7, Try.ntmps7
  go_wp2_with fail
  refine (szToks_any a len cap ls _ H.out).mono ?_
  rintro e w1 ⟨⟨r, rfl, hr⟩, b1⟩
  have HR := hide hr
  have HB1 := hide b1
  clear hr b1
  by_cases hr0 : r < 0
  · go_wp2
    go_ret
    exact ⟨rfl, HB1.out⟩
  · have hl : len ≤ 1048576 := HR.out (by omega)
    have H1 := hide (tokrow_below H.out HB1.out)
    have hll : ls.length ≤ 1048576 := by rw [H.out.1]; exact hl
    go_wp2_with fail
    refine (toToks_any a len cap ls _ hl H1.out).mono ?_
    rintro e w2 ⟨v2, rfl, o2, b2⟩
    have O2 := hide o2
    have HB2 := hide (HB1.out.trans (b2.mono HB1.out.size))
    clear o2 b2
    go_wp2_with fail
    refine (splain_any v2 ls _ _ hll O2.out).mono ?_
    rintro e w3 ⟨rfl, b3⟩
    have HB3 := hide (HB2.out.trans (b3.mono HB2.out.size))
    have H3 := hide (tokrow_below H.out HB3.out)
    obtain ⟨p, q, hpq⟩ : ∃ p q, plainV (gplain ls) = .tuple #[.string p, .bool q] := by
      cases gplain ls with
      | none => exact ⟨_, _, rfl⟩
      | some o => exact ⟨_, _, rfl⟩
    have HPQ := hide hpq
    rw [hpq]
    clear b3 O2 hpq
    go_wp2_with fail
    refine (toToks_any a len cap ls _ hl H3.out).mono ?_
    rintro e w4 ⟨v4, rfl, o4, b4⟩
    have O4 := hide o4
    have HB4 := hide (HB3.out.trans (b4.mono HB3.out.size))
    clear o4 b4
    go_wp2_with fail
    refine (iplain_any v4 ls _ _ hll O4.out).mono ?_
    rintro e w5 ⟨rfl, b5⟩
    have O5 := hide (own_below O4.out b5)
    have HB5 := hide (HB4.out.trans (b5.mono HB4.out.size))
    have H5 := hide (tokrow_below H.out HB5.out)
    rw [HPQ.out]
    clear b5 O4
    have e1 : (p.toList != p.toList) = false := by simp
    have e2 : (q != q) = false := by simp
    go_wp2_with fail
    refine (toToks_any a len cap ls _ hl H5.out).mono ?_
    rintro e w6 ⟨v6, rfl, o6, b6⟩
    have O6 := hide o6
    have O56 := hide (own_below O5.out b6)
    have HB6 := hide (HB5.out.trans (b6.mono HB5.out.size))
    clear o6 b6
    go_wp2_with fail
    refine (eqTS_any v4 v6 ls _ _ _ hll O56.out O6.out).mono ?_
    rintro e w7 ⟨rfl, b7⟩
    have HB7 := hide (HB6.out.trans (b7.mono HB6.out.size))
    clear b7
    go_wp2
    go_ret
    exact ⟨rfl, HB7.out⟩
end Go.Proofs.Ytaolinlginloaaa
