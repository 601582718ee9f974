/-
  The laws' own szTxS and toTxS.
-/
import Derived.Test.YtogfdhfmamabiaaToRcS
import Derived.Test.YtogfdhfmamabiaaLTx
namespace Go.Proofs.Ytogfdhfmamabiaa
open Go.RowKit
open Words

set_option maxHeartbeats 400000 in
set_option maxRecDepth 100000 in
theorem szTx_any (x y : Int) (a : Option Addr) (n c z : Nat) (w : World) (hn : n ≤ maxLen) (hz : z ≤ 1048576) :
    Calls Try.prog 36 #[.agg #[.int .i64 x, .int .i64 y, .slice a n c], .int .i64 z] w fun e w' => (∃ r : Int, e = .returned (.int .i64 r) ∧ -1 ≤ r ∧ r ≤ z ∧ (0 ≤ r → r + n ≤ z)) ∧ Below w.heap.size w w' := by
  have HB := hide ((Below.refl w.heap.size w).alloc (Nat.le_refl _) (.cells #[.int .i64 x, .int .i64 y, .slice a n c] 74))
  go_enter Try.func36, Try.ntmps36
  go_wp2_with fail
  refine (szRcs_any a n c z _ hz hn).mono ?_
  rintro e w1 ⟨⟨r, rfl, r1, r2, r3⟩, rfl⟩
  have R3 := hide r3
  clear r3
  by_cases hr : r < 0
  · go_wp2
    go_ret
    exact ⟨⟨_, rfl, by omega, by omega, by omega⟩, HB.out⟩
  · go_wp2
    go_ret
    exact ⟨⟨_, rfl, by omega, by omega, R3.out⟩, HB.out⟩
/-- How many records they hold. -/
def xsum (l : List Xw) : Nat := (l.map (fun t => t.2.2.2.length)).sum
theorem xsum_succ {l : List Xw} {k : Nat} {t : Xw} (h : l[k]? = some t) : xsum (l.take (k + 1)) = xsum (l.take k) + t.2.2.2.length := by
  rw [List.take_add_one, h]
  simp [xsum]
theorem xsum_mem {l : List Xw} {t : Xw} (h : t ∈ l) : t.2.2.2.length ≤ xsum l := by
  unfold xsum
  induction l with
  | nil => cases h
  | cons q l ih =>
    rw [List.map_cons, List.sum_cons]
    rcases List.mem_cons.1 h with e | e
    · subst e; omega
    · have := ih e; omega

set_option maxHeartbeats 400000 in
set_option maxRecDepth 100000 in
theorem szTxs_any (a : Option Addr) (len cap : Nat) (rs : List Xw) (z0 : Nat) (w : World) (hz0 : z0 ≤ 1048576) (h : TxRd w a len rs) :
    Calls Try.prog 15 #[.slice a len cap, .int .i64 z0] w fun e w' => (∃ r : Int, e = .returned (.int .i64 r) ∧ -1 ≤ r ∧ r ≤ z0 ∧ (0 ≤ r → r + len + xsum rs ≤ z0)) ∧ Below w.heap.size w w' := by
  have H := hide h
  have h2 := h.2.1
  have H1 := hide h.1
  unfold maxLen at h2
  clear h
  have hw : IntKind.i64.wrap ((z0 : Int) - len) = (z0 : Int) - len := by rw [IntKind.wrap_i64]; omega
  by_cases hlt : (z0 : Int) - len < 0
  · go_enter Try.func15, Try.ntmps15
    go_wp2
    go_ret
    exact ⟨⟨_, rfl, by omega, by omega, fun h => by omega⟩, Below.refl _ _⟩
  · go_enter Try.func15, Try.ntmps15
    go_wp2
    go_loopw [1, 5] (fun lv iv wr => ∃ (k z : Nat), k ≤ len ∧ z + len ≤ z0 ∧ iv = .int .i64 k ∧ lv = .int .i64 z ∧ Hid (z + len + xsum (rs.take k) ≤ z0) ∧ Hid (Below w.heap.size w wr)) (fun _ iv _ => len - (intOf iv).toNat)
    case atStart => exact ⟨0, z0 - len, Nat.zero_le _, by omega, rfl, by congr 1; omega, (by show _ ≤ _; simp only [List.take_zero, xsum, List.map_nil, List.sum_nil]; omega), Below.refl _ _⟩
    case round =>
      obtain ⟨k, z, hk, hz, rfl, rfl, HX, HW⟩ := hrel
      have hsz := HW.out.size
      by_cases hkl : (k : Int) < len
      · have hkl2 : k < rs.length := by have := H1.out; omega
        obtain ⟨r0, hr0⟩ : ∃ r, rs[k]? = some r := ⟨_, List.getElem?_eq_getElem hkl2⟩
        obtain ⟨b, off, rfl, -, c0, c1, c2⟩ := (H.out.below HW.out).at hr0
        obtain ⟨sa, sc, hsv, -, hrow⟩ := H.out.2.2.1 r0 (List.mem_of_getElem? hr0)
        have HS := hide (xsum_succ hr0)
        have hnl := hrow.2.1
        obtain ⟨x0, x1, sv, ls⟩ := r0
        simp only at c0 c1 c2 hsv HS hnl
        subst hsv
        have k0 : (0 : Int) ≤ k := by omega
        obtain ⟨n, hn⟩ : ∃ n, ls.length = n := ⟨_, rfl⟩
        rw [hn] at c2 HS hnl
        clear hr0 hkl2 hrow hn
        go_wp2_with fail
        refine (szTx_any x0 x1 sa n sc z _ hnl (by omega)).mono ?_
        rintro e w1 ⟨⟨r, rfl, r1, r2, r3⟩, hb1⟩
        have HW1 := hide (HW.out.trans (hb1.mono hsz))
        clear hb1 HW c0 c1 c2
        by_cases hr : r < 0
        · go_wp2
          go_ret
          exact ⟨⟨_, rfl, by omega, by omega, fun h => by omega⟩, HW1.out⟩
        · have HX1 : Hid (r.toNat + len + xsum (rs.take (k + 1)) ≤ z0) := by
            have h5 := HX.out
            have h6 := r3 (by omega)
            show _ ≤ _
            rw [HS.out]
            omega
          clear r3
          go_wp2
          go_roundw
          case rel => exact ⟨k + 1, r.toNat, by omega, by omega, by go_num, by congr 1; omega, HX1, HW1⟩
          case measure => simp [intOf]; omega
      · have hke : k = rs.length := by have := H1.out; omega
        have HX1 : Hid (z + len + xsum rs ≤ z0) := by have := HX.out; rw [hke, List.take_length] at this; exact this
        clear hke HX
        go_wp2
        go_ret
        exact ⟨⟨_, rfl, by omega, by omega, fun _ => by have := HX1.out; omega⟩, HW.out⟩
set_option maxHeartbeats 400000 in
set_option maxRecDepth 100000 in
theorem toTx_any (x y : Int) (a : Option Addr) (n c : Nat) (ls : List (Int × Int × Int × Int)) (w : World) (hn : ls.length = n) (hl : n ≤ 1048576) (h : RcRow w a n ls) :
    Calls Try.prog 37 #[.agg #[.int .i64 x, .int .i64 y, .slice a n c]] w fun e w' => ∃ g : Nat, e = .returned (.agg #[.int .i64 x, .int .i64 y, .slice (some ⟨g, 0, none⟩) n n]) ∧ Sli 34 w.heap.size w'.heap.size (.slice (some ⟨g, 0, none⟩) n n) n (rccells ls) w' ∧ Below w.heap.size w w' := by
  have za : (w.alloc (.cells #[.int .i64 x, .int .i64 y, .slice a n c] 74)).heap.size = w.heap.size + 1 := by simp
  have zb : ((w.alloc (.cells #[.int .i64 x, .int .i64 y, .slice a n c] 74)).alloc (.cells #[.int .i64 0, .int .i64 0, .slice none 0 0] 31)).heap.size = w.heap.size + 1 + 1 := by simp
  have R0 := hide (heap_alloc_new (w.alloc (.cells #[.int .i64 x, .int .i64 y, .slice a n c] 74)) (.cells #[.int .i64 0, .int .i64 0, .slice none 0 0] 31))
  have O0 := hide (heap_alloc_new ((w.alloc (.cells #[.int .i64 x, .int .i64 y, .slice a n c] 74)).alloc (.cells #[.int .i64 0, .int .i64 0, .slice none 0 0] 31)) (.cells #[.int .i64 x, .int .i64 y, .slice none 0 0] 31))
  rw [za] at R0
  rw [zb] at O0
  have R1 := hide ((Below.heap_alloc ((w.alloc (.cells #[.int .i64 x, .int .i64 y, .slice a n c] 74)).alloc (.cells #[.int .i64 0, .int .i64 0, .slice none 0 0] 31)) (.cells #[.int .i64 x, .int .i64 y, .slice none 0 0] 31) (w.heap.size + 1) (by simp)).trans R0.out)
  have B0 : Hid (Below w.heap.size w (((w.alloc (.cells #[.int .i64 x, .int .i64 y, .slice a n c] 74)).alloc (.cells #[.int .i64 0, .int .i64 0, .slice none 0 0] 31)).alloc (.cells #[.int .i64 x, .int .i64 y, .slice none 0 0] 31))) := (((Below.refl _ _).alloc (Nat.le_refl _) _).alloc (by simp) _).alloc (by simp; omega) _
  have C := hide (toRcs_any a n c ls _ hl (h.below B0.out))
  have HN := hide hn
  clear za zb R0 h hn
  go_enter Try.func37, Try.ntmps37
  go_wp2_with fail
  generalize ((w.alloc (.cells #[.int .i64 x, .int .i64 y, .slice a n c] 74)).alloc (.cells #[.int .i64 0, .int .i64 0, .slice none 0 0] 31)).alloc (.cells #[.int .i64 x, .int .i64 y, .slice none 0 0] 31) = wx at R1 O0 B0 C ⊢
  refine C.out.mono ?_
  rintro e w1 ⟨g, rfl, ho, b1⟩
  have R := hide ((b1.block _ (Array.getElem?_eq_some_iff.1 R1.out).1).trans R1.out)
  have O := hide ((b1.block _ (Array.getElem?_eq_some_iff.1 O0.out).1).trans O0.out)
  have B1 := hide (B0.out.trans (b1.mono B0.out.size))
  rw [HN.out] at ho
  have S1 : Hid (Sli 34 w.heap.size w1.heap.size (.slice (some ⟨g, 0, none⟩) n n) n (rccells ls) w1) := (Sli.of ho).dn B0.out.size
  have far : Hid (∀ i cs, w1.heap[i]? = some (.cells cs 31 (0, 0)) → (Value.slice (some ⟨g, 0, none⟩) n n).ownBlock ≠ some i) := by
    intro i cs q e
    obtain ⟨-, -, cs', q'⟩ := S1.out.lt i e
    exact rec_ne_tx q' q
  clear b1 R1 O0 B0 C ho
  have r0 := cell_of_row _ _ 0 _ _ _ R.out
  have r1 := cell_of_row _ _ 1 _ _ _ R.out
  have r2 := cell_of_row _ _ 2 _ _ _ R.out
  have o0 := cell_of_row _ _ 0 _ _ _ O.out
  have o1 := cell_of_row _ _ 1 _ _ _ O.out
  have o2 := cell_of_row _ _ 2 _ _ _ O.out
  have f0 := frozen_of_row _ _ 0 _ _ R.out
  have f1 := frozen_of_row _ _ 1 _ _ R.out
  have f2 := frozen_of_row _ _ 2 _ _ R.out
  have g2 := frozen_of_row _ _ 2 _ _ O.out
  go_wp2
  refine bodyPost_ret (results_cell_row rfl _ _ (w.heap.size + 1) 31 _ (0, 0) _ rfl (tx_set3 (row_set_ne R.out (by omega) 2 (.slice (some ⟨g, 0, none⟩) n n))) Try.underlying31 rfl infoTxz) rfl ⟨g, rfl, ?_, below_tx3 (B1.out.setCell (p := ⟨w.heap.size + 1 + 1, 2, none⟩) (by show w.heap.size ≤ w.heap.size + 1 + 1; omega) _) (by omega)⟩
  have fr := far.out _ _ R.out
  have fo := far.out _ _ O.out
  have hz : ((((w1.setCell ⟨w.heap.size + 1 + 1, 2, none⟩ (.slice (some ⟨g, 0, none⟩) n n)).setCell ⟨w.heap.size + 1, 0, none⟩ (.int .i64 x)).setCell ⟨w.heap.size + 1, 1, none⟩ (.int .i64 y)).setCell ⟨w.heap.size + 1, 2, none⟩ (.slice (some ⟨g, 0, none⟩) n n)).heap.size = w1.heap.size := by simp [World.setCell]
  rw [hz]
  exact (((S1.out.grown (grown_cell _ (w.heap.size + 1 + 1) 2 _) (fun i e e2 => fo (by cases e2; exact e))).grown (grown_cell _ (w.heap.size + 1) 0 _) (fun i e e2 => fr (by cases e2; exact e))).grown (grown_cell _ (w.heap.size + 1) 1 _) (fun i e e2 => fr (by cases e2; exact e))).grown (grown_cell _ (w.heap.size + 1) 2 _) (fun i e e2 => fr (by cases e2; exact e))
theorem xcells_put (ss : List Xw) (R : List Value) (j N : Nat) (r : Xw) (hj : ss.length = j) (hR : R.length = N * 3) (hN : j < N) :
    (((xcells ss ++ R.drop (j * 3)).set (j * 3) (.int .i64 r.1)).set (j * 3 + 1) (.int .i64 r.2.1)).set (j * 3 + 2) r.2.2.1 = xcells (ss ++ [r]) ++ R.drop ((j + 1) * 3) := by
  have hm : (xcells ss).length = j * 3 := by rw [xcells_len, hj]
  have e2 : xcells [r] = [.int .i64 r.1, .int .i64 r.2.1, r.2.2.1] := rfl
  rw [xcells_app, e2, List.set_append_right _ _ (by omega), List.set_append_right _ _ (by omega), List.set_append_right _ _ (by omega), hm, Nat.sub_self, Nat.add_sub_cancel_left, Nat.add_sub_cancel_left, List.append_assoc]
  rw [List.drop_eq_getElem_cons (show j * 3 < R.length by omega), List.drop_eq_getElem_cons (show j * 3 + 1 < R.length by omega), List.drop_eq_getElem_cons (show j * 3 + 2 < R.length by omega), show (j + 1) * 3 = j * 3 + 1 + 1 + 1 by omega]
  rfl
/-- A row that is filled: the first of its transactions. -/
def XPart (W : World) (B : Nat) (v : Value) (len : Nat) (ss : List Xw) (R : List Value) : Prop :=
  W.ownsRow B 31 3 v len (xcells ss ++ R.drop (ss.length * 3)) ∧ (∀ r ∈ ss, Sli 34 B W.heap.size r.2.2.1 r.2.2.2.length (rccells r.2.2.2) W ∧ r.2.2.2.length ≤ maxLen) ∧ Lone ss
theorem XPart.put {W0 W : World} {B g len cap : Nat} {ss : List Xw} {R : List Value} {r : Xw} (h0 : XPart W0 B (.slice (some ⟨g, 0, none⟩) len cap) len ss R) (hb : Below W0.heap.size W0 W) (hB : B ≤ W0.heap.size) (hR : R.length = len * 3) (hs : ss.length < len) (hr : Sli 34 W0.heap.size W.heap.size r.2.2.1 r.2.2.2.length (rccells r.2.2.2) W) (hm : r.2.2.2.length ≤ maxLen) :
    XPart (((W.setCell ⟨g, ss.length * 3, none⟩ (.int .i64 r.1)).setCell ⟨g, ss.length * 3 + 1, none⟩ (.int .i64 r.2.1)).setCell ⟨g, ss.length * 3 + 2, none⟩ r.2.2.1) B (.slice (some ⟨g, 0, none⟩) len cap) len (ss ++ [r]) R := by
  obtain ⟨h1, h2, h3⟩ := h0
  have o1 := own_below h1 hb
  have hk := own_kind o1 g rfl
  have far : ∀ {t : Value} {lo hi n : Nat} {xs : List Value}, Sli 34 lo hi t n xs W → t.ownBlock ≠ some g := by
    intro t lo hi n xs hs e
    obtain ⟨-, -, cs, q⟩ := hk
    obtain ⟨-, -, cs', q'⟩ := hs.lt g e
    exact rec_ne_tx q' q
  have keep : ∀ {t : Value} {lo hi n : Nat} {xs : List Value}, Sli 34 lo hi t n xs W → hi ≤ W.heap.size → Sli 34 lo (((W.setCell ⟨g, ss.length * 3, none⟩ (.int .i64 r.1)).setCell ⟨g, ss.length * 3 + 1, none⟩ (.int .i64 r.2.1)).setCell ⟨g, ss.length * 3 + 2, none⟩ r.2.2.1).heap.size t n xs (((W.setCell ⟨g, ss.length * 3, none⟩ (.int .i64 r.1)).setCell ⟨g, ss.length * 3 + 1, none⟩ (.int .i64 r.2.1)).setCell ⟨g, ss.length * 3 + 2, none⟩ r.2.2.1) := by
    intro t lo hi n xs hs hh
    have f := far hs
    have e : (((W.setCell ⟨g, ss.length * 3, none⟩ (.int .i64 r.1)).setCell ⟨g, ss.length * 3 + 1, none⟩ (.int .i64 r.2.1)).setCell ⟨g, ss.length * 3 + 2, none⟩ r.2.2.1).heap.size = W.heap.size := by simp [World.setCell]
    rw [e]
    exact (((hs.grown (grown_cell _ g (ss.length * 3) _) (fun i e e2 => f (by cases e2; exact e))).grown (grown_cell _ g (ss.length * 3 + 1) _) (fun i e e2 => f (by cases e2; exact e))).grown (grown_cell _ g (ss.length * 3 + 2) _) (fun i e e2 => f (by cases e2; exact e))).up hh
  refine ⟨?_, ?_, ?_⟩
  · have o6 := fown_set (fown_set (fown_set o1 rfl (ss.length * 3) (.int .i64 r.1)) rfl (ss.length * 3 + 1) (.int .i64 r.2.1)) rfl (ss.length * 3 + 2) r.2.2.1
    rw [xcells_put ss R ss.length len r rfl hR hs] at o6
    rw [show (ss ++ [r]).length = ss.length + 1 by simp]
    exact o6
  · intro x hx
    rcases List.mem_append.1 hx with hx | hx
    · exact ⟨keep ((h2 x hx).1.blw hb) hb.size, (h2 x hx).2⟩
    · simp only [List.mem_singleton] at hx
      subst hx
      exact ⟨(keep hr (Nat.le_refl _)).dn hB, hm⟩
  · refine List.pairwise_append.2 ⟨h3, List.pairwise_singleton _ _, ?_⟩
    intro a ha b hb2 g e1 e2
    simp only [List.mem_singleton] at hb2
    subst hb2
    have q1 := ((h2 a ha).1.lt g e1).2.1
    have q2 := (hr.lt g e2).1
    omega

/-- What toTxS answers. -/
def TtOut (w : World) (len : Nat) (rs : List Xw) (e : Ending) (w' : World) : Prop :=
  ∃ g ss, e = .returned (.slice (some ⟨g, 0, none⟩) len len) ∧ XOwn w' w.heap.size (.slice (some ⟨g, 0, none⟩) len len) ss ∧ ss.map xtell = rs.map xtell ∧ Below w.heap.size w w'

set_option maxHeartbeats 1000000 in
set_option maxRecDepth 100000 in
theorem toTxs_any (a : Option Addr) (len cap : Nat) (rs : List Xw) (w : World) (hl : len ≤ 1048576) (hll : ∀ r ∈ rs, r.2.2.2.length ≤ 1048576) (h : TxRd w a len rs) :
    Calls Try.prog 17 #[.slice a len cap] w (TtOut w len rs) := by
  obtain ⟨i0, hi, hz0, hz1, hz2⟩ := info_parts infoTx
  have H := hide h
  have H1 := hide h.1
  have HLL := hide hll
  clear h hll
  go_enter Try.func17, Try.ntmps17
  go_wp2_with (at_make; refine wpList_make_full _ rfl _ _ 26 rfl w.heap.size 31 i0 (.agg #[.int .i64 0, .int .i64 0, .slice none 0 0]) 3 Try.underlying26 hi hz0 hz1 .i64 .i64 _ _ len rfl rfl rfl rfl (by rw [hz2]; omega) (by unfold maxLen; omega) (Nat.le_refl _) ?_)
  intro w1 hown hgrow
  generalize (madeCells #[Value.int .i64 0, Value.int .i64 0, Value.slice none 0 0] (len * 3)).toList = R at hown
  have HR : Hid (R.length = len * 3) := hown.1
  have HO : Hid (XPart w1 w.heap.size (.slice (some ⟨w.heap.size, 0, none⟩) len len) len [] R) := ⟨by simpa [xcells] using hown, (fun _ h => by cases h), List.Pairwise.nil⟩
  have HB1 := hide ((Below.refl w.heap.size w).grown hgrow (Nat.le_refl _) (fun k hk => by cases hk))
  clear hown hgrow
  clear hi hz0 hz1 hz2
  go_wp2
  go_loopw [4] (fun iv wr => ∃ (k : Nat) (ss : List Xw), k ≤ len ∧ iv = .int .i64 k ∧ Hid (ss.length = k ∧ ss.map xtell = (rs.map xtell).take k) ∧ Hid (XPart wr w.heap.size (.slice (some ⟨w.heap.size, 0, none⟩) len len) len ss R) ∧ Hid (Below w.heap.size w wr)) (fun iv _ => len - (intOf iv).toNat)
  case atStart => exact ⟨0, [], Nat.zero_le _, rfl, ⟨rfl, rfl⟩, HO, HB1⟩
  case round =>
    obtain ⟨k, ss, hk, rfl, E, HO2, HW⟩ := hrel
    have hsz := HW.out.size
    by_cases hkl : (k : Int) < len
    · have hkl2 : k < rs.length := by have := H1.out; omega
      obtain ⟨r0, hr0⟩ : ∃ r, rs[k]? = some r := ⟨_, List.getElem?_eq_getElem hkl2⟩
      obtain ⟨b, off, rfl, -, c0, c1, c2⟩ := (H.out.below HW.out).at hr0
      obtain ⟨sa, sc, hsv, -, hrow⟩ := (H.out.below HW.out).2.2.1 r0 (List.mem_of_getElem? hr0)
      have hlr := HLL.out r0 (List.mem_of_getElem? hr0)
      obtain ⟨x0, x1, sv, ls⟩ := r0
      simp only at c0 c1 c2 hsv hlr hrow
      subst hsv
      have E' : Hid (ss.map xtell ++ [(x0, x1, ls)] = (rs.map xtell).take (k + 1)) := by
        show _ = _
        rw [List.take_add_one, List.getElem?_map, hr0, E.out.2]
        rfl
      have k0 : (0 : Int) ≤ k := by omega
      have C := hide (toTx_any x0 x1 sa ls.length sc ls wr rfl hlr hrow)
      obtain ⟨n, hn⟩ : ∃ n, ls.length = n := ⟨_, rfl⟩
      have HN := hide hn
      rw [hn] at c2 C hlr
      clear hr0 hkl2 hrow hn
      go_wp2_with fail
      refine C.out.mono ?_
      rintro e w3 ⟨g, rfl, hs3, hb3⟩
      obtain ⟨r, hr⟩ : ∃ r : Xw, r = (x0, x1, .slice (some ⟨g, 0, none⟩) n n, ls) := ⟨_, rfl⟩
      have P6 := HO2.out.put (r := r) hb3 hsz HR.out (by have := E.out.1; omega) (by rw [hr]; show Sli _ _ _ _ ls.length _ _; rw [HN.out]; exact hs3) (by rw [hr]; show ls.length ≤ maxLen; rw [HN.out]; unfold maxLen; omega)
      rw [E.out.1, hr] at P6
      simp only at P6
      have o3 := own_below HO2.out.1 hb3
      have hlen3 : (xcells ss ++ R.drop (ss.length * 3)).length = len * 3 := HO2.out.1.1
      have e3 : ∀ d, d < 3 → ∃ u, w3.cell? ⟨w.heap.size, k * 3 + d, none⟩ = some u := by
        intro d hd
        have := o3.cells (g := w.heap.size) rfl (k * 3 + d) _ (List.getElem?_eq_getElem (by rw [hlen3]; omega))
        rw [addr_at] at this
        exact ⟨_, this⟩
      obtain ⟨u0, d0⟩ := e3 0 (by omega)
      obtain ⟨u1, d1⟩ := e3 1 (by omega)
      obtain ⟨u2, d2⟩ := e3 2 (by omega)
      rw [Nat.add_zero] at d0
      have f0 := o3.frozenAt (k * 3)
      have f1 := o3.frozenAt (k * 3 + 1)
      have f2 := o3.frozenAt (k * 3 + 2)
      have B6 := hide (below_tx3k (k := k) (x := .int .i64 x0) (y := .int .i64 x1) (z := .slice (some ⟨g, 0, none⟩) n n) (HW.out.trans (hb3.mono hsz)) (Nat.le_refl _))
      have O6 := hide P6
      have E6 : Hid ((ss ++ [((x0, x1, .slice (some ⟨g, 0, none⟩) n n, ls) : Xw)]).length = k + 1 ∧ (ss ++ [((x0, x1, .slice (some ⟨g, 0, none⟩) n n, ls) : Xw)]).map xtell = (rs.map xtell).take (k + 1)) := ⟨by simp [E.out.1], by rw [← E'.out, List.map_append]; rfl⟩
      clear o3 P6 hlen3 e3 hb3 HW HO2 c0 c1 c2 hs3 hr E E' C
      generalize ss ++ [((x0, x1, .slice (some ⟨g, 0, none⟩) n n, ls) : Xw)] = ss2 at O6 E6
      go_wp2
      go_roundw
      case rel => exact ⟨k + 1, ss2, by omega, by go_num, E6, O6, B6⟩
      case measure => simp [intOf]; omega
    · have hke : k = rs.length := by have := H1.out; omega
      have hO := HO2.out
      have EF : Hid (ss.map xtell = rs.map xtell) := by show _ = _; rw [E.out.2, hke, ← List.length_map (f := xtell), List.take_length]
      have hsl : ss.length = len := by have := E.out.1; have := H1.out; omega
      have XF : Hid (XOwn wr w.heap.size (.slice (some ⟨w.heap.size, 0, none⟩) len len) ss) := by
        refine ⟨?_, hO.2.1, hO.2.2⟩
        have := hO.1
        rw [List.drop_eq_nil_of_le (by rw [HR.out, hsl]; exact Nat.le_refl _), List.append_nil] at this
        rw [hsl]
        exact this
      clear hke hO hsl HO2 E
      go_wp2
      go_ret
      exact ⟨_, ss, rfl, XF.out, EF.out, HW.out⟩
end Go.Proofs.Ytogfdhfmamabiaa
