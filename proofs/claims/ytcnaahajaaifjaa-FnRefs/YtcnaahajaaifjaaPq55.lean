/-
  StoM8; SInsI
-/
import Derived.Test.YtcnaahajaaifjaaStoM7
import Derived.Test.YtcnaahajaaifjaaPq3
import Derived.Test.YtcnaahajaaifjaaPq11
/-
  References counted one by one: for FnRefs.
-/
namespace Go.Proofs.Ytcnaahajaaifjaa
namespace Words

theorem sum_take_le : ∀ (l : List Nat) (i : Nat), (l.take i).sum ≤ l.sum := by
  intro l
  induction l with
  | nil => intro i; simp
  | cons a l ih =>
    intro i
    cases i with
    | zero => simp
    | succ i => rw [List.take_succ_cons, List.sum_cons, List.sum_cons]; have := ih i; omega
/-- References of the first i chunks that live. -/
def refK (s : Sto) (i : Nat) : Nat := (((liveS s).map (refsS s)).take i).sum
theorem refK_zero (s : Sto) : refK s 0 = 0 := by simp [refK]
theorem refK_succ {s : Sto} {i : Nat} {c : Int} (h : (liveS s)[i]? = some c) : refK s (i + 1) = refK s i + refsS s c := by
  rw [refK, refK, List.take_add_one, List.getElem?_map, h, List.sum_append]
  simp
theorem all_le (s : Sto) : (allS s).countP (fun y => decide (0 < y)) ≤ 16 * s.vols.length := by
  refine Nat.le_trans List.countP_le_length ?_
  unfold allS
  rw [List.length_flatMap]
  have : s.vols.map (fun v => (allT s.kns v.2).length) = s.vols.map (fun _ => 16) := List.map_congr_left fun v _ => all_len _ _
  rw [this]
  generalize s.vols = l
  induction l with
  | nil => simp
  | cons a l ih => rw [List.map_cons, List.sum_cons, List.length_cons]; omega
theorem refK_le (s : Sto) (i : Nat) : refK s i ≤ 16 * s.vols.length := Nat.le_trans (sum_take_le _ _) (by rw [refs_sum]; exact all_le s)
theorem refK_all {s : Sto} {n : Nat} (h : (liveS s).length ≤ n) : refK s n = (allS s).countP (fun y => decide (0 < y)) := by
  rw [refK, List.take_of_length_le (by simpa using h), refs_sum]
/-- Sectors that have a chunk, of the first k of a tree. -/
def secK (s : Sto) (r : Int) (k : Nat) : Nat := ((allT s.kns r).take k).countP (fun y => decide (0 < y))
theorem secK_zero (s : Sto) (r : Int) : secK s r 0 = 0 := by simp [secK]
theorem secK_succ {s : Sto} {r : Int} {k : Nat} (hk : k < 16) : secK s r (k + 1) = secK s r k + if 0 < getT s.kns r (k : Int) then 1 else 0 := by
  rw [secK, secK, List.take_add_one, all_at _ _ hk, List.countP_append]
  simp [List.countP_cons]
theorem secK_le (s : Sto) (r : Int) (k : Nat) : secK s r k ≤ 16 := by
  refine Nat.le_trans List.countP_le_length ?_
  rw [List.length_take, all_len]
  omega
/-- .. of the first i volumes. -/
def volK (s : Sto) (i : Nat) : Nat := ((s.vols.take i).flatMap (fun v => allT s.kns v.2)).countP (fun y => decide (0 < y))
theorem volK_zero (s : Sto) : volK s 0 = 0 := by simp [volK]
theorem volK_succ {s : Sto} {i : Nat} {v : Int × Int} (h : s.vols[i]? = some v) : volK s (i + 1) = volK s i + secK s v.2 16 := by
  have e : (allT s.kns v.2).take 16 = allT s.kns v.2 := List.take_of_length_le (by rw [all_len]; omega)
  rw [volK, volK, secK, e, List.take_add_one, h, List.flatMap_append, List.countP_append]
  simp
theorem volK_all {s : Sto} {n : Nat} (h : s.vols.length = n) : volK s n = (allS s).countP (fun y => decide (0 < y)) := by
  rw [volK, List.take_of_length_le (by omega)]
  rfl
theorem volK_le (s : Sto) (i : Nat) : volK s i ≤ 16 * i := by
  refine Nat.le_trans List.countP_le_length ?_
  rw [List.length_flatMap]
  have : (s.vols.take i).map (fun v => (allT s.kns v.2).length) = (s.vols.take i).map (fun _ => 16) := List.map_congr_left fun v _ => all_len _ _
  rw [this]
  have hl : (s.vols.take i).length ≤ i := by rw [List.length_take]; omega
  generalize s.vols.take i = l at hl
  have : (l.map (fun _ => 16)).sum = 16 * l.length := by
    clear hl
    induction l with
    | nil => simp
    | cons a l ih => rw [List.map_cons, List.sum_cons, List.length_cons, ih]; omega
  rw [this]
  omega
theorem chunk_vol {s : Sto} (h : s.Right) {i : Nat} {v : Int × Int} (hv : s.vols[i]? = some v) (k : Int) : chunkS s v.1 k = getT s.kns v.2 k := by
  rw [chunkS, rootV_at h.asc (List.mem_of_getElem? hv)]
theorem live_less {s : Sto} {i : Nat} {a b : Int} (ha : (liveS s)[i]? = some a) (hb : (liveS s)[i + 1]? = some b) : a < b := by
  obtain ⟨h1, e1⟩ := List.getElem?_eq_some_iff.1 ha
  obtain ⟨h2, e2⟩ := List.getElem?_eq_some_iff.1 hb
  have := (List.pairwise_iff_getElem.1 (live_asc s).1) i (i + 1) h1 h2 (by omega)
  rw [e1, e2] at this
  exact this
theorem refs_zero (s : Sto) : refsS s 0 = 0 := by rw [refsS, if_neg (by decide)]
end Words
end Go.Proofs.Ytcnaahajaaifjaa

/-
  spec.l12Insert.
-/
namespace Go.Proofs.Ytcnaahajaaifjaa
open Go.RowKit
open Words

theorem filt_take {L : List Int} {p : Int → Bool} {k : Nat} {y : Int} (h : L[k]? = some y) : (L.take (k + 1)).filter p = (L.take k).filter p ++ (if p y = true then [y] else []) := by
  obtain ⟨h1, h2⟩ := List.getElem?_eq_some_iff.1 h
  rw [List.take_succ_eq_append_getElem h1, h2, List.filter_append, List.filter_cons, List.filter_nil]

set_option maxHeartbeats 1000000 in
set_option maxRecDepth 100000 in
theorem sinsI (ra : Option Addr) (n rc : Nat) (L : List Int) (x : Int) (w : World) (hn : n ≤ 100000000) (h : IRow w ra n L) :
    Calls Try.prog 66 #[.slice ra n rc, .int .i64 x] w (IOut w (insI L x)) := by
  obtain ⟨i0, hi, hz0, hz1, hz2⟩ := info_parts infoInt
  have I0 := hide hi
  have Y0 := hide hz0
  have Y1 := hide hz1
  have Y2 := hide hz2
  clear hi hz0 hz1 hz2
  have HNL := hide h.1
  have HR := hide h
  clear h
  obtain ⟨M, hM⟩ : ∃ M, insI L x = M := ⟨_, rfl⟩
  have HM := hide hM
  rw [hM]
  clear hM
  go_enter Try.func66, Try.ntmps66
  go_wp2_with fail
  have O0 : Hid ((w.alloc (.cells #[] 3)).ownsRow w.heap.size 3 1 (.slice (some ⟨w.heap.size, 0, none⟩) 0 0) ([] : List Int).length (icells [])) := World.ownsRow_made w #[] 0 (Nat.le_refl _) (by unfold maxLen; omega) (by simp)
  have BA : Hid (Below w.heap.size w (w.alloc (.cells #[] 3))) := (Below.refl _ _).alloc (Nat.le_refl _) _
  generalize w.alloc (.cells #[] 3) = wa at O0 BA ⊢
  obtain ⟨z, hz⟩ : ∃ z, w.heap.size = z := ⟨_, rfl⟩
  rw [hz] at O0 ⊢
  have HZW := hide hz
  clear hz
  go_loopw [5, 6] (fun ov kv W => ∃ (k : Nat) (l : List Int), k ≤ n ∧ kv = .int .i64 k ∧ l.length ≤ k ∧ Hid (l = (L.take k).filter (fun y => decide (y < x))) ∧ Hid (W.ownsRow w.heap.size 3 1 ov l.length (icells l) ∧ Below w.heap.size w W)) (fun _ kv _ => n - (intOf kv).toNat)
  case atStart => exact ⟨0, [], Nat.zero_le _, rfl, Nat.zero_le _, by show _ = _; simp, by rw [HZW.out]; exact O0.out, BA.out⟩
  case round =>
    obtain ⟨k, l, hk, rfl, hlk, HL, HO⟩ := hrel
    by_cases hlt : (k : Int) < n
    · have hy := List.getElem?_eq_getElem (show k < L.length by have := HNL.out; omega)
      generalize L[k]'(by have := HNL.out; omega) = y at hy
      obtain ⟨b, off, e, hb, c0⟩ := (HR.out.below HO.out.2).at hy
      subst e
      have k0 : (0 : Int) ≤ k := by omega
      have HF := hide (filt_take (p := fun y => decide (y < x)) hy)
      clear hy
      by_cases hyx : y < x
      · have HL2 : Hid (l ++ [y] = (L.take (k + 1)).filter (fun y => decide (y < x))) := by
          show _ = _
          rw [HF.out, if_pos (by simpa using hyx), HL.out]
        have OW := hide HO.out.1
        have B1 := hide HO.out.2
        have hw := HO.out.2.size
        clear HO
        have BN : Hid (Below wr.heap.size wr (wr.alloc (.cells #[.int .i64 y] 3))) := (Below.refl _ _).alloc (Nat.le_refl _) _
        have OWN := hide (own_below OW.out BN.out)
        go_wp2_with (at_builtin; refine wpList_append_own _ rfl _ _ 43 rfl w.heap.size 3 i0 (.int .i64 0) 1 8 Try.underlying43 I0.out Y0.out Y1.out Y2.out rfl (by decide) _ _ _ rfl OWN.out ⟨wr.heap.size, 0, none⟩ 1 1 [Value.int .i64 y] rfl rfl (one_cell _ _ _) (one_i64 _) ?c1 ?c2 ?c3 ?_)
        case c1 => unfold maxLen; omega
        case c2 => omega
        case c3 => have := BN.out.size; omega
        intro u' z2 ho hg _
        rw [icells_snoc] at ho
        have ho2 : z2.ownsRow w.heap.size 3 1 u' (l ++ [y]).length (icells (l ++ [y])) := by rw [List.length_append]; exact ho
        have ON : Hid (z2.ownsRow w.heap.size 3 1 u' (l ++ [y]).length (icells (l ++ [y])) ∧ Below w.heap.size w z2) := ⟨ho2, (B1.out.trans (BN.out.mono hw)).grown hg (by have := BN.out.size; omega) (fun q hq => (OWN.out.lt q hq).1)⟩
        have hl3 : (l ++ [y]).length ≤ k + 1 := by simp; omega
        generalize l ++ [y] = l2 at HL2 ON hl3
        clear ho ho2 hg OWN OW BN B1
        go_wp2
        go_roundw
        case rel => exact ⟨k + 1, l2, by omega, by go_num, hl3, HL2, ON⟩
        case measure => simp [intOf]; omega
      · have HL2 : Hid (l = (L.take (k + 1)).filter (fun y => decide (y < x))) := by
          show _ = _
          rw [HF.out, if_neg (by simpa using hyx), List.append_nil]
          exact HL.out
        go_wp2
        go_roundw
        case rel => exact ⟨k + 1, l, by omega, by go_num, by omega, HL2, HO⟩
        case measure => simp [intOf]; omega
    · have EL : Hid (l = L.filter (fun y => decide (y < x))) := by
        show _ = _
        rw [HL.out, List.take_of_length_le (by have := HNL.out; omega)]
      have hl1 : l.length ≤ n := by omega
      clear HL
      by_cases hx : (0 : Int) < x
      · have HL2 : Hid (l ++ [x] = L.filter (fun y => decide (y < x)) ++ (if 0 < x then [x] else [])) := by
          show _ = _
          rw [EL.out, if_pos hx]
        have OW := hide HO.out.1
        have B1 := hide HO.out.2
        have hw := HO.out.2.size
        clear HO
        have BN : Hid (Below wr.heap.size wr (wr.alloc (.cells #[.int .i64 x] 3))) := (Below.refl _ _).alloc (Nat.le_refl _) _
        have OWN := hide (own_below OW.out BN.out)
        go_wp2_with (at_builtin; refine wpList_append_own _ rfl _ _ 43 rfl w.heap.size 3 i0 (.int .i64 0) 1 8 Try.underlying43 I0.out Y0.out Y1.out Y2.out rfl (by decide) _ _ _ rfl OWN.out ⟨wr.heap.size, 0, none⟩ 1 1 [Value.int .i64 x] rfl rfl (one_cell _ _ _) (one_i64 _) ?c1 ?c2 ?c3 ?_)
        case c1 => unfold maxLen; omega
        case c2 => omega
        case c3 => have := BN.out.size; omega
        intro u' z2 ho hg _
        rw [icells_snoc] at ho
        have ho2 : z2.ownsRow w.heap.size 3 1 u' (l ++ [x]).length (icells (l ++ [x])) := by rw [List.length_append]; exact ho
        have ON : Hid (z2.ownsRow w.heap.size 3 1 u' (l ++ [x]).length (icells (l ++ [x])) ∧ Below w.heap.size w z2) := ⟨ho2, (B1.out.trans (BN.out.mono hw)).grown hg (by have := BN.out.size; omega) (fun q hq => (OWN.out.lt q hq).1)⟩
        have hl3 : (l ++ [x]).length ≤ n + 1 := by simp; omega
        generalize l ++ [x] = l2 at HL2 ON hl3
        clear ho ho2 hg OWN OW BN B1
        clear EL
        go_wp2
        obtain ⟨A0, hA⟩ : ∃ A0, L.filter (fun y => decide (y < x)) ++ (if 0 < x then [x] else []) = A0 := ⟨_, rfl⟩
        rw [hA] at HL2
        have HA := hide hA
        clear hA
        go_loopw [5, 7] (fun ov kv W => ∃ (k : Nat) (l : List Int), k ≤ n ∧ kv = .int .i64 k ∧ l.length ≤ n + 1 + k ∧ Hid (l = A0 ++ (L.take k).filter (fun y => decide (x < y))) ∧ Hid (W.ownsRow w.heap.size 3 1 ov l.length (icells l) ∧ Below w.heap.size w W)) (fun _ kv _ => n - (intOf kv).toNat)
        case atStart => exact ⟨0, l2, Nat.zero_le _, rfl, by omega, (by show _ = _; rw [HL2.out]; simp), ON⟩
        case round =>
          obtain ⟨k, l, hk, rfl, hlk, HL, HO⟩ := hrel
          by_cases hlt : (k : Int) < n
          · have hy := List.getElem?_eq_getElem (show k < L.length by have := HNL.out; omega)
            generalize L[k]'(by have := HNL.out; omega) = y at hy
            obtain ⟨b, off, e, hb, c0⟩ := (HR.out.below HO.out.2).at hy
            subst e
            have k0 : (0 : Int) ≤ k := by omega
            have HF := hide (filt_take (p := fun y => decide (x < y)) hy)
            clear hy
            by_cases hyx : x < y
            · have HL2 : Hid (l ++ [y] = A0 ++ (L.take (k + 1)).filter (fun y => decide (x < y))) := by
                show _ = _
                rw [HF.out, if_pos (by simpa using hyx), HL.out]; rw [List.append_assoc]
              have OW := hide HO.out.1
              have B1 := hide HO.out.2
              have hw := HO.out.2.size
              clear HO
              have BN : Hid (Below wr.heap.size wr (wr.alloc (.cells #[.int .i64 y] 3))) := (Below.refl _ _).alloc (Nat.le_refl _) _
              have OWN := hide (own_below OW.out BN.out)
              go_wp2_with (at_builtin; refine wpList_append_own _ rfl _ _ 43 rfl w.heap.size 3 i0 (.int .i64 0) 1 8 Try.underlying43 I0.out Y0.out Y1.out Y2.out rfl (by decide) _ _ _ rfl OWN.out ⟨wr.heap.size, 0, none⟩ 1 1 [Value.int .i64 y] rfl rfl (one_cell _ _ _) (one_i64 _) ?c1 ?c2 ?c3 ?_)
              case c1 => unfold maxLen; omega
              case c2 => omega
              case c3 => have := BN.out.size; omega
              intro u' z2 ho hg _
              rw [icells_snoc] at ho
              have ho2 : z2.ownsRow w.heap.size 3 1 u' (l ++ [y]).length (icells (l ++ [y])) := by rw [List.length_append]; exact ho
              have ON : Hid (z2.ownsRow w.heap.size 3 1 u' (l ++ [y]).length (icells (l ++ [y])) ∧ Below w.heap.size w z2) := ⟨ho2, (B1.out.trans (BN.out.mono hw)).grown hg (by have := BN.out.size; omega) (fun q hq => (OWN.out.lt q hq).1)⟩
              have hl3 : (l ++ [y]).length ≤ n + 1 + (k + 1) := by simp; omega
              generalize l ++ [y] = l2 at HL2 ON hl3
              clear ho ho2 hg OWN OW BN B1
              go_wp2
              go_roundw
              case rel => exact ⟨k + 1, l2, by omega, by go_num, hl3, HL2, ON⟩
              case measure => simp [intOf]; omega
            · have HL2 : Hid (l = A0 ++ (L.take (k + 1)).filter (fun y => decide (x < y))) := by
                show _ = _
                rw [HF.out, if_neg (by simpa using hyx), List.append_nil]
                exact HL.out
              go_wp2
              go_roundw
              case rel => exact ⟨k + 1, l, by omega, by go_num, by omega, HL2, HO⟩
              case measure => simp [intOf]; omega
          · have EL : Hid (l = A0 ++ L.filter (fun y => decide (x < y))) := by
              show _ = _
              rw [HL.out, List.take_of_length_le (by have := HNL.out; omega)]
            have EM : Hid (l = M) := by
              show _ = _
              rw [EL.out, ← HM.out, insI, ← HA.out]
            go_wp2
            go_ret
            refine ⟨_, rfl, ?_, HO.out.2⟩
            rw [← EM.out]
            exact HO.out.1
      · have HL2 : Hid (l = L.filter (fun y => decide (y < x)) ++ (if 0 < x then [x] else [])) := by
          show _ = _
          rw [if_neg hx, List.append_nil]
          exact EL.out
        have ON := hide HO.out
        have hl3 : l.length ≤ n + 1 := by omega
        clear HO EL
        go_wp2
        obtain ⟨A0, hA⟩ : ∃ A0, L.filter (fun y => decide (y < x)) ++ (if 0 < x then [x] else []) = A0 := ⟨_, rfl⟩
        rw [hA] at HL2
        have HA := hide hA
        clear hA
        go_loopw [5, 7] (fun ov kv W => ∃ (k : Nat) (l : List Int), k ≤ n ∧ kv = .int .i64 k ∧ l.length ≤ n + 1 + k ∧ Hid (l = A0 ++ (L.take k).filter (fun y => decide (x < y))) ∧ Hid (W.ownsRow w.heap.size 3 1 ov l.length (icells l) ∧ Below w.heap.size w W)) (fun _ kv _ => n - (intOf kv).toNat)
        case atStart => exact ⟨0, l, Nat.zero_le _, rfl, by omega, (by show _ = _; rw [HL2.out]; simp), ON⟩
        case round =>
          obtain ⟨k, l, hk, rfl, hlk, HL, HO⟩ := hrel
          by_cases hlt : (k : Int) < n
          · have hy := List.getElem?_eq_getElem (show k < L.length by have := HNL.out; omega)
            generalize L[k]'(by have := HNL.out; omega) = y at hy
            obtain ⟨b, off, e, hb, c0⟩ := (HR.out.below HO.out.2).at hy
            subst e
            have k0 : (0 : Int) ≤ k := by omega
            have HF := hide (filt_take (p := fun y => decide (x < y)) hy)
            clear hy
            by_cases hyx : x < y
            · have HL2 : Hid (l ++ [y] = A0 ++ (L.take (k + 1)).filter (fun y => decide (x < y))) := by
                show _ = _
                rw [HF.out, if_pos (by simpa using hyx), HL.out]; rw [List.append_assoc]
              have OW := hide HO.out.1
              have B1 := hide HO.out.2
              have hw := HO.out.2.size
              clear HO
              have BN : Hid (Below wr.heap.size wr (wr.alloc (.cells #[.int .i64 y] 3))) := (Below.refl _ _).alloc (Nat.le_refl _) _
              have OWN := hide (own_below OW.out BN.out)
              go_wp2_with (at_builtin; refine wpList_append_own _ rfl _ _ 43 rfl w.heap.size 3 i0 (.int .i64 0) 1 8 Try.underlying43 I0.out Y0.out Y1.out Y2.out rfl (by decide) _ _ _ rfl OWN.out ⟨wr.heap.size, 0, none⟩ 1 1 [Value.int .i64 y] rfl rfl (one_cell _ _ _) (one_i64 _) ?c1 ?c2 ?c3 ?_)
              case c1 => unfold maxLen; omega
              case c2 => omega
              case c3 => have := BN.out.size; omega
              intro u' z2 ho hg _
              rw [icells_snoc] at ho
              have ho2 : z2.ownsRow w.heap.size 3 1 u' (l ++ [y]).length (icells (l ++ [y])) := by rw [List.length_append]; exact ho
              have ON : Hid (z2.ownsRow w.heap.size 3 1 u' (l ++ [y]).length (icells (l ++ [y])) ∧ Below w.heap.size w z2) := ⟨ho2, (B1.out.trans (BN.out.mono hw)).grown hg (by have := BN.out.size; omega) (fun q hq => (OWN.out.lt q hq).1)⟩
              have hl3 : (l ++ [y]).length ≤ n + 1 + (k + 1) := by simp; omega
              generalize l ++ [y] = l2 at HL2 ON hl3
              clear ho ho2 hg OWN OW BN B1
              go_wp2
              go_roundw
              case rel => exact ⟨k + 1, l2, by omega, by go_num, hl3, HL2, ON⟩
              case measure => simp [intOf]; omega
            · have HL2 : Hid (l = A0 ++ (L.take (k + 1)).filter (fun y => decide (x < y))) := by
                show _ = _
                rw [HF.out, if_neg (by simpa using hyx), List.append_nil]
                exact HL.out
              go_wp2
              go_roundw
              case rel => exact ⟨k + 1, l, by omega, by go_num, by omega, HL2, HO⟩
              case measure => simp [intOf]; omega
          · have EL : Hid (l = A0 ++ L.filter (fun y => decide (x < y))) := by
              show _ = _
              rw [HL.out, List.take_of_length_le (by have := HNL.out; omega)]
            have EM : Hid (l = M) := by
              show _ = _
              rw [EL.out, ← HM.out, insI, ← HA.out]
            go_wp2
            go_ret
            refine ⟨_, rfl, ?_, HO.out.2⟩
            rw [← EM.out]
            exact HO.out.1
end Go.Proofs.Ytcnaahajaaifjaa
