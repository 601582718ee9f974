/-
  SHas; PartL
-/
import Derived.Test.YtcnaahajaaifjacGreatPk7
import Derived.Test.YtcnaahajaaifjacGreatPk0
/-
  spec.l11Has.
-/
namespace Go.Proofs.YtcnaahajaaifjacGreat
open Go.RowKit
open Words

/-- Rows of bools. -/
def flcells (l : List Bool) : List Value := l.map .bool
theorem flcells_set (l : List Bool) (k : Nat) (b : Bool) : (flcells l).set k (.bool b) = flcells (l.set k b) := by simp [flcells, List.map_set]
theorem flcells_get {l : List Bool} {k : Nat} {b : Bool} (h : l[k]? = some b) : (flcells l)[k]? = some (.bool b) := by rw [flcells, List.getElem?_map, h]; rfl
theorem infoBl : (Tryz.prog.info? 4).map (fun i => (i.zero, i.size, i.bytes)) = some (some (.bool false), 1, 1) := by kernel_rfl
/-- The knots that a tree has, its children up to k. -/
def hasK (l : List Kn) (m : Nat) (k i : Nat) : Bool := decide (m = i) || (List.range k).any (fun j => decide (kidAt l (m : Int) j = i))
theorem hasK_succ (l : List Kn) (m k i : Nat) : hasK l m (k + 1) i = (hasK l m k i || decide (kidAt l (m : Int) k = i)) := by
  rw [hasK, hasK, List.range_succ, List.any_append, Bool.or_assoc]
  simp
theorem hasB_neg (l : List Kn) {r : Int} (h : r < 0) (i : Nat) : hasB l r i = false := by rw [hasB, decide_eq_false (by omega), Bool.false_and]
theorem hasB_pos (l : List Kn) (m i : Nat) : hasB l (m : Int) i = hasK l m 4 i := by
  rw [hasB, hasK, decide_eq_true (by omega), Bool.true_and]
  congr 1
  rw [decide_eq_decide]
  omega
theorem map_set {n k : Nat} {f f' : Nat → Bool} (hf : ∀ i, i ≠ k → f' i = f i) (hk : f' k = true) : ((List.range n).map f).set k true = (List.range n).map f' := by
  apply List.ext_getElem?
  intro i
  rw [List.getElem?_set]
  by_cases e : k = i
  · subst e
    by_cases h : k < n
    · simp [h, hk]
    · simp [h]
  · rw [if_neg e, List.getElem?_map, List.getElem?_map]
    by_cases h : i < n
    · simp [h, hf i (Ne.symm e)]
    · simp [h]
theorem map_same {n : Nat} {f f' : Nat → Bool} (hf : ∀ i, i < n → f' i = f i) : (List.range n).map f = (List.range n).map f' := List.map_congr_left (fun i hi => (hf i (List.mem_range.1 hi)).symm)
/-- A row of bools of the call's own. -/
def FlOut (w : World) (len : Nat) (bs : List Bool) (e : Ending) (w' : World) : Prop := ∃ g, e = .returned (.slice (some ⟨g, 0, none⟩) len len) ∧ w.heap.size ≤ g ∧ g < w'.heap.size ∧ Flt 4 g (flcells bs) w' ∧ Below w.heap.size w w'

set_option maxHeartbeats 1000000 in
set_option maxRecDepth 100000 in
theorem shas (ad : Option Addr) (len cap : Nat) (rs : List Kw) (r : Int) (w : World) (hl : len ≤ 1048578) (h : KnRd w ad len rs) (ha : arB (rs.map ktell) = true) (hr : rootB (rs.map ktell) r = true) :
    Calls Tryz.prog 75 #[.agg #[.slice ad len cap], .int .i64 r] w (FlOut w len ((List.range len).map (hasB (rs.map ktell) r))) := by
  obtain ⟨i0, hi, hz0, hz1, hz2⟩ := info_parts infoBl
  have BX := hide (box_at w (.slice ad len cap))
  have bx := BX.out
  have B0 : Hid (Below w.heap.size w (w.alloc (.cells #[.slice ad len cap] 34))) := (Below.refl _ _).alloc (Nat.le_refl _) _
  have H := hide (h.below B0.out)
  have HZ := hide (show w.heap.size < (w.alloc (.cells #[.slice ad len cap] 34)).heap.size by simp)
  have HA := hide ha
  have HR := hide hr
  have HLL := hide (show (rs.map ktell).length = len by rw [List.length_map]; exact h.1)
  clear h ha hr
  obtain ⟨L, hL⟩ : ∃ L, rs.map ktell = L := ⟨_, rfl⟩
  have HL := hide hL
  rw [hL] at HA HR HLL ⊢
  clear hL
  go_enter Tryz.func75, Tryz.ntmps75
  go_wp2_with (at_make; refine wpList_make_full _ rfl _ _ 104 rfl (w.heap.size + 1) 4 i0 (.bool false) 1 Tryz.underlying104 hi hz0 hz1 .i64 .i64 _ _ len rfl rfl rfl rfl (by rw [hz2]; omega) (by unfold maxLen; omega) (by simp) ?_)
  intro w1 hown hgrow
  rw [toList_madeCells_one] at hown
  clear hi hz0 hz1 hz2
  have hsb : (w.alloc (.cells #[.slice ad len cap] 34)).heap.size = w.heap.size + 1 := by simp
  have BG : Hid (Below (w.alloc (.cells #[.slice ad len cap] 34)).heap.size (w.alloc (.cells #[.slice ad len cap] 34)) w1) := (Below.refl _ _).grown hgrow (Nat.le_refl _) (fun k hk => by cases hk)
  have F1 : Hid (Flt 4 (w.heap.size + 1) (flcells ((List.range len).map (fun _ => false))) w1) := by
    have e : List.replicate len (Value.bool false) = flcells ((List.range len).map (fun _ => false)) := by
      apply List.ext_getElem?
      intro i
      by_cases h : i < len
      · simp [flcells, h]
      · simp [flcells, h]
    have := (Sli.of hown).flt
    rw [e] at this
    exact this
  have GL : Hid (w.heap.size + 1 < w1.heap.size) := (hown.lt _ rfl).2
  clear hown hgrow bx
  generalize w.alloc (.cells #[.slice ad len cap] 34) = wb at BX B0 H HZ hsb BG
  obtain ⟨z, hz⟩ : ∃ z, w.heap.size = z := ⟨_, rfl⟩
  rw [hz] at BX HZ F1 GL hsb ⊢
  have HZW := hide hz
  clear hz
  obtain ⟨g, hg⟩ : ∃ g, z + 1 = g := ⟨_, rfl⟩
  rw [hg] at F1 GL hsb ⊢
  have HGZ := hide hg
  have HGB := hide hsb
  clear hg hsb
  have bx := (BG.out.cell (show z < wb.heap.size from HZ.out)).trans BX.out
  by_cases hneg : r < 0
  · have F2 : Hid (Flt 4 g (flcells ((List.range len).map (hasB L r))) w1) := by
      have := F1.out
      rw [map_same (fun i _ => hasB_neg L hneg i)] at this
      exact this
    have HF : Hid (Below w.heap.size w w1) := B0.out.trans (BG.out.mono B0.out.size)
    go_wp2
    go_ret
    exact ⟨g, rfl, by have := HZW.out; have := HGZ.out; omega, GL.out, F2.out, HF.out⟩
  · obtain ⟨m, rfl⟩ : ∃ m : Nat, r = (m : Int) := ⟨r.toNat, by omega⟩
    obtain ⟨x, hx, hxl⟩ := rootB_pos HR.out (by omega)
    have hml : m < len := by have := (List.getElem?_eq_some_iff.1 hx).1; rw [HLL.out] at this; simpa using this
    obtain ⟨b, off, e, -⟩ := H.out.adr (by omega)
    subst e
    have x4 := knB_len (arB_at HA.out hx)
    have c0 : w1.cell? ⟨g, m, none⟩ = some (.bool false) := F1.out.cell (flcells_get (by simp [hml]))
    have f0 := F1.out.frozen m
    have F2 : Hid (Flt 4 g (flcells ((List.range len).map (hasK L m 0))) (w1.setCell ⟨g, m, none⟩ (.bool true))) := by
      have := F1.out.set m (.bool true)
      rw [flcells_set, map_set (f' := hasK L m 0) (fun i hi => by simp [hasK]; omega) (by simp [hasK])] at this
      exact this
    have B2 : Hid (Below wb.heap.size wb (w1.setCell ⟨g, m, none⟩ (.bool true))) := BG.out.setCell (p := ⟨g, m, none⟩) (by show wb.heap.size ≤ g; have := HGB.out; omega) _
    have G2 : Hid (g < (w1.setCell ⟨g, m, none⟩ (.bool true)).heap.size) := hide (by have := GL.out; simpa [World.setCell] using this)
    have m0 : (0 : Int) ≤ m := by omega
    have mL : (m : Int) < len := by omega
    have HX := hide hx
    clear hx
    go_wp2
    clear c0 f0 F1 GL bx BG
    generalize w1.setCell ⟨g, m, none⟩ (.bool true) = w2 at F2 B2 G2 ⊢
    go_loopw [6] (fun kv W => ∃ k : Nat, k ≤ 4 ∧ kv = .int .i64 k ∧ Hid (Flt 4 g (flcells ((List.range len).map (hasK L m k))) W) ∧ Hid (Below wb.heap.size wb W) ∧ Hid (g < W.heap.size)) (fun kv _ => 4 - (intOf kv).toNat)
    case atStart => exact ⟨0, Nat.zero_le _, rfl, F2, B2, G2⟩
    case round =>
      obtain ⟨k, hk, rfl, FK, BK, GK⟩ := hrel
      have bx := (BK.out.cell (show z < wb.heap.size from HZ.out)).trans BX.out
      by_cases hlt : (k : Int) < 4
      · obtain ⟨n, hn, hcase⟩ := inner_kid HA.out HX.out hxl (show k < 4 by omega)
        have hka : kidAt L (m : Int) k = n := kidAt_some HX.out hn
        have hxr : (rs.map ktell)[(m : Int).toNat]? = some x := by rw [HL.out]; exact HX.out
        obtain ⟨ka, kc, -, c1, kr⟩ := (H.out.below BK.out).kids hxr
        rw [x4] at c1 kr
        simp only [Int.toNat_natCast] at c1
        obtain ⟨kb, ko, e, -, kcell⟩ := kr.at hn
        subst e
        have k0 : (0 : Int) ≤ k := by omega
        clear hxr kr
        rcases hcase with rfl | ⟨n0, nm, -⟩
        · have F3 : Hid (Flt 4 g (flcells ((List.range len).map (hasK L m (k + 1)))) wr) := by
            have := FK.out
            rw [map_same (f' := hasK L m (k + 1)) (fun i _ => by rw [hasK_succ, hka, decide_eq_false (by omega), Bool.or_false])] at this
            exact this
          clear hka hn FK
          go_wp2
          go_roundw
          case rel => exact ⟨k + 1, by omega, by go_num, F3, BK, GK⟩
          case measure => simp [intOf]; omega
        · obtain ⟨j, rfl⟩ : ∃ j : Nat, n = (j : Int) := ⟨n.toNat, by omega⟩
          simp only [Int.toNat_natCast] at nm
          have jL : (j : Int) < len := by omega
          have j0 : (0 : Int) ≤ j := by omega
          obtain ⟨o, ho⟩ : ∃ o, ((List.range len).map (hasK L m k))[j]? = some o := ⟨_, List.getElem?_eq_getElem (by simp; omega)⟩
          have d0 : wr.cell? ⟨g, j, none⟩ = some (.bool o) := FK.out.cell (flcells_get ho)
          have f0 := FK.out.frozen j
          have F3 : Hid (Flt 4 g (flcells ((List.range len).map (hasK L m (k + 1)))) (wr.setCell ⟨g, j, none⟩ (.bool true))) := by
            have := FK.out.set j (.bool true)
            rw [flcells_set, map_set (f' := hasK L m (k + 1)) (fun i hi => by rw [hasK_succ, hka, decide_eq_false (by omega), Bool.or_false]) (by rw [hasK_succ, hka, decide_eq_true rfl, Bool.or_true])] at this
            exact this
          have B3 : Hid (Below wb.heap.size wb (wr.setCell ⟨g, j, none⟩ (.bool true))) := BK.out.setCell (p := ⟨g, j, none⟩) (by show wb.heap.size ≤ g; have := HGB.out; omega) _
          have G3 : Hid (g < (wr.setCell ⟨g, j, none⟩ (.bool true)).heap.size) := hide (by have := GK.out; simpa [World.setCell] using this)
          clear hka hn FK ho BK GK n0
          go_wp2
          go_roundw
          case rel => exact ⟨k + 1, by omega, by go_num, F3, B3, G3⟩
          case measure => simp [intOf]; omega
      · have F3 : Hid (Flt 4 g (flcells ((List.range len).map (hasB L (m : Int)))) wr) := by
          have := FK.out
          rw [show k = 4 by omega, map_same (f' := hasB L (m : Int)) (fun i _ => hasB_pos L m i)] at this
          exact this
        have HF : Hid (Below w.heap.size w wr) := B0.out.trans (BK.out.mono B0.out.size)
        go_wp2
        go_ret
        exact ⟨g, rfl, by have := HZW.out; have := HGZ.out; omega, GK.out, F3.out, HF.out⟩
end Go.Proofs.YtcnaahajaaifjacGreat

/-
  Lists that are rewritten from the front on.
-/
namespace Go.Proofs.YtcnaahajaaifjacGreat
open Go.RowKit

theorem icells_set (l : List Int) (k : Nat) (n : Int) : (icells l).set k (.int .i64 n) = icells (l.set k n) := by simp [icells, List.map_set]
theorem part_set {α : Type} {l r : List α} {k : Nat} {v : α} (hl : l[k]? = some v) (hr : r.length = l.length) : (l.take k ++ r.drop k).set k v = l.take (k + 1) ++ r.drop (k + 1) := by
  obtain ⟨hk, e⟩ := List.getElem?_eq_some_iff.1 hl
  rw [List.set_append_right _ _ (by rw [List.length_take]; omega), List.length_take, Nat.min_eq_left (by omega), Nat.sub_self, List.drop_eq_getElem_cons (by omega), List.set_cons_zero, List.take_succ_eq_append_getElem hk, e, List.append_assoc]
  rfl
theorem part_at {α : Type} {l r : List α} {k : Nat} (hk : k < l.length) : (l.take k ++ r.drop k)[k]? = r[k]? := by
  rw [List.getElem?_append_right (by rw [List.length_take]; omega), List.length_take, Nat.min_eq_left (by omega), Nat.sub_self, List.getElem?_drop]
  simp
theorem part_all {α : Type} {l r : List α} (h : r.length = l.length) : l.take l.length ++ r.drop l.length = l := by rw [List.take_length, List.drop_eq_nil_of_le (by omega), List.append_nil]
end Go.Proofs.YtcnaahajaaifjacGreat
