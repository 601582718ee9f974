/-
  The walks of the law's own helpers over flashes: equal.
-/
import Derived.Test.YtaolinlginloaadDoorFRow
namespace Go.Proofs.YtaolinlginloaadDoor
open Go.RowKit

set_option maxHeartbeats 400000 in
theorem eqLeaf_any (a : Int) (t : ByteArray) (w : World) :
    Calls Tryd.prog 64 #[.agg #[.int .i64 a, .string t], .agg #[.int .i64 a, .string t]] w fun e w' => e = .returned (.bool true) ∧ Below w.heap.size w w' := by
  have e1 : (a != a) = false := by simp
  go_enter Tryd.func64, Tryd.ntmps64
  go_wp2
  go_ret
  exact ⟨rfl, ((Below.refl _ _).alloc (Nat.le_refl _) _).alloc (by simp) _⟩

set_option maxHeartbeats 400000 in
set_option maxRecDepth 100000 in
theorem eqLeafS_any (a b : Value) (ls : List (Int × ByteArray)) (B1 B2 : Nat) (w : World) (hl : ls.length ≤ 1048576) (ha : w.ownsRow B1 65 2 a ls.length (lcells ls)) (hb : w.ownsRow B2 65 2 b ls.length (lcells ls)) :
    Calls Tryd.prog 56 #[a, b] w fun e w' => e = .returned (.bool true) ∧ Below w.heap.size w w' := by
  obtain ⟨ad, capa, rfl, a1, a2, a3⟩ := frow_form ha
  obtain ⟨bd, capb, rfl, b1, b2, b3⟩ := frow_form hb
  unfold maxLen at a2 b2
  have A3 := hide a3
  have B3 := hide b3
  have HA := hide ha
  have HB := hide hb
  clear a3 b3 ha hb
  go_enter Tryd.func56, Tryd.ntmps56
  go_wp2
  go_loopw [5] (fun iv wr => ∃ k : Nat, k ≤ ls.length ∧ iv = .int .i64 k ∧ Hid (Below w.heap.size w wr)) (fun iv _ => ls.length - (intOf iv).toNat)
  case atStart => exact ⟨0, Nat.zero_le _, rfl, Below.refl _ _⟩
  case round =>
    obtain ⟨k, hk, rfl, HW⟩ := hrel
    by_cases hlt : (k : Int) < ls.length
    · obtain ⟨ga, rfl, _, hga⟩ := A3.out (by omega)
      obtain ⟨gb, rfl, _, hgb⟩ := B3.out (by omega)
      have hkl : k < ls.length := by omega
      obtain ⟨x, t, ht⟩ : ∃ x t, ls[k]? = some (x, t) := ⟨ls[k].1, ls[k].2, List.getElem?_eq_getElem hkl⟩
      obtain ⟨c1, c2⟩ := lown_cells (own_below HA.out HW.out) ht
      obtain ⟨d1, d2⟩ := lown_cells (own_below HB.out HW.out) ht
      simp only at c1 c2 d1 d2
      have k0 : (0 : Int) ≤ k := by omega
      have hga2 : ga < wr.heap.size := Nat.lt_of_lt_of_le hga HW.out.size
      have hgb2 : gb < wr.heap.size := Nat.lt_of_lt_of_le hgb HW.out.size
      clear ht
      go_wp2
      go_region_held3 (fun w' => w'.cell? ⟨ga, k * 2, none⟩ = some (.int .i64 x) ∧ w'.cell? ⟨ga, k * 2 + 1, none⟩ = some (.string t) ∧ w'.cell? ⟨gb, k * 2, none⟩ = some (.int .i64 x) ∧ w'.cell? ⟨gb, k * 2 + 1, none⟩ = some (.string t)) (first | go_keep | exact ⟨(hb1.cell (show ga < wr.heap.size from hga2)).trans c1, (hb1.cell (show ga < wr.heap.size from hga2)).trans c2, (hb1.cell (show gb < wr.heap.size from hgb2)).trans d1, (hb1.cell (show gb < wr.heap.size from hgb2)).trans d2⟩) ((go_at_call 64; refine (eqLeaf_any x t _).mono ?_; rintro e w1 ⟨rfl, hb1⟩))
      have HW2 := hide (HW.out.drew.trans (hb1.mono (by have := HW.out.size; exact this)))
      clear hb1 HW c1 c2 d1 d2
      go_wp2
      go_roundw
      case rel => exact ⟨k + 1, by omega, by go_num, HW2⟩
      case measure => simp [intOf]; omega
    · go_wp2
      go_ret
      exact ⟨rfl, HW.out⟩

set_option maxHeartbeats 400000 in
set_option maxRecDepth 100000 in
theorem eqBlock_any (x : Bool) (y : Int) (a b : Value) (ls : List (Int × ByteArray)) (B1 B2 : Nat) (w : World) (hl : ls.length ≤ 1048576) (ha : w.ownsRow B1 65 2 a ls.length (lcells ls)) (hb : w.ownsRow B2 65 2 b ls.length (lcells ls)) :
    Calls Tryd.prog 39 #[.agg #[.bool x, .int .i64 y, a], .agg #[.bool x, .int .i64 y, b]] w fun e w' => e = .returned (.bool true) ∧ Below w.heap.size w w' := by
  have e1 : (y != y) = false := by simp
  have e2 : (x != x) = false := by simp
  obtain ⟨ad, capa, rfl, -⟩ := frow_form ha
  obtain ⟨bd, capb, rfl, -⟩ := frow_form hb
  have HA := hide ((ha.alloc (.cells #[.bool x, .int .i64 y, .slice ad ls.length capa] 41)).alloc (.cells #[.bool x, .int .i64 y, .slice bd ls.length capb] 41))
  have HB := hide ((hb.alloc (.cells #[.bool x, .int .i64 y, .slice ad ls.length capa] 41)).alloc (.cells #[.bool x, .int .i64 y, .slice bd ls.length capb] 41))
  have HW := hide (((Below.refl w.heap.size w).alloc (Nat.le_refl _) (.cells #[.bool x, .int .i64 y, .slice ad ls.length capa] 41)).alloc (by simp) (.cells #[.bool x, .int .i64 y, .slice bd ls.length capb] 41))
  clear ha hb
  go_enter Tryd.func39, Tryd.ntmps39
  go_wp2_with fail
  refine (eqLeafS_any _ _ ls _ _ _ hl HA.out HB.out).mono ?_
  rintro e w1 ⟨rfl, hb1⟩
  have HW1 := hide (HW.out.trans (hb1.mono HW.out.size))
  clear hb1
  go_wp2
  go_ret
  exact ⟨rfl, HW1.out⟩

theorem tell_at {rs ss : List Rw} (h : rs.map tellOf = ss.map tellOf) (k : Nat) (r : Rw) (hr : rs[k]? = some r) : ∃ s, ss[k]? = some s ∧ tellOf r = tellOf s := by
  have h1 := congrArg (fun l : List Bk => l[k]?) h
  simp only [List.getElem?_map, hr, Option.map_some] at h1
  cases hs : ss[k]? with
  | none => rw [hs] at h1; cases h1
  | some s =>
    rw [hs] at h1
    exact ⟨s, rfl, by simpa using h1⟩

set_option maxHeartbeats 400000 in
set_option maxRecDepth 100000 in
theorem eqBlockS_any (a b : Value) (rs ss : List Rw) (l1 h1 l2 h2 : Nat) (w : World) (hl : rs.length ≤ 1048576) (hll : ∀ r ∈ rs, r.2.2.2.length ≤ 1048576) (ha : FlashIn w l1 h1 a rs) (hb : FlashIn w l2 h2 b ss) (hh1 : h1 ≤ w.heap.size) (hh2 : h2 ≤ w.heap.size) (he : rs.map tellOf = ss.map tellOf) :
    Calls Tryd.prog 25 #[a, b] w fun e w' => e = .returned (.bool true) ∧ Below w.heap.size w w' := by
  have hlen : ss.length = rs.length := by have := congrArg List.length he; simpa using this.symm
  have ha1 := ha.1
  have hb1 := hb.1
  rw [hlen] at hb1
  obtain ⟨ad, capa, rfl, a1, a2, a3⟩ := frow_form ha1
  obtain ⟨bd, capb, rfl, b1, b2, b3⟩ := frow_form hb1
  unfold maxLen at a2 b2
  have A3 := hide a3
  have B3 := hide b3
  have HA := hide ha
  have HB := hide hb
  have HE := hide he
  have HLL := hide hll
  have HLEN := hide hlen
  clear a3 b3 ha hb ha1 hb1 he hll hlen
  go_enter Tryd.func25, Tryd.ntmps25
  go_wp2
  go_loopw [5] (fun iv wr => ∃ k : Nat, k ≤ rs.length ∧ iv = .int .i64 k ∧ Hid (Below w.heap.size w wr)) (fun iv _ => rs.length - (intOf iv).toNat)
  case atStart => exact ⟨0, Nat.zero_le _, rfl, Below.refl _ _⟩
  case round =>
    obtain ⟨k, hk, rfl, HW⟩ := hrel
    by_cases hlt : (k : Int) < rs.length
    · obtain ⟨ga, rfl, _, hga⟩ := A3.out (by omega)
      obtain ⟨gb, rfl, _, hgb⟩ := B3.out (by omega)
      have hkl : k < rs.length := by omega
      obtain ⟨x, y, u, ls, hr⟩ : ∃ x y u ls, rs[k]? = some (x, y, u, ls) := ⟨rs[k].1, rs[k].2.1, rs[k].2.2.1, rs[k].2.2.2, List.getElem?_eq_getElem hkl⟩
      obtain ⟨⟨x', y', u', ls'⟩, hs, hts⟩ := tell_at HE.out k _ hr
      simp only [tellOf, Prod.mk.injEq] at hts
      obtain ⟨rfl, rfl, rfl⟩ := hts
      have FA := HA.out.below HW.out hh1
      have FB := HB.out.below HW.out hh2
      have FB1 := FB.1
      rw [HLEN.out] at FB1
      obtain ⟨c1, c2, c3⟩ := kown_cells (t := (x, y, u)) FA.1 (by rw [List.getElem?_map, hr]; rfl)
      obtain ⟨d1, d2, d3⟩ := kown_cells (t := (x, y, u')) FB1 (by rw [List.getElem?_map, hs]; rfl)
      simp only at c1 c2 c3 d1 d2 d3
      have LA := (FA.2.2.1 _ (List.mem_of_getElem? hr)).1
      have LB := (FB.2.2.1 _ (List.mem_of_getElem? hs)).1
      have hlk := HLL.out _ (List.mem_of_getElem? hr)
      simp only at LA LB hlk
      have CE : Hid (Calls Tryd.prog 39 #[.agg #[.bool x, .int .i64 y, u], .agg #[.bool x, .int .i64 y, u']] wr.drew fun e w' => e = .returned (.bool true) ∧ Below wr.drew.heap.size wr.drew w') := eqBlock_any x y u u' ls l1 l2 wr.drew hlk (own_below LA (Below.refl _ _).drew) (own_below LB (Below.refl _ _).drew)
      obtain ⟨ua, uc, rfl, -⟩ := frow_form LA
      obtain ⟨va, vc, rfl, -⟩ := frow_form LB
      have k0 : (0 : Int) ≤ k := by omega
      have hga2 : ga < wr.heap.size := Nat.lt_of_lt_of_le hga HW.out.size
      have hgb2 : gb < wr.heap.size := Nat.lt_of_lt_of_le hgb HW.out.size
      clear hr hs FA FB FB1 LA LB
      go_wp2
      go_region_held3 (fun w' => w'.cell? ⟨ga, k * 3, none⟩ = some (.bool x) ∧ w'.cell? ⟨ga, k * 3 + 1, none⟩ = some (.int .i64 y) ∧ w'.cell? ⟨ga, k * 3 + 2, none⟩ = some (.slice ua ls.length uc) ∧ w'.cell? ⟨gb, k * 3, none⟩ = some (.bool x) ∧ w'.cell? ⟨gb, k * 3 + 1, none⟩ = some (.int .i64 y) ∧ w'.cell? ⟨gb, k * 3 + 2, none⟩ = some (.slice va ls.length vc)) (first | go_keep | exact ⟨(hb1.cell (show ga < wr.heap.size from hga2)).trans c1, (hb1.cell (show ga < wr.heap.size from hga2)).trans c2, (hb1.cell (show ga < wr.heap.size from hga2)).trans c3, (hb1.cell (show gb < wr.heap.size from hgb2)).trans d1, (hb1.cell (show gb < wr.heap.size from hgb2)).trans d2, (hb1.cell (show gb < wr.heap.size from hgb2)).trans d3⟩) ((go_at_call 39; (with_reducible refine Calls.mono CE.out ?_); rintro e w1 ⟨rfl, hb1⟩))
      have HW2 := hide (HW.out.drew.trans (hb1.mono (by have := HW.out.size; exact this)))
      clear hb1 HW c1 c2 c3 d1 d2 d3 CE
      go_wp2
      go_roundw
      case rel => exact ⟨k + 1, by omega, by go_num, HW2⟩
      case measure => simp [intOf]; omega
    · go_wp2
      go_ret
      exact ⟨rfl, HW.out⟩

set_option maxHeartbeats 400000 in
set_option maxRecDepth 100000 in
theorem eqFlash_any (a b : Value) (rs ss : List Rw) (l1 h1 l2 h2 : Nat) (w : World) (hl : rs.length ≤ 1048576) (hll : ∀ r ∈ rs, r.2.2.2.length ≤ 1048576) (ha : FlashIn w l1 h1 a rs) (hb : FlashIn w l2 h2 b ss) (hh1 : h1 ≤ w.heap.size) (hh2 : h2 ≤ w.heap.size) (he : rs.map tellOf = ss.map tellOf) :
    Calls Tryd.prog 10 #[.agg #[a], .agg #[b]] w fun e w' => e = .returned (.bool true) ∧ Below w.heap.size w w' := by
  have ha1 := ha.1
  have hb1 := hb.1
  obtain ⟨ad, capa, rfl, -⟩ := frow_form ha1
  obtain ⟨bd, capb, rfl, -⟩ := frow_form hb1
  have HW := hide (((Below.refl w.heap.size w).alloc (Nat.le_refl _) (.cells #[.slice ad rs.length capa] 30)).alloc (by simp) (.cells #[.slice bd ss.length capb] 30))
  have HA := hide (ha.below HW.out hh1)
  have HB := hide (hb.below HW.out hh2)
  have HE := hide he
  have HLL := hide hll
  clear ha hb ha1 hb1 he hll
  go_enter Tryd.func10, Tryd.ntmps10
  go_wp2_with fail
  refine (eqBlockS_any _ _ rs ss l1 h1 l2 h2 _ hl HLL.out HA.out HB.out (by simp; omega) (by simp; omega) HE.out).mono ?_
  rintro e w1 ⟨rfl, hb1⟩
  have HW1 := hide (HW.out.trans (hb1.mono HW.out.size))
  clear hb1
  go_wp2
  go_ret
  exact ⟨rfl, HW1.out⟩
end Go.Proofs.YtaolinlginloaadDoor
