/-
  spec.ReadLeaf.
-/
import Derived.Test.YtaolinlginloaadDoorPk30
import Derived.Test.YtaolinlginloaadDoorPk7
import Derived.Test.YtaolinlginloaadDoorPk18
import Derived.Test.YtaolinlginloaadDoorPk19
import Derived.Deep.RegionHeld3
namespace Go.Proofs.YtaolinlginloaadDoor
open Go.RowKit

set_option maxHeartbeats 400000 in
set_option maxRecDepth 100000 in
theorem sread_rd (v : Value) (rs : List Rw) (b leaf : Int) (w : World) (hl : rs.length ≤ 1048576) (hll : ∀ r ∈ rs, r.2.2.2.length ≤ 1048576) (ha : FlashRd w v rs) :
    Calls Tryd.prog 17 #[.agg #[v], .int .i64 b, .int .i64 leaf] w fun e w' => e = .returned (.tuple #[.string (readF (rs.map tellOf) b leaf).1, .bool (readF (rs.map tellOf) b leaf).2]) ∧ Below w.heap.size w w' := by
  have h1 := ha
  obtain ⟨vd, vcap, rfl, -⟩ := h1
  have HLL := hide hll
  have HB0 := hide ((Below.refl w.heap.size w).alloc (Nat.le_refl _) (.cells #[.slice vd rs.length vcap] 30))
  have HA := hide (ha.below HB0.out)
  have r0 := heap_alloc_new w (.cells #[.slice vd rs.length vcap] 30)
  have k0 : (w.alloc (.cells #[.slice vd rs.length vcap] 30)).cell? ⟨w.heap.size, 0, none⟩ = some (.slice vd rs.length vcap) := cell_of_row _ _ 0 _ _ _ r0
  have K0 := hide k0
  have hw1 : IntKind.i64.wrap ((rs.length : Int) - 1) = (rs.length : Int) - 1 := by rw [IntKind.wrap_i64]; omega
  clear ha hll r0 k0
  go_enter Tryd.func17, Tryd.ntmps17
  go_wp2_with fail
  refine (sin_any b 0 ((rs.length : Int) - 1) _).mono ?_
  rintro e w2 ⟨rfl, rfl⟩
  generalize w.alloc (.cells #[.slice vd rs.length vcap] 30) = w2 at HB0 HA K0 ⊢
  have k0 := K0.out
  by_cases hb : 0 ≤ b ∧ b ≤ (rs.length : Int) - 1
  · rw [decide_eq_true hb]
    obtain ⟨k, rfl⟩ : ∃ k : Nat, b = k := ⟨b.toNat, by omega⟩
    have hkl : k < rs.length := by omega
    have hr : rs[k]? = some rs[k] := List.getElem?_eq_getElem hkl
    generalize rs[k] = r at hr
    have hmem := List.mem_of_getElem? hr
    have hrl := HLL.out r hmem
    obtain ⟨g, eg, ⟨c1, c2, c3⟩, hlf⟩ := HA.out.at hr
    subst eg
    have HBR : Hid ((rs.map tellOf)[k]? = some (tellOf r)) := by show _ = _; rw [List.getElem?_map, hr]; rfl
    obtain ⟨x, y, u, ls⟩ := r
    simp only at c1 c2 c3
    simp only at hlf hrl
    obtain ⟨ld, capl, rfl, -, l3⟩ := hlf
    have L3 := hide l3
    have kk0 : (0 : Int) ≤ k := by omega
    have kk1 : (k : Int) < rs.length := by omega
    have hw2 : IntKind.i64.wrap ((ls.length : Int) - 1) = (ls.length : Int) - 1 := by rw [IntKind.wrap_i64]; omega
    clear hr hmem l3 c1 c2 hb
    go_wp2_with fail
    refine (sin_any leaf 0 ((ls.length : Int) - 1) _).mono ?_
    rintro e w3 ⟨rfl, rfl⟩
    by_cases hf : 0 ≤ leaf ∧ leaf ≤ (ls.length : Int) - 1
    · rw [decide_eq_true hf]
      obtain ⟨j, rfl⟩ : ∃ j : Nat, leaf = j := ⟨leaf.toNat, by omega⟩
      have hjl : j < ls.length := by omega
      obtain ⟨z, t, ht⟩ : ∃ z t, ls[j]? = some (z, t) := ⟨ls[j].1, ls[j].2, List.getElem?_eq_getElem hjl⟩
      obtain ⟨gl, lo, el, d1, d2⟩ := L3.out j (z, t) ht
      subst el
      simp only at d1 d2
      have RI := hide (read_in (t := (z, t)) HBR.out ht)
      have j0 : (0 : Int) ≤ j := by omega
      have j1 : (j : Int) < ls.length := by omega
      clear ht hf
      by_cases hz : z = 1
      · have HP : Hid (readF (rs.map tellOf) (k : Int) (j : Int) = (t, true)) := RI.out.1 hz
        have e1 : (z != 1) = false := by simp [hz]
        clear hz
        go_wp2
        go_ret2
        exact ⟨by rw [HP.out]; rfl, HB0.out⟩
      · have HP : Hid (readF (rs.map tellOf) (k : Int) (j : Int) = (⟨#[]⟩, false)) := RI.out.2 hz
        have e1 : (z != 1) = true := by simp [hz]
        clear hz
        go_wp2
        go_ret2
        exact ⟨by rw [HP.out]; rfl, HB0.out⟩
    · rw [decide_eq_false hf]
      have HP : Hid (readF (rs.map tellOf) (k : Int) leaf = (⟨#[]⟩, false)) := read_leaf_out HBR.out hf
      clear hf
      go_wp2
      go_ret2
      exact ⟨by rw [HP.out]; rfl, HB0.out⟩
  · rw [decide_eq_false hb]
    have HP : Hid (readF (rs.map tellOf) b leaf = (⟨#[]⟩, false)) := read_out (by rw [List.length_map]; exact hb)
    clear hb
    go_wp2
    go_ret2
    exact ⟨by rw [HP.out]; rfl, HB0.out⟩
theorem sread_any (v : Value) (rs : List Rw) (lo hi : Nat) (b leaf : Int) (w : World) (hl : rs.length ≤ 1048576) (hll : ∀ r ∈ rs, r.2.2.2.length ≤ 1048576) (_hh : hi ≤ w.heap.size) (ha : FlashIn w lo hi v rs) :
    Calls Tryd.prog 17 #[.agg #[v], .int .i64 b, .int .i64 leaf] w fun e w' => e = .returned (.tuple #[.string (readF (rs.map tellOf) b leaf).1, .bool (readF (rs.map tellOf) b leaf).2]) ∧ Below w.heap.size w w' := sread_rd v rs b leaf w hl hll ha.rd
end Go.Proofs.YtaolinlginloaadDoor
