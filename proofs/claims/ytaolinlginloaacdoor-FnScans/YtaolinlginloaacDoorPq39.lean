/-
  SNext; SMay; SLeaf
-/
import Derived.Test.YtaolinlginloaacDoorPq34
import Derived.Test.YtaolinlginloaacDoorPq35
import Derived.Test.YtaolinlginloaacDoorPq2
/-
  spec.NextBlank.
-/
namespace Go.Proofs.YtaolinlginloaacDoor
open Go.RowKit

set_option maxHeartbeats 400000 in
set_option maxRecDepth 100000 in
theorem snext_rd (x : Bool) (y : Int) (v : Value) (ls : List (Int × ByteArray)) (w : World) (hl : ls.length ≤ 1048576) (ha : LeafRd w v ls) :
    Calls Tryd.prog 89 #[.agg #[.bool x, .int .i64 y, v]] w fun e w' => e = .returned (.int .i64 (nextB ls : Nat)) ∧ Below w.heap.size w w' := by
  have ha1 := ha
  obtain ⟨ad, capa, rfl, -, -⟩ := ha1
  have HB := hide ((Below.refl w.heap.size w).alloc (Nat.le_refl _) (.cells #[.bool x, .int .i64 y, .slice ad ls.length capa] 97))
  have HA := hide (ha.below HB.out)
  clear ha
  go_enter Tryd.func89, Tryd.ntmps89
  go_wp2
  have hcb := cell_of_row _ _ 2 _ _ _ (heap_alloc_new w (.cells #[.bool x, .int .i64 y, .slice ad ls.length capa] 97))
  have HCB : Hid ((w.alloc (.cells #[.bool x, .int .i64 y, .slice ad ls.length capa] 97)).cell? ⟨w.heap.size, 2, none⟩ = some (.slice ad ls.length capa)) := hcb
  have HSZ := hide (show (w.alloc (.cells #[.bool x, .int .i64 y, .slice ad ls.length capa] 97)).heap.size = w.heap.size + 1 by simp)
  clear hcb
  generalize w.alloc (.cells #[.bool x, .int .i64 y, .slice ad ls.length capa] 97) = wA at HB HA HCB HSZ ⊢
  go_loopw [3] (fun iv wr => ∃ k : Nat, k ≤ ls.length ∧ iv = .int .i64 k ∧ Hid (∀ (j : Nat) (u : Int × ByteArray), j < k → ls[j]? = some u → u.1 ≠ 0) ∧ Hid (Below wA.heap.size wA wr)) (fun iv _ => ls.length - (intOf iv).toNat)
  case atStart => exact ⟨0, Nat.zero_le _, rfl, (show ∀ (j : Nat) (u : Int × ByteArray), j < 0 → ls[j]? = some u → u.1 ≠ 0 from fun j u hj => by omega), Below.refl _ _⟩
  case round =>
    obtain ⟨k, hk, rfl, HN, HW⟩ := hrel
    have hcb : wr.cell? ⟨w.heap.size, 2, none⟩ = some (.slice ad ls.length capa) := (HW.out.cell (show w.heap.size < wA.heap.size by have := HSZ.out; omega)).trans HCB.out
    have HBW := hide (HB.out.trans (HW.out.mono HB.out.size))
    by_cases hlt : (k : Int) < ls.length
    · obtain ⟨g, lo, el⟩ := HA.out.head (by omega)
      subst el
      have hkl : k < ls.length := by omega
      obtain ⟨z, t, ht⟩ : ∃ z t, ls[k]? = some (z, t) := ⟨ls[k].1, ls[k].2, List.getElem?_eq_getElem hkl⟩
      obtain ⟨c1, -⟩ := (HA.out.below HW.out).two ht
      simp only at c1
      have HTT := hide ht
      have k0 : (0 : Int) ≤ k := by omega
      clear ht
      by_cases hz : z = 0
      · subst hz
        have HE := hide (nextB_at HTT.out rfl HN.out)
        go_wp2
        go_ret
        exact ⟨by rw [HE.out]; rfl, HBW.out⟩
      · have hz2 : (z == 0) = false := by simpa using hz
        go_wp2
        go_roundw
        case rel =>
          refine ⟨k + 1, by omega, by go_num, hide (fun j u hj hu => ?_), HW⟩
          by_cases hjk : j = k
          · subst hjk
            rw [HTT.out] at hu
            cases hu
            exact hz
          · exact HN.out j u (by omega) hu
        case measure => simp [intOf]; omega
    · have hke : k = ls.length := by omega
      have HE := hide (nextB_none (ls := ls) (fun j u hu => HN.out j u (by have := (List.getElem?_eq_some_iff.1 hu).1; omega) hu))
      clear hke
      go_wp2
      go_ret
      exact ⟨by rw [HE.out]; rfl, HBW.out⟩
theorem snext_any (x : Bool) (y : Int) (v : Value) (ls : List (Int × ByteArray)) (B : Nat) (w : World) (hl : ls.length ≤ 1048576) (ha : w.ownsRow B 103 2 v ls.length (lcells ls)) :
    Calls Tryd.prog 89 #[.agg #[.bool x, .int .i64 y, v]] w fun e w' => e = .returned (.int .i64 (nextB ls : Nat)) ∧ Below w.heap.size w w' := snext_rd x y v ls w hl (LeafIn.rd (lo := B) (hi := w.heap.size) ⟨ha, fun g hg => (own_block_lt ha g hg).2⟩)
end Go.Proofs.YtaolinlginloaacDoor

/-
  spec.l05May.
-/
namespace Go.Proofs.YtaolinlginloaacDoor
open Go.RowKit

theorem mayP_out {bs : List Bk} {b leaf : Int} {t : ByteArray} (h : ¬ (0 ≤ b ∧ b ≤ (bs.length : Int) - 1)) : mayP bs b leaf t = false := by
  unfold mayP
  cases hb : bs[b.toNat]? with
  | none => rfl
  | some r =>
    have := (List.getElem?_eq_some_iff.1 hb).1
    exact decide_eq_false (fun hh => h ⟨hh.1, by omega⟩)
theorem mayP_in {bs : List Bk} {b leaf : Int} {t : ByteArray} {r : Bk} (h0 : 0 ≤ b) (hr : bs[b.toNat]? = some r) : mayP bs b leaf t = decide (r.1 = false ∧ leaf < 4 ∧ leaf = nextB r.2.2 ∧ 1 ≤ t.size ∧ t.size ≤ 120) := by
  unfold mayP
  rw [hr]
  simp [h0]

set_option maxHeartbeats 800000 in
set_option maxRecDepth 100000 in
theorem smay_rd (v : Value) (rs : List Rw) (b leaf : Int) (t : ByteArray) (w : World) (hl : rs.length ≤ 1048576) (hll : ∀ r ∈ rs, r.2.2.2.length ≤ 1048576) (ha : FlashRd w v rs) :
    Calls Tryd.prog 109 #[.agg #[v], .int .i64 b, .int .i64 leaf, .string t] w fun e w' => e = .returned (.bool (mayP (rs.map tellOf) b leaf t)) ∧ Below w.heap.size w w' := by
  have ha1 := ha
  obtain ⟨ad, capa, rfl, -, -⟩ := ha1
  have HLL := hide hll
  have HB := hide ((Below.refl w.heap.size w).alloc (Nat.le_refl _) (.cells #[.slice ad rs.length capa] 48))
  have HA := hide (ha.below HB.out)
  have hw1 : IntKind.i64.wrap ((rs.length : Int) - 1) = (rs.length : Int) - 1 := by rw [IntKind.wrap_i64]; omega
  clear ha hll
  by_cases hb : 0 ≤ b ∧ b ≤ (rs.length : Int) - 1
  · have hbd : decide (0 ≤ b ∧ b ≤ (rs.length : Int) - 1) = true := decide_eq_true hb
    obtain ⟨k, rfl⟩ : ∃ k : Nat, b = k := ⟨b.toNat, by omega⟩
    have hkl : k < rs.length := by omega
    have hr : rs[k]? = some rs[k] := List.getElem?_eq_getElem hkl
    generalize rs[k] = r at hr
    have hmem := List.mem_of_getElem? hr
    have hrl := HLL.out r hmem
    obtain ⟨g, eg, ⟨c1, c2, c3⟩, hlf⟩ := HA.out.at hr
    subst eg
    obtain ⟨x, y, u, ls⟩ := r
    simp only at c1 c2 c3
    simp only at hlf hrl
    have HM := hide (mayP_in (bs := rs.map tellOf) (leaf := leaf) (t := t) (r := (x, y, ls)) hb.1 (by rw [List.getElem?_map, Int.toNat_natCast, hr]; rfl))
    have hlf2 := hlf
    obtain ⟨ld, capl, rfl, -, -⟩ := hlf2
    have HLF := hide hlf
    have k0 : (0 : Int) ≤ k := by omega
    clear hr hmem hlf hb
    cases x with
    | true =>
      have HE : Hid (mayP (rs.map tellOf) k leaf t = false) := HM.out.trans (decide_eq_false (by simp))
      go_enter Tryd.func109, Tryd.ntmps109
      go_wp2_with fail
      refine (sin_any (k : Int) 0 ((rs.length : Int) - 1) _).mono ?_
      rintro e w1 ⟨rfl, rfl⟩
      rw [hbd]
      clear hbd
      go_wp2
      go_ret
      exact ⟨by rw [HE.out]; rfl, HB.out⟩
    | false =>
      by_cases hl4 : leaf < 4
      · have hl4b : decide (leaf < 4) = true := decide_eq_true hl4
        go_enter Tryd.func109, Tryd.ntmps109
        go_wp2_with fail
        refine (sin_any (k : Int) 0 ((rs.length : Int) - 1) _).mono ?_
        rintro e w1 ⟨rfl, rfl⟩
        rw [hbd]
        clear hbd
        go_wp2_with fail
        refine (snext_rd false y _ ls _ hrl HLF.out).mono ?_
        rintro e w2 ⟨rfl, b2⟩
        have HB2 := hide (HB.out.trans (b2.mono HB.out.size))
        clear b2
        by_cases hn : leaf = nextB ls
        · have hnb : (leaf == (nextB ls : Int)) = true := by simp [hn]
          have HE : Hid (mayP (rs.map tellOf) k leaf t = decide ((1 : Int) ≤ t.size ∧ (t.size : Int) ≤ 120)) := by
            show _ = _
            rw [HM.out]
            congr 1
            apply propext
            constructor
            · intro hh
              exact ⟨by have := hh.2.2.2.1; omega, by have := hh.2.2.2.2; omega⟩
            · intro hh
              exact ⟨by trivial, hl4, hn, by omega, by omega⟩
          clear hn
          go_wp2_with fail
          refine (sin_any (t.size : Int) 1 120 _).mono ?_
          rintro e w3 ⟨rfl, rfl⟩
          rw [← HE.out]
          clear HE
          go_wp2
          go_ret
          exact ⟨rfl, HB2.out⟩
        · have hnb : (leaf == (nextB ls : Int)) = false := by simpa using hn
          have HE : Hid (mayP (rs.map tellOf) k leaf t = false) := HM.out.trans (decide_eq_false (fun hh => hn hh.2.2.1))
          clear hn
          go_wp2
          go_ret
          exact ⟨by rw [HE.out]; rfl, HB2.out⟩
      · have hl4b : decide (leaf < 4) = false := decide_eq_false hl4
        have HE : Hid (mayP (rs.map tellOf) k leaf t = false) := HM.out.trans (decide_eq_false (fun hh => hl4 hh.2.1))
        go_enter Tryd.func109, Tryd.ntmps109
        go_wp2_with fail
        refine (sin_any (k : Int) 0 ((rs.length : Int) - 1) _).mono ?_
        rintro e w1 ⟨rfl, rfl⟩
        rw [hbd]
        clear hbd
        go_wp2
        go_ret
        exact ⟨by rw [HE.out]; rfl, HB.out⟩
  · have hbd : decide (0 ≤ b ∧ b ≤ (rs.length : Int) - 1) = false := decide_eq_false hb
    have HE : Hid (mayP (rs.map tellOf) b leaf t = false) := mayP_out (by rw [List.length_map]; exact hb)
    clear hb
    go_enter Tryd.func109, Tryd.ntmps109
    go_wp2_with fail
    refine (sin_any b 0 ((rs.length : Int) - 1) _).mono ?_
    rintro e w1 ⟨rfl, rfl⟩
    rw [hbd]
    clear hbd
    go_wp2
    go_ret
    exact ⟨by rw [HE.out]; rfl, HB.out⟩
theorem smay_any (v : Value) (rs : List Rw) (lo hi : Nat) (b leaf : Int) (t : ByteArray) (w : World) (hl : rs.length ≤ 1048576) (hll : ∀ r ∈ rs, r.2.2.2.length ≤ 1048576) (_hh : hi ≤ w.heap.size) (ha : FlashIn w lo hi v rs) :
    Calls Tryd.prog 109 #[.agg #[v], .int .i64 b, .int .i64 leaf, .string t] w fun e w' => e = .returned (.bool (mayP (rs.map tellOf) b leaf t)) ∧ Below w.heap.size w w' := smay_rd v rs b leaf t w hl hll ha.rd
end Go.Proofs.YtaolinlginloaacDoor

/-
  spec.l05Leaf.
-/
namespace Go.Proofs.YtaolinlginloaacDoor
open Go.RowKit

set_option maxHeartbeats 400000 in
set_option maxRecDepth 100000 in
theorem sleaf_any (x : Int) (t : ByteArray) (w : World) :
    Calls Tryd.prog 121 #[.agg #[.int .i64 x, .string t]] w fun e w' => e = .returned (.bool (leafOk (x, t))) ∧ Below w.heap.size w w' := by
  have HB := hide ((Below.refl w.heap.size w).alloc (Nat.le_refl _) (.cells #[.int .i64 x, .string t] 103))
  by_cases h0 : x = 0
  · subst h0
    have HE : Hid (leafOk (0, t) = t.toList.isEmpty) := by
      show _ = _
      simp only [leafOk]
      rw [Lib.toList_data]
      have hsz : t.size = t.data.toList.length := rfl
      cases hc : t.data.toList with
      | nil => rw [hc] at hsz; exact decide_eq_true (Or.inl ⟨trivial, hsz⟩)
      | cons a l => rw [hc] at hsz; exact decide_eq_false (by simp only [List.length_cons] at hsz; omega)
    go_enter Tryd.func121, Tryd.ntmps121
    go_wp2
    go_ret
    exact ⟨by rw [HE.out]; rfl, HB.out⟩
  · by_cases h1 : x = 1
    · subst h1
      have HE : Hid (leafOk (1, t) = decide ((1 : Int) ≤ t.size ∧ (t.size : Int) ≤ 120)) := by
        show _ = _
        simp only [leafOk]
        congr 1
        apply propext
        simp
        omega
      go_enter Tryd.func121, Tryd.ntmps121
      go_wp2_with fail
      refine (sin_any (t.size : Int) 1 120 _).mono ?_
      rintro e w1 ⟨rfl, rfl⟩
      rw [← HE.out]
      clear HE
      go_wp2
      go_ret
      exact ⟨rfl, HB.out⟩
    · have e0 : (x == 0) = false := by simpa using h0
      have e1 : (x == 1) = false := by simpa using h1
      by_cases h2 : x = 2
      · subst h2
        have HE : Hid (leafOk (2, t) = decide ((t.size : Int) ≤ 120)) := by
          show _ = _
          simp only [leafOk]
          congr 1
          apply propext
          simp
          omega
        go_enter Tryd.func121, Tryd.ntmps121
        go_wp2
        go_ret
        exact ⟨by rw [HE.out]; rfl, HB.out⟩
      · have e2 : (x == 2) = false := by simpa using h2
        have HE : Hid (leafOk (x, t) = false) := by
          show _ = _
          simp only [leafOk]
          exact decide_eq_false (by omega)
        go_enter Tryd.func121, Tryd.ntmps121
        go_wp2
        go_ret
        exact ⟨by rw [HE.out]; rfl, HB.out⟩
end Go.Proofs.YtaolinlginloaacDoor
