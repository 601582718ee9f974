/-
  (impl.Flash).blockInUse.
-/
import Derived.Test.YthkkefbhcmhijaaIAt
import Derived.Test.YthkkefbhcmhijaaIOk
namespace Go.Proofs.Ythkkefbhcmhijaa
open Go.RowKit

/-- Block b is there, and not bad, and the flash is right. -/
def useP (bs : List Bk) (b : Int) : Prop := flOk bs = true ∧ 0 ≤ b ∧ ∃ r, bs[b.toNat]? = some r ∧ r.1 = false
set_option maxHeartbeats 400000 in
set_option maxRecDepth 100000 in
theorem iuse_yes (g n cap k : Nat) (rs : List Rw) (r : Rw) (lo hi : Nat) (w : World) (hl : rs.length ≤ 1048576) (hll : ∀ r ∈ rs, r.2.2.2.length ≤ 1048576) (hh : hi ≤ w.heap.size) (ha : FlashIn w lo hi (.slice (some ⟨g, 0, none⟩) n cap) rs)
    (ho : flOk (rs.map tellOf) = true) (hr : rs[k]? = some r) (hb : r.1 = false) :
    Calls Try.prog 20 #[.agg #[.slice (some ⟨g, 0, none⟩) n cap], .int .i64 k] w fun e w' => e = .returned (.pointer (some ⟨g, k * 3, none⟩)) ∧ Below w.heap.size w w' := by
  obtain ⟨ad, capa, e, a1, a2, a3⟩ := frow_form ha.1
  injection e with e1 e2 e3
  subst e1 e2 e3
  have hkl := (List.getElem?_eq_some_iff.1 hr).1
  have HLL := hide hll
  have HA := hide ha
  have HR := hide hr
  obtain ⟨g', e, hg1, hg⟩ := a3 (by omega)
  have HGG := hide e
  have hgg : g' = g := by have := HGG.out; simp at this; exact this.symm
  subst hgg
  have HB0 := hide ((Below.refl w.heap.size w).alloc (Nat.le_refl _) (.cells #[.slice (some ⟨g', 0, none⟩) rs.length cap] 26))
  have R0 := hide (heap_alloc_new w (.cells #[.slice (some ⟨g', 0, none⟩) rs.length cap] 26))
  have HA0 := hide (ha.below HB0.out hh)
  have HZ0 := hide (show (w.alloc (.cells #[.slice (some ⟨g', 0, none⟩) rs.length cap] 26)).heap.size = w.heap.size + 1 by simp)
  clear a3 ha hll hr HGG
  go_enter Try.func20, Try.ntmps20
  go_wp2_with fail
  refine (iok_any _ rs lo hi _ hl HLL.out (by rw [HZ0.out]; omega) HA0.out).mono ?_
  rintro e w1 ⟨rfl, hb1⟩
  rw [ho]
  have HB1 := hide (HB0.out.trans (hb1.mono HB0.out.size))
  have r1 := (hb1.block w.heap.size (by rw [HZ0.out]; omega)).trans R0.out
  have k1 := cell_of_row _ _ 0 _ _ _ r1
  simp at k1
  clear hb1 r1
  go_wp2_with fail
  refine (iat_in g' rs.length cap k _ hl hkl).mono ?_
  rintro e w2 ⟨rfl, hb2⟩
  have HB2 := hide (HB1.out.trans (hb2.mono HB1.out.size))
  clear hb2 HB1
  obtain ⟨c1, -, -⟩ := kown_cells (k := k) (t := cellOf r) HA.out.1 (by rw [List.getElem?_map, HR.out]; rfl)
  have c1 : w2.cell? ⟨g', k * 3, none⟩ = some (.bool r.1) := (HB2.out.cell hg).trans c1
  rw [hb] at c1
  go_wp2
  go_ret
  exact ⟨rfl, HB2.out⟩
set_option maxHeartbeats 400000 in
set_option maxRecDepth 100000 in
theorem iuse_no (v : Value) (rs : List Rw) (lo hi : Nat) (b : Int) (w : World) (hl : rs.length ≤ 1048576) (hll : ∀ r ∈ rs, r.2.2.2.length ≤ 1048576) (hh : hi ≤ w.heap.size) (ha : FlashIn w lo hi v rs) (hno : ¬ useP (rs.map tellOf) b) :
    Calls Try.prog 20 #[.agg #[v], .int .i64 b] w fun e w' => e = .returned (.pointer none) ∧ Below w.heap.size w w' := by
  have h1 := ha.1
  obtain ⟨ad, capa, rfl, a1, a2, a3⟩ := frow_form h1
  have HLL := hide hll
  have HA := hide ha
  have A3 := hide a3
  have HNO := hide hno
  clear a3 ha hll h1 hno
  cases ho : flOk (rs.map tellOf) with
  | false =>
    have HB0 := hide ((Below.refl w.heap.size w).alloc (Nat.le_refl _) (.cells #[.slice ad rs.length capa] 26))
    have R0 := hide (heap_alloc_new w (.cells #[.slice ad rs.length capa] 26))
    have HA0 := hide (HA.out.below HB0.out hh)
    have HZ0 := hide (show (w.alloc (.cells #[.slice ad rs.length capa] 26)).heap.size = w.heap.size + 1 by simp)
    go_enter Try.func20, Try.ntmps20
    go_wp2_with fail
    refine (iok_any _ rs lo hi _ hl HLL.out (by rw [HZ0.out]; omega) HA0.out).mono ?_
    rintro e w1 ⟨rfl, hb1⟩
    rw [ho]
    have HB1 := hide (HB0.out.trans (hb1.mono HB0.out.size))
    have r1 := (hb1.block w.heap.size (by rw [HZ0.out]; omega)).trans R0.out
    have k1 := cell_of_row _ _ 0 _ _ _ r1
    simp at k1
    clear hb1 r1
    go_wp2
    go_ret
    exact ⟨rfl, HB1.out⟩
  | true =>
    by_cases hb : 0 ≤ b ∧ b ≤ (rs.length : Int) - 1
    · obtain ⟨k, rfl⟩ : ∃ k : Nat, b = k := ⟨b.toNat, by omega⟩
      have hkl : k < rs.length := by omega
      have hr : rs[k]? = some rs[k] := List.getElem?_eq_getElem hkl
      generalize rs[k] = r at hr
      have hbad : r.1 = true := by
        cases hq : r.1 with
        | true => rfl
        | false => exact absurd (show useP (rs.map tellOf) (k : Int) from ⟨ho, by omega, tellOf r, by rw [Int.toNat_natCast, List.getElem?_map, hr]; rfl, hq⟩) HNO.out
      obtain ⟨g, rfl, hg1, hg⟩ := A3.out (by omega)
      have HR := hide hr
      have HB0 := hide ((Below.refl w.heap.size w).alloc (Nat.le_refl _) (.cells #[.slice (some ⟨g, 0, none⟩) rs.length capa] 26))
      have R0 := hide (heap_alloc_new w (.cells #[.slice (some ⟨g, 0, none⟩) rs.length capa] 26))
      have HA0 := hide (HA.out.below HB0.out hh)
      have HZ0 := hide (show (w.alloc (.cells #[.slice (some ⟨g, 0, none⟩) rs.length capa] 26)).heap.size = w.heap.size + 1 by simp)
      clear hr hb HNO
      go_enter Try.func20, Try.ntmps20
      go_wp2_with fail
      refine (iok_any _ rs lo hi _ hl HLL.out (by rw [HZ0.out]; omega) HA0.out).mono ?_
      rintro e w1 ⟨rfl, hb1⟩
      rw [ho]
      have HB1 := hide (HB0.out.trans (hb1.mono HB0.out.size))
      have r1 := (hb1.block w.heap.size (by rw [HZ0.out]; omega)).trans R0.out
      have k1 := cell_of_row _ _ 0 _ _ _ r1
      simp at k1
      clear hb1 r1
      go_wp2_with fail
      refine (iat_in g rs.length capa k _ hl hkl).mono ?_
      rintro e w2 ⟨rfl, hb2⟩
      have HB2 := hide (HB1.out.trans (hb2.mono HB1.out.size))
      clear hb2 HB1
      obtain ⟨c1, -, -⟩ := kown_cells (k := k) (t := cellOf r) HA.out.1 (by rw [List.getElem?_map, HR.out]; rfl)
      have c1 : w2.cell? ⟨g, k * 3, none⟩ = some (.bool r.1) := (HB2.out.cell hg).trans c1
      rw [hbad] at c1
      go_wp2
      go_ret
      exact ⟨rfl, HB2.out⟩
    · have HB0 := hide ((Below.refl w.heap.size w).alloc (Nat.le_refl _) (.cells #[.slice ad rs.length capa] 26))
      have R0 := hide (heap_alloc_new w (.cells #[.slice ad rs.length capa] 26))
      have HA0 := hide (HA.out.below HB0.out hh)
      have HZ0 := hide (show (w.alloc (.cells #[.slice ad rs.length capa] 26)).heap.size = w.heap.size + 1 by simp)
      go_enter Try.func20, Try.ntmps20
      go_wp2_with fail
      refine (iok_any _ rs lo hi _ hl HLL.out (by rw [HZ0.out]; omega) HA0.out).mono ?_
      rintro e w1 ⟨rfl, hb1⟩
      rw [ho]
      have HB1 := hide (HB0.out.trans (hb1.mono HB0.out.size))
      have r1 := (hb1.block w.heap.size (by rw [HZ0.out]; omega)).trans R0.out
      have k1 := cell_of_row _ _ 0 _ _ _ r1
      simp at k1
      clear hb1 r1
      go_wp2_with fail
      refine (iat_out ad rs.length capa b _ hl hb).mono ?_
      rintro e w2 ⟨rfl, hb2⟩
      have HB2 := hide (HB1.out.trans (hb2.mono HB1.out.size))
      clear hb2 HB1
      go_wp2
      go_ret
      exact ⟨rfl, HB2.out⟩
end Go.Proofs.Ythkkefbhcmhijaa
