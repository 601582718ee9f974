/-
  spec.l05May.
-/
import Derived.Test.YthkkefbhcmhijaaSNext
import Derived.Test.YthkkefbhcmhijaaPq13
import Derived.Test.YthkkefbhcmhijaaFOf
namespace Go.Proofs.Ythkkefbhcmhijaa
open Go.RowKit

theorem mayP_out {bs : List Bk} {b leaf : Int} {t : ByteArray} (h : ¬ (0 ≤ b ∧ b ≤ (bs.length : Int) - 1)) : mayP bs b leaf t = false := by
  unfold mayP
  cases hb : bs[b.toNat]? with
  | none => rfl
  | some r =>
    have := (List.getElem?_eq_some_iff.1 hb).1
    exact decide_eq_false (fun hh => h ⟨hh.1, by omega⟩)
theorem mayP_in {bs : List Bk} {b leaf : Int} {t : ByteArray} {r : Bk} (h0 : 0 ≤ b) (hr : bs[b.toNat]? = some r) : mayP bs b leaf t = decide (r.1 = false ∧ leaf < 4 ∧ leaf = nextB r.2.2 ∧ 1 ≤ t.size ∧ t.size ≤ 120) := by
  unfold mayP
  rw [hr]
  simp [h0]

set_option maxHeartbeats 800000 in
set_option maxRecDepth 100000 in
theorem smay_rd (v : Value) (rs : List Rw) (b leaf : Int) (t : ByteArray) (w : World) (hl : rs.length ≤ 1048576) (hll : ∀ r ∈ rs, r.2.2.2.length ≤ 1048576) (ha : FlashRd w v rs) :
    Calls Try.prog 41 #[.agg #[v], .int .i64 b, .int .i64 leaf, .string t] w fun e w' => e = .returned (.bool (mayP (rs.map tellOf) b leaf t)) ∧ Below w.heap.size w w' := by
  have ha1 := ha
  obtain ⟨ad, capa, rfl, -, -⟩ := ha1
  have HLL := hide hll
  have HB := hide ((Below.refl w.heap.size w).alloc (Nat.le_refl _) (.cells #[.slice ad rs.length capa] 26))
  have HA := hide (ha.below HB.out)
  have hw1 : IntKind.i64.wrap ((rs.length : Int) - 1) = (rs.length : Int) - 1 := by rw [IntKind.wrap_i64]; omega
  clear ha hll
  by_cases hb : 0 ≤ b ∧ b ≤ (rs.length : Int) - 1
  · have hbd : decide (0 ≤ b ∧ b ≤ (rs.length : Int) - 1) = true := decide_eq_true hb
    obtain ⟨k, rfl⟩ : ∃ k : Nat, b = k := ⟨b.toNat, by omega⟩
    have hkl : k < rs.length := by omega
    have hr : rs[k]? = some rs[k] := List.getElem?_eq_getElem hkl
    generalize rs[k] = r at hr
    have hmem := List.mem_of_getElem? hr
    have hrl := HLL.out r hmem
    obtain ⟨g, eg, ⟨c1, c2, c3⟩, hlf⟩ := HA.out.at hr
    subst eg
    obtain ⟨x, y, u, ls⟩ := r
    simp only at c1 c2 c3
    simp only at hlf hrl
    have HM := hide (mayP_in (bs := rs.map tellOf) (leaf := leaf) (t := t) (r := (x, y, ls)) hb.1 (by rw [List.getElem?_map, Int.toNat_natCast, hr]; rfl))
    have hlf2 := hlf
    obtain ⟨ld, capl, rfl, -, -⟩ := hlf2
    have HLF := hide hlf
    have k0 : (0 : Int) ≤ k := by omega
    clear hr hmem hlf hb
    cases x with
    | true =>
      have HE : Hid (mayP (rs.map tellOf) k leaf t = false) := HM.out.trans (decide_eq_false (by simp))
      go_enter Try.func41, Try.ntmps41
      go_wp2_with fail
      refine (sin_any (k : Int) 0 ((rs.length : Int) - 1) _).mono ?_
      rintro e w1 ⟨rfl, rfl⟩
      rw [hbd]
      clear hbd
      go_wp2
      go_ret
      exact ⟨by rw [HE.out]; rfl, HB.out⟩
    | false =>
      by_cases hl4 : leaf < 4
      · have hl4b : decide (leaf < 4) = true := decide_eq_true hl4
        go_enter Try.func41, Try.ntmps41
        go_wp2_with fail
        refine (sin_any (k : Int) 0 ((rs.length : Int) - 1) _).mono ?_
        rintro e w1 ⟨rfl, rfl⟩
        rw [hbd]
        clear hbd
        go_wp2_with fail
        refine (snext_rd false y _ ls _ hrl HLF.out).mono ?_
        rintro e w2 ⟨rfl, b2⟩
        have HB2 := hide (HB.out.trans (b2.mono HB.out.size))
        clear b2
        by_cases hn : leaf = nextB ls
        · have hnb : (leaf == (nextB ls : Int)) = true := by simp [hn]
          have HE : Hid (mayP (rs.map tellOf) k leaf t = decide ((1 : Int) ≤ t.size ∧ (t.size : Int) ≤ 120)) := by
            show _ = _
            rw [HM.out]
            congr 1
            apply propext
            constructor
            · intro hh
              exact ⟨by have := hh.2.2.2.1; omega, by have := hh.2.2.2.2; omega⟩
            · intro hh
              exact ⟨by trivial, hl4, hn, by omega, by omega⟩
          clear hn
          go_wp2_with fail
          refine (sin_any (t.size : Int) 1 120 _).mono ?_
          rintro e w3 ⟨rfl, rfl⟩
          rw [← HE.out]
          clear HE
          go_wp2
          go_ret
          exact ⟨rfl, HB2.out⟩
        · have hnb : (leaf == (nextB ls : Int)) = false := by simpa using hn
          have HE : Hid (mayP (rs.map tellOf) k leaf t = false) := HM.out.trans (decide_eq_false (fun hh => hn hh.2.2.1))
          clear hn
          go_wp2
          go_ret
          exact ⟨by rw [HE.out]; rfl, HB2.out⟩
      · have hl4b : decide (leaf < 4) = false := decide_eq_false hl4
        have HE : Hid (mayP (rs.map tellOf) k leaf t = false) := HM.out.trans (decide_eq_false (fun hh => hl4 hh.2.1))
        go_enter Try.func41, Try.ntmps41
        go_wp2_with fail
        refine (sin_any (k : Int) 0 ((rs.length : Int) - 1) _).mono ?_
        rintro e w1 ⟨rfl, rfl⟩
        rw [hbd]
        clear hbd
        go_wp2
        go_ret
        exact ⟨by rw [HE.out]; rfl, HB.out⟩
  · have hbd : decide (0 ≤ b ∧ b ≤ (rs.length : Int) - 1) = false := decide_eq_false hb
    have HE : Hid (mayP (rs.map tellOf) b leaf t = false) := mayP_out (by rw [List.length_map]; exact hb)
    clear hb
    go_enter Try.func41, Try.ntmps41
    go_wp2_with fail
    refine (sin_any b 0 ((rs.length : Int) - 1) _).mono ?_
    rintro e w1 ⟨rfl, rfl⟩
    rw [hbd]
    clear hbd
    go_wp2
    go_ret
    exact ⟨by rw [HE.out]; rfl, HB.out⟩
theorem smay_any (v : Value) (rs : List Rw) (lo hi : Nat) (b leaf : Int) (t : ByteArray) (w : World) (hl : rs.length ≤ 1048576) (hll : ∀ r ∈ rs, r.2.2.2.length ≤ 1048576) (_hh : hi ≤ w.heap.size) (ha : FlashIn w lo hi v rs) :
    Calls Try.prog 41 #[.agg #[v], .int .i64 b, .int .i64 leaf, .string t] w fun e w' => e = .returned (.bool (mayP (rs.map tellOf) b leaf t)) ∧ Below w.heap.size w w' := smay_rd v rs b leaf t w hl hll ha.rd
end Go.Proofs.Ythkkefbhcmhijaa
