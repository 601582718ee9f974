/-
  impl.ReadLeaf.
-/
import Derived.Test.YthkkefbhcmhijaaReadM
import Derived.Test.YthkkefbhcmhijaaFOf
import Derived.Test.YthkkefbhcmhijaaIAt
import Derived.Test.YthkkefbhcmhijaaPq34
import Derived.Test.YthkkefbhcmhijaaRd
namespace Go.Proofs.Ythkkefbhcmhijaa
open Go.RowKit

set_option maxHeartbeats 400000 in
set_option maxRecDepth 100000 in
theorem iread_rd (v : Value) (rs : List Rw) (b leaf : Int) (w : World) (hl : rs.length ≤ 1048576) (hll : ∀ r ∈ rs, r.2.2.2.length ≤ 1048576) (htx : TxB rs) (ha : FlashRd w v rs) :
    Calls Try.prog 12 #[.agg #[v], .int .i64 b, .int .i64 leaf] w fun e w' => e = .returned (.tuple #[.string (readF (rs.map tellOf) b leaf).1, .bool (readF (rs.map tellOf) b leaf).2]) ∧ Below w.heap.size w w' := by
  have h1 := ha
  obtain ⟨vd, vcap, rfl, -⟩ := h1
  have HLL := hide hll
  have HTX := hide htx
  have HB0 := hide ((Below.refl w.heap.size w).alloc (Nat.le_refl _) (.cells #[.slice vd rs.length vcap] 26))
  have HA := hide (ha.below HB0.out)
  clear ha hll htx
  go_enter Try.func12, Try.ntmps12
  go_wp2_with fail
  generalize w.alloc (.cells #[.slice vd rs.length vcap] 26) = w2 at HB0 HA ⊢
  by_cases hb : 0 ≤ b ∧ b ≤ (rs.length : Int) - 1
  · obtain ⟨k, rfl⟩ : ∃ k : Nat, b = k := ⟨b.toNat, by omega⟩
    have hkl : k < rs.length := by omega
    have hr : rs[k]? = some rs[k] := List.getElem?_eq_getElem hkl
    generalize rs[k] = r at hr
    obtain ⟨g, eg, -, -⟩ := HA.out.at hr
    subst eg
    refine (iat_in g rs.length vcap k _ hl hkl).mono ?_
    rintro e w3 ⟨rfl, b3⟩
    have HA3 := hide (HA.out.below b3)
    have HB3 := hide (HB0.out.trans (b3.mono HB0.out.size))
    have hmem := List.mem_of_getElem? hr
    have hrl := HLL.out r hmem
    have htx := HTX.out r hmem
    obtain ⟨g', eg, ⟨-, -, c3⟩, hlf⟩ := HA3.out.at hr
    injection eg with eg
    injection eg with eg
    subst eg
    have HBR : Hid ((rs.map tellOf)[k]? = some (tellOf r)) := by show _ = _; rw [List.getElem?_map, hr]; rfl
    obtain ⟨x, y, u, ls⟩ := r
    simp only at c3
    simp only at hlf hrl htx
    obtain ⟨ld, capl, rfl, -, l3⟩ := hlf
    have L3 := hide l3
    have HTX2 := hide htx
    clear hr hmem l3 hb b3 htx
    by_cases hf : 0 ≤ leaf ∧ leaf ≤ (ls.length : Int) - 1
    · obtain ⟨j, rfl⟩ : ∃ j : Nat, leaf = j := ⟨leaf.toNat, by omega⟩
      have hjl : j < ls.length := by omega
      obtain ⟨z, t, ht⟩ : ∃ z t, ls[j]? = some (z, t) := ⟨ls[j].1, ls[j].2, List.getElem?_eq_getElem hjl⟩
      obtain ⟨gl, lo, el, d1, d2⟩ := L3.out j (z, t) ht
      subst el
      simp only at d1 d2
      have hts := HTX2.out _ (List.mem_of_getElem? ht)
      simp only at hts
      have RI := hide (read_in (t := (z, t)) HBR.out ht)
      clear ht hf
      go_wp2_with fail
      refine (ilat_off g (k * 3) gl lo ls.length capl j _ hrl hjl c3).mono ?_
      rintro e w4 ⟨rfl, rfl⟩
      by_cases hz : z = 1
      · have HP : Hid (readF (rs.map tellOf) (k : Int) (j : Int) = (t, true)) := RI.out.1 hz
        have e1 : (z != 1) = false := by simp [hz]
        clear hz
        go_wp2_with fail
        refine (fclone_any t _ hts).mono ?_
        rintro e w5 ⟨rfl, b5⟩
        have HB5 := hide (HB3.out.trans (b5.mono HB3.out.size))
        clear b5
        go_wp2
        go_ret2
        exact ⟨by rw [HP.out]; rfl, HB5.out⟩
      · have HP : Hid (readF (rs.map tellOf) (k : Int) (j : Int) = (⟨#[]⟩, false)) := RI.out.2 hz
        have e1 : (z != 1) = true := by simp [hz]
        clear hz
        go_wp2
        go_ret2
        exact ⟨by rw [HP.out]; rfl, HB3.out⟩
    · have HP : Hid (readF (rs.map tellOf) (k : Int) leaf = (⟨#[]⟩, false)) := read_leaf_out HBR.out hf
      go_wp2_with fail
      refine (ilat_out g (k * 3) ls.length capl ld leaf _ hrl hf c3).mono ?_
      rintro e w4 ⟨rfl, rfl⟩
      clear hf
      go_wp2
      go_ret2
      exact ⟨by rw [HP.out]; rfl, HB3.out⟩
  · have HP : Hid (readF (rs.map tellOf) b leaf = (⟨#[]⟩, false)) := read_out (by rw [List.length_map]; exact hb)
    refine (iat_out vd rs.length vcap b _ hl hb).mono ?_
    rintro e w3 ⟨rfl, b3⟩
    have HB3 := hide (HB0.out.trans (b3.mono HB0.out.size))
    clear hb b3
    go_wp2
    go_ret2
    exact ⟨by rw [HP.out]; rfl, HB3.out⟩
theorem iread_any (v : Value) (rs : List Rw) (lo hi : Nat) (b leaf : Int) (w : World) (hl : rs.length ≤ 1048576) (hll : ∀ r ∈ rs, r.2.2.2.length ≤ 1048576) (htx : TxB rs) (_hh : hi ≤ w.heap.size) (ha : FlashIn w lo hi v rs) :
    Calls Try.prog 12 #[.agg #[v], .int .i64 b, .int .i64 leaf] w fun e w' => e = .returned (.tuple #[.string (readF (rs.map tellOf) b leaf).1, .bool (readF (rs.map tellOf) b leaf).2]) ∧ Below w.heap.size w w' := iread_rd v rs b leaf w hl hll htx ha.rd
end Go.Proofs.Ythkkefbhcmhijaa
