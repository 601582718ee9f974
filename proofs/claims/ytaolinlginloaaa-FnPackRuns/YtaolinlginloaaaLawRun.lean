/-
  The walk of the law on a word that is said again and again.
-/
import Derived.Test.YtaolinlginloaaaRunMath
import Derived.Test.YtaolinlginloaaaBig
import Derived.Test.YtaolinlginloaaaDPl
import Derived.Test.YtaolinlginloaaaDec
import Derived.Test.YtaolinlginloaaaIUnp
namespace Go.Proofs.Ytaolinlginloaaa
open Go.RowKit
open Pack
open Go.Lib (decDigits)

theorem dec_four (u : Nat) (h1 : 1000 ≤ u) (h2 : u < 10000) : (decDigits u).length = 4 := by
  rw [decDigits, dif_neg (by omega), List.length_append, decDigits, dif_neg (by omega), List.length_append, decDigits, dif_neg (by omega), List.length_append, decDigits, dif_pos (by omega)]
  rfl
theorem word_any (x : Int) (w : World) (h1 : 1000 ≤ x) (h2 : x < 10000) :
    Calls Try.prog 21 #[.int .i64 x] w fun e w' => ∃ wd : List UInt8, e = .returned (.string (BA wd)) ∧ wd.length = 4 ∧ Below w.heap.size w w' := by
  obtain ⟨u, rfl⟩ := Int.eq_ofNat_of_zero_le (show 0 ≤ x by omega)
  refine (specDec_pos u w (by omega) (by omega)).mono ?_
  rintro e w' ⟨rfl, hb⟩
  exact ⟨decDigits u, rfl, dec_four u (by omega) (by omega), hb⟩
theorem BA_app (a b : List UInt8) : BA a ++ BA b = BA (a ++ b) := by
  apply ByteArray.ext
  rw [ByteArray.data_append]
  apply Array.ext'
  simp [BA]

set_option maxHeartbeats 2000000 in
set_option maxRecDepth 100000 in
theorem lawRun (ad : Option Addr) (len cap : Nat) (w : World) (hd : CodeIn w ad len w.heap.size) :
    Calls Try.prog 5 #[.slice ad len cap] w fun e w' => e = .returned (.bool true) ∧ Below w.heap.size w w' := by
  have HD := hide hd
  clear hd
  by_cases hbig : (1048576 : Int) < len
  · go_enter Try.func5, Try.ntmps5
    go_wp2_with fail
    refine (big_any ad len cap _).mono ?_
    rintro e w1 ⟨rfl, rfl⟩
    rw [decide_eq_true hbig]
    go_wp2
    go_ret
    exact ⟨rfl, Below.refl _ _⟩
  · have hl : len ≤ 1048576 := by omega
    go_enter Try.func5, Try.ntmps5
    go_wp2_with fail
    refine (big_any ad len cap _).mono ?_
    rintro e w1 ⟨rfl, rfl⟩
    rw [decide_eq_false (show ¬ (1048576 : Int) < len by omega)]
    go_wp2_with fail
    refine (places_any ad len cap _ hl HD.out).mono ?_
    rintro e w2 ⟨g, cp, l, rfl, hg1, hg2, hl12, hlr, hcells, hb⟩
    obtain ⟨a, b, ha, hb2⟩ : ∃ a b, l[0]? = some a ∧ l[1]? = some b := ⟨l[0], l[1], List.getElem?_eq_getElem (by omega), List.getElem?_eq_getElem (by omega)⟩
    have c0 : w2.cell? ⟨g, 0, none⟩ = some (.int .i64 a) := by
      obtain ⟨h1, h2⟩ := List.getElem?_eq_some_iff.1 ha
      rw [hcells 0 h1, h2]
    have c1 : w2.cell? ⟨g, 1, none⟩ = some (.int .i64 b) := by
      obtain ⟨h1, h2⟩ := List.getElem?_eq_some_iff.1 hb2
      rw [hcells 1 h1, h2]
    have ra := hlr a (List.mem_of_getElem? ha)
    have rb := hlr b (List.mem_of_getElem? hb2)
    obtain ⟨ra0, ra1⟩ := ra
    obtain ⟨rb0, rb1⟩ := rb
    have HB2 := hide hb
    clear hb hlr hcells ha hb2 hl12
    go_wp2_with fail
    refine (word_any _ _ (by omega) (by omega)).mono ?_
    rintro e w3 ⟨wd, rfl, hwd, hb⟩
    have d1 : w3.cell? ⟨g, 1, none⟩ = some (.int .i64 b) := by rw [hb.cell (show g < w2.heap.size from hg2)]; exact c1
    have HB3 := hide (HB2.out.trans (hb.mono HB2.out.size))
    clear hb c0 c1
    obtain ⟨N, hN⟩ : ∃ N : Nat, (N : Int) = 5 + b % 11 := ⟨(5 + b % 11).toNat, by omega⟩
    have hN1 : 5 ≤ N ∧ N ≤ 15 := by omega
    obtain ⟨n1, n2⟩ := hN1
    have s2 : (BA wd).size = 4 := by rw [BA_size, hwd]
    have HN := hide hN
    clear hN
    go_wp2
    go_loopw [5, 6] (fun sv iv wr => ∃ k : Nat, k ≤ N ∧ sv = .string (BA (rep wd k)) ∧ iv = .int .i64 k ∧ wr = w3) (fun _ iv _ => N - (intOf iv).toNat)
    case atStart => exact ⟨0, Nat.zero_le _, rfl, rfl, rfl⟩
    case round =>
      obtain ⟨k, hk, rfl, rfl, rfl⟩ := hrel
      have s1 : (BA (rep wd k)).size = 4 * k := by rw [BA_size, rep_len wd hwd]
      by_cases hlt : (k : Int) < 5 + b % 11
      · have hkN : k < N := by have := HN.out; omega
        have happ : BA (rep wd k) ++ BA wd = BA (rep wd (k + 1)) := BA_app _ _
        go_wp2
        go_roundw
        case rel => exact ⟨k + 1, by omega, (by first | rfl | rw [happ]), by go_num, (by first | rfl | trivial)⟩
        case measure => simp [intOf]; omega
      · have hkN : k = N := by have := HN.out; omega
        have hle := rep_len wd hwd k
        obtain ⟨r1, r2⟩ := run_pack (rep wd k) (rep_per wd hwd k) (by omega) (by omega)
        obtain ⟨q, hq⟩ : ∃ q, zOf (rep wd k) = 122 :: q := ⟨_, rfl⟩
        rw [hq] at r1 r2
        obtain ⟨s, hs⟩ : ∃ s, rep wd k = s := ⟨_, rfl⟩
        rw [hs] at r1 r2 hle s1 ⊢
        have HC := hide (ipack_any (BA s))
        rw [BA_list, r1, plainV_some] at HC
        have HU := hide (iunp_any (122 :: q))
        rw [unpack_pack s _ r1, plainV_some] at HU
        have i1 := idx_of (122 :: q) 0 122 0 rfl rfl
        have hqs : (BA (122 :: q)).size = (122 :: q).length := BA_size _
        have hss : (BA s).size = s.length := BA_size _
        obtain ⟨Z, hZ⟩ : ∃ Z, (122 :: q : List UInt8) = Z := ⟨_, rfl⟩
        rw [hZ] at r2 HC HU i1 hqs
        have hlz : (Z.length : Int) < s.length := by omega
        have hzz : Z.length ≤ 100 := by omega
        have e1 : ((BA s).toList == (BA s).toList) = true := by simp
        clear hq r1 r2 hZ hs hkN s1 hle hss
        have hss : (BA s).size = s.length := BA_size _
        go_wp2_with fail
        refine (HC.out _).mono ?_
        rintro e w5 ⟨rfl, hb⟩
        have HB5 := hide (HB3.out.trans (hb.mono HB3.out.size))
        clear hb
        go_wp2_with fail
        refine (HU.out _ (by omega)).mono ?_
        rintro e w6 ⟨rfl, hb⟩
        have HB6 := hide (HB5.out.trans (hb.mono HB5.out.size))
        clear hb
        go_wp2
        go_ret
        exact ⟨rfl, HB6.out⟩
end Go.Proofs.Ytaolinlginloaaa
