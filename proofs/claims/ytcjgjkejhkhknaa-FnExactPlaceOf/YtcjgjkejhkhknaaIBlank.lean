/-
  (*impl.Block).blankLeaves, isFree, isOpen.
-/
import Derived.Test.YtcjgjkejhkhknaaPq3
import Derived.Test.YtcjgjkejhkhknaaPq6
namespace Go.Proofs.Ytcjgjkejhkhknaa
open Go.RowKit

set_option maxHeartbeats 400000 in
set_option maxRecDepth 100000 in
theorem iblank_any (g o : Nat) (v : Value) (ls : List (Int × ByteArray)) (B : Nat) (w : World) (hl : ls.length ≤ 1048576) (hc : w.cell? ⟨g, o + 2, none⟩ = some v) (ha : w.ownsRow B 94 2 v ls.length (lcells ls)) :
    Calls Try.prog 51 #[.pointer (some ⟨g, o, none⟩)] w fun e w' => e = .returned (.int .i64 (blanks ls : Nat)) ∧ w' = w := by
  obtain ⟨ad, capa, rfl, a1, a2, a3⟩ := frow_form ha
  unfold maxLen at a2
  have A3 := hide a3
  have HA := hide ha
  clear a3 ha
  go_enter Try.func51, Try.ntmps51
  go_wp2
  go_loop [3, 10] (fun cv iv => ∃ k m : Nat, k ≤ ls.length ∧ m ≤ k ∧ iv = .int .i64 k ∧ cv = .int .i64 m ∧ Hid (blanks (ls.take k) = m)) (fun _ iv => ls.length - (intOf iv).toNat)
  case atStart => exact ⟨0, 0, Nat.zero_le _, Nat.zero_le _, rfl, rfl, rfl⟩
  case round =>
    obtain ⟨k, m, hk, hm, rfl, rfl, HM⟩ := hrel
    by_cases hlt : (k : Int) < ls.length
    · obtain ⟨gl, rfl, _, hg⟩ := A3.out (by omega)
      have hkl : k < ls.length := by omega
      obtain ⟨z, t, ht⟩ : ∃ z t, ls[k]? = some (z, t) := ⟨ls[k].1, ls[k].2, List.getElem?_eq_getElem hkl⟩
      obtain ⟨c1, -⟩ := lown_cells HA.out ht
      simp only at c1
      have HT := hide (blanks_take ht)
      have k0 : (0 : Int) ≤ k := by omega
      clear ht
      by_cases hz : z = 0
      · subst hz
        go_wp2
        go_round
        case rel => exact ⟨k + 1, m + 1, by omega, by omega, by go_num, by go_num, (by have := HT.out; have := HM.out; simp at *; omega : blanks (ls.take (k + 1)) = m + 1)⟩
        case measure => simp [intOf]; omega
      · have hz2 : (z == 0) = false := by simpa using hz
        have HM2 : Hid (blanks (ls.take (k + 1)) = m) := by
          show _ = _
          rw [HT.out, HM.out, if_neg hz]
          rfl
        go_wp2
        go_round
        case rel => exact ⟨k + 1, m, by omega, by omega, by go_num, rfl, HM2⟩
        case measure => simp [intOf]; omega
    · have HE : Hid (blanks ls = m) := by
        show _ = _
        rw [← HM.out, List.take_of_length_le (by omega)]
      go_wp2
      go_ret
      exact ⟨by rw [HE.out]; rfl, rfl⟩

set_option maxHeartbeats 400000 in
set_option maxRecDepth 100000 in
theorem iopenb_any (g o : Nat) (x : Bool) (y : Int) (v : Value) (ls : List (Int × ByteArray)) (B : Nat) (w : World) (hl : ls.length ≤ 1048576) (h1 : w.cell? ⟨g, o, none⟩ = some (.bool x)) (hc : w.cell? ⟨g, o + 2, none⟩ = some v) (ha : w.ownsRow B 94 2 v ls.length (lcells ls)) :
    Calls Try.prog 52 #[.pointer (some ⟨g, o, none⟩)] w fun e w' => e = .returned (.bool (openB (x, y, ls))) ∧ w' = w := by
  have C := hide (iblank_any g o v ls B w hl hc ha)
  obtain ⟨ad, capa, rfl, a1, a2, -⟩ := frow_form ha
  unfold maxLen at a2
  clear ha
  have HE : Hid (openB (x, y, ls) = (!x && decide (0 < blanks ls ∧ blanks ls < ls.length))) := rfl
  have hle := blanks_le ls
  generalize blanks ls = m at C HE hle
  cases x with
  | true =>
    go_enter Try.func52, Try.ntmps52
    go_wp2_with fail
    refine C.out.mono ?_
    rintro e w1 ⟨rfl, rfl⟩
    go_wp2
    go_ret
    exact ⟨by rw [HE.out]; rfl, rfl⟩
  | false =>
    by_cases h0 : (0 : Int) < m
    · have HE2 : Hid (openB (false, y, ls) = decide (m < ls.length)) := by
        show _ = _
        rw [HE.out]
        simp only [Bool.not_false, Bool.true_and]
        congr 1
        apply propext
        omega
      clear HE
      go_enter Try.func52, Try.ntmps52
      go_wp2_with fail
      refine C.out.mono ?_
      rintro e w1 ⟨rfl, rfl⟩
      go_wp2
      go_ret
      exact ⟨by rw [HE2.out]; rfl, rfl⟩
    · have HE2 : Hid (openB (false, y, ls) = false) := by
        show _ = _
        rw [HE.out]
        simp only [Bool.not_false, Bool.true_and]
        exact decide_eq_false (by omega)
      clear HE
      go_enter Try.func52, Try.ntmps52
      go_wp2_with fail
      refine C.out.mono ?_
      rintro e w1 ⟨rfl, rfl⟩
      go_wp2
      go_ret
      exact ⟨by rw [HE2.out]; rfl, rfl⟩

set_option maxHeartbeats 400000 in
set_option maxRecDepth 100000 in
theorem ifreeb_any (g o : Nat) (x : Bool) (y : Int) (v : Value) (ls : List (Int × ByteArray)) (B : Nat) (w : World) (hl : ls.length ≤ 1048576) (h1 : w.cell? ⟨g, o, none⟩ = some (.bool x)) (hc : w.cell? ⟨g, o + 2, none⟩ = some v) (ha : w.ownsRow B 94 2 v ls.length (lcells ls)) :
    Calls Try.prog 53 #[.pointer (some ⟨g, o, none⟩)] w fun e w' => e = .returned (.bool (freeB (x, y, ls))) ∧ Below w.heap.size w w' := by
  have C : Hid (∀ n, Calls Try.prog 51 #[.pointer (some ⟨g, o, none⟩)] (w.drewN n) fun e w' => e = .returned (.int .i64 (blanks ls : Nat)) ∧ w' = w.drewN n) := fun n => iblank_any g o v ls B (w.drewN n) hl hc (own_below ha (below_drewN (Below.refl _ _) _))
  obtain ⟨ad, capa, rfl, a1, a2, -⟩ := frow_form ha
  unfold maxLen at a2
  clear ha
  have HE : Hid (freeB (x, y, ls) = (!x && decide (blanks ls = ls.length))) := rfl
  have hle := blanks_le ls
  generalize blanks ls = m at C HE hle
  cases x with
  | true =>
    go_enter Try.func53, Try.ntmps53
    go_wp2
    go_quiet (fail)
    go_wp2
    go_ret
    exact ⟨by rw [HE.out]; rfl, below_drewN (Below.refl _ _) _⟩
  | false =>
    have HE2 : Hid (freeB (false, y, ls) = ((m : Int) == (ls.length : Int))) := by
      show _ = _
      rw [HE.out]
      simp only [Bool.not_false, Bool.true_and]
      rw [Bool.eq_iff_iff]
      simp
      omega
    clear HE
    go_enter Try.func53, Try.ntmps53
    go_wp2
    go_quiet ((go_at_call 51; exact Calls.quiet_of_same (C.out _)))
    go_wp2
    go_ret
    exact ⟨by rw [HE2.out]; rfl, below_drewN (Below.refl _ _) _⟩
end Go.Proofs.Ytcjgjkejhkhknaa
