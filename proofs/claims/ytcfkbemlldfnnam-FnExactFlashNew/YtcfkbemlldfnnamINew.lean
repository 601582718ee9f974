/-
  impl.FlashNew.
-/
import Derived.Test.YtcfkbemlldfnnamISmall
import Derived.Test.YtcfkbemlldfnnamCopyM
import Derived.Test.YtcfkbemlldfnnamMake4
import Derived.Test.YtcfkbemlldfnnamFPut
namespace Go.Proofs.Ytcfkbemlldfnnam
open Go.RowKit

def none0 : Rw := (false, 0, .slice none 0 0, [])
theorem madeB (n : Nat) (h1 : 3 ≤ n) (h2 : n ≤ 10) : (madeCells #[Value.bool false, Value.int .i64 0, Value.slice none 0 0] (n * 3)).toList = kcells ((List.replicate n none0).map cellOf) := by
  have : n = 3 ∨ n = 4 ∨ n = 5 ∨ n = 6 ∨ n = 7 ∨ n = 8 ∨ n = 9 ∨ n = 10 := by omega
  rcases this with rfl | rfl | rfl | rfl | rfl | rfl | rfl | rfl <;> simp [madeCells] <;> rfl
set_option maxHeartbeats 800000 in
set_option maxRecDepth 100000 in
theorem inew_any (n : Int) (w : World) :
    Calls Try.prog 23 #[.int .i64 n] w fun e w' => ∃ u, e = .returned (.tuple #[.agg #[u], .bool (decide (3 ≤ n ∧ n ≤ 10))]) ∧ FlashOf w' w.heap.size u (newF n) ∧ Below w.heap.size w w' := by
  obtain ⟨i0, hi, hz0, hz1, hz2⟩ := info_parts infoBlock
  have hb0 := (Below.refl w.heap.size w).alloc (Nat.le_refl _) (.cells #[.slice none 0 0] 36)
  have HB0 := hide hb0
  have R0 := hide (heap_alloc_new w (.cells #[.slice none 0 0] 36))
  have HZ := hide (show (w.alloc (.cells #[.slice none 0 0] 36)).heap.size = w.heap.size + 1 by simp)
  clear hb0
  generalize hq : decide (3 ≤ n ∧ n ≤ 10) = bb
  by_cases hc : 3 ≤ n ∧ n ≤ 10
  · obtain ⟨m, rfl⟩ : ∃ m : Nat, n = m := ⟨n.toNat, by omega⟩
    have hcd : decide (3 ≤ (m : Int) ∧ (m : Int) ≤ 10) = true := decide_eq_true hc
    obtain rfl : bb = true := hq.symm.trans hcd
    clear hq
    have hm1 : 3 ≤ m := by omega
    have hm2 : m ≤ 10 := by omega
    have hm0 : (0 : Int) ≤ m := by omega
    clear hc
    go_enter Try.func23, Try.ntmps23
    go_wp2_with fail
    refine (icount_any (m : Int) _).mono ?_
    rintro e w1 ⟨rfl, rfl⟩
    rw [hcd]
    clear hcd
    generalize w.alloc (.cells #[.slice none 0 0] 36) = w1 at HB0 R0 HZ ⊢
    go_wp2_with (at_make; refine wpList_make_full _ rfl _ _ 34 rfl w1.heap.size 71 i0 (.agg #[.bool false, .int .i64 0, .slice none 0 0]) 3 Try.underlying34 hi hz0 hz1 .i64 .i64 _ _ m rfl rfl rfl rfl (by rw [hz2]; omega) (by unfold maxLen; omega) (Nat.le_refl _) ?_)
    intro w2 hown hgrow
    rw [madeB m hm1 hm2] at hown
    have HC1 : Hid (CopyI w1.heap.size w2 (.slice (some ⟨w1.heap.size, 0, none⟩) m m) (List.replicate m none0) []) := CopyI.start (by rw [List.length_replicate]; exact hown)
    have HB1 := hide ((Below.refl w1.heap.size w1).grown hgrow (Nat.le_refl _) (fun k hk => by cases hk))
    clear hown hgrow
    go_wp2
    go_loopw [14] (fun iv wr => ∃ (k : Nat) (d : List Rw), k ≤ m ∧ iv = .int .i64 k ∧ Hid (d.length = k) ∧ Hid (d.map tellOf = List.replicate k (false, 0, blank4)) ∧ Hid (CopyI w1.heap.size wr (.slice (some ⟨w1.heap.size, 0, none⟩) m m) (List.replicate m none0) d) ∧ Hid (Below w1.heap.size w1 wr)) (fun iv _ => m - (intOf iv).toNat)
    case atStart => exact ⟨0, [], Nat.zero_le _, rfl, rfl, rfl, HC1, HB1⟩
    case round =>
      obtain ⟨k, d, hk, rfl, HD, HT, HS, HW⟩ := hrel
      have hsz := HW.out.size
      by_cases hlt : (k : Int) < m
      · have k0 : (0 : Int) ≤ k := by omega
        have HR : Hid ((List.replicate m none0)[d.length]? = some none0) := by show _ = _; rw [List.getElem?_replicate, if_pos (by have := HD.out; omega)]
        obtain ⟨j0, hj, hy0, hy1, hy2⟩ := info_parts infoLeaf
        go_wp2_with (at_make; refine wpList_make_full _ rfl _ _ 69 rfl wr.heap.size 77 j0 (.agg #[.int .i64 0, .string ⟨#[]⟩]) 2 Try.underlying69 hj hy0 hy1 .i64 .i64 _ _ 4 rfl rfl rfl rfl (by rw [hy2]; omega) (by unfold maxLen; omega) (Nat.le_refl _) ?_)
        intro w3 hown3 hgrow3
        have ho3 : w3.ownsRow wr.heap.size 77 2 (.slice (some ⟨wr.heap.size, 0, none⟩) 4 4) blank4.length (lcells blank4) := by
          have := congrArg Array.toList made4
          rw [this] at hown3
          exact hown3
        have hb3 := (Below.refl wr.heap.size wr).grown hgrow3 (Nat.le_refl _) (fun k hk => by cases hk)
        have o3 := HS.out.below hb3
        obtain ⟨-, -, c3⟩ := o3.at (by simp) HR.out
        have o31 := o3.1
        rw [List.length_replicate] at o31
        have f3 := o31.frozenAt (d.length * 3 + 2)
        have o6 := CopyI.step (x := false) (y := 0) (u0 := .slice none 0 0) (ls0 := []) HS.out (by simp) HR.out hb3 ho3 hsz
        have HB6 := hide ((HW.out.trans (hb3.mono hsz)).setCell (p := ⟨w1.heap.size, k * 3 + 2, none⟩) (Nat.le_refl _) (.slice (some ⟨wr.heap.size, 0, none⟩) 4 4))
        rw [HD.out] at c3 f3 o6
        simp only [none0] at c3
        have O6 := hide o6
        clear o3 o31 o6 hb3 ho3 hown3 hgrow3
        go_wp2
        go_roundw
        case rel => exact ⟨k + 1, _, by omega, by go_num, (by show _ = _; rw [List.length_append, HD.out]; rfl), (by show _ = _; rw [List.map_append, HT.out, List.replicate_succ']; rfl), O6, HB6⟩
        case measure => simp [intOf]; omega
      · have hke : k = m := by omega
        have hf := HS.out.done (by rw [List.length_replicate, HD.out]; exact hke)
        have hz := HZ.out
        have q0 := (HW.out.block w.heap.size (by omega)).trans R0.out
        have c0 : wr.cell? ⟨w.heap.size, 0, none⟩ = some (.slice none 0 0) := cell_of_row _ _ 0 _ _ _ q0
        have f0 := frozen_of_row _ _ 0 _ _ q0
        have Q0 := hide (row_set q0 0 (.slice (some ⟨w1.heap.size, 0, none⟩) m m))
        have HN : Hid (newF (m : Int) = d.map tellOf) := by
          show _ = _
          unfold newF
          rw [if_pos (by omega), HT.out, hke]
          rfl
        have G := hide (FlashOf.cell (show FlashOf wr w1.heap.size _ (d.map tellOf) from ⟨d, rfl, hf⟩) (show w.heap.size < w1.heap.size by omega) 0 (.slice (some ⟨w1.heap.size, 0, none⟩) m m))
        have HBE := hide ((HB0.out.trans (HW.out.mono (by omega))).setCell (p := ⟨w.heap.size, 0, none⟩) (Nat.le_refl _) (.slice (some ⟨w1.heap.size, 0, none⟩) m m))
        clear hke hf hz q0
        go_wp2
        exact bodyPost_ret (results_flash2 rfl _ _ w.heap.size _ rfl Q0.out) rfl ⟨_, rfl, by rw [HN.out]; exact G.out.down (by have := HZ.out; omega), HBE.out⟩
  · have hcd : decide (3 ≤ n ∧ n ≤ 10) = false := decide_eq_false hc
    have HN : Hid (newF n = []) := by show _ = _; unfold newF; rw [if_neg hc]
    obtain rfl : bb = false := hq.symm.trans hcd
    clear hc hq
    go_enter Try.func23, Try.ntmps23
    go_wp2_with fail
    refine (icount_any n _).mono ?_
    rintro e w1 ⟨rfl, rfl⟩
    rw [hcd]
    clear hcd
    have c0 : (w.alloc (.cells #[.slice none 0 0] 36)).cell? ⟨w.heap.size, 0, none⟩ = some (.slice none 0 0) := cell_of_row _ _ 0 _ _ _ R0.out
    have f0 := frozen_of_row _ _ 0 _ _ R0.out
    go_wp2
    exact bodyPost_ret (results_flash2 rfl _ _ w.heap.size _ rfl R0.out) rfl ⟨_, rfl, by rw [HN.out]; exact ⟨[], rfl, ⟨rfl, .inl ⟨rfl, rfl⟩⟩, fun g hg => (by cases hg), fun r hr => (by cases hr), List.Pairwise.nil⟩, HB0.out⟩
end Go.Proofs.Ytcfkbemlldfnnam
