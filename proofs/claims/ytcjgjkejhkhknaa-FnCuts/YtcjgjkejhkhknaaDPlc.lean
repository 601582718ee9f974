/-
  spec.l01Place.
-/
import Derived.Test.YtcjgjkejhkhknaaPq2
import Derived.Test.YtcjgjkejhkhknaaPq30
import Derived.Test.YtcjgjkejhkhknaaPq92
namespace Go.Proofs.Ytcjgjkejhkhknaa
open Go.RowKit

set_option maxHeartbeats 800000 in
set_option maxRecDepth 100000 in
theorem place_any (n : Int) (p : Nat) (ad : Option Addr) (len cap B : Nat) (w : World) (h0 : 0 ≤ n) (hn : n ≤ 1000000000) (hl : len ≤ 1048576) (hc : CurIn w p ad len cap) (hd : CodeIn w ad len B) (hB : B ≤ p) :
    Calls Try.prog 56 #[.pointer (some ⟨p, 0, none⟩), .int .i64 n] w fun e w' => ∃ x : Int, e = .returned (.int .i64 x) ∧ Drawn w w' p ad len cap := by
  have hpw := hc.2.2.2.2.2
  have HC := hide hc
  have HD := hide hd
  have hw1 : IntKind.i64.wrap (n + 1) = n + 1 := by rw [IntKind.wrap_i64]; omega
  clear hc hd
  go_enter Try.func56, Try.ntmps56
  go_wp2_with fail
  refine (once_any 15 p ad len cap B w (by omega) hl HC.out HD.out hB).mono ?_
  rintro e w1 ⟨q, rfl, d1⟩
  have D1 := hide d1
  have HD1 := hide (d1.code HD.out hB hpw)
  have hp1 : p < w1.heap.size := d1.2.2.2.2.2.2
  clear d1
  cases q with
  | false =>
    go_wp2_with fail
    refine (below_any n p ad len cap B w1 (by omega) hl D1.out.2 HD1.out hB).mono ?_
    rintro e w2 ⟨x, rfl, -, -, -, d2⟩
    have D2 := hide (D1.out.trans d2)
    clear d2
    go_wp2
    go_ret
    exact ⟨_, rfl, D2.out⟩
  | true =>
    have bA := (Below.refl w1.heap.size w1).alloc (Nat.le_refl _) (.cells #[.int .i64 (-1), .int .i64 n, .int .i64 (n + 1), .int .i64 9223372036854775807, .int .i64 (-9223372036854775808)] 3)
    have DA := hide (D1.out.below (bA.mono D1.out.1.size) hpw)
    have CP := hide (pickInt_any w1.heap.size [-1, n, n + 1, 9223372036854775807, -9223372036854775808] p ad len cap B (w1.alloc (.cells #[.int .i64 (-1), .int .i64 n, .int .i64 (n + 1), .int .i64 9223372036854775807, .int .i64 (-9223372036854775808)] 3)) (by simp) (by simp) (by omega) (fun j hj => by
      match j, hj with
      | 0, _ => exact cell_of_row _ _ 0 _ _ _ (heap_alloc_new w1 _)
      | 1, _ => exact cell_of_row _ _ 1 _ _ _ (heap_alloc_new w1 _)
      | 2, _ => exact cell_of_row _ _ 2 _ _ _ (heap_alloc_new w1 _)
      | 3, _ => exact cell_of_row _ _ 3 _ _ _ (heap_alloc_new w1 _)
      | 4, _ => exact cell_of_row _ _ 4 _ _ _ (heap_alloc_new w1 _)) hl DA.out.2 (DA.out.code HD.out hB hpw) hB)
    clear bA
    go_wp2_with fail
    refine CP.out.mono ?_
    rintro e w2 ⟨x, rfl, d2⟩
    have D2 := hide (DA.out.trans d2)
    clear d2 CP
    go_wp2
    go_ret
    exact ⟨_, rfl, D2.out⟩
end Go.Proofs.Ytcjgjkejhkhknaa
