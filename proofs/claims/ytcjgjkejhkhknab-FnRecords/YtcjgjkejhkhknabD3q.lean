/-
  The draw of one of some numbers: which it may be.
-/
import Derived.Test.YtcjgjkejhkhknabD2
namespace Go.Proofs.Ytcjgjkejhkhknab
open Go.RowKit

set_option maxHeartbeats 400000 in
theorem pickIn_any (g : Nat) (ls : List Int) (p : Nat) (ad : Option Addr) (len cap B : Nat) (w : World) (h0 : 0 < ls.length) (h1 : ls.length ≤ 1000) (hg : g ≠ p)
    (hcells : ∀ j, j < ls.length → w.cell? ⟨g, j, none⟩ = some (.int .i64 (ls.getD j 0))) (hl : len ≤ 1048576) (hc : CurIn w p ad len cap) (hd : CodeIn w ad len B) (hB : B ≤ p) :
    Calls Try.prog 33 #[.pointer (some ⟨p, 0, none⟩), .slice (some ⟨g, 0, none⟩) ls.length ls.length] w fun e w' => ∃ x : Int, e = .returned (.int .i64 x) ∧ Hid (x ∈ ls) ∧ Drawn w w' p ad len cap := by
  have HC := hide hc
  have HD := hide hd
  have HL := hide hcells
  clear hc hd hcells
  go_enter Try.func33, Try.ntmps33
  go_wp2_with fail
  refine (below_any (ls.length : Int) p ad len cap B _ (by omega) hl HC.out HD.out hB).mono ?_
  rintro e w1 ⟨x, rfl, x0, x1, _, D1⟩
  have x2 := x1 (by omega)
  obtain ⟨j, rfl⟩ := Int.eq_ofNat_of_zero_le x0
  have hcw := HL.out j (by omega)
  have hgw : g < w.heap.size := World.block_lt_of_cell? w _ hcw
  have hc1 : w1.cell? ⟨g, j, none⟩ = some (.int .i64 (ls.getD j 0)) := by
    rw [World.cell?_of_block (w := w) (D1.1.block g hgw (by simpa using hg))]; exact hcw
  have hmem : Hid (ls.getD j 0 ∈ ls) := by
    show _ ∈ _
    rw [List.getD_eq_getElem?_getD, List.getElem?_eq_getElem (by omega)]
    exact List.getElem_mem _
  obtain ⟨y, hy⟩ : ∃ y, ls.getD j 0 = y := ⟨_, rfl⟩
  rw [hy] at hc1 hmem
  have HD1 := hide D1
  clear D1 hcw hy x1
  go_wp2
  go_ret
  exact ⟨y, rfl, hmem, HD1.out⟩
end Go.Proofs.Ytcjgjkejhkhknab
