/-
  LawTwoF; Code
-/
import Derived.Test.YtogfdhfmamabiaaLawTwo
import Derived.Test.YtogfdhfmamabiaaITxP
import Derived.Test.YtogfdhfmamabiaaIGath
import Derived.Test.YtogfdhfmamabiaaISince
import Derived.Test.YtogfdhfmamabiaaDraw
/-
  FnTwoTx.
-/
namespace Go.Proofs.Ytogfdhfmamabiaa
open Go.RowKit
open Words

theorem lawTwo (ad : Option Addr) (len cap : Nat) (w : World) (hd : CodeIn w ad len w.heap.size) :
    Calls Try.prog 4 #[.slice ad len cap] w fun e w' => e = .returned (.bool true) ∧ Below w.heap.size w w' :=
  lawTwo_of ad len cap w hd itxPages igather isince
end Go.Proofs.Ytogfdhfmamabiaa

/-
  Bytes that came in as an argument, as the draws take them.
-/
namespace Go.Proofs.Ytogfdhfmamabiaa
open Go.RowKit

/-- A row of bytes that came in: nil, or cells that hold them. -/
def ByteRow (w : World) (a : Option Addr) (len cap : Nat) (zs : List Int) : Prop :=
  (a = none ∧ len = 0 ∧ cap = 0 ∧ zs = []) ∨
  ∃ x, a = some x ∧ len ≤ cap ∧ cap ≤ maxLen ∧ zs.length = cap ∧ (∀ i, i < zs.length → w.cell? (x.add i) = some (.int .u8 (zs.getD i 0))) ∧ ∀ n ∈ zs, (Lit.int .u8 n).wf = true
theorem addr_off (b off j : Nat) : (⟨b, off, none⟩ : Addr).add j = ⟨b, off + j, none⟩ := by
  simp only [Addr.add]
  split <;> simp_all
theorem code_of_row {w : World} {a : Option Addr} {len cap : Nat} {zs : List Int} (h : ByteRow w a len cap zs) : CodeIn w a len w.heap.size := by
  intro j hj
  rcases h with ⟨_, h2, _⟩ | ⟨x, rfl, h2, _, h4, h5, h6⟩
  · omega
  · obtain ⟨b, off, spot⟩ := x
    have hc := h5 j (by omega)
    have hspot : spot = none := by simpa [Addr.add] using World.cell?_spot (h5 0 (by omega))
    subst hspot
    rw [addr_off] at hc
    have hm : zs.getD j 0 ∈ zs := by
      rw [List.getD_eq_getElem?_getD, List.getElem?_eq_getElem (by omega)]
      exact List.getElem_mem _
    have hw : 0 ≤ zs.getD j 0 ∧ zs.getD j 0 ≤ 255 := by simpa [Lit.wf, IntKind.min, IntKind.max, IntKind.signed, IntKind.bits] using h6 _ hm
    refine ⟨b, off, rfl, World.block_lt_of_cell? w _ hc, (zs.getD j 0).toNat, by omega, ?_⟩
    rw [hc]
    congr 2
    omega
end Go.Proofs.Ytogfdhfmamabiaa
