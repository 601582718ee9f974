/-
  What TxPages, Gather and SinceBase do.
-/
import Derived.Test.YtogfdhfmamabiaaTxN
import Derived.Test.YtogfdhfmamabiaaTxPC
import Derived.Test.YtogfdhfmamabiaaTxMath2
import Derived.Test.YtogfdhfmamabiaaFdR
namespace Go.Proofs.Ytogfdhfmamabiaa
open Go.RowKit
open Words

/-- What a Gather does. -/
def GatherC (f : Nat) : Prop := ∀ (ad : Option Addr) (len cap : Nat) (M : List Fnd) (w : World), len ≤ 1048576 → sumF (fun p => p.text.size) (M.map Fnd.page) ≤ 1048576 → FdRd w ad len M → Calls Try.prog f #[.slice ad len cap] w (TxOut w (gatherP (M.map Fnd.page)))
/-- What a SinceBase does. -/
def SinceC (f : Nat) : Prop := ∀ (ad : Option Addr) (len cap : Nat) (rs : List Xw) (L : List TxR) (w : World), len ≤ 1048576 → len ≤ cap → (∀ r ∈ rs, r.2.2.2.length ≤ 1048576) → rs.map xtell = L.map TxR.tu → TxRd w ad len rs → Calls Try.prog f #[.slice ad len cap] w (TxOut w (sinceP L))
theorem XOwn.cap {W : World} {B n c : Nat} {ad : Option Addr} {rs : List Xw} (h : XOwn W B (.slice ad n c) rs) : n ≤ c := by
  rcases h.1.2 with ⟨e, -⟩ | ⟨g, cap, cur, e, -, -, h1, -⟩
  · cases e; exact Nat.le_refl _
  · injection e with e1 e2 e3
    omega
theorem TxOut.rows {w w' : World} {L : List TxR} {e : Ending} (h : TxOut w L e w') {n : Nat} (hn : L.length = n) : ∃ (ad : Option Addr) (c : Nat) (rs : List Xw), e = .returned (.slice ad n c) ∧ rs.length = n ∧ rs.map xtell = L.map TxR.tu ∧ XOwn w' w.heap.size (.slice ad n c) rs ∧ Below w.heap.size w w' := by
  obtain ⟨uv, rs, rfl, hx, ht, hb⟩ := h
  have hl : rs.length = n := by have := congrArg List.length ht; simp only [List.length_map] at this; omega
  obtain ⟨ad, c, rfl⟩ := hx.form
  rw [hl] at hx ⊢
  exact ⟨ad, c, rs, rfl, hl, ht, hx, hb⟩
end Go.Proofs.Ytogfdhfmamabiaa
