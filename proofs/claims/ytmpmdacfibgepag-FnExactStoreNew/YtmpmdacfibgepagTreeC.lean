/-
  What ArenaOk, GetAt, AllAt, SharedBy, PutAt and SweepArena do.
-/
import Derived.Test.YtmpmdacfibgepagKnN
import Derived.Test.YtmpmdacfibgepagPk16
namespace Go.Proofs.Ytmpmdacfibgepag
open Go.RowKit
open Words

/-- What an ArenaOk does. -/
def ArC (f : Nat) : Prop := ∀ (ad : Option Addr) (len cap : Nat) (rs : List Kw) (w : World), len ≤ 1048578 → KnRd w ad len rs → Calls Try.prog f #[.agg #[.slice ad len cap]] w fun e w' => e = .returned (.bool (arB (rs.map ktell))) ∧ Below w.heap.size w w'
/-- What a GetAt does. -/
def GetC (f : Nat) : Prop := ∀ (ad : Option Addr) (len cap : Nat) (rs : List Kw) (r s : Int) (w : World), len ≤ 1048578 → KnRd w ad len rs → Calls Try.prog f #[.agg #[.slice ad len cap], .int .i64 r, .int .i64 s] w fun e w' => e = .returned (.int .i64 (getT (rs.map ktell) r s)) ∧ Below w.heap.size w w'
/-- What a SharedBy does. -/
def ShareC (f : Nat) : Prop := ∀ (ad : Option Addr) (len cap : Nat) (rs : List Kw) (r s : Int) (w : World), len ≤ 1048578 → KnRd w ad len rs → Calls Try.prog f #[.agg #[.slice ad len cap], .int .i64 r, .int .i64 s] w fun e w' => e = .returned (.int .i64 (shareT (rs.map ktell) r s)) ∧ Below w.heap.size w w'
/-- What an AllAt does. -/
def AllC (f : Nat) : Prop := ∀ (ad : Option Addr) (len cap : Nat) (rs : List Kw) (r : Int) (w : World), len ≤ 1048578 → KnRd w ad len rs → Calls Try.prog f #[.agg #[.slice ad len cap], .int .i64 r] w (IOut w (allT (rs.map ktell) r))
/-- What a PutAt does. -/
def PutC (f : Nat) : Prop := ∀ (ad : Option Addr) (len cap : Nat) (rs : List Kw) (r s n : Int) (w : World), len ≤ 1048578 → (∀ r ∈ rs, r.2.2.length ≤ 1048576) → KnRd w ad len rs → Calls Try.prog f #[.agg #[.slice ad len cap], .int .i64 r, .int .i64 s, .int .i64 n] w (PutOut w (putL (rs.map ktell) r s n) (putR (rs.map ktell) r s n))
theorem Kns.rd {W : World} {lo hi n c : Nat} {ad : Option Addr} {M : List Kn} (h : Kns lo hi (.slice ad n c) M W) (hn : M.length = n) (hh : hi ≤ W.heap.size) : ∃ rs, rs.map ktell = M ∧ KnRd W ad n rs := by
  obtain ⟨rs, e, hx⟩ := h
  exact ⟨rs, e, hx.rd (by rw [← hn, ← e, List.length_map]) hh⟩
end Go.Proofs.Ytmpmdacfibgepag
