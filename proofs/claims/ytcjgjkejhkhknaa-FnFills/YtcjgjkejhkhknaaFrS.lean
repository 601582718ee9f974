/-
  A row of numbers that grows while blocks are looked at; three answers.
-/
import Derived.Test.YtcjgjkejhkhknaaRoMath
import Derived.Test.YtcjgjkejhkhknaaPk16
import Derived.Test.YtcjgjkejhkhknaaPk6
namespace Go.Proofs.Ytcjgjkejhkhknaa
open Go.RowKit

/-- A row of numbers that the call owns from block B on. -/
def IntsOf (w : World) (B : Nat) (u : Value) (l : List Int) : Prop := w.ownsRow B 3 1 u l.length (icells l)
/-- What a look at the blocks holds. -/
def Frs (w wr : World) (v out : Value) (l : List Int) : Prop := Below w.heap.size w wr ∧ wr.heap[w.heap.size]? = some (.cells #[v] 28 (0, 0)) ∧ IntsOf wr (w.heap.size + 1) out l
theorem Frs.below {w wr w' : World} {v out : Value} {l : List Int} (h : Frs w wr v out l) (hb : Below wr.heap.size wr w') : Frs w w' v out l :=
  ⟨h.1.trans (hb.mono h.1.size), (hb.block _ (Array.getElem?_eq_some_iff.1 h.2.1).1).trans h.2.1, own_below h.2.2 hb⟩
theorem Frs.snoc {w wr w2 : World} {v out v' : Value} {l : List Int} {x : Int} {t : TypeId} (h : Frs w wr v out l) (ho : w2.ownsRow (w.heap.size + 1) 3 1 v' (l.length + 1) (icells l ++ [.int .i64 x])) (hg : (wr.alloc (.cells #[.int .i64 x] t)).grownBy w2 out.ownBlock) : Frs w w2 v v' (l ++ [x]) := by
  have hz := h.below ((Below.refl _ _).alloc (Nat.le_refl _) (.cells #[.int .i64 x] t))
  have lt0 := (Array.getElem?_eq_some_iff.1 hz.2.1).1
  refine ⟨hz.1.grown hg hz.1.size (fun k hk => Nat.le_of_succ_le (h.2.2.lt k hk).1), (hg.block w.heap.size lt0 (fun e => ?_)).trans hz.2.1, ?_⟩
  · have := (h.2.2.lt _ e.symm).1
    omega
  · unfold IntsOf
    rw [List.length_append, ← icells_snoc]
    exact ho

/-- Three answers. -/
def plV (p : Int × Int × Bool) : Value := .tuple #[.int .i64 p.1, .int .i64 p.2.1, .bool p.2.2]
end Go.Proofs.Ytcjgjkejhkhknaa
