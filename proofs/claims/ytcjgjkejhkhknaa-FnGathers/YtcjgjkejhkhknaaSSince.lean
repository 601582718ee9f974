/-
  spec.SinceBase.
-/
import Derived.Test.YtcjgjkejhkhknaaRcApp
namespace Go.Proofs.Ytcjgjkejhkhknaa
open Go.RowKit
open Words

theorem tell_getS {rs : List Xw} {L : List TxR} (h : rs.map xtell = L.map TxR.tu) {k : Nat} {r : Xw} (hr : rs[k]? = some r) : ∃ x, L[k]? = some x ∧ xtell r = x.tu := by
  have e := congrArg (fun l => l[k]?) h
  simp only [List.getElem?_map, hr] at e
  cases hx : L[k]? with
  | none => rw [hx] at e; simp at e
  | some x => rw [hx] at e; simp at e; exact ⟨x, rfl, e⟩
theorem tell_lenX {rs : List Xw} {L : List TxR} (h : rs.map xtell = L.map TxR.tu) : rs.length = L.length := by
  have := congrArg List.length h
  simpa using this
theorem base_tell {r : Xw} {x : TxR} (h : xtell r = x.tu) : x.base = match r.2.2.2 with | [] => false | t :: _ => t.1 == 1 := by
  have e : r.2.2.2 = x.recs.map Rc.tu := congrArg (fun z => z.2.2) h
  unfold TxR.base
  rw [e]
  cases x.recs <;> rfl
theorem grown_tx {w y : World} {sc g : Nat} {cs : Array Value} (h : w.heap[sc]? = some (.cells cs 60 (0, 0))) (hg : w.grownBy y (some g)) (hn : sc ≠ g) : y.heap[sc]? = some (.cells cs 60 (0, 0)) :=
  (hg.block sc (Array.getElem?_eq_some_iff.1 h).1 (fun e => hn (Option.some.inj e))).trans h

theorem xt_new (W : World) (a b : Int) (v : Value) (g : Nat) (hg : W.heap.size = g) : ∀ (j : Nat) (u : Value), [Value.int .i64 a, Value.int .i64 b, v][j]? = some u → (W.alloc (.cells #[.int .i64 a, .int .i64 b, v] 60)).cell? ((⟨g, 0, none⟩ : Addr).add j) = some u := by
  intro j u hj
  subst hg
  match j, hj with
  | 0, hj | 1, hj | 2, hj =>
    simp at hj
    subst hj
    simp [Addr.add]
theorem xt_one (a b : Int) (va : Option Addr) (n c : Nat) : ∀ u ∈ [Value.int .i64 a, Value.int .i64 b, Value.slice va n c], u.oneCell' = true := by
  intro u hu
  simp at hu
  rcases hu with h | h | h <;> subst h <;> rfl

end Go.Proofs.Ytcjgjkejhkhknaa
