/-
  The laws' own szKnotS and toKnotS.
-/
import Derived.Test.YtmpmdacfibgepagKnN
import Derived.Test.YtmpmdacfibgepagIntL
namespace Go.Proofs.Ytmpmdacfibgepag
open Go.RowKit
open Words

/-- How many children they have. -/
def ksum (l : List Kw) : Nat := (l.map (fun t => t.2.2.length)).sum
theorem ksum_succ {l : List Kw} {k : Nat} {t : Kw} (h : l[k]? = some t) : ksum (l.take (k + 1)) = ksum (l.take k) + t.2.2.length := by
  rw [List.take_add_one, h]
  simp [ksum]
theorem ksum_mem {l : List Kw} {t : Kw} (h : t ∈ l) : t.2.2.length ≤ ksum l := by
  unfold ksum
  induction l with
  | nil => cases h
  | cons q l ih =>
    rw [List.map_cons, List.sum_cons]
    rcases List.mem_cons.1 h with e | e
    · subst e; omega
    · have := ih e; omega

end Go.Proofs.Ytmpmdacfibgepag
