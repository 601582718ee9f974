/-
  Big; SIn; FMath
-/
import Derived.Test.YtcjgjkejhkhknaaBase
import Derived.Test.YtcjgjkejhkhknaaFRow
import Derived.Test.YtcjgjkejhkhknaaFlP
/-
  The laws' own look at a code that is too long.
-/
namespace Go.Proofs.Ytcjgjkejhkhknaa
open Go.RowKit

theorem big_any (ad : Option Addr) (len cap : Nat) (w : World) :
    Calls Try.prog 9 #[.slice ad len cap] w fun e w' => e = .returned (.bool (decide ((1048576 : Int) < len))) ∧ w' = w := by
  by_cases h : (1048576 : Int) < len
  all_goals
    go_enter Try.func9, Try.ntmps9
    go_wp2
    go_ret
    exact ⟨by simp [h], rfl⟩
end Go.Proofs.Ytcjgjkejhkhknaa

/-
  spec.l01In.
-/
namespace Go.Proofs.Ytcjgjkejhkhknaa
open Go.RowKit
set_option maxHeartbeats 400000 in
set_option maxRecDepth 100000 in
theorem sin_b (x lo hi : Int) (b : Bool) (w : World) (h : (lo ≤ x ∧ x ≤ hi ∧ b = true) ∨ ((x < lo ∨ lo ≤ x ∧ ¬ x ≤ hi) ∧ b = false)) :
    Calls Try.prog 43 #[.int .i64 x, .int .i64 lo, .int .i64 hi] w fun e w' => e = .returned (.bool b) ∧ w' = w := by
  rcases h with ⟨h1, h2, rfl⟩ | ⟨h1 | ⟨h1, h2⟩, rfl⟩
  all_goals
    go_enter Try.func43, Try.ntmps43
    go_wp2
    go_ret
    exact ⟨rfl, rfl⟩
theorem sin_any (x lo hi : Int) (w : World) :
    Calls Try.prog 43 #[.int .i64 x, .int .i64 lo, .int .i64 hi] w fun e w' => e = .returned (.bool (decide (lo ≤ x ∧ x ≤ hi))) ∧ w' = w := by
  apply sin_b
  by_cases h : lo ≤ x ∧ x ≤ hi
  · exact .inl ⟨h.1, h.2, decide_eq_true h⟩
  · exact .inr ⟨by omega, decide_eq_false h⟩
end Go.Proofs.Ytcjgjkejhkhknaa

/-
  What chapter 5 says of flashes, in plain words.
-/
namespace Go.Proofs.Ytcjgjkejhkhknaa

/-- No text of these is too long for the program. -/
def Tx (ls : List (Int × ByteArray)) : Prop := ∀ t ∈ ls, t.2.size ≤ 1048576
def TxB (rs : List Rw) : Prop := ∀ r ∈ rs, Tx r.2.2.2
theorem Tx.succ {ls : List (Int × ByteArray)} {k : Nat} {t : Int × ByteArray} (h : Tx (ls.take k)) (ht : ls[k]? = some t) (hs : t.2.size ≤ 1048576) : Tx (ls.take (k + 1)) := by
  obtain ⟨h1, h2⟩ := List.getElem?_eq_some_iff.1 ht
  rw [List.take_succ_eq_append_getElem h1, h2]
  intro u hu
  rcases List.mem_append.1 hu with hu | hu
  · exact h u hu
  · rw [List.mem_singleton] at hu
    subst hu
    exact hs
theorem TxB.succ {rs : List Rw} {k : Nat} {r : Rw} (h : TxB (rs.take k)) (hr : rs[k]? = some r) (hs : Tx r.2.2.2) : TxB (rs.take (k + 1)) := by
  obtain ⟨h1, h2⟩ := List.getElem?_eq_some_iff.1 hr
  rw [List.take_succ_eq_append_getElem h1, h2]
  intro u hu
  rcases List.mem_append.1 hu with hu | hu
  · exact h u hu
  · rw [List.mem_singleton] at hu
    subst hu
    exact hs
end Go.Proofs.Ytcjgjkejhkhknaa
