/-
  What the laws hold: rows of records, rows of pages.
-/
import Derived.Test.YtcjgjkejhkhknaaPq56
import Derived.Test.YtcjgjkejhkhknaaMkRc
import Derived.Test.YtcjgjkejhkhknaaMkPg
import Derived.Test.YtcjgjkejhkhknaaPq52
import Derived.Test.YtcjgjkejhkhknaaTk
namespace Go.Proofs.Ytcjgjkejhkhknaa
open Go.RowKit
open Words

theorem Sli.rcrow {lo hi n c : Nat} {ad : Option Addr} {M : List (Int × Int × Int × Int)} {W : World} (h : Sli 63 lo hi (.slice ad n c) n (rccells M) W) (hn : M.length = n) (hm : n ≤ 1048576) (hh : hi ≤ W.heap.size) : RcRow W ad n M := by
  refine ⟨hn, by unfold maxLen; omega, by simp, fun h0 => ?_⟩
  rcases h with ⟨e, rfl⟩ | ⟨g, cap, e, h1, h2, h3⟩
  · omega
  · injection e with e1 e2 e3
    refine ⟨g, 0, e1, by omega, fun i t hi => ?_⟩
    have hc := fun j v hj => h3.cell (rccells_at M i t hi j v hj)
    refine ⟨?_, ?_, ?_, ?_⟩
    · simpa using hc 0 _ rfl
    · simpa using hc 1 _ rfl
    · simpa using hc 2 _ rfl
    · simpa using hc 3 _ rfl
theorem txp_tk {f : Nat} {args : Array Value} {w wi : World} {hs : List Hold} {Q : List Pg} {ok : Bool} {M : List (Int × Int × Int × Int × Int × ByteArray)} {n : Nat} (C : Calls Try.prog f args wi (PgOut wi Q ok)) (T : Tk w wi hs) (hM : Q.map Pg.tu = M) (hn : M.length = n) :
    Calls Try.prog f args wi fun e w' => ∃ ad c, e = .returned (.tuple #[.slice ad n c, .bool ok]) ∧ Tk w w' ((wi.heap.size, w'.heap.size, Sli 69 wi.heap.size w'.heap.size (.slice ad n c) n (pgcells M)) :: hs) ∧ wi.heap.size ≤ w'.heap.size := by
  refine C.mono ?_
  rintro e w' ⟨uv, rfl, ho, hb⟩
  have el : Q.length = n := by rw [← hn, ← hM]; simp
  rw [hM, el] at ho
  have hs := Sli.of ho
  obtain ⟨ad, c, rfl, -⟩ := hs.form
  exact ⟨ad, c, rfl, T.add hb (Sli.loc _ _ _ _ _ _) hs, hb.size⟩
end Go.Proofs.Ytcjgjkejhkhknaa
