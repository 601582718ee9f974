/-
  MkPg; TkRp
-/
import Derived.Test.YtogfdhfmamabiaaPk14
import Derived.Deep.DeepCutAuto
import Derived.Deep.RegionHeld3
import Derived.Test.YtogfdhfmamabiaaPk21
import Derived.Test.YtogfdhfmamabiaaMkRc
import Derived.Test.YtogfdhfmamabiaaPk17
import Derived.Test.YtogfdhfmamabiaaPk11
/-
  Rows of pages: marked, held.
-/
namespace Go.Proofs.Ytogfdhfmamabiaa
open Go.RowKit

/-- What the cells of one element are: numbers, and texts. -/
def patPg : List Bool := [false, false, false, false, false, true]
end Go.Proofs.Ytogfdhfmamabiaa

/-
  What the laws hold: rows of records, rows of pages.
-/
namespace Go.Proofs.Ytogfdhfmamabiaa
open Go.RowKit
open Words

theorem Sli.rcrow {lo hi n c : Nat} {ad : Option Addr} {M : List (Int × Int × Int × Int)} {W : World} (h : Sli 34 lo hi (.slice ad n c) n (rccells M) W) (hn : M.length = n) (hm : n ≤ 1048576) (hh : hi ≤ W.heap.size) : RcRow W ad n M := by
  refine ⟨hn, by unfold maxLen; omega, by simp, fun h0 => ?_⟩
  rcases h with ⟨e, rfl⟩ | ⟨g, cap, e, h1, h2, h3⟩
  · omega
  · injection e with e1 e2 e3
    refine ⟨g, 0, e1, by omega, fun i t hi => ?_⟩
    have hc := fun j v hj => h3.cell (rccells_at M i t hi j v hj)
    refine ⟨?_, ?_, ?_, ?_⟩
    · simpa using hc 0 _ rfl
    · simpa using hc 1 _ rfl
    · simpa using hc 2 _ rfl
    · simpa using hc 3 _ rfl
theorem torc_tk {w wi : World} {hs : List Hold} {a : Option Addr} {len cap : Nat} {ls : List (Int × Int × Int × Int)} (T : Tk w wi hs) (H : RcRow w a len ls) (hl : len ≤ 1048576) :
    Calls Try.prog 55 #[.slice a len cap] wi fun e w' => ∃ g : Nat, e = .returned (.slice (some ⟨g, 0, none⟩) len len) ∧ Tk w w' ((wi.heap.size, w'.heap.size, Sli 34 wi.heap.size w'.heap.size (.slice (some ⟨g, 0, none⟩) len len) len (rccells ls)) :: hs) ∧ wi.heap.size ≤ w'.heap.size := by
  refine (toRcs_any a len cap ls wi hl (H.below T.1)).mono ?_
  rintro e w' ⟨g, rfl, ho, hb⟩
  rw [H.1] at ho
  exact ⟨g, rfl, T.add hb (Sli.loc _ _ _ _ _ _) (Sli.of ho), hb.size⟩
theorem eqrcs_tk {w wi : World} {hs : List Hold} {a b : Value} {M : List (Int × Int × Int × Int)} {n l1 h1 l2 h2 : Nat} (T : Tk w wi hs) (n1 n2 : Nat) (hn : M.length = n) (hM : n ≤ 1048576) (e1 : hs[n1]? = some (l1, h1, Sli 34 l1 h1 a n (rccells M))) (e2 : hs[n2]? = some (l2, h2, Sli 34 l2 h2 b n (rccells M))) :
    Calls Try.prog 56 #[a, b] wi fun e w' => e = .returned (.bool true) ∧ Tk w w' hs ∧ wi.heap.size ≤ w'.heap.size := by
  subst hn
  refine (eqRcs_same a b M l1 h1 l2 h2 wi (by omega) (T.get n1 e1) (T.get n2 e2)).mono ?_
  rintro e w' ⟨rfl, hb⟩
  exact ⟨rfl, T.below hb, hb.size⟩
theorem markrcs_tk {w wi : World} {hs hs' : List Hold} {a : Value} {M : List (Int × Int × Int × Int)} {n l1 h1 : Nat} (T : Tk w wi hs) (n1 : Nat) (hn : M.length = n) (hM : n ≤ 1048576) (hlo : w.heap.size ≤ l1) (e1 : hs[n1]? = some (l1, h1, Sli 34 l1 h1 a n (rccells M))) (hh : ∀ x ∈ hs', x ∈ hs ∧ (x.2.1 ≤ l1 ∨ h1 ≤ x.1)) :
    Calls Try.prog 39 #[a, .int .i64 1] wi fun e w' => e = .returned (.int .i64 ((1 + n * 4 : Nat) : Int)) ∧ Tk w w' hs' ∧ wi.heap.size ≤ w'.heap.size := by
  refine (markRc_any l1 h1 a n 1 (rccells M) wi (by omega) (by rw [rccells_len, hn]) (by omega) (by omega) (T.hi n1 e1) (T.get n1 e1)).mono ?_
  rintro e w' ⟨rfl, hs, hk⟩
  exact ⟨rfl, T.spoil hk.out hlo (T.hi n1 e1) hh, hk.out.2.2.2.1⟩
theorem txp_tk {f : Nat} {args : Array Value} {w wi : World} {hs : List Hold} {Q : List Pg} {ok : Bool} {M : List (Int × Int × Int × Int × Int × ByteArray)} {n : Nat} (C : Calls Try.prog f args wi (PgOut wi Q ok)) (T : Tk w wi hs) (hM : Q.map Pg.tu = M) (hn : M.length = n) :
    Calls Try.prog f args wi fun e w' => ∃ ad c, e = .returned (.tuple #[.slice ad n c, .bool ok]) ∧ Tk w w' ((wi.heap.size, w'.heap.size, Sli 40 wi.heap.size w'.heap.size (.slice ad n c) n (pgcells M)) :: hs) ∧ wi.heap.size ≤ w'.heap.size := by
  refine C.mono ?_
  rintro e w' ⟨uv, rfl, ho, hb⟩
  have el : Q.length = n := by rw [← hn, ← hM]; simp
  rw [hM, el] at ho
  have hs := Sli.of ho
  obtain ⟨ad, c, rfl, -⟩ := hs.form
  exact ⟨ad, c, rfl, T.add hb (Sli.loc _ _ _ _ _ _) hs, hb.size⟩
end Go.Proofs.Ytogfdhfmamabiaa
