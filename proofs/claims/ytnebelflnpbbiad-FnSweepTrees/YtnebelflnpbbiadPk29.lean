/-
  SwC; TkSw; Tk2
-/
import Derived.Test.YtnebelflnpbbiadTreeC
import Derived.Test.YtnebelflnpbbiadSwMath
import Derived.Test.YtnebelflnpbbiadPk15
import Derived.Test.YtnebelflnpbbiadTk
import Derived.Test.YtnebelflnpbbiadFlt
import Derived.Test.YtnebelflnpbbiadPk4
/-
  What a SweepArena does.
-/
namespace Go.Proofs.Ytnebelflnpbbiad
open Go.RowKit
open Words

/-- What a sweep answers: an arena and roots, in blocks apart. -/
def SweepOut (w : World) (L : List Kn) (R : List Int) (e : Ending) (w' : World) : Prop :=
  ∃ uv iv lo1 hi1 lo2 hi2, e = .returned (.tuple #[.agg #[uv], iv]) ∧ Kns lo1 hi1 uv L w' ∧ Sli 3 lo2 hi2 iv R.length (icells R) w' ∧ w.heap.size ≤ lo1 ∧ hi1 ≤ w'.heap.size ∧ w.heap.size ≤ lo2 ∧ hi2 ≤ w'.heap.size ∧ (hi1 ≤ lo2 ∨ hi2 ≤ lo1) ∧ Below w.heap.size w w'
def SweepC (f : Nat) : Prop := ∀ (ad : Option Addr) (len cap : Nat) (rs : List Kw) (ra : Option Addr) (m rc : Nat) (qs : List Int) (w : World), len ≤ 1048578 → m ≤ 1048576 → (∀ r ∈ rs, r.2.2.length ≤ 1048576) → KnRd w ad len rs → (ra = none → rc = 0) → IRow w ra m qs →
  Calls Try.prog f #[.agg #[.slice ad len cap], .slice ra m rc] w (SweepOut w (sweepL (rs.map ktell) qs) (sweepR (rs.map ktell) qs))
end Go.Proofs.Ytnebelflnpbbiad

/-
  A SweepArena over what a law holds.
-/
namespace Go.Proofs.Ytnebelflnpbbiad
open Go.RowKit
open Words

theorem sweepR_ok {L : List Kn} {R : List Int} (h : TrsOk L R) : sweepL L R = swL L R ∧ sweepR L R = R.map (swP (swU L R)) := ⟨by rw [sweepL, if_pos (swB_of h)], by rw [sweepR, if_pos (swB_of h)]⟩
theorem gsweep_tk {f : Nat} (HC : SweepC f) {w wi : World} {hs : List Hold} {c l1 h1 l2 h2 m n rc : Nat} {ad ra : Option Addr} {M : List Kn} {R : List Int} (ho : ∀ x ∈ M, x.kids.length ≤ 1048576) (T : Tk w wi hs) (n1 n2 : Nat) (hm : M.length = m) (hl : m ≤ 1048578) (hn : R.length = n) (hln : n ≤ 1048576)
    (e1 : hs[n1]? = some (l1, h1, Kns l1 h1 (.slice ad m c) M)) (e2 : hs[n2]? = some (l2, h2, Sli 3 l2 h2 (.slice ra n rc) n (icells R))) :
    Calls Try.prog f #[.agg #[.slice ad m c], .slice ra n rc] wi fun e w' => ∃ a c' na nc lo1 hi1 lo2 hi2, e = .returned (.tuple #[.agg #[.slice a (sweepL M R).length c'], .slice na n nc]) ∧ Tk w w' ((lo2, hi2, Sli 3 lo2 hi2 (.slice na n nc) n (icells (sweepR M R))) :: (lo1, hi1, Kns lo1 hi1 (.slice a (sweepL M R).length c') (sweepL M R)) :: hs) ∧ wi.heap.size ≤ lo1 ∧ wi.heap.size ≤ lo2 ∧ (hi1 ≤ lo2 ∨ hi2 ≤ lo1) ∧ wi.heap.size ≤ w'.heap.size := by
  obtain ⟨rs, hr, hx⟩ := (T.get n1 e1).rd hm (T.hi n1 e1)
  have hS : Sli 3 l2 h2 (.slice ra n rc) n (icells R) wi := T.get n2 e2
  have hI : ISl wi (.slice ra n rc) R := ISl.of (by rw [hn]; exact hS) (by rw [hn]; unfold maxLen; omega) (T.hi n2 e2)
  obtain ⟨ra', rc', e, h0, hrow⟩ := hI
  injection e with q1 q2 q3
  subst q1 q3
  rw [hn] at hrow
  refine (HC _ _ _ rs _ n _ R wi hl hln (fun x hx2 => ?_) hx h0 hrow).mono ?_
  · have : ktell x ∈ M := by rw [← hr]; exact List.mem_map.2 ⟨x, hx2, rfl⟩
    exact ho _ this
  · rw [hr]
    rintro e w' ⟨uv, iv, lo1, hi1, lo2, hi2, rfl, kn, sl, b1, b2, b3, b4, b5, hb⟩
    obtain ⟨a, c', rfl⟩ := kn.form
    rw [swR_len, hn] at sl
    obtain ⟨na, nc, rfl, -⟩ := sl.form
    exact ⟨a, c', na, nc, lo1, hi1, lo2, hi2, rfl, ((T.below hb).put b2 (Kns.loc _ _ _ _) kn).put b4 (Sli.loc _ _ _ _ _ _) sl, b1, b3, b5, hb.size⟩
theorem samel_tk {w wi : World} {hs : List Hold} {a b : Value} {l : List Int} {l1 h1 l2 h2 n : Nat} (T : Tk w wi hs) (n1 n2 : Nat) (hl : l.length = n) (hn : n ≤ 1048576) (e1 : hs[n1]? = some (l1, h1, Sli 3 l1 h1 a n (icells l))) (e2 : hs[n2]? = some (l2, h2, Sli 3 l2 h2 b n (icells l))) :
    Calls Try.prog 9 #[a, b] wi fun e w' => e = .returned (.bool true) ∧ Tk w w' hs ∧ wi.heap.size ≤ w'.heap.size := by
  refine (sameIs_same a b l n _ _ _ _ wi hl (by omega) (T.get n1 e1) (T.get n2 e2)).mono ?_
  rintro e w' ⟨rfl, hb⟩
  exact ⟨rfl, T.below hb, hb.size⟩
end Go.Proofs.Ytnebelflnpbbiad

/-
  What a law holds: a cell of a row is written, a row grows.
-/
namespace Go.Proofs.Ytnebelflnpbbiad
open Go.RowKit

/-- A cell of one of them is written. -/
theorem Tk.fset {w wi : World} {hs hs' : List Hold} {t : TypeId} {g : Nat} {xs : List Value} (T : Tk w wi hs) (n : Nat) (hn : hs[n]? = some (g, g + 1, Flt t g xs)) (hg : w.heap.size ≤ g) (k : Nat) (u : Value) (hh : ∀ x ∈ hs', x ∈ hs ∧ (x.2.1 ≤ g ∨ g + 1 ≤ x.1)) : Tk w (wi.setCell ⟨g, k, none⟩ u) ((g, g + 1, Flt t g (xs.set k u)) :: hs') := by
  refine T.touch ⟨rfl, rfl, rfl, by simp [World.setCell], fun i _ hi => ?_⟩ hg (T.hi n hn) (Flt.loc _ _ _) ((T.get n hn).set k u) hh
  exact Below.heap_setCell _ _ _ _ (show i ≠ g by unfold Apt at hi; omega)
/-- What hangs on blocks below B stays where a row from B on grows. -/
theorem Tk.grownB {w wi y : World} {hs : List Hold} {row : Option Nat} {B : Nat} (T : Tk w wi hs) (hg : wi.grownBy y row) (hr : ∀ q, row = some q → B ≤ q) (hB : w.heap.size ≤ B) (hh : ∀ x ∈ hs, x.2.1 ≤ B) : Tk w y hs := by
  refine ⟨T.1.grown hg T.1.size (fun q hq => Nat.le_trans hB (hr q hq)), fun x hx => ?_⟩
  obtain ⟨h1, h2, h3⟩ := T.2 x hx
  have := hh x hx
  have := hg.size
  exact ⟨by omega, h2, h2 wi y (fun q q1 q2 => hg.block q (by omega) (fun e => by have := hr q e.symm; omega)) h3⟩
theorem Sli.setAt {t : TypeId} {lo hi n g cap : Nat} {xs : List Value} {w : World} (h : Sli t lo hi (.slice (some ⟨g, 0, none⟩) n cap) n xs w) (k : Nat) (u : Value) : Sli t lo hi (.slice (some ⟨g, 0, none⟩) n cap) n (xs.set k u) (w.setCell ⟨g, k, none⟩ u) := by
  have hl := h.lt g rfl
  exact .inr ⟨g, cap, rfl, hl.1, hl.2.1, h.flt.set k u⟩
end Go.Proofs.Ytnebelflnpbbiad
