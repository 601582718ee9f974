/-
  TreeC; SwC; TkGs
-/
import Derived.Test.YtnebelflnpbbiarKnN
import Derived.Test.YtnebelflnpbbiarSAll
import Derived.Test.YtnebelflnpbbiarSwMath
import Derived.Test.YtnebelflnpbbiarTk
/-
  What ArenaOk, GetAt, AllAt, SharedBy, PutAt and SweepArena do.
-/
namespace Go.Proofs.Ytnebelflnpbbiar
open Go.RowKit
open Words

/-- What an ArenaOk does. -/
def ArC (f : Nat) : Prop := ∀ (ad : Option Addr) (len cap : Nat) (rs : List Kw) (w : World), len ≤ 1048578 → KnRd w ad len rs → Calls Try.prog f #[.agg #[.slice ad len cap]] w fun e w' => e = .returned (.bool (arB (rs.map ktell))) ∧ Below w.heap.size w w'
/-- What a GetAt does. -/
def GetC (f : Nat) : Prop := ∀ (ad : Option Addr) (len cap : Nat) (rs : List Kw) (r s : Int) (w : World), len ≤ 1048578 → KnRd w ad len rs → Calls Try.prog f #[.agg #[.slice ad len cap], .int .i64 r, .int .i64 s] w fun e w' => e = .returned (.int .i64 (getT (rs.map ktell) r s)) ∧ Below w.heap.size w w'
/-- What a SharedBy does. -/
def ShareC (f : Nat) : Prop := ∀ (ad : Option Addr) (len cap : Nat) (rs : List Kw) (r s : Int) (w : World), len ≤ 1048578 → KnRd w ad len rs → Calls Try.prog f #[.agg #[.slice ad len cap], .int .i64 r, .int .i64 s] w fun e w' => e = .returned (.int .i64 (shareT (rs.map ktell) r s)) ∧ Below w.heap.size w w'
/-- What an AllAt does. -/
def AllC (f : Nat) : Prop := ∀ (ad : Option Addr) (len cap : Nat) (rs : List Kw) (r : Int) (w : World), len ≤ 1048578 → KnRd w ad len rs → Calls Try.prog f #[.agg #[.slice ad len cap], .int .i64 r] w (IOut w (allT (rs.map ktell) r))
/-- What a PutAt does. -/
def PutC (f : Nat) : Prop := ∀ (ad : Option Addr) (len cap : Nat) (rs : List Kw) (r s n : Int) (w : World), len ≤ 1048578 → (∀ r ∈ rs, r.2.2.length ≤ 1048576) → KnRd w ad len rs → Calls Try.prog f #[.agg #[.slice ad len cap], .int .i64 r, .int .i64 s, .int .i64 n] w (PutOut w (putL (rs.map ktell) r s n) (putR (rs.map ktell) r s n))
theorem Kns.rd {W : World} {lo hi n c : Nat} {ad : Option Addr} {M : List Kn} (h : Kns lo hi (.slice ad n c) M W) (hn : M.length = n) (hh : hi ≤ W.heap.size) : ∃ rs, rs.map ktell = M ∧ KnRd W ad n rs := by
  obtain ⟨rs, e, hx⟩ := h
  exact ⟨rs, e, hx.rd (by rw [← hn, ← e, List.length_map]) hh⟩
end Go.Proofs.Ytnebelflnpbbiar

/-
  What a SweepArena does.
-/
namespace Go.Proofs.Ytnebelflnpbbiar
open Go.RowKit
open Words

/-- What a sweep answers: an arena and roots, in blocks apart. -/
def SweepOut (w : World) (L : List Kn) (R : List Int) (e : Ending) (w' : World) : Prop :=
  ∃ uv iv lo1 hi1 lo2 hi2, e = .returned (.tuple #[.agg #[uv], iv]) ∧ Kns lo1 hi1 uv L w' ∧ Sli 3 lo2 hi2 iv R.length (icells R) w' ∧ w.heap.size ≤ lo1 ∧ hi1 ≤ w'.heap.size ∧ w.heap.size ≤ lo2 ∧ hi2 ≤ w'.heap.size ∧ (hi1 ≤ lo2 ∨ hi2 ≤ lo1) ∧ Below w.heap.size w w'
def SweepC (f : Nat) : Prop := ∀ (ad : Option Addr) (len cap : Nat) (rs : List Kw) (ra : Option Addr) (m rc : Nat) (qs : List Int) (w : World), len ≤ 1048578 → m ≤ 1048576 → (∀ r ∈ rs, r.2.2.length ≤ 1048576) → KnRd w ad len rs → (ra = none → rc = 0) → IRow w ra m qs →
  Calls Try.prog f #[.agg #[.slice ad len cap], .slice ra m rc] w (SweepOut w (sweepL (rs.map ktell) qs) (sweepR (rs.map ktell) qs))
end Go.Proofs.Ytnebelflnpbbiar

/-
  A SweepArena over what a law holds, of whatever roots.
-/
namespace Go.Proofs.Ytnebelflnpbbiar
open Go.RowKit
open Words

theorem gsw_tk {f : Nat} (HC : SweepC f) {w wi : World} {hs : List Hold} {c l1 h1 l2 h2 m n rc : Nat} {ad ra : Option Addr} {M : List Kn} {R : List Int} (ho : ∀ x ∈ M, x.kids.length ≤ 1048576) (T : Tk w wi hs) (n1 n2 : Nat) (hm : M.length = m) (hl : m ≤ 1048578) (hn : R.length = n) (hln : n ≤ 1048576)
    (e1 : hs[n1]? = some (l1, h1, Kns l1 h1 (.slice ad m c) M)) (e2 : hs[n2]? = some (l2, h2, Sli 3 l2 h2 (.slice ra n rc) n (icells R))) :
    Calls Try.prog f #[.agg #[.slice ad m c], .slice ra n rc] wi fun e w' => ∃ a c' na nc lo1 hi1 lo2 hi2, e = .returned (.tuple #[.agg #[.slice a (sweepL M R).length c'], .slice na n nc]) ∧ Tk w w' ((lo2, hi2, Sli 3 lo2 hi2 (.slice na n nc) n (icells (sweepR M R))) :: (lo1, hi1, Kns lo1 hi1 (.slice a (sweepL M R).length c') (sweepL M R)) :: hs) ∧ wi.heap.size ≤ lo1 ∧ wi.heap.size ≤ lo2 ∧ (hi1 ≤ lo2 ∨ hi2 ≤ lo1) ∧ wi.heap.size ≤ w'.heap.size := by
  obtain ⟨rs, hr, hx⟩ := (T.get n1 e1).rd hm (T.hi n1 e1)
  have hS : Sli 3 l2 h2 (.slice ra n rc) n (icells R) wi := T.get n2 e2
  have hI : ISl wi (.slice ra n rc) R := ISl.of (by rw [hn]; exact hS) (by rw [hn]; unfold maxLen; omega) (T.hi n2 e2)
  obtain ⟨ra', rc', e, h0, hrow⟩ := hI
  injection e with q1 q2 q3
  subst q1 q3
  rw [hn] at hrow
  refine (HC _ _ _ rs _ n _ R wi hl hln (fun x hx2 => ?_) hx h0 hrow).mono ?_
  · have : ktell x ∈ M := by rw [← hr]; exact List.mem_map.2 ⟨x, hx2, rfl⟩
    exact ho _ this
  · rw [hr]
    rintro e w' ⟨uv, iv, lo1, hi1, lo2, hi2, rfl, kn, sl, b1, b2, b3, b4, b5, hb⟩
    obtain ⟨a, c', rfl⟩ := kn.form
    rw [swR_len, hn] at sl
    obtain ⟨na, nc, rfl, -⟩ := sl.form
    exact ⟨a, c', na, nc, lo1, hi1, lo2, hi2, rfl, ((T.below hb).put b2 (Kns.loc _ _ _ _) kn).put b4 (Sli.loc _ _ _ _ _ _) sl, b1, b3, b5, hb.size⟩
end Go.Proofs.Ytnebelflnpbbiar
