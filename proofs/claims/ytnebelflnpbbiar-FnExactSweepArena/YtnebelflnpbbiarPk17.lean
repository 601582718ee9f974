/-
  TkI2; SIn
-/
import Derived.Test.YtnebelflnpbbiarTkKn
import Derived.Test.YtnebelflnpbbiarKnTo
import Derived.Test.YtnebelflnpbbiarSwMath
import Derived.Test.YtnebelflnpbbiarBase
/-
  What the laws hold: rows of numbers with marks from any number on; what a sweep leaves is within the laws' measure.
-/
namespace Go.Proofs.Ytnebelflnpbbiar
open Go.RowKit
open Words

/-- A row of numbers with the marks from k on. -/
def IsK (lo hi : Nat) (v : Value) (n k : Nat) : World → Prop := Sli 3 lo hi v n (mkFlat patI k n)
theorem IsK.loc (lo hi : Nat) (v : Value) (n k : Nat) : Loc lo hi (IsK lo hi v n k) := Sli.loc _ _ _ _ _ _
theorem tois_tk {w wi : World} {hs : List Hold} {a : Option Addr} {n cap : Nat} {l : List Int} (T : Tk w wi hs) (H : IRow w a n l) (hn : n ≤ 1048576) :
    Calls Try.prog 28 #[.slice a n cap] wi fun e w' => ∃ g : Nat, e = .returned (.slice (some ⟨g, 0, none⟩) n n) ∧ Tk w w' ((wi.heap.size, w'.heap.size, Sli 3 wi.heap.size w'.heap.size (.slice (some ⟨g, 0, none⟩) n n) n (icells l)) :: hs) ∧ wi.heap.size ≤ w'.heap.size := by
  refine (toIs_any a n cap l wi hn (H.below T.1)).mono ?_
  rintro e w' ⟨g, rfl, ho, hb⟩
  rw [H.1] at ho
  exact ⟨g, rfl, T.add hb (Sli.loc _ _ _ _ _ _) (Sli.of ho), hb.size⟩
theorem eqi_tk {w wi : World} {hs : List Hold} {a b : Value} {l : List Int} {n l1 h1 l2 h2 : Nat} (T : Tk w wi hs) (n1 n2 : Nat) (hn : l.length = n) (hm : n ≤ 1048576) (e1 : hs[n1]? = some (l1, h1, Sli 3 l1 h1 a n (icells l))) (e2 : hs[n2]? = some (l2, h2, Sli 3 l2 h2 b n (icells l))) :
    Calls Try.prog 22 #[a, b] wi fun e w' => e = .returned (.bool true) ∧ Tk w w' hs ∧ wi.heap.size ≤ w'.heap.size := by
  refine (eqIs_same a b l n l1 h1 l2 h2 wi hn (by omega) (T.get n1 e1) (T.get n2 e2)).mono ?_
  rintro e w' ⟨rfl, hb⟩
  exact ⟨rfl, T.below hb, hb.size⟩
theorem marki_tk {w wi : World} {hs hs' : List Hold} {a : Value} {l : List Int} {n k m l1 h1 : Nat} (T : Tk w wi hs) (n1 : Nat) (hn : l.length = n) (hn2 : n ≤ 1048576) (hk0 : 0 < k) (hk : k ≤ 1000000000) (hm : k + n = m) (hlo : w.heap.size ≤ l1) (e1 : hs[n1]? = some (l1, h1, Sli 3 l1 h1 a n (icells l))) (hh : ∀ x ∈ hs', x ∈ hs ∧ (x.2.1 ≤ l1 ∨ h1 ≤ x.1)) :
    Calls Try.prog 23 #[a, .int .i64 (k : Int)] wi fun e w' => e = .returned (.int .i64 (m : Int)) ∧ Tk w w' ((l1, h1, IsK l1 h1 a n k) :: hs') ∧ wi.heap.size ≤ w'.heap.size := by
  have hx : Sli 3 l1 h1 a n (icells l) wi := T.get n1 e1
  refine (markIs_any l1 h1 a n k (icells l) wi (by omega) (by simp [icells, hn]) hk0 (by omega) hx).mono ?_
  rintro e w' ⟨rfl, hs2, hk⟩
  rw [hm]
  have hk2 : Kept2 wi w' (Apt l1 h1) := ⟨hk.out.1, hk.out.2.1, hk.out.2.2.1, hk.out.2.2.2.1, fun i hi ho => hk.out.2.2.2.2 i hi (fun e => by
    have := hx.lt i e
    exact ho ⟨this.1, this.2.1⟩)⟩
  exact ⟨rfl, T.touch hk2 hlo (T.hi n1 e1) (IsK.loc _ _ _ _ _) hs2.out hh, hk.out.2.2.2.1⟩
theorem heldi_tk {w wi : World} {hs : List Hold} {a : Value} {n k m l1 h1 : Nat} (T : Tk w wi hs) (n1 : Nat) (hn2 : n ≤ 1048576) (hk0 : 0 < k) (hk : k ≤ 1000000000) (hm : k + n = m) (e1 : hs[n1]? = some (l1, h1, IsK l1 h1 a n k)) :
    Calls Try.prog 24 #[a, .int .i64 (k : Int)] wi fun e w' => e = .returned (.int .i64 (m : Int)) ∧ Tk w w' hs ∧ wi.heap.size ≤ w'.heap.size := by
  refine (heldIs_any l1 h1 a n k wi (by omega) hk0 (by omega) (T.get n1 e1)).mono ?_
  rintro e w' ⟨rfl, hb⟩
  rw [hm]
  exact ⟨rfl, T.below hb, hb.size⟩
theorem kkids_four {l : List Kn} (h : ∀ x ∈ l, x.kids.length = 4) : kkids l = 4 * l.length := by
  unfold kkids
  induction l with
  | nil => rfl
  | cons a l ih =>
    rw [List.map_cons, List.sum_cons, ih (fun x hx => h x (List.mem_cons_of_mem _ hx)), h a (List.mem_cons.2 (.inl rfl)), List.length_cons]
    omega
theorem arB_four {l : List Kn} (h : arB l = true) : ∀ x ∈ l, x.kids.length = 4 := fun x hx => by
  obtain ⟨i, hi⟩ := List.getElem?_of_mem hx
  exact knB_len (arB_at h hi)
/-- What is swept is no more than there was. -/
theorem sweep_ok {M : List Kn} {R : List Int} (h1 : M.length ≤ 1048576) (h2 : kkids M ≤ 1048576) : OkK (sweepL M R) := by
  unfold sweepL
  split
  · rename_i hb
    have ht := swB_ok hb
    have e1 := kkids_four (arB_four ht.1)
    have e2 := kkids_four (arB_four (sw_right ht))
    have := sw_less (l := M) (rs := R)
    exact OkK.of (by omega) (by omega)
  · exact OkK.of h1 h2
theorem kend_pos (M : List Kn) : 0 < kend 1 M := by rw [kend_eq]; omega
end Go.Proofs.Ytnebelflnpbbiar

/-
  spec.l01In.
-/
namespace Go.Proofs.Ytnebelflnpbbiar
open Go.RowKit
set_option maxHeartbeats 400000 in
set_option maxRecDepth 100000 in
theorem sin_b (x lo hi : Int) (b : Bool) (w : World) (h : (lo ≤ x ∧ x ≤ hi ∧ b = true) ∨ ((x < lo ∨ lo ≤ x ∧ ¬ x ≤ hi) ∧ b = false)) :
    Calls Try.prog 31 #[.int .i64 x, .int .i64 lo, .int .i64 hi] w fun e w' => e = .returned (.bool b) ∧ w' = w := by
  rcases h with ⟨h1, h2, rfl⟩ | ⟨h1 | ⟨h1, h2⟩, rfl⟩
  all_goals
    go_enter Try.func31, Try.ntmps31
    go_wp2
    go_ret
    exact ⟨rfl, rfl⟩
theorem sin_any (x lo hi : Int) (w : World) :
    Calls Try.prog 31 #[.int .i64 x, .int .i64 lo, .int .i64 hi] w fun e w' => e = .returned (.bool (decide (lo ≤ x ∧ x ≤ hi))) ∧ w' = w := by
  apply sin_b
  by_cases h : lo ≤ x ∧ x ≤ hi
  · exact .inl ⟨h.1, h.2, decide_eq_true h⟩
  · exact .inr ⟨by omega, decide_eq_false h⟩
end Go.Proofs.Ytnebelflnpbbiar
