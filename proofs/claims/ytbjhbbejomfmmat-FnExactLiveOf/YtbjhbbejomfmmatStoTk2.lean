/-
  What the laws hold: rows of numbers and of records, great ones too.
-/
import Derived.Test.YtbjhbbejomfmmatStoTk
import Derived.Test.YtbjhbbejomfmmatPk32
import Derived.Test.YtbjhbbejomfmmatMkRc
namespace Go.Proofs.Ytbjhbbejomfmmat
open Go.RowKit
open Words

theorem eqiw_tk {w wi : World} {hs : List Hold} {a b : Value} {l : List Int} {n l1 h1 l2 h2 : Nat} (T : Tk w wi hs) (n1 n2 : Nat) (hn : l.length = n) (hm : n ≤ 100000000) (e1 : hs[n1]? = some (l1, h1, IsH l1 h1 a n l)) (e2 : hs[n2]? = some (l2, h2, IsH l2 h2 b n l)) :
    Calls Try.prog 13 #[a, b] wi fun e w' => e = .returned (.bool true) ∧ Tk w w' hs ∧ wi.heap.size ≤ w'.heap.size := by
  refine (eqIs_same a b l n l1 h1 l2 h2 wi hn (by omega) (T.get n1 e1) (T.get n2 e2)).mono ?_
  rintro e w' ⟨rfl, hb⟩
  exact ⟨rfl, T.below hb, hb.size⟩
theorem markiw_tk {w wi : World} {hs hs' : List Hold} {a : Value} {l : List Int} {n m l1 h1 : Nat} (T : Tk w wi hs) (n1 : Nat) (hn : l.length = n) (hn2 : n ≤ 100000000) (hm : 1 + n = m) (hlo : w.heap.size ≤ l1) (e1 : hs[n1]? = some (l1, h1, IsH l1 h1 a n l)) (hh : ∀ x ∈ hs', x ∈ hs ∧ (x.2.1 ≤ l1 ∨ h1 ≤ x.1)) :
    Calls Try.prog 16 #[a, .int .i64 1] wi fun e w' => e = .returned (.int .i64 (m : Int)) ∧ Tk w w' ((l1, h1, IsM l1 h1 a n) :: hs') ∧ wi.heap.size ≤ w'.heap.size := by
  have hx : Sli 3 l1 h1 a n (icells l) wi := T.get n1 e1
  refine (markIs_any l1 h1 a n 1 (icells l) wi (by omega) (by simp [icells, hn]) (by omega) (by omega) hx).mono ?_
  rintro e w' ⟨rfl, hs2, hk⟩
  rw [hm]
  have hk2 : Kept2 wi w' (Apt l1 h1) := ⟨hk.out.1, hk.out.2.1, hk.out.2.2.1, hk.out.2.2.2.1, fun i hi ho => hk.out.2.2.2.2 i hi (fun e => by
    have := hx.lt i e
    exact ho ⟨this.1, this.2.1⟩)⟩
  exact ⟨rfl, T.touch hk2 hlo (T.hi n1 e1) (IsM.loc _ _ _ _) hs2.out hh, hk.out.2.2.2.1⟩
theorem heldiw_tk {w wi : World} {hs : List Hold} {a : Value} {n m l1 h1 : Nat} (T : Tk w wi hs) (n1 : Nat) (hn2 : n ≤ 100000000) (hm : 1 + n = m) (e1 : hs[n1]? = some (l1, h1, IsM l1 h1 a n)) :
    Calls Try.prog 17 #[a, .int .i64 1] wi fun e w' => e = .returned (.int .i64 (m : Int)) ∧ Tk w w' hs ∧ wi.heap.size ≤ w'.heap.size := by
  refine (heldIs_any l1 h1 a n 1 wi (by omega) (by omega) (by omega) (T.get n1 e1)).mono ?_
  rintro e w' ⟨rfl, hb⟩
  rw [hm]
  exact ⟨rfl, T.below hb, hb.size⟩
/-- A row of records in the blocks lo to hi; marked. -/
def RcH (lo hi : Nat) (v : Value) (n : Nat) (l : List Rc) : World → Prop := Sli 79 lo hi v n (rccells (l.map Rc.tu))
theorem RcH.loc (lo hi : Nat) (v : Value) (n : Nat) (l : List Rc) : Loc lo hi (RcH lo hi v n l) := Sli.loc _ _ _ _ _ _
def RcM (lo hi : Nat) (v : Value) (n : Nat) : World → Prop := Sli 79 lo hi v n (mkFlat patRc 1 n)
theorem RcM.loc (lo hi : Nat) (v : Value) (n : Nat) : Loc lo hi (RcM lo hi v n) := Sli.loc _ _ _ _ _ _
theorem eqrw_tk {w wi : World} {hs : List Hold} {a b : Value} {l : List Rc} {n l1 h1 l2 h2 : Nat} (T : Tk w wi hs) (n1 n2 : Nat) (hn : l.length = n) (hM : n ≤ 100000000) (e1 : hs[n1]? = some (l1, h1, RcH l1 h1 a n l)) (e2 : hs[n2]? = some (l2, h2, RcH l2 h2 b n l)) :
    Calls Try.prog 20 #[a, b] wi fun e w' => e = .returned (.bool true) ∧ Tk w w' hs ∧ wi.heap.size ≤ w'.heap.size := by
  have x1 : Sli 79 l1 h1 a n (rccells (l.map Rc.tu)) wi := T.get n1 e1
  have x2 : Sli 79 l2 h2 b n (rccells (l.map Rc.tu)) wi := T.get n2 e2
  have hn2 : n = (l.map Rc.tu).length := by rw [List.length_map, hn]
  rw [hn2] at x1 x2 hM
  refine (eqRcs_same a b (l.map Rc.tu) l1 h1 l2 h2 wi (by omega) x1 x2).mono ?_
  rintro e w' ⟨rfl, hb⟩
  exact ⟨rfl, T.below hb, hb.size⟩
theorem markrw_tk {w wi : World} {hs hs' : List Hold} {a : Value} {l : List Rc} {n m l1 h1 : Nat} (T : Tk w wi hs) (n1 : Nat) (hn : l.length = n) (hM : n ≤ 100000000) (hm : 1 + n * 4 = m) (hlo : w.heap.size ≤ l1) (e1 : hs[n1]? = some (l1, h1, RcH l1 h1 a n l)) (hh : ∀ x ∈ hs', x ∈ hs ∧ (x.2.1 ≤ l1 ∨ h1 ≤ x.1)) :
    Calls Try.prog 21 #[a, .int .i64 1] wi fun e w' => e = .returned (.int .i64 (m : Int)) ∧ Tk w w' ((l1, h1, RcM l1 h1 a n) :: hs') ∧ wi.heap.size ≤ w'.heap.size := by
  refine (markRc_any l1 h1 a n 1 (rccells (l.map Rc.tu)) wi (by omega) (by rw [rccells_len, List.length_map, hn]) (by omega) (by omega) (T.hi n1 e1) (T.get n1 e1)).mono ?_
  rintro e w' ⟨rfl, hs, hk⟩
  rw [hm]
  exact ⟨rfl, T.touch hk.out hlo (T.hi n1 e1) (RcM.loc _ _ _ _) hs.out hh, hk.out.2.2.2.1⟩
theorem heldrw_tk {w wi : World} {hs : List Hold} {a : Value} {n m l1 h1 : Nat} (T : Tk w wi hs) (n1 : Nat) (hM : n ≤ 100000000) (hm : 1 + n * 4 = m) (e1 : hs[n1]? = some (l1, h1, RcM l1 h1 a n)) :
    Calls Try.prog 22 #[a, .int .i64 1] wi fun e w' => e = .returned (.int .i64 (m : Int)) ∧ Tk w w' hs ∧ wi.heap.size ≤ w'.heap.size := by
  refine (heldRc_any l1 h1 a n 1 wi (by omega) (by omega) (by omega) (T.hi n1 e1) (T.get n1 e1)).mono ?_
  rintro e w' ⟨rfl, hb⟩
  rw [hm]
  exact ⟨rfl, T.below hb, hb.size⟩
end Go.Proofs.Ytbjhbbejomfmmat
