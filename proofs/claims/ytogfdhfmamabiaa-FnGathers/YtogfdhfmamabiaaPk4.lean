/-
  RcMath; SIn
-/
import Derived.Test.YtogfdhfmamabiaaPgMath
import Derived.Test.YtogfdhfmamabiaaPk0
/-
  Plain facts on records and the bytes that they are written in: no Go in them.
-/
namespace Go.Proofs.Ytogfdhfmamabiaa.Words

structure Rc where
  kind : Int
  vol : Int
  arg : Int
  chunk : Int
def Rc.tu (r : Rc) : Int × Int × Int × Int := (r.kind, r.vol, r.arg, r.chunk)

/-- A record that is right. -/
def Rc.Right (r : Rc) : Prop :=
  (0 ≤ r.arg ∧ r.arg ≤ 1000000000) ∧ (r.kind = 1 ∧ r.vol = 0 ∧ r.chunk = 0 ∨ (1 ≤ r.vol ∧ r.vol ≤ 9) ∧ (r.kind = 2 ∧ r.arg ≤ 9 ∧ r.chunk = 0 ∨ r.kind = 3 ∧ r.arg = 0 ∧ r.chunk = 0 ∨ r.kind = 4 ∧ r.arg < 16 ∧ 1 ≤ r.chunk ∧ r.chunk ≤ 1000000000 ∨ r.kind = 5 ∧ r.arg < 16 ∧ r.chunk = 0))
abbrev Rc.decR (r : Rc) : Decidable r.Right := by unfold Rc.Right; exact inferInstance

/-- The bytes of a record. -/
def recL (r : Rc) : List UInt8 := UInt8.ofNat (16 * r.kind + r.vol).toNat :: (varL r.arg.toNat ++ varL r.chunk.toNat)
def recA (r : Rc) : ByteArray := (byteA (16 * r.kind + r.vol).toNat ++ varA r.arg.toNat) ++ varA r.chunk.toNat
theorem recA_list (r : Rc) : (recA r).data.toList = recL r := by
  simp [recA, recL, byteA, varA, ByteArray.data_append]
theorem recL_len (r : Rc) (h : r.Right) : 3 ≤ (recL r).length ∧ (recL r).length ≤ 19 := by
  obtain ⟨h1, h2⟩ := h
  have a := varL_len r.arg.toNat (by omega)
  have b := varL_len r.chunk.toNat (by omega)
  simp only [recL, List.length_cons, List.length_append]
  omega

/-- The bytes of many. -/
def recsL : List Rc → List UInt8
  | [] => []
  | r :: l => recL r ++ recsL l
theorem recsL_append (a b : List Rc) : recsL (a ++ b) = recsL a ++ recsL b := by
  induction a with
  | nil => rfl
  | cons r a ih => simp only [List.cons_append, recsL, ih, List.append_assoc]
theorem recsL_snoc (a : List Rc) (r : Rc) : recsL (a ++ [r]) = recsL a ++ recL r := by
  rw [recsL_append]; simp [recsL]
theorem recsL_len (a : List Rc) (h : ∀ r ∈ a, r.Right) : 3 * a.length ≤ (recsL a).length ∧ (recsL a).length ≤ 19 * a.length := by
  induction a with
  | nil => simp [recsL]
  | cons r a ih =>
    have h1 := recL_len r (h r (by simp))
    have h2 := ih (fun x hx => h x (by simp [hx]))
    simp only [recsL, List.length_append, List.length_cons]
    omega

/-- The record that stands at a place, and where it ends. -/
def rec1 (l : List UInt8) (q : Nat) : Option (Rc × Nat) :=
  match l[q]? with
  | none => none
  | some k =>
    match readV l (q + 1) with
    | none => none
    | some (a, i) =>
      match readV l i with
      | none => none
      | some (c, j) => letI := (Rc.mk (k.toNat / 16 : Nat) (k.toNat % 16 : Nat) a c).decR; if (Rc.mk (k.toNat / 16 : Nat) (k.toNat % 16 : Nat) a c).Right then some (Rc.mk (k.toNat / 16 : Nat) (k.toNat % 16 : Nat) a c, j) else none

theorem drop_at {l : List UInt8} {q : Nat} {k : UInt8} (h : l[q]? = some k) : q < l.length ∧ l.drop q = k :: l.drop (q + 1) := by
  obtain ⟨h1, h2⟩ := List.getElem?_eq_some_iff.1 h
  exact ⟨h1, by rw [← h2]; exact List.drop_eq_getElem_cons h1⟩

theorem rec1_parts {l : List UInt8} {q j : Nat} {r : Rc} (h : rec1 l q = some (r, j)) :
    ∃ (k : UInt8) (a i c : Nat), l[q]? = some k ∧ readV l (q + 1) = some (a, i) ∧ readV l i = some (c, j) ∧ r = Rc.mk (k.toNat / 16 : Nat) (k.toNat % 16 : Nat) a c ∧ r.Right := by
  unfold rec1 at h
  split at h
  · cases h
  rename_i k hk
  split at h
  · cases h
  rename_i a i ha
  split at h
  · cases h
  rename_i c j' hc
  split at h
  · rename_i hr
    cases h
    exact ⟨k, a, i, c, hk, ha, hc, rfl, hr⟩
  · cases h

theorem rec1_cut {l : List UInt8} {q j : Nat} {r : Rc} (h : rec1 l q = some (r, j)) : r.Right ∧ q < l.length ∧ q < j ∧ j ≤ l.length ∧ l.drop q = recL r ++ l.drop j := by
  obtain ⟨k, a, i, c, hk, ha, hc, rfl, hr⟩ := rec1_parts h
  obtain ⟨h1, h2⟩ := drop_at hk
  have e1 := readV_cut _ _ _ _ ha
  have e2 := readV_cut _ _ _ _ hc
  have l1 := readV_le l (q + 1) a i (by omega) ha
  have l2 := readV_le l i c j (by omega) hc
  have e : UInt8.ofNat (16 * ((k.toNat / 16 : Nat) : Int) + ((k.toNat % 16 : Nat) : Int)).toNat = k := by
    have : (16 * ((k.toNat / 16 : Nat) : Int) + ((k.toNat % 16 : Nat) : Int)).toNat = k.toNat := by omega
    rw [this]; exact UInt8.ofNat_toNat
  have cut : l.drop q = recL (Rc.mk (k.toNat / 16 : Nat) (k.toNat % 16 : Nat) a c) ++ l.drop j := by
    rw [h2, e1, e2]
    simp only [recL, e, Int.toNat_natCast, List.cons_append, List.append_assoc]
  refine ⟨hr, h1, ?_, by omega, cut⟩
  have hl := recL_len _ hr
  have := congrArg List.length cut
  simp only [List.length_append, List.length_drop] at this
  omega

theorem rec1_of {l : List UInt8} {q : Nat} {r : Rc} {t : List UInt8} (hr : r.Right) (h : l.drop q = recL r ++ t) : rec1 l q = some (r, q + (recL r).length) ∧ l.drop (q + (recL r).length) = t := by
  have hb := hr
  obtain ⟨h1, h2⟩ := hb
  have hk : l[q]? = some (UInt8.ofNat (16 * r.kind + r.vol).toNat) := by
    have : (l.drop q)[0]? = some (UInt8.ofNat (16 * r.kind + r.vol).toNat) := by rw [h]; rfl
    rw [List.getElem?_drop] at this
    simpa using this
  have h3 : l.drop (q + 1) = varL r.arg.toNat ++ (varL r.chunk.toNat ++ t) := by
    rw [← List.drop_drop, h]
    simp [recL]
  obtain ⟨ha, h4⟩ := readV_of l (q + 1) r.arg.toNat _ (by omega) h3
  obtain ⟨hc, h5⟩ := readV_of l _ r.chunk.toNat _ (by omega) h4
  have en : (UInt8.ofNat (16 * r.kind + r.vol).toNat).toNat = (16 * r.kind + r.vol).toNat := by rw [UInt8.toNat_ofNat']; omega
  have er : Rc.mk ((UInt8.ofNat (16 * r.kind + r.vol).toNat).toNat / 16 : Nat) ((UInt8.ofNat (16 * r.kind + r.vol).toNat).toNat % 16 : Nat) (r.arg.toNat : Nat) (r.chunk.toNat : Nat) = r := by
    rw [en]
    cases r
    simp only [Rc.mk.injEq]
    simp only at h1 h2
    omega
  have el : q + (recL r).length = q + 1 + (varL r.arg.toNat).length + (varL r.chunk.toNat).length := by simp only [recL, List.length_cons, List.length_append]; omega
  constructor
  · unfold rec1
    rw [hk]
    simp only [ha, hc, el]
    rw [er, if_pos hr]
  · rw [el]; exact h5

/-- All the records of a place on. -/
def recsF (l : List UInt8) : Nat → Nat → Option (List Rc)
  | 0, _ => none
  | f + 1, q => if l.length ≤ q then some [] else
    match rec1 l q with
    | none => none
    | some (r, j) => (recsF l f j).map (r :: ·)
def recs (l : List UInt8) (q : Nat) : Option (List Rc) := recsF l (l.length - q + 1) q
theorem recsF_any (l : List UInt8) : ∀ (f q : Nat), l.length - q + 1 ≤ f → recsF l f q = recs l q := by
  intro f
  induction f using Nat.strongRecOn with
  | ind f ih =>
    intro q h
    cases f with
    | zero => omega
    | succ f =>
      unfold recs
      simp only [recsF]
      split
      · rfl
      · cases e : rec1 l q with
        | none => rfl
        | some x =>
          obtain ⟨r, j⟩ := x
          obtain ⟨-, h1, h2, h3, -⟩ := rec1_cut e
          simp only
          rw [ih f (by omega) j (by omega)]
          by_cases hf : l.length - q = f
          · rw [hf, ih f (by omega) j (by omega)]
          · rw [ih (l.length - q) (by omega) j (by omega)]
theorem recs_end {l : List UInt8} {q : Nat} (h : l.length ≤ q) : recs l q = some [] := by
  unfold recs; simp only [recsF, if_pos h]
theorem recs_none {l : List UInt8} {q : Nat} (h : q < l.length) (h1 : rec1 l q = none) : recs l q = none := by
  unfold recs; simp only [recsF, if_neg (Nat.not_le.2 h), h1]
theorem recs_some {l : List UInt8} {q j : Nat} {r : Rc} (h1 : rec1 l q = some (r, j)) : recs l q = (recs l j).map (r :: ·) := by
  obtain ⟨-, a, b, c, -⟩ := rec1_cut h1
  unfold recs
  simp only [recsF, if_neg (Nat.not_le.2 a), h1]
  rw [recsF_any l (l.length - q) j (by omega)]
  rfl

/-- What was written is read back. -/
theorem recs_of : ∀ (x : List Rc) (l : List UInt8) (q : Nat), (∀ r ∈ x, r.Right) → l.drop q = recsL x → recs l q = some x := by
  intro x
  induction x with
  | nil =>
    intro l q _ h
    have := congrArg List.length h
    simp only [recsL, List.length_drop, List.length_nil] at this
    exact recs_end (by omega)
  | cons r x ih =>
    intro l q hr h
    obtain ⟨h1, h2⟩ := rec1_of (hr r (by simp)) (by simpa only [recsL] using h)
    rw [recs_some h1, ih l _ (fun y hy => hr y (by simp [hy])) h2]
    rfl
/-- What is read was so written. -/
theorem recs_back : ∀ (x : List Rc) (l : List UInt8) (q : Nat), recs l q = some x → (∀ r ∈ x, r.Right) ∧ l.drop q = recsL x := by
  intro x
  induction x with
  | nil =>
    intro l q h
    refine ⟨by simp, ?_⟩
    by_cases hq : l.length ≤ q
    · exact List.drop_eq_nil_of_le hq
    · cases e : rec1 l q with
      | none => rw [recs_none (by omega) e] at h; cases h
      | some y =>
        obtain ⟨r, j⟩ := y
        rw [recs_some e] at h
        cases e2 : recs l j with
        | none => rw [e2] at h; cases h
        | some z => rw [e2] at h; simp at h
  | cons r x ih =>
    intro l q h
    by_cases hq : l.length ≤ q
    · rw [recs_end hq] at h; simp at h
    · cases e : rec1 l q with
      | none => rw [recs_none (by omega) e] at h; cases h
      | some y =>
        obtain ⟨r', j⟩ := y
        rw [recs_some e] at h
        cases e2 : recs l j with
        | none => rw [e2] at h; cases h
        | some z =>
          rw [e2] at h
          simp at h
          obtain ⟨rfl, rfl⟩ := h
          obtain ⟨h1, h2⟩ := ih l j e2
          obtain ⟨h3, -, -, -, h4⟩ := rec1_cut e
          refine ⟨?_, ?_⟩
          · intro y hy
            rcases List.mem_cons.1 hy with rfl | hy
            · exact h3
            · exact h1 y hy
          · rw [h4, h2]; rfl

end Go.Proofs.Ytogfdhfmamabiaa.Words

/-
  spec.l01In.
-/
namespace Go.Proofs.Ytogfdhfmamabiaa
open Go.RowKit
set_option maxHeartbeats 400000 in
set_option maxRecDepth 100000 in
theorem sin_b (x lo hi : Int) (b : Bool) (w : World) (h : (lo ≤ x ∧ x ≤ hi ∧ b = true) ∨ ((x < lo ∨ lo ≤ x ∧ ¬ x ≤ hi) ∧ b = false)) :
    Calls Try.prog 58 #[.int .i64 x, .int .i64 lo, .int .i64 hi] w fun e w' => e = .returned (.bool b) ∧ w' = w := by
  rcases h with ⟨h1, h2, rfl⟩ | ⟨h1 | ⟨h1, h2⟩, rfl⟩
  all_goals
    go_enter Try.func58, Try.ntmps58
    go_wp2
    go_ret
    exact ⟨rfl, rfl⟩
theorem sin_any (x lo hi : Int) (w : World) :
    Calls Try.prog 58 #[.int .i64 x, .int .i64 lo, .int .i64 hi] w fun e w' => e = .returned (.bool (decide (lo ≤ x ∧ x ≤ hi))) ∧ w' = w := by
  apply sin_b
  by_cases h : lo ≤ x ∧ x ≤ hi
  · exact .inl ⟨h.1, h.2, decide_eq_true h⟩
  · exact .inr ⟨by omega, decide_eq_false h⟩
end Go.Proofs.Ytogfdhfmamabiaa
