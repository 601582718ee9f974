/-
  FMath; ISmall
-/
import Derived.Test.YthkkefbhcmhijaaFRow
import Derived.Test.YthkkefbhcmhijaaFlP
/-
  What chapter 5 says of flashes, in plain words.
-/
namespace Go.Proofs.Ythkkefbhcmhijaa

/-- No text of these is too long for the program. -/
def Tx (ls : List (Int × ByteArray)) : Prop := ∀ t ∈ ls, t.2.size ≤ 1048576
def TxB (rs : List Rw) : Prop := ∀ r ∈ rs, Tx r.2.2.2
theorem Tx.succ {ls : List (Int × ByteArray)} {k : Nat} {t : Int × ByteArray} (h : Tx (ls.take k)) (ht : ls[k]? = some t) (hs : t.2.size ≤ 1048576) : Tx (ls.take (k + 1)) := by
  obtain ⟨h1, h2⟩ := List.getElem?_eq_some_iff.1 ht
  rw [List.take_succ_eq_append_getElem h1, h2]
  intro u hu
  rcases List.mem_append.1 hu with hu | hu
  · exact h u hu
  · rw [List.mem_singleton] at hu
    subst hu
    exact hs
theorem TxB.succ {rs : List Rw} {k : Nat} {r : Rw} (h : TxB (rs.take k)) (hr : rs[k]? = some r) (hs : Tx r.2.2.2) : TxB (rs.take (k + 1)) := by
  obtain ⟨h1, h2⟩ := List.getElem?_eq_some_iff.1 hr
  rw [List.take_succ_eq_append_getElem h1, h2]
  intro u hu
  rcases List.mem_append.1 hu with hu | hu
  · exact h u hu
  · rw [List.mem_singleton] at hu
    subst hu
    exact hs
end Go.Proofs.Ythkkefbhcmhijaa

/-
  impl.isBlockCount, impl.fillsLeaf, (*impl.Leaf).isRight.
-/
namespace Go.Proofs.Ythkkefbhcmhijaa
open Go.RowKit

set_option maxHeartbeats 400000 in
set_option maxRecDepth 100000 in
theorem icount_b (x : Int) (b : Bool) (w : World) (h : (3 ≤ x ∧ x ≤ 10 ∧ b = true) ∨ ((x < 3 ∨ 3 ≤ x ∧ ¬ x ≤ 10) ∧ b = false)) :
    Calls Try.prog 24 #[.int .i64 x] w fun e w' => e = .returned (.bool b) ∧ w' = w := by
  rcases h with ⟨h1, h2, rfl⟩ | ⟨h1 | ⟨h1, h2⟩, rfl⟩
  all_goals
    go_enter Try.func24, Try.ntmps24
    go_wp2
    go_ret
    exact ⟨rfl, rfl⟩
theorem icount_any (x : Int) (w : World) :
    Calls Try.prog 24 #[.int .i64 x] w fun e w' => e = .returned (.bool (decide (3 ≤ x ∧ x ≤ 10))) ∧ w' = w := by
  apply icount_b
  by_cases h : 3 ≤ x ∧ x ≤ 10
  · exact .inl ⟨h.1, h.2, decide_eq_true h⟩
  · exact .inr ⟨by omega, decide_eq_false h⟩
theorem empty_size (t : ByteArray) : t.toList.isEmpty = decide (t.size = 0) := by
  rw [Lib.toList_data]
  have hsz : t.size = t.data.toList.length := rfl
  cases hc : t.data.toList with
  | nil => rw [hc] at hsz; exact (decide_eq_true hsz).symm
  | cons a l => rw [hc] at hsz; exact (decide_eq_false (by simp only [List.length_cons] at hsz; omega)).symm
def fillsP (t : ByteArray) : Bool := decide ((1 : Int) ≤ t.size ∧ (t.size : Int) ≤ 120)
set_option maxHeartbeats 400000 in
set_option maxRecDepth 100000 in
theorem fills_any (t : ByteArray) (w : World) :
    Calls Try.prog 21 #[.string t] w fun e w' => e = .returned (.bool (fillsP t)) ∧ w' = w := by
  by_cases h0 : t.size = 0
  · have he : t.toList.isEmpty = true := by rw [empty_size]; exact decide_eq_true h0
    have HE : Hid (fillsP t = false) := decide_eq_false (by omega)
    go_enter Try.func21, Try.ntmps21
    go_wp2
    go_ret
    exact ⟨by rw [HE.out]; rfl, rfl⟩
  · have he : t.toList.isEmpty = false := by rw [empty_size]; exact decide_eq_false h0
    have HE : Hid (fillsP t = decide ((t.size : Int) ≤ 120)) := by
      show _ = _
      unfold fillsP
      congr 1
      apply propext
      omega
    go_enter Try.func21, Try.ntmps21
    go_wp2
    go_ret
    exact ⟨by rw [HE.out]; rfl, rfl⟩
set_option maxHeartbeats 400000 in
set_option maxRecDepth 100000 in
theorem ileaf_any (g o : Nat) (x : Int) (t : ByteArray) (w : World) (h1 : w.cell? ⟨g, o, none⟩ = some (.int .i64 x)) (h2 : w.cell? ⟨g, o + 1, none⟩ = some (.string t)) :
    Calls Try.prog 37 #[.pointer (some ⟨g, o, none⟩)] w fun e w' => e = .returned (.bool (leafOk (x, t))) ∧ w' = w := by
  by_cases h0 : x = 0
  · subst h0
    have HE : Hid (leafOk (0, t) = t.toList.isEmpty) := by
      show _ = _
      rw [empty_size]
      simp only [leafOk]
      congr 1
      apply propext
      simp
    go_enter Try.func37, Try.ntmps37
    go_wp2
    go_ret
    exact ⟨by rw [HE.out]; rfl, rfl⟩
  · by_cases h1 : x = 1
    · subst h1
      have HE : Hid (leafOk (1, t) = fillsP t) := by
        show _ = _
        simp only [leafOk, fillsP]
        congr 1
        apply propext
        simp
        omega
      go_enter Try.func37, Try.ntmps37
      go_wp2_with fail
      refine (fills_any t _).mono ?_
      rintro e w1 ⟨rfl, rfl⟩
      rw [← HE.out]
      clear HE
      go_wp2
      go_ret
      exact ⟨rfl, rfl⟩
    · have e0 : (x == 0) = false := by simpa using h0
      have e1 : (x == 1) = false := by simpa using h1
      by_cases h2 : x = 2
      · subst h2
        have HE : Hid (leafOk (2, t) = decide ((t.size : Int) ≤ 120)) := by
          show _ = _
          simp only [leafOk]
          congr 1
          apply propext
          simp
          omega
        go_enter Try.func37, Try.ntmps37
        go_wp2
        go_ret
        exact ⟨by rw [HE.out]; rfl, rfl⟩
      · have e2 : (x == 2) = false := by simpa using h2
        have HE : Hid (leafOk (x, t) = false) := by
          show _ = _
          simp only [leafOk]
          exact decide_eq_false (by omega)
        go_enter Try.func37, Try.ntmps37
        go_wp2
        go_ret
        exact ⟨by rw [HE.out]; rfl, rfl⟩
end Go.Proofs.Ythkkefbhcmhijaa
