/-
  The walks of ReadShort, impl's and spec's, and of the law on it.
-/
import Derived.Test.YtiajmphmliefgajShort
import Derived.Laws.DeepStrings4
namespace Go.Proofs.Ytiajmphmliefgaj
open Go.RowKit
open Words

/-- What ReadShort answers. -/
def rsRes (s : ByteArray) : Option (Nat × Nat) → Value
  | some (n, j) => if n ≤ 20000 ∧ j + n ≤ s.size then .tuple #[.string (s.extract j (j + n)), .int .i64 ((j : Int) + n), .bool true] else .tuple #[.string ⟨#[]⟩, .int .i64 0, .bool false]
  | none => .tuple #[.string ⟨#[]⟩, .int .i64 0, .bool false]

theorem slice_fact (s : ByteArray) (j n : Nat) (h : j + n ≤ s.size) (W : World) :
    (Instr.slice 9 (.string s) (some (.int .i64 (j : Int))) (some (.int .i64 ((j : Int) + n))) none).run Try.prog W = .ok (.string (s.extract j (j + n))) W := by
  rw [run_slice_string_if W 9 s .i64 .i64 j ((j : Int) + n) Try.underlying9, if_pos (by omega), if_pos (by omega)]
  rfl

set_option maxHeartbeats 400000 in
theorem specRS (s : ByteArray) (q : Int) (w : World) (o : Option (Nat × Nat)) (hs : s.size ≤ 1048576) (ho : ∀ n j, o = some (n, j) → j ≤ s.size ∧ n ≤ 1000000000)
    (H : Hid (∀ w, Calls Try.prog 11 #[.string s, .int .i64 q] w fun e w' => e = .returned (rvRes o) ∧ Below w.heap.size w w')) :
    Calls Try.prog 15 #[.string s, .int .i64 q] w fun e w' => e = .returned (rsRes s o) ∧ Below w.heap.size w w' := by
  match o, ho, H with
  | none, _, H =>
    go_enter Try.func15, Try.ntmps15
    go_wp2_with fail
    refine (unhide H _).mono ?_
    rintro e w1 ⟨rfl, hb⟩
    unfold rvRes
    go_wp2
    go_ret3
    exact ⟨rfl, hb⟩
  | some (n, j), ho, H =>
    obtain ⟨h1, h2⟩ := ho n j rfl
    clear ho
    by_cases c1 : (20000 : Int) < n
    · have F : Hid (rsRes s (some (n, j)) = .tuple #[.string ⟨#[]⟩, .int .i64 0, .bool false]) := by
        show rsRes _ _ = _
        rw [rsRes, if_neg (by omega)]
      go_enter Try.func15, Try.ntmps15
      go_wp2_with fail
      refine (unhide H _).mono ?_
      rintro e w1 ⟨rfl, hb⟩
      unfold rvRes
      go_wp2
      go_ret3
      exact ⟨by rw [F.out]; rfl, hb⟩
    · by_cases c2 : (s.size : Int) - j < n
      · have F : Hid (rsRes s (some (n, j)) = .tuple #[.string ⟨#[]⟩, .int .i64 0, .bool false]) := by
          show rsRes _ _ = _
          rw [rsRes, if_neg (by omega)]
        go_enter Try.func15, Try.ntmps15
        go_wp2_with fail
        refine (unhide H _).mono ?_
        rintro e w1 ⟨rfl, hb⟩
        unfold rvRes
        go_wp2
        go_ret3
        exact ⟨by rw [F.out]; rfl, hb⟩
      · have F : Hid (rsRes s (some (n, j)) = .tuple #[.string (s.extract j (j + n)), .int .i64 ((j : Int) + n), .bool true]) := by
          show rsRes _ _ = _
          rw [rsRes, if_pos (by omega)]
        have hsl := slice_fact s j n (by omega)
        obtain ⟨t, ht⟩ : ∃ t, t = s.extract j (j + n) := ⟨_, rfl⟩
        rw [← ht] at hsl F
        clear ht
        go_enter Try.func15, Try.ntmps15
        go_wp2_with fail
        refine (unhide H _).mono ?_
        rintro e w1 ⟨rfl, hb⟩
        unfold rvRes
        go_wp2
        go_ret3
        exact ⟨by rw [F.out]; rfl, hb⟩

set_option maxHeartbeats 400000 in
theorem implRS (s : ByteArray) (q : Int) (w : World) (o : Option (Nat × Nat)) (hs : s.size ≤ 1048576) (ho : ∀ n j, o = some (n, j) → j ≤ s.size ∧ n ≤ 1000000000)
    (H : Hid (∀ w, Calls Try.prog 12 #[.string s, .int .i64 q] w fun e w' => e = .returned (rvRes o) ∧ w' = w)) :
    Calls Try.prog 16 #[.string s, .int .i64 q] w fun e w' => e = .returned (rsRes s o) ∧ Below w.heap.size w w' := by
  match o, ho, H with
  | none, _, H =>
    go_enter Try.func16, Try.ntmps16
    go_wp2_with fail
    refine (unhide H _).mono ?_
    rintro e w1 ⟨rfl, rfl⟩
    unfold rvRes
    go_wp2
    go_ret3
    exact ⟨rfl, Below.refl _ _⟩
  | some (n, j), ho, H =>
    obtain ⟨h1, h2⟩ := ho n j rfl
    clear ho
    by_cases c1 : (20000 : Int) < n
    · have F : Hid (rsRes s (some (n, j)) = .tuple #[.string ⟨#[]⟩, .int .i64 0, .bool false]) := by
        show rsRes _ _ = _
        rw [rsRes, if_neg (by omega)]
      go_enter Try.func16, Try.ntmps16
      go_wp2_with fail
      refine (unhide H _).mono ?_
      rintro e w1 ⟨rfl, rfl⟩
      unfold rvRes
      go_wp2
      go_ret3
      exact ⟨by rw [F.out]; rfl, Below.refl _ _⟩
    · by_cases c2 : (s.size : Int) - j < n
      · have F : Hid (rsRes s (some (n, j)) = .tuple #[.string ⟨#[]⟩, .int .i64 0, .bool false]) := by
          show rsRes _ _ = _
          rw [rsRes, if_neg (by omega)]
        go_enter Try.func16, Try.ntmps16
        go_wp2_with fail
        refine (unhide H _).mono ?_
        rintro e w1 ⟨rfl, rfl⟩
        unfold rvRes
        go_wp2
        go_ret3
        exact ⟨by rw [F.out]; rfl, Below.refl _ _⟩
      · have F : Hid (rsRes s (some (n, j)) = .tuple #[.string (s.extract j (j + n)), .int .i64 ((j : Int) + n), .bool true]) := by
          show rsRes _ _ = _
          rw [rsRes, if_pos (by omega)]
        have hsl := slice_fact s j n (by omega)
        have hts : (s.extract j (j + n)).size ≤ 281474976710656 := by rw [ByteArray.size_extract]; omega
        obtain ⟨t, ht⟩ : ∃ t, t = s.extract j (j + n) := ⟨_, rfl⟩
        rw [← ht] at hsl F hts
        clear ht
        go_enter Try.func16, Try.ntmps16
        go_wp2_with fail
        refine (unhide H _).mono ?_
        rintro e w1 ⟨rfl, rfl⟩
        unfold rvRes
        go_wp2_with fail
        refine (clone_any t _ hts).mono ?_
        rintro e w2 ⟨rfl, hb⟩
        go_wp2
        go_ret3
        exact ⟨by rw [F.out]; rfl, hb⟩

theorem rs_cases (s : ByteArray) (o : Option (Nat × Nat)) : ∃ t j b, rsRes s o = .tuple #[.string t, .int .i64 j, .bool b] := by
  match o with
  | none => exact ⟨_, _, _, rfl⟩
  | some (n, j) =>
    rw [rsRes]
    split
    · exact ⟨_, _, _, rfl⟩
    · exact ⟨_, _, _, rfl⟩

set_option maxHeartbeats 400000 in
theorem lawRS (a0 : ByteArray) (a1 : Int) (w0 : a0.size ≤ maxLen) (_w1 : (Lit.int .i64 a1).wf = true) (w : World) :
    Calls Try.prog 6 #[.string a0, .int .i64 a1] w fun e w' => e = .returned (.bool true) ∧ Below w.heap.size w w' := by
  unfold maxLen at w0
  by_cases hs : (1048576 : Int) < a0.size
  · go_enter Try.func6, Try.ntmps6
    go_wp2
    go_ret
    exact ⟨rfl, Below.refl _ _⟩
  · obtain ⟨o, h0, h1, h2⟩ := specRead_all a0 a1 (by omega)
    have H1 : Hid (∀ w, Calls Try.prog 15 #[.string a0, .int .i64 a1] w fun e w' => e = .returned (rsRes a0 o) ∧ Below w.heap.size w w') := fun w => specRS a0 a1 w o (by omega) h0 h1
    have H2 : Hid (∀ w, Calls Try.prog 16 #[.string a0, .int .i64 a1] w fun e w' => e = .returned (rsRes a0 o) ∧ Below w.heap.size w w') := fun w => implRS a0 a1 w o (by omega) h0 h2
    clear h0 h1 h2
    obtain ⟨t, j, b, e⟩ := rs_cases a0 o
    rw [e] at H1 H2
    clear e
    go_enter Try.func6, Try.ntmps6
    go_wp2_with fail
    refine (unhide H1 _).mono ?_
    rintro e w1 ⟨rfl, hb1⟩
    go_wp2_with fail
    refine (unhide H2 _).mono ?_
    rintro e w2 ⟨rfl, hb2⟩
    cases b
    all_goals
      go_wp2
      go_ret
      exact ⟨rfl, hb1.trans (hb2.mono hb1.size)⟩
end Go.Proofs.Ytiajmphmliefgaj
