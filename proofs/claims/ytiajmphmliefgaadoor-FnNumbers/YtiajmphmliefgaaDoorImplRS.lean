/-
  The walk of impl.ReadShort.
-/
import Derived.Test.YtiajmphmliefgaaDoorImplShort
import Derived.Test.YtiajmphmliefgaaDoorImplRead
namespace Go.Proofs.YtiajmphmliefgaaDoor
open Go.RowKit
open Words

/-- What ReadShort answers. -/
def rsRes (s : ByteArray) : Option (Nat × Nat) → Value
  | some (n, j) => if n ≤ 20000 ∧ j + n ≤ s.size then .tuple #[.string (s.extract j (j + n)), .int .i64 ((j : Int) + n), .bool true] else .tuple #[.string ⟨#[]⟩, .int .i64 0, .bool false]
  | none => .tuple #[.string ⟨#[]⟩, .int .i64 0, .bool false]

theorem slice_fact (s : ByteArray) (j n : Nat) (h : j + n ≤ s.size) (W : World) :
    (Instr.slice 9 (.string s) (some (.int .i64 (j : Int))) (some (.int .i64 ((j : Int) + n))) none).run Tryd.prog W = .ok (.string (s.extract j (j + n))) W := by
  rw [run_slice_string_if W 9 s .i64 .i64 j ((j : Int) + n) Tryd.underlying9, if_pos (by omega), if_pos (by omega)]
  rfl

set_option maxHeartbeats 400000 in
theorem implRS (s : ByteArray) (q : Int) (w : World) (o : Option (Nat × Nat)) (hs : s.size ≤ 1048576) (ho : ∀ n j, o = some (n, j) → j ≤ s.size ∧ n ≤ 1000000000)
    (H : Hid (∀ w, Calls Tryd.prog 7 #[.string s, .int .i64 q] w fun e w' => e = .returned (rvRes o) ∧ w' = w)) :
    Calls Tryd.prog 12 #[.string s, .int .i64 q] w fun e w' => e = .returned (rsRes s o) ∧ Below w.heap.size w w' := by
  match o, ho, H with
  | none, _, H =>
    go_enter Tryd.func12, Tryd.ntmps12
    go_wp2_with fail
    refine (unhide H _).mono ?_
    rintro e w1 ⟨rfl, rfl⟩
    unfold rvRes
    go_wp2
    go_ret3
    exact ⟨rfl, Below.refl _ _⟩
  | some (n, j), ho, H =>
    obtain ⟨h1, h2⟩ := ho n j rfl
    clear ho
    by_cases c1 : (20000 : Int) < n
    · have F : Hid (rsRes s (some (n, j)) = .tuple #[.string ⟨#[]⟩, .int .i64 0, .bool false]) := by
        show rsRes _ _ = _
        rw [rsRes, if_neg (by omega)]
      go_enter Tryd.func12, Tryd.ntmps12
      go_wp2_with fail
      refine (unhide H _).mono ?_
      rintro e w1 ⟨rfl, rfl⟩
      unfold rvRes
      go_wp2
      go_ret3
      exact ⟨by rw [F.out]; rfl, Below.refl _ _⟩
    · by_cases c2 : (s.size : Int) - j < n
      · have F : Hid (rsRes s (some (n, j)) = .tuple #[.string ⟨#[]⟩, .int .i64 0, .bool false]) := by
          show rsRes _ _ = _
          rw [rsRes, if_neg (by omega)]
        go_enter Tryd.func12, Tryd.ntmps12
        go_wp2_with fail
        refine (unhide H _).mono ?_
        rintro e w1 ⟨rfl, rfl⟩
        unfold rvRes
        go_wp2
        go_ret3
        exact ⟨by rw [F.out]; rfl, Below.refl _ _⟩
      · have F : Hid (rsRes s (some (n, j)) = .tuple #[.string (s.extract j (j + n)), .int .i64 ((j : Int) + n), .bool true]) := by
          show rsRes _ _ = _
          rw [rsRes, if_pos (by omega)]
        have hsl := slice_fact s j n (by omega)
        have hts : (s.extract j (j + n)).size ≤ 281474976710656 := by rw [ByteArray.size_extract]; omega
        obtain ⟨t, ht⟩ : ∃ t, t = s.extract j (j + n) := ⟨_, rfl⟩
        rw [← ht] at hsl F hts
        clear ht
        go_enter Tryd.func12, Tryd.ntmps12
        go_wp2_with fail
        refine (unhide H _).mono ?_
        rintro e w1 ⟨rfl, rfl⟩
        unfold rvRes
        go_wp2_with fail
        refine (clone_any t _ hts).mono ?_
        rintro e w2 ⟨rfl, hb⟩
        go_wp2
        go_ret3
        exact ⟨by rw [F.out]; rfl, hb⟩
end Go.Proofs.YtiajmphmliefgaaDoor
