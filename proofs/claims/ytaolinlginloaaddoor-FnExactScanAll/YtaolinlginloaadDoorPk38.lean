/-
  Rotate; Cmp
-/
import Derived.Test.YtaolinlginloaadDoorSwap
import Derived.Test.YtaolinlginloaadDoorPk18
/-
  slices.rotateCmpFunc at what a scan found.
-/
namespace Go.Proofs.YtaolinlginloaadDoor
open Go.RowKit
open Words

/-- Where a rotation stands: two blocks L, R that are to change places, behind A and ahead of B. -/
def RotAt (E T : List Fnd) (m i j : Nat) : Prop := ∃ A L R B : List Fnd, E = A ++ (L ++ (R ++ B)) ∧ L.length = i ∧ R.length = j ∧ A.length + i = m ∧ A ++ (R ++ (L ++ B)) = T

set_option maxHeartbeats 1000000 in
set_option maxRecDepth 100000 in
theorem rotate (g N cap a m b : Nat) (T D : List Fnd) (c : Value) (w : World) (hN : N ≤ 1000000000000000) (hl : D.length = N) (ham : a < m) (hmb : m < b) (hb : b ≤ N) (h0 : RotAt D T m (m - a) (b - m)) (hr : SRow w g D) :
    Calls Tryd.prog 63 #[.slice (some ⟨g, 0, none⟩) N cap, .int .i64 a, .int .i64 m, .int .i64 b, c] w fun e w' => e = .returned (.tuple #[]) ∧ Sorted w w' g T := by
  have HR := hide hr
  have HL := hide hl
  have H0 := hide h0
  obtain ⟨i0, ei⟩ : ∃ i0, m - a = i0 := ⟨_, rfl⟩
  obtain ⟨j0, ej⟩ : ∃ j0, b - m = j0 := ⟨_, rfl⟩
  rw [ei, ej] at H0
  have ei' : (m : Int) - a = i0 := by omega
  have ej' : (b : Int) - m = j0 := by omega
  have hij0 : i0 + j0 ≤ N ∧ 1 ≤ i0 ∧ 1 ≤ j0 ∧ m + j0 ≤ N ∧ i0 ≤ m := by omega
  obtain ⟨q1, q2, q3, q4, q5⟩ := hij0
  have HA := hide ham
  clear hl h0 hr ei ej hmb hb ham
  go_enter Tryd.func63, Tryd.ntmps63
  go_wp2
  clear ei' ej'
  go_loopw [10, 11] (fun iv jv wr => ∃ (i j : Nat) (E : List Fnd), iv = .int .i64 i ∧ jv = .int .i64 j ∧ 1 ≤ i ∧ 1 ≤ j ∧ i ≤ m ∧ m + j ≤ N ∧ Hid (E.length = N) ∧ Hid (RotAt E T m i j) ∧ Hid (Sorted w wr g E)) (fun iv jv _ => (intOf iv).toNat + (intOf jv).toNat)
  case atStart => exact ⟨i0, j0, D, rfl, rfl, q2, q3, q5, q4, HL, H0, ⟨Kept2.refl _ _, HR.out⟩⟩
  case round =>
    obtain ⟨i, j, E, rfl, rfl, r1, r2, r3, r4, HE, HJ, HS⟩ := hrel
    obtain ⟨pa, hpa⟩ : ∃ pa : Nat, (m : Int) - i = pa := ⟨m - i, by omega⟩
    clear q1 q2 q3 q4 q5 H0 HL HR
    by_cases hne : i = j
    · subst hne
      have hb1 : ((i : Int) != i) = false := by simp
      have C : Hid (Calls Tryd.prog 71 #[.slice (some ⟨g, 0, none⟩) N cap, .int .i64 pa, .int .i64 m, .int .i64 i, c] wr fun e w' => e = .returned (.tuple #[]) ∧ Sorted wr w' g T) := by
        obtain ⟨A, L, R, B, e1, e2, e3, e4, e5⟩ := HJ.out
        refine swapRange g N cap pa m i T A L [] R B c wr (by omega) ?_ (by omega) e2 e3 (by simp; omega) (by rw [← e5]; simp) ?_
        · have := HE.out
          rw [e1] at this
          simpa using this
        · have := HS.out.2
          rw [e1] at this
          simpa using this
      go_wp2_with fail
      refine C.out.mono ?_
      rintro e w1 ⟨rfl, s1⟩
      have S1 := hide (HS.out.trans s1)
      clear s1 HS C
      go_wp2
      first | go_end0 | refine bodyPost_ret (results_none rfl _ _ _) rfl ?_
      exact ⟨rfl, S1.out⟩
    · have hb1 : ((i : Int) != j) = true := by rw [bne_iff_ne]; omega
      by_cases hgt : (j : Int) < i
      · have C : Hid (∃ E', E'.length = N ∧ RotAt E' T m (i - j) j ∧ Calls Tryd.prog 71 #[.slice (some ⟨g, 0, none⟩) N cap, .int .i64 pa, .int .i64 m, .int .i64 j, c] wr fun e w' => e = .returned (.tuple #[]) ∧ Sorted wr w' g E') := by
          obtain ⟨A, L, R, B, e1, e2, e3, e4, e5⟩ := HJ.out
          have hL : L = L.take j ++ L.drop j := (List.take_append_drop j L).symm
          have l1 : (L.take j).length = j := by rw [List.length_take]; omega
          have l2 : (L.drop j).length = i - j := by rw [List.length_drop]; omega
          generalize L.take j = L1 at hL l1
          generalize L.drop j = L2 at hL l2
          subst hL
          refine ⟨A ++ R ++ L2 ++ L1 ++ B, ?_, ⟨A ++ R, L2, L1, B, by simp, l2, l1, ?_, by rw [← e5]; simp⟩, swapRange g N cap pa m j _ A L1 L2 R B c wr (by omega) ?_ (by omega) l1 e3 (by omega) rfl ?_⟩
          · have := HE.out
            rw [e1] at this
            simp at this ⊢
            omega
          · rw [List.length_append]; omega
          · have := HE.out
            rw [e1] at this
            simpa using this
          · have := HS.out.2
            rw [e1] at this
            simpa using this
        obtain ⟨E', x1, x2, x3⟩ := C.out
        have X1 := hide x1
        have X2 := hide x2
        have X3 := hide x3
        clear x1 x2 x3 C HJ HE
        go_wp2_with fail
        refine X3.out.mono ?_
        rintro e w1 ⟨rfl, s1⟩
        have S1 := hide (HS.out.trans s1)
        clear s1 HS X3
        go_wp2
        go_roundw
        case rel => exact ⟨i - j, j, E', by go_num, rfl, by omega, r2, by omega, r4, X1, X2, S1⟩
        case measure => simp [intOf]; omega
      · obtain ⟨q, hq⟩ : ∃ q : Nat, (m : Int) + j - i = q := ⟨m + j - i, by omega⟩
        have C : Hid (∃ E', E'.length = N ∧ RotAt E' T m i (j - i) ∧ Calls Tryd.prog 71 #[.slice (some ⟨g, 0, none⟩) N cap, .int .i64 pa, .int .i64 q, .int .i64 i, c] wr fun e w' => e = .returned (.tuple #[]) ∧ Sorted wr w' g E') := by
          obtain ⟨A, L, R, B, e1, e2, e3, e4, e5⟩ := HJ.out
          have hR : R = R.take (j - i) ++ R.drop (j - i) := (List.take_append_drop (j - i) R).symm
          have l1 : (R.take (j - i)).length = j - i := by rw [List.length_take]; omega
          have l2 : (R.drop (j - i)).length = i := by rw [List.length_drop]; omega
          generalize R.take (j - i) = R1 at hR l1
          generalize R.drop (j - i) = R2 at hR l2
          subst hR
          refine ⟨A ++ R2 ++ R1 ++ L ++ B, ?_, ⟨A, R2, R1, L ++ B, by simp, l2, l1, e4, by rw [← e5]; simp⟩, swapRange g N cap pa q i _ A L R1 R2 B c wr (by omega) ?_ (by omega) e2 l2 (by omega) rfl ?_⟩
          · have := HE.out
            rw [e1] at this
            simp at this ⊢
            omega
          · have := HE.out
            rw [e1] at this
            simpa using this
          · have := HS.out.2
            rw [e1] at this
            simpa using this
        obtain ⟨E', x1, x2, x3⟩ := C.out
        have X1 := hide x1
        have X2 := hide x2
        have X3 := hide x3
        clear x1 x2 x3 C HJ HE
        go_wp2_with fail
        refine X3.out.mono ?_
        rintro e w1 ⟨rfl, s1⟩
        have S1 := hide (HS.out.trans s1)
        clear s1 HS X3
        go_wp2
        go_roundw
        case rel => exact ⟨i, j - i, E', rfl, by go_num, r1, by omega, r3, by omega, X1, X2, S1⟩
        case measure => simp [intOf]; omega
end Go.Proofs.YtaolinlginloaadDoor

/-
  The order that impl.ScanAll hands to the sort.
-/
namespace Go.Proofs.YtaolinlginloaadDoor
open Go.RowKit
open Words

def cmpV (x y : Fnd) : Int := Lib.compareInt x.key y.key
theorem cmpV_lt (x y : Fnd) : (cmpV x y < 0) ↔ x.key < y.key := by
  unfold cmpV Lib.compareInt
  split <;> (try split) <;> omega

set_option maxHeartbeats 400000 in
set_option maxRecDepth 100000 in
theorem fcmp (x y : Fnd) (w : World) :
    Calls Tryd.prog 22 #[fdVal x, fdVal y] w fun e w' => e = .returned (.int .i64 (cmpV x y)) ∧ Below w.heap.size w w' := by
  have b0 := ((Below.refl w.heap.size w).alloc (Nat.le_refl _) (.cells (fdCells x).toArray 49)).alloc (by simp) (.cells (fdCells y).toArray 49)
  have B0 := hide b0
  have HC := hide (fun W => Tryd.cmp_Compare_int x.key y.key W)
  unfold fdVal
  unfold cmpV
  unfold Fnd.key at *
  unfold fdCells at *
  generalize Lib.compareInt x.page.seq y.page.seq = r at HC
  clear b0
  go_enter Tryd.func22, Tryd.ntmps22
  go_wp2_with fail
  refine (HC.out _).mono ?_
  rintro e w1 ⟨rfl, rfl⟩
  go_wp2
  go_ret
  exact ⟨rfl, B0.out⟩

/-- The order, as a value. -/
def ordV : Value := .func (.func 22) #[] #[]
end Go.Proofs.YtaolinlginloaadDoor
