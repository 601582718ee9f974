/-
  Swap; Rotate; Cmp; SymL
-/
import Derived.Test.YtcjgjkejhkhknabGreatDoorPk33
import Derived.Test.YtcjgjkejhkhknabGreatDoorShelf
import Derived.Deep.RegionHeld3
/-
  slices.swapRangeCmpFunc at what a scan found.
-/
namespace Go.Proofs.YtcjgjkejhkhknabGreatDoor
open Go.RowKit
open Words

theorem put8_far (w : World) (g o o' : Nat) (x : Fnd) (h : o' < o ∨ o + 8 ≤ o') : (put8 w g o x).cell? ⟨g, o', none⟩ = w.cell? ⟨g, o', none⟩ := by
  have far : ∀ (W : World) (i : Nat) (v : Value), i ≠ o' → (W.setCell ⟨g, i, none⟩ v).cell? ⟨g, o', none⟩ = W.cell? ⟨g, o', none⟩ := fun W i v hne => World.cell?_setCell_other _ _ _ _ (fun e => hne (by injection e))
  unfold put8
  rw [far _ _ _ (by omega), far _ _ _ (by omega), far _ _ _ (by omega), far _ _ _ (by omega), far _ _ _ (by omega), far _ _ _ (by omega), far _ _ _ (by omega), far _ _ _ (by omega)]
theorem set_two (U V W : List Fnd) (x z : Fnd) : ((U ++ x :: (V ++ z :: W)).set U.length z).set (U.length + 1 + V.length) x = U ++ z :: (V ++ x :: W) := by
  rw [List.set_append_right _ _ (Nat.le_refl _)]
  simp only [Nat.sub_self, List.set_cons_zero]
  rw [List.set_append_right _ _ (by omega)]
  have : U.length + 1 + V.length - U.length = V.length + 1 := by omega
  rw [this, List.set_cons_succ, List.set_append_right _ _ (Nat.le_refl _)]
  simp
theorem Sorted.drew {w w' : World} {g : Nat} {D : List Fnd} (h : Sorted w w' g D) : Sorted w w'.drew g D := ⟨h.1.trans (Kept2.below (Below.refl _ _).drew), h.2.below (Below.refl _ _).drew⟩
theorem Sorted.below {w w' w'' : World} {g : Nat} {D : List Fnd} (h : Sorted w w' g D) (hb : Below w'.heap.size w' w'') : Sorted w w'' g D := ⟨h.1.trans (Kept2.below hb), h.2.below hb⟩
theorem Sorted.trans {w w' w'' : World} {g : Nat} {D E : List Fnd} (h : Sorted w w' g D) (k : Sorted w' w'' g E) : Sorted w w'' g E := ⟨h.1.trans k.1, k.2⟩
/-- Two elements change places. -/
theorem SRow.swap {w : World} {g p q : Nat} {D : List Fnd} {x z : Fnd} (h : SRow w g D) (hp : D[p]? = some x) (hq : D[q]? = some z) :
    SRow (put8 (put8 w g (p * 8) z) g (q * 8) x) g ((D.set p z).set q x) ∧ Kept2 w (put8 (put8 w g (p * 8) z) g (q * 8) x) (· ≠ g) := by
  have l1 := (List.getElem?_eq_some_iff.1 hp).1
  have l2 := (List.getElem?_eq_some_iff.1 hq).1
  exact ⟨(h.put l1 z).put (by rw [List.length_set]; exact l2) x, (put8_kept _ _ _ _).trans (put8_kept _ _ _ _)⟩

set_option maxHeartbeats 1000000 in
set_option maxRecDepth 100000 in
theorem swapRange (g N cap a b n : Nat) (T : List Fnd) (A X Y Z B : List Fnd) (c : Value) (w : World) (hN : N ≤ 4611686018427387903) (hl : (A ++ X ++ Y ++ Z ++ B).length = N) (hA : A.length = a) (hX : X.length = n) (hZ : Z.length = n) (hY : A.length + X.length + Y.length = b) (hT : A ++ Z ++ Y ++ X ++ B = T) (hr : SRow w g (A ++ X ++ Y ++ Z ++ B)) :
    Calls Tryz.prog 157 #[.slice (some ⟨g, 0, none⟩) N cap, .int .i64 a, .int .i64 b, .int .i64 n, c] w fun e w' => e = .returned (.tuple #[]) ∧ Sorted w w' g T := by
  have HI : Hid (∃ (U X2 V Z2 W : List Fnd), A ++ X ++ Y ++ Z ++ B = U ++ (X2 ++ (V ++ (Z2 ++ W))) ∧ U.length = a + 0 ∧ X2.length + 0 = n ∧ Z2.length + 0 = n ∧ U.length + X2.length + V.length = b + 0 ∧ U ++ (Z2 ++ (V ++ (X2 ++ W))) = T) := ⟨A, X, Y, Z, B, by simp, by omega, by omega, by omega, by omega, by rw [← hT]; simp⟩
  have HR := hide hr
  have HL := hide hl
  have hbn : b + n ≤ N := by rw [← hl]; simp; omega
  have han : a + n ≤ b := by omega
  clear hl hA hX hZ hY hT hr
  generalize A ++ X ++ Y ++ Z ++ B = D at HI HR HL
  go_enter Tryz.func157, Tryz.ntmps157
  go_wp2
  go_loopw [10] (fun iv wr => ∃ (i : Nat) (E : List Fnd), iv = .int .i64 i ∧ i ≤ n ∧ Hid (E.length = N) ∧ Hid (∃ (U X2 V Z2 W : List Fnd), E = U ++ (X2 ++ (V ++ (Z2 ++ W))) ∧ U.length = a + i ∧ X2.length + i = n ∧ Z2.length + i = n ∧ U.length + X2.length + V.length = b + i ∧ U ++ (Z2 ++ (V ++ (X2 ++ W))) = T) ∧ Hid (Sorted w wr g E)) (fun iv _ => n - (intOf iv).toNat)
  case atStart => exact ⟨0, D, rfl, Nat.zero_le _, HL, by simpa using HI, ⟨Kept2.refl _ _, HR.out⟩⟩
  case round =>
    obtain ⟨i, E, rfl, hi, HE, HJ, HS⟩ := hrel
    by_cases hlt : (i : Int) < n
    · obtain ⟨U, X2, V, Z2, W, e0, e1, e2, e3, e4, e5⟩ := HJ.out
      match X2, Z2, e0, e2, e3, e4, e5 with
      | [], _, _, h2, _, _, _ => simp at h2; omega
      | _ :: _, [], _, _, h3, _, _ => simp at h3; omega
      | x :: X3, z :: Z3, e0, e2, e3, e4, e5 =>
        simp only [List.length_cons] at e2 e3 e4
        obtain ⟨p, ep⟩ : ∃ p, p = U.length := ⟨_, rfl⟩
        obtain ⟨q, eq⟩ : ∃ q, q = U.length + 1 + (X3 ++ V).length := ⟨_, rfl⟩
        have eE : E = U ++ x :: ((X3 ++ V) ++ z :: (Z3 ++ W)) := by rw [e0]; simp
        have hp : E[p]? = some x := by rw [eE, ep]; simp
        have hq : E[q]? = some z := by
          rw [eE, eq, List.getElem?_append_right (by omega)]
          have : U.length + 1 + (X3 ++ V).length - U.length = (X3 ++ V).length + 1 := by omega
          rw [this, List.getElem?_cons_succ]
          simp
        have hs2 : (E.set p z).set q x = (U ++ [z]) ++ (X3 ++ ((V ++ [x]) ++ (Z3 ++ W))) := by
          rw [eE, ep, eq, set_two]
          simp
        have hpI : (a : Int) + i = p := by omega
        have hqI : (b : Int) + i = q := by simp only [List.length_append] at eq; omega
        have hpw : IntKind.i64.wrap ((a : Int) + i) = p := by rw [IntKind.wrap_i64]; omega
        have hqw : IntKind.i64.wrap ((b : Int) + i) = q := by rw [IntKind.wrap_i64]; omega
        have p0 : (0 : Int) ≤ p := by omega
        have q0 : (0 : Int) ≤ q := by omega
        have pN : (p : Int) < N := by have := (List.getElem?_eq_some_iff.1 hp).1; have := HE.out; omega
        have qN : (q : Int) < N := by have := (List.getElem?_eq_some_iff.1 hq).1; have := HE.out; omega
        have hpq : p + 1 ≤ q := by omega
        obtain ⟨hs3, hk3⟩ := HS.out.2.swap hp hq
        rw [hs2] at hs3
        have NX : Hid (Sorted w (put8 (put8 wr g (p * 8) z) g (q * 8) x) g ((U ++ [z]) ++ (X3 ++ ((V ++ [x]) ++ (Z3 ++ W))))) := ⟨HS.out.1.trans hk3, hs3⟩
        have LX : Hid (((U ++ [z]) ++ (X3 ++ ((V ++ [x]) ++ (Z3 ++ W)))).length = N) := by
          show _ = _
          rw [← hs2, List.length_set, List.length_set]
          exact HE.out
        have TX : Hid ((U ++ [z]) ++ (Z3 ++ ((V ++ [x]) ++ (X3 ++ W))) = T) := by show _ = _; rw [← e5]; simp
        have QX : Hid ((U ++ [z]).length = a + (i + 1) ∧ X3.length + (i + 1) = n ∧ Z3.length + (i + 1) = n ∧ (U ++ [z]).length + X3.length + (V ++ [x]).length = b + (i + 1)) := by
          have hU : (U ++ [z]).length = U.length + 1 := by simp
          have hV : (V ++ [x]).length = V.length + 1 := by simp
          exact ⟨by omega, by omega, by omega, by omega⟩
        have x0 : wr.cell? ⟨g, p * 8, none⟩ = some (.int .i64 x.block) := HS.out.2.cell hp 0 rfl
        have z0 : wr.cell? ⟨g, q * 8, none⟩ = some (.int .i64 z.block) := HS.out.2.cell hq 0 rfl
        have k0 := HS.out.2.frozen (p * 8)
        have l0 := HS.out.2.frozen (q * 8)
        have x1 : wr.cell? ⟨g, p * 8 + 1, none⟩ = some (.int .i64 x.leaf) := HS.out.2.cell hp 1 rfl
        have z1 : wr.cell? ⟨g, q * 8 + 1, none⟩ = some (.int .i64 z.leaf) := HS.out.2.cell hq 1 rfl
        have k1 := HS.out.2.frozen (p * 8 + 1)
        have l1 := HS.out.2.frozen (q * 8 + 1)
        have x2 : wr.cell? ⟨g, p * 8 + 2, none⟩ = some (.int .i64 x.page.kind) := HS.out.2.cell hp 2 rfl
        have z2 : wr.cell? ⟨g, q * 8 + 2, none⟩ = some (.int .i64 z.page.kind) := HS.out.2.cell hq 2 rfl
        have k2 := HS.out.2.frozen (p * 8 + 2)
        have l2 := HS.out.2.frozen (q * 8 + 2)
        have x3 : wr.cell? ⟨g, p * 8 + 3, none⟩ = some (.int .i64 x.page.seq) := HS.out.2.cell hp 3 rfl
        have z3 : wr.cell? ⟨g, q * 8 + 3, none⟩ = some (.int .i64 z.page.seq) := HS.out.2.cell hq 3 rfl
        have k3 := HS.out.2.frozen (p * 8 + 3)
        have l3 := HS.out.2.frozen (q * 8 + 3)
        have x4 : wr.cell? ⟨g, p * 8 + 4, none⟩ = some (.int .i64 x.page.tx) := HS.out.2.cell hp 4 rfl
        have z4 : wr.cell? ⟨g, q * 8 + 4, none⟩ = some (.int .i64 z.page.tx) := HS.out.2.cell hq 4 rfl
        have k4 := HS.out.2.frozen (p * 8 + 4)
        have l4 := HS.out.2.frozen (q * 8 + 4)
        have x5 : wr.cell? ⟨g, p * 8 + 5, none⟩ = some (.int .i64 x.page.part) := HS.out.2.cell hp 5 rfl
        have z5 : wr.cell? ⟨g, q * 8 + 5, none⟩ = some (.int .i64 z.page.part) := HS.out.2.cell hq 5 rfl
        have k5 := HS.out.2.frozen (p * 8 + 5)
        have l5 := HS.out.2.frozen (q * 8 + 5)
        have x6 : wr.cell? ⟨g, p * 8 + 6, none⟩ = some (.int .i64 x.page.count) := HS.out.2.cell hp 6 rfl
        have z6 : wr.cell? ⟨g, q * 8 + 6, none⟩ = some (.int .i64 z.page.count) := HS.out.2.cell hq 6 rfl
        have k6 := HS.out.2.frozen (p * 8 + 6)
        have l6 := HS.out.2.frozen (q * 8 + 6)
        have x7 : wr.cell? ⟨g, p * 8 + 7, none⟩ = some (.string x.page.text) := HS.out.2.cell hp 7 rfl
        have z7 : wr.cell? ⟨g, q * 8 + 7, none⟩ = some (.string z.page.text) := HS.out.2.cell hq 7 rfl
        have k7 := HS.out.2.frozen (p * 8 + 7)
        have l7 := HS.out.2.frozen (q * 8 + 7)
        have y0 := (put8_far wr g (p * 8) (q * 8) z (by omega)).trans z0
        have y1 := (put8_far wr g (p * 8) (q * 8 + 1) z (by omega)).trans z1
        have y2 := (put8_far wr g (p * 8) (q * 8 + 2) z (by omega)).trans z2
        have y3 := (put8_far wr g (p * 8) (q * 8 + 3) z (by omega)).trans z3
        have y4 := (put8_far wr g (p * 8) (q * 8 + 4) z (by omega)).trans z4
        have y5 := (put8_far wr g (p * 8) (q * 8 + 5) z (by omega)).trans z5
        have y6 := (put8_far wr g (p * 8) (q * 8 + 6) z (by omega)).trans z6
        have y7 := (put8_far wr g (p * 8) (q * 8 + 7) z (by omega)).trans z7
        unfold put8 at y0 y1 y2 y3 y4 y5 y6 y7
        clear hs3 hk3 hs2 hp hq eE e0 e1 e2 e3 e4 e5 ep eq hpq
        go_wp2
        go_region
        have ND := hide NX.out.drew
        unfold put8 at ND
        go_wp2
        go_roundw
        case rel => exact ⟨i + 1, _, by go_num, by omega, LX, ⟨_, _, _, _, _, rfl, QX.out.1, QX.out.2.1, QX.out.2.2.1, QX.out.2.2.2, TX.out⟩, ND⟩
        case measure => simp [intOf]; omega
    · obtain ⟨U, X2, V, Z2, W, e0, e1, e2, e3, e4, e5⟩ := HJ.out
      have x0 : X2 = [] := List.eq_nil_of_length_eq_zero (by omega)
      have z0 : Z2 = [] := List.eq_nil_of_length_eq_zero (by omega)
      subst x0 z0
      have eT : E = T := by rw [e0, ← e5]
      subst eT
      clear e0 e1 e2 e3 e4 e5 HJ
      go_wp2
      first | go_end0 | refine bodyPost_ret (results_none rfl _ _ _) rfl ?_
      exact ⟨rfl, HS.out⟩
end Go.Proofs.YtcjgjkejhkhknabGreatDoor

/-
  slices.rotateCmpFunc at what a scan found.
-/
namespace Go.Proofs.YtcjgjkejhkhknabGreatDoor
open Go.RowKit
open Words

/-- Where a rotation stands: two blocks L, R that are to change places, behind A and ahead of B. -/
def RotAt (E T : List Fnd) (m i j : Nat) : Prop := ∃ A L R B : List Fnd, E = A ++ (L ++ (R ++ B)) ∧ L.length = i ∧ R.length = j ∧ A.length + i = m ∧ A ++ (R ++ (L ++ B)) = T

set_option maxHeartbeats 1000000 in
set_option maxRecDepth 100000 in
theorem rotate (g N cap a m b : Nat) (T D : List Fnd) (c : Value) (w : World) (hN : N ≤ 1000000000000000) (hl : D.length = N) (ham : a < m) (hmb : m < b) (hb : b ≤ N) (h0 : RotAt D T m (m - a) (b - m)) (hr : SRow w g D) :
    Calls Tryz.prog 131 #[.slice (some ⟨g, 0, none⟩) N cap, .int .i64 a, .int .i64 m, .int .i64 b, c] w fun e w' => e = .returned (.tuple #[]) ∧ Sorted w w' g T := by
  have HR := hide hr
  have HL := hide hl
  have H0 := hide h0
  obtain ⟨i0, ei⟩ : ∃ i0, m - a = i0 := ⟨_, rfl⟩
  obtain ⟨j0, ej⟩ : ∃ j0, b - m = j0 := ⟨_, rfl⟩
  rw [ei, ej] at H0
  have ei' : (m : Int) - a = i0 := by omega
  have ej' : (b : Int) - m = j0 := by omega
  have hij0 : i0 + j0 ≤ N ∧ 1 ≤ i0 ∧ 1 ≤ j0 ∧ m + j0 ≤ N ∧ i0 ≤ m := by omega
  obtain ⟨q1, q2, q3, q4, q5⟩ := hij0
  have HA := hide ham
  clear hl h0 hr ei ej hmb hb ham
  go_enter Tryz.func131, Tryz.ntmps131
  go_wp2
  clear ei' ej'
  go_loopw [10, 11] (fun iv jv wr => ∃ (i j : Nat) (E : List Fnd), iv = .int .i64 i ∧ jv = .int .i64 j ∧ 1 ≤ i ∧ 1 ≤ j ∧ i ≤ m ∧ m + j ≤ N ∧ Hid (E.length = N) ∧ Hid (RotAt E T m i j) ∧ Hid (Sorted w wr g E)) (fun iv jv _ => (intOf iv).toNat + (intOf jv).toNat)
  case atStart => exact ⟨i0, j0, D, rfl, rfl, q2, q3, q5, q4, HL, H0, ⟨Kept2.refl _ _, HR.out⟩⟩
  case round =>
    obtain ⟨i, j, E, rfl, rfl, r1, r2, r3, r4, HE, HJ, HS⟩ := hrel
    obtain ⟨pa, hpa⟩ : ∃ pa : Nat, (m : Int) - i = pa := ⟨m - i, by omega⟩
    clear q1 q2 q3 q4 q5 H0 HL HR
    by_cases hne : i = j
    · subst hne
      have hb1 : ((i : Int) != i) = false := by simp
      have C : Hid (Calls Tryz.prog 157 #[.slice (some ⟨g, 0, none⟩) N cap, .int .i64 pa, .int .i64 m, .int .i64 i, c] wr fun e w' => e = .returned (.tuple #[]) ∧ Sorted wr w' g T) := by
        obtain ⟨A, L, R, B, e1, e2, e3, e4, e5⟩ := HJ.out
        refine swapRange g N cap pa m i T A L [] R B c wr (by omega) ?_ (by omega) e2 e3 (by simp; omega) (by rw [← e5]; simp) ?_
        · have := HE.out
          rw [e1] at this
          simpa using this
        · have := HS.out.2
          rw [e1] at this
          simpa using this
      go_wp2_with fail
      refine C.out.mono ?_
      rintro e w1 ⟨rfl, s1⟩
      have S1 := hide (HS.out.trans s1)
      clear s1 HS C
      go_wp2
      first | go_end0 | refine bodyPost_ret (results_none rfl _ _ _) rfl ?_
      exact ⟨rfl, S1.out⟩
    · have hb1 : ((i : Int) != j) = true := by rw [bne_iff_ne]; omega
      by_cases hgt : (j : Int) < i
      · have C : Hid (∃ E', E'.length = N ∧ RotAt E' T m (i - j) j ∧ Calls Tryz.prog 157 #[.slice (some ⟨g, 0, none⟩) N cap, .int .i64 pa, .int .i64 m, .int .i64 j, c] wr fun e w' => e = .returned (.tuple #[]) ∧ Sorted wr w' g E') := by
          obtain ⟨A, L, R, B, e1, e2, e3, e4, e5⟩ := HJ.out
          have hL : L = L.take j ++ L.drop j := (List.take_append_drop j L).symm
          have l1 : (L.take j).length = j := by rw [List.length_take]; omega
          have l2 : (L.drop j).length = i - j := by rw [List.length_drop]; omega
          generalize L.take j = L1 at hL l1
          generalize L.drop j = L2 at hL l2
          subst hL
          refine ⟨A ++ R ++ L2 ++ L1 ++ B, ?_, ⟨A ++ R, L2, L1, B, by simp, l2, l1, ?_, by rw [← e5]; simp⟩, swapRange g N cap pa m j _ A L1 L2 R B c wr (by omega) ?_ (by omega) l1 e3 (by omega) rfl ?_⟩
          · have := HE.out
            rw [e1] at this
            simp at this ⊢
            omega
          · rw [List.length_append]; omega
          · have := HE.out
            rw [e1] at this
            simpa using this
          · have := HS.out.2
            rw [e1] at this
            simpa using this
        obtain ⟨E', x1, x2, x3⟩ := C.out
        have X1 := hide x1
        have X2 := hide x2
        have X3 := hide x3
        clear x1 x2 x3 C HJ HE
        go_wp2_with fail
        refine X3.out.mono ?_
        rintro e w1 ⟨rfl, s1⟩
        have S1 := hide (HS.out.trans s1)
        clear s1 HS X3
        go_wp2
        go_roundw
        case rel => exact ⟨i - j, j, E', by go_num, rfl, by omega, r2, by omega, r4, X1, X2, S1⟩
        case measure => simp [intOf]; omega
      · obtain ⟨q, hq⟩ : ∃ q : Nat, (m : Int) + j - i = q := ⟨m + j - i, by omega⟩
        have C : Hid (∃ E', E'.length = N ∧ RotAt E' T m i (j - i) ∧ Calls Tryz.prog 157 #[.slice (some ⟨g, 0, none⟩) N cap, .int .i64 pa, .int .i64 q, .int .i64 i, c] wr fun e w' => e = .returned (.tuple #[]) ∧ Sorted wr w' g E') := by
          obtain ⟨A, L, R, B, e1, e2, e3, e4, e5⟩ := HJ.out
          have hR : R = R.take (j - i) ++ R.drop (j - i) := (List.take_append_drop (j - i) R).symm
          have l1 : (R.take (j - i)).length = j - i := by rw [List.length_take]; omega
          have l2 : (R.drop (j - i)).length = i := by rw [List.length_drop]; omega
          generalize R.take (j - i) = R1 at hR l1
          generalize R.drop (j - i) = R2 at hR l2
          subst hR
          refine ⟨A ++ R2 ++ R1 ++ L ++ B, ?_, ⟨A, R2, R1, L ++ B, by simp, l2, l1, e4, by rw [← e5]; simp⟩, swapRange g N cap pa q i _ A L R1 R2 B c wr (by omega) ?_ (by omega) e2 l2 (by omega) rfl ?_⟩
          · have := HE.out
            rw [e1] at this
            simp at this ⊢
            omega
          · have := HE.out
            rw [e1] at this
            simpa using this
          · have := HS.out.2
            rw [e1] at this
            simpa using this
        obtain ⟨E', x1, x2, x3⟩ := C.out
        have X1 := hide x1
        have X2 := hide x2
        have X3 := hide x3
        clear x1 x2 x3 C HJ HE
        go_wp2_with fail
        refine X3.out.mono ?_
        rintro e w1 ⟨rfl, s1⟩
        have S1 := hide (HS.out.trans s1)
        clear s1 HS X3
        go_wp2
        go_roundw
        case rel => exact ⟨i, j - i, E', rfl, by go_num, r1, by omega, r3, by omega, X1, X2, S1⟩
        case measure => simp [intOf]; omega
end Go.Proofs.YtcjgjkejhkhknabGreatDoor

/-
  The order that impl.ScanAll hands to the sort.
-/
namespace Go.Proofs.YtcjgjkejhkhknabGreatDoor
open Go.RowKit
open Words

def cmpV (x y : Fnd) : Int := Lib.compareInt x.key y.key
theorem cmpV_lt (x y : Fnd) : (cmpV x y < 0) ↔ x.key < y.key := by
  unfold cmpV Lib.compareInt
  split <;> (try split) <;> omega

set_option maxHeartbeats 400000 in
set_option maxRecDepth 100000 in
theorem fcmp (x y : Fnd) (w : World) :
    Calls Tryz.prog 44 #[fdVal x, fdVal y] w fun e w' => e = .returned (.int .i64 (cmpV x y)) ∧ Below w.heap.size w w' := by
  have b0 := ((Below.refl w.heap.size w).alloc (Nat.le_refl _) (.cells (fdCells x).toArray 77)).alloc (by simp) (.cells (fdCells y).toArray 77)
  have B0 := hide b0
  have HC := hide (fun W => Tryz.cmp_Compare_int x.key y.key W)
  unfold fdVal
  unfold cmpV
  unfold Fnd.key at *
  unfold fdCells at *
  generalize Lib.compareInt x.page.seq y.page.seq = r at HC
  clear b0
  go_enter Tryz.func44, Tryz.ntmps44
  go_wp2_with fail
  refine (HC.out _).mono ?_
  rintro e w1 ⟨rfl, rfl⟩
  go_wp2
  go_ret
  exact ⟨rfl, B0.out⟩

/-- The order, as a value. -/
def ordV : Value := .func (.func 44) #[] #[]
end Go.Proofs.YtcjgjkejhkhknabGreatDoor

/-
  slices.symMergeCmpFunc at what a scan found: where one side is a single element.
-/
namespace Go.Proofs.YtcjgjkejhkhknabGreatDoor
open Go.RowKit
open Words

def Cells8 (w : World) (g o : Nat) (x : Fnd) : Prop := ∀ j v, (fdCells x)[j]? = some v → w.cell? ⟨g, o + j, none⟩ = some v
/-- A call of the order that keeps the row. -/
theorem fcmp_row {w wr : World} {g : Nat} {D : List Fnd} (x y : Fnd) (h : Sorted w wr g D) : Calls Tryz.prog 44 #[fdVal x, fdVal y] wr fun e w' => e = .returned (.int .i64 (cmpV x y)) ∧ Sorted w w' g D :=
  (fcmp x y wr).mono fun _ _ ⟨he, hb⟩ => ⟨he, h.below hb⟩

set_option maxHeartbeats 2000000 in
set_option maxRecDepth 100000 in
theorem sym_left (g N cap a m b : Nat) (P R Q : List Fnd) (x : Fnd) (w : World) (hN : N ≤ 1000000000000000) (hl : (P ++ (x :: (R ++ Q))).length = N) (hP : P.length = a) (hm : a + 1 = m) (hb : m + R.length = b) (hR : Asc R) (hr : SRow w g (P ++ (x :: (R ++ Q)))) :
    Calls Tryz.prog 102 #[.slice (some ⟨g, 0, none⟩) N cap, .int .i64 a, .int .i64 m, .int .i64 b, ordV] w fun e w' => e = .returned (.tuple #[]) ∧ ∃ M, Asc M ∧ Akin (x :: R) M ∧ M.length = R.length + 1 ∧ Sorted w w' g (P ++ (M ++ Q)) := by
  have hbN : b ≤ N := by rw [← hl]; simp; omega
  obtain ⟨D, hD⟩ : ∃ D, D = P ++ (x :: (R ++ Q)) := ⟨_, rfl⟩
  rw [← hD] at hl hr
  have HD := hide hD
  have HL := hide hl
  have hXa : D[a]? = some x := by rw [hD, ← hP]; simp
  have hRt : ∀ t y, R[t]? = some y → D[m + t]? = some y := by
    intro t y hy
    have ht := (List.getElem?_eq_some_iff.1 hy).1
    rw [hD, List.getElem?_append_right (by omega)]
    have : m + t - P.length = t + 1 := by omega
    rw [this, List.getElem?_cons_succ, List.getElem?_append_left ht]
    exact hy
  have HX := hide hXa
  have HRT := hide hRt
  have HAS := hide hR
  have HS0 : Hid (Sorted w w g D) := ⟨Kept2.refl _ _, hr⟩
  have HP := hide hP
  have hma : (m : Int) - a = 1 := by omega
  obtain ⟨n, hn⟩ : ∃ n, R.length = n := ⟨_, rfl⟩
  rw [hn] at hb
  have HNN := hide hn
  have hmb : m ≤ b := by omega
  have a0 : (0 : Int) ≤ a := by omega
  have aN : (a : Int) < N := by omega
  clear hD hl hP hr hXa hRt hR hn
  unfold ordV
  go_enter Tryz.func102, Tryz.ntmps102
  go_wp2
  clear hma
  go_loopw [10, 11] (fun iv jv wr => ∃ i j : Nat, iv = .int .i64 i ∧ jv = .int .i64 j ∧ m ≤ i ∧ i ≤ j ∧ j ≤ b ∧ Hid (∀ t y, R[t]? = some y → (m + t < i → y.key < x.key) ∧ (j ≤ m + t → x.key ≤ y.key)) ∧ Hid (Sorted w wr g D)) (fun iv jv _ => (intOf jv).toNat - (intOf iv).toNat)
  case atStart => exact ⟨m, b, rfl, rfl, Nat.le_refl _, hmb, Nat.le_refl _, (fun t y hy => ⟨fun h => by omega, fun h => by have := (List.getElem?_eq_some_iff.1 hy).1; have := HNN.out; omega⟩), HS0⟩
  case round =>
    obtain ⟨i, j, rfl, rfl, r1, r2, r3, HQ, HS⟩ := hrel
    clear HS0
    by_cases hlt : (i : Int) < j
    · obtain ⟨h, hhI⟩ : ∃ h : Nat, ((i : Int) + j) / 2 = h := ⟨(i + j) / 2, by omega⟩
      have hh1 : i ≤ h ∧ h < j := by omega
      obtain ⟨y, hy⟩ : ∃ y, R[h - m]? = some y := by
        have hl : h - m < R.length := by have := HNN.out; omega
        exact ⟨_, List.getElem?_eq_getElem hl⟩
      have hY : D[h]? = some y := by have := HRT.out _ _ hy; rwa [show m + (h - m) = h by omega] at this
      have HY := hide hy
      have HDY := hide hY
      have h0 : (0 : Int) ≤ h := by omega
      have hN2 : (h : Int) < N := by omega
      clear hy hY
      by_cases hc : y.key < x.key
      · have NQ : Hid (∀ t z, R[t]? = some z → (m + t < h + 1 → z.key < x.key) ∧ (j ≤ m + t → x.key ≤ z.key)) := fun t z hz => ⟨fun ht => by have := HAS.out.le hz HY.out (by omega); omega, (HQ.out t z hz).2⟩
        have KC : Hid (∀ W, Sorted w W g D → (W.cell? ⟨g, h * 8, none⟩ = some (.int .i64 y.block) ∧ W.cell? ⟨g, h * 8 + 1, none⟩ = some (.int .i64 y.leaf) ∧ W.cell? ⟨g, h * 8 + 2, none⟩ = some (.int .i64 y.page.kind) ∧ W.cell? ⟨g, h * 8 + 3, none⟩ = some (.int .i64 y.page.seq) ∧ W.cell? ⟨g, h * 8 + 4, none⟩ = some (.int .i64 y.page.tx) ∧ W.cell? ⟨g, h * 8 + 5, none⟩ = some (.int .i64 y.page.part) ∧ W.cell? ⟨g, h * 8 + 6, none⟩ = some (.int .i64 y.page.count) ∧ W.cell? ⟨g, h * 8 + 7, none⟩ = some (.string y.page.text)) ∧ W.cell? ⟨g, a * 8, none⟩ = some (.int .i64 x.block) ∧ W.cell? ⟨g, a * 8 + 1, none⟩ = some (.int .i64 x.leaf) ∧ W.cell? ⟨g, a * 8 + 2, none⟩ = some (.int .i64 x.page.kind) ∧ W.cell? ⟨g, a * 8 + 3, none⟩ = some (.int .i64 x.page.seq) ∧ W.cell? ⟨g, a * 8 + 4, none⟩ = some (.int .i64 x.page.tx) ∧ W.cell? ⟨g, a * 8 + 5, none⟩ = some (.int .i64 x.page.part) ∧ W.cell? ⟨g, a * 8 + 6, none⟩ = some (.int .i64 x.page.count) ∧ W.cell? ⟨g, a * 8 + 7, none⟩ = some (.string x.page.text)) := fun W h => ⟨⟨h.2.cell HDY.out 0 rfl, h.2.cell HDY.out 1 rfl, h.2.cell HDY.out 2 rfl, h.2.cell HDY.out 3 rfl, h.2.cell HDY.out 4 rfl, h.2.cell HDY.out 5 rfl, h.2.cell HDY.out 6 rfl, h.2.cell HDY.out 7 rfl⟩, ⟨h.2.cell HX.out 0 rfl, h.2.cell HX.out 1 rfl, h.2.cell HX.out 2 rfl, h.2.cell HX.out 3 rfl, h.2.cell HX.out 4 rfl, h.2.cell HX.out 5 rfl, h.2.cell HX.out 6 rfl, h.2.cell HX.out 7 rfl⟩⟩
        have CC : Hid (Calls Tryz.prog 44 #[.agg #[.int .i64 y.block, .int .i64 y.leaf, .int .i64 y.page.kind, .int .i64 y.page.seq, .int .i64 y.page.tx, .int .i64 y.page.part, .int .i64 y.page.count, .string y.page.text], .agg #[.int .i64 x.block, .int .i64 x.leaf, .int .i64 x.page.kind, .int .i64 x.page.seq, .int .i64 x.page.tx, .int .i64 x.page.part, .int .i64 x.page.count, .string x.page.text]] wr.drew fun e w' => e = .returned (.int .i64 (cmpV y x)) ∧ Sorted w w' g D) := fcmp_row y x HS.out.drew
        obtain ⟨r, hrr⟩ : ∃ r, r = cmpV y x := ⟨_, rfl⟩
        have hr0 : decide (r < 0) = true := by rw [hrr]; exact decide_eq_true ((cmpV_lt _ _).2 hc)
        rw [← hrr] at CC
        have K0 := hide (KC.out _ HS.out)
        have K0d := hide (KC.out _ HS.out.drew)
        obtain ⟨⟨c0, c1, c2, c3, c4, c5, c6, c7⟩, d0, d1, d2, d3, d4, d5, d6, d7⟩ := K0.out
        clear hrr
        go_wp2
        go_region_held3 (fun w' => (w'.cell? ⟨g, h * 8, none⟩ = some (.int .i64 y.block) ∧ w'.cell? ⟨g, h * 8 + 1, none⟩ = some (.int .i64 y.leaf) ∧ w'.cell? ⟨g, h * 8 + 2, none⟩ = some (.int .i64 y.page.kind) ∧ w'.cell? ⟨g, h * 8 + 3, none⟩ = some (.int .i64 y.page.seq) ∧ w'.cell? ⟨g, h * 8 + 4, none⟩ = some (.int .i64 y.page.tx) ∧ w'.cell? ⟨g, h * 8 + 5, none⟩ = some (.int .i64 y.page.part) ∧ w'.cell? ⟨g, h * 8 + 6, none⟩ = some (.int .i64 y.page.count) ∧ w'.cell? ⟨g, h * 8 + 7, none⟩ = some (.string y.page.text)) ∧ w'.cell? ⟨g, a * 8, none⟩ = some (.int .i64 x.block) ∧ w'.cell? ⟨g, a * 8 + 1, none⟩ = some (.int .i64 x.leaf) ∧ w'.cell? ⟨g, a * 8 + 2, none⟩ = some (.int .i64 x.page.kind) ∧ w'.cell? ⟨g, a * 8 + 3, none⟩ = some (.int .i64 x.page.seq) ∧ w'.cell? ⟨g, a * 8 + 4, none⟩ = some (.int .i64 x.page.tx) ∧ w'.cell? ⟨g, a * 8 + 5, none⟩ = some (.int .i64 x.page.part) ∧ w'.cell? ⟨g, a * 8 + 6, none⟩ = some (.int .i64 x.page.count) ∧ w'.cell? ⟨g, a * 8 + 7, none⟩ = some (.string x.page.text)) (first | go_keep | exact K0d.out | exact K2.out) ((go_at_call 44; (with_reducible refine Calls.mono CC.out ?_); rintro e w2 ⟨rfl, s2⟩; have S2 := hide s2; have K2 := hide (KC.out _ s2); clear s2))
        all_goals
          go_wp2
          go_roundw
          case rel => exact ⟨h + 1, j, by go_num, rfl, by omega, by omega, r3, NQ, S2⟩
          case measure => simp [intOf]; omega
      · have NQ : Hid (∀ t z, R[t]? = some z → (m + t < i → z.key < x.key) ∧ (h ≤ m + t → x.key ≤ z.key)) := fun t z hz => ⟨(HQ.out t z hz).1, fun ht => by have := HAS.out.le HY.out hz (by omega); omega⟩
        have KC : Hid (∀ W, Sorted w W g D → (W.cell? ⟨g, h * 8, none⟩ = some (.int .i64 y.block) ∧ W.cell? ⟨g, h * 8 + 1, none⟩ = some (.int .i64 y.leaf) ∧ W.cell? ⟨g, h * 8 + 2, none⟩ = some (.int .i64 y.page.kind) ∧ W.cell? ⟨g, h * 8 + 3, none⟩ = some (.int .i64 y.page.seq) ∧ W.cell? ⟨g, h * 8 + 4, none⟩ = some (.int .i64 y.page.tx) ∧ W.cell? ⟨g, h * 8 + 5, none⟩ = some (.int .i64 y.page.part) ∧ W.cell? ⟨g, h * 8 + 6, none⟩ = some (.int .i64 y.page.count) ∧ W.cell? ⟨g, h * 8 + 7, none⟩ = some (.string y.page.text)) ∧ W.cell? ⟨g, a * 8, none⟩ = some (.int .i64 x.block) ∧ W.cell? ⟨g, a * 8 + 1, none⟩ = some (.int .i64 x.leaf) ∧ W.cell? ⟨g, a * 8 + 2, none⟩ = some (.int .i64 x.page.kind) ∧ W.cell? ⟨g, a * 8 + 3, none⟩ = some (.int .i64 x.page.seq) ∧ W.cell? ⟨g, a * 8 + 4, none⟩ = some (.int .i64 x.page.tx) ∧ W.cell? ⟨g, a * 8 + 5, none⟩ = some (.int .i64 x.page.part) ∧ W.cell? ⟨g, a * 8 + 6, none⟩ = some (.int .i64 x.page.count) ∧ W.cell? ⟨g, a * 8 + 7, none⟩ = some (.string x.page.text)) := fun W h => ⟨⟨h.2.cell HDY.out 0 rfl, h.2.cell HDY.out 1 rfl, h.2.cell HDY.out 2 rfl, h.2.cell HDY.out 3 rfl, h.2.cell HDY.out 4 rfl, h.2.cell HDY.out 5 rfl, h.2.cell HDY.out 6 rfl, h.2.cell HDY.out 7 rfl⟩, ⟨h.2.cell HX.out 0 rfl, h.2.cell HX.out 1 rfl, h.2.cell HX.out 2 rfl, h.2.cell HX.out 3 rfl, h.2.cell HX.out 4 rfl, h.2.cell HX.out 5 rfl, h.2.cell HX.out 6 rfl, h.2.cell HX.out 7 rfl⟩⟩
        have CC : Hid (Calls Tryz.prog 44 #[.agg #[.int .i64 y.block, .int .i64 y.leaf, .int .i64 y.page.kind, .int .i64 y.page.seq, .int .i64 y.page.tx, .int .i64 y.page.part, .int .i64 y.page.count, .string y.page.text], .agg #[.int .i64 x.block, .int .i64 x.leaf, .int .i64 x.page.kind, .int .i64 x.page.seq, .int .i64 x.page.tx, .int .i64 x.page.part, .int .i64 x.page.count, .string x.page.text]] wr.drew fun e w' => e = .returned (.int .i64 (cmpV y x)) ∧ Sorted w w' g D) := fcmp_row y x HS.out.drew
        obtain ⟨r, hrr⟩ : ∃ r, r = cmpV y x := ⟨_, rfl⟩
        have hr0 : decide (r < 0) = false := by rw [hrr]; exact decide_eq_false (fun e => hc ((cmpV_lt _ _).1 e))
        rw [← hrr] at CC
        have K0 := hide (KC.out _ HS.out)
        have K0d := hide (KC.out _ HS.out.drew)
        obtain ⟨⟨c0, c1, c2, c3, c4, c5, c6, c7⟩, d0, d1, d2, d3, d4, d5, d6, d7⟩ := K0.out
        clear hrr
        go_wp2
        go_region_held3 (fun w' => (w'.cell? ⟨g, h * 8, none⟩ = some (.int .i64 y.block) ∧ w'.cell? ⟨g, h * 8 + 1, none⟩ = some (.int .i64 y.leaf) ∧ w'.cell? ⟨g, h * 8 + 2, none⟩ = some (.int .i64 y.page.kind) ∧ w'.cell? ⟨g, h * 8 + 3, none⟩ = some (.int .i64 y.page.seq) ∧ w'.cell? ⟨g, h * 8 + 4, none⟩ = some (.int .i64 y.page.tx) ∧ w'.cell? ⟨g, h * 8 + 5, none⟩ = some (.int .i64 y.page.part) ∧ w'.cell? ⟨g, h * 8 + 6, none⟩ = some (.int .i64 y.page.count) ∧ w'.cell? ⟨g, h * 8 + 7, none⟩ = some (.string y.page.text)) ∧ w'.cell? ⟨g, a * 8, none⟩ = some (.int .i64 x.block) ∧ w'.cell? ⟨g, a * 8 + 1, none⟩ = some (.int .i64 x.leaf) ∧ w'.cell? ⟨g, a * 8 + 2, none⟩ = some (.int .i64 x.page.kind) ∧ w'.cell? ⟨g, a * 8 + 3, none⟩ = some (.int .i64 x.page.seq) ∧ w'.cell? ⟨g, a * 8 + 4, none⟩ = some (.int .i64 x.page.tx) ∧ w'.cell? ⟨g, a * 8 + 5, none⟩ = some (.int .i64 x.page.part) ∧ w'.cell? ⟨g, a * 8 + 6, none⟩ = some (.int .i64 x.page.count) ∧ w'.cell? ⟨g, a * 8 + 7, none⟩ = some (.string x.page.text)) (first | go_keep | exact K0d.out | exact K2.out) ((go_at_call 44; (with_reducible refine Calls.mono CC.out ?_); rintro e w2 ⟨rfl, s2⟩; have S2 := hide s2; have K2 := hide (KC.out _ s2); clear s2))
        all_goals
          go_wp2
          go_roundw
          case rel => exact ⟨i, h, rfl, rfl, r1, by omega, by omega, NQ, S2⟩
          case measure => simp [intOf]; omega
    · have hij : i = j := by omega
      subst hij
      obtain ⟨il, hil⟩ : ∃ il : Nat, (i : Int) - 1 = il := ⟨i - 1, by omega⟩
      obtain ⟨R1, R2, eR, l1⟩ : ∃ R1 R2, R = R1 ++ R2 ∧ R1.length = i - m := ⟨R.take (i - m), R.drop (i - m), (List.take_append_drop _ _).symm, by rw [List.length_take]; have := HNN.out; omega⟩
      have hlow : ∀ y ∈ R1, y.key < x.key := by
        intro y hy
        obtain ⟨t, ht⟩ := List.getElem?_of_mem hy
        have ht2 := (List.getElem?_eq_some_iff.1 ht).1
        exact (HQ.out t y (by rw [eR, List.getElem?_append_left ht2]; exact ht)).1 (by omega)
      have hhigh : ∀ y ∈ R2, x.key ≤ y.key := by
        intro y hy
        obtain ⟨t, ht⟩ := List.getElem?_of_mem hy
        exact (HQ.out (R1.length + t) y (by rw [eR, List.getElem?_append_right (by omega)]; simpa using ht)).2 (by omega)
      have MA : Hid (Asc (R1 ++ x :: R2)) := by
        have h1 := HAS.out
        rw [eR] at h1
        refine Asc.app h1.left (List.pairwise_cons.2 ⟨hhigh, h1.right⟩) ?_
        intro u hu v hv
        rcases List.mem_cons.1 hv with e | e
        · subst e; exact Int.le_of_lt (hlow u hu)
        · exact h1.across u hu v e
      have MK : Hid (Akin (x :: R) (R1 ++ x :: R2)) := by
        show Akin _ _
        rw [eR]
        have := (Akin.flip (a := [x]) (b := R1) (fun u hu v hv => by rw [List.mem_singleton] at hu; subst hu; have := hlow v hv; omega)).app (Akin.refl R2)
        simpa using this
      have ML : Hid ((R1 ++ x :: R2).length = R.length + 1) := by show _ = _; rw [eR]; simp; omega
      have E0 : Hid (D = P ++ ([] ++ (x :: (R1 ++ (R2 ++ Q))))) := by show _ = _; rw [HD.out, eR]; simp
      have S0 := HS
      clear hlow hhigh eR HQ HRT HX HAS
      go_wp2
      go_loopw [13] (fun kv wr => ∃ (k : Nat) (E U V : List Fnd), kv = .int .i64 k ∧ a ≤ k ∧ k ≤ il ∧ Hid (U.length = k - a ∧ U ++ V = R1 ∧ E = P ++ (U ++ (x :: (V ++ (R2 ++ Q))))) ∧ Hid (E.length = N) ∧ Hid (Sorted w wr g E)) (fun kv _ => il - (intOf kv).toNat)
      case atStart => exact ⟨a, D, [], R1, rfl, Nat.le_refl _, by omega, ⟨by simp, rfl, E0.out⟩, HL, S0⟩
      case round =>
        obtain ⟨k, E, U, V, rfl, r4, r5, HU, HEL, HS⟩ := hrel
        obtain ⟨u1, u2, u3⟩ := HU.out
        by_cases hk : (k : Int) < il
        · match V, u2, u3 with
          | [], u2, _ => simp at u2; subst u2; omega
          | v :: V', u2, u3 =>
            obtain ⟨q, hqI⟩ : ∃ q : Nat, (k : Int) + 1 = q := ⟨k + 1, by omega⟩
            have hqw : IntKind.i64.wrap ((k : Int) + 1) = q := by rw [IntKind.wrap_i64]; omega
            have eE : E = (P ++ U) ++ x :: ([] ++ v :: (V' ++ (R2 ++ Q))) := by rw [u3]; simp
            have lPU : (P ++ U).length = k := by rw [List.length_append]; have := HP.out; omega
            have hp : E[k]? = some x := by rw [eE, ← lPU]; simp
            have hq : E[q]? = some v := by
              rw [eE, List.getElem?_append_right (by omega)]
              have : q - (P ++ U).length = 1 := by omega
              rw [this]
              rfl
            have hset : (E.set k v).set q x = P ++ ((U ++ [v]) ++ (x :: (V' ++ (R2 ++ Q)))) := by
              have := set_two (P ++ U) [] (V' ++ (R2 ++ Q)) x v
              rw [lPU, ← eE] at this
              rw [show q = k + 1 + ([] : List Fnd).length by simp; omega, this]
              simp
            have NU : Hid ((U ++ [v]).length = (k + 1) - a ∧ (U ++ [v]) ++ V' = R1 ∧ (E.set k v).set q x = P ++ ((U ++ [v]) ++ (x :: (V' ++ (R2 ++ Q))))) := ⟨by simp; omega, by rw [← u2]; simp, hset⟩
            have NL : Hid (((E.set k v).set q x).length = N) := by show _ = _; rw [List.length_set, List.length_set]; exact HEL.out
            have k0 : (0 : Int) ≤ k := by omega
            have q0 : (0 : Int) ≤ q := by omega
            have kN : (k : Int) < N := by omega
            have qN : (q : Int) < N := by omega
            have HPp := hide hp
            have HQq := hide hq
            have hkq : k + 1 = q := by omega
            clear hp hq eE lPU hset u1 u2 u3 HU
            obtain ⟨hs3, hk3⟩ := HS.out.2.swap HPp.out HQq.out
            have NX : Hid (Sorted w (put8 (put8 wr g (k * 8) v) g (q * 8) x) g ((E.set k v).set q x)) := ⟨HS.out.1.trans hk3, hs3⟩
            have x0 : wr.cell? ⟨g, k * 8, none⟩ = some (.int .i64 x.block) := HS.out.2.cell HPp.out 0 rfl
            have z0 : wr.cell? ⟨g, q * 8, none⟩ = some (.int .i64 v.block) := HS.out.2.cell HQq.out 0 rfl
            have k0 := HS.out.2.frozen (k * 8)
            have l0 := HS.out.2.frozen (q * 8)
            have x1 : wr.cell? ⟨g, k * 8 + 1, none⟩ = some (.int .i64 x.leaf) := HS.out.2.cell HPp.out 1 rfl
            have z1 : wr.cell? ⟨g, q * 8 + 1, none⟩ = some (.int .i64 v.leaf) := HS.out.2.cell HQq.out 1 rfl
            have k1 := HS.out.2.frozen (k * 8 + 1)
            have l1 := HS.out.2.frozen (q * 8 + 1)
            have x2 : wr.cell? ⟨g, k * 8 + 2, none⟩ = some (.int .i64 x.page.kind) := HS.out.2.cell HPp.out 2 rfl
            have z2 : wr.cell? ⟨g, q * 8 + 2, none⟩ = some (.int .i64 v.page.kind) := HS.out.2.cell HQq.out 2 rfl
            have k2 := HS.out.2.frozen (k * 8 + 2)
            have l2 := HS.out.2.frozen (q * 8 + 2)
            have x3 : wr.cell? ⟨g, k * 8 + 3, none⟩ = some (.int .i64 x.page.seq) := HS.out.2.cell HPp.out 3 rfl
            have z3 : wr.cell? ⟨g, q * 8 + 3, none⟩ = some (.int .i64 v.page.seq) := HS.out.2.cell HQq.out 3 rfl
            have k3 := HS.out.2.frozen (k * 8 + 3)
            have l3 := HS.out.2.frozen (q * 8 + 3)
            have x4 : wr.cell? ⟨g, k * 8 + 4, none⟩ = some (.int .i64 x.page.tx) := HS.out.2.cell HPp.out 4 rfl
            have z4 : wr.cell? ⟨g, q * 8 + 4, none⟩ = some (.int .i64 v.page.tx) := HS.out.2.cell HQq.out 4 rfl
            have k4 := HS.out.2.frozen (k * 8 + 4)
            have l4 := HS.out.2.frozen (q * 8 + 4)
            have x5 : wr.cell? ⟨g, k * 8 + 5, none⟩ = some (.int .i64 x.page.part) := HS.out.2.cell HPp.out 5 rfl
            have z5 : wr.cell? ⟨g, q * 8 + 5, none⟩ = some (.int .i64 v.page.part) := HS.out.2.cell HQq.out 5 rfl
            have k5 := HS.out.2.frozen (k * 8 + 5)
            have l5 := HS.out.2.frozen (q * 8 + 5)
            have x6 : wr.cell? ⟨g, k * 8 + 6, none⟩ = some (.int .i64 x.page.count) := HS.out.2.cell HPp.out 6 rfl
            have z6 : wr.cell? ⟨g, q * 8 + 6, none⟩ = some (.int .i64 v.page.count) := HS.out.2.cell HQq.out 6 rfl
            have k6 := HS.out.2.frozen (k * 8 + 6)
            have l6 := HS.out.2.frozen (q * 8 + 6)
            have x7 : wr.cell? ⟨g, k * 8 + 7, none⟩ = some (.string x.page.text) := HS.out.2.cell HPp.out 7 rfl
            have z7 : wr.cell? ⟨g, q * 8 + 7, none⟩ = some (.string v.page.text) := HS.out.2.cell HQq.out 7 rfl
            have k7 := HS.out.2.frozen (k * 8 + 7)
            have l7 := HS.out.2.frozen (q * 8 + 7)
            have y0 := (put8_far wr g (k * 8) (q * 8) v (by omega)).trans z0
            have y1 := (put8_far wr g (k * 8) (q * 8 + 1) v (by omega)).trans z1
            have y2 := (put8_far wr g (k * 8) (q * 8 + 2) v (by omega)).trans z2
            have y3 := (put8_far wr g (k * 8) (q * 8 + 3) v (by omega)).trans z3
            have y4 := (put8_far wr g (k * 8) (q * 8 + 4) v (by omega)).trans z4
            have y5 := (put8_far wr g (k * 8) (q * 8 + 5) v (by omega)).trans z5
            have y6 := (put8_far wr g (k * 8) (q * 8 + 6) v (by omega)).trans z6
            have y7 := (put8_far wr g (k * 8) (q * 8 + 7) v (by omega)).trans z7
            unfold put8 at y0 y1 y2 y3 y4 y5 y6 y7
            clear hs3 hk3
            go_wp2
            go_region
            have ND := hide NX.out.drew
            unfold put8 at ND
            go_wp2
            go_roundw
            case rel => exact ⟨k + 1, _, U ++ [v], V', by go_num, by omega, by omega, NU, NL, ND⟩
            case measure => simp [intOf]; omega
        · have hV : V = [] := by
            have h1 := congrArg List.length u2
            rw [List.length_append] at h1
            exact List.eq_nil_of_length_eq_zero (by omega)
          subst hV
          have hE : E = P ++ ((R1 ++ x :: R2) ++ Q) := by rw [u3, ← u2]; simp
          subst hE
          clear u1 u2 u3 HU
          go_wp2
          first | go_end0 | refine bodyPost_ret (results_none rfl _ _ _) rfl ?_
          exact ⟨rfl, R1 ++ x :: R2, MA.out, MK.out, ML.out, HS.out⟩
end Go.Proofs.YtcjgjkejhkhknabGreatDoor
