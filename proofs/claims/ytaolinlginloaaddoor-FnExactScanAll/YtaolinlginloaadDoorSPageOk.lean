/-
  spec.PageOk.
-/
import Derived.Test.YtaolinlginloaadDoorPk17
import Derived.Test.YtaolinlginloaadDoorPk30
namespace Go.Proofs.YtaolinlginloaadDoor
open Go.RowKit
open Words

theorem right_spec (k s x q c : Int) (t : ByteArray) : (Pg.mk k s x q c t).Right ↔ (1 ≤ k ∧ k ≤ 2) ∧ (1 ≤ s ∧ s ≤ 1000000000) ∧ (1 ≤ x ∧ x ≤ 1000000000) ∧ (1 ≤ c ∧ c ≤ 9) ∧ (0 ≤ q ∧ q ≤ c - 1) ∧ (t.size : Int) ≤ 90 ∧ (k = 2 ∨ c = 1) := by
  unfold Pg.Right
  simp only
  omega

theorem cell_new6 (w w1 : World) (a b c d e f : Value) (ty : TypeId) (hb : Below (w.alloc (.cells #[a, b, c, d, e, f] ty)).heap.size (w.alloc (.cells #[a, b, c, d, e, f] ty)) w1) :
    w1.cell? ⟨w.heap.size, 0, none⟩ = some a ∧ w1.cell? ⟨w.heap.size, 1, none⟩ = some b ∧ w1.cell? ⟨w.heap.size, 2, none⟩ = some c ∧ w1.cell? ⟨w.heap.size, 3, none⟩ = some d ∧ w1.cell? ⟨w.heap.size, 4, none⟩ = some e ∧ w1.cell? ⟨w.heap.size, 5, none⟩ = some f := by
  refine ⟨?_, ?_, ?_, ?_, ?_, ?_⟩ <;> (rw [hb.cell (by simp)]; simp)

set_option maxHeartbeats 1000000 in
set_option maxRecDepth 100000 in
theorem spageOk (p : Pg) (w : World) :
    Calls Tryd.prog 45 #[pgVal p] w fun e w' => e = .returned (.bool (@decide p.Right p.decR)) ∧ Below w.heap.size w w' := by
  obtain ⟨k, s, x, q, c, t⟩ := p
  have HE := hide (right_spec k s x q c t)
  have HB := hide ((Below.refl w.heap.size w).alloc (Nat.le_refl _) (.cells #[.int .i64 k, .int .i64 s, .int .i64 x, .int .i64 q, .int .i64 c, .string t] 45))
  unfold pgVal
  simp only
  by_cases a1 : 1 ≤ k ∧ k ≤ 2
  · by_cases a2 : 1 ≤ s ∧ s ≤ 1000000000
    · by_cases a3 : 1 ≤ x ∧ x ≤ 1000000000
      · by_cases a4 : 1 ≤ c ∧ c ≤ 9
        · have ew : IntKind.i64.wrap (c - 1) = c - 1 := by rw [IntKind.wrap_i64]; omega
          by_cases a5 : 0 ≤ q ∧ q ≤ c - 1
          · by_cases a6 : 90 < (t.size : Int)
            · go_enter Tryd.func45, Tryd.ntmps45
              go_wp2_with fail
              refine (sin_b k 1 2 true _ (.inl ⟨a1.1, a1.2, rfl⟩)).mono ?_
              rintro e w1 ⟨rfl, rfl⟩
              go_wp2_with fail
              refine (sin_b s 1 1000000000 true _ (.inl ⟨a2.1, a2.2, rfl⟩)).mono ?_
              rintro e w1 ⟨rfl, rfl⟩
              go_wp2_with fail
              refine (sin_b x 1 1000000000 true _ (.inl ⟨a3.1, a3.2, rfl⟩)).mono ?_
              rintro e w1 ⟨rfl, rfl⟩
              go_wp2_with fail
              refine (sin_b c 1 9 true _ (.inl ⟨a4.1, a4.2, rfl⟩)).mono ?_
              rintro e w1 ⟨rfl, rfl⟩
              go_wp2_with fail
              refine (sin_b q 0 (c - 1) true _ (.inl ⟨a5.1, a5.2, rfl⟩)).mono ?_
              rintro e w1 ⟨rfl, rfl⟩
              go_wp2
              go_ret
              exact ⟨by rw [dcN (fun h => by have := HE.out.1 h; omega)]; rfl, HB.out⟩
            · by_cases a7 : (k == 2) = true
              · go_enter Tryd.func45, Tryd.ntmps45
                go_wp2_with fail
                refine (sin_b k 1 2 true _ (.inl ⟨a1.1, a1.2, rfl⟩)).mono ?_
                rintro e w1 ⟨rfl, rfl⟩
                go_wp2_with fail
                refine (sin_b s 1 1000000000 true _ (.inl ⟨a2.1, a2.2, rfl⟩)).mono ?_
                rintro e w1 ⟨rfl, rfl⟩
                go_wp2_with fail
                refine (sin_b x 1 1000000000 true _ (.inl ⟨a3.1, a3.2, rfl⟩)).mono ?_
                rintro e w1 ⟨rfl, rfl⟩
                go_wp2_with fail
                refine (sin_b c 1 9 true _ (.inl ⟨a4.1, a4.2, rfl⟩)).mono ?_
                rintro e w1 ⟨rfl, rfl⟩
                go_wp2_with fail
                refine (sin_b q 0 (c - 1) true _ (.inl ⟨a5.1, a5.2, rfl⟩)).mono ?_
                rintro e w1 ⟨rfl, rfl⟩
                go_wp2
                go_ret
                exact ⟨by simp at a7; rw [dcY (HE.out.2 (by omega))]; rfl, HB.out⟩
              · have a7 : (k == 2) = false := by simpa using a7
                go_enter Tryd.func45, Tryd.ntmps45
                go_wp2_with fail
                refine (sin_b k 1 2 true _ (.inl ⟨a1.1, a1.2, rfl⟩)).mono ?_
                rintro e w1 ⟨rfl, rfl⟩
                go_wp2_with fail
                refine (sin_b s 1 1000000000 true _ (.inl ⟨a2.1, a2.2, rfl⟩)).mono ?_
                rintro e w1 ⟨rfl, rfl⟩
                go_wp2_with fail
                refine (sin_b x 1 1000000000 true _ (.inl ⟨a3.1, a3.2, rfl⟩)).mono ?_
                rintro e w1 ⟨rfl, rfl⟩
                go_wp2_with fail
                refine (sin_b c 1 9 true _ (.inl ⟨a4.1, a4.2, rfl⟩)).mono ?_
                rintro e w1 ⟨rfl, rfl⟩
                go_wp2_with fail
                refine (sin_b q 0 (c - 1) true _ (.inl ⟨a5.1, a5.2, rfl⟩)).mono ?_
                rintro e w1 ⟨rfl, rfl⟩
                go_wp2
                go_ret
                refine ⟨?_, HB.out⟩
                simp at a7
                have e : @decide (Pg.mk k s x q c t).Right (Pg.mk k s x q c t).decR = (c == 1) := by
                  by_cases b : c = 1
                  · rw [dcY (HE.out.2 (by omega))]; simp [b]
                  · rw [dcN (fun h => by have := HE.out.1 h; omega)]; simp [b]
                rw [e]
                rfl
          · go_enter Tryd.func45, Tryd.ntmps45
            go_wp2_with fail
            refine (sin_b k 1 2 true _ (.inl ⟨a1.1, a1.2, rfl⟩)).mono ?_
            rintro e w1 ⟨rfl, rfl⟩
            go_wp2_with fail
            refine (sin_b s 1 1000000000 true _ (.inl ⟨a2.1, a2.2, rfl⟩)).mono ?_
            rintro e w1 ⟨rfl, rfl⟩
            go_wp2_with fail
            refine (sin_b x 1 1000000000 true _ (.inl ⟨a3.1, a3.2, rfl⟩)).mono ?_
            rintro e w1 ⟨rfl, rfl⟩
            go_wp2_with fail
            refine (sin_b c 1 9 true _ (.inl ⟨a4.1, a4.2, rfl⟩)).mono ?_
            rintro e w1 ⟨rfl, rfl⟩
            go_wp2_with fail
            refine (sin_b q 0 (c - 1) false _ (.inr ⟨by omega, rfl⟩)).mono ?_
            rintro e w1 ⟨rfl, rfl⟩
            go_wp2
            go_ret
            exact ⟨by rw [dcN (fun h => by have := HE.out.1 h; omega)]; rfl, HB.out⟩
        · go_enter Tryd.func45, Tryd.ntmps45
          go_wp2_with fail
          refine (sin_b k 1 2 true _ (.inl ⟨a1.1, a1.2, rfl⟩)).mono ?_
          rintro e w1 ⟨rfl, rfl⟩
          go_wp2_with fail
          refine (sin_b s 1 1000000000 true _ (.inl ⟨a2.1, a2.2, rfl⟩)).mono ?_
          rintro e w1 ⟨rfl, rfl⟩
          go_wp2_with fail
          refine (sin_b x 1 1000000000 true _ (.inl ⟨a3.1, a3.2, rfl⟩)).mono ?_
          rintro e w1 ⟨rfl, rfl⟩
          go_wp2_with fail
          refine (sin_b c 1 9 false _ (.inr ⟨by omega, rfl⟩)).mono ?_
          rintro e w1 ⟨rfl, rfl⟩
          go_wp2
          go_ret
          exact ⟨by rw [dcN (fun h => by have := HE.out.1 h; omega)]; rfl, HB.out⟩
      · go_enter Tryd.func45, Tryd.ntmps45
        go_wp2_with fail
        refine (sin_b k 1 2 true _ (.inl ⟨a1.1, a1.2, rfl⟩)).mono ?_
        rintro e w1 ⟨rfl, rfl⟩
        go_wp2_with fail
        refine (sin_b s 1 1000000000 true _ (.inl ⟨a2.1, a2.2, rfl⟩)).mono ?_
        rintro e w1 ⟨rfl, rfl⟩
        go_wp2_with fail
        refine (sin_b x 1 1000000000 false _ (.inr ⟨by omega, rfl⟩)).mono ?_
        rintro e w1 ⟨rfl, rfl⟩
        go_wp2
        go_ret
        exact ⟨by rw [dcN (fun h => by have := HE.out.1 h; omega)]; rfl, HB.out⟩
    · go_enter Tryd.func45, Tryd.ntmps45
      go_wp2_with fail
      refine (sin_b k 1 2 true _ (.inl ⟨a1.1, a1.2, rfl⟩)).mono ?_
      rintro e w1 ⟨rfl, rfl⟩
      go_wp2_with fail
      refine (sin_b s 1 1000000000 false _ (.inr ⟨by omega, rfl⟩)).mono ?_
      rintro e w1 ⟨rfl, rfl⟩
      go_wp2
      go_ret
      exact ⟨by rw [dcN (fun h => by have := HE.out.1 h; omega)]; rfl, HB.out⟩
  · go_enter Tryd.func45, Tryd.ntmps45
    go_wp2_with fail
    refine (sin_b k 1 2 false _ (.inr ⟨by omega, rfl⟩)).mono ?_
    rintro e w1 ⟨rfl, rfl⟩
    go_wp2
    go_ret
    exact ⟨by rw [dcN (fun h => by have := HE.out.1 h; omega)]; rfl, HB.out⟩
end Go.Proofs.YtaolinlginloaadDoor
