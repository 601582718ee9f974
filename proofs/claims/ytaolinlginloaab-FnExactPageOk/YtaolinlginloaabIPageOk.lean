/-
  impl.PageOk.
-/
import Derived.Test.YtaolinlginloaabPgV
import Derived.Test.YtaolinlginloaabBase
import Derived.Test.YtaolinlginloaabPgMath
namespace Go.Proofs.Ytaolinlginloaab
open Go.RowKit
open Words


def partP (k q c : Int) : Prop := k = 1 ∧ c = 1 ∧ q = 0 ∨ k = 2 ∧ 1 ≤ c ∧ c ≤ 9 ∧ 0 ≤ q ∧ q < c
def partB (k q c : Int) : Bool := decide (k = 1 ∧ c = 1 ∧ q = 0 ∨ k = 2 ∧ 1 ≤ c ∧ c ≤ 9 ∧ 0 ≤ q ∧ q < c)
theorem partB_yes {k q c : Int} (h : partP k q c) : partB k q c = true := dcY h
theorem partB_no {k q c : Int} (h : ¬ partP k q c) : partB k q c = false := dcN h

set_option maxHeartbeats 400000 in
set_option maxRecDepth 100000 in
theorem ipart_any (k s x q c : Int) (t : ByteArray) (w : World) :
    Calls Try.prog 22 #[.agg #[.int .i64 k, .int .i64 s, .int .i64 x, .int .i64 q, .int .i64 c, .string t]] w fun e w' => e = .returned (.bool (partB k q c)) ∧ Below w.heap.size w w' := by
  have HB := hide ((Below.refl w.heap.size w).alloc (Nat.le_refl _) (.cells #[.int .i64 k, .int .i64 s, .int .i64 x, .int .i64 q, .int .i64 c, .string t] 36))
  by_cases h1 : k = 1
  · subst h1
    have HE : Hid (partB 1 q c = (decide (c = 1) && decide (q = 0))) := by
      show _ = _
      by_cases a : c = 1 <;> by_cases b : q = 0 <;> simp [partB, a, b]
    by_cases a : (c == 1) = true
    · go_enter Try.func22, Try.ntmps22
      go_wp2
      go_ret
      exact ⟨by rw [HE.out]; simp at a; by_cases b : q = 0 <;> simp [a, b], HB.out⟩
    · have a : (c == 1) = false := by simpa using a
      go_enter Try.func22, Try.ntmps22
      go_wp2
      go_ret
      exact ⟨by rw [HE.out]; simp at a; by_cases b : q = 0 <;> simp [a, b], HB.out⟩
  · have h1' : (k == 1) = false := by simpa using h1
    by_cases h2 : k = 2
    · subst h2
      have HE : Hid (partB 2 q c = decide (1 ≤ c ∧ c ≤ 9 ∧ 0 ≤ q ∧ q < c)) := by
        show _ = _
        simp [partB]
      clear h1 h1'
      by_cases a1 : 1 ≤ c
      · by_cases a2 : c ≤ 9
        · by_cases a3 : 0 ≤ q
          · go_enter Try.func22, Try.ntmps22
            go_wp2
            go_ret
            exact ⟨by rw [HE.out]; simp [a1, a2, a3], HB.out⟩
          · go_enter Try.func22, Try.ntmps22
            go_wp2
            go_ret
            exact ⟨by rw [HE.out]; simp; omega, HB.out⟩
        · go_enter Try.func22, Try.ntmps22
          go_wp2
          go_ret
          exact ⟨by rw [HE.out]; simp; omega, HB.out⟩
      · go_enter Try.func22, Try.ntmps22
        go_wp2
        go_ret
        exact ⟨by rw [HE.out]; simp; omega, HB.out⟩
    · have h2' : (k == 2) = false := by simpa using h2
      have HE : Hid (partB k q c = false) := by
        show _ = _
        simp [partB, h1, h2]
      clear h1 h2
      go_enter Try.func22, Try.ntmps22
      go_wp2
      go_ret
      exact ⟨by rw [HE.out]; rfl, HB.out⟩

theorem right_eq (k s x q c : Int) (t : ByteArray) : (Pg.mk k s x q c t).Right ↔ (1 ≤ s ∧ s ≤ 1000000000 ∧ 1 ≤ x ∧ x ≤ 1000000000) ∧ partP k q c ∧ (t.size : Int) ≤ 90 := by
  unfold Pg.Right partP
  simp only
  constructor
  · rintro ⟨h, h1, h2, h3, h4, h5⟩; exact ⟨⟨h1, h2, h3, h4⟩, h, h5⟩
  · rintro ⟨⟨h1, h2, h3, h4⟩, h, h5⟩; exact ⟨h, h1, h2, h3, h4, h5⟩

set_option maxHeartbeats 400000 in
set_option maxRecDepth 100000 in
theorem ipageOk (p : Pg) (w : World) :
    Calls Try.prog 15 #[pgVal p] w fun e w' => e = .returned (.bool (@decide p.Right p.decR)) ∧ Below w.heap.size w w' := by
  obtain ⟨k, s, x, q, c, t⟩ := p
  have HE := hide (right_eq k s x q c t)
  have HB := hide ((Below.refl w.heap.size w).alloc (Nat.le_refl _) (.cells #[.int .i64 k, .int .i64 s, .int .i64 x, .int .i64 q, .int .i64 c, .string t] 36))
  unfold pgVal
  simp only
  by_cases a1 : s < 1
  · go_enter Try.func15, Try.ntmps15
    go_wp2
    go_ret
    exact ⟨by rw [dcN (fun h => by have := (HE.out.1 h).1; omega)]; rfl, HB.out⟩
  by_cases a2 : 1000000000 < s
  · go_enter Try.func15, Try.ntmps15
    go_wp2
    go_ret
    exact ⟨by rw [dcN (fun h => by have := (HE.out.1 h).1; omega)]; rfl, HB.out⟩
  by_cases a3 : x < 1
  · go_enter Try.func15, Try.ntmps15
    go_wp2
    go_ret
    exact ⟨by rw [dcN (fun h => by have := (HE.out.1 h).1; omega)]; rfl, HB.out⟩
  by_cases a4 : 1000000000 < x
  · go_enter Try.func15, Try.ntmps15
    go_wp2
    go_ret
    exact ⟨by rw [dcN (fun h => by have := (HE.out.1 h).1; omega)]; rfl, HB.out⟩
  by_cases a5 : partP k q c
  · go_enter Try.func15, Try.ntmps15
    go_wp2_with fail
    refine (ipart_any k s x q c t _).mono ?_
    rintro e w1 ⟨rfl, hb⟩
    rw [partB_yes a5]
    have A5 := hide a5
    clear a5
    have hs := HB.out.size
    have kp : ∀ i, i < 6 → w1.cell? ⟨w.heap.size, i, none⟩ = (w.alloc (.cells #[.int .i64 k, .int .i64 s, .int .i64 x, .int .i64 q, .int .i64 c, .string t] 36)).cell? ⟨w.heap.size, i, none⟩ := fun i _ => hb.cell (by simp)
    have k5 := kp 5 (by omega)
    simp at k5
    clear kp
    go_wp2
    go_ret
    have e : @decide (Pg.mk k s x q c t).Right (Pg.mk k s x q c t).decR = decide ((t.size : Int) ≤ 90) := dcE (HE.out.trans ⟨fun h => h.2.2, fun h => ⟨by omega, A5.out, h⟩⟩)
    exact ⟨by rw [e]; rfl, HB.out.trans (hb.mono hs)⟩
  · go_enter Try.func15, Try.ntmps15
    go_wp2_with fail
    refine (ipart_any k s x q c t _).mono ?_
    rintro e w1 ⟨rfl, hb⟩
    rw [partB_no a5]
    have A5 := hide a5
    clear a5
    have hs := HB.out.size
    go_wp2
    go_ret
    exact ⟨by rw [dcN (fun h => A5.out (HE.out.1 h).2.1)]; rfl, HB.out.trans (hb.mono hs)⟩
end Go.Proofs.Ytaolinlginloaab
