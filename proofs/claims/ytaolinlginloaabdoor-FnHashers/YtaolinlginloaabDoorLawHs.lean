/-
  The walk of the law on drawn hashers.
-/
import Derived.Test.YtaolinlginloaabDoorImplMy
import Derived.Test.YtaolinlginloaabDoorImplN
import Derived.Test.YtaolinlginloaabDoorHAt
import Derived.Test.YtaolinlginloaabDoorBig
import Derived.Test.YtaolinlginloaabDoorDrawMo
namespace Go.Proofs.YtaolinlginloaabDoor
open Go.RowKit
open Dig

/-- Three hashers that lie in the memory of the call. -/
def Thr (w0 : World) (g3 g5 g6 : Nat) (s r : ByteArray) (c : Int) (S R : ByteArray) (C : Int) (w : World) : Prop := HAt w g3 s r c ∧ HAt w g5 S R C ∧ HAt w g6 S R C ∧ StepIn w ∧ Below w0.heap.size w0 w
theorem Thr.on {w0 w w' : World} {g3 g5 g6 : Nat} {s r S R : ByteArray} {c C : Int} (k : Thr w0 g3 g5 g6 s r c S R C w) (hb : Below w.heap.size w w') : Thr w0 g3 g5 g6 s r c S R C w' :=
  ⟨k.1.below hb k.1.1, k.2.1.below hb k.2.1.1, k.2.2.1.below hb k.2.2.1.1, k.2.2.2.1.on hb, k.2.2.2.2.trans (hb.mono k.2.2.2.2.size)⟩
theorem Thr.cells {w0 w : World} {g3 g5 g6 : Nat} {s r S R : ByteArray} {c C : Int} (k : Thr w0 g3 g5 g6 s r c S R C w) : (w.cell? ⟨g3, 0, none⟩ = some (.string s) ∧ w.cell? ⟨g3, 1, none⟩ = some (.string r) ∧ w.cell? ⟨g3, 2, none⟩ = some (.int .i64 c)) ∧ (w.cell? ⟨g5, 0, none⟩ = some (.string S) ∧ w.cell? ⟨g5, 1, none⟩ = some (.string R) ∧ w.cell? ⟨g5, 2, none⟩ = some (.int .i64 C)) ∧ w.cell? ⟨g6, 0, none⟩ = some (.string S) ∧ w.cell? ⟨g6, 1, none⟩ = some (.string R) ∧ w.cell? ⟨g6, 2, none⟩ = some (.int .i64 C) :=
  ⟨⟨k.1.2.1, k.1.2.2.1, k.1.2.2.2.1⟩, ⟨k.2.1.2.1, k.2.1.2.2.1, k.2.1.2.2.2.1⟩, k.2.2.1.2.1, k.2.2.1.2.2.1, k.2.2.1.2.2.2.1⟩
theorem thr_call {w0 : World} {g3 g5 g6 : Nat} {s r S R : ByteArray} {c C : Int} {f : FuncId} {args : Array Value} {v : Value} (k : ∀ w, StepIn w → Calls Tryd.prog f args w fun e w' => e = .returned v ∧ Below w.heap.size w w') :
    Hid (∀ w, Thr w0 g3 g5 g6 s r c S R C w → Calls Tryd.prog f args w fun e w' => e = .returned v ∧ ((w'.cell? ⟨g3, 0, none⟩ = some (.string s) ∧ w'.cell? ⟨g3, 1, none⟩ = some (.string r) ∧ w'.cell? ⟨g3, 2, none⟩ = some (.int .i64 c)) ∧ (w'.cell? ⟨g5, 0, none⟩ = some (.string S) ∧ w'.cell? ⟨g5, 1, none⟩ = some (.string R) ∧ w'.cell? ⟨g5, 2, none⟩ = some (.int .i64 C)) ∧ w'.cell? ⟨g6, 0, none⟩ = some (.string S) ∧ w'.cell? ⟨g6, 1, none⟩ = some (.string R) ∧ w'.cell? ⟨g6, 2, none⟩ = some (.int .i64 C)) ∧ Hid (Thr w0 g3 g5 g6 s r c S R C w')) := by
  intro w hw
  refine (k w hw.2.2.2.1).mono ?_
  rintro e w' ⟨rfl, hb⟩
  have h2 := hw.on hb
  exact ⟨rfl, h2.cells, h2⟩

theorem endL_len (s r : ByteArray) (n : Nat) (hs : s.size = 32) : (endL s.data.toList r.data.toList n).length = 32 := by
  unfold endL
  exact bytesOf_len (mixes_st (words_st _ (by simpa using hs)) _ _)

/-- How a hasher and a text come out: it is not right, too much would come, or all comes. -/
def Out (s r : ByteArray) (c : Int) (t : ByteArray) (S R : ByteArray) (C : Int) : Prop :=
  (¬ HRight s r c ∧ S = s ∧ R = r ∧ C = c) ∨ (HRight s r c ∧ S = s ∧ R = r ∧ C = c) ∨ (HRight s r c ∧ HRight S R C ∧ C = c + t.size)

theorem bothOut (s r t : ByteArray) (c : Int) (hs : s.size ≤ 1048576) (hr : r.size ≤ 1048576) (ht : t.size ≤ 1048576) : ∃ (S R : ByteArray) (C : Int), (∀ w, Calls Tryd.prog 16 #[.agg #[.string s, .string r, .int .i64 c], .string t] w fun e w' => e = .returned (.agg #[.string S, .string R, .int .i64 C]) ∧ Below w.heap.size w w') ∧
    (∀ w, StepIn w → Calls Tryd.prog 10 #[.agg #[.string s, .string r, .int .i64 c], .string t] w fun e w' => e = .returned (.agg #[.string S, .string R, .int .i64 C]) ∧ Below w.heap.size w w') ∧ Out s r c t S R C := by
  by_cases hR : HRight s r c
  · obtain ⟨n, rfl⟩ := Int.eq_ofNat_of_zero_le hR.2.2.1
    by_cases hb : (1000000000 : Int) < (n : Int) + t.size
    · exact ⟨s, r, n, fun w => specMore_big s r t n w hR ht hb, fun w _ => implMore_big s r t n w hR hb, .inr (.inl ⟨hR, rfl, rfl, rfl⟩)⟩
    · have hm := right_more s r t n hR (by omega)
      have e : (((n + t.size : Nat)) : Int) = (n : Int) + t.size := by omega
      rw [e] at hm
      exact ⟨_, _, _, fun w => specMore_yes s r t n w hR ht (by omega), fun w h => implMore_yes s r t n w hR ht (by omega) h, .inr (.inr ⟨hR, hm, rfl⟩)⟩
  · exact ⟨s, r, c, fun w => specMore_no s r t c w (by unfold maxLen; omega) hR, fun w _ => implMore_no s r t c w (by omega) (by omega) hR, .inl ⟨hR, rfl, rfl, rfl⟩⟩

set_option maxHeartbeats 4000000 in
set_option maxRecDepth 100000 in
theorem lawHs (ad : Option Addr) (len cap : Nat) (w : World) (hd : CodeIn w ad len w.heap.size) (hT : StepIn w) :
    Calls Tryd.prog 4 #[.slice ad len cap] w fun e w' => e = .returned (.bool true) ∧ Below w.heap.size w w' := by
  have HD := hide hd
  have HT := hide hT
  clear hd hT
  by_cases hbig : (1048576 : Int) < len
  · go_enter Tryd.func4, Tryd.ntmps4
    go_wp2_with fail
    refine (big_any ad len cap _).mono ?_
    rintro e w1 ⟨rfl, rfl⟩
    rw [dcY hbig]
    go_wp2
    go_ret
    exact ⟨rfl, Below.refl _ _⟩
  · go_enter Tryd.func4, Tryd.ntmps4
    go_wp2_with fail
    refine (big_any ad len cap _).mono ?_
    rintro e w1 ⟨rfl, rfl⟩
    rw [dcN (show ¬ (1048576 : Int) < len by omega)]
    go_wp2_with fail
    refine (drawMore_any ad len cap _ (by omega) HD.out).mono ?_
    rintro e w2 ⟨s, r, c, t, rfl, ⟨hs, hr, hc1, hc2⟩, ht, b2⟩
    obtain ⟨S, R, C, h1, h2, hOut⟩ := bothOut s r t c (by omega) (by omega) (by omega)
    have HO := hide hOut
    have CS := hide h1
    have CI := hide h2
    have s2 := b2.size
    have HB2 := hide b2
    clear h1 h2 hOut b2 HD
    go_wp2_with fail
    have hb3 : Below w1.heap.size w1 (w2.alloc (.cells #[.string s, .string r, .int .i64 c] 28)) := HB2.out.alloc s2 _
    refine (CI.out _ (HT.out.on hb3)).mono ?_
    rintro en w3 ⟨rfl, b3⟩
    have h3 : HAt w3 w2.heap.size s r c := HAt.below (w := w2.alloc (.cells #[.string s, .string r, .int .i64 c] 28)) ⟨by simp, by simp, by simp, by simp, by simp, by simp, by simp⟩ b3 (by simp)
    have B3 : Hid (Below w1.heap.size w1 w3) := hb3.trans (b3.mono hb3.size)
    have s3 : w2.heap.size < w3.heap.size := h3.1
    have n3 : w2.heap.size ≠ w3.heap.size := by omega
    obtain ⟨-, a0, a1, a2, -⟩ := h3
    have H3 : Hid (HAt w3 w2.heap.size s r c) := by
      exact HAt.below (w := w2.alloc (.cells #[.string s, .string r, .int .i64 c] 28)) ⟨by simp, by simp, by simp, by simp, by simp, by simp, by simp⟩ b3 (by simp)
    clear b3 hb3 HB2 CI
    go_wp2_with fail
    refine (CS.out _).mono ?_
    rintro en w4 ⟨rfl, b4⟩
    have hA3 : Below w3.heap.size w3 (w3.alloc (.cells #[.string S, .string R, .int .i64 C] 28)) := (Below.refl _ _).alloc (Nat.le_refl _) _
    have h5 : HAt w4 w3.heap.size S R C := HAt.below (w := w3.alloc (.cells #[.string S, .string R, .int .i64 C] 28)) ⟨by simp, by simp, by simp, by simp, by simp, by simp, by simp⟩ b4 (by simp)
    have b34 : Below w3.heap.size w3 w4 := hA3.trans (b4.mono (by simp))
    have h4 : Thr w1 w2.heap.size w3.heap.size w4.heap.size s r c S R C (w4.alloc (.cells #[.string S, .string R, .int .i64 C] 28)) := by
      have hA4 : Below w4.heap.size w4 (w4.alloc (.cells #[.string S, .string R, .int .i64 C] 28)) := (Below.refl _ _).alloc (Nat.le_refl _) _
      have hb := B3.out.trans (b34.mono B3.out.size)
      have hb' := hb.trans (hA4.mono hb.size)
      have k3 := H3.out.below b34 H3.out.1
      exact ⟨k3.below hA4 k3.1, h5.below hA4 h5.1, ⟨by simp, by simp, by simp, by simp, by simp, by simp, by simp⟩, HT.out.on hb', hb'⟩
    have H4 := hide h4
    clear h4 h5 b34 hA3 b4 B3 H3 CS a0 a1 a2 n3 s3 HT
    obtain ⟨g3, hg3⟩ : ∃ g, g = w2.heap.size := ⟨_, rfl⟩
    obtain ⟨g5, hg5⟩ : ∃ g, g = w3.heap.size := ⟨_, rfl⟩
    obtain ⟨g6, hg6⟩ : ∃ g, g = w4.heap.size := ⟨_, rfl⟩
    go_wp2
    rw [← hg3, ← hg5, ← hg6] at H4
    rw [← hg3, ← hg5, ← hg6]
    generalize w4.alloc (.cells #[.string S, .string R, .int .i64 C] 28) = w5 at H4 ⊢
    clear hg3 hg5 hg6
    have CO := thr_call (w0 := w1) (g3 := g3) (g5 := g5) (g6 := g6) (s := s) (r := r) (c := c) (S := S) (R := R) (C := C) (fun w' (_ : StepIn w') => implOk_any s r c w' (by unfold maxLen; omega))
    have CSO := thr_call (w0 := w1) (g3 := g3) (g5 := g5) (g6 := g6) (s := s) (r := r) (c := c) (S := S) (R := R) (C := C) (fun w' (_ : StepIn w') => specOk_any s r c w' (by unfold maxLen; omega))
    obtain ⟨bb, hbb⟩ : ∃ bb, @decide (HRight s r c) (decH s r c) = bb := ⟨_, rfl⟩
    rw [hbb] at CO CSO
    have HBB := hide hbb
    clear hbb
    have K0 : Hid ((w5.drew.cell? ⟨g3, 0, none⟩ = some (.string s) ∧ w5.drew.cell? ⟨g3, 1, none⟩ = some (.string r) ∧ w5.drew.cell? ⟨g3, 2, none⟩ = some (.int .i64 c)) ∧ (w5.drew.cell? ⟨g5, 0, none⟩ = some (.string S) ∧ w5.drew.cell? ⟨g5, 1, none⟩ = some (.string R) ∧ w5.drew.cell? ⟨g5, 2, none⟩ = some (.int .i64 C)) ∧ w5.drew.cell? ⟨g6, 0, none⟩ = some (.string S) ∧ w5.drew.cell? ⟨g6, 1, none⟩ = some (.string R) ∧ w5.drew.cell? ⟨g6, 2, none⟩ = some (.int .i64 C)) := H4.out.cells
    obtain ⟨⟨a0, a1, a2⟩, ⟨b0, b1, b2⟩, c0, c1, c2⟩ := H4.out.cells
    have H5 := hide (H4.out.on (Below.refl _ _).drew)
    clear H4
    have e1 : (S.toList == S.toList) = true := by simp
    have e2 : (R.toList == R.toList) = true := by simp
    have e3 : (C == C) = true := by simp
    have e4 : (bb != bb) = false := by simp
    go_region_held3 (fun w' => (w'.cell? ⟨g3, 0, none⟩ = some (.string s) ∧ w'.cell? ⟨g3, 1, none⟩ = some (.string r) ∧ w'.cell? ⟨g3, 2, none⟩ = some (.int .i64 c)) ∧ (w'.cell? ⟨g5, 0, none⟩ = some (.string S) ∧ w'.cell? ⟨g5, 1, none⟩ = some (.string R) ∧ w'.cell? ⟨g5, 2, none⟩ = some (.int .i64 C)) ∧ w'.cell? ⟨g6, 0, none⟩ = some (.string S) ∧ w'.cell? ⟨g6, 1, none⟩ = some (.string R) ∧ w'.cell? ⟨g6, 2, none⟩ = some (.int .i64 C)) (first | (with_reducible exact K7.out) | (with_reducible exact K6.out) | (with_reducible exact K0.out)) (first
      | (go_at_call 12; have hh := CO.out _ H5.out; (with_reducible refine Calls.mono hh ?_); rintro en w6 ⟨rfl, K6', H6⟩; have K6 := hide K6'; clear hh K6')
      | (go_at_call 17; have hh := CSO.out _ H6.out; (with_reducible refine Calls.mono hh ?_); rintro en w7 ⟨rfl, K7', H7⟩; have K7 := hide K7'; clear hh K7'))
    clear K0 K6 K7 a0 a1 a2 b0 b1 b2 c0 c1 c2 H5 H6 CO e1 e2 e3 e4
    rcases HO.out with ⟨hN, e1, e2, e3⟩ | ⟨hN, e1, e2, e3⟩ | ⟨hN, hK, e3⟩
    · subst e1 e2 e3
      have hf : bb = false := by rw [← HBB.out]; exact dcN hN
      subst hf
      have CE := thr_call (w0 := w1) (g3 := g3) (g5 := g5) (g6 := g6) (s := S) (r := R) (c := C) (S := S) (R := R) (C := C) (fun w' (_ : StepIn w') => implEnd_no S R C w' (by unfold maxLen; omega) hN)
      have e1 : (S.toList == S.toList) = true := by simp
      have e2 : (R.toList == R.toList) = true := by simp
      have e3 : (C == C) = true := by simp
      clear HO HBB
      go_wp2_with fail
      refine Calls.mono (CSO.out _ H7.out) ?_
      rintro en w8 ⟨rfl, ⟨⟨a0, a1, a2⟩, ⟨b0, b1, b2⟩, -⟩, H8⟩
      clear H7 CSO
      go_wp2_with fail
      refine Calls.mono (CE.out _ H8.out) ?_
      rintro en wa ⟨rfl, -, Ha⟩
      clear H8 CE a0 a1 a2 b0 b1 b2
      go_wp2
      go_ret
      exact ⟨rfl, Ha.out.2.2.2.2⟩
    · subst e1 e2 e3
      have hf : bb = true := by rw [← HBB.out]; exact dcY hN
      subst hf
      have hK := hN
      have CM := thr_call (w0 := w1) (g3 := g3) (g5 := g5) (g6 := g6) (s := S) (r := R) (c := C) (S := S) (R := R) (C := C) (fun w' (_ : StepIn w') => implOk_any S R C w' (by have := hK.2.1; unfold maxLen; omega))
      rw [dcY hK] at CM
      obtain ⟨n, hn⟩ := Int.eq_ofNat_of_zero_le hK.2.2.1
      have hen := fun w' (h : StepIn w') => implEnd_yes S R n w' (by rw [← hn]; exact hK) h
      rw [← hn] at hen
      have hl32 := endL_len S R n hK.1
      obtain ⟨D, hD⟩ : ∃ D : ByteArray, D = ⟨(endL S.data.toList R.data.toList n).toArray⟩ := ⟨_, rfl⟩
      have hDs : D.size = 32 := by rw [hD]; show (endL _ _ _).toArray.size = 32; simpa using hl32
      rw [← hD] at hen
      have CE := thr_call (w0 := w1) (g3 := g3) (g5 := g5) (g6 := g6) (s := S) (r := R) (c := C) (S := S) (R := R) (C := C) hen
      clear hen hl32 hD
      have e1 : (S.toList == S.toList) = true := by simp
      have e2 : (R.toList == R.toList) = true := by simp
      have e3 : (C == C) = true := by simp
      clear HO HBB hn hN hK
      go_wp2_with fail
      refine Calls.mono (CSO.out _ H7.out) ?_
      rintro en w8 ⟨rfl, ⟨⟨a0, a1, a2⟩, ⟨b0, b1, b2⟩, -⟩, H8⟩
      clear H7 CSO
      go_wp2_with fail
      refine Calls.mono (CM.out _ H8.out) ?_
      rintro en w9 ⟨rfl, ⟨⟨c0, c1, c2⟩, ⟨d0, d1, d2⟩, -⟩, H9⟩
      clear H8 CM a0 a1 a2 b0 b1 b2
      go_wp2_with fail
      refine Calls.mono (CE.out _ H9.out) ?_
      rintro en wa ⟨rfl, ⟨⟨a0, a1, a2⟩, ⟨b0, b1, b2⟩, -⟩, Ha⟩
      clear H9 CE c0 c1 c2 d0 d1 d2
      go_wp2
      go_ret
      exact ⟨rfl, Ha.out.2.2.2.2⟩
    · have hf : bb = true := by rw [← HBB.out]; exact dcY hN
      subst hf
      have hc9 : c ≤ 1000000000 := hN.2.2.2.1
      have hc0 : 0 ≤ c := hN.2.2.1
      have CM := thr_call (w0 := w1) (g3 := g3) (g5 := g5) (g6 := g6) (s := s) (r := r) (c := c) (S := S) (R := R) (C := C) (fun w' (_ : StepIn w') => implOk_any S R C w' (by have := hK.2.1; unfold maxLen; omega))
      rw [dcY hK] at CM
      obtain ⟨n, hn⟩ := Int.eq_ofNat_of_zero_le hK.2.2.1
      have hen := fun w' (h : StepIn w') => implEnd_yes S R n w' (by rw [← hn]; exact hK) h
      rw [← hn] at hen
      have hl32 := endL_len S R n hK.1
      obtain ⟨D, hD⟩ : ∃ D : ByteArray, D = ⟨(endL S.data.toList R.data.toList n).toArray⟩ := ⟨_, rfl⟩
      have hDs : D.size = 32 := by rw [hD]; show (endL _ _ _).toArray.size = 32; simpa using hl32
      rw [← hD] at hen
      have CE := thr_call (w0 := w1) (g3 := g3) (g5 := g5) (g6 := g6) (s := s) (r := r) (c := c) (S := S) (R := R) (C := C) hen
      clear hen hl32 hD
      have wx : IntKind.i64.wrap (c + t.size) = c + t.size := by rw [IntKind.wrap_i64]; omega
      have HE := hide e3
      clear HO HBB hn hN hK e3
      go_wp2_with fail
      refine Calls.mono (CSO.out _ H7.out) ?_
      rintro en w8 ⟨rfl, ⟨⟨a0, a1, a2⟩, ⟨b0, b1, b2⟩, -⟩, H8⟩
      clear H7 CSO
      go_wp2_with fail
      refine Calls.mono (CM.out _ H8.out) ?_
      rintro en w9 ⟨rfl, ⟨⟨c0, c1, c2⟩, ⟨d0, d1, d2⟩, -⟩, H9⟩
      clear H8 CM a0 a1 a2 b0 b1 b2
      go_wp2_with fail
      refine Calls.mono (CE.out _ H9.out) ?_
      rintro en wa ⟨rfl, ⟨⟨a0, a1, a2⟩, ⟨b0, b1, b2⟩, -⟩, Ha⟩
      clear H9 CE c0 c1 c2 d0 d1 d2
      have tt : (C == c + t.size) = true := by rw [HE.out]; simp
      cases q1 : (S.toList == s.toList) <;> cases q2 : (R.toList == r.toList) <;> cases q3 : (C == c)
      all_goals
        go_wp2
        go_ret
        exact ⟨rfl, Ha.out.2.2.2.2⟩
end Go.Proofs.YtaolinlginloaabDoor
