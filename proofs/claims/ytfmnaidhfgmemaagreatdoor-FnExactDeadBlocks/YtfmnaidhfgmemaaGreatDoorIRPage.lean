import Derived.Test.YtfmnaidhfgmemaaGreatDoorPk18
namespace Go.Proofs.YtfmnaidhfgmemaaGreatDoor
open Go.RowKit
open Words Sums
def zero6 : Array Value := #[.int .i64 0, .int .i64 0, .int .i64 0, .int .i64 0, .int .i64 0, .string ⟨#[]⟩]
def PS (w W : World) (g gr gp : Nat) (s : ByteArray) (i : Int) (cs : Array Value) : Prop :=
  Kept2 w W (· ≠ g) ∧ RAt W g s i ∧ w.heap.size ≤ gr ∧ gr < gp ∧ g < w.heap.size ∧ W.heap[gr]? = some (.cells zero6 92 (0, 0)) ∧ W.heap[gp]? = some (.cells cs 92 (0, 0))
theorem PS.moved {w W W' : World} {g gr gp : Nat} {s s' : ByteArray} {i i' : Int} {cs : Array Value} (h : PS w W g gr gp s i cs) (m : Moved W W' g s' i') : PS w W' g gr gp s' i' cs := by
  obtain ⟨h1, h2, h3, h4, h5, h6, h7⟩ := h
  have l6 := (Array.getElem?_eq_some_iff.1 h6).1
  have l7 := (Array.getElem?_eq_some_iff.1 h7).1
  exact ⟨h1.trans m.1, m.2, h3, h4, h5, (m.1.2.2.2.2 gr l6 (by omega)).trans h6, (m.1.2.2.2.2 gp l7 (by omega)).trans h7⟩
theorem PS.below {w W W' : World} {g gr gp : Nat} {s : ByteArray} {i : Int} {cs : Array Value} (h : PS w W g gr gp s i cs) (b : Below W.heap.size W W') : PS w W' g gr gp s i cs :=
  h.moved ⟨Kept2.below b, h.2.1.below b⟩
theorem kept_far {w W : World} {g : Nat} {p k : Nat} {v : Value} (h : Kept2 w W (· ≠ g)) (hp : w.heap.size ≤ p) : Kept2 w (W.setCell ⟨p, k, none⟩ v) (· ≠ g) :=
  ⟨h.1, h.2.1, h.2.2.1, by simpa using h.2.2.2.1, fun i hi hne => (Below.heap_setCell W ⟨p, k, none⟩ v i (by simp; omega)).trans (h.2.2.2.2 i hi hne)⟩
theorem RAt.far {w : World} {g p k : Nat} {t : ByteArray} {i : Int} {v : Value} (h : RAt w g t i) (hp : p ≠ g) : RAt (w.setCell ⟨p, k, none⟩ v) g t i := by
  obtain ⟨h1, h2, h3, h4, h5⟩ := h
  have e : ∀ j, (w.setCell ⟨p, k, none⟩ v).cell? ⟨g, j, none⟩ = w.cell? ⟨g, j, none⟩ := fun j => World.cell?_setCell_other _ _ _ _ (fun e => hp (by injection e))
  exact ⟨by simpa using h1, by rw [e]; exact h2, by rw [e]; exact h3, by simpa using h4, by simpa using h5⟩
theorem PS.set {w W : World} {g gr gp : Nat} {s : ByteArray} {i : Int} {cs : Array Value} (h : PS w W g gr gp s i cs) (k : Nat) (v : Value) : PS w (W.setCell ⟨gp, k, none⟩ v) g gr gp s i (cs.setIfInBounds k v) := by
  obtain ⟨h1, h2, h3, h4, h5, h6, h7⟩ := h
  exact ⟨kept_far h1 (by omega), h2.far (by omega), h3, h4, h5, (Below.heap_setCell _ _ _ _ (by simp; omega)).trans h6, heap_setCell_same _ _ _ _ _ _ h7⟩
theorem six_set {w : World} {g : Nat} {t : TypeId} {y0 y1 y2 y3 y4 y5 a b c d e f : Value} (h : w.heap[g]? = some (.cells #[y0, y1, y2, y3, y4, y5] t (0, 0))) :
    ((((((w.setCell ⟨g, 0, none⟩ a).setCell ⟨g, 1, none⟩ b).setCell ⟨g, 2, none⟩ c).setCell ⟨g, 3, none⟩ d).setCell ⟨g, 4, none⟩ e).setCell ⟨g, 5, none⟩ f).heap[g]? = some (.cells #[a, b, c, d, e, f] t (0, 0)) :=
  heap_setCell_same _ _ 5 _ _ _ (heap_setCell_same _ _ 4 _ _ _ (heap_setCell_same _ _ 3 _ _ _ (heap_setCell_same _ _ 2 _ _ _ (heap_setCell_same _ _ 1 _ _ _ (heap_setCell_same _ _ 0 _ _ _ h)))))
theorem six_kept {w W : World} {g p : Nat} {a b c d e f : Value} (h : Kept2 w W (· ≠ g)) (hp : w.heap.size ≤ p) :
    Kept2 w ((((((W.setCell ⟨p, 0, none⟩ a).setCell ⟨p, 1, none⟩ b).setCell ⟨p, 2, none⟩ c).setCell ⟨p, 3, none⟩ d).setCell ⟨p, 4, none⟩ e).setCell ⟨p, 5, none⟩ f) (· ≠ g) :=
  kept_far (kept_far (kept_far (kept_far (kept_far (kept_far h hp) hp) hp) hp) hp) hp
theorem PS.at_ {w W : World} {g gr gp : Nat} {s : ByteArray} {i : Int} {cs : Array Value} (h : PS w W g gr gp s i cs) (k : Nat) (v : Value) (hv : cs[k]? = some v) : W.cell? ⟨gp, k, none⟩ = some v ∧ W.frozen? ⟨gp, k, none⟩ = false :=
  ⟨cell_of_row _ _ k _ _ _ h.2.2.2.2.2.2 ▸ hv, frozen_of_row _ _ k _ _ h.2.2.2.2.2.2⟩
set_option maxHeartbeats 1000000 in
set_option maxRecDepth 100000 in
theorem rpage0 (t : ByteArray) (s0 : ByteArray) (i0 : Int) (g : Nat) (w : World) (hm : t.size ≤ maxLen) (hr : RAt w g s0 i0) (ht : HalvIn w) (hu : unA t = none) :
    Calls Tryz.prog 193 #[.pointer (some ⟨g, 0, none⟩), .string t] w fun e w' => e = .panicked noPg ∧ Kept2 w w' (· ≠ g) := by
  have R := hide hr
  have HT := hide ht
  have b0 : Below w.heap.size w (w.alloc (.cells zero6 92)) := (Below.refl _ _).alloc (Nat.le_refl _) _
  have C := hide (runseal_no t g (w.alloc (.cells zero6 92)) hm hu (HT.out.on b0))
  have B0 := hide b0
  unfold zero6 at C
  clear hr ht hu b0
  go_enter Tryz.func193, Tryz.ntmps193
  go_wp2_with fail
  refine C.out.mono ?_
  rintro e w1 ⟨rfl, k1⟩
  have KK := hide ((Kept2.below B0.out).trans k1)
  go_wp2
  exact ⟨rfl, rfl, KK.out⟩
set_option maxHeartbeats 1000000 in
set_option maxRecDepth 100000 in
theorem rpage1 (t : ByteArray) (s0 : ByteArray) (i0 : Int) (g : Nat) (w : World) (hm : t.size ≤ maxLen) (hr : RAt w g s0 i0) (ht : HalvIn w) (s : ByteArray) (hu : unA t = some s) (hb : s.data.toList[0]? = none) :
    Calls Tryz.prog 193 #[.pointer (some ⟨g, 0, none⟩), .string t] w fun e w' => e = .panicked noPg ∧ Kept2 w w' (· ≠ g) := by
  have R := hide hr
  have HT := hide ht
  have b0 : Below w.heap.size w (w.alloc (.cells zero6 92)) := (Below.refl _ _).alloc (Nat.le_refl _) _
  have C := hide (runseal_yes t s0 s i0 g (w.alloc (.cells zero6 92)) hm hu (R.out.below b0) (HT.out.on b0))
  have B0 := hide b0
  have Z0 : Hid ((w.alloc (.cells zero6 92)).heap[w.heap.size]? = some (.cells zero6 92 (0, 0))) := heap_alloc_new _ _
  have hs := (unA_some hu).2
  have hg := hr.1
  have C0 := hide (fun W h => rbyte_no s 0 g W hb h)
  unfold zero6 at C
  clear hr ht hu b0 hb
  go_enter Tryz.func193, Tryz.ntmps193
  go_wp2_with fail
  refine C.out.mono ?_
  rintro e w1 ⟨rfl, m1⟩
  clear C
  have lw1 : w.heap.size < w1.heap.size := Nat.lt_of_lt_of_le (by simp) m1.1.2.2.2.1
  have P1 : Hid (PS w (w1.alloc (.cells zero6 92)) g w.heap.size w1.heap.size s 0 zero6) := by
    have b1 : Below w1.heap.size w1 (w1.alloc (.cells zero6 92)) := (Below.refl _ _).alloc (Nat.le_refl _) _
    exact ⟨(Kept2.below B0.out).trans (m1.1.trans (Kept2.below b1)), m1.2.below b1, Nat.le_refl _, lw1, hg, (b1.block _ lw1).trans ((m1.1.2.2.2.2 _ (by simp) (by omega)).trans Z0.out), heap_alloc_new _ _⟩
  clear m1 B0 Z0
  unfold zero6 at P1
  go_wp2_with fail
  refine (C0.out _ P1.out.2.1).mono ?_
  rintro e w2 ⟨rfl, k2⟩
  have KK := hide (P1.out.1.trans k2)
  go_wp2
  exact ⟨rfl, rfl, KK.out⟩
set_option maxHeartbeats 1000000 in
set_option maxRecDepth 100000 in
theorem rpage2 (t : ByteArray) (s0 : ByteArray) (i0 : Int) (g : Nat) (w : World) (hm : t.size ≤ maxLen) (hr : RAt w g s0 i0) (ht : HalvIn w) (s : ByteArray) (hu : unA t = some s) (b : UInt8) (hb : s.data.toList[0]? = some b) (h0 : readV s.data.toList 1 = none) :
    Calls Tryz.prog 193 #[.pointer (some ⟨g, 0, none⟩), .string t] w fun e w' => e = .panicked noPg ∧ Kept2 w w' (· ≠ g) := by
  have R := hide hr
  have HT := hide ht
  have b0 : Below w.heap.size w (w.alloc (.cells zero6 92)) := (Below.refl _ _).alloc (Nat.le_refl _) _
  have C := hide (runseal_yes t s0 s i0 g (w.alloc (.cells zero6 92)) hm hu (R.out.below b0) (HT.out.on b0))
  have B0 := hide b0
  have Z0 : Hid ((w.alloc (.cells zero6 92)).heap[w.heap.size]? = some (.cells zero6 92 (0, 0))) := heap_alloc_new _ _
  have hs := (unA_some hu).2
  have hg := hr.1
  have hl0 : 1 ≤ s.size := by have := (List.getElem?_eq_some_iff.1 hb).1; exact this
  have C0 := hide (fun W h => rbyte_yes s 0 b g W (by omega) hb h)
  have C1 := hide (fun W h => rnum_no s 1 g W (by omega) hl0 h0 h)
  obtain ⟨kb, hkb⟩ : ∃ k : Nat, k = b.toNat := ⟨_, rfl⟩
  rw [← hkb] at C0
  clear hkb
  unfold zero6 at C
  clear hr ht hu b0 hb h0
  go_enter Tryz.func193, Tryz.ntmps193
  go_wp2_with fail
  refine C.out.mono ?_
  rintro e w1 ⟨rfl, m1⟩
  clear C
  have lw1 : w.heap.size < w1.heap.size := Nat.lt_of_lt_of_le (by simp) m1.1.2.2.2.1
  have P1 : Hid (PS w (w1.alloc (.cells zero6 92)) g w.heap.size w1.heap.size s 0 zero6) := by
    have b1 : Below w1.heap.size w1 (w1.alloc (.cells zero6 92)) := (Below.refl _ _).alloc (Nat.le_refl _) _
    exact ⟨(Kept2.below B0.out).trans (m1.1.trans (Kept2.below b1)), m1.2.below b1, Nat.le_refl _, lw1, hg, (b1.block _ lw1).trans ((m1.1.2.2.2.2 _ (by simp) (by omega)).trans Z0.out), heap_alloc_new _ _⟩
  clear m1 B0 Z0
  unfold zero6 at P1
  go_wp2_with fail
  refine (C0.out _ P1.out.2.1).mono ?_
  rintro e w2 ⟨rfl, m2⟩
  have P2 := hide (P1.out.moved m2)
  clear m2 C0 P1
  obtain ⟨x0, y0⟩ := P2.out.at_ 0 _ rfl
  have P1 := hide (P2.out.set 0 (.int .i64 kb))
  change Hid (PS w _ g w.heap.size w1.heap.size s _ #[.int .i64 kb, .int .i64 0, .int .i64 0, .int .i64 0, .int .i64 0, .string ⟨#[]⟩]) at P1
  clear P2
  go_wp2_with fail
  refine (C1.out _ P1.out.2.1).mono ?_
  rintro e w2 ⟨rfl, k2⟩
  have KK := hide (P1.out.1.trans k2)
  go_wp2
  exact ⟨rfl, rfl, KK.out⟩
set_option maxHeartbeats 1000000 in
set_option maxRecDepth 100000 in
theorem rpage3 (t : ByteArray) (s0 : ByteArray) (i0 : Int) (g : Nat) (w : World) (hm : t.size ≤ maxLen) (hr : RAt w g s0 i0) (ht : HalvIn w) (s : ByteArray) (hu : unA t = some s) (b : UInt8) (hb : s.data.toList[0]? = some b) (a i1 : Nat) (h0 : readV s.data.toList 1 = some (a, i1)) (h1 : readV s.data.toList i1 = none) :
    Calls Tryz.prog 193 #[.pointer (some ⟨g, 0, none⟩), .string t] w fun e w' => e = .panicked noPg ∧ Kept2 w w' (· ≠ g) := by
  have R := hide hr
  have HT := hide ht
  have b0 : Below w.heap.size w (w.alloc (.cells zero6 92)) := (Below.refl _ _).alloc (Nat.le_refl _) _
  have C := hide (runseal_yes t s0 s i0 g (w.alloc (.cells zero6 92)) hm hu (R.out.below b0) (HT.out.on b0))
  have B0 := hide b0
  have Z0 : Hid ((w.alloc (.cells zero6 92)).heap[w.heap.size]? = some (.cells zero6 92 (0, 0))) := heap_alloc_new _ _
  have hs := (unA_some hu).2
  have hg := hr.1
  have hl0 : 1 ≤ s.size := by have := (List.getElem?_eq_some_iff.1 hb).1; exact this
  have hl1 : i1 ≤ s.size := (readV_le _ _ _ _ hl0 h0).1
  have C0 := hide (fun W h => rbyte_yes s 0 b g W (by omega) hb h)
  have C1 := hide (fun W h => rnum_yes s 1 a i1 g W (by omega) hl0 h0 h)
  have C2 := hide (fun W h => rnum_no s i1 g W (by omega) hl1 h1 h)
  obtain ⟨kb, hkb⟩ : ∃ k : Nat, k = b.toNat := ⟨_, rfl⟩
  rw [← hkb] at C0
  clear hkb
  unfold zero6 at C
  clear hr ht hu b0 hb h0 h1
  go_enter Tryz.func193, Tryz.ntmps193
  go_wp2_with fail
  refine C.out.mono ?_
  rintro e w1 ⟨rfl, m1⟩
  clear C
  have lw1 : w.heap.size < w1.heap.size := Nat.lt_of_lt_of_le (by simp) m1.1.2.2.2.1
  have P1 : Hid (PS w (w1.alloc (.cells zero6 92)) g w.heap.size w1.heap.size s 0 zero6) := by
    have b1 : Below w1.heap.size w1 (w1.alloc (.cells zero6 92)) := (Below.refl _ _).alloc (Nat.le_refl _) _
    exact ⟨(Kept2.below B0.out).trans (m1.1.trans (Kept2.below b1)), m1.2.below b1, Nat.le_refl _, lw1, hg, (b1.block _ lw1).trans ((m1.1.2.2.2.2 _ (by simp) (by omega)).trans Z0.out), heap_alloc_new _ _⟩
  clear m1 B0 Z0
  unfold zero6 at P1
  go_wp2_with fail
  refine (C0.out _ P1.out.2.1).mono ?_
  rintro e w2 ⟨rfl, m2⟩
  have P2 := hide (P1.out.moved m2)
  clear m2 C0 P1
  obtain ⟨x0, y0⟩ := P2.out.at_ 0 _ rfl
  have P1 := hide (P2.out.set 0 (.int .i64 kb))
  change Hid (PS w _ g w.heap.size w1.heap.size s _ #[.int .i64 kb, .int .i64 0, .int .i64 0, .int .i64 0, .int .i64 0, .string ⟨#[]⟩]) at P1
  clear P2
  go_wp2_with fail
  refine (C1.out _ P1.out.2.1).mono ?_
  rintro e w3 ⟨rfl, m2⟩
  have P2 := hide (P1.out.moved m2)
  clear m2 C1 P1
  obtain ⟨x1, y1⟩ := P2.out.at_ 1 _ rfl
  have P1 := hide (P2.out.set 1 (.int .i64 a))
  change Hid (PS w _ g w.heap.size w1.heap.size s _ #[.int .i64 kb, .int .i64 a, .int .i64 0, .int .i64 0, .int .i64 0, .string ⟨#[]⟩]) at P1
  clear P2
  go_wp2_with fail
  refine (C2.out _ P1.out.2.1).mono ?_
  rintro e w2 ⟨rfl, k2⟩
  have KK := hide (P1.out.1.trans k2)
  go_wp2
  exact ⟨rfl, rfl, KK.out⟩
set_option maxHeartbeats 1000000 in
set_option maxRecDepth 100000 in
theorem rpage4 (t : ByteArray) (s0 : ByteArray) (i0 : Int) (g : Nat) (w : World) (hm : t.size ≤ maxLen) (hr : RAt w g s0 i0) (ht : HalvIn w) (s : ByteArray) (hu : unA t = some s) (b : UInt8) (hb : s.data.toList[0]? = some b) (a i1 : Nat) (h0 : readV s.data.toList 1 = some (a, i1)) (b1 i2 : Nat) (h1 : readV s.data.toList i1 = some (b1, i2)) (h2 : readV s.data.toList i2 = none) :
    Calls Tryz.prog 193 #[.pointer (some ⟨g, 0, none⟩), .string t] w fun e w' => e = .panicked noPg ∧ Kept2 w w' (· ≠ g) := by
  have R := hide hr
  have HT := hide ht
  have b0 : Below w.heap.size w (w.alloc (.cells zero6 92)) := (Below.refl _ _).alloc (Nat.le_refl _) _
  have C := hide (runseal_yes t s0 s i0 g (w.alloc (.cells zero6 92)) hm hu (R.out.below b0) (HT.out.on b0))
  have B0 := hide b0
  have Z0 : Hid ((w.alloc (.cells zero6 92)).heap[w.heap.size]? = some (.cells zero6 92 (0, 0))) := heap_alloc_new _ _
  have hs := (unA_some hu).2
  have hg := hr.1
  have hl0 : 1 ≤ s.size := by have := (List.getElem?_eq_some_iff.1 hb).1; exact this
  have hl1 : i1 ≤ s.size := (readV_le _ _ _ _ hl0 h0).1
  have hl2 : i2 ≤ s.size := (readV_le _ _ _ _ hl1 h1).1
  have C0 := hide (fun W h => rbyte_yes s 0 b g W (by omega) hb h)
  have C1 := hide (fun W h => rnum_yes s 1 a i1 g W (by omega) hl0 h0 h)
  have C2 := hide (fun W h => rnum_yes s i1 b1 i2 g W (by omega) hl1 h1 h)
  have C3 := hide (fun W h => rnum_no s i2 g W (by omega) hl2 h2 h)
  obtain ⟨kb, hkb⟩ : ∃ k : Nat, k = b.toNat := ⟨_, rfl⟩
  rw [← hkb] at C0
  clear hkb
  unfold zero6 at C
  clear hr ht hu b0 hb h0 h1 h2
  go_enter Tryz.func193, Tryz.ntmps193
  go_wp2_with fail
  refine C.out.mono ?_
  rintro e w1 ⟨rfl, m1⟩
  clear C
  have lw1 : w.heap.size < w1.heap.size := Nat.lt_of_lt_of_le (by simp) m1.1.2.2.2.1
  have P1 : Hid (PS w (w1.alloc (.cells zero6 92)) g w.heap.size w1.heap.size s 0 zero6) := by
    have b1 : Below w1.heap.size w1 (w1.alloc (.cells zero6 92)) := (Below.refl _ _).alloc (Nat.le_refl _) _
    exact ⟨(Kept2.below B0.out).trans (m1.1.trans (Kept2.below b1)), m1.2.below b1, Nat.le_refl _, lw1, hg, (b1.block _ lw1).trans ((m1.1.2.2.2.2 _ (by simp) (by omega)).trans Z0.out), heap_alloc_new _ _⟩
  clear m1 B0 Z0
  unfold zero6 at P1
  go_wp2_with fail
  refine (C0.out _ P1.out.2.1).mono ?_
  rintro e w2 ⟨rfl, m2⟩
  have P2 := hide (P1.out.moved m2)
  clear m2 C0 P1
  obtain ⟨x0, y0⟩ := P2.out.at_ 0 _ rfl
  have P1 := hide (P2.out.set 0 (.int .i64 kb))
  change Hid (PS w _ g w.heap.size w1.heap.size s _ #[.int .i64 kb, .int .i64 0, .int .i64 0, .int .i64 0, .int .i64 0, .string ⟨#[]⟩]) at P1
  clear P2
  go_wp2_with fail
  refine (C1.out _ P1.out.2.1).mono ?_
  rintro e w3 ⟨rfl, m2⟩
  have P2 := hide (P1.out.moved m2)
  clear m2 C1 P1
  obtain ⟨x1, y1⟩ := P2.out.at_ 1 _ rfl
  have P1 := hide (P2.out.set 1 (.int .i64 a))
  change Hid (PS w _ g w.heap.size w1.heap.size s _ #[.int .i64 kb, .int .i64 a, .int .i64 0, .int .i64 0, .int .i64 0, .string ⟨#[]⟩]) at P1
  clear P2
  go_wp2_with fail
  refine (C2.out _ P1.out.2.1).mono ?_
  rintro e w4 ⟨rfl, m2⟩
  have P2 := hide (P1.out.moved m2)
  clear m2 C2 P1
  obtain ⟨x2, y2⟩ := P2.out.at_ 2 _ rfl
  have P1 := hide (P2.out.set 2 (.int .i64 b1))
  change Hid (PS w _ g w.heap.size w1.heap.size s _ #[.int .i64 kb, .int .i64 a, .int .i64 b1, .int .i64 0, .int .i64 0, .string ⟨#[]⟩]) at P1
  clear P2
  go_wp2_with fail
  refine (C3.out _ P1.out.2.1).mono ?_
  rintro e w2 ⟨rfl, k2⟩
  have KK := hide (P1.out.1.trans k2)
  go_wp2
  exact ⟨rfl, rfl, KK.out⟩
set_option maxHeartbeats 1000000 in
set_option maxRecDepth 100000 in
theorem rpage5 (t : ByteArray) (s0 : ByteArray) (i0 : Int) (g : Nat) (w : World) (hm : t.size ≤ maxLen) (hr : RAt w g s0 i0) (ht : HalvIn w) (s : ByteArray) (hu : unA t = some s) (b : UInt8) (hb : s.data.toList[0]? = some b) (a i1 : Nat) (h0 : readV s.data.toList 1 = some (a, i1)) (b1 i2 : Nat) (h1 : readV s.data.toList i1 = some (b1, i2)) (c i3 : Nat) (h2 : readV s.data.toList i2 = some (c, i3)) (h3 : readV s.data.toList i3 = none) :
    Calls Tryz.prog 193 #[.pointer (some ⟨g, 0, none⟩), .string t] w fun e w' => e = .panicked noPg ∧ Kept2 w w' (· ≠ g) := by
  have R := hide hr
  have HT := hide ht
  have b0 : Below w.heap.size w (w.alloc (.cells zero6 92)) := (Below.refl _ _).alloc (Nat.le_refl _) _
  have C := hide (runseal_yes t s0 s i0 g (w.alloc (.cells zero6 92)) hm hu (R.out.below b0) (HT.out.on b0))
  have B0 := hide b0
  have Z0 : Hid ((w.alloc (.cells zero6 92)).heap[w.heap.size]? = some (.cells zero6 92 (0, 0))) := heap_alloc_new _ _
  have hs := (unA_some hu).2
  have hg := hr.1
  have hl0 : 1 ≤ s.size := by have := (List.getElem?_eq_some_iff.1 hb).1; exact this
  have hl1 : i1 ≤ s.size := (readV_le _ _ _ _ hl0 h0).1
  have hl2 : i2 ≤ s.size := (readV_le _ _ _ _ hl1 h1).1
  have hl3 : i3 ≤ s.size := (readV_le _ _ _ _ hl2 h2).1
  have C0 := hide (fun W h => rbyte_yes s 0 b g W (by omega) hb h)
  have C1 := hide (fun W h => rnum_yes s 1 a i1 g W (by omega) hl0 h0 h)
  have C2 := hide (fun W h => rnum_yes s i1 b1 i2 g W (by omega) hl1 h1 h)
  have C3 := hide (fun W h => rnum_yes s i2 c i3 g W (by omega) hl2 h2 h)
  have C4 := hide (fun W h => rnum_no s i3 g W (by omega) hl3 h3 h)
  obtain ⟨kb, hkb⟩ : ∃ k : Nat, k = b.toNat := ⟨_, rfl⟩
  rw [← hkb] at C0
  clear hkb
  unfold zero6 at C
  clear hr ht hu b0 hb h0 h1 h2 h3
  go_enter Tryz.func193, Tryz.ntmps193
  go_wp2_with fail
  refine C.out.mono ?_
  rintro e w1 ⟨rfl, m1⟩
  clear C
  have lw1 : w.heap.size < w1.heap.size := Nat.lt_of_lt_of_le (by simp) m1.1.2.2.2.1
  have P1 : Hid (PS w (w1.alloc (.cells zero6 92)) g w.heap.size w1.heap.size s 0 zero6) := by
    have b1 : Below w1.heap.size w1 (w1.alloc (.cells zero6 92)) := (Below.refl _ _).alloc (Nat.le_refl _) _
    exact ⟨(Kept2.below B0.out).trans (m1.1.trans (Kept2.below b1)), m1.2.below b1, Nat.le_refl _, lw1, hg, (b1.block _ lw1).trans ((m1.1.2.2.2.2 _ (by simp) (by omega)).trans Z0.out), heap_alloc_new _ _⟩
  clear m1 B0 Z0
  unfold zero6 at P1
  go_wp2_with fail
  refine (C0.out _ P1.out.2.1).mono ?_
  rintro e w2 ⟨rfl, m2⟩
  have P2 := hide (P1.out.moved m2)
  clear m2 C0 P1
  obtain ⟨x0, y0⟩ := P2.out.at_ 0 _ rfl
  have P1 := hide (P2.out.set 0 (.int .i64 kb))
  change Hid (PS w _ g w.heap.size w1.heap.size s _ #[.int .i64 kb, .int .i64 0, .int .i64 0, .int .i64 0, .int .i64 0, .string ⟨#[]⟩]) at P1
  clear P2
  go_wp2_with fail
  refine (C1.out _ P1.out.2.1).mono ?_
  rintro e w3 ⟨rfl, m2⟩
  have P2 := hide (P1.out.moved m2)
  clear m2 C1 P1
  obtain ⟨x1, y1⟩ := P2.out.at_ 1 _ rfl
  have P1 := hide (P2.out.set 1 (.int .i64 a))
  change Hid (PS w _ g w.heap.size w1.heap.size s _ #[.int .i64 kb, .int .i64 a, .int .i64 0, .int .i64 0, .int .i64 0, .string ⟨#[]⟩]) at P1
  clear P2
  go_wp2_with fail
  refine (C2.out _ P1.out.2.1).mono ?_
  rintro e w4 ⟨rfl, m2⟩
  have P2 := hide (P1.out.moved m2)
  clear m2 C2 P1
  obtain ⟨x2, y2⟩ := P2.out.at_ 2 _ rfl
  have P1 := hide (P2.out.set 2 (.int .i64 b1))
  change Hid (PS w _ g w.heap.size w1.heap.size s _ #[.int .i64 kb, .int .i64 a, .int .i64 b1, .int .i64 0, .int .i64 0, .string ⟨#[]⟩]) at P1
  clear P2
  go_wp2_with fail
  refine (C3.out _ P1.out.2.1).mono ?_
  rintro e w5 ⟨rfl, m2⟩
  have P2 := hide (P1.out.moved m2)
  clear m2 C3 P1
  obtain ⟨x3, y3⟩ := P2.out.at_ 3 _ rfl
  have P1 := hide (P2.out.set 3 (.int .i64 c))
  change Hid (PS w _ g w.heap.size w1.heap.size s _ #[.int .i64 kb, .int .i64 a, .int .i64 b1, .int .i64 c, .int .i64 0, .string ⟨#[]⟩]) at P1
  clear P2
  go_wp2_with fail
  refine (C4.out _ P1.out.2.1).mono ?_
  rintro e w2 ⟨rfl, k2⟩
  have KK := hide (P1.out.1.trans k2)
  go_wp2
  exact ⟨rfl, rfl, KK.out⟩
set_option maxHeartbeats 1000000 in
set_option maxRecDepth 100000 in
theorem rpage6 (t : ByteArray) (s0 : ByteArray) (i0 : Int) (g : Nat) (w : World) (hm : t.size ≤ maxLen) (hr : RAt w g s0 i0) (ht : HalvIn w) (s : ByteArray) (hu : unA t = some s) (b : UInt8) (hb : s.data.toList[0]? = some b) (a i1 : Nat) (h0 : readV s.data.toList 1 = some (a, i1)) (b1 i2 : Nat) (h1 : readV s.data.toList i1 = some (b1, i2)) (c i3 : Nat) (h2 : readV s.data.toList i2 = some (c, i3)) (d i4 : Nat) (h3 : readV s.data.toList i3 = some (d, i4)) (hq : ¬ (Pg.mk b.toNat a b1 c d (s.extract i4 s.size)).Right) :
    Calls Tryz.prog 193 #[.pointer (some ⟨g, 0, none⟩), .string t] w fun e w' => e = .panicked noPg ∧ Kept2 w w' (· ≠ g) := by
  have R := hide hr
  have HT := hide ht
  have b0 : Below w.heap.size w (w.alloc (.cells zero6 92)) := (Below.refl _ _).alloc (Nat.le_refl _) _
  have C := hide (runseal_yes t s0 s i0 g (w.alloc (.cells zero6 92)) hm hu (R.out.below b0) (HT.out.on b0))
  have B0 := hide b0
  have Z0 : Hid ((w.alloc (.cells zero6 92)).heap[w.heap.size]? = some (.cells zero6 92 (0, 0))) := heap_alloc_new _ _
  have hs := (unA_some hu).2
  have hg := hr.1
  have hl0 : 1 ≤ s.size := by have := (List.getElem?_eq_some_iff.1 hb).1; exact this
  have hl1 : i1 ≤ s.size := (readV_le _ _ _ _ hl0 h0).1
  have hl2 : i2 ≤ s.size := (readV_le _ _ _ _ hl1 h1).1
  have hl3 : i3 ≤ s.size := (readV_le _ _ _ _ hl2 h2).1
  have hl4 : i4 ≤ s.size := (readV_le _ _ _ _ hl3 h3).1
  have C0 := hide (fun W h => rbyte_yes s 0 b g W (by omega) hb h)
  have C1 := hide (fun W h => rnum_yes s 1 a i1 g W (by omega) hl0 h0 h)
  have C2 := hide (fun W h => rnum_yes s i1 b1 i2 g W (by omega) hl1 h1 h)
  have C3 := hide (fun W h => rnum_yes s i2 c i3 g W (by omega) hl2 h2 h)
  have C4 := hide (fun W h => rnum_yes s i3 d i4 g W (by omega) hl3 h3 h)
  have C5 := hide (fun W h => rrest s i4 g W hl4 h)
  have C6 := hide (fun W => ipageOk (Pg.mk b.toNat a b1 c d (s.extract i4 s.size)) W)
  rw [dcN hq] at C6
  unfold pgVal at C6
  simp only at C6
  obtain ⟨u, hu5⟩ : ∃ u, u = s.extract i4 s.size := ⟨_, rfl⟩
  rw [← hu5] at C5 C6
  clear hq hu5
  obtain ⟨kb, hkb⟩ : ∃ k : Nat, k = b.toNat := ⟨_, rfl⟩
  rw [← hkb] at C0
  rw [← hkb] at C6
  clear hkb
  unfold zero6 at C
  clear hr ht hu b0 hb h0 h1 h2 h3
  go_enter Tryz.func193, Tryz.ntmps193
  go_wp2_with fail
  refine C.out.mono ?_
  rintro e w1 ⟨rfl, m1⟩
  clear C
  have lw1 : w.heap.size < w1.heap.size := Nat.lt_of_lt_of_le (by simp) m1.1.2.2.2.1
  have P1 : Hid (PS w (w1.alloc (.cells zero6 92)) g w.heap.size w1.heap.size s 0 zero6) := by
    have b1 : Below w1.heap.size w1 (w1.alloc (.cells zero6 92)) := (Below.refl _ _).alloc (Nat.le_refl _) _
    exact ⟨(Kept2.below B0.out).trans (m1.1.trans (Kept2.below b1)), m1.2.below b1, Nat.le_refl _, lw1, hg, (b1.block _ lw1).trans ((m1.1.2.2.2.2 _ (by simp) (by omega)).trans Z0.out), heap_alloc_new _ _⟩
  clear m1 B0 Z0
  unfold zero6 at P1
  go_wp2_with fail
  refine (C0.out _ P1.out.2.1).mono ?_
  rintro e w2 ⟨rfl, m2⟩
  have P2 := hide (P1.out.moved m2)
  clear m2 C0 P1
  obtain ⟨x0, y0⟩ := P2.out.at_ 0 _ rfl
  have P1 := hide (P2.out.set 0 (.int .i64 kb))
  change Hid (PS w _ g w.heap.size w1.heap.size s _ #[.int .i64 kb, .int .i64 0, .int .i64 0, .int .i64 0, .int .i64 0, .string ⟨#[]⟩]) at P1
  clear P2
  go_wp2_with fail
  refine (C1.out _ P1.out.2.1).mono ?_
  rintro e w3 ⟨rfl, m2⟩
  have P2 := hide (P1.out.moved m2)
  clear m2 C1 P1
  obtain ⟨x1, y1⟩ := P2.out.at_ 1 _ rfl
  have P1 := hide (P2.out.set 1 (.int .i64 a))
  change Hid (PS w _ g w.heap.size w1.heap.size s _ #[.int .i64 kb, .int .i64 a, .int .i64 0, .int .i64 0, .int .i64 0, .string ⟨#[]⟩]) at P1
  clear P2
  go_wp2_with fail
  refine (C2.out _ P1.out.2.1).mono ?_
  rintro e w4 ⟨rfl, m2⟩
  have P2 := hide (P1.out.moved m2)
  clear m2 C2 P1
  obtain ⟨x2, y2⟩ := P2.out.at_ 2 _ rfl
  have P1 := hide (P2.out.set 2 (.int .i64 b1))
  change Hid (PS w _ g w.heap.size w1.heap.size s _ #[.int .i64 kb, .int .i64 a, .int .i64 b1, .int .i64 0, .int .i64 0, .string ⟨#[]⟩]) at P1
  clear P2
  go_wp2_with fail
  refine (C3.out _ P1.out.2.1).mono ?_
  rintro e w5 ⟨rfl, m2⟩
  have P2 := hide (P1.out.moved m2)
  clear m2 C3 P1
  obtain ⟨x3, y3⟩ := P2.out.at_ 3 _ rfl
  have P1 := hide (P2.out.set 3 (.int .i64 c))
  change Hid (PS w _ g w.heap.size w1.heap.size s _ #[.int .i64 kb, .int .i64 a, .int .i64 b1, .int .i64 c, .int .i64 0, .string ⟨#[]⟩]) at P1
  clear P2
  go_wp2_with fail
  refine (C4.out _ P1.out.2.1).mono ?_
  rintro e w6 ⟨rfl, m2⟩
  have P2 := hide (P1.out.moved m2)
  clear m2 C4 P1
  obtain ⟨x4, y4⟩ := P2.out.at_ 4 _ rfl
  have P1 := hide (P2.out.set 4 (.int .i64 d))
  change Hid (PS w _ g w.heap.size w1.heap.size s _ #[.int .i64 kb, .int .i64 a, .int .i64 b1, .int .i64 c, .int .i64 d, .string ⟨#[]⟩]) at P1
  clear P2
  go_wp2_with fail
  refine (C5.out _ P1.out.2.1).mono ?_
  rintro e w7 ⟨rfl, m2⟩
  have P2 := hide (P1.out.moved m2)
  clear m2 C5 P1
  obtain ⟨x5, y5⟩ := P2.out.at_ 5 _ rfl
  have P1 := hide (P2.out.set 5 (.string u))
  change Hid (PS w _ g w.heap.size w1.heap.size s _ #[.int .i64 kb, .int .i64 a, .int .i64 b1, .int .i64 c, .int .i64 d, .string u]) at P1
  clear P2
  obtain ⟨q0, -⟩ := P1.out.at_ 0 _ rfl
  obtain ⟨q1, -⟩ := P1.out.at_ 1 _ rfl
  obtain ⟨q2, -⟩ := P1.out.at_ 2 _ rfl
  obtain ⟨q3, -⟩ := P1.out.at_ 3 _ rfl
  obtain ⟨q4, -⟩ := P1.out.at_ 4 _ rfl
  obtain ⟨q5, -⟩ := P1.out.at_ 5 _ rfl
  go_wp2_with fail
  refine (C6.out _).mono ?_
  rintro e w8 ⟨rfl, b8⟩
  have P2 := hide (P1.out.below b8)
  clear P1 b8 C6
  go_wp2_with fail
  refine (must_no _ _).mono ?_
  rintro e w9 ⟨rfl, rfl⟩
  have KK := hide P2.out.1
  go_wp2
  exact ⟨rfl, rfl, KK.out⟩
set_option maxHeartbeats 1000000 in
set_option maxRecDepth 100000 in
theorem rpage7 (t : ByteArray) (s0 : ByteArray) (i0 : Int) (g : Nat) (w : World) (hm : t.size ≤ maxLen) (hr : RAt w g s0 i0) (ht : HalvIn w) (s : ByteArray) (hu : unA t = some s) (b : UInt8) (hb : s.data.toList[0]? = some b) (a i1 : Nat) (h0 : readV s.data.toList 1 = some (a, i1)) (b1 i2 : Nat) (h1 : readV s.data.toList i1 = some (b1, i2)) (c i3 : Nat) (h2 : readV s.data.toList i2 = some (c, i3)) (d i4 : Nat) (h3 : readV s.data.toList i3 = some (d, i4)) (hq : (Pg.mk b.toNat a b1 c d (s.extract i4 s.size)).Right) :
    Calls Tryz.prog 193 #[.pointer (some ⟨g, 0, none⟩), .string t] w fun e w' => e = .returned (pgVal (Pg.mk b.toNat a b1 c d (s.extract i4 s.size))) ∧ Kept2 w w' (· ≠ g) := by
  have R := hide hr
  have HT := hide ht
  have b0 : Below w.heap.size w (w.alloc (.cells zero6 92)) := (Below.refl _ _).alloc (Nat.le_refl _) _
  have C := hide (runseal_yes t s0 s i0 g (w.alloc (.cells zero6 92)) hm hu (R.out.below b0) (HT.out.on b0))
  have B0 := hide b0
  have Z0 : Hid ((w.alloc (.cells zero6 92)).heap[w.heap.size]? = some (.cells zero6 92 (0, 0))) := heap_alloc_new _ _
  have hs := (unA_some hu).2
  have hg := hr.1
  have hl0 : 1 ≤ s.size := by have := (List.getElem?_eq_some_iff.1 hb).1; exact this
  have hl1 : i1 ≤ s.size := (readV_le _ _ _ _ hl0 h0).1
  have hl2 : i2 ≤ s.size := (readV_le _ _ _ _ hl1 h1).1
  have hl3 : i3 ≤ s.size := (readV_le _ _ _ _ hl2 h2).1
  have hl4 : i4 ≤ s.size := (readV_le _ _ _ _ hl3 h3).1
  have C0 := hide (fun W h => rbyte_yes s 0 b g W (by omega) hb h)
  have C1 := hide (fun W h => rnum_yes s 1 a i1 g W (by omega) hl0 h0 h)
  have C2 := hide (fun W h => rnum_yes s i1 b1 i2 g W (by omega) hl1 h1 h)
  have C3 := hide (fun W h => rnum_yes s i2 c i3 g W (by omega) hl2 h2 h)
  have C4 := hide (fun W h => rnum_yes s i3 d i4 g W (by omega) hl3 h3 h)
  have C5 := hide (fun W h => rrest s i4 g W hl4 h)
  have C6 := hide (fun W => ipageOk (Pg.mk b.toNat a b1 c d (s.extract i4 s.size)) W)
  rw [dcY hq] at C6
  unfold pgVal at C6
  simp only at C6
  obtain ⟨u, hu5⟩ : ∃ u, u = s.extract i4 s.size := ⟨_, rfl⟩
  rw [← hu5] at C5 C6
  unfold pgVal
  simp only
  rw [← hu5]
  clear hq hu5
  obtain ⟨kb, hkb⟩ : ∃ k : Nat, k = b.toNat := ⟨_, rfl⟩
  rw [← hkb] at C0
  rw [← hkb] at C6
  rw [← hkb]
  clear hkb
  unfold zero6 at C
  clear hr ht hu b0 hb h0 h1 h2 h3
  go_enter Tryz.func193, Tryz.ntmps193
  go_wp2_with fail
  refine C.out.mono ?_
  rintro e w1 ⟨rfl, m1⟩
  clear C
  have lw1 : w.heap.size < w1.heap.size := Nat.lt_of_lt_of_le (by simp) m1.1.2.2.2.1
  have P1 : Hid (PS w (w1.alloc (.cells zero6 92)) g w.heap.size w1.heap.size s 0 zero6) := by
    have b1 : Below w1.heap.size w1 (w1.alloc (.cells zero6 92)) := (Below.refl _ _).alloc (Nat.le_refl _) _
    exact ⟨(Kept2.below B0.out).trans (m1.1.trans (Kept2.below b1)), m1.2.below b1, Nat.le_refl _, lw1, hg, (b1.block _ lw1).trans ((m1.1.2.2.2.2 _ (by simp) (by omega)).trans Z0.out), heap_alloc_new _ _⟩
  clear m1 B0 Z0
  unfold zero6 at P1
  go_wp2_with fail
  refine (C0.out _ P1.out.2.1).mono ?_
  rintro e w2 ⟨rfl, m2⟩
  have P2 := hide (P1.out.moved m2)
  clear m2 C0 P1
  obtain ⟨x0, y0⟩ := P2.out.at_ 0 _ rfl
  have P1 := hide (P2.out.set 0 (.int .i64 kb))
  change Hid (PS w _ g w.heap.size w1.heap.size s _ #[.int .i64 kb, .int .i64 0, .int .i64 0, .int .i64 0, .int .i64 0, .string ⟨#[]⟩]) at P1
  clear P2
  go_wp2_with fail
  refine (C1.out _ P1.out.2.1).mono ?_
  rintro e w3 ⟨rfl, m2⟩
  have P2 := hide (P1.out.moved m2)
  clear m2 C1 P1
  obtain ⟨x1, y1⟩ := P2.out.at_ 1 _ rfl
  have P1 := hide (P2.out.set 1 (.int .i64 a))
  change Hid (PS w _ g w.heap.size w1.heap.size s _ #[.int .i64 kb, .int .i64 a, .int .i64 0, .int .i64 0, .int .i64 0, .string ⟨#[]⟩]) at P1
  clear P2
  go_wp2_with fail
  refine (C2.out _ P1.out.2.1).mono ?_
  rintro e w4 ⟨rfl, m2⟩
  have P2 := hide (P1.out.moved m2)
  clear m2 C2 P1
  obtain ⟨x2, y2⟩ := P2.out.at_ 2 _ rfl
  have P1 := hide (P2.out.set 2 (.int .i64 b1))
  change Hid (PS w _ g w.heap.size w1.heap.size s _ #[.int .i64 kb, .int .i64 a, .int .i64 b1, .int .i64 0, .int .i64 0, .string ⟨#[]⟩]) at P1
  clear P2
  go_wp2_with fail
  refine (C3.out _ P1.out.2.1).mono ?_
  rintro e w5 ⟨rfl, m2⟩
  have P2 := hide (P1.out.moved m2)
  clear m2 C3 P1
  obtain ⟨x3, y3⟩ := P2.out.at_ 3 _ rfl
  have P1 := hide (P2.out.set 3 (.int .i64 c))
  change Hid (PS w _ g w.heap.size w1.heap.size s _ #[.int .i64 kb, .int .i64 a, .int .i64 b1, .int .i64 c, .int .i64 0, .string ⟨#[]⟩]) at P1
  clear P2
  go_wp2_with fail
  refine (C4.out _ P1.out.2.1).mono ?_
  rintro e w6 ⟨rfl, m2⟩
  have P2 := hide (P1.out.moved m2)
  clear m2 C4 P1
  obtain ⟨x4, y4⟩ := P2.out.at_ 4 _ rfl
  have P1 := hide (P2.out.set 4 (.int .i64 d))
  change Hid (PS w _ g w.heap.size w1.heap.size s _ #[.int .i64 kb, .int .i64 a, .int .i64 b1, .int .i64 c, .int .i64 d, .string ⟨#[]⟩]) at P1
  clear P2
  go_wp2_with fail
  refine (C5.out _ P1.out.2.1).mono ?_
  rintro e w7 ⟨rfl, m2⟩
  have P2 := hide (P1.out.moved m2)
  clear m2 C5 P1
  obtain ⟨x5, y5⟩ := P2.out.at_ 5 _ rfl
  have P1 := hide (P2.out.set 5 (.string u))
  change Hid (PS w _ g w.heap.size w1.heap.size s _ #[.int .i64 kb, .int .i64 a, .int .i64 b1, .int .i64 c, .int .i64 d, .string u]) at P1
  clear P2
  obtain ⟨q0, -⟩ := P1.out.at_ 0 _ rfl
  obtain ⟨q1, -⟩ := P1.out.at_ 1 _ rfl
  obtain ⟨q2, -⟩ := P1.out.at_ 2 _ rfl
  obtain ⟨q3, -⟩ := P1.out.at_ 3 _ rfl
  obtain ⟨q4, -⟩ := P1.out.at_ 4 _ rfl
  obtain ⟨q5, -⟩ := P1.out.at_ 5 _ rfl
  go_wp2_with fail
  refine (C6.out _).mono ?_
  rintro e w8 ⟨rfl, b8⟩
  have P2 := hide (P1.out.below b8)
  clear P1 b8 C6
  go_wp2_with fail
  refine (must_yes _ _).mono ?_
  rintro e w9 ⟨rfl, rfl⟩
  obtain ⟨p0, -⟩ := P2.out.at_ 0 _ rfl
  obtain ⟨p1, -⟩ := P2.out.at_ 1 _ rfl
  obtain ⟨p2, -⟩ := P2.out.at_ 2 _ rfl
  obtain ⟨p3, -⟩ := P2.out.at_ 3 _ rfl
  obtain ⟨p4, -⟩ := P2.out.at_ 4 _ rfl
  obtain ⟨p5, -⟩ := P2.out.at_ 5 _ rfl
  have Z := P2.out.2.2.2.2.2.1
  unfold zero6 at Z
  have z0 := cell_of_row _ _ 0 _ _ _ Z
  have f0 := frozen_of_row _ _ 0 _ _ Z
  have z1 := cell_of_row _ _ 1 _ _ _ Z
  have f1 := frozen_of_row _ _ 1 _ _ Z
  have z2 := cell_of_row _ _ 2 _ _ _ Z
  have f2 := frozen_of_row _ _ 2 _ _ Z
  have z3 := cell_of_row _ _ 3 _ _ _ Z
  have f3 := frozen_of_row _ _ 3 _ _ Z
  have z4 := cell_of_row _ _ 4 _ _ _ Z
  have f4 := frozen_of_row _ _ 4 _ _ Z
  have z5 := cell_of_row _ _ 5 _ _ _ Z
  have f5 := frozen_of_row _ _ 5 _ _ Z
  have S := six_set (a := .int .i64 kb) (b := .int .i64 a) (c := .int .i64 b1) (d := .int .i64 c) (e := .int .i64 d) (f := .string u) Z
  have s0 := cell_of_row _ _ 0 _ _ _ S
  have s1 := cell_of_row _ _ 1 _ _ _ S
  have s2 := cell_of_row _ _ 2 _ _ _ S
  have s3 := cell_of_row _ _ 3 _ _ _ S
  have s4 := cell_of_row _ _ 4 _ _ _ S
  have s5 := cell_of_row _ _ 5 _ _ _ S
  have KK := hide (six_kept (a := .int .i64 kb) (b := .int .i64 a) (c := .int .i64 b1) (d := .int .i64 c) (e := .int .i64 d) (f := .string u) P2.out.1 (Nat.le_refl _))
  clear S
  go_wp2
  exact bodyPost_ret (v := .agg #[.int .i64 kb, .int .i64 a, .int .i64 b1, .int .i64 c, .int .i64 d, .string u]) (by simp [results, Tryz.results193, go_sem, s0, s1, s2, s3, s4, s5]) rfl ⟨rfl, KK.out⟩
end Go.Proofs.YtfmnaidhfgmemaaGreatDoor
