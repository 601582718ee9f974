/-
  The draws that the law on numbers takes.
-/
import Derived.Test.YtiajmphmliefgaaDoorDraw3
namespace Go.Proofs.YtiajmphmliefgaaDoor
open Go.RowKit

theorem big_any (ad : Option Addr) (len cap : Nat) (w : World) :
    Calls Tryd.prog 4 #[.slice ad len cap] w fun e w' => e = .returned (.bool (decide ((1048576 : Int) < len))) ∧ w' = w := by
  by_cases h : (1048576 : Int) < len
  all_goals
    go_enter Tryd.func4, Tryd.ntmps4
    go_wp2
    go_ret
    exact ⟨by simp [h], rfl⟩

set_option maxHeartbeats 400000 in
set_option maxRecDepth 100000 in
theorem number_any (p : Nat) (ad : Option Addr) (len cap B : Nat) (w : World) (hl : len ≤ 1048576) (hc : CurIn w p ad len cap) (hd : CodeIn w ad len B) (hB : B ≤ p) :
    Calls Tryd.prog 15 #[.pointer (some ⟨p, 0, none⟩)] w fun e w' => ∃ x : Int, e = .returned (.int .i64 x) ∧ Drawn w w' p ad len cap := by
  have hpw := hc.2.2.2.2.2
  have HC := hide hc
  have HD := hide hd
  clear hc hd
  go_enter Tryd.func15, Tryd.ntmps15
  go_wp2_with fail
  refine (below_any 4 p ad len cap B _ (by omega) hl HC.out HD.out hB).mono ?_
  rintro e w1 ⟨k, rfl, k0, k1, _, D1⟩
  have HD1 := hide (D1.code HD.out hB hpw)
  have hp1 := D1.2.2.2.2.2.2
  have hs1 := D1.1.size
  have E1 := hide D1
  clear D1 k1 HD HC
  by_cases h0 : k = 0
  · have t0 : (k == 0) = true := by rw [beq_iff_eq]; exact h0
    clear h0
    go_wp2_with fail
    refine (pickInt_any w1.heap.size [-1, 0, 127, 128, 16383, 16384, 1000000000, 1000000001, 9223372036854775807, -9223372036854775808] p ad len cap B _ (by simp) (by simp) (by omega) ?_ hl (E1.out.2.below ((Below.refl _ _).alloc (Nat.le_refl _) _) hp1) (HD1.out.on ((Below.refl w1.heap.size w1).alloc (Nat.le_refl _) _) (by omega)) hB).mono ?_
    · intro j hj
      have : j < 10 := by simpa using hj
      match j, this with
      | 0, _ => simp
      | 1, _ => simp
      | 2, _ => simp
      | 3, _ => simp
      | 4, _ => simp
      | 5, _ => simp
      | 6, _ => simp
      | 7, _ => simp
      | 8, _ => simp
      | 9, _ => simp
      | j + 10, h => omega
    · rintro e w2 ⟨x, rfl, D2⟩
      have D3 : Drawn w w2 p ad len cap := ⟨⟨D2.1.os.trans E1.out.1.os, D2.1.tape.trans E1.out.1.tape, D2.1.output.trans E1.out.1.output, by have := D2.1.size; simp at this; omega, fun j hj hr => by
        rw [D2.1.block j (by simp; omega) hr, Below.heap_alloc w1 _ j (by omega)]; exact E1.out.1.block j hj hr⟩, D2.2⟩
      have HD3 := hide D3
      clear D2 D3
      go_wp2
      go_ret
      exact ⟨x, rfl, HD3.out⟩
  · have t0 : (k == 0) = false := by rw [beq_eq_false_iff_ne]; exact h0
    by_cases h1 : k = 1
    · have t1 : (k == 1) = true := by rw [beq_iff_eq]; exact h1
      clear h0 h1
      go_wp2_with fail
      refine (below_any 1000000000 p ad len cap B _ (by omega) hl E1.out.2 HD1.out hB).mono ?_
      rintro e w2 ⟨x, rfl, _, _, _, D2⟩
      have HD3 := hide (E1.out.trans D2)
      clear D2
      go_wp2
      go_ret
      exact ⟨x, rfl, HD3.out⟩
    · have t1 : (k == 1) = false := by rw [beq_eq_false_iff_ne]; exact h1
      clear h0 h1
      go_wp2_with fail
      refine (below_any 400 p ad len cap B _ (by omega) hl E1.out.2 HD1.out hB).mono ?_
      rintro e w2 ⟨x, rfl, _, _, _, D2⟩
      have HD3 := hide (E1.out.trans D2)
      clear D2
      go_wp2
      go_ret
      exact ⟨x, rfl, HD3.out⟩

theorem long_int (n x : Int) (w : World) (h0 : 0 ≤ n) (hn : n ≤ 1048576) (hx0 : 0 ≤ x) (hx : x < 256) :
    Calls Tryd.prog 20 #[.int .i64 n, .int .u8 x] w fun e w' => ∃ t : List UInt8, e = .returned (.string ⟨t.toArray⟩) ∧ (t.length : Int) = n ∧ Below w.heap.size w w' := by
  obtain ⟨m, rfl⟩ := Int.eq_ofNat_of_zero_le h0
  obtain ⟨y, rfl⟩ := Int.eq_ofNat_of_zero_le hx0
  refine (long_any m y w (by omega) (by omega)).mono ?_
  rintro e w' ⟨t, rfl, ht, hb⟩
  exact ⟨t, rfl, by omega, hb⟩

set_option maxHeartbeats 400000 in
theorem drawVar_any (ad : Option Addr) (len cap : Nat) (w : World) (hl : len ≤ 1048576) (hd : CodeIn w ad len w.heap.size) :
    Calls Tryd.prog 5 #[.slice ad len cap] w fun e w' => ∃ x : Int, e = .returned (.int .i64 x) ∧ Below w.heap.size w w' := by
  have HD := hide hd
  clear hd
  go_enter Tryd.func5, Tryd.ntmps5
  go_wp2_with fail
  refine (new_any ad len cap w.heap.size _ hl HD.out).mono ?_
  rintro e w1 ⟨p, rfl, hp, hc, hb⟩
  have HC := hide hc
  have hs := hb.size
  have hpw := hc.2.2.2.2.2
  clear hc
  go_wp2_with fail
  refine (number_any p ad len cap w.heap.size _ hl HC.out (HD.out.on hb (Nat.le_refl _)) hp).mono ?_
  rintro e w2 ⟨x, rfl, D⟩
  have hb2 : Below w.heap.size w w2 := hb.trans (grown_below D.1 hp hs)
  clear D hb
  go_wp2
  go_ret
  exact ⟨x, rfl, hb2⟩

set_option maxHeartbeats 400000 in
theorem drawHex_any (ad : Option Addr) (len cap : Nat) (w : World) (hl : len ≤ 1048576) (hd : CodeIn w ad len w.heap.size) :
    Calls Tryd.prog 10 #[.slice ad len cap] w fun e w' => ∃ t : List UInt8, e = .returned (.string ⟨t.toArray⟩) ∧ t.length ≤ 20001 ∧ Below w.heap.size w w' := by
  have HD := hide hd
  clear hd
  go_enter Tryd.func10, Tryd.ntmps10
  go_wp2_with fail
  refine (new_any ad len cap w.heap.size _ hl HD.out).mono ?_
  rintro e w1 ⟨p, rfl, hp, hc, hb⟩
  have HC := hide hc
  have hs := hb.size
  have hpw := hc.2.2.2.2.2
  have HD1 := hide (HD.out.on hb (Nat.le_refl _))
  clear hc
  go_wp2_with fail
  refine (once_any 60 p ad len cap w.heap.size _ (by omega) hl HC.out HD1.out hp).mono ?_
  rintro e w2 ⟨b, rfl, D⟩
  have HD2 := hide (D.code HD1.out hp hpw)
  have hp2 := D.2.2.2.2.2.2
  have hb2 : Below w.heap.size w w2 := hb.trans (grown_below D.1 hp hs)
  have hs2 := hb2.size
  have HC2 := hide D.2
  clear D hb HD1 HC HD
  cases b
  · go_wp2_with fail
    refine (below_any 30 p ad len cap w.heap.size _ (by omega) hl HC2.out HD2.out hp).mono ?_
    rintro e w3 ⟨x, rfl, x0, _, _, D⟩
    have HD3 := hide (D.code HD2.out hp hp2)
    have hb3 : Below w.heap.size w w3 := hb2.trans (grown_below D.1 hp hs2)
    have hs3 := hb3.size
    have HC3 := hide D.2
    clear D HC2 HD2 hb2
    go_wp2_with fail
    refine (text_any x p ad len cap w.heap.size _ hl HC3.out HD3.out hp).mono ?_
    rintro e w4 ⟨t, rfl, ht, _, D⟩
    have hb4 : Below w.heap.size w w4 := hb3.trans (grown_below D.1 hp hs3)
    clear D hb3
    go_wp2
    go_ret
    exact ⟨t, rfl, by omega, hb4⟩
  · go_wp2_with fail
    refine (below_any 2 p ad len cap w.heap.size _ (by omega) hl HC2.out HD2.out hp).mono ?_
    rintro e w3 ⟨x, rfl, x0, x1, _, D⟩
    have x2 := x1 (by omega)
    have hb3 : Below w.heap.size w w3 := hb2.trans (grown_below D.1 hp hs2)
    have hs3 := hb3.size
    clear D HC2 HD2 hb2 x1
    obtain ⟨j, rfl⟩ := Int.eq_ofNat_of_zero_le x0
    go_wp2_with fail
    refine (long_int _ _ _ (by omega) (by omega) (by omega) (by omega)).mono ?_
    rintro e w4 ⟨t, rfl, ht, hb⟩
    have hb4 : Below w.heap.size w w4 := hb3.trans (hb.mono hs3)
    have HT : Hid (t.length ≤ 20001) := by show _ ≤ _; omega
    clear hb3 hb ht
    go_wp2
    go_ret
    exact ⟨t, rfl, HT.out, hb4⟩
end Go.Proofs.YtiajmphmliefgaaDoor
