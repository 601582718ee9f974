/-
  container/heap's down.
-/
import Derived.Test.YtcjgjkejhkhknaaHv
namespace Go.Proofs.Ytcjgjkejhkhknaa
open Go.RowKit

/-- A heap whose last place, n, has x. -/
def DnS (w wr : World) (hp q n : Nat) (u : Value) (x : Wb) (D : List Wb) : Prop := D.length = n + 1 ∧ D[n]? = some x ∧ HeapAt wr hp q u D ∧ KeptG w wr hp u
theorem DnS.below {w wr w2 : World} {hp q n : Nat} {u : Value} {x : Wb} {D : List Wb} (h : DnS w wr hp q n u x D) (hb : Below wr.heap.size wr w2) : DnS w w2 hp q n u x D :=
  ⟨h.1, h.2.1, h.2.2.1.below hb, h.2.2.2.trans (KeptG.below hb)⟩
theorem DnS.swap {w wr w2 : World} {hp q n i j : Nat} {u : Value} {x : Wb} {D : List Wb} {a b : Wb} (h : DnS w wr hp q n u x D) (ha : D[i]? = some a) (hb : D[j]? = some b) (hi : i < n) (hj : j < n) (h2 : HeapAt w2 hp q u (swp D i j a b)) (k2 : KeptG wr w2 hp u) : DnS w w2 hp q n u x (swp D i j a b) :=
  ⟨(swp_len _ _ _ _ _).trans h.1, by rw [swp_at ha hb, if_neg (by omega), if_neg (by omega)]; exact h.2.1, h2, h.2.2.2.trans k2⟩

set_option maxHeartbeats 1000000 in
set_option maxRecDepth 100000 in
theorem down_any (hp q n : Nat) (u : Value) (x : Wb) (D0 : List Wb) (w0 w : World) (h : DnS w0 w hp q n u x D0) :
    Calls Try.prog 117 #[.iface 85 (.pointer (some ⟨hp, 0, none⟩)), .int .i64 0, .int .i64 n] w fun e w' => ∃ b D, e = .returned (.bool b) ∧ DnS w0 w' hp q n u x D := by
  have mL := find_less (some ⟨hp, 0, none⟩)
  have mS := find_swap (some ⟨hp, 0, none⟩)
  have R0 := hide h
  have hl : n + 1 ≤ 1048576 := by have := h.2.2.1.2.2.1; rw [h.1] at this; exact this
  clear h
  go_enter Try.func117, Try.ntmps117
  go_wp2
  go_loopw [7] (fun iv wr => ∃ (i : Nat) (D : List Wb), iv = .int .i64 i ∧ i ≤ n ∧ Hid (DnS w0 wr hp q n u x D)) (fun iv _ => n - (intOf iv).toNat)
  case atStart => exact ⟨0, D0, rfl, Nat.zero_le _, R0⟩
  case round =>
    obtain ⟨i, D, rfl, hin, HR⟩ := hrel
    clear R0
    by_cases h1 : (n : Int) ≤ 2 * i + 1
    · go_wp2
      go_ret
      exact ⟨_, D, rfl, HR.out⟩
    · have hdl := HR.out.1
      obtain ⟨a, ha⟩ : ∃ a, D[i]? = some a := ⟨_, List.getElem?_eq_getElem (by omega)⟩
      obtain ⟨b, hb⟩ : ∃ b, D[2 * i + 1]? = some b := ⟨_, List.getElem?_eq_getElem (by omega)⟩
      obtain ⟨j, hj⟩ : ∃ j, 2 * i + 1 = j := ⟨_, rfl⟩
      rw [hj] at hb
      have hjI : 2 * (i : Int) + 1 = j := by omega
      have HHa := hide ha
      have HHb := hide hb
      have HJ := hide hj
      have hjn : j < n := by omega
      have hj0 : (0 : Int) ≤ j := by omega
      clear ha hb hj
      by_cases h2 : (j : Int) + 1 < n
      · obtain ⟨b2, hb2⟩ : ∃ b2, D[j + 1]? = some b2 := ⟨_, List.getElem?_eq_getElem (by omega)⟩
        have C := hide (hless_any hp q (j + 1) j u D b2 b wr HR.out.2.2.1 hb2 HHb.out)
        have HHb2 := hide hb2
        rw [show ((j + 1 : Nat) : Int) = (j : Int) + 1 by omega] at C
        clear hb2 hdl
        by_cases hls : ltW b2 b
        · rw [decide_eq_true hls] at C
          clear hls
          go_wp2_with fail
          refine C.out.mono ?_
          rintro e w2 ⟨rfl, b2'⟩
          have R2 := hide (HR.out.below b2')
          clear C b2' HR
          have C3 := hide (hless_any hp q (j + 1) i u D b2 a _ R2.out.2.2.1 HHb2.out HHa.out)
          rw [show ((j + 1 : Nat) : Int) = (j : Int) + 1 by omega] at C3
          by_cases hlt : ltW b2 a
          · rw [decide_eq_true hlt] at C3
            clear hlt
            go_wp2_with fail
            refine C3.out.mono ?_
            rintro e w3 ⟨rfl, b3⟩
            have R3 := hide (R2.out.below b3)
            have C4 := hide (hswap_ne hp q i (j + 1) u D a b2 w3 R3.out.2.2.1 HHa.out HHb2.out (by omega))
            rw [show ((j + 1 : Nat) : Int) = (j : Int) + 1 by omega] at C4
            clear C3 b3 R2
            go_wp2_with fail
            refine C4.out.mono ?_
            rintro e w4 ⟨rfl, h4, k4⟩
            have R4 := hide (R3.out.swap HHa.out HHb2.out (by omega) (by omega) h4 k4)
            clear C4 h4 k4 R3
            go_wp2
            go_roundw
            case rel => exact ⟨j + 1, _, by go_num, by omega, R4⟩
            case measure => simp [intOf]; omega
          · rw [decide_eq_false hlt] at C3
            clear hlt
            go_wp2_with fail
            refine C3.out.mono ?_
            rintro e w3 ⟨rfl, b3⟩
            have R3 := hide (R2.out.below b3)
            clear C3 b3 R2
            go_wp2
            go_ret
            exact ⟨_, D, rfl, R3.out⟩
        · rw [decide_eq_false hls] at C
          clear hls
          go_wp2_with fail
          refine C.out.mono ?_
          rintro e w2 ⟨rfl, b2'⟩
          have R2 := hide (HR.out.below b2')
          clear C b2' HR
          have C3 := hide (hless_any hp q (j) i u D b a _ R2.out.2.2.1 HHb.out HHa.out)
          by_cases hlt : ltW b a
          · rw [decide_eq_true hlt] at C3
            clear hlt
            go_wp2_with fail
            refine C3.out.mono ?_
            rintro e w3 ⟨rfl, b3⟩
            have R3 := hide (R2.out.below b3)
            have C4 := hide (hswap_ne hp q i (j) u D a b w3 R3.out.2.2.1 HHa.out HHb.out (by omega))
            clear C3 b3 R2
            go_wp2_with fail
            refine C4.out.mono ?_
            rintro e w4 ⟨rfl, h4, k4⟩
            have R4 := hide (R3.out.swap HHa.out HHb.out (by omega) (by omega) h4 k4)
            clear C4 h4 k4 R3
            go_wp2
            go_roundw
            case rel => exact ⟨j, _, by go_num, by omega, R4⟩
            case measure => simp [intOf]; omega
          · rw [decide_eq_false hlt] at C3
            clear hlt
            go_wp2_with fail
            refine C3.out.mono ?_
            rintro e w3 ⟨rfl, b3⟩
            have R3 := hide (R2.out.below b3)
            clear C3 b3 R2
            go_wp2
            go_ret
            exact ⟨_, D, rfl, R3.out⟩
      · clear hdl
        have C3 := hide (hless_any hp q (j) i u D b a _ HR.out.2.2.1 HHb.out HHa.out)
        by_cases hlt : ltW b a
        · rw [decide_eq_true hlt] at C3
          clear hlt
          go_wp2_with fail
          refine C3.out.mono ?_
          rintro e w3 ⟨rfl, b3⟩
          have R3 := hide (HR.out.below b3)
          have C4 := hide (hswap_ne hp q i (j) u D a b w3 R3.out.2.2.1 HHa.out HHb.out (by omega))
          clear C3 b3 HR
          go_wp2_with fail
          refine C4.out.mono ?_
          rintro e w4 ⟨rfl, h4, k4⟩
          have R4 := hide (R3.out.swap HHa.out HHb.out (by omega) (by omega) h4 k4)
          clear C4 h4 k4 R3
          go_wp2
          go_roundw
          case rel => exact ⟨j, _, by go_num, by omega, R4⟩
          case measure => simp [intOf]; omega
        · rw [decide_eq_false hlt] at C3
          clear hlt
          go_wp2_with fail
          refine C3.out.mono ?_
          rintro e w3 ⟨rfl, b3⟩
          have R3 := hide (HR.out.below b3)
          clear C3 b3 HR
          go_wp2
          go_ret
          exact ⟨_, D, rfl, R3.out⟩
end Go.Proofs.Ytcjgjkejhkhknaa
