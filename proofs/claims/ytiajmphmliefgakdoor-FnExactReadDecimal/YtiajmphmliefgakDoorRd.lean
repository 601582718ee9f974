/-
  The walks of ReadDecimal, impl's and spec's.
-/
import Derived.Test.YtiajmphmliefgakDoorDecLaw
import Derived.Test.YtiajmphmliefgakDoorRdMath
import Derived.Test.YtiajmphmliefgakDoorFigs
namespace Go.Proofs.YtiajmphmliefgakDoor
open Go.RowKit
open Words
open Go.Lib (decDigits itoa)

def rdYes (l : List UInt8) : Value := .tuple #[.int .i64 (dv l), .bool true]
def rdNo : Value := .tuple #[.int .i64 0, .bool false]

set_option maxHeartbeats 1000000 in
set_option maxRecDepth 100000 in
theorem specRd (s : ByteArray) (w : World) (hs : s.size ≤ 10) :
    Calls Tryd.prog 8 #[.string s] w fun e w' => (RdOk s.data.toList ∧ e = .returned (rdYes s.data.toList) ∨ ¬ RdOk s.data.toList ∧ e = .returned rdNo) ∧ Below w.heap.size w w' := by
  have g : ¬ (10 : Int) < s.size := by omega
  have hs10 : s.data.toList.length ≤ 10 := by simpa using hs
  have HS := hide hs10
  clear hs10
  go_enter Tryd.func8, Tryd.ntmps8
  go_wp2
  go_loop [4, 5] (fun nv iv => ∃ k : Nat, k ≤ s.size ∧ iv = .int .i64 k ∧ nv = .int .i64 (dv (s.data.toList.take k)) ∧ Hid (FigsOk 10 (s.data.toList.take k))) (fun _ iv => s.size - (intOf iv).toNat)
  case atStart => exact ⟨0, Nat.zero_le _, rfl, rfl, fun x hx => by simp at hx⟩
  case round =>
    obtain ⟨k, hk, rfl, rfl, HOK⟩ := hrel
    obtain ⟨d0, d1⟩ := dv_le s.data.toList k (by simpa using hk) HS.out HOK.out
    obtain ⟨d, hd⟩ : ∃ d, dv (s.data.toList.take k) = d := ⟨_, rfl⟩
    rw [hd] at d0 d1
    by_cases hlt : (k : Int) < s.size
    · obtain ⟨c, hcc⟩ : ∃ c : Nat, s[k].toNat = c := ⟨_, rfl⟩
      have hl : k < s.data.toList.length := by simpa using hlt
      have hc8 : c < 256 := by rw [← hcc]; exact UInt8.toNat_lt _
      have hcl : s.data.toList[k].toNat = c := by rw [← hcc]; rfl
      by_cases hv : 48 ≤ c ∧ c ≤ 57
      · obtain ⟨c1, c2⟩ := hv
        have HOK2 : Hid (FigsOk 10 (s.data.toList.take (k + 1))) := figs_take hl HOK.out (by rw [hcl]; exact (fig10 c).2 ⟨c1, c2⟩)
        have hdt := dv_take hl
        rw [hcl, hd, val10 c ⟨c1, c2⟩] at hdt
        have HD := hide hdt
        have n1 : ¬ (c : Int) < 48 := by omega
        have n2 : ¬ (57 : Int) < c := by omega
        rw [hd]
        clear hl hcl hdt hd HOK
        go_wp2
        go_round
        case rel => exact ⟨k + 1, by omega, by go_num, by rw [HD.out]; go_num, HOK2⟩
        case measure => simp [intOf]; omega
      · have HN : Hid (¬ RdOk s.data.toList) := fun h => figs_not hl (by rw [hcl]; exact fun h2 => hv ((fig10 c).1 h2)) h.1
        rw [hd]
        clear hl hcl hd HOK
        by_cases c1 : (c : Int) < 48
        · go_wp2
          go_ret2
          exact ⟨.inr ⟨HN.out, rfl⟩, Below.refl _ _⟩
        · have c2 : (57 : Int) < c := by omega
          go_wp2
          go_ret2
          exact ⟨.inr ⟨HN.out, rfl⟩, Below.refl _ _⟩
    · have hke : k = s.size := by omega
      have et : s.data.toList.take k = s.data.toList := List.take_of_length_le (by simp; omega)
      rw [et] at hd HOK
      rw [et, hd]
      have E := hide hd
      have hsl : s.toList = s.data.toList := Lib.toList_data s
      clear et hke hd
      by_cases hM : d ≤ 1000000000
      · by_cases hq : itoa d = s.data.toList
        · have F : Hid (RdOk s.data.toList) := ⟨HOK.out, by rw [E.out]; exact hM, by rw [E.out]; exact hq⟩
          have hcmp : (itoa d == s.toList) = true := by rw [hsl, beq_iff_eq]; exact hq
          clear hsl hq
          go_wp2_with fail
          refine (specDec d _ (by omega) (by omega)).mono ?_
          rintro e w1 ⟨rfl, hb⟩
          go_wp2
          go_ret2
          exact ⟨.inl ⟨F.out, by rw [rdYes, E.out]; rfl⟩, hb⟩
        · have F : Hid (¬ RdOk s.data.toList) := fun h => hq (by have := h.2.2; rw [E.out] at this; exact this)
          have hcmp : (itoa d == s.toList) = false := by rw [hsl, beq_eq_false_iff_ne]; exact hq
          clear hsl hq
          go_wp2_with fail
          refine (specDec d _ (by omega) (by omega)).mono ?_
          rintro e w1 ⟨rfl, hb⟩
          go_wp2
          go_ret2
          exact ⟨.inr ⟨F.out, rfl⟩, hb⟩
      · have F : Hid (¬ RdOk s.data.toList) := fun h => hM (by have := h.2.1; rw [E.out] at this; exact this)
        clear hsl
        go_wp2
        go_ret2
        exact ⟨.inr ⟨F.out, rfl⟩, Below.refl _ _⟩
end Go.Proofs.YtiajmphmliefgakDoor
