/-
  SeP; Seal; SpecSum
-/
import Derived.Test.YtaolinlginloaadDoorPk0
import Derived.Test.YtaolinlginloaadDoorSMath
import Derived.Test.YtaolinlginloaadDoorSum
import Derived.Test.YtaolinlginloaadDoorPk18
import Derived.Laws.BitsAllLaws
/-
  Texts sealed with a sum, in plain words.
-/
namespace Go.Proofs.YtaolinlginloaadDoor
open Sums

def sealA (t : ByteArray) : ByteArray := t ++ ⟨(four (sumOf t.data.toList)).toArray⟩
theorem sealA_size (t : ByteArray) : (sealA t).size = t.size + 4 := by
  simp [sealA, ByteArray.size_append]; rfl
theorem sealA_list (t : ByteArray) : (sealA t).data.toList = sealL t.data.toList := by
  simp [sealA, sealL, ByteArray.data_append]

def body (t : ByteArray) : ByteArray := t.extract 0 (t.size - 4)
theorem body_size (t : ByteArray) : (body t).size = t.size - 4 := by simp [body]
/-- What stands sealed in a text, if any does. -/
def unA (t : ByteArray) : Option ByteArray :=
  if 4 ≤ t.size ∧ t.size ≤ 20004 ∧ (sealA (body t)).data.toList = t.data.toList then some (body t) else none
theorem unA_some {t s : ByteArray} (h : unA t = some s) : sealA s = t ∧ s.size ≤ 20000 := by
  unfold unA at h
  split at h
  · rename_i hc
    cases h
    exact ⟨ByteArray.ext (Array.toList_inj.1 hc.2.2), by rw [body_size]; omega⟩
  · cases h
theorem body_seal (s : ByteArray) : body (sealA s) = s := by
  unfold body
  rw [sealA_size]
  apply ByteArray.ext
  unfold sealA
  have e : s.size + 4 - 4 = s.data.size := by simp
  rw [e]
  simp [ByteArray.data_append, ByteArray.data_extract]
theorem unA_seal (s : ByteArray) (h : s.size ≤ 20000) : unA (sealA s) = some s := by
  unfold unA
  rw [body_seal, if_pos ⟨by rw [sealA_size]; omega, by rw [sealA_size]; omega, rfl⟩]

theorem unA_none {t : ByteArray} (h : ¬ (4 ≤ t.size ∧ t.size ≤ 20004 ∧ sealA (body t) = t)) : unA t = none := by
  unfold unA
  rw [if_neg]
  rintro ⟨a, b, c⟩
  exact h ⟨a, b, ByteArray.ext (Array.toList_inj.1 c)⟩
theorem unA_yes {t : ByteArray} (h1 : 4 ≤ t.size) (h2 : t.size ≤ 20004) (h3 : sealA (body t) = t) : unA t = some (body t) := by
  unfold unA
  rw [if_pos ⟨h1, h2, by rw [h3]⟩]

end Go.Proofs.YtaolinlginloaadDoor

/-
  The walks of impl's texts sealed with a sum.
-/
namespace Go.Proofs.YtaolinlginloaadDoor
open Go.RowKit
open Sums

theorem four_at (x : Nat) (hx : x < 4294967296) (w : World) (j : Nat) (hj : j < (four x).length) :
    (w.alloc (.cells #[Value.int .u8 ((x : Int) / 16777216), Value.int .u8 ((x : Int) / 65536 % 256), Value.int .u8 ((x : Int) / 256 % 256), Value.int .u8 ((x : Int) % 256)] 5)).cell? ((⟨w.heap.size, 0, none⟩ : Addr).add j) = some (.int .u8 ((four x)[j].toNat : Int)) := by
  rw [four_len] at hj
  match j, hj with
  | 0, _ => simp [Addr.add, four]; omega
  | 1, _ => simp [Addr.add, four]
  | 2, _ => simp [Addr.add, four]
  | 3, _ => simp [Addr.add, four]

set_option maxHeartbeats 400000 in
theorem asBytes_any (x : Nat) (w : World) (hx : x < 4294967296) :
    Calls Tryd.prog 77 #[.int .u32 x] w fun e w' => e = .returned (.string ⟨(four x).toArray⟩) ∧ Below w.heap.size w w' := by
  have hcv := run_convert_bytes_back (P := Tryd.prog) _ 78 9 5 ⟨w.heap.size, 0, none⟩ 4 (four x) Tryd.underlying78 Tryd.underlying5 Tryd.underlying9 (four_at x hx w)
  rw [four_len] at hcv
  generalize (ByteArray.mk (four x).toArray) = r at hcv
  go_enter Tryd.func77, Tryd.ntmps77
  go_wp2
  go_ret
  exact ⟨rfl, (Below.refl _ _).alloc (Nat.le_refl _) _⟩

set_option maxHeartbeats 400000 in
theorem sealed_any (t : ByteArray) (w : World) (hl : t.size ≤ 20000) (ht : HalvIn w) :
    Calls Tryd.prog 75 #[.string t] w fun e w' => e = .returned (.tuple #[.string (sealA t), .bool true]) ∧ Below w.heap.size w w' := by
  have g : ¬ (20000 : Int) < t.size := by omega
  have HT := hide ht
  clear ht
  go_enter Tryd.func75, Tryd.ntmps75
  go_wp2_with fail
  refine (sumOf_any t _ (by unfold maxLen; omega) HT.out).mono ?_
  rintro e w1 ⟨rfl, rfl⟩
  have hx := sumOf_lt t.data.toList
  have E : Hid (sealA t = t ++ ⟨(four (sumOf t.data.toList)).toArray⟩) := rfl
  have hfl := four_len (sumOf t.data.toList)
  generalize sumOf t.data.toList = x at hx E hfl
  go_wp2_with fail
  refine (asBytes_any x _ hx).mono ?_
  rintro e w2 ⟨rfl, hb⟩
  generalize four x = f at E hfl
  go_wp2
  go_ret2
  exact ⟨by rw [E.out]; rfl, hb⟩

theorem sealed_no (t : ByteArray) (w : World) (hl : (20000 : Int) < t.size) :
    Calls Tryd.prog 75 #[.string t] w fun e w' => e = .returned (.tuple #[.string ⟨#[]⟩, .bool false]) ∧ w' = w := by
  go_enter Tryd.func75, Tryd.ntmps75
  go_wp2
  go_ret2
  exact ⟨rfl, rfl⟩
end Go.Proofs.YtaolinlginloaadDoor

/-
  The walks of the specification's sums: what each call gives.
-/
namespace Go.Proofs.YtaolinlginloaadDoor
open Go.RowKit
open Sums

def halfN : Nat → Nat → Nat
  | 0, x => x
  | k + 1, x => half (halfN k x)
theorem halfN_8 (x : Nat) : halfN 8 x = h4 (h4 x) := rfl
theorem half_odd (m : Nat) (hm : m < 4294967296) (h : ((m : Int) % 2 == 1) = true) : bits .xor .u32 ((m : Int) / 2) 3558460437 = (half m : Nat) := by
  have h1 : m % 2 = 1 := by rw [beq_iff_eq] at h; omega
  have hy := u32_xor ((m : Int) / 2) 3558460437 (by omega) (by omega) (by omega) (by omega)
  rw [hy, half, if_pos h1, show ((m : Int) / 2).toNat = m / 2 by omega]
  rfl
theorem half_even (m : Nat) (h : ((m : Int) % 2 == 1) = false) : half m = m / 2 := by
  have h1 : ¬ m % 2 = 1 := by rw [beq_eq_false_iff_ne] at h; omega
  rw [half, if_neg h1, Nat.xor_zero]
theorem sum_step' (s : Nat) (t : ByteArray) (k c m : Nat) (h : k < t.size) (hc : t[k].toNat = c) (hm : m = sumL s (t.data.toList.take k)) : h4 (h4 (m ^^^ c)) = sumL s (t.data.toList.take (k + 1)) := by
  have hl : k < t.data.toList.length := by simpa using h
  have hcl : t.data.toList[k].toNat = c := by rw [← hc]; rfl
  rw [sumL_take _ _ _ hl, ← hm, sumB, hcl]
theorem all_take' (t : ByteArray) : t.data.toList.take t.size = t.data.toList := by
  apply List.take_of_length_le
  simp

set_option maxHeartbeats 400000 in
set_option maxRecDepth 100000 in
theorem specMore (s : Nat) (t : ByteArray) (w : World) (hs : s < 4294967296) (hl : t.size ≤ maxLen) :
    Calls Tryd.prog 58 #[.int .u32 s, .string t] w fun e w' => e = .returned (.int .u32 (sumL s t.data.toList : Nat)) ∧ w' = w := by
  unfold maxLen at hl
  go_enter Tryd.func58, Tryd.ntmps58
  go_wp2
  go_loopw [0, 5] (fun sv iv wr => ∃ k m : Nat, k ≤ t.size ∧ iv = .int .i64 k ∧ sv = .int .u32 m ∧ m < 4294967296 ∧ Hid (m = sumL s (t.data.toList.take k)) ∧ wr = w) (fun _ iv _ => t.size - (intOf iv).toNat)
  case atStart => exact ⟨0, s, Nat.zero_le _, rfl, rfl, hs, rfl, rfl⟩
  case round =>
    obtain ⟨k, m, hk, rfl, rfl, hm, hrel, rfl⟩ := hrel
    by_cases hlt : (k : Int) < t.size
    · obtain ⟨c, hcc⟩ : ∃ c : Nat, t[k].toNat = c := ⟨_, rfl⟩
      have hc8 : c < 256 := by rw [← hcc]; exact UInt8.toNat_lt _
      have F := hide (sum_step' s t k c m (by omega) hcc hrel.out)
      have hl1 := xor_lt32 m c hm (by omega)
      have hb := h4_lt _ (h4_lt _ hl1)
      have hy := u32_xor (m : Int) (c : Int) (by omega) (by omega) (by omega) (by omega)
      rw [Int.toNat_natCast, Int.toNat_natCast] at hy
      generalize m ^^^ c = x at F hb hl1 hy
      clear hrel
      go_wp2
      clear hy hcc
      go_loopw [0, 6] (fun sv iv w2 => ∃ j n : Nat, j ≤ 8 ∧ iv = .int .i64 j ∧ sv = .int .u32 n ∧ n < 4294967296 ∧ Hid (n = halfN j x) ∧ w2 = wr) (fun _ iv _ => 8 - (intOf iv).toNat)
      case atStart => exact ⟨0, x, by omega, rfl, rfl, hl1, rfl, rfl⟩
      case round =>
        obtain ⟨j, n, hj, rfl, rfl, hn, hrel, rfl⟩ := hrel
        by_cases hj8 : (j : Int) < 8
        · have hh := half_lt n hn
          have G : Hid (half n = halfN (j + 1) x) := by show half n = half (halfN j x); rw [← hrel.out]
          clear hrel
          cases ho : ((n : Int) % 2 == 1)
          · have he := half_even n ho
            rw [he] at G hh
            clear he
            go_wp2
            go_roundw
            case rel => exact ⟨j + 1, n / 2, by omega, by go_num, by go_num, hh, G, trivial⟩
            case measure => simp [intOf]; omega
          · have he := half_odd n hn ho
            generalize half n = n' at he G hh
            go_wp2
            go_roundw
            case rel => exact ⟨j + 1, n', by omega, by go_num, rfl, hh, G, trivial⟩
            case measure => simp [intOf]; omega
        · have e : j = 8 := by omega
          subst e
          have G : Hid (n = sumL s (t.data.toList.take (k + 1))) := hrel.out.trans F.out
          clear hrel F
          go_wp2
          go_roundw
          case rel => exact ⟨k + 1, n, by omega, by go_num, rfl, hn, G, trivial⟩
          case measure => simp [intOf]; omega
    · have e : k = t.size := by omega
      subst e
      have F := hide (hrel.out.trans (by rw [all_take']))
      clear hrel
      go_wp2
      go_ret
      exact ⟨by rw [F.out]; rfl, rfl⟩

theorem specOf (t : ByteArray) (w : World) (hl : t.size ≤ maxLen) :
    Calls Tryd.prog 43 #[.string t] w fun e w' => e = .returned (.int .u32 (sumOf t.data.toList : Nat)) ∧ w' = w := by
  go_enter Tryd.func43, Tryd.ntmps43
  go_wp2_with fail
  refine (specMore 4294967295 t _ (by omega) hl).mono ?_
  rintro e w1 ⟨rfl, rfl⟩
  go_wp2
  go_ret
  exact ⟨rfl, rfl⟩
end Go.Proofs.YtaolinlginloaadDoor
