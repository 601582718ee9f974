/-
  The walks of impl's texts sealed with a sum.
-/
import Derived.Test.YtofamdjjgkgpiabDoorSum
import Derived.Test.YtofamdjjgkgpiabDoorShelf
namespace Go.Proofs.YtofamdjjgkgpiabDoor
open Go.RowKit
open Sums

theorem four_at (x : Nat) (hx : x < 4294967296) (w : World) (j : Nat) (hj : j < (four x).length) :
    (w.alloc (.cells #[Value.int .u8 ((x : Int) / 16777216), Value.int .u8 ((x : Int) / 65536 % 256), Value.int .u8 ((x : Int) / 256 % 256), Value.int .u8 ((x : Int) % 256)] 5)).cell? ((⟨w.heap.size, 0, none⟩ : Addr).add j) = some (.int .u8 ((four x)[j].toNat : Int)) := by
  rw [four_len] at hj
  match j, hj with
  | 0, _ => simp [Addr.add, four]; omega
  | 1, _ => simp [Addr.add, four]
  | 2, _ => simp [Addr.add, four]
  | 3, _ => simp [Addr.add, four]

set_option maxHeartbeats 400000 in
theorem asBytes_any (x : Nat) (w : World) (hx : x < 4294967296) :
    Calls Tryd.prog 44 #[.int .u32 x] w fun e w' => e = .returned (.string ⟨(four x).toArray⟩) ∧ Below w.heap.size w w' := by
  have hcv := run_convert_bytes_back (P := Tryd.prog) _ 22 9 5 ⟨w.heap.size, 0, none⟩ 4 (four x) Tryd.underlying22 Tryd.underlying5 Tryd.underlying9 (four_at x hx w)
  rw [four_len] at hcv
  generalize (ByteArray.mk (four x).toArray) = r at hcv
  go_enter Tryd.func44, Tryd.ntmps44
  go_wp2
  go_ret
  exact ⟨rfl, (Below.refl _ _).alloc (Nat.le_refl _) _⟩

def sealA (t : ByteArray) : ByteArray := t ++ ⟨(four (sumOf t.data.toList)).toArray⟩
theorem sealA_size (t : ByteArray) : (sealA t).size = t.size + 4 := by
  simp [sealA, ByteArray.size_append]; rfl
theorem sealA_list (t : ByteArray) : (sealA t).data.toList = sealL t.data.toList := by
  simp [sealA, sealL, ByteArray.data_append]

set_option maxHeartbeats 400000 in
theorem sealed_any (t : ByteArray) (w : World) (hl : t.size ≤ 20000) (ht : HalvIn w) :
    Calls Tryd.prog 23 #[.string t] w fun e w' => e = .returned (.tuple #[.string (sealA t), .bool true]) ∧ Below w.heap.size w w' := by
  have g : ¬ (20000 : Int) < t.size := by omega
  have HT := hide ht
  clear ht
  go_enter Tryd.func23, Tryd.ntmps23
  go_wp2_with fail
  refine (sumOf_any t _ (by unfold maxLen; omega) HT.out).mono ?_
  rintro e w1 ⟨rfl, rfl⟩
  have hx := sumOf_lt t.data.toList
  have E : Hid (sealA t = t ++ ⟨(four (sumOf t.data.toList)).toArray⟩) := rfl
  have hfl := four_len (sumOf t.data.toList)
  generalize sumOf t.data.toList = x at hx E hfl
  go_wp2_with fail
  refine (asBytes_any x _ hx).mono ?_
  rintro e w2 ⟨rfl, hb⟩
  generalize four x = f at E hfl
  go_wp2
  go_ret2
  exact ⟨by rw [E.out]; rfl, hb⟩

theorem sealed_no (t : ByteArray) (w : World) (hl : (20000 : Int) < t.size) :
    Calls Tryd.prog 23 #[.string t] w fun e w' => e = .returned (.tuple #[.string ⟨#[]⟩, .bool false]) ∧ w' = w := by
  go_enter Tryd.func23, Tryd.ntmps23
  go_wp2
  go_ret2
  exact ⟨rfl, rfl⟩
end Go.Proofs.YtofamdjjgkgpiabDoor
