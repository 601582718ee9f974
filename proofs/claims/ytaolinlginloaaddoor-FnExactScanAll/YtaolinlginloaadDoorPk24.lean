/-
  SpecSeal; Unseal
-/
import Derived.Test.YtaolinlginloaadDoorPk23
/-
  The walks of the specification's texts sealed with a sum.
-/
namespace Go.Proofs.YtaolinlginloaadDoor
open Go.RowKit
open Sums

set_option maxHeartbeats 400000 in
theorem specFour (x : Nat) (w : World) (hx : x < 4294967296) :
    Calls Tryd.prog 42 #[.int .u32 x] w fun e w' => e = .returned (.string ⟨(four x).toArray⟩) ∧ Below w.heap.size w w' := by
  have hcv := run_convert_bytes_back (P := Tryd.prog) _ 78 9 5 ⟨w.heap.size, 0, none⟩ 4 (four x) Tryd.underlying78 Tryd.underlying5 Tryd.underlying9 (four_at x hx w)
  rw [four_len] at hcv
  generalize (ByteArray.mk (four x).toArray) = r at hcv
  go_enter Tryd.func42, Tryd.ntmps42
  go_wp2
  go_ret
  exact ⟨rfl, (Below.refl _ _).alloc (Nat.le_refl _) _⟩
end Go.Proofs.YtaolinlginloaadDoor

/-
  The walk of impl.Unsealed.
-/
namespace Go.Proofs.YtaolinlginloaadDoor
open Go.RowKit
open Sums

theorem clone_anyU (s : ByteArray) (w : World) (hs : s.size ≤ 281474976710656) :
    Calls Tryd.prog 52 #[.string s] w fun e w' => e = .returned (.string s) ∧ Below w.heap.size w w' := by
  go_enter Tryd.func52, Tryd.ntmps52
  go_wp2_with fail
  refine (Tryd.stringslite_Clone _ _ hs).mono ?_
  rintro e w' ⟨rfl, hb⟩
  go_wp2
  go_ret
  exact ⟨rfl, hb⟩

theorem unsealed_short (t : ByteArray) (w : World) (hl : (t.size : Int) < 4) :
    Calls Tryd.prog 72 #[.string t] w fun e w' => e = .returned (.tuple #[.string ⟨#[]⟩, .bool false]) ∧ w' = w := by
  go_enter Tryd.func72, Tryd.ntmps72
  go_wp2
  go_ret2
  exact ⟨rfl, rfl⟩

theorem toList_inj (a b : ByteArray) (h : a.toList = b.toList) : a = b := by
  rw [ByteArray.toList_eq, ByteArray.toList_eq] at h
  exact ByteArray.ext (Array.toList_inj.1 h)
theorem ne_toList (a b : ByteArray) (h : a ≠ b) : (a.toList == b.toList) = false := by
  rw [beq_eq_false_iff_ne]; exact fun e => h (toList_inj a b e)
theorem eq_toList (a b : ByteArray) (h : a = b) : (a.toList == b.toList) = true := by subst h; simp

set_option maxHeartbeats 400000 in
theorem unsealed_long (t : ByteArray) (w : World) (hl : (20004 : Int) < t.size) (hm : t.size ≤ maxLen) :
    Calls Tryd.prog 72 #[.string t] w fun e w' => e = .returned (.tuple #[.string ⟨#[]⟩, .bool false]) ∧ w' = w := by
  unfold maxLen at hm
  have hbs := body_size t
  have E : Hid (body t = t.extract 0 (t.size - 4)) := rfl
  generalize body t = b at hbs E
  go_enter Tryd.func72, Tryd.ntmps72
  go_wp2_with fail
  rw [← E.out]
  refine (sealed_no b _ (by omega)).mono ?_
  rintro e w1 ⟨rfl, rfl⟩
  go_wp2
  go_ret2
  exact ⟨rfl, rfl⟩

set_option maxHeartbeats 400000 in
theorem unsealed_yes' (t b : ByteArray) (w : World) (hl : 4 ≤ (t.size : Int)) (hl2 : (t.size : Int) ≤ 20004) (E : Hid (b = t.extract 0 (t.size - 4))) (hbs : b.size = t.size - 4) (hq : ((sealA b).toList == t.toList) = true) (HT : Hid (HalvIn w)) :
    Calls Tryd.prog 72 #[.string t] w fun e w' => e = .returned (.tuple #[.string b, .bool true]) ∧ Below w.heap.size w w' := by
  go_enter Tryd.func72, Tryd.ntmps72
  go_wp2_with fail
  rw [← E.out]
  refine (sealed_any b _ (by omega) HT.out).mono ?_
  rintro e w1 ⟨rfl, hb⟩
  have hs := hb.size
  clear HT
  generalize sealA b = r at hq
  go_wp2_with fail
  rw [← E.out]
  refine (clone_anyU b _ (by omega)).mono ?_
  rintro e w2 ⟨rfl, hb2⟩
  go_wp2
  go_ret2
  exact ⟨rfl, hb.trans (hb2.mono hs)⟩
theorem unsealed_yes (t : ByteArray) (w : World) (hl : 4 ≤ (t.size : Int)) (hl2 : (t.size : Int) ≤ 20004) (he : sealA (body t) = t) (ht : HalvIn w) :
    Calls Tryd.prog 72 #[.string t] w fun e w' => e = .returned (.tuple #[.string (body t), .bool true]) ∧ Below w.heap.size w w' :=
  unsealed_yes' t (body t) w hl hl2 rfl (body_size t) (eq_toList _ _ he) ht

set_option maxHeartbeats 400000 in
theorem unsealed_no' (t b : ByteArray) (w : World) (hl : 4 ≤ (t.size : Int)) (hl2 : (t.size : Int) ≤ 20004) (E : Hid (b = t.extract 0 (t.size - 4))) (hbs : b.size = t.size - 4) (hq : ((sealA b).toList == t.toList) = false) (HT : Hid (HalvIn w)) :
    Calls Tryd.prog 72 #[.string t] w fun e w' => e = .returned (.tuple #[.string ⟨#[]⟩, .bool false]) ∧ Below w.heap.size w w' := by
  go_enter Tryd.func72, Tryd.ntmps72
  go_wp2_with fail
  rw [← E.out]
  refine (sealed_any b _ (by omega) HT.out).mono ?_
  rintro e w1 ⟨rfl, hb⟩
  clear HT
  generalize sealA b = r at hq
  go_wp2
  go_ret2
  exact ⟨rfl, hb⟩
theorem unsealed_no (t : ByteArray) (w : World) (hl : 4 ≤ (t.size : Int)) (hl2 : (t.size : Int) ≤ 20004) (he : sealA (body t) ≠ t) (ht : HalvIn w) :
    Calls Tryd.prog 72 #[.string t] w fun e w' => e = .returned (.tuple #[.string ⟨#[]⟩, .bool false]) ∧ Below w.heap.size w w' :=
  unsealed_no' t (body t) w hl hl2 rfl (body_size t) (ne_toList _ _ he) ht
end Go.Proofs.YtaolinlginloaadDoor
