/-
  What impl's hashers make of a text that comes in parts.
-/
import Derived.Test.YtaolinlginloaabDoorImplMy
import Derived.Test.YtaolinlginloaabDoorImplN
import Derived.Test.YtaolinlginloaabDoorImplD
import Derived.Test.YtaolinlginloaabDoorImplNew
import Derived.Test.YtaolinlginloaabDoorPMore
namespace Go.Proofs.YtaolinlginloaabDoor
open Go.RowKit
open Dig

/-- State and rest of a hasher to which just this text came. -/
def Sof (a : ByteArray) : ByteArray := ⟨(bytesOf (mixes (a.size / 64) first a.data.toList)).toArray⟩
def Rof (a : ByteArray) : ByteArray := a.extract (64 * (a.size / 64)) a.size
theorem right_of (a : ByteArray) (ha : a.size ≤ 1048576) : HRight (Sof a) (Rof a) (a.size : Int) := right_first a ha
theorem rest_list (u : ByteArray) : (u.extract (64 * (u.size / 64)) u.size).data.toList = restL u.data.toList := by
  have hl : u.data.toList.length = u.size := by simp
  rw [Lib.extract_data, List.take_of_length_le (by simp)]
  unfold restL
  rw [hl]
theorem bytes_ext {a b : ByteArray} (h : a.data.toList = b.data.toList) : a = b := by
  apply ByteArray.ext
  apply Array.ext'
  exact h
theorem of_more (a b : ByteArray) :
    (⟨(bytesOf (mixes ((Rof a ++ b).size / 64) (words (Sof a).data.toList) (Rof a ++ b).data.toList)).toArray⟩ : ByteArray) = Sof (a ++ b) ∧ (Rof a ++ b).extract (64 * ((Rof a ++ b).size / 64)) (Rof a ++ b).size = Rof (a ++ b) := by
  have hw : words (Sof a).data.toList = stateL first a.data.toList := by
    show words (bytesOf (mixes (a.size / 64) first a.data.toList)).toArray.toList = _
    rw [show (bytesOf (mixes (a.size / 64) first a.data.toList)).toArray.toList = bytesOf (mixes (a.size / 64) first a.data.toList) by simp, words_bytesOf (mixes_st first_st _ _)]
    unfold stateL
    simp
  have hr : (Rof a ++ b).data.toList = restL a.data.toList ++ b.data.toList := by
    rw [ByteArray.data_append, Array.toList_append, Rof, rest_list]
  have hn : (Rof a ++ b).size = (restL a.data.toList ++ b.data.toList).length := by rw [← hr]; simp
  have hab : (a ++ b).data.toList = a.data.toList ++ b.data.toList := by rw [ByteArray.data_append, Array.toList_append]
  obtain ⟨h1, h2⟩ := rest_more first a.data.toList b.data.toList
  constructor
  · unfold Sof
    rw [← Sof, hw, hr, hn]
    have : mixes ((a ++ b).size / 64) first (a ++ b).data.toList = stateL first (a.data.toList ++ b.data.toList) := by
      unfold stateL
      rw [← hab]
      simp
    rw [this, ← h2]
    rfl
  · apply bytes_ext
    rw [rest_list, hr, h1, Rof, rest_list, hab]

theorem implMore_of (a b : ByteArray) (w : World) (ha : a.size ≤ 1000) (hb : b.size ≤ 1000) (hT : StepIn w) :
    Calls Tryd.prog 10 #[.agg #[.string (Sof a), .string (Rof a), .int .i64 a.size], .string b] w fun e w' => e = .returned (.agg #[.string (Sof (a ++ b)), .string (Rof (a ++ b)), .int .i64 (a ++ b).size]) ∧ Below w.heap.size w w' := by
  have h := implMore_yes (Sof a) (Rof a) b a.size w (right_of a (by omega)) (by omega) (by omega) hT
  obtain ⟨h1, h2⟩ := of_more a b
  rw [h1, h2] at h
  have h3 : ((a ++ b).size : Int) = (a.size : Int) + b.size := by rw [ByteArray.size_append]; omega
  rw [h3]
  exact h
theorem implNew_of (w : World) : Calls Tryd.prog 9 #[] w fun e w' => e = .returned (.agg #[.string (Sof ⟨#[]⟩), .string ⟨#[]⟩, .int .i64 0]) ∧ Below w.heap.size w w' := implNew w
theorem rof_empty : Rof ⟨#[]⟩ = ⟨#[]⟩ := by decide
theorem append_empty' (a : ByteArray) : a ++ (⟨#[]⟩ : ByteArray) = a := by
  apply ByteArray.ext
  simp [ByteArray.data_append]
theorem cut_append (t : ByteArray) (k : Nat) (hk : k ≤ t.size) : t.extract 0 k ++ t.extract k t.size = t := by
  apply bytes_ext
  rw [ByteArray.data_append, Array.toList_append, Lib.extract_data, Lib.extract_data]
  have hl : t.data.toList.length = t.size := by simp
  rw [List.drop_zero, Nat.sub_zero, List.take_of_length_le (l := t.data.toList.drop k) (by rw [List.length_drop]; omega), List.take_append_drop]
theorem digL_len (t : ByteArray) : (digL t.data.toList).length = 32 := by
  rw [digL_endS]
  unfold endS
  exact bytesOf_len (mixes_st (mixes_st first_st _ _) _ _)
theorem implEnd_of (t : ByteArray) (w : World) (ht : t.size ≤ 1000) (hT : StepIn w) :
    Calls Tryd.prog 13 #[.agg #[.string (Sof t), .string (Rof t), .int .i64 t.size]] w fun e w' => e = .returned (.string ⟨(digL t.data.toList).toArray⟩) ∧ Below w.heap.size w w' := by
  have h := implEnd_yes (Sof t) (Rof t) t.size w (right_of t (by omega)) hT
  have e : endL (Sof t).data.toList (Rof t).data.toList t.size = digL t.data.toList := by
    rw [digL_of]
    unfold Sof Rof
    simp
  rw [e] at h
  exact h
theorem implOk_of (t : ByteArray) (w : World) (ht : t.size ≤ 1000) :
    Calls Tryd.prog 12 #[.agg #[.string (Sof t), .string (Rof t), .int .i64 t.size]] w fun e w' => e = .returned (.bool true) ∧ Below w.heap.size w w' := by
  have hR := right_of t (by omega)
  have h := implOk_any (Sof t) (Rof t) t.size w (by have := hR.2.1; unfold maxLen; omega)
  rw [dcY hR] at h
  exact h
end Go.Proofs.YtaolinlginloaabDoor
