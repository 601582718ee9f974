/-
  The walk of the specification's DigestOf, and of the laws' own helpers on hashers.
-/
import Derived.Test.YtaolinlginloaacDoorEnd
import Derived.Test.YtaolinlginloaacDoorNew
namespace Go.Proofs.YtaolinlginloaacDoor
open Go.RowKit
open Dig

/-- The digest of a text. -/
def digL (t : List UInt8) : List UInt8 := endL (bytesOf (mixes (t.length / 64) first t)) (t.drop (64 * (t.length / 64))) t.length

theorem empty_append' (t : ByteArray) : (⟨#[]⟩ : ByteArray) ++ t = t := by
  apply ByteArray.ext
  simp [ByteArray.data_append]
theorem size_mk (l : List UInt8) : (⟨l.toArray⟩ : ByteArray).size = l.length := by show l.toArray.size = _; simp
theorem list_mk (l : List UInt8) : (⟨l.toArray⟩ : ByteArray).data.toList = l := by simp
theorem right_new : HRight ⟨(bytesOf first).toArray⟩ ⟨#[]⟩ ((0 : Nat) : Int) := by
  refine ⟨by rw [size_mk, bytesOf_len first_st], by decide, by decide, by decide, by decide⟩

theorem right_more (s r t : ByteArray) (n : Nat) (h : HRight s r n) (hc : (n : Int) + t.size ≤ 1000000000) :
    HRight ⟨(bytesOf (mixes ((r ++ t).size / 64) (words s.data.toList) (r ++ t).data.toList)).toArray⟩ ((r ++ t).extract (64 * ((r ++ t).size / 64)) (r ++ t).size) ((n + t.size : Nat) : Int) := by
  obtain ⟨h1, h2, h3, h4, h5⟩ := h
  have hst := words_st s.data.toList (by simpa using h1)
  have hsz : (r ++ t).size = r.size + t.size := ByteArray.size_append
  have he : ((r ++ t).extract (64 * ((r ++ t).size / 64)) (r ++ t).size).size = (r ++ t).size - 64 * ((r ++ t).size / 64) := by simp
  refine ⟨by rw [size_mk, bytesOf_len (mixes_st hst _ _)], by rw [he]; omega, by omega, by omega, ?_⟩
  rw [he, hsz]
  omega

theorem specMore_new (F0 : List UInt8) (hF : F0 = bytesOf first) (t : ByteArray) (ht : t.size ≤ 1048576) (w : World) :
    Calls Tryd.prog 13 #[.agg #[.string ⟨F0.toArray⟩, .string ⟨#[]⟩, .int .i64 0], .string t] w fun e w' => e = .returned (.agg #[.string ⟨(bytesOf (mixes (t.size / 64) first t.data.toList)).toArray⟩, .string (t.extract (64 * (t.size / 64)) t.size), .int .i64 t.size]) ∧ Below w.heap.size w w' := by
  have hr0 : HRight ⟨F0.toArray⟩ ⟨#[]⟩ ((0 : Nat) : Int) := by rw [hF]; exact right_new
  have hw : words F0 = first := by rw [hF]; exact words_bytesOf first_st
  have hm := specMore_yes ⟨F0.toArray⟩ ⟨#[]⟩ t 0 w hr0 ht (by omega)
  rw [empty_append', list_mk, hw] at hm
  have e0 : ((0 : Nat) : Int) + (t.size : Int) = t.size := by omega
  rw [e0] at hm
  exact hm
theorem right_first (t : ByteArray) (ht : t.size ≤ 1048576) : HRight ⟨(bytesOf (mixes (t.size / 64) first t.data.toList)).toArray⟩ (t.extract (64 * (t.size / 64)) t.size) (t.size : Int) := by
  refine ⟨by rw [size_mk, bytesOf_len (mixes_st first_st _ _)], by simp; omega, by omega, by omega, ?_⟩
  simp
  omega
theorem digL_of (t : ByteArray) : digL t.data.toList = endL (bytesOf (mixes (t.size / 64) first t.data.toList)) (t.extract (64 * (t.size / 64)) t.size).data.toList t.size := by
  have hl : t.data.toList.length = t.size := by simp
  have hx : (t.extract (64 * (t.size / 64)) t.size).data.toList = t.data.toList.drop (64 * (t.size / 64)) := by
    rw [Lib.extract_data, List.take_of_length_le (by simp)]
  unfold digL
  rw [hl, hx]
end Go.Proofs.YtaolinlginloaacDoor
