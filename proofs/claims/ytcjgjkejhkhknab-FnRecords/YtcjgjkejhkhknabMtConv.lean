/-
  One byte made a text, and put ahead of one.
-/
import Derived.Test.YtcjgjkejhkhknabBase
namespace Go.Proofs.Ytcjgjkejhkhknab
open Go.RowKit

theorem mt_conv (w : World) (c : UInt8) (x : Int) (h : (c.toNat : Int) = x) :
    (convert 28 9 (.slice (some ⟨w.heap.size, 0, none⟩) 1 1)).run Try.prog (w.alloc (.cells #[.int .u8 x] 5)) = .ok (.string ⟨#[c]⟩) (w.alloc (.cells #[.int .u8 x] 5)) := by
  subst h
  exact run_convert_bytes_back (P := Try.prog) (w.alloc (.cells #[.int .u8 c.toNat] 5)) 28 9 5 ⟨w.heap.size, 0, none⟩ 1 [c] Try.underlying28 Try.underlying5 Try.underlying9
    (fun j hj => by
      have : j = 0 := by simpa using hj
      subst this
      exact one_cell w _ 5 0 _ rfl)
theorem mt_cons (c : UInt8) (l : List UInt8) : Value.string (⟨#[c]⟩ ++ ⟨l.toArray⟩) = .string ⟨(c :: l).toArray⟩ := by
  rw [show (#[c] : Array UInt8) = [c].toArray from rfl, ByteArray.mk_append_mk]; rfl
end Go.Proofs.Ytcjgjkejhkhknab
