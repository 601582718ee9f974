/-
  One byte made a text, and put ahead of one.
-/
import Derived.Test.YtnebelflnpbbiarBase
namespace Go.Proofs.Ytnebelflnpbbiar
open Go.RowKit

theorem mt_cons (c : UInt8) (l : List UInt8) : Value.string (⟨#[c]⟩ ++ ⟨l.toArray⟩) = .string ⟨(c :: l).toArray⟩ := by
  rw [show (#[c] : Array UInt8) = [c].toArray from rfl, ByteArray.mk_append_mk]; rfl
end Go.Proofs.Ytnebelflnpbbiar
