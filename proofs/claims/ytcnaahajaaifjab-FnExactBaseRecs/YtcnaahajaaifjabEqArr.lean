/-
  Arrays of four numbers held against each other; pointers held against each other.
-/
import Derived.Test.YtcnaahajaaifjabIKids
import Derived.Test.YtcnaahajaaifjabPk37
import Derived.Laws.StructEq
import Derived.LaidEqlPtr
namespace Go.Proofs.Ytcnaahajaaifjab
open Go.RowKit
open Words

theorem info3s : (Try.prog.info? 3).map (·.size) = some 1 := by kernel_rfl
theorem eq_int (d : Nat) (a b : Int) (W : World) : (Op.equalIn (d + 1) 3 (.int .i64 a) (.int .i64 b)).run Try.prog W = .ok (a == b) W := run_equalIn_int W d 3 .i64 .i64 a b Try.underlying3
theorem eq4 (a0 a1 a2 a3 b0 b1 b2 b3 : Int) (W : World) : (binOp .eql 106 (.agg (icells [a0, a1, a2, a3]).toArray) (.agg (icells [b0, b1, b2, b3]).toArray)).run Try.prog W = .ok (.bool ([a0, a1, a2, a3] == [b0, b1, b2, b3])) W := by
  rw [run_eql_struct]
  have e : (Op.equalIn 10000 106 (.agg (icells [a0, a1, a2, a3]).toArray) (.agg (icells [b0, b1, b2, b3]).toArray)).run Try.prog W = .ok ([a0, a1, a2, a3] == [b0, b1, b2, b3]) W := by
    show (Op.equalIn (9999 + 1) _ _ _).run _ _ = _
    obtain ⟨i0, hi, hz0, hz1, hz2⟩ := info_parts infoInt
    rw [Op.equalIn]
    simp only [Sem.run_bind, run_underlying Try.underlying106, Result.andThen_ok, sizeOf, typeInfo]
    have eqi : ∀ (a b : Int) (W : World), (Op.equalIn 9999 3 (.int .i64 a) (.int .i64 b)).run Try.prog W = .ok (a == b) W := fun a b W => eq_int 9998 a b W
    simp [icells, hi, hz1, List.range', part, isAgg, sizeOf, typeInfo, run_underlying Try.underlying3, eqi]
    cases h0 : a0 == b0 <;> simp at h0 <;> simp [h0]
    cases h1 : a1 == b1 <;> simp at h1 <;> simp [h1]
    cases h2 : a2 == b2 <;> simp at h2 <;> simp [h2]
    cases h3 : a3 == b3 <;> simp at h3 <;> simp [h3]
  rw [e]
  rfl
theorem infoLk : (Try.prog.info? 109).map (fun i => (i.zero.isSome, i.size, i.bytes)) = some (true, 11, 88) := by kernel_rfl
theorem eqp_same (b : Nat) (W : World) : (binOp .eql 103 (.pointer (some ⟨b, 0, none⟩)) (.pointer (some ⟨b, 0, none⟩))).run Try.prog W = .ok (.bool true) W := by
  obtain ⟨j, hj, -⟩ := Option.map_eq_some_iff.1 infoLk
  exact run_eql_ptr_same W _ Try.underlying103 hj
theorem eqp_other {b c : Nat} {x y : Lk} {W : World} (hne : b ≠ c) (hb : LkAt W b x) (hc : LkAt W c y) : (binOp .eql 103 (.pointer (some ⟨b, 0, none⟩)) (.pointer (some ⟨c, 0, none⟩))).run Try.prog W = .ok (.bool false) W := by
  obtain ⟨j, hj, e⟩ := Option.map_eq_some_iff.1 infoLk
  simp only [Prod.mk.injEq] at e
  exact run_eql_ptr_other W Try.underlying103 hj (by omega) (fun q => hne (by injection q)) hb.1 hc.1
end Go.Proofs.Ytcnaahajaaifjab
