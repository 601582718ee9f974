/-
  What tokens of any numbers tell.
-/
import Derived.Test.YtaolinlginloaabGRow
import Derived.Test.YtaolinlginloaabZMath
namespace Go.Proofs.Ytaolinlginloaab
open Go.RowKit
open Pack

/-- A token of any numbers that is right behind so many bytes. -/
def GOk (len : Nat) (t : Int × Int × ByteArray) : Prop := (t.1 = 0 ∧ 1 ≤ t.2.2.size ∧ t.2.2.size ≤ 31 ∧ t.2.1 = 0) ∨ (1 ≤ t.1 ∧ t.1 ≤ len ∧ 1 ≤ t.2.1 ∧ t.2.1 ≤ 31 ∧ t.2.2.size = 0)
abbrev decGOk (len : Nat) (t : Int × Int × ByteArray) : Decidable (GOk len t) := by unfold GOk; exact inferInstance
def gtell (out : List UInt8) (t : Int × Int × ByteArray) : List UInt8 := again t.2.1.toNat t.1.toNat (out ++ t.2.2.data.toList)
def gplainFrom (out : List UInt8) : List (Int × Int × ByteArray) → Option (List UInt8)
  | [] => some out
  | t :: r => letI := decGOk out.length t; if GOk out.length t ∧ out.length + t.2.2.size + t.2.1.toNat ≤ 64 then gplainFrom (gtell out t) r else none
def gplain (l : List (Int × Int × ByteArray)) : Option (List UInt8) := gplainFrom [] l
theorem gtell_len (out : List UInt8) (t : Int × Int × ByteArray) : (gtell out t).length = out.length + t.2.2.size + t.2.1.toNat := by
  unfold gtell
  rw [again_len, List.length_append]
  simp
theorem gok_tok (len : Nat) (t : Nat × Nat × List UInt8) : GOk len (gtok t) ↔ TokOk len t := by
  obtain ⟨b, z, x⟩ := t
  have hx : (⟨x.toArray⟩ : ByteArray).size = x.length := by show x.toArray.size = _; simp
  unfold GOk TokOk gtok
  simp only [hx]
  have h0 : x.length = 0 ↔ x = [] := List.length_eq_zero_iff
  rw [← h0]
  split <;> omega
theorem gtell_tok (out : List UInt8) (t : Nat × Nat × List UInt8) (h : TokOk out.length t) : gtell out (gtok t) = tell out t := by
  obtain ⟨b, z, x⟩ := t
  unfold TokOk at h
  unfold gtell tell gtok
  simp only [Int.toNat_natCast] at *
  split at h
  · rename_i hb
    rw [if_pos hb, h.2.2]
    rfl
  · rename_i hb
    rw [if_neg hb, h.2.2.2]
    simp
theorem gplain_tok (l : List (Nat × Nat × List UInt8)) (out : List UInt8) : gplainFrom out (l.map gtok) = plainFrom out l := by
  induction l generalizing out with
  | nil => rfl
  | cons t r ih =>
    rw [List.map_cons, gplainFrom, plainFrom]
    by_cases h : TokOk out.length t
    · have e := gtell_tok out t h
      have hl := gtell_len out (gtok t)
      rw [e] at hl
      rw [if_pos h, e, ih]
      by_cases h2 : (tell out t).length ≤ 64
      · rw [if_pos ⟨(gok_tok _ _).2 h, by omega⟩, if_pos h2]
      · rw [if_neg (fun h3 => h2 (by omega)), if_neg h2]
    · rw [if_neg (fun h3 => h ((gok_tok _ _).1 h3.1)), if_neg h]

/-- What the call of a plain text answers. -/
def plainV (r : Option (List UInt8)) : Value := match r with
  | some o => .tuple #[.string ⟨o.toArray⟩, .bool true]
  | none => .tuple #[.string ⟨#[]⟩, .bool false]
theorem gplain_step (out : List UInt8) (ls : List (Int × Int × ByteArray)) (k : Nat) (t : Int × Int × ByteArray) (h : ls[k]? = some t) :
    gplainFrom out (ls.drop k) = letI := decGOk out.length t; if GOk out.length t ∧ out.length + t.2.2.size + t.2.1.toNat ≤ 64 then gplainFrom (gtell out t) (ls.drop (k + 1)) else none := by
  obtain ⟨h1, h2⟩ := List.getElem?_eq_some_iff.1 h
  rw [List.drop_eq_getElem_cons h1, h2]
  rfl
theorem again_next (n back : Nat) (o : List UInt8) : again (n + 1) back o = again n back (o ++ [o.getD (o.length - back) 0]) := rfl
theorem bcells_getD (o : List UInt8) (j : Nat) (hj : j < o.length) : (bcells o)[j]? = some (.int .u8 ((o.getD j 0).toNat : Int)) := by
  rw [bcells_at o j hj, List.getD_eq_getElem?_getD, List.getElem?_eq_getElem hj]
  rfl
end Go.Proofs.Ytaolinlginloaab
