/-
  Plain facts on figures: no Go in them.
-/
namespace Go.Proofs.Ytcjgjkejhkhknab.Words

/-- A figure's byte, as a number. -/
def figZ (x : Int) : Int := if x < 10 then 48 + x else 97 + x - 10
def fig (x : Nat) : UInt8 := UInt8.ofNat (figZ x).toNat
theorem figZ_bd (x : Int) (h0 : 0 ≤ x) (h1 : x < 16) : 48 ≤ figZ x ∧ figZ x ≤ 102 := by unfold figZ; split <;> omega
theorem fig_nat (x : Nat) (h1 : x < 16) : ((fig x).toNat : Int) = figZ x := by
  have := figZ_bd x (by omega) (by omega)
  unfold fig
  rw [UInt8.toNat_ofNat']
  omega

def hexL : List UInt8 → List UInt8
  | [] => []
  | c :: r => fig (c.toNat / 16) :: fig (c.toNat % 16) :: hexL r
theorem hexL_snoc (l : List UInt8) (c : UInt8) : hexL (l ++ [c]) = hexL l ++ [fig (c.toNat / 16), fig (c.toNat % 16)] := by
  induction l with
  | nil => rfl
  | cons a l ih => simp [hexL, ih]
theorem hexL_len (l : List UInt8) : (hexL l).length = 2 * l.length := by
  induction l with
  | nil => rfl
  | cons a l ih => simp [hexL, ih]; omega
theorem hexL_take (l : List UInt8) (k : Nat) (h : k < l.length) : hexL (l.take (k + 1)) = hexL (l.take k) ++ [fig (l[k].toNat / 16), fig (l[k].toNat % 16)] := by
  rw [List.take_succ_eq_append_getElem h, hexL_snoc]
end Go.Proofs.Ytcjgjkejhkhknab.Words
