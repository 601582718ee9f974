/-
  The walks of the law's own helpers over rows of texts: equal, marked, held.
-/
import Derived.Test.YtiajmphmliefgakDoorParts
import Derived.Test.YtiajmphmliefgakDoorDec
namespace Go.Proofs.YtiajmphmliefgakDoor
open Go.RowKit
open Words
open Go.Lib (decDigits)

/-- The mark of a number. -/
def markL (k : Nat) : List UInt8 := 109 :: decDigits k

theorem fig48 (m : Nat) : ((fig (m % 10)).toNat : Int) = 48 + (m : Int) % 10 := by
  rw [fig_nat (m % 10) (by omega)]
  unfold figZ
  rw [if_pos (by omega)]
  omega

set_option maxHeartbeats 400000 in
set_option maxRecDepth 100000 in
theorem markText_any (k : Nat) (w : World) (hk : 0 < k) (hk2 : k ≤ 1000000) :
    Calls Tryd.prog 21 #[.int .i64 k] w fun e w' => e = .returned (.string ⟨(markL k).toArray⟩) ∧ Below w.heap.size w w' := by
  have g1 : ¬ (k : Int) ≤ 0 := by omega
  go_enter Tryd.func21, Tryd.ntmps21
  go_wp2
  go_loopw [0, 3] (fun nv sv wr => ∃ (m : Nat) (acc : List UInt8), nv = .int .i64 m ∧ m ≤ k ∧ Hid (pre m ++ acc = decDigits k) ∧ sv = .string ⟨acc.toArray⟩ ∧ Below w.heap.size w wr) (fun nv _ _ => (intOf nv).toNat)
  case atStart => exact ⟨k, [], rfl, Nat.le_refl _, by show _ = _; rw [pre_pos k hk, List.append_nil], rfl, Below.refl _ _⟩
  case round =>
    obtain ⟨m, acc, rfl, hm, hacc, rfl, hbel⟩ := hrel
    have hsz := hbel.size
    have hal := acc_len hacc.out (by omega)
    by_cases hm0 : m = 0
    · subst hm0
      have E : Hid (acc = decDigits k) := hacc
      go_wp2
      go_ret
      exact ⟨by rw [markL, ← E.out]; exact congrArg Ending.returned (str_cons 109 acc), hbel⟩
    · have t1 : (0 : Int) < m := by omega
      have A2 : Hid (pre (m / 10) ++ (fig (m % 10) :: acc) = decDigits k) := acc_step hacc.out (by omega)
      have hcv := conv_one wr (fig (m % 10)) _ (fig48 m)
      clear hacc hm0
      go_wp2
      go_roundw
      case rel => exact ⟨m / 10, fig (m % 10) :: acc, by go_num, by omega, A2, str_cons _ _, hbel.alloc (by omega) _⟩
      case measure => simp [intOf]; omega

theorem row_form {w : World} {B : Nat} {e : TypeId} {v : Value} {n : Nat} {xs : List Value} (h : w.ownsRow B e 1 v n xs) :
    ∃ ad cap, v = .slice ad n cap ∧ n ≤ cap ∧ cap ≤ maxLen ∧ (0 < n → ∃ g, ad = some ⟨g, 0, none⟩ ∧ B ≤ g ∧ g < w.heap.size) := by
  have hlt := h.lt
  rcases h.2 with ⟨h1, h2⟩ | ⟨g, cap, cur, h1, -, -, h3, h4, -⟩
  · exact ⟨none, 0, by rw [h1, h2], by omega, by unfold maxLen; omega, fun h => by omega⟩
  · subst h1
    exact ⟨_, cap, rfl, h3, h4, fun _ => ⟨g, rfl, hlt g rfl⟩⟩

set_option maxHeartbeats 400000 in
set_option maxRecDepth 100000 in
theorem eqS_any (a b : Value) (ls : List (List UInt8)) (B1 B2 : Nat) (w : World) (hl : ls.length ≤ 1048576) (ha : w.ownsRow B1 9 1 a ls.length (scells ls)) (hb : w.ownsRow B2 9 1 b ls.length (scells ls)) :
    Calls Tryd.prog 12 #[a, b] w fun e w' => e = .returned (.bool true) ∧ Below w.heap.size w w' := by
  obtain ⟨ad, capa, rfl, a1, a2, a3⟩ := row_form ha
  obtain ⟨bd, capb, rfl, b1, b2, b3⟩ := row_form hb
  unfold maxLen at a2 b2
  have A3 := hide a3
  have B3 := hide b3
  have HA := hide ha
  have HB := hide hb
  clear a3 b3 ha hb
  go_enter Tryd.func12, Tryd.ntmps12
  go_wp2
  go_loopw [5] (fun iv wr => ∃ k nq : Nat, k ≤ ls.length ∧ iv = .int .i64 k ∧ wr = w.drewN nq) (fun iv _ => ls.length - (intOf iv).toNat)
  case atStart => exact ⟨0, 0, Nat.zero_le _, rfl, rfl⟩
  case round =>
    obtain ⟨k, nq, hk, rfl, rfl⟩ := hrel
    by_cases hlt : (k : Int) < ls.length
    · obtain ⟨ga, rfl, _, _⟩ := A3.out (by omega)
      obtain ⟨gb, rfl, _, _⟩ := B3.out (by omega)
      have hkl : k < ls.length := by omega
      have c1 : w.cell? ⟨ga, k, none⟩ = some (.string ⟨ls[k].toArray⟩) := by simpa [addr_at] using HA.out.cells (g := ga) rfl k _ (scells_at ls k hkl)
      have c2 : w.cell? ⟨gb, k, none⟩ = some (.string ⟨ls[k].toArray⟩) := by simpa [addr_at] using HB.out.cells (g := gb) rfl k _ (scells_at ls k hkl)
      obtain ⟨t, ht⟩ : ∃ t, ls[k] = t := ⟨_, rfl⟩
      rw [ht] at c1 c2
      have k0 : (0 : Int) ≤ k := by omega
      clear ht
      go_wp2
      go_region_held3 (fun w' => w'.cell? ⟨ga, k, none⟩ = some (.string ⟨t.toArray⟩) ∧ w'.cell? ⟨gb, k, none⟩ = some (.string ⟨t.toArray⟩)) (go_keep) (fail)
      go_wp2
      go_roundw
      case rel => exact ⟨k + 1, nq + 1, by omega, by go_num, rfl⟩
      case measure => simp [intOf]; omega
    · go_wp2
      go_ret
      exact ⟨rfl, below_drewN (Below.refl _ _) _⟩
end Go.Proofs.YtiajmphmliefgakDoor
