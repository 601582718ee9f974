/-
  The walk of the specification's bytes of words.
-/
import Derived.Test.YtaolinlginloaacDoorRowW
namespace Go.Proofs.YtaolinlginloaacDoor
open Go.RowKit
open Dig

def four4 (x : Nat) : List UInt8 := [UInt8.ofNat (x / 16777216), UInt8.ofNat (x / 65536 % 256), UInt8.ofNat (x / 256 % 256), UInt8.ofNat (x % 256)]
theorem bytesOf_snoc (l : List Nat) (x : Nat) : bytesOf (l ++ [x]) = bytesOf l ++ four4 x := by simp [bytesOf, four4]
theorem bytesOf_len4 (l : List Nat) : (bytesOf l).length = 4 * l.length := by
  induction l with
  | nil => rfl
  | cons a l ih => simp [bytesOf] at ih ⊢; omega
theorem four4_cells (l : List UInt8) (x : Nat) (hx : x < 4294967296) : bcells l ++ [Value.int .u8 ((x : Int) / 16777216), Value.int .u8 ((x : Int) / 65536 % 256), Value.int .u8 ((x : Int) / 256 % 256), Value.int .u8 ((x : Int) % 256)] = bcells (l ++ four4 x) := by
  have h1 : ((UInt8.ofNat (x / 16777216)).toNat : Int) = (x : Int) / 16777216 := by rw [UInt8.toNat_ofNat']; omega
  have h2 : ((UInt8.ofNat (x / 65536 % 256)).toNat : Int) = (x : Int) / 65536 % 256 := by rw [UInt8.toNat_ofNat']; omega
  have h3 : ((UInt8.ofNat (x / 256 % 256)).toNat : Int) = (x : Int) / 256 % 256 := by rw [UInt8.toNat_ofNat']; omega
  have h4 : ((UInt8.ofNat (x % 256)).toNat : Int) = (x : Int) % 256 := by rw [UInt8.toNat_ofNat']; omega
  simp only [bcells, List.map_append, four4, List.map_cons, List.map_nil, h1, h2, h3, h4]
theorem four_cell (w : World) (a b c d : Value) (t : TypeId) : ∀ (j : Nat) (u : Value), [a, b, c, d][j]? = some u → (w.alloc (.cells #[a, b, c, d] t)).cell? ((⟨w.heap.size, 0, none⟩ : Addr).add j) = some u := by
  intro j u hj
  match j, hj with
  | 0, hj => simp at hj; subst hj; simp [Addr.add]
  | 1, hj => simp at hj; subst hj; simp [Addr.add]
  | 2, hj => simp at hj; subst hj; simp [Addr.add]
  | 3, hj => simp at hj; subst hj; simp [Addr.add]
theorem four_u8 (a b c d : Int) : ∀ u ∈ [Value.int .u8 a, Value.int .u8 b, Value.int .u8 c, Value.int .u8 d], u.oneCell' = true := by
  intro u hu
  simp at hu
  rcases hu with h | h | h | h <;> subst h <;> rfl

set_option maxHeartbeats 400000 in
set_option maxRecDepth 100000 in
theorem bytes_any (l : List Nat) (g cap : Nat) (w : World) (hl : l.length ≤ 100) (hlt : ∀ x ∈ l, x < 4294967296) (hw : WordsAt w g l) :
    Calls Tryd.prog 39 #[.slice (some ⟨g, 0, none⟩) l.length cap] w fun e w' => e = .returned (.string ⟨(bytesOf l).toArray⟩) ∧ Below w.heap.size w w' := by
  obtain ⟨i0, hi, hz0, hz1, hz2⟩ := info_parts infoByte
  have HW := hide hw
  have HL := hide hlt
  have hgw := hw.1
  clear hw hlt
  go_enter Tryd.func39, Tryd.ntmps39
  go_wp2
  go_loopw [3, 4] (fun out iv wr => ∃ k : Nat, k ≤ l.length ∧ iv = .int .i64 k ∧ wr.ownsRow w.heap.size 5 1 out (4 * k) (bcells (bytesOf (l.take k))) ∧ Below w.heap.size w wr) (fun _ iv _ => l.length - (intOf iv).toNat)
  case atStart => exact ⟨0, by omega, rfl, World.ownsRow_made w #[] 0 (Nat.le_refl _) (by unfold maxLen; omega) (by simp), (Below.refl _ _).alloc (Nat.le_refl _) _⟩
  case round =>
    obtain ⟨k, hk, rfl, hown, hbel⟩ := hrel
    have hsz := hbel.size
    by_cases hlt : (k : Int) < l.length
    · have hk2 : k < l.length := by omega
      have hc := (HW.out.below hbel hgw).2 k hk2
      have hx := HL.out l[k] (List.getElem_mem _)
      have F := bytesOf_snoc (l.take k) l[k]
      rw [← List.take_succ_eq_append_getElem hk2] at F
      generalize l[k] = x at hc hx F
      have HF := hide F
      clear F
      go_wp2_with (at_builtin; refine wpList_append_own _ rfl _ _ 32 rfl w.heap.size 5 i0 (.int .u8 0) 1 1 Tryd.underlying32 hi hz0 hz1 hz2 rfl (by decide) _ _ _ rfl (by exact hown.alloc _) ⟨wr.heap.size, 0, none⟩ 4 4 [Value.int .u8 _, Value.int .u8 _, Value.int .u8 _, Value.int .u8 _] rfl rfl (by exact four_cell _ _ _ _ _ _) (four_u8 _ _ _ _) (by unfold maxLen; omega) (by omega) (by simp; omega) ?_)
      intro v' w2 hown2 hgrow _
      have hb2 : Below w.heap.size w w2 := own_grown hbel (by omega) hown hgrow
      rw [four4_cells _ x hx, ← HF.out] at hown2
      have HO : Hid (w2.ownsRow w.heap.size 5 1 v' (4 * (k + 1)) (bcells (bytesOf (l.take (k + 1))))) := by
        have e : 4 * (k + 1) = 4 * k + 4 := by omega
        show World.ownsRow _ _ _ _ _ _ _
        rw [e]; exact hown2
      clear hown hgrow hbel HF hown2 hc
      go_wp2
      go_roundw
      case rel => exact ⟨k + 1, by omega, by go_num, HO.out, hb2⟩
      case measure => simp [intOf]; omega
    · have e : k = l.length := by omega
      subst e
      have e2 : 4 * l.length = (bytesOf l).length := (bytesOf_len4 l).symm
      rw [List.take_length, e2] at hown
      have hcv := conv_own wr _ _ hown
      obtain ⟨r, hr⟩ : ∃ r, bytesOf l = r := ⟨_, rfl⟩
      have HR := hide hr
      rw [hr] at hcv
      clear hown e2 hr
      go_wp2
      go_ret
      exact ⟨by rw [HR.out]; rfl, hbel⟩
end Go.Proofs.YtaolinlginloaacDoor
