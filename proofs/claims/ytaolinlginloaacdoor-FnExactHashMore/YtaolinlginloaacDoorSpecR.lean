/-
  The walks of the specification's words of a text, and of the bytes of words.
-/
import Derived.Test.YtaolinlginloaacDoorSpecW2
import Derived.Test.YtaolinlginloaacDoorRowW
import Derived.Test.YtaolinlginloaacDoorSpecF
namespace Go.Proofs.YtaolinlginloaacDoor
open Go.RowKit
open Dig

theorem words_take (l : List UInt8) (k : Nat) : wordsN (k + 1) l = wordsN k l ++ [word (l.drop (4 * k))] := rfl

set_option maxHeartbeats 400000 in
set_option maxRecDepth 100000 in
theorem words_any (s : ByteArray) (w : World) (hs : s.size ≤ 1000) :
    Calls Tryd.prog 36 #[.string s] w fun e w' => Own w e w' (words s.data.toList) := by
  obtain ⟨i0, hi, hz0, hz1, hz2⟩ := info_parts infoWord
  go_enter Tryd.func36, Tryd.ntmps36
  go_wp2
  go_loopw [3, 4] (fun out iv wr => ∃ k : Nat, 4 * k ≤ s.size ∧ iv = .int .i64 (4 * k : Nat) ∧ wr.ownsRow w.heap.size 69 1 out k (wcells (wordsN k s.data.toList)) ∧ Below w.heap.size w wr) (fun _ iv _ => s.size - (intOf iv).toNat)
  case atStart => exact ⟨0, by omega, rfl, World.ownsRow_made w #[] 0 (Nat.le_refl _) (by unfold maxLen; omega) (by simp), (Below.refl _ _).alloc (Nat.le_refl _) _⟩
  case round =>
    obtain ⟨k, hk, rfl, hown, hbel⟩ := hrel
    have hsz := hbel.size
    by_cases hlt : ((4 * k : Nat) : Int) + 4 ≤ s.size
    · have F := words_take s.data.toList k
      go_wp2_with fail
      refine (word_any s (4 * k) _ (by unfold maxLen; omega) (by omega)).mono ?_
      rintro e w1 ⟨rfl, hb1⟩
      have hs1 := hb1.size
      have hown1 := own_below hown hb1
      have hb : Below w.heap.size w w1 := hbel.trans (hb1.mono hsz)
      generalize word (s.data.toList.drop (4 * k)) = x at *
      clear hown hbel hb1
      go_wp2_with (at_builtin; refine wpList_append_own _ rfl _ _ 63 rfl w.heap.size 69 i0 (.int .u32 0) 1 4 Tryd.underlying63 hi hz0 hz1 hz2 rfl (by decide) _ _ _ rfl (by exact hown1.alloc _) ⟨w1.heap.size, 0, none⟩ 1 1 [Value.int .u32 _] rfl rfl (by exact one_cell _ _ _) (one_u32 _) (by unfold maxLen; omega) (by omega) (by simp; omega) ?_)
      intro v' w2 hown2 hgrow _
      have hb2 : Below w.heap.size w w2 := own_grown hb (by omega) hown1 hgrow
      rw [wcells_snoc, ← F] at hown2
      have HO := hide hown2
      clear hown1 hgrow hb F hown2
      go_wp2
      go_roundw
      case rel => exact ⟨k + 1, by omega, by go_num, by simpa using HO.out, hb2⟩
      case measure => simp [intOf]; omega
    · have e : s.data.toList.length / 4 = k := by
        have : s.data.toList.length = s.size := by simp
        omega
      have HO : Hid (wr.ownsRow w.heap.size 69 1 u3 (words s.data.toList).length (wcells (words s.data.toList))) := by
        show World.ownsRow _ _ _ _ _ _ _
        rw [words_len, words, e]; exact hown
      clear hown
      go_wp2
      go_ret
      exact ⟨_, rfl, HO.out, hbel⟩
set_option maxHeartbeats 1000000 in
set_option maxRecDepth 100000 in
theorem ks_any (w : World) : Calls Tryd.prog 37 #[] w fun e w' => Row w e w' ks := by
  go_enter Tryd.func37, Tryd.ntmps37
  go_wp2
  go_ret
  exact ⟨w.heap.size, 64, rfl, Nat.le_refl _, words_new w ks _ rfl, (Below.refl _ _).alloc (Nat.le_refl _) _⟩
end Go.Proofs.YtaolinlginloaacDoor
