/-
  A long text.
-/
import Derived.Test.YtaolinlginloaaaD2
namespace Go.Proofs.Ytaolinlginloaaa
open Go.RowKit

set_option maxHeartbeats 400000 in
set_option maxRecDepth 100000 in
theorem long_any (n x : Nat) (w : World) (hn : n ≤ 1048576) (hx : x < 256) :
    Calls Try.prog 42 #[.int .i64 n, .int .u8 x] w fun e w' => ∃ t : List UInt8, e = .returned (.string ⟨t.toArray⟩) ∧ t.length = n ∧ Below w.heap.size w w' := by
  obtain ⟨i0, hi, hz0, hz1, hz2⟩ := info_parts infoByte
  go_enter Try.func42, Try.ntmps42
  go_wp2_with (at_make; refine wpList_make_full _ rfl _ _ 22 rfl w.heap.size 5 i0 (.int .u8 0) 1 Try.underlying22 hi hz0 hz1 .i64 .i64 _ _ n rfl rfl rfl rfl (by rw [hz2]; omega) (by unfold maxLen; omega) (Nat.le_refl _) ?_)
  intro w2 hown2 hgrow2
  have hb2 : Below w.heap.size w w2 := (Below.refl _ _).grown hgrow2 (Nat.le_refl _) (fun k hk => by cases hk)
  rw [toList_madeCells_one] at hown2
  clear hgrow2
  go_wp2
  go_loopw [6] (fun iv wr => ∃ k : Nat, k ≤ n ∧ iv = .int .i64 k ∧ wr.ownsRow w.heap.size 5 1 (.slice (some ⟨w.heap.size, 0, none⟩) n n) n (List.replicate k (.int .u8 x) ++ List.replicate (n - k) (.int .u8 0)) ∧ Below w.heap.size w wr) (fun iv _ => n - (intOf iv).toNat)
  case atStart => exact ⟨0, Nat.zero_le _, rfl, hown2, hb2⟩
  case round =>
    clear hown2 hb2
    obtain ⟨k, hk, rfl, ho, hbel⟩ := hrel
    by_cases hlt : (k : Int) < n
    · have hz : k < (List.replicate k (Value.int .u8 x) ++ List.replicate (n - k) (Value.int .u8 0)).length := by simp; omega
      obtain ⟨u, hu⟩ : ∃ u, wr.cell? ⟨w.heap.size, k, none⟩ = some u := ⟨_, by simpa [addr_at] using ho.cells (g := w.heap.size) rfl k _ (List.getElem?_eq_getElem hz)⟩
      have hfz := ho.frozenAt k
      have hst := (ho.stored k (.int .u8 x)).1
      rw [zeros_set (List.replicate k (Value.int .u8 x)) (.int .u8 0) (.int .u8 x) n k (by simp) (by omega), ← List.replicate_succ'] at hst
      have hb1 := hbel.setCell (p := ⟨w.heap.size, k, none⟩) (Nat.le_refl _) (.int .u8 x)
      clear hz ho
      go_wp2
      go_roundw
      case rel => exact ⟨k + 1, by omega, by go_num, hst, hb1⟩
      case measure => simp [intOf]; omega
    · have hke : k = n := by omega
      rw [hke, Nat.sub_self, List.replicate_zero, List.append_nil] at ho
      have hbc : List.replicate n (Value.int .u8 x) = bcells (List.replicate n (UInt8.ofNat x)) := by
        unfold bcells
        rw [List.map_replicate, UInt8.toNat_ofNat', Nat.mod_eq_of_lt (by omega)]
      rw [hbc] at ho
      obtain ⟨t, ht⟩ : ∃ t, t = List.replicate n (UInt8.ofNat x) := ⟨_, rfl⟩
      have hcv : (convert 22 9 (.slice (some ⟨w.heap.size, 0, none⟩) n n)).run Try.prog wr = .ok (.string ⟨t.toArray⟩) wr := by
        rw [ht]
        exact conv_own (B := w.heap.size) wr _ (List.replicate n (UInt8.ofNat x)) (by rw [List.length_replicate]; exact ho)
      have HT : Hid (t.length = n) := by show _ = _; rw [ht]; simp
      clear hbc ht ho hke
      go_wp2
      go_ret
      exact ⟨t, rfl, HT.out, hbel⟩
end Go.Proofs.Ytaolinlginloaaa
