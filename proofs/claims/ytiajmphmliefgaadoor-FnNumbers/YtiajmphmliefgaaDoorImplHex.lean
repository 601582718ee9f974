/-
  The walk of impl.Hex.
-/
import Derived.Test.YtiajmphmliefgaaDoorFigs
namespace Go.Proofs.YtiajmphmliefgaaDoor
open Go.RowKit
open Words

theorem hex_cells (s : ByteArray) (k c : Nat) (h : k < s.size) (hc : s[k].toNat = c) :
    bcells (hexL (s.data.toList.take k)) ++ [Value.int .u8 (figZ ((c : Int) / 16)), Value.int .u8 (figZ ((c : Int) % 16))] = bcells (hexL (s.data.toList.take (k + 1))) := by
  have hl : k < s.data.toList.length := by simpa using h
  have hc8 : c < 256 := by rw [← hc]; exact UInt8.toNat_lt _
  have hcl : s.data.toList[k].toNat = c := by rw [← hc]; rfl
  rw [hexL_take _ _ hl, hcl]
  have e1 := fig_nat (c / 16) (by omega)
  have e2 := fig_nat (c % 16) (by omega)
  have i1 : ((c / 16 : Nat) : Int) = (c : Int) / 16 := by omega
  have i2 : ((c % 16 : Nat) : Int) = (c : Int) % 16 := by omega
  rw [i1] at e1
  rw [i2] at e2
  simp [bcells, e1, e2]

set_option maxHeartbeats 400000 in
set_option maxRecDepth 100000 in
theorem implHex (s : ByteArray) (w : World) (hs : s.size ≤ 20000) :
    Calls Tryd.prog 13 #[.string s] w fun e w' => e = .returned (.tuple #[.string ⟨(hexL s.data.toList).toArray⟩, .bool true]) ∧ Below w.heap.size w w' := by
  obtain ⟨i0, hi, hz0, hz1, hz2⟩ := info_parts infoByte
  have g : ¬ (20000 : Int) < s.size := by omega
  go_enter Tryd.func13, Tryd.ntmps13
  go_wp2_with (at_make; refine wpList_make_own _ rfl _ _ 22 rfl w.heap.size 5 i0 (.int .u8 0) 1 Tryd.underlying22 hi hz0 hz1 .i64 .i64 _ (2 * s.size) rfl rfl (by simp) (by rw [hz2]; omega) (by unfold maxLen; omega) (Nat.le_refl _) ?_)
  intro w1 hown0 hgrow0
  have hb0 : Below w.heap.size w w1 := (Below.refl _ _).grown hgrow0 (Nat.le_refl _) (fun k hk => by cases hk)
  clear hgrow0
  go_wp2
  go_loopw [4, 15] (fun out iv wr => ∃ k : Nat, k ≤ s.size ∧ iv = .int .i64 k ∧ wr.ownsRow w.heap.size 5 1 out (2 * k) (bcells (hexL (s.data.toList.take k))) ∧ Below w.heap.size w wr) (fun _ iv _ => s.size - (intOf iv).toNat)
  case atStart => exact ⟨0, Nat.zero_le _, rfl, hown0, hb0⟩
  case round =>
    obtain ⟨k, hk, rfl, hown, hbel⟩ := hrel
    have hsz := hbel.size
    by_cases hlt : (k : Int) < s.size
    · obtain ⟨c, hcc⟩ : ∃ c : Nat, s[k].toNat = c := ⟨_, rfl⟩
      have hc8 : c < 256 := by rw [← hcc]; exact UInt8.toNat_lt _
      have F := hex_cells s k c (by omega) hcc
      obtain ⟨a, ha⟩ : ∃ a, (c : Int) / 16 = a := ⟨_, rfl⟩
      obtain ⟨b, hb⟩ : ∃ b, (c : Int) % 16 = b := ⟨_, rfl⟩
      have a0 : 0 ≤ a := by omega
      have a1 : a < 16 := by omega
      have b0 : 0 ≤ b := by omega
      have b1 : b < 16 := by omega
      have r2 : (c : Int).tdiv 16 = a := by rw [Int.tdiv_eq_ediv_of_nonneg (by omega)]; exact ha
      have r3 : IntKind.u8.wrap a = a := by rw [IntKind.wrap_u8]; omega
      have r4 : (c : Int).tmod 16 = b := by rw [Int.tmod_eq_emod_of_nonneg (by omega)]; exact hb
      have t1 := tab_at a a0 a1 .u8
      have t2 := tab_at b b0 b1 .u8
      rw [ha, hb] at F
      have HF := hide F
      clear F ha hb hown0 hb0
      go_wp2
      go_region_held3 (fun _ => True) (trivial) (first
        | (refine step_append_lies _ (by rfl) _ _ _ (by rfl) w.heap.size 5 i0 _ 1 1 Tryd.underlying22 hi hz0 hz1 hz2 rfl (by omega) _ (2 * k) _ (by rfl) ((hown.alloc _).drew) ⟨wr.heap.size, 0, none⟩ 2 2 [.int .u8 (figZ a), .int .u8 (figZ b)] (by rfl) (by rfl) (World.news_of_block (cs := #[.int .u8 (figZ a), .int .u8 (figZ b)]) (t := 5) (fr := (0, 0)) (heap_alloc_new wr _)) (by simp [Value.oneCell']) (by omega) (by unfold maxLen; omega) (by omega) (by simp; omega) (wr.heap.size + 1) (by simp) ?_; intro gg cap w1 hown1 hgrow hat hlt2))
      all_goals
        have hb1 : Below w.heap.size w w1 := own_grown2 (o := .cells #[.int .u8 (figZ a), .int .u8 (figZ b)] 5) hbel (by omega) hown hgrow
        rw [HF.out] at hown1
        have e2 : 2 * k + 2 = 2 * (k + 1) := by omega
        rw [e2] at hown1
        clear hown hgrow HF r2 r3 r4 e2 t1 t2
        go_wp2
        go_roundw
        case rel => exact ⟨k + 1, by omega, by go_num, hown1, hb1⟩
        case measure => simp [intOf]; omega
    · have hke : k = s.size := by omega
      have et : s.data.toList.take k = s.data.toList := List.take_of_length_le (by simp; omega)
      have eL := hexL_len s.data.toList
      rw [et] at hown
      have eN : 2 * k = (hexL s.data.toList).length := by rw [eL, hke]; simp
      rw [eN] at hown
      clear et eL eN hke hown0 hb0
      obtain ⟨l, hl⟩ : ∃ l, l = hexL s.data.toList := ⟨_, rfl⟩
      rw [← hl] at hown
      have HL := hide hl
      clear hl
      have hcv := conv_own wr _ l hown
      go_wp2
      go_ret2
      exact ⟨by rw [HL.out]; rfl, hbel⟩

theorem implHex_no (s : ByteArray) (w : World) (hs : (20000 : Int) < s.size) :
    Calls Tryd.prog 13 #[.string s] w fun e w' => e = .returned (.tuple #[.string ⟨#[]⟩, .bool false]) ∧ w' = w := by
  go_enter Tryd.func13, Tryd.ntmps13
  go_wp2
  go_ret2
  exact ⟨rfl, rfl⟩
end Go.Proofs.YtiajmphmliefgaaDoor
