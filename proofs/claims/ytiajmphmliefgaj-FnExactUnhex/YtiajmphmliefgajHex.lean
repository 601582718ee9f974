/-
  The walks of Hex, impl's and spec's.
-/
import Derived.Test.YtiajmphmliefgajRead2
import Derived.Test.YtiajmphmliefgajHexMath
import Derived.Deep.AppendLies
namespace Go.Proofs.Ytiajmphmliefgaj
open Go.RowKit
open Words

theorem figure_any (x : Int) (w : World) (h0 : 0 ≤ x) (h1 : x < 16) :
    Calls Try.prog 24 #[.int .i64 x] w fun e w' => e = .returned (.int .u8 (figZ x)) ∧ w' = w := by
  by_cases h : x < 10
  · have F : Hid (figZ x = 48 + x) := if_pos h
    go_enter Try.func24, Try.ntmps24
    go_wp2
    go_ret
    exact ⟨by rw [F.out]; rfl, rfl⟩
  · have F : Hid (figZ x = 97 + x - 10) := if_neg h
    go_enter Try.func24, Try.ntmps24
    go_wp2
    go_ret
    exact ⟨by rw [F.out]; rfl, rfl⟩

theorem own_grown2 {B : Nat} {w wr w2 : World} {v : Value} {n : Nat} {xs : List Value} {e : TypeId} {o : Obj} (hb : Below B w wr) (hB : B ≤ wr.heap.size)
    (hown : wr.ownsRow B e 1 v n xs) (hg : (wr.alloc o).drew.grownBy w2 v.ownBlock) : Below B w w2 :=
  own_grown (o := o) hb hB hown ⟨hg.os, hg.tape, hg.output, hg.size, hg.block⟩

theorem conv_own {B : Nat} (wr : World) (v : Value) (l : List UInt8) (h : wr.ownsRow B 5 1 v l.length (bcells l)) : (convert 34 9 v).run Try.prog wr = .ok (.string ⟨l.toArray⟩) wr := by
  have hown := h
  rcases h.2 with ⟨rfl, h0⟩ | ⟨g, cap, cur, rfl, -, -, -, -, -, -⟩
  · have : l = [] := List.length_eq_zero_iff.1 h0
    subst this
    rw [run_convert_bytes_string wr 34 9 5 none 0 0 Try.underlying34 Try.underlying5 Try.underlying9]
    rfl
  · exact run_convert_bytes_back (P := Try.prog) wr 34 9 5 ⟨g, 0, none⟩ cap l Try.underlying34 Try.underlying5 Try.underlying9 (fun j hj => hown.cells (g := g) rfl j _ (bcells_at l j hj))

theorem hex_cells (s : ByteArray) (k c : Nat) (h : k < s.size) (hc : s[k].toNat = c) :
    bcells (hexL (s.data.toList.take k)) ++ [Value.int .u8 (figZ ((c : Int) / 16)), Value.int .u8 (figZ ((c : Int) % 16))] = bcells (hexL (s.data.toList.take (k + 1))) := by
  have hl : k < s.data.toList.length := by simpa using h
  have hc8 : c < 256 := by rw [← hc]; exact UInt8.toNat_lt _
  have hcl : s.data.toList[k].toNat = c := by rw [← hc]; rfl
  rw [hexL_take _ _ hl, hcl]
  have e1 := fig_nat (c / 16) (by omega)
  have e2 := fig_nat (c % 16) (by omega)
  have i1 : ((c / 16 : Nat) : Int) = (c : Int) / 16 := by omega
  have i2 : ((c % 16 : Nat) : Int) = (c : Int) % 16 := by omega
  rw [i1] at e1
  rw [i2] at e2
  simp [bcells, e1, e2]

set_option maxHeartbeats 400000 in
set_option maxRecDepth 100000 in
theorem specHex (s : ByteArray) (w : World) (hs : s.size ≤ 20000) :
    Calls Try.prog 17 #[.string s] w fun e w' => e = .returned (.tuple #[.string ⟨(hexL s.data.toList).toArray⟩, .bool true]) ∧ Below w.heap.size w w' := by
  obtain ⟨i0, hi, hz0, hz1, hz2⟩ := info_parts infoByte
  have g : ¬ (20000 : Int) < s.size := by omega
  go_enter Try.func17, Try.ntmps17
  go_wp2
  go_loopw [4, 5] (fun out iv wr => ∃ k : Nat, k ≤ s.size ∧ iv = .int .i64 k ∧ wr.ownsRow w.heap.size 5 1 out (2 * k) (bcells (hexL (s.data.toList.take k))) ∧ Below w.heap.size w wr) (fun _ iv _ => s.size - (intOf iv).toNat)
  case atStart => exact ⟨0, Nat.zero_le _, rfl, World.ownsRow_made w #[] 0 (Nat.le_refl _) (by unfold maxLen; omega) (by simp), (Below.refl _ _).alloc (Nat.le_refl _) _⟩
  case round =>
    obtain ⟨k, hk, rfl, hown, hbel⟩ := hrel
    have hsz := hbel.size
    by_cases hlt : (k : Int) < s.size
    · obtain ⟨c, hcc⟩ : ∃ c : Nat, s[k].toNat = c := ⟨_, rfl⟩
      have hc8 : c < 256 := by rw [← hcc]; exact UInt8.toNat_lt _
      have F := hex_cells s k c (by omega) hcc
      have r1 : IntKind.i64.wrap (c : Int) = c := by rw [IntKind.wrap_i64]; omega
      obtain ⟨a, ha⟩ : ∃ a, (c : Int) / 16 = a := ⟨_, rfl⟩
      obtain ⟨b, hb⟩ : ∃ b, (c : Int) % 16 = b := ⟨_, rfl⟩
      have a0 : 0 ≤ a := by omega
      have a1 : a < 16 := by omega
      have b0 : 0 ≤ b := by omega
      have b1 : b < 16 := by omega
      have r2 : (c : Int).tdiv 16 = a := by rw [Int.tdiv_eq_ediv_of_nonneg (by omega)]; exact ha
      have r3 : IntKind.i64.wrap a = a := by rw [IntKind.wrap_i64]; omega
      have r4 : (c : Int).tmod 16 = b := by rw [Int.tmod_eq_emod_of_nonneg (by omega)]; exact hb
      rw [ha, hb] at F
      have HF := hide F
      clear F ha hb
      go_wp2
      go_region_held3 (fun _ => True) (trivial) (first
        | (go_at_call 24; refine (figure_any _ _ (by omega) (by omega)).mono ?_; rintro e w' ⟨rfl, rfl⟩)
        | (refine step_append_lies _ (by rfl) _ _ _ (by rfl) w.heap.size 5 i0 _ 1 1 Try.underlying34 hi hz0 hz1 hz2 rfl (by omega) _ (2 * k) _ (by rfl) ((hown.alloc _).drew) ⟨wr.heap.size, 0, none⟩ 2 2 [.int .u8 (figZ a), .int .u8 (figZ b)] (by rfl) (by rfl) (World.news_of_block (cs := #[.int .u8 (figZ a), .int .u8 (figZ b)]) (t := 5) (fr := (0, 0)) (heap_alloc_new wr _)) (by simp [Value.oneCell']) (by omega) (by unfold maxLen; omega) (by omega) (by simp; omega) (wr.heap.size + 1) (by simp) ?_; intro gg cap w1 hown1 hgrow hat hlt2))
      all_goals
        have hb1 : Below w.heap.size w w1 := own_grown2 (o := .cells #[.int .u8 (figZ a), .int .u8 (figZ b)] 5) hbel (by omega) hown hgrow
        rw [HF.out] at hown1
        have e2 : 2 * k + 2 = 2 * (k + 1) := by omega
        rw [e2] at hown1
        clear hown hgrow HF r1 r2 r3 r4 e2
        go_wp2
        go_roundw
        case rel => exact ⟨k + 1, by omega, by go_num, hown1, hb1⟩
        case measure => simp [intOf]; omega
    · have hke : k = s.size := by omega
      have et : s.data.toList.take k = s.data.toList := List.take_of_length_le (by simp; omega)
      have eL := hexL_len s.data.toList
      rw [et] at hown
      have eN : 2 * k = (hexL s.data.toList).length := by rw [eL, hke]; simp
      rw [eN] at hown
      clear et eL eN hke
      obtain ⟨l, hl⟩ : ∃ l, l = hexL s.data.toList := ⟨_, rfl⟩
      rw [← hl] at hown
      have HL := hide hl
      clear hl
      have hcv := conv_own wr _ l hown
      go_wp2
      go_ret2
      exact ⟨by rw [HL.out]; rfl, hbel⟩
end Go.Proofs.Ytiajmphmliefgaj
