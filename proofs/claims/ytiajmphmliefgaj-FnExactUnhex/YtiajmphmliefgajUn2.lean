/-
  The walk of spec.Unhex.
-/
import Derived.Test.YtiajmphmliefgajUn
namespace Go.Proofs.Ytiajmphmliefgaj
open Go.RowKit
open Words

theorem pair_byte (a b : Nat) (ha : 0 ≤ val16 a) (hb : 0 ≤ val16 b) : ((UInt8.ofNat (16 * val16 a + val16 b).toNat).toNat : Int) = 16 * val16 a + val16 b := by
  have h1 := val16_bd a
  have h2 := val16_bd b
  rw [UInt8.toNat_ofNat']
  omega

theorem un_cells (s : ByteArray) (m a b : Nat) (h : 2 * m + 1 < s.size) (ha : s[2 * m].toNat = a) (hb : s[2 * m + 1].toNat = b) (va : 0 ≤ val16 a) (vb : 0 ≤ val16 b) :
    bcells (unhexL (s.data.toList.take (2 * m))) ++ [Value.int .u8 (16 * val16 a + val16 b)] = bcells (unhexL (s.data.toList.take (2 * m + 2))) := by
  have hl : 2 * m + 1 < s.data.toList.length := by simpa using h
  have e1 : s.data.toList[2 * m].toNat = a := by rw [← ha]; rfl
  have e2 : s.data.toList[2 * m + 1].toNat = b := by rw [← hb]; rfl
  rw [unhexL_take hl, e1, e2]
  exact bcells_snoc _ _ _ (pair_byte a b va vb)

def uhRes (l : List UInt8) : Value := .tuple #[.string ⟨(unhexL l).toArray⟩, .bool true]
def noText : Value := .tuple #[.string ⟨#[]⟩, .bool false]

set_option maxHeartbeats 1000000 in
set_option maxRecDepth 100000 in
theorem specUnhex (s : ByteArray) (n : Nat) (w : World) (hs : s.size ≤ 40000) (hev : s.size = 2 * n) :
    Calls Try.prog 19 #[.string s] w fun e w' => (FigsOk 16 s.data.toList ∧ e = .returned (uhRes s.data.toList) ∧ Below w.heap.size w w') ∨ (¬ FigsOk 16 s.data.toList ∧ e = .returned noText ∧ Below w.heap.size w w') := by
  obtain ⟨i0, hi, hz0, hz1, hz2⟩ := info_parts infoByte
  have g : ¬ (40000 : Int) < s.size := by omega
  have g2 : ((s.size : Int) % 2 != 0) = false := by simp; omega
  have HEV := hide hev
  have hev' : (s.size : Int) = 2 * n := by omega
  have hev1 : (s.size : Int) ≤ 2 * n := by omega
  have hev2 : 2 * n ≤ (s.size : Int) := by omega
  clear hev hev'
  go_enter Try.func19, Try.ntmps19
  go_wp2
  go_loopw [4, 5] (fun out iv wr => ∃ m : Nat, m ≤ n ∧ iv = .int .i64 (2 * m : Nat) ∧ Hid (FigsOk 16 (s.data.toList.take (2 * m))) ∧ wr.ownsRow w.heap.size 5 1 out m (bcells (unhexL (s.data.toList.take (2 * m)))) ∧ Below w.heap.size w wr) (fun _ iv _ => s.size - (intOf iv).toNat)
  case atStart => exact ⟨0, Nat.zero_le _, rfl, fun x hx => by simp at hx, World.ownsRow_made w #[] 0 (Nat.le_refl _) (by unfold maxLen; omega) (by simp), (Below.refl _ _).alloc (Nat.le_refl _) _⟩
  case round =>
    obtain ⟨m, hm, rfl, HOK, hown, hbel⟩ := hrel
    have hsz := hbel.size
    by_cases hlt : m < n
    · have h2m : 2 * m + 1 < s.size := by have := HEV.out; omega
      have c1 : ((2 * m : Nat) : Int) < s.size := by omega
      have c2 : ((2 * m : Nat) : Int) + 1 < s.size := by omega
      obtain ⟨a, hca⟩ : ∃ c : Nat, s[2 * m].toNat = c := ⟨_, rfl⟩
      obtain ⟨b, hcb⟩ : ∃ c : Nat, s[2 * m + 1].toNat = c := ⟨_, rfl⟩
      have ha8 : a < 256 := by rw [← hca]; exact UInt8.toNat_lt _
      have hb8 : b < 256 := by rw [← hcb]; exact UInt8.toNat_lt _
      have hl : 2 * m + 1 < s.data.toList.length := by simpa using h2m
      have e1 : s.data.toList[2 * m].toNat = a := by rw [← hca]; rfl
      have e2 : s.data.toList[2 * m + 1].toNat = b := by rw [← hcb]; rfl
      obtain ⟨ba0, ba1⟩ := val16_bd a
      obtain ⟨bb0, bb1⟩ := val16_bd b
      by_cases va : 0 ≤ val16 a
      · by_cases vb : 0 ≤ val16 b
        · have HOK1 := figs_take (show 2 * m < s.data.toList.length by omega) HOK.out (by rw [e1]; omega)
          have HOK3 := figs_take (k := 2 * m + 1) hl HOK1 (by rw [e2]; omega)
          have HOK2 : Hid (FigsOk 16 (s.data.toList.take (2 * (m + 1)))) := HOK3
          have F := hide (un_cells s m a b h2m hca hcb va vb)
          clear hl e1 e2 HOK HOK1 HOK3
          go_wp2_with fail
          refine (value_any a _ ha8).mono ?_
          rintro e w' ⟨rfl, rfl⟩
          go_wp2_with fail
          refine (value_any b _ hb8).mono ?_
          rintro e w' ⟨rfl, rfl⟩
          go_wp2_with (at_builtin; refine wpList_append_own _ rfl _ _ 34 rfl w.heap.size 5 i0 (.int .u8 0) 1 1 Try.underlying34 hi hz0 hz1 hz2 rfl (by decide) _ _ _ rfl (by exact hown.alloc _) ⟨w'.heap.size, 0, none⟩ 1 1 [Value.int .u8 _] rfl rfl (by exact one_cell _ _ _) (one_u8 _) (by unfold maxLen; omega) (by omega) (by simp; omega) ?_)
          intro v' w1 hown' hgrow _
          have hb1 : Below w.heap.size w w1 := own_grown hbel (by omega) hown hgrow
          rw [F.out] at hown'
          clear hown hgrow hbel
          go_wp2
          go_roundw
          case rel => exact ⟨m + 1, by omega, by go_num, HOK2, hown', hb1⟩
          case measure => simp [intOf]; omega
        · have HN : Hid (¬ FigsOk 16 s.data.toList) := figs_not hl (by rw [e2]; omega)
          clear hl e1 e2 HOK
          go_wp2_with fail
          refine (value_any a _ ha8).mono ?_
          rintro e w' ⟨rfl, rfl⟩
          go_wp2_with fail
          refine (value_any b _ hb8).mono ?_
          rintro e w' ⟨rfl, rfl⟩
          go_wp2
          go_ret2
          exact .inr ⟨HN.out, rfl, hbel⟩
      · have HN : Hid (¬ FigsOk 16 s.data.toList) := figs_not (show 2 * m < s.data.toList.length by omega) (by rw [e1]; omega)
        clear hl e1 e2 HOK
        go_wp2_with fail
        refine (value_any a _ ha8).mono ?_
        rintro e w' ⟨rfl, rfl⟩
        go_wp2_with fail
        refine (value_any b _ hb8).mono ?_
        rintro e w' ⟨rfl, rfl⟩
        go_wp2
        go_ret2
        exact .inr ⟨HN.out, rfl, hbel⟩
    · have hme : m = n := by omega
      have et : s.data.toList.take (2 * m) = s.data.toList := List.take_of_length_le (by have := HEV.out; simp; omega)
      rw [et] at hown HOK
      have eN : m = (unhexL s.data.toList).length := by rw [unhexL_len n _ (by have := HEV.out; simpa using this)]; exact hme
      have c1 : ¬ ((2 * m : Nat) : Int) < s.size := by omega
      have hcv : Hid ((convert 34 9 u4).run Try.prog wr = .ok (.string ⟨(unhexL s.data.toList).toArray⟩) wr) := by
        rw [eN] at hown
        exact conv_own wr _ _ hown
      obtain ⟨l, hl⟩ : ∃ l, l = unhexL s.data.toList := ⟨_, rfl⟩
      rw [← hl] at hcv
      have HL := hide hl
      have hcv2 := hcv.out
      clear hl et eN hcv
      go_wp2
      go_ret2
      exact .inl ⟨HOK.out, by rw [uhRes, ← HL.out]; rfl, hbel⟩
end Go.Proofs.Ytiajmphmliefgaj
