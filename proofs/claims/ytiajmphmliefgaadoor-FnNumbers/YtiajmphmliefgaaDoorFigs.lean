/-
  The walk of impl.figureValues.
-/
import Derived.Test.YtiajmphmliefgaaDoorBase
import Derived.Test.YtiajmphmliefgaaDoorUnMath
namespace Go.Proofs.YtiajmphmliefgaaDoor
open Go.RowKit
open Words

def figTab : ByteArray := ⟨#[48, 49, 50, 51, 52, 53, 54, 55, 56, 57, 97, 98, 99, 100, 101, 102]⟩
theorem figTab_at : ∀ n : Fin 16, ((figTab.data.toList[n.val]?.getD 0).toNat : Int) = figZ (n.val : Int) := by decide
theorem tab_at (a : Int) (h0 : 0 ≤ a) (h1 : a < 16) (k : IntKind) (W : World) :
    (Instr.index 9 (.string ⟨#[48, 49, 50, 51, 52, 53, 54, 55, 56, 57, 97, 98, 99, 100, 101, 102]⟩) (.int k a)).run Tryd.prog W = .ok (.int .u8 (figZ a)) W := by
  obtain ⟨n, rfl⟩ := Int.eq_ofNat_of_zero_le h0
  have hn : n < 16 := by omega
  show (Instr.index 9 (.string figTab) (.int k (n : Int))).run Tryd.prog W = _
  have hsz : figTab.size = 16 := rfl
  rw [run_index_string W 9 figTab k n Tryd.underlying9, dif_pos (by rw [hsz]; omega)]
  have e := figTab_at ⟨n, hn⟩
  have e2 : figTab.data.toList[n]?.getD 0 = figTab[(n : Int).toNat]'(by rw [hsz]; simpa using hn) := by
    rw [List.getElem?_eq_getElem (show n < 16 from hn)]
    rfl
  simp only at e
  rw [e2] at e
  rw [e]

set_option maxHeartbeats 1000000 in
set_option maxRecDepth 100000 in
theorem figs_any (s : ByteArray) (b : Nat) (w : World) (hs : s.size ≤ 1048576) (hb1 : b ≤ 16) :
    Calls Tryd.prog 17 #[.string s, .int .i64 b] w fun e w' => (FigsOk b s.data.toList ∧ ∃ v, e = .returned (.tuple #[v, .bool true]) ∧ v ≠ .slice none 0 0 ∧ w'.ownsRow w.heap.size 3 1 v s.size (icells (vals s.data.toList)) ∧ Below w.heap.size w w') ∨
      (¬ FigsOk b s.data.toList ∧ e = .returned (.tuple #[.slice none 0 0, .bool false]) ∧ Below w.heap.size w w') := by
  obtain ⟨i0, hi, hz0, hz1, hz2⟩ := info_parts infoInt
  go_enter Tryd.func17, Tryd.ntmps17
  go_wp2
  go_step3
  go_wp2_with (at_make; refine wpList_make_own _ rfl _ _ 39 rfl w.heap.size 3 i0 (.int .i64 0) 1 Tryd.underlying39 hi hz0 hz1 .i64 .i64 _ s.size rfl rfl rfl (by rw [hz2]; omega) (by unfold maxLen; omega) (Nat.le_refl _) ?_)
  intro w1 hown0 hgrow0
  have hb0 : Below w.heap.size w w1 := (Below.refl _ _).grown hgrow0 (Nat.le_refl _) (fun k hk => by cases hk)
  clear hgrow0
  go_wp2
  go_step3
  go_wp2
  go_loopw [6, 14] (fun out iv wr => ∃ k : Nat, k ≤ s.size ∧ iv = .int .i64 k ∧ Hid (FigsOk b (s.data.toList.take k)) ∧ Hid (out ≠ .slice none 0 0) ∧ wr.ownsRow w.heap.size 3 1 out k (icells (vals (s.data.toList.take k))) ∧ Below w.heap.size w wr) (fun _ iv _ => s.size - (intOf iv).toNat)
  case atStart => exact ⟨0, Nat.zero_le _, rfl, fun x hx => (by simp at hx), fun h => (by cases h), hown0, hb0⟩
  case round =>
    clear hown0 hb0
    obtain ⟨k, hk, rfl, HOK, HNN, hown, hbel⟩ := hrel
    have hsz := hbel.size
    by_cases hlt : (k : Int) < s.size
    · obtain ⟨c, hcc⟩ : ∃ c : Nat, s[k].toNat = c := ⟨_, rfl⟩
      have hc8 : c < 256 := by rw [← hcc]; exact UInt8.toNat_lt _
      have hl : k < s.data.toList.length := by simpa using hlt
      have hcl : s.data.toList[k].toNat = c := by rw [← hcc]; rfl
      by_cases hx : 0 ≤ val16 c ∧ val16 c < b
      · have HN : True := trivial
        have hvt := vals_take hl
        rw [hcl] at hvt
        have HOK2 : Hid (FigsOk b (s.data.toList.take (k + 1))) := figs_take hl HOK.out (by rw [hcl]; exact hx)
        obtain ⟨x, hxe⟩ := Int.eq_ofNat_of_zero_le hx.1
        rw [hxe] at hx hvt
        have HV := hide hvt
        have hfx : ∀ v : Nat, v < 16 → (figZ (v : Int) = (c : Int) ↔ v = x) := by
          intro v hv
          rw [val_fig v c (by omega) (by omega), hxe]
          omega
        have HX := hide hfx
        clear hvt hl hcl hxe hfx HN
        go_wp2
        go_hide hQ
        go_loopw [6, 18] (fun out2 vv wr2 => ∃ v : Nat, v ≤ x ∧ vv = .int .i64 v ∧ Hid (out2 ≠ .slice none 0 0) ∧ wr2.ownsRow w.heap.size 3 1 out2 k (icells (vals (s.data.toList.take k))) ∧ Below w.heap.size w wr2) (fun _ vv _ => x + 1 - (intOf vv).toNat)
        case atStart => exact ⟨0, Nat.zero_le _, rfl, HNN, hown, hbel⟩
        case round =>
          clear hown hbel hsz HNN
          obtain ⟨v, hv, rfl, HNN, hown, hbel⟩ := hrel
          have hsz := hbel.size
          have t1 := tab_at (v : Int) (by omega) (by omega) .i64
          have v0 : (0 : Int) ≤ v := by omega
          have v1 : (v : Int) < b := by omega
          by_cases hvx : v = x
          · have e1 : (figZ (v : Int) == (c : Int)) = true := by rw [beq_iff_eq]; exact (HX.out v (by omega)).2 hvx
            subst hvx
            go_wp2
            go_region_held3 (fun _ => True) (trivial) (fail)
            all_goals
              go_wp2_with (at_builtin; refine wpList_append_own _ rfl _ _ 39 rfl w.heap.size 3 i0 (.int .i64 0) 1 8 Tryd.underlying39 hi hz0 hz1 hz2 rfl (by decide) _ _ _ rfl (by exact (hown.alloc _).drew) ⟨wr.heap.size, 0, none⟩ 1 1 [Value.int .i64 _] rfl rfl (by exact one_cell _ _ _) (one_i64 _) (by unfold maxLen; omega) (by omega) (by simp; omega) ?_)
              intro v' w1 hown' hgrow hnn
              have HNN2 := hide hnn
              have hb1 : Below w.heap.size w w1 := own_grown2 (o := .cells #[.int .i64 (v : Int)] 3) hbel (by omega) hown hgrow
              rw [icells_snoc, ← HV.out] at hown'
              clear hown hgrow hbel e1 t1 hnn
              subst hQ
              go_wp2
              go_roundw
              case rel => exact ⟨k + 1, by omega, by go_num, HOK2, HNN2, hown', hb1⟩
              case measure => simp [intOf]; omega
          · have e1 : (figZ (v : Int) == (c : Int)) = false := by rw [beq_eq_false_iff_ne]; exact fun h => hvx ((HX.out v (by omega)).1 h)
            go_wp2
            go_region_held3 (fun _ => True) (trivial) (fail)
            all_goals
              go_wp2
              go_roundw
              case rel => exact ⟨v + 1, by omega, by go_num, HNN, hown, hbel.drew⟩
              case measure => simp [intOf]; omega
      · have HN : Hid (¬ FigsOk b s.data.toList) := figs_not hl (by rw [hcl]; exact hx)
        have hfx : ∀ v : Nat, v < b → ¬ figZ (v : Int) = (c : Int) := by
          intro v hv h
          rw [val_fig v c (by omega) (by omega)] at h
          exact hx (by omega)
        have HX := hide hfx
        clear hl hcl hfx hx HOK
        go_wp2
        go_hide hQ
        go_loopw [6, 18] (fun _ vv wr2 => ∃ v : Nat, v ≤ b ∧ vv = .int .i64 v ∧ Below w.heap.size w wr2) (fun _ vv _ => b - (intOf vv).toNat)
        case atStart => exact ⟨0, Nat.zero_le _, rfl, hbel⟩
        case round =>
          clear hown hbel hsz
          obtain ⟨v, hv, rfl, hbel⟩ := hrel
          by_cases hvb : v < b
          · have t1 := tab_at (v : Int) (by omega) (by omega) .i64
            have v0 : (0 : Int) ≤ v := by omega
            have v1 : (v : Int) < b := by omega
            have e1 : (figZ (v : Int) == (c : Int)) = false := by rw [beq_eq_false_iff_ne]; exact HX.out v (by omega)
            go_wp2
            go_region_held3 (fun _ => True) (trivial) (fail)
            all_goals
              go_wp2
              go_roundw
              case rel => exact ⟨v + 1, by omega, by go_num, hbel.drew⟩
              case measure => simp [intOf]; omega
          · have v1 : ¬ (v : Int) < b := by omega
            go_wp2
            subst hQ
            go_wp2
            rw [Exit.noGoto_ret]
            go_ret2
            exact .inr ⟨HN.out, rfl, hbel⟩
    · have hke : k = s.size := by omega
      have et : s.data.toList.take k = s.data.toList := List.take_of_length_le (by simp; omega)
      rw [et] at HOK
      rw [et, hke] at hown
      clear et hke
      go_wp2
      go_ret2
      exact .inl ⟨HOK.out, _, rfl, HNN.out, hown, hbel⟩

theorem vals_at (l : List UInt8) (j : Nat) (hj : j < l.length) : (icells (vals l))[j]? = some (.int .i64 (val16 l[j].toNat)) := by
  rw [icells_at _ j (by rw [vals_len]; exact hj)]
  simp [vals]

end Go.Proofs.YtiajmphmliefgaaDoor
