/-
  spec.AllAt.
-/
import Derived.Test.YtbjhbbejomfmmatSGet
namespace Go.Proofs.Ytbjhbbejomfmmat
open Go.RowKit
open Words

/-- A row of numbers of the call's own. -/
def IOut (w : World) (l : List Int) (e : Ending) (w' : World) : Prop := ∃ v, e = .returned v ∧ w'.ownsRow w.heap.size 3 1 v l.length (icells l) ∧ Below w.heap.size w w'
theorem allT_len (l : List Kn) (r : Int) : (allT l r).length = 16 := by simp [allT]
theorem allT_take (l : List Kn) (r : Int) {k : Nat} (hk : k < 16) : (allT l r).take (k + 1) = (allT l r).take k ++ [getT l r k] := by
  rw [List.take_add_one, allT, List.getElem?_map, List.getElem?_range hk]
  rfl

set_option maxHeartbeats 400000 in
set_option maxRecDepth 100000 in
theorem sall (ad : Option Addr) (len cap : Nat) (rs : List Kw) (r : Int) (w : World) (hl : len ≤ 1048578) (h : KnRd w ad len rs) :
    Calls Try.prog 37 #[.agg #[.slice ad len cap], .int .i64 r] w (IOut w (allT (rs.map ktell) r)) := by
  obtain ⟨i0, hi, hz0, hz1, hz2⟩ := info_parts infoInt
  have I0 := hide hi
  have Y0 := hide hz0
  have Y1 := hide hz1
  have Y2 := hide hz2
  clear hi hz0 hz1 hz2
  have BX := hide (box_at w (.slice ad len cap))
  have B0 : Hid (Below w.heap.size w (w.alloc (.cells #[.slice ad len cap] 34))) := (Below.refl _ _).alloc (Nat.le_refl _) _
  have H := hide (h.below B0.out)
  have HZ := hide (show w.heap.size < (w.alloc (.cells #[.slice ad len cap] 34)).heap.size by simp)
  have HS := hide (show (w.alloc (.cells #[.slice ad len cap] 34)).heap.size = w.heap.size + 1 by simp)
  clear h
  obtain ⟨M, hM⟩ : ∃ M, allT (rs.map ktell) r = M := ⟨_, rfl⟩
  have HM := hide hM
  rw [hM]
  clear hM
  go_enter Try.func37, Try.ntmps37
  go_wp2_with fail
  generalize w.alloc (.cells #[.slice ad len cap] 34) = wb at BX B0 H HZ HS ⊢
  have O0 : Hid ((wb.alloc (.cells #[] 3)).ownsRow wb.heap.size 3 1 (.slice (some ⟨wb.heap.size, 0, none⟩) 0 0) ([] : List Int).length (icells [])) := World.ownsRow_made wb #[] 0 (Nat.le_refl _) (by unfold maxLen; omega) (by simp)
  have BA : Hid (Below wb.heap.size wb (wb.alloc (.cells #[] 3))) := (Below.refl _ _).alloc (Nat.le_refl _) _
  generalize wb.alloc (.cells #[] 3) = wa at O0 BA ⊢
  obtain ⟨z, hz⟩ : ∃ z, w.heap.size = z := ⟨_, rfl⟩
  rw [hz] at BX HZ HS ⊢
  have HZW := hide hz
  clear hz
  go_loopw [5, 6] (fun ov kv W => ∃ (k : Nat) (l : List Int), k ≤ 16 ∧ kv = .int .i64 k ∧ l.length ≤ k ∧ Hid (l = M.take k) ∧ Hid (W.ownsRow wb.heap.size 3 1 ov l.length (icells l) ∧ Below wb.heap.size wb W)) (fun _ kv _ => 16 - (intOf kv).toNat)
  case atStart => exact ⟨0, [], Nat.zero_le _, rfl, Nat.zero_le _, by show _ = _; simp, by rw [← HS.out]; exact O0.out, BA.out⟩
  case round =>
    obtain ⟨k, l, hk, rfl, hlk, HL, HO⟩ := hrel
    have bx := (HO.out.2.cell (show z < wb.heap.size from HZ.out)).trans BX.out
    by_cases hlt : (k : Int) < 16
    · have hw := HO.out.2.size
      go_wp2_with fail
      refine (sgetAt ad len cap rs r (k : Int) _ hl (H.out.below HO.out.2)).mono ?_
      rintro e w1 ⟨rfl, b1⟩
      have HL2 : Hid (l ++ [getT (rs.map ktell) r (k : Int)] = M.take (k + 1)) := by
        show _ = _
        rw [← HM.out, allT_take _ _ (by omega), HM.out, HL.out]
      generalize getT (rs.map ktell) r (k : Int) = y at HL2 ⊢
      have OW := hide (own_below HO.out.1 b1)
      have B1 := hide (HO.out.2.trans (b1.mono hw))
      have hw1 := B1.out.size
      clear b1 bx HO HL
      have BN : Hid (Below w1.heap.size w1 (w1.alloc (.cells #[.int .i64 y] 3))) := (Below.refl _ _).alloc (Nat.le_refl _) _
      have OWN := hide (own_below OW.out BN.out)
      go_wp2_with (at_builtin; refine wpList_append_own _ rfl _ _ 29 rfl wb.heap.size 3 i0 (.int .i64 0) 1 8 Try.underlying29 I0.out Y0.out Y1.out Y2.out rfl (by decide) _ _ _ rfl OWN.out ⟨w1.heap.size, 0, none⟩ 1 1 [Value.int .i64 y] rfl rfl (one_cell _ _ _) (one_i64 _) ?c1 ?c2 ?c3 ?_)
      case c1 => unfold maxLen; omega
      case c2 => omega
      case c3 => have := BN.out.size; omega
      intro u' z2 ho hg _
      rw [icells_snoc] at ho
      have ho2 : z2.ownsRow wb.heap.size 3 1 u' (l ++ [y]).length (icells (l ++ [y])) := by rw [List.length_append]; exact ho
      have ON : Hid (z2.ownsRow wb.heap.size 3 1 u' (l ++ [y]).length (icells (l ++ [y])) ∧ Below wb.heap.size wb z2) := ⟨ho2, (B1.out.trans (BN.out.mono hw1)).grown hg (by have := BN.out.size; omega) (fun q hq => (OWN.out.lt q hq).1)⟩
      have hl3 : (l ++ [y]).length ≤ k + 1 := by simp; omega
      generalize l ++ [y] = l2 at HL2 ON hl3
      clear ho ho2 hg OWN OW BN B1
      go_wp2
      go_roundw
      case rel => exact ⟨k + 1, l2, by omega, by go_num, hl3, HL2, ON⟩
      case measure => simp [intOf]; omega
    · have EL : Hid (l = M) := by
        show _ = _
        rw [HL.out, show k = M.length by rw [← HM.out, allT_len]; omega, List.take_length]
      have HF : Hid (Below w.heap.size w wr) := B0.out.trans (HO.out.2.mono B0.out.size)
      go_wp2
      go_ret
      refine ⟨_, rfl, ?_, HF.out⟩
      rw [← EL.out]
      exact own_lower HO.out.1 B0.out.size
end Go.Proofs.Ytbjhbbejomfmmat
