/-
  spec.l12Roots and spec.l12At: the roots of a store's volumes, and where one is.
-/
import Derived.Test.YtcnaahajaaifjabPk8
import Derived.Test.YtcnaahajaaifjabPk10
import Derived.Test.YtcnaahajaaifjabStoM3
namespace Go.Proofs.Ytcnaahajaaifjab
open Go.RowKit
open Words

theorem infoSto : (Try.prog.info? 35).map (·.size) = some 3 := by kernel_rfl
/-- A store that came in, in a block of its own. -/
abbrev SBox (va : Option Addr) (vl vc : Nat) (ad : Option Addr) (len cap : Nat) (nx : Int) : Array Value := #[.slice va vl vc, .slice ad len cap, .int .i64 nx]
theorem sbox_at (w : World) (a b c : Value) : (w.alloc (.cells #[a, b, c] 35)).cell? ⟨w.heap.size, 0, none⟩ = some a ∧ (w.alloc (.cells #[a, b, c] 35)).cell? ⟨w.heap.size, 1, none⟩ = some b ∧ (w.alloc (.cells #[a, b, c] 35)).cell? ⟨w.heap.size, 2, none⟩ = some c := by
  have h := heap_alloc_new w (.cells #[a, b, c] 35)
  exact ⟨cell_of_row _ _ 0 _ _ _ h, cell_of_row _ _ 1 _ _ _ h, cell_of_row _ _ 2 _ _ _ h⟩
theorem roots_take {vs : List (Int × Int)} {k : Nat} {v : Int × Int} (h : vs[k]? = some v) : rootsV (vs.take k) ++ [v.2] = rootsV (vs.take (k + 1)) := by
  obtain ⟨h1, h2⟩ := List.getElem?_eq_some_iff.1 h
  rw [List.take_succ_eq_append_getElem h1, h2]
  simp [rootsV]

set_option maxHeartbeats 400000 in
set_option maxRecDepth 100000 in
theorem sroots (va : Option Addr) (vl vc : Nat) (ad : Option Addr) (len cap : Nat) (nx : Int) (vs : List (Int × Int)) (w : World) (hl : vl ≤ 1048578) (h : VlRow w va vl vs) :
    Calls Try.prog 38 #[.agg (SBox va vl vc ad len cap nx)] w (IOut w (rootsV vs)) := by
  obtain ⟨i0, hi, hz0, hz1, hz2⟩ := info_parts infoInt
  have I0 := hide hi
  have Y0 := hide hz0
  have Y1 := hide hz1
  have Y2 := hide hz2
  clear hi hz0 hz1 hz2
  have BX := hide (sbox_at w (.slice va vl vc) (.slice ad len cap) (.int .i64 nx)).1
  have B0 : Hid (Below w.heap.size w (w.alloc (.cells #[.slice va vl vc, .slice ad len cap, .int .i64 nx] 35))) := (Below.refl _ _).alloc (Nat.le_refl _) _
  have H := hide (h.below B0.out)
  have HVL := hide h.1
  have HZ := hide (show w.heap.size < (w.alloc (.cells #[.slice va vl vc, .slice ad len cap, .int .i64 nx] 35)).heap.size by simp)
  have HS := hide (show (w.alloc (.cells #[.slice va vl vc, .slice ad len cap, .int .i64 nx] 35)).heap.size = w.heap.size + 1 by simp)
  clear h
  unfold SBox
  go_enter Try.func38, Try.ntmps38
  go_wp2_with fail
  generalize w.alloc (.cells #[.slice va vl vc, .slice ad len cap, .int .i64 nx] 35) = wb at BX B0 H HZ HS ⊢
  have O0 : Hid ((wb.alloc (.cells #[] 3)).ownsRow wb.heap.size 3 1 (.slice (some ⟨wb.heap.size, 0, none⟩) 0 0) ([] : List Int).length (icells [])) := World.ownsRow_made wb #[] 0 (Nat.le_refl _) (by unfold maxLen; omega) (by simp)
  have BA : Hid (Below wb.heap.size wb (wb.alloc (.cells #[] 3))) := (Below.refl _ _).alloc (Nat.le_refl _) _
  generalize wb.alloc (.cells #[] 3) = wa at O0 BA ⊢
  obtain ⟨z, hz⟩ : ∃ z, w.heap.size = z := ⟨_, rfl⟩
  rw [hz] at BX HZ HS ⊢
  have HZW := hide hz
  clear hz
  go_loopw [3, 4] (fun ov kv W => ∃ (k : Nat) (l : List Int), k ≤ vl ∧ kv = .int .i64 k ∧ l.length ≤ k ∧ Hid (l = rootsV (vs.take k)) ∧ Hid (W.ownsRow wb.heap.size 3 1 ov l.length (icells l) ∧ Below wb.heap.size wb W)) (fun _ kv _ => vl - (intOf kv).toNat)
  case atStart => exact ⟨0, [], Nat.zero_le _, rfl, Nat.zero_le _, by show _ = _; simp [rootsV], by rw [← HS.out]; exact O0.out, BA.out⟩
  case round =>
    obtain ⟨k, l, hk, rfl, hlk, HL, HO⟩ := hrel
    have bx := (HO.out.2.cell (show z < wb.heap.size from HZ.out)).trans BX.out
    by_cases hlt : (k : Int) < vl
    · have hw := HO.out.2.size
      have hv := List.getElem?_eq_getElem (show k < vs.length by have := HVL.out; omega)
      generalize vs[k]'(by have := HVL.out; omega) = v at hv
      obtain ⟨b, off, e, hb, c0, c1⟩ := (H.out.below HO.out.2).at hv
      subst e
      have HL2 : Hid (l ++ [v.2] = rootsV (vs.take (k + 1))) := by
        show _ = _
        rw [HL.out, roots_take hv]
      have k0 : (0 : Int) ≤ k := by omega
      clear hv
      generalize v.2 = y at c1 HL2
      have OW := hide HO.out.1
      have B1 := hide HO.out.2
      clear HO HL
      have BN : Hid (Below wr.heap.size wr (wr.alloc (.cells #[.int .i64 y] 3))) := (Below.refl _ _).alloc (Nat.le_refl _) _
      have OWN := hide (own_below OW.out BN.out)
      go_wp2_with (at_builtin; refine wpList_append_own _ rfl _ _ 47 rfl wb.heap.size 3 i0 (.int .i64 0) 1 8 Try.underlying47 I0.out Y0.out Y1.out Y2.out rfl (by decide) _ _ _ rfl OWN.out ⟨wr.heap.size, 0, none⟩ 1 1 [Value.int .i64 y] rfl rfl (one_cell _ _ _) (one_i64 _) ?c1 ?c2 ?c3 ?_)
      case c1 => unfold maxLen; omega
      case c2 => omega
      case c3 => have := BN.out.size; omega
      intro u' z2 ho hg _
      rw [icells_snoc] at ho
      have ho2 : z2.ownsRow wb.heap.size 3 1 u' (l ++ [y]).length (icells (l ++ [y])) := by rw [List.length_append]; exact ho
      have ON : Hid (z2.ownsRow wb.heap.size 3 1 u' (l ++ [y]).length (icells (l ++ [y])) ∧ Below wb.heap.size wb z2) := ⟨ho2, (B1.out.trans (BN.out.mono hw)).grown hg (by have := BN.out.size; omega) (fun q hq => (OWN.out.lt q hq).1)⟩
      have hl3 : (l ++ [y]).length ≤ k + 1 := by simp; omega
      generalize l ++ [y] = l2 at HL2 ON hl3
      clear ho ho2 hg OWN OW BN B1
      go_wp2
      go_roundw
      case rel => exact ⟨k + 1, l2, by omega, by go_num, hl3, HL2, ON⟩
      case measure => simp [intOf]; omega
    · have EL : Hid (l = rootsV vs) := by
        show _ = _
        rw [HL.out, List.take_of_length_le (by have := HVL.out; omega)]
      have HF : Hid (Below w.heap.size w wr) := B0.out.trans (HO.out.2.mono B0.out.size)
      go_wp2
      go_ret
      refine ⟨_, rfl, ?_, HF.out⟩
      rw [← EL.out]
      exact own_lower HO.out.1 B0.out.size
def atI : Option Nat → Int
  | some k => k
  | none => -1
set_option maxHeartbeats 400000 in
set_option maxRecDepth 100000 in
theorem satV (va : Option Addr) (vl vc : Nat) (ad : Option Addr) (len cap : Nat) (nx : Int) (vs : List (Int × Int)) (id : Int) (w : World) (hl : vl ≤ 1048578) (h : VlRow w va vl vs) :
    Calls Try.prog 47 #[.agg (SBox va vl vc ad len cap nx), .int .i64 id] w fun e w' => e = .returned (.int .i64 (atI (atV vs id))) ∧ Below w.heap.size w w' := by
  have BX := hide (sbox_at w (.slice va vl vc) (.slice ad len cap) (.int .i64 nx)).1
  have B0 : Hid (Below w.heap.size w (w.alloc (.cells #[.slice va vl vc, .slice ad len cap, .int .i64 nx] 35))) := (Below.refl _ _).alloc (Nat.le_refl _) _
  have H := hide (h.below B0.out)
  have HVL := hide h.1
  have HZ := hide (show w.heap.size < (w.alloc (.cells #[.slice va vl vc, .slice ad len cap, .int .i64 nx] 35)).heap.size by simp)
  clear h
  unfold SBox
  go_enter Try.func47, Try.ntmps47
  go_wp2_with fail
  generalize w.alloc (.cells #[.slice va vl vc, .slice ad len cap, .int .i64 nx] 35) = wb at BX B0 H HZ ⊢
  obtain ⟨z, hz⟩ : ∃ z, w.heap.size = z := ⟨_, rfl⟩
  rw [hz] at BX HZ ⊢
  have HZW := hide hz
  clear hz
  go_loopw [5] (fun kv W => ∃ k : Nat, k ≤ vl ∧ kv = .int .i64 k ∧ Hid (atK vs id k = none) ∧ Hid (Below wb.heap.size wb W)) (fun kv _ => vl - (intOf kv).toNat)
  case atStart => exact ⟨0, Nat.zero_le _, rfl, (rfl : atK vs id 0 = none), Below.refl _ _⟩
  case round =>
    obtain ⟨k, hk, rfl, HN, HW⟩ := hrel
    have bx := (HW.out.cell (show z < wb.heap.size from HZ.out)).trans BX.out
    have HF : Hid (Below w.heap.size w wr) := B0.out.trans (HW.out.mono B0.out.size)
    rw [HZW.out] at HF
    by_cases hlt : (k : Int) < vl
    · have hv := List.getElem?_eq_getElem (show k < vs.length by have := HVL.out; omega)
      generalize vs[k]'(by have := HVL.out; omega) = v at hv
      obtain ⟨b, off, e, hb, c0, c1⟩ := (H.out.below HW.out).at hv
      subst e
      have k0 : (0 : Int) ≤ k := by omega
      by_cases hid : (v.1 == id) = true
      · have HE : Hid (atV vs id = some k) := atK_yes HN.out hv (by simpa using hid) _ (by have := HVL.out; omega)
        clear hv
        go_wp2
        go_ret
        exact ⟨by rw [HE.out]; rfl, by rw [HZW.out]; exact HF.out⟩
      · have HE : Hid (atK vs id (k + 1) = none) := atK_no HN.out hv (by simpa using hid)
        clear hv
        go_wp2
        go_roundw
        case rel => exact ⟨k + 1, by omega, by go_num, HE, HW⟩
        case measure => simp [intOf]; omega
    · have HE : Hid (atV vs id = none) := by
        have e : k = vs.length := by have := HVL.out; omega
        have := HN.out
        rw [e] at this
        exact this
      go_wp2
      go_ret
      exact ⟨by rw [HE.out]; rfl, by rw [HZW.out]; exact HF.out⟩
end Go.Proofs.Ytcnaahajaaifjab
