/-
  The walks of impl's bytes of a state.
-/
import Derived.Test.YtaolinlginloaacDoorSpecR2
import Derived.Test.YtaolinlginloaacDoorArr
import Derived.Test.YtaolinlginloaacDoorOwn
namespace Go.Proofs.YtaolinlginloaacDoor
open Go.RowKit
open Dig

set_option maxHeartbeats 400000 in
theorem appendWord_any (v : Value) (l : List UInt8) (x base : Nat) (w : World) (hx : x < 4294967296) (hl : l.length ≤ 1000000) (hown : w.ownsRow base 5 1 v l.length (bcells l)) (hB : base ≤ w.heap.size) :
    Calls Tryd.prog 73 #[v, .int .u32 x] w fun e w' => ∃ v' : Value, e = .returned v' ∧ w'.ownsRow base 5 1 v' (l ++ four4 x).length (bcells (l ++ four4 x)) ∧ Below base w w' := by
  obtain ⟨i0, hi, hz0, hz1, hz2⟩ := info_parts infoByte
  have HO := hide hown
  clear hown
  go_enter Tryd.func73, Tryd.ntmps73
  go_wp2_with (at_builtin; refine wpList_append_own _ rfl _ _ 32 rfl base 5 i0 (.int .u8 0) 1 1 Tryd.underlying32 hi hz0 hz1 hz2 rfl (by decide) _ _ _ rfl (by exact HO.out.alloc _) ⟨w.heap.size, 0, none⟩ 4 4 [Value.int .u8 _, Value.int .u8 _, Value.int .u8 _, Value.int .u8 _] rfl rfl (by exact four_cell _ _ _ _ _ _) (four_u8 _ _ _ _) (by unfold maxLen; omega) (by omega) (by simp; omega) ?_)
  intro v' w2 hown2 hgrow _
  have hb2 : Below base w w2 := own_grown (Below.refl base w) hB HO.out hgrow
  rw [four4_cells _ x hx] at hown2
  have HN : Hid (w2.ownsRow base 5 1 v' (l ++ four4 x).length (bcells (l ++ four4 x))) := by
    show World.ownsRow _ _ _ _ _ _ _
    rw [List.length_append]; exact hown2
  clear hown2 hgrow HO
  go_wp2
  go_ret
  exact ⟨_, rfl, HN.out, hb2⟩

theorem wagg8 (a b c d e f g i : Nat) : wagg [a, b, c, d, e, f, g, i] = .agg #[.int .u32 a, .int .u32 b, .int .u32 c, .int .u32 d, .int .u32 e, .int .u32 f, .int .u32 g, .int .u32 i] := rfl

theorem idx8 (l : List Nat) (k x : Nat) (hl : l.length = 8) (hx : l[k]? = some x) (W : World) : (Instr.index 71 (wagg l) (.int .i64 (k : Int))).run Tryd.prog W = .ok (.int .u32 x) W := by
  have hk : k < 8 := by rw [← hl]; exact (List.getElem?_eq_some_iff.1 hx).1
  have hc : (wcells l)[k]? = some (.int .u32 x) := by
    obtain ⟨h1, h2⟩ := List.getElem?_eq_some_iff.1 hx
    rw [wcells_at l k h1, h2]
  obtain ⟨i0, hi, hz0, hz1, hz2⟩ := info_parts infoWord
  simp [Instr.index, run_underlying Tryd.underlying71, asIntOf, wagg, part, sizeOf, typeInfo, hi, hz1, isAgg, run_underlying Tryd.underlying69, hk, hc]

theorem bytesOf_take (l : List Nat) (k x : Nat) (hx : l[k]? = some x) : bytesOf (l.take (k + 1)) = bytesOf (l.take k) ++ four4 x := by
  obtain ⟨h1, h2⟩ := List.getElem?_eq_some_iff.1 hx
  rw [← bytesOf_snoc, ← h2, ← List.take_succ_eq_append_getElem h1]

set_option maxHeartbeats 400000 in
theorem asBytes_anyD (l : List Nat) (w : World) (h : St l) :
    Calls Tryd.prog 45 #[wagg l] w fun e w' => e = .returned (.string ⟨(bytesOf l).toArray⟩) ∧ Below w.heap.size w w' := by
  obtain ⟨i0, hi, hz0, hz1, hz2⟩ := info_parts infoByte
  have hl8 := h.1
  have HL := hide h.2
  obtain ⟨a, b, c, d, e, f, g, i, hL, -⟩ := h.open
  have hw8 : wagg l = .agg #[.int .u32 a, .int .u32 b, .int .u32 c, .int .u32 d, .int .u32 e, .int .u32 f, .int .u32 g, .int .u32 i] := by rw [hL]; rfl
  rw [hw8]
  have EL := hide hL
  clear h hw8 hL
  go_enter Tryd.func45, Tryd.ntmps45
  go_wp2_with (at_make; refine wpList_make_own _ rfl _ _ 32 rfl (w.heap.size + 1) 5 i0 (.int .u8 0) 1 Tryd.underlying32 hi hz0 hz1 .i64 .i64 _ 32 rfl rfl rfl (by rw [hz2]; omega) (by unfold maxLen; omega) (by simp) ?_)
  intro w1 hown hgrow
  have hv0 := v_new w l #[.int .u32 a, .int .u32 b, .int .u32 c, .int .u32 d, .int .u32 e, .int .u32 f, .int .u32 g, .int .u32 i] 71 (by rw [EL.out]; rfl)
  have hb1 : Below (w.heap.size + 1) (w.alloc (.cells #[.int .u32 a, .int .u32 b, .int .u32 c, .int .u32 d, .int .u32 e, .int .u32 f, .int .u32 g, .int .u32 i] 71)) w1 := (Below.refl _ _).grown hgrow (by simp) (fun k hk => by cases hk)
  have HV := hide (hv0.below hb1 (by omega))
  have HB : Hid (Below w.heap.size w w1) := ((Below.refl _ _).alloc (Nat.le_refl _) _).trans (hb1.mono (by omega))
  have hs1 : w.heap.size + 1 ≤ w1.heap.size := by have := hb1.size; simpa using this
  have HO := hide hown
  clear hown hgrow hv0 hb1 EL
  go_wp2_with (refine wpList_load_words rfl _ _ rfl w.heap.size rfl l _ HV.out.1 Tryd.underlying71 rfl (by rw [hl8]; exact info8) ?_)
  go_loopw [3, 8] (fun out iv wr => ∃ k : Nat, k ≤ 8 ∧ iv = .int .i64 k ∧ Hid (wr.ownsRow (w.heap.size + 1) 5 1 out (bytesOf (l.take k)).length (bcells (bytesOf (l.take k)))) ∧ Below w.heap.size w wr ∧ w.heap.size + 1 ≤ wr.heap.size) (fun _ iv _ => 8 - (intOf iv).toNat)
  case atStart => exact ⟨0, by omega, rfl, HO, HB.out, hs1⟩
  case round =>
    obtain ⟨k, hk, rfl, HR, hbel, hszr⟩ := hrel
    by_cases hlt : (k : Int) < 8
    · obtain ⟨x, hx⟩ : ∃ x, l[k]? = some x := ⟨_, List.getElem?_eq_getElem (by omega)⟩
      have hix := idx8 l k x hl8 hx
      have hx32 := HL.out x (List.mem_of_getElem? hx)
      have F := hide (bytesOf_take l k x hx)
      have hlen : (bytesOf (l.take k)).length ≤ 1000000 := by rw [bytesOf_len4]; simp; omega
      generalize bytesOf (l.take k) = bk at HR F hlen
      clear hx
      go_wp2_with fail
      refine (appendWord_any _ bk x (w.heap.size + 1) _ hx32 hlen HR.out hszr).mono ?_
      rintro e w2 ⟨v', rfl, hown2, hb2⟩
      rw [← F.out] at hown2
      have HR2 := hide hown2
      have hb3 : Below w.heap.size w w2 := hbel.trans (hb2.mono (by omega))
      have hs3 : w.heap.size + 1 ≤ w2.heap.size := by have := hb2.size; omega
      clear hown2 hb2 HR hbel F hix
      go_wp2
      go_roundw
      case rel => exact ⟨k + 1, by omega, by go_num, HR2, hb3, hs3⟩
      case measure => simp [intOf]; omega
    · have e8 : k = 8 := by omega
      subst e8
      have hcv : (convert 32 9 u3).run Tryd.prog wr = .ok (.string ⟨(bytesOf l).toArray⟩) wr := by
        have := HR.out
        rw [List.take_of_length_le (by omega)] at this
        exact conv_own wr _ _ this
      clear HR HL
      obtain ⟨r, hr⟩ : ∃ r, bytesOf l = r := ⟨_, rfl⟩
      rw [hr] at hcv
      have HR := hide hr
      clear hr
      go_wp2
      go_ret
      exact ⟨by rw [HR.out]; rfl, hbel⟩
end Go.Proofs.YtaolinlginloaacDoor
