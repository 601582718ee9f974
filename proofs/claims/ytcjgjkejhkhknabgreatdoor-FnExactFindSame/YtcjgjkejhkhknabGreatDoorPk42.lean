/-
  ImplAB; ImplS; SpecF; SpecR; Keeps; Round
-/
import Derived.Test.YtcjgjkejhkhknabGreatDoorPk41
import Derived.Test.YtcjgjkejhkhknabGreatDoorPk0
import Derived.Test.YtcjgjkejhkhknabGreatDoorPk40
import Derived.Deep.AppendLies
set_option maxHeartbeats 400000
namespace Go.Proofs.YtcjgjkejhkhknabGreatDoor
open Go.RowKit
open Dig
theorem appendWord_any (v : Value) (l : List UInt8) (x base : Nat) (w : World) (hx : x < 4294967296) (hl : l.length ≤ 1000000) (hown : w.ownsRow base 5 1 v l.length (bcells l)) (hB : base ≤ w.heap.size) :
 Calls Tryz.prog 142 #[v, .int .u32 x] w fun e w' => ∃ v' : Value, e = .returned v' ∧ w'.ownsRow base 5 1 v' (l ++ four4 x).length (bcells (l ++ four4 x)) ∧ Below base w w' := by
 obtain ⟨i0, hi, hz0, hz1, hz2⟩ := info_parts infoByte
 have HO := hide hown
 clear hown
 go_enter Tryz.func142, Tryz.ntmps142
 go_wp2_with (at_builtin; refine wpList_append_own _ rfl _ _ 191 rfl base 5 i0 (.int .u8 0) 1 1 Tryz.underlying191 hi hz0 hz1 hz2 rfl (by decide) _ _ _ rfl (by exact HO.out.alloc _) ⟨w.heap.size, 0, none⟩ 4 4 [Value.int .u8 _, Value.int .u8 _, Value.int .u8 _, Value.int .u8 _] rfl rfl (by exact four_cell _ _ _ _ _ _) (four_u8 _ _ _ _) (by unfold maxLen; omega) (by omega) (by simp; omega) ?_)
 intro v' w2 hown2 hgrow _
 have hb2 : Below base w w2 := own_grown (Below.refl base w) hB HO.out hgrow
 rw [four4_cells _ x hx] at hown2
 have HN : Hid (w2.ownsRow base 5 1 v' (l ++ four4 x).length (bcells (l ++ four4 x))) := by
  show World.ownsRow _ _ _ _ _ _ _
  rw [List.length_append]; exact hown2
 clear hown2 hgrow HO
 go_wp2
 go_ret
 exact ⟨_, rfl, HN.out, hb2⟩
theorem idx8 (l : List Nat) (k x : Nat) (hl : l.length = 8) (hx : l[k]? = some x) (W : World) : (Instr.index 133 (wagg l) (.int .i64 (k : Int))).run Tryz.prog W = .ok (.int .u32 x) W := by
 have hk : k < 8 := by rw [← hl]; exact (List.getElem?_eq_some_iff.1 hx).1
 have hc : (wcells l)[k]? = some (.int .u32 x) := by
  obtain ⟨h1, h2⟩ := List.getElem?_eq_some_iff.1 hx
  rw [wcells_at l k h1, h2]
 obtain ⟨i0, hi, hz0, hz1, hz2⟩ := info_parts infoWord
 simp [Instr.index, run_underlying Tryz.underlying133, asIntOf, wagg, part, sizeOf, typeInfo, hi, hz1, isAgg, run_underlying Tryz.underlying131, hk, hc]
theorem bytesOf_take (l : List Nat) (k x : Nat) (hx : l[k]? = some x) : bytesOf (l.take (k + 1)) = bytesOf (l.take k) ++ four4 x := by
 obtain ⟨h1, h2⟩ := List.getElem?_eq_some_iff.1 hx
 rw [← bytesOf_snoc, ← h2, ← List.take_succ_eq_append_getElem h1]
theorem asBytes_anyD (l : List Nat) (w : World) (h : St l) :
 Calls Tryz.prog 107 #[wagg l] w fun e w' => e = .returned (.string ⟨(bytesOf l).toArray⟩) ∧ Below w.heap.size w w' := by
 obtain ⟨i0, hi, hz0, hz1, hz2⟩ := info_parts infoByte
 have hl8 := h.1
 have HL := hide h.2
 obtain ⟨a, b, c, d, e, f, g, i, hL, -⟩ := h.open
 have hw8 : wagg l = .agg #[.int .u32 a, .int .u32 b, .int .u32 c, .int .u32 d, .int .u32 e, .int .u32 f, .int .u32 g, .int .u32 i] := by rw [hL]; rfl
 rw [hw8]
 have EL := hide hL
 clear h hw8 hL
 go_enter Tryz.func107, Tryz.ntmps107
 go_wp2_with (at_make; refine wpList_make_own _ rfl _ _ 191 rfl (w.heap.size + 1) 5 i0 (.int .u8 0) 1 Tryz.underlying191 hi hz0 hz1 .i64 .i64 _ 32 rfl rfl rfl (by rw [hz2]; omega) (by unfold maxLen; omega) (by simp) ?_)
 intro w1 hown hgrow
 have hv0 := v_new w l #[.int .u32 a, .int .u32 b, .int .u32 c, .int .u32 d, .int .u32 e, .int .u32 f, .int .u32 g, .int .u32 i] 133 (by rw [EL.out]; rfl)
 have hb1 : Below (w.heap.size + 1) (w.alloc (.cells #[.int .u32 a, .int .u32 b, .int .u32 c, .int .u32 d, .int .u32 e, .int .u32 f, .int .u32 g, .int .u32 i] 133)) w1 := (Below.refl _ _).grown hgrow (by simp) (fun k hk => by cases hk)
 have HV := hide (hv0.below hb1 (by omega))
 have HB : Hid (Below w.heap.size w w1) := ((Below.refl _ _).alloc (Nat.le_refl _) _).trans (hb1.mono (by omega))
 have hs1 : w.heap.size + 1 ≤ w1.heap.size := by have := hb1.size; simpa using this
 have HO := hide hown
 clear hown hgrow hv0 hb1 EL
 go_wp2_with (refine wpList_load_words rfl _ _ rfl w.heap.size rfl l _ HV.out.1 Tryz.underlying133 rfl (by rw [hl8]; exact info8) ?_)
 go_loopw [3, 8] (fun out iv wr => ∃ k : Nat, k ≤ 8 ∧ iv = .int .i64 k ∧ Hid (wr.ownsRow (w.heap.size + 1) 5 1 out (bytesOf (l.take k)).length (bcells (bytesOf (l.take k)))) ∧ Below w.heap.size w wr ∧ w.heap.size + 1 ≤ wr.heap.size) (fun _ iv _ => 8 - (intOf iv).toNat)
 case atStart => exact ⟨0, by omega, rfl, HO, HB.out, hs1⟩
 case round =>
  obtain ⟨k, hk, rfl, HR, hbel, hszr⟩ := hrel
  by_cases hlt : (k : Int) < 8
  ·obtain ⟨x, hx⟩ : ∃ x, l[k]? = some x := ⟨_, List.getElem?_eq_getElem (by omega)⟩
   have hix := idx8 l k x hl8 hx
   have hx32 := HL.out x (List.mem_of_getElem? hx)
   have F := hide (bytesOf_take l k x hx)
   have hlen : (bytesOf (l.take k)).length ≤ 1000000 := by rw [bytesOf_len4]; simp; omega
   generalize bytesOf (l.take k) = bk at HR F hlen
   clear hx
   go_wp2_with fail
   refine (appendWord_any _ bk x (w.heap.size + 1) _ hx32 hlen HR.out hszr).mono ?_
   rintro e w2 ⟨v', rfl, hown2, hb2⟩
   rw [← F.out] at hown2
   have HR2 := hide hown2
   have hb3 : Below w.heap.size w w2 := hbel.trans (hb2.mono (by omega))
   have hs3 : w.heap.size + 1 ≤ w2.heap.size := by have := hb2.size; omega
   clear hown2 hb2 HR hbel F hix
   go_wp2
   go_roundw
   case rel => exact ⟨k + 1, by omega, by go_num, HR2, hb3, hs3⟩
   case measure => simp [intOf]; omega
  ·have e8 : k = 8 := by omega
   subst e8
   have hcv : (convert 191 9 u3).run Tryz.prog wr = .ok (.string ⟨(bytesOf l).toArray⟩) wr := by
    have := HR.out
    rw [List.take_of_length_le (by omega)] at this
    exact conv_own wr _ _ this
   clear HR HL
   obtain ⟨r, hr⟩ : ∃ r, bytesOf l = r := ⟨_, rfl⟩
   rw [hr] at hcv
   have HR := hide hr
   clear hr
   go_wp2
   go_ret
   exact ⟨by rw [HR.out]; rfl, hbel⟩
theorem wordAt_any (s : ByteArray) (i : Nat) (w : World) (hs : s.size ≤ maxLen) (hi : i + 4 ≤ s.size) :
 Calls Tryz.prog 164 #[.string s, .int .i64 i] w fun e w' => e = .returned (.int .u32 (word (s.data.toList.drop i) : Nat)) ∧ Below w.heap.size w w' := by
 unfold maxLen at hs
 have f0 := byte_at s i (i : Int) rfl (by omega)
 have f1 := byte_at s (i + 1) ((i : Int) + 1) (by omega) (by omega)
 have f2 := byte_at s (i + 2) ((i : Int) + 2) (by omega) (by omega)
 have f3 := byte_at s (i + 3) ((i : Int) + 3) (by omega) (by omega)
 have E := word_drop s.data.toList i
 have b0 : (s.data.toList.getD i 0).toNat < 256 := UInt8.toNat_lt _
 have b1 : (s.data.toList.getD (i + 1) 0).toNat < 256 := UInt8.toNat_lt _
 have b2 : (s.data.toList.getD (i + 2) 0).toNat < 256 := UInt8.toNat_lt _
 have b3 : (s.data.toList.getD (i + 3) 0).toNat < 256 := UInt8.toNat_lt _
 generalize (s.data.toList.getD i 0).toNat = c0 at *
 generalize (s.data.toList.getD (i + 1) 0).toNat = c1 at *
 generalize (s.data.toList.getD (i + 2) 0).toNat = c2 at *
 generalize (s.data.toList.getD (i + 3) 0).toNat = c3 at *
 rw [← four_or c0 c1 c2 c3 b1 b2 b3] at E
 have g1 : IntKind.i64.wrap ((i : Int) + 1) = (i : Int) + 1 := by rw [IntKind.wrap_i64]; omega
 have g2 : IntKind.i64.wrap ((i : Int) + 2) = (i : Int) + 2 := by rw [IntKind.wrap_i64]; omega
 have g3 : IntKind.i64.wrap ((i : Int) + 3) = (i : Int) + 3 := by rw [IntKind.wrap_i64]; omega
 have k0 : IntKind.u32.wrap (c0 : Int) = c0 := by rw [IntKind.wrap_u32']; omega
 have k1 : IntKind.u32.wrap (c1 : Int) = c1 := by rw [IntKind.wrap_u32']; omega
 have k2 : IntKind.u32.wrap (c2 : Int) = c2 := by rw [IntKind.wrap_u32']; omega
 have k3 : IntKind.u32.wrap (c3 : Int) = c3 := by rw [IntKind.wrap_u32']; omega
 obtain ⟨d0, e0⟩ : ∃ d, d = c0 * 16777216 := ⟨_, rfl⟩
 obtain ⟨d1, e1⟩ : ∃ d, d = c1 * 65536 := ⟨_, rfl⟩
 obtain ⟨d2, e2⟩ : ∃ d, d = c2 * 256 := ⟨_, rfl⟩
 rw [← e0, ← e1, ← e2] at E
 have o1 := u32_or_nat d0 d1 (by omega) (by omega)
 have l1 : d0 ||| d1 < 4294967296 := Nat.or_lt_two_pow (n := 32) (show d0 < 4294967296 by omega) (show d1 < 4294967296 by omega)
 have o2 := u32_or_nat (d0 ||| d1) d2 l1 (by omega)
 have l2 : d0 ||| d1 ||| d2 < 4294967296 := Nat.or_lt_two_pow (n := 32) l1 (show d2 < 4294967296 by omega)
 have o3 := u32_or_nat (d0 ||| d1 ||| d2) c3 l2 (by omega)
 rw [← E] at o3
 clear E
 generalize word (s.data.toList.drop i) = x at o3 ⊢
 generalize d0 ||| d1 ||| d2 = y2 at o2 o3
 generalize d0 ||| d1 = y1 at o1 o2
 have m0 : IntKind.u32.wrap ((c0 : Int) * 16777216) = (d0 : Int) := by rw [IntKind.wrap_u32']; omega
 have m1 : IntKind.u32.wrap ((c1 : Int) * 65536) = (d1 : Int) := by rw [IntKind.wrap_u32']; omega
 have m2 : IntKind.u32.wrap ((c2 : Int) * 256) = (d2 : Int) := by rw [IntKind.wrap_u32']; omega
 clear e0 e1 e2 l1 l2
 go_enter Tryz.func164, Tryz.ntmps164
 go_wp2
 go_quiet (fail)
 go_wp2
 go_ret
 exact ⟨rfl, below_drewN (Below.refl _ _) _⟩
theorem wordAt_int (s : ByteArray) (z : Int) (i : Nat) (hz : z = i) (w : World) (hs : s.size ≤ maxLen) (hi : i + 4 ≤ s.size) :
 Calls Tryz.prog 164 #[.string s, .int .i64 z] w fun e w' => e = .returned (.int .u32 (word (s.data.toList.drop i) : Nat)) ∧ Below w.heap.size w w' := by
 subst hz
 exact wordAt_any s i w hs hi
theorem fill_set (A : List Nat) (n k x : Nat) (hA : A.length = k) (hk : k < n) : (A ++ List.replicate (n - k) 0).set k x = (A ++ [x]) ++ List.replicate (n - (k + 1)) 0 := by
 obtain ⟨d, hd⟩ : ∃ d, n - k = d + 1 := ⟨n - k - 1, by omega⟩
 have hd2 : n - (k + 1) = d := by omega
 rw [hd, hd2, List.set_append_right _ _ (by omega), hA, Nat.sub_self, List.replicate_succ]
 simp
theorem fill_len (A : List Nat) (n k : Nat) (hA : A.length = k) (hk : k ≤ n) : (A ++ List.replicate (n - k) 0).length = n := by
 simp; omega
theorem next_open (L : List Nat) (t : Nat) (ht : L.length = t) (h16 : 16 ≤ t) (hL : ∀ x ∈ L, x < 4294967296) :
 ∃ (a2 a7 a15 a16 x2 x7 x15 x16 s2 s15 y1 y2 y3 : Nat), a2 < t ∧ a7 < t ∧ a15 < t ∧ a16 < t ∧ (t : Int) - 2 = a2 ∧ (t : Int) - 7 = a7 ∧ (t : Int) - 15 = a15 ∧ (t : Int) - 16 = a16 ∧
  L[a2]? = some x2 ∧ L[a7]? = some x7 ∧ L[a15]? = some x15 ∧ L[a16]? = some x16 ∧ x2 < 4294967296 ∧ x15 < 4294967296 ∧
  sig x2 131072 524288 1024 true = s2 ∧ sig x15 128 262144 8 true = s15 ∧ IntKind.u32.wrap ((s2 : Int) + x7) = y1 ∧ IntKind.u32.wrap ((y1 : Int) + s15) = y2 ∧ IntKind.u32.wrap ((y2 : Int) + x16) = y3 ∧ next L = y3 := by
 have g : ∀ k, 2 ≤ k → k ≤ 16 → L[t - k]? = some (L.getD (t - k) 0) ∧ L.getD (t - k) 0 < 4294967296 := by
  intro k h1 h2
  have hlt : t - k < L.length := by omega
  rw [List.getD_eq_getElem?_getD, List.getElem?_eq_getElem hlt]
  exact ⟨rfl, hL _ (List.getElem_mem _)⟩
 refine ⟨t - 2, t - 7, t - 15, t - 16, L.getD (t - 2) 0, L.getD (t - 7) 0, L.getD (t - 15) 0, L.getD (t - 16) 0, _, _,
  (sig (L.getD (t - 2) 0) 131072 524288 1024 true + L.getD (t - 7) 0) % 4294967296,
  ((sig (L.getD (t - 2) 0) 131072 524288 1024 true + L.getD (t - 7) 0) % 4294967296 + sig (L.getD (t - 15) 0) 128 262144 8 true) % 4294967296,
  (((sig (L.getD (t - 2) 0) 131072 524288 1024 true + L.getD (t - 7) 0) % 4294967296 + sig (L.getD (t - 15) 0) 128 262144 8 true) % 4294967296 + L.getD (t - 16) 0) % 4294967296,
  by omega, by omega, by omega, by omega, by omega, by omega, by omega, by omega,
  (g 2 (by omega) (by omega)).1, (g 7 (by omega) (by omega)).1, (g 15 (by omega) (by omega)).1, (g 16 (by omega) (by omega)).1, (g 2 (by omega) (by omega)).2, (g 15 (by omega) (by omega)).2, rfl, rfl, ?_, ?_, ?_, ?_⟩
 ·rw [IntKind.wrap_u32']; omega
 ·rw [IntKind.wrap_u32']; omega
 ·rw [IntKind.wrap_u32']; omega
 ·unfold next
  rw [ht]
  omega
end Go.Proofs.YtcjgjkejhkhknabGreatDoor
