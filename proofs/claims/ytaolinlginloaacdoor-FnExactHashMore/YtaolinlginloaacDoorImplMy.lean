/-
  The walk of impl's HashMore where it takes the text.
-/
import Derived.Test.YtaolinlginloaacDoorImplC
import Derived.Test.YtaolinlginloaacDoorImplMo
namespace Go.Proofs.YtaolinlginloaacDoor
open Go.RowKit
open Dig

theorem LayH.alloc {w0 w : World} {s r : ByteArray} {c : Int} (h : LayH w0 w s r c) (o : Obj) : LayH w0 (w.alloc o) s r c := h.on ((Below.refl _ _).alloc (Nat.le_refl _) _)
theorem LayH.far {w0 w : World} {s r : ByteArray} {c : Int} {g : Nat} (h : LayH w0 w s r c) (hg : w0.heap.size + 2 ≤ g) (vs : List Value) : LayH w0 (w.setCells g 0 vs) s r c := by
  obtain ⟨⟨a0, a1, a2⟩, ⟨b0, b1, b2⟩, ⟨f0, f1, f2⟩, hs, hB⟩ := h
  have e : ∀ k j, k < g → (w.setCells g 0 vs).cell? ⟨k, j, none⟩ = w.cell? ⟨k, j, none⟩ := fun k j hk => World.cell?_setCells_out g vs 0 w ⟨k, j, none⟩ (fun hb _ => by have : k = g := hb; omega)
  refine ⟨⟨by rw [e _ _ (by omega)]; exact a0, by rw [e _ _ (by omega)]; exact a1, by rw [e _ _ (by omega)]; exact a2⟩, ⟨by rw [e _ _ (by omega)]; exact b0, by rw [e _ _ (by omega)]; exact b1, by rw [e _ _ (by omega)]; exact b2⟩, ⟨by rw [World.frozen?_setCells]; exact f0, by rw [World.frozen?_setCells]; exact f1, by rw [World.frozen?_setCells]; exact f2⟩, by rw [setCells_sizeD]; exact hs, below_cellsD (by omega) _ _ _ hB⟩

set_option maxHeartbeats 1000000 in
set_option maxRecDepth 100000 in
theorem implMore_yes (s r t : ByteArray) (n : Nat) (w : World) (hR : HRight s r n) (ht : t.size ≤ 1048576) (hc : (n : Int) + t.size ≤ 1000000000) (hT : StepIn w) :
    Calls Tryd.prog 14 #[.agg #[.string s, .string r, .int .i64 n], .string t] w fun e w' =>
      e = .returned (.agg #[.string ⟨(bytesOf (mixes ((r ++ t).size / 64) (words s.data.toList) (r ++ t).data.toList)).toArray⟩, .string ((r ++ t).extract (64 * ((r ++ t).size / 64)) (r ++ t).size), .int .i64 ((n : Int) + t.size)]) ∧ Below w.heap.size w w' := by
  have d : @decide (HRight s r n) (decH s r n) = true := dcY hR
  obtain ⟨hs32, hr64, -, hn9, -⟩ := hR
  have HT := hide hT
  have hst := words_st s.data.toList (by simpa using hs32)
  have hu : (r ++ t).size = r.size + t.size := ByteArray.size_append
  have CR0 := fun w' => readState_any s w' hs32
  have CB0 := fun w' h => blocks_any (words s.data.toList) (r ++ t) w' hst (by omega) h
  have hM := mixes_st hst ((r ++ t).size / 64) (r ++ t).data.toList
  have CA0 := fun w' => asBytes_anyD _ w' hM
  obtain ⟨U, hU⟩ : ∃ U, r ++ t = U := ⟨_, rfl⟩
  rw [hU] at CB0 CA0 hM hu
  obtain ⟨M, hMM⟩ : ∃ M, mixes (U.size / 64) (words s.data.toList) U.data.toList = M := ⟨_, rfl⟩
  obtain ⟨R, hRR⟩ : ∃ R, U.extract (64 * (U.size / 64)) U.size = R := ⟨_, rfl⟩
  have hRs : R.size ≤ 4000000 := by rw [← hRR]; simp; omega
  rw [hMM] at CB0 CA0 hM
  rw [hRR] at CB0
  obtain ⟨BS, hBS⟩ : ∃ BS : ByteArray, ⟨(bytesOf M).toArray⟩ = BS := ⟨_, rfl⟩
  rw [hBS] at CA0
  have EV : Hid ((.agg #[.string BS, .string R, .int .i64 ((n : Int) + t.size)] : Value) = .agg #[.string ⟨(bytesOf (mixes ((r ++ t).size / 64) (words s.data.toList) (r ++ t).data.toList)).toArray⟩, .string ((r ++ t).extract (64 * ((r ++ t).size / 64)) (r ++ t).size), .int .i64 ((n : Int) + t.size)]) := by
    show _ = _
    rw [hU, hMM, hRR, hBS]
  obtain ⟨W0, hW0⟩ : ∃ W0, words s.data.toList = W0 := ⟨_, rfl⟩
  rw [hW0] at CR0 CB0 hst
  obtain ⟨m0, m1, m2, m3, m4, m5, m6, m7, hm8, -⟩ := hst.open
  obtain ⟨p0, p1, p2, p3, p4, p5, p6, p7, hp8, -⟩ := hM.open
  have hwM : wagg W0 = .agg #[.int .u32 m0, .int .u32 m1, .int .u32 m2, .int .u32 m3, .int .u32 m4, .int .u32 m5, .int .u32 m6, .int .u32 m7] := by rw [hm8]; rfl
  have hwP : wagg M = .agg #[.int .u32 p0, .int .u32 p1, .int .u32 p2, .int .u32 p3, .int .u32 p4, .int .u32 p5, .int .u32 p6, .int .u32 p7] := by rw [hp8]; rfl
  rw [hwM] at CR0 CB0
  rw [hwP] at CB0 CA0
  have CR : Hid (∀ w1, LayH w w1 s r n → Calls Tryd.prog 42 #[.string s] w1 fun e w2 => e = .returned (.agg #[.int .u32 m0, .int .u32 m1, .int .u32 m2, .int .u32 m3, .int .u32 m4, .int .u32 m5, .int .u32 m6, .int .u32 m7]) ∧ (w2.cell? ⟨w.heap.size, 0, none⟩ = some (.string s) ∧ w2.cell? ⟨w.heap.size, 1, none⟩ = some (.string r) ∧ w2.cell? ⟨w.heap.size, 2, none⟩ = some (.int .i64 n)) ∧ Hid (LayH w w2 s r n)) := by
    intro w1 h1
    refine (CR0 w1).mono ?_
    rintro e w2 ⟨rfl, hb⟩
    have h2 := h1.on hb
    exact ⟨rfl, h2.1, h2⟩
  have CB : Hid (∀ w1, LayH w w1 s r n → Calls Tryd.prog 44 #[.agg #[.int .u32 m0, .int .u32 m1, .int .u32 m2, .int .u32 m3, .int .u32 m4, .int .u32 m5, .int .u32 m6, .int .u32 m7], .string U] w1 fun e w2 => e = .returned (.tuple #[.agg #[.int .u32 p0, .int .u32 p1, .int .u32 p2, .int .u32 p3, .int .u32 p4, .int .u32 p5, .int .u32 p6, .int .u32 p7], .string R]) ∧ (w2.cell? ⟨w.heap.size, 0, none⟩ = some (.string s) ∧ w2.cell? ⟨w.heap.size, 1, none⟩ = some (.string r) ∧ w2.cell? ⟨w.heap.size, 2, none⟩ = some (.int .i64 n)) ∧ Hid (LayH w w2 s r n)) := by
    intro w1 h1
    refine (CB0 w1 (HT.out.on h1.2.2.2.2)).mono ?_
    rintro e w2 ⟨rfl, hb⟩
    have h2 := h1.on hb
    exact ⟨rfl, h2.1, h2⟩
  have CRz : Hid (∀ w1 gz, LayH w w1 s r n → VAt w1 gz (List.replicate 8 0) → Calls Tryd.prog 42 #[.string s] w1 fun e w2 => e = .returned (.agg #[.int .u32 m0, .int .u32 m1, .int .u32 m2, .int .u32 m3, .int .u32 m4, .int .u32 m5, .int .u32 m6, .int .u32 m7]) ∧ Hid (LayH w w2 s r n) ∧ Hid (VAt w2 gz (List.replicate 8 0))) := by
    intro w1 gz h1 h2
    refine (CR0 w1).mono ?_
    rintro e w2 ⟨rfl, hb⟩
    exact ⟨rfl, h1.on hb, h2.below hb h2.1.1⟩
  have CBz : Hid (∀ w1 gz, LayH w w1 s r n → VAt w1 gz (List.replicate 8 0) → Calls Tryd.prog 44 #[.agg #[.int .u32 m0, .int .u32 m1, .int .u32 m2, .int .u32 m3, .int .u32 m4, .int .u32 m5, .int .u32 m6, .int .u32 m7], .string U] w1 fun e w2 => e = .returned (.tuple #[.agg #[.int .u32 p0, .int .u32 p1, .int .u32 p2, .int .u32 p3, .int .u32 p4, .int .u32 p5, .int .u32 p6, .int .u32 p7], .string R]) ∧ Hid (LayH w w2 s r n) ∧ Hid (VAt w2 gz (List.replicate 8 0)) ∧ St8 w2 gz 0 0 0 0 0 0 0 0) := by
    intro w1 gz h1 h2
    refine (CB0 w1 (HT.out.on h1.2.2.2.2)).mono ?_
    rintro e w2 ⟨rfl, hb⟩
    have h3 := h2.below hb h2.1.1
    exact ⟨rfl, h1.on hb, h3, st8_of h3⟩
  have CA : Hid (∀ w1 g, LayH w w1 s r n → VAt w1 g [p0, p1, p2, p3, p4, p5, p6, p7] → Calls Tryd.prog 45 #[.agg #[.int .u32 p0, .int .u32 p1, .int .u32 p2, .int .u32 p3, .int .u32 p4, .int .u32 p5, .int .u32 p6, .int .u32 p7]] w1 fun e w2 => e = .returned (.string BS) ∧ Hid ((w2.cell? ⟨w.heap.size, 0, none⟩ = some (.string s) ∧ w2.cell? ⟨w.heap.size, 1, none⟩ = some (.string r) ∧ w2.cell? ⟨w.heap.size, 2, none⟩ = some (.int .i64 n)) ∧ w2.cell? ⟨g, 0, none⟩ = some (.int .u32 p0) ∧ w2.cell? ⟨g, 1, none⟩ = some (.int .u32 p1) ∧ w2.cell? ⟨g, 2, none⟩ = some (.int .u32 p2) ∧ w2.cell? ⟨g, 3, none⟩ = some (.int .u32 p3) ∧ w2.cell? ⟨g, 4, none⟩ = some (.int .u32 p4) ∧ w2.cell? ⟨g, 5, none⟩ = some (.int .u32 p5) ∧ w2.cell? ⟨g, 6, none⟩ = some (.int .u32 p6) ∧ w2.cell? ⟨g, 7, none⟩ = some (.int .u32 p7)) ∧ Hid (LayH w w2 s r n) ∧ Hid (VAt w2 g [p0, p1, p2, p3, p4, p5, p6, p7])) := by
    intro w1 g h1 h2
    refine (CA0 w1).mono ?_
    rintro e w2 ⟨rfl, hb⟩
    have h3 := h1.on hb
    have h4 := h2.below hb h2.1.1
    exact ⟨rfl, ⟨h3.1, (st8_of h4).1⟩, h3, h4⟩
  have CC : Hid (∀ w1 g, LayH w w1 s r n → VAt w1 g [p0, p1, p2, p3, p4, p5, p6, p7] → w.heap.size + 2 ≤ g → Calls Tryd.prog 46 #[.string R] w1 fun e w2 => e = .returned (.string R) ∧ Hid ((w2.cell? ⟨w.heap.size, 0, none⟩ = some (.string s) ∧ w2.cell? ⟨w.heap.size, 1, none⟩ = some (.string r) ∧ w2.cell? ⟨w.heap.size, 2, none⟩ = some (.int .i64 n)) ∧ w2.cell? ⟨g, 0, none⟩ = some (.int .u32 p0) ∧ w2.cell? ⟨g, 1, none⟩ = some (.int .u32 p1) ∧ w2.cell? ⟨g, 2, none⟩ = some (.int .u32 p2) ∧ w2.cell? ⟨g, 3, none⟩ = some (.int .u32 p3) ∧ w2.cell? ⟨g, 4, none⟩ = some (.int .u32 p4) ∧ w2.cell? ⟨g, 5, none⟩ = some (.int .u32 p5) ∧ w2.cell? ⟨g, 6, none⟩ = some (.int .u32 p6) ∧ w2.cell? ⟨g, 7, none⟩ = some (.int .u32 p7)) ∧ Hid (((((w2.setCell ⟨w.heap.size + 1, 0, none⟩ (.string BS)).setCell ⟨w.heap.size + 1, 1, none⟩ (.string R)).setCell ⟨w.heap.size + 1, 2, none⟩ (.int .i64 ((n : Int) + t.size))).cell? ⟨w.heap.size, 0, none⟩ = some (.string s) ∧ (((w2.setCell ⟨w.heap.size + 1, 0, none⟩ (.string BS)).setCell ⟨w.heap.size + 1, 1, none⟩ (.string R)).setCell ⟨w.heap.size + 1, 2, none⟩ (.int .i64 ((n : Int) + t.size))).cell? ⟨w.heap.size, 1, none⟩ = some (.string r) ∧ (((w2.setCell ⟨w.heap.size + 1, 0, none⟩ (.string BS)).setCell ⟨w.heap.size + 1, 1, none⟩ (.string R)).setCell ⟨w.heap.size + 1, 2, none⟩ (.int .i64 ((n : Int) + t.size))).cell? ⟨w.heap.size, 2, none⟩ = some (.int .i64 n)) ∧ (((w2.setCell ⟨w.heap.size + 1, 0, none⟩ (.string BS)).setCell ⟨w.heap.size + 1, 1, none⟩ (.string R)).setCell ⟨w.heap.size + 1, 2, none⟩ (.int .i64 ((n : Int) + t.size))).cell? ⟨g, 0, none⟩ = some (.int .u32 p0) ∧ (((w2.setCell ⟨w.heap.size + 1, 0, none⟩ (.string BS)).setCell ⟨w.heap.size + 1, 1, none⟩ (.string R)).setCell ⟨w.heap.size + 1, 2, none⟩ (.int .i64 ((n : Int) + t.size))).cell? ⟨g, 1, none⟩ = some (.int .u32 p1) ∧ (((w2.setCell ⟨w.heap.size + 1, 0, none⟩ (.string BS)).setCell ⟨w.heap.size + 1, 1, none⟩ (.string R)).setCell ⟨w.heap.size + 1, 2, none⟩ (.int .i64 ((n : Int) + t.size))).cell? ⟨g, 2, none⟩ = some (.int .u32 p2) ∧ (((w2.setCell ⟨w.heap.size + 1, 0, none⟩ (.string BS)).setCell ⟨w.heap.size + 1, 1, none⟩ (.string R)).setCell ⟨w.heap.size + 1, 2, none⟩ (.int .i64 ((n : Int) + t.size))).cell? ⟨g, 3, none⟩ = some (.int .u32 p3) ∧ (((w2.setCell ⟨w.heap.size + 1, 0, none⟩ (.string BS)).setCell ⟨w.heap.size + 1, 1, none⟩ (.string R)).setCell ⟨w.heap.size + 1, 2, none⟩ (.int .i64 ((n : Int) + t.size))).cell? ⟨g, 4, none⟩ = some (.int .u32 p4) ∧ (((w2.setCell ⟨w.heap.size + 1, 0, none⟩ (.string BS)).setCell ⟨w.heap.size + 1, 1, none⟩ (.string R)).setCell ⟨w.heap.size + 1, 2, none⟩ (.int .i64 ((n : Int) + t.size))).cell? ⟨g, 5, none⟩ = some (.int .u32 p5) ∧ (((w2.setCell ⟨w.heap.size + 1, 0, none⟩ (.string BS)).setCell ⟨w.heap.size + 1, 1, none⟩ (.string R)).setCell ⟨w.heap.size + 1, 2, none⟩ (.int .i64 ((n : Int) + t.size))).cell? ⟨g, 6, none⟩ = some (.int .u32 p6) ∧ (((w2.setCell ⟨w.heap.size + 1, 0, none⟩ (.string BS)).setCell ⟨w.heap.size + 1, 1, none⟩ (.string R)).setCell ⟨w.heap.size + 1, 2, none⟩ (.int .i64 ((n : Int) + t.size))).cell? ⟨g, 7, none⟩ = some (.int .u32 p7)) ∧
      (w2.cell? ⟨w.heap.size + 1, 0, none⟩ = some (.string ⟨#[]⟩) ∧ w2.cell? ⟨w.heap.size + 1, 1, none⟩ = some (.string ⟨#[]⟩) ∧ w2.cell? ⟨w.heap.size + 1, 2, none⟩ = some (.int .i64 0)) ∧ (w2.frozen? ⟨w.heap.size + 1, 0, none⟩ = false ∧ w2.frozen? ⟨w.heap.size + 1, 1, none⟩ = false ∧ w2.frozen? ⟨w.heap.size + 1, 2, none⟩ = false) ∧ Hid (LayH w w2 s r n)) := by
    intro w1 g h1 h2 hg
    refine (clone_any R w1 hRs).mono ?_
    rintro e w2 ⟨rfl, hb⟩
    have h3 := h1.on hb
    have h4 := h2.below hb h2.1.1
    have o : ∀ (W : World) (i k j : Nat) (u : Value), k ≠ w.heap.size + 1 → (W.setCell ⟨w.heap.size + 1, i, none⟩ u).cell? ⟨k, j, none⟩ = W.cell? ⟨k, j, none⟩ := fun W i k j u hk => World.cell?_setCell_other _ _ _ _ (fun e => hk (by injection e with e1 e2; exact e1.symm))
    have q : ∀ (k j : Nat), k ≠ w.heap.size + 1 → (((w2.setCell ⟨w.heap.size + 1, 0, none⟩ (.string BS)).setCell ⟨w.heap.size + 1, 1, none⟩ (.string R)).setCell ⟨w.heap.size + 1, 2, none⟩ (.int .i64 ((n : Int) + t.size))).cell? ⟨k, j, none⟩ = w2.cell? ⟨k, j, none⟩ := fun k j hk => by rw [o _ _ _ _ _ hk, o _ _ _ _ _ hk, o _ _ _ _ _ hk]
    obtain ⟨a0, a1, a2⟩ := h3.1
    obtain ⟨⟨b0, b1, b2, b3, b4, b5, b6, b7⟩, -⟩ := st8_of h4
    exact ⟨rfl, ⟨h3.1, (st8_of h4).1⟩, ⟨⟨by rw [q _ _ (by omega)]; exact a0, by rw [q _ _ (by omega)]; exact a1, by rw [q _ _ (by omega)]; exact a2⟩, by rw [q _ _ (by omega)]; exact b0, by rw [q _ _ (by omega)]; exact b1, by rw [q _ _ (by omega)]; exact b2, by rw [q _ _ (by omega)]; exact b3, by rw [q _ _ (by omega)]; exact b4, by rw [q _ _ (by omega)]; exact b5, by rw [q _ _ (by omega)]; exact b6, by rw [q _ _ (by omega)]; exact b7⟩, h3.2.1, h3.2.2.1, h3⟩
  have hadd : ∀ W, (Go.Op.stringOp .add r t).run Tryd.prog W = .ok (.string U) W := by
    intro W
    unfold Go.Op.stringOp
    simp only []
    rw [if_neg (by show ¬ _ > (9223372036854775807 : Int); omega), hU]
    rfl
  clear hT hst hM CR0 CB0 CA0 hMM hRR hBS hW0 hm8 hp8 hwM hwP HT hU
  go_enter Tryd.func14, Tryd.ntmps14
  go_wp2_with fail
  refine (implOk_any s r n _ (by unfold maxLen; omega)).mono ?_
  rintro e w1 ⟨rfl, hb⟩
  rw [d]
  have hL := lay_ok hb
  obtain ⟨c0, c1, c2⟩ := hL.1
  have HL := hide hL.drew
  have HL1 := hide hL
  clear hb hL d
  have tt : ¬ (1000000000 : Int) - n < t.size := by omega
  have hs1 := HL.out.2.2.2.1
  have hw1 : w.heap.size + 2 ≤ w1.heap.size := hs1
  have VZ1 : Hid (VAt (w1.alloc (.cells #[.int .u32 0, .int .u32 0, .int .u32 0, .int .u32 0, .int .u32 0, .int .u32 0, .int .u32 0, .int .u32 0] 71)).drew w1.heap.size (List.replicate 8 0)) := v_new w1 (List.replicate 8 0) _ _ rfl
  have VZ : Hid (∀ W : World, VAt (W.alloc (.cells #[.int .u32 0, .int .u32 0, .int .u32 0, .int .u32 0, .int .u32 0, .int .u32 0, .int .u32 0, .int .u32 0] 71)) W.heap.size (List.replicate 8 0)) := fun W => v_new W (List.replicate 8 0) _ _ rfl
  have K0 := hide HL.out.1
  have HLa := hide (HL1.out.alloc (.cells #[.int .u32 0, .int .u32 0, .int .u32 0, .int .u32 0, .int .u32 0, .int .u32 0, .int .u32 0, .int .u32 0] 71)).drew
  have KA := hide HLa.out.1
  have hru : (r.size : Int) + t.size ≤ 2000000 := by omega
  have hru2 : r.size + t.size ≤ 2000000 := by omega
  go_wp2
  go_region_held3 (fun w' => w'.cell? ⟨w.heap.size, 0, none⟩ = some (.string s) ∧ w'.cell? ⟨w.heap.size, 1, none⟩ = some (.string r) ∧ w'.cell? ⟨w.heap.size, 2, none⟩ = some (.int .i64 n)) (first | (with_reducible exact K3.out) | (with_reducible exact K2.out) | (with_reducible exact HK3.out) | (with_reducible exact KB3.out) | (with_reducible exact KA3.out) | (with_reducible exact KA2.out) | (with_reducible exact KA.out) | (with_reducible exact K0.out)) (first
    | (go_at_call 42; have hh := CR.out _ HL.out; (with_reducible refine Calls.mono hh ?_); rintro en w2 ⟨rfl, ⟨a0, a1, a2⟩, HL2⟩; have hw2 := HL2.out.2.2.2.1; have K2 := hide HL2.out.1; have KA2 := hide (HL2.out.alloc (.cells #[.int .u32 0, .int .u32 0, .int .u32 0, .int .u32 0, .int .u32 0, .int .u32 0, .int .u32 0, .int .u32 0] 71)).1; clear hh)
    | (go_at_call 42; have hh := CRz.out _ w1.heap.size HLa.out VZ1.out; (with_reducible refine Calls.mono hh ?_); rintro en w2 ⟨rfl, HL2, HVz⟩; have hw2 := HL2.out.2.2.2.1; have K2 := hide HL2.out.1; have KA2 := hide (HL2.out.alloc (.cells #[.int .u32 0, .int .u32 0, .int .u32 0, .int .u32 0, .int .u32 0, .int .u32 0, .int .u32 0, .int .u32 0] 71)).1; clear hh)
    | (go_at_call 44; have hh := CBz.out _ w1.heap.size HL2.out HVz.out; (with_reducible refine Calls.mono hh ?_); rintro en w3 ⟨rfl, HL3, HV3, ⟨⟨z0, z1, z2, z3, z4, z5, z6, z7⟩, ⟨y0, y1, y2, y3, y4, y5, y6, y7⟩⟩⟩; have K3 := hide HL3.out.1; have HK3 : Hid (((((((((w3.setCell ⟨w1.heap.size, 0, none⟩ (.int .u32 p0)).setCell ⟨w1.heap.size, 1, none⟩ (.int .u32 p1)).setCell ⟨w1.heap.size, 2, none⟩ (.int .u32 p2)).setCell ⟨w1.heap.size, 3, none⟩ (.int .u32 p3)).setCell ⟨w1.heap.size, 4, none⟩ (.int .u32 p4)).setCell ⟨w1.heap.size, 5, none⟩ (.int .u32 p5)).setCell ⟨w1.heap.size, 6, none⟩ (.int .u32 p6)).setCell ⟨w1.heap.size, 7, none⟩ (.int .u32 p7)).cell? ⟨w.heap.size, 0, none⟩ = some (.string s) ∧ ((((((((w3.setCell ⟨w1.heap.size, 0, none⟩ (.int .u32 p0)).setCell ⟨w1.heap.size, 1, none⟩ (.int .u32 p1)).setCell ⟨w1.heap.size, 2, none⟩ (.int .u32 p2)).setCell ⟨w1.heap.size, 3, none⟩ (.int .u32 p3)).setCell ⟨w1.heap.size, 4, none⟩ (.int .u32 p4)).setCell ⟨w1.heap.size, 5, none⟩ (.int .u32 p5)).setCell ⟨w1.heap.size, 6, none⟩ (.int .u32 p6)).setCell ⟨w1.heap.size, 7, none⟩ (.int .u32 p7)).cell? ⟨w.heap.size, 1, none⟩ = some (.string r) ∧ ((((((((w3.setCell ⟨w1.heap.size, 0, none⟩ (.int .u32 p0)).setCell ⟨w1.heap.size, 1, none⟩ (.int .u32 p1)).setCell ⟨w1.heap.size, 2, none⟩ (.int .u32 p2)).setCell ⟨w1.heap.size, 3, none⟩ (.int .u32 p3)).setCell ⟨w1.heap.size, 4, none⟩ (.int .u32 p4)).setCell ⟨w1.heap.size, 5, none⟩ (.int .u32 p5)).setCell ⟨w1.heap.size, 6, none⟩ (.int .u32 p6)).setCell ⟨w1.heap.size, 7, none⟩ (.int .u32 p7)).cell? ⟨w.heap.size, 2, none⟩ = some (.int .i64 n)) := (HL3.out.far hw1 (wcells [p0, p1, p2, p3, p4, p5, p6, p7])).1; clear hh)
    | (go_at_call 44; have hh := CB.out _ HL2.out; (with_reducible refine Calls.mono hh ?_); rintro en w3 ⟨rfl, ⟨b0, b1, b2⟩, HL3⟩; have K3 := hide HL3.out.1; have KA3 := hide (HL3.out.alloc (.cells #[.int .u32 0, .int .u32 0, .int .u32 0, .int .u32 0, .int .u32 0, .int .u32 0, .int .u32 0, .int .u32 0] 71)).1; have KB3 := hide (HL3.out.alloc (.cells #[.int .u32 p0, .int .u32 p1, .int .u32 p2, .int .u32 p3, .int .u32 p4, .int .u32 p5, .int .u32 p6, .int .u32 p7] 71)).1; clear hh)
    | (go_at_call 44; have hh := CBz.out _ w2.heap.size (HL2.out.alloc _) (VZ.out w2); (with_reducible refine Calls.mono hh ?_); rintro en w3 ⟨rfl, HL3, HV3, ⟨⟨z0, z1, z2, z3, z4, z5, z6, z7⟩, ⟨y0, y1, y2, y3, y4, y5, y6, y7⟩⟩⟩; have K3 := hide HL3.out.1; have HK3 : Hid (((((((((w3.setCell ⟨w2.heap.size, 0, none⟩ (.int .u32 p0)).setCell ⟨w2.heap.size, 1, none⟩ (.int .u32 p1)).setCell ⟨w2.heap.size, 2, none⟩ (.int .u32 p2)).setCell ⟨w2.heap.size, 3, none⟩ (.int .u32 p3)).setCell ⟨w2.heap.size, 4, none⟩ (.int .u32 p4)).setCell ⟨w2.heap.size, 5, none⟩ (.int .u32 p5)).setCell ⟨w2.heap.size, 6, none⟩ (.int .u32 p6)).setCell ⟨w2.heap.size, 7, none⟩ (.int .u32 p7)).cell? ⟨w.heap.size, 0, none⟩ = some (.string s) ∧ ((((((((w3.setCell ⟨w2.heap.size, 0, none⟩ (.int .u32 p0)).setCell ⟨w2.heap.size, 1, none⟩ (.int .u32 p1)).setCell ⟨w2.heap.size, 2, none⟩ (.int .u32 p2)).setCell ⟨w2.heap.size, 3, none⟩ (.int .u32 p3)).setCell ⟨w2.heap.size, 4, none⟩ (.int .u32 p4)).setCell ⟨w2.heap.size, 5, none⟩ (.int .u32 p5)).setCell ⟨w2.heap.size, 6, none⟩ (.int .u32 p6)).setCell ⟨w2.heap.size, 7, none⟩ (.int .u32 p7)).cell? ⟨w.heap.size, 1, none⟩ = some (.string r) ∧ ((((((((w3.setCell ⟨w2.heap.size, 0, none⟩ (.int .u32 p0)).setCell ⟨w2.heap.size, 1, none⟩ (.int .u32 p1)).setCell ⟨w2.heap.size, 2, none⟩ (.int .u32 p2)).setCell ⟨w2.heap.size, 3, none⟩ (.int .u32 p3)).setCell ⟨w2.heap.size, 4, none⟩ (.int .u32 p4)).setCell ⟨w2.heap.size, 5, none⟩ (.int .u32 p5)).setCell ⟨w2.heap.size, 6, none⟩ (.int .u32 p6)).setCell ⟨w2.heap.size, 7, none⟩ (.int .u32 p7)).cell? ⟨w.heap.size, 2, none⟩ = some (.int .i64 n)) := (HL3.out.far hw2 (wcells [p0, p1, p2, p3, p4, p5, p6, p7])).1; clear hh))
  · have hV := v_new w3 [p0, p1, p2, p3, p4, p5, p6, p7] #[.int .u32 p0, .int .u32 p1, .int .u32 p2, .int .u32 p3, .int .u32 p4, .int .u32 p5, .int .u32 p6, .int .u32 p7] 71 rfl
    have hLx := HL3.out.alloc (.cells #[.int .u32 p0, .int .u32 p1, .int .u32 p2, .int .u32 p3, .int .u32 p4, .int .u32 p5, .int .u32 p6, .int .u32 p7] 71)
    have hgx := HL3.out.2.2.2.1
    clear KB3 KA3 K3 K2 KA2 KA b0 b1 b2 a0 a1 a2 c0 c1 c2 HL HLa VZ1 VZ CR CB CRz CBz HL2 K0 HL1 hadd
    generalize w3.alloc (.cells #[.int .u32 p0, .int .u32 p1, .int .u32 p2, .int .u32 p3, .int .u32 p4, .int .u32 p5, .int .u32 p6, .int .u32 p7] 71) = wX at hV hLx ⊢
    clear HL3
    generalize w3.heap.size = gX at hV hgx ⊢
    have K0 : Hid ((wX.drew.cell? ⟨w.heap.size, 0, none⟩ = some (.string s) ∧ wX.drew.cell? ⟨w.heap.size, 1, none⟩ = some (.string r) ∧ wX.drew.cell? ⟨w.heap.size, 2, none⟩ = some (.int .i64 n)) ∧ wX.drew.cell? ⟨gX, 0, none⟩ = some (.int .u32 p0) ∧ wX.drew.cell? ⟨gX, 1, none⟩ = some (.int .u32 p1) ∧ wX.drew.cell? ⟨gX, 2, none⟩ = some (.int .u32 p2) ∧ wX.drew.cell? ⟨gX, 3, none⟩ = some (.int .u32 p3) ∧ wX.drew.cell? ⟨gX, 4, none⟩ = some (.int .u32 p4) ∧ wX.drew.cell? ⟨gX, 5, none⟩ = some (.int .u32 p5) ∧ wX.drew.cell? ⟨gX, 6, none⟩ = some (.int .u32 p6) ∧ wX.drew.cell? ⟨gX, 7, none⟩ = some (.int .u32 p7)) := ⟨hLx.1, (st8_of hV).1⟩
    obtain ⟨c0, c1, c2⟩ := hLx.1
    obtain ⟨v0, v1, v2, v3, v4, v5, v6, v7⟩ := (st8_of hV).1
    have HLx := hide hLx.drew
    have HVx : Hid (VAt wX.drew gX [p0, p1, p2, p3, p4, p5, p6, p7]) := hV
    have hwp : IntKind.i64.wrap ((n : Int) + t.size) = (n : Int) + t.size := by rw [IntKind.wrap_i64]; omega
    clear hV hLx
    go_wp2
    go_region_held3 (fun w' => (w'.cell? ⟨w.heap.size, 0, none⟩ = some (.string s) ∧ w'.cell? ⟨w.heap.size, 1, none⟩ = some (.string r) ∧ w'.cell? ⟨w.heap.size, 2, none⟩ = some (.int .i64 n)) ∧ w'.cell? ⟨gX, 0, none⟩ = some (.int .u32 p0) ∧ w'.cell? ⟨gX, 1, none⟩ = some (.int .u32 p1) ∧ w'.cell? ⟨gX, 2, none⟩ = some (.int .u32 p2) ∧ w'.cell? ⟨gX, 3, none⟩ = some (.int .u32 p3) ∧ w'.cell? ⟨gX, 4, none⟩ = some (.int .u32 p4) ∧ w'.cell? ⟨gX, 5, none⟩ = some (.int .u32 p5) ∧ w'.cell? ⟨gX, 6, none⟩ = some (.int .u32 p6) ∧ w'.cell? ⟨gX, 7, none⟩ = some (.int .u32 p7)) (first | (with_reducible exact K6.out) | (with_reducible exact K5.out) | (with_reducible exact K4.out) | (with_reducible exact K0.out)) (first
      | (go_at_call 45; have hh := CA.out _ gX HLx.out HVx.out; (with_reducible refine Calls.mono hh ?_); rintro en w4 ⟨rfl, K4, HL4, HV4⟩; clear hh)
      | (go_at_call 46; have hh := CC.out _ gX HL4.out HV4.out hgx; (with_reducible refine Calls.mono hh ?_); rintro en w5 ⟨rfl, K5, K6, ⟨r0, r1, r2⟩, ⟨f0, f1, f2⟩, HL5⟩; clear hh))
    obtain ⟨q, hq⟩ := HL5.out.put (.string BS) (.string R) (.int .i64 ((n : Int) + t.size))
    have HB := hide hq
    have HQ := hide q
    clear q hq r0 r1 r2 f0 f1 f2 HL5 K5 K6 K4 K0 HL4 HV4 HLx HVx CA CC c0 c1 c2 v0 v1 v2 v3 v4 v5 v6 v7
    generalize ((w5.setCell ⟨w.heap.size + 1, 0, none⟩ (.string BS)).setCell ⟨w.heap.size + 1, 1, none⟩ (.string R)).setCell ⟨w.heap.size + 1, 2, none⟩ (.int .i64 ((n : Int) + t.size)) = w6 at HQ HB ⊢
    go_wp2
    obtain ⟨q0, q1, q2⟩ := HQ.out
    exact bodyPost_ret (v := .agg #[.string BS, .string R, .int .i64 ((n : Int) + t.size)]) (by simp [results, Tryd.results14, go_sem, q0, q1, q2]) rfl ⟨by rw [EV.out], HB.out⟩
  · have hV : VAt ((((((((w3.setCell ⟨w2.heap.size, 0, none⟩ (.int .u32 p0)).setCell ⟨w2.heap.size, 1, none⟩ (.int .u32 p1)).setCell ⟨w2.heap.size, 2, none⟩ (.int .u32 p2)).setCell ⟨w2.heap.size, 3, none⟩ (.int .u32 p3)).setCell ⟨w2.heap.size, 4, none⟩ (.int .u32 p4)).setCell ⟨w2.heap.size, 5, none⟩ (.int .u32 p5)).setCell ⟨w2.heap.size, 6, none⟩ (.int .u32 p6)).setCell ⟨w2.heap.size, 7, none⟩ (.int .u32 p7)) w2.heap.size [p0, p1, p2, p3, p4, p5, p6, p7] := store8 HV3.out rfl
    have hLx : LayH w ((((((((w3.setCell ⟨w2.heap.size, 0, none⟩ (.int .u32 p0)).setCell ⟨w2.heap.size, 1, none⟩ (.int .u32 p1)).setCell ⟨w2.heap.size, 2, none⟩ (.int .u32 p2)).setCell ⟨w2.heap.size, 3, none⟩ (.int .u32 p3)).setCell ⟨w2.heap.size, 4, none⟩ (.int .u32 p4)).setCell ⟨w2.heap.size, 5, none⟩ (.int .u32 p5)).setCell ⟨w2.heap.size, 6, none⟩ (.int .u32 p6)).setCell ⟨w2.heap.size, 7, none⟩ (.int .u32 p7)) s r n := HL3.out.far hw2 (wcells [p0, p1, p2, p3, p4, p5, p6, p7])
    have hgx := hw2
    clear HK3 K3 K2 KA2 KA a0 a1 a2 c0 c1 c2 HL HLa VZ1 VZ CR CB CRz CBz HL2 K0 HL1 HV3 z0 z1 z2 z3 z4 z5 z6 z7 y0 y1 y2 y3 y4 y5 y6 y7 HL3 hadd
    generalize ((((((((w3.setCell ⟨w2.heap.size, 0, none⟩ (.int .u32 p0)).setCell ⟨w2.heap.size, 1, none⟩ (.int .u32 p1)).setCell ⟨w2.heap.size, 2, none⟩ (.int .u32 p2)).setCell ⟨w2.heap.size, 3, none⟩ (.int .u32 p3)).setCell ⟨w2.heap.size, 4, none⟩ (.int .u32 p4)).setCell ⟨w2.heap.size, 5, none⟩ (.int .u32 p5)).setCell ⟨w2.heap.size, 6, none⟩ (.int .u32 p6)).setCell ⟨w2.heap.size, 7, none⟩ (.int .u32 p7)) = wX at hV hLx ⊢
    generalize w2.heap.size = gX at hV hgx ⊢
    have K0 : Hid ((wX.drew.cell? ⟨w.heap.size, 0, none⟩ = some (.string s) ∧ wX.drew.cell? ⟨w.heap.size, 1, none⟩ = some (.string r) ∧ wX.drew.cell? ⟨w.heap.size, 2, none⟩ = some (.int .i64 n)) ∧ wX.drew.cell? ⟨gX, 0, none⟩ = some (.int .u32 p0) ∧ wX.drew.cell? ⟨gX, 1, none⟩ = some (.int .u32 p1) ∧ wX.drew.cell? ⟨gX, 2, none⟩ = some (.int .u32 p2) ∧ wX.drew.cell? ⟨gX, 3, none⟩ = some (.int .u32 p3) ∧ wX.drew.cell? ⟨gX, 4, none⟩ = some (.int .u32 p4) ∧ wX.drew.cell? ⟨gX, 5, none⟩ = some (.int .u32 p5) ∧ wX.drew.cell? ⟨gX, 6, none⟩ = some (.int .u32 p6) ∧ wX.drew.cell? ⟨gX, 7, none⟩ = some (.int .u32 p7)) := ⟨hLx.1, (st8_of hV).1⟩
    obtain ⟨c0, c1, c2⟩ := hLx.1
    obtain ⟨v0, v1, v2, v3, v4, v5, v6, v7⟩ := (st8_of hV).1
    have HLx := hide hLx.drew
    have HVx : Hid (VAt wX.drew gX [p0, p1, p2, p3, p4, p5, p6, p7]) := hV
    have hwp : IntKind.i64.wrap ((n : Int) + t.size) = (n : Int) + t.size := by rw [IntKind.wrap_i64]; omega
    clear hV hLx
    go_wp2
    go_region_held3 (fun w' => (w'.cell? ⟨w.heap.size, 0, none⟩ = some (.string s) ∧ w'.cell? ⟨w.heap.size, 1, none⟩ = some (.string r) ∧ w'.cell? ⟨w.heap.size, 2, none⟩ = some (.int .i64 n)) ∧ w'.cell? ⟨gX, 0, none⟩ = some (.int .u32 p0) ∧ w'.cell? ⟨gX, 1, none⟩ = some (.int .u32 p1) ∧ w'.cell? ⟨gX, 2, none⟩ = some (.int .u32 p2) ∧ w'.cell? ⟨gX, 3, none⟩ = some (.int .u32 p3) ∧ w'.cell? ⟨gX, 4, none⟩ = some (.int .u32 p4) ∧ w'.cell? ⟨gX, 5, none⟩ = some (.int .u32 p5) ∧ w'.cell? ⟨gX, 6, none⟩ = some (.int .u32 p6) ∧ w'.cell? ⟨gX, 7, none⟩ = some (.int .u32 p7)) (first | (with_reducible exact K6.out) | (with_reducible exact K5.out) | (with_reducible exact K4.out) | (with_reducible exact K0.out)) (first
      | (go_at_call 45; have hh := CA.out _ gX HLx.out HVx.out; (with_reducible refine Calls.mono hh ?_); rintro en w4 ⟨rfl, K4, HL4, HV4⟩; clear hh)
      | (go_at_call 46; have hh := CC.out _ gX HL4.out HV4.out hgx; (with_reducible refine Calls.mono hh ?_); rintro en w5 ⟨rfl, K5, K6, ⟨r0, r1, r2⟩, ⟨f0, f1, f2⟩, HL5⟩; clear hh))
    obtain ⟨q, hq⟩ := HL5.out.put (.string BS) (.string R) (.int .i64 ((n : Int) + t.size))
    have HB := hide hq
    have HQ := hide q
    clear q hq r0 r1 r2 f0 f1 f2 HL5 K5 K6 K4 K0 HL4 HV4 HLx HVx CA CC c0 c1 c2 v0 v1 v2 v3 v4 v5 v6 v7
    generalize ((w5.setCell ⟨w.heap.size + 1, 0, none⟩ (.string BS)).setCell ⟨w.heap.size + 1, 1, none⟩ (.string R)).setCell ⟨w.heap.size + 1, 2, none⟩ (.int .i64 ((n : Int) + t.size)) = w6 at HQ HB ⊢
    go_wp2
    obtain ⟨q0, q1, q2⟩ := HQ.out
    exact bodyPost_ret (v := .agg #[.string BS, .string R, .int .i64 ((n : Int) + t.size)]) (by simp [results, Tryd.results14, go_sem, q0, q1, q2]) rfl ⟨by rw [EV.out], HB.out⟩
  · have hV : VAt ((((((((w3.setCell ⟨w1.heap.size, 0, none⟩ (.int .u32 p0)).setCell ⟨w1.heap.size, 1, none⟩ (.int .u32 p1)).setCell ⟨w1.heap.size, 2, none⟩ (.int .u32 p2)).setCell ⟨w1.heap.size, 3, none⟩ (.int .u32 p3)).setCell ⟨w1.heap.size, 4, none⟩ (.int .u32 p4)).setCell ⟨w1.heap.size, 5, none⟩ (.int .u32 p5)).setCell ⟨w1.heap.size, 6, none⟩ (.int .u32 p6)).setCell ⟨w1.heap.size, 7, none⟩ (.int .u32 p7)) w1.heap.size [p0, p1, p2, p3, p4, p5, p6, p7] := store8 HV3.out rfl
    have hLx : LayH w ((((((((w3.setCell ⟨w1.heap.size, 0, none⟩ (.int .u32 p0)).setCell ⟨w1.heap.size, 1, none⟩ (.int .u32 p1)).setCell ⟨w1.heap.size, 2, none⟩ (.int .u32 p2)).setCell ⟨w1.heap.size, 3, none⟩ (.int .u32 p3)).setCell ⟨w1.heap.size, 4, none⟩ (.int .u32 p4)).setCell ⟨w1.heap.size, 5, none⟩ (.int .u32 p5)).setCell ⟨w1.heap.size, 6, none⟩ (.int .u32 p6)).setCell ⟨w1.heap.size, 7, none⟩ (.int .u32 p7)) s r n := HL3.out.far hw1 (wcells [p0, p1, p2, p3, p4, p5, p6, p7])
    have hgx := hw1
    clear HK3 K3 K2 KA2 KA HVz c0 c1 c2 HL HLa VZ1 VZ CR CB CRz CBz HL2 K0 HL1 HV3 z0 z1 z2 z3 z4 z5 z6 z7 y0 y1 y2 y3 y4 y5 y6 y7 HL3 hadd
    generalize ((((((((w3.setCell ⟨w1.heap.size, 0, none⟩ (.int .u32 p0)).setCell ⟨w1.heap.size, 1, none⟩ (.int .u32 p1)).setCell ⟨w1.heap.size, 2, none⟩ (.int .u32 p2)).setCell ⟨w1.heap.size, 3, none⟩ (.int .u32 p3)).setCell ⟨w1.heap.size, 4, none⟩ (.int .u32 p4)).setCell ⟨w1.heap.size, 5, none⟩ (.int .u32 p5)).setCell ⟨w1.heap.size, 6, none⟩ (.int .u32 p6)).setCell ⟨w1.heap.size, 7, none⟩ (.int .u32 p7)) = wX at hV hLx ⊢
    generalize w1.heap.size = gX at hV hgx ⊢
    have K0 : Hid ((wX.drew.cell? ⟨w.heap.size, 0, none⟩ = some (.string s) ∧ wX.drew.cell? ⟨w.heap.size, 1, none⟩ = some (.string r) ∧ wX.drew.cell? ⟨w.heap.size, 2, none⟩ = some (.int .i64 n)) ∧ wX.drew.cell? ⟨gX, 0, none⟩ = some (.int .u32 p0) ∧ wX.drew.cell? ⟨gX, 1, none⟩ = some (.int .u32 p1) ∧ wX.drew.cell? ⟨gX, 2, none⟩ = some (.int .u32 p2) ∧ wX.drew.cell? ⟨gX, 3, none⟩ = some (.int .u32 p3) ∧ wX.drew.cell? ⟨gX, 4, none⟩ = some (.int .u32 p4) ∧ wX.drew.cell? ⟨gX, 5, none⟩ = some (.int .u32 p5) ∧ wX.drew.cell? ⟨gX, 6, none⟩ = some (.int .u32 p6) ∧ wX.drew.cell? ⟨gX, 7, none⟩ = some (.int .u32 p7)) := ⟨hLx.1, (st8_of hV).1⟩
    obtain ⟨c0, c1, c2⟩ := hLx.1
    obtain ⟨v0, v1, v2, v3, v4, v5, v6, v7⟩ := (st8_of hV).1
    have HLx := hide hLx.drew
    have HVx : Hid (VAt wX.drew gX [p0, p1, p2, p3, p4, p5, p6, p7]) := hV
    have hwp : IntKind.i64.wrap ((n : Int) + t.size) = (n : Int) + t.size := by rw [IntKind.wrap_i64]; omega
    clear hV hLx
    go_wp2
    go_region_held3 (fun w' => (w'.cell? ⟨w.heap.size, 0, none⟩ = some (.string s) ∧ w'.cell? ⟨w.heap.size, 1, none⟩ = some (.string r) ∧ w'.cell? ⟨w.heap.size, 2, none⟩ = some (.int .i64 n)) ∧ w'.cell? ⟨gX, 0, none⟩ = some (.int .u32 p0) ∧ w'.cell? ⟨gX, 1, none⟩ = some (.int .u32 p1) ∧ w'.cell? ⟨gX, 2, none⟩ = some (.int .u32 p2) ∧ w'.cell? ⟨gX, 3, none⟩ = some (.int .u32 p3) ∧ w'.cell? ⟨gX, 4, none⟩ = some (.int .u32 p4) ∧ w'.cell? ⟨gX, 5, none⟩ = some (.int .u32 p5) ∧ w'.cell? ⟨gX, 6, none⟩ = some (.int .u32 p6) ∧ w'.cell? ⟨gX, 7, none⟩ = some (.int .u32 p7)) (first | (with_reducible exact K6.out) | (with_reducible exact K5.out) | (with_reducible exact K4.out) | (with_reducible exact K0.out)) (first
      | (go_at_call 45; have hh := CA.out _ gX HLx.out HVx.out; (with_reducible refine Calls.mono hh ?_); rintro en w4 ⟨rfl, K4, HL4, HV4⟩; clear hh)
      | (go_at_call 46; have hh := CC.out _ gX HL4.out HV4.out hgx; (with_reducible refine Calls.mono hh ?_); rintro en w5 ⟨rfl, K5, K6, ⟨r0, r1, r2⟩, ⟨f0, f1, f2⟩, HL5⟩; clear hh))
    obtain ⟨q, hq⟩ := HL5.out.put (.string BS) (.string R) (.int .i64 ((n : Int) + t.size))
    have HB := hide hq
    have HQ := hide q
    clear q hq r0 r1 r2 f0 f1 f2 HL5 K5 K6 K4 K0 HL4 HV4 HLx HVx CA CC c0 c1 c2 v0 v1 v2 v3 v4 v5 v6 v7
    generalize ((w5.setCell ⟨w.heap.size + 1, 0, none⟩ (.string BS)).setCell ⟨w.heap.size + 1, 1, none⟩ (.string R)).setCell ⟨w.heap.size + 1, 2, none⟩ (.int .i64 ((n : Int) + t.size)) = w6 at HQ HB ⊢
    go_wp2
    obtain ⟨q0, q1, q2⟩ := HQ.out
    exact bodyPost_ret (v := .agg #[.string BS, .string R, .int .i64 ((n : Int) + t.size)]) (by simp [results, Tryd.results14, go_sem, q0, q1, q2]) rfl ⟨by rw [EV.out], HB.out⟩
end Go.Proofs.YtaolinlginloaacDoor
