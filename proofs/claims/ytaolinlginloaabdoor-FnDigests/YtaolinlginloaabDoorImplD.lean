/-
  The walk of impl's DigestOf.
-/
import Derived.Test.YtaolinlginloaabDoorImplH
namespace Go.Proofs.YtaolinlginloaabDoor
open Go.RowKit
open Dig

theorem digL_endS (t : ByteArray) : digL t.data.toList = endS (mixes (t.size / 64) first t.data.toList) (t.extract (64 * (t.size / 64)) t.size).data.toList t.size := by
  rw [digL_of, ← endS_words, words_bytesOf (mixes_st first_st _ _)]

set_option maxHeartbeats 1000000 in
set_option maxRecDepth 100000 in
theorem implDig_any (t : ByteArray) (w : World) (ht : t.size ≤ 1048576) (hT : StepIn w) :
    Calls Tryd.prog 11 #[.string t] w fun e w' => e = .returned (.string ⟨(digL t.data.toList).toArray⟩) ∧ Below w.heap.size w w' := by
  have HT := hide hT
  have hM := mixes_st first_st (t.size / 64) t.data.toList
  have hRs : (t.extract (64 * (t.size / 64)) t.size).size = t.size % 64 := by simp; omega
  have CB := hide (fun w' h => blocks_any first t w' first_st (by omega) h)
  have EE := hide (digL_endS t)
  obtain ⟨M, hMM⟩ : ∃ M, M = mixes (t.size / 64) first t.data.toList := ⟨_, rfl⟩
  obtain ⟨R, hRR⟩ : ∃ R, R = t.extract (64 * (t.size / 64)) t.size := ⟨_, rfl⟩
  rw [← hMM, ← hRR] at CB EE
  rw [← hMM] at hM
  rw [← hRR] at hRs
  have CE := hide (fun w' h => end_any M R t.size w' hM hRs (by omega) h)
  have HM := hide hM
  have hM8 := hM.1
  obtain ⟨D, hD⟩ : ∃ D, endS M R.data.toList t.size = D := ⟨_, rfl⟩
  rw [hD] at CE EE
  clear hT hM hMM hRR hD
  obtain ⟨F, hF⟩ : ∃ F, F = first := ⟨_, rfl⟩
  have CF := hide firstState_any
  rw [← hF] at CF CB
  clear hF
  go_enter Tryd.func11, Tryd.ntmps11
  go_wp2_with fail
  refine (CF.out _).mono ?_
  rintro en w1 ⟨rfl, hb1⟩
  have HT1 := hide (HT.out.on hb1)
  have hs1 := hb1.size
  go_wp2_with fail
  refine (CB.out _ HT1.out).mono ?_
  rintro en w2 ⟨rfl, hb2⟩
  have HT2 := hide (HT1.out.on hb2)
  have hs2 := hb2.size
  have HB2 : Hid (Below w.heap.size w w2) := hb1.trans (hb2.mono hs1)
  clear HT HT1 hb1 hb2 CF CB
  have hz8 : (List.replicate 8 0 : List Nat).length = 8 := rfl
  go_wp2_with (first
    | (refine wpList_store_words rfl _ _ _ rfl w2.heap.size M (List.replicate 8 0) rfl rfl (v_new w2 (List.replicate 8 0) _ _ rfl) (by rw [hM8, hz8]) (by rw [hM8]; exact info8) ?_
       intro w3 hw3
       have HV3 : Hid (VAt w3 w2.heap.size M ∧ Below w2.heap.size w2 w3) := by
         rw [hw3]
         exact ⟨(v_new w2 (List.replicate 8 0) _ _ rfl).store M (by rw [hM8, hz8]), below_cellsD (Nat.le_refl _) _ _ _ ((Below.refl _ _).alloc (Nat.le_refl _) _)⟩
       clear hw3)
    | refine wpList_load_words rfl _ _ rfl w2.heap.size rfl M _ HV3.out.1.1 Tryd.underlying44 rfl (by rw [hM8]; exact info8) ?_)
  refine (CE.out _ (HT2.out.on HV3.out.2)).mono ?_
  rintro en w4 ⟨rfl, hb4⟩
  have HB4 : Hid (Below w.heap.size w w4) := by
    have h3 := HB2.out.trans (HV3.out.2.mono HB2.out.size)
    exact h3.trans (hb4.mono h3.size)
  clear CE HV3 HT2 HB2 hb4
  go_wp2
  go_ret
  exact ⟨by rw [EE.out]; rfl, HB4.out⟩

end Go.Proofs.YtaolinlginloaabDoor
