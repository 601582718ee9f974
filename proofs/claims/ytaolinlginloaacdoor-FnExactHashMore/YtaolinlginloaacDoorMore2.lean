/-
  The walk of the specification's HashMore where it takes the text.
-/
import Derived.Test.YtaolinlginloaacDoorMore
namespace Go.Proofs.YtaolinlginloaacDoor
open Go.RowKit
open Dig

theorem mixes_step (k : Nat) (st : List Nat) (l : List UInt8) : mixes (k + 1) st l = mix (mixes k st l) ((l.drop (64 * k)).take 64) := rfl
theorem cut64 (u : ByteArray) (k : Nat) (h : 64 * k + 64 ≤ u.size) : (u.extract (64 * k) (64 * k + 64)).size = 64 ∧ (u.extract (64 * k) (64 * k + 64)).data.toList = (u.data.toList.drop (64 * k)).take 64 := by
  constructor
  · simp; omega
  · rw [Lib.extract_data]; congr 1; omega

theorem bytes8 (l : List Nat) (g cap : Nat) (w : World) (h : St l) (hw : WordsAt w g l) :
    Calls Tryd.prog 39 #[.slice (some ⟨g, 0, none⟩) 8 cap] w fun e w' => e = .returned (.string ⟨(bytesOf l).toArray⟩) ∧ Below w.heap.size w w' := by
  have := bytes_any l g cap w (by rw [h.1]; omega) h.2 hw
  rw [h.1] at this
  exact this
set_option maxHeartbeats 1000000 in
set_option maxRecDepth 100000 in
theorem specMore_yes (s r t : ByteArray) (n : Nat) (w : World) (hR : HRight s r n) (ht : t.size ≤ 1048576) (hc : (n : Int) + t.size ≤ 1000000000) :
    Calls Tryd.prog 13 #[.agg #[.string s, .string r, .int .i64 n], .string t] w fun e w' =>
      e = .returned (.agg #[.string ⟨(bytesOf (mixes ((r ++ t).size / 64) (words s.data.toList) (r ++ t).data.toList)).toArray⟩, .string ((r ++ t).extract (64 * ((r ++ t).size / 64)) (r ++ t).size), .int .i64 ((n : Int) + t.size)]) ∧ Below w.heap.size w w' := by
  have d : @decide (HRight s r n) (decH s r n) = true := dcY hR
  obtain ⟨hs32, hr64, -, -, -⟩ := hR
  have hst := hide (words_st s.data.toList (by simpa using hs32))
  have hru : (r ++ t).size = r.size + t.size := ByteArray.size_append
  go_enter Tryd.func13, Tryd.ntmps13
  go_wp2_with fail
  refine (specOk_any s r n _ (by unfold maxLen; omega)).mono ?_
  rintro e w1 ⟨rfl, hb⟩
  rw [d]
  obtain ⟨⟨c0, c1, c2⟩, ⟨r0, r1, r2⟩, rf, hs1, hb1⟩ := boxed (by simpa using hb)
  clear hb d
  go_wp2_with fail
  refine (words_any s _ (by omega)).mono ?_
  rintro e w2 ⟨v, rfl, hown, hb2⟩
  have hl8 := hst.out.1
  have hown2 := hown
  obtain ⟨g2, cap2, rfl, hg2, hW2, -⟩ := own_open hown2 (by omega)
  rw [hl8]
  clear hown hown2
  have hs2 := hb2.size
  go_wp2_with fail
  refine (ks_any _).mono ?_
  rintro e w3 ⟨gk, ck, rfl, hgk, hK, hb3⟩
  have hs3 := hb3.size
  have hb23 := hb2.trans (hb3.mono hs2)
  have C1 : w3.cell? ⟨w.heap.size, 1, none⟩ = some (.string r) := by rw [hb23.cell (show w.heap.size < w1.heap.size by omega)]; exact c1
  have C2 : Hid (w3.cell? ⟨w.heap.size, 2, none⟩ = some (.int .i64 n)) := by show _ = _; rw [hb23.cell (show w.heap.size < w1.heap.size by omega)]; exact c2
  have R0 : Hid (w3.cell? ⟨w.heap.size + 1, 0, none⟩ = some (.string ⟨#[]⟩)) := by show _ = _; rw [hb23.cell (show w.heap.size + 1 < w1.heap.size by omega)]; exact r0
  have R1 : Hid (w3.cell? ⟨w.heap.size + 1, 1, none⟩ = some (.string ⟨#[]⟩)) := by show _ = _; rw [hb23.cell (show w.heap.size + 1 < w1.heap.size by omega)]; exact r1
  have R2 : Hid (w3.cell? ⟨w.heap.size + 1, 2, none⟩ = some (.int .i64 0)) := by show _ = _; rw [hb23.cell (show w.heap.size + 1 < w1.heap.size by omega)]; exact r2
  have RF : Hid (∀ j, w3.frozen? ⟨w.heap.size + 1, j, none⟩ = false) := fun j => by rw [hb23.frozen (show w.heap.size + 1 < w1.heap.size by omega)]; exact rf j
  have B3 : Hid (Below w.heap.size w w3) := hb1.trans (hb23.mono (by omega))
  have W3 : Hid (WordsAt w3 g2 (words s.data.toList)) := hW2.below hb3 hW2.1
  have K3 := hide hK
  have hgk3 := hK.1
  have hg23 := W3.out.1
  clear c0 c1 c2 r0 r1 r2 rf hb1 hb2 hb3 hb23 hW2 hK
  obtain ⟨u, hu⟩ : ∃ u, r ++ t = u := ⟨_, rfl⟩
  rw [hu] at hru
  have EU := hide hu
  obtain ⟨S0, hS0⟩ : ∃ S0, S0 = words s.data.toList := ⟨_, rfl⟩
  rw [← hS0] at hst W3
  have ES := hide hS0
  clear hS0
  have hkl : ks.length = 64 := rfl
  rw [hkl]
  go_wp2
  clear C1
  go_loopw [5, 8] (fun sv av wr => ∃ k g cap : Nat, 64 * k ≤ u.size ∧ av = .int .i64 (64 * k : Nat) ∧ sv = .slice (some ⟨g, 0, none⟩) 8 cap ∧ Hid (WordsAt wr g (mixes k S0 u.data.toList)) ∧ Hid (Below w3.heap.size w3 wr)) (fun _ av _ => u.size - (intOf av).toNat)
  case atStart => exact ⟨0, g2, cap2, by omega, rfl, rfl, W3, Below.refl _ _⟩
  case round =>
    obtain ⟨k, g, cap, hk, rfl, rfl, HW, HB⟩ := hrel
    have hszr := HB.out.size
    by_cases hlt : ((64 * k : Nat) : Int) + 64 ≤ u.size
    · have F := hide (mixes_step k S0 u.data.toList)
      obtain ⟨z1, z2⟩ := cut64 u k (by omega)
      have hSt := hide (mixes_st hst.out k u.data.toList)
      have KR := hide (K3.out.below HB.out hgk3)
      obtain ⟨b, hbb⟩ : ∃ b, b = u.extract (64 * k) (64 * k + 64) := ⟨_, rfl⟩
      have hsl : ∀ W, (Instr.slice 9 (.string u) (some (.int .i64 ((64 * k : Nat) : Int))) (some (.int .i64 (((64 * k : Nat) : Int) + 64))) none).run Tryd.prog W = .ok (.string b) W := by
        intro W
        rw [run_slice_string_if W 9 u .i64 .i64 _ _ Tryd.underlying9, if_pos (by omega), if_pos (by omega), hbb]
        rfl
      rw [← hbb] at z1 z2
      have Z2 := hide z2
      clear hbb z2
      obtain ⟨q, hq⟩ : ∃ q, q = 64 * k := ⟨_, rfl⟩
      rw [← hq] at hsl hlt ⊢
      have HQ := hide hq
      have hqu : q ≤ u.size := by omega
      clear hq
      obtain ⟨M, hM⟩ : ∃ M, M = mixes k S0 u.data.toList := ⟨_, rfl⟩
      rw [← hM] at hSt HW F
      clear hM
      go_wp2_with fail
      refine (round_any M g gk cap ck b _ z1 hSt.out HW.out KR.out).mono ?_
      rintro e w5 ⟨v5, rfl, hown5, hb5⟩
      have hS5 := mix_st hSt.out b.data.toList
      obtain ⟨g5, cap5, rfl, hg5, hW5, -⟩ := own_open hown5 (by rw [hS5.1]; omega)
      rw [hS5.1]
      rw [Z2.out, ← F.out] at hW5
      have HW5 := hide hW5
      have HB5 : Hid (Below w3.heap.size w3 w5) := HB.out.trans (hb5.mono hszr)
      clear hown5 hb5 hW5 hS5 HW HB KR F Z2 hSt
      go_wp2
      go_roundw
      case rel => exact ⟨k + 1, g5, cap5, by have := HQ.out; omega, by have := HQ.out; go_num, rfl, HW5, HB5⟩
      case measure => have := HQ.out; simp [intOf]; omega
    · have ek : k = u.size / 64 := by omega
      subst ek
      have hSt := hide (mixes_st hst.out (u.size / 64) u.data.toList)
      obtain ⟨M, hM⟩ : ∃ M, M = mixes (u.size / 64) S0 u.data.toList := ⟨_, rfl⟩
      rw [← hM] at hSt HW
      have c2 : wr.cell? ⟨w.heap.size, 2, none⟩ = some (.int .i64 n) := by rw [HB.out.cell (show w.heap.size < w3.heap.size by omega)]; exact C2.out
      have r0 : wr.cell? ⟨w.heap.size + 1, 0, none⟩ = some (.string ⟨#[]⟩) := by rw [HB.out.cell (show w.heap.size + 1 < w3.heap.size by omega)]; exact R0.out
      have r1 : wr.cell? ⟨w.heap.size + 1, 1, none⟩ = some (.string ⟨#[]⟩) := by rw [HB.out.cell (show w.heap.size + 1 < w3.heap.size by omega)]; exact R1.out
      have r2 : wr.cell? ⟨w.heap.size + 1, 2, none⟩ = some (.int .i64 0) := by rw [HB.out.cell (show w.heap.size + 1 < w3.heap.size by omega)]; exact R2.out
      have rf : ∀ j, wr.frozen? ⟨w.heap.size + 1, j, none⟩ = false := fun j => by rw [HB.out.frozen (show w.heap.size + 1 < w3.heap.size by omega)]; exact RF.out j
      have HRF := hide rf
      obtain ⟨q, hq⟩ : ∃ q, q = 64 * (u.size / 64) := ⟨_, rfl⟩
      have hqu : q ≤ u.size := by omega
      obtain ⟨rest, hre⟩ : ∃ rest, rest = u.extract q u.size := ⟨_, rfl⟩
      have hsl : ∀ W, (Instr.slice 9 (.string u) (some (.int .i64 (q : Int))) none none).run Tryd.prog W = .ok (.string rest) W := by
        intro W
        rw [run_slice_string_l W 9 u Tryd.underlying9 .i64 _ (by omega) (by omega), hre]
        rfl
      have hwp : IntKind.i64.wrap ((n : Int) + t.size) = (n : Int) + t.size := by rw [IntKind.wrap_i64]; omega
      have Bw : Hid (Below w.heap.size w wr) := B3.out.trans (HB.out.mono (by omega))
      obtain ⟨BS, hBS⟩ : ∃ BS : ByteArray, BS = ⟨(bytesOf M).toArray⟩ := ⟨_, rfl⟩
      have EB := hide hBS
      have EV : Hid ((.agg #[.string BS, .string rest, .int .i64 ((n : Int) + t.size)] : Value) = .agg #[.string ⟨(bytesOf (mixes ((r ++ t).size / 64) (words s.data.toList) (r ++ t).data.toList)).toArray⟩, .string ((r ++ t).extract (64 * ((r ++ t).size / 64)) (r ++ t).size), .int .i64 ((n : Int) + t.size)]) := by
        show _ = _
        rw [hu, hBS, hM, hre, hq, ES.out]
      rw [← hq]
      have hlt2 : ¬ (q : Int) + 64 ≤ u.size := by omega
      clear hM hBS hre hq rf hu hlt
      have HBy : Hid (Calls Tryd.prog 39 #[.slice (some ⟨g, 0, none⟩) 8 cap] wr.drew fun e w5 => e = .returned (.string BS) ∧ w5.cell? ⟨w.heap.size, 2, none⟩ = some (.int .i64 n) ∧ w5.cell? ⟨w.heap.size + 1, 0, none⟩ = some (.string ⟨#[]⟩) ∧ w5.cell? ⟨w.heap.size + 1, 1, none⟩ = some (.string ⟨#[]⟩) ∧ w5.cell? ⟨w.heap.size + 1, 2, none⟩ = some (.int .i64 0) ∧ w5.frozen? ⟨w.heap.size + 1, 0, none⟩ = false ∧ w5.frozen? ⟨w.heap.size + 1, 1, none⟩ = false ∧ w5.frozen? ⟨w.heap.size + 1, 2, none⟩ = false ∧ Hid (Below wr.heap.size wr w5)) := by
        refine (bytes8 M g cap wr.drew hSt.out (show WordsAt wr.drew g M from HW.out)).mono ?_
        rintro e w5 ⟨rfl, hb5⟩
        have hb6 : Below wr.heap.size wr w5 := (Below.refl wr.heap.size wr).drew.trans hb5
        exact ⟨by rw [← EB.out], (hb6.cell (show w.heap.size < wr.heap.size by omega)).trans c2, (hb6.cell (show w.heap.size + 1 < wr.heap.size by omega)).trans r0, (hb6.cell (show w.heap.size + 1 < wr.heap.size by omega)).trans r1, (hb6.cell (show w.heap.size + 1 < wr.heap.size by omega)).trans r2,
          (hb6.frozen (show w.heap.size + 1 < wr.heap.size by omega)).trans (HRF.out 0), (hb6.frozen (show w.heap.size + 1 < wr.heap.size by omega)).trans (HRF.out 1), (hb6.frozen (show w.heap.size + 1 < wr.heap.size by omega)).trans (HRF.out 2), hb6⟩
      clear r0 r1 r2 HW HB EB hSt
      go_wp2
      go_region_with (go_at_call 39; refine HBy.out.mono ?_; rintro e w5 ⟨rfl, k2, k3, k4, k5, k6, k7, k8, hb6⟩)
      all_goals
        have hb7 := (((Bw.out.trans (hb6.out.mono (by have := Bw.out.size; omega))).setCell (p := ⟨w.heap.size + 1, 0, none⟩) (by show w.heap.size ≤ w.heap.size + 1; omega) (.string BS)).setCell (p := ⟨w.heap.size + 1, 1, none⟩) (by show w.heap.size ≤ w.heap.size + 1; omega) (.string rest)).setCell (p := ⟨w.heap.size + 1, 2, none⟩) (by show w.heap.size ≤ w.heap.size + 1; omega) (.int .i64 ((n : Int) + t.size))
        have T := three (a := .string BS) (b := .string rest) (c := .int .i64 ((n : Int) + t.size)) k3 k4 k5
        have HB7 := hide hb7
        have HT := hide T
        clear hb7 T hb6
        generalize ((w5.setCell ⟨w.heap.size + 1, 0, none⟩ (.string BS)).setCell ⟨w.heap.size + 1, 1, none⟩ (.string rest)).setCell ⟨w.heap.size + 1, 2, none⟩ (.int .i64 ((n : Int) + t.size)) = w6 at HT HB7
        go_wp2
        obtain ⟨q0, q1, q2⟩ := HT.out
        refine bodyPost_ret (v := .agg #[.string BS, .string rest, .int .i64 ((n : Int) + t.size)]) (by simp [results, Tryd.results13, go_sem, q0, q1, q2]) rfl ⟨by rw [EV.out], HB7.out⟩
end Go.Proofs.YtaolinlginloaacDoor
