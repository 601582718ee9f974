/-
  SPlace; CeSt
-/
import Derived.Test.YtfmnaidhfgmemaaGreatDoorPk8
import Derived.Test.YtfmnaidhfgmemaaGreatDoorPk15
import Derived.BigQuiet
import Derived.Test.YtfmnaidhfgmemaaGreatDoorPk28
import Derived.Test.YtfmnaidhfgmemaaGreatDoorPk18
import Derived.Test.YtfmnaidhfgmemaaGreatDoorPk17
import Derived.Test.YtfmnaidhfgmemaaGreatDoorPk0
namespace Go.Proofs.YtfmnaidhfgmemaaGreatDoor
open Go.RowKit
theorem least_step {L : List Wb} {k : Nat} {b x : Wb} (hb : IsLeast (L.take k) b) (hx : L[k]? = some x) (hlt : ltW x b) : IsLeast (L.take (k + 1)) x := by
  obtain ⟨h1, rfl⟩ := List.getElem?_eq_some_iff.1 hx
  rw [List.take_succ_eq_append_getElem h1]
  refine ⟨List.mem_append_right _ (List.mem_singleton.2 rfl), fun y hy => ?_⟩
  rcases List.mem_append.1 hy with hy | hy
  · exact nlt_lt (hb.2 y hy) hlt
  · rw [List.mem_singleton] at hy
    subst hy
    exact nlt_self _
theorem least_stay {L : List Wb} {k : Nat} {b x : Wb} (hb : IsLeast (L.take k) b) (hx : L[k]? = some x) (hlt : ¬ ltW x b) : IsLeast (L.take (k + 1)) b := by
  obtain ⟨h1, rfl⟩ := List.getElem?_eq_some_iff.1 hx
  rw [List.take_succ_eq_append_getElem h1]
  refine ⟨List.mem_append_left _ hb.1, fun y hy => ?_⟩
  rcases List.mem_append.1 hy with hy | hy
  · exact hb.2 y hy
  · rw [List.mem_singleton] at hy
    subst hy
    exact hlt
set_option maxHeartbeats 1000000 in
set_option maxRecDepth 100000 in
theorem splace_rd (v : Value) (rs : List Rw) (w : World) (hl : rs.length ≤ 1048576) (hll : ∀ r ∈ rs, r.2.2.2.length ≤ 1048576) (ha : FlashRd w v rs) :
    Calls Tryz.prog 66 #[.agg #[v]] w fun e w' => e = .returned (plV (placeF (rs.map tellOf))) ∧ Below w.heap.size w w' := by
  have hf1 := ha
  obtain ⟨vd, vcap, rfl, -, -⟩ := hf1
  obtain ⟨n, hn⟩ : ∃ n, rs.length = n := ⟨_, rfl⟩
  have b1 := (Below.refl w.heap.size w).alloc (Nat.le_refl _) (.cells #[.slice vd n vcap] 39)
  have HF := hide ha
  have HN := hide hn
  have HLL := hide hll
  have R1 := hide (heap_alloc_new w (.cells #[.slice vd n vcap] 39))
  have C1 : Hid (∀ W, Below w.heap.size w W → Calls Tryz.prog 94 #[.agg #[.slice vd n vcap]] W fun e w' => e = .returned (.bool (flOk (rs.map tellOf))) ∧ Below W.heap.size W w') := by
    intro W hW
    have := sok_rd (.slice vd rs.length vcap) rs W hl hll (ha.below hW)
    rw [hn] at this
    exact this
  have C2 : Hid (∀ W, Below w.heap.size w W → Calls Tryz.prog 95 #[.agg #[.slice vd n vcap]] W fun e w' => e = .returned (.int .i64 (openF (rs.map tellOf))) ∧ Below W.heap.size W w') := by
    intro W hW
    have := sopen_rd (.slice vd rs.length vcap) rs W hl hll (ha.below hW)
    rw [hn] at this
    exact this
  have C3 : Hid (∀ W, Below w.heap.size w W → Calls Tryz.prog 97 #[.agg #[.slice vd n vcap]] W fun e w' => ∃ u, e = .returned u ∧ IntsOf w' W.heap.size u (freeL (rs.map tellOf)) ∧ Below W.heap.size W w') := by
    intro W hW
    have := sfree_rd (.slice vd rs.length vcap) rs W hl hll (ha.below hW)
    rw [hn] at this
    exact this
  have B1 := hide b1
  rw [hn] at hl ⊢
  clear hll ha b1
  cases hok : flOk (rs.map tellOf) with
  | false =>
    have PF := hide (place_no hok)
    rw [hok] at C1
    clear hok hn
    go_enter Tryz.func66, Tryz.ntmps66
    go_wp2_with fail
    refine (C1.out _ B1.out).mono ?_
    rintro e w2 ⟨rfl, b2⟩
    have B2 := hide (B1.out.trans (b2.mono B1.out.size))
    clear b2
    go_wp2
    go_ret3
    exact ⟨by rw [PF.out]; rfl, B2.out⟩
  | true =>
    have hfl := flOk_len hok
    rw [List.length_map, hn] at hfl
    rw [hok] at C1
    have HOK := hide hok
    clear hok hn
    go_enter Tryz.func66, Tryz.ntmps66
    go_wp2_with fail
    refine (C1.out _ B1.out).mono ?_
    rintro e w2 ⟨rfl, b2⟩
    have B2 := hide (B1.out.trans (b2.mono B1.out.size))
    have R2 := hide ((b2.block _ (Array.getElem?_eq_some_iff.1 R1.out).1).trans R1.out)
    have c2 : w2.cell? ⟨w.heap.size, 0, none⟩ = some (.slice vd n vcap) := cell_of_row _ _ 0 _ _ _ R2.out
    clear b2 C1 R1 B1
    go_wp2_with fail
    refine (C2.out _ B2.out).mono ?_
    rintro e w3 ⟨rfl, b3⟩
    have B3 := hide (B2.out.trans (b3.mono B2.out.size))
    have R3 := hide ((b3.block _ (Array.getElem?_eq_some_iff.1 R2.out).1).trans R2.out)
    have c3 : w3.cell? ⟨w.heap.size, 0, none⟩ = some (.slice vd n vcap) := cell_of_row _ _ 0 _ _ _ R3.out
    clear b3 C2 R2 B2 c2
    rcases openF_cases (rs.map tellOf) with ⟨ho, -⟩ | ⟨k, b, ho, hb, -, -⟩
    · rw [ho]
      have HO := hide ho
      have HFT := hide (fun (x : Int) (hx : x ∈ freeL (rs.map tellOf)) => freeTo_mem hx)
      have HAS := hide (freeTo_asc (rs.map tellOf) (rs.map tellOf).length)
      have hfl2 : (freeL (rs.map tellOf)).length ≤ 10 := by
        have := freeTo_len (rs.map tellOf) (rs.map tellOf).length
        simp only [freeL, List.length_map] at this ⊢
        have := HN.out
        omega
      clear ho
      go_wp2_with fail
      refine (C3.out _ B3.out).mono ?_
      rintro e w4 ⟨u, rfl, hu, b4⟩
      have B4 := hide (B3.out.trans (b4.mono B3.out.size))
      have R4 := hide ((b4.block _ (Array.getElem?_eq_some_iff.1 R3.out).1).trans R3.out)
      obtain ⟨ud, ucap, rfl, -, u2, u3⟩ := frow_form hu
      unfold maxLen at u2
      have U3 := hide u3
      have HU := hide hu
      obtain ⟨F, hF⟩ : ∃ F, freeL (rs.map tellOf) = F := ⟨_, rfl⟩
      have PFull : freeL (rs.map tellOf) = [] → placeF (rs.map tellOf) = (0, 0, false) := fun h0 => place_full HOK.out HO.out h0
      have PL : ∀ r, IsLeast (wearL (rs.map tellOf) F) r → placeF (rs.map tellOf) = (r.1, 0, true) := fun r hr => place_least HOK.out HO.out (by rw [hF]; exact hr)
      have HPF := hide PFull
      have HPL := hide PL
      have HAS2 : Hid (F.Pairwise (· < ·)) := by rw [← hF]; exact HAS.out
      rw [hF] at HFT hfl2 HU U3 HPF ⊢
      obtain ⟨m, hm⟩ : ∃ m, F.length = m := ⟨_, rfl⟩
      have HM := hide hm
      rw [hm] at U3 hfl2 ⊢
      clear b4 hu u3 R3 c3 C3 PFull PL hF HAS hm
      have c4 : w4.cell? ⟨w.heap.size, 0, none⟩ = some (.slice vd n vcap) := cell_of_row _ _ 0 _ _ _ R4.out
      by_cases h0 : m = 0
      · subst h0
        have PF : Hid (placeF (rs.map tellOf) = (0, 0, false)) := HPF.out (List.eq_nil_of_length_eq_zero HM.out)
        clear HPF
        go_wp2
        go_ret3
        exact ⟨by rw [PF.out]; rfl, B4.out⟩
      · have hm1 : ((m : Int) == 0) = false := by simp; omega
        have hm2 : ¬ (m : Int) = 0 := by omega
        obtain ⟨gu, e, g1, g2⟩ := U3.out (by omega)
        subst e
        obtain ⟨gv, e⟩ := HF.out.head (by have := HN.out; omega)
        subst e
        -- a free block, as it is read
        have RD : Hid (∀ (W : World) (k : Nat), Below w4.heap.size w4 W → k < m → ∃ (j : Nat) (y : Int), F[k]? = some (j : Int) ∧ j < n ∧ (wearL (rs.map tellOf) F)[k]? = some ((j : Int), y) ∧ wearOf (rs.map tellOf) (j : Int) = y ∧ W.cell? ⟨gu, k, none⟩ = some (.int .i64 (j : Int)) ∧ W.cell? ⟨gv, j * 3 + 1, none⟩ = some (.int .i64 y)) := by
          intro W k hW hk
          obtain ⟨x, hx⟩ : ∃ x, F[k]? = some x := ⟨_, List.getElem?_eq_getElem (by have := HM.out; omega)⟩
          obtain ⟨j, e, hj, b, hb, -⟩ := HFT.out x (List.mem_of_getElem? hx)
          rw [List.length_map] at hj
          obtain ⟨r, hr⟩ : ∃ r, rs[j]? = some r := ⟨_, List.getElem?_eq_getElem hj⟩
          have hwr : wearOf (rs.map tellOf) (j : Int) = r.2.1 := by unfold wearOf; rw [Int.toNat_natCast, List.getElem?_map, hr]; rfl
          subst e
          refine ⟨j, r.2.1, hx, by have := HN.out; omega, by unfold wearL; rw [List.getElem?_map, hx, ← hwr]; rfl, hwr, ?_, ?_⟩
          · have h1 := (own_below HU.out hW).cells (g := gu) rfl k (.int .i64 (j : Int)) (by rw [icells]; rw [List.getElem?_map, hx]; rfl)
            rw [addr_at] at h1
            exact h1
          · have hb2 := B4.out.trans (hW.mono B4.out.size)
            obtain ⟨gv', e, ⟨-, c2, -⟩, -⟩ := (HF.out.below hb2).at hr
            injection e with e
            injection e with e
            subst e
            exact c2
        obtain ⟨j0, y0, e1, e2, e3, e4, e5, e6⟩ := RD.out w4 0 (Below.refl _ _) (by omega)
        have L0 : Hid (IsLeast ((wearL (rs.map tellOf) F).take 1) ((j0 : Int), y0)) := by
          have := List.take_succ_eq_append_getElem (l := wearL (rs.map tellOf) F) (i := 0) (List.getElem?_eq_some_iff.1 e3).1
          rw [List.getElem?_eq_some_iff] at e3
          rw [show (1 : Nat) = 0 + 1 from rfl, this, e3.2]
          exact ⟨by simp, fun y hy => by simp at hy; subst hy; exact nlt_self _⟩
        have E1 := hide e1
        have E4 := hide e4
        have E2 := hide e2
        clear e1 e2 e3 e4 e6
        go_wp2
        clear e5
        go_loopw [7, 8] (fun bv iv wr => ∃ (k j : Nat) (y : Int), iv = .int .i64 k ∧ bv = .int .i64 (j : Int) ∧ 1 ≤ k ∧ k ≤ m ∧ Hid (∃ i, i < k ∧ F[i]? = some (j : Int)) ∧ Hid (j < n) ∧ Hid (wearOf (rs.map tellOf) (j : Int) = y) ∧ Hid (IsLeast ((wearL (rs.map tellOf) F).take k) ((j : Int), y)) ∧ Hid (Below w4.heap.size w4 wr)) (fun _ iv _ => m - (intOf iv).toNat)
        case atStart => exact ⟨1, j0, y0, rfl, rfl, by omega, by omega, ⟨0, by omega, E1.out⟩, E2, E4, L0, Below.refl _ _⟩
        case round =>
          obtain ⟨k, j, y, rfl, rfl, hk1, hk, HI, HJ, HY, HL, HW⟩ := hrel
          clear L0 E1 E4 E2
          have cf : wr.cell? ⟨w.heap.size, 0, none⟩ = some (.slice (some ⟨gv, 0, none⟩) n vcap) := cell_of_row _ _ 0 _ _ _ ((HW.out.block _ (Array.getElem?_eq_some_iff.1 R4.out).1).trans R4.out)
          by_cases hlt : (k : Int) < m
          · obtain ⟨j2, y2, f1, f2, f3, f4, f5, f6⟩ := RD.out wr k HW.out (by omega)
            -- the best one, as it is read
            obtain ⟨i, hik, hFi⟩ := HI.out
            obtain ⟨j3, y3, g3, g4, g5, g6, g7, g8⟩ := RD.out wr i HW.out (by omega)
            have hjj : (j : Int) = j3 := by rw [hFi] at g3; cases g3; rfl
            have hjj2 : j3 = j := by omega
            subst hjj2
            have hyy : y3 = y := by rw [← g6, HY.out]
            subst hyy
            -- places ascend
            have hlt2 : (j3 : Int) < j2 := by
              obtain ⟨p1, p2⟩ := List.getElem?_eq_some_iff.1 hFi
              obtain ⟨p3, p4⟩ := List.getElem?_eq_some_iff.1 f1
              have := List.pairwise_iff_getElem.1 HAS2.out i k p1 p3 hik
              rw [p2, p4] at this
              exact this
            have jn : (j3 : Int) < n := by omega
            have jn2 : (j2 : Int) < n := by omega
            have z1 : (0 : Int) ≤ j3 := by omega
            have z2 : (0 : Int) ≤ j2 := by omega
            have z3 : (0 : Int) ≤ k := by omega
            have F1 := hide f1
            have F2 := hide f2
            have F4 := hide f4
            have BD := hide (fun q => below_drewN HW.out q)
            have KI := hide HI.out
            by_cases hw : y2 < y3
            · have NL := hide (least_step HL.out f3 (show ltW ((j2 : Int), y2) ((j3 : Int), y3) from Or.inl hw))
              clear f1 f2 f3 f4 g3 g4 g5 g6 g7 HI HL HY hFi hlt2 hjj
              go_wp2
              go_quiet (fail)
              go_wp2
              go_roundw
              case rel => exact ⟨k + 1, j2, y2, by go_num, rfl, by omega, by omega, ⟨k, by omega, F1.out⟩, F2, F4, NL, BD.out _⟩
              case measure => simp [intOf]; omega
            · have NL := hide (least_stay HL.out f3 (show ¬ ltW ((j2 : Int), y2) ((j3 : Int), y3) from fun h => by unfold ltW at h; simp only at h; omega))
              have HY2 := hide HY.out
              have HJ2 := hide HJ.out
              clear f1 f2 f3 f4 g3 g4 g5 g6 g7 HI HL HY HJ hFi hlt2 hjj
              go_wp2
              go_quiet (fail)
              go_wp2
              go_roundw
              case rel => exact ⟨k + 1, j3, y3, by go_num, rfl, by omega, by omega, (by obtain ⟨i, h1, h2⟩ := KI.out; exact ⟨i, by omega, h2⟩), HJ2, HY2, NL, BD.out _⟩
              case measure => simp [intOf]; omega
          · have PF : Hid (placeF (rs.map tellOf) = ((j : Int), 0, true)) := by
              have := HL.out
              rw [List.take_of_length_le (by simp only [wearL, List.length_map]; have := HM.out; omega)] at this
              exact HPL.out _ this
            have B5 := hide (B4.out.trans (HW.out.mono B4.out.size))
            clear HL HI HY HJ
            go_wp2
            go_ret3
            exact ⟨by rw [PF.out]; rfl, B5.out⟩
    · rw [ho]
      have hkl : k < n := by have := (List.getElem?_eq_some_iff.1 hb).1; rw [List.length_map] at this; have := HN.out; omega
      have PF := hide (place_open HOK.out ho hb)
      obtain ⟨r, hr⟩ : ∃ r, rs[k]? = some r := ⟨_, List.getElem?_eq_getElem (by have := HN.out; omega)⟩
      have hbr : b = tellOf r := by rw [List.getElem?_map, hr] at hb; cases hb; rfl
      subst hbr
      obtain ⟨gv, e, ⟨c1, c2, c4⟩, hlf⟩ := (HF.out.below B3.out).at hr
      subst e
      have hml := HLL.out r (List.mem_of_getElem? hr)
      obtain ⟨x, y, u, ls⟩ := r
      simp only at c1 c2 c4
      simp only [tellOf] at PF
      simp only at hlf hml
      have C4 := hide (snext_rd x y u ls w3 hml hlf)
      generalize nextB ls = N at C4 PF
      have k0 : (0 : Int) ≤ k := by omega
      have kn : (k : Int) < n := by omega
      clear ho hb hr hlf hml
      go_wp2_with fail
      refine C4.out.mono ?_
      rintro e w4 ⟨rfl, b4⟩
      have B4 := hide (B3.out.trans (b4.mono B3.out.size))
      clear C4 b4
      go_wp2
      go_ret3
      exact ⟨by rw [PF.out]; rfl, B4.out⟩
end Go.Proofs.YtfmnaidhfgmemaaGreatDoor

namespace Go.Proofs.YtfmnaidhfgmemaaGreatDoor
open Go.RowKit
def stcell (t : Int × Int × Int × ByteArray) : List Value := [.int .i64 t.1, .int .i64 t.2.1, .int .i64 t.2.2.1, .string t.2.2.2]
def stcells (l : List (Int × Int × Int × ByteArray)) : List Value := l.flatMap stcell
theorem stcells_len (l : List (Int × Int × Int × ByteArray)) : (stcells l).length = l.length * 4 := by
  induction l with
  | nil => rfl
  | cons t l ih => simp [stcells, stcell] at ih ⊢; omega
theorem stcells_app (a b : List (Int × Int × Int × ByteArray)) : stcells (a ++ b) = stcells a ++ stcells b := by simp [stcells]
theorem stcells_cons (t : Int × Int × Int × ByteArray) (l : List (Int × Int × Int × ByteArray)) : stcells (t :: l) = stcell t ++ stcells l := by simp [stcells]
theorem stcells_at (l : List (Int × Int × Int × ByteArray)) (k : Nat) (t : Int × Int × Int × ByteArray) (h : l[k]? = some t) (j : Nat) (v : Value) (hj : (stcell t)[j]? = some v) : (stcells l)[k * 4 + j]? = some v := by
  have hlt : j < 4 := (List.getElem?_eq_some_iff.1 hj).1
  induction l generalizing k with
  | nil => simp at h
  | cons a l ih =>
    rw [stcells_cons]
    cases k with
    | zero =>
      simp at h
      subst h
      rw [List.getElem?_append_left (by show _ < 4; omega), Nat.zero_mul, Nat.zero_add]
      exact hj
    | succ k =>
      rw [List.getElem?_append_right (by show 4 ≤ _; omega), show (k + 1) * 4 + j - (stcell a).length = k * 4 + j by show _ - 4 = _; omega]
      exact ih k (by simpa using h)
theorem infoSt : (Tryz.prog.info? 67).map (fun i => (i.zero, i.size, i.bytes)) = some (some (.agg #[.int .i64 0, .int .i64 0, .int .i64 0, .string ⟨#[]⟩]), 4, 40) := by kernel_rfl
end Go.Proofs.YtfmnaidhfgmemaaGreatDoor
