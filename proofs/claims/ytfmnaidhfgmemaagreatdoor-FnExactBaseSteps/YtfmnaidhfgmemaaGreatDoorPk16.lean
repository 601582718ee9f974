/-
  IWear; IOpen; ISmall; INext; IBlk; IOk
-/
import Derived.Test.YtfmnaidhfgmemaaGreatDoorPk14
import Derived.Test.YtfmnaidhfgmemaaGreatDoorPk15
import Derived.Test.YtfmnaidhfgmemaaGreatDoorPk13
import Derived.Test.YtfmnaidhfgmemaaGreatDoorPk9
namespace Go.Proofs.YtfmnaidhfgmemaaGreatDoor
open Go.RowKit
theorem HeapOf.empty {w : World} {hp q : Nat} (h1 : hp < q) (h2 : q ≤ w.heap.size) (h : w.heap[hp]? = some (.cells #[.slice none 0 0] 216 (0, 0))) : HeapOf w w hp q [] :=
  ⟨.slice none 0 0, [], Heapy.nil, rfl, fun _ => Iff.rfl, ⟨h1, h2, Nat.zero_le _, h, World.ownsRow_nil _ _ _ _⟩, KeptH.refl _ _ _⟩
theorem HeapOf.kept {w wr : World} {hp q : Nat} {L : List Wb} (h : HeapOf w wr hp q L) : KeptH w wr hp q ∧ hp < q := by
  obtain ⟨u, D, -, -, -, h1, h2⟩ := h
  exact ⟨h2, h1.1⟩
theorem HeapOf.anew {w wr : World} {hp q : Nat} {L : List Wb} (h : HeapOf w wr hp q L) : HeapOf wr wr hp q L := by
  obtain ⟨u, D, h1, h2, h3, h4, -⟩ := h
  exact ⟨u, D, h1, h2, h3, h4, KeptH.refl _ _ _⟩
def WearP (w : World) (L : List Wb) (e : Ending) (w' : World) : Prop := ∃ hp q, e = .returned (.pointer (some ⟨hp, 0, none⟩)) ∧ HeapOf w' w' hp q L ∧ w.heap.size < hp ∧ Below w.heap.size w w'
theorem wearL_snoc (bs : List Bk) (l : List Int) (k : Nat) (x : Int) (h : l[k]? = some x) : wearL bs (l.take (k + 1)) = wearL bs (l.take k) ++ [(x, wearOf bs x)] := by
  obtain ⟨h1, rfl⟩ := List.getElem?_eq_some_iff.1 h
  rw [List.take_succ_eq_append_getElem h1]
  unfold wearL
  rw [List.map_append]
  rfl
set_option maxHeartbeats 1000000 in
set_option maxRecDepth 100000 in
theorem iwear_any (v : Value) (rs : List Rw) (lo hi : Nat) (w : World) (hl : rs.length ≤ 1048575) (hll : ∀ r ∈ rs, r.2.2.2.length ≤ 1048576) (hh : hi ≤ w.heap.size) (ha : FlashIn w lo hi v rs) :
    Calls Tryz.prog 113 #[.agg #[v]] w fun e w' => WearP w (wearL (rs.map tellOf) (freeL (rs.map tellOf))) e w' := by
  obtain ⟨vd, vcap, rfl, -, -, a3⟩ := frow_form ha.1
  obtain ⟨n, hn⟩ : ∃ n, rs.length = n := ⟨_, rfl⟩
  have b1 := (Below.refl w.heap.size w).alloc (Nat.le_refl _) (.cells #[.slice vd n vcap] 39)
  have b2 := b1.alloc (by simp) (.cells #[.slice none 0 0] 216)
  have HF2 := hide ha
  rw [hn] at HF2
  have C := hide (ifree_any (.slice vd rs.length vcap) rs lo hi _ (by omega) hll (Nat.le_trans hh b2.size) (ha.below b2 hh))
  have A3 := hide a3
  have HH := hide hh
  have HN := hide hn
  have HFT := hide (fun (x : Int) (hx : x ∈ freeL (rs.map tellOf)) => freeTo_mem hx)
  have hfl : (freeL (rs.map tellOf)).length ≤ n := by have := freeTo_len (rs.map tellOf) (rs.map tellOf).length; rw [List.length_map, hn] at this; unfold freeL; rw [List.length_map, hn]; exact this
  rw [hn] at C hl ⊢
  obtain ⟨F, hF⟩ : ∃ F, freeL (rs.map tellOf) = F := ⟨_, rfl⟩
  rw [hF] at C hfl HFT ⊢
  have R1 : Hid (((w.alloc (.cells #[.slice vd n vcap] 39)).alloc (.cells #[.slice none 0 0] 216)).heap[w.heap.size]? = some (.cells #[.slice vd n vcap] 39 (0, 0))) := (Below.heap_alloc _ _ _ (by simp)).trans (heap_alloc_new w _)
  have r2 := heap_alloc_new (w.alloc (.cells #[.slice vd n vcap] 39)) (.cells #[.slice none 0 0] 216)
  have z2 : ((w.alloc (.cells #[.slice vd n vcap] 39)).alloc (.cells #[.slice none 0 0] 216)).heap.size = w.heap.size + 2 := by simp
  rw [show (w.alloc (.cells #[.slice vd n vcap] 39)).heap.size = w.heap.size + 1 by simp] at r2
  have R2 := hide r2
  have Z2 := hide z2
  have B2 := hide b2
  clear a3 ha hll hn hh b1 b2 hF r2 z2
  go_enter Tryz.func113, Tryz.ntmps113
  go_wp2_with fail
  generalize (w.alloc (.cells #[.slice vd n vcap] 39)).alloc (.cells #[.slice none 0 0] 216) = wA at C R1 R2 Z2 B2 ⊢
  refine C.out.mono ?_
  rintro e w2 ⟨u, rfl, ho, b3⟩
  have s2 := b3.size
  have z2 := Z2.out
  have S1 := hide ((b3.block _ (by omega)).trans R1.out)
  have H0 := hide (HeapOf.empty (q := w2.heap.size) (by omega) (Nat.le_refl _) ((b3.block (w.heap.size + 1) (by omega)).trans R2.out))
  have B3 := hide (B2.out.trans (b3.mono (by omega)))
  obtain ⟨ud, ucap, rfl, -, u2, u3⟩ := frow_form ho
  unfold maxLen at u2
  have U3 := hide u3
  have HO := hide ho
  obtain ⟨m, hm⟩ : ∃ m, F.length = m := ⟨_, rfl⟩
  have HM := hide hm
  rw [hm] at hfl U3 ⊢
  have hz : w.heap.size + 2 ≤ w2.heap.size := by omega
  clear C R1 R2 B2 b3 s2 z2 u3 ho hm
  go_wp2
  go_loopw [9] (fun iv wr => ∃ k : Nat, iv = .int .i64 k ∧ k ≤ m ∧ Hid (HeapOf w2 wr (w.heap.size + 1) w2.heap.size (wearL (rs.map tellOf) (F.take k)))) (fun iv _ => m - (intOf iv).toNat)
  case atStart => exact ⟨0, rfl, Nat.zero_le _, by simpa [wearL] using H0⟩
  case round =>
    obtain ⟨k, rfl, hk, HR⟩ := hrel
    clear H0
    have hkp := HR.out.kept.1
    have hbl : Below (w.heap.size + 1) w2 wr := hkp.down (by omega) (by omega)
    have BW := hide (B3.out.trans (hbl.mono (by omega)))
    by_cases hlt : (k : Int) < m
    · obtain ⟨x, hx⟩ : ∃ x, F[k]? = some x := ⟨_, List.getElem?_eq_getElem (by have := HM.out; omega)⟩
      obtain ⟨j, e, hj, b, hb, -⟩ := HFT.out x (List.mem_of_getElem? hx)
      have hjl : j < rs.length := by rw [List.length_map] at hj; exact hj
      obtain ⟨r, hr⟩ : ∃ r, rs[j]? = some r := ⟨_, List.getElem?_eq_getElem hjl⟩
      have hwr : wearOf (rs.map tellOf) x = r.2.1 := by unfold wearOf; rw [e, Int.toNat_natCast, List.getElem?_map, hr]; rfl
      have NX := hide (wearL_snoc (rs.map tellOf) F k x hx)
      rw [hwr] at NX
      subst e
      obtain ⟨gu, e, g1, g2⟩ := U3.out (by omega)
      subst e
      obtain ⟨gv, e, -, -⟩ := A3.out (by omega)
      subst e
      -- the cells that are read
      have ci : w2.cell? ⟨gu, k, none⟩ = some (.int .i64 (j : Int)) := by
        have h1 := HO.out.cells (g := gu) rfl k (.int .i64 (j : Int)) (by rw [icells]; rw [List.getElem?_map, hx]; rfl)
        rw [addr_at] at h1
        exact h1
      have ci2 : wr.cell? ⟨gu, k, none⟩ = some (.int .i64 (j : Int)) := by
        rw [← ci]
        exact World.cell?_of_block (hkp.2.2.2.2 gu g2 ⟨g2, by have := Z2.out; omega⟩)
      have cf : wr.cell? ⟨w.heap.size, 0, none⟩ = some (.slice (some ⟨gv, 0, none⟩) n vcap) := cell_of_row _ _ 0 _ _ _ ((hbl.block _ (by omega)).trans S1.out)
      have hfo := (HF2.out.below BW.out HH.out).1
      rw [HN.out] at hfo
      obtain ⟨-, cw, -⟩ := kown_cells (k := j) (t := cellOf r) hfo (by rw [List.getElem?_map, hr]; rfl)
      have cw2 : wr.cell? ⟨gv, j * 3 + 1, none⟩ = some (.int .i64 r.2.1) := cw
      have jn : (j : Int) < n := by have := HN.out; omega
      have j0 : (0 : Int) ≤ j := by omega
      have k0 : (0 : Int) ≤ k := by omega
      have C2 := hide (heapPush_any (w.heap.size + 1) w2.heap.size _ ((j : Int), r.2.1) w2 wr HR.out (by simp [wearL]; have := HM.out; omega))
      simp only at C2
      rw [← NX.out] at C2
      generalize r.2.1 = y at cw2 C2
      clear hkp hbl hx hb hj hjl hr hwr NX ci hfo cw HR
      go_wp2_with fail
      refine C2.out.mono ?_
      rintro e w4 ⟨rfl, h4⟩
      have H4 := hide h4
      clear C2 h4 ci2 cf cw2
      go_wp2
      go_roundw
      case rel => exact ⟨k + 1, by go_num, by omega, H4⟩
      case measure => simp [intOf]; omega
    · have PF : Hid (HeapOf wr wr (w.heap.size + 1) w2.heap.size (wearL (rs.map tellOf) F)) := by
        have := HR.out.anew
        rw [List.take_of_length_le (by have := HM.out; omega)] at this
        exact this
      clear HR hkp hbl
      go_wp2
      go_ret
      exact ⟨_, _, rfl, PF.out, by omega, BW.out⟩
end Go.Proofs.YtfmnaidhfgmemaaGreatDoor

namespace Go.Proofs.YtfmnaidhfgmemaaGreatDoor
open Go.RowKit
set_option maxHeartbeats 400000 in
set_option maxRecDepth 100000 in
theorem iopen_any (v : Value) (rs : List Rw) (lo hi : Nat) (w : World) (hl : rs.length ≤ 1048576) (hll : ∀ r ∈ rs, r.2.2.2.length ≤ 1048576) (hh : hi ≤ w.heap.size) (ha : FlashIn w lo hi v rs) :
    Calls Tryz.prog 111 #[.agg #[v]] w fun e w' => e = .returned (.int .i64 (openF (rs.map tellOf))) ∧ Below w.heap.size w w' := by
  obtain ⟨vd, vcap, rfl, -, -, a3⟩ := frow_form ha.1
  have HLL := hide hll
  have A3 := hide a3
  obtain ⟨n, hn⟩ : ∃ n, rs.length = n := ⟨_, rfl⟩
  have HN := hide hn
  have HB := hide ((Below.refl w.heap.size w).alloc (Nat.le_refl _) (.cells #[.slice vd n vcap] 39))
  have HF2 := hide ha
  rw [hn] at hl HF2 ⊢
  have R0 := hide (heap_alloc_new w (.cells #[.slice vd n vcap] 39))
  have HH := hide hh
  clear ha hll a3 hn
  go_enter Tryz.func111, Tryz.ntmps111
  go_wp2
  have HF := hide (HF2.out.below HB.out HH.out)
  clear HF2
  generalize w.alloc (.cells #[.slice vd n vcap] 39) = wA at HB HF R0 ⊢
  have cf : wA.cell? ⟨w.heap.size, 0, none⟩ = some (.slice vd n vcap) := cell_of_row _ _ 0 _ _ _ R0.out
  have HZ := hide (Nat.le_trans HH.out HB.out.size)
  go_loop [7] (fun bv => ∃ b : Nat, bv = .int .i64 b ∧ b ≤ n ∧ Hid (∀ (j : Nat) (c : Bk), j < b → (rs.map tellOf)[j]? = some c → openB c = false)) (fun bv => n - (intOf bv).toNat)
  case atStart => exact ⟨0, rfl, Nat.zero_le _, (show ∀ (j : Nat) (c : Bk), j < 0 → (rs.map tellOf)[j]? = some c → openB c = false from fun j c hj => by omega)⟩
  case round =>
    obtain ⟨b, rfl, r1, HNo⟩ := hrel
    by_cases hlt : (b : Int) < n
    · have hbl : b < rs.length := by have := HN.out; omega
      obtain ⟨r, hr⟩ : ∃ r, rs[b]? = some r := ⟨_, List.getElem?_eq_getElem hbl⟩
      obtain ⟨gv, e, -, -⟩ := A3.out (by omega)
      subst e
      have hrow := HF.out.1
      rw [HN.out] at hrow
      have hrc : (rs.map cellOf)[b]? = some (cellOf r) := by rw [List.getElem?_map, hr]; rfl
      have hrt : (rs.map tellOf)[b]? = some (tellOf r) := by rw [List.getElem?_map, hr]; rfl
      obtain ⟨c1, c2, c3⟩ := kown_cells hrow hrc
      have hlf := (HF.out.2.2.1 r (List.mem_of_getElem? hr)).1
      have hml := HLL.out r (List.mem_of_getElem? hr)
      obtain ⟨x, y, u, ls⟩ := r
      simp only [cellOf] at c1 c2 c3
      simp only at hlf hml
      have C := hide (iopenb_any gv (b * 3) x y u ls lo wA hml c1 c3 hlf)
      have b0 : (0 : Int) ≤ b := by omega
      cases hf : openB (x, y, ls) with
      | false =>
        have NL : Hid (∀ (j : Nat) (c : Bk), j < b + 1 → (rs.map tellOf)[j]? = some c → openB c = false) := by
          intro j c hj hc
          by_cases e : j = b
          · subst e
            rw [hrt] at hc
            cases hc
            exact hf
          · exact HNo.out j c (by omega) hc
        rw [hf] at C
        clear hrow hrc hrt hlf hml hr hbl hf c1 c2 c3
        go_wp2_with fail
        refine C.out.mono ?_
        rintro e w2 ⟨rfl, rfl⟩
        clear C
        go_wp2
        go_round
        case rel => exact ⟨b + 1, by go_num, by omega, NL⟩
        case measure => simp [intOf]; omega
      | true =>
        have PF : Hid (openF (rs.map tellOf) = b) := openF_at hrt hf HNo.out
        rw [hf] at C
        clear hrow hrc hrt hlf hml hr hbl hf c1 c2 c3
        go_wp2_with fail
        refine C.out.mono ?_
        rintro e w2 ⟨rfl, rfl⟩
        clear C
        go_wp2
        go_ret
        exact ⟨by rw [PF.out]; rfl, HB.out⟩
    · have PF : Hid (openF (rs.map tellOf) = -1) := openF_none (fun j c hc => HNo.out j c (by have := (List.getElem?_eq_some_iff.1 hc).1; rw [List.length_map] at this; have := HN.out; omega) hc)
      clear HNo
      go_wp2
      go_ret
      exact ⟨by rw [PF.out]; rfl, HB.out⟩
end Go.Proofs.YtfmnaidhfgmemaaGreatDoor

namespace Go.Proofs.YtfmnaidhfgmemaaGreatDoor
open Go.RowKit
set_option maxHeartbeats 400000 in
set_option maxRecDepth 100000 in
theorem icount_b (x : Int) (b : Bool) (w : World) (h : (3 ≤ x ∧ x ≤ 10 ∧ b = true) ∨ ((x < 3 ∨ 3 ≤ x ∧ ¬ x ≤ 10) ∧ b = false)) :
    Calls Tryz.prog 138 #[.int .i64 x] w fun e w' => e = .returned (.bool b) ∧ w' = w := by
  rcases h with ⟨h1, h2, rfl⟩ | ⟨h1 | ⟨h1, h2⟩, rfl⟩
  all_goals
    go_enter Tryz.func138, Tryz.ntmps138
    go_wp2
    go_ret
    exact ⟨rfl, rfl⟩
theorem icount_any (x : Int) (w : World) :
    Calls Tryz.prog 138 #[.int .i64 x] w fun e w' => e = .returned (.bool (decide (3 ≤ x ∧ x ≤ 10))) ∧ w' = w := by
  apply icount_b
  by_cases h : 3 ≤ x ∧ x ≤ 10
  · exact .inl ⟨h.1, h.2, decide_eq_true h⟩
  · exact .inr ⟨by omega, decide_eq_false h⟩
theorem empty_size (t : ByteArray) : t.toList.isEmpty = decide (t.size = 0) := by
  rw [Lib.toList_data]
  have hsz : t.size = t.data.toList.length := rfl
  cases hc : t.data.toList with
  | nil => rw [hc] at hsz; exact (decide_eq_true hsz).symm
  | cons a l => rw [hc] at hsz; exact (decide_eq_false (by simp only [List.length_cons] at hsz; omega)).symm
def fillsP (t : ByteArray) : Bool := decide ((1 : Int) ≤ t.size ∧ (t.size : Int) ≤ 120)
set_option maxHeartbeats 400000 in
set_option maxRecDepth 100000 in
theorem fills_any (t : ByteArray) (w : World) :
    Calls Tryz.prog 173 #[.string t] w fun e w' => e = .returned (.bool (fillsP t)) ∧ w' = w := by
  by_cases h0 : t.size = 0
  · have he : t.toList.isEmpty = true := by rw [empty_size]; exact decide_eq_true h0
    have HE : Hid (fillsP t = false) := decide_eq_false (by omega)
    go_enter Tryz.func173, Tryz.ntmps173
    go_wp2
    go_ret
    exact ⟨by rw [HE.out]; rfl, rfl⟩
  · have he : t.toList.isEmpty = false := by rw [empty_size]; exact decide_eq_false h0
    have HE : Hid (fillsP t = decide ((t.size : Int) ≤ 120)) := by
      show _ = _
      unfold fillsP
      congr 1
      apply propext
      omega
    go_enter Tryz.func173, Tryz.ntmps173
    go_wp2
    go_ret
    exact ⟨by rw [HE.out]; rfl, rfl⟩
set_option maxHeartbeats 400000 in
set_option maxRecDepth 100000 in
theorem ileaf_any (g o : Nat) (x : Int) (t : ByteArray) (w : World) (h1 : w.cell? ⟨g, o, none⟩ = some (.int .i64 x)) (h2 : w.cell? ⟨g, o + 1, none⟩ = some (.string t)) :
    Calls Tryz.prog 159 #[.pointer (some ⟨g, o, none⟩)] w fun e w' => e = .returned (.bool (leafOk (x, t))) ∧ w' = w := by
  by_cases h0 : x = 0
  · subst h0
    have HE : Hid (leafOk (0, t) = t.toList.isEmpty) := by
      show _ = _
      rw [empty_size]
      simp only [leafOk]
      congr 1
      apply propext
      simp
    go_enter Tryz.func159, Tryz.ntmps159
    go_wp2
    go_ret
    exact ⟨by rw [HE.out]; rfl, rfl⟩
  · by_cases h1 : x = 1
    · subst h1
      have HE : Hid (leafOk (1, t) = fillsP t) := by
        show _ = _
        simp only [leafOk, fillsP]
        congr 1
        apply propext
        simp
        omega
      go_enter Tryz.func159, Tryz.ntmps159
      go_wp2_with fail
      refine (fills_any t _).mono ?_
      rintro e w1 ⟨rfl, rfl⟩
      rw [← HE.out]
      clear HE
      go_wp2
      go_ret
      exact ⟨rfl, rfl⟩
    · have e0 : (x == 0) = false := by simpa using h0
      have e1 : (x == 1) = false := by simpa using h1
      by_cases h2 : x = 2
      · subst h2
        have HE : Hid (leafOk (2, t) = decide ((t.size : Int) ≤ 120)) := by
          show _ = _
          simp only [leafOk]
          congr 1
          apply propext
          simp
          omega
        go_enter Tryz.func159, Tryz.ntmps159
        go_wp2
        go_ret
        exact ⟨by rw [HE.out]; rfl, rfl⟩
      · have e2 : (x == 2) = false := by simpa using h2
        have HE : Hid (leafOk (x, t) = false) := by
          show _ = _
          simp only [leafOk]
          exact decide_eq_false (by omega)
        go_enter Tryz.func159, Tryz.ntmps159
        go_wp2
        go_ret
        exact ⟨by rw [HE.out]; rfl, rfl⟩
end Go.Proofs.YtfmnaidhfgmemaaGreatDoor

namespace Go.Proofs.YtfmnaidhfgmemaaGreatDoor
open Go.RowKit
set_option maxHeartbeats 400000 in
set_option maxRecDepth 100000 in
theorem inext_any (x : Bool) (y : Int) (v : Value) (ls : List (Int × ByteArray)) (B : Nat) (w : World) (hl : ls.length ≤ 1048576) (ha : w.ownsRow B 119 2 v ls.length (lcells ls)) :
    Calls Tryz.prog 112 #[.agg #[.bool x, .int .i64 y, v]] w fun e w' => e = .returned (.int .i64 (nextB ls : Nat)) ∧ Below w.heap.size w w' := by
  obtain ⟨ad, capa, rfl, a1, a2, a3⟩ := frow_form ha
  unfold maxLen at a2
  have A3 := hide a3
  have HB := hide ((Below.refl w.heap.size w).alloc (Nat.le_refl _) (.cells #[.bool x, .int .i64 y, .slice ad ls.length capa] 80))
  have HA := hide (own_below ha HB.out)
  clear a3 ha
  go_enter Tryz.func112, Tryz.ntmps112
  go_wp2
  have hcb := cell_of_row _ _ 2 _ _ _ (heap_alloc_new w (.cells #[.bool x, .int .i64 y, .slice ad ls.length capa] 80))
  have HCB : Hid ((w.alloc (.cells #[.bool x, .int .i64 y, .slice ad ls.length capa] 80)).cell? ⟨w.heap.size, 2, none⟩ = some (.slice ad ls.length capa)) := hcb
  have HSZ := hide (show (w.alloc (.cells #[.bool x, .int .i64 y, .slice ad ls.length capa] 80)).heap.size = w.heap.size + 1 by simp)
  clear hcb
  generalize w.alloc (.cells #[.bool x, .int .i64 y, .slice ad ls.length capa] 80) = wA at HB HA HCB HSZ ⊢
  go_loopw [7] (fun iv wr => ∃ k : Nat, k ≤ ls.length ∧ iv = .int .i64 k ∧ Hid (∀ (j : Nat) (u : Int × ByteArray), j < k → ls[j]? = some u → u.1 ≠ 0) ∧ Hid (Below wA.heap.size wA wr)) (fun iv _ => ls.length - (intOf iv).toNat)
  case atStart => exact ⟨0, Nat.zero_le _, rfl, (show ∀ (j : Nat) (u : Int × ByteArray), j < 0 → ls[j]? = some u → u.1 ≠ 0 from fun j u hj => by omega), Below.refl _ _⟩
  case round =>
    obtain ⟨k, hk, rfl, HN, HW⟩ := hrel
    have hcb : wr.cell? ⟨w.heap.size, 2, none⟩ = some (.slice ad ls.length capa) := (HW.out.cell (show w.heap.size < wA.heap.size by have := HSZ.out; omega)).trans HCB.out
    have HBW := hide (HB.out.trans (HW.out.mono HB.out.size))
    by_cases hlt : (k : Int) < ls.length
    · obtain ⟨g, rfl, _, hg⟩ := A3.out (by omega)
      have hkl : k < ls.length := by omega
      obtain ⟨z, t, ht⟩ : ∃ z t, ls[k]? = some (z, t) := ⟨ls[k].1, ls[k].2, List.getElem?_eq_getElem hkl⟩
      obtain ⟨c1, -⟩ := lown_cells (own_below HA.out HW.out) ht
      simp only at c1
      have HTT := hide ht
      have k0 : (0 : Int) ≤ k := by omega
      clear ht
      by_cases hz : z = 0
      · subst hz
        have HE := hide (nextB_at HTT.out rfl HN.out)
        go_wp2
        go_ret
        exact ⟨by rw [HE.out]; rfl, HBW.out⟩
      · have hz2 : (z == 0) = false := by simpa using hz
        go_wp2
        go_roundw
        case rel =>
          refine ⟨k + 1, by omega, by go_num, hide (fun j u hj hu => ?_), HW⟩
          by_cases hjk : j = k
          · subst hjk
            rw [HTT.out] at hu
            cases hu
            exact hz
          · exact HN.out j u (by omega) hu
        case measure => simp [intOf]; omega
    · have hke : k = ls.length := by omega
      have HE := hide (nextB_none (ls := ls) (fun j u hu => HN.out j u (by have := (List.getElem?_eq_some_iff.1 hu).1; omega) hu))
      clear hke
      go_wp2
      go_ret
      exact ⟨by rw [HE.out]; rfl, HBW.out⟩
end Go.Proofs.YtfmnaidhfgmemaaGreatDoor

namespace Go.Proofs.YtfmnaidhfgmemaaGreatDoor
open Go.RowKit
set_option maxHeartbeats 400000 in
set_option maxRecDepth 100000 in
theorem iblk_any (g o : Nat) (x : Bool) (y : Int) (v : Value) (ls : List (Int × ByteArray)) (B : Nat) (w : World) (hl : ls.length ≤ 1048576) (hg : g < w.heap.size) (c1 : w.cell? ⟨g, o, none⟩ = some (.bool x)) (c2 : w.cell? ⟨g, o + 1, none⟩ = some (.int .i64 y)) (c3 : w.cell? ⟨g, o + 2, none⟩ = some v)
    (ha : w.ownsRow B 119 2 v ls.length (lcells ls)) :
    Calls Tryz.prog 139 #[.pointer (some ⟨g, o, none⟩)] w fun e w' => e = .returned (.bool (blkOk (x, y, ls))) ∧ Below w.heap.size w w' := by
  obtain ⟨ad, capa, rfl, a1, a2, a3⟩ := frow_form ha
  unfold maxLen at a2
  have A3 := hide a3
  have HA := hide ha
  clear a3 ha
  by_cases h4 : ls.length = 4
  · have h4b : ((ls.length : Int) != 4) = false := by rw [h4]; rfl
    have H4 := hide h4
    clear h4
    by_cases hy : 0 ≤ y ∧ y ≤ 1000000000
    · have HY := hide hy
      have y1 : decide (y < 0) = false := decide_eq_false (by omega)
      have y2 : decide (y > 1000000000) = false := decide_eq_false (by omega)
      have hy1 := hy.1
      have hy2 := hy.2
      clear hy
      go_enter Tryz.func139, Tryz.ntmps139
      go_wp2_with fail
      refine (inext_any x y _ ls B _ hl HA.out).mono ?_
      rintro e w1 ⟨rfl, hb1⟩
      have hc3 : w1.cell? ⟨g, o + 2, none⟩ = some (.slice ad ls.length capa) := (hb1.cell hg).trans c3
      have HA1 := hide (own_below HA.out hb1)
      have HB1 := hide hb1
      have hg1 : g < w1.heap.size := Nat.lt_of_lt_of_le hg hb1.size
      generalize hq : nextB ls = q
      have HQ := hide hq
      clear hb1 hq
      go_wp2
      go_loopw [35] (fun iv wr => ∃ k : Nat, k ≤ ls.length ∧ iv = .int .i64 k ∧ Hid (∀ (i : Nat) (t : Int × ByteArray), i < k → ls[i]? = some t → leafOk t = true ∧ (q < i → t.1 = 0)) ∧ wr = w1) (fun iv _ => ls.length - (intOf iv).toNat)
      case atStart => exact ⟨0, Nat.zero_le _, rfl, (show ∀ (i : Nat) (t : Int × ByteArray), i < 0 → ls[i]? = some t → leafOk t = true ∧ (q < i → t.1 = 0) from fun i t hi => by omega), rfl⟩
      case round =>
        obtain ⟨k, hk, rfl, HN, rfl⟩ := hrel
        by_cases hlt : (k : Int) < ls.length
        · obtain ⟨gl, rfl, _, hgl⟩ := A3.out (by omega)
          have hkl : k < ls.length := by omega
          obtain ⟨z, t, ht⟩ : ∃ z t, ls[k]? = some (z, t) := ⟨ls[k].1, ls[k].2, List.getElem?_eq_getElem hkl⟩
          obtain ⟨d1, d2⟩ := lown_cells HA1.out ht
          simp only at d1 d2
          have HT := hide ht
          have k0 : (0 : Int) ≤ k := by omega
          clear ht
          cases hlo : leafOk (z, t) with
          | false =>
            have HE : Hid (blkOk (x, y, ls) = false) := blkOk_no (b := (x, y, ls)) hkl (leafAt_no HT.out hlo)
            go_wp2_with fail
            refine (ileaf_any gl (k * 2) z t _ d1 d2).mono ?_
            rintro e w2 ⟨rfl, rfl⟩
            rw [hlo]
            go_wp2
            go_ret
            exact ⟨by rw [HE.out]; rfl, HB1.out⟩
          | true =>
            have HLO := hide hlo
            have HNX : (q < k → z = 0) → Hid (∀ (i : Nat) (t : Int × ByteArray), i < k + 1 → ls[i]? = some t → leafOk t = true ∧ (q < i → t.1 = 0)) := fun hq i u hi hu => by
              by_cases h1 : i = k
              · subst h1
                rw [HT.out] at hu
                cases hu
                exact ⟨HLO.out, hq⟩
              · exact HN.out i u (by omega) hu
            by_cases hqk : (q : Int) < k
            · by_cases hz : z = 0
              · have HN2 := HNX (fun _ => hz)
                have e1 : (z != 0) = false := by simp [hz]
                clear HNX hz
                go_wp2_with fail
                refine (ileaf_any gl (k * 2) z t _ d1 d2).mono ?_
                rintro e w2 ⟨rfl, rfl⟩
                rw [hlo]
                go_wp2
                go_roundw
                case rel => exact ⟨k + 1, by omega, by go_num, HN2, (by first | rfl | trivial)⟩
                case measure => simp [intOf]; omega
              · have HE : Hid (blkOk (x, y, ls) = false) := blkOk_behind (b := (x, y, ls)) H4.out HT.out (by have := HQ.out; simp only [this]; omega) hz
                have e1 : (z != 0) = true := by simp [hz]
                clear HNX hz
                go_wp2_with fail
                refine (ileaf_any gl (k * 2) z t _ d1 d2).mono ?_
                rintro e w2 ⟨rfl, rfl⟩
                rw [hlo]
                go_wp2
                go_ret
                exact ⟨by rw [HE.out]; rfl, HB1.out⟩
            · have HN2 := HNX (fun h => by omega)
              clear HNX
              go_wp2_with fail
              refine (ileaf_any gl (k * 2) z t _ d1 d2).mono ?_
              rintro e w2 ⟨rfl, rfl⟩
              rw [hlo]
              go_wp2
              go_roundw
              case rel => exact ⟨k + 1, by omega, by go_num, HN2, (by first | rfl | trivial)⟩
              case measure => simp [intOf]; omega
        · have hke : k = ls.length := by omega
          have HE : Hid (blkOk (x, y, ls) = true) := blkOk_each (b := (x, y, ls)) H4.out HY.out (fun i t hi => by
            have := HN.out i t (by have := (List.getElem?_eq_some_iff.1 hi).1; simp only at this; omega) hi
            exact ⟨this.1, fun h => this.2 (by rw [← HQ.out]; exact h)⟩)
          clear hke
          go_wp2
          go_ret
          exact ⟨by rw [HE.out]; rfl, HB1.out⟩
    · have HE : Hid (blkOk (x, y, ls) = false) := blkOk_wear hy
      by_cases hy0 : y < 0
      · go_enter Tryz.func139, Tryz.ntmps139
        go_wp2
        go_ret
        exact ⟨by rw [HE.out]; rfl, Below.refl _ _⟩
      · have hy1 : 1000000000 < y := by omega
        go_enter Tryz.func139, Tryz.ntmps139
        go_wp2
        go_ret
        exact ⟨by rw [HE.out]; rfl, Below.refl _ _⟩
  · have hl4b : ((ls.length : Int) != 4) = true := by simp; omega
    have HE : Hid (blkOk (x, y, ls) = false) := blkOk_len h4
    go_enter Tryz.func139, Tryz.ntmps139
    go_wp2
    go_ret
    exact ⟨by rw [HE.out]; rfl, Below.refl _ _⟩
end Go.Proofs.YtfmnaidhfgmemaaGreatDoor

namespace Go.Proofs.YtfmnaidhfgmemaaGreatDoor
open Go.RowKit
set_option maxHeartbeats 400000 in
set_option maxRecDepth 100000 in
theorem iok_any (v : Value) (rs : List Rw) (lo hi : Nat) (w : World) (hl : rs.length ≤ 1048576) (hll : ∀ r ∈ rs, r.2.2.2.length ≤ 1048576) (hh : hi ≤ w.heap.size) (ha : FlashIn w lo hi v rs) :
    Calls Tryz.prog 110 #[.agg #[v]] w fun e w' => e = .returned (.bool (flOk (rs.map tellOf))) ∧ Below w.heap.size w w' := by
  have h1 := ha.1
  obtain ⟨ad, capa, rfl, a1, a2, a3⟩ := frow_form h1
  unfold maxLen at a2
  have A3 := hide a3
  have HLL := hide hll
  have HB := hide ((Below.refl w.heap.size w).alloc (Nat.le_refl _) (.cells #[.slice ad rs.length capa] 39))
  have HA := hide (ha.below HB.out hh)
  clear a3 ha hll h1
  by_cases hc : 3 ≤ (rs.length : Int) ∧ (rs.length : Int) ≤ 10
  · have hcd : decide (3 ≤ (rs.length : Int) ∧ (rs.length : Int) ≤ 10) = true := decide_eq_true hc
    have HC := hide hc
    clear hc
    go_enter Tryz.func110, Tryz.ntmps110
    go_wp2_with fail
    refine (icount_any (rs.length : Int) _).mono ?_
    rintro e w1 ⟨rfl, rfl⟩
    rw [hcd]
    clear hcd
    have hcb := cell_of_row _ _ 0 _ _ _ (heap_alloc_new w (.cells #[.slice ad rs.length capa] 39))
    have HCB : Hid ((w.alloc (.cells #[.slice ad rs.length capa] 39)).cell? ⟨w.heap.size, 0, none⟩ = some (.slice ad rs.length capa)) := hcb
    have HSZ := hide (show (w.alloc (.cells #[.slice ad rs.length capa] 39)).heap.size = w.heap.size + 1 by simp)
    clear hcb
    generalize w.alloc (.cells #[.slice ad rs.length capa] 39) = wA at HB HA HCB HSZ ⊢
    have hcb := HCB.out
    go_wp2
    clear hcb
    go_loopw [12] (fun iv wr => ∃ k : Nat, k ≤ rs.length ∧ iv = .int .i64 k ∧ Hid (∀ r ∈ (rs.take k), blkOk (tellOf r) = true) ∧ Hid (Below wA.heap.size wA wr)) (fun iv _ => rs.length - (intOf iv).toNat)
    case atStart => exact ⟨0, Nat.zero_le _, rfl, (show ∀ r ∈ rs.take 0, blkOk (tellOf r) = true by simp), Below.refl _ _⟩
    case round =>
      obtain ⟨k, hk, rfl, HN, HW⟩ := hrel
      have hcb : wr.cell? ⟨w.heap.size, 0, none⟩ = some (.slice ad rs.length capa) := (HW.out.cell (show w.heap.size < wA.heap.size by have := HSZ.out; omega)).trans HCB.out
      have HBW := hide (HB.out.trans (HW.out.mono HB.out.size))
      have hbs := HB.out.size
      by_cases hlt : (k : Int) < rs.length
      · obtain ⟨g, rfl, hg1, hg⟩ := A3.out (by omega)
        have hkl : k < rs.length := by omega
        have hr : rs[k]? = some rs[k] := List.getElem?_eq_getElem hkl
        have htk : rs.take (k + 1) = rs.take k ++ [rs[k]] := List.take_succ_eq_append_getElem hkl
        generalize rs[k] = r at hr htk
        have hmem := List.mem_of_getElem? hr
        have hrl := HLL.out r hmem
        have HF := hide (HA.out.below HW.out (by omega))
        have hlf := HF.out.2.2.1 r hmem
        obtain ⟨c1, c2, c3⟩ := kown_cells (k := k) (t := cellOf r) HF.out.1 (by rw [List.getElem?_map, hr]; rfl)
        obtain ⟨x, y, u, ls⟩ := r
        simp only [cellOf] at c1 c2 c3
        simp only at hlf hrl
        have HLF := hide hlf
        have HTK := hide htk
        have HBM := hide (List.mem_map_of_mem (f := tellOf) hmem)
        have k0 : (0 : Int) ≤ k := by omega
        have hgw : g < wr.heap.size := by have := HW.out.size; omega
        clear hr htk hlf hmem
        cases hbk : blkOk (x, y, ls) with
        | false =>
          have HE : Hid (flOk (rs.map tellOf) = false) := flOk_no HBM.out hbk
          go_wp2_with fail
          refine (iblk_any g (k * 3) x y _ ls lo _ hrl hgw c1 c2 c3 HLF.out.1).mono ?_
          rintro e w2 ⟨rfl, hb2⟩
          rw [hbk]
          have HB2 := hide (HBW.out.trans (hb2.mono HBW.out.size))
          clear hb2
          go_wp2
          go_ret
          exact ⟨by rw [HE.out]; rfl, HB2.out⟩
        | true =>
          have HOKB : Hid (∀ r ∈ rs.take (k + 1), blkOk (tellOf r) = true) := by
            show ∀ r ∈ rs.take (k + 1), blkOk (tellOf r) = true
            intro r hr
            rw [HTK.out] at hr
            rcases List.mem_append.1 hr with hr | hr
            · exact HN.out r hr
            · rw [List.mem_singleton] at hr
              subst hr
              exact hbk
          go_wp2_with fail
          refine (iblk_any g (k * 3) x y _ ls lo _ hrl hgw c1 c2 c3 HLF.out.1).mono ?_
          rintro e w2 ⟨rfl, hb2⟩
          rw [hbk]
          have HW2 := hide (HW.out.trans (hb2.mono HW.out.size))
          clear hb2
          go_wp2
          go_roundw
          case rel => exact ⟨k + 1, by omega, by go_num, HOKB, HW2⟩
          case measure => simp [intOf]; omega
      · have hke : k = rs.length := by omega
        have hn := HN.out
        rw [hke, List.take_of_length_le (Nat.le_refl _)] at hn
        have HE : Hid (flOk (rs.map tellOf) = true) := by
          show _ = _
          rw [flOk_all (fun b hb => by obtain ⟨r, hr, rfl⟩ := List.mem_map.1 hb; exact hn r hr)]
          rw [List.length_map]
          exact decide_eq_true (by have := HC.out; omega)
        clear hn hke
        go_wp2
        go_ret
        exact ⟨by rw [HE.out]; rfl, HBW.out⟩
  · have hcd : decide (3 ≤ (rs.length : Int) ∧ (rs.length : Int) ≤ 10) = false := decide_eq_false hc
    have HE : Hid (flOk (rs.map tellOf) = false) := by
      show _ = _
      unfold flOk
      rw [List.length_map, decide_eq_false (by omega)]
      rfl
    clear hc
    go_enter Tryz.func110, Tryz.ntmps110
    go_wp2_with fail
    refine (icount_any (rs.length : Int) _).mono ?_
    rintro e w1 ⟨rfl, rfl⟩
    rw [hcd]
    clear hcd
    go_wp2
    go_ret
    exact ⟨by rw [HE.out]; rfl, HB.out⟩
end Go.Proofs.YtfmnaidhfgmemaaGreatDoor
