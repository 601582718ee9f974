/-
  IPlace; Fla; SNext; SMay; SLeaf
-/
import Derived.Test.YtfmnaidhfgmemaaGreatDoorPk8
import Derived.Test.YtfmnaidhfgmemaaGreatDoorPk16
import Derived.Test.YtfmnaidhfgmemaaGreatDoorPk15
import Derived.Test.YtfmnaidhfgmemaaGreatDoorPk12
import Derived.Test.YtfmnaidhfgmemaaGreatDoorPk0
import Derived.Test.YtfmnaidhfgmemaaGreatDoorPk13
import Derived.Test.YtfmnaidhfgmemaaGreatDoorPk3
namespace Go.Proofs.YtfmnaidhfgmemaaGreatDoor
open Go.RowKit
theorem worn_field (x y : Int) (w : World) : Sem.run Tryz.prog (Instr.field 182 (.agg #[.int .i64 x, .int .i64 y]) 0) w = .ok (.int .i64 x) w := by kernel_rfl
theorem hlen_of {w0 w : World} {hp q : Nat} {L : List Wb} (h : HeapOf w0 w hp q L) :
    Calls Tryz.prog 114 #[.pointer (some ⟨hp, 0, none⟩)] w fun e w' => e = .returned (.int .i64 L.length) ∧ w' = w := by
  obtain ⟨u, D, -, h2, -, h4, -⟩ := h
  rw [← h2]
  exact hlen_any hp q u D w h4
set_option maxHeartbeats 1000000 in
set_option maxRecDepth 100000 in
theorem iplace_any (v : Value) (rs : List Rw) (lo hi : Nat) (w : World) (hl : rs.length ≤ 1048576) (hll : ∀ r ∈ rs, r.2.2.2.length ≤ 1048576) (hh : hi ≤ w.heap.size) (ha : FlashIn w lo hi v rs) :
    Calls Tryz.prog 76 #[.agg #[v]] w fun e w' => e = .returned (plV (placeF (rs.map tellOf))) ∧ Below w.heap.size w w' := by
  have hf1 := ha.1
  obtain ⟨vd, vcap, rfl, -, -, a3⟩ := frow_form hf1
  clear hf1
  obtain ⟨n, hn⟩ : ∃ n, rs.length = n := ⟨_, rfl⟩
  have b1 := (Below.refl w.heap.size w).alloc (Nat.le_refl _) (.cells #[.slice vd n vcap] 39)
  have HF := hide ha
  have HN := hide hn
  have A3 := hide a3
  have HLL := hide hll
  have HH := hide hh
  have R1 := hide (heap_alloc_new w (.cells #[.slice vd n vcap] 39))
  have C1 : Hid (∀ W, Below w.heap.size w W → Calls Tryz.prog 110 #[.agg #[.slice vd n vcap]] W fun e w' => e = .returned (.bool (flOk (rs.map tellOf))) ∧ Below W.heap.size W w') := by
    intro W hW
    have := iok_any (.slice vd rs.length vcap) rs lo hi W hl hll (Nat.le_trans hh hW.size) (ha.below hW hh)
    rw [hn] at this
    exact this
  have C2 : Hid (∀ W, Below w.heap.size w W → Calls Tryz.prog 111 #[.agg #[.slice vd n vcap]] W fun e w' => e = .returned (.int .i64 (openF (rs.map tellOf))) ∧ Below W.heap.size W w') := by
    intro W hW
    have := iopen_any (.slice vd rs.length vcap) rs lo hi W hl hll (Nat.le_trans hh hW.size) (ha.below hW hh)
    rw [hn] at this
    exact this
  have B1 := hide b1
  rw [hn] at hl ⊢
  clear hll ha a3 hh b1
  cases hok : flOk (rs.map tellOf) with
  | false =>
    have PF := hide (place_no hok)
    rw [hok] at C1
    clear hok hn
    go_enter Tryz.func76, Tryz.ntmps76
    go_wp2_with fail
    refine (C1.out _ B1.out).mono ?_
    rintro e w2 ⟨rfl, b2⟩
    have B2 := hide (B1.out.trans (b2.mono B1.out.size))
    clear b2
    go_wp2
    go_ret3
    exact ⟨by rw [PF.out]; rfl, B2.out⟩
  | true =>
    have hfl := flOk_len hok
    rw [List.length_map, hn] at hfl
    rw [hok] at C1
    have HOK := hide hok
    clear hok hn
    go_enter Tryz.func76, Tryz.ntmps76
    go_wp2_with fail
    refine (C1.out _ B1.out).mono ?_
    rintro e w2 ⟨rfl, b2⟩
    have B2 := hide (B1.out.trans (b2.mono B1.out.size))
    have R2 := hide ((b2.block _ (Array.getElem?_eq_some_iff.1 R1.out).1).trans R1.out)
    have c2 : w2.cell? ⟨w.heap.size, 0, none⟩ = some (.slice vd n vcap) := cell_of_row _ _ 0 _ _ _ R2.out
    clear b2 C1 R1 B1
    go_wp2_with fail
    refine (C2.out _ B2.out).mono ?_
    rintro e w3 ⟨rfl, b3⟩
    have B3 := hide (B2.out.trans (b3.mono B2.out.size))
    have R3 := hide ((b3.block _ (Array.getElem?_eq_some_iff.1 R2.out).1).trans R2.out)
    have c3 : w3.cell? ⟨w.heap.size, 0, none⟩ = some (.slice vd n vcap) := cell_of_row _ _ 0 _ _ _ R3.out
    clear b3 C2 R2 B2 c2
    rcases openF_cases (rs.map tellOf) with ⟨ho, -⟩ | ⟨k, b, ho, hb, -, -⟩
    · rw [ho]
      have HO := hide ho
      have C4 : Hid (Calls Tryz.prog 113 #[.agg #[.slice vd n vcap]] w3 fun e w' => WearP w3 (wearL (rs.map tellOf) (freeL (rs.map tellOf))) e w') := by
        have := iwear_any (.slice vd rs.length vcap) rs lo hi w3 (by have := HN.out; omega) HLL.out (Nat.le_trans HH.out B3.out.size) (HF.out.below B3.out HH.out)
        rw [HN.out] at this
        exact this
      clear ho
      go_wp2_with fail
      refine C4.out.mono ?_
      rintro e w4 ⟨hp, q, rfl, h4, hlt, b4⟩
      have B4 := hide (B3.out.trans (b4.mono B3.out.size))
      have HP := hide h4
      have C5 := hide (hlen_of h4)
      have hll : (wearL (rs.map tellOf) (freeL (rs.map tellOf))).length ≤ 10 := by
        have := freeTo_len (rs.map tellOf) (rs.map tellOf).length
        simp only [wearL, freeL, List.length_map] at this ⊢
        have := HN.out
        omega
      clear C4 b4 h4 c3 R3
      by_cases h0 : freeL (rs.map tellOf) = []
      · have PF := hide (place_full HOK.out HO.out h0)
        rw [h0] at C5
        clear h0
        go_wp2_with fail
        refine C5.out.mono ?_
        rintro e w5 ⟨rfl, rfl⟩
        clear C5
        go_wp2
        go_ret3
        exact ⟨by rw [PF.out]; rfl, B4.out⟩
      · obtain ⟨r, -, hr⟩ := leastW_some (L := wearL (rs.map tellOf) (freeL (rs.map tellOf))) (fun e => h0 (by simpa [wearL] using e))
        have PF := hide (place_least HOK.out HO.out hr)
        have hpos : 0 < (wearL (rs.map tellOf) (freeL (rs.map tellOf))).length := List.length_pos_of_mem hr.1
        have C6 := hide (least_any hp q _ r w4 w4 HP.out hr)
        generalize wearL (rs.map tellOf) (freeL (rs.map tellOf)) = L at *
        generalize L.length = m at C5 hpos hll
        have hm : ((m : Int) == 0) = false := by simp; omega
        have hm2 : ¬ (m : Int) = 0 := by omega
        have HLT := hide hlt
        have hps : Hid (w3.heap.size ≤ hp ∧ hp ≤ w4.heap.size ∧ hp < q) := by
          obtain ⟨u, D, -, -, -, h9, -⟩ := HP.out
          exact ⟨by omega, Nat.le_of_lt (Array.getElem?_eq_some_iff.1 h9.2.2.2.1).1, h9.1⟩
        clear h0 hr HP hlt
        go_wp2_with fail
        refine C5.out.mono ?_
        rintro e w5 ⟨rfl, rfl⟩
        clear C5
        go_wp2_with fail
        refine C6.out.mono ?_
        rintro e w6 ⟨rfl, k6⟩
        have B6 := hide (B4.out.trans ((k6.down hps.out.2.2 hps.out.2.1).mono (by have := B3.out.size; have := hps.out.1; omega)))
        obtain ⟨x, y⟩ := r
        simp only at PF ⊢
        have FD := worn_field x y
        clear C6 k6
        go_wp2
        go_ret3
        exact ⟨by rw [PF.out]; rfl, B6.out⟩
    · rw [ho]
      have hkl : k < n := by have := (List.getElem?_eq_some_iff.1 hb).1; rw [List.length_map] at this; have := HN.out; omega
      have PF := hide (place_open HOK.out ho hb)
      obtain ⟨r, hr⟩ : ∃ r, rs[k]? = some r := ⟨_, List.getElem?_eq_getElem (by have := HN.out; omega)⟩
      have hbr : b = tellOf r := by rw [List.getElem?_map, hr] at hb; cases hb; rfl
      subst hbr
      obtain ⟨gv, e, -, -⟩ := A3.out (by have := HN.out; omega)
      subst e
      have hfo := HF.out.below B3.out HH.out
      have hrow := hfo.1
      rw [HN.out] at hrow
      obtain ⟨c1, c2, c4⟩ := kown_cells (k := k) (t := cellOf r) hrow (by rw [List.getElem?_map, hr]; rfl)
      have hlf := (hfo.2.2.1 r (List.mem_of_getElem? hr)).1
      have hml := HLL.out r (List.mem_of_getElem? hr)
      obtain ⟨x, y, u, ls⟩ := r
      simp only [cellOf] at c1 c2 c4
      simp only [tellOf] at PF
      simp only at hlf hml
      have C4 := hide (inext_any x y u ls lo w3 hml hlf)
      generalize nextB ls = N at C4 PF
      have k0 : (0 : Int) ≤ k := by omega
      have kn : (k : Int) < n := by omega
      clear ho hb hr hfo hrow hlf hml
      go_wp2_with fail
      refine C4.out.mono ?_
      rintro e w4 ⟨rfl, b4⟩
      have B4 := hide (B3.out.trans (b4.mono B3.out.size))
      clear C4 b4
      go_wp2
      go_ret3
      exact ⟨by rw [PF.out]; rfl, B4.out⟩
end Go.Proofs.YtfmnaidhfgmemaaGreatDoor

namespace Go.Proofs.YtfmnaidhfgmemaaGreatDoor
open Go.RowKit
def Fla (lo hi : Nat) (v : Value) (bs : List Bk) : World → Prop := fun W => ∃ ss : List Rw, ss.map tellOf = bs ∧ FlashIn W lo hi v ss
theorem Fla.loc (lo hi : Nat) (v : Value) (bs : List Bk) : Loc lo hi (Fla lo hi v bs) := by
  rintro w w' hk ⟨ss, e, h⟩
  exact ⟨ss, e, h.kept hk⟩
theorem Fla.form {w : World} {lo hi : Nat} {v : Value} {bs : List Bk} (h : Fla lo hi v bs w) : ∃ ad cap, v = .slice ad bs.length cap ∧ (0 < bs.length → ∃ g, ad = some ⟨g, 0, none⟩ ∧ lo ≤ g ∧ g < hi) := by
  obtain ⟨ss, rfl, h⟩ := h
  obtain ⟨ad, cap, rfl, -, -, h3⟩ := frow_form h.1
  refine ⟨ad, cap, by simp, fun hp => ?_⟩
  obtain ⟨g, e, h4, -⟩ := h3 (by simpa using hp)
  subst e
  exact ⟨g, rfl, h4, h.2.1 g rfl⟩
theorem Tk.fla {w wi wj : World} {hs : List Hold} {v : Value} {bs : List Bk} (T : Tk w wi hs) (hb : Below wi.heap.size wi wj) (f : FlashOf wj wi.heap.size v bs) : Tk w wj ((wi.heap.size, wj.heap.size, Fla wi.heap.size wj.heap.size v bs) :: hs) := T.add hb (Fla.loc _ _ _ _) f
theorem Fla.of {w : World} {lo hi B : Nat} {v : Value} {bs : List Bk} (h : Fla lo hi v bs w) (hh : hi ≤ w.heap.size) (hB : B ≤ lo) : FlashOf w B v bs := by
  obtain ⟨ss, e, h⟩ := h
  exact ⟨ss, e, (h.up hh).down hB⟩
end Go.Proofs.YtfmnaidhfgmemaaGreatDoor

namespace Go.Proofs.YtfmnaidhfgmemaaGreatDoor
open Go.RowKit
set_option maxHeartbeats 400000 in
set_option maxRecDepth 100000 in
theorem snext_rd (x : Bool) (y : Int) (v : Value) (ls : List (Int × ByteArray)) (w : World) (hl : ls.length ≤ 1048576) (ha : LeafRd w v ls) :
    Calls Tryz.prog 96 #[.agg #[.bool x, .int .i64 y, v]] w fun e w' => e = .returned (.int .i64 (nextB ls : Nat)) ∧ Below w.heap.size w w' := by
  have ha1 := ha
  obtain ⟨ad, capa, rfl, -, -⟩ := ha1
  have HB := hide ((Below.refl w.heap.size w).alloc (Nat.le_refl _) (.cells #[.bool x, .int .i64 y, .slice ad ls.length capa] 80))
  have HA := hide (ha.below HB.out)
  clear ha
  go_enter Tryz.func96, Tryz.ntmps96
  go_wp2
  have hcb := cell_of_row _ _ 2 _ _ _ (heap_alloc_new w (.cells #[.bool x, .int .i64 y, .slice ad ls.length capa] 80))
  have HCB : Hid ((w.alloc (.cells #[.bool x, .int .i64 y, .slice ad ls.length capa] 80)).cell? ⟨w.heap.size, 2, none⟩ = some (.slice ad ls.length capa)) := hcb
  have HSZ := hide (show (w.alloc (.cells #[.bool x, .int .i64 y, .slice ad ls.length capa] 80)).heap.size = w.heap.size + 1 by simp)
  clear hcb
  generalize w.alloc (.cells #[.bool x, .int .i64 y, .slice ad ls.length capa] 80) = wA at HB HA HCB HSZ ⊢
  go_loopw [3] (fun iv wr => ∃ k : Nat, k ≤ ls.length ∧ iv = .int .i64 k ∧ Hid (∀ (j : Nat) (u : Int × ByteArray), j < k → ls[j]? = some u → u.1 ≠ 0) ∧ Hid (Below wA.heap.size wA wr)) (fun iv _ => ls.length - (intOf iv).toNat)
  case atStart => exact ⟨0, Nat.zero_le _, rfl, (show ∀ (j : Nat) (u : Int × ByteArray), j < 0 → ls[j]? = some u → u.1 ≠ 0 from fun j u hj => by omega), Below.refl _ _⟩
  case round =>
    obtain ⟨k, hk, rfl, HN, HW⟩ := hrel
    have hcb : wr.cell? ⟨w.heap.size, 2, none⟩ = some (.slice ad ls.length capa) := (HW.out.cell (show w.heap.size < wA.heap.size by have := HSZ.out; omega)).trans HCB.out
    have HBW := hide (HB.out.trans (HW.out.mono HB.out.size))
    by_cases hlt : (k : Int) < ls.length
    · obtain ⟨g, lo, el⟩ := HA.out.head (by omega)
      subst el
      have hkl : k < ls.length := by omega
      obtain ⟨z, t, ht⟩ : ∃ z t, ls[k]? = some (z, t) := ⟨ls[k].1, ls[k].2, List.getElem?_eq_getElem hkl⟩
      obtain ⟨c1, -⟩ := (HA.out.below HW.out).two ht
      simp only at c1
      have HTT := hide ht
      have k0 : (0 : Int) ≤ k := by omega
      clear ht
      by_cases hz : z = 0
      · subst hz
        have HE := hide (nextB_at HTT.out rfl HN.out)
        go_wp2
        go_ret
        exact ⟨by rw [HE.out]; rfl, HBW.out⟩
      · have hz2 : (z == 0) = false := by simpa using hz
        go_wp2
        go_roundw
        case rel =>
          refine ⟨k + 1, by omega, by go_num, hide (fun j u hj hu => ?_), HW⟩
          by_cases hjk : j = k
          · subst hjk
            rw [HTT.out] at hu
            cases hu
            exact hz
          · exact HN.out j u (by omega) hu
        case measure => simp [intOf]; omega
    · have hke : k = ls.length := by omega
      have HE := hide (nextB_none (ls := ls) (fun j u hu => HN.out j u (by have := (List.getElem?_eq_some_iff.1 hu).1; omega) hu))
      clear hke
      go_wp2
      go_ret
      exact ⟨by rw [HE.out]; rfl, HBW.out⟩
end Go.Proofs.YtfmnaidhfgmemaaGreatDoor

namespace Go.Proofs.YtfmnaidhfgmemaaGreatDoor
open Go.RowKit
theorem mayP_out {bs : List Bk} {b leaf : Int} {t : ByteArray} (h : ¬ (0 ≤ b ∧ b ≤ (bs.length : Int) - 1)) : mayP bs b leaf t = false := by
  unfold mayP
  cases hb : bs[b.toNat]? with
  | none => rfl
  | some r =>
    have := (List.getElem?_eq_some_iff.1 hb).1
    exact decide_eq_false (fun hh => h ⟨hh.1, by omega⟩)
theorem mayP_in {bs : List Bk} {b leaf : Int} {t : ByteArray} {r : Bk} (h0 : 0 ≤ b) (hr : bs[b.toNat]? = some r) : mayP bs b leaf t = decide (r.1 = false ∧ leaf < 4 ∧ leaf = nextB r.2.2 ∧ 1 ≤ t.size ∧ t.size ≤ 120) := by
  unfold mayP
  rw [hr]
  simp [h0]
set_option maxHeartbeats 800000 in
set_option maxRecDepth 100000 in
theorem smay_rd (v : Value) (rs : List Rw) (b leaf : Int) (t : ByteArray) (w : World) (hl : rs.length ≤ 1048576) (hll : ∀ r ∈ rs, r.2.2.2.length ≤ 1048576) (ha : FlashRd w v rs) :
    Calls Tryz.prog 131 #[.agg #[v], .int .i64 b, .int .i64 leaf, .string t] w fun e w' => e = .returned (.bool (mayP (rs.map tellOf) b leaf t)) ∧ Below w.heap.size w w' := by
  have ha1 := ha
  obtain ⟨ad, capa, rfl, -, -⟩ := ha1
  have HLL := hide hll
  have HB := hide ((Below.refl w.heap.size w).alloc (Nat.le_refl _) (.cells #[.slice ad rs.length capa] 39))
  have HA := hide (ha.below HB.out)
  have hw1 : IntKind.i64.wrap ((rs.length : Int) - 1) = (rs.length : Int) - 1 := by rw [IntKind.wrap_i64]; omega
  clear ha hll
  by_cases hb : 0 ≤ b ∧ b ≤ (rs.length : Int) - 1
  · have hbd : decide (0 ≤ b ∧ b ≤ (rs.length : Int) - 1) = true := decide_eq_true hb
    obtain ⟨k, rfl⟩ : ∃ k : Nat, b = k := ⟨b.toNat, by omega⟩
    have hkl : k < rs.length := by omega
    have hr : rs[k]? = some rs[k] := List.getElem?_eq_getElem hkl
    generalize rs[k] = r at hr
    have hmem := List.mem_of_getElem? hr
    have hrl := HLL.out r hmem
    obtain ⟨g, eg, ⟨c1, c2, c3⟩, hlf⟩ := HA.out.at hr
    subst eg
    obtain ⟨x, y, u, ls⟩ := r
    simp only at c1 c2 c3
    simp only at hlf hrl
    have HM := hide (mayP_in (bs := rs.map tellOf) (leaf := leaf) (t := t) (r := (x, y, ls)) hb.1 (by rw [List.getElem?_map, Int.toNat_natCast, hr]; rfl))
    have hlf2 := hlf
    obtain ⟨ld, capl, rfl, -, -⟩ := hlf2
    have HLF := hide hlf
    have k0 : (0 : Int) ≤ k := by omega
    clear hr hmem hlf hb
    cases x with
    | true =>
      have HE : Hid (mayP (rs.map tellOf) k leaf t = false) := HM.out.trans (decide_eq_false (by simp))
      go_enter Tryz.func131, Tryz.ntmps131
      go_wp2_with fail
      refine (sin_any (k : Int) 0 ((rs.length : Int) - 1) _).mono ?_
      rintro e w1 ⟨rfl, rfl⟩
      rw [hbd]
      clear hbd
      go_wp2
      go_ret
      exact ⟨by rw [HE.out]; rfl, HB.out⟩
    | false =>
      by_cases hl4 : leaf < 4
      · have hl4b : decide (leaf < 4) = true := decide_eq_true hl4
        go_enter Tryz.func131, Tryz.ntmps131
        go_wp2_with fail
        refine (sin_any (k : Int) 0 ((rs.length : Int) - 1) _).mono ?_
        rintro e w1 ⟨rfl, rfl⟩
        rw [hbd]
        clear hbd
        go_wp2_with fail
        refine (snext_rd false y _ ls _ hrl HLF.out).mono ?_
        rintro e w2 ⟨rfl, b2⟩
        have HB2 := hide (HB.out.trans (b2.mono HB.out.size))
        clear b2
        by_cases hn : leaf = nextB ls
        · have hnb : (leaf == (nextB ls : Int)) = true := by simp [hn]
          have HE : Hid (mayP (rs.map tellOf) k leaf t = decide ((1 : Int) ≤ t.size ∧ (t.size : Int) ≤ 120)) := by
            show _ = _
            rw [HM.out]
            congr 1
            apply propext
            constructor
            · intro hh
              exact ⟨by have := hh.2.2.2.1; omega, by have := hh.2.2.2.2; omega⟩
            · intro hh
              exact ⟨by trivial, hl4, hn, by omega, by omega⟩
          clear hn
          go_wp2_with fail
          refine (sin_any (t.size : Int) 1 120 _).mono ?_
          rintro e w3 ⟨rfl, rfl⟩
          rw [← HE.out]
          clear HE
          go_wp2
          go_ret
          exact ⟨rfl, HB2.out⟩
        · have hnb : (leaf == (nextB ls : Int)) = false := by simpa using hn
          have HE : Hid (mayP (rs.map tellOf) k leaf t = false) := HM.out.trans (decide_eq_false (fun hh => hn hh.2.2.1))
          clear hn
          go_wp2
          go_ret
          exact ⟨by rw [HE.out]; rfl, HB2.out⟩
      · have hl4b : decide (leaf < 4) = false := decide_eq_false hl4
        have HE : Hid (mayP (rs.map tellOf) k leaf t = false) := HM.out.trans (decide_eq_false (fun hh => hl4 hh.2.1))
        go_enter Tryz.func131, Tryz.ntmps131
        go_wp2_with fail
        refine (sin_any (k : Int) 0 ((rs.length : Int) - 1) _).mono ?_
        rintro e w1 ⟨rfl, rfl⟩
        rw [hbd]
        clear hbd
        go_wp2
        go_ret
        exact ⟨by rw [HE.out]; rfl, HB.out⟩
  · have hbd : decide (0 ≤ b ∧ b ≤ (rs.length : Int) - 1) = false := decide_eq_false hb
    have HE : Hid (mayP (rs.map tellOf) b leaf t = false) := mayP_out (by rw [List.length_map]; exact hb)
    clear hb
    go_enter Tryz.func131, Tryz.ntmps131
    go_wp2_with fail
    refine (sin_any b 0 ((rs.length : Int) - 1) _).mono ?_
    rintro e w1 ⟨rfl, rfl⟩
    rw [hbd]
    clear hbd
    go_wp2
    go_ret
    exact ⟨by rw [HE.out]; rfl, HB.out⟩
end Go.Proofs.YtfmnaidhfgmemaaGreatDoor

namespace Go.Proofs.YtfmnaidhfgmemaaGreatDoor
open Go.RowKit
set_option maxHeartbeats 400000 in
set_option maxRecDepth 100000 in
theorem sleaf_any (x : Int) (t : ByteArray) (w : World) :
    Calls Tryz.prog 130 #[.agg #[.int .i64 x, .string t]] w fun e w' => e = .returned (.bool (leafOk (x, t))) ∧ Below w.heap.size w w' := by
  have HB := hide ((Below.refl w.heap.size w).alloc (Nat.le_refl _) (.cells #[.int .i64 x, .string t] 119))
  by_cases h0 : x = 0
  · subst h0
    have HE : Hid (leafOk (0, t) = t.toList.isEmpty) := by
      show _ = _
      simp only [leafOk]
      rw [Lib.toList_data]
      have hsz : t.size = t.data.toList.length := rfl
      cases hc : t.data.toList with
      | nil => rw [hc] at hsz; exact decide_eq_true (Or.inl ⟨trivial, hsz⟩)
      | cons a l => rw [hc] at hsz; exact decide_eq_false (by simp only [List.length_cons] at hsz; omega)
    go_enter Tryz.func130, Tryz.ntmps130
    go_wp2
    go_ret
    exact ⟨by rw [HE.out]; rfl, HB.out⟩
  · by_cases h1 : x = 1
    · subst h1
      have HE : Hid (leafOk (1, t) = decide ((1 : Int) ≤ t.size ∧ (t.size : Int) ≤ 120)) := by
        show _ = _
        simp only [leafOk]
        congr 1
        apply propext
        simp
        omega
      go_enter Tryz.func130, Tryz.ntmps130
      go_wp2_with fail
      refine (sin_any (t.size : Int) 1 120 _).mono ?_
      rintro e w1 ⟨rfl, rfl⟩
      rw [← HE.out]
      clear HE
      go_wp2
      go_ret
      exact ⟨rfl, HB.out⟩
    · have e0 : (x == 0) = false := by simpa using h0
      have e1 : (x == 1) = false := by simpa using h1
      by_cases h2 : x = 2
      · subst h2
        have HE : Hid (leafOk (2, t) = decide ((t.size : Int) ≤ 120)) := by
          show _ = _
          simp only [leafOk]
          congr 1
          apply propext
          simp
          omega
        go_enter Tryz.func130, Tryz.ntmps130
        go_wp2
        go_ret
        exact ⟨by rw [HE.out]; rfl, HB.out⟩
      · have e2 : (x == 2) = false := by simpa using h2
        have HE : Hid (leafOk (x, t) = false) := by
          show _ = _
          simp only [leafOk]
          exact decide_eq_false (by omega)
        go_enter Tryz.func130, Tryz.ntmps130
        go_wp2
        go_ret
        exact ⟨by rw [HE.out]; rfl, HB.out⟩
end Go.Proofs.YtfmnaidhfgmemaaGreatDoor
