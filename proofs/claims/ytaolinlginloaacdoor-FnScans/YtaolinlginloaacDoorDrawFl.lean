/-
  The draw of a flash of pages: spec.l06Flash, spec.DrawScanAll.
-/
import Derived.Test.YtaolinlginloaacDoorDrawA
import Derived.Test.YtaolinlginloaacDoorPq18
import Derived.Test.YtaolinlginloaacDoorPq7
namespace Go.Proofs.YtaolinlginloaacDoor
open Go.RowKit
open Words Sums

theorem prog_len (bs : List Bk) (b leaf : Int) (t : ByteArray) : (programF bs b leaf t).1.length = bs.length := by
  unfold programF
  split
  · unfold putLeaf
    exact List.length_modify ..
  · rfl
set_option maxHeartbeats 8000000 in
set_option maxRecDepth 100000 in
theorem l06Flash_any (p : Nat) (ad : Option Addr) (len cap B : Nat) (w : World) (hl : len ≤ 1048576) (hc : CurIn w p ad len cap) (hd : CodeIn w ad len B) (hB : B ≤ p) :
    Calls Tryd.prog 61 #[.pointer (some ⟨p, 0, none⟩)] w (AnyF w p ad len cap) := by
  have hpw := hc.2.2.2.2.2
  have hb0 := (Below.refl w.heap.size w).alloc (Nat.le_refl _) (.cells #[.slice none 0 0] 48)
  have R0 := hide (heap_alloc_new w (.cells #[.slice none 0 0] 48))
  have D0 := hide ((Drawn.refl hc).below hb0 hpw)
  have HD := hide hd
  have HD0 := hide (hd.on hb0 (by omega))
  have HZ := hide (show (w.alloc (.cells #[.slice none 0 0] 48)).heap.size = w.heap.size + 1 by simp)
  clear hc hd hb0
  go_enter Tryd.func61, Tryd.ntmps61
  go_wp2_with fail
  refine (once_any 3 p ad len cap B _ (by omega) hl D0.out.2 HD0.out hB).mono ?_
  rintro e w1 ⟨q, rfl, d1⟩
  have D1 := hide (D0.out.trans d1)
  have R1 := hide ((d1.1.block _ (by have := HZ.out; omega) (fun e => by cases e; omega)).trans R0.out)
  have s1 : w.heap.size + 1 ≤ w1.heap.size := by have := d1.1.size; have := HZ.out; omega
  have HD1 := hide (D1.out.code HD.out hB hpw)
  clear d1 R0 D0 HD0 HZ
  cases q with
  | true =>
    go_wp2_with fail
    refine (l05Any_any p ad len cap B w1 hl D1.out.2 HD1.out hB).mono ?_
    rintro e w2 ⟨v, rs, rfl, hlen, hrd, d2⟩
    have D2 := hide (D1.out.trans d2)
    have R2 := hide ((d2.1.block _ (by omega) (fun e => by cases e; omega)).trans R1.out)
    have hrd2 := hrd
    obtain ⟨vd, vc, rfl, -⟩ := hrd2
    have n1 : w2.cell? ⟨w.heap.size, 0, none⟩ = some (.slice none 0 0) := cell_of_row _ _ 0 _ _ _ R2.out
    have f1 := frozen_of_row _ _ 0 _ _ R2.out
    have Q1 := hide (row_set R2.out 0 (.slice vd rs.length vc))
    have G := hide (rd_aside hrd R2.out (.slice vd rs.length vc))
    have DE := hide (D2.out.below ((Below.refl _ _).setCell (p := ⟨w.heap.size, 0, none⟩) (Nat.le_refl _) (.slice vd rs.length vc)) hpw)
    have HLn := hide hlen
    clear hrd hlen d2 D1 R1
    go_wp2
    exact bodyPost_ret (results_cell_row rfl _ _ w.heap.size 48 _ (0, 0) _ rfl Q1.out Tryd.underlying48 rfl infoFlash1) rfl ⟨_, rs, rfl, HLn.out, G.out, DE.out⟩
  | false =>
    go_wp2_with fail
    refine (snew_any 4 _).mono ?_
    rintro e w2 ⟨u, rfl, fo, b2⟩
    have hn := Right.new (n := 4) (by omega)
    have h40 : (newF 4).length = 4 := rfl
    generalize newF 4 = bs0 at fo hn h40
    obtain ⟨ud, ucap, rfl⟩ := fo.form
    have b3 := b2.alloc b2.size (.cells #[.slice ud bs0.length ucap] 48)
    have DS0 : Hid (DrawS w (w2.alloc (.cells #[.slice ud bs0.length ucap] 48)) w2.heap.size p ad len cap (.slice ud bs0.length ucap) bs0) :=
      ⟨(b3.block _ (by omega)).trans R1.out, heap_alloc_new w2 _, (fo.below ((Below.refl _ _).alloc (Nat.le_refl _) _)).down s1, D1.out.below (b3.mono (by omega)) hpw⟩
    have HR0 := hide hn
    have hgf : w.heap.size < w2.heap.size := by have := b2.size; omega
    have HL0 := hide h40
    clear h40
    clear fo b2 b3 hn R1 D1
    go_wp2
    generalize w2.alloc (.cells #[.slice ud bs0.length ucap] 48) = w3 at DS0 ⊢
    generalize w2.heap.size = gf at DS0 hgf ⊢
    go_loopw [5] (fun iv wr => ∃ (k : Nat) (v : Value) (bs : List Bk), k ≤ 14 ∧ iv = .int .i64 k ∧ Hid (Right 0 bs ∧ bs.length = 4) ∧ Hid (DrawS w wr gf p ad len cap v bs)) (fun iv _ => 14 - (intOf iv).toNat)
    case atStart => exact ⟨0, _, bs0, Nat.zero_le _, rfl, ⟨HR0.out, HL0.out⟩, DS0⟩
    case round =>
      obtain ⟨k, v, bs, hk, rfl, HR, DS⟩ := hrel
      obtain ⟨vd, vcap, rfl⟩ := DS.out.2.2.1.form
      have hb4 := HR.out.2
      rw [hb4] at DS
      go_wp2_with fail
      refine (dBelow 14 DS.out (by omega) hl HD.out hB hpw hgf).mono ?_
      rintro e w4 ⟨y, rfl, y0, y1, ds4⟩
      have y2 := y1 (by omega)
      have DS4 := hide ds4
      clear ds4 y1 DS DS0
      by_cases hlt : (k : Int) < y
      · go_wp2_with fail
        refine (dpage p ad len cap B w4 hl DS4.out.2.2.2.2 (DS4.out.2.2.2.code HD.out hB hpw) hB).mono ?_
        rintro e w5 ⟨pg, rfl, -, d5⟩
        have DS5 := hide (DS4.out.drawn d5 hpw hgf)
        clear d5 DS4
        have CT := hide (spageText pg w5)
        obtain ⟨T, ok, hT⟩ : ∃ T ok, ptRes pg = .tuple #[.string T, .bool ok] := by unfold ptRes; split <;> exact ⟨_, _, rfl⟩
        rw [hT] at CT
        unfold pgVal at CT ⊢
        clear hT
        go_wp2_with fail
        refine CT.out.mono ?_
        rintro e w6 ⟨rfl, b6⟩
        have DS6 := hide (DS5.out.below b6 hpw)
        clear b6 DS5 CT
        go_wp2_with fail
        refine (dBelow 4 DS6.out (by omega) hl HD.out hB hpw hgf).mono ?_
        rintro e w7 ⟨b, rfl, b0, b1, ds7⟩
        have b2 := b1 (by omega)
        have DS7 := hide ds7
        obtain ⟨c7, f7⟩ := ds7.cell
        clear ds7 b1 DS6
        obtain ⟨kb, rfl⟩ : ∃ kb : Nat, b = kb := ⟨b.toNat, by omega⟩
        cases ok with
        | false =>
          go_wp2
          go_roundw
          case rel => exact ⟨k + 1, _, bs, by omega, by go_num, HR, DS7⟩
          case measure => simp [intOf]; omega
        | true =>
          have hkb : kb < bs.length := by omega
          have hr : bs[kb]? = some bs[kb] := List.getElem?_eq_getElem hkb
          generalize bs[kb] = r at hr
          have h4 : r.2.2.length = 4 := HR.out.1.lens.2.2 r (List.mem_of_getElem? hr)
          obtain ⟨gu, rfl, hgu, hguw, -⟩ := DS7.out.2.2.1.ptr (by omega)
          have DS7d := hide (DS7.out.drew hpw)
          obtain ⟨ld, lcap, ⟨k1, k2, k3⟩, own⟩ := DS7d.out.2.2.1.blk hr
          have OWN := hide own
          obtain ⟨x, y', ls⟩ := r
          simp only at k1 k2 k3 h4
          have hl6 : ls.length ≤ 1048576 := by omega
          have b00 : (0 : Int) ≤ kb := by omega
          have b04 : (kb : Int) < 4 := by omega
          have k1' : w7.cell? ⟨gu, kb * 3, none⟩ = some (.bool x) := k1
          have k2' : w7.cell? ⟨gu, kb * 3 + 1, none⟩ = some (.int .i64 y') := k2
          have k3' : w7.cell? ⟨gu, kb * 3 + 2, none⟩ = some (.slice ld ls.length lcap) := k3
          clear own hr h4 k1 k2 k3
          go_wp2
          go_region_with (first
            | (go_at_call 89; refine (snext_any x y' _ ls _ _ hl6 OWN.out).mono ?_; rintro en w8 ⟨rfl, b8⟩; have DS8 := hide (DS7d.out.below b8 hpw); obtain ⟨c8, f8⟩ := DS8.out.cell; clear b8)
            | (go_at_call 88; refine (dProg (kb : Int) ((nextB ls : Nat) : Int) T DS8.out HR.out.1).mono ?_; rintro en w10 ⟨u, rfl, fo, b10⟩; have DS10 := hide (DS8.out.set b10 fo hpw hgf); have HR10 : Hid (Right 0 (programF bs (kb : Int) ((nextB ls : Nat) : Int) T).1 ∧ (programF bs (kb : Int) ((nextB ls : Nat) : Int) T).1.length = 4) := ⟨HR.out.1.prog (kb : Int) ((nextB ls : Nat) : Int) T, (prog_len _ _ _ _).trans HR.out.2⟩; obtain ⟨c10, f10⟩ := (DS8.out.below b10 hpw).cell; generalize programF bs (kb : Int) ((nextB ls : Nat) : Int) T = pr at fo DS10 HR10 ⊢; obtain ⟨ud10, ucap10, rfl⟩ := fo.form; clear fo b10))
          all_goals
            go_wp2
            refine ⟨⟨k + 1, _, pr.1, by omega, (by first | rfl | go_num), HR10, DS10⟩, by simp [intOf]; omega⟩
      · obtain ⟨rs, en⟩ := EndA.of DS4.out HR.out.1
        have EN := hide en
        clear en
        have n1 : w4.cell? ⟨w.heap.size, 0, none⟩ = some (.slice none 0 0) := cell_of_row _ _ 0 _ _ _ EN.out.1
        have f1 := frozen_of_row _ _ 0 _ _ EN.out.1
        have c1 : w4.cell? ⟨gf, 0, none⟩ = some (.slice vd 4 vcap) := cell_of_row _ _ 0 _ _ _ EN.out.2.1
        have QE := hide (EN.out.fin hpw)
        go_wp2
        exact bodyPost_ret (results_cell_row rfl _ _ w.heap.size 48 _ (0, 0) _ rfl QE.out.1 Tryd.underlying48 rfl infoFlash1) rfl ⟨_, _, rfl, EN.out.2.2.2.1.1, QE.out.2.1, QE.out.2.2⟩

set_option maxHeartbeats 400000 in
set_option maxRecDepth 100000 in
theorem drawScan_any (ad : Option Addr) (len cap : Nat) (w : World) (hl : len ≤ 1048576) (hd : CodeIn w ad len w.heap.size) :
    Calls Tryd.prog 26 #[.slice ad len cap] w fun e w' => ∃ v rs, e = .returned (.agg #[v]) ∧ LenF rs ∧ FlashRd w' v rs ∧ Below w.heap.size w w' := by
  have hb0 := (Below.refl w.heap.size w).alloc (Nat.le_refl _) (.cells #[.slice none 0 0] 48)
  have R0 := hide (heap_alloc_new w (.cells #[.slice none 0 0] 48))
  have HZ := hide (show (w.alloc (.cells #[.slice none 0 0] 48)).heap.size = w.heap.size + 1 by simp)
  have HB0 := hide hb0
  have HD := hide (hd.on hb0 (Nat.le_refl _))
  clear hd hb0
  go_enter Tryd.func26, Tryd.ntmps26
  go_wp2_with fail
  refine (new_any ad len cap w.heap.size _ hl HD.out).mono ?_
  rintro e w1 ⟨p, rfl, hp, hc, b1⟩
  have HC := hide hc
  have hz := HZ.out
  have s1 := b1.size
  have HD1 := hide (HD.out.on b1 (by omega))
  have R1 := hide ((b1.block _ (by omega)).trans R0.out)
  have HB1 := hide (HB0.out.trans (b1.mono (by omega)))
  have hpw := hc.2.2.2.2.2
  clear hc b1 R0 HD HB0
  go_wp2_with fail
  refine (l06Flash_any p ad len cap w.heap.size _ hl HC.out HD1.out (by omega)).mono ?_
  rintro e w2 ⟨v, rs, rfl, hlen, hrd, d2⟩
  have R2 := (d2.1.block _ (by omega) (fun e => by cases e; omega)).trans R1.out
  have HLn := hide hlen
  have HB2 := HB1.out.trans (grown_below d2.1 (show w.heap.size ≤ p by omega) (by omega))
  have hrd2 := hrd
  obtain ⟨vd, vcap, rfl, -⟩ := hrd2
  have n1 : w2.cell? ⟨w.heap.size, 0, none⟩ = some (.slice none 0 0) := cell_of_row _ _ 0 _ _ _ R2
  have f1 := frozen_of_row _ _ 0 _ _ R2
  have Q1 := hide (row_set R2 0 (.slice vd rs.length vcap))
  have G := hide (rd_aside hrd R2 (.slice vd rs.length vcap))
  have HBE := hide (HB2.setCell (p := ⟨w.heap.size, 0, none⟩) (Nat.le_refl _) (.slice vd rs.length vcap))
  clear R2 HB2 hrd hlen d2 hz
  go_wp2
  exact bodyPost_ret (results_cell_row rfl _ _ w.heap.size 48 _ (0, 0) _ rfl Q1.out Tryd.underlying48 rfl infoFlash1) rfl ⟨_, rs, rfl, HLn.out, G.out, HBE.out⟩
end Go.Proofs.YtaolinlginloaacDoor
