/-
  The draws of texts to be packed.
-/
import Derived.Test.YtaolinlginloaaaD2o
import Derived.Test.YtaolinlginloaaaD3
import Derived.Test.YtaolinlginloaaaD3l
namespace Go.Proofs.Ytaolinlginloaaa
open Go.RowKit

set_option maxHeartbeats 400000 in
theorem pick_any (g : Nat) (ls : List ByteArray) (m : Nat) (p : Nat) (ad : Option Addr) (len cap B : Nat) (w : World) (h0 : 0 < ls.length) (h1 : ls.length ≤ 1000) (hg : g ≠ p) (hm : ∀ t ∈ ls, t.size ≤ m)
    (hcells : ∀ j, j < ls.length → w.cell? ⟨g, j, none⟩ = some (.string (ls.getD j ⟨#[]⟩))) (hl : len ≤ 1048576) (hc : CurIn w p ad len cap) (hd : CodeIn w ad len B) (hB : B ≤ p) :
    Calls Try.prog 34 #[.pointer (some ⟨p, 0, none⟩), .slice (some ⟨g, 0, none⟩) ls.length ls.length] w fun e w' => ∃ t : ByteArray, e = .returned (.string t) ∧ t.size ≤ m ∧ Drawn w w' p ad len cap := by
  have HC := hide hc
  have HD := hide hd
  have HL := hide hcells
  have HM := hide hm
  clear hc hd hcells hm
  go_enter Try.func34, Try.ntmps34
  go_wp2_with fail
  refine (below_any (ls.length : Int) p ad len cap B _ (by omega) hl HC.out HD.out hB).mono ?_
  rintro e w1 ⟨x, rfl, x0, x1, _, D1⟩
  have x2 := x1 (by omega)
  obtain ⟨j, rfl⟩ := Int.eq_ofNat_of_zero_le x0
  have hcw := HL.out j (by omega)
  have hgw : g < w.heap.size := World.block_lt_of_cell? w _ hcw
  have hc1 : w1.cell? ⟨g, j, none⟩ = some (.string (ls.getD j ⟨#[]⟩)) := by
    rw [World.cell?_of_block (w := w) (D1.1.block g hgw (by simpa using hg))]; exact hcw
  have hmm : (ls.getD j ⟨#[]⟩).size ≤ m := by
    have hj : j < ls.length := by omega
    refine HM.out _ ?_
    rw [List.getD_eq_getElem?_getD, List.getElem?_eq_getElem hj]
    exact List.getElem_mem _
  obtain ⟨y, hy⟩ : ∃ y, ls.getD j ⟨#[]⟩ = y := ⟨_, rfl⟩
  rw [hy] at hc1 hmm
  have HD1 := hide D1
  have HY := hide hmm
  clear D1 hcw hy x1 hmm
  go_wp2
  go_ret
  exact ⟨y, rfl, HY.out, HD1.out⟩

/-- Seven texts in a new block. -/
theorem seven_cells (w : World) (a b c d e f g : ByteArray) (t : TypeId) : ∀ j, j < [a, b, c, d, e, f, g].length → (w.alloc (.cells #[.string a, .string b, .string c, .string d, .string e, .string f, .string g] t)).cell? ⟨w.heap.size, j, none⟩ = some (.string ([a, b, c, d, e, f, g].getD j ⟨#[]⟩)) := by
  intro j hj
  match j, hj with
  | 0, _ => simp
  | 1, _ => simp
  | 2, _ => simp
  | 3, _ => simp
  | 4, _ => simp
  | 5, _ => simp
  | 6, _ => simp

set_option maxHeartbeats 400000 in
set_option maxRecDepth 100000 in
theorem plainD_any (p : Nat) (ad : Option Addr) (len cap B : Nat) (w : World) (hl : len ≤ 1048576) (hc : CurIn w p ad len cap) (hd : CodeIn w ad len B) (hB : B ≤ p) :
    Calls Try.prog 40 #[.pointer (some ⟨p, 0, none⟩)] w fun e w' => ∃ t : ByteArray, e = .returned (.string t) ∧ t.size ≤ 64 ∧ Drawn w w' p ad len cap := by
  have hpw := hc.2.2.2.2.2
  have HC := hide hc
  have HD := hide hd
  clear hc hd
  go_enter Try.func40, Try.ntmps40
  go_wp2
  go_loopw [3, 4] (fun sv iv wr => ∃ (k : Nat) (s : ByteArray), k ≤ 8 ∧ s.size ≤ 8 * k ∧ sv = .string s ∧ iv = .int .i64 k ∧ Hid (Drawn w wr p ad len cap)) (fun _ iv _ => 8 - (intOf iv).toNat)
  case atStart => exact ⟨0, ⟨#[]⟩, by omega, Nat.le_refl _, rfl, rfl, Drawn.refl HC.out⟩
  case round =>
    obtain ⟨k, s, hk, hs, rfl, rfl, HR⟩ := hrel
    have HDr := hide (HR.out.code HD.out hB hpw)
    go_wp2_with fail
    refine (below_any 8 p ad len cap B _ (by omega) hl HR.out.2 HDr.out hB).mono ?_
    rintro e w1 ⟨x, rfl, x0, x1, _, D1⟩
    have x2 := x1 (by omega)
    have HR1 := hide (HR.out.trans D1)
    have HD1 := hide (HR1.out.code HD.out hB hpw)
    clear D1 HR HDr x1
    by_cases hlt : (k : Int) < x
    · have hpw1 := HR1.out.2.2.2.2.2.2
      have hne : w1.heap.size ≠ p := by omega
      have HRA := hide (HR1.out.below (w2 := w1.alloc (.cells #[.string ⟨#[97, 98, 99, 100]⟩, .string ⟨#[97, 98]⟩, .string ⟨#[97, 98, 99, 100, 101, 102, 103, 104]⟩, .string ⟨#[120, 120, 120, 120, 120, 120, 120, 120]⟩, .string ⟨#[113]⟩, .string ⟨#[119, 114, 111, 116, 101]⟩, .string ⟨#[122, 122]⟩] 9)) ((Below.refl _ _).alloc (by have := HR1.out.1.size; exact this) _) hpw)
      have HDA := hide (HRA.out.code HD.out hB hpw)
      go_wp2_with fail
      refine (pick_any w1.heap.size [⟨#[97, 98, 99, 100]⟩, ⟨#[97, 98]⟩, ⟨#[97, 98, 99, 100, 101, 102, 103, 104]⟩, ⟨#[120, 120, 120, 120, 120, 120, 120, 120]⟩, ⟨#[113]⟩, ⟨#[119, 114, 111, 116, 101]⟩, ⟨#[122, 122]⟩] 8 p ad len cap B _ (by decide) (by decide) hne (by decide) (seven_cells w1 _ _ _ _ _ _ _ 9) hl HRA.out.2 HDA.out hB).mono ?_
      rintro e w2 ⟨t, rfl, ht, D2⟩
      have HR2 := hide (HRA.out.trans D2)
      clear D2 HRA HDA HR1 HD1
      go_wp2
      go_roundw
      case rel => exact ⟨k + 1, s ++ t, by omega, (by rw [ByteArray.size_append]; omega), rfl, by go_num, HR2⟩
      case measure => simp [intOf]; omega
    · by_cases h64 : (64 : Int) < s.size
      · omega
      · go_wp2
        go_ret
        exact ⟨s, rfl, by omega, HR1.out⟩

theorem longK_int (n : Int) (x : Nat) (w : World) (h0 : 0 ≤ n) (hn : n ≤ 1048576) (hx : x < 256) :
    Calls Try.prog 42 #[.int .i64 n, .int .u8 x] w fun e w' => ∃ t : ByteArray, e = .returned (.string t) ∧ (t.size : Int) = n ∧ Below w.heap.size w w' := by
  obtain ⟨m, rfl⟩ := Int.eq_ofNat_of_zero_le h0
  refine (long_any m x w (by omega) hx).mono ?_
  rintro e w' ⟨t, rfl, ht, hb⟩
  have : (⟨t.toArray⟩ : ByteArray).size = t.length := by show t.toArray.size = _; simp
  exact ⟨⟨t.toArray⟩, rfl, by rw [this, ht], hb⟩

set_option maxHeartbeats 400000 in
set_option maxRecDepth 100000 in
theorem anyK_any (p : Nat) (ad : Option Addr) (len cap B : Nat) (w : World) (hl : len ≤ 1048576) (hc : CurIn w p ad len cap) (hd : CodeIn w ad len B) (hB : B ≤ p) :
    Calls Try.prog 28 #[.pointer (some ⟨p, 0, none⟩)] w fun e w' => ∃ t : ByteArray, e = .returned (.string t) ∧ t.size ≤ 65 ∧ Drawn w w' p ad len cap := by
  have hpw := hc.2.2.2.2.2
  have HC := hide hc
  have HD := hide hd
  clear hc hd
  go_enter Try.func28, Try.ntmps28
  go_wp2_with fail
  refine (once_any 12 p ad len cap B _ (by omega) hl HC.out HD.out hB).mono ?_
  rintro e w1 ⟨b, rfl, D1⟩
  have HR1 := hide D1
  have HD1 := hide (D1.code HD.out hB hpw)
  clear D1
  cases b with
  | true =>
    go_wp2_with fail
    refine (below_any 2 p ad len cap B _ (by omega) hl HR1.out.2 HD1.out hB).mono ?_
    rintro e w2 ⟨x, rfl, x0, x1, _, D2⟩
    have x2 := x1 (by omega)
    have HR2 := hide (HR1.out.trans D2)
    have hs2 := HR2.out.1.size
    clear D2 HR1 HD1 x1
    go_wp2_with fail
    refine (longK_int _ 65 _ (by omega) (by omega) (by omega)).mono ?_
    rintro e w3 ⟨t, rfl, ht, hb⟩
    have HR3 := hide (HR2.out.below (hb.mono hs2) hpw)
    have HT : Hid (t.size ≤ 65) := by show _ ≤ _; omega
    clear hb HR2 ht
    go_wp2
    go_ret
    exact ⟨t, rfl, HT.out, HR3.out⟩
  | false =>
    go_wp2_with fail
    refine (plainD_any p ad len cap B _ hl HR1.out.2 HD1.out hB).mono ?_
    rintro e w2 ⟨t, rfl, ht, D2⟩
    have HR2 := hide (HR1.out.trans D2)
    clear D2 HR1
    go_wp2
    go_ret
    exact ⟨t, rfl, by omega, HR2.out⟩

set_option maxHeartbeats 400000 in
theorem drawPack_any (ad : Option Addr) (len cap : Nat) (w : World) (hl : len ≤ 1048576) (hd : CodeIn w ad len w.heap.size) :
    Calls Try.prog 10 #[.slice ad len cap] w fun e w' => ∃ t : ByteArray, e = .returned (.string t) ∧ t.size ≤ 65 ∧ Below w.heap.size w w' := by
  have HD := hide hd
  clear hd
  go_enter Try.func10, Try.ntmps10
  go_wp2_with fail
  refine (new_any ad len cap w.heap.size _ hl HD.out).mono ?_
  rintro e w1 ⟨p, rfl, hp, hc, hb⟩
  have HC := hide hc
  have hs := hb.size
  have HB := hide hb
  have HD1 := hide (HD.out.on hb (Nat.le_refl _))
  clear hc hb
  go_wp2_with fail
  refine (anyK_any p ad len cap w.heap.size _ hl HC.out HD1.out hp).mono ?_
  rintro e w2 ⟨t, rfl, ht, D⟩
  have HB2 := hide (HB.out.trans (grown_below D.1 hp hs))
  clear D
  go_wp2
  go_ret
  exact ⟨t, rfl, ht, HB2.out⟩
end Go.Proofs.Ytaolinlginloaaa
