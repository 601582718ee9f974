/-
  The walk of the law on numbers.
-/
import Derived.Test.YtiajmphmliefgaaDoorNumMath
import Derived.Test.YtiajmphmliefgaaDoorDraw4
import Derived.Test.YtiajmphmliefgaaDoorImplRS
import Derived.Test.YtiajmphmliefgaaDoorImplHex
import Derived.Test.YtiajmphmliefgaaDoorImplUnhex
import Derived.Test.YtiajmphmliefgaaDoorImplRd
namespace Go.Proofs.YtiajmphmliefgaaDoor
open Go.RowKit
open Words
open Go.Lib (itoa)

/-! What each pair gives, written and read back. -/
theorem back_var (n : Nat) (hn : n ≤ 1000000000) : ∃ t : List UInt8, t.length ≤ 9 ∧
    (∀ w, Calls Tryd.prog 6 #[.int .i64 n] w fun e w' => e = .returned (.tuple #[.string ⟨t.toArray⟩, .bool true]) ∧ Below w.heap.size w w') ∧
    (∀ w, Calls Tryd.prog 7 #[.string (⟨#[120]⟩ ++ ⟨t.toArray⟩ ++ ⟨#[121]⟩), .int .i64 1] w fun e w' => e = .returned (.tuple #[.int .i64 n, .int .i64 ((t.length : Int) + 1), .bool true]) ∧ w' = w) := by
  have hl := var_len5 n hn
  refine ⟨varL n, hl, fun w => implVar_yes n w hn, fun w => ?_⟩
  have e : (⟨#[120]⟩ ++ ⟨(varL n).toArray⟩ ++ ⟨#[121]⟩ : ByteArray) = ⟨([120] ++ varL n ++ [121]).toArray⟩ := by
    rw [show (#[120] : Array UInt8) = [120].toArray from rfl, show (#[121] : Array UInt8) = [121].toArray from rfl, ByteArray.mk_append_mk, ByteArray.mk_append_mk]
  have hsz : (⟨([120] ++ varL n ++ [121]).toArray⟩ : ByteArray).size = (varL n).length + 2 := by
    show ([120] ++ varL n ++ [121]).toArray.size = _
    simp
  have hr := read_var [120] [121] n hn
  rw [e]
  refine (implRead _ 1 w (by rw [hsz]; omega) (by rw [hsz]; omega)).mono ?_
  rintro ee w' ⟨rfl, rfl⟩
  refine ⟨?_, rfl⟩
  have hr2 : readV (⟨([120] ++ varL n ++ [121]).toArray⟩ : ByteArray).data.toList 1 = some (n, 1 + (varL n).length) := hr
  rw [hr2, rvRes]
  rw [show (((1 + (varL n).length : Nat)) : Int) = ((varL n).length : Int) + 1 by omega]

theorem back_dec (n : Nat) (hn : n ≤ 1000000000) : ∃ t : List UInt8, t.length ≤ 10 ∧
    (∀ w, PowIn w → Calls Tryd.prog 9 #[.int .i64 n] w fun e w' => e = .returned (.string ⟨t.toArray⟩) ∧ Below w.heap.size w w') ∧
    (∀ w, PowIn w → Calls Tryd.prog 8 #[.string ⟨t.toArray⟩] w fun e w' => e = .returned (.tuple #[.int .i64 n, .bool true]) ∧ Below w.heap.size w w') := by
  obtain ⟨h1, h2, h3⟩ := rd_back n hn
  refine ⟨itoa n, h3, fun w ht => implDec n w (by omega) (by omega) ht, fun w ht => (implRd ⟨(itoa n).toArray⟩ w (by show (itoa n).toArray.size ≤ 10; simpa using h3) ht).mono ?_⟩
  rintro e w' ⟨⟨_, rfl⟩ | ⟨h, _⟩, hb⟩
  · refine ⟨?_, hb⟩
    show Ending.returned (.tuple #[.int .i64 (dv (itoa n)), .bool true]) = _
    rw [h2]
  · exact absurd h1 h

theorem back_short (t : List UInt8) (ht : t.length ≤ 300) : ∃ a : List UInt8, a.length ≤ 400 ∧
    (∀ w, Calls Tryd.prog 11 #[.string ⟨t.toArray⟩] w fun e w' => e = .returned (.tuple #[.string ⟨a.toArray⟩, .bool true]) ∧ Below w.heap.size w w') ∧
    (∀ w, Calls Tryd.prog 12 #[.string ⟨a.toArray⟩, .int .i64 0] w fun e w' => e = .returned (.tuple #[.string ⟨t.toArray⟩, .int .i64 a.length, .bool true]) ∧ Below w.heap.size w w') := by
  have hl := var_len5 t.length (by omega)
  have hsz : (⟨t.toArray⟩ : ByteArray).size = t.length := by show t.toArray.size = _; simp
  have hsa : (⟨(varL t.length ++ t).toArray⟩ : ByteArray).size = (varL t.length).length + t.length := by show (varL t.length ++ t).toArray.size = _; simp
  refine ⟨varL t.length ++ t, by simp; omega, fun w => ?_, fun w => ?_⟩
  · have := implShort ⟨t.toArray⟩ w (by rw [hsz]; omega)
    rw [hsz, ByteArray.mk_append_mk] at this
    exact this
  · have hr := read_var [] t t.length (by omega)
    rw [List.nil_append, List.length_nil, Nat.zero_add] at hr
    have hi := implRS ⟨(varL t.length ++ t).toArray⟩ 0 w (some (t.length, (varL t.length).length)) (by rw [hsa]; omega)
      (fun n j h => by cases h; exact ⟨by rw [hsa]; omega, by omega⟩)
      (fun w2 => by
        have h2 := implRead ⟨(varL t.length ++ t).toArray⟩ 0 w2 (by rw [hsa]; omega) (Nat.zero_le _)
        have h3 : readV (⟨(varL t.length ++ t).toArray⟩ : ByteArray).data.toList 0 = some (t.length, (varL t.length).length) := hr
        rw [h3] at h2
        exact h2)
    refine hi.mono ?_
    rintro e w' ⟨rfl, hb⟩
    refine ⟨?_, hb⟩
    have hx : (⟨(varL t.length ++ t).toArray⟩ : ByteArray).extract (varL t.length).length ((varL t.length).length + t.length) = ⟨t.toArray⟩ := by
      apply ByteArray.ext
      have := Lib.extract_data ⟨(varL t.length ++ t).toArray⟩ (varL t.length).length ((varL t.length).length + t.length)
      rw [Nat.add_sub_cancel_left] at this
      have e2 : (⟨(varL t.length ++ t).toArray⟩ : ByteArray).data.toList = varL t.length ++ t := rfl
      rw [e2, List.drop_left, List.take_length] at this
      exact Array.ext' this
    rw [rsRes, if_pos ⟨by omega, by rw [hsa]; omega⟩, hx]
    rw [show (((varL t.length ++ t).length : Nat) : Int) = ((varL t.length).length : Int) + (t.length : Int) by simp]

theorem back_hex (t : List UInt8) (ht : t.length ≤ 300) : ∃ a : List UInt8, a.length ≤ 600 ∧
    (∀ w, Calls Tryd.prog 13 #[.string ⟨t.toArray⟩] w fun e w' => e = .returned (.tuple #[.string ⟨a.toArray⟩, .bool true]) ∧ Below w.heap.size w w') ∧
    (∀ w, Calls Tryd.prog 14 #[.string ⟨a.toArray⟩] w fun e w' => e = .returned (.tuple #[.string ⟨t.toArray⟩, .bool true]) ∧ Below w.heap.size w w') := by
  have hsz : (⟨t.toArray⟩ : ByteArray).size = t.length := by show t.toArray.size = _; simp
  have hL := hexL_len t
  have hsa : (⟨(hexL t).toArray⟩ : ByteArray).size = 2 * t.length := by show (hexL t).toArray.size = _; simpa using hL
  obtain ⟨h1, h2⟩ := hex_back t
  refine ⟨hexL t, by omega, fun w => implHex ⟨t.toArray⟩ w (by rw [hsz]; omega), fun w => (implUnhex ⟨(hexL t).toArray⟩ t.length w (by rw [hsa]; omega) hsa).mono ?_⟩
  rintro e w' (⟨_, rfl, hb⟩ | ⟨h, _⟩)
  · refine ⟨?_, hb⟩
    show Ending.returned (.tuple #[.string ⟨(unhexL (hexL t)).toArray⟩, .bool true]) = _
    rw [h2]
  · exact absurd h1 h

set_option maxHeartbeats 1000000 in
set_option maxRecDepth 100000 in
theorem lawNum (ad : Option Addr) (len cap : Nat) (w : World) (hd : CodeIn w ad len w.heap.size) (ht : PowIn w) :
    Calls Tryd.prog 3 #[.slice ad len cap] w fun e w' => e = .returned (.bool true) ∧ Below w.heap.size w w' := by
  have HD := hide hd
  have HT := hide ht
  clear hd ht
  by_cases hbig : (1048576 : Int) < len
  · go_enter Tryd.func3, Tryd.ntmps3
    go_wp2_with fail
    refine (big_any ad len cap _).mono ?_
    rintro e w1 ⟨rfl, rfl⟩
    rw [decide_eq_true hbig]
    go_wp2
    go_ret
    exact ⟨rfl, Below.refl _ _⟩
  · go_enter Tryd.func3, Tryd.ntmps3
    go_wp2_with fail
    refine (big_any ad len cap _).mono ?_
    rintro e w1 ⟨rfl, rfl⟩
    rw [decide_eq_false (show ¬ (1048576 : Int) < len by omega)]
    go_wp2_with fail
    refine (drawVar_any ad len cap _ (by omega) HD.out).mono ?_
    rintro e w2 ⟨x, rfl, b2⟩
    have s2 := b2.size
    obtain ⟨n, hn, hx⟩ : ∃ n : Nat, n ≤ 1000000000 ∧ ((¬ x < 0 ∧ ¬ (1000000000 : Int) < x ∧ x = n) ∨ ((x < 0 ∨ ¬ x < 0 ∧ (1000000000 : Int) < x) ∧ n = 12345)) := by
      by_cases h : 0 ≤ x ∧ x ≤ 1000000000
      · obtain ⟨n, rfl⟩ := Int.eq_ofNat_of_zero_le h.1
        exact ⟨n, by omega, .inl ⟨by omega, by omega, rfl⟩⟩
      · exact ⟨12345, by omega, .inr ⟨by omega, rfl⟩⟩
    obtain ⟨tv, hv, v1, v2⟩ := back_var n hn
    obtain ⟨td, hdl, d1, d2⟩ := back_dec n hn
    have V1 := hide v1
    have V2 := hide v2
    have D1 := hide d1
    have D2 := hide d2
    clear v1 v2 d1 d2
    have c2 := b2
    clear b2
    rcases hx with ⟨n1, n2, rfl⟩ | ⟨n1 | ⟨n1, n2⟩, rfl⟩
    all_goals
      go_wp2_with fail
      refine (unhide V1 _).mono ?_
      rintro e w3 ⟨rfl, b3⟩
      have c3 := c2.trans (b3.mono s2)
      have s3 := c3.size
      clear c2 b3
      go_wp2_with fail
      refine (unhide V2 _).mono ?_
      rintro e w4 ⟨rfl, rfl⟩
      go_wp2_with fail
      refine (unhide D1 _ (HT.out.on c3)).mono ?_
      rintro e w5 ⟨rfl, b5⟩
      have c5 := c3.trans (b5.mono s3)
      have s5 := c5.size
      clear c3 b5
      go_wp2_with fail
      refine (unhide D2 _ (HT.out.on c5)).mono ?_
      rintro e w6 ⟨rfl, b6⟩
      have c6 := c5.trans (b6.mono s5)
      have s6 := c6.size
      clear c5 b6
      go_wp2_with fail
      refine (drawHex_any ad len cap _ (by omega) (fun j hj => by
        obtain ⟨b, off, h1, h2, c, h3, h4⟩ := HD.out.on c6 (Nat.le_refl _) j hj
        exact ⟨b, off, h1, by omega, c, h3, h4⟩)).mono ?_
      rintro e w7 ⟨t0, rfl, ht0, b7⟩
      have c7 := c6.trans (b7.mono s6)
      have s7 := c7.size
      clear c6 b7
      obtain ⟨t, ht, hx⟩ : ∃ t : List UInt8, t.length ≤ 300 ∧ ((¬ (300 : Int) < t0.length ∧ t0 = t) ∨ ((300 : Int) < t0.length ∧ t = [97, 98, 99])) := by
        by_cases h : (300 : Int) < t0.length
        · exact ⟨[97, 98, 99], by simp, .inr ⟨h, rfl⟩⟩
        · exact ⟨t0, by omega, .inl ⟨h, rfl⟩⟩
      obtain ⟨a, ha, a1, a2⟩ := back_short t ht
      obtain ⟨x, hxl, x1, x2⟩ := back_hex t ht
      have A1 := hide a1
      have A2 := hide a2
      have X1 := hide x1
      have X2 := hide x2
      clear a1 a2 x1 x2
      rcases hx with ⟨q1, rfl⟩ | ⟨q1, rfl⟩
      all_goals
        go_wp2_with fail
        refine (unhide A1 _).mono ?_
        rintro e w8 ⟨rfl, b8⟩
        have c8 := c7.trans (b8.mono s7)
        have s8 := c8.size
        clear c7 b8
        go_wp2_with fail
        refine (unhide A2 _).mono ?_
        rintro e w9 ⟨rfl, b9⟩
        have c9 := c8.trans (b9.mono s8)
        have s9 := c9.size
        clear c8 b9
        go_wp2_with fail
        refine (unhide X1 _).mono ?_
        rintro e w10 ⟨rfl, b10⟩
        have c10 := c9.trans (b10.mono s9)
        have s10 := c10.size
        clear c9 b10
        go_wp2_with fail
        refine (unhide X2 _).mono ?_
        rintro e w11 ⟨rfl, b11⟩
        have c11 := c10.trans (b11.mono s10)
        clear c10 b11
        go_wp2
        go_ret
        exact ⟨rfl, c11⟩
end Go.Proofs.YtiajmphmliefgaaDoor
