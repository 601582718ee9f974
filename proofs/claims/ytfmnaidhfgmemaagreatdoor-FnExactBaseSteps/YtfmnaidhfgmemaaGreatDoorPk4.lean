/-
  IPageOk; ImplVar; SVar; SMath; Sum; SeP
-/
import Derived.Test.YtfmnaidhfgmemaaGreatDoorPk3
import Derived.Test.YtfmnaidhfgmemaaGreatDoorPk0
import Derived.Lib.Hide
import Derived.Lib.LaidTab
import Derived.Lib.AppendIntMem
import Derived.Laws.BitsAllLaws
namespace Go.Proofs.YtfmnaidhfgmemaaGreatDoor
open Go.RowKit
open Words
def partP (k q c : Int) : Prop := k = 1 ∧ c = 1 ∧ q = 0 ∨ k = 2 ∧ 1 ≤ c ∧ c ≤ 9 ∧ 0 ≤ q ∧ q < c
def partB (k q c : Int) : Bool := decide (k = 1 ∧ c = 1 ∧ q = 0 ∨ k = 2 ∧ 1 ≤ c ∧ c ≤ 9 ∧ 0 ≤ q ∧ q < c)
theorem partB_yes {k q c : Int} (h : partP k q c) : partB k q c = true := dcY h
theorem partB_no {k q c : Int} (h : ¬ partP k q c) : partB k q c = false := dcN h
set_option maxHeartbeats 400000 in
set_option maxRecDepth 100000 in
theorem ipart_any (k s x q c : Int) (t : ByteArray) (w : World) :
    Calls Tryz.prog 156 #[.agg #[.int .i64 k, .int .i64 s, .int .i64 x, .int .i64 q, .int .i64 c, .string t]] w fun e w' => e = .returned (.bool (partB k q c)) ∧ Below w.heap.size w w' := by
  have HB := hide ((Below.refl w.heap.size w).alloc (Nat.le_refl _) (.cells #[.int .i64 k, .int .i64 s, .int .i64 x, .int .i64 q, .int .i64 c, .string t] 92))
  by_cases h1 : k = 1
  · subst h1
    have HE : Hid (partB 1 q c = (decide (c = 1) && decide (q = 0))) := by
      show _ = _
      by_cases a : c = 1 <;> by_cases b : q = 0 <;> simp [partB, a, b]
    by_cases a : (c == 1) = true
    · go_enter Tryz.func156, Tryz.ntmps156
      go_wp2
      go_ret
      exact ⟨by rw [HE.out]; simp at a; by_cases b : q = 0 <;> simp [a, b], HB.out⟩
    · have a : (c == 1) = false := by simpa using a
      go_enter Tryz.func156, Tryz.ntmps156
      go_wp2
      go_ret
      exact ⟨by rw [HE.out]; simp at a; by_cases b : q = 0 <;> simp [a, b], HB.out⟩
  · have h1' : (k == 1) = false := by simpa using h1
    by_cases h2 : k = 2
    · subst h2
      have HE : Hid (partB 2 q c = decide (1 ≤ c ∧ c ≤ 9 ∧ 0 ≤ q ∧ q < c)) := by
        show _ = _
        simp [partB]
      clear h1 h1'
      by_cases a1 : 1 ≤ c
      · by_cases a2 : c ≤ 9
        · by_cases a3 : 0 ≤ q
          · go_enter Tryz.func156, Tryz.ntmps156
            go_wp2
            go_ret
            exact ⟨by rw [HE.out]; simp [a1, a2, a3], HB.out⟩
          · go_enter Tryz.func156, Tryz.ntmps156
            go_wp2
            go_ret
            exact ⟨by rw [HE.out]; simp; omega, HB.out⟩
        · go_enter Tryz.func156, Tryz.ntmps156
          go_wp2
          go_ret
          exact ⟨by rw [HE.out]; simp; omega, HB.out⟩
      · go_enter Tryz.func156, Tryz.ntmps156
        go_wp2
        go_ret
        exact ⟨by rw [HE.out]; simp; omega, HB.out⟩
    · have h2' : (k == 2) = false := by simpa using h2
      have HE : Hid (partB k q c = false) := by
        show _ = _
        simp [partB, h1, h2]
      clear h1 h2
      go_enter Tryz.func156, Tryz.ntmps156
      go_wp2
      go_ret
      exact ⟨by rw [HE.out]; rfl, HB.out⟩
theorem right_eq (k s x q c : Int) (t : ByteArray) : (Pg.mk k s x q c t).Right ↔ (1 ≤ s ∧ s ≤ 1000000000 ∧ 1 ≤ x ∧ x ≤ 1000000000) ∧ partP k q c ∧ (t.size : Int) ≤ 90 := by
  unfold Pg.Right partP
  simp only
  constructor
  · rintro ⟨h, h1, h2, h3, h4, h5⟩; exact ⟨⟨h1, h2, h3, h4⟩, h, h5⟩
  · rintro ⟨⟨h1, h2, h3, h4⟩, h, h5⟩; exact ⟨h, h1, h2, h3, h4, h5⟩
set_option maxHeartbeats 400000 in
set_option maxRecDepth 100000 in
theorem ipageOk (p : Pg) (w : World) :
    Calls Tryz.prog 135 #[pgVal p] w fun e w' => e = .returned (.bool (@decide p.Right p.decR)) ∧ Below w.heap.size w w' := by
  obtain ⟨k, s, x, q, c, t⟩ := p
  have HE := hide (right_eq k s x q c t)
  have HB := hide ((Below.refl w.heap.size w).alloc (Nat.le_refl _) (.cells #[.int .i64 k, .int .i64 s, .int .i64 x, .int .i64 q, .int .i64 c, .string t] 92))
  unfold pgVal
  simp only
  by_cases a1 : s < 1
  · go_enter Tryz.func135, Tryz.ntmps135
    go_wp2
    go_ret
    exact ⟨by rw [dcN (fun h => by have := (HE.out.1 h).1; omega)]; rfl, HB.out⟩
  by_cases a2 : 1000000000 < s
  · go_enter Tryz.func135, Tryz.ntmps135
    go_wp2
    go_ret
    exact ⟨by rw [dcN (fun h => by have := (HE.out.1 h).1; omega)]; rfl, HB.out⟩
  by_cases a3 : x < 1
  · go_enter Tryz.func135, Tryz.ntmps135
    go_wp2
    go_ret
    exact ⟨by rw [dcN (fun h => by have := (HE.out.1 h).1; omega)]; rfl, HB.out⟩
  by_cases a4 : 1000000000 < x
  · go_enter Tryz.func135, Tryz.ntmps135
    go_wp2
    go_ret
    exact ⟨by rw [dcN (fun h => by have := (HE.out.1 h).1; omega)]; rfl, HB.out⟩
  by_cases a5 : partP k q c
  · go_enter Tryz.func135, Tryz.ntmps135
    go_wp2_with fail
    refine (ipart_any k s x q c t _).mono ?_
    rintro e w1 ⟨rfl, hb⟩
    rw [partB_yes a5]
    have A5 := hide a5
    clear a5
    have hs := HB.out.size
    have kp : ∀ i, i < 6 → w1.cell? ⟨w.heap.size, i, none⟩ = (w.alloc (.cells #[.int .i64 k, .int .i64 s, .int .i64 x, .int .i64 q, .int .i64 c, .string t] 92)).cell? ⟨w.heap.size, i, none⟩ := fun i _ => hb.cell (by simp)
    have k5 := kp 5 (by omega)
    simp at k5
    clear kp
    go_wp2
    go_ret
    have e : @decide (Pg.mk k s x q c t).Right (Pg.mk k s x q c t).decR = decide ((t.size : Int) ≤ 90) := dcE (HE.out.trans ⟨fun h => h.2.2, fun h => ⟨by omega, A5.out, h⟩⟩)
    exact ⟨by rw [e]; rfl, HB.out.trans (hb.mono hs)⟩
  · go_enter Tryz.func135, Tryz.ntmps135
    go_wp2_with fail
    refine (ipart_any k s x q c t _).mono ?_
    rintro e w1 ⟨rfl, hb⟩
    rw [partB_no a5]
    have A5 := hide a5
    clear a5
    have hs := HB.out.size
    go_wp2
    go_ret
    exact ⟨by rw [dcN (fun h => A5.out (HE.out.1 h).2.1)]; rfl, HB.out.trans (hb.mono hs)⟩
end Go.Proofs.YtfmnaidhfgmemaaGreatDoor

namespace Go.Proofs.YtfmnaidhfgmemaaGreatDoor
open Go.RowKit
open Words
theorem acc_len {acc : List UInt8} {m n : Nat} (h : acc ++ varL m = varL n) (hn : n < 9223372036854775808) : acc.length ≤ 9 := by
  have h1 := congrArg List.length h
  have h2 := varL_len n hn
  simp at h1
  omega
theorem acc_step {acc : List UInt8} {m n : Nat} (h : acc ++ varL m = varL n) (hm : 128 ≤ m) : (acc ++ [UInt8.ofNat (m % 128 + 128)]) ++ varL (m / 128) = varL n := by
  rw [← h, varL_high m hm]; simp
theorem byte_of (m : Nat) : ((UInt8.ofNat (m % 128 + 128)).toNat : Int) = (m : Int) % 128 + 128 := by
  simp; omega
theorem byte_of' (m : Nat) (h : m < 128) : ((UInt8.ofNat m).toNat : Int) = (m : Int) := by
  simp; omega
set_option maxHeartbeats 400000 in
theorem implVar_yes (n : Nat) (w : World) (hn : n ≤ 1000000000) :
    Calls Tryz.prog 136 #[.int .i64 n] w fun e w' => e = .returned (.tuple #[.string ⟨(varL n).toArray⟩, .bool true]) ∧ Below w.heap.size w w' := by
  obtain ⟨i0, hi, hz0, hz1, hz2⟩ := info_parts infoByte
  have hlen := varL_len n (by omega)
  have g1 : ¬ (n : Int) < 0 := by omega
  have g2 : ¬ (1000000000 : Int) < n := by omega
  go_enter Tryz.func136, Tryz.ntmps136
  go_wp2
  go_loopw [0, 4] (fun nv out wr => ∃ (m : Nat) (acc : List UInt8), nv = .int .i64 m ∧ m ≤ n ∧ Hid (acc ++ varL m = varL n) ∧ wr.ownsRow w.heap.size 5 1 out acc.length (bcells acc) ∧ Below w.heap.size w wr) (fun nv _ _ => (intOf nv).toNat)
  case atStart => exact ⟨n, [], rfl, Nat.le_refl _, rfl, World.ownsRow_nil _ _ _ _, Below.refl _ _⟩
  case round =>
    obtain ⟨m, acc, rfl, hm, hacc, hown, hbel⟩ := hrel
    have hsz := hbel.size
    have hal := acc_len hacc (by omega)
    by_cases hlt : 128 ≤ (m : Int)
    · go_wp2_with (at_builtin; refine wpList_append_own _ rfl _ _ 110 rfl w.heap.size 5 i0 (.int .u8 0) 1 1 Tryz.underlying110 hi hz0 hz1 hz2 rfl (by decide) _ _ _ rfl (hown.alloc _) ⟨wr.heap.size, 0, none⟩ 1 1 [Value.int .u8 _] rfl rfl (one_cell _ _ _) (one_u8 _) ?c1 ?c2 ?c3 ?_)
      case c1 => unfold maxLen; omega
      case c2 => omega
      case c3 => first | omega | (simp; omega)
      intro v' w1 hown' hgrow _
      have hb1 := own_grown hbel (by omega) hown hgrow
      rw [bcells_snoc acc _ _ (byte_of m)] at hown'
      have hacc' := acc_step hacc (by omega)
      clear hown hgrow hacc
      go_wp2
      go_roundw
      case rel => exact ⟨m / 128, _, by go_num, by omega, hacc', by simpa using hown', hb1⟩
      case measure => simp [intOf]; omega
    · go_wp2_with (at_builtin; refine wpList_append_own _ rfl _ _ 110 rfl w.heap.size 5 i0 (.int .u8 0) 1 1 Tryz.underlying110 hi hz0 hz1 hz2 rfl (by decide) _ _ _ rfl (hown.alloc _) ⟨wr.heap.size, 0, none⟩ 1 1 [Value.int .u8 _] rfl rfl (one_cell _ _ _) (one_u8 _) ?c1 ?c2 ?c3 ?_)
      case c1 => unfold maxLen; omega
      case c2 => omega
      case c3 => first | omega | (simp; omega)
      intro v' w1 hown' hgrow _
      have hb1 := own_grown hbel (by omega) hown hgrow
      rw [bcells_snoc acc _ _ (byte_of' m (by omega))] at hown'
      have e : acc ++ [UInt8.ofNat m] = varL n := by rw [← hacc.out, varL_low m (by omega)]
      have eN : acc.length + 1 = (acc ++ [UInt8.ofNat m]).length := by simp
      rw [eN, e] at hown'
      have E := Lib.hid e
      clear hown hgrow hacc e eN
      obtain ⟨l, hl⟩ : ∃ l, l = varL n := ⟨_, rfl⟩
      rw [← hl] at hown' hlen
      have HL := Lib.hid hl
      clear hl E
      rcases hown'.2 with ⟨-, h0⟩ | ⟨g, cap, cur, rfl, -, -, -, -, -, -⟩
      · omega
      · have hcv := run_convert_bytes_back (P := Tryz.prog) w1 110 9 5 ⟨g, 0, none⟩ cap l Tryz.underlying110 Tryz.underlying5 Tryz.underlying9 (fun j hj => hown'.cells (g := g) rfl j _ (bcells_at l j hj))
        go_wp2
        go_ret2
        exact ⟨by rw [HL.out]; rfl, hb1⟩
end Go.Proofs.YtfmnaidhfgmemaaGreatDoor

namespace Go.Proofs.YtfmnaidhfgmemaaGreatDoor
open Go.RowKit
open Words
set_option maxHeartbeats 400000 in
theorem l01Var_any (n : Nat) (w : World) (hn : n < 9223372036854775808) :
    Calls Tryz.prog 93 #[.int .i64 n] w fun e w' => e = .returned (.string ⟨(varL n).toArray⟩) ∧ Below w.heap.size w w' := by
  obtain ⟨i0, hi, hz0, hz1, hz2⟩ := info_parts infoByte
  have hlen := varL_len n hn
  go_enter Tryz.func93, Tryz.ntmps93
  go_wp2
  go_loopw [0, 3] (fun nv out wr => ∃ (m : Nat) (acc : List UInt8), nv = .int .i64 m ∧ m ≤ n ∧ Hid (acc ++ varL m = varL n) ∧ wr.ownsRow w.heap.size 5 1 out acc.length (bcells acc) ∧ Below w.heap.size w wr) (fun nv _ _ => (intOf nv).toNat)
  case atStart => exact ⟨n, [], rfl, Nat.le_refl _, rfl, World.ownsRow_made w #[] 0 (Nat.le_refl _) (by unfold maxLen; omega) (by simp), (Below.refl _ _).alloc (Nat.le_refl _) _⟩
  case round =>
    obtain ⟨m, acc, rfl, hm, hacc, hown, hbel⟩ := hrel
    have hsz := hbel.size
    have hal := acc_len hacc hn
    by_cases hlt : 127 < (m : Int)
    · go_wp2_with (at_builtin; refine wpList_append_own _ rfl _ _ 110 rfl w.heap.size 5 i0 (.int .u8 0) 1 1 Tryz.underlying110 hi hz0 hz1 hz2 rfl (by decide) _ _ _ rfl (hown.alloc _) ⟨wr.heap.size, 0, none⟩ 1 1 [Value.int .u8 _] rfl rfl (one_cell _ _ _) (one_u8 _) ?c1 ?c2 ?c3 ?_)
      case c1 => unfold maxLen; omega
      case c2 => omega
      case c3 => first | omega | (simp; omega)
      intro v' w1 hown' hgrow _
      have hb1 := own_grown hbel (by omega) hown hgrow
      rw [bcells_snoc acc _ _ (byte_of m)] at hown'
      have hacc' := acc_step hacc (by omega)
      clear hown hgrow hacc
      go_wp2
      go_roundw
      case rel => exact ⟨m / 128, _, by go_num, by omega, hacc', by simpa using hown', hb1⟩
      case measure => simp [intOf]; omega
    · go_wp2_with (at_builtin; refine wpList_append_own _ rfl _ _ 110 rfl w.heap.size 5 i0 (.int .u8 0) 1 1 Tryz.underlying110 hi hz0 hz1 hz2 rfl (by decide) _ _ _ rfl (hown.alloc _) ⟨wr.heap.size, 0, none⟩ 1 1 [Value.int .u8 _] rfl rfl (one_cell _ _ _) (one_u8 _) ?c1 ?c2 ?c3 ?_)
      case c1 => unfold maxLen; omega
      case c2 => omega
      case c3 => first | omega | (simp; omega)
      intro v' w1 hown' hgrow _
      have hb1 := own_grown hbel (by omega) hown hgrow
      rw [bcells_snoc acc _ _ (byte_of' m (by omega))] at hown'
      have e : acc ++ [UInt8.ofNat m] = varL n := by rw [← hacc.out, varL_low m (by omega)]
      have eN : acc.length + 1 = (acc ++ [UInt8.ofNat m]).length := by simp
      rw [eN, e] at hown'
      have E := Lib.hid e
      clear hown hgrow hacc e eN
      obtain ⟨l, hl⟩ : ∃ l, l = varL n := ⟨_, rfl⟩
      rw [← hl] at hown' hlen
      have HL := Lib.hid hl
      clear hl E
      rcases hown'.2 with ⟨-, h0⟩ | ⟨g, cap, cur, rfl, -, -, -, -, -, -⟩
      · omega
      · have hcv := run_convert_bytes_back (P := Tryz.prog) w1 110 9 5 ⟨g, 0, none⟩ cap l Tryz.underlying110 Tryz.underlying5 Tryz.underlying9 (fun j hj => hown'.cells (g := g) rfl j _ (bcells_at l j hj))
        go_wp2
        go_ret
        exact ⟨by rw [HL.out]; rfl, hb1⟩
end Go.Proofs.YtfmnaidhfgmemaaGreatDoor

namespace Go.Proofs.YtfmnaidhfgmemaaGreatDoor.Sums
def poly : Nat := 3558460437
def half (x : Nat) : Nat := x / 2 ^^^ (if x % 2 = 1 then poly else 0)
def h4 (x : Nat) : Nat := half (half (half (half x)))
def sumB (s : Nat) (b : UInt8) : Nat := h4 (h4 (s ^^^ b.toNat))
def sumL (s : Nat) (l : List UInt8) : Nat := l.foldl sumB s
def tab : List Nat := [0, 1166650509, 2333301018, 3466261911, 3189058079, 4221339282, 889615109, 1888477064, 3558460437, 2442158232, 1594529039, 444807554, 1779230218, 797264519, 3776954128, 2761298845]
theorem mod2_lt (x : Nat) : x % 2 = 0 ∨ x % 2 = 1 := by omega
theorem half_lt (x : Nat) (h : x < 4294967296) : half x < 4294967296 := by
  unfold half
  refine Nat.xor_lt_two_pow (n := 32) (by omega) ?_
  split <;> simp [poly]
theorem h4_lt (x : Nat) (h : x < 4294967296) : h4 x < 4294967296 := half_lt _ (half_lt _ (half_lt _ (half_lt _ h)))
theorem byte_lt (b : UInt8) : b.toNat < 256 := by have := b.toNat_lt; omega
theorem xor_lt32 (x y : Nat) (h : x < 4294967296) (k : y < 4294967296) : x ^^^ y < 4294967296 := Nat.xor_lt_two_pow (n := 32) h k
theorem xb_lt (s : Nat) (b : UInt8) (h : s < 4294967296) : s ^^^ b.toNat < 4294967296 := xor_lt32 _ _ h (by have := byte_lt b; omega)
theorem sumB_lt (s : Nat) (b : UInt8) (h : s < 4294967296) : sumB s b < 4294967296 := h4_lt _ (h4_lt _ (xb_lt s b h))
theorem sumL_lt (l : List UInt8) : ∀ s, s < 4294967296 → sumL s l < 4294967296 := by
  induction l with
  | nil => intro s h; exact h
  | cons a l ih => intro s h; exact ih _ (sumB_lt s a h)
theorem sumL_app (s : Nat) (l k : List UInt8) : sumL s (l ++ k) = sumL (sumL s l) k := by simp [sumL]
theorem sumL_take (s : Nat) (l : List UInt8) (k : Nat) (h : k < l.length) : sumL s (l.take (k + 1)) = sumB (sumL s (l.take k)) l[k] := by
  rw [List.take_succ_eq_append_getElem h, sumL_app]; rfl
theorem xor_half (x y : Nat) : half (x ^^^ y) = half x ^^^ half y := by
  unfold half
  have e1 : (x ^^^ y) / 2 = x / 2 ^^^ y / 2 := by
    have := Nat.shiftRight_xor_distrib (a := x) (b := y) (i := 1)
    simpa [Nat.shiftRight_eq_div_pow] using this
  have e2 : (x ^^^ y) % 2 = (x % 2) ^^^ (y % 2) := by
    have := Nat.xor_mod_two_pow (a := x) (b := y) (n := 1)
    simpa using this
  rw [e1, e2]
  rcases mod2_lt x with hx | hx <;> rcases mod2_lt y with hy | hy <;> simp [hx, hy]
  · rw [Nat.xor_assoc]
  · rw [Nat.xor_assoc, Nat.xor_assoc]; congr 1; exact Nat.xor_comm _ _
  · rw [Nat.xor_assoc, ← Nat.xor_assoc poly, Nat.xor_comm poly, Nat.xor_assoc (y / 2), Nat.xor_self, Nat.xor_zero]
theorem xor_h4 (x y : Nat) : h4 (x ^^^ y) = h4 x ^^^ h4 y := by simp only [h4, xor_half]
theorem half_two (x : Nat) : half (2 * x) = x := by
  unfold half
  have e1 : 2 * x / 2 = x := by omega
  have e2 : 2 * x % 2 = 0 := by omega
  rw [e1, e2]; simp
theorem h4_16 (q : Nat) : h4 (16 * q) = q := by
  unfold h4
  rw [show 16 * q = 2 * (2 * (2 * (2 * q))) by omega, half_two, half_two, half_two, half_two]
theorem h4_low : ∀ r : Fin 16, h4 r.val = tab[r.val]'(by simp [tab]) := by decide
theorem split16 (x : Nat) : x = (16 * (x / 16)) ^^^ (x % 16) := by
  have h := Nat.two_pow_add_eq_or_of_lt (i := 4) (b := x % 16) (by omega) (x / 16)
  have e : 16 * (x / 16) ^^^ (x % 16) = 16 * (x / 16) ||| (x % 16) := by
    apply Nat.eq_of_testBit_eq
    intro i
    rw [Nat.testBit_xor, Nat.testBit_or]
    have e16 : (16 : Nat) = 2 ^ 4 := rfl
    by_cases hi : i < 4
    · have : (16 * (x / 16)).testBit i = false := by rw [e16, Nat.testBit_two_pow_mul]; simp; omega
      simp [this]
    · have : (x % 16).testBit i = false := by rw [e16, Nat.testBit_mod_two_pow]; simp; omega
      simp [this]
  rw [e]
  simp at h
  omega
theorem tab_len : tab.length = 16 := rfl
theorem h4_tab (x : Nat) (h : x % 16 < tab.length) : h4 x = x / 16 ^^^ tab[x % 16] := by
  have e := h4_low ⟨x % 16, by omega⟩
  simp only at e
  rw [← e]
  conv => lhs; rw [split16 x, xor_h4, h4_16]
def four (x : Nat) : List UInt8 := [UInt8.ofNat (x / 16777216 % 256), UInt8.ofNat (x / 65536 % 256), UInt8.ofNat (x / 256 % 256), UInt8.ofNat (x % 256)]
theorem four_len (x : Nat) : (four x).length = 4 := rfl
def start : Nat := 4294967295
def sumOf (l : List UInt8) : Nat := sumL start l
theorem sumOf_lt (l : List UInt8) : sumOf l < 4294967296 := sumL_lt l _ (by decide)
end Go.Proofs.YtfmnaidhfgmemaaGreatDoor.Sums

namespace Go.Proofs.YtfmnaidhfgmemaaGreatDoor
open Go.RowKit
open Sums
def HalvIn (w : World) : Prop := Lib.TabIs Tryz.prog w "loop.example/g00195/impl.fourHalvings" .u32 (tab.map Int.ofNat)
theorem HalvIn.on {w w' : World} (h : HalvIn w) (hb : Below w.heap.size w w') : HalvIn w' := Lib.tabBelow_of_tabIs h w' hb
theorem HalvIn.cell {w : World} (h : HalvIn w) (i : Nat) (hi : i < tab.length) : w.cell? ⟨0, i, none⟩ = some (.int .u32 (tab[i] : Nat)) := by
  have := Lib.TabIs.cell h (g := 0) (by kernel_rfl) i (by simpa using hi)
  rw [this]
  simp [List.getD, hi]
theorem tab_lt : ∀ r : Fin 16, tab[r.val]'(by simp [tab]) < 4294967296 := by decide
set_option maxHeartbeats 400000 in
theorem halved_any (s : Nat) (w : World) (hs : s < 4294967296) (ht : HalvIn w) :
    Calls Tryz.prog 200 #[.int .u32 s] w fun e w' => e = .returned (.int .u32 (h4 s : Nat)) ∧ w' = w := by
  have hm : s % 16 < tab.length := by rw [tab_len]; omega
  have E := h4_tab s hm
  have hc := ht.cell (s % 16) hm
  have hx : tab[s % 16] < 4294967296 := tab_lt ⟨s % 16, by omega⟩
  generalize tab[s % 16] = x at E hc hx
  have hy := u32_xor ((s : Int) / 16) (x : Int) (by omega) (by omega) (by omega) (by omega)
  rw [show ((s : Int) / 16).toNat = s / 16 by omega, Int.toNat_natCast, ← E] at hy
  clear ht hm E
  go_enter Tryz.func200, Tryz.ntmps200
  go_wp2
  go_ret
  exact ⟨rfl, rfl⟩
set_option maxHeartbeats 400000 in
theorem withByte_any (s c : Nat) (w : World) (hs : s < 4294967296) (hb : c < 256) (ht : HalvIn w) :
    Calls Tryz.prog 190 #[.int .u32 s, .int .u8 c] w fun e w' => e = .returned (.int .u32 (h4 (h4 (s ^^^ c)) : Nat)) ∧ w' = w := by
  have hl := xor_lt32 s c hs (by omega)
  have hl2 := h4_lt _ hl
  have hy := u32_xor (s : Int) (c : Int) (by omega) (by omega) (by omega) (by omega)
  rw [Int.toNat_natCast, Int.toNat_natCast] at hy
  have HT := hide ht
  clear ht
  generalize s ^^^ c = y at hy hl hl2
  go_enter Tryz.func190, Tryz.ntmps190
  go_wp2_with fail
  refine (halved_any y _ hl HT.out).mono ?_
  rintro e w1 ⟨rfl, rfl⟩
  go_wp2_with fail
  refine (halved_any (h4 y) _ hl2 HT.out).mono ?_
  rintro e w1 ⟨rfl, rfl⟩
  go_wp2
  go_ret
  exact ⟨rfl, rfl⟩
theorem sum_step (s : Nat) (t : ByteArray) (k c m : Nat) (h : k < t.size) (hc : t[k].toNat = c) (hm : m = sumL s (t.data.toList.take k)) : h4 (h4 (m ^^^ c)) = sumL s (t.data.toList.take (k + 1)) := by
  have hl : k < t.data.toList.length := by simpa using h
  have hcl : t.data.toList[k].toNat = c := by rw [← hc]; rfl
  rw [sumL_take _ _ _ hl, ← hm, sumB, hcl]
theorem all_take (t : ByteArray) : t.data.toList.take t.size = t.data.toList := by
  apply List.take_of_length_le
  simp
set_option maxHeartbeats 400000 in
theorem sumMore_any (s : Nat) (t : ByteArray) (w : World) (hs : s < 4294967296) (hl : t.size ≤ maxLen) (ht : HalvIn w) :
    Calls Tryz.prog 172 #[.int .u32 s, .string t] w fun e w' => e = .returned (.int .u32 (sumL s t.data.toList : Nat)) ∧ w' = w := by
  unfold maxLen at hl
  have HT := hide ht
  clear ht
  go_enter Tryz.func172, Tryz.ntmps172
  go_wp2
  go_loopw [5, 10] (fun sv iv wr => ∃ k m : Nat, k ≤ t.size ∧ iv = .int .i64 k ∧ sv = .int .u32 m ∧ m < 4294967296 ∧ Hid (m = sumL s (t.data.toList.take k)) ∧ wr = w) (fun _ iv _ => t.size - (intOf iv).toNat)
  case atStart => exact ⟨0, s, Nat.zero_le _, rfl, rfl, hs, rfl, rfl⟩
  case round =>
    obtain ⟨k, m, hk, rfl, rfl, hm, hrel, rfl⟩ := hrel
    by_cases hlt : (k : Int) < t.size
    · obtain ⟨c, hcc⟩ : ∃ c : Nat, t[k].toNat = c := ⟨_, rfl⟩
      have hc8 : c < 256 := by rw [← hcc]; exact UInt8.toNat_lt _
      have F := hide (sum_step s t k c m (by omega) hcc hrel.out)
      clear hrel
      go_wp2_with fail
      refine (withByte_any m c _ hm hc8 HT.out).mono ?_
      rintro e w1 ⟨rfl, rfl⟩
      have hb := h4_lt _ (h4_lt _ (xor_lt32 m c hm (by omega)))
      generalize h4 (h4 (m ^^^ c)) = m' at F hb
      go_wp2
      go_roundw
      case rel => exact ⟨k + 1, m', by omega, by go_num, rfl, hb, F, trivial⟩
      case measure => simp [intOf]; omega
    · have e : k = t.size := by omega
      subst e
      have F := hide (hrel.out.trans (by rw [all_take]))
      clear hrel
      go_wp2
      go_ret
      exact ⟨by rw [F.out]; rfl, rfl⟩
theorem sumOf_any (t : ByteArray) (w : World) (hl : t.size ≤ maxLen) (ht : HalvIn w) :
    Calls Tryz.prog 157 #[.string t] w fun e w' => e = .returned (.int .u32 (sumOf t.data.toList : Nat)) ∧ w' = w := by
  have HT := hide ht
  clear ht
  go_enter Tryz.func157, Tryz.ntmps157
  go_wp2_with fail
  refine (sumMore_any 4294967295 t _ (by omega) hl HT.out).mono ?_
  rintro e w1 ⟨rfl, rfl⟩
  go_wp2
  go_ret
  exact ⟨rfl, rfl⟩
end Go.Proofs.YtfmnaidhfgmemaaGreatDoor

namespace Go.Proofs.YtfmnaidhfgmemaaGreatDoor
open Sums
def sealA (t : ByteArray) : ByteArray := t ++ ⟨(four (sumOf t.data.toList)).toArray⟩
theorem sealA_size (t : ByteArray) : (sealA t).size = t.size + 4 := by
  simp [sealA, ByteArray.size_append]; rfl
end Go.Proofs.YtfmnaidhfgmemaaGreatDoor
