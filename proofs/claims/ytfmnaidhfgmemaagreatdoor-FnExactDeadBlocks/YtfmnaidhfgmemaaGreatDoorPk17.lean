/-
  RAt; Sum; Seal; SpecSum; SpecSeal; Unseal
-/
import Derived.Test.YtfmnaidhfgmemaaGreatDoorPk16
import Derived.Test.YtfmnaidhfgmemaaGreatDoorPk0
import Derived.Laws.Rows
import Derived.Test.YtfmnaidhfgmemaaGreatDoorPk15
import Derived.Lib.LaidTab
import Derived.Lib.AppendIntMem
import Derived.Laws.BitsAllLaws
import Derived.Test.YtfmnaidhfgmemaaGreatDoorShelf
namespace Go.Proofs.YtfmnaidhfgmemaaGreatDoor
open Go.RowKit
open Words
def RAt (w : World) (g : Nat) (t : ByteArray) (i : Int) : Prop := g < w.heap.size ∧ w.cell? ⟨g, 0, none⟩ = some (.string t) ∧ w.cell? ⟨g, 1, none⟩ = some (.int .i64 i) ∧ w.frozen? ⟨g, 0, none⟩ = false ∧ w.frozen? ⟨g, 1, none⟩ = false
def Moved (w w' : World) (g : Nat) (t : ByteArray) (i : Int) : Prop := Kept2 w w' (· ≠ g) ∧ RAt w' g t i
theorem RAt.below {w w' : World} {g : Nat} {t : ByteArray} {i : Int} (h : RAt w g t i) (hb : Below w.heap.size w w') : RAt w' g t i := by
  obtain ⟨h1, h2, h3, h4, h5⟩ := h
  have e : ∀ j, w'.cell? ⟨g, j, none⟩ = w.cell? ⟨g, j, none⟩ := fun j => hb.cell (show g < w.heap.size from h1)
  have f : ∀ j, w'.frozen? ⟨g, j, none⟩ = w.frozen? ⟨g, j, none⟩ := fun j => hb.frozen (show g < w.heap.size from h1)
  exact ⟨Nat.lt_of_lt_of_le h1 hb.size, by rw [e]; exact h2, by rw [e]; exact h3, by rw [f]; exact h4, by rw [f]; exact h5⟩
theorem RAt.both {w : World} {g : Nat} {t t' : ByteArray} {i i' : Int} (h : RAt w g t i) : RAt ((w.setCell ⟨g, 0, none⟩ (.string t')).setCell ⟨g, 1, none⟩ (.int .i64 i')) g t' i' := by
  obtain ⟨h1, h2, h3, h4, h5⟩ := h
  have o : ∀ (w : World) (i j : Nat) (u : Value), i ≠ j → (w.setCell ⟨g, i, none⟩ u).cell? ⟨g, j, none⟩ = w.cell? ⟨g, j, none⟩ := fun w i j u hij => World.cell?_setCell_other _ _ _ _ (fun e => hij (by injection e))
  refine ⟨by simpa using h1, ?_, ?_, by simpa using h4, by simpa using h5⟩
  · rw [o _ 1 0 _ (by omega)]
    exact World.cell?_setCell_same _ _ _ h2
  · exact World.cell?_setCell_same _ _ _ ((o w 0 1 (.string t') (by omega)).trans h3)
theorem RAt.at_ {w : World} {g : Nat} {t : ByteArray} {i i' : Int} (h : RAt w g t i) : RAt (w.setCell ⟨g, 1, none⟩ (.int .i64 i')) g t i' := by
  obtain ⟨h1, h2, h3, h4, h5⟩ := h
  have o : ∀ (w : World) (i j : Nat) (u : Value), i ≠ j → (w.setCell ⟨g, i, none⟩ u).cell? ⟨g, j, none⟩ = w.cell? ⟨g, j, none⟩ := fun w i j u hij => World.cell?_setCell_other _ _ _ _ (fun e => hij (by injection e))
  refine ⟨by simpa using h1, ?_, ?_, by simpa using h4, by simpa using h5⟩
  · rw [o _ 1 0 _ (by omega)]
    exact h2
  · exact World.cell?_setCell_same _ _ _ h3
theorem kept_set (w : World) (g j : Nat) (v : Value) : Kept2 w (w.setCell ⟨g, j, none⟩ v) (· ≠ g) := by
  refine ⟨rfl, rfl, rfl, by simp, fun i _ hne => ?_⟩
  exact Below.heap_setCell _ _ _ _ hne
theorem Moved.both {w w' : World} {g : Nat} {t t' : ByteArray} {i i' : Int} (h : RAt w g t i) (hb : Below w.heap.size w w') : Moved w ((w'.setCell ⟨g, 0, none⟩ (.string t')).setCell ⟨g, 1, none⟩ (.int .i64 i')) g t' i' :=
  ⟨((Kept2.below hb).trans (kept_set _ _ _ _)).trans (kept_set _ _ _ _), (h.below hb).both⟩
theorem Moved.at_ {w w' : World} {g : Nat} {t : ByteArray} {i i' : Int} (h : RAt w g t i) (hb : Below w.heap.size w w') : Moved w (w'.setCell ⟨g, 1, none⟩ (.int .i64 i')) g t i' :=
  ⟨(Kept2.below hb).trans (kept_set _ _ _ _), (h.below hb).at_⟩
theorem Moved.below {a b c : World} {g : Nat} {t : ByteArray} {i : Int} (h : Moved a b g t i) (k : Below b.heap.size b c) : Moved a c g t i := ⟨h.1.trans (Kept2.below k), h.2.below k⟩
def noPg : List PanicEntry := [{ v := .iface 267 (.agg #[]), recovered := false }]
set_option maxRecDepth 100000 in
theorem must_yes (v : Value) (w : World) :
    Calls Tryz.prog 205 #[v, .bool true] w fun e w' => e = .returned (.tuple #[]) ∧ w' = w := by
  go_enter Tryz.func205, Tryz.ntmps205
  go_wp2
  first | go_end0 | refine bodyPost_ret (results_none rfl _ _ _) rfl ?_
  exact ⟨rfl, rfl⟩
set_option maxRecDepth 100000 in
theorem must_no (v : Value) (w : World) :
    Calls Tryz.prog 205 #[v, .bool false] w fun e w' => e = .panicked noPg ∧ w' = w := by
  go_enter Tryz.func205, Tryz.ntmps205
  go_wp2
  exact ⟨rfl, rfl, rfl⟩
end Go.Proofs.YtfmnaidhfgmemaaGreatDoor

namespace Go.Proofs.YtfmnaidhfgmemaaGreatDoor
open Go.RowKit
open Sums
def HalvIn (w : World) : Prop := Lib.TabIs Tryz.prog w "loop.example/g00195/impl.fourHalvings" .u32 (tab.map Int.ofNat)
theorem HalvIn.on {w w' : World} (h : HalvIn w) (hb : Below w.heap.size w w') : HalvIn w' := Lib.tabBelow_of_tabIs h w' hb
theorem HalvIn.cell {w : World} (h : HalvIn w) (i : Nat) (hi : i < tab.length) : w.cell? ⟨0, i, none⟩ = some (.int .u32 (tab[i] : Nat)) := by
  have := Lib.TabIs.cell h (g := 0) (by kernel_rfl) i (by simpa using hi)
  rw [this]
  simp [List.getD, hi]
theorem tab_lt : ∀ r : Fin 16, tab[r.val]'(by simp [tab]) < 4294967296 := by decide
set_option maxHeartbeats 400000 in
theorem halved_any (s : Nat) (w : World) (hs : s < 4294967296) (ht : HalvIn w) :
    Calls Tryz.prog 200 #[.int .u32 s] w fun e w' => e = .returned (.int .u32 (h4 s : Nat)) ∧ w' = w := by
  have hm : s % 16 < tab.length := by rw [tab_len]; omega
  have E := h4_tab s hm
  have hc := ht.cell (s % 16) hm
  have hx : tab[s % 16] < 4294967296 := tab_lt ⟨s % 16, by omega⟩
  generalize tab[s % 16] = x at E hc hx
  have hy := u32_xor ((s : Int) / 16) (x : Int) (by omega) (by omega) (by omega) (by omega)
  rw [show ((s : Int) / 16).toNat = s / 16 by omega, Int.toNat_natCast, ← E] at hy
  clear ht hm E
  go_enter Tryz.func200, Tryz.ntmps200
  go_wp2
  go_ret
  exact ⟨rfl, rfl⟩
set_option maxHeartbeats 400000 in
theorem withByte_any (s c : Nat) (w : World) (hs : s < 4294967296) (hb : c < 256) (ht : HalvIn w) :
    Calls Tryz.prog 190 #[.int .u32 s, .int .u8 c] w fun e w' => e = .returned (.int .u32 (h4 (h4 (s ^^^ c)) : Nat)) ∧ w' = w := by
  have hl := xor_lt32 s c hs (by omega)
  have hl2 := h4_lt _ hl
  have hy := u32_xor (s : Int) (c : Int) (by omega) (by omega) (by omega) (by omega)
  rw [Int.toNat_natCast, Int.toNat_natCast] at hy
  have HT := hide ht
  clear ht
  generalize s ^^^ c = y at hy hl hl2
  go_enter Tryz.func190, Tryz.ntmps190
  go_wp2_with fail
  refine (halved_any y _ hl HT.out).mono ?_
  rintro e w1 ⟨rfl, rfl⟩
  go_wp2_with fail
  refine (halved_any (h4 y) _ hl2 HT.out).mono ?_
  rintro e w1 ⟨rfl, rfl⟩
  go_wp2
  go_ret
  exact ⟨rfl, rfl⟩
theorem sum_step (s : Nat) (t : ByteArray) (k c m : Nat) (h : k < t.size) (hc : t[k].toNat = c) (hm : m = sumL s (t.data.toList.take k)) : h4 (h4 (m ^^^ c)) = sumL s (t.data.toList.take (k + 1)) := by
  have hl : k < t.data.toList.length := by simpa using h
  have hcl : t.data.toList[k].toNat = c := by rw [← hc]; rfl
  rw [sumL_take _ _ _ hl, ← hm, sumB, hcl]
theorem all_take (t : ByteArray) : t.data.toList.take t.size = t.data.toList := by
  apply List.take_of_length_le
  simp
set_option maxHeartbeats 400000 in
theorem sumMore_any (s : Nat) (t : ByteArray) (w : World) (hs : s < 4294967296) (hl : t.size ≤ maxLen) (ht : HalvIn w) :
    Calls Tryz.prog 172 #[.int .u32 s, .string t] w fun e w' => e = .returned (.int .u32 (sumL s t.data.toList : Nat)) ∧ w' = w := by
  unfold maxLen at hl
  have HT := hide ht
  clear ht
  go_enter Tryz.func172, Tryz.ntmps172
  go_wp2
  go_loopw [5, 10] (fun sv iv wr => ∃ k m : Nat, k ≤ t.size ∧ iv = .int .i64 k ∧ sv = .int .u32 m ∧ m < 4294967296 ∧ Hid (m = sumL s (t.data.toList.take k)) ∧ wr = w) (fun _ iv _ => t.size - (intOf iv).toNat)
  case atStart => exact ⟨0, s, Nat.zero_le _, rfl, rfl, hs, rfl, rfl⟩
  case round =>
    obtain ⟨k, m, hk, rfl, rfl, hm, hrel, rfl⟩ := hrel
    by_cases hlt : (k : Int) < t.size
    · obtain ⟨c, hcc⟩ : ∃ c : Nat, t[k].toNat = c := ⟨_, rfl⟩
      have hc8 : c < 256 := by rw [← hcc]; exact UInt8.toNat_lt _
      have F := hide (sum_step s t k c m (by omega) hcc hrel.out)
      clear hrel
      go_wp2_with fail
      refine (withByte_any m c _ hm hc8 HT.out).mono ?_
      rintro e w1 ⟨rfl, rfl⟩
      have hb := h4_lt _ (h4_lt _ (xor_lt32 m c hm (by omega)))
      generalize h4 (h4 (m ^^^ c)) = m' at F hb
      go_wp2
      go_roundw
      case rel => exact ⟨k + 1, m', by omega, by go_num, rfl, hb, F, trivial⟩
      case measure => simp [intOf]; omega
    · have e : k = t.size := by omega
      subst e
      have F := hide (hrel.out.trans (by rw [all_take]))
      clear hrel
      go_wp2
      go_ret
      exact ⟨by rw [F.out]; rfl, rfl⟩
theorem sumOf_any (t : ByteArray) (w : World) (hl : t.size ≤ maxLen) (ht : HalvIn w) :
    Calls Tryz.prog 157 #[.string t] w fun e w' => e = .returned (.int .u32 (sumOf t.data.toList : Nat)) ∧ w' = w := by
  have HT := hide ht
  clear ht
  go_enter Tryz.func157, Tryz.ntmps157
  go_wp2_with fail
  refine (sumMore_any 4294967295 t _ (by omega) hl HT.out).mono ?_
  rintro e w1 ⟨rfl, rfl⟩
  go_wp2
  go_ret
  exact ⟨rfl, rfl⟩
end Go.Proofs.YtfmnaidhfgmemaaGreatDoor

namespace Go.Proofs.YtfmnaidhfgmemaaGreatDoor
open Go.RowKit
open Sums
theorem four_at (x : Nat) (hx : x < 4294967296) (w : World) (j : Nat) (hj : j < (four x).length) :
    (w.alloc (.cells #[Value.int .u8 ((x : Int) / 16777216), Value.int .u8 ((x : Int) / 65536 % 256), Value.int .u8 ((x : Int) / 256 % 256), Value.int .u8 ((x : Int) % 256)] 5)).cell? ((⟨w.heap.size, 0, none⟩ : Addr).add j) = some (.int .u8 ((four x)[j].toNat : Int)) := by
  rw [four_len] at hj
  match j, hj with
  | 0, _ => simp [Addr.add, four]; omega
  | 1, _ => simp [Addr.add, four]
  | 2, _ => simp [Addr.add, four]
  | 3, _ => simp [Addr.add, four]
set_option maxHeartbeats 400000 in
theorem asBytes_any (x : Nat) (w : World) (hx : x < 4294967296) :
    Calls Tryz.prog 158 #[.int .u32 x] w fun e w' => e = .returned (.string ⟨(four x).toArray⟩) ∧ Below w.heap.size w w' := by
  have hcv := run_convert_bytes_back (P := Tryz.prog) _ 110 9 5 ⟨w.heap.size, 0, none⟩ 4 (four x) Tryz.underlying110 Tryz.underlying5 Tryz.underlying9 (four_at x hx w)
  rw [four_len] at hcv
  generalize (ByteArray.mk (four x).toArray) = r at hcv
  go_enter Tryz.func158, Tryz.ntmps158
  go_wp2
  go_ret
  exact ⟨rfl, (Below.refl _ _).alloc (Nat.le_refl _) _⟩
set_option maxHeartbeats 400000 in
theorem sealed_any (t : ByteArray) (w : World) (hl : t.size ≤ 20000) (ht : HalvIn w) :
    Calls Tryz.prog 137 #[.string t] w fun e w' => e = .returned (.tuple #[.string (sealA t), .bool true]) ∧ Below w.heap.size w w' := by
  have g : ¬ (20000 : Int) < t.size := by omega
  have HT := hide ht
  clear ht
  go_enter Tryz.func137, Tryz.ntmps137
  go_wp2_with fail
  refine (sumOf_any t _ (by unfold maxLen; omega) HT.out).mono ?_
  rintro e w1 ⟨rfl, rfl⟩
  have hx := sumOf_lt t.data.toList
  have E : Hid (sealA t = t ++ ⟨(four (sumOf t.data.toList)).toArray⟩) := rfl
  have hfl := four_len (sumOf t.data.toList)
  generalize sumOf t.data.toList = x at hx E hfl
  go_wp2_with fail
  refine (asBytes_any x _ hx).mono ?_
  rintro e w2 ⟨rfl, hb⟩
  generalize four x = f at E hfl
  go_wp2
  go_ret2
  exact ⟨by rw [E.out]; rfl, hb⟩
theorem sealed_no (t : ByteArray) (w : World) (hl : (20000 : Int) < t.size) :
    Calls Tryz.prog 137 #[.string t] w fun e w' => e = .returned (.tuple #[.string ⟨#[]⟩, .bool false]) ∧ w' = w := by
  go_enter Tryz.func137, Tryz.ntmps137
  go_wp2
  go_ret2
  exact ⟨rfl, rfl⟩
end Go.Proofs.YtfmnaidhfgmemaaGreatDoor

namespace Go.Proofs.YtfmnaidhfgmemaaGreatDoor
open Go.RowKit
open Sums
def halfN : Nat → Nat → Nat
  | 0, x => x
  | k + 1, x => half (halfN k x)
theorem half_odd (m : Nat) (hm : m < 4294967296) (h : ((m : Int) % 2 == 1) = true) : bits .xor .u32 ((m : Int) / 2) 3558460437 = (half m : Nat) := by
  have h1 : m % 2 = 1 := by rw [beq_iff_eq] at h; omega
  have hy := u32_xor ((m : Int) / 2) 3558460437 (by omega) (by omega) (by omega) (by omega)
  rw [hy, half, if_pos h1, show ((m : Int) / 2).toNat = m / 2 by omega]
  rfl
theorem half_even (m : Nat) (h : ((m : Int) % 2 == 1) = false) : half m = m / 2 := by
  have h1 : ¬ m % 2 = 1 := by rw [beq_eq_false_iff_ne] at h; omega
  rw [half, if_neg h1, Nat.xor_zero]
theorem sum_step' (s : Nat) (t : ByteArray) (k c m : Nat) (h : k < t.size) (hc : t[k].toNat = c) (hm : m = sumL s (t.data.toList.take k)) : h4 (h4 (m ^^^ c)) = sumL s (t.data.toList.take (k + 1)) := by
  have hl : k < t.data.toList.length := by simpa using h
  have hcl : t.data.toList[k].toNat = c := by rw [← hc]; rfl
  rw [sumL_take _ _ _ hl, ← hm, sumB, hcl]
theorem all_take' (t : ByteArray) : t.data.toList.take t.size = t.data.toList := by
  apply List.take_of_length_le
  simp
set_option maxHeartbeats 400000 in
set_option maxRecDepth 100000 in
theorem specMore (s : Nat) (t : ByteArray) (w : World) (hs : s < 4294967296) (hl : t.size ≤ maxLen) :
    Calls Tryz.prog 146 #[.int .u32 s, .string t] w fun e w' => e = .returned (.int .u32 (sumL s t.data.toList : Nat)) ∧ w' = w := by
  unfold maxLen at hl
  go_enter Tryz.func146, Tryz.ntmps146
  go_wp2
  go_loopw [0, 5] (fun sv iv wr => ∃ k m : Nat, k ≤ t.size ∧ iv = .int .i64 k ∧ sv = .int .u32 m ∧ m < 4294967296 ∧ Hid (m = sumL s (t.data.toList.take k)) ∧ wr = w) (fun _ iv _ => t.size - (intOf iv).toNat)
  case atStart => exact ⟨0, s, Nat.zero_le _, rfl, rfl, hs, rfl, rfl⟩
  case round =>
    obtain ⟨k, m, hk, rfl, rfl, hm, hrel, rfl⟩ := hrel
    by_cases hlt : (k : Int) < t.size
    · obtain ⟨c, hcc⟩ : ∃ c : Nat, t[k].toNat = c := ⟨_, rfl⟩
      have hc8 : c < 256 := by rw [← hcc]; exact UInt8.toNat_lt _
      have F := hide (sum_step' s t k c m (by omega) hcc hrel.out)
      have hl1 := xor_lt32 m c hm (by omega)
      have hb := h4_lt _ (h4_lt _ hl1)
      have hy := u32_xor (m : Int) (c : Int) (by omega) (by omega) (by omega) (by omega)
      rw [Int.toNat_natCast, Int.toNat_natCast] at hy
      generalize m ^^^ c = x at F hb hl1 hy
      clear hrel
      go_wp2
      clear hy hcc
      go_loopw [0, 6] (fun sv iv w2 => ∃ j n : Nat, j ≤ 8 ∧ iv = .int .i64 j ∧ sv = .int .u32 n ∧ n < 4294967296 ∧ Hid (n = halfN j x) ∧ w2 = wr) (fun _ iv _ => 8 - (intOf iv).toNat)
      case atStart => exact ⟨0, x, by omega, rfl, rfl, hl1, rfl, rfl⟩
      case round =>
        obtain ⟨j, n, hj, rfl, rfl, hn, hrel, rfl⟩ := hrel
        by_cases hj8 : (j : Int) < 8
        · have hh := half_lt n hn
          have G : Hid (half n = halfN (j + 1) x) := by show half n = half (halfN j x); rw [← hrel.out]
          clear hrel
          cases ho : ((n : Int) % 2 == 1)
          · have he := half_even n ho
            rw [he] at G hh
            clear he
            go_wp2
            go_roundw
            case rel => exact ⟨j + 1, n / 2, by omega, by go_num, by go_num, hh, G, trivial⟩
            case measure => simp [intOf]; omega
          · have he := half_odd n hn ho
            generalize half n = n' at he G hh
            go_wp2
            go_roundw
            case rel => exact ⟨j + 1, n', by omega, by go_num, rfl, hh, G, trivial⟩
            case measure => simp [intOf]; omega
        · have e : j = 8 := by omega
          subst e
          have G : Hid (n = sumL s (t.data.toList.take (k + 1))) := hrel.out.trans F.out
          clear hrel F
          go_wp2
          go_roundw
          case rel => exact ⟨k + 1, n, by omega, by go_num, rfl, hn, G, trivial⟩
          case measure => simp [intOf]; omega
    · have e : k = t.size := by omega
      subst e
      have F := hide (hrel.out.trans (by rw [all_take']))
      clear hrel
      go_wp2
      go_ret
      exact ⟨by rw [F.out]; rfl, rfl⟩
theorem specOf (t : ByteArray) (w : World) (hl : t.size ≤ maxLen) :
    Calls Tryz.prog 122 #[.string t] w fun e w' => e = .returned (.int .u32 (sumOf t.data.toList : Nat)) ∧ w' = w := by
  go_enter Tryz.func122, Tryz.ntmps122
  go_wp2_with fail
  refine (specMore 4294967295 t _ (by omega) hl).mono ?_
  rintro e w1 ⟨rfl, rfl⟩
  go_wp2
  go_ret
  exact ⟨rfl, rfl⟩
end Go.Proofs.YtfmnaidhfgmemaaGreatDoor

namespace Go.Proofs.YtfmnaidhfgmemaaGreatDoor
open Go.RowKit
open Sums
set_option maxHeartbeats 400000 in
theorem specFour (x : Nat) (w : World) (hx : x < 4294967296) :
    Calls Tryz.prog 121 #[.int .u32 x] w fun e w' => e = .returned (.string ⟨(four x).toArray⟩) ∧ Below w.heap.size w w' := by
  have hcv := run_convert_bytes_back (P := Tryz.prog) _ 110 9 5 ⟨w.heap.size, 0, none⟩ 4 (four x) Tryz.underlying110 Tryz.underlying5 Tryz.underlying9 (four_at x hx w)
  rw [four_len] at hcv
  generalize (ByteArray.mk (four x).toArray) = r at hcv
  go_enter Tryz.func121, Tryz.ntmps121
  go_wp2
  go_ret
  exact ⟨rfl, (Below.refl _ _).alloc (Nat.le_refl _) _⟩
end Go.Proofs.YtfmnaidhfgmemaaGreatDoor

namespace Go.Proofs.YtfmnaidhfgmemaaGreatDoor
open Go.RowKit
open Sums
theorem clone_anyU (s : ByteArray) (w : World) (hs : s.size ≤ 281474976710656) :
    Calls Tryz.prog 175 #[.string s] w fun e w' => e = .returned (.string s) ∧ Below w.heap.size w w' := by
  go_enter Tryz.func175, Tryz.ntmps175
  go_wp2_with fail
  refine (Tryz.stringslite_Clone _ _ hs).mono ?_
  rintro e w' ⟨rfl, hb⟩
  go_wp2
  go_ret
  exact ⟨rfl, hb⟩
theorem unsealed_short (t : ByteArray) (w : World) (hl : (t.size : Int) < 4) :
    Calls Tryz.prog 208 #[.string t] w fun e w' => e = .returned (.tuple #[.string ⟨#[]⟩, .bool false]) ∧ w' = w := by
  go_enter Tryz.func208, Tryz.ntmps208
  go_wp2
  go_ret2
  exact ⟨rfl, rfl⟩
theorem toList_inj (a b : ByteArray) (h : a.toList = b.toList) : a = b := by
  rw [ByteArray.toList_eq, ByteArray.toList_eq] at h
  exact ByteArray.ext (Array.toList_inj.1 h)
theorem ne_toList (a b : ByteArray) (h : a ≠ b) : (a.toList == b.toList) = false := by
  rw [beq_eq_false_iff_ne]; exact fun e => h (toList_inj a b e)
theorem eq_toList (a b : ByteArray) (h : a = b) : (a.toList == b.toList) = true := by subst h; simp
set_option maxHeartbeats 400000 in
theorem unsealed_long (t : ByteArray) (w : World) (hl : (20004 : Int) < t.size) (hm : t.size ≤ maxLen) :
    Calls Tryz.prog 208 #[.string t] w fun e w' => e = .returned (.tuple #[.string ⟨#[]⟩, .bool false]) ∧ w' = w := by
  unfold maxLen at hm
  have hbs := body_size t
  have E : Hid (body t = t.extract 0 (t.size - 4)) := rfl
  generalize body t = b at hbs E
  go_enter Tryz.func208, Tryz.ntmps208
  go_wp2_with fail
  rw [← E.out]
  refine (sealed_no b _ (by omega)).mono ?_
  rintro e w1 ⟨rfl, rfl⟩
  go_wp2
  go_ret2
  exact ⟨rfl, rfl⟩
set_option maxHeartbeats 400000 in
theorem unsealed_yes' (t b : ByteArray) (w : World) (hl : 4 ≤ (t.size : Int)) (hl2 : (t.size : Int) ≤ 20004) (E : Hid (b = t.extract 0 (t.size - 4))) (hbs : b.size = t.size - 4) (hq : ((sealA b).toList == t.toList) = true) (HT : Hid (HalvIn w)) :
    Calls Tryz.prog 208 #[.string t] w fun e w' => e = .returned (.tuple #[.string b, .bool true]) ∧ Below w.heap.size w w' := by
  go_enter Tryz.func208, Tryz.ntmps208
  go_wp2_with fail
  rw [← E.out]
  refine (sealed_any b _ (by omega) HT.out).mono ?_
  rintro e w1 ⟨rfl, hb⟩
  have hs := hb.size
  clear HT
  generalize sealA b = r at hq
  go_wp2_with fail
  rw [← E.out]
  refine (clone_anyU b _ (by omega)).mono ?_
  rintro e w2 ⟨rfl, hb2⟩
  go_wp2
  go_ret2
  exact ⟨rfl, hb.trans (hb2.mono hs)⟩
theorem unsealed_yes (t : ByteArray) (w : World) (hl : 4 ≤ (t.size : Int)) (hl2 : (t.size : Int) ≤ 20004) (he : sealA (body t) = t) (ht : HalvIn w) :
    Calls Tryz.prog 208 #[.string t] w fun e w' => e = .returned (.tuple #[.string (body t), .bool true]) ∧ Below w.heap.size w w' :=
  unsealed_yes' t (body t) w hl hl2 rfl (body_size t) (eq_toList _ _ he) ht
set_option maxHeartbeats 400000 in
theorem unsealed_no' (t b : ByteArray) (w : World) (hl : 4 ≤ (t.size : Int)) (hl2 : (t.size : Int) ≤ 20004) (E : Hid (b = t.extract 0 (t.size - 4))) (hbs : b.size = t.size - 4) (hq : ((sealA b).toList == t.toList) = false) (HT : Hid (HalvIn w)) :
    Calls Tryz.prog 208 #[.string t] w fun e w' => e = .returned (.tuple #[.string ⟨#[]⟩, .bool false]) ∧ Below w.heap.size w w' := by
  go_enter Tryz.func208, Tryz.ntmps208
  go_wp2_with fail
  rw [← E.out]
  refine (sealed_any b _ (by omega) HT.out).mono ?_
  rintro e w1 ⟨rfl, hb⟩
  clear HT
  generalize sealA b = r at hq
  go_wp2
  go_ret2
  exact ⟨rfl, hb⟩
theorem unsealed_no (t : ByteArray) (w : World) (hl : 4 ≤ (t.size : Int)) (hl2 : (t.size : Int) ≤ 20004) (he : sealA (body t) ≠ t) (ht : HalvIn w) :
    Calls Tryz.prog 208 #[.string t] w fun e w' => e = .returned (.tuple #[.string ⟨#[]⟩, .bool false]) ∧ Below w.heap.size w w' :=
  unsealed_no' t (body t) w hl hl2 rfl (body_size t) (ne_toList _ _ he) ht
end Go.Proofs.YtfmnaidhfgmemaaGreatDoor
