/-
  Sum; SeP; Shelf
-/
import Derived.Test.YtaolinlginloaacDoorPq0
import Derived.Test.YtaolinlginloaacDoorSMath
import Derived.Lib.LaidTab
import Derived.Lib.AppendIntMem
import Derived.Laws.BitsAllLaws
import Derived.Shelf.Small.Wraps
import Derived.Shelf.LaysM
import Derived.Shelf.Strconv.Clone
import Derived.Ground.Names2Prog
import Derived.Shelf.Slices.SearchI
import Derived.Test.YtaolinlginloaacDoorProg
/-
  The walks of impl's sums: what each call gives.
-/
namespace Go.Proofs.YtaolinlginloaacDoor
open Go.RowKit
open Sums

def HalvIn (w : World) : Prop := Lib.TabIs Tryd.prog w "loop.example/g00195/impl.fourHalvings" .u32 (tab.map Int.ofNat)
theorem HalvIn.on {w w' : World} (h : HalvIn w) (hb : Below w.heap.size w w') : HalvIn w' := Lib.tabBelow_of_tabIs h w' hb
theorem HalvIn.cell {w : World} (h : HalvIn w) (i : Nat) (hi : i < tab.length) : w.cell? ⟨1, i, none⟩ = some (.int .u32 (tab[i] : Nat)) := by
  have := Lib.TabIs.cell h (g := 1) (by kernel_rfl) i (by simpa using hi)
  rw [this]
  simp [List.getD, hi]

theorem tab_lt : ∀ r : Fin 16, tab[r.val]'(by simp [tab]) < 4294967296 := by decide
set_option maxHeartbeats 400000 in
theorem halved_any (s : Nat) (w : World) (hs : s < 4294967296) (ht : HalvIn w) :
    Calls Tryd.prog 123 #[.int .u32 s] w fun e w' => e = .returned (.int .u32 (h4 s : Nat)) ∧ w' = w := by
  have hm : s % 16 < tab.length := by rw [tab_len]; omega
  have E := h4_tab s hm
  have hc := ht.cell (s % 16) hm
  have hx : tab[s % 16] < 4294967296 := tab_lt ⟨s % 16, by omega⟩
  generalize tab[s % 16] = x at E hc hx
  have hy := u32_xor ((s : Int) / 16) (x : Int) (by omega) (by omega) (by omega) (by omega)
  rw [show ((s : Int) / 16).toNat = s / 16 by omega, Int.toNat_natCast, ← E] at hy
  clear ht hm E
  go_enter Tryd.func123, Tryd.ntmps123
  go_wp2
  go_ret
  exact ⟨rfl, rfl⟩

set_option maxHeartbeats 400000 in
theorem withByte_any (s c : Nat) (w : World) (hs : s < 4294967296) (hb : c < 256) (ht : HalvIn w) :
    Calls Tryd.prog 116 #[.int .u32 s, .int .u8 c] w fun e w' => e = .returned (.int .u32 (h4 (h4 (s ^^^ c)) : Nat)) ∧ w' = w := by
  have hl := xor_lt32 s c hs (by omega)
  have hl2 := h4_lt _ hl
  have hy := u32_xor (s : Int) (c : Int) (by omega) (by omega) (by omega) (by omega)
  rw [Int.toNat_natCast, Int.toNat_natCast] at hy
  have HT := hide ht
  clear ht
  generalize s ^^^ c = y at hy hl hl2
  go_enter Tryd.func116, Tryd.ntmps116
  go_wp2_with fail
  refine (halved_any y _ hl HT.out).mono ?_
  rintro e w1 ⟨rfl, rfl⟩
  go_wp2_with fail
  refine (halved_any (h4 y) _ hl2 HT.out).mono ?_
  rintro e w1 ⟨rfl, rfl⟩
  go_wp2
  go_ret
  exact ⟨rfl, rfl⟩

theorem sum_step (s : Nat) (t : ByteArray) (k c m : Nat) (h : k < t.size) (hc : t[k].toNat = c) (hm : m = sumL s (t.data.toList.take k)) : h4 (h4 (m ^^^ c)) = sumL s (t.data.toList.take (k + 1)) := by
  have hl : k < t.data.toList.length := by simpa using h
  have hcl : t.data.toList[k].toNat = c := by rw [← hc]; rfl
  rw [sumL_take _ _ _ hl, ← hm, sumB, hcl]
theorem all_take (t : ByteArray) : t.data.toList.take t.size = t.data.toList := by
  apply List.take_of_length_le
  simp

set_option maxHeartbeats 400000 in
theorem sumMore_any (s : Nat) (t : ByteArray) (w : World) (hs : s < 4294967296) (hl : t.size ≤ maxLen) (ht : HalvIn w) :
    Calls Tryd.prog 99 #[.int .u32 s, .string t] w fun e w' => e = .returned (.int .u32 (sumL s t.data.toList : Nat)) ∧ w' = w := by
  unfold maxLen at hl
  have HT := hide ht
  clear ht
  go_enter Tryd.func99, Tryd.ntmps99
  go_wp2
  go_loopw [5, 10] (fun sv iv wr => ∃ k m : Nat, k ≤ t.size ∧ iv = .int .i64 k ∧ sv = .int .u32 m ∧ m < 4294967296 ∧ Hid (m = sumL s (t.data.toList.take k)) ∧ wr = w) (fun _ iv _ => t.size - (intOf iv).toNat)
  case atStart => exact ⟨0, s, Nat.zero_le _, rfl, rfl, hs, rfl, rfl⟩
  case round =>
    obtain ⟨k, m, hk, rfl, rfl, hm, hrel, rfl⟩ := hrel
    by_cases hlt : (k : Int) < t.size
    · obtain ⟨c, hcc⟩ : ∃ c : Nat, t[k].toNat = c := ⟨_, rfl⟩
      have hc8 : c < 256 := by rw [← hcc]; exact UInt8.toNat_lt _
      have F := hide (sum_step s t k c m (by omega) hcc hrel.out)
      clear hrel
      go_wp2_with fail
      refine (withByte_any m c _ hm hc8 HT.out).mono ?_
      rintro e w1 ⟨rfl, rfl⟩
      have hb := h4_lt _ (h4_lt _ (xor_lt32 m c hm (by omega)))
      generalize h4 (h4 (m ^^^ c)) = m' at F hb
      go_wp2
      go_roundw
      case rel => exact ⟨k + 1, m', by omega, by go_num, rfl, hb, F, trivial⟩
      case measure => simp [intOf]; omega
    · have e : k = t.size := by omega
      subst e
      have F := hide (hrel.out.trans (by rw [all_take]))
      clear hrel
      go_wp2
      go_ret
      exact ⟨by rw [F.out]; rfl, rfl⟩

theorem sumOf_any (t : ByteArray) (w : World) (hl : t.size ≤ maxLen) (ht : HalvIn w) :
    Calls Tryd.prog 78 #[.string t] w fun e w' => e = .returned (.int .u32 (sumOf t.data.toList : Nat)) ∧ w' = w := by
  have HT := hide ht
  clear ht
  go_enter Tryd.func78, Tryd.ntmps78
  go_wp2_with fail
  refine (sumMore_any 4294967295 t _ (by omega) hl HT.out).mono ?_
  rintro e w1 ⟨rfl, rfl⟩
  go_wp2
  go_ret
  exact ⟨rfl, rfl⟩
end Go.Proofs.YtaolinlginloaacDoor

/-
  Texts sealed with a sum, in plain words.
-/
namespace Go.Proofs.YtaolinlginloaacDoor
open Sums

def sealA (t : ByteArray) : ByteArray := t ++ ⟨(four (sumOf t.data.toList)).toArray⟩
theorem sealA_size (t : ByteArray) : (sealA t).size = t.size + 4 := by
  simp [sealA, ByteArray.size_append]; rfl
theorem sealA_list (t : ByteArray) : (sealA t).data.toList = sealL t.data.toList := by
  simp [sealA, sealL, ByteArray.data_append]

def body (t : ByteArray) : ByteArray := t.extract 0 (t.size - 4)
theorem body_size (t : ByteArray) : (body t).size = t.size - 4 := by simp [body]
/-- What stands sealed in a text, if any does. -/
def unA (t : ByteArray) : Option ByteArray :=
  if 4 ≤ t.size ∧ t.size ≤ 20004 ∧ (sealA (body t)).data.toList = t.data.toList then some (body t) else none
theorem unA_some {t s : ByteArray} (h : unA t = some s) : sealA s = t ∧ s.size ≤ 20000 := by
  unfold unA at h
  split at h
  · rename_i hc
    cases h
    exact ⟨ByteArray.ext (Array.toList_inj.1 hc.2.2), by rw [body_size]; omega⟩
  · cases h
theorem body_seal (s : ByteArray) : body (sealA s) = s := by
  unfold body
  rw [sealA_size]
  apply ByteArray.ext
  unfold sealA
  have e : s.size + 4 - 4 = s.data.size := by simp
  rw [e]
  simp [ByteArray.data_append, ByteArray.data_extract]
theorem unA_seal (s : ByteArray) (h : s.size ≤ 20000) : unA (sealA s) = some s := by
  unfold unA
  rw [body_seal, if_pos ⟨by rw [sealA_size]; omega, by rw [sealA_size]; omega, rfl⟩]

theorem unA_none {t : ByteArray} (h : ¬ (4 ≤ t.size ∧ t.size ≤ 20004 ∧ sealA (body t) = t)) : unA t = none := by
  unfold unA
  rw [if_neg]
  rintro ⟨a, b, c⟩
  exact h ⟨a, b, ByteArray.ext (Array.toList_inj.1 c)⟩
theorem unA_yes {t : ByteArray} (h1 : 4 ≤ t.size) (h2 : t.size ≤ 20004) (h3 : sealA (body t) = t) : unA t = some (body t) := by
  unfold unA
  rw [if_pos ⟨h1, h2, by rw [h3]⟩]

end Go.Proofs.YtaolinlginloaacDoor

/-
  The library contracts that the proofs of this seat use, laid at this translation: each is one application of a theorem of the library.
-/
namespace Go.Proofs
open Go.Shelf
def Tryd.lays215_ren : Go.Shelf.Ren := ⟨fun | 215 => 92 | n => n, fun | 3 => 3 | 4 => 4 | n => n, fun | n => n⟩
theorem Tryd.lays215 : Go.Proofs.Lays.n215 Tryd.prog Tryd.lays215_ren := {
  mixed := by kernel_rfl
  f215 := Tryd.func92.trans (congrArg some (by kernel_rfl))
  t3 := Tryd.underlying3
  a3 := Tryd.isAgg3
  z3 := Tryd.sizeOf3
  v3 := Tryd.zeroValue3
  t4 := Tryd.underlying4
  a4 := Tryd.isAgg4
  z4 := Tryd.sizeOf4
  v4 := Tryd.zeroValue4 }
open Go.RowKit in
theorem Tryd.cmp_isNaN_int (x : Int) (w : World) :
    Calls Tryd.prog 92 #[.int .i64 x] w fun e w' => e = .returned (.bool false) ∧ w' = w := Any.cmp_isNaN_int Tryd.lays215 x w
def Tryd.lays122_ren : Go.Shelf.Ren := ⟨fun | 122 => 65 | 215 => 92 | n => n, fun | 3 => 3 | 4 => 4 | n => n, fun | n => n⟩
theorem Tryd.lays122 : Go.Proofs.Lays.n122 Tryd.prog Tryd.lays122_ren := {
  mixed := by kernel_rfl
  f122 := Tryd.func65.trans (congrArg some (by kernel_rfl))
  f215 := Tryd.func92.trans (congrArg some (by kernel_rfl))
  t3 := Tryd.underlying3
  a3 := Tryd.isAgg3
  z3 := Tryd.sizeOf3
  v3 := Tryd.zeroValue3
  t4 := Tryd.underlying4
  a4 := Tryd.isAgg4
  z4 := Tryd.sizeOf4
  v4 := Tryd.zeroValue4 }
open Go.RowKit in
theorem Tryd.cmp_Compare_int (x y : Int) (w : World) :
    Calls Tryd.prog 65 #[.int .i64 x, .int .i64 y] w fun e w' => e = .returned (.int .i64 (Lib.compareInt x y)) ∧ w' = w := Any.cmp_Compare_int Tryd.lays122 x y w
def Tryd.laysM316_ren : Go.Shelf.Ren := ⟨fun | 316 => 74 | n => n, fun | 9 => 9 | 3 => 3 | 4 => 4 | 37 => 32 | 0 => 0 | 127 => 137 | 5 => 5 | n => n, fun | n => n⟩
theorem Tryd.laysM316 : Go.Proofs.LaysM.n316 Tryd.prog Tryd.laysM316_ren := {
  mixed := by kernel_rfl
  f316 := Tryd.func74.trans (congrArg some (by kernel_rfl))
  t0 := Tryd.underlying0
  a0 := Tryd.isAgg0
  z0 := Tryd.sizeOf0
  v0 := Tryd.zeroValue0
  t3 := Tryd.underlying3
  a3 := Tryd.isAgg3
  z3 := Tryd.sizeOf3
  v3 := Tryd.zeroValue3
  t4 := Tryd.underlying4
  a4 := Tryd.isAgg4
  z4 := Tryd.sizeOf4
  v4 := Tryd.zeroValue4
  t9 := Tryd.underlying9
  a9 := Tryd.isAgg9
  z9 := Tryd.sizeOf9
  v9 := Tryd.zeroValue9
  t37 := Tryd.underlying32
  a37 := Tryd.isAgg32
  z37 := Tryd.sizeOf32
  v37 := Tryd.zeroValue32
  t127 := Tryd.underlying137
  a127 := Tryd.isAgg137
  z127 := Tryd.sizeOf137
  v127 := Tryd.zeroValue137
  t5 := Tryd.underlying5
  a5 := Tryd.isAgg5
  z5 := Tryd.sizeOf5
  v5 := Tryd.zeroValue5
  i0 := by kernel_rfl
  i3 := by kernel_rfl
  i4 := by kernel_rfl
  i5 := by kernel_rfl
  i9 := by kernel_rfl
  i37 := by kernel_rfl
  i127 := by kernel_rfl }
open Go.RowKit in
theorem Tryd.stringslite_Clone (s : ByteArray) (w : World) (hlim : s.size ≤ 281474976710656) :
    Calls Tryd.prog 74 #[.string s] w fun e w' => e = .returned (.string s) ∧ Below w.heap.size w w' := Any.stringslite_Clone Tryd.laysM316 s w hlim
def Tryd.laysNm237_ren : Go.Shelf.Ren := ⟨fun | 37 => 92 | n => n, fun | 3 => 3 | 4 => 4 | n => n, fun | n => n⟩
theorem Tryd.laysNm237 : Go.Proofs.Lays2.n37 Tryd.prog Tryd.laysNm237_ren := {
  mixed := by kernel_rfl
  f37 := Tryd.func92.trans (congrArg some (by kernel_rfl))
  t3 := Tryd.underlying3
  a3 := Tryd.isAgg3
  z3 := Tryd.sizeOf3
  v3 := Tryd.zeroValue3
  t4 := Tryd.underlying4
  a4 := Tryd.isAgg4
  z4 := Tryd.sizeOf4
  v4 := Tryd.zeroValue4 }
open Go.RowKit Go.Lib in
theorem Tryd.cmp_isNaN_int2 (x : Int) (w : World) :
    Calls Tryd.prog 92 #[.int .i64 x] w fun e w' => e = .returned (.bool false) ∧ w' = w := Any.cmp_isNaN_int2 Tryd.laysNm237 x w
end Go.Proofs
