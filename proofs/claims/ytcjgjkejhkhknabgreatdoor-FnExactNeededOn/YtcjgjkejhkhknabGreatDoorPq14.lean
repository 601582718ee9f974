/-
  Shelf; ILive; SInsI
-/
import Derived.Shelf.Small.Bits
import Derived.Shelf.Small.Wraps
import Derived.Shelf.Strconv.Itoa0
import Derived.Shelf.LaysM
import Derived.Shelf.Strconv.Clone
import Derived.Shelf.Sort.Plain
import Derived.Shelf.Strings.Prefix
import Derived.Shelf.Slices.Turned
import Derived.Ground.Names2Prog
import Derived.Shelf.Slices.CompactI
import Derived.Shelf.Slices.SearchI
import Derived.Shelf.Slices.Cells
import Derived.Shelf.Slices.In.SortNone
import Derived.Test.YtcjgjkejhkhknabGreatDoorProg
import Derived.Test.YtcjgjkejhkhknabGreatDoorPq13
import Derived.Test.YtcjgjkejhkhknabGreatDoorPq2
import Derived.Test.YtcjgjkejhkhknabGreatDoorPq8
/-
  The library contracts that the proofs of this seat use, laid at this translation: each is one application of a theorem of the library.
-/
namespace Go.Proofs
open Go.Shelf
def Tryz.lays128_ren : Go.Shelf.Ren := ⟨fun | 128 => 124 | n => n, fun | 51 => 131 | 3 => 3 | 4 => 4 | 46 => 147 | 5 => 5 | 9 => 9 | n => n, fun | n => n⟩
theorem Tryz.lays128 : Go.Proofs.Lays.n128 Tryz.prog Tryz.lays128_ren := {
  mixed := by kernel_rfl
  f128 := Tryz.func124.trans (congrArg some (by kernel_rfl))
  t3 := Tryz.underlying3
  a3 := Tryz.isAgg3
  z3 := Tryz.sizeOf3
  v3 := Tryz.zeroValue3
  t4 := Tryz.underlying4
  a4 := Tryz.isAgg4
  z4 := Tryz.sizeOf4
  v4 := Tryz.zeroValue4
  t5 := Tryz.underlying5
  a5 := Tryz.isAgg5
  z5 := Tryz.sizeOf5
  v5 := Tryz.zeroValue5
  t9 := Tryz.underlying9
  a9 := Tryz.isAgg9
  z9 := Tryz.sizeOf9
  v9 := Tryz.zeroValue9
  t46 := Tryz.underlying147
  a46 := Tryz.isAgg147
  z46 := Tryz.sizeOf147
  v46 := Tryz.zeroValue147
  t51 := Tryz.underlying131
  a51 := Tryz.isAgg131
  z51 := Tryz.sizeOf131
  v51 := Tryz.zeroValue131 }
theorem Tryz.bits_Len32 (x : Int) (w : World) (h0 : 0 ≤ x) (h1 : x ≤ 4294967295) :
    Calls Tryz.prog 124 #[.int .u32 x] w fun e w' => e = .returned (.int .i64 (Lib.bitLen x.toNat)) ∧ w' = w := Any.bits_Len32 Tryz.lays128 x w h0 h1
def Tryz.lays125_ren : Go.Shelf.Ren := ⟨fun | 125 => 82 | 128 => 124 | 129 => 125 | n => n, fun | 46 => 147 | 3 => 3 | 51 => 131 | 53 => 188 | 4 => 4 | 5 => 5 | 9 => 9 | n => n, fun | n => n⟩
theorem Tryz.lays125 : Go.Proofs.Lays.n125 Tryz.prog Tryz.lays125_ren := {
  mixed := by kernel_rfl
  f125 := Tryz.func82.trans (congrArg some (by kernel_rfl))
  f128 := Tryz.func124.trans (congrArg some (by kernel_rfl))
  f129 := Tryz.func125.trans (congrArg some (by kernel_rfl))
  t3 := Tryz.underlying3
  a3 := Tryz.isAgg3
  z3 := Tryz.sizeOf3
  v3 := Tryz.zeroValue3
  t4 := Tryz.underlying4
  a4 := Tryz.isAgg4
  z4 := Tryz.sizeOf4
  v4 := Tryz.zeroValue4
  t5 := Tryz.underlying5
  a5 := Tryz.isAgg5
  z5 := Tryz.sizeOf5
  v5 := Tryz.zeroValue5
  t9 := Tryz.underlying9
  a9 := Tryz.isAgg9
  z9 := Tryz.sizeOf9
  v9 := Tryz.zeroValue9
  t46 := Tryz.underlying147
  a46 := Tryz.isAgg147
  z46 := Tryz.sizeOf147
  v46 := Tryz.zeroValue147
  t51 := Tryz.underlying131
  a51 := Tryz.isAgg131
  z51 := Tryz.sizeOf131
  v51 := Tryz.zeroValue131
  t53 := Tryz.underlying188
  a53 := Tryz.isAgg188
  z53 := Tryz.sizeOf188
  v53 := Tryz.zeroValue188 }
theorem Tryz.bits_Len (x : Int) (w : World) (h0 : 0 ≤ x) (h1 : x ≤ 18446744073709551615) :
    Calls Tryz.prog 82 #[.int .u64 x] w fun e w' => e = .returned (.int .i64 (Lib.bitLen x.toNat)) ∧ w' = w := Any.bits_Len Tryz.lays125 x w h0 h1
def Tryz.lays210_ren : Go.Shelf.Ren := ⟨fun | 210 => 158 | 206 => 172 | n => n, fun | 9 => 9 | 4 => 4 | 3 => 3 | n => n, fun | n => n⟩
theorem Tryz.lays210 : Go.Proofs.Lays.n210 Tryz.prog Tryz.lays210_ren := {
  mixed := by kernel_rfl
  f206 := Tryz.func172.trans (congrArg some (by kernel_rfl))
  f210 := Tryz.func158.trans (congrArg some (by kernel_rfl))
  t3 := Tryz.underlying3
  a3 := Tryz.isAgg3
  z3 := Tryz.sizeOf3
  v3 := Tryz.zeroValue3
  t4 := Tryz.underlying4
  a4 := Tryz.isAgg4
  z4 := Tryz.sizeOf4
  v4 := Tryz.zeroValue4
  t9 := Tryz.underlying9
  a9 := Tryz.isAgg9
  z9 := Tryz.sizeOf9
  v9 := Tryz.zeroValue9 }
open Go.RowKit in
theorem Tryz.stringslite_CutPrefix (s p : ByteArray) (w : World) :
    Calls Tryz.prog 158 #[.string s, .string p] w fun e w' => e = .returned (.tuple #[.string ⟨(Lib.trimPrefix s.data.toList p.data.toList).toArray⟩, .bool (Lib.hasPrefix s.data.toList p.data.toList)]) ∧ w' = w := Any.stringslite_CutPrefix Tryz.lays210 s p w
def Tryz.lays103_ren : Go.Shelf.Ren := ⟨fun | 103 => 132 | 210 => 158 | 206 => 172 | n => n, fun | 9 => 9 | 4 => 4 | 24 => 85 | 3 => 3 | n => n, fun | n => n⟩
theorem Tryz.lays103 : Go.Proofs.Lays.n103 Tryz.prog Tryz.lays103_ren := {
  mixed := by kernel_rfl
  f103 := Tryz.func132.trans (congrArg some (by kernel_rfl))
  f206 := Tryz.func172.trans (congrArg some (by kernel_rfl))
  f210 := Tryz.func158.trans (congrArg some (by kernel_rfl))
  t3 := Tryz.underlying3
  a3 := Tryz.isAgg3
  z3 := Tryz.sizeOf3
  v3 := Tryz.zeroValue3
  t4 := Tryz.underlying4
  a4 := Tryz.isAgg4
  z4 := Tryz.sizeOf4
  v4 := Tryz.zeroValue4
  t9 := Tryz.underlying9
  a9 := Tryz.isAgg9
  z9 := Tryz.sizeOf9
  v9 := Tryz.zeroValue9
  t24 := Tryz.underlying85
  a24 := Tryz.isAgg85
  z24 := Tryz.sizeOf85
  v24 := Tryz.zeroValue85 }
open Go.RowKit in
theorem Tryz.strings_CutPrefix (s p : ByteArray) (w : World) :
    Calls Tryz.prog 132 #[.string s, .string p] w fun e w' => e = .returned (.tuple #[.string ⟨(Lib.trimPrefix s.data.toList p.data.toList).toArray⟩, .bool (Lib.hasPrefix s.data.toList p.data.toList)]) ∧ w' = w := Any.strings_CutPrefix Tryz.lays103 s p w
def Tryz.lays215_ren : Go.Shelf.Ren := ⟨fun | 215 => 71 | n => n, fun | 3 => 3 | 4 => 4 | n => n, fun | n => n⟩
theorem Tryz.lays215 : Go.Proofs.Lays.n215 Tryz.prog Tryz.lays215_ren := {
  mixed := by kernel_rfl
  f215 := Tryz.func71.trans (congrArg some (by kernel_rfl))
  t3 := Tryz.underlying3
  a3 := Tryz.isAgg3
  z3 := Tryz.sizeOf3
  v3 := Tryz.zeroValue3
  t4 := Tryz.underlying4
  a4 := Tryz.isAgg4
  z4 := Tryz.sizeOf4
  v4 := Tryz.zeroValue4 }
open Go.RowKit in
theorem Tryz.cmp_isNaN_int (x : Int) (w : World) :
    Calls Tryz.prog 71 #[.int .i64 x] w fun e w' => e = .returned (.bool false) ∧ w' = w := Any.cmp_isNaN_int Tryz.lays215 x w
def Tryz.lays122_ren : Go.Shelf.Ren := ⟨fun | 122 => 45 | 215 => 71 | n => n, fun | 3 => 3 | 4 => 4 | n => n, fun | n => n⟩
theorem Tryz.lays122 : Go.Proofs.Lays.n122 Tryz.prog Tryz.lays122_ren := {
  mixed := by kernel_rfl
  f122 := Tryz.func45.trans (congrArg some (by kernel_rfl))
  f215 := Tryz.func71.trans (congrArg some (by kernel_rfl))
  t3 := Tryz.underlying3
  a3 := Tryz.isAgg3
  z3 := Tryz.sizeOf3
  v3 := Tryz.zeroValue3
  t4 := Tryz.underlying4
  a4 := Tryz.isAgg4
  z4 := Tryz.sizeOf4
  v4 := Tryz.zeroValue4 }
open Go.RowKit in
theorem Tryz.cmp_Compare_int (x y : Int) (w : World) :
    Calls Tryz.prog 45 #[.int .i64 x, .int .i64 y] w fun e w' => e = .returned (.int .i64 (Lib.compareInt x y)) ∧ w' = w := Any.cmp_Compare_int Tryz.lays122 x y w
def Tryz.lays129_ren : Go.Shelf.Ren := ⟨fun | 129 => 125 | n => n, fun | 53 => 188 | 3 => 3 | 4 => 4 | 46 => 147 | 5 => 5 | 9 => 9 | n => n, fun | n => n⟩
theorem Tryz.lays129 : Go.Proofs.Lays.n129 Tryz.prog Tryz.lays129_ren := {
  mixed := by kernel_rfl
  f129 := Tryz.func125.trans (congrArg some (by kernel_rfl))
  t3 := Tryz.underlying3
  a3 := Tryz.isAgg3
  z3 := Tryz.sizeOf3
  v3 := Tryz.zeroValue3
  t4 := Tryz.underlying4
  a4 := Tryz.isAgg4
  z4 := Tryz.sizeOf4
  v4 := Tryz.zeroValue4
  t5 := Tryz.underlying5
  a5 := Tryz.isAgg5
  z5 := Tryz.sizeOf5
  v5 := Tryz.zeroValue5
  t9 := Tryz.underlying9
  a9 := Tryz.isAgg9
  z9 := Tryz.sizeOf9
  v9 := Tryz.zeroValue9
  t46 := Tryz.underlying147
  a46 := Tryz.isAgg147
  z46 := Tryz.sizeOf147
  v46 := Tryz.zeroValue147
  t53 := Tryz.underlying188
  a53 := Tryz.isAgg188
  z53 := Tryz.sizeOf188
  v53 := Tryz.zeroValue188 }
theorem Tryz.bits_Len64 (x : Int) (w : World) (h0 : 0 ≤ x) (h1 : x ≤ 18446744073709551615) :
    Calls Tryz.prog 125 #[.int .u64 x] w fun e w' => e = .returned (.int .i64 (Lib.bitLen x.toNat)) ∧ w' = w := Any.bits_Len64 Tryz.lays129 x w h0 h1
def Tryz.laysM316_ren : Go.Shelf.Ren := ⟨fun | 316 => 128 | n => n, fun | 9 => 9 | 3 => 3 | 4 => 4 | 37 => 191 | 0 => 0 | 127 => 224 | 5 => 5 | n => n, fun | n => n⟩
theorem Tryz.laysM316 : Go.Proofs.LaysM.n316 Tryz.prog Tryz.laysM316_ren := {
  mixed := by kernel_rfl
  f316 := Tryz.func128.trans (congrArg some (by kernel_rfl))
  t0 := Tryz.underlying0
  a0 := Tryz.isAgg0
  z0 := Tryz.sizeOf0
  v0 := Tryz.zeroValue0
  t3 := Tryz.underlying3
  a3 := Tryz.isAgg3
  z3 := Tryz.sizeOf3
  v3 := Tryz.zeroValue3
  t4 := Tryz.underlying4
  a4 := Tryz.isAgg4
  z4 := Tryz.sizeOf4
  v4 := Tryz.zeroValue4
  t9 := Tryz.underlying9
  a9 := Tryz.isAgg9
  z9 := Tryz.sizeOf9
  v9 := Tryz.zeroValue9
  t37 := Tryz.underlying191
  a37 := Tryz.isAgg191
  z37 := Tryz.sizeOf191
  v37 := Tryz.zeroValue191
  t127 := Tryz.underlying224
  a127 := Tryz.isAgg224
  z127 := Tryz.sizeOf224
  v127 := Tryz.zeroValue224
  t5 := Tryz.underlying5
  a5 := Tryz.isAgg5
  z5 := Tryz.sizeOf5
  v5 := Tryz.zeroValue5
  i0 := by kernel_rfl
  i3 := by kernel_rfl
  i4 := by kernel_rfl
  i5 := by kernel_rfl
  i9 := by kernel_rfl
  i37 := by kernel_rfl
  i127 := by kernel_rfl }
open Go.RowKit in
theorem Tryz.stringslite_Clone (s : ByteArray) (w : World) (hlim : s.size ≤ 281474976710656) :
    Calls Tryz.prog 128 #[.string s] w fun e w' => e = .returned (.string s) ∧ Below w.heap.size w w' := Any.stringslite_Clone Tryz.laysM316 s w hlim
def Tryz.lays189_ren : Go.Shelf.Ren := ⟨fun | 189 => 55 | 125 => 82 | 257 => 81 | 128 => 124 | 129 => 125 | 294 => 115 | 295 => 116 | 296 => 117 | 297 => 118 | 298 => 119 | 299 => 120 | 216 => 121 | 300 => 122 | 301 => 123 | 328 => 145 | 329 => 146 | 330 => 147 | 331 => 148 | 332 => 149 | 215 => 71 | 343 => 168 | n => n, fun | 28 => 25 | 3 => 3 | 46 => 147 | 0 => 0 | 51 => 131 | 53 => 188 | 4 => 4 | 183 => 179 | 182 => 178 | 131 => 184 | 5 => 5 | 9 => 9 | 218 => 217 | 222 => 221 | 228 => 241 | 229 => 234 | n => n, fun | n => n⟩
theorem Tryz.lays189 : Go.Proofs.Lays.n189 Tryz.prog Tryz.lays189_ren := {
  mixed := by kernel_rfl
  f125 := Tryz.func82.trans (congrArg some (by kernel_rfl))
  f128 := Tryz.func124.trans (congrArg some (by kernel_rfl))
  f129 := Tryz.func125.trans (congrArg some (by kernel_rfl))
  f189 := Tryz.func55.trans (congrArg some (by kernel_rfl))
  f215 := Tryz.func71.trans (congrArg some (by kernel_rfl))
  f216 := Tryz.func121.trans (congrArg some (by kernel_rfl))
  f257 := Tryz.func81.trans (congrArg some (by kernel_rfl))
  f294 := Tryz.func115.trans (congrArg some (by kernel_rfl))
  f295 := Tryz.func116.trans (congrArg some (by kernel_rfl))
  f296 := Tryz.func117.trans (congrArg some (by kernel_rfl))
  f297 := Tryz.func118.trans (congrArg some (by kernel_rfl))
  f298 := Tryz.func119.trans (congrArg some (by kernel_rfl))
  f299 := Tryz.func120.trans (congrArg some (by kernel_rfl))
  f300 := Tryz.func122.trans (congrArg some (by kernel_rfl))
  f301 := Tryz.func123.trans (congrArg some (by kernel_rfl))
  f328 := Tryz.func145.trans (congrArg some (by kernel_rfl))
  f329 := Tryz.func146.trans (congrArg some (by kernel_rfl))
  f330 := Tryz.func147.trans (congrArg some (by kernel_rfl))
  f331 := Tryz.func148.trans (congrArg some (by kernel_rfl))
  f332 := Tryz.func149.trans (congrArg some (by kernel_rfl))
  f343 := Tryz.func168.trans (congrArg some (by kernel_rfl))
  t0 := Tryz.underlying0
  a0 := Tryz.isAgg0
  z0 := Tryz.sizeOf0
  v0 := Tryz.zeroValue0
  t3 := Tryz.underlying3
  a3 := Tryz.isAgg3
  z3 := Tryz.sizeOf3
  v3 := Tryz.zeroValue3
  t4 := Tryz.underlying4
  a4 := Tryz.isAgg4
  z4 := Tryz.sizeOf4
  v4 := Tryz.zeroValue4
  t5 := Tryz.underlying5
  a5 := Tryz.isAgg5
  z5 := Tryz.sizeOf5
  v5 := Tryz.zeroValue5
  t9 := Tryz.underlying9
  a9 := Tryz.isAgg9
  z9 := Tryz.sizeOf9
  v9 := Tryz.zeroValue9
  t28 := Tryz.underlying25
  a28 := Tryz.isAgg25
  z28 := Tryz.sizeOf25
  v28 := Tryz.zeroValue25
  t46 := Tryz.underlying147
  a46 := Tryz.isAgg147
  z46 := Tryz.sizeOf147
  v46 := Tryz.zeroValue147
  t51 := Tryz.underlying131
  a51 := Tryz.isAgg131
  z51 := Tryz.sizeOf131
  v51 := Tryz.zeroValue131
  t53 := Tryz.underlying188
  a53 := Tryz.isAgg188
  z53 := Tryz.sizeOf188
  v53 := Tryz.zeroValue188
  t131 := Tryz.underlying184
  a131 := Tryz.isAgg184
  z131 := Tryz.sizeOf184
  v131 := Tryz.zeroValue184
  t182 := Tryz.underlying178
  a182 := Tryz.isAgg178
  z182 := Tryz.sizeOf178
  v182 := Tryz.zeroValue178
  t183 := Tryz.underlying179
  a183 := Tryz.isAgg179
  z183 := Tryz.sizeOf179
  v183 := Tryz.zeroValue179
  t218 := Tryz.underlying217
  a218 := Tryz.isAgg217
  z218 := Tryz.sizeOf217
  v218 := Tryz.zeroValue217
  t222 := Tryz.underlying221
  a222 := Tryz.isAgg221
  z222 := Tryz.sizeOf221
  v222 := Tryz.zeroValue221
  t228 := Tryz.underlying241
  a228 := Tryz.isAgg241
  z228 := Tryz.sizeOf241
  v228 := Tryz.zeroValue241
  t229 := Tryz.underlying234
  a229 := Tryz.isAgg234
  z229 := Tryz.sizeOf234
  v229 := Tryz.zeroValue234 }
open Go.Sort Go.RowKit in
theorem Tryz.slices_Sort_int (blk off cap : Nat) (zs : List Int) (w : World) (hH : Holds (Value.int .i64) w blk off zs.toArray) (hblk : blk < w.heap.size) (hsz : zs.length < 4611686018427387904) :
    Calls Tryz.prog 55 #[.slice (some ⟨blk, off, none⟩) zs.length cap] w fun e w' =>
      e = .returned (.tuple #[]) ∧ ∃ n os, w' = grow (putRow (Value.int .i64) (Sort.ahead w n) blk off (zs.mergeSort fun x y => decide (x ≤ y)).toArray) os := Any.slices_Sort_int Tryz.lays189 blk off cap zs w hH hblk hsz
def Tryz.lays206_ren : Go.Shelf.Ren := ⟨fun | 206 => 172 | n => n, fun | 9 => 9 | 4 => 4 | 3 => 3 | n => n, fun | n => n⟩
theorem Tryz.lays206 : Go.Proofs.Lays.n206 Tryz.prog Tryz.lays206_ren := {
  mixed := by kernel_rfl
  f206 := Tryz.func172.trans (congrArg some (by kernel_rfl))
  t3 := Tryz.underlying3
  a3 := Tryz.isAgg3
  z3 := Tryz.sizeOf3
  v3 := Tryz.zeroValue3
  t4 := Tryz.underlying4
  a4 := Tryz.isAgg4
  z4 := Tryz.sizeOf4
  v4 := Tryz.zeroValue4
  t9 := Tryz.underlying9
  a9 := Tryz.isAgg9
  z9 := Tryz.sizeOf9
  v9 := Tryz.zeroValue9 }
open Go.RowKit Go.Lib in
theorem Tryz.stringslite_HasPrefix (s p : ByteArray) (w : World) :
    Calls Tryz.prog 172 #[.string s, .string p] w fun e w' => e = .returned (.bool (Lib.hasPrefix s.data.toList p.data.toList)) ∧ w' = w := Any.stringslite_HasPrefix Tryz.lays206 s p w
def Tryz.lays108_ren : Go.Shelf.Ren := ⟨fun | 108 => 83 | n => n, fun | 28 => 25 | 3 => 3 | 0 => 0 | 4 => 4 | n => n, fun | n => n⟩
theorem Tryz.lays108 : Go.Proofs.Lays.n108 Tryz.prog Tryz.lays108_ren := {
  mixed := by kernel_rfl
  f108 := Tryz.func83.trans (congrArg some (by kernel_rfl))
  t0 := Tryz.underlying0
  a0 := Tryz.isAgg0
  z0 := Tryz.sizeOf0
  v0 := Tryz.zeroValue0
  t3 := Tryz.underlying3
  a3 := Tryz.isAgg3
  z3 := Tryz.sizeOf3
  v3 := Tryz.zeroValue3
  t4 := Tryz.underlying4
  a4 := Tryz.isAgg4
  z4 := Tryz.sizeOf4
  v4 := Tryz.zeroValue4
  t28 := Tryz.underlying25
  a28 := Tryz.isAgg25
  z28 := Tryz.sizeOf25
  v28 := Tryz.zeroValue25 }
open Go.Lib in
theorem Tryz.slices_Index_int (b off n c : Nat) (zs : List Int) (x : Int) (w : World) (hz : n ≤ zs.length) (hbig : n ≤ 9223372036854775807) (hc : ∀ j, j < zs.length → w.cell? ⟨b, off + j, none⟩ = some (.int .i64 (zs.getD j 0))) :
    Calls Tryz.prog 83 #[.slice (some ⟨b, off, none⟩) n c, .int .i64 x] w fun e w' => e = .returned (.int .i64 (Lib.idxOf (zs.take n) x)) ∧ w' = w := Any.slices_Index_int Tryz.lays108 b off n c zs x w hz hbig hc
open Go.Lib in
theorem Tryz.slices_Index_int_empty (a : Option Addr) (c : Nat) (x : Int) (w : World) :
    Calls Tryz.prog 83 #[.slice a 0 c, .int .i64 x] w fun e w' => e = .returned (.int .i64 (Lib.idxOf [] x)) ∧ w' = w := Any.slices_Index_int_empty Tryz.lays108 a c x w
def Tryz.lays107_ren : Go.Shelf.Ren := ⟨fun | 107 => 57 | 108 => 83 | n => n, fun | 28 => 25 | 3 => 3 | 4 => 4 | 0 => 0 | n => n, fun | n => n⟩
theorem Tryz.lays107 : Go.Proofs.Lays.n107 Tryz.prog Tryz.lays107_ren := {
  mixed := by kernel_rfl
  f107 := Tryz.func57.trans (congrArg some (by kernel_rfl))
  f108 := Tryz.func83.trans (congrArg some (by kernel_rfl))
  t0 := Tryz.underlying0
  a0 := Tryz.isAgg0
  z0 := Tryz.sizeOf0
  v0 := Tryz.zeroValue0
  t3 := Tryz.underlying3
  a3 := Tryz.isAgg3
  z3 := Tryz.sizeOf3
  v3 := Tryz.zeroValue3
  t4 := Tryz.underlying4
  a4 := Tryz.isAgg4
  z4 := Tryz.sizeOf4
  v4 := Tryz.zeroValue4
  t28 := Tryz.underlying25
  a28 := Tryz.isAgg25
  z28 := Tryz.sizeOf25
  v28 := Tryz.zeroValue25 }
open Go.Lib in
theorem Tryz.slices_Contains_int (b off n c : Nat) (zs : List Int) (x : Int) (w : World) (hz : n ≤ zs.length) (hbig : n ≤ 9223372036854775807) (hc : ∀ j, j < zs.length → w.cell? ⟨b, off + j, none⟩ = some (.int .i64 (zs.getD j 0))) :
    Calls Tryz.prog 57 #[.slice (some ⟨b, off, none⟩) n c, .int .i64 x] w fun e w' => e = .returned (.bool ((zs.take n).contains x)) ∧ w' = w := Any.slices_Contains_int Tryz.lays107 b off n c zs x w hz hbig hc
open Go.Lib in
theorem Tryz.slices_Contains_int_empty (a : Option Addr) (c : Nat) (x : Int) (w : World) :
    Calls Tryz.prog 57 #[.slice a 0 c, .int .i64 x] w fun e w' => e = .returned (.bool false) ∧ w' = w := Any.slices_Contains_int_empty Tryz.lays107 a c x w
def Tryz.laysNm220_ren : Go.Shelf.Ren := ⟨fun | 20 => 56 | n => n, fun | 22 => 25 | 3 => 3 | 4 => 4 | 0 => 0 | n => n, fun | n => n⟩
theorem Tryz.laysNm220 : Go.Proofs.Lays2.n20 Tryz.prog Tryz.laysNm220_ren := {
  mixed := by kernel_rfl
  f20 := Tryz.func56.trans (congrArg some (by kernel_rfl))
  t0 := Tryz.underlying0
  a0 := Tryz.isAgg0
  z0 := Tryz.sizeOf0
  v0 := Tryz.zeroValue0
  t3 := Tryz.underlying3
  a3 := Tryz.isAgg3
  z3 := Tryz.sizeOf3
  v3 := Tryz.zeroValue3
  t4 := Tryz.underlying4
  a4 := Tryz.isAgg4
  z4 := Tryz.sizeOf4
  v4 := Tryz.zeroValue4
  t22 := Tryz.underlying25
  a22 := Tryz.isAgg25
  z22 := Tryz.sizeOf25
  v22 := Tryz.zeroValue25
  i3 := by kernel_rfl }
open Go.RowKit Go.Lib Go.Sort in
theorem Tryz.slices_Compact_int_arr (blk off cap : Nat) (d : Array Int) (w : World) (hH : Holds encI w blk off d) (hsz : d.size ≤ 9223372036854775807) (hcap : d.size ≤ cap) :
    Calls Tryz.prog 56 #[.slice (some ⟨blk, off, none⟩) d.size cap] w fun e w' => e = .returned (.slice (some ⟨blk, off, none⟩) (compactUpTo d d.size).length cap) ∧ ∃ q, w' = putRow encI (Sort.ahead w q) blk off (compactUpTo d d.size ++ List.replicate (d.size - (compactUpTo d d.size).length) 0).toArray := Any.slices_Compact_int_arr Tryz.laysNm220 blk off cap d w hH hsz hcap
open Go.RowKit Go.Lib Go.Sort in
theorem Tryz.slices_Compact_int (blk off cap : Nat) (zs : List Int) (w : World) (hH : Holds (Value.int .i64) w blk off zs.toArray) (hsz : zs.length ≤ 9223372036854775807) (hcap : zs.length ≤ cap) :
    Calls Tryz.prog 56 #[.slice (some ⟨blk, off, none⟩) zs.length cap] w fun e w' => e = .returned (.slice (some ⟨blk, off, none⟩) (Lib.compact zs).length cap) ∧ ∃ q, w' = putRow (Value.int .i64) (Sort.ahead w q) blk off (Lib.compact zs ++ List.replicate (zs.length - (Lib.compact zs).length) 0).toArray := Any.slices_Compact_int Tryz.laysNm220 blk off cap zs w hH hsz hcap
open Go.RowKit Go.Lib Go.Sort in
theorem Tryz.slices_Compact_int_empty (a : Option Addr) (cap : Nat) (w : World) :
    Calls Tryz.prog 56 #[.slice a 0 cap] w fun e w' => e = .returned (.slice a 0 cap) ∧ w' = w := Any.slices_Compact_int_empty Tryz.laysNm220 a cap w
def Tryz.laysNm237_ren : Go.Shelf.Ren := ⟨fun | 37 => 71 | n => n, fun | 3 => 3 | 4 => 4 | n => n, fun | n => n⟩
theorem Tryz.laysNm237 : Go.Proofs.Lays2.n37 Tryz.prog Tryz.laysNm237_ren := {
  mixed := by kernel_rfl
  f37 := Tryz.func71.trans (congrArg some (by kernel_rfl))
  t3 := Tryz.underlying3
  a3 := Tryz.isAgg3
  z3 := Tryz.sizeOf3
  v3 := Tryz.zeroValue3
  t4 := Tryz.underlying4
  a4 := Tryz.isAgg4
  z4 := Tryz.sizeOf4
  v4 := Tryz.zeroValue4 }
open Go.RowKit Go.Lib in
theorem Tryz.cmp_isNaN_int2 (x : Int) (w : World) :
    Calls Tryz.prog 71 #[.int .i64 x] w fun e w' => e = .returned (.bool false) ∧ w' = w := Any.cmp_isNaN_int2 Tryz.laysNm237 x w
def Tryz.laysNm231_ren : Go.Shelf.Ren := ⟨fun | 31 => 121 | 37 => 71 | n => n, fun | 3 => 3 | 4 => 4 | n => n, fun | n => n⟩
theorem Tryz.laysNm231 : Go.Proofs.Lays2.n31 Tryz.prog Tryz.laysNm231_ren := {
  mixed := by kernel_rfl
  f31 := Tryz.func121.trans (congrArg some (by kernel_rfl))
  f37 := Tryz.func71.trans (congrArg some (by kernel_rfl))
  t3 := Tryz.underlying3
  a3 := Tryz.isAgg3
  z3 := Tryz.sizeOf3
  v3 := Tryz.zeroValue3
  t4 := Tryz.underlying4
  a4 := Tryz.isAgg4
  z4 := Tryz.sizeOf4
  v4 := Tryz.zeroValue4 }
open Go.RowKit Go.Lib in
theorem Tryz.cmp_Less_int2 (x y : Int) (w : World) :
    Calls Tryz.prog 121 #[.int .i64 x, .int .i64 y] w fun e w' => e = .returned (.bool (decide (x < y))) ∧ w' = w := Any.cmp_Less_int2 Tryz.laysNm231 x y w
open Go.RowKit Go.Lib Go.Sort in
theorem Tryz.slices_Compact_int_cells (b off n c : Nat) (zs : List Int) (w : World) (hz : n ≤ zs.length) (hbig : n ≤ 9223372036854775807) (hcap : n ≤ c) (hc : ∀ j, j < zs.length → w.cell? ⟨b, off + j, none⟩ = some (.int .i64 (zs.getD j 0))) (hf : ∀ j, j < n → w.frozen? ⟨b, off + j, none⟩ = false) :
    Calls Tryz.prog 56 #[.slice (some ⟨b, off, none⟩) n c] w fun e w' => e = .returned (.slice (some ⟨b, off, none⟩) (Lib.compact (zs.take n)).length c) ∧ ∃ q, w' = (w.drewN q).setCells b off ((Lib.compact (zs.take n) ++ List.replicate (n - (Lib.compact (zs.take n)).length) 0).map (Value.int .i64)) := Any.slices_Compact_int_cells Tryz.laysNm220 b off n c zs w hz hbig hcap hc hf
open Go.RowKit Go.Sort in
theorem Tryz.slices_Sort_int_none (p : Option Addr) (cap : Nat) (w : World) :
    Calls Tryz.prog 55 #[.slice p 0 cap] w fun e w' => e = .returned (.tuple #[]) ∧ w' = w := Any.slices_Sort_int_none Tryz.lays189 p cap w
end Go.Proofs

/-
  slices.Sort and slices.Compact of a row that the call owns; impl.LiveOf.
-/
namespace Go.Proofs.YtcjgjkejhkhknabGreatDoor
open Go.RowKit Go.Shelf Go.Lib Go.Sort
open Words

theorem int_holds {W : World} {g : Nat} {l : List Int} {cur : Array Value} (hb : W.heap[g]? = some (.cells cur 3 (0, 0))) (h4 : cur.toList.take l.length = icells l) : Holds (Value.int .i64) W g 0 l.toArray := by
  intro j hj
  have hj' : j < l.length := by simpa using hj
  refine ⟨?_, frozen_of_row _ _ _ _ _ hb⟩
  rw [Nat.zero_add, cell_of_row _ _ j _ _ _ hb]
  have e1 : (cur.toList.take l.length)[j]? = (icells l)[j]? := by rw [h4]
  rw [List.getElem?_take_of_lt hj', Array.getElem?_toList] at e1
  rw [e1, icells_at l j hj', getElem!_pos _ j hj]
  simp
/-- A row that is written anew. -/
theorem put_take {cur : Array Value} {l : List Int} {n : Nat} (hn : n ≤ l.length) (hc : l.length ≤ cur.size) : (putCells (Value.int .i64) 0 l.toArray cur).toList.take n = icells (l.take n) := by
  apply List.ext_getElem?
  intro j
  by_cases hj : j < n
  · rw [List.getElem?_take_of_lt hj, Array.getElem?_toList]
    simp only [putCells, Array.getElem?_mapIdx, Nat.zero_le, true_and, Nat.zero_add, Nat.sub_zero]
    rw [Array.getElem?_eq_getElem (show j < cur.size by omega)]
    have hj2 : j < l.toArray.size := by simp; omega
    simp only [Option.map_some, hj2, if_true]
    rw [getElem!_pos _ j hj2]
    have e := List.getElem?_eq_getElem (show j < (l.take n).length by rw [List.length_take]; omega)
    rw [icells_get e]
    simp
  · rw [List.getElem?_eq_none (by rw [List.length_take]; omega), List.getElem?_eq_none (by simp [icells]; omega)]
theorem put_block {W : World} {g m : Nat} {cur : Array Value} {d : Array Int} (hb : W.heap[g]? = some (.cells cur 3 (0, 0))) : (putRow (Value.int .i64) (Sort.ahead W m) g 0 d).heap[g]? = some (.cells (putCells (Value.int .i64) 0 d cur) 3 (0, 0)) := by
  simp [putRow, mapBlock, Sort.ahead, Array.getElem?_modify, hb, onCells]
theorem put_grown (W : World) (g m : Nat) (d : Array Int) (os : Array Obj) : W.grownBy (grow (putRow (Value.int .i64) (Sort.ahead W m) g 0 d) os) (some g) := by
  refine ⟨rfl, rfl, rfl, by simp [putRow, mapBlock, Sort.ahead, grow], fun k hk hne => ?_⟩
  rw [heap_grow_old _ _ (by simpa [putRow, mapBlock, Sort.ahead] using hk)]
  have : g ≠ k := fun e => hne (by rw [e])
  simp [putRow, mapBlock, Sort.ahead, Array.getElem?_modify, this]
theorem grow_none (w : World) : grow w #[] = w := by simp [grow]

theorem isortI (lo : Nat) (v : Value) (l : List Int) (w : World) (h : w.ownsRow lo 3 1 v l.length (icells l)) (hn : l.length ≤ 16777216) :
    Calls Tryz.prog 55 #[v] w fun e w' => e = .returned (.tuple #[]) ∧ w'.ownsRow lo 3 1 v l.length (icells (l.mergeSort fun x y => decide (x ≤ y))) ∧ w.grownBy w' v.ownBlock := by
  have hown := h
  rcases h.2 with ⟨rfl, h0⟩ | ⟨g, cap, cur, rfl, hlo, hb, h1, h2, h3, h4⟩
  · have hl : l = [] := List.eq_nil_of_length_eq_zero h0
    subst hl
    refine Calls.mono (Tryz.slices_Sort_int_none none 0 w) ?_
    rintro e w' ⟨rfl, rfl⟩
    exact ⟨rfl, by rw [List.mergeSort_nil]; exact h, ⟨rfl, rfl, rfl, Nat.le_refl _, fun _ _ _ => rfl⟩⟩
  · rw [Nat.mul_one] at h3 h4
    refine Calls.mono (Tryz.slices_Sort_int g 0 cap l w (int_holds hb h4) (Array.getElem?_eq_some_iff.1 hb).1 (by omega)) ?_
    rintro e w' ⟨rfl, m, os, rfl⟩
    have hg := put_grown w g m (l.mergeSort fun x y => decide (x ≤ y)).toArray os
    have hlen : (l.mergeSort fun x y => decide (x ≤ y)).length = l.length := List.length_mergeSort l
    refine ⟨rfl, ⟨by simp [icells], .inr ⟨g, cap, putCells (Value.int .i64) 0 (l.mergeSort fun x y => decide (x ≤ y)).toArray cur, rfl, hlo, ?_, h1, h2, ?_, ?_⟩⟩, hg⟩
    · rw [heap_grow_old _ _ (by simpa [putRow, mapBlock, Sort.ahead] using (Array.getElem?_eq_some_iff.1 hb).1)]
      exact put_block hb
    · simp [putCells, h3]
    · rw [Nat.mul_one, ← hlen, put_take (Nat.le_refl _) (by omega), List.take_length]

theorem icompI (lo : Nat) (v : Value) (l : List Int) (w : World) (h : w.ownsRow lo 3 1 v l.length (icells l)) (hn : l.length ≤ 16777216) :
    Calls Tryz.prog 56 #[v] w fun e w' => ∃ v', e = .returned v' ∧ w'.ownsRow lo 3 1 v' (compact l).length (icells (compact l)) ∧ w.grownBy w' v.ownBlock := by
  have hown := h
  rcases h.2 with ⟨rfl, h0⟩ | ⟨g, cap, cur, rfl, hlo, hb, h1, h2, h3, h4⟩
  · have hl : l = [] := List.eq_nil_of_length_eq_zero h0
    subst hl
    refine Calls.mono (Tryz.slices_Compact_int_empty none 0 w) ?_
    rintro e w' ⟨rfl, rfl⟩
    exact ⟨_, rfl, h, ⟨rfl, rfl, rfl, Nat.le_refl _, fun _ _ _ => rfl⟩⟩
  · rw [Nat.mul_one] at h3 h4
    refine Calls.mono (Tryz.slices_Compact_int g 0 cap l w (int_holds hb h4) (by omega) h1) ?_
    rintro e w' ⟨rfl, m, rfl⟩
    have hc := compact_length_le l
    have hg := put_grown w g m (compact l ++ List.replicate (l.length - (compact l).length) 0).toArray #[]
    rw [grow_none] at hg
    have hlen : (compact l ++ List.replicate (l.length - (compact l).length) 0).length = l.length := by simp; omega
    refine ⟨_, rfl, ⟨by simp [icells], .inr ⟨g, cap, _, rfl, hlo, put_block hb, by omega, h2, by simp [putCells, h3], ?_⟩⟩, hg⟩
    rw [Nat.mul_one, put_take (by omega) (by omega), List.take_left' rfl]

theorem mem_compact {l : List Int} (x : Int) : x ∈ compact l ↔ x ∈ l := by
  unfold compact compactUpTo
  constructor
  · intro h
    obtain ⟨j, hj, rfl⟩ := List.mem_map.1 h
    have hj2 := List.mem_range.1 (List.mem_filter.1 hj).1
    rw [getElem!_pos _ j (by simpa using hj2)]
    simp
  · intro h
    have : ∀ n j : Nat, j ≤ n → l[j]? = some x → x ∈ ((List.range l.length).filter (keeps l.toArray)).map (l.toArray[·]!) := by
      intro n
      induction n with
      | zero =>
        intro j hj hx
        have e : j = 0 := by omega
        subst e
        have hl := (List.getElem?_eq_some_iff.1 hx).1
        refine List.mem_map.2 ⟨0, List.mem_filter.2 ⟨List.mem_range.2 hl, keeps_lt_one _ 0 (by omega)⟩, ?_⟩
        rw [getElem!_pos _ 0 (by simpa using hl)]
        simpa using (List.getElem?_eq_some_iff.1 hx).2
      | succ n ih =>
        intro j hj hx
        have hl := (List.getElem?_eq_some_iff.1 hx).1
        have hv : l.toArray[j]! = x := by
          rw [getElem!_pos _ j (by simpa using hl)]
          simpa using (List.getElem?_eq_some_iff.1 hx).2
        by_cases h0 : j = 0
        · exact ih j (by omega) hx
        · by_cases hk : l.toArray[j]! = l.toArray[j - 1]!
          · refine ih (j - 1) (by omega) ?_
            rw [List.getElem?_eq_getElem (by omega)]
            rw [hv, getElem!_pos _ (j - 1) (by simp; omega)] at hk
            rw [hk]
            simp
          · exact List.mem_map.2 ⟨j, List.mem_filter.2 ⟨List.mem_range.2 hl, keeps_pos hk⟩, hv⟩
    obtain ⟨j, hj⟩ := List.getElem?_of_mem h
    exact this j j (Nat.le_refl _) hj
theorem asc_compact {l : List Int} (h : l.Pairwise (fun x y => x ≤ y)) : (compact l).Pairwise (fun x y => x < y) := by
  unfold compact compactUpTo
  rw [List.pairwise_map]
  have hm : ∀ i j, i ≤ j → j < l.length → l.toArray[i]! ≤ l.toArray[j]! := by
    intro i j hij hj
    rw [getElem!_pos _ i (by simp; omega), getElem!_pos _ j (by simpa using hj)]
    by_cases e : i = j
    · subst e; exact Int.le_refl _
    · have := List.pairwise_iff_getElem.1 h i j (by omega) hj (by omega)
      simpa using this
  refine List.Pairwise.imp_of_mem ?_ ((List.pairwise_lt_range (n := l.length)).filter (keeps l.toArray))
  intro i j hi hj hij
  obtain ⟨j1, j2⟩ := List.mem_filter.1 hj
  have hjl := List.mem_range.1 j1
  have a := hm i (j - 1) (by omega) (by omega)
  have b := hm (j - 1) j (by omega) hjl
  simp only [keeps, decide_eq_true_eq] at j2
  rcases j2 with e | e
  · omega
  · omega
theorem live_sorted (s : Sto) : compact ((chunksS s).mergeSort fun x y => decide (x ≤ y)) = liveS s := by
  refine live_of (asc_compact ?_) (fun y => ?_)
  · have := List.pairwise_mergeSort (le := fun x y : Int => decide (x ≤ y)) (by intro a b c h1 h2; simp at *; omega) (by intro a b; simp; omega) (chunksS s)
    exact this.imp (fun {a b} h => by simpa using h)
  · rw [mem_compact]
    exact (List.mergeSort_perm _ _).mem_iff

set_option maxHeartbeats 1000000 in
set_option maxRecDepth 100000 in
theorem ilive : LiveC 33 := by
  rintro v s w ⟨va, vl, vc, ad, len, cap, rs, rfl, hks, hvl, hl, hll, hvc, h, hk⟩
  obtain ⟨vs, kns, nx⟩ := s
  simp only at hks h ⊢
  subst hks
  have B0 : Hid (Below w.heap.size w (w.alloc (.cells #[.slice va vl vc, .slice ad len cap, .int .i64 nx] 49))) := (Below.refl _ _).alloc (Nat.le_refl _) _
  have CC := hide (ichunksOf va vl vc ad len cap nx vs rs (w.alloc (.cells #[.slice va vl vc, .slice ad len cap, .int .i64 nx] 49)) hvl hl (h.below B0.out) (hk.below B0.out))
  unfold SBox at CC
  have HN : Hid ((chunksS ⟨vs, rs.map ktell, nx⟩).length ≤ 16777216) := by
    show _ ≤ _
    refine Nat.le_trans (List.length_filter_le _ _) ?_
    have e : ∀ l : List (Int × Int), (l.flatMap (fun v => allT (rs.map ktell) v.2)).length = 16 * l.length := by
      intro l
      induction l with
      | nil => rfl
      | cons v l ih => rw [List.flatMap_cons, List.length_append, ih, allT_len, List.length_cons]; omega
    show (vs.flatMap _).length ≤ _
    rw [e]
    have := h.1
    omega
  have HR := hide (live_sorted ⟨vs, rs.map ktell, nx⟩)
  obtain ⟨L, hL⟩ : ∃ L, chunksS ⟨vs, rs.map ktell, nx⟩ = L := ⟨_, rfl⟩
  rw [hL] at CC HN HR
  rw [← HR.out]
  clear h hk hll hvc hL HR
  have HM : Hid ((L.mergeSort fun x y => decide (x ≤ y)).length = L.length) := List.length_mergeSort L
  obtain ⟨M, hM⟩ : ∃ M, (L.mergeSort fun x y => decide (x ≤ y)) = M := ⟨_, rfl⟩
  have HME := hide hM
  rw [hM] at HM ⊢
  clear hM
  unfold SBox
  go_enter Tryz.func33, Tryz.ntmps33
  go_wp2_with fail
  refine CC.out.mono ?_
  rintro e w1 ⟨cv, rfl, co, b1⟩
  have BE := hide (B0.out.trans (b1.mono B0.out.size))
  have HLO : Hid (w.heap.size ≤ (w.alloc (.cells #[.slice va vl vc, .slice ad len cap, .int .i64 nx] 49)).heap.size) := B0.out.size
  have CS := hide (isortI _ cv L w1 co HN.out)
  rw [HME.out] at CS
  have CO := hide co
  clear co b1 CC
  go_wp2_with fail
  refine CS.out.mono ?_
  rintro e w2 ⟨rfl, o2, g2⟩
  rw [← HM.out] at o2
  have CP := hide (icompI _ cv M w2 o2 (by rw [HM.out]; exact HN.out))
  have BE2 := hide (BE.out.grown g2 BE.out.size (fun q hq => by have := (CO.out.lt q hq).1; have := HLO.out; omega))
  have O2 := hide o2
  clear o2 g2 CS
  go_wp2_with fail
  refine CP.out.mono ?_
  rintro e w3 ⟨v3, rfl, o3, g3⟩
  have FIN : Hid (w3.ownsRow w.heap.size 3 1 v3 (compact M).length (icells (compact M)) ∧ Below w.heap.size w w3) := ⟨own_lower o3 HLO.out, BE2.out.grown g3 BE2.out.size (fun q hq => by have := (O2.out.lt q hq).1; have := HLO.out; omega)⟩
  clear o3 g3 CP
  go_wp2
  go_ret
  exact ⟨_, rfl, FIN.out.1, FIN.out.2⟩
end Go.Proofs.YtcjgjkejhkhknabGreatDoor

/-
  spec.l12Insert.
-/
namespace Go.Proofs.YtcjgjkejhkhknabGreatDoor
open Go.RowKit
open Words

theorem filt_take {L : List Int} {p : Int → Bool} {k : Nat} {y : Int} (h : L[k]? = some y) : (L.take (k + 1)).filter p = (L.take k).filter p ++ (if p y = true then [y] else []) := by
  obtain ⟨h1, h2⟩ := List.getElem?_eq_some_iff.1 h
  rw [List.take_succ_eq_append_getElem h1, h2, List.filter_append, List.filter_cons, List.filter_nil]

set_option maxHeartbeats 1000000 in
set_option maxRecDepth 100000 in
theorem sinsI (ra : Option Addr) (n rc : Nat) (L : List Int) (x : Int) (w : World) (hn : n ≤ 100000000) (h : IRow w ra n L) :
    Calls Tryz.prog 51 #[.slice ra n rc, .int .i64 x] w (IOut w (insI L x)) := by
  obtain ⟨i0, hi, hz0, hz1, hz2⟩ := info_parts infoInt
  have I0 := hide hi
  have Y0 := hide hz0
  have Y1 := hide hz1
  have Y2 := hide hz2
  clear hi hz0 hz1 hz2
  have HNL := hide h.1
  have HR := hide h
  clear h
  obtain ⟨M, hM⟩ : ∃ M, insI L x = M := ⟨_, rfl⟩
  have HM := hide hM
  rw [hM]
  clear hM
  go_enter Tryz.func51, Tryz.ntmps51
  go_wp2_with fail
  have O0 : Hid ((w.alloc (.cells #[] 3)).ownsRow w.heap.size 3 1 (.slice (some ⟨w.heap.size, 0, none⟩) 0 0) ([] : List Int).length (icells [])) := World.ownsRow_made w #[] 0 (Nat.le_refl _) (by unfold maxLen; omega) (by simp)
  have BA : Hid (Below w.heap.size w (w.alloc (.cells #[] 3))) := (Below.refl _ _).alloc (Nat.le_refl _) _
  generalize w.alloc (.cells #[] 3) = wa at O0 BA ⊢
  obtain ⟨z, hz⟩ : ∃ z, w.heap.size = z := ⟨_, rfl⟩
  rw [hz] at O0 ⊢
  have HZW := hide hz
  clear hz
  go_loopw [5, 6] (fun ov kv W => ∃ (k : Nat) (l : List Int), k ≤ n ∧ kv = .int .i64 k ∧ l.length ≤ k ∧ Hid (l = (L.take k).filter (fun y => decide (y < x))) ∧ Hid (W.ownsRow w.heap.size 3 1 ov l.length (icells l) ∧ Below w.heap.size w W)) (fun _ kv _ => n - (intOf kv).toNat)
  case atStart => exact ⟨0, [], Nat.zero_le _, rfl, Nat.zero_le _, by show _ = _; simp, by rw [HZW.out]; exact O0.out, BA.out⟩
  case round =>
    obtain ⟨k, l, hk, rfl, hlk, HL, HO⟩ := hrel
    by_cases hlt : (k : Int) < n
    · have hy := List.getElem?_eq_getElem (show k < L.length by have := HNL.out; omega)
      generalize L[k]'(by have := HNL.out; omega) = y at hy
      obtain ⟨b, off, e, hb, c0⟩ := (HR.out.below HO.out.2).at hy
      subst e
      have k0 : (0 : Int) ≤ k := by omega
      have HF := hide (filt_take (p := fun y => decide (y < x)) hy)
      clear hy
      by_cases hyx : y < x
      · have HL2 : Hid (l ++ [y] = (L.take (k + 1)).filter (fun y => decide (y < x))) := by
          show _ = _
          rw [HF.out, if_pos (by simpa using hyx), HL.out]
        have OW := hide HO.out.1
        have B1 := hide HO.out.2
        have hw := HO.out.2.size
        clear HO
        have BN : Hid (Below wr.heap.size wr (wr.alloc (.cells #[.int .i64 y] 3))) := (Below.refl _ _).alloc (Nat.le_refl _) _
        have OWN := hide (own_below OW.out BN.out)
        go_wp2_with (at_builtin; refine wpList_append_own _ rfl _ _ 25 rfl w.heap.size 3 i0 (.int .i64 0) 1 8 Tryz.underlying25 I0.out Y0.out Y1.out Y2.out rfl (by decide) _ _ _ rfl OWN.out ⟨wr.heap.size, 0, none⟩ 1 1 [Value.int .i64 y] rfl rfl (one_cell _ _ _) (one_i64 _) ?c1 ?c2 ?c3 ?_)
        case c1 => unfold maxLen; omega
        case c2 => omega
        case c3 => have := BN.out.size; omega
        intro u' z2 ho hg _
        rw [icells_snoc] at ho
        have ho2 : z2.ownsRow w.heap.size 3 1 u' (l ++ [y]).length (icells (l ++ [y])) := by rw [List.length_append]; exact ho
        have ON : Hid (z2.ownsRow w.heap.size 3 1 u' (l ++ [y]).length (icells (l ++ [y])) ∧ Below w.heap.size w z2) := ⟨ho2, (B1.out.trans (BN.out.mono hw)).grown hg (by have := BN.out.size; omega) (fun q hq => (OWN.out.lt q hq).1)⟩
        have hl3 : (l ++ [y]).length ≤ k + 1 := by simp; omega
        generalize l ++ [y] = l2 at HL2 ON hl3
        clear ho ho2 hg OWN OW BN B1
        go_wp2
        go_roundw
        case rel => exact ⟨k + 1, l2, by omega, by go_num, hl3, HL2, ON⟩
        case measure => simp [intOf]; omega
      · have HL2 : Hid (l = (L.take (k + 1)).filter (fun y => decide (y < x))) := by
          show _ = _
          rw [HF.out, if_neg (by simpa using hyx), List.append_nil]
          exact HL.out
        go_wp2
        go_roundw
        case rel => exact ⟨k + 1, l, by omega, by go_num, by omega, HL2, HO⟩
        case measure => simp [intOf]; omega
    · have EL : Hid (l = L.filter (fun y => decide (y < x))) := by
        show _ = _
        rw [HL.out, List.take_of_length_le (by have := HNL.out; omega)]
      have hl1 : l.length ≤ n := by omega
      clear HL
      by_cases hx : (0 : Int) < x
      · have HL2 : Hid (l ++ [x] = L.filter (fun y => decide (y < x)) ++ (if 0 < x then [x] else [])) := by
          show _ = _
          rw [EL.out, if_pos hx]
        have OW := hide HO.out.1
        have B1 := hide HO.out.2
        have hw := HO.out.2.size
        clear HO
        have BN : Hid (Below wr.heap.size wr (wr.alloc (.cells #[.int .i64 x] 3))) := (Below.refl _ _).alloc (Nat.le_refl _) _
        have OWN := hide (own_below OW.out BN.out)
        go_wp2_with (at_builtin; refine wpList_append_own _ rfl _ _ 25 rfl w.heap.size 3 i0 (.int .i64 0) 1 8 Tryz.underlying25 I0.out Y0.out Y1.out Y2.out rfl (by decide) _ _ _ rfl OWN.out ⟨wr.heap.size, 0, none⟩ 1 1 [Value.int .i64 x] rfl rfl (one_cell _ _ _) (one_i64 _) ?c1 ?c2 ?c3 ?_)
        case c1 => unfold maxLen; omega
        case c2 => omega
        case c3 => have := BN.out.size; omega
        intro u' z2 ho hg _
        rw [icells_snoc] at ho
        have ho2 : z2.ownsRow w.heap.size 3 1 u' (l ++ [x]).length (icells (l ++ [x])) := by rw [List.length_append]; exact ho
        have ON : Hid (z2.ownsRow w.heap.size 3 1 u' (l ++ [x]).length (icells (l ++ [x])) ∧ Below w.heap.size w z2) := ⟨ho2, (B1.out.trans (BN.out.mono hw)).grown hg (by have := BN.out.size; omega) (fun q hq => (OWN.out.lt q hq).1)⟩
        have hl3 : (l ++ [x]).length ≤ n + 1 := by simp; omega
        generalize l ++ [x] = l2 at HL2 ON hl3
        clear ho ho2 hg OWN OW BN B1
        clear EL
        go_wp2
        obtain ⟨A0, hA⟩ : ∃ A0, L.filter (fun y => decide (y < x)) ++ (if 0 < x then [x] else []) = A0 := ⟨_, rfl⟩
        rw [hA] at HL2
        have HA := hide hA
        clear hA
        go_loopw [5, 7] (fun ov kv W => ∃ (k : Nat) (l : List Int), k ≤ n ∧ kv = .int .i64 k ∧ l.length ≤ n + 1 + k ∧ Hid (l = A0 ++ (L.take k).filter (fun y => decide (x < y))) ∧ Hid (W.ownsRow w.heap.size 3 1 ov l.length (icells l) ∧ Below w.heap.size w W)) (fun _ kv _ => n - (intOf kv).toNat)
        case atStart => exact ⟨0, l2, Nat.zero_le _, rfl, by omega, (by show _ = _; rw [HL2.out]; simp), ON⟩
        case round =>
          obtain ⟨k, l, hk, rfl, hlk, HL, HO⟩ := hrel
          by_cases hlt : (k : Int) < n
          · have hy := List.getElem?_eq_getElem (show k < L.length by have := HNL.out; omega)
            generalize L[k]'(by have := HNL.out; omega) = y at hy
            obtain ⟨b, off, e, hb, c0⟩ := (HR.out.below HO.out.2).at hy
            subst e
            have k0 : (0 : Int) ≤ k := by omega
            have HF := hide (filt_take (p := fun y => decide (x < y)) hy)
            clear hy
            by_cases hyx : x < y
            · have HL2 : Hid (l ++ [y] = A0 ++ (L.take (k + 1)).filter (fun y => decide (x < y))) := by
                show _ = _
                rw [HF.out, if_pos (by simpa using hyx), HL.out]; rw [List.append_assoc]
              have OW := hide HO.out.1
              have B1 := hide HO.out.2
              have hw := HO.out.2.size
              clear HO
              have BN : Hid (Below wr.heap.size wr (wr.alloc (.cells #[.int .i64 y] 3))) := (Below.refl _ _).alloc (Nat.le_refl _) _
              have OWN := hide (own_below OW.out BN.out)
              go_wp2_with (at_builtin; refine wpList_append_own _ rfl _ _ 25 rfl w.heap.size 3 i0 (.int .i64 0) 1 8 Tryz.underlying25 I0.out Y0.out Y1.out Y2.out rfl (by decide) _ _ _ rfl OWN.out ⟨wr.heap.size, 0, none⟩ 1 1 [Value.int .i64 y] rfl rfl (one_cell _ _ _) (one_i64 _) ?c1 ?c2 ?c3 ?_)
              case c1 => unfold maxLen; omega
              case c2 => omega
              case c3 => have := BN.out.size; omega
              intro u' z2 ho hg _
              rw [icells_snoc] at ho
              have ho2 : z2.ownsRow w.heap.size 3 1 u' (l ++ [y]).length (icells (l ++ [y])) := by rw [List.length_append]; exact ho
              have ON : Hid (z2.ownsRow w.heap.size 3 1 u' (l ++ [y]).length (icells (l ++ [y])) ∧ Below w.heap.size w z2) := ⟨ho2, (B1.out.trans (BN.out.mono hw)).grown hg (by have := BN.out.size; omega) (fun q hq => (OWN.out.lt q hq).1)⟩
              have hl3 : (l ++ [y]).length ≤ n + 1 + (k + 1) := by simp; omega
              generalize l ++ [y] = l2 at HL2 ON hl3
              clear ho ho2 hg OWN OW BN B1
              go_wp2
              go_roundw
              case rel => exact ⟨k + 1, l2, by omega, by go_num, hl3, HL2, ON⟩
              case measure => simp [intOf]; omega
            · have HL2 : Hid (l = A0 ++ (L.take (k + 1)).filter (fun y => decide (x < y))) := by
                show _ = _
                rw [HF.out, if_neg (by simpa using hyx), List.append_nil]
                exact HL.out
              go_wp2
              go_roundw
              case rel => exact ⟨k + 1, l, by omega, by go_num, by omega, HL2, HO⟩
              case measure => simp [intOf]; omega
          · have EL : Hid (l = A0 ++ L.filter (fun y => decide (x < y))) := by
              show _ = _
              rw [HL.out, List.take_of_length_le (by have := HNL.out; omega)]
            have EM : Hid (l = M) := by
              show _ = _
              rw [EL.out, ← HM.out, insI, ← HA.out]
            go_wp2
            go_ret
            refine ⟨_, rfl, ?_, HO.out.2⟩
            rw [← EM.out]
            exact HO.out.1
      · have HL2 : Hid (l = L.filter (fun y => decide (y < x)) ++ (if 0 < x then [x] else [])) := by
          show _ = _
          rw [if_neg hx, List.append_nil]
          exact EL.out
        have ON := hide HO.out
        have hl3 : l.length ≤ n + 1 := by omega
        clear HO EL
        go_wp2
        obtain ⟨A0, hA⟩ : ∃ A0, L.filter (fun y => decide (y < x)) ++ (if 0 < x then [x] else []) = A0 := ⟨_, rfl⟩
        rw [hA] at HL2
        have HA := hide hA
        clear hA
        go_loopw [5, 7] (fun ov kv W => ∃ (k : Nat) (l : List Int), k ≤ n ∧ kv = .int .i64 k ∧ l.length ≤ n + 1 + k ∧ Hid (l = A0 ++ (L.take k).filter (fun y => decide (x < y))) ∧ Hid (W.ownsRow w.heap.size 3 1 ov l.length (icells l) ∧ Below w.heap.size w W)) (fun _ kv _ => n - (intOf kv).toNat)
        case atStart => exact ⟨0, l, Nat.zero_le _, rfl, by omega, (by show _ = _; rw [HL2.out]; simp), ON⟩
        case round =>
          obtain ⟨k, l, hk, rfl, hlk, HL, HO⟩ := hrel
          by_cases hlt : (k : Int) < n
          · have hy := List.getElem?_eq_getElem (show k < L.length by have := HNL.out; omega)
            generalize L[k]'(by have := HNL.out; omega) = y at hy
            obtain ⟨b, off, e, hb, c0⟩ := (HR.out.below HO.out.2).at hy
            subst e
            have k0 : (0 : Int) ≤ k := by omega
            have HF := hide (filt_take (p := fun y => decide (x < y)) hy)
            clear hy
            by_cases hyx : x < y
            · have HL2 : Hid (l ++ [y] = A0 ++ (L.take (k + 1)).filter (fun y => decide (x < y))) := by
                show _ = _
                rw [HF.out, if_pos (by simpa using hyx), HL.out]; rw [List.append_assoc]
              have OW := hide HO.out.1
              have B1 := hide HO.out.2
              have hw := HO.out.2.size
              clear HO
              have BN : Hid (Below wr.heap.size wr (wr.alloc (.cells #[.int .i64 y] 3))) := (Below.refl _ _).alloc (Nat.le_refl _) _
              have OWN := hide (own_below OW.out BN.out)
              go_wp2_with (at_builtin; refine wpList_append_own _ rfl _ _ 25 rfl w.heap.size 3 i0 (.int .i64 0) 1 8 Tryz.underlying25 I0.out Y0.out Y1.out Y2.out rfl (by decide) _ _ _ rfl OWN.out ⟨wr.heap.size, 0, none⟩ 1 1 [Value.int .i64 y] rfl rfl (one_cell _ _ _) (one_i64 _) ?c1 ?c2 ?c3 ?_)
              case c1 => unfold maxLen; omega
              case c2 => omega
              case c3 => have := BN.out.size; omega
              intro u' z2 ho hg _
              rw [icells_snoc] at ho
              have ho2 : z2.ownsRow w.heap.size 3 1 u' (l ++ [y]).length (icells (l ++ [y])) := by rw [List.length_append]; exact ho
              have ON : Hid (z2.ownsRow w.heap.size 3 1 u' (l ++ [y]).length (icells (l ++ [y])) ∧ Below w.heap.size w z2) := ⟨ho2, (B1.out.trans (BN.out.mono hw)).grown hg (by have := BN.out.size; omega) (fun q hq => (OWN.out.lt q hq).1)⟩
              have hl3 : (l ++ [y]).length ≤ n + 1 + (k + 1) := by simp; omega
              generalize l ++ [y] = l2 at HL2 ON hl3
              clear ho ho2 hg OWN OW BN B1
              go_wp2
              go_roundw
              case rel => exact ⟨k + 1, l2, by omega, by go_num, hl3, HL2, ON⟩
              case measure => simp [intOf]; omega
            · have HL2 : Hid (l = A0 ++ (L.take (k + 1)).filter (fun y => decide (x < y))) := by
                show _ = _
                rw [HF.out, if_neg (by simpa using hyx), List.append_nil]
                exact HL.out
              go_wp2
              go_roundw
              case rel => exact ⟨k + 1, l, by omega, by go_num, by omega, HL2, HO⟩
              case measure => simp [intOf]; omega
          · have EL : Hid (l = A0 ++ L.filter (fun y => decide (x < y))) := by
              show _ = _
              rw [HL.out, List.take_of_length_le (by have := HNL.out; omega)]
            have EM : Hid (l = M) := by
              show _ = _
              rw [EL.out, ← HM.out, insI, ← HA.out]
            go_wp2
            go_ret
            refine ⟨_, rfl, ?_, HO.out.2⟩
            rw [← EM.out]
            exact HO.out.1
end Go.Proofs.YtcjgjkejhkhknabGreatDoor
