/-
  Shelf; IClone; ICopy; IAt
-/
import Derived.Shelf.Small.Wraps
import Derived.Shelf.LaysM
import Derived.Shelf.Strconv.Clone
import Derived.Ground.Names2Prog
import Derived.Shelf.Slices.SearchI
import Derived.Test.YtpdoponghlpkcaaDoorProg
import Derived.Test.YtpdoponghlpkcaaDoorPk5
import Derived.Test.YtpdoponghlpkcaaDoorPk6
/-
  The library contracts that the proofs of this seat use, laid at this translation: each is one application of a theorem of the library.
-/
namespace Go.Proofs
open Go.Shelf
def Tryd.lays215_ren : Go.Shelf.Ren := ⟨fun | 215 => 48 | n => n, fun | 3 => 3 | 4 => 4 | n => n, fun | n => n⟩
theorem Tryd.lays215 : Go.Proofs.Lays.n215 Tryd.prog Tryd.lays215_ren := {
  mixed := by kernel_rfl
  f215 := Tryd.func48.trans (congrArg some (by kernel_rfl))
  t3 := Tryd.underlying3
  a3 := Tryd.isAgg3
  z3 := Tryd.sizeOf3
  v3 := Tryd.zeroValue3
  t4 := Tryd.underlying4
  a4 := Tryd.isAgg4
  z4 := Tryd.sizeOf4
  v4 := Tryd.zeroValue4 }
open Go.RowKit in
theorem Tryd.cmp_isNaN_int (x : Int) (w : World) :
    Calls Tryd.prog 48 #[.int .i64 x] w fun e w' => e = .returned (.bool false) ∧ w' = w := Any.cmp_isNaN_int Tryd.lays215 x w
def Tryd.lays122_ren : Go.Shelf.Ren := ⟨fun | 122 => 33 | 215 => 48 | n => n, fun | 3 => 3 | 4 => 4 | n => n, fun | n => n⟩
theorem Tryd.lays122 : Go.Proofs.Lays.n122 Tryd.prog Tryd.lays122_ren := {
  mixed := by kernel_rfl
  f122 := Tryd.func33.trans (congrArg some (by kernel_rfl))
  f215 := Tryd.func48.trans (congrArg some (by kernel_rfl))
  t3 := Tryd.underlying3
  a3 := Tryd.isAgg3
  z3 := Tryd.sizeOf3
  v3 := Tryd.zeroValue3
  t4 := Tryd.underlying4
  a4 := Tryd.isAgg4
  z4 := Tryd.sizeOf4
  v4 := Tryd.zeroValue4 }
open Go.RowKit in
theorem Tryd.cmp_Compare_int (x y : Int) (w : World) :
    Calls Tryd.prog 33 #[.int .i64 x, .int .i64 y] w fun e w' => e = .returned (.int .i64 (Lib.compareInt x y)) ∧ w' = w := Any.cmp_Compare_int Tryd.lays122 x y w
def Tryd.laysM316_ren : Go.Shelf.Ren := ⟨fun | 316 => 76 | n => n, fun | 9 => 9 | 3 => 3 | 4 => 4 | 37 => 136 | 0 => 0 | 127 => 148 | 5 => 5 | n => n, fun | n => n⟩
theorem Tryd.laysM316 : Go.Proofs.LaysM.n316 Tryd.prog Tryd.laysM316_ren := {
  mixed := by kernel_rfl
  f316 := Tryd.func76.trans (congrArg some (by kernel_rfl))
  t0 := Tryd.underlying0
  a0 := Tryd.isAgg0
  z0 := Tryd.sizeOf0
  v0 := Tryd.zeroValue0
  t3 := Tryd.underlying3
  a3 := Tryd.isAgg3
  z3 := Tryd.sizeOf3
  v3 := Tryd.zeroValue3
  t4 := Tryd.underlying4
  a4 := Tryd.isAgg4
  z4 := Tryd.sizeOf4
  v4 := Tryd.zeroValue4
  t9 := Tryd.underlying9
  a9 := Tryd.isAgg9
  z9 := Tryd.sizeOf9
  v9 := Tryd.zeroValue9
  t37 := Tryd.underlying136
  a37 := Tryd.isAgg136
  z37 := Tryd.sizeOf136
  v37 := Tryd.zeroValue136
  t127 := Tryd.underlying148
  a127 := Tryd.isAgg148
  z127 := Tryd.sizeOf148
  v127 := Tryd.zeroValue148
  t5 := Tryd.underlying5
  a5 := Tryd.isAgg5
  z5 := Tryd.sizeOf5
  v5 := Tryd.zeroValue5
  i0 := by kernel_rfl
  i3 := by kernel_rfl
  i4 := by kernel_rfl
  i5 := by kernel_rfl
  i9 := by kernel_rfl
  i37 := by kernel_rfl
  i127 := by kernel_rfl }
open Go.RowKit in
theorem Tryd.stringslite_Clone (s : ByteArray) (w : World) (hlim : s.size ≤ 281474976710656) :
    Calls Tryd.prog 76 #[.string s] w fun e w' => e = .returned (.string s) ∧ Below w.heap.size w w' := Any.stringslite_Clone Tryd.laysM316 s w hlim
def Tryd.laysNm237_ren : Go.Shelf.Ren := ⟨fun | 37 => 48 | n => n, fun | 3 => 3 | 4 => 4 | n => n, fun | n => n⟩
theorem Tryd.laysNm237 : Go.Proofs.Lays2.n37 Tryd.prog Tryd.laysNm237_ren := {
  mixed := by kernel_rfl
  f37 := Tryd.func48.trans (congrArg some (by kernel_rfl))
  t3 := Tryd.underlying3
  a3 := Tryd.isAgg3
  z3 := Tryd.sizeOf3
  v3 := Tryd.zeroValue3
  t4 := Tryd.underlying4
  a4 := Tryd.isAgg4
  z4 := Tryd.sizeOf4
  v4 := Tryd.zeroValue4 }
open Go.RowKit Go.Lib in
theorem Tryd.cmp_isNaN_int2 (x : Int) (w : World) :
    Calls Tryd.prog 48 #[.int .i64 x] w fun e w' => e = .returned (.bool false) ∧ w' = w := Any.cmp_isNaN_int2 Tryd.laysNm237 x w
end Go.Proofs

namespace Go.Proofs.YtpdoponghlpkcaaDoor
open Go.RowKit
theorem fclone_any(s:ByteArray)(w:World)(hs:s.size≤1048576):
 Calls Tryd.prog 65 #[.string s] w fun e w'=>e=.returned (.string s)∧Below w.heap.size w w':=by
 go_enter Tryd.func65,Tryd.ntmps65;go_wp2_with fail;refine(Tryd.stringslite_Clone s _ (by omega)).mono ?_
 rintro e w' ⟨rfl,hb⟩;go_wp2;go_ret;exact⟨rfl,hb⟩
end Go.Proofs.YtpdoponghlpkcaaDoor

namespace Go.Proofs.YtpdoponghlpkcaaDoor
open Go.RowKit
end Go.Proofs.YtpdoponghlpkcaaDoor

namespace Go.Proofs.YtpdoponghlpkcaaDoor
open Go.RowKit
set_option maxHeartbeats 400000 in
set_option maxRecDepth 100000 in
theorem iat_in(g n cap k:Nat)(w:World)(_hn:n≤1048576)(hk:k<n):
 Calls Tryd.prog 63 #[.agg #[.slice (some ⟨g,0,none⟩) n cap],.int .i64 k] w fun e w'=>e=.returned (.pointer (some ⟨g,k*3,none⟩))∧Below w.heap.size w w':=by
 have HB:=hide ((Below.refl w.heap.size w).alloc (Nat.le_refl _) (.cells #[.slice (some ⟨g,0,none⟩) n cap] 37));have h1:(0:Int)≤k:=by omega
 have h2:(k:Int)<n:=by omega
 go_enter Tryd.func63,Tryd.ntmps63;go_wp2;go_ret;exact⟨rfl,HB.out⟩
set_option maxHeartbeats 400000 in
set_option maxRecDepth 100000 in
theorem iat_out(ad:Option Addr)(n cap:Nat)(b:Int)(w:World)(_hn:n≤1048576)(hb:¬(0≤b∧b≤(n:Int)-1)):
 Calls Tryd.prog 63 #[.agg #[.slice ad n cap],.int .i64 b] w fun e w'=>e=.returned (.pointer none)∧Below w.heap.size w w':=by
 have HB:=hide ((Below.refl w.heap.size w).alloc (Nat.le_refl _) (.cells #[.slice ad n cap] 37));by_cases h0:b<0
 ·go_enter Tryd.func63,Tryd.ntmps63;go_wp2;go_ret;exact⟨rfl,HB.out⟩
 ·have h1:(n:Int)≤b:=by omega
  clear hb;go_enter Tryd.func63,Tryd.ntmps63;go_wp2;go_ret;exact⟨rfl,HB.out⟩
set_option maxHeartbeats 400000 in
set_option maxRecDepth 100000 in
theorem ilat_off(g o gl lo n cap k:Nat)(w:World)(_hn:n≤1048576)(hk:k<n)(hc:w.cell? ⟨g,o+2,none⟩=some (.slice (some ⟨gl,lo,none⟩) n cap)):
 Calls Tryd.prog 64 #[.pointer (some ⟨g,o,none⟩),.int .i64 k] w fun e w'=>e=.returned (.pointer (some ⟨gl,lo+k*2,none⟩))∧w'=w:=by
 have h1:(0:Int)≤k:=by omega
 have h2:(k:Int)<n:=by omega
 go_enter Tryd.func64,Tryd.ntmps64;go_wp2;go_ret;exact⟨rfl,rfl⟩
set_option maxHeartbeats 400000 in
set_option maxRecDepth 100000 in
theorem ilat_out(g o n cap:Nat)(ad:Option Addr)(b:Int)(w:World)(_hn:n≤1048576)(hb:¬(0≤b∧b≤(n:Int)-1))(hc:w.cell? ⟨g,o+2,none⟩=some (.slice ad n cap)):
 Calls Tryd.prog 64 #[.pointer (some ⟨g,o,none⟩),.int .i64 b] w fun e w'=>e=.returned (.pointer none)∧w'=w:=by
 by_cases h0:b<0
 ·go_enter Tryd.func64,Tryd.ntmps64;go_wp2;go_ret;exact⟨rfl,rfl⟩
 ·have h1:(n:Int)≤b:=by omega
  clear hb;go_enter Tryd.func64,Tryd.ntmps64;go_wp2;go_ret;exact⟨rfl,rfl⟩
end Go.Proofs.YtpdoponghlpkcaaDoor
