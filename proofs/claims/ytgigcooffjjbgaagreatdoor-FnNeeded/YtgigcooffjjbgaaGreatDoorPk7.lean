/-
  SWipe; Cells; Same; CopyM; ISlices; Shelf; IClone; ICopy; IAt; ISmall; INext; IBlk; IOk; IUse; After; IProg; AfterW; IWipe; StRd; CeVl; VlRow; SArOk; SGet; SAll
-/
import Derived.Test.YtgigcooffjjbgaaGreatDoorPk6
import Derived.Lib.SliceRun
import Derived.Shelf.Small.Bits
import Derived.Shelf.Small.Wraps
import Derived.Shelf.Strconv.Itoa0
import Derived.Shelf.LaysM
import Derived.Shelf.Strconv.Clone
import Derived.Shelf.Sort.Plain
import Derived.Shelf.Strings.Prefix
import Derived.Shelf.Slices.Turned
import Derived.Ground.Names2Prog
import Derived.Shelf.Slices.CompactI
import Derived.Shelf.Slices.SearchI
import Derived.Shelf.Slices.Cells
import Derived.Shelf.Slices.In.SortNone
import Derived.Test.YtgigcooffjjbgaaGreatDoorProg
open Go.Value renaming int→I,slice→Y,string→iT,bool→iB,pointer→iP,agg→iA,tuple→iU
open Go.IntKind renaming i64→J
open Option renaming none→O,some→X
open Go.Ending renaming returned→G
open Go.Obj renaming cells→iC
open Bool renaming true→iV,false→iF
open Go renaming World→iW,Value→iX,Calls→iK
open Go.RowKit renaming Below→iL
set_option maxHeartbeats 2000000
set_option maxRecDepth 100000
namespace Go.Proofs.YtgigcooffjjbgaaGreatDoor
open Go.RowKit
variable{bs:List Bk}
theorem aaw{b:Int}(h:¬(0<=b/\b<=(bs.length:Int)-1)):qG bs b=iF:=by
 unfold qG;cases a:bs[b.toNat]? with
 |none=>rfl
 |some r=>
  have:=(aB.1 a).1;exact bf (λc=>h ⟨c.1,by omega⟩)
theorem Rd{b:Int}{r:Bk}(h0:0<=b)(a:bs[b.toNat]?=X r):qG bs b=decide (r.1=iF/\r.2.1≠1000000000):=by
 unfold qG;rw[a];simp[h0]
theorem Lg{b:Bk}(h:bo bs=iV)(c:b∈bs):0<=b.2.1/\b.2.1<=1000000000:=by
 simp only[bo,bn,gV]at h;have a:=h.2 b c;simp only[dm,bn,bH]at a;exact a.1.2
theorem Uc(v:iX)(rs:List Rw)(b:Int)(w:iW)(hl:rs.length<=1048576)(aa:∀r∈rs,r.2.2.2.length<=1048576)(ha:dX w v rs):
 iK Tryz.prog 216 #[iA #[v],I J b] w λe w'=>∃u,e=G (iU #[iA #[u],iB (gE (rs.map aw) b).2])/\dj w' w.heap.size u (gE (rs.map aw) b).1/\iL w.heap.size w w':=by
 obtain⟨i0,av,aD,aG,aH⟩:=bV zC;have aA:IntKind.i64.wrap ((rs.length:Int)-1)=(rs.length:Int)-1:=by rw[cm];omega
 have S:=af aa;have h1:=ha;obtain⟨C,f,rfl,-,-⟩:=h1;have F:=((az w.heap.size w).alloc (am _) (iC #[Y C rs.length f] 26)).alloc (by simp) (iC #[Y O 0 0] 26)
 have ad:=af F;have HA:=af (ha.below F);have r0:=(gt (w.alloc (iC #[Y C rs.length f] 26)) (iC #[Y O 0 0] 26) w.heap.size (by simp)).trans (aC w (iC #[Y C rs.length f] 26))
 have r1:=aC (w.alloc (iC #[Y C rs.length f] 26)) (iC #[Y O 0 0] 26);rw[show(w.alloc (iC #[Y C rs.length f] 26)).heap.size=w.heap.size+1 by simp]at r1
 have R0:=af r0;have R1:=af r1;have HZ:=af (show((w.alloc (iC #[Y C rs.length f] 26)).alloc (iC #[Y O 0 0] 26)).heap.size=w.heap.size+2 by simp)
 clear ha aa F r0 r1;go_enter Tryz.func216,Tryz.ntmps216;go_wp2_with fail;refine(AL _ rs _ hl S.o HA.o).mono ?_;rintro e n ⟨u,rfl,Z,E⟩;obtain⟨B,a,rfl⟩:=Z.form;rw[bm]at Z;rw[bm];have z1:=E.size;have ab:=af (HA.o.below E);rw[HZ.o]at Z E z1;have q0:=(E.block _ (by omega)).trans R0.o
 have q1:=(E.block _ (by omega)).trans R1.o
 have M:=(az n.heap.size n).alloc (am _) (iC #[Y B rs.length a] 26);have q2:=aC n (iC #[Y B rs.length a] 26);have p0:=(M.block _ (by omega)).trans q0
 have p1:=(M.block _ (by omega)).trans q1
 have ae:=af ((ad.o.trans (E.mono (by omega))).trans (M.mono (by omega)))
 have aj:=af (Z.below M);have P:=af (ab.o.below M);have P0:=af p0;have P1:=af p1;have P2:=af q2;have V:=af (show(n.alloc (iC #[Y B rs.length a] 26)).heap.size=n.heap.size+1 by simp)
 have k0:(n.alloc (iC #[Y B rs.length a] 26)).cell? ⟨w.heap.size,0,O⟩=X (Y C rs.length f):=ai _ _ 0 _ _ _ p0;clear p0 p1 q0 q1 q2 E M Z;go_wp2_with fail;refine(xh _ rs _ hl S.o P.o).mono ?_;rintro e w3 ⟨rfl,s⟩;have z3:=s.size;have ac:=af (P.o.below s);rw[V.o]at s z3;have t0:=(s.block _ (by omega)).trans P0.o
 have t1:=(s.block _ (by omega)).trans P1.o
 have t2:=(s.block _ (by omega)).trans P2.o
 have D:=af (ae.o.trans (s.mono (by omega)))
 have R:=af (aj.o.below (by rw[V.o];exact s))
 have m0:w3.cell? ⟨w.heap.size,0,O⟩=X (Y C rs.length f):=ai _ _ 0 _ _ _ t0;have m1:w3.cell? ⟨w.heap.size+1,0,O⟩=X (Y O 0 0):=ai _ _ 0 _ _ _ t1;have m2:w3.cell? ⟨n.heap.size,0,O⟩=X (Y B rs.length a):=ai _ _ 0 _ _ _ t2;have f1:=aF _ _ 0 _ _ t1;have W:=af t1;have T2:=af t2;clear t0 t2 t1 s k0;have K:=af (R.o.cell (show w.heap.size+1<w.heap.size+2 by omega) 0 (Y B rs.length a))
 have L:=af (dq W.o 0 (Y B rs.length a));have l:=af (D.o.setCell (p:=⟨w.heap.size+1,0,O⟩) (by show _<=_+1;omega) (Y B rs.length a))
 cases z:bo (rs.map aw)with
 |false=>
  have j:ah (gE (rs.map aw) b=(rs.map aw,iF)):=by show _=_;simp[gE,z]
  clear z;go_wp2;exact aE (kH rfl _ _ (w.heap.size+1) _ rfl L.o) rfl ⟨_,by rw[j.o];rfl,by rw[j.o];exact K.o.down (by omega),l.o⟩
 |true=>
  have T:=af z;clear z;go_wp2_with fail;refine(ie b 0 ((rs.length:Int)-1) _).mono ?_;rintro e c ⟨rfl,rfl⟩;by_cases N:0<=b/\b<=(rs.length:Int)-1
  ·have q:decide (0<=b/\b<=(rs.length:Int)-1)=iV:=aW N;rw[q];obtain⟨k,rfl⟩:∃k:Nat,b=k:=⟨b.toNat,by omega⟩
   have ar:k<rs.length:=by omega
   have hr:rs[k]?=X rs[k]:=ay ar;generalize rs[k]=r at hr;obtain⟨gv,eg,⟨c1,c2,-⟩,-⟩:=ac.o.at hr;subst eg;obtain⟨x,y,u,ls⟩:=r;simp only at c1 c2;have t:(rs.map aw)[k]?=X (x,y,ls):=by rw[bi,hr];rfl
   have hy:=Lg T.o (aO t);simp only at hy;have HM:=af (Rd (bs:=rs.map aw) (b:=(k:Int)) N.1 (by rw[bk];exact t))
   have ax:(k:Int)<rs.length:=by omega
   have k0:(0:Int)<=k:=by omega
   have ag:=af t;clear hr N q t;cases x with
   |true=>
    have j:ah (gE (rs.map aw) (k:Int)=(rs.map aw,iF)):=by show _=_;simp[gE,HM.o]
    go_wp2;exact aE (kH rfl _ _ (w.heap.size+1) _ rfl L.o) rfl ⟨_,by rw[j.o];rfl,by rw[j.o];exact K.o.down (by omega),l.o⟩
   |false=>
    by_cases m:y=1000000000
    ·have j:ah (gE (rs.map aw) (k:Int)=(rs.map aw,iF)):=by show _=_;simp[gE,HM.o,m]
     have e9:(y==1000000000)=iV:=by simp[m]
     clear m;go_wp2;exact aE (kH rfl _ _ (w.heap.size+1) _ rfl L.o) rfl ⟨_,by rw[j.o];rfl,by rw[j.o];exact K.o.down (by omega),l.o⟩
    ·have j:ah (gE (rs.map aw) (k:Int)=((rs.map aw).modify k (λr=>(iF,r.2.1+1,eW)),iV)):=by show _=_;simp[gE,HM.o,m,T.o]
     have e9:(y==1000000000)=iF:=by simpa using m
     have aB:IntKind.i64.wrap (y+1)=y+1:=by rw[cm];omega
     clear m;have h:=(az c.heap.size c).alloc (am _) (iC iG 83);obtain⟨d,rfl,⟨d1,d2,x3,d3⟩,fz,au,g,i,A⟩:=R.o.setBlock ag.o h (Ji c) (by omega)
     have MK:=Gp;have g1:=fz (k*3);have g2:=fz (k*3+1);have g3:=fz (k*3+2);have ak:=d1;have al:=d2;have an:=d3;rw[h.cell (show d<c.heap.size from g)]at ak al an;have ao:=g1;have ap:=g2;have aq:=g3;rw[h.frozen (show d<c.heap.size from g)]at ao ap aq;have s0:w.heap.size<c.heap.size:=by omega
     have s1:n.heap.size<c.heap.size:=by omega
     have sv:gv<c.heap.size:=aT c _ c1;have n0:w.heap.size≠c.heap.size:=by omega
     have n1:n.heap.size≠c.heap.size:=by omega
     have nv:gv≠c.heap.size:=by omega
     have nu:d≠c.heap.size:=by omega
     have a0:=(h.cell (p:=⟨w.heap.size,0,O⟩) s0).trans m0;have a1:=(h.cell (p:=⟨n.heap.size,0,O⟩) s1).trans m2;have a2:=(h.cell (p:=⟨gv,k*3,O⟩) sv).trans c1;have a3:=(h.cell (p:=⟨gv,k*3+1,O⟩) sv).trans c2;have hp:=A iF (y+1) (λr=>(iF,r.2.1+1,eW)) rfl
     have v1:=cU (cU (cU ((h.block _ (show w.heap.size+1<c.heap.size by omega)).trans W.o) (i _ _ ((h.block _ (show w.heap.size+1<c.heap.size by omega)).trans W.o)) (k*3) (iB iF)) (i _ _ ((h.block _ (show w.heap.size+1<c.heap.size by omega)).trans W.o)) (k*3+1) (I J (y+1))) (i _ _ ((h.block _ (show w.heap.size+1<c.heap.size by omega)).trans W.o)) (k*3+2) (Y (X ⟨c.heap.size,0,O⟩) 4 4)
     have v2:=cU (cU (cU ((h.block _ s1).trans T2.o) (i _ _ ((h.block _ s1).trans T2.o)) (k*3) (iB iF)) (i _ _ ((h.block _ s1).trans T2.o)) (k*3+1) (I J (y+1))) (i _ _ ((h.block _ s1).trans T2.o)) (k*3+2) (Y (X ⟨c.heap.size,0,O⟩) 4 4);have H:=(((D.o.alloc D.o.size (iC iG 83)).setCell (p:=⟨d,k*3,O⟩) (by show _<=d;omega) (iB iF)).setCell (p:=⟨d,k*3+1,O⟩) (by show _<=d;omega) (I J (y+1))).setCell (p:=⟨d,k*3+2,O⟩) (by show _<=d;omega) (Y (X ⟨c.heap.size,0,O⟩) 4 4)
     have U:ah ((((c.alloc (iC iG 83)).setCell ⟨d,k*3,O⟩ (iB iF)).setCell ⟨d,k*3+1,O⟩ (I J (y+1))).setCell ⟨d,k*3+2,O⟩ (Y (X ⟨c.heap.size,0,O⟩) 4 4)=(((c.setCell ⟨d,k*3,O⟩ (iB iF)).setCell ⟨d,k*3+1,O⟩ (I J (y+1))).setCell ⟨d,k*3+2,O⟩ (Y (X ⟨c.heap.size,0,O⟩) 4 4)).alloc (iC iG 83)):=by
      show _=_;rw[Aq _ _ _ _ g,Aq _ _ _ _ (by simpa[World.setCell]using g),Aq _ _ _ _ (by simpa[World.setCell]using g)]
     rw[U.o]at hp v1 v2 H;go_wp2_with fail;go_region;have FP:=af (show dj ((((c.setCell ⟨d,k*3,O⟩ (iB iF)).setCell ⟨d,k*3+1,O⟩ (I J (y+1))).setCell ⟨d,k*3+2,O⟩ (Y (X ⟨c.heap.size,0,O⟩) 4 4)).alloc (iC iG 83)).drew _ _ _ from hp);have V1:=af (show((((c.setCell ⟨d,k*3,O⟩ (iB iF)).setCell ⟨d,k*3+1,O⟩ (I J (y+1))).setCell ⟨d,k*3+2,O⟩ (Y (X ⟨c.heap.size,0,O⟩) 4 4)).alloc (iC iG 83)).drew.heap[w.heap.size+1]?=_ from v1);have V2:=af (show((((c.setCell ⟨d,k*3,O⟩ (iB iF)).setCell ⟨d,k*3+1,O⟩ (I J (y+1))).setCell ⟨d,k*3+2,O⟩ (Y (X ⟨c.heap.size,0,O⟩) 4 4)).alloc (iC iG 83)).drew.heap[n.heap.size]?=_ from v2);have Q:=af H.drew;clear hp v1 v2 H A i U;generalize((((c.setCell ⟨d,k*3,O⟩ (iB iF)).setCell ⟨d,k*3+1,O⟩ (I J (y+1))).setCell ⟨d,k*3+2,O⟩ (Y (X ⟨c.heap.size,0,O⟩) 4 4)).alloc (iC iG 83)).drew=w6 at FP V1 V2 Q⊢;have x5:w6.cell? ⟨w.heap.size+1,0,O⟩=X (Y O 0 0):=ai _ _ 0 _ _ _ V1.o;have y5:w6.cell? ⟨n.heap.size,0,O⟩=X (Y (X ⟨d,0,O⟩) rs.length a):=ai _ _ 0 _ _ _ V2.o;have f5:=aF _ _ 0 _ _ V1.o;have K:=af (FP.o.cell (show w.heap.size+1<w.heap.size+2 by omega) 0 (Y (X ⟨d,0,O⟩) rs.length a))
     have L:=af (dq V1.o 0 (Y (X ⟨d,0,O⟩) rs.length a));have l:=af (Q.o.setCell (p:=⟨w.heap.size+1,0,O⟩) (by show _<=_+1;omega) (Y (X ⟨d,0,O⟩) rs.length a))
     go_wp2;exact aE (kH rfl _ _ (w.heap.size+1) _ rfl L.o) rfl ⟨_,by rw[j.o];rfl,by rw[j.o];exact K.o.down (by omega),l.o⟩
  ·have q:decide (0<=b/\b<=(rs.length:Int)-1)=iF:=bf N;rw[q];have j:ah (gE (rs.map aw) b=(rs.map aw,iF)):=by show _=_;simp[gE,aaw (bs:=rs.map aw) (b:=b) (by rw[List.length_map];exact N)]
   clear N q;go_wp2;exact aE (kH rfl _ _ (w.heap.size+1) _ rfl L.o) rfl ⟨_,by rw[j.o];rfl,by rw[j.o];exact K.o.down (by omega),l.o⟩
theorem Ax(w:iW)(cs:Array iX)(t:TypeId)(g:Nat)(a:w.heap.size=g):∀(j:Nat) (u:iX),cs.toList[j]?=X u->(w.alloc (iC cs t)).cell? ((⟨g,0,O⟩:Addr).add j)=X u:=by
 intro j u b;subst a;rw[fw,ai _ _ j _ _ _ (aC w (iC cs t))]
 simpa using b
theorem UD(x:Bool)(y:Int)(a:Option Addr)(n c:Nat):∀u∈ [iB x,I J y,Y a n c],u.oneCell'=iV:=by
 intro u b;simp at b;rcases b with h|h|h<;>subst h<;>rfl
end Go.Proofs.YtgigcooffjjbgaaGreatDoor
namespace Go.Proofs
open Go.Shelf
def Tryz.lays215_ren : Go.Shelf.Ren := ⟨fun | 215 => 110 | n => n, fun | 3 => 3 | 4 => 4 | n => n, fun | n => n⟩
def Tryz.lays122_ren : Go.Shelf.Ren := ⟨fun | 122 => 64 | 215 => 110 | n => n, fun | 3 => 3 | 4 => 4 | n => n, fun | n => n⟩
theorem Tryz.lays122 : Go.Proofs.Lays.n122 Tryz.prog Tryz.lays122_ren := {
  mixed := by kernel_rfl
  f122 := Tryz.func64.trans (congrArg some (by kernel_rfl))
  f215 := Tryz.func110.trans (congrArg some (by kernel_rfl))
  t3 := Tryz.underlying3
  a3 := Tryz.isAgg3
  z3 := Tryz.sizeOf3
  v3 := Tryz.zeroValue3
  t4 := Tryz.underlying4
  a4 := Tryz.isAgg4
  z4 := Tryz.sizeOf4
  v4 := Tryz.zeroValue4 }
open Go.RowKit in
theorem Tryz.cmp_Compare_int (x y : Int) (w : World) :
    Calls Tryz.prog 64 #[.int .i64 x, .int .i64 y] w fun e w' => e = .returned (.int .i64 (Lib.compareInt x y)) ∧ w' = w := Any.cmp_Compare_int Tryz.lays122 x y w
def Tryz.laysM316_ren : Go.Shelf.Ren := ⟨fun | 316 => 187 | n => n, fun | 9 => 9 | 3 => 3 | 4 => 4 | 37 => 22 | 0 => 0 | 127 => 296 | 5 => 5 | n => n, fun | n => n⟩
theorem Tryz.laysM316 : Go.Proofs.LaysM.n316 Tryz.prog Tryz.laysM316_ren := {
  mixed := by kernel_rfl
  f316 := Tryz.func187.trans (congrArg some (by kernel_rfl))
  t0 := Tryz.underlying0
  a0 := Tryz.isAgg0
  z0 := Tryz.sizeOf0
  v0 := Tryz.zeroValue0
  t3 := Tryz.underlying3
  a3 := Tryz.isAgg3
  z3 := Tryz.sizeOf3
  v3 := Tryz.zeroValue3
  t4 := Tryz.underlying4
  a4 := Tryz.isAgg4
  z4 := Tryz.sizeOf4
  v4 := Tryz.zeroValue4
  t9 := Tryz.underlying9
  a9 := Tryz.isAgg9
  z9 := Tryz.sizeOf9
  v9 := Tryz.zeroValue9
  t37 := Tryz.underlying22
  a37 := Tryz.isAgg22
  z37 := Tryz.sizeOf22
  v37 := Tryz.zeroValue22
  t127 := Tryz.underlying296
  a127 := Tryz.isAgg296
  z127 := Tryz.sizeOf296
  v127 := Tryz.zeroValue296
  t5 := Tryz.underlying5
  a5 := Tryz.isAgg5
  z5 := Tryz.sizeOf5
  v5 := Tryz.zeroValue5
  i0 := by kernel_rfl
  i3 := by kernel_rfl
  i4 := by kernel_rfl
  i5 := by kernel_rfl
  i9 := by kernel_rfl
  i37 := by kernel_rfl
  i127 := by kernel_rfl }
open Go.RowKit in
theorem Tryz.stringslite_Clone (s : ByteArray) (w : World) (hlim : s.size ≤ 281474976710656) :
    Calls Tryz.prog 187 #[.string s] w fun e w' => e = .returned (.string s) ∧ Below w.heap.size w w' := Any.stringslite_Clone Tryz.laysM316 s w hlim
def Tryz.lays189_ren : Go.Shelf.Ren := ⟨fun | 189 => 75 | 125 => 119 | 257 => 118 | 128 => 171 | 129 => 172 | 294 => 162 | 295 => 163 | 296 => 164 | 297 => 165 | 298 => 166 | 299 => 167 | 216 => 168 | 300 => 169 | 301 => 170 | 328 => 203 | 329 => 204 | 330 => 205 | 331 => 206 | 332 => 207 | 215 => 110 | 343 => 230 | n => n, fun | 28 => 36 | 3 => 3 | 46 => 140 | 0 => 0 | 51 => 128 | 53 => 237 | 4 => 4 | 183 => 228 | 182 => 227 | 131 => 233 | 5 => 5 | 9 => 9 | 218 => 280 | 222 => 284 | 228 => 307 | 229 => 270 | n => n, fun | n => n⟩
theorem Tryz.lays189 : Go.Proofs.Lays.n189 Tryz.prog Tryz.lays189_ren := {
  mixed := by kernel_rfl
  f125 := Tryz.func119.trans (congrArg some (by kernel_rfl))
  f128 := Tryz.func171.trans (congrArg some (by kernel_rfl))
  f129 := Tryz.func172.trans (congrArg some (by kernel_rfl))
  f189 := Tryz.func75.trans (congrArg some (by kernel_rfl))
  f215 := Tryz.func110.trans (congrArg some (by kernel_rfl))
  f216 := Tryz.func168.trans (congrArg some (by kernel_rfl))
  f257 := Tryz.func118.trans (congrArg some (by kernel_rfl))
  f294 := Tryz.func162.trans (congrArg some (by kernel_rfl))
  f295 := Tryz.func163.trans (congrArg some (by kernel_rfl))
  f296 := Tryz.func164.trans (congrArg some (by kernel_rfl))
  f297 := Tryz.func165.trans (congrArg some (by kernel_rfl))
  f298 := Tryz.func166.trans (congrArg some (by kernel_rfl))
  f299 := Tryz.func167.trans (congrArg some (by kernel_rfl))
  f300 := Tryz.func169.trans (congrArg some (by kernel_rfl))
  f301 := Tryz.func170.trans (congrArg some (by kernel_rfl))
  f328 := Tryz.func203.trans (congrArg some (by kernel_rfl))
  f329 := Tryz.func204.trans (congrArg some (by kernel_rfl))
  f330 := Tryz.func205.trans (congrArg some (by kernel_rfl))
  f331 := Tryz.func206.trans (congrArg some (by kernel_rfl))
  f332 := Tryz.func207.trans (congrArg some (by kernel_rfl))
  f343 := Tryz.func230.trans (congrArg some (by kernel_rfl))
  t0 := Tryz.underlying0
  a0 := Tryz.isAgg0
  z0 := Tryz.sizeOf0
  v0 := Tryz.zeroValue0
  t3 := Tryz.underlying3
  a3 := Tryz.isAgg3
  z3 := Tryz.sizeOf3
  v3 := Tryz.zeroValue3
  t4 := Tryz.underlying4
  a4 := Tryz.isAgg4
  z4 := Tryz.sizeOf4
  v4 := Tryz.zeroValue4
  t5 := Tryz.underlying5
  a5 := Tryz.isAgg5
  z5 := Tryz.sizeOf5
  v5 := Tryz.zeroValue5
  t9 := Tryz.underlying9
  a9 := Tryz.isAgg9
  z9 := Tryz.sizeOf9
  v9 := Tryz.zeroValue9
  t28 := Tryz.underlying36
  a28 := Tryz.isAgg36
  z28 := Tryz.sizeOf36
  v28 := Tryz.zeroValue36
  t46 := Tryz.underlying140
  a46 := Tryz.isAgg140
  z46 := Tryz.sizeOf140
  v46 := Tryz.zeroValue140
  t51 := Tryz.underlying128
  a51 := Tryz.isAgg128
  z51 := Tryz.sizeOf128
  v51 := Tryz.zeroValue128
  t53 := Tryz.underlying237
  a53 := Tryz.isAgg237
  z53 := Tryz.sizeOf237
  v53 := Tryz.zeroValue237
  t131 := Tryz.underlying233
  a131 := Tryz.isAgg233
  z131 := Tryz.sizeOf233
  v131 := Tryz.zeroValue233
  t182 := Tryz.underlying227
  a182 := Tryz.isAgg227
  z182 := Tryz.sizeOf227
  v182 := Tryz.zeroValue227
  t183 := Tryz.underlying228
  a183 := Tryz.isAgg228
  z183 := Tryz.sizeOf228
  v183 := Tryz.zeroValue228
  t218 := Tryz.underlying280
  a218 := Tryz.isAgg280
  z218 := Tryz.sizeOf280
  v218 := Tryz.zeroValue280
  t222 := Tryz.underlying284
  a222 := Tryz.isAgg284
  z222 := Tryz.sizeOf284
  v222 := Tryz.zeroValue284
  t228 := Tryz.underlying307
  a228 := Tryz.isAgg307
  z228 := Tryz.sizeOf307
  v228 := Tryz.zeroValue307
  t229 := Tryz.underlying270
  a229 := Tryz.isAgg270
  z229 := Tryz.sizeOf270
  v229 := Tryz.zeroValue270 }
open Go.Sort Go.RowKit in
theorem Tryz.slices_Sort_int (blk off cap : Nat) (zs : List Int) (w : World) (hH : Holds (Value.int .i64) w blk off zs.toArray) (hblk : blk < w.heap.size) (hsz : zs.length < 4611686018427387904) :
    Calls Tryz.prog 75 #[.slice (some ⟨blk, off, none⟩) zs.length cap] w fun e w' =>
      e = .returned (.tuple #[]) ∧ ∃ n os, w' = grow (putRow (Value.int .i64) (Sort.ahead w n) blk off (zs.mergeSort fun x y => decide (x ≤ y)).toArray) os := Any.slices_Sort_int Tryz.lays189 blk off cap zs w hH hblk hsz
def Tryz.lays107_ren : Go.Shelf.Ren := ⟨fun | 107 => 77 | 108 => 120 | n => n, fun | 28 => 36 | 3 => 3 | 4 => 4 | 0 => 0 | n => n, fun | n => n⟩
theorem Tryz.lays107 : Go.Proofs.Lays.n107 Tryz.prog Tryz.lays107_ren := {
  mixed := by kernel_rfl
  f107 := Tryz.func77.trans (congrArg some (by kernel_rfl))
  f108 := Tryz.func120.trans (congrArg some (by kernel_rfl))
  t0 := Tryz.underlying0
  a0 := Tryz.isAgg0
  z0 := Tryz.sizeOf0
  v0 := Tryz.zeroValue0
  t3 := Tryz.underlying3
  a3 := Tryz.isAgg3
  z3 := Tryz.sizeOf3
  v3 := Tryz.zeroValue3
  t4 := Tryz.underlying4
  a4 := Tryz.isAgg4
  z4 := Tryz.sizeOf4
  v4 := Tryz.zeroValue4
  t28 := Tryz.underlying36
  a28 := Tryz.isAgg36
  z28 := Tryz.sizeOf36
  v28 := Tryz.zeroValue36 }
open Go.Lib in
theorem Tryz.slices_Contains_int (b off n c : Nat) (zs : List Int) (x : Int) (w : World) (hz : n ≤ zs.length) (hbig : n ≤ 9223372036854775807) (hc : ∀ j, j < zs.length → w.cell? ⟨b, off + j, none⟩ = some (.int .i64 (zs.getD j 0))) :
    Calls Tryz.prog 77 #[.slice (some ⟨b, off, none⟩) n c, .int .i64 x] w fun e w' => e = .returned (.bool ((zs.take n).contains x)) ∧ w' = w := Any.slices_Contains_int Tryz.lays107 b off n c zs x w hz hbig hc
open Go.Lib in
theorem Tryz.slices_Contains_int_empty (a : Option Addr) (c : Nat) (x : Int) (w : World) :
    Calls Tryz.prog 77 #[.slice a 0 c, .int .i64 x] w fun e w' => e = .returned (.bool false) ∧ w' = w := Any.slices_Contains_int_empty Tryz.lays107 a c x w
def Tryz.laysNm220_ren : Go.Shelf.Ren := ⟨fun | 20 => 76 | n => n, fun | 22 => 36 | 3 => 3 | 4 => 4 | 0 => 0 | n => n, fun | n => n⟩
theorem Tryz.laysNm220 : Go.Proofs.Lays2.n20 Tryz.prog Tryz.laysNm220_ren := {
  mixed := by kernel_rfl
  f20 := Tryz.func76.trans (congrArg some (by kernel_rfl))
  t0 := Tryz.underlying0
  a0 := Tryz.isAgg0
  z0 := Tryz.sizeOf0
  v0 := Tryz.zeroValue0
  t3 := Tryz.underlying3
  a3 := Tryz.isAgg3
  z3 := Tryz.sizeOf3
  v3 := Tryz.zeroValue3
  t4 := Tryz.underlying4
  a4 := Tryz.isAgg4
  z4 := Tryz.sizeOf4
  v4 := Tryz.zeroValue4
  t22 := Tryz.underlying36
  a22 := Tryz.isAgg36
  z22 := Tryz.sizeOf36
  v22 := Tryz.zeroValue36
  i3 := by kernel_rfl }
open Go.RowKit Go.Lib Go.Sort in
theorem Tryz.slices_Compact_int (blk off cap : Nat) (zs : List Int) (w : World) (hH : Holds (Value.int .i64) w blk off zs.toArray) (hsz : zs.length ≤ 9223372036854775807) (hcap : zs.length ≤ cap) :
    Calls Tryz.prog 76 #[.slice (some ⟨blk, off, none⟩) zs.length cap] w fun e w' => e = .returned (.slice (some ⟨blk, off, none⟩) (Lib.compact zs).length cap) ∧ ∃ q, w' = putRow (Value.int .i64) (Sort.ahead w q) blk off (Lib.compact zs ++ List.replicate (zs.length - (Lib.compact zs).length) 0).toArray := Any.slices_Compact_int Tryz.laysNm220 blk off cap zs w hH hsz hcap
open Go.RowKit Go.Lib Go.Sort in
theorem Tryz.slices_Compact_int_empty (a : Option Addr) (cap : Nat) (w : World) :
    Calls Tryz.prog 76 #[.slice a 0 cap] w fun e w' => e = .returned (.slice a 0 cap) ∧ w' = w := Any.slices_Compact_int_empty Tryz.laysNm220 a cap w
open Go.RowKit Go.Sort in
theorem Tryz.slices_Sort_int_none (p : Option Addr) (cap : Nat) (w : World) :
    Calls Tryz.prog 75 #[.slice p 0 cap] w fun e w' => e = .returned (.tuple #[]) ∧ w' = w := Any.slices_Sort_int_none Tryz.lays189 p cap w
end Go.Proofs
namespace Go.Proofs.YtgigcooffjjbgaaGreatDoor
open Go.RowKit
theorem Vg(s:ByteArray)(w:iW)(hs:s.size<=1048576):
 iK Tryz.prog 150 #[iT s] w λe w'=>e=G (iT s)/\iL w.heap.size w w':=by
 go_enter Tryz.func150,Tryz.ntmps150;go_wp2_with fail;refine(Tryz.stringslite_Clone s _ (by omega)).mono ?_
 rintro e w' ⟨rfl,a⟩;go_wp2;go_ret;exact⟨rfl,a⟩
theorem Og(g n cap k:Nat)(w:iW)(_hn:n<=1048576)(c:k<n):
 iK Tryz.prog 148 #[iA #[Y (X ⟨g,0,O⟩) n cap],I J k] w λe w'=>e=G (iP (X ⟨g,k*3,O⟩))/\iL w.heap.size w w':=by
 have a:=af ((az w.heap.size w).alloc (am _) (iC #[Y (X ⟨g,0,O⟩) n cap] 26));have h1:(0:Int)<=k:=by omega
 have b:(k:Int)<n:=by omega
 go_enter Tryz.func148,Tryz.ntmps148;go_wp2;go_ret;exact⟨rfl,a.o⟩
theorem YK(ad:Option Addr)(n cap:Nat)(b:Int)(w:iW)(_hn:n<=1048576)(c:¬(0<=b/\b<=(n:Int)-1)):
 iK Tryz.prog 148 #[iA #[Y ad n cap],I J b] w λe w'=>e=G (iP O)/\iL w.heap.size w w':=by
 have a:=af ((az w.heap.size w).alloc (am _) (iC #[Y ad n cap] 26));by_cases h0:b<0
 ·go_enter Tryz.func148,Tryz.ntmps148;go_wp2;go_ret;exact⟨rfl,a.o⟩
 ·have h1:(n:Int)<=b:=by omega
  clear c;go_enter Tryz.func148,Tryz.ntmps148;go_wp2;go_ret;exact⟨rfl,a.o⟩
theorem PY(g o gl lo n cap k:Nat)(w:iW)(_hn:n<=1048576)(c:k<n)(b:w.cell? ⟨g,o+2,O⟩=X (Y (X ⟨gl,lo,O⟩) n cap)):
 iK Tryz.prog 149 #[iP (X ⟨g,o,O⟩),I J k] w λe w'=>e=G (iP (X ⟨gl,lo+k*2,O⟩))/\w'=w:=by
 have h1:(0:Int)<=k:=by omega
 have a:(k:Int)<n:=by omega
 go_enter Tryz.func149,Tryz.ntmps149;go_wp2;go_ret;exact⟨rfl,rfl⟩
theorem So(g o n cap:Nat)(ad:Option Addr)(b:Int)(w:iW)(_hn:n<=1048576)(a:¬(0<=b/\b<=(n:Int)-1))(c:w.cell? ⟨g,o+2,O⟩=X (Y ad n cap)):
 iK Tryz.prog 149 #[iP (X ⟨g,o,O⟩),I J b] w λe w'=>e=G (iP O)/\w'=w:=by
 by_cases h0:b<0
 ·go_enter Tryz.func149,Tryz.ntmps149;go_wp2;go_ret;exact⟨rfl,rfl⟩
 ·have h1:(n:Int)<=b:=by omega
  clear a;go_enter Tryz.func149,Tryz.ntmps149;go_wp2;go_ret;exact⟨rfl,rfl⟩
def fq(w:iW)(v:iX)(bs:List Bk):Prop:=∃rs:List Rw,rs.map aw=bs/\dX w v rs
def de(bs:List Bk):Prop:=bs.length<=1048576/\∀r∈bs,r.2.2.length<=1048576/\∀t∈r.2.2,t.2.size<=1048576
variable{v:Int × Int}{B lo k i b:Nat}
variable{bs:List Bk}
theorem fq.below{w w':iW}{v:iX}(h:fq w v bs)(a:iL w.heap.size w w'):fq w' v bs:=by
 obtain⟨rs,e,h⟩:=h;exact⟨rs,e,h.below a⟩
theorem fq.form{w:iW}{v:iX}(h:fq w v bs):∃ad cap,v=Y ad bs.length cap:=by
 obtain⟨rs,rfl,a,vc,e,-⟩:=h;exact⟨a,vc,by rw[e,bm]⟩
theorem dj.rdb{w:iW}{v:iX}(h:dj w B v bs):fq w v bs:=by
 obtain⟨a,e,h⟩:=h;exact⟨a,e,h.rd⟩
theorem cF.rdb{w:iW}{hi:Nat}{v:iX}(h:cF lo hi v bs w):fq w v bs:=by
 obtain⟨a,e,h⟩:=h;exact⟨a,e,h.rd⟩
theorem fq.lens{w:iW}{v:iX}(h:fq w v bs)(hs:de bs):∃rs:List Rw,rs.map aw=bs/\dX w v rs/\rs.length<=1048576/\(∀r∈rs,r.2.2.2.length<=1048576)/\mJ rs:=by
 obtain⟨rs,rfl,h⟩:=h;refine⟨rs,rfl,h,by have:=hs.1;rwa [bm]at this,λr a=>(hs.2 _ (pj (f:=aw) a)).1,λr a t b=>(hs.2 _ (pj (f:=aw) a)).2 t b⟩
theorem de.modify(h:de bs)(k:Nat)(f:Bk->Bk)(a:∀r∈bs,(f r).2.2.length<=1048576/\∀t∈(f r).2.2,t.2.size<=1048576):de (bs.modify k f):=by
 refine⟨by rw[wR];exact h.1,λr b=>?_⟩
 obtain⟨i,hi,rfl⟩:=oH b;rw[wR]at hi;rw[List.getElem_modify];split
 ·exact a _ (qh _)
 ·exact h.2 _ (qh _)
theorem de.prog(h:de bs)(b leaf:Int)(t:ByteArray):de (gM bs b leaf t).1:=by
 unfold gM;split
 ·rename_i h1
  rw[bn]at h1;have e:t.size<=120:=by
   have a:=h1.2;unfold iM at a;split at a
   ·cases a
   ·exact(sF a).2.2.2.2.2
  refine h.modify _ _ (λr d=>⟨by rw[gI];exact(h.2 r d).1,λu c=>?_⟩)
  rcases nK c with c|rfl
  ·exact(h.2 r d).2 u c
  ·simp only;omega
 ·exact h
theorem de.wipe(h:de bs)(b:Int):de (gE bs b).1:=by
 unfold gE;split
 ·refine h.modify _ _ (λr c=>⟨by simp[eW],λu a=>?_⟩)
  simp only[eW,aX,eI,fp]at a;rcases a with rfl|rfl|rfl|rfl<;>exact aK _
 ·exact h
theorem de.step(h:de bs)(s:aM):de (cR bs s).1:=by
 unfold cR;split
 ·exact h.prog _ _ _
 ·split
  ·exact h.wipe _
  ·exact h
theorem de.all(h:de bs)(l:List aM):de (dc bs l).1:=by
 induction l generalizing bs with
 |nil=>exact h
 |cons s l a=>
  simp only[dc];split
  ·exact a (h.step s)
  ·exact h
theorem wD(v:iX)(bs:List Bk)(w:iW)(hs:de bs)(a:fq w v bs):
 iK Tryz.prog 138 #[iA #[v]] w λe w'=>∃u,e=G (iA #[u])/\dj w' w.heap.size u bs/\iL w.heap.size w w':=by
 obtain⟨rs,rfl,h,l,b,c⟩:=a.lens hs;exact AL v rs w l b h
theorem aap(v:iX)(bs:List Bk)(b leaf:Int)(t:ByteArray)(w:iW)(hs:de bs)(a:fq w v bs):
 iK Tryz.prog 215 #[iA #[v],I J b,I J leaf,iT t] w λe w'=>∃u,e=G (iU #[iA #[u],iB (gM bs b leaf t).2])/\dj w' w.heap.size u (gM bs b leaf t).1/\iL w.heap.size w w':=by
 obtain⟨rs,rfl,h,l,c,d⟩:=a.lens hs;exact WJ v rs b leaf t w l c h
theorem YF(v:iX)(bs:List Bk)(b:Int)(w:iW)(hs:de bs)(a:fq w v bs):
 iK Tryz.prog 216 #[iA #[v],I J b] w λe w'=>∃u,e=G (iU #[iA #[u],iB (gE bs b).2])/\dj w' w.heap.size u (gE bs b).1/\iL w.heap.size w w':=by
 obtain⟨rs,rfl,h,l,c,d⟩:=a.lens hs;exact Uc v rs b w l c h
def n7(t:Int×Int):List iX:=[I J t.1,I J t.2]
def ch(l:List (Int×Int)):List iX:=l.flatMap n7
theorem Iq(l:List (Int×Int)):(ch l).length=l.length*2:=by
 induction l with
 |nil=>rfl
 |cons t l a=>simp[ch,n7]at a⊢;omega
theorem Ky(a b:List (Int×Int)):ch (a++b)=ch a++ch b:=by simp[ch]
theorem zR(t:Int×Int)(l:List (Int×Int)):ch (t::l)=n7 t++ch l:=by simp[ch]
theorem vh(l:List (Int×Int))(k:Nat)(t:Int×Int)(h:l[k]?=X t)(j:Nat)(v:iX)(b:(n7 t)[j]?=X v):(ch l)[k*2+j]?=X v:=by
 have c:j<2:=(aB.1 b).1
 induction l generalizing k with
 |nil=>simp at h
 |cons a l d=>
  rw[zR];cases k with
  |zero=>
   simp at h;subst h;rw[hI (by show _<2;omega),mW,eV]
   exact b
  |succ k=>
   rw[ct (by show 2<=_;omega),show(k+1)*2+j-(n7 a).length=k*2+j by show _-2=_;omega]
   exact d k (by simpa using h)
theorem VD(l:List (Int×Int)):∀v∈ch l,v.oneCell'=iV:=by
 intro v b;obtain⟨t,-,a⟩:=md.1 b;simp[n7]at a;rcases a with h|h<;>subst h<;>rfl
theorem xp:(Tryz.prog.info? 66).map (λi=>(i.zero,i.size,i.bytes))=X (X (iA #[I J 0,I J 0]),2,16):=by kernel_rfl
theorem Ig{l:List (Int×Int)}(h:l[k]?=X v)(r:Int):(ch l).set (k*2+1) (I J r)=ch (l.set k (v.1,r)):=by
 induction l generalizing k with
 |nil=>simp at h
 |cons a l b=>
  cases k with
  |zero=>
   simp at h;subst h;rfl
  |succ k=>
   have e:(k+1)*2+1=(k*2+1)+2:=by omega
   rw[e,bZ,zR,zR,<-b (by simpa using h)]
   rfl
def ge(w:iW)(a:Option Addr)(c:Nat)(ls:List (Int×Int)):Prop:=
 ls.length=c/\c<=maxLen/\(∀t∈ls,True)/\(0<c->∃b d,a=X ⟨b,d,O⟩/\b<w.heap.size/\∀i t,ls[i]?=X t->w.cell? ⟨b,d+i*2,O⟩=X (I J t.1)/\w.cell? ⟨b,d+i*2+1,O⟩=X (I J t.2))
theorem ge.below{w w':iW}{a:Option Addr}{c:Nat}{ls:List (Int×Int)}(h:ge w a c ls)(d:iL w.heap.size w w'):ge w' a c ls:=by
 obtain⟨h1,k,l,h4⟩:=h;refine⟨h1,k,l,λh0=>?_⟩
 obtain⟨b,f,e,g,m⟩:=h4 h0;have hs:=d.size;refine⟨b,f,e,by omega,λi t n=>?_⟩
 obtain⟨j,c1⟩:=m i t n;exact⟨(d.cell (show b<w.heap.size from g)).trans j,(d.cell (show b<w.heap.size from g)).trans c1⟩
theorem ge.at{w:iW}{a:Option Addr}{d:Nat}{ls:List (Int×Int)}(h:ge w a d ls){t:Int×Int}(f:ls[k]?=X t):
 ∃b c,a=X ⟨b,c,O⟩/\b<w.heap.size/\w.cell? ⟨b,c+k*2,O⟩=X (I J t.1)/\w.cell? ⟨b,c+k*2+1,O⟩=X (I J t.2):=by
 obtain⟨h1,-,-,h4⟩:=h;have l:=(aB.1 f).1;obtain⟨b,c,e,i,j⟩:=h4 (by omega)
 obtain⟨g,c1⟩:=j k t f;exact⟨b,c,e,i,g,c1⟩
open Words
theorem pI(w:iW)(v:iX):(w.alloc (iC #[v] 30)).cell? ⟨w.heap.size,0,O⟩=X v:=(ai _ _ 0 _ _ _ (aC w _)).trans rfl
variable{rs:List Kw}
theorem wP{r:Kw}(h:rs[i]?=X r):(rs.map aD)[i]?=X (aD r):=by rw[bi,h];rfl
theorem yh(ad:Option Addr)(a cap:Nat)(rs:List Kw)(w:iW)(hl:a<=1048578)(h:dB w ad a rs):
 iK Tryz.prog 93 #[iA #[Y ad a cap]] w λe w'=>e=G (iB (bU (rs.map aD)))/\iL w.heap.size w w':=by
 have H1:=af h.1;have BX:=af (pI w (Y ad a cap));have d:=af (aR w (iC #[Y ad a cap] 30));have H:=af (h.below d.o);have V:w.heap.size<(w.alloc (iC #[Y ad a cap] 30)).heap.size:=by simp
 have HZ:=af V;clear h V;obtain⟨L,hL⟩:=aq (rs.map aD);have HL:=af hL;rw[hL];clear hL;go_enter Tryz.func93,Tryz.ntmps93;go_wp2;generalize w.alloc (iC #[Y ad a cap] 30)=wb at BX d H HZ⊢;obtain⟨z,hz⟩:=aq w.heap.size;rw[hz]at BX HZ⊢;have aj:=af hz;clear hz;go_loopw [3] (λiv W=>∃i:Nat,i<=a/\iv=I J i/\ah (jp L i=iV)/\ah (iL wb.heap.size wb W)) (λiv _=>a-(intOf iv).toNat)
 case atStart=>exact⟨0,aK _,rfl,rfl,az _ _⟩
 case round=>
  obtain⟨i,hi,rfl,HA,B⟩:=hrel;have bx:=(B.o.cell (show z<wb.heap.size from HZ.o)).trans BX.o;by_cases ak:(i:Int)<a
  ·obtain⟨r,hr⟩:∃r,rs[i]?=X r:=⟨_,ay (by have:=H1.o;omega)⟩
   obtain⟨b,an,e,hb⟩:=H.o.adr (by omega)
   subst e;have KR:=af (H.o.below B.o);obtain⟨c0,c1⟩:=KR.o.cell hr;have KI:=KR.o.2.2.1 r (aO hr);have C:L[i]?=X (aD r):=by rw[<-HL.o];exact wP hr
   obtain⟨lf,kv,Q⟩:=r;simp only at c0 c1 KI;simp only[aD]at C;obtain⟨M,N,e,-,kr⟩:=KI;subst e;have c:=af kr;have A:=af C;obtain⟨t,D⟩:=aq Q.length;have l:=af D;rw[D]at c1 c;have ac:t<=maxLen:=c.o.2.1;unfold maxLen at ac;clear kr C D hr hb;have i0:(0:Int)<=i:=by omega
   have BA:=af (aR wr (iC #[iB lf,Y M t N] 189));have X0:ah ((wr.alloc (iC #[iB lf,Y M t N] 189)).cell? ⟨wr.heap.size,0,O⟩=X (iB lf)/\(wr.alloc (iC #[iB lf,Y M t N] 189)).cell? ⟨wr.heap.size,1,O⟩=X (Y M t N)):=⟨(ai _ _ 0 _ _ _ (aC wr _)).trans rfl,(ai _ _ 1 _ _ _ (aC wr _)).trans rfl⟩;by_cases T:t=4
   ·subst T;have n4:((4:Int) !=4)=iF:=by simp
    go_wp2;clear n4;have p:ah (iL wb.heap.size wb (wr.alloc (iC #[iB lf,Y M 4 N] 189))):=B.o.trans (BA.o.mono B.o.size);have KX:=af (KR.o.below BA.o);have R:=af (c.o.below BA.o);have aa:=(p.o.cell (show z<wb.heap.size from HZ.o)).trans BX.o;have x0:=X0.o.1;have x1:=X0.o.2;clear X0 BA KR c c0 c1 bx;obtain⟨y,hy⟩:=aq wr.heap.size;rw[hy]at x0 x1⊢;clear hy;generalize wr.alloc (iC #[iB lf,Y M 4 N] 189)=wx at x0 x1 aa p KX R⊢;go_loopw [5] (λkv W=>∃k:Nat,k<=4/\kv=I J k/\ah (∀j n,j<k->Q[j]?=X n->eQ L i lf n=iV)/\W=wx) (λkv _=>4-(intOf kv).toNat)
    case atStart=>exact⟨0,aK _,rfl,(λj n hj=>by omega),rfl⟩
    case round=>
     obtain⟨k,hk,rfl,v,rfl⟩:=hrel;by_cases T:(k:Int)<4
     ·obtain⟨n,P⟩:∃n,Q[k]?=X n:=⟨_,ay (by have:=l.o;omega)⟩
      obtain⟨kb,ko,e,-,vM⟩:=R.o.at P;subst e;have k0:(0:Int)<=k:=by omega
      have u:ah (eQ L i lf n=iF->bU L=iF):=λhb=>yV A.o (Me (x:=⟨lf,Q⟩) P hb)
      have f:ah (eQ L i lf n=iV->∀j n',j<k+1->Q[j]?=X n'->eQ L i lf n'=iV):=by
       intro hg j n' hj F;by_cases e:j=k
       ·subst e;rw[P]at F;injection F with e2;rw[<-e2];exact hg
       ·exact v.o j n' (by omega) F
      clear P v;cases lf with
      |true=>
       by_cases ag:n<0
       ·have E:=af (u.o (by simp only[eQ,dw];exact bf (by omega)))
        go_wp2;go_ret;exact⟨congrArg (λq=>Ending.returned (iB q)) E.o.symm,d.o.trans (p.o.mono d.o.size)⟩
       ·have E:=af (f.o (by simp only[eQ,dw];exact aW (by omega)))
        go_wp2;go_roundw
        case rel=>exact⟨k+1,by omega,by go_num,E,by trivial⟩
        case measure=>simp[intOf];omega
      |false=>
       by_cases U:n= -1
       ·subst U;have E:=af (f.o (by simp[eQ]))
        go_wp2;go_roundw
        case rel=>exact⟨k+1,by omega,by go_num,E,by trivial⟩
        case measure=>simp[intOf];omega
       ·have am:(n != -1)=iV:=by simpa using U
        have al:IntKind.i64.wrap ((i:Int)-1)=(i:Int)-1:=by rw[cm];omega
        go_wp2_with fail;refine(ie n 0 ((i:Int)-1) _).mono ?_;rintro e w1 ⟨rfl,rfl⟩;by_cases S:0<=n/\n<=(i:Int)-1
        ·rw[aW S];obtain⟨m,rfl⟩:∃m:Nat,n=(m:Int):=⟨n.toNat,by omega⟩
         obtain⟨Z,K⟩:∃Z,rs[m]?=X Z:=⟨_,ay (by have:=H1.o;omega)⟩
         have m0:(0:Int)<=m:=by omega
         have mL:(m:Int)<a:=by omega
         have lc:=(KX.o.cell K).1;have g:i7 L (m:Int)=Z.1:=oJ (y:=aD Z) (by rw[<-HL.o];exact wP K)
         obtain⟨ae,s⟩:=aq Z.1;rw[s]at lc g;clear K s;cases ae with
         |true=>
          have E:=af (f.o (by simp only[eQ,g];simp;omega))
          clear g;go_wp2;go_roundw
          case rel=>exact⟨k+1,by omega,by go_num,E,by trivial⟩
          case measure=>simp[intOf];omega
         |false=>
          have E:=af (u.o (by simp[eQ,g]))
          clear g;go_wp2;go_ret;exact⟨congrArg (λq=>Ending.returned (iB q)) E.o.symm,d.o.trans (p.o.mono d.o.size)⟩
        ·rw[bf S];have E:=af (u.o (by simp only[eQ];simp;omega))
         go_wp2;go_ret;exact⟨congrArg (λq=>Ending.returned (iB q)) E.o.symm,d.o.trans (p.o.mono d.o.size)⟩
     ·have E:ah (jp L (i+1)=iV):=by
       show _=_;rw[su A.o,HA.o,gk,gT,bn,gV];refine⟨aW l.o,λn P=>?_⟩
       obtain⟨j,hj⟩:=io P;exact v.o j n (by have:=(aB.1 hj).1;have:=l.o;simp only at*;omega) hj
      go_wp2;go_roundw
      case rel=>exact⟨i+1,by omega,by go_num,E,p⟩
      case measure=>simp[intOf];omega
   ·have E:ah (bU L=iF):=yV A.o (by
     rw[gT];have:decide ((⟨lf,Q⟩:Kn).fD.length=4)=iF:=bf (by have:=l.o;simp only;omega)
     rw[this,kL])
    have n4:((t:Int) !=4)=iV:=by simp;omega
    have p:ah (iL wb.heap.size wb (wr.alloc (iC #[iB lf,Y M t N] 189))):=B.o.trans (BA.o.mono B.o.size);have x1:=X0.o.2;go_wp2;go_ret;exact⟨congrArg (λq=>Ending.returned (iB q)) E.o.symm,d.o.trans (p.o.mono d.o.size)⟩
  ·have E:ah (bU L=iV):=by
    have ab:L.length=a:=by rw[<-HL.o,bm];exact H1.o
    show _=_;rw[bU,ab,show a=i by omega]
    exact HA.o
   go_wp2;go_ret;exact⟨congrArg (λq=>Ending.returned (iB q)) E.o.symm,d.o.trans (B.o.mono d.o.size)⟩
theorem yz(ad:Option Addr)(a cap:Nat)(rs:List Kw)(r:Int)(w:iW)(t:a<=1048578)(h:dB w ad a rs):
 iK Tryz.prog 94 #[iA #[Y ad a cap],I J r] w λe w'=>e=G (iB (bt (rs.map aD) r))/\iL w.heap.size w w':=by
 have s:=pI w (Y ad a cap);have i:=af (aR w (iC #[Y ad a cap] 30));have H:=af (h.below i.o);have k:=af h.1;clear h;by_cases j:r= -1
 ·subst j;have E:ah (bt (rs.map aD) (-1)=iV):=by show _=_;simp[bt]
  rw[E.o];go_enter Tryz.func94,Tryz.ntmps94;go_wp2;go_ret;exact⟨rfl,i.o⟩
 ·have l:(r== -1)=iF:=by simpa using j
  have n:IntKind.i64.wrap ((a:Int)-1)=(a:Int)-1:=by rw[cm];omega
  have d:(rs.map aD).length=a:=by rw[bm];exact k.o
  by_cases c:0<=r/\r<=(a:Int)-1
  ·obtain⟨m,rfl⟩:∃m:Nat,r=(m:Int):=⟨r.toNat,by omega⟩
   obtain⟨b,p,e,-⟩:=H.o.adr (by omega)
   subst e;obtain⟨y,hy⟩:∃y,rs[m]?=X y:=⟨_,ay (by have:=k.o;omega)⟩
   have lc:=(H.o.cell hy).1;have g:i7 (rs.map aD) (m:Int)=y.1:=oJ (y:=aD y) (wP hy);have E:ah (bt (rs.map aD) (m:Int)= !y.1):=by
    show _=_;rw[bt,g,d,bf j,aW c.1,aW (show(m:Int)<a by omega)]
    simp
   rw[E.o];obtain⟨lf,f⟩:=aq y.1;rw[f]at lc⊢;have u:(0:Int)<=m:=by omega
   have v:(m:Int)<a:=by omega
   have D:=af (aW c);clear hy g f E d c H;go_enter Tryz.func94,Tryz.ntmps94;go_wp2_with fail;refine(ie (m:Int) 0 ((a:Int)-1) _).mono ?_;rintro e q ⟨rfl,rfl⟩;rw[D.o];go_wp2;go_ret;exact⟨rfl,i.o⟩
  ·have E:ah (bt (rs.map aD) r=iF):=by
    show _=_;rw[bt,d,bf j];by_cases h0:0<=r
    ·rw[bf (show¬r<(a:Int)by omega)];simp
    ·rw[bf h0];simp
   rw[E.o];have D:=af (bf c);clear E d c H;go_enter Tryz.func94,Tryz.ntmps94;go_wp2_with fail;refine(ie r 0 ((a:Int)-1) _).mono ?_;rintro e q ⟨rfl,rfl⟩;rw[D.o];go_wp2;go_ret;exact⟨rfl,i.o⟩
theorem dB.fD{W:iW}{a f:Nat}(h:dB W (X ⟨b,a,O⟩) f rs){x:Kn}(g:(rs.map aD)[k]?=X x):
 ∃c d,W.cell? ⟨b,a+k*2,O⟩=X (iB x.leaf)/\W.cell? ⟨b,a+k*2+1,O⟩=X (Y c x.fD.length d)/\fG W c x.fD.length x.fD:=by
 rw[bi]at g;obtain⟨r,i,rfl⟩:=og.1 g;obtain⟨j,c1⟩:=h.cell i;obtain⟨c,d,e,-,l⟩:=h.2.2.1 r (aO i);exact⟨c,d,j,by rw[c1,e];rfl,l⟩
theorem Ij(ad:Option Addr)(a cap:Nat)(rs:List Kw)(r:Int)(s:Nat)(w:iW)(Z:a<=1048578)(h:dB w ad a rs)(k:bU (rs.map aD)=iV)(B:bt (rs.map aD) r=iV)(hs:s<=15):
 iK Tryz.prog 95 #[iA #[Y ad a cap],I J r,I J s] w λe w'=>e=G (I J (ce (rs.map aD) r s))/\iL w.heap.size w w':=by
 have X:=pI w (Y ad a cap);have u:=af (aR w (iC #[Y ad a cap] 30));have H:=af (h.below u.o);have f:(rs.map aD).length=a:=by rw[bm];exact h.1
 clear h;by_cases c:r<0
 ·have E:ah (ce (rs.map aD) r s=0):=ak c;rw[E.o];clear E k B f;go_enter Tryz.func95,Tryz.ntmps95;go_wp2;go_ret;exact⟨rfl,u.o⟩
 ·obtain⟨m,rfl⟩:∃m:Nat,r=(m:Int):=⟨r.toNat,by omega⟩
  obtain⟨x,i,M⟩:=lu B (by omega)
  have S:m<a:=by have:=(aB.1 i).1;rw[f]at this;simpa using this
  obtain⟨b,U,e,-⟩:=H.o.adr (by omega)
  subst e;obtain⟨q,A⟩:=aq (s/4);obtain⟨t,F⟩:=aq (s % 4);have D:q<4:=by omega
  have K:t<4:=by omega
  have tq:(s:Int).tdiv 4=(q:Int):=by rw[AX (by omega)];omega
  have tt:(s:Int).tmod 4=(t:Int):=by rw[zw (by omega)];omega
  have V:(s:Int)/4=(q:Int):=by omega
  have W:(s:Int) % 4=(t:Int):=by omega
  have P:=mf (lN k i);obtain⟨n,z,g⟩:=lM k i M D;have d:dI (rs.map aD) (m:Int) q=n:=hO i z;obtain⟨ka,kc,-,c1,C⟩:=H.o.fD i;rw[P]at c1 C;simp only[bk]at c1;obtain⟨kb,ko,e,-,tz⟩:=C.at z;subst e;have m0:(0:Int)<=m:=by omega
  have mL:(m:Int)<a:=by omega
  have q0:(0:Int)<=q:=by omega
  have q4:(q:Int)<4:=by omega
  rcases g with rfl|⟨T,R,y,hy,N,p⟩
  ·have E:ah (ce (rs.map aD) (m:Int) s=0):=by show _=_;rw[ce,aj c,A,d,ak (by omega)]
   rw[E.o];clear E k B f A F d z i C c H P;go_enter Tryz.func95,Tryz.ntmps95;go_wp2;go_ret;exact⟨rfl,u.o⟩
  ·obtain⟨j,rfl⟩:∃j:Nat,n=(j:Int):=⟨n.toNat,by omega⟩
   obtain⟨v,L,-⟩:=vN k hy N K;have l:dI (rs.map aD) (j:Int) t=v:=hO hy L;obtain⟨la,lc,-,Q,O⟩:=H.o.fD hy;rw[p]at Q O;simp only[bk]at Q;obtain⟨lb,lo,e,-,uB⟩:=O.at L;subst e;have j0:(0:Int)<=j:=by omega
   have jL:(j:Int)<a:=by simp only[bk]at R;omega
   have t0:(0:Int)<=t:=by omega
   have t4:(t:Int)<4:=by omega
   have E:ah (ce (rs.map aD) (m:Int) s=v):=by show _=_;rw[ce,aj c,A,F,d,aj (by omega),l]
   rw[E.o];clear E k B f A F d l z i C O c H P hy L p R T;go_enter Tryz.func95,Tryz.ntmps95;go_wp2;go_ret;exact⟨rfl,u.o⟩
theorem Ce(ad:Option Addr)(a cap:Nat)(rs:List Kw)(r s:Int)(w:iW)(y:a<=1048578)(h:dB w ad a rs):
 iK Tryz.prog 57 #[iA #[Y ad a cap],I J r,I J s] w λe w'=>e=G (I J (gj (rs.map aD) r s))/\iL w.heap.size w w':=by
 have k:=af (pI w (Y ad a cap));have f:=af (aR w (iC #[Y ad a cap] 30));have H:=af (h.below f.o);have l:=af (show w.heap.size<(w.alloc (iC #[Y ad a cap] 30)).heap.size by simp)
 clear h;have g:=k.o;go_enter Tryz.func57,Tryz.ntmps57;go_wp2_with fail;generalize w.alloc (iC #[Y ad a cap] 30)=wb at k g f H l⊢;obtain⟨z,N⟩:=aq w.heap.size;rw[N]at k g l⊢;refine(yh ad a cap rs wb y H.o).mono ?_;rintro e A ⟨rfl,v⟩;have j:=af ((v.cell (show z<wb.heap.size from l.o)).trans k.o);have i:=af v;clear g v;have g:=j.o;have u:ah (iL w.heap.size w A):=f.o.trans (i.o.mono f.o.size);cases m:bU (rs.map aD)with
 |false=>
  have E:ah (gj (rs.map aD) r s=0):=aj (by rw[jX,m];simp)
  clear m;go_wp2;go_ret;exact⟨congrArg (λq=>Ending.returned (I J q)) E.o.symm,u.o⟩
 |true=>
  have C:=af m;go_wp2_with fail;refine(yz ad a cap rs r A y (H.o.below i.o)).mono ?_;rintro e O ⟨rfl,x⟩;have p:=af ((x.cell (show z<A.heap.size from fE l.o i.o.size)).trans j.o);have B:=af (i.o.trans (x.mono i.o.size));clear g x m;have g:=p.o;have c:ah (iL w.heap.size w O):=f.o.trans (B.o.mono f.o.size);cases n:bt (rs.map aD) r with
  |false=>
   have E:ah (gj (rs.map aD) r s=0):=aj (by rw[jX,n];simp)
   clear n;go_wp2;go_ret;exact⟨congrArg (λq=>Ending.returned (I J q)) E.o.symm,c.o⟩
  |true=>
   have D:=af n;clear n;go_wp2_with fail;refine(ie s 0 15 _).mono ?_;rintro e P ⟨rfl,rfl⟩;by_cases b:0<=s/\s<=15
   ·have d:jX (rs.map aD) r s=iV:=by rw[jX,C.o,D.o,aW b.1,aW b.2];rfl
    have E:ah (gj (rs.map aD) r s=ce (rs.map aD) r s.toNat):=ak d;rw[aW b];obtain⟨t,rfl⟩:∃t:Nat,s=(t:Int):=⟨s.toNat,by omega⟩
    simp only[bk]at E;have M:t<=15:=by omega
    clear d b;go_wp2_with fail;refine(Ij ad a cap rs r t _ y (H.o.below B.o) C.o D.o M).mono ?_;rintro e Q ⟨rfl,F⟩;have K:=af (c.o.trans (F.mono c.o.size));clear F;go_wp2;go_ret;exact⟨congrArg (λq=>Ending.returned (I J q)) E.o.symm,K.o⟩
   ·have E:ah (gj (rs.map aD) r s=0):=aj (by
     rw[jX];simp only[bn,bH];rintro⟨-,h1,L⟩;exact b ⟨h1,L⟩)
    rw[bf b];clear b;go_wp2;go_ret;exact⟨congrArg (λq=>Ending.returned (I J q)) E.o.symm,c.o⟩
def ny(w:iW)(l:List Int)(e:Ending)(w':iW):Prop:=∃v,e=G v/\w'.ownsRow w.heap.size 3 1 v l.length (ax l)/\iL w.heap.size w w'
theorem jK(l:List Kn)(r:Int):(bu l r).length=16:=by simp[bu]
theorem Yl(l:List Kn)(r:Int)(a:k<16):(bu l r).take (k+1)=(bu l r).take k++[gj l r k]:=by
 rw[eG,bu,bi,xZ a];rfl
theorem x8(ad:Option Addr)(a cap:Nat)(rs:List Kw)(r:Int)(w:iW)(hl:a<=1048578)(h:dB w ad a rs):
 iK Tryz.prog 30 #[iA #[Y ad a cap],I J r] w (ny w (bu (rs.map aD) r)):=by
 obtain⟨i0,hi,m,n,p⟩:=bV lp;have U:=af hi;have V:=af m;have Z:=af n;have Y2:=af p;clear hi m n p;have t:=af (pI w (Y ad a cap));have f:=af (aR w (iC #[Y ad a cap] 30));have H:=af (h.below f.o);have A:=af (show w.heap.size<(w.alloc (iC #[Y ad a cap] 30)).heap.size by simp)
 have x:=af (show(w.alloc (iC #[Y ad a cap] 30)).heap.size=w.heap.size+1 by simp)
 clear h;obtain⟨M,C⟩:=aq (bu (rs.map aD) r);have v:=af C;rw[C];clear C;go_enter Tryz.func30,Tryz.ntmps30;go_wp2_with fail;generalize w.alloc (iC #[Y ad a cap] 30)=wb at t f H A x⊢;have K:ah ((wb.alloc (iC #[] 3)).ownsRow wb.heap.size 3 1 (Y (X ⟨wb.heap.size,0,O⟩) 0 0) ([]:List Int).length (ax [])):=m9 wb #[] 0 (am _) (by unfold maxLen;omega) (by simp)
 have BA:=af (aR wb (iC #[] 3));generalize wb.alloc (iC #[] 3)=wa at K BA⊢;obtain⟨z,F⟩:=aq w.heap.size;rw[F]at t A x⊢;have T:=af F;clear F;go_loopw [5,6] (λov kv W=>∃(k:Nat) (l:List Int),k<=16/\kv=I J k/\l.length<=k/\ah (l=M.take k)/\ah (W.ownsRow wb.heap.size 3 1 ov l.length (ax l)/\iL wb.heap.size wb W)) (λ_ kv _=>16-(intOf kv).toNat)
 case atStart=>exact⟨0,[],aK _,rfl,aK _,by show _=_;simp,by rw[<-x.o];exact K.o,BA.o⟩
 case round=>
  obtain⟨k,l,hk,rfl,aa,u,b⟩:=hrel;have bx:=(b.o.2.cell (show z<wb.heap.size from A.o)).trans t.o;by_cases ab:(k:Int)<16
  ·have hw:=b.o.2.size;go_wp2_with fail;refine(Ce ad a cap rs r (k:Int) _ hl (H.o.below b.o.2)).mono ?_;rintro e Q ⟨rfl,B⟩;have c:ah (l++[gj (rs.map aD) r (k:Int)]=M.take (k+1)):=by
    show _=_;rw[<-v.o,Yl _ _ (by omega),v.o,u.o]
   generalize gj (rs.map aD) r (k:Int)=y at c⊢;have N:=af (bE b.o.1 B);have s:=af (b.o.2.trans (B.mono hw));have E:=s.o.size;clear B bx b u;have g:=af (aR Q (iC #[I J y] 3));have d:=af (bE N.o g.o);go_wp2_with (at_builtin;refine cZ _ rfl _ _ 36 rfl wb.heap.size 3 i0 (I J 0) 1 8 Tryz.underlying36 U.o V.o Z.o Y2.o rfl (by decide) _ _ _ rfl d.o ⟨Q.heap.size,0,O⟩ 1 1 [I J y] rfl rfl (lz _ _ _) (qJ _) ?c1 ?c2 ?c3 ?_)
   case c1=>unfold maxLen;omega
   case c2=>omega
   case c3=>have:=g.o.size;omega
   intro u' G D P _;rw[qB]at D;have j:G.ownsRow wb.heap.size 3 1 u' (l++[y]).length (ax (l++[y])):=by rw[aJ];exact D
   have L:ah (G.ownsRow wb.heap.size 3 1 u' (l++[y]).length (ax (l++[y]))/\iL wb.heap.size wb G):=⟨j,(s.o.trans (g.o.mono E)).grown P (by have:=g.o.size;omega) (λq hq=>(d.o.lt q hq).1)⟩
   have i:(l++[y]).length<=k+1:=by simp;omega
   generalize l++[y]=l2 at c L i;clear D j P d N g s;go_wp2;go_roundw
   case rel=>exact⟨k+1,l2,by omega,by go_num,i,c,L⟩
   case measure=>simp[intOf];omega
  ·have R:ah (l=M):=by
    show _=_;rw[u.o,show k=M.length by rw[<-v.o,jK];omega,nF]
   have S:ah (iL w.heap.size w wr):=f.o.trans (b.o.2.mono f.o.size);go_wp2;go_ret;refine⟨_,rfl,?_,S.o⟩;rw[<-R.o];exact lJ b.o.1 f.o.size
end Go.Proofs.YtgigcooffjjbgaaGreatDoor
