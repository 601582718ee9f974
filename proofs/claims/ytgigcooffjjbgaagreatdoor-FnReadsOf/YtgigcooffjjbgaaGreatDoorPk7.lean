/-
  Cells; Same; CopyM; ISlices; Shelf; IClone; ICopy; IAt; ISmall; INext; IBlk; IOk; IUse; After; IProg; AfterW; IWipe; StRd; CeVl; VlRow; SArOk; SGet; SAll; SRoots; VlApp; StApp
-/
import Derived.Test.YtgigcooffjjbgaaGreatDoorPk6
import Derived.Lib.SliceRun
import Derived.Shelf.Small.Bits
import Derived.Shelf.Small.Wraps
import Derived.Shelf.Strconv.Itoa0
import Derived.Shelf.LaysM
import Derived.Shelf.Strconv.Clone
import Derived.Shelf.Sort.Plain
import Derived.Shelf.Strings.Prefix
import Derived.Shelf.Slices.Turned
import Derived.Ground.Names2Prog
import Derived.Shelf.Slices.CompactI
import Derived.Shelf.Slices.SearchI
import Derived.Shelf.Slices.Cells
import Derived.Shelf.Slices.In.SortNone
import Derived.Test.YtgigcooffjjbgaaGreatDoorProg
open Go.Value renaming int→I,slice→Y,string→iT,bool→iB,pointer→iP,agg→iA,tuple→iU
open Go.IntKind renaming i64→J
open Option renaming none→O,some→X
open Go.Ending renaming returned→G
open Go.Obj renaming cells→iC
open Bool renaming true→iV,false→iF
open Go renaming World→iW,Value→iX,Calls→iK
open Go.RowKit renaming Below→iL
set_option maxHeartbeats 2000000
set_option maxRecDepth 100000
namespace Go.Proofs.YtgigcooffjjbgaaGreatDoor
open Go.RowKit
theorem Cg(w:iW)(cs:Array iX)(t:TypeId)(g:Nat)(a:w.heap.size=g):∀(j:Nat) (u:iX),cs.toList[j]?=X u->(w.alloc (iC cs t)).cell? ((⟨g,0,O⟩:Addr).add j)=X u:=by
 intro j u b;subst a;rw[fh,aj _ _ j _ _ _ (aB w (iC cs t))]
 simpa using b
theorem YE(x:Bool)(y:Int)(a:Option Addr)(n c:Nat):∀u∈ [iB x,I J y,Y a n c],u.oneCell'=iV:=by
 intro u b;simp at b;rcases b with h|h|h<;>subst h<;>rfl
end Go.Proofs.YtgigcooffjjbgaaGreatDoor
namespace Go.Proofs
open Go.Shelf
def Tryz.lays103_ren : Go.Shelf.Ren := ⟨fun | 103 => 154 | 210 => 191 | 206 => 224 | n => n, fun | 9 => 9 | 4 => 4 | 24 => 38 | 3 => 3 | n => n, fun | n => n⟩
theorem Tryz.lays103 : Go.Proofs.Lays.n103 Tryz.prog Tryz.lays103_ren := {
  mixed := by kernel_rfl
  f103 := Tryz.func154.trans (congrArg some (by kernel_rfl))
  f206 := Tryz.func224.trans (congrArg some (by kernel_rfl))
  f210 := Tryz.func191.trans (congrArg some (by kernel_rfl))
  t3 := Tryz.underlying3
  a3 := Tryz.isAgg3
  z3 := Tryz.sizeOf3
  v3 := Tryz.zeroValue3
  t4 := Tryz.underlying4
  a4 := Tryz.isAgg4
  z4 := Tryz.sizeOf4
  v4 := Tryz.zeroValue4
  t9 := Tryz.underlying9
  a9 := Tryz.isAgg9
  z9 := Tryz.sizeOf9
  v9 := Tryz.zeroValue9
  t24 := Tryz.underlying38
  a24 := Tryz.isAgg38
  z24 := Tryz.sizeOf38
  v24 := Tryz.zeroValue38 }
open Go.RowKit in
theorem Tryz.strings_CutPrefix (s p : ByteArray) (w : World) :
    Calls Tryz.prog 154 #[.string s, .string p] w fun e w' => e = .returned (.tuple #[.string ⟨(Lib.trimPrefix s.data.toList p.data.toList).toArray⟩, .bool (Lib.hasPrefix s.data.toList p.data.toList)]) ∧ w' = w := Any.strings_CutPrefix Tryz.lays103 s p w
def Tryz.lays215_ren : Go.Shelf.Ren := ⟨fun | 215 => 110 | n => n, fun | 3 => 3 | 4 => 4 | n => n, fun | n => n⟩
def Tryz.lays122_ren : Go.Shelf.Ren := ⟨fun | 122 => 64 | 215 => 110 | n => n, fun | 3 => 3 | 4 => 4 | n => n, fun | n => n⟩
theorem Tryz.lays122 : Go.Proofs.Lays.n122 Tryz.prog Tryz.lays122_ren := {
  mixed := by kernel_rfl
  f122 := Tryz.func64.trans (congrArg some (by kernel_rfl))
  f215 := Tryz.func110.trans (congrArg some (by kernel_rfl))
  t3 := Tryz.underlying3
  a3 := Tryz.isAgg3
  z3 := Tryz.sizeOf3
  v3 := Tryz.zeroValue3
  t4 := Tryz.underlying4
  a4 := Tryz.isAgg4
  z4 := Tryz.sizeOf4
  v4 := Tryz.zeroValue4 }
open Go.RowKit in
theorem Tryz.cmp_Compare_int (x y : Int) (w : World) :
    Calls Tryz.prog 64 #[.int .i64 x, .int .i64 y] w fun e w' => e = .returned (.int .i64 (Lib.compareInt x y)) ∧ w' = w := Any.cmp_Compare_int Tryz.lays122 x y w
def Tryz.laysM316_ren : Go.Shelf.Ren := ⟨fun | 316 => 187 | n => n, fun | 9 => 9 | 3 => 3 | 4 => 4 | 37 => 22 | 0 => 0 | 127 => 296 | 5 => 5 | n => n, fun | n => n⟩
theorem Tryz.laysM316 : Go.Proofs.LaysM.n316 Tryz.prog Tryz.laysM316_ren := {
  mixed := by kernel_rfl
  f316 := Tryz.func187.trans (congrArg some (by kernel_rfl))
  t0 := Tryz.underlying0
  a0 := Tryz.isAgg0
  z0 := Tryz.sizeOf0
  v0 := Tryz.zeroValue0
  t3 := Tryz.underlying3
  a3 := Tryz.isAgg3
  z3 := Tryz.sizeOf3
  v3 := Tryz.zeroValue3
  t4 := Tryz.underlying4
  a4 := Tryz.isAgg4
  z4 := Tryz.sizeOf4
  v4 := Tryz.zeroValue4
  t9 := Tryz.underlying9
  a9 := Tryz.isAgg9
  z9 := Tryz.sizeOf9
  v9 := Tryz.zeroValue9
  t37 := Tryz.underlying22
  a37 := Tryz.isAgg22
  z37 := Tryz.sizeOf22
  v37 := Tryz.zeroValue22
  t127 := Tryz.underlying296
  a127 := Tryz.isAgg296
  z127 := Tryz.sizeOf296
  v127 := Tryz.zeroValue296
  t5 := Tryz.underlying5
  a5 := Tryz.isAgg5
  z5 := Tryz.sizeOf5
  v5 := Tryz.zeroValue5
  i0 := by kernel_rfl
  i3 := by kernel_rfl
  i4 := by kernel_rfl
  i5 := by kernel_rfl
  i9 := by kernel_rfl
  i37 := by kernel_rfl
  i127 := by kernel_rfl }
open Go.RowKit in
theorem Tryz.stringslite_Clone (s : ByteArray) (w : World) (hlim : s.size ≤ 281474976710656) :
    Calls Tryz.prog 187 #[.string s] w fun e w' => e = .returned (.string s) ∧ Below w.heap.size w w' := Any.stringslite_Clone Tryz.laysM316 s w hlim
end Go.Proofs
namespace Go.Proofs.YtgigcooffjjbgaaGreatDoor
open Go.RowKit
theorem ZC(s:ByteArray)(w:iW)(hs:s.size<=1048576):
 iK Tryz.prog 150 #[iT s] w λe w'=>e=G (iT s)/\iL w.heap.size w w':=by
 go_enter Tryz.func150,Tryz.ntmps150;go_wp2_with fail;refine(Tryz.stringslite_Clone s _ (by omega)).mono ?_
 rintro e w' ⟨rfl,a⟩;go_wp2;go_ret;exact⟨rfl,a⟩
theorem ZN(g n cap k:Nat)(w:iW)(_hn:n<=1048576)(c:k<n):
 iK Tryz.prog 148 #[iA #[Y (X ⟨g,0,O⟩) n cap],I J k] w λe w'=>e=G (iP (X ⟨g,k*3,O⟩))/\iL w.heap.size w w':=by
 have a:=af ((ax w.heap.size w).alloc (am _) (iC #[Y (X ⟨g,0,O⟩) n cap] 26));have h1:(0:Int)<=k:=by omega
 have b:(k:Int)<n:=by omega
 go_enter Tryz.func148,Tryz.ntmps148;go_wp2;go_ret;exact⟨rfl,a.o⟩
theorem aaX(ad:Option Addr)(n cap:Nat)(b:Int)(w:iW)(_hn:n<=1048576)(c:¬(0<=b/\b<=(n:Int)-1)):
 iK Tryz.prog 148 #[iA #[Y ad n cap],I J b] w λe w'=>e=G (iP O)/\iL w.heap.size w w':=by
 have a:=af ((ax w.heap.size w).alloc (am _) (iC #[Y ad n cap] 26));by_cases h0:b<0
 ·go_enter Tryz.func148,Tryz.ntmps148;go_wp2;go_ret;exact⟨rfl,a.o⟩
 ·have h1:(n:Int)<=b:=by omega
  clear c;go_enter Tryz.func148,Tryz.ntmps148;go_wp2;go_ret;exact⟨rfl,a.o⟩
theorem aaZ(g o gl lo n cap k:Nat)(w:iW)(_hn:n<=1048576)(c:k<n)(b:w.cell? ⟨g,o+2,O⟩=X (Y (X ⟨gl,lo,O⟩) n cap)):
 iK Tryz.prog 149 #[iP (X ⟨g,o,O⟩),I J k] w λe w'=>e=G (iP (X ⟨gl,lo+k*2,O⟩))/\w'=w:=by
 have h1:(0:Int)<=k:=by omega
 have a:(k:Int)<n:=by omega
 go_enter Tryz.func149,Tryz.ntmps149;go_wp2;go_ret;exact⟨rfl,rfl⟩
theorem VD(g o n cap:Nat)(ad:Option Addr)(b:Int)(w:iW)(_hn:n<=1048576)(a:¬(0<=b/\b<=(n:Int)-1))(c:w.cell? ⟨g,o+2,O⟩=X (Y ad n cap)):
 iK Tryz.prog 149 #[iP (X ⟨g,o,O⟩),I J b] w λe w'=>e=G (iP O)/\w'=w:=by
 by_cases h0:b<0
 ·go_enter Tryz.func149,Tryz.ntmps149;go_wp2;go_ret;exact⟨rfl,rfl⟩
 ·have h1:(n:Int)<=b:=by omega
  clear a;go_enter Tryz.func149,Tryz.ntmps149;go_wp2;go_ret;exact⟨rfl,rfl⟩
def fu(w:iW)(v:iX)(bs:List Bk):Prop:=∃rs:List Rw,rs.map aw=bs/\eB w v rs
def dg(bs:List Bk):Prop:=bs.length<=1048576/\∀r∈bs,r.2.2.length<=1048576/\∀t∈r.2.2,t.2.size<=1048576
variable{a:Act}{K:Act -> World -> Prop}{ops:Array Oper}{v:Int × Int}{vs:List (Int × Int)}{B lo k i b:Nat}{P:Program}{E:Prop}
variable{bs:List Bk}
theorem fu.below{w w':iW}{v:iX}(h:fu w v bs)(a:iL w.heap.size w w'):fu w' v bs:=by
 obtain⟨rs,e,h⟩:=h;exact⟨rs,e,h.below a⟩
theorem fu.form{w:iW}{v:iX}(h:fu w v bs):∃ad cap,v=Y ad bs.length cap:=by
 obtain⟨rs,rfl,a,vc,e,-⟩:=h;exact⟨a,vc,by rw[e,bm]⟩
theorem dp.rdb{w:iW}{v:iX}(h:dp w B v bs):fu w v bs:=by
 obtain⟨a,e,h⟩:=h;exact⟨a,e,h.rd⟩
theorem cE.rdb{w:iW}{hi:Nat}{v:iX}(h:cE lo hi v bs w):fu w v bs:=by
 obtain⟨a,e,h⟩:=h;exact⟨a,e,h.rd⟩
theorem fu.lens{w:iW}{v:iX}(h:fu w v bs)(hs:dg bs):∃rs:List Rw,rs.map aw=bs/\eB w v rs/\rs.length<=1048576/\(∀r∈rs,r.2.2.2.length<=1048576)/\mW rs:=by
 obtain⟨rs,rfl,h⟩:=h;refine⟨rs,rfl,h,by have:=hs.1;rwa [bm]at this,λr a=>(hs.2 _ (oP (f:=aw) a)).1,λr a t b=>(hs.2 _ (oP (f:=aw) a)).2 t b⟩
theorem dg.modify(h:dg bs)(k:Nat)(f:Bk->Bk)(a:∀r∈bs,(f r).2.2.length<=1048576/\∀t∈(f r).2.2,t.2.size<=1048576):dg (bs.modify k f):=by
 refine⟨by rw[wD];exact h.1,λr b=>?_⟩
 obtain⟨i,hi,rfl⟩:=pw b;rw[wD]at hi;rw[List.getElem_modify];split
 ·exact a _ (rl _)
 ·exact h.2 _ (rl _)
theorem dg.prog(h:dg bs)(b leaf:Int)(t:ByteArray):dg (gI bs b leaf t).1:=by
 unfold gI;split
 ·rename_i h1
  rw[bu]at h1;have e:t.size<=120:=by
   have a:=h1.2;unfold jb at a;split at a
   ·cases a
   ·exact(ri a).2.2.2.2.2
  refine h.modify _ _ (λr d=>⟨by rw[gK];exact(h.2 r d).1,λu c=>?_⟩)
  rcases nG c with c|rfl
  ·exact(h.2 r d).2 u c
  ·simp only;omega
 ·exact h
theorem dg.wipe(h:dg bs)(b:Int):dg (gL bs b).1:=by
 unfold gL;split
 ·refine h.modify _ _ (λr c=>⟨by simp[eZ],λu a=>?_⟩)
  simp only[eZ,be,eI,eX]at a;rcases a with rfl|rfl|rfl|rfl<;>exact aJ _
 ·exact h
theorem dg.step(h:dg bs)(s:aM):dg (cV bs s).1:=by
 unfold cV;split
 ·exact h.prog _ _ _
 ·split
  ·exact h.wipe _
  ·exact h
theorem dg.all(h:dg bs)(l:List aM):dg (de bs l).1:=by
 induction l generalizing bs with
 |nil=>exact h
 |cons s l a=>
  simp only[de];split
  ·exact a (h.step s)
  ·exact h
theorem zH(v:iX)(bs:List Bk)(w:iW)(hs:dg bs)(a:fu w v bs):
 iK Tryz.prog 138 #[iA #[v]] w λe w'=>∃u,e=G (iA #[u])/\dp w' w.heap.size u bs/\iL w.heap.size w w':=by
 obtain⟨rs,rfl,h,l,b,c⟩:=a.lens hs;exact Di v rs w l b h
theorem TV(v:iX)(bs:List Bk)(b leaf:Int)(t:ByteArray)(w:iW)(hs:dg bs)(a:fu w v bs):
 iK Tryz.prog 215 #[iA #[v],I J b,I J leaf,iT t] w λe w'=>∃u,e=G (iU #[iA #[u],iB (gI bs b leaf t).2])/\dp w' w.heap.size u (gI bs b leaf t).1/\iL w.heap.size w w':=by
 obtain⟨rs,rfl,h,l,c,d⟩:=a.lens hs;exact aaU v rs b leaf t w l c h
theorem Rx(v:iX)(bs:List Bk)(b:Int)(w:iW)(hs:dg bs)(a:fu w v bs):
 iK Tryz.prog 216 #[iA #[v],I J b] w λe w'=>∃u,e=G (iU #[iA #[u],iB (gL bs b).2])/\dp w' w.heap.size u (gL bs b).1/\iL w.heap.size w w':=by
 obtain⟨rs,rfl,h,l,c,d⟩:=a.lens hs;exact Uu v rs b w l c h
def nV(t:Int×Int):List iX:=[I J t.1,I J t.2]
def ct(l:List (Int×Int)):List iX:=l.flatMap nV
theorem Jy(l:List (Int×Int)):(ct l).length=l.length*2:=by
 induction l with
 |nil=>rfl
 |cons t l a=>simp[ct,nV]at a⊢;omega
theorem Mw(a b:List (Int×Int)):ct (a++b)=ct a++ct b:=by simp[ct]
theorem AR(t:Int×Int)(l:List (Int×Int)):ct (t::l)=nV t++ct l:=by simp[ct]
theorem uy(l:List (Int×Int))(k:Nat)(t:Int×Int)(h:l[k]?=X t)(j:Nat)(v:iX)(b:(nV t)[j]?=X v):(ct l)[k*2+j]?=X v:=by
 have c:j<2:=(aC.1 b).1
 induction l generalizing k with
 |nil=>simp at h
 |cons a l d=>
  rw[AR];cases k with
  |zero=>
   simp at h;subst h;rw[ip (by show _<2;omega),nj,eC]
   exact b
  |succ k=>
   rw[cu (by show 2<=_;omega),show(k+1)*2+j-(nV a).length=k*2+j by show _-2=_;omega]
   exact d k (by simpa using h)
theorem Qp(l:List (Int×Int)):∀v∈ct l,v.oneCell'=iV:=by
 intro v b;obtain⟨t,-,a⟩:=mi.1 b;simp[nV]at a;rcases a with h|h<;>subst h<;>rfl
theorem zr:(Tryz.prog.info? 66).map (λi=>(i.zero,i.size,i.bytes))=X (X (iA #[I J 0,I J 0]),2,16):=by kernel_rfl
theorem F9{l:List (Int×Int)}(h:l[k]?=X v)(r:Int):(ct l).set (k*2+1) (I J r)=ct (l.set k (v.1,r)):=by
 induction l generalizing k with
 |nil=>simp at h
 |cons a l b=>
  cases k with
  |zero=>
   simp at h;subst h;rfl
  |succ k=>
   have e:(k+1)*2+1=(k*2+1)+2:=by omega
   rw[e,ce,AR,AR,<-b (by simpa using h)]
   rfl
def fN(w:iW)(a:Option Addr)(c:Nat)(ls:List (Int×Int)):Prop:=
 ls.length=c/\c<=maxLen/\(∀t∈ls,True)/\(0<c->∃b d,a=X ⟨b,d,O⟩/\b<w.heap.size/\∀i t,ls[i]?=X t->w.cell? ⟨b,d+i*2,O⟩=X (I J t.1)/\w.cell? ⟨b,d+i*2+1,O⟩=X (I J t.2))
theorem fN.below{w w':iW}{a:Option Addr}{c:Nat}{ls:List (Int×Int)}(h:fN w a c ls)(d:iL w.heap.size w w'):fN w' a c ls:=by
 obtain⟨h1,k,l,h4⟩:=h;refine⟨h1,k,l,λh0=>?_⟩
 obtain⟨b,f,e,g,m⟩:=h4 h0;have hs:=d.size;refine⟨b,f,e,by omega,λi t n=>?_⟩
 obtain⟨j,c1⟩:=m i t n;exact⟨(d.cell (show b<w.heap.size from g)).trans j,(d.cell (show b<w.heap.size from g)).trans c1⟩
theorem fN.at{w:iW}{a:Option Addr}{d:Nat}{ls:List (Int×Int)}(h:fN w a d ls){t:Int×Int}(f:ls[k]?=X t):
 ∃b c,a=X ⟨b,c,O⟩/\b<w.heap.size/\w.cell? ⟨b,c+k*2,O⟩=X (I J t.1)/\w.cell? ⟨b,c+k*2+1,O⟩=X (I J t.2):=by
 obtain⟨h1,-,-,h4⟩:=h;have l:=(aC.1 f).1;obtain⟨b,c,e,i,j⟩:=h4 (by omega)
 obtain⟨g,c1⟩:=j k t f;exact⟨b,c,e,i,g,c1⟩
open Words
theorem pA(w:iW)(v:iX):(w.alloc (iC #[v] 30)).cell? ⟨w.heap.size,0,O⟩=X v:=(aj _ _ 0 _ _ _ (aB w _)).trans rfl
variable{rs:List Kw}
theorem yM{r:Kw}(h:rs[i]?=X r):(rs.map aE)[i]?=X (aE r):=by rw[bh,h];rfl
theorem zG(ad:Option Addr)(a cap:Nat)(rs:List Kw)(w:iW)(hl:a<=1048578)(h:dO w ad a rs):
 iK Tryz.prog 93 #[iA #[Y ad a cap]] w λe w'=>e=G (iB (cj (rs.map aE)))/\iL w.heap.size w w':=by
 have H1:=af h.1;have Z:=af (pA w (Y ad a cap));have d:=af (aT w (iC #[Y ad a cap] 30));have H:=af (h.below d.o);have U:w.heap.size<(w.alloc (iC #[Y ad a cap] 30)).heap.size:=by simp
 have HZ:=af U;clear h U;obtain⟨L,hL⟩:=aq (rs.map aE);have HL:=af hL;rw[hL];clear hL;go_enter Tryz.func93,Tryz.ntmps93;go_wp2;generalize w.alloc (iC #[Y ad a cap] 30)=wb at Z d H HZ⊢;obtain⟨z,hz⟩:=aq w.heap.size;rw[hz]at Z HZ⊢;have ai:=af hz;clear hz;go_loopw [3] (λiv W=>∃i:Nat,i<=a/\iv=I J i/\ah (ji L i=iV)/\ah (iL wb.heap.size wb W)) (λiv _=>a-(intOf iv).toNat)
 case atStart=>exact⟨0,aJ _,rfl,rfl,ax _ _⟩
 case round=>
  obtain⟨i,hi,rfl,HA,A⟩:=hrel;have bx:=(A.o.cell (show z<wb.heap.size from HZ.o)).trans Z.o;by_cases ak:(i:Int)<a
  ·obtain⟨r,hr⟩:∃r,rs[i]?=X r:=⟨_,ay (by have:=H1.o;omega)⟩
   obtain⟨b,an,e,hb⟩:=H.o.adr (by omega)
   subst e;have KR:=af (H.o.below A.o);obtain⟨c0,c1⟩:=KR.o.cell hr;have KI:=KR.o.2.2.1 r (aL hr);have B:L[i]?=X (aE r):=by rw[<-HL.o];exact yM hr
   obtain⟨lf,kv,P⟩:=r;simp only at c0 c1 KI;simp only[aE]at B;obtain⟨K,M,e,-,kr⟩:=KI;subst e;have c:=af kr;have v:=af B;obtain⟨kl,C⟩:=aq P.length;have l:=af C;rw[C]at c1 c;have ac:kl<=maxLen:=c.o.2.1;unfold maxLen at ac;clear kr B C hr hb;have i0:(0:Int)<=i:=by omega
   have BA:=af (aT wr (iC #[iB lf,Y K kl M] 189));have X0:ah ((wr.alloc (iC #[iB lf,Y K kl M] 189)).cell? ⟨wr.heap.size,0,O⟩=X (iB lf)/\(wr.alloc (iC #[iB lf,Y K kl M] 189)).cell? ⟨wr.heap.size,1,O⟩=X (Y K kl M)):=⟨(aj _ _ 0 _ _ _ (aB wr _)).trans rfl,(aj _ _ 1 _ _ _ (aB wr _)).trans rfl⟩;by_cases S:kl=4
   ·subst S;have n4:((4:Int) !=4)=iF:=by simp
    go_wp2;clear n4;have p:ah (iL wb.heap.size wb (wr.alloc (iC #[iB lf,Y K 4 M] 189))):=A.o.trans (BA.o.mono A.o.size);have KX:=af (KR.o.below BA.o);have Q:=af (c.o.below BA.o);have aa:=(p.o.cell (show z<wb.heap.size from HZ.o)).trans Z.o;have x0:=X0.o.1;have x1:=X0.o.2;clear X0 BA KR c c0 c1 bx;obtain⟨y,hy⟩:=aq wr.heap.size;rw[hy]at x0 x1⊢;clear hy;generalize wr.alloc (iC #[iB lf,Y K 4 M] 189)=wx at x0 x1 aa p KX Q⊢;go_loopw [5] (λkv W=>∃k:Nat,k<=4/\kv=I J k/\ah (∀j n,j<k->P[j]?=X n->fb L i lf n=iV)/\W=wx) (λkv _=>4-(intOf kv).toNat)
    case atStart=>exact⟨0,aJ _,rfl,(λj n hj=>by omega),rfl⟩
    case round=>
     obtain⟨k,hk,rfl,u,rfl⟩:=hrel;by_cases S:(k:Int)<4
     ·obtain⟨n,N⟩:∃n,P[k]?=X n:=⟨_,ay (by have:=l.o;omega)⟩
      obtain⟨kb,ko,e,-,xe⟩:=Q.o.at N;subst e;have k0:(0:Int)<=k:=by omega
      have t:ah (fb L i lf n=iF->cj L=iF):=λhb=>Aa v.o (aby (x:=⟨lf,P⟩) N hb)
      have f:ah (fb L i lf n=iV->∀j n',j<k+1->P[j]?=X n'->fb L i lf n'=iV):=by
       intro hg j n' hj D;by_cases e:j=k
       ·subst e;rw[N]at D;injection D with e2;rw[<-e2];exact hg
       ·exact u.o j n' (by omega) D
      clear N u;cases lf with
      |true=>
       by_cases ag:n<0
       ·have E:=af (t.o (by simp only[fb,dF];exact aV (by omega)))
        go_wp2;go_ret;exact⟨congrArg (λq=>Ending.returned (iB q)) E.o.symm,d.o.trans (p.o.mono d.o.size)⟩
       ·have E:=af (f.o (by simp only[fb,dF];exact aS (by omega)))
        go_wp2;go_roundw
        case rel=>exact⟨k+1,by omega,by go_num,E,by trivial⟩
        case measure=>simp[intOf];omega
      |false=>
       by_cases T:n= -1
       ·subst T;have E:=af (f.o (by simp[fb]))
        go_wp2;go_roundw
        case rel=>exact⟨k+1,by omega,by go_num,E,by trivial⟩
        case measure=>simp[intOf];omega
       ·have am:(n != -1)=iV:=by simpa using T
        have al:IntKind.i64.wrap ((i:Int)-1)=(i:Int)-1:=by rw[cm];omega
        go_wp2_with fail;refine(ij n 0 ((i:Int)-1) _).mono ?_;rintro e w1 ⟨rfl,rfl⟩;by_cases R:0<=n/\n<=(i:Int)-1
        ·rw[aS R];obtain⟨m,rfl⟩:∃m:Nat,n=(m:Int):=⟨n.toNat,by omega⟩
         obtain⟨V,F⟩:∃V,rs[m]?=X V:=⟨_,ay (by have:=H1.o;omega)⟩
         have m0:(0:Int)<=m:=by omega
         have mL:(m:Int)<a:=by omega
         have lc:=(KX.o.cell F).1;have g:jw L (m:Int)=V.1:=pK (y:=aE V) (by rw[<-HL.o];exact yM F)
         obtain⟨ae,s⟩:=aq V.1;rw[s]at lc g;clear F s;cases ae with
         |true=>
          have E:=af (f.o (by simp only[fb,g];simp;omega))
          clear g;go_wp2;go_roundw
          case rel=>exact⟨k+1,by omega,by go_num,E,by trivial⟩
          case measure=>simp[intOf];omega
         |false=>
          have E:=af (t.o (by simp[fb,g]))
          clear g;go_wp2;go_ret;exact⟨congrArg (λq=>Ending.returned (iB q)) E.o.symm,d.o.trans (p.o.mono d.o.size)⟩
        ·rw[aV R];have E:=af (t.o (by simp only[fb];simp;omega))
         go_wp2;go_ret;exact⟨congrArg (λq=>Ending.returned (iB q)) E.o.symm,d.o.trans (p.o.mono d.o.size)⟩
     ·have E:ah (ji L (i+1)=iV):=by
       show _=_;rw[tH v.o,HA.o,gU,gW,bu,gY];refine⟨aS l.o,λn N=>?_⟩
       obtain⟨j,hj⟩:=iG N;exact u.o j n (by have:=(aC.1 hj).1;have:=l.o;simp only at*;omega) hj
      go_wp2;go_roundw
      case rel=>exact⟨i+1,by omega,by go_num,E,p⟩
      case measure=>simp[intOf];omega
   ·have E:ah (cj L=iF):=Aa v.o (by
     rw[gW];have:decide ((⟨lf,P⟩:Kn).fD.length=4)=iF:=aV (by have:=l.o;simp only;omega)
     rw[this,lZ])
    have n4:((kl:Int) !=4)=iV:=by simp;omega
    have p:ah (iL wb.heap.size wb (wr.alloc (iC #[iB lf,Y K kl M] 189))):=A.o.trans (BA.o.mono A.o.size);have x1:=X0.o.2;go_wp2;go_ret;exact⟨congrArg (λq=>Ending.returned (iB q)) E.o.symm,d.o.trans (p.o.mono d.o.size)⟩
  ·have E:ah (cj L=iV):=by
    have ab:L.length=a:=by rw[<-HL.o,bm];exact H1.o
    show _=_;rw[cj,ab,show a=i by omega]
    exact HA.o
   go_wp2;go_ret;exact⟨congrArg (λq=>Ending.returned (iB q)) E.o.symm,d.o.trans (A.o.mono d.o.size)⟩
theorem yK(ad:Option Addr)(a cap:Nat)(rs:List Kw)(r:Int)(w:iW)(t:a<=1048578)(h:dO w ad a rs):
 iK Tryz.prog 94 #[iA #[Y ad a cap],I J r] w λe w'=>e=G (iB (bB (rs.map aE) r))/\iL w.heap.size w w':=by
 have s:=pA w (Y ad a cap);have i:=af (aT w (iC #[Y ad a cap] 30));have H:=af (h.below i.o);have k:=af h.1;clear h;by_cases j:r= -1
 ·subst j;have E:ah (bB (rs.map aE) (-1)=iV):=by show _=_;simp[bB]
  rw[E.o];go_enter Tryz.func94,Tryz.ntmps94;go_wp2;go_ret;exact⟨rfl,i.o⟩
 ·have l:(r== -1)=iF:=by simpa using j
  have n:IntKind.i64.wrap ((a:Int)-1)=(a:Int)-1:=by rw[cm];omega
  have d:(rs.map aE).length=a:=by rw[bm];exact k.o
  by_cases c:0<=r/\r<=(a:Int)-1
  ·obtain⟨m,rfl⟩:∃m:Nat,r=(m:Int):=⟨r.toNat,by omega⟩
   obtain⟨b,p,e,-⟩:=H.o.adr (by omega)
   subst e;obtain⟨y,hy⟩:∃y,rs[m]?=X y:=⟨_,ay (by have:=k.o;omega)⟩
   have lc:=(H.o.cell hy).1;have g:jw (rs.map aE) (m:Int)=y.1:=pK (y:=aE y) (yM hy);have E:ah (bB (rs.map aE) (m:Int)= !y.1):=by
    show _=_;rw[bB,g,d,aV j,aS c.1,aS (show(m:Int)<a by omega)]
    simp
   rw[E.o];obtain⟨lf,f⟩:=aq y.1;rw[f]at lc⊢;have u:(0:Int)<=m:=by omega
   have v:(m:Int)<a:=by omega
   have D:=af (aS c);clear hy g f E d c H;go_enter Tryz.func94,Tryz.ntmps94;go_wp2_with fail;refine(ij (m:Int) 0 ((a:Int)-1) _).mono ?_;rintro e q ⟨rfl,rfl⟩;rw[D.o];go_wp2;go_ret;exact⟨rfl,i.o⟩
  ·have E:ah (bB (rs.map aE) r=iF):=by
    show _=_;rw[bB,d,aV j];by_cases h0:0<=r
    ·rw[aV (show¬r<(a:Int)by omega)];simp
    ·rw[aV h0];simp
   rw[E.o];have D:=af (aV c);clear E d c H;go_enter Tryz.func94,Tryz.ntmps94;go_wp2_with fail;refine(ij r 0 ((a:Int)-1) _).mono ?_;rintro e q ⟨rfl,rfl⟩;rw[D.o];go_wp2;go_ret;exact⟨rfl,i.o⟩
theorem dO.fD{W:iW}{a f:Nat}(h:dO W (X ⟨b,a,O⟩) f rs){x:Kn}(g:(rs.map aE)[k]?=X x):
 ∃c d,W.cell? ⟨b,a+k*2,O⟩=X (iB x.leaf)/\W.cell? ⟨b,a+k*2+1,O⟩=X (Y c x.fD.length d)/\gP W c x.fD.length x.fD:=by
 rw[bh]at g;obtain⟨r,i,rfl⟩:=sk.1 g;obtain⟨j,c1⟩:=h.cell i;obtain⟨c,d,e,-,l⟩:=h.2.2.1 r (aL i);exact⟨c,d,j,by rw[c1,e];rfl,l⟩
theorem IU(ad:Option Addr)(a cap:Nat)(rs:List Kw)(r:Int)(s:Nat)(w:iW)(Z:a<=1048578)(h:dO w ad a rs)(k:cj (rs.map aE)=iV)(B:bB (rs.map aE) r=iV)(hs:s<=15):
 iK Tryz.prog 95 #[iA #[Y ad a cap],I J r,I J s] w λe w'=>e=G (I J (cG (rs.map aE) r s))/\iL w.heap.size w w':=by
 have X:=pA w (Y ad a cap);have u:=af (aT w (iC #[Y ad a cap] 30));have H:=af (h.below u.o);have f:(rs.map aE).length=a:=by rw[bm];exact h.1
 clear h;by_cases c:r<0
 ·have E:ah (cG (rs.map aE) r s=0):=ak c;rw[E.o];clear E k B f;go_enter Tryz.func95,Tryz.ntmps95;go_wp2;go_ret;exact⟨rfl,u.o⟩
 ·obtain⟨m,rfl⟩:∃m:Nat,r=(m:Int):=⟨r.toNat,by omega⟩
  obtain⟨x,i,M⟩:=lj B (by omega)
  have S:m<a:=by have:=(aC.1 i).1;rw[f]at this;simpa using this
  obtain⟨b,U,e,-⟩:=H.o.adr (by omega)
  subst e;obtain⟨q,A⟩:=aq (s/4);obtain⟨t,F⟩:=aq (s % 4);have D:q<4:=by omega
  have K:t<4:=by omega
  have tq:(s:Int).tdiv 4=(q:Int):=by rw[DY (by omega)];omega
  have tt:(s:Int).tmod 4=(t:Int):=by rw[Ap (by omega)];omega
  have V:(s:Int)/4=(q:Int):=by omega
  have W:(s:Int) % 4=(t:Int):=by omega
  have P:=mR (lR k i);obtain⟨n,z,g⟩:=lO k i M D;have d:dQ (rs.map aE) (m:Int) q=n:=ie i z;obtain⟨ka,kc,-,c1,C⟩:=H.o.fD i;rw[P]at c1 C;simp only[bi]at c1;obtain⟨kb,ko,e,-,sN⟩:=C.at z;subst e;have m0:(0:Int)<=m:=by omega
  have mL:(m:Int)<a:=by omega
  have q0:(0:Int)<=q:=by omega
  have q4:(q:Int)<4:=by omega
  rcases g with rfl|⟨T,R,y,hy,N,p⟩
  ·have E:ah (cG (rs.map aE) (m:Int) s=0):=by show _=_;rw[cG,ai c,A,d,ak (by omega)]
   rw[E.o];clear E k B f A F d z i C c H P;go_enter Tryz.func95,Tryz.ntmps95;go_wp2;go_ret;exact⟨rfl,u.o⟩
  ·obtain⟨j,rfl⟩:∃j:Nat,n=(j:Int):=⟨n.toNat,by omega⟩
   obtain⟨v,L,-⟩:=xL k hy N K;have l:dQ (rs.map aE) (j:Int) t=v:=ie hy L;obtain⟨la,lc,-,Q,O⟩:=H.o.fD hy;rw[p]at Q O;simp only[bi]at Q;obtain⟨lb,lo,e,-,vC⟩:=O.at L;subst e;have j0:(0:Int)<=j:=by omega
   have jL:(j:Int)<a:=by simp only[bi]at R;omega
   have t0:(0:Int)<=t:=by omega
   have t4:(t:Int)<4:=by omega
   have E:ah (cG (rs.map aE) (m:Int) s=v):=by show _=_;rw[cG,ai c,A,F,d,ai (by omega),l]
   rw[E.o];clear E k B f A F d l z i C O c H P hy L p R T;go_enter Tryz.func95,Tryz.ntmps95;go_wp2;go_ret;exact⟨rfl,u.o⟩
theorem Bf(ad:Option Addr)(a cap:Nat)(rs:List Kw)(r s:Int)(w:iW)(y:a<=1048578)(h:dO w ad a rs):
 iK Tryz.prog 57 #[iA #[Y ad a cap],I J r,I J s] w λe w'=>e=G (I J (dZ (rs.map aE) r s))/\iL w.heap.size w w':=by
 have k:=af (pA w (Y ad a cap));have f:=af (aT w (iC #[Y ad a cap] 30));have H:=af (h.below f.o);have l:=af (show w.heap.size<(w.alloc (iC #[Y ad a cap] 30)).heap.size by simp)
 clear h;have g:=k.o;go_enter Tryz.func57,Tryz.ntmps57;go_wp2_with fail;generalize w.alloc (iC #[Y ad a cap] 30)=wb at k g f H l⊢;obtain⟨z,N⟩:=aq w.heap.size;rw[N]at k g l⊢;refine(zG ad a cap rs wb y H.o).mono ?_;rintro e A ⟨rfl,v⟩;have j:=af ((v.cell (show z<wb.heap.size from l.o)).trans k.o);have i:=af v;clear g v;have g:=j.o;have u:ah (iL w.heap.size w A):=f.o.trans (i.o.mono f.o.size);cases m:cj (rs.map aE)with
 |false=>
  have E:ah (dZ (rs.map aE) r s=0):=ai (by rw[jJ,m];simp)
  clear m;go_wp2;go_ret;exact⟨congrArg (λq=>Ending.returned (I J q)) E.o.symm,u.o⟩
 |true=>
  have C:=af m;go_wp2_with fail;refine(yK ad a cap rs r A y (H.o.below i.o)).mono ?_;rintro e O ⟨rfl,x⟩;have p:=af ((x.cell (show z<A.heap.size from eW l.o i.o.size)).trans j.o);have B:=af (i.o.trans (x.mono i.o.size));clear g x m;have g:=p.o;have c:ah (iL w.heap.size w O):=f.o.trans (B.o.mono f.o.size);cases n:bB (rs.map aE) r with
  |false=>
   have E:ah (dZ (rs.map aE) r s=0):=ai (by rw[jJ,n];simp)
   clear n;go_wp2;go_ret;exact⟨congrArg (λq=>Ending.returned (I J q)) E.o.symm,c.o⟩
  |true=>
   have D:=af n;clear n;go_wp2_with fail;refine(ij s 0 15 _).mono ?_;rintro e P ⟨rfl,rfl⟩;by_cases b:0<=s/\s<=15
   ·have d:jJ (rs.map aE) r s=iV:=by rw[jJ,C.o,D.o,aS b.1,aS b.2];rfl
    have E:ah (dZ (rs.map aE) r s=cG (rs.map aE) r s.toNat):=ak d;rw[aS b];obtain⟨t,rfl⟩:∃t:Nat,s=(t:Int):=⟨s.toNat,by omega⟩
    simp only[bi]at E;have M:t<=15:=by omega
    clear d b;go_wp2_with fail;refine(IU ad a cap rs r t _ y (H.o.below B.o) C.o D.o M).mono ?_;rintro e Q ⟨rfl,F⟩;have K:=af (c.o.trans (F.mono c.o.size));clear F;go_wp2;go_ret;exact⟨congrArg (λq=>Ending.returned (I J q)) E.o.symm,K.o⟩
   ·have E:ah (dZ (rs.map aE) r s=0):=ai (by
     rw[jJ];simp only[bu,bM];rintro⟨-,h1,L⟩;exact b ⟨h1,L⟩)
    rw[aV b];clear b;go_wp2;go_ret;exact⟨congrArg (λq=>Ending.returned (I J q)) E.o.symm,c.o⟩
def qd(w:iW)(l:List Int)(e:Ending)(w':iW):Prop:=∃v,e=G v/\w'.ownsRow w.heap.size 3 1 v l.length (aD l)/\iL w.heap.size w w'
theorem qA(l:List Kn)(r:Int):(bW l r).length=16:=by simp[bW]
theorem Qz(l:List Kn)(r:Int)(a:k<16):(bW l r).take (k+1)=(bW l r).take k++[dZ l r k]:=by
 rw[fm,bW,bh,Ek a];rfl
theorem xQ(ad:Option Addr)(a cap:Nat)(rs:List Kw)(r:Int)(w:iW)(hl:a<=1048578)(h:dO w ad a rs):
 iK Tryz.prog 30 #[iA #[Y ad a cap],I J r] w (qd w (bW (rs.map aE) r)):=by
 obtain⟨i0,hi,m,n,p⟩:=bO mr;have U:=af hi;have V:=af m;have Z:=af n;have Y2:=af p;clear hi m n p;have t:=af (pA w (Y ad a cap));have f:=af (aT w (iC #[Y ad a cap] 30));have H:=af (h.below f.o);have A:=af (show w.heap.size<(w.alloc (iC #[Y ad a cap] 30)).heap.size by simp)
 have x:=af (show(w.alloc (iC #[Y ad a cap] 30)).heap.size=w.heap.size+1 by simp)
 clear h;obtain⟨M,C⟩:=aq (bW (rs.map aE) r);have v:=af C;rw[C];clear C;go_enter Tryz.func30,Tryz.ntmps30;go_wp2_with fail;generalize w.alloc (iC #[Y ad a cap] 30)=wb at t f H A x⊢;have K:ah ((wb.alloc (iC #[] 3)).ownsRow wb.heap.size 3 1 (Y (X ⟨wb.heap.size,0,O⟩) 0 0) ([]:List Int).length (aD [])):=oH wb #[] 0 (am _) (by unfold maxLen;omega) (by simp)
 have BA:=af (aT wb (iC #[] 3));generalize wb.alloc (iC #[] 3)=wa at K BA⊢;obtain⟨z,F⟩:=aq w.heap.size;rw[F]at t A x⊢;have T:=af F;clear F;go_loopw [5,6] (λov kv W=>∃(k:Nat) (l:List Int),k<=16/\kv=I J k/\l.length<=k/\ah (l=M.take k)/\ah (W.ownsRow wb.heap.size 3 1 ov l.length (aD l)/\iL wb.heap.size wb W)) (λ_ kv _=>16-(intOf kv).toNat)
 case atStart=>exact⟨0,[],aJ _,rfl,aJ _,by show _=_;simp,by rw[<-x.o];exact K.o,BA.o⟩
 case round=>
  obtain⟨k,l,hk,rfl,aa,u,b⟩:=hrel;have bx:=(b.o.2.cell (show z<wb.heap.size from A.o)).trans t.o;by_cases ab:(k:Int)<16
  ·have hw:=b.o.2.size;go_wp2_with fail;refine(Bf ad a cap rs r (k:Int) _ hl (H.o.below b.o.2)).mono ?_;rintro e Q ⟨rfl,B⟩;have c:ah (l++[dZ (rs.map aE) r (k:Int)]=M.take (k+1)):=by
    show _=_;rw[<-v.o,Qz _ _ (by omega),v.o,u.o]
   generalize dZ (rs.map aE) r (k:Int)=y at c⊢;have N:=af (bC b.o.1 B);have s:=af (b.o.2.trans (B.mono hw));have E:=s.o.size;clear B bx b u;have g:=af (aT Q (iC #[I J y] 3));have d:=af (bC N.o g.o);go_wp2_with (at_builtin;refine cS _ rfl _ _ 36 rfl wb.heap.size 3 i0 (I J 0) 1 8 Tryz.underlying36 U.o V.o Z.o Y2.o rfl (by decide) _ _ _ rfl d.o ⟨Q.heap.size,0,O⟩ 1 1 [I J y] rfl rfl (lS _ _ _) (tD _) ?c1 ?c2 ?c3 ?_)
   case c1=>unfold maxLen;omega
   case c2=>omega
   case c3=>have:=g.o.size;omega
   intro u' G D P _;rw[ue]at D;have j:G.ownsRow wb.heap.size 3 1 u' (l++[y]).length (aD (l++[y])):=by rw[aI];exact D
   have L:ah (G.ownsRow wb.heap.size 3 1 u' (l++[y]).length (aD (l++[y]))/\iL wb.heap.size wb G):=⟨j,(s.o.trans (g.o.mono E)).grown P (by have:=g.o.size;omega) (λq hq=>(d.o.lt q hq).1)⟩
   have i:(l++[y]).length<=k+1:=by simp;omega
   generalize l++[y]=l2 at c L i;clear D j P d N g s;go_wp2;go_roundw
   case rel=>exact⟨k+1,l2,by omega,by go_num,i,c,L⟩
   case measure=>simp[intOf];omega
  ·have R:ah (l=M):=by
    show _=_;rw[u.o,show k=M.length by rw[<-v.o,qA];omega,mD]
   have S:ah (iL w.heap.size w wr):=f.o.trans (b.o.2.mono f.o.size);go_wp2;go_ret;refine⟨_,rfl,?_,S.o⟩;rw[<-R.o];exact oJ b.o.1 f.o.size
theorem uf:(Tryz.prog.info? 32).map (·.size)=X 3:=by kernel_rfl
abbrev eA(b:Option Addr)(c vc:Nat)(ad:Option Addr)(a cap:Nat)(nx:Int):Array iX:= #[Y b c vc,Y ad a cap,I J nx]
theorem zU(w:iW)(a b c:iX):(w.alloc (iC #[a,b,c] 32)).cell? ⟨w.heap.size,0,O⟩=X a/\(w.alloc (iC #[a,b,c] 32)).cell? ⟨w.heap.size,1,O⟩=X b/\(w.alloc (iC #[a,b,c] 32)).cell? ⟨w.heap.size,2,O⟩=X c:=by
 have h:=aB w (iC #[a,b,c] 32);exact⟨aj _ _ 0 _ _ _ h,aj _ _ 1 _ _ _ h,aj _ _ 2 _ _ _ h⟩
theorem Xg(h:vs[k]?=X v):cH (vs.take k)++[v.2]=cH (vs.take (k+1)):=by
 obtain⟨h1,a⟩:=aC.1 h;rw[ft h1,a];simp[cH]
theorem Gu(j:Option Addr)(c vc:Nat)(ad:Option Addr)(a cap:Nat)(nx:Int)(vs:List (Int×Int))(w:iW)(hl:c<=1048578)(h:fN w j c vs):
 iK Tryz.prog 131 #[iA (eA j c vc ad a cap nx)] w (qd w (cH vs)):=by
 obtain⟨i0,hi,s,t,u⟩:=bO mr;have T:=af hi;have U:=af s;have V:=af t;have Z:=af u;clear hi s t u;have A:=af (zU w (Y j c vc) (Y ad a cap) (I J nx)).1;have m:=af (aT w (iC #[Y j c vc,Y ad a cap,I J nx] 32));have H:=af (h.below m.o);have g:=af h.1;have D:=af (show w.heap.size<(w.alloc (iC #[Y j c vc,Y ad a cap,I J nx] 32)).heap.size by simp)
 have C:=af (show(w.alloc (iC #[Y j c vc,Y ad a cap,I J nx] 32)).heap.size=w.heap.size+1 by simp)
 clear h;unfold eA;go_enter Tryz.func131,Tryz.ntmps131;go_wp2_with fail;generalize w.alloc (iC #[Y j c vc,Y ad a cap,I J nx] 32)=wb at A m H D C⊢;have L:ah ((wb.alloc (iC #[] 3)).ownsRow wb.heap.size 3 1 (Y (X ⟨wb.heap.size,0,O⟩) 0 0) ([]:List Int).length (aD [])):=oH wb #[] 0 (am _) (by unfold maxLen;omega) (by simp)
 have BA:=af (aT wb (iC #[] 3));generalize wb.alloc (iC #[] 3)=wa at L BA⊢;obtain⟨z,F⟩:=aq w.heap.size;rw[F]at A D C⊢;have S:=af F;clear F;go_loopw [3,4] (λov kv W=>∃(k:Nat) (l:List Int),k<=c/\kv=I J k/\l.length<=k/\ah (l=cH (vs.take k))/\ah (W.ownsRow wb.heap.size 3 1 ov l.length (aD l)/\iL wb.heap.size wb W)) (λ_ kv _=>c-(intOf kv).toNat)
 case atStart=>exact⟨0,[],aJ _,rfl,aJ _,by show _=_;simp[cH],by rw[<-C.o];exact L.o,BA.o⟩
 case round=>
  obtain⟨k,l,hk,rfl,aa,B,d⟩:=hrel;have bx:=(d.o.2.cell (show z<wb.heap.size from D.o)).trans A.o;by_cases ab:(k:Int)<c
  ·have hw:=d.o.2.size;have x:=ay (show k<vs.length by have:=g.o;omega)
   generalize vs[k]'(by have:=g.o;omega)=v at x
   obtain⟨b,ac,e,hb,c0,c1⟩:=(H.o.below d.o.2).at x;subst e;have f:ah (l++[v.2]=cH (vs.take (k+1))):=by
    show _=_;rw[B.o,Xg x]
   have k0:(0:Int)<=k:=by omega
   clear x;generalize v.2=y at c1 f;have N:=af d.o.1;have K:=af d.o.2;clear d B;have n:=af (aT wr (iC #[I J y] 3));have i:=af (bC N.o n.o);go_wp2_with (at_builtin;refine cS _ rfl _ _ 36 rfl wb.heap.size 3 i0 (I J 0) 1 8 Tryz.underlying36 T.o U.o V.o Z.o rfl (by decide) _ _ _ rfl i.o ⟨wr.heap.size,0,O⟩ 1 1 [I J y] rfl rfl (lS _ _ _) (tD _) ?c1 ?c2 ?c3 ?_)
   case c1=>unfold maxLen;omega
   case c2=>omega
   case c3=>have:=n.o.size;omega
   intro u' G E P _;rw[ue]at E;have r:G.ownsRow wb.heap.size 3 1 u' (l++[y]).length (aD (l++[y])):=by rw[aI];exact E
   have M:ah (G.ownsRow wb.heap.size 3 1 u' (l++[y]).length (aD (l++[y]))/\iL wb.heap.size wb G):=⟨r,(K.o.trans (n.o.mono hw)).grown P (by have:=n.o.size;omega) (λq hq=>(i.o.lt q hq).1)⟩
   have p:(l++[y]).length<=k+1:=by simp;omega
   generalize l++[y]=l2 at f M p;clear E r P i N n K;go_wp2;go_roundw
   case rel=>exact⟨k+1,l2,by omega,by go_num,p,f,M⟩
   case measure=>simp[intOf];omega
  ·have Q:ah (l=cH vs):=by
    show _=_;rw[B.o,ci (by have:=g.o;omega)]
   have R:ah (iL w.heap.size w wr):=m.o.trans (d.o.2.mono m.o.size);go_wp2;go_ret;refine⟨_,rfl,?_,R.o⟩;rw[<-Q.o];exact oJ d.o.1 m.o.size
def js:Option Nat->Int
 |some k=>k
 |none=> -1
theorem sG(i:Option Addr)(c vc:Nat)(ad:Option Addr)(a cap:Nat)(nx:Int)(vs:List (Int×Int))(id:Int)(w:iW)(D:c<=1048578)(h:fN w i c vs):
 iK Tryz.prog 50 #[iA (eA i c vc ad a cap nx),I J id] w λe w'=>e=G (I J (js (bw vs id)))/\iL w.heap.size w w':=by
 have p:=af (zU w (Y i c vc) (Y ad a cap) (I J nx)).1;have m:=af (aT w (iC #[Y i c vc,Y ad a cap,I J nx] 32));have H:=af (h.below m.o);have d:=af h.1;have s:=af (show w.heap.size<(w.alloc (iC #[Y i c vc,Y ad a cap,I J nx] 32)).heap.size by simp)
 clear h;unfold eA;go_enter Tryz.func50,Tryz.ntmps50;go_wp2_with fail;generalize w.alloc (iC #[Y i c vc,Y ad a cap,I J nx] 32)=wb at p m H s⊢;obtain⟨z,t⟩:=aq w.heap.size;rw[t]at p s⊢;have f:=af t;clear t;go_loopw [5] (λkv W=>∃k:Nat,k<=c/\kv=I J k/\ah (im vs id k=O)/\ah (iL wb.heap.size wb W)) (λkv _=>c-(intOf kv).toNat)
 case atStart=>exact⟨0,aJ _,rfl,(rfl:im vs id 0=O),ax _ _⟩
 case round=>
  obtain⟨k,C,rfl,r,n⟩:=hrel;have y:=(n.o.cell (show z<wb.heap.size from s.o)).trans p.o;have q:ah (iL w.heap.size w wr):=m.o.trans (n.o.mono m.o.size);rw[f.o]at q;by_cases u:(k:Int)<c
  ·have g:=ay (show k<vs.length by have:=d.o;omega)
   generalize vs[k]'(by have:=d.o;omega)=v at g
   obtain⟨b,x,e,B,A,c1⟩:=(H.o.below n.o).at g;subst e;have E:(0:Int)<=k:=by omega
   by_cases l:(v.1==id)=iV
   ·have j:ah (bw vs id=X k):=Mf r.o g (by simpa using l) _ (by have:=d.o;omega)
    clear g;go_wp2;go_ret;exact⟨by rw[j.o];rfl,by rw[f.o];exact q.o⟩
   ·have j:ah (im vs id (k+1)=O):=Mb r.o g (by simpa using l)
    clear g;go_wp2;go_roundw
    case rel=>exact⟨k+1,by omega,by go_num,j,n⟩
    case measure=>simp[intOf];omega
  ·have j:ah (bw vs id=O):=by
    have e:k=vs.length:=by have:=d.o;omega
    have:=r.o;rw[e]at this;exact this
   go_wp2;go_ret;exact⟨by rw[j.o];rfl,by rw[f.o];exact q.o⟩
def qz(W:iW)(v:iX)(ls:List (Int×Int)):Prop:=∃a c,v=Y a ls.length c/\(a=O->c=0)/\fN W a ls.length ls
theorem qz.of{hi:Nat}{v:iX}{ls:List (Int×Int)}{W:iW}(h:aG 66 lo hi v ls.length (ct ls) W)(b:ls.length<=maxLen)(k:hi<=W.heap.size):qz W v ls:=by
 rcases h with⟨rfl,h0⟩|⟨g,cap,rfl,h1,f,c⟩
 ·exact⟨O,0,by rw[h0],λ_=>rfl,rfl,b,by simp,λh=>by omega⟩
 ·refine⟨_,_,rfl,(λe=>by cases e),rfl,b,by simp,λ_=>⟨g,0,rfl,by omega,λi t hi=>?_⟩⟩
  have a:=λj v d=>c.cell (uy ls i t hi j v d)
  refine⟨?_,?_⟩
  ·simpa using a 0 _ rfl
  ·simpa using a 1 _ rfl
theorem JR(b a j:Nat):(⟨b,a,O⟩:Addr).add j=⟨b,a+j,O⟩:=by
 simp only[Addr.add];split<;>simp_all
theorem RL(w:iW):(w.alloc (iC #[] 66)).ownsRow w.heap.size 66 2 (Y (X ⟨w.heap.size,0,O⟩) 0 0) 0 (ct []):=
 ⟨rfl,.inr ⟨w.heap.size,0,#[],rfl,am _,aB w _,am _,by unfold maxLen;omega,rfl,rfl⟩⟩
theorem Wj(M:List (Int×Int))(i:Nat)(v:iX)(h:(ct M)[i]?=X v):∃x,M[i/2]?=X x/\(nV x)[i % 2]?=X v:=by
 have c:=(aC.1 h).1;rw[Jy]at c;obtain⟨x,b⟩:∃x,M[i/2]?=X x:=⟨_,ay (by omega)⟩
 obtain⟨u,a⟩:∃u,(nV x)[i % 2]?=X u:=⟨_,ay (by show i % 2<2;omega)⟩
 have:=uy M (i/2) x b (i % 2) u a;rw[show i/2*2+i % 2=i by omega,h]at this
 cases this;exact⟨x,b,a⟩
theorem fN.cells{w:iW}{b c d:Nat}{ls:List (Int×Int)}(h:fN w (X ⟨b,c,O⟩) d ls)(j:Nat)(u:iX)(k:(ct ls)[j]?=X u):w.cell? ⟨b,c+j,O⟩=X u:=by
 obtain⟨x,l,a⟩:=Wj ls j u k;obtain⟨n,g,e,-,i,c1⟩:=h.at l;injection e with e
 injection e with e1 e2
 subst e1;subst e2;have f:j=j/2*2+j % 2:=by omega
 have h4:j % 2<2:=by omega
 generalize j % 2=m at f h4 a;rw[f,<-mf]
 match m,h4,a with
 |0,_,a=>simp only[nV]at a;simp at a;subst a;simpa using i
 |1,_,a=>simp only[nV]at a;simp at a;subst a;exact c1
theorem oO (w:World) {o:Oper} {Q:Exit->Act->World->Prop} (A:o.guard=none) (s x:Operand) (t:TypeId)
 (H:o.op=.call {callee:=.builtin .append,args:= #[s,x],argTypes:= #[t,t]})
 (base:Nat) (e:TypeId) (i:TypeInfo) (z:Value) (size d:Nat) (J:P.underlying t=some (.slice e)) (hi:P.info? e=some i) (N:i.zero=some z)
 (l:i.size=size) (y:i.bytes=d) (C:z.cells.size=size) (B:0<size)
 (v:Value) (n:Nat) (xs:List Value) (hs:a.eval s=v) (p:w.ownsRow base e size v n xs)
 (ad:Addr) (m c:Nat) (b:List Value) (M:a.eval x=.slice (some ad) m c) (G:b.length=m*size) (k:∀j u,b[j]?=some u->w.cell? (ad.add j)=some u) (h1:∀u∈b,u.oneCell'=true)
 (r:n+m<=maxLen) (f:(n+m)*d<=140737488355328) (g:base<=w.heap.size)
 (h:∀q w',w'.ownsRow base e size q (n+m) (xs++b)->w.grownBy w' v.ownBlock->K (a.put o.dst q) w'):
 if Region.wanted o (yielded ops a.tmps)=true then Oper.wp P o a w K Q else E:=by
 have L:Region.wanted o (yielded ops a.tmps)=true:=by simp[Region.wanted,A]
 rw[ak L];obtain⟨q,w',I,D,F,_,_⟩:=run_append_own_at (P:=P) w base t o.type e i z size d J hi N l y C B v n xs p ad m c b G k h1 r f g;unfold Oper.wp execOp;simp only[H,resolve,invoke,builtin,vI,wX,uJ,wZ,cB,oU,hs,M,I];exact h q w' D F
end Go.Proofs.YtgigcooffjjbgaaGreatDoor
