/-
  DvM6; FRow; FOf; Fla; FMath; Rd; SNext; SIn; SMay; SLeaf; SOk; FSnoc; SCopy; FPut; SProg; SBad; FBlk; Make4
-/
import Derived.Test.YtgigcooffjjbgaaGreatDoorPk5
open Go.Value renaming int→I,slice→Y,string→iT,bool→iB,pointer→iP,agg→iA,tuple→iU
open Go.IntKind renaming i64→J
open Option renaming none→O,some→X
open Go.Ending renaming returned→G
open Go.Obj renaming cells→iC
open Bool renaming true→iV,false→iF
open Go renaming World→iW,Value→iX,Calls→iK
open Go.RowKit renaming Below→iL
set_option maxHeartbeats 1600000
set_option maxRecDepth 100000
namespace Go.Proofs.YtgigcooffjjbgaaGreatDoor
open Words Sums Pack
structure Ak where
 kind:Int
 vol:Int
 sector:Int
 of:Int
 text:ByteArray
def rC(q:Ak):Bool:=
 if¬(1<=q.kind/\q.kind<=6)∨¬(1<=q.vol/\q.vol<=9)∨64<q.text.size∨(q.kind≠1/\q.text.size≠0)then iF
 else if q.kind=4 then decide (q.sector=0/\1<=q.of/\q.of<=9)
 else if q.of≠0 then iF
 else if q.kind=3∨q.kind=5 then decide (q.sector=0)
 else decide (0<=q.sector/\q.sector<=15)
def aQ:ByteArray:=⟨#[]⟩
def lE(t:ByteArray):ByteArray:=match go t.data.toList with
 |some p=>⟨p.toArray⟩
 |none=>aQ
def eA(d:Dv)(q:Ak):List Rc×ByteArray×Int:=
 if rC q=iF then([],aQ,3)
 else if q.kind=3∨q.kind=4 then
  if (bO d.fS.fV q.vol).isSome then([],aQ,2)
  else if q.kind=4/\(bO d.fS.fV q.of).isSome=iF then([],aQ,1)
  else if 3<=d.fS.fV.length then([],aQ,4)
  else([⟨2,q.vol,q.of,0⟩],aQ,0)
 else if (bO d.fS.fV q.vol).isSome=iF then([],aQ,1)
 else if q.kind=1 then
  if fi (au d.fH) (aI d.fS) q.text.data.toList=0 then([⟨4,q.vol,q.sector,d.fS.next⟩],lE q.text,0)
  else([⟨4,q.vol,q.sector,fi (au d.fH) (aI d.fS) q.text.data.toList⟩],aQ,0)
 else if q.kind=2 then([⟨5,q.vol,q.sector,0⟩],aQ,0)
 else if q.kind=5 then([⟨3,q.vol,0,0⟩],aQ,0)
 else([],aQ,0)
def nU(d:Dv)(q:Ak)(l:List Rc)(t:ByteArray):Prop:=
 (l=[]/\t=aQ)∨(∃r:Rc,((r.kind=2∨r.kind=3∨r.kind=5)/\r.vol=q.vol)/\l=[r]/\t=aQ)∨(∃c,c∈aI d.fS/\bI (au d.fH) c=X q.text.data.toList/\l=[⟨4,q.vol,q.sector,c⟩]/\t=aQ)∨((∀c∈aI d.fS,bI (au d.fH) c≠X q.text.data.toList)/\(bO d.fS.fV q.vol).isSome=iV/\(1<=q.vol/\q.vol<=9/\0<=q.sector/\q.sector<=15)/\q.text.size<=64/\l=[⟨4,q.vol,q.sector,d.fS.next⟩]/\t=lE q.text)
variable{α:Type}{a:Act}{ops:Array Oper}{t:ByteArray}{fn:Func}{c:Int}{ls:List (Int × ByteArray)}{live:List Int}{rest:List Oper}{T:List UInt8 -> Prop}{n B cap g k z lo size hi' B' m i j lc gl:Nat}{e:TypeId}
variable{d:Dv}
theorem nU.none{q:Ak}:nU d q [] aQ:=.inl ⟨rfl,rfl⟩
theorem nU.plain{q:Ak}(r:Rc)(a:r.kind=2∨r.kind=3∨r.kind=5)(b:r.vol=q.vol):nU d q [r] aQ:=.inr (.inl ⟨r,⟨a,b⟩,rfl,rfl⟩)
theorem nU.old{q:Ak}(c:Int)(a:c∈aI d.fS)(b:bI (au d.fH) c=X q.text.data.toList):nU d q [⟨4,q.vol,q.sector,c⟩] aQ:=.inr (.inr (.inl ⟨c,a,b,rfl,rfl⟩))
theorem nU.new{q:Ak}(a:∀c∈aI d.fS,bI (au d.fH) c≠X q.text.data.toList)(b:(bO d.fS.fV q.vol).isSome=iV)(h1:1<=q.vol/\q.vol<=9/\0<=q.sector/\q.sector<=15)(hs:q.text.size<=64):nU d q [⟨4,q.vol,q.sector,d.fS.next⟩] (lE q.text):=.inr (.inr (.inr ⟨a,b,h1,hs,rfl,rfl⟩))
variable{M:List an}
theorem Vx{t:List UInt8}(d:∀c∈live,0<c)(h:fi M live t=0):∀c∈live,bI M c≠X t:=by
 intro c b e;unfold fi at h;cases a:live.find? (λc=>decide (bI M c=X t))with
 |none=>
  have:=Ad.1 a c b;simp[e]at this
 |some y=>
  rw[a]at h;have:=d y (tD a);simp at h;omega
theorem WT{t:List UInt8}(h:fi M live t≠0):fi M live t∈live/\bI M (fi M live t)=X t:=by
 unfold fi at h⊢;cases a:live.find? (λc=>decide (bI M c=X t))with
 |none=>rw[a]at h;exact absurd rfl h
 |some y=>
  have h1:=vk a;simp only[bH]at h1;exact⟨tD a,h1⟩
theorem Nw(d:Dv)(q:Ak):nU d q (eA d q).1 (eA d q).2.1:=by
 have f:∀c∈aI d.fS,0<c:=λc b=>((qi _ _).1 b).1
 unfold eA;split
 ·exact .none
 rename_i ha
 split
 ·split
  ·exact .none
  split
  ·exact .none
  split
  ·exact .none
  ·exact .plain _ (.inl rfl) rfl
 split
 ·exact .none
 rename_i hv
 split
 ·rename_i hk
  split
  ·rename_i hz
   refine .new (Vx f hz) (by cases e:(bO d.fS.fV q.vol).isSome with|true=>rfl|false=>exact absurd e hv) ?_ ?_
   ·unfold rC at ha;split at ha
    ·exact absurd rfl ha
    rename_i hh
    simp only[sH,AB]at hh;rw[aj (show¬q.kind=4 by omega)]at ha
    split at ha
    ·exact absurd rfl ha
    rw[aj (show¬(q.kind=3∨q.kind=5)by omega)]at ha
    simp only[qO,AB]at ha;exact⟨hh.2.1.1,hh.2.1.2,ha.1,ha.2⟩
   ·unfold rC at ha;split at ha
    ·exact absurd rfl ha
    rename_i hh
    simp only[sH,AB]at hh;omega
  ·rename_i hz
   obtain⟨h1,a⟩:=WT hz;exact .old _ h1 a
 split
 ·exact .plain _ (.inr (.inr rfl)) rfl
 split
 ·exact .plain _ (.inr (.inl rfl)) rfl
 ·exact .none
theorem Qs(h:t.size<=64):∃p,go t.data.toList=X p/\fF p=X t.data.toList/\(lE t).data.toList=p/\(lE t).size≠0:=by
 have c:t.data.toList.length=t.size:=by simp
 cases a:go t.data.toList with
 |none=>
  unfold go at a;rw[aj (by omega)]at a
  cases a
 |some p=>
  have b:lE t=⟨p.toArray⟩:=by unfold lE;rw[a]
  refine⟨p,rfl,XD _ _ a,by rw[b],?_⟩
  rw[b];show p.toArray.size≠0;unfold go at a;rw[aj (by omega)]at a
  injection a with a
  rw[<-a];split
  ·simp
  ·simp[xJ]
theorem Y9(L:List TxR)(t:TxR):fk (L++[t])=(jd (fk L) t.fR).1:=by simp[fk,List.foldl_append]
theorem Hx{d i:List an}{t:TxR}(b:jq M)(g:∀x∈M,x.fP.kind=2->x.fP.tx<t.num)(h1:∀x∈d,x.fP.kind≠2)(j:∀x∈i,x.fP.kind=2/\x.fP.tx=t.num)(k:cI (M++d++i)=if t.base then[t]else cI M++[t]):jq (M++d++i):=by
 unfold jq;rw[k];cases l:t.base with
 |true=>simp only[dw];exact .inl l
 |false=>
  simp only[eS,fb];unfold jq at b;cases f:cI M with
  |nil=>
   rw[f]at b;simp only[jT]at b⊢;right;intro x a c;rcases bG.1 a with a|a
   ·rcases bG.1 a with a|a
    ·exact absurd c (b x a)
    ·exact absurd c (h1 x a)
   ·have:=(j x a).2;omega
  |cons u L=>
   rw[f]at b;simp only[jl]at b⊢;rcases b with b|b
   ·exact .inl b
   ·right;intro x a c;rcases bG.1 a with a|a
    ·rcases bG.1 a with a|a
     ·exact b x a c
     ·exact absurd c (h1 x a)
    ·obtain⟨y,hy,h,e⟩:=Mv (M:=M) (t:=u) (by rw[f];simp)
     have:=g y hy h;have:=(j x a).2;omega
theorem Cc(a e:List an)(h:∃x∈M,cW c x=iV):∃x∈M++a++e,cW c x=iV:=by
 obtain⟨x,d,b⟩:=h;exact⟨x,sC _ (sC _ d),b⟩
variable{L:List aM}
theorem QB{q:Ak}{l:List Rc}(h:cO T n d)(hn:n<999999998)(N:q.vol<=3)(V:nU d q l t)(M:l≠ [])(hT:T q.text.data.toList)(hw:dZ d l t=(L,iV)):cO T (n+1) (gn d L):=by
 obtain⟨cs,R,ms,tr,h1,h2,-,h4,S,h6,h7,U,-,-,J⟩:=Eu h.up M hw;have P:d.tx=gL (au d.fH):=congrArg Dv.tx h.up.is;have ae:d.fS=fk (cI (au d.fH)):=congrArg Dv.fS h.up.is
 -- one record, no base
 obtain⟨r,f,o⟩:∃r,l=[r]/\r.kind≠1:=by
  rcases V with⟨rfl,rfl⟩|⟨r,hr,rfl,rfl⟩|⟨c,m,H,rfl,rfl⟩|⟨-,-,-,-,rfl,rfl⟩
  ·exact absurd rfl M
  ·exact⟨r,rfl,by omega⟩
  ·exact⟨_,rfl,by show(4:Int)≠1;decide⟩
  ·exact⟨_,rfl,by show(4:Int)≠1;decide⟩
 have hb:tr.base=iF:=by
  unfold TxR.base;rw[h7,f]
  simpa using o
 have b:(jz cs).fS=(aY d.fS r).1:=by
  show fk (cI (au cs))=_;rw[J,hb];simp only[eS,fb];rw[Y9,<-ae,h7,f,Ue]
 have Y:∀x∈R,x.fP.kind=1:=by
  intro x a;rcases U with⟨-,e⟩|⟨-,y,e,I,-⟩
  ·rw[e]at a;cases a
  ·rw[e,bR]at a;subst a;rw[I];rfl
 have E:∀c,bp (au cs) c=(bp R c).or (bp (au d.fH) c):=λc=>by
  rw[h4,qW,FH (λx a=>(S x a).1),qW]
  rfl
 rw[h1];have hR:=wW h.st r;have aj:(jz cs).fH=cs:=rfl
 -- the new chunk's page
 have w:(R=[]/\(∀y∈aI (aY d.fS r).1,y∈aI d.fS))∨∃x,R=[x]/\x.fP.kind=1/\x.fP.tx=d.fS.next/\fF x.fP.text.data.toList=X q.text.data.toList/\(∀c∈aI d.fS,bI (au d.fH) c≠X q.text.data.toList)/\(∀y∈aI (aY d.fS r).1,y∈aI d.fS∨y=d.fS.next)/\(aY d.fS r).1.next=d.fS.next+1:=by
  rcases V with⟨rfl,rfl⟩|⟨W,O,rfl,rfl⟩|⟨c,m,H,rfl,rfl⟩|⟨ab,hv,ai,hs,rfl,rfl⟩
  ·exact absurd rfl M
  ·left;injection f with f
   subst f;rcases U with⟨-,e⟩|⟨e,-⟩
   ·exact⟨e,λy hy=>(BS o hy).elim id (λq=>by omega)⟩
   ·exact absurd rfl e
  ·left;injection f with f
   subst f;rcases U with⟨-,e⟩|⟨e,-⟩
   ·exact⟨e,λy hy=>(BS o hy).elim id (λq=>by rw[q.2.1];exact m)⟩
   ·exact absurd rfl e
  ·right;injection f with f
   subst f;obtain⟨p,p1,p2,p3,p4⟩:=Qs hs;rcases U with⟨e,-⟩|⟨-,x,e,I,-⟩
   ·exact absurd e p4
   ·have ac:=h.st.nx;have ah:=h.nx;have hr:Rc.Right ⟨4,q.vol,q.sector,d.fS.next⟩:=by
     refine⟨⟨?_,?_⟩,.inr ⟨⟨?_,?_⟩,.inr (.inr (.inl ⟨rfl,?_,?_,?_⟩))⟩⟩<;>simp only<;>omega
    have af:=Wk h.st hr rfl hv (by simp only;omega)
    obtain⟨k,v,-,-,-,-,-,-,-,e5,-⟩:=si af (.inl rfl);simp only[kK,dw]at e5;refine⟨x,e,by rw[I];rfl,by rw[I];rfl,?_,ab,?_,e5⟩
    ·rw[I];show fF (lE q.text).data.toList=_;rw[p3];exact p2
    ·intro y hy;rcases BS o hy with g|g
     ·exact .inl g
     ·exact .inr g.2.1
 have ag:∀v∈(aY d.fS r).1.fV,v.1<=3:=Jy h.vi (λh2=>by
  rcases V with⟨rfl,rfl⟩|⟨W,O,rfl,rfl⟩|⟨c,m,H,rfl,rfl⟩|⟨-,-,-,-,rfl,rfl⟩
  ·exact absurd rfl M
  ·injection f with f
   subst f;omega
  ·injection f with f
   subst f;exact N
  ·injection f with f
   subst f;exact N)
 refine⟨⟨h2,rfl⟩,by rw[b];exact hR,?_,?_,?_,?_,?_,?_,by rw[b];exact ag⟩
 ·show jq (au cs);rw[h4];exact Hx h.hd (λx a K=>by rw[h6,P];exact zi _ x a K) (λx a=>by rw[Y x a];decide) (λx a=>by rw[h6];exact S x a) (by rw[<-h4];exact J)
 ·intro c m;rw[b]at m;show∃x∈au cs,_;rw[h4];rcases w with⟨-,A⟩|⟨x,j,A,Q,-,-,C,-⟩
  ·exact Cc _ _ (h.lv c (A c m))
  ·rcases C c m with C|C
   ·exact Cc _ _ (h.lv c C)
   ·exact⟨x,by rw[j];simp,by unfold cW;simp[A,Q,C]⟩
 ·intro x a K;change x∈au cs at a;rw[h4]at a;rcases bG.1 a with a|a
  ·rcases bG.1 a with a|a
   ·exact h.tx x a K
   ·rcases w with⟨j,-⟩|⟨y,j,-,-,k4,-⟩
    ·rw[j]at a;cases a
    ·rw[j,bR]at a;subst a;exact⟨_,k4,hT⟩
  ·have:=(S x a).1;omega
 ·intro c m c' D u;rw[b]at m D;change bI (au cs) c=bI (au cs) c' at u;rcases w with⟨j,A⟩|⟨x,j,A,Q,k4,k5,C,-⟩
  ·have H:∀y,bI (au cs) y=bI (au d.fH) y:=λy=>by
    unfold bI;rw[E y,j];rfl
   rw[H,H]at u;exact h.df c (A c m) c' (A c' D) u
  ·have i:∀y∈aI d.fS,bI (au cs) y=bI (au d.fH) y:=λy hy=>by
    have Z:¬(d.fS.next=y):=by
     obtain⟨z,hz,F⟩:=h.lv y hy;obtain⟨z1,z2⟩:=vK F;have:=h.dn z hz z1;omega
    unfold bI;rw[E y,j,Af];have:cW y x=iF:=by unfold cW;simp[A,Q,Z]
    rw[this];rfl
   have B:bI (au cs) d.fS.next=X q.text.data.toList:=by
    rw[WU (x:=x)]
    ·exact k4
    ·rw[E,j,Af];have:cW d.fS.next x=iV:=by unfold cW;simp[A,Q]
     rw[this];rfl
   rcases C c m with g|g<;>rcases C c' D with G|G
   ·rw[i c g,i c' G]at u;exact h.df c g c' G u
   ·subst G;rw[i c g,B]at u;exact absurd u (k5 c g)
   ·subst g;rw[i c' G,B]at u;exact absurd u.symm (k5 c' G)
   ·rw[g,G]
 ·intro x a K;change x∈au cs at a;rw[b];have aa:=Ty (s:=d.fS) o;rw[h4]at a;rcases bG.1 a with a|a
  ·rcases bG.1 a with a|a
   ·have:=h.dn x a K;omega
   ·rcases w with⟨j,-⟩|⟨y,j,-,Q,-,-,-,k7⟩
    ·rw[j]at a;cases a
    ·rw[j,bR]at a;subst a;omega
  ·have:=(S x a).1;omega
 ·rw[b];have ac:=h.nx;rcases w with⟨-,-⟩|⟨-,-,-,-,-,-,-,k7⟩
  ·rcases Ob (s:=d.fS) r o with g|g
   ·rw[g];omega
   ·rcases V with⟨rfl,rfl⟩|⟨W,O,rfl,rfl⟩|⟨c,m,H,rfl,rfl⟩|⟨-,-,-,-,rfl,rfl⟩
    ·exact absurd rfl M
    ·injection f with f
     subst f;have ak:=hR.nx;cases u:(aY d.fS W).2 with
     |false=>rw[qS u];omega
     |true=>
      obtain⟨-,ad⟩:=nR u;unfold Rc.Right at ad;rw[g];have:W.fC=0:=by omega
      omega
    ·injection f with f
     subst f;simp only at g;obtain⟨z,hz,F⟩:=h.lv c m;obtain⟨z1,z2⟩:=vK F;have:=h.dn z hz z1;rw[g];omega
    ·injection f with f
     subst f;simp only at g;rw[g];omega
  ·rw[k7];omega
open Go.RowKit
theorem zC:(Tryz.prog.info? 83).map (λi=>(i.zero,i.size,i.bytes))=X (X (iA #[I J 0,iT ⟨#[]⟩]),2,24):=by kernel_rfl
theorem DW:(Tryz.prog.info? 81).map (λi=>(i.zero,i.size,i.bytes))=X (X (iA #[iB iF,I J 0,Y O 0 0]),3,40):=by kernel_rfl
def uB(t:Int×ByteArray):List iX:=[I J t.1,iT t.2]
def fI(l:List (Int×ByteArray)):List iX:=l.flatMap uB
theorem EA(l:List (Int×ByteArray)):(fI l).length=l.length*2:=by
 induction l with
 |nil=>rfl
 |cons t l a=>simp[fI,uB]at a⊢;omega
theorem sm(t:Int×ByteArray)(l:List (Int×ByteArray)):fI (t::l)=[I J t.1,iT t.2]++fI l:=by simp[fI,uB]
theorem DF(l:List (Int×ByteArray))(k:Nat)(t:Int×ByteArray)(h:l[k]?=X t):(fI l)[k*2]?=X (I J t.1)/\(fI l)[k*2+1]?=X (iT t.2):=by
 induction l generalizing k with
 |nil=>simp at h
 |cons a l b=>
  cases k with
  |zero=>
   simp at h;subst h;exact⟨rfl,rfl⟩
  |succ k=>
   have:=b k (by simpa using h)
   rw[sm,ct (by simp;omega),ct (by simp;omega)]
   simp only[aV,dU];rw[show(k+1)*2-(0+1+1)=k*2 by omega,show(k+1)*2+1-(0+1+1)=k*2+1 by omega]
   exact this
theorem UV(l:List (Int×ByteArray)):∀v∈fI l,v.oneCell'=iV:=by
 intro v b;obtain⟨t,-,a⟩:=md.1 b;simp[uB]at a;rcases a with h|h<;>subst h<;>rfl
theorem Hm(ls:List (Int×ByteArray))(k:Nat)(t:Int×ByteArray)(h:ls[k]?=X t):
 (∀z:Int,(fI ls).set (k*2) (I J z)=fI (ls.set k (z,t.2)))/\(∀z:ByteArray,(fI ls).set (k*2+1) (iT z)=fI (ls.set k (t.1,z))):=by
 induction ls generalizing k with
 |nil=>simp at h
 |cons a r c=>
  cases k with
  |zero=>
   simp at h;subst h;simp[sm]
  |succ k=>
   obtain⟨h1,b⟩:=c k (by simpa using h)
   refine⟨λz=>?_,λz=>?_⟩
   ·rw[bZ,sm,sm,<-h1 z,jm _ _ (by simp;omega)]
    congr 2;simp;omega
   ·rw[bZ,sm,sm,<-b z,jm _ _ (by simp;omega)]
    congr 2;simp;omega
theorem JY{w:iW}{l:List (Int×ByteArray)}{t:Int×ByteArray}(h:w.ownsRow B 83 2 (Y (X ⟨g,0,O⟩) n cap) n (fI l))(b:l[k]?=X t):
 w.cell? ⟨g,k*2,O⟩=X (I J t.1)/\w.cell? ⟨g,k*2+1,O⟩=X (iT t.2):=by
 obtain⟨h1,a⟩:=DF l k t b;have c1:=h.cells (g:=g) rfl _ _ h1;have c2:=h.cells (g:=g) rfl _ _ a;rw[fw]at c1 c2;exact⟨c1,c2⟩
def vM(t:Bool×Int×iX):List iX:=[iB t.1,I J t.2.1,t.2.2]
def gB(l:List (Bool×Int×iX)):List iX:=l.flatMap vM
theorem Wf(a b:List (Bool×Int×iX)):gB (a++b)=gB a++gB b:=by simp[gB]
theorem ql(t:Bool×Int×iX)(l:List (Bool×Int×iX)):gB (t::l)=[iB t.1,I J t.2.1,t.2.2]++gB l:=by simp[gB,vM]
theorem Lf(l:List (Bool×Int×iX))(k:Nat)(t:Bool×Int×iX)(h:l[k]?=X t):(gB l)[k*3]?=X (iB t.1)/\(gB l)[k*3+1]?=X (I J t.2.1)/\(gB l)[k*3+2]?=X t.2.2:=by
 induction l generalizing k with
 |nil=>simp at h
 |cons a l b=>
  cases k with
  |zero=>
   simp at h;subst h;exact⟨rfl,rfl,rfl⟩
  |succ k=>
   have:=b k (by simpa using h)
   rw[ql,ct (by simp;omega),ct (by simp;omega),ct (by simp;omega)]
   simp only[aV,dU];rw[show(k+1)*3-(0+1+1+1)=k*3 by omega,show(k+1)*3+1-(0+1+1+1)=k*3+1 by omega,show(k+1)*3+2-(0+1+1+1)=k*3+2 by omega]
   exact this
theorem Bw(ls:List (Bool×Int×iX))(k:Nat)(t:Bool×Int×iX)(h:ls[k]?=X t):
 (∀z:Bool,(gB ls).set (k*3) (iB z)=gB (ls.set k (z,t.2.1,t.2.2)))/\(∀z:Int,(gB ls).set (k*3+1) (I J z)=gB (ls.set k (t.1,z,t.2.2)))/\(∀z:iX,(gB ls).set (k*3+2) z=gB (ls.set k (t.1,t.2.1,z))):=by
 induction ls generalizing k with
 |nil=>simp at h
 |cons a r d=>
  cases k with
  |zero=>
   simp at h;subst h;simp[ql]
  |succ k=>
   obtain⟨h1,b,c⟩:=d k (by simpa using h)
   refine⟨λz=>?_,λz=>?_,λz=>?_⟩
   ·rw[bZ,ql,ql,<-h1 z,jm _ _ (by simp;omega)]
    congr 2;simp;omega
   ·rw[bZ,ql,ql,<-b z,jm _ _ (by simp;omega)]
    congr 2;simp;omega
   ·rw[bZ,ql,ql,<-c z,jm _ _ (by simp;omega)]
    congr 2;simp;omega
theorem Bl{w:iW}{l:List (Bool×Int×iX)}{t:Bool×Int×iX}(h:w.ownsRow B 81 3 (Y (X ⟨g,0,O⟩) n cap) n (gB l))(c:l[k]?=X t):
 w.cell? ⟨g,k*3,O⟩=X (iB t.1)/\w.cell? ⟨g,k*3+1,O⟩=X (I J t.2.1)/\w.cell? ⟨g,k*3+2,O⟩=X t.2.2:=by
 obtain⟨h1,a,b⟩:=Lf l k t c;have c1:=h.cells (g:=g) rfl _ _ h1;have c2:=h.cells (g:=g) rfl _ _ a;have c3:=h.cells (g:=g) rfl _ _ b;rw[fw]at c1 c2 c3;exact⟨c1,c2,c3⟩
theorem lS{w:iW}{v:iX}{xs:List iX}(h:w.ownsRow B e z v n xs):
 ∃ad cap,v=Y ad n cap/\n<=cap/\cap<=maxLen/\(0<n->∃g,ad=X ⟨g,0,O⟩/\B<=g/\g<w.heap.size):=by
 have a:=h.lt;rcases h.2 with⟨h1,c⟩|⟨g,cap,b,h1,-,-,d,h4,-⟩
 ·exact⟨O,0,by rw[h1,c],by omega,by unfold maxLen;omega,λh=>by omega⟩
 ·subst h1;exact⟨_,cap,rfl,d,h4,λ_=>⟨g,rfl,a g rfl⟩⟩
abbrev Rw:=Bool×Int×iX×List (Int×ByteArray)
def gh(r:Rw):Bool×Int×iX:=(r.1,r.2.1,r.2.2.1)
def aw(r:Rw):Bk:=(r.1,r.2.1,r.2.2.2)
def j9(w:iW)(lo hi:Nat)(v:iX)(ls:List (Int×ByteArray)):Prop:=
 w.ownsRow lo 83 2 v ls.length (fI ls)/\∀g,v.ownBlock=X g->g<hi
def eO(w:iW)(lo hi:Nat)(v:iX)(rs:List Rw):Prop:=
 w.ownsRow lo 81 3 v rs.length (gB (rs.map gh))/\(∀g,v.ownBlock=X g->g<hi)/\(∀r∈rs,j9 w lo hi r.2.2.1 r.2.2.2)/\
  (rs.map λr=>r.2.2.1).Pairwise (λa b=>a.ownBlock=O∨a.ownBlock≠b.ownBlock)
theorem Jt{w w':iW}{hi:Nat}{v:iX}{xs:List iX}(h:w.ownsRow lo e size v n xs)(i:∀g,v.ownBlock=X g->g<hi)(j:∀g,lo<=g->g<hi->w'.heap[g]?=w.heap[g]?):w'.ownsRow lo e size v n xs:=by
 have k:=h.lt;obtain⟨h1,f⟩:=h;refine⟨h1,?_⟩;rcases f with h|⟨g,cap,a,rfl,b,c,d⟩
 ·exact .inl h
 ·exact .inr ⟨g,cap,a,rfl,b,by rw[j g b (i g rfl)];exact c,d⟩
theorem j9.kept{w w':iW}{hi:Nat}{v:iX}(h:j9 w lo hi v ls)(a:∀g,lo<=g->g<hi->w'.heap[g]?=w.heap[g]?):j9 w' lo hi v ls:=⟨Jt h.1 h.2 a,h.2⟩
theorem eO.kept{w w':iW}{hi:Nat}{v:iX}{rs:List Rw}(h:eO w lo hi v rs)(a:∀g,lo<=g->g<hi->w'.heap[g]?=w.heap[g]?):eO w' lo hi v rs:=
 ⟨Jt h.1 h.2.1 a,h.2.1,λr b=>(h.2.2.1 r b).kept a,h.2.2.2⟩
theorem eO.below{w w':iW}{hi:Nat}{v:iX}{rs:List Rw}(h:eO w lo hi v rs)(a:iL w.heap.size w w')(c:hi<=w.heap.size):eO w' lo hi v rs:=h.kept (λg _ b=>a.block g (by omega))
theorem j9.up{w:iW}{hi:Nat}{v:iX}(h:j9 w lo hi v ls)(b:hi<=hi'):j9 w lo hi' v ls:=⟨h.1,λg a=>fE (h.2 g a) b⟩
theorem eO.up{w:iW}{hi:Nat}{v:iX}{rs:List Rw}(h:eO w lo hi v rs)(a:hi<=hi'):eO w lo hi' v rs:=⟨h.1,λg b=>fE (h.2.1 g b) a,λr c=>(h.2.2.1 r c).up a,h.2.2.2⟩
theorem DJ{w:iW}{u v:iX}{xs j:List iX}(h:w.ownsRow B 81 3 u n xs)(i:w.ownsRow B' 83 2 v m j):∀g,u.ownBlock=X g->v.ownBlock≠X g:=by
 intro g h1 a;rcases h.2 with⟨rfl,-⟩|⟨g1,cap,e,rfl,-,f,-⟩
 ·cases h1
 ·rcases i.2 with⟨rfl,-⟩|⟨g2,b,c,rfl,-,d,-⟩
  ·cases a
  ·simp[Value.ownBlock]at h1 a;subst h1 a;rw[f]at d;simp at d
theorem Iz(l:List α)(k:Nat)(a:α)(h:l[k]?=X a):l.set k a=l:=by
 induction l generalizing k with
 |nil=>rfl
 |cons b r c=>
  cases k with
  |zero=>simp at h;subst h;rfl
  |succ k=>rw[bZ,c k (by simpa using h)]
theorem zW{w:iW}{a:Nat}{v:iX}{xs d:List iX}(b:w.ownsRow B 81 3 (Y (X ⟨g,0,O⟩) n a) n xs)(c:w.ownsRow B' 83 2 v m d):v.ownBlock=O∨v.ownBlock≠X g:=Or.inr (DJ b c g rfl)
theorem YL{R:α->α->Prop}{l:List α}(h:l.Pairwise R)(c:∀a b,R a b->R b a){a b:α}(hi:l[i]?=X a)(f:l[j]?=X b)(g:i≠j):R a b:=by
 obtain⟨h1,rfl⟩:=aB.1 hi;obtain⟨e,rfl⟩:=aB.1 f;rw[nh]at h;by_cases d:i<j
 ·exact h i j h1 e d
 ·exact c _ _ (h j i e h1 (by omega))
theorem Nv(a b:iX)(h:a.ownBlock=O∨a.ownBlock≠b.ownBlock):b.ownBlock=O∨b.ownBlock≠a.ownBlock:=by
 cases c:b.ownBlock with
 |none=>exact Or.inl rfl
 |some g=>
  refine Or.inr (λe=>?_)
  rcases h with h|h
  ·rw[h]at e;cases e
  ·exact h (by rw[c,e])
theorem eO.leaves{w w':iW}{hi:Nat}{v:iX}{rs:List Rw}{r:Rw}{ls':List (Int×ByteArray)}(h:eO w lo hi v rs)(c:rs[k]?=X r)(f:w.grownBy w' r.2.2.1.ownBlock)(m:j9 w' lo hi r.2.2.1 ls'):
 eO w' lo hi v (rs.set k (r.1,r.2.1,r.2.2.1,ls')):=by
 have d:=h.2.2.1 r (aO c);refine⟨?_,h.2.1,λx o=>?_,?_⟩
 ·have l:(rs.set k (r.1,r.2.1,r.2.2.1,ls')).map gh=rs.map gh:=by
   rw[sJ];exact Iz _ _ _ (by rw[bi,c];rfl)
  rw[l,gI];refine h.1.kept f ?_;cases n:v.ownBlock with
  |none=>exact Or.inl rfl
  |some g=>exact Or.inr (λe=>DJ h.1 d.1 g n e.symm)
 ·obtain⟨i,hi,rfl⟩:=oH o;have hi2:i<rs.length:=by simpa using hi
  by_cases a:k=i
  ·subst a;simp only[List.getElem_set_self];exact m
  ·rw[List.getElem_set_ne a];have b:=h.2.2.1 rs[i] (qh _);refine⟨b.1.kept f ?_,b.2⟩;exact YL h.2.2.2 Nv (i:=i) (j:=k) (by rw[bi,ay hi2];rfl) (by rw[bi,c];rfl) (λe=>a e.symm)
 ·rw[sJ];simp only;rw[Iz _ _ _ (by rw[bi,c];rfl)]
  exact h.2.2.2
theorem Kc:(Tryz.prog.info? 26).map (·.size)=X 1:=by kernel_rfl
def dj(w:iW)(B:Nat)(v:iX)(bs:List Bk):Prop:=∃a:List Rw,a.map aw=bs/\eO w B w.heap.size v a
variable{bs:List Bk}
theorem dj.form{w:iW}{v:iX}(h:dj w B v bs):∃ad cap,v=Y ad bs.length cap:=by
 obtain⟨a,rfl,hs⟩:=h;obtain⟨ad,cap,rfl,-⟩:=lS hs.1;exact⟨ad,cap,by simp⟩
theorem dj.below{w w':iW}{v:iX}(h:dj w B v bs)(a:iL w.heap.size w w'):dj w' B v bs:=by
 obtain⟨b,e,hs⟩:=h;exact⟨b,e,(hs.below a (am _)).up a.size⟩
theorem eO.down{w:iW}{a hi:Nat}{v:iX}{rs:List Rw}(h:eO w lo hi v rs)(b:a<=lo):eO w a hi v rs:=⟨tL h.1 b,h.2.1,λr c=>⟨tL (h.2.2.1 r c).1 b,(h.2.2.1 r c).2⟩,h.2.2.2⟩
theorem dj.down{w:iW}{v:iX}(h:dj w B v bs)(a:B'<=B):dj w B' v bs:=by
 obtain⟨b,e,hs⟩:=h;exact⟨b,e,hs.down a⟩
theorem dj.cell{w:iW}{B:Nat}{v:iX}{bs:List Bk}(h:dj w B v bs){g:Nat}(b:g<B)(i:Nat)(u:iX):dj (w.setCell ⟨g,i,O⟩ u) B v bs:=by
 obtain⟨a,e,hs⟩:=h;refine⟨a,e,?_⟩;have:=hs.kept (w':=w.setCell ⟨g,i,O⟩ u) (λk h1 _=>aS _ _ _ _ (by show k≠g;omega))
 simpa[World.setCell]using this
def cF(lo hi:Nat)(v:iX)(bs:List Bk):iW->Prop:=λW=>∃a:List Rw,a.map aw=bs/\eO W lo hi v a
theorem cF.loc(lo hi:Nat)(v:iX)(bs:List Bk):mt lo hi (cF lo hi v bs):=by
 rintro w w' a ⟨b,e,h⟩;exact⟨b,e,h.kept a⟩
theorem cF.form{w:iW}{hi:Nat}{v:iX}(h:cF lo hi v bs w):∃ad cap,v=Y ad bs.length cap/\(0<bs.length->∃g,ad=X ⟨g,0,O⟩/\lo<=g/\g<hi):=by
 obtain⟨c,rfl,h⟩:=h;obtain⟨ad,cap,rfl,-,-,a⟩:=lS h.1;refine⟨ad,cap,by simp,λb=>?_⟩
 obtain⟨g,e,h4,-⟩:=a (by simpa using b)
 subst e;exact⟨g,rfl,h4,h.2.1 g rfl⟩
variable{hs:List nZ}
theorem Tk.fla{w a wj:iW}{v:iX}(T:Tk w a hs)(b:iL a.heap.size a wj)(f:dj wj a.heap.size v bs):Tk w wj ((a.heap.size,wj.heap.size,cF a.heap.size wj.heap.size v bs)::hs):=T.add b (cF.loc _ _ _ _) f
theorem cF.of{w:iW}{hi:Nat}{v:iX}(h:cF lo hi v bs w)(b:hi<=w.heap.size)(a:B<=lo):dj w B v bs:=by
 obtain⟨c,e,h⟩:=h;exact⟨c,e,(h.up b).down a⟩
def Tx(ls:List (Int×ByteArray)):Prop:=∀t∈ls,t.2.size<=1048576
def mJ(rs:List Rw):Prop:=∀r∈rs,Tx r.2.2.2
def jf(w:iW)(u:iX)(ls:List (Int×ByteArray)):Prop:=
 ∃a lc,u=Y a ls.length lc/\(a=O->lc=0)/\∀j t,ls[j]?=X t->∃gl o,a=X ⟨gl,o,O⟩/\w.cell? ⟨gl,o+j*2,O⟩=X (I J t.1)/\w.cell? ⟨gl,o+j*2+1,O⟩=X (iT t.2)
def dX(w:iW)(v:iX)(rs:List Rw):Prop:=
 ∃b a,v=Y b rs.length a/\(b=O->a=0)/\∀k r,rs[k]?=X r->∃g,b=X ⟨g,0,O⟩/\(w.cell? ⟨g,k*3,O⟩=X (iB r.1)/\w.cell? ⟨g,k*3+1,O⟩=X (I J r.2.1)/\w.cell? ⟨g,k*3+2,O⟩=X r.2.2.1)/\jf w r.2.2.1 r.2.2.2
theorem jf.below{w w':iW}{u:iX}(h:jf w u ls)(a:iL w.heap.size w w'):jf w' u ls:=by
 obtain⟨f,lc,e,c,h⟩:=h;refine⟨f,lc,e,c,λj t d=>?_⟩
 obtain⟨gl,o,b,c1,c2⟩:=h j t d;exact⟨gl,o,b,(a.cell (aT w _ c1)).trans c1,(a.cell (aT w _ c2)).trans c2⟩
theorem dX.below{w w':iW}{v:iX}{rs:List Rw}(h:dX w v rs)(b:iL w.heap.size w w'):dX w' v rs:=by
 obtain⟨j,a,e,d,h⟩:=h;refine⟨j,a,e,d,λk r i=>?_⟩
 obtain⟨g,c,⟨c1,c2,c3⟩,f⟩:=h k r i;exact⟨g,c,⟨(b.cell (aT w _ c1)).trans c1,(b.cell (aT w _ c2)).trans c2,(b.cell (aT w _ c3)).trans c3⟩,f.below b⟩
theorem dX.at{w:iW}{c:Option Addr}{a:Nat}{rs:List Rw}{r:Rw}(h:dX w (Y c n a) rs)(d:rs[k]?=X r):∃g,c=X ⟨g,0,O⟩/\(w.cell? ⟨g,k*3,O⟩=X (iB r.1)/\w.cell? ⟨g,k*3+1,O⟩=X (I J r.2.1)/\w.cell? ⟨g,k*3+2,O⟩=X r.2.2.1)/\jf w r.2.2.1 r.2.2.2:=by
 obtain⟨f,b,e,-,h⟩:=h;injection e with e1 e2 e3
 subst e1;exact h k r d
theorem Gu{w:iW}{a:Option Addr}{xs:List iX}(h:w.ownsRow B e size (Y a m cap) n xs):a=O->cap=0:=by
 rintro rfl;rcases h.2 with⟨h,-⟩|⟨g,b,c,h,-⟩
 ·injection h
 ·cases h
theorem j9.rd{w:iW}{hi:Nat}{u:iX}(h:j9 w lo hi u ls):jf w u ls:=by
 obtain⟨e,lc,rfl,-,-,d⟩:=lS h.1;refine⟨e,lc,rfl,Gu h.1,λj t a=>?_⟩
 obtain⟨gl,rfl,-,-⟩:=d (by have:=(aB.1 a).1;omega)
 obtain⟨b,c⟩:=JY h.1 a;exact⟨gl,0,rfl,by rw[eV];exact b,by rw[eV];exact c⟩
theorem eO.rd{w:iW}{hi:Nat}{v:iX}{rs:List Rw}(h:eO w lo hi v rs):dX w v rs:=by
 obtain⟨d,a,rfl,-,-,c⟩:=lS h.1;refine⟨d,a,rfl,Gu h.1,λk r b=>?_⟩
 obtain⟨g,rfl,-,-⟩:=c (by have:=(aB.1 b).1;omega)
 exact⟨g,rfl,Bl (k:=k) (t:=gh r) h.1 (by rw[bi,b];rfl),(h.2.2.1 r (aO b)).rd⟩
theorem aab(g o j:Nat):(⟨g,o,O⟩:Addr).add j=⟨g,o+j,O⟩:=by
 simp only[Addr.add];split<;>simp_all
theorem jf.cells{w:iW}{gl o n lc:Nat}{ls:List (Int×ByteArray)}(h:jf w (Y (X ⟨gl,o,O⟩) n lc) ls)(j:Nat)(u:iX)(b:(fI ls)[j]?=X u):w.cell? ⟨gl,o+j,O⟩=X u:=by
 obtain⟨m,l,e,-,h⟩:=h;injection e with e1 e2 e3
 subst e1;have c:=(aB.1 b).1;rw[EA]at c;obtain⟨t,f⟩:∃t,ls[j/2]?=X t:=⟨_,ay (by omega)⟩
 obtain⟨i,p,a,c1,c2⟩:=h _ t f;injection a with a
 injection a with e5 e6
 subst e5 e6;obtain⟨d,g⟩:=DF ls (j/2) t f;rcases Nat.mod_two_eq_zero_or_one j with k|k
 ·have e:j/2*2=j:=by omega
  rw[e]at d c1;rw[b]at d;cases d;exact c1
 ·have e:j/2*2+1=j:=by omega
  rw[e,b]at g;cases g;rw[ma,e]at c2;exact c2
theorem jf.head{w:iW}{a:Option Addr}(h:jf w (Y a n lc) ls)(b:0<ls.length):∃gl o,a=X ⟨gl,o,O⟩:=by
 obtain⟨d,c,e,-,h⟩:=h;injection e with e1 e2 e3
 subst e1;obtain⟨gl,o,e,-⟩:=h 0 _ (ay b);exact⟨gl,o,e⟩
theorem jf.two{w:iW}{o:Nat}{t:Int×ByteArray}(h:jf w (Y (X ⟨gl,o,O⟩) n lc) ls)(a:ls[j]?=X t):w.cell? ⟨gl,o+j*2,O⟩=X (I J t.1)/\w.cell? ⟨gl,o+j*2+1,O⟩=X (iT t.2):=by
 obtain⟨b,c⟩:=DF ls j t a;exact⟨h.cells _ _ b,h.cells _ _ c⟩
theorem jf.none0{w:iW}{a:Option Addr}(h:jf w (Y a n lc) ls):a=O->lc=0:=by
 obtain⟨c,b,e,h,-⟩:=h;injection e with e1 e2 e3
 subst e1 e3;exact h
theorem dX.head{w:iW}{b:Option Addr}{a:Nat}{rs:List Rw}(h:dX w (Y b n a) rs)(c:0<rs.length):∃g,b=X ⟨g,0,O⟩:=by
 obtain⟨g,e,-⟩:=h.at (ay c);exact⟨g,e⟩
theorem Cq(x:Bool)(y:Int)(v:iX)(ls:List (Int×ByteArray))(w:iW)(Q:ls.length<=1048576)(r:jf w v ls):
 iK Tryz.prog 212 #[iA #[iB x,I J y,v]] w λe w'=>e=G (I J (br ls:Nat))/\iL w.heap.size w w':=by
 have s:=r;obtain⟨ad,a,rfl,-,-⟩:=s;have l:=af ((az w.heap.size w).alloc (am _) (iC #[iB x,I J y,Y ad ls.length a] 81));have n:=af (r.below l.o);clear r;go_enter Tryz.func212,Tryz.ntmps212;go_wp2;have b:=ai _ _ 2 _ _ _ (aC w (iC #[iB x,I J y,Y ad ls.length a] 81));have f:ah ((w.alloc (iC #[iB x,I J y,Y ad ls.length a] 81)).cell? ⟨w.heap.size,2,O⟩=X (Y ad ls.length a)):=b;have h:=af (show(w.alloc (iC #[iB x,I J y,Y ad ls.length a] 81)).heap.size=w.heap.size+1 by simp)
 clear b;generalize w.alloc (iC #[iB x,I J y,Y ad ls.length a] 81)=H at l n f h⊢;go_loopw [3] (λF wr=>∃k:Nat,k<=ls.length/\F=I J k/\ah (∀(j:Nat) (u:Int×ByteArray),j<k->ls[j]?=X u->u.1≠0)/\ah (iL H.heap.size H wr)) (λF _=>ls.length-(intOf F).toNat)
 case atStart=>exact⟨0,aK _,rfl,(show∀(j:Nat) (u:Int×ByteArray),j<0->ls[j]?=X u->u.1≠0 from λj u L=>by omega),az _ _⟩
 case round=>
  obtain⟨k,P,rfl,q,m⟩:=hrel;have b:wr.cell? ⟨w.heap.size,2,O⟩=X (Y ad ls.length a):=(m.o.cell (show w.heap.size<H.heap.size by have:=h.o;omega)).trans f.o
  have d:=af (l.o.trans (m.o.mono l.o.size));by_cases M:(k:Int)<ls.length
  ·obtain⟨g,lo,K⟩:=n.o.head (by omega)
   subst K;have C:k<ls.length:=by omega
   obtain⟨z,t,D⟩:∃z t,ls[k]?=X (z,t):=⟨ls[k].1,ls[k].2,ay C⟩;obtain⟨c1,-⟩:=(n.o.below m.o).two D;simp only at c1;have i:=af D;have R:(0:Int)<=k:=by omega
   clear D;by_cases E:z=0
   ·subst E;have p:=af (Ah i.o rfl q.o);go_wp2;go_ret;exact⟨by rw[p.o];rfl,d.o⟩
   ·have N:(z==0)=iF:=by simpa using E
    go_wp2;go_roundw
    case rel=>
     refine⟨k+1,by omega,by go_num,af (λj u L c=>?_),m⟩
     by_cases A:j=k
     ·subst A;rw[i.o]at c;cases c;exact E
     ·exact q.o j u (by omega) c
    case measure=>simp[intOf];omega
  ·have B:k=ls.length:=by omega
   have p:=af (ES (ls:=ls) (λj u c=>q.o j u (by have:=(aB.1 c).1;omega) c))
   clear B;go_wp2;go_ret;exact⟨by rw[p.o];rfl,d.o⟩
theorem gO(x lo hi:Int)(b:Bool)(w:iW)(h:(lo<=x/\x<=hi/\b=iV)∨((x<lo∨lo<=x/\¬x<=hi)/\b=iF)):
 iK Tryz.prog 35 #[I J x,I J lo,I J hi] w λe w'=>e=G (iB b)/\w'=w:=by
 rcases h with⟨h1,a,rfl⟩|⟨h1|⟨h1,a⟩,rfl⟩
 all_goals
  go_enter Tryz.func35,Tryz.ntmps35;go_wp2;go_ret;exact⟨rfl,rfl⟩
theorem ie(x lo hi:Int)(w:iW):
 iK Tryz.prog 35 #[I J x,I J lo,I J hi] w λe w'=>e=G (iB (decide (lo<=x/\x<=hi)))/\w'=w:=by
 apply gO;by_cases h:lo<=x/\x<=hi
 ·exact .inl ⟨h.1,h.2,aW h⟩
 ·exact .inr ⟨by omega,bf h⟩
theorem Vw{b leaf:Int}(h:¬(0<=b/\b<=(bs.length:Int)-1)):iM bs b leaf t=iF:=by
 unfold iM;cases a:bs[b.toNat]? with
 |none=>rfl
 |some r=>
  have:=(aB.1 a).1;exact bf (λc=>h ⟨c.1,by omega⟩)
theorem WM{b leaf:Int}{r:Bk}(h0:0<=b)(a:bs[b.toNat]?=X r):iM bs b leaf t=decide (r.1=iF/\leaf<4/\leaf=br r.2.2/\1<=t.size/\t.size<=120):=by
 unfold iM;rw[a];simp[h0]
theorem Ut(v:iX)(rs:List Rw)(b leaf:Int)(t:ByteArray)(w:iW)(S:rs.length<=1048576)(z:∀r∈rs,r.2.2.2.length<=1048576)(F:dX w v rs):
 iK Tryz.prog 233 #[iA #[v],I J b,I J leaf,iT t] w λe w'=>e=G (iB (iM (rs.map aw) b leaf t))/\iL w.heap.size w w':=by
 have H:=F;obtain⟨ad,p,rfl,-,-⟩:=H;have E:=af z;have j:=af ((az w.heap.size w).alloc (am _) (iC #[Y ad rs.length p] 26));have P:=af (F.below j.o);have R:IntKind.i64.wrap ((rs.length:Int)-1)=(rs.length:Int)-1:=by rw[cm];omega
 clear F z;by_cases l:0<=b/\b<=(rs.length:Int)-1
 ·have a:decide (0<=b/\b<=(rs.length:Int)-1)=iV:=aW l;obtain⟨k,rfl⟩:∃k:Nat,b=k:=⟨b.toNat,by omega⟩
  have K:k<rs.length:=by omega
  have A:rs[k]?=X rs[k]:=ay K;generalize rs[k]=r at A;have h:=aO A;have B:=E.o r h;obtain⟨g,Q,⟨c1,c2,c3⟩,f⟩:=P.o.at A;subst Q;obtain⟨x,y,u,ls⟩:=r;simp only at c1 c2 c3;simp only at f B;have C:=af (WM (bs:=rs.map aw) (leaf:=leaf) (t:=t) (r:=(x,y,ls)) l.1 (by rw[bi,bk,A];rfl))
  have s:=f;obtain⟨U,O,rfl,-,-⟩:=s;have D:=af f;have T:(0:Int)<=k:=by omega
  clear A h f l;cases x with
  |true=>
   have c:ah (iM (rs.map aw) k leaf t=iF):=C.o.trans (bf (by simp))
   go_enter Tryz.func233,Tryz.ntmps233;go_wp2_with fail;refine(ie (k:Int) 0 ((rs.length:Int)-1) _).mono ?_;rintro e M ⟨rfl,rfl⟩;rw[a];clear a;go_wp2;go_ret;exact⟨by rw[c.o];rfl,j.o⟩
  |false=>
   by_cases d:leaf<4
   ·have q:decide (leaf<4)=iV:=aW d;go_enter Tryz.func233,Tryz.ntmps233;go_wp2_with fail;refine(ie (k:Int) 0 ((rs.length:Int)-1) _).mono ?_;rintro e M ⟨rfl,rfl⟩;rw[a];clear a;go_wp2_with fail;refine(Cq iF y _ ls _ B D.o).mono ?_;rintro e V ⟨rfl,N⟩;have n:=af (j.o.trans (N.mono j.o.size));clear N;by_cases m:leaf=br ls
    ·have L:(leaf==(br ls:Int))=iV:=by simp[m]
     have c:ah (iM (rs.map aw) k leaf t=decide ((1:Int)<=t.size/\(t.size:Int)<=120)):=by
      show _=_;rw[C.o];congr 1;apply propext;constructor
      ·intro i;exact⟨by have:=i.2.2.2.1;omega,by have:=i.2.2.2.2;omega⟩
      ·intro i;exact⟨by trivial,d,m,by omega,by omega⟩
     clear m;go_wp2_with fail;refine(ie (t.size:Int) 1 120 _).mono ?_;rintro e W ⟨rfl,rfl⟩;rw[<-c.o];clear c;go_wp2;go_ret;exact⟨rfl,n.o⟩
    ·have L:(leaf==(br ls:Int))=iF:=by simpa using m
     have c:ah (iM (rs.map aw) k leaf t=iF):=C.o.trans (bf (λi=>m i.2.2.1))
     clear m;go_wp2;go_ret;exact⟨by rw[c.o];rfl,n.o⟩
   ·have q:decide (leaf<4)=iF:=bf d;have c:ah (iM (rs.map aw) k leaf t=iF):=C.o.trans (bf (λi=>d i.2.1))
    go_enter Tryz.func233,Tryz.ntmps233;go_wp2_with fail;refine(ie (k:Int) 0 ((rs.length:Int)-1) _).mono ?_;rintro e M ⟨rfl,rfl⟩;rw[a];clear a;go_wp2;go_ret;exact⟨by rw[c.o];rfl,j.o⟩
 ·have a:decide (0<=b/\b<=(rs.length:Int)-1)=iF:=bf l;have c:ah (iM (rs.map aw) b leaf t=iF):=Vw (by rw[bm];exact l)
  clear l;go_enter Tryz.func233,Tryz.ntmps233;go_wp2_with fail;refine(ie b 0 ((rs.length:Int)-1) _).mono ?_;rintro e M ⟨rfl,rfl⟩;rw[a];clear a;go_wp2;go_ret;exact⟨by rw[c.o];rfl,j.o⟩
theorem tK(x:Int)(t:ByteArray)(w:iW):
 iK Tryz.prog 176 #[iA #[I J x,iT t]] w λe w'=>e=G (iB (gU (x,t)))/\iL w.heap.size w w':=by
 have d:=af ((az w.heap.size w).alloc (am _) (iC #[I J x,iT t] 83));by_cases h0:x=0
 ·subst h0;have c:ah (gU (0,t)=t.toList.isEmpty):=by
   show _=_;simp only[gU];rw[m7];have b:t.size=t.data.toList.length:=rfl;cases g:t.data.toList with
   |nil=>rw[g]at b;exact aW (Or.inl ⟨trivial,b⟩)
   |cons a l=>rw[g]at b;exact bf (by simp only[aV]at b;omega)
  go_enter Tryz.func176,Tryz.ntmps176;go_wp2;go_ret;exact⟨by rw[c.o];rfl,d.o⟩
 ·by_cases h1:x=1
  ·subst h1;have c:ah (gU (1,t)=decide ((1:Int)<=t.size/\(t.size:Int)<=120)):=by
    show _=_;simp only[gU];congr 1;apply propext;simp;omega
   go_enter Tryz.func176,Tryz.ntmps176;go_wp2_with fail;refine(ie (t.size:Int) 1 120 _).mono ?_;rintro e k ⟨rfl,rfl⟩;rw[<-c.o];clear c;go_wp2;go_ret;exact⟨rfl,d.o⟩
  ·have h:(x==0)=iF:=by simpa using h0
   have i:(x==1)=iF:=by simpa using h1
   by_cases f:x=2
   ·subst f;have c:ah (gU (2,t)=decide ((t.size:Int)<=120)):=by
     show _=_;simp only[gU];congr 1;apply propext;simp;omega
    go_enter Tryz.func176,Tryz.ntmps176;go_wp2;go_ret;exact⟨by rw[c.o];rfl,d.o⟩
   ·have j:(x==2)=iF:=by simpa using f
    have c:ah (gU (x,t)=iF):=by
     show _=_;simp only[gU];exact bf (by omega)
    go_enter Tryz.func176,Tryz.ntmps176;go_wp2;go_ret;exact⟨by rw[c.o];rfl,d.o⟩
theorem xh(v:iX)(rs:List Rw)(w:iW)(hl:rs.length<=1048576)(ax:∀r∈rs,r.2.2.2.length<=1048576)(ha:dX w v rs):
 iK Tryz.prog 137 #[iA #[v]] w λe w'=>e=G (iB (bo (rs.map aw)))/\iL w.heap.size w w':=by
 have aF:=ha;obtain⟨ad,d,rfl,-,-⟩:=aF;have HB:=af ((az w.heap.size w).alloc (am _) (iC #[Y ad rs.length d] 26));have HA:=af (ha.below HB.o);have aa:=ai _ _ 0 _ _ _ (aC w (iC #[Y ad rs.length d] 26));have ac:ah ((w.alloc (iC #[Y ad rs.length d] 26)).cell? ⟨w.heap.size,0,O⟩=X (Y ad rs.length d)):=aa;have ao:=af (show(w.alloc (iC #[Y ad rs.length d] 26)).heap.size=w.heap.size+1 by simp)
 have aB:=af ax;clear ha aa ax;go_enter Tryz.func137,Tryz.ntmps137;go_wp2;generalize w.alloc (iC #[Y ad rs.length d] 26)=wA at HB HA ac ao⊢;go_loopw [3] (λiv wr=>∃k:Nat,k<=rs.length/\iv=I J k/\ah (∀r∈(rs.take k),dm (aw r)=iV)/\ah (iL wA.heap.size wA wr)) (λiv _=>rs.length-(intOf iv).toNat)
 case atStart=>exact⟨0,aK _,rfl,(show∀r∈rs.take 0,dm (aw r)=iV by simp),az _ _⟩
 case round=>
  rename iW=>wo
  obtain⟨k,hk,rfl,HN,HW⟩:=hrel;have aa:wo.cell? ⟨w.heap.size,0,O⟩=X (Y ad rs.length d):=(HW.o.cell (show w.heap.size<wA.heap.size by have:=ao.o;omega)).trans ac.o
  have V:=af (HB.o.trans (HW.o.mono HB.o.size));have aH:=HB.o.size;by_cases aJ:(k:Int)<rs.length
  ·have ar:k<rs.length:=by omega
   have p:rs[k]?=X rs[k]:=ay ar;have ab:rs.take (k+1)=rs.take k++[rs[k]]:=eY ar;generalize rs[k]=r at p ab;have H:=aO p;have aG:=aB.o r H;obtain⟨g,eg,⟨c1,c2,c3⟩,T⟩:=(HA.o.below HW.o).at p;subst eg;obtain⟨x,y,u,ls⟩:=r;simp only at c1 c2 c3;simp only at T aG;have av:=T;obtain⟨U,c,rfl,-,-⟩:=av;have ag:=af T;have aD:=af ab;have ak:=af H;have k0:(0:Int)<=k:=by omega
   clear p ab T H;have N:=af (pj (f:=aw) ak.o);have D:=af (V.o.alloc (by have:=V.o.size;exact this) (iC #[iB x,I J y,Y U ls.length c] 81))
   by_cases S:ls.length=4
   ·have au:((ls.length:Int) !=4)=iF:=by rw[S];rfl
    have aA:=af S;clear S;have Q:=af ((az wo.heap.size wo).alloc (am _) (iC #[iB x,I J y,Y U ls.length c] 81));have R:=ai _ _ 2 _ _ _ (aC wo (iC #[iB x,I J y,Y U ls.length c] 81));have ae:ah ((wo.alloc (iC #[iB x,I J y,Y U ls.length c] 81)).cell? ⟨wo.heap.size,2,O⟩=X (Y U ls.length c)):=R;have Z:=af (show(wo.alloc (iC #[iB x,I J y,Y U ls.length c] 81)).heap.size=wo.heap.size+1 by simp)
    clear R;by_cases hy:0<=y/\y<=1000000000
    ·have HY:=af hy;have K:decide (0<=y/\y<=1000000000)=iV:=aW hy;clear hy;go_wp2_with fail;refine(ie y 0 1000000000 _).mono ?_;rintro e l ⟨rfl,rfl⟩;rw[K];clear K;go_wp2;generalize wo.alloc (iC #[iB x,I J y,Y U ls.length c] 81)=wB at D Q ae Z⊢;go_loopw [5] (λiv wr=>∃j:Nat,j<=ls.length/\iv=I J j/\ah (∀i,i<j->iz ls i=iV)/\ah (iL wB.heap.size wB wr)) (λiv _=>ls.length-(intOf iv).toNat)
     case atStart=>exact⟨0,aK _,rfl,(show∀i,i<0->iz ls i=iV from λi hi=>by omega),az _ _⟩
     case round=>
      obtain⟨j,hj,rfl,HJ,s⟩:=hrel;have R:wr.cell? ⟨wo.heap.size,2,O⟩=X (Y U ls.length c):=(s.o.cell (show wo.heap.size<wB.heap.size by have:=Z.o;omega)).trans ae.o
      have q:=af (D.o.trans (s.o.mono D.o.size));by_cases aI:(j:Int)<ls.length
      ·obtain⟨gl,lo,el⟩:=ag.o.head (by omega)
       subst el;have F:j<ls.length:=by omega
       obtain⟨z,t,ht⟩:∃z t,ls[j]?=X (z,t):=⟨ls[j].1,ls[j].2,ay F⟩;have an:=af ((ag.o.below Q.o).below s.o);obtain⟨d1,d2⟩:=an.o.two ht;simp only at d1 d2;have HT:=af ht;have j0:(0:Int)<=j:=by omega
       clear ht;have P:ah (∀l,iL wr.heap.size wr l->l.cell? ⟨wo.heap.size,2,O⟩=X (Y (X ⟨gl,lo,O⟩) ls.length c)/\jf l (Y (X ⟨gl,lo,O⟩) ls.length c) ls):=λl a=>by
        have s1:=Z.o;have s2:=s.o.size;exact⟨(a.cell (show wo.heap.size<wr.heap.size by omega)).trans R,an.o.below a⟩
       cases n:gU (z,t)with
       |false=>
        have L:ah (bo (rs.map aw)=iF):=yQ N.o (Ep (b:=aw (x,y,Y (X ⟨gl,lo,O⟩) ls.length c,ls)) F (Gw HT.o n));go_wp2_with fail;refine(tK z t _).mono ?_;rintro e l ⟨rfl,a⟩;rw[n];have M:=af (q.o.trans (a.mono q.o.size));clear a;go_wp2;go_ret;exact⟨by rw[L.o];rfl,M.o⟩
       |true=>
        have aj:=af n;cases j with
        |zero=>
         simp only[mW,pP]at d1 d2;go_wp2_with fail;refine(tK z t _).mono ?_;rintro e l ⟨rfl,a⟩;rw[n];have A:=af (s.o.trans (a.mono s.o.size));obtain⟨q1,C⟩:=P.o l a;clear a C;go_wp2;refine⟨⟨1,by omega,rfl,(show∀i,i<1->iz ls i=iV from λi hi=>?_),A⟩,by simp[intOf];omega⟩
         obtain rfl:i=0:=by omega
         exact Gn HT.o aj.o
        |succ m=>
         have hm:m<ls.length:=by omega
         obtain⟨zp,tp,hp⟩:∃z t,ls[m]?=X (z,t):=⟨ls[m].1,ls[m].2,ay hm⟩;have HP:=af hp;clear hp;have E:zp≠0∨z=0->ah (∀i,i<m+1+1->iz ls i=iV):=λhq i hi=>by
          by_cases h1:i=m+1
          ·subst h1;exact H7 HT.o HP.o aj.o hq
          ·exact HJ.o i (by omega)
         by_cases h:zp=0
         ·by_cases B:z=0
          ·have W:=E (Or.inr B);have e1:(zp==0)=iV:=by simp[h]
           have e2:(z !=0)=iF:=by simp[B]
           clear E h B;go_wp2_with fail;refine(tK z t _).mono ?_;rintro e l ⟨rfl,a⟩;rw[n];have A:=af (s.o.trans (a.mono s.o.size));obtain⟨q1,C⟩:=P.o l a;obtain⟨p1,-⟩:=C.two HT.o;obtain⟨p2,-⟩:=C.two HP.o;simp only at p1 p2;clear a C;go_wp2;exact⟨⟨m+1+1,by omega,rfl,W,A⟩,by simp[intOf];omega⟩
          ·have e1:(zp==0)=iV:=by simp[h]
           have e2:(z !=0)=iV:=by simp[B]
           have L:ah (bo (rs.map aw)=iF):=yQ N.o (Ep (b:=aw (x,y,Y (X ⟨gl,lo,O⟩) ls.length c,ls)) F (JX HT.o HP.o h B));clear E h B;go_wp2_with fail;refine(tK z t _).mono ?_;rintro e l ⟨rfl,a⟩;rw[n];have A:=af (s.o.trans (a.mono s.o.size));have M:=af (q.o.trans (a.mono q.o.size));obtain⟨q1,C⟩:=P.o l a;obtain⟨p1,-⟩:=C.two HT.o;obtain⟨p2,-⟩:=C.two HP.o;simp only at p1 p2;clear a C;go_wp2;go_ret;exact⟨by rw[L.o];rfl,M.o⟩
         ·have W:=E (Or.inl h);have e1:(zp==0)=iF:=by simpa using h
          clear E h;go_wp2_with fail;refine(tK z t _).mono ?_;rintro e l ⟨rfl,a⟩;rw[n];have A:=af (s.o.trans (a.mono s.o.size));have M:=af (q.o.trans (a.mono q.o.size));obtain⟨q1,C⟩:=P.o l a;obtain⟨p1,-⟩:=C.two HT.o;obtain⟨p2,-⟩:=C.two HP.o;simp only at p1 p2;clear a C;go_wp2;exact⟨⟨m+1+1,by omega,rfl,W,A⟩,by simp[intOf];omega⟩
      ·have ap:j=ls.length:=by omega
       have al:ah (∀r∈rs.take (k+1),dm (aw r)=iV):=by
        show∀r∈rs.take (k+1),dm (aw r)=iV;intro r p;rw[aD.o]at p;rcases bG.1 p with p|p
        ·exact HN.o r p
        ·rw[bR]at p;subst p;exact Ev (b:=(x,y,ls)) aA.o HY.o (λi hi=>HJ.o i (by rw[ap];exact hi))
       have aE:=af ((HW.o.trans (Q.o.mono HW.o.size)).trans (s.o.mono (bT HW.o.size Q.o.size)));clear ap;go_wp2;go_roundw
       case rel=>exact⟨k+1,by omega,by go_num,al,aE⟩
       case measure=>simp[intOf];omega
    ·have L:ah (bo (rs.map aw)=iF):=yQ N.o (ZC hy);have K:decide (0<=y/\y<=1000000000)=iF:=bf hy;clear hy;go_wp2_with fail;refine(ie y 0 1000000000 _).mono ?_;rintro e l ⟨rfl,rfl⟩;rw[K];clear K;go_wp2;go_ret;exact⟨by rw[L.o];rfl,D.o⟩
   ·have au:((ls.length:Int) !=4)=iV:=by simp;omega
    have L:ah (bo (rs.map aw)=iF):=yQ N.o (Lr S);go_wp2;go_ret;exact⟨by rw[L.o];rfl,D.o⟩
  ·have aq:k=rs.length:=by omega
   have hn:=HN.o;rw[aq,bL (am _)]at hn;have L:ah (bo (rs.map aw)=decide (3<=(rs.length:Int)/\(rs.length:Int)<=10)):=by
    show _=_;rw[Hc (λb hb=>by obtain⟨r,p,rfl⟩:=bJ.1 hb;exact hn r p)]
    congr 1;apply propext;rw[bm];omega
   clear hn aq;go_wp2_with fail;refine(ie (rs.length:Int) 3 10 _).mono ?_;rintro e l ⟨rfl,rfl⟩;rw[<-L.o];clear L;go_wp2;go_ret;exact⟨rfl,V.o⟩
theorem GY{w w':iW}{hi:Nat}{v u:iX}{xs:List iX}(c:w.ownsRow B 81 3 v n xs)(a:w.grownBy w' v.ownBlock)(h:j9 w B hi u ls):j9 w' B hi u ls:=by
 refine⟨h.1.kept a ?_,h.2⟩;cases b:v.ownBlock with
 |none=>
  cases d:u.ownBlock with
  |none=>exact Or.inl rfl
  |some g=>exact Or.inr (by simp)
 |some g=>exact Or.inr (DJ c h.1 g b)
theorem eO.snoc {w w':iW} {v m:iX} {d:List Rw} {r:Rw} (h:eO w B w.heap.size v d) (j:w.grownBy w' v.ownBlock)
 (l:w'.ownsRow B 81 3 m (d.length+1) (gB (d.map gh)++[iB r.1,I J r.2.1,r.2.2.1])) (k:w.ownsRow B' 83 2 r.2.2.1 r.2.2.2.length (fI r.2.2.2)) (o:B<=B')
 (f:∀q∈d,∀g,q.2.2.1.ownBlock=X g->g<B'):eO w' B w'.heap.size m (d++[r]):=by
 have hs:=j.size;refine⟨?_,λg c=>(iS l g c).2,λq c=>?_,?_⟩
 ·rw[fm,aJ,Wf];exact l
 ·rcases bG.1 c with c|c
  ·exact(GY h.1 j (h.2.2.1 q c)).up hs
  ·rw[bR]at c;subst c;exact(GY h.1 j ⟨tL k o,λg c=>(iS k g c).2⟩).up hs
 ·rw[fm,iu];refine⟨h.2.2.2,by simp,λa p b i=>?_⟩
  obtain⟨q,c,rfl⟩:=bJ.1 p;simp at i;subst i;cases n:q.2.2.1.ownBlock with
  |none=>exact Or.inl rfl
  |some g=>
   refine Or.inr (λe=>?_)
   have s:=f q c g n;have t:=(iS k g e.symm).1;omega
theorem eO.cellb{w:iW}{v:iX}{rs:List Rw}(h:eO w B w.heap.size v rs)(a:g<B)(i:Nat)(u:iX):eO (w.setCell ⟨g,i,O⟩ u) B (w.setCell ⟨g,i,O⟩ u).heap.size v rs:=by
 have:=h.kept (w':=w.setCell ⟨g,i,O⟩ u) (λk h1 _=>aS _ _ _ _ (by show k≠g;omega))
 simpa[World.setCell]using this
theorem UP(w:iW):(w.alloc (iC #[] 83)).ownsRow w.heap.size 83 2 (Y (X ⟨w.heap.size,0,O⟩) 0 0) 0 (fI []):=
 ⟨rfl,.inr ⟨w.heap.size,0,#[],rfl,am _,aC w _,am _,by unfold maxLen;omega,rfl,rfl⟩⟩
theorem Zv (w:iW) {o:Oper} {Q:Exit->Act->iW->Prop} (q:o.guard=O) (s x:Operand)
 (e:o.op=Op.call {callee:=Callee.builtin Builtin.append,args:= #[s,x],argTypes:= #[79,79]}) (g:Nat) (hs:a.eval s=Y (X ⟨g,0,O⟩) 0 0)
 (b:w.ownsRow g 83 2 (Y (X ⟨g,0,O⟩) 0 0) 0 (fI [])) (i:Option Addr) (c:Nat) (ls:List (Int×ByteArray)) (r:a.eval x=Y i ls.length c) (C:ls.length<=1048576)
 (d:jf w (Y i ls.length c) ls)
 (p:∀h w',w'.ownsRow g 83 2 h ls.length (fI ls)->w.grownBy w' (X g)->wpList Tryz.prog ops Q rest (a.put o.dst h) w'):wpList Tryz.prog ops Q (o::rest) a w:=by
 obtain⟨t,hi,m,f,n⟩:=bV zC;have y:=(iS b g rfl).2;by_cases h0:ls.length=0
 ·have l:ls=[]:=gK h0;subst l;refine Ho w q s x _ e g _ t 2 Tryz.underlying79 hi f g 0 0 [] hs b i 0 c [] r rfl ?_ (by simp) (by simp) (am _) (λw' h1 k=>p _ w' h1 k)
  exact λA=>⟨rfl,d.none0 A⟩
 ·obtain⟨v,B,rfl⟩:=d.head (by omega)
  refine cZ w q s x _ e g _ t (iA #[I J 0,iT ⟨#[]⟩]) 2 24 Tryz.underlying79 hi m f n rfl (by decide) _ 0 [] hs b ⟨v,B,O⟩ ls.length c (fI ls) r (EA ls) (λj u z=>by rw[aab];exact d.cells j u z) (UV ls) (by unfold maxLen;omega) (by omega) (by omega) ?_
  intro h w' h1 k _;rw[eV]at h1;exact p h w' h1 k
theorem Vr(w:iW)(cs:Array iX)(t:TypeId)(g:Nat)(a:w.heap.size=g):∀(j:Nat) (u:iX),cs.toList[j]?=X u->(w.alloc (iC cs t)).cell? ((⟨g,0,O⟩:Addr).add j)=X u:=by
 intro j u b;subst a;rw[fw,ai _ _ j _ _ _ (aC w (iC cs t))]
 simpa using b
theorem Qa(x:Bool)(y:Int)(a:Option Addr)(n c:Nat):∀u∈ [iB x,I J y,Y a n c],u.oneCell'=iV:=by
 intro u b;simp at b;rcases b with h|h|h<;>subst h<;>rfl
def pA(w wr:iW)(b a:iX)(d:List Rw):Prop:=
 wr.heap[w.heap.size]?=X (iC #[b] 26 (0,0))/\wr.heap[w.heap.size+1]?=X (iC #[Y O 0 0] 26 (0,0))/\wr.heap[w.heap.size+1+1]?=X (iC #[a] 26 (0,0))/\
  eO wr (w.heap.size+3) wr.heap.size a d/\iL w.heap.size w wr
theorem Yk(w:iW)(a:iX):pA w (((w.alloc (iC #[a] 26)).alloc (iC #[Y O 0 0] 26)).alloc (iC #[Y O 0 0] 26)) a (Y O 0 0) []:=by
 refine⟨?_,?_,?_,⟨⟨rfl,.inl ⟨rfl,rfl⟩⟩,λg b=>(by cases b),λr c=>(by cases c),List.Pairwise.nil⟩,((bh).alloc (by simp) _).alloc (by simp;omega) _⟩
 ·rw[gt _ _ _ (by simp;omega),gt _ _ _ (by simp)]
  exact aC w _
 ·rw[gt _ _ _ (by simp)]
  have:=aC (w.alloc (iC #[a] 26)) (iC #[Y O 0 0] 26);rw[show(w.alloc (iC #[a] 26)).heap.size=w.heap.size+1 by simp]at this
  exact this
 ·have:=aC ((w.alloc (iC #[a] 26)).alloc (iC #[Y O 0 0] 26)) (iC #[Y O 0 0] 26);rw[show((w.alloc (iC #[a] 26)).alloc (iC #[Y O 0 0] 26)).heap.size=w.heap.size+1+1 by simp]at this
  exact this
theorem pA.below{w wr w':iW}{b c:iX}{d:List Rw}(h:pA w wr b c d)(a:iL wr.heap.size wr w'):pA w w' b c d:=by
 obtain⟨h1,g,e,h4,f⟩:=h;have i:=(aL.1 e).1;exact⟨(a.block _ (by omega)).trans h1,(a.block _ (by omega)).trans g,(a.block _ (by omega)).trans e,(h4.below a (am _)).up a.size,f.trans (a.mono f.size)⟩
theorem pA.snoc {w wr w':iW} {j f a:iX} {d:List Rw} {r:Rw} (h:pA w wr j f d) (l:wr.grownBy w' f.ownBlock)
 (x:w'.ownsRow (w.heap.size+3) 81 3 a (d.length+1) (gB (d.map gh)++[iB r.1,I J r.2.1,r.2.2.1])) (v:wr.ownsRow B' 83 2 r.2.2.1 r.2.2.2.length (fI r.2.2.2)) (s:w.heap.size+3<=B')
 (b:∀q∈d,∀g,q.2.2.1.ownBlock=X g->g<B'):pA w (w'.setCell ⟨w.heap.size+1+1,0,O⟩ a) j a (d++[r]):=by
 obtain⟨h1,o,m,h4,n⟩:=h;have y:=(aL.1 m).1;have c:∀i,i<w.heap.size+3->X i≠f.ownBlock:=λi hi e=>by
  have:=(iS h4.1 i e.symm).1;omega
 have t:=h4.snoc l x v s b;refine⟨cU ((l.block _ (by omega) (c _ (by omega))).trans h1) (by omega) _ _,cU ((l.block _ (by omega) (c _ (by omega))).trans o) (by omega) _ _,dq ((l.block _ (by omega) (c _ (by omega))).trans m) 0 a,t.cellb (by omega) 0 a,?_⟩
 exact(n.trans ((az w.heap.size wr).grown l n.size (λk u=>by have:=(iS h4.1 k u).1;omega))).setCell (p:=⟨w.heap.size+1+1,0,O⟩) (by show _<=_+1+1;omega) _
theorem AL(v:iX)(rs:List Rw)(w:iW)(hl:rs.length<=1048576)(N:∀r∈rs,r.2.2.2.length<=1048576)(ha:dX w v rs):
 iK Tryz.prog 138 #[iA #[v]] w λe w'=>∃u,e=G (iA #[u])/\dj w' w.heap.size u (rs.map aw)/\iL w.heap.size w w':=by
 obtain⟨i0,ao,ar,au,av⟩:=bV DW;have an:=ha;obtain⟨ad,h,rfl,-,-⟩:=an;have ab:=af N;have W:=af ha;clear ha N;have ae:=af (Yk w (Y ad rs.length h));go_enter Tryz.func138,Tryz.ntmps138;go_wp2;go_loopw [4] (λiv wr=>∃(k:Nat) (D:iX) (d:List Rw),k<=rs.length/\iv=I J k/\ah (d.length=k)/\ah (d.map aw=(rs.take k).map aw)/\ah (pA w wr (Y ad rs.length h) D d)) (λiv _=>rs.length-(intOf iv).toNat)
 case atStart=>exact⟨0,_,[],aK _,rfl,rfl,rfl,ae⟩
 case round=>
  obtain⟨k,D,d,hk,rfl,HD,HT,HS⟩:=hrel;obtain⟨s1,U,V,s4,s5⟩:=HS.o;have HB:=af s5;have aN:=s5.size;have l3:=(aL.1 V).1;have aH:wr.cell? ⟨w.heap.size,0,O⟩=X (Y ad rs.length h):=ai _ _ 0 _ _ _ s1;have aD:wr.cell? ⟨w.heap.size+1,0,O⟩=X (Y O 0 0):=ai _ _ 0 _ _ _ U;have m:wr.cell? ⟨w.heap.size+1+1,0,O⟩=X D:=ai _ _ 0 _ _ _ V;have aB:=aF _ _ 0 _ _ U;have aA:=aF _ _ 0 _ _ V;obtain⟨R,c,rfl,-,-,-⟩:=lS s4.1;have HF:=af s4;have S2:=af U;clear s1 U V s4 s5;by_cases aM:(k:Int)<rs.length
  ·have L:k<rs.length:=by omega
   have T:rs[k]?=X rs[k]:=ay L;have C:rs.take (k+1)=rs.take k++[rs[k]]:=eY L;generalize rs[k]=r at T C;have l:=aO T;have Q:=ab.o r l;obtain⟨g,eg,⟨c1,c2,c3⟩,j⟩:=(W.o.below HB.o).at T;subst eg;obtain⟨x,y,u,ls⟩:=r;simp only at c1 c2 c3;simp only at j Q;have M:=j;obtain⟨n,b,rfl,-,-⟩:=M;have k0:(0:Int)<=k:=by omega
   have ak:=af C;have A:=(az wr.heap.size wr).alloc (am _) (iC #[iB x,I J y,Y n ls.length b] 81);have B:=A.alloc A.size (iC #[] 83);have OS:=af (j.below B);have o1:=UP (wr.alloc (iC #[iB x,I J y,Y n ls.length b] 81));rw[show(wr.alloc (iC #[iB x,I J y,Y n ls.length b] 81)).heap.size=wr.heap.size+1 by simp]at o1
   have O1:=af o1;have E:=af B;have r1:=(gt (wr.alloc (iC #[iB x,I J y,Y n ls.length b] 81)) (iC #[] 83) wr.heap.size (by simp)).trans (aC wr (iC #[iB x,I J y,Y n ls.length b] 81))
   have R1:=af r1;have F:=af (show((wr.alloc (iC #[iB x,I J y,Y n ls.length b] 81)).alloc (iC #[] 83)).heap.size=wr.heap.size+1+1 by simp)
   clear T C l j A B o1 r1;go_wp2_with (at_builtin;refine Zv _ rfl _ _ rfl (wr.heap.size+1) rfl O1.o n b ls rfl Q OS.o ?_);intro v' s o3 g3;have z3:=g3.size;rw[F.o]at z3;have S:=(g3.block wr.heap.size (by rw[F.o];omega) (by simp)).trans R1.o
   have b3:=E.o.grown g3 E.o.size (λi hi2=>by cases hi2;omega)
   obtain⟨f,a,rfl,-,-,-⟩:=lS o3;have e0:s.cell? ⟨wr.heap.size,0,O⟩=X (iB x):=ai _ _ 0 _ _ _ S;have e1:s.cell? ⟨wr.heap.size,1,O⟩=X (I J y):=ai _ _ 1 _ _ _ S;have e2:s.cell? ⟨wr.heap.size,2,O⟩=X (Y n ls.length b):=ai _ _ 2 _ _ _ S;have f2:=aF _ _ 2 _ _ S;have ap:s.cell? ⟨w.heap.size+1+1,0,O⟩=X (Y R d.length c):=(b3.cell (show w.heap.size+1+1<wr.heap.size from l3)).trans m;have b5:=(b3.setCell (p:=⟨wr.heap.size,2,O⟩) (am _) (Y f ls.length a)).alloc (by simp[World.setCell];omega) (iC #[iB x,I J y,Y f ls.length a] 81)
   have t:=af (HS.o.below b5);have o5:=(J4 (tL o3 (am _)) (show wr.heap.size<wr.heap.size+1 by omega) 2 (Y f ls.length a)).alloc (iC #[iB x,I J y,Y f ls.length a] 81)
   have O5:=af o5;have ac:=af (Vr (s.setCell ⟨wr.heap.size,2,O⟩ (Y f ls.length a)) #[iB x,I J y,Y f ls.length a] 81 s.heap.size (by simp[World.setCell]))
   have al:=af (show w.heap.size+3<=((s.setCell ⟨wr.heap.size,2,O⟩ (Y f ls.length a)).alloc (iC #[iB x,I J y,Y f ls.length a] 81)).heap.size by simp[World.setCell];omega)
   have aI:d.length<=1048576:=by have:=HD.o;omega
   clear S o3 g3 b3 b5 o5 m;go_wp2_with (at_builtin;refine cZ _ rfl _ _ 24 rfl (w.heap.size+3) 81 i0 (iA #[iB iF,I J 0,Y O 0 0]) 3 40 Tryz.underlying24 ao ar au av rfl (by decide) _ d.length (gB (d.map gh)) rfl t.o.2.2.2.1.1 ⟨s.heap.size,0,O⟩ 1 1 [iB x,I J y,Y f ls.length a] rfl rfl ac.o (Qa _ _ _ _ _) (by unfold maxLen;omega) (by omega) al.o ?_)
   intro aG w6 o6 g6 _;have H:∀q∈d,∀g,q.2.2.1.ownBlock=X g->g<wr.heap.size+1:=λq hq g aq=>by
    have:=(HF.o.2.2.1 q hq).2 g aq;omega
   have c7:=pA.snoc (r:=(x,y,Y f ls.length a,ls)) t.o g6 o6 O5.o (by omega) H
   have z:=t.o;obtain⟨-,-,t3,t4,-⟩:=z;have P:X (w.heap.size+1+1)≠(Y R d.length c).ownBlock:=λe=>by
    have:=(iS t4.1 _ e.symm).1;omega
   have t6:=(g6.block _ ((aL.1 t3).1) P).trans t3;have x6:w6.cell? ⟨w.heap.size+1+1,0,O⟩=X (Y R d.length c):=ai _ _ 0 _ _ _ t6;have y6:=aF _ _ 0 _ _ t6;obtain⟨aP,ax,rfl,-,-,-⟩:=lS o6;have C7:=af c7;have Z:ah ((d++[((x,y,Y f ls.length a,ls):Rw)]).length=k+1):=by show _=_;rw[aJ,HD.o];rfl
   have aj:ah ((d++[((x,y,Y f ls.length a,ls):Rw)]).map aw=(rs.take (k+1)).map aw):=by show _=_;rw[fm,HT.o,ak.o,fm];rfl
   clear c7 t3 t4 t6 g6 o6 P H;go_wp2;go_roundw
   case rel=>exact⟨k+1,_,_,by omega,by go_num,Z,aj,C7⟩
   case measure=>simp[intOf];omega
  ·have K:k=rs.length:=by omega
   have ht:=HT.o;rw[K,bL (am _)]at ht;have ag:=af ht;have Q2:=af (dq S2.o 0 (Y R d.length c));have aa:=af (HF.o.cellb (show w.heap.size+1<w.heap.size+3 by omega) 0 (Y R d.length c))
   clear K ht;go_wp2;exact aE (uD rfl _ _ (w.heap.size+1) 26 _ (0,0) _ rfl Q2.o Tryz.underlying26 rfl Kc) rfl ⟨_,rfl,⟨d,ag.o,aa.o.down (show w.heap.size<=w.heap.size+3 by omega)⟩,HB.o.setCell (p:=⟨w.heap.size+1,0,O⟩) (by show _<=_+1;omega) _⟩
theorem kH {p q:Tmp} (h:fn.results= #[.cell p 26,.tmp q]) (a:Array iX) (w:iW) (g:Nat) (v:iX)
 (e:a.getD p undef=iP (X ⟨g,0,O⟩)) (c:w.heap[g]?=X (iC #[v] 26 (0,0))):
 (results fn a).run Tryz.prog w=.ok (iU #[iA #[v],a.getD q undef]) w:=by
 have b:a[p]?.getD undef=iP (X ⟨g,0,O⟩):=by simpa using e
 have d:=nj (P:=Tryz.prog) w g 26 26 #[v] (0,0) _ c Tryz.underlying26 rfl Kc;simp[results,h,b,asAddr,d]
theorem IG(a:List Rw)(k:Nat)(r:Rw)(f:Bk->Bk)(h:a[k]?=X r)(b:Rw)(c:aw b=f (aw r)):(a.set k b).map aw=(a.map aw).modify k f:=by
 apply kO;intro i;rw[bi,rz,bi];by_cases hi:k=i
 ·subst hi;have:=(aB.1 h).1;rw[lZ this,h];simp[c]
 ·rw[oE hi];simp[hi]
theorem LP{w:iW}{xs:List iX}(h:w.ownsRow B 83 2 (Y (X ⟨gl,0,O⟩) n cap) m xs):∀i cs,w.heap[i]?=X (iC cs 26 (0,0))->i≠gl:=by
 intro i cs hi e;subst e;rcases h.2 with⟨h1,-⟩|⟨g,cap,b,h1,-,a,-⟩
 ·cases h1
 ·injection h1 with a1
  simp at a1;subst a1;rw[hi]at a;simp at a
theorem dj.put{w:iW}{s:Option Addr}{d:Nat}{b:Bk}(h:dj w B (Y s n d) bs)(v:bs[k]?=X b)(p:j<b.2.2.length):
 ∃f gl c,s=X ⟨f,0,O⟩/\w.cell? ⟨f,k*3+2,O⟩=X (Y (X ⟨gl,0,O⟩) b.2.2.length c)/\(∃x,w.cell? ⟨gl,j*2,O⟩=X x)/\(∃x,w.cell? ⟨gl,j*2+1,O⟩=X x)/\
  w.frozen? ⟨gl,j*2,O⟩=iF/\w.frozen? ⟨gl,j*2+1,O⟩=iF/\B<=gl/\B<=f/\(∀i cs,w.heap[i]?=X (iC cs 26 (0,0))->i≠gl)/\
  ∀(z:Int) (t:ByteArray),dj ((w.setCell ⟨gl,j*2,O⟩ (I J z)).setCell ⟨gl,j*2+1,O⟩ (iT t)) B (Y s n d) (bs.modify k (λr=>(r.1,r.2.1,r.2.2.set j (z,t)))):=by
 obtain⟨E,rfl,hs⟩:=h;rw[bi]at v;obtain⟨r,g,rfl⟩:=og.1 v;obtain⟨N,q,e,-,-,M⟩:=lS hs.1;injection e with e1 e2 e3
 subst e1 e2 e3;have K:=(aB.1 g).1;obtain⟨f,rfl,o,-⟩:=M (by omega)
 obtain⟨x,y,u,ls⟩:=r;have a:=hs.2.2.1 _ (aO g);simp only[aw]at p a⊢;obtain⟨P,c,rfl,-,-,L⟩:=lS a.1;obtain⟨gl,rfl,m,-⟩:=L (by omega)
 obtain⟨-,-,c3⟩:=Bl (k:=k) (t:=gh (x,y,Y (X ⟨gl,0,O⟩) ls.length c,ls)) hs.1 (by rw[bi,g];rfl)
 obtain⟨l,C⟩:∃l,ls[j]?=X l:=⟨ls[j],ay p⟩;obtain⟨F,G⟩:=JY a.1 C;refine⟨f,gl,c,rfl,c3,⟨_,F⟩,⟨_,G⟩,a.1.frozenAt _,a.1.frozenAt _,m,o,LP a.1,λz t=>⟨E.set k (x,y,Y (X ⟨gl,0,O⟩) ls.length c,ls.set j (z,t)),IG E k _ _ g _ rfl,?_⟩⟩
 have g1:=mg w gl (j*2) (I J z);have g2:=mg (w.setCell ⟨gl,j*2,O⟩ (I J z)) gl (j*2+1) (iT t);have H:w.grownBy ((w.setCell ⟨gl,j*2,O⟩ (I J z)).setCell ⟨gl,j*2+1,O⟩ (iT t)) (X gl):=
  ⟨g2.os.trans g1.os,g2.tape.trans g1.tape,g2.output.trans g1.output,bT g1.size g2.size,λi hi A=>(g2.block i (fE hi g1.size) A).trans (g1.block i hi A)⟩
 have D:=rh (rh a.1 rfl (j*2) (I J z)) rfl (j*2+1) (iT t);rw[(Hm ls j l C).1 z,(Hm (ls.set j (z,l.2)) j (z,l.2) (by rw[lZ p])).2 t,wh]at D
 have:=hs.leaves (k:=k) (ls':=ls.set j (z,t)) g H ⟨by rw[gI];exact D,a.2⟩
 simpa[World.setCell]using this
theorem Nc{b leaf:Int}(a:bo bs=iV)(h:iM bs b leaf t=iV):∃(k j:Nat) (r:Bk),b=k/\leaf=j/\bs[k]?=X r/\j<4/\r.2.2.length=4:=by
 unfold iM at h;cases c:bs[b.toNat]? with
 |none=>rw[c]at h;cases h
 |some r=>
  rw[c]at h;have h:=sF h;refine⟨b.toNat,br r.2.2,r,by omega,h.2.2.2.1,c,by omega,?_⟩
  simp only[bo,bn,gV]at a;have d:=a.2 r (aO c);simp only[dm,bn,bH]at d;exact d.1.1
theorem WJ(v:iX)(rs:List Rw)(b leaf:Int)(t:ByteArray)(w:iW)(hl:rs.length<=1048576)(U:∀r∈rs,r.2.2.2.length<=1048576)(ha:dX w v rs):
 iK Tryz.prog 215 #[iA #[v],I J b,I J leaf,iT t] w λe w'=>∃u,e=G (iU #[iA #[u],iB (gM (rs.map aw) b leaf t).2])/\dj w' w.heap.size u (gM (rs.map aw) b leaf t).1/\iL w.heap.size w w':=by
 have x:=af U;have h1:=ha;obtain⟨s,c,rfl,-,-⟩:=h1;have z:=((az w.heap.size w).alloc (am _) (iC #[Y s rs.length c] 26)).alloc (by simp) (iC #[Y O 0 0] 26)
 have ac:=af z;have HA:=af (ha.below z);have r0:=(gt (w.alloc (iC #[Y s rs.length c] 26)) (iC #[Y O 0 0] 26) w.heap.size (by simp)).trans (aC w (iC #[Y s rs.length c] 26))
 have r1:=aC (w.alloc (iC #[Y s rs.length c] 26)) (iC #[Y O 0 0] 26);rw[show(w.alloc (iC #[Y s rs.length c] 26)).heap.size=w.heap.size+1 by simp]at r1
 have R0:=af r0;have R1:=af r1;have HZ:=af (show((w.alloc (iC #[Y s rs.length c] 26)).alloc (iC #[Y O 0 0] 26)).heap.size=w.heap.size+2 by simp)
 clear ha U z r0 r1;go_enter Tryz.func215,Tryz.ntmps215;go_wp2_with fail;refine(AL _ rs _ hl x.o HA.o).mono ?_;rintro e h ⟨u,rfl,T,y⟩;obtain⟨f,a,rfl⟩:=T.form;rw[bm]at T;rw[bm];have z1:=y.size;have aa:=af (HA.o.below y);rw[HZ.o]at T y z1;have q0:=(y.block _ (by omega)).trans R0.o
 have q1:=(y.block _ (by omega)).trans R1.o
 have B:=(az h.heap.size h).alloc (am _) (iC #[Y f rs.length a] 26);have q2:=aC h (iC #[Y f rs.length a] 26);have p0:=(B.block _ (by omega)).trans q0
 have p1:=(B.block _ (by omega)).trans q1
 have ad:=af ((ac.o.trans (y.mono (by omega))).trans (B.mono (by omega)))
 have ae:=af (T.below B);have E:=af (aa.o.below B);have P0:=af p0;have P1:=af p1;have P2:=af q2;have Q:=af (show(h.alloc (iC #[Y f rs.length a] 26)).heap.size=h.heap.size+1 by simp)
 have k0:(h.alloc (iC #[Y f rs.length a] 26)).cell? ⟨w.heap.size,0,O⟩=X (Y s rs.length c):=ai _ _ 0 _ _ _ p0;clear p0 p1 q0 q1 q2 y B T;go_wp2_with fail;refine(xh _ rs _ hl x.o E.o).mono ?_;rintro e w3 ⟨rfl,i⟩;have z3:=i.size;have ab:=af (E.o.below i);rw[Q.o]at i z3;have t0:=(i.block _ (by omega)).trans P0.o
 have m:=(i.block _ (by omega)).trans P1.o
 have A:=(i.block _ (by omega)).trans P2.o
 have F:=af (ad.o.trans (i.mono (by omega)))
 have K:=af (ae.o.below (by rw[Q.o];exact i))
 have m0:w3.cell? ⟨w.heap.size,0,O⟩=X (Y s rs.length c):=ai _ _ 0 _ _ _ t0;have m1:w3.cell? ⟨w.heap.size+1,0,O⟩=X (Y O 0 0):=ai _ _ 0 _ _ _ m;have m2:w3.cell? ⟨h.heap.size,0,O⟩=X (Y f rs.length a):=ai _ _ 0 _ _ _ A;have f1:=aF _ _ 0 _ _ m;have T1:=af m;have T2:=af A;clear t0 A m i k0;cases l:bo (rs.map aw)with
 |false=>
  have n:ah (gM (rs.map aw) b leaf t=(rs.map aw,iF)):=by show _=_;simp[gM,l]
  have D:=af (K.o.cell (show w.heap.size+1<w.heap.size+2 by omega) 0 (Y f rs.length a))
  have R:=af (dq T1.o 0 (Y f rs.length a));have g:=af (F.o.setCell (p:=⟨w.heap.size+1,0,O⟩) (by show _<=_+1;omega) (Y f rs.length a))
  clear l;go_wp2;exact aE (kH rfl _ _ (w.heap.size+1) _ rfl R.o) rfl ⟨_,by rw[n.o];rfl,by rw[n.o];exact D.o.down (by omega),g.o⟩
 |true=>
  have M:=af l;clear l;go_wp2_with fail;refine(Ut _ rs b leaf t _ hl x.o ab.o).mono ?_;rintro e w4 ⟨rfl,C⟩;have z4:=C.size;have m:=(C.block _ (by omega)).trans T1.o
  have A:=(C.block _ (by omega)).trans T2.o
  have H:=af (F.o.trans (C.mono (by omega)))
  have L:=af (K.o.below C);have n1:w4.cell? ⟨w.heap.size+1,0,O⟩=X (Y O 0 0):=ai _ _ 0 _ _ _ m;have n2:w4.cell? ⟨h.heap.size,0,O⟩=X (Y f rs.length a):=ai _ _ 0 _ _ _ A;have o1:=aF _ _ 0 _ _ m;have S:=af m;have Z:=af A;clear m0 m1 m2 f1 m A C;cases V:iM (rs.map aw) b leaf t with
  |false=>
   have n:ah (gM (rs.map aw) b leaf t=(rs.map aw,iF)):=by show _=_;simp[gM,V]
   have D:=af (L.o.cell (show w.heap.size+1<w.heap.size+2 by omega) 0 (Y f rs.length a))
   have R:=af (dq S.o 0 (Y f rs.length a));have g:=af (H.o.setCell (p:=⟨w.heap.size+1,0,O⟩) (by show _<=_+1;omega) (Y f rs.length a))
   clear V;go_wp2;exact aE (kH rfl _ _ (w.heap.size+1) _ rfl R.o) rfl ⟨_,by rw[n.o];rfl,by rw[n.o];exact D.o.down (by omega),g.o⟩
  |true=>
   have N:ah (gM (rs.map aw) b leaf t=(jM (rs.map aw) b.toNat leaf.toNat t,iV)):=by show _=_;simp[gM,V,M.o]
   obtain⟨k,j,r,rfl,rfl,hr,ap,W⟩:=Nc M.o V;obtain⟨gu,gl,al,rfl,c3,⟨x1,d1⟩,⟨x2,d2⟩,f1,f2,an,ao,d,q⟩:=L.o.put (j:=j) hr (by omega)
   rw[W]at c3;have ag:=(aB.1 hr).1;rw[bm]at ag;have aq:(k:Int)<rs.length:=by omega
   have k0:(0:Int)<=k:=by omega
   have j0:(0:Int)<=j:=by omega
   have j4:(j:Int)<4:=by omega
   have P:=af (q 1 t);have n:ah (gM (rs.map aw) (k:Int) (j:Int) t=((rs.map aw).modify k (λr=>(r.1,r.2.1,r.2.2.set j (1,t))),iV)):=by show _=_;rw[N.o];rfl
   have v1:=cU (cU S.o (d _ _ S.o) (j*2) (I J 1)) (d _ _ S.o) (j*2+1) (iT t);have v2:=cU (cU Z.o (d _ _ Z.o) (j*2) (I J 1)) (d _ _ Z.o) (j*2+1) (iT t);have x5:((w4.setCell ⟨gl,j*2,O⟩ (I J 1)).setCell ⟨gl,j*2+1,O⟩ (iT t)).cell? ⟨w.heap.size+1,0,O⟩=X (Y O 0 0):=ai _ _ 0 _ _ _ v1;have y5:((w4.setCell ⟨gl,j*2,O⟩ (I J 1)).setCell ⟨gl,j*2+1,O⟩ (iT t)).cell? ⟨h.heap.size,0,O⟩=X (Y (X ⟨gu,0,O⟩) rs.length a):=ai _ _ 0 _ _ _ v2;have aj:h.heap.size≠gl:=d _ _ Z.o;have ak:w.heap.size+1≠gl:=d _ _ S.o;have D:=af (P.o.cell (show w.heap.size+1<w.heap.size+2 by omega) 0 (Y (X ⟨gu,0,O⟩) rs.length a))
   have R:=af (dq v1 0 (Y (X ⟨gu,0,O⟩) rs.length a));have g:=af (((H.o.setCell (p:=⟨gl,j*2,O⟩) (by show _<=gl;omega) (I J 1)).setCell (p:=⟨gl,j*2+1,O⟩) (by show _<=gl;omega) (iT t)).setCell (p:=⟨w.heap.size+1,0,O⟩) (by show _<=_+1;omega) (Y (X ⟨gu,0,O⟩) rs.length a))
   clear q V hr W N d v1 v2;go_wp2;exact aE (kH rfl _ _ (w.heap.size+1) _ rfl R.o) rfl ⟨_,by rw[n.o];rfl,by rw[n.o];exact D.o.down (by omega),g.o⟩
theorem YB{w:iW}{xs:List iX}(h:w.ownsRow B 81 3 (Y (X ⟨gl,0,O⟩) n cap) m xs):∀i cs,w.heap[i]?=X (iC cs 26 (0,0))->i≠gl:=by
 intro i cs hi e;subst e;rcases h.2 with⟨h1,-⟩|⟨g,cap,b,h1,-,a,-⟩
 ·cases h1
 ·injection h1 with a1
  simp at a1;subst a1;rw[hi]at a;simp at a
theorem Xm{l:List iX}{v:iX}{H:Nat}(h:l.Pairwise (λa b=>a.ownBlock=O∨a.ownBlock≠b.ownBlock))(m:∀a∈l,∀g,a.ownBlock=X g->g<H)(n:∀g,v.ownBlock=X g->H<=g):
 (l.set k v).Pairwise (λa b=>a.ownBlock=O∨a.ownBlock≠b.ownBlock):=by
 rw[nh]at h⊢;intro i j hi r d;have hi2:i<l.length:=by simpa using hi
 have c:j<l.length:=by simpa using r
 rw[List.getElem_set,List.getElem_set];by_cases h1:k=i
 ·rw[ak h1,aj (by omega)]
  cases e:v.ownBlock with
  |none=>exact Or.inl rfl
  |some g=>
   refine Or.inr (λq=>?_)
   have o:=n g e;have p:=m _ (qh c) g q.symm;omega
 ·rw[aj h1];by_cases f:k=j
  ·rw[ak f];cases e:l[i].ownBlock with
   |none=>exact Or.inl rfl
   |some g=>
    refine Or.inr (λq=>?_)
    have o:=n g q.symm;have p:=m _ (qh hi2) g e;omega
  ·rw[aj f];exact h i j hi2 c d
theorem dj.setBlock {w w':iW} {P:Option Addr} {m:Nat} {b:Bk} {v:iX} (h:dj w B (Y P n m) bs) (Q:bs[k]?=X b) (E:iL w.heap.size w w')
 (M:w'.ownsRow w.heap.size 83 2 v ls.length (fI ls)) (U:B<=w.heap.size):
 ∃c,P=X ⟨c,0,O⟩/\(w'.cell? ⟨c,k*3,O⟩=X (iB b.1)/\w'.cell? ⟨c,k*3+1,O⟩=X (I J b.2.1)/\∃x,w'.cell? ⟨c,k*3+2,O⟩=X x)/\(∀j,w'.frozen? ⟨c,j,O⟩=iF)/\B<=c/\c<w.heap.size/\
  (∀i cs,w'.heap[i]?=X (iC cs 26 (0,0))->i≠c)/\
  ∀(x:Bool) (y:Int) (f:Bk->Bk),f b=(x,y,ls)->dj (((w'.setCell ⟨c,k*3,O⟩ (iB x)).setCell ⟨c,k*3+1,O⟩ (I J y)).setCell ⟨c,k*3+2,O⟩ v) B (Y P n m) (bs.modify k f):=by
 obtain⟨u,rfl,s⟩:=h;rw[bi]at Q;obtain⟨r,A,rfl⟩:=og.1 Q;have L:=(aB.1 A).1;obtain⟨aa,N,e,-,-,u3⟩:=lS s.1;injection e with e1 e2 e3
 subst e1 e2 e3;obtain⟨c,rfl,G,F⟩:=u3 (by omega)
 have hs:=s.below E (am _);obtain⟨c1,c2,c3⟩:=Bl (k:=k) (t:=gh r) hs.1 (by rw[bi,A];rfl)
 refine⟨c,rfl,⟨c1,c2,_,c3⟩,λj=>hs.1.frozenAt j,G,F,YB hs.1,λx y f W=>⟨u.set k (x,y,v,ls),IG u k r f A _ W.symm,?_⟩⟩
 have K:(u.map gh)[k]?=X (gh r):=by rw[bi,A];rfl
 have l:k<(u.map gh).length:=by simpa using L
 have R:=rh hs.1 rfl (k*3) (iB x);have S:=rh R rfl (k*3+1) (I J y);have T:=rh S rfl (k*3+2) v;have z:∀q d,j9 w' B w'.heap.size q d->j9 (((w'.setCell ⟨c,k*3,O⟩ (iB x)).setCell ⟨c,k*3+1,O⟩ (I J y)).setCell ⟨c,k*3+2,O⟩ v) B w'.heap.size q d:=λq d p=>by
  have C:j9 (w'.setCell ⟨c,k*3,O⟩ (iB x)) B w'.heap.size q d:=⟨p.1.kept (mg _ c _ _) (zW hs.1 p.1),p.2⟩;have D:j9 ((w'.setCell ⟨c,k*3,O⟩ (iB x)).setCell ⟨c,k*3+1,O⟩ (I J y)) B w'.heap.size q d:=⟨C.1.kept (mg _ c _ _) (zW R C.1),C.2⟩;exact⟨D.1.kept (mg _ c _ _) (zW S D.1),D.2⟩
 rw[(Bw (u.map gh) k (gh r) K).1 x,(Bw ((u.map gh).set k (x,(gh r).2.1,(gh r).2.2)) k (x,(gh r).2.1,(gh r).2.2) (by rw[lZ l])).2.1 y,wh,
  (Bw ((u.map gh).set k (x,y,(gh r).2.2)) k (x,y,(gh r).2.2) (by rw[lZ l])).2.2 v,wh]at T
 have Z:((((w'.setCell ⟨c,k*3,O⟩ (iB x)).setCell ⟨c,k*3+1,O⟩ (I J y)).setCell ⟨c,k*3+2,O⟩ v).heap.size)=w'.heap.size:=by simp[World.setCell]
 rw[Z];refine⟨?_,λg o=>fE (hs.2.1 g o) E.size,λq p=>?_,?_⟩
 ·rw[sJ,gI];exact T
 ·rcases nK p with h1|h1
  ·exact z _ _ ((hs.2.2.1 q h1).up E.size)
  ·subst h1;exact z _ _ ⟨tL M U,λg o=>(iS M g o).2⟩
 ·rw[sJ];refine Xm (H:=w.heap.size) hs.2.2.2 (λa V g o=>?_) (λg o=>(iS M g o).1)
  obtain⟨q,p,rfl⟩:=bJ.1 V;exact(s.2.2.1 q p).2 g o
def iG:Array iX:= #[I J 0,iT ⟨#[]⟩,I J 0,iT ⟨#[]⟩,I J 0,iT ⟨#[]⟩,I J 0,iT ⟨#[]⟩]
theorem Oy:madeCells #[I J 0,iT ⟨#[]⟩] (4*2)=iG:=by
 apply sx.1;simp[madeCells];rfl
theorem Gp(w:iW):(Instr.makeSlice 79 (I J 4) (I J 4)).run Tryz.prog w=.ok (Y (X ⟨w.heap.size,0,O⟩) 4 4) (w.alloc (iC iG 83)):=by
 obtain⟨f,a,b,c,d⟩:=bV zC;have e:=run_make (P:=Tryz.prog) w 79 83 f (iA #[I J 0,iT ⟨#[]⟩]) Tryz.underlying79 a b J J 4 4 (by omega) (kK _) (by rw[d];omega) (by omega)
 rw[c]at e;rw[<-Oy];exact e
theorem Ji(w:iW):(w.alloc (iC iG 83)).ownsRow w.heap.size 83 2 (Y (X ⟨w.heap.size,0,O⟩) 4 4) eW.length (fI eW):=
 ⟨rfl,.inr ⟨w.heap.size,4,iG,rfl,am _,aC w _,am _,by unfold maxLen;omega,rfl,rfl⟩⟩
end Go.Proofs.YtgigcooffjjbgaaGreatDoor
