/-
  SymL; SymR; MMath; SymM; Ins; Stable
-/
import Derived.Test.YtgigcooffjjbgaaGreatDoorPk11
open Go.Value renaming int→I,slice→Y,string→iT,agg→iA,tuple→iU
open Go.IntKind renaming i64→J
open Option renaming none→O,some→X
open Go.Ending renaming returned→G
open Bool renaming true→iV,false→iF
open Go renaming World→iW,Value→iX,Calls→iK
set_option maxHeartbeats 8000000
set_option maxRecDepth 100000
namespace Go.Proofs.YtgigcooffjjbgaaGreatDoor
open Go.RowKit Words
abbrev C8(w:iW)(g o:Nat)(x:an):Prop:=w.cell? ⟨g,o,O⟩=X (I J x.block)/\w.cell? ⟨g,o+1,O⟩=X (I J x.leaf)/\w.cell? ⟨g,o+2,O⟩=X (I J x.fP.kind)/\w.cell? ⟨g,o+3,O⟩=X (I J x.fP.seq)/\w.cell? ⟨g,o+4,O⟩=X (I J x.fP.tx)/\w.cell? ⟨g,o+5,O⟩=X (I J x.fP.part)/\w.cell? ⟨g,o+6,O⟩=X (I J x.fP.count)/\w.cell? ⟨g,o+7,O⟩=X (iT x.fP.text)
abbrev F8(x:an):iX:=iA #[I J x.block,I J x.leaf,I J x.fP.kind,I J x.fP.seq,I J x.fP.tx,I J x.fP.part,I J x.fP.count,iT x.fP.text]
variable{g i:Nat}
variable{D:List an}{x:an}
theorem eo.c8{w:iW}(h:eo w g D)(hi:D[i]?=X x):C8 w g (i*8) x:=⟨h.cell hi 0 rfl,h.cell hi 1 rfl,h.cell hi 2 rfl,h.cell hi 3 rfl,h.cell hi 4 rfl,h.cell hi 5 rfl,h.cell hi 6 rfl,h.cell hi 7 rfl⟩
theorem rI{w wr:iW}(x y:an)(h:bf w wr g D):iK Tryz.prog 63 #[jo x,jo y] wr λe w'=>e=G (I J (jc x y))/\bf w w' g D:=
 (PB x y wr).mono λ_ _ ⟨b,a⟩=>⟨b,h.below a⟩
theorem RU(g N cap a m b:Nat)(P R Q:List an)(x:an)(w:iW)(hN:N<=1000000000000000)(hl:(P++(x::(R++Q))).length=N)(hP:P.length=a)(hm:a+1=m)(hb:m+R.length=b)(hR:Asc R)(hr:eo w g (P++(x::(R++Q)))):
 iK Tryz.prog 153 #[Y (X ⟨g,0,O⟩) N cap,I J a,I J m,I J b,zE] w λe w'=>e=G (iU #[])/\∃M,Asc M/\Akin (x::R) M/\M.length=R.length+1/\bf w w' g (P++(M++Q)):=by
 have aw:b<=N:=by rw[<-hl];simp;omega
 obtain⟨D,hD⟩:∃D,D=P++(x::(R++Q)):=⟨_,rfl⟩;rw[<-hD]at hl hr;have HD:=af hD;have HL:=af hl;have ag:D[a]?=X x:=by rw[hD,<-hP];simp
 have ae:∀t y,R[t]?=X y->D[m+t]?=X y:=by
  intro t y hy;have K:=(aC.1 hy).1;rw[hD,cu (by omega)]
  have:m+t-P.length=t+1:=by omega
  rw[this,oE,ip K];exact hy
 have HX:=af ag;have ac:=af ae;have F:=af hR;have ad:ah (bf w w g D):=⟨aR.refl _ _,hr⟩;have HP:=af hP;have ao:(m:Int)-a=1:=by omega
 obtain⟨n,hn⟩:=aq R.length;rw[hn]at hb;have L:=af hn;have ap:m<=b:=by omega
 have a0:(0:Int)<=a:=by omega
 have aN:(a:Int)<N:=by omega
 clear hD hl hP hr ag ae hR hn;unfold zE;go_enter Tryz.func153,Tryz.ntmps153;go_wp2;clear ao;go_loopw [10,11] (λiv jv wr=>∃i j:Nat,iv=I J i/\jv=I J j/\m<=i/\i<=j/\j<=b/\ah (∀t y,R[t]?=X y->(m+t<i->y.key<x.key)/\(j<=m+t->x.key<=y.key))/\ah (bf w wr g D)) (λiv jv _=>(intOf jv).toNat-(intOf iv).toNat)
 case atStart=>exact⟨m,b,rfl,rfl,am _,ap,am _,(λt y hy=>⟨λh=>by omega,λh=>by have:=(aC.1 hy).1;have:=L.o;omega⟩),ad⟩
 case round=>
  obtain⟨i,j,rfl,rfl,r1,r2,r3,HQ,c⟩:=hrel;clear ad;by_cases aE:(i:Int)<j
  ·obtain⟨h,aA⟩:∃h:Nat,((i:Int)+j)/2=h:=⟨(i+j)/2,by omega⟩
   have ax:i<=h/\h<j:=by omega
   obtain⟨y,hy⟩:∃y,R[h-m]?=X y:=by
    have hl:h-m<R.length:=by have:=L.o;omega
    exact⟨_,ay hl⟩
   have hY:D[h]?=X y:=by have:=ac.o _ _ hy;rwa [show m+(h-m)=h by omega]at this
   have HY:=af hy;have ab:=af hY;have h0:(0:Int)<=h:=by omega
   have av:(h:Int)<N:=by omega
   clear hy hY;by_cases hc:y.key<x.key
   ·have NQ:ah (∀t z,R[t]?=X z->(m+t<h+1->z.key<x.key)/\(j<=m+t->x.key<=z.key)):=λt z hz=>⟨λK=>by have:=F.o.le hz HY.o (by omega);omega,(HQ.o t z hz).2⟩
    have T:ah (∀W,bf w W g D->C8 W g (h*8) y/\C8 W g (a*8) x):=λW h=>⟨h.2.c8 ab.o,h.2.c8 HX.o⟩
    have CC:ah (iK Tryz.prog 63 #[F8 y,F8 x] wr.drew λe w'=>e=G (I J (jc y x))/\bf w w' g D):=rI y x c.o.drew
    obtain⟨r,s⟩:∃r,r=jc y x:=⟨_,rfl⟩;have ar:decide (r<0)=iV:=by rw[s];exact aS ((rU _ _).2 hc)
    rw[<-s]at CC;have K0:=af (T.o _ c.o);have S:=af (T.o _ c.o.drew);obtain⟨⟨c0,c1,c2,c3,c4,c5,c6,c7⟩,d0,d1,d2,d3,d4,d5,d6,d7⟩:=K0.o;clear s;go_wp2;go_region_held3 (λw'=>C8 w' g (h*8) y/\C8 w' g (a*8) x) (first|go_keep|exact S.o|exact K2.o) ((go_at_call 63;(with_reducible refine cn CC.o ?_);rintro e w2 ⟨rfl,s2⟩;have S2:=af s2;have K2:=af (T.o _ s2);clear s2))
    all_goals
     go_wp2;go_roundw
     case rel=>exact⟨h+1,j,by go_num,rfl,by omega,by omega,r3,NQ,S2⟩
     case measure=>simp[intOf];omega
   ·have NQ:ah (∀t z,R[t]?=X z->(m+t<i->z.key<x.key)/\(h<=m+t->x.key<=z.key)):=λt z hz=>⟨(HQ.o t z hz).1,λK=>by have:=F.o.le HY.o hz (by omega);omega⟩
    have T:ah (∀W,bf w W g D->C8 W g (h*8) y/\C8 W g (a*8) x):=λW h=>⟨h.2.c8 ab.o,h.2.c8 HX.o⟩
    have CC:ah (iK Tryz.prog 63 #[F8 y,F8 x] wr.drew λe w'=>e=G (I J (jc y x))/\bf w w' g D):=rI y x c.o.drew
    obtain⟨r,s⟩:∃r,r=jc y x:=⟨_,rfl⟩;have ar:decide (r<0)=iF:=by rw[s];exact aV (λe=>hc ((rU _ _).1 e))
    rw[<-s]at CC;have K0:=af (T.o _ c.o);have S:=af (T.o _ c.o.drew);obtain⟨⟨c0,c1,c2,c3,c4,c5,c6,c7⟩,d0,d1,d2,d3,d4,d5,d6,d7⟩:=K0.o;clear s;go_wp2;go_region_held3 (λw'=>C8 w' g (h*8) y/\C8 w' g (a*8) x) (first|go_keep|exact S.o|exact K2.o) ((go_at_call 63;(with_reducible refine cn CC.o ?_);rintro e w2 ⟨rfl,s2⟩;have S2:=af s2;have K2:=af (T.o _ s2);clear s2))
    all_goals
     go_wp2;go_roundw
     case rel=>exact⟨i,h,rfl,rfl,r1,by omega,by omega,NQ,S2⟩
     case measure=>simp[intOf];omega
  ·have al:i=j:=by omega
   subst al;obtain⟨il,aB⟩:∃il:Nat,(i:Int)-1=il:=⟨i-1,by omega⟩
   obtain⟨l,p,Z,l1⟩:∃l p,R=l++p/\l.length=i-m:=⟨R.take (i-m),R.drop (i-m),(jk _ _).symm,by rw[cD];have:=L.o;omega⟩
   have B:∀y∈l,y.key<x.key:=by
    intro y hy;obtain⟨t,K⟩:=iG hy;have au:=(aC.1 K).1;exact(HQ.o t y (by rw[Z,ip au];exact K)).1 (by omega)
   have A:∀y∈p,x.key<=y.key:=by
    intro y hy;obtain⟨t,K⟩:=iG hy;exact(HQ.o (l.length+t) y (by rw[Z,cu (by omega)];simpa using K)).2 (by omega)
   have MA:ah (Asc (l++x::p)):=by
    have h1:=F.o;rw[Z]at h1;refine Asc.app h1.left (gx.2 ⟨A,h1.right⟩) ?_;intro u hu v hv;rcases be.1 hv with e|e
    ·subst e;exact tW (B u hu)
    ·exact h1.across u hu v e
   have MK:ah (Akin (x::R) (l++x::p)):=by
    show Akin _ _;rw[Z];have:=(Akin.flip (a:=[x]) (b:=l) (λu hu v hv=>by rw[bU]at hu;subst hu;have:=B v hv;omega)).app (Akin.refl p)
    simpa using this
   have ML:ah ((l++x::p).length=R.length+1):=by show _=_;rw[Z];simp;omega
   have E0:ah (D=P++([]++(x::(l++(p++Q))))):=by show _=_;rw[HD.o,Z];simp
   have S0:=c;clear B A Z HQ ac HX F;go_wp2;go_loopw [13] (λkv wr=>∃(k:Nat) (E U V:List an),kv=I J k/\a<=k/\k<=il/\ah (U.length=k-a/\U++V=l/\E=P++(U++(x::(V++(p++Q)))))/\ah (E.length=N)/\ah (bf w wr g E)) (λkv _=>il-(intOf kv).toNat)
   case atStart=>exact⟨a,D,[],l,rfl,am _,by omega,⟨by simp,rfl,E0.o⟩,HL,S0⟩
   case round=>
    obtain⟨k,E,U,V,rfl,r4,r5,HU,ak,c⟩:=hrel;obtain⟨u1,C,u3⟩:=HU.o;by_cases hk:(k:Int)<il
    ·match V,C,u3 with
     | [],C,_=>simp at C;subst C;omega
     |v::V',C,u3=>
      obtain⟨q,aF⟩:∃q:Nat,(k:Int)+1=q:=⟨k+1,by omega⟩
      have aG:IntKind.i64.wrap ((k:Int)+1)=q:=by rw[cm];omega
      have eE:E=(P++U)++x::([]++v::(V'++(p++Q))):=by rw[u3];simp
      have aa:(P++U).length=k:=by rw[aI];have:=HP.o;omega
      have hp:E[k]?=X x:=by rw[eE,<-aa];simp
      have hq:E[q]?=X v:=by
       rw[eE,cu (by omega)]
       have:q-(P++U).length=1:=by omega
       rw[this];rfl
      have H:(E.set k v).set q x=P++((U++[v])++(x::(V'++(p++Q)))):=by
       have:=uK (P++U) [] (V'++(p++Q)) x v;rw[aa,<-eE]at this;rw[show q=k+1+([]:List an).length by simp;omega,this]
       simp
      have NU:ah ((U++[v]).length=(k+1)-a/\(U++[v])++V'=l/\(E.set k v).set q x=P++((U++[v])++(x::(V'++(p++Q))))):=⟨by simp;omega,by rw[<-C];simp,H⟩
      have NL:ah (((E.set k v).set q x).length=N):=by show _=_;rw[gK,gK];exact ak.o
      have k0:(0:Int)<=k:=by omega
      have q0:(0:Int)<=q:=by omega
      have kN:(k:Int)<N:=by omega
      have qN:(q:Int)<N:=by omega
      have d:=af hp;have f:=af hq;have aD:k+1=q:=by omega
      clear hp hq eE aa H u1 C u3 HU;obtain⟨aj,ai⟩:=c.o.2.swap d.o f.o;have NX:ah (bf w (dX (dX wr g (k*8) v) g (q*8) x) g ((E.set k v).set q x)):=⟨c.o.1.trans ai,aj⟩;have x0:wr.cell? ⟨g,k*8,O⟩=X (I J x.block):=c.o.2.cell d.o 0 rfl;have z0:wr.cell? ⟨g,q*8,O⟩=X (I J v.block):=c.o.2.cell f.o 0 rfl;have k0:=c.o.2.frozen (k*8);have l0:=c.o.2.frozen (q*8);have x1:wr.cell? ⟨g,k*8+1,O⟩=X (I J x.leaf):=c.o.2.cell d.o 1 rfl;have z1:wr.cell? ⟨g,q*8+1,O⟩=X (I J v.leaf):=c.o.2.cell f.o 1 rfl;have k1:=c.o.2.frozen (k*8+1);have l1:=c.o.2.frozen (q*8+1);have x2:wr.cell? ⟨g,k*8+2,O⟩=X (I J x.fP.kind):=c.o.2.cell d.o 2 rfl;have z2:wr.cell? ⟨g,q*8+2,O⟩=X (I J v.fP.kind):=c.o.2.cell f.o 2 rfl;have k2:=c.o.2.frozen (k*8+2);have l2:=c.o.2.frozen (q*8+2);have x3:wr.cell? ⟨g,k*8+3,O⟩=X (I J x.fP.seq):=c.o.2.cell d.o 3 rfl;have z3:wr.cell? ⟨g,q*8+3,O⟩=X (I J v.fP.seq):=c.o.2.cell f.o 3 rfl;have k3:=c.o.2.frozen (k*8+3);have l3:=c.o.2.frozen (q*8+3);have x4:wr.cell? ⟨g,k*8+4,O⟩=X (I J x.fP.tx):=c.o.2.cell d.o 4 rfl;have z4:wr.cell? ⟨g,q*8+4,O⟩=X (I J v.fP.tx):=c.o.2.cell f.o 4 rfl;have k4:=c.o.2.frozen (k*8+4);have l4:=c.o.2.frozen (q*8+4);have x5:wr.cell? ⟨g,k*8+5,O⟩=X (I J x.fP.part):=c.o.2.cell d.o 5 rfl;have z5:wr.cell? ⟨g,q*8+5,O⟩=X (I J v.fP.part):=c.o.2.cell f.o 5 rfl;have k5:=c.o.2.frozen (k*8+5);have l5:=c.o.2.frozen (q*8+5);have x6:wr.cell? ⟨g,k*8+6,O⟩=X (I J x.fP.count):=c.o.2.cell d.o 6 rfl;have z6:wr.cell? ⟨g,q*8+6,O⟩=X (I J v.fP.count):=c.o.2.cell f.o 6 rfl;have k6:=c.o.2.frozen (k*8+6);have l6:=c.o.2.frozen (q*8+6);have x7:wr.cell? ⟨g,k*8+7,O⟩=X (iT x.fP.text):=c.o.2.cell d.o 7 rfl;have z7:wr.cell? ⟨g,q*8+7,O⟩=X (iT v.fP.text):=c.o.2.cell f.o 7 rfl;have k7:=c.o.2.frozen (k*8+7);have l7:=c.o.2.frozen (q*8+7);have y0:=(dI wr g (k*8) (q*8) v (by omega)).trans z0
      have y1:=(dI wr g (k*8) (q*8+1) v (by omega)).trans z1
      have y2:=(dI wr g (k*8) (q*8+2) v (by omega)).trans z2
      have y3:=(dI wr g (k*8) (q*8+3) v (by omega)).trans z3
      have y4:=(dI wr g (k*8) (q*8+4) v (by omega)).trans z4
      have y5:=(dI wr g (k*8) (q*8+5) v (by omega)).trans z5
      have y6:=(dI wr g (k*8) (q*8+6) v (by omega)).trans z6
      have y7:=(dI wr g (k*8) (q*8+7) v (by omega)).trans z7
      unfold dX at y0 y1 y2 y3 y4 y5 y6 y7;clear aj ai;go_wp2;go_region;have ND:=af NX.o.drew;unfold dX at ND;go_wp2;go_roundw
      case rel=>exact⟨k+1,_,U++[v],V',by go_num,by omega,by omega,NU,NL,ND⟩
      case measure=>simp[intOf];omega
    ·have hV:V=[]:=by
      have h1:=congrArg List.length C;rw[aI]at h1;exact iJ (by omega)
     subst hV;have hE:E=P++((l++x::p)++Q):=by rw[u3,<-C];simp
     subst hE;clear u1 C u3 HU;go_wp2
     first|go_end0|refine az (kG rfl _ _ _) rfl ?_
     exact⟨rfl,l++x::p,MA.o,MK.o,ML.o,c.o⟩
theorem Xe(g N cap a m b:Nat)(P L Q:List an)(x:an)(w:iW)(hN:N<=1000000000000000)(hl:(P++(L++(x::Q))).length=N)(hP:P.length=a)(hm:a+L.length=m)(hb:m+1=b)(H:L.length≠1)(hL:Asc L)(hr:eo w g (P++(L++(x::Q)))):
 iK Tryz.prog 153 #[Y (X ⟨g,0,O⟩) N cap,I J a,I J m,I J b,zE] w λe w'=>e=G (iU #[])/\∃M,Asc M/\Akin (L++[x]) M/\M.length=L.length+1/\bf w w' g (P++(M++Q)):=by
 have aB:b<=N:=by rw[<-hl];simp;omega
 obtain⟨D,hD⟩:∃D,D=P++(L++(x::Q)):=⟨_,rfl⟩;rw[<-hD]at hl hr;have HD:=af hD;have HL:=af hl;have ag:D[m]?=X x:=by
  rw[hD,cu (by omega),cu (by omega)]
  have:m-P.length-L.length=0:=by omega
  rw[this];rfl
 have ae:∀t y,L[t]?=X y->D[a+t]?=X y:=by
  intro t y hy;have T:=(aC.1 hy).1;rw[hD,cu (by omega)]
  have:a+t-P.length=t:=by omega
  rw[this,ip T];exact hy
 have HX:=af ag;have ac:=af ae;have C:=af hL;have ad:ah (bf w w g D):=⟨aR.refl _ _,hr⟩;have HP:=af hP;obtain⟨n,hn⟩:=aq L.length;rw[hn]at hm H;have F:=af hn;have au:((m:Int)-a==1)=iF:=by rw[dk];omega
 have av:(b:Int)-m=1:=by omega
 have ap:a<=m:=by omega
 have m0:(0:Int)<=m:=by omega
 have mN:(m:Int)<N:=by omega
 clear hD hl hP hr ag ae hL hn;unfold zE;go_enter Tryz.func153,Tryz.ntmps153;go_wp2;clear au av;go_loopw [14,15] (λiv jv wr=>∃i j:Nat,iv=I J i/\jv=I J j/\a<=i/\i<=j/\j<=m/\ah (∀t y,L[t]?=X y->(a+t<i->y.key<=x.key)/\(j<=a+t->x.key<y.key))/\ah (bf w wr g D)) (λiv jv _=>(intOf jv).toNat-(intOf iv).toNat)
 case atStart=>exact⟨a,m,rfl,rfl,am _,ap,am _,(λt y hy=>⟨λh=>by omega,λh=>by have:=(aC.1 hy).1;have:=F.o;omega⟩),ad⟩
 case round=>
  obtain⟨i,j,rfl,rfl,r1,r2,r3,HQ,c⟩:=hrel;clear ad;by_cases aG:(i:Int)<j
  ·obtain⟨h,aE⟩:∃h:Nat,((i:Int)+j)/2=h:=⟨(i+j)/2,by omega⟩
   have aD:i<=h/\h<j:=by omega
   obtain⟨y,hy⟩:∃y,L[h-a]?=X y:=by
    have hl:h-a<L.length:=by have:=F.o;omega
    exact⟨_,ay hl⟩
   have hY:D[h]?=X y:=by have:=ac.o _ _ hy;rwa [show a+(h-a)=h by omega]at this
   have HY:=af hy;have ab:=af hY;have h0:(0:Int)<=h:=by omega
   have aA:(h:Int)<N:=by omega
   clear hy hY;by_cases hc:x.key<y.key
   ·have NQ:ah (∀t z,L[t]?=X z->(a+t<i->z.key<=x.key)/\(h<=a+t->x.key<z.key)):=λt z hz=>⟨(HQ.o t z hz).1,λT=>by have:=C.o.le HY.o hz (by omega);omega⟩
    have KC:ah (∀W,bf w W g D->C8 W g (m*8) x/\C8 W g (h*8) y):=λW h=>⟨h.2.c8 HX.o,h.2.c8 ab.o⟩
    have CC:ah (iK Tryz.prog 63 #[F8 x,F8 y] wr.drew λe w'=>e=G (I J (jc x y))/\bf w w' g D):=rI x y c.o.drew
    obtain⟨r,s⟩:∃r,r=jc x y:=⟨_,rfl⟩;have aw:decide (r<0)=iV:=by rw[s];exact aS ((rU _ _).2 hc)
    rw[<-s]at CC;have K0:=af (KC.o _ c.o);have Z:=af (KC.o _ c.o.drew);obtain⟨⟨c0,c1,c2,c3,c4,c5,c6,c7⟩,d0,d1,d2,d3,d4,d5,d6,d7⟩:=K0.o;clear s;go_wp2;go_region_held3 (λw'=>C8 w' g (m*8) x/\C8 w' g (h*8) y) (first|go_keep|exact Z.o|exact K2.o) ((go_at_call 63;(with_reducible refine cn CC.o ?_);rintro e w2 ⟨rfl,s2⟩;have S2:=af s2;have K2:=af (KC.o _ s2);clear s2))
    all_goals
     go_wp2;go_roundw
     case rel=>exact⟨i,h,rfl,rfl,r1,by omega,by omega,NQ,S2⟩
     case measure=>simp[intOf];omega
   ·have NQ:ah (∀t z,L[t]?=X z->(a+t<h+1->z.key<=x.key)/\(j<=a+t->x.key<z.key)):=λt z hz=>⟨λT=>by have:=C.o.le hz HY.o (by omega);omega,(HQ.o t z hz).2⟩
    have KC:ah (∀W,bf w W g D->C8 W g (m*8) x/\C8 W g (h*8) y):=λW h=>⟨h.2.c8 HX.o,h.2.c8 ab.o⟩
    have CC:ah (iK Tryz.prog 63 #[F8 x,F8 y] wr.drew λe w'=>e=G (I J (jc x y))/\bf w w' g D):=rI x y c.o.drew
    obtain⟨r,s⟩:∃r,r=jc x y:=⟨_,rfl⟩;have aw:decide (r<0)=iF:=by rw[s];exact aV (λe=>hc ((rU _ _).1 e))
    rw[<-s]at CC;have K0:=af (KC.o _ c.o);have Z:=af (KC.o _ c.o.drew);obtain⟨⟨c0,c1,c2,c3,c4,c5,c6,c7⟩,d0,d1,d2,d3,d4,d5,d6,d7⟩:=K0.o;clear s;go_wp2;go_region_held3 (λw'=>C8 w' g (m*8) x/\C8 w' g (h*8) y) (first|go_keep|exact Z.o|exact K2.o) ((go_at_call 63;(with_reducible refine cn CC.o ?_);rintro e w2 ⟨rfl,s2⟩;have S2:=af s2;have K2:=af (KC.o _ s2);clear s2))
    all_goals
     go_wp2;go_roundw
     case rel=>exact⟨h+1,j,by go_num,rfl,by omega,by omega,r3,NQ,S2⟩
     case measure=>simp[intOf];omega
  ·have ar:i=j:=by omega
   subst ar;obtain⟨l,A,K,l1⟩:∃l A,L=l++A/\l.length=i-a:=⟨L.take (i-a),L.drop (i-a),(jk _ _).symm,by rw[cD];have:=F.o;omega⟩
   have l2:A.length=m-i:=by have h1:=congrArg List.length K;rw[aI]at h1;have:=F.o;omega
   have R:∀y∈l,y.key<=x.key:=by
    intro y hy;obtain⟨t,T⟩:=iG hy;have ax:=(aC.1 T).1;exact(HQ.o t y (by rw[K,ip ax];exact T)).1 (by omega)
   have p:∀y∈A,x.key<y.key:=by
    intro y hy;obtain⟨t,T⟩:=iG hy;exact(HQ.o (l.length+t) y (by rw[K,cu (by omega)];simpa using T)).2 (by omega)
   have MA:ah (Asc (l++x::A)):=by
    have h1:=C.o;rw[K]at h1;refine Asc.app h1.left (gx.2 ⟨λy hy=>tW (p y hy),h1.right⟩) ?_
    intro u hu v hv;rcases be.1 hv with e|e
    ·subst e;exact R u hu
    ·exact h1.across u hu v e
   have MK:ah (Akin (L++[x]) (l++x::A)):=by
    show Akin _ _;rw[K];have:=(Akin.refl l).app (Akin.flip (a:=A) (b:=[x]) (λu hu v hv=>by rw[bU]at hv;subst hv;have:=p u hu;omega))
    simpa using this
   have ML:ah ((l++x::A).length=L.length+1):=by show _=_;rw[K];simp;omega
   have E0:ah (D=P++(l++(A++(x::([]++Q))))):=by show _=_;rw[HD.o,K];simp
   have al:=af l1;have ao:=af l2;have S0:=c;clear R p K HQ ac HX C l1 l2;go_wp2;go_loopw [17] (λkv wr=>∃(k:Nat) (E U V:List an),kv=I J k/\i<=k/\k<=m/\ah (U.length=k-i/\U++V=A/\E=P++(l++(U++(x::(V++Q)))))/\ah (E.length=N)/\ah (bf w wr g E)) (λkv _=>(intOf kv).toNat)
   case atStart=>exact⟨m,D,A,[],rfl,r3,am _,⟨ao.o,by simp,E0.o⟩,HL,S0⟩
   case round=>
    obtain⟨k,E,U,V,rfl,r4,r5,HU,ak,c⟩:=hrel;obtain⟨u1,u2,u3⟩:=HU.o;by_cases hk:(i:Int)<k
    ·obtain⟨B,u,eU⟩:∃B u,U=B++[u]:=by
      have H:U≠ []:=λe=>by subst e;simp at u1;omega
      exact⟨U.dropLast,U.getLast H,(Ef H).symm⟩
     subst eU;obtain⟨q,aH⟩:∃q:Nat,(k:Int)-1=q:=⟨k-1,by omega⟩
     have aJ:IntKind.i64.wrap ((k:Int)-1)=q:=by rw[cm];omega
     have eE:E=(P++l++B)++u::([]++x::(V++Q)):=by rw[u3];simp
     have aa:(P++l++B).length=q:=by
      rw[aI,aI];rw[aI]at u1;have:=HP.o;have:=al.o;simp at u1;omega
     have hq:E[q]?=X u:=by rw[eE,<-aa];simp
     have hp:E[k]?=X x:=by
      rw[eE,cu (by omega)]
      have:k-(P++l++B).length=1:=by omega
      rw[this];rfl
     have S:(E.set k u).set q x=P++(l++(B++(x::((u::V)++Q)))):=by
      have:=uK (P++l++B) [] (V++Q) u x;rw[aa,<-eE]at this;rw[Ed _ _ (show k≠q by omega),show k=q+1+([]:List an).length by simp;omega,this]
      simp
     have NU:ah (B.length=q-i/\B++(u::V)=A/\(E.set k u).set q x=P++(l++(B++(x::((u::V)++Q))))):=⟨by simp at u1;omega,by rw[<-u2];simp,S⟩
     have NL:ah (((E.set k u).set q x).length=N):=by show _=_;rw[gK,gK];exact ak.o
     have k0:(0:Int)<=k:=by omega
     have q0:(0:Int)<=q:=by omega
     have kN:(k:Int)<N:=by omega
     have qN:(q:Int)<N:=by omega
     have d:=af hp;have f:=af hq;have aF:q+1=k:=by omega
     clear hp hq eE aa S u1 u2 u3 HU;obtain⟨aj,ai⟩:=c.o.2.swap d.o f.o;have NX:ah (bf w (dX (dX wr g (k*8) u) g (q*8) x) g ((E.set k u).set q x)):=⟨c.o.1.trans ai,aj⟩;have x0:wr.cell? ⟨g,k*8,O⟩=X (I J x.block):=c.o.2.cell d.o 0 rfl;have z0:wr.cell? ⟨g,q*8,O⟩=X (I J u.block):=c.o.2.cell f.o 0 rfl;have k0:=c.o.2.frozen (k*8);have l0:=c.o.2.frozen (q*8);have x1:wr.cell? ⟨g,k*8+1,O⟩=X (I J x.leaf):=c.o.2.cell d.o 1 rfl;have z1:wr.cell? ⟨g,q*8+1,O⟩=X (I J u.leaf):=c.o.2.cell f.o 1 rfl;have k1:=c.o.2.frozen (k*8+1);have l1:=c.o.2.frozen (q*8+1);have x2:wr.cell? ⟨g,k*8+2,O⟩=X (I J x.fP.kind):=c.o.2.cell d.o 2 rfl;have z2:wr.cell? ⟨g,q*8+2,O⟩=X (I J u.fP.kind):=c.o.2.cell f.o 2 rfl;have k2:=c.o.2.frozen (k*8+2);have l2:=c.o.2.frozen (q*8+2);have x3:wr.cell? ⟨g,k*8+3,O⟩=X (I J x.fP.seq):=c.o.2.cell d.o 3 rfl;have z3:wr.cell? ⟨g,q*8+3,O⟩=X (I J u.fP.seq):=c.o.2.cell f.o 3 rfl;have k3:=c.o.2.frozen (k*8+3);have l3:=c.o.2.frozen (q*8+3);have x4:wr.cell? ⟨g,k*8+4,O⟩=X (I J x.fP.tx):=c.o.2.cell d.o 4 rfl;have z4:wr.cell? ⟨g,q*8+4,O⟩=X (I J u.fP.tx):=c.o.2.cell f.o 4 rfl;have k4:=c.o.2.frozen (k*8+4);have l4:=c.o.2.frozen (q*8+4);have x5:wr.cell? ⟨g,k*8+5,O⟩=X (I J x.fP.part):=c.o.2.cell d.o 5 rfl;have z5:wr.cell? ⟨g,q*8+5,O⟩=X (I J u.fP.part):=c.o.2.cell f.o 5 rfl;have k5:=c.o.2.frozen (k*8+5);have l5:=c.o.2.frozen (q*8+5);have x6:wr.cell? ⟨g,k*8+6,O⟩=X (I J x.fP.count):=c.o.2.cell d.o 6 rfl;have z6:wr.cell? ⟨g,q*8+6,O⟩=X (I J u.fP.count):=c.o.2.cell f.o 6 rfl;have k6:=c.o.2.frozen (k*8+6);have l6:=c.o.2.frozen (q*8+6);have x7:wr.cell? ⟨g,k*8+7,O⟩=X (iT x.fP.text):=c.o.2.cell d.o 7 rfl;have z7:wr.cell? ⟨g,q*8+7,O⟩=X (iT u.fP.text):=c.o.2.cell f.o 7 rfl;have k7:=c.o.2.frozen (k*8+7);have l7:=c.o.2.frozen (q*8+7);have y0:=(dI wr g (k*8) (q*8) u (by omega)).trans z0
     have y1:=(dI wr g (k*8) (q*8+1) u (by omega)).trans z1
     have y2:=(dI wr g (k*8) (q*8+2) u (by omega)).trans z2
     have y3:=(dI wr g (k*8) (q*8+3) u (by omega)).trans z3
     have y4:=(dI wr g (k*8) (q*8+4) u (by omega)).trans z4
     have y5:=(dI wr g (k*8) (q*8+5) u (by omega)).trans z5
     have y6:=(dI wr g (k*8) (q*8+6) u (by omega)).trans z6
     have y7:=(dI wr g (k*8) (q*8+7) u (by omega)).trans z7
     unfold dX at y0 y1 y2 y3 y4 y5 y6 y7;clear aj ai;go_wp2;go_region;have ND:=af NX.o.drew;unfold dX at ND;go_wp2;go_roundw
     case rel=>exact⟨q,_,B,u::V,by first|rfl|go_num,by omega,by omega,NU,NL,ND⟩
     case measure=>simp[intOf];omega
    ·have hU:U=[]:=iJ (by omega)
     subst hU;have hE:E=P++((l++x::A)++Q):=by rw[u3,<-u2];simp
     subst hE;clear u1 u2 u3 HU;go_wp2
     first|go_end0|refine az (kG rfl _ _ _) rfl ?_
     exact⟨rfl,l++x::A,MA.o,MK.o,ML.o,c.o⟩
end Go.Proofs.YtgigcooffjjbgaaGreatDoor
namespace Go.Proofs.YtgigcooffjjbgaaGreatDoor.Words
def nP(L R:List an)(a m p lo hi s r:Nat):Prop:=∀c u v,lo<=c->c<hi->L[c-a]?=X u->R[p-c-m]?=X v->(c<s->u.key<=v.key)/\(r<=c->v.key<u.key)
variable{lo m b:Nat}
theorem nP.up{L R:List an}{a p hi s r c:Nat}{u v:an}(h:nP L R a m p lo hi s r)(f:Asc L)(g:Asc R)(k:L[c-a]?=X u)(l:R[p-c-m]?=X v)(i:a<=lo)(j:u.key<=v.key):nP L R a m p lo hi (c+1) r:=by
 intro c' u' n h1 e b d;refine⟨λo=>?_,(h c' u' n h1 e b d).2⟩
 have q:=f.le b k (by omega)
 have t:=g.le l d (by omega)
 omega
theorem nP.down{L R:List an}{a p hi s r c:Nat}{u v:an}(h:nP L R a m p lo hi s r)(f:Asc L)(g:Asc R)(j:L[c-a]?=X u)(k:R[p-c-m]?=X v)(i:v.key<u.key):nP L R a m p lo hi s c:=by
 intro c' u' l h1 e b d;refine⟨(h c' u' l h1 e b d).1,λn=>?_⟩
 have o:=f.le j b (by omega)
 have q:=g.le d k (by omega)
 omega
theorem nP.parts {L R:List an} {a mid hi s:Nat} (h:nP L R a m (mid+m-1) lo hi s s) (w:Asc L) (x:Asc R) (Q:a+L.length=m) (S:m+R.length=b) (B:a<=s) (G:s<=m) (F:s<=mid) (E:mid+m-s<=b)
 (p:lo<=s) (h1:s<m->s<mid->s<hi) (A:a<s->mid+m-s<b->lo<s) (C:s<=hi):
 ∃j l n o,L=j++l/\R=n++o/\j.length=s-a/\l.length=m-s/\n.length=mid-s/\o.length=b-(mid+m-s)/\(∀u∈l,∀v∈n,v.key<u.key)/\(∀u∈j,∀v∈o,u.key<=v.key):=by
 have y:L=L.take (s-a)++L.drop (s-a):=(jk _ _).symm;have z:R=R.take (mid-s)++R.drop (mid-s):=(jk _ _).symm;have H:(L.take (s-a)).length=s-a:=by rw[cD];omega
 have I:(L.drop (s-a)).length=m-s:=by rw[iz];omega
 have J:(R.take (mid-s)).length=mid-s:=by rw[cD];omega
 have K:(R.drop (mid-s)).length=b-(mid+m-s):=by rw[iz];omega
 refine⟨_,_,_,_,y,z,H,I,J,K,?_,?_⟩
 ·intro u g v i;have M:0<(L.drop (s-a)).length:=xY g;have N:0<(R.take (mid-s)).length:=xY i;have q:=h1 (by omega) (by omega)
  obtain⟨f,d⟩:∃f,L[s-a]?=X f:=⟨_,ay (by omega)⟩
  obtain⟨v0,e⟩:∃v0,R[mid-1-s]?=X v0:=⟨_,ay (by omega)⟩
  have k:=(h s f v0 p q d (by rw[show mid+m-1-s-m=mid-1-s by omega];exact e)).2 (am _)
  have O:f.key<=u.key:=by
   obtain⟨t,c⟩:=iG g;rw[ly]at c;exact w.le d c (by omega)
  have P:v.key<=v0.key:=by
   obtain⟨t,c⟩:=iG i;have r:=(aC.1 c).1;rw[xj (by omega)]at c
   exact x.le c e (by omega)
  omega
 ·intro u g v i;have M:0<(L.take (s-a)).length:=xY g;have N:0<(R.drop (mid-s)).length:=xY i;have D:=A (by omega) (by omega)
  obtain⟨f,d⟩:∃f,L[s-1-a]?=X f:=⟨_,ay (by omega)⟩
  obtain⟨v0,e⟩:∃v0,R[mid-s]?=X v0:=⟨_,ay (by omega)⟩
  have k:=(h (s-1) f v0 (by omega) (by omega) d (by rw[show mid+m-1-(s-1)-m=mid-s by omega];exact e)).1 (by omega)
  have O:u.key<=f.key:=by
   obtain⟨t,c⟩:=iG g;have r:=(aC.1 c).1;rw[xj (by omega)]at c
   exact w.le c d (by omega)
  have P:v0.key<=v.key:=by
   obtain⟨t,c⟩:=iG i;rw[ly]at c;exact x.le e c (by omega)
  omega
theorem Zx{c d e h i j:List an}(s:Asc (c++d))(t:Asc (e++h))(h1:∀u∈d,∀v∈e,v.key<u.key)(r:∀u∈c,∀v∈h,u.key<=v.key)(m1:Asc i)(m2:Asc j)(n:Akin (c++e) i)(o:Akin (d++h) j):
 Asc (i++j)/\Akin ((c++d)++(e++h)) (i++j):=by
 refine⟨Asc.app m1 m2 ?_,?_⟩
 ·intro x k y hy;have l:=(n.mem x).2 k;have m:=(o.mem y).2 hy;rcases bJ.1 l with a|a<;>rcases bJ.1 m with b|b
  ·exact s.across x a y b
  ·exact r x a y b
  ·exact tW (h1 y b x a)
  ·exact t.across x a y b
 ·have f:=Akin.flip (a:=d) (b:=e) (λx k y hy=>by have:=h1 x k y hy;omega)
  have g:=((Akin.refl c).app (f.app (Akin.refl h)));have p:(c++d)++(e++h)=c++(d++e++h):=by simp
  have q:c++(e++d++h)=(c++e)++(d++h):=by simp
  rw[p];refine g.trans ?_;rw[q];exact n.app o
end Go.Proofs.YtgigcooffjjbgaaGreatDoor.Words
namespace Go.Proofs.YtgigcooffjjbgaaGreatDoor
open Go.RowKit Words
def Kv(k:Nat):Prop:=∀(g N cap a m b:Nat) (P L R Q:List an) (w:iW),N<=1000000000000000->(P++(L++(R++Q))).length=N->P.length=a->a+L.length=m->m+R.length=b->1<=L.length->1<=R.length->L.length+R.length<=k->Asc L->Asc R->eo w g (P++(L++(R++Q)))->
 iK Tryz.prog 153 #[Y (X ⟨g,0,O⟩) N cap,I J a,I J m,I J b,.func (.func 63) #[] #[]] w λe w'=>e=G (iU #[])/\∃M,Asc M/\Akin (L++R) M/\M.length=L.length+R.length/\bf w w' g (P++(M++Q))
theorem aap(k:Nat)(IH:Kv k)(g N cap a m b:Nat)(P L R Q:List an)(w:iW)(hN:N<=1000000000000000)(V:(P++(L++(R++Q))).length=N)(hP:P.length=a)(hm:a+L.length=m)(hb:m+R.length=b)(aK:2<=L.length)(aL:2<=R.length)(hk:L.length+R.length<=k+1)(hL:Asc L)(hR:Asc R)(hr:eo w g (P++(L++(R++Q)))):
 iK Tryz.prog 153 #[Y (X ⟨g,0,O⟩) N cap,I J a,I J m,I J b,.func (.func 63) #[] #[]] w λe w'=>e=G (iU #[])/\∃M,Asc M/\Akin (L++R) M/\M.length=L.length+R.length/\bf w w' g (P++(M++Q)):=by
 have a0:b<=N:=by rw[<-V];simp;omega
 obtain⟨D,hD⟩:∃D,D=P++(L++(R++Q)):=⟨_,rfl⟩;rw[<-hD]at V hr;have aA:∀t y,L[t]?=X y->D[a+t]?=X y:=by
  intro t y hy;have ht:=(aC.1 hy).1;rw[hD,cu (by omega),show a+t-P.length=t by omega,ip ht]
  exact hy
 have aB:∀t y,R[t]?=X y->D[m+t]?=X y:=by
  intro t y hy;have ht:=(aC.1 hy).1;rw[hD,cu (by omega),cu (by omega),show m+t-P.length-L.length=t by omega,ip ht]
  exact hy
 have HI:=af IH;have HD:=af hD;have HL:=af V;have al:=af aA;have au:=af aB;have HA:=af hL;have HB:=af hR;have av:ah (bf w w g D):=⟨aR.refl _ _,hr⟩;have HP:=af hP;obtain⟨nl,aa⟩:∃n,L.length=n:=⟨_,rfl⟩;obtain⟨nr,ab⟩:∃n,R.length=n:=⟨_,rfl⟩;rw[aa]at hm aK hk;rw[ab]at hb aL hk;have ao:=af aa;have ap:=af ab;have a7:((m:Int)-a==1)=iF:=by rw[dk];omega
 have a8:((b:Int)-m==1)=iF:=by rw[dk];omega
 obtain⟨mid,aV⟩:∃mid:Nat,((a:Int)+b)/2=mid:=⟨(a+b)/2,by omega⟩
 obtain⟨nn,ba⟩:∃nn:Nat,(mid:Int)+m=nn:=⟨mid+m,by omega⟩
 obtain⟨S,bb⟩:∃S:Nat,(nn:Int)-1=S:=⟨nn-1,by omega⟩
 have a9:2*mid<=a+b/\a+b<=2*mid+1:=by omega
 have aU:a<mid/\mid<b:=by omega
 clear IH hD V hP hr aA aB hL hR aa ab;obtain⟨lo,r0,aP⟩:∃lo r0:Nat,((mid:Int)<m/\(nn:Int)-b=lo/\r0=mid)∨(¬(mid:Int)<m/\lo=a/\r0=m):=by
  by_cases h:(mid:Int)<m
  ·exact⟨nn-b,mid,Or.inl ⟨h,by omega,rfl⟩⟩
  ·exact⟨a,m,Or.inr ⟨h,rfl,rfl⟩⟩
 rcases aP with⟨aM,aD,aE⟩|⟨aM,aD,aE⟩
 all_goals
  go_enter Tryz.func153,Tryz.ntmps153;go_wp2;go_loopw [20,21] (λiv jv wr=>∃i j:Nat,iv=I J i/\jv=I J j/\lo<=i/\i<=j/\j<=r0/\ah (nP L R a m S lo r0 i j)/\ah (bf w wr g D)) (λiv jv _=>(intOf jv).toNat-(intOf iv).toNat)
  case atStart=>exact⟨lo,r0,by first|rfl|go_num|rw[aD],by rw[aE],am _,by omega,am _,(λc u v h1 h2 _ _=>⟨λh=>by omega,λh=>by omega⟩),av⟩
  case round=>
   obtain⟨i,j,rfl,rfl,r1,r2,r3,HQ,T⟩:=hrel;clear av;by_cases a6:(i:Int)<j
   ·obtain⟨h,a5⟩:∃h:Nat,((i:Int)+j)/2=h:=⟨(i+j)/2,by omega⟩
    have a4:i<=h/\h<j:=by omega
    obtain⟨z,aX⟩:∃z:Nat,(S:Int)-h=z:=⟨S-h,by omega⟩
    have aY:IntKind.i64.wrap ((S:Int)-h)=z:=by rw[cm];omega
    have aQ:IntKind.i64.wrap (z:Int)=z:=by rw[cm];omega
    have aW:m<=z/\z<b:=by omega
    obtain⟨u,hu⟩:∃u,L[h-a]?=X u:=by
     have V:h-a<L.length:=by have:=ao.o;omega
     exact⟨_,ay V⟩
    obtain⟨v,hv⟩:∃v,R[z-m]?=X v:=by
     have V:z-m<R.length:=by have:=ap.o;omega
     exact⟨_,ay V⟩
    have aF:ah (D[h]?=X u):=by have:=al.o _ _ hu;rwa [show a+(h-a)=h by omega]at this
    have aG:ah (D[z]?=X v):=by have:=au.o _ _ hv;rwa [show m+(z-m)=z by omega]at this
    have ax:ah (R[S-h-m]?=X v):=by show _=_;rw[show S-h=z by omega];exact hv
    have aw:=af hu;have h0:(0:Int)<=h:=by omega
    have aZ:(h:Int)<N:=by omega
    have bc:(0:Int)<=z:=by omega
    have bd:(z:Int)<N:=by omega
    clear hu hv;have KC:ah (∀W,bf w W g D->C8 W g (z*8) v/\C8 W g (h*8) u):=λW h=>⟨h.2.c8 aG.o,h.2.c8 aF.o⟩
    have CC:ah (iK Tryz.prog 63 #[F8 v,F8 u] wr.drew λe w'=>e=G (I J (jc v u))/\bf w w' g D):=rI v u T.o.drew
    obtain⟨r,ac⟩:∃r,r=jc v u:=⟨_,rfl⟩;obtain⟨q,hq⟩:=aq (decide (r<0));have ar:ah (q=iV↔v.key<u.key):=by show _↔_;rw[<-hq,ac,bM];exact rU _ _
    rw[<-ac]at CC;have K0:=af (KC.o _ T.o);have aH:=af (KC.o _ T.o.drew);obtain⟨⟨c0,c1,c2,c3,c4,c5,c6,c7⟩,d0,d1,d2,d3,d4,d5,d6,d7⟩:=K0.o;clear ac;go_wp2;go_region_held3 (λw'=>C8 w' g (z*8) v/\C8 w' g (h*8) u) (first|go_keep|exact aH.o|exact K2.o) ((go_at_call 63;(with_reducible refine cn CC.o ?_);rintro e w2 ⟨rfl,s2⟩;have K:=af s2;have K2:=af (KC.o _ s2);clear s2))
    all_goals
     cases q with
     |true=>
      have NQ:=af (HQ.o.down HA.o HB.o aw.o ax.o (ar.o.1 rfl));go_wp2;go_roundw
      case rel=>exact⟨i,h,rfl,rfl,r1,by omega,by omega,NQ,K⟩
      case measure=>simp[intOf];omega
     |false=>
      have hc:¬v.key<u.key:=λe=>Bool.false_ne_true (ar.o.2 e)
      have NQ:=af (HQ.o.up HA.o HB.o aw.o ax.o (by omega) (by omega))
      clear hc;go_wp2;go_roundw
      case rel=>exact⟨h+1,j,by go_num,rfl,by omega,by omega,r3,NQ,K⟩
      case measure=>simp[intOf];omega
   ·have aN:i=j:=by omega
    subst aN;obtain⟨l,a3⟩:∃l:Nat,(nn:Int)-i=l:=⟨nn-i,by omega⟩
    obtain⟨p,A,x,B,eL,eR,n1,n2,n3,n4,F1,F2⟩:=nP.parts (b:=b) (mid:=mid) (s:=i) (by rw[show mid+m-1=S by omega];exact HQ.o) HA.o HB.o (by have:=ao.o;omega) (by have:=ap.o;omega) (by omega) (by omega) (by omega) (by omega) r1 (by omega) (by omega) (by omega)
    have F:=HA.o;have H:=HB.o;rw[eL]at F;rw[eR]at H;have ED:ah (D=(P++p)++(A++(x++(B++Q)))):=by show _=_;rw[HD.o,eL,eR];simp
    have aJ:ah ((P++p).length=i):=by show _=_;rw[aI];have:=HP.o;omega
    have ae:=af F.left;have ag:=af F.right;have ai:=af H.left;have aj:=af H.right;have ak:ah (∀f U,Asc f/\Akin (p++x) f/\f.length=p.length+x.length->Asc U/\Akin (A++B) U/\U.length=A.length+B.length->∀W,bf w W g (P++(f++(U++Q)))->∃M,Asc M/\Akin (L++R) M/\M.length=L.length+R.length/\bf w W g (P++(M++Q))):=by
     intro f U ⟨a1,k1,l1⟩ ⟨a2,k2,l2⟩ W hs;obtain⟨b1,b2⟩:=Zx F H F1 F2 a1 a2 k1 k2;refine⟨f++U,b1,by rw[eL,eR];exact b2,?_,?_⟩
     ·rw[eL,eR,aI,aI,aI];omega
     ·rw[fW];exact hs
    have LD:ah (((P++p)++(x++(A++(B++Q)))).length=N):=by
     have h1:=HL.o;rw[ED.o]at h1;show _=_;simp only[aI]at h1⊢;omega
    have d:ah (a+p.length=i/\i+A.length=m/\m+x.length=l/\l+B.length=b):=by
     have:=HP.o;exact⟨by omega,by omega,by omega,by omega⟩
    have E0:∀Xq:List an,Xq.length=0->Xq=[]:=λXq=>iJ
    have E:=af E0;clear F H F1 F2 eL eR n1 n2 n3 n4 HQ al au HL E0;all_goals
     by_cases aS:i<m/\m<l
     case' pos=>
      obtain⟨t1,t2⟩:=aS;have q1:(i:Int)<m:=by omega
      have q2:(m:Int)<l:=by omega
      have C:ah (iK Tryz.prog 190 #[Y (X ⟨g,0,O⟩) N cap,I J i,I J m,I J l,.func (.func 63) #[] #[]] wr λe w'=>e=G (iU #[])/\bf wr w' g ((P++p)++(x++(A++(B++Q))))):=by
       refine RM g N cap i m l _ D _ wr hN ?_ t1 t2 (by omega) ⟨P++p,A,x,B++Q,ED.o,by have:=d.o;omega,by have:=d.o;omega,by have:=aJ.o;omega,rfl⟩ T.o.2
       have h1:=LD.o;rw[ED.o];simp only[aI]at h1⊢;omega
      go_wp2_with fail;refine C.o.mono ?_;rintro e wr ⟨rfl,s2⟩;have K:=af (T.o.trans s2);clear s2 C T
     case' neg=>
      have K:ah (bf w wr g ((P++p)++(x++(A++(B++Q))))):=by
       have ad:D=(P++p)++(x++(A++(B++Q))):=by
        rw[ED.o];by_cases hz:i<m
        ·rw[E.o x (by have:=d.o;omega)];simp
        ·rw[E.o A (by have:=d.o;omega)];simp
       show bf _ _ _ _;rw[<-ad];exact T.o
      clear T;rcases(show¬(i:Int)<m∨((i:Int)<m/\¬(m:Int)<l)by omega)with q1|⟨q1,q2⟩
    all_goals
     by_cases aO:a<i/\i<mid
     case' pos=>
      obtain⟨x1,x2⟩:=aO;have v1:(a:Int)<i:=by omega
      have v2:(i:Int)<mid:=by omega
      have CL:=af (HI.o g N cap a i mid P p x (A++(B++Q)) wr hN (by have h1:=LD.o;simp only[aI]at h1⊢;omega) HP.o (by have:=d.o;omega) (by have:=d.o;omega) (by have:=d.o;omega) (by have:=d.o;omega) (by have:=d.o;omega) ae.o ai.o (by have h1:=K.o.2;simpa using h1))
      go_wp2_with fail;all_goals
       refine CL.o.mono ?_;rintro e wr ⟨rfl,f,c⟩;have S3:=af (K.o.trans c.2.2.2);have MF:=af (show Asc f/\Akin (p++x) f/\f.length=p.length+x.length from⟨c.1,c.2.1,c.2.2.1⟩);clear c CL K
     case' neg=>
      obtain⟨f,Z⟩:=aq (p++x);have MF:ah (Asc f/\Akin (p++x) f/\f.length=p.length+x.length):=by
       show _/\_;rw[<-Z];refine⟨?_,Akin.refl _,by simp⟩
       by_cases hz:a<i
       ·rw[E.o x (by have:=d.o;omega)];simpa using ae.o
       ·rw[E.o p (by have:=d.o;omega)];simpa using ai.o
      have S3:ah (bf w wr g (P++(f++(A++(B++Q))))):=by show bf _ _ _ _;have h1:=K.o;rw[<-Z];simpa using h1
      clear K Z;rcases(show¬(a:Int)<i∨((a:Int)<i/\¬(i:Int)<mid)by omega)with v1|⟨v1,v2⟩
    all_goals
     by_cases aT:mid<l/\l<b
     case' pos=>
      obtain⟨y1,y2⟩:=aT;have z1:(mid:Int)<l:=by omega
      have z2:(l:Int)<b:=by omega
      have CR:=af (HI.o g N cap mid l b (P++f) A B Q wr hN (by have h1:=LD.o;have h2:=MF.o.2.2;simp only[aI]at h1 h2⊢;omega) (by have h1:=MF.o.2.2;have:=d.o;have:=HP.o;simp only[aI]at h1⊢;omega) (by have:=d.o;omega) (by have:=d.o;omega) (by have:=d.o;omega) (by have:=d.o;omega) (by have:=d.o;omega) ag.o aj.o (by have h1:=S3.o.2;simpa using h1))
      go_wp2_with fail;all_goals
       refine CR.o.mono ?_;rintro e wr ⟨rfl,U,c⟩;have PF:=af (ak.o f U MF.o ⟨c.1,c.2.1,c.2.2.1⟩ wr (by have h1:=S3.o.trans c.2.2.2;simpa using h1))
       clear c CR
     case' neg=>
      have PF:=af (ak.o f (A++B) MF.o ⟨by
       by_cases hz:mid<l
       ·rw[E.o B (by have:=d.o;omega)];simpa using ag.o
       ·rw[E.o A (by have:=d.o;omega)];simpa using aj.o,Akin.refl _,by simp⟩ wr (by have h1:=S3.o;simpa using h1))
      rcases(show¬(mid:Int)<l∨((mid:Int)<l/\¬(l:Int)<b)by omega)with z1|⟨z1,z2⟩
    all_goals
     go_wp2;all_goals
      first|go_end0|refine az (kG rfl _ _ _) rfl ?_
      exact⟨rfl,PF.o⟩
theorem Jb:∀k,Kv k:=by
 intro k
 induction k with
 |zero=>
  intro g N cap a m b P L R Q w _ _ _ _ _ h1 s o;omega
 |succ k t=>
  intro g N cap a m b P L R Q w d i f j h h1 s o p q l;by_cases n:L.length=1
  ·obtain⟨x,rfl⟩:=G9.1 n;have:=RU g N cap a m b P R Q x w d (by simpa using i) f (by simpa using j) h q (by simpa using l)
   refine this.mono ?_;rintro e w' ⟨rfl,M,c1,c2,c3,c⟩;exact⟨rfl,M,c1,c2,by simp;omega,c⟩
  ·by_cases r:R.length=1
   ·obtain⟨x,rfl⟩:=G9.1 r;have:=Xe g N cap a m b P L Q x w d (by simpa using i) f j (by simpa using h) n p (by simpa using l)
    refine this.mono ?_;rintro e w' ⟨rfl,M,c1,c2,c3,c⟩;exact⟨rfl,M,c1,c2,by simp;omega,c⟩
   ·exact aap k t g N cap a m b P L R Q w d i f j h (by omega) (by omega) o p q l
theorem FY(g N cap a b:Nat)(P L Q:List an)(w:iW)(hN:N<=1000000000000000)(hl:(P++(L++Q)).length=N)(hP:P.length=a)(hb:a+L.length=b)(hr:eo w g (P++(L++Q))):
 iK Tryz.prog 152 #[Y (X ⟨g,0,O⟩) N cap,I J a,I J b,.func (.func 63) #[] #[]] w λe w'=>e=G (iU #[])/\∃M,Asc M/\Akin L M/\M.length=L.length/\bf w w' g (P++(M++Q)):=by
 have av:b<=N:=by rw[<-hl];simp;omega
 cases L with
 |nil=>
  have al:b=a:=by simpa using hb.symm
  subst al;have PF:ah (∃M,Asc M/\Akin ([]:List an) M/\M.length=([]:List an).length/\bf w w g (P++(M++Q))):=⟨[],List.Pairwise.nil,Akin.refl _,rfl,aR.refl _ _,hr⟩;clear hr hl;go_enter Tryz.func152,Tryz.ntmps152;go_wp2;go_loopw [8] (λiv wr=>iv=I J ((b:Int)+1)/\wr=w) (λ_ _=>0)
  case atStart=>exact⟨by first|rfl|go_num,rfl⟩
  case round=>
   obtain⟨rfl,rfl⟩:=hrel;have t:¬(b:Int)+1<b:=by omega
   go_wp2
   first|go_end0|refine az (kG rfl _ _ _) rfl ?_
   obtain⟨M,h1,h2,h3,h4⟩:=PF.o;exact⟨rfl,M,h1,h2,by simpa using h3,h4⟩
 |cons x0 L0=>
  obtain⟨D,hD⟩:∃D,D=P++((x0::L0)++Q):=⟨_,rfl⟩;rw[<-hD]at hl hr;have HL:=af hl;have ae:ah (bf w w g D):=⟨aR.refl _ _,hr⟩;have HP:=af hP;obtain⟨nl,t⟩:∃n,(x0::L0).length=n:=⟨_,rfl⟩;rw[t]at hb;have ad:=af t;have aB:1<=nl:=by rw[<-t];simp
  have ST:ah (∃S T,D=P++(S++(T++Q))/\Asc S/\Akin (x0::L0) (S++T)/\S.length=(a+1)-a/\S.length+T.length=nl):=⟨[x0],L0,by rw[hD];simp,mQ _ _,Akin.refl _,by simp,by rw[<-t];simp;omega⟩
  clear hD hl hP hr t;generalize x0::L0=L at ad ST;obtain⟨i0,ao⟩:∃i0:Nat,(a:Int)+1=i0:=⟨a+1,by omega⟩
  have hi1:ah (i0=a+1):=by show _=_;omega
  go_enter Tryz.func152,Tryz.ntmps152;go_wp2;clear ao;go_loopw [8] (λiv wr=>∃(i:Nat) (E:List an),iv=I J i/\a+1<=i/\i<=b/\ah (E.length=N)/\ah (∃S T,E=P++(S++(T++Q))/\Asc S/\Akin L (S++T)/\S.length=i-a/\S.length+T.length=nl)/\ah (bf w wr g E)) (λiv _=>b-(intOf iv).toNat)
  case atStart=>exact⟨i0,D,rfl,by have:=hi1.o;omega,by have:=hi1.o;omega,HL,by rw[hi1.o];exact ST,ae⟩
  case round=>
   rename iW=>wo
   obtain⟨i,E,rfl,r1,r2,HE,HJ,y⟩:=hrel;clear ae ST HL;by_cases aA:(i:Int)<b
   ·obtain⟨S,T0,e1,e2,e3,e4,e5⟩:=HJ.o
    match T0,e1,e3,e5 with
    | [],_,_,h5=>simp at h5;omega
    |x::T,e1,e3,e5=>
     have J0:ah (E=P++(S++(x::([]++(T++Q))))/\S++[]=S/\S.length=i-a/\∀v∈([]:List an),x.key<v.key):=⟨by rw[e1];simp,by simp,e4,λv hv=>by cases hv⟩
     have AS:=af e2;have AK:=af e3;have E5:=af e5;have ag:=y;have ac:=HE;have E4:=af e4;clear e1 e2 e3 e4 e5 HJ y HE;go_wp2;go_loopw [9] (λjv wr=>∃(j:Nat) (F U V:List an),jv=I J j/\a<=j/\j<=i/\ah (F.length=N)/\ah (F=P++(U++(x::(V++(T++Q))))/\U++V=S/\U.length=j-a/\∀v∈V,x.key<v.key)/\ah (bf w wr g F)) (λjv _=>(intOf jv).toNat)
     case atStart=>exact⟨i,E,S,[],rfl,by omega,am _,ac,J0,ag⟩
     case round=>
      obtain⟨j,m,U,V,rfl,s1,s2,HG,HK,y⟩:=hrel;clear ag ac J0;have z:ah ((∀u∈U,u.key<=x.key)->∃c T2,m=P++(c++(T2++Q))/\Asc c/\Akin L (c++T2)/\c.length=(i+1)-a/\c.length+T2.length=nl):=by
       intro hu;obtain⟨k1,B,K,k4⟩:=HK.o;have hA:=AS.o;rw[<-B]at hA;refine⟨U++x::V,T,by rw[k1];simp,Asc.app hA.left (gx.2 ⟨λv hv=>tW (k4 v hv),hA.right⟩) ?_,?_,?_,?_⟩
       ·intro p hp q hq;rcases be.1 hq with e|e
        ·subst e;exact hu p hp
        ·exact hA.across p hp q e
       ·refine AK.o.trans ?_;rw[<-B];have:=(Akin.refl U).app ((Akin.flip (a:=V) (b:=[x]) (λp hp q hq=>by rw[bU]at hq;subst hq;have:=k4 p hp;omega)).app (Akin.refl T))
        simpa using this
       ·have h1:=congrArg List.length B;have h2:=E4.o;simp only[aI,aW]at h1⊢;omega
       ·have h1:=congrArg List.length B;have h2:=E5.o;simp only[aI,aW]at h1 h2⊢;omega
      by_cases ap:(a:Int)<j
      ·obtain⟨k1,B,K,k4⟩:=HK.o;obtain⟨s,u,eU⟩:∃s u,U=s++[u]:=by
        have aj:U≠ []:=λe=>by subst e;simp at K;omega
        exact⟨U.dropLast,U.getLast aj,(Ef aj).symm⟩
       subst eU;obtain⟨q,aC⟩:∃q:Nat,(j:Int)-1=q:=⟨j-1,by omega⟩
       have aD:IntKind.i64.wrap ((j:Int)-1)=q:=by rw[cm];omega
       have au:IntKind.i64.wrap (q:Int)=q:=by rw[cm];omega
       have eE:m=(P++s)++u::([]++x::(V++(T++Q))):=by rw[k1];simp
       have R:(P++s).length=q:=by
        rw[aI];rw[aI]at K;have:=HP.o;simp at K;omega
       have hq:m[q]?=X u:=by rw[eE,<-R];simp
       have hp:m[j]?=X x:=by
        rw[eE,cu (by omega)]
        have:j-(P++s).length=1:=by omega
        rw[this];rfl
       have A:(m.set j u).set q x=P++(s++(x::((u::V)++(T++Q)))):=by
        have:=uK (P++s) [] (V++(T++Q)) u x;rw[R,<-eE]at this;rw[Ed _ _ (show j≠q by omega),show j=q+1+([]:List an).length by simp;omega,this]
        simp
       have NL:ah (((m.set j u).set q x).length=N):=by show _=_;rw[gK,gK];exact HG.o
       have ab:s.length=q-a:=by simp at K;omega
       have aa:s++(u::V)=S:=by rw[<-B];simp
       have j0:(0:Int)<=j:=by omega
       have q0:(0:Int)<=q:=by omega
       have jN:(j:Int)<N:=by omega
       have qN:(q:Int)<N:=by omega
       have f:=af hp;have k:=af hq;have ay:q+1=j:=by omega
       by_cases hc:x.key<u.key
       ·have NU:ah ((m.set j u).set q x=P++(s++(x::((u::V)++(T++Q))))/\s++(u::V)=S/\s.length=q-a/\∀v∈(u::V),x.key<v.key):=⟨A,aa,ab,λv hv=>by
         rcases be.1 hv with e|e
         ·subst e;exact hc
         ·exact k4 v e⟩
        clear hp hq eE R A k1 B K k4 HK z aa ab;have Z:ah (∀W,bf w W g m->C8 W g (j*8) x/\C8 W g (q*8) u):=λW h=>⟨h.2.c8 f.o,h.2.c8 k.o⟩
        have CC:ah (iK Tryz.prog 63 #[F8 x,F8 u] wr.drew λe w'=>e=G (I J (jc x u))/\bf w w' g m):=rI x u y.o.drew
        obtain⟨r,l⟩:∃r,r=jc x u:=⟨_,rfl⟩;have aq:decide (r<0)=iV:=by rw[l];exact aS ((rU _ _).2 hc)
        rw[<-l]at CC;have K0:=af (Z.o _ y.o);have C:=af (Z.o _ y.o.drew);obtain⟨⟨c0,c1,c2,c3,c4,c5,c6,c7⟩,d0,d1,d2,d3,d4,d5,d6,d7⟩:=K0.o;clear l;go_wp2;go_region_held3 (λw'=>C8 w' g (j*8) x/\C8 w' g (q*8) u) (first|go_keep|exact C.o|exact K2.o) ((go_at_call 63;(with_reducible refine cn CC.o ?_);rintro e d ⟨rfl,s2⟩;have c:=af s2;have K2:=af (Z.o _ s2);clear s2))
        all_goals
         clear c0 c1 c2 c3 c4 c5 c6 c7 d0 d1 d2 d3 d4 d5 d6 d7 K0 C K2 CC Z;obtain⟨ak,ai⟩:=c.o.2.swap f.o k.o;have NX:ah (bf w (dX (dX d g (j*8) u) g (q*8) x) g ((m.set j u).set q x)):=⟨c.o.1.trans ai,ak⟩;have x0:d.cell? ⟨g,j*8,O⟩=X (I J x.block):=c.o.2.cell f.o 0 rfl;have z0:d.cell? ⟨g,q*8,O⟩=X (I J u.block):=c.o.2.cell k.o 0 rfl;have k0:=c.o.2.frozen (j*8);have l0:=c.o.2.frozen (q*8);have x1:d.cell? ⟨g,j*8+1,O⟩=X (I J x.leaf):=c.o.2.cell f.o 1 rfl;have z1:d.cell? ⟨g,q*8+1,O⟩=X (I J u.leaf):=c.o.2.cell k.o 1 rfl;have k1:=c.o.2.frozen (j*8+1);have l1:=c.o.2.frozen (q*8+1);have x2:d.cell? ⟨g,j*8+2,O⟩=X (I J x.fP.kind):=c.o.2.cell f.o 2 rfl;have z2:d.cell? ⟨g,q*8+2,O⟩=X (I J u.fP.kind):=c.o.2.cell k.o 2 rfl;have B:=c.o.2.frozen (j*8+2);have l2:=c.o.2.frozen (q*8+2);have x3:d.cell? ⟨g,j*8+3,O⟩=X (I J x.fP.seq):=c.o.2.cell f.o 3 rfl;have z3:d.cell? ⟨g,q*8+3,O⟩=X (I J u.fP.seq):=c.o.2.cell k.o 3 rfl;have K:=c.o.2.frozen (j*8+3);have l3:=c.o.2.frozen (q*8+3);have x4:d.cell? ⟨g,j*8+4,O⟩=X (I J x.fP.tx):=c.o.2.cell f.o 4 rfl;have z4:d.cell? ⟨g,q*8+4,O⟩=X (I J u.fP.tx):=c.o.2.cell k.o 4 rfl;have k4:=c.o.2.frozen (j*8+4);have l4:=c.o.2.frozen (q*8+4);have x5:d.cell? ⟨g,j*8+5,O⟩=X (I J x.fP.part):=c.o.2.cell f.o 5 rfl;have z5:d.cell? ⟨g,q*8+5,O⟩=X (I J u.fP.part):=c.o.2.cell k.o 5 rfl;have k5:=c.o.2.frozen (j*8+5);have l5:=c.o.2.frozen (q*8+5);have x6:d.cell? ⟨g,j*8+6,O⟩=X (I J x.fP.count):=c.o.2.cell f.o 6 rfl;have z6:d.cell? ⟨g,q*8+6,O⟩=X (I J u.fP.count):=c.o.2.cell k.o 6 rfl;have k6:=c.o.2.frozen (j*8+6);have l6:=c.o.2.frozen (q*8+6);have x7:d.cell? ⟨g,j*8+7,O⟩=X (iT x.fP.text):=c.o.2.cell f.o 7 rfl;have z7:d.cell? ⟨g,q*8+7,O⟩=X (iT u.fP.text):=c.o.2.cell k.o 7 rfl;have k7:=c.o.2.frozen (j*8+7);have l7:=c.o.2.frozen (q*8+7);have y0:=(dI d g (j*8) (q*8) u (by omega)).trans z0
         have y1:=(dI d g (j*8) (q*8+1) u (by omega)).trans z1
         have y2:=(dI d g (j*8) (q*8+2) u (by omega)).trans z2
         have y3:=(dI d g (j*8) (q*8+3) u (by omega)).trans z3
         have y4:=(dI d g (j*8) (q*8+4) u (by omega)).trans z4
         have y5:=(dI d g (j*8) (q*8+5) u (by omega)).trans z5
         have y6:=(dI d g (j*8) (q*8+6) u (by omega)).trans z6
         have y7:=(dI d g (j*8) (q*8+7) u (by omega)).trans z7
         unfold dX at y0 y1 y2 y3 y4 y5 y6 y7;clear ak ai;go_wp2;go_region;have ND:=af NX.o.drew;unfold dX at ND;go_wp2;go_roundw
         case rel=>exact⟨q,_,s,u::V,by first|rfl|go_num,by omega,by omega,NL,NU,ND⟩
         case measure=>simp[intOf];omega
       ·have PO:=af (z.o (λp H=>by
         have hA:=AS.o;rw[<-B]at hA;have h1:=hA.left;rcases bJ.1 H with e|e
         ·have:=h1.across p e u (by simp);omega
         ·rw[bU]at e;subst e;omega))
        clear hp hq eE R A k1 B K k4 HK z aa ab NL;have Z:ah (∀W,bf w W g m->C8 W g (j*8) x/\C8 W g (q*8) u):=λW h=>⟨h.2.c8 f.o,h.2.c8 k.o⟩
        have CC:ah (iK Tryz.prog 63 #[F8 x,F8 u] wr.drew λe w'=>e=G (I J (jc x u))/\bf w w' g m):=rI x u y.o.drew
        obtain⟨r,l⟩:∃r,r=jc x u:=⟨_,rfl⟩;have aq:decide (r<0)=iF:=by rw[l];exact aV (λe=>hc ((rU _ _).1 e))
        rw[<-l]at CC;have K0:=af (Z.o _ y.o);have C:=af (Z.o _ y.o.drew);obtain⟨⟨c0,c1,c2,c3,c4,c5,c6,c7⟩,d0,d1,d2,d3,d4,d5,d6,d7⟩:=K0.o;clear l;go_wp2;go_region_held3 (λw'=>C8 w' g (j*8) x/\C8 w' g (q*8) u) (first|go_keep|exact C.o|exact K2.o) ((go_at_call 63;(with_reducible refine cn CC.o ?_);rintro e d ⟨rfl,s2⟩;have c:=af s2;have K2:=af (Z.o _ s2);clear s2))
        all_goals
         go_wp2;go_roundw
         case rel=>exact⟨i+1,m,by go_num,by omega,by omega,HG,PO,c⟩
         case measure=>simp[intOf];omega
      ·have hU:U=[]:=by
        obtain⟨k1,B,K,k4⟩:=HK.o;exact iJ (by omega)
       have PO:=af (z.o (λp H=>by rw[hU]at H;cases H))
       have aw:decide ((a:Int)<j)=iF:=aV ap;have ar:decide (a<j)=iF:=aV (by omega)
       clear z HK hU;go_wp2;go_quiet (fail);go_wp2;go_roundw
       case rel=>exact⟨i+1,m,by go_num,by omega,by omega,HG,PO,y.o.below (bY (ax _ _) _)⟩
       case measure=>simp[intOf];omega
   ·obtain⟨S,T,e1,e2,e3,e4,e5⟩:=HJ.o;have hT:T=[]:=iJ (by omega)
    subst hT;have PF:ah (∃M,Asc M/\Akin L M/\M.length=L.length/\bf w wo g (P++(M++Q))):=⟨S,e2,by simpa using e3,by have:=ad.o;simp at e5;omega,by have h1:=y.o;rw[e1]at h1;simpa using h1⟩
    clear e1 e2 e3 e4 e5 HJ y;go_wp2
    first|go_end0|refine az (kG rfl _ _ _) rfl ?_
    exact⟨rfl,PF.o⟩
theorem Ci(k:Nat):∀(a:List (List an)),(∀l∈a,l.length=k)->a.flatten.length=k*a.length:=by
 intro a
 induction a with
 |nil=>intro _;simp
 |cons l a c=>
  intro h;rw[zi,aI,h l pO,c (λx b=>h x (ur _ b)),aW,t7]
  omega
def lV(bs:Nat)(E:List an):Prop:=∃(a:List (List an)) (Z:List an),E=a.flatten++Z/\(∀l∈a,Asc l/\l.length=bs)/\Asc Z/\Z.length<bs
def mJ(bs a:Nat)(A:List an):Prop:=A.length=a/\∃b:List (List an),A=b.flatten/\∀l∈b,Asc l/\l.length=bs
variable{M:List an}
theorem mJ.add{bs a:Nat}{A:List an}(h:mJ bs a A)(g:Asc M)(i:M.length=bs):mJ bs (a+bs) (A++M):=by
 obtain⟨h1,c,d,f⟩:=h;refine⟨by rw[aI];omega,c++[M],by rw[d];simp,λl b=>?_⟩
 rcases bJ.1 b with e|e
 ·exact f l e
 ·rw[bU]at e;subst e;exact⟨g,i⟩
theorem mJ.nil(bs:Nat):mJ bs 0 []:=⟨rfl,[],rfl,λl a=>by cases a⟩
theorem mJ.runs{bs a:Nat}{A Z:List an}(h:mJ bs a A)(e:Asc Z)(f:Z.length<bs):lV bs (A++Z):=by
 obtain⟨-,b,c,d⟩:=h;exact⟨b,Z,by rw[c],d,e,f⟩
theorem lV.done{bs:Nat}{E:List an}(h:lV bs E)(a:E.length<=bs):Asc E:=by
 obtain⟨b,Z,rfl,h1,c,d⟩:=h;have e:=Ci bs b (λl a=>(h1 l a).2)
 rw[aI,e]at a
 match b,e,a,h1 with
 | [],_,_,_=>simpa using c
 | [l],_,a,h1=>
  simp at a;have:Z=[]:=iJ (by omega)
  subst this
  simpa using(h1 l (by simp)).1
 |l::l2::b,_,a,h1=>
  exfalso
  simp only[aW]at a;have f:bs*(b.length+1+1)=bs*b.length+bs+bs:=by rw[t7,t7]
  omega
theorem lV.two{bs:Nat}{E:List an}(h:lV bs E)(a:2*bs<=E.length):∃L R c,E=L++(R++c)/\Asc L/\Asc R/\L.length=bs/\R.length=bs/\lV bs c:=by
 obtain⟨b,Z,rfl,h1,d,f⟩:=h;have e:=Ci bs b (λl a=>(h1 l a).2)
 rw[aI,e]at a
 match b,e,a,h1 with
 | [],_,a,_=>simp at a;omega
 | [l],_,a,_=>simp at a;omega
 |l::r::b,_,_,h1=>
  exact⟨l,r,b.flatten++Z,by simp,(h1 l (by simp)).1,(h1 r (by simp)).1,(h1 l (by simp)).2,(h1 r (by simp)).2,b,Z,rfl,λx g=>h1 x (by simp[g]),d,f⟩
theorem lV.one{bs:Nat}{E:List an}(h:lV bs E)(a:bs<E.length)(c:E.length<2*bs):∃L Z,E=L++Z/\Asc L/\Asc Z/\L.length=bs/\Z.length=E.length-bs:=by
 obtain⟨b,Z,rfl,h1,d,f⟩:=h;have e:=Ci bs b (λl a=>(h1 l a).2)
 rw[aI,e]at a c
 match b,e,a,c,h1 with
 | [],_,a,_,_=>simp at a;omega
 | [l],_,_,_,h1=>
  have h4:=(h1 l (by simp)).2
  exact⟨l,Z,by simp,(h1 l (by simp)).1,d,h4,by simp;omega⟩
 |l::r::b,_,_,c,_=>
  exfalso
  simp only[aW]at c;have g:bs*(b.length+1+1)=bs*b.length+bs+bs:=by rw[t7,t7]
  omega
theorem QC(g N cap:Nat)(D:List an)(w:iW)(hN:N<=100000000000000)(hl:D.length=N)(hr:eo w g D):
 iK Tryz.prog 109 #[Y (X ⟨g,0,O⟩) N cap,I J N,.func (.func 63) #[] #[]] w λe w'=>e=G (iU #[])/\∃M,Asc M/\Akin D M/\M.length=D.length/\bf w w' g M:=by
 have HL:=af hl;have B:ah (bf w w g D):=⟨aR.refl _ _,hr⟩;clear hl hr;go_enter Tryz.func109,Tryz.ntmps109;go_wp2;go_loopw [7,8] (λv W wr=>∃(a:Nat) (A j:List an),v=I J a/\W=I J ((a:Int)+20)/\a<=N/\ah (mJ 20 a A)/\ah (a+j.length=N)/\ah (Akin D (A++j))/\ah (bf w wr g (A++j))) (λv _ _=>N-(intOf v).toNat)
 case atStart=>exact⟨0,[],D,rfl,by first|rfl|go_num,aJ _,mJ.nil _,by show _=_;rw[HL.o];omega,Akin.refl _,B⟩
 case round=>
  obtain⟨a,A,j,rfl,rfl,r1,i,h,n,k⟩:=hrel;clear B;obtain⟨b,hb⟩:∃b:Nat,(a:Int)+20=b:=⟨a+20,by omega⟩
  have c:ah (b=a+20):=by show _=_;omega
  by_cases K:(b:Int)<=N
  ·have C:=af (FY g N cap a b A (j.take 20) (j.drop 20) wr (by omega) (by rw[jk,aI];have:=i.o.1;have:=h.o;omega) i.o.1 (by rw[cD];have:=h.o;omega) (by rw[jk];exact k.o.2))
   go_wp2_with fail;refine C.o.mono ?_;rintro e x ⟨rfl,M,m1,m2,t,q⟩;have P:M.length=20:=by rw[t,cD];have:=h.o;omega
   have S:=af (i.o.add m1 P);have V:ah ((a+20)+(j.drop 20).length=N):=by show _=_;rw[iz];have:=h.o;omega
   have U:ah (Akin D ((A++M)++j.drop 20)):=by
    refine n.o.trans ?_;have:=(Akin.refl A).app (m2.app (Akin.refl (j.drop 20)));rw[jk]at this
    simpa using this
   have p:ah (bf w x g ((A++M)++j.drop 20)):=by
    have:=k.o.trans q;rw[fW];exact this
   clear m1 m2 t q P C i h n k;go_wp2;go_roundw
   case rel=>exact⟨a+20,A++M,j.drop 20,by have:=c.o;simp;omega,by have:=c.o;simp;omega,by have:=c.o;omega,S,V,U,p⟩
   case measure=>have:=c.o;simp[intOf];omega
  ·have C:=af (FY g N cap a N A j [] wr (by omega) (by rw[dS,aI];have:=i.o.1;have:=h.o;omega) i.o.1 h.o (by rw[dS];exact k.o.2))
   go_wp2_with fail;refine C.o.mono ?_;rintro e x ⟨rfl,M,m1,m2,t,q⟩;have Q:ah (lV 20 (A++M)/\Akin D (A++M)/\(A++M).length=N):=by
    refine⟨i.o.runs m1 (by rw[t];have:=h.o;have:=c.o;omega),n.o.trans ((Akin.refl A).app m2),?_⟩
    rw[aI,t];have:=i.o.1;have:=h.o;omega
   have p:ah (bf w x g (A++M)):=by
    have:=k.o.trans q;rw[dS]at this;exact this
   generalize A++M=E at Q p;clear m1 m2 t q C i h n k K hb;go_wp2;go_loopw [6] (λsv wr=>∃(s:Nat) (E:List an),sv=I J s/\20<=s/\s<=2*N+20/\ah (lV s E/\Akin D E/\E.length=N)/\ah (bf w wr g E)) (λsv _=>2*N+40-(intOf sv).toNat)
   case atStart=>exact⟨20,E,rfl,am _,by omega,Q,p⟩
   case round=>
    rename iW=>wo
    obtain⟨s,E,rfl,s1,s2,u,k⟩:=hrel;clear Q p;by_cases aa:(s:Int)<N
    ·obtain⟨d,hd⟩:∃d:Nat,2*(s:Int)=d:=⟨2*s,by omega⟩
     have f:ah (d=2*s):=by show _=_;omega
     have ac:(s:Int)*2=d:=by omega
     go_wp2;go_loopw [7,8] (λv W wr=>∃(a:Nat) (A j:List an),v=I J a/\W=I J ((a:Int)+d)/\a<=N/\ah (mJ d a A)/\ah (lV s j)/\ah (a+j.length=N)/\ah (Akin D (A++j))/\ah (bf w wr g (A++j))) (λv _ _=>N-(intOf v).toNat)
     case atStart=>exact⟨0,[],E,rfl,by first|rfl|(simp;done)|go_num,aJ _,mJ.nil _,u.o.1,by show _=_;have:=u.o.2.2;omega,u.o.2.1,k⟩
     case round=>
      obtain⟨a,A,j,rfl,rfl,q1,i,y,h,n,k⟩:=hrel;obtain⟨b,hb⟩:∃b:Nat,(a:Int)+d=b:=⟨a+d,by omega⟩
      obtain⟨m,hm⟩:∃m:Nat,(a:Int)+s=m:=⟨a+s,by omega⟩
      have c:ah (b=a+2*s):=by show _=_;have:=f.o;omega
      have l:ah (m=a+s):=by show _=_;omega
      by_cases K:(b:Int)<=N
      ·obtain⟨L,R,z,r,F,H,e4,e5,e6⟩:=y.o.two (by have:=h.o;have:=c.o;omega)
       have C:=af (Jb (L.length+R.length) g N cap a m b A L R z wr (by omega) (by rw[<-r,aI];have:=i.o.1;have:=h.o;omega) i.o.1 (by have:=l.o;omega) (by have:=l.o;have:=c.o;omega) (by omega) (by omega) (am _) F H (by rw[<-r];exact k.o.2))
       go_wp2_with fail;refine C.o.mono ?_;rintro e x ⟨rfl,M,m1,m2,t,q⟩;have S:ah (mJ d (a+d) (A++M)):=i.o.add m1 (by have:=f.o;omega)
       have V:ah ((a+d)+z.length=N):=by
        show _=_;have h1:=h.o;have:=f.o;rw[r,aI,aI]at h1;omega
       have U:ah (Akin D ((A++M)++z)):=by
        refine n.o.trans ?_;rw[r];have:=(Akin.refl A).app (m2.app (Akin.refl z))
        simpa using this
       have p:ah (bf w x g ((A++M)++z)):=by
        have:=k.o.trans q;rw[fW];exact this
       have NR:=af e6;clear m1 m2 t q C i h n k y r F H e4 e5 e6;go_wp2;go_roundw
       case rel=>exact⟨a+d,A++M,z,by have:=c.o;have:=f.o;simp;omega,by have:=c.o;have:=f.o;simp;omega,by have:=c.o;have:=f.o;omega,S,NR,V,U,p⟩
       case measure=>have:=c.o;simp[intOf];omega
      ·by_cases ab:(m:Int)<N
       ·obtain⟨L,Z,r,F,H,e4,e5⟩:=y.o.one (by have:=h.o;have:=l.o;omega) (by have:=h.o;have:=c.o;omega)
        have C:=af (Jb (L.length+Z.length) g N cap a m N A L Z [] wr (by omega) (by rw[dS,<-r,aI];have:=i.o.1;have:=h.o;omega) i.o.1 (by have:=l.o;omega) (by have:=l.o;have:=h.o;omega) (by omega) (by have:=l.o;have:=h.o;omega) (am _) F H (by rw[dS,<-r];exact k.o.2))
        go_wp2_with fail;refine C.o.mono ?_;rintro e x ⟨rfl,M,m1,m2,t,q⟩;have T:ah (lV d (A++M)/\Akin D (A++M)/\(A++M).length=N):=by
         refine⟨i.o.runs m1 (by have:=f.o;have:=h.o;have:=c.o;omega),n.o.trans (by rw[r];exact(Akin.refl A).app m2),?_⟩
         rw[aI];have:=i.o.1;have:=h.o;omega
        have p:ah (bf w x g (A++M)):=by
         have:=k.o.trans q;rw[dS]at this;exact this
        clear m1 m2 t q C i h n k y r F H e4 e5;go_wp2;go_roundw
        case rel=>exact⟨d,A++M,by first|rfl|go_num,by have:=f.o;omega,by have:=f.o;omega,T,p⟩
        case measure=>have:=f.o;simp[intOf];omega
       ·have T:ah (lV d (A++j)/\Akin D (A++j)/\(A++j).length=N):=by
         refine⟨i.o.runs (y.o.done (by have:=h.o;have:=l.o;omega)) (by have:=f.o;have:=h.o;have:=l.o;omega),n.o,?_⟩
         rw[aI];have:=i.o.1;have:=h.o;omega
        have p:=k;clear i h n k y;go_wp2;go_roundw
        case rel=>exact⟨d,A++j,by first|rfl|go_num,by have:=f.o;omega,by have:=f.o;omega,T,p⟩
        case measure=>have:=f.o;simp[intOf];omega
    ·have PF:ah (∃M,Asc M/\Akin D M/\M.length=D.length/\bf w wo g M):=⟨E,u.o.1.done (by have:=u.o.2.2;omega),u.o.2.1,by rw[u.o.2.2,HL.o],k.o⟩
     clear u k;go_wp2
     first|go_end0|refine az (kG rfl _ _ _) rfl ?_
     exact⟨rfl,PF.o⟩
theorem aau(g N cap:Nat)(D:List an)(w:iW)(f:N<=100000000000000)(a:D.length=N)(c:eo w g D):
 iK Tryz.prog 62 #[Y (X ⟨g,0,O⟩) N cap,.func (.func 63) #[] #[]] w λe w'=>e=G (iU #[])/\∃M,Asc M/\Akin D M/\M.length=D.length/\bf w w' g M:=by
 have C:=af (QC g N cap D w f a c);clear a c;go_enter Tryz.func62,Tryz.ntmps62;go_wp2_with fail;refine C.o.mono ?_;rintro e h ⟨rfl,b⟩;have d:=af b;clear b;go_wp2
 first|go_end0|refine az (kG rfl _ _ _) rfl ?_
 exact⟨rfl,d.o⟩
end Go.Proofs.YtgigcooffjjbgaaGreatDoor
