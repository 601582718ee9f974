/-
  SCur; SPageOk; SSeal; SByte; SPText; SRPage; PAt; SRow; IScan; Swap; Rotate; Cmp; SymL; SymR; MMath; SymM; Ins; Stable; IScan2; FdOr; SRead; SScan
-/
import Derived.Test.YtijmbohadndfmaaGreatDoorPk10
import Derived.Deep.DeepCutAuto
open Go.Value renaming int→I,slice→Y,string→iT,bool→iB,pointer→iP,agg→iA,tuple→iU
open Go.IntKind renaming i64→J
open Option renaming none→O,some→X
open Go.Ending renaming returned→G
open Go.Obj renaming cells→iC
open Bool renaming true→iV,false→iF
open Go renaming World→iW,Value→iX,Calls→iK
open Go.RowKit renaming Below→iL
set_option maxHeartbeats 4000000
set_option maxRecDepth 100000
namespace Go.Proofs.YtijmbohadndfmaaGreatDoor
open Go.RowKit Words
theorem Xu(l:List UInt8)(q:Nat)(h:l.length<q):cF l q=O:=by
 unfold cF;rw[kB (by omega)]
 rfl
theorem Ks(s:ByteArray)(q:Nat)(w:iW)(hs:s.size<=1048576):
 iK Tryz.prog 119 #[iT s,I J q] w λe w'=>e=G (sL (cF s.data.toList q))/\iL w.heap.size w w':=by
 by_cases h:q<=s.size
 ·exact Oa s q w hs h
 ·rw[Xu _ _ (show s.size<q by omega)]
  refine(YW s q w (by omega)).mono ?_
  rintro e w' ⟨rfl,rfl⟩;exact⟨rfl,ax _ _⟩
def dy(w:iW)(g:Nat)(t:ByteArray)(i:Int)(bad:Bool):Prop:=g<w.heap.size/\w.cell? ⟨g,0,O⟩=X (iT t)/\w.cell? ⟨g,1,O⟩=X (I J i)/\w.cell? ⟨g,2,O⟩=X (iB bad)/\w.frozen? ⟨g,1,O⟩=iF/\w.frozen? ⟨g,2,O⟩=iF
def lg(w w':iW)(g:Nat)(t:ByteArray)(i:Int)(bad:Bool):Prop:=cG w w' (·≠g)/\dy w' g t i bad
variable{bad bad':Bool}{t:ByteArray}{fn:Func}{i' x:Int}{g i j n gp gr k B:Nat}
theorem dy.below{w w':iW}{i:Int}(h:dy w g t i bad)(a:iL w.heap.size w w'):dy w' g t i bad:=by
 obtain⟨h1,b,c,h4,d,k⟩:=h;have e:∀j,w'.cell? ⟨g,j,O⟩=w.cell? ⟨g,j,O⟩:=λj=>a.cell (show g<w.heap.size from h1)
 have f:∀j,w'.frozen? ⟨g,j,O⟩=w.frozen? ⟨g,j,O⟩:=λj=>a.frozen (show g<w.heap.size from h1)
 exact⟨gX h1 a.size,by rw[e];exact b,by rw[e];exact c,by rw[e];exact h4,by rw[f];exact d,by rw[f];exact k⟩
theorem dy.set1{w:iW}{i:Int}(h:dy w g t i bad):dy (w.setCell ⟨g,1,O⟩ (I J i')) g t i' bad:=by
 obtain⟨h1,b,c,h4,d,f⟩:=h;have o:∀(i j:Nat) (u:iX),i≠j->(w.setCell ⟨g,i,O⟩ u).cell? ⟨g,j,O⟩=w.cell? ⟨g,j,O⟩:=λi j u a=>gP _ _ _ _ (λe=>a (by injection e))
 exact⟨by simpa using h1,by rw[o 1 0 _ (by omega)];exact b,wT _ _ _ c,by rw[o 1 2 _ (by omega)];exact h4,by simpa using d,by simpa using f⟩
theorem dy.set2{w:iW}{i:Int}(h:dy w g t i bad):dy (w.setCell ⟨g,2,O⟩ (iB bad')) g t i bad':=by
 obtain⟨h1,b,c,h4,d,f⟩:=h;have o:∀(i j:Nat) (u:iX),i≠j->(w.setCell ⟨g,i,O⟩ u).cell? ⟨g,j,O⟩=w.cell? ⟨g,j,O⟩:=λi j u a=>gP _ _ _ _ (λe=>a (by injection e))
 exact⟨by simpa using h1,by rw[o 2 0 _ (by omega)];exact b,by rw[o 2 1 _ (by omega)];exact c,wT _ _ _ h4,by simpa using d,by simpa using f⟩
theorem Eo(w:iW)(g j:Nat)(v:iX):cG w (w.setCell ⟨g,j,O⟩ v) (·≠g):=by
 refine⟨rfl,rfl,rfl,by simp,λi _ a=>?_⟩
 exact aU _ _ _ _ a
theorem lg.set1{w w':iW}{i:Int}(h:dy w g t i bad)(a:iL w.heap.size w w'):lg w (w'.setCell ⟨g,1,O⟩ (I J i')) g t i' bad:=
 ⟨(cG.below a).trans (Eo _ _ _ _),(h.below a).set1⟩
theorem lg.set2{w w':iW}{i:Int}(h:dy w g t i bad)(a:iL w.heap.size w w'):lg w (w'.setCell ⟨g,2,O⟩ (iB bad')) g t i bad':=
 ⟨(cG.below a).trans (Eo _ _ _ _),(h.below a).set2⟩
def fT(l:List UInt8)(i:Nat):Bool->Nat×Nat×Bool
 |true=>(0,i,iV)
 |false=>match cF l i with
  |some (n,j)=>(n,j,iF)
  |none=>(0,i,iV)
theorem QE(s:ByteArray)(i n j:Nat)(g:Nat)(w:iW)(hs:s.size<=1048576)(b:dy w g s i iF)(f:cF s.data.toList i=X (n,j)):
 iK Tryz.prog 81 #[iP (X ⟨g,0,O⟩)] w λe w'=>e=G (I J n)/\lg w w' g s j iF:=by
 obtain⟨h1,k,l,h4,m,p⟩:=id b;have R:=af b;have C:=af (λw=>Ks s i w hs)
 rw[f]at C;clear b f;go_enter Tryz.func81,Tryz.ntmps81;go_wp2;go_region_held3 (λw'=>w'.cell? ⟨g,0,O⟩=X (iT s)/\w'.cell? ⟨g,1,O⟩=X (I J i)) (first|go_keep|exact⟨a.o.2.1,a.o.2.2.1⟩) ((go_at_call 119;(with_reducible refine dq (C.o _) ?_);rintro e h ⟨rfl,d⟩;have c:ah (iL w.heap.size w h):=Below.trans (Below.drew (ax w.heap.size w)) d;have a:ah (dy h g s i iF):=R.o.below c.o;clear d;simp only[sL]))
 all_goals
  obtain⟨q,r,t,u,v,x⟩:=a.o;have M:=af (lg.set1 (i':=(j:Int)) R.o c.o);go_wp2;go_ret;exact⟨rfl,M.o⟩
theorem y8(s:ByteArray)(i:Nat)(bad:Bool)(g:Nat)(w:iW)(hs:s.size<=1048576)(b:dy w g s i bad)(x:Option (Nat×Nat))(f:cF s.data.toList i=x)(k:(bad=iV/\x=O)∨(bad=iV/\∃n j,x=X (n,j))∨(bad=iF/\x=O)):
 iK Tryz.prog 81 #[iP (X ⟨g,0,O⟩)] w λe w'=>e=G (I J 0)/\lg w w' g s i iV:=by
 obtain⟨h1,l,m,h4,p,q⟩:=id b;have R:=af b;have C:=af (λw=>Ks s i w hs)
 rw[f]at C;clear b f;rcases k with⟨rfl,rfl⟩|⟨rfl,n,j,rfl⟩|⟨rfl,rfl⟩
 all_goals
  go_enter Tryz.func81,Tryz.ntmps81;go_wp2;go_region_held3 (λw'=>w'.cell? ⟨g,0,O⟩=X (iT s)/\w'.cell? ⟨g,1,O⟩=X (I J i)) (first|go_keep|exact⟨a.o.2.1,a.o.2.2.1⟩) ((go_at_call 119;(with_reducible refine dq (C.o _) ?_);rintro e h ⟨rfl,d⟩;have c:ah (iL w.heap.size w h):=Below.trans (Below.drew (ax w.heap.size w)) d;have a:ah (dy h g s i _):=R.o.below c.o;clear d;simp only[sL]))
  all_goals
   obtain⟨r,t,u,v,y,z⟩:=a.o;have M:=af (lg.set2 (bad':=iV) R.o c.o);go_wp2;go_ret;exact⟨rfl,M.o⟩
theorem sm(s:ByteArray)(i:Nat)(bad:Bool)(g:Nat)(w:iW)(hs:s.size<=1048576)(f:dy w g s i bad)(n j:Nat)(h:Bool)(c:fT s.data.toList i bad=(n,j,h)):
 iK Tryz.prog 81 #[iP (X ⟨g,0,O⟩)] w λe w'=>e=G (I J n)/\lg w w' g s j h:=by
 cases d:cF s.data.toList i with
 |none=>
  cases bad with
  |false=>
   simp only[fT,d]at c;cases c;exact y8 s i _ g w hs f _ d (.inr (.inr ⟨rfl,rfl⟩))
  |true=>
   simp only[fT]at c;cases c;exact y8 s i _ g w hs f _ d (.inl ⟨rfl,rfl⟩)
 |some x=>
  obtain⟨a,b⟩:=x;cases bad with
  |false=>
   simp only[fT,d]at c;cases c;exact QE s i _ _ g w hs f d
  |true=>
   simp only[fT]at c;cases c;exact y8 s i _ g w hs f _ d (.inr (.inl ⟨rfl,a,b,rfl⟩))
theorem jh{l:List UInt8}{b:Bool}(h:fT l i b=(n,j,iF)):b=iF/\cF l i=X (n,j):=by
 cases b with
 |true=>simp[fT]at h
 |false=>
  cases d:cF l i with
  |none=>simp[fT,d]at h
  |some x=>
   obtain⟨a,c⟩:=x;simp only[fT,d]at h;cases h;exact⟨rfl,rfl⟩
theorem j7{l:List UInt8}{b:Bool}(h:fT l i b=(n,j,iV)):b=iV∨cF l i=O:=by
 cases b with
 |true=>exact .inl rfl
 |false=>
  cases d:cF l i with
  |none=>exact .inr rfl
  |some x=>
   obtain⟨a,c⟩:=x;simp only[fT,d]at h;cases h
theorem YK(k s x q c:Int)(t:ByteArray):(Pg.mk k s x q c t).Right↔(1<=k/\k<=2)/\(1<=s/\s<=1000000000)/\(1<=x/\x<=1000000000)/\(1<=c/\c<=9)/\(0<=q/\q<=c-1)/\(t.size:Int)<=90/\(k=2∨c=1):=by
 unfold Pg.Right;simp only;omega
theorem V8(w g:iW)(a b c d e f:iX)(h:TypeId)(i:iL (w.alloc (iC #[a,b,c,d,e,f] h)).heap.size (w.alloc (iC #[a,b,c,d,e,f] h)) g):
 g.cell? ⟨w.heap.size,0,O⟩=X a/\g.cell? ⟨w.heap.size,1,O⟩=X b/\g.cell? ⟨w.heap.size,2,O⟩=X c/\g.cell? ⟨w.heap.size,3,O⟩=X d/\g.cell? ⟨w.heap.size,4,O⟩=X e/\g.cell? ⟨w.heap.size,5,O⟩=X f:=by
 refine⟨?_,?_,?_,?_,?_,?_⟩<;>(rw[i.cell (by simp)];simp)
theorem Ja(p:Pg)(w:iW):
 iK Tryz.prog 120 #[i7 p] w λe w'=>e=G (iB (@decide p.Right p.decR))/\iL w.heap.size w w':=by
 obtain⟨k,s,x,q,c,t⟩:=p;have f:=af (YK k s x q c t);have d:=af ((ax w.heap.size w).alloc (ak _) (iC #[I J k,I J s,I J x,I J q,I J c,iT t] 110));unfold i7;simp only;have a:¬(1<=k/\k<=2)∨(1<=k/\k<=2)/\(¬(1<=s/\s<=1000000000)∨(1<=s/\s<=1000000000)/\(¬(1<=x/\x<=1000000000)∨(1<=x/\x<=1000000000)/\(¬(1<=c/\c<=9)∨(1<=c/\c<=9)/\(¬(0<=q/\q<=c-1)∨(0<=q/\q<=c-1)/\(90<(t.size:Int)∨¬90<(t.size:Int)/\((k==2)=iV∨(k==2)=iF)))))):=by
  simp only[ky,dZ,ne_eq];omega
 rcases a with g|⟨g,h|⟨h,i|⟨i,j|⟨j,l|⟨l,m|⟨m,n|n⟩⟩⟩⟩⟩⟩
 all_goals
  try have r:IntKind.i64.wrap (c-1)=c-1:=by rw[cL];omega
  go_enter Tryz.func120,Tryz.ntmps120
  repeat
   go_wp2_with fail
   first
    |refine(gM _ _ _ iV _ (.inl ⟨by omega,by omega,rfl⟩)).mono ?_
    |refine(gM _ _ _ iF _ (.inr ⟨by omega,rfl⟩)).mono ?_
   rintro e u ⟨rfl,rfl⟩
  go_wp2;go_ret;refine⟨congrArg (λb=>Ending.returned (iB b)) (Av.2 (Iff.trans ?_ (Iff.symm (Iff.trans (@decide_eq_true_iff _ (Pg.decR _)) f.o)))),d.o⟩
  clear f d
  (try simp only[ky,dZ,ne_eq,hI,eq_self,false_iff,true_iff]at*)
  omega
open Sums
theorem Uq(t:ByteArray)(w:iW)(d:t.size<=20000):
 iK Tryz.prog 121 #[iT t] w λe w'=>e=G (iU #[iT (dJ t),iB iV])/\iL w.heap.size w w':=by
 have g:¬(20000:Int)<t.size:=by omega
 go_enter Tryz.func121,Tryz.ntmps121;go_wp2_with fail;refine(yR t _ (by unfold maxLen;omega)).mono ?_
 rintro e h ⟨rfl,rfl⟩;have b:=yM t.data.toList;have E:ah (dJ t=t++⟨(gJ (m8 t.data.toList)).toArray⟩):=rfl;have a:=Ax (m8 t.data.toList);generalize m8 t.data.toList=x at b E a;go_wp2_with fail;refine(Cd x _ b).mono ?_;rintro e i ⟨rfl,c⟩;generalize gJ x=f at E a;go_wp2;go_ret2;exact⟨by rw[E.o];rfl,c⟩
theorem oP(h:0<=x):∃n:Nat,x=n/\x.toNat=n:=⟨x.toNat,by omega,rfl⟩
theorem Gb(n:Nat)(d:n<256)(w:iW):
 iK Tryz.prog 122 #[I J n] w λe w'=>e=G (iT (nA n))/\iL w.heap.size w w':=by
 have a:=sx (P:=Tryz.prog) (w.alloc (iC #[I .u8 n] 5)) 22 9 5 ⟨w.heap.size,0,O⟩ 1 [UInt8.ofNat n] Tryz.underlying22 Tryz.underlying5 Tryz.underlying9 (λj b=>by
  match j,b with
  |0,_=>simp[Addr.add];omega)
 rw[show[UInt8.ofNat n].length=1 from rfl]at a;have E:ah (nA n=ByteArray.mk [UInt8.ofNat n].toArray):=rfl;generalize ByteArray.mk [UInt8.ofNat n].toArray=r at a E;have c:IntKind.u8.wrap (n:Int)=n:=by rw[IntKind.wrap_u8];omega
 go_enter Tryz.func122,Tryz.ntmps122;go_wp2;go_ret;exact⟨by rw[E.o];rfl,aY⟩
def pN(p:Pg):iX:=letI:=p.decR;if p.Right then iU #[iT (dJ (dG p)),iB iV]else iU #[iT ⟨#[]⟩,iB iF]
def nQ(w a:iW)(k s x q c:Int)(t:ByteArray):Prop:=iL w.heap.size w a/\w.heap.size<a.heap.size/\
 (a.cell? ⟨w.heap.size,0,O⟩=X (I J k)/\a.cell? ⟨w.heap.size,1,O⟩=X (I J s)/\a.cell? ⟨w.heap.size,2,O⟩=X (I J x)/\a.cell? ⟨w.heap.size,3,O⟩=X (I J q)/\a.cell? ⟨w.heap.size,4,O⟩=X (I J c)/\a.cell? ⟨w.heap.size,5,O⟩=X (iT t))
theorem nQ.next{w a b:iW}{k s q c:Int}(h:nQ w a k s x q c t)(d:iL a.heap.size a b):nQ w b k s x q c t:=
 ⟨h.1.trans (d.mono h.1.size),gX h.2.1 d.size,by rw[d.cell h.2.1,d.cell h.2.1,d.cell h.2.1,d.cell h.2.1,d.cell h.2.1,d.cell h.2.1];exact h.2.2⟩
theorem nQ.drew{w a:iW}{k s q c:Int}(h:nQ w a k s x q c t):nQ w a.drew k s x q c t:=⟨h.1.drew,h.2.1,h.2.2⟩
theorem Kq(p:Pg)(w:iW):
 iK Tryz.prog 82 #[i7 p] w λe w'=>e=G (pN p)/\iL w.heap.size w w':=by
 have i:=af ((ax w.heap.size w).alloc (ak _) (iC #[I J p.kind,I J p.seq,I J p.tx,I J p.part,I J p.count,iT p.text] 110));by_cases h:p.Right
 ·have l:ah (pN p=iU #[iT (dJ (dG p)),iB iV]):=aj h;have hz:=Eu p h;have m:=af (Ja p);have A:=h;obtain⟨r1,r2,r3,r4,r5,r6⟩:=A;have a:ah (dG p=((((nA p.kind.toNat++eP p.seq.toNat)++eP p.tx.toNat)++eP p.part.toNat)++eP p.count.toNat)++p.text):=rfl;have n:=tL (d:=p.decR) h;obtain⟨k,s,x,q,c,t⟩:=p;unfold i7 at*;simp only at*;obtain⟨k,rfl,U⟩:=oP (show 0<=k by omega)
  obtain⟨s,rfl,W⟩:=oP (show 0<=s by omega)
  obtain⟨x,rfl,Y⟩:=oP (show 0<=x by omega)
  obtain⟨q,rfl,V⟩:=oP (show 0<=q by omega)
  obtain⟨c,rfl,T⟩:=oP (show 0<=c by omega)
  rw[U,W,Y,V,T]at a;clear U W Y V T;obtain⟨P,B⟩:∃b,b=nA k:=⟨_,rfl⟩;obtain⟨v1,K⟩:∃b,b=eP s:=⟨_,rfl⟩;obtain⟨v2,L⟩:∃b,b=eP x:=⟨_,rfl⟩;obtain⟨v3,M⟩:∃b,b=eP q:=⟨_,rfl⟩;obtain⟨v4,N⟩:∃b,b=eP c:=⟨_,rfl⟩;have C:=af (λw=>Gb k (by omega) w)
  have r:=af (λw=>qE s w (by omega))
  have v:=af (λw=>qE x w (by omega))
  have y:=af (λw=>qE q w (by omega))
  have z:=af (λw=>qE c w (by omega))
  change ah (∀w,iK Tryz.prog 123 #[I J s] w λe w'=>e=G (iT (eP s))/\iL w.heap.size w w')at r
  change ah (∀w,iK Tryz.prog 123 #[I J x] w λe w'=>e=G (iT (eP x))/\iL w.heap.size w w')at v
  change ah (∀w,iK Tryz.prog 123 #[I J q] w λe w'=>e=G (iT (eP q))/\iL w.heap.size w w')at y
  change ah (∀w,iK Tryz.prog 123 #[I J c] w λe w'=>e=G (iT (eP c))/\iL w.heap.size w w')at z
  rw[<-B]at C a;rw[<-K]at r a;rw[<-L]at v a;rw[<-M]at y a;rw[<-N]at z a;clear B K L M N;obtain⟨Z,j⟩:∃b,b=dG ⟨k,s,x,q,c,t⟩:=⟨_,rfl⟩;rw[<-j]at hz a l;clear j h r1 r2 r3 r4 r5 r6;obtain⟨u1,D⟩:∃u,P++v1=u:=⟨_,rfl⟩;rw[D]at a;obtain⟨u2,E⟩:∃u,u1++v2=u:=⟨_,rfl⟩;rw[E]at a;obtain⟨u3,F⟩:∃u,u2++v3=u:=⟨_,rfl⟩;rw[F]at a;obtain⟨u4,H⟩:∃u,u3++v4=u:=⟨_,rfl⟩;rw[H]at a;have U5:u4++t=Z:=a.o.symm;have z1:=congrArg ByteArray.size D;have z2:=congrArg ByteArray.size E;have z3:=congrArg ByteArray.size F;have z4:=congrArg ByteArray.size H;have z5:=congrArg ByteArray.size U5;rw[uB]at z1 z2 z3 z4 z5;have Y1:ah (¬(9223372036854775807<P.size+v1.size)):=by show¬_;omega
  have Y2:ah (¬(9223372036854775807<u1.size+v2.size)):=by show¬_;omega
  have Y3:ah (¬(9223372036854775807<u2.size+v3.size)):=by show¬_;omega
  have Y4:ah (¬(9223372036854775807<u3.size+v4.size)):=by show¬_;omega
  have Y5:ah (¬(9223372036854775807<u4.size+t.size)):=by show¬_;omega
  clear z1 z2 z3 z4 z5 a;go_enter Tryz.func82,Tryz.ntmps82;go_wp2_with fail;refine(m.o _).mono ?_;rintro e w1 ⟨rfl,f⟩;rw[n];obtain⟨c0,c1,c2,c3,c4,c5⟩:=V8 _ _ _ _ _ _ _ _ _ f;have g:ah (nQ w w1 k s x q c t):=⟨i.o.trans (f.mono i.o.size),gX (by simp) f.size,c0,c1,c2,c3,c4,c5⟩
  clear f i n m;go_wp2_with fail;have y1:=Y1.o;have y2:=Y2.o;have y3:=Y3.o;have y4:=Y4.o;have y5:=Y5.o;go_region_held3 (λw'=>w'.cell? ⟨w.heap.size,0,O⟩=X (I J k)/\w'.cell? ⟨w.heap.size,1,O⟩=X (I J s)/\w'.cell? ⟨w.heap.size,2,O⟩=X (I J x)/\w'.cell? ⟨w.heap.size,3,O⟩=X (I J q)/\w'.cell? ⟨w.heap.size,4,O⟩=X (I J c)/\w'.cell? ⟨w.heap.size,5,O⟩=X (iT t)) (first|go_keep|exact g.o.2.2|exact g.o.drew.2.2) (first
   |(go_at_call 122;with_reducible refine dq (C.o _) ?_;rintro e w2 ⟨rfl,Q⟩;have g:=af (nQ.next (by first|exact g.o|exact g.o.drew) Q);clear Q)
   |(go_at_call 123;(with_reducible first|refine dq (r.o _) ?_|refine dq (v.o _) ?_|refine dq (y.o _) ?_|refine dq (z.o _) ?_);rintro e w3 ⟨rfl,R⟩;have g:=af (nQ.next (by first|exact g.o|exact g.o.drew) R);clear R)
   |(go_at_call 121;refine dq (Uq Z _ (by omega)) ?_;rintro e w4 ⟨rfl,S⟩;have g:=af (nQ.next (by first|exact g.o|exact g.o.drew) S);clear S))
  all_goals
   go_wp2;go_ret2;exact⟨by rw[l.o];rfl,g.o.1⟩
 ·have l:ah (pN p=iU #[iT ⟨#[]⟩,iB iF]):=ai h;have m:=af (Ja p);have n:=pH (d:=p.decR) h;obtain⟨k,s,x,q,c,t⟩:=p;unfold i7 at*;simp only at*;clear h;go_enter Tryz.func82,Tryz.ntmps82;go_wp2_with fail;refine(m.o _).mono ?_;rintro e w1 ⟨rfl,f⟩;rw[n];go_wp2;go_ret2;exact⟨by rw[l.o];rfl,i.o.trans (f.mono i.o.size)⟩
def CS(w W:iW)(g gr gp:Nat)(s:ByteArray)(i:Int)(bad:Bool)(cs:Array iX):Prop:=
 iL w.heap.size w W/\dy W g s i bad/\w.heap.size<=gr/\gr<g/\g<gp/\W.heap[gr]?=X (iC #[I J 0,I J 0,I J 0,I J 0,I J 0,iT ⟨#[]⟩] 110 (0,0))/\W.heap[gp]?=X (iC cs 110 (0,0))
theorem CS.moved{w W W':iW}{s c:ByteArray}{i:Int}{cs:Array iX}(h:CS w W g gr gp s i bad cs)(m:lg W W' g c i' bad'):CS w W' g gr gp c i' bad' cs:=by
 obtain⟨h1,d,e,h4,f,a,b⟩:=h;have j:=(aJ.1 a).1;have k:=(aJ.1 b).1;have l:=d.1;exact⟨h1.trans (cG.down (B:=w.heap.size) m.1 h1.size (λi hi=>by omega)),m.2,e,h4,f,(m.1.2.2.2.2 gr j (by omega)).trans a,(m.1.2.2.2.2 gp k (by omega)).trans b⟩
theorem CS.below{w W W':iW}{s:ByteArray}{i:Int}{cs:Array iX}(h:CS w W g gr gp s i bad cs)(b:iL W.heap.size W W'):CS w W' g gr gp s i bad cs:=
 h.moved ⟨cG.below b,h.2.1.below b⟩
theorem dy.far{w:iW}{p:Nat}{i:Int}{v:iX}(h:dy w g t i bad)(f:p≠g):dy (w.setCell ⟨p,k,O⟩ v) g t i bad:=by
 obtain⟨h1,a,b,h4,c,d⟩:=h;have e:∀j,(w.setCell ⟨p,k,O⟩ v).cell? ⟨g,j,O⟩=w.cell? ⟨g,j,O⟩:=λj=>gP _ _ _ _ (λe=>f (by injection e))
 exact⟨by simpa using h1,by rw[e];exact a,by rw[e];exact b,by rw[e];exact h4,by simpa using c,by simpa using d⟩
theorem CS.set{w W:iW}{s:ByteArray}{i:Int}{cs:Array iX}(h:CS w W g gr gp s i bad cs)(k:Nat)(v:iX):CS w (W.setCell ⟨gp,k,O⟩ v) g gr gp s i bad (cs.setIfInBounds k v):=by
 obtain⟨h1,a,b,h4,c,d,e⟩:=h;exact⟨h1.setCell (by simp;omega) _,a.far (by omega),b,h4,c,(aU _ _ _ _ (by simp;omega)).trans d,bC _ _ _ _ _ _ e⟩
theorem CS.at_{w W:iW}{s:ByteArray}{i:Int}{cs:Array iX}(h:CS w W g gr gp s i bad cs)(k:Nat)(v:iX)(a:cs[k]?=X v):W.cell? ⟨gp,k,O⟩=X v/\W.frozen? ⟨gp,k,O⟩=iF:=
 ⟨am _ _ k _ _ _ h.2.2.2.2.2.2▸a,aL _ _ k _ _ h.2.2.2.2.2.2⟩
theorem F5{w:iW}{t:TypeId}{i j k l m n a b c d e f:iX}(h:w.heap[g]?=X (iC #[i,j,k,l,m,n] t (0,0))):
 ((((((w.setCell ⟨g,0,O⟩ a).setCell ⟨g,1,O⟩ b).setCell ⟨g,2,O⟩ c).setCell ⟨g,3,O⟩ d).setCell ⟨g,4,O⟩ e).setCell ⟨g,5,O⟩ f).heap[g]?=X (iC #[a,b,c,d,e,f] t (0,0)):=
 bC _ _ 5 _ _ _ (bC _ _ 4 _ _ _ (bC _ _ 3 _ _ _ (bC _ _ 2 _ _ _ (bC _ _ 1 _ _ _ (bC _ _ 0 _ _ _ h)))))
theorem Ha{w W:iW}{p:Nat}{a b c d e f:iX}(h:iL B w W)(g:B<=p):
 iL B w ((((((W.setCell ⟨p,0,O⟩ a).setCell ⟨p,1,O⟩ b).setCell ⟨p,2,O⟩ c).setCell ⟨p,3,O⟩ d).setCell ⟨p,4,O⟩ e).setCell ⟨p,5,O⟩ f):=
 (((((h.setCell g _).setCell g _).setCell g _).setCell g _).setCell g _).setCell g _
theorem sg{w:iW}{t:TypeId}{a b c d e f:iX}(h:w.heap[g]?=X (iC #[a,b,c,d,e,f] t (0,0))):
 w.cell? ⟨g,0,O⟩=X a/\w.frozen? ⟨g,0,O⟩=iF/\w.cell? ⟨g,1,O⟩=X b/\w.frozen? ⟨g,1,O⟩=iF/\w.cell? ⟨g,2,O⟩=X c/\w.frozen? ⟨g,2,O⟩=iF/\w.cell? ⟨g,3,O⟩=X d/\w.frozen? ⟨g,3,O⟩=iF/\w.cell? ⟨g,4,O⟩=X e/\w.frozen? ⟨g,4,O⟩=iF/\w.cell? ⟨g,5,O⟩=X f/\w.frozen? ⟨g,5,O⟩=iF:=
 ⟨am _ _ 0 _ _ _ h,aL _ _ 0 _ _ h,am _ _ 1 _ _ _ h,aL _ _ 1 _ _ h,am _ _ 2 _ _ _ h,aL _ _ 2 _ _ h,am _ _ 3 _ _ _ h,aL _ _ 3 _ _ h,am _ _ 4 _ _ _ h,aL _ _ 4 _ _ h,am _ _ 5 _ _ _ h,aL _ _ 5 _ _ h⟩
theorem XO{c:iW}{s:ByteArray}{b:Bool}:dy (c.alloc (iC #[iT s,I J 1,iB b] 154)) c.heap.size s (1:Nat) b:=by
 have a:=az c (iC #[iT s,I J 1,iB b] 154);exact⟨by simp,am _ _ 0 _ _ _ a,am _ _ 1 _ _ _ a,am _ _ 2 _ _ _ a,aL _ _ 1 _ _ a,aL _ _ 2 _ _ a⟩
theorem uN (t s:ByteArray) (w:iW) (hm:t.size<=maxLen) (ok E A:Bool) (hr:Jp (lD t)=iU #[iT s,iB ok]) (hs:s.size<=20000) (h0:ok=iF/\E=iV/\A=iV∨ok=iV/\(s.size:Int)<1/\E=iV/\A=iV∨ok=iV/\¬(s.size:Int)<1/\E=iF) (L M N n k l m p:Nat) (F H K:Bool) (e1:fT s.data.toList 1 E=(k,L,F)) (e2:fT s.data.toList L F=(l,M,H)) (e3:fT s.data.toList M H=(m,N,K)) (e4:fT s.data.toList N K=(p,n,A)) (R:Option Pg) (hA:A=iV->R=O)
 (hB:A=iF->∃(b:UInt8) (q:Bool),s.data.toList[0]?=X b/\n<=s.size/\pN (Pg.mk b.toNat k l m p (s.extract n s.size))=iU #[iT (if q then t else⟨#[]⟩),iB q]/\R=if q then X (Pg.mk b.toNat k l m p (s.extract n s.size))else O):
 iK Tryz.prog 54 #[iT t] w λe w'=>e=G (xh R)/\iL w.heap.size w w':=by
 have B0:=af ((ax w.heap.size w).alloc (ak _) (iC #[I J 0,I J 0,I J 0,I J 0,I J 0,iT ⟨#[]⟩] 110));have C:=af (Yx t hm (w.alloc (iC #[I J 0,I J 0,I J 0,I J 0,I J 0,iT ⟨#[]⟩] 110)));rw[hr]at C;have Z0:=af (az w (iC #[I J 0,I J 0,I J 0,I J 0,I J 0,iT ⟨#[]⟩] 110));have V1:=af (λW g (h:dy W g s (1:Nat) E)=>sm s 1 E g W (by omega) h k L F e1)
 have V2:=af (λW g (h:dy W g s (L:Nat) F)=>sm s L F g W (by omega) h l M H e2)
 have V3:=af (λW g (h:dy W g s (M:Nat) H)=>sm s M H g W (by omega) h m N K e3)
 have V4:=af (λW g (h:dy W g s (N:Nat) K)=>sm s N K g W (by omega) h p n A e4)
 have V:=af hA;have HB:=af hB;clear e1 e2 e3 e4 hr hA hB;rcases h0 with⟨rfl,rfl,rfl⟩|⟨rfl,hz,rfl,rfl⟩|⟨rfl,hz,rfl⟩
 all_goals
  try have ac:=aV hz
  go_enter Tryz.func54,Tryz.ntmps54;go_wp2_with fail;refine C.o.mono ?_;rintro e r ⟨rfl,b1⟩;have D:w.heap.size<r.heap.size:=gX (by simp) b1.size
  have BX:=af (λo=>(B0.o.trans (b1.mono (by simp))).trans (((ax r.heap.size r).alloc (ak _) o).mono (Nat.le_of_lt D)))
  have ZX:=af (λo=>(((ax r.heap.size r).alloc (ak _) o).block w.heap.size D).trans ((b1.block w.heap.size (by simp)).trans Z0.o))
  clear b1 B0 Z0 C;go_wp2_with fail;refine(V1.o _ _ XO).mono ?_;rintro e y ⟨rfl,m2⟩;have aa:r.heap.size<y.heap.size:=gX (by simp) m2.1.2.2.2.1
  have j:ah (CS w (y.alloc (iC #[I J 0,I J k,I J 0,I J 0,I J 0,iT ⟨#[]⟩] 110)) r.heap.size w.heap.size y.heap.size s L F #[I J 0,I J k,I J 0,I J 0,I J 0,iT ⟨#[]⟩]):=by
   have ba:=(ax y.heap.size y).alloc (ak _) (iC #[I J 0,I J k,I J 0,I J 0,I J 0,iT ⟨#[]⟩] 110);have bz:iL w.heap.size w y:=(BX.o _).trans (cG.down (B:=w.heap.size) m2.1 (BX.o _).size (λi hi=>by omega))
   exact⟨bz.trans (ba.mono bz.size),m2.2.below ba,ak _,D,aa,(ba.block _ (by omega)).trans ((m2.1.2.2.2.2 _ (by simp;omega) (by omega)).trans (ZX.o _)),az _ _⟩
  clear m2 BX ZX V1;go_wp2_with fail;refine(V2.o _ _ j.o.2.1).mono ?_;rintro e w3 ⟨rfl,m2⟩;have x:=af (j.o.moved m2);clear m2 j V2;obtain⟨x2,y2⟩:=x.o.at_ 2 _ rfl;have j:=af (x.o.set 2 (I J l));change ah (CS w _ r.heap.size w.heap.size y.heap.size s M H #[I J 0,I J k,I J l,I J 0,I J 0,iT ⟨#[]⟩])at j;clear x;go_wp2_with fail;refine(V3.o _ _ j.o.2.1).mono ?_;rintro e w4 ⟨rfl,m2⟩;have x:=af (j.o.moved m2);clear m2 j V3;obtain⟨x3,y3⟩:=x.o.at_ 3 _ rfl;have j:=af (x.o.set 3 (I J m));change ah (CS w _ r.heap.size w.heap.size y.heap.size s N K #[I J 0,I J k,I J l,I J m,I J 0,iT ⟨#[]⟩])at j;clear x;go_wp2_with fail;refine(V4.o _ _ j.o.2.1).mono ?_;rintro e w5 ⟨rfl,m2⟩;have x:=af (j.o.moved m2);clear m2 j V4;obtain⟨x4,y4⟩:=x.o.at_ 4 _ rfl;have j:=af (x.o.set 4 (I J p));change ah (CS w _ r.heap.size w.heap.size y.heap.size s n _ #[I J 0,I J k,I J l,I J m,I J p,iT ⟨#[]⟩])at j;clear x;obtain⟨-,-,-,q2,-,-⟩:=j.o.2.1
 rotate_left 2
 cases A
 case' false=>
  obtain⟨b,q,hb,hj,ep,hR⟩:=HB.o rfl;obtain⟨hi,U⟩:=aD.1 hb;have k1:(0:Int)<s.size:=by have hi':0<s.size:=hi;omega
  have hc:s[0].toNat=b.toNat:=by rw[<-U];rfl
  have ab:b.toNat<256:=b.toNat_lt;have s1:∀W,(Instr.slice 9 (iT s) (X (I J (n:Int))) O O).run Tryz.prog W=.ok (iT (s.extract n s.size)) W:=λW=>by
   rw[run_slice_string_l W 9 s Tryz.underlying9 J _ (by omega) (by omega)]
   simp
  have P:=af (λW=>Kq (Pg.mk b.toNat k l m p (s.extract n s.size)) W)
  rw[ep]at P;clear ep hb U V HB;unfold i7 at P;simp only at P;generalize s.extract n s.size=u at*;generalize b.toNat=z at*;have Q:=af hR;clear hR;have ec:IntKind.i64.wrap (z:Int)=z:=by rw[cL];omega
  obtain⟨x0,y0⟩:=j.o.at_ 0 _ rfl;have S:=af (j.o.set 0 (I J z));change ah (CS w _ r.heap.size w.heap.size y.heap.size s n iF #[I J z,I J k,I J l,I J m,I J p,iT ⟨#[]⟩])at S;clear j;obtain⟨-,-,q1,-,-,-⟩:=S.o.2.1;obtain⟨x5,y5⟩:=S.o.at_ 5 _ rfl;have Y:=af (S.o.set 5 (iT u));change ah (CS w _ r.heap.size w.heap.size y.heap.size s n iF #[I J z,I J k,I J l,I J m,I J p,iT u])at Y;clear S;obtain⟨z0,-,z1,-,z2,-,z3,-,z4,-,z5,-⟩:=sg Y.o.2.2.2.2.2.2;go_wp2_with fail;refine(P.o _).mono ?_;rintro e w8 ⟨rfl,b8⟩;have j:=af (Y.o.below b8);clear Y b8 P;cases q
 case' true=>
  obtain⟨t0,-,t1,-,t2,-,t3,-,t4,-,t5,-⟩:=sg j.o.2.2.2.2.2.2;have Z:=j.o.2.2.2.2.2.1;obtain⟨c0,f0,c1,f1,c2,f2,c3,f3,c4,f4,c5,f5⟩:=sg Z;have T:=F5 (a:=I J z) (b:=I J k) (c:=I J l) (d:=I J m) (e:=I J p) (f:=iT u) Z;have B6:=af (Ha (a:=I J z) (b:=I J k) (c:=I J l) (d:=I J m) (e:=I J p) (f:=iT u) j.o.1 (ak _));obtain⟨r0,-,r1,-,r2,-,r3,-,r4,-,r5,-⟩:=sg T;clear Z T;go_wp2;exact aF (v:=iU #[iA #[I J z,I J k,I J l,I J m,I J p,iT u],iB iV]) (by simp[results,Tryz.results54,go_sem,r0,r1,r2,r3,r4,r5]) rfl ⟨by rw[Q.o];rfl,B6.o⟩
 all_goals
  first|have Q:ah (R=O):=V.o rfl|have Q:ah (R=O):=V.o trivial|have Q:ah (R=O):=V|skip
  have Z:=j.o.2.2.2.2.2.1;obtain⟨c0,f0,c1,f1,c2,f2,c3,f3,c4,f4,c5,f5⟩:=sg Z;have T:=F5 (a:=I J 0) (b:=I J 0) (c:=I J 0) (d:=I J 0) (e:=I J 0) (f:=iT ⟨#[]⟩) Z;have B6:=af (Ha (a:=I J 0) (b:=I J 0) (c:=I J 0) (d:=I J 0) (e:=I J 0) (f:=iT ⟨#[]⟩) j.o.1 (ak _));obtain⟨r0,-,r1,-,r2,-,r3,-,r4,-,r5,-⟩:=sg T;clear Z T;go_wp2;exact aF (v:=iU #[iA #[I J 0,I J 0,I J 0,I J 0,I J 0,iT ⟨#[]⟩],iB iF]) (by simp[results,Tryz.results54,go_sem,r0,r1,r2,r3,r4,r5]) rfl ⟨by rw[Q.o];rfl,B6.o⟩
theorem UC(t:ByteArray)(w:iW)(o:t.size<=maxLen):
 iK Tryz.prog 54 #[iT t] w λe w'=>e=G (xh (kQ t))/\iL w.heap.size w w':=by
 unfold kQ;cases j:lD t with
 |none=>exact uN t ⟨#[]⟩ w o iF iV iV (by rw[j];rfl) (by simp[ByteArray.size]) (.inl ⟨rfl,rfl,rfl⟩) 1 1 1 1 0 0 0 0 iV iV iV rfl rfl rfl rfl O (λ_=>rfl) (λh=>nomatch h)
 |some s=>
  simp only;have hs:=(BM j).2;by_cases v:(s.size:Int)<1
  ·have P:s.data.toList[0]?=O:=KV.2 (show s.size<=0 by omega)
   unfold qg;rw[P];exact uN t s w o iV iV iV (by rw[j];rfl) hs (.inr (.inl ⟨rfl,v,rfl,rfl⟩)) 1 1 1 1 0 0 0 0 iV iV iV rfl rfl rfl rfl O (λ_=>rfl) (λh=>nomatch h)
  ·obtain⟨b,n⟩:∃b,s.data.toList[0]?=X b:=by
    have N:0<s.data.toList.length:=show 0<s.size by omega
    exact⟨s.data.toList[0],ay N⟩
   obtain⟨⟨C,y,k⟩,a⟩:∃x,fT s.data.toList 1 iF=x:=⟨_,rfl⟩;obtain⟨⟨D,z,p⟩,d⟩:∃x,fT s.data.toList y k=x:=⟨_,rfl⟩;obtain⟨⟨E,A,H⟩,g⟩:∃x,fT s.data.toList z p=x:=⟨_,rfl⟩;obtain⟨⟨F,B,M⟩,l⟩:∃x,fT s.data.toList A H=x:=⟨_,rfl⟩;cases M with
   |true=>
    have K:qg s=O:=by
     unfold qg;rw[n];simp only;rcases j7 l with r|r
     ·subst r;rcases j7 g with r|r
      ·subst r;rcases j7 d with r|r
       ·subst r;rcases j7 a with r|r
        ·cases r
        ·rw[r]
       ·cases k with
        |true=>
         rcases j7 a with r'|r'
         ·cases r'
         ·rw[r']
        |false=>
         rw[(jh a).2];simp only;rw[r]
      ·cases p with
       |true=>
        rcases j7 d with r'|r'
        ·subst r';rcases j7 a with c|c
         ·cases c
         ·rw[c]
        ·cases k with
         |true=>
          rcases j7 a with c|c
          ·cases c
          ·rw[c]
         |false=>
          rw[(jh a).2];simp only;rw[r']
       |false=>
        obtain⟨rfl,f⟩:=jh d;rw[(jh a).2];simp only;rw[f];simp only;rw[r]
     ·cases H with
      |true=>
       rcases j7 g with r'|r'
       ·subst r';rcases j7 d with q|q
        ·subst q;rcases j7 a with q'|q'
         ·cases q'
         ·rw[q']
        ·cases k with
         |true=>
          rcases j7 a with q'|q'
          ·cases q'
          ·rw[q']
         |false=>
          rw[(jh a).2];simp only;rw[q]
       ·cases p with
        |true=>
         rcases j7 d with q|q
         ·subst q;rcases j7 a with q'|q'
          ·cases q'
          ·rw[q']
         ·cases k with
          |true=>
           rcases j7 a with q'|q'
           ·cases q'
           ·rw[q']
          |false=>
           rw[(jh a).2];simp only;rw[q]
        |false=>
         obtain⟨rfl,f⟩:=jh d;rw[(jh a).2];simp only;rw[f];simp only;rw[r']
      |false=>
       obtain⟨rfl,m⟩:=jh g;obtain⟨rfl,f⟩:=jh d;rw[(jh a).2];simp only;rw[f];simp only;rw[m];simp only;rw[r]
    rw[K];exact uN t s w o iV iF iV (by rw[j];rfl) hs (.inr (.inr ⟨rfl,v,rfl⟩)) y z A B C D E F k p H a d g l O (λ_=>rfl) (λh=>nomatch h)
   |false=>
    obtain⟨rfl,J⟩:=jh l;obtain⟨rfl,m⟩:=jh g;obtain⟨rfl,f⟩:=jh d;obtain⟨-,I⟩:=jh a;have Q:=(sd _ _ _ _ (show 1<=s.size by omega) I).1
    have R:=(sd _ _ _ _ Q f).1;have S:=(sd _ _ _ _ R m).1;have L:=(sd _ _ _ _ S J).1;have i:=GY n I f m J;unfold qg;rw[n];simp only;rw[I];simp only;rw[f];simp only;rw[m];simp only;rw[J];simp only;by_cases u:(Pg.mk b.toNat C D E F (s.extract B s.size)).Right
    ·rw[aj u];exact uN t s w o iV iF iF (by rw[j];rfl) hs (.inr (.inr ⟨rfl,v,rfl⟩)) y z A B C D E F _ _ _ a d g l (X _) (λh=>nomatch h) (λ_=>⟨b,iV,n,L,by unfold pN;rw[aj u,i,(BM j).1];rfl,rfl⟩)
    ·rw[ai u];exact uN t s w o iV iF iF (by rw[j];rfl) hs (.inr (.inr ⟨rfl,v,rfl⟩)) y z A B C D E F _ _ _ a d g l O (λh=>nomatch h) (λ_=>⟨b,iF,n,L,by unfold pN;rw[ai u];rfl,rfl⟩)
theorem UA{rs:List Rw}(h:uP rs)(b k:Int):(eh (rs.map aC) b k).1.size<=1048576:=by
 unfold eh;split
 ·decide
 ·rename_i r hr
  split
  ·decide
  ·rename_i t ht
   split
   ·obtain⟨s,hs,e⟩:=bF.1 (aH hr);subst e;exact h s hs t (aH ht)
   ·decide
def j9(w:iW)(g:Nat)(D:List aq):Prop:=∃cs:Array iX,w.heap[g]?=X (iC cs 114 (0,0))/\∀i x,D[i]?=X x->∀j v,(lG x)[j]?=X v->cs[i*8+j]?=X v
def oI(w w':iW)(g:Nat)(D:List aq):Prop:=cG w w' (·≠g)/\j9 w' g D
variable{D:List aq}
theorem j9.lt{w:iW}(h:j9 w g D):g<w.heap.size:=by
 obtain⟨cs,h1,-⟩:=h;exact(aJ.1 h1).1
theorem j9.frozen{w:iW}(h:j9 w g D)(o:Nat):w.frozen? ⟨g,o,O⟩=iF:=by
 obtain⟨cs,h1,-⟩:=h;exact aL _ _ o _ _ h1
theorem j9.cell{w:iW}{g:Nat}{D:List aq}(h:j9 w g D){i:Nat}{x:aq}(hi:D[i]?=X x)(j:Nat){v:iX}(b:(lG x)[j]?=X v):w.cell? ⟨g,i*8+j,O⟩=X v:=by
 obtain⟨cs,h1,a⟩:=h;rw[am _ _ (i*8+j) _ _ _ h1];exact a i x hi j v b
theorem j9.below{w w':iW}(h:j9 w g D)(b:iL w.heap.size w w'):j9 w' g D:=by
 have c:=h.lt;obtain⟨cs,h1,a⟩:=h;exact⟨cs,(b.block _ c).trans h1,a⟩
def pE(w:iW)(g o:Nat)(x:aq):iW:=
 (((((((w.setCell ⟨g,o,O⟩ (I J x.block)).setCell ⟨g,o+1,O⟩ (I J x.leaf)).setCell ⟨g,o+2,O⟩ (I J x.fP.kind)).setCell ⟨g,o+3,O⟩ (I J x.fP.seq)).setCell ⟨g,o+4,O⟩ (I J x.fP.tx)).setCell ⟨g,o+5,O⟩ (I J x.fP.part)).setCell ⟨g,o+6,O⟩ (I J x.fP.count)).setCell ⟨g,o+7,O⟩ (iT x.fP.text)
theorem Pp(w:iW)(g o:Nat)(x:aq)(i:Nat)(h:i≠g):(pE w g o x).heap[i]?=w.heap[i]?:=by
 unfold pE;rw[aU _ ⟨g,o+7,O⟩ _ _ h,aU _ ⟨g,o+6,O⟩ _ _ h,aU _ ⟨g,o+5,O⟩ _ _ h,aU _ ⟨g,o+4,O⟩ _ _ h,aU _ ⟨g,o+3,O⟩ _ _ h,aU _ ⟨g,o+2,O⟩ _ _ h,aU _ ⟨g,o+1,O⟩ _ _ h,aU _ ⟨g,o,O⟩ _ _ h]
theorem pT(w:iW)(g j:Nat)(v:iX):cG w (w.setCell ⟨g,j,O⟩ v) (·≠g):=by
 refine⟨rfl,rfl,rfl,by simp,λi _ a=>?_⟩
 exact aU _ _ _ _ a
theorem GS(w:iW)(g o:Nat)(x:aq):cG w (pE w g o x) (·≠g):=
 (((((((pT _ _ _ _).trans (pT _ _ _ _)).trans (pT _ _ _ _)).trans (pT _ _ _ _)).trans (pT _ _ _ _)).trans (pT _ _ _ _)).trans (pT _ _ _ _)).trans (pT _ _ _ _)
theorem j9.put{w:iW}(h:j9 w g D)(hi:i<D.length)(x:aq):j9 (pE w g (i*8) x) g (D.set i x):=by
 obtain⟨cs,h1,d⟩:=h;have f:D[i]?=X D[i]:=ay hi;have c:∀j,j<8->i*8+j<cs.size:=λj b=>by
  have:∃v,(lG D[i])[j]?=X v:=by
   have k:j<(lG D[i]).length:=b;exact⟨_,ay k⟩
  obtain⟨v,a⟩:=this;exact(aJ.1 (d i _ f j v a)).1
 have l:=c 7 (by omega)
 refine⟨_,bC _ _ _ _ _ _ (bC _ _ _ _ _ _ (bC _ _ _ _ _ _ (bC _ _ _ _ _ _ (bC _ _ _ _ _ _ (bC _ _ _ _ _ _ (bC _ _ _ _ _ _ (bC _ _ _ _ _ _ h1))))))),?_⟩;intro i' y hy j v a;have b:j<8:=(aD.1 a).1;by_cases e:i'=i
 ·subst e;rw[ku hi]at hy;cases hy;simp only[Bo,Kb]
  match j,b with
  |0,_=>rw[ai (by omega),ai (by omega),ai (by omega),ai (by omega),ai (by omega),ai (by omega),ai (by omega),aj (by omega),aj (by omega)];exact a
  |1,_=>rw[ai (by omega),ai (by omega),ai (by omega),ai (by omega),ai (by omega),ai (by omega),aj (by omega),aj (by omega)];exact a
  |2,_=>rw[ai (by omega),ai (by omega),ai (by omega),ai (by omega),ai (by omega),aj (by omega),aj (by omega)];exact a
  |3,_=>rw[ai (by omega),ai (by omega),ai (by omega),ai (by omega),aj (by omega),aj (by omega)];exact a
  |4,_=>rw[ai (by omega),ai (by omega),ai (by omega),aj (by omega),aj (by omega)];exact a
  |5,_=>rw[ai (by omega),ai (by omega),aj (by omega),aj (by omega)];exact a
  |6,_=>rw[ai (by omega),aj (by omega),aj (by omega)];exact a
  |7,_=>rw[aj (by omega),aj (by omega)];exact a
 ·rw[lZ (λq=>e q.symm)]at hy
  simp only[Bo,Kb];rw[ai (by omega),ai (by omega),ai (by omega),ai (by omega),ai (by omega),ai (by omega),ai (by omega),ai (by omega)]
  exact d i' y hy j v a
def rp(w wr:iW)(v a:iX)(l:List aq):Prop:=iL w.heap.size w wr/\wr.heap[w.heap.size]?=X (iC #[v] 38 (0,0))/\wr.ownsRow (w.heap.size+1) 114 8 a l.length (ng l)
theorem rp.below{w wr w':iW}{v a:iX}{l:List aq}(h:rp w wr v a l)(b:iL wr.heap.size wr w'):rp w w' v a l:=
 ⟨h.1.trans (b.mono h.1.size),(b.block _ (aJ.1 h.2.1).1).trans h.2.1,bu h.2.2 b⟩
theorem To(U V W:List aq)(x z:aq):((U++x::(V++z::W)).set U.length z).set (U.length+1+V.length) x=U++z::(V++x::W):=by
 rw[ii _ _ (ak _)];simp only[ja,bE];rw[ii _ _ (by omega)]
 have:U.length+1+V.length-U.length=V.length+1:=by omega
 rw[this,bp,ii _ _ (ak _)];simp
theorem oI.below{w w' a:iW}(h:oI w w' g D)(b:iL w'.heap.size w' a):oI w a g D:=⟨h.1.trans (cG.below b),h.2.below b⟩
abbrev C8(w:iW)(g o:Nat)(x:aq):Prop:=w.cell? ⟨g,o,O⟩=X (I J x.block)/\w.cell? ⟨g,o+1,O⟩=X (I J x.leaf)/\w.cell? ⟨g,o+2,O⟩=X (I J x.fP.kind)/\w.cell? ⟨g,o+3,O⟩=X (I J x.fP.seq)/\w.cell? ⟨g,o+4,O⟩=X (I J x.fP.tx)/\w.cell? ⟨g,o+5,O⟩=X (I J x.fP.part)/\w.cell? ⟨g,o+6,O⟩=X (I J x.fP.count)/\w.cell? ⟨g,o+7,O⟩=X (iT x.fP.text)
def sM(w:iW)(B:Nat)(u:iX)(M:List aq):Prop:=(u=Y O 0 0/\M=[])∨∃g cap,u=Y (X ⟨g,0,O⟩) M.length cap/\B<=g/\j9 w g M/\M.length<=1000000000000000000
theorem UF{w:iW}{u:iX}{l:List aq}(h:w.ownsRow B 114 8 u l.length (ng l))(k:l.length<=1000000000000000000):sM w B u l:=by
 obtain⟨h1,d⟩:=h;rcases d with⟨rfl,c⟩|⟨g,cap,b,rfl,c,h4,o,p,q,e⟩
 ·exact .inl ⟨rfl,lF c⟩
 ·refine .inr ⟨g,cap,rfl,c,⟨b,h4,λi x n j v m=>?_⟩,k⟩
  have:=QQ l i x n j v m;rw[<-e]at this;obtain⟨f,a⟩:=aD.1 this;rw[ww]at a;rw[dk]at f;rw[<-IE,aD];exact⟨by omega,a⟩
def qL:aq:=⟨0,0,⟨0,0,0,0,0,⟨#[]⟩⟩⟩
def zw(o:Option aq):aq:=o.getD qL
def nB(W:iW)(g:Nat)(x:aq):Prop:=W.heap[g]?=X (iC #[I J x.block,I J x.leaf,I J x.fP.kind,I J x.fP.seq,I J x.fP.tx,I J x.fP.part,I J x.fP.count,iT x.fP.text] 114 (0,0))
theorem nB.cells{W:iW}{g:Nat}{x:aq}(h:nB W g x):W.cell? ⟨g,0,O⟩=X (I J x.block)/\W.cell? ⟨g,1,O⟩=X (I J x.leaf)/\W.cell? ⟨g,2,O⟩=X (I J x.fP.kind)/\W.cell? ⟨g,3,O⟩=X (I J x.fP.seq)/\W.cell? ⟨g,4,O⟩=X (I J x.fP.tx)/\W.cell? ⟨g,5,O⟩=X (I J x.fP.part)/\W.cell? ⟨g,6,O⟩=X (I J x.fP.count)/\W.cell? ⟨g,7,O⟩=X (iT x.fP.text):=
 ⟨am _ _ 0 _ _ _ h,am _ _ 1 _ _ _ h,am _ _ 2 _ _ _ h,am _ _ 3 _ _ _ h,am _ _ 4 _ _ _ h,am _ _ 5 _ _ _ h,am _ _ 6 _ _ _ h,am _ _ 7 _ _ _ h⟩
theorem nB.fr{W:iW}{x:aq}(h:nB W g x)(k:Nat):W.frozen? ⟨g,k,O⟩=iF:=aL _ _ k _ _ h
theorem VO{w:iW}{t:TypeId}{C B p o n m j i a b c d e f k l:iX}(h:w.heap[g]?=X (iC #[C,B,p,o,n,m,j,i] t (0,0))):
 ((((((((w.setCell ⟨g,0,O⟩ a).setCell ⟨g,1,O⟩ b).setCell ⟨g,2,O⟩ c).setCell ⟨g,3,O⟩ d).setCell ⟨g,4,O⟩ e).setCell ⟨g,5,O⟩ f).setCell ⟨g,6,O⟩ k).setCell ⟨g,7,O⟩ l).heap[g]?=X (iC #[a,b,c,d,e,f,k,l] t (0,0)):=by
 have h0:(w.setCell ⟨g,0,O⟩ a).heap[g]?=X (iC #[a,B,p,o,n,m,j,i] t (0,0)):=bC _ _ 0 _ _ _ h;generalize w.setCell ⟨g,0,O⟩ a=w0 at h0⊢;have h1:(w0.setCell ⟨g,1,O⟩ b).heap[g]?=X (iC #[a,b,p,o,n,m,j,i] t (0,0)):=bC _ _ 1 _ _ _ h0;generalize w0.setCell ⟨g,1,O⟩ b=v at h1⊢;have q:(v.setCell ⟨g,2,O⟩ c).heap[g]?=X (iC #[a,b,c,o,n,m,j,i] t (0,0)):=bC _ _ 2 _ _ _ h1;generalize v.setCell ⟨g,2,O⟩ c=x at q⊢;have r:(x.setCell ⟨g,3,O⟩ d).heap[g]?=X (iC #[a,b,c,d,n,m,j,i] t (0,0)):=bC _ _ 3 _ _ _ q;generalize x.setCell ⟨g,3,O⟩ d=y at r⊢;have h4:(y.setCell ⟨g,4,O⟩ e).heap[g]?=X (iC #[a,b,c,d,e,m,j,i] t (0,0)):=bC _ _ 4 _ _ _ r;generalize y.setCell ⟨g,4,O⟩ e=z at h4⊢;have s:(z.setCell ⟨g,5,O⟩ f).heap[g]?=X (iC #[a,b,c,d,e,f,j,i] t (0,0)):=bC _ _ 5 _ _ _ h4;generalize z.setCell ⟨g,5,O⟩ f=A at s⊢;have u:(A.setCell ⟨g,6,O⟩ k).heap[g]?=X (iC #[a,b,c,d,e,f,k,i] t (0,0)):=bC _ _ 6 _ _ _ s;generalize A.setCell ⟨g,6,O⟩ k=D at u⊢;exact bC _ _ 7 _ _ _ u
theorem nB.set{W:iW}{x:aq}(h:nB W g x)(y:aq):
 nB ((((((((W.setCell ⟨g,0,O⟩ (I J y.block)).setCell ⟨g,1,O⟩ (I J y.leaf)).setCell ⟨g,2,O⟩ (I J y.fP.kind)).setCell ⟨g,3,O⟩ (I J y.fP.seq)).setCell ⟨g,4,O⟩ (I J y.fP.tx)).setCell ⟨g,5,O⟩ (I J y.fP.part)).setCell ⟨g,6,O⟩ (I J y.fP.count)).setCell ⟨g,7,O⟩ (iT y.fP.text)) g y:=VO h
theorem I6{a w:iW}{v0 v1 v2 v3 v4 v5 v6 v7:iX}(h:iL B a w)(b:B<=g):
 iL B a ((((((((w.setCell ⟨g,0,O⟩ v0).setCell ⟨g,1,O⟩ v1).setCell ⟨g,2,O⟩ v2).setCell ⟨g,3,O⟩ v3).setCell ⟨g,4,O⟩ v4).setCell ⟨g,5,O⟩ v5).setCell ⟨g,6,O⟩ v6).setCell ⟨g,7,O⟩ v7):=
 (((((((h.setCell (p:=⟨g,0,O⟩) b _).setCell (p:=⟨g,1,O⟩) b _).setCell (p:=⟨g,2,O⟩) b _).setCell (p:=⟨g,3,O⟩) b _).setCell (p:=⟨g,4,O⟩) b _).setCell (p:=⟨g,5,O⟩) b _).setCell (p:=⟨g,6,O⟩) b _).setCell (p:=⟨g,7,O⟩) b _
theorem Ob:(Tryz.prog.info? 114).map (·.size)=X 8:=by kernel_rfl
theorem K9 {p q:Tmp} (h:fn.results= #[.cell p 114,.tmp q]) (a:Array iX) (w:iW) (g:Nat) (x:aq)
 (e:a.getD p undef=iP (X ⟨g,0,O⟩)) (c:nB w g x):
 (results fn a).run Tryz.prog w=.ok (iU #[vx x,a.getD q undef]) w:=by
 have b:a[p]?.getD undef=iP (X ⟨g,0,O⟩):=by simpa using e
 have d:=lx (P:=Tryz.prog) w g 114 114 _ _ _ c Tryz.underlying114 rfl Ob;simp[results,h,b,asAddr,d,vx]
theorem jc.all{w:iW}{a:Option Addr}{d:Nat}{ls:List aq}(h:jc w a d ls){t:aq}(n:ls[k]?=X t):
 ∃b c,a=X ⟨b,c,O⟩/\b<w.heap.size/\w.cell? ⟨b,c+k*8,O⟩=X (I J t.block)/\w.cell? ⟨b,c+k*8+1,O⟩=X (I J t.leaf)/\
  w.cell? ⟨b,c+k*8+2,O⟩=X (I J t.fP.kind)/\w.cell? ⟨b,c+k*8+3,O⟩=X (I J t.fP.seq)/\w.cell? ⟨b,c+k*8+4,O⟩=X (I J t.fP.tx)/\
  w.cell? ⟨b,c+k*8+5,O⟩=X (I J t.fP.part)/\w.cell? ⟨b,c+k*8+6,O⟩=X (I J t.fP.count)/\w.cell? ⟨b,c+k*8+7,O⟩=X (iT t.fP.text)/\w.cell? ⟨b,c+k*8+2+2,O⟩=X (I J t.fP.tx):=by
 obtain⟨b,c,e,h0,h1,g,i,h4,f,j,l,m⟩:=h.at n;exact⟨b,c,e,h0,h1,g,i,h4,f,j,l,m,f⟩
variable{M:List aq}
theorem sM.rd{W:iW}{u:iX}(h:sM W B u M):∃ad cap,u=Y ad M.length cap/\jc W ad M.length M/\M.length<=1000000000000000000:=by
 rcases h with⟨rfl,rfl⟩|⟨g,cap,rfl,d,a,b⟩
 ·exact⟨O,0,rfl,⟨rfl,by unfold maxLen;simp,λh=>by simp at h⟩,by simp⟩
 ·refine⟨_,_,rfl,⟨rfl,by unfold maxLen;omega,λ_=>⟨g,0,rfl,a.lt,λi t hi j v c=>?_⟩⟩,b⟩
  rw[dK];exact a.cell hi j c
theorem Wv(v:iX)(rs:List Rw)(b leaf:Int)(w:iW)(hl:rs.length<=1048576)(p:∀r∈rs,r.2.2.2.length<=1048576)(B:fO w v rs):
 iK Tryz.prog 53 #[iA #[v],I J b,I J leaf] w λe w'=>e=G (iU #[iT (eh (rs.map aC) b leaf).1,iB (eh (rs.map aC) b leaf).2])/\iL w.heap.size w w':=by
 have h1:=B;obtain⟨s,a,rfl,-⟩:=h1;have A:=af p;have c:=af ((ax w.heap.size w).alloc (ak _) (iC #[Y s rs.length a] 38));have K:=af (B.below c.o);have Q:=az w (iC #[Y s rs.length a] 38);have H:(w.alloc (iC #[Y s rs.length a] 38)).cell? ⟨w.heap.size,0,O⟩=X (Y s rs.length a):=am _ _ 0 _ _ _ Q;have L:=af H;have Z:IntKind.i64.wrap ((rs.length:Int)-1)=(rs.length:Int)-1:=by rw[cL];omega
 clear B p Q H;go_enter Tryz.func53,Tryz.ntmps53;go_wp2_with fail;refine(gT b 0 ((rs.length:Int)-1) _).mono ?_;rintro e w2 ⟨rfl,rfl⟩;generalize w.alloc (iC #[Y s rs.length a] 38)=w2 at c K L⊢;have H:=L.o;by_cases l:0<=b/\b<=(rs.length:Int)-1
 ·rw[aQ l];obtain⟨k,rfl⟩:∃k:Nat,b=k:=⟨b.toNat,by omega⟩
  have D:k<rs.length:=by omega
  have q:rs[k]?=X rs[k]:=ay D;generalize rs[k]=r at q;have d:=aH q;have E:=A.o r d;obtain⟨g,V,⟨c1,c2,c3⟩,n⟩:=K.o.at q;subst V;have i:ah ((rs.map aC)[k]?=X (aC r)):=by show _=_;rw[bk,q];rfl
  obtain⟨x,y,u,ls⟩:=r;simp only at c1 c2 c3;simp only at n E;obtain⟨ld,N,rfl,-,P⟩:=n;have R:=af P;have ab:(0:Int)<=k:=by omega
  have ac:(k:Int)<rs.length:=by omega
  have aa:IntKind.i64.wrap ((ls.length:Int)-1)=(ls.length:Int)-1:=by rw[cL];omega
  clear q d P c1 c2 l;go_wp2_with fail;refine(gT leaf 0 ((ls.length:Int)-1) _).mono ?_;rintro e w3 ⟨rfl,rfl⟩;by_cases m:0<=leaf/\leaf<=(ls.length:Int)-1
  ·rw[aQ m];obtain⟨j,rfl⟩:∃j:Nat,leaf=j:=⟨leaf.toNat,by omega⟩
   have C:j<ls.length:=by omega
   obtain⟨z,t,F⟩:∃z t,ls[j]?=X (z,t):=⟨ls[j].1,ls[j].2,ay C⟩;obtain⟨gl,lo,W,S,T⟩:=R.o j (z,t) F;subst W;simp only at S T;have M:=af (NW (t:=(z,t)) i.o F);have j0:(0:Int)<=j:=by omega
   have j1:(j:Int)<ls.length:=by omega
   clear F m;by_cases h:z=1
   ·have f:ah (eh (rs.map aC) (k:Int) (j:Int)=(t,iV)):=M.o.1 h;have U:(z !=1)=iF:=by simp[h]
    clear h;go_wp2;go_ret2;exact⟨by rw[f.o];rfl,c.o⟩
   ·have f:ah (eh (rs.map aC) (k:Int) (j:Int)=(⟨#[]⟩,iF)):=M.o.2 h;have U:(z !=1)=iV:=by simp[h]
    clear h;go_wp2;go_ret2;exact⟨by rw[f.o];rfl,c.o⟩
  ·rw[aV m];have f:ah (eh (rs.map aC) (k:Int) leaf=(⟨#[]⟩,iF)):=MP i.o m;clear m;go_wp2;go_ret2;exact⟨by rw[f.o];rfl,c.o⟩
 ·rw[aV l];have f:ah (eh (rs.map aC) b leaf=(⟨#[]⟩,iF)):=Lv (by rw[aS];exact l)
  clear l;go_wp2;go_ret2;exact⟨by rw[f.o];rfl,c.o⟩
theorem WG(v:iX)(rs:List Rw)(w:iW)(hl:rs.length<=1048576)(a9:∀r∈rs,r.2.2.2.length<=1048576)(be:uP rs)(ha:fO w v rs):
 iK Tryz.prog 28 #[iA #[v]] w λe w'=>∃u M,e=G u/\Asc M/\Akin (gH (rs.map aC) rs.length) M/\sM w' w.heap.size u M/\iL w.heap.size w w':=by
 obtain⟨i0,bq,bx,bA,bB⟩:=bK MU;have h1:=ha;obtain⟨vd,s,rfl,-⟩:=h1;have bm:=af be;have aS:=af a9;obtain⟨n,hn⟩:=an rs.length;have HN:=af hn;have al:=af ha;rw[hn]at hl al⊢;have b0:iL w.heap.size w ((w.alloc (iC #[Y vd n s] 38)).alloc (iC #[] 114)):=(aY).alloc (by simp) _
 have S0:ah (rp w ((w.alloc (iC #[Y vd n s] 38)).alloc (iC #[] 114)) (Y vd n s) (Y (X ⟨w.heap.size+1,0,O⟩) 0 0) []):=by
  refine⟨b0,(nM _ _ (by simp)).trans (az _ _),?_⟩
  have:=nE (w.alloc (iC #[Y vd n s] 38)) (e:=114) (size:=8) (base:=w.heap.size+1) #[] 0 (by simp) (by unfold maxLen;omega) (by simp)
  rwa [show(w.alloc (iC #[Y vd n s] 38)).heap.size=w.heap.size+1 by simp]at this
 clear ha be a9 hn b0;go_enter Tryz.func28,Tryz.ntmps28;go_wp2;go_loopw [3,4] (λaj bv wr=>∃(b:Nat) (l:List aq),bv=I J b/\b<=n/\l.length<=b*1048576/\ah (l=gH (rs.map aC) b)/\ah (∃g c,aj=Y (X ⟨g,0,O⟩) l.length c)/\ah (rp w wr (Y vd n s) aj l)) (λ_ bv _=>n-(intOf bv).toNat)
 case atStart=>exact⟨0,[],rfl,aI _,by simp,rfl,⟨_,_,rfl⟩,S0⟩
 case round=>
  rename iW=>wo
  obtain⟨b,l,rfl,r1,aF,aG,ar,K⟩:=hrel;clear S0;have cf:wo.cell? ⟨w.heap.size,0,O⟩=X (Y vd n s):=am _ _ 0 _ _ _ K.o.2.1;by_cases bu:(b:Int)<n
  ·have aX:b<rs.length:=by have:=HN.o;omega
   obtain⟨r,hr⟩:∃r,rs[b]?=X r:=⟨_,ay aX⟩;obtain⟨gv,e,-,bt⟩:=al.o.at hr;subst e;have bw:=aS.o r (aH hr);obtain⟨m,hm⟩:=an r.2.2.2.length;obtain⟨ld,lc,Q,-⟩:=bt;have bi:ah (∀W,iL w.heap.size w W->W.cell? ⟨gv,b*3+2,O⟩=X (Y ld m lc)):=by
    intro W hW;obtain⟨g',e3,⟨-,-,c3⟩,-⟩:=(al.o.below hW).at hr;injection e3 with e3
    injection e3 with e3
    subst e3;rw[c3,Q,hm]
   rw[hm]at bw;have HM:ah (gH (rs.map aC) (b+1)=gH (rs.map aC) b++kw (rs.map aC) b m):=by
    show _=_;simp only[gH,bk,hr,kg,pL];show gH _ b++kw _ b (aC r).2.2.length=_;rw[show(aC r).2.2.length=m from hm]
   have b0:(0:Int)<=b:=by omega
   have L0:ah (l=gH (rs.map aC) b++kw (rs.map aC) b 0):=by show _=_;rw[aG.o];simp[kw]
   clear Q hr aX hm;go_wp2;go_loopw [3,5] (λaj kv wr=>∃(k:Nat) (D:List aq),kv=I J k/\k<=m/\D.length<=b*1048576+k/\ah (D=gH (rs.map aC) b++kw (rs.map aC) b k)/\ah (∃g c,aj=Y (X ⟨g,0,O⟩) D.length c)/\ah (rp w wr (Y (X ⟨gv,0,O⟩) n s) aj D)) (λ_ kv _=>m-(intOf kv).toNat)
   case atStart=>exact⟨0,l,rfl,aI _,bR aF (Nat.le_add_right _ _),L0,ar,K⟩
   case round=>
    rename iX=>vout
    obtain⟨k,D,rfl,t1,bF,ab,ad,P⟩:=hrel;clear K L0 cf ar;have cf:wr.cell? ⟨w.heap.size,0,O⟩=X (Y (X ⟨gv,0,O⟩) n s):=am _ _ 0 _ _ _ P.o.2.1;have c3:=bi.o _ P.o.1;by_cases hk:(k:Int)<m
    ·have C:=af (Wv (Y (X ⟨gv,0,O⟩) n s) rs (b:Int) (k:Int) wr (by have:=HN.o;omega) aS.o (al.o.below P.o.1))
     have bd:=UA bm.o (b:Int) (k:Int);obtain⟨T,ok,hT⟩:∃T ok,eh (rs.map aC) (b:Int) (k:Int)=(T,ok):=⟨_,_,rfl⟩;rw[hT]at C bd;simp only at C bd;have C2:=af (λW=>UC T W (by unfold maxLen;omega))
     have au:fs (rs.map aC) (b:Int) (k:Int)=if ok then kQ T else O:=by unfold fs;rw[hT]
     by_cases aw:ok=iV/\∃pg,kQ T=X pg
     ·obtain⟨rfl,pg,aN⟩:=aw;rw[aN]at C2;obtain⟨q1,q2,q3,q4,q5,q6⟩:=pg;unfold xh i7 at C2;simp only at C2;have NL:ah (D++[⟨b,k,⟨q1,q2,q3,q4,q5,q6⟩⟩]=gH (rs.map aC) b++kw (rs.map aC) b (k+1)):=by show _=_;rw[ab.o];simp[kw,au,aN]
      clear au ab hT aN;go_wp2_with fail;refine C.o.mono ?_;rintro e w1 ⟨rfl,b1⟩;have S1:=af (P.o.below b1);clear b1 P C;go_wp2_with fail;refine(C2.o _).mono ?_;rintro e t ⟨rfl,b2⟩;have ba:=(ax t.heap.size t).alloc (ak _) (iC #[I J q1,I J q2,I J q3,I J q4,I J q5,iT q6] 110);have d:=af ((S1.o.below b2).below ba);have z3:(t.alloc (iC #[I J q1,I J q2,I J q3,I J q4,I J q5,iT q6] 110)).heap.size=t.heap.size+1:=by simp
      have aU:=af (ED (t.alloc (iC #[I J q1,I J q2,I J q3,I J q4,I J q5,iT q6] 110)) ([I J (b:Int),I J (k:Int),I J q1,I J q2,I J q3,I J q4,I J q5,iT q6]:List iX).toArray 114 (t.heap.size+1) z3);clear b2 S1 C2 ba;go_wp2_with (at_builtin;refine cN _ rfl _ _ 65 rfl (w.heap.size+1) 114 i0 (iA #[I J 0,I J 0,I J 0,I J 0,I J 0,I J 0,I J 0,iT ⟨#[]⟩]) 8 72 Tryz.underlying65 bq bx bA bB rfl (by decide) _ D.length (ng D) rfl (d.o.2.2.alloc _) ⟨t.heap.size+1,0,O⟩ 1 1 [I J (b:Int),I J (k:Int),I J q1,I J q2,I J q3,I J q4,I J q5,iT q6] rfl rfl aU.o (Ve ⟨b,k,⟨q1,q2,q3,q4,q5,q6⟩⟩) ?g1 ?g2 ?g3 ?_)
      case g1=>unfold maxLen;omega
      case g2=>omega
      case g3=>have:=d.o.1.size;simp;omega
      intro v' A ag aa _;have NS:ah (rp w A (Y (X ⟨gv,0,O⟩) n s) v' (D++[⟨b,k,⟨q1,q2,q3,q4,q5,q6⟩⟩])):=by
       have bz:=d.o.below ((ax _ _).alloc (ak _) (iC (lG ⟨b,k,⟨q1,q2,q3,q4,q5,q6⟩⟩).toArray 114));have bC:=(aJ.1 bz.2.1).1;refine⟨bz.1.grown aa bz.1.size (λx hx=>wm (d.o.2.2.lt x hx).1),(aa.block w.heap.size bC (λe=>?_)).trans bz.2.1,?_⟩
       ·have:=(d.o.2.2.lt _ e.symm).1;omega
       ·rw[aT,<-LI];exact ag
      have NN:(D++[(⟨b,k,⟨q1,q2,q3,q4,q5,q6⟩⟩:aq)]).length=D.length+1:=by simp
      have NO:ah (∃g c,v'=Y (X ⟨g,0,O⟩) (D++[(⟨b,k,⟨q1,q2,q3,q4,q5,q6⟩⟩:aq)]).length c):=by
       rcases ag.2 with⟨-,h0⟩|⟨g,cap,bH,e,-,-,-,-,-,-⟩
       ·omega
       ·exact⟨g,cap,by rw[NN];exact e⟩
      generalize D++[(⟨b,k,⟨q1,q2,q3,q4,q5,q6⟩⟩:aq)]=l3 at NL NS NN NO;clear ag aa d aU;go_wp2;go_roundw
      case rel=>exact⟨k+1,l3,by go_num,by omega,by omega,NL,NO,NS⟩
      case measure=>simp[intOf];omega
     ·have bc:fs (rs.map aC) (b:Int) (k:Int)=O:=by
       rw[au];cases ok with
       |false=>rfl
       |true=>
        cases hq:kQ T with
        |none=>rfl
        |some pg=>exact absurd ⟨rfl,pg,hq⟩ aw
      obtain⟨pg,bh,hp⟩:=OY (kQ T);have aE:ok=iV->bh=iF:=by
       intro e;subst e;cases hq:kQ T with
       |none=>
        rw[hq]at hp;have h3:iU #[i7 ⟨0,0,0,0,0,⟨#[]⟩⟩,iB iF]=iU #[i7 pg,iB bh]:=hp;simp at h3;exact h3.2.symm▸rfl
       |some pg=>exact absurd ⟨rfl,pg,hq⟩ aw
      rw[hp]at C2;obtain⟨q1,q2,q3,q4,q5,q6⟩:=pg;unfold i7 at C2;simp only at C2;have NL:ah (D=gH (rs.map aC) b++kw (rs.map aC) b (k+1)):=by show _=_;rw[ab.o];simp[kw,bc]
      have bl:=af aE;clear au ab hT hp bc aw aE;go_wp2_with fail;refine C.o.mono ?_;rintro e w1 ⟨rfl,b1⟩;have S1:=af (P.o.below b1);clear b1 P C;go_wp2_with fail;refine(C2.o _).mono ?_;rintro e t ⟨rfl,b2⟩;have d:=af ((S1.o.below b2).below ((ax t.heap.size t).alloc (ak _) (iC #[I J q1,I J q2,I J q3,I J q4,I J q5,iT q6] 110)));clear b2 S1 C2;cases ok with
      |false=>
       go_wp2;go_roundw
       case rel=>exact⟨k+1,D,by go_num,by omega,by omega,NL,ad,d⟩
       case measure=>simp[intOf];omega
      |true=>
       obtain rfl:=bl.o (by first|rfl|trivial)
       go_wp2;go_roundw
       case rel=>exact⟨k+1,D,by go_num,by omega,by omega,NL,ad,d⟩
       case measure=>simp[intOf];omega
    ·have a8:k=m:=by omega
     have NL:ah (D=gH (rs.map aC) (b+1)):=by show _=_;rw[ab.o,HM.o,a8]
     clear ab a8;go_wp2;go_roundw
     case rel=>exact⟨b+1,D,by go_num,by omega,by omega,NL,ad,P⟩
     case measure=>simp[intOf];omega
  ·have aZ:b=n:=by omega
   have ao:ah (l=gH (rs.map aC) n):=by show _=_;rw[aG.o,aZ]
   obtain⟨g,cap,Z⟩:=ar.o;subst Z;have aB:j9 wo g l/\w.heap.size<=g:=by
    rcases UF K.o.2.2 (by omega)with⟨e,-⟩|⟨g',bD,e,hg,h,-⟩
    ·cases e
    ·injection e with Z Q e3
     injection Z with Z
     injection Z with Z
     subst Z;exact⟨h,by omega⟩
   obtain⟨aB,bp⟩:=aB;obtain⟨nl,av⟩:=an l.length;rw[av]at aF;rw[av];have B1:=af K.o.1;have ap:=af av;have SS:ah (oI wo wo g l):=⟨cG.refl _ _,aB⟩;clear K aG aZ aB av ar;obtain⟨D0,aM⟩:=an (gH (rs.map aC) n);rw[aM]at ao;have bj:=af aM;clear aM;have st:∃S T,l=S++T/\Asc S/\Akin D0 (S++T)/\S.length=min 1 nl/\S.length+T.length=nl:=by
    have e:=ao.o;have Q:=ap.o;clear SS ap ao
    match l,e,Q with
    | [],e,Q=>exact⟨[],[],rfl,List.Pairwise.nil,by rw[<-e];exact Akin.refl _,by simp at Q⊢;omega,by simpa using Q⟩
    |y::l',e,Q=>exact⟨[y],l',rfl,mA _ _,by rw[<-e];exact Akin.refl _,by simp at Q⊢;omega,by simp at Q⊢;omega⟩
   have ST:=af st;clear st;go_wp2;clear cf;go_loopw [10] (λiv wr=>∃(i:Nat) (E:List aq),iv=I J i/\1<=i/\i<=nl+1/\ah (E.length=nl)/\ah (∃S T,E=S++T/\Asc S/\Akin D0 (S++T)/\S.length=min i nl/\S.length+T.length=nl)/\ah (oI wo wr g E)) (λiv _=>nl+1-(intOf iv).toNat)
   case atStart=>exact⟨1,l,rfl,by omega,by omega,ap,ST,SS⟩
   case round=>
    rename iW=>wx
    obtain⟨i,E,rfl,r1,r2,HE,HJ,K⟩:=hrel;clear ST SS ap ao;by_cases bu:(i:Int)<nl
    ·obtain⟨S,T0,Z,Q,e3,e4,e5⟩:=HJ.o
     match T0,Z,e3,e5 with
     | [],_,_,h5=>simp at h5;omega
     |x::T,Z,e3,e5=>
      have aL:S.length=i:=by omega
      have J0:ah (E=S++(x::([]++T))/\S++[]=S/\S.length=i/\∀v∈([]:List aq),x.key<v.key):=⟨by rw[Z];simp,by simp,aL,λv hv=>by cases hv⟩
      have AS:=af Q;have AK:=af e3;have E5:=af e5;have aW:=K;have aP:=HE;have E4:=af aL;clear Z Q e3 e4 aL e5 HJ K HE;go_wp2;go_loopw [11] (λjv wr=>∃(j:Nat) (F U V:List aq),jv=I J j/\j<=i/\ah (F.length=nl)/\ah (F=U++(x::(V++T))/\U++V=S/\U.length=j/\∀v∈V,x.key<v.key)/\ah (oI wo wr g F)) (λjv _=>(intOf jv).toNat)
      case atStart=>exact⟨i,E,S,[],rfl,ak _,aP,J0,aW⟩
      case round=>
       obtain⟨j,Gq,U,V,rfl,s2,HG,HK,K⟩:=hrel;clear aW aP J0;have ae:ah ((∀u∈U,u.key<=x.key)->∃L T2,Gq=L++T2/\Asc L/\Akin D0 (L++T2)/\L.length=min (i+1) nl/\L.length+T2.length=nl):=by
        intro hu;obtain⟨k1,k2,k3,k4⟩:=HK.o;have hA:=AS.o;rw[<-k2]at hA;refine⟨U++x::V,T,by rw[k1];simp,Asc.app hA.left (gK.2 ⟨λv hv=>Int.le_of_lt (k4 v hv),hA.right⟩) ?_,?_,?_,?_⟩
        ·intro p hp q hq;rcases bf.1 hq with e|e
         ·subst e;exact hu p hp
         ·exact hA.across p hp q e
        ·refine AK.o.trans ?_;rw[<-k2];have:=(Akin.refl U).app ((Akin.flip (a:=V) (b:=[x]) (λp hp q hq=>by rw[bT]at hq;subst hq;have:=k4 p hp;omega)).app (Akin.refl T))
         simpa using this
        ·have h1:=congrArg List.length k2;have h2:=E4.o;simp only[aT,aR]at h1⊢;omega
        ·have h1:=congrArg List.length k2;have h2:=E5.o;simp only[aT,aR]at h1 h2⊢;omega
       by_cases bJ:(0:Int)<j
       ·obtain⟨k1,k2,k3,k4⟩:=HK.o;obtain⟨U',u,eU⟩:∃U' u,U=U'++[u]:=by
         have bb:U≠ []:=λe=>by subst e;simp at k3;omega
         exact⟨U.dropLast,U.getLast bb,(Jn bb).symm⟩
        subst eU;obtain⟨q,bN⟩:∃q:Nat,(j:Int)-1=q:=⟨j-1,by omega⟩
        have bO:IntKind.i64.wrap ((j:Int)-1)=q:=by rw[cL];omega
        have bE:IntKind.i64.wrap (q:Int)=q:=by rw[cL];omega
        have eE:Gq=U'++u::([]++x::(V++T)):=by rw[k1];simp
        have ac:U'.length=q:=by
         rw[aT]at k3;simp at k3;omega
        have hq:Gq[q]?=X u:=by rw[eE,<-ac];simp
        have hp:Gq[j]?=X x:=by
         rw[eE,dz (by omega)]
         have:j-U'.length=1:=by omega
         rw[this];rfl
        have ai:(Gq.set j u).set q x=U'++(x::((u::V)++T)):=by
         have:=To U' [] (V++T) u x;rw[ac,<-eE]at this;rw[List.set_comm _ _ (show j≠q by omega),show j=q+1+([]:List aq).length by simp;omega,this]
         simp
        have NL:ah (((Gq.set j u).set q x).length=nl):=by show _=_;rw[iy,iy];exact HG.o
        have aO:U'++(u::V)=S:=by rw[<-k2];simp
        have j0:(0:Int)<=j:=by omega
        have q0:(0:Int)<=q:=by omega
        have jN:(j:Int)<nl:=by omega
        have qN:(q:Int)<nl:=by omega
        have f:=af hp;have z:=af hq;have bM:q+1=j:=by omega
        have bL:0<j:=by omega
        have c3:wr.cell? ⟨g,j*8+3,O⟩=X (I J x.fP.seq):=K.o.2.cell f.o 3 rfl;have d3:wr.cell? ⟨g,q*8+3,O⟩=X (I J u.fP.seq):=K.o.2.cell z.o 3 rfl;have aK:=af (λk=>K.o.below (bI (ax _ _) k))
        by_cases hc:x.key<u.key
        ·have NU:ah ((Gq.set j u).set q x=U'++(x::((u::V)++T))/\U'++(u::V)=S/\U'.length=q/\∀v∈(u::V),x.key<v.key):=⟨ai,aO,ac,λv hv=>by
          rcases bf.1 hv with e|e
          ·subst e;exact hc
          ·exact k4 v e⟩
         have bG:=af ac;have bn:x.fP.seq<u.fP.seq:=hc;have bo:decide (u.fP.seq>x.fP.seq)=iV:=aQ hc;clear hp hq eE ac ai k1 k2 k3 k4 HK ae aO hc;go_wp2;go_quiet (fail);have L:=af (aK.o nq);clear c3 d3 aK K;generalize wr.drewN nq=t at L⊢;have x0:t.cell? ⟨g,j*8,O⟩=X (I J x.block):=L.o.2.cell f.o 0 rfl;have x1:t.cell? ⟨g,j*8+1,O⟩=X (I J x.leaf):=L.o.2.cell f.o 1 rfl;have x2:t.cell? ⟨g,j*8+2,O⟩=X (I J x.fP.kind):=L.o.2.cell f.o 2 rfl;have x3:t.cell? ⟨g,j*8+3,O⟩=X (I J x.fP.seq):=L.o.2.cell f.o 3 rfl;have x4:t.cell? ⟨g,j*8+4,O⟩=X (I J x.fP.tx):=L.o.2.cell f.o 4 rfl;have x5:t.cell? ⟨g,j*8+5,O⟩=X (I J x.fP.part):=L.o.2.cell f.o 5 rfl;have x6:t.cell? ⟨g,j*8+6,O⟩=X (I J x.fP.count):=L.o.2.cell f.o 6 rfl;have x7:t.cell? ⟨g,j*8+7,O⟩=X (iT x.fP.text):=L.o.2.cell f.o 7 rfl;go_upto_region 19 with fail
         clear x0 x1 x2 x3 x4 x5 x6 x7;have H3:ah ((t.alloc (iC #[I J x.block,I J x.leaf,I J x.fP.kind,I J x.fP.seq,I J x.fP.tx,I J x.fP.part,I J x.fP.count,iT x.fP.text] 114)).heap[t.heap.size]?=X (iC #[I J x.block,I J x.leaf,I J x.fP.kind,I J x.fP.seq,I J x.fP.tx,I J x.fP.part,I J x.fP.count,iT x.fP.text] 114)):=az _ _;have d:=af (L.o.below ((ax _ _).alloc (ak _) (iC #[I J x.block,I J x.leaf,I J x.fP.kind,I J x.fP.seq,I J x.fP.tx,I J x.fP.part,I J x.fP.count,iT x.fP.text] 114)));have bg:ah (t.heap.size≠g):=by show _≠_;have:=L.o.2.lt;omega
         clear L;generalize t.alloc (iC #[I J x.block,I J x.leaf,I J x.fP.kind,I J x.fP.seq,I J x.fP.tx,I J x.fP.part,I J x.fP.count,iT x.fP.text] 114)=R at H3 d⊢;generalize t.heap.size=hx at H3 bg⊢;have z0:R.cell? ⟨g,q*8,O⟩=X (I J u.block):=d.o.2.cell z.o 0 rfl;have x0:R.cell? ⟨g,j*8,O⟩=X (I J x.block):=d.o.2.cell f.o 0 rfl;have k0:=d.o.2.frozen (j*8);have z1:R.cell? ⟨g,q*8+1,O⟩=X (I J u.leaf):=d.o.2.cell z.o 1 rfl;have x1:R.cell? ⟨g,j*8+1,O⟩=X (I J x.leaf):=d.o.2.cell f.o 1 rfl;have k1:=d.o.2.frozen (j*8+1);have z2:R.cell? ⟨g,q*8+2,O⟩=X (I J u.fP.kind):=d.o.2.cell z.o 2 rfl;have x2:R.cell? ⟨g,j*8+2,O⟩=X (I J x.fP.kind):=d.o.2.cell f.o 2 rfl;have k2:=d.o.2.frozen (j*8+2);have z3:R.cell? ⟨g,q*8+3,O⟩=X (I J u.fP.seq):=d.o.2.cell z.o 3 rfl;have x3:R.cell? ⟨g,j*8+3,O⟩=X (I J x.fP.seq):=d.o.2.cell f.o 3 rfl;have k3:=d.o.2.frozen (j*8+3);have z4:R.cell? ⟨g,q*8+4,O⟩=X (I J u.fP.tx):=d.o.2.cell z.o 4 rfl;have x4:R.cell? ⟨g,j*8+4,O⟩=X (I J x.fP.tx):=d.o.2.cell f.o 4 rfl;have k4:=d.o.2.frozen (j*8+4);have z5:R.cell? ⟨g,q*8+5,O⟩=X (I J u.fP.part):=d.o.2.cell z.o 5 rfl;have x5:R.cell? ⟨g,j*8+5,O⟩=X (I J x.fP.part):=d.o.2.cell f.o 5 rfl;have k5:=d.o.2.frozen (j*8+5);have z6:R.cell? ⟨g,q*8+6,O⟩=X (I J u.fP.count):=d.o.2.cell z.o 6 rfl;have x6:R.cell? ⟨g,j*8+6,O⟩=X (I J x.fP.count):=d.o.2.cell f.o 6 rfl;have k6:=d.o.2.frozen (j*8+6);have z7:R.cell? ⟨g,q*8+7,O⟩=X (iT u.fP.text):=d.o.2.cell z.o 7 rfl;have x7:R.cell? ⟨g,j*8+7,O⟩=X (iT x.fP.text):=d.o.2.cell f.o 7 rfl;have k7:=d.o.2.frozen (j*8+7);go_upto_region 20 with fail
         clear z0 k0 x0 z1 k1 x1 z2 k2 x2 z3 k3 x3 z4 k4 x4 z5 k5 x5 z6 k6 x6 z7 k7 x7;obtain⟨A,e4⟩:∃A,A=pE R g (j*8) u:=⟨_,rfl⟩;have H:ah (oI wo A g (Gq.set j u)):=by show oI _ _ _ _;rw[e4];exact⟨d.o.1.trans (GS _ _ _ _),d.o.2.put (aD.1 f.o).1 u⟩
         have H4:ah (A.heap[hx]?=X (iC #[I J x.block,I J x.leaf,I J x.fP.kind,I J x.fP.seq,I J x.fP.tx,I J x.fP.part,I J x.fP.count,iT x.fP.text] 114)):=by show _=_;rw[e4];exact(Pp _ _ _ _ _ bg.o).trans H3.o
         unfold pE at e4;rw[<-e4];clear e4 d H3;have N:ah ((Gq.set j u)[q]?=X u):=by show _=_;rw[lZ (by omega)];exact z.o
         have z0:A.cell? ⟨g,q*8,O⟩=X (I J u.block):=H.o.2.cell N.o 0 rfl;have a0:A.cell? ⟨hx,0,O⟩=X (I J x.block):=am _ _ 0 _ _ _ H4.o;have l0:=H.o.2.frozen (q*8);have z1:A.cell? ⟨g,q*8+1,O⟩=X (I J u.leaf):=H.o.2.cell N.o 1 rfl;have a1:A.cell? ⟨hx,1,O⟩=X (I J x.leaf):=am _ _ 1 _ _ _ H4.o;have l1:=H.o.2.frozen (q*8+1);have z2:A.cell? ⟨g,q*8+2,O⟩=X (I J u.fP.kind):=H.o.2.cell N.o 2 rfl;have a2:A.cell? ⟨hx,2,O⟩=X (I J x.fP.kind):=am _ _ 2 _ _ _ H4.o;have D:=H.o.2.frozen (q*8+2);have z3:A.cell? ⟨g,q*8+3,O⟩=X (I J u.fP.seq):=H.o.2.cell N.o 3 rfl;have a3:A.cell? ⟨hx,3,O⟩=X (I J x.fP.seq):=am _ _ 3 _ _ _ H4.o;have l3:=H.o.2.frozen (q*8+3);have z4:A.cell? ⟨g,q*8+4,O⟩=X (I J u.fP.tx):=H.o.2.cell N.o 4 rfl;have a4:A.cell? ⟨hx,4,O⟩=X (I J x.fP.tx):=am _ _ 4 _ _ _ H4.o;have l4:=H.o.2.frozen (q*8+4);have z5:A.cell? ⟨g,q*8+5,O⟩=X (I J u.fP.part):=H.o.2.cell N.o 5 rfl;have a5:A.cell? ⟨hx,5,O⟩=X (I J x.fP.part):=am _ _ 5 _ _ _ H4.o;have l5:=H.o.2.frozen (q*8+5);have z6:A.cell? ⟨g,q*8+6,O⟩=X (I J u.fP.count):=H.o.2.cell N.o 6 rfl;have a6:A.cell? ⟨hx,6,O⟩=X (I J x.fP.count):=am _ _ 6 _ _ _ H4.o;have l6:=H.o.2.frozen (q*8+6);have z7:A.cell? ⟨g,q*8+7,O⟩=X (iT u.fP.text):=H.o.2.cell N.o 7 rfl;have a7:A.cell? ⟨hx,7,O⟩=X (iT x.fP.text):=am _ _ 7 _ _ _ H4.o;have l7:=H.o.2.frozen (q*8+7);go_upto_region 17 with fail
         clear a0 l0 z0 a1 l1 z1 a2 D z2 a3 l3 z3 a4 l4 z4 a5 l5 z5 a6 l6 z6 a7 l7 z7;have S5:ah (oI wo (pE A g (q*8) x) g ((Gq.set j u).set q x)):=⟨H.o.1.trans (GS _ _ _ _),H.o.2.put (by rw[iy];exact(aD.1 z.o).1) x⟩
         unfold pE at S5;clear H H4;go_wp2;go_roundw
         case rel=>exact⟨q,_,U',u::V,by first|rfl|go_num,by omega,NL,NU,S5⟩
         case measure=>simp[intOf];omega
        ·have PO:=af (ae.o (λp aA=>by
          have hA:=AS.o;rw[<-k2]at hA;have h1:=hA.left;rcases br.1 aA with e|e
          ·have:=h1.across p e u (by simp);omega
          ·rw[bT]at e;subst e;omega))
         have bn:¬x.fP.seq<u.fP.seq:=hc;have bo:decide (u.fP.seq>x.fP.seq)=iF:=aV hc;clear hp hq eE ac ai k1 k2 k3 k4 HK ae aO NL hc;go_wp2;go_quiet (fail);go_wp2;go_roundw
         case rel=>exact⟨i+1,Gq,by go_num,by omega,by omega,HG,PO,aK.o _⟩
         case measure=>simp[intOf];omega
       ·have hU:U=[]:=by
         obtain⟨k1,k2,k3,k4⟩:=HK.o;exact lF (by omega)
        have PO:=af (ae.o (λp aA=>by rw[hU]at aA;cases aA))
        have bs:j=0:=by omega
        subst bs;clear ae HK hU;go_wp2;go_quiet (fail);go_wp2;go_roundw
        case rel=>exact⟨i+1,Gq,by go_num,by omega,by omega,HG,PO,K.o.below (bI (ax _ _) _)⟩
        case measure=>simp[intOf];omega
    ·obtain⟨S,T,Z,Q,e3,e4,e5⟩:=HJ.o;have hT:T=[]:=lF (by omega)
     subst hT;have PF:ah (∃M,Asc M/\Akin D0 M/\sM wx w.heap.size (Y (X ⟨g,0,O⟩) nl cap) M):=⟨S,Q,by simpa using e3,.inr ⟨g,cap,by simp at e5;rw[e5],bp,by have h1:=K.o.2;rw[Z]at h1;simpa using h1,by simp at e5;omega⟩⟩
     have B2:=af (B1.o.trans (cG.down (B:=w.heap.size) K.o.1 B1.o.size (λi hi=>by omega)))
     clear Z Q e3 e4 e5 HJ K B1;go_wp2;go_ret;obtain⟨M,m1,m2,m3⟩:=PF.o;rw[<-bj.o]at m2
     first|exact⟨_,rfl,M,m1,m2,m3,B2.o⟩|exact⟨_,rfl,⟨M,m1,m2,m3⟩,B2.o⟩|exact⟨_,M,rfl,m1,m2,m3,B2.o⟩
end Go.Proofs.YtijmbohadndfmaaGreatDoor
