/-
  SPageOk; SSeal; SByte; SPText; SRPage; PAt; SRow; IScan; Swap; Rotate; Cmp
-/
import Derived.Test.YtgigcooffjjbgaaGreatDoorPk10
open Go.Value renaming int→I,slice→Y,string→iT,bool→iB,agg→iA,tuple→iU
open Go.IntKind renaming i64→J
open Option renaming none→O,some→X
open Go.Ending renaming returned→G
open Go.Obj renaming cells→iC
open Bool renaming true→iV,false→iF
open Go renaming World→iW,Value→iX,Calls→iK
open Go.RowKit renaming Below→iL
set_option maxHeartbeats 4000000
set_option maxRecDepth 100000
namespace Go.Proofs.YtgigcooffjjbgaaGreatDoor
open Go.RowKit Words
theorem Oi(k s x q c:Int)(t:ByteArray):(Pg.mk k s x q c t).Right↔(1<=k/\k<=2)/\(1<=s/\s<=1000000000)/\(1<=x/\x<=1000000000)/\(1<=c/\c<=9)/\(0<=q/\q<=c-1)/\(t.size:Int)<=90/\(k=2∨c=1):=by
 unfold Pg.Right;simp only;omega
theorem MZ(w g:iW)(a b c d e f:iX)(h:TypeId)(i:iL (w.alloc (iC #[a,b,c,d,e,f] h)).heap.size (w.alloc (iC #[a,b,c,d,e,f] h)) g):
 g.cell? ⟨w.heap.size,0,O⟩=X a/\g.cell? ⟨w.heap.size,1,O⟩=X b/\g.cell? ⟨w.heap.size,2,O⟩=X c/\g.cell? ⟨w.heap.size,3,O⟩=X d/\g.cell? ⟨w.heap.size,4,O⟩=X e/\g.cell? ⟨w.heap.size,5,O⟩=X f:=by
 refine⟨?_,?_,?_,?_,?_,?_⟩<;>(rw[i.cell (by simp)];simp)
theorem GO(p:Pg)(w:iW):
 iK Tryz.prog 69 #[dC p] w λe w'=>e=G (iB (@decide p.Right p.decR))/\iL w.heap.size w w':=by
 obtain⟨k,s,x,q,c,t⟩:=p;have f:=af (Oi k s x q c t);have d:=af ((az w.heap.size w).alloc (am _) (iC #[I J k,I J s,I J x,I J q,I J c,iT t] 44));unfold dC;simp only;have a:¬(1<=k/\k<=2)∨(1<=k/\k<=2)/\(¬(1<=s/\s<=1000000000)∨(1<=s/\s<=1000000000)/\(¬(1<=x/\x<=1000000000)∨(1<=x/\x<=1000000000)/\(¬(1<=c/\c<=9)∨(1<=c/\c<=9)/\(¬(0<=q/\q<=c-1)∨(0<=q/\q<=c-1)/\(90<(t.size:Int)∨¬90<(t.size:Int)/\((k==2)=iV∨(k==2)=iF)))))):=by
  simp only[jg,du,ne_eq];omega
 rcases a with g|⟨g,h|⟨h,i|⟨i,j|⟨j,l|⟨l,m|⟨m,n|n⟩⟩⟩⟩⟩⟩
 all_goals
  try have r:IntKind.i64.wrap (c-1)=c-1:=by rw[cm];omega
  go_enter Tryz.func69,Tryz.ntmps69
  repeat
   go_wp2_with fail
   first
    |refine(gO _ _ _ iV _ (.inl ⟨by omega,by omega,rfl⟩)).mono ?_
    |refine(gO _ _ _ iF _ (.inr ⟨by omega,rfl⟩)).mono ?_
   rintro e u ⟨rfl,rfl⟩
  go_wp2;go_ret;refine⟨congrArg (λb=>Ending.returned (iB b)) (xN.2 (Iff.trans ?_ (Iff.symm (Iff.trans (@decide_eq_true_iff _ (Pg.decR _)) f.o)))),d.o⟩
  clear f d
  (try simp only[jg,du,ne_eq,eS,eq_self,false_iff,true_iff]at*)
  omega
open Sums
theorem LM(t:ByteArray)(w:iW)(d:t.size<=20000):
 iK Tryz.prog 70 #[iT t] w λe w'=>e=G (iU #[iT (cS t),iB iV])/\iL w.heap.size w w':=by
 have g:¬(20000:Int)<t.size:=by omega
 go_enter Tryz.func70,Tryz.ntmps70;go_wp2_with fail;refine(zD t _ (by unfold maxLen;omega)).mono ?_
 rintro e h ⟨rfl,rfl⟩;have b:=wZ t.data.toList;have E:ah (cS t=t++⟨(eX (kJ t.data.toList)).toArray⟩):=rfl;have a:=vr (kJ t.data.toList);generalize kJ t.data.toList=x at b E a;go_wp2_with fail;refine(zB x _ b).mono ?_;rintro e i ⟨rfl,c⟩;generalize eX x=f at E a;go_wp2;go_ret2;exact⟨by rw[E.o];rfl,c⟩
theorem oQ{x:Int}(h:0<=x):∃n:Nat,x=n/\x.toNat=n:=⟨x.toNat,by omega,rfl⟩
theorem Gh(n:Nat)(d:n<256)(w:iW):
 iK Tryz.prog 71 #[I J n] w λe w'=>e=G (iT (nG n))/\iL w.heap.size w w':=by
 have a:=rB (P:=Tryz.prog) (w.alloc (iC #[I .u8 n] 5)) 22 9 5 ⟨w.heap.size,0,O⟩ 1 [UInt8.ofNat n] Tryz.underlying22 Tryz.underlying5 Tryz.underlying9 (λj b=>by
  match j,b with
  |0,_=>simp[Addr.add];omega)
 rw[show[UInt8.ofNat n].length=1 from rfl]at a;have E:ah (nG n=ByteArray.mk [UInt8.ofNat n].toArray):=rfl;generalize ByteArray.mk [UInt8.ofNat n].toArray=r at a E;have c:IntKind.u8.wrap (n:Int)=n:=by rw[IntKind.wrap_u8];omega
 go_enter Tryz.func71,Tryz.ntmps71;go_wp2;go_ret;exact⟨by rw[E.o];rfl,bh⟩
def qb(p:Pg):iX:=letI:=p.decR;if p.Right then iU #[iT (cS (dT p)),iB iV]else iU #[iT ⟨#[]⟩,iB iF]
def nE(w a:iW)(k s x q c:Int)(t:ByteArray):Prop:=iL w.heap.size w a/\w.heap.size<a.heap.size/\
 (a.cell? ⟨w.heap.size,0,O⟩=X (I J k)/\a.cell? ⟨w.heap.size,1,O⟩=X (I J s)/\a.cell? ⟨w.heap.size,2,O⟩=X (I J x)/\a.cell? ⟨w.heap.size,3,O⟩=X (I J q)/\a.cell? ⟨w.heap.size,4,O⟩=X (I J c)/\a.cell? ⟨w.heap.size,5,O⟩=X (iT t))
variable{bad bad':Bool}{t:ByteArray}{c i':Int}{g gp gr k B i q:Nat}
theorem nE.next{w a b:iW}{k s x q:Int}(h:nE w a k s x q c t)(d:iL a.heap.size a b):nE w b k s x q c t:=
 ⟨h.1.trans (d.mono h.1.size),fE h.2.1 d.size,by rw[d.cell h.2.1,d.cell h.2.1,d.cell h.2.1,d.cell h.2.1,d.cell h.2.1,d.cell h.2.1];exact h.2.2⟩
theorem nE.drew{w a:iW}{k s x q:Int}(h:nE w a k s x q c t):nE w a.drew k s x q c t:=⟨h.1.drew,h.2.1,h.2.2⟩
theorem JG(p:Pg)(w:iW):
 iK Tryz.prog 38 #[dC p] w λe w'=>e=G (qb p)/\iL w.heap.size w w':=by
 have i:=af ((az w.heap.size w).alloc (am _) (iC #[I J p.kind,I J p.seq,I J p.tx,I J p.part,I J p.count,iT p.text] 44));by_cases h:p.Right
 ·have l:ah (qb p=iU #[iT (cS (dT p)),iB iV]):=ak h;have hz:=KV p h;have m:=af (GO p);have A:=h;obtain⟨r1,r2,r3,r4,r5,r6⟩:=A;have a:ah (dT p=((((nG p.kind.toNat++fh p.seq.toNat)++fh p.tx.toNat)++fh p.part.toNat)++fh p.count.toNat)++p.text):=rfl;have n:=rl (d:=p.decR) h;obtain⟨k,s,x,q,c,t⟩:=p;unfold dC at*;simp only at*;obtain⟨k,rfl,U⟩:=oQ (show 0<=k by omega)
  obtain⟨s,rfl,W⟩:=oQ (show 0<=s by omega)
  obtain⟨x,rfl,Y⟩:=oQ (show 0<=x by omega)
  obtain⟨q,rfl,V⟩:=oQ (show 0<=q by omega)
  obtain⟨c,rfl,T⟩:=oQ (show 0<=c by omega)
  rw[U,W,Y,V,T]at a;clear U W Y V T;obtain⟨P,B⟩:∃b,b=nG k:=⟨_,rfl⟩;obtain⟨v1,K⟩:∃b,b=fh s:=⟨_,rfl⟩;obtain⟨v2,L⟩:∃b,b=fh x:=⟨_,rfl⟩;obtain⟨v3,M⟩:∃b,b=fh q:=⟨_,rfl⟩;obtain⟨v4,N⟩:∃b,b=fh c:=⟨_,rfl⟩;have C:=af (λw=>Gh k (by omega) w)
  have r:=af (λw=>qy s w (by omega))
  have v:=af (λw=>qy x w (by omega))
  have y:=af (λw=>qy q w (by omega))
  have z:=af (λw=>qy c w (by omega))
  change ah (∀w,iK Tryz.prog 72 #[I J s] w λe w'=>e=G (iT (fh s))/\iL w.heap.size w w')at r
  change ah (∀w,iK Tryz.prog 72 #[I J x] w λe w'=>e=G (iT (fh x))/\iL w.heap.size w w')at v
  change ah (∀w,iK Tryz.prog 72 #[I J q] w λe w'=>e=G (iT (fh q))/\iL w.heap.size w w')at y
  change ah (∀w,iK Tryz.prog 72 #[I J c] w λe w'=>e=G (iT (fh c))/\iL w.heap.size w w')at z
  rw[<-B]at C a;rw[<-K]at r a;rw[<-L]at v a;rw[<-M]at y a;rw[<-N]at z a;clear B K L M N;obtain⟨Z,j⟩:∃b,b=dT ⟨k,s,x,q,c,t⟩:=⟨_,rfl⟩;rw[<-j]at hz a l;clear j h r1 r2 r3 r4 r5 r6;obtain⟨u1,D⟩:∃u,P++v1=u:=⟨_,rfl⟩;rw[D]at a;obtain⟨u2,E⟩:∃u,u1++v2=u:=⟨_,rfl⟩;rw[E]at a;obtain⟨u3,F⟩:∃u,u2++v3=u:=⟨_,rfl⟩;rw[F]at a;obtain⟨u4,H⟩:∃u,u3++v4=u:=⟨_,rfl⟩;rw[H]at a;have U5:u4++t=Z:=a.o.symm;have z1:=congrArg ByteArray.size D;have z2:=congrArg ByteArray.size E;have z3:=congrArg ByteArray.size F;have z4:=congrArg ByteArray.size H;have z5:=congrArg ByteArray.size U5;rw[ve]at z1 z2 z3 z4 z5;have Y1:ah (¬(9223372036854775807<P.size+v1.size)):=by show¬_;omega
  have Y2:ah (¬(9223372036854775807<u1.size+v2.size)):=by show¬_;omega
  have Y3:ah (¬(9223372036854775807<u2.size+v3.size)):=by show¬_;omega
  have Y4:ah (¬(9223372036854775807<u3.size+v4.size)):=by show¬_;omega
  have Y5:ah (¬(9223372036854775807<u4.size+t.size)):=by show¬_;omega
  clear z1 z2 z3 z4 z5 a;go_enter Tryz.func38,Tryz.ntmps38;go_wp2_with fail;refine(m.o _).mono ?_;rintro e w1 ⟨rfl,f⟩;rw[n];obtain⟨c0,c1,c2,c3,c4,c5⟩:=MZ _ _ _ _ _ _ _ _ _ f;have g:ah (nE w w1 k s x q c t):=⟨i.o.trans (f.mono i.o.size),fE (by simp) f.size,c0,c1,c2,c3,c4,c5⟩
  clear f i n m;go_wp2_with fail;have y1:=Y1.o;have y2:=Y2.o;have y3:=Y3.o;have y4:=Y4.o;have y5:=Y5.o;go_region_held3 (λw'=>w'.cell? ⟨w.heap.size,0,O⟩=X (I J k)/\w'.cell? ⟨w.heap.size,1,O⟩=X (I J s)/\w'.cell? ⟨w.heap.size,2,O⟩=X (I J x)/\w'.cell? ⟨w.heap.size,3,O⟩=X (I J q)/\w'.cell? ⟨w.heap.size,4,O⟩=X (I J c)/\w'.cell? ⟨w.heap.size,5,O⟩=X (iT t)) (first|go_keep|exact g.o.2.2|exact g.o.drew.2.2) (first
   |(go_at_call 71;with_reducible refine cj (C.o _) ?_;rintro e w2 ⟨rfl,Q⟩;have g:=af (nE.next (by first|exact g.o|exact g.o.drew) Q);clear Q)
   |(go_at_call 72;(with_reducible first|refine cj (r.o _) ?_|refine cj (v.o _) ?_|refine cj (y.o _) ?_|refine cj (z.o _) ?_);rintro e w3 ⟨rfl,R⟩;have g:=af (nE.next (by first|exact g.o|exact g.o.drew) R);clear R)
   |(go_at_call 70;refine cj (LM Z _ (by omega)) ?_;rintro e w4 ⟨rfl,S⟩;have g:=af (nE.next (by first|exact g.o|exact g.o.drew) S);clear S))
  all_goals
   go_wp2;go_ret2;exact⟨by rw[l.o];rfl,g.o.1⟩
 ·have l:ah (qb p=iU #[iT ⟨#[]⟩,iB iF]):=aj h;have m:=af (GO p);have n:=kh (d:=p.decR) h;obtain⟨k,s,x,q,c,t⟩:=p;unfold dC at*;simp only at*;clear h;go_enter Tryz.func38,Tryz.ntmps38;go_wp2_with fail;refine(m.o _).mono ?_;rintro e w1 ⟨rfl,f⟩;rw[n];go_wp2;go_ret2;exact⟨by rw[l.o];rfl,i.o.trans (f.mono i.o.size)⟩
def CS(w W:iW)(g gr gp:Nat)(s:ByteArray)(i:Int)(bad:Bool)(cs:Array iX):Prop:=
 iL w.heap.size w W/\dD W g s i bad/\w.heap.size<=gr/\gr<g/\g<gp/\W.heap[gr]?=X (iC #[I J 0,I J 0,I J 0,I J 0,I J 0,iT ⟨#[]⟩] 44 (0,0))/\W.heap[gp]?=X (iC cs 44 (0,0))
theorem CS.moved{w W a:iW}{s d:ByteArray}{i:Int}{cs:Array iX}(h:CS w W g gr gp s i bad cs)(m:lW W a g d i' bad'):CS w a g gr gp d i' bad' cs:=by
 obtain⟨h1,e,f,h4,j,b,c⟩:=h;have k:=(aL.1 b).1;have l:=(aL.1 c).1;have n:=e.1;exact⟨h1.trans (be.down (B:=w.heap.size) m.1 h1.size (λi hi=>by omega)),m.2,f,h4,j,(m.1.2.2.2.2 gr k (by omega)).trans b,(m.1.2.2.2.2 gp l (by omega)).trans c⟩
theorem CS.below{w W a:iW}{s:ByteArray}{i:Int}{cs:Array iX}(h:CS w W g gr gp s i bad cs)(b:iL W.heap.size W a):CS w a g gr gp s i bad cs:=
 h.moved ⟨be.below b,h.2.1.below b⟩
theorem dD.far{w:iW}{p:Nat}{i:Int}{v:iX}(h:dD w g t i bad)(f:p≠g):dD (w.setCell ⟨p,k,O⟩ v) g t i bad:=by
 obtain⟨h1,a,b,h4,c,d⟩:=h;have e:∀j,(w.setCell ⟨p,k,O⟩ v).cell? ⟨g,j,O⟩=w.cell? ⟨g,j,O⟩:=λj=>iQ _ _ _ _ (λe=>f (by injection e))
 exact⟨by simpa using h1,by rw[e];exact a,by rw[e];exact b,by rw[e];exact h4,by simpa using c,by simpa using d⟩
theorem CS.set{w W:iW}{s:ByteArray}{i:Int}{cs:Array iX}(h:CS w W g gr gp s i bad cs)(k:Nat)(v:iX):CS w (W.setCell ⟨gp,k,O⟩ v) g gr gp s i bad (cs.setIfInBounds k v):=by
 obtain⟨h1,a,b,h4,c,d,e⟩:=h;exact⟨h1.setCell (by simp;omega) _,a.far (by omega),b,h4,c,(aS _ _ _ _ (by simp;omega)).trans d,bw _ _ _ _ _ _ e⟩
theorem CS.at_{w W:iW}{s:ByteArray}{i:Int}{cs:Array iX}(h:CS w W g gr gp s i bad cs)(k:Nat)(v:iX)(a:cs[k]?=X v):W.cell? ⟨gp,k,O⟩=X v/\W.frozen? ⟨gp,k,O⟩=iF:=
 ⟨ai _ _ k _ _ _ h.2.2.2.2.2.2▸a,aF _ _ k _ _ h.2.2.2.2.2.2⟩
theorem Km{w:iW}{t:TypeId}{i j k l m n a b c d e f:iX}(h:w.heap[g]?=X (iC #[i,j,k,l,m,n] t (0,0))):
 ((((((w.setCell ⟨g,0,O⟩ a).setCell ⟨g,1,O⟩ b).setCell ⟨g,2,O⟩ c).setCell ⟨g,3,O⟩ d).setCell ⟨g,4,O⟩ e).setCell ⟨g,5,O⟩ f).heap[g]?=X (iC #[a,b,c,d,e,f] t (0,0)):=
 bw _ _ 5 _ _ _ (bw _ _ 4 _ _ _ (bw _ _ 3 _ _ _ (bw _ _ 2 _ _ _ (bw _ _ 1 _ _ _ (bw _ _ 0 _ _ _ h)))))
theorem xH{w W:iW}{p:Nat}{a b c d e f:iX}(h:iL B w W)(g:B<=p):
 iL B w ((((((W.setCell ⟨p,0,O⟩ a).setCell ⟨p,1,O⟩ b).setCell ⟨p,2,O⟩ c).setCell ⟨p,3,O⟩ d).setCell ⟨p,4,O⟩ e).setCell ⟨p,5,O⟩ f):=
 (((((h.setCell g _).setCell g _).setCell g _).setCell g _).setCell g _).setCell g _
theorem tA{w:iW}{t:TypeId}{a b c d e f:iX}(h:w.heap[g]?=X (iC #[a,b,c,d,e,f] t (0,0))):
 w.cell? ⟨g,0,O⟩=X a/\w.frozen? ⟨g,0,O⟩=iF/\w.cell? ⟨g,1,O⟩=X b/\w.frozen? ⟨g,1,O⟩=iF/\w.cell? ⟨g,2,O⟩=X c/\w.frozen? ⟨g,2,O⟩=iF/\w.cell? ⟨g,3,O⟩=X d/\w.frozen? ⟨g,3,O⟩=iF/\w.cell? ⟨g,4,O⟩=X e/\w.frozen? ⟨g,4,O⟩=iF/\w.cell? ⟨g,5,O⟩=X f/\w.frozen? ⟨g,5,O⟩=iF:=
 ⟨ai _ _ 0 _ _ _ h,aF _ _ 0 _ _ h,ai _ _ 1 _ _ _ h,aF _ _ 1 _ _ h,ai _ _ 2 _ _ _ h,aF _ _ 2 _ _ h,ai _ _ 3 _ _ _ h,aF _ _ 3 _ _ h,ai _ _ 4 _ _ _ h,aF _ _ 4 _ _ h,ai _ _ 5 _ _ _ h,aF _ _ 5 _ _ h⟩
theorem LR{c:iW}{s:ByteArray}{b:Bool}:dD (c.alloc (iC #[iT s,I J 1,iB b] 87)) c.heap.size s (1:Nat) b:=by
 have a:=aC c (iC #[iT s,I J 1,iB b] 87);exact⟨by simp,ai _ _ 0 _ _ _ a,ai _ _ 1 _ _ _ a,ai _ _ 2 _ _ _ a,aF _ _ 1 _ _ a,aF _ _ 2 _ _ a⟩
theorem uV (t s:ByteArray) (w:iW) (hm:t.size<=maxLen) (ok E A:Bool) (hr:uE (jx t)=iU #[iT s,iB ok]) (hs:s.size<=20000) (h0:ok=iF/\E=iV/\A=iV∨ok=iV/\(s.size:Int)<1/\E=iV/\A=iV∨ok=iV/\¬(s.size:Int)<1/\E=iF) (L M N n k l m p:Nat) (F H K:Bool) (e1:gC s.data.toList 1 E=(k,L,F)) (e2:gC s.data.toList L F=(l,M,H)) (e3:gC s.data.toList M H=(m,N,K)) (e4:gC s.data.toList N K=(p,n,A)) (R:Option Pg) (hA:A=iV->R=O)
 (hB:A=iF->∃(b:UInt8) (q:Bool),s.data.toList[0]?=X b/\n<=s.size/\qb (Pg.mk b.toNat k l m p (s.extract n s.size))=iU #[iT (if q then t else⟨#[]⟩),iB q]/\R=if q then X (Pg.mk b.toNat k l m p (s.extract n s.size))else O):
 iK Tryz.prog 13 #[iT t] w λe w'=>e=G (lH R)/\iL w.heap.size w w':=by
 have B0:=af ((az w.heap.size w).alloc (am _) (iC #[I J 0,I J 0,I J 0,I J 0,I J 0,iT ⟨#[]⟩] 44));have C:=af (Zx t hm (w.alloc (iC #[I J 0,I J 0,I J 0,I J 0,I J 0,iT ⟨#[]⟩] 44)));rw[hr]at C;have Z0:=af (aC w (iC #[I J 0,I J 0,I J 0,I J 0,I J 0,iT ⟨#[]⟩] 44));have V1:=af (λW g (h:dD W g s (1:Nat) E)=>rV s 1 E g W (by omega) h k L F e1)
 have V2:=af (λW g (h:dD W g s (L:Nat) F)=>rV s L F g W (by omega) h l M H e2)
 have V3:=af (λW g (h:dD W g s (M:Nat) H)=>rV s M H g W (by omega) h m N K e3)
 have V4:=af (λW g (h:dD W g s (N:Nat) K)=>rV s N K g W (by omega) h p n A e4)
 have V:=af hA;have HB:=af hB;clear e1 e2 e3 e4 hr hA hB;rcases h0 with⟨rfl,rfl,rfl⟩|⟨rfl,hz,rfl,rfl⟩|⟨rfl,hz,rfl⟩
 all_goals
  try have ac:=bf hz
  go_enter Tryz.func13,Tryz.ntmps13;go_wp2_with fail;refine C.o.mono ?_;rintro e r ⟨rfl,b1⟩;have D:w.heap.size<r.heap.size:=fE (by simp) b1.size
  have BX:=af (λo=>(B0.o.trans (b1.mono (by simp))).trans (((az r.heap.size r).alloc (am _) o).mono (Nat.le_of_lt D)))
  have ZX:=af (λo=>(((az r.heap.size r).alloc (am _) o).block w.heap.size D).trans ((b1.block w.heap.size (by simp)).trans Z0.o))
  clear b1 B0 Z0 C;go_wp2_with fail;refine(V1.o _ _ LR).mono ?_;rintro e y ⟨rfl,m2⟩;have aa:r.heap.size<y.heap.size:=fE (by simp) m2.1.2.2.2.1
  have j:ah (CS w (y.alloc (iC #[I J 0,I J k,I J 0,I J 0,I J 0,iT ⟨#[]⟩] 44)) r.heap.size w.heap.size y.heap.size s L F #[I J 0,I J k,I J 0,I J 0,I J 0,iT ⟨#[]⟩]):=by
   have ba:=(az y.heap.size y).alloc (am _) (iC #[I J 0,I J k,I J 0,I J 0,I J 0,iT ⟨#[]⟩] 44);have bz:iL w.heap.size w y:=(BX.o _).trans (be.down (B:=w.heap.size) m2.1 (BX.o _).size (λi hi=>by omega))
   exact⟨bz.trans (ba.mono bz.size),m2.2.below ba,am _,D,aa,(ba.block _ (by omega)).trans ((m2.1.2.2.2.2 _ (by simp;omega) (by omega)).trans (ZX.o _)),aC _ _⟩
  clear m2 BX ZX V1;go_wp2_with fail;refine(V2.o _ _ j.o.2.1).mono ?_;rintro e w3 ⟨rfl,m2⟩;have x:=af (j.o.moved m2);clear m2 j V2;obtain⟨x2,y2⟩:=x.o.at_ 2 _ rfl;have j:=af (x.o.set 2 (I J l));change ah (CS w _ r.heap.size w.heap.size y.heap.size s M H #[I J 0,I J k,I J l,I J 0,I J 0,iT ⟨#[]⟩])at j;clear x;go_wp2_with fail;refine(V3.o _ _ j.o.2.1).mono ?_;rintro e w4 ⟨rfl,m2⟩;have x:=af (j.o.moved m2);clear m2 j V3;obtain⟨x3,y3⟩:=x.o.at_ 3 _ rfl;have j:=af (x.o.set 3 (I J m));change ah (CS w _ r.heap.size w.heap.size y.heap.size s N K #[I J 0,I J k,I J l,I J m,I J 0,iT ⟨#[]⟩])at j;clear x;go_wp2_with fail;refine(V4.o _ _ j.o.2.1).mono ?_;rintro e w5 ⟨rfl,m2⟩;have x:=af (j.o.moved m2);clear m2 j V4;obtain⟨x4,y4⟩:=x.o.at_ 4 _ rfl;have j:=af (x.o.set 4 (I J p));change ah (CS w _ r.heap.size w.heap.size y.heap.size s n _ #[I J 0,I J k,I J l,I J m,I J p,iT ⟨#[]⟩])at j;clear x;obtain⟨-,-,-,q2,-,-⟩:=j.o.2.1
 rotate_left 2
 cases A
 case' false=>
  obtain⟨b,q,hb,hj,ep,hR⟩:=HB.o rfl;obtain⟨hi,U⟩:=aB.1 hb;have k1:(0:Int)<s.size:=by have hi':0<s.size:=hi;omega
  have hc:s[0].toNat=b.toNat:=by rw[<-U];rfl
  have ab:b.toNat<256:=b.toNat_lt;have s1:∀W,(Instr.slice 9 (iT s) (X (I J (n:Int))) O O).run Tryz.prog W=.ok (iT (s.extract n s.size)) W:=λW=>by
   rw[A7 W 9 s Tryz.underlying9 J _ (by omega) (by omega)]
   simp
  have P:=af (λW=>JG (Pg.mk b.toNat k l m p (s.extract n s.size)) W)
  rw[ep]at P;clear ep hb U V HB;unfold dC at P;simp only at P;generalize s.extract n s.size=u at*;generalize b.toNat=z at*;have Q:=af hR;clear hR;have ec:IntKind.i64.wrap (z:Int)=z:=by rw[cm];omega
  obtain⟨x0,y0⟩:=j.o.at_ 0 _ rfl;have S:=af (j.o.set 0 (I J z));change ah (CS w _ r.heap.size w.heap.size y.heap.size s n iF #[I J z,I J k,I J l,I J m,I J p,iT ⟨#[]⟩])at S;clear j;obtain⟨-,-,q1,-,-,-⟩:=S.o.2.1;obtain⟨x5,y5⟩:=S.o.at_ 5 _ rfl;have Y:=af (S.o.set 5 (iT u));change ah (CS w _ r.heap.size w.heap.size y.heap.size s n iF #[I J z,I J k,I J l,I J m,I J p,iT u])at Y;clear S;obtain⟨z0,-,z1,-,z2,-,z3,-,z4,-,z5,-⟩:=tA Y.o.2.2.2.2.2.2;go_wp2_with fail;refine(P.o _).mono ?_;rintro e w8 ⟨rfl,b8⟩;have j:=af (Y.o.below b8);clear Y b8 P;cases q
 case' true=>
  obtain⟨t0,-,t1,-,t2,-,t3,-,t4,-,t5,-⟩:=tA j.o.2.2.2.2.2.2;have Z:=j.o.2.2.2.2.2.1;obtain⟨c0,f0,c1,f1,c2,f2,c3,f3,c4,f4,c5,f5⟩:=tA Z;have T:=Km (a:=I J z) (b:=I J k) (c:=I J l) (d:=I J m) (e:=I J p) (f:=iT u) Z;have B6:=af (xH (a:=I J z) (b:=I J k) (c:=I J l) (d:=I J m) (e:=I J p) (f:=iT u) j.o.1 (am _));obtain⟨r0,-,r1,-,r2,-,r3,-,r4,-,r5,-⟩:=tA T;clear Z T;go_wp2;exact aE (v:=iU #[iA #[I J z,I J k,I J l,I J m,I J p,iT u],iB iV]) (by simp[results,Tryz.results13,go_sem,r0,r1,r2,r3,r4,r5]) rfl ⟨by rw[Q.o];rfl,B6.o⟩
 all_goals
  first|have Q:ah (R=O):=V.o rfl|have Q:ah (R=O):=V.o trivial|have Q:ah (R=O):=V|skip
  have Z:=j.o.2.2.2.2.2.1;obtain⟨c0,f0,c1,f1,c2,f2,c3,f3,c4,f4,c5,f5⟩:=tA Z;have T:=Km (a:=I J 0) (b:=I J 0) (c:=I J 0) (d:=I J 0) (e:=I J 0) (f:=iT ⟨#[]⟩) Z;have B6:=af (xH (a:=I J 0) (b:=I J 0) (c:=I J 0) (d:=I J 0) (e:=I J 0) (f:=iT ⟨#[]⟩) j.o.1 (am _));obtain⟨r0,-,r1,-,r2,-,r3,-,r4,-,r5,-⟩:=tA T;clear Z T;go_wp2;exact aE (v:=iU #[iA #[I J 0,I J 0,I J 0,I J 0,I J 0,iT ⟨#[]⟩],iB iF]) (by simp[results,Tryz.results13,go_sem,r0,r1,r2,r3,r4,r5]) rfl ⟨by rw[Q.o];rfl,B6.o⟩
theorem aal(t:ByteArray)(w:iW)(p:t.size<=maxLen):
 iK Tryz.prog 13 #[iT t] w λe w'=>e=G (lH (dx t))/\iL w.heap.size w w':=by
 unfold dx;cases k:jx t with
 |none=>exact uV t ⟨#[]⟩ w p iF iV iV (by rw[k];rfl) (by simp[ByteArray.size]) (.inl ⟨rfl,rfl,rfl⟩) 1 1 1 1 0 0 0 0 iV iV iV rfl rfl rfl rfl O (λ_=>rfl) (λh=>nomatch h)
 |some s=>
  simp only;have hs:=(xx k).2;by_cases y:(s.size:Int)<1
  ·have Q:s.data.toList[0]?=O:=zI.2 (show s.size<=0 by omega)
   unfold kE;rw[Q];exact uV t s w p iV iV iV (by rw[k];rfl) hs (.inr (.inl ⟨rfl,y,rfl,rfl⟩)) 1 1 1 1 0 0 0 0 iV iV iV rfl rfl rfl rfl O (λ_=>rfl) (λh=>nomatch h)
  ·obtain⟨b,o⟩:∃b,s.data.toList[0]?=X b:=by
    have P:0<s.data.toList.length:=show 0<s.size by omega
    exact⟨s.data.toList[0],ay P⟩
   obtain⟨⟨D,z,l⟩,a⟩:∃x,gC s.data.toList 1 iF=x:=⟨_,rfl⟩;obtain⟨⟨E,A,u⟩,d⟩:∃x,gC s.data.toList z l=x:=⟨_,rfl⟩;obtain⟨⟨F,B,I⟩,i⟩:∃x,gC s.data.toList A u=x:=⟨_,rfl⟩;obtain⟨⟨H,C,N⟩,m⟩:∃x,gC s.data.toList B I=x:=⟨_,rfl⟩;cases N with
   |true=>
    have L:kE s=O:=by
     unfold kE;rw[o];simp only;rcases kz m with r|r
     ·subst r;rcases kz i with r|r
      ·subst r;rcases kz d with r|r
       ·subst r;rcases kz a with r|r
        ·cases r
        ·rw[r]
       ·cases l with
        |true=>
         rcases kz a with f|f
         ·cases f
         ·rw[f]
        |false=>
         rw[(js a).2];simp only;rw[r]
      ·cases u with
       |true=>
        rcases kz d with f|f
        ·subst f;rcases kz a with c|c
         ·cases c
         ·rw[c]
        ·cases l with
         |true=>
          rcases kz a with c|c
          ·cases c
          ·rw[c]
         |false=>
          rw[(js a).2];simp only;rw[f]
       |false=>
        obtain⟨rfl,g⟩:=js d;rw[(js a).2];simp only;rw[g];simp only;rw[r]
     ·cases I with
      |true=>
       rcases kz i with f|f
       ·subst f;rcases kz d with q|q
        ·subst q;rcases kz a with q'|q'
         ·cases q'
         ·rw[q']
        ·cases l with
         |true=>
          rcases kz a with q'|q'
          ·cases q'
          ·rw[q']
         |false=>
          rw[(js a).2];simp only;rw[q]
       ·cases u with
        |true=>
         rcases kz d with q|q
         ·subst q;rcases kz a with q'|q'
          ·cases q'
          ·rw[q']
         ·cases l with
          |true=>
           rcases kz a with q'|q'
           ·cases q'
           ·rw[q']
          |false=>
           rw[(js a).2];simp only;rw[q]
        |false=>
         obtain⟨rfl,g⟩:=js d;rw[(js a).2];simp only;rw[g];simp only;rw[f]
      |false=>
       obtain⟨rfl,n⟩:=js i;obtain⟨rfl,g⟩:=js d;rw[(js a).2];simp only;rw[g];simp only;rw[n];simp only;rw[r]
    rw[L];exact uV t s w p iV iF iV (by rw[k];rfl) hs (.inr (.inr ⟨rfl,y,rfl⟩)) z A B C D E F H l u I a d i m O (λ_=>rfl) (λh=>nomatch h)
   |false=>
    obtain⟨rfl,K⟩:=js m;obtain⟨rfl,n⟩:=js i;obtain⟨rfl,g⟩:=js d;obtain⟨-,J⟩:=js a;have R:=(nP _ _ _ _ (show 1<=s.size by omega) J).1
    have S:=(nP _ _ _ _ R g).1;have T:=(nP _ _ _ _ S n).1;have M:=(nP _ _ _ _ T K).1;have j:=Gr o J g n K;unfold kE;rw[o];simp only;rw[J];simp only;rw[g];simp only;rw[n];simp only;rw[K];simp only;by_cases v:(Pg.mk b.toNat D E F H (s.extract C s.size)).Right
    ·rw[ak v];exact uV t s w p iV iF iF (by rw[k];rfl) hs (.inr (.inr ⟨rfl,y,rfl⟩)) z A B C D E F H _ _ _ a d i m (X _) (λh=>nomatch h) (λ_=>⟨b,iV,o,M,by unfold qb;rw[ak v,j,(xx k).1];rfl,rfl⟩)
    ·rw[aj v];exact uV t s w p iV iF iF (by rw[k];rfl) hs (.inr (.inr ⟨rfl,y,rfl⟩)) z A B C D E F H _ _ _ a d i m O (λh=>nomatch h) (λ_=>⟨b,iF,o,M,by unfold qb;rw[aj v];rfl,rfl⟩)
theorem Fg{rs:List Rw}(h:mJ rs)(b k:Int):(dl (rs.map aw) b k).1.size<=1048576:=by
 unfold dl;split
 ·decide
 ·rename_i r hr
  split
  ·decide
  ·rename_i t ht
   split
   ·obtain⟨s,hs,e⟩:=bJ.1 (aO hr);subst e;exact h s hs t (aO ht)
   ·decide
theorem MI(v:iX)(rs:List Rw)(b k:Int)(w:iW)(hl:rs.length<=1048576)(M:∀r∈rs,r.2.2.2.length<=1048576)(A:mJ rs)(L:dX w v rs)(O:eC w):
 iK Tryz.prog 61 #[iA #[v],I J b,I J k] w λe w'=>e=G (lH (dJ (rs.map aw) b k))/\iL w.heap.size w w':=by
 have E:iL w.heap.size w ((w.alloc (iC #[v] 26)).alloc (iC #[I J 0,I J 0,I J 0,I J 0,I J 0,iT ⟨#[]⟩] 44)):=(bh).alloc (by simp) _
 have C:=af (Vj v rs b k ((w.alloc (iC #[v] 26)).alloc (iC #[I J 0,I J 0,I J 0,I J 0,I J 0,iT ⟨#[]⟩] 44)) hl M A (L.below E));have z:=Fg A b k;obtain⟨T,ok,y⟩:∃T ok,dl (rs.map aw) b k=(T,ok):=⟨_,_,rfl⟩;rw[y]at C z;simp only at C z;have h0:=aC (w.alloc (iC #[v] 26)) (iC #[I J 0,I J 0,I J 0,I J 0,I J 0,iT ⟨#[]⟩] 44);rw[show(w.alloc (iC #[v] 26)).heap.size=w.heap.size+1 by simp]at h0
 have D:=af h0;have HT:=af O;have l:=af E;have P:((w.alloc (iC #[v] 26)).alloc (iC #[I J 0,I J 0,I J 0,I J 0,I J 0,iT ⟨#[]⟩] 44)).heap.size=w.heap.size+2:=by simp
 have t:=af P;cases ok with
 |false=>
  have H:ah (lH (dJ (rs.map aw) b k)=iU #[iA #[I J 0,I J 0,I J 0,I J 0,I J 0,iT ⟨#[]⟩],iB iF]):=by show _=_;unfold dJ;rw[y];rfl
  clear L O E h0 y P;go_enter Tryz.func61,Tryz.ntmps61;go_wp2_with fail;refine C.o.mono ?_;rintro e w1 ⟨rfl,j⟩;have Z:=(j.block (w.heap.size+1) (by rw[t.o];omega)).trans D.o
  have m:=af (l.o.trans (j.mono l.o.size));clear j C D t l;have c0:=ai _ _ 0 _ _ _ Z;have f0:=aF _ _ 0 _ _ Z;have c1:=ai _ _ 1 _ _ _ Z;have f1:=aF _ _ 1 _ _ Z;have c2:=ai _ _ 2 _ _ _ Z;have f2:=aF _ _ 2 _ _ Z;have c3:=ai _ _ 3 _ _ _ Z;have f3:=aF _ _ 3 _ _ Z;have c4:=ai _ _ 4 _ _ _ Z;have f4:=aF _ _ 4 _ _ Z;have c5:=ai _ _ 5 _ _ _ Z;have f5:=aF _ _ 5 _ _ Z;have g:=sD (a:=I J 0) (b:=I J 0) (c:=I J 0) (d:=I J 0) (e:=I J 0) (f:=iT ⟨#[]⟩) Z;have F:=af (xH (a:=I J 0) (b:=I J 0) (c:=I J 0) (d:=I J 0) (e:=I J 0) (f:=iT ⟨#[]⟩) m.o (show w.heap.size<=w.heap.size+1 by omega))
  have R:=ai _ _ 0 _ _ _ g;have S:=ai _ _ 1 _ _ _ g;have U:=ai _ _ 2 _ _ _ g;have V:=ai _ _ 3 _ _ _ g;have X:=ai _ _ 4 _ _ _ g;have Y:=ai _ _ 5 _ _ _ g;clear Z g;go_wp2;exact aE (v:=iU #[iA #[I J 0,I J 0,I J 0,I J 0,I J 0,iT ⟨#[]⟩],iB iF]) (by simp[results,Tryz.results61,go_sem,R,S,U,V,X,Y]) rfl ⟨by rw[H.o],F.o⟩
 |true=>
  obtain⟨p,B,N⟩:=AC (dx T);have i:lH (dJ (rs.map aw) b k)=iU #[dC p,iB B]:=by unfold dJ;rw[y];exact N
  have n:=af (λW h=>Po T W (by unfold maxLen;omega) h)
  rw[N]at n;obtain⟨Q,s,x,q,c,u⟩:=p;unfold dC at n i;simp only at n i;have H:=af i;clear L O E h0 y P N i;go_enter Tryz.func61,Tryz.ntmps61;go_wp2_with fail;refine C.o.mono ?_;rintro e w1 ⟨rfl,j⟩;have Z1:=af ((j.block (w.heap.size+1) (by rw[t.o];omega)).trans D.o)
  have l1:w.heap.size+1<w1.heap.size:=fE (by rw[t.o];omega) j.size
  have m:=af (l.o.trans (j.mono l.o.size));clear j C D t l;go_wp2_with fail;refine(n.o _ (HT.o.on m.o)).mono ?_;rintro e w2 ⟨rfl,K⟩;have Z:=(K.block (w.heap.size+1) l1).trans Z1.o;have B2:=af (m.o.trans (K.mono m.o.size));clear K Z1 m n;have c0:=ai _ _ 0 _ _ _ Z;have f0:=aF _ _ 0 _ _ Z;have c1:=ai _ _ 1 _ _ _ Z;have f1:=aF _ _ 1 _ _ Z;have c2:=ai _ _ 2 _ _ _ Z;have f2:=aF _ _ 2 _ _ Z;have c3:=ai _ _ 3 _ _ _ Z;have f3:=aF _ _ 3 _ _ Z;have c4:=ai _ _ 4 _ _ _ Z;have f4:=aF _ _ 4 _ _ Z;have c5:=ai _ _ 5 _ _ _ Z;have f5:=aF _ _ 5 _ _ Z;have g:=sD (a:=I J Q) (b:=I J s) (c:=I J x) (d:=I J q) (e:=I J c) (f:=iT u) Z;have F:=af (xH (a:=I J Q) (b:=I J s) (c:=I J x) (d:=I J q) (e:=I J c) (f:=iT u) B2.o (show w.heap.size<=w.heap.size+1 by omega))
  have R:=ai _ _ 0 _ _ _ g;have S:=ai _ _ 1 _ _ _ g;have U:=ai _ _ 2 _ _ _ g;have V:=ai _ _ 3 _ _ _ g;have X:=ai _ _ 4 _ _ _ g;have Y:=ai _ _ 5 _ _ _ g;clear Z g;go_wp2;exact aE (v:=iU #[iA #[I J Q,I J s,I J x,I J q,I J c,iT u],iB B]) (by simp[results,Tryz.results61,go_sem,R,S,U,V,X,Y]) rfl ⟨by rw[H.o],F.o⟩
def dW(w:iW)(g:Nat)(D:List an):Prop:=∃cs:Array iX,w.heap[g]?=X (iC cs 53 (0,0))/\∀i x,D[i]?=X x->∀j v,(jC x)[j]?=X v->cs[i*8+j]?=X v
def aZ(w w':iW)(g:Nat)(D:List an):Prop:=be w w' (·≠g)/\dW w' g D
variable{D:List an}
theorem dW.lt{w:iW}(h:dW w g D):g<w.heap.size:=by
 obtain⟨cs,h1,-⟩:=h;exact(aL.1 h1).1
theorem dW.frozen{w:iW}(h:dW w g D)(o:Nat):w.frozen? ⟨g,o,O⟩=iF:=by
 obtain⟨cs,h1,-⟩:=h;exact aF _ _ o _ _ h1
theorem dW.cell{w:iW}{g:Nat}{D:List an}(h:dW w g D){i:Nat}{x:an}(hi:D[i]?=X x)(j:Nat){v:iX}(b:(jC x)[j]?=X v):w.cell? ⟨g,i*8+j,O⟩=X v:=by
 obtain⟨cs,h1,a⟩:=h;rw[ai _ _ (i*8+j) _ _ _ h1];exact a i x hi j v b
theorem dW.below{w w':iW}(h:dW w g D)(b:iL w.heap.size w w'):dW w' g D:=by
 have c:=h.lt;obtain⟨cs,h1,a⟩:=h;exact⟨cs,(b.block _ c).trans h1,a⟩
def dQ(w:iW)(g o:Nat)(x:an):iW:=
 (((((((w.setCell ⟨g,o,O⟩ (I J x.block)).setCell ⟨g,o+1,O⟩ (I J x.leaf)).setCell ⟨g,o+2,O⟩ (I J x.fP.kind)).setCell ⟨g,o+3,O⟩ (I J x.fP.seq)).setCell ⟨g,o+4,O⟩ (I J x.fP.tx)).setCell ⟨g,o+5,O⟩ (I J x.fP.part)).setCell ⟨g,o+6,O⟩ (I J x.fP.count)).setCell ⟨g,o+7,O⟩ (iT x.fP.text)
theorem Wc(w:iW)(g o:Nat)(x:an)(i:Nat)(h:i≠g):(dQ w g o x).heap[i]?=w.heap[i]?:=by
 unfold dQ;rw[aS _ ⟨g,o+7,O⟩ _ _ h,aS _ ⟨g,o+6,O⟩ _ _ h,aS _ ⟨g,o+5,O⟩ _ _ h,aS _ ⟨g,o+4,O⟩ _ _ h,aS _ ⟨g,o+3,O⟩ _ _ h,aS _ ⟨g,o+2,O⟩ _ _ h,aS _ ⟨g,o+1,O⟩ _ _ h,aS _ ⟨g,o,O⟩ _ _ h]
theorem qp(w:iW)(g j:Nat)(v:iX):be w (w.setCell ⟨g,j,O⟩ v) (·≠g):=by
 refine⟨rfl,rfl,rfl,by simp,λi _ a=>?_⟩
 exact aS _ _ _ _ a
theorem xR(w:iW)(g o:Nat)(x:an):be w (dQ w g o x) (·≠g):=
 (((((((qp _ _ _ _).trans (qp _ _ _ _)).trans (qp _ _ _ _)).trans (qp _ _ _ _)).trans (qp _ _ _ _)).trans (qp _ _ _ _)).trans (qp _ _ _ _)).trans (qp _ _ _ _)
theorem dW.put{w:iW}(h:dW w g D)(hi:i<D.length)(x:an):dW (dQ w g (i*8) x) g (D.set i x):=by
 obtain⟨cs,h1,d⟩:=h;have f:D[i]?=X D[i]:=ay hi;have c:∀j,j<8->i*8+j<cs.size:=λj b=>by
  have:∃v,(jC D[i])[j]?=X v:=by
   have k:j<(jC D[i]).length:=b;exact⟨_,ay k⟩
  obtain⟨v,a⟩:=this;exact(aL.1 (d i _ f j v a)).1
 have l:=c 7 (by omega)
 refine⟨_,bw _ _ _ _ _ _ (bw _ _ _ _ _ _ (bw _ _ _ _ _ _ (bw _ _ _ _ _ _ (bw _ _ _ _ _ _ (bw _ _ _ _ _ _ (bw _ _ _ _ _ _ (bw _ _ _ _ _ _ h1))))))),?_⟩;intro i' y hy j v a;have b:j<8:=(aB.1 a).1;by_cases e:i'=i
 ·subst e;rw[lZ hi]at hy;cases hy;simp only[Ai,Gc]
  match j,b with
  |0,_=>rw[aj (by omega),aj (by omega),aj (by omega),aj (by omega),aj (by omega),aj (by omega),aj (by omega),ak (by omega),ak (by omega)];exact a
  |1,_=>rw[aj (by omega),aj (by omega),aj (by omega),aj (by omega),aj (by omega),aj (by omega),ak (by omega),ak (by omega)];exact a
  |2,_=>rw[aj (by omega),aj (by omega),aj (by omega),aj (by omega),aj (by omega),ak (by omega),ak (by omega)];exact a
  |3,_=>rw[aj (by omega),aj (by omega),aj (by omega),aj (by omega),ak (by omega),ak (by omega)];exact a
  |4,_=>rw[aj (by omega),aj (by omega),aj (by omega),ak (by omega),ak (by omega)];exact a
  |5,_=>rw[aj (by omega),aj (by omega),ak (by omega),ak (by omega)];exact a
  |6,_=>rw[aj (by omega),ak (by omega),ak (by omega)];exact a
  |7,_=>rw[ak (by omega),ak (by omega)];exact a
 ·rw[oE (λq=>e q.symm)]at hy
  simp only[Ai,Gc];rw[aj (by omega),aj (by omega),aj (by omega),aj (by omega),aj (by omega),aj (by omega),aj (by omega),aj (by omega)]
  exact d i' y hy j v a
def mH(w wr:iW)(v a:iX)(l:List an):Prop:=iL w.heap.size w wr/\wr.heap[w.heap.size]?=X (iC #[v] 26 (0,0))/\wr.ownsRow (w.heap.size+1) 53 8 a l.length (mP l)
theorem mH.below{w wr w':iW}{v a:iX}{l:List an}(h:mH w wr v a l)(b:iL wr.heap.size wr w'):mH w w' v a l:=
 ⟨h.1.trans (b.mono h.1.size),(b.block _ (aL.1 h.2.1).1).trans h.2.1,bE h.2.2 b⟩
theorem dH(w:iW)(g o b:Nat)(x:an)(h:b<o∨o+8<=b):(dQ w g o x).cell? ⟨g,b,O⟩=w.cell? ⟨g,b,O⟩:=by
 have a:∀(W:iW) (i:Nat) (v:iX),i≠b->(W.setCell ⟨g,i,O⟩ v).cell? ⟨g,b,O⟩=W.cell? ⟨g,b,O⟩:=λW i v c=>iQ _ _ _ _ (λe=>c (by injection e))
 unfold dQ;rw[a _ _ _ (by omega),a _ _ _ (by omega),a _ _ _ (by omega),a _ _ _ (by omega),a _ _ _ (by omega),a _ _ _ (by omega),a _ _ _ (by omega),a _ _ _ (by omega)]
theorem uI(U V W:List an)(x z:an):((U++x::(V++z::W)).set U.length z).set (U.length+1+V.length) x=U++z::(V++x::W):=by
 rw[jm _ _ (am _)];simp only[kM,cu];rw[jm _ _ (by omega)]
 have:U.length+1+V.length-U.length=V.length+1:=by omega
 rw[this,bZ,jm _ _ (am _)];simp
theorem aZ.drew{w w':iW}(h:aZ w w' g D):aZ w w'.drew g D:=⟨h.1.trans (be.below (az _ _).drew),h.2.below (az _ _).drew⟩
theorem aZ.below{w w' a:iW}(h:aZ w w' g D)(b:iL w'.heap.size w' a):aZ w a g D:=⟨h.1.trans (be.below b),h.2.below b⟩
theorem aZ.trans{w w' a:iW}{E:List an}(h:aZ w w' g D)(k:aZ w' a g E):aZ w a g E:=⟨h.1.trans k.1,k.2⟩
variable{x:an}
theorem dW.swap{w:iW}{p:Nat}{z:an}(h:dW w g D)(a:D[p]?=X x)(b:D[q]?=X z):
 dW (dQ (dQ w g (p*8) z) g (q*8) x) g ((D.set p z).set q x)/\be w (dQ (dQ w g (p*8) z) g (q*8) x) (·≠g):=by
 have c:=(aB.1 a).1;have d:=(aB.1 b).1;exact⟨(h.put c z).put (by rw[gI];exact d) x,(xR _ _ _ _).trans (xR _ _ _ _)⟩
theorem Cj(g N cap a b n:Nat)(T:List an)(A l m Z B:List an)(c:iX)(w:iW)(hN:N<=4611686018427387903)(S:(A++l++m++Z++B).length=N)(hA:A.length=a)(hX:l.length=n)(hZ:Z.length=n)(hY:A.length+l.length+m.length=b)(hT:A++Z++m++l++B=T)(hr:dW w g (A++l++m++Z++B)):
 iK Tryz.prog 223 #[Y (X ⟨g,0,O⟩) N cap,I J a,I J b,I J n,c] w λe w'=>e=G (iU #[])/\aZ w w' g T:=by
 have HI:ah (∃(U f V h W:List an),A++l++m++Z++B=U++(f++(V++(h++W)))/\U.length=a+0/\f.length+0=n/\h.length+0=n/\U.length+f.length+V.length=b+0/\U++(h++(V++(f++W)))=T):=⟨A,l,m,Z,B,by simp,by omega,by omega,by omega,by omega,by rw[<-hT];simp⟩
 have HR:=af hr;have HL:=af S;have ac:b+n<=N:=by rw[<-S];simp;omega
 have ab:a+n<=b:=by omega
 clear S hA hX hZ hY hT hr;generalize A++l++m++Z++B=D at HI HR HL;go_enter Tryz.func223,Tryz.ntmps223;go_wp2;go_loopw [10] (λiv wr=>∃(i:Nat) (E:List an),iv=I J i/\i<=n/\ah (E.length=N)/\ah (∃(U f V h W:List an),E=U++(f++(V++(h++W)))/\U.length=a+i/\f.length+i=n/\h.length+i=n/\U.length+f.length+V.length=b+i/\U++(h++(V++(f++W)))=T)/\ah (aZ w wr g E)) (λiv _=>n-(intOf iv).toNat)
 case atStart=>exact⟨0,D,rfl,aK _,HL,by simpa using HI,⟨be.refl _ _,HR.o⟩⟩
 case round=>
  obtain⟨i,E,rfl,hi,M,P,d⟩:=hrel;by_cases ad:(i:Int)<n
  ·obtain⟨U,f,V,h,W,r,Q,v,y,C,s⟩:=P.o
   match f,h,r,v,y,C,s with
   | [],_,_,h2,_,_,_=>simp at h2;omega
   |_::_,[],_,_,h3,_,_=>simp at h3;omega
   |x::X3,z::Z3,r,v,y,C,s=>
    simp only[aV]at v y C;obtain⟨p,R⟩:∃p,p=U.length:=⟨_,rfl⟩;obtain⟨q,L⟩:∃q,q=U.length+1+(X3++V).length:=⟨_,rfl⟩;have K:E=U++x::((X3++V)++z::(Z3++W)):=by rw[r];simp
    have j:E[p]?=X x:=by rw[K,R];simp
    have k:E[q]?=X z:=by
     rw[K,L,ct (by omega)]
     have:U.length+1+(X3++V).length-U.length=(X3++V).length+1:=by omega
     rw[this,nH];simp
    have t:(E.set p z).set q x=(U++[z])++(X3++((V++[x])++(Z3++W))):=by
     rw[K,R,L,uI];simp
    have ae:(a:Int)+i=p:=by omega
    have ai:(b:Int)+i=q:=by simp only[aJ]at L;omega
    have ag:IntKind.i64.wrap ((a:Int)+i)=p:=by rw[cm];omega
    have aj:IntKind.i64.wrap ((b:Int)+i)=q:=by rw[cm];omega
    have p0:(0:Int)<=p:=by omega
    have q0:(0:Int)<=q:=by omega
    have pN:(p:Int)<N:=by have:=(aB.1 j).1;have:=M.o;omega
    have qN:(q:Int)<N:=by have:=(aB.1 k).1;have:=M.o;omega
    have aa:p+1<=q:=by omega
    obtain⟨u,F⟩:=d.o.2.swap j k;rw[t]at u;have NX:ah (aZ w (dQ (dQ wr g (p*8) z) g (q*8) x) g ((U++[z])++(X3++((V++[x])++(Z3++W))))):=⟨d.o.1.trans F,u⟩;have LX:ah (((U++[z])++(X3++((V++[x])++(Z3++W)))).length=N):=by
     show _=_;rw[<-t,gI,gI];exact M.o
    have TX:ah ((U++[z])++(Z3++((V++[x])++(X3++W)))=T):=by show _=_;rw[<-s];simp
    have H:ah ((U++[z]).length=a+(i+1)/\X3.length+(i+1)=n/\Z3.length+(i+1)=n/\(U++[z]).length+X3.length+(V++[x]).length=b+(i+1)):=by
     have hU:(U++[z]).length=U.length+1:=by simp
     have hV:(V++[x]).length=V.length+1:=by simp
     exact⟨by omega,by omega,by omega,by omega⟩
    have x0:wr.cell? ⟨g,p*8,O⟩=X (I J x.block):=d.o.2.cell j 0 rfl;have z0:wr.cell? ⟨g,q*8,O⟩=X (I J z.block):=d.o.2.cell k 0 rfl;have k0:=d.o.2.frozen (p*8);have l0:=d.o.2.frozen (q*8);have x1:wr.cell? ⟨g,p*8+1,O⟩=X (I J x.leaf):=d.o.2.cell j 1 rfl;have z1:wr.cell? ⟨g,q*8+1,O⟩=X (I J z.leaf):=d.o.2.cell k 1 rfl;have k1:=d.o.2.frozen (p*8+1);have l1:=d.o.2.frozen (q*8+1);have x2:wr.cell? ⟨g,p*8+2,O⟩=X (I J x.fP.kind):=d.o.2.cell j 2 rfl;have z2:wr.cell? ⟨g,q*8+2,O⟩=X (I J z.fP.kind):=d.o.2.cell k 2 rfl;have k2:=d.o.2.frozen (p*8+2);have l2:=d.o.2.frozen (q*8+2);have x3:wr.cell? ⟨g,p*8+3,O⟩=X (I J x.fP.seq):=d.o.2.cell j 3 rfl;have z3:wr.cell? ⟨g,q*8+3,O⟩=X (I J z.fP.seq):=d.o.2.cell k 3 rfl;have k3:=d.o.2.frozen (p*8+3);have l3:=d.o.2.frozen (q*8+3);have x4:wr.cell? ⟨g,p*8+4,O⟩=X (I J x.fP.tx):=d.o.2.cell j 4 rfl;have z4:wr.cell? ⟨g,q*8+4,O⟩=X (I J z.fP.tx):=d.o.2.cell k 4 rfl;have k4:=d.o.2.frozen (p*8+4);have l4:=d.o.2.frozen (q*8+4);have x5:wr.cell? ⟨g,p*8+5,O⟩=X (I J x.fP.part):=d.o.2.cell j 5 rfl;have z5:wr.cell? ⟨g,q*8+5,O⟩=X (I J z.fP.part):=d.o.2.cell k 5 rfl;have k5:=d.o.2.frozen (p*8+5);have l5:=d.o.2.frozen (q*8+5);have x6:wr.cell? ⟨g,p*8+6,O⟩=X (I J x.fP.count):=d.o.2.cell j 6 rfl;have z6:wr.cell? ⟨g,q*8+6,O⟩=X (I J z.fP.count):=d.o.2.cell k 6 rfl;have k6:=d.o.2.frozen (p*8+6);have l6:=d.o.2.frozen (q*8+6);have x7:wr.cell? ⟨g,p*8+7,O⟩=X (iT x.fP.text):=d.o.2.cell j 7 rfl;have z7:wr.cell? ⟨g,q*8+7,O⟩=X (iT z.fP.text):=d.o.2.cell k 7 rfl;have k7:=d.o.2.frozen (p*8+7);have l7:=d.o.2.frozen (q*8+7);have y0:=(dH wr g (p*8) (q*8) z (by omega)).trans z0
    have y1:=(dH wr g (p*8) (q*8+1) z (by omega)).trans z1
    have y2:=(dH wr g (p*8) (q*8+2) z (by omega)).trans z2
    have y3:=(dH wr g (p*8) (q*8+3) z (by omega)).trans z3
    have y4:=(dH wr g (p*8) (q*8+4) z (by omega)).trans z4
    have y5:=(dH wr g (p*8) (q*8+5) z (by omega)).trans z5
    have y6:=(dH wr g (p*8) (q*8+6) z (by omega)).trans z6
    have y7:=(dH wr g (p*8) (q*8+7) z (by omega)).trans z7
    unfold dQ at y0 y1 y2 y3 y4 y5 y6 y7;clear u F t j k K r Q v y C s R L aa;go_wp2;go_region;have ND:=af NX.o.drew;unfold dQ at ND;go_wp2;go_roundw
    case rel=>exact⟨i+1,_,by go_num,by omega,LX,⟨_,_,_,_,_,rfl,H.o.1,H.o.2.1,H.o.2.2.1,H.o.2.2.2,TX.o⟩,ND⟩
    case measure=>simp[intOf];omega
  ·obtain⟨U,f,V,h,W,r,Q,v,y,C,s⟩:=P.o;have x0:f=[]:=gK (by omega)
   have z0:h=[]:=gK (by omega)
   subst x0 z0;have eT:E=T:=by rw[r,<-s]
   subst eT;clear r Q v y C s P;go_wp2
   first|go_end0|refine aE (kT rfl _ _ _) rfl ?_
   exact⟨rfl,d.o⟩
def wK(E T:List an)(m i j:Nat):Prop:=∃A L R B:List an,E=A++(L++(R++B))/\L.length=i/\R.length=j/\A.length+i=m/\A++(R++(L++B))=T
theorem Un(g N cap a m b:Nat)(T D:List an)(c:iX)(w:iW)(hN:N<=1000000000000000)(hl:D.length=N)(x:a<m)(ad:m<b)(hb:b<=N)(h0:wK D T m (m-a) (b-m))(hr:dW w g D):
 iK Tryz.prog 190 #[Y (X ⟨g,0,O⟩) N cap,I J a,I J m,I J b,c] w λe w'=>e=G (iU #[])/\aZ w w' g T:=by
 have HR:=af hr;have HL:=af hl;have S:=af h0;obtain⟨z,ei⟩:=aq (m-a);obtain⟨F,ej⟩:=aq (b-m);rw[ei,ej]at S;have aa:(m:Int)-a=z:=by omega
 have ab:(b:Int)-m=F:=by omega
 have y:z+F<=N/\1<=z/\1<=F/\m+F<=N/\z<=m:=by omega
 obtain⟨q1,q2,q3,q4,q5⟩:=y;have HA:=af x;clear hl h0 hr ei ej ad hb x;go_enter Tryz.func190,Tryz.ntmps190;go_wp2;clear aa ab;go_loopw [10,11] (λiv jv wr=>∃(i j:Nat) (E:List an),iv=I J i/\jv=I J j/\1<=i/\1<=j/\i<=m/\m+j<=N/\ah (E.length=N)/\ah (wK E T m i j)/\ah (aZ w wr g E)) (λiv jv _=>(intOf iv).toNat+(intOf jv).toNat)
 case atStart=>exact⟨z,F,D,rfl,rfl,q2,q3,q5,q4,HL,S,⟨be.refl _ _,HR.o⟩⟩
 case round=>
  obtain⟨i,j,E,rfl,rfl,r1,r2,r3,r4,n,s,h⟩:=hrel;obtain⟨k,ai⟩:∃k:Nat,(m:Int)-i=k:=⟨m-i,by omega⟩
  clear q1 q2 q3 q4 q5 S HL HR;by_cases ae:i=j
  ·subst ae;have ac:((i:Int) !=i)=iF:=by simp
   have C:ah (iK Tryz.prog 223 #[Y (X ⟨g,0,O⟩) N cap,I J k,I J m,I J i,c] wr λe w'=>e=G (iU #[])/\aZ wr w' g T):=by
    obtain⟨A,L,R,B,f,P,Q,e4,v⟩:=s.o;refine Cj g N cap k m i T A L [] R B c wr (by omega) ?_ (by omega) P Q (by simp;omega) (by rw[<-v];simp) ?_
    ·have:=n.o;rw[f]at this
     simpa using this
    ·have:=h.o.2;rw[f]at this
     simpa using this
   go_wp2_with fail;refine C.o.mono ?_;rintro e w1 ⟨rfl,l⟩;have t:=af (h.o.trans l);clear l h C;go_wp2
   first|go_end0|refine aE (kT rfl _ _ _) rfl ?_
   exact⟨rfl,t.o⟩
  ·have ac:((i:Int) !=j)=iV:=by rw[bne_iff_ne];omega
   by_cases ag:(j:Int)<i
   ·have C:ah (∃d,d.length=N/\wK d T m (i-j) j/\iK Tryz.prog 223 #[Y (X ⟨g,0,O⟩) N cap,I J k,I J m,I J j,c] wr λe w'=>e=G (iU #[])/\aZ wr w' g d):=by
     obtain⟨A,L,R,B,f,P,Q,e4,v⟩:=s.o;have hL:L=L.take j++L.drop j:=(jo j L).symm;have p:(L.take j).length=j:=by rw[cG];omega
     have r:(L.drop j).length=i-j:=by rw[ju];omega
     generalize L.take j=U at hL p;generalize L.drop j=V at hL r;subst hL;refine⟨A++R++V++U++B,?_,⟨A++R,V,U,B,by simp,r,p,?_,by rw[<-v];simp⟩,Cj g N cap k m j _ A U V R B c wr (by omega) ?_ (by omega) p Q (by omega) rfl ?_⟩
     ·have:=n.o;rw[f]at this;simp at this⊢;omega
     ·rw[aJ];omega
     ·have:=n.o;rw[f]at this
      simpa using this
     ·have:=h.o.2;rw[f]at this
      simpa using this
    obtain⟨d,H,K,M⟩:=C.o;have X1:=af H;have X2:=af K;have u:=af M;clear H K M C s n;go_wp2_with fail;refine u.o.mono ?_;rintro e w1 ⟨rfl,l⟩;have t:=af (h.o.trans l);clear l h u;go_wp2;go_roundw
    case rel=>exact⟨i-j,j,d,by go_num,rfl,by omega,r2,by omega,r4,X1,X2,t⟩
    case measure=>simp[intOf];omega
   ·obtain⟨q,hq⟩:∃q:Nat,(m:Int)+j-i=q:=⟨m+j-i,by omega⟩
    have C:ah (∃d,d.length=N/\wK d T m i (j-i)/\iK Tryz.prog 223 #[Y (X ⟨g,0,O⟩) N cap,I J k,I J q,I J i,c] wr λe w'=>e=G (iU #[])/\aZ wr w' g d):=by
     obtain⟨A,L,R,B,f,P,Q,e4,v⟩:=s.o;have hR:R=R.take (j-i)++R.drop (j-i):=(jo (j-i) R).symm;have p:(R.take (j-i)).length=j-i:=by rw[cG];omega
     have r:(R.drop (j-i)).length=i:=by rw[ju];omega
     generalize R.take (j-i)=W at hR p;generalize R.drop (j-i)=Z at hR r;subst hR;refine⟨A++Z++W++L++B,?_,⟨A,Z,W,L++B,by simp,r,p,e4,by rw[<-v];simp⟩,Cj g N cap k q i _ A L W Z B c wr (by omega) ?_ (by omega) P r (by omega) rfl ?_⟩
     ·have:=n.o;rw[f]at this;simp at this⊢;omega
     ·have:=n.o;rw[f]at this
      simpa using this
     ·have:=h.o.2;rw[f]at this
      simpa using this
    obtain⟨d,H,K,M⟩:=C.o;have X1:=af H;have X2:=af K;have u:=af M;clear H K M C s n;go_wp2_with fail;refine u.o.mono ?_;rintro e w1 ⟨rfl,l⟩;have t:=af (h.o.trans l);clear l h u;go_wp2;go_roundw
    case rel=>exact⟨i,j-i,d,rfl,by go_num,r1,by omega,r3,by omega,X1,X2,t⟩
    case measure=>simp[intOf];omega
def iO(x y:an):Int:=Lib.compareInt x.key y.key
theorem rF(x y:an):(iO x y<0)↔x.key<y.key:=by
 unfold iO Lib.compareInt;split<;>(try split)<;>omega
theorem Rs(x y:an)(w:iW):
 iK Tryz.prog 63 #[gG x,gG y] w λe w'=>e=G (I J (iO x y))/\iL w.heap.size w w':=by
 have b:=((az w.heap.size w).alloc (am _) (iC (jC x).toArray 53)).alloc (by simp) (iC (jC y).toArray 53)
 have c:=af b;have a:=af (λW=>Tryz.cmp_Compare_int x.key y.key W)
 unfold gG;unfold iO;unfold an.key at*;unfold jC at*;generalize Lib.compareInt x.fP.seq y.fP.seq=r at a;clear b;go_enter Tryz.func63,Tryz.ntmps63;go_wp2_with fail;refine(a.o _).mono ?_;rintro e d ⟨rfl,rfl⟩;go_wp2;go_ret;exact⟨rfl,c.o⟩
def yR:iX:=.func (.func 63) #[] #[]
end Go.Proofs.YtgigcooffjjbgaaGreatDoor
