/-
  SDoS; SStA; SNew; SDev; SRoom
-/
import Derived.Test.YtgigcooffjjbgaaGreatDoorPk23
import Derived.Deep.RegionLaw
open Go.Value renaming int→I,slice→Y,bool→iB,agg→iA,tuple→iU
open Go.IntKind renaming i64→J
open Option renaming none→O,some→X
open Go.Ending renaming returned→G
open Go.Obj renaming cells→iC
open Bool renaming true→iV,false→iF
open Go renaming World→iW,Value→iX,Calls→iK
open Go.RowKit renaming Below→iL
set_option maxHeartbeats 2000000
set_option maxRecDepth 100000
namespace Go.Proofs.YtgigcooffjjbgaaGreatDoor
open Go.RowKit
theorem Wp(v u:iX)(bs:List Bk)(l:List aM)(w:iW)(hs:de bs)(hl:l.length<=1000000000)(U:fq w v bs)(hu:nX w u l):
 iK Tryz.prog 147 #[iA #[v],u] w λe w'=>∃x,e=G (iU #[iA #[x],I J ((dc bs l).2:Int)])/\dj w' w.heap.size x (dc bs l).1/\iL w.heap.size w w':=by
 obtain⟨vd,vc,rfl⟩:=U.form;obtain⟨ad,cap,rfl,u1,u2,u3⟩:=hu.form;obtain⟨n,Z⟩:=aq l.length;have S:=af Z;have Q:=af (((az w.heap.size w).alloc (am _) (iC #[Y vd bs.length vc] 26)).alloc (by simp) (iC #[Y O 0 0] 26))
 have F0:=af (U.below Q.o);have HU:=af hu;have HS:=af hs;rw[Z]at hl u1 HU⊢;clear U hu hs u3 Z;go_enter Tryz.func147,Tryz.ntmps147;go_wp2_with fail;refine(wD _ bs _ HS.o F0.o).mono ?_;rintro e w1 ⟨x,rfl,f,b1⟩;obtain⟨xd,xc,rfl⟩:=f.form;obtain⟨c,V⟩:=aq w1.heap.size;have M:=af (gx.start b1 f V);clear b1 f F0;go_wp2;try rw[V]
 clear V;generalize w1.alloc (iC #[Y xd bs.length xc] 26)=w2 at M⊢;go_loopw [7] (λiv wr=>∃(i:Nat) (y:iX) (cs:List Bk),i<=n/\iv=I J i/\ah (dc bs (l.take i)=(cs,i))/\ah (de cs)/\ah (gx w wr c y cs)) (λiv _=>n-(intOf iv).toNat)
 case atStart=>exact⟨0,_,bs,aK _,rfl,rfl,HS,M⟩
 case round=>
  obtain⟨i,y,cs,hi,rfl,K,L,D⟩:=hrel;clear M;obtain⟨yd,yc,rfl⟩:=D.o.form;obtain⟨k1,f1,k2,f2⟩:=D.o.cell;by_cases aa:(i:Int)<n
  ·obtain⟨s,q⟩:∃s,l[i]?=X s:=⟨_,ay (by have:=S.o;omega)⟩
   obtain⟨g,o,eg,q1,q2,q3,q4⟩:=(HU.o.below D.o.bel).at q;subst eg;have p:=af q;obtain⟨k,b,lf,t⟩:=s;simp only at q1 q2 q3 q4;have i0:(0:Int)<=i:=by omega
   obtain⟨a,ok,W⟩:∃a ok,cR cs (k,b,lf,t)=(a,ok):=⟨_,_,rfl⟩;have d:=af W;have H:=af (D.o.below (az _ _).drew);have De:=af (D.o.below ((az _ _).alloc (am _) (iC #[Y O 0 0] 26)).drew);have B:=af (DU (Y yd cs.length yc) cs (k,b,lf,t) wr.drew L.o H.o.rdb);have C:=af (DU (Y yd cs.length yc) cs (k,b,lf,t) (wr.alloc (iC #[Y O 0 0] 26)).drew L.o De.o.rdb);unfold yu at B C;rw[W]at B C;simp only at B C;have r:ok=iF->ah (dc bs l=(cs,i)):=λh=>XJ K.o p.o (by rw[d.o];exact h)
   have m:ok=iV->ah (dc bs (l.take (i+1))=(a,i+1)):=λh=>by
    have:=LO K.o p.o (by rw[d.o];exact h)
    rw[d.o]at this;exact this
   have R:ah (de a):=by have:=L.o.step (k,b,lf,t);rw[d.o]at this;exact this
   clear q W;have gw:g<wr.heap.size:=aT wr _ q1;have cw:c<wr.heap.size:=aT wr _ k1;go_wp2;go_region_with (first
    |(go_at_call 185;(with_reducible refine cj B.o ?_);rintro en w4 ⟨z,rfl,f,A⟩;obtain⟨zd,zc,rfl⟩:=f.form;have D4:=af (H.o.below A);have FO:=af f;have B4:=af A;clear f A)
    |(go_at_call 185;(with_reducible refine cj C.o ?_);rintro en w5 ⟨z,rfl,f,A⟩;obtain⟨zd,zc,rfl⟩:=f.form;have N:=af (D.o.next2 A f);obtain⟨n5,f5⟩:=N.o.1;clear f A))
   all_goals first
    |(have T:=(az w4.heap.size w4).alloc (am _) (iC #[Y zd a.length zc] 26)
      have D5:=af (D4.o.below T);have DN:=af (H.o.next B4.o FO.o T);obtain⟨p1,p4,p2,p3⟩:=D5.o.cell;have j:=af D5.o.fin;clear T FO B4 D4)
    |(obtain⟨-,p0,p5,p6⟩:=N.o
      have DN:=af p6;have j:=af p5.fin;obtain⟨p1,p4,p2,p3⟩:=p5.cell;clear p5 p6 N n5 f5)
   all_goals
    clear B C D De H k1 k2 f1 f2 q1 q2 q3 q4 K L d p;cases ok with
    |false=>
     have E:=r rfl;clear m r;go_wp2;exact aE (kH rfl _ _ (w.heap.size+1) _ rfl j.o.1) rfl ⟨_,by rw[E.o];rfl,by rw[E.o];exact j.o.2.1,j.o.2.2⟩
    |true=>
     have P:=m rfl;clear r m;go_wp2;go_roundw
     case rel=>exact⟨i+1,_,a,by omega,by go_num,P,R,DN⟩
     case measure=>simp[intOf];omega
  ·have F:i=n:=by omega
   have r:ah (dc bs l=(cs,n)):=by
    have:=VL K.o (F.trans S.o.symm);rw[S.o]at this;exact this
   have j:=af D.o.fin;clear F;go_wp2;exact aE (kH rfl _ _ (w.heap.size+1) _ rfl j.o.1) rfl ⟨_,by rw[r.o];rfl,by rw[r.o];exact j.o.2.1,j.o.2.2⟩
open Words Sums
theorem Jw(x u:iX)(d:Dv)(l:List aM)(w:iW)(h:eP w x d)(hl:l.length<=1000000000)(hu:nX w u l):iK Tryz.prog 106 #[x,u] w (rZ w (gn d l)):=by
 obtain⟨s,r,v,A,vc,ad,t,cap,rfl,h1,h2,h3⟩:=h.form;have E:=aR w (iC #[Y s d.fH.length r,Y v A vc,Y ad t cap,I J d.fS.next,I J d.seq,I J d.tx,I J d.base] 34);have F:aU (w.alloc (iC #[Y s d.fH.length r,Y v A vc,Y ad t cap,I J d.fS.next,I J d.seq,I J d.tx,I J d.base] 34)) w.heap.size (Y s d.fH.length r) (Y v A vc) (Y ad t cap) d.fS.next d.seq d.tx d.base:=aC _ _;have H:(w.alloc (iC #[Y s d.fH.length r,Y v A vc,Y ad t cap,I J d.fS.next,I J d.seq,I J d.tx,I J d.base] 34)).heap.size=w.heap.size+1:=by simp
 have C:iL w.heap.size w ((w.alloc (iC #[Y s d.fH.length r,Y v A vc,Y ad t cap,I J d.fS.next,I J d.seq,I J d.tx,I J d.base] 34)).alloc (iC #[Y O 0 0,Y O 0 0,Y O 0 0,I J 0,I J 0,I J 0,I J 0] 34)):=E.alloc (by omega) _
 have gA:=F.below (w':=(w.alloc (iC #[Y s d.fH.length r,Y v A vc,Y ad t cap,I J d.fS.next,I J d.seq,I J d.tx,I J d.base] 34)).alloc (iC #[Y O 0 0,Y O 0 0,Y O 0 0,I J 0,I J 0,I J 0,I J 0] 34)) (bh);have zA:aU ((w.alloc (iC #[Y s d.fH.length r,Y v A vc,Y ad t cap,I J d.fS.next,I J d.seq,I J d.tx,I J d.base] 34)).alloc (iC #[Y O 0 0,Y O 0 0,Y O 0 0,I J 0,I J 0,I J 0,I J 0] 34)) (w.heap.size+1) (Y O 0 0) (Y O 0 0) (Y O 0 0) 0 0 0 0:=by
  rw[<-H];exact aC _ _
 generalize aa:(w.alloc (iC #[Y s d.fH.length r,Y v A vc,Y ad t cap,I J d.fS.next,I J d.seq,I J d.tx,I J d.base] 34)).alloc (iC #[Y O 0 0,Y O 0 0,Y O 0 0,I J 0,I J 0,I J 0,I J 0] 34)=wa at C gA zA;have P:=af (Wp (Y s d.fH.length r) u d.fH l wa h2 hl (h1.below C) (hu.below C));have B:=af (h2.all l);have n:ah (gn d l=(fj (dc d.fH l).1).1):=rfl;obtain⟨cs,nn,G⟩:∃cs nn,dc d.fH l=(cs,nn):=⟨_,_,rfl⟩;rw[G]at P B n;simp only at P B n;have Z:=af C;have HZ:=af zA;have a0:=gA.cells.1;clear E F H C gA zA h1 h2 h3 h hu G;go_enter Tryz.func106,Tryz.ntmps106;go_wp2_with fail;clear aa;refine P.o.mono ?_;rintro e K ⟨y,rfl,fo,b1⟩;obtain⟨M,L,rfl⟩:=fo.form;have S:=aR K (iC #[Y M cs.length L] 26);have b2:=Z.o.trans (b1.mono Z.o.size);have N:=af (b2.trans (S.mono b2.size));have R:=af ((HZ.o.below b1).below S);have R1:=fo.rdb.below S;have k1:(K.alloc (iC #[Y M cs.length L] 26)).cell? ⟨K.heap.size,0,O⟩=X (Y M cs.length L):=ai _ _ 0 _ _ _ (aC K _);generalize ab:K.alloc (iC #[Y M cs.length L] 26)=w2 at N R R1 k1;have Q:=af (Cu (Y M cs.length L) cs w2 B.o R1);obtain⟨D,ok,hD⟩:∃D ok,fj cs=(D,ok):=⟨_,_,rfl⟩;rw[hD]at Q n;simp only at Q n;clear P Z HZ fo b1 S b2 R1 hD a0;go_wp2_with fail;refine Q.o.mono ?_;rintro e U ⟨z,rfl,dv,df,b3⟩;obtain⟨f,c,j,m,k,b,i,a,rfl⟩:=dv.form;have T:=aR U (iC #[Y f D.fH.length c,Y j m k,Y b i a,I J D.fS.next,I J D.seq,I J D.tx,I J D.base] 34);have X4:aU (U.alloc (iC #[Y f D.fH.length c,Y j m k,Y b i a,I J D.fS.next,I J D.seq,I J D.tx,I J D.base] 34)) U.heap.size (Y f D.fH.length c) (Y j m k) (Y b i a) D.fS.next D.seq D.tx D.base:=aC _ _;have b4:=N.o.trans (b3.mono N.o.size);have V:=af (b4.trans (T.mono b4.size));have q:=af ((R.o.below b3).below T);have hz:=R.o.lt;have W:=af (dv.below T);have FF:=af df;obtain⟨g0,g1,g2,g3,g4,g5,g6⟩:=X4.cells;generalize ac:U.alloc (iC #[Y f D.fH.length c,Y j m k,Y b i a,I J D.fS.next,I J D.seq,I J D.tx,I J D.base] 34)=w4 at V q W g0 g1 g2 g3 g4 g5 g6;obtain⟨i0,i1,i2,i3,i4,i5,i6⟩:=q.o.cells;have q0:=q.o.fr 0;have q1:=q.o.fr 1;have q2:=q.o.fr 2;have q3:=q.o.fr 3;have q4:=q.o.fr 4;have q5:=q.o.fr 5;have q6:=q.o.fr 6;have FD:=af (lI q.o (Y f D.fH.length c) (Y j m k) (Y b i a) D.fS.next D.seq D.tx D.base);have FB:=af (ly (Y f D.fH.length c) (Y j m k) (Y b i a) D.fS.next D.seq D.tx D.base V.o (g:=w.heap.size+1) (by omega))
 have FI:=af ((W.o.put hz (Y f D.fH.length c) (Y j m k) (Y b i a) D.fS.next D.seq D.tx D.base).down (B':=w.heap.size) (by omega))
 unfold bF at FD FB FI;clear R q N V W Q dv df b3 T X4 b4 k1 hz;go_wp2;refine aE (xU (p:=4) rfl _ _ (w.heap.size+1) _ _ _ _ _ _ _ rfl FD.o) rfl ?_;rw[n.o];exact⟨_,rfl,FI.o,FF.o,FB.o⟩
def oO(w wr:iW)(a:iX)(d:List Rw):Prop:=
 wr.heap[w.heap.size]?=X (iC #[Y O 0 0] 26 (0,0))/\wr.heap[w.heap.size+1]?=X (iC #[a] 26 (0,0))/\eO wr (w.heap.size+2) wr.heap.size a d/\iL w.heap.size w wr
theorem oO.below{w wr w':iW}{b:iX}{d:List Rw}(h:oO w wr b d)(a:iL wr.heap.size wr w'):oO w w' b d:=by
 obtain⟨f,c,h4,e⟩:=h;have g:=(aL.1 c).1;exact⟨(a.block _ (by omega)).trans f,(a.block _ (by omega)).trans c,(h4.below a (am _)).up a.size,e.trans (a.mono e.size)⟩
variable{B' g:Nat}
theorem oO.snoc {w wr w':iW} {c a:iX} {d:List Rw} {r:Rw} (h:oO w wr c d) (j:wr.grownBy w' c.ownBlock)
 (v:w'.ownsRow (w.heap.size+2) 81 3 a (d.length+1) (gB (d.map gh)++[iB r.1,I J r.2.1,r.2.2.1])) (u:wr.ownsRow B' 83 2 r.2.2.1 r.2.2.2.length (fI r.2.2.2)) (o:w.heap.size+2<=B')
 (b:∀q∈d,∀g,q.2.2.1.ownBlock=X g->g<B'):oO w (w'.setCell ⟨w.heap.size+1,0,O⟩ a) a (d++[r]):=by
 obtain⟨n,l,h4,m⟩:=h;have x:=(aL.1 l).1;have f:∀i,i<w.heap.size+2->X i≠c.ownBlock:=λi hi e=>by
  have:=(iS h4.1 i e.symm).1;omega
 have s:=h4.snoc j v u o b;refine⟨cU ((j.block _ (by omega) (f _ (by omega))).trans n) (by omega) _ _,dq ((j.block _ (by omega) (f _ (by omega))).trans l) _ _,s.cellb (by omega) _ _,?_⟩
 exact(m.trans ((az w.heap.size wr).grown j m.size (λk t=>by have:=(iS h4.1 k t).1;omega))).setCell (p:=⟨w.heap.size+1,0,O⟩) (by show _<=_+1;omega) _
theorem Qt(n:Int)(w:iW):
 iK Tryz.prog 98 #[I J n] w λe w'=>∃u,e=G (iU #[iA #[u],iB (decide (3<=n/\n<=10))])/\dj w' w.heap.size u (gX n)/\iL w.heap.size w w':=by
 have A:=(az w.heap.size w).alloc (am _) (iC #[Y O 0 0] 26);have h:=af A;have z:=af (aC w (iC #[Y O 0 0] 26));have HZ:=af (show(w.alloc (iC #[Y O 0 0] 26)).heap.size=w.heap.size+1 by simp)
 clear A;generalize x:decide (3<=n/\n<=10)=bb;by_cases B:3<=n/\n<=10
 ·obtain⟨m,rfl⟩:∃m:Nat,n=m:=⟨n.toNat,by omega⟩
  have b:decide (3<=(m:Int)/\(m:Int)<=10)=iV:=aW B;obtain rfl:bb=iV:=x.symm.trans b;clear x;have av:3<=m:=by omega
  have ax:m<=10:=by omega
  have au:(0:Int)<=m:=by omega
  clear B;go_enter Tryz.func98,Tryz.ntmps98;go_wp2_with fail;refine(ie (m:Int) 3 10 _).mono ?_;rintro e v ⟨rfl,rfl⟩;rw[b];clear b;generalize w.alloc (iC #[Y O 0 0] 26)=v at h z HZ⊢;have l:=(az v.heap.size v).alloc (am _) (iC #[Y O 0 0] 26);have r1:=aC v (iC #[Y O 0 0] 26);have hz:=HZ.o;rw[hz]at r1;have y:ah (oO w (v.alloc (iC #[Y O 0 0] 26)) (Y O 0 0) []):=
   ⟨(l.block _ (by omega)).trans z.o,r1,⟨⟨rfl,.inl ⟨rfl,rfl⟩⟩,λg hg=>(by cases hg),λr hr=>(by cases hr),List.Pairwise.nil⟩,h.o.trans (l.mono (by omega))⟩
  clear l r1;go_wp2;clear hz;generalize v.alloc (iC #[Y O 0 0] 26)=w2 at y⊢;go_loopw [5] (λiv wr=>∃(k:Nat) (t:iX) (d:List Rw),k<=m/\iv=I J k/\ah (d.length=k)/\ah (d.map aw=List.replicate k (iF,0,eW))/\ah (oO w wr t d)) (λiv _=>m-(intOf iv).toNat)
  case atStart=>exact⟨0,_,[],aK _,rfl,rfl,rfl,y⟩
  case round=>
   obtain⟨k,t,d,hk,rfl,HD,HT,HS⟩:=hrel;obtain⟨H,K,s4,s5⟩:=HS.o;have l3:=(aL.1 K).1;have ay:=s5.size;have ao:wr.cell? ⟨w.heap.size,0,O⟩=X (Y O 0 0):=ai _ _ 0 _ _ _ H;have f:wr.cell? ⟨w.heap.size+1,0,O⟩=X t:=ai _ _ 0 _ _ _ K;have an:=aF _ _ 0 _ _ H;have al:=aF _ _ 0 _ _ K;obtain⟨s,a,rfl,-,-,-⟩:=lS s4.1;have P:=af s4;have S2:=af H;have L:=af s5;clear H K s4 s5;by_cases ar:(k:Int)<m
   ·have k0:(0:Int)<=k:=by omega
    obtain⟨i0,aa,ac,ad,ae⟩:=bV DW;have MK:=Gp;have aq:d.length<=10:=by have:=HD.o;omega
    have F:=(((az wr.heap.size wr).alloc (am _) (iC iG 83)).alloc (by simp) (iC #[iB iF,I J 0,Y (X ⟨wr.heap.size,0,O⟩) 4 4] 81)).drew
    have c:=af (HS.o.below F);have ap:=af F;have R:ah (((wr.alloc (iC iG 83)).alloc (iC #[iB iF,I J 0,Y (X ⟨wr.heap.size,0,O⟩) 4 4] 81)).drew.ownsRow wr.heap.size 83 2 (Y (X ⟨wr.heap.size,0,O⟩) 4 4) eW.length (fI eW)):=af ((Ji wr).alloc (iC #[iB iF,I J 0,Y (X ⟨wr.heap.size,0,O⟩) 4 4] 81));have T:ah (∀(j:Nat) (u:iX),[iB iF,I J 0,Y (X ⟨wr.heap.size,0,O⟩) 4 4][j]?=X u->((wr.alloc (iC iG 83)).alloc (iC #[iB iF,I J 0,Y (X ⟨wr.heap.size,0,O⟩) 4 4] 81)).drew.cell? ((⟨wr.heap.size+1,0,O⟩:Addr).add j)=X u):=af (Ax (wr.alloc (iC iG 83)) #[iB iF,I J 0,Y (X ⟨wr.heap.size,0,O⟩) 4 4] 81 (wr.heap.size+1) (by simp))
    have W:=af (show w.heap.size+2<=((wr.alloc (iC iG 83)).alloc (iC #[iB iF,I J 0,Y (X ⟨wr.heap.size,0,O⟩) 4 4] 81)).drew.heap.size by simp;omega)
    have ka:(wr.alloc (iC iG 83)).cell? ⟨w.heap.size+1,0,O⟩=X (Y s d.length a):=(World.cell?_alloc_lt _ _ _ (show w.heap.size+1<wr.heap.size from l3)).trans f;have kb:((wr.alloc (iC iG 83)).alloc (iC #[iB iF,I J 0,Y (X ⟨wr.heap.size,0,O⟩) 4 4] 81)).cell? ⟨w.heap.size+1,0,O⟩=X (Y s d.length a):=(F.cell (show w.heap.size+1<wr.heap.size from l3)).trans f;have U:ah (X (w.heap.size+1)≠(Y s d.length a).ownBlock):=λe=>by
     have:=(iS P.o.1 _ e.symm).1;omega
    clear F;go_wp2;go_region_law (
     (refine step_append_lies _ (by rfl) (.tmp 17) (.tmp 20) 24 (by rfl) (w.heap.size+2) 81 i0 (iA #[iB iF,I J 0,Y O 0 0]) 3 40 Tryz.underlying24 aa ac ad ae rfl (by decide) _ d.length (gB (d.map gh)) (by simp[Act.eval]) c.o.2.2.1.1 ⟨wr.heap.size+1,0,O⟩ 1 1 [iB iF,I J 0,Y (X ⟨wr.heap.size,0,O⟩) 4 4] (by simp[Act.eval]) (by rfl) T.o (UD _ _ _ _ _) (by omega) (by unfold maxLen;omega) (by omega) W.o _ rfl ?_;intro g6 ag w6 o6 i Z E;have t6:=(i.block _ ((aL.1 c.o.2.1).1) U.o).trans c.o.2.1;have x6:w6.cell? ⟨w.heap.size+1,0,O⟩=X (Y s d.length a):=ai _ _ 0 _ _ _ t6;have y6:=aF _ _ 0 _ _ t6))
    all_goals
     have C:∀q∈d,∀g,q.2.2.1.ownBlock=X g->g<wr.heap.size:=λq x g ab=>(P.o.2.2.1 q x).2 g ab
     have C7:=af (oO.snoc (r:=(iF,0,Y (X ⟨wr.heap.size,0,O⟩) 4 4,eW)) c.o i o6 R.o (by omega) C)
     have N:ah ((d++[((iF,0,Y (X ⟨wr.heap.size,0,O⟩) 4 4,eW):Rw)]).length=k+1):=by show _=_;rw[aJ,HD.o];rfl
     have V:ah ((d++[((iF,0,Y (X ⟨wr.heap.size,0,O⟩) 4 4,eW):Rw)]).map aw=List.replicate (k+1) (iF,0,eW)):=by show _=_;rw[fm,HT.o,List.replicate_succ'];rfl
     clear C i o6 t6 x6 y6 Z E ka kb;go_wp2;go_roundw
     case rel=>exact⟨k+1,_,_,by omega,by go_num,N,V,C7⟩
     case measure=>simp[intOf];omega
   ·have D:k=m:=by omega
    have S:ah (gX (m:Int)=d.map aw):=by
     show _=_;unfold gX;rw[ak (by omega),HT.o,D]
     rfl
    have Q2:=af (dq S2.o 0 (Y s d.length a));have Q:=af (P.o.cellb (show w.heap.size<w.heap.size+2 by omega) 0 (Y s d.length a))
    have M:=af (L.o.setCell (p:=⟨w.heap.size,0,O⟩) (am _) (Y s d.length a));clear D;go_wp2;exact aE (kH rfl _ _ w.heap.size _ rfl Q2.o) rfl ⟨_,rfl,by rw[S.o];exact⟨d,rfl,Q.o.down (by omega)⟩,M.o⟩
 ·have b:decide (3<=n/\n<=10)=iF:=bf B;have S:ah (gX n=[]):=by show _=_;unfold gX;rw[aj B]
  obtain rfl:bb=iF:=x.symm.trans b;clear B x;go_enter Tryz.func98,Tryz.ntmps98;go_wp2_with fail;refine(ie n 3 10 _).mono ?_;rintro e v ⟨rfl,rfl⟩;rw[b];clear b;have c0:(w.alloc (iC #[Y O 0 0] 26)).cell? ⟨w.heap.size,0,O⟩=X (Y O 0 0):=ai _ _ 0 _ _ _ z.o;have f0:=aF _ _ 0 _ _ z.o;go_wp2;exact aE (kH rfl _ _ w.heap.size _ rfl z.o) rfl ⟨_,rfl,by rw[S.o];exact⟨[],rfl,⟨rfl,.inl ⟨rfl,rfl⟩⟩,λg hg=>(by cases hg),λr hr=>(by cases hr),List.Pairwise.nil⟩,h.o⟩
def oM(n:Int):Dv×Bool:=if 3<=n/\n<=10 then fj (gX n)else(sd,iF)
theorem Mr(n:Int)(w:iW):iK Tryz.prog 59 #[I J n] w (Dz w (oM n).1 (oM n).2):=by
 have N:=aR w (iC #[Y O 0 0,Y O 0 0,Y O 0 0,I J 0,I J 0,I J 0,I J 0] 34);have W:aU (w.alloc (iC #[Y O 0 0,Y O 0 0,Y O 0 0,I J 0,I J 0,I J 0,I J 0] 34)) w.heap.size (Y O 0 0) (Y O 0 0) (Y O 0 0) 0 0 0 0:=aC _ _;generalize R:w.alloc (iC #[Y O 0 0,Y O 0 0,Y O 0 0,I J 0,I J 0,I J 0,I J 0] 34)=wa at N W;have H:=af (Qt n wa);have ZA:=af W;have BA:=af N;clear W N;obtain⟨P,f⟩:∃P,decide (3<=n/\n<=10)=P:=⟨_,rfl⟩;rw[f]at H;have s:=af f;clear f;go_enter Tryz.func59,Tryz.ntmps59;go_wp2_with fail;clear R;refine H.o.mono ?_;rintro e z ⟨u,rfl,F,K⟩;obtain⟨x,t,rfl⟩:=F.form;obtain⟨bs,i⟩:=aq (gX n);rw[i]at F⊢;have HF:=af i;clear i;have E:=aR z (iC #[Y x bs.length t] 26);have a:=af ((ZA.o.below K).below E);have L:=BA.o.trans (K.mono BA.o.size);have j:=af (L.trans (E.mono L.size));have C:=af (F.rdb.below E);have k1:(z.alloc (iC #[Y x bs.length t] 26)).cell? ⟨z.heap.size,0,O⟩=X (Y x bs.length t):=ai _ _ 0 _ _ _ (aC z _);generalize aa:z.alloc (iC #[Y x bs.length t] 26)=w2 at a j C k1;clear H ZA BA K L E F;cases hc:P with
 |false=>
  have l:¬(3<=n/\n<=10):=λh=>by have:=s.o;rw[hc,qO]at this;exact this h
  have A:ah (oM n=(sd,iF)):=by show _=_;unfold oM;rw[aj l]
  clear l;obtain⟨y0,y1,y2,y3,y4,y5,y6⟩:=a.o.cells;have f0:=a.o.fr 0;have f1:=a.o.fr 1;have f2:=a.o.fr 2;have f3:=a.o.fr 3;have f4:=a.o.fr 4;have f5:=a.o.fr 5;have f6:=a.o.fr 6;have m:=af (lI a.o (Y O 0 0) (Y O 0 0) (Y O 0 0) 0 0 0 0);have k:=af (ly (Y O 0 0) (Y O 0 0) (Y O 0 0) 0 0 0 0 j.o (g:=w.heap.size) (by omega))
  have r:=af (Fm (B:=w.heap.size) (bF w2 w.heap.size (Y O 0 0) (Y O 0 0) (Y O 0 0) 0 0 0 0) k.o.size);unfold bF at m k r;clear a j C;go_wp2;refine aE (pU (p:=2) (q:=3) rfl _ _ w.heap.size _ _ _ _ _ _ _ rfl m.o) rfl ?_;rw[A.o];exact⟨_,rfl,r.o,FU,k.o⟩
 |true=>
  have l:3<=n/\n<=10:=by have:=s.o;rw[hc,bH]at this;exact this
  have A:ah (oM n=fj bs):=by show _=_;unfold oM;rw[ak l,HF.o]
  have y:bo bs=iV:=by rw[<-HF.o];exact(Right.new l).1
  have G:=af (Cu (Y x bs.length t) bs w2 (Ic y) C.o);obtain⟨D,ok,hD⟩:∃D ok,fj bs=(D,ok):=⟨_,_,rfl⟩;rw[hD]at G A;clear l y hD C;go_wp2_with fail;refine G.o.mono ?_;rintro e w3 ⟨v,rfl,Q,df,M⟩;obtain⟨d,c,U,V,vc,ad,T,cap,rfl⟩:=Q.form;have b:=af (a.o.below M);have Z:=af (j.o.trans (M.mono j.o.size));have S:=a.o.lt;obtain⟨y0,y1,y2,y3,y4,y5,y6⟩:=b.o.cells;have f0:=b.o.fr 0;have f1:=b.o.fr 1;have f2:=b.o.fr 2;have f3:=b.o.fr 3;have f4:=b.o.fr 4;have f5:=b.o.fr 5;have f6:=b.o.fr 6;have m:=af (lI b.o (Y d D.fH.length c) (Y U V vc) (Y ad T cap) D.fS.next D.seq D.tx D.base);have k:=af (ly (Y d D.fH.length c) (Y U V vc) (Y ad T cap) D.fS.next D.seq D.tx D.base Z.o (g:=w.heap.size) (by omega))
  have r:=af ((Q.put S (Y d D.fH.length c) (Y U V vc) (Y ad T cap) D.fS.next D.seq D.tx D.base).down (Nat.le_of_lt S));have FF:=af df;unfold bF at m k r;clear b Z a j Q df M G k1 S;go_wp2;refine aE (pU (p:=2) (q:=3) rfl _ _ w.heap.size _ _ _ _ _ _ _ rfl m.o) rfl ?_;rw[A.o];exact⟨_,rfl,r.o,FF.o,k.o⟩
theorem aU.fl{W:iW}{a b c:iX}{n q t s:Int}(h:aU W g a b c n q t s)(x:iX):aU (W.setCell ⟨g,0,O⟩ x) g x b c n q t s:=bw _ _ 0 _ _ _ h
theorem Eb(v:iX)(d:Dv)(w:iW)(h:eP w v d)(hf:d.Fit):iK Tryz.prog 100 #[v] w (rZ w d):=by
 obtain⟨r,q,t,z,vc,ad,s,cap,rfl,h1,h2,h3⟩:=h.form;have F:=aR w (iC #[Y r d.fH.length q,Y t z vc,Y ad s cap,I J d.fS.next,I J d.seq,I J d.tx,I J d.base] 34);have H:aU (w.alloc (iC #[Y r d.fH.length q,Y t z vc,Y ad s cap,I J d.fS.next,I J d.seq,I J d.tx,I J d.base] 34)) w.heap.size (Y r d.fH.length q) (Y t z vc) (Y ad s cap) d.fS.next d.seq d.tx d.base:=aC _ _;have L:(w.alloc (iC #[Y r d.fH.length q,Y t z vc,Y ad s cap,I J d.fS.next,I J d.seq,I J d.tx,I J d.base] 34)).heap.size=w.heap.size+1:=by simp
 have N:iL w.heap.size w ((w.alloc (iC #[Y r d.fH.length q,Y t z vc,Y ad s cap,I J d.fS.next,I J d.seq,I J d.tx,I J d.base] 34)).alloc (iC #[Y O 0 0,Y O 0 0,Y O 0 0,I J 0,I J 0,I J 0,I J 0] 34)):=F.alloc (by omega) _
 have G:=H.below (w':=(w.alloc (iC #[Y r d.fH.length q,Y t z vc,Y ad s cap,I J d.fS.next,I J d.seq,I J d.tx,I J d.base] 34)).alloc (iC #[Y O 0 0,Y O 0 0,Y O 0 0,I J 0,I J 0,I J 0,I J 0] 34)) (bh);have zA:aU ((w.alloc (iC #[Y r d.fH.length q,Y t z vc,Y ad s cap,I J d.fS.next,I J d.seq,I J d.tx,I J d.base] 34)).alloc (iC #[Y O 0 0,Y O 0 0,Y O 0 0,I J 0,I J 0,I J 0,I J 0] 34)) (w.heap.size+1) (Y O 0 0) (Y O 0 0) (Y O 0 0) 0 0 0 0:=by
  rw[<-L];exact aC _ _
 generalize aa:(w.alloc (iC #[Y r d.fH.length q,Y t z vc,Y ad s cap,I J d.fS.next,I J d.seq,I J d.tx,I J d.base] 34)).alloc (iC #[Y O 0 0,Y O 0 0,Y O 0 0,I J 0,I J 0,I J 0,I J 0] 34)=wa at N G zA;have CF:=af (wD _ d.fH wa h2 (h1.below N));have U:=af N;have M:=af G;have V:=af zA;have HI:=af h3;have HF:=af hf;have a0:=G.cells.1;have a1:=G.fr 0;clear F H L N G zA h1 h2 h3 h hf;go_enter Tryz.func100,Tryz.ntmps100;go_wp2_with fail;clear aa;refine CF.o.mono ?_;rintro e D ⟨x,rfl,X,B⟩;obtain⟨l,j,rfl⟩:=X.form;have ac:=V.o.lt;have E:=af ((U.o.trans (B.mono U.o.size)).setCell (p:=⟨w.heap.size,0,O⟩) (am _) (Y l d.fH.length j));have n:=af ((M.o.below B).fl (Y l d.fH.length j));have W:=af ((V.o.below B).far (h:=w.heap.size) (k:=0) (u:=Y l d.fH.length j) (by omega))
 have S:ah (cF wa.heap.size D.heap.size (Y l d.fH.length j) d.fH (D.setCell ⟨w.heap.size,0,O⟩ (Y l d.fH.length j))):=cF.loc _ _ _ _ D _ (λy y1 y2=>aS _ _ _ _ (show y≠w.heap.size by omega)) X
 have Z:(D.setCell ⟨w.heap.size,0,O⟩ (Y l d.fH.length j)).heap.size=D.heap.size:=by simp
 have c0:=(M.o.below B).cells.1;have c1:=(M.o.below B).fr 0;have ae:=B.size;have CS:=af (mc (HI.o.below E.o));obtain⟨-,e1,e2,e3,-,-,-⟩:=n.o.cells;clear CF U M V HI X B a0 a1;go_wp2_with fail;generalize ab:D.setCell ⟨w.heap.size,0,O⟩ (Y l d.fH.length j)=w2 at n W E S CS Z e1 e2 e3⊢;clear ab c0 c1;refine CS.o.mono ?_;rintro e A ⟨u,rfl,so,-⟩;obtain⟨vv,kv,lo1,hi1,lo2,hi2,rfl,s1,s2,s3,s4,s5,s6,s7,m⟩:=so;obtain⟨c,f,rfl,-⟩:=s1.form;obtain⟨b,a,rfl⟩:=s2.form;have T:=af ((n.o.below m).fS (Y c d.fS.fV.length f) (Y b d.fS.fK.length a) d.fS.next);have C:w.heap.size+1≠w.heap.size:=by omega
 have i:=af ((((W.o.below m).far (h:=w.heap.size) (k:=1) (u:=Y c d.fS.fV.length f) C).far (h:=w.heap.size) (k:=2) (u:=Y b d.fS.fK.length a) C).far (h:=w.heap.size) (k:=3) (u:=I J d.fS.next) C);have b4:=E.o.trans (m.mono E.o.size);have Q:=af (((b4.setCell (p:=⟨w.heap.size,1,O⟩) (am _) (Y c d.fS.fV.length f)).setCell (p:=⟨w.heap.size,2,O⟩) (am _) (Y b d.fS.fK.length a)).setCell (p:=⟨w.heap.size,3,O⟩) (am _) (I J d.fS.next));have P:∀x,x≠w.heap.size->(((A.setCell ⟨w.heap.size,1,O⟩ (Y c d.fS.fV.length f)).setCell ⟨w.heap.size,2,O⟩ (Y b d.fS.fK.length a)).setCell ⟨w.heap.size,3,O⟩ (I J d.fS.next)).heap[x]?=A.heap[x]?:=λx hx=>by
  rw[aS _ ⟨w.heap.size,3,O⟩ _ _ hx,aS _ ⟨w.heap.size,2,O⟩ _ _ hx,aS _ ⟨w.heap.size,1,O⟩ _ _ hx]
 have K:(((A.setCell ⟨w.heap.size,1,O⟩ (Y c d.fS.fV.length f)).setCell ⟨w.heap.size,2,O⟩ (Y b d.fS.fK.length a)).setCell ⟨w.heap.size,3,O⟩ (I J d.fS.next)).heap.size=A.heap.size:=by simp
 have ag:=m.size;have R:ah (cM wa.heap.size (iA #[Y l d.fH.length j,Y c d.fS.fV.length f,Y b d.fS.fK.length a,I J d.fS.next,I J d.seq,I J d.tx,I J d.base]) d (((A.setCell ⟨w.heap.size,1,O⟩ (Y c d.fS.fV.length f)).setCell ⟨w.heap.size,2,O⟩ (Y b d.fS.fK.length a)).setCell ⟨w.heap.size,3,O⟩ (I J d.fS.next))):=by
  refine⟨_,_,_,wa.heap.size,D.heap.size,lo1,hi1,lo2,hi2,rfl,cF.loc _ _ _ _ w2 _ (λy y1 y2=>(P y (by omega)).trans (m.block y (by omega))) S.o,aG.loc _ _ _ _ _ _ A _ (λy y1 y2=>P y (by omega)) s1,dy.loc _ _ _ _ A _ (λy y1 y2=>P y (by omega)) s2,⟨am _,?_⟩,⟨?_,?_⟩,⟨?_,?_⟩,.inl ?_,.inl ?_,s7⟩<;>(try rw[K])<;>omega
 have c1:=(n.o.below m).cells;obtain⟨-,c1,c2,c3,-,-,-⟩:=c1;have q1:=(n.o.below m).fr 1;have q2:=(n.o.below m).fr 2;have q3:=(n.o.below m).fr 3;clear CS s1 s2 s3 s4 s5 s6 s7 m b4 P K n W E S e1 e2 e3;go_upto_region 3 with fail
 generalize((A.setCell ⟨w.heap.size,1,O⟩ (Y c d.fS.fV.length f)).setCell ⟨w.heap.size,2,O⟩ (Y b d.fS.fK.length a)).setCell ⟨w.heap.size,3,O⟩ (I J d.fS.next)=w4 at T i Q R⊢;clear c1 c2 c3 q1 q2 q3;obtain⟨g0,g1,g2,g3,g4,g5,g6⟩:=T.o.cells;obtain⟨i0,i1,i2,i3,i4,i5,i6⟩:=i.o.cells;have q0:=i.o.fr 0;have q1:=i.o.fr 1;have q2:=i.o.fr 2;have q3:=i.o.fr 3;have q4:=i.o.fr 4;have q5:=i.o.fr 5;have q6:=i.o.fr 6;have FD:=af (lI i.o (Y l d.fH.length j) (Y c d.fS.fV.length f) (Y b d.fS.fK.length a) d.fS.next d.seq d.tx d.base);have FB:=af (ly (Y l d.fH.length j) (Y c d.fS.fV.length f) (Y b d.fS.fK.length a) d.fS.next d.seq d.tx d.base Q.o (g:=w.heap.size+1) (by omega))
 have FI:=af ((R.o.put ac (Y l d.fH.length j) (Y c d.fS.fV.length f) (Y b d.fS.fK.length a) d.fS.next d.seq d.tx d.base).down (B':=w.heap.size) (by omega))
 unfold bF at FD FB FI;clear T i Q R;go_wp2;refine aE (xU (p:=2) rfl _ _ (w.heap.size+1) _ _ _ _ _ _ _ rfl FD.o) rfl ?_;exact⟨_,rfl,FI.o,HF.o,FB.o⟩
theorem Wx(v:iX)(rs:List Rw)(w:iW)(hl:rs.length<=1048576)(i:∀r∈rs,r.2.2.2.length<=1048576)(U:dX w v rs):
 iK Tryz.prog 103 #[iA #[v]] w λe w'=>e=G (I J (cK (rs.map aw):Nat))/\iL w.heap.size w w':=by
 have V:=U;obtain⟨N,a,rfl,-,-⟩:=V;have Q:=af i;obtain⟨n,W⟩:=aq rs.length;have HN:=af W;have P:=af ((az w.heap.size w).alloc (am _) (iC #[Y N n a] 26));have h:=af U;rw[W]at hl h⊢;have R0:=af (aC w (iC #[Y N n a] 26));have S:=af (λk=>XK (bs:=rs.map aw) (m:=1048576) (λq H=>by obtain⟨r,j,rfl⟩:=bJ.1 H;exact i r j) k)
 clear U i W;go_enter Tryz.func103,Tryz.ntmps103;go_wp2;have Z:=af (h.o.below P.o);clear h;generalize w.alloc (iC #[Y N n a] 26)=wA at P Z R0⊢;have cf:wA.cell? ⟨w.heap.size,0,O⟩=X (Y N n a):=ai _ _ 0 _ _ _ R0.o;go_loop [3,4] (λmv T=>∃b m:Nat,T=I J b/\mv=I J m/\b<=n/\ah (ix (rs.map aw) b=m)) (λ_ T=>n-(intOf T).toNat)
 case atStart=>exact⟨0,0,rfl,rfl,aK _,rfl⟩
 case round=>
  obtain⟨b,m,rfl,rfl,r1,B⟩:=hrel;by_cases ab:(b:Int)<n
  ·have D:b<rs.length:=by have:=HN.o;omega
   obtain⟨r,j⟩:∃r,rs[b]?=X r:=⟨_,ay D⟩;have K:(rs.map aw)[b]?=X (aw r):=by rw[bi,j];rfl
   obtain⟨gv,e,⟨c1,c2,c3⟩,f⟩:=Z.o.at j;subst e;have F:=Q.o r (aO j);obtain⟨x,y,u,ls⟩:=r;simp only at c1 c2 c3;simp only at f F;have b0:(0:Int)<=b:=by omega
   have E:=f;obtain⟨ld,lc,rfl,-,-⟩:=E;have A:=af f;have C:=af K;have hm:m<=1048576*1048576:=by have h1:=S.o b;rw[B.o]at h1;exact bT h1 (DK _ (by omega))
   obtain⟨t,H⟩:=aq ls.length;have R:=af H;rw[H]at c3 F;clear K f j D H;go_wp2;go_loop [3,5] (λnv kv=>∃(k p:Nat),kv=I J k/\k<=t/\nv=I J p/\p<=m+k/\ah (p=m+if x=iV then 0 else da (ls.take k))) (λ_ kv=>t-(intOf kv).toNat)
   case atStart=>exact⟨0,m,rfl,aK _,rfl,am _,(show m=m+if x=iV then 0 else da (ls.take 0)by simp[da])⟩
   case round=>
    obtain⟨k,p,rfl,hk,rfl,hp,g⟩:=hrel;by_cases aa:(k:Int)<t
    ·have d:k<ls.length:=by have:=R.o;omega
     obtain⟨z,s,L⟩:∃z t,ls[k]?=X (z,t):=⟨ls[k].1,ls[k].2,ay d⟩;obtain⟨gl,lo,e⟩:=A.o.head (by have:=R.o;omega)
     subst e;obtain⟨d1,-⟩:=A.o.two L;simp only at d1;have k0:(0:Int)<=k:=by omega
     have c:=AH L;simp only at c;cases x with
     |true=>
      have l:ah (p=m+if iV=iV then 0 else da (ls.take (k+1))):=g.o
      clear L d g c;go_wp2;go_round
      case rel=>exact⟨k+1,p,by go_num,by omega,rfl,by omega,l⟩
      case measure=>simp[intOf];omega
     |false=>
      by_cases M:z=0
      ·have l:ah (p+1=m+if iF=iV then 0 else da (ls.take (k+1))):=by
        have:=g.o;rw[ak M]at c;show _=_;simp at this⊢;omega
       subst M;clear L d g c;go_wp2;go_round
       case rel=>exact⟨k+1,p+1,by go_num,by omega,by go_num,by omega,l⟩
       case measure=>simp[intOf];omega
      ·have l:ah (p=m+if iF=iV then 0 else da (ls.take (k+1))):=by
        have:=g.o;rw[aj M]at c;show _=_;simp at this⊢;omega
       have ac:(z==0)=iF:=by simpa using M
       clear L d g c;go_wp2;go_round
       case rel=>exact⟨k+1,p,by go_num,by omega,rfl,by omega,l⟩
       case measure=>simp[intOf];omega
    ·have NL:ah (ix (rs.map aw) (b+1)=p):=by
      show _=_;have:=g.o;rw[show ls.take k=ls from bL (by have:=R.o;omega)]at this
      cases x with
      |true=>rw[Lu C.o rfl,B.o,this];rfl
      |false=>rw[xe C.o rfl,B.o,this];rfl
     clear g;go_wp2;go_round
     case rel=>exact⟨b+1,p,by go_num,rfl,by omega,NL⟩
     case measure=>simp[intOf];omega
  ·have PF:ah (cK (rs.map aw)=m):=by
    show _=_;unfold cK;rw[bm,<-B.o];congr 1;have:=HN.o;omega
   clear B;go_wp2;go_ret;exact⟨by rw[PF.o];rfl,P.o⟩
end Go.Proofs.YtgigcooffjjbgaaGreatDoor
