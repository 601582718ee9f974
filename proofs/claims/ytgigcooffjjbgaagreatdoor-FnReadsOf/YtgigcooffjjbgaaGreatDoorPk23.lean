/-
  SDoS; SStA; SNew; SDev; SRoom; SClA; PkRM; Rows3; GRow; GMath; Fits; IPlain
-/
import Derived.Test.YtgigcooffjjbgaaGreatDoorPk22
import Derived.Deep.RegionLaw
open Go.Value renaming int→I,slice→Y,string→iT,bool→iB,agg→iA,tuple→iU
open Go.IntKind renaming i64→J
open Option renaming none→O,some→X
open Go.Ending renaming returned→G
open Go.Obj renaming cells→iC
open Bool renaming true→iV,false→iF
open Go renaming World→iW,Value→iX,Calls→iK
open Go.RowKit renaming Below→iL
set_option maxHeartbeats 16000000
set_option maxRecDepth 100000
namespace Go.Proofs.YtgigcooffjjbgaaGreatDoor
open Go.RowKit
theorem Zk(v u:iX)(bs:List Bk)(l:List aM)(w:iW)(hs:dg bs)(hl:l.length<=1000000000)(U:fu w v bs)(hu:nR w u l):
 iK Tryz.prog 147 #[iA #[v],u] w λe w'=>∃x,e=G (iU #[iA #[x],I J ((de bs l).2:Int)])/\dp w' w.heap.size x (de bs l).1/\iL w.heap.size w w':=by
 obtain⟨vd,vc,rfl⟩:=U.form;obtain⟨ad,cap,rfl,u1,u2,u3⟩:=hu.form;obtain⟨n,Z⟩:=aq l.length;have S:=af Z;have Q:=af (((ax w.heap.size w).alloc (am _) (iC #[Y vd bs.length vc] 26)).alloc (by simp) (iC #[Y O 0 0] 26))
 have F0:=af (U.below Q.o);have HU:=af hu;have HS:=af hs;rw[Z]at hl u1 HU⊢;clear U hu hs u3 Z;go_enter Tryz.func147,Tryz.ntmps147;go_wp2_with fail;refine(zH _ bs _ HS.o F0.o).mono ?_;rintro e w1 ⟨x,rfl,f,b1⟩;obtain⟨xd,xc,rfl⟩:=f.form;obtain⟨c,V⟩:=aq w1.heap.size;have M:=af (gh.start b1 f V);clear b1 f F0;go_wp2;try rw[V]
 clear V;generalize w1.alloc (iC #[Y xd bs.length xc] 26)=w2 at M⊢;go_loopw [7] (λiv wr=>∃(i:Nat) (y:iX) (cs:List Bk),i<=n/\iv=I J i/\ah (de bs (l.take i)=(cs,i))/\ah (dg cs)/\ah (gh w wr c y cs)) (λiv _=>n-(intOf iv).toNat)
 case atStart=>exact⟨0,_,bs,aJ _,rfl,rfl,HS,M⟩
 case round=>
  obtain⟨i,y,cs,hi,rfl,K,L,D⟩:=hrel;clear M;obtain⟨yd,yc,rfl⟩:=D.o.form;obtain⟨k1,f1,k2,f2⟩:=D.o.cell;by_cases aa:(i:Int)<n
  ·obtain⟨s,q⟩:∃s,l[i]?=X s:=⟨_,ay (by have:=S.o;omega)⟩
   obtain⟨g,o,eg,q1,q2,q3,q4⟩:=(HU.o.below D.o.bel).at q;subst eg;have p:=af q;obtain⟨k,b,lf,t⟩:=s;simp only at q1 q2 q3 q4;have i0:(0:Int)<=i:=by omega
   obtain⟨a,ok,W⟩:∃a ok,cV cs (k,b,lf,t)=(a,ok):=⟨_,_,rfl⟩;have d:=af W;have H:=af (D.o.below (ax _ _).drew);have De:=af (D.o.below ((ax _ _).alloc (am _) (iC #[Y O 0 0] 26)).drew);have B:=af (Av (Y yd cs.length yc) cs (k,b,lf,t) wr.drew L.o H.o.rdb);have C:=af (Av (Y yd cs.length yc) cs (k,b,lf,t) (wr.alloc (iC #[Y O 0 0] 26)).drew L.o De.o.rdb);unfold yp at B C;rw[W]at B C;simp only at B C;have r:ok=iF->ah (de bs l=(cs,i)):=λh=>Od K.o p.o (by rw[d.o];exact h)
   have m:ok=iV->ah (de bs (l.take (i+1))=(a,i+1)):=λh=>by
    have:=aaq K.o p.o (by rw[d.o];exact h)
    rw[d.o]at this;exact this
   have R:ah (dg a):=by have:=L.o.step (k,b,lf,t);rw[d.o]at this;exact this
   clear q W;have gw:g<wr.heap.size:=bk wr _ q1;have cw:c<wr.heap.size:=bk wr _ k1;go_wp2;go_region_with (first
    |(go_at_call 185;(with_reducible refine cn B.o ?_);rintro en w4 ⟨z,rfl,f,A⟩;obtain⟨zd,zc,rfl⟩:=f.form;have D4:=af (H.o.below A);have FO:=af f;have B4:=af A;clear f A)
    |(go_at_call 185;(with_reducible refine cn C.o ?_);rintro en w5 ⟨z,rfl,f,A⟩;obtain⟨zd,zc,rfl⟩:=f.form;have N:=af (D.o.next2 A f);obtain⟨n5,f5⟩:=N.o.1;clear f A))
   all_goals first
    |(have T:=(ax w4.heap.size w4).alloc (am _) (iC #[Y zd a.length zc] 26)
      have D5:=af (D4.o.below T);have DN:=af (H.o.next B4.o FO.o T);obtain⟨p1,p4,p2,p3⟩:=D5.o.cell;have j:=af D5.o.fin;clear T FO B4 D4)
    |(obtain⟨-,p0,p5,p6⟩:=N.o
      have DN:=af p6;have j:=af p5.fin;obtain⟨p1,p4,p2,p3⟩:=p5.cell;clear p5 p6 N n5 f5)
   all_goals
    clear B C D De H k1 k2 f1 f2 q1 q2 q3 q4 K L d p;cases ok with
    |false=>
     have E:=r rfl;clear m r;go_wp2;exact az (kF rfl _ _ (w.heap.size+1) _ rfl j.o.1) rfl ⟨_,by rw[E.o];rfl,by rw[E.o];exact j.o.2.1,j.o.2.2⟩
    |true=>
     have P:=m rfl;clear r m;go_wp2;go_roundw
     case rel=>exact⟨i+1,_,a,by omega,by go_num,P,R,DN⟩
     case measure=>simp[intOf];omega
  ·have F:i=n:=by omega
   have r:ah (de bs l=(cs,n)):=by
    have:=Oe K.o (F.trans S.o.symm);rw[S.o]at this;exact this
   have j:=af D.o.fin;clear F;go_wp2;exact az (kF rfl _ _ (w.heap.size+1) _ rfl j.o.1) rfl ⟨_,by rw[r.o];rfl,by rw[r.o];exact j.o.2.1,j.o.2.2⟩
open Words Sums
theorem Hv(x u:iX)(d:Dv)(l:List aM)(w:iW)(h:eY w x d)(hl:l.length<=1000000000)(hu:nR w u l):iK Tryz.prog 106 #[x,u] w (se w (fY d l)):=by
 obtain⟨s,r,v,A,vc,ad,t,cap,rfl,h1,h2,h3⟩:=h.form;have E:=aT w (iC #[Y s d.fH.length r,Y v A vc,Y ad t cap,I J d.fS.next,I J d.seq,I J d.tx,I J d.base] 34);have F:aU (w.alloc (iC #[Y s d.fH.length r,Y v A vc,Y ad t cap,I J d.fS.next,I J d.seq,I J d.tx,I J d.base] 34)) w.heap.size (Y s d.fH.length r) (Y v A vc) (Y ad t cap) d.fS.next d.seq d.tx d.base:=aB _ _;have H:(w.alloc (iC #[Y s d.fH.length r,Y v A vc,Y ad t cap,I J d.fS.next,I J d.seq,I J d.tx,I J d.base] 34)).heap.size=w.heap.size+1:=by simp
 have C:iL w.heap.size w ((w.alloc (iC #[Y s d.fH.length r,Y v A vc,Y ad t cap,I J d.fS.next,I J d.seq,I J d.tx,I J d.base] 34)).alloc (iC #[Y O 0 0,Y O 0 0,Y O 0 0,I J 0,I J 0,I J 0,I J 0] 34)):=E.alloc (by omega) _
 have gA:=F.below (w':=(w.alloc (iC #[Y s d.fH.length r,Y v A vc,Y ad t cap,I J d.fS.next,I J d.seq,I J d.tx,I J d.base] 34)).alloc (iC #[Y O 0 0,Y O 0 0,Y O 0 0,I J 0,I J 0,I J 0,I J 0] 34)) (aZ);have zA:aU ((w.alloc (iC #[Y s d.fH.length r,Y v A vc,Y ad t cap,I J d.fS.next,I J d.seq,I J d.tx,I J d.base] 34)).alloc (iC #[Y O 0 0,Y O 0 0,Y O 0 0,I J 0,I J 0,I J 0,I J 0] 34)) (w.heap.size+1) (Y O 0 0) (Y O 0 0) (Y O 0 0) 0 0 0 0:=by
  rw[<-H];exact aB _ _
 generalize aa:(w.alloc (iC #[Y s d.fH.length r,Y v A vc,Y ad t cap,I J d.fS.next,I J d.seq,I J d.tx,I J d.base] 34)).alloc (iC #[Y O 0 0,Y O 0 0,Y O 0 0,I J 0,I J 0,I J 0,I J 0] 34)=wa at C gA zA;have P:=af (Zk (Y s d.fH.length r) u d.fH l wa h2 hl (h1.below C) (hu.below C));have B:=af (h2.all l);have n:ah (fY d l=(fw (de d.fH l).1).1):=rfl;obtain⟨cs,nn,G⟩:∃cs nn,de d.fH l=(cs,nn):=⟨_,_,rfl⟩;rw[G]at P B n;simp only at P B n;have Z:=af C;have HZ:=af zA;have a0:=gA.cells.1;clear E F H C gA zA h1 h2 h3 h hu G;go_enter Tryz.func106,Tryz.ntmps106;go_wp2_with fail;clear aa;refine P.o.mono ?_;rintro e K ⟨y,rfl,fo,b1⟩;obtain⟨M,L,rfl⟩:=fo.form;have S:=aT K (iC #[Y M cs.length L] 26);have b2:=Z.o.trans (b1.mono Z.o.size);have N:=af (b2.trans (S.mono b2.size));have R:=af ((HZ.o.below b1).below S);have R1:=fo.rdb.below S;have k1:(K.alloc (iC #[Y M cs.length L] 26)).cell? ⟨K.heap.size,0,O⟩=X (Y M cs.length L):=aj _ _ 0 _ _ _ (aB K _);generalize ab:K.alloc (iC #[Y M cs.length L] 26)=w2 at N R R1 k1;have Q:=af (Dh (Y M cs.length L) cs w2 B.o R1);obtain⟨D,ok,hD⟩:∃D ok,fw cs=(D,ok):=⟨_,_,rfl⟩;rw[hD]at Q n;simp only at Q n;clear P Z HZ fo b1 S b2 R1 hD a0;go_wp2_with fail;refine Q.o.mono ?_;rintro e U ⟨z,rfl,dv,df,b3⟩;obtain⟨f,c,j,m,k,b,i,a,rfl⟩:=dv.form;have T:=aT U (iC #[Y f D.fH.length c,Y j m k,Y b i a,I J D.fS.next,I J D.seq,I J D.tx,I J D.base] 34);have X4:aU (U.alloc (iC #[Y f D.fH.length c,Y j m k,Y b i a,I J D.fS.next,I J D.seq,I J D.tx,I J D.base] 34)) U.heap.size (Y f D.fH.length c) (Y j m k) (Y b i a) D.fS.next D.seq D.tx D.base:=aB _ _;have b4:=N.o.trans (b3.mono N.o.size);have V:=af (b4.trans (T.mono b4.size));have q:=af ((R.o.below b3).below T);have hz:=R.o.lt;have W:=af (dv.below T);have FF:=af df;obtain⟨g0,g1,g2,g3,g4,g5,g6⟩:=X4.cells;generalize ac:U.alloc (iC #[Y f D.fH.length c,Y j m k,Y b i a,I J D.fS.next,I J D.seq,I J D.tx,I J D.base] 34)=w4 at V q W g0 g1 g2 g3 g4 g5 g6;obtain⟨i0,i1,i2,i3,i4,i5,i6⟩:=q.o.cells;have q0:=q.o.fr 0;have q1:=q.o.fr 1;have q2:=q.o.fr 2;have q3:=q.o.fr 3;have q4:=q.o.fr 4;have q5:=q.o.fr 5;have q6:=q.o.fr 6;have FD:=af (mc q.o (Y f D.fH.length c) (Y j m k) (Y b i a) D.fS.next D.seq D.tx D.base);have FB:=af (ma (Y f D.fH.length c) (Y j m k) (Y b i a) D.fS.next D.seq D.tx D.base V.o (g:=w.heap.size+1) (by omega))
 have FI:=af ((W.o.put hz (Y f D.fH.length c) (Y j m k) (Y b i a) D.fS.next D.seq D.tx D.base).down (B':=w.heap.size) (by omega))
 unfold bI at FD FB FI;clear R q N V W Q dv df b3 T X4 b4 k1 hz;go_wp2;refine az (zg (p:=4) rfl _ _ (w.heap.size+1) _ _ _ _ _ _ _ rfl FD.o) rfl ?_;rw[n.o];exact⟨_,rfl,FI.o,FF.o,FB.o⟩
def pQ(w wr:iW)(a:iX)(d:List Rw):Prop:=
 wr.heap[w.heap.size]?=X (iC #[Y O 0 0] 26 (0,0))/\wr.heap[w.heap.size+1]?=X (iC #[a] 26 (0,0))/\fk wr (w.heap.size+2) wr.heap.size a d/\iL w.heap.size w wr
theorem pQ.below{w wr w':iW}{b:iX}{d:List Rw}(h:pQ w wr b d)(a:iL wr.heap.size wr w'):pQ w w' b d:=by
 obtain⟨f,c,h4,e⟩:=h;have g:=(aK.1 c).1;exact⟨(a.block _ (by omega)).trans f,(a.block _ (by omega)).trans c,(h4.below a (am _)).up a.size,e.trans (a.mono e.size)⟩
variable{q0:Int}{T:List UInt8 -> Prop}{B' g n B z:Nat}{w W W':iW}{x a b c u:iX}
theorem pQ.snoc {w wr w':iW} {c a:iX} {d:List Rw} {r:Rw} (h:pQ w wr c d) (j:wr.grownBy w' c.ownBlock)
 (v:w'.ownsRow (w.heap.size+2) 81 3 a (d.length+1) (gH (d.map gt)++[iB r.1,I J r.2.1,r.2.2.1])) (u:wr.ownsRow B' 83 2 r.2.2.1 r.2.2.2.length (fT r.2.2.2)) (o:w.heap.size+2<=B')
 (b:∀q∈d,∀g,q.2.2.1.ownBlock=X g->g<B'):pQ w (w'.setCell ⟨w.heap.size+1,0,O⟩ a) a (d++[r]):=by
 obtain⟨n,l,h4,m⟩:=h;have x:=(aK.1 l).1;have f:∀i,i<w.heap.size+2->X i≠c.ownBlock:=λi hi e=>by
  have:=(iM h4.1 i e.symm).1;omega
 have s:=h4.snoc j v u o b;refine⟨cX ((j.block _ (by omega) (f _ (by omega))).trans n) (by omega) _ _,dz ((j.block _ (by omega) (f _ (by omega))).trans l) _ _,s.cellb (by omega) _ _,?_⟩
 exact(m.trans ((ax w.heap.size wr).grown j m.size (λk t=>by have:=(iM h4.1 k t).1;omega))).setCell (p:=⟨w.heap.size+1,0,O⟩) (by show _<=_+1;omega) _
theorem YQ(n:Int)(w:iW):
 iK Tryz.prog 98 #[I J n] w λe w'=>∃u,e=G (iU #[iA #[u],iB (decide (3<=n/\n<=10))])/\dp w' w.heap.size u (gR n)/\iL w.heap.size w w':=by
 have A:=(ax w.heap.size w).alloc (am _) (iC #[Y O 0 0] 26);have h:=af A;have z:=af (aB w (iC #[Y O 0 0] 26));have HZ:=af (show(w.alloc (iC #[Y O 0 0] 26)).heap.size=w.heap.size+1 by simp)
 clear A;generalize x:decide (3<=n/\n<=10)=bb;by_cases B:3<=n/\n<=10
 ·obtain⟨m,rfl⟩:∃m:Nat,n=m:=⟨n.toNat,by omega⟩
  have b:decide (3<=(m:Int)/\(m:Int)<=10)=iV:=aS B;obtain rfl:bb=iV:=x.symm.trans b;clear x;have av:3<=m:=by omega
  have ay:m<=10:=by omega
  have au:(0:Int)<=m:=by omega
  clear B;go_enter Tryz.func98,Tryz.ntmps98;go_wp2_with fail;refine(ij (m:Int) 3 10 _).mono ?_;rintro e v ⟨rfl,rfl⟩;rw[b];clear b;generalize w.alloc (iC #[Y O 0 0] 26)=v at h z HZ⊢;have l:=(ax v.heap.size v).alloc (am _) (iC #[Y O 0 0] 26);have r1:=aB v (iC #[Y O 0 0] 26);have hz:=HZ.o;rw[hz]at r1;have y:ah (pQ w (v.alloc (iC #[Y O 0 0] 26)) (Y O 0 0) []):=
   ⟨(l.block _ (by omega)).trans z.o,r1,⟨⟨rfl,.inl ⟨rfl,rfl⟩⟩,λg hg=>(by cases hg),λr hr=>(by cases hr),List.Pairwise.nil⟩,h.o.trans (l.mono (by omega))⟩
  clear l r1;go_wp2;clear hz;generalize v.alloc (iC #[Y O 0 0] 26)=w2 at y⊢;go_loopw [5] (λiv wr=>∃(k:Nat) (t:iX) (d:List Rw),k<=m/\iv=I J k/\ah (d.length=k)/\ah (d.map aw=List.replicate k (iF,0,eZ))/\ah (pQ w wr t d)) (λiv _=>m-(intOf iv).toNat)
  case atStart=>exact⟨0,_,[],aJ _,rfl,rfl,rfl,y⟩
  case round=>
   obtain⟨k,t,d,hk,rfl,HD,HT,HS⟩:=hrel;obtain⟨H,K,s4,s5⟩:=HS.o;have l3:=(aK.1 K).1;have aA:=s5.size;have ao:wr.cell? ⟨w.heap.size,0,O⟩=X (Y O 0 0):=aj _ _ 0 _ _ _ H;have f:wr.cell? ⟨w.heap.size+1,0,O⟩=X t:=aj _ _ 0 _ _ _ K;have an:=aF _ _ 0 _ _ H;have al:=aF _ _ 0 _ _ K;obtain⟨s,a,rfl,-,-,-⟩:=lM s4.1;have P:=af s4;have S2:=af H;have L:=af s5;clear H K s4 s5;by_cases ar:(k:Int)<m
   ·have k0:(0:Int)<=k:=by omega
    obtain⟨i0,aa,ac,ad,ae⟩:=bO FQ;have MK:=FH;have aq:d.length<=10:=by have:=HD.o;omega
    have F:=(((ax wr.heap.size wr).alloc (am _) (iC jg 83)).alloc (by simp) (iC #[iB iF,I J 0,Y (X ⟨wr.heap.size,0,O⟩) 4 4] 81)).drew
    have c:=af (HS.o.below F);have ap:=af F;have R:ah (((wr.alloc (iC jg 83)).alloc (iC #[iB iF,I J 0,Y (X ⟨wr.heap.size,0,O⟩) 4 4] 81)).drew.ownsRow wr.heap.size 83 2 (Y (X ⟨wr.heap.size,0,O⟩) 4 4) eZ.length (fT eZ)):=af ((Gb wr).alloc (iC #[iB iF,I J 0,Y (X ⟨wr.heap.size,0,O⟩) 4 4] 81));have T:ah (∀(j:Nat) (u:iX),[iB iF,I J 0,Y (X ⟨wr.heap.size,0,O⟩) 4 4][j]?=X u->((wr.alloc (iC jg 83)).alloc (iC #[iB iF,I J 0,Y (X ⟨wr.heap.size,0,O⟩) 4 4] 81)).drew.cell? ((⟨wr.heap.size+1,0,O⟩:Addr).add j)=X u):=af (Cg (wr.alloc (iC jg 83)) #[iB iF,I J 0,Y (X ⟨wr.heap.size,0,O⟩) 4 4] 81 (wr.heap.size+1) (by simp))
    have W:=af (show w.heap.size+2<=((wr.alloc (iC jg 83)).alloc (iC #[iB iF,I J 0,Y (X ⟨wr.heap.size,0,O⟩) 4 4] 81)).drew.heap.size by simp;omega)
    have ka:(wr.alloc (iC jg 83)).cell? ⟨w.heap.size+1,0,O⟩=X (Y s d.length a):=(World.cell?_alloc_lt _ _ _ (show w.heap.size+1<wr.heap.size from l3)).trans f;have kb:((wr.alloc (iC jg 83)).alloc (iC #[iB iF,I J 0,Y (X ⟨wr.heap.size,0,O⟩) 4 4] 81)).cell? ⟨w.heap.size+1,0,O⟩=X (Y s d.length a):=(F.cell (show w.heap.size+1<wr.heap.size from l3)).trans f;have U:ah (X (w.heap.size+1)≠(Y s d.length a).ownBlock):=λe=>by
     have:=(iM P.o.1 _ e.symm).1;omega
    clear F;go_wp2;go_region_law (
     (refine step_append_lies _ (by rfl) (.tmp 17) (.tmp 20) 24 (by rfl) (w.heap.size+2) 81 i0 (iA #[iB iF,I J 0,Y O 0 0]) 3 40 Tryz.underlying24 aa ac ad ae rfl (by decide) _ d.length (gH (d.map gt)) (by simp[Act.eval]) c.o.2.2.1.1 ⟨wr.heap.size+1,0,O⟩ 1 1 [iB iF,I J 0,Y (X ⟨wr.heap.size,0,O⟩) 4 4] (by simp[Act.eval]) (by rfl) T.o (YE _ _ _ _ _) (by omega) (by unfold maxLen;omega) (by omega) W.o _ rfl ?_;intro g6 ag w6 o6 i Z E;have t6:=(i.block _ ((aK.1 c.o.2.1).1) U.o).trans c.o.2.1;have x6:w6.cell? ⟨w.heap.size+1,0,O⟩=X (Y s d.length a):=aj _ _ 0 _ _ _ t6;have y6:=aF _ _ 0 _ _ t6))
    all_goals
     have C:∀q∈d,∀g,q.2.2.1.ownBlock=X g->g<wr.heap.size:=λq x g ab=>(P.o.2.2.1 q x).2 g ab
     have C7:=af (pQ.snoc (r:=(iF,0,Y (X ⟨wr.heap.size,0,O⟩) 4 4,eZ)) c.o i o6 R.o (by omega) C)
     have N:ah ((d++[((iF,0,Y (X ⟨wr.heap.size,0,O⟩) 4 4,eZ):Rw)]).length=k+1):=by show _=_;rw[aI,HD.o];rfl
     have V:ah ((d++[((iF,0,Y (X ⟨wr.heap.size,0,O⟩) 4 4,eZ):Rw)]).map aw=List.replicate (k+1) (iF,0,eZ)):=by show _=_;rw[gV,HT.o,List.replicate_succ'];rfl
     clear C i o6 t6 x6 y6 Z E ka kb;go_wp2;go_roundw
     case rel=>exact⟨k+1,_,_,by omega,by go_num,N,V,C7⟩
     case measure=>simp[intOf];omega
   ·have D:k=m:=by omega
    have S:ah (gR (m:Int)=d.map aw):=by
     show _=_;unfold gR;rw[ak (by omega),HT.o,D]
     rfl
    have Q2:=af (dz S2.o 0 (Y s d.length a));have Q:=af (P.o.cellb (show w.heap.size<w.heap.size+2 by omega) 0 (Y s d.length a))
    have M:=af (L.o.setCell (p:=⟨w.heap.size,0,O⟩) (am _) (Y s d.length a));clear D;go_wp2;exact az (kF rfl _ _ w.heap.size _ rfl Q2.o) rfl ⟨_,rfl,by rw[S.o];exact⟨d,rfl,Q.o.down (by omega)⟩,M.o⟩
 ·have b:decide (3<=n/\n<=10)=iF:=aV B;have S:ah (gR n=[]):=by show _=_;unfold gR;rw[ai B]
  obtain rfl:bb=iF:=x.symm.trans b;clear B x;go_enter Tryz.func98,Tryz.ntmps98;go_wp2_with fail;refine(ij n 3 10 _).mono ?_;rintro e v ⟨rfl,rfl⟩;rw[b];clear b;have c0:(w.alloc (iC #[Y O 0 0] 26)).cell? ⟨w.heap.size,0,O⟩=X (Y O 0 0):=aj _ _ 0 _ _ _ z.o;have f0:=aF _ _ 0 _ _ z.o;go_wp2;exact az (kF rfl _ _ w.heap.size _ rfl z.o) rfl ⟨_,rfl,by rw[S.o];exact⟨[],rfl,⟨rfl,.inl ⟨rfl,rfl⟩⟩,λg hg=>(by cases hg),λr hr=>(by cases hr),List.Pairwise.nil⟩,h.o⟩
def oX(n:Int):Dv×Bool:=if 3<=n/\n<=10 then fw (gR n)else(tN,iF)
theorem UZ(n:Int)(w:iW):iK Tryz.prog 59 #[I J n] w (Ax w (oX n).1 (oX n).2):=by
 have N:=aT w (iC #[Y O 0 0,Y O 0 0,Y O 0 0,I J 0,I J 0,I J 0,I J 0] 34);have W:aU (w.alloc (iC #[Y O 0 0,Y O 0 0,Y O 0 0,I J 0,I J 0,I J 0,I J 0] 34)) w.heap.size (Y O 0 0) (Y O 0 0) (Y O 0 0) 0 0 0 0:=aB _ _;generalize R:w.alloc (iC #[Y O 0 0,Y O 0 0,Y O 0 0,I J 0,I J 0,I J 0,I J 0] 34)=wa at N W;have H:=af (YQ n wa);have ZA:=af W;have BA:=af N;clear W N;obtain⟨P,f⟩:∃P,decide (3<=n/\n<=10)=P:=⟨_,rfl⟩;rw[f]at H;have s:=af f;clear f;go_enter Tryz.func59,Tryz.ntmps59;go_wp2_with fail;clear R;refine H.o.mono ?_;rintro e z ⟨u,rfl,F,K⟩;obtain⟨x,t,rfl⟩:=F.form;obtain⟨bs,i⟩:=aq (gR n);rw[i]at F⊢;have HF:=af i;clear i;have E:=aT z (iC #[Y x bs.length t] 26);have a:=af ((ZA.o.below K).below E);have L:=BA.o.trans (K.mono BA.o.size);have j:=af (L.trans (E.mono L.size));have C:=af (F.rdb.below E);have k1:(z.alloc (iC #[Y x bs.length t] 26)).cell? ⟨z.heap.size,0,O⟩=X (Y x bs.length t):=aj _ _ 0 _ _ _ (aB z _);generalize aa:z.alloc (iC #[Y x bs.length t] 26)=w2 at a j C k1;clear H ZA BA K L E F;cases hc:P with
 |false=>
  have l:¬(3<=n/\n<=10):=λh=>by have:=s.o;rw[hc,rA]at this;exact this h
  have A:ah (oX n=(tN,iF)):=by show _=_;unfold oX;rw[ai l]
  clear l;obtain⟨y0,y1,y2,y3,y4,y5,y6⟩:=a.o.cells;have f0:=a.o.fr 0;have f1:=a.o.fr 1;have f2:=a.o.fr 2;have f3:=a.o.fr 3;have f4:=a.o.fr 4;have f5:=a.o.fr 5;have f6:=a.o.fr 6;have m:=af (mc a.o (Y O 0 0) (Y O 0 0) (Y O 0 0) 0 0 0 0);have k:=af (ma (Y O 0 0) (Y O 0 0) (Y O 0 0) 0 0 0 0 j.o (g:=w.heap.size) (by omega))
  have r:=af (ID (B:=w.heap.size) (bI w2 w.heap.size (Y O 0 0) (Y O 0 0) (Y O 0 0) 0 0 0 0) k.o.size);unfold bI at m k r;clear a j C;go_wp2;refine az (pX (p:=2) (q:=3) rfl _ _ w.heap.size _ _ _ _ _ _ _ rfl m.o) rfl ?_;rw[A.o];exact⟨_,rfl,r.o,Ja,k.o⟩
 |true=>
  have l:3<=n/\n<=10:=by have:=s.o;rw[hc,bM]at this;exact this
  have A:ah (oX n=fw bs):=by show _=_;unfold oX;rw[ak l,HF.o]
  have y:bp bs=iV:=by rw[<-HF.o];exact(Right.new l).1
  have G:=af (Dh (Y x bs.length t) bs w2 (Gz y) C.o);obtain⟨D,ok,hD⟩:∃D ok,fw bs=(D,ok):=⟨_,_,rfl⟩;rw[hD]at G A;clear l y hD C;go_wp2_with fail;refine G.o.mono ?_;rintro e w3 ⟨v,rfl,Q,df,M⟩;obtain⟨d,c,U,V,vc,ad,T,cap,rfl⟩:=Q.form;have b:=af (a.o.below M);have Z:=af (j.o.trans (M.mono j.o.size));have S:=a.o.lt;obtain⟨y0,y1,y2,y3,y4,y5,y6⟩:=b.o.cells;have f0:=b.o.fr 0;have f1:=b.o.fr 1;have f2:=b.o.fr 2;have f3:=b.o.fr 3;have f4:=b.o.fr 4;have f5:=b.o.fr 5;have f6:=b.o.fr 6;have m:=af (mc b.o (Y d D.fH.length c) (Y U V vc) (Y ad T cap) D.fS.next D.seq D.tx D.base);have k:=af (ma (Y d D.fH.length c) (Y U V vc) (Y ad T cap) D.fS.next D.seq D.tx D.base Z.o (g:=w.heap.size) (by omega))
  have r:=af ((Q.put S (Y d D.fH.length c) (Y U V vc) (Y ad T cap) D.fS.next D.seq D.tx D.base).down (Nat.le_of_lt S));have FF:=af df;unfold bI at m k r;clear b Z a j Q df M G k1 S;go_wp2;refine az (pX (p:=2) (q:=3) rfl _ _ w.heap.size _ _ _ _ _ _ _ rfl m.o) rfl ?_;rw[A.o];exact⟨_,rfl,r.o,FF.o,k.o⟩
theorem aU.fl{W:iW}{a b c:iX}{n q t s:Int}(h:aU W g a b c n q t s)(x:iX):aU (W.setCell ⟨g,0,O⟩ x) g x b c n q t s:=bo _ _ 0 _ _ _ h
theorem Il(v:iX)(d:Dv)(w:iW)(h:eY w v d)(hf:d.Fit):iK Tryz.prog 100 #[v] w (se w d):=by
 obtain⟨r,q,t,z,vc,ad,s,cap,rfl,h1,h2,h3⟩:=h.form;have F:=aT w (iC #[Y r d.fH.length q,Y t z vc,Y ad s cap,I J d.fS.next,I J d.seq,I J d.tx,I J d.base] 34);have H:aU (w.alloc (iC #[Y r d.fH.length q,Y t z vc,Y ad s cap,I J d.fS.next,I J d.seq,I J d.tx,I J d.base] 34)) w.heap.size (Y r d.fH.length q) (Y t z vc) (Y ad s cap) d.fS.next d.seq d.tx d.base:=aB _ _;have L:(w.alloc (iC #[Y r d.fH.length q,Y t z vc,Y ad s cap,I J d.fS.next,I J d.seq,I J d.tx,I J d.base] 34)).heap.size=w.heap.size+1:=by simp
 have N:iL w.heap.size w ((w.alloc (iC #[Y r d.fH.length q,Y t z vc,Y ad s cap,I J d.fS.next,I J d.seq,I J d.tx,I J d.base] 34)).alloc (iC #[Y O 0 0,Y O 0 0,Y O 0 0,I J 0,I J 0,I J 0,I J 0] 34)):=F.alloc (by omega) _
 have G:=H.below (w':=(w.alloc (iC #[Y r d.fH.length q,Y t z vc,Y ad s cap,I J d.fS.next,I J d.seq,I J d.tx,I J d.base] 34)).alloc (iC #[Y O 0 0,Y O 0 0,Y O 0 0,I J 0,I J 0,I J 0,I J 0] 34)) (aZ);have zA:aU ((w.alloc (iC #[Y r d.fH.length q,Y t z vc,Y ad s cap,I J d.fS.next,I J d.seq,I J d.tx,I J d.base] 34)).alloc (iC #[Y O 0 0,Y O 0 0,Y O 0 0,I J 0,I J 0,I J 0,I J 0] 34)) (w.heap.size+1) (Y O 0 0) (Y O 0 0) (Y O 0 0) 0 0 0 0:=by
  rw[<-L];exact aB _ _
 generalize aa:(w.alloc (iC #[Y r d.fH.length q,Y t z vc,Y ad s cap,I J d.fS.next,I J d.seq,I J d.tx,I J d.base] 34)).alloc (iC #[Y O 0 0,Y O 0 0,Y O 0 0,I J 0,I J 0,I J 0,I J 0] 34)=wa at N G zA;have CF:=af (zH _ d.fH wa h2 (h1.below N));have U:=af N;have M:=af G;have V:=af zA;have HI:=af h3;have HF:=af hf;have a0:=G.cells.1;have a1:=G.fr 0;clear F H L N G zA h1 h2 h3 h hf;go_enter Tryz.func100,Tryz.ntmps100;go_wp2_with fail;clear aa;refine CF.o.mono ?_;rintro e D ⟨x,rfl,X,B⟩;obtain⟨l,j,rfl⟩:=X.form;have ac:=V.o.lt;have E:=af ((U.o.trans (B.mono U.o.size)).setCell (p:=⟨w.heap.size,0,O⟩) (am _) (Y l d.fH.length j));have n:=af ((M.o.below B).fl (Y l d.fH.length j));have W:=af ((V.o.below B).far (h:=w.heap.size) (k:=0) (u:=Y l d.fH.length j) (by omega))
 have S:ah (cE wa.heap.size D.heap.size (Y l d.fH.length j) d.fH (D.setCell ⟨w.heap.size,0,O⟩ (Y l d.fH.length j))):=cE.loc _ _ _ _ D _ (λy y1 y2=>aO _ _ _ _ (show y≠w.heap.size by omega)) X
 have Z:(D.setCell ⟨w.heap.size,0,O⟩ (Y l d.fH.length j)).heap.size=D.heap.size:=by simp
 have c0:=(M.o.below B).cells.1;have c1:=(M.o.below B).fr 0;have ae:=B.size;have CS:=af (mF (HI.o.below E.o));obtain⟨-,e1,e2,e3,-,-,-⟩:=n.o.cells;clear CF U M V HI X B a0 a1;go_wp2_with fail;generalize ab:D.setCell ⟨w.heap.size,0,O⟩ (Y l d.fH.length j)=w2 at n W E S CS Z e1 e2 e3⊢;clear ab c0 c1;refine CS.o.mono ?_;rintro e A ⟨u,rfl,so,-⟩;obtain⟨vv,kv,lo1,hi1,lo2,hi2,rfl,s1,s2,s3,s4,s5,s6,s7,m⟩:=so;obtain⟨c,f,rfl,-⟩:=s1.form;obtain⟨b,a,rfl⟩:=s2.form;have T:=af ((n.o.below m).fS (Y c d.fS.fV.length f) (Y b d.fS.fK.length a) d.fS.next);have C:w.heap.size+1≠w.heap.size:=by omega
 have i:=af ((((W.o.below m).far (h:=w.heap.size) (k:=1) (u:=Y c d.fS.fV.length f) C).far (h:=w.heap.size) (k:=2) (u:=Y b d.fS.fK.length a) C).far (h:=w.heap.size) (k:=3) (u:=I J d.fS.next) C);have b4:=E.o.trans (m.mono E.o.size);have Q:=af (((b4.setCell (p:=⟨w.heap.size,1,O⟩) (am _) (Y c d.fS.fV.length f)).setCell (p:=⟨w.heap.size,2,O⟩) (am _) (Y b d.fS.fK.length a)).setCell (p:=⟨w.heap.size,3,O⟩) (am _) (I J d.fS.next));have P:∀x,x≠w.heap.size->(((A.setCell ⟨w.heap.size,1,O⟩ (Y c d.fS.fV.length f)).setCell ⟨w.heap.size,2,O⟩ (Y b d.fS.fK.length a)).setCell ⟨w.heap.size,3,O⟩ (I J d.fS.next)).heap[x]?=A.heap[x]?:=λx hx=>by
  rw[aO _ ⟨w.heap.size,3,O⟩ _ _ hx,aO _ ⟨w.heap.size,2,O⟩ _ _ hx,aO _ ⟨w.heap.size,1,O⟩ _ _ hx]
 have K:(((A.setCell ⟨w.heap.size,1,O⟩ (Y c d.fS.fV.length f)).setCell ⟨w.heap.size,2,O⟩ (Y b d.fS.fK.length a)).setCell ⟨w.heap.size,3,O⟩ (I J d.fS.next)).heap.size=A.heap.size:=by simp
 have ag:=m.size;have R:ah (cQ wa.heap.size (iA #[Y l d.fH.length j,Y c d.fS.fV.length f,Y b d.fS.fK.length a,I J d.fS.next,I J d.seq,I J d.tx,I J d.base]) d (((A.setCell ⟨w.heap.size,1,O⟩ (Y c d.fS.fV.length f)).setCell ⟨w.heap.size,2,O⟩ (Y b d.fS.fK.length a)).setCell ⟨w.heap.size,3,O⟩ (I J d.fS.next))):=by
  refine⟨_,_,_,wa.heap.size,D.heap.size,lo1,hi1,lo2,hi2,rfl,cE.loc _ _ _ _ w2 _ (λy y1 y2=>(P y (by omega)).trans (m.block y (by omega))) S.o,aG.loc _ _ _ _ _ _ A _ (λy y1 y2=>P y (by omega)) s1,dB.loc _ _ _ _ A _ (λy y1 y2=>P y (by omega)) s2,⟨am _,?_⟩,⟨?_,?_⟩,⟨?_,?_⟩,.inl ?_,.inl ?_,s7⟩<;>(try rw[K])<;>omega
 have c1:=(n.o.below m).cells;obtain⟨-,c1,c2,c3,-,-,-⟩:=c1;have q1:=(n.o.below m).fr 1;have q2:=(n.o.below m).fr 2;have q3:=(n.o.below m).fr 3;clear CS s1 s2 s3 s4 s5 s6 s7 m b4 P K n W E S e1 e2 e3;go_upto_region 3 with fail
 generalize((A.setCell ⟨w.heap.size,1,O⟩ (Y c d.fS.fV.length f)).setCell ⟨w.heap.size,2,O⟩ (Y b d.fS.fK.length a)).setCell ⟨w.heap.size,3,O⟩ (I J d.fS.next)=w4 at T i Q R⊢;clear c1 c2 c3 q1 q2 q3;obtain⟨g0,g1,g2,g3,g4,g5,g6⟩:=T.o.cells;obtain⟨i0,i1,i2,i3,i4,i5,i6⟩:=i.o.cells;have q0:=i.o.fr 0;have q1:=i.o.fr 1;have q2:=i.o.fr 2;have q3:=i.o.fr 3;have q4:=i.o.fr 4;have q5:=i.o.fr 5;have q6:=i.o.fr 6;have FD:=af (mc i.o (Y l d.fH.length j) (Y c d.fS.fV.length f) (Y b d.fS.fK.length a) d.fS.next d.seq d.tx d.base);have FB:=af (ma (Y l d.fH.length j) (Y c d.fS.fV.length f) (Y b d.fS.fK.length a) d.fS.next d.seq d.tx d.base Q.o (g:=w.heap.size+1) (by omega))
 have FI:=af ((R.o.put ac (Y l d.fH.length j) (Y c d.fS.fV.length f) (Y b d.fS.fK.length a) d.fS.next d.seq d.tx d.base).down (B':=w.heap.size) (by omega))
 unfold bI at FD FB FI;clear T i Q R;go_wp2;refine az (zg (p:=2) rfl _ _ (w.heap.size+1) _ _ _ _ _ _ _ rfl FD.o) rfl ?_;exact⟨_,rfl,FI.o,HF.o,FB.o⟩
theorem aaT(v:iX)(rs:List Rw)(w:iW)(hl:rs.length<=1048576)(i:∀r∈rs,r.2.2.2.length<=1048576)(U:eB w v rs):
 iK Tryz.prog 103 #[iA #[v]] w λe w'=>e=G (I J (cP (rs.map aw):Nat))/\iL w.heap.size w w':=by
 have V:=U;obtain⟨N,a,rfl,-,-⟩:=V;have Q:=af i;obtain⟨n,W⟩:=aq rs.length;have HN:=af W;have P:=af ((ax w.heap.size w).alloc (am _) (iC #[Y N n a] 26));have h:=af U;rw[W]at hl h⊢;have R0:=af (aB w (iC #[Y N n a] 26));have S:=af (λk=>UF (bs:=rs.map aw) (m:=1048576) (λq H=>by obtain⟨r,j,rfl⟩:=bZ.1 H;exact i r j) k)
 clear U i W;go_enter Tryz.func103,Tryz.ntmps103;go_wp2;have Z:=af (h.o.below P.o);clear h;generalize w.alloc (iC #[Y N n a] 26)=wA at P Z R0⊢;have cf:wA.cell? ⟨w.heap.size,0,O⟩=X (Y N n a):=aj _ _ 0 _ _ _ R0.o;go_loop [3,4] (λmv T=>∃b m:Nat,T=I J b/\mv=I J m/\b<=n/\ah (iH (rs.map aw) b=m)) (λ_ T=>n-(intOf T).toNat)
 case atStart=>exact⟨0,0,rfl,rfl,aJ _,rfl⟩
 case round=>
  obtain⟨b,m,rfl,rfl,r1,B⟩:=hrel;by_cases ab:(b:Int)<n
  ·have D:b<rs.length:=by have:=HN.o;omega
   obtain⟨r,j⟩:∃r,rs[b]?=X r:=⟨_,ay D⟩;have K:(rs.map aw)[b]?=X (aw r):=by rw[bh,j];rfl
   obtain⟨gv,e,⟨c1,c2,c3⟩,f⟩:=Z.o.at j;subst e;have F:=Q.o r (aL j);obtain⟨x,y,u,ls⟩:=r;simp only at c1 c2 c3;simp only at f F;have b0:(0:Int)<=b:=by omega
   have E:=f;obtain⟨ld,lc,rfl,-,-⟩:=E;have A:=af f;have C:=af K;have hm:m<=1048576*1048576:=by have h1:=S.o b;rw[B.o]at h1;exact bV h1 (zR _ (by omega))
   obtain⟨t,H⟩:=aq ls.length;have R:=af H;rw[H]at c3 F;clear K f j D H;go_wp2;go_loop [3,5] (λnv kv=>∃(k p:Nat),kv=I J k/\k<=t/\nv=I J p/\p<=m+k/\ah (p=m+if x=iV then 0 else dj (ls.take k))) (λ_ kv=>t-(intOf kv).toNat)
   case atStart=>exact⟨0,m,rfl,aJ _,rfl,am _,(show m=m+if x=iV then 0 else dj (ls.take 0)by simp[dj])⟩
   case round=>
    obtain⟨k,p,rfl,hk,rfl,hp,g⟩:=hrel;by_cases aa:(k:Int)<t
    ·have d:k<ls.length:=by have:=R.o;omega
     obtain⟨z,s,L⟩:∃z t,ls[k]?=X (z,t):=⟨ls[k].1,ls[k].2,ay d⟩;obtain⟨gl,lo,e⟩:=A.o.head (by have:=R.o;omega)
     subst e;obtain⟨d1,-⟩:=A.o.two L;simp only at d1;have k0:(0:Int)<=k:=by omega
     have c:=Ao L;simp only at c;cases x with
     |true=>
      have l:ah (p=m+if iV=iV then 0 else dj (ls.take (k+1))):=g.o
      clear L d g c;go_wp2;go_round
      case rel=>exact⟨k+1,p,by go_num,by omega,rfl,by omega,l⟩
      case measure=>simp[intOf];omega
     |false=>
      by_cases M:z=0
      ·have l:ah (p+1=m+if iF=iV then 0 else dj (ls.take (k+1))):=by
        have:=g.o;rw[ak M]at c;show _=_;simp at this⊢;omega
       subst M;clear L d g c;go_wp2;go_round
       case rel=>exact⟨k+1,p+1,by go_num,by omega,by go_num,by omega,l⟩
       case measure=>simp[intOf];omega
      ·have l:ah (p=m+if iF=iV then 0 else dj (ls.take (k+1))):=by
        have:=g.o;rw[ai M]at c;show _=_;simp at this⊢;omega
       have ac:(z==0)=iF:=by simpa using M
       clear L d g c;go_wp2;go_round
       case rel=>exact⟨k+1,p,by go_num,by omega,rfl,by omega,l⟩
       case measure=>simp[intOf];omega
    ·have NL:ah (iH (rs.map aw) (b+1)=p):=by
      show _=_;have:=g.o;rw[show ls.take k=ls from ci (by have:=R.o;omega)]at this
      cases x with
      |true=>rw[Xt C.o rfl,B.o,this];rfl
      |false=>rw[xx C.o rfl,B.o,this];rfl
     clear g;go_wp2;go_round
     case rel=>exact⟨b+1,p,by go_num,rfl,by omega,NL⟩
     case measure=>simp[intOf];omega
  ·have PF:ah (cP (rs.map aw)=m):=by
    show _=_;unfold cP;rw[bm,<-B.o];congr 1;have:=HN.o;omega
   clear B;go_wp2;go_ret;exact⟨by rw[PF.o];rfl,P.o⟩
theorem Vo(M:List an)(h:∀x∈M,x.fP.Right):1<=gy M/\gy M<=1000000001:=by
 unfold gy;have a:∀(L:List an) (s:Int),(∀x∈L,x.fP.Right)->1<=s->s<=1000000001->1<=L.foldl (λs x=>if x.fP.kind=2/\s<=x.fP.tx then x.fP.tx+1 else s) s/\L.foldl (λs x=>if x.fP.kind=2/\s<=x.fP.tx then x.fP.tx+1 else s) s<=1000000001:=by
  intro L
  induction L with
  |nil=>intro s _ h1 b;exact⟨h1,b⟩
  |cons x L e=>
   intro s d h1 b;have c:=d x (by simp)
   have:=c.2.2.2.1;have:=c.2.2.2.2.1;rw[nN];refine e _ (λy hy=>d y (by simp[hy])) ?_ ?_
   ·split<;>omega
   ·split<;>omega
 exact a M 1 h (by omega) (by omega)
variable{d:Dv}
theorem cL.wrap(h:cL T n d):IntKind.i64.wrap (d.tx-1)=d.tx-1:=by
 have h1:d.tx=gy (au d.fH):=congrArg Dv.tx h.up.is;have b:=Vo (au d.fH) (λx a=>sL a)
 rw[cm];omega
theorem cL.fit(h:cL T n d):d.Fit:=⟨Gz h.up.ok,zJ h.st⟩
variable{L:List aM}
theorem Fw{W:iW}{u:iX}(h:W.ownsRow B 254 4 u L.length (cZ L)):nR W u L:=by
 rcases h.2 with⟨rfl,e⟩|⟨g,c,b,rfl,h1,l,d,h4,-⟩
 ·have f:L=[]:=iJ e;subst f;exact⟨O,0,rfl,am _,by omega,λ_=>rfl,λi s hs=>by simp at hs⟩
 ·refine⟨X ⟨g,0,O⟩,c,rfl,d,by unfold maxLen at h4;omega,λe=>(by cases e),λi s hs=>⟨g,0,rfl,?_⟩⟩
  have a:=λ(j:Nat) (v:iX) (k:(rT s)[j]?=X v)=>wh h (g:=g) rfl (i*4+j) v (IP _ i s hs j v k)
  have e:∀j,(⟨g,0,O⟩:Addr).add j=⟨g,j,O⟩:=fh g;rw[eC];refine⟨?_,?_,?_,?_⟩
  ·have:=a 0 _ rfl;rw[e]at this;exact this
  ·have:=a 1 _ rfl;rw[e]at this;exact this
  ·have:=a 2 _ rfl;rw[e]at this;exact this
  ·have:=a 3 _ rfl;rw[e]at this;exact this
theorem abn(Q:List Pg):∀(s:List Bk×List aM×Bool),(eO s Q).2.1.length<=s.2.1.length+Q.length:=by
 induction Q with
 |nil=>intro s;simp[eO]
 |cons p Q a=>
  intro s;rw[eO];split
  ·refine bV (a _) ?_;have:=sI s.1 s.2.1 p;rw[aW];omega
  ·omega
theorem MH(d:Dv)(l:List Rc)(t:ByteArray):(ez d l t).1.length<=10:=by
 unfold ez;split
 ·simp
 ·split
  ·simp only;refine bV (abn _ _) ?_;have h1:=Lz (eG d t) d.tx l;have a:(jB d l t).2.1.length<=1:=by
    unfold jB;split
    ·simp
    ·have:=sI d.fH [] (kW d.seq (pG l) t)
     simpa using this
   omega
  ·simp
theorem Ft(b:Int):∀(ps:List Pg) (f:List Bk) (l:List aM) (q:Int) (r:List Bk×List aM×Int),eP b f l q ps=X r->r.2.1.length<=l.length+ps.length
 | [],f,l,q,r,h=>by simp only[eP,fq]at h;subst h;simp
 |p::ps,f,l,q,r,h=>by
  rw[eP]at h;split at h
  ·refine bV (Ft b ps _ _ _ r h) ?_;have:=sI f l (mh p q);rw[aW];omega
  ·cases h
theorem Xy(b:Int)(a:bp d.fH=iV):(lm d b).1.length<=1000:=by
 unfold lm;split
 ·rename_i r hr
  have h1:=Ft b _ _ _ _ r hr;have c:=(wH a).1;have e:(pI (au d.fH) (aY d.fS) b).length<=4*40:=by
   unfold pI;rw[List.length_flatMap];have:∀y∈(List.range 4).map (λ(lf:Nat)=>(((au d.fH).zip (cN (au d.fH) (aY d.fS) 1000000001)).filterMap λp=>if p.2&&p.1.block==b&&p.1.leaf==(lf:Int)then X p.1 else O).length),y<=40:=by
    intro y hy;obtain⟨lf,-,rfl⟩:=bZ.1 hy;refine bV (yw _ _) ?_;rw[AQ];omega
   simp only[List.range,List.range.loop,cB,oU,be,eI,eX,forall_eq_or_imp,forall_eq,gB,List.sum_nil]at this⊢;omega
  simp only[dW,bm]at h1;simp only;omega
 ·simp
theorem F6(a:bp d.fH=iV):(jp d).1.length<=1000:=by
 unfold jp;split
 ·simp
 ·split
  ·split
   ·simp
   ·exact Xy _ a
  ·have:=MH d (iu d.fS) aQ;omega
theorem Bj(v:iX)(bs:List Bk)(w:iW)(hs:dg bs)(a:fu w v bs):iK Tryz.prog 103 #[iA #[v]] w λe w'=>e=G (I J (cP bs:Nat))/\iL w.heap.size w w':=by
 obtain⟨rs,rfl,h,l,b,c⟩:=a.lens hs;exact aaT v rs w l b h
structure gG (w W:iW) (z g:Nat) (x a b c u:iX) (d:Dv) (l:List aM):Prop where
 bel:iL w.heap.size w W
 dv:∃B,z<B/\cQ B x d W
 fit:d.Fit
 is:x=iA #[a,b,c,I J d.fS.next,I J d.seq,I J d.tx,I J d.base]
 at_:aU W g a b c d.fS.next d.seq d.tx d.base
 zat:aU W z (Y O 0 0) (Y O 0 0) (Y O 0 0) 0 0 0 0
 row:W.ownsRow w.heap.size 254 4 u l.length (cZ l)
 gg:z<g
 zz:w.heap.size<=z
def DJ(w:iW)(r:Dv×List aM)(e:Ending)(w':iW):Prop:=∃v u,e=G (iU #[v,u])/\cQ w.heap.size v r.1 w'/\r.1.Fit/\w'.ownsRow w.heap.size 254 4 u r.2.length (cZ r.2)/\iL w.heap.size w w'
section
variable{l:List aM}
theorem gG.below(h:gG w W z g x a b c u d l)(e:iL W.heap.size W W'):gG w W' z g x a b c u d l:=by
 obtain⟨h1,⟨B,i,j⟩,h4,k,m,n,o,p,f⟩:=h;exact⟨h1.trans (e.mono h1.size),⟨B,i,j.below e⟩,h4,k,m.below e,n.below e,bC o e,p,f⟩
theorem gG.rd(h:gG w W z g x a b c u d l):eY W (iA #[a,b,c,I J d.fS.next,I J d.seq,I J d.tx,I J d.base]) d:=by
 obtain⟨h1,⟨B,j,f⟩,h4,i,k,m,n,o,e⟩:=h;rw[<-i];exact f.rd h4
theorem uq{W:iW}{u:iX}{xs:List iX}{j k l:iX}{r w v:Int}(h:W.ownsRow B 254 4 u n xs)(p:aU W g j k l r q0 w v)(a b c:iX)(m q t s:Int):(bI W g a b c m q t s).ownsRow B 254 4 u n xs:=by
 obtain⟨h0,h⟩:=h;refine⟨h0,?_⟩;rcases h with h|⟨z,cap,d,e,h1,f,o⟩
 ·exact .inl h
 ·refine .inr ⟨z,cap,d,e,h1,(qS _ _ _ _ _ _ _ _ _ (λi=>?_)).trans f,o⟩
  subst i;rw[show W.heap[z]?=_ from p]at f;simp at f
theorem gG.rat(h:gG w W z g x a b c u d l):aU (bI W z a b c d.fS.next d.seq d.tx d.base) z a b c d.fS.next d.seq d.tx d.base:=mc h.zat _ _ _ _ _ _ _
theorem gG.ret(h:gG w W z g x a b c u d l):DJ w (d,l) (G (iU #[iA #[a,b,c,I J d.fS.next,I J d.seq,I J d.tx,I J d.base],u])) (bI W z a b c d.fS.next d.seq d.tx d.base):=by
 obtain⟨B,f,e⟩:=h.dv;refine⟨_,_,rfl,?_,h.fit,uq h.row h.zat _ _ _ _ _ _ _,ma _ _ _ _ _ _ _ h.bel h.zz⟩;have:=(e.put (g:=z) (by omega) a b c d.fS.next d.seq d.tx d.base).down (B':=w.heap.size) (by have:=h.zz;omega)
 rw[h.is]at this;exact this
variable{d':Dv}
theorem gG.step {j W3:iW} {p f i c' u':iX} (h:gG w W z g x a b c u d l) (s:iL W.heap.size W j) (Q:W.heap.size<=B) (K:cQ B p d' j) (G:d'.Fit) (N:p=iA #[f,i,c',I J d'.fS.next,I J d'.seq,I J d'.tx,I J d'.base])
 (M:W3.ownsRow w.heap.size 254 4 u' (l.length+L.length) (cZ l++cZ L)) (m:(bI j g f i c' d'.fS.next d'.seq d'.tx d'.base).grownBy W3 u.ownBlock):gG w W3 z g p f i c' u' d' (l++L):=by
 have H:=h.at_.lt;have P:=h.zat.lt;have v:=iM h.row;have o:∀k,u.ownBlock=X k->w.heap.size<=k/\k<W.heap.size:=λk t=>v k t
 have A:u.ownBlock≠X g:=λe=>by
  rcases h.row.2 with⟨rfl,-⟩|⟨y,cap,r,rfl,-,n,-⟩
  ·cases e
  ·simp only[Value.ownBlock,fq]at e;subst e;rw[show W.heap[y]?=_ from h.at_]at n;simp at n
 have C:u.ownBlock≠X z:=λe=>by
  rcases h.row.2 with⟨rfl,-⟩|⟨y,cap,r,rfl,-,n,-⟩
  ·cases e
  ·simp only[Value.ownBlock,fq]at e;subst e;rw[show W.heap[y]?=_ from h.zat]at n;simp at n
 have q:iL w.heap.size w (bI j g f i c' d'.fS.next d'.seq d'.tx d'.base):=ma _ _ _ _ _ _ _ (h.bel.trans (s.mono h.bel.size)) (by have:=h.gg;have:=h.zz;omega)
 have g2:aU (bI j g f i c' d'.fS.next d'.seq d'.tx d'.base) g f i c' d'.fS.next d'.seq d'.tx d'.base:=mc (h.at_.below s) _ _ _ _ _ _ _;have E:aU (bI j g f i c' d'.fS.next d'.seq d'.tx d'.base) z (Y O 0 0) (Y O 0 0) (Y O 0 0) 0 0 0 0:=(qS _ _ _ _ _ _ _ _ _ (by have:=h.gg;omega)).trans (h.zat.below s)
 have F:cQ B p d' (bI j g f i c' d'.fS.next d'.seq d'.tx d'.base):=K.put (by omega) _ _ _ _ _ _ _
 generalize bI j g f i c' d'.fS.next d'.seq d'.tx d'.base=V at m q g2 E F;refine⟨q.grown m q.size (λk t=>(o k t).1),⟨B,by omega,F.keep (λy hy D=>m.block y D (λe=>?_)) m.size⟩,G,N,(m.block g g2.lt (λe=>A e.symm)).trans g2,(m.block _ E.lt (λe=>C e.symm)).trans E,?_,h.gg,h.zz⟩
 ·have:=(o y e.symm).2;omega
 ·rw[aI,AX];exact M
def Bi(w:iW)(r:Dv×List aM×ByteArray×Int)(e:Ending)(w':iW):Prop:=∃v u,e=G (iU #[v,u,iT r.2.2.1,I J r.2.2.2])/\cQ w.heap.size v r.1 w'/\r.1.Fit/\w'.ownsRow w.heap.size 254 4 u r.2.1.length (cZ r.2.1)/\iL w.heap.size w w'
theorem gG.ret4(h:gG w W z g x a b c u d l)(t:ByteArray)(k:Int):Bi w (d,l,t,k) (G (iU #[iA #[a,b,c,I J d.fS.next,I J d.seq,I J d.tx,I J d.base],u,iT t,I J k])) (bI W z a b c d.fS.next d.seq d.tx d.base):=by
 obtain⟨v,u',e,h1,f,i,h4⟩:=h.ret;injection e with e
 injection e with e
 injection e with e
 simp only[gE,iy]at e;obtain⟨rfl,rfl⟩:=e;exact⟨_,_,rfl,h1,f,i,h4⟩
theorem gG.clean {e:iW} {m i j c' u':iX} (h:gG w W z g x a b c u d l) (f:iL W.heap.size W e) (p:cQ W.heap.size m d' e) (n:d'.Fit) (r:m=iA #[i,j,c',I J d'.fS.next,I J d'.seq,I J d'.tx,I J d'.base])
 (q:e.ownsRow W.heap.size 254 4 u' L.length (cZ L)):gG w (bI e g i j c' d'.fS.next d'.seq d'.tx d'.base) z g m i j c' u' d' L:=by
 have o:=h.at_.lt;have k:=h.zat.lt;refine⟨ma _ _ _ _ _ _ _ (h.bel.trans (f.mono h.bel.size)) (by have:=h.gg;have:=h.zz;omega),⟨W.heap.size,k,p.put (by omega) _ _ _ _ _ _ _⟩,n,r,mc (h.at_.below f) _ _ _ _ _ _ _,(qS _ _ _ _ _ _ _ _ _ (by have:=h.gg;omega)).trans (h.zat.below f),?_,h.gg,h.zz⟩
 exact uq (qW q h.bel.size) (h.at_.below f) _ _ _ _ _ _ _
theorem gG.fin {o W3:iW} {r f i c' u':iX} (h:gG w W z g x a b c u d l) (m:iL W.heap.size W o) (N:W.heap.size<=B) (E:cQ B r d' o) (C:d'.Fit) (H:r=iA #[f,i,c',I J d'.fS.next,I J d'.seq,I J d'.tx,I J d'.base])
 (F:W3.ownsRow w.heap.size 254 4 u' (l.length+L.length) (cZ l++cZ L)) (n:o.grownBy W3 u.ownBlock):aU W3 z (Y O 0 0) (Y O 0 0) (Y O 0 0) 0 0 0 0/\Bi w (d',l++L,aQ,0) (G (iU #[iA #[f,i,c',I J d'.fS.next,I J d'.seq,I J d'.tx,I J d'.base],u',iT aQ,I J 0])) (bI W3 z f i c' d'.fS.next d'.seq d'.tx d'.base)/\aU (bI W3 z f i c' d'.fS.next d'.seq d'.tx d'.base) z f i c' d'.fS.next d'.seq d'.tx d'.base:=by
 have K:=h.zat.lt;have j:=iM h.row;have p:u.ownBlock≠X z:=λe=>by
  rcases h.row.2 with⟨rfl,-⟩|⟨y,cap,A,rfl,-,t,-⟩
  ·cases e
  ·simp only[Value.ownBlock,fq]at e;subst e;rw[show W.heap[y]?=_ from h.zat]at t;simp at t
 have s:aU W3 z (Y O 0 0) (Y O 0 0) (Y O 0 0) 0 0 0 0:=(n.block _ (h.zat.below m).lt (λe=>p e.symm)).trans (h.zat.below m)
 have M:cQ B r d' W3:=E.keep (λy hy q=>n.block y q (λe=>by have:=(j y e.symm).2;omega)) n.size
 have v:iL w.heap.size w W3:=(h.bel.trans (m.mono h.bel.size)).grown n (h.bel.trans (m.mono h.bel.size)).size (λk D=>(j k D).1)
 refine⟨s,⟨_,_,rfl,?_,C,?_,ma _ _ _ _ _ _ _ v h.zz⟩,mc s _ _ _ _ _ _ _⟩
 ·have:=(M.put (g:=z) (by omega) f i c' d'.fS.next d'.seq d'.tx d'.base).down (B':=w.heap.size) (by have:=h.zz;omega)
  rw[H]at this;exact this
 ·show World.ownsRow _ _ _ _ _ (l++L).length (cZ (l++L));rw[aI,AX];exact uq F s _ _ _ _ _ _ _
end
theorem XK(T:List UInt8->Prop)(n:Nat)(x:iX)(d:Dv)(i:Int)(w:iW)(h:eY w x d)(hg:cL T n d):iK Tryz.prog 104 #[x,I J i] w (DJ w (gJ d i)):=by
 have hx:=h;obtain⟨i0,aF,aH,aK,aL⟩:=bO Dn;have I0:=af aF;have I1:=af aH;have I2:=af aK;have I3:=af aL;clear aF aH aK aL;obtain⟨fd,Z,va,vl,vc,ad,ln,cap,rfl,h1,h2,h3⟩:=h.form;have aN:(w.alloc (iC #[Y fd d.fH.length Z,Y va vl vc,Y ad ln cap,I J d.fS.next,I J d.seq,I J d.tx,I J d.base] 34)).heap.size=w.heap.size+1:=by simp
 have aC:=aT w (iC #[Y fd d.fH.length Z,Y va vl vc,Y ad ln cap,I J d.fS.next,I J d.seq,I J d.tx,I J d.base] 34);have aD:aU (w.alloc (iC #[Y fd d.fH.length Z,Y va vl vc,Y ad ln cap,I J d.fS.next,I J d.seq,I J d.tx,I J d.base] 34)) w.heap.size (Y fd d.fH.length Z) (Y va vl vc) (Y ad ln cap) d.fS.next d.seq d.tx d.base:=aB _ _;have bA:iL w.heap.size w ((w.alloc (iC #[Y fd d.fH.length Z,Y va vl vc,Y ad ln cap,I J d.fS.next,I J d.seq,I J d.tx,I J d.base] 34)).alloc (iC #[Y O 0 0,Y O 0 0,Y O 0 0,I J 0,I J 0,I J 0,I J 0] 34)):=aC.alloc (by omega) _
 have gA:=aD.below (w':=(w.alloc (iC #[Y fd d.fH.length Z,Y va vl vc,Y ad ln cap,I J d.fS.next,I J d.seq,I J d.tx,I J d.base] 34)).alloc (iC #[Y O 0 0,Y O 0 0,Y O 0 0,I J 0,I J 0,I J 0,I J 0] 34)) (aZ);have zA:aU ((w.alloc (iC #[Y fd d.fH.length Z,Y va vl vc,Y ad ln cap,I J d.fS.next,I J d.seq,I J d.tx,I J d.base] 34)).alloc (iC #[Y O 0 0,Y O 0 0,Y O 0 0,I J 0,I J 0,I J 0,I J 0] 34)) (w.heap.size+1) (Y O 0 0) (Y O 0 0) (Y O 0 0) 0 0 0 0:=by
  rw[<-aN];exact aB _ _
 generalize au:(w.alloc (iC #[Y fd d.fH.length Z,Y va vl vc,Y ad ln cap,I J d.fS.next,I J d.seq,I J d.tx,I J d.base] 34)).alloc (iC #[Y O 0 0,Y O 0 0,Y O 0 0,I J 0,I J 0,I J 0,I J 0] 34)=wa at bA gA zA;have CC:=af (Il _ d wa (hx.below bA) hg.fit);unfold se at CC;have HB:=af bA;have HZ:=af zA;have aO:=af hg;have S:ah (gJ d i=kz (min i.toNat 20) d []):=rfl;obtain⟨R,hR⟩:=aq (gJ d i);rw[hR]at S⊢;obtain⟨y0,y1,y2,y3,y4,y5,y6⟩:=gA.cells;clear hx h h1 h2 h3 aN aC aD bA gA zA hg hR;go_enter Tryz.func104,Tryz.ntmps104;go_wp2_with fail;clear au;refine CC.o.mono ?_;rintro e K ⟨v1,rfl,o1,f1,b1⟩;obtain⟨v,y,vb,F,E,A,lo,C,e1⟩:=o1.form;have au:=HZ.o.lt;have b2:=aT K (iC #[Y v d.fH.length y,Y vb F E,Y A lo C,I J d.fS.next,I J d.seq,I J d.tx,I J d.base] 34);have g2:aU (K.alloc (iC #[Y v d.fH.length y,Y vb F E,Y A lo C,I J d.fS.next,I J d.seq,I J d.tx,I J d.base] 34)) K.heap.size (Y v d.fH.length y) (Y vb F E) (Y A lo C) d.fS.next d.seq d.tx d.base:=aB _ _;have B2:=HB.o.trans (b1.mono HB.o.size);have B3:=B2.trans (b2.mono B2.size);have W:iL (K.alloc (iC #[Y v d.fH.length y,Y vb F E,Y A lo C,I J d.fS.next,I J d.seq,I J d.tx,I J d.base] 34)).heap.size (K.alloc (iC #[Y v d.fH.length y,Y vb F E,Y A lo C,I J d.fS.next,I J d.seq,I J d.tx,I J d.base] 34)) ((K.alloc (iC #[Y v d.fH.length y,Y vb F E,Y A lo C,I J d.fS.next,I J d.seq,I J d.tx,I J d.base] 34)).alloc (iC #[] 254)):=aZ;have n3:=nS B3 (K.alloc (iC #[Y v d.fH.length y,Y vb F E,Y A lo C,I J d.fS.next,I J d.seq,I J d.tx,I J d.base] 34)).heap.size rfl;have C3:ah (gG w ((K.alloc (iC #[Y v d.fH.length y,Y vb F E,Y A lo C,I J d.fS.next,I J d.seq,I J d.tx,I J d.base] 34)).alloc (iC #[] 254)) (w.heap.size+1) K.heap.size v1 (Y v d.fH.length y) (Y vb F E) (Y A lo C) (Y (X ⟨(K.alloc (iC #[Y v d.fH.length y,Y vb F E,Y A lo C,I J d.fS.next,I J d.seq,I J d.tx,I J d.base] 34)).heap.size,0,O⟩) 0 0) d []):=
  ⟨n3.2,⟨wa.heap.size,by omega,(o1.below b2).below W⟩,f1,e1,g2.below W,((HZ.o.below b1).below b2).below W,n3.1,by have:=b1.size;omega,by omega⟩
 subst e1;clear b2 g2 B2 B3 W n3 o1 f1 CC b1 HB HZ au y0 y1 y2 y3 y4 y5 y6;generalize aQ:K.alloc (iC #[Y v d.fH.length y,Y vb F E,Y A lo C,I J d.fS.next,I J d.seq,I J d.tx,I J d.base] 34)=w2 at C3;generalize aR:w2.alloc (iC #[] 254)=w3 at C3;go_wp2;clear aQ aR;obtain⟨g,ao⟩:=aq K.heap.size;obtain⟨u0,ar⟩:=aq (Y (X ⟨w2.heap.size,0,O⟩) 0 0);rw[ao,ar]at C3;rw[ao,ar];clear ao ar;go_loopw [7,8] (λuv iv wr=>∃(k:Nat) (j:Dv) (l:List aM) (x a b c u:iX),uv=u/\iv=I J k/\k<=min i.toNat 20/\l.length<=k*1000/\ah (cL T n j)/\ah (kz (min i.toNat 20-k) j l=kz (min i.toNat 20) d [])/\ah (gG w wr (w.heap.size+1) g x a b c u j l)) (λ_ iv _=>min i.toNat 20-(intOf iv).toNat)
 case atStart=>exact⟨0,d,[],_,_,_,_,_,rfl,rfl,aJ _,aJ _,aO,rfl,C3⟩
 case round=>
  rename iW=>wr
  obtain⟨k,j,l,x,a,b,c,uv,rfl,rfl,hk,hl,G,s,f⟩:=hrel;clear C3;have aW:(0:Int)<=k:=by omega
  obtain⟨v,y,vb,F,E,A,lo,C,ex⟩:∃v y vb F E A lo C,(iA #[a,b,c,I J j.fS.next,I J j.seq,I J j.tx,I J j.base])=iA #[Y v j.fH.length y,Y vb F E,Y A lo C,I J j.fS.next,I J j.seq,I J j.tx,I J j.base]:=by
   obtain⟨B,-,hd⟩:=f.o.dv;obtain⟨v,y,vb,F,E,A,lo,C,e⟩:=hd.form;exact⟨v,y,vb,F,E,A,lo,C,f.o.is.symm.trans e⟩
  injection ex with ex
  injection ex with ex
  simp only[gE,iy]at ex;obtain⟨ea,eb,ec⟩:=ex;subst ea eb ec;by_cases aX:(k:Int)<i
  ·by_cases aY:(k:Int)<20
   ·have aP:k<min i.toNat 20:=by omega
    obtain⟨m,hm⟩:∃m,min i.toNat 20-k=m+1:=⟨min i.toNat 20-k-1,by omega⟩
    have HM:=af (show min i.toNat 20-(k+1)=m by omega)
    rw[hm]at s;clear hm;obtain⟨c0,c1,c2,c3,c4,c5,c6⟩:=f.o.at_.cells;have CR:=af (Bj (Y v j.fH.length y) j.fH wr f.o.fit.1 (by obtain⟨fv,vv,kv,e,r1,-⟩:=f.o.rd;injection e with e;injection e with e;simp only[gE]at e;rw[e.1];exact r1))
    obtain⟨rm,ap⟩:=aq (cP j.fH);rw[ap]at CR;have V:=af ap;clear ap;go_wp2_with fail;refine CR.o.mono ?_;rintro e w5 ⟨rfl,b5⟩;have z:=af (f.o.below b5);clear CR f b5 c0 c1 c2 c3 c4 c5 c6;by_cases aG:(rm:Int)<12
    ·have r:ah ((if (jp j).2 then kz m (fY j (jp j).1) (l++(jp j).1)else(j,l))=kz (min i.toNat 20) d []):=by
      have:=s.o;rw[kz,ak (by rw[V.o];omega)]at this
      exact this
     have CL:=af (Ob _ j w5 z.o.rd G.o.up.ok (by have:=G.o.st.few;omega) G.o.wrap)
     have ab:=af (F6 G.o.up.ok);have U:=af (λ(L:List aM) (hL:jp j=(L,iV))=>Ep G.o hL)
     obtain⟨L,ok,hL⟩:∃L ok,jp j=(L,ok):=⟨_,_,rfl⟩;rw[hL]at r CL ab U;unfold jt at CL;simp only at r CL ab;clear s V hL;obtain⟨c0,c1,c2,c3,c4,c5,c6⟩:=z.o.at_.cells;go_wp2_with fail;refine CL.o.mono ?_;rintro e w6 ⟨sv,rfl,o6,b6⟩;have t:=af (z.o.below b6);have O6:=af o6;clear CL z o6 b6 c0 c1 c2 c3 c4 c5 c6;cases ok with
     |false=>
      have HE:ah (R=(j,l)):=by show _=_;rw[S.o,<-r.o];rfl
      clear S r U O6;have N:=af (t.o.ret);obtain⟨i0,i1,i2,i3,i4,i5,i6⟩:=t.o.at_.cells;obtain⟨j0,j1,j2,j3,j4,j5,j6⟩:=t.o.zat.cells;have q0:=t.o.zat.fr 0;have q1:=t.o.zat.fr 1;have q2:=t.o.zat.fr 2;have q3:=t.o.zat.fr 3;have q4:=t.o.zat.fr 4;have q5:=t.o.zat.fr 5;have q6:=t.o.zat.fr 6;have M:=af (t.o.rat);unfold bI at N M;clear t;go_wp2;refine az (pX (p:=4) (q:=5) rfl _ _ (w.heap.size+1) _ _ _ _ _ _ _ rfl M.o) rfl ?_;rw[HE.o];exact N.o
     |true=>
      have P:ah (kz m (fY j L) (l++L)=kz (min i.toNat 20) d []):=r;obtain⟨c0,c1,c2,c3,c4,c5,c6⟩:=t.o.at_.cells;have aV:=ab.o;have CA:=af (Hv _ sv j L w6 t.o.rd (by omega) (Fw O6.o))
      unfold se at CA;have aA:=af (U.o L rfl);obtain⟨D,aE⟩:=aq (fY j L);rw[aE]at CA aA P;clear aE r U;go_wp2_with fail;refine CA.o.mono ?_;rintro e w7 ⟨v7,rfl,o7,f7,b7⟩;obtain⟨al,an,aw,ay,ax,ag,av,aj,e7⟩:=o7.form;have H:=af (t.o.below b7);have O7:=af (uq (bC O6.o b7) (H.o.at_) (Y al D.fH.length an) (Y aw ay ax) (Y ag av aj) D.fS.next D.seq D.tx D.base);have R7:=af (uq (bC t.o.row b7) (H.o.at_) (Y al D.fH.length an) (Y aw ay ax) (Y ag av aj) D.fS.next D.seq D.tx D.base);have ST:=af (λ(W3:iW) (u':iX) hr hg=>t.o.step (W3:=W3) (u':=u') (L:=L) b7 (am _) o7 f7 e7 hr hg)
      have ac:ah (w.heap.size<=(bI w7 g (Y al D.fH.length an) (Y aw ay ax) (Y ag av aj) D.fS.next D.seq D.tx D.base).heap.size):=by show _<=_;rw[Ey];exact H.o.bel.size
      subst e7;obtain⟨a0,a1,a2,a3,a4,a5,a6⟩:=H.o.at_.cells;have q0:=H.o.at_.fr 0;have q1:=H.o.at_.fr 1;have q2:=H.o.at_.fr 2;have q3:=H.o.at_.fr 3;have q4:=H.o.at_.fr 4;have q5:=H.o.at_.fr 5;have q6:=H.o.at_.fr 6;unfold bI at O7 R7 ST ac;clear t H O6 CA o7 f7 b7 c0 c1 c2 c3 c4 c5 c6;go_wp2_with (at_builtin;refine Iu _ rfl _ _ rfl w.heap.size _ i0 I0.o I1.o I2.o I3.o _ l.length (cZ l) rfl R7.o L _ rfl O7.o ?g1 ?g2 ac.o ?_)
      case g1=>unfold maxLen;omega
      case g2=>omega
      intro v8 w8 aa Q;have NS:=af (ST.o w8 v8 aa Q);have NL:(l++L).length<=(k+1)*1000:=by rw[aI];omega
      generalize l++L=l3 at NS NL P;clear aa Q ST O7 R7 ac;go_wp2;go_roundw
      case rel=>exact⟨k+1,D,l3,_,_,_,_,_,rfl,by go_num,by omega,NL,aA,(by show _=_;rw[HM.o];exact P.o),NS⟩
      case measure=>simp[intOf];omega
    ·have HE:ah (R=(j,l)):=by
      show _=_;rw[S.o,<-s.o,kz,ai (by rw[V.o];omega)]
     have aS:(12:Int)<=rm:=by omega
     clear S s V aG G HM aP hk hl;go_upto_region 11 with fail
     have N:=af (z.o.ret);obtain⟨i0,i1,i2,i3,i4,i5,i6⟩:=z.o.at_.cells;obtain⟨j0,j1,j2,j3,j4,j5,j6⟩:=z.o.zat.cells;have q0:=z.o.zat.fr 0;have q1:=z.o.zat.fr 1;have q2:=z.o.zat.fr 2;have q3:=z.o.zat.fr 3;have q4:=z.o.zat.fr 4;have q5:=z.o.zat.fr 5;have q6:=z.o.zat.fr 6;have M:=af (z.o.rat);unfold bI at N M;clear z;go_wp2;refine az (pX (p:=4) (q:=5) rfl _ _ (w.heap.size+1) _ _ _ _ _ _ _ rfl M.o) rfl ?_;rw[HE.o];exact N.o
   ·have HE:ah (R=(j,l)):=by
     show _=_;rw[S.o,<-s.o,show min i.toNat 20-k=0 by omega]
     rfl
    clear S s;have N:=af (f.o.ret);obtain⟨i0,i1,i2,i3,i4,i5,i6⟩:=f.o.at_.cells;obtain⟨j0,j1,j2,j3,j4,j5,j6⟩:=f.o.zat.cells;have q0:=f.o.zat.fr 0;have q1:=f.o.zat.fr 1;have q2:=f.o.zat.fr 2;have q3:=f.o.zat.fr 3;have q4:=f.o.zat.fr 4;have q5:=f.o.zat.fr 5;have q6:=f.o.zat.fr 6;have M:=af (f.o.rat);unfold bI at N M;clear f;go_wp2;refine az (pX (p:=4) (q:=5) rfl _ _ (w.heap.size+1) _ _ _ _ _ _ _ rfl M.o) rfl ?_;rw[HE.o];exact N.o
  ·have HE:ah (R=(j,l)):=by
    show _=_;rw[S.o,<-s.o,show min i.toNat 20-k=0 by omega]
    rfl
   clear S s;have N:=af (f.o.ret);obtain⟨i0,i1,i2,i3,i4,i5,i6⟩:=f.o.at_.cells;obtain⟨j0,j1,j2,j3,j4,j5,j6⟩:=f.o.zat.cells;have q0:=f.o.zat.fr 0;have q1:=f.o.zat.fr 1;have q2:=f.o.zat.fr 2;have q3:=f.o.zat.fr 3;have q4:=f.o.zat.fr 4;have q5:=f.o.zat.fr 5;have q6:=f.o.zat.fr 6;have M:=af (f.o.rat);unfold bI at N M;clear f;go_wp2;refine az (pX (p:=4) (q:=5) rfl _ _ (w.heap.size+1) _ _ _ _ _ _ _ rfl M.o) rfl ?_;rw[HE.o];exact N.o
end Go.Proofs.YtgigcooffjjbgaaGreatDoor
namespace Go.Proofs.YtgigcooffjjbgaaGreatDoor.Pack
def ml(a:Nat):Nat->List UInt8->Option (List (Nat×Nat×List UInt8))
 |_,[]=>X []
 |0,_::_=>O
 |f+1,n::r=>
  if a<=n.toNat then(match r with
   |b::r'=>(ml a f r').map λl=>(b.toNat,n.toNat-128,[])::l
   | []=>O)
  else if n.toNat<=r.length then(ml a f (r.drop n.toNat)).map λl=>(0,0,r.take n.toNat)::l else O
theorem aaW(f:Nat)(r:List UInt8):ml 129 f r=ot f r:=by
 induction f generalizing r with
 |zero=>cases r<;>rfl
 |succ f a=>
  cases r with
  |nil=>rfl
  |cons n r=>
   unfold ml ot;by_cases h:128<n.toNat
   ·rw[ak h,ak (by omega)]
    cases r with
    |nil=>rfl
    |cons b r=>simp only[a]
   ·rw[ai h,ai (by omega),a]
theorem JN(a f:Nat)(r:List UInt8)(h:r.length<=f):ml a f r=ml a r.length r:=by
 induction f using Nat.strongRecOn generalizing r with
 |ind f ih=>
  cases r with
  |nil=>cases f<;>rfl
  |cons n r=>
   rw[aW]at h;obtain⟨g,rfl⟩:∃g,f=g+1:=⟨f-1,by omega⟩
   rw[aW];unfold ml;by_cases c:a<=n.toNat
   ·rw[ak c,ak c];cases r with
    |nil=>rfl
    |cons b r=>
     rw[aW]at h;simp only;rw[ih g (by omega) r (by omega)]
     by_cases d:r.length+1<g+1
     ·rw[aW,ih (r.length+1) d r (by omega)]
     ·omega
   ·rw[ai c,ai c];have e:(r.drop n.toNat).length<=r.length:=by rw[iz];omega
    rw[ih g (by omega) (r.drop n.toNat) (by omega)]
    by_cases d:r.length<g+1
    ·rw[ih r.length d (r.drop n.toNat) e]
    ·omega
def RG(a:Nat)(r:List UInt8):Option (List (Nat×Nat×List UInt8)):=ml a r.length r
theorem Hn(a:Nat):RG a []=X []:=rfl
theorem Fe(a:Nat)(n b:UInt8)(r:List UInt8)(h:a<=n.toNat):RG a (n::b::r)=(RG a r).map λl=>(b.toNat,n.toNat-128,[])::l:=by
 unfold RG;rw[aW]
 conv=>lhs;unfold ml
 rw[ak h];simp only;rw[JN a _ r (by simp)]
theorem Fv(a:Nat)(n:UInt8)(h:a<=n.toNat):RG a [n]=O:=by
 unfold RG;rw[aW]
 conv=>lhs;unfold ml
 rw[ak h]
theorem AL(a:Nat)(n:UInt8)(r:List UInt8)(h:¬a<=n.toNat)(b:n.toNat<=r.length):RG a (n::r)=(RG a (r.drop n.toNat)).map λl=>(0,0,r.take n.toNat)::l:=by
 unfold RG;rw[aW]
 conv=>lhs;unfold ml
 rw[ai h,ak b,JN a _ (r.drop n.toNat) (by rw[iz];omega)]
theorem Mr(a:Nat)(n:UInt8)(r:List UInt8)(h:¬a<=n.toNat)(b:¬n.toNat<=r.length):RG a (n::r)=O:=by
 unfold RG;rw[aW]
 conv=>lhs;unfold ml
 rw[ai h,ai b]
theorem Nw(a:Nat)(p:128<=a)(q:a<=129)(l:List (Nat×Nat×List UInt8))(h:∀t∈l,Fit t):RG a (l.flatMap bL)=X l:=by
 induction l with
 |nil=>rfl
 |cons t l r=>
  have i:=h t (by simp)
  have m:=r (λt i=>h t (by simp[i]))
  rw[nT];obtain⟨b,n,x⟩:=t;rcases i with⟨d,f,g,e⟩|⟨d,f,g,e,k⟩
  ·simp only at d f g e;subst d e;have j:bL (0,0,x)=UInt8.ofNat x.length::x:=rfl;have c:=ou x.length (by omega)
   rw[j,ii,AL _ _ _ (by rw[c];omega) (by rw[c];simp),c,Af,List.take_left,m]
   rfl
  ·simp only at d f g e k;subst k;have j:bL (b,n,[])=[UInt8.ofNat (128+n),UInt8.ofNat b]:=by
    unfold bL;rw[ai (by simp only;omega)]
   have c:=ou (128+n) (by omega)
   have o:=ou b (by omega)
   rw[j,ii,ii,jT,Fe _ _ _ _ (by rw[c];omega),c,o,m]
   simp
def kL(t:List UInt8):Option (List UInt8):=
 match t with
 | []=>O
 |c::r=>if c=114 then X r else if c=122 then(RG 128 r).bind plain else O
def uk(t:List UInt8):Option (List UInt8):=if 65<t.length then O else(kL t).bind λs=>if cR s=X t then X s else O
theorem L9(t:List UInt8):uk t=dc t:=by
 apply Option.ext;intro s;constructor
 ·intro h;refine IL s t ?_;unfold uk at h;split at h
  ·cases h
  ·cases b:kL t with
   |none=>rw[b]at h;cases h
   |some x=>
    rw[b]at h;simp only[jd]at h;split at h
    ·rename_i e;cases h;exact e
    ·cases h
 ·intro h;have b:=So s t h;have c:=aa4 s t b;have hs:s.length<=64:=by
   unfold cR at b;split at b
   ·cases b
   ·omega
  unfold uk;rw[ai (by omega)]
  have hi:kL t=X s:=by
   have a:=b;unfold cR at a;rw[ai (by omega)]at a
   split at a
   ·cases a;rfl
   ·cases a;unfold sl kL;simp only;rw[ai (by decide),ak trivial,Nw 128 (by omega) (by omega) _ (wI [] s _ (by simp) (zo s hs).1)]
    exact(zo s hs).1
  rw[hi];simp only[jd];rw[ak b]
theorem ZT(c:UInt8)(r:List UInt8):dc (c::r)=(if c=122 then(RG 129 r).bind plain else X r).bind λs=>if cR s=X (c::r)then X s else O:=by
 unfold dc RG;simp only[aaW]
end Go.Proofs.YtgigcooffjjbgaaGreatDoor.Pack
namespace Go.Proofs.YtgigcooffjjbgaaGreatDoor
open Go.RowKit Pack
theorem uO:(Tryz.prog.info? 150).map (λi=>(i.zero,i.size,i.bytes))=X (X (iA #[I J 0,I J 0,iT ⟨#[]⟩]),3,32):=by kernel_rfl
def uI(t:Nat×Nat×List UInt8):List iX:=[I J (t.1:Nat),I J (t.2.1:Nat),iT ⟨t.2.2.toArray⟩]
def cK(l:List (Nat×Nat×List UInt8)):List iX:=l.flatMap uI
theorem Hy(l:List (Nat×Nat×List UInt8)):(cK l).length=l.length*3:=by
 induction l with
 |nil=>rfl
 |cons t l a=>simp[cK,uI]at a⊢;omega
theorem og(l:List (Nat×Nat×List UInt8))(t:Nat×Nat×List UInt8):cK l++uI t=cK (l++[t]):=by simp[cK]
theorem yj(l:List (Nat×Nat×List UInt8))(k:Nat)(t:Nat×Nat×List UInt8)(h:l[k]?=X t):(cK l)[3*k]?=X (I J (t.1:Nat))/\(cK l)[3*k+1]?=X (I J (t.2.1:Nat))/\(cK l)[3*k+2]?=X (iT ⟨t.2.2.toArray⟩):=by
 induction l generalizing k with
 |nil=>simp at h
 |cons a l c=>
  cases k with
  |zero=>
   simp at h;subst h;exact⟨rfl,rfl,rfl⟩
  |succ k=>
   have:=c k (by simpa using h)
   have e:cK (a::l)=uI a++cK l:=by simp[cK]
   have b:(uI a).length=3:=rfl;rw[e,cu (by rw[b];omega),cu (by rw[b];omega),cu (by rw[b];omega),b,show 3*(k+1)-3=3*k by omega,show 3*(k+1)+1-3=3*k+1 by omega,show 3*(k+1)+2-3=3*k+2 by omega]
   exact this
theorem Ik(l:List (Nat×Nat×List UInt8))(b z:Nat)(x y:List UInt8):(cK (l++[(b,z,x)])).set (3*l.length+2) (iT ⟨y.toArray⟩)=cK (l++[(b,z,y)]):=by
 rw[<-og,<-og,jz _ _ (by rw[Hy];omega),Hy,show 3*l.length+2-l.length*3=2 by omega]
 rfl
variable{t:ByteArray}{cap g n size B k z:Nat}{e:TypeId}
theorem Ji{w:iW}{base:Nat}{v:iX}{xs:List iX}(h:w.ownsRow base e size v n xs)(j:v=Y (X ⟨g,0,O⟩) n cap)(k:Nat)(u:iX):
 (w.setCell ⟨g,k,O⟩ u).ownsRow base e size v n (xs.set k u):=by
 obtain⟨h1,l⟩:=h;refine⟨by simpa using h1,?_⟩
 rcases l with⟨c,-⟩|⟨f,d,b,c,h4,i,m,o,p,q⟩
 ·rw[j]at c;cases c
 ·right;have r:f=g:=by rw[j]at c;injection c with a;simp at a;exact a.symm
  subst r;refine⟨f,d,b.setIfInBounds k u,c,h4,?_,m,o,by simpa using p,?_⟩
  ·rw[qB w f k b e (0,0) u i];exact qt w f b _ e _ i
  ·rw[xE,List.take_set,q]
def wC(t:Int×Int×ByteArray):List iX:=[I J t.1,I J t.2.1,iT t.2.2]
def me(l:List (Int×Int×ByteArray)):List iX:=l.flatMap wC
def fp(t:Nat×Nat×List UInt8):Int×Int×ByteArray:=((t.1:Int),(t.2.1:Int),⟨t.2.2.toArray⟩)
theorem yt(l:List (Nat×Nat×List UInt8)):cK l=me (l.map fp):=by
 simp[cK,me,List.flatMap_map,fp,wC];rfl
theorem Zy(l:List (Int×Int×ByteArray))(k:Nat)(t:Int×Int×ByteArray)(h:l[k]?=X t):(me l)[k*3]?=X (I J t.1)/\(me l)[k*3+1]?=X (I J t.2.1)/\(me l)[k*3+2]?=X (iT t.2.2):=by
 induction l generalizing k with
 |nil=>simp at h
 |cons a l c=>
  cases k with
  |zero=>
   simp at h;subst h;exact⟨rfl,rfl,rfl⟩
  |succ k=>
   have:=c k (by simpa using h)
   have e:me (a::l)=wC a++me l:=by simp[me]
   have b:(wC a).length=3:=rfl;rw[e,cu (by rw[b];omega),cu (by rw[b];omega),cu (by rw[b];omega),b,show(k+1)*3-3=k*3 by omega,show(k+1)*3+1-3=k*3+1 by omega,show(k+1)*3+2-3=k*3+2 by omega]
   exact this
theorem yR{w:iW}{l:List (Int×Int×ByteArray)}{t:Int×Int×ByteArray}(h:w.ownsRow B 150 3 (Y (X ⟨g,0,O⟩) n cap) n (me l))(c:l[k]?=X t):
 w.cell? ⟨g,k*3,O⟩=X (I J t.1)/\w.cell? ⟨g,k*3+1,O⟩=X (I J t.2.1)/\w.cell? ⟨g,k*3+2,O⟩=X (iT t.2.2):=by
 obtain⟨h1,a,b⟩:=Zy l k t c;have c1:=h.cells (g:=g) rfl _ _ h1;have c2:=h.cells (g:=g) rfl _ _ a;have c3:=h.cells (g:=g) rfl _ _ b;rw[fh]at c1 c2 c3;exact⟨c1,c2,c3⟩
theorem mV{w:iW}{v:iX}{xs:List iX}(h:w.ownsRow B e z v n xs):
 ∃ad cap,v=Y ad n cap/\n<=cap/\cap<=maxLen/\(0<n->∃g,ad=X ⟨g,0,O⟩/\B<=g/\g<w.heap.size):=by
 have a:=h.lt;rcases h.2 with⟨h1,c⟩|⟨g,cap,b,h1,-,-,d,h4,-⟩
 ·exact⟨O,0,by rw[h1,c],by omega,by unfold maxLen;omega,λh=>by omega⟩
 ·subst h1;exact⟨_,cap,rfl,d,h4,λ_=>⟨g,rfl,a g rfl⟩⟩
def kE(a:Nat)(t:Int×Int×ByteArray):Prop:=(t.1=0/\1<=t.2.2.size/\t.2.2.size<=31/\t.2.1=0)∨(1<=t.1/\t.1<=a/\1<=t.2.1/\t.2.1<=31/\t.2.2.size=0)
abbrev Co(a:Nat)(t:Int×Int×ByteArray):Decidable (kE a t):=by unfold kE;exact inferInstance
def jC(a:List UInt8)(t:Int×Int×ByteArray):List UInt8:=lF t.2.1.toNat t.1.toNat (a++t.2.2.data.toList)
def ny(a:List UInt8):List (Int×Int×ByteArray)->Option (List UInt8)
 | []=>X a
 |t::r=>letI:=Co a.length t;if kE a.length t/\a.length+t.2.2.size+t.2.1.toNat<=64 then ny (jC a t) r else O
def jI(l:List (Int×Int×ByteArray)):Option (List UInt8):=ny [] l
theorem XW(a:List UInt8)(t:Int×Int×ByteArray):(jC a t).length=a.length+t.2.2.size+t.2.1.toNat:=by
 unfold jC;rw[Vq,aI];simp
theorem Lv(a:Nat)(t:Nat×Nat×List UInt8):kE a (fp t)↔j8 a t:=by
 obtain⟨b,z,x⟩:=t;have c:(⟨x.toArray⟩:ByteArray).size=x.length:=by show x.toArray.size=_;simp
 unfold kE j8 fp;simp only[c];have h0:x.length=0↔x=[]:=Ip;rw[<-h0];split<;>omega
theorem Ny(a:List UInt8)(t:Nat×Nat×List UInt8)(h:j8 a.length t):jC a (fp t)=lx a t:=by
 obtain⟨b,z,x⟩:=t;unfold j8 at h;unfold jC lx fp;simp only[bi]at*;split at h
 ·rename_i hb
  rw[ak hb,h.2.2];rfl
 ·rename_i hb
  rw[ai hb,h.2.2.2];simp
theorem LO(l:List (Nat×Nat×List UInt8))(a:List UInt8):ny a (l.map fp)=lX a l:=by
 induction l generalizing a with
 |nil=>rfl
 |cons t r f=>
  rw[cB,ny,lX];by_cases h:j8 a.length t
  ·have e:=Ny a t h;have d:=XW a (fp t);rw[e]at d;rw[ak h,e,f];by_cases b:(lx a t).length<=64
   ·rw[ak ⟨(Lv _ _).2 h,by omega⟩,ak b]
   ·rw[ai (λc=>b (by omega)),ai b]
  ·rw[ai (λc=>h ((Lv _ _).1 c.1)),ai h]
def fG(r:Option (List UInt8)):iX:=match r with
 |some o=>iU #[iT ⟨o.toArray⟩,iB iV]
 |none=>iU #[iT ⟨#[]⟩,iB iF]
theorem Gi(a:List UInt8)(ls:List (Int×Int×ByteArray))(k:Nat)(t:Int×Int×ByteArray)(h:ls[k]?=X t):
 ny a (ls.drop k)=letI:=Co a.length t;if kE a.length t/\a.length+t.2.2.size+t.2.1.toNat<=64 then ny (jC a t) (ls.drop (k+1))else O:=by
 obtain⟨h1,b⟩:=aC.1 h;rw[jh h1,b];rfl
theorem IC(n a:Nat)(o:List UInt8):lF (n+1) a o=lF n a (o++[o.getD (o.length-a) 0]):=rfl
theorem Ko(o:List UInt8)(j:Nat)(a:j<o.length):(bF o)[j]?=X (I .u8 ((o.getD j 0).toNat:Int)):=by
 rw[sJ o j a,pL,ay a];rfl
def gX(n:Nat)(a b:Int)(t:ByteArray):Prop:=kE n (a,b,t)/\n+t.size+b.toNat<=64
abbrev jS(n:Nat)(a b:Int)(t:ByteArray):Decidable (gX n a b t):=by unfold gX;exact @instDecidableAnd _ _ (Co _ _) _
theorem On(a b:Int)(t:ByteArray)(n:Nat)(w:iW)(y:n<=64):
 iK Tryz.prog 193 #[iA #[I J a,I J b,iT t],I J n] w λe w'=>e=G (iB (@decide (gX n a b t) (jS n a b t)))/\iL w.heap.size w w':=by
 have l:∀(v:Bool) (w':iW),@decide (gX n a b t) (jS n a b t)=v->ah (iL w.heap.size w w')->(Ending.returned (iB v)=G (iB (@decide (gX n a b t) (jS n a b t)))/\iL w.heap.size w w'):=λv w' h p=>⟨by rw[h],p.o⟩
 have i:=af l;have g:=af ((ax w.heap.size w).alloc (am _) (iC #[I J a,I J b,iT t] 150));clear l;have k:ah (gX n a b t↔(a=0/\1<=t.size/\t.size<=31/\b=0/\n+t.size<=64)∨(1<=a/\a<=n/\1<=b/\b<=31/\t.size=0/\n+b<=64)):=by
  show _↔_;unfold gX kE;simp only;omega
 go_enter Tryz.func193,Tryz.ntmps193;by_cases h1:a<0
 ·have d:=af (eM (λh=>by have:=k.o.1 h;omega): @decide (gX n a b t) (jS n a b t)=iF)
  go_wp2;go_ret;exact i.o _ _ d.o g
 ·by_cases u:(n:Int)<a
  ·have d:=af (eM (λh=>by have:=k.o.1 h;omega): @decide (gX n a b t) (jS n a b t)=iF)
   go_wp2;go_ret;exact i.o _ _ d.o g
  ·by_cases x:0<a
   ·have d:ah (@decide (gX n a b t) (jS n a b t)=decide (1<=b/\b<=31/\t.size=0/\n+b<=64)):=by
     show _=_;refine Fi ?_;constructor
     ·intro h;have:=k.o.1 h;omega
     ·intro h;exact k.o.2 (by omega)
    by_cases j:((t.size:Int)==0)=iV
    ·have c:t.size=0:=by rw[ix]at j;omega
     by_cases q:1<=b
     ·by_cases r:b<=31
      ·by_cases s:(n:Int)+b<=64
       ·have f:ah (@decide (gX n a b t) (jS n a b t)=iV):=by show _=_;rw[d.o];exact n8 (by omega)
        clear d c;go_wp2;go_quiet (fail);go_wp2;go_ret;exact i.o _ _ f.o (bY g.o _)
       ·have f:ah (@decide (gX n a b t) (jS n a b t)=iF):=by show _=_;rw[d.o];exact eM (by omega)
        clear d c;go_wp2;go_quiet (fail);go_wp2;go_ret;exact i.o _ _ (f.o.trans (eM (by omega)).symm) (bY g.o _)
      ·have f:ah (@decide (gX n a b t) (jS n a b t)=iF):=by show _=_;rw[d.o];exact eM (by omega)
       clear d c;go_wp2;go_quiet (fail);go_wp2;go_ret;exact i.o _ _ f.o (bY g.o _)
     ·have f:ah (@decide (gX n a b t) (jS n a b t)=iF):=by show _=_;rw[d.o];exact eM (by omega)
      clear d c;go_wp2;go_quiet (fail);go_wp2;go_ret;exact i.o _ _ f.o (bY g.o _)
    ·have c:¬t.size=0:=λh=>j (by rw[ix];omega)
     have m:((t.size:Int)==0)=iF:=by simpa using j
     have f:ah (@decide (gX n a b t) (jS n a b t)=iF):=by show _=_;rw[d.o];exact eM (by omega)
     clear d c j;go_wp2;go_quiet (fail);go_wp2;go_ret;exact i.o _ _ f.o (bY g.o _)
   ·have h4:a=0:=by omega
    have d:ah (@decide (gX n a b t) (jS n a b t)=decide (1<=t.size/\t.size<=31/\b=0/\n+t.size<=64)):=by
     show _=_;refine Fi ?_;constructor
     ·intro h;have:=k.o.1 h;omega
     ·intro h;exact k.o.2 (by omega)
    clear h4;by_cases j:(b==0)=iV
    ·have c:b=0:=by rw[ix]at j;omega
     by_cases q:1<=(t.size:Int)
     ·by_cases r:(t.size:Int)<=31
      ·by_cases s:(n:Int)+t.size<=64
       ·have f:ah (@decide (gX n a b t) (jS n a b t)=iV):=by show _=_;rw[d.o];exact n8 (by omega)
        clear d c;go_wp2;go_quiet (fail);go_wp2;go_ret;exact i.o _ _ f.o (bY g.o _)
       ·have f:ah (@decide (gX n a b t) (jS n a b t)=iF):=by show _=_;rw[d.o];exact eM (by omega)
        clear d c;go_wp2;go_quiet (fail);go_wp2;go_ret;exact i.o _ _ (f.o.trans (eM (by omega)).symm) (bY g.o _)
      ·have f:ah (@decide (gX n a b t) (jS n a b t)=iF):=by show _=_;rw[d.o];exact eM (by omega)
       clear d c;go_wp2;go_quiet (fail);go_wp2;go_ret;exact i.o _ _ f.o (bY g.o _)
     ·have f:ah (@decide (gX n a b t) (jS n a b t)=iF):=by show _=_;rw[d.o];exact eM (by omega)
      clear d c;go_wp2;go_quiet (fail);go_wp2;go_ret;exact i.o _ _ f.o (bY g.o _)
    ·have c:¬b=0:=λh=>j (by rw[ix];omega)
     have m:(b==0)=iF:=by simpa using j
     have f:ah (@decide (gX n a b t) (jS n a b t)=iF):=by show _=_;rw[d.o];exact eM (by omega)
     clear d c j;go_wp2;go_quiet (fail);go_wp2;go_ret;exact i.o _ _ f.o (bY g.o _)
theorem LN(t:ByteArray):Lib.strCells t=bF t.data.toList:=by
 simp[Lib.strCells,bF]
def dC(w:iW)(g:Nat)(a b:Int)(t:ByteArray):Prop:=w.heap[g]?=X (iC #[I J a,I J b,iT t] 150 (0,0))
theorem dC.lt{w:iW}{a b:Int}(h:dC w g a b t):g<w.heap.size:=(aK.1 h).1
theorem dC.cells{w:iW}{g:Nat}{a b:Int}{t:ByteArray}(h:dC w g a b t):w.cell? ⟨g,0,O⟩=X (I J a)/\w.cell? ⟨g,1,O⟩=X (I J b)/\w.cell? ⟨g,2,O⟩=X (iT t):=by
 have h1:=aj w g 0 _ _ _ h;have c:=aj w g 1 _ _ _ h;have d:=aj w g 2 _ _ _ h;exact⟨h1,c,d⟩
theorem dC.grown{w w':iW}{a b:Int}{v:iX}{xs:List iX}(h:dC w g a b t)(j:w.ownsRow B 5 1 v n xs)(i:w.grownBy w' v.ownBlock):dC w' g a b t:=by
 refine(i.block g h.lt (λe=>?_)).trans h
 rcases j.2 with⟨rfl,-⟩|⟨f,cap,d,rfl,-,c,-⟩
 ·cases e
 ·have:g=f:=by simpa[Value.ownBlock]using e
  subst this;unfold dC at h;rw[h]at c;simp at c
theorem dC.below{w w':iW}{a b:Int}(h:dC w g a b t)(c:iL w.heap.size w w'):dC w' g a b t:=(c.block g h.lt).trans h
theorem dC.alloc{w:iW}{a b:Int}(h:dC w g a b t)(o:Obj):dC (w.alloc o) g a b t:=h.below ((ax _ _).alloc (am _) o)
theorem su(w:iW)(a b:Int)(t:ByteArray):dC (w.alloc (iC #[I J a,I J b,iT t] 150)) w.heap.size a b t:=aB w _
theorem Uh(v:iX)(ls:List (Int×Int×ByteArray))(B:Nat)(w:iW)(hl:ls.length<=1048576)(ha:w.ownsRow B 150 3 v ls.length (me ls)):
 iK Tryz.prog 156 #[v] w λe w'=>e=G (fG (jI ls))/\iL w.heap.size w w':=by
 obtain⟨i0,hi,W,Y,Z⟩:=bO zK;obtain⟨ad,au,rfl,a1,a2,a3⟩:=mV ha;unfold maxLen at a2;have A3:=af a3;have HA:=af ha;clear a3 ha;go_enter Tryz.func156,Tryz.ntmps156;go_wp2;go_loopw [4,9] (λpv iv wr=>∃(k:Nat) (o:List UInt8),k<=ls.length/\o.length<=64/\iv=I J k/\ah (wr.ownsRow w.heap.size 5 1 pv o.length (bF o))/\ah (jI ls=ny o (ls.drop k))/\ah (iL w.heap.size w wr)) (λ_ iv _=>ls.length-(intOf iv).toNat)
 case atStart=>exact⟨0,[],aJ _,by simp,rfl,pW _ _ _ _,rfl,ax _ _⟩
 case round=>
  obtain⟨k,o,hk,ho,rfl,HO,F,P⟩:=hrel;have V:=P.o.size;by_cases aL:(k:Int)<ls.length
  ·obtain⟨ga,rfl,_,aI⟩:=A3.o (by omega)
   have ao:k<ls.length:=by omega
   obtain⟨x,y,t,ht⟩:∃x y t,ls[k]?=X (x,y,t):=⟨ls[k].1,ls[k].2.1,ls[k].2.2,ay ao⟩;obtain⟨c1,c2,c3⟩:=yR (bC HA.o P.o) ht;simp only at c1 c2 c3;have f:=Gi o ls k _ ht;simp only at f;have k0:(0:Int)<=k:=by omega
   obtain⟨ap,av,rfl,-⟩:=mV HO.o;have CT:=af (su wr x y t);clear ht;go_wp2_with fail;refine(On x y t o.length _ ho).mono ?_;rintro e w5 ⟨rfl,n⟩;have b:=af (CT.o.below n);have l:=af (bC (HO.o.alloc (iC #[I J x,I J y,iT t] 150)) n);have u:=af ((P.o.alloc V _).trans (n.mono (by simp;omega)))
   have an:wr.heap.size<w5.heap.size:=b.o.lt;generalize wr.heap.size=g at b an V⊢;clear CT n c1 c2 c3 HO P;by_cases p:gX o.length x y t
   ·rw[n8 p];have K:ah (jI ls=ny (jC o (x,y,t)) (ls.drop (k+1))):=by
     show _=_;rw[F.o,f,ak ⟨p.1,p.2⟩]
    have am:=p.2;have C:=p.1;unfold kE at C;simp only at C;obtain⟨A,rfl⟩:∃A:Nat,x=A:=⟨x.toNat,by omega⟩
    obtain⟨N,rfl⟩:∃N:Nat,y=N:=⟨y.toNat,by omega⟩
    rw[bi]at am;have Q:0<N->1<=A/\A<=o.length:=λh=>by omega
    have aa:=af Q;have aF:N<=31:=by omega
    obtain⟨q0,q1,q2⟩:=b.o.cells;clear f F C Q p;go_wp2_with (at_builtin;refine Iz _ rfl _ _ 22 9 rfl w.heap.size 5 i0 Tryz.underlying22 Tryz.underlying9 hi W Y Z _ _ _ rfl l.o t rfl (by unfold maxLen;omega) (by omega) (by omega) ?_)
    intro v6 w6 T r _;have M:=af (b.o.grown l.o r);have ag:=af (u.o.grown r (by omega) (λj hj=>(l.o.lt j hj).1))
    have ab:ah (w6.ownsRow w.heap.size 5 1 v6 (o++t.data.toList).length (bF (o++t.data.toList))):=by
     show World.ownsRow _ _ _ _ _ _ _;have e1:(o++t.data.toList).length=o.length+t.size:=by simp
     have e2:bF (o++t.data.toList)=bF o++bF t.data.toList:=by simp[bF]
     rw[e1,e2,<-LN];exact T
    have aA:=r.size;obtain⟨q0,q1,q2⟩:=M.o.cells;have aM:(o++t.data.toList).length=o.length+t.size:=by simp
    clear T r b l u;go_wp2;go_loopw [4,24] (λpv jv w8=>∃(j:Nat) (q:List UInt8),j<=N/\jv=I J j/\o.length<=q.length/\q.length+N<=64+j/\ah (w8.ownsRow w.heap.size 5 1 pv q.length (bF q))/\ah (jC o ((A:Int),(N:Int),t)=lF (N-j) A q)/\ah (dC w8 g A N t)/\ah (iL w.heap.size w w8)) (λ_ jv _=>N-(intOf jv).toNat)
    case atStart=>exact⟨0,o++t.data.toList,aJ _,rfl,by omega,by omega,ab,(by show _=_;unfold jC;simp),M,ag⟩
    case round=>
     obtain⟨j,q,hj,rfl,aN,aO,a,i,s,m⟩:=hrel;have ar:q.length<=64:=by omega
     by_cases aK:(j:Int)<N
     ·obtain⟨aD,aE⟩:=aa.o (by omega)
      obtain⟨aB,aC,rfl,-,aw,h8⟩:=mV a.o;obtain⟨gp,rfl,_,_⟩:=h8 (by omega)
      obtain⟨d,hd⟩:∃d:Nat,d=q.length-A:=⟨_,rfl⟩;have aH:(q.length:Int)-A=(d:Int):=by omega
      have al:d<q.length:=by omega
      have cb:_:=a.o.cells (g:=gp) rfl d _ (Ko q d al);rw[fh]at cb;obtain⟨q0,q1,q2⟩:=s.o.cells;have L:ah (jC o ((A:Int),(N:Int),t)=lF (N-(j+1)) A (q++[q.getD d 0])):=by
       show _=_;rw[i.o,show N-j=(N-(j+1))+1 by omega,IC,<-hd]
      have aP:=m.o.size;obtain⟨c,hc⟩:=aq (q.getD d 0:UInt8);rw[hc]at cb L;obtain⟨z,hz⟩:=aq ((c.toNat:Int):Int);rw[hz]at cb;have HZ:=af hz;clear hc hd i hz;have d0:(0:Int)<=d:=by omega
      go_wp2_with (at_builtin;refine cS _ rfl _ _ 22 rfl w.heap.size 5 i0 (I .u8 0) 1 1 Tryz.underlying22 hi W Y Z rfl (by decide) _ _ _ rfl (by exact a.o.alloc _) ⟨_,0,O⟩ 1 1 [I .u8 z] rfl rfl (by exact lS _ _ _) (vT _) (by unfold maxLen;omega) (by omega) (by simp;omega) ?_)
      intro v9 w9 E D _;rw[uV q c z HZ.o]at E;have U:(q++[c]).length=q.length+1:=by simp
      have ac:ah (w9.ownsRow w.heap.size 5 1 v9 (q++[c]).length (bF (q++[c]))):=by
       show World.ownsRow _ _ _ _ _ _ _;rw[U];exact E
      have ae:=af ((s.o.alloc _).grown (a.o.alloc _) D);have aj:=af (tz m.o (by omega) a.o D)
      clear E D a s m cb q0 q1 q2;go_wp2;go_roundw
      case rel=>exact⟨j+1,q++[c],by omega,by go_num,by omega,by omega,ac,L,ae,aj⟩
      case measure=>simp[intOf];omega
     ·have R:j=N:=by omega
      have H:ah (jC o ((A:Int),(N:Int),t)=q):=by show _=_;rw[i.o,R,lh];rfl
      rw[H.o]at K;clear R i H;go_wp2;go_roundw
      case rel=>exact⟨k+1,q,by omega,ar,by go_num,a,K,m⟩
      case measure=>simp[intOf];omega
   ·rw[eM p];have H:ah (jI ls=O):=by
     show _=_;rw[F.o,f,ai (λh=>p ⟨h.1,h.2⟩)]
    clear F f p;go_wp2;exact az (bt rfl _ _ _) rfl ⟨by rw[H.o];rfl,u.o⟩
  ·have S:k=ls.length:=by omega
   have H:ah (jI ls=X o):=by show _=_;rw[F.o,S,uA];rfl
   have aG:=D6 wr _ o HO.o;clear F S;go_wp2;exact az (bt rfl _ _ _) rfl ⟨by rw[H.o];rfl,P.o⟩
end Go.Proofs.YtgigcooffjjbgaaGreatDoor
