/-
  SDoS; SStA; SNew; SDev; SRoom
-/
import Derived.Test.YtijmbohadndfmaaGreatDoorPk20
import Derived.Deep.RegionLaw
open Go.Value renaming int→I,slice→Y,bool→iB,agg→iA,tuple→iU
open Go.IntKind renaming i64→J
open Option renaming none→O,some→X
open Go.Ending renaming returned→G
open Go.Obj renaming cells→iC
open Bool renaming true→iV,false→iF
open Go renaming World→iW,Value→iX,Calls→iK
open Go.RowKit renaming Below→iL
set_option maxHeartbeats 2000000
set_option maxRecDepth 100000
namespace Go.Proofs.YtijmbohadndfmaaGreatDoor
open Go.RowKit
theorem Ua(v u:iX)(bs:List Bk)(l:List aM)(w:iW)(hs:dg bs)(hl:l.length<=1000000000)(U:fj w v bs)(hu:ni w u l):
 iK Tryz.prog 78 #[iA #[v],u] w λe w'=>∃x,e=G (iU #[iA #[x],I J ((da bs l).2:Int)])/\dm w' w.heap.size x (da bs l).1/\iL w.heap.size w w':=by
 obtain⟨vd,vc,rfl⟩:=U.form;obtain⟨ad,cap,rfl,u1,u2,u3⟩:=hu.form;obtain⟨n,Z⟩:=an l.length;have S:=af Z;have Q:=af (((ax w.heap.size w).alloc (ak _) (iC #[Y vd bs.length vc] 38)).alloc (by simp) (iC #[Y O 0 0] 38))
 have F0:=af (U.below Q.o);have HU:=af hu;have HS:=af hs;rw[Z]at hl u1 HU⊢;clear U hu hs u3 Z;go_enter Tryz.func78,Tryz.ntmps78;go_wp2_with fail;refine(xi _ bs _ HS.o F0.o).mono ?_;rintro e w1 ⟨x,rfl,f,b1⟩;obtain⟨xd,xc,rfl⟩:=f.form;obtain⟨c,V⟩:=an w1.heap.size;have M:=af (fw.start b1 f V);clear b1 f F0;go_wp2;try rw[V]
 clear V;generalize w1.alloc (iC #[Y xd bs.length xc] 38)=w2 at M⊢;go_loopw [7] (λiv wr=>∃(i:Nat) (y:iX) (cs:List Bk),i<=n/\iv=I J i/\ah (da bs (l.take i)=(cs,i))/\ah (dg cs)/\ah (fw w wr c y cs)) (λiv _=>n-(intOf iv).toNat)
 case atStart=>exact⟨0,_,bs,aI _,rfl,rfl,HS,M⟩
 case round=>
  obtain⟨i,y,cs,hi,rfl,K,L,D⟩:=hrel;clear M;obtain⟨yd,yc,rfl⟩:=D.o.form;obtain⟨k1,f1,k2,f2⟩:=D.o.cell;by_cases aa:(i:Int)<n
  ·obtain⟨s,q⟩:∃s,l[i]?=X s:=⟨_,ay (by have:=S.o;omega)⟩
   obtain⟨g,o,eg,q1,q2,q3,q4⟩:=(HU.o.below D.o.bel).at q;subst eg;have p:=af q;obtain⟨k,b,lf,t⟩:=s;simp only at q1 q2 q3 q4;have i0:(0:Int)<=i:=by omega
   obtain⟨a,ok,W⟩:∃a ok,cP cs (k,b,lf,t)=(a,ok):=⟨_,_,rfl⟩;have d:=af W;have H:=af (D.o.below (ax _ _).drew);have De:=af (D.o.below ((ax _ _).alloc (ak _) (iC #[Y O 0 0] 38)).drew);have B:=af (AB (Y yd cs.length yc) cs (k,b,lf,t) wr.drew L.o H.o.rdb);have C:=af (AB (Y yd cs.length yc) cs (k,b,lf,t) (wr.alloc (iC #[Y O 0 0] 38)).drew L.o De.o.rdb);unfold xg at B C;rw[W]at B C;simp only at B C;have r:ok=iF->ah (da bs l=(cs,i)):=λh=>QM K.o p.o (by rw[d.o];exact h)
   have m:ok=iV->ah (da bs (l.take (i+1))=(a,i+1)):=λh=>by
    have:=WT K.o p.o (by rw[d.o];exact h)
    rw[d.o]at this;exact this
   have R:ah (dg a):=by have:=L.o.step (k,b,lf,t);rw[d.o]at this;exact this
   clear q W;have gw:g<wr.heap.size:=bh wr _ q1;have cw:c<wr.heap.size:=bh wr _ k1;go_wp2;go_region_with (first
    |(go_at_call 115;(with_reducible refine dq B.o ?_);rintro en w4 ⟨z,rfl,f,A⟩;obtain⟨zd,zc,rfl⟩:=f.form;have D4:=af (H.o.below A);have FO:=af f;have B4:=af A;clear f A)
    |(go_at_call 115;(with_reducible refine dq C.o ?_);rintro en w5 ⟨z,rfl,f,A⟩;obtain⟨zd,zc,rfl⟩:=f.form;have N:=af (D.o.next2 A f);obtain⟨n5,f5⟩:=N.o.1;clear f A))
   all_goals first
    |(have T:=(ax w4.heap.size w4).alloc (ak _) (iC #[Y zd a.length zc] 38)
      have D5:=af (D4.o.below T);have DN:=af (H.o.next B4.o FO.o T);obtain⟨p1,p4,p2,p3⟩:=D5.o.cell;have j:=af D5.o.fin;clear T FO B4 D4)
    |(obtain⟨-,p0,p5,p6⟩:=N.o
      have DN:=af p6;have j:=af p5.fin;obtain⟨p1,p4,p2,p3⟩:=p5.cell;clear p5 p6 N n5 f5)
   all_goals
    clear B C D De H k1 k2 f1 f2 q1 q2 q3 q4 K L d p;cases ok with
    |false=>
     have E:=r rfl;clear m r;go_wp2;exact aF (jX rfl _ _ (w.heap.size+1) _ rfl j.o.1) rfl ⟨_,by rw[E.o];rfl,by rw[E.o];exact j.o.2.1,j.o.2.2⟩
    |true=>
     have P:=m rfl;clear r m;go_wp2;go_roundw
     case rel=>exact⟨i+1,_,a,by omega,by go_num,P,R,DN⟩
     case measure=>simp[intOf];omega
  ·have F:i=n:=by omega
   have r:ah (da bs l=(cs,n)):=by
    have:=Uz K.o (F.trans S.o.symm);rw[S.o]at this;exact this
   have j:=af D.o.fin;clear F;go_wp2;exact aF (jX rfl _ _ (w.heap.size+1) _ rfl j.o.1) rfl ⟨_,by rw[r.o];rfl,by rw[r.o];exact j.o.2.1,j.o.2.2⟩
open Words Sums
theorem Jh(x u:iX)(d:Dv)(l:List aM)(w:iW)(h:fU w x d)(hl:l.length<=1000000000)(hu:ni w u l):iK Tryz.prog 51 #[x,u] w (rO w (fF d l)):=by
 obtain⟨s,r,v,A,vc,ad,t,cap,rfl,h1,h2,h3⟩:=h.form;have E:=aO w (iC #[Y s d.fH.length r,Y v A vc,Y ad t cap,I J d.fS.next,I J d.seq,I J d.tx,I J d.base] 46);have F:aP (w.alloc (iC #[Y s d.fH.length r,Y v A vc,Y ad t cap,I J d.fS.next,I J d.seq,I J d.tx,I J d.base] 46)) w.heap.size (Y s d.fH.length r) (Y v A vc) (Y ad t cap) d.fS.next d.seq d.tx d.base:=az _ _;have H:(w.alloc (iC #[Y s d.fH.length r,Y v A vc,Y ad t cap,I J d.fS.next,I J d.seq,I J d.tx,I J d.base] 46)).heap.size=w.heap.size+1:=by simp
 have C:iL w.heap.size w ((w.alloc (iC #[Y s d.fH.length r,Y v A vc,Y ad t cap,I J d.fS.next,I J d.seq,I J d.tx,I J d.base] 46)).alloc (iC #[Y O 0 0,Y O 0 0,Y O 0 0,I J 0,I J 0,I J 0,I J 0] 46)):=E.alloc (by omega) _
 have gA:=F.below (w':=(w.alloc (iC #[Y s d.fH.length r,Y v A vc,Y ad t cap,I J d.fS.next,I J d.seq,I J d.tx,I J d.base] 46)).alloc (iC #[Y O 0 0,Y O 0 0,Y O 0 0,I J 0,I J 0,I J 0,I J 0] 46)) (aY);have zA:aP ((w.alloc (iC #[Y s d.fH.length r,Y v A vc,Y ad t cap,I J d.fS.next,I J d.seq,I J d.tx,I J d.base] 46)).alloc (iC #[Y O 0 0,Y O 0 0,Y O 0 0,I J 0,I J 0,I J 0,I J 0] 46)) (w.heap.size+1) (Y O 0 0) (Y O 0 0) (Y O 0 0) 0 0 0 0:=by
  rw[<-H];exact az _ _
 generalize aa:(w.alloc (iC #[Y s d.fH.length r,Y v A vc,Y ad t cap,I J d.fS.next,I J d.seq,I J d.tx,I J d.base] 46)).alloc (iC #[Y O 0 0,Y O 0 0,Y O 0 0,I J 0,I J 0,I J 0,I J 0] 46)=wa at C gA zA;have P:=af (Ua (Y s d.fH.length r) u d.fH l wa h2 hl (h1.below C) (hu.below C));have B:=af (h2.all l);have n:ah (fF d l=(eV (da d.fH l).1).1):=rfl;obtain⟨cs,nn,G⟩:∃cs nn,da d.fH l=(cs,nn):=⟨_,_,rfl⟩;rw[G]at P B n;simp only at P B n;have Z:=af C;have HZ:=af zA;have a0:=gA.cells.1;clear E F H C gA zA h1 h2 h3 h hu G;go_enter Tryz.func51,Tryz.ntmps51;go_wp2_with fail;clear aa;refine P.o.mono ?_;rintro e K ⟨y,rfl,fo,b1⟩;obtain⟨M,L,rfl⟩:=fo.form;have S:=aO K (iC #[Y M cs.length L] 38);have b2:=Z.o.trans (b1.mono Z.o.size);have N:=af (b2.trans (S.mono b2.size));have R:=af ((HZ.o.below b1).below S);have R1:=fo.rdb.below S;have k1:(K.alloc (iC #[Y M cs.length L] 38)).cell? ⟨K.heap.size,0,O⟩=X (Y M cs.length L):=am _ _ 0 _ _ _ (az K _);generalize ab:K.alloc (iC #[Y M cs.length L] 38)=w2 at N R R1 k1;have Q:=af (Ci (Y M cs.length L) cs w2 B.o R1);obtain⟨D,ok,hD⟩:∃D ok,eV cs=(D,ok):=⟨_,_,rfl⟩;rw[hD]at Q n;simp only at Q n;clear P Z HZ fo b1 S b2 R1 hD a0;go_wp2_with fail;refine Q.o.mono ?_;rintro e U ⟨z,rfl,dv,df,b3⟩;obtain⟨f,c,j,m,k,b,i,a,rfl⟩:=dv.form;have T:=aO U (iC #[Y f D.fH.length c,Y j m k,Y b i a,I J D.fS.next,I J D.seq,I J D.tx,I J D.base] 46);have X4:aP (U.alloc (iC #[Y f D.fH.length c,Y j m k,Y b i a,I J D.fS.next,I J D.seq,I J D.tx,I J D.base] 46)) U.heap.size (Y f D.fH.length c) (Y j m k) (Y b i a) D.fS.next D.seq D.tx D.base:=az _ _;have b4:=N.o.trans (b3.mono N.o.size);have V:=af (b4.trans (T.mono b4.size));have q:=af ((R.o.below b3).below T);have hz:=R.o.lt;have W:=af (dv.below T);have FF:=af df;obtain⟨g0,g1,g2,g3,g4,g5,g6⟩:=X4.cells;generalize ac:U.alloc (iC #[Y f D.fH.length c,Y j m k,Y b i a,I J D.fS.next,I J D.seq,I J D.tx,I J D.base] 46)=w4 at V q W g0 g1 g2 g3 g4 g5 g6;obtain⟨i0,i1,i2,i3,i4,i5,i6⟩:=q.o.cells;have q0:=q.o.fr 0;have q1:=q.o.fr 1;have q2:=q.o.fr 2;have q3:=q.o.fr 3;have q4:=q.o.fr 4;have q5:=q.o.fr 5;have q6:=q.o.fr 6;have FD:=af (lX q.o (Y f D.fH.length c) (Y j m k) (Y b i a) D.fS.next D.seq D.tx D.base);have FB:=af (mj (Y f D.fH.length c) (Y j m k) (Y b i a) D.fS.next D.seq D.tx D.base V.o (g:=w.heap.size+1) (by omega))
 have FI:=af ((W.o.put hz (Y f D.fH.length c) (Y j m k) (Y b i a) D.fS.next D.seq D.tx D.base).down (B':=w.heap.size) (by omega))
 unfold bU at FD FB FI;clear R q N V W Q dv df b3 T X4 b4 k1 hz;go_wp2;refine aF (Cq (p:=4) rfl _ _ (w.heap.size+1) _ _ _ _ _ _ _ rfl FD.o) rfl ?_;rw[n.o];exact⟨_,rfl,FI.o,FF.o,FB.o⟩
def oe(w wr:iW)(a:iX)(d:List Rw):Prop:=
 wr.heap[w.heap.size]?=X (iC #[Y O 0 0] 38 (0,0))/\wr.heap[w.heap.size+1]?=X (iC #[a] 38 (0,0))/\eJ wr (w.heap.size+2) wr.heap.size a d/\iL w.heap.size w wr
theorem oe.below{w wr w':iW}{b:iX}{d:List Rw}(h:oe w wr b d)(a:iL wr.heap.size wr w'):oe w w' b d:=by
 obtain⟨f,c,h4,e⟩:=h;have g:=(aJ.1 c).1;exact⟨(a.block _ (by omega)).trans f,(a.block _ (by omega)).trans c,(h4.below a (ak _)).up a.size,e.trans (a.mono e.size)⟩
variable{B' g:Nat}
theorem oe.snoc {w wr w':iW} {c a:iX} {d:List Rw} {r:Rw} (h:oe w wr c d) (j:wr.grownBy w' c.ownBlock)
 (v:w'.ownsRow (w.heap.size+2) 107 3 a (d.length+1) (fW (d.map fL)++[iB r.1,I J r.2.1,r.2.2.1])) (u:wr.ownsRow B' 142 2 r.2.2.1 r.2.2.2.length (fi r.2.2.2)) (o:w.heap.size+2<=B')
 (b:∀q∈d,∀g,q.2.2.1.ownBlock=X g->g<B'):oe w (w'.setCell ⟨w.heap.size+1,0,O⟩ a) a (d++[r]):=by
 obtain⟨n,l,h4,m⟩:=h;have x:=(aJ.1 l).1;have f:∀i,i<w.heap.size+2->X i≠c.ownBlock:=λi hi e=>by
  have:=(iq h4.1 i e.symm).1;omega
 have s:=h4.snoc j v u o b;refine⟨dC ((j.block _ (by omega) (f _ (by omega))).trans n) (by omega) _ _,eo ((j.block _ (by omega) (f _ (by omega))).trans l) _ _,s.cellb (by omega) _ _,?_⟩
 exact(m.trans ((ax w.heap.size wr).grown j m.size (λk t=>by have:=(iq h4.1 k t).1;omega))).setCell (p:=⟨w.heap.size+1,0,O⟩) (by show _<=_+1;omega) _
theorem RK(n:Int)(w:iW):
 iK Tryz.prog 41 #[I J n] w λe w'=>∃u,e=G (iU #[iA #[u],iB (decide (3<=n/\n<=10))])/\dm w' w.heap.size u (gL n)/\iL w.heap.size w w':=by
 have A:=(ax w.heap.size w).alloc (ak _) (iC #[Y O 0 0] 38);have h:=af A;have z:=af (az w (iC #[Y O 0 0] 38));have HZ:=af (show(w.alloc (iC #[Y O 0 0] 38)).heap.size=w.heap.size+1 by simp)
 clear A;generalize x:decide (3<=n/\n<=10)=bb;by_cases B:3<=n/\n<=10
 ·obtain⟨m,rfl⟩:∃m:Nat,n=m:=⟨n.toNat,by omega⟩
  have b:decide (3<=(m:Int)/\(m:Int)<=10)=iV:=aQ B;obtain rfl:bb=iV:=x.symm.trans b;clear x;have av:3<=m:=by omega
  have aw:m<=10:=by omega
  have au:(0:Int)<=m:=by omega
  clear B;go_enter Tryz.func41,Tryz.ntmps41;go_wp2_with fail;refine(gT (m:Int) 3 10 _).mono ?_;rintro e v ⟨rfl,rfl⟩;rw[b];clear b;generalize w.alloc (iC #[Y O 0 0] 38)=v at h z HZ⊢;have l:=(ax v.heap.size v).alloc (ak _) (iC #[Y O 0 0] 38);have r1:=az v (iC #[Y O 0 0] 38);have hz:=HZ.o;rw[hz]at r1;have y:ah (oe w (v.alloc (iC #[Y O 0 0] 38)) (Y O 0 0) []):=
   ⟨(l.block _ (by omega)).trans z.o,r1,⟨⟨rfl,.inl ⟨rfl,rfl⟩⟩,λg hg=>(by cases hg),λr hr=>(by cases hr),List.Pairwise.nil⟩,h.o.trans (l.mono (by omega))⟩
  clear l r1;go_wp2;clear hz;generalize v.alloc (iC #[Y O 0 0] 38)=w2 at y⊢;go_loopw [5] (λiv wr=>∃(k:Nat) (t:iX) (d:List Rw),k<=m/\iv=I J k/\ah (d.length=k)/\ah (d.map aC=List.replicate k (iF,0,eK))/\ah (oe w wr t d)) (λiv _=>m-(intOf iv).toNat)
  case atStart=>exact⟨0,_,[],aI _,rfl,rfl,rfl,y⟩
  case round=>
   obtain⟨k,t,d,hk,rfl,HD,HT,HS⟩:=hrel;obtain⟨H,K,s4,s5⟩:=HS.o;have l3:=(aJ.1 K).1;have ay:=s5.size;have ao:wr.cell? ⟨w.heap.size,0,O⟩=X (Y O 0 0):=am _ _ 0 _ _ _ H;have f:wr.cell? ⟨w.heap.size+1,0,O⟩=X t:=am _ _ 0 _ _ _ K;have an:=aL _ _ 0 _ _ H;have al:=aL _ _ 0 _ _ K;obtain⟨s,a,rfl,-,-,-⟩:=lN s4.1;have P:=af s4;have S2:=af H;have L:=af s5;clear H K s4 s5;by_cases ar:(k:Int)<m
   ·have k0:(0:Int)<=k:=by omega
    obtain⟨i0,aa,ac,ad,ae⟩:=bK Fk;have MK:=Hx;have aq:d.length<=10:=by have:=HD.o;omega
    have F:=(((ax wr.heap.size wr).alloc (ak _) (iC iz 142)).alloc (by simp) (iC #[iB iF,I J 0,Y (X ⟨wr.heap.size,0,O⟩) 4 4] 107)).drew
    have c:=af (HS.o.below F);have ap:=af F;have R:ah (((wr.alloc (iC iz 142)).alloc (iC #[iB iF,I J 0,Y (X ⟨wr.heap.size,0,O⟩) 4 4] 107)).drew.ownsRow wr.heap.size 142 2 (Y (X ⟨wr.heap.size,0,O⟩) 4 4) eK.length (fi eK)):=af ((Gp wr).alloc (iC #[iB iF,I J 0,Y (X ⟨wr.heap.size,0,O⟩) 4 4] 107));have T:ah (∀(j:Nat) (u:iX),[iB iF,I J 0,Y (X ⟨wr.heap.size,0,O⟩) 4 4][j]?=X u->((wr.alloc (iC iz 142)).alloc (iC #[iB iF,I J 0,Y (X ⟨wr.heap.size,0,O⟩) 4 4] 107)).drew.cell? ((⟨wr.heap.size+1,0,O⟩:Addr).add j)=X u):=af (ED (wr.alloc (iC iz 142)) #[iB iF,I J 0,Y (X ⟨wr.heap.size,0,O⟩) 4 4] 107 (wr.heap.size+1) (by simp))
    have W:=af (show w.heap.size+2<=((wr.alloc (iC iz 142)).alloc (iC #[iB iF,I J 0,Y (X ⟨wr.heap.size,0,O⟩) 4 4] 107)).drew.heap.size by simp;omega)
    have ka:(wr.alloc (iC iz 142)).cell? ⟨w.heap.size+1,0,O⟩=X (Y s d.length a):=(World.cell?_alloc_lt _ _ _ (show w.heap.size+1<wr.heap.size from l3)).trans f;have kb:((wr.alloc (iC iz 142)).alloc (iC #[iB iF,I J 0,Y (X ⟨wr.heap.size,0,O⟩) 4 4] 107)).cell? ⟨w.heap.size+1,0,O⟩=X (Y s d.length a):=(F.cell (show w.heap.size+1<wr.heap.size from l3)).trans f;have U:ah (X (w.heap.size+1)≠(Y s d.length a).ownBlock):=λe=>by
     have:=(iq P.o.1 _ e.symm).1;omega
    clear F;go_wp2;go_region_law (
     (refine step_append_lies _ (by rfl) (.tmp 17) (.tmp 20) 36 (by rfl) (w.heap.size+2) 107 i0 (iA #[iB iF,I J 0,Y O 0 0]) 3 40 Tryz.underlying36 aa ac ad ae rfl (by decide) _ d.length (fW (d.map fL)) (by simp[Act.eval]) c.o.2.2.1.1 ⟨wr.heap.size+1,0,O⟩ 1 1 [iB iF,I J 0,Y (X ⟨wr.heap.size,0,O⟩) 4 4] (by simp[Act.eval]) (by rfl) T.o (UL _ _ _ _ _) (by omega) (by unfold maxLen;omega) (by omega) W.o _ rfl ?_;intro g6 ag w6 o6 i Z E;have t6:=(i.block _ ((aJ.1 c.o.2.1).1) U.o).trans c.o.2.1;have x6:w6.cell? ⟨w.heap.size+1,0,O⟩=X (Y s d.length a):=am _ _ 0 _ _ _ t6;have y6:=aL _ _ 0 _ _ t6))
    all_goals
     have C:∀q∈d,∀g,q.2.2.1.ownBlock=X g->g<wr.heap.size:=λq x g ab=>(P.o.2.2.1 q x).2 g ab
     have C7:=af (oe.snoc (r:=(iF,0,Y (X ⟨wr.heap.size,0,O⟩) 4 4,eK)) c.o i o6 R.o (by omega) C)
     have N:ah ((d++[((iF,0,Y (X ⟨wr.heap.size,0,O⟩) 4 4,eK):Rw)]).length=k+1):=by show _=_;rw[aT,HD.o];rfl
     have V:ah ((d++[((iF,0,Y (X ⟨wr.heap.size,0,O⟩) 4 4,eK):Rw)]).map aC=List.replicate (k+1) (iF,0,eK)):=by show _=_;rw[dB,HT.o,List.replicate_succ'];rfl
     clear C i o6 t6 x6 y6 Z E ka kb;go_wp2;go_roundw
     case rel=>exact⟨k+1,_,_,by omega,by go_num,N,V,C7⟩
     case measure=>simp[intOf];omega
   ·have D:k=m:=by omega
    have S:ah (gL (m:Int)=d.map aC):=by
     show _=_;unfold gL;rw[aj (by omega),HT.o,D]
     rfl
    have Q2:=af (eo S2.o 0 (Y s d.length a));have Q:=af (P.o.cellb (show w.heap.size<w.heap.size+2 by omega) 0 (Y s d.length a))
    have M:=af (L.o.setCell (p:=⟨w.heap.size,0,O⟩) (ak _) (Y s d.length a));clear D;go_wp2;exact aF (jX rfl _ _ w.heap.size _ rfl Q2.o) rfl ⟨_,rfl,by rw[S.o];exact⟨d,rfl,Q.o.down (by omega)⟩,M.o⟩
 ·have b:decide (3<=n/\n<=10)=iF:=aV B;have S:ah (gL n=[]):=by show _=_;unfold gL;rw[ai B]
  obtain rfl:bb=iF:=x.symm.trans b;clear B x;go_enter Tryz.func41,Tryz.ntmps41;go_wp2_with fail;refine(gT n 3 10 _).mono ?_;rintro e v ⟨rfl,rfl⟩;rw[b];clear b;have c0:(w.alloc (iC #[Y O 0 0] 38)).cell? ⟨w.heap.size,0,O⟩=X (Y O 0 0):=am _ _ 0 _ _ _ z.o;have f0:=aL _ _ 0 _ _ z.o;go_wp2;exact aF (jX rfl _ _ w.heap.size _ rfl z.o) rfl ⟨_,rfl,by rw[S.o];exact⟨[],rfl,⟨rfl,.inl ⟨rfl,rfl⟩⟩,λg hg=>(by cases hg),λr hr=>(by cases hr),List.Pairwise.nil⟩,h.o⟩
def oY(n:Int):Dv×Bool:=if 3<=n/\n<=10 then eV (gL n)else(rZ,iF)
theorem M5(n:Int)(w:iW):iK Tryz.prog 24 #[I J n] w (AD w (oY n).1 (oY n).2):=by
 have N:=aO w (iC #[Y O 0 0,Y O 0 0,Y O 0 0,I J 0,I J 0,I J 0,I J 0] 46);have W:aP (w.alloc (iC #[Y O 0 0,Y O 0 0,Y O 0 0,I J 0,I J 0,I J 0,I J 0] 46)) w.heap.size (Y O 0 0) (Y O 0 0) (Y O 0 0) 0 0 0 0:=az _ _;generalize R:w.alloc (iC #[Y O 0 0,Y O 0 0,Y O 0 0,I J 0,I J 0,I J 0,I J 0] 46)=wa at N W;have H:=af (RK n wa);have ZA:=af W;have BA:=af N;clear W N;obtain⟨P,f⟩:∃P,decide (3<=n/\n<=10)=P:=⟨_,rfl⟩;rw[f]at H;have s:=af f;clear f;go_enter Tryz.func24,Tryz.ntmps24;go_wp2_with fail;clear R;refine H.o.mono ?_;rintro e z ⟨u,rfl,F,K⟩;obtain⟨x,t,rfl⟩:=F.form;obtain⟨bs,i⟩:=an (gL n);rw[i]at F⊢;have HF:=af i;clear i;have E:=aO z (iC #[Y x bs.length t] 38);have a:=af ((ZA.o.below K).below E);have L:=BA.o.trans (K.mono BA.o.size);have j:=af (L.trans (E.mono L.size));have C:=af (F.rdb.below E);have k1:(z.alloc (iC #[Y x bs.length t] 38)).cell? ⟨z.heap.size,0,O⟩=X (Y x bs.length t):=am _ _ 0 _ _ _ (az z _);generalize aa:z.alloc (iC #[Y x bs.length t] 38)=w2 at a j C k1;clear H ZA BA K L E F;cases hc:P with
 |false=>
  have l:¬(3<=n/\n<=10):=λh=>by have:=s.o;rw[hc,rU]at this;exact this h
  have A:ah (oY n=(rZ,iF)):=by show _=_;unfold oY;rw[ai l]
  clear l;obtain⟨y0,y1,y2,y3,y4,y5,y6⟩:=a.o.cells;have f0:=a.o.fr 0;have f1:=a.o.fr 1;have f2:=a.o.fr 2;have f3:=a.o.fr 3;have f4:=a.o.fr 4;have f5:=a.o.fr 5;have f6:=a.o.fr 6;have m:=af (lX a.o (Y O 0 0) (Y O 0 0) (Y O 0 0) 0 0 0 0);have k:=af (mj (Y O 0 0) (Y O 0 0) (Y O 0 0) 0 0 0 0 j.o (g:=w.heap.size) (by omega))
  have r:=af (Lg (B:=w.heap.size) (bU w2 w.heap.size (Y O 0 0) (Y O 0 0) (Y O 0 0) 0 0 0 0) k.o.size);unfold bU at m k r;clear a j C;go_wp2;refine aF (pI (p:=2) (q:=3) rfl _ _ w.heap.size _ _ _ _ _ _ _ rfl m.o) rfl ?_;rw[A.o];exact⟨_,rfl,r.o,D9,k.o⟩
 |true=>
  have l:3<=n/\n<=10:=by have:=s.o;rw[hc,bW]at this;exact this
  have A:ah (oY n=eV bs):=by show _=_;unfold oY;rw[aj l,HF.o]
  have y:bn bs=iV:=by rw[<-HF.o];exact(Right.new l).1
  have G:=af (Ci (Y x bs.length t) bs w2 (Fp y) C.o);obtain⟨D,ok,hD⟩:∃D ok,eV bs=(D,ok):=⟨_,_,rfl⟩;rw[hD]at G A;clear l y hD C;go_wp2_with fail;refine G.o.mono ?_;rintro e w3 ⟨v,rfl,Q,df,M⟩;obtain⟨d,c,U,V,vc,ad,T,cap,rfl⟩:=Q.form;have b:=af (a.o.below M);have Z:=af (j.o.trans (M.mono j.o.size));have S:=a.o.lt;obtain⟨y0,y1,y2,y3,y4,y5,y6⟩:=b.o.cells;have f0:=b.o.fr 0;have f1:=b.o.fr 1;have f2:=b.o.fr 2;have f3:=b.o.fr 3;have f4:=b.o.fr 4;have f5:=b.o.fr 5;have f6:=b.o.fr 6;have m:=af (lX b.o (Y d D.fH.length c) (Y U V vc) (Y ad T cap) D.fS.next D.seq D.tx D.base);have k:=af (mj (Y d D.fH.length c) (Y U V vc) (Y ad T cap) D.fS.next D.seq D.tx D.base Z.o (g:=w.heap.size) (by omega))
  have r:=af ((Q.put S (Y d D.fH.length c) (Y U V vc) (Y ad T cap) D.fS.next D.seq D.tx D.base).down (Nat.le_of_lt S));have FF:=af df;unfold bU at m k r;clear b Z a j Q df M G k1 S;go_wp2;refine aF (pI (p:=2) (q:=3) rfl _ _ w.heap.size _ _ _ _ _ _ _ rfl m.o) rfl ?_;rw[A.o];exact⟨_,rfl,r.o,FF.o,k.o⟩
theorem aP.fl{W:iW}{a b c:iX}{n q t s:Int}(h:aP W g a b c n q t s)(x:iX):aP (W.setCell ⟨g,0,O⟩ x) g x b c n q t s:=bC _ _ 0 _ _ _ h
theorem Hy(v:iX)(d:Dv)(w:iW)(h:fU w v d)(hf:d.Fit):iK Tryz.prog 44 #[v] w (rO w d):=by
 obtain⟨r,q,t,z,vc,ad,s,cap,rfl,h1,h2,h3⟩:=h.form;have F:=aO w (iC #[Y r d.fH.length q,Y t z vc,Y ad s cap,I J d.fS.next,I J d.seq,I J d.tx,I J d.base] 46);have H:aP (w.alloc (iC #[Y r d.fH.length q,Y t z vc,Y ad s cap,I J d.fS.next,I J d.seq,I J d.tx,I J d.base] 46)) w.heap.size (Y r d.fH.length q) (Y t z vc) (Y ad s cap) d.fS.next d.seq d.tx d.base:=az _ _;have L:(w.alloc (iC #[Y r d.fH.length q,Y t z vc,Y ad s cap,I J d.fS.next,I J d.seq,I J d.tx,I J d.base] 46)).heap.size=w.heap.size+1:=by simp
 have N:iL w.heap.size w ((w.alloc (iC #[Y r d.fH.length q,Y t z vc,Y ad s cap,I J d.fS.next,I J d.seq,I J d.tx,I J d.base] 46)).alloc (iC #[Y O 0 0,Y O 0 0,Y O 0 0,I J 0,I J 0,I J 0,I J 0] 46)):=F.alloc (by omega) _
 have G:=H.below (w':=(w.alloc (iC #[Y r d.fH.length q,Y t z vc,Y ad s cap,I J d.fS.next,I J d.seq,I J d.tx,I J d.base] 46)).alloc (iC #[Y O 0 0,Y O 0 0,Y O 0 0,I J 0,I J 0,I J 0,I J 0] 46)) (aY);have zA:aP ((w.alloc (iC #[Y r d.fH.length q,Y t z vc,Y ad s cap,I J d.fS.next,I J d.seq,I J d.tx,I J d.base] 46)).alloc (iC #[Y O 0 0,Y O 0 0,Y O 0 0,I J 0,I J 0,I J 0,I J 0] 46)) (w.heap.size+1) (Y O 0 0) (Y O 0 0) (Y O 0 0) 0 0 0 0:=by
  rw[<-L];exact az _ _
 generalize aa:(w.alloc (iC #[Y r d.fH.length q,Y t z vc,Y ad s cap,I J d.fS.next,I J d.seq,I J d.tx,I J d.base] 46)).alloc (iC #[Y O 0 0,Y O 0 0,Y O 0 0,I J 0,I J 0,I J 0,I J 0] 46)=wa at N G zA;have CF:=af (xi _ d.fH wa h2 (h1.below N));have U:=af N;have M:=af G;have V:=af zA;have HI:=af h3;have HF:=af hf;have a0:=G.cells.1;have a1:=G.fr 0;clear F H L N G zA h1 h2 h3 h hf;go_enter Tryz.func44,Tryz.ntmps44;go_wp2_with fail;clear aa;refine CF.o.mono ?_;rintro e D ⟨x,rfl,X,B⟩;obtain⟨l,j,rfl⟩:=X.form;have ac:=V.o.lt;have E:=af ((U.o.trans (B.mono U.o.size)).setCell (p:=⟨w.heap.size,0,O⟩) (ak _) (Y l d.fH.length j));have n:=af ((M.o.below B).fl (Y l d.fH.length j));have W:=af ((V.o.below B).far (h:=w.heap.size) (k:=0) (u:=Y l d.fH.length j) (by omega))
 have S:ah (cu wa.heap.size D.heap.size (Y l d.fH.length j) d.fH (D.setCell ⟨w.heap.size,0,O⟩ (Y l d.fH.length j))):=cu.loc _ _ _ _ D _ (λy y1 y2=>aU _ _ _ _ (show y≠w.heap.size by omega)) X
 have Z:(D.setCell ⟨w.heap.size,0,O⟩ (Y l d.fH.length j)).heap.size=D.heap.size:=by simp
 have c0:=(M.o.below B).cells.1;have c1:=(M.o.below B).fr 0;have ae:=B.size;have CS:=af (mw (HI.o.below E.o));obtain⟨-,e1,e2,e3,-,-,-⟩:=n.o.cells;clear CF U M V HI X B a0 a1;go_wp2_with fail;generalize ab:D.setCell ⟨w.heap.size,0,O⟩ (Y l d.fH.length j)=w2 at n W E S CS Z e1 e2 e3⊢;clear ab c0 c1;refine CS.o.mono ?_;rintro e A ⟨u,rfl,so,-⟩;obtain⟨vv,kv,lo1,hi1,lo2,hi2,rfl,s1,s2,s3,s4,s5,s6,s7,m⟩:=so;obtain⟨c,f,rfl,-⟩:=s1.form;obtain⟨b,a,rfl⟩:=s2.form;have T:=af ((n.o.below m).fS (Y c d.fS.fV.length f) (Y b d.fS.fK.length a) d.fS.next);have C:w.heap.size+1≠w.heap.size:=by omega
 have i:=af ((((W.o.below m).far (h:=w.heap.size) (k:=1) (u:=Y c d.fS.fV.length f) C).far (h:=w.heap.size) (k:=2) (u:=Y b d.fS.fK.length a) C).far (h:=w.heap.size) (k:=3) (u:=I J d.fS.next) C);have b4:=E.o.trans (m.mono E.o.size);have Q:=af (((b4.setCell (p:=⟨w.heap.size,1,O⟩) (ak _) (Y c d.fS.fV.length f)).setCell (p:=⟨w.heap.size,2,O⟩) (ak _) (Y b d.fS.fK.length a)).setCell (p:=⟨w.heap.size,3,O⟩) (ak _) (I J d.fS.next));have P:∀x,x≠w.heap.size->(((A.setCell ⟨w.heap.size,1,O⟩ (Y c d.fS.fV.length f)).setCell ⟨w.heap.size,2,O⟩ (Y b d.fS.fK.length a)).setCell ⟨w.heap.size,3,O⟩ (I J d.fS.next)).heap[x]?=A.heap[x]?:=λx hx=>by
  rw[aU _ ⟨w.heap.size,3,O⟩ _ _ hx,aU _ ⟨w.heap.size,2,O⟩ _ _ hx,aU _ ⟨w.heap.size,1,O⟩ _ _ hx]
 have K:(((A.setCell ⟨w.heap.size,1,O⟩ (Y c d.fS.fV.length f)).setCell ⟨w.heap.size,2,O⟩ (Y b d.fS.fK.length a)).setCell ⟨w.heap.size,3,O⟩ (I J d.fS.next)).heap.size=A.heap.size:=by simp
 have ag:=m.size;have R:ah (cS wa.heap.size (iA #[Y l d.fH.length j,Y c d.fS.fV.length f,Y b d.fS.fK.length a,I J d.fS.next,I J d.seq,I J d.tx,I J d.base]) d (((A.setCell ⟨w.heap.size,1,O⟩ (Y c d.fS.fV.length f)).setCell ⟨w.heap.size,2,O⟩ (Y b d.fS.fK.length a)).setCell ⟨w.heap.size,3,O⟩ (I J d.fS.next))):=by
  refine⟨_,_,_,wa.heap.size,D.heap.size,lo1,hi1,lo2,hi2,rfl,cu.loc _ _ _ _ w2 _ (λy y1 y2=>(P y (by omega)).trans (m.block y (by omega))) S.o,aB.loc _ _ _ _ _ _ A _ (λy y1 y2=>P y (by omega)) s1,dt.loc _ _ _ _ A _ (λy y1 y2=>P y (by omega)) s2,⟨ak _,?_⟩,⟨?_,?_⟩,⟨?_,?_⟩,.inl ?_,.inl ?_,s7⟩<;>(try rw[K])<;>omega
 have c1:=(n.o.below m).cells;obtain⟨-,c1,c2,c3,-,-,-⟩:=c1;have q1:=(n.o.below m).fr 1;have q2:=(n.o.below m).fr 2;have q3:=(n.o.below m).fr 3;clear CS s1 s2 s3 s4 s5 s6 s7 m b4 P K n W E S e1 e2 e3;go_upto_region 3 with fail
 generalize((A.setCell ⟨w.heap.size,1,O⟩ (Y c d.fS.fV.length f)).setCell ⟨w.heap.size,2,O⟩ (Y b d.fS.fK.length a)).setCell ⟨w.heap.size,3,O⟩ (I J d.fS.next)=w4 at T i Q R⊢;clear c1 c2 c3 q1 q2 q3;obtain⟨g0,g1,g2,g3,g4,g5,g6⟩:=T.o.cells;obtain⟨i0,i1,i2,i3,i4,i5,i6⟩:=i.o.cells;have q0:=i.o.fr 0;have q1:=i.o.fr 1;have q2:=i.o.fr 2;have q3:=i.o.fr 3;have q4:=i.o.fr 4;have q5:=i.o.fr 5;have q6:=i.o.fr 6;have FD:=af (lX i.o (Y l d.fH.length j) (Y c d.fS.fV.length f) (Y b d.fS.fK.length a) d.fS.next d.seq d.tx d.base);have FB:=af (mj (Y l d.fH.length j) (Y c d.fS.fV.length f) (Y b d.fS.fK.length a) d.fS.next d.seq d.tx d.base Q.o (g:=w.heap.size+1) (by omega))
 have FI:=af ((R.o.put ac (Y l d.fH.length j) (Y c d.fS.fV.length f) (Y b d.fS.fK.length a) d.fS.next d.seq d.tx d.base).down (B':=w.heap.size) (by omega))
 unfold bU at FD FB FI;clear T i Q R;go_wp2;refine aF (Cq (p:=2) rfl _ _ (w.heap.size+1) _ _ _ _ _ _ _ rfl FD.o) rfl ?_;exact⟨_,rfl,FI.o,HF.o,FB.o⟩
theorem PK(v:iX)(rs:List Rw)(w:iW)(hl:rs.length<=1048576)(i:∀r∈rs,r.2.2.2.length<=1048576)(U:fO w v rs):
 iK Tryz.prog 48 #[iA #[v]] w λe w'=>e=G (I J (cJ (rs.map aC):Nat))/\iL w.heap.size w w':=by
 have V:=U;obtain⟨N,a,rfl,-,-⟩:=V;have Q:=af i;obtain⟨n,W⟩:=an rs.length;have HN:=af W;have P:=af ((ax w.heap.size w).alloc (ak _) (iC #[Y N n a] 38));have h:=af U;rw[W]at hl h⊢;have R0:=af (az w (iC #[Y N n a] 38));have S:=af (λk=>Vw (bs:=rs.map aC) (m:=1048576) (λq H=>by obtain⟨r,j,rfl⟩:=bF.1 H;exact i r j) k)
 clear U i W;go_enter Tryz.func48,Tryz.ntmps48;go_wp2;have Z:=af (h.o.below P.o);clear h;generalize w.alloc (iC #[Y N n a] 38)=wA at P Z R0⊢;have cf:wA.cell? ⟨w.heap.size,0,O⟩=X (Y N n a):=am _ _ 0 _ _ _ R0.o;go_loop [3,4] (λmv T=>∃b m:Nat,T=I J b/\mv=I J m/\b<=n/\ah (hZ (rs.map aC) b=m)) (λ_ T=>n-(intOf T).toNat)
 case atStart=>exact⟨0,0,rfl,rfl,aI _,rfl⟩
 case round=>
  obtain⟨b,m,rfl,rfl,r1,B⟩:=hrel;by_cases ab:(b:Int)<n
  ·have D:b<rs.length:=by have:=HN.o;omega
   obtain⟨r,j⟩:∃r,rs[b]?=X r:=⟨_,ay D⟩;have K:(rs.map aC)[b]?=X (aC r):=by rw[bk,j];rfl
   obtain⟨gv,e,⟨c1,c2,c3⟩,f⟩:=Z.o.at j;subst e;have F:=Q.o r (aH j);obtain⟨x,y,u,ls⟩:=r;simp only at c1 c2 c3;simp only at f F;have b0:(0:Int)<=b:=by omega
   have E:=f;obtain⟨ld,lc,rfl,-,-⟩:=E;have A:=af f;have C:=af K;have hm:m<=1048576*1048576:=by have h1:=S.o b;rw[B.o]at h1;exact bR h1 (zh _ (by omega))
   obtain⟨t,H⟩:=an ls.length;have R:=af H;rw[H]at c3 F;clear K f j D H;go_wp2;go_loop [3,5] (λnv kv=>∃(k p:Nat),kv=I J k/\k<=t/\nv=I J p/\p<=m+k/\ah (p=m+if x=iV then 0 else c8 (ls.take k))) (λ_ kv=>t-(intOf kv).toNat)
   case atStart=>exact⟨0,m,rfl,aI _,rfl,ak _,(show m=m+if x=iV then 0 else c8 (ls.take 0)by simp[c8])⟩
   case round=>
    obtain⟨k,p,rfl,hk,rfl,hp,g⟩:=hrel;by_cases aa:(k:Int)<t
    ·have d:k<ls.length:=by have:=R.o;omega
     obtain⟨z,s,L⟩:∃z t,ls[k]?=X (z,t):=⟨ls[k].1,ls[k].2,ay d⟩;obtain⟨gl,lo,e⟩:=A.o.head (by have:=R.o;omega)
     subst e;obtain⟨d1,-⟩:=A.o.two L;simp only at d1;have k0:(0:Int)<=k:=by omega
     have c:=zo L;simp only at c;cases x with
     |true=>
      have l:ah (p=m+if iV=iV then 0 else c8 (ls.take (k+1))):=g.o
      clear L d g c;go_wp2;go_round
      case rel=>exact⟨k+1,p,by go_num,by omega,rfl,by omega,l⟩
      case measure=>simp[intOf];omega
     |false=>
      by_cases M:z=0
      ·have l:ah (p+1=m+if iF=iV then 0 else c8 (ls.take (k+1))):=by
        have:=g.o;rw[aj M]at c;show _=_;simp at this⊢;omega
       subst M;clear L d g c;go_wp2;go_round
       case rel=>exact⟨k+1,p+1,by go_num,by omega,by go_num,by omega,l⟩
       case measure=>simp[intOf];omega
      ·have l:ah (p=m+if iF=iV then 0 else c8 (ls.take (k+1))):=by
        have:=g.o;rw[ai M]at c;show _=_;simp at this⊢;omega
       have ac:(z==0)=iF:=by simpa using M
       clear L d g c;go_wp2;go_round
       case rel=>exact⟨k+1,p,by go_num,by omega,rfl,by omega,l⟩
       case measure=>simp[intOf];omega
    ·have NL:ah (hZ (rs.map aC) (b+1)=p):=by
      show _=_;have:=g.o;rw[show ls.take k=ls from cm (by have:=R.o;omega)]at this
      cases x with
      |true=>rw[UP C.o rfl,B.o,this];rfl
      |false=>rw[wJ C.o rfl,B.o,this];rfl
     clear g;go_wp2;go_round
     case rel=>exact⟨b+1,p,by go_num,rfl,by omega,NL⟩
     case measure=>simp[intOf];omega
  ·have PF:ah (cJ (rs.map aC)=m):=by
    show _=_;unfold cJ;rw[aS,<-B.o];congr 1;have:=HN.o;omega
   clear B;go_wp2;go_ret;exact⟨by rw[PF.o];rfl,P.o⟩
end Go.Proofs.YtijmbohadndfmaaGreatDoor
