/-
  SMove; LkMath; ILinked; ITree; IAll; RowBk; IBase; SBase
-/
import Derived.Test.YtgigcooffjjbgaaGreatDoorPk16
open Go.Value renaming int→I,slice→Y,string→iT,bool→iB,pointer→iP,agg→iA,tuple→iU
open Go.IntKind renaming i64→J
open Option renaming none→O,some→X
open Go.Ending renaming returned→G
open Go.Obj renaming cells→iC
open Bool renaming true→iV,false→iF
open Go renaming World→iW,Value→iX,Calls→iK
open Go.RowKit renaming Below→iL
set_option maxHeartbeats 4000000
set_option maxRecDepth 100000
namespace Go.Proofs.YtgigcooffjjbgaaGreatDoor
open Go.RowKit Words Sums
def kj(b:Int)(lf:Nat)(p:an×Bool):Option an:=if p.2&&p.1.block==b&&p.1.leaf==(lf:Int)then X p.1 else O
def dV(M:List an)(row:List Bool)(b:Int)(lf i:Nat):List an:=(List.range lf).flatMap (λj=>(M.zip row).filterMap (kj b j))++((M.zip row).take i).filterMap (kj b lf)
def vp(M:List an)(row:List Bool)(b:Int)(lf i:Nat):List an:=((M.zip row).drop i).filterMap (kj b lf)++(List.range' (lf+1) (3-lf)).flatMap (λj=>(M.zip row).filterMap (kj b j))
variable{a:Act}{K:Act -> World -> Prop}{ops:Array Oper}{r c:Int}{v:Int × Int}{row:List Bool}{i B k b z n:Nat}{P:Program}{E:Prop}
variable{M:List an}{x:an}
theorem xo{b:Int}{lf:Nat}{r:Bool}(c:M[i]?=X x)(a:row[i]?=X r):dV M row b lf (i+1)=dV M row b lf i++(kj b lf (x,r)).toList:=by
 unfold dV;rw[fs];congr 1;have d:(M.zip row)[i]?=X (x,r):=t8.2 ⟨c,a⟩;rw[eG,nD,d];congr 1
theorem Su{b:Int}{lf:Nat}(hi:M.length<=i):dV M row b lf i=dV M row b (lf+1) 0:=by
 unfold dV;rw[bL (by rw[yL];omega),yj,xF,dS,oe,rK]
 simp
theorem MP{b:Int}{lf:Nat}(h:lf<4):dV M row b 4 0=dV M row b lf i++vp M row b lf i:=by
 unfold dV vp;rw[yj,xF,dS,fs,<-fs (((M.zip row).take i).filterMap (kj b lf)),<-nD,jo];have h1:List.range 4=List.range lf++lf::List.range' (lf+1) (3-lf):=by
  have:lf=0∨lf=1∨lf=2∨lf=3:=by omega
  rcases this with rfl|rfl|rfl|rfl<;>rfl
 rw[h1,rK,oL]
theorem Oh{b:Int}{lf:Nat}{r:Bool}(d:M[i]?=X x)(c:row[i]?=X r):vp M row b lf i=(kj b lf (x,r)).toList++vp M row b lf (i+1):=by
 unfold vp;rw[<-fs];congr 1;have f:(M.zip row)[i]?=X (x,r):=t8.2 ⟨d,c⟩;obtain⟨a,e⟩:=aB.1 f;rw[i8 a,e];cases h:kj b lf (x,r)with
 |none=>simp[h]
 |some y=>simp[h]
theorem BU(b:Int):∀(ps qs:List Pg) (f:List Bk) (l:List aM) (q:Int),eH b f l q (ps++qs)=(eH b f l q ps).bind (λr=>eH b r.1 r.2.1 r.2.2 qs)
 | [],qs,f,l,q=>by simp[eH]
 |p::ps,qs,f,l,q=>by
  rw[jl,eH,eH];split
  ·exact BU b ps qs _ _ _
  ·rfl
theorem Nk(d:Dv)(b:Int)(a:au d.fH=M)(c:cE M (aI d.fS) 1000000001=row):kX d b=match eH b d.fH [] d.seq ((dV M row b 4 0).map an.fP)with
 |some r=>(r.2.1,iV)
 |none=>([],iF):=by
 unfold kX;have:pL (au d.fH) (aI d.fS) b=dV M row b 4 0:=by
  unfold pL dV;rw[a,c,yj,xF,dS];rfl
 rw[this];cases eH b d.fH [] d.seq ((dV M row b 4 0).map an.fP)<;>rfl
theorem Q8{M:List an}{row:List Bool}{b:Int}{lf i:Nat}{x:an}{f bs:List Bk}{l:List aM}{q q0:Int}(h:lf<4)(k:M[i]?=X x)(j:row[i]?=X iV)(a:(x.block==b)=iV)(d:(x.leaf==(lf:Int))=iV)(c:eH b f [] q0 ((dV M row b lf i).map an.fP)=X (bs,l,q))(g:((cJ bs l (lQ x.fP q)).2.2&&decide (sS (cJ bs l (lQ x.fP q)).2.1≠b))=iF):eH b f [] q0 ((dV M row b 4 0).map an.fP)=O:=by
 have e:kj b lf (x,iV)=X x:=by unfold kj;rw[a,d];rfl
 rw[MP (i:=i) h,Oh k j,e,fm,fm,BU,c];simp only[kw,qD,cn,oh,jl,jT,eH];rw[aj (by rw[g];decide)]
theorem Tn{M:List an}{row:List Bool}{b:Int}{lf i:Nat}{x:an}{f bs:List Bk}{l:List aM}{q q0:Int}(j:M[i]?=X x)(h:row[i]?=X iV)(a:(x.block==b)=iV)(d:(x.leaf==(lf:Int))=iV)(c:eH b f [] q0 ((dV M row b lf i).map an.fP)=X (bs,l,q))(g:((cJ bs l (lQ x.fP q)).2.2&&decide (sS (cJ bs l (lQ x.fP q)).2.1≠b))=iV):eH b f [] q0 ((dV M row b lf (i+1)).map an.fP)=X ((cJ bs l (lQ x.fP q)).1,(cJ bs l (lQ x.fP q)).2.1,q+1):=by
 have e:kj b lf (x,iV)=X x:=by unfold kj;rw[a,d];rfl
 rw[xo j h,e,fm,BU,c];simp only[kw,qD,cn,oh,eH];rw[ak g]
theorem Uq{bs:List Bk}{l:List aM}{p:Pg}(h:(cJ bs l p).2.2=iV):IntKind.i64.wrap (p.seq+1)=p.seq+1/\∃s,(cJ bs l p).2.1=l++[s]:=by
 unfold cJ at h⊢;split at h
 ·rename_i hc
  rw[ak hc];rw[bn]at hc;refine⟨?_,_,rfl⟩;have h1:=hc.1;unfold lw at h1;split at h1
  ·rename_i hr
   have:=hr.2.1;have:=hr.2.2.1;rw[cm];omega
  ·cases h1
 ·cases h
theorem Mx{W:iW}{u:iX}{l:List aM}{s:aM}(h:W.ownsRow B 254 4 u (l++[s]).length (cV (l++[s]))):∃g c,u=Y (X ⟨g,0,O⟩) (l.length+1) c/\W.cell? ⟨g,l.length*4+1,O⟩=X (I J s.2.1):=by
 have b:=h.2;rcases b with⟨-,e⟩|⟨g,c,a,rfl,-⟩
 ·exfalso
  simp at e
 ·refine⟨g,c,by simp,?_⟩
  have:=tP h (g:=g) rfl (l.length*4+1) (I J s.2.1) (IW _ l.length s (by simp) 1 _ rfl)
  rwa [fw]at this
theorem Wm(l:List aM)(s:aM):sS (l++[s])=s.2.1:=by unfold sS;simp
theorem Ub(x:iX)(d:Dv)(b:Int)(w:iW)(h:eP w x d)(aH:(au d.fH).length<=100000000000):iK Tryz.prog 183 #[x,I J b] w (ji w (kX d b)):=by
 obtain⟨P,N,va,vl,vc,ad,ln,cap,rfl,h1,h2,h3⟩:=h.form;have bA:=aR w (iC #[Y P d.fH.length N,Y va vl vc,Y ad ln cap,I J d.fS.next,I J d.seq,I J d.tx,I J d.base] 34);have gA:aU (w.alloc (iC #[Y P d.fH.length N,Y va vl vc,Y ad ln cap,I J d.fS.next,I J d.seq,I J d.tx,I J d.base] 34)) w.heap.size (Y P d.fH.length N) (Y va vl vc) (Y ad ln cap) d.fS.next d.seq d.tx d.base:=aC _ _;generalize a4:w.alloc (iC #[Y P d.fH.length N,Y va vl vc,Y ad ln cap,I J d.fS.next,I J d.seq,I J d.tx,I J d.base] 34)=wa at bA gA;obtain⟨rs,e1,i1,l1,aP,aQ⟩:=(h1.below bA).lens h2;have CS:=af (oU (Y P d.fH.length N) rs wa l1 aP aQ i1);rw[e1]at CS;unfold kZ at CS;have ac:=h3.fit;have a1:=qI d.fS;have ae:ah ((aI d.fS).length<=16*1048576):=by have:=ac.1;show _<=_;omega
 obtain⟨M,hM⟩:=aq (au d.fH);obtain⟨row,z⟩:=aq (cE M (aI d.fS) 1000000001);have k:=af (Nk d b hM z);have aY:ah (row.length=M.length):=by show _=_;rw[<-z];exact qd _ _ _
 have ab:=af z;rw[hM]at CS aH;obtain⟨R,hR⟩:=aq (kX d b);rw[hR]at k⊢;have HS:=af (h3.below bA);have HF:=af (h1.below bA);have aZ:=af h2;have HB:=af bA;have HG:=af gA;have y0:=gA.cells.1;clear h1 h2 h3 h e1 i1 l1 aP aQ hM hR bA gA ac a1 rs z;go_enter Tryz.func183,Tryz.ntmps183;go_wp2_with fail;clear a4;refine CS.o.mono ?_;rintro e w1 ⟨la,lc,rfl,f1,f2,f3⟩;have HR:=af f1;have aV:=af f2;have G1:=af (HG.o.below f3);have S1:=af (HS.o.below f3);have B1:=af (HB.o.trans (f3.mono HB.o.size));have F1:=af (HF.o.below f3);obtain⟨-,y1,y2,y3,-,-,-⟩:=G1.o.cells;clear CS f1 f2 f3 HG HS HB HF y0;go_wp2_with fail;refine(tC _ d.fS _ S1.o).mono ?_;rintro e w2 ⟨lv,rfl,ho,b2⟩;obtain⟨ia,ic,rfl,aG,-,-⟩:=kt.of ho (by have:=ae.o;unfold maxLen;omega) b2
 have G2:=af (G1.o.below b2);have B2:=af (B1.o.trans (b2.mono B1.o.size));have F2:=af (F1.o.below b2);have ak:=af (HR.o.below b2);have HI:=af aG;clear ho aG b2 y1 y2 y3 G1 B1 F1 HR S1;go_wp2_with fail;refine(vz la M.length lc M ia (aI d.fS).length ic (aI d.fS) 1000000001 w2 aV.o (by have:=ae.o;omega) ak.o HI.o).mono ?_
 rintro e c ⟨g,rfl,-,-,g3,g4⟩;rw[ab.o]at g3;have G3:=af (G2.o.below g4);have B3:=af (B2.o.trans (g4.mono B2.o.size));have F3:=af (F2.o.below g4);have aX:=af (ak.o.below g4);have aW:=af g3;clear g3 g4 G2 B2 F2 ak HI ae ab;have av:(c.alloc (iC #[] 254)).heap.size=c.heap.size+1:=by simp
 have b4:=aR c (iC #[] 254);have n4:=nN (az c.heap.size c) c.heap.size rfl;have aB:iL (c.alloc (iC #[] 254)).heap.size (c.alloc (iC #[] 254)) ((c.alloc (iC #[] 254)).alloc (iC #[Y P d.fH.length N] 26)):=bh;have b5:iL c.heap.size c ((c.alloc (iC #[] 254)).alloc (iC #[Y P d.fH.length N] 26)):=b4.alloc b4.size _;have W5:ah (jP c ((c.alloc (iC #[] 254)).alloc (iC #[Y P d.fH.length N] 26)) (c.heap.size+1) (Y P d.fH.length N) (Y (X ⟨c.heap.size,0,O⟩) 0 0) d.fH []):=
  ⟨b5,by rw[<-av];exact aC _ _,jU.of_rdb F3.o b5 (by omega),bE n4.1 aB,aZ.o,by omega⟩
 have y0:=(G3.o.below b4).cells.1;have y4:=(G3.o.below b5).cells.2.2.2.2.1;have al:=af av;clear aB b5 b4 n4 av;generalize a2:c.alloc (iC #[] 254)=w4 at W5 y0 y4 al;generalize a3:w4.alloc (iC #[Y P d.fH.length N] 26)=w5 at W5 y4;have aN:w4.heap.size=c.heap.size+1:=al.o;clear al;go_wp2;clear a2 a3 y0 y4;try rw[aN]
 clear aN;go_loopw [8,10,11] (λuv qv lv wr=>∃(lf:Nat) (q:Int) (v:iX) (bs:List Bk) (l:List aM) (u:iX),uv=u/\qv=I J q/\lv=I J lf/\lf<=4/\l.length<=lf*M.length/\ah (eH b d.fH [] d.seq ((dV M row b lf 0).map an.fP)=X (bs,l,q))/\ah (jP c wr (c.heap.size+1) v u bs l)) (λ_ _ lv _=>4-(intOf lv).toNat)
 case atStart=>exact⟨0,d.seq,_,d.fH,[],_,rfl,rfl,rfl,aK _,aK _,rfl,W5⟩
 case round=>
  rename iW=>wr
  obtain⟨lf,q,v,bs,l,uv,rfl,rfl,rfl,bd,ar,a,H⟩:=hrel;clear W5;have a8:(0:Int)<=lf:=by omega
  by_cases bg:(lf:Int)<4
  ·go_wp2;go_loopw [8,10,12] (λuv qv iv wr=>∃(i:Nat) (q:Int) (v:iX) (bs:List Bk) (l:List aM) (u:iX),uv=u/\qv=I J q/\iv=I J i/\i<=M.length/\l.length<=lf*M.length+i/\ah (eH b d.fH [] d.seq ((dV M row b lf i).map an.fP)=X (bs,l,q))/\ah (jP c wr (c.heap.size+1) v u bs l)) (λ_ _ iv _=>M.length-(intOf iv).toNat)
   case atStart=>exact⟨0,q,v,bs,l,_,rfl,rfl,rfl,aK _,by omega,a,H⟩
   case round=>
    rename iW=>wr
    clear a H ar;obtain⟨i,q,v,bs,l,uv,rfl,rfl,rfl,hi,ar,a,H⟩:=hrel;have ba:(0:Int)<=i:=by omega
    have bf:lf*M.length<=3*M.length:=DK _ (by omega)
    by_cases bb:(i:Int)<M.length
    ·obtain⟨x,hx⟩:∃x,M[i]?=X x:=⟨_,ay (by omega)⟩
     obtain⟨r,hr⟩:∃r,row[i]?=X r:=⟨_,ay (by have:=aY.o;omega)⟩
     have HX:=af hx;have F:=af hr;obtain⟨rb,ro,rfl,-,c0,c1,c2,c3,c4,c5,c6,c7,-⟩:=(aX.o.below H.o.1).all hx;have cr:=(aW.o.below H.o.1).cell (oZ hr);clear hx hr;obtain⟨xb,xl,pk,W,E,D,C,pt⟩:=x;simp only at c0 c1 c2 c3 c4 c5 c6 c7;cases r with
     |false=>
      have NM:ah (dV M row b lf (i+1)=dV M row b lf i):=by
       show _=_;rw[xo HX.o F.o];unfold kj;rw[aj (by simp[*])]
       simp
      have Q:ah (eH b d.fH [] d.seq ((dV M row b lf (i+1)).map an.fP)=X (bs,l,q)):=by show _=_;rw[NM.o];exact a.o
      clear NM a;go_wp2;go_roundw
      case rel=>exact⟨i+1,q,v,bs,l,_,rfl,rfl,by go_num,by omega,by omega,Q,H⟩
      case measure=>simp[intOf];omega
     |true=>
      by_cases U:(xb !=b)=iV
      ·have A:(xb==b)=iF:=by simpa using U
       have NM:ah (dV M row b lf (i+1)=dV M row b lf i):=by
        show _=_;rw[xo HX.o F.o];unfold kj;rw[aj (by simp[*])]
        simp
       have Q:ah (eH b d.fH [] d.seq ((dV M row b lf (i+1)).map an.fP)=X (bs,l,q)):=by show _=_;rw[NM.o];exact a.o
       clear NM a;go_wp2;go_roundw
       case rel=>exact⟨i+1,q,v,bs,l,_,rfl,rfl,by go_num,by omega,by omega,Q,H⟩
       case measure=>simp[intOf];omega
      have U:(xb !=b)=iF:=by simpa using U
      have A:(xb==b)=iV:=by simpa using U
      by_cases V:(xl !=(lf:Int))=iV
      ·have B:(xl==(lf:Int))=iF:=by simpa using V
       have NM:ah (dV M row b lf (i+1)=dV M row b lf i):=by
        show _=_;rw[xo HX.o F.o];unfold kj;rw[aj (by simp[*])]
        simp
       have Q:ah (eH b d.fH [] d.seq ((dV M row b lf (i+1)).map an.fP)=X (bs,l,q)):=by show _=_;rw[NM.o];exact a.o
       clear NM a;go_wp2;go_roundw
       case rel=>exact⟨i+1,q,v,bs,l,_,rfl,rfl,by go_num,by omega,by omega,Q,H⟩
       case measure=>simp[intOf];omega
      have V:(xl !=(lf:Int))=iF:=by simpa using V
      have B:(xl==(lf:Int))=iV:=by simpa using V
      have e3:wr.cell? ⟨rb,ro+i*8+2+1,O⟩=X (I J W):=c3;have e4:wr.cell? ⟨rb,ro+i*8+2+2,O⟩=X (I J E):=c4;have e5:wr.cell? ⟨rb,ro+i*8+2+3,O⟩=X (I J D):=c5;have e6:wr.cell? ⟨rb,ro+i*8+2+4,O⟩=X (I J C):=c6;have e7:wr.cell? ⟨rb,ro+i*8+2+5,O⟩=X (iT pt):=c7;have hP:=aC wr (iC #[I J pk,I J W,I J E,I J D,I J C,iT pt] 44);have bP:=aR wr (iC #[I J pk,I J W,I J E,I J D,I J C,iT pt] 44);have fP:(wr.alloc (iC #[I J pk,I J W,I J E,I J D,I J C,iT pt] 44)).frozen? ⟨wr.heap.size,1,O⟩=iF:=aF _ _ 1 _ _ hP;have kP:(wr.alloc (iC #[I J pk,I J W,I J E,I J D,I J C,iT pt] 44)).cell? ⟨wr.heap.size,1,O⟩=X (I J W):=ai _ _ 1 _ _ _ hP;generalize a6:wr.alloc (iC #[I J pk,I J W,I J E,I J D,I J C,iT pt] 44)=wp at hP bP fP kP;have hQ:(wp.setCell ⟨wr.heap.size,1,O⟩ (I J q)).heap[wr.heap.size]?=X (iC #[I J pk,I J q,I J E,I J D,I J C,iT pt] 44 (0,0)):=bw _ _ 1 _ _ _ hP;have bQ:iL wr.heap.size wr (wp.setCell ⟨wr.heap.size,1,O⟩ (I J q)):=bP.setCell (p:=⟨wr.heap.size,1,O⟩) (am _) _;generalize a7:wp.setCell ⟨wr.heap.size,1,O⟩ (I J q)=wq at hQ bQ;have q0:=ai _ _ 0 _ _ _ hQ;have q1:=ai _ _ 1 _ _ _ hQ;have q2:=ai _ _ 2 _ _ _ hQ;have q3:=ai _ _ 3 _ _ _ hQ;have q4:=ai _ _ 4 _ _ _ hQ;have q5:=ai _ _ 5 _ _ _ hQ;simp only[nM,sw,nH]at q0 q1 q2 q3 q4 q5;have y:=af (H.o.below bQ);obtain⟨vd,aS,rfl⟩:=y.o.2.2.1.rdb.form;have y9:wq.cell? ⟨c.heap.size+1,0,O⟩=X (Y vd bs.length aS):=ai _ _ 0 _ _ _ y.o.2.1;have CP:=af (AQ (Y vd bs.length aS) _ bs l ⟨pk,q,E,D,C,pt⟩ c.heap.size (c.heap.size+1) wq y.o.2.2.2.2.1 (by omega) y.o.2.2.1 y.o.2.2.2.1 y.o.1.size (aL.1 y.o.2.1).1)
      have ao:=af (Db y.o.2.2.2.2.1 l ⟨pk,q,E,D,C,pt⟩);have ag:=sB bs l ⟨pk,q,E,D,C,pt⟩;have K:=af (@Uq bs l ⟨pk,q,E,D,C,pt⟩);have f:=af (λT=> @Q8 M row b lf i ⟨xb,xl,⟨pk,W,E,D,C,pt⟩⟩ d.fH bs l q d.seq (by omega) HX.o F.o A B a.o T)
      have j:=af (λT=> @Tn M row b lf i ⟨xb,xl,⟨pk,W,E,D,C,pt⟩⟩ d.fH bs l q d.seq HX.o F.o A B a.o T)
      unfold lQ at f j;simp only at f j;obtain⟨t,l8,aw,h8⟩:∃t l8 aw,cJ bs l ⟨pk,q,E,D,C,pt⟩=(t,l8,aw):=⟨_,_,_,rfl⟩;rw[h8]at CP ao K f j ag;simp only at ao K f j ag;unfold dC at CP;simp only at CP;clear h8 H HX F a A B hP bP hQ bQ;go_wp2_with fail;clear a6 a7 e3 e4 e5 e6 e7 fP kP;refine CP.o.mono ?_;rintro e w8 ⟨v8,u8,rfl,r8,o8,k8⟩;obtain⟨aa,Z,rfl⟩:=r8.rdb.form;have b9:=aR w8 (iC #[Y aa t.length Z] 26);have h9:=aC w8 (iC #[Y aa t.length Z] 26);have z9:=ai _ _ 0 _ _ _ h9;simp only[nM,sw]at z9;generalize bl:w8.alloc (iC #[Y aa t.length Z] 26)=w9 at b9 z9;have k9:=k8.trans (be.below b9);have W9:=af (y.o.put k9 (r8.keep b9.size (λx _ hx=>b9.block x hx)) (bE o8 b9) ao.o)
      have B9:ah (iL c.heap.size c w9):=y.o.1.trans (k9.down y.o.1.size (λx hx e=>by have:=(iS y.o.2.2.2.1 x e).1;omega))
      have ap:=y.o.cell k9;have z0:=ap.1;have z1:=ap.2;have O9:=af (bE o8 b9);clear ap r8 o8 k8 k9 b9 h9 CP y q0 q1 q2 q3 q4 q5 y9 c0 c1 c2 c3 c4 c5 c6 c7 cr;cases aw with
      |false=>
       have HE:ah (R=([],iF)):=by show _=_;rw[k.o,f.o rfl]
       have FR:=nN (B3.o.trans (B9.o.mono B3.o.size)) w9.heap.size rfl;have FN:ah (ji w ([],iF) (G (iU #[Y (X ⟨w9.heap.size,0,O⟩) 0 0,iB iF])) (w9.alloc (iC #[] 254))):=⟨_,rfl,FR.1,FR.2⟩;clear k f j FR W9 O9 K z0 z1;go_wp2;refine aE (cH rfl _ _ _) rfl ?_;rw[HE.o];exact FN.o
      |true=>
       obtain⟨aA,s,e8⟩:=K.o rfl;subst e8;obtain⟨ug,uc,rfl,aO⟩:=Mx O9.o;have a5:IntKind.i64.wrap (((l.length+1:Nat):Int)-1)=(l.length:Int):=by rw[cm];omega
       obtain⟨m,hm⟩:=aq l.length;obtain⟨n,T⟩:=aq (m+1);rw[hm,T]at a5;rw[hm]at aO;have bi:(0:Int)<=m:=by omega
       have bj:(m:Int)<n:=by omega
       have aT:=af hm;have a9:=af T;have a0:=af aA;rw[Wm]at f j;have ax:=af W9.o;rw[hm,T]at ax;obtain⟨sb,L⟩:=aq s.2.1;rw[L]at f j aO;rw[hm,T]at⊢;have bc:m<=lf*M.length+i:=by omega
       clear hm T K aA L ag W9 ar;by_cases S:(sb==b)=iV
       ·have L:sb=b:=by simpa using S
        have HE:ah (R=([],iF)):=by show _=_;rw[k.o,f.o (by rw[L];simp)]
        clear L;have FR:=nN (B3.o.trans (B9.o.mono B3.o.size)) w9.heap.size rfl;have FN:ah (ji w ([],iF) (G (iU #[Y (X ⟨w9.heap.size,0,O⟩) 0 0,iB iF])) (w9.alloc (iC #[] 254))):=⟨_,rfl,FR.1,FR.2⟩;clear k f j FR O9 z0 z1;go_wp2;refine aE (cH rfl _ _ _) rfl ?_;rw[HE.o];exact FN.o
       ·have aD:sb≠b:=by simpa using S
        have S:(sb==b)=iF:=by simpa using S
        have Q:=af (j.o (by simp[aD]))
        have bk:IntKind.i64.wrap (q+1)=q+1:=a0.o;clear f j k aD;go_wp2;go_roundw
        case rel=>
         refine⟨i+1,q+1,Y aa t.length Z,t,l++[s],_,rfl,by first|rfl|go_num,by go_num,by omega,by rw[aJ];have:=aT.o;simp;omega,Q,?_⟩
         exact ax
        case measure=>simp[intOf];omega
    ·have Q:ah (eH b d.fH [] d.seq ((dV M row b (lf+1) 0).map an.fP)=X (bs,l,q)):=by show _=_;rw[<-Su (i:=i) (by omega)];exact a.o
     clear a;go_wp2;go_roundw
     case rel=>exact⟨lf+1,q,v,bs,l,_,rfl,rfl,by go_num,by omega,by rw[Nat.add_mul];omega,Q,H⟩
     case measure=>simp[intOf];omega
  ·have HE:ah (R=(l,iV)):=by
    show _=_;have:lf=4:=by omega
    subst this;rw[k.o,a.o]
   clear k a;go_wp2;refine aE (cH rfl _ _ _) rfl ?_;rw[HE.o];exact⟨_,rfl,qQ H.o.2.2.2.1 B3.o.size,B3.o.trans (H.o.1.mono B3.o.size)⟩
def nB(bs:List Nat)(n:Int):Option Nat:=if n<0 then O else bs[n.toNat]?
def iJ(bs:List Nat)(i:Nat)(x:Kn):Lk:=if x.leaf=iV then⟨i,iV,x.fD,[O,O,O,O],iF⟩else⟨i,iF,[0,0,0,0],x.fD.map (nB bs),iF⟩
theorem XQ(bs:List Nat)(i:Nat)(x:Kn):(iJ bs i x).place=i:=by unfold iJ;split<;>rfl
theorem zN(bs:List Nat)(i:Nat)(x:Kn):(iJ bs i x).leaf=x.leaf:=by
 unfold iJ;cases h:x.leaf with
 |true=>rfl
 |false=>rfl
def eJ(bs:List Nat)(l:List Kn):List Lk:=l.mapIdx (iJ bs)
theorem AM(bs:List Nat)(l:List Kn):(eJ bs l).length=l.length:=by simp[eJ]
theorem uM(bs:List Nat)(l:List Kn)(i:Nat):(eJ bs l)[i]?=(l[i]?).map (iJ bs i):=by rw[eJ,DS]
variable{l:List Kn}
theorem yw{bs:List Nat}{x:Kn}(h:l[i]?=X x):(eJ bs l)[i]?=X (iJ bs i x):=by rw[uM,h];rfl
theorem Tf{bs:List Nat}{y:Lk}(h:(eJ bs l)[i]?=X y):∃x,l[i]?=X x/\y=iJ bs i x:=by
 rw[uM,og]at h;obtain⟨x,h1,a⟩:=h;exact⟨x,h1,a.symm⟩
theorem Zc{bs:List Nat}:∀(i:Nat) (y:Lk),(eJ bs l)[i]?=X y->y.place=i:=by
 intro i y h;obtain⟨x,-,rfl⟩:=Tf h;exact XQ _ _ _
theorem yK(f:Int->Int):∀l:List Int,(l.map f==l)=l.all (λn=>f n==n)
 | []=>rfl
 |a::l=>by
  have:=yK f l;simp only[cn,List.all_cons,<-this];rfl
theorem Ss{bs:List Nat}(b:bs.length=k)(c:k<=l.length)(n:Int):(gW bs (eJ bs (l.take k)) n).isSome=(decide (0<=n)&&decide (n<k)&&i7 l n):=by
 unfold gW;by_cases h0:n<0
 ·rw[ak h0,bf (by omega)];rfl
 ·rw[aj h0,aW (by omega:0<=n),gk,uM]
  by_cases h1:n<k
  ·have a:n.toNat<l.length:=by omega
   rw[aW h1,gk,yU,ak (by omega),ay a,oJ (ay a)]
   simp only[g9,kw,zN];cases d:l[n.toNat].leaf with
   |true=>rw[ak rfl,ay (by omega)];rfl
   |false=>rfl
  ·rw[bf h1,kL,yU,aj (by omega)]
   rfl
theorem VJ{bs:List Nat}(a:bs.length=k)(b:k<=l.length)(x:Kn):mM bs (eJ bs (l.take k)) x.leaf x.fD=gT l k x:=by
 rw[mM,gT];congr 1;rw[oF];cases c:x.leaf with
 |true=>
  rw[ak rfl,yK];refine List.all_congr rfl (λn=>?_)
  simp only[eQ,nn,dw];by_cases h:n<0
  ·rw[ak h,bf (by omega)]
   simp;omega
  ·rw[aj h,aW (by omega)]
   simp
 |false=>
  rw[aj (by decide),yK]
  refine List.all_congr rfl (λn=>?_)
  simp only[eQ,eS,fb,Ss a b];cases d:(decide (0<=n)&&decide (n<k)&&i7 l n)with
  |true=>simp
  |false=>
   simp only[eS,fb,xm];by_cases e:n= -1
   ·simp[e]
   ·rw[bf e,du];exact λq=>e q.symm
theorem Sm{bs:List Nat}(x:Kn)(h:mM bs (eJ bs (l.take k)) x.leaf x.fD=iV):om bs (eJ bs (l.take k)) k x.leaf x.fD=iJ bs k x:=by
 rw[mM,bn]at h;have a:=h.2;unfold oF at a;unfold om iJ;cases c:x.leaf with
 |true=>
  rw[c,ak rfl]at a;rw[ak rfl,ak rfl];rw[eq_of_beq a]
 |false=>
  rw[c,aj (by decide),yK,gV]at a
  rw[aj (by decide),aj (by decide)]
  congr 1;refine nY (λn f=>?_)
  have:=a n f;unfold nB;cases d:gW bs (eJ bs (l.take k)) n with
  |none=>
   rw[d]at this;have e: -1=n:=by simpa using this
   rw[ak (by omega)]
  |some b=>
   obtain⟨h0,h1,-⟩:=Hp d;rw[aj (by omega),h1]
theorem PR{bs cs:List Nat}{n:Int}(h:n<bs.length):nB (bs++cs) n=nB bs n:=by
 unfold nB;split
 ·rfl
 ·rw[hI (by omega)]
theorem Hh{bs cs:List Nat}{x:Kn}(hi:i<=bs.length)(h:gT l i x=iV):iJ (bs++cs) i x=iJ bs i x:=by
 unfold iJ;cases b:x.leaf with
 |true=>rfl
 |false=>
  rw[aj (by decide),aj (by decide)]
  congr 1;refine nY (λn c=>?_)
  obtain⟨k,a⟩:=io c;have:=ui h a;rw[eQ,b]at this;simp only[eS,fb,jS,bn,bH]at this;exact PR (by omega)
theorem Rp{bs cs:List Nat}(b:bs.length=k)(h:jp l k=iV):eJ (bs++cs) (l.take k)=eJ bs (l.take k):=by
 apply kO;intro i;rw[uM,uM];cases a:(l.take k)[i]? with
 |none=>rfl
 |some x=>
  have hi:=(aB.1 a).1;rw[cG]at hi;rw[yU,ak (by omega)]at a
  have:=Fl (show i+1<=k by omega) h
  rw[su a,bn]at this;rw[g9,g9,Hh (by omega) this.2]
theorem Wu{bs:List Nat}{x:Kn}(f:bs.length=k)(c:l[k]?=X x)(h:jp l (k+1)=iV):eJ (bs++[b]) (l.take (k+1))=eJ bs (l.take k)++[iJ bs k x]:=by
 have g:=(aB.1 c).1;have a:=h;rw[su c,bn]at a;have e:l.take (k+1)=l.take k++[x]:=by rw[eY g,(aB.1 c).2]
 have d:(l.take k).length=k:=by rw[cG];omega
 have:=Rp (cs:=[b]) f a.1;rw[e];show(l.take k++[x]).mapIdx _=_;rw[List.mapIdx_append,d];show eJ (bs++[b]) (l.take k)++_=_;rw[this];simp only[List.mapIdx_cons,List.mapIdx_nil,eV];rw[Hh (by omega) a.2]
theorem Ov{bs:List Nat}(h:bs.Pairwise (·<·))(f:∀c∈bs,c<b):(bs++[b]).Pairwise (·<·):=
 iu.2 ⟨h,mA _ _,λa e c d=>by simp only[bR]at d;rw[d];exact f a e⟩
def QU(W:iW)(lo:Nat)(v:iX)(bs:List Nat)(L:List Kn):Prop:=
 W.ownsRow lo 192 1 v L.length (pi bs)/\bs.length=L.length/\ft W bs (eJ bs L)/\bs.Pairwise (·<·)/\∀b∈bs,lo<=b
theorem ft.grown{W y:iW}{bs:List Nat}{xs:List Lk}{row:Option Nat}(h:ft W bs xs)(d:W.grownBy y row)(f:∀g,row=X g->∃cs,W.heap[g]?=X (iC cs 192 (0,0))):ft y bs xs:=by
 refine⟨h.1,λi b x h1 c=>?_⟩
 have a:=h.2 i b x h1 c;refine⟨(d.block b a.lt (λe=>?_)).trans a.1,a.2⟩
 obtain⟨cs,q⟩:=f b e.symm;rw[a.1]at q;injection q with q
 injection q with _ q
 simp at q
theorem ft.snoc{W:iW}{bs:List Nat}{xs:List Lk}{x:Lk}(h:ft W bs xs)(f:cB W b x):ft W (bs++[b]) (xs++[x]):=by
 refine⟨by rw[aJ,aJ,h.1];rfl,λi c y h1 a=>?_⟩
 by_cases hi:i<bs.length
 ·rw[hI hi]at h1;rw[hI (by rw[<-h.1];exact hi)]at a
  exact h.2 i c y h1 a
 ·have d:=(aB.1 h1).1;rw[aJ]at d;simp only[aV,dU]at d;have e:i=bs.length:=by omega
  subst e;simp at h1;rw[h.1]at a;simp at a;subst h1 a;exact f
theorem ft.all_lt{W:iW}{bs:List Nat}{xs:List Lk}(h:ft W bs xs):∀b∈bs,b<W.heap.size:=by
 intro b a;obtain⟨i,hi⟩:=io a;have c:=(aB.1 hi).1;exact(h.2 i b _ hi (ay (by rw[<-h.1];exact c))).lt
def JJ(w:iW)(L:List Kn)(e:Ending)(w':iW):Prop:=
 iL w.heap.size w w'/\((bU L=iV/\∃v bs,e=G (iU #[v,iB iV])/\QU w' w.heap.size v bs L)∨(bU L=iF/\e=G (iU #[Y O 0 0,iB iF])))
def Bx(w W:iW)(z:Nat)(a c:iX)(L:List Kn)(k:Nat)(bs:List Nat):Prop:=
 W.heap[z]?=X (iC #[a] 30 (0,0))/\W.ownsRow z 192 1 c k (pi bs)/\bs.length=k/\ft W bs (eJ bs (L.take k))/\bs.Pairwise (·<·)/\(∀b∈bs,z<=b)/\jp L k=iV/\iL z w W
theorem YN(b:Nat):∀u∈ [ptr b],u.oneCell'=iV:=by
 intro u a;simp at a;subst a;rfl
theorem UM(ad:Option Addr)(a cap:Nat)(rs:List Kw)(w:iW)(hl:a<=1048578)(h:dB w ad a rs):
 iK Tryz.prog 174 #[iA #[Y ad a cap]] w (JJ w (rs.map aD)):=by
 have N:ah (Bx w (w.alloc (iC #[Y ad a cap] 30)) w.heap.size (Y ad a cap) (Y O 0 0) (rs.map aD) 0 []):=
  ⟨aC w _,⟨rfl,.inl ⟨rfl,rfl⟩⟩,rfl,ft.nil _,List.Pairwise.nil,(λ_ h=>by cases h),rfl,bh⟩
 have H:=af h;have H1:=af h.1;have j:=af (show(rs.map aD).length=a by rw[bm];exact h.1)
 have bx:=pI w (Y ad a cap);clear h;obtain⟨L,hL⟩:=aq (rs.map aD);have HL:=af hL;rw[hL]at N j⊢;clear hL;go_enter Tryz.func174,Tryz.ntmps174;go_wp2;obtain⟨z,hz⟩:=aq w.heap.size;have u:=af hz;rw[hz]at N⊢;clear hz bx;generalize w.alloc (iC #[Y ad a cap] 30)=wa at N⊢;go_loopw [4,12] (λfv iv W=>∃(k:Nat) (bs:List Nat),k<=a/\iv=I J k/\ah (Bx w W z (Y ad a cap) fv L k bs)) (λ_ iv _=>a-(intOf iv).toNat)
 case atStart=>exact⟨0,[],aK _,rfl,N⟩
 case round=>
  obtain⟨k,bs,hk,rfl,d⟩:=hrel;clear N;by_cases am:(k:Int)<a
  ·obtain⟨r,hr⟩:∃r,rs[k]?=X r:=⟨_,ay (by have:=H1.o;omega)⟩
   obtain⟨b,V,e,hb⟩:=H.o.adr (by omega)
   subst e;have KR:=af (H.o.below (by rw[u.o];exact d.o.2.2.2.2.2.2.2))
   obtain⟨c0,c1⟩:=KR.o.cell hr;obtain⟨ka,kc,R,-,kr⟩:=KR.o.2.2.1 r (aO hr);have hx:L[k]?=X (aD r):=by rw[<-HL.o,bi,hr];rfl
   have HX:=af hx;obtain⟨lf,kv,ls⟩:=r;simp only at c0 c1 R kr;subst R;obtain⟨kl,Q⟩:=aq ls.length;rw[Q]at c1 kr;have KI:=af kr;have k0:(0:Int)<=k:=by omega
   obtain⟨fa,fc,n,F⟩:=ky.of (bs:=bs) (by rw[d.o.2.2.1];exact d.o.2.1)
   rw[d.o.2.2.1]at n F;subst n;have m:=af (aR wr (iC #[iB lf,Y ka kl kc] 189));have C:=af (OH fa k fc bs (eJ bs (L.take k)) lf ka kl kc ls (wr.alloc (iC #[iB lf,Y ka kl kc] 189)) (F.below m.o) (d.o.2.2.2.1.below m.o) Zc (KI.o.below m.o));have ag:k<=L.length:=by have:=j.o;omega
   have K:ah (mM bs (eJ bs (L.take k)) lf ls=gT L k ⟨lf,ls⟩):=VJ d.o.2.2.1 ag ⟨lf,ls⟩;obtain⟨mk,D⟩:=aq (om bs (eJ bs (L.take k)) k lf ls);have EM:=af D;obtain⟨ok,p⟩:=aq (mM bs (eJ bs (L.take k)) lf ls);rw[D,p]at C;rw[p]at K;have M:=af p;clear kr hr hb F Q hx D p;go_wp2_with fail;refine C.o.mono ?_;rintro e t ⟨v,rfl,b1,hv⟩;cases ok with
   |false=>
    have HB:ah (iL z w t):=d.o.2.2.2.2.2.2.2.trans ((m.o.trans (b1.mono m.o.size)).mono (by rw[<-u.o];exact d.o.2.2.2.2.2.2.2.size))
    have HA:ah (bU L=iF):=yV HX.o K.o.symm;clear hv b1 C;go_wp2;go_ret2;exact⟨by rw[u.o];exact HB.o,.inr ⟨HA.o,rfl⟩⟩
   |true=>
    obtain⟨f,rfl,A,al⟩:=hv rfl;have ai:z<=wr.heap.size:=by rw[<-u.o];exact d.o.2.2.2.2.2.2.2.size
    have aj:=A.lt;have l:iL wr.heap.size wr t:=m.o.trans (b1.mono m.o.size);have an:=l.size;have ak:wr.heap.size<=f:=by have:=m.o.size;omega
    have BA:=af (aR t (iC #[ptr f] 192));have x:=af (bE (bE d.o.2.1 l) BA.o);have FA:ah (ft (t.alloc (iC #[ptr f] 192)) (bs++[f]) (eJ (bs++[f]) (L.take (k+1)))):=by
     have hK:jp L (k+1)=iV:=by rw[su HX.o,d.o.2.2.2.2.2.2.1,gk];exact K.o.symm
     have:=((d.o.2.2.2.1.below l).snoc A).below BA.o;rw[<-EM.o,Sm ⟨lf,ls⟩ M.o]at this;show ft _ _ _;rw[Wu d.o.2.2.1 HX.o hK];exact this
    have ab:ah (jp L (k+1)=iV):=by show _=_;rw[su HX.o,d.o.2.2.2.2.2.2.1,gk];exact K.o.symm
    have PW:ah ((bs++[f]).Pairwise (·<·)):=Ov d.o.2.2.2.2.1 (λc B=>by have:=d.o.2.2.2.1.all_lt c B;omega)
    have ac:ah (∀b∈bs++[f],z<=b):=λc B=>by
     rcases bG.1 B with B|B
     ·exact d.o.2.2.2.2.2.1 c B
     ·simp only[bR]at B;omega
    have HB:ah (iL z w (t.alloc (iC #[ptr f] 192))):=(d.o.2.2.2.2.2.2.2.trans (l.mono ai)).trans (BA.o.mono (by omega))
    have Z:ah ((t.alloc (iC #[ptr f] 192)).heap[z]?=X (iC #[Y (X ⟨b,V,O⟩) a cap] 30 (0,0))):=by
     have s:=(aL.1 d.o.1).1;exact(BA.o.block z (by omega)).trans ((l.block z s).trans d.o.1)
    have aa:ah (bs.length=k):=d.o.2.2.1;have U:z<=(t.alloc (iC #[ptr f] 192)).heap.size:=by simp;omega
    obtain⟨i0,P,S,s,T⟩:=bV JV;have I0:=af P;have Y0:=af S;have Y1:=af s;have Y2:=af T;clear P S s T A l b1 hv C d m KI EM K M c0 c1;unfold ptr at*;go_wp2_with (at_builtin;refine cZ _ rfl _ _ 240 rfl z 192 i0 (iP O) 1 8 Tryz.underlying240 I0.o Y0.o Y1.o Y2.o rfl (by decide) _ _ _ rfl x.o ⟨t.heap.size,0,O⟩ 1 1 [iP (X ⟨f,0,O⟩)] rfl rfl (lz _ _ _) (YN _) ?c1 ?c2 ?c3 ?_)
    case c1=>unfold maxLen;omega
    case c2=>omega
    case c3=>exact U
    intro u' y ho hg _;have E:y.ownsRow z 192 1 u' (k+1) (pi (bs++[f])):=by rw[<-UB];exact ho
    have i:∀g,(Y fa k fc).ownBlock=X g->z<=g/\∃cs,(t.alloc (iC #[iP (X ⟨f,0,O⟩)] 192)).heap[g]?=X (iC cs 192 (0,0)):=λg ae=>by
     obtain⟨q1,-,q2⟩:=mD x.o g ae;exact⟨q1,q2⟩
    have ST:ah (Bx w y z (Y (X ⟨b,V,O⟩) a cap) u' L (k+1) (bs++[f])):=by
     refine⟨?_,E,by rw[aJ,aa.o];rfl,FA.o.grown hg (λg e=>(i g e).2),PW.o,ac.o,ab.o,HB.o.grown hg U (λg e=>(i g e).1)⟩
     refine(hg.block z (aL.1 Z.o).1 (λe=>?_)).trans Z.o
     obtain⟨-,cs,q⟩:=i z e.symm;rw[Z.o]at q;injection q with q
     injection q with _ q
     simp at q
    obtain⟨ua,uc,hu,-⟩:=(aG.of E).form;subst hu;clear ho E hg i x FA HB Z;go_wp2;go_roundw
    case rel=>exact⟨k+1,bs++[f],by omega,by go_num,ST⟩
    case measure=>simp[intOf];omega
  ·have ek:k=a:=by omega
   subst ek;have HF:ah (JJ w L (G (iU #[u4,iB iV])) wr):=by
    obtain⟨-,h2,h3,h4,h5,h6,h7,h8⟩:=d.o;rw[bL (by have:=j.o;omega)]at h4
    have e:bU L=iV:=by rw[bU,j.o];exact h7
    exact⟨by rw[u.o];exact h8,.inl ⟨e,u4,bs,rfl,by rw[j.o,u.o];exact h2,by rw[j.o];exact h3,h4,h5,λb hb=>by rw[u.o];exact h6 b hb⟩⟩
   obtain⟨fa,fc,n,-⟩:=ky.of (bs:=bs) (by rw[d.o.2.2.1];exact d.o.2.1)
   clear d;subst n;go_wp2;go_ret2;exact HF.o
theorem Qg(n:Nat):List.replicate n (I J 0)=ax (List.replicate n 0):=by simp[ax]
def sg(W:iW)(b:Nat)(bs:List Nat)(L:List Kn)(r:Int):Prop:=
 ft W bs (eJ bs L)/\((r= -1/\cB W b Cz)∨∃(m:Nat) (x:Kn),r=(m:Int)/\bs[m]?=X b/\L[m]?=X x/\x.leaf=iF)
theorem Nn{L:List Kn}(h:bt L r=iF):r≠-1/\(r<0∨(L.length:Int)<=r∨∃x,L[r.toNat]?=X x/\x.leaf=iV):=by
 unfold bt at h;simp only[Bool.or_eq_false_iff,qO,FM,Bool.not_eq_false']at h;refine⟨h.1,?_⟩;rcases h.2 with(h|h)|h
 ·exact .inl (by omega)
 ·exact .inr (.inl (by omega))
 ·obtain⟨y,hy,a⟩:=zO h;exact .inr (.inr ⟨y,hy,a⟩)
theorem aau{L:List Kn}(h:bt L r=iV):r= -1∨∃(m:Nat) (x:Kn),r=(m:Int)/\L[m]?=X x/\x.leaf=iF:=by
 by_cases h0:r= -1
 ·exact .inl h0
 ·have h1:0<=r:=by
   unfold bt at h;simp only[jS,bn,bH]at h;omega
  obtain⟨x,b,a⟩:=lu h h1;exact .inr ⟨r.toNat,x,by omega,b,a⟩
def Oe(w:iW)(bs:List Nat)(L:List Kn)(r:Int)(e:Ending)(w':iW):Prop:=
 iL w.heap.size w w'/\((bt L r=iV/\∃b,e=G (ptr b)/\sg w' b bs L r/\(r= -1->w.heap.size<=b))∨(bt L r=iF/\e=G (iP O)))
theorem aaz(b:Option Addr)(n c:Nat)(bs:List Nat)(L:List Kn)(r:Int)(w:iW)(j:ky w b n bs)(a:ft w bs (eJ bs L)):
 iK Tryz.prog 175 #[Y b n c,I J r] w (Oe w bs L r):=by
 cases d:bt L r with
 |true=>
  rcases aau d with rfl|⟨m,x,rfl,g,f⟩
  ·refine(OY (Y b n c) w).mono ?_;rintro e w' ⟨rfl,i,k⟩;exact⟨k,.inl ⟨d,_,rfl,⟨a.below k,.inl ⟨rfl,i⟩⟩,λ_=>am _⟩⟩
  ·have l:m<bs.length:=by rw[a.1,AM];exact(aB.1 g).1
   refine(Xk b n c bs (eJ bs L) m _ (iJ bs m x) w j a (yw g) (ay l) (by rw[zN];exact f)).mono ?_
   rintro e w' ⟨rfl,rfl⟩;exact⟨az _ _,.inl ⟨d,_,rfl,⟨a,.inr ⟨m,x,rfl,ay l,g,f⟩⟩,λh=>by omega⟩⟩
 |false=>
  obtain⟨h1,o⟩:=Nn d;have f:(L.length:Int)=n:=by have:=j.1;have:=a.1;rw[AM]at this;omega
  refine(MX b n c bs (eJ bs L) r w j a h1 ?_).mono ?_
  ·rcases o with h|h|⟨x,g,f⟩
   ·exact .inl h
   ·exact .inr (.inl (by omega))
   ·exact .inr (.inr ⟨_,yw g,by rw[zN];exact f⟩)
  ·rintro e w' ⟨rfl,rfl⟩;exact⟨az _ _,.inr ⟨d,rfl⟩⟩
theorem ZE(b:Nat)(bs:List Nat)(L:List Kn)(r:Int)(s:Nat)(w:iW)(hs:s<=15)(p:bU L=iV)(h:sg w b bs L r):
 iK Tryz.prog 134 #[ptr b,I J s] w λe w'=>e=G (I J (ce L r s))/\w'=w:=by
 have z:s/4<4:=by omega
 have C:s % 4<4:=by omega
 obtain⟨j,⟨rfl,a⟩|⟨m,x,rfl,A,o,q⟩⟩:=h
 ·refine Az b Cz s _ w hs a (.inl ⟨s/4,rfl,?_,?_⟩)
  ·match s/4,z with
   |0,_|1,_|2,_|3,_=>rfl
  ·exact ak (by omega)
 ·have a:=j.2 m b _ A (yw o);have l:iJ bs m x=⟨m,iF,[0,0,0,0],x.fD.map (nB bs),iF⟩:=by unfold iJ;rw[aj (by rw[q];decide)]
  obtain⟨n,t,B⟩:=lM p (r:=(m:Int)) (by rw[bk];exact o) q z
  have g:dI L (m:Int) (s/4)=n:=hO (by rw[bk];exact o) t
  have c:(iJ bs m x).tos[s/4]?=X (nB bs n):=by
   rw[l];show(x.fD.map (nB bs))[s/4]?=_;rw[bi,t];rfl
  rcases B with rfl|⟨h0,h1,y,hy,i,-⟩
  ·refine Az b _ s _ w hs a (.inl ⟨s/4,rfl,c,?_⟩);rw[ce,aj (by omega),g,ak (by omega)]
  ·obtain⟨v,u,-⟩:=vN p hy i C;have f:n.toNat<bs.length:=by rw[j.1,AM];exact(aB.1 hy).1
   have k:nB bs n=X bs[n.toNat]:=by rw[nB,aj (by omega),ay f]
   rw[k]at c;have d:=j.2 n.toNat _ _ (ay f) (yw hy);have e:ce L (m:Int) s=v:=by rw[ce,aj (by omega),g,aj (by omega),hO hy u]
   rw[e];refine Az b _ s v w hs a (.inr ⟨_,_,c,d,?_⟩);unfold iJ;rw[ak i];exact u
def Rj(w:iW)(L:List Kn)(r:Int)(e:Ending)(w':iW):Prop:=
 iL w.heap.size w w'/\((bU L=iV/\bt L r=iV/\∃b bs,e=G (ptr b)/\sg w' b bs L r)∨((bU L&&bt L r)=iF/\e=G (iP O)))
theorem WG(ad:Option Addr)(a cap:Nat)(rs:List Kw)(r:Int)(w:iW)(C:a<=1048578)(h:dB w ad a rs):
 iK Tryz.prog 132 #[iA #[Y ad a cap],I J r] w (Rj w (rs.map aD) r):=by
 have y:=pI w (Y ad a cap);have k:=af (aR w (iC #[Y ad a cap] 30));have H:=af (h.below k.o);clear h;go_enter Tryz.func132,Tryz.ntmps132;go_wp2_with fail;refine(UM ad a cap rs _ C H.o).mono ?_;rintro e s ⟨n,h1⟩;have l:ah (iL w.heap.size w s):=k.o.trans (n.mono k.o.size);clear n;rcases h1 with⟨d,v,bs,rfl,j⟩|⟨d,rfl⟩
 ·have i:=af d;have t:=af j;obtain⟨z,A,rfl,g⟩:=ky.of (bs:=bs) (by rw[j.2.1];exact j.1)
  have u:=af g;clear d j g y;go_wp2_with fail;refine(aaz z _ A bs (rs.map aD) r s u.o t.o.2.2.1).mono ?_;rintro e D ⟨p,B⟩;have c:ah (iL w.heap.size w D):=l.o.trans (p.mono l.o.size);clear p;rcases B with⟨f,b,rfl,q,-⟩|⟨f,rfl⟩
  ·have m:=af f;have x:=af q;clear f q;unfold ptr;go_wp2;go_ret;exact⟨c.o,.inl ⟨i.o,m.o,b,bs,rfl,x.o⟩⟩
  ·have m:=af f;clear f;go_wp2;go_ret;exact⟨c.o,.inr ⟨by rw[i.o,m.o];rfl,rfl⟩⟩
 ·have i:=af d;clear d;go_wp2;go_ret;exact⟨l.o,.inr ⟨by rw[i.o];rfl,rfl⟩⟩
theorem MG(L:List Kn)(r:Int)(h:k<16):(bu L r)[k]?=X (gj L r (k:Int)):=by
 rw[bu,bi,xZ h];rfl
theorem OM{L:List Kn}(h:(bU L&&bt L r)=iF):bu L r=List.replicate 16 0:=by
 refine List.eq_replicate_iff.2 ⟨jK L r,λn a=>?_⟩
 obtain⟨s,-,rfl⟩:=bJ.1 a;exact aj (by rw[jX,h];simp)
theorem Pp:Sn 117:=by
 intro ad a cap rs r w hl h;obtain⟨i0,hi,C,D,F⟩:=bV lp;have R:=af (pI w (Y ad a cap));have bx:=R.o;have G:=af (aR w (iC #[Y ad a cap] 30));have H:=af (h.below G.o);clear h;obtain⟨L,Z⟩:=aq (rs.map aD);have HL:=af Z;rw[Z];clear Z;go_enter Tryz.func117,Tryz.ntmps117;go_wp2_with (at_make;refine tm _ rfl _ _ 36 rfl (w.heap.size+1) 3 i0 (I J 0) 1 Tryz.underlying36 hi C D J J _ _ 16 rfl rfl rfl rfl (by rw[F];omega) (by unfold maxLen;omega) (by simp) ?_)
 intro w1 l f;rw[sy,Qg]at l;clear hi C D F;have K:ah (iL (w.alloc (iC #[Y ad a cap] 30)).heap.size (w.alloc (iC #[Y ad a cap] 30)) w1):=(az _ _).grown f (am _) (λk hk=>by cases hk)
 have S:ah ((w.alloc (iC #[Y ad a cap] 30)).heap.size=w.heap.size+1):=by show _=_;simp
 have t:=af l;have u:=(K.o.cell (show w.heap.size<(w.alloc (iC #[Y ad a cap] 30)).heap.size by simp)).trans R.o
 have H1:=af (H.o.below K.o);have Q:ah (iL w.heap.size w w1):=G.o.trans (K.o.mono G.o.size);clear l f bx R K G H S;obtain⟨z,hz⟩:=aq w.heap.size;have T:=af hz;rw[hz]at t u⊢;clear hz;go_wp2_with fail;refine(WG ad a cap rs r w1 hl H1.o).mono ?_;rw[HL.o];rintro e P ⟨U,N⟩;have s:=af (bE t.o U);have B2:ah (iL w.heap.size w P):=Q.o.trans (U.mono Q.o.size);clear U t Q H1 u;rcases N with⟨v,hR,b,bs,rfl,hT⟩|⟨v,rfl⟩
 ·have HA:=af v;have HR:=af hR;have S0:ah (∃xs:List Int,xs=(bu L r).take 0++(List.replicate 16 0).drop 0/\P.ownsRow (z+1) 3 1 (Y (X ⟨z+1,0,O⟩) 16 16) 16 (ax xs)/\sg P b bs L r/\iL w.heap.size w P):=⟨_,rfl,s.o,hT,B2.o⟩;clear v hR hT s;unfold ptr;go_wp2;go_loopw [17] (λiv W=>∃k:Nat,k<=16/\iv=I J k/\ah (∃xs:List Int,xs=(bu L r).take k++(List.replicate 16 0).drop k/\W.ownsRow (z+1) 3 1 (Y (X ⟨z+1,0,O⟩) 16 16) 16 (ax xs)/\sg W b bs L r/\iL w.heap.size w W)) (λiv _=>16-(intOf iv).toNat)
  case atStart=>exact⟨0,by omega,rfl,S0⟩
  case round=>
   obtain⟨k,hk,rfl,M⟩:=hrel;clear S0;by_cases aa:(k:Int)<16
   ·have j:k<16:=by omega
    obtain⟨xs,d,m,n,y⟩:=M.o;have HT:=af n;have k0:(0:Int)<=k:=by omega
    have B:xs[k]?=X 0:=by rw[d,xA (by rw[jK];exact j),Dr,ak j]
    have oc:wr.cell? ⟨z+1,k,O⟩=X (I J 0):=by
     rw[<-fw];exact m.cells (g:=z+1) rfl k _ (iI B)
    have of:wr.frozen? ⟨z+1,k,O⟩=iF:=by
     obtain⟨-,-,cs,q⟩:=mD m (z+1) rfl;exact aF _ _ k _ _ q
    have HN:ah (∃xs:List Int,xs=(bu L r).take (k+1)++(List.replicate 16 0).drop (k+1)/\(wr.setCell ⟨z+1,k,O⟩ (I J (ce L r k))).ownsRow (z+1) 3 1 (Y (X ⟨z+1,0,O⟩) 16 16) 16 (ax xs)/\sg (wr.setCell ⟨z+1,k,O⟩ (I J (ce L r k))) b bs L r/\iL w.heap.size w (wr.setCell ⟨z+1,k,O⟩ (I J (ce L r k)))):=by
     have hg:gj L r (k:Int)=ce L r k:=ak (by rw[jX,HA.o,HR.o,aW (show(0:Int)<=k by omega),aW (show(k:Int)<=15 by omega)];rfl)
     refine⟨xs.set k (ce L r k),?_,by rw[<-Ac];exact rh m rfl k _,?_,y.setCell (p:=⟨z+1,k,O⟩) (by rw[T.o];show z<=z+1;omega) _⟩
     ·rw[d];exact tI (by rw[MG L r j,hg]) (by rw[jK];rfl)
     ·obtain⟨-,-,cs,q⟩:=mD m (z+1) rfl;have A:∀{c:Nat} {x:Lk},cB wr c x->c≠z+1:=by
       intro c x hc e;have:=hc.1;rw[e,q]at this;injection this with this
       injection this with _ this
       simp at this
      refine⟨⟨n.1.1,λi c x h1 N=>(n.1.2 i c x h1 N).other (A (n.1.2 i c x h1 N)) _⟩,?_⟩
      rcases n.2 with⟨e,q⟩|q
      ·exact .inl ⟨e,q.other (A q) _⟩
      ·exact .inr q
    clear d m n y B M;go_wp2_with fail;refine(ZE b bs L r k wr (by omega) HA.o HT.o).mono ?_
    rintro e w3 ⟨rfl,rfl⟩;go_wp2;go_roundw
    case rel=>exact⟨k+1,by omega,by go_num,HN⟩
    case measure=>simp[intOf];omega
   ·have V:k=16:=by omega
    subst V;obtain⟨xs,d,m,n,y⟩:=M.o;have e:xs=bu L r:=by
     rw[d,bL (by rw[jK];omega)]
     simp
    subst e;have t:=af m;have HB:=af y;clear m y n d M;go_wp2;go_ret;exact⟨_,rfl,by rw[jK,T.o];exact lJ t.o (by omega),HB.o⟩
 ·have E:ah (bu L r=List.replicate 16 0):=OM v;clear v;go_wp2;go_ret;exact⟨_,rfl,by rw[jK,E.o,T.o];exact lJ s.o (by omega),B2.o⟩
def lY(W:iW)(a:iX)(b:Nat)(o:Obj):Prop:=W.heap[b]?=X o/\a.ownBlock≠X b
theorem lY.lt{W:iW}{a:iX}{o:Obj}(h:lY W a b o):b<W.heap.size:=(aL.1 h.1).1
theorem lY.below{W a:iW}{c:iX}{o:Obj}(h:lY W c b o)(d:iL W.heap.size W a):lY a c b o:=⟨(d.block b h.lt).trans h.1,h.2⟩
theorem lY.grown{W a y:iW}{c u:iX}{o:Obj}(h:lY W c b o)(f:iL W.heap.size W a)(g:a.grownBy y c.ownBlock)(i:u.ownBlock=c.ownBlock∨∃q,u.ownBlock=X q/\a.heap.size<=q):lY y u b o:=by
 have h1:=h.below f;refine⟨(g.block b h1.lt (λe=>h.2 e.symm)).trans h1.1,?_⟩
 rcases i with e|⟨q,e,j⟩
 ·rw[e];exact h.2
 ·rw[e];intro d;injection d with d
  have:=h1.lt;omega
theorem lY.cell{W:iW}{a:iX}{b k:Nat}{cs:Array iX}{t:TypeId}{v:iX}(h:lY W a b (iC cs t (0,0)))(c:cs[k]?=X v):W.cell? ⟨b,k,O⟩=X v:=by
 rw[ai _ _ k _ _ _ h.1];exact c
theorem Ei(W:iW)(a b c d:Int)(g:Nat)(f:W.heap.size=g):∀(j:Nat) (u:iX),[I J a,I J b,I J c,I J d][j]?=X u->(W.alloc (iC #[I J a,I J b,I J c,I J d] 110)).cell? ((⟨g,0,O⟩:Addr).add j)=X u:=by
 intro j u e;subst f;rw[fw,ai _ _ j _ _ _ (aC W (iC #[I J a,I J b,I J c,I J d] 110))]
 match j,e with
 |0,e|1,e|2,e|3,e=>simpa using e
theorem Gm(a b c d:Int):∀u∈ [I J a,I J b,I J c,I J d],u.oneCell'=iV:=by
 intro u e;simp at e;rcases e with h|h|h|h<;>subst h<;>rfl
theorem Zn(acc:List Rc)(a b c d:Int):bY (acc.map Rc.tu)++[I J a,I J b,I J c,I J d]=bY ((acc++[(⟨a,b,c,d⟩:Rc)]).map Rc.tu):=by
 rw[fm,Fo];rfl
def pM(s:Sto)(k:Nat):List Rc:=⟨1,0,s.next,0⟩::(s.fV.take k).flatMap (pW s.fK)
variable{s:Sto}
theorem Yf(h:s.fV[k]?=X v):pM s (k+1)=(pM s k++[(⟨2,v.1,0,0⟩:Rc)])++kd v.1 (bu s.fK v.2) 16:=by
 obtain⟨h1,a⟩:=aB.1 h;rw[pM,pM,eY h1,a,rK];simp[pW]
def mZ(w W:iW)(z:Nat)(b:Array iX)(a:iX)(l:List Rc):Prop:=W.ownsRow (w.heap.size+1) 110 4 a l.length (bY (l.map Rc.tu))/\iL w.heap.size w W/\lY W a z (iC b 32 (0,0))
theorem mZ.below{w W b:iW}{c:Array iX}{d:iX}{l:List Rc}(h:mZ w W z c d l)(a:iL W.heap.size W b):mZ w b z c d l:=⟨bE h.1 a,h.2.1.trans (a.mono h.2.1.size),h.2.2.below a⟩
theorem mZ.snoc{w W e y:iW}{g:Array iX}{f u:iX}{l:List Rc}{a b d:Int}(h:mZ w W z g f l)(i:iL W.heap.size W e)(k:y.ownsRow (w.heap.size+1) 110 4 u (l.length+1) (bY (l.map Rc.tu)++[I J a,I J b,I J c,I J d]))(j:e.grownBy y f.ownBlock)(n:u.ownBlock=f.ownBlock∨∃q,u.ownBlock=X q/\e.heap.size<=q):mZ w y z g u (l++[⟨a,b,c,d⟩]):=by
 have h1:=h.below i;rw[Zn]at k;exact⟨by rw[aJ];exact k,h1.2.1.grown j h1.2.1.size (λq m=>by have:=(h1.1.lt q m).1;omega),h.2.2.grown i j n⟩
theorem mZ.lt{w W:iW}{b:Array iX}{a:iX}{l:List Rc}(h:mZ w W z b a l):∀q,a.ownBlock=X q->q<W.heap.size:=λq c=>(h.1.lt q c).2
def Ni(a:Array iX)(L:List Int):Prop:=∀(k:Nat) (x:Int),L[k]?=X x->a[k]?=X (I J x)
theorem XT{W:iW}{v:iX}{L:List Int}(h:W.ownsRow B 3 1 v n (ax L))(h0:0<n):∃b cap a,v=Y (X ⟨b,0,O⟩) n cap/\B<=b/\W.heap[b]?=X (iC a 3 (0,0))/\Ni a L:=by
 have e:=h;rcases h.2 with⟨rfl,q⟩|⟨g,cap,a,rfl,d,c,h4,i,j,l⟩
 ·omega
 ·refine⟨g,cap,a,rfl,d,c,λk x f=>?_⟩
  have:=e.cells (g:=g) rfl k _ (iI f);rw[fw,ai _ _ k _ _ _ c]at this;exact this
theorem XY (w:World) {o:Oper} {Q:Exit->Act->World->Prop} (A:o.guard=none) (s x:Operand) (t:TypeId)
 (I:o.op=.call {callee:=.builtin .append,args:= #[s,x],argTypes:= #[t,t]})
 (base:Nat) (e:TypeId) (i:TypeInfo) (z:Value) (size d:Nat) (L:P.underlying t=some (.slice e)) (hi:P.info? e=some i) (O:i.zero=some z)
 (l:i.size=size) (y:i.bytes=d) (C:z.cells.size=size) (B:0<size)
 (v:Value) (n:Nat) (xs:List Value) (hs:a.eval s=v) (q:w.ownsRow base e size v n xs)
 (ad:Addr) (m c:Nat) (b:List Value) (N:a.eval x=.slice (some ad) m c) (H:b.length=m*size) (k:∀j u,b[j]?=some u->w.cell? (ad.add j)=some u) (h1:∀u∈b,u.oneCell'=true)
 (r:n+m<=maxLen) (f:(n+m)*d<=140737488355328) (g:base<=w.heap.size)
 (h:∀p w',w'.ownsRow base e size p (n+m) (xs++b)->w.grownBy w' v.ownBlock->(p.ownBlock=v.ownBlock∨p.ownBlock=some w.heap.size)->K (a.put o.dst p) w'):
 if Region.wanted o (yielded ops a.tmps)=true then Oper.wp P o a w K Q else E:=by
 have M:Region.wanted o (yielded ops a.tmps)=true:=by simp[Region.wanted,A]
 rw[ak M];obtain⟨p,w',J,D,F,_,G⟩:=run_append_own_at (P:=P) w base t o.type e i z size d L hi O l y C B v n xs q ad m c b H k h1 r f g;unfold Oper.wp execOp;simp only[I,resolve,invoke,builtin,tW,xQ,ur,xV,cn,oh,hs,N,J];exact h p w' D F G
theorem Pb(a:List Kn):∀vs:List (Int×Int),(vs.flatMap (pW a)).length<=17*vs.length:=by
 intro vs
 induction vs with
 |nil=>simp
 |cons v vs b=>
  have h1:(kd v.1 (bu a v.2) 16).length<=16:=by
   unfold kd;exact bT (yJ _ _) (by simp)
  simp only[oL,aJ,aV,pW];omega
theorem Sa(s:Sto):(hJ s).length<=1+17*s.fV.length:=by
 have:=Pb s.fK s.fV;simp only[hJ,aV];omega
def sI(w W:iW)(z:Nat)(d:Array iX)(b:iX)(l:List Rc)(c:Nat)(a:Array iX):Prop:=mZ w W z d b l/\lY W b c (iC a 3 (0,0))
theorem sI.snoc{w W f y:iW}{i:Nat}{j e:Array iX}{g u:iX}{l:List Rc}{a b d:Int}(h:sI w W z j g l i e)(k:iL W.heap.size W f)(o:y.ownsRow (w.heap.size+1) 110 4 u (l.length+1) (bY (l.map Rc.tu)++[I J a,I J b,I J c,I J d]))(m:f.grownBy y g.ownBlock)(n:u.ownBlock=g.ownBlock∨∃q,u.ownBlock=X q/\f.heap.size<=q):sI w y z j u (l++[⟨a,b,c,d⟩]) i e:=⟨h.1.snoc k o m n,h.2.grown k m n⟩
theorem Ou:Mk 211:=by
 rintro v s w ⟨F,f,vc,ad,d,cap,rs,rfl,ab,aP,hl,ai,aG,h,hk⟩;have HV:=af h;have T:=af h.1;have HK:=af hk;have aw:=af ab;obtain⟨nx,K⟩:=aq s.next;have ax:=af K;obtain⟨i0,hi,an,ap,ar⟩:=bV Bz;have I0:=af hi;have Y0:=af an;have Y1:=af ap;have Y2:=af ar;have B0:=af (aR w (.cells #[.slice F f vc,.slice ad d cap,.int .i64 nx] 32));have R0:=af (aC w (.cells #[.slice F f vc,.slice ad d cap,.int .i64 nx] 32));have N:=af (show(w.alloc (.cells #[.slice F f vc,.slice ad d cap,.int .i64 nx] 32)).heap.size=w.heap.size+1 by simp)
 unfold dK;rw[K];clear h hk ai aG ab K hi an ap ar;go_enter Tryz.func211,Tryz.ntmps211;go_wp2_with fail;generalize w.alloc (.cells #[.slice F f vc,.slice ad d cap,.int .i64 nx] 32)=wb at B0 R0 N⊢;have B1:=af (aR wb (.cells #[.int .i64 1,.int .i64 0,.int .i64 nx,.int .i64 0] 110));have X:ah (mZ w (wb.alloc (.cells #[.int .i64 1,.int .i64 0,.int .i64 nx,.int .i64 0] 110)) w.heap.size #[.slice F f vc,.slice ad d cap,.int .i64 nx] (.slice (some ⟨w.heap.size+1,0,none⟩) 1 1) [⟨1,0,nx,0⟩]):=by
  refine⟨?_,B0.o.trans (B1.o.mono B0.o.size),(B1.o.block w.heap.size (by have:=N.o;omega)).trans R0.o,λe=>?_⟩
  ·rw[<-N.o];exact⟨rfl,.inr ⟨wb.heap.size,1,_,rfl,by have:=N.o;omega,aC wb _,am _,by unfold maxLen;omega,rfl,rfl⟩⟩
  ·have:=N.o;simp only[Value.ownBlock,fu]at e;omega
 generalize wb.alloc (.cells #[.int .i64 1,.int .i64 0,.int .i64 nx,.int .i64 0] 110)=w1 at B1 X⊢;have aH:=af (show w.heap.size+1=wb.heap.size from N.o.symm);obtain⟨z,hz⟩:=aq w.heap.size;have aI:=af hz;rw[hz]at X⊢;clear hz;have aB:w1.cell? ⟨z,0,none⟩=some (.slice F f vc):=X.o.2.2.cell rfl;go_wp2_with fail;go_loopw [3,4] (λO kv W=>∃(k:Nat) (l:List Rc),k<=f/\kv=.int .i64 k/\l.length<=17*k+1/\ah (l=pM s k)/\ah (mZ w W z #[.slice F f vc,.slice ad d cap,.int .i64 nx] O l)) (λ_ kv _=>f-(intOf kv).toNat)
 case atStart=>exact⟨0,[⟨1,0,nx,0⟩],aK _,rfl,am _,(by rw[<-ax.o];rfl:[⟨1,0,nx,0⟩]=pM s 0),X⟩
 case round=>
  obtain⟨k,l,aM,rfl,ai,HL,y⟩:=hrel;clear X aB;by_cases aO:(k:Int)<f
  ·obtain⟨v,hv⟩:∃v,s.fV[k]?=some v:=⟨_,ay (by have:=T.o;omega)⟩
   obtain⟨b,a,e,hb,A,c1⟩:=(HV.o.below y.o.2.1).at hv;subst e;have k0:(0:Int)<=k:=by omega
   have p:=af (Yf hv);obtain⟨c,y1⟩:=v;simp only at A c1 p;have C:=af (aR wr (.cells #[.int .i64 2,.int .i64 c,.int .i64 0,.int .i64 0] 110));have V:=af (bE y.o.1 C.o);have r:ah (w.heap.size+1<=(wr.alloc (.cells #[.int .i64 2,.int .i64 c,.int .i64 0,.int .i64 0] 110)).heap.size):=by
    have:=y.o.2.1.size;show _<=_;simp;omega
   have P:=af (Ei wr 2 c 0 0 wr.heap.size rfl);have z0:wr.cell? ⟨z,0,none⟩=some (.slice (some ⟨b,a,none⟩) f vc):=y.o.2.2.cell rfl;go_wp2_with (at_builtin;refine zM _ rfl _ _ 57 rfl (w.heap.size+1) 110 i0 (.agg #[.int .i64 0,.int .i64 0,.int .i64 0,.int .i64 0]) 4 32 Tryz.underlying57 I0.o Y0.o Y1.o Y2.o rfl (by decide) _ _ _ rfl V.o ⟨wr.heap.size,0,none⟩ 1 1 [Value.int .i64 2,Value.int .i64 c,Value.int .i64 0,Value.int .i64 0] rfl rfl P.o (Gm _ _ _ _) ?c1 ?c2 ?c3 ?_)
   case c1=>unfold maxLen;omega
   case c2=>omega
   case c3=>exact r.o
   intro u2 G o2 g2 _ hu;have al:u2.ownBlock=u3.ownBlock∨∃q,u2.ownBlock=some q/\(wr.alloc (.cells #[.int .i64 2,.int .i64 c,.int .i64 0,.int .i64 0] 110)).heap.size<=q:=by
    rcases hu with e|e
    ·exact .inl e
    ·exact .inr ⟨_,e,by simp⟩
   have D:=af (y.o.snoc C.o o2 g2 al);clear o2 g2 hu al V r P C A c1 y z0;have d0:G.cell? ⟨z,0,none⟩=some (.slice (some ⟨b,a,none⟩) f vc):=D.o.2.2.cell rfl;have d1:G.cell? ⟨z,1,none⟩=some (.slice ad d cap):=D.o.2.2.cell rfl;obtain⟨b',E,t,aE,A,c1⟩:=(HV.o.below D.o.2.1).at hv;injection t with t
   injection t with e1 e2
   subst e1 e2;simp only at A c1;have l0:=aT G _ d0;have l1:=aT G _ d1;have l2:=aT G _ c1;have CA:=af (x8 ad d cap rs y1 G.drew (by omega) (HK.o.below D.o.2.1.drew))
   rw[<-aw.o]at CA;have B:(bu s.fK y1).length=16:=jK _ _;obtain⟨L,hL⟩:=aq (bu s.fK y1);rw[hL]at CA B p;have aF:(l++[(⟨2,c,0,0⟩:Rc)]).length<=17*k+2:=by simp;omega
   have R:ah (l++[(⟨2,c,0,0⟩:Rc)]=pM s k++[⟨2,c,0,0⟩]):=by show _=_;rw[HL.o]
   generalize l++[(⟨2,c,0,0⟩:Rc)]=i at D aF R;clear hL;have S:=af hv;clear hv;go_wp2;go_region_held3 (λw'=>w'.cell? ⟨z,0,none⟩=some (.slice (some ⟨b,a,none⟩) f vc)/\w'.cell? ⟨z,1,none⟩=some (.slice ad d cap)/\w'.cell? ⟨b,a+k*2+1,none⟩=some (.int .i64 y1)) (first|exact⟨d0,d1,c1⟩|exact U.o) ((go_at_call 30;(with_reducible refine cj CA.o ?_);rintro en w3 ⟨av,rfl,ao,Y⟩;have U:ah (w3.cell? ⟨z,0,none⟩=some (.slice (some ⟨b,a,none⟩) f vc)/\w3.cell? ⟨z,1,none⟩=some (.slice ad d cap)/\w3.cell? ⟨b,a+k*2+1,none⟩=some (.int .i64 y1)):=⟨(Y.cell l0).trans d0,(Y.cell l1).trans d1,(Y.cell l2).trans c1⟩))
   rw[B]at ao;obtain⟨I,ac,J,rfl,aD,Z,aa⟩:=XT ao (by omega)
   have S3:ah (sI w w3 z #[.slice (some ⟨b,a,none⟩) f vc,.slice ad d cap,.int .i64 nx] u2 i I J):=⟨(D.o.below (az _ _).drew).below Y,Z,λe=>by have:=D.o.lt _ e;have h9:G.drew.heap.size=G.heap.size:=rfl;omega⟩
   have HN:=af aa;have au:=af B;clear ao aD Z aa Y CA D U A c1 d0 d1 l0 l1 l2 B;go_wp2;go_loopw [3,6] (λO jv W=>∃(j:Nat) (m:List Rc),j<=16/\jv=.int .i64 j/\m.length<=17*k+2+j/\ah (m=i++kd c L j)/\ah (sI w W z #[.slice (some ⟨b,a,none⟩) f vc,.slice ad d cap,.int .i64 nx] O m I J)) (λ_ jv _=>16-(intOf jv).toNat)
   case atStart=>exact⟨0,i,aK _,rfl,by omega,(by simp[kd]:i=i++kd c L 0),S3⟩
   case round=>
    obtain⟨j,m,hj,rfl,aN,H,g⟩:=hrel;clear S3;by_cases aL:(j:Int)<16
    ·obtain⟨x,hx⟩:∃x,L[j]?=some x:=⟨_,ay (by have:=au.o;omega)⟩
     have cx:wr.cell? ⟨I,j,none⟩=some (.int .i64 x):=g.o.2.cell (HN.o j x hx);have z0:wr.cell? ⟨z,0,none⟩=some (.slice (some ⟨b,a,none⟩) f vc):=g.o.1.2.2.cell rfl;obtain⟨b',E,t,aE,A,-⟩:=(HV.o.below g.o.1.2.1).at S.o;injection t with t
     injection t with e1 e2
     subst e1 e2;simp only at A;have FT:ah (kd c L (j+1)=kd c L j++(if 0<x then[⟨4,c,(j:Int),x⟩]else[])):=by
      show _=_;rw[It,hx];rfl
     have j0:(0:Int)<=j:=by omega
     have HX:=af hx;clear hx;by_cases aJ:1<=x
     ·have n:ah (m++[(⟨4,c,(j:Int),x⟩:Rc)]=i++kd c L (j+1)):=by
       show _=_;rw[FT.o,ak (by omega),<-fs,<-H.o]
      have C:ah (Below wr.heap.size wr (wr.alloc (.cells #[.int .i64 4,.int .i64 c,.int .i64 j,.int .i64 x] 110)).drew):=(bh).drew;have V:=af (bE g.o.1.1 C.o);have r:ah (w.heap.size+1<=(wr.alloc (.cells #[.int .i64 4,.int .i64 c,.int .i64 j,.int .i64 x] 110)).drew.heap.size):=by
       have:=g.o.1.2.1.size;have h9:(wr.alloc (.cells #[.int .i64 4,.int .i64 c,.int .i64 j,.int .i64 x] 110)).drew.heap.size=wr.heap.size+1:=by simp[World.drew]
       show _<=_;omega
      have P:ah (∀(q:Nat) (u:Value),[Value.int .i64 4,Value.int .i64 c,Value.int .i64 j,Value.int .i64 x][q]?=some u->(wr.alloc (.cells #[.int .i64 4,.int .i64 c,.int .i64 j,.int .i64 x] 110)).drew.cell? ((⟨wr.heap.size,0,none⟩:Addr).add q)=some u):=Ei wr 4 c j x wr.heap.size rfl;have z1:=aT wr _ z0;have z2:=aT wr _ A;have z3:=aT wr _ cx;have KZ:ah (∀(W:World) (O:Value),sI w W z #[.slice (some ⟨b,a,none⟩) f vc,.slice ad d cap,.int .i64 nx] O (m++[(⟨4,c,(j:Int),x⟩:Rc)]) I J->W.cell? ⟨z,0,none⟩=some (.slice (some ⟨b,a,none⟩) f vc)/\W.cell? ⟨b,a+k*2,none⟩=some (.int .i64 c)/\W.cell? ⟨I,j,none⟩=some (.int .i64 x)):=by
       intro W O hW;refine⟨hW.1.2.2.cell rfl,?_,hW.2.cell (HN.o j x HX.o)⟩;obtain⟨b',E,t,-,c9,-⟩:=(HV.o.below hW.1.2.1).at S.o;injection t with t
       injection t with e1 e2
       subst e1 e2;exact c9
      go_wp2;go_region_held3 (λw'=>w'.cell? ⟨z,0,none⟩=some (.slice (some ⟨b,a,none⟩) f vc)/\w'.cell? ⟨b,a+k*2,none⟩=some (.int .i64 c)/\w'.cell? ⟨I,j,none⟩=some (.int .i64 x)) (first|go_keep|exact U.o) ((refine XY _ (by rfl) (.tmp 48) (.tmp 61) 57 (by rfl) (w.heap.size+1) 110 i0 (.agg #[.int .i64 0,.int .i64 0,.int .i64 0,.int .i64 0]) 4 32 Tryz.underlying57 I0.o Y0.o Y1.o Y2.o rfl (by decide) _ m.length (bY (m.map Rc.tu)) (by simp[Act.eval]) V.o ⟨wr.heap.size,0,none⟩ 1 1 [Value.int .i64 4,Value.int .i64 c,Value.int .i64 j,Value.int .i64 x] (by simp[Act.eval]) rfl P.o (Gm _ _ _ _) (by unfold maxLen;omega) (by omega) r.o ?_;intro u4 w4 o4 g4 hu;have M:u4.ownBlock=u3.ownBlock∨∃q,u4.ownBlock=some q/\(wr.alloc (.cells #[.int .i64 4,.int .i64 c,.int .i64 j,.int .i64 x] 110)).drew.heap.size<=q:=(by rcases hu with e|e;exact .inl e;exact .inr ⟨_,e,am _⟩);have U:ah (w4.cell? ⟨z,0,none⟩=some (.slice (some ⟨b,a,none⟩) f vc)/\w4.cell? ⟨b,a+k*2,none⟩=some (.int .i64 c)/\w4.cell? ⟨I,j,none⟩=some (.int .i64 x)):=KZ.o _ _ (g.o.snoc C.o o4 g4 M)))
      have NX:=af (g.o.snoc C.o o4 g4 M);have ae:(m++[(⟨4,c,(j:Int),x⟩:Rc)]).length<=17*k+2+(j+1):=by simp;omega
      generalize m++[(⟨4,c,(j:Int),x⟩:Rc)]=l4 at n NX ae;clear o4 g4 hu M g V r P C U KZ z0 z1 z2 z3 A cx HX;go_wp2;go_roundw
      case rel=>exact⟨j+1,l4,by omega,by go_num,ae,n,NX⟩
      case measure=>simp[intOf];omega
     ·have n:ah (m=i++kd c L (j+1)):=by
       show _=_;rw[FT.o,aj (by omega),dS,<-H.o]
      go_wp2;go_roundw
      case rel=>exact⟨j+1,m,by omega,by go_num,by omega,n,g⟩
      case measure=>simp[intOf];omega
    ·have n:ah (m=pM s (k+1)):=by
      show _=_;have e:j=16:=by omega
      rw[p.o,H.o,R.o,e]
     have aA:=af g.o.1;go_wp2;go_roundw
     case rel=>exact⟨k+1,m,by omega,by go_num,by omega,n,aA⟩
     case measure=>simp[intOf];omega
  ·have HE:ah (l=hJ s):=by
    show _=_;rw[HL.o,pM,bL (by have:=T.o;omega)]
    rfl
   have Q:ah (wr.ownsRow w.heap.size 110 4 u3 (hJ s).length (bY ((hJ s).map Rc.tu))/\Below w.heap.size w wr):=by
    rw[<-HE.o];exact⟨lJ y.o.1 (by omega),y.o.2.1⟩
   have z0:wr.cell? ⟨z,0,none⟩=some (.slice F f vc):=y.o.2.2.cell rfl;go_wp2;go_ret;exact⟨_,rfl,Q.o.1,Q.o.2⟩
end Go.Proofs.YtgigcooffjjbgaaGreatDoor
