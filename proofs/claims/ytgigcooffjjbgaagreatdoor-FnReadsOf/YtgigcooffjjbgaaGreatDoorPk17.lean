/-
  SMove; LkMath; ILinked; ITree; IAll; RowBk; IBase; SBase; SBaSt; TxN; LTx
-/
import Derived.Test.YtgigcooffjjbgaaGreatDoorPk16
open Go.Value renaming int→I,slice→Y,string→iT,bool→iB,pointer→iP,agg→iA,tuple→iU
open Go.IntKind renaming i64→J
open Option renaming none→O,some→X
open Go.Ending renaming returned→G
open Go.Obj renaming cells→iC
open Bool renaming true→iV,false→iF
open Go renaming World→iW,Value→iX,Calls→iK
open Go.RowKit renaming Below→iL
set_option maxHeartbeats 4000000
set_option maxRecDepth 100000
namespace Go.Proofs.YtgigcooffjjbgaaGreatDoor
open Go.RowKit Words Sums
def kQ(b:Int)(lf:Nat)(p:an×Bool):Option an:=if p.2&&p.1.block==b&&p.1.leaf==(lf:Int)then X p.1 else O
def eh(M:List an)(row:List Bool)(b:Int)(lf i:Nat):List an:=(List.range lf).flatMap (λj=>(M.zip row).filterMap (kQ b j))++((M.zip row).take i).filterMap (kQ b lf)
def uG(M:List an)(row:List Bool)(b:Int)(lf i:Nat):List an:=((M.zip row).drop i).filterMap (kQ b lf)++(List.range' (lf+1) (3-lf)).flatMap (λj=>(M.zip row).filterMap (kQ b j))
variable{a:Act}{K:Act -> World -> Prop}{ops:Array Oper}{t t':ByteArray}{fn:Func}{r c sq c' sq':Int}{v:Int × Int}{row:List Bool}{i B k b z n lo g B' m size:Nat}{ad:Option Addr}{P:Program}{E:Prop}{e:TypeId}
variable{M:List an}{x:an}
theorem xI{b:Int}{lf:Nat}{r:Bool}(c:M[i]?=X x)(a:row[i]?=X r):eh M row b lf (i+1)=eh M row b lf i++(kQ b lf (x,r)).toList:=by
 unfold eh;rw[fW];congr 1;have d:(M.zip row)[i]?=X (x,r):=vr.2 ⟨c,a⟩;rw[fm,nY,d];congr 1
theorem XI{b:Int}{lf:Nat}(hi:M.length<=i):eh M row b lf i=eh M row b (lf+1) 0:=by
 unfold eh;rw[ci (by rw[AQ];omega),xz,wE,dS,qm,tj]
 simp
theorem Qa{b:Int}{lf:Nat}(h:lf<4):eh M row b 4 0=eh M row b lf i++uG M row b lf i:=by
 unfold eh uG;rw[xz,wE,dS,fW,<-fW (((M.zip row).take i).filterMap (kQ b lf)),<-nY,jk];have h1:List.range 4=List.range lf++lf::List.range' (lf+1) (3-lf):=by
  have:lf=0∨lf=1∨lf=2∨lf=3:=by omega
  rcases this with rfl|rfl|rfl|rfl<;>rfl
 rw[h1,tj,nT]
theorem Rh{b:Int}{lf:Nat}{r:Bool}(d:M[i]?=X x)(c:row[i]?=X r):uG M row b lf i=(kQ b lf (x,r)).toList++uG M row b lf (i+1):=by
 unfold uG;rw[<-fW];congr 1;have f:(M.zip row)[i]?=X (x,r):=vr.2 ⟨d,c⟩;obtain⟨a,e⟩:=aC.1 f;rw[jh a,e];cases h:kQ b lf (x,r)with
 |none=>simp[h]
 |some y=>simp[h]
theorem CQ(b:Int):∀(ps qs:List Pg) (f:List Bk) (l:List aM) (q:Int),eP b f l q (ps++qs)=(eP b f l q ps).bind (λr=>eP b r.1 r.2.1 r.2.2 qs)
 | [],qs,f,l,q=>by simp[eP]
 |p::ps,qs,f,l,q=>by
  rw[ii,eP,eP];split
  ·exact CQ b ps qs _ _ _
  ·rfl
theorem Rp(d:Dv)(b:Int)(a:au d.fH=M)(c:cN M (aY d.fS) 1000000001=row):lm d b=match eP b d.fH [] d.seq ((eh M row b 4 0).map an.fP)with
 |some r=>(r.2.1,iV)
 |none=>([],iF):=by
 unfold lm;have:pI (au d.fH) (aY d.fS) b=eh M row b 4 0:=by
  unfold pI eh;rw[a,c,xz,wE,dS];rfl
 rw[this];cases eP b d.fH [] d.seq ((eh M row b 4 0).map an.fP)<;>rfl
theorem ZQ{M:List an}{row:List Bool}{b:Int}{lf i:Nat}{x:an}{f bs:List Bk}{l:List aM}{q q0:Int}(h:lf<4)(k:M[i]?=X x)(j:row[i]?=X iV)(a:(x.block==b)=iV)(d:(x.leaf==(lf:Int))=iV)(c:eP b f [] q0 ((eh M row b lf i).map an.fP)=X (bs,l,q))(g:((cM bs l (mh x.fP q)).2.2&&decide (tA (cM bs l (mh x.fP q)).2.1≠b))=iF):eP b f [] q0 ((eh M row b 4 0).map an.fP)=O:=by
 have e:kQ b lf (x,iV)=X x:=by unfold kQ;rw[a,d];rfl
 rw[Qa (i:=i) h,Rh k j,e,gV,gV,CQ,c];simp only[jd,qR,cB,oU,ii,jT,eP];rw[ai (by rw[g];decide)]
theorem Ql{M:List an}{row:List Bool}{b:Int}{lf i:Nat}{x:an}{f bs:List Bk}{l:List aM}{q q0:Int}(j:M[i]?=X x)(h:row[i]?=X iV)(a:(x.block==b)=iV)(d:(x.leaf==(lf:Int))=iV)(c:eP b f [] q0 ((eh M row b lf i).map an.fP)=X (bs,l,q))(g:((cM bs l (mh x.fP q)).2.2&&decide (tA (cM bs l (mh x.fP q)).2.1≠b))=iV):eP b f [] q0 ((eh M row b lf (i+1)).map an.fP)=X ((cM bs l (mh x.fP q)).1,(cM bs l (mh x.fP q)).2.1,q+1):=by
 have e:kQ b lf (x,iV)=X x:=by unfold kQ;rw[a,d];rfl
 rw[xI j h,e,gV,CQ,c];simp only[jd,qR,cB,oU,eP];rw[ak g]
theorem ab4{bs:List Bk}{l:List aM}{p:Pg}(h:(cM bs l p).2.2=iV):IntKind.i64.wrap (p.seq+1)=p.seq+1/\∃s,(cM bs l p).2.1=l++[s]:=by
 unfold cM at h⊢;split at h
 ·rename_i hc
  rw[ak hc];rw[bu]at hc;refine⟨?_,_,rfl⟩;have h1:=hc.1;unfold lp at h1;split at h1
  ·rename_i hr
   have:=hr.2.1;have:=hr.2.2.1;rw[cm];omega
  ·cases h1
 ·cases h
theorem Uo{W:iW}{u:iX}{l:List aM}{s:aM}(h:W.ownsRow B 254 4 u (l++[s]).length (cZ (l++[s]))):∃g c,u=Y (X ⟨g,0,O⟩) (l.length+1) c/\W.cell? ⟨g,l.length*4+1,O⟩=X (I J s.2.1):=by
 have b:=h.2;rcases b with⟨-,e⟩|⟨g,c,a,rfl,-⟩
 ·exfalso
  simp at e
 ·refine⟨g,c,by simp,?_⟩
  have:=wh h (g:=g) rfl (l.length*4+1) (I J s.2.1) (IP _ l.length s (by simp) 1 _ rfl)
  rwa [fh]at this
theorem Ug(l:List aM)(s:aM):tA (l++[s])=s.2.1:=by unfold tA;simp
theorem Sz(x:iX)(d:Dv)(b:Int)(w:iW)(h:eY w x d)(aH:(au d.fH).length<=100000000000):iK Tryz.prog 183 #[x,I J b] w (jt w (lm d b)):=by
 obtain⟨P,N,va,vl,vc,ad,ln,cap,rfl,h1,h2,h3⟩:=h.form;have bA:=aT w (iC #[Y P d.fH.length N,Y va vl vc,Y ad ln cap,I J d.fS.next,I J d.seq,I J d.tx,I J d.base] 34);have gA:aU (w.alloc (iC #[Y P d.fH.length N,Y va vl vc,Y ad ln cap,I J d.fS.next,I J d.seq,I J d.tx,I J d.base] 34)) w.heap.size (Y P d.fH.length N) (Y va vl vc) (Y ad ln cap) d.fS.next d.seq d.tx d.base:=aB _ _;generalize a6:w.alloc (iC #[Y P d.fH.length N,Y va vl vc,Y ad ln cap,I J d.fS.next,I J d.seq,I J d.tx,I J d.base] 34)=wa at bA gA;obtain⟨rs,e1,i1,l1,aO,aP⟩:=(h1.below bA).lens h2;have CS:=af (qi (Y P d.fH.length N) rs wa l1 aO aP i1);rw[e1]at CS;unfold mO at CS;have ac:=h3.fit;have a3:=xv d.fS;have ae:ah ((aY d.fS).length<=16*1048576):=by have:=ac.1;show _<=_;omega
 obtain⟨M,hM⟩:=aq (au d.fH);obtain⟨row,z⟩:=aq (cN M (aY d.fS) 1000000001);have k:=af (Rp d b hM z);have a0:ah (row.length=M.length):=by show _=_;rw[<-z];exact qU _ _ _
 have ab:=af z;rw[hM]at CS aH;obtain⟨R,hR⟩:=aq (lm d b);rw[hR]at k⊢;have HS:=af (h3.below bA);have HF:=af (h1.below bA);have a1:=af h2;have HB:=af bA;have HG:=af gA;have y0:=gA.cells.1;clear h1 h2 h3 h e1 i1 l1 aO aP hM hR bA gA ac a3 rs z;go_enter Tryz.func183,Tryz.ntmps183;go_wp2_with fail;clear a6;refine CS.o.mono ?_;rintro e w1 ⟨la,lc,rfl,f1,f2,f3⟩;have HR:=af f1;have aV:=af f2;have G1:=af (HG.o.below f3);have S1:=af (HS.o.below f3);have B1:=af (HB.o.trans (f3.mono HB.o.size));have F1:=af (HF.o.below f3);obtain⟨-,y1,y2,y3,-,-,-⟩:=G1.o.cells;clear CS f1 f2 f3 HG HS HB HF y0;go_wp2_with fail;refine(xD _ d.fS _ S1.o).mono ?_;rintro e w2 ⟨lv,rfl,ho,b2⟩;obtain⟨ia,ic,rfl,aG,-,-⟩:=mM.of ho (by have:=ae.o;unfold maxLen;omega) b2
 have G2:=af (G1.o.below b2);have B2:=af (B1.o.trans (b2.mono B1.o.size));have F2:=af (F1.o.below b2);have ak:=af (HR.o.below b2);have HI:=af aG;clear ho aG b2 y1 y2 y3 G1 B1 F1 HR S1;go_wp2_with fail;refine(yH la M.length lc M ia (aY d.fS).length ic (aY d.fS) 1000000001 w2 aV.o (by have:=ae.o;omega) ak.o HI.o).mono ?_
 rintro e c ⟨g,rfl,-,-,g3,g4⟩;rw[ab.o]at g3;have G3:=af (G2.o.below g4);have B3:=af (B2.o.trans (g4.mono B2.o.size));have F3:=af (F2.o.below g4);have aX:=af (ak.o.below g4);have aW:=af g3;clear g3 g4 G2 B2 F2 ak HI ae ab;have av:(c.alloc (iC #[] 254)).heap.size=c.heap.size+1:=by simp
 have b4:=aT c (iC #[] 254);have n4:=nS (ax c.heap.size c) c.heap.size rfl;have aD:iL (c.alloc (iC #[] 254)).heap.size (c.alloc (iC #[] 254)) ((c.alloc (iC #[] 254)).alloc (iC #[Y P d.fH.length N] 26)):=aZ;have b5:iL c.heap.size c ((c.alloc (iC #[] 254)).alloc (iC #[Y P d.fH.length N] 26)):=b4.alloc b4.size _;have W5:ah (jY c ((c.alloc (iC #[] 254)).alloc (iC #[Y P d.fH.length N] 26)) (c.heap.size+1) (Y P d.fH.length N) (Y (X ⟨c.heap.size,0,O⟩) 0 0) d.fH []):=
  ⟨b5,by rw[<-av];exact aB _ _,kD.of_rdb F3.o b5 (by omega),bC n4.1 aD,a1.o,by omega⟩
 have y0:=(G3.o.below b4).cells.1;have y4:=(G3.o.below b5).cells.2.2.2.2.1;have al:=af av;clear aD b5 b4 n4 av;generalize a4:c.alloc (iC #[] 254)=w4 at W5 y0 y4 al;generalize a5:w4.alloc (iC #[Y P d.fH.length N] 26)=w5 at W5 y4;have aL:w4.heap.size=c.heap.size+1:=al.o;clear al;go_wp2;clear a4 a5 y0 y4;try rw[aL]
 clear aL;go_loopw [8,10,11] (λuv qv lv wr=>∃(lf:Nat) (q:Int) (v:iX) (bs:List Bk) (l:List aM) (u:iX),uv=u/\qv=I J q/\lv=I J lf/\lf<=4/\l.length<=lf*M.length/\ah (eP b d.fH [] d.seq ((eh M row b lf 0).map an.fP)=X (bs,l,q))/\ah (jY c wr (c.heap.size+1) v u bs l)) (λ_ _ lv _=>4-(intOf lv).toNat)
 case atStart=>exact⟨0,d.seq,_,d.fH,[],_,rfl,rfl,rfl,aJ _,aJ _,rfl,W5⟩
 case round=>
  rename iW=>wr
  obtain⟨lf,q,v,bs,l,uv,rfl,rfl,rfl,bf,ar,a,H⟩:=hrel;clear W5;have ba:(0:Int)<=lf:=by omega
  by_cases bh:(lf:Int)<4
  ·go_wp2;go_loopw [8,10,12] (λuv qv iv wr=>∃(i:Nat) (q:Int) (v:iX) (bs:List Bk) (l:List aM) (u:iX),uv=u/\qv=I J q/\iv=I J i/\i<=M.length/\l.length<=lf*M.length+i/\ah (eP b d.fH [] d.seq ((eh M row b lf i).map an.fP)=X (bs,l,q))/\ah (jY c wr (c.heap.size+1) v u bs l)) (λ_ _ iv _=>M.length-(intOf iv).toNat)
   case atStart=>exact⟨0,q,v,bs,l,_,rfl,rfl,rfl,aJ _,by omega,a,H⟩
   case round=>
    rename iW=>wr
    clear a H ar;obtain⟨i,q,v,bs,l,uv,rfl,rfl,rfl,hi,ar,a,H⟩:=hrel;have bc:(0:Int)<=i:=by omega
    have bg:lf*M.length<=3*M.length:=zR _ (by omega)
    by_cases bd:(i:Int)<M.length
    ·obtain⟨x,hx⟩:∃x,M[i]?=X x:=⟨_,ay (by omega)⟩
     obtain⟨r,hr⟩:∃r,row[i]?=X r:=⟨_,ay (by have:=a0.o;omega)⟩
     have HX:=af hx;have F:=af hr;obtain⟨rb,ro,rfl,-,c0,c1,c2,c3,c4,c5,c6,c7,-⟩:=(aX.o.below H.o.1).all hx;have cr:=(aW.o.below H.o.1).cell (pT hr);clear hx hr;obtain⟨xb,xl,pk,W,E,D,C,pt⟩:=x;simp only at c0 c1 c2 c3 c4 c5 c6 c7;cases r with
     |false=>
      have NM:ah (eh M row b lf (i+1)=eh M row b lf i):=by
       show _=_;rw[xI HX.o F.o];unfold kQ;rw[ai (by simp[*])]
       simp
      have Q:ah (eP b d.fH [] d.seq ((eh M row b lf (i+1)).map an.fP)=X (bs,l,q)):=by show _=_;rw[NM.o];exact a.o
      clear NM a;go_wp2;go_roundw
      case rel=>exact⟨i+1,q,v,bs,l,_,rfl,rfl,by go_num,by omega,by omega,Q,H⟩
      case measure=>simp[intOf];omega
     |true=>
      by_cases U:(xb !=b)=iV
      ·have A:(xb==b)=iF:=by simpa using U
       have NM:ah (eh M row b lf (i+1)=eh M row b lf i):=by
        show _=_;rw[xI HX.o F.o];unfold kQ;rw[ai (by simp[*])]
        simp
       have Q:ah (eP b d.fH [] d.seq ((eh M row b lf (i+1)).map an.fP)=X (bs,l,q)):=by show _=_;rw[NM.o];exact a.o
       clear NM a;go_wp2;go_roundw
       case rel=>exact⟨i+1,q,v,bs,l,_,rfl,rfl,by go_num,by omega,by omega,Q,H⟩
       case measure=>simp[intOf];omega
      have U:(xb !=b)=iF:=by simpa using U
      have A:(xb==b)=iV:=by simpa using U
      by_cases V:(xl !=(lf:Int))=iV
      ·have B:(xl==(lf:Int))=iF:=by simpa using V
       have NM:ah (eh M row b lf (i+1)=eh M row b lf i):=by
        show _=_;rw[xI HX.o F.o];unfold kQ;rw[ai (by simp[*])]
        simp
       have Q:ah (eP b d.fH [] d.seq ((eh M row b lf (i+1)).map an.fP)=X (bs,l,q)):=by show _=_;rw[NM.o];exact a.o
       clear NM a;go_wp2;go_roundw
       case rel=>exact⟨i+1,q,v,bs,l,_,rfl,rfl,by go_num,by omega,by omega,Q,H⟩
       case measure=>simp[intOf];omega
      have V:(xl !=(lf:Int))=iF:=by simpa using V
      have B:(xl==(lf:Int))=iV:=by simpa using V
      have e3:wr.cell? ⟨rb,ro+i*8+2+1,O⟩=X (I J W):=c3;have e4:wr.cell? ⟨rb,ro+i*8+2+2,O⟩=X (I J E):=c4;have e5:wr.cell? ⟨rb,ro+i*8+2+3,O⟩=X (I J D):=c5;have e6:wr.cell? ⟨rb,ro+i*8+2+4,O⟩=X (I J C):=c6;have e7:wr.cell? ⟨rb,ro+i*8+2+5,O⟩=X (iT pt):=c7;have hP:=aB wr (iC #[I J pk,I J W,I J E,I J D,I J C,iT pt] 44);have bP:=aT wr (iC #[I J pk,I J W,I J E,I J D,I J C,iT pt] 44);have fP:(wr.alloc (iC #[I J pk,I J W,I J E,I J D,I J C,iT pt] 44)).frozen? ⟨wr.heap.size,1,O⟩=iF:=aF _ _ 1 _ _ hP;have kP:(wr.alloc (iC #[I J pk,I J W,I J E,I J D,I J C,iT pt] 44)).cell? ⟨wr.heap.size,1,O⟩=X (I J W):=aj _ _ 1 _ _ _ hP;generalize a8:wr.alloc (iC #[I J pk,I J W,I J E,I J D,I J C,iT pt] 44)=wp at hP bP fP kP;have hQ:(wp.setCell ⟨wr.heap.size,1,O⟩ (I J q)).heap[wr.heap.size]?=X (iC #[I J pk,I J q,I J E,I J D,I J C,iT pt] 44 (0,0)):=bo _ _ 1 _ _ _ hP;have bQ:iL wr.heap.size wr (wp.setCell ⟨wr.heap.size,1,O⟩ (I J q)):=bP.setCell (p:=⟨wr.heap.size,1,O⟩) (am _) _;generalize a9:wp.setCell ⟨wr.heap.size,1,O⟩ (I J q)=wq at hQ bQ;have q0:=aj _ _ 0 _ _ _ hQ;have q1:=aj _ _ 1 _ _ _ hQ;have q2:=aj _ _ 2 _ _ _ hQ;have q3:=aj _ _ 3 _ _ _ hQ;have q4:=aj _ _ 4 _ _ _ hQ;have q5:=aj _ _ 5 _ _ _ hQ;simp only[nJ,sf,oE]at q0 q1 q2 q3 q4 q5;have y:=af (H.o.below bQ);obtain⟨vd,aQ,rfl⟩:=y.o.2.2.1.rdb.form;have y9:wq.cell? ⟨c.heap.size+1,0,O⟩=X (Y vd bs.length aQ):=aj _ _ 0 _ _ _ y.o.2.1;have CP:=af (zW (Y vd bs.length aQ) _ bs l ⟨pk,q,E,D,C,pt⟩ c.heap.size (c.heap.size+1) wq y.o.2.2.2.2.1 (by omega) y.o.2.2.1 y.o.2.2.2.1 y.o.1.size (aK.1 y.o.2.1).1)
      have ao:=af (Ac y.o.2.2.2.2.1 l ⟨pk,q,E,D,C,pt⟩);have ag:=sI bs l ⟨pk,q,E,D,C,pt⟩;have K:=af (@ab4 bs l ⟨pk,q,E,D,C,pt⟩);have f:=af (λT=> @ZQ M row b lf i ⟨xb,xl,⟨pk,W,E,D,C,pt⟩⟩ d.fH bs l q d.seq (by omega) HX.o F.o A B a.o T)
      have j:=af (λT=> @Ql M row b lf i ⟨xb,xl,⟨pk,W,E,D,C,pt⟩⟩ d.fH bs l q d.seq HX.o F.o A B a.o T)
      unfold mh at f j;simp only at f j;obtain⟨t,l8,aw,h8⟩:∃t l8 aw,cM bs l ⟨pk,q,E,D,C,pt⟩=(t,l8,aw):=⟨_,_,_,rfl⟩;rw[h8]at CP ao K f j ag;simp only at ao K f j ag;unfold dJ at CP;simp only at CP;clear h8 H HX F a A B hP bP hQ bQ;go_wp2_with fail;clear a8 a9 e3 e4 e5 e6 e7 fP kP;refine CP.o.mono ?_;rintro e w8 ⟨v8,u8,rfl,r8,o8,k8⟩;obtain⟨aa,Z,rfl⟩:=r8.rdb.form;have b9:=aT w8 (iC #[Y aa t.length Z] 26);have h9:=aB w8 (iC #[Y aa t.length Z] 26);have z9:=aj _ _ 0 _ _ _ h9;simp only[nJ,sf]at z9;generalize bl:w8.alloc (iC #[Y aa t.length Z] 26)=w9 at b9 z9;have k9:=k8.trans (aR.below b9);have W9:=af (y.o.put k9 (r8.keep b9.size (λx _ hx=>b9.block x hx)) (bC o8 b9) ao.o)
      have B9:ah (iL c.heap.size c w9):=y.o.1.trans (k9.down y.o.1.size (λx hx e=>by have:=(iM y.o.2.2.2.1 x e).1;omega))
      have ap:=y.o.cell k9;have z0:=ap.1;have z1:=ap.2;have O9:=af (bC o8 b9);clear ap r8 o8 k8 k9 b9 h9 CP y q0 q1 q2 q3 q4 q5 y9 c0 c1 c2 c3 c4 c5 c6 c7 cr;cases aw with
      |false=>
       have HE:ah (R=([],iF)):=by show _=_;rw[k.o,f.o rfl]
       have FR:=nS (B3.o.trans (B9.o.mono B3.o.size)) w9.heap.size rfl;have FN:ah (jt w ([],iF) (G (iU #[Y (X ⟨w9.heap.size,0,O⟩) 0 0,iB iF])) (w9.alloc (iC #[] 254))):=⟨_,rfl,FR.1,FR.2⟩;clear k f j FR W9 O9 K z0 z1;go_wp2;refine az (bt rfl _ _ _) rfl ?_;rw[HE.o];exact FN.o
      |true=>
       obtain⟨aC,s,e8⟩:=K.o rfl;subst e8;obtain⟨ug,uc,rfl,aN⟩:=Uo O9.o;have a7:IntKind.i64.wrap (((l.length+1:Nat):Int)-1)=(l.length:Int):=by rw[cm];omega
       obtain⟨m,hm⟩:=aq l.length;obtain⟨n,T⟩:=aq (m+1);rw[hm,T]at a7;rw[hm]at aN;have bi:(0:Int)<=m:=by omega
       have bj:(m:Int)<n:=by omega
       have aS:=af hm;have bb:=af T;have a2:=af aC;rw[Ug]at f j;have aA:=af W9.o;rw[hm,T]at aA;obtain⟨sb,L⟩:=aq s.2.1;rw[L]at f j aN;rw[hm,T]at⊢;have be:m<=lf*M.length+i:=by omega
       clear hm T K aC L ag W9 ar;by_cases S:(sb==b)=iV
       ·have L:sb=b:=by simpa using S
        have HE:ah (R=([],iF)):=by show _=_;rw[k.o,f.o (by rw[L];simp)]
        clear L;have FR:=nS (B3.o.trans (B9.o.mono B3.o.size)) w9.heap.size rfl;have FN:ah (jt w ([],iF) (G (iU #[Y (X ⟨w9.heap.size,0,O⟩) 0 0,iB iF])) (w9.alloc (iC #[] 254))):=⟨_,rfl,FR.1,FR.2⟩;clear k f j FR O9 z0 z1;go_wp2;refine az (bt rfl _ _ _) rfl ?_;rw[HE.o];exact FN.o
       ·have aE:sb≠b:=by simpa using S
        have S:(sb==b)=iF:=by simpa using S
        have Q:=af (j.o (by simp[aE]))
        have bk:IntKind.i64.wrap (q+1)=q+1:=a2.o;clear f j k aE;go_wp2;go_roundw
        case rel=>
         refine⟨i+1,q+1,Y aa t.length Z,t,l++[s],_,rfl,by first|rfl|go_num,by go_num,by omega,by rw[aI];have:=aS.o;simp;omega,Q,?_⟩
         exact aA
        case measure=>simp[intOf];omega
    ·have Q:ah (eP b d.fH [] d.seq ((eh M row b (lf+1) 0).map an.fP)=X (bs,l,q)):=by show _=_;rw[<-XI (i:=i) (by omega)];exact a.o
     clear a;go_wp2;go_roundw
     case rel=>exact⟨lf+1,q,v,bs,l,_,rfl,rfl,by go_num,by omega,by rw[Nat.add_mul];omega,Q,H⟩
     case measure=>simp[intOf];omega
  ·have HE:ah (R=(l,iV)):=by
    show _=_;have:lf=4:=by omega
    subst this;rw[k.o,a.o]
   clear k a;go_wp2;refine az (bt rfl _ _ _) rfl ?_;rw[HE.o];exact⟨_,rfl,qW H.o.2.2.2.1 B3.o.size,B3.o.trans (H.o.1.mono B3.o.size)⟩
def nF(bs:List Nat)(n:Int):Option Nat:=if n<0 then O else bs[n.toNat]?
def i8(bs:List Nat)(i:Nat)(x:Kn):Lk:=if x.leaf=iV then⟨i,iV,x.fD,[O,O,O,O],iF⟩else⟨i,iF,[0,0,0,0],x.fD.map (nF bs),iF⟩
theorem VM(bs:List Nat)(i:Nat)(x:Kn):(i8 bs i x).place=i:=by unfold i8;split<;>rfl
theorem E3(bs:List Nat)(i:Nat)(x:Kn):(i8 bs i x).leaf=x.leaf:=by
 unfold i8;cases h:x.leaf with
 |true=>rfl
 |false=>rfl
def eH(bs:List Nat)(l:List Kn):List Lk:=l.mapIdx (i8 bs)
theorem ES(bs:List Nat)(l:List Kn):(eH bs l).length=l.length:=by simp[eH]
theorem tX(bs:List Nat)(l:List Kn)(i:Nat):(eH bs l)[i]?=(l[i]?).map (i8 bs i):=by rw[eH,Fb]
variable{l:List Kn}
theorem wW{bs:List Nat}{x:Kn}(h:l[i]?=X x):(eH bs l)[i]?=X (i8 bs i x):=by rw[tX,h];rfl
theorem WJ{bs:List Nat}{y:Lk}(h:(eH bs l)[i]?=X y):∃x,l[i]?=X x/\y=i8 bs i x:=by
 rw[tX,sk]at h;obtain⟨x,h1,a⟩:=h;exact⟨x,h1,a.symm⟩
theorem YG{bs:List Nat}:∀(i:Nat) (y:Lk),(eH bs l)[i]?=X y->y.place=i:=by
 intro i y h;obtain⟨x,-,rfl⟩:=WJ h;exact VM _ _ _
theorem xO(f:Int->Int):∀l:List Int,(l.map f==l)=l.all (λn=>f n==n)
 | []=>rfl
 |a::l=>by
  have:=xO f l;simp only[cB,List.all_cons,<-this];rfl
theorem YP{bs:List Nat}(b:bs.length=k)(c:k<=l.length)(n:Int):(gT bs (eH bs (l.take k)) n).isSome=(decide (0<=n)&&decide (n<k)&&jw l n):=by
 unfold gT;by_cases h0:n<0
 ·rw[ak h0,aV (by omega)];rfl
 ·rw[ai h0,aS (by omega:0<=n),gU,tX]
  by_cases h1:n<k
  ·have a:n.toNat<l.length:=by omega
   rw[aS h1,gU,zh,ak (by omega),ay a,pK (ay a)]
   simp only[fE,jd,E3];cases d:l[n.toNat].leaf with
   |true=>rw[ak rfl,ay (by omega)];rfl
   |false=>rfl
  ·rw[aV h1,lZ,zh,ai (by omega)]
   rfl
theorem WM{bs:List Nat}(a:bs.length=k)(b:k<=l.length)(x:Kn):nw bs (eH bs (l.take k)) x.leaf x.fD=gW l k x:=by
 rw[nw,gW];congr 1;rw[pV];cases c:x.leaf with
 |true=>
  rw[ak rfl,xO];refine List.all_congr rfl (λn=>?_)
  simp only[fb,nn,dF];by_cases h:n<0
  ·rw[ak h,aV (by omega)]
   simp;omega
  ·rw[ai h,aS (by omega)]
   simp
 |false=>
  rw[ai (by decide),xO]
  refine List.all_congr rfl (λn=>?_)
  simp only[fb,ge,fQ,YP a b];cases d:(decide (0<=n)&&decide (n<k)&&jw l n)with
  |true=>simp
  |false=>
   simp only[ge,fQ,yg];by_cases e:n= -1
   ·simp[e]
   ·rw[aV e,dk];exact λq=>e q.symm
theorem Tv{bs:List Nat}(x:Kn)(h:nw bs (eH bs (l.take k)) x.leaf x.fD=iV):oh bs (eH bs (l.take k)) k x.leaf x.fD=i8 bs k x:=by
 rw[nw,bu]at h;have a:=h.2;unfold pV at a;unfold oh i8;cases c:x.leaf with
 |true=>
  rw[c,ak rfl]at a;rw[ak rfl,ak rfl];rw[eq_of_beq a]
 |false=>
  rw[c,ai (by decide),xO,gY]at a
  rw[ai (by decide),ai (by decide)]
  congr 1;refine oY (λn f=>?_)
  have:=a n f;unfold nF;cases d:gT bs (eH bs (l.take k)) n with
  |none=>
   rw[d]at this;have e: -1=n:=by simpa using this
   rw[ak (by omega)]
  |some b=>
   obtain⟨h0,h1,-⟩:=Ix d;rw[ai (by omega),h1]
theorem VC{bs cs:List Nat}{n:Int}(h:n<bs.length):nF (bs++cs) n=nF bs n:=by
 unfold nF;split
 ·rfl
 ·rw[ip (by omega)]
theorem Ju{bs cs:List Nat}{x:Kn}(hi:i<=bs.length)(h:gW l i x=iV):i8 (bs++cs) i x=i8 bs i x:=by
 unfold i8;cases b:x.leaf with
 |true=>rfl
 |false=>
  rw[ai (by decide),ai (by decide)]
  congr 1;refine oY (λn c=>?_)
  obtain⟨k,a⟩:=iG c;have:=uU h a;rw[fb,b]at this;simp only[ge,fQ,ky,bu,bM]at this;exact VC (by omega)
theorem abK{bs cs:List Nat}(b:bs.length=k)(h:ji l k=iV):eH (bs++cs) (l.take k)=eH bs (l.take k):=by
 apply lH;intro i;rw[tX,tX];cases a:(l.take k)[i]? with
 |none=>rfl
 |some x=>
  have hi:=(aC.1 a).1;rw[cD]at hi;rw[zh,ak (by omega)]at a
  have:=Nb (show i+1<=k by omega) h
  rw[tH a,bu]at this;rw[fE,fE,Ju (by omega) this.2]
theorem WI{bs:List Nat}{x:Kn}(f:bs.length=k)(c:l[k]?=X x)(h:ji l (k+1)=iV):eH (bs++[b]) (l.take (k+1))=eH bs (l.take k)++[i8 bs k x]:=by
 have g:=(aC.1 c).1;have a:=h;rw[tH c,bu]at a;have e:l.take (k+1)=l.take k++[x]:=by rw[ft g,(aC.1 c).2]
 have d:(l.take k).length=k:=by rw[cD];omega
 have:=abK (cs:=[b]) f a.1;rw[e];show(l.take k++[x]).mapIdx _=_;rw[List.mapIdx_append,d];show eH (bs++[b]) (l.take k)++_=_;rw[this];simp only[List.mapIdx_cons,List.mapIdx_nil,eC];rw[Ju (by omega) a.2]
theorem QG{bs:List Nat}(h:bs.Pairwise (·<·))(f:∀c∈bs,c<b):(bs++[b]).Pairwise (·<·):=
 iE.2 ⟨h,mQ _ _,λa e c d=>by simp only[bU]at d;rw[d];exact f a e⟩
def Zu(W:iW)(lo:Nat)(v:iX)(bs:List Nat)(L:List Kn):Prop:=
 W.ownsRow lo 192 1 v L.length (pF bs)/\bs.length=L.length/\fA W bs (eH bs L)/\bs.Pairwise (·<·)/\∀b∈bs,lo<=b
theorem fA.grown{W y:iW}{bs:List Nat}{xs:List Lk}{row:Option Nat}(h:fA W bs xs)(d:W.grownBy y row)(f:∀g,row=X g->∃cs,W.heap[g]?=X (iC cs 192 (0,0))):fA y bs xs:=by
 refine⟨h.1,λi b x h1 c=>?_⟩
 have a:=h.2 i b x h1 c;refine⟨(d.block b a.lt (λe=>?_)).trans a.1,a.2⟩
 obtain⟨cs,q⟩:=f b e.symm;rw[a.1]at q;injection q with q
 injection q with _ q
 simp at q
theorem fA.snoc{W:iW}{bs:List Nat}{xs:List Lk}{x:Lk}(h:fA W bs xs)(f:cF W b x):fA W (bs++[b]) (xs++[x]):=by
 refine⟨by rw[aI,aI,h.1];rfl,λi c y h1 a=>?_⟩
 by_cases hi:i<bs.length
 ·rw[ip hi]at h1;rw[ip (by rw[<-h.1];exact hi)]at a
  exact h.2 i c y h1 a
 ·have d:=(aC.1 h1).1;rw[aI]at d;simp only[aW,dW]at d;have e:i=bs.length:=by omega
  subst e;simp at h1;rw[h.1]at a;simp at a;subst h1 a;exact f
theorem fA.all_lt{W:iW}{bs:List Nat}{xs:List Lk}(h:fA W bs xs):∀b∈bs,b<W.heap.size:=by
 intro b a;obtain⟨i,hi⟩:=iG a;have c:=(aC.1 hi).1;exact(h.2 i b _ hi (ay (by rw[<-h.1];exact c))).lt
def M5(w:iW)(L:List Kn)(e:Ending)(w':iW):Prop:=
 iL w.heap.size w w'/\((cj L=iV/\∃v bs,e=G (iU #[v,iB iV])/\Zu w' w.heap.size v bs L)∨(cj L=iF/\e=G (iU #[Y O 0 0,iB iF])))
def Ca(w W:iW)(z:Nat)(a c:iX)(L:List Kn)(k:Nat)(bs:List Nat):Prop:=
 W.heap[z]?=X (iC #[a] 30 (0,0))/\W.ownsRow z 192 1 c k (pF bs)/\bs.length=k/\fA W bs (eH bs (L.take k))/\bs.Pairwise (·<·)/\(∀b∈bs,z<=b)/\ji L k=iV/\iL z w W
theorem Ox(b:Nat):∀u∈ [ptr b],u.oneCell'=iV:=by
 intro u a;simp at a;subst a;rfl
theorem Vx(ad:Option Addr)(a cap:Nat)(rs:List Kw)(w:iW)(hl:a<=1048578)(h:dO w ad a rs):
 iK Tryz.prog 174 #[iA #[Y ad a cap]] w (M5 w (rs.map aE)):=by
 have N:ah (Ca w (w.alloc (iC #[Y ad a cap] 30)) w.heap.size (Y ad a cap) (Y O 0 0) (rs.map aE) 0 []):=
  ⟨aB w _,⟨rfl,.inl ⟨rfl,rfl⟩⟩,rfl,fA.nil _,List.Pairwise.nil,(λ_ h=>by cases h),rfl,aZ⟩
 have H:=af h;have H1:=af h.1;have j:=af (show(rs.map aE).length=a by rw[bm];exact h.1)
 have bx:=pA w (Y ad a cap);clear h;obtain⟨L,hL⟩:=aq (rs.map aE);have HL:=af hL;rw[hL]at N j⊢;clear hL;go_enter Tryz.func174,Tryz.ntmps174;go_wp2;obtain⟨z,hz⟩:=aq w.heap.size;have u:=af hz;rw[hz]at N⊢;clear hz bx;generalize w.alloc (iC #[Y ad a cap] 30)=wa at N⊢;go_loopw [4,12] (λfv iv W=>∃(k:Nat) (bs:List Nat),k<=a/\iv=I J k/\ah (Ca w W z (Y ad a cap) fv L k bs)) (λ_ iv _=>a-(intOf iv).toNat)
 case atStart=>exact⟨0,[],aJ _,rfl,N⟩
 case round=>
  obtain⟨k,bs,hk,rfl,d⟩:=hrel;clear N;by_cases am:(k:Int)<a
  ·obtain⟨r,hr⟩:∃r,rs[k]?=X r:=⟨_,ay (by have:=H1.o;omega)⟩
   obtain⟨b,V,e,hb⟩:=H.o.adr (by omega)
   subst e;have KR:=af (H.o.below (by rw[u.o];exact d.o.2.2.2.2.2.2.2))
   obtain⟨c0,c1⟩:=KR.o.cell hr;obtain⟨ka,kc,R,-,kr⟩:=KR.o.2.2.1 r (aL hr);have hx:L[k]?=X (aE r):=by rw[<-HL.o,bh,hr];rfl
   have HX:=af hx;obtain⟨lf,kv,ls⟩:=r;simp only at c0 c1 R kr;subst R;obtain⟨kl,Q⟩:=aq ls.length;rw[Q]at c1 kr;have KI:=af kr;have k0:(0:Int)<=k:=by omega
   obtain⟨fa,fc,n,F⟩:=kZ.of (bs:=bs) (by rw[d.o.2.2.1];exact d.o.2.1)
   rw[d.o.2.2.1]at n F;subst n;have m:=af (aT wr (iC #[iB lf,Y ka kl kc] 189));have C:=af (abq fa k fc bs (eH bs (L.take k)) lf ka kl kc ls (wr.alloc (iC #[iB lf,Y ka kl kc] 189)) (F.below m.o) (d.o.2.2.2.1.below m.o) YG (KI.o.below m.o));have ag:k<=L.length:=by have:=j.o;omega
   have K:ah (nw bs (eH bs (L.take k)) lf ls=gW L k ⟨lf,ls⟩):=WM d.o.2.2.1 ag ⟨lf,ls⟩;obtain⟨mk,D⟩:=aq (oh bs (eH bs (L.take k)) k lf ls);have EM:=af D;obtain⟨ok,p⟩:=aq (nw bs (eH bs (L.take k)) lf ls);rw[D,p]at C;rw[p]at K;have M:=af p;clear kr hr hb F Q hx D p;go_wp2_with fail;refine C.o.mono ?_;rintro e t ⟨v,rfl,b1,hv⟩;cases ok with
   |false=>
    have HB:ah (iL z w t):=d.o.2.2.2.2.2.2.2.trans ((m.o.trans (b1.mono m.o.size)).mono (by rw[<-u.o];exact d.o.2.2.2.2.2.2.2.size))
    have HA:ah (cj L=iF):=Aa HX.o K.o.symm;clear hv b1 C;go_wp2;go_ret2;exact⟨by rw[u.o];exact HB.o,.inr ⟨HA.o,rfl⟩⟩
   |true=>
    obtain⟨f,rfl,A,al⟩:=hv rfl;have ai:z<=wr.heap.size:=by rw[<-u.o];exact d.o.2.2.2.2.2.2.2.size
    have aj:=A.lt;have l:iL wr.heap.size wr t:=m.o.trans (b1.mono m.o.size);have an:=l.size;have ak:wr.heap.size<=f:=by have:=m.o.size;omega
    have BA:=af (aT t (iC #[ptr f] 192));have x:=af (bC (bC d.o.2.1 l) BA.o);have FA:ah (fA (t.alloc (iC #[ptr f] 192)) (bs++[f]) (eH (bs++[f]) (L.take (k+1)))):=by
     have hK:ji L (k+1)=iV:=by rw[tH HX.o,d.o.2.2.2.2.2.2.1,gU];exact K.o.symm
     have:=((d.o.2.2.2.1.below l).snoc A).below BA.o;rw[<-EM.o,Tv ⟨lf,ls⟩ M.o]at this;show fA _ _ _;rw[WI d.o.2.2.1 HX.o hK];exact this
    have ab:ah (ji L (k+1)=iV):=by show _=_;rw[tH HX.o,d.o.2.2.2.2.2.2.1,gU];exact K.o.symm
    have PW:ah ((bs++[f]).Pairwise (·<·)):=QG d.o.2.2.2.2.1 (λc B=>by have:=d.o.2.2.2.1.all_lt c B;omega)
    have ac:ah (∀b∈bs++[f],z<=b):=λc B=>by
     rcases bJ.1 B with B|B
     ·exact d.o.2.2.2.2.2.1 c B
     ·simp only[bU]at B;omega
    have HB:ah (iL z w (t.alloc (iC #[ptr f] 192))):=(d.o.2.2.2.2.2.2.2.trans (l.mono ai)).trans (BA.o.mono (by omega))
    have Z:ah ((t.alloc (iC #[ptr f] 192)).heap[z]?=X (iC #[Y (X ⟨b,V,O⟩) a cap] 30 (0,0))):=by
     have s:=(aK.1 d.o.1).1;exact(BA.o.block z (by omega)).trans ((l.block z s).trans d.o.1)
    have aa:ah (bs.length=k):=d.o.2.2.1;have U:z<=(t.alloc (iC #[ptr f] 192)).heap.size:=by simp;omega
    obtain⟨i0,P,S,s,T⟩:=bO Ho;have I0:=af P;have Y0:=af S;have Y1:=af s;have Y2:=af T;clear P S s T A l b1 hv C d m KI EM K M c0 c1;unfold ptr at*;go_wp2_with (at_builtin;refine cS _ rfl _ _ 240 rfl z 192 i0 (iP O) 1 8 Tryz.underlying240 I0.o Y0.o Y1.o Y2.o rfl (by decide) _ _ _ rfl x.o ⟨t.heap.size,0,O⟩ 1 1 [iP (X ⟨f,0,O⟩)] rfl rfl (lS _ _ _) (Ox _) ?c1 ?c2 ?c3 ?_)
    case c1=>unfold maxLen;omega
    case c2=>omega
    case c3=>exact U
    intro u' y ho hg _;have E:y.ownsRow z 192 1 u' (k+1) (pF (bs++[f])):=by rw[<-Tl];exact ho
    have i:∀g,(Y fa k fc).ownBlock=X g->z<=g/\∃cs,(t.alloc (iC #[iP (X ⟨f,0,O⟩)] 192)).heap[g]?=X (iC cs 192 (0,0)):=λg ae=>by
     obtain⟨q1,-,q2⟩:=nL x.o g ae;exact⟨q1,q2⟩
    have ST:ah (Ca w y z (Y (X ⟨b,V,O⟩) a cap) u' L (k+1) (bs++[f])):=by
     refine⟨?_,E,by rw[aI,aa.o];rfl,FA.o.grown hg (λg e=>(i g e).2),PW.o,ac.o,ab.o,HB.o.grown hg U (λg e=>(i g e).1)⟩
     refine(hg.block z (aK.1 Z.o).1 (λe=>?_)).trans Z.o
     obtain⟨-,cs,q⟩:=i z e.symm;rw[Z.o]at q;injection q with q
     injection q with _ q
     simp at q
    obtain⟨ua,uc,hu,-⟩:=(aG.of E).form;subst hu;clear ho E hg i x FA HB Z;go_wp2;go_roundw
    case rel=>exact⟨k+1,bs++[f],by omega,by go_num,ST⟩
    case measure=>simp[intOf];omega
  ·have ek:k=a:=by omega
   subst ek;have HF:ah (M5 w L (G (iU #[u4,iB iV])) wr):=by
    obtain⟨-,h2,h3,h4,h5,h6,h7,h8⟩:=d.o;rw[ci (by have:=j.o;omega)]at h4
    have e:cj L=iV:=by rw[cj,j.o];exact h7
    exact⟨by rw[u.o];exact h8,.inl ⟨e,u4,bs,rfl,by rw[j.o,u.o];exact h2,by rw[j.o];exact h3,h4,h5,λb hb=>by rw[u.o];exact h6 b hb⟩⟩
   obtain⟨fa,fc,n,-⟩:=kZ.of (bs:=bs) (by rw[d.o.2.2.1];exact d.o.2.1)
   clear d;subst n;go_wp2;go_ret2;exact HF.o
def Ag(W:iW)(b:Nat)(bs:List Nat)(L:List Kn)(r:Int):Prop:=
 fA W bs (eH bs L)/\((r= -1/\cF W b AE)∨∃(m:Nat) (x:Kn),r=(m:Int)/\bs[m]?=X b/\L[m]?=X x/\x.leaf=iF)
theorem OL{L:List Kn}(h:bB L r=iF):r≠-1/\(r<0∨(L.length:Int)<=r∨∃x,L[r.toNat]?=X x/\x.leaf=iV):=by
 unfold bB at h;simp only[Bool.or_eq_false_iff,rA,Ka,Bool.not_eq_false']at h;refine⟨h.1,?_⟩;rcases h.2 with(h|h)|h
 ·exact .inl (by omega)
 ·exact .inr (.inl (by omega))
 ·obtain⟨y,hy,a⟩:=DW h;exact .inr (.inr ⟨y,hy,a⟩)
theorem UH{L:List Kn}(h:bB L r=iV):r= -1∨∃(m:Nat) (x:Kn),r=(m:Int)/\L[m]?=X x/\x.leaf=iF:=by
 by_cases h0:r= -1
 ·exact .inl h0
 ·have h1:0<=r:=by
   unfold bB at h;simp only[ky,bu,bM]at h;omega
  obtain⟨x,b,a⟩:=lj h h1;exact .inr ⟨r.toNat,x,by omega,b,a⟩
def P9(w:iW)(bs:List Nat)(L:List Kn)(r:Int)(e:Ending)(w':iW):Prop:=
 iL w.heap.size w w'/\((bB L r=iV/\∃b,e=G (ptr b)/\Ag w' b bs L r/\(r= -1->w.heap.size<=b))∨(bB L r=iF/\e=G (iP O)))
theorem O4(b:Option Addr)(n c:Nat)(bs:List Nat)(L:List Kn)(r:Int)(w:iW)(j:kZ w b n bs)(a:fA w bs (eH bs L)):
 iK Tryz.prog 175 #[Y b n c,I J r] w (P9 w bs L r):=by
 cases d:bB L r with
 |true=>
  rcases UH d with rfl|⟨m,x,rfl,g,f⟩
  ·refine(WY (Y b n c) w).mono ?_;rintro e w' ⟨rfl,i,k⟩;exact⟨k,.inl ⟨d,_,rfl,⟨a.below k,.inl ⟨rfl,i⟩⟩,λ_=>am _⟩⟩
  ·have l:m<bs.length:=by rw[a.1,ES];exact(aC.1 g).1
   refine(QW b n c bs (eH bs L) m _ (i8 bs m x) w j a (wW g) (ay l) (by rw[E3];exact f)).mono ?_
   rintro e w' ⟨rfl,rfl⟩;exact⟨ax _ _,.inl ⟨d,_,rfl,⟨a,.inr ⟨m,x,rfl,ay l,g,f⟩⟩,λh=>by omega⟩⟩
 |false=>
  obtain⟨h1,o⟩:=OL d;have f:(L.length:Int)=n:=by have:=j.1;have:=a.1;rw[ES]at this;omega
  refine(YH b n c bs (eH bs L) r w j a h1 ?_).mono ?_
  ·rcases o with h|h|⟨x,g,f⟩
   ·exact .inl h
   ·exact .inr (.inl (by omega))
   ·exact .inr (.inr ⟨_,wW g,by rw[E3];exact f⟩)
  ·rintro e w' ⟨rfl,rfl⟩;exact⟨ax _ _,.inr ⟨d,rfl⟩⟩
theorem Rv(b:Nat)(bs:List Nat)(L:List Kn)(r:Int)(s:Nat)(w:iW)(hs:s<=15)(p:cj L=iV)(h:Ag w b bs L r):
 iK Tryz.prog 134 #[ptr b,I J s] w λe w'=>e=G (I J (cG L r s))/\w'=w:=by
 have z:s/4<4:=by omega
 have C:s % 4<4:=by omega
 obtain⟨j,⟨rfl,a⟩|⟨m,x,rfl,A,o,q⟩⟩:=h
 ·refine Eo b AE s _ w hs a (.inl ⟨s/4,rfl,?_,?_⟩)
  ·match s/4,z with
   |0,_|1,_|2,_|3,_=>rfl
  ·exact ak (by omega)
 ·have a:=j.2 m b _ A (wW o);have l:i8 bs m x=⟨m,iF,[0,0,0,0],x.fD.map (nF bs),iF⟩:=by unfold i8;rw[ai (by rw[q];decide)]
  obtain⟨n,t,B⟩:=lO p (r:=(m:Int)) (by rw[bi];exact o) q z
  have g:dQ L (m:Int) (s/4)=n:=ie (by rw[bi];exact o) t
  have c:(i8 bs m x).tos[s/4]?=X (nF bs n):=by
   rw[l];show(x.fD.map (nF bs))[s/4]?=_;rw[bh,t];rfl
  rcases B with rfl|⟨h0,h1,y,hy,i,-⟩
  ·refine Eo b _ s _ w hs a (.inl ⟨s/4,rfl,c,?_⟩);rw[cG,ai (by omega),g,ak (by omega)]
  ·obtain⟨v,u,-⟩:=xL p hy i C;have f:n.toNat<bs.length:=by rw[j.1,ES];exact(aC.1 hy).1
   have k:nF bs n=X bs[n.toNat]:=by rw[nF,ai (by omega),ay f]
   rw[k]at c;have d:=j.2 n.toNat _ _ (ay f) (wW hy);have e:cG L (m:Int) s=v:=by rw[cG,ai (by omega),g,ai (by omega),ie hy u]
   rw[e];refine Eo b _ s v w hs a (.inr ⟨_,_,c,d,?_⟩);unfold i8;rw[ak i];exact u
def OX(w:iW)(L:List Kn)(r:Int)(e:Ending)(w':iW):Prop:=
 iL w.heap.size w w'/\((cj L=iV/\bB L r=iV/\∃b bs,e=G (ptr b)/\Ag w' b bs L r)∨((cj L&&bB L r)=iF/\e=G (iP O)))
theorem Re(ad:Option Addr)(a cap:Nat)(rs:List Kw)(r:Int)(w:iW)(C:a<=1048578)(h:dO w ad a rs):
 iK Tryz.prog 132 #[iA #[Y ad a cap],I J r] w (OX w (rs.map aE) r):=by
 have y:=pA w (Y ad a cap);have k:=af (aT w (iC #[Y ad a cap] 30));have H:=af (h.below k.o);clear h;go_enter Tryz.func132,Tryz.ntmps132;go_wp2_with fail;refine(Vx ad a cap rs _ C H.o).mono ?_;rintro e s ⟨n,h1⟩;have l:ah (iL w.heap.size w s):=k.o.trans (n.mono k.o.size);clear n;rcases h1 with⟨d,v,bs,rfl,j⟩|⟨d,rfl⟩
 ·have i:=af d;have t:=af j;obtain⟨z,A,rfl,g⟩:=kZ.of (bs:=bs) (by rw[j.2.1];exact j.1)
  have u:=af g;clear d j g y;go_wp2_with fail;refine(O4 z _ A bs (rs.map aE) r s u.o t.o.2.2.1).mono ?_;rintro e D ⟨p,B⟩;have c:ah (iL w.heap.size w D):=l.o.trans (p.mono l.o.size);clear p;rcases B with⟨f,b,rfl,q,-⟩|⟨f,rfl⟩
  ·have m:=af f;have x:=af q;clear f q;unfold ptr;go_wp2;go_ret;exact⟨c.o,.inl ⟨i.o,m.o,b,bs,rfl,x.o⟩⟩
  ·have m:=af f;clear f;go_wp2;go_ret;exact⟨c.o,.inr ⟨by rw[i.o,m.o];rfl,rfl⟩⟩
 ·have i:=af d;clear d;go_wp2;go_ret;exact⟨l.o,.inr ⟨by rw[i.o];rfl,rfl⟩⟩
theorem Qh(s:Int)(w:iW):iK Tryz.prog 133 #[I J s] w λe w'=>e=G (iB (decide (0<=s/\s<=15)))/\w'=w:=by
 by_cases h0:0<=s
 ·by_cases h1:s<=15
  ·rw[aS ⟨h0,h1⟩];go_enter Tryz.func133,Tryz.ntmps133;go_wp2;go_ret;exact⟨rfl,rfl⟩
  ·rw[aV (λh=>h1 h.2)]
   go_enter Tryz.func133,Tryz.ntmps133;go_wp2;go_ret;exact⟨rfl,rfl⟩
 ·rw[aV (λh=>h0 h.1)]
  go_enter Tryz.func133,Tryz.ntmps133;go_wp2;go_ret;exact⟨rfl,rfl⟩
theorem Wy:Rr 92:=by
 intro ad c cap rs r s w z h;have x:=pA w (Y ad c cap);have f:=af (aT w (iC #[Y ad c cap] 30));have H:=af (h.below f.o);clear h;obtain⟨L,i⟩:=aq (rs.map aE);have p:=af i;rw[i];clear i;go_enter Tryz.func92,Tryz.ntmps92;go_wp2_with fail;refine(Re ad c cap rs r _ z H.o).mono ?_;rw[p.o];rintro e n ⟨k,h1⟩;have g:ah (iL w.heap.size w n):=f.o.trans (k.mono f.o.size);clear k;rcases h1 with⟨d,l,b,bs,rfl,m⟩|⟨d,rfl⟩
 ·have j:=af d;have u:=af l;have v:=af m;clear d l m x;unfold ptr;go_wp2_with fail;refine(Qh s n).mono ?_;rintro e B ⟨rfl,rfl⟩;by_cases a:0<=s/\s<=15
  ·have E:ah (dZ L r s=cG L r s.toNat):=ak (by rw[jJ,j.o,u.o,aS a.1,aS a.2];rfl)
   rw[aS a];obtain⟨t,rfl⟩:∃t:Nat,s=(t:Int):=⟨s.toNat,by omega⟩
   simp only[bi]at E;have A:t<=15:=by omega
   clear a;go_wp2_with fail;refine(Rv b bs L r t B A j.o v.o).mono ?_;rintro e C ⟨rfl,rfl⟩;go_wp2;go_ret;exact⟨congrArg (λq=>Ending.returned (I J q)) E.o.symm,g.o⟩
  ·have E:ah (dZ L r s=0):=ai (by
    rw[jJ];simp only[bu,bM];rintro⟨-,h1,y⟩;exact a ⟨h1,y⟩)
   rw[aV a];clear a;go_wp2;go_ret;exact⟨congrArg (λq=>Ending.returned (I J q)) E.o.symm,g.o⟩
 ·have E:ah (dZ L r s=0):=ai (by rw[jJ,d];simp)
  clear d;go_wp2;go_ret;exact⟨congrArg (λq=>Ending.returned (I J q)) E.o.symm,g.o⟩
def mj(W:iW)(a:iX)(b:Nat)(o:Obj):Prop:=W.heap[b]?=X o/\a.ownBlock≠X b
theorem mj.lt{W:iW}{a:iX}{o:Obj}(h:mj W a b o):b<W.heap.size:=(aK.1 h.1).1
theorem mj.below{W W':iW}{a:iX}{o:Obj}(h:mj W a b o)(c:iL W.heap.size W W'):mj W' a b o:=⟨(c.block b h.lt).trans h.1,h.2⟩
theorem mj.grown{W a y:iW}{c u:iX}{o:Obj}(h:mj W c b o)(f:iL W.heap.size W a)(g:a.grownBy y c.ownBlock)(i:u.ownBlock=c.ownBlock∨∃q,u.ownBlock=X q/\a.heap.size<=q):mj y u b o:=by
 have h1:=h.below f;refine⟨(g.block b h1.lt (λe=>h.2 e.symm)).trans h1.1,?_⟩
 rcases i with e|⟨q,e,j⟩
 ·rw[e];exact h.2
 ·rw[e];intro d;injection d with d
  have:=h1.lt;omega
theorem mj.cell{W:iW}{a:iX}{b k:Nat}{cs:Array iX}{t:TypeId}{v:iX}(h:mj W a b (iC cs t (0,0)))(c:cs[k]?=X v):W.cell? ⟨b,k,O⟩=X v:=by
 rw[aj _ _ k _ _ _ h.1];exact c
theorem J9(W:iW)(a b c d:Int)(g:Nat)(f:W.heap.size=g):∀(j:Nat) (u:iX),[I J a,I J b,I J c,I J d][j]?=X u->(W.alloc (iC #[I J a,I J b,I J c,I J d] 110)).cell? ((⟨g,0,O⟩:Addr).add j)=X u:=by
 intro j u e;subst f;rw[fh,aj _ _ j _ _ _ (aB W (iC #[I J a,I J b,I J c,I J d] 110))]
 match j,e with
 |0,e|1,e|2,e|3,e=>simpa using e
theorem IZ(a b c d:Int):∀u∈ [I J a,I J b,I J c,I J d],u.oneCell'=iV:=by
 intro u e;simp at e;rcases e with h|h|h|h<;>subst h<;>rfl
theorem Za(acc:List Rc)(a b c d:Int):ch (acc.map Rc.tu)++[I J a,I J b,I J c,I J d]=ch ((acc++[(⟨a,b,c,d⟩:Rc)]).map Rc.tu):=by
 rw[gV,Je];rfl
def oM(s:Sto)(k:Nat):List Rc:=⟨1,0,s.next,0⟩::(s.fV.take k).flatMap (qu s.fK)
variable{s:Sto}
theorem Pl(h:s.fV[k]?=X v):oM s (k+1)=(oM s k++[(⟨2,v.1,0,0⟩:Rc)])++km v.1 (bW s.fK v.2) 16:=by
 obtain⟨h1,a⟩:=aC.1 h;rw[oM,oM,ft h1,a,tj];simp[qu]
def m7(w W:iW)(z:Nat)(b:Array iX)(a:iX)(l:List Rc):Prop:=W.ownsRow (w.heap.size+1) 110 4 a l.length (ch (l.map Rc.tu))/\iL w.heap.size w W/\mj W a z (iC b 32 (0,0))
theorem m7.below{w W W':iW}{b:Array iX}{c:iX}{l:List Rc}(h:m7 w W z b c l)(a:iL W.heap.size W W'):m7 w W' z b c l:=⟨bC h.1 a,h.2.1.trans (a.mono h.2.1.size),h.2.2.below a⟩
theorem m7.snoc{w W e y:iW}{g:Array iX}{f u:iX}{l:List Rc}{a b d:Int}(h:m7 w W z g f l)(i:iL W.heap.size W e)(k:y.ownsRow (w.heap.size+1) 110 4 u (l.length+1) (ch (l.map Rc.tu)++[I J a,I J b,I J c,I J d]))(j:e.grownBy y f.ownBlock)(n:u.ownBlock=f.ownBlock∨∃q,u.ownBlock=X q/\e.heap.size<=q):m7 w y z g u (l++[⟨a,b,c,d⟩]):=by
 have h1:=h.below i;rw[Za]at k;exact⟨by rw[aI];exact k,h1.2.1.grown j h1.2.1.size (λq m=>by have:=(h1.1.lt q m).1;omega),h.2.2.grown i j n⟩
theorem m7.lt{w W:iW}{b:Array iX}{a:iX}{l:List Rc}(h:m7 w W z b a l):∀q,a.ownBlock=X q->q<W.heap.size:=λq c=>(h.1.lt q c).2
def Uf(a:Array iX)(L:List Int):Prop:=∀(k:Nat) (x:Int),L[k]?=X x->a[k]?=X (I J x)
theorem ZJ{W:iW}{v:iX}{L:List Int}(h:W.ownsRow B 3 1 v n (aD L))(h0:0<n):∃b cap a,v=Y (X ⟨b,0,O⟩) n cap/\B<=b/\W.heap[b]?=X (iC a 3 (0,0))/\Uf a L:=by
 have e:=h;rcases h.2 with⟨rfl,q⟩|⟨g,cap,a,rfl,d,c,h4,i,j,l⟩
 ·omega
 ·refine⟨g,cap,a,rfl,d,c,λk x f=>?_⟩
  have:=e.cells (g:=g) rfl k _ (kB f);rw[fh,aj _ _ k _ _ _ c]at this;exact this
theorem abp (w:World) {o:Oper} {Q:Exit->Act->World->Prop} (A:o.guard=none) (s x:Operand) (t:TypeId)
 (I:o.op=.call {callee:=.builtin .append,args:= #[s,x],argTypes:= #[t,t]})
 (base:Nat) (e:TypeId) (i:TypeInfo) (z:Value) (size d:Nat) (L:P.underlying t=some (.slice e)) (hi:P.info? e=some i) (O:i.zero=some z)
 (l:i.size=size) (y:i.bytes=d) (C:z.cells.size=size) (B:0<size)
 (v:Value) (n:Nat) (xs:List Value) (hs:a.eval s=v) (q:w.ownsRow base e size v n xs)
 (ad:Addr) (m c:Nat) (b:List Value) (N:a.eval x=.slice (some ad) m c) (H:b.length=m*size) (k:∀j u,b[j]?=some u->w.cell? (ad.add j)=some u) (h1:∀u∈b,u.oneCell'=true)
 (r:n+m<=maxLen) (f:(n+m)*d<=140737488355328) (g:base<=w.heap.size)
 (h:∀p w',w'.ownsRow base e size p (n+m) (xs++b)->w.grownBy w' v.ownBlock->(p.ownBlock=v.ownBlock∨p.ownBlock=some w.heap.size)->K (a.put o.dst p) w'):
 if Region.wanted o (yielded ops a.tmps)=true then Oper.wp P o a w K Q else E:=by
 have M:Region.wanted o (yielded ops a.tmps)=true:=by simp[Region.wanted,A]
 rw[ak M];obtain⟨p,w',J,D,F,_,G⟩:=run_append_own_at (P:=P) w base t o.type e i z size d L hi O l y C B v n xs q ad m c b H k h1 r f g;unfold Oper.wp execOp;simp only[I,resolve,invoke,builtin,vI,wX,uJ,wZ,cB,oU,hs,N,J];exact h p w' D F G
theorem abY(a:List Kn):∀vs:List (Int×Int),(vs.flatMap (qu a)).length<=17*vs.length:=by
 intro vs
 induction vs with
 |nil=>simp
 |cons v vs b=>
  have h1:(km v.1 (bW a v.2) 16).length<=16:=by
   unfold km;exact bV (yw _ _) (by simp)
  simp only[nT,aI,aW,qu];omega
theorem PX(s:Sto):(iu s).length<=1+17*s.fV.length:=by
 have:=abY s.fK s.fV;simp only[iu,aW];omega
def sT(w W:iW)(z:Nat)(d:Array iX)(b:iX)(l:List Rc)(c:Nat)(a:Array iX):Prop:=m7 w W z d b l/\mj W b c (iC a 3 (0,0))
theorem sT.snoc{w W f y:iW}{i:Nat}{j e:Array iX}{g u:iX}{l:List Rc}{a b d:Int}(h:sT w W z j g l i e)(k:iL W.heap.size W f)(o:y.ownsRow (w.heap.size+1) 110 4 u (l.length+1) (ch (l.map Rc.tu)++[I J a,I J b,I J c,I J d]))(m:f.grownBy y g.ownBlock)(n:u.ownBlock=g.ownBlock∨∃q,u.ownBlock=X q/\f.heap.size<=q):sT w y z j u (l++[⟨a,b,c,d⟩]) i e:=⟨h.1.snoc k o m n,h.2.grown k m n⟩
theorem Pa:VP 211:=by
 rintro v s w ⟨F,f,vc,ad,d,cap,rs,rfl,ab,aP,hl,aj,aG,h,hk⟩;have HV:=af h;have T:=af h.1;have HK:=af hk;have aw:=af ab;obtain⟨nx,K⟩:=aq s.next;have az:=af K;obtain⟨i0,hi,an,ap,ar⟩:=bO zN;have I0:=af hi;have Y0:=af an;have Y1:=af ap;have Y2:=af ar;have B0:=af (aT w (.cells #[.slice F f vc,.slice ad d cap,.int .i64 nx] 32));have R0:=af (aB w (.cells #[.slice F f vc,.slice ad d cap,.int .i64 nx] 32));have N:=af (show(w.alloc (.cells #[.slice F f vc,.slice ad d cap,.int .i64 nx] 32)).heap.size=w.heap.size+1 by simp)
 unfold eA;rw[K];clear h hk aj aG ab K hi an ap ar;go_enter Tryz.func211,Tryz.ntmps211;go_wp2_with fail;generalize w.alloc (.cells #[.slice F f vc,.slice ad d cap,.int .i64 nx] 32)=wb at B0 R0 N⊢;have B1:=af (aT wb (.cells #[.int .i64 1,.int .i64 0,.int .i64 nx,.int .i64 0] 110));have X:ah (m7 w (wb.alloc (.cells #[.int .i64 1,.int .i64 0,.int .i64 nx,.int .i64 0] 110)) w.heap.size #[.slice F f vc,.slice ad d cap,.int .i64 nx] (.slice (some ⟨w.heap.size+1,0,none⟩) 1 1) [⟨1,0,nx,0⟩]):=by
  refine⟨?_,B0.o.trans (B1.o.mono B0.o.size),(B1.o.block w.heap.size (by have:=N.o;omega)).trans R0.o,λe=>?_⟩
  ·rw[<-N.o];exact⟨rfl,.inr ⟨wb.heap.size,1,_,rfl,by have:=N.o;omega,aB wb _,am _,by unfold maxLen;omega,rfl,rfl⟩⟩
  ·have:=N.o;simp only[Value.ownBlock,fq]at e;omega
 generalize wb.alloc (.cells #[.int .i64 1,.int .i64 0,.int .i64 nx,.int .i64 0] 110)=w1 at B1 X⊢;have aH:=af (show w.heap.size+1=wb.heap.size from N.o.symm);obtain⟨z,hz⟩:=aq w.heap.size;have aI:=af hz;rw[hz]at X⊢;clear hz;have aC:w1.cell? ⟨z,0,none⟩=some (.slice F f vc):=X.o.2.2.cell rfl;go_wp2_with fail;go_loopw [3,4] (λO kv W=>∃(k:Nat) (l:List Rc),k<=f/\kv=.int .i64 k/\l.length<=17*k+1/\ah (l=oM s k)/\ah (m7 w W z #[.slice F f vc,.slice ad d cap,.int .i64 nx] O l)) (λ_ kv _=>f-(intOf kv).toNat)
 case atStart=>exact⟨0,[⟨1,0,nx,0⟩],aJ _,rfl,am _,(by rw[<-az.o];rfl:[⟨1,0,nx,0⟩]=oM s 0),X⟩
 case round=>
  obtain⟨k,l,aM,rfl,aj,HL,y⟩:=hrel;clear X aC;by_cases aO:(k:Int)<f
  ·obtain⟨v,hv⟩:∃v,s.fV[k]?=some v:=⟨_,ay (by have:=T.o;omega)⟩
   obtain⟨b,a,e,hb,A,c1⟩:=(HV.o.below y.o.2.1).at hv;subst e;have k0:(0:Int)<=k:=by omega
   have p:=af (Pl hv);obtain⟨c,y1⟩:=v;simp only at A c1 p;have C:=af (aT wr (.cells #[.int .i64 2,.int .i64 c,.int .i64 0,.int .i64 0] 110));have V:=af (bC y.o.1 C.o);have r:ah (w.heap.size+1<=(wr.alloc (.cells #[.int .i64 2,.int .i64 c,.int .i64 0,.int .i64 0] 110)).heap.size):=by
    have:=y.o.2.1.size;show _<=_;simp;omega
   have P:=af (J9 wr 2 c 0 0 wr.heap.size rfl);have z0:wr.cell? ⟨z,0,none⟩=some (.slice (some ⟨b,a,none⟩) f vc):=y.o.2.2.cell rfl;go_wp2_with (at_builtin;refine rS _ rfl _ _ 57 rfl (w.heap.size+1) 110 i0 (.agg #[.int .i64 0,.int .i64 0,.int .i64 0,.int .i64 0]) 4 32 Tryz.underlying57 I0.o Y0.o Y1.o Y2.o rfl (by decide) _ _ _ rfl V.o ⟨wr.heap.size,0,none⟩ 1 1 [Value.int .i64 2,Value.int .i64 c,Value.int .i64 0,Value.int .i64 0] rfl rfl P.o (IZ _ _ _ _) ?c1 ?c2 ?c3 ?_)
   case c1=>unfold maxLen;omega
   case c2=>omega
   case c3=>exact r.o
   intro u2 G o2 g2 _ hu;have al:u2.ownBlock=u3.ownBlock∨∃q,u2.ownBlock=some q/\(wr.alloc (.cells #[.int .i64 2,.int .i64 c,.int .i64 0,.int .i64 0] 110)).heap.size<=q:=by
    rcases hu with e|e
    ·exact .inl e
    ·exact .inr ⟨_,e,by simp⟩
   have D:=af (y.o.snoc C.o o2 g2 al);clear o2 g2 hu al V r P C A c1 y z0;have d0:G.cell? ⟨z,0,none⟩=some (.slice (some ⟨b,a,none⟩) f vc):=D.o.2.2.cell rfl;have d1:G.cell? ⟨z,1,none⟩=some (.slice ad d cap):=D.o.2.2.cell rfl;obtain⟨b',E,t,aE,A,c1⟩:=(HV.o.below D.o.2.1).at hv;injection t with t
   injection t with e1 e2
   subst e1 e2;simp only at A c1;have l0:=bk G _ d0;have l1:=bk G _ d1;have l2:=bk G _ c1;have CA:=af (xQ ad d cap rs y1 G.drew (by omega) (HK.o.below D.o.2.1.drew))
   rw[<-aw.o]at CA;have B:(bW s.fK y1).length=16:=qA _ _;obtain⟨L,hL⟩:=aq (bW s.fK y1);rw[hL]at CA B p;have aF:(l++[(⟨2,c,0,0⟩:Rc)]).length<=17*k+2:=by simp;omega
   have R:ah (l++[(⟨2,c,0,0⟩:Rc)]=oM s k++[⟨2,c,0,0⟩]):=by show _=_;rw[HL.o]
   generalize l++[(⟨2,c,0,0⟩:Rc)]=i at D aF R;clear hL;have S:=af hv;clear hv;go_wp2;go_region_held3 (λw'=>w'.cell? ⟨z,0,none⟩=some (.slice (some ⟨b,a,none⟩) f vc)/\w'.cell? ⟨z,1,none⟩=some (.slice ad d cap)/\w'.cell? ⟨b,a+k*2+1,none⟩=some (.int .i64 y1)) (first|exact⟨d0,d1,c1⟩|exact U.o) ((go_at_call 30;(with_reducible refine cn CA.o ?_);rintro en w3 ⟨av,rfl,ao,Y⟩;have U:ah (w3.cell? ⟨z,0,none⟩=some (.slice (some ⟨b,a,none⟩) f vc)/\w3.cell? ⟨z,1,none⟩=some (.slice ad d cap)/\w3.cell? ⟨b,a+k*2+1,none⟩=some (.int .i64 y1)):=⟨(Y.cell l0).trans d0,(Y.cell l1).trans d1,(Y.cell l2).trans c1⟩))
   rw[B]at ao;obtain⟨I,ac,J,rfl,aD,Z,aa⟩:=ZJ ao (by omega)
   have S3:ah (sT w w3 z #[.slice (some ⟨b,a,none⟩) f vc,.slice ad d cap,.int .i64 nx] u2 i I J):=⟨(D.o.below (ax _ _).drew).below Y,Z,λe=>by have:=D.o.lt _ e;have h9:G.drew.heap.size=G.heap.size:=rfl;omega⟩
   have HN:=af aa;have au:=af B;clear ao aD Z aa Y CA D U A c1 d0 d1 l0 l1 l2 B;go_wp2;go_loopw [3,6] (λO jv W=>∃(j:Nat) (m:List Rc),j<=16/\jv=.int .i64 j/\m.length<=17*k+2+j/\ah (m=i++km c L j)/\ah (sT w W z #[.slice (some ⟨b,a,none⟩) f vc,.slice ad d cap,.int .i64 nx] O m I J)) (λ_ jv _=>16-(intOf jv).toNat)
   case atStart=>exact⟨0,i,aJ _,rfl,by omega,(by simp[km]:i=i++km c L 0),S3⟩
   case round=>
    obtain⟨j,m,hj,rfl,aN,H,g⟩:=hrel;clear S3;by_cases aL:(j:Int)<16
    ·obtain⟨x,hx⟩:∃x,L[j]?=some x:=⟨_,ay (by have:=au.o;omega)⟩
     have cx:wr.cell? ⟨I,j,none⟩=some (.int .i64 x):=g.o.2.cell (HN.o j x hx);have z0:wr.cell? ⟨z,0,none⟩=some (.slice (some ⟨b,a,none⟩) f vc):=g.o.1.2.2.cell rfl;obtain⟨b',E,t,aE,A,-⟩:=(HV.o.below g.o.1.2.1).at S.o;injection t with t
     injection t with e1 e2
     subst e1 e2;simp only at A;have FT:ah (km c L (j+1)=km c L j++(if 0<x then[⟨4,c,(j:Int),x⟩]else[])):=by
      show _=_;rw[Ll,hx];rfl
     have j0:(0:Int)<=j:=by omega
     have HX:=af hx;clear hx;by_cases aK:1<=x
     ·have n:ah (m++[(⟨4,c,(j:Int),x⟩:Rc)]=i++km c L (j+1)):=by
       show _=_;rw[FT.o,ak (by omega),<-fW,<-H.o]
      have C:ah (Below wr.heap.size wr (wr.alloc (.cells #[.int .i64 4,.int .i64 c,.int .i64 j,.int .i64 x] 110)).drew):=(aZ).drew;have V:=af (bC g.o.1.1 C.o);have r:ah (w.heap.size+1<=(wr.alloc (.cells #[.int .i64 4,.int .i64 c,.int .i64 j,.int .i64 x] 110)).drew.heap.size):=by
       have:=g.o.1.2.1.size;have h9:(wr.alloc (.cells #[.int .i64 4,.int .i64 c,.int .i64 j,.int .i64 x] 110)).drew.heap.size=wr.heap.size+1:=by simp[World.drew]
       show _<=_;omega
      have P:ah (∀(q:Nat) (u:Value),[Value.int .i64 4,Value.int .i64 c,Value.int .i64 j,Value.int .i64 x][q]?=some u->(wr.alloc (.cells #[.int .i64 4,.int .i64 c,.int .i64 j,.int .i64 x] 110)).drew.cell? ((⟨wr.heap.size,0,none⟩:Addr).add q)=some u):=J9 wr 4 c j x wr.heap.size rfl;have z1:=bk wr _ z0;have z2:=bk wr _ A;have z3:=bk wr _ cx;have KZ:ah (∀(W:World) (O:Value),sT w W z #[.slice (some ⟨b,a,none⟩) f vc,.slice ad d cap,.int .i64 nx] O (m++[(⟨4,c,(j:Int),x⟩:Rc)]) I J->W.cell? ⟨z,0,none⟩=some (.slice (some ⟨b,a,none⟩) f vc)/\W.cell? ⟨b,a+k*2,none⟩=some (.int .i64 c)/\W.cell? ⟨I,j,none⟩=some (.int .i64 x)):=by
       intro W O hW;refine⟨hW.1.2.2.cell rfl,?_,hW.2.cell (HN.o j x HX.o)⟩;obtain⟨b',E,t,-,c9,-⟩:=(HV.o.below hW.1.2.1).at S.o;injection t with t
       injection t with e1 e2
       subst e1 e2;exact c9
      go_wp2;go_region_held3 (λw'=>w'.cell? ⟨z,0,none⟩=some (.slice (some ⟨b,a,none⟩) f vc)/\w'.cell? ⟨b,a+k*2,none⟩=some (.int .i64 c)/\w'.cell? ⟨I,j,none⟩=some (.int .i64 x)) (first|go_keep|exact U.o) ((refine abp _ (by rfl) (.tmp 48) (.tmp 61) 57 (by rfl) (w.heap.size+1) 110 i0 (.agg #[.int .i64 0,.int .i64 0,.int .i64 0,.int .i64 0]) 4 32 Tryz.underlying57 I0.o Y0.o Y1.o Y2.o rfl (by decide) _ m.length (ch (m.map Rc.tu)) (by simp[Act.eval]) V.o ⟨wr.heap.size,0,none⟩ 1 1 [Value.int .i64 4,Value.int .i64 c,Value.int .i64 j,Value.int .i64 x] (by simp[Act.eval]) rfl P.o (IZ _ _ _ _) (by unfold maxLen;omega) (by omega) r.o ?_;intro u4 w4 o4 g4 hu;have M:u4.ownBlock=u3.ownBlock∨∃q,u4.ownBlock=some q/\(wr.alloc (.cells #[.int .i64 4,.int .i64 c,.int .i64 j,.int .i64 x] 110)).drew.heap.size<=q:=(by rcases hu with e|e;exact .inl e;exact .inr ⟨_,e,am _⟩);have U:ah (w4.cell? ⟨z,0,none⟩=some (.slice (some ⟨b,a,none⟩) f vc)/\w4.cell? ⟨b,a+k*2,none⟩=some (.int .i64 c)/\w4.cell? ⟨I,j,none⟩=some (.int .i64 x)):=KZ.o _ _ (g.o.snoc C.o o4 g4 M)))
      have NX:=af (g.o.snoc C.o o4 g4 M);have ae:(m++[(⟨4,c,(j:Int),x⟩:Rc)]).length<=17*k+2+(j+1):=by simp;omega
      generalize m++[(⟨4,c,(j:Int),x⟩:Rc)]=l4 at n NX ae;clear o4 g4 hu M g V r P C U KZ z0 z1 z2 z3 A cx HX;go_wp2;go_roundw
      case rel=>exact⟨j+1,l4,by omega,by go_num,ae,n,NX⟩
      case measure=>simp[intOf];omega
     ·have n:ah (m=i++km c L (j+1)):=by
       show _=_;rw[FT.o,ai (by omega),dS,<-H.o]
      go_wp2;go_roundw
      case rel=>exact⟨j+1,m,by omega,by go_num,by omega,n,g⟩
      case measure=>simp[intOf];omega
    ·have n:ah (m=oM s (k+1)):=by
      show _=_;have e:j=16:=by omega
      rw[p.o,H.o,R.o,e]
     have aA:=af g.o.1;go_wp2;go_roundw
     case rel=>exact⟨k+1,m,by omega,by go_num,by omega,n,aA⟩
     case measure=>simp[intOf];omega
  ·have HE:ah (l=iu s):=by
    show _=_;rw[HL.o,oM,ci (by have:=T.o;omega)]
    rfl
   have Q:ah (wr.ownsRow w.heap.size 110 4 u3 (iu s).length (ch ((iu s).map Rc.tu))/\Below w.heap.size w wr):=by
    rw[<-HE.o];exact⟨oJ y.o.1 (by omega),y.o.2.1⟩
   have z0:wr.cell? ⟨z,0,none⟩=some (.slice F f vc):=y.o.2.2.cell rfl;go_wp2;go_ret;exact⟨_,rfl,Q.o.1,Q.o.2⟩
theorem Yj(x:iX)(d:Dv)(w:iW)(h:eY w x d)(T:d.fS.fV.length<=1048576):iK Tryz.prog 181 #[x] w (jt w (ez d (iu d.fS) aQ)):=by
 have A:=h;obtain⟨b,a,f,g,vc,ad,c,cap,rfl,h1,S,y⟩:=h.form;have p:=aT w (iC #[Y b d.fH.length a,Y f g vc,Y ad c cap,I J d.fS.next,I J d.seq,I J d.tx,I J d.base] 34);have r:aU (w.alloc (iC #[Y b d.fH.length a,Y f g vc,Y ad c cap,I J d.fS.next,I J d.seq,I J d.tx,I J d.base] 34)) w.heap.size (Y b d.fH.length a) (Y f g vc) (Y ad c cap) d.fS.next d.seq d.tx d.base:=aB _ _;generalize U:w.alloc (iC #[Y b d.fH.length a,Y f g vc,Y ad c cap,I J d.fS.next,I J d.seq,I J d.tx,I J d.base] 34)=wa at p r;have q:iL w.heap.size w wa.drew:=p.drew;have s:=r.below (w':=wa.drew) (ax _ _).drew;have t:=af (Pa _ d.fS wa.drew (y.below q));have k:ah ((iu d.fS).length<=33554432):=by
  have:=PX d.fS;show _<=_;omega
 have M:=af A;have v:=af q;have N:(wa.drew.cell? ⟨w.heap.size,0,O⟩=X (Y b d.fH.length a)/\wa.drew.cell? ⟨w.heap.size,1,O⟩=X (Y f g vc)/\wa.drew.cell? ⟨w.heap.size,2,O⟩=X (Y ad c cap)/\wa.drew.cell? ⟨w.heap.size,3,O⟩=X (I J d.fS.next)/\wa.drew.cell? ⟨w.heap.size,4,O⟩=X (I J d.seq)/\wa.drew.cell? ⟨w.heap.size,5,O⟩=X (I J d.tx)/\wa.drew.cell? ⟨w.heap.size,6,O⟩=X (I J d.base)):=s.cells;have u:=af s;obtain⟨L,z⟩:=aq (iu d.fS);rw[z]at t k⊢;clear z p r q s h h1 S y A T;go_enter Tryz.func181,Tryz.ntmps181;go_wp2_with fail;go_region_held3 (λw'=>(w'.cell? ⟨w.heap.size,0,O⟩=X (Y b d.fH.length a)/\w'.cell? ⟨w.heap.size,1,O⟩=X (Y f g vc)/\w'.cell? ⟨w.heap.size,2,O⟩=X (Y ad c cap)/\w'.cell? ⟨w.heap.size,3,O⟩=X (I J d.fS.next)/\w'.cell? ⟨w.heap.size,4,O⟩=X (I J d.seq)/\w'.cell? ⟨w.heap.size,5,O⟩=X (I J d.tx)/\w'.cell? ⟨w.heap.size,6,O⟩=X (I J d.base))) (first|(with_reducible exact N)|(with_reducible exact P)|(with_reducible exact Q)|go_keep) (first
  |(go_at_call 211;refine t.o.mono ?_;rintro e i ⟨rv,rfl,B,m⟩;obtain⟨V,W,rfl,C⟩:=kU.of_own (by rw[bm]) B;have l:=af (v.o.trans (m.mono v.o.size));have P:(i.cell? ⟨w.heap.size,0,O⟩=X (Y b d.fH.length a)/\i.cell? ⟨w.heap.size,1,O⟩=X (Y f g vc)/\i.cell? ⟨w.heap.size,2,O⟩=X (Y ad c cap)/\i.cell? ⟨w.heap.size,3,O⟩=X (I J d.fS.next)/\i.cell? ⟨w.heap.size,4,O⟩=X (I J d.seq)/\i.cell? ⟨w.heap.size,5,O⟩=X (I J d.tx)/\i.cell? ⟨w.heap.size,6,O⟩=X (I J d.base)):=(u.o.below m).cells;have K:=af (u.o.below m);have E:=af (Is _ d V L.length W L aQ i (M.o.below l.o) k.o C);clear B C m)
  |(go_at_call 105;refine E.o.mono ?_;rintro e j ⟨Z,rfl,D,n⟩;have F:=af (l.o.trans (n.mono l.o.size));have Q:(j.cell? ⟨w.heap.size,0,O⟩=X (Y b d.fH.length a)/\j.cell? ⟨w.heap.size,1,O⟩=X (Y f g vc)/\j.cell? ⟨w.heap.size,2,O⟩=X (Y ad c cap)/\j.cell? ⟨w.heap.size,3,O⟩=X (I J d.fS.next)/\j.cell? ⟨w.heap.size,4,O⟩=X (I J d.seq)/\j.cell? ⟨w.heap.size,5,O⟩=X (I J d.tx)/\j.cell? ⟨w.heap.size,6,O⟩=X (I J d.base)):=(K.o.below n).cells;have R:=af D;clear D n))
 all_goals
  have H:ah (jt w (ez d L aQ) (G (iU #[Z,iB (ez d L aQ).2])) j):=⟨_,rfl,qW R.o l.o.size,F.o⟩;go_wp2;refine az (bt rfl _ _ _) rfl ?_;exact H.o
theorem KH:(Tryz.prog.info? 205).map (λi=>(i.zero,i.size,i.bytes))=X (X (iA #[I J 0,I J 0,Y O 0 0]),3,40):=by kernel_rfl
theorem Xl:(Tryz.prog.info? 205).map (·.size)=X 3:=by kernel_rfl
abbrev Xw:=Int×Int×iX×List (Int×Int×Int×Int)
def uE(t:Xw):List iX:=[I J t.1,I J t.2.1,t.2.2.1]
def j9(l:List Xw):List iX:=l.flatMap uE
def dD(t:Xw):Int×Int×List (Int×Int×Int×Int):=(t.1,t.2.1,t.2.2.2)
def Words.TxR.tu(x:TxR):Int×Int×List (Int×Int×Int×Int):=(x.num,x.seq,x.fR.map Rc.tu)
theorem TL(a b:List Xw):j9 (a++b)=j9 a++j9 b:=by simp[j9]
theorem WH(t:Xw)(l:List Xw):j9 (t::l)=uE t++j9 l:=by simp[j9]
theorem Fu(l:List Xw)(t:Xw):j9 l++uE t=j9 (l++[t]):=by rw[TL];simp[j9]
theorem Wr(l:List Xw)(k:Nat)(t:Xw)(h:l[k]?=X t)(j:Nat)(v:iX)(b:(uE t)[j]?=X v):(j9 l)[k*3+j]?=X v:=by
 have c:j<3:=(aC.1 b).1
 induction l generalizing k with
 |nil=>simp at h
 |cons a l d=>
  rw[WH];cases k with
  |zero=>
   simp at h;subst h;rw[ip (by show _<3;omega),nj,eC]
   exact b
  |succ k=>
   rw[cu (by show 3<=_;omega),show(k+1)*3+j-(uE a).length=k*3+j by show _-3=_;omega]
   exact d k (by simpa using h)
def pu(W:iW)(v:iX)(ls:List (Int×Int×Int×Int)):Prop:=∃a c,v=Y a ls.length c/\(a=O->c=0)/\kU W a ls.length ls
theorem pu.below{W W':iW}{v:iX}{ls:List (Int×Int×Int×Int)}(h:pu W v ls)(b:iL W.heap.size W W'):pu W' v ls:=by
 obtain⟨a,c,e,h1,d⟩:=h;exact⟨a,c,e,h1,d.below b⟩
theorem pu.of{hi:Nat}{v:iX}{ls:List (Int×Int×Int×Int)}{W:iW}(h:aG 110 lo hi v ls.length (ch ls) W)(b:ls.length<=maxLen)(k:hi<=W.heap.size):pu W v ls:=by
 rcases h with⟨rfl,h0⟩|⟨g,cap,rfl,h1,f,c⟩
 ·exact⟨O,0,by rw[h0],λ_=>rfl,rfl,b,by simp,λh=>by omega⟩
 ·refine⟨_,_,rfl,(λe=>by cases e),rfl,b,by simp,λ_=>⟨g,0,rfl,by omega,λi t hi=>?_⟩⟩
  have a:=λj v d=>c.cell (EY ls i t hi j v d)
  refine⟨?_,?_,?_,?_⟩
  ·simpa using a 0 _ rfl
  ·simpa using a 1 _ rfl
  ·simpa using a 2 _ rfl
  ·simpa using a 3 _ rfl
def qY(W:iW)(ad:Option Addr)(c:Nat)(rs:List Xw):Prop:=
 rs.length=c/\c<=maxLen/\(∀r∈rs,pu W r.2.2.1 r.2.2.2)/\(0<c->∃b a,ad=X ⟨b,a,O⟩/\b<W.heap.size/\∀i r,rs[i]?=X r->W.cell? ⟨b,a+i*3,O⟩=X (I J r.1)/\W.cell? ⟨b,a+i*3+1,O⟩=X (I J r.2.1)/\W.cell? ⟨b,a+i*3+2,O⟩=X r.2.2.1)
theorem qY.below{W W':iW}{c:Nat}{rs:List Xw}(h:qY W ad c rs)(a:iL W.heap.size W W'):qY W' ad c rs:=by
 obtain⟨h1,j,k,h4⟩:=h;refine⟨h1,j,λr m=>(k r m).below a,λh0=>?_⟩
 obtain⟨b,f,e,d,l⟩:=h4 h0;have hs:=a.size;refine⟨b,f,e,by omega,λi t n=>?_⟩
 obtain⟨g,c1,c2⟩:=l i t n;exact⟨(a.cell (show b<W.heap.size from d)).trans g,(a.cell (show b<W.heap.size from d)).trans c1,(a.cell (show b<W.heap.size from d)).trans c2⟩
theorem qY.at{W:iW}{c:Nat}{rs:List Xw}(h:qY W ad c rs){r:Xw}(d:rs[k]?=X r):
 ∃b a,ad=X ⟨b,a,O⟩/\b<W.heap.size/\W.cell? ⟨b,a+k*3,O⟩=X (I J r.1)/\W.cell? ⟨b,a+k*3+1,O⟩=X (I J r.2.1)/\W.cell? ⟨b,a+k*3+2,O⟩=X r.2.2.1:=by
 obtain⟨h1,-,-,h4⟩:=h;have j:=(aC.1 d).1;obtain⟨b,a,e,g,i⟩:=h4 (by omega)
 obtain⟨f,c1,c2⟩:=i k r d;exact⟨b,a,e,g,f,c1,c2⟩
def Hg(rs:List Xw):Prop:=rs.Pairwise (λa b=>∀g,a.2.2.1.ownBlock=X g->b.2.2.1.ownBlock≠X g)
def fF(W:iW)(B:Nat)(v:iX)(rs:List Xw):Prop:=
 W.ownsRow B 205 3 v rs.length (j9 rs)/\(∀r∈rs,aG 110 B W.heap.size r.2.2.1 r.2.2.2.length (ch r.2.2.2) W/\r.2.2.2.length<=maxLen)/\Hg rs
def q8(lo hi:Nat)(v:iX)(rs:List Xw)(W:iW):Prop:=
 aG 205 lo hi v rs.length (j9 rs) W/\(∀r∈rs,aG 110 lo hi r.2.2.1 r.2.2.2.length (ch r.2.2.2) W/\r.2.2.2.length<=maxLen)/\Hg rs/\rs.length<=maxLen
theorem Ec{w:iW}{cs b:Array iX}(h:w.heap[g]?=X (iC cs 110 (0,0)))(a:w.heap[g]?=X (iC b 205 (0,0))):False:=by
 rw[h]at a;injection a with a
 injection a with _ a
 simp at a
theorem fF.below{W W':iW}{v:iX}{rs:List Xw}(h:fF W B v rs)(b:iL W.heap.size W W'):fF W' B v rs:=
 ⟨bC h.1 b,λr a=>⟨((h.2.1 r a).1.blw b).up b.size,(h.2.1 r a).2⟩,h.2.2⟩
theorem fF.down{W:iW}{v:iX}{rs:List Xw}(h:fF W B v rs)(a:B'<=B):fF W B' v rs:=
 ⟨oJ h.1 a,λr b=>⟨(h.2.1 r b).1.dn a,(h.2.1 r b).2⟩,h.2.2⟩
theorem fF.empty(W:iW)(B:Nat)(a:B<=W.heap.size):fF (W.alloc (iC #[] 205)) B (Y (X ⟨W.heap.size,0,O⟩) 0 0) []:=
 ⟨⟨rfl,.inr ⟨W.heap.size,0,#[],rfl,a,aB W _,am _,by unfold maxLen;omega,rfl,rfl⟩⟩,(λ_ h=>by cases h),List.Pairwise.nil⟩
theorem fF.snoc {f W y:iW} {v u':iX} {rs:List Xw} {r:Xw} (h0:fF f B v rs) (u:iL f.heap.size f W) (p:B<=f.heap.size) (l:aG 110 f.heap.size W.heap.size r.2.2.1 r.2.2.2.length (ch r.2.2.2) W) (z:r.2.2.2.length<=maxLen)
 (d:W.grownBy y v.ownBlock) (A:y.ownsRow B 205 3 u' (rs++[r]).length (j9 (rs++[r]))):fF y B u' (rs++[r]):=by
 have h:=h0.below u;have w:=nL h.1;have j:∀(t:iX) (g:Nat),v.ownBlock=X g->∀{lo hi n:Nat} {xs:List iX},aG 110 lo hi t n xs W->t.ownBlock≠X g:=by
  intro t g d lo hi n xs hs e;obtain⟨-,-,cs,q⟩:=w g d;obtain⟨-,-,m,q'⟩:=hs.lt g e;exact Ec q' q
 refine⟨A,?_,?_⟩
 ·intro x c;rcases bJ.1 c with c|c
  ·exact⟨((h.2.1 x c).1.grown d (λg e i=>j _ g i (h.2.1 x c).1 e)).up d.size,(h.2.1 x c).2⟩
  ·simp only[bU]at c;subst c;exact⟨((l.grown d (λg e i=>j _ g i l e)).dn p).up d.size,z⟩
 ·refine iE.2 ⟨h.2.2,mQ _ _,?_⟩;intro a s b k g o i;simp only[bU]at k;subst k;have C:=((h0.2.1 a s).1.lt g o).2.1;have D:=(l.lt g i).1;omega
theorem fF.form{W:iW}{v:iX}{rs:List Xw}(h:fF W B v rs):∃ad c,v=Y ad rs.length c:=by
 rcases h.1.2 with⟨rfl,h0⟩|⟨g,cap,a,rfl,-⟩
 ·exact⟨_,_,by rw[h0]⟩
 ·exact⟨_,_,rfl⟩
theorem fF.len{W:iW}{v:iX}{rs:List Xw}(h:fF W B v rs):rs.length<=maxLen:=by
 rcases h.1.2 with⟨rfl,h0⟩|⟨g,cap,a,rfl,-,-,h1,b,-⟩
 ·rw[h0];unfold maxLen;omega
 ·omega
theorem fF.txs{W:iW}{v:iX}{rs:List Xw}(h:fF W B v rs):q8 B W.heap.size v rs W:=⟨aG.of h.1,h.2.1,h.2.2,h.len⟩
theorem q8.rd{W:iW}{hi c:Nat}{rs:List Xw}(h:q8 lo hi (Y ad n c) rs W)(l:rs.length=n)(f:hi<=W.heap.size):qY W ad n rs:=by
 obtain⟨h1,b,o,h4⟩:=h;refine⟨l,by omega,λr d=>pu.of (b r d).1 (b r d).2 f,λh0=>?_⟩
 rcases h1 with⟨e,q⟩|⟨g,cap,e,p,s,m⟩
 ·omega
 ·injection e with e1 e2 e3
  refine⟨g,0,e1,by omega,λi r hi=>?_⟩
  have a:=λj v k=>m.cell (Wr rs i r hi j v k)
  refine⟨?_,?_,?_⟩
  ·simpa using a 0 _ rfl
  ·simpa using a 1 _ rfl
  ·simpa using a 2 _ rfl
theorem q8.loc(lo hi:Nat)(v:iX)(rs:List Xw):mm lo hi (q8 lo hi v rs):=by
 intro w w' a h;exact⟨aG.loc _ _ _ _ _ _ w w' a h.1,λr b=>⟨aG.loc _ _ _ _ _ _ w w' a (h.2.1 r b).1,(h.2.1 r b).2⟩,h.2.2⟩
def yh(w:iW)(L:List TxR)(e:Ending)(w':iW):Prop:=
 ∃a rs,e=G a/\fF w' w.heap.size a rs/\rs.map dD=L.map TxR.tu/\iL w.heap.size w w'
def LT(w W:iW)(tx sq:Int):Prop:=
 iL w.heap.size w W/\W.heap[w.heap.size]?=X (iC #[I J 0,I J 0,Y O 0 0] 205 (0,0))/\W.heap[w.heap.size+1]?=X (iC #[I J tx,I J sq,Y O 0 0] 205 (0,0))
theorem LT.below{w W W':iW}{tx:Int}(h:LT w W tx sq)(b:iL W.heap.size W W'):LT w W' tx sq:=
 ⟨h.1.trans (b.mono h.1.size),(b.block _ (aK.1 h.2.1).1).trans h.2.1,(b.block _ (aK.1 h.2.2).1).trans h.2.2⟩
theorem LT.start(w:iW)(tx:Int):LT w ((w.alloc (iC #[I J 0,I J 0,Y O 0 0] 205)).alloc (iC #[I J tx,I J 0,Y O 0 0] 205)) tx 0:=by
 have a:(w.alloc (iC #[I J 0,I J 0,Y O 0 0] 205)).heap.size=w.heap.size+1:=by simp
 have h1:=aB (w.alloc (iC #[I J 0,I J 0,Y O 0 0] 205)) (iC #[I J tx,I J 0,Y O 0 0] 205);rw[a]at h1;exact⟨(aZ).alloc (by simp) _,(gn _ _ w.heap.size (by simp)).trans (aB w _),h1⟩
theorem LT.set{w W:iW}{tx:Int}(h:LT w W tx sq)(s:Int):LT w (W.setCell ⟨w.heap.size+1,1,O⟩ (I J s)) tx s:=
 ⟨h.1.setCell (by simp) _,cX h.2.1 (by omega) _ _,dz h.2.2 1 (I J s)⟩
theorem LT.at{w W:iW}{tx:Int}(h:LT w W tx sq):W.cell? ⟨w.heap.size+1,0,O⟩=X (I J tx)/\W.cell? ⟨w.heap.size+1,1,O⟩=X (I J sq)/\W.cell? ⟨w.heap.size+1,2,O⟩=X (Y O 0 0):=
 ⟨aj _ _ 0 _ _ _ h.2.2,aj _ _ 1 _ _ _ h.2.2,aj _ _ 2 _ _ _ h.2.2⟩
theorem LT.fr{w W:iW}{tx:Int}(h:LT w W tx sq)(j:Nat):W.frozen? ⟨w.heap.size+1,j,O⟩=iF:=aF _ _ j _ _ h.2.2
theorem LT.at0{w W:iW}{tx:Int}(h:LT w W tx sq):W.cell? ⟨w.heap.size,0,O⟩=X (I J 0)/\W.cell? ⟨w.heap.size,1,O⟩=X (I J 0)/\W.cell? ⟨w.heap.size,2,O⟩=X (Y O 0 0):=
 ⟨aj _ _ 0 _ _ _ h.2.1,aj _ _ 1 _ _ _ h.2.1,aj _ _ 2 _ _ _ h.2.1⟩
theorem LT.fr0{w W:iW}{tx:Int}(h:LT w W tx sq)(j:Nat):W.frozen? ⟨w.heap.size,j,O⟩=iF:=aF _ _ j _ _ h.2.1
theorem Hp {p q:Tmp} (h:fn.results= #[.cell p 205,.tmp q]) (c:Array iX) (w:iW) (g:Nat) (a b:Int) (v:iX)
 (i:c.getD p undef=iP (X ⟨g,0,O⟩)) (e:w.heap[g]?=X (iC #[I J a,I J b,v] 205 (0,0))):
 (results fn c).run Tryz.prog w=.ok (iU #[iA #[I J a,I J b,v],c.getD q undef]) w:=by
 have d:c[p]?.getD undef=iP (X ⟨g,0,O⟩):=by simpa using i
 have f:=lL (P:=Tryz.prog) w g 205 205 _ _ _ e Tryz.underlying205 rfl Xl;simp[results,h,d,asAddr,f]
theorem IM{w:iW}{cs:Array iX}{x y z:iX}(h:w.heap[g]?=X (iC cs 205 (0,0))):(((w.setCell ⟨g,0,O⟩ x).setCell ⟨g,1,O⟩ y).setCell ⟨g,2,O⟩ z).heap[g]?=X (iC (((cs.setIfInBounds 0 x).setIfInBounds 1 y).setIfInBounds 2 z) 205 (0,0)):=
 dz (dz (dz h 0 x) 1 y) 2 z
theorem Ii{a w:iW}{x y z:iX}(h:iL B a w)(b:B<=g):iL B a (((w.setCell ⟨g,0,O⟩ x).setCell ⟨g,1,O⟩ y).setCell ⟨g,2,O⟩ z):=
 ((h.setCell (p:=⟨g,0,O⟩) b x).setCell (p:=⟨g,1,O⟩) b y).setCell (p:=⟨g,2,O⟩) b z
def sx(tx:Int)(k:Nat)(c:Int)(p:Pg):Bool:=decide (p.kind=2/\p.tx=tx/\p.part=k/\(0<k->p.count=c))
def ng(ps:List Pg)(tx:Int)(k:Nat)(c:Int)(t:ByteArray)(sq:Int)(m:Nat)(c':Int)(t':ByteArray)(f:Bool)(sq':Int):Prop:=
 (f=iF/\c'=c/\t'=t/\sq'=sq/\(ps.take m).find? (sx tx k c)=O)∨(f=iV/\∃p,nC ps tx k c=X p/\c'=p.count/\t'=t++p.text/\sq'=if k=0∨p.seq<sq then p.seq else sq)
variable{ps:List Pg}{p:Pg}
theorem ng.skip{tx:Int}(h:ng ps tx k c t sq m c' t' iF sq')(e:ps[m]?=X p)(d:sx tx k c p=iF):ng ps tx k c t sq (m+1) c' t' iF sq':=by
 rcases h with⟨-,h1,a,b,h4⟩|⟨h,-⟩
 ·exact .inl ⟨rfl,h1,a,b,(Hc e h4).1 d⟩
 ·cases h
theorem ng.take{tx:Int}(h:ng ps tx k c t sq m c' t' iF sq')(e:ps[m]?=X p)(d:sx tx k c p=iV):c'=c/\t'=t/\sq'=sq/\nC ps tx k c=X p:=by
 rcases h with⟨-,h1,a,b,h4⟩|⟨h,-⟩
 ·exact⟨h1,a,b,(Hc e h4).2 d⟩
 ·cases h
theorem ng.none{tx:Int}(h:ng ps tx k c t sq m c' t' iF sq')(a:ps.length<=m):nC ps tx k c=Option.none:=by
 rcases h with⟨-,-,-,-,h4⟩|⟨h,-⟩
 ·rw[ci a]at h4;exact h4
 ·cases h
def xR(ps:List Pg)(tx:Int)(k:Nat)(c sq:Int)(t:ByteArray)(a:List Pg):Prop:=
 t=lD a/\p9 ps tx k c sq a/\t.size<=lI (λp=>p.text.size) ps k/\k<=lI (λ_=>1) ps k
theorem MI{tx:Int}{a:List Pg}(d:xR ps tx k c sq t a)(i:dm (λp=>p.text.size) ps<=1048576)(f:nC ps tx k c=X p):t.size+p.text.size<=lI (λp=>p.text.size) ps ((k+1:Nat):Int)/\t.size+p.text.size<=1048576:=by
 obtain⟨-,-,h,-⟩:=d;have b:=xo f;have h1:=yn (λp=>p.text.size) b.1 b.2.2.2.1
 have g:=DH (λp=>p.text.size) ps ((k:Int)+1)
 have e:((k+1:Nat):Int)=(k:Int)+1:=by omega
 rw[e];try simp only at h1
 exact⟨by omega,by omega⟩
theorem ZZ{tx:Int}{S g:Nat}{a:List Pg}(o:xR ps tx k c sq t a)(l:k=0∨(k:Int)<c)(u:dm (λp=>p.text.size) ps<=1048576)(d:ps.length=g)(j:dm (λp=>p.count.toNat) ps=S)(h:ng ps tx k c t sq m c' t' iV sq'):
 (∃b,xR ps tx (k+1) c' sq' t' b)/\t'.size<=1048576/\k+1<=g/\c'.toNat-(k+1)<(if k=0 then S+1 else c.toNat-k):=by
 rcases h with⟨h,-⟩|⟨-,p,n,rfl,rfl,rfl⟩
 ·cases h
 have f:=MI o u n;obtain⟨g1,g2,g3,v⟩:=o;have i:=xo n;have e:((k+1:Nat):Int)=(k:Int)+1:=by omega
 have h1:=yn (λ_=>1) i.1 i.2.2.2.1
 have s:=DH (λ_=>1) ps ((k:Int)+1)
 rw[RP,d]at s;have q:=Hl (λp=>p.count.toNat) i.1
 rw[j]at q;try simp only at h1 q
 refine⟨⟨a++[p],?_,g2.yes l n,?_,?_⟩,?_,by omega,?_⟩
 ·rw[g1];exact OH a p
 ·rw[tZ];exact f.1
 ·rw[e];omega
 ·rw[tZ];exact f.2
 ·by_cases r:k=0
  ·rw[ak r];omega
  ·rw[ai r,i.2.2.2.2 (by omega)];omega
theorem Zg{w:iW}{v:iX}{xs:List iX}(h:w.ownsRow B e size v n xs):n<=maxLen:=by
 rcases h.2 with⟨rfl,h0⟩|⟨g,cap,a,rfl,-,-,h1,b,-⟩
 ·rw[h0];unfold maxLen;omega
 ·omega
def MO(w:iW)(ps:List Pg)(tx:Int)(e:Ending)(w':iW):Prop:=
 ∃(sq:Int) (a:Option Addr) (n c:Nat) (ok:Bool),e=G (iU #[iA #[I J tx,I J sq,Y a n c],iB ok])/\iL w.heap.size w w'/\
  (dx ps tx=O/\ok=iF∨∃x:TxR,dx ps tx=X x/\ok=iV/\x.num=tx/\x.seq=sq/\n=x.fR.length/\n<=maxLen/\aG 110 w.heap.size w'.heap.size (Y a n c) n (ch (x.fR.map Rc.tu)) w')
theorem Ys{tx:Int}(h:kH ps tx=O):dx ps tx=O:=by unfold dx;rw[h]
theorem Np{tx:Int}{l:List Pg}(h:kH ps tx=X l):dx ps tx=(fR (lD l).data.toList 0).map (λrs=>⟨tx,pe l,rs⟩):=by unfold dx;rw[h]
end Go.Proofs.YtgigcooffjjbgaaGreatDoor
