/-
  SMove; LkMath; ILinked; ITree; IAll; RowBk; IBase; SBase; SBaSt; TxN; LTx; SL10; RcApp; SSince
-/
import Derived.Test.YtijmbohadndfmaaGreatDoorPk14
open Go.Value renaming int→I,slice→Y,string→iT,bool→iB,pointer→iP,agg→iA,tuple→iU
open Go.IntKind renaming i64→J
open Option renaming none→O,some→X
open Go.Ending renaming returned→G
open Go.Obj renaming cells→iC
open Bool renaming true→iV,false→iF
open Go renaming World→iW,Value→iX,Calls→iK
open Go.RowKit renaming Below→iL
set_option maxHeartbeats 4000000
set_option maxRecDepth 100000
namespace Go.Proofs.YtijmbohadndfmaaGreatDoor
open Go.RowKit Words Sums
def km(b:Int)(lf:Nat)(p:aq×Bool):Option aq:=if p.2&&p.1.block==b&&p.1.leaf==(lf:Int)then X p.1 else O
def dS(M:List aq)(row:List Bool)(b:Int)(lf i:Nat):List aq:=(List.range lf).flatMap (λj=>(M.zip row).filterMap (km b j))++((M.zip row).take i).filterMap (km b lf)
def tj(M:List aq)(row:List Bool)(b:Int)(lf i:Nat):List aq:=((M.zip row).drop i).filterMap (km b lf)++(List.range' (lf+1) (3-lf)).flatMap (λj=>(M.zip row).filterMap (km b j))
variable{a:Act}{K:Act -> World -> Prop}{ops:Array Oper}{t t':ByteArray}{fn:Func}{b sq c' sq':Int}{v:Int × Int}{row:List Bool}{rest:List Oper}{i B k z n lo g B' c m size:Nat}{ad:Option Addr}{P:Program}{E:Prop}{e:TypeId}
variable{M:List aq}
theorem xT{lf:Nat}{x:aq}{r:Bool}(c:M[i]?=X x)(a:row[i]?=X r):dS M row b lf (i+1)=dS M row b lf i++(km b lf (x,r)).toList:=by
 unfold dS;rw[fJ];congr 1;have d:(M.zip row)[i]?=X (x,r):=ut.2 ⟨c,a⟩;rw[dF,nh,d];congr 1
theorem RV{lf:Nat}(hi:M.length<=i):dS M row b lf i=dS M row b (lf+1) 0:=by
 unfold dS;rw[cm (by rw[yI];omega),wh,vM,eM,qb,tR]
 simp
theorem VC{lf:Nat}(h:lf<4):dS M row b 4 0=dS M row b lf i++tj M row b lf i:=by
 unfold dS tj;rw[wh,vM,eM,fJ,<-fJ (((M.zip row).take i).filterMap (km b lf)),<-nh,jP];have h1:List.range 4=List.range lf++lf::List.range' (lf+1) (3-lf):=by
  have:lf=0∨lf=1∨lf=2∨lf=3:=by omega
  rcases this with rfl|rfl|rfl|rfl<;>rfl
 rw[h1,tR,qn]
theorem PU{lf:Nat}{x:aq}{r:Bool}(d:M[i]?=X x)(c:row[i]?=X r):tj M row b lf i=(km b lf (x,r)).toList++tj M row b lf (i+1):=by
 unfold tj;rw[<-fJ];congr 1;have f:(M.zip row)[i]?=X (x,r):=ut.2 ⟨d,c⟩;obtain⟨a,e⟩:=aD.1 f;rw[gj a,e];cases h:km b lf (x,r)with
 |none=>simp[h]
 |some y=>simp[h]
theorem Aq(b:Int):∀(ps qs:List Pg) (f:List Bk) (l:List aM) (q:Int),eF b f l q (ps++qs)=(eF b f l q ps).bind (λr=>eF b r.1 r.2.1 r.2.2 qs)
 | [],qs,f,l,q=>by simp[eF]
 |p::ps,qs,f,l,q=>by
  rw[jf,eF,eF];split
  ·exact Aq b ps qs _ _ _
  ·rfl
theorem Tu(d:Dv)(b:Int)(a:aw d.fH=M)(c:cK M (be d.fS) 1000000001=row):kY d b=match eF b d.fH [] d.seq ((dS M row b 4 0).map aq.fP)with
 |some r=>(r.2.1,iV)
 |none=>([],iF):=by
 unfold kY;have:oX (aw d.fH) (be d.fS) b=dS M row b 4 0:=by
  unfold oX dS;rw[a,c,wh,vM,eM];rfl
 rw[this];cases eF b d.fH [] d.seq ((dS M row b 4 0).map aq.fP)<;>rfl
theorem Y8{M:List aq}{row:List Bool}{b:Int}{lf i:Nat}{x:aq}{f bs:List Bk}{l:List aM}{q q0:Int}(h:lf<4)(k:M[i]?=X x)(j:row[i]?=X iV)(a:(x.block==b)=iV)(d:(x.leaf==(lf:Int))=iV)(c:eF b f [] q0 ((dS M row b lf i).map aq.fP)=X (bs,l,q))(g:((cH bs l (le x.fP q)).2.2&&decide (sy (cH bs l (le x.fP q)).2.1≠b))=iF):eF b f [] q0 ((dS M row b 4 0).map aq.fP)=O:=by
 have e:km b lf (x,iV)=X x:=by unfold km;rw[a,d];rfl
 rw[VC (i:=i) h,PU k j,e,dB,dB,Aq,c];simp only[kV,rh,cD,nZ,jf,iN,eF];rw[ai (by rw[g];decide)]
theorem Rq{M:List aq}{row:List Bool}{b:Int}{lf i:Nat}{x:aq}{f bs:List Bk}{l:List aM}{q q0:Int}(j:M[i]?=X x)(h:row[i]?=X iV)(a:(x.block==b)=iV)(d:(x.leaf==(lf:Int))=iV)(c:eF b f [] q0 ((dS M row b lf i).map aq.fP)=X (bs,l,q))(g:((cH bs l (le x.fP q)).2.2&&decide (sy (cH bs l (le x.fP q)).2.1≠b))=iV):eF b f [] q0 ((dS M row b lf (i+1)).map aq.fP)=X ((cH bs l (le x.fP q)).1,(cH bs l (le x.fP q)).2.1,q+1):=by
 have e:km b lf (x,iV)=X x:=by unfold km;rw[a,d];rfl
 rw[xT j h,e,dB,Aq,c];simp only[kV,rh,cD,nZ,eF];rw[aj g]
theorem Vu{bs:List Bk}{l:List aM}{p:Pg}(h:(cH bs l p).2.2=iV):IntKind.i64.wrap (p.seq+1)=p.seq+1/\∃s,(cH bs l p).2.1=l++[s]:=by
 unfold cH at h⊢;split at h
 ·rename_i hc
  rw[aj hc];rw[bt]at hc;refine⟨?_,_,rfl⟩;have h1:=hc.1;unfold kS at h1;split at h1
  ·rename_i hr
   have:=hr.2.1;have:=hr.2.2.1;rw[cL];omega
  ·cases h1
 ·cases h
theorem XX{W:iW}{u:iX}{l:List aM}{s:aM}(h:W.ownsRow B 184 4 u (l++[s]).length (cT (l++[s]))):∃g c,u=Y (X ⟨g,0,O⟩) (l.length+1) c/\W.cell? ⟨g,l.length*4+1,O⟩=X (I J s.2.1):=by
 have b:=h.2;rcases b with⟨-,e⟩|⟨g,c,a,rfl,-⟩
 ·exfalso
  simp at e
 ·refine⟨g,c,by simp,?_⟩
  have:=ve h (g:=g) rfl (l.length*4+1) (I J s.2.1) (Hr _ l.length s (by simp) 1 _ rfl)
  rwa [eX]at this
theorem LO(l:List aM)(s:aM):sy (l++[s])=s.2.1:=by unfold sy;simp
theorem Ot(x:iX)(d:Dv)(b:Int)(w:iW)(h:fU w x d)(aG:(aw d.fH).length<=100000000000):iK Tryz.prog 113 #[x,I J b] w (iG w (kY d b)):=by
 obtain⟨P,N,va,vl,vc,ad,ln,cap,rfl,h1,h2,h3⟩:=h.form;have bA:=aO w (iC #[Y P d.fH.length N,Y va vl vc,Y ad ln cap,I J d.fS.next,I J d.seq,I J d.tx,I J d.base] 46);have gA:aP (w.alloc (iC #[Y P d.fH.length N,Y va vl vc,Y ad ln cap,I J d.fS.next,I J d.seq,I J d.tx,I J d.base] 46)) w.heap.size (Y P d.fH.length N) (Y va vl vc) (Y ad ln cap) d.fS.next d.seq d.tx d.base:=az _ _;generalize a4:w.alloc (iC #[Y P d.fH.length N,Y va vl vc,Y ad ln cap,I J d.fS.next,I J d.seq,I J d.tx,I J d.base] 46)=wa at bA gA;obtain⟨rs,e1,i1,l1,aN,aQ⟩:=(h1.below bA).lens h2;have CS:=af (pR (Y P d.fH.length N) rs wa l1 aN aQ i1);rw[e1]at CS;unfold nH at CS;have ac:=h3.fit;have a1:=wP d.fS;have ae:ah ((be d.fS).length<=16*1048576):=by have:=ac.1;show _<=_;omega
 obtain⟨M,hM⟩:=an (aw d.fH);obtain⟨row,z⟩:=an (cK M (be d.fS) 1000000001);have k:=af (Tu d b hM z);have aX:ah (row.length=M.length):=by show _=_;rw[<-z];exact re _ _ _
 have ab:=af z;rw[hM]at CS aG;obtain⟨R,hR⟩:=an (kY d b);rw[hR]at k⊢;have HS:=af (h3.below bA);have HF:=af (h1.below bA);have aZ:=af h2;have HB:=af bA;have HG:=af gA;have y0:=gA.cells.1;clear h1 h2 h3 h e1 i1 l1 aN aQ hM hR bA gA ac a1 rs z;go_enter Tryz.func113,Tryz.ntmps113;go_wp2_with fail;clear a4;refine CS.o.mono ?_;rintro e w1 ⟨la,lc,rfl,f1,f2,f3⟩;have HR:=af f1;have aU:=af f2;have G1:=af (HG.o.below f3);have S1:=af (HS.o.below f3);have B1:=af (HB.o.trans (f3.mono HB.o.size));have F1:=af (HF.o.below f3);obtain⟨-,y1,y2,y3,-,-,-⟩:=G1.o.cells;clear CS f1 f2 f3 HG HS HB HF y0;go_wp2_with fail;refine(xD _ d.fS _ S1.o).mono ?_;rintro e w2 ⟨lv,rfl,ho,b2⟩;obtain⟨ia,ic,rfl,aE,-,-⟩:=lW.of ho (by have:=ae.o;unfold maxLen;omega) b2
 have G2:=af (G1.o.below b2);have B2:=af (B1.o.trans (b2.mono B1.o.size));have F2:=af (F1.o.below b2);have aj:=af (HR.o.below b2);have HI:=af aE;clear ho aE b2 y1 y2 y3 G1 B1 F1 HR S1;go_wp2_with fail;refine(wM la M.length lc M ia (be d.fS).length ic (be d.fS) 1000000001 w2 aU.o (by have:=ae.o;omega) aj.o HI.o).mono ?_
 rintro e c ⟨g,rfl,-,-,g3,g4⟩;rw[ab.o]at g3;have G3:=af (G2.o.below g4);have B3:=af (B2.o.trans (g4.mono B2.o.size));have F3:=af (F2.o.below g4);have aW:=af (aj.o.below g4);have aV:=af g3;clear g3 g4 G2 B2 F2 aj HI ae ab;have au:(c.alloc (iC #[] 184)).heap.size=c.heap.size+1:=by simp
 have b4:=aO c (iC #[] 184);have n4:=ny (ax c.heap.size c) c.heap.size rfl;have aC:iL (c.alloc (iC #[] 184)).heap.size (c.alloc (iC #[] 184)) ((c.alloc (iC #[] 184)).alloc (iC #[Y P d.fH.length N] 38)):=aY;have b5:iL c.heap.size c ((c.alloc (iC #[] 184)).alloc (iC #[Y P d.fH.length N] 38)):=b4.alloc b4.size _;have W5:ah (jA c ((c.alloc (iC #[] 184)).alloc (iC #[Y P d.fH.length N] 38)) (c.heap.size+1) (Y P d.fH.length N) (Y (X ⟨c.heap.size,0,O⟩) 0 0) d.fH []):=
  ⟨b5,by rw[<-au];exact az _ _,jS.of_rdb F3.o b5 (by omega),bu n4.1 aC,aZ.o,by omega⟩
 have y0:=(G3.o.below b4).cells.1;have y4:=(G3.o.below b5).cells.2.2.2.2.1;have al:=af au;clear aC b5 b4 n4 au;generalize a2:c.alloc (iC #[] 184)=w4 at W5 y0 y4 al;generalize a3:w4.alloc (iC #[Y P d.fH.length N] 38)=w5 at W5 y4;have aH:w4.heap.size=c.heap.size+1:=al.o;clear al;go_wp2;clear a2 a3 y0 y4;try rw[aH]
 clear aH;go_loopw [8,10,11] (λuv qv lv wr=>∃(lf:Nat) (q:Int) (v:iX) (bs:List Bk) (l:List aM) (u:iX),uv=u/\qv=I J q/\lv=I J lf/\lf<=4/\l.length<=lf*M.length/\ah (eF b d.fH [] d.seq ((dS M row b lf 0).map aq.fP)=X (bs,l,q))/\ah (jA c wr (c.heap.size+1) v u bs l)) (λ_ _ lv _=>4-(intOf lv).toNat)
 case atStart=>exact⟨0,d.seq,_,d.fH,[],_,rfl,rfl,rfl,aI _,aI _,rfl,W5⟩
 case round=>
  rename iW=>wr
  obtain⟨lf,q,v,bs,l,uv,rfl,rfl,rfl,bd,ar,a,H⟩:=hrel;clear W5;have a8:(0:Int)<=lf:=by omega
  by_cases bg:(lf:Int)<4
  ·go_wp2;go_loopw [8,10,12] (λuv qv iv wr=>∃(i:Nat) (q:Int) (v:iX) (bs:List Bk) (l:List aM) (u:iX),uv=u/\qv=I J q/\iv=I J i/\i<=M.length/\l.length<=lf*M.length+i/\ah (eF b d.fH [] d.seq ((dS M row b lf i).map aq.fP)=X (bs,l,q))/\ah (jA c wr (c.heap.size+1) v u bs l)) (λ_ _ iv _=>M.length-(intOf iv).toNat)
   case atStart=>exact⟨0,q,v,bs,l,_,rfl,rfl,rfl,aI _,by omega,a,H⟩
   case round=>
    rename iW=>wr
    clear a H ar;obtain⟨i,q,v,bs,l,uv,rfl,rfl,rfl,hi,ar,a,H⟩:=hrel;have ba:(0:Int)<=i:=by omega
    have bf:lf*M.length<=3*M.length:=zh _ (by omega)
    by_cases bb:(i:Int)<M.length
    ·obtain⟨x,hx⟩:∃x,M[i]?=X x:=⟨_,ay (by omega)⟩
     obtain⟨r,hr⟩:∃r,row[i]?=X r:=⟨_,ay (by have:=aX.o;omega)⟩
     have HX:=af hx;have F:=af hr;obtain⟨rb,ro,rfl,-,c0,c1,c2,c3,c4,c5,c6,c7,-⟩:=(aW.o.below H.o.1).all hx;have cr:=(aV.o.below H.o.1).cell (ol hr);clear hx hr;obtain⟨xb,xl,pk,W,E,D,C,pt⟩:=x;simp only at c0 c1 c2 c3 c4 c5 c6 c7;cases r with
     |false=>
      have NM:ah (dS M row b lf (i+1)=dS M row b lf i):=by
       show _=_;rw[xT HX.o F.o];unfold km;rw[ai (by simp[*])]
       simp
      have Q:ah (eF b d.fH [] d.seq ((dS M row b lf (i+1)).map aq.fP)=X (bs,l,q)):=by show _=_;rw[NM.o];exact a.o
      clear NM a;go_wp2;go_roundw
      case rel=>exact⟨i+1,q,v,bs,l,_,rfl,rfl,by go_num,by omega,by omega,Q,H⟩
      case measure=>simp[intOf];omega
     |true=>
      by_cases U:(xb !=b)=iV
      ·have A:(xb==b)=iF:=by simpa using U
       have NM:ah (dS M row b lf (i+1)=dS M row b lf i):=by
        show _=_;rw[xT HX.o F.o];unfold km;rw[ai (by simp[*])]
        simp
       have Q:ah (eF b d.fH [] d.seq ((dS M row b lf (i+1)).map aq.fP)=X (bs,l,q)):=by show _=_;rw[NM.o];exact a.o
       clear NM a;go_wp2;go_roundw
       case rel=>exact⟨i+1,q,v,bs,l,_,rfl,rfl,by go_num,by omega,by omega,Q,H⟩
       case measure=>simp[intOf];omega
      have U:(xb !=b)=iF:=by simpa using U
      have A:(xb==b)=iV:=by simpa using U
      by_cases V:(xl !=(lf:Int))=iV
      ·have B:(xl==(lf:Int))=iF:=by simpa using V
       have NM:ah (dS M row b lf (i+1)=dS M row b lf i):=by
        show _=_;rw[xT HX.o F.o];unfold km;rw[ai (by simp[*])]
        simp
       have Q:ah (eF b d.fH [] d.seq ((dS M row b lf (i+1)).map aq.fP)=X (bs,l,q)):=by show _=_;rw[NM.o];exact a.o
       clear NM a;go_wp2;go_roundw
       case rel=>exact⟨i+1,q,v,bs,l,_,rfl,rfl,by go_num,by omega,by omega,Q,H⟩
       case measure=>simp[intOf];omega
      have V:(xl !=(lf:Int))=iF:=by simpa using V
      have B:(xl==(lf:Int))=iV:=by simpa using V
      have e3:wr.cell? ⟨rb,ro+i*8+2+1,O⟩=X (I J W):=c3;have e4:wr.cell? ⟨rb,ro+i*8+2+2,O⟩=X (I J E):=c4;have e5:wr.cell? ⟨rb,ro+i*8+2+3,O⟩=X (I J D):=c5;have e6:wr.cell? ⟨rb,ro+i*8+2+4,O⟩=X (I J C):=c6;have e7:wr.cell? ⟨rb,ro+i*8+2+5,O⟩=X (iT pt):=c7;have hP:=az wr (iC #[I J pk,I J W,I J E,I J D,I J C,iT pt] 110);have bP:=aO wr (iC #[I J pk,I J W,I J E,I J D,I J C,iT pt] 110);have fP:(wr.alloc (iC #[I J pk,I J W,I J E,I J D,I J C,iT pt] 110)).frozen? ⟨wr.heap.size,1,O⟩=iF:=aL _ _ 1 _ _ hP;have kP:(wr.alloc (iC #[I J pk,I J W,I J E,I J D,I J C,iT pt] 110)).cell? ⟨wr.heap.size,1,O⟩=X (I J W):=am _ _ 1 _ _ _ hP;generalize a6:wr.alloc (iC #[I J pk,I J W,I J E,I J D,I J C,iT pt] 110)=wp at hP bP fP kP;have hQ:(wp.setCell ⟨wr.heap.size,1,O⟩ (I J q)).heap[wr.heap.size]?=X (iC #[I J pk,I J q,I J E,I J D,I J C,iT pt] 110 (0,0)):=bC _ _ 1 _ _ _ hP;have bQ:iL wr.heap.size wr (wp.setCell ⟨wr.heap.size,1,O⟩ (I J q)):=bP.setCell (p:=⟨wr.heap.size,1,O⟩) (ak _) _;generalize a7:wp.setCell ⟨wr.heap.size,1,O⟩ (I J q)=wq at hQ bQ;have q0:=am _ _ 0 _ _ _ hQ;have q1:=am _ _ 1 _ _ _ hQ;have q2:=am _ _ 2 _ _ _ hQ;have q3:=am _ _ 3 _ _ _ hQ;have q4:=am _ _ 4 _ _ _ hQ;have q5:=am _ _ 5 _ _ _ hQ;simp only[mH,tP,qY]at q0 q1 q2 q3 q4 q5;have y:=af (H.o.below bQ);obtain⟨vd,aR,rfl⟩:=y.o.2.2.1.rdb.form;have y9:wq.cell? ⟨c.heap.size+1,0,O⟩=X (Y vd bs.length aR):=am _ _ 0 _ _ _ y.o.2.1;have CP:=af (Dy (Y vd bs.length aR) _ bs l ⟨pk,q,E,D,C,pt⟩ c.heap.size (c.heap.size+1) wq y.o.2.2.2.2.1 (by omega) y.o.2.2.1 y.o.2.2.2.1 y.o.1.size (aJ.1 y.o.2.1).1)
      have ao:=af (Ba y.o.2.2.2.2.1 l ⟨pk,q,E,D,C,pt⟩);have ag:=sO bs l ⟨pk,q,E,D,C,pt⟩;have K:=af (@Vu bs l ⟨pk,q,E,D,C,pt⟩);have f:=af (λT=> @Y8 M row b lf i ⟨xb,xl,⟨pk,W,E,D,C,pt⟩⟩ d.fH bs l q d.seq (by omega) HX.o F.o A B a.o T)
      have j:=af (λT=> @Rq M row b lf i ⟨xb,xl,⟨pk,W,E,D,C,pt⟩⟩ d.fH bs l q d.seq HX.o F.o A B a.o T)
      unfold le at f j;simp only at f j;obtain⟨t,l8,av,h8⟩:∃t l8 av,cH bs l ⟨pk,q,E,D,C,pt⟩=(t,l8,av):=⟨_,_,_,rfl⟩;rw[h8]at CP ao K f j ag;simp only at ao K f j ag;unfold i7 at CP;simp only at CP;clear h8 H HX F a A B hP bP hQ bQ;go_wp2_with fail;clear a6 a7 e3 e4 e5 e6 e7 fP kP;refine CP.o.mono ?_;rintro e w8 ⟨v8,u8,rfl,r8,o8,k8⟩;obtain⟨aa,Z,rfl⟩:=r8.rdb.form;have b9:=aO w8 (iC #[Y aa t.length Z] 38);have h9:=az w8 (iC #[Y aa t.length Z] 38);have z9:=am _ _ 0 _ _ _ h9;simp only[mH,tP]at z9;generalize bk:w8.alloc (iC #[Y aa t.length Z] 38)=w9 at b9 z9;have k9:=k8.trans (cG.below b9);have W9:=af (y.o.put k9 (r8.keep b9.size (λx _ hx=>b9.block x hx)) (bu o8 b9) ao.o)
      have B9:ah (iL c.heap.size c w9):=y.o.1.trans (k9.down y.o.1.size (λx hx e=>by have:=(iq y.o.2.2.2.1 x e).1;omega))
      have ap:=y.o.cell k9;have z0:=ap.1;have z1:=ap.2;have O9:=af (bu o8 b9);clear ap r8 o8 k8 k9 b9 h9 CP y q0 q1 q2 q3 q4 q5 y9 c0 c1 c2 c3 c4 c5 c6 c7 cr;cases av with
      |false=>
       have HE:ah (R=([],iF)):=by show _=_;rw[k.o,f.o rfl]
       have FR:=ny (B3.o.trans (B9.o.mono B3.o.size)) w9.heap.size rfl;have FN:ah (iG w ([],iF) (G (iU #[Y (X ⟨w9.heap.size,0,O⟩) 0 0,iB iF])) (w9.alloc (iC #[] 184))):=⟨_,rfl,FR.1,FR.2⟩;clear k f j FR W9 O9 K z0 z1;go_wp2;refine aF (cE rfl _ _ _) rfl ?_;rw[HE.o];exact FN.o
      |true=>
       obtain⟨aB,s,e8⟩:=K.o rfl;subst e8;obtain⟨ug,uc,rfl,aK⟩:=XX O9.o;have a5:IntKind.i64.wrap (((l.length+1:Nat):Int)-1)=(l.length:Int):=by rw[cL];omega
       obtain⟨m,hm⟩:=an l.length;obtain⟨n,T⟩:=an (m+1);rw[hm,T]at a5;rw[hm]at aK;have bh:(0:Int)<=m:=by omega
       have bi:(m:Int)<n:=by omega
       have aS:=af hm;have a9:=af T;have a0:=af aB;rw[LO]at f j;have aA:=af W9.o;rw[hm,T]at aA;obtain⟨sb,L⟩:=an s.2.1;rw[L]at f j aK;rw[hm,T]at⊢;have bc:m<=lf*M.length+i:=by omega
       clear hm T K aB L ag W9 ar;by_cases S:(sb==b)=iV
       ·have L:sb=b:=by simpa using S
        have HE:ah (R=([],iF)):=by show _=_;rw[k.o,f.o (by rw[L];simp)]
        clear L;have FR:=ny (B3.o.trans (B9.o.mono B3.o.size)) w9.heap.size rfl;have FN:ah (iG w ([],iF) (G (iU #[Y (X ⟨w9.heap.size,0,O⟩) 0 0,iB iF])) (w9.alloc (iC #[] 184))):=⟨_,rfl,FR.1,FR.2⟩;clear k f j FR O9 z0 z1;go_wp2;refine aF (cE rfl _ _ _) rfl ?_;rw[HE.o];exact FN.o
       ·have aD:sb≠b:=by simpa using S
        have S:(sb==b)=iF:=by simpa using S
        have Q:=af (j.o (by simp[aD]))
        have bj:IntKind.i64.wrap (q+1)=q+1:=a0.o;clear f j k aD;go_wp2;go_roundw
        case rel=>
         refine⟨i+1,q+1,Y aa t.length Z,t,l++[s],_,rfl,by first|rfl|go_num,by go_num,by omega,by rw[aT];have:=aS.o;simp;omega,Q,?_⟩
         exact aA
        case measure=>simp[intOf];omega
    ·have Q:ah (eF b d.fH [] d.seq ((dS M row b (lf+1) 0).map aq.fP)=X (bs,l,q)):=by show _=_;rw[<-RV (i:=i) (by omega)];exact a.o
     clear a;go_wp2;go_roundw
     case rel=>exact⟨lf+1,q,v,bs,l,_,rfl,rfl,by go_num,by omega,by rw[Nat.add_mul];omega,Q,H⟩
     case measure=>simp[intOf];omega
  ·have HE:ah (R=(l,iV)):=by
    show _=_;have:lf=4:=by omega
    subst this;rw[k.o,a.o]
   clear k a;go_wp2;refine aF (cE rfl _ _ _) rfl ?_;rw[HE.o];exact⟨_,rfl,qM H.o.2.2.2.1 B3.o.size,B3.o.trans (H.o.1.mono B3.o.size)⟩
def lT(W:iW)(a:iX)(b:Nat)(o:Obj):Prop:=W.heap[b]?=X o/\a.ownBlock≠X b
theorem lT.lt{W:iW}{a:iX}{b:Nat}{o:Obj}(h:lT W a b o):b<W.heap.size:=(aJ.1 h.1).1
theorem lT.below{W W':iW}{a:iX}{b:Nat}{o:Obj}(h:lT W a b o)(c:iL W.heap.size W W'):lT W' a b o:=⟨(c.block b h.lt).trans h.1,h.2⟩
theorem lT.grown{W a y:iW}{c u:iX}{b:Nat}{o:Obj}(h:lT W c b o)(f:iL W.heap.size W a)(g:a.grownBy y c.ownBlock)(i:u.ownBlock=c.ownBlock∨∃q,u.ownBlock=X q/\a.heap.size<=q):lT y u b o:=by
 have h1:=h.below f;refine⟨(g.block b h1.lt (λe=>h.2 e.symm)).trans h1.1,?_⟩
 rcases i with e|⟨q,e,j⟩
 ·rw[e];exact h.2
 ·rw[e];intro d;injection d with d
  have:=h1.lt;omega
theorem lT.cell{W:iW}{a:iX}{b k:Nat}{cs:Array iX}{t:TypeId}{v:iX}(h:lT W a b (iC cs t (0,0)))(c:cs[k]?=X v):W.cell? ⟨b,k,O⟩=X v:=by
 rw[am _ _ k _ _ _ h.1];exact c
theorem J6(W:iW)(a b c d:Int)(g:Nat)(f:W.heap.size=g):∀(j:Nat) (u:iX),[I J a,I J b,I J c,I J d][j]?=X u->(W.alloc (iC #[I J a,I J b,I J c,I J d] 137)).cell? ((⟨g,0,O⟩:Addr).add j)=X u:=by
 intro j u e;subst f;rw[eX,am _ _ j _ _ _ (az W (iC #[I J a,I J b,I J c,I J d] 137))]
 match j,e with
 |0,e|1,e|2,e|3,e=>simpa using e
theorem Js(a b c d:Int):∀u∈ [I J a,I J b,I J c,I J d],u.oneCell'=iV:=by
 intro u e;simp at e;rcases e with h|h|h|h<;>subst h<;>rfl
theorem Wa(acc:List Rc)(a b c d:Int):cj (acc.map Rc.tu)++[I J a,I J b,I J c,I J d]=cj ((acc++[(⟨a,b,c,d⟩:Rc)]).map Rc.tu):=by
 rw[dB,Er];rfl
def nX(s:Sto)(k:Nat):List Rc:=⟨1,0,s.next,0⟩::(s.fV.take k).flatMap (pY s.fK)
variable{s:Sto}
theorem Tr(h:s.fV[k]?=X v):nX s (k+1)=(nX s k++[(⟨2,v.1,0,0⟩:Rc)])++jW v.1 (ce s.fK v.2) 16:=by
 obtain⟨h1,a⟩:=aD.1 h;rw[nX,nX,ge h1,a,tR];simp[pY]
def mI(w W:iW)(z:Nat)(b:Array iX)(a:iX)(l:List Rc):Prop:=W.ownsRow (w.heap.size+1) 137 4 a l.length (cj (l.map Rc.tu))/\iL w.heap.size w W/\lT W a z (iC b 44 (0,0))
theorem mI.below{w W W':iW}{b:Array iX}{c:iX}{l:List Rc}(h:mI w W z b c l)(a:iL W.heap.size W W'):mI w W' z b c l:=⟨bu h.1 a,h.2.1.trans (a.mono h.2.1.size),h.2.2.below a⟩
theorem mI.snoc{w W e y:iW}{g:Array iX}{f u:iX}{l:List Rc}{a c d:Int}(h:mI w W z g f l)(i:iL W.heap.size W e)(k:y.ownsRow (w.heap.size+1) 137 4 u (l.length+1) (cj (l.map Rc.tu)++[I J a,I J b,I J c,I J d]))(j:e.grownBy y f.ownBlock)(n:u.ownBlock=f.ownBlock∨∃q,u.ownBlock=X q/\e.heap.size<=q):mI w y z g u (l++[⟨a,b,c,d⟩]):=by
 have h1:=h.below i;rw[Wa]at k;exact⟨by rw[aT];exact k,h1.2.1.grown j h1.2.1.size (λq m=>by have:=(h1.1.lt q m).1;omega),h.2.2.grown i j n⟩
theorem mI.lt{w W:iW}{b:Array iX}{a:iX}{l:List Rc}(h:mI w W z b a l):∀q,a.ownBlock=X q->q<W.heap.size:=λq c=>(h.1.lt q c).2
def Yi(a:Array iX)(L:List Int):Prop:=∀(k:Nat) (x:Int),L[k]?=X x->a[k]?=X (I J x)
theorem On{W:iW}{v:iX}{L:List Int}(h:W.ownsRow B 3 1 v n (aE L))(h0:0<n):∃b cap a,v=Y (X ⟨b,0,O⟩) n cap/\B<=b/\W.heap[b]?=X (iC a 3 (0,0))/\Yi a L:=by
 have e:=h;rcases h.2 with⟨rfl,q⟩|⟨g,cap,a,rfl,d,c,h4,i,j,l⟩
 ·omega
 ·refine⟨g,cap,a,rfl,d,c,λk x f=>?_⟩
  have:=e.cells (g:=g) rfl k _ (lJ f);rw[eX,am _ _ k _ _ _ c]at this;exact this
theorem WY (w:World) {o:Oper} {Q:Exit->Act->World->Prop} (A:o.guard=none) (s x:Operand) (t:TypeId)
 (I:o.op=.call {callee:=.builtin .append,args:= #[s,x],argTypes:= #[t,t]})
 (base:Nat) (e:TypeId) (i:TypeInfo) (z:Value) (size d:Nat) (L:P.underlying t=some (.slice e)) (hi:P.info? e=some i) (O:i.zero=some z)
 (l:i.size=size) (y:i.bytes=d) (C:z.cells.size=size) (B:0<size)
 (v:Value) (n:Nat) (xs:List Value) (hs:a.eval s=v) (q:w.ownsRow base e size v n xs)
 (ad:Addr) (m c:Nat) (b:List Value) (N:a.eval x=.slice (some ad) m c) (H:b.length=m*size) (k:∀j u,b[j]?=some u->w.cell? (ad.add j)=some u) (h1:∀u∈b,u.oneCell'=true)
 (r:n+m<=maxLen) (f:(n+m)*d<=140737488355328) (g:base<=w.heap.size)
 (h:∀p w',w'.ownsRow base e size p (n+m) (xs++b)->w.grownBy w' v.ownBlock->(p.ownBlock=v.ownBlock∨p.ownBlock=some w.heap.size)->K (a.put o.dst p) w'):
 if Region.wanted o (yielded ops a.tmps)=true then Oper.wp P o a w K Q else E:=by
 have M:Region.wanted o (yielded ops a.tmps)=true:=by simp[Region.wanted,A]
 rw[aj M];obtain⟨p,w',J,D,F,_,G⟩:=run_append_own_at (P:=P) w base t o.type e i z size d L hi O l y C B v n xs q ad m c b H k h1 r f g;unfold Oper.wp execOp;simp only[I,resolve,invoke,builtin,tI,uQ,uy,vz,cD,nZ,hs,N,J];exact h p w' D F G
theorem Ni(a:List Kn):∀vs:List (Int×Int),(vs.flatMap (pY a)).length<=17*vs.length:=by
 intro vs
 induction vs with
 |nil=>simp
 |cons v vs b=>
  have h1:(jW v.1 (ce a v.2) 16).length<=16:=by
   unfold jW;exact bR (xQ _ _) (by simp)
  simp only[qn,aT,aR,pY];omega
theorem V9(s:Sto):(gZ s).length<=1+17*s.fV.length:=by
 have:=Ni s.fK s.fV;simp only[gZ,aR];omega
def sC(w W:iW)(z:Nat)(d:Array iX)(b:iX)(l:List Rc)(c:Nat)(a:Array iX):Prop:=mI w W z d b l/\lT W b c (iC a 3 (0,0))
theorem sC.snoc{w W f y:iW}{i:Nat}{j e:Array iX}{g u:iX}{l:List Rc}{a c d:Int}(h:sC w W z j g l i e)(k:iL W.heap.size W f)(o:y.ownsRow (w.heap.size+1) 137 4 u (l.length+1) (cj (l.map Rc.tu)++[I J a,I J b,I J c,I J d]))(m:f.grownBy y g.ownBlock)(n:u.ownBlock=g.ownBlock∨∃q,u.ownBlock=X q/\f.heap.size<=q):sC w y z j u (l++[⟨a,b,c,d⟩]) i e:=⟨h.1.snoc k o m n,h.2.grown k m n⟩
theorem UB:WR 141:=by
 rintro v s w ⟨F,f,vc,ad,d,cap,rs,rfl,ab,aQ,hl,al,aG,h,hk⟩;have HV:=af h;have T:=af h.1;have HK:=af hk;have aw:=af ab;obtain⟨nx,K⟩:=an s.next;have aA:=af K;obtain⟨i0,hi,ap,aq,ar⟩:=bK Ae;have I0:=af hi;have Y0:=af ap;have Y1:=af aq;have Y2:=af ar;have B0:=af (aO w (.cells #[.slice F f vc,.slice ad d cap,.int .i64 nx] 44));have R0:=af (az w (.cells #[.slice F f vc,.slice ad d cap,.int .i64 nx] 44));have N:=af (show(w.alloc (.cells #[.slice F f vc,.slice ad d cap,.int .i64 nx] 44)).heap.size=w.heap.size+1 by simp)
 unfold eC;rw[K];clear h hk al aG ab K hi ap aq ar;go_enter Tryz.func141,Tryz.ntmps141;go_wp2_with fail;generalize w.alloc (.cells #[.slice F f vc,.slice ad d cap,.int .i64 nx] 44)=wb at B0 R0 N⊢;have B1:=af (aO wb (.cells #[.int .i64 1,.int .i64 0,.int .i64 nx,.int .i64 0] 137));have X:ah (mI w (wb.alloc (.cells #[.int .i64 1,.int .i64 0,.int .i64 nx,.int .i64 0] 137)) w.heap.size #[.slice F f vc,.slice ad d cap,.int .i64 nx] (.slice (some ⟨w.heap.size+1,0,none⟩) 1 1) [⟨1,0,nx,0⟩]):=by
  refine⟨?_,B0.o.trans (B1.o.mono B0.o.size),(B1.o.block w.heap.size (by have:=N.o;omega)).trans R0.o,λe=>?_⟩
  ·rw[<-N.o];exact⟨rfl,.inr ⟨wb.heap.size,1,_,rfl,by have:=N.o;omega,az wb _,ak _,by unfold maxLen;omega,rfl,rfl⟩⟩
  ·have:=N.o;simp only[Value.ownBlock,fu]at e;omega
 generalize wb.alloc (.cells #[.int .i64 1,.int .i64 0,.int .i64 nx,.int .i64 0] 137)=w1 at B1 X⊢;have aH:=af (show w.heap.size+1=wb.heap.size from N.o.symm);obtain⟨z,hz⟩:=an w.heap.size;have aJ:=af hz;rw[hz]at X⊢;clear hz;have aC:w1.cell? ⟨z,0,none⟩=some (.slice F f vc):=X.o.2.2.cell rfl;go_wp2_with fail;go_loopw [3,4] (λO kv W=>∃(k:Nat) (l:List Rc),k<=f/\kv=.int .i64 k/\l.length<=17*k+1/\ah (l=nX s k)/\ah (mI w W z #[.slice F f vc,.slice ad d cap,.int .i64 nx] O l)) (λ_ kv _=>f-(intOf kv).toNat)
 case atStart=>exact⟨0,[⟨1,0,nx,0⟩],aI _,rfl,ak _,(by rw[<-aA.o];rfl:[⟨1,0,nx,0⟩]=nX s 0),X⟩
 case round=>
  obtain⟨k,l,aM,rfl,al,HL,y⟩:=hrel;clear X aC;by_cases aP:(k:Int)<f
  ·obtain⟨v,hv⟩:∃v,s.fV[k]?=some v:=⟨_,ay (by have:=T.o;omega)⟩
   obtain⟨b,a,e,hb,A,c1⟩:=(HV.o.below y.o.2.1).at hv;subst e;have k0:(0:Int)<=k:=by omega
   have p:=af (Tr hv);obtain⟨c,y1⟩:=v;simp only at A c1 p;have C:=af (aO wr (.cells #[.int .i64 2,.int .i64 c,.int .i64 0,.int .i64 0] 137));have V:=af (bu y.o.1 C.o);have r:ah (w.heap.size+1<=(wr.alloc (.cells #[.int .i64 2,.int .i64 c,.int .i64 0,.int .i64 0] 137)).heap.size):=by
    have:=y.o.2.1.size;show _<=_;simp;omega
   have P:=af (J6 wr 2 c 0 0 wr.heap.size rfl);have z0:wr.cell? ⟨z,0,none⟩=some (.slice (some ⟨b,a,none⟩) f vc):=y.o.2.2.cell rfl;go_wp2_with (at_builtin;refine wpList_append_own_at _ rfl _ _ 94 rfl (w.heap.size+1) 137 i0 (.agg #[.int .i64 0,.int .i64 0,.int .i64 0,.int .i64 0]) 4 32 Tryz.underlying94 I0.o Y0.o Y1.o Y2.o rfl (by decide) _ _ _ rfl V.o ⟨wr.heap.size,0,none⟩ 1 1 [Value.int .i64 2,Value.int .i64 c,Value.int .i64 0,Value.int .i64 0] rfl rfl P.o (Js _ _ _ _) ?c1 ?c2 ?c3 ?_)
   case c1=>unfold maxLen;omega
   case c2=>omega
   case c3=>exact r.o
   intro u2 G o2 g2 _ hu;have am:u2.ownBlock=u3.ownBlock∨∃q,u2.ownBlock=some q/\(wr.alloc (.cells #[.int .i64 2,.int .i64 c,.int .i64 0,.int .i64 0] 137)).heap.size<=q:=by
    rcases hu with e|e
    ·exact .inl e
    ·exact .inr ⟨_,e,by simp⟩
   have D:=af (y.o.snoc C.o o2 g2 am);clear o2 g2 hu am V r P C A c1 y z0;have d0:G.cell? ⟨z,0,none⟩=some (.slice (some ⟨b,a,none⟩) f vc):=D.o.2.2.cell rfl;have d1:G.cell? ⟨z,1,none⟩=some (.slice ad d cap):=D.o.2.2.cell rfl;obtain⟨b',E,t,aE,A,c1⟩:=(HV.o.below D.o.2.1).at hv;injection t with t
   injection t with e1 e2
   subst e1 e2;simp only at A c1;have l0:=bh G _ d0;have l1:=bh G _ d1;have l2:=bh G _ c1;have CA:=af (yD ad d cap rs y1 G.drew (by omega) (HK.o.below D.o.2.1.drew))
   rw[<-aw.o]at CA;have B:(ce s.fK y1).length=16:=pF _ _;obtain⟨L,hL⟩:=an (ce s.fK y1);rw[hL]at CA B p;have aF:(l++[(⟨2,c,0,0⟩:Rc)]).length<=17*k+2:=by simp;omega
   have R:ah (l++[(⟨2,c,0,0⟩:Rc)]=nX s k++[⟨2,c,0,0⟩]):=by show _=_;rw[HL.o]
   generalize l++[(⟨2,c,0,0⟩:Rc)]=i at D aF R;clear hL;have S:=af hv;clear hv;go_wp2;go_region_held3 (λw'=>w'.cell? ⟨z,0,none⟩=some (.slice (some ⟨b,a,none⟩) f vc)/\w'.cell? ⟨z,1,none⟩=some (.slice ad d cap)/\w'.cell? ⟨b,a+k*2+1,none⟩=some (.int .i64 y1)) (first|exact⟨d0,d1,c1⟩|exact U.o) ((go_at_call 100;(with_reducible refine dq CA.o ?_);rintro en w3 ⟨av,rfl,ao,Y⟩;have U:ah (w3.cell? ⟨z,0,none⟩=some (.slice (some ⟨b,a,none⟩) f vc)/\w3.cell? ⟨z,1,none⟩=some (.slice ad d cap)/\w3.cell? ⟨b,a+k*2+1,none⟩=some (.int .i64 y1)):=⟨(Y.cell l0).trans d0,(Y.cell l1).trans d1,(Y.cell l2).trans c1⟩))
   rw[B]at ao;obtain⟨I,ac,J,rfl,aD,Z,aa⟩:=On ao (by omega)
   have S3:ah (sC w w3 z #[.slice (some ⟨b,a,none⟩) f vc,.slice ad d cap,.int .i64 nx] u2 i I J):=⟨(D.o.below (ax _ _).drew).below Y,Z,λe=>by have:=D.o.lt _ e;have h9:G.drew.heap.size=G.heap.size:=rfl;omega⟩
   have HN:=af aa;have au:=af B;clear ao aD Z aa Y CA D U A c1 d0 d1 l0 l1 l2 B;go_wp2;go_loopw [3,6] (λO jv W=>∃(j:Nat) (m:List Rc),j<=16/\jv=.int .i64 j/\m.length<=17*k+2+j/\ah (m=i++jW c L j)/\ah (sC w W z #[.slice (some ⟨b,a,none⟩) f vc,.slice ad d cap,.int .i64 nx] O m I J)) (λ_ jv _=>16-(intOf jv).toNat)
   case atStart=>exact⟨0,i,aI _,rfl,by omega,(by simp[jW]:i=i++jW c L 0),S3⟩
   case round=>
    obtain⟨j,m,hj,rfl,aN,H,g⟩:=hrel;clear S3;by_cases aL:(j:Int)<16
    ·obtain⟨x,hx⟩:∃x,L[j]?=some x:=⟨_,ay (by have:=au.o;omega)⟩
     have cx:wr.cell? ⟨I,j,none⟩=some (.int .i64 x):=g.o.2.cell (HN.o j x hx);have z0:wr.cell? ⟨z,0,none⟩=some (.slice (some ⟨b,a,none⟩) f vc):=g.o.1.2.2.cell rfl;obtain⟨b',E,t,aE,A,-⟩:=(HV.o.below g.o.1.2.1).at S.o;injection t with t
     injection t with e1 e2
     subst e1 e2;simp only at A;have FT:ah (jW c L (j+1)=jW c L j++(if 0<x then[⟨4,c,(j:Int),x⟩]else[])):=by
      show _=_;rw[Jx,hx];rfl
     have j0:(0:Int)<=j:=by omega
     have HX:=af hx;clear hx;by_cases aK:1<=x
     ·have n:ah (m++[(⟨4,c,(j:Int),x⟩:Rc)]=i++jW c L (j+1)):=by
       show _=_;rw[FT.o,aj (by omega),<-fJ,<-H.o]
      have C:ah (Below wr.heap.size wr (wr.alloc (.cells #[.int .i64 4,.int .i64 c,.int .i64 j,.int .i64 x] 137)).drew):=(aY).drew;have V:=af (bu g.o.1.1 C.o);have r:ah (w.heap.size+1<=(wr.alloc (.cells #[.int .i64 4,.int .i64 c,.int .i64 j,.int .i64 x] 137)).drew.heap.size):=by
       have:=g.o.1.2.1.size;have h9:(wr.alloc (.cells #[.int .i64 4,.int .i64 c,.int .i64 j,.int .i64 x] 137)).drew.heap.size=wr.heap.size+1:=by simp[World.drew]
       show _<=_;omega
      have P:ah (∀(q:Nat) (u:Value),[Value.int .i64 4,Value.int .i64 c,Value.int .i64 j,Value.int .i64 x][q]?=some u->(wr.alloc (.cells #[.int .i64 4,.int .i64 c,.int .i64 j,.int .i64 x] 137)).drew.cell? ((⟨wr.heap.size,0,none⟩:Addr).add q)=some u):=J6 wr 4 c j x wr.heap.size rfl;have z1:=bh wr _ z0;have z2:=bh wr _ A;have z3:=bh wr _ cx;have KZ:ah (∀(W:World) (O:Value),sC w W z #[.slice (some ⟨b,a,none⟩) f vc,.slice ad d cap,.int .i64 nx] O (m++[(⟨4,c,(j:Int),x⟩:Rc)]) I J->W.cell? ⟨z,0,none⟩=some (.slice (some ⟨b,a,none⟩) f vc)/\W.cell? ⟨b,a+k*2,none⟩=some (.int .i64 c)/\W.cell? ⟨I,j,none⟩=some (.int .i64 x)):=by
       intro W O hW;refine⟨hW.1.2.2.cell rfl,?_,hW.2.cell (HN.o j x HX.o)⟩;obtain⟨b',E,t,-,c9,-⟩:=(HV.o.below hW.1.2.1).at S.o;injection t with t
       injection t with e1 e2
       subst e1 e2;exact c9
      go_wp2;go_region_held3 (λw'=>w'.cell? ⟨z,0,none⟩=some (.slice (some ⟨b,a,none⟩) f vc)/\w'.cell? ⟨b,a+k*2,none⟩=some (.int .i64 c)/\w'.cell? ⟨I,j,none⟩=some (.int .i64 x)) (first|go_keep|exact U.o) ((refine WY _ (by rfl) (.tmp 48) (.tmp 61) 94 (by rfl) (w.heap.size+1) 137 i0 (.agg #[.int .i64 0,.int .i64 0,.int .i64 0,.int .i64 0]) 4 32 Tryz.underlying94 I0.o Y0.o Y1.o Y2.o rfl (by decide) _ m.length (cj (m.map Rc.tu)) (by simp[Act.eval]) V.o ⟨wr.heap.size,0,none⟩ 1 1 [Value.int .i64 4,Value.int .i64 c,Value.int .i64 j,Value.int .i64 x] (by simp[Act.eval]) rfl P.o (Js _ _ _ _) (by unfold maxLen;omega) (by omega) r.o ?_;intro u4 w4 o4 g4 hu;have M:u4.ownBlock=u3.ownBlock∨∃q,u4.ownBlock=some q/\(wr.alloc (.cells #[.int .i64 4,.int .i64 c,.int .i64 j,.int .i64 x] 137)).drew.heap.size<=q:=(by rcases hu with e|e;exact .inl e;exact .inr ⟨_,e,ak _⟩);have U:ah (w4.cell? ⟨z,0,none⟩=some (.slice (some ⟨b,a,none⟩) f vc)/\w4.cell? ⟨b,a+k*2,none⟩=some (.int .i64 c)/\w4.cell? ⟨I,j,none⟩=some (.int .i64 x)):=KZ.o _ _ (g.o.snoc C.o o4 g4 M)))
      have NX:=af (g.o.snoc C.o o4 g4 M);have ae:(m++[(⟨4,c,(j:Int),x⟩:Rc)]).length<=17*k+2+(j+1):=by simp;omega
      generalize m++[(⟨4,c,(j:Int),x⟩:Rc)]=l4 at n NX ae;clear o4 g4 hu M g V r P C U KZ z0 z1 z2 z3 A cx HX;go_wp2;go_roundw
      case rel=>exact⟨j+1,l4,by omega,by go_num,ae,n,NX⟩
      case measure=>simp[intOf];omega
     ·have n:ah (m=i++jW c L (j+1)):=by
       show _=_;rw[FT.o,ai (by omega),eM,<-H.o]
      go_wp2;go_roundw
      case rel=>exact⟨j+1,m,by omega,by go_num,by omega,n,g⟩
      case measure=>simp[intOf];omega
    ·have n:ah (m=nX s (k+1)):=by
      show _=_;have e:j=16:=by omega
      rw[p.o,H.o,R.o,e]
     have aB:=af g.o.1;go_wp2;go_roundw
     case rel=>exact⟨k+1,m,by omega,by go_num,by omega,n,aB⟩
     case measure=>simp[intOf];omega
  ·have HE:ah (l=gZ s):=by
    show _=_;rw[HL.o,nX,cm (by have:=T.o;omega)]
    rfl
   have Q:ah (wr.ownsRow w.heap.size 137 4 u3 (gZ s).length (cj ((gZ s).map Rc.tu))/\Below w.heap.size w wr):=by
    rw[<-HE.o];exact⟨nO y.o.1 (by omega),y.o.2.1⟩
   have z0:wr.cell? ⟨z,0,none⟩=some (.slice F f vc):=y.o.2.2.cell rfl;go_wp2;go_ret;exact⟨_,rfl,Q.o.1,Q.o.2⟩
theorem YI(x:iX)(d:Dv)(w:iW)(h:fU w x d)(T:d.fS.fV.length<=1048576):iK Tryz.prog 111 #[x] w (iG w (dY d (gZ d.fS) aK)):=by
 have A:=h;obtain⟨b,a,f,g,vc,ad,c,cap,rfl,h1,S,y⟩:=h.form;have p:=aO w (iC #[Y b d.fH.length a,Y f g vc,Y ad c cap,I J d.fS.next,I J d.seq,I J d.tx,I J d.base] 46);have r:aP (w.alloc (iC #[Y b d.fH.length a,Y f g vc,Y ad c cap,I J d.fS.next,I J d.seq,I J d.tx,I J d.base] 46)) w.heap.size (Y b d.fH.length a) (Y f g vc) (Y ad c cap) d.fS.next d.seq d.tx d.base:=az _ _;generalize U:w.alloc (iC #[Y b d.fH.length a,Y f g vc,Y ad c cap,I J d.fS.next,I J d.seq,I J d.tx,I J d.base] 46)=wa at p r;have q:iL w.heap.size w wa.drew:=p.drew;have s:=r.below (w':=wa.drew) (ax _ _).drew;have t:=af (UB _ d.fS wa.drew (y.below q));have k:ah ((gZ d.fS).length<=33554432):=by
  have:=V9 d.fS;show _<=_;omega
 have M:=af A;have v:=af q;have N:(wa.drew.cell? ⟨w.heap.size,0,O⟩=X (Y b d.fH.length a)/\wa.drew.cell? ⟨w.heap.size,1,O⟩=X (Y f g vc)/\wa.drew.cell? ⟨w.heap.size,2,O⟩=X (Y ad c cap)/\wa.drew.cell? ⟨w.heap.size,3,O⟩=X (I J d.fS.next)/\wa.drew.cell? ⟨w.heap.size,4,O⟩=X (I J d.seq)/\wa.drew.cell? ⟨w.heap.size,5,O⟩=X (I J d.tx)/\wa.drew.cell? ⟨w.heap.size,6,O⟩=X (I J d.base)):=s.cells;have u:=af s;obtain⟨L,z⟩:=an (gZ d.fS);rw[z]at t k⊢;clear z p r q s h h1 S y A T;go_enter Tryz.func111,Tryz.ntmps111;go_wp2_with fail;go_region_held3 (λw'=>(w'.cell? ⟨w.heap.size,0,O⟩=X (Y b d.fH.length a)/\w'.cell? ⟨w.heap.size,1,O⟩=X (Y f g vc)/\w'.cell? ⟨w.heap.size,2,O⟩=X (Y ad c cap)/\w'.cell? ⟨w.heap.size,3,O⟩=X (I J d.fS.next)/\w'.cell? ⟨w.heap.size,4,O⟩=X (I J d.seq)/\w'.cell? ⟨w.heap.size,5,O⟩=X (I J d.tx)/\w'.cell? ⟨w.heap.size,6,O⟩=X (I J d.base))) (first|(with_reducible exact N)|(with_reducible exact P)|(with_reducible exact Q)|go_keep) (first
  |(go_at_call 141;refine t.o.mono ?_;rintro e i ⟨rv,rfl,B,m⟩;obtain⟨V,W,rfl,C⟩:=j8.of_own (by rw[aS]) B;have l:=af (v.o.trans (m.mono v.o.size));have P:(i.cell? ⟨w.heap.size,0,O⟩=X (Y b d.fH.length a)/\i.cell? ⟨w.heap.size,1,O⟩=X (Y f g vc)/\i.cell? ⟨w.heap.size,2,O⟩=X (Y ad c cap)/\i.cell? ⟨w.heap.size,3,O⟩=X (I J d.fS.next)/\i.cell? ⟨w.heap.size,4,O⟩=X (I J d.seq)/\i.cell? ⟨w.heap.size,5,O⟩=X (I J d.tx)/\i.cell? ⟨w.heap.size,6,O⟩=X (I J d.base)):=(u.o.below m).cells;have K:=af (u.o.below m);have E:=af (Kc _ d V L.length W L aK i (M.o.below l.o) k.o C);clear B C m)
  |(go_at_call 50;refine E.o.mono ?_;rintro e j ⟨Z,rfl,D,n⟩;have F:=af (l.o.trans (n.mono l.o.size));have Q:(j.cell? ⟨w.heap.size,0,O⟩=X (Y b d.fH.length a)/\j.cell? ⟨w.heap.size,1,O⟩=X (Y f g vc)/\j.cell? ⟨w.heap.size,2,O⟩=X (Y ad c cap)/\j.cell? ⟨w.heap.size,3,O⟩=X (I J d.fS.next)/\j.cell? ⟨w.heap.size,4,O⟩=X (I J d.seq)/\j.cell? ⟨w.heap.size,5,O⟩=X (I J d.tx)/\j.cell? ⟨w.heap.size,6,O⟩=X (I J d.base)):=(K.o.below n).cells;have R:=af D;clear D n))
 all_goals
  have H:ah (iG w (dY d L aK) (G (iU #[Z,iB (dY d L aK).2])) j):=⟨_,rfl,qM R.o l.o.size,F.o⟩;go_wp2;refine aF (cE rfl _ _ _) rfl ?_;exact H.o
theorem Hj:(Tryz.prog.info? 129).map (λi=>(i.zero,i.size,i.bytes))=X (X (iA #[I J 0,I J 0,Y O 0 0]),3,40):=by kernel_rfl
theorem Ol:(Tryz.prog.info? 129).map (·.size)=X 3:=by kernel_rfl
abbrev Xw:=Int×Int×iX×List (Int×Int×Int×Int)
def uL(t:Xw):List iX:=[I J t.1,I J t.2.1,t.2.2.1]
def jK(l:List Xw):List iX:=l.flatMap uL
def dw(t:Xw):Int×Int×List (Int×Int×Int×Int):=(t.1,t.2.1,t.2.2.2)
def Words.TxR.tu(x:TxR):Int×Int×List (Int×Int×Int×Int):=(x.num,x.seq,x.fR.map Rc.tu)
theorem Wm(a b:List Xw):jK (a++b)=jK a++jK b:=by simp[jK]
theorem Xp(t:Xw)(l:List Xw):jK (t::l)=uL t++jK l:=by simp[jK]
theorem Kj(l:List Xw)(t:Xw):jK l++uL t=jK (l++[t]):=by rw[Wm];simp[jK]
theorem Sl(l:List Xw)(k:Nat)(t:Xw)(h:l[k]?=X t)(j:Nat)(v:iX)(b:(uL t)[j]?=X v):(jK l)[k*3+j]?=X v:=by
 have c:j<3:=(aD.1 b).1
 induction l generalizing k with
 |nil=>simp at h
 |cons a l d=>
  rw[Xp];cases k with
  |zero=>
   simp at h;subst h;rw[lz (by show _<3;omega),lq,dK]
   exact b
  |succ k=>
   rw[dz (by show 3<=_;omega),show(k+1)*3+j-(uL a).length=k*3+j by show _-3=_;omega]
   exact d k (by simpa using h)
def oR(W:iW)(v:iX)(ls:List (Int×Int×Int×Int)):Prop:=∃a c,v=Y a ls.length c/\(a=O->c=0)/\j8 W a ls.length ls
theorem oR.below{W W':iW}{v:iX}{ls:List (Int×Int×Int×Int)}(h:oR W v ls)(b:iL W.heap.size W W'):oR W' v ls:=by
 obtain⟨a,c,e,h1,d⟩:=h;exact⟨a,c,e,h1,d.below b⟩
theorem oR.of{hi:Nat}{v:iX}{ls:List (Int×Int×Int×Int)}{W:iW}(h:aB 137 lo hi v ls.length (cj ls) W)(b:ls.length<=maxLen)(k:hi<=W.heap.size):oR W v ls:=by
 rcases h with⟨rfl,h0⟩|⟨g,cap,rfl,h1,f,c⟩
 ·exact⟨O,0,by rw[h0],λ_=>rfl,rfl,b,by simp,λh=>by omega⟩
 ·refine⟨_,_,rfl,(λe=>by cases e),rfl,b,by simp,λ_=>⟨g,0,rfl,by omega,λi t hi=>?_⟩⟩
  have a:=λj v d=>c.cell (Bt ls i t hi j v d)
  refine⟨?_,?_,?_,?_⟩
  ·simpa using a 0 _ rfl
  ·simpa using a 1 _ rfl
  ·simpa using a 2 _ rfl
  ·simpa using a 3 _ rfl
def qB(W:iW)(ad:Option Addr)(c:Nat)(rs:List Xw):Prop:=
 rs.length=c/\c<=maxLen/\(∀r∈rs,oR W r.2.2.1 r.2.2.2)/\(0<c->∃b a,ad=X ⟨b,a,O⟩/\b<W.heap.size/\∀i r,rs[i]?=X r->W.cell? ⟨b,a+i*3,O⟩=X (I J r.1)/\W.cell? ⟨b,a+i*3+1,O⟩=X (I J r.2.1)/\W.cell? ⟨b,a+i*3+2,O⟩=X r.2.2.1)
theorem qB.below{W W':iW}{c:Nat}{rs:List Xw}(h:qB W ad c rs)(a:iL W.heap.size W W'):qB W' ad c rs:=by
 obtain⟨h1,j,k,h4⟩:=h;refine⟨h1,j,λr m=>(k r m).below a,λh0=>?_⟩
 obtain⟨b,f,e,d,l⟩:=h4 h0;have hs:=a.size;refine⟨b,f,e,by omega,λi t n=>?_⟩
 obtain⟨g,c1,c2⟩:=l i t n;exact⟨(a.cell (show b<W.heap.size from d)).trans g,(a.cell (show b<W.heap.size from d)).trans c1,(a.cell (show b<W.heap.size from d)).trans c2⟩
theorem qB.at{W:iW}{c:Nat}{rs:List Xw}(h:qB W ad c rs){r:Xw}(d:rs[k]?=X r):
 ∃b a,ad=X ⟨b,a,O⟩/\b<W.heap.size/\W.cell? ⟨b,a+k*3,O⟩=X (I J r.1)/\W.cell? ⟨b,a+k*3+1,O⟩=X (I J r.2.1)/\W.cell? ⟨b,a+k*3+2,O⟩=X r.2.2.1:=by
 obtain⟨h1,-,-,h4⟩:=h;have j:=(aD.1 d).1;obtain⟨b,a,e,g,i⟩:=h4 (by omega)
 obtain⟨f,c1,c2⟩:=i k r d;exact⟨b,a,e,g,f,c1,c2⟩
def La(rs:List Xw):Prop:=rs.Pairwise (λa b=>∀g,a.2.2.1.ownBlock=X g->b.2.2.1.ownBlock≠X g)
def fb(W:iW)(B:Nat)(v:iX)(rs:List Xw):Prop:=
 W.ownsRow B 129 3 v rs.length (jK rs)/\(∀r∈rs,aB 137 B W.heap.size r.2.2.1 r.2.2.2.length (cj r.2.2.2) W/\r.2.2.2.length<=maxLen)/\La rs
def qT(lo hi:Nat)(v:iX)(rs:List Xw)(W:iW):Prop:=
 aB 129 lo hi v rs.length (jK rs) W/\(∀r∈rs,aB 137 lo hi r.2.2.1 r.2.2.2.length (cj r.2.2.2) W/\r.2.2.2.length<=maxLen)/\La rs/\rs.length<=maxLen
theorem Cs{w:iW}{cs b:Array iX}(h:w.heap[g]?=X (iC cs 137 (0,0)))(a:w.heap[g]?=X (iC b 129 (0,0))):False:=by
 rw[h]at a;injection a with a
 injection a with _ a
 simp at a
theorem fb.below{W W':iW}{v:iX}{rs:List Xw}(h:fb W B v rs)(b:iL W.heap.size W W'):fb W' B v rs:=
 ⟨bu h.1 b,λr a=>⟨((h.2.1 r a).1.blw b).up b.size,(h.2.1 r a).2⟩,h.2.2⟩
theorem fb.down{W:iW}{v:iX}{rs:List Xw}(h:fb W B v rs)(a:B'<=B):fb W B' v rs:=
 ⟨nO h.1 a,λr b=>⟨(h.2.1 r b).1.dn a,(h.2.1 r b).2⟩,h.2.2⟩
theorem fb.empty(W:iW)(B:Nat)(a:B<=W.heap.size):fb (W.alloc (iC #[] 129)) B (Y (X ⟨W.heap.size,0,O⟩) 0 0) []:=
 ⟨⟨rfl,.inr ⟨W.heap.size,0,#[],rfl,a,az W _,ak _,by unfold maxLen;omega,rfl,rfl⟩⟩,(λ_ h=>by cases h),List.Pairwise.nil⟩
theorem fb.snoc {W0 W y:iW} {v u':iX} {rs:List Xw} {r:Xw} (h0:fb W0 B v rs) (s:iL W0.heap.size W0 W) (o:B<=W0.heap.size) (k:aB 137 W0.heap.size W.heap.size r.2.2.1 r.2.2.2.length (cj r.2.2.2) W) (w:r.2.2.2.length<=maxLen)
 (d:W.grownBy y v.ownBlock) (z:y.ownsRow B 129 3 u' (rs++[r]).length (jK (rs++[r]))):fb y B u' (rs++[r]):=by
 have h:=h0.below s;have u:=fQ h.1;have i:∀(t:iX) (g:Nat),v.ownBlock=X g->∀{lo hi n:Nat} {xs:List iX},aB 137 lo hi t n xs W->t.ownBlock≠X g:=by
  intro t g d lo hi n xs hs e;obtain⟨-,-,cs,q⟩:=u g d;obtain⟨-,-,l,q'⟩:=hs.lt g e;exact Cs q' q
 refine⟨z,?_,?_⟩
 ·intro x c;rcases br.1 c with c|c
  ·exact⟨((h.2.1 x c).1.grown d (λg e f=>i _ g f (h.2.1 x c).1 e)).up d.size,(h.2.1 x c).2⟩
  ·simp only[bT]at c;subst c;exact⟨((k.grown d (λg e f=>i _ g f k e)).dn o).up d.size,w⟩
 ·refine eW.2 ⟨h.2.2,mA _ _,?_⟩;intro a p b j g m f;simp only[bT]at j;subst j;have A:=((h0.2.1 a p).1.lt g m).2.1;have C:=(k.lt g f).1;omega
theorem fb.form{W:iW}{v:iX}{rs:List Xw}(h:fb W B v rs):∃ad c,v=Y ad rs.length c:=by
 rcases h.1.2 with⟨rfl,h0⟩|⟨g,cap,a,rfl,-⟩
 ·exact⟨_,_,by rw[h0]⟩
 ·exact⟨_,_,rfl⟩
theorem fb.len{W:iW}{v:iX}{rs:List Xw}(h:fb W B v rs):rs.length<=maxLen:=by
 rcases h.1.2 with⟨rfl,h0⟩|⟨g,cap,a,rfl,-,-,h1,b,-⟩
 ·rw[h0];unfold maxLen;omega
 ·omega
theorem fb.txs{W:iW}{v:iX}{rs:List Xw}(h:fb W B v rs):qT B W.heap.size v rs W:=⟨aB.of h.1,h.2.1,h.2.2,h.len⟩
theorem qT.rd{W:iW}{hi:Nat}{rs:List Xw}(h:qT lo hi (Y ad n c) rs W)(l:rs.length=n)(f:hi<=W.heap.size):qB W ad n rs:=by
 obtain⟨h1,b,o,h4⟩:=h;refine⟨l,by omega,λr d=>oR.of (b r d).1 (b r d).2 f,λh0=>?_⟩
 rcases h1 with⟨e,q⟩|⟨g,cap,e,p,s,m⟩
 ·omega
 ·injection e with e1 e2 e3
  refine⟨g,0,e1,by omega,λi r hi=>?_⟩
  have a:=λj v k=>m.cell (Sl rs i r hi j v k)
  refine⟨?_,?_,?_⟩
  ·simpa using a 0 _ rfl
  ·simpa using a 1 _ rfl
  ·simpa using a 2 _ rfl
theorem qT.loc(lo hi:Nat)(v:iX)(rs:List Xw):lM lo hi (qT lo hi v rs):=by
 intro w w' a h;exact⟨aB.loc _ _ _ _ _ _ w w' a h.1,λr b=>⟨aB.loc _ _ _ _ _ _ w w' a (h.2.1 r b).1,(h.2.1 r b).2⟩,h.2.2⟩
def xL(w:iW)(L:List TxR)(e:Ending)(w':iW):Prop:=
 ∃a rs,e=G a/\fb w' w.heap.size a rs/\rs.map dw=L.map TxR.tu/\iL w.heap.size w w'
def LT(w W:iW)(tx sq:Int):Prop:=
 iL w.heap.size w W/\W.heap[w.heap.size]?=X (iC #[I J 0,I J 0,Y O 0 0] 129 (0,0))/\W.heap[w.heap.size+1]?=X (iC #[I J tx,I J sq,Y O 0 0] 129 (0,0))
theorem LT.below{w W W':iW}{tx:Int}(h:LT w W tx sq)(b:iL W.heap.size W W'):LT w W' tx sq:=
 ⟨h.1.trans (b.mono h.1.size),(b.block _ (aJ.1 h.2.1).1).trans h.2.1,(b.block _ (aJ.1 h.2.2).1).trans h.2.2⟩
theorem LT.start(w:iW)(tx:Int):LT w ((w.alloc (iC #[I J 0,I J 0,Y O 0 0] 129)).alloc (iC #[I J tx,I J 0,Y O 0 0] 129)) tx 0:=by
 have a:(w.alloc (iC #[I J 0,I J 0,Y O 0 0] 129)).heap.size=w.heap.size+1:=by simp
 have h1:=az (w.alloc (iC #[I J 0,I J 0,Y O 0 0] 129)) (iC #[I J tx,I J 0,Y O 0 0] 129);rw[a]at h1;exact⟨(aY).alloc (by simp) _,(gU _ _ w.heap.size (by simp)).trans (az w _),h1⟩
theorem LT.set{w W:iW}{tx:Int}(h:LT w W tx sq)(s:Int):LT w (W.setCell ⟨w.heap.size+1,1,O⟩ (I J s)) tx s:=
 ⟨h.1.setCell (by simp) _,dC h.2.1 (by omega) _ _,eo h.2.2 1 (I J s)⟩
theorem LT.at{w W:iW}{tx:Int}(h:LT w W tx sq):W.cell? ⟨w.heap.size+1,0,O⟩=X (I J tx)/\W.cell? ⟨w.heap.size+1,1,O⟩=X (I J sq)/\W.cell? ⟨w.heap.size+1,2,O⟩=X (Y O 0 0):=
 ⟨am _ _ 0 _ _ _ h.2.2,am _ _ 1 _ _ _ h.2.2,am _ _ 2 _ _ _ h.2.2⟩
theorem LT.fr{w W:iW}{tx:Int}(h:LT w W tx sq)(j:Nat):W.frozen? ⟨w.heap.size+1,j,O⟩=iF:=aL _ _ j _ _ h.2.2
theorem LT.at0{w W:iW}{tx:Int}(h:LT w W tx sq):W.cell? ⟨w.heap.size,0,O⟩=X (I J 0)/\W.cell? ⟨w.heap.size,1,O⟩=X (I J 0)/\W.cell? ⟨w.heap.size,2,O⟩=X (Y O 0 0):=
 ⟨am _ _ 0 _ _ _ h.2.1,am _ _ 1 _ _ _ h.2.1,am _ _ 2 _ _ _ h.2.1⟩
theorem LT.fr0{w W:iW}{tx:Int}(h:LT w W tx sq)(j:Nat):W.frozen? ⟨w.heap.size,j,O⟩=iF:=aL _ _ j _ _ h.2.1
theorem IV {p q:Tmp} (h:fn.results= #[.cell p 129,.tmp q]) (c:Array iX) (w:iW) (g:Nat) (a b:Int) (v:iX)
 (i:c.getD p undef=iP (X ⟨g,0,O⟩)) (e:w.heap[g]?=X (iC #[I J a,I J b,v] 129 (0,0))):
 (results fn c).run Tryz.prog w=.ok (iU #[iA #[I J a,I J b,v],c.getD q undef]) w:=by
 have d:c[p]?.getD undef=iP (X ⟨g,0,O⟩):=by simpa using i
 have f:=lx (P:=Tryz.prog) w g 129 129 _ _ _ e Tryz.underlying129 rfl Ol;simp[results,h,d,asAddr,f]
theorem ES{w:iW}{cs:Array iX}{x y z:iX}(h:w.heap[g]?=X (iC cs 129 (0,0))):(((w.setCell ⟨g,0,O⟩ x).setCell ⟨g,1,O⟩ y).setCell ⟨g,2,O⟩ z).heap[g]?=X (iC (((cs.setIfInBounds 0 x).setIfInBounds 1 y).setIfInBounds 2 z) 129 (0,0)):=
 eo (eo (eo h 0 x) 1 y) 2 z
theorem JC{a w:iW}{x y z:iX}(h:iL B a w)(b:B<=g):iL B a (((w.setCell ⟨g,0,O⟩ x).setCell ⟨g,1,O⟩ y).setCell ⟨g,2,O⟩ z):=
 ((h.setCell (p:=⟨g,0,O⟩) b x).setCell (p:=⟨g,1,O⟩) b y).setCell (p:=⟨g,2,O⟩) b z
def rR(tx:Int)(k:Nat)(c:Int)(p:Pg):Bool:=decide (p.kind=2/\p.tx=tx/\p.part=k/\(0<k->p.count=c))
def mG(ps:List Pg)(tx:Int)(k:Nat)(c:Int)(t:ByteArray)(sq:Int)(m:Nat)(c':Int)(t':ByteArray)(f:Bool)(sq':Int):Prop:=
 (f=iF/\c'=c/\t'=t/\sq'=sq/\(ps.take m).find? (rR tx k c)=O)∨(f=iV/\∃p,mO ps tx k c=X p/\c'=p.count/\t'=t++p.text/\sq'=if k=0∨p.seq<sq then p.seq else sq)
variable{ps:List Pg}{p:Pg}
theorem mG.skip{tx:Int}{c:Int}(h:mG ps tx k c t sq m c' t' iF sq')(e:ps[m]?=X p)(d:rR tx k c p=iF):mG ps tx k c t sq (m+1) c' t' iF sq':=by
 rcases h with⟨-,h1,a,b,h4⟩|⟨h,-⟩
 ·exact .inl ⟨rfl,h1,a,b,(Hu e h4).1 d⟩
 ·cases h
theorem mG.take{tx:Int}{c:Int}(h:mG ps tx k c t sq m c' t' iF sq')(e:ps[m]?=X p)(d:rR tx k c p=iV):c'=c/\t'=t/\sq'=sq/\mO ps tx k c=X p:=by
 rcases h with⟨-,h1,a,b,h4⟩|⟨h,-⟩
 ·exact⟨h1,a,b,(Hu e h4).2 d⟩
 ·cases h
theorem mG.none{tx:Int}{c:Int}(h:mG ps tx k c t sq m c' t' iF sq')(a:ps.length<=m):mO ps tx k c=Option.none:=by
 rcases h with⟨-,-,-,-,h4⟩|⟨h,-⟩
 ·rw[cm a]at h4;exact h4
 ·cases h
def xw(ps:List Pg)(tx:Int)(k:Nat)(c sq:Int)(t:ByteArray)(done:List Pg):Prop:=
 t=kG done/\pX ps tx k c sq done/\t.size<=lp (λp=>p.text.size) ps k/\k<=lp (λ_=>1) ps k
variable{done:List Pg}
theorem Hi{tx:Int}{c:Int}(b:xw ps tx k c sq t done)(h:dl (λp=>p.text.size) ps<=1048576)(d:mO ps tx k c=X p):t.size+p.text.size<=lp (λp=>p.text.size) ps ((k+1:Nat):Int)/\t.size+p.text.size<=1048576:=by
 obtain⟨-,-,g,-⟩:=b;have a:=xX d;have h1:=yg (λp=>p.text.size) a.1 a.2.2.2.1
 have f:=AE (λp=>p.text.size) ps ((k:Int)+1)
 have e:((k+1:Nat):Int)=(k:Int)+1:=by omega
 rw[e];try simp only at h1
 exact⟨by omega,by omega⟩
theorem V5{tx:Int}{S f:Nat}{c:Int}(n:xw ps tx k c sq t done)(j:k=0∨(k:Int)<c)(s:dl (λp=>p.text.size) ps<=1048576)(b:ps.length=f)(i:dl (λp=>p.count.toNat) ps=S)(h:mG ps tx k c t sq m c' t' iV sq'):
 (∃a,xw ps tx (k+1) c' sq' t' a)/\t'.size<=1048576/\k+1<=f/\c'.toNat-(k+1)<(if k=0 then S+1 else c.toNat-k):=by
 rcases h with⟨h,-⟩|⟨-,p,l,rfl,rfl,rfl⟩
 ·cases h
 have d:=Hi n s l;obtain⟨g1,g2,g3,u⟩:=n;have g:=xX l;have e:((k+1:Nat):Int)=(k:Int)+1:=by omega
 have h1:=yg (λ_=>1) g.1 g.2.2.2.1
 have r:=AE (λ_=>1) ps ((k:Int)+1)
 rw[RQ,b]at r;have o:=FJ (λp=>p.count.toNat) g.1
 rw[i]at o;try simp only at h1 o
 refine⟨⟨done++[p],?_,g2.yes j l,?_,?_⟩,?_,by omega,?_⟩
 ·rw[g1];exact Yp done p
 ·rw[uB];exact d.1
 ·rw[e];omega
 ·rw[uB];exact d.2
 ·by_cases q:k=0
  ·rw[aj q];omega
  ·rw[ai q,g.2.2.2.2 (by omega)];omega
theorem Wd{w:iW}{v:iX}{xs:List iX}(h:w.ownsRow B e size v n xs):n<=maxLen:=by
 rcases h.2 with⟨rfl,h0⟩|⟨g,cap,a,rfl,-,-,h1,b,-⟩
 ·rw[h0];unfold maxLen;omega
 ·omega
def Gd(w:iW)(ps:List Pg)(tx:Int)(e:Ending)(w':iW):Prop:=
 ∃(sq:Int) (a:Option Addr) (n c:Nat) (ok:Bool),e=G (iU #[iA #[I J tx,I J sq,Y a n c],iB ok])/\iL w.heap.size w w'/\
  (dp ps tx=O/\ok=iF∨∃x:TxR,dp ps tx=X x/\ok=iV/\x.num=tx/\x.seq=sq/\n=x.fR.length/\n<=maxLen/\aB 137 w.heap.size w'.heap.size (Y a n c) n (cj (x.fR.map Rc.tu)) w')
theorem LG{tx:Int}(h:kz ps tx=O):dp ps tx=O:=by unfold dp;rw[h]
theorem Nl{tx:Int}{l:List Pg}(h:kz ps tx=X l):dp ps tx=(fR (kG l).data.toList 0).map (λrs=>⟨tx,oV l,rs⟩):=by unfold dp;rw[h]
theorem Uf(ad:Option Addr)(a cap:Nat)(M:List aq)(tx:Int)(w:iW)(hl:a<=1048576)(hs:dl (λp=>p.text.size) (M.map aq.fP)<=1048576)(h:jc w ad a M):
 iK Tryz.prog 96 #[Y ad a cap,I J tx] w (Gd w (M.map aq.fP) tx):=by
 have HR:=af h;have HN:=af (show M.length=a from h.1);have HS:=af hs;clear h hs;obtain⟨ps,r⟩:=an (M.map aq.fP);rw[r]at HS⊢;have HP:=af r;have ac:ps.length=a:=by rw[<-r,aS];exact HN.o
 have R:=af ac;clear r ac;obtain⟨S,hS⟩:=an (dl (λp=>p.count.toNat) ps)
 have am:=af hS;clear hS;have T0:=af (LT.start w tx);go_enter Tryz.func96,Tryz.ntmps96;go_wp2;generalize(w.alloc (iC #[I J 0,I J 0,Y O 0 0] 129)).alloc (iC #[I J tx,I J 0,Y O 0 0] 129)=wa at T0⊢;go_loopw [7,8,9] (λZ tv pv wr=>∃(k:Nat) (c sq:Int) (t:ByteArray) (done:List Pg),Z=I J c/\tv=iT t/\pv=I J k/\k<=a/\t.size<=1048576/\ah (LT w wr tx sq)/\ah (xw ps tx k c sq t done)) (λZ _ pv _=>if (intOf pv).toNat=0 then S+1 else(intOf Z).toNat-(intOf pv).toNat)
 case atStart=>exact⟨0,0,0,⟨#[]⟩,[],rfl,rfl,rfl,aI _,aI _,T0,rfl,.inl ⟨rfl,rfl,rfl,rfl⟩,aI _,aI _⟩
 case round=>
  obtain⟨k,c,sq,t,done,rfl,rfl,rfl,hk,ht,T,G⟩:=hrel;clear T0;have aA:(0:Int)<=k:=by omega
  by_cases l:k=0∨(k:Int)<c
  ·have P:=af l;have eg:(((k:Int)==0)=iV/\¬(0:Int)<k)∨(((k:Int)==0)=iF/\(k:Int)<c/\(0:Int)<k):=by
    simp only[ky,dZ,ne_eq];omega
   clear l;rcases eg with⟨eg,au⟩|⟨eg,ap,au⟩
   all_goals
    go_wp2;go_loopw [7,8,10,11] (λZ tv fv iv wr=>∃(m:Nat) (c':Int) (t':ByteArray) (f:Bool) (sq':Int),m<=a/\Z=I J c'/\tv=iT t'/\fv=iB f/\iv=I J m/\t'.size<=1048576/\ah (LT w wr tx sq')/\ah (mG ps tx k c t sq m c' t' f sq')) (λ_ _ _ iv _=>a-(intOf iv).toNat)
    case atStart=>exact⟨0,c,t,iF,sq,aI _,rfl,rfl,rfl,rfl,ht,T,.inl ⟨rfl,rfl,rfl,rfl,rfl⟩⟩
    case round=>
     obtain⟨m,c',t',f,sq',hm,rfl,rfl,rfl,rfl,aw,T',F⟩:=hrel;clear T;cases f with
     |true=>
      obtain⟨⟨D,G'⟩,n1,n2,n3⟩:=V5 G.o P.o HS.o R.o am.o F.o;have ag:=af G';have N3:=af n3;clear G' n3;by_cases av:(m:Int)<a;all_goals
       go_wp2;go_roundw
       case rel=>exact⟨k+1,c',sq',t',D,rfl,rfl,by go_num,n2,n1,T',ag⟩
       case measure=>have:=N3.o;by_cases ar:k=0<;>simp[intOf,ar]at this⊢<;>omega
     |false=>
      by_cases av:(m:Int)<a
      ·have aa:m<M.length:=by have:=HN.o;omega
       obtain⟨x,K⟩:∃x,M[m]?=X x:=⟨_,ay aa⟩;have ae:ps[m]?=X x.fP:=by rw[<-HP.o,bk,K];rfl
       obtain⟨rb,ro,rfl,-,-,-,c0,c1,c2,c3,c4,c5⟩:=(HR.o.below T'.o.1).at K;have H:=af ae;clear K ae aa;obtain⟨xb,xl,pk,v,N,L,s,pt⟩:=x;simp only at c0 c1 c2 c3 c4 c5 H;have m0:(0:Int)<=m:=by omega
       have W:=af (T'.o.below ((ax _ _).alloc (ak _) (iC #[I J pk,I J v,I J N,I J L,I J s,iT pt] 110)));by_cases hy:rR tx k c ⟨pk,v,N,L,s,pt⟩=iV
       ·obtain⟨rfl,rfl,rfl,n⟩:=F.o.take H.o hy;obtain⟨-,y1,y2,y3,y4⟩:=xX n;simp only at y1 y2 y3 y4;have hz:=(Hi G.o HS.o n).2;simp only at hz;have q1:(pk !=2)=iF:=by rw[y1];rfl
        have q2:(N !=tx)=iF:=by rw[y2];simp
        have q3:(L !=(k:Int))=iF:=by rw[y3];simp
        try have q4:(s !=c')=iF:=by rw[y4 (by omega)];simp
        have Q:=af n;clear y1 y2 y3 y4 n hy;obtain⟨-,l1,-⟩:=W.o.at;have lf:=W.o.fr 1;obtain⟨u,U⟩:=an (t'++pt);have hu:u.size<=1048576:=by rw[<-U,uB];exact hz
        have Yq:¬(9223372036854775807<t'.size+pt.size):=by omega
        by_cases hs:k=0∨v<sq'
        ·try have hq:v<sq':=by omega
         have TB:=af (W.o.set v);have V:ah (mG ps tx k c' t' sq' (m+1) s u iV v):=.inr ⟨rfl,_,Q.o,rfl,U.symm,by rw[aj (by simp only;omega)]⟩
         go_wp2;go_roundw
         case rel=>exact⟨m+1,s,u,iV,v,by omega,rfl,by first|rfl|rw[<-U],rfl,by go_num,hu,TB,V⟩
         case measure=>simp[intOf];omega
        ·have hq:¬v<sq':=by omega
         have V:ah (mG ps tx k c' t' sq' (m+1) s u iV sq'):=.inr ⟨rfl,_,Q.o,rfl,U.symm,by rw[ai (by simp only;omega)]⟩
         first
          |omega
          |(go_wp2
            go_roundw
            case rel=>exact⟨m+1,s,u,iV,sq',by omega,rfl,by first|rfl|rw[<-U],rfl,by go_num,hu,W,V⟩
            case measure=>simp[intOf];omega)
       ·have hy:rR tx k c ⟨pk,v,N,L,s,pt⟩=iF:=by simpa using hy
        have V:=af (F.o.skip H.o hy);have hc:c'=c:=by rcases F.o with⟨-,h,-⟩|⟨h,-⟩<;>first|exact h|cases h
        subst hc;unfold rR at hy;simp only[rU]at hy;clear F;have hn:(pk !=2)=iV∨(pk !=2)=iF/\((N !=tx)=iV∨(N !=tx)=iF/\((L !=(k:Int))=iV∨(L !=(k:Int))=iF/\(0:Int)<k/\(s !=c')=iV)):=by
         simp only[bne_iff_ne,bne_eq_false_iff_eq,ne_eq];omega
        clear hy;rcases hn with r1|⟨r1,r2|⟨r2,r3|⟨r3,r5,r4⟩⟩⟩
        all_goals
         first
          |omega
          |(go_wp2
            go_roundw
            case rel=>exact⟨m+1,c',t',iF,sq',by omega,rfl,rfl,rfl,by go_num,aw,W,V⟩
            case measure=>simp[intOf];omega)
      ·have ab:=F.o.none (m:=m) (by have:=R.o;omega)
       have HO:ah (dp ps tx=O):=LG (G.o.2.1.no P.o ab);clear ab;obtain⟨a0,a1,a2⟩:=T'.o.at;obtain⟨b0,b1,b2⟩:=T'.o.at0;have f0:=T'.o.fr0 0;have f1:=T'.o.fr0 1;have f2:=T'.o.fr0 2;go_wp2;exact aF (IV rfl _ _ w.heap.size tx sq' (Y O 0 0) rfl (ES T'.o.2.1)) rfl ⟨sq',O,0,0,iF,rfl,JC T'.o.1 (ak _),.inl ⟨HO.o,rfl⟩⟩
  ·have xG:=G.o.2.1.end_ l;have eg:((k:Int)==0)=iF:=by rw[dZ];omega
   have ap:¬(k:Int)<c:=by omega
   have HE:=af xG;have C:=G.o.1;have HC:=af C;clear l xG C G;go_wp2_with fail;refine(Zm t wr ht).mono ?_;rintro e i ⟨uv,acc,ok,rfl,ho,hb,K⟩;have j:=af (T.o.below hb);have S1:=af (aB.of ho);have H:=af K;obtain⟨b,d,rfl,-⟩:=S1.o.form;have S2:ah (aB 137 w.heap.size i.heap.size (Y b acc.length d) acc.length (cj (acc.map Rc.tu)) i):=S1.o.dn T.o.1.size;have E:ah (∀g cs,(Y b acc.length d).ownBlock=X g->i.heap[g]?=X (iC cs 129 (0,0))->False):=by
    intro g cs e q;obtain⟨-,-,az,q'⟩:=S1.o.lt g e;exact Cs q' q
   have al:=af (Wd ho);clear ho hb K S1 T;obtain⟨a0,a1,a2⟩:=j.o.at;have g2:=j.o.fr 2;obtain⟨b0,b1,b2⟩:=j.o.at0;have f0:=j.o.fr0 0;have f1:=j.o.fr0 1;have f2:=j.o.fr0 2;have B:ah ((Y b acc.length d).ownBlock≠X (w.heap.size+1)):=λe=>E.o _ _ e j.o.2.2
   have A:ah ((Y b acc.length d).ownBlock≠X w.heap.size):=λe=>E.o _ _ e j.o.2.1
   have HZ:ah (aB 137 w.heap.size i.heap.size (Y b acc.length d) acc.length (cj (acc.map Rc.tu)) (i.setCell ⟨w.heap.size+1,2,O⟩ (Y b acc.length d))):=S2.o.grown (ik i (w.heap.size+1) 2 _) (λg e e2=>B.o (by rw[e,<-e2]))
   have ao:ah (∀x y z:iX,aB 137 w.heap.size ((((i.setCell ⟨w.heap.size+1,2,O⟩ (Y b acc.length d)).setCell ⟨w.heap.size,0,O⟩ x).setCell ⟨w.heap.size,1,O⟩ y).setCell ⟨w.heap.size,2,O⟩ z).heap.size (Y b acc.length d) acc.length (cj (acc.map Rc.tu)) ((((i.setCell ⟨w.heap.size+1,2,O⟩ (Y b acc.length d)).setCell ⟨w.heap.size,0,O⟩ x).setCell ⟨w.heap.size,1,O⟩ y).setCell ⟨w.heap.size,2,O⟩ z)):=by
    intro x y z;have e:((((i.setCell ⟨w.heap.size+1,2,O⟩ (Y b acc.length d)).setCell ⟨w.heap.size,0,O⟩ x).setCell ⟨w.heap.size,1,O⟩ y).setCell ⟨w.heap.size,2,O⟩ z).heap.size=i.heap.size:=by simp[World.setCell]
    rw[e];have f:=λg (e:(Y b acc.length d).ownBlock=X g) (e2:X w.heap.size=X g)=>A.o (by rw[e,<-e2])
    exact((HZ.o.grown (ik _ w.heap.size 0 x) f).grown (ik _ w.heap.size 1 y) f).grown (ik _ w.heap.size 2 z) f
   have R0:ah ((i.setCell ⟨w.heap.size+1,2,O⟩ (Y b acc.length d)).heap[w.heap.size]?=X (iC #[I J 0,I J 0,Y O 0 0] 129 (0,0))):=dC j.o.2.1 (by omega) _ _
   have BB:ah (iL w.heap.size w (i.setCell ⟨w.heap.size+1,2,O⟩ (Y b acc.length d))):=j.o.1.setCell (by simp) _
   clear HZ E B A S2;have OO:ah (dp ps tx=O/\ok=iF∨∃x:TxR,dp ps tx=X x/\ok=iV/\x.num=tx/\x.seq=sq/\acc.length=x.fR.length/\x.fR=acc):=by
    have e1:=Nl HE.o.1;rw[<-HC.o]at e1;rcases H.o with⟨q,q2,-⟩|⟨q,q2⟩
    ·rw[q]at e1;exact .inl ⟨e1,q2⟩
    ·rw[q]at e1;exact .inr ⟨_,e1,q2,rfl,HE.o.2.symm,rfl,rfl⟩
   clear H HE HC;go_wp2;refine aF (IV rfl _ _ w.heap.size tx sq (Y b acc.length d) rfl (ES R0.o)) rfl ⟨sq,b,acc.length,d,ok,rfl,JC BB.o (ak _),?_⟩;rcases OO.o with h|⟨x,h1,h2,h3,h4,h5,h6⟩
   ·exact .inl h
   ·exact .inr ⟨x,h1,h2,h3,h4,h5,al.o,by rw[h6];exact ao.o _ _ _⟩
theorem YU(b a j:Nat):(⟨b,a,O⟩:Addr).add j=⟨b,a+j,O⟩:=by
 simp only[Addr.add];split<;>simp_all
theorem Xd(w:iW):(w.alloc (iC #[] 137)).ownsRow w.heap.size 137 4 (Y (X ⟨w.heap.size,0,O⟩) 0 0) 0 (cj []):=
 ⟨rfl,.inr ⟨w.heap.size,0,#[],rfl,ak _,az w _,ak _,by unfold maxLen;omega,rfl,rfl⟩⟩
theorem Um(M:List (Int×Int×Int×Int))(i:Nat)(v:iX)(h:(cj M)[i]?=X v):∃x,M[i/4]?=X x/\(mz x)[i % 4]?=X v:=by
 have c:=(aD.1 h).1;rw[DV]at c;obtain⟨x,b⟩:∃x,M[i/4]?=X x:=⟨_,ay (by omega)⟩
 obtain⟨u,a⟩:∃u,(mz x)[i % 4]?=X u:=⟨_,ay (by show i % 4<4;omega)⟩
 have:=Bt M (i/4) x b (i % 4) u a;rw[show i/4*4+i % 4=i by omega,h]at this
 cases this;exact⟨x,b,a⟩
theorem j8.cells{w:iW}{b c d:Nat}{ls:List (Int×Int×Int×Int)}(h:j8 w (X ⟨b,c,O⟩) d ls)(j:Nat)(u:iX)(k:(cj ls)[j]?=X u):w.cell? ⟨b,c+j,O⟩=X u:=by
 obtain⟨x,l,a⟩:=Um ls j u k;obtain⟨n,g,e,-,i,c1,c2,c3⟩:=h.at l;injection e with e
 injection e with e1 e2
 subst e1;subst e2;have f:j=j/4*4+j % 4:=by omega
 have h4:j % 4<4:=by omega
 generalize j % 4=m at f h4 a;rw[f,<-kH]
 match m,h4,a with
 |0,_,a=>simp only[mz]at a;simp at a;subst a;simpa using i
 |1,_,a=>simp only[mz]at a;simp at a;subst a;exact c1
 |2,_,a=>simp only[mz]at a;simp at a;subst a;exact c2
 |3,_,a=>simp only[mz]at a;simp at a;subst a;exact c3
theorem YV (w:iW) {o:Oper} {Q:Exit->Act->iW->Prop} (y:o.guard=O) (s x:Operand)
 (f:o.op=Op.call {callee:=Callee.builtin Builtin.append,args:= #[s,x],argTypes:= #[94,94]}) (g:Nat) (hs:a.eval s=Y (X ⟨g,0,O⟩) 0 0)
 (d:w.ownsRow g 137 4 (Y (X ⟨g,0,O⟩) 0 0) 0 (cj [])) (v:iX) (ls:List (Int×Int×Int×Int)) (z:a.eval x=v) (F:ls.length<=1048576)
 (h:oR w v ls)
 (t:∀k w',w'.ownsRow g 137 4 k ls.length (cj ls)->w.grownBy w' (X g)->wpList Tryz.prog ops Q rest (a.put o.dst k) w'):wpList Tryz.prog ops Q (o::rest) a w:=by
 obtain⟨A,hi,p,i,q⟩:=bK Ae;obtain⟨B,c,rfl,m,e⟩:=h;have C:=(iq d g rfl).2;by_cases h0:ls.length=0
 ·have n:ls=[]:=lF h0;subst n;refine G9 w y s x _ f g _ A 4 Tryz.underlying94 hi i g 0 0 [] hs d B 0 c [] z rfl ?_ (by simp) (by simp) (ak _) (λw' h1 l=>t _ w' h1 l)
  exact λE=>⟨rfl,m E⟩
 ·obtain⟨b,r,rfl,-,-⟩:=e.2.2.2 (by omega)
  refine cN w y s x _ f g _ A (iA #[I J 0,I J 0,I J 0,I J 0]) 4 32 Tryz.underlying94 hi p i q rfl (by decide) _ 0 [] hs d ⟨b,r,O⟩ ls.length c (cj ls) z (DV ls) (λj u D=>by rw[YU];exact e.cells j u D) (Nt ls) (by unfold maxLen;omega) (by omega) (by omega) ?_
  intro k w' h1 l _;rw[dK]at h1;exact t k w' h1 l
theorem VR{rs:List Xw}{L:List TxR}(h:rs.map dw=L.map TxR.tu){r:Xw}(b:rs[k]?=X r):∃x,L[k]?=X x/\dw r=x.tu:=by
 have e:=congrArg (λl=>l[k]?) h
 simp only[bk,b]at e;cases a:L[k]? with
 |none=>rw[a]at e;simp at e
 |some x=>rw[a]at e;simp at e;exact⟨x,rfl,e⟩
theorem Xn{rs:List Xw}{L:List TxR}(h:rs.map dw=L.map TxR.tu):rs.length=L.length:=by
 have:=congrArg List.length h
 simpa using this
theorem Qg{r:Xw}{x:TxR}(h:dw r=x.tu):x.base=match r.2.2.2 with| []=>iF|t::_=>t.1==1:=by
 have e:r.2.2.2=x.fR.map Rc.tu:=congrArg (λz=>z.2.2) h
 unfold TxR.base;rw[e];cases x.fR<;>rfl
theorem SG{w y:iW}{a:Nat}{cs:Array iX}(h:w.heap[a]?=X (iC cs 129 (0,0)))(b:w.grownBy y (X g))(c:a≠g):y.heap[a]?=X (iC cs 129 (0,0)):=
 (b.block a (aJ.1 h).1 (λe=>c (sN e))).trans h
theorem Iq(W:iW)(a b:Int)(v:iX)(g:Nat)(d:W.heap.size=g):∀(j:Nat) (u:iX),[I J a,I J b,v][j]?=X u->(W.alloc (iC #[I J a,I J b,v] 129)).cell? ((⟨g,0,O⟩:Addr).add j)=X u:=by
 intro j u c;subst d
 match j,c with
 |0,c|1,c|2,c=>
  simp at c;subst c;simp[Addr.add]
theorem JI(a b:Int)(e:Option Addr)(n c:Nat):∀u∈ [I J a,I J b,Y e n c],u.oneCell'=iV:=by
 intro u d;simp at d;rcases d with h|h|h<;>subst h<;>rfl
theorem Px(ad:Option Addr)(f cap:Nat)(rs:List Xw)(L:List TxR)(w:iW)(hl:f<=1048576)(ao:∀r∈rs,r.2.2.2.length<=1048576)(hL:rs.map dw=L.map TxR.tu)(h:qB w ad f rs):
 iK Tryz.prog 66 #[Y ad f cap] w (xL w (jB L)):=by
 have HR:=af h;have HT:=af hL;have aa:=af ao;have HN:=af (show rs.length=f from h.1);clear h hL ao;go_enter Tryz.func66,Tryz.ntmps66;go_wp2;go_loopw [3,4] (λav U wr=>∃(k b:Nat),k<=f/\U=I J k/\av=I J b/\b<=k/\ah (b=fE L k)/\wr=w) (λ_ U _=>f-(intOf U).toNat)
 case atStart=>exact⟨0,0,aI _,rfl,rfl,ak _,rfl,rfl⟩
 case round=>
  obtain⟨k,b,hk,rfl,rfl,aM,N,au⟩:=hrel;have aw:=au.symm;subst aw;clear au;by_cases aN:(k:Int)<f
  ·have G:k<rs.length:=by have:=HN.o;omega
   obtain⟨r,v⟩:∃r,rs[k]?=X r:=⟨_,ay G⟩;obtain⟨x,H,K⟩:=VR HT.o v;obtain⟨rb,ro,rfl,-,-,-,c2⟩:=HR.o.at v;obtain⟨ra,rc,s,-,d⟩:=HR.o.2.2.1 r (aH v);rw[s]at c2;have u:=aa.o r (aH v);have a:=Qg K;have c:fE L (k+1)=if x.base then k else fE L k:=by simp only[fE,H]
   have k0:(0:Int)<=k:=by omega
   cases C:r.2.2.2 with
   |nil=>
    rw[C]at a c2;have A:ah (b=fE L (k+1)):=by show _=_;rw[c,a];exact N.o
    clear v H K s d a c u C G N;simp only[cU]at c2;go_wp2;go_roundw
    case rel=>exact⟨k+1,b,by omega,by go_num,rfl,by omega,A,by first|trivial|rfl⟩
    case measure=>simp[intOf];omega
   |cons t ts=>
    rw[C]at a c2 d u;obtain⟨b2,o2,rfl,-,d0,-,-,-⟩:=d.at (k:=0) (t:=t) rfl;simp only[lq,oh]at d0;simp only at a;have ar:(0:Int)<(((t::ts).length:Nat):Int):=by simp only[aR];omega
    generalize(t::ts).length=n2 at c2 ar u;obtain⟨t1,T⟩:=an t.1;rw[T]at d0 a;cases ht:(t1==1)with
    |true=>
     rw[ht]at a;have A:ah (k=fE L (k+1)):=by show _=_;rw[c,a];rfl
     clear v H K s d a c C G N T;go_wp2;go_roundw
     case rel=>exact⟨k+1,k,by omega,by go_num,rfl,by omega,A,by first|trivial|rfl⟩
     case measure=>simp[intOf];omega
    |false=>
     rw[ht]at a;have A:ah (b=fE L (k+1)):=by show _=_;rw[c,a];exact N.o
     clear v H K s d a c C G N T;go_wp2;go_roundw
     case rel=>exact⟨k+1,b,by omega,by go_num,rfl,by omega,A,by first|trivial|rfl⟩
     case measure=>simp[intOf];omega
  ·have aF:k=L.length:=by have:=HN.o;have:=Xn HT.o;omega
   have aE:ah (b=fE L L.length):=by show _=_;rw[N.o,aF]
   have X0:=af (fb.empty w w.heap.size (ak _));have B0:=af ((ax w.heap.size w).alloc (ak _) (iC #[] 129));clear N;go_wp2;generalize w.alloc (iC #[] 129)=wa at X0 B0⊢;go_loopw [5,6] (λov U W=>∃(j:Nat) (ss:List Xw),b<=j/\j<=f/\U=I J j/\ss.length<=j/\ah (fb W w.heap.size ov ss)/\ah (iL w.heap.size w W)/\ah (ss.map dw=((rs.map dw).take j).drop b)) (λ_ U _=>f-(intOf U).toNat)
   case atStart=>exact⟨b,[],ak _,by omega,rfl,aI _,X0,B0,by show _=_;rw[kB (by simp;omega)];rfl⟩
   case round=>
    obtain⟨j,ss,aK,hj,rfl,aO,Xq,F,E⟩:=hrel;clear X0 B0;by_cases aJ:(j:Int)<f
    ·have ai:j<rs.length:=by have:=HN.o;omega
     obtain⟨r,v⟩:∃r,rs[j]?=X r:=⟨_,ay ai⟩;obtain⟨rb,ro,rfl,-,c0,c1,c2⟩:=(HR.o.below F.o).at v;have s:=(HR.o.below F.o).2.2.1 r (aH v);have u:=aa.o r (aH v);obtain⟨i,l,sv,ls⟩:=r;simp only at c0 c1 c2 s u;obtain⟨M,n,rfl,ap,d⟩:=s;have SV:ah (oR wr (Y M ls.length n) ls):=⟨M,n,rfl,ap,d⟩;have E':ah (ss.map dw++[(i,l,ls)]=((rs.map dw).take (j+1)).drop b):=by
      show _=_;rw[E.o,dF,bk,v];simp only[kg,rh];rw[vY (by simp;omega)]
      rfl
     have j0:(0:Int)<=j:=by omega
     clear v d ap E ai
     -- the local transaction, and the empty row of records
     have BA:ah (iL wr.heap.size wr ((wr.alloc (iC #[I J i,I J l,Y M ls.length n] 129)).alloc (iC #[] 137))):=(aY).alloc (by simp) _
     have Q:=af (SV.o.below BA.o);have OE:ah (((wr.alloc (iC #[I J i,I J l,Y M ls.length n] 129)).alloc (iC #[] 137)).ownsRow (wr.heap.size+1) 137 4 (Y (X ⟨wr.heap.size+1,0,O⟩) 0 0) 0 (cj [])):=by
      have:=Xd (wr.alloc (iC #[I J i,I J l,Y M ls.length n] 129));rw[kq rfl]at this;exact this
     have LC:ah (((wr.alloc (iC #[I J i,I J l,Y M ls.length n] 129)).alloc (iC #[] 137)).heap[wr.heap.size]?=X (iC #[I J i,I J l,Y M ls.length n] 129 (0,0))):=
      (gU _ _ wr.heap.size (by simp)).trans (az wr _)
     obtain⟨m,S⟩:=an ls.length;have B:=af S;rw[S]at c2 u Q OE LC BA SV;clear S;go_wp2_with (at_builtin;refine YV _ rfl _ _ rfl (wr.heap.size+1) rfl OE.o _ ls rfl (by have:=B.o;omega) Q.o ?_)
     intro D y ho R;have P:=af (SG LC.o R (by omega))
     have BY:ah (iL wr.heap.size wr y):=BA.o.grown R BA.o.size (λk hk=>by simp only[fu]at hk;omega)
     have SY:ah (aB 137 wr.heap.size y.heap.size D ls.length (cj ls) y):=(aB.of ho).dn (by omega)
     have VY:ah (D.ownBlock≠X wr.heap.size):=by
      intro e;obtain⟨-,-,cs,q⟩:=fQ ho _ e;exact Cs q P.o
     clear ho R OE LC BA Q SV c0 c1 c2;obtain⟨x0,x1⟩:y.cell? ⟨wr.heap.size,0,O⟩=X (I J i)/\y.cell? ⟨wr.heap.size,1,O⟩=X (I J l):=⟨am _ _ 0 _ _ _ P.o,am _ _ 1 _ _ _ P.o⟩;have x2:y.cell? ⟨wr.heap.size,2,O⟩=X (Y M m n):=am _ _ 2 _ _ _ P.o;have f2:y.frozen? ⟨wr.heap.size,2,O⟩=iF:=aL _ _ 2 _ _ P.o;have LZ:ah ((y.setCell ⟨wr.heap.size,2,O⟩ D).heap[wr.heap.size]?=X (iC #[I J i,I J l,D] 129 (0,0))):=eo P.o 2 D;have Z:ah (iL wr.heap.size wr (y.setCell ⟨wr.heap.size,2,O⟩ D)):=BY.o.setCell (ak _) _;have SZ:ah (aB 137 wr.heap.size (y.setCell ⟨wr.heap.size,2,O⟩ D).heap.size D ls.length (cj ls) (y.setCell ⟨wr.heap.size,2,O⟩ D)):=by
      have h2:=SY.o.grown (ik y wr.heap.size 2 D) (λg e e2=>VY.o (by rw[e,<-e2]))
      have e:(y.setCell ⟨wr.heap.size,2,O⟩ D).heap.size=y.heap.size:=by simp[World.setCell]
      show aB _ _ _ _ _ _ _;rw[e];exact h2
     clear P BY SY VY;obtain⟨p,vc,rfl,-⟩:=SZ.o.form;rw[B.o]at SZ Z LZ;rw[B.o];have XZ:=af (Xq.o.below Z.o);have ab:=af (Iq (y.setCell ⟨wr.heap.size,2,O⟩ (Y p m vc)) i l (Y p m vc) y.heap.size (by simp[World.setCell]))
     have ac:=af (JI i l p m vc);have V:ah (iL (y.setCell ⟨wr.heap.size,2,O⟩ (Y p m vc)).heap.size (y.setCell ⟨wr.heap.size,2,O⟩ (Y p m vc)) ((y.setCell ⟨wr.heap.size,2,O⟩ (Y p m vc)).alloc (iC #[I J i,I J l,Y p m vc] 129))):=aY;have XN:=af (XZ.o.below V.o);have OW:=af XN.o.1;have ae:=af (show w.heap.size<=((y.setCell ⟨wr.heap.size,2,O⟩ (Y p m vc)).alloc (iC #[I J i,I J l,Y p m vc] 129)).heap.size by have:=F.o.size;have:=Z.o.size;have:=V.o.size;omega)
     obtain⟨i0,ag,aA,aC,aD⟩:=bK Hj;have I0:=af ag;have Z0:=af aA;have Z1:=af aC;have Z2:=af aD;clear ag aA aC aD;go_wp2_with (at_builtin;refine cN _ rfl _ _ 125 rfl w.heap.size 129 i0 (iA #[I J 0,I J 0,Y O 0 0]) 3 40 Tryz.underlying125 I0.o Z0.o Z1.o Z2.o rfl (by decide) _ _ _ rfl OW.o ⟨y.heap.size,0,O⟩ 1 1 [I J i,I J l,Y p m vc] rfl rfl ab.o ac.o ?c1 ?c2 ae.o ?_)
     case c1=>unfold maxLen;omega
     case c2=>omega
     intro u' z ho R _;have aq:z.ownsRow w.heap.size 129 3 u' (ss++[((i,l,Y p m vc,ls):Xw)]).length (jK (ss++[((i,l,Y p m vc,ls):Xw)])):=by
      rw[<-Kj,aT];exact ho
     have BB:=af (Z.o.trans (V.o.mono Z.o.size));have XF:=af (fb.snoc (r:=((i,l,Y p m vc,ls):Xw)) Xq.o BB.o F.o.size (by
      show aB _ _ _ _ ls.length _ _;rw[B.o];exact(SZ.o.blw V.o).up V.o.size) (by show ls.length<=maxLen;rw[B.o];unfold maxLen;omega) R aq)
     have BF:ah (iL w.heap.size w z):=(F.o.trans (BB.o.mono F.o.size)).grown R (by have:=F.o.size;have:=BB.o.size;omega) (λk hk=>(XN.o.1.lt k hk).1)
     have E2:ah ((ss++[((i,l,Y p m vc,ls):Xw)]).map dw=((rs.map dw).take (j+1)).drop b):=by
      show _=_;rw[<-E'.o,dB];rfl
     clear ho R aq BB XN OW ae ab ac V XZ SZ Z LZ I0 Z0 Z1 Z2 E' Xq F x0 x1 x2 f2;have al:(ss++[((i,l,Y p m vc,ls):Xw)]).length<=j+1:=by simp;omega
     generalize ss++[((i,l,Y p m vc,ls):Xw)]=aG at XF E2 al;go_wp2;go_roundw
     case rel=>exact⟨j+1,aG,by omega,by omega,by go_num,al,XF,BF,E2⟩
     case measure=>simp[intOf];omega
    ·have aj:j=(rs.map dw).length:=by have:=HN.o;simp;omega
     have EF:ah (ss.map dw=(jB L).map TxR.tu):=by
      show _=_;rw[E.o,aj,oU,HT.o,aE.o,jB,zE]
     clear aj;go_wp2;go_ret;exact⟨_,ss,rfl,Xq.o,EF.o,F.o⟩
end Go.Proofs.YtijmbohadndfmaaGreatDoor
