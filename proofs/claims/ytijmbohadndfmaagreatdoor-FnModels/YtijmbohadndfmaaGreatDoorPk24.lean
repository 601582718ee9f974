/-
  ISame; SSame; SDOk; SServe; D3; DDev
-/
import Derived.Test.YtijmbohadndfmaaGreatDoorPk23
open Go.Value renaming int→I,slice→Y,string→iT,bool→iB,pointer→iP,agg→iA,tuple→iU
open Go.IntKind renaming i64→J
open Option renaming none→O,some→X
open Go.Ending renaming returned→G
open Go.Obj renaming cells→iC
open Bool renaming true→iV,false→iF
open Go renaming World→iW,Value→iX,Calls→iK
open Go.RowKit renaming Below→iL
set_option maxHeartbeats 8000000
set_option maxRecDepth 100000
namespace Go.Proofs.YtijmbohadndfmaaGreatDoor
open Go.RowKit Words
def nC(l m:List Kn)(x y:Int×Int):Bool:=decide (x.1=y.1)&&decide (ce l x.2=ce m y.2)
theorem Xo(a b:Sto):qH a b=(decide (a.next=b.next)&&(decide (a.fV.length=b.fV.length)&&(a.fV.zip b.fV).all (λp=>nC a.fK b.fK p.1 p.2))):=by
 unfold qH cV;rw[uF];congr 1;rw[Av];simp only[bW,bt,gy,nC];generalize a.fV=x;generalize b.fV=y
 induction x generalizing y with
 |nil=>
  cases y with
  |nil=>simp
  |cons v y=>simp
 |cons u x e=>
  cases y with
  |nil=>simp
  |cons v y=>
   rw[cD,cD,iQ,e,oJ];simp only[aR,List.zip_cons_cons,bf];constructor
   ·rintro⟨⟨h1,d⟩,f,h4⟩;refine⟨by omega,λp c=>?_⟩
    rcases c with rfl|c
    ·exact⟨h1,d⟩
    ·exact h4 p c
   ·rintro⟨h1,d⟩;exact⟨d (u,v) (.inl rfl),by omega,λp c=>d p (.inr c)⟩
theorem Xi(g h c d:Nat)(A B:List Int)(w:iW)(u:A.length=16)(v:B.length=16)(m:∀(k:Nat) (x:Int),A[k]?=X x->w.cell? ⟨g,k,O⟩=X (I J x))(n:∀(k:Nat) (x:Int),B[k]?=X x->w.cell? ⟨h,k,O⟩=X (I J x)):
 iK Tryz.prog 99 #[Y (X ⟨g,0,O⟩) 16 c,Y (X ⟨h,0,O⟩) 16 d] w λe w'=>e=G (iB (decide (A=B)))/\iL w.heap.size w w':=by
 have z:=af m;have C:=af n;have r:=af u;have s:=af v;have D:ah (g<w.heap.size):=bh w _ (m 0 _ (ay (by omega)))
 have E:ah (h<w.heap.size):=bh w _ (n 0 _ (ay (by omega)))
 clear m n u v;go_enter Tryz.func99,Tryz.ntmps99;go_wp2;go_loopw [5] (λq W=>∃k:Nat,k<=16/\q=I J k/\ah (A.take k=B.take k)/\ah (iL w.heap.size w W)) (λq _=>16-(intOf q).toNat)
 case atStart=>exact⟨0,aI _,rfl,(by simp:A.take 0=B.take 0),ax _ _⟩
 case round=>
  obtain⟨k,N,rfl,t,f⟩:=hrel;by_cases F:(k:Int)<16
  ·obtain⟨x,b⟩:∃x,A[k]?=X x:=⟨_,ay (by have:=r.o;omega)⟩
   obtain⟨y,hy⟩:∃y,B[k]?=X y:=⟨_,ay (by have:=s.o;omega)⟩
   have H:=(f.o.cell (show g<w.heap.size from D.o)).trans (z.o k x b);have K:=(f.o.cell (show h<w.heap.size from E.o)).trans (C.o k y hy);have P:(0:Int)<=k:=by omega
   by_cases a:x=y
   ·subst a;have p:(x !=x)=iF:=by simp
    have l:ah (A.take (k+1)=B.take (k+1)):=by
     show _=_;rw[dF,dF,b,hy,t.o]
    clear b hy;go_wp2;go_quiet (fail);have i:=af (bI f.o nq);go_wp2;go_roundw
    case rel=>exact⟨k+1,by omega,by go_num,l,i⟩
    case measure=>simp[intOf];omega
   ·have p:(x !=y)=iV:=by simpa using a
    have j:ah (decide (A=B)=iF):=aV (λe=>a (by rw[e,hy]at b;exact(sN b).symm))
    clear b hy;go_wp2;go_quiet (fail);have i:=af (bI f.o nq);go_wp2;go_ret;exact⟨by rw[j.o];rfl,i.o⟩
  ·have j:ah (decide (A=B)=iV):=aQ (by
    have h1:=t.o;have L:=r.o;have M:=s.o;rw[cm (by omega),cm (by omega)]at h1
    exact h1)
   go_wp2;go_ret;exact⟨by rw[j.o];rfl,f.o⟩
variable{listed:Array Bool}{fn:Func}{vs:List (Int × Int)}{rest:List Oper}{T:List UInt8 -> Prop}{k n fuel g p len cap B:Nat}{oi:Oper}{ad:Option Addr}{P:Program}{w W W':iW}{x b c:iX}
theorem Se{a:List (Int×Int)}{x y:Int×Int}{f:(Int×Int)×(Int×Int)->Bool}(b:vs[k]?=X x)(hy:a[k]?=X y):((vs.zip a).take (k+1)).all f=(((vs.zip a).take k).all f&&f (x,y)):=by
 have:(vs.zip a)[k]?=X (x,y):=by rw[ut];exact⟨b,hy⟩
 rw[dF,this,BI];simp
theorem WF{a:List (Int×Int)}{x y:Int×Int}{f:(Int×Int)×(Int×Int)->Bool}(c:vs[k]?=X x)(hy:a[k]?=X y)(b:f (x,y)=iF):(vs.zip a).all f=iF:=by
 have:(vs.zip a)[k]?=X (x,y):=by rw[ut];exact⟨c,hy⟩
 rw[sj];exact⟨_,aH this,by simp[b]⟩
theorem MV:OJ 70:=by
 rintro v s u t w ⟨va,a,vc,ad,l,cap,rs,rfl,au,aZ,hl,aM,aT,h,Z⟩ ⟨ua,ul,uc,T,j,i,qs,rfl,av,aY,aW,aw,aQ,h2,ar⟩;obtain⟨vs,fK,nx⟩:=s;obtain⟨F,a2,my⟩:=t;simp only at au h av h2⊢;subst au av;have r:=af (Tk.two w #[Y va a vc,Y ad l cap,I J nx] #[Y ua ul uc,Y T j i,I J my] 44 44);have HV:=af h;have HU:=af h2;have n:=af h.1;have N:=af h2.1;have aD:=af Z;have aF:=af ar;have EQ:=af (Xo ⟨vs,rs.map aG,nx⟩ ⟨F,qs.map aG,my⟩);simp only at EQ;obtain⟨C,hC⟩:=an (qH ⟨vs,rs.map aG,nx⟩ ⟨F,qs.map aG,my⟩);rw[hC]at EQ⊢;clear hC h h2 Z ar aM aw aT aQ;unfold eC;by_cases az:¬((a:Int)=ul)
 ·have M:ah (C=iF):=by
   show _=_;rw[EQ.o,n.o,N.o,aV (show¬(a=ul)by omega)]
   simp
  have aO:((a:Int) !=ul)=iV:=by simpa using az
  go_enter Tryz.func70,Tryz.ntmps70;go_wp2;go_ret;exact⟨by rw[M.o];rfl,r.o.1⟩
 obtain rfl:a=ul:=by omega
 clear az;have aO:((a:Int) !=a)=iF:=by simp
 by_cases aa:¬(nx=my)
 ·have M:ah (C=iF):=by
   show _=_;rw[EQ.o,aV aa,mV]
  have aN:(nx !=my)=iV:=by simpa using aa
  go_enter Tryz.func70,Tryz.ntmps70;go_wp2;go_ret;exact⟨by rw[M.o];rfl,r.o.1⟩
 obtain rfl:nx=my:=by omega
 clear aa;have aN:(nx !=nx)=iF:=by simp
 have M:ah (C=(vs.zip F).all (λp=>nC (rs.map aG) (qs.map aG) p.1 p.2)):=by
  show _=_;rw[EQ.o,n.o,N.o];simp
 clear EQ;go_enter Tryz.func70,Tryz.ntmps70;go_wp2;generalize(w.alloc (iC #[Y va a vc,Y ad l cap,I J nx] 44)).alloc (iC #[Y ua a uc,Y T j i,I J nx] 44)=wb at r⊢;have x0:wb.cell? ⟨w.heap.size,0,O⟩=X (Y va a vc):=r.o.at 1 0 rfl rfl;have x1:wb.cell? ⟨w.heap.size,1,O⟩=X (Y ad l cap):=r.o.at 1 1 rfl rfl;have y0:wb.cell? ⟨w.heap.size+1,0,O⟩=X (Y ua a uc):=r.o.at 0 0 rfl rfl;have y1:wb.cell? ⟨w.heap.size+1,1,O⟩=X (Y T j i):=r.o.at 0 1 rfl rfl;have BW:=af r.o.1;have XB:ah (w.heap.size<wb.heap.size/\w.heap.size+1<wb.heap.size):=⟨bh wb _ x0,bh wb _ y0⟩;obtain⟨z,hz⟩:=an w.heap.size;have aU:=af hz;rw[hz]at x0 x1 y0 y1 XB⊢;clear hz r;go_loopw [5] (λiv W=>∃k:Nat,k<=a/\iv=I J k/\ah (((vs.zip F).take k).all (λp=>nC (rs.map aG) (qs.map aG) p.1 p.2)=iV)/\ah (iL wb.heap.size wb W)) (λiv _=>a-(intOf iv).toNat)
 case atStart=>exact⟨0,aI _,rfl,(by simp:((vs.zip F).take 0).all _=iV),ax _ _⟩
 case round=>
  obtain⟨k,Z,rfl,HT,P⟩:=hrel;have a0:=(P.o.cell (show z<wb.heap.size from XB.o.1)).trans x0;have a1:=(P.o.cell (show z<wb.heap.size from XB.o.1)).trans x1;have b0:=(P.o.cell (show z+1<wb.heap.size from XB.o.2)).trans y0;have b1:=(P.o.cell (show z+1<wb.heap.size from XB.o.2)).trans y1;have b:=af (BW.o.trans (P.o.mono BW.o.size));by_cases aX:(k:Int)<a
  ·obtain⟨p,hp⟩:∃p,vs[k]?=X p:=⟨_,ay (by have:=n.o;omega)⟩
   obtain⟨q,hq⟩:∃q,F[k]?=X q:=⟨_,ay (by have:=N.o;omega)⟩
   obtain⟨U,o1,r1,-,c0,c1⟩:=(HV.o.below b.o).at hp;obtain⟨V,o2,r2,-,d0,d1⟩:=(HU.o.below b.o).at hq;subst r1 r2;have k0:(0:Int)<=k:=by omega
   have HZ:=af (Se (f:=λp=>nC (rs.map aG) (qs.map aG) p.1 p.2) hp hq)
   have Q:=af (WF (f:=λp=>nC (rs.map aG) (qs.map aG) p.1 p.2) hp hq)
   obtain⟨p0,p1⟩:=p;obtain⟨q0,q1⟩:=q;simp only at c0 c1 d0 d1 HZ Q;clear hp hq;have BD:ah (iL wr.heap.size wr wr.drew):=(ax _ _).drew;have KK:ah (∀W,iL wr.heap.size wr W->(W.cell? ⟨z,0,O⟩=X (Y (X ⟨U,o1,O⟩) a vc)/\W.cell? ⟨z,1,O⟩=X (Y ad l cap)/\W.cell? ⟨z+1,0,O⟩=X (Y (X ⟨V,o2,O⟩) a uc)/\W.cell? ⟨z+1,1,O⟩=X (Y T j i))/\W.cell? ⟨U,o1+k*2,O⟩=X (I J p0)/\W.cell? ⟨U,o1+k*2+1,O⟩=X (I J p1)/\W.cell? ⟨V,o2+k*2,O⟩=X (I J q0)/\W.cell? ⟨V,o2+k*2+1,O⟩=X (I J q1)):=by
    have l0:z<wr.heap.size:=bh wr _ a0;have l1:z+1<wr.heap.size:=bh wr _ b0;have l2:U<wr.heap.size:=bh wr _ c0;have l3:V<wr.heap.size:=bh wr _ d0;exact λW H=>⟨⟨(H.cell l0).trans a0,(H.cell l0).trans a1,(H.cell l1).trans b0,(H.cell l1).trans b1⟩,(H.cell l2).trans c0,(H.cell l2).trans c1,(H.cell l3).trans d0,(H.cell l3).trans d1⟩
   by_cases y:p0=q0
   ·have aP:(p0 !=q0)=iF:=by simpa using y
    obtain⟨A,hA⟩:=an (ce (rs.map aG) p1);obtain⟨B,hB⟩:=an (ce (qs.map aG) q1);have ak:ah (A.length=16):=by show _=_;rw[<-hA];exact pF _ _
    have al:ah (B.length=16):=by show _=_;rw[<-hB];exact pF _ _
    have EV:ah (nC (rs.map aG) (qs.map aG) (p0,p1) (q0,q1)=decide (A=B)):=by
     show _=_;rw[nC,hA,hB];simp only[y,pC,jr]
    have K:=af (yD ad l cap rs p1 wr.drew (by omega) (aD.o.below (b.o.trans (BD.o.mono b.o.size))))
    have CB:ah (∀W,iL wr.heap.size wr W->iK Tryz.prog 100 #[iA #[Y T j i],I J q1] W (pJ W B)):=λW H=>by
     have:=yD T j i qs q1 W (by omega) (aF.o.below (b.o.trans (H.mono b.o.size)))
     rw[hB]at this;exact this
    rw[hA]at K;have OG:ah (∀(W:iW) (B0:Nat) (v:iX) (L:List Int),L.length=16->W.ownsRow B0 3 1 v L.length (aE L)->∃g c,v=Y (X ⟨g,0,O⟩) 16 c/\g<W.heap.size/\∀(k:Nat) (x:Int),L[k]?=X x->W.cell? ⟨g,k,O⟩=X (I J x)):=λW B0 v L hl ho=>by
     obtain⟨va,vc,rfl,hr⟩:=(aB.of ho).form;obtain⟨g,rfl,-,hg⟩:=hr (by omega)
     refine⟨g,vc,by rw[hl],hg,λk x Z=>?_⟩
     rw[<-eX];exact ho.cells (g:=g) rfl k _ (lJ Z)
    have E:=af (KK.o _ BD.o);obtain⟨D,hD⟩:=an (decide (A=B));have CE:ah (∀(W:iW) (R bg c d:Nat),(∀(k:Nat) (x:Int),A[k]?=X x->W.cell? ⟨R,k,O⟩=X (I J x))->(∀(k:Nat) (x:Int),B[k]?=X x->W.cell? ⟨bg,k,O⟩=X (I J x))->iK Tryz.prog 99 #[Y (X ⟨R,0,O⟩) 16 c,Y (X ⟨bg,0,O⟩) 16 d] W λe w'=>e=G (iB D)/\iL W.heap.size W w'):=λW R bg c d aJ aK=>by
     have:=Xi R bg c d A B W ak.o al.o aJ aK;rw[hD]at this;exact this
    rw[hD]at EV;clear hA hB hD x0 x1 y0 y1;go_wp2;clear c0 c1 d0 d1 a0 a1 b0 b1;go_region_held3 (λw'=>(w'.cell? ⟨z,0,O⟩=X (Y (X ⟨U,o1,O⟩) a vc)/\w'.cell? ⟨z,1,O⟩=X (Y ad l cap)/\w'.cell? ⟨z+1,0,O⟩=X (Y (X ⟨V,o2,O⟩) a uc)/\w'.cell? ⟨z+1,1,O⟩=X (Y T j i))/\w'.cell? ⟨U,o1+k*2,O⟩=X (I J p0)/\w'.cell? ⟨U,o1+k*2+1,O⟩=X (I J p1)/\w'.cell? ⟨V,o2+k*2,O⟩=X (I J q0)/\w'.cell? ⟨V,o2+k*2+1,O⟩=X (I J q1)) (first|exact E.o|go_keep) (first
     |(go_at_call 100;(with_reducible refine dq K.o ?_);rintro en w1 ⟨v1,rfl,aA,am⟩;(obtain⟨R,f1,aR,aq,ao⟩:=OG.o _ _ _ _ ak.o aA);subst aR;have ai:=af ao;have aj:=af aq;have BE:=af (BD.o.trans (am.mono BD.o.size));clear E K aA ao aq am;have E:=af (KK.o _ BE.o);have ac:=af (CB.o _ BE.o))
     |(go_at_call 100;(with_reducible refine dq ac.o ?_);rintro en w2 ⟨v2,rfl,aC,S⟩;(obtain⟨bg,f2,aS,aL,ap⟩:=OG.o _ _ _ _ al.o aC);subst aS;have ae:=af (CE.o w2 R bg f1 f2 (λk x Z=>(S.cell (show R<w1.heap.size from aj.o)).trans (ai.o k x Z)) ap);have m:=af (BE.o.trans (S.mono BE.o.size));clear E ac aC ap aL S;have E:=af (KK.o _ m.o))
     |(go_at_call 99;(with_reducible refine dq ae.o ?_);rintro en w3 ⟨rfl,b3⟩;have ab:=af (m.o.trans (b3.mono m.o.size));clear E ae b3;have E:=af (KK.o _ ab.o)))
    have BF:=af (P.o.trans (ab.o.mono P.o.size));clear E KK CB CE OG BE m ai aj;cases D with
    |true=>
     have aH:ah (((vs.zip F).take (k+1)).all (λp=>nC (rs.map aG) (qs.map aG) p.1 p.2)=iV):=by
      show _=_;rw[HZ.o,HT.o,EV.o];rfl
     go_wp2;go_roundw
     case rel=>exact⟨k+1,by omega,by go_num,aH,BF⟩
     case measure=>simp[intOf];omega
    |false=>
     have EF:ah (C=iF):=by
      show _=_;rw[M.o];exact Q.o EV.o
     have BG:=af (BW.o.trans (BF.o.mono BW.o.size));go_wp2;go_ret;exact⟨by rw[EF.o];rfl,BG.o⟩
   ·have aP:(p0 !=q0)=iV:=by simpa using y
    have EF:ah (C=iF):=by
     show _=_;rw[M.o];refine Q.o ?_;rw[nC,aV y,mV]
    clear KK;go_wp2;go_quiet (fail);have BG:=af (bI b.o nq);go_wp2;go_ret;exact⟨by rw[EF.o];rfl,BG.o⟩
  ·have EF:ah (C=iV):=by
    have h1:=HT.o;have h2:(vs.zip F).length<=k:=by
     rw[yI];have:=n.o;omega
    rw[cm h2]at h1;show _=_;rw[M.o,h1]
   go_wp2;go_ret;exact⟨by rw[EF.o];rfl,b.o⟩
open Sums
variable{s:Sto}
theorem TF{v:iX}{w:iW}(h:dO w v s):iK Tryz.prog 71 #[v] w λe w'=>e=G (iB (dc s))/\iL w.heap.size w w':=by
 obtain⟨i,j,vc,ad,c,cap,rs,rfl,a,g,k,b,f,h,d⟩:=h;have:=JB i j vc ad c cap s.next s.fV rs w (by omega) (by omega) b h d
 rw[<-a]at this;exact this
theorem M8(v:iX)(d:Dv)(w:iW)(h:fU w v d):iK Tryz.prog 45 #[v] w λe w'=>e=G (iB (mq d))/\iL w.heap.size w w':=by
 obtain⟨F,E,P,Q,vc,ad,O,cap,rfl,h1,h2,h3⟩:=h.form;have L:=aO w (iC #[Y F d.fH.length E,Y P Q vc,Y ad O cap,I J d.fS.next,I J d.seq,I J d.tx,I J d.base] 46);have N:aP (w.alloc (iC #[Y F d.fH.length E,Y P Q vc,Y ad O cap,I J d.fS.next,I J d.seq,I J d.tx,I J d.base] 46)) w.heap.size (Y F d.fH.length E) (Y P Q vc) (Y ad O cap) d.fS.next d.seq d.tx d.base:=az _ _;generalize aa:w.alloc (iC #[Y F d.fH.length E,Y P Q vc,Y ad O cap,I J d.fS.next,I J d.seq,I J d.tx,I J d.base] 46)=wa at L N;have R:=af (Ci (Y F d.fH.length E) d.fH wa h2 (h1.below L));obtain⟨D,ok,hD⟩:∃D ok,eV d.fH=(D,ok):=⟨_,_,rfl⟩;rw[hD]at R;have k:ah (mq d=(ok&&qH D.fS d.fS&&decide (D.seq=d.seq)&&decide (D.tx=d.tx)&&decide (D.base=d.base)&&dc d.fS)):=by show _=_;unfold mq;rw[hD]
 have T:=af L;have HG:=af N;have HI:=af h3;have a0:=N.cells.1;clear L N h1 h2 h3 h hD;go_enter Tryz.func45,Tryz.ntmps45;go_wp2_with fail;clear aa;refine R.o.mono ?_;rintro e K ⟨v,rfl,Z,df,W⟩;obtain⟨u,t,p,r,q,m,n,g,rfl⟩:=Z.form;have M:=aO K (iC #[Y u D.fH.length t,Y p r q,Y m n g,I J D.fS.next,I J D.seq,I J D.tx,I J D.base] 46);have V:aP (K.alloc (iC #[Y u D.fH.length t,Y p r q,Y m n g,I J D.fS.next,I J D.seq,I J D.tx,I J D.base] 46)) K.heap.size (Y u D.fH.length t) (Y p r q) (Y m n g) D.fS.next D.seq D.tx D.base:=az _ _;have S:=(HG.o.below W).below M;have X:=T.o.trans (W.mono T.o.size);have B:=af (X.trans (M.mono X.size));have I1:=af ((Z.rd df).below M);have U:=af (HI.o.below B.o);obtain⟨-,-,-,-,e9,-,-,i9⟩:∃(a b c:Nat) (f:True),True/\True/\True/\dO (K.alloc (iC #[Y u D.fH.length t,Y p r q,Y m n g,I J D.fS.next,I J D.seq,I J D.tx,I J D.base] 46)) (iA #[Y p r q,Y m n g,I J D.fS.next]) D.fS:=by
  obtain⟨fv,vv,kv,e,-,-,i⟩:=I1.o;injection e with e
  injection e with e
  simp only[iQ,jY]at e;obtain⟨-,e1,e2⟩:=e;subst e1 e2;exact⟨0,0,0,trivial,trivial,trivial,trivial,i⟩
 have K1:=af i9;obtain⟨-,x1,x2,x3,x4,x5,x6⟩:=V.cells;obtain⟨-,y1,y2,y3,y4,y5,y6⟩:=S.cells;have XA:=af V;have GA:=af S;clear i9 e9 I1 R T HG HI Z df W M X V S a0;generalize ab:K.alloc (iC #[Y u D.fH.length t,Y p r q,Y m n g,I J D.fS.next,I J D.seq,I J D.tx,I J D.base] 46)=w2 at*;cases y:ok with
 |false=>
  have s:ah (mq d=iF):=by show _=_;rw[k.o,y];rfl
  clear k;go_wp2;go_ret;exact⟨by rw[s.o];rfl,B.o⟩
 |true=>
  have CS:=af (MV _ _ _ _ w2 K1.o U.o);obtain⟨sb,H⟩:=an (qH D.fS d.fS);rw[H]at CS k;rw[y]at k;clear H y;clear x4 x5 x6 y4 y5 y6;go_wp2_with fail;refine CS.o.mono ?_;rintro e w3 ⟨rfl,C⟩;have z:=af (B.o.trans (C.mono B.o.size));have J3:=af (U.o.below C);obtain⟨-,-,-,-,x4,x5,x6⟩:=(XA.o.below C).cells;obtain⟨-,z1,z2,z3,y4,y5,y6⟩:=(GA.o.below C).cells;have A:=af (TF J3.o);clear CS C U K1 B XA GA J3 x1 x2 x3 y1 y2 y3;cases sb with
  |false=>
   have s:ah (mq d=iF):=by show _=_;rw[k.o];rfl
   clear k A;go_wp2;go_ret;exact⟨by rw[s.o];rfl,z.o⟩
  |true=>
   by_cases l:(D.seq==d.seq)=iF
   ·have s:ah (mq d=iF):=by show _=_;rw[k.o,aV (show¬D.seq=d.seq by simpa using l)];simp
    clear k A;go_wp2;go_ret;exact⟨by rw[s.o];rfl,z.o⟩
   have l:(D.seq==d.seq)=iV:=by simpa using l
   by_cases x:(D.tx==d.tx)=iF
   ·have s:ah (mq d=iF):=by show _=_;rw[k.o,aV (show¬D.tx=d.tx by simpa using x)];simp
    clear k A;go_wp2;go_ret;exact⟨by rw[s.o];rfl,z.o⟩
   have x:(D.tx==d.tx)=iV:=by simpa using x
   by_cases j:(D.base==d.base)=iF
   ·have s:ah (mq d=iF):=by show _=_;rw[k.o,aV (show¬D.base=d.base by simpa using j)];simp
    clear k A;go_wp2;go_ret;exact⟨by rw[s.o];rfl,z.o⟩
   have j:(D.base==d.base)=iV:=by simpa using j
   have s:ah (mq d=dc d.fS):=by show _=_;rw[k.o,aQ (show D.seq=d.seq by simpa using l),aQ (show D.tx=d.tx by simpa using x),aQ (show D.base=d.base by simpa using j)];simp
   clear k;go_wp2_with fail;refine A.o.mono ?_;rintro e w4 ⟨rfl,b4⟩;have B4:=af (z.o.trans (b4.mono z.o.size));clear A b4;go_wp2;go_ret;exact⟨by rw[s.o];rfl,B4.o⟩
theorem qP {p q r u:Tmp} (h:fn.results= #[.cell p 46,.tmp q,.tmp r,.tmp u]) (d:Array iX) (w:iW) (g:Nat) (a b c:iX) (n x t s:Int)
 (j:d.getD p undef=iP (X ⟨g,0,O⟩)) (f:aP w g a b c n x t s):
 (results fn d).run Tryz.prog w=.ok (iU #[iA #[a,b,c,I J n,I J x,I J t,I J s],d.getD q undef,d.getD r undef,d.getD u undef]) w:=by
 have e:d[p]?.getD undef=iP (X ⟨g,0,O⟩):=by simpa using j
 have i:=lx (P:=Tryz.prog) w g 46 46 _ _ _ f Tryz.underlying46 rfl Bl;simp[results,h,e,asAddr,i]
theorem Wh(d:Dv)(q:Ak):(dX d q).1.length<=1:=by
 unfold dX
 repeat' split
 all_goals simp
theorem GI:∀(k:Nat) (d:Dv) (l:List aM),cQ T n d->(jV k d l).2.length<=l.length+k*1000
 |0,d,l,_=>by simp[jV]
 |k+1,d,l,h=>by
  rw[jV];split
  ·split
   ·rename_i hc
    have h1:=GI k (fF d (iY d).1) (l++(iY d).1) (zK (L:=(iY d).1) h (pV rfl hc));have a:=JX h.up.ok;rw[aT]at h1;omega
   ·simp only;omega
  ·simp only;omega
theorem NK(T:List UInt8->Prop)(n:Nat)(x:iX)(d:Dv)(q:Ak)(w:iW)(h:fU w x d)(hg:cQ T n d):iK Tryz.prog 26 #[x,dU q] w (DC w (sT d q)):=by
 have hx:=h;obtain⟨i0,aX,a3,a4,a5⟩:=bK Aw;have I0:=af aX;have I1:=af a3;have I2:=af a4;have I3:=af a5;clear aX a3 a4 a5;obtain⟨v,u,F,G,vc,ad,E,cap,rfl,h1,h2,h3⟩:=h.form;have s1:(w.alloc (iC #[Y v d.fH.length u,Y F G vc,Y ad E cap,I J d.fS.next,I J d.seq,I J d.tx,I J d.base] 46)).heap.size=w.heap.size+1:=by simp
 have s2:((w.alloc (iC #[Y v d.fH.length u,Y F G vc,Y ad E cap,I J d.fS.next,I J d.seq,I J d.tx,I J d.base] 46)).alloc (iC #[I J q.kind,I J q.vol,I J q.sector,I J q.of,iT q.text] 26)).heap.size=w.heap.size+1+1:=by simp
 have P:=aO w (iC #[Y v d.fH.length u,Y F G vc,Y ad E cap,I J d.fS.next,I J d.seq,I J d.tx,I J d.base] 46);have Q:iL (w.alloc (iC #[Y v d.fH.length u,Y F G vc,Y ad E cap,I J d.fS.next,I J d.seq,I J d.tx,I J d.base] 46)).heap.size (w.alloc (iC #[Y v d.fH.length u,Y F G vc,Y ad E cap,I J d.fS.next,I J d.seq,I J d.tx,I J d.base] 46)) ((w.alloc (iC #[Y v d.fH.length u,Y F G vc,Y ad E cap,I J d.fS.next,I J d.seq,I J d.tx,I J d.base] 46)).alloc (iC #[I J q.kind,I J q.vol,I J q.sector,I J q.of,iT q.text] 26)):=aY;have b3:iL ((w.alloc (iC #[Y v d.fH.length u,Y F G vc,Y ad E cap,I J d.fS.next,I J d.seq,I J d.tx,I J d.base] 46)).alloc (iC #[I J q.kind,I J q.vol,I J q.sector,I J q.of,iT q.text] 26)).heap.size ((w.alloc (iC #[Y v d.fH.length u,Y F G vc,Y ad E cap,I J d.fS.next,I J d.seq,I J d.tx,I J d.base] 46)).alloc (iC #[I J q.kind,I J q.vol,I J q.sector,I J q.of,iT q.text] 26)) (((w.alloc (iC #[Y v d.fH.length u,Y F G vc,Y ad E cap,I J d.fS.next,I J d.seq,I J d.tx,I J d.base] 46)).alloc (iC #[I J q.kind,I J q.vol,I J q.sector,I J q.of,iT q.text] 26)).alloc (iC #[Y O 0 0,Y O 0 0,Y O 0 0,I J 0,I J 0,I J 0,I J 0] 46)):=aY;have g1:aP (w.alloc (iC #[Y v d.fH.length u,Y F G vc,Y ad E cap,I J d.fS.next,I J d.seq,I J d.tx,I J d.base] 46)) w.heap.size (Y v d.fH.length u) (Y F G vc) (Y ad E cap) d.fS.next d.seq d.tx d.base:=az _ _;have a2:bH ((w.alloc (iC #[Y v d.fH.length u,Y F G vc,Y ad E cap,I J d.fS.next,I J d.seq,I J d.tx,I J d.base] 46)).alloc (iC #[I J q.kind,I J q.vol,I J q.sector,I J q.of,iT q.text] 26)) (w.heap.size+1) q:=by
  rw[<-s1];exact az _ _
 have zA:aP (((w.alloc (iC #[Y v d.fH.length u,Y F G vc,Y ad E cap,I J d.fS.next,I J d.seq,I J d.tx,I J d.base] 46)).alloc (iC #[I J q.kind,I J q.vol,I J q.sector,I J q.of,iT q.text] 26)).alloc (iC #[Y O 0 0,Y O 0 0,Y O 0 0,I J 0,I J 0,I J 0,I J 0] 46)) (w.heap.size+1+1) (Y O 0 0) (Y O 0 0) (Y O 0 0) 0 0 0 0:=by
  rw[<-s2];exact az _ _
 have gA:=(g1.below Q).below b3;have aA:=a2.below b3;have c2:=P.trans (Q.mono P.size);have bA:=c2.trans (b3.mono c2.size);generalize a8:(((w.alloc (iC #[Y v d.fH.length u,Y F G vc,Y ad E cap,I J d.fS.next,I J d.seq,I J d.tx,I J d.base] 46)).alloc (iC #[I J q.kind,I J q.vol,I J q.sector,I J q.of,iT q.text] 26)).alloc (iC #[Y O 0 0,Y O 0 0,Y O 0 0,I J 0,I J 0,I J 0,I J 0] 46))=wa at bA gA aA zA;have CC:=af (Hy _ d wa (hx.below bA) hg.fit);unfold rO at CC;have HX:=af (hx.below bA);have HB:=af bA;have HG:=af gA;have HA:=af aA;have HZ:=af zA;have aL:=af hg;have a:ah (sT d q=if mq d=iF then(d,[],aK,5)
  else if (dX d q).2.2≠0 then(d,[],aK,(dX d q).2.2)
  else if q.kind=6 then(if (js d q.vol q.sector).2 then(d,[],(js d q.vol q.sector).1,0)else(d,[],aK,1))
  else
   if (dY (if cJ d.fH<12 then fX d 20 else(d,[])).1 (dX (if cJ d.fH<12 then fX d 20 else(d,[])).1 q).1 (dX (if cJ d.fH<12 then fX d 20 else(d,[])).1 q).2.1).2=iF∨cJ (if cJ d.fH<12 then fX d 20 else(d,[])).1.fH<8 then((if cJ d.fH<12 then fX d 20 else(d,[])).1,(if cJ d.fH<12 then fX d 20 else(d,[])).2,aK,4)else(fF (if cJ d.fH<12 then fX d 20 else(d,[])).1 (dY (if cJ d.fH<12 then fX d 20 else(d,[])).1 (dX (if cJ d.fH<12 then fX d 20 else(d,[])).1 q).1 (dX (if cJ d.fH<12 then fX d 20 else(d,[])).1 q).2.1).1,(if cJ d.fH<12 then fX d 20 else(d,[])).2++(dY (if cJ d.fH<12 then fX d 20 else(d,[])).1 (dX (if cJ d.fH<12 then fX d 20 else(d,[])).1 q).1 (dX (if cJ d.fH<12 then fX d 20 else(d,[])).1 q).2.1).1,aK,0)):=rfl
 obtain⟨R,hR⟩:=an (sT d q);rw[hR]at a⊢;obtain⟨y0,y1,y2,y3,y4,y5,y6⟩:=gA.cells;clear hx h h1 h2 h3 s1 s2 P Q b3 g1 a2 c2 bA gA aA zA hg hR;unfold dU;go_enter Tryz.func26,Tryz.ntmps26;go_wp2_with fail;clear a8;refine CC.o.mono ?_;rintro e M ⟨v1,rfl,o1,f1,P⟩;obtain⟨U,Z,vb,vm,vd,N,lo,S,e1⟩:=o1.form;have a9:=HZ.o.lt;have Q:=aO M (iC #[Y U d.fH.length Z,Y vb vm vd,Y N lo S,I J d.fS.next,I J d.seq,I J d.tx,I J d.base] 46);have g2:aP (M.alloc (iC #[Y U d.fH.length Z,Y vb vm vd,Y N lo S,I J d.fS.next,I J d.seq,I J d.tx,I J d.base] 46)) M.heap.size (Y U d.fH.length Z) (Y vb vm vd) (Y N lo S) d.fS.next d.seq d.tx d.base:=az _ _;have B2:=HB.o.trans (P.mono HB.o.size);have B3:=B2.trans (Q.mono B2.size);have y:iL (M.alloc (iC #[Y U d.fH.length Z,Y vb vm vd,Y N lo S,I J d.fS.next,I J d.seq,I J d.tx,I J d.base] 46)).heap.size (M.alloc (iC #[Y U d.fH.length Z,Y vb vm vd,Y N lo S,I J d.fS.next,I J d.seq,I J d.tx,I J d.base] 46)) ((M.alloc (iC #[Y U d.fH.length Z,Y vb vm vd,Y N lo S,I J d.fS.next,I J d.seq,I J d.tx,I J d.base] 46)).alloc (iC #[] 184)):=aY;have n3:=ny B3 (M.alloc (iC #[Y U d.fH.length Z,Y vb vm vd,Y N lo S,I J d.fS.next,I J d.seq,I J d.tx,I J d.base] 46)).heap.size rfl;have C3:ah (go w ((M.alloc (iC #[Y U d.fH.length Z,Y vb vm vd,Y N lo S,I J d.fS.next,I J d.seq,I J d.tx,I J d.base] 46)).alloc (iC #[] 184)) (w.heap.size+1+1) M.heap.size v1 (Y U d.fH.length Z) (Y vb vm vd) (Y N lo S) (Y (X ⟨(M.alloc (iC #[Y U d.fH.length Z,Y vb vm vd,Y N lo S,I J d.fS.next,I J d.seq,I J d.tx,I J d.base] 46)).heap.size,0,O⟩) 0 0) d []):=
  ⟨n3.2,⟨wa.heap.size,by omega,(o1.below Q).below y⟩,f1,e1,g2.below y,((HZ.o.below P).below Q).below y,n3.1,by have:=P.size;omega,by omega⟩
 have G3:=af (((HG.o.below P).below Q).below y);have A3:=af (((HA.o.below P).below Q).below y);have X3:=af (((HX.o.below P).below Q).below y);subst e1;clear Q g2 B2 B3 y n3 o1 f1 CC P HB HZ HG HA HX a9 y0 y1 y2 y3 y4 y5 y6;generalize a6:M.alloc (iC #[Y U d.fH.length Z,Y vb vm vd,Y N lo S,I J d.fS.next,I J d.seq,I J d.tx,I J d.base] 46)=w2 at C3 G3 A3 X3;generalize a7:w2.alloc (iC #[] 184)=w3 at C3 G3 A3 X3;have CD:=af (M8 _ d w3 X3.o);obtain⟨db,aW⟩:=an (mq d);rw[aW]at CD a;clear aW;obtain⟨y0,y1,y2,y3,y4,y5,y6⟩:=G3.o.cells;go_wp2_with fail;clear a6 a7;obtain⟨g,aD⟩:=an M.heap.size;obtain⟨u0,aE⟩:=an (Y (X ⟨w2.heap.size,0,O⟩) 0 0);rw[aD,aE]at C3;rw[aD,aE];clear aD aE;refine CD.o.mono ?_;rintro e w4 ⟨rfl,b4⟩;have z:=af (C3.o.below b4);have G4:=af (G3.o.below b4);have A4:=af (A3.o.below b4);have X4:=af (X3.o.below b4);clear CD C3 G3 A3 X3 b4 y0 y1 y2 y3 y4 y5 y6;cases db with
 |false=>
  have B:ah (R=(d,[],aK,5)):=by show _=_;rw[a.o,aj rfl]
  clear a;go_upto_region 4 with fail
  have k:=af (z.o.ret4 aK 5);obtain⟨i0,i1,i2,i3,i4,i5,i6⟩:=z.o.at_.cells;obtain⟨j0,j1,j2,j3,j4,j5,j6⟩:=z.o.zat.cells;have q0:=z.o.zat.fr 0;have q1:=z.o.zat.fr 1;have q2:=z.o.zat.fr 2;have q3:=z.o.zat.fr 3;have q4:=z.o.zat.fr 4;have q5:=z.o.zat.fr 5;have q6:=z.o.zat.fr 6;have j:=af (z.o.rat);unfold bU at k j;clear z;go_wp2;refine aF (qP (p:=4) rfl _ _ (w.heap.size+1+1) _ _ _ _ _ _ _ rfl j.o) rfl ?_;rw[B.o];exact k.o
 |true=>
  rw[ai (by decide)]at a
  obtain⟨y0,y1,y2,y3,y4,y5,y6⟩:=G4.o.cells;obtain⟨k0,k1,k2,k3,k4⟩:=A4.o.cells;have CP:=af (IJ _ d q w4 X4.o);unfold uR dU at CP;obtain⟨f,aU⟩:=an ((dX d q).2.2);rw[aU]at a CP;clear aU;go_wp2_with fail;refine CP.o.mono ?_;rintro e w5 ⟨rv,rfl,-,b5⟩;have t:=af (z.o.below b5);have G5:=af (G4.o.below b5);have A5:=af (A4.o.below b5);have X5:=af (X4.o.below b5);clear CP z G4 A4 X4 b5 y0 y1 y2 y3 y4 y5 y6 k0 k1 k2 k3 k4;by_cases m:(f !=0)=iV
  ·have B:ah (R=(d,[],aK,f)):=by show _=_;rw[a.o,aj (by simpa using m)]
   clear a;go_upto_region 7 with fail
   have k:=af (t.o.ret4 aK f);obtain⟨i0,i1,i2,i3,i4,i5,i6⟩:=t.o.at_.cells;obtain⟨j0,j1,j2,j3,j4,j5,j6⟩:=t.o.zat.cells;have q0:=t.o.zat.fr 0;have q1:=t.o.zat.fr 1;have q2:=t.o.zat.fr 2;have q3:=t.o.zat.fr 3;have q4:=t.o.zat.fr 4;have q5:=t.o.zat.fr 5;have q6:=t.o.zat.fr 6;have j:=af (t.o.rat);unfold bU at k j;clear t;go_wp2;refine aF (qP (p:=4) rfl _ _ (w.heap.size+1+1) _ _ _ _ _ _ _ rfl j.o) rfl ?_;rw[B.o];exact k.o
  have D:¬f≠0:=by simpa using m
  have m:(f !=0)=iF:=by simpa using m
  rw[ai D]at a;clear D;obtain⟨k0,k1,k2,k3,k4⟩:=A5.o.cells;obtain⟨y0,y1,y2,y3,y4,y5,y6⟩:=G5.o.cells;by_cases ap:(q.kind==6)=iV
  ·rw[aj (by simpa using ap)]at a
   have K:=af (P8 _ d q.vol q.sector w5 X5.o);obtain⟨rt,aG,a0⟩:∃rt aG,js d q.vol q.sector=(rt,aG):=⟨_,_,rfl⟩;rw[a0]at K a;simp only at K a;clear a0;go_wp2_with fail;refine K.o.mono ?_;rintro e w6 ⟨rfl,b6⟩;have c:=af (t.o.below b6);clear K t G5 A5 X5 b6 y0 y1 y2 y3 y4 y5 y6 k0 k1 k2 k3 k4;cases aG with
   |false=>
    have B:ah (R=(d,[],aK,1)):=a;clear a;go_upto_region 11 with fail
    have k:=af (c.o.ret4 aK 1);obtain⟨i0,i1,i2,i3,i4,i5,i6⟩:=c.o.at_.cells;obtain⟨j0,j1,j2,j3,j4,j5,j6⟩:=c.o.zat.cells;have q0:=c.o.zat.fr 0;have q1:=c.o.zat.fr 1;have q2:=c.o.zat.fr 2;have q3:=c.o.zat.fr 3;have q4:=c.o.zat.fr 4;have q5:=c.o.zat.fr 5;have q6:=c.o.zat.fr 6;have j:=af (c.o.rat);unfold bU at k j;clear c;go_wp2;refine aF (qP (p:=4) rfl _ _ (w.heap.size+1+1) _ _ _ _ _ _ _ rfl j.o) rfl ?_;rw[B.o];exact k.o
   |true=>
    have B:ah (R=(d,[],rt,0)):=a;clear a;go_upto_region 12 with fail
    have k:=af (c.o.ret4 rt 0);obtain⟨i0,i1,i2,i3,i4,i5,i6⟩:=c.o.at_.cells;obtain⟨j0,j1,j2,j3,j4,j5,j6⟩:=c.o.zat.cells;have q0:=c.o.zat.fr 0;have q1:=c.o.zat.fr 1;have q2:=c.o.zat.fr 2;have q3:=c.o.zat.fr 3;have q4:=c.o.zat.fr 4;have q5:=c.o.zat.fr 5;have q6:=c.o.zat.fr 6;have j:=af (c.o.rat);unfold bU at k j;clear c;go_wp2;refine aF (qP (p:=4) rfl _ _ (w.heap.size+1+1) _ _ _ _ _ _ _ rfl j.o) rfl ?_;rw[B.o];exact k.o
  rw[ai (by simpa using ap)]at a
  have ap:(q.kind==6)=iF:=by simpa using ap
  have K:=af (yK (Y v d.fH.length u) d.fH w5 t.o.fit.1 (by obtain⟨fv,vv,kv,e,r1,-⟩:=X5.o;injection e with e;injection e with e;simp only[iQ]at e;rw[e.1];exact r1))
  have al:=af (GI (min (20:Int).toNat 20) d [] aL.o);obtain⟨rm,ac⟩:=an (cJ d.fH);rw[ac]at K a;clear ac;go_wp2_with fail;refine K.o.mono ?_;rintro e w6 ⟨rfl,b6⟩;have c:=af (t.o.below b6);have G6:=af (G5.o.below b6);have s:=af (A5.o.below b6);have X6:=af (X5.o.below b6);clear K t G5 A5 X5 b6 y0 y1 y2 y3 y4 y5 y6 k0 k1 k2 k3 k4;go_upto_if 64 with fail
  go_cut [15] (λbb V=>∃(x9:iX) (W:Option Addr) (aa:Nat) (ar:Option Addr) (av au:Nat) (am:Option Addr) (aq ao:Nat) (b:Dv) (l:List aM),ah (go w V (w.heap.size+1+1) g x9 (Y W b.fH.length aa) (Y ar av au) (Y am aq ao) bb b l)/\ah (bH V (w.heap.size+1) q)/\l.length<=20000/\ah (R=if (dY b (dX b q).1 (dX b q).2.1).2=iF∨cJ b.fH<8 then(b,l,aK,4)else(fF b (dY b (dX b q).1 (dX b q).2.1).1,l++(dY b (dX b q).1 (dX b q).2.1).1,aK,0)))
  case first=>
   by_cases bf:(rm:Int)<12
   ·have i:rm<12:=by omega
    simp only[aj i]at a;have CL:=af (Pr T n _ d 20 w6 X6.o aL.o);unfold yQ at CL;have ay:ah ((fX d 20).2.length<=20000):=by have:=al.o;show _<=_;unfold fX;simp only[cU,dK]at this;exact bR this (by decide)
    obtain⟨b,l,aV⟩:∃b l,fX d 20=(b,l):=⟨_,_,rfl⟩;rw[aV]at CL a ay;simp only at CL a ay;clear aV i al;obtain⟨y0,y1,y2,y3,y4,y5,y6⟩:=G6.o.cells;go_wp2_with fail;refine CL.o.mono ?_;rintro e w7 ⟨v7,u7,rfl,o7,f7,r7,C⟩;obtain⟨W,aa,ar,av,au,am,aq,ao,e7⟩:=o7.form;have A:=af (c.o.below C);have ag:=s.o.below C;have ST:=af (c.o.clean C o7 f7 e7 r7);have aH:ah (bH (bU w7 g (Y W b.fH.length aa) (Y ar av au) (Y am aq ao) b.fS.next b.seq b.tx b.base) (w.heap.size+1) q):=(qJ _ _ _ _ _ _ _ _ _ (by have:=c.o.gg;omega)).trans ag
    subst e7;obtain⟨bo,bp,bq,br,bs,bt,bv⟩:=A.o.at_.cells;have q0:=A.o.at_.fr 0;have q1:=A.o.at_.fr 1;have q2:=A.o.at_.fr 2;have q3:=A.o.at_.fr 3;have q4:=A.o.at_.fr 4;have q5:=A.o.at_.fr 5;have q6:=A.o.at_.fr 6;unfold bU at ST aH;clear CL c A G6 X6 s ag o7 f7 r7 C y0 y1 y2 y3 y4 y5 y6;go_wp2_with fail;go_meet
    case rel=>exact⟨_,_,_,_,_,_,_,_,_,b,l,ST,aH,ay.o,a⟩
   ·have i:¬rm<12:=by omega
    simp only[ai i]at a;clear i G6 X6 al;go_wp2_with fail;go_meet
    case rel=>exact⟨_,_,_,_,_,_,_,_,_,d,[],c,s,aI _,a⟩
  case rest=>
   obtain⟨w8,hV⟩:∃w8,w8=wc:=⟨_,rfl⟩;subst hV;clear c G6 s X6 al a;obtain⟨x9,W,aa,ar,av,au,am,aq,ao,b,l,c,s,bm,a⟩:=hcut;obtain⟨c0,c1,c2,c3,c4,c5,c6⟩:=c.o.at_.cells;obtain⟨k0,k1,k2,k3,k4⟩:=s.o.cells;have CP:=af (IJ _ b q w8 c.o.rd);unfold uR dU at CP;have aB:=af (Wh b q);obtain⟨H,tx,f,aZ⟩:∃H tx f,dX b q=(H,tx,f):=⟨_,_,_,rfl⟩;rw[aZ]at CP aB a;simp only at CP aB a;clear aZ;go_wp2_with fail;refine CP.o.mono ?_;rintro e bd ⟨rv,rfl,ro,C⟩;obtain⟨ra,rc,rfl,rr⟩:=j8.of_own (by rw[aS]) ro
   have A:=af (c.o.below C);have ag:=af (s.o.below C);have CW:=af (Kc _ b ra H.length rc H tx bd A.o.rd (by have:=aB.o;omega) rr)
   unfold iG at CW;have aC:=af (Kl b H tx);obtain⟨L,ok,a1⟩:∃L ok,dY b H tx=(L,ok):=⟨_,_,rfl⟩;rw[a1]at CW aC a;simp only at CW aC a;clear a1 ro rr C CP c s c0 c1 c2 c3 c4 c5 c6 k0 k1 k2 k3 k4;obtain⟨c0,c1,c2,c3,c4,c5,c6⟩:=A.o.at_.cells;go_wp2_with fail;refine CW.o.mono ?_;rintro e be ⟨sv,rfl,o8,b8⟩;have C8:=af (A.o.below b8);have O8:=af o8;clear CW A ag o8 b8 c0 c1 c2 c3 c4 c5 c6;cases ok with
   |false=>
    have B:ah (R=(b,l,aK,4)):=by show _=_;rw[a.o,aj (.inl rfl)]
    clear a O8;go_upto_region 19 with fail
    have k:=af (C8.o.ret4 aK 4);obtain⟨i0,i1,i2,i3,i4,i5,i6⟩:=C8.o.at_.cells;obtain⟨j0,j1,j2,j3,j4,j5,j6⟩:=C8.o.zat.cells;have q0:=C8.o.zat.fr 0;have q1:=C8.o.zat.fr 1;have q2:=C8.o.zat.fr 2;have q3:=C8.o.zat.fr 3;have q4:=C8.o.zat.fr 4;have q5:=C8.o.zat.fr 5;have q6:=C8.o.zat.fr 6;have j:=af (C8.o.rat);unfold bU at k j;clear C8;go_wp2;refine aF (qP (p:=4) rfl _ _ (w.heap.size+1+1) _ _ _ _ _ _ _ rfl j.o) rfl ?_;rw[B.o];exact k.o
   |true=>
    obtain⟨c0,c1,c2,c3,c4,c5,c6⟩:=C8.o.at_.cells;have K:=af (yK (Y W b.fH.length aa) b.fH be C8.o.fit.1 (by obtain⟨fv,vv,kv,e,r1,-⟩:=C8.o.rd;injection e with e;injection e with e;simp only[iQ]at e;rw[e.1];exact r1))
    obtain⟨ba,ac⟩:=an (cJ b.fH);rw[ac]at K a;clear ac;go_wp2_with fail;refine K.o.mono ?_;rintro e w9 ⟨rfl,b9⟩;have r:=af (C8.o.below b9);have O9:=af (bu O8.o b9);clear K C8 O8 b9 c0 c1 c2 c3 c4 c5 c6;by_cases bn:(ba:Int)<8
    ·have B:ah (R=(b,l,aK,4)):=by show _=_;rw[a.o,aj (.inr (by omega))]
     clear a O9;go_upto_region 19 with fail
     have k:=af (r.o.ret4 aK 4);obtain⟨i0,i1,i2,i3,i4,i5,i6⟩:=r.o.at_.cells;obtain⟨j0,j1,j2,j3,j4,j5,j6⟩:=r.o.zat.cells;have q0:=r.o.zat.fr 0;have q1:=r.o.zat.fr 1;have q2:=r.o.zat.fr 2;have q3:=r.o.zat.fr 3;have q4:=r.o.zat.fr 4;have q5:=r.o.zat.fr 5;have q6:=r.o.zat.fr 6;have j:=af (r.o.rat);unfold bU at k j;clear r;go_wp2;refine aF (qP (p:=4) rfl _ _ (w.heap.size+1+1) _ _ _ _ _ _ _ rfl j.o) rfl ?_;rw[B.o];exact k.o
    ·have B:ah (R=(fF b L,l++L,aK,0)):=by show _=_;rw[a.o,ai (by simp;omega)]
     obtain⟨c0,c1,c2,c3,c4,c5,c6⟩:=r.o.at_.cells;have bg:=aC.o;have CA:=af (Jh _ sv b L w9 r.o.rd (by omega) (IK O9.o))
     unfold rO at CA;obtain⟨bj,aw⟩:=an (fF b L);rw[aw]at CA B;clear aw a;go_wp2_with fail;refine CA.o.mono ?_;rintro e bD ⟨bx,rfl,o7,f7,C⟩;obtain⟨bk,bl,bz,bC,bB,bh,bw,bi,e7⟩:=o7.form;have aJ:=af (r.o.below C);have aQ:=af (bu O9.o C);have aR:=af (bu r.o.row C);have ST:=af (λ(W3:iW) (u':iX) hr hg=>r.o.fin (W3:=W3) (u':=u') (L:=L) C (ak _) o7 f7 e7 hr hg)
     have aN:=af aJ.o.bel.size;subst e7;clear r aJ O9 CA o7 f7 C c0 c1 c2 c3 c4 c5 c6;go_wp2_with (at_builtin;refine Ky _ rfl _ _ rfl w.heap.size _ i0 I0.o I1.o I2.o I3.o _ l.length (cT l) rfl aR.o L _ rfl aQ.o ?g1 ?g2 aN.o ?_)
     case g1=>unfold maxLen;omega
     case g2=>omega
     intro v8 bc ax ab;obtain⟨z3,fn,aT⟩:=ST.o bc v8 ax ab;have k:=af fn;have j:=af aT;obtain⟨j0,j1,j2,j3,j4,j5,j6⟩:=z3.cells;have q0:=z3.fr 0;have q1:=z3.fr 1;have q2:=z3.fr 2;have q3:=z3.fr 3;have q4:=z3.fr 4;have q5:=z3.fr 5;have q6:=z3.fr 6;unfold bU at k j;clear ax ab ST aQ aR aN z3 fn aT;go_wp2;refine aF (qP (p:=4) rfl _ _ (w.heap.size+1+1) _ _ _ _ _ _ _ rfl j.o) rfl ?_;rw[B.o];exact k.o
theorem Mn(ad:Option Addr)(a cap B:Nat)(w:iW)(r:a<=1048576)(g:gQ w ad a B):
 iK Tryz.prog 9 #[Y ad a cap] w λe w'=>∃p,e=G (iP (X ⟨p,0,O⟩))/\w.heap.size<=p/\jM w' p ad a cap/\iL w.heap.size w w':=by
 have h:=af g;clear g;go_enter Tryz.func9,Tryz.ntmps9;go_wp2;go_loop [3,4] (λm f=>∃(x:Int) (k:Nat),k<=a/\m=I J x/\f=I J k) (λ_ f=>a-(intOf f).toNat)
 case atStart=>exact⟨_,0,aI _,rfl,rfl⟩
 case round=>
  obtain⟨x,k,q,rfl,rfl⟩:=hrel;by_cases l:(k:Int)<a
  ·by_cases h4:(k:Int)<4000
   ·obtain⟨b,n,rfl,i,c,j,d⟩:=h.o k (by omega)
    go_wp2;go_round
    case rel=>exact⟨_,k+1,by omega,rfl,by go_num⟩
    case measure=>simp[intOf];omega
   ·go_wp2;go_ret;refine⟨w.heap.size,rfl,ak _,?_,aY⟩;exact⟨by simp,⟨0,by omega,by simp⟩,⟨x,by simp⟩,by simp,by simp,by simp⟩
  ·go_wp2;go_ret;refine⟨w.heap.size,rfl,ak _,?_,aY⟩;exact⟨by simp,⟨0,by omega,by simp⟩,⟨x,by simp⟩,by simp,by simp,by simp⟩
variable{a:Act}
theorem EP {l:List Oper} {Q:Exit->Act->iW->Prop} {S:iW->Prop} (i j:Nat) {d:Oper} {c:List Oper} {w:iW} (g:l.drop i=oi::rest) (e:l.drop j=d::c) (m:Region.ready .any l.toArray listed=[i,j])
 (h:∀b:Act->iW->Prop,Shut (∀a w,S w->(S w->wpAnyH P .any l.toArray Q S fuel (listed.setIfInBounds i iV) a w)->b a w)->if Region.wanted oi (yielded l.toArray a.tmps)=iV then Oper.wp P oi a w b Q else b (a.put oi.dst undef) w)
 (f:∀b:Act->iW->Prop,Shut (∀a w,S w->(S w->wpAnyH P .any l.toArray Q S fuel (listed.setIfInBounds j iV) a w)->b a w)->if Region.wanted d (yielded l.toArray a.tmps)=iV then Oper.wp P d a w b Q else b (a.put d.dst undef) w):
 wpAnyH P .any l.toArray Q S (fuel+1) listed a w:=by
 have hi:l.toArray[i]?=X oi:=by
  have:l[i]?=(l.drop i)[0]?:=by simp
  rw[mH,this,g];rfl
 have k:l.toArray[j]?=X d:=by
  have:l[j]?=(l.drop j)[0]?:=by simp
  rw[mH,this,e];rfl
 exact wpAnyH_ready m (by simp) (Df hi h (Df k f AllReadyH.nil))
structure Ds (w W:iW) (g p:Nat) (ad:Option Addr) (len cap:Nat) (x a b c:iX) (d:Dv):Prop where
 dr:cR w W p ad len cap
 dv:∃B,p<B/\w.heap.size<B/\cS B x d W
 fit:d.Fit
 is:x=iA #[a,b,c,I J d.fS.next,I J d.seq,I J d.tx,I J d.base]
 at_:aP W g a b c d.fS.next d.seq d.tx d.base
 zat:aP W w.heap.size (Y O 0 0) (Y O 0 0) (Y O 0 0) 0 0 0 0
 gg:w.heap.size<g
 pl:p<w.heap.size
section
variable{d:Dv}{a:iX}
theorem Ds.draw(h:Ds w W g p ad len cap x a b c d)(i:cR W W' p ad len cap):Ds w W' g p ad len cap x a b c d:=by
 obtain⟨h1,⟨B,j,n,h4⟩,o,q,l,m,r,f⟩:=h;have k:∀y,w.heap.size<=y->y<W.heap.size->W'.heap[y]?=W.heap[y]?:=λy t s=>i.1.block y s (λe=>by cases e;omega)
 exact⟨h1.trans i,⟨B,j,n,h4.drawn i j⟩,o,q,(k _ (by omega) l.lt).trans l,(k _ (by omega) m.lt).trans m,r,f⟩
theorem Ds.below(h:Ds w W g p ad len cap x a b c d)(f:iL W.heap.size W W'):Ds w W' g p ad len cap x a b c d:=by
 obtain⟨h1,⟨B,i,j,h4⟩,k,l,m,n,o,e⟩:=h;exact⟨h1.below (f.mono h1.1.size) e,⟨B,i,j,h4.below f⟩,k,l,m.below f,n.below f,o,e⟩
theorem Ds.rd(h:Ds w W g p ad len cap x a b c d):fU W (iA #[a,b,c,I J d.fS.next,I J d.seq,I J d.tx,I J d.base]) d:=by
 obtain⟨B,-,-,e⟩:=h.dv;rw[<-h.is];exact e.rd h.fit
theorem Ds.isd(h:Ds w W g p ad len cap x a b c d)(e:cS B x d W):cS B (iA #[a,b,c,I J d.fS.next,I J d.seq,I J d.tx,I J d.base]) d W:=by
 rw[<-h.is];exact e
variable{d':Dv}
theorem Ds.serve{f:iW}{n i j c':iX}(h:Ds w W g p ad len cap x a b c d)(k:iL W.heap.size W f)(r:cS W.heap.size n d' f)(o:d'.Fit)(s:n=iA #[i,j,c',I J d'.fS.next,I J d'.seq,I J d'.tx,I J d'.base]):Ds w (bU f g i j c' d'.fS.next d'.seq d'.tx d'.base) g p ad len cap n i j c' d':=by
 have q:=h.at_.lt;have m:=h.zat.lt;have l:=h.gg;have e:=h.pl;refine⟨h.dr.below (mj _ _ _ _ _ _ _ (k.mono h.dr.1.size) (by omega)) e,⟨W.heap.size,by omega,m,r.put (by omega) _ _ _ _ _ _ _⟩,o,s,lX (h.at_.below k) _ _ _ _ _ _ _,(qJ _ _ _ _ _ _ _ _ _ (by omega)).trans (h.zat.below k),l,e⟩
def Cz(w:iW)(p:Nat)(ad:Option Addr)(a cap:Nat)(e:Ending)(w':iW):Prop:=∃v d,e=G v/\cS w.heap.size v d w'/\d.Fit/\cQ ji 11 d/\cR w w' p ad a cap
theorem Ds.ret(h:Ds w W g p ad len cap x a b c d)(f:cQ ji 11 d):Cz w p ad len cap (G (iA #[a,b,c,I J d.fS.next,I J d.seq,I J d.tx,I J d.base])) (bU W w.heap.size a b c d.fS.next d.seq d.tx d.base)/\aP (bU W w.heap.size a b c d.fS.next d.seq d.tx d.base) w.heap.size a b c d.fS.next d.seq d.tx d.base:=by
 obtain⟨B,i,e,h4⟩:=h.dv;refine⟨⟨_,d,rfl,?_,h.fit,f,h.dr.below (mj _ _ _ _ _ _ _ (ax _ _) (ak _)) h.pl⟩,lX h.zat _ _ _ _ _ _ _⟩;have:=(h4.put (g:=w.heap.size) e a b c d.fS.next d.seq d.tx d.base).down (B':=w.heap.size) (by omega)
 rw[h.is]at this;exact this
end
theorem Mo(n:Int)(h:5<=n/\n<=8):cQ ji 0 (oY n).1:=by
 have a:=XH (T:=ji) (k:=n) (by omega)
 unfold oY;rw[aj (by omega)]
 unfold eV;have b:bn (gL n)=iV:=a.up.ok;rw[aj b];exact a
theorem Nz(p:Nat)(ad:Option Addr)(i cap B:Nat)(w:iW)(hl:i<=1048576)(hc:jM w p ad i cap)(hd:gQ w ad i B)(A:B<=p):
 iK Tryz.prog 10 #[iP (X ⟨p,0,O⟩)] w (Cz w p ad i cap):=by
 have n:=hc.2.2.2.2.2;have U:=af hd;have bA:=aO w (iC #[Y O 0 0,Y O 0 0,Y O 0 0,I J 0,I J 0,I J 0,I J 0] 46);have T:=af ((cR.refl hc).below bA n);have ZA:ah (aP (w.alloc (iC #[Y O 0 0,Y O 0 0,Y O 0 0,I J 0,I J 0,I J 0,I J 0] 46)) w.heap.size (Y O 0 0) (Y O 0 0) (Y O 0 0) 0 0 0 0):=az _ _;clear hc hd bA;go_enter Tryz.func10,Tryz.ntmps10;go_wp2_with fail;generalize w.alloc (iC #[Y O 0 0,Y O 0 0,Y O 0 0,I J 0,I J 0,I J 0,I J 0] 46)=wa at T ZA⊢;refine(lm 4 p ad i cap B wa (by omega) hl T.o.2 (T.o.code U.o A n) A).mono ?_
 rintro e w1 ⟨y,rfl,y0,y1,-,d1⟩;have y2:=y1 (by omega)
 have wy:IntKind.i64.wrap (5+y)=5+y:=by rw[cL];omega
 have C:=af (T.o.trans d1);have P:ah (aP w1 w.heap.size (Y O 0 0) (Y O 0 0) (Y O 0 0) 0 0 0 0):=(d1.1.block _ ZA.o.lt (λe=>by cases e;omega)).trans ZA.o
 have S:=af (M5 (5+y) w1);unfold AD at S;have D:=af (Mo (5+y) (by omega))
 obtain⟨j,k0,hn⟩:∃j k0,oY (5+y)=(j,k0):=⟨_,_,rfl⟩;rw[hn]at S D;simp only at S D;clear d1 T ZA y1 hn;go_wp2_with fail;refine S.o.mono ?_;rintro e w2 ⟨v2,rfl,o2,f2,Z⟩;obtain⟨G,H,vb,N,M,E,lo,F,e2⟩:=o2.form;have ab:=P.o.lt;have b3:=aO w2 (iC #[Y G j.fH.length H,Y vb N M,Y E lo F,I J j.fS.next,I J j.seq,I J j.tx,I J j.base] 46);have D3:ah (Ds w (w2.alloc (iC #[Y G j.fH.length H,Y vb N M,Y E lo F,I J j.fS.next,I J j.seq,I J j.tx,I J j.base] 46)) w2.heap.size p ad i cap v2 (Y G j.fH.length H) (Y vb N M) (Y E lo F) j):=
  ⟨(C.o.below (Z.mono C.o.1.size) n).below (b3.mono (bR C.o.1.size Z.size)) n,⟨w1.heap.size,by omega,ab,o2.below b3⟩,f2,e2,az _ _,(P.o.below Z).below b3,by have:=Z.size;omega,n⟩
 subst e2;clear b3 o2 f2 Z S C P ab;go_wp2;generalize w2.alloc (iC #[Y G j.fH.length H,Y vb N M,Y E lo F,I J j.fS.next,I J j.seq,I J j.tx,I J j.base] 46)=w3 at D3⊢;obtain⟨g,hg⟩:=an w2.heap.size;rw[hg]at D3⊢;clear hg;go_loopw [5] (λiv W=>∃(k:Nat) (d:Dv) (x a b c:iX),iv=I J k/\k<=11/\ah (cQ ji k d)/\ah (Ds w W g p ad i cap x a b c d)) (λiv _=>12-(intOf iv).toNat)
 case atStart=>exact⟨0,j,_,_,_,_,rfl,aI _,D,D3⟩
 case round=>
  rename iW=>wr
  obtain⟨k,d,x,a,b,c,rfl,hk,Q,D4⟩:=hrel;clear D3 D;have aq:(0:Int)<=k:=by omega
  go_wp2_with fail;refine(lm 12 p ad i cap B wr (by omega) hl D4.o.dr.2 (D4.o.dr.code U.o A n) A).mono ?_
  rintro e x1 ⟨z,rfl,z0,z1,-,u⟩;have z2:=z1 (by omega)
  have s:=af (D4.o.draw u);clear D4 u z1;by_cases ar:(k:Int)<z
  ·go_upto_region 5 with fail
   have r:=af (s.o.below (ax x1.heap.size x1).drew);obtain⟨i0,i1,i2,i3,i4,i5,i6⟩:=r.o.at_.cells;obtain⟨B0,l⟩:=r.o.dv;clear s;refine kJ (λ_=>True) (by kernel_rfl) trivial (λhHeld=>?_)
   simp only[aR,cU,Nat.reduceAdd];refine au 1 ?_;refine EP 0 2 rfl rfl (by kernel_rfl) (λK f=>?wa) (λK f=>?wb)
   case' wa=>
    go_simp;clear hHeld;refine f.out _ _ trivial (λhHeld=>?_)
    clear f K
    (try simp only[Act.put,bJ,bE,bp])
    refine ch 2 rfl (by kernel_rfl) (λK f=>?_)
    go_simp;clear hHeld;refine f.out _ _ trivial (λhHeld=>?_)
    clear f K
    (try simp only[Act.put,bJ,bE,bp])
    refine ch 3 rfl (by kernel_rfl) (λK f=>?_)
    go_simp;refine(vD (iA #[a,b,c,I J d.fS.next,I J d.seq,I J d.tx,I J d.base]) d B0 p ad i cap B x1.drew hl r.o.dr.2 (r.o.dr.code U.o A n) A (r.o.isd l.2.2) r.o.fit l.1 Q.o.vi).mono ?_;rintro e x4 ⟨q,rfl,L,u⟩;have t:=af (r.o.draw u);have HQ:=af L;clear u L hHeld;refine f.out _ _ trivial (λhHeld=>?_)
    clear f K
    (try simp only[Act.put,bJ,bE,bp])
   case' wb=>
    go_simp;clear hHeld;refine f.out _ _ trivial (λhHeld=>?_)
    clear f K
    (try simp only[Act.put,bJ,bE,bp])
    refine EP 0 3 rfl rfl (by kernel_rfl) (λK f=>?wc) (λK f=>?wd)
    case' wc=>
     go_simp;clear hHeld;refine f.out _ _ trivial (λhHeld=>?_)
     clear f K
     (try simp only[Act.put,bJ,bE,bp])
     refine ch 3 rfl (by kernel_rfl) (λK f=>?_)
     go_simp;refine(vD (iA #[a,b,c,I J d.fS.next,I J d.seq,I J d.tx,I J d.base]) d B0 p ad i cap B x1.drew hl r.o.dr.2 (r.o.dr.code U.o A n) A (r.o.isd l.2.2) r.o.fit l.1 Q.o.vi).mono ?_;rintro e x4 ⟨q,rfl,L,u⟩;have t:=af (r.o.draw u);have HQ:=af L;clear u L hHeld;refine f.out _ _ trivial (λhHeld=>?_)
     clear f K
     (try simp only[Act.put,bJ,bE,bp])
    case' wd=>
     go_simp;refine(vD (iA #[a,b,c,I J d.fS.next,I J d.seq,I J d.tx,I J d.base]) d B0 p ad i cap B x1.drew hl r.o.dr.2 (r.o.dr.code U.o A n) A (r.o.isd l.2.2) r.o.fit l.1 Q.o.vi).mono ?_;rintro e x4 ⟨q,rfl,L,u⟩;have t:=af (r.o.draw u);have HQ:=af L;clear u L hHeld;refine f.out _ _ trivial (λhHeld=>?_)
     clear f K
     (try simp only[Act.put,bJ,bE,bp])
     obtain⟨j0,j1,j2,j3,j4,j5,j6⟩:=t.o.at_.cells;refine ch 0 rfl (by kernel_rfl) (λK f=>?_)
     go_simp;clear hHeld;refine f.out _ _ trivial (λhHeld=>?_)
     clear f K
     (try simp only[Act.put,bJ,bE,bp])
   all_goals
    refine ch 4 rfl (by kernel_rfl) (λK f=>?_)
    go_simp;refine(NK ji k (iA #[a,b,c,I J d.fS.next,I J d.seq,I J d.tx,I J d.base]) d q x4 t.o.rd Q.o).mono ?_;rintro e x5 ⟨v5,u5,rfl,o5,f5,-,v⟩;have V:=af (WJ Q.o (by omega) HQ.o.2 HQ.o.1)
    obtain⟨am,ap,ay,aD,aB,ai,av,ak,e5⟩:=o5.form;have C5:=af (t.o.serve v o5 f5 e5);obtain⟨m0,m1,m2,m3,m4,m5,m6⟩:=(t.o.at_.below v).cells;have n0:=(t.o.at_.below v).fr 0;have n1:=(t.o.at_.below v).fr 1;have n2:=(t.o.at_.below v).fr 2;have n3:=(t.o.at_.below v).fr 3;have n4:=(t.o.at_.below v).fr 4;have n5:=(t.o.at_.below v).fr 5;have n6:=(t.o.at_.below v).fr 6;subst e5;unfold bU at C5;obtain⟨d5,aa⟩:=an ((sT d q).1);rw[aa]at C5 V⊢;clear o5 f5 v aa;clear hHeld;refine f.out _ _ trivial (λhHeld=>?_)
    clear f K
    (try simp only[Act.put,bJ,bE,bp])
    refine au 5 ?_;refine au 6 ?_;refine au 7 ?_;refine au 8 ?_;refine au 9 ?_;refine ch 10 rfl (by kernel_rfl) (λK f=>?_)
    go_simp;clear hHeld;refine f.out _ _ trivial (λhHeld=>?_)
    clear f K
    (try simp only[Act.put,bJ,bE,bp])
    refine jx (by kernel_rfl) ?_
    clear hHeld m0 m1 m2 m3 m4 m5 m6 n0 n1 n2 n3 n4 n5 n6;go_wp2;go_roundw
    case rel=>exact⟨k+1,d5,_,_,_,_,by go_num,by omega,V,C5⟩
    case measure=>simp[intOf];omega
  ·have ac:=af (Q.o.sub (T':=ji) (m:=11) (λ_ h=>h) hk)
   obtain⟨al,ao,aw,aC,aA,ag,lo2,aj,R⟩:∃G H vb N M E lo F,(iA #[a,b,c,I J d.fS.next,I J d.seq,I J d.tx,I J d.base])=iA #[Y G d.fH.length H,Y vb N M,Y E lo F,I J d.fS.next,I J d.seq,I J d.tx,I J d.base]:=by
    obtain⟨B,-,-,hd⟩:=s.o.dv;obtain⟨G,H,vb,N,M,E,lo,F,e⟩:=hd.form;exact⟨G,H,vb,N,M,E,lo,F,s.o.is.symm.trans e⟩
   injection R with R
   injection R with R
   simp only[iQ,jY]at R;obtain⟨ea,eb,ec⟩:=R;subst ea eb ec;have FF:=af (s.o.ret ac.o);obtain⟨i0,i1,i2,i3,i4,i5,i6⟩:=s.o.at_.cells;obtain⟨j0,j1,j2,j3,j4,j5,j6⟩:=s.o.zat.cells;have q0:=s.o.zat.fr 0;have q1:=s.o.zat.fr 1;have q2:=s.o.zat.fr 2;have q3:=s.o.zat.fr 3;have q4:=s.o.zat.fr 4;have q5:=s.o.zat.fr 5;have q6:=s.o.zat.fr 6;unfold bU at FF;clear s;go_wp2;refine aF (Cq (p:=2) rfl _ _ w.heap.size _ _ _ _ _ _ _ rfl FF.o.2) rfl ?_;exact FF.o.1
end Go.Proofs.YtijmbohadndfmaaGreatDoor
