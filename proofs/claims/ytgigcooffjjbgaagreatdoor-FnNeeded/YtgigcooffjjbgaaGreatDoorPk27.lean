/-
  ISame; SSame; SDOk; SServe; D3; DDev; MapG; INewest; FdEql; IRecOk; IVol
-/
import Derived.Test.YtgigcooffjjbgaaGreatDoorPk26
import Derived.Maps.OwnSet
open Go.Value renaming int→I,slice→Y,string→iT,bool→iB,pointer→iP,agg→iA,tuple→iU
open Go.IntKind renaming i64→J
open Option renaming none→O,some→X
open Go.Ending renaming returned→G
open Go.Obj renaming cells→iC
open Bool renaming true→iV,false→iF
open Go renaming World→iW,Value→iX,Calls→iK
open Go.RowKit renaming Below→iL
set_option maxHeartbeats 8000000
set_option maxRecDepth 100000
namespace Go.Proofs.YtgigcooffjjbgaaGreatDoor
open Go.RowKit Words
def ot(l m:List Kn)(x y:Int×Int):Bool:=decide (x.1=y.1)&&decide (bu l x.2=bu m y.2)
theorem Zh(a b:Sto):qK a b=(decide (a.next=b.next)&&(decide (a.fV.length=b.fV.length)&&(a.fV.zip b.fV).all (λp=>ot a.fK b.fK p.1 p.2))):=by
 unfold qK cT;rw[tN];congr 1;rw[xN];simp only[bH,bn,gV,ot];generalize a.fV=x;generalize b.fV=y
 induction x generalizing y with
 |nil=>
  cases y with
  |nil=>simp
  |cons v y=>simp
 |cons u x e=>
  cases y with
  |nil=>simp
  |cons v y=>
   rw[cn,cn,jk,e,mQ];simp only[aV,List.zip_cons_cons,aX];constructor
   ·rintro⟨⟨h1,d⟩,f,h4⟩;refine⟨by omega,λp c=>?_⟩
    rcases c with rfl|c
    ·exact⟨h1,d⟩
    ·exact h4 p c
   ·rintro⟨h1,d⟩;exact⟨d (u,v) (.inl rfl),by omega,λp c=>d p (.inr c)⟩
theorem ZK(g h c d:Nat)(A B:List Int)(w:iW)(u:A.length=16)(v:B.length=16)(m:∀(k:Nat) (x:Int),A[k]?=X x->w.cell? ⟨g,k,O⟩=X (I J x))(n:∀(k:Nat) (x:Int),B[k]?=X x->w.cell? ⟨h,k,O⟩=X (I J x)):
 iK Tryz.prog 178 #[Y (X ⟨g,0,O⟩) 16 c,Y (X ⟨h,0,O⟩) 16 d] w λe w'=>e=G (iB (decide (A=B)))/\iL w.heap.size w w':=by
 have z:=af m;have C:=af n;have r:=af u;have s:=af v;have D:ah (g<w.heap.size):=aT w _ (m 0 _ (ay (by omega)))
 have E:ah (h<w.heap.size):=aT w _ (n 0 _ (ay (by omega)))
 clear m n u v;go_enter Tryz.func178,Tryz.ntmps178;go_wp2;go_loopw [5] (λq W=>∃k:Nat,k<=16/\q=I J k/\ah (A.take k=B.take k)/\ah (iL w.heap.size w W)) (λq _=>16-(intOf q).toNat)
 case atStart=>exact⟨0,aK _,rfl,(by simp:A.take 0=B.take 0),az _ _⟩
 case round=>
  obtain⟨k,N,rfl,t,f⟩:=hrel;by_cases F:(k:Int)<16
  ·obtain⟨x,b⟩:∃x,A[k]?=X x:=⟨_,ay (by have:=r.o;omega)⟩
   obtain⟨y,hy⟩:∃y,B[k]?=X y:=⟨_,ay (by have:=s.o;omega)⟩
   have H:=(f.o.cell (show g<w.heap.size from D.o)).trans (z.o k x b);have K:=(f.o.cell (show h<w.heap.size from E.o)).trans (C.o k y hy);have P:(0:Int)<=k:=by omega
   by_cases a:x=y
   ·subst a;have p:(x !=x)=iF:=by simp
    have l:ah (A.take (k+1)=B.take (k+1)):=by
     show _=_;rw[eG,eG,b,hy,t.o]
    clear b hy;go_wp2;go_quiet (fail);have i:=af (dL f.o nq);go_wp2;go_roundw
    case rel=>exact⟨k+1,by omega,by go_num,l,i⟩
    case measure=>simp[intOf];omega
   ·have p:(x !=y)=iV:=by simpa using a
    have j:ah (decide (A=B)=iF):=bf (λe=>a (by rw[e,hy]at b;exact(sV b).symm))
    clear b hy;go_wp2;go_quiet (fail);have i:=af (dL f.o nq);go_wp2;go_ret;exact⟨by rw[j.o];rfl,i.o⟩
  ·have j:ah (decide (A=B)=iV):=aW (by
    have h1:=t.o;have L:=r.o;have M:=s.o;rw[bL (by omega),bL (by omega)]at h1
    exact h1)
   go_wp2;go_ret;exact⟨by rw[j.o];rfl,f.o⟩
variable{listed:Array Bool}{fn:Func}{vs:List (Int × Int)}{rest:List Oper}{T:List UInt8 -> Prop}{k n fuel g p len cap B:Nat}{oi:Oper}{ad:Option Addr}{P:Program}{w W W':iW}{x b c:iX}
theorem Wr{a:List (Int×Int)}{x y:Int×Int}{f:(Int×Int)×(Int×Int)->Bool}(b:vs[k]?=X x)(hy:a[k]?=X y):((vs.zip a).take (k+1)).all f=(((vs.zip a).take k).all f&&f (x,y)):=by
 have:(vs.zip a)[k]?=X (x,y):=by rw[t8];exact⟨b,hy⟩
 rw[eG,this,Ba];simp
theorem Zj{a:List (Int×Int)}{x y:Int×Int}{f:(Int×Int)×(Int×Int)->Bool}(c:vs[k]?=X x)(hy:a[k]?=X y)(b:f (x,y)=iF):(vs.zip a).all f=iF:=by
 have:(vs.zip a)[k]?=X (x,y):=by rw[t8];exact⟨c,hy⟩
 rw[sX];exact⟨_,aO this,by simp[b]⟩
theorem Rh:Ph 142:=by
 rintro v s u t w ⟨va,a,vc,ad,l,cap,rs,rfl,au,aZ,hl,aM,aU,h,Z⟩ ⟨ua,ul,uc,T,j,i,qs,rfl,av,aY,aW,aw,aQ,h2,ar⟩;obtain⟨vs,fK,nx⟩:=s;obtain⟨F,a2,my⟩:=t;simp only at au h av h2⊢;subst au av;have r:=af (Tk.two w #[Y va a vc,Y ad l cap,I J nx] #[Y ua ul uc,Y T j i,I J my] 32 32);have HV:=af h;have HU:=af h2;have n:=af h.1;have N:=af h2.1;have aE:=af Z;have aF:=af ar;have EQ:=af (Zh ⟨vs,rs.map aD,nx⟩ ⟨F,qs.map aD,my⟩);simp only at EQ;obtain⟨C,hC⟩:=aq (qK ⟨vs,rs.map aD,nx⟩ ⟨F,qs.map aD,my⟩);rw[hC]at EQ⊢;clear hC h h2 Z ar aM aw aU aQ;unfold dK;by_cases aA:¬((a:Int)=ul)
 ·have M:ah (C=iF):=by
   show _=_;rw[EQ.o,n.o,N.o,bf (show¬(a=ul)by omega)]
   simp
  have aO:((a:Int) !=ul)=iV:=by simpa using aA
  go_enter Tryz.func142,Tryz.ntmps142;go_wp2;go_ret;exact⟨by rw[M.o];rfl,r.o.1⟩
 obtain rfl:a=ul:=by omega
 clear aA;have aO:((a:Int) !=a)=iF:=by simp
 by_cases aa:¬(nx=my)
 ·have M:ah (C=iF):=by
   show _=_;rw[EQ.o,bf aa,kL]
  have aN:(nx !=my)=iV:=by simpa using aa
  go_enter Tryz.func142,Tryz.ntmps142;go_wp2;go_ret;exact⟨by rw[M.o];rfl,r.o.1⟩
 obtain rfl:nx=my:=by omega
 clear aa;have aN:(nx !=nx)=iF:=by simp
 have M:ah (C=(vs.zip F).all (λp=>ot (rs.map aD) (qs.map aD) p.1 p.2)):=by
  show _=_;rw[EQ.o,n.o,N.o];simp
 clear EQ;go_enter Tryz.func142,Tryz.ntmps142;go_wp2;generalize(w.alloc (iC #[Y va a vc,Y ad l cap,I J nx] 32)).alloc (iC #[Y ua a uc,Y T j i,I J nx] 32)=wb at r⊢;have x0:wb.cell? ⟨w.heap.size,0,O⟩=X (Y va a vc):=r.o.at 1 0 rfl rfl;have x1:wb.cell? ⟨w.heap.size,1,O⟩=X (Y ad l cap):=r.o.at 1 1 rfl rfl;have y0:wb.cell? ⟨w.heap.size+1,0,O⟩=X (Y ua a uc):=r.o.at 0 0 rfl rfl;have y1:wb.cell? ⟨w.heap.size+1,1,O⟩=X (Y T j i):=r.o.at 0 1 rfl rfl;have BW:=af r.o.1;have XB:ah (w.heap.size<wb.heap.size/\w.heap.size+1<wb.heap.size):=⟨aT wb _ x0,aT wb _ y0⟩;obtain⟨z,hz⟩:=aq w.heap.size;have aV:=af hz;rw[hz]at x0 x1 y0 y1 XB⊢;clear hz r;go_loopw [5] (λiv W=>∃k:Nat,k<=a/\iv=I J k/\ah (((vs.zip F).take k).all (λp=>ot (rs.map aD) (qs.map aD) p.1 p.2)=iV)/\ah (iL wb.heap.size wb W)) (λiv _=>a-(intOf iv).toNat)
 case atStart=>exact⟨0,aK _,rfl,(by simp:((vs.zip F).take 0).all _=iV),az _ _⟩
 case round=>
  obtain⟨k,Z,rfl,HT,P⟩:=hrel;have a0:=(P.o.cell (show z<wb.heap.size from XB.o.1)).trans x0;have a1:=(P.o.cell (show z<wb.heap.size from XB.o.1)).trans x1;have b0:=(P.o.cell (show z+1<wb.heap.size from XB.o.2)).trans y0;have b1:=(P.o.cell (show z+1<wb.heap.size from XB.o.2)).trans y1;have b:=af (BW.o.trans (P.o.mono BW.o.size));by_cases aX:(k:Int)<a
  ·obtain⟨p,hp⟩:∃p,vs[k]?=X p:=⟨_,ay (by have:=n.o;omega)⟩
   obtain⟨q,hq⟩:∃q,F[k]?=X q:=⟨_,ay (by have:=N.o;omega)⟩
   obtain⟨U,o1,r1,-,c0,c1⟩:=(HV.o.below b.o).at hp;obtain⟨V,o2,r2,-,d0,d1⟩:=(HU.o.below b.o).at hq;subst r1 r2;have k0:(0:Int)<=k:=by omega
   have HZ:=af (Wr (f:=λp=>ot (rs.map aD) (qs.map aD) p.1 p.2) hp hq)
   have Q:=af (Zj (f:=λp=>ot (rs.map aD) (qs.map aD) p.1 p.2) hp hq)
   obtain⟨p0,p1⟩:=p;obtain⟨q0,q1⟩:=q;simp only at c0 c1 d0 d1 HZ Q;clear hp hq;have BD:ah (iL wr.heap.size wr wr.drew):=(az _ _).drew;have KK:ah (∀W,iL wr.heap.size wr W->(W.cell? ⟨z,0,O⟩=X (Y (X ⟨U,o1,O⟩) a vc)/\W.cell? ⟨z,1,O⟩=X (Y ad l cap)/\W.cell? ⟨z+1,0,O⟩=X (Y (X ⟨V,o2,O⟩) a uc)/\W.cell? ⟨z+1,1,O⟩=X (Y T j i))/\W.cell? ⟨U,o1+k*2,O⟩=X (I J p0)/\W.cell? ⟨U,o1+k*2+1,O⟩=X (I J p1)/\W.cell? ⟨V,o2+k*2,O⟩=X (I J q0)/\W.cell? ⟨V,o2+k*2+1,O⟩=X (I J q1)):=by
    have l0:z<wr.heap.size:=aT wr _ a0;have l1:z+1<wr.heap.size:=aT wr _ b0;have l2:U<wr.heap.size:=aT wr _ c0;have l3:V<wr.heap.size:=aT wr _ d0;exact λW H=>⟨⟨(H.cell l0).trans a0,(H.cell l0).trans a1,(H.cell l1).trans b0,(H.cell l1).trans b1⟩,(H.cell l2).trans c0,(H.cell l2).trans c1,(H.cell l3).trans d0,(H.cell l3).trans d1⟩
   by_cases y:p0=q0
   ·have aP:(p0 !=q0)=iF:=by simpa using y
    obtain⟨A,hA⟩:=aq (bu (rs.map aD) p1);obtain⟨B,hB⟩:=aq (bu (qs.map aD) q1);have ak:ah (A.length=16):=by show _=_;rw[<-hA];exact jK _ _
    have al:ah (B.length=16):=by show _=_;rw[<-hB];exact jK _ _
    have EV:ah (ot (rs.map aD) (qs.map aD) (p0,p1) (q0,q1)=decide (A=B)):=by
     show _=_;rw[ot,hA,hB];simp only[y,rE,gk]
    have K:=af (x8 ad l cap rs p1 wr.drew (by omega) (aE.o.below (b.o.trans (BD.o.mono b.o.size))))
    have CB:ah (∀W,iL wr.heap.size wr W->iK Tryz.prog 30 #[iA #[Y T j i],I J q1] W (ny W B)):=λW H=>by
     have:=x8 T j i qs q1 W (by omega) (aF.o.below (b.o.trans (H.mono b.o.size)))
     rw[hB]at this;exact this
    rw[hA]at K;have OG:ah (∀(W:iW) (B0:Nat) (v:iX) (L:List Int),L.length=16->W.ownsRow B0 3 1 v L.length (ax L)->∃g c,v=Y (X ⟨g,0,O⟩) 16 c/\g<W.heap.size/\∀(k:Nat) (x:Int),L[k]?=X x->W.cell? ⟨g,k,O⟩=X (I J x)):=λW B0 v L hl ho=>by
     obtain⟨va,vc,rfl,hr⟩:=(aG.of ho).form;obtain⟨g,rfl,-,hg⟩:=hr (by omega)
     refine⟨g,vc,by rw[hl],hg,λk x Z=>?_⟩
     rw[<-fw];exact ho.cells (g:=g) rfl k _ (iI Z)
    have E:=af (KK.o _ BD.o);obtain⟨D,hD⟩:=aq (decide (A=B));have CE:ah (∀(W:iW) (R bg c d:Nat),(∀(k:Nat) (x:Int),A[k]?=X x->W.cell? ⟨R,k,O⟩=X (I J x))->(∀(k:Nat) (x:Int),B[k]?=X x->W.cell? ⟨bg,k,O⟩=X (I J x))->iK Tryz.prog 178 #[Y (X ⟨R,0,O⟩) 16 c,Y (X ⟨bg,0,O⟩) 16 d] W λe w'=>e=G (iB D)/\iL W.heap.size W w'):=λW R bg c d aI aJ=>by
     have:=ZK R bg c d A B W ak.o al.o aI aJ;rw[hD]at this;exact this
    rw[hD]at EV;clear hA hB hD x0 x1 y0 y1;go_wp2;clear c0 c1 d0 d1 a0 a1 b0 b1;go_region_held3 (λw'=>(w'.cell? ⟨z,0,O⟩=X (Y (X ⟨U,o1,O⟩) a vc)/\w'.cell? ⟨z,1,O⟩=X (Y ad l cap)/\w'.cell? ⟨z+1,0,O⟩=X (Y (X ⟨V,o2,O⟩) a uc)/\w'.cell? ⟨z+1,1,O⟩=X (Y T j i))/\w'.cell? ⟨U,o1+k*2,O⟩=X (I J p0)/\w'.cell? ⟨U,o1+k*2+1,O⟩=X (I J p1)/\w'.cell? ⟨V,o2+k*2,O⟩=X (I J q0)/\w'.cell? ⟨V,o2+k*2+1,O⟩=X (I J q1)) (first|exact E.o|go_keep) (first
     |(go_at_call 30;(with_reducible refine cj K.o ?_);rintro en w1 ⟨v1,rfl,aB,am⟩;(obtain⟨R,f1,aR,ap,an⟩:=OG.o _ _ _ _ ak.o aB);subst aR;have ai:=af an;have aj:=af ap;have BE:=af (BD.o.trans (am.mono BD.o.size));clear E K aB an ap am;have E:=af (KK.o _ BE.o);have ac:=af (CB.o _ BE.o))
     |(go_at_call 30;(with_reducible refine cj ac.o ?_);rintro en w2 ⟨v2,rfl,aC,S⟩;(obtain⟨bg,f2,aS,aL,ao⟩:=OG.o _ _ _ _ al.o aC);subst aS;have ae:=af (CE.o w2 R bg f1 f2 (λk x Z=>(S.cell (show R<w1.heap.size from aj.o)).trans (ai.o k x Z)) ao);have m:=af (BE.o.trans (S.mono BE.o.size));clear E ac aC ao aL S;have E:=af (KK.o _ m.o))
     |(go_at_call 178;(with_reducible refine cj ae.o ?_);rintro en w3 ⟨rfl,b3⟩;have ab:=af (m.o.trans (b3.mono m.o.size));clear E ae b3;have E:=af (KK.o _ ab.o)))
    have BF:=af (P.o.trans (ab.o.mono P.o.size));clear E KK CB CE OG BE m ai aj;cases D with
    |true=>
     have aH:ah (((vs.zip F).take (k+1)).all (λp=>ot (rs.map aD) (qs.map aD) p.1 p.2)=iV):=by
      show _=_;rw[HZ.o,HT.o,EV.o];rfl
     go_wp2;go_roundw
     case rel=>exact⟨k+1,by omega,by go_num,aH,BF⟩
     case measure=>simp[intOf];omega
    |false=>
     have EF:ah (C=iF):=by
      show _=_;rw[M.o];exact Q.o EV.o
     have BG:=af (BW.o.trans (BF.o.mono BW.o.size));go_wp2;go_ret;exact⟨by rw[EF.o];rfl,BG.o⟩
   ·have aP:(p0 !=q0)=iV:=by simpa using y
    have EF:ah (C=iF):=by
     show _=_;rw[M.o];refine Q.o ?_;rw[ot,bf y,kL]
    clear KK;go_wp2;go_quiet (fail);have BG:=af (dL b.o nq);go_wp2;go_ret;exact⟨by rw[EF.o];rfl,BG.o⟩
  ·have EF:ah (C=iV):=by
    have h1:=HT.o;have h2:(vs.zip F).length<=k:=by
     rw[yL];have:=n.o;omega
    rw[bL h2]at h1;show _=_;rw[M.o,h1]
   go_wp2;go_ret;exact⟨by rw[EF.o];rfl,b.o⟩
open Sums
variable{s:Sto}
theorem LQ{v:iX}{w:iW}(h:di w v s):iK Tryz.prog 86 #[v] w λe w'=>e=G (iB (dh s))/\iL w.heap.size w w':=by
 obtain⟨i,j,vc,ad,c,cap,rs,rfl,a,g,k,b,f,h,d⟩:=h;have:=I8 i j vc ad c cap s.next s.fV rs w (by omega) (by omega) b h d
 rw[<-a]at this;exact this
theorem Se(v:iX)(d:Dv)(w:iW)(h:eP w v d):iK Tryz.prog 101 #[v] w λe w'=>e=G (iB (l9 d))/\iL w.heap.size w w':=by
 obtain⟨F,E,P,Q,vc,ad,O,cap,rfl,h1,h2,h3⟩:=h.form;have L:=aR w (iC #[Y F d.fH.length E,Y P Q vc,Y ad O cap,I J d.fS.next,I J d.seq,I J d.tx,I J d.base] 34);have N:aU (w.alloc (iC #[Y F d.fH.length E,Y P Q vc,Y ad O cap,I J d.fS.next,I J d.seq,I J d.tx,I J d.base] 34)) w.heap.size (Y F d.fH.length E) (Y P Q vc) (Y ad O cap) d.fS.next d.seq d.tx d.base:=aC _ _;generalize aa:w.alloc (iC #[Y F d.fH.length E,Y P Q vc,Y ad O cap,I J d.fS.next,I J d.seq,I J d.tx,I J d.base] 34)=wa at L N;have R:=af (Cu (Y F d.fH.length E) d.fH wa h2 (h1.below L));obtain⟨D,ok,hD⟩:∃D ok,fj d.fH=(D,ok):=⟨_,_,rfl⟩;rw[hD]at R;have k:ah (l9 d=(ok&&qK D.fS d.fS&&decide (D.seq=d.seq)&&decide (D.tx=d.tx)&&decide (D.base=d.base)&&dh d.fS)):=by show _=_;unfold l9;rw[hD]
 have T:=af L;have HG:=af N;have HI:=af h3;have a0:=N.cells.1;clear L N h1 h2 h3 h hD;go_enter Tryz.func101,Tryz.ntmps101;go_wp2_with fail;clear aa;refine R.o.mono ?_;rintro e K ⟨v,rfl,Z,df,W⟩;obtain⟨u,t,p,r,q,m,n,g,rfl⟩:=Z.form;have M:=aR K (iC #[Y u D.fH.length t,Y p r q,Y m n g,I J D.fS.next,I J D.seq,I J D.tx,I J D.base] 34);have V:aU (K.alloc (iC #[Y u D.fH.length t,Y p r q,Y m n g,I J D.fS.next,I J D.seq,I J D.tx,I J D.base] 34)) K.heap.size (Y u D.fH.length t) (Y p r q) (Y m n g) D.fS.next D.seq D.tx D.base:=aC _ _;have S:=(HG.o.below W).below M;have X:=T.o.trans (W.mono T.o.size);have B:=af (X.trans (M.mono X.size));have I1:=af ((Z.rd df).below M);have U:=af (HI.o.below B.o);obtain⟨-,-,-,-,e9,-,-,i9⟩:∃(a b c:Nat) (f:True),True/\True/\True/\di (K.alloc (iC #[Y u D.fH.length t,Y p r q,Y m n g,I J D.fS.next,I J D.seq,I J D.tx,I J D.base] 34)) (iA #[Y p r q,Y m n g,I J D.fS.next]) D.fS:=by
  obtain⟨fv,vv,kv,e,-,-,i⟩:=I1.o;injection e with e
  injection e with e
  simp only[jk,kx]at e;obtain⟨-,e1,e2⟩:=e;subst e1 e2;exact⟨0,0,0,trivial,trivial,trivial,trivial,i⟩
 have K1:=af i9;obtain⟨-,x1,x2,x3,x4,x5,x6⟩:=V.cells;obtain⟨-,y1,y2,y3,y4,y5,y6⟩:=S.cells;have XA:=af V;have GA:=af S;clear i9 e9 I1 R T HG HI Z df W M X V S a0;generalize ab:K.alloc (iC #[Y u D.fH.length t,Y p r q,Y m n g,I J D.fS.next,I J D.seq,I J D.tx,I J D.base] 34)=w2 at*;cases y:ok with
 |false=>
  have s:ah (l9 d=iF):=by show _=_;rw[k.o,y];rfl
  clear k;go_wp2;go_ret;exact⟨by rw[s.o];rfl,B.o⟩
 |true=>
  have CS:=af (Rh _ _ _ _ w2 K1.o U.o);obtain⟨sb,H⟩:=aq (qK D.fS d.fS);rw[H]at CS k;rw[y]at k;clear H y;clear x4 x5 x6 y4 y5 y6;go_wp2_with fail;refine CS.o.mono ?_;rintro e w3 ⟨rfl,C⟩;have z:=af (B.o.trans (C.mono B.o.size));have J3:=af (U.o.below C);obtain⟨-,-,-,-,x4,x5,x6⟩:=(XA.o.below C).cells;obtain⟨-,z1,z2,z3,y4,y5,y6⟩:=(GA.o.below C).cells;have A:=af (LQ J3.o);clear CS C U K1 B XA GA J3 x1 x2 x3 y1 y2 y3;cases sb with
  |false=>
   have s:ah (l9 d=iF):=by show _=_;rw[k.o];rfl
   clear k A;go_wp2;go_ret;exact⟨by rw[s.o];rfl,z.o⟩
  |true=>
   by_cases l:(D.seq==d.seq)=iF
   ·have s:ah (l9 d=iF):=by show _=_;rw[k.o,bf (show¬D.seq=d.seq by simpa using l)];simp
    clear k A;go_wp2;go_ret;exact⟨by rw[s.o];rfl,z.o⟩
   have l:(D.seq==d.seq)=iV:=by simpa using l
   by_cases x:(D.tx==d.tx)=iF
   ·have s:ah (l9 d=iF):=by show _=_;rw[k.o,bf (show¬D.tx=d.tx by simpa using x)];simp
    clear k A;go_wp2;go_ret;exact⟨by rw[s.o];rfl,z.o⟩
   have x:(D.tx==d.tx)=iV:=by simpa using x
   by_cases j:(D.base==d.base)=iF
   ·have s:ah (l9 d=iF):=by show _=_;rw[k.o,bf (show¬D.base=d.base by simpa using j)];simp
    clear k A;go_wp2;go_ret;exact⟨by rw[s.o];rfl,z.o⟩
   have j:(D.base==d.base)=iV:=by simpa using j
   have s:ah (l9 d=dh d.fS):=by show _=_;rw[k.o,aW (show D.seq=d.seq by simpa using l),aW (show D.tx=d.tx by simpa using x),aW (show D.base=d.base by simpa using j)];simp
   clear k;go_wp2_with fail;refine A.o.mono ?_;rintro e w4 ⟨rfl,b4⟩;have B4:=af (z.o.trans (b4.mono z.o.size));clear A b4;go_wp2;go_ret;exact⟨by rw[s.o];rfl,B4.o⟩
theorem re {p q r u:Tmp} (h:fn.results= #[.cell p 34,.tmp q,.tmp r,.tmp u]) (d:Array iX) (w:iW) (g:Nat) (a b c:iX) (n x t s:Int)
 (j:d.getD p undef=iP (X ⟨g,0,O⟩)) (f:aU w g a b c n x t s):
 (results fn d).run Tryz.prog w=.ok (iU #[iA #[a,b,c,I J n,I J x,I J t,I J s],d.getD q undef,d.getD r undef,d.getD u undef]) w:=by
 have e:d[p]?.getD undef=iP (X ⟨g,0,O⟩):=by simpa using j
 have i:=nj (P:=Tryz.prog) w g 34 34 _ _ _ f Tryz.underlying34 rfl BP;simp[results,h,e,asAddr,i]
theorem Qv(d:Dv)(q:Ak):(eA d q).1.length<=1:=by
 unfold eA
 repeat' split
 all_goals simp
theorem Fr:∀(k:Nat) (d:Dv) (l:List aM),cO T n d->(j8 k d l).2.length<=l.length+k*1000
 |0,d,l,_=>by simp[j8]
 |k+1,d,l,h=>by
  rw[j8];split
  ·split
   ·rename_i hc
    have h1:=Fr k (gn d (jc d).1) (l++(jc d).1) (Al (L:=(jc d).1) h (qc rfl hc));have a:=JD h.up.ok;rw[aJ]at h1;omega
   ·simp only;omega
  ·simp only;omega
theorem Td(T:List UInt8->Prop)(n:Nat)(x:iX)(d:Dv)(q:Ak)(w:iW)(h:eP w x d)(hg:cO T n d):iK Tryz.prog 60 #[x,mw q] w (AF w (sj d q)):=by
 have hx:=h;obtain⟨i0,aW,a0,a1,a3⟩:=bV An;have I0:=af aW;have I1:=af a0;have I2:=af a1;have I3:=af a3;clear aW a0 a1 a3;obtain⟨v,u,F,G,vc,ad,E,cap,rfl,h1,h2,h3⟩:=h.form;have s1:(w.alloc (iC #[Y v d.fH.length u,Y F G vc,Y ad E cap,I J d.fS.next,I J d.seq,I J d.tx,I J d.base] 34)).heap.size=w.heap.size+1:=by simp
 have s2:((w.alloc (iC #[Y v d.fH.length u,Y F G vc,Y ad E cap,I J d.fS.next,I J d.seq,I J d.tx,I J d.base] 34)).alloc (iC #[I J q.kind,I J q.vol,I J q.sector,I J q.of,iT q.text] 55)).heap.size=w.heap.size+1+1:=by simp
 have P:=aR w (iC #[Y v d.fH.length u,Y F G vc,Y ad E cap,I J d.fS.next,I J d.seq,I J d.tx,I J d.base] 34);have Q:iL (w.alloc (iC #[Y v d.fH.length u,Y F G vc,Y ad E cap,I J d.fS.next,I J d.seq,I J d.tx,I J d.base] 34)).heap.size (w.alloc (iC #[Y v d.fH.length u,Y F G vc,Y ad E cap,I J d.fS.next,I J d.seq,I J d.tx,I J d.base] 34)) ((w.alloc (iC #[Y v d.fH.length u,Y F G vc,Y ad E cap,I J d.fS.next,I J d.seq,I J d.tx,I J d.base] 34)).alloc (iC #[I J q.kind,I J q.vol,I J q.sector,I J q.of,iT q.text] 55)):=bh;have b3:iL ((w.alloc (iC #[Y v d.fH.length u,Y F G vc,Y ad E cap,I J d.fS.next,I J d.seq,I J d.tx,I J d.base] 34)).alloc (iC #[I J q.kind,I J q.vol,I J q.sector,I J q.of,iT q.text] 55)).heap.size ((w.alloc (iC #[Y v d.fH.length u,Y F G vc,Y ad E cap,I J d.fS.next,I J d.seq,I J d.tx,I J d.base] 34)).alloc (iC #[I J q.kind,I J q.vol,I J q.sector,I J q.of,iT q.text] 55)) (((w.alloc (iC #[Y v d.fH.length u,Y F G vc,Y ad E cap,I J d.fS.next,I J d.seq,I J d.tx,I J d.base] 34)).alloc (iC #[I J q.kind,I J q.vol,I J q.sector,I J q.of,iT q.text] 55)).alloc (iC #[Y O 0 0,Y O 0 0,Y O 0 0,I J 0,I J 0,I J 0,I J 0] 34)):=bh;have g1:aU (w.alloc (iC #[Y v d.fH.length u,Y F G vc,Y ad E cap,I J d.fS.next,I J d.seq,I J d.tx,I J d.base] 34)) w.heap.size (Y v d.fH.length u) (Y F G vc) (Y ad E cap) d.fS.next d.seq d.tx d.base:=aC _ _;have a2:cQ ((w.alloc (iC #[Y v d.fH.length u,Y F G vc,Y ad E cap,I J d.fS.next,I J d.seq,I J d.tx,I J d.base] 34)).alloc (iC #[I J q.kind,I J q.vol,I J q.sector,I J q.of,iT q.text] 55)) (w.heap.size+1) q:=by
  rw[<-s1];exact aC _ _
 have zA:aU (((w.alloc (iC #[Y v d.fH.length u,Y F G vc,Y ad E cap,I J d.fS.next,I J d.seq,I J d.tx,I J d.base] 34)).alloc (iC #[I J q.kind,I J q.vol,I J q.sector,I J q.of,iT q.text] 55)).alloc (iC #[Y O 0 0,Y O 0 0,Y O 0 0,I J 0,I J 0,I J 0,I J 0] 34)) (w.heap.size+1+1) (Y O 0 0) (Y O 0 0) (Y O 0 0) 0 0 0 0:=by
  rw[<-s2];exact aC _ _
 have gA:=(g1.below Q).below b3;have aA:=a2.below b3;have c2:=P.trans (Q.mono P.size);have bA:=c2.trans (b3.mono c2.size);generalize a6:(((w.alloc (iC #[Y v d.fH.length u,Y F G vc,Y ad E cap,I J d.fS.next,I J d.seq,I J d.tx,I J d.base] 34)).alloc (iC #[I J q.kind,I J q.vol,I J q.sector,I J q.of,iT q.text] 55)).alloc (iC #[Y O 0 0,Y O 0 0,Y O 0 0,I J 0,I J 0,I J 0,I J 0] 34))=wa at bA gA aA zA;have CC:=af (Eb _ d wa (hx.below bA) hg.fit);unfold rZ at CC;have HX:=af (hx.below bA);have HB:=af bA;have HG:=af gA;have HA:=af aA;have HZ:=af zA;have aJ:=af hg;have a:ah (sj d q=if l9 d=iF then(d,[],aQ,5)
  else if (eA d q).2.2≠0 then(d,[],aQ,(eA d q).2.2)
  else if q.kind=6 then(if (nt d q.vol q.sector).2 then(d,[],(nt d q.vol q.sector).1,0)else(d,[],aQ,1))
  else
   if (dZ (if cK d.fH<12 then gJ d 20 else(d,[])).1 (eA (if cK d.fH<12 then gJ d 20 else(d,[])).1 q).1 (eA (if cK d.fH<12 then gJ d 20 else(d,[])).1 q).2.1).2=iF∨cK (if cK d.fH<12 then gJ d 20 else(d,[])).1.fH<8 then((if cK d.fH<12 then gJ d 20 else(d,[])).1,(if cK d.fH<12 then gJ d 20 else(d,[])).2,aQ,4)else(gn (if cK d.fH<12 then gJ d 20 else(d,[])).1 (dZ (if cK d.fH<12 then gJ d 20 else(d,[])).1 (eA (if cK d.fH<12 then gJ d 20 else(d,[])).1 q).1 (eA (if cK d.fH<12 then gJ d 20 else(d,[])).1 q).2.1).1,(if cK d.fH<12 then gJ d 20 else(d,[])).2++(dZ (if cK d.fH<12 then gJ d 20 else(d,[])).1 (eA (if cK d.fH<12 then gJ d 20 else(d,[])).1 q).1 (eA (if cK d.fH<12 then gJ d 20 else(d,[])).1 q).2.1).1,aQ,0)):=rfl
 obtain⟨R,hR⟩:=aq (sj d q);rw[hR]at a⊢;obtain⟨y0,y1,y2,y3,y4,y5,y6⟩:=gA.cells;clear hx h h1 h2 h3 s1 s2 P Q b3 g1 a2 c2 bA gA aA zA hg hR;unfold mw;go_enter Tryz.func60,Tryz.ntmps60;go_wp2_with fail;clear a6;refine CC.o.mono ?_;rintro e M ⟨v1,rfl,o1,f1,P⟩;obtain⟨U,Z,vb,vm,vd,N,lo,S,e1⟩:=o1.form;have a7:=HZ.o.lt;have Q:=aR M (iC #[Y U d.fH.length Z,Y vb vm vd,Y N lo S,I J d.fS.next,I J d.seq,I J d.tx,I J d.base] 34);have g2:aU (M.alloc (iC #[Y U d.fH.length Z,Y vb vm vd,Y N lo S,I J d.fS.next,I J d.seq,I J d.tx,I J d.base] 34)) M.heap.size (Y U d.fH.length Z) (Y vb vm vd) (Y N lo S) d.fS.next d.seq d.tx d.base:=aC _ _;have B2:=HB.o.trans (P.mono HB.o.size);have B3:=B2.trans (Q.mono B2.size);have y:iL (M.alloc (iC #[Y U d.fH.length Z,Y vb vm vd,Y N lo S,I J d.fS.next,I J d.seq,I J d.tx,I J d.base] 34)).heap.size (M.alloc (iC #[Y U d.fH.length Z,Y vb vm vd,Y N lo S,I J d.fS.next,I J d.seq,I J d.tx,I J d.base] 34)) ((M.alloc (iC #[Y U d.fH.length Z,Y vb vm vd,Y N lo S,I J d.fS.next,I J d.seq,I J d.tx,I J d.base] 34)).alloc (iC #[] 254)):=bh;have n3:=nN B3 (M.alloc (iC #[Y U d.fH.length Z,Y vb vm vd,Y N lo S,I J d.fS.next,I J d.seq,I J d.tx,I J d.base] 34)).heap.size rfl;have C3:ah (gF w ((M.alloc (iC #[Y U d.fH.length Z,Y vb vm vd,Y N lo S,I J d.fS.next,I J d.seq,I J d.tx,I J d.base] 34)).alloc (iC #[] 254)) (w.heap.size+1+1) M.heap.size v1 (Y U d.fH.length Z) (Y vb vm vd) (Y N lo S) (Y (X ⟨(M.alloc (iC #[Y U d.fH.length Z,Y vb vm vd,Y N lo S,I J d.fS.next,I J d.seq,I J d.tx,I J d.base] 34)).heap.size,0,O⟩) 0 0) d []):=
  ⟨n3.2,⟨wa.heap.size,by omega,(o1.below Q).below y⟩,f1,e1,g2.below y,((HZ.o.below P).below Q).below y,n3.1,by have:=P.size;omega,by omega⟩
 have G3:=af (((HG.o.below P).below Q).below y);have A3:=af (((HA.o.below P).below Q).below y);have X3:=af (((HX.o.below P).below Q).below y);subst e1;clear Q g2 B2 B3 y n3 o1 f1 CC P HB HZ HG HA HX a7 y0 y1 y2 y3 y4 y5 y6;generalize a4:M.alloc (iC #[Y U d.fH.length Z,Y vb vm vd,Y N lo S,I J d.fS.next,I J d.seq,I J d.tx,I J d.base] 34)=w2 at C3 G3 A3 X3;generalize a5:w2.alloc (iC #[] 254)=w3 at C3 G3 A3 X3;have CD:=af (Se _ d w3 X3.o);obtain⟨db,aV⟩:=aq (l9 d);rw[aV]at CD a;clear aV;obtain⟨y0,y1,y2,y3,y4,y5,y6⟩:=G3.o.cells;go_wp2_with fail;clear a4 a5;obtain⟨g,aD⟩:=aq M.heap.size;obtain⟨u0,aF⟩:=aq (Y (X ⟨w2.heap.size,0,O⟩) 0 0);rw[aD,aF]at C3;rw[aD,aF];clear aD aF;refine CD.o.mono ?_;rintro e w4 ⟨rfl,b4⟩;have z:=af (C3.o.below b4);have G4:=af (G3.o.below b4);have A4:=af (A3.o.below b4);have X4:=af (X3.o.below b4);clear CD C3 G3 A3 X3 b4 y0 y1 y2 y3 y4 y5 y6;cases db with
 |false=>
  have B:ah (R=(d,[],aQ,5)):=by show _=_;rw[a.o,ak rfl]
  clear a;go_upto_region 4 with fail
  have k:=af (z.o.ret4 aQ 5);obtain⟨i0,i1,i2,i3,i4,i5,i6⟩:=z.o.at_.cells;obtain⟨j0,j1,j2,j3,j4,j5,j6⟩:=z.o.zat.cells;have q0:=z.o.zat.fr 0;have q1:=z.o.zat.fr 1;have q2:=z.o.zat.fr 2;have q3:=z.o.zat.fr 3;have q4:=z.o.zat.fr 4;have q5:=z.o.zat.fr 5;have q6:=z.o.zat.fr 6;have j:=af (z.o.rat);unfold bF at k j;clear z;go_wp2;refine aE (re (p:=4) rfl _ _ (w.heap.size+1+1) _ _ _ _ _ _ _ rfl j.o) rfl ?_;rw[B.o];exact k.o
 |true=>
  rw[aj (by decide)]at a
  obtain⟨y0,y1,y2,y3,y4,y5,y6⟩:=G4.o.cells;obtain⟨k0,k1,k2,k3,k4⟩:=A4.o.cells;have CP:=af (GZ _ d q w4 X4.o);unfold vn mw at CP;obtain⟨f,aS⟩:=aq ((eA d q).2.2);rw[aS]at a CP;clear aS;go_wp2_with fail;refine CP.o.mono ?_;rintro e w5 ⟨rv,rfl,-,b5⟩;have t:=af (z.o.below b5);have G5:=af (G4.o.below b5);have A5:=af (A4.o.below b5);have X5:=af (X4.o.below b5);clear CP z G4 A4 X4 b5 y0 y1 y2 y3 y4 y5 y6 k0 k1 k2 k3 k4;by_cases m:(f !=0)=iV
  ·have B:ah (R=(d,[],aQ,f)):=by show _=_;rw[a.o,ak (by simpa using m)]
   clear a;go_upto_region 7 with fail
   have k:=af (t.o.ret4 aQ f);obtain⟨i0,i1,i2,i3,i4,i5,i6⟩:=t.o.at_.cells;obtain⟨j0,j1,j2,j3,j4,j5,j6⟩:=t.o.zat.cells;have q0:=t.o.zat.fr 0;have q1:=t.o.zat.fr 1;have q2:=t.o.zat.fr 2;have q3:=t.o.zat.fr 3;have q4:=t.o.zat.fr 4;have q5:=t.o.zat.fr 5;have q6:=t.o.zat.fr 6;have j:=af (t.o.rat);unfold bF at k j;clear t;go_wp2;refine aE (re (p:=4) rfl _ _ (w.heap.size+1+1) _ _ _ _ _ _ _ rfl j.o) rfl ?_;rw[B.o];exact k.o
  have D:¬f≠0:=by simpa using m
  have m:(f !=0)=iF:=by simpa using m
  rw[aj D]at a;clear D;obtain⟨k0,k1,k2,k3,k4⟩:=A5.o.cells;obtain⟨y0,y1,y2,y3,y4,y5,y6⟩:=G5.o.cells;by_cases ao:(q.kind==6)=iV
  ·rw[ak (by simpa using ao)]at a
   have K:=af (Ps _ d q.vol q.sector w5 X5.o);obtain⟨rt,aG,aY⟩:∃rt aG,nt d q.vol q.sector=(rt,aG):=⟨_,_,rfl⟩;rw[aY]at K a;simp only at K a;clear aY;go_wp2_with fail;refine K.o.mono ?_;rintro e w6 ⟨rfl,b6⟩;have c:=af (t.o.below b6);clear K t G5 A5 X5 b6 y0 y1 y2 y3 y4 y5 y6 k0 k1 k2 k3 k4;cases aG with
   |false=>
    have B:ah (R=(d,[],aQ,1)):=a;clear a;go_upto_region 11 with fail
    have k:=af (c.o.ret4 aQ 1);obtain⟨i0,i1,i2,i3,i4,i5,i6⟩:=c.o.at_.cells;obtain⟨j0,j1,j2,j3,j4,j5,j6⟩:=c.o.zat.cells;have q0:=c.o.zat.fr 0;have q1:=c.o.zat.fr 1;have q2:=c.o.zat.fr 2;have q3:=c.o.zat.fr 3;have q4:=c.o.zat.fr 4;have q5:=c.o.zat.fr 5;have q6:=c.o.zat.fr 6;have j:=af (c.o.rat);unfold bF at k j;clear c;go_wp2;refine aE (re (p:=4) rfl _ _ (w.heap.size+1+1) _ _ _ _ _ _ _ rfl j.o) rfl ?_;rw[B.o];exact k.o
   |true=>
    have B:ah (R=(d,[],rt,0)):=a;clear a;go_upto_region 12 with fail
    have k:=af (c.o.ret4 rt 0);obtain⟨i0,i1,i2,i3,i4,i5,i6⟩:=c.o.at_.cells;obtain⟨j0,j1,j2,j3,j4,j5,j6⟩:=c.o.zat.cells;have q0:=c.o.zat.fr 0;have q1:=c.o.zat.fr 1;have q2:=c.o.zat.fr 2;have q3:=c.o.zat.fr 3;have q4:=c.o.zat.fr 4;have q5:=c.o.zat.fr 5;have q6:=c.o.zat.fr 6;have j:=af (c.o.rat);unfold bF at k j;clear c;go_wp2;refine aE (re (p:=4) rfl _ _ (w.heap.size+1+1) _ _ _ _ _ _ _ rfl j.o) rfl ?_;rw[B.o];exact k.o
  rw[aj (by simpa using ao)]at a
  have ao:(q.kind==6)=iF:=by simpa using ao
  have K:=af (AO (Y v d.fH.length u) d.fH w5 t.o.fit.1 (by obtain⟨fv,vv,kv,e,r1,-⟩:=X5.o;injection e with e;injection e with e;simp only[jk]at e;rw[e.1];exact r1))
  have ai:=af (Fr (min (20:Int).toNat 20) d [] aJ.o);obtain⟨rm,ac⟩:=aq (cK d.fH);rw[ac]at K a;clear ac;go_wp2_with fail;refine K.o.mono ?_;rintro e w6 ⟨rfl,b6⟩;have c:=af (t.o.below b6);have G6:=af (G5.o.below b6);have s:=af (A5.o.below b6);have X6:=af (X5.o.below b6);clear K t G5 A5 X5 b6 y0 y1 y2 y3 y4 y5 y6 k0 k1 k2 k3 k4;go_upto_if 64 with fail
  go_cut [15] (λa9 V=>∃(x9:iX) (W:Option Addr) (aa:Nat) (ar:Option Addr) (av au:Nat) (al:Option Addr) (ap an:Nat) (b:Dv) (l:List aM),ah (gF w V (w.heap.size+1+1) g x9 (Y W b.fH.length aa) (Y ar av au) (Y al ap an) a9 b l)/\ah (cQ V (w.heap.size+1) q)/\l.length<=20000/\ah (R=if (dZ b (eA b q).1 (eA b q).2.1).2=iF∨cK b.fH<8 then(b,l,aQ,4)else(gn b (dZ b (eA b q).1 (eA b q).2.1).1,l++(dZ b (eA b q).1 (eA b q).2.1).1,aQ,0)))
  case first=>
   by_cases bd:(rm:Int)<12
   ·have i:rm<12:=by omega
    simp only[ak i]at a;have CL:=af (WS T n _ d 20 w6 X6.o aJ.o);unfold Bc at CL;have ay:ah ((gJ d 20).2.length<=20000):=by have:=ai.o;show _<=_;unfold gJ;simp only[dU,eV]at this;exact bT this (by decide)
    obtain⟨b,l,aT⟩:∃b l,gJ d 20=(b,l):=⟨_,_,rfl⟩;rw[aT]at CL a ay;simp only at CL a ay;clear aT i ai;obtain⟨y0,y1,y2,y3,y4,y5,y6⟩:=G6.o.cells;go_wp2_with fail;refine CL.o.mono ?_;rintro e w7 ⟨v7,u7,rfl,o7,f7,r7,C⟩;obtain⟨W,aa,ar,av,au,al,ap,an,e7⟩:=o7.form;have A:=af (c.o.below C);have ag:=s.o.below C;have ST:=af (c.o.clean C o7 f7 e7 r7);have aH:ah (cQ (bF w7 g (Y W b.fH.length aa) (Y ar av au) (Y al ap an) b.fS.next b.seq b.tx b.base) (w.heap.size+1) q):=(rA _ _ _ _ _ _ _ _ _ (by have:=c.o.gg;omega)).trans ag
    subst e7;obtain⟨bo,bp,bq,br,bs,bt,bu⟩:=A.o.at_.cells;have q0:=A.o.at_.fr 0;have q1:=A.o.at_.fr 1;have q2:=A.o.at_.fr 2;have q3:=A.o.at_.fr 3;have q4:=A.o.at_.fr 4;have q5:=A.o.at_.fr 5;have q6:=A.o.at_.fr 6;unfold bF at ST aH;clear CL c A G6 X6 s ag o7 f7 r7 C y0 y1 y2 y3 y4 y5 y6;go_wp2_with fail;go_meet
    case rel=>exact⟨_,_,_,_,_,_,_,_,_,b,l,ST,aH,ay.o,a⟩
   ·have i:¬rm<12:=by omega
    simp only[aj i]at a;clear i G6 X6 ai;go_wp2_with fail;go_meet
    case rel=>exact⟨_,_,_,_,_,_,_,_,_,d,[],c,s,aK _,a⟩
  case rest=>
   obtain⟨w8,hV⟩:∃w8,w8=wc:=⟨_,rfl⟩;subst hV;clear c G6 s X6 ai a;obtain⟨x9,W,aa,ar,av,au,al,ap,an,b,l,c,s,bl,a⟩:=hcut;obtain⟨c0,c1,c2,c3,c4,c5,c6⟩:=c.o.at_.cells;obtain⟨k0,k1,k2,k3,k4⟩:=s.o.cells;have CP:=af (GZ _ b q w8 c.o.rd);unfold vn mw at CP;have az:=af (Qv b q);obtain⟨H,tx,f,aX⟩:∃H tx f,eA b q=(H,tx,f):=⟨_,_,_,rfl⟩;rw[aX]at CP az a;simp only at CP az a;clear aX;go_wp2_with fail;refine CP.o.mono ?_;rintro e bb ⟨rv,rfl,ro,C⟩;obtain⟨ra,rc,rfl,rr⟩:=kC.of_own (by rw[bm]) ro
   have A:=af (c.o.below C);have ag:=af (s.o.below C);have CW:=af (Hf _ b ra H.length rc H tx bb A.o.rd (by have:=az.o;omega) rr)
   unfold ji at CW;have aB:=af (Ed b H tx);obtain⟨L,ok,aZ⟩:∃L ok,dZ b H tx=(L,ok):=⟨_,_,rfl⟩;rw[aZ]at CW aB a;simp only at CW aB a;clear aZ ro rr C CP c s c0 c1 c2 c3 c4 c5 c6 k0 k1 k2 k3 k4;obtain⟨c0,c1,c2,c3,c4,c5,c6⟩:=A.o.at_.cells;go_wp2_with fail;refine CW.o.mono ?_;rintro e bc ⟨sv,rfl,o8,b8⟩;have C8:=af (A.o.below b8);have O8:=af o8;clear CW A ag o8 b8 c0 c1 c2 c3 c4 c5 c6;cases ok with
   |false=>
    have B:ah (R=(b,l,aQ,4)):=by show _=_;rw[a.o,ak (.inl rfl)]
    clear a O8;go_upto_region 19 with fail
    have k:=af (C8.o.ret4 aQ 4);obtain⟨i0,i1,i2,i3,i4,i5,i6⟩:=C8.o.at_.cells;obtain⟨j0,j1,j2,j3,j4,j5,j6⟩:=C8.o.zat.cells;have q0:=C8.o.zat.fr 0;have q1:=C8.o.zat.fr 1;have q2:=C8.o.zat.fr 2;have q3:=C8.o.zat.fr 3;have q4:=C8.o.zat.fr 4;have q5:=C8.o.zat.fr 5;have q6:=C8.o.zat.fr 6;have j:=af (C8.o.rat);unfold bF at k j;clear C8;go_wp2;refine aE (re (p:=4) rfl _ _ (w.heap.size+1+1) _ _ _ _ _ _ _ rfl j.o) rfl ?_;rw[B.o];exact k.o
   |true=>
    obtain⟨c0,c1,c2,c3,c4,c5,c6⟩:=C8.o.at_.cells;have K:=af (AO (Y W b.fH.length aa) b.fH bc C8.o.fit.1 (by obtain⟨fv,vv,kv,e,r1,-⟩:=C8.o.rd;injection e with e;injection e with e;simp only[jk]at e;rw[e.1];exact r1))
    obtain⟨a8,ac⟩:=aq (cK b.fH);rw[ac]at K a;clear ac;go_wp2_with fail;refine K.o.mono ?_;rintro e w9 ⟨rfl,b9⟩;have r:=af (C8.o.below b9);have O9:=af (bE O8.o b9);clear K C8 O8 b9 c0 c1 c2 c3 c4 c5 c6;by_cases bn:(a8:Int)<8
    ·have B:ah (R=(b,l,aQ,4)):=by show _=_;rw[a.o,ak (.inr (by omega))]
     clear a O9;go_upto_region 19 with fail
     have k:=af (r.o.ret4 aQ 4);obtain⟨i0,i1,i2,i3,i4,i5,i6⟩:=r.o.at_.cells;obtain⟨j0,j1,j2,j3,j4,j5,j6⟩:=r.o.zat.cells;have q0:=r.o.zat.fr 0;have q1:=r.o.zat.fr 1;have q2:=r.o.zat.fr 2;have q3:=r.o.zat.fr 3;have q4:=r.o.zat.fr 4;have q5:=r.o.zat.fr 5;have q6:=r.o.zat.fr 6;have j:=af (r.o.rat);unfold bF at k j;clear r;go_wp2;refine aE (re (p:=4) rfl _ _ (w.heap.size+1+1) _ _ _ _ _ _ _ rfl j.o) rfl ?_;rw[B.o];exact k.o
    ·have B:ah (R=(gn b L,l++L,aQ,0)):=by show _=_;rw[a.o,aj (by simp;omega)]
     obtain⟨c0,c1,c2,c3,c4,c5,c6⟩:=r.o.at_.cells;have be:=aB.o;have CA:=af (Jw _ sv b L w9 r.o.rd (by omega) (KT O9.o))
     unfold rZ at CA;obtain⟨bi,aw⟩:=aq (gn b L);rw[aw]at CA B;clear aw a;go_wp2_with fail;refine CA.o.mono ?_;rintro e bC ⟨bw,rfl,o7,f7,C⟩;obtain⟨bj,bk,bx,bB,bz,bf,bv,bg,e7⟩:=o7.form;have aI:=af (r.o.below C);have aN:=af (bE O9.o C);have aO:=af (bE r.o.row C);have ST:=af (λ(W3:iW) (u':iX) hr hg=>r.o.fin (W3:=W3) (u':=u') (L:=L) C (am _) o7 f7 e7 hr hg)
     have aL:=af aI.o.bel.size;subst e7;clear r aI O9 CA o7 f7 C c0 c1 c2 c3 c4 c5 c6;go_wp2_with (at_builtin;refine Ew _ rfl _ _ rfl w.heap.size _ i0 I0.o I1.o I2.o I3.o _ l.length (cV l) rfl aO.o L _ rfl aN.o ?g1 ?g2 aL.o ?_)
     case g1=>unfold maxLen;omega
     case g2=>omega
     intro v8 ba ax ab;obtain⟨z3,fn,aP⟩:=ST.o ba v8 ax ab;have k:=af fn;have j:=af aP;obtain⟨j0,j1,j2,j3,j4,j5,j6⟩:=z3.cells;have q0:=z3.fr 0;have q1:=z3.fr 1;have q2:=z3.fr 2;have q3:=z3.fr 3;have q4:=z3.fr 4;have q5:=z3.fr 5;have q6:=z3.fr 6;unfold bF at k j;clear ax ab ST aN aO aL z3 fn aP;go_wp2;refine aE (re (p:=4) rfl _ _ (w.heap.size+1+1) _ _ _ _ _ _ _ rfl j.o) rfl ?_;rw[B.o];exact k.o
theorem Hb(ad:Option Addr)(a cap B:Nat)(w:iW)(r:a<=1048576)(g:gN w ad a B):
 iK Tryz.prog 29 #[Y ad a cap] w λe w'=>∃p,e=G (iP (X ⟨p,0,O⟩))/\w.heap.size<=p/\km w' p ad a cap/\iL w.heap.size w w':=by
 have h:=af g;clear g;go_enter Tryz.func29,Tryz.ntmps29;go_wp2;go_loop [3,4] (λm f=>∃(x:Int) (k:Nat),k<=a/\m=I J x/\f=I J k) (λ_ f=>a-(intOf f).toNat)
 case atStart=>exact⟨_,0,aK _,rfl,rfl⟩
 case round=>
  obtain⟨x,k,q,rfl,rfl⟩:=hrel;by_cases l:(k:Int)<a
  ·by_cases h4:(k:Int)<4000
   ·obtain⟨b,n,rfl,i,c,j,d⟩:=h.o k (by omega)
    go_wp2;go_round
    case rel=>exact⟨_,k+1,by omega,rfl,by go_num⟩
    case measure=>simp[intOf];omega
   ·go_wp2;go_ret;refine⟨w.heap.size,rfl,am _,?_,bh⟩;exact⟨by simp,⟨0,by omega,by simp⟩,⟨x,by simp⟩,by simp,by simp,by simp⟩
  ·go_wp2;go_ret;refine⟨w.heap.size,rfl,am _,?_,bh⟩;exact⟨by simp,⟨0,by omega,by simp⟩,⟨x,by simp⟩,by simp,by simp,by simp⟩
variable{a:Act}
theorem Fx {l:List Oper} {Q:Exit->Act->iW->Prop} {S:iW->Prop} (i j:Nat) {d:Oper} {c:List Oper} {w:iW} (g:l.drop i=oi::rest) (e:l.drop j=d::c) (m:Region.ready .any l.toArray listed=[i,j])
 (h:∀b:Act->iW->Prop,Shut (∀a w,S w->(S w->wpAnyH P .any l.toArray Q S fuel (listed.setIfInBounds i iV) a w)->b a w)->if Region.wanted oi (yielded l.toArray a.tmps)=iV then Oper.wp P oi a w b Q else b (a.put oi.dst undef) w)
 (f:∀b:Act->iW->Prop,Shut (∀a w,S w->(S w->wpAnyH P .any l.toArray Q S fuel (listed.setIfInBounds j iV) a w)->b a w)->if Region.wanted d (yielded l.toArray a.tmps)=iV then Oper.wp P d a w b Q else b (a.put d.dst undef) w):
 wpAnyH P .any l.toArray Q S (fuel+1) listed a w:=by
 have hi:l.toArray[i]?=X oi:=by
  have:l[i]?=(l.drop i)[0]?:=by simp
  rw[nM,this,g];rfl
 have k:l.toArray[j]?=X d:=by
  have:l[j]?=(l.drop j)[0]?:=by simp
  rw[nM,this,e];rfl
 exact BH m (by simp) (yF hi h (yF k f Bv))
structure Ds (w W:iW) (g p:Nat) (ad:Option Addr) (len cap:Nat) (x a b c:iX) (d:Dv):Prop where
 dr:cL w W p ad len cap
 dv:∃B,p<B/\w.heap.size<B/\cM B x d W
 fit:d.Fit
 is:x=iA #[a,b,c,I J d.fS.next,I J d.seq,I J d.tx,I J d.base]
 at_:aU W g a b c d.fS.next d.seq d.tx d.base
 zat:aU W w.heap.size (Y O 0 0) (Y O 0 0) (Y O 0 0) 0 0 0 0
 gg:w.heap.size<g
 pl:p<w.heap.size
section
variable{d:Dv}{a:iX}
theorem Ds.draw(h:Ds w W g p ad len cap x a b c d)(i:cL W W' p ad len cap):Ds w W' g p ad len cap x a b c d:=by
 obtain⟨h1,⟨B,j,n,h4⟩,o,q,l,m,r,f⟩:=h;have k:∀y,w.heap.size<=y->y<W.heap.size->W'.heap[y]?=W.heap[y]?:=λy t s=>i.1.block y s (λe=>by cases e;omega)
 exact⟨h1.trans i,⟨B,j,n,h4.drawn i j⟩,o,q,(k _ (by omega) l.lt).trans l,(k _ (by omega) m.lt).trans m,r,f⟩
theorem Ds.below(h:Ds w W g p ad len cap x a b c d)(f:iL W.heap.size W W'):Ds w W' g p ad len cap x a b c d:=by
 obtain⟨h1,⟨B,i,j,h4⟩,k,l,m,n,o,e⟩:=h;exact⟨h1.below (f.mono h1.1.size) e,⟨B,i,j,h4.below f⟩,k,l,m.below f,n.below f,o,e⟩
theorem Ds.rd(h:Ds w W g p ad len cap x a b c d):eP W (iA #[a,b,c,I J d.fS.next,I J d.seq,I J d.tx,I J d.base]) d:=by
 obtain⟨B,-,-,e⟩:=h.dv;rw[<-h.is];exact e.rd h.fit
theorem Ds.isd(h:Ds w W g p ad len cap x a b c d)(e:cM B x d W):cM B (iA #[a,b,c,I J d.fS.next,I J d.seq,I J d.tx,I J d.base]) d W:=by
 rw[<-h.is];exact e
variable{d':Dv}
theorem Ds.serve{f:iW}{n i j c':iX}(h:Ds w W g p ad len cap x a b c d)(k:iL W.heap.size W f)(r:cM W.heap.size n d' f)(o:d'.Fit)(s:n=iA #[i,j,c',I J d'.fS.next,I J d'.seq,I J d'.tx,I J d'.base]):Ds w (bF f g i j c' d'.fS.next d'.seq d'.tx d'.base) g p ad len cap n i j c' d':=by
 have q:=h.at_.lt;have m:=h.zat.lt;have l:=h.gg;have e:=h.pl;refine⟨h.dr.below (ly _ _ _ _ _ _ _ (k.mono h.dr.1.size) (by omega)) e,⟨W.heap.size,by omega,m,r.put (by omega) _ _ _ _ _ _ _⟩,o,s,lI (h.at_.below k) _ _ _ _ _ _ _,(rA _ _ _ _ _ _ _ _ _ (by omega)).trans (h.zat.below k),l,e⟩
def zn(w:iW)(p:Nat)(ad:Option Addr)(a cap:Nat)(e:Ending)(w':iW):Prop:=∃v d,e=G v/\cM w.heap.size v d w'/\d.Fit/\cO mE 11 d/\cL w w' p ad a cap
theorem Ds.ret(h:Ds w W g p ad len cap x a b c d)(f:cO mE 11 d):zn w p ad len cap (G (iA #[a,b,c,I J d.fS.next,I J d.seq,I J d.tx,I J d.base])) (bF W w.heap.size a b c d.fS.next d.seq d.tx d.base)/\aU (bF W w.heap.size a b c d.fS.next d.seq d.tx d.base) w.heap.size a b c d.fS.next d.seq d.tx d.base:=by
 obtain⟨B,i,e,h4⟩:=h.dv;refine⟨⟨_,d,rfl,?_,h.fit,f,h.dr.below (ly _ _ _ _ _ _ _ (az _ _) (am _)) h.pl⟩,lI h.zat _ _ _ _ _ _ _⟩;have:=(h4.put (g:=w.heap.size) e a b c d.fS.next d.seq d.tx d.base).down (B':=w.heap.size) (by omega)
 rw[h.is]at this;exact this
end
theorem UQ(n:Int)(h:5<=n/\n<=8):cO mE 0 (oM n).1:=by
 have a:=ZG (T:=mE) (k:=n) (by omega)
 unfold oM;rw[ak (by omega)]
 unfold fj;have b:bo (gX n)=iV:=a.up.ok;rw[ak b];exact a
theorem Xh(p:Nat)(ad:Option Addr)(i cap B:Nat)(w:iW)(hl:i<=1048576)(hc:km w p ad i cap)(hd:gN w ad i B)(A:B<=p):
 iK Tryz.prog 28 #[iP (X ⟨p,0,O⟩)] w (zn w p ad i cap):=by
 have n:=hc.2.2.2.2.2;have U:=af hd;have bA:=aR w (iC #[Y O 0 0,Y O 0 0,Y O 0 0,I J 0,I J 0,I J 0,I J 0] 34);have T:=af ((cL.refl hc).below bA n);have ZA:ah (aU (w.alloc (iC #[Y O 0 0,Y O 0 0,Y O 0 0,I J 0,I J 0,I J 0,I J 0] 34)) w.heap.size (Y O 0 0) (Y O 0 0) (Y O 0 0) 0 0 0 0):=aC _ _;clear hc hd bA;go_enter Tryz.func28,Tryz.ntmps28;go_wp2_with fail;generalize w.alloc (iC #[Y O 0 0,Y O 0 0,Y O 0 0,I J 0,I J 0,I J 0,I J 0] 34)=wa at T ZA⊢;refine(nf 4 p ad i cap B wa (by omega) hl T.o.2 (T.o.code U.o A n) A).mono ?_
 rintro e w1 ⟨y,rfl,y0,y1,-,d1⟩;have y2:=y1 (by omega)
 have wy:IntKind.i64.wrap (5+y)=5+y:=by rw[cm];omega
 have C:=af (T.o.trans d1);have P:ah (aU w1 w.heap.size (Y O 0 0) (Y O 0 0) (Y O 0 0) 0 0 0 0):=(d1.1.block _ ZA.o.lt (λe=>by cases e;omega)).trans ZA.o
 have S:=af (Mr (5+y) w1);unfold Dz at S;have D:=af (UQ (5+y) (by omega))
 obtain⟨j,k0,hn⟩:∃j k0,oM (5+y)=(j,k0):=⟨_,_,rfl⟩;rw[hn]at S D;simp only at S D;clear d1 T ZA y1 hn;go_wp2_with fail;refine S.o.mono ?_;rintro e w2 ⟨v2,rfl,o2,f2,Z⟩;obtain⟨G,H,vb,N,M,E,lo,F,e2⟩:=o2.form;have ab:=P.o.lt;have b3:=aR w2 (iC #[Y G j.fH.length H,Y vb N M,Y E lo F,I J j.fS.next,I J j.seq,I J j.tx,I J j.base] 34);have D3:ah (Ds w (w2.alloc (iC #[Y G j.fH.length H,Y vb N M,Y E lo F,I J j.fS.next,I J j.seq,I J j.tx,I J j.base] 34)) w2.heap.size p ad i cap v2 (Y G j.fH.length H) (Y vb N M) (Y E lo F) j):=
  ⟨(C.o.below (Z.mono C.o.1.size) n).below (b3.mono (bT C.o.1.size Z.size)) n,⟨w1.heap.size,by omega,ab,o2.below b3⟩,f2,e2,aC _ _,(P.o.below Z).below b3,by have:=Z.size;omega,n⟩
 subst e2;clear b3 o2 f2 Z S C P ab;go_wp2;generalize w2.alloc (iC #[Y G j.fH.length H,Y vb N M,Y E lo F,I J j.fS.next,I J j.seq,I J j.tx,I J j.base] 34)=w3 at D3⊢;obtain⟨g,hg⟩:=aq w2.heap.size;rw[hg]at D3⊢;clear hg;go_loopw [5] (λiv W=>∃(k:Nat) (d:Dv) (x a b c:iX),iv=I J k/\k<=11/\ah (cO mE k d)/\ah (Ds w W g p ad i cap x a b c d)) (λiv _=>12-(intOf iv).toNat)
 case atStart=>exact⟨0,j,_,_,_,_,rfl,aK _,D,D3⟩
 case round=>
  rename iW=>wr
  obtain⟨k,d,x,a,b,c,rfl,hk,Q,D4⟩:=hrel;clear D3 D;have ap:(0:Int)<=k:=by omega
  go_wp2_with fail;refine(nf 12 p ad i cap B wr (by omega) hl D4.o.dr.2 (D4.o.dr.code U.o A n) A).mono ?_
  rintro e x1 ⟨z,rfl,z0,z1,-,u⟩;have z2:=z1 (by omega)
  have s:=af (D4.o.draw u);clear D4 u z1;by_cases ar:(k:Int)<z
  ·go_upto_region 5 with fail
   have r:=af (s.o.below (az x1.heap.size x1).drew);obtain⟨i0,i1,i2,i3,i4,i5,i6⟩:=r.o.at_.cells;obtain⟨B0,l⟩:=r.o.dv;clear s;refine q8 (λ_=>True) (by kernel_rfl) trivial (λhHeld=>?_)
   simp only[aV,dU,Nat.reduceAdd];refine aH 1 ?_;refine Fx 0 2 rfl rfl (by kernel_rfl) (λK f=>?wa) (λK f=>?wb)
   case' wa=>
    go_simp;clear hHeld;refine f.out _ _ trivial (λhHeld=>?_)
    clear f K
    (try simp only[Act.put,cN,cu,bZ])
    refine dG 2 rfl (by kernel_rfl) (λK f=>?_)
    go_simp;clear hHeld;refine f.out _ _ trivial (λhHeld=>?_)
    clear f K
    (try simp only[Act.put,cN,cu,bZ])
    refine dG 3 rfl (by kernel_rfl) (λK f=>?_)
    go_simp;refine(Cr (iA #[a,b,c,I J d.fS.next,I J d.seq,I J d.tx,I J d.base]) d B0 p ad i cap B x1.drew hl r.o.dr.2 (r.o.dr.code U.o A n) A (r.o.isd l.2.2) r.o.fit l.1 Q.o.vi).mono ?_;rintro e x4 ⟨q,rfl,L,u⟩;have t:=af (r.o.draw u);have HQ:=af L;clear u L hHeld;refine f.out _ _ trivial (λhHeld=>?_)
    clear f K
    (try simp only[Act.put,cN,cu,bZ])
   case' wb=>
    go_simp;clear hHeld;refine f.out _ _ trivial (λhHeld=>?_)
    clear f K
    (try simp only[Act.put,cN,cu,bZ])
    refine Fx 0 3 rfl rfl (by kernel_rfl) (λK f=>?wc) (λK f=>?wd)
    case' wc=>
     go_simp;clear hHeld;refine f.out _ _ trivial (λhHeld=>?_)
     clear f K
     (try simp only[Act.put,cN,cu,bZ])
     refine dG 3 rfl (by kernel_rfl) (λK f=>?_)
     go_simp;refine(Cr (iA #[a,b,c,I J d.fS.next,I J d.seq,I J d.tx,I J d.base]) d B0 p ad i cap B x1.drew hl r.o.dr.2 (r.o.dr.code U.o A n) A (r.o.isd l.2.2) r.o.fit l.1 Q.o.vi).mono ?_;rintro e x4 ⟨q,rfl,L,u⟩;have t:=af (r.o.draw u);have HQ:=af L;clear u L hHeld;refine f.out _ _ trivial (λhHeld=>?_)
     clear f K
     (try simp only[Act.put,cN,cu,bZ])
    case' wd=>
     go_simp;refine(Cr (iA #[a,b,c,I J d.fS.next,I J d.seq,I J d.tx,I J d.base]) d B0 p ad i cap B x1.drew hl r.o.dr.2 (r.o.dr.code U.o A n) A (r.o.isd l.2.2) r.o.fit l.1 Q.o.vi).mono ?_;rintro e x4 ⟨q,rfl,L,u⟩;have t:=af (r.o.draw u);have HQ:=af L;clear u L hHeld;refine f.out _ _ trivial (λhHeld=>?_)
     clear f K
     (try simp only[Act.put,cN,cu,bZ])
     obtain⟨j0,j1,j2,j3,j4,j5,j6⟩:=t.o.at_.cells;refine dG 0 rfl (by kernel_rfl) (λK f=>?_)
     go_simp;clear hHeld;refine f.out _ _ trivial (λhHeld=>?_)
     clear f K
     (try simp only[Act.put,cN,cu,bZ])
   all_goals
    refine dG 4 rfl (by kernel_rfl) (λK f=>?_)
    go_simp;refine(Td mE k (iA #[a,b,c,I J d.fS.next,I J d.seq,I J d.tx,I J d.base]) d q x4 t.o.rd Q.o).mono ?_;rintro e x5 ⟨v5,u5,rfl,o5,f5,-,v⟩;have V:=af (Rn Q.o (by omega) HQ.o.2 HQ.o.1)
    obtain⟨am,ao,aw,aB,ay,ai,au,ak,e5⟩:=o5.form;have C5:=af (t.o.serve v o5 f5 e5);obtain⟨m0,m1,m2,m3,m4,m5,m6⟩:=(t.o.at_.below v).cells;have n0:=(t.o.at_.below v).fr 0;have n1:=(t.o.at_.below v).fr 1;have n2:=(t.o.at_.below v).fr 2;have n3:=(t.o.at_.below v).fr 3;have n4:=(t.o.at_.below v).fr 4;have n5:=(t.o.at_.below v).fr 5;have n6:=(t.o.at_.below v).fr 6;subst e5;unfold bF at C5;obtain⟨d5,aa⟩:=aq ((sj d q).1);rw[aa]at C5 V⊢;clear o5 f5 v aa;clear hHeld;refine f.out _ _ trivial (λhHeld=>?_)
    clear f K
    (try simp only[Act.put,cN,cu,bZ])
    refine aH 5 ?_;refine aH 6 ?_;refine aH 7 ?_;refine aH 8 ?_;refine aH 9 ?_;refine dG 10 rfl (by kernel_rfl) (λK f=>?_)
    go_simp;clear hHeld;refine f.out _ _ trivial (λhHeld=>?_)
    clear f K
    (try simp only[Act.put,cN,cu,bZ])
    refine oG (by kernel_rfl) ?_
    clear hHeld m0 m1 m2 m3 m4 m5 m6 n0 n1 n2 n3 n4 n5 n6;go_wp2;go_roundw
    case rel=>exact⟨k+1,d5,_,_,_,_,by go_num,by omega,V,C5⟩
    case measure=>simp[intOf];omega
  ·have ac:=af (Q.o.sub (T':=mE) (m:=11) (λ_ h=>h) hk)
   obtain⟨al,an,av,aA,ax,ag,lo2,aj,R⟩:∃G H vb N M E lo F,(iA #[a,b,c,I J d.fS.next,I J d.seq,I J d.tx,I J d.base])=iA #[Y G d.fH.length H,Y vb N M,Y E lo F,I J d.fS.next,I J d.seq,I J d.tx,I J d.base]:=by
    obtain⟨B,-,-,hd⟩:=s.o.dv;obtain⟨G,H,vb,N,M,E,lo,F,e⟩:=hd.form;exact⟨G,H,vb,N,M,E,lo,F,s.o.is.symm.trans e⟩
   injection R with R
   injection R with R
   simp only[jk,kx]at R;obtain⟨ea,eb,ec⟩:=R;subst ea eb ec;have FF:=af (s.o.ret ac.o);obtain⟨i0,i1,i2,i3,i4,i5,i6⟩:=s.o.at_.cells;obtain⟨j0,j1,j2,j3,j4,j5,j6⟩:=s.o.zat.cells;have q0:=s.o.zat.fr 0;have q1:=s.o.zat.fr 1;have q2:=s.o.zat.fr 2;have q3:=s.o.zat.fr 3;have q4:=s.o.zat.fr 4;have q5:=s.o.zat.fr 5;have q6:=s.o.zat.fr 6;unfold bF at FF;clear s;go_wp2;refine aE (xU (p:=2) rfl _ _ w.heap.size _ _ _ _ _ _ _ rfl FF.o.2) rfl ?_;exact FF.o.1
theorem WL(ad:Option Addr)(a cap:Nat)(w:iW)(H:a<=1048576)(F:gN w ad a w.heap.size):
 iK Tryz.prog 8 #[Y ad a cap] w λe w'=>∃v d,e=G v/\cM w.heap.size v d w'/\d.Fit/\cO mE 11 d/\iL w.heap.size w w':=by
 have x:=aR w (iC #[Y O 0 0,Y O 0 0,Y O 0 0,I J 0,I J 0,I J 0,I J 0] 34);have u:ah (aU (w.alloc (iC #[Y O 0 0,Y O 0 0,Y O 0 0,I J 0,I J 0,I J 0,I J 0] 34)) w.heap.size (Y O 0 0) (Y O 0 0) (Y O 0 0) 0 0 0 0):=aC _ _;have Q:(w.alloc (iC #[Y O 0 0,Y O 0 0,Y O 0 0,I J 0,I J 0,I J 0,I J 0] 34)).heap.size=w.heap.size+1:=by simp
 have r:=af (F.on x (am _));have BA:=af x;clear F x;go_enter Tryz.func8,Tryz.ntmps8;go_wp2_with fail;generalize w.alloc (iC #[Y O 0 0,Y O 0 0,Y O 0 0,I J 0,I J 0,I J 0,I J 0] 34)=wa at r BA u Q⊢;refine(Hb ad a cap w.heap.size wa H r.o).mono ?_;rintro e L ⟨p,rfl,R,E,n⟩;have M:=af (BA.o.trans (n.mono BA.o.size));have A:=af (u.o.below n);have s:=af (Xh p ad a cap w.heap.size L H E (r.o.on n (by omega)) (by omega))
 unfold zn at s;have P:=n.size;clear n E u r BA;go_wp2_with fail;refine s.o.mono ?_;rintro e q ⟨v,d,rfl,z,D,g2,y⟩;obtain⟨i,h,l,m,vc,c,j,f,C⟩:=z.form;have b:aU q w.heap.size (Y O 0 0) (Y O 0 0) (Y O 0 0) 0 0 0 0:=(y.1.block _ A.o.lt (λe=>by cases e;omega)).trans A.o
 have B:iL w.heap.size L q:=(az _ _).grown y.1 (by omega) (λk N=>by cases N;omega)
 have t:ah ((∃K d',(Ending.returned (iA #[Y i d.fH.length h,Y l m vc,Y c j f,I J d.fS.next,I J d.seq,I J d.tx,I J d.base]))=G K/\cM w.heap.size K d' (bF q w.heap.size (Y i d.fH.length h) (Y l m vc) (Y c j f) d.fS.next d.seq d.tx d.base)/\d'.Fit/\cO mE 11 d'/\iL w.heap.size w (bF q w.heap.size (Y i d.fH.length h) (Y l m vc) (Y c j f) d.fS.next d.seq d.tx d.base))/\aU (bF q w.heap.size (Y i d.fH.length h) (Y l m vc) (Y c j f) d.fS.next d.seq d.tx d.base) w.heap.size (Y i d.fH.length h) (Y l m vc) (Y c j f) d.fS.next d.seq d.tx d.base):=by
  refine⟨⟨_,d,rfl,?_,D,g2,ly _ _ _ _ _ _ _ (M.o.trans B) (am _)⟩,lI b _ _ _ _ _ _ _⟩;have:=(z.put (g:=w.heap.size) (by omega) (Y i d.fH.length h) (Y l m vc) (Y c j f) d.fS.next d.seq d.tx d.base).down (B':=w.heap.size) (by omega)
  rw[C]at this;exact this
 obtain⟨S,T,U,V,W,X,Z⟩:=b.cells;have q0:=b.fr 0;have q1:=b.fr 1;have q2:=b.fr 2;have q3:=b.fr 3;have q4:=b.fr 4;have q5:=b.fr 5;have q6:=b.fr 6;subst C;unfold bF at t;clear z D g2 y b B s;go_wp2;refine aE (xU (p:=2) rfl _ _ w.heap.size _ _ _ _ _ _ _ rfl t.o.2) rfl ?_;exact t.o.1
open Go.ChangeMaps (setBlock heap_setBlock_same heap_setBlock_other)
section
variable{K α:Type}{j:Nat}
def fO(l:List (K×α))(k:K):Option α:=(l.find? (λp=>decide (p.1=k))).map (·.2)
def ni(l:List (K×α)):Prop:=l.Pairwise (λa b=>a.1≠b.1)
def qu(l:List (K×α))(k:K)(v:α):List (K×α):=if (fO l k).isSome then l.map (λp=>if p.1=k then(k,v)else p)else l++[(k,v)]
theorem p8(p:K×α)(l:List (K×α))(k:K):fO (p::l) k=if p.1=k then X p.2 else fO l k:=by
 unfold fO;rw[List.find?_cons];by_cases h:p.1=k<;>simp[h]
theorem HH{l:List (K×α)}{k:K}:fO l k=O↔∀p∈l,p.1≠k:=by
 induction l with
 |nil=>simp[fO]
 |cons a l b=>
  rw[p8];by_cases h:a.1=k
  ·simp[h]
  ·simp[h,b]
theorem Tr{l:List (K×α)}{k:K}{v:α}(b:ni l)(h:(k,v)∈l):fO l k=X v:=by
 induction l with
 |nil=>cases h
 |cons a l c=>
  obtain⟨d,f⟩:=fQ.1 b;rw[p8];rcases aX.1 h with e|e
  ·subst e;simp
  ·rw[aj (d _ e)];exact c f e
theorem VT(l:List (K×α))(k:K)(v:α)(x:K):fO (l++[(k,v)]) x=(fO l x).or (if k=x then X v else O):=by
 induction l with
 |nil=>rw[jT,p8];simp[fO]
 |cons a l b=>
  rw[jl,p8,p8,b];by_cases h:a.1=x<;>simp[h]
theorem ni.snoc{l:List (K×α)}{k:K}{v:α}(h:ni l)(e:fO l k=O):ni (l++[(k,v)]):=by
 refine iu.2 ⟨h,mA _ _,?_⟩;intro a d b c;rw[bR]at c;subst c;exact HH.1 e a d
theorem SG(l:List (K×α))(k:K)(v:α)(x:K):fO (l.map (λp=>if p.1=k then(k,v)else p)) x=if x=k then(fO l k).map (λ_=>v)else fO l x:=by
 induction l with
 |nil=>simp[fO]
 |cons a l c=>
  rw[cn,p8,c,p8,p8];by_cases h:a.1=k
  ·by_cases b:x=k
   ·subst b;simp[h]
   ·have:¬k=x:=λe=>b e.symm
    simp[h,b,this]
  ·by_cases b:x=k
   ·subst b;simp[h]
   ·simp[h,b]
theorem Ly(l:List (K×α))(k:K)(v:α)(x:K):fO (qu l k v) x=if x=k then X v else fO l x:=by
 unfold qu;cases h:fO l k with
 |none=>
  simp only[yO,eS,fb];rw[VT];by_cases e:x=k
  ·subst e;simp[h]
  ·rw[aj e,aj (λq=>e q.symm)];simp
 |some u=>
  simp only[BJ,dw];rw[SG,h];rfl
theorem ni.new{l:List (K×α)}{k:K}{v:α}(h:ni l):ni (qu l k v):=by
 unfold qu;cases e:fO l k with
 |none=>simp only[yO,eS,fb];exact h.snoc e
 |some u=>
  simp only[BJ,dw];unfold ni;rw[uH];refine h.imp ?_;intro a b f;by_cases c:a.1=k<;>by_cases d:b.1=k
  ·exact absurd (c.trans d.symm) f
  ·rw[ak c,aj d];exact λq=>d q.symm
  ·rw[aj c,ak d];exact c
  ·rw[aj c,aj d];exact f
theorem Wd{l:List (K×α)}{x:K}{u:α}(v:α)(h:ni l)(b:l[j]?=X (x,u)):l.map (λp=>if p.1=x then(x,v)else p)=l.set j (x,v):=by
 induction l generalizing j with
 |nil=>simp at b
 |cons a l f=>
  obtain⟨c,i⟩:=fQ.1 h;rw[cn];cases j with
  |zero=>
   simp only[sw,fu]at b;subst b;rw[ak rfl,cu];congr 1;rw[nY (g:=id)]
   ·simp
   ·intro p d;rw[aj (λe=>c p d e.symm)]
    rfl
  |succ j=>
   rw[nH]at b;rw[aj (c _ (aO b)),bZ,f i b]
end
def jy{K:Type}(d:K->iX)(w:iW)(b:Nat)(l:List (K×iX)):Prop:=ni l/\∃c a,w.heap[b]?=X (.map c a)/\c.toList.map (λe=>(e.key,e.val))=l.map (λp=>(d p.1,p.2))
structure yI {K:Type} (P:Program) (k:TypeId) (en:K->iX) (d:TypeDesc):Prop where
 ty:P.underlying k=X d
 is:∀a,MapKept.IsKey d (en a)
 inj:∀a b,en a=en b->a=b
section
variable{K:Type}{en:K -> iX}{l:List (K × iX)}{b:Nat}{P:Program}{d:TypeDesc}{t k e:TypeId}{w w':iW}
theorem jy.lt(h:jy en w b l):b<w.heap.size:=by
 obtain⟨-,c,a,h1,-⟩:=h;exact(aL.1 h1).1
theorem jy.same(h:jy en w b l)(e:w'.heap[b]?=w.heap[b]?):jy en w' b l:=by
 obtain⟨h0,c,a,h1,d⟩:=h;exact⟨h0,c,a,e.trans h1,d⟩
theorem jy.below(h:jy en w b l)(a:iL w.heap.size w w'):jy en w' b l:=h.same (a.block _ h.lt)
theorem jy.made(w:iW):jy en (w.alloc (.map #[] 0)) w.heap.size []:=⟨List.Pairwise.nil,#[],0,aC w _,rfl⟩
end
section
variable{K:Type}{en:K -> iX}{l:List (K × iX)}{b:Nat}{P:Program}{d:TypeDesc}{t k e:TypeId}{w w':iW}
theorem Fs{b:Array MapEntry}(c:yI P k en d)(t:ni l)(h:b.toList.map (λe=>(e.key,e.val))=l.map (λp=>(en p.1,p.2)))(x:K)(w:iW):
 ((Instr.findKey k (en x) b.toList).run P w=.ok O w/\fO l x=O)∨∃j v,(Instr.findKey k (en x) b.toList).run P w=.ok (X (j,v)) w/\l[j]?=X (x,v)/\fO l x=X v:=by
 have m:∀y∈b.toList,MapKept.IsKey d y.key:=by
  intro y hy;have:(y.key,y.val)∈b.toList.map (λe=>(e.key,e.val)):=bJ.2 ⟨y,hy,rfl⟩
  rw[h]at this;obtain⟨p,-,n⟩:=bJ.1 this;have:y.key=en p.1:=(congrArg Prod.fst n).symm;rw[this];exact c.is _
 rcases MapKept.findNow_spec (d:=d) (k:=en x) (c.is x) b.toList 0 m with⟨h1,i⟩|⟨j,f,h1,i,s⟩
 ·refine .inl ⟨MapKept.run_findKey c.ty h1,HH.2 λp n e=>?_⟩
  have:(en p.1,p.2)∈l.map (λp=>(en p.1,p.2)):=bJ.2 ⟨p,n,rfl⟩
  rw[<-h]at this;obtain⟨y,hy,r⟩:=bJ.1 this;refine i y hy ?_;have:=congrArg Prod.fst r;simp only at this;rw[this,e]
 ·have a:(l.map (λp=>(en p.1,p.2)))[j]?=X (f.key,f.val):=by rw[<-h,bi,i];rfl
  rw[bi]at a;cases g:l[j]? with
  |none=>rw[g]at a;cases a
  |some p=>
   rw[g]at a;simp only[g9,fu,mQ]at a;obtain⟨a,q⟩:=a;rw[s]at a;have a:=c.inj _ _ a;have o:p=(x,f.val):=by rw[<-a,<-q]
   refine .inr ⟨j,f.val,by simpa using MapKept.run_findKey c.ty h1,by rw[g,o],Tr t ?_⟩
   rw[<-o];exact aO g
theorem jy.look(h:jy en w b l)(o:P.underlying t=X (.map k e))(i:yI P k en d){z:iX}(q:(zeroValue e).run P w=.ok z w)(x:K)(c:Bool):
 (Instr.lookup t (.map (X b)) (en x) c).run P w=.ok (if c then iU #[(fO l x).getD z,iB (fO l x).isSome]else(fO l x).getD z) w:=by
 obtain⟨h0,r,a,m,p⟩:=h;have n:∀f,(Instr.checkKey f 10000 k (en x)).run P w=.ok () w:=λf=>MapKept.run_checkKey i.ty (i.is x) f 9999
 rcases Fs i h0 p x w with⟨h1,g⟩|⟨j,v,h1,-,g⟩
 ·simp[Instr.lookup,run_underlying o,MapKept.run_getObj_map m,n,h1,q,g,Result.andThen]
 ·simp[Instr.lookup,run_underlying o,MapKept.run_getObj_map m,n,h1,g,Result.andThen]
theorem jy.new(h:jy en w b l)(H:P.underlying t=X (.map k e))(A:yI P k en d)(x:K)(v:iX):
 ∃w',(Instr.mapUpdate t (.map (X b)) (en x) v).run P w=.ok () w'/\jy en w' b (qu l x v)/\w.grownBy w' (X b)/\w'.heap.size=w.heap.size:=by
 obtain⟨h0,g,a,f,r⟩:=h;have F:∀B,(Instr.checkKey B 10000 k (en x)).run P w=.ok () w:=λB=>MapKept.run_checkKey A.ty (A.is x) B 9999
 rcases Fs A h0 r x w with⟨h1,C⟩|⟨j,u,h1,z,C⟩
 ·refine⟨setBlock w b (.map (g.push ⟨en x,v,a⟩) (a+1)),?_,⟨h0.new,_,_,heap_setBlock_same f _,?_⟩,?_,by simp[setBlock]⟩
  ·simp[Instr.mapUpdate,run_underlying H,MapKept.run_getObj_map f,F,h1,MapKept.run_setObj_map _ f,Result.andThen,setBlock]
  ·unfold qu;rw[C];simp[r]
  ·exact⟨rfl,rfl,rfl,by simp[setBlock],λi _ hi=>heap_setBlock_other f _ (λn=>hi (by rw[n]))⟩
 ·have n:qu l x v=l.set j (x,v):=by unfold qu;rw[C];exact Wd v h0 z
  have D:j<g.size:=by
   have:=congrArg List.length r;have q:=(aB.1 z).1;simp only[bm,Array.length_toList]at this;omega
  obtain⟨o,m⟩:∃o,g[j]?=X o:=⟨_,pX D⟩;have s:o.key=en x:=by
   have q:(g.toList.map (λe=>(e.key,e.val)))[j]?=X (o.key,o.val):=by rw[bi,rO,m];rfl
   rw[r,bi,z]at q;simp only[g9,fu,mQ]at q;exact q.1.symm
  refine⟨setBlock w b (.map (g.modify j λe=>{e with key:=en x,val:=v}) a),?_,⟨h0.new,_,a,heap_setBlock_same f _,?_⟩,?_,by simp[setBlock]⟩
  ·have E:(Instr.keyThatStays (en x) (en x)).run P w=.ok (en x) w:=MapKept.run_keyThatStays (A.is x);simp[Instr.mapUpdate,run_underlying H,MapKept.run_getObj_map f,F,h1,m,s,E,MapKept.run_setObj_map _ f,Result.andThen,setBlock]
  ·rw[n,Array.toList_modify];apply kO;intro i;have hi:(g.toList.map (λe=>(e.key,e.val)))[i]?=(l.map (λp=>(en p.1,p.2)))[i]?:=by rw[r]
   rw[bi,bi]at hi;rw[bi,bi,rz,sZ];by_cases c:j=i
   ·subst c;rw[ak rfl,ak (aB.1 z).1,rO,m];simp
   ·rw[aj c];cases G:g.toList[i]? with
    |none=>rw[G]at hi;simpa[c]using hi
    |some y=>rw[G]at hi;simpa[c]using hi
  ·exact⟨rfl,rfl,rfl,by simp[setBlock],λi _ hi=>heap_setBlock_other f _ (λn=>hi (by rw[n]))⟩
end
def xG(a:Int):iX:=I J a
theorem Ku:yI Tryz.prog 3 xG (I J):=⟨Tryz.underlying3,λ_=>rfl,λa b h=>by unfold xG at h;injection h⟩
open Pack
def Xb(M:List an)(l:List (Int×iX)):Prop:=∀c,fO l c=(bp M c).map gG
theorem Fi:Tryz.prog.underlying 74=X (.map 3 53):=Tryz.underlying74
theorem Mw(w:iW):(zeroValue 53).run Tryz.prog w=.ok (iA #[I J 0,I J 0,I J 0,I J 0,I J 0,I J 0,I J 0,iT ⟨#[]⟩]) w:=by kernel_rfl
def NM(W:iW)(B:Nat)(M:List an):Prop:=∃l,jy xG W B l/\Xb M l
variable{B k:Nat}
variable{M:List an}
theorem NM.below{W a:iW}(h:NM W B M)(b:iL W.heap.size W a):NM a B M:=by
 obtain⟨l,h1,c⟩:=h;exact⟨l,h1.below b,c⟩
theorem NM.look{W:iW}(h:NM W B M)(x:Int)(c:Bool):
 (Instr.lookup 74 (.map (X B)) (I J x) c).run Tryz.prog W=.ok (if c then iU #[gG (qF (bp M x)),iB (bp M x).isSome]else gG (qF (bp M x))) W:=by
 obtain⟨l,h1,a⟩:=h;have:=h1.look Fi Ku (Mw W) x c;rw[a x]at this;rw[show(I J x)=xG x from rfl,this];cases bp M x<;>rfl
variable{x:an}
theorem NM.put{W:iW}(h:NM W B M)(i:x.fP.kind=1):
 ∃a,(Instr.mapUpdate 74 (.map (X B)) (I J x.fP.tx) (gG x)).run Tryz.prog W=.ok () a/\NM a B (M++[x])/\W.grownBy a (X B):=by
 obtain⟨l,h1,g⟩:=h;obtain⟨a,b,d,f,-⟩:=h1.new Fi Ku x.fP.tx (gG x);refine⟨a,b,⟨_,d,λc=>?_⟩,f⟩
 rw[Ly,xD,g c];unfold cW;rw[i];by_cases e:c=x.fP.tx
 ·subst e;simp
 ·have:¬x.fP.tx=c:=λq=>e q.symm
  simp[e,this]
theorem NM.skip{W:iW}(h:NM W B M)(b:x.fP.kind≠1):NM W B (M++[x]):=by
 obtain⟨l,h1,a⟩:=h;refine⟨l,h1,λc=>?_⟩
 rw[xD,a c];unfold cW;simp[b]
theorem GQ(h:M[k]?=X x):M.take (k+1)=M.take k++[x]:=by rw[eG,h];rfl
theorem Z9(ad:Option Addr)(a cap:Nat)(M:List an)(w:iW)(hl:a<=1099511627776)(h:iH w ad a M):
 iK Tryz.prog 32 #[Y ad a cap] w λe w'=>∃B,e=G (.map (X B))/\w.heap.size<=B/\NM w' B M/\iL w.heap.size w w':=by
 have A:=af (show M.length=a from h.1);have K:=af h;have V:= @run_makeMap Tryz.prog;have D:=aR w (.map #[] 0);have C:ah (NM (w.alloc (.map #[] 0)) w.heap.size (M.take 0)):=⟨[],jy.made w,λc=>rfl⟩
 have z:=af D;clear h D;go_enter Tryz.func32,Tryz.ntmps32;go_wp2;go_loopw [9] (λy wr=>∃k:Nat,y=I J k/\k<=a/\ah (NM wr w.heap.size (M.take k))/\ah (iL w.heap.size w wr)) (λy _=>a-(intOf y).toNat)
 case atStart=>exact⟨0,rfl,aK _,C,z⟩
 case round=>
  rename iW=>wr
  obtain⟨k,rfl,hk,f,b⟩:=hrel;clear C z;have T:(0:Int)<=k:=by omega
  by_cases U:(k:Int)<a
  ·obtain⟨x,s⟩:∃x,M[k]?=X x:=⟨_,ay (by have:=A.o;omega)⟩
   obtain⟨rb,ro,rfl,-,L,c1,c2,c3,N,O,P,Q,R⟩:=(K.o.below b.o).all s;have r:=GQ s;obtain⟨xb,n,pk,l,m,i,g,pt⟩:=x;simp only at L c1 c2 c3 N O P Q R;have q:=aR wr (iC #[I J xb,I J n,I J pk,I J l,I J m,I J i,I J g,iT pt] 53);have d:=af (f.o.below q);have p:=af (b.o.trans (q.mono b.o.size));have u:ah (jY (wr.alloc (iC #[I J xb,I J n,I J pk,I J l,I J m,I J i,I J g,iT pt] 53)) wr.heap.size ⟨xb,n,pk,l,m,i,g,pt⟩):=aC _ _;obtain⟨W,Z,y2,y3,y4,y5,y6,y7⟩:=u.o.cells;simp only at W Z y2 y3 y4 y5 y6 y7;by_cases t:(pk==1)=iV
   ·obtain⟨W3,E,F,g3⟩:=d.o.put (x:=⟨xb,n,pk,l,m,i,g,pt⟩) (by simpa using t)
    unfold gG at E;simp only at E;have v:ah (NM W3 w.heap.size (M.take (k+1))):=by rw[r];exact F
    have H:=af (p.o.grown g3 p.o.size (λj S=>by cases S;exact am _))
    clear s r F g3 f b d p q u;go_wp2;go_roundw
    case rel=>exact⟨k+1,by go_num,by omega,v,H⟩
    case measure=>simp[intOf];omega
   ·have v:ah (NM (wr.alloc (iC #[I J xb,I J n,I J pk,I J l,I J m,I J i,I J g,iT pt] 53)) w.heap.size (M.take (k+1))):=by rw[r];exact d.o.skip (by simpa using t)
    have t:(pk==1)=iF:=by simpa using t
    clear s r f b d q u;go_wp2;go_roundw
    case rel=>exact⟨k+1,by go_num,by omega,v,p⟩
    case measure=>simp[intOf];omega
  ·have d:ah (NM wr w.heap.size M):=by
    have:=f.o;rw[bL (by have:=A.o;omega)]at this
    exact this
   clear f;go_wp2;go_ret;exact⟨w.heap.size,rfl,am _,d.o,b.o⟩
theorem Kb:(Tryz.prog.info? 3).map (·.size)=X 1:=by kernel_rfl
theorem PT:(Tryz.prog.info? 9).map (·.size)=X 1:=by kernel_rfl
theorem Tq:(Tryz.prog.info? 44).map (·.size)=X 6:=by kernel_rfl
theorem Eo(d:Nat)(a b:Int)(W:iW):(Op.equalIn (d+1) 3 (I J a) (I J b)).run Tryz.prog W=.ok (a==b) W:=run_equalIn_int W d 3 J J a b Tryz.underlying3
theorem Tg(d:Nat)(a b:ByteArray)(W:iW):(Op.equalIn (d+1) 9 (iT a) (iT b)).run Tryz.prog W=.ok (a.toList==b.toList) W:=run_equalIn_string W d 9 a b Tryz.underlying9
def qR(p q:Pg):Bool:=p.kind==q.kind&&(p.seq==q.seq&&(p.tx==q.tx&&(p.part==q.part&&(p.count==q.count&&p.text.toList==q.text.toList))))
theorem Vm(d:Nat)(p q:Pg)(W:iW):(Op.equalIn (d+2) 44 (iA #[I J p.kind,I J p.seq,I J p.tx,I J p.part,I J p.count,iT p.text]) (iA #[I J q.kind,I J q.seq,I J q.tx,I J q.part,I J q.count,iT q.text])).run Tryz.prog W=.ok (qR p q) W:=by
 obtain⟨l,c,j⟩:=og.1 Kb;obtain⟨m,i,k⟩:=og.1 PT;rw[run_equalIn_struct W (d+1) _ _ _ (by simp[Program.fieldsOf,Tryz.underlying44]) (by kernel_rfl)]
 have e:∀(a b:Int) (W:iW),(Op.equalIn (d+1) 3 (I J a) (I J b)).run Tryz.prog W=.ok (a==b) W:=λa b W=>Eo d a b W
 have f:∀(a b:ByteArray) (W:iW),(Op.equalIn (d+1) 9 (iT a) (iT b)).run Tryz.prog W=.ok (a.toList==b.toList) W:=λa b W=>Tg d a b W
 simp[Program.fieldsOf,Tryz.underlying44,Op.eqFields,part,isAgg,sizeOf,typeInfo,run_underlying Tryz.underlying3,run_underlying Tryz.underlying9,c,j,i,k,e,f,qR];cases h0:p.kind==q.kind<;>simp at h0<;>simp[h0]
 cases h1:p.seq==q.seq<;>simp at h1<;>simp[h1]
 cases g:p.tx==q.tx<;>simp at g<;>simp[g]
 cases c:p.part==q.part<;>simp at c<;>simp[c]
 cases h4:p.count==q.count<;>simp at h4<;>simp[h4]
 by_cases h:p.text.toList=q.text.toList<;>simp[h]
theorem UE(x y:an)(W:iW):(binOp .eql 53 (gG x) (gG y)).run Tryz.prog W=.ok (iB (x.block==y.block&&(x.leaf==y.leaf&&qR x.fP y.fP))) W:=by
 unfold gG;rw[run_eql_struct];have e:(Op.equalIn 10000 53 (iA #[I J x.block,I J x.leaf,I J x.fP.kind,I J x.fP.seq,I J x.fP.tx,I J x.fP.part,I J x.fP.count,iT x.fP.text]) (iA #[I J y.block,I J y.leaf,I J y.fP.kind,I J y.fP.seq,I J y.fP.tx,I J y.fP.part,I J y.fP.count,iT y.fP.text])).run Tryz.prog W=.ok (x.block==y.block&&(x.leaf==y.leaf&&qR x.fP y.fP)) W:=by
  show(Op.equalIn (9999+1) _ _ _).run _ _=_;obtain⟨j,f,h⟩:=og.1 Kb;obtain⟨k,g,i⟩:=og.1 Tq;rw[run_equalIn_struct W 9999 _ _ _ (by simp[Program.fieldsOf,Tryz.underlying53]) (by kernel_rfl)]
  have d:∀(a b:Int) (W:iW),(Op.equalIn 9999 3 (I J a) (I J b)).run Tryz.prog W=.ok (a==b) W:=λa b W=>Eo 9998 a b W
  have c:=λ(W:iW)=>Vm 9997 x.fP y.fP W
  simp only[show(9997+2:Nat)=9999 from rfl]at c;simp[Program.fieldsOf,Tryz.underlying53,Op.eqFields,part,isAgg,sizeOf,typeInfo,run_underlying Tryz.underlying3,run_underlying Tryz.underlying44,f,h,g,i,d,c];cases h0:x.block==y.block<;>simp at h0<;>simp[h0]
  cases h1:x.leaf==y.leaf<;>simp at h1<;>simp[h1]
  cases qR x.fP y.fP<;>simp
 rw[e];rfl
theorem Ze(x y:an):(x.block==y.block&&(x.leaf==y.leaf&&qR x.fP y.fP))=lj x y:=by
 unfold lj qR;rw[m7,m7];simp only[Bool.and_assoc];congr 7;exact xN.2 (by simp)
end Go.Proofs.YtgigcooffjjbgaaGreatDoor
