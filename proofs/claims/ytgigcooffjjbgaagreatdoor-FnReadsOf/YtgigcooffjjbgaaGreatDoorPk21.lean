/-
  SChunk; SRefs; SCon; SPut; VlCut; SEntM; SEnter; ResSt; EaStM; StsM; GsM; SEnAll
-/
import Derived.Test.YtgigcooffjjbgaaGreatDoorPk20
import Derived.Laws.CopyRow
import Derived.Lib.AppendZerosOnto
import Derived.Lib.Overlaps
import Derived.Shelf.RegionOpenPlain
open Go.Value renaming int→I,slice→Y,bool→iB,pointer→iP,agg→iA,tuple→iU
open Go.IntKind renaming i64→J
open Option renaming none→O,some→X
open Go.Ending renaming returned→G
open Go.Obj renaming cells→iC
open Bool renaming true→iV,false→iF
open Go renaming World→iW,Value→iX,Calls→iK
open Go.RowKit renaming Below→iL
set_option maxHeartbeats 4000000
set_option maxRecDepth 100000
namespace Go.Proofs.YtgigcooffjjbgaaGreatDoor
open Go.RowKit Words
theorem TM(p:Option Addr)(i vc:Nat)(ad:Option Addr)(a cap:Nat)(nx:Int)(vs:List (Int×Int))(rs:List Kw)(d c:Int)(w:iW)(D:i<=1048578)(R:a<=1048578)(h:fN w p i vs)(Q:dO w ad a rs):
 iK Tryz.prog 26 #[iA (eA p i vc ad a cap nx),I J d,I J c] w λe w'=>e=G (I J (dy ⟨vs,rs.map aE,nx⟩ d c))/\iL w.heap.size w w':=by
 have x:=af ((Tk.start w).cell #[Y p i vc,Y ad a cap,I J nx] 32);have u:=af h.1;have N:=af h;have M:=af Q;clear h Q;obtain⟨C,z⟩:=aq (dy ⟨vs,rs.map aE,nx⟩ d c);have L:=af z;rw[z];clear z;unfold eA;go_enter Tryz.func26,Tryz.ntmps26;go_wp2_with fail;refine(sG p i vc ad a cap nx vs d _ D (N.o.below x.o.1)).mono ?_;rintro e j ⟨rfl,P⟩;have f:=af (x.o.below P);clear P x;have F:j.cell? ⟨w.heap.size,0,O⟩=X (Y p i vc):=f.o.at 0 0 rfl rfl;have H:j.cell? ⟨w.heap.size,1,O⟩=X (Y ad a cap):=f.o.at 0 1 rfl rfl;cases n:bw vs d with
 |none=>
  have E:ah (C=0):=by
   show _=_;rw[<-L.o];simp only[dy,lU,n,Option.bind_none]
  have y:js O= -1:=rfl;rw[y];clear n;go_wp2;go_ret;exact⟨by rw[E.o];rfl,f.o.1⟩
 |some k=>
  obtain⟨v,q,A⟩:=om n;have B:=(aC.1 q).1;have T:(k:Int)<i:=by have:=u.o;omega
  have k0:(0:Int)<=k:=by omega
  have k1:¬((k:Int)<0):=by omega
  have E:ah (dZ (rs.map aE) v.2 c=C):=by
   show _=_;rw[<-L.o];simp only[dy,lU,n,jd,q,fE]
  obtain⟨b,g,e,hb,Z,c1⟩:=(N.o.below f.o.1).at q;subst e;have y:js (X k)=(k:Int):=rfl;rw[y];have t:=af (Bf ad a cap rs v.2 c j.drew R (M.o.below f.o.1.drew));have s:=af (Bf ad a cap rs v.2 c j R (M.o.below f.o.1));rw[E.o]at t s;have m:=af f.o.1.drew;have U:=bk j _ F;have V:=bk j _ H;have W:=bk j _ c1;clear n q A B E
  first
   |(go_wp2_with fail
     refine s.o.mono ?_;rintro e r ⟨rfl,l⟩;have K:=af (f.o.1.trans (l.mono f.o.1.size)))
   |(go_wp2
     go_region_held3 (λw'=>w'.cell? ⟨w.heap.size,0,O⟩=X (Y (X ⟨b,g,O⟩) i vc)/\w'.cell? ⟨w.heap.size,1,O⟩=X (Y ad a cap)/\w'.cell? ⟨b,g+k*2+1,O⟩=X (I J v.2)) (first|exact⟨F,H,c1⟩|exact S.o) ((go_at_call 57;(with_reducible refine cn t.o ?_);rintro en r ⟨rfl,l⟩;have S:ah (r.cell? ⟨w.heap.size,0,O⟩=X (Y (X ⟨b,g,O⟩) i vc)/\r.cell? ⟨w.heap.size,1,O⟩=X (Y ad a cap)/\r.cell? ⟨b,g+k*2+1,O⟩=X (I J v.2)):=⟨(l.cell U).trans F,(l.cell V).trans H,(l.cell W).trans c1⟩))
     have K:=af (m.o.trans (l.mono m.o.size)))
  all_goals
   clear t s;go_wp2;go_ret;exact⟨rfl,K.o⟩
theorem Nl:Ta 86:=by
 rintro v ⟨vs,h,nx⟩ w ⟨f,g,vc,ad,a,cap,rs,rfl,b,i,h4,d,j,c,e⟩;simp only at b c;subst b;exact K7 f g vc ad a cap nx vs rs w (by omega) (by omega) d c e
theorem Tn(ad:Option Addr)(u cap:Nat)(rs:List Kw)(r s n:Int)(w:iW)(hl:u<=1048578)(aO:∀r∈rs,r.2.2.length<=1048576)(h:dO w ad u rs):
 iK Tryz.prog 90 #[iA #[Y ad u cap],I J r,I J s,I J n] w (Ai w (gN (rs.map aE) r s n) (jM (rs.map aE) r s n)):=by
 have T0:=af (Tk.two w #[Y ad u cap] #[Y O 0 0] 30 30);have K0:=af (h.below T0.o.1);have a0:=af aO;clear h aO;have q0:((w.alloc (iC #[Y ad u cap] 30)).alloc (iC #[Y O 0 0] 30)).cell? ⟨w.heap.size,0,O⟩=X (Y ad u cap):=T0.o.at 1 0 rfl rfl;have au:ah (((w.alloc (iC #[Y ad u cap] 30)).alloc (iC #[Y O 0 0] 30)).heap.size=w.heap.size+1+1):=by show _=_;simp
 go_enter Tryz.func90,Tryz.ntmps90;go_wp2_with fail;generalize(w.alloc (iC #[Y ad u cap] 30)).alloc (iC #[Y O 0 0] 30)=w0 at T0 K0 q0 au⊢;refine(Ab ad u cap rs w0 hl a0.o K0.o).mono ?_;rintro e B ⟨v,rfl,uv,a,rfl,ko,aW,b1⟩;obtain⟨L,M,rfl⟩:=ko.form;have U:=af aW;have T1:=af (T0.o.below b1);have A:ah (w0.heap.size=w.heap.size+1+1):=au;have D:ah (w.heap.size+1+1<=B.heap.size):=by have:=b1.size;have:=A.o;show _<=_;omega
 have KO:=af ko;have K1:=af (K0.o.below b1);obtain⟨z,hz⟩:=aq w.heap.size;have HZ:=af hz;rw[hz]at T0 T1 A D⊢;clear hz aW ko b1 q0 T0 K0 au;have KZ:ah (∀W,iL B.heap.size B W->W.cell? ⟨z,0,O⟩=X (Y ad u cap)/\W.cell? ⟨z+1,0,O⟩=X (Y O 0 0)/\W.frozen? ⟨z+1,0,O⟩=iF):=λW hW=>
  ⟨(hW.cell (show z<B.heap.size by have:=D.o;omega)).trans (T1.o.at 1 0 rfl rfl),(hW.cell (show z+1<B.heap.size by have:=D.o;omega)).trans (T1.o.at 0 0 rfl rfl),aF _ _ 0 _ _ ((hW.block (z+1) (by have:=D.o;omega)).trans (T1.o.get 0 rfl))⟩
 have NO:ah (∀W,iL B.heap.size B W->pj w (rs.map aE) (iA #[Y L a.length M]) (W.setCell ⟨z+1,0,O⟩ (Y L a.length M))/\(W.setCell ⟨z+1,0,O⟩ (Y L a.length M)).heap[z+1]?=X (iC #[Y L a.length M] 30 (0,0))):=λW hW=>
  ⟨⟨_,a,rfl,by rw[HZ.o];exact((KO.o.below hW).cellB (show z+1<w0.heap.size by have:=A.o;omega) _ _).down (by have:=A.o;omega),U.o,(T1.o.1.trans (hW.mono T1.o.1.size)).setCell (p:=⟨z+1,0,O⟩) (by show w.heap.size<=z+1;have:=HZ.o;omega) _⟩,dz ((hW.block (z+1) (by have:=D.o;omega)).trans (T1.o.get 0 rfl)) 0 _⟩
 have U0:=af ((Tk.start B).cell #[Y L a.length M] 30);obtain⟨g,hg⟩:=aq B.heap.size;have HG:=af hg;have q1:=(KZ.o _ U0.o.1).1;have aL:=af (show(B.alloc (iC #[Y L a.length M] 30)).heap.size=B.heap.size+1 by simp)
 rw[hg]at U0 aL;go_wp2_with fail;clear hg;generalize B.alloc (iC #[Y L a.length M] 30)=w2 at U0 aL q1⊢;refine(zG ad u cap rs w2 hl (K1.o.below U0.o.1)).mono ?_;rintro e w3 ⟨rfl,b3⟩;have U1:=af (U0.o.below b3);clear q1 b3;have q1:=(KZ.o _ U1.o.1).1;have f1:=(KZ.o _ U1.o.1).2.2;have g1:w3.cell? ⟨g,0,O⟩=X (Y L a.length M):=U1.o.at 0 0 rfl rfl;have n1:=(KZ.o _ U1.o.1).2.1;cases hA:cj (rs.map aE)with
 |false=>
  have E:ah (gN (rs.map aE) r s n=rs.map aE/\jM (rs.map aE) r s n=r):=zC (by rw[lW,jJ,hA];simp)
  clear hA;go_wp2;exact az (pE (p:=8) (q:=9) rfl _ _ (z+1) _ rfl (NO.o _ U1.o.1).2) rfl (zn E.o (NO.o _ U1.o.1).1)
 |true=>
  have HA:=af hA;go_wp2_with fail;refine(yK ad u cap rs r w3 hl (K1.o.below U1.o.1)).mono ?_;rintro e w4 ⟨rfl,b4⟩;have N:=af (U1.o.below b4);clear q1 f1 g1 n1 b4 hA;have q1:=(KZ.o _ N.o.1).1;have f1:=(KZ.o _ N.o.1).2.2;have g1:w4.cell? ⟨g,0,O⟩=X (Y L a.length M):=N.o.at 0 0 rfl rfl;have n1:=(KZ.o _ N.o.1).2.1;cases hR:bB (rs.map aE) r with
  |false=>
   have E:ah (gN (rs.map aE) r s n=rs.map aE/\jM (rs.map aE) r s n=r):=zC (by rw[lW,jJ,hR];simp)
   clear hR;go_wp2;exact az (pE (p:=8) (q:=9) rfl _ _ (z+1) _ rfl (NO.o _ N.o.1).2) rfl (zn E.o (NO.o _ N.o.1).1)
  |true=>
   have HR:=af hR;clear hR;go_wp2_with fail;refine(ij s 0 15 _).mono ?_;rintro e w5 ⟨rfl,rfl⟩;by_cases K:0<=s/\s<=15
   ·rw[aS K];by_cases hn:n<0
    ·have E:ah (gN (rs.map aE) r s n=rs.map aE/\jM (rs.map aE) r s n=r):=zC (by rw[lW,aV (show¬0<=n by omega)];simp)
     go_wp2;exact az (pE (p:=8) (q:=9) rfl _ _ (z+1) _ rfl (NO.o _ N.o.1).2) rfl (zn E.o (NO.o _ N.o.1).1)
    ·obtain⟨i0,C,c,f,l⟩:=bO mr;have I0:=af C;have Y0:=af c;have Y1:=af f;have Y2:=af l;clear C c f l;obtain⟨p,hp⟩:=aq w5.heap.size;have aw:ah (g+1<=p):=by have:g+1<=w5.heap.size:=N.o.hi 0 rfl;show _<=_;omega
     go_wp2_with (at_make;refine vJ _ rfl _ _ 36 rfl w5.heap.size 3 i0 (I J 0) 1 Tryz.underlying36 I0.o Y0.o Y1.o J J _ _ 4 rfl rfl rfl rfl (by rw[Y2.o];omega) (by unfold maxLen;omega) (am _) ?_)
     intro w6 ac ab;rw[uR]at ac;have BG:iL w5.heap.size w5 w6:=(ax _ _).grown ab (am _) (λk hk=>by cases hk)
     have F1:=(aG.of ac).flt;have aX:p+1<=w6.heap.size:=by obtain⟨cs,q,-⟩:=F1;have:=(aK.1 q).1;omega
     have U3:=af ((N.o.below BG).put (P:=aP 3 p (aD [0,0,0,0])) aX (aP.loc _ _ _) F1);obtain⟨d,hd⟩:=aq w6.heap.size;have aB:ah (p+1<=d):=by show _<=_;omega
     clear ac ab BG F1 aX q1 f1 g1 n1 U0 U1 hp;have U4:=af (((U3.o.celln hd #[iB iV,Y (X ⟨p,0,O⟩) 4 4] 189).celln (kT hd _) #[I J (-1),I J (-1),I J (-1),I J (-1)] 3).celln (kT (kT hd _) _) #[iB iF,Y (X ⟨d+1,0,O⟩) 4 4] 189);have U5:ah (Tk B (((w6.alloc (iC #[iB iV,Y (X ⟨p,0,O⟩) 4 4] 189)).alloc (iC #[I J (-1),I J (-1),I J (-1),I J (-1)] 3)).alloc (iC #[iB iF,Y (X ⟨d+1,0,O⟩) 4 4] 189)) (mC g d (d+1+1) p (d+1) 4 4 (Y L a.length M) [0,0,0,0] [-1,-1,-1,-1])):=
      (U4.o.as 1 rfl (Q:=aP 3 (d+1) (aD [-1,-1,-1,-1])) (aP.loc _ _ _) ⟨_,U4.o.get 1 rfl,λi v hi=>by simpa[aD]using hi⟩).drop (λy hy=>by
       simp only[be,eI,eX]at hy⊢;rcases hy with h|h|h|h|h<;>simp[h])
     obtain⟨G,rfl⟩:∃G:Nat,s=(G:Int):=⟨s.toNat,by omega⟩
     obtain⟨q,hq⟩:=aq (G/4);obtain⟨t,ht⟩:=aq (G % 4);have an:q<4:=by omega
     have aH:t<4:=by omega
     have tq:(G:Int).tdiv 4=(q:Int):=by rw[DY (by omega)];omega
     have tt:(G:Int).tmod 4=(t:Int):=by rw[Ap (by omega)];omega
     have bo:(G:Int)/4=(q:Int):=by omega
     have bp:(G:Int) % 4=(t:Int):=by omega
     have q0:(0:Int)<=q:=by omega
     have q4:(q:Int)<4:=by omega
     have t0:(0:Int)<=t:=by omega
     have t4:(t:Int)<4:=by omega
     have F:ah ((rs.map aE).length=a.length):=by show _=_;rw[<-U.o,bm]
     have ar:ah (lW (rs.map aE) r (G:Int) n=iV):=by show _=_;rw[lW,jJ,HA.o,HR.o,aS K.1,aS K.2,aS (show 0<=n by omega)];rfl
     have HQ:=af hq;have HT:=af ht;have aA:ah (B.heap.size=g):=HG;clear U3 U4 hq ht K;by_cases aT:r<0
     ·have T:ah (ir (rs.map aE) r G n=⟨iV,[0,0,0,0].set t n⟩/\ib (rs.map aE) r G=⟨iF,[-1,-1,-1,-1].set q (a.length:Int)⟩):=⟨by rw[ir,ak aT,HT.o],by rw[ib,ak aT,HQ.o,F.o]⟩
      have DA:ah (pR B.heap.size g d (d+1+1) p (d+1)):=by have:=aA.o;have:=aw.o;have:=aB.o;constructor<;>omega
      obtain⟨⟨a1,⟨e2,a2⟩,a3,a4,a5,⟨Z,a6⟩,a7,a8,b1,b2,b3,b4⟩,V⟩:=Bl (t:=t) (q:=q) U5.o DA.o rfl rfl aH an n (a.length:Int);have H:=af V;clear V U5;have HE:=af hd;obtain⟨j0,C,c,f,l⟩:=bO vU;have J0:=af C;have X0:=af c;have X1:=af f;have X2:=af l;clear C c f l;have aU:a.length<=1048578:=by rw[<-F.o,bm];have:=K1.o.1;omega
      have OW:ah (((((((w6.alloc (iC #[iB iV,Y (X ⟨p,0,O⟩) 4 4] 189)).alloc (iC #[I J (-1),I J (-1),I J (-1),I J (-1)] 3)).alloc (iC #[iB iF,Y (X ⟨d+1,0,O⟩) 4 4] 189)).setCell ⟨p,t,O⟩ (I J n)).setCell ⟨d+1,q,O⟩ (I J (a.length:Int))).alloc (iC #[iB iV,Y (X ⟨p,0,O⟩) 4 4,iB iF,Y (X ⟨d+1,0,O⟩) 4 4] 189)).ownsRow w0.heap.size 189 2 (Y L a.length M) a.length (d8 a)):=bC (bC KO.o.1 H.o.1) (aZ);have HN:=af (Do (((((w6.alloc (iC #[iB iV,Y (X ⟨p,0,O⟩) 4 4] 189)).alloc (iC #[I J (-1),I J (-1),I J (-1),I J (-1)] 3)).alloc (iC #[iB iF,Y (X ⟨d+1,0,O⟩) 4 4] 189)).setCell ⟨p,t,O⟩ (I J n)).setCell ⟨d+1,q,O⟩ (I J (a.length:Int))) (E:=d+1+1+1) (by simp[HE.o]) (Y (X ⟨p,0,O⟩) 4 4) (Y (X ⟨d+1,0,O⟩) 4 4))
      have HB:ah (w0.heap.size<=((((((w6.alloc (iC #[iB iV,Y (X ⟨p,0,O⟩) 4 4] 189)).alloc (iC #[I J (-1),I J (-1),I J (-1),I J (-1)] 3)).alloc (iC #[iB iF,Y (X ⟨d+1,0,O⟩) 4 4] 189)).setCell ⟨p,t,O⟩ (I J n)).setCell ⟨d+1,q,O⟩ (I J (a.length:Int))).alloc (iC #[iB iV,Y (X ⟨p,0,O⟩) 4 4,iB iF,Y (X ⟨d+1,0,O⟩) 4 4] 189)).heap.size):=bV (bV (show w0.heap.size<=B.heap.size by have:=A.o;have:=D.o;omega) H.o.1.size) ((aZ:iL _ _ _).size)
      go_wp2_with (at_builtin;refine cS _ rfl _ _ 28 rfl w0.heap.size 189 j0 (iA #[iB iF,Y O 0 0]) 2 32 Tryz.underlying28 J0.o X0.o X1.o X2.o rfl (by decide) _ a.length (d8 a) rfl OW.o ⟨d+1+1+1,0,O⟩ 2 2 [iB iV,Y (X ⟨p,0,O⟩) 4 4,iB iF,Y (X ⟨d+1,0,O⟩) 4 4] rfl rfl HN.o (El _ _ _ _ _ _) ?c1 ?c2 HB.o ?_)
      case c1=>unfold maxLen;omega
      case c2=>omega
      intro u2 y o2 g2 _;obtain⟨ub,ag,ae,-⟩:=(aG.of o2).form;subst ae;obtain⟨⟨ev,e1⟩,e2,e3,e4,e5,e8,Z,e7⟩:=Dg HZ.o T1.o rfl KO.o A.o (show w0.heap.size<=B.heap.size by have:=A.o;have:=D.o;omega) H.o DA.o (by simp) (by simp) rfl o2 g2
      have E6:=af Z;have E7:=af e7;clear Z e7 o2 g2 a1 a2 a3 a4 a5 a6 a7 a8 b1 b2 b3 b4 H HB HN OW;have aY:IntKind.i64.wrap (((a.length+2:Nat):Int)-1)=(a.length:Int)+1:=by rw[cm]<;>omega
      go_wp2_with fail;generalize y.setCell ⟨g,0,O⟩ (Y ub (a.length+2) ag)=yy at e3 e4 e5 e8 E6 E7⊢;go_region;go_wp2;exact az (pE (p:=8) (q:=9) rfl _ _ (z+1) _ rfl E6.o) rfl (Es ar.o T.o (by have:=F.o;omega) U.o E7.o)
     ·obtain⟨m,rfl⟩:∃m:Nat,r=(m:Int):=⟨r.toNat,by omega⟩
      obtain⟨x,hx,aI⟩:=lj HR.o (by omega)
      have aR:m<u:=by have:=(aC.1 hx).1;rw[bm,K1.o.1]at this;simpa using this
      have ap:ah ((((w6.alloc (iC #[iB iV,Y (X ⟨p,0,O⟩) 4 4] 189)).alloc (iC #[I J (-1),I J (-1),I J (-1),I J (-1)] 3)).alloc (iC #[iB iF,Y (X ⟨d+1,0,O⟩) 4 4] 189)).heap.size=d+1+1+1):=kT (kT (kT hd _) _) _;have B5:ah (iL B.heap.size B ((((w6.alloc (iC #[iB iV,Y (X ⟨p,0,O⟩) 4 4] 189)).alloc (iC #[I J (-1),I J (-1),I J (-1),I J (-1)] 3)).alloc (iC #[iB iF,Y (X ⟨d+1,0,O⟩) 4 4] 189)).alloc (iC #[] 3))):=U5.o.1.alloc U5.o.1.size _;have K5:=af (K1.o.below B5.o);obtain⟨b,bn,e,-⟩:=K1.o.adr (by omega)
      subst e;have x4:=mR (lR HA.o hx);obtain⟨o,ho,aa⟩:=lO HA.o hx aI an;have aJ:ah (dQ (rs.map aE) (m:Int) q=o):=ie hx ho;obtain⟨ka,kc,-,c1,kr⟩:=K5.o.fD hx;rw[x4]at c1 kr;simp only[bi]at c1;obtain⟨kb,ko,e,-,-⟩:=kr.at ho;subst e;have C1:=af kr.cells;have OE:=af (Ej (((w6.alloc (iC #[iB iV,Y (X ⟨p,0,O⟩) 4 4] 189)).alloc (iC #[I J (-1),I J (-1),I J (-1),I J (-1)] 3)).alloc (iC #[iB iF,Y (X ⟨d+1,0,O⟩) 4 4] 189)) ap.o);have L1:ah ((aD x.fD).length=4*1):=by show _=_;rw[aD,bm,x4]
      have m0:(0:Int)<=m:=by omega
      have mL:(m:Int)<u:=by omega
      have cz:=(KZ.o _ B5.o).1;have S:ah (d+1+1+1<=((((w6.alloc (iC #[iB iV,Y (X ⟨p,0,O⟩) 4 4] 189)).alloc (iC #[I J (-1),I J (-1),I J (-1),I J (-1)] 3)).alloc (iC #[iB iF,Y (X ⟨d+1,0,O⟩) 4 4] 189)).alloc (iC #[] 3)).heap.size):=by have:=kT ap.o (iC #[] 3);show _<=_;omega
      have HX:=af hx;have bh:=af aI;have al:=af x4;have HO:=af ho;have HC:=af aa;have a9:=af aR;clear hx aI x4 ho aa kr aR;go_wp2_with (at_builtin;refine cS _ rfl _ _ 36 rfl (d+1+1+1) 3 i0 (I J 0) 1 8 Tryz.underlying36 I0.o Y0.o Y1.o Y2.o rfl (by decide) _ 0 [] rfl OE.o ⟨kb,ko,O⟩ 4 kc (aD x.fD) rfl L1.o C1.o (rB _) (by unfold maxLen;omega) (by omega) S.o ?_)
      intro v1 R o1 g1 _;obtain⟨tk,vc,rfl,bk,U6⟩:=Lh U5.o ap.o o1 g1;have DA:ah (pR B.heap.size g d (d+1+1) p tk):=by have:=aA.o;have:=aw.o;have:=aB.o;constructor<;>omega
      obtain⟨s1,s2,U7⟩:=Vg (tc:=vc) U6 DA.o;have U8:=af U7;have s3:(R.setCell ⟨d+1+1,1,O⟩ (Y (X ⟨tk,0,O⟩) 4 vc)).cell? ⟨d+1+1,1,O⟩=X (Y (X ⟨tk,0,O⟩) 4 vc):=U7.at 0 1 rfl rfl;have s4:(R.setCell ⟨d+1+1,1,O⟩ (Y (X ⟨tk,0,O⟩) 4 vc)).cell? ⟨tk,q,O⟩=X (I J o):=(show aP 3 tk (aD x.fD) _ from U7.get 1 rfl).cell (kB HO.o);clear o1 g1 U6 U7 c1 C1 OE L1 cz S K5 B5 U5;rcases HC.o with rfl|⟨n0,nm,yk,hy,bb,ao⟩
      ·have T:ah (ir (rs.map aE) (m:Int) G n=⟨iV,[0,0,0,0].set t n⟩/\ib (rs.map aE) (m:Int) G=⟨iF,x.fD.set q (a.length:Int)⟩):=⟨by rw[ir,ai (show¬(m:Int)<0 by omega),HT.o,HQ.o,aJ.o,ak (by omega)],by rw[ib,ai (show¬(m:Int)<0 by omega),HQ.o,F.o,HX.o];rfl⟩
       obtain⟨⟨a1,⟨e2,a2⟩,a3,a4,a5,⟨Z,a6⟩,a7,a8,b1,b2,b3,b4⟩,V⟩:=Bl (t:=t) (q:=q) U8.o DA.o rfl al.o aH an n (a.length:Int);have H:=af V;obtain⟨ee,av⟩:=aq R.heap.size;have HE:=af av;clear V U8;obtain⟨j0,C,c,f,l⟩:=bO vU;have J0:=af C;have X0:=af c;have X1:=af f;have X2:=af l;clear C c f l;have aU:a.length<=1048578:=by rw[<-F.o,bm];have:=K1.o.1;omega
       have OW:ah (((((R.setCell ⟨d+1+1,1,O⟩ (Y (X ⟨tk,0,O⟩) 4 vc)).setCell ⟨p,t,O⟩ (I J n)).setCell ⟨tk,q,O⟩ (I J (a.length:Int))).alloc (iC #[iB iV,Y (X ⟨p,0,O⟩) 4 4,iB iF,Y (X ⟨tk,0,O⟩) 4 vc] 189)).ownsRow w0.heap.size 189 2 (Y L a.length M) a.length (d8 a)):=bC (bC KO.o.1 H.o.1) (aZ);have HN:=af (Do (((R.setCell ⟨d+1+1,1,O⟩ (Y (X ⟨tk,0,O⟩) 4 vc)).setCell ⟨p,t,O⟩ (I J n)).setCell ⟨tk,q,O⟩ (I J (a.length:Int))) (E:=ee) (by simp[HE.o]) (Y (X ⟨p,0,O⟩) 4 4) (Y (X ⟨tk,0,O⟩) 4 vc))
       have HB:ah (w0.heap.size<=((((R.setCell ⟨d+1+1,1,O⟩ (Y (X ⟨tk,0,O⟩) 4 vc)).setCell ⟨p,t,O⟩ (I J n)).setCell ⟨tk,q,O⟩ (I J (a.length:Int))).alloc (iC #[iB iV,Y (X ⟨p,0,O⟩) 4 4,iB iF,Y (X ⟨tk,0,O⟩) 4 vc] 189)).heap.size):=bV (bV (show w0.heap.size<=B.heap.size by have:=A.o;have:=D.o;omega) H.o.1.size) ((aZ:iL _ _ _).size)
       go_wp2_with (at_builtin;refine cS _ rfl _ _ 28 rfl w0.heap.size 189 j0 (iA #[iB iF,Y O 0 0]) 2 32 Tryz.underlying28 J0.o X0.o X1.o X2.o rfl (by decide) _ a.length (d8 a) rfl OW.o ⟨ee,0,O⟩ 2 2 [iB iV,Y (X ⟨p,0,O⟩) 4 4,iB iF,Y (X ⟨tk,0,O⟩) 4 vc] rfl rfl HN.o (El _ _ _ _ _ _) ?c1 ?c2 HB.o ?_)
       case c1=>unfold maxLen;omega
       case c2=>omega
       intro u2 y o2 g2 _;obtain⟨ub,ag,ae,-⟩:=(aG.of o2).form;subst ae;obtain⟨⟨ev,e1⟩,e2,e3,e4,e5,e8,Z,e7⟩:=Dg HZ.o T1.o rfl KO.o A.o (show w0.heap.size<=B.heap.size by have:=A.o;have:=D.o;omega) H.o DA.o (by simp) (by simp[al.o]) rfl o2 g2
       have E6:=af Z;have E7:=af e7;clear Z e7 o2 g2 a1 a2 a3 a4 a5 a6 a7 a8 b1 b2 b3 b4 H HB HN OW;have aY:IntKind.i64.wrap (((a.length+2:Nat):Int)-1)=(a.length:Int)+1:=by rw[cm]<;>omega
       go_wp2_with fail;generalize y.setCell ⟨g,0,O⟩ (Y ub (a.length+2) ag)=yy at e3 e4 e5 e8 E6 E7⊢;go_region;go_wp2;exact az (pE (p:=8) (q:=9) rfl _ _ (z+1) _ rfl E6.o) rfl (Es ar.o T.o (by have:=F.o;omega) U.o E7.o)
      ·obtain⟨j,rfl⟩:∃j:Nat,o=(j:Int):=⟨o.toNat,by omega⟩
       have aM:=af ao;have T:ah (ir (rs.map aE) (m:Int) G n=⟨iV,yk.fD.set t n⟩/\ib (rs.map aE) (m:Int) G=⟨iF,x.fD.set q (a.length:Int)⟩):=⟨by rw[ir,ai (show¬(m:Int)<0 by omega),HT.o,HQ.o,aJ.o,ai (by omega),hy];rfl,by rw[ib,ai (show¬(m:Int)<0 by omega),HQ.o,F.o,HX.o];rfl⟩
       obtain⟨ee,av⟩:=aq R.heap.size;have aj:ah ((R.setCell ⟨d+1+1,1,O⟩ (Y (X ⟨tk,0,O⟩) 4 vc)).heap.size=ee):=by show _=_;rw[<-av];simp[World.setCell]
       have bg:tk<ee:=by have:tk+1<=(R.setCell ⟨d+1+1,1,O⟩ (Y (X ⟨tk,0,O⟩) 4 vc)).heap.size:=U8.o.hi 1 rfl;have:=aj.o;omega
       have B8:ah (iL B.heap.size B ((R.setCell ⟨d+1+1,1,O⟩ (Y (X ⟨tk,0,O⟩) 4 vc)).alloc (iC #[] 3))):=U8.o.1.alloc U8.o.1.size _;obtain⟨la,bc,-,c1,lr⟩:=(K1.o.below B8.o).fD hy;rw[ao]at c1 lr;simp only[bi]at c1;obtain⟨lv,aQ⟩:∃lv,yk.fD[0]?=X lv:=⟨_,ay (by omega)⟩
       obtain⟨bd,bf,e,-,-⟩:=lr.at aQ;subst e;have C1:=af lr.cells;have OE:=af (Ej (R.setCell ⟨d+1+1,1,O⟩ (Y (X ⟨tk,0,O⟩) 4 vc)) aj.o);have L1:ah ((aD yk.fD).length=4*1):=by show _=_;rw[aD,bm,ao]
       have bl:(0:Int)<=j:=by omega
       have jL:(j:Int)<u:=by have:=a9.o;simp only[bi]at nm;omega
       have cz:=(KZ.o _ B8.o).1;have S:ah (ee<=((R.setCell ⟨d+1+1,1,O⟩ (Y (X ⟨tk,0,O⟩) 4 vc)).alloc (iC #[] 3)).heap.size):=by have:=kT aj.o (iC #[] 3);show _<=_;omega
       have HY:=af hy;clear hy bb ao lr aQ nm n0;go_wp2_with (at_builtin;refine cS _ rfl _ _ 36 rfl ee 3 i0 (I J 0) 1 8 Tryz.underlying36 I0.o Y0.o Y1.o Y2.o rfl (by decide) _ 0 [] rfl OE.o ⟨bd,bf,O⟩ 4 bc (aD yk.fD) rfl L1.o C1.o (rB _) (by unfold maxLen;omega) (by omega) S.o ?_)
       intro v2 w8 o1 g1 _;obtain⟨lk,lc,rfl,bj,U9⟩:=Lh U8.o aj.o o1 g1;have DB:ah (pR B.heap.size g d (d+1+1) lk tk):=by have:=aA.o;have:=aw.o;have:=aB.o;constructor<;>omega
       obtain⟨s5,s6,aN⟩:=QN (lc:=lc) U9 DB.o;clear o1 g1 U9 c1 C1 OE L1 cz S B8 U8 s1 s2 s3 s4;obtain⟨⟨a1,⟨e2,a2⟩,a3,a4,a5,⟨Z,a6⟩,a7,a8,b1,b2,b3,b4⟩,V⟩:=Bl (t:=t) (q:=q) aN DB.o aM.o al.o aH an n (a.length:Int);have H:=af V;obtain⟨ff,ba⟩:=aq w8.heap.size;have HF:=af ba;clear V aN;obtain⟨j0,C,c,f,l⟩:=bO vU;have J0:=af C;have X0:=af c;have X1:=af f;have X2:=af l;clear C c f l;have aU:a.length<=1048578:=by rw[<-F.o,bm];have:=K1.o.1;omega
       have OW:ah (((((w8.setCell ⟨d,1,O⟩ (Y (X ⟨lk,0,O⟩) 4 lc)).setCell ⟨lk,t,O⟩ (I J n)).setCell ⟨tk,q,O⟩ (I J (a.length:Int))).alloc (iC #[iB iV,Y (X ⟨lk,0,O⟩) 4 lc,iB iF,Y (X ⟨tk,0,O⟩) 4 vc] 189)).ownsRow w0.heap.size 189 2 (Y L a.length M) a.length (d8 a)):=bC (bC KO.o.1 H.o.1) (aZ);have HN:=af (Do (((w8.setCell ⟨d,1,O⟩ (Y (X ⟨lk,0,O⟩) 4 lc)).setCell ⟨lk,t,O⟩ (I J n)).setCell ⟨tk,q,O⟩ (I J (a.length:Int))) (E:=ff) (by simp[HF.o]) (Y (X ⟨lk,0,O⟩) 4 lc) (Y (X ⟨tk,0,O⟩) 4 vc))
       have HB:ah (w0.heap.size<=((((w8.setCell ⟨d,1,O⟩ (Y (X ⟨lk,0,O⟩) 4 lc)).setCell ⟨lk,t,O⟩ (I J n)).setCell ⟨tk,q,O⟩ (I J (a.length:Int))).alloc (iC #[iB iV,Y (X ⟨lk,0,O⟩) 4 lc,iB iF,Y (X ⟨tk,0,O⟩) 4 vc] 189)).heap.size):=bV (bV (show w0.heap.size<=B.heap.size by have:=A.o;have:=D.o;omega) H.o.1.size) ((aZ:iL _ _ _).size)
       go_wp2_with (at_builtin;refine cS _ rfl _ _ 28 rfl w0.heap.size 189 j0 (iA #[iB iF,Y O 0 0]) 2 32 Tryz.underlying28 J0.o X0.o X1.o X2.o rfl (by decide) _ a.length (d8 a) rfl OW.o ⟨ff,0,O⟩ 2 2 [iB iV,Y (X ⟨lk,0,O⟩) 4 lc,iB iF,Y (X ⟨tk,0,O⟩) 4 vc] rfl rfl HN.o (El _ _ _ _ _ _) ?c1 ?c2 HB.o ?_)
       case c1=>unfold maxLen;omega
       case c2=>omega
       intro u2 y o2 g2 _;obtain⟨ub,ag,ae,-⟩:=(aG.of o2).form;subst ae;obtain⟨⟨ev,e1⟩,e2,e3,e4,e5,e8,Z,e7⟩:=Dg HZ.o T1.o rfl KO.o A.o (show w0.heap.size<=B.heap.size by have:=A.o;have:=D.o;omega) H.o DB.o (by simp[aM.o]) (by simp[al.o]) rfl o2 g2
       have E6:=af Z;have E7:=af e7;clear Z e7 o2 g2 a1 a2 a3 a4 a5 a6 a7 a8 b1 b2 b3 b4 H HB HN OW;have aY:IntKind.i64.wrap (((a.length+2:Nat):Int)-1)=(a.length:Int)+1:=by rw[cm]<;>omega
       go_wp2_with fail;generalize y.setCell ⟨g,0,O⟩ (Y ub (a.length+2) ag)=yy at e3 e4 e5 e8 E6 E7⊢;go_region;go_wp2;exact az (pE (p:=8) (q:=9) rfl _ _ (z+1) _ rfl E6.o) rfl (Es ar.o T.o (by have:=F.o;omega) U.o E7.o)
   ·have E:ah (gN (rs.map aE) r s n=rs.map aE/\jM (rs.map aE) r s n=r):=zC (by
     rw[lW,jJ];simp only[Ka,rA];omega)
    rw[aV K];clear K;go_wp2;exact az (pE (p:=8) (q:=9) rfl _ _ (z+1) _ rfl (NO.o _ N.o.1).2) rfl (zn E.o (NO.o _ N.o.1).1)
theorem Lm(w:iW):(sizeOf (Tryz.prog.elem 27)).run Tryz.prog w=.ok 2 w:=by kernel_rfl
theorem Mc:Tryz.prog.underlying 27=some (.slice (Tryz.prog.elem 27)):=by kernel_rfl
theorem QY(a:Addr):a.add 0=a:=by
 simp only[Addr.add];split<;>simp_all
theorem PT(ad:Option Addr)(n cap k:Nat)(w:World)(a:k<=cap):(Instr.slice 27 (.slice ad n cap) none (some (.int .i64 (k:Int))) none).run Tryz.prog w=.ok (.slice ad k cap) w:=by
 rw[run_slice_h w 27 ad n cap Mc .i64 _ (by omega) (by omega),Lm]
 simp only[Result.andThen,sliced,bi,nj,Nat.sub_zero];congr 2;split
 ·rfl
 ·cases ad<;>simp[QY]
theorem X9(g o n cap k:Nat)(w:World)(a:k<=n):(Instr.slice 27 (.slice (some ⟨g,o,none⟩) n cap) (some (.int .i64 (k:Int))) none none).run Tryz.prog w=.ok (.slice (if cap=k then some ⟨g,o,none⟩else some ⟨g,o+k*2,none⟩) (n-k) (cap-k)) w:=by
 rw[run_slice_l w 27 (some ⟨g,o,none⟩) n cap Mc .i64 _ (by omega) (by omega),Lm]
 simp only[Result.andThen,sliced,bi];congr 2;split
 ·rfl
 ·simp[JR]
variable{fn:Func}{v:Int × Int}{k b cap j z zb n B:Nat}
theorem fN.takeV{w:iW}{a:Option Addr}{c:Nat}{ls:List (Int×Int)}(h:fN w a c ls)(n:k<=c):fN w a k (ls.take k):=by
 obtain⟨h1,l,m,h4⟩:=h;refine⟨by simp;omega,by omega,λ_ _=>trivial,λh0=>?_⟩
 obtain⟨b,f,e,g,j⟩:=h4 (by omega)
 refine⟨b,f,e,g,λi t d=>j i t ?_⟩
 rw[zh]at d;split at d
 ·exact d
 ·cases d
theorem fN.dropV{w:iW}{a c:Nat}{ls:List (Int×Int)}(h:fN w (X ⟨b,a,O⟩) c ls)(o:c<=cap)(p:j<=c):fN w (if cap=j then X ⟨b,a,O⟩else X ⟨b,a+j*2,O⟩) (c-j) (ls.drop j):=by
 obtain⟨h1,m,n,h4⟩:=h;refine⟨by simp;omega,by omega,λ_ _=>trivial,λh0=>?_⟩
 obtain⟨l,g,e,k,d⟩:=h4 (by omega)
 injection e with e
 injection e with e1 e2
 subst e1 e2;rw[ai (by omega)]
 refine⟨b,a+j*2,rfl,k,λi t f=>?_⟩
 rw[ly]at f;have:=d (j+i) t f;rw[show a+j*2+i*2=a+(j+i)*2 by omega]
 exact this
theorem aaV{w W:iW}{a b c:iX}{r:Rc}(h:jl w W z a b c r)(n:Int):fI w ⟨[],[],n⟩ (iA #[Y O 0 0,Y O 0 0,I J n]) (((W.setCell ⟨z+1+1,0,O⟩ (Y O 0 0)).setCell ⟨z+1+1,1,O⟩ (Y O 0 0)).setCell ⟨z+1+1,2,O⟩ (I J n)):=by
 have h1:=h.1;have d:=h.2.1.size;exact yN (s:=⟨[],[],n⟩) (lo1:=w.heap.size) (hi1:=w.heap.size) (lo2:=w.heap.size) (hi2:=w.heap.size) (by omega) (.inl ⟨rfl,rfl⟩) ⟨[],rfl,.inl ⟨rfl,rfl⟩,(λ_ h=>by cases h),List.Pairwise.nil,by show(0:Nat)<=_;omega⟩ ⟨am _,.inl (by omega)⟩ ⟨am _,.inl (by omega)⟩ d d (.inl (am _)) h.2.1
def rW(wb V:iW)(c:Nat)(a:iX)(L:List Kn):Prop:=
 V.heap[c]?=X (iC #[a] 30 (0,0))/\iL wb.heap.size wb V/\∃lo hi,dB lo hi a L V/\wb.heap.size<=lo/\hi<=V.heap.size/\wb.heap.size<=c
theorem rW.ahead{wb W V:iW}{c:Nat}{a x:iX}{L:List Kn}(h:pj W L (iA #[a]) V)(f:iL wb.heap.size wb V)(b:wb.heap.size<=c/\c<W.heap.size)(i:V.heap[c]?=X (iC #[x] 30 (0,0))):rW wb (V.setCell ⟨c,0,O⟩ a) c a L:=by
 obtain⟨j,rs,e,h1,d,-⟩:=h;cases e;have k:(V.setCell ⟨c,0,O⟩ a).heap.size=V.heap.size:=by simp[World.setCell]
 refine⟨bo _ _ 0 _ _ _ i,f.setCell (p:=⟨c,0,O⟩) b.1 _,W.heap.size,V.heap.size,?_,by omega,by omega,b.1⟩
 exact dB.loc _ _ _ _ V _ (λg g1 g2=>aO _ _ _ _ (show g≠c by omega)) ⟨rs,d,h1.fK⟩
theorem rW.behind{wb W V:iW}{a:iX}{L:List Kn}(h:pj W L (iA #[a]) V)(b:iL wb.heap.size wb V)(f:wb.heap.size<=W.heap.size):rW wb (V.alloc (iC #[a] 30)) V.heap.size a L:=by
 obtain⟨d,rs,e,h1,c,-⟩:=h;cases e;have i:(V.alloc (iC #[a] 30)).heap.size=V.heap.size+1:=by simp
 have hs:=b.size;refine⟨aB _ _,b.alloc hs _,W.heap.size,V.heap.size,?_,by omega,by omega,hs⟩
 exact dB.loc _ _ _ _ V _ (λg g1 g2=>gn _ _ _ (by omega)) ⟨rs,c,h1.fK⟩
theorem Sm(s:Sto)(r:Rc):(fO s r).1.next=s.next:=by
 unfold fO;split
 ·rfl
 ·split<;>rfl
variable{s:Sto}
theorem abh(h:s.Fit)(k:Nat):(Sto.mk (s.fV.take k++s.fV.drop (k+1)) s.fK s.next).Fit:=by
 refine⟨?_,h.2⟩;have:=h.1;show(s.fV.take k++s.fV.drop (k+1)).length<=_;simp;omega
theorem Qb(h:s.Right)(f:s.fV[k]?=X v){a b:Int}(g:0<=a/\a<=15)(d:0<=b)(q:Int×Int)(n:Int):(Sto.mk (s.fV.set k q) (gN s.fK v.2 a b) n).Fit:=by
 refine⟨?_,?_,ZV h v.2 a b⟩
 ·show(s.fV.set k q).length<=_;rw[gK];have:=h.few;omega
 ·have e:lw s.fK v.2:=⟨h.ar,h.root v (aL f)⟩;have c:=(Em (n:=b) (s:=a.toNat) e (by omega) d).1
  rw[show((a.toNat:Nat):Int)=a by omega]at c
  show(gN s.fK v.2 a b).length<=_;rw[c,pt];have:=Ky h;simp;omega
theorem ZH(v:iX)(s:Sto)(r:Rc)(w:iW)(bx:dK w v s)(aV:mX v):iK Tryz.prog 54 #[v,iA #[I J r.kind,I J r.vol,I J r.arg,I J r.fC]] w (uZ w (aX s r)):=by
 have aM:=af bx;obtain⟨va,C,vc,ad,T,cap,rs,rfl,bB,ch,hl,bD,bF,h,hk⟩:=bx;have bj:ah (C<=vc):=by
  obtain⟨a,n,c,k,x,e,hh⟩:=aV;injection e with e
  injection e with e
  simp only[gE,iy]at e;obtain⟨e,-⟩:=e;injection e with e1 e2 e3
  show C<=vc;omega
 have HV:=af h;have ab:=af h.1;have HK:=af hk;have bn:=af bB;have bP:=af bD;have cb:=af bF;obtain⟨nx,bf⟩:=aq s.next;have aa:=af bf;obtain⟨i0,hi,bG,bH,bI⟩:=bO zr;have I0:=af hi;have Y0:=af bG;have Y1:=af bH;have Y2:=af bI;unfold eA at aM⊢;rw[bf]at aM⊢;clear bB bD bF h hk bf hi bG bH bI aV;obtain⟨f,i,d,m⟩:=r;simp only;have T0:=af (Tk.three w #[Y va C vc,Y ad T cap,I J nx] #[I J f,I J i,I J d,I J m] #[Y O 0 0,Y O 0 0,I J 0] 32 110 32);go_enter Tryz.func54,Tryz.ntmps54;have E0:ah (jl w (((w.alloc (iC #[Y va C vc,Y ad T cap,I J nx] 32)).alloc (iC #[I J f,I J i,I J d,I J m] 110)).alloc (iC #[Y O 0 0,Y O 0 0,I J 0] 32)) w.heap.size (Y va C vc) (Y ad T cap) (I J nx) ⟨f,i,d,m⟩):=⟨rfl,T0.o.1,T0.o.get 2 rfl,T0.o.get 1 rfl,T0.o.get 0 rfl⟩;have SI:ah (∀W,iL w.heap.size w W->dK W (iA #[Y va C vc,Y ad T cap,I J nx]) s):=λW H=>aM.o.below H
 clear T0 aM;go_wp2_with fail;generalize((w.alloc (iC #[Y va C vc,Y ad T cap,I J nx] 32)).alloc (iC #[I J f,I J i,I J d,I J m] 110)).alloc (iC #[Y O 0 0,Y O 0 0,I J 0] 32)=w0 at E0⊢;obtain⟨z,hz⟩:=aq w.heap.size;have cc:=af hz;rw[hz]at E0⊢;have EW:=af E0.o;clear hz E0;refine(Nl _ s _ (SI.o _ EW.o.2.1)).mono ?_;rintro e wa ⟨rfl,ba⟩;have B:=af (EW.o.on ba);clear ba EW;by_cases hb:dl s=iV
 ·rw[hb];obtain⟨U,Z,y2,y3⟩:=B.o.rc;simp only at U Z y2 y3;go_wp2_with fail;refine(xg ⟨f,i,d,m⟩ _).mono ?_;rintro e wb ⟨rfl,bb⟩;have EV:=af (B.o.on bb);clear B bb U Z y2 y3;have B:=af EV.o;clear EV;by_cases hR:(Rc.mk f i d m).Right
  ·rw[n8 hR];have aE:ah (dl s=iV/\(Rc.mk f i d m).Right):=⟨hb,hR⟩;have bS:=af ((kx s).1 hb);obtain⟨x0,x1,x2⟩:=B.o.sc;obtain⟨U,Z,y2,y3⟩:=B.o.rc;simp only at U Z y2 y3;clear hb;by_cases k1:f=1
   ·subst k1;have HE:ah (∀n:Int,(if d=0 then 1 else d)=n->uZ w (aX s ⟨1,i,d,m⟩) (G (iU #[iA #[Y O 0 0,Y O 0 0,I J n],iB iV])) (((wb.setCell ⟨z+1+1,0,O⟩ (Y O 0 0)).setCell ⟨z+1+1,1,O⟩ (Y O 0 0)).setCell ⟨z+1+1,2,O⟩ (I J n))):=λn hn=>by
     rw[aX,ak aE.o,ak rfl];simp only;rw[hn];exact⟨_,rfl,aaV B.o n,⟨_,_,_,_,_,rfl,am _⟩⟩
    obtain⟨f0,f1,f2,f3,f4,f5⟩:=B.o.rf;have E:=af (λn:Int=>oS (a:=Y O 0 0) (b:=Y O 0 0) (c:=I J n) B.o.2.2.2.2)
    by_cases a0:d=0
    ·subst a0;have l:=af (HE.o 1 rfl);have aY:=af (E.o 1);clear HE E hR;go_wp2;exact az (lz (p:=4) (q:=5) rfl _ _ (z+1+1) _ _ _ rfl aY.o) rfl l.o
    ·have l:=af (HE.o d (ai a0));have aY:=af (E.o d);have cd:(d==0)=iF:=by simpa using a0
     clear HE E hR;go_wp2;exact az (lz (p:=4) (q:=5) rfl _ _ (z+1+1) _ _ _ rfl aY.o) rfl l.o
   ·have ci:(f==1)=iF:=by simpa using k1
    by_cases k2:f=2
    ·subst k2;have HE:ah (aX s ⟨2,i,d,m⟩=((fO s ⟨2,i,d,m⟩).1,(fO s ⟨2,i,d,m⟩).2)):=by
      show _=_;rw[aX,ak aE.o,ai (show¬(2:Int)=1 by decide),ak rfl]
     have EN:=af (Sm s ⟨2,i,d,m⟩);clear hR;go_wp2_with fail;refine(aal _ s ⟨2,i,d,m⟩ _ (SI.o _ B.o.2.1)).mono ?_;rintro e wn ⟨u,rfl,D,y⟩;generalize fO s ⟨2,i,d,m⟩=p at HE EN D⊢;obtain⟨ea,el,ec,eb,em,ed,rfl,P,Q,A⟩:=B.o.fin HE.o D y;obtain⟨f0,f1,f2,f3,f4,f5⟩:=P.rf;have E:=af Q;have l:=af A;rw[EN.o,aa.o]at E l⊢;clear D P Q A y x0 x1 x2;go_wp2;exact az (lz (p:=4) (q:=5) rfl _ _ (z+1+1) _ _ _ rfl E.o) rfl l.o
    ·have cj:(f==2)=iF:=by simpa using k2
     have CA:=af (sG va C vc ad T cap nx s.fV i wb (by omega) (HV.o.below B.o.2.1))
     unfold eA at CA;go_wp2_with fail;refine CA.o.mono ?_;rintro e wc ⟨rfl,bc⟩;have EV:=af (B.o.on bc);clear B bc CA x0 x1 x2 U Z y2 y3;have B:=af EV.o;clear EV;obtain⟨U,Z,y2,y3⟩:=B.o.rc;simp only at U Z y2 y3;have av:ah (aX s ⟨f,i,d,m⟩=match bw s.fV i with
      |none=>(s,iF)
      |some k=>if m=1000000000 then(s,iF)else if f=3 then(zF s k,iV)else(pD s k ((s.fV[k]?).getD (0,0)) ⟨f,i,d,m⟩,iV)):=by
      show _=_;rw[aX,ak aE.o,ai k1,ai k2];rfl
     cases ao:bw s.fV i with
     |none=>
      have HN:ah (aX s ⟨f,i,d,m⟩=(s,iF)):=by show _=_;rw[av.o,ao]
      simp only[js];clear hR av;obtain⟨x0,x1,x2⟩:=B.o.sc;go_wp2_with fail;refine(mF (SI.o _ B.o.2.1)).mono ?_;rintro e wn ⟨u,rfl,D,y⟩;obtain⟨ea,el,ec,eb,em,ed,rfl,P,Q,A⟩:=B.o.fin HN.o D y;obtain⟨f0,f1,f2,f3,f4,f5⟩:=P.rf;have E:=af Q;have l:=af A;rw[aa.o]at E l⊢;clear D P Q A y x0 x1 x2;go_wp2;exact az (lz (p:=4) (q:=5) rfl _ _ (z+1+1) _ _ _ rfl E.o) rfl l.o
     |some k=>
      have bi:=af ao;obtain⟨v,hv,bv⟩:=om ao;have cf:k<C:=by have:=(aC.1 hv).1;have:=ab.o;omega
      have an:=af hv;have kn:¬((k:Int)<0):=by omega
      simp only[js];by_cases hc:m=1000000000
      ·have HN:ah (aX s ⟨f,i,d,m⟩=(s,iF)):=by show _=_;rw[av.o,ao];simp only;rw[ak hc]
       have bU:(m==1000000000)=iV:=by simpa using hc
       clear hR av ao hv bv;obtain⟨x0,x1,x2⟩:=B.o.sc;go_wp2_with fail;refine(mF (SI.o _ B.o.2.1)).mono ?_;rintro e wn ⟨u,rfl,D,y⟩;obtain⟨ea,el,ec,eb,em,ed,rfl,P,Q,A⟩:=B.o.fin HN.o D y;obtain⟨f0,f1,f2,f3,f4,f5⟩:=P.rf;have E:=af Q;have l:=af A;rw[aa.o]at E l⊢;clear D P Q A y x0 x1 x2;go_wp2;exact az (lz (p:=4) (q:=5) rfl _ _ (z+1+1) _ _ _ rfl E.o) rfl l.o
      ·have HC:=af hc;have bU:(m==1000000000)=iF:=by simpa using hc
       obtain⟨vb,vo,b5,-⟩:=(HV.o.below B.o.2.1).at hv;subst b5;obtain⟨x0,x1,x2⟩:=B.o.sc;have bM:ah s.Fit:=(SI.o _ B.o.2.1).fit;clear ao hv bv;go_wp2_with fail;refine(mF (SI.o _ B.o.2.1)).mono ?_;rintro e wd ⟨u,rfl,D,-⟩;have bh:=af B.o;have bJ:=af D.blw;have EV:=af (B.o.on D.blw);have aD:ah (wc.heap.size<=wd.heap.size):=D.blw.size;have bK:ah (z+1+1<wc.heap.size):=B.o.lt;clear B x0 x1 x2 U Z y2 y3;have B:=af EV.o;clear EV;obtain⟨vv,kv,lo1,hi1,lo2,hi2,rfl,al,aU,bY,bZ,bz,bA,-,-⟩:=D;obtain⟨ua,uc,rfl,bu⟩:=al.form;obtain⟨g,rfl,bV,bW⟩:=bu (by have:=ab.o;omega)
       obtain⟨ub,ud,rfl⟩:=aU.form;obtain⟨um,bg⟩:=aq s.fK.length;rw[bg]at aU⊢;rw[ab.o]at al⊢;have bL:=af al.flt;have a5:ah (g<wd.heap.size):=by show _<_;omega
       have bl:ah (wc.heap.size<=g):=by show _<=_;omega
       have bm:=af aU;have b9:=af bz;have bN:=af bA;have ca:=af bg;rw[aa.o];clear aU bY bZ bz bA bu al bV bW bg;have BO:=af (aT wd (iC #[Y (X ⟨g,0,O⟩) C uc,Y ub um ud,I J nx] 32));have RO:=af (aB wd (iC #[Y (X ⟨g,0,O⟩) C uc,Y ub um ud,I J nx] 32));have ZO:ah ((wd.alloc (iC #[Y (X ⟨g,0,O⟩) C uc,Y ub um ud,I J nx] 32)).heap.size=wd.heap.size+1):=by show _=_;simp
       have EO:=af (B.o.on BO.o);obtain⟨x0,x1,x2⟩:=EO.o.sc;obtain⟨U,Z,y2,y3⟩:=EO.o.rc;simp only at U Z y2 y3;by_cases k3:f=3
       ·subst k3;clear hR;go_upto_region 16 with fail
        clear x0 x1 x2 U Z y2 y3;generalize wd.alloc (iC #[Y (X ⟨g,0,O⟩) C uc,Y ub um ud,I J nx] 32)=t at BO RO ZO EO⊢;obtain⟨zb,ag⟩:=aq wd.heap.size;rw[ag]at RO ZO⊢;have ac:=af ag;clear ag;have TT:ah (∀W:iW,(Instr.slice 27 (Y (X ⟨vb,vo,O⟩) C vc) O (X (I J (k:Int))) O).run Tryz.prog W=.ok (Y (X ⟨vb,vo,O⟩) k vc) W):=λW=>PT _ C vc k W (by have:=bj.o;omega)
        obtain⟨xa,ap⟩:=aq ((if vc=k+1 then X (⟨vb,vo,O⟩:Addr)else X ⟨vb,vo+(k+1)*2,O⟩))
        have TD:ah (∀W:iW,(Instr.slice 27 (Y (X ⟨vb,vo,O⟩) C vc) (X (I J ((k:Int)+1))) O O).run Tryz.prog W=.ok (Y xa (C-(k+1)) (vc-(k+1))) W):=λW=>by
         have:=X9 vb vo C vc (k+1) W (by omega)
         rw[ap]at this;exact this
        have br:ah (∀W,iL t.heap.size t W->qz W (Y (X ⟨vb,vo,O⟩) k vc) (s.fV.take k)):=λW H=>by
         have e:(s.fV.take k).length=k:=by rw[cD];have:=ab.o;omega
         have:=(HV.o.below (EO.o.on H).2.1).takeV (k:=k) (by omega)
         exact⟨_,vc,by rw[e],(λh=>by cases h),by rw[e];exact this⟩
        have bq:ah (∀W,iL t.heap.size t W->qz W (Y xa (C-(k+1)) (vc-(k+1))) (s.fV.drop (k+1))):=λW H=>by
         have e:(s.fV.drop (k+1)).length=C-(k+1):=by rw[iz];have:=ab.o;omega
         have:=(HV.o.below (EO.o.on H).2.1).dropV bj.o (j:=k+1) (by omega)
         rw[ap]at this;exact⟨xa,vc-(k+1),by rw[e],(λh=>by rw[h]at ap;split at ap<;>cases ap),by rw[e];exact this⟩
        have LT:ah ((s.fV.take k).length=k):=by show _=_;rw[cD];have:=ab.o;omega
        have LD:ah ((s.fV.drop (k+1)).length=C-(k+1)):=by show _=_;rw[iz];have:=ab.o;omega
        have BD:ah (iL t.heap.size t t.drew):=(ax _ _).drew;have ar:ah (iL t.heap.size t (t.alloc (iC #[] 66)).drew):=(aZ).drew;have OE:ah ((t.alloc (iC #[] 66)).drew.ownsRow t.heap.size 66 2 (Y (X ⟨t.heap.size,0,O⟩) 0 0) 0 []):=⟨rfl,.inr ⟨t.heap.size,0,#[],rfl,am _,aB t _,am _,by unfold maxLen;omega,rfl,rfl⟩⟩
        have a7:=af ar.o.size;have KK:ah (∀W,iL t.heap.size t W->W.cell? ⟨z,0,O⟩=X (Y (X ⟨vb,vo,O⟩) C vc)):=λW H=>(EO.o.on H).sc.1
        have wk:IntKind.i64.wrap ((k:Int)+1)=(k:Int)+1:=by rw[cm];omega
        clear ap;have tt:=TT.o;have td:=TD.o;refine zO 13 (S:=λw'=>w'.cell? ⟨z,0,O⟩=X (Y (X ⟨vb,vo,O⟩) C vc)) (by kernel_rfl) rfl (by kernel_rfl) (KK.o _ BD.o) (λhHeld=>?_)
        simp only[Fa,As,aW,dW,Nat.reduceAdd];refine aH 1 ?_;refine aH 2 ?_;refine aH 3 ?_;refine aH 4 ?_;refine aH 6 ?_;refine aH 7 ?_;refine aH 8 ?_;refine aH 9 ?_;refine aH 10 ?_;refine dL 0 rfl (by kernel_rfl) (λK hK=>?_)
        go_simp;refine hK.out _ _ (KK.o _ ar.o) (λhHeld2=>?_)
        clear hK K hHeld;have hHeld:=hHeld2;clear hHeld2
        (try simp only[Act.put,cT,cA,ce])
        refine dL 5 rfl (by kernel_rfl) (λK hK=>?_)
        refine sj _ (by rfl) (.tmp 56) (.tmp 60) (by rfl) t.heap.size i0 I0.o Y0.o Y1.o Y2.o _ 0 [] (by simp[Act.eval]) OE.o (s.fV.take k) k LT.o _ (by simp[Act.eval]) (br.o _ ar.o) (by unfold maxLen;omega) (by omega) a7.o ?_
        intro v1 w1 o1 g1;rw[jT,eC]at o1;have B1:ah (iL t.heap.size t w1):=ar.o.grown g1 a7.o (λq hq=>(OE.o.lt q hq).1)
        have O1:=af o1;have a8:=af B1.o.size;clear o1 g1;refine hK.out _ _ (KK.o _ B1.o) (λhHeld2=>?_)
        clear hK K hHeld;have hHeld:=hHeld2;clear hHeld2
        (try simp only[Act.put,cT,cA,ce])
        refine dL 11 rfl (by kernel_rfl) (λK hK=>?_)
        refine sj _ (by rfl) (.tmp 61) (.tmp 66) (by rfl) t.heap.size i0 I0.o Y0.o Y1.o Y2.o _ k (ct (s.fV.take k)) (by simp[Act.eval]) O1.o (s.fV.drop (k+1)) (C-(k+1)) LD.o _ (by simp[Act.eval]) (bq.o _ B1.o) (by unfold maxLen;omega) (by omega) a8.o ?_
        intro v2 w2 o2 g2;rw[<-Mw]at o2;obtain⟨ln,be⟩:=aq (k+(C-(k+1)));rw[be]at o2;have bQ:=af be;clear be;have B2:ah (iL t.heap.size t w2):=B1.o.grown g2 a8.o (λq hq=>(O1.o.lt q hq).1)
        obtain⟨la,lc,b4,-⟩:=(aG.of o2).form;subst b4;have O2:=af o2;clear o2 g2;refine hK.out _ _ (KK.o _ B2.o) (λhHeld2=>?_)
        clear hK K hHeld;have hHeld:=hHeld2;clear hHeld2
        (try simp only[Act.put,cT,cA,ce])
        refine aH 12 ?_;refine pz (by kernel_rfl) (D7 ?_)
        clear hHeld;have ZL:ah (zb<t.heap.size):=by have:=ZO.o;show _<_;omega
        have R7:ah (w2.heap[zb]?=X (iC #[Y (X ⟨g,0,O⟩) C uc,Y ub um ud,I J nx] 32 (0,0))):=(B2.o.block zb ZL.o).trans RO.o;have p0:=aj _ _ 0 _ _ _ R7.o;have pf:=aF _ _ 0 _ _ R7.o;have R8:ah ((w2.setCell ⟨zb,0,O⟩ (Y la (ln) lc)).heap[zb]?=X (iC #[Y la (ln) lc,Y ub um ud,I J nx] 32 (0,0))):=bo _ _ 0 _ _ _ R7.o;have NL:ah ((s.fV.take k++s.fV.drop (k+1)).length=ln):=by show _=_;rw[aI,LT.o,LD.o];exact bQ.o
        have BV:ah (iL wd.heap.size wd (w2.setCell ⟨zb,0,O⟩ (Y la (ln) lc))):=(BO.o.trans (B2.o.mono BO.o.size)).setCell (p:=⟨zb,0,O⟩) (by rw[ac.o];exact am _) _
        have EV:=af (B.o.on BV.o);have ae:ah (dK (w2.setCell ⟨zb,0,O⟩ (Y la (ln) lc)) (iA #[Y la (ln) lc,Y ub um ud,I J nx]) ⟨s.fV.take k++s.fV.drop (k+1),s.fK,s.next⟩):=by
         have hS:=aG.of O2.o;rw[<-NL.o]at hS;have a1:=ZL.o;have a2:=B2.o.size;have a3:=ZO.o;have a4:=bN.o;have a6:=ac.o;have b1:(w2.setCell ⟨zb,0,O⟩ (Y la (ln) lc)).heap.size=w2.heap.size:=by simp[World.setCell]
         rw[<-aa.o];refine eJ.rd (lo:=0) (zb:=zb) (s:=⟨s.fV.take k++s.fV.drop (k+1),s.fK,s.next⟩) ⟨_,_,t.heap.size,w2.heap.size,lo2,hi2,rfl,?_,?_,⟨aJ _,.inr a1⟩,⟨aJ _,.inl (by omega)⟩,by omega,by omega,.inr (by omega)⟩ (abh bM.o k)
         ·rw[NL.o]at hS⊢;exact aG.loc _ _ _ _ _ _ w2 _ (λg g1 g2=>aO _ _ _ _ (show g≠zb by omega)) hS
         ·exact dB.loc _ _ _ _ wd _ (λg g1 g2=>(aO _ _ _ _ (show g≠zb by omega)).trans ((B2.o.block g (by omega)).trans (BO.o.block g (by omega)))) bm.o
        have HE:ah (aX s ⟨3,i,d,m⟩=(hO ⟨s.fV.take k++s.fV.drop (k+1),s.fK,s.next⟩,iV)):=by
         show _=_;rw[aX,ak aE.o,ai (show¬(3:Int)=1 by decide),ai (show¬(3:Int)=2 by decide)]
         simp only;rw[bi.o];simp only;rw[ai HC.o,ak trivial];rfl
        clear O1 O2 OE B1 br bq TT TD KK BD ar a7 a8 LT LD NL bm tt td wk;go_upto_region 17 with fail
        clear p0 pf R7;generalize w2.setCell ⟨zb,0,O⟩ (Y la (ln) lc)=V at R8 EV ae BV⊢;have q0:=aj _ _ 0 _ _ _ R8.o;have q1:=aj _ _ 1 _ _ _ R8.o;have q2:=aj _ _ 2 _ _ _ R8.o;go_wp2_with fail;refine(Aw _ _ _ ae.o).mono ?_;rintro e wn ⟨u,rfl,D,y⟩;obtain⟨ea,el,ec,eb,em,ed,rfl,P,Q,A⟩:=EV.o.fin HE.o D y;obtain⟨f0,f1,f2,f3,f4,f5⟩:=P.rf;have E:=af Q;have l:=af A;have en:(hO ⟨s.fV.take k++s.fV.drop (k+1),s.fK,s.next⟩).next=nx:=aa.o;rw[en]at E l⊢;clear D P Q A y q0 q1 q2 en;go_wp2;exact az (lz (p:=4) (q:=5) rfl _ _ (z+1+1) _ _ _ rfl E.o) rfl l.o
       ·have ck:(f==3)=iF:=by simpa using k3
        have bR:=af ((FX f i d m).1 hR);go_upto_region 18 with fail
        clear x0 x1 x2 U Z y2 y3;generalize wd.alloc (iC #[Y (X ⟨g,0,O⟩) C uc,Y ub um ud,I J nx] 32)=t at BO RO ZO EO⊢;obtain⟨zb,ag⟩:=aq wd.heap.size;rw[ag]at RO ZO⊢;have ac:=af ag;clear ag hR;obtain⟨L,hL⟩:=aq (gN s.fK v.2 d m);obtain⟨R,bs⟩:=aq (jM s.fK v.2 d m);have HL:=af hL;have HR:=af bs;clear hL bs;have CP:ah (∀W,iL t.heap.size t W->iK Tryz.prog 90 #[iA #[Y ad T cap],I J v.2,I J d,I J m] W λe w'=>∃F N M,e=G (iU #[iA #[Y F N M],I J R])/\ah (pj W L (iA #[Y F N M]) w')/\ah (iL t.heap.size t w')/\ah (iL W.heap.size W w')):=λW H=>by
         refine(Tn ad T cap rs v.2 d m W (by omega) bP.o (HK.o.below (EO.o.on H).2.1)).mono ?_
         rintro e w' ⟨u,rfl,D⟩;rw[<-bn.o,HL.o]at D;rw[<-bn.o,HR.o];have b2:=D;obtain⟨uv,ss,rfl,b3,-,hb⟩:=D;obtain⟨F,M,rfl⟩:=b3.form;exact⟨F,_,M,rfl,b2,H.trans (hb.mono H.size),hb⟩
        obtain⟨x0,x1,x2⟩:=EO.o.sc;obtain⟨U,Z,y2,y3⟩:=EO.o.rc;simp only at U Z y2 y3;have c1:t.cell? ⟨vb,vo+k*2+1,O⟩=X (I J v.2):=by
         obtain⟨b',b8,e,-,-,c1⟩:=(HV.o.below EO.o.2.1).at an.o;injection e with e
         injection e with e1 e2
         subst e1 e2;exact c1
        have bT:ah (vb<t.heap.size):=bk t _ c1;have KK:ah (∀W,iL t.heap.size t W->W.cell? ⟨z,0,O⟩=X (Y (X ⟨vb,vo,O⟩) C vc)/\W.cell? ⟨z,1,O⟩=X (Y ad T cap)/\W.cell? ⟨vb,vo+k*2+1,O⟩=X (I J v.2)/\W.cell? ⟨z+1,2,O⟩=X (I J d)/\W.cell? ⟨z+1,3,O⟩=X (I J m)):=λW H=>by
         have h1:=(EO.o.on H).sc;have h2:=(EO.o.on H).rc;exact⟨h1.1,h1.2.1,(H.cell (show vb<t.heap.size from bT.o)).trans c1,h2.2.2.1,h2.2.2.2⟩
        have aQ:ah (iL t.heap.size t t.drew):=(ax _ _).drew;have a9:ah (iL t.heap.size t (t.alloc (iC #[Y O 0 0] 30)).drew):=(aZ).drew;go_cut [9,10] (λs9 b7 V=>b7=I J R/\∃(c:Nat) (F:Option Addr) (N M:Nat),s9=iP (X ⟨c,0,O⟩)/\ah (rW t V c (Y F N M) L))
        case first=>
         go_region_held3 (λw'=>w'.cell? ⟨z,0,O⟩=X (Y (X ⟨vb,vo,O⟩) C vc)/\w'.cell? ⟨z,1,O⟩=X (Y ad T cap)/\w'.cell? ⟨vb,vo+k*2+1,O⟩=X (I J v.2)/\w'.cell? ⟨z+1,2,O⟩=X (I J d)/\w'.cell? ⟨z+1,3,O⟩=X (I J m)) (first|exact KK.o _ aQ.o|exact KK.o _ a9.o|exact KK.o _ S3.o|exact KK.o _ (S3.o.alloc S3.o.size _)|exact KK.o _ (S3.o.setCell (am _) _)) (first
          |(go_at_call 90;(with_reducible refine cn (CP.o _ (by first|exact aQ.o|exact a9.o)) ?_);rintro en x3 ⟨F,N,M,rfl,U3,S3,N3⟩;(try(have nc:ah (x3.heap[t.heap.size]?=X (iC #[Y O 0 0] 30 (0,0))):=(N3.o.block _ (by simp)).trans (show(t.alloc (iC #[Y O 0 0] 30)).drew.heap[t.heap.size]?=_ from aB t _);have kc:=aj _ _ 0 _ _ _ nc.o;have kf:=aF _ _ 0 _ _ nc.o))))
         all_goals
          go_wp2_with fail;go_meet
          case rel=>first
           |exact⟨rfl,_,F,N,M,rfl,rW.behind U3.o S3.o aQ.o.size⟩
           |exact⟨rfl,_,F,N,M,rfl,rW.ahead U3.o S3.o ⟨am _,by simp⟩ nc.o⟩
        case rest=>
         obtain⟨bE,c,F,N,M,b0,PV⟩:=hcut;subst b0 bE;obtain⟨V,hV⟩:∃V,V=wc:=⟨_,rfl⟩;subst hV;clear CP aQ a9 KK x0 x1 x2 U Z y2 y3 c1;have ZL:ah (zb<t.heap.size):=by have:=ZO.o;show _<_;omega
         have EU:=af (EO.o.on PV.o.2.1);have R6:ah (V.heap[zb]?=X (iC #[Y (X ⟨g,0,O⟩) C uc,Y ub um ud,I J nx] 32 (0,0))):=(PV.o.2.1.block zb ZL.o).trans RO.o;have c0:=aj _ _ 0 _ _ _ PV.o.1;have p0:=aj _ _ 0 _ _ _ R6.o;have p1:=aj _ _ 1 _ _ _ R6.o;have p2:=aj _ _ 2 _ _ _ R6.o;have pf:=aF _ _ 1 _ _ R6.o;have b6:=aF _ _ 2 _ _ R6.o;obtain⟨U,Z,y2,y3⟩:=EU.o.rc;simp only at U Z y2 y3;have HF:ah (aP 66 g (ct s.fV) V):=bL.o.below (BO.o.trans (PV.o.2.1.mono BO.o.size));have gc:V.cell? ⟨g,k*2+1,O⟩=X (I J v.2):=HF.o.cell (uy _ k v an.o 1 _ rfl);have gf:V.frozen? ⟨g,k*2+1,O⟩=iF:=HF.o.frozen _;have k0:(0:Int)<=k:=by omega
         have kl:(k:Int)<C:=by omega
         have DN:ah (g≠zb/\z+1≠zb/\z+1≠g/\zb≠g):=by
          have h1:=a5.o;have h2:=bl.o;have h3:=B.o.lt;have h4:=ac.o;have h5:=aD.o;have h6:=bK.o;refine⟨?_,?_,?_,?_⟩<;>omega
         have R7:ah ((V.setCell ⟨zb,1,O⟩ (Y F N M)).heap[zb]?=X (iC #[Y (X ⟨g,0,O⟩) C uc,Y F N M,I J nx] 32 (0,0))):=dz R6.o 1 _;have F1:ah (aP 66 g (ct s.fV) (V.setCell ⟨zb,1,O⟩ (Y F N M))):=aP.loc _ _ _ V _ (λq q1 q2=>aO _ _ _ _ (show q≠zb by have:=DN.o.1;omega)) HF.o
         go_upto_region 20 with fail
         obtain⟨V1,bd⟩:=aq (V.setCell ⟨zb,1,O⟩ (Y F N M));rw[bd]at R7 F1⊢;have bp:=af bd;clear bd gc gf p0 p1 p2 pf b6 c0;have p0:=aj _ _ 0 _ _ _ R7.o;have gc:V1.cell? ⟨g,k*2+1,O⟩=X (I J v.2):=F1.o.cell (uy _ k v an.o 1 _ rfl);have gf:V1.frozen? ⟨g,k*2+1,O⟩=iF:=F1.o.frozen _;clear U Z y2 y3;go_upto_region 21 with fail
         rw[<-bp.o];have Q7:ah (((V.setCell ⟨zb,1,O⟩ (Y F N M)).setCell ⟨g,k*2+1,O⟩ (I J R)).heap[zb]?=X (iC #[Y (X ⟨g,0,O⟩) C uc,Y F N M,I J nx] 32 (0,0))):=cX (dz R6.o 1 _) DN.o.2.2.2 _ _;have aA:ah (aP 66 g (ct (s.fV.set k (v.1,R))) ((V.setCell ⟨zb,1,O⟩ (Y F N M)).setCell ⟨g,k*2+1,O⟩ (I J R))):=by
          have h1:aP 66 g (ct s.fV) (V.setCell ⟨zb,1,O⟩ (Y F N M)):=aP.loc _ _ _ V _ (λq q1 q2=>aO _ _ _ _ (show q≠zb by have:=DN.o.1;omega)) HF.o
          have h2:=h1.set (k*2+1) (I J R);rw[F9 an.o]at h2;exact h2
         have au:ah (iL wc.heap.size wc ((V.setCell ⟨zb,1,O⟩ (Y F N M)).setCell ⟨g,k*2+1,O⟩ (I J R))):=by
          have a1:=bl.o;have a2:=aD.o;have a3:=ac.o;have b1:=bJ.o.trans ((BO.o.trans (PV.o.2.1.mono BO.o.size)).mono aD.o);exact(b1.setCell (p:=⟨zb,1,O⟩) (show wc.heap.size<=zb by omega) _).setCell (p:=⟨g,k*2+1,O⟩) (show wc.heap.size<=g by omega) _
         have aN:ah (∃lo hi,dB lo hi (Y F N M) L ((V.setCell ⟨zb,1,O⟩ (Y F N M)).setCell ⟨g,k*2+1,O⟩ (I J R))/\zb<lo/\hi<=((V.setCell ⟨zb,1,O⟩ (Y F N M)).setCell ⟨g,k*2+1,O⟩ (I J R)).heap.size):=by
          obtain⟨-,-,lo,hi,h1,h2,h3,-⟩:=PV.o;have hz:((V.setCell ⟨zb,1,O⟩ (Y F N M)).setCell ⟨g,k*2+1,O⟩ (I J R)).heap.size=V.heap.size:=by simp[World.setCell]
          have a1:=ZL.o;have a2:=a5.o;have a3:=ac.o;exact⟨lo,hi,dB.loc _ _ _ _ V _ (λq q1 q2=>(aO _ _ _ _ (show q≠g by omega)).trans (aO _ _ _ _ (show q≠zb by omega))) h1,by omega,by omega⟩
         generalize(V.setCell ⟨zb,1,O⟩ (Y F N M)).setCell ⟨g,k*2+1,O⟩ (I J R)=V2 at Q7 aA au aN⊢;clear p0 gc gf EU R6 HF PV R7 F1 bp;have GL:ah (g<zb/\zb<V2.heap.size):=by
          have a2:=a5.o;have a3:=ac.o;exact⟨by omega,(aK.1 Q7.o).1⟩
         have aw:ah ((0<=d/\d<=15)/\0<=m/\m<1000000000):=by
          have h1:=bR.o;have h2:=HC.o;show _/\_;omega
         have aR:ah (∀(n:Int) (V3:iW),(∀q,q≠zb->V3.heap[q]?=V2.heap[q]?)->V3.heap.size=V2.heap.size->dK V3 (iA #[Y (X ⟨g,0,O⟩) C uc,Y F N M,I J n]) ⟨s.fV.set k (v.1,R),L,n⟩):=λn V3 hq hz=>by
          obtain⟨lo,hi,h1,h2,h3⟩:=aN.o;have a1:=GL.o;have bC:(s.fV.set k (v.1,R)).length=C:=by rw[gK];exact ab.o
          refine eJ.rd (lo:=0) (zb:=zb) (s:=⟨s.fV.set k (v.1,R),L,n⟩) ⟨_,_,g,g+1,lo,hi,rfl,?_,?_,⟨aJ _,.inl (by omega)⟩,⟨aJ _,.inr h2⟩,by omega,by omega,.inl (by omega)⟩ ?_
          ·refine .inr ⟨g,uc,by rw[bC],am _,by omega,?_⟩
           exact aP.loc _ _ _ V2 _ (λq q1 q2=>hq q (by omega)) aA.o
          ·exact dB.loc _ _ _ _ V2 _ (λq q1 q2=>hq q (by omega)) h1
          ·have:=Qb bS.o an.o aw.o.1 aw.o.2.1 (v.1,R) n;rw[HL.o]at this;exact this
         have aL:ah (aX s ⟨f,i,d,m⟩=(hO ⟨s.fV.set k (v.1,R),L,if nx<=m then m+1 else nx⟩,iV)):=by
          show _=_;rw[av.o,bi.o];simp only;rw[ai HC.o,ai k3,an.o,oo,pD];simp only;rw[HL.o,HR.o,aa.o]
         have q0:=aj _ _ 0 _ _ _ Q7.o;have q1:=aj _ _ 1 _ _ _ Q7.o;have q2:=aj _ _ 2 _ _ _ Q7.o;have qf:=aF _ _ 2 _ _ Q7.o;have ay:=af (bh.o.on au.o);obtain⟨U,Z,y2,y3⟩:=ay.o.rc;simp only at U Z y2 y3;have cg:=aw.o;by_cases aS:nx<=m
         ·have cl:IntKind.i64.wrap (m+1)=m+1:=by rw[cm];omega
          have bX:m≥nx:=aS;have R8:ah ((V2.setCell ⟨zb,2,O⟩ (I J (m+1))).heap[zb]?=X (iC #[Y (X ⟨g,0,O⟩) C uc,Y F N M,I J (m+1)] 32 (0,0))):=bo _ _ 2 _ _ _ Q7.o;have ae:=af (aR.o (m+1) (V2.setCell ⟨zb,2,O⟩ (I J (m+1))) (λq hq=>aO _ _ _ _ hq) (by simp[World.setCell]))
          have EV:ah (jl w (V2.setCell ⟨zb,2,O⟩ (I J (m+1))) z (Y (X ⟨vb,vo,O⟩) C vc) (Y ad T cap) (I J nx) ⟨f,i,d,m⟩):=bh.o.on (au.o.setCell (p:=⟨zb,2,O⟩) (by have:=ac.o;have:=aD.o;show wc.heap.size<=zb;omega) _)
          have HE:ah (aX s ⟨f,i,d,m⟩=(hO ⟨s.fV.set k (v.1,R),L,m+1⟩,iV)):=by
           have:=aL.o;rw[ak aS]at this;exact this
          clear aL aR aN aA au ay aw;go_upto_region 23 with fail
          clear q0 q1 q2 qf U Z y2 y3;generalize V2.setCell ⟨zb,2,O⟩ (I J (m+1))=V3 at R8 ae EV⊢;have q0:=aj _ _ 0 _ _ _ R8.o;have q1:=aj _ _ 1 _ _ _ R8.o;have q2:=aj _ _ 2 _ _ _ R8.o;go_wp2_with fail;refine(Aw _ _ _ ae.o).mono ?_;rintro e wn ⟨u,rfl,D,y⟩;obtain⟨ea,el,ec,eb,em,ed,rfl,P,Q,A⟩:=EV.o.fin HE.o D y;obtain⟨f0,f1,f2,f3,f4,f5⟩:=P.rf;have E:=af Q;have l:=af A;have en:(hO ⟨s.fV.set k (v.1,R),L,m+1⟩).next=m+1:=rfl;rw[en]at E l⊢;clear D P Q A y q0 q1 q2 en;go_wp2;exact az (lz (p:=4) (q:=5) rfl _ _ (z+1+1) _ _ _ rfl E.o) rfl l.o
         ·have bX:¬(m≥nx):=aS;have R8:=Q7;have ae:=af (aR.o nx V2 (λq hq=>rfl) rfl)
          have EV:=ay;have HE:ah (aX s ⟨f,i,d,m⟩=(hO ⟨s.fV.set k (v.1,R),L,nx⟩,iV)):=by
           have:=aL.o;rw[ai aS]at this;exact this
          clear aL aR aN aA au aw ay;go_upto_region 23 with fail
          clear q0 q1 q2 qf U Z y2 y3;have q0:=aj _ _ 0 _ _ _ R8.o;have q1:=aj _ _ 1 _ _ _ R8.o;have q2:=aj _ _ 2 _ _ _ R8.o;go_wp2_with fail;refine(Aw _ _ _ ae.o).mono ?_;rintro e wn ⟨u,rfl,D,y⟩;obtain⟨ea,el,ec,eb,em,ed,rfl,P,Q,A⟩:=EV.o.fin HE.o D y;obtain⟨f0,f1,f2,f3,f4,f5⟩:=P.rf;have E:=af Q;have l:=af A;have en:(hO ⟨s.fV.set k (v.1,R),L,nx⟩).next=nx:=rfl;rw[en]at E l⊢;clear D P Q A y q0 q1 q2 en;go_wp2;exact az (lz (p:=4) (q:=5) rfl _ _ (z+1+1) _ _ _ rfl E.o) rfl l.o
  ·rw[eM hR];have HN:ah (aX s ⟨f,i,d,m⟩=(s,iF)):=by show _=_;rw[aX,ai (λq=>hR q.2)]
   clear hR;obtain⟨x0,x1,x2⟩:=B.o.sc;go_wp2_with fail;refine(mF (SI.o _ B.o.2.1)).mono ?_;rintro e wn ⟨u,rfl,D,y⟩;obtain⟨ea,el,ec,eb,em,ed,rfl,P,Q,A⟩:=B.o.fin HN.o D y;obtain⟨f0,f1,f2,f3,f4,f5⟩:=P.rf;have E:=af Q;have l:=af A;rw[aa.o]at E l⊢;clear D P Q A y x0 x1 x2;go_wp2;exact az (lz (p:=4) (q:=5) rfl _ _ (z+1+1) _ _ _ rfl E.o) rfl l.o
 ·have bt:dl s=iF:=by simpa using hb
  rw[bt];have HN:ah (aX s ⟨f,i,d,m⟩=(s,iF)):=by show _=_;rw[aX,ai (λq=>hb q.1)]
  clear hb bt;obtain⟨x0,x1,x2⟩:=B.o.sc;go_wp2_with fail;refine(mF (SI.o _ B.o.2.1)).mono ?_;rintro e wn ⟨u,rfl,D,y⟩;obtain⟨ea,el,ec,eb,em,ed,rfl,P,Q,A⟩:=B.o.fin HN.o D y;obtain⟨f0,f1,f2,f3,f4,f5⟩:=P.rf;have E:=af Q;have l:=af A;rw[aa.o]at E l⊢;clear D P Q A y x0 x1 x2;go_wp2;exact az (lz (p:=4) (q:=5) rfl _ _ (z+1+1) _ _ _ rfl E.o) rfl l.o
theorem Mo {p q:Tmp} (h:fn.results= #[.cell p 32,.tmp q]) (d:Array iX) (w:iW) (g:Nat) (a b c:iX)
 (j:d.getD p undef=iP (X ⟨g,0,O⟩)) (f:w.heap[g]?=X (iC #[a,b,c] 32 (0,0))):
 (results fn d).run Tryz.prog w=.ok (iU #[iA #[a,b,c],d.getD q undef]) w:=by
 have e:d[p]?.getD undef=iP (X ⟨g,0,O⟩):=by simpa using j
 have i:=lL (P:=Tryz.prog) w g 32 32 #[a,b,c] (0,0) _ f Tryz.underlying32 rfl uf;simp[results,h,e,asAddr,i]
def oV(w V:iW)(z zb:Nat)(c d e a b:iX)(t:Sto):Prop:=
 iL w.heap.size w V/\V.heap[z]?=X (iC #[c,d,e] 32 (0,0))/\V.heap[z+1]?=X (iC #[Y O 0 0,Y O 0 0,I J 0] 32 (0,0))/\V.heap[zb]?=X (iC #[a,b,I J t.next] 32 (0,0))/\eJ (z+2) zb (iA #[a,b,I J t.next]) t V/\t.Fit/\(w.heap.size=z/\z+2<=zb)
theorem oV.below{w V d:iW}{g i j a b:iX}{t:Sto}(h:oV w V z zb g i j a b t)(c:iL V.heap.size V d):oV w d z zb g i j a b t:=by
 obtain⟨h1,e,f,h4,k,l,m⟩:=h;have n:=(aK.1 e).1;have o:=(aK.1 f).1;have p:=(aK.1 h4).1;exact⟨h1.trans (c.mono h1.size),(c.block _ n).trans e,(c.block _ o).trans f,(c.block _ p).trans h4,k.below c,l,m⟩
theorem Hr{a:Option Addr}{c:Nat}{k x:iX}(h:mX (iA #[Y a n c,k,x])):n<=c:=by
 obtain⟨b,g,c',f,i,e,d⟩:=h;injection e with e
 injection e with e
 simp only[gE,iy]at e;obtain⟨e,-⟩:=e;injection e with e1 e2 e3
 omega
theorem Fx{w a c:iW}(h:iL B w a)(d:B<=a.heap.size)(b:iL a.heap.size a c):iL B w c:=h.trans (b.mono d)
theorem Bs{w W:iW}{c:Nat}(h:iL B w W)(e:B<=c)(a b d:iX):iL B w (((W.setCell ⟨c,0,O⟩ a).setCell ⟨c,1,O⟩ b).setCell ⟨c,2,O⟩ d):=((h.setCell (p:=⟨c,0,O⟩) e a).setCell (p:=⟨c,1,O⟩) e b).setCell (p:=⟨c,2,O⟩) e d
def rM(d V:iW)(c:Nat)(a b:iX)(t:Sto):Prop:=V.heap[c]?=X (iC #[a,b,I J t.next] 32 (0,0))/\eJ d.heap.size c (iA #[a,b,I J t.next]) t V/\iL d.heap.size d V/\mX (iA #[a,b,I J t.next])
theorem rM.late{c W V:iW}{a b:iX}{t:Sto}(d:iL c.heap.size c V)(f:fI W t (iA #[a,b,I J t.next]) V)(h:c.heap.size<=W.heap.size)(e:mX (iA #[a,b,I J t.next])):rM c (V.alloc (iC #[a,b,I J t.next] 32)) V.heap.size a b t:=
 ⟨aB V _,(eJ.of f h (.inr (am _))).below (aZ),d.alloc d.size _,e⟩
theorem rM.early{d W V:iW}{c:Nat}{a b i j k:iX}{t:Sto}(e:iL d.heap.size d V)(f:fI W t (iA #[a,b,I J t.next]) V)(h:V.heap[c]?=X (iC #[i,j,k] 32 (0,0)))(h0:d.heap.size<=c)(h1:c<W.heap.size)(g:mX (iA #[a,b,I J t.next])):rM d (((V.setCell ⟨c,0,O⟩ a).setCell ⟨c,1,O⟩ b).setCell ⟨c,2,O⟩ (I J t.next)) c a b t:=
 ⟨oS h,(eJ.of f (by omega) (.inl h1)).set.set.set,Bs e h0 _ _ _,g⟩
theorem oV.take{w V:iW}{c:Nat}{i j k a b d f:iX}{t t':Sto}(h:oV w V z zb i j k a b t)(o:eJ B c (iA #[d,f,I J t'.next]) t' V)(y:zb<B)(n:t'.Fit):oV w (((V.setCell ⟨zb,0,O⟩ d).setCell ⟨zb,1,O⟩ f).setCell ⟨zb,2,O⟩ (I J t'.next)) z zb i j k d f t':=by
 obtain⟨h1,l,m,h4,-,-,g⟩:=h;have p:=g.1;have q:=g.2;obtain⟨vv,kv,lo1,hi1,lo2,hi2,e,r,s,A,C,u,v,x⟩:=o;have hs:eJ (z+2) zb (iA #[d,f,I J t'.next]) t' V:=⟨vv,kv,lo1,hi1,lo2,hi2,e,r,s,⟨by omega,.inr (by omega)⟩,⟨by omega,.inr (by omega)⟩,u,v,x⟩
 exact⟨Bs h1 (by omega) _ _ _,cX (cX (cX l (by omega) _ _) (by omega) _ _) (by omega) _ _,cX (cX (cX m (by omega) _ _) (by omega) _ _) (by omega) _ _,oS h4,hs.set.set.set,n,g⟩
theorem Wg:Ot 24:=by
 intro v s la ln lc l w aR an hl;obtain⟨va,vl,vc,ad,C,cap,rs,ev,-⟩:=id an;have ae:=af an;have T0:=af (Tk.two w #[Y va vl vc,Y ad C cap,I J s.next] #[Y O 0 0,Y O 0 0,I J 0] 32 32);unfold eA at ev;rw[ev];rw[ev]at ae;obtain⟨nx,au⟩:=aq s.next;have N:=af au;rw[au]at T0 ae⊢;have HL:=af hl;have aD:=af (show l.length=ln by have:=hl.1;simpa using this)
 have aM:=af an.fit;clear an ev hl au;go_enter Tryz.func24,Tryz.ntmps24;go_wp2_with fail;generalize(w.alloc (iC #[Y va vl vc,Y ad C cap,I J nx] 32)).alloc (iC #[Y O 0 0,Y O 0 0,I J 0] 32)=w0 at T0⊢;have B0:=af T0.o.1;have XR:=af (T0.o.get 0 rfl);have X1:=af (T0.o.get 1 rfl);obtain⟨z,hz⟩:=aq w.heap.size;have ar:=af hz;rw[hz]at XR X1⊢;clear hz T0;have HZ:ah (z+1<w0.heap.size):=(aK.1 XR.o).1;refine(mF (ae.o.below B0.o)).mono ?_;rintro e w1 ⟨u,rfl,hu,ak⟩;obtain⟨ua,ul,uc,ub,um,ud,rfl⟩:=hu.form;rw[N.o];have B1:=af hu.blw;have aC:=af ak;rw[N.o]at aC;have ag:ah (oV w (w1.alloc (iC #[Y ua ul uc,Y ub um ud,I J nx] 32)) z w1.heap.size (Y va vl vc) (Y ad C cap) (I J nx) (Y ua ul uc) (Y ub um ud) s):=by
  have bb:=B0.o.trans (B1.o.mono B0.o.size);have n:=aT w1 (iC #[Y ua ul uc,Y ub um ud,I J nx] 32);have aV:=HZ.o;have aU:=B1.o.size;have aQ:=ar.o;refine⟨bb.trans (n.mono bb.size),(n.block z (by omega)).trans ((B1.o.block z (by omega)).trans X1.o),(n.block (z+1) (by omega)).trans ((B1.o.block (z+1) (by omega)).trans XR.o),by rw[N.o];exact aB w1 _,?_,aM.o,aQ,by omega⟩
  exact(eJ.of hu (by omega) (.inr (am _))).below n
 obtain⟨zb,aI⟩:=aq w1.heap.size;rw[aI]at ag;clear hu ak B1 XR X1;go_wp2_with fail;generalize w1.alloc (iC #[Y ua ul uc,Y ub um ud,I J nx] 32)=w2 at ag⊢;clear aI;go_loopw [7] (λkv V=>∃(k:Nat) (t:Sto) (T:Option Addr) (R Q:Nat) (n:Option Addr) (Z U:Nat),k<=ln/\kv=I J k/\ah (dY s (l.take k)=X t/\oV w V z zb (Y va vl vc) (Y ad C cap) (I J nx) (Y T R Q) (Y n Z U) t/\R<=Q)) (λkv _=>ln-(intOf kv).toNat)
 case atStart=>exact⟨0,s,ua,ul,uc,ub,um,ud,aJ _,rfl,by rw[xz,dY],ag.o,Hr aC.o⟩
 case round=>
  obtain⟨k,t,T,R,Q,n,Z,U,hk,rfl,y⟩:=hrel;clear ag;by_cases aS:(k:Int)<ln
  ·obtain⟨r,hr⟩:∃r,l[k]?=X r:=⟨_,ay (by have:=aD.o;omega)⟩
   obtain⟨b,j,e,hb,c0,c1,c2,c3⟩:=(HL.o.below y.o.2.1.1).at (show(l.map Rc.tu)[k]?=X r.tu by rw[bh,hr];rfl)
   subst e;have k0:(0:Int)<=k:=by omega
   have aE:=af hr;obtain⟨f,F,B,fC⟩:=r;simp only[Rc.tu]at c0 c1 c2 c3;obtain⟨tn,x⟩:=aq t.next;have aG:=af x;have d:=y.o.2.1.2.2.2.1;rw[x]at d;have ai:ah (zb<wr.heap.size):=(aK.1 d).1;have y0:=aj _ _ 0 _ _ _ d;have y1:=aj _ _ 1 _ _ _ d;have y2:=aj _ _ 2 _ _ _ d;have av:wr.cell? ⟨zb,0,O⟩=X (Y T R Q):=y0;have aw:wr.cell? ⟨zb,1,O⟩=X (Y n Z U):=y1;have aA:wr.cell? ⟨zb,2,O⟩=X (I J tn):=y2;obtain⟨S,ok,hE⟩:∃S ok,aX t ⟨f,F,B,fC⟩=(S,ok):=⟨_,_,rfl⟩;have ab:=af hE;have aL:ah S.Fit:=by
    have:=XH y.o.2.1.2.2.2.2.2.1 ⟨f,F,B,fC⟩;rw[hE]at this;exact this
   have CE:ah (∀W,iL wr.heap.size wr W->iK Tryz.prog 54 #[iA #[Y T R Q,Y n Z U,I J tn],iA #[I J f,I J F,I J B,I J fC]] W λe w'=>∃K E D pb M L,e=G (iU #[iA #[Y K E D,Y pb M L,I J S.next],iB ok])/\fI W S (iA #[Y K E D,Y pb M L,I J S.next]) w'/\mX (iA #[Y K E D,Y pb M L,I J S.next])):=λW H=>by
    have S1:=y.o.2.1.below H;have hi:=S1.2.2.2.2.1.rd S1.2.2.2.2.2.1;rw[aG.o]at hi;refine(ZH _ t ⟨f,F,B,fC⟩ W hi ⟨_,_,_,_,_,rfl,y.o.2.2⟩).mono ?_;rintro e w' ⟨u,rfl,hu,ak⟩;rw[ab.o]at hu;simp only at hu;obtain⟨K,E,D,pb,M,L,rfl⟩:=hu.form;rw[ab.o];exact⟨K,E,D,pb,M,L,rfl,hu,ak⟩
   have KK:ah (∀W,iL wr.heap.size wr W->(W.cell? ⟨zb,0,O⟩=X (Y T R Q)/\W.cell? ⟨zb,1,O⟩=X (Y n Z U)/\W.cell? ⟨zb,2,O⟩=X (I J tn))/\W.cell? ⟨b,j+k*4,O⟩=X (I J f)/\W.cell? ⟨b,j+k*4+1,O⟩=X (I J F)/\W.cell? ⟨b,j+k*4+2,O⟩=X (I J B)/\W.cell? ⟨b,j+k*4+3,O⟩=X (I J fC)):=λW H=>⟨⟨(H.cell (show zb<wr.heap.size from ai.o)).trans av,(H.cell (show zb<wr.heap.size from ai.o)).trans aw,(H.cell (show zb<wr.heap.size from ai.o)).trans aA⟩,(H.cell (show b<wr.heap.size from hb)).trans c0,(H.cell (show b<wr.heap.size from hb)).trans c1,(H.cell (show b<wr.heap.size from hb)).trans c2,(H.cell (show b<wr.heap.size from hb)).trans c3⟩
   have A:ah (iL wr.heap.size wr wr.drew):=(ax _ _).drew;have P:ah (iL wr.heap.size wr (wr.alloc (iC #[Y O 0 0,Y O 0 0,I J 0] 32)).drew):=(aZ).drew;clear hr d y0 y1 y2 x hE;go_upto_region 5 with fail
   obtain⟨wq,aP⟩:∃wq,wq=wr:=⟨_,rfl⟩;subst aP;go_cut [8,9]from 12 to 31 (λs8 s9 V=>s9=iB ok/\∃(c:Nat) (K:Option Addr) (E D:Nat) (pb:Option Addr) (M L:Nat),s8=iP (X ⟨c,0,O⟩)/\ah (rM wq V c (Y K E D) (Y pb M L) S))
   case first=>
    go_region_held3 (λw'=>(w'.cell? ⟨zb,0,O⟩=X (Y T R Q)/\w'.cell? ⟨zb,1,O⟩=X (Y n Z U)/\w'.cell? ⟨zb,2,O⟩=X (I J tn))/\w'.cell? ⟨b,j+k*4,O⟩=X (I J f)/\w'.cell? ⟨b,j+k*4+1,O⟩=X (I J F)/\w'.cell? ⟨b,j+k*4+2,O⟩=X (I J B)/\w'.cell? ⟨b,j+k*4+3,O⟩=X (I J fC)) (first|exact KK.o _ A.o|exact KK.o _ P.o|exact KK.o _ h.o|exact KK.o _ (h.o.alloc h.o.size _)|exact KK.o _ (Bs h.o (am _) _ _ _)) (first
     |(go_at_call 54;(with_reducible refine cn (CE.o _ (by first|exact A.o|exact P.o)) ?_);rintro en x3 ⟨K,E,D,pb,M,L,rfl,U3,P3⟩;have PP:=af P3;have h:ah (iL wq.heap.size wq x3):=(by first|exact Fx A.o A.o.size U3.blw|exact Fx P.o P.o.size U3.blw);(try(have nc:ah (x3.heap[wq.heap.size]?=X (iC #[Y O 0 0,Y O 0 0,I J 0] 32 (0,0))):=(U3.blw.block _ (by simp)).trans (show(wq.alloc (iC #[Y O 0 0,Y O 0 0,I J 0] 32)).drew.heap[wq.heap.size]?=_ from aB wq _);have aW:=aj _ _ 0 _ _ _ nc.o;have aY:=aj _ _ 1 _ _ _ nc.o;have a0:=aj _ _ 2 _ _ _ nc.o;have a1:=aF _ _ 0 _ _ nc.o;have a2:=aF _ _ 1 _ _ nc.o;have a3:=aF _ _ 2 _ _ nc.o));have UU:=af U3;clear U3 P3))
    all_goals
     go_wp2_with fail;go_meet
     case rel=>first
      |exact⟨rfl,_,_,_,_,_,_,_,rfl,af (rM.late h.o UU.o A.o.size PP.o)⟩
      |exact⟨rfl,_,_,_,_,_,_,_,rfl,af (rM.early h.o UU.o nc.o (am _) (by simp) PP.o)⟩
   case rest=>
    obtain⟨aO,c,K,E,D,pb,M,L,aN,NV⟩:=hcut;subst aO aN;obtain⟨V,hV⟩:∃V,V=wc:=⟨_,rfl⟩;subst hV;clear CE KK A P av aw aA c0 c1 c2 c3;have h:=af (y.o.2.1.below NV.o.2.2.1);obtain⟨m,hm⟩:=aq S.next;have HM:=af hm;have NC:=NV.o.1;rw[hm]at NC;have n0:=aj _ _ 0 _ _ _ NC;have n1:=aj _ _ 1 _ _ _ NC;have n2:=aj _ _ 2 _ _ _ NC;have d:=h.o.2.2.2.1;rw[aG.o]at d;cases ok with
    |true=>
     have q0:=aj _ _ 0 _ _ _ d;have q1:=aj _ _ 1 _ _ _ d;have q2:=aj _ _ 2 _ _ _ d;have g0:=aF _ _ 0 _ _ d;have g1:=aF _ _ 1 _ _ d;have g2:=aF _ _ 2 _ _ d;have NX:ah (dY s (l.take (k+1))=X S/\oV w (((V.setCell ⟨zb,0,O⟩ (Y K E D)).setCell ⟨zb,1,O⟩ (Y pb M L)).setCell ⟨zb,2,O⟩ (I J m)) z zb (Y va vl vc) (Y ad C cap) (I J nx) (Y K E D) (Y pb M L) S/\E<=D):=by
      refine⟨by rw[FM y.o.1 aE.o,ab.o];rfl,?_,Hr NV.o.2.2.2⟩
      have:=h.o.take NV.o.2.1 ai.o aL.o;rw[HM.o]at this;exact this
     clear hm d y h NV NC;go_wp2;go_roundw
     case rel=>exact⟨k+1,_,K,E,D,pb,M,L,by omega,by go_num,NX⟩
     case measure=>simp[intOf];omega
    |false=>
     have HE:=af (RH y.o.1 aE.o (by rw[ab.o]))
     have x0:V.cell? ⟨z,0,O⟩=X (Y va vl vc):=aj _ _ 0 _ _ _ h.o.2.1;have x1:V.cell? ⟨z,1,O⟩=X (Y ad C cap):=aj _ _ 1 _ _ _ h.o.2.1;have x2:V.cell? ⟨z,2,O⟩=X (I J nx):=aj _ _ 2 _ _ _ h.o.2.1;have CC:=af (mF (ae.o.below h.o.1));have aH:ah (z+1<V.heap.size):=(aK.1 h.o.2.2.1).1;have B4:=af h.o.1;have R4:=af h.o.2.2.1;clear hm d y h NV NC;go_wp2_with fail;refine CC.o.mono ?_;rintro e w5 ⟨u5,rfl,ao,-⟩;obtain⟨ga,gl,gc,gb,gm,gd,rfl⟩:=ao.form;rw[N.o];have i:=(ao.blw.block (z+1) aH.o).trans R4.o;have r0:=aj _ _ 0 _ _ _ i;have r1:=aj _ _ 1 _ _ _ i;have r2:=aj _ _ 2 _ _ _ i;have f0:=aF _ _ 0 _ _ i;have f1:=aF _ _ 1 _ _ i;have f2:=aF _ _ 2 _ _ i;have FR:=af (oS (a:=Y ga gl gc) (b:=Y gb gm gd) (c:=I J nx) i);have ap:ah (EJ w (jy s l) (G (iU #[iA #[Y ga gl gc,Y gb gm gd,I J nx],iB iF])) (((w5.setCell ⟨z+1,0,O⟩ (Y ga gl gc)).setCell ⟨z+1,1,O⟩ (Y gb gm gd)).setCell ⟨z+1,2,O⟩ (I J nx))):=by
      rw[HE.o];refine⟨_,rfl,?_⟩;have:=ao.set3 (w0:=w) (a:=Y ga gl gc) (b:=Y gb gm gd) (c:=I J nx) B4.o (g:=z+1) aH.o (by have:=ar.o;omega)
      rw[N.o]at this;exact this
     clear ao i CC;go_wp2;exact az (Mo (p:=4) (q:=5) rfl _ _ (z+1) _ _ _ rfl FR.o) rfl ap.o
  ·have HE:ah (jy s l=(t,iV)):=by
    have:=y.o.1;rw[ci (by have:=aD.o;omega)]at this
    exact Zm this
   obtain⟨tn,x⟩:=aq t.next;have S1:=af y.o.2.1;have d:=S1.o.2.2.2.1;rw[x]at d;have y0:=aj _ _ 0 _ _ _ d;have y1:=aj _ _ 1 _ _ _ d;have y2:=aj _ _ 2 _ _ _ d;have av:wr.cell? ⟨zb,0,O⟩=X (Y T R Q):=y0;have aw:wr.cell? ⟨zb,1,O⟩=X (Y n Z U):=y1;have aA:wr.cell? ⟨zb,2,O⟩=X (I J tn):=y2;have i:=S1.o.2.2.1;have r0:=aj _ _ 0 _ _ _ i;have r1:=aj _ _ 1 _ _ _ i;have r2:=aj _ _ 2 _ _ _ i;have f0:=aF _ _ 0 _ _ i;have f1:=aF _ _ 1 _ _ i;have f2:=aF _ _ 2 _ _ i;have FR:=af (oS (a:=Y T R Q) (b:=Y n Z U) (c:=I J tn) i);have ap:ah (EJ w (jy s l) (G (iU #[iA #[Y T R Q,Y n Z U,I J tn],iB iV])) (((wr.setCell ⟨z+1,0,O⟩ (Y T R Q)).setCell ⟨z+1,1,O⟩ (Y n Z U)).setCell ⟨z+1,2,O⟩ (I J tn))):=by
    rw[HE.o];refine⟨_,rfl,?_⟩;have hh:=S1.o.2.2.2.2.1;rw[x]at hh;exact hh.fin S1.o.1 (by have:=ar.o;omega) (by omega)
   clear y S1 d y0 y1 y2 i x;go_wp2;exact az (Mo (p:=4) (q:=5) rfl _ _ (z+1) _ _ _ rfl FR.o) rfl ap.o
end Go.Proofs.YtgigcooffjjbgaaGreatDoor
