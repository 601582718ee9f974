/-
  SChunk; SRefs; SCon; SPut; VlCut; SEntM; SEnter; ResSt; EaStM; StsM; GsM; SEnAll
-/
import Derived.Test.YtijmbohadndfmaaGreatDoorPk18
import Derived.Laws.CopyRow
import Derived.Lib.AppendZerosOnto
import Derived.Lib.Overlaps
import Derived.Shelf.RegionOpenPlain
open Go.Value renaming int→I,slice→Y,bool→iB,pointer→iP,agg→iA,tuple→iU
open Go.IntKind renaming i64→J
open Option renaming none→O,some→X
open Go.Ending renaming returned→G
open Go.Obj renaming cells→iC
open Bool renaming true→iV,false→iF
open Go renaming World→iW,Value→iX,Calls→iK
open Go.RowKit renaming Below→iL
set_option maxHeartbeats 4000000
set_option maxRecDepth 100000
namespace Go.Proofs.YtijmbohadndfmaaGreatDoor
open Go.RowKit Words
theorem PE(p:Option Addr)(i vc:Nat)(ad:Option Addr)(a cap:Nat)(nx:Int)(vs:List (Int×Int))(rs:List Kw)(d c:Int)(w:iW)(D:i<=1048578)(R:a<=1048578)(h:gn w p i vs)(Q:eH w ad a rs):
 iK Tryz.prog 56 #[iA (eC p i vc ad a cap nx),I J d,I J c] w λe w'=>e=G (I J (iE ⟨vs,rs.map aG,nx⟩ d c))/\iL w.heap.size w w':=by
 have x:=af ((Tk.start w).cell #[Y p i vc,Y ad a cap,I J nx] 44);have u:=af h.1;have N:=af h;have M:=af Q;clear h Q;obtain⟨C,z⟩:=an (iE ⟨vs,rs.map aG,nx⟩ d c);have L:=af z;rw[z];clear z;unfold eC;go_enter Tryz.func56,Tryz.ntmps56;go_wp2_with fail;refine(rJ p i vc ad a cap nx vs d _ D (N.o.below x.o.1)).mono ?_;rintro e j ⟨rfl,P⟩;have f:=af (x.o.below P);clear P x;have F:j.cell? ⟨w.heap.size,0,O⟩=X (Y p i vc):=f.o.at 0 0 rfl rfl;have H:j.cell? ⟨w.heap.size,1,O⟩=X (Y ad a cap):=f.o.at 0 1 rfl rfl;cases n:bY vs d with
 |none=>
  have E:ah (C=0):=by
   show _=_;rw[<-L.o];simp only[iE,mR,n,Option.bind_none]
  have y:iI O= -1:=rfl;rw[y];clear n;go_wp2;go_ret;exact⟨by rw[E.o];rfl,f.o.1⟩
 |some k=>
  obtain⟨v,q,A⟩:=qa n;have B:=(aD.1 q).1;have T:(k:Int)<i:=by have:=u.o;omega
  have k0:(0:Int)<=k:=by omega
  have k1:¬((k:Int)<0):=by omega
  have E:ah (gF (rs.map aG) v.2 c=C):=by
   show _=_;rw[<-L.o];simp only[iE,mR,n,kV,q,kg]
  obtain⟨b,g,e,hb,Z,c1⟩:=(N.o.below f.o.1).at q;subst e;have y:iI (X k)=(k:Int):=rfl;rw[y];have t:=af (zN ad a cap rs v.2 c j.drew R (M.o.below f.o.1.drew));have s:=af (zN ad a cap rs v.2 c j R (M.o.below f.o.1));rw[E.o]at t s;have m:=af f.o.1.drew;have U:=bh j _ F;have V:=bh j _ H;have W:=bh j _ c1;clear n q A B E
  first
   |(go_wp2_with fail
     refine s.o.mono ?_;rintro e r ⟨rfl,l⟩;have K:=af (f.o.1.trans (l.mono f.o.1.size)))
   |(go_wp2
     go_region_held3 (λw'=>w'.cell? ⟨w.heap.size,0,O⟩=X (Y (X ⟨b,g,O⟩) i vc)/\w'.cell? ⟨w.heap.size,1,O⟩=X (Y ad a cap)/\w'.cell? ⟨b,g+k*2+1,O⟩=X (I J v.2)) (first|exact⟨F,H,c1⟩|exact S.o) ((go_at_call 83;(with_reducible refine dq t.o ?_);rintro en r ⟨rfl,l⟩;have S:ah (r.cell? ⟨w.heap.size,0,O⟩=X (Y (X ⟨b,g,O⟩) i vc)/\r.cell? ⟨w.heap.size,1,O⟩=X (Y ad a cap)/\r.cell? ⟨b,g+k*2+1,O⟩=X (I J v.2)):=⟨(l.cell U).trans F,(l.cell V).trans H,(l.cell W).trans c1⟩))
     have K:=af (m.o.trans (l.mono m.o.size)))
  all_goals
   clear t s;go_wp2;go_ret;exact⟨rfl,K.o⟩
theorem Mg:XY 71:=by
 rintro v ⟨vs,h,nx⟩ w ⟨f,g,vc,ad,a,cap,rs,rfl,b,i,h4,d,j,c,e⟩;simp only at b c;subst b;exact JB f g vc ad a cap nx vs rs w (by omega) (by omega) d c e
theorem RL(ad:Option Addr)(l cap:Nat)(rs:List Kw)(r s n:Int)(w:iW)(hl:l<=1048578)(aO:∀r∈rs,r.2.2.length<=1048576)(h:eH w ad l rs):
 iK Tryz.prog 135 #[iA #[Y ad l cap],I J r,I J s,I J n] w (Bz w (gN (rs.map aG) r s n) (jo (rs.map aG) r s n)):=by
 have T0:=af (Tk.two w #[Y ad l cap] #[Y O 0 0] 42 42);have K0:=af (h.below T0.o.1);have a9:=af aO;clear h aO;have q0:((w.alloc (iC #[Y ad l cap] 42)).alloc (iC #[Y O 0 0] 42)).cell? ⟨w.heap.size,0,O⟩=X (Y ad l cap):=T0.o.at 1 0 rfl rfl;have ar:ah (((w.alloc (iC #[Y ad l cap] 42)).alloc (iC #[Y O 0 0] 42)).heap.size=w.heap.size+1+1):=by show _=_;simp
 go_enter Tryz.func135,Tryz.ntmps135;go_wp2_with fail;generalize(w.alloc (iC #[Y ad l cap] 42)).alloc (iC #[Y O 0 0] 42)=w0 at T0 K0 q0 ar⊢;refine(Cb ad l cap rs w0 hl a9.o K0.o).mono ?_;rintro e A ⟨v,rfl,uv,ss,rfl,ko,aW,b1⟩;obtain⟨K,L,rfl⟩:=ko.form;have T:=af aW;have T1:=af (T0.o.below b1);have u:ah (w0.heap.size=w.heap.size+1+1):=ar;have C:ah (w.heap.size+1+1<=A.heap.size):=by have:=b1.size;have:=u.o;show _<=_;omega
 have KO:=af ko;have K1:=af (K0.o.below b1);obtain⟨z,hz⟩:=an w.heap.size;have HZ:=af hz;rw[hz]at T0 T1 u C⊢;clear hz aW ko b1 q0 T0 K0 ar;have KZ:ah (∀W,iL A.heap.size A W->W.cell? ⟨z,0,O⟩=X (Y ad l cap)/\W.cell? ⟨z+1,0,O⟩=X (Y O 0 0)/\W.frozen? ⟨z+1,0,O⟩=iF):=λW hW=>
  ⟨(hW.cell (show z<A.heap.size by have:=C.o;omega)).trans (T1.o.at 1 0 rfl rfl),(hW.cell (show z+1<A.heap.size by have:=C.o;omega)).trans (T1.o.at 0 0 rfl rfl),aL _ _ 0 _ _ ((hW.block (z+1) (by have:=C.o;omega)).trans (T1.o.get 0 rfl))⟩
 have NO:ah (∀W,iL A.heap.size A W->oG w (rs.map aG) (iA #[Y K ss.length L]) (W.setCell ⟨z+1,0,O⟩ (Y K ss.length L))/\(W.setCell ⟨z+1,0,O⟩ (Y K ss.length L)).heap[z+1]?=X (iC #[Y K ss.length L] 42 (0,0))):=λW hW=>
  ⟨⟨_,ss,rfl,by rw[HZ.o];exact((KO.o.below hW).cellB (show z+1<w0.heap.size by have:=u.o;omega) _ _).down (by have:=u.o;omega),T.o,(T1.o.1.trans (hW.mono T1.o.1.size)).setCell (p:=⟨z+1,0,O⟩) (by show w.heap.size<=z+1;have:=HZ.o;omega) _⟩,eo ((hW.block (z+1) (by have:=C.o;omega)).trans (T1.o.get 0 rfl)) 0 _⟩
 have U0:=af ((Tk.start A).cell #[Y K ss.length L] 42);obtain⟨g,hg⟩:=an A.heap.size;have HG:=af hg;have q1:=(KZ.o _ U0.o.1).1;have aI:=af (show(A.alloc (iC #[Y K ss.length L] 42)).heap.size=A.heap.size+1 by simp)
 rw[hg]at U0 aI;go_wp2_with fail;clear hg;generalize A.alloc (iC #[Y K ss.length L] 42)=w2 at U0 aI q1⊢;refine(vU ad l cap rs w2 hl (K1.o.below U0.o.1)).mono ?_;rintro e w3 ⟨rfl,b3⟩;have U1:=af (U0.o.below b3);clear q1 b3;have q1:=(KZ.o _ U1.o.1).1;have f1:=(KZ.o _ U1.o.1).2.2;have g1:w3.cell? ⟨g,0,O⟩=X (Y K ss.length L):=U1.o.at 0 0 rfl rfl;have n1:=(KZ.o _ U1.o.1).2.1;cases hA:cO (rs.map aG)with
 |false=>
  have E:ah (gN (rs.map aG) r s n=rs.map aG/\jo (rs.map aG) r s n=r):=xV (by rw[lO,kL,hA];simp)
  clear hA;go_wp2;exact aF (o9 (p:=8) (q:=9) rfl _ _ (z+1) _ rfl (NO.o _ U1.o.1).2) rfl (yp E.o (NO.o _ U1.o.1).1)
 |true=>
  have HA:=af hA;go_wp2_with fail;refine(wN ad l cap rs r w3 hl (K1.o.below U1.o.1)).mono ?_;rintro e w4 ⟨rfl,b4⟩;have M:=af (U1.o.below b4);clear q1 f1 g1 n1 b4 hA;have q1:=(KZ.o _ M.o.1).1;have f1:=(KZ.o _ M.o.1).2.2;have g1:w4.cell? ⟨g,0,O⟩=X (Y K ss.length L):=M.o.at 0 0 rfl rfl;have n1:=(KZ.o _ M.o.1).2.1;cases hR:bO (rs.map aG) r with
  |false=>
   have E:ah (gN (rs.map aG) r s n=rs.map aG/\jo (rs.map aG) r s n=r):=xV (by rw[lO,kL,hR];simp)
   clear hR;go_wp2;exact aF (o9 (p:=8) (q:=9) rfl _ _ (z+1) _ rfl (NO.o _ M.o.1).2) rfl (yp E.o (NO.o _ M.o.1).1)
  |true=>
   have HR:=af hR;clear hR;go_wp2_with fail;refine(gT s 0 15 _).mono ?_;rintro e w5 ⟨rfl,rfl⟩;by_cases H:0<=s/\s<=15
   ·rw[aQ H];by_cases hn:n<0
    ·have E:ah (gN (rs.map aG) r s n=rs.map aG/\jo (rs.map aG) r s n=r):=xV (by rw[lO,aV (show¬0<=n by omega)];simp)
     go_wp2;exact aF (o9 (p:=8) (q:=9) rfl _ _ (z+1) _ rfl (NO.o _ M.o.1).2) rfl (yp E.o (NO.o _ M.o.1).1)
    ·obtain⟨i0,B,a,c,f⟩:=bK nG;have I0:=af B;have Y0:=af a;have Y1:=af c;have Y2:=af f;clear B a c f;obtain⟨p,hp⟩:=an w5.heap.size;have av:ah (g+1<=p):=by have:g+1<=w5.heap.size:=M.o.hi 0 rfl;show _<=_;omega
     go_wp2_with (at_make;refine pZ _ rfl _ _ 72 rfl w5.heap.size 3 i0 (I J 0) 1 Tryz.underlying72 I0.o Y0.o Y1.o J J _ _ 4 rfl rfl rfl rfl (by rw[Y2.o];omega) (by unfold maxLen;omega) (ak _) ?_)
     intro w6 ab aa;rw[sI]at ab;have BG:iL w5.heap.size w5 w6:=(ax _ _).grown aa (ak _) (λk hk=>by cases hk)
     have F1:=(aB.of ab).flt;have aX:p+1<=w6.heap.size:=by obtain⟨cs,q,-⟩:=F1;have:=(aJ.1 q).1;omega
     have U3:=af ((M.o.below BG).put (P:=aN 3 p (aE [0,0,0,0])) aX (aN.loc _ _ _) F1);obtain⟨d,hd⟩:=an w6.heap.size;have az:ah (p+1<=d):=by show _<=_;omega
     clear ab aa BG F1 aX q1 f1 g1 n1 U0 U1 hp;have U4:=af (((U3.o.celln hd #[iB iV,Y (X ⟨p,0,O⟩) 4 4] 205).celln (kq hd _) #[I J (-1),I J (-1),I J (-1),I J (-1)] 3).celln (kq (kq hd _) _) #[iB iF,Y (X ⟨d+1,0,O⟩) 4 4] 205);have U5:ah (Tk A (((w6.alloc (iC #[iB iV,Y (X ⟨p,0,O⟩) 4 4] 205)).alloc (iC #[I J (-1),I J (-1),I J (-1),I J (-1)] 3)).alloc (iC #[iB iF,Y (X ⟨d+1,0,O⟩) 4 4] 205)) (mx g d (d+1+1) p (d+1) 4 4 (Y K ss.length L) [0,0,0,0] [-1,-1,-1,-1])):=
      (U4.o.as 1 rfl (Q:=aN 3 (d+1) (aE [-1,-1,-1,-1])) (aN.loc _ _ _) ⟨_,U4.o.get 1 rfl,λi v hi=>by simpa[aE]using hi⟩).drop (λy hy=>by
       simp only[bf,dV,ez]at hy⊢;rcases hy with h|h|h|h|h<;>simp[h])
     obtain⟨F,rfl⟩:∃F:Nat,s=(F:Int):=⟨s.toNat,by omega⟩
     obtain⟨q,hq⟩:=an (F/4);obtain⟨t,ht⟩:=an (F % 4);have am:q<4:=by omega
     have aA:t<4:=by omega
     have tq:(F:Int).tdiv 4=(q:Int):=by rw[Jt (by omega)];omega
     have tt:(F:Int).tmod 4=(t:Int):=by rw[Ia (by omega)];omega
     have bn:(F:Int)/4=(q:Int):=by omega
     have bo:(F:Int) % 4=(t:Int):=by omega
     have q0:(0:Int)<=q:=by omega
     have q4:(q:Int)<4:=by omega
     have t0:(0:Int)<=t:=by omega
     have t4:(t:Int)<4:=by omega
     have D:ah ((rs.map aG).length=ss.length):=by show _=_;rw[<-T.o,aS]
     have aq:ah (lO (rs.map aG) r (F:Int) n=iV):=by show _=_;rw[lO,kL,HA.o,HR.o,aQ H.1,aQ H.2,aQ (show 0<=n by omega)];rfl
     have HQ:=af hq;have HT:=af ht;have aw:ah (A.heap.size=g):=HG;clear U3 U4 hq ht H;by_cases aT:r<0
     ·have S:ah (gS (rs.map aG) r F n=⟨iV,[0,0,0,0].set t n⟩/\gY (rs.map aG) r F=⟨iF,[-1,-1,-1,-1].set q (ss.length:Int)⟩):=⟨by rw[gS,aj aT,HT.o],by rw[gY,aj aT,HQ.o,D.o]⟩
      have DA:ah (ox A.heap.size g d (d+1+1) p (d+1)):=by have:=aw.o;have:=av.o;have:=az.o;constructor<;>omega
      obtain⟨⟨a1,⟨e2,a2⟩,a3,a4,a5,⟨U,a6⟩,a7,a8,b1,b2,b3,b4⟩,V⟩:=Ag (t:=t) (q:=q) U5.o DA.o rfl rfl aA am n (ss.length:Int);have G:=af V;clear V U5;have HE:=af hd;obtain⟨j0,B,a,c,f⟩:=bK tw;have J0:=af B;have X0:=af a;have X1:=af c;have X2:=af f;clear B a c f;have aU:ss.length<=1048578:=by rw[<-D.o,aS];have:=K1.o.1;omega
      have OW:ah (((((((w6.alloc (iC #[iB iV,Y (X ⟨p,0,O⟩) 4 4] 205)).alloc (iC #[I J (-1),I J (-1),I J (-1),I J (-1)] 3)).alloc (iC #[iB iF,Y (X ⟨d+1,0,O⟩) 4 4] 205)).setCell ⟨p,t,O⟩ (I J n)).setCell ⟨d+1,q,O⟩ (I J (ss.length:Int))).alloc (iC #[iB iV,Y (X ⟨p,0,O⟩) 4 4,iB iF,Y (X ⟨d+1,0,O⟩) 4 4] 205)).ownsRow w0.heap.size 205 2 (Y K ss.length L) ss.length (dT ss)):=bu (bu KO.o.1 G.o.1) (aY);have HN:=af (DL (((((w6.alloc (iC #[iB iV,Y (X ⟨p,0,O⟩) 4 4] 205)).alloc (iC #[I J (-1),I J (-1),I J (-1),I J (-1)] 3)).alloc (iC #[iB iF,Y (X ⟨d+1,0,O⟩) 4 4] 205)).setCell ⟨p,t,O⟩ (I J n)).setCell ⟨d+1,q,O⟩ (I J (ss.length:Int))) (E:=d+1+1+1) (by simp[HE.o]) (Y (X ⟨p,0,O⟩) 4 4) (Y (X ⟨d+1,0,O⟩) 4 4))
      have HB:ah (w0.heap.size<=((((((w6.alloc (iC #[iB iV,Y (X ⟨p,0,O⟩) 4 4] 205)).alloc (iC #[I J (-1),I J (-1),I J (-1),I J (-1)] 3)).alloc (iC #[iB iF,Y (X ⟨d+1,0,O⟩) 4 4] 205)).setCell ⟨p,t,O⟩ (I J n)).setCell ⟨d+1,q,O⟩ (I J (ss.length:Int))).alloc (iC #[iB iV,Y (X ⟨p,0,O⟩) 4 4,iB iF,Y (X ⟨d+1,0,O⟩) 4 4] 205)).heap.size):=bR (bR (show w0.heap.size<=A.heap.size by have:=u.o;have:=C.o;omega) G.o.1.size) ((aY:iL _ _ _).size)
      go_wp2_with (at_builtin;refine cN _ rfl _ _ 40 rfl w0.heap.size 205 j0 (iA #[iB iF,Y O 0 0]) 2 32 Tryz.underlying40 J0.o X0.o X1.o X2.o rfl (by decide) _ ss.length (dT ss) rfl OW.o ⟨d+1+1+1,0,O⟩ 2 2 [iB iV,Y (X ⟨p,0,O⟩) 4 4,iB iF,Y (X ⟨d+1,0,O⟩) 4 4] rfl rfl HN.o (zl _ _ _ _ _ _) ?c1 ?c2 HB.o ?_)
      case c1=>unfold maxLen;omega
      case c2=>omega
      intro u2 y o2 g2 _;obtain⟨ub,ae,ac,-⟩:=(aB.of o2).form;subst ac;obtain⟨⟨ev,e1⟩,e2,e3,e4,e5,e8,U,e7⟩:=yV HZ.o T1.o rfl KO.o u.o (show w0.heap.size<=A.heap.size by have:=u.o;have:=C.o;omega) G.o DA.o (by simp) (by simp) rfl o2 g2
      have E6:=af U;have E7:=af e7;clear U e7 o2 g2 a1 a2 a3 a4 a5 a6 a7 a8 b1 b2 b3 b4 G HB HN OW;have a0:IntKind.i64.wrap (((ss.length+2:Nat):Int)-1)=(ss.length:Int)+1:=by rw[cL]<;>omega
      go_wp2_with fail;generalize y.setCell ⟨g,0,O⟩ (Y ub (ss.length+2) ae)=yy at e3 e4 e5 e8 E6 E7⊢;go_region;go_wp2;exact aF (o9 (p:=8) (q:=9) rfl _ _ (z+1) _ rfl E6.o) rfl (Dw aq.o S.o (by have:=D.o;omega) T.o E7.o)
     ·obtain⟨m,rfl⟩:∃m:Nat,r=(m:Int):=⟨r.toNat,by omega⟩
      obtain⟨x,hx,aC⟩:=lQ HR.o (by omega)
      have aR:m<l:=by have:=(aD.1 hx).1;rw[aS,K1.o.1]at this;simpa using this
      have ap:ah ((((w6.alloc (iC #[iB iV,Y (X ⟨p,0,O⟩) 4 4] 205)).alloc (iC #[I J (-1),I J (-1),I J (-1),I J (-1)] 3)).alloc (iC #[iB iF,Y (X ⟨d+1,0,O⟩) 4 4] 205)).heap.size=d+1+1+1):=kq (kq (kq hd _) _) _;have B5:ah (iL A.heap.size A ((((w6.alloc (iC #[iB iV,Y (X ⟨p,0,O⟩) 4 4] 205)).alloc (iC #[I J (-1),I J (-1),I J (-1),I J (-1)] 3)).alloc (iC #[iB iF,Y (X ⟨d+1,0,O⟩) 4 4] 205)).alloc (iC #[] 3))):=U5.o.1.alloc U5.o.1.size _;have K5:=af (K1.o.below B5.o);obtain⟨b,bm,e,-⟩:=K1.o.adr (by omega)
      subst e;have x4:=lY (lA HA.o hx);obtain⟨o,ho,Z⟩:=md HA.o hx aC am;have aH:ah (dH (rs.map aG) (m:Int) q=o):=ix hx ho;obtain⟨ka,kc,-,c1,kr⟩:=K5.o.fD hx;rw[x4]at c1 kr;simp only[aZ]at c1;obtain⟨kb,ko,e,-,-⟩:=kr.at ho;subst e;have C1:=af kr.cells;have OE:=af (yL (((w6.alloc (iC #[iB iV,Y (X ⟨p,0,O⟩) 4 4] 205)).alloc (iC #[I J (-1),I J (-1),I J (-1),I J (-1)] 3)).alloc (iC #[iB iF,Y (X ⟨d+1,0,O⟩) 4 4] 205)) ap.o);have L1:ah ((aE x.fD).length=4*1):=by show _=_;rw[aE,aS,x4]
      have m0:(0:Int)<=m:=by omega
      have mL:(m:Int)<l:=by omega
      have cz:=(KZ.o _ B5.o).1;have R:ah (d+1+1+1<=((((w6.alloc (iC #[iB iV,Y (X ⟨p,0,O⟩) 4 4] 205)).alloc (iC #[I J (-1),I J (-1),I J (-1),I J (-1)] 3)).alloc (iC #[iB iF,Y (X ⟨d+1,0,O⟩) 4 4] 205)).alloc (iC #[] 3)).heap.size):=by have:=kq ap.o (iC #[] 3);show _<=_;omega
      have HX:=af hx;have bi:=af aC;have al:=af x4;have HO:=af ho;have HC:=af Z;have ba:=af aR;clear hx aC x4 ho Z kr aR;go_wp2_with (at_builtin;refine cN _ rfl _ _ 72 rfl (d+1+1+1) 3 i0 (I J 0) 1 8 Tryz.underlying72 I0.o Y0.o Y1.o Y2.o rfl (by decide) _ 0 [] rfl OE.o ⟨kb,ko,O⟩ 4 kc (aE x.fD) rfl L1.o C1.o (qp _) (by unfold maxLen;omega) (by omega) R.o ?_)
      intro v1 N o1 g1 _;obtain⟨tk,vc,rfl,bk,U6⟩:=Hh U5.o ap.o o1 g1;have DA:ah (ox A.heap.size g d (d+1+1) p tk):=by have:=aw.o;have:=av.o;have:=az.o;constructor<;>omega
      obtain⟨s1,s2,U7⟩:=VK (tc:=vc) U6 DA.o;have U8:=af U7;have s3:(N.setCell ⟨d+1+1,1,O⟩ (Y (X ⟨tk,0,O⟩) 4 vc)).cell? ⟨d+1+1,1,O⟩=X (Y (X ⟨tk,0,O⟩) 4 vc):=U7.at 0 1 rfl rfl;have s4:(N.setCell ⟨d+1+1,1,O⟩ (Y (X ⟨tk,0,O⟩) 4 vc)).cell? ⟨tk,q,O⟩=X (I J o):=(show aN 3 tk (aE x.fD) _ from U7.get 1 rfl).cell (lJ HO.o);clear o1 g1 U6 U7 c1 C1 OE L1 cz R K5 B5 U5;rcases HC.o with rfl|⟨n0,nm,yk,hy,bc,ao⟩
      ·have S:ah (gS (rs.map aG) (m:Int) F n=⟨iV,[0,0,0,0].set t n⟩/\gY (rs.map aG) (m:Int) F=⟨iF,x.fD.set q (ss.length:Int)⟩):=⟨by rw[gS,ai (show¬(m:Int)<0 by omega),HT.o,HQ.o,aH.o,aj (by omega)],by rw[gY,ai (show¬(m:Int)<0 by omega),HQ.o,D.o,HX.o];rfl⟩
       obtain⟨⟨a1,⟨e2,a2⟩,a3,a4,a5,⟨U,a6⟩,a7,a8,b1,b2,b3,b4⟩,V⟩:=Ag (t:=t) (q:=q) U8.o DA.o rfl al.o aA am n (ss.length:Int);have G:=af V;obtain⟨ee,au⟩:=an N.heap.size;have HE:=af au;clear V U8;obtain⟨j0,B,a,c,f⟩:=bK tw;have J0:=af B;have X0:=af a;have X1:=af c;have X2:=af f;clear B a c f;have aU:ss.length<=1048578:=by rw[<-D.o,aS];have:=K1.o.1;omega
       have OW:ah (((((N.setCell ⟨d+1+1,1,O⟩ (Y (X ⟨tk,0,O⟩) 4 vc)).setCell ⟨p,t,O⟩ (I J n)).setCell ⟨tk,q,O⟩ (I J (ss.length:Int))).alloc (iC #[iB iV,Y (X ⟨p,0,O⟩) 4 4,iB iF,Y (X ⟨tk,0,O⟩) 4 vc] 205)).ownsRow w0.heap.size 205 2 (Y K ss.length L) ss.length (dT ss)):=bu (bu KO.o.1 G.o.1) (aY);have HN:=af (DL (((N.setCell ⟨d+1+1,1,O⟩ (Y (X ⟨tk,0,O⟩) 4 vc)).setCell ⟨p,t,O⟩ (I J n)).setCell ⟨tk,q,O⟩ (I J (ss.length:Int))) (E:=ee) (by simp[HE.o]) (Y (X ⟨p,0,O⟩) 4 4) (Y (X ⟨tk,0,O⟩) 4 vc))
       have HB:ah (w0.heap.size<=((((N.setCell ⟨d+1+1,1,O⟩ (Y (X ⟨tk,0,O⟩) 4 vc)).setCell ⟨p,t,O⟩ (I J n)).setCell ⟨tk,q,O⟩ (I J (ss.length:Int))).alloc (iC #[iB iV,Y (X ⟨p,0,O⟩) 4 4,iB iF,Y (X ⟨tk,0,O⟩) 4 vc] 205)).heap.size):=bR (bR (show w0.heap.size<=A.heap.size by have:=u.o;have:=C.o;omega) G.o.1.size) ((aY:iL _ _ _).size)
       go_wp2_with (at_builtin;refine cN _ rfl _ _ 40 rfl w0.heap.size 205 j0 (iA #[iB iF,Y O 0 0]) 2 32 Tryz.underlying40 J0.o X0.o X1.o X2.o rfl (by decide) _ ss.length (dT ss) rfl OW.o ⟨ee,0,O⟩ 2 2 [iB iV,Y (X ⟨p,0,O⟩) 4 4,iB iF,Y (X ⟨tk,0,O⟩) 4 vc] rfl rfl HN.o (zl _ _ _ _ _ _) ?c1 ?c2 HB.o ?_)
       case c1=>unfold maxLen;omega
       case c2=>omega
       intro u2 y o2 g2 _;obtain⟨ub,ae,ac,-⟩:=(aB.of o2).form;subst ac;obtain⟨⟨ev,e1⟩,e2,e3,e4,e5,e8,U,e7⟩:=yV HZ.o T1.o rfl KO.o u.o (show w0.heap.size<=A.heap.size by have:=u.o;have:=C.o;omega) G.o DA.o (by simp) (by simp[al.o]) rfl o2 g2
       have E6:=af U;have E7:=af e7;clear U e7 o2 g2 a1 a2 a3 a4 a5 a6 a7 a8 b1 b2 b3 b4 G HB HN OW;have a0:IntKind.i64.wrap (((ss.length+2:Nat):Int)-1)=(ss.length:Int)+1:=by rw[cL]<;>omega
       go_wp2_with fail;generalize y.setCell ⟨g,0,O⟩ (Y ub (ss.length+2) ae)=yy at e3 e4 e5 e8 E6 E7⊢;go_region;go_wp2;exact aF (o9 (p:=8) (q:=9) rfl _ _ (z+1) _ rfl E6.o) rfl (Dw aq.o S.o (by have:=D.o;omega) T.o E7.o)
      ·obtain⟨j,rfl⟩:∃j:Nat,o=(j:Int):=⟨o.toNat,by omega⟩
       have aK:=af ao;have S:ah (gS (rs.map aG) (m:Int) F n=⟨iV,yk.fD.set t n⟩/\gY (rs.map aG) (m:Int) F=⟨iF,x.fD.set q (ss.length:Int)⟩):=⟨by rw[gS,ai (show¬(m:Int)<0 by omega),HT.o,HQ.o,aH.o,ai (by omega),hy];rfl,by rw[gY,ai (show¬(m:Int)<0 by omega),HQ.o,D.o,HX.o];rfl⟩
       obtain⟨ee,au⟩:=an N.heap.size;have ag:ah ((N.setCell ⟨d+1+1,1,O⟩ (Y (X ⟨tk,0,O⟩) 4 vc)).heap.size=ee):=by show _=_;rw[<-au];simp[World.setCell]
       have bh:tk<ee:=by have:tk+1<=(N.setCell ⟨d+1+1,1,O⟩ (Y (X ⟨tk,0,O⟩) 4 vc)).heap.size:=U8.o.hi 1 rfl;have:=ag.o;omega
       have B8:ah (iL A.heap.size A ((N.setCell ⟨d+1+1,1,O⟩ (Y (X ⟨tk,0,O⟩) 4 vc)).alloc (iC #[] 3))):=U8.o.1.alloc U8.o.1.size _;obtain⟨la,bd,-,c1,lr⟩:=(K1.o.below B8.o).fD hy;rw[ao]at c1 lr;simp only[aZ]at c1;obtain⟨lv,aP⟩:∃lv,yk.fD[0]?=X lv:=⟨_,ay (by omega)⟩
       obtain⟨be,bg,e,-,-⟩:=lr.at aP;subst e;have C1:=af lr.cells;have OE:=af (yL (N.setCell ⟨d+1+1,1,O⟩ (Y (X ⟨tk,0,O⟩) 4 vc)) ag.o);have L1:ah ((aE yk.fD).length=4*1):=by show _=_;rw[aE,aS,ao]
       have bl:(0:Int)<=j:=by omega
       have jL:(j:Int)<l:=by have:=ba.o;simp only[aZ]at nm;omega
       have cz:=(KZ.o _ B8.o).1;have R:ah (ee<=((N.setCell ⟨d+1+1,1,O⟩ (Y (X ⟨tk,0,O⟩) 4 vc)).alloc (iC #[] 3)).heap.size):=by have:=kq ag.o (iC #[] 3);show _<=_;omega
       have HY:=af hy;clear hy bc ao lr aP nm n0;go_wp2_with (at_builtin;refine cN _ rfl _ _ 72 rfl ee 3 i0 (I J 0) 1 8 Tryz.underlying72 I0.o Y0.o Y1.o Y2.o rfl (by decide) _ 0 [] rfl OE.o ⟨be,bg,O⟩ 4 bd (aE yk.fD) rfl L1.o C1.o (qp _) (by unfold maxLen;omega) (by omega) R.o ?_)
       intro v2 w8 o1 g1 _;obtain⟨lk,lc,rfl,bj,U9⟩:=Hh U8.o ag.o o1 g1;have DB:ah (ox A.heap.size g d (d+1+1) lk tk):=by have:=aw.o;have:=av.o;have:=az.o;constructor<;>omega
       obtain⟨s5,s6,aM⟩:=Xz (lc:=lc) U9 DB.o;clear o1 g1 U9 c1 C1 OE L1 cz R B8 U8 s1 s2 s3 s4;obtain⟨⟨a1,⟨e2,a2⟩,a3,a4,a5,⟨U,a6⟩,a7,a8,b1,b2,b3,b4⟩,V⟩:=Ag (t:=t) (q:=q) aM DB.o aK.o al.o aA am n (ss.length:Int);have G:=af V;obtain⟨ff,bb⟩:=an w8.heap.size;have HF:=af bb;clear V aM;obtain⟨j0,B,a,c,f⟩:=bK tw;have J0:=af B;have X0:=af a;have X1:=af c;have X2:=af f;clear B a c f;have aU:ss.length<=1048578:=by rw[<-D.o,aS];have:=K1.o.1;omega
       have OW:ah (((((w8.setCell ⟨d,1,O⟩ (Y (X ⟨lk,0,O⟩) 4 lc)).setCell ⟨lk,t,O⟩ (I J n)).setCell ⟨tk,q,O⟩ (I J (ss.length:Int))).alloc (iC #[iB iV,Y (X ⟨lk,0,O⟩) 4 lc,iB iF,Y (X ⟨tk,0,O⟩) 4 vc] 205)).ownsRow w0.heap.size 205 2 (Y K ss.length L) ss.length (dT ss)):=bu (bu KO.o.1 G.o.1) (aY);have HN:=af (DL (((w8.setCell ⟨d,1,O⟩ (Y (X ⟨lk,0,O⟩) 4 lc)).setCell ⟨lk,t,O⟩ (I J n)).setCell ⟨tk,q,O⟩ (I J (ss.length:Int))) (E:=ff) (by simp[HF.o]) (Y (X ⟨lk,0,O⟩) 4 lc) (Y (X ⟨tk,0,O⟩) 4 vc))
       have HB:ah (w0.heap.size<=((((w8.setCell ⟨d,1,O⟩ (Y (X ⟨lk,0,O⟩) 4 lc)).setCell ⟨lk,t,O⟩ (I J n)).setCell ⟨tk,q,O⟩ (I J (ss.length:Int))).alloc (iC #[iB iV,Y (X ⟨lk,0,O⟩) 4 lc,iB iF,Y (X ⟨tk,0,O⟩) 4 vc] 205)).heap.size):=bR (bR (show w0.heap.size<=A.heap.size by have:=u.o;have:=C.o;omega) G.o.1.size) ((aY:iL _ _ _).size)
       go_wp2_with (at_builtin;refine cN _ rfl _ _ 40 rfl w0.heap.size 205 j0 (iA #[iB iF,Y O 0 0]) 2 32 Tryz.underlying40 J0.o X0.o X1.o X2.o rfl (by decide) _ ss.length (dT ss) rfl OW.o ⟨ff,0,O⟩ 2 2 [iB iV,Y (X ⟨lk,0,O⟩) 4 lc,iB iF,Y (X ⟨tk,0,O⟩) 4 vc] rfl rfl HN.o (zl _ _ _ _ _ _) ?c1 ?c2 HB.o ?_)
       case c1=>unfold maxLen;omega
       case c2=>omega
       intro u2 y o2 g2 _;obtain⟨ub,ae,ac,-⟩:=(aB.of o2).form;subst ac;obtain⟨⟨ev,e1⟩,e2,e3,e4,e5,e8,U,e7⟩:=yV HZ.o T1.o rfl KO.o u.o (show w0.heap.size<=A.heap.size by have:=u.o;have:=C.o;omega) G.o DB.o (by simp[aK.o]) (by simp[al.o]) rfl o2 g2
       have E6:=af U;have E7:=af e7;clear U e7 o2 g2 a1 a2 a3 a4 a5 a6 a7 a8 b1 b2 b3 b4 G HB HN OW;have a0:IntKind.i64.wrap (((ss.length+2:Nat):Int)-1)=(ss.length:Int)+1:=by rw[cL]<;>omega
       go_wp2_with fail;generalize y.setCell ⟨g,0,O⟩ (Y ub (ss.length+2) ae)=yy at e3 e4 e5 e8 E6 E7⊢;go_region;go_wp2;exact aF (o9 (p:=8) (q:=9) rfl _ _ (z+1) _ rfl E6.o) rfl (Dw aq.o S.o (by have:=D.o;omega) T.o E7.o)
   ·have E:ah (gN (rs.map aG) r s n=rs.map aG/\jo (rs.map aG) r s n=r):=xV (by
     rw[lO,kL];simp only[Bool.and_eq_false_iff,rU];omega)
    rw[aV H];clear H;go_wp2;exact aF (o9 (p:=8) (q:=9) rfl _ _ (z+1) _ rfl (NO.o _ M.o.1).2) rfl (yp E.o (NO.o _ M.o.1).1)
theorem JY(w:iW):(sizeOf (Tryz.prog.elem 39)).run Tryz.prog w=.ok 2 w:=by kernel_rfl
theorem Ix:Tryz.prog.underlying 39=some (.slice (Tryz.prog.elem 39)):=by kernel_rfl
theorem WO(a:Addr):a.add 0=a:=by
 simp only[Addr.add];split<;>simp_all
theorem LX(ad:Option Addr)(n cap k:Nat)(w:World)(a:k<=cap):(Instr.slice 39 (.slice ad n cap) none (some (.int .i64 (k:Int))) none).run Tryz.prog w=.ok (.slice ad k cap) w:=by
 rw[run_slice_h w 39 ad n cap Ix .i64 _ (by omega) (by omega),JY]
 simp only[Result.andThen,sliced,aZ,lq,Nat.sub_zero];congr 2;split
 ·rfl
 ·cases ad<;>simp[WO]
theorem Ug(g o n cap k:Nat)(w:World)(a:k<=n):(Instr.slice 39 (.slice (some ⟨g,o,none⟩) n cap) (some (.int .i64 (k:Int))) none none).run Tryz.prog w=.ok (.slice (if cap=k then some ⟨g,o,none⟩else some ⟨g,o+k*2,none⟩) (n-k) (cap-k)) w:=by
 rw[run_slice_l w 39 (some ⟨g,o,none⟩) n cap Ix .i64 _ (by omega) (by omega),JY]
 simp only[Result.andThen,sliced,aZ];congr 2;split
 ·rfl
 ·simp[Il]
def pB(L:List iX)(o:Nat)(cs:List iX):List iX:=L.take o++(cs++L.drop (o+cs.length))
theorem VA{L cs:List iX}{o:Nat}(h:o+cs.length<=L.length):(pB L o cs).length=L.length:=by simp[pB];omega
variable{a:Act}{ops:Array Oper}{fn:Func}{v:Int × Int}{rest:List Oper}{k cap j z c zb n B:Nat}{P:Program}
theorem NA (w:iW) {o:Oper} {Q:Exit->Act->iW->Prop} (b:o.guard=O) (d:Operand) (t:TypeId)
 (g:o.op=.call {callee:=.builtin .clear,args:= #[d],argTypes:= #[t]}) (v:iX) (f:a.eval d=v) {c:iX} {w':iW}
 (i:(Builtin.clear_ #[t] o.type #[v]).run P w=.ok c w') (h:wpList P ops Q rest (a.put o.dst c) w'):wpList P ops Q (o::rest) a w:=by
 refine wpList_plain b λK e=>?_
 unfold Oper.wp;simp[execOp,g,resolve,invoke,builtin,f,i,Result.andThen];exact e _ _ h
theorem Yf(w:iW)(g:Nat)(cs:Array iX):w.grownBy (w.setRow g cs) (X g):=⟨rfl,rfl,rfl,by simp[World.setRow],λi _ hi=>setRow_other w g i cs (λe=>hi (by rw[e]))⟩
theorem gn.takeV{w:iW}{a:Option Addr}{c:Nat}{ls:List (Int×Int)}(h:gn w a c ls)(n:k<=c):gn w a k (ls.take k):=by
 obtain⟨h1,l,m,h4⟩:=h;refine⟨by simp;omega,by omega,λ_ _=>trivial,λh0=>?_⟩
 obtain⟨b,f,e,g,j⟩:=h4 (by omega)
 refine⟨b,f,e,g,λi t d=>j i t ?_⟩
 rw[List.getElem?_take]at d;split at d
 ·exact d
 ·cases d
theorem gn.dropV{w:iW}{b a c:Nat}{ls:List (Int×Int)}(h:gn w (X ⟨b,a,O⟩) c ls)(o:c<=cap)(p:j<=c):gn w (if cap=j then X ⟨b,a,O⟩else X ⟨b,a+j*2,O⟩) (c-j) (ls.drop j):=by
 obtain⟨h1,m,n,h4⟩:=h;refine⟨by simp;omega,by omega,λ_ _=>trivial,λh0=>?_⟩
 obtain⟨l,g,e,k,d⟩:=h4 (by omega)
 injection e with e
 injection e with e1 e2
 subst e1 e2;rw[ai (by omega)]
 refine⟨b,a+j*2,rfl,k,λi t f=>?_⟩
 rw[mQ]at f;have:=d (j+i) t f;rw[show a+j*2+i*2=a+(j+i)*2 by omega]
 exact this
theorem SU{w W:iW}{a b c:iX}{r:Rc}(h:iZ w W z a b c r)(n:Int):fh w ⟨[],[],n⟩ (iA #[Y O 0 0,Y O 0 0,I J n]) (((W.setCell ⟨z+1+1,0,O⟩ (Y O 0 0)).setCell ⟨z+1+1,1,O⟩ (Y O 0 0)).setCell ⟨z+1+1,2,O⟩ (I J n)):=by
 have h1:=h.1;have d:=h.2.1.size;exact xP (s:=⟨[],[],n⟩) (lo1:=w.heap.size) (hi1:=w.heap.size) (lo2:=w.heap.size) (hi2:=w.heap.size) (by omega) (.inl ⟨rfl,rfl⟩) ⟨[],rfl,.inl ⟨rfl,rfl⟩,(λ_ h=>by cases h),List.Pairwise.nil,by show(0:Nat)<=_;omega⟩ ⟨ak _,.inl (by omega)⟩ ⟨ak _,.inl (by omega)⟩ d d (.inl (ak _)) h.2.1
def qK(wb V:iW)(c:Nat)(a:iX)(L:List Kn):Prop:=
 V.heap[c]?=X (iC #[a] 42 (0,0))/\iL wb.heap.size wb V/\∃lo hi,dt lo hi a L V/\wb.heap.size<=lo/\hi<=V.heap.size/\wb.heap.size<=c
theorem qK.ahead{wb W V:iW}{a x:iX}{L:List Kn}(h:oG W L (iA #[a]) V)(f:iL wb.heap.size wb V)(b:wb.heap.size<=c/\c<W.heap.size)(i:V.heap[c]?=X (iC #[x] 42 (0,0))):qK wb (V.setCell ⟨c,0,O⟩ a) c a L:=by
 obtain⟨j,rs,e,h1,d,-⟩:=h;cases e;have k:(V.setCell ⟨c,0,O⟩ a).heap.size=V.heap.size:=by simp[World.setCell]
 refine⟨bC _ _ 0 _ _ _ i,f.setCell (p:=⟨c,0,O⟩) b.1 _,W.heap.size,V.heap.size,?_,by omega,by omega,b.1⟩
 exact dt.loc _ _ _ _ V _ (λg g1 g2=>aU _ _ _ _ (show g≠c by omega)) ⟨rs,d,h1.fK⟩
theorem qK.behind{wb W V:iW}{a:iX}{L:List Kn}(h:oG W L (iA #[a]) V)(b:iL wb.heap.size wb V)(f:wb.heap.size<=W.heap.size):qK wb (V.alloc (iC #[a] 42)) V.heap.size a L:=by
 obtain⟨d,rs,e,h1,c,-⟩:=h;cases e;have i:(V.alloc (iC #[a] 42)).heap.size=V.heap.size+1:=by simp
 have hs:=b.size;refine⟨az _ _,b.alloc hs _,W.heap.size,V.heap.size,?_,by omega,by omega,hs⟩
 exact dt.loc _ _ _ _ V _ (λg g1 g2=>gU _ _ _ (by omega)) ⟨rs,c,h1.fK⟩
theorem Ym(s:Sto)(r:Rc):(ft s r).1.next=s.next:=by
 unfold ft;split
 ·rfl
 ·split<;>rfl
variable{s:Sto}
theorem Yr(h:s.Fit)(k:Nat):(Sto.mk (s.fV.take k++s.fV.drop (k+1)) s.fK s.next).Fit:=by
 refine⟨?_,h.2⟩;have:=h.1;show(s.fV.take k++s.fV.drop (k+1)).length<=_;simp;omega
theorem RZ(h:s.Right)(f:s.fV[k]?=X v){a b:Int}(g:0<=a/\a<=15)(d:0<=b)(q:Int×Int)(n:Int):(Sto.mk (s.fV.set k q) (gN s.fK v.2 a b) n).Fit:=by
 refine⟨?_,?_,T9 h v.2 a b⟩
 ·show(s.fV.set k q).length<=_;rw[iy];have:=h.few;omega
 ·have e:kX s.fK v.2:=⟨h.ar,h.root v (aH f)⟩;have c:=(Ab (n:=b) (s:=a.toNat) e (by omega) d).1
  rw[show((a.toNat:Nat):Int)=a by omega]at c
  show(gN s.fK v.2 a b).length<=_;rw[c,pt];have:=Ec h;simp;omega
theorem Tb(v:iX)(s:Sto)(r:Rc)(w:iW)(bw:dO w v s)(aW:mM v):iK Tryz.prog 97 #[v,iA #[I J r.kind,I J r.vol,I J r.arg,I J r.fC]] w (tQ w (aX s r)):=by
 have aK:=af bw;obtain⟨va,C,vc,ad,T,cap,rs,rfl,bA,ck,hl,bD,bG,h,hk⟩:=bw;have bk:ah (C<=vc):=by
  obtain⟨a,n,c,k,x,e,hh⟩:=aW;injection e with e
  injection e with e
  simp only[iQ,jY]at e;obtain⟨e,-⟩:=e;injection e with e1 e2 e3
  show C<=vc;omega
 have HV:=af h;have ab:=af h.1;have HK:=af hk;have bn:=af bA;have bR:=af bD;have ce:=af bG;obtain⟨nx,bf⟩:=an s.next;have aa:=af bf;obtain⟨i0,hi,bH,bI,bL⟩:=bK vE;have I0:=af hi;have Y0:=af bH;have Y1:=af bI;have Y2:=af bL;unfold eC at aK⊢;rw[bf]at aK⊢;clear bA bD bG h hk bf hi bH bI bL aW;obtain⟨f,i,d,m⟩:=r;simp only;have T0:=af (Tk.three w #[Y va C vc,Y ad T cap,I J nx] #[I J f,I J i,I J d,I J m] #[Y O 0 0,Y O 0 0,I J 0] 44 137 44);go_enter Tryz.func97,Tryz.ntmps97;have E0:ah (iZ w (((w.alloc (iC #[Y va C vc,Y ad T cap,I J nx] 44)).alloc (iC #[I J f,I J i,I J d,I J m] 137)).alloc (iC #[Y O 0 0,Y O 0 0,I J 0] 44)) w.heap.size (Y va C vc) (Y ad T cap) (I J nx) ⟨f,i,d,m⟩):=⟨rfl,T0.o.1,T0.o.get 2 rfl,T0.o.get 1 rfl,T0.o.get 0 rfl⟩;have SI:ah (∀W,iL w.heap.size w W->dO W (iA #[Y va C vc,Y ad T cap,I J nx]) s):=λW H=>aK.o.below H
 clear T0 aK;go_wp2_with fail;generalize((w.alloc (iC #[Y va C vc,Y ad T cap,I J nx] 44)).alloc (iC #[I J f,I J i,I J d,I J m] 137)).alloc (iC #[Y O 0 0,Y O 0 0,I J 0] 44)=w0 at E0⊢;obtain⟨z,hz⟩:=an w.heap.size;have cf:=af hz;rw[hz]at E0⊢;have EW:=af E0.o;clear hz E0;refine(Mg _ s _ (SI.o _ EW.o.2.1)).mono ?_;rintro e wa ⟨rfl,ba⟩;have B:=af (EW.o.on ba);clear ba EW;by_cases hb:dc s=iV
 ·rw[hb];obtain⟨U,Z,y2,y3⟩:=B.o.rc;simp only at U Z y2 y3;go_wp2_with fail;refine(ym ⟨f,i,d,m⟩ _).mono ?_;rintro e wb ⟨rfl,bb⟩;have EV:=af (B.o.on bb);clear B bb U Z y2 y3;have B:=af EV.o;clear EV;by_cases hR:(Rc.mk f i d m).Right
  ·rw[tL hR];have aG:ah (dc s=iV/\(Rc.mk f i d m).Right):=⟨hb,hR⟩;have bU:=af ((jQ s).1 hb);obtain⟨x0,x1,x2⟩:=B.o.sc;obtain⟨U,Z,y2,y3⟩:=B.o.rc;simp only at U Z y2 y3;clear hb;by_cases k1:f=1
   ·subst k1;have HE:ah (∀n:Int,(if d=0 then 1 else d)=n->tQ w (aX s ⟨1,i,d,m⟩) (G (iU #[iA #[Y O 0 0,Y O 0 0,I J n],iB iV])) (((wb.setCell ⟨z+1+1,0,O⟩ (Y O 0 0)).setCell ⟨z+1+1,1,O⟩ (Y O 0 0)).setCell ⟨z+1+1,2,O⟩ (I J n))):=λn hn=>by
     rw[aX,aj aG.o,aj rfl];simp only;rw[hn];exact⟨_,rfl,SU B.o n,⟨_,_,_,_,_,rfl,ak _⟩⟩
    obtain⟨f0,f1,f2,f3,f4,f5⟩:=B.o.rf;have E:=af (λn:Int=>n7 (a:=Y O 0 0) (b:=Y O 0 0) (c:=I J n) B.o.2.2.2.2)
    by_cases a0:d=0
    ·subst a0;have l:=af (HE.o 1 rfl);have aZ:=af (E.o 1);clear HE E hR;go_wp2;exact aF (kD (p:=4) (q:=5) rfl _ _ (z+1+1) _ _ _ rfl aZ.o) rfl l.o
    ·have l:=af (HE.o d (ai a0));have aZ:=af (E.o d);have cg:(d==0)=iF:=by simpa using a0
     clear HE E hR;go_wp2;exact aF (kD (p:=4) (q:=5) rfl _ _ (z+1+1) _ _ _ rfl aZ.o) rfl l.o
   ·have cl:(f==1)=iF:=by simpa using k1
    by_cases k2:f=2
    ·subst k2;have HE:ah (aX s ⟨2,i,d,m⟩=((ft s ⟨2,i,d,m⟩).1,(ft s ⟨2,i,d,m⟩).2)):=by
      show _=_;rw[aX,aj aG.o,ai (show¬(2:Int)=1 by decide),aj rfl]
     have EN:=af (Ym s ⟨2,i,d,m⟩);clear hR;go_wp2_with fail;refine(Pe _ s ⟨2,i,d,m⟩ _ (SI.o _ B.o.2.1)).mono ?_;rintro e wn ⟨u,rfl,D,y⟩;generalize ft s ⟨2,i,d,m⟩=p at HE EN D⊢;obtain⟨ea,el,ec,eb,em,ed,rfl,P,Q,A⟩:=B.o.fin HE.o D y;obtain⟨f0,f1,f2,f3,f4,f5⟩:=P.rf;have E:=af Q;have l:=af A;rw[EN.o,aa.o]at E l⊢;clear D P Q A y x0 x1 x2;go_wp2;exact aF (kD (p:=4) (q:=5) rfl _ _ (z+1+1) _ _ _ rfl E.o) rfl l.o
    ·have cm:(f==2)=iF:=by simpa using k2
     have CA:=af (rJ va C vc ad T cap nx s.fV i wb (by omega) (HV.o.below B.o.2.1))
     unfold eC at CA;go_wp2_with fail;refine CA.o.mono ?_;rintro e wc ⟨rfl,bc⟩;have EV:=af (B.o.on bc);clear B bc CA x0 x1 x2 U Z y2 y3;have B:=af EV.o;clear EV;obtain⟨U,Z,y2,y3⟩:=B.o.rc;simp only at U Z y2 y3;have aw:ah (aX s ⟨f,i,d,m⟩=match bY s.fV i with
      |none=>(s,iF)
      |some k=>if m=1000000000 then(s,iF)else if f=3 then(xH s k,iV)else(oT s k ((s.fV[k]?).getD (0,0)) ⟨f,i,d,m⟩,iV)):=by
      show _=_;rw[aX,aj aG.o,ai k1,ai k2];rfl
     cases ap:bY s.fV i with
     |none=>
      have HN:ah (aX s ⟨f,i,d,m⟩=(s,iF)):=by show _=_;rw[aw.o,ap]
      simp only[iI];clear hR aw;obtain⟨x0,x1,x2⟩:=B.o.sc;go_wp2_with fail;refine(mw (SI.o _ B.o.2.1)).mono ?_;rintro e wn ⟨u,rfl,D,y⟩;obtain⟨ea,el,ec,eb,em,ed,rfl,P,Q,A⟩:=B.o.fin HN.o D y;obtain⟨f0,f1,f2,f3,f4,f5⟩:=P.rf;have E:=af Q;have l:=af A;rw[aa.o]at E l⊢;clear D P Q A y x0 x1 x2;go_wp2;exact aF (kD (p:=4) (q:=5) rfl _ _ (z+1+1) _ _ _ rfl E.o) rfl l.o
     |some k=>
      have bj:=af ap;obtain⟨v,hv,bv⟩:=qa ap;have ci:k<C:=by have:=(aD.1 hv).1;have:=ab.o;omega
      have ao:=af hv;have kn:¬((k:Int)<0):=by omega
      simp only[iI];by_cases hc:m=1000000000
      ·have HN:ah (aX s ⟨f,i,d,m⟩=(s,iF)):=by show _=_;rw[aw.o,ap];simp only;rw[aj hc]
       have bW:(m==1000000000)=iV:=by simpa using hc
       clear hR aw ap hv bv;obtain⟨x0,x1,x2⟩:=B.o.sc;go_wp2_with fail;refine(mw (SI.o _ B.o.2.1)).mono ?_;rintro e wn ⟨u,rfl,D,y⟩;obtain⟨ea,el,ec,eb,em,ed,rfl,P,Q,A⟩:=B.o.fin HN.o D y;obtain⟨f0,f1,f2,f3,f4,f5⟩:=P.rf;have E:=af Q;have l:=af A;rw[aa.o]at E l⊢;clear D P Q A y x0 x1 x2;go_wp2;exact aF (kD (p:=4) (q:=5) rfl _ _ (z+1+1) _ _ _ rfl E.o) rfl l.o
      ·have HC:=af hc;have bW:(m==1000000000)=iF:=by simpa using hc
       obtain⟨vb,vo,b8,-⟩:=(HV.o.below B.o.2.1).at hv;subst b8;obtain⟨x0,x1,x2⟩:=B.o.sc;have bP:ah s.Fit:=(SI.o _ B.o.2.1).fit;clear ap hv bv;go_wp2_with fail;refine(mw (SI.o _ B.o.2.1)).mono ?_;rintro e wd ⟨u,rfl,D,-⟩;have bi:=af B.o;have bM:=af D.blw;have EV:=af (B.o.on D.blw);have aE:ah (wc.heap.size<=wd.heap.size):=D.blw.size;have bN:ah (z+1+1<wc.heap.size):=B.o.lt;clear B x0 x1 x2 U Z y2 y3;have B:=af EV.o;clear EV;obtain⟨vv,kv,lo1,hi1,lo2,hi2,rfl,al,aV,b2,b3,bx,bz,-,-⟩:=D;obtain⟨ua,uc,rfl,bu⟩:=al.form;obtain⟨g,rfl,bX,bZ⟩:=bu (by have:=ab.o;omega)
       obtain⟨ub,ud,rfl⟩:=aV.form;obtain⟨um,bg⟩:=an s.fK.length;rw[bg]at aV⊢;rw[ab.o]at al⊢;have bO:=af al.flt;have a5:ah (g<wd.heap.size):=by show _<_;omega
       have bl:ah (wc.heap.size<=g):=by show _<=_;omega
       have bm:=af aV;have cc:=af bx;have bQ:=af bz;have cd:=af bg;rw[aa.o];clear aV b2 b3 bx bz bu al bX bZ bg;have BO:=af (aO wd (iC #[Y (X ⟨g,0,O⟩) C uc,Y ub um ud,I J nx] 44));have RO:=af (az wd (iC #[Y (X ⟨g,0,O⟩) C uc,Y ub um ud,I J nx] 44));have ZO:ah ((wd.alloc (iC #[Y (X ⟨g,0,O⟩) C uc,Y ub um ud,I J nx] 44)).heap.size=wd.heap.size+1):=by show _=_;simp
       have EO:=af (B.o.on BO.o);obtain⟨x0,x1,x2⟩:=EO.o.sc;obtain⟨U,Z,y2,y3⟩:=EO.o.rc;simp only at U Z y2 y3;by_cases k3:f=3
       ·subst k3;clear hR;go_upto_region 16 with fail
        clear x0 x1 x2 U Z y2 y3;generalize wd.alloc (iC #[Y (X ⟨g,0,O⟩) C uc,Y ub um ud,I J nx] 44)=t at BO RO ZO EO⊢;obtain⟨zb,ag⟩:=an wd.heap.size;rw[ag]at RO ZO⊢;have ac:=af ag;clear ag;have TT:ah (∀W:iW,(Instr.slice 39 (Y (X ⟨vb,vo,O⟩) C vc) O (X (I J (k:Int))) O).run Tryz.prog W=.ok (Y (X ⟨vb,vo,O⟩) k vc) W):=λW=>LX _ C vc k W (by have:=bk.o;omega)
        obtain⟨xa,aq⟩:=an ((if vc=k+1 then X (⟨vb,vo,O⟩:Addr)else X ⟨vb,vo+(k+1)*2,O⟩))
        have TD:ah (∀W:iW,(Instr.slice 39 (Y (X ⟨vb,vo,O⟩) C vc) (X (I J ((k:Int)+1))) O O).run Tryz.prog W=.ok (Y xa (C-(k+1)) (vc-(k+1))) W):=λW=>by
         have:=Ug vb vo C vc (k+1) W (by omega)
         rw[aq]at this;exact this
        have br:ah (∀W,iL t.heap.size t W->qk W (Y (X ⟨vb,vo,O⟩) k vc) (s.fV.take k)):=λW H=>by
         have e:(s.fV.take k).length=k:=by rw[dk];have:=ab.o;omega
         have:=(HV.o.below (EO.o.on H).2.1).takeV (k:=k) (by omega)
         exact⟨_,vc,by rw[e],(λh=>by cases h),by rw[e];exact this⟩
        have bq:ah (∀W,iL t.heap.size t W->qk W (Y xa (C-(k+1)) (vc-(k+1))) (s.fV.drop (k+1))):=λW H=>by
         have e:(s.fV.drop (k+1)).length=C-(k+1):=by rw[jz];have:=ab.o;omega
         have:=(HV.o.below (EO.o.on H).2.1).dropV bk.o (j:=k+1) (by omega)
         rw[aq]at this;exact⟨xa,vc-(k+1),by rw[e],(λh=>by rw[h]at aq;split at aq<;>cases aq),by rw[e];exact this⟩
        have LT:ah ((s.fV.take k).length=k):=by show _=_;rw[dk];have:=ab.o;omega
        have LD:ah ((s.fV.drop (k+1)).length=C-(k+1)):=by show _=_;rw[jz];have:=ab.o;omega
        have BD:ah (iL t.heap.size t t.drew):=(ax _ _).drew;have ar:ah (iL t.heap.size t (t.alloc (iC #[] 68)).drew):=(aY).drew;have OE:ah ((t.alloc (iC #[] 68)).drew.ownsRow t.heap.size 68 2 (Y (X ⟨t.heap.size,0,O⟩) 0 0) 0 []):=⟨rfl,.inr ⟨t.heap.size,0,#[],rfl,ak _,az t _,ak _,by unfold maxLen;omega,rfl,rfl⟩⟩
        have a7:=af ar.o.size;have KK:ah (∀W,iL t.heap.size t W->W.cell? ⟨z,0,O⟩=X (Y (X ⟨vb,vo,O⟩) C vc)):=λW H=>(EO.o.on H).sc.1
        have wk:IntKind.i64.wrap ((k:Int)+1)=(k:Int)+1:=by rw[cL];omega
        clear aq;have tt:=TT.o;have td:=TD.o;refine wY 13 (S:=λw'=>w'.cell? ⟨z,0,O⟩=X (Y (X ⟨vb,vo,O⟩) C vc)) (by kernel_rfl) rfl (by kernel_rfl) (KK.o _ BD.o) (λhHeld=>?_)
        simp only[vp,tU,aR,cU,Nat.reduceAdd];refine au 1 ?_;refine au 2 ?_;refine au 3 ?_;refine au 4 ?_;refine au 6 ?_;refine au 7 ?_;refine au 8 ?_;refine au 9 ?_;refine au 10 ?_;refine ch 0 rfl (by kernel_rfl) (λK hK=>?_)
        go_simp;refine hK.out _ _ (KK.o _ ar.o) (λhHeld2=>?_)
        clear hK K hHeld;have hHeld:=hHeld2;clear hHeld2
        (try simp only[Act.put,bJ,bE,bp])
        refine ch 5 rfl (by kernel_rfl) (λK hK=>?_)
        refine sZ _ (by rfl) (.tmp 56) (.tmp 60) (by rfl) t.heap.size i0 I0.o Y0.o Y1.o Y2.o _ 0 [] (by simp[Act.eval]) OE.o (s.fV.take k) k LT.o _ (by simp[Act.eval]) (br.o _ ar.o) (by unfold maxLen;omega) (by omega) a7.o ?_
        intro v1 w1 o1 g1;rw[iN,dK]at o1;have B1:ah (iL t.heap.size t w1):=ar.o.grown g1 a7.o (λq hq=>(OE.o.lt q hq).1)
        have O1:=af o1;have a8:=af B1.o.size;clear o1 g1;refine hK.out _ _ (KK.o _ B1.o) (λhHeld2=>?_)
        clear hK K hHeld;have hHeld:=hHeld2;clear hHeld2
        (try simp only[Act.put,bJ,bE,bp])
        refine ch 11 rfl (by kernel_rfl) (λK hK=>?_)
        refine sZ _ (by rfl) (.tmp 61) (.tmp 66) (by rfl) t.heap.size i0 I0.o Y0.o Y1.o Y2.o _ k (cn (s.fV.take k)) (by simp[Act.eval]) O1.o (s.fV.drop (k+1)) (C-(k+1)) LD.o _ (by simp[Act.eval]) (bq.o _ B1.o) (by unfold maxLen;omega) (by omega) a8.o ?_
        intro v2 w2 o2 g2;rw[<-Kv]at o2;obtain⟨ln,be⟩:=an (k+(C-(k+1)));rw[be]at o2;have bS:=af be;clear be;have B2:ah (iL t.heap.size t w2):=B1.o.grown g2 a8.o (λq hq=>(O1.o.lt q hq).1)
        obtain⟨la,lc,b7,-⟩:=(aB.of o2).form;subst b7;have O2:=af o2;clear o2 g2;refine hK.out _ _ (KK.o _ B2.o) (λhHeld2=>?_)
        clear hK K hHeld;have hHeld:=hHeld2;clear hHeld2
        (try simp only[Act.put,bJ,bE,bp])
        refine au 12 ?_;refine jx (by kernel_rfl) (vw ?_)
        clear hHeld;have ZL:ah (zb<t.heap.size):=by have:=ZO.o;show _<_;omega
        have R7:ah (w2.heap[zb]?=X (iC #[Y (X ⟨g,0,O⟩) C uc,Y ub um ud,I J nx] 44 (0,0))):=(B2.o.block zb ZL.o).trans RO.o;have p0:=am _ _ 0 _ _ _ R7.o;have pf:=aL _ _ 0 _ _ R7.o;have R8:ah ((w2.setCell ⟨zb,0,O⟩ (Y la (ln) lc)).heap[zb]?=X (iC #[Y la (ln) lc,Y ub um ud,I J nx] 44 (0,0))):=bC _ _ 0 _ _ _ R7.o;have NL:ah ((s.fV.take k++s.fV.drop (k+1)).length=ln):=by show _=_;rw[aT,LT.o,LD.o];exact bS.o
        have BV:ah (iL wd.heap.size wd (w2.setCell ⟨zb,0,O⟩ (Y la (ln) lc))):=(BO.o.trans (B2.o.mono BO.o.size)).setCell (p:=⟨zb,0,O⟩) (by rw[ac.o];exact ak _) _
        have EV:=af (B.o.on BV.o);have ae:ah (dO (w2.setCell ⟨zb,0,O⟩ (Y la (ln) lc)) (iA #[Y la (ln) lc,Y ub um ud,I J nx]) ⟨s.fV.take k++s.fV.drop (k+1),s.fK,s.next⟩):=by
         have hS:=aB.of O2.o;rw[<-NL.o]at hS;have a1:=ZL.o;have a2:=B2.o.size;have a3:=ZO.o;have a4:=bQ.o;have a6:=ac.o;have b1:(w2.setCell ⟨zb,0,O⟩ (Y la (ln) lc)).heap.size=w2.heap.size:=by simp[World.setCell]
         rw[<-aa.o];refine eB.rd (lo:=0) (zb:=zb) (s:=⟨s.fV.take k++s.fV.drop (k+1),s.fK,s.next⟩) ⟨_,_,t.heap.size,w2.heap.size,lo2,hi2,rfl,?_,?_,⟨aI _,.inr a1⟩,⟨aI _,.inl (by omega)⟩,by omega,by omega,.inr (by omega)⟩ (Yr bP.o k)
         ·rw[NL.o]at hS⊢;exact aB.loc _ _ _ _ _ _ w2 _ (λg g1 g2=>aU _ _ _ _ (show g≠zb by omega)) hS
         ·exact dt.loc _ _ _ _ wd _ (λg g1 g2=>(aU _ _ _ _ (show g≠zb by omega)).trans ((B2.o.block g (by omega)).trans (BO.o.block g (by omega)))) bm.o
        have HE:ah (aX s ⟨3,i,d,m⟩=(g9 ⟨s.fV.take k++s.fV.drop (k+1),s.fK,s.next⟩,iV)):=by
         show _=_;rw[aX,aj aG.o,ai (show¬(3:Int)=1 by decide),ai (show¬(3:Int)=2 by decide)]
         simp only;rw[bj.o];simp only;rw[ai HC.o,aj trivial];rfl
        clear O1 O2 OE B1 br bq TT TD KK BD ar a7 a8 LT LD NL bm tt td wk;go_upto_region 17 with fail
        clear p0 pf R7;generalize w2.setCell ⟨zb,0,O⟩ (Y la (ln) lc)=V at R8 EV ae BV⊢;have q0:=am _ _ 0 _ _ _ R8.o;have q1:=am _ _ 1 _ _ _ R8.o;have q2:=am _ _ 2 _ _ _ R8.o;go_wp2_with fail;refine(AV _ _ _ ae.o).mono ?_;rintro e wn ⟨u,rfl,D,y⟩;obtain⟨ea,el,ec,eb,em,ed,rfl,P,Q,A⟩:=EV.o.fin HE.o D y;obtain⟨f0,f1,f2,f3,f4,f5⟩:=P.rf;have E:=af Q;have l:=af A;have en:(g9 ⟨s.fV.take k++s.fV.drop (k+1),s.fK,s.next⟩).next=nx:=aa.o;rw[en]at E l⊢;clear D P Q A y q0 q1 q2 en;go_wp2;exact aF (kD (p:=4) (q:=5) rfl _ _ (z+1+1) _ _ _ rfl E.o) rfl l.o
       ·have co:(f==3)=iF:=by simpa using k3
        have bT:=af ((Kz f i d m).1 hR);go_upto_region 18 with fail
        clear x0 x1 x2 U Z y2 y3;generalize wd.alloc (iC #[Y (X ⟨g,0,O⟩) C uc,Y ub um ud,I J nx] 44)=t at BO RO ZO EO⊢;obtain⟨zb,ag⟩:=an wd.heap.size;rw[ag]at RO ZO⊢;have ac:=af ag;clear ag hR;obtain⟨L,hL⟩:=an (gN s.fK v.2 d m);obtain⟨R,bs⟩:=an (jo s.fK v.2 d m);have HL:=af hL;have HR:=af bs;clear hL bs;have CP:ah (∀W,iL t.heap.size t W->iK Tryz.prog 135 #[iA #[Y ad T cap],I J v.2,I J d,I J m] W λe w'=>∃F N M,e=G (iU #[iA #[Y F N M],I J R])/\ah (oG W L (iA #[Y F N M]) w')/\ah (iL t.heap.size t w')/\ah (iL W.heap.size W w')):=λW H=>by
         refine(RL ad T cap rs v.2 d m W (by omega) bR.o (HK.o.below (EO.o.on H).2.1)).mono ?_
         rintro e w' ⟨u,rfl,D⟩;rw[<-bn.o,HL.o]at D;rw[<-bn.o,HR.o];have b5:=D;obtain⟨uv,ss,rfl,b6,-,hb⟩:=D;obtain⟨F,M,rfl⟩:=b6.form;exact⟨F,_,M,rfl,b5,H.trans (hb.mono H.size),hb⟩
        obtain⟨x0,x1,x2⟩:=EO.o.sc;obtain⟨U,Z,y2,y3⟩:=EO.o.rc;simp only at U Z y2 y3;have c1:t.cell? ⟨vb,vo+k*2+1,O⟩=X (I J v.2):=by
         obtain⟨b',cb,e,-,-,c1⟩:=(HV.o.below EO.o.2.1).at ao.o;injection e with e
         injection e with e1 e2
         subst e1 e2;exact c1
        have bV:ah (vb<t.heap.size):=bh t _ c1;have KK:ah (∀W,iL t.heap.size t W->W.cell? ⟨z,0,O⟩=X (Y (X ⟨vb,vo,O⟩) C vc)/\W.cell? ⟨z,1,O⟩=X (Y ad T cap)/\W.cell? ⟨vb,vo+k*2+1,O⟩=X (I J v.2)/\W.cell? ⟨z+1,2,O⟩=X (I J d)/\W.cell? ⟨z+1,3,O⟩=X (I J m)):=λW H=>by
         have h1:=(EO.o.on H).sc;have h2:=(EO.o.on H).rc;exact⟨h1.1,h1.2.1,(H.cell (show vb<t.heap.size from bV.o)).trans c1,h2.2.2.1,h2.2.2.2⟩
        have aP:ah (iL t.heap.size t t.drew):=(ax _ _).drew;have a9:ah (iL t.heap.size t (t.alloc (iC #[Y O 0 0] 42)).drew):=(aY).drew;go_cut [9,10] (λs9 ca V=>ca=I J R/\∃(c:Nat) (F:Option Addr) (N M:Nat),s9=iP (X ⟨c,0,O⟩)/\ah (qK t V c (Y F N M) L))
        case first=>
         go_region_held3 (λw'=>w'.cell? ⟨z,0,O⟩=X (Y (X ⟨vb,vo,O⟩) C vc)/\w'.cell? ⟨z,1,O⟩=X (Y ad T cap)/\w'.cell? ⟨vb,vo+k*2+1,O⟩=X (I J v.2)/\w'.cell? ⟨z+1,2,O⟩=X (I J d)/\w'.cell? ⟨z+1,3,O⟩=X (I J m)) (first|exact KK.o _ aP.o|exact KK.o _ a9.o|exact KK.o _ S3.o|exact KK.o _ (S3.o.alloc S3.o.size _)|exact KK.o _ (S3.o.setCell (ak _) _)) (first
          |(go_at_call 135;(with_reducible refine dq (CP.o _ (by first|exact aP.o|exact a9.o)) ?_);rintro en x3 ⟨F,N,M,rfl,U3,S3,N3⟩;(try(have nc:ah (x3.heap[t.heap.size]?=X (iC #[Y O 0 0] 42 (0,0))):=(N3.o.block _ (by simp)).trans (show(t.alloc (iC #[Y O 0 0] 42)).drew.heap[t.heap.size]?=_ from az t _);have kc:=am _ _ 0 _ _ _ nc.o;have kf:=aL _ _ 0 _ _ nc.o))))
         all_goals
          go_wp2_with fail;go_meet
          case rel=>first
           |exact⟨rfl,_,F,N,M,rfl,qK.behind U3.o S3.o aP.o.size⟩
           |exact⟨rfl,_,F,N,M,rfl,qK.ahead U3.o S3.o ⟨ak _,by simp⟩ nc.o⟩
        case rest=>
         obtain⟨bF,c,F,N,M,b4,PV⟩:=hcut;subst b4 bF;obtain⟨V,hV⟩:∃V,V=wc:=⟨_,rfl⟩;subst hV;clear CP aP a9 KK x0 x1 x2 U Z y2 y3 c1;have ZL:ah (zb<t.heap.size):=by have:=ZO.o;show _<_;omega
         have EU:=af (EO.o.on PV.o.2.1);have R6:ah (V.heap[zb]?=X (iC #[Y (X ⟨g,0,O⟩) C uc,Y ub um ud,I J nx] 44 (0,0))):=(PV.o.2.1.block zb ZL.o).trans RO.o;have c0:=am _ _ 0 _ _ _ PV.o.1;have p0:=am _ _ 0 _ _ _ R6.o;have p1:=am _ _ 1 _ _ _ R6.o;have p2:=am _ _ 2 _ _ _ R6.o;have pf:=aL _ _ 1 _ _ R6.o;have b9:=aL _ _ 2 _ _ R6.o;obtain⟨U,Z,y2,y3⟩:=EU.o.rc;simp only at U Z y2 y3;have HF:ah (aN 68 g (cn s.fV) V):=bO.o.below (BO.o.trans (PV.o.2.1.mono BO.o.size));have gc:V.cell? ⟨g,k*2+1,O⟩=X (I J v.2):=HF.o.cell (uE _ k v ao.o 1 _ rfl);have gf:V.frozen? ⟨g,k*2+1,O⟩=iF:=HF.o.frozen _;have k0:(0:Int)<=k:=by omega
         have kl:(k:Int)<C:=by omega
         have DN:ah (g≠zb/\z+1≠zb/\z+1≠g/\zb≠g):=by
          have h1:=a5.o;have h2:=bl.o;have h3:=B.o.lt;have h4:=ac.o;have h5:=aE.o;have h6:=bN.o;refine⟨?_,?_,?_,?_⟩<;>omega
         have R7:ah ((V.setCell ⟨zb,1,O⟩ (Y F N M)).heap[zb]?=X (iC #[Y (X ⟨g,0,O⟩) C uc,Y F N M,I J nx] 44 (0,0))):=eo R6.o 1 _;have F1:ah (aN 68 g (cn s.fV) (V.setCell ⟨zb,1,O⟩ (Y F N M))):=aN.loc _ _ _ V _ (λq q1 q2=>aU _ _ _ _ (show q≠zb by have:=DN.o.1;omega)) HF.o
         go_upto_region 20 with fail
         obtain⟨V1,bd⟩:=an (V.setCell ⟨zb,1,O⟩ (Y F N M));rw[bd]at R7 F1⊢;have bo:=af bd;clear bd gc gf p0 p1 p2 pf b9 c0;have p0:=am _ _ 0 _ _ _ R7.o;have gc:V1.cell? ⟨g,k*2+1,O⟩=X (I J v.2):=F1.o.cell (uE _ k v ao.o 1 _ rfl);have gf:V1.frozen? ⟨g,k*2+1,O⟩=iF:=F1.o.frozen _;clear U Z y2 y3;go_upto_region 21 with fail
         rw[<-bo.o];have Q7:ah (((V.setCell ⟨zb,1,O⟩ (Y F N M)).setCell ⟨g,k*2+1,O⟩ (I J R)).heap[zb]?=X (iC #[Y (X ⟨g,0,O⟩) C uc,Y F N M,I J nx] 44 (0,0))):=dC (eo R6.o 1 _) DN.o.2.2.2 _ _;have aC:ah (aN 68 g (cn (s.fV.set k (v.1,R))) ((V.setCell ⟨zb,1,O⟩ (Y F N M)).setCell ⟨g,k*2+1,O⟩ (I J R))):=by
          have h1:aN 68 g (cn s.fV) (V.setCell ⟨zb,1,O⟩ (Y F N M)):=aN.loc _ _ _ V _ (λq q1 q2=>aU _ _ _ _ (show q≠zb by have:=DN.o.1;omega)) HF.o
          have h2:=h1.set (k*2+1) (I J R);rw[DW ao.o]at h2;exact h2
         have av:ah (iL wc.heap.size wc ((V.setCell ⟨zb,1,O⟩ (Y F N M)).setCell ⟨g,k*2+1,O⟩ (I J R))):=by
          have a1:=bl.o;have a2:=aE.o;have a3:=ac.o;have b1:=bM.o.trans ((BO.o.trans (PV.o.2.1.mono BO.o.size)).mono aE.o);exact(b1.setCell (p:=⟨zb,1,O⟩) (show wc.heap.size<=zb by omega) _).setCell (p:=⟨g,k*2+1,O⟩) (show wc.heap.size<=g by omega) _
         have aM:ah (∃lo hi,dt lo hi (Y F N M) L ((V.setCell ⟨zb,1,O⟩ (Y F N M)).setCell ⟨g,k*2+1,O⟩ (I J R))/\zb<lo/\hi<=((V.setCell ⟨zb,1,O⟩ (Y F N M)).setCell ⟨g,k*2+1,O⟩ (I J R)).heap.size):=by
          obtain⟨-,-,lo,hi,h1,h2,h3,-⟩:=PV.o;have hz:((V.setCell ⟨zb,1,O⟩ (Y F N M)).setCell ⟨g,k*2+1,O⟩ (I J R)).heap.size=V.heap.size:=by simp[World.setCell]
          have a1:=ZL.o;have a2:=a5.o;have a3:=ac.o;exact⟨lo,hi,dt.loc _ _ _ _ V _ (λq q1 q2=>(aU _ _ _ _ (show q≠g by omega)).trans (aU _ _ _ _ (show q≠zb by omega))) h1,by omega,by omega⟩
         generalize(V.setCell ⟨zb,1,O⟩ (Y F N M)).setCell ⟨g,k*2+1,O⟩ (I J R)=V2 at Q7 aC av aM⊢;clear p0 gc gf EU R6 HF PV R7 F1 bo;have GL:ah (g<zb/\zb<V2.heap.size):=by
          have a2:=a5.o;have a3:=ac.o;exact⟨by omega,(aJ.1 Q7.o).1⟩
         have ay:ah ((0<=d/\d<=15)/\0<=m/\m<1000000000):=by
          have h1:=bT.o;have h2:=HC.o;show _/\_;omega
         have aQ:ah (∀(n:Int) (V3:iW),(∀q,q≠zb->V3.heap[q]?=V2.heap[q]?)->V3.heap.size=V2.heap.size->dO V3 (iA #[Y (X ⟨g,0,O⟩) C uc,Y F N M,I J n]) ⟨s.fV.set k (v.1,R),L,n⟩):=λn V3 hq hz=>by
          obtain⟨lo,hi,h1,h2,h3⟩:=aM.o;have a1:=GL.o;have bB:(s.fV.set k (v.1,R)).length=C:=by rw[iy];exact ab.o
          refine eB.rd (lo:=0) (zb:=zb) (s:=⟨s.fV.set k (v.1,R),L,n⟩) ⟨_,_,g,g+1,lo,hi,rfl,?_,?_,⟨aI _,.inl (by omega)⟩,⟨aI _,.inr h2⟩,by omega,by omega,.inl (by omega)⟩ ?_
          ·refine .inr ⟨g,uc,by rw[bB],ak _,by omega,?_⟩
           exact aN.loc _ _ _ V2 _ (λq q1 q2=>hq q (by omega)) aC.o
          ·exact dt.loc _ _ _ _ V2 _ (λq q1 q2=>hq q (by omega)) h1
          ·have:=RZ bU.o ao.o ay.o.1 ay.o.2.1 (v.1,R) n;rw[HL.o]at this;exact this
         have aH:ah (aX s ⟨f,i,d,m⟩=(g9 ⟨s.fV.set k (v.1,R),L,if nx<=m then m+1 else nx⟩,iV)):=by
          show _=_;rw[aw.o,bj.o];simp only;rw[ai HC.o,ai k3,ao.o,pL,oT];simp only;rw[HL.o,HR.o,aa.o]
         have q0:=am _ _ 0 _ _ _ Q7.o;have q1:=am _ _ 1 _ _ _ Q7.o;have q2:=am _ _ 2 _ _ _ Q7.o;have qf:=aL _ _ 2 _ _ Q7.o;have aA:=af (bi.o.on av.o);obtain⟨U,Z,y2,y3⟩:=aA.o.rc;simp only at U Z y2 y3;have cj:=ay.o;by_cases aS:nx<=m
         ·have cp:IntKind.i64.wrap (m+1)=m+1:=by rw[cL];omega
          have b0:m≥nx:=aS;have R8:ah ((V2.setCell ⟨zb,2,O⟩ (I J (m+1))).heap[zb]?=X (iC #[Y (X ⟨g,0,O⟩) C uc,Y F N M,I J (m+1)] 44 (0,0))):=bC _ _ 2 _ _ _ Q7.o;have ae:=af (aQ.o (m+1) (V2.setCell ⟨zb,2,O⟩ (I J (m+1))) (λq hq=>aU _ _ _ _ hq) (by simp[World.setCell]))
          have EV:ah (iZ w (V2.setCell ⟨zb,2,O⟩ (I J (m+1))) z (Y (X ⟨vb,vo,O⟩) C vc) (Y ad T cap) (I J nx) ⟨f,i,d,m⟩):=bi.o.on (av.o.setCell (p:=⟨zb,2,O⟩) (by have:=ac.o;have:=aE.o;show wc.heap.size<=zb;omega) _)
          have HE:ah (aX s ⟨f,i,d,m⟩=(g9 ⟨s.fV.set k (v.1,R),L,m+1⟩,iV)):=by
           have:=aH.o;rw[aj aS]at this;exact this
          clear aH aQ aM aC av aA ay;go_upto_region 23 with fail
          clear q0 q1 q2 qf U Z y2 y3;generalize V2.setCell ⟨zb,2,O⟩ (I J (m+1))=V3 at R8 ae EV⊢;have q0:=am _ _ 0 _ _ _ R8.o;have q1:=am _ _ 1 _ _ _ R8.o;have q2:=am _ _ 2 _ _ _ R8.o;go_wp2_with fail;refine(AV _ _ _ ae.o).mono ?_;rintro e wn ⟨u,rfl,D,y⟩;obtain⟨ea,el,ec,eb,em,ed,rfl,P,Q,A⟩:=EV.o.fin HE.o D y;obtain⟨f0,f1,f2,f3,f4,f5⟩:=P.rf;have E:=af Q;have l:=af A;have en:(g9 ⟨s.fV.set k (v.1,R),L,m+1⟩).next=m+1:=rfl;rw[en]at E l⊢;clear D P Q A y q0 q1 q2 en;go_wp2;exact aF (kD (p:=4) (q:=5) rfl _ _ (z+1+1) _ _ _ rfl E.o) rfl l.o
         ·have b0:¬(m≥nx):=aS;have R8:=Q7;have ae:=af (aQ.o nx V2 (λq hq=>rfl) rfl)
          have EV:=aA;have HE:ah (aX s ⟨f,i,d,m⟩=(g9 ⟨s.fV.set k (v.1,R),L,nx⟩,iV)):=by
           have:=aH.o;rw[ai aS]at this;exact this
          clear aH aQ aM aC av ay aA;go_upto_region 23 with fail
          clear q0 q1 q2 qf U Z y2 y3;have q0:=am _ _ 0 _ _ _ R8.o;have q1:=am _ _ 1 _ _ _ R8.o;have q2:=am _ _ 2 _ _ _ R8.o;go_wp2_with fail;refine(AV _ _ _ ae.o).mono ?_;rintro e wn ⟨u,rfl,D,y⟩;obtain⟨ea,el,ec,eb,em,ed,rfl,P,Q,A⟩:=EV.o.fin HE.o D y;obtain⟨f0,f1,f2,f3,f4,f5⟩:=P.rf;have E:=af Q;have l:=af A;have en:(g9 ⟨s.fV.set k (v.1,R),L,nx⟩).next=nx:=rfl;rw[en]at E l⊢;clear D P Q A y q0 q1 q2 en;go_wp2;exact aF (kD (p:=4) (q:=5) rfl _ _ (z+1+1) _ _ _ rfl E.o) rfl l.o
  ·rw[pH hR];have HN:ah (aX s ⟨f,i,d,m⟩=(s,iF)):=by show _=_;rw[aX,ai (λq=>hR q.2)]
   clear hR;obtain⟨x0,x1,x2⟩:=B.o.sc;go_wp2_with fail;refine(mw (SI.o _ B.o.2.1)).mono ?_;rintro e wn ⟨u,rfl,D,y⟩;obtain⟨ea,el,ec,eb,em,ed,rfl,P,Q,A⟩:=B.o.fin HN.o D y;obtain⟨f0,f1,f2,f3,f4,f5⟩:=P.rf;have E:=af Q;have l:=af A;rw[aa.o]at E l⊢;clear D P Q A y x0 x1 x2;go_wp2;exact aF (kD (p:=4) (q:=5) rfl _ _ (z+1+1) _ _ _ rfl E.o) rfl l.o
 ·have bt:dc s=iF:=by simpa using hb
  rw[bt];have HN:ah (aX s ⟨f,i,d,m⟩=(s,iF)):=by show _=_;rw[aX,ai (λq=>hb q.1)]
  clear hb bt;obtain⟨x0,x1,x2⟩:=B.o.sc;go_wp2_with fail;refine(mw (SI.o _ B.o.2.1)).mono ?_;rintro e wn ⟨u,rfl,D,y⟩;obtain⟨ea,el,ec,eb,em,ed,rfl,P,Q,A⟩:=B.o.fin HN.o D y;obtain⟨f0,f1,f2,f3,f4,f5⟩:=P.rf;have E:=af Q;have l:=af A;rw[aa.o]at E l⊢;clear D P Q A y x0 x1 x2;go_wp2;exact aF (kD (p:=4) (q:=5) rfl _ _ (z+1+1) _ _ _ rfl E.o) rfl l.o
theorem Jy {p q:Tmp} (h:fn.results= #[.cell p 44,.tmp q]) (d:Array iX) (w:iW) (g:Nat) (a b c:iX)
 (j:d.getD p undef=iP (X ⟨g,0,O⟩)) (f:w.heap[g]?=X (iC #[a,b,c] 44 (0,0))):
 (results fn d).run Tryz.prog w=.ok (iU #[iA #[a,b,c],d.getD q undef]) w:=by
 have e:d[p]?.getD undef=iP (X ⟨g,0,O⟩):=by simpa using j
 have i:=lx (P:=Tryz.prog) w g 44 44 #[a,b,c] (0,0) _ f Tryz.underlying44 rfl uY;simp[results,h,e,asAddr,i]
def nY(w V:iW)(z zb:Nat)(c d e a b:iX)(t:Sto):Prop:=
 iL w.heap.size w V/\V.heap[z]?=X (iC #[c,d,e] 44 (0,0))/\V.heap[z+1]?=X (iC #[Y O 0 0,Y O 0 0,I J 0] 44 (0,0))/\V.heap[zb]?=X (iC #[a,b,I J t.next] 44 (0,0))/\eB (z+2) zb (iA #[a,b,I J t.next]) t V/\t.Fit/\(w.heap.size=z/\z+2<=zb)
theorem nY.below{w V d:iW}{g i j a b:iX}{t:Sto}(h:nY w V z zb g i j a b t)(c:iL V.heap.size V d):nY w d z zb g i j a b t:=by
 obtain⟨h1,e,f,h4,k,l,m⟩:=h;have n:=(aJ.1 e).1;have o:=(aJ.1 f).1;have p:=(aJ.1 h4).1;exact⟨h1.trans (c.mono h1.size),(c.block _ n).trans e,(c.block _ o).trans f,(c.block _ p).trans h4,k.below c,l,m⟩
theorem IF{a:Option Addr}{k x:iX}(h:mM (iA #[Y a n c,k,x])):n<=c:=by
 obtain⟨b,g,c',f,i,e,d⟩:=h;injection e with e
 injection e with e
 simp only[iQ,jY]at e;obtain⟨e,-⟩:=e;injection e with e1 e2 e3
 omega
theorem Iw{w a c:iW}(h:iL B w a)(d:B<=a.heap.size)(b:iL a.heap.size a c):iL B w c:=h.trans (b.mono d)
theorem An{w W:iW}(h:iL B w W)(e:B<=c)(a b d:iX):iL B w (((W.setCell ⟨c,0,O⟩ a).setCell ⟨c,1,O⟩ b).setCell ⟨c,2,O⟩ d):=((h.setCell (p:=⟨c,0,O⟩) e a).setCell (p:=⟨c,1,O⟩) e b).setCell (p:=⟨c,2,O⟩) e d
def qV(d V:iW)(c:Nat)(a b:iX)(t:Sto):Prop:=V.heap[c]?=X (iC #[a,b,I J t.next] 44 (0,0))/\eB d.heap.size c (iA #[a,b,I J t.next]) t V/\iL d.heap.size d V/\mM (iA #[a,b,I J t.next])
theorem qV.late{c W V:iW}{a b:iX}{t:Sto}(d:iL c.heap.size c V)(f:fh W t (iA #[a,b,I J t.next]) V)(h:c.heap.size<=W.heap.size)(e:mM (iA #[a,b,I J t.next])):qV c (V.alloc (iC #[a,b,I J t.next] 44)) V.heap.size a b t:=
 ⟨az V _,(eB.of f h (.inr (ak _))).below (aY),d.alloc d.size _,e⟩
theorem qV.early{d W V:iW}{a b i j k:iX}{t:Sto}(e:iL d.heap.size d V)(f:fh W t (iA #[a,b,I J t.next]) V)(h:V.heap[c]?=X (iC #[i,j,k] 44 (0,0)))(h0:d.heap.size<=c)(h1:c<W.heap.size)(g:mM (iA #[a,b,I J t.next])):qV d (((V.setCell ⟨c,0,O⟩ a).setCell ⟨c,1,O⟩ b).setCell ⟨c,2,O⟩ (I J t.next)) c a b t:=
 ⟨n7 h,(eB.of f (by omega) (.inl h1)).set.set.set,An e h0 _ _ _,g⟩
theorem nY.take{w V:iW}{i j k a b d f:iX}{t t':Sto}(h:nY w V z zb i j k a b t)(o:eB B c (iA #[d,f,I J t'.next]) t' V)(y:zb<B)(n:t'.Fit):nY w (((V.setCell ⟨zb,0,O⟩ d).setCell ⟨zb,1,O⟩ f).setCell ⟨zb,2,O⟩ (I J t'.next)) z zb i j k d f t':=by
 obtain⟨h1,l,m,h4,-,-,g⟩:=h;have p:=g.1;have q:=g.2;obtain⟨vv,kv,lo1,hi1,lo2,hi2,e,r,s,A,C,u,v,x⟩:=o;have hs:eB (z+2) zb (iA #[d,f,I J t'.next]) t' V:=⟨vv,kv,lo1,hi1,lo2,hi2,e,r,s,⟨by omega,.inr (by omega)⟩,⟨by omega,.inr (by omega)⟩,u,v,x⟩
 exact⟨An h1 (by omega) _ _ _,dC (dC (dC l (by omega) _ _) (by omega) _ _) (by omega) _ _,dC (dC (dC m (by omega) _ _) (by omega) _ _) (by omega) _ _,n7 h4,hs.set.set.set,n,g⟩
theorem P7:Ql 68:=by
 intro v s la ln lc l w aS ao hl;obtain⟨va,vl,vc,ad,C,cap,rs,ev,-⟩:=id ao;have ae:=af ao;have T0:=af (Tk.two w #[Y va vl vc,Y ad C cap,I J s.next] #[Y O 0 0,Y O 0 0,I J 0] 44 44);unfold eC at ev;rw[ev];rw[ev]at ae;obtain⟨nx,au⟩:=an s.next;have N:=af au;rw[au]at T0 ae⊢;have HL:=af hl;have aC:=af (show l.length=ln by have:=hl.1;simpa using this)
 have aM:=af ao.fit;clear ao ev hl au;go_enter Tryz.func68,Tryz.ntmps68;go_wp2_with fail;generalize(w.alloc (iC #[Y va vl vc,Y ad C cap,I J nx] 44)).alloc (iC #[Y O 0 0,Y O 0 0,I J 0] 44)=w0 at T0⊢;have B0:=af T0.o.1;have XR:=af (T0.o.get 0 rfl);have X1:=af (T0.o.get 1 rfl);obtain⟨z,hz⟩:=an w.heap.size;have ar:=af hz;rw[hz]at XR X1⊢;clear hz T0;have HZ:ah (z+1<w0.heap.size):=(aJ.1 XR.o).1;refine(mw (ae.o.below B0.o)).mono ?_;rintro e w1 ⟨u,rfl,hu,aj⟩;obtain⟨ua,ul,uc,ub,um,ud,rfl⟩:=hu.form;rw[N.o];have B1:=af hu.blw;have aB:=af aj;rw[N.o]at aB;have ag:ah (nY w (w1.alloc (iC #[Y ua ul uc,Y ub um ud,I J nx] 44)) z w1.heap.size (Y va vl vc) (Y ad C cap) (I J nx) (Y ua ul uc) (Y ub um ud) s):=by
  have bb:=B0.o.trans (B1.o.mono B0.o.size);have n:=aO w1 (iC #[Y ua ul uc,Y ub um ud,I J nx] 44);have aV:=HZ.o;have aU:=B1.o.size;have aR:=ar.o;refine⟨bb.trans (n.mono bb.size),(n.block z (by omega)).trans ((B1.o.block z (by omega)).trans X1.o),(n.block (z+1) (by omega)).trans ((B1.o.block (z+1) (by omega)).trans XR.o),by rw[N.o];exact az w1 _,?_,aM.o,aR,by omega⟩
  exact(eB.of hu (by omega) (.inr (ak _))).below n
 obtain⟨zb,aH⟩:=an w1.heap.size;rw[aH]at ag;clear hu aj B1 XR X1;go_wp2_with fail;generalize w1.alloc (iC #[Y ua ul uc,Y ub um ud,I J nx] 44)=w2 at ag⊢;clear aH;go_loopw [7] (λkv V=>∃(k:Nat) (t:Sto) (T:Option Addr) (R Q:Nat) (n:Option Addr) (Z U:Nat),k<=ln/\kv=I J k/\ah (dL s (l.take k)=X t/\nY w V z zb (Y va vl vc) (Y ad C cap) (I J nx) (Y T R Q) (Y n Z U) t/\R<=Q)) (λkv _=>ln-(intOf kv).toNat)
 case atStart=>exact⟨0,s,ua,ul,uc,ub,um,ud,aI _,rfl,by rw[wh,dL],ag.o,IF aB.o⟩
 case round=>
  obtain⟨k,t,T,R,Q,n,Z,U,hk,rfl,y⟩:=hrel;clear ag;by_cases aT:(k:Int)<ln
  ·obtain⟨r,hr⟩:∃r,l[k]?=X r:=⟨_,ay (by have:=aC.o;omega)⟩
   obtain⟨b,j,e,hb,c0,c1,c2,c3⟩:=(HL.o.below y.o.2.1.1).at (show(l.map Rc.tu)[k]?=X r.tu by rw[bk,hr];rfl)
   subst e;have k0:(0:Int)<=k:=by omega
   have aD:=af hr;obtain⟨f,F,B,fC⟩:=r;simp only[Rc.tu]at c0 c1 c2 c3;obtain⟨tn,x⟩:=an t.next;have aE:=af x;have d:=y.o.2.1.2.2.2.1;rw[x]at d;have ai:ah (zb<wr.heap.size):=(aJ.1 d).1;have y0:=am _ _ 0 _ _ _ d;have y1:=am _ _ 1 _ _ _ d;have y2:=am _ _ 2 _ _ _ d;have av:wr.cell? ⟨zb,0,O⟩=X (Y T R Q):=y0;have aw:wr.cell? ⟨zb,1,O⟩=X (Y n Z U):=y1;have aA:wr.cell? ⟨zb,2,O⟩=X (I J tn):=y2;obtain⟨S,ok,hE⟩:∃S ok,aX t ⟨f,F,B,fC⟩=(S,ok):=⟨_,_,rfl⟩;have ab:=af hE;have aK:ah S.Fit:=by
    have:=Qe y.o.2.1.2.2.2.2.2.1 ⟨f,F,B,fC⟩;rw[hE]at this;exact this
   have CE:ah (∀W,iL wr.heap.size wr W->iK Tryz.prog 97 #[iA #[Y T R Q,Y n Z U,I J tn],iA #[I J f,I J F,I J B,I J fC]] W λe w'=>∃K E D pb M L,e=G (iU #[iA #[Y K E D,Y pb M L,I J S.next],iB ok])/\fh W S (iA #[Y K E D,Y pb M L,I J S.next]) w'/\mM (iA #[Y K E D,Y pb M L,I J S.next])):=λW H=>by
    have S1:=y.o.2.1.below H;have hi:=S1.2.2.2.2.1.rd S1.2.2.2.2.2.1;rw[aE.o]at hi;refine(Tb _ t ⟨f,F,B,fC⟩ W hi ⟨_,_,_,_,_,rfl,y.o.2.2⟩).mono ?_;rintro e w' ⟨u,rfl,hu,aj⟩;rw[ab.o]at hu;simp only at hu;obtain⟨K,E,D,pb,M,L,rfl⟩:=hu.form;rw[ab.o];exact⟨K,E,D,pb,M,L,rfl,hu,aj⟩
   have KK:ah (∀W,iL wr.heap.size wr W->(W.cell? ⟨zb,0,O⟩=X (Y T R Q)/\W.cell? ⟨zb,1,O⟩=X (Y n Z U)/\W.cell? ⟨zb,2,O⟩=X (I J tn))/\W.cell? ⟨b,j+k*4,O⟩=X (I J f)/\W.cell? ⟨b,j+k*4+1,O⟩=X (I J F)/\W.cell? ⟨b,j+k*4+2,O⟩=X (I J B)/\W.cell? ⟨b,j+k*4+3,O⟩=X (I J fC)):=λW H=>⟨⟨(H.cell (show zb<wr.heap.size from ai.o)).trans av,(H.cell (show zb<wr.heap.size from ai.o)).trans aw,(H.cell (show zb<wr.heap.size from ai.o)).trans aA⟩,(H.cell (show b<wr.heap.size from hb)).trans c0,(H.cell (show b<wr.heap.size from hb)).trans c1,(H.cell (show b<wr.heap.size from hb)).trans c2,(H.cell (show b<wr.heap.size from hb)).trans c3⟩
   have A:ah (iL wr.heap.size wr wr.drew):=(ax _ _).drew;have P:ah (iL wr.heap.size wr (wr.alloc (iC #[Y O 0 0,Y O 0 0,I J 0] 44)).drew):=(aY).drew;clear hr d y0 y1 y2 x hE;go_upto_region 5 with fail
   obtain⟨wq,aQ⟩:∃wq,wq=wr:=⟨_,rfl⟩;subst aQ;go_cut [8,9]from 12 to 31 (λs8 s9 V=>s9=iB ok/\∃(c:Nat) (K:Option Addr) (E D:Nat) (pb:Option Addr) (M L:Nat),s8=iP (X ⟨c,0,O⟩)/\ah (qV wq V c (Y K E D) (Y pb M L) S))
   case first=>
    go_region_held3 (λw'=>(w'.cell? ⟨zb,0,O⟩=X (Y T R Q)/\w'.cell? ⟨zb,1,O⟩=X (Y n Z U)/\w'.cell? ⟨zb,2,O⟩=X (I J tn))/\w'.cell? ⟨b,j+k*4,O⟩=X (I J f)/\w'.cell? ⟨b,j+k*4+1,O⟩=X (I J F)/\w'.cell? ⟨b,j+k*4+2,O⟩=X (I J B)/\w'.cell? ⟨b,j+k*4+3,O⟩=X (I J fC)) (first|exact KK.o _ A.o|exact KK.o _ P.o|exact KK.o _ h.o|exact KK.o _ (h.o.alloc h.o.size _)|exact KK.o _ (An h.o (ak _) _ _ _)) (first
     |(go_at_call 97;(with_reducible refine dq (CE.o _ (by first|exact A.o|exact P.o)) ?_);rintro en x3 ⟨K,E,D,pb,M,L,rfl,U3,P3⟩;have PP:=af P3;have h:ah (iL wq.heap.size wq x3):=(by first|exact Iw A.o A.o.size U3.blw|exact Iw P.o P.o.size U3.blw);(try(have nc:ah (x3.heap[wq.heap.size]?=X (iC #[Y O 0 0,Y O 0 0,I J 0] 44 (0,0))):=(U3.blw.block _ (by simp)).trans (show(wq.alloc (iC #[Y O 0 0,Y O 0 0,I J 0] 44)).drew.heap[wq.heap.size]?=_ from az wq _);have aW:=am _ _ 0 _ _ _ nc.o;have aZ:=am _ _ 1 _ _ _ nc.o;have a0:=am _ _ 2 _ _ _ nc.o;have a1:=aL _ _ 0 _ _ nc.o;have a2:=aL _ _ 1 _ _ nc.o;have a3:=aL _ _ 2 _ _ nc.o));have UU:=af U3;clear U3 P3))
    all_goals
     go_wp2_with fail;go_meet
     case rel=>first
      |exact⟨rfl,_,_,_,_,_,_,_,rfl,af (qV.late h.o UU.o A.o.size PP.o)⟩
      |exact⟨rfl,_,_,_,_,_,_,_,rfl,af (qV.early h.o UU.o nc.o (ak _) (by simp) PP.o)⟩
   case rest=>
    obtain⟨aP,c,K,E,D,pb,M,L,aN,NV⟩:=hcut;subst aP aN;obtain⟨V,hV⟩:∃V,V=wc:=⟨_,rfl⟩;subst hV;clear CE KK A P av aw aA c0 c1 c2 c3;have h:=af (y.o.2.1.below NV.o.2.2.1);obtain⟨m,hm⟩:=an S.next;have HM:=af hm;have NC:=NV.o.1;rw[hm]at NC;have n0:=am _ _ 0 _ _ _ NC;have n1:=am _ _ 1 _ _ _ NC;have n2:=am _ _ 2 _ _ _ NC;have d:=h.o.2.2.2.1;rw[aE.o]at d;cases ok with
    |true=>
     have q0:=am _ _ 0 _ _ _ d;have q1:=am _ _ 1 _ _ _ d;have q2:=am _ _ 2 _ _ _ d;have g0:=aL _ _ 0 _ _ d;have g1:=aL _ _ 1 _ _ d;have g2:=aL _ _ 2 _ _ d;have NX:ah (dL s (l.take (k+1))=X S/\nY w (((V.setCell ⟨zb,0,O⟩ (Y K E D)).setCell ⟨zb,1,O⟩ (Y pb M L)).setCell ⟨zb,2,O⟩ (I J m)) z zb (Y va vl vc) (Y ad C cap) (I J nx) (Y K E D) (Y pb M L) S/\E<=D):=by
      refine⟨by rw[Ip y.o.1 aD.o,ab.o];rfl,?_,IF NV.o.2.2.2⟩
      have:=h.o.take NV.o.2.1 ai.o aK.o;rw[HM.o]at this;exact this
     clear hm d y h NV NC;go_wp2;go_roundw
     case rel=>exact⟨k+1,_,K,E,D,pb,M,L,by omega,by go_num,NX⟩
     case measure=>simp[intOf];omega
    |false=>
     have HE:=af (Pz y.o.1 aD.o (by rw[ab.o]))
     have x0:V.cell? ⟨z,0,O⟩=X (Y va vl vc):=am _ _ 0 _ _ _ h.o.2.1;have x1:V.cell? ⟨z,1,O⟩=X (Y ad C cap):=am _ _ 1 _ _ _ h.o.2.1;have x2:V.cell? ⟨z,2,O⟩=X (I J nx):=am _ _ 2 _ _ _ h.o.2.1;have CC:=af (mw (ae.o.below h.o.1));have aG:ah (z+1<V.heap.size):=(aJ.1 h.o.2.2.1).1;have B4:=af h.o.1;have R4:=af h.o.2.2.1;clear hm d y h NV NC;go_wp2_with fail;refine CC.o.mono ?_;rintro e w5 ⟨u5,rfl,ap,-⟩;obtain⟨ga,gl,gc,gb,gm,gd,rfl⟩:=ap.form;rw[N.o];have i:=(ap.blw.block (z+1) aG.o).trans R4.o;have r0:=am _ _ 0 _ _ _ i;have r1:=am _ _ 1 _ _ _ i;have r2:=am _ _ 2 _ _ _ i;have f0:=aL _ _ 0 _ _ i;have f1:=aL _ _ 1 _ _ i;have f2:=aL _ _ 2 _ _ i;have FR:=af (n7 (a:=Y ga gl gc) (b:=Y gb gm gd) (c:=I J nx) i);have aq:ah (Ao w (i8 s l) (G (iU #[iA #[Y ga gl gc,Y gb gm gd,I J nx],iB iF])) (((w5.setCell ⟨z+1,0,O⟩ (Y ga gl gc)).setCell ⟨z+1,1,O⟩ (Y gb gm gd)).setCell ⟨z+1,2,O⟩ (I J nx))):=by
      rw[HE.o];refine⟨_,rfl,?_⟩;have:=ap.set3 (w0:=w) (a:=Y ga gl gc) (b:=Y gb gm gd) (c:=I J nx) B4.o (g:=z+1) aG.o (by have:=ar.o;omega)
      rw[N.o]at this;exact this
     clear ap i CC;go_wp2;exact aF (Jy (p:=4) (q:=5) rfl _ _ (z+1) _ _ _ rfl FR.o) rfl aq.o
  ·have HE:ah (i8 s l=(t,iV)):=by
    have:=y.o.1;rw[cm (by have:=aC.o;omega)]at this
    exact Ou this
   obtain⟨tn,x⟩:=an t.next;have S1:=af y.o.2.1;have d:=S1.o.2.2.2.1;rw[x]at d;have y0:=am _ _ 0 _ _ _ d;have y1:=am _ _ 1 _ _ _ d;have y2:=am _ _ 2 _ _ _ d;have av:wr.cell? ⟨zb,0,O⟩=X (Y T R Q):=y0;have aw:wr.cell? ⟨zb,1,O⟩=X (Y n Z U):=y1;have aA:wr.cell? ⟨zb,2,O⟩=X (I J tn):=y2;have i:=S1.o.2.2.1;have r0:=am _ _ 0 _ _ _ i;have r1:=am _ _ 1 _ _ _ i;have r2:=am _ _ 2 _ _ _ i;have f0:=aL _ _ 0 _ _ i;have f1:=aL _ _ 1 _ _ i;have f2:=aL _ _ 2 _ _ i;have FR:=af (n7 (a:=Y T R Q) (b:=Y n Z U) (c:=I J tn) i);have aq:ah (Ao w (i8 s l) (G (iU #[iA #[Y T R Q,Y n Z U,I J tn],iB iV])) (((wr.setCell ⟨z+1,0,O⟩ (Y T R Q)).setCell ⟨z+1,1,O⟩ (Y n Z U)).setCell ⟨z+1,2,O⟩ (I J tn))):=by
    rw[HE.o];refine⟨_,rfl,?_⟩;have hh:=S1.o.2.2.2.2.1;rw[x]at hh;exact hh.fin S1.o.1 (by have:=ar.o;omega) (by omega)
   clear y S1 d y0 y1 y2 i x;go_wp2;exact aF (Jy (p:=4) (q:=5) rfl _ _ (z+1) _ _ _ rfl FR.o) rfl aq.o
end Go.Proofs.YtijmbohadndfmaaGreatDoor
