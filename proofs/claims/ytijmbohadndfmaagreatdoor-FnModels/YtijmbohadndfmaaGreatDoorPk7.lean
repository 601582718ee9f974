/-
  SBad; FBlk; Make4; SWipe; Cells; Same; CopyM; ISlices; Shelf; IClone; ICopy; IAt; ISmall; INext; IBlk; IOk; IUse; After; IProg; AfterW; IWipe; StRd; CeVl; VlRow; SArOk; SGet; SAll
-/
import Derived.Test.YtijmbohadndfmaaGreatDoorPk6
import Derived.Lib.SliceRun
import Derived.Shelf.Small.Bits
import Derived.Shelf.Small.Wraps
import Derived.Shelf.Strconv.Itoa0
import Derived.Shelf.LaysM
import Derived.Shelf.Strconv.Clone
import Derived.Shelf.Sort.Plain
import Derived.Shelf.Strings.Prefix
import Derived.Ground.Names2Prog
import Derived.Shelf.Slices.CompactI
import Derived.Shelf.Slices.SearchI
import Derived.Shelf.Slices.Cells
import Derived.Shelf.Slices.In.SortNone
import Derived.Test.YtijmbohadndfmaaGreatDoorProg
open Go.Value renaming int→I,slice→Y,string→iT,bool→iB,agg→iA,tuple→iU
open Go.IntKind renaming i64→J
open Option renaming none→O,some→X
open Go.Ending renaming returned→G
open Go.Obj renaming cells→iC
open Bool renaming true→iV,false→iF
open Go renaming World→iW,Value→iX,Calls→iK
open Go.RowKit renaming Below→iL
set_option maxHeartbeats 2000000
set_option maxRecDepth 100000
namespace Go.Proofs.YtijmbohadndfmaaGreatDoor
open Go.RowKit
variable{b:Int}{ls:List (Int × ByteArray)}{B cap gl m n k:Nat}
theorem MG{w:iW}{xs:List iX}(h:w.ownsRow B 107 3 (Y (X ⟨gl,0,O⟩) n cap) m xs):∀i cs,w.heap[i]?=X (iC cs 38 (0,0))->i≠gl:=by
 intro i cs hi e;subst e;rcases h.2 with⟨h1,-⟩|⟨g,cap,b,h1,-,a,-⟩
 ·cases h1
 ·injection h1 with a1
  simp at a1;subst a1;rw[hi]at a;simp at a
theorem XW{l:List iX}{v:iX}{H:Nat}(h:l.Pairwise (λa b=>a.ownBlock=O∨a.ownBlock≠b.ownBlock))(m:∀a∈l,∀g,a.ownBlock=X g->g<H)(n:∀g,v.ownBlock=X g->H<=g):
 (l.set k v).Pairwise (λa b=>a.ownBlock=O∨a.ownBlock≠b.ownBlock):=by
 rw[mJ]at h⊢;intro i j hi r d;have hi2:i<l.length:=by simpa using hi
 have c:j<l.length:=by simpa using r
 rw[List.getElem_set,List.getElem_set];by_cases h1:k=i
 ·rw[aj h1,ai (by omega)]
  cases e:v.ownBlock with
  |none=>exact Or.inl rfl
  |some g=>
   refine Or.inr (λq=>?_)
   have o:=n g e;have p:=m _ (qy c) g q.symm;omega
 ·rw[ai h1];by_cases f:k=j
  ·rw[aj f];cases e:l[i].ownBlock with
   |none=>exact Or.inl rfl
   |some g=>
    refine Or.inr (λq=>?_)
    have o:=n g q.symm;have p:=m _ (qy hi2) g e;omega
  ·rw[ai f];exact h i j hi2 c d
variable{bs:List Bk}
theorem dm.setBlock {w w':iW} {N:Option Addr} {m:Nat} {b:Bk} {v:iX} (h:dm w B (Y N n m) bs) (P:bs[k]?=X b) (D:iL w.heap.size w w')
 (L:w'.ownsRow w.heap.size 142 2 v ls.length (fi ls)) (T:B<=w.heap.size):
 ∃c,N=X ⟨c,0,O⟩/\(w'.cell? ⟨c,k*3,O⟩=X (iB b.1)/\w'.cell? ⟨c,k*3+1,O⟩=X (I J b.2.1)/\∃x,w'.cell? ⟨c,k*3+2,O⟩=X x)/\(∀j,w'.frozen? ⟨c,j,O⟩=iF)/\B<=c/\c<w.heap.size/\
  (∀i cs,w'.heap[i]?=X (iC cs 38 (0,0))->i≠c)/\
  ∀(x:Bool) (y:Int) (f:Bk->Bk),f b=(x,y,ls)->dm (((w'.setCell ⟨c,k*3,O⟩ (iB x)).setCell ⟨c,k*3+1,O⟩ (I J y)).setCell ⟨c,k*3+2,O⟩ v) B (Y N n m) (bs.modify k f):=by
 obtain⟨ss,rfl,s⟩:=h;rw[bk]at P;obtain⟨r,z,rfl⟩:=sW.1 P;have K:=(aD.1 z).1;obtain⟨aa,M,e,-,-,Z⟩:=lN s.1;injection e with e1 e2 e3
 subst e1 e2 e3;obtain⟨c,rfl,F,E⟩:=Z (by omega)
 have hs:=s.below D (ak _);obtain⟨c1,c2,c3⟩:=zS (k:=k) (t:=fL r) hs.1 (by rw[bk,z];rfl)
 refine⟨c,rfl,⟨c1,c2,_,c3⟩,λj=>hs.1.frozenAt j,F,E,MG hs.1,λx y f V=>⟨ss.set k (x,y,v,ls),JV ss k r f z _ V.symm,?_⟩⟩
 have G:(ss.map fL)[k]?=X (fL r):=by rw[bk,z];rfl
 have l:k<(ss.map fL).length:=by simpa using K
 have Q:=mi hs.1 rfl (k*3) (iB x);have R:=mi Q rfl (k*3+1) (I J y);have S:=mi R rfl (k*3+2) v;have u:∀q d,jD w' B w'.heap.size q d->jD (((w'.setCell ⟨c,k*3,O⟩ (iB x)).setCell ⟨c,k*3+1,O⟩ (I J y)).setCell ⟨c,k*3+2,O⟩ v) B w'.heap.size q d:=λq d p=>by
  have A:jD (w'.setCell ⟨c,k*3,O⟩ (iB x)) B w'.heap.size q d:=⟨p.1.kept (ik _ c _ _) (Aj hs.1 p.1),p.2⟩;have C:jD ((w'.setCell ⟨c,k*3,O⟩ (iB x)).setCell ⟨c,k*3+1,O⟩ (I J y)) B w'.heap.size q d:=⟨A.1.kept (ik _ c _ _) (Aj Q A.1),A.2⟩;exact⟨C.1.kept (ik _ c _ _) (Aj R C.1),C.2⟩
 rw[(yE (ss.map fL) k (fL r) G).1 x,(yE ((ss.map fL).set k (x,(fL r).2.1,(fL r).2.2)) k (x,(fL r).2.1,(fL r).2.2) (by rw[ku l])).2.1 y,zG,
  (yE ((ss.map fL).set k (x,y,(fL r).2.2)) k (x,y,(fL r).2.2) (by rw[ku l])).2.2 v,zG]at S
 have W:((((w'.setCell ⟨c,k*3,O⟩ (iB x)).setCell ⟨c,k*3+1,O⟩ (I J y)).setCell ⟨c,k*3+2,O⟩ v).heap.size)=w'.heap.size:=by simp[World.setCell]
 rw[W];refine⟨?_,λg o=>gX (hs.2.1 g o) D.size,λq p=>?_,?_⟩
 ·rw[p8,iy];exact S
 ·rcases mF p with h1|h1
  ·exact u _ _ ((hs.2.2.1 q h1).up D.size)
  ·subst h1;exact u _ _ ⟨uz L T,λg o=>(iq L g o).2⟩
 ·rw[p8];refine XW (H:=w.heap.size) hs.2.2.2 (λa U g o=>?_) (λg o=>(iq L g o).1)
  obtain⟨q,p,rfl⟩:=bF.1 U;exact(s.2.2.1 q p).2 g o
def iz:Array iX:= #[I J 0,iT ⟨#[]⟩,I J 0,iT ⟨#[]⟩,I J 0,iT ⟨#[]⟩,I J 0,iT ⟨#[]⟩]
theorem Lr:madeCells #[I J 0,iT ⟨#[]⟩] (4*2)=iz:=by
 apply qO.1;simp[madeCells];rfl
theorem Hx(w:iW):(Instr.makeSlice 105 (I J 4) (I J 4)).run Tryz.prog w=.ok (Y (X ⟨w.heap.size,0,O⟩) 4 4) (w.alloc (iC iz 142)):=by
 obtain⟨f,a,b,c,d⟩:=bK yY;have e:=run_make (P:=Tryz.prog) w 105 142 f (iA #[I J 0,iT ⟨#[]⟩]) Tryz.underlying105 a b J J 4 4 (by omega) (kN _) (by rw[d];omega) (by omega)
 rw[c]at e;rw[<-Lr];exact e
theorem Gp(w:iW):(w.alloc (iC iz 142)).ownsRow w.heap.size 142 2 (Y (X ⟨w.heap.size,0,O⟩) 4 4) eK.length (fi eK):=
 ⟨rfl,.inr ⟨w.heap.size,4,iz,rfl,ak _,az w _,ak _,by unfold maxLen;omega,rfl,rfl⟩⟩
theorem M3(h:¬(0<=b/\b<=(bs.length:Int)-1)):qw bs b=iF:=by
 unfold qw;cases a:bs[b.toNat]? with
 |none=>rfl
 |some r=>
  have:=(aD.1 a).1;exact aV (λc=>h ⟨c.1,by omega⟩)
theorem Sz{r:Bk}(h0:0<=b)(a:bs[b.toNat]?=X r):qw bs b=decide (r.1=iF/\r.2.1≠1000000000):=by
 unfold qw;rw[a];simp[h0]
theorem Qb{b:Bk}(h:bn bs=iV)(c:b∈bs):0<=b.2.1/\b.2.1<=1000000000:=by
 simp only[bn,bt,gy]at h;have a:=h.2 b c;simp only[di,bt,bW]at a;exact a.1.2
theorem Lu(v:iX)(rs:List Rw)(b:Int)(w:iW)(hl:rs.length<=1048576)(aa:∀r∈rs,r.2.2.2.length<=1048576)(ha:fO w v rs):
 iK Tryz.prog 146 #[iA #[v],I J b] w λe w'=>∃u,e=G (iU #[iA #[u],iB (gx (rs.map aC) b).2])/\dm w' w.heap.size u (gx (rs.map aC) b).1/\iL w.heap.size w w':=by
 obtain⟨i0,av,aD,aE,aG⟩:=bK yY;have aA:IntKind.i64.wrap ((rs.length:Int)-1)=(rs.length:Int)-1:=by rw[cL];omega
 have S:=af aa;have h1:=ha;obtain⟨C,f,rfl,-,-⟩:=h1;have F:=((ax w.heap.size w).alloc (ak _) (iC #[Y C rs.length f] 38)).alloc (by simp) (iC #[Y O 0 0] 38)
 have ad:=af F;have HA:=af (ha.below F);have r0:=(gU (w.alloc (iC #[Y C rs.length f] 38)) (iC #[Y O 0 0] 38) w.heap.size (by simp)).trans (az w (iC #[Y C rs.length f] 38))
 have r1:=az (w.alloc (iC #[Y C rs.length f] 38)) (iC #[Y O 0 0] 38);rw[show(w.alloc (iC #[Y C rs.length f] 38)).heap.size=w.heap.size+1 by simp]at r1
 have R0:=af r0;have R1:=af r1;have HZ:=af (show((w.alloc (iC #[Y C rs.length f] 38)).alloc (iC #[Y O 0 0] 38)).heap.size=w.heap.size+2 by simp)
 clear ha aa F r0 r1;go_enter Tryz.func146,Tryz.ntmps146;go_wp2_with fail;refine(zU _ rs _ hl S.o HA.o).mono ?_;rintro e n ⟨u,rfl,Z,E⟩;obtain⟨B,a,rfl⟩:=Z.form;rw[aS]at Z;rw[aS];have z1:=E.size;have ab:=af (HA.o.below E);rw[HZ.o]at Z E z1;have q0:=(E.block _ (by omega)).trans R0.o
 have q1:=(E.block _ (by omega)).trans R1.o
 have M:=(ax n.heap.size n).alloc (ak _) (iC #[Y B rs.length a] 38);have q2:=az n (iC #[Y B rs.length a] 38);have p0:=(M.block _ (by omega)).trans q0
 have p1:=(M.block _ (by omega)).trans q1
 have ae:=af ((ad.o.trans (E.mono (by omega))).trans (M.mono (by omega)))
 have ai:=af (Z.below M);have P:=af (ab.o.below M);have P0:=af p0;have P1:=af p1;have P2:=af q2;have V:=af (show(n.alloc (iC #[Y B rs.length a] 38)).heap.size=n.heap.size+1 by simp)
 have k0:(n.alloc (iC #[Y B rs.length a] 38)).cell? ⟨w.heap.size,0,O⟩=X (Y C rs.length f):=am _ _ 0 _ _ _ p0;clear p0 p1 q0 q1 q2 E M Z;go_wp2_with fail;refine(wZ _ rs _ hl S.o P.o).mono ?_;rintro e w3 ⟨rfl,s⟩;have z3:=s.size;have ac:=af (P.o.below s);rw[V.o]at s z3;have t0:=(s.block _ (by omega)).trans P0.o
 have t1:=(s.block _ (by omega)).trans P1.o
 have t2:=(s.block _ (by omega)).trans P2.o
 have D:=af (ae.o.trans (s.mono (by omega)))
 have R:=af (ai.o.below (by rw[V.o];exact s))
 have m0:w3.cell? ⟨w.heap.size,0,O⟩=X (Y C rs.length f):=am _ _ 0 _ _ _ t0;have m1:w3.cell? ⟨w.heap.size+1,0,O⟩=X (Y O 0 0):=am _ _ 0 _ _ _ t1;have m2:w3.cell? ⟨n.heap.size,0,O⟩=X (Y B rs.length a):=am _ _ 0 _ _ _ t2;have f1:=aL _ _ 0 _ _ t1;have W:=af t1;have T2:=af t2;clear t0 t2 t1 s k0;have K:=af (R.o.cell (show w.heap.size+1<w.heap.size+2 by omega) 0 (Y B rs.length a))
 have L:=af (eo W.o 0 (Y B rs.length a));have l:=af (D.o.setCell (p:=⟨w.heap.size+1,0,O⟩) (by show _<=_+1;omega) (Y B rs.length a))
 cases z:bn (rs.map aC)with
 |false=>
  have j:ah (gx (rs.map aC) b=(rs.map aC,iF)):=by show _=_;simp[gx,z]
  clear z;go_wp2;exact aF (jX rfl _ _ (w.heap.size+1) _ rfl L.o) rfl ⟨_,by rw[j.o];rfl,by rw[j.o];exact K.o.down (by omega),l.o⟩
 |true=>
  have T:=af z;clear z;go_wp2_with fail;refine(gT b 0 ((rs.length:Int)-1) _).mono ?_;rintro e c ⟨rfl,rfl⟩;by_cases N:0<=b/\b<=(rs.length:Int)-1
  ·have q:decide (0<=b/\b<=(rs.length:Int)-1)=iV:=aQ N;rw[q];obtain⟨k,rfl⟩:∃k:Nat,b=k:=⟨b.toNat,by omega⟩
   have ar:k<rs.length:=by omega
   have hr:rs[k]?=X rs[k]:=ay ar;generalize rs[k]=r at hr;obtain⟨gv,eg,⟨c1,c2,-⟩,-⟩:=ac.o.at hr;subst eg;obtain⟨x,y,u,ls⟩:=r;simp only at c1 c2;have t:(rs.map aC)[k]?=X (x,y,ls):=by rw[bk,hr];rfl
   have hy:=Qb T.o (aH t);simp only at hy;have HM:=af (Sz (bs:=rs.map aC) (b:=(k:Int)) N.1 (by rw[aZ];exact t))
   have aw:(k:Int)<rs.length:=by omega
   have k0:(0:Int)<=k:=by omega
   have ag:=af t;clear hr N q t;cases x with
   |true=>
    have j:ah (gx (rs.map aC) (k:Int)=(rs.map aC,iF)):=by show _=_;simp[gx,HM.o]
    go_wp2;exact aF (jX rfl _ _ (w.heap.size+1) _ rfl L.o) rfl ⟨_,by rw[j.o];rfl,by rw[j.o];exact K.o.down (by omega),l.o⟩
   |false=>
    by_cases m:y=1000000000
    ·have j:ah (gx (rs.map aC) (k:Int)=(rs.map aC,iF)):=by show _=_;simp[gx,HM.o,m]
     have e9:(y==1000000000)=iV:=by simp[m]
     clear m;go_wp2;exact aF (jX rfl _ _ (w.heap.size+1) _ rfl L.o) rfl ⟨_,by rw[j.o];rfl,by rw[j.o];exact K.o.down (by omega),l.o⟩
    ·have j:ah (gx (rs.map aC) (k:Int)=((rs.map aC).modify k (λr=>(iF,r.2.1+1,eK)),iV)):=by show _=_;simp[gx,HM.o,m,T.o]
     have e9:(y==1000000000)=iF:=by simpa using m
     have aB:IntKind.i64.wrap (y+1)=y+1:=by rw[cL];omega
     clear m;have h:=(ax c.heap.size c).alloc (ak _) (iC iz 142);obtain⟨d,rfl,⟨d1,d2,x3,d3⟩,fz,au,g,i,A⟩:=R.o.setBlock ag.o h (Gp c) (by omega)
     have MK:=Hx;have g1:=fz (k*3);have g2:=fz (k*3+1);have g3:=fz (k*3+2);have aj:=d1;have al:=d2;have an:=d3;rw[h.cell (show d<c.heap.size from g)]at aj al an;have ao:=g1;have ap:=g2;have aq:=g3;rw[h.frozen (show d<c.heap.size from g)]at ao ap aq;have s0:w.heap.size<c.heap.size:=by omega
     have s1:n.heap.size<c.heap.size:=by omega
     have sv:gv<c.heap.size:=bh c _ c1;have n0:w.heap.size≠c.heap.size:=by omega
     have n1:n.heap.size≠c.heap.size:=by omega
     have nv:gv≠c.heap.size:=by omega
     have nu:d≠c.heap.size:=by omega
     have a0:=(h.cell (p:=⟨w.heap.size,0,O⟩) s0).trans m0;have a1:=(h.cell (p:=⟨n.heap.size,0,O⟩) s1).trans m2;have a2:=(h.cell (p:=⟨gv,k*3,O⟩) sv).trans c1;have a3:=(h.cell (p:=⟨gv,k*3+1,O⟩) sv).trans c2;have hp:=A iF (y+1) (λr=>(iF,r.2.1+1,eK)) rfl
     have v1:=dC (dC (dC ((h.block _ (show w.heap.size+1<c.heap.size by omega)).trans W.o) (i _ _ ((h.block _ (show w.heap.size+1<c.heap.size by omega)).trans W.o)) (k*3) (iB iF)) (i _ _ ((h.block _ (show w.heap.size+1<c.heap.size by omega)).trans W.o)) (k*3+1) (I J (y+1))) (i _ _ ((h.block _ (show w.heap.size+1<c.heap.size by omega)).trans W.o)) (k*3+2) (Y (X ⟨c.heap.size,0,O⟩) 4 4)
     have v2:=dC (dC (dC ((h.block _ s1).trans T2.o) (i _ _ ((h.block _ s1).trans T2.o)) (k*3) (iB iF)) (i _ _ ((h.block _ s1).trans T2.o)) (k*3+1) (I J (y+1))) (i _ _ ((h.block _ s1).trans T2.o)) (k*3+2) (Y (X ⟨c.heap.size,0,O⟩) 4 4);have H:=(((D.o.alloc D.o.size (iC iz 142)).setCell (p:=⟨d,k*3,O⟩) (by show _<=d;omega) (iB iF)).setCell (p:=⟨d,k*3+1,O⟩) (by show _<=d;omega) (I J (y+1))).setCell (p:=⟨d,k*3+2,O⟩) (by show _<=d;omega) (Y (X ⟨c.heap.size,0,O⟩) 4 4)
     have U:ah ((((c.alloc (iC iz 142)).setCell ⟨d,k*3,O⟩ (iB iF)).setCell ⟨d,k*3+1,O⟩ (I J (y+1))).setCell ⟨d,k*3+2,O⟩ (Y (X ⟨c.heap.size,0,O⟩) 4 4)=(((c.setCell ⟨d,k*3,O⟩ (iB iF)).setCell ⟨d,k*3+1,O⟩ (I J (y+1))).setCell ⟨d,k*3+2,O⟩ (Y (X ⟨c.heap.size,0,O⟩) 4 4)).alloc (iC iz 142)):=by
      show _=_;rw[AO _ _ _ _ g,AO _ _ _ _ (by simpa[World.setCell]using g),AO _ _ _ _ (by simpa[World.setCell]using g)]
     rw[U.o]at hp v1 v2 H;go_wp2_with fail;go_region;have FP:=af (show dm ((((c.setCell ⟨d,k*3,O⟩ (iB iF)).setCell ⟨d,k*3+1,O⟩ (I J (y+1))).setCell ⟨d,k*3+2,O⟩ (Y (X ⟨c.heap.size,0,O⟩) 4 4)).alloc (iC iz 142)).drew _ _ _ from hp);have V1:=af (show((((c.setCell ⟨d,k*3,O⟩ (iB iF)).setCell ⟨d,k*3+1,O⟩ (I J (y+1))).setCell ⟨d,k*3+2,O⟩ (Y (X ⟨c.heap.size,0,O⟩) 4 4)).alloc (iC iz 142)).drew.heap[w.heap.size+1]?=_ from v1);have V2:=af (show((((c.setCell ⟨d,k*3,O⟩ (iB iF)).setCell ⟨d,k*3+1,O⟩ (I J (y+1))).setCell ⟨d,k*3+2,O⟩ (Y (X ⟨c.heap.size,0,O⟩) 4 4)).alloc (iC iz 142)).drew.heap[n.heap.size]?=_ from v2);have Q:=af H.drew;clear hp v1 v2 H A i U;generalize((((c.setCell ⟨d,k*3,O⟩ (iB iF)).setCell ⟨d,k*3+1,O⟩ (I J (y+1))).setCell ⟨d,k*3+2,O⟩ (Y (X ⟨c.heap.size,0,O⟩) 4 4)).alloc (iC iz 142)).drew=w6 at FP V1 V2 Q⊢;have x5:w6.cell? ⟨w.heap.size+1,0,O⟩=X (Y O 0 0):=am _ _ 0 _ _ _ V1.o;have y5:w6.cell? ⟨n.heap.size,0,O⟩=X (Y (X ⟨d,0,O⟩) rs.length a):=am _ _ 0 _ _ _ V2.o;have f5:=aL _ _ 0 _ _ V1.o;have K:=af (FP.o.cell (show w.heap.size+1<w.heap.size+2 by omega) 0 (Y (X ⟨d,0,O⟩) rs.length a))
     have L:=af (eo V1.o 0 (Y (X ⟨d,0,O⟩) rs.length a));have l:=af (Q.o.setCell (p:=⟨w.heap.size+1,0,O⟩) (by show _<=_+1;omega) (Y (X ⟨d,0,O⟩) rs.length a))
     go_wp2;exact aF (jX rfl _ _ (w.heap.size+1) _ rfl L.o) rfl ⟨_,by rw[j.o];rfl,by rw[j.o];exact K.o.down (by omega),l.o⟩
  ·have q:decide (0<=b/\b<=(rs.length:Int)-1)=iF:=aV N;rw[q];have j:ah (gx (rs.map aC) b=(rs.map aC,iF)):=by show _=_;simp[gx,M3 (bs:=rs.map aC) (b:=b) (by rw[List.length_map];exact N)]
   clear N q;go_wp2;exact aF (jX rfl _ _ (w.heap.size+1) _ rfl L.o) rfl ⟨_,by rw[j.o];rfl,by rw[j.o];exact K.o.down (by omega),l.o⟩
theorem ED(w:iW)(cs:Array iX)(t:TypeId)(g:Nat)(a:w.heap.size=g):∀(j:Nat) (u:iX),cs.toList[j]?=X u->(w.alloc (iC cs t)).cell? ((⟨g,0,O⟩:Addr).add j)=X u:=by
 intro j u b;subst a;rw[eX,am _ _ j _ _ _ (az w (iC cs t))]
 simpa using b
theorem UL(x:Bool)(y:Int)(a:Option Addr)(n c:Nat):∀u∈ [iB x,I J y,Y a n c],u.oneCell'=iV:=by
 intro u b;simp at b;rcases b with h|h|h<;>subst h<;>rfl
end Go.Proofs.YtijmbohadndfmaaGreatDoor
namespace Go.Proofs
open Go.Shelf
def Tryz.lays215_ren : Go.Shelf.Ren := ⟨fun | 215 => 61 | n => n, fun | 3 => 3 | 4 => 4 | n => n, fun | n => n⟩
def Tryz.lays122_ren : Go.Shelf.Ren := ⟨fun | 122 => 38 | 215 => 61 | n => n, fun | 3 => 3 | 4 => 4 | n => n, fun | n => n⟩
theorem Tryz.lays122 : Go.Proofs.Lays.n122 Tryz.prog Tryz.lays122_ren := {
  mixed := by kernel_rfl
  f122 := Tryz.func38.trans (congrArg some (by kernel_rfl))
  f215 := Tryz.func61.trans (congrArg some (by kernel_rfl))
  t3 := Tryz.underlying3
  a3 := Tryz.isAgg3
  z3 := Tryz.sizeOf3
  v3 := Tryz.zeroValue3
  t4 := Tryz.underlying4
  a4 := Tryz.isAgg4
  z4 := Tryz.sizeOf4
  v4 := Tryz.zeroValue4 }
open Go.RowKit in
theorem Tryz.cmp_Compare_int (x y : Int) (w : World) :
    Calls Tryz.prog 38 #[.int .i64 x, .int .i64 y] w fun e w' => e = .returned (.int .i64 (Lib.compareInt x y)) ∧ w' = w := Any.cmp_Compare_int Tryz.lays122 x y w
def Tryz.laysM316_ren : Go.Shelf.Ren := ⟨fun | 316 => 62 | n => n, fun | 9 => 9 | 3 => 3 | 4 => 4 | 37 => 22 | 0 => 0 | 127 => 164 | 5 => 5 | n => n, fun | n => n⟩
theorem Tryz.laysM316 : Go.Proofs.LaysM.n316 Tryz.prog Tryz.laysM316_ren := {
  mixed := by kernel_rfl
  f316 := Tryz.func62.trans (congrArg some (by kernel_rfl))
  t0 := Tryz.underlying0
  a0 := Tryz.isAgg0
  z0 := Tryz.sizeOf0
  v0 := Tryz.zeroValue0
  t3 := Tryz.underlying3
  a3 := Tryz.isAgg3
  z3 := Tryz.sizeOf3
  v3 := Tryz.zeroValue3
  t4 := Tryz.underlying4
  a4 := Tryz.isAgg4
  z4 := Tryz.sizeOf4
  v4 := Tryz.zeroValue4
  t9 := Tryz.underlying9
  a9 := Tryz.isAgg9
  z9 := Tryz.sizeOf9
  v9 := Tryz.zeroValue9
  t37 := Tryz.underlying22
  a37 := Tryz.isAgg22
  z37 := Tryz.sizeOf22
  v37 := Tryz.zeroValue22
  t127 := Tryz.underlying164
  a127 := Tryz.isAgg164
  z127 := Tryz.sizeOf164
  v127 := Tryz.zeroValue164
  t5 := Tryz.underlying5
  a5 := Tryz.isAgg5
  z5 := Tryz.sizeOf5
  v5 := Tryz.zeroValue5
  i0 := by kernel_rfl
  i3 := by kernel_rfl
  i4 := by kernel_rfl
  i5 := by kernel_rfl
  i9 := by kernel_rfl
  i37 := by kernel_rfl
  i127 := by kernel_rfl }
open Go.RowKit in
theorem Tryz.stringslite_Clone (s : ByteArray) (w : World) (hlim : s.size ≤ 281474976710656) :
    Calls Tryz.prog 62 #[.string s] w fun e w' => e = .returned (.string s) ∧ Below w.heap.size w w' := Any.stringslite_Clone Tryz.laysM316 s w hlim
end Go.Proofs
namespace Go.Proofs.YtijmbohadndfmaaGreatDoor
open Go.RowKit
def fj(w:iW)(v:iX)(bs:List Bk):Prop:=∃rs:List Rw,rs.map aC=bs/\fO w v rs
def dg(bs:List Bk):Prop:=bs.length<=1048576/\∀r∈bs,r.2.2.length<=1048576/\∀t∈r.2.2,t.2.size<=1048576
variable{v:Int × Int}{B lo k i:Nat}
variable{bs:List Bk}
theorem fj.below{w w':iW}{v:iX}(h:fj w v bs)(a:iL w.heap.size w w'):fj w' v bs:=by
 obtain⟨rs,e,h⟩:=h;exact⟨rs,e,h.below a⟩
theorem fj.form{w:iW}{v:iX}(h:fj w v bs):∃ad cap,v=Y ad bs.length cap:=by
 obtain⟨rs,rfl,a,vc,e,-⟩:=h;exact⟨a,vc,by rw[e,aS]⟩
theorem dm.rdb{w:iW}{v:iX}(h:dm w B v bs):fj w v bs:=by
 obtain⟨ss,e,h⟩:=h;exact⟨ss,e,h.rd⟩
theorem cu.rdb{w:iW}{hi:Nat}{v:iX}(h:cu lo hi v bs w):fj w v bs:=by
 obtain⟨ss,e,h⟩:=h;exact⟨ss,e,h.rd⟩
theorem fj.lens{w:iW}{v:iX}(h:fj w v bs)(hs:dg bs):∃rs:List Rw,rs.map aC=bs/\fO w v rs/\rs.length<=1048576/\(∀r∈rs,r.2.2.2.length<=1048576)/\uP rs:=by
 obtain⟨rs,rfl,h⟩:=h;refine⟨rs,rfl,h,by have:=hs.1;rwa [aS]at this,λr a=>(hs.2 _ (ou (f:=aC) a)).1,λr a t b=>(hs.2 _ (ou (f:=aC) a)).2 t b⟩
theorem dg.modify(h:dg bs)(k:Nat)(f:Bk->Bk)(a:∀r∈bs,(f r).2.2.length<=1048576/\∀t∈(f r).2.2,t.2.size<=1048576):dg (bs.modify k f):=by
 refine⟨by rw[ye];exact h.1,λr b=>?_⟩
 obtain⟨i,hi,rfl⟩:=nJ b;rw[ye]at hi;rw[List.getElem_modify];split
 ·exact a _ (qy _)
 ·exact h.2 _ (qy _)
theorem dg.prog(h:dg bs)(b leaf:Int)(t:ByteArray):dg (fY bs b leaf t).1:=by
 unfold fY;split
 ·rename_i h1
  rw[bt]at h1;have e:t.size<=120:=by
   have a:=h1.2;unfold ij at a;split at a
   ·cases a
   ·exact(qc a).2.2.2.2.2
  refine h.modify _ _ (λr d=>⟨by rw[iy];exact(h.2 r d).1,λu c=>?_⟩)
  rcases mF c with c|rfl
  ·exact(h.2 r d).2 u c
  ·simp only;omega
 ·exact h
theorem dg.wipe(h:dg bs)(b:Int):dg (gx bs b).1:=by
 unfold gx;split
 ·refine h.modify _ _ (λr c=>⟨by simp[eK],λu a=>?_⟩)
  simp only[eK,bf,dV,ez]at a;rcases a with rfl|rfl|rfl|rfl<;>exact aI _
 ·exact h
theorem dg.step(h:dg bs)(s:aM):dg (cP bs s).1:=by
 unfold cP;split
 ·exact h.prog _ _ _
 ·split
  ·exact h.wipe _
  ·exact h
theorem dg.all(h:dg bs)(l:List aM):dg (da bs l).1:=by
 induction l generalizing bs with
 |nil=>exact h
 |cons s l a=>
  simp only[da];split
  ·exact a (h.step s)
  ·exact h
theorem xi(v:iX)(bs:List Bk)(w:iW)(hs:dg bs)(a:fj w v bs):
 iK Tryz.prog 64 #[iA #[v]] w λe w'=>∃u,e=G (iA #[u])/\dm w' w.heap.size u bs/\iL w.heap.size w w':=by
 obtain⟨rs,rfl,h,l,b,c⟩:=a.lens hs;exact zU v rs w l b h
theorem Vy(v:iX)(bs:List Bk)(b leaf:Int)(t:ByteArray)(w:iW)(hs:dg bs)(a:fj w v bs):
 iK Tryz.prog 145 #[iA #[v],I J b,I J leaf,iT t] w λe w'=>∃u,e=G (iU #[iA #[u],iB (fY bs b leaf t).2])/\dm w' w.heap.size u (fY bs b leaf t).1/\iL w.heap.size w w':=by
 obtain⟨rs,rfl,h,l,c,d⟩:=a.lens hs;exact Zr v rs b leaf t w l c h
theorem YT(v:iX)(bs:List Bk)(b:Int)(w:iW)(hs:dg bs)(a:fj w v bs):
 iK Tryz.prog 146 #[iA #[v],I J b] w λe w'=>∃u,e=G (iU #[iA #[u],iB (gx bs b).2])/\dm w' w.heap.size u (gx bs b).1/\iL w.heap.size w w':=by
 obtain⟨rs,rfl,h,l,c,d⟩:=a.lens hs;exact Lu v rs b w l c h
def nR(t:Int×Int):List iX:=[I J t.1,I J t.2]
def cn(l:List (Int×Int)):List iX:=l.flatMap nR
theorem Ll(l:List (Int×Int)):(cn l).length=l.length*2:=by
 induction l with
 |nil=>rfl
 |cons t l a=>simp[cn,nR]at a⊢;omega
theorem Kv(a b:List (Int×Int)):cn (a++b)=cn a++cn b:=by simp[cn]
theorem Bd(t:Int×Int)(l:List (Int×Int)):cn (t::l)=nR t++cn l:=by simp[cn]
theorem uE(l:List (Int×Int))(k:Nat)(t:Int×Int)(h:l[k]?=X t)(j:Nat)(v:iX)(b:(nR t)[j]?=X v):(cn l)[k*2+j]?=X v:=by
 have c:j<2:=(aD.1 b).1
 induction l generalizing k with
 |nil=>simp at h
 |cons a l d=>
  rw[Bd];cases k with
  |zero=>
   simp at h;subst h;rw[lz (by show _<2;omega),lq,dK]
   exact b
  |succ k=>
   rw[dz (by show 2<=_;omega),show(k+1)*2+j-(nR a).length=k*2+j by show _-2=_;omega]
   exact d k (by simpa using h)
theorem Ww(l:List (Int×Int)):∀v∈cn l,v.oneCell'=iV:=by
 intro v b;obtain⟨t,-,a⟩:=lE.1 b;simp[nR]at a;rcases a with h|h<;>subst h<;>rfl
theorem vE:(Tryz.prog.info? 68).map (λi=>(i.zero,i.size,i.bytes))=X (X (iA #[I J 0,I J 0]),2,16):=by kernel_rfl
theorem DW{l:List (Int×Int)}(h:l[k]?=X v)(r:Int):(cn l).set (k*2+1) (I J r)=cn (l.set k (v.1,r)):=by
 induction l generalizing k with
 |nil=>simp at h
 |cons a l b=>
  cases k with
  |zero=>
   simp at h;subst h;rfl
  |succ k=>
   have e:(k+1)*2+1=(k*2+1)+2:=by omega
   rw[e,bp,Bd,Bd,<-b (by simpa using h)]
   rfl
def gn(w:iW)(a:Option Addr)(c:Nat)(ls:List (Int×Int)):Prop:=
 ls.length=c/\c<=maxLen/\(∀t∈ls,True)/\(0<c->∃b d,a=X ⟨b,d,O⟩/\b<w.heap.size/\∀i t,ls[i]?=X t->w.cell? ⟨b,d+i*2,O⟩=X (I J t.1)/\w.cell? ⟨b,d+i*2+1,O⟩=X (I J t.2))
theorem gn.below{w w':iW}{a:Option Addr}{c:Nat}{ls:List (Int×Int)}(h:gn w a c ls)(d:iL w.heap.size w w'):gn w' a c ls:=by
 obtain⟨h1,k,l,h4⟩:=h;refine⟨h1,k,l,λh0=>?_⟩
 obtain⟨b,f,e,g,m⟩:=h4 h0;have hs:=d.size;refine⟨b,f,e,by omega,λi t n=>?_⟩
 obtain⟨j,c1⟩:=m i t n;exact⟨(d.cell (show b<w.heap.size from g)).trans j,(d.cell (show b<w.heap.size from g)).trans c1⟩
theorem gn.at{w:iW}{a:Option Addr}{d:Nat}{ls:List (Int×Int)}(h:gn w a d ls){t:Int×Int}(f:ls[k]?=X t):
 ∃b c,a=X ⟨b,c,O⟩/\b<w.heap.size/\w.cell? ⟨b,c+k*2,O⟩=X (I J t.1)/\w.cell? ⟨b,c+k*2+1,O⟩=X (I J t.2):=by
 obtain⟨h1,-,-,h4⟩:=h;have l:=(aD.1 f).1;obtain⟨b,c,e,i,j⟩:=h4 (by omega)
 obtain⟨g,c1⟩:=j k t f;exact⟨b,c,e,i,g,c1⟩
open Words
theorem sK(w:iW)(v:iX):(w.alloc (iC #[v] 42)).cell? ⟨w.heap.size,0,O⟩=X v:=(am _ _ 0 _ _ _ (az w _)).trans rfl
theorem wu{rs:List Kw}{r:Kw}(h:rs[i]?=X r):(rs.map aG)[i]?=X (aG r):=by rw[bk,h];rfl
theorem vU(ad:Option Addr)(a cap:Nat)(rs:List Kw)(w:iW)(hl:a<=1048578)(h:eH w ad a rs):
 iK Tryz.prog 101 #[iA #[Y ad a cap]] w λe w'=>e=G (iB (cO (rs.map aG)))/\iL w.heap.size w w':=by
 have H1:=af h.1;have BX:=af (sK w (Y ad a cap));have d:=af (aO w (iC #[Y ad a cap] 42));have H:=af (h.below d.o);have V:w.heap.size<(w.alloc (iC #[Y ad a cap] 42)).heap.size:=by simp
 have HZ:=af V;clear h V;obtain⟨L,hL⟩:=an (rs.map aG);have HL:=af hL;rw[hL];clear hL;go_enter Tryz.func101,Tryz.ntmps101;go_wp2;generalize w.alloc (iC #[Y ad a cap] 42)=wb at BX d H HZ⊢;obtain⟨z,hz⟩:=an w.heap.size;rw[hz]at BX HZ⊢;have ai:=af hz;clear hz;go_loopw [3] (λiv W=>∃i:Nat,i<=a/\iv=I J i/\ah (lI L i=iV)/\ah (iL wb.heap.size wb W)) (λiv _=>a-(intOf iv).toNat)
 case atStart=>exact⟨0,aI _,rfl,rfl,ax _ _⟩
 case round=>
  obtain⟨i,hi,rfl,HA,B⟩:=hrel;have bx:=(B.o.cell (show z<wb.heap.size from HZ.o)).trans BX.o;by_cases aj:(i:Int)<a
  ·obtain⟨r,hr⟩:∃r,rs[i]?=X r:=⟨_,ay (by have:=H1.o;omega)⟩
   obtain⟨b,ao,e,hb⟩:=H.o.adr (by omega)
   subst e;have KR:=af (H.o.below B.o);obtain⟨c0,c1⟩:=KR.o.cell hr;have KI:=KR.o.2.2.1 r (aH hr);have C:L[i]?=X (aG r):=by rw[<-HL.o];exact wu hr
   obtain⟨lf,kv,Q⟩:=r;simp only at c0 c1 KI;simp only[aG]at C;obtain⟨M,N,e,-,kr⟩:=KI;subst e;have c:=af kr;have A:=af C;obtain⟨t,D⟩:=an Q.length;have l:=af D;rw[D]at c1 c;have ac:t<=maxLen:=c.o.2.1;unfold maxLen at ac;clear kr C D hr hb;have i0:(0:Int)<=i:=by omega
   have BA:=af (aO wr (iC #[iB lf,Y M t N] 205));have X0:ah ((wr.alloc (iC #[iB lf,Y M t N] 205)).cell? ⟨wr.heap.size,0,O⟩=X (iB lf)/\(wr.alloc (iC #[iB lf,Y M t N] 205)).cell? ⟨wr.heap.size,1,O⟩=X (Y M t N)):=⟨(am _ _ 0 _ _ _ (az wr _)).trans rfl,(am _ _ 1 _ _ _ (az wr _)).trans rfl⟩;by_cases T:t=4
   ·subst T;have n4:((4:Int) !=4)=iF:=by simp
    go_wp2;clear n4;have p:ah (iL wb.heap.size wb (wr.alloc (iC #[iB lf,Y M 4 N] 205))):=B.o.trans (BA.o.mono B.o.size);have KX:=af (KR.o.below BA.o);have R:=af (c.o.below BA.o);have aa:=(p.o.cell (show z<wb.heap.size from HZ.o)).trans BX.o;have x0:=X0.o.1;have x1:=X0.o.2;clear X0 BA KR c c0 c1 bx;obtain⟨y,hy⟩:=an wr.heap.size;rw[hy]at x0 x1⊢;clear hy;generalize wr.alloc (iC #[iB lf,Y M 4 N] 205)=wx at x0 x1 aa p KX R⊢;go_loopw [5] (λkv W=>∃k:Nat,k<=4/\kv=I J k/\ah (∀j n,j<k->Q[j]?=X n->fN L i lf n=iV)/\W=wx) (λkv _=>4-(intOf kv).toNat)
    case atStart=>exact⟨0,aI _,rfl,(λj n hj=>by omega),rfl⟩
    case round=>
     obtain⟨k,hk,rfl,v,rfl⟩:=hrel;by_cases T:(k:Int)<4
     ·obtain⟨n,P⟩:∃n,Q[k]?=X n:=⟨_,ay (by have:=l.o;omega)⟩
      obtain⟨kb,ko,e,-,yq⟩:=R.o.at P;subst e;have k0:(0:Int)<=k:=by omega
      have u:ah (fN L i lf n=iF->cO L=iF):=λhb=>FH A.o (OU (x:=⟨lf,Q⟩) P hb)
      have f:ah (fN L i lf n=iV->∀j n',j<k+1->Q[j]?=X n'->fN L i lf n'=iV):=by
       intro hg j n' hj F;by_cases e:j=k
       ·subst e;rw[P]at F;injection F with e2;rw[<-e2];exact hg
       ·exact v.o j n' (by omega) F
      clear P v;cases lf with
      |true=>
       by_cases ag:n<0
       ·have E:=af (u.o (by simp only[fN,cW];exact aV (by omega)))
        go_wp2;go_ret;exact⟨congrArg (λq=>Ending.returned (iB q)) E.o.symm,d.o.trans (p.o.mono d.o.size)⟩
       ·have E:=af (f.o (by simp only[fN,cW];exact aQ (by omega)))
        go_wp2;go_roundw
        case rel=>exact⟨k+1,by omega,by go_num,E,by trivial⟩
        case measure=>simp[intOf];omega
      |false=>
       by_cases U:n= -1
       ·subst U;have E:=af (f.o (by simp[fN]))
        go_wp2;go_roundw
        case rel=>exact⟨k+1,by omega,by go_num,E,by trivial⟩
        case measure=>simp[intOf];omega
       ·have al:(n != -1)=iV:=by simpa using U
        have ak:IntKind.i64.wrap ((i:Int)-1)=(i:Int)-1:=by rw[cL];omega
        go_wp2_with fail;refine(gT n 0 ((i:Int)-1) _).mono ?_;rintro e w1 ⟨rfl,rfl⟩;by_cases S:0<=n/\n<=(i:Int)-1
        ·rw[aQ S];obtain⟨m,rfl⟩:∃m:Nat,n=(m:Int):=⟨n.toNat,by omega⟩
         obtain⟨Z,K⟩:∃Z,rs[m]?=X Z:=⟨_,ay (by have:=H1.o;omega)⟩
         have m0:(0:Int)<=m:=by omega
         have mL:(m:Int)<a:=by omega
         have lc:=(KX.o.cell K).1;have g:jJ L (m:Int)=Z.1:=pD (y:=aG Z) (by rw[<-HL.o];exact wu K)
         obtain⟨ae,s⟩:=an Z.1;rw[s]at lc g;clear K s;cases ae with
         |true=>
          have E:=af (f.o (by simp only[fN,g];simp;omega))
          clear g;go_wp2;go_roundw
          case rel=>exact⟨k+1,by omega,by go_num,E,by trivial⟩
          case measure=>simp[intOf];omega
         |false=>
          have E:=af (u.o (by simp[fN,g]))
          clear g;go_wp2;go_ret;exact⟨congrArg (λq=>Ending.returned (iB q)) E.o.symm,d.o.trans (p.o.mono d.o.size)⟩
        ·rw[aV S];have E:=af (u.o (by simp only[fN];simp;omega))
         go_wp2;go_ret;exact⟨congrArg (λq=>Ending.returned (iB q)) E.o.symm,d.o.trans (p.o.mono d.o.size)⟩
     ·have E:ah (lI L (i+1)=iV):=by
       show _=_;rw[Jv A.o,HA.o,jr,iS,bt,gy];refine⟨aQ l.o,λn P=>?_⟩
       obtain⟨j,hj⟩:=ml P;exact v.o j n (by have:=(aD.1 hj).1;have:=l.o;simp only at*;omega) hj
      go_wp2;go_roundw
      case rel=>exact⟨i+1,by omega,by go_num,E,p⟩
      case measure=>simp[intOf];omega
   ·have E:ah (cO L=iF):=FH A.o (by
     rw[iS];have:decide ((⟨lf,Q⟩:Kn).fD.length=4)=iF:=aV (by have:=l.o;simp only;omega)
     rw[this,mV])
    have n4:((t:Int) !=4)=iV:=by simp;omega
    have p:ah (iL wb.heap.size wb (wr.alloc (iC #[iB lf,Y M t N] 205))):=B.o.trans (BA.o.mono B.o.size);have x1:=X0.o.2;go_wp2;go_ret;exact⟨congrArg (λq=>Ending.returned (iB q)) E.o.symm,d.o.trans (p.o.mono d.o.size)⟩
  ·have E:ah (cO L=iV):=by
    have ab:L.length=a:=by rw[<-HL.o,aS];exact H1.o
    show _=_;rw[cO,ab,show a=i by omega]
    exact HA.o
   go_wp2;go_ret;exact⟨congrArg (λq=>Ending.returned (iB q)) E.o.symm,d.o.trans (B.o.mono d.o.size)⟩
theorem wN(ad:Option Addr)(a cap:Nat)(rs:List Kw)(r:Int)(w:iW)(t:a<=1048578)(h:eH w ad a rs):
 iK Tryz.prog 102 #[iA #[Y ad a cap],I J r] w λe w'=>e=G (iB (bO (rs.map aG) r))/\iL w.heap.size w w':=by
 have s:=sK w (Y ad a cap);have i:=af (aO w (iC #[Y ad a cap] 42));have H:=af (h.below i.o);have k:=af h.1;clear h;by_cases j:r= -1
 ·subst j;have E:ah (bO (rs.map aG) (-1)=iV):=by show _=_;simp[bO]
  rw[E.o];go_enter Tryz.func102,Tryz.ntmps102;go_wp2;go_ret;exact⟨rfl,i.o⟩
 ·have l:(r== -1)=iF:=by simpa using j
  have n:IntKind.i64.wrap ((a:Int)-1)=(a:Int)-1:=by rw[cL];omega
  have d:(rs.map aG).length=a:=by rw[aS];exact k.o
  by_cases c:0<=r/\r<=(a:Int)-1
  ·obtain⟨m,rfl⟩:∃m:Nat,r=(m:Int):=⟨r.toNat,by omega⟩
   obtain⟨b,p,e,-⟩:=H.o.adr (by omega)
   subst e;obtain⟨y,hy⟩:∃y,rs[m]?=X y:=⟨_,ay (by have:=k.o;omega)⟩
   have lc:=(H.o.cell hy).1;have g:jJ (rs.map aG) (m:Int)=y.1:=pD (y:=aG y) (wu hy);have E:ah (bO (rs.map aG) (m:Int)= !y.1):=by
    show _=_;rw[bO,g,d,aV j,aQ c.1,aQ (show(m:Int)<a by omega)]
    simp
   rw[E.o];obtain⟨lf,f⟩:=an y.1;rw[f]at lc⊢;have u:(0:Int)<=m:=by omega
   have v:(m:Int)<a:=by omega
   have D:=af (aQ c);clear hy g f E d c H;go_enter Tryz.func102,Tryz.ntmps102;go_wp2_with fail;refine(gT (m:Int) 0 ((a:Int)-1) _).mono ?_;rintro e q ⟨rfl,rfl⟩;rw[D.o];go_wp2;go_ret;exact⟨rfl,i.o⟩
  ·have E:ah (bO (rs.map aG) r=iF):=by
    show _=_;rw[bO,d,aV j];by_cases h0:0<=r
    ·rw[aV (show¬r<(a:Int)by omega)];simp
    ·rw[aV h0];simp
   rw[E.o];have D:=af (aV c);clear E d c H;go_enter Tryz.func102,Tryz.ntmps102;go_wp2_with fail;refine(gT r 0 ((a:Int)-1) _).mono ?_;rintro e q ⟨rfl,rfl⟩;rw[D.o];go_wp2;go_ret;exact⟨rfl,i.o⟩
theorem eH.fD{W:iW}{b a f:Nat}{rs:List Kw}(h:eH W (X ⟨b,a,O⟩) f rs){x:Kn}(g:(rs.map aG)[k]?=X x):
 ∃c d,W.cell? ⟨b,a+k*2,O⟩=X (iB x.leaf)/\W.cell? ⟨b,a+k*2+1,O⟩=X (Y c x.fD.length d)/\gR W c x.fD.length x.fD:=by
 rw[bk]at g;obtain⟨r,i,rfl⟩:=sW.1 g;obtain⟨j,c1⟩:=h.cell i;obtain⟨c,d,e,-,l⟩:=h.2.2.1 r (aH i);exact⟨c,d,j,by rw[c1,e];rfl,l⟩
theorem Ed(ad:Option Addr)(a cap:Nat)(rs:List Kw)(r:Int)(s:Nat)(w:iW)(Z:a<=1048578)(h:eH w ad a rs)(k:cO (rs.map aG)=iV)(B:bO (rs.map aG) r=iV)(hs:s<=15):
 iK Tryz.prog 103 #[iA #[Y ad a cap],I J r,I J s] w λe w'=>e=G (I J (cX (rs.map aG) r s))/\iL w.heap.size w w':=by
 have X:=sK w (Y ad a cap);have u:=af (aO w (iC #[Y ad a cap] 42));have H:=af (h.below u.o);have f:(rs.map aG).length=a:=by rw[aS];exact h.1
 clear h;by_cases c:r<0
 ·have E:ah (cX (rs.map aG) r s=0):=aj c;rw[E.o];clear E k B f;go_enter Tryz.func103,Tryz.ntmps103;go_wp2;go_ret;exact⟨rfl,u.o⟩
 ·obtain⟨m,rfl⟩:∃m:Nat,r=(m:Int):=⟨r.toNat,by omega⟩
  obtain⟨x,i,M⟩:=lQ B (by omega)
  have S:m<a:=by have:=(aD.1 i).1;rw[f]at this;simpa using this
  obtain⟨b,U,e,-⟩:=H.o.adr (by omega)
  subst e;obtain⟨q,A⟩:=an (s/4);obtain⟨t,F⟩:=an (s % 4);have D:q<4:=by omega
  have K:t<4:=by omega
  have tq:(s:Int).tdiv 4=(q:Int):=by rw[Jt (by omega)];omega
  have tt:(s:Int).tmod 4=(t:Int):=by rw[Ia (by omega)];omega
  have V:(s:Int)/4=(q:Int):=by omega
  have W:(s:Int) % 4=(t:Int):=by omega
  have P:=lY (lA k i);obtain⟨n,z,g⟩:=md k i M D;have d:dH (rs.map aG) (m:Int) q=n:=ix i z;obtain⟨ka,kc,-,c1,C⟩:=H.o.fD i;rw[P]at c1 C;simp only[aZ]at c1;obtain⟨kb,ko,e,-,rQ⟩:=C.at z;subst e;have m0:(0:Int)<=m:=by omega
  have mL:(m:Int)<a:=by omega
  have q0:(0:Int)<=q:=by omega
  have q4:(q:Int)<4:=by omega
  rcases g with rfl|⟨T,R,y,hy,N,p⟩
  ·have E:ah (cX (rs.map aG) (m:Int) s=0):=by show _=_;rw[cX,ai c,A,d,aj (by omega)]
   rw[E.o];clear E k B f A F d z i C c H P;go_enter Tryz.func103,Tryz.ntmps103;go_wp2;go_ret;exact⟨rfl,u.o⟩
  ·obtain⟨j,rfl⟩:∃j:Nat,n=(j:Int):=⟨n.toNat,by omega⟩
   obtain⟨v,L,-⟩:=Cn k hy N K;have l:dH (rs.map aG) (j:Int) t=v:=ix hy L;obtain⟨la,lc,-,Q,O⟩:=H.o.fD hy;rw[p]at Q O;simp only[aZ]at Q;obtain⟨lb,lo,e,-,ti⟩:=O.at L;subst e;have j0:(0:Int)<=j:=by omega
   have jL:(j:Int)<a:=by simp only[aZ]at R;omega
   have t0:(0:Int)<=t:=by omega
   have t4:(t:Int)<4:=by omega
   have E:ah (cX (rs.map aG) (m:Int) s=v):=by show _=_;rw[cX,ai c,A,F,d,ai (by omega),l]
   rw[E.o];clear E k B f A F d l z i C O c H P hy L p R T;go_enter Tryz.func103,Tryz.ntmps103;go_wp2;go_ret;exact⟨rfl,u.o⟩
theorem zN(ad:Option Addr)(a cap:Nat)(rs:List Kw)(r s:Int)(w:iW)(y:a<=1048578)(h:eH w ad a rs):
 iK Tryz.prog 83 #[iA #[Y ad a cap],I J r,I J s] w λe w'=>e=G (I J (gF (rs.map aG) r s))/\iL w.heap.size w w':=by
 have k:=af (sK w (Y ad a cap));have f:=af (aO w (iC #[Y ad a cap] 42));have H:=af (h.below f.o);have l:=af (show w.heap.size<(w.alloc (iC #[Y ad a cap] 42)).heap.size by simp)
 clear h;have g:=k.o;go_enter Tryz.func83,Tryz.ntmps83;go_wp2_with fail;generalize w.alloc (iC #[Y ad a cap] 42)=wb at k g f H l⊢;obtain⟨z,N⟩:=an w.heap.size;rw[N]at k g l⊢;refine(vU ad a cap rs wb y H.o).mono ?_;rintro e A ⟨rfl,v⟩;have j:=af ((v.cell (show z<wb.heap.size from l.o)).trans k.o);have i:=af v;clear g v;have g:=j.o;have u:ah (iL w.heap.size w A):=f.o.trans (i.o.mono f.o.size);cases m:cO (rs.map aG)with
 |false=>
  have E:ah (gF (rs.map aG) r s=0):=ai (by rw[kL,m];simp)
  clear m;go_wp2;go_ret;exact⟨congrArg (λq=>Ending.returned (I J q)) E.o.symm,u.o⟩
 |true=>
  have C:=af m;go_wp2_with fail;refine(wN ad a cap rs r A y (H.o.below i.o)).mono ?_;rintro e O ⟨rfl,x⟩;have p:=af ((x.cell (show z<A.heap.size from gX l.o i.o.size)).trans j.o);have B:=af (i.o.trans (x.mono i.o.size));clear g x m;have g:=p.o;have c:ah (iL w.heap.size w O):=f.o.trans (B.o.mono f.o.size);cases n:bO (rs.map aG) r with
  |false=>
   have E:ah (gF (rs.map aG) r s=0):=ai (by rw[kL,n];simp)
   clear n;go_wp2;go_ret;exact⟨congrArg (λq=>Ending.returned (I J q)) E.o.symm,c.o⟩
  |true=>
   have D:=af n;clear n;go_wp2_with fail;refine(gT s 0 15 _).mono ?_;rintro e P ⟨rfl,rfl⟩;by_cases b:0<=s/\s<=15
   ·have d:kL (rs.map aG) r s=iV:=by rw[kL,C.o,D.o,aQ b.1,aQ b.2];rfl
    have E:ah (gF (rs.map aG) r s=cX (rs.map aG) r s.toNat):=aj d;rw[aQ b];obtain⟨t,rfl⟩:∃t:Nat,s=(t:Int):=⟨s.toNat,by omega⟩
    simp only[aZ]at E;have M:t<=15:=by omega
    clear d b;go_wp2_with fail;refine(Ed ad a cap rs r t _ y (H.o.below B.o) C.o D.o M).mono ?_;rintro e Q ⟨rfl,F⟩;have K:=af (c.o.trans (F.mono c.o.size));clear F;go_wp2;go_ret;exact⟨congrArg (λq=>Ending.returned (I J q)) E.o.symm,K.o⟩
   ·have E:ah (gF (rs.map aG) r s=0):=ai (by
     rw[kL];simp only[bt,bW];rintro⟨-,h1,L⟩;exact b ⟨h1,L⟩)
    rw[aV b];clear b;go_wp2;go_ret;exact⟨congrArg (λq=>Ending.returned (I J q)) E.o.symm,c.o⟩
def pJ(w:iW)(l:List Int)(e:Ending)(w':iW):Prop:=∃v,e=G v/\w'.ownsRow w.heap.size 3 1 v l.length (aE l)/\iL w.heap.size w w'
theorem pF(l:List Kn)(r:Int):(ce l r).length=16:=by simp[ce]
theorem QN(l:List Kn)(r:Int)(a:k<16):(ce l r).take (k+1)=(ce l r).take k++[gF l r k]:=by
 rw[dF,ce,bk,AJ a];rfl
theorem yD(ad:Option Addr)(a cap:Nat)(rs:List Kw)(r:Int)(w:iW)(hl:a<=1048578)(h:eH w ad a rs):
 iK Tryz.prog 100 #[iA #[Y ad a cap],I J r] w (pJ w (ce (rs.map aG) r)):=by
 obtain⟨i0,hi,m,n,p⟩:=bK nG;have U:=af hi;have V:=af m;have Z:=af n;have Y2:=af p;clear hi m n p;have t:=af (sK w (Y ad a cap));have f:=af (aO w (iC #[Y ad a cap] 42));have H:=af (h.below f.o);have A:=af (show w.heap.size<(w.alloc (iC #[Y ad a cap] 42)).heap.size by simp)
 have x:=af (show(w.alloc (iC #[Y ad a cap] 42)).heap.size=w.heap.size+1 by simp)
 clear h;obtain⟨M,C⟩:=an (ce (rs.map aG) r);have v:=af C;rw[C];clear C;go_enter Tryz.func100,Tryz.ntmps100;go_wp2_with fail;generalize w.alloc (iC #[Y ad a cap] 42)=wb at t f H A x⊢;have K:ah ((wb.alloc (iC #[] 3)).ownsRow wb.heap.size 3 1 (Y (X ⟨wb.heap.size,0,O⟩) 0 0) ([]:List Int).length (aE [])):=nE wb #[] 0 (ak _) (by unfold maxLen;omega) (by simp)
 have BA:=af (aO wb (iC #[] 3));generalize wb.alloc (iC #[] 3)=wa at K BA⊢;obtain⟨z,F⟩:=an w.heap.size;rw[F]at t A x⊢;have T:=af F;clear F;go_loopw [5,6] (λov kv W=>∃(k:Nat) (l:List Int),k<=16/\kv=I J k/\l.length<=k/\ah (l=M.take k)/\ah (W.ownsRow wb.heap.size 3 1 ov l.length (aE l)/\iL wb.heap.size wb W)) (λ_ kv _=>16-(intOf kv).toNat)
 case atStart=>exact⟨0,[],aI _,rfl,aI _,by show _=_;simp,by rw[<-x.o];exact K.o,BA.o⟩
 case round=>
  obtain⟨k,l,hk,rfl,aa,u,b⟩:=hrel;have bx:=(b.o.2.cell (show z<wb.heap.size from A.o)).trans t.o;by_cases ab:(k:Int)<16
  ·have hw:=b.o.2.size;go_wp2_with fail;refine(zN ad a cap rs r (k:Int) _ hl (H.o.below b.o.2)).mono ?_;rintro e Q ⟨rfl,B⟩;have c:ah (l++[gF (rs.map aG) r (k:Int)]=M.take (k+1)):=by
    show _=_;rw[<-v.o,QN _ _ (by omega),v.o,u.o]
   generalize gF (rs.map aG) r (k:Int)=y at c⊢;have N:=af (bu b.o.1 B);have s:=af (b.o.2.trans (B.mono hw));have E:=s.o.size;clear B bx b u;have g:=af (aO Q (iC #[I J y] 3));have d:=af (bu N.o g.o);go_wp2_with (at_builtin;refine cN _ rfl _ _ 72 rfl wb.heap.size 3 i0 (I J 0) 1 8 Tryz.underlying72 U.o V.o Z.o Y2.o rfl (by decide) _ _ _ rfl d.o ⟨Q.heap.size,0,O⟩ 1 1 [I J y] rfl rfl (nw _ _ _) (vg _) ?c1 ?c2 ?c3 ?_)
   case c1=>unfold maxLen;omega
   case c2=>omega
   case c3=>have:=g.o.size;omega
   intro u' G D P _;rw[tA]at D;have j:G.ownsRow wb.heap.size 3 1 u' (l++[y]).length (aE (l++[y])):=by rw[aT];exact D
   have L:ah (G.ownsRow wb.heap.size 3 1 u' (l++[y]).length (aE (l++[y]))/\iL wb.heap.size wb G):=⟨j,(s.o.trans (g.o.mono E)).grown P (by have:=g.o.size;omega) (λq hq=>(d.o.lt q hq).1)⟩
   have i:(l++[y]).length<=k+1:=by simp;omega
   generalize l++[y]=l2 at c L i;clear D j P d N g s;go_wp2;go_roundw
   case rel=>exact⟨k+1,l2,by omega,by go_num,i,c,L⟩
   case measure=>simp[intOf];omega
  ·have R:ah (l=M):=by
    show _=_;rw[u.o,show k=M.length by rw[<-v.o,pF];omega,oU]
   have S:ah (iL w.heap.size w wr):=f.o.trans (b.o.2.mono f.o.size);go_wp2;go_ret;refine⟨_,rfl,?_,S.o⟩;rw[<-R.o];exact nO b.o.1 f.o.size
end Go.Proofs.YtijmbohadndfmaaGreatDoor
