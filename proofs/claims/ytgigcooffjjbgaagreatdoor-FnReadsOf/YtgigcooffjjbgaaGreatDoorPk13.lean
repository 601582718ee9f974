/-
  IScan2; FdOr; SRead; SScan
-/
import Derived.Test.YtgigcooffjjbgaaGreatDoorPk12
open Go.Value renaming int→I,slice→Y,string→iT,bool→iB,pointer→iP,agg→iA,tuple→iU
open Go.IntKind renaming i64→J
open Option renaming none→O,some→X
open Go.Ending renaming returned→G
open Go.Obj renaming cells→iC
open Bool renaming true→iV,false→iF
open Go renaming World→iW,Value→iX,Calls→iK
open Go.RowKit renaming Below→iL
set_option maxHeartbeats 4000000
set_option maxRecDepth 100000
namespace Go.Proofs.YtgigcooffjjbgaaGreatDoor
open Go.RowKit Words Sums
def pZ(w:iW)(B:Nat)(u:iX)(M:List an):Prop:=(u=Y O 0 0/\M=[])∨∃g cap,u=Y (X ⟨g,0,O⟩) M.length cap/\B<=g/\eo w g M/\M.length<=1000000000000000000
variable{fn:Func}{B g k:Nat}
theorem JB{w:iW}{u:iX}{l:List an}(h:w.ownsRow B 53 8 u l.length (mT l))(k:l.length<=1000000000000000000):pZ w B u l:=by
 obtain⟨h1,d⟩:=h;rcases d with⟨rfl,c⟩|⟨g,cap,b,rfl,c,h4,o,p,q,e⟩
 ·exact .inl ⟨rfl,iJ c⟩
 ·refine .inr ⟨g,cap,rfl,c,⟨b,h4,λi x n j v m=>?_⟩,k⟩
  have:=aaQ l i x n j v m;rw[<-e]at this;obtain⟨f,a⟩:=aC.1 this;rw[AJ]at a;rw[cD]at f;rw[<-yI,aC];exact⟨by omega,a⟩
theorem Uw(w:iW):
 iK Tryz.prog 62 #[Y O 0 0,.func (.func 63) #[] #[]] w λe w'=>e=G (iU #[])/\iL w.heap.size w w':=by
 have b:ah (∀W,iK Tryz.prog 152 #[Y O 0 0,I J 0,I J 0,.func (.func 63) #[] #[]] W λe w'=>e=G (iU #[])/\w'=W):=by
  intro W;go_enter Tryz.func152,Tryz.ntmps152;go_wp2;go_loopw [8] (λf wr=>f=I J 1/\wr=W) (λ_ _=>0)
  case atStart=>exact⟨rfl,rfl⟩
  case round=>
   obtain⟨rfl,rfl⟩:=hrel;go_wp2
   first|go_end0|refine az (kG rfl _ _ _) rfl ?_
   exact⟨rfl,rfl⟩
 have CS:ah (∀W,iK Tryz.prog 109 #[Y O 0 0,I J 0,.func (.func 63) #[] #[]] W λe w'=>e=G (iU #[])/\w'=W):=by
  intro W;go_enter Tryz.func109,Tryz.ntmps109;go_wp2;go_loopw [7,8] (λc d wr=>c=I J 0/\d=I J 20/\wr=W) (λ_ _ _=>0)
  case atStart=>exact⟨rfl,rfl,rfl⟩
  case round=>
   obtain⟨rfl,rfl,rfl⟩:=hrel;go_wp2_with fail;refine(b.o _).mono ?_;rintro e a ⟨rfl,rfl⟩;go_wp2;go_loopw [6] (λg wr=>g=I J 20/\wr=a) (λ_ _=>0)
   case atStart=>exact⟨rfl,rfl⟩
   case round=>
    obtain⟨rfl,rfl⟩:=hrel;go_wp2
    first|go_end0|refine az (kG rfl _ _ _) rfl ?_
    exact⟨rfl,rfl⟩
 go_enter Tryz.func62,Tryz.ntmps62;go_wp2_with fail;refine(CS.o _).mono ?_;rintro e a ⟨rfl,rfl⟩;go_wp2
 first|go_end0|refine az (kG rfl _ _ _) rfl ?_
 exact⟨rfl,ax _ _⟩
theorem Pp(v:iX)(rs:List Rw)(w:iW)(hl:rs.length<=1048576)(ac:∀r∈rs,r.2.2.2.length<=1048576)(ag:mW rs)(ha:eB w v rs)(ht:eQ w):
 iK Tryz.prog 33 #[iA #[v]] w λe w'=>∃u M,e=G u/\Asc M/\Akin (dt (rs.map aw) rs.length) M/\pZ w' w.heap.size u M/\iL w.heap.size w w':=by
 obtain⟨i0,ao,au,av,az⟩:=bO GJ;have h1:=ha;obtain⟨vd,a,rfl,-⟩:=h1;have HT:=af ht;have ai:=af ag;have U:=af ac;obtain⟨n,hn⟩:=aq rs.length;have HN:=af hn;have P:=af ha;rw[hn]at hl P⊢;have b0:=aT w (iC #[Y vd n a] 26);have S0:ah (ni w (w.alloc (iC #[Y vd n a] 26)) (Y vd n a) (Y O 0 0) []):=⟨b0,aB _ _,pW _ _ _ _⟩;clear ha ht ag ac hn b0;go_enter Tryz.func33,Tryz.ntmps33;go_wp2;go_loopw [3,11] (λR bv wr=>∃(b:Nat) (l:List an),bv=I J b/\b<=n/\l.length<=b*1048576/\ah (l=dt (rs.map aw) b)/\ah (ni w wr (Y vd n a) R l)) (λ_ bv _=>n-(intOf bv).toNat)
 case atStart=>exact⟨0,[],rfl,aJ _,by simp,rfl,S0⟩
 case round=>
  rename iW=>wo
  obtain⟨b,l,rfl,r1,L,D,E⟩:=hrel;clear S0;have cf:wo.cell? ⟨w.heap.size,0,O⟩=X (Y vd n a):=aj _ _ 0 _ _ _ E.o.2.1;by_cases aD:(b:Int)<n
  ·have aa:b<rs.length:=by have:=HN.o;omega
   obtain⟨r,hr⟩:∃r,rs[b]?=X r:=⟨_,ay aa⟩;obtain⟨gv,e,⟨-,-,c3⟩,ap⟩:=(P.o.below E.o.1).at hr;subst e;obtain⟨ld,lc,e2,-⟩:=ap;have ar:=U.o r (aL hr);obtain⟨m,hm⟩:=aq r.2.2.2.length;have ak:wo.cell? ⟨gv,b*3+2,O⟩=X (Y ld m lc):=by rw[c3,e2,hm]
   rw[hm]at ar;have HM:ah (dt (rs.map aw) (b+1)=dt (rs.map aw) b++gj (rs.map aw) b m):=by
    show _=_;simp only[dt,bh,hr,fE,oo];show dt _ b++gj _ b (aw r).2.2.length=_;rw[show(aw r).2.2.length=m from hm]
   have b0:(0:Int)<=b:=by omega
   have L0:ah (l=dt (rs.map aw) b++gj (rs.map aw) b 0):=by show _=_;rw[D.o];simp[gj]
   clear c3 e2 hr aa hm;go_wp2;go_loopw [3,21] (λR kv wr=>∃(k:Nat) (f:List an),kv=I J k/\k<=m/\f.length<=b*1048576+k/\ah (f=dt (rs.map aw) b++gj (rs.map aw) b k)/\ah (ni w wr (Y (X ⟨gv,0,O⟩) n a) R f)) (λ_ kv _=>m-(intOf kv).toNat)
   case atStart=>exact⟨0,l,rfl,aJ _,bV L (Nat.le_add_right _ _),L0,E⟩
   case round=>
    rename iX=>vout
    obtain⟨k,f,rfl,t1,aC,h,c⟩:=hrel;clear E L0 cf ak;have cf:wr.cell? ⟨w.heap.size,0,O⟩=X (Y (X ⟨gv,0,O⟩) n a):=aj _ _ 0 _ _ _ c.o.2.1;by_cases hk:(k:Int)<m
    ·have C:=af (ZG (Y (X ⟨gv,0,O⟩) n a) rs (b:Int) (k:Int) wr (by have:=HN.o;omega) U.o ai.o (P.o.below c.o.1) (HT.o.on c.o.1))
     cases T:dP (rs.map aw) (b:Int) (k:Int)with
     |none=>
      rw[T]at C;unfold lP dJ at C;simp only at C;have S:ah (f=dt (rs.map aw) b++gj (rs.map aw) b (k+1)):=by show _=_;rw[h.o];simp[gj,T]
      clear T h;go_wp2_with fail;refine C.o.mono ?_;rintro e A ⟨rfl,H⟩;have F:=af ((c.o.below H).below ((ax _ _).alloc (am _) (iC #[I J 0,I J 0,I J 0,I J 0,I J 0,iT ⟨#[]⟩] 44)));clear H c C;go_wp2;go_roundw
      case rel=>exact⟨k+1,f,by go_num,by omega,by omega,S,F⟩
      case measure=>simp[intOf];omega
     |some pg=>
      rw[T]at C;obtain⟨p,q,s,t,y,z⟩:=pg;unfold lP dJ at C;simp only at C;have S:ah (f++[⟨b,k,⟨p,q,s,t,y,z⟩⟩]=dt (rs.map aw) b++gj (rs.map aw) b (k+1)):=by show _=_;rw[h.o];simp[gj,T]
      clear T h;go_wp2_with fail;refine C.o.mono ?_;rintro e A ⟨rfl,H⟩;have ba:=(ax A.heap.size A).alloc (am _) (iC #[I J p,I J q,I J s,I J t,I J y,iT z] 44);have F:=af ((c.o.below H).below ba);have z3:(A.alloc (iC #[I J p,I J q,I J s,I J t,I J y,iT z] 44)).heap.size=A.heap.size+1:=by simp
      have W:=af (Cg (A.alloc (iC #[I J p,I J q,I J s,I J t,I J y,iT z] 44)) ([I J (b:Int),I J (k:Int),I J p,I J q,I J s,I J t,I J y,iT z]:List iX).toArray 53 (A.heap.size+1) z3);clear H c C ba;go_wp2_with (at_builtin;refine cS _ rfl _ _ 49 rfl (w.heap.size+1) 53 i0 (iA #[I J 0,I J 0,I J 0,I J 0,I J 0,I J 0,I J 0,iT ⟨#[]⟩]) 8 72 Tryz.underlying49 ao au av az rfl (by decide) _ f.length (mT f) rfl (F.o.2.2.alloc _) ⟨A.heap.size+1,0,O⟩ 1 1 [I J (b:Int),I J (k:Int),I J p,I J q,I J s,I J t,I J y,iT z] rfl rfl W.o (JG ⟨b,k,⟨p,q,s,t,y,z⟩⟩) ?g1 ?g2 ?g3 ?_)
      case g1=>unfold maxLen;omega
      case g2=>omega
      case g3=>have:=F.o.1.size;simp;omega
      intro v' w4 K d _;have NS:ah (ni w w4 (Y (X ⟨gv,0,O⟩) n a) v' (f++[⟨b,k,⟨p,q,s,t,y,z⟩⟩])):=by
       have bz:=F.o.below ((ax _ _).alloc (am _) (iC (jE ⟨b,k,⟨p,q,s,t,y,z⟩⟩).toArray 53));have aA:=(aK.1 bz.2.1).1;refine⟨bz.1.grown d bz.1.size (λx hx=>uQ (F.o.2.2.lt x hx).1),(d.block w.heap.size aA (λe=>?_)).trans bz.2.1,?_⟩
       ·have:=(F.o.2.2.lt _ e.symm).1;omega
       ·rw[aI,<-FV];exact K
      have NN:(f++[(⟨b,k,⟨p,q,s,t,y,z⟩⟩:an)]).length=f.length+1:=by simp
      generalize f++[(⟨b,k,⟨p,q,s,t,y,z⟩⟩:an)]=l3 at S NS NN;clear K d F W;go_wp2;go_roundw
      case rel=>exact⟨k+1,l3,by go_num,by omega,by omega,S,NS⟩
      case measure=>simp[intOf];omega
    ·have ab:k=m:=by omega
     have S:ah (f=dt (rs.map aw) (b+1)):=by show _=_;rw[h.o,HM.o,ab]
     clear h ab;go_wp2;go_roundw
     case rel=>exact⟨b+1,f,by go_num,by omega,by omega,S,c⟩
     case measure=>simp[intOf];omega
  ·have Q:b=n:=by omega
   have V:ah (l=dt (rs.map aw) n):=by show _=_;rw[D.o,Q]
   have ad:=JB E.o.2.2 (by omega)
   rcases ad with⟨e1,e2⟩|⟨g,cap,e1,hg,ae,-⟩
   ·subst e1 e2;have N:=af E.o.1;clear E cf D Q;go_wp2_with fail;refine(Uw _).mono ?_;rintro e A ⟨rfl,H⟩;have B2:=af (N.o.trans (H.mono N.o.size));clear H N;go_wp2;go_ret;exact⟨_,[],rfl,List.Pairwise.nil,by rw[<-V.o];exact Akin.refl _,.inl ⟨rfl,rfl⟩,B2.o⟩
   ·subst e1;obtain⟨nl,j⟩:=aq l.length;rw[j]at L;have C:=af (aau g nl cap l wo (by omega) j ae)
    have N:=af E.o.1;rw[j];have Z:=af j;have al:w.heap.size<=g:=by omega
    clear E cf D Q ae j;go_wp2_with fail;refine C.o.mono ?_;rintro e A ⟨rfl,M,m1,m2,m3,m4⟩;have B2:=af (N.o.trans (aR.down (B:=w.heap.size) m4.1 N.o.size (λi hi=>by omega)))
    have PF:ah (Asc M/\Akin (dt (rs.map aw) n) M/\pZ A w.heap.size (Y (X ⟨g,0,O⟩) nl cap) M):=⟨m1,by rw[<-V.o];exact m2,.inr ⟨g,cap,by rw[m3,Z.o],al,m4.2,by rw[m3,Z.o];omega⟩⟩
    clear m1 m2 m3 m4 N C;go_wp2;go_ret;exact⟨_,M,rfl,PF.o.1,PF.o.2.1,PF.o.2.2,B2.o⟩
def qj:an:=⟨0,0,⟨0,0,0,0,0,⟨#[]⟩⟩⟩
def rR(o:Option an):an:=o.getD qj
def mP(W:iW)(g:Nat)(x:an):Prop:=W.heap[g]?=X (iC #[I J x.block,I J x.leaf,I J x.fP.kind,I J x.fP.seq,I J x.fP.tx,I J x.fP.part,I J x.fP.count,iT x.fP.text] 53 (0,0))
theorem mP.cells{W:iW}{g:Nat}{x:an}(h:mP W g x):W.cell? ⟨g,0,O⟩=X (I J x.block)/\W.cell? ⟨g,1,O⟩=X (I J x.leaf)/\W.cell? ⟨g,2,O⟩=X (I J x.fP.kind)/\W.cell? ⟨g,3,O⟩=X (I J x.fP.seq)/\W.cell? ⟨g,4,O⟩=X (I J x.fP.tx)/\W.cell? ⟨g,5,O⟩=X (I J x.fP.part)/\W.cell? ⟨g,6,O⟩=X (I J x.fP.count)/\W.cell? ⟨g,7,O⟩=X (iT x.fP.text):=
 ⟨aj _ _ 0 _ _ _ h,aj _ _ 1 _ _ _ h,aj _ _ 2 _ _ _ h,aj _ _ 3 _ _ _ h,aj _ _ 4 _ _ _ h,aj _ _ 5 _ _ _ h,aj _ _ 6 _ _ _ h,aj _ _ 7 _ _ _ h⟩
variable{x:an}
theorem mP.fr{W:iW}(h:mP W g x)(k:Nat):W.frozen? ⟨g,k,O⟩=iF:=aF _ _ k _ _ h
theorem Uz{w:iW}{t:TypeId}{C B p o n m j i a b c d e f k l:iX}(h:w.heap[g]?=X (iC #[C,B,p,o,n,m,j,i] t (0,0))):
 ((((((((w.setCell ⟨g,0,O⟩ a).setCell ⟨g,1,O⟩ b).setCell ⟨g,2,O⟩ c).setCell ⟨g,3,O⟩ d).setCell ⟨g,4,O⟩ e).setCell ⟨g,5,O⟩ f).setCell ⟨g,6,O⟩ k).setCell ⟨g,7,O⟩ l).heap[g]?=X (iC #[a,b,c,d,e,f,k,l] t (0,0)):=by
 have h0:(w.setCell ⟨g,0,O⟩ a).heap[g]?=X (iC #[a,B,p,o,n,m,j,i] t (0,0)):=bo _ _ 0 _ _ _ h;generalize w.setCell ⟨g,0,O⟩ a=w0 at h0⊢;have h1:(w0.setCell ⟨g,1,O⟩ b).heap[g]?=X (iC #[a,b,p,o,n,m,j,i] t (0,0)):=bo _ _ 1 _ _ _ h0;generalize w0.setCell ⟨g,1,O⟩ b=v at h1⊢;have q:(v.setCell ⟨g,2,O⟩ c).heap[g]?=X (iC #[a,b,c,o,n,m,j,i] t (0,0)):=bo _ _ 2 _ _ _ h1;generalize v.setCell ⟨g,2,O⟩ c=x at q⊢;have r:(x.setCell ⟨g,3,O⟩ d).heap[g]?=X (iC #[a,b,c,d,n,m,j,i] t (0,0)):=bo _ _ 3 _ _ _ q;generalize x.setCell ⟨g,3,O⟩ d=y at r⊢;have h4:(y.setCell ⟨g,4,O⟩ e).heap[g]?=X (iC #[a,b,c,d,e,m,j,i] t (0,0)):=bo _ _ 4 _ _ _ r;generalize y.setCell ⟨g,4,O⟩ e=z at h4⊢;have s:(z.setCell ⟨g,5,O⟩ f).heap[g]?=X (iC #[a,b,c,d,e,f,j,i] t (0,0)):=bo _ _ 5 _ _ _ h4;generalize z.setCell ⟨g,5,O⟩ f=A at s⊢;have u:(A.setCell ⟨g,6,O⟩ k).heap[g]?=X (iC #[a,b,c,d,e,f,k,i] t (0,0)):=bo _ _ 6 _ _ _ s;generalize A.setCell ⟨g,6,O⟩ k=D at u⊢;exact bo _ _ 7 _ _ _ u
theorem mP.set{W:iW}(h:mP W g x)(y:an):
 mP ((((((((W.setCell ⟨g,0,O⟩ (I J y.block)).setCell ⟨g,1,O⟩ (I J y.leaf)).setCell ⟨g,2,O⟩ (I J y.fP.kind)).setCell ⟨g,3,O⟩ (I J y.fP.seq)).setCell ⟨g,4,O⟩ (I J y.fP.tx)).setCell ⟨g,5,O⟩ (I J y.fP.part)).setCell ⟨g,6,O⟩ (I J y.fP.count)).setCell ⟨g,7,O⟩ (iT y.fP.text)) g y:=Uz h
theorem Jg{a w:iW}{v0 v1 v2 v3 v4 v5 v6 v7:iX}(h:iL B a w)(b:B<=g):
 iL B a ((((((((w.setCell ⟨g,0,O⟩ v0).setCell ⟨g,1,O⟩ v1).setCell ⟨g,2,O⟩ v2).setCell ⟨g,3,O⟩ v3).setCell ⟨g,4,O⟩ v4).setCell ⟨g,5,O⟩ v5).setCell ⟨g,6,O⟩ v6).setCell ⟨g,7,O⟩ v7):=
 (((((((h.setCell (p:=⟨g,0,O⟩) b _).setCell (p:=⟨g,1,O⟩) b _).setCell (p:=⟨g,2,O⟩) b _).setCell (p:=⟨g,3,O⟩) b _).setCell (p:=⟨g,4,O⟩) b _).setCell (p:=⟨g,5,O⟩) b _).setCell (p:=⟨g,6,O⟩) b _).setCell (p:=⟨g,7,O⟩) b _
theorem UN:(Tryz.prog.info? 53).map (·.size)=X 8:=by kernel_rfl
theorem Ic {p q:Tmp} (h:fn.results= #[.cell p 53,.tmp q]) (a:Array iX) (w:iW) (g:Nat) (x:an)
 (e:a.getD p undef=iP (X ⟨g,0,O⟩)) (c:mP w g x):
 (results fn a).run Tryz.prog w=.ok (iU #[jo x,a.getD q undef]) w:=by
 have b:a[p]?.getD undef=iP (X ⟨g,0,O⟩):=by simpa using e
 have d:=lL (P:=Tryz.prog) w g 53 53 _ _ _ c Tryz.underlying53 rfl UN;simp[results,h,b,asAddr,d,jo]
theorem jm.all{w:iW}{a:Option Addr}{d:Nat}{ls:List an}(h:jm w a d ls){t:an}(n:ls[k]?=X t):
 ∃b c,a=X ⟨b,c,O⟩/\b<w.heap.size/\w.cell? ⟨b,c+k*8,O⟩=X (I J t.block)/\w.cell? ⟨b,c+k*8+1,O⟩=X (I J t.leaf)/\
  w.cell? ⟨b,c+k*8+2,O⟩=X (I J t.fP.kind)/\w.cell? ⟨b,c+k*8+3,O⟩=X (I J t.fP.seq)/\w.cell? ⟨b,c+k*8+4,O⟩=X (I J t.fP.tx)/\
  w.cell? ⟨b,c+k*8+5,O⟩=X (I J t.fP.part)/\w.cell? ⟨b,c+k*8+6,O⟩=X (I J t.fP.count)/\w.cell? ⟨b,c+k*8+7,O⟩=X (iT t.fP.text)/\w.cell? ⟨b,c+k*8+2+2,O⟩=X (I J t.fP.tx):=by
 obtain⟨b,c,e,h0,h1,g,i,h4,f,j,l,m⟩:=h.at n;exact⟨b,c,e,h0,h1,g,i,h4,f,j,l,m,f⟩
variable{M:List an}
theorem pZ.rd{W:iW}{u:iX}(h:pZ W B u M):∃ad cap,u=Y ad M.length cap/\jm W ad M.length M/\M.length<=1000000000000000000:=by
 rcases h with⟨rfl,rfl⟩|⟨g,cap,rfl,d,a,b⟩
 ·exact⟨O,0,rfl,⟨rfl,by unfold maxLen;simp,λh=>by simp at h⟩,by simp⟩
 ·refine⟨_,_,rfl,⟨rfl,by unfold maxLen;omega,λ_=>⟨g,0,rfl,a.lt,λi t hi j v c=>?_⟩⟩,b⟩
  rw[eC];exact a.cell hi j c
theorem Nu(v:iX)(rs:List Rw)(b leaf:Int)(w:iW)(hl:rs.length<=1048576)(p:∀r∈rs,r.2.2.2.length<=1048576)(B:eB w v rs):
 iK Tryz.prog 12 #[iA #[v],I J b,I J leaf] w λe w'=>e=G (iU #[iT (du (rs.map aw) b leaf).1,iB (du (rs.map aw) b leaf).2])/\iL w.heap.size w w':=by
 have h1:=B;obtain⟨s,a,rfl,-⟩:=h1;have A:=af p;have c:=af ((ax w.heap.size w).alloc (am _) (iC #[Y s rs.length a] 26));have K:=af (B.below c.o);have Q:=aB w (iC #[Y s rs.length a] 26);have H:(w.alloc (iC #[Y s rs.length a] 26)).cell? ⟨w.heap.size,0,O⟩=X (Y s rs.length a):=aj _ _ 0 _ _ _ Q;have L:=af H;have Z:IntKind.i64.wrap ((rs.length:Int)-1)=(rs.length:Int)-1:=by rw[cm];omega
 clear B p Q H;go_enter Tryz.func12,Tryz.ntmps12;go_wp2_with fail;refine(ij b 0 ((rs.length:Int)-1) _).mono ?_;rintro e w2 ⟨rfl,rfl⟩;generalize w.alloc (iC #[Y s rs.length a] 26)=w2 at c K L⊢;have H:=L.o;by_cases l:0<=b/\b<=(rs.length:Int)-1
 ·rw[aS l];obtain⟨k,rfl⟩:∃k:Nat,b=k:=⟨b.toNat,by omega⟩
  have D:k<rs.length:=by omega
  have q:rs[k]?=X rs[k]:=ay D;generalize rs[k]=r at q;have d:=aL q;have E:=A.o r d;obtain⟨g,V,⟨c1,c2,c3⟩,n⟩:=K.o.at q;subst V;have i:ah ((rs.map aw)[k]?=X (aw r)):=by show _=_;rw[bh,q];rfl
  obtain⟨x,y,u,ls⟩:=r;simp only at c1 c2 c3;simp only at n E;obtain⟨ld,N,rfl,-,P⟩:=n;have R:=af P;have ab:(0:Int)<=k:=by omega
  have ac:(k:Int)<rs.length:=by omega
  have aa:IntKind.i64.wrap ((ls.length:Int)-1)=(ls.length:Int)-1:=by rw[cm];omega
  clear q d P c1 c2 l;go_wp2_with fail;refine(ij leaf 0 ((ls.length:Int)-1) _).mono ?_;rintro e w3 ⟨rfl,rfl⟩;by_cases m:0<=leaf/\leaf<=(ls.length:Int)-1
  ·rw[aS m];obtain⟨j,rfl⟩:∃j:Nat,leaf=j:=⟨leaf.toNat,by omega⟩
   have C:j<ls.length:=by omega
   obtain⟨z,t,F⟩:∃z t,ls[j]?=X (z,t):=⟨ls[j].1,ls[j].2,ay C⟩;obtain⟨gl,lo,W,S,T⟩:=R.o j (z,t) F;subst W;simp only at S T;have M:=af (Ly (t:=(z,t)) i.o F);have j0:(0:Int)<=j:=by omega
   have j1:(j:Int)<ls.length:=by omega
   clear F m;by_cases h:z=1
   ·have f:ah (du (rs.map aw) (k:Int) (j:Int)=(t,iV)):=M.o.1 h;have U:(z !=1)=iF:=by simp[h]
    clear h;go_wp2;go_ret2;exact⟨by rw[f.o];rfl,c.o⟩
   ·have f:ah (du (rs.map aw) (k:Int) (j:Int)=(⟨#[]⟩,iF)):=M.o.2 h;have U:(z !=1)=iV:=by simp[h]
    clear h;go_wp2;go_ret2;exact⟨by rw[f.o];rfl,c.o⟩
  ·rw[aV m];have f:ah (du (rs.map aw) (k:Int) leaf=(⟨#[]⟩,iF)):=Kl i.o m;clear m;go_wp2;go_ret2;exact⟨by rw[f.o];rfl,c.o⟩
 ·rw[aV l];have f:ah (du (rs.map aw) b leaf=(⟨#[]⟩,iF)):=Ib (by rw[bm];exact l)
  clear l;go_wp2;go_ret2;exact⟨by rw[f.o];rfl,c.o⟩
theorem SB(v:iX)(rs:List Rw)(w:iW)(hl:rs.length<=1048576)(bb:∀r∈rs,r.2.2.2.length<=1048576)(bi:mW rs)(ha:eB w v rs):
 iK Tryz.prog 16 #[iA #[v]] w λe w'=>∃u M,e=G u/\Asc M/\Akin (dt (rs.map aw) rs.length) M/\pZ w' w.heap.size u M/\iL w.heap.size w w':=by
 obtain⟨i0,bs,bA,bB,bC⟩:=bO GJ;have h1:=ha;obtain⟨vd,s,rfl,-⟩:=h1;have bo:=af bi;have aT:=af bb;obtain⟨n,hn⟩:=aq rs.length;have HN:=af hn;have al:=af ha;rw[hn]at hl al⊢;have b0:iL w.heap.size w ((w.alloc (iC #[Y vd n s] 26)).alloc (iC #[] 53)):=(aZ).alloc (by simp) _
 have S0:ah (ni w ((w.alloc (iC #[Y vd n s] 26)).alloc (iC #[] 53)) (Y vd n s) (Y (X ⟨w.heap.size+1,0,O⟩) 0 0) []):=by
  refine⟨b0,(iS _ _ (by simp)).trans (aB _ _),?_⟩
  have:=oH (w.alloc (iC #[Y vd n s] 26)) (e:=53) (size:=8) (base:=w.heap.size+1) #[] 0 (by simp) (by unfold maxLen;omega) (by simp)
  rwa [show(w.alloc (iC #[Y vd n s] 26)).heap.size=w.heap.size+1 by simp]at this
 clear ha bi bb hn b0;go_enter Tryz.func16,Tryz.ntmps16;go_wp2;go_loopw [3,4] (λak bv wr=>∃(b:Nat) (l:List an),bv=I J b/\b<=n/\l.length<=b*1048576/\ah (l=dt (rs.map aw) b)/\ah (∃g c,ak=Y (X ⟨g,0,O⟩) l.length c)/\ah (ni w wr (Y vd n s) ak l)) (λ_ bv _=>n-(intOf bv).toNat)
 case atStart=>exact⟨0,[],rfl,aJ _,by simp,rfl,⟨_,_,rfl⟩,S0⟩
 case round=>
  rename iW=>wo
  obtain⟨b,l,rfl,r1,aF,aG,ar,K⟩:=hrel;clear S0;have cf:wo.cell? ⟨w.heap.size,0,O⟩=X (Y vd n s):=aj _ _ 0 _ _ _ K.o.2.1;by_cases bw:(b:Int)<n
  ·have aY:b<rs.length:=by have:=HN.o;omega
   obtain⟨r,hr⟩:∃r,rs[b]?=X r:=⟨_,ay aY⟩;obtain⟨gv,e,-,bu⟩:=al.o.at hr;subst e;have bx:=aT.o r (aL hr);obtain⟨m,hm⟩:=aq r.2.2.2.length;obtain⟨ld,lc,Q,-⟩:=bu;have bl:ah (∀W,iL w.heap.size w W->W.cell? ⟨gv,b*3+2,O⟩=X (Y ld m lc)):=by
    intro W hW;obtain⟨g',e3,⟨-,-,c3⟩,-⟩:=(al.o.below hW).at hr;injection e3 with e3
    injection e3 with e3
    subst e3;rw[c3,Q,hm]
   rw[hm]at bx;have HM:ah (dt (rs.map aw) (b+1)=dt (rs.map aw) b++gj (rs.map aw) b m):=by
    show _=_;simp only[dt,bh,hr,fE,oo];show dt _ b++gj _ b (aw r).2.2.length=_;rw[show(aw r).2.2.length=m from hm]
   have b0:(0:Int)<=b:=by omega
   have L0:ah (l=dt (rs.map aw) b++gj (rs.map aw) b 0):=by show _=_;rw[aG.o];simp[gj]
   clear Q hr aY hm;go_wp2;go_loopw [3,5] (λak kv wr=>∃(k:Nat) (D:List an),kv=I J k/\k<=m/\D.length<=b*1048576+k/\ah (D=dt (rs.map aw) b++gj (rs.map aw) b k)/\ah (∃g c,ak=Y (X ⟨g,0,O⟩) D.length c)/\ah (ni w wr (Y (X ⟨gv,0,O⟩) n s) ak D)) (λ_ kv _=>m-(intOf kv).toNat)
   case atStart=>exact⟨0,l,rfl,aJ _,bV aF (Nat.le_add_right _ _),L0,ar,K⟩
   case round=>
    rename iX=>vout
    obtain⟨k,D,rfl,t1,bG,ab,ad,P⟩:=hrel;clear K L0 cf ar;have cf:wr.cell? ⟨w.heap.size,0,O⟩=X (Y (X ⟨gv,0,O⟩) n s):=aj _ _ 0 _ _ _ P.o.2.1;have c3:=bl.o _ P.o.1;by_cases hk:(k:Int)<m
    ·have C:=af (Nu (Y (X ⟨gv,0,O⟩) n s) rs (b:Int) (k:Int) wr (by have:=HN.o;omega) aT.o (al.o.below P.o.1))
     have bg:=Gd bo.o (b:Int) (k:Int);obtain⟨T,ok,hT⟩:∃T ok,du (rs.map aw) (b:Int) (k:Int)=(T,ok):=⟨_,_,rfl⟩;rw[hT]at C bg;simp only at C bg;have C2:=af (λW=>UD T W (by unfold maxLen;omega))
     have au:dP (rs.map aw) (b:Int) (k:Int)=if ok then dE T else O:=by unfold dP;rw[hT]
     by_cases az:ok=iV/\∃pg,dE T=X pg
     ·obtain⟨rfl,pg,aO⟩:=az;rw[aO]at C2;obtain⟨q1,q2,q3,q4,q5,q6⟩:=pg;unfold lP dJ at C2;simp only at C2;have NL:ah (D++[⟨b,k,⟨q1,q2,q3,q4,q5,q6⟩⟩]=dt (rs.map aw) b++gj (rs.map aw) b (k+1)):=by show _=_;rw[ab.o];simp[gj,au,aO]
      clear au ab hT aO;go_wp2_with fail;refine C.o.mono ?_;rintro e w1 ⟨rfl,b1⟩;have S1:=af (P.o.below b1);clear b1 P C;go_wp2_with fail;refine(C2.o _).mono ?_;rintro e t ⟨rfl,b2⟩;have ba:=(ax t.heap.size t).alloc (am _) (iC #[I J q1,I J q2,I J q3,I J q4,I J q5,iT q6] 44);have d:=af ((S1.o.below b2).below ba);have z3:(t.alloc (iC #[I J q1,I J q2,I J q3,I J q4,I J q5,iT q6] 44)).heap.size=t.heap.size+1:=by simp
      have aU:=af (Cg (t.alloc (iC #[I J q1,I J q2,I J q3,I J q4,I J q5,iT q6] 44)) ([I J (b:Int),I J (k:Int),I J q1,I J q2,I J q3,I J q4,I J q5,iT q6]:List iX).toArray 53 (t.heap.size+1) z3);clear b2 S1 C2 ba;go_wp2_with (at_builtin;refine cS _ rfl _ _ 49 rfl (w.heap.size+1) 53 i0 (iA #[I J 0,I J 0,I J 0,I J 0,I J 0,I J 0,I J 0,iT ⟨#[]⟩]) 8 72 Tryz.underlying49 bs bA bB bC rfl (by decide) _ D.length (mT D) rfl (d.o.2.2.alloc _) ⟨t.heap.size+1,0,O⟩ 1 1 [I J (b:Int),I J (k:Int),I J q1,I J q2,I J q3,I J q4,I J q5,iT q6] rfl rfl aU.o (JG ⟨b,k,⟨q1,q2,q3,q4,q5,q6⟩⟩) ?g1 ?g2 ?g3 ?_)
      case g1=>unfold maxLen;omega
      case g2=>omega
      case g3=>have:=d.o.1.size;simp;omega
      intro v' A ag aa _;have NS:ah (ni w A (Y (X ⟨gv,0,O⟩) n s) v' (D++[⟨b,k,⟨q1,q2,q3,q4,q5,q6⟩⟩])):=by
       have bz:=d.o.below ((ax _ _).alloc (am _) (iC (jE ⟨b,k,⟨q1,q2,q3,q4,q5,q6⟩⟩).toArray 53));have bD:=(aK.1 bz.2.1).1;refine⟨bz.1.grown aa bz.1.size (λx hx=>uQ (d.o.2.2.lt x hx).1),(aa.block w.heap.size bD (λe=>?_)).trans bz.2.1,?_⟩
       ·have:=(d.o.2.2.lt _ e.symm).1;omega
       ·rw[aI,<-FV];exact ag
      have NN:(D++[(⟨b,k,⟨q1,q2,q3,q4,q5,q6⟩⟩:an)]).length=D.length+1:=by simp
      have NO:ah (∃g c,v'=Y (X ⟨g,0,O⟩) (D++[(⟨b,k,⟨q1,q2,q3,q4,q5,q6⟩⟩:an)]).length c):=by
       rcases ag.2 with⟨-,h0⟩|⟨g,cap,bI,e,-,-,-,-,-,-⟩
       ·omega
       ·exact⟨g,cap,by rw[NN];exact e⟩
      generalize D++[(⟨b,k,⟨q1,q2,q3,q4,q5,q6⟩⟩:an)]=l3 at NL NS NN NO;clear ag aa d aU;go_wp2;go_roundw
      case rel=>exact⟨k+1,l3,by go_num,by omega,by omega,NL,NO,NS⟩
      case measure=>simp[intOf];omega
     ·have bd:dP (rs.map aw) (b:Int) (k:Int)=O:=by
       rw[au];cases ok with
       |false=>rfl
       |true=>
        cases hq:dE T with
        |none=>rfl
        |some pg=>exact absurd ⟨rfl,pg,hq⟩ az
      obtain⟨pg,bk,hp⟩:=AM (dE T);have aE:ok=iV->bk=iF:=by
       intro e;subst e;cases hq:dE T with
       |none=>
        rw[hq]at hp;have h3:iU #[dJ ⟨0,0,0,0,0,⟨#[]⟩⟩,iB iF]=iU #[dJ pg,iB bk]:=hp;simp at h3;exact h3.2.symm▸rfl
       |some pg=>exact absurd ⟨rfl,pg,hq⟩ az
      rw[hp]at C2;obtain⟨q1,q2,q3,q4,q5,q6⟩:=pg;unfold dJ at C2;simp only at C2;have NL:ah (D=dt (rs.map aw) b++gj (rs.map aw) b (k+1)):=by show _=_;rw[ab.o];simp[gj,bd]
      have bn:=af aE;clear au ab hT hp bd az aE;go_wp2_with fail;refine C.o.mono ?_;rintro e w1 ⟨rfl,b1⟩;have S1:=af (P.o.below b1);clear b1 P C;go_wp2_with fail;refine(C2.o _).mono ?_;rintro e t ⟨rfl,b2⟩;have d:=af ((S1.o.below b2).below ((ax t.heap.size t).alloc (am _) (iC #[I J q1,I J q2,I J q3,I J q4,I J q5,iT q6] 44)));clear b2 S1 C2;cases ok with
      |false=>
       go_wp2;go_roundw
       case rel=>exact⟨k+1,D,by go_num,by omega,by omega,NL,ad,d⟩
       case measure=>simp[intOf];omega
      |true=>
       obtain rfl:=bn.o (by first|rfl|trivial)
       go_wp2;go_roundw
       case rel=>exact⟨k+1,D,by go_num,by omega,by omega,NL,ad,d⟩
       case measure=>simp[intOf];omega
    ·have a9:k=m:=by omega
     have NL:ah (D=dt (rs.map aw) (b+1)):=by show _=_;rw[ab.o,HM.o,a9]
     clear ab a9;go_wp2;go_roundw
     case rel=>exact⟨b+1,D,by go_num,by omega,by omega,NL,ad,P⟩
     case measure=>simp[intOf];omega
  ·have a8:b=n:=by omega
   have ao:ah (l=dt (rs.map aw) n):=by show _=_;rw[aG.o,a8]
   obtain⟨g,cap,Z⟩:=ar.o;subst Z;have aD:eo wo g l/\w.heap.size<=g:=by
    rcases JB K.o.2.2 (by omega)with⟨e,-⟩|⟨g',bE,e,hg,h,-⟩
    ·cases e
    ·injection e with Z Q e3
     injection Z with Z
     injection Z with Z
     subst Z;exact⟨h,by omega⟩
   obtain⟨aD,br⟩:=aD;obtain⟨nl,av⟩:=aq l.length;rw[av]at aF;rw[av];have B1:=af K.o.1;have ap:=af av;have SS:ah (bf wo wo g l):=⟨aR.refl _ _,aD⟩;clear K aG a8 aD av ar;obtain⟨D0,aN⟩:=aq (dt (rs.map aw) n);rw[aN]at ao;have bm:=af aN;clear aN;have st:∃S T,l=S++T/\Asc S/\Akin D0 (S++T)/\S.length=min 1 nl/\S.length+T.length=nl:=by
    have e:=ao.o;have Q:=ap.o;clear SS ap ao
    match l,e,Q with
    | [],e,Q=>exact⟨[],[],rfl,List.Pairwise.nil,by rw[<-e];exact Akin.refl _,by simp at Q⊢;omega,by simpa using Q⟩
    |y::l',e,Q=>exact⟨[y],l',rfl,mQ _ _,by rw[<-e];exact Akin.refl _,by simp at Q⊢;omega,by simp at Q⊢;omega⟩
   have ST:=af st;clear st;go_wp2;clear cf;go_loopw [10] (λiv wr=>∃(i:Nat) (E:List an),iv=I J i/\1<=i/\i<=nl+1/\ah (E.length=nl)/\ah (∃S T,E=S++T/\Asc S/\Akin D0 (S++T)/\S.length=min i nl/\S.length+T.length=nl)/\ah (bf wo wr g E)) (λiv _=>nl+1-(intOf iv).toNat)
   case atStart=>exact⟨1,l,rfl,by omega,by omega,ap,ST,SS⟩
   case round=>
    rename iW=>wx
    obtain⟨i,E,rfl,r1,r2,HE,HJ,K⟩:=hrel;clear ST SS ap ao;by_cases bw:(i:Int)<nl
    ·obtain⟨S,T0,Z,Q,e3,e4,e5⟩:=HJ.o
     match T0,Z,e3,e5 with
     | [],_,_,h5=>simp at h5;omega
     |x::T,Z,e3,e5=>
      have aM:S.length=i:=by omega
      have J0:ah (E=S++(x::([]++T))/\S++[]=S/\S.length=i/\∀v∈([]:List an),x.key<v.key):=⟨by rw[Z];simp,by simp,aM,λv hv=>by cases hv⟩
      have AS:=af Q;have AK:=af e3;have E5:=af e5;have aX:=K;have aQ:=HE;have E4:=af aM;clear Z Q e3 e4 aM e5 HJ K HE;go_wp2;go_loopw [11] (λjv wr=>∃(j:Nat) (F U V:List an),jv=I J j/\j<=i/\ah (F.length=nl)/\ah (F=U++(x::(V++T))/\U++V=S/\U.length=j/\∀v∈V,x.key<v.key)/\ah (bf wo wr g F)) (λjv _=>(intOf jv).toNat)
      case atStart=>exact⟨i,E,S,[],rfl,am _,aQ,J0,aX⟩
      case round=>
       obtain⟨j,Gq,U,V,rfl,s2,HG,HK,K⟩:=hrel;clear aX aQ J0;have ae:ah ((∀u∈U,u.key<=x.key)->∃L T2,Gq=L++T2/\Asc L/\Akin D0 (L++T2)/\L.length=min (i+1) nl/\L.length+T2.length=nl):=by
        intro hu;obtain⟨k1,k2,k3,k4⟩:=HK.o;have hA:=AS.o;rw[<-k2]at hA;refine⟨U++x::V,T,by rw[k1];simp,Asc.app hA.left (gx.2 ⟨λv hv=>tW (k4 v hv),hA.right⟩) ?_,?_,?_,?_⟩
        ·intro p hp q hq;rcases be.1 hq with e|e
         ·subst e;exact hu p hp
         ·exact hA.across p hp q e
        ·refine AK.o.trans ?_;rw[<-k2];have:=(Akin.refl U).app ((Akin.flip (a:=V) (b:=[x]) (λp hp q hq=>by rw[bU]at hq;subst hq;have:=k4 p hp;omega)).app (Akin.refl T))
         simpa using this
        ·have h1:=congrArg List.length k2;have h2:=E4.o;simp only[aI,aW]at h1⊢;omega
        ·have h1:=congrArg List.length k2;have h2:=E5.o;simp only[aI,aW]at h1 h2⊢;omega
       by_cases bK:(0:Int)<j
       ·obtain⟨k1,k2,k3,k4⟩:=HK.o;obtain⟨U',u,eU⟩:∃U' u,U=U'++[u]:=by
         have bc:U≠ []:=λe=>by subst e;simp at k3;omega
         exact⟨U.dropLast,U.getLast bc,(Ef bc).symm⟩
        subst eU;obtain⟨q,bN⟩:∃q:Nat,(j:Int)-1=q:=⟨j-1,by omega⟩
        have bP:IntKind.i64.wrap ((j:Int)-1)=q:=by rw[cm];omega
        have bF:IntKind.i64.wrap (q:Int)=q:=by rw[cm];omega
        have eE:Gq=U'++u::([]++x::(V++T)):=by rw[k1];simp
        have ac:U'.length=q:=by
         rw[aI]at k3;simp at k3;omega
        have hq:Gq[q]?=X u:=by rw[eE,<-ac];simp
        have hp:Gq[j]?=X x:=by
         rw[eE,cu (by omega)]
         have:j-U'.length=1:=by omega
         rw[this];rfl
        have ai:(Gq.set j u).set q x=U'++(x::((u::V)++T)):=by
         have:=uK U' [] (V++T) u x;rw[ac,<-eE]at this;rw[Ed _ _ (show j≠q by omega),show j=q+1+([]:List an).length by simp;omega,this]
         simp
        have NL:ah (((Gq.set j u).set q x).length=nl):=by show _=_;rw[gK,gK];exact HG.o
        have aP:U'++(u::V)=S:=by rw[<-k2];simp
        have j0:(0:Int)<=j:=by omega
        have q0:(0:Int)<=q:=by omega
        have jN:(j:Int)<nl:=by omega
        have qN:(q:Int)<nl:=by omega
        have f:=af hp;have z:=af hq;have bM:q+1=j:=by omega
        have bL:0<j:=by omega
        have c3:wr.cell? ⟨g,j*8+3,O⟩=X (I J x.fP.seq):=K.o.2.cell f.o 3 rfl;have d3:wr.cell? ⟨g,q*8+3,O⟩=X (I J u.fP.seq):=K.o.2.cell z.o 3 rfl;have aH:=af (λk=>K.o.below (bY (ax _ _) k))
        by_cases hc:x.key<u.key
        ·have NU:ah ((Gq.set j u).set q x=U'++(x::((u::V)++T))/\U'++(u::V)=S/\U'.length=q/\∀v∈(u::V),x.key<v.key):=⟨ai,aP,ac,λv hv=>by
          rcases be.1 hv with e|e
          ·subst e;exact hc
          ·exact k4 v e⟩
         have bH:=af ac;have bp:x.fP.seq<u.fP.seq:=hc;have bq:decide (u.fP.seq>x.fP.seq)=iV:=aS hc;clear hp hq eE ac ai k1 k2 k3 k4 HK ae aP hc;go_wp2;go_quiet (fail);have L:=af (aH.o nq);clear c3 d3 aH K;generalize wr.drewN nq=t at L⊢;have x0:t.cell? ⟨g,j*8,O⟩=X (I J x.block):=L.o.2.cell f.o 0 rfl;have x1:t.cell? ⟨g,j*8+1,O⟩=X (I J x.leaf):=L.o.2.cell f.o 1 rfl;have x2:t.cell? ⟨g,j*8+2,O⟩=X (I J x.fP.kind):=L.o.2.cell f.o 2 rfl;have x3:t.cell? ⟨g,j*8+3,O⟩=X (I J x.fP.seq):=L.o.2.cell f.o 3 rfl;have x4:t.cell? ⟨g,j*8+4,O⟩=X (I J x.fP.tx):=L.o.2.cell f.o 4 rfl;have x5:t.cell? ⟨g,j*8+5,O⟩=X (I J x.fP.part):=L.o.2.cell f.o 5 rfl;have x6:t.cell? ⟨g,j*8+6,O⟩=X (I J x.fP.count):=L.o.2.cell f.o 6 rfl;have x7:t.cell? ⟨g,j*8+7,O⟩=X (iT x.fP.text):=L.o.2.cell f.o 7 rfl;go_upto_region 19 with fail
         clear x0 x1 x2 x3 x4 x5 x6 x7;have H3:ah ((t.alloc (iC #[I J x.block,I J x.leaf,I J x.fP.kind,I J x.fP.seq,I J x.fP.tx,I J x.fP.part,I J x.fP.count,iT x.fP.text] 53)).heap[t.heap.size]?=X (iC #[I J x.block,I J x.leaf,I J x.fP.kind,I J x.fP.seq,I J x.fP.tx,I J x.fP.part,I J x.fP.count,iT x.fP.text] 53)):=aB _ _;have d:=af (L.o.below ((ax _ _).alloc (am _) (iC #[I J x.block,I J x.leaf,I J x.fP.kind,I J x.fP.seq,I J x.fP.tx,I J x.fP.part,I J x.fP.count,iT x.fP.text] 53)));have bj:ah (t.heap.size≠g):=by show _≠_;have:=L.o.2.lt;omega
         clear L;generalize t.alloc (iC #[I J x.block,I J x.leaf,I J x.fP.kind,I J x.fP.seq,I J x.fP.tx,I J x.fP.part,I J x.fP.count,iT x.fP.text] 53)=R at H3 d⊢;generalize t.heap.size=hx at H3 bj⊢;have z0:R.cell? ⟨g,q*8,O⟩=X (I J u.block):=d.o.2.cell z.o 0 rfl;have x0:R.cell? ⟨g,j*8,O⟩=X (I J x.block):=d.o.2.cell f.o 0 rfl;have k0:=d.o.2.frozen (j*8);have z1:R.cell? ⟨g,q*8+1,O⟩=X (I J u.leaf):=d.o.2.cell z.o 1 rfl;have x1:R.cell? ⟨g,j*8+1,O⟩=X (I J x.leaf):=d.o.2.cell f.o 1 rfl;have k1:=d.o.2.frozen (j*8+1);have z2:R.cell? ⟨g,q*8+2,O⟩=X (I J u.fP.kind):=d.o.2.cell z.o 2 rfl;have x2:R.cell? ⟨g,j*8+2,O⟩=X (I J x.fP.kind):=d.o.2.cell f.o 2 rfl;have k2:=d.o.2.frozen (j*8+2);have z3:R.cell? ⟨g,q*8+3,O⟩=X (I J u.fP.seq):=d.o.2.cell z.o 3 rfl;have x3:R.cell? ⟨g,j*8+3,O⟩=X (I J x.fP.seq):=d.o.2.cell f.o 3 rfl;have k3:=d.o.2.frozen (j*8+3);have z4:R.cell? ⟨g,q*8+4,O⟩=X (I J u.fP.tx):=d.o.2.cell z.o 4 rfl;have x4:R.cell? ⟨g,j*8+4,O⟩=X (I J x.fP.tx):=d.o.2.cell f.o 4 rfl;have k4:=d.o.2.frozen (j*8+4);have z5:R.cell? ⟨g,q*8+5,O⟩=X (I J u.fP.part):=d.o.2.cell z.o 5 rfl;have x5:R.cell? ⟨g,j*8+5,O⟩=X (I J x.fP.part):=d.o.2.cell f.o 5 rfl;have k5:=d.o.2.frozen (j*8+5);have z6:R.cell? ⟨g,q*8+6,O⟩=X (I J u.fP.count):=d.o.2.cell z.o 6 rfl;have x6:R.cell? ⟨g,j*8+6,O⟩=X (I J x.fP.count):=d.o.2.cell f.o 6 rfl;have k6:=d.o.2.frozen (j*8+6);have z7:R.cell? ⟨g,q*8+7,O⟩=X (iT u.fP.text):=d.o.2.cell z.o 7 rfl;have x7:R.cell? ⟨g,j*8+7,O⟩=X (iT x.fP.text):=d.o.2.cell f.o 7 rfl;have k7:=d.o.2.frozen (j*8+7);go_upto_region 20 with fail
         clear z0 k0 x0 z1 k1 x1 z2 k2 x2 z3 k3 x3 z4 k4 x4 z5 k5 x5 z6 k6 x6 z7 k7 x7;obtain⟨A,e4⟩:∃A,A=dX R g (j*8) u:=⟨_,rfl⟩;have H:ah (bf wo A g (Gq.set j u)):=by show bf _ _ _ _;rw[e4];exact⟨d.o.1.trans (xK _ _ _ _),d.o.2.put (aC.1 f.o).1 u⟩
         have H4:ah (A.heap[hx]?=X (iC #[I J x.block,I J x.leaf,I J x.fP.kind,I J x.fP.seq,I J x.fP.tx,I J x.fP.part,I J x.fP.count,iT x.fP.text] 53)):=by show _=_;rw[e4];exact(P8 _ _ _ _ _ bj.o).trans H3.o
         unfold dX at e4;rw[<-e4];clear e4 d H3;have N:ah ((Gq.set j u)[q]?=X u):=by show _=_;rw[oZ (by omega)];exact z.o
         have z0:A.cell? ⟨g,q*8,O⟩=X (I J u.block):=H.o.2.cell N.o 0 rfl;have a0:A.cell? ⟨hx,0,O⟩=X (I J x.block):=aj _ _ 0 _ _ _ H4.o;have l0:=H.o.2.frozen (q*8);have z1:A.cell? ⟨g,q*8+1,O⟩=X (I J u.leaf):=H.o.2.cell N.o 1 rfl;have a1:A.cell? ⟨hx,1,O⟩=X (I J x.leaf):=aj _ _ 1 _ _ _ H4.o;have l1:=H.o.2.frozen (q*8+1);have z2:A.cell? ⟨g,q*8+2,O⟩=X (I J u.fP.kind):=H.o.2.cell N.o 2 rfl;have a2:A.cell? ⟨hx,2,O⟩=X (I J x.fP.kind):=aj _ _ 2 _ _ _ H4.o;have D:=H.o.2.frozen (q*8+2);have z3:A.cell? ⟨g,q*8+3,O⟩=X (I J u.fP.seq):=H.o.2.cell N.o 3 rfl;have a3:A.cell? ⟨hx,3,O⟩=X (I J x.fP.seq):=aj _ _ 3 _ _ _ H4.o;have l3:=H.o.2.frozen (q*8+3);have z4:A.cell? ⟨g,q*8+4,O⟩=X (I J u.fP.tx):=H.o.2.cell N.o 4 rfl;have a4:A.cell? ⟨hx,4,O⟩=X (I J x.fP.tx):=aj _ _ 4 _ _ _ H4.o;have l4:=H.o.2.frozen (q*8+4);have z5:A.cell? ⟨g,q*8+5,O⟩=X (I J u.fP.part):=H.o.2.cell N.o 5 rfl;have a5:A.cell? ⟨hx,5,O⟩=X (I J x.fP.part):=aj _ _ 5 _ _ _ H4.o;have l5:=H.o.2.frozen (q*8+5);have z6:A.cell? ⟨g,q*8+6,O⟩=X (I J u.fP.count):=H.o.2.cell N.o 6 rfl;have a6:A.cell? ⟨hx,6,O⟩=X (I J x.fP.count):=aj _ _ 6 _ _ _ H4.o;have l6:=H.o.2.frozen (q*8+6);have z7:A.cell? ⟨g,q*8+7,O⟩=X (iT u.fP.text):=H.o.2.cell N.o 7 rfl;have a7:A.cell? ⟨hx,7,O⟩=X (iT x.fP.text):=aj _ _ 7 _ _ _ H4.o;have l7:=H.o.2.frozen (q*8+7);go_upto_region 17 with fail
         clear a0 l0 z0 a1 l1 z1 a2 D z2 a3 l3 z3 a4 l4 z4 a5 l5 z5 a6 l6 z6 a7 l7 z7;have S5:ah (bf wo (dX A g (q*8) x) g ((Gq.set j u).set q x)):=⟨H.o.1.trans (xK _ _ _ _),H.o.2.put (by rw[gK];exact(aC.1 z.o).1) x⟩
         unfold dX at S5;clear H H4;go_wp2;go_roundw
         case rel=>exact⟨q,_,U',u::V,by first|rfl|go_num,by omega,NL,NU,S5⟩
         case measure=>simp[intOf];omega
        ·have PO:=af (ae.o (λp aA=>by
          have hA:=AS.o;rw[<-k2]at hA;have h1:=hA.left;rcases bJ.1 aA with e|e
          ·have:=h1.across p e u (by simp);omega
          ·rw[bU]at e;subst e;omega))
         have bp:¬x.fP.seq<u.fP.seq:=hc;have bq:decide (u.fP.seq>x.fP.seq)=iF:=aV hc;clear hp hq eE ac ai k1 k2 k3 k4 HK ae aP NL hc;go_wp2;go_quiet (fail);go_wp2;go_roundw
         case rel=>exact⟨i+1,Gq,by go_num,by omega,by omega,HG,PO,aH.o _⟩
         case measure=>simp[intOf];omega
       ·have hU:U=[]:=by
         obtain⟨k1,k2,k3,k4⟩:=HK.o;exact iJ (by omega)
        have PO:=af (ae.o (λp aA=>by rw[hU]at aA;cases aA))
        have bt:j=0:=by omega
        subst bt;clear ae HK hU;go_wp2;go_quiet (fail);go_wp2;go_roundw
        case rel=>exact⟨i+1,Gq,by go_num,by omega,by omega,HG,PO,K.o.below (bY (ax _ _) _)⟩
        case measure=>simp[intOf];omega
    ·obtain⟨S,T,Z,Q,e3,e4,e5⟩:=HJ.o;have hT:T=[]:=iJ (by omega)
     subst hT;have PF:ah (∃M,Asc M/\Akin D0 M/\pZ wx w.heap.size (Y (X ⟨g,0,O⟩) nl cap) M):=⟨S,Q,by simpa using e3,.inr ⟨g,cap,by simp at e5;rw[e5],br,by have h1:=K.o.2;rw[Z]at h1;simpa using h1,by simp at e5;omega⟩⟩
     have B2:=af (B1.o.trans (aR.down (B:=w.heap.size) K.o.1 B1.o.size (λi hi=>by omega)))
     clear Z Q e3 e4 e5 HJ K B1;go_wp2;go_ret;obtain⟨M,m1,m2,m3⟩:=PF.o;rw[<-bm.o]at m2
     first|exact⟨_,rfl,M,m1,m2,m3,B2.o⟩|exact⟨_,rfl,⟨M,m1,m2,m3⟩,B2.o⟩|exact⟨_,M,rfl,m1,m2,m3,B2.o⟩
end Go.Proofs.YtgigcooffjjbgaaGreatDoor
