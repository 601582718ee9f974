/-
  IScan2; FdOr; SRead; SScan; ScC; SHas; ApI; SInsI; SLive; SConL; SNeed
-/
import Derived.Test.YtgigcooffjjbgaaGreatDoorPk12
open Go.Value renaming int→I,slice→Y,string→iT,bool→iB,pointer→iP,agg→iA,tuple→iU
open Go.IntKind renaming i64→J
open Option renaming none→O,some→X
open Go.Ending renaming returned→G
open Go.Obj renaming cells→iC
open Bool renaming true→iV,false→iF
open Go renaming World→iW,Value→iX,Calls→iK
open Go.RowKit renaming Below→iL
set_option maxHeartbeats 4000000
set_option maxRecDepth 100000
namespace Go.Proofs.YtgigcooffjjbgaaGreatDoor
open Go.RowKit Words Sums
def pO(w:iW)(B:Nat)(u:iX)(M:List an):Prop:=(u=Y O 0 0/\M=[])∨∃g cap,u=Y (X ⟨g,0,O⟩) M.length cap/\B<=g/\dW w g M/\M.length<=1000000000000000000
variable{a:Act}{ops:Array Oper}{fn:Func}{r y c:Int}{v:Int × Int}{vs:List (Int × Int)}{row:List Bool}{rest:List Oper}{B g k n m:Nat}
theorem FG{w:iW}{u:iX}{l:List an}(h:w.ownsRow B 53 8 u l.length (mP l))(k:l.length<=1000000000000000000):pO w B u l:=by
 obtain⟨h1,d⟩:=h;rcases d with⟨rfl,c⟩|⟨g,cap,b,rfl,c,h4,o,p,q,e⟩
 ·exact .inl ⟨rfl,gK c⟩
 ·refine .inr ⟨g,cap,rfl,c,⟨b,h4,λi x n j v m=>?_⟩,k⟩
  have:=PB l i x n j v m;rw[<-e]at this;obtain⟨f,a⟩:=aB.1 this;rw[AA]at a;rw[cG]at f;rw[<-rO,aB];exact⟨by omega,a⟩
theorem MU(w:iW):
 iK Tryz.prog 62 #[Y O 0 0,.func (.func 63) #[] #[]] w λe w'=>e=G (iU #[])/\iL w.heap.size w w':=by
 have b:ah (∀W,iK Tryz.prog 152 #[Y O 0 0,I J 0,I J 0,.func (.func 63) #[] #[]] W λe w'=>e=G (iU #[])/\w'=W):=by
  intro W;go_enter Tryz.func152,Tryz.ntmps152;go_wp2;go_loopw [8] (λf wr=>f=I J 1/\wr=W) (λ_ _=>0)
  case atStart=>exact⟨rfl,rfl⟩
  case round=>
   obtain⟨rfl,rfl⟩:=hrel;go_wp2
   first|go_end0|refine aE (kT rfl _ _ _) rfl ?_
   exact⟨rfl,rfl⟩
 have CS:ah (∀W,iK Tryz.prog 109 #[Y O 0 0,I J 0,.func (.func 63) #[] #[]] W λe w'=>e=G (iU #[])/\w'=W):=by
  intro W;go_enter Tryz.func109,Tryz.ntmps109;go_wp2;go_loopw [7,8] (λc d wr=>c=I J 0/\d=I J 20/\wr=W) (λ_ _ _=>0)
  case atStart=>exact⟨rfl,rfl,rfl⟩
  case round=>
   obtain⟨rfl,rfl,rfl⟩:=hrel;go_wp2_with fail;refine(b.o _).mono ?_;rintro e a ⟨rfl,rfl⟩;go_wp2;go_loopw [6] (λg wr=>g=I J 20/\wr=a) (λ_ _=>0)
   case atStart=>exact⟨rfl,rfl⟩
   case round=>
    obtain⟨rfl,rfl⟩:=hrel;go_wp2
    first|go_end0|refine aE (kT rfl _ _ _) rfl ?_
    exact⟨rfl,rfl⟩
 go_enter Tryz.func62,Tryz.ntmps62;go_wp2_with fail;refine(CS.o _).mono ?_;rintro e a ⟨rfl,rfl⟩;go_wp2
 first|go_end0|refine aE (kT rfl _ _ _) rfl ?_
 exact⟨rfl,az _ _⟩
theorem QG(v:iX)(rs:List Rw)(w:iW)(hl:rs.length<=1048576)(ac:∀r∈rs,r.2.2.2.length<=1048576)(ag:mJ rs)(ha:dX w v rs)(ht:eC w):
 iK Tryz.prog 33 #[iA #[v]] w λe w'=>∃u M,e=G u/\Asc M/\Akin (dk (rs.map aw) rs.length) M/\pO w' w.heap.size u M/\iL w.heap.size w w':=by
 obtain⟨i0,ao,au,av,ax⟩:=bV Hl;have h1:=ha;obtain⟨vd,a,rfl,-⟩:=h1;have HT:=af ht;have aj:=af ag;have U:=af ac;obtain⟨n,hn⟩:=aq rs.length;have HN:=af hn;have P:=af ha;rw[hn]at hl P⊢;have b0:=aR w (iC #[Y vd n a] 26);have S0:ah (mH w (w.alloc (iC #[Y vd n a] 26)) (Y vd n a) (Y O 0 0) []):=⟨b0,aC _ _,uK _ _ _ _⟩;clear ha ht ag ac hn b0;go_enter Tryz.func33,Tryz.ntmps33;go_wp2;go_loopw [3,11] (λR bv wr=>∃(b:Nat) (l:List an),bv=I J b/\b<=n/\l.length<=b*1048576/\ah (l=dk (rs.map aw) b)/\ah (mH w wr (Y vd n a) R l)) (λ_ bv _=>n-(intOf bv).toNat)
 case atStart=>exact⟨0,[],rfl,aK _,by simp,rfl,S0⟩
 case round=>
  rename iW=>wo
  obtain⟨b,l,rfl,r1,L,D,E⟩:=hrel;clear S0;have cf:wo.cell? ⟨w.heap.size,0,O⟩=X (Y vd n a):=ai _ _ 0 _ _ _ E.o.2.1;by_cases aD:(b:Int)<n
  ·have aa:b<rs.length:=by have:=HN.o;omega
   obtain⟨r,hr⟩:∃r,rs[b]?=X r:=⟨_,ay aa⟩;obtain⟨gv,e,⟨-,-,c3⟩,ap⟩:=(P.o.below E.o.1).at hr;subst e;obtain⟨ld,lc,e2,-⟩:=ap;have ar:=U.o r (aO hr);obtain⟨m,hm⟩:=aq r.2.2.2.length;have ak:wo.cell? ⟨gv,b*3+2,O⟩=X (Y ld m lc):=by rw[c3,e2,hm]
   rw[hm]at ar;have HM:ah (dk (rs.map aw) (b+1)=dk (rs.map aw) b++fT (rs.map aw) b m):=by
    show _=_;simp only[dk,bi,hr,g9,pK];show dk _ b++fT _ b (aw r).2.2.length=_;rw[show(aw r).2.2.length=m from hm]
   have b0:(0:Int)<=b:=by omega
   have L0:ah (l=dk (rs.map aw) b++fT (rs.map aw) b 0):=by show _=_;rw[D.o];simp[fT]
   clear c3 e2 hr aa hm;go_wp2;go_loopw [3,21] (λR kv wr=>∃(k:Nat) (f:List an),kv=I J k/\k<=m/\f.length<=b*1048576+k/\ah (f=dk (rs.map aw) b++fT (rs.map aw) b k)/\ah (mH w wr (Y (X ⟨gv,0,O⟩) n a) R f)) (λ_ kv _=>m-(intOf kv).toNat)
   case atStart=>exact⟨0,l,rfl,aK _,bT L (Nat.le_add_right _ _),L0,E⟩
   case round=>
    rename iX=>vout
    obtain⟨k,f,rfl,t1,aB,h,c⟩:=hrel;clear E L0 cf ak;have cf:wr.cell? ⟨w.heap.size,0,O⟩=X (Y (X ⟨gv,0,O⟩) n a):=ai _ _ 0 _ _ _ c.o.2.1;by_cases hk:(k:Int)<m
    ·have C:=af (MI (Y (X ⟨gv,0,O⟩) n a) rs (b:Int) (k:Int) wr (by have:=HN.o;omega) U.o aj.o (P.o.below c.o.1) (HT.o.on c.o.1))
     cases T:dJ (rs.map aw) (b:Int) (k:Int)with
     |none=>
      rw[T]at C;unfold lH dC at C;simp only at C;have S:ah (f=dk (rs.map aw) b++fT (rs.map aw) b (k+1)):=by show _=_;rw[h.o];simp[fT,T]
      clear T h;go_wp2_with fail;refine C.o.mono ?_;rintro e A ⟨rfl,H⟩;have F:=af ((c.o.below H).below ((az _ _).alloc (am _) (iC #[I J 0,I J 0,I J 0,I J 0,I J 0,iT ⟨#[]⟩] 44)));clear H c C;go_wp2;go_roundw
      case rel=>exact⟨k+1,f,by go_num,by omega,by omega,S,F⟩
      case measure=>simp[intOf];omega
     |some pg=>
      rw[T]at C;obtain⟨p,q,s,t,y,z⟩:=pg;unfold lH dC at C;simp only at C;have S:ah (f++[⟨b,k,⟨p,q,s,t,y,z⟩⟩]=dk (rs.map aw) b++fT (rs.map aw) b (k+1)):=by show _=_;rw[h.o];simp[fT,T]
      clear T h;go_wp2_with fail;refine C.o.mono ?_;rintro e A ⟨rfl,H⟩;have ba:=(az A.heap.size A).alloc (am _) (iC #[I J p,I J q,I J s,I J t,I J y,iT z] 44);have F:=af ((c.o.below H).below ba);have z3:(A.alloc (iC #[I J p,I J q,I J s,I J t,I J y,iT z] 44)).heap.size=A.heap.size+1:=by simp
      have W:=af (Ax (A.alloc (iC #[I J p,I J q,I J s,I J t,I J y,iT z] 44)) ([I J (b:Int),I J (k:Int),I J p,I J q,I J s,I J t,I J y,iT z]:List iX).toArray 53 (A.heap.size+1) z3);clear H c C ba;go_wp2_with (at_builtin;refine cZ _ rfl _ _ 49 rfl (w.heap.size+1) 53 i0 (iA #[I J 0,I J 0,I J 0,I J 0,I J 0,I J 0,I J 0,iT ⟨#[]⟩]) 8 72 Tryz.underlying49 ao au av ax rfl (by decide) _ f.length (mP f) rfl (F.o.2.2.alloc _) ⟨A.heap.size+1,0,O⟩ 1 1 [I J (b:Int),I J (k:Int),I J p,I J q,I J s,I J t,I J y,iT z] rfl rfl W.o (KL ⟨b,k,⟨p,q,s,t,y,z⟩⟩) ?g1 ?g2 ?g3 ?_)
      case g1=>unfold maxLen;omega
      case g2=>omega
      case g3=>have:=F.o.1.size;simp;omega
      intro v' w4 K d _;have NS:ah (mH w w4 (Y (X ⟨gv,0,O⟩) n a) v' (f++[⟨b,k,⟨p,q,s,t,y,z⟩⟩])):=by
       have bz:=F.o.below ((az _ _).alloc (am _) (iC (jC ⟨b,k,⟨p,q,s,t,y,z⟩⟩).toArray 53));have aA:=(aL.1 bz.2.1).1;refine⟨bz.1.grown d bz.1.size (λx hx=>uT (F.o.2.2.lt x hx).1),(d.block w.heap.size aA (λe=>?_)).trans bz.2.1,?_⟩
       ·have:=(F.o.2.2.lt _ e.symm).1;omega
       ·rw[aJ,<-FZ];exact K
      have NN:(f++[(⟨b,k,⟨p,q,s,t,y,z⟩⟩:an)]).length=f.length+1:=by simp
      generalize f++[(⟨b,k,⟨p,q,s,t,y,z⟩⟩:an)]=l3 at S NS NN;clear K d F W;go_wp2;go_roundw
      case rel=>exact⟨k+1,l3,by go_num,by omega,by omega,S,NS⟩
      case measure=>simp[intOf];omega
    ·have ab:k=m:=by omega
     have S:ah (f=dk (rs.map aw) (b+1)):=by show _=_;rw[h.o,HM.o,ab]
     clear h ab;go_wp2;go_roundw
     case rel=>exact⟨b+1,f,by go_num,by omega,by omega,S,c⟩
     case measure=>simp[intOf];omega
  ·have Q:b=n:=by omega
   have V:ah (l=dk (rs.map aw) n):=by show _=_;rw[D.o,Q]
   have ad:=FG E.o.2.2 (by omega)
   rcases ad with⟨e1,e2⟩|⟨g,cap,e1,hg,ae,-⟩
   ·subst e1 e2;have N:=af E.o.1;clear E cf D Q;go_wp2_with fail;refine(MU _).mono ?_;rintro e A ⟨rfl,H⟩;have B2:=af (N.o.trans (H.mono N.o.size));clear H N;go_wp2;go_ret;exact⟨_,[],rfl,List.Pairwise.nil,by rw[<-V.o];exact Akin.refl _,.inl ⟨rfl,rfl⟩,B2.o⟩
   ·subst e1;obtain⟨nl,j⟩:=aq l.length;rw[j]at L;have C:=af (M9 g nl cap l wo (by omega) j ae)
    have N:=af E.o.1;rw[j];have Z:=af j;have al:w.heap.size<=g:=by omega
    clear E cf D Q ae j;go_wp2_with fail;refine C.o.mono ?_;rintro e A ⟨rfl,M,m1,m2,m3,m4⟩;have B2:=af (N.o.trans (be.down (B:=w.heap.size) m4.1 N.o.size (λi hi=>by omega)))
    have PF:ah (Asc M/\Akin (dk (rs.map aw) n) M/\pO A w.heap.size (Y (X ⟨g,0,O⟩) nl cap) M):=⟨m1,by rw[<-V.o];exact m2,.inr ⟨g,cap,by rw[m3,Z.o],al,m4.2,by rw[m3,Z.o];omega⟩⟩
    clear m1 m2 m3 m4 N C;go_wp2;go_ret;exact⟨_,M,rfl,PF.o.1,PF.o.2.1,PF.o.2.2,B2.o⟩
def qH:an:=⟨0,0,⟨0,0,0,0,0,⟨#[]⟩⟩⟩
def qF(o:Option an):an:=o.getD qH
def jY(W:iW)(g:Nat)(x:an):Prop:=W.heap[g]?=X (iC #[I J x.block,I J x.leaf,I J x.fP.kind,I J x.fP.seq,I J x.fP.tx,I J x.fP.part,I J x.fP.count,iT x.fP.text] 53 (0,0))
variable{x:an}
theorem jY.below{w w':iW}(h:jY w g x)(a:iL w.heap.size w w'):jY w' g x:=(a.block _ (aL.1 h).1).trans h
theorem jY.cells{W:iW}{g:Nat}{x:an}(h:jY W g x):W.cell? ⟨g,0,O⟩=X (I J x.block)/\W.cell? ⟨g,1,O⟩=X (I J x.leaf)/\W.cell? ⟨g,2,O⟩=X (I J x.fP.kind)/\W.cell? ⟨g,3,O⟩=X (I J x.fP.seq)/\W.cell? ⟨g,4,O⟩=X (I J x.fP.tx)/\W.cell? ⟨g,5,O⟩=X (I J x.fP.part)/\W.cell? ⟨g,6,O⟩=X (I J x.fP.count)/\W.cell? ⟨g,7,O⟩=X (iT x.fP.text):=
 ⟨ai _ _ 0 _ _ _ h,ai _ _ 1 _ _ _ h,ai _ _ 2 _ _ _ h,ai _ _ 3 _ _ _ h,ai _ _ 4 _ _ _ h,ai _ _ 5 _ _ _ h,ai _ _ 6 _ _ _ h,ai _ _ 7 _ _ _ h⟩
theorem jY.fr{W:iW}(h:jY W g x)(k:Nat):W.frozen? ⟨g,k,O⟩=iF:=aF _ _ k _ _ h
theorem Qd{w:iW}{t:TypeId}{C B p o n m j i a b c d e f k l:iX}(h:w.heap[g]?=X (iC #[C,B,p,o,n,m,j,i] t (0,0))):
 ((((((((w.setCell ⟨g,0,O⟩ a).setCell ⟨g,1,O⟩ b).setCell ⟨g,2,O⟩ c).setCell ⟨g,3,O⟩ d).setCell ⟨g,4,O⟩ e).setCell ⟨g,5,O⟩ f).setCell ⟨g,6,O⟩ k).setCell ⟨g,7,O⟩ l).heap[g]?=X (iC #[a,b,c,d,e,f,k,l] t (0,0)):=by
 have h0:(w.setCell ⟨g,0,O⟩ a).heap[g]?=X (iC #[a,B,p,o,n,m,j,i] t (0,0)):=bw _ _ 0 _ _ _ h;generalize w.setCell ⟨g,0,O⟩ a=w0 at h0⊢;have h1:(w0.setCell ⟨g,1,O⟩ b).heap[g]?=X (iC #[a,b,p,o,n,m,j,i] t (0,0)):=bw _ _ 1 _ _ _ h0;generalize w0.setCell ⟨g,1,O⟩ b=v at h1⊢;have q:(v.setCell ⟨g,2,O⟩ c).heap[g]?=X (iC #[a,b,c,o,n,m,j,i] t (0,0)):=bw _ _ 2 _ _ _ h1;generalize v.setCell ⟨g,2,O⟩ c=x at q⊢;have r:(x.setCell ⟨g,3,O⟩ d).heap[g]?=X (iC #[a,b,c,d,n,m,j,i] t (0,0)):=bw _ _ 3 _ _ _ q;generalize x.setCell ⟨g,3,O⟩ d=y at r⊢;have h4:(y.setCell ⟨g,4,O⟩ e).heap[g]?=X (iC #[a,b,c,d,e,m,j,i] t (0,0)):=bw _ _ 4 _ _ _ r;generalize y.setCell ⟨g,4,O⟩ e=z at h4⊢;have s:(z.setCell ⟨g,5,O⟩ f).heap[g]?=X (iC #[a,b,c,d,e,f,j,i] t (0,0)):=bw _ _ 5 _ _ _ h4;generalize z.setCell ⟨g,5,O⟩ f=A at s⊢;have u:(A.setCell ⟨g,6,O⟩ k).heap[g]?=X (iC #[a,b,c,d,e,f,k,i] t (0,0)):=bw _ _ 6 _ _ _ s;generalize A.setCell ⟨g,6,O⟩ k=D at u⊢;exact bw _ _ 7 _ _ _ u
theorem jY.set{W:iW}(h:jY W g x)(y:an):
 jY ((((((((W.setCell ⟨g,0,O⟩ (I J y.block)).setCell ⟨g,1,O⟩ (I J y.leaf)).setCell ⟨g,2,O⟩ (I J y.fP.kind)).setCell ⟨g,3,O⟩ (I J y.fP.seq)).setCell ⟨g,4,O⟩ (I J y.fP.tx)).setCell ⟨g,5,O⟩ (I J y.fP.part)).setCell ⟨g,6,O⟩ (I J y.fP.count)).setCell ⟨g,7,O⟩ (iT y.fP.text)) g y:=Qd h
theorem Fu{a w:iW}{v0 v1 v2 v3 v4 v5 v6 v7:iX}(h:iL B a w)(b:B<=g):
 iL B a ((((((((w.setCell ⟨g,0,O⟩ v0).setCell ⟨g,1,O⟩ v1).setCell ⟨g,2,O⟩ v2).setCell ⟨g,3,O⟩ v3).setCell ⟨g,4,O⟩ v4).setCell ⟨g,5,O⟩ v5).setCell ⟨g,6,O⟩ v6).setCell ⟨g,7,O⟩ v7):=
 (((((((h.setCell (p:=⟨g,0,O⟩) b _).setCell (p:=⟨g,1,O⟩) b _).setCell (p:=⟨g,2,O⟩) b _).setCell (p:=⟨g,3,O⟩) b _).setCell (p:=⟨g,4,O⟩) b _).setCell (p:=⟨g,5,O⟩) b _).setCell (p:=⟨g,6,O⟩) b _).setCell (p:=⟨g,7,O⟩) b _
theorem Ud:(Tryz.prog.info? 53).map (·.size)=X 8:=by kernel_rfl
theorem Ir {p q:Tmp} (h:fn.results= #[.cell p 53,.tmp q]) (a:Array iX) (w:iW) (g:Nat) (x:an)
 (e:a.getD p undef=iP (X ⟨g,0,O⟩)) (c:jY w g x):
 (results fn a).run Tryz.prog w=.ok (iU #[gG x,a.getD q undef]) w:=by
 have b:a[p]?.getD undef=iP (X ⟨g,0,O⟩):=by simpa using e
 have d:=nj (P:=Tryz.prog) w g 53 53 _ _ _ c Tryz.underlying53 rfl Ud;simp[results,h,b,asAddr,d,gG]
theorem iH.all{w:iW}{a:Option Addr}{d:Nat}{ls:List an}(h:iH w a d ls){t:an}(n:ls[k]?=X t):
 ∃b c,a=X ⟨b,c,O⟩/\b<w.heap.size/\w.cell? ⟨b,c+k*8,O⟩=X (I J t.block)/\w.cell? ⟨b,c+k*8+1,O⟩=X (I J t.leaf)/\
  w.cell? ⟨b,c+k*8+2,O⟩=X (I J t.fP.kind)/\w.cell? ⟨b,c+k*8+3,O⟩=X (I J t.fP.seq)/\w.cell? ⟨b,c+k*8+4,O⟩=X (I J t.fP.tx)/\
  w.cell? ⟨b,c+k*8+5,O⟩=X (I J t.fP.part)/\w.cell? ⟨b,c+k*8+6,O⟩=X (I J t.fP.count)/\w.cell? ⟨b,c+k*8+7,O⟩=X (iT t.fP.text)/\w.cell? ⟨b,c+k*8+2+2,O⟩=X (I J t.fP.tx):=by
 obtain⟨b,c,e,h0,h1,g,i,h4,f,j,l,m⟩:=h.at n;exact⟨b,c,e,h0,h1,g,i,h4,f,j,l,m,f⟩
variable{M:List an}
theorem pO.rd{W:iW}{u:iX}(h:pO W B u M):∃ad cap,u=Y ad M.length cap/\iH W ad M.length M/\M.length<=1000000000000000000:=by
 rcases h with⟨rfl,rfl⟩|⟨g,cap,rfl,d,a,b⟩
 ·exact⟨O,0,rfl,⟨rfl,by unfold maxLen;simp,λh=>by simp at h⟩,by simp⟩
 ·refine⟨_,_,rfl,⟨rfl,by unfold maxLen;omega,λ_=>⟨g,0,rfl,a.lt,λi t hi j v c=>?_⟩⟩,b⟩
  rw[eV];exact a.cell hi j c
theorem LI(v:iX)(rs:List Rw)(b leaf:Int)(w:iW)(hl:rs.length<=1048576)(p:∀r∈rs,r.2.2.2.length<=1048576)(B:dX w v rs):
 iK Tryz.prog 12 #[iA #[v],I J b,I J leaf] w λe w'=>e=G (iU #[iT (dl (rs.map aw) b leaf).1,iB (dl (rs.map aw) b leaf).2])/\iL w.heap.size w w':=by
 have h1:=B;obtain⟨s,a,rfl,-⟩:=h1;have A:=af p;have c:=af ((az w.heap.size w).alloc (am _) (iC #[Y s rs.length a] 26));have K:=af (B.below c.o);have Q:=aC w (iC #[Y s rs.length a] 26);have H:(w.alloc (iC #[Y s rs.length a] 26)).cell? ⟨w.heap.size,0,O⟩=X (Y s rs.length a):=ai _ _ 0 _ _ _ Q;have L:=af H;have Z:IntKind.i64.wrap ((rs.length:Int)-1)=(rs.length:Int)-1:=by rw[cm];omega
 clear B p Q H;go_enter Tryz.func12,Tryz.ntmps12;go_wp2_with fail;refine(ie b 0 ((rs.length:Int)-1) _).mono ?_;rintro e w2 ⟨rfl,rfl⟩;generalize w.alloc (iC #[Y s rs.length a] 26)=w2 at c K L⊢;have H:=L.o;by_cases l:0<=b/\b<=(rs.length:Int)-1
 ·rw[aW l];obtain⟨k,rfl⟩:∃k:Nat,b=k:=⟨b.toNat,by omega⟩
  have D:k<rs.length:=by omega
  have q:rs[k]?=X rs[k]:=ay D;generalize rs[k]=r at q;have d:=aO q;have E:=A.o r d;obtain⟨g,V,⟨c1,c2,c3⟩,n⟩:=K.o.at q;subst V;have i:ah ((rs.map aw)[k]?=X (aw r)):=by show _=_;rw[bi,q];rfl
  obtain⟨x,y,u,ls⟩:=r;simp only at c1 c2 c3;simp only at n E;obtain⟨ld,N,rfl,-,P⟩:=n;have R:=af P;have ab:(0:Int)<=k:=by omega
  have ac:(k:Int)<rs.length:=by omega
  have aa:IntKind.i64.wrap ((ls.length:Int)-1)=(ls.length:Int)-1:=by rw[cm];omega
  clear q d P c1 c2 l;go_wp2_with fail;refine(ie leaf 0 ((ls.length:Int)-1) _).mono ?_;rintro e w3 ⟨rfl,rfl⟩;by_cases m:0<=leaf/\leaf<=(ls.length:Int)-1
  ·rw[aW m];obtain⟨j,rfl⟩:∃j:Nat,leaf=j:=⟨leaf.toNat,by omega⟩
   have C:j<ls.length:=by omega
   obtain⟨z,t,F⟩:∃z t,ls[j]?=X (z,t):=⟨ls[j].1,ls[j].2,ay C⟩;obtain⟨gl,lo,W,S,T⟩:=R.o j (z,t) F;subst W;simp only at S T;have M:=af (JM (t:=(z,t)) i.o F);have j0:(0:Int)<=j:=by omega
   have j1:(j:Int)<ls.length:=by omega
   clear F m;by_cases h:z=1
   ·have f:ah (dl (rs.map aw) (k:Int) (j:Int)=(t,iV)):=M.o.1 h;have U:(z !=1)=iF:=by simp[h]
    clear h;go_wp2;go_ret2;exact⟨by rw[f.o];rfl,c.o⟩
   ·have f:ah (dl (rs.map aw) (k:Int) (j:Int)=(⟨#[]⟩,iF)):=M.o.2 h;have U:(z !=1)=iV:=by simp[h]
    clear h;go_wp2;go_ret2;exact⟨by rw[f.o];rfl,c.o⟩
  ·rw[bf m];have f:ah (dl (rs.map aw) (k:Int) leaf=(⟨#[]⟩,iF)):=FV i.o m;clear m;go_wp2;go_ret2;exact⟨by rw[f.o];rfl,c.o⟩
 ·rw[bf l];have f:ah (dl (rs.map aw) b leaf=(⟨#[]⟩,iF)):=DX (by rw[bm];exact l)
  clear l;go_wp2;go_ret2;exact⟨by rw[f.o];rfl,c.o⟩
theorem Zg(v:iX)(rs:List Rw)(w:iW)(hl:rs.length<=1048576)(a9:∀r∈rs,r.2.2.2.length<=1048576)(bg:mJ rs)(ha:dX w v rs):
 iK Tryz.prog 16 #[iA #[v]] w λe w'=>∃u M,e=G u/\Asc M/\Akin (dk (rs.map aw) rs.length) M/\pO w' w.heap.size u M/\iL w.heap.size w w':=by
 obtain⟨i0,bs,bA,bB,bC⟩:=bV Hl;have h1:=ha;obtain⟨vd,s,rfl,-⟩:=h1;have bo:=af bg;have aR:=af a9;obtain⟨n,hn⟩:=aq rs.length;have HN:=af hn;have al:=af ha;rw[hn]at hl al⊢;have b0:iL w.heap.size w ((w.alloc (iC #[Y vd n s] 26)).alloc (iC #[] 53)):=(bh).alloc (by simp) _
 have S0:ah (mH w ((w.alloc (iC #[Y vd n s] 26)).alloc (iC #[] 53)) (Y vd n s) (Y (X ⟨w.heap.size+1,0,O⟩) 0 0) []):=by
  refine⟨b0,(iZ _ _ (by simp)).trans (aC _ _),?_⟩
  have:=m9 (w.alloc (iC #[Y vd n s] 26)) (e:=53) (size:=8) (base:=w.heap.size+1) #[] 0 (by simp) (by unfold maxLen;omega) (by simp)
  rwa [show(w.alloc (iC #[Y vd n s] 26)).heap.size=w.heap.size+1 by simp]at this
 clear ha bg a9 hn b0;go_enter Tryz.func16,Tryz.ntmps16;go_wp2;go_loopw [3,4] (λak bv wr=>∃(b:Nat) (l:List an),bv=I J b/\b<=n/\l.length<=b*1048576/\ah (l=dk (rs.map aw) b)/\ah (∃g c,ak=Y (X ⟨g,0,O⟩) l.length c)/\ah (mH w wr (Y vd n s) ak l)) (λ_ bv _=>n-(intOf bv).toNat)
 case atStart=>exact⟨0,[],rfl,aK _,by simp,rfl,⟨_,_,rfl⟩,S0⟩
 case round=>
  rename iW=>wo
  obtain⟨b,l,rfl,r1,aF,aG,ar,K⟩:=hrel;clear S0;have cf:wo.cell? ⟨w.heap.size,0,O⟩=X (Y vd n s):=ai _ _ 0 _ _ _ K.o.2.1;by_cases bw:(b:Int)<n
  ·have aU:b<rs.length:=by have:=HN.o;omega
   obtain⟨r,hr⟩:∃r,rs[b]?=X r:=⟨_,ay aU⟩;obtain⟨gv,e,-,bu⟩:=al.o.at hr;subst e;have bx:=aR.o r (aO hr);obtain⟨m,hm⟩:=aq r.2.2.2.length;obtain⟨ld,lc,Q,-⟩:=bu;have bl:ah (∀W,iL w.heap.size w W->W.cell? ⟨gv,b*3+2,O⟩=X (Y ld m lc)):=by
    intro W hW;obtain⟨g',e3,⟨-,-,c3⟩,-⟩:=(al.o.below hW).at hr;injection e3 with e3
    injection e3 with e3
    subst e3;rw[c3,Q,hm]
   rw[hm]at bx;have HM:ah (dk (rs.map aw) (b+1)=dk (rs.map aw) b++fT (rs.map aw) b m):=by
    show _=_;simp only[dk,bi,hr,g9,pK];show dk _ b++fT _ b (aw r).2.2.length=_;rw[show(aw r).2.2.length=m from hm]
   have b0:(0:Int)<=b:=by omega
   have L0:ah (l=dk (rs.map aw) b++fT (rs.map aw) b 0):=by show _=_;rw[aG.o];simp[fT]
   clear Q hr aU hm;go_wp2;go_loopw [3,5] (λak kv wr=>∃(k:Nat) (D:List an),kv=I J k/\k<=m/\D.length<=b*1048576+k/\ah (D=dk (rs.map aw) b++fT (rs.map aw) b k)/\ah (∃g c,ak=Y (X ⟨g,0,O⟩) D.length c)/\ah (mH w wr (Y (X ⟨gv,0,O⟩) n s) ak D)) (λ_ kv _=>m-(intOf kv).toNat)
   case atStart=>exact⟨0,l,rfl,aK _,bT aF (Nat.le_add_right _ _),L0,ar,K⟩
   case round=>
    rename iX=>vout
    obtain⟨k,D,rfl,t1,bH,ab,ad,P⟩:=hrel;clear K L0 cf ar;have cf:wr.cell? ⟨w.heap.size,0,O⟩=X (Y (X ⟨gv,0,O⟩) n s):=ai _ _ 0 _ _ _ P.o.2.1;have c3:=bl.o _ P.o.1;by_cases hk:(k:Int)<m
    ·have C:=af (LI (Y (X ⟨gv,0,O⟩) n s) rs (b:Int) (k:Int) wr (by have:=HN.o;omega) aR.o (al.o.below P.o.1))
     have bd:=Fg bo.o (b:Int) (k:Int);obtain⟨T,ok,hT⟩:∃T ok,dl (rs.map aw) (b:Int) (k:Int)=(T,ok):=⟨_,_,rfl⟩;rw[hT]at C bd;simp only at C bd;have C2:=af (λW=>aal T W (by unfold maxLen;omega))
     have au:dJ (rs.map aw) (b:Int) (k:Int)=if ok then dx T else O:=by unfold dJ;rw[hT]
     by_cases ax:ok=iV/\∃pg,dx T=X pg
     ·obtain⟨rfl,pg,aN⟩:=ax;rw[aN]at C2;obtain⟨q1,q2,q3,q4,q5,q6⟩:=pg;unfold lH dC at C2;simp only at C2;have NL:ah (D++[⟨b,k,⟨q1,q2,q3,q4,q5,q6⟩⟩]=dk (rs.map aw) b++fT (rs.map aw) b (k+1)):=by show _=_;rw[ab.o];simp[fT,au,aN]
      clear au ab hT aN;go_wp2_with fail;refine C.o.mono ?_;rintro e w1 ⟨rfl,b1⟩;have S1:=af (P.o.below b1);clear b1 P C;go_wp2_with fail;refine(C2.o _).mono ?_;rintro e t ⟨rfl,b2⟩;have ba:=(az t.heap.size t).alloc (am _) (iC #[I J q1,I J q2,I J q3,I J q4,I J q5,iT q6] 44);have d:=af ((S1.o.below b2).below ba);have z3:(t.alloc (iC #[I J q1,I J q2,I J q3,I J q4,I J q5,iT q6] 44)).heap.size=t.heap.size+1:=by simp
      have aS:=af (Ax (t.alloc (iC #[I J q1,I J q2,I J q3,I J q4,I J q5,iT q6] 44)) ([I J (b:Int),I J (k:Int),I J q1,I J q2,I J q3,I J q4,I J q5,iT q6]:List iX).toArray 53 (t.heap.size+1) z3);clear b2 S1 C2 ba;go_wp2_with (at_builtin;refine cZ _ rfl _ _ 49 rfl (w.heap.size+1) 53 i0 (iA #[I J 0,I J 0,I J 0,I J 0,I J 0,I J 0,I J 0,iT ⟨#[]⟩]) 8 72 Tryz.underlying49 bs bA bB bC rfl (by decide) _ D.length (mP D) rfl (d.o.2.2.alloc _) ⟨t.heap.size+1,0,O⟩ 1 1 [I J (b:Int),I J (k:Int),I J q1,I J q2,I J q3,I J q4,I J q5,iT q6] rfl rfl aS.o (KL ⟨b,k,⟨q1,q2,q3,q4,q5,q6⟩⟩) ?g1 ?g2 ?g3 ?_)
      case g1=>unfold maxLen;omega
      case g2=>omega
      case g3=>have:=d.o.1.size;simp;omega
      intro v' A ag aa _;have NS:ah (mH w A (Y (X ⟨gv,0,O⟩) n s) v' (D++[⟨b,k,⟨q1,q2,q3,q4,q5,q6⟩⟩])):=by
       have bz:=d.o.below ((az _ _).alloc (am _) (iC (jC ⟨b,k,⟨q1,q2,q3,q4,q5,q6⟩⟩).toArray 53));have bD:=(aL.1 bz.2.1).1;refine⟨bz.1.grown aa bz.1.size (λx hx=>uT (d.o.2.2.lt x hx).1),(aa.block w.heap.size bD (λe=>?_)).trans bz.2.1,?_⟩
       ·have:=(d.o.2.2.lt _ e.symm).1;omega
       ·rw[aJ,<-FZ];exact ag
      have NN:(D++[(⟨b,k,⟨q1,q2,q3,q4,q5,q6⟩⟩:an)]).length=D.length+1:=by simp
      have NO:ah (∃g c,v'=Y (X ⟨g,0,O⟩) (D++[(⟨b,k,⟨q1,q2,q3,q4,q5,q6⟩⟩:an)]).length c):=by
       rcases ag.2 with⟨-,h0⟩|⟨g,cap,bJ,e,-,-,-,-,-,-⟩
       ·omega
       ·exact⟨g,cap,by rw[NN];exact e⟩
      generalize D++[(⟨b,k,⟨q1,q2,q3,q4,q5,q6⟩⟩:an)]=l3 at NL NS NN NO;clear ag aa d aS;go_wp2;go_roundw
      case rel=>exact⟨k+1,l3,by go_num,by omega,by omega,NL,NO,NS⟩
      case measure=>simp[intOf];omega
     ·have bc:dJ (rs.map aw) (b:Int) (k:Int)=O:=by
       rw[au];cases ok with
       |false=>rfl
       |true=>
        cases hq:dx T with
        |none=>rfl
        |some pg=>exact absurd ⟨rfl,pg,hq⟩ ax
      obtain⟨pg,bk,hp⟩:=AC (dx T);have aE:ok=iV->bk=iF:=by
       intro e;subst e;cases hq:dx T with
       |none=>
        rw[hq]at hp;have h3:iU #[dC ⟨0,0,0,0,0,⟨#[]⟩⟩,iB iF]=iU #[dC pg,iB bk]:=hp;simp at h3;exact h3.2.symm▸rfl
       |some pg=>exact absurd ⟨rfl,pg,hq⟩ ax
      rw[hp]at C2;obtain⟨q1,q2,q3,q4,q5,q6⟩:=pg;unfold dC at C2;simp only at C2;have NL:ah (D=dk (rs.map aw) b++fT (rs.map aw) b (k+1)):=by show _=_;rw[ab.o];simp[fT,bc]
      have bn:=af aE;clear au ab hT hp bc ax aE;go_wp2_with fail;refine C.o.mono ?_;rintro e w1 ⟨rfl,b1⟩;have S1:=af (P.o.below b1);clear b1 P C;go_wp2_with fail;refine(C2.o _).mono ?_;rintro e t ⟨rfl,b2⟩;have d:=af ((S1.o.below b2).below ((az t.heap.size t).alloc (am _) (iC #[I J q1,I J q2,I J q3,I J q4,I J q5,iT q6] 44)));clear b2 S1 C2;cases ok with
      |false=>
       go_wp2;go_roundw
       case rel=>exact⟨k+1,D,by go_num,by omega,by omega,NL,ad,d⟩
       case measure=>simp[intOf];omega
      |true=>
       obtain rfl:=bn.o (by first|rfl|trivial)
       go_wp2;go_roundw
       case rel=>exact⟨k+1,D,by go_num,by omega,by omega,NL,ad,d⟩
       case measure=>simp[intOf];omega
    ·have a8:k=m:=by omega
     have NL:ah (D=dk (rs.map aw) (b+1)):=by show _=_;rw[ab.o,HM.o,a8]
     clear ab a8;go_wp2;go_roundw
     case rel=>exact⟨b+1,D,by go_num,by omega,by omega,NL,ad,P⟩
     case measure=>simp[intOf];omega
  ·have aY:b=n:=by omega
   have ao:ah (l=dk (rs.map aw) n):=by show _=_;rw[aG.o,aY]
   obtain⟨g,cap,Z⟩:=ar.o;subst Z;have aD:dW wo g l/\w.heap.size<=g:=by
    rcases FG K.o.2.2 (by omega)with⟨e,-⟩|⟨g',bE,e,hg,h,-⟩
    ·cases e
    ·injection e with Z Q e3
     injection Z with Z
     injection Z with Z
     subst Z;exact⟨h,by omega⟩
   obtain⟨aD,br⟩:=aD;obtain⟨nl,av⟩:=aq l.length;rw[av]at aF;rw[av];have B1:=af K.o.1;have ap:=af av;have SS:ah (aZ wo wo g l):=⟨be.refl _ _,aD⟩;clear K aG aY aD av ar;obtain⟨D0,aM⟩:=aq (dk (rs.map aw) n);rw[aM]at ao;have bm:=af aM;clear aM;have st:∃S T,l=S++T/\Asc S/\Akin D0 (S++T)/\S.length=min 1 nl/\S.length+T.length=nl:=by
    have e:=ao.o;have Q:=ap.o;clear SS ap ao
    match l,e,Q with
    | [],e,Q=>exact⟨[],[],rfl,List.Pairwise.nil,by rw[<-e];exact Akin.refl _,by simp at Q⊢;omega,by simpa using Q⟩
    |y::l',e,Q=>exact⟨[y],l',rfl,mA _ _,by rw[<-e];exact Akin.refl _,by simp at Q⊢;omega,by simp at Q⊢;omega⟩
   have ST:=af st;clear st;go_wp2;clear cf;go_loopw [10] (λiv wr=>∃(i:Nat) (E:List an),iv=I J i/\1<=i/\i<=nl+1/\ah (E.length=nl)/\ah (∃S T,E=S++T/\Asc S/\Akin D0 (S++T)/\S.length=min i nl/\S.length+T.length=nl)/\ah (aZ wo wr g E)) (λiv _=>nl+1-(intOf iv).toNat)
   case atStart=>exact⟨1,l,rfl,by omega,by omega,ap,ST,SS⟩
   case round=>
    rename iW=>wx
    obtain⟨i,E,rfl,r1,r2,HE,HJ,K⟩:=hrel;clear ST SS ap ao;by_cases bw:(i:Int)<nl
    ·obtain⟨S,T0,Z,Q,e3,e4,e5⟩:=HJ.o
     match T0,Z,e3,e5 with
     | [],_,_,h5=>simp at h5;omega
     |x::T,Z,e3,e5=>
      have aI:S.length=i:=by omega
      have J0:ah (E=S++(x::([]++T))/\S++[]=S/\S.length=i/\∀v∈([]:List an),x.key<v.key):=⟨by rw[Z];simp,by simp,aI,λv hv=>by cases hv⟩
      have AS:=af Q;have AK:=af e3;have E5:=af e5;have aT:=K;have aQ:=HE;have E4:=af aI;clear Z Q e3 e4 aI e5 HJ K HE;go_wp2;go_loopw [11] (λjv wr=>∃(j:Nat) (F U V:List an),jv=I J j/\j<=i/\ah (F.length=nl)/\ah (F=U++(x::(V++T))/\U++V=S/\U.length=j/\∀v∈V,x.key<v.key)/\ah (aZ wo wr g F)) (λjv _=>(intOf jv).toNat)
      case atStart=>exact⟨i,E,S,[],rfl,am _,aQ,J0,aT⟩
      case round=>
       obtain⟨j,Gq,U,V,rfl,s2,HG,HK,K⟩:=hrel;clear aT aQ J0;have ae:ah ((∀u∈U,u.key<=x.key)->∃L T2,Gq=L++T2/\Asc L/\Akin D0 (L++T2)/\L.length=min (i+1) nl/\L.length+T2.length=nl):=by
        intro hu;obtain⟨k1,k2,k3,k4⟩:=HK.o;have hA:=AS.o;rw[<-k2]at hA;refine⟨U++x::V,T,by rw[k1];simp,Asc.app hA.left (fQ.2 ⟨λv hv=>vt (k4 v hv),hA.right⟩) ?_,?_,?_,?_⟩
        ·intro p hp q hq;rcases aX.1 hq with e|e
         ·subst e;exact hu p hp
         ·exact hA.across p hp q e
        ·refine AK.o.trans ?_;rw[<-k2];have:=(Akin.refl U).app ((Akin.flip (a:=V) (b:=[x]) (λp hp q hq=>by rw[bR]at hq;subst hq;have:=k4 p hp;omega)).app (Akin.refl T))
         simpa using this
        ·have h1:=congrArg List.length k2;have h2:=E4.o;simp only[aJ,aV]at h1⊢;omega
        ·have h1:=congrArg List.length k2;have h2:=E5.o;simp only[aJ,aV]at h1 h2⊢;omega
       by_cases bK:(0:Int)<j
       ·obtain⟨k1,k2,k3,k4⟩:=HK.o;obtain⟨U',u,eU⟩:∃U' u,U=U'++[u]:=by
         have bb:U≠ []:=λe=>by subst e;simp at k3;omega
         exact⟨U.dropLast,U.getLast bb,(zj bb).symm⟩
        subst eU;obtain⟨q,bN⟩:∃q:Nat,(j:Int)-1=q:=⟨j-1,by omega⟩
        have bO:IntKind.i64.wrap ((j:Int)-1)=q:=by rw[cm];omega
        have bF:IntKind.i64.wrap (q:Int)=q:=by rw[cm];omega
        have eE:Gq=U'++u::([]++x::(V++T)):=by rw[k1];simp
        have ac:U'.length=q:=by
         rw[aJ]at k3;simp at k3;omega
        have hq:Gq[q]?=X u:=by rw[eE,<-ac];simp
        have hp:Gq[j]?=X x:=by
         rw[eE,ct (by omega)]
         have:j-U'.length=1:=by omega
         rw[this];rfl
        have aj:(Gq.set j u).set q x=U'++(x::((u::V)++T)):=by
         have:=uI U' [] (V++T) u x;rw[ac,<-eE]at this;rw[Dn _ _ (show j≠q by omega),show j=q+1+([]:List an).length by simp;omega,this]
         simp
        have NL:ah (((Gq.set j u).set q x).length=nl):=by show _=_;rw[gI,gI];exact HG.o
        have aP:U'++(u::V)=S:=by rw[<-k2];simp
        have j0:(0:Int)<=j:=by omega
        have q0:(0:Int)<=q:=by omega
        have jN:(j:Int)<nl:=by omega
        have qN:(q:Int)<nl:=by omega
        have f:=af hp;have z:=af hq;have bM:q+1=j:=by omega
        have bL:0<j:=by omega
        have c3:wr.cell? ⟨g,j*8+3,O⟩=X (I J x.fP.seq):=K.o.2.cell f.o 3 rfl;have d3:wr.cell? ⟨g,q*8+3,O⟩=X (I J u.fP.seq):=K.o.2.cell z.o 3 rfl;have aH:=af (λk=>K.o.below (dL (az _ _) k))
        by_cases hc:x.key<u.key
        ·have NU:ah ((Gq.set j u).set q x=U'++(x::((u::V)++T))/\U'++(u::V)=S/\U'.length=q/\∀v∈(u::V),x.key<v.key):=⟨aj,aP,ac,λv hv=>by
          rcases aX.1 hv with e|e
          ·subst e;exact hc
          ·exact k4 v e⟩
         have bI:=af ac;have bp:x.fP.seq<u.fP.seq:=hc;have bq:decide (u.fP.seq>x.fP.seq)=iV:=aW hc;clear hp hq eE ac aj k1 k2 k3 k4 HK ae aP hc;go_wp2;go_quiet (fail);have L:=af (aH.o nq);clear c3 d3 aH K;generalize wr.drewN nq=t at L⊢;have x0:t.cell? ⟨g,j*8,O⟩=X (I J x.block):=L.o.2.cell f.o 0 rfl;have x1:t.cell? ⟨g,j*8+1,O⟩=X (I J x.leaf):=L.o.2.cell f.o 1 rfl;have x2:t.cell? ⟨g,j*8+2,O⟩=X (I J x.fP.kind):=L.o.2.cell f.o 2 rfl;have x3:t.cell? ⟨g,j*8+3,O⟩=X (I J x.fP.seq):=L.o.2.cell f.o 3 rfl;have x4:t.cell? ⟨g,j*8+4,O⟩=X (I J x.fP.tx):=L.o.2.cell f.o 4 rfl;have x5:t.cell? ⟨g,j*8+5,O⟩=X (I J x.fP.part):=L.o.2.cell f.o 5 rfl;have x6:t.cell? ⟨g,j*8+6,O⟩=X (I J x.fP.count):=L.o.2.cell f.o 6 rfl;have x7:t.cell? ⟨g,j*8+7,O⟩=X (iT x.fP.text):=L.o.2.cell f.o 7 rfl;go_upto_region 19 with fail
         clear x0 x1 x2 x3 x4 x5 x6 x7;have H3:ah ((t.alloc (iC #[I J x.block,I J x.leaf,I J x.fP.kind,I J x.fP.seq,I J x.fP.tx,I J x.fP.part,I J x.fP.count,iT x.fP.text] 53)).heap[t.heap.size]?=X (iC #[I J x.block,I J x.leaf,I J x.fP.kind,I J x.fP.seq,I J x.fP.tx,I J x.fP.part,I J x.fP.count,iT x.fP.text] 53)):=aC _ _;have d:=af (L.o.below ((az _ _).alloc (am _) (iC #[I J x.block,I J x.leaf,I J x.fP.kind,I J x.fP.seq,I J x.fP.tx,I J x.fP.part,I J x.fP.count,iT x.fP.text] 53)));have bj:ah (t.heap.size≠g):=by show _≠_;have:=L.o.2.lt;omega
         clear L;generalize t.alloc (iC #[I J x.block,I J x.leaf,I J x.fP.kind,I J x.fP.seq,I J x.fP.tx,I J x.fP.part,I J x.fP.count,iT x.fP.text] 53)=R at H3 d⊢;generalize t.heap.size=hx at H3 bj⊢;have z0:R.cell? ⟨g,q*8,O⟩=X (I J u.block):=d.o.2.cell z.o 0 rfl;have x0:R.cell? ⟨g,j*8,O⟩=X (I J x.block):=d.o.2.cell f.o 0 rfl;have k0:=d.o.2.frozen (j*8);have z1:R.cell? ⟨g,q*8+1,O⟩=X (I J u.leaf):=d.o.2.cell z.o 1 rfl;have x1:R.cell? ⟨g,j*8+1,O⟩=X (I J x.leaf):=d.o.2.cell f.o 1 rfl;have k1:=d.o.2.frozen (j*8+1);have z2:R.cell? ⟨g,q*8+2,O⟩=X (I J u.fP.kind):=d.o.2.cell z.o 2 rfl;have x2:R.cell? ⟨g,j*8+2,O⟩=X (I J x.fP.kind):=d.o.2.cell f.o 2 rfl;have k2:=d.o.2.frozen (j*8+2);have z3:R.cell? ⟨g,q*8+3,O⟩=X (I J u.fP.seq):=d.o.2.cell z.o 3 rfl;have x3:R.cell? ⟨g,j*8+3,O⟩=X (I J x.fP.seq):=d.o.2.cell f.o 3 rfl;have k3:=d.o.2.frozen (j*8+3);have z4:R.cell? ⟨g,q*8+4,O⟩=X (I J u.fP.tx):=d.o.2.cell z.o 4 rfl;have x4:R.cell? ⟨g,j*8+4,O⟩=X (I J x.fP.tx):=d.o.2.cell f.o 4 rfl;have k4:=d.o.2.frozen (j*8+4);have z5:R.cell? ⟨g,q*8+5,O⟩=X (I J u.fP.part):=d.o.2.cell z.o 5 rfl;have x5:R.cell? ⟨g,j*8+5,O⟩=X (I J x.fP.part):=d.o.2.cell f.o 5 rfl;have k5:=d.o.2.frozen (j*8+5);have z6:R.cell? ⟨g,q*8+6,O⟩=X (I J u.fP.count):=d.o.2.cell z.o 6 rfl;have x6:R.cell? ⟨g,j*8+6,O⟩=X (I J x.fP.count):=d.o.2.cell f.o 6 rfl;have k6:=d.o.2.frozen (j*8+6);have z7:R.cell? ⟨g,q*8+7,O⟩=X (iT u.fP.text):=d.o.2.cell z.o 7 rfl;have x7:R.cell? ⟨g,j*8+7,O⟩=X (iT x.fP.text):=d.o.2.cell f.o 7 rfl;have k7:=d.o.2.frozen (j*8+7);go_upto_region 20 with fail
         clear z0 k0 x0 z1 k1 x1 z2 k2 x2 z3 k3 x3 z4 k4 x4 z5 k5 x5 z6 k6 x6 z7 k7 x7;obtain⟨A,e4⟩:∃A,A=dQ R g (j*8) u:=⟨_,rfl⟩;have H:ah (aZ wo A g (Gq.set j u)):=by show aZ _ _ _ _;rw[e4];exact⟨d.o.1.trans (xR _ _ _ _),d.o.2.put (aB.1 f.o).1 u⟩
         have H4:ah (A.heap[hx]?=X (iC #[I J x.block,I J x.leaf,I J x.fP.kind,I J x.fP.seq,I J x.fP.tx,I J x.fP.part,I J x.fP.count,iT x.fP.text] 53)):=by show _=_;rw[e4];exact(Wc _ _ _ _ _ bj.o).trans H3.o
         unfold dQ at e4;rw[<-e4];clear e4 d H3;have N:ah ((Gq.set j u)[q]?=X u):=by show _=_;rw[oE (by omega)];exact z.o
         have z0:A.cell? ⟨g,q*8,O⟩=X (I J u.block):=H.o.2.cell N.o 0 rfl;have a0:A.cell? ⟨hx,0,O⟩=X (I J x.block):=ai _ _ 0 _ _ _ H4.o;have l0:=H.o.2.frozen (q*8);have z1:A.cell? ⟨g,q*8+1,O⟩=X (I J u.leaf):=H.o.2.cell N.o 1 rfl;have a1:A.cell? ⟨hx,1,O⟩=X (I J x.leaf):=ai _ _ 1 _ _ _ H4.o;have l1:=H.o.2.frozen (q*8+1);have z2:A.cell? ⟨g,q*8+2,O⟩=X (I J u.fP.kind):=H.o.2.cell N.o 2 rfl;have a2:A.cell? ⟨hx,2,O⟩=X (I J x.fP.kind):=ai _ _ 2 _ _ _ H4.o;have D:=H.o.2.frozen (q*8+2);have z3:A.cell? ⟨g,q*8+3,O⟩=X (I J u.fP.seq):=H.o.2.cell N.o 3 rfl;have a3:A.cell? ⟨hx,3,O⟩=X (I J x.fP.seq):=ai _ _ 3 _ _ _ H4.o;have l3:=H.o.2.frozen (q*8+3);have z4:A.cell? ⟨g,q*8+4,O⟩=X (I J u.fP.tx):=H.o.2.cell N.o 4 rfl;have a4:A.cell? ⟨hx,4,O⟩=X (I J x.fP.tx):=ai _ _ 4 _ _ _ H4.o;have l4:=H.o.2.frozen (q*8+4);have z5:A.cell? ⟨g,q*8+5,O⟩=X (I J u.fP.part):=H.o.2.cell N.o 5 rfl;have a5:A.cell? ⟨hx,5,O⟩=X (I J x.fP.part):=ai _ _ 5 _ _ _ H4.o;have l5:=H.o.2.frozen (q*8+5);have z6:A.cell? ⟨g,q*8+6,O⟩=X (I J u.fP.count):=H.o.2.cell N.o 6 rfl;have a6:A.cell? ⟨hx,6,O⟩=X (I J x.fP.count):=ai _ _ 6 _ _ _ H4.o;have l6:=H.o.2.frozen (q*8+6);have z7:A.cell? ⟨g,q*8+7,O⟩=X (iT u.fP.text):=H.o.2.cell N.o 7 rfl;have a7:A.cell? ⟨hx,7,O⟩=X (iT x.fP.text):=ai _ _ 7 _ _ _ H4.o;have l7:=H.o.2.frozen (q*8+7);go_upto_region 17 with fail
         clear a0 l0 z0 a1 l1 z1 a2 D z2 a3 l3 z3 a4 l4 z4 a5 l5 z5 a6 l6 z6 a7 l7 z7;have S5:ah (aZ wo (dQ A g (q*8) x) g ((Gq.set j u).set q x)):=⟨H.o.1.trans (xR _ _ _ _),H.o.2.put (by rw[gI];exact(aB.1 z.o).1) x⟩
         unfold dQ at S5;clear H H4;go_wp2;go_roundw
         case rel=>exact⟨q,_,U',u::V,by first|rfl|go_num,by omega,NL,NU,S5⟩
         case measure=>simp[intOf];omega
        ·have PO:=af (ae.o (λp aA=>by
          have hA:=AS.o;rw[<-k2]at hA;have h1:=hA.left;rcases bG.1 aA with e|e
          ·have:=h1.across p e u (by simp);omega
          ·rw[bR]at e;subst e;omega))
         have bp:¬x.fP.seq<u.fP.seq:=hc;have bq:decide (u.fP.seq>x.fP.seq)=iF:=bf hc;clear hp hq eE ac aj k1 k2 k3 k4 HK ae aP NL hc;go_wp2;go_quiet (fail);go_wp2;go_roundw
         case rel=>exact⟨i+1,Gq,by go_num,by omega,by omega,HG,PO,aH.o _⟩
         case measure=>simp[intOf];omega
       ·have hU:U=[]:=by
         obtain⟨k1,k2,k3,k4⟩:=HK.o;exact gK (by omega)
        have PO:=af (ae.o (λp aA=>by rw[hU]at aA;cases aA))
        have bt:j=0:=by omega
        subst bt;clear ae HK hU;go_wp2;go_quiet (fail);go_wp2;go_roundw
        case rel=>exact⟨i+1,Gq,by go_num,by omega,by omega,HG,PO,K.o.below (dL (az _ _) _)⟩
        case measure=>simp[intOf];omega
    ·obtain⟨S,T,Z,Q,e3,e4,e5⟩:=HJ.o;have hT:T=[]:=gK (by omega)
     subst hT;have PF:ah (∃M,Asc M/\Akin D0 M/\pO wx w.heap.size (Y (X ⟨g,0,O⟩) nl cap) M):=⟨S,Q,by simpa using e3,.inr ⟨g,cap,by simp at e5;rw[e5],br,by have h1:=K.o.2;rw[Z]at h1;simpa using h1,by simp at e5;omega⟩⟩
     have B2:=af (B1.o.trans (be.down (B:=w.heap.size) K.o.1 B1.o.size (λi hi=>by omega)))
     clear Z Q e3 e4 e5 HJ K B1;go_wp2;go_ret;obtain⟨M,m1,m2,m3⟩:=PF.o;rw[<-bm.o]at m2
     first|exact⟨_,rfl,M,m1,m2,m3,B2.o⟩|exact⟨_,rfl,⟨M,m1,m2,m3⟩,B2.o⟩|exact⟨_,M,rfl,m1,m2,m3,B2.o⟩
def kZ(w:iW)(bs:List Bk)(e:Ending)(w':iW):Prop:=
 ∃(ad:Option Addr) (cap:Nat),e=G (Y ad (au bs).length cap)/\iH w' ad (au bs).length (au bs)/\(au bs).length<=1099511627776/\iL w.heap.size w w'
theorem Ea{w w':iW}{rs:List Rw}{e:Ending}(j:rs.length<=1048576)(a:∀r∈rs,r.2.2.2.length<=1048576)(h:∃u M,e=G u/\Asc M/\Akin (dk (rs.map aw) rs.length) M/\pO w' w.heap.size u M/\iL w.heap.size w w'):kZ w (rs.map aw) e w':=by
 obtain⟨u,M,rfl,h1,d,f,h4⟩:=h;have c:M=au (rs.map aw):=VN h1 (by rw[bm];exact d)
 obtain⟨ad,cap,rfl,g,-⟩:=f.rd;subst c;refine⟨ad,cap,rfl,g,?_,h4⟩;refine bT (Hq (rs.map aw) 1048576 (λb i=>?_)) ?_
 ·obtain⟨r,k,rfl⟩:=bJ.1 i;exact a r k
 ·rw[bm];exact bT (DK _ j) (by decide)
theorem oU(v:iX)(rs:List Rw)(w:iW)(c:rs.length<=1048576)(a:∀r∈rs,r.2.2.2.length<=1048576)(b:mJ rs)(d:dX w v rs):iK Tryz.prog 16 #[iA #[v]] w (kZ w (rs.map aw)):=
 (Zg v rs w c a b d).mono (λ_ _ h=>Ea c a h)
theorem Uz(v:iX)(rs:List Rw)(w:iW)(c:rs.length<=1048576)(a:∀r∈rs,r.2.2.2.length<=1048576)(b:mJ rs)(d:dX w v rs)(e:eC w):iK Tryz.prog 33 #[iA #[v]] w (kZ w (rs.map aw)):=
 (QG v rs w c a b d e).mono (λ_ _ h=>Ea c a h)
variable{bs:List Bk}
theorem Gk:∀x∈au bs,x.fP.text.size<=1048576:=λx a=>by
 have:=(sk a).2.2.2.2.2;omega
def bM(l:List Bool):List iX:=l.map iB
theorem wC(l:List Bool)(k:Nat)(b:Bool):(bM l).set k (iB b)=bM (l.set k b):=by simp[bM,List.map_set]
theorem oZ{l:List Bool}{b:Bool}(h:l[k]?=X b):(bM l)[k]?=X (iB b):=by rw[bM,bi,h];rfl
theorem Ck:(Tryz.prog.info? 4).map (λi=>(i.zero,i.size,i.bytes))=X (X (iB iF),1,1):=by kernel_rfl
def jQ(l:List Kn)(m:Nat)(k i:Nat):Bool:=decide (m=i)||(List.range k).any (λj=>decide (dI l (m:Int) j=i))
theorem Bp(l:List Kn)(m k i:Nat):jQ l m (k+1) i=(jQ l m k i||decide (dI l (m:Int) k=i)):=by
 rw[jQ,jQ,oe,List.any_append,Bool.or_assoc];simp
theorem Um(l:List Kn)(h:r<0)(i:Nat):dM l r i=iF:=by rw[dM,bf (by omega),kL]
theorem Sw(l:List Kn)(m i:Nat):dM l (m:Int) i=jQ l m 4 i:=by
 rw[dM,jQ,aW (by omega),gk]
 congr 1;rw[decide_eq_decide];omega
theorem map_set{n k:Nat}{f f':Nat->Bool}(a:∀i,i≠k->f' i=f i)(b:f' k=iV):((List.range n).map f).set k iV=(List.range n).map f':=by
 apply kO;intro i;rw[sZ];by_cases e:k=i
 ·subst e;by_cases h:k<n
  ·simp[h,b]
  ·simp[h]
 ·rw[aj e,bi,bi];by_cases h:i<n
  ·simp[h,a i (Ne.symm e)]
  ·simp[h]
theorem CJ{f f':Nat->Bool}(a:∀i,i<n->f' i=f i):(List.range n).map f=(List.range n).map f':=nY (λi hi=>(a i (iw.1 hi)).symm)
def IL(w:iW)(a:Nat)(bs:List Bool)(e:Ending)(w':iW):Prop:=∃g,e=G (Y (X ⟨g,0,O⟩) a a)/\w.heap.size<=g/\g<w'.heap.size/\aP 4 g (bM bs) w'/\iL w.heap.size w w'
theorem Ul(ad:Option Addr)(a cap:Nat)(rs:List Kw)(r:Int)(w:iW)(hl:a<=1048578)(h:dB w ad a rs)(ha:bU (rs.map aD)=iV)(hr:bt (rs.map aD) r=iV):
 iK Tryz.prog 173 #[iA #[Y ad a cap],I J r] w (IL w a ((List.range a).map (dM (rs.map aD) r))):=by
 obtain⟨i0,hi,P,Q,R⟩:=bV Ck;have B:=af (pI w (Y ad a cap));have V:=B.o;have v:=af (aR w (iC #[Y ad a cap] 30));have H:=af (h.below v.o);have U:=af (show w.heap.size<(w.alloc (iC #[Y ad a cap] 30)).heap.size by simp)
 have HA:=af ha;have HR:=af hr;have G:=af (show(rs.map aD).length=a by rw[bm];exact h.1)
 clear h ha hr;obtain⟨L,hL⟩:=aq (rs.map aD);have HL:=af hL;rw[hL]at HA HR G⊢;clear hL;go_enter Tryz.func173,Tryz.ntmps173;go_wp2_with (at_make;refine tm _ rfl _ _ 98 rfl (w.heap.size+1) 4 i0 (iB iF) 1 Tryz.underlying98 hi P Q J J _ _ a rfl rfl rfl rfl (by rw[R];omega) (by unfold maxLen;omega) (by simp) ?_)
 intro q c d;rw[sy]at c;clear hi P Q R;have l:(w.alloc (iC #[Y ad a cap] 30)).heap.size=w.heap.size+1:=by simp
 have A:ah (iL (w.alloc (iC #[Y ad a cap] 30)).heap.size (w.alloc (iC #[Y ad a cap] 30)) q):=(az _ _).grown d (am _) (λk hk=>by cases hk)
 have s:ah (aP 4 (w.heap.size+1) (bM ((List.range a).map (λ_=>iF))) q):=by
  have e:List.replicate a (iB iF)=bM ((List.range a).map (λ_=>iF)):=by
   apply kO;intro i;by_cases h:i<a
   ·simp[bM,h]
   ·simp[bM,h]
  have:=(aG.of c).flt;rw[e]at this;exact this
 have D:ah (w.heap.size+1<q.heap.size):=(c.lt _ rfl).2;clear c d V;generalize w.alloc (iC #[Y ad a cap] 30)=wb at B v H U l A;obtain⟨z,hz⟩:=aq w.heap.size;rw[hz]at B U s D l⊢;have K:=af hz;clear hz;obtain⟨g,hg⟩:=aq (z+1);rw[hg]at s D l⊢;have F:=af hg;have E:=af l;clear hg l;have V:=(A.o.cell (show z<wb.heap.size from U.o)).trans B.o;by_cases M:r<0
 ·have S:ah (aP 4 g (bM ((List.range a).map (dM L r))) q):=by
   have:=s.o;rw[CJ (λi _=>Um L M i)]at this
   exact this
  have HF:ah (iL w.heap.size w q):=v.o.trans (A.o.mono v.o.size);go_wp2;go_ret;exact⟨g,rfl,by have:=K.o;have:=F.o;omega,D.o,S.o,HF.o⟩
 ·obtain⟨m,rfl⟩:∃m:Nat,r=(m:Int):=⟨r.toNat,by omega⟩
  obtain⟨x,hx,ab⟩:=lu HR.o (by omega)
  have aa:m<a:=by have:=(aB.1 hx).1;rw[G.o]at this;simpa using this
  obtain⟨b,ae,e,-⟩:=H.o.adr (by omega)
  subst e;have x4:=mf (lN HA.o hx);have c0:q.cell? ⟨g,m,O⟩=X (iB iF):=s.o.cell (oZ (by simp[aa]))
  have f0:=s.o.frozen m;have S:ah (aP 4 g (bM ((List.range a).map (jQ L m 0))) (q.setCell ⟨g,m,O⟩ (iB iV))):=by
   have:=s.o.set m (iB iV);rw[wC,map_set (f':=jQ L m 0) (λi hi=>by simp[jQ];omega) (by simp[jQ])]at this
   exact this
  have B2:ah (iL wb.heap.size wb (q.setCell ⟨g,m,O⟩ (iB iV))):=A.o.setCell (p:=⟨g,m,O⟩) (by show wb.heap.size<=g;have:=E.o;omega) _
  have G2:ah (g<(q.setCell ⟨g,m,O⟩ (iB iV)).heap.size):=af (by have:=D.o;simpa[World.setCell]using this)
  have m0:(0:Int)<=m:=by omega
  have mL:(m:Int)<a:=by omega
  have HX:=af hx;clear hx;go_wp2;clear c0 f0 s D V A;generalize q.setCell ⟨g,m,O⟩ (iB iV)=w2 at S B2 G2⊢;go_loopw [6] (λkv W=>∃k:Nat,k<=4/\kv=I J k/\ah (aP 4 g (bM ((List.range a).map (jQ L m k))) W)/\ah (iL wb.heap.size wb W)/\ah (g<W.heap.size)) (λkv _=>4-(intOf kv).toNat)
  case atStart=>exact⟨0,aK _,rfl,S,B2,G2⟩
  case round=>
   obtain⟨k,hk,rfl,t,y,T⟩:=hrel;have V:=(y.o.cell (show z<wb.heap.size from U.o)).trans B.o;by_cases ac:(k:Int)<4
   ·obtain⟨n,Z,u⟩:=lM HA.o HX.o ab (show k<4 by omega)
    have f:dI L (m:Int) k=n:=hO HX.o Z;have N:(rs.map aD)[(m:Int).toNat]?=X x:=by rw[HL.o];exact HX.o
    obtain⟨ka,kc,-,c1,kr⟩:=(H.o.below y.o).fD N;rw[x4]at c1 kr;simp only[bk]at c1;obtain⟨kb,ko,e,-,vM⟩:=kr.at Z;subst e;have k0:(0:Int)<=k:=by omega
    clear N kr;rcases u with rfl|⟨n0,nm,-⟩
    ·have C:ah (aP 4 g (bM ((List.range a).map (jQ L m (k+1)))) wr):=by
      have:=t.o;rw[CJ (f':=jQ L m (k+1)) (λi _=>by rw[Bp,f,bf (by omega),xm])]at this
      exact this
     clear f Z t;go_wp2;go_roundw
     case rel=>exact⟨k+1,by omega,by go_num,C,y,T⟩
     case measure=>simp[intOf];omega
    ·obtain⟨j,rfl⟩:∃j:Nat,n=(j:Int):=⟨n.toNat,by omega⟩
     simp only[bk]at nm;have jL:(j:Int)<a:=by omega
     have j0:(0:Int)<=j:=by omega
     obtain⟨o,ho⟩:∃o,((List.range a).map (jQ L m k))[j]?=X o:=⟨_,ay (by simp;omega)⟩
     have d0:wr.cell? ⟨g,j,O⟩=X (iB o):=t.o.cell (oZ ho);have f0:=t.o.frozen j;have C:ah (aP 4 g (bM ((List.range a).map (jQ L m (k+1)))) (wr.setCell ⟨g,j,O⟩ (iB iV))):=by
      have:=t.o.set j (iB iV);rw[wC,map_set (f':=jQ L m (k+1)) (λi hi=>by rw[Bp,f,bf (by omega),xm]) (by rw[Bp,f,aW rfl,Bool.or_true])]at this
      exact this
     have B3:ah (iL wb.heap.size wb (wr.setCell ⟨g,j,O⟩ (iB iV))):=y.o.setCell (p:=⟨g,j,O⟩) (by show wb.heap.size<=g;have:=E.o;omega) _
     have G3:ah (g<(wr.setCell ⟨g,j,O⟩ (iB iV)).heap.size):=af (by have:=T.o;simpa[World.setCell]using this)
     clear f Z t ho y T n0;go_wp2;go_roundw
     case rel=>exact⟨k+1,by omega,by go_num,C,B3,G3⟩
     case measure=>simp[intOf];omega
   ·have C:ah (aP 4 g (bM ((List.range a).map (dM L (m:Int)))) wr):=by
     have:=t.o;rw[show k=4 by omega,CJ (f':=dM L (m:Int)) (λi _=>Sw L m i)]at this
     exact this
    have HF:ah (iL w.heap.size w wr):=v.o.trans (y.o.mono v.o.size);go_wp2;go_ret;exact⟨g,rfl,by have:=K.o;have:=F.o;omega,T.o,C.o,HF.o⟩
theorem sK (W:iW) (y:Int) {o:Oper} {Q:Exit->Act->iW->Prop} (g:o.guard=O) (s x:Operand)
 (d:o.op=.call {callee:=.builtin .append,args:= #[s,x],argTypes:= #[36,36]}) (base:Nat) (v:iX) (xs:List Int) (hs:a.eval s=v) (r:a.eval x=Y (X ⟨W.heap.size,0,O⟩) 1 1)
 (b:W.ownsRow base 3 1 v xs.length (ax xs)) (u:xs.length<=1000000000000) (f:base<=W.heap.size)
 (h:∀e w' l,ah (l=xs++[y])->w'.ownsRow base 3 1 e l.length (ax l)->iL base W w'->wpList Tryz.prog ops Q rest (a.put o.dst e) w'):wpList Tryz.prog ops Q (o::rest) a (W.alloc (iC #[I J y] 3)):=by
 obtain⟨t,hi,i,j,k⟩:=bV lp;have c:=aR W (iC #[I J y] 3);have m:=bE b c;refine cZ _ g s x 36 d base 3 t (I J 0) 1 8 Tryz.underlying36 hi i j k rfl (by decide) v _ _ hs m ⟨W.heap.size,0,O⟩ 1 1 [I J y] r rfl (lz W _ 3) (qJ y) (by unfold maxLen;omega) (by omega) (bT f c.size) (λe w' d n _=>?_)
 refine h e w' _ (rfl:_=_) ?_ ((c.mono f).grown n (bT f c.size) (λq p=>(m.lt q p).1))
 rw[qB]at d;rw[aJ];exact d
theorem Hu{L:List Int}{p:Int->Bool}(h:L[k]?=X y):(L.take (k+1)).filter p=(L.take k).filter p++(if p y=iV then[y]else[]):=by
 obtain⟨h1,a⟩:=aB.1 h;rw[eY h1,a,ir,gP,vG]
theorem Of(U:Option Addr)(n rc:Nat)(L:List Int)(x:Int)(w:iW)(hn:n<=100000000)(h:fG w U n L):
 iK Tryz.prog 31 #[Y U n rc,I J x] w (ny w (eF L x)):=by
 obtain⟨i0,hi,A,B,C⟩:=bV lp;have I0:=af hi;have Y0:=af A;have Y1:=af B;have Y2:=af C;clear hi A B C;have i:=af h.1;have S:=af h;clear h;obtain⟨M,H⟩:=aq (eF L x);have HM:=af H;rw[H];clear H;go_enter Tryz.func31,Tryz.ntmps31;go_wp2_with fail;have F:ah ((w.alloc (iC #[] 3)).ownsRow w.heap.size 3 1 (Y (X ⟨w.heap.size,0,O⟩) 0 0) ([]:List Int).length (ax [])):=m9 w #[] 0 (am _) (by unfold maxLen;omega) (by simp)
 have BA:=af (aR w (iC #[] 3));generalize w.alloc (iC #[] 3)=wa at F BA⊢;obtain⟨z,P⟩:=aq w.heap.size;rw[P]at F⊢;have E:=af P;clear P;go_loopw [5,6] (λR kv W=>∃(k:Nat) (l:List Int),k<=n/\kv=I J k/\l.length<=k/\ah (l=(L.take k).filter (λy=>decide (y<x)))/\ah (W.ownsRow w.heap.size 3 1 R l.length (ax l)/\iL w.heap.size w W)) (λ_ kv _=>n-(intOf kv).toNat)
 case atStart=>exact⟨0,[],aK _,rfl,aK _,by show _=_;simp,by rw[E.o];exact F.o,BA.o⟩
 case round=>
  obtain⟨k,l,hk,rfl,K,r,d⟩:=hrel;by_cases N:(k:Int)<n
  ·have hy:=ay (show k<L.length by have:=i.o;omega)
   generalize L[k]'(by have:=i.o;omega)=y at hy
   obtain⟨b,Q,e,m,c0⟩:=(S.o.below d.o.2).at hy;subst e;have k0:(0:Int)<=k:=by omega
   have v:=af (Hu (p:=λy=>decide (y<x)) hy)
   clear hy;by_cases j:y<x
   ·have a:ah (l++[y]=(L.take (k+1)).filter (λy=>decide (y<x))):=by
     show _=_;rw[v.o,ak (by simpa using j),r.o]
    go_wp2_with (at_builtin;refine sK _ y rfl _ _ rfl w.heap.size _ l rfl rfl d.o.1 (by omega) d.o.2.size ?_)
    intro u' t f c s m;have q:ah (t.ownsRow w.heap.size 3 1 u' f.length (ax f)/\iL w.heap.size w t):=⟨s,d.o.2.trans m⟩;have g:f.length<=k+1:=by rw[c.o];simp;omega
    rw[<-c.o]at a;clear s m d c;go_wp2;go_roundw
    case rel=>exact⟨k+1,f,by omega,by go_num,g,a,q⟩
    case measure=>simp[intOf];omega
   ·have a:ah (l=(L.take (k+1)).filter (λy=>decide (y<x))):=by
     show _=_;rw[v.o,aj (by simpa using j),dS]
     exact r.o
    go_wp2;go_roundw
    case rel=>exact⟨k+1,l,by omega,by go_num,by omega,a,d⟩
    case measure=>simp[intOf];omega
  ·have u:ah (l=L.filter (λy=>decide (y<x))):=by
    show _=_;rw[r.o,bL (by have:=i.o;omega)]
   have aa:l.length<=n:=by omega
   clear r;go_upto_if 29 with fail
   go_cut [5] (λs5 W=>∃f:List Int,ah (f=L.filter (λy=>decide (y<x))++(if 0<x then[x]else[]))/\ah (W.ownsRow w.heap.size 3 1 s5 f.length (ax f)/\iL w.heap.size w W)/\f.length<=n+1)
   case first=>
    by_cases T:(0:Int)<x
    ·have a:ah (l++[x]=L.filter (λy=>decide (y<x))++(if 0<x then[x]else[])):=by
      show _=_;rw[u.o,ak T]
     go_wp2_with (at_builtin;refine sK _ x rfl _ _ rfl w.heap.size _ l rfl rfl d.o.1 (by omega) d.o.2.size ?_)
     intro u' t f c s m;have q:ah (t.ownsRow w.heap.size 3 1 u' f.length (ax f)/\iL w.heap.size w t):=⟨s,d.o.2.trans m⟩;have g:f.length<=n+1:=by rw[c.o];simp;omega
     rw[<-c.o]at a;clear s m d c;go_wp2_with fail;go_meet
     case rel=>exact⟨f,a,q,g⟩
    ·have a:ah (l=L.filter (λy=>decide (y<x))++(if 0<x then[x]else[])):=by
      show _=_;rw[aj T,dS];exact u.o
     have q:=af d.o;have g:l.length<=n+1:=by omega
     go_wp2_with fail;go_meet
     case rel=>exact⟨l,a,q,g⟩
   case rest=>
    obtain⟨W,hV⟩:∃W,W=wc:=⟨_,rfl⟩;subst hV;clear u d;obtain⟨f,a,q,g⟩:=hcut;go_wp2;obtain⟨D,G⟩:=aq (L.filter (λy=>decide (y<x))++(if 0<x then[x]else[]))
    rw[G]at a;have Z:=af G;clear G;go_loopw [5,7] (λR kv W=>∃(k:Nat) (l:List Int),k<=n/\kv=I J k/\l.length<=n+1+k/\ah (l=D++(L.take k).filter (λy=>decide (x<y)))/\ah (W.ownsRow w.heap.size 3 1 R l.length (ax l)/\iL w.heap.size w W)) (λ_ kv _=>n-(intOf kv).toNat)
    case atStart=>exact⟨0,f,aK _,rfl,by omega,(by show _=_;rw[a.o];simp),q⟩
    case round=>
     obtain⟨k,l,hk,rfl,K,r,d⟩:=hrel;by_cases N:(k:Int)<n
     ·have hy:=ay (show k<L.length by have:=i.o;omega)
      generalize L[k]'(by have:=i.o;omega)=y at hy
      obtain⟨b,Q,e,m,c0⟩:=(S.o.below d.o.2).at hy;subst e;have k0:(0:Int)<=k:=by omega
      have v:=af (Hu (p:=λy=>decide (x<y)) hy)
      clear hy;by_cases j:x<y
      ·have a:ah (l++[y]=D++(L.take (k+1)).filter (λy=>decide (x<y))):=by
        show _=_;rw[v.o,ak (by simpa using j),r.o];rw[fs]
       go_wp2_with (at_builtin;refine sK _ y rfl _ _ rfl w.heap.size _ l rfl rfl d.o.1 (by omega) d.o.2.size ?_)
       intro u' t f c s m;have q:ah (t.ownsRow w.heap.size 3 1 u' f.length (ax f)/\iL w.heap.size w t):=⟨s,d.o.2.trans m⟩;have g:f.length<=n+1+(k+1):=by rw[c.o];simp;omega
       rw[<-c.o]at a;clear s m d c;go_wp2;go_roundw
       case rel=>exact⟨k+1,f,by omega,by go_num,g,a,q⟩
       case measure=>simp[intOf];omega
      ·have a:ah (l=D++(L.take (k+1)).filter (λy=>decide (x<y))):=by
        show _=_;rw[v.o,aj (by simpa using j),dS]
        exact r.o
       go_wp2;go_roundw
       case rel=>exact⟨k+1,l,by omega,by go_num,by omega,a,d⟩
       case measure=>simp[intOf];omega
     ·have u:ah (l=D++L.filter (λy=>decide (x<y))):=by
       show _=_;rw[r.o,bL (by have:=i.o;omega)]
      have V:ah (l=M):=by
       show _=_;rw[u.o,<-HM.o,eF,<-Z.o]
      go_wp2;go_ret;refine⟨_,rfl,?_,d.o.2⟩;rw[<-V.o];exact d.o.1
theorem KE(l:List Int)(x:Int):(eF l x).length<=l.length+1:=by
 have a:(l.filter (λy=>decide (y<x))).length+(l.filter (λy=>decide (x<y))).length<=l.length:=by
  induction l with
  |nil=>exact am _
  |cons v l b=>
   rw[gP,gP];by_cases h1:v<x
   ·rw[ak (by simpa using h1),aj (by simp;omega),aV,aV];omega
   ·rw[aj (by simpa using h1)]
    split
    ·rw[aV,aV];omega
    ·rw[aV];omega
 rw[eF,aJ,aJ];split
 ·rw[Iy];omega
 ·rw[dU];omega
def oK(l:List Kn)(vs:List (Int×Int))(k:Nat):List Int:=(vs.take k).foldl (λacc v=>(bu l v.2).foldl eF acc) []
variable{l:List Kn}
theorem ZQ(h:vs[k]?=X v):oK l vs (k+1)=(bu l v.2).foldl eF (oK l vs k):=by
 obtain⟨h1,a⟩:=aB.1 h;rw[oK,oK,eY h1,a,tj,nA,List.foldl_nil]
theorem XX{L:List Int}{acc:List Int}{x:Int}(h:L[m]?=X x):(L.take (m+1)).foldl eF acc=eF ((L.take m).foldl eF acc) x:=by
 obtain⟨h1,a⟩:=aB.1 h;rw[eY h1,a,tj,nA,List.foldl_nil]
def kt(w W:iW)(b:iX)(l:List Int):Prop:=∃a c,b=Y a l.length c/\fG W a l.length l/\W.ownsRow w.heap.size 3 1 b l.length (ax l)/\iL w.heap.size w W
theorem kt.of{w W:iW}{a:iX}{l:List Int}(h:W.ownsRow w.heap.size 3 1 a l.length (ax l))(c:l.length<=maxLen)(b:iL w.heap.size w W):kt w W a l:=by
 obtain⟨f,g,e,-,d⟩:=ku.of (aG.of h) c (am _);exact⟨f,g,e,d,h,b⟩
theorem UG(G:Option Addr)(f vc:Nat)(ad:Option Addr)(a cap:Nat)(nx:Int)(vs:List (Int×Int))(rs:List Kw)(w:iW)(aj:f<=1048578)(hl:a<=1048578)(h:ge w G f vs)(hk:dB w ad a rs):
 iK Tryz.prog 9 #[iA (dK G f vc ad a cap nx)] w (ny w (aI ⟨vs,rs.map aD,nx⟩)):=by
 have t:=af ((Tk.start w).cell #[Y G f vc,Y ad a cap,I J nx] 32);have B:=af h.1;have HV:=af h;have HK:=af hk;clear h hk;obtain⟨C,hC⟩:=aq (aI ⟨vs,rs.map aD,nx⟩);have HC:=af hC;rw[hC];clear hC;unfold dK;go_enter Tryz.func9,Tryz.ntmps9;go_wp2_with fail;have T:=af (show(w.alloc (iC #[Y G f vc,Y ad a cap,I J nx] 32)).heap.size=w.heap.size+1 by simp)
 generalize w.alloc (iC #[Y G f vc,Y ad a cap,I J nx] 32)=wb at t T⊢;have x0:wb.cell? ⟨w.heap.size,0,O⟩=X (Y G f vc):=t.o.at 0 0 rfl rfl;have x1:wb.cell? ⟨w.heap.size,1,O⟩=X (Y ad a cap):=t.o.at 0 1 rfl rfl;have XB:=af (aT wb _ x0);have O0:ah ((wb.alloc (iC #[] 3)).ownsRow wb.heap.size 3 1 (Y (X ⟨wb.heap.size,0,O⟩) 0 0) ([]:List Int).length (ax [])):=m9 wb #[] 0 (am _) (by unfold maxLen;omega) (by simp)
 have BA:=af (aR wb (iC #[] 3));have S0:=af (kt.of O0.o (by simp) BA.o)
 generalize wb.alloc (iC #[] 3)=wa at S0⊢;obtain⟨z,hz⟩:=aq w.heap.size;rw[hz]at x0 x1 XB T⊢;have ae:=af hz;clear hz O0 BA;go_loopw [3,4] (λov iv W=>∃(k:Nat) (l:List Int),k<=f/\iv=I J k/\l.length<=16*k/\ah (l=oK (rs.map aD) vs k)/\ah (kt wb W ov l)) (λ_ iv _=>f-(intOf iv).toNat)
 case atStart=>exact⟨0,[],aK _,rfl,aK _,(by show _=_;simp[oK]),by rw[<-T.o];exact S0.o⟩
 case round=>
  obtain⟨k,l,hk,rfl,ag,HL,F⟩:=hrel;obtain⟨oa,oc,e,d,i,c⟩:=F.o;subst e;have p:=af c;have A:=af i;have H:=af d;clear d i c;have R:=(p.o.cell (show z<wb.heap.size from XB.o)).trans x0;have S:=(p.o.cell (show z<wb.heap.size from XB.o)).trans x1;by_cases ai:(k:Int)<f
  ·have P:=ay (show k<vs.length by have:=B.o;omega)
   generalize vs[k]'(by have:=B.o;omega)=v at P
   obtain⟨b,r,e,hb,c0,c1⟩:=(((HV.o.below t.o.1).below p.o)).at P;subst e;have k0:(0:Int)<=k:=by omega
   have HR:ah (oK (rs.map aD) vs (k+1)=(bu (rs.map aD) v.2).foldl eF l):=by
    show _=_;rw[ZQ P,HL.o]
   have CG:=af (x8 ad a cap rs v.2 wr.drew hl ((HK.o.below t.o.1).below p.o.drew));have U:=af p.o.drew;have l0:=aT wr _ R;have l1:=aT wr _ S;have l2:=aT wr _ c1;clear P;go_wp2;go_region_held3 (λw'=>w'.cell? ⟨z,0,O⟩=X (Y (X ⟨b,r,O⟩) f vc)/\w'.cell? ⟨z,1,O⟩=X (Y ad a cap)/\w'.cell? ⟨b,r+k*2+1,O⟩=X (I J v.2)) (first|exact⟨R,S,c1⟩|exact KY.o) ((go_at_call 30;(with_reducible refine cj CG.o ?_);rintro en D ⟨lv,rfl,o2,K⟩;have KY:ah (D.cell? ⟨z,0,O⟩=X (Y (X ⟨b,r,O⟩) f vc)/\D.cell? ⟨z,1,O⟩=X (Y ad a cap)/\D.cell? ⟨b,r+k*2+1,O⟩=X (I J v.2)):=⟨(K.cell l0).trans R,(K.cell l1).trans S,(K.cell l2).trans c1⟩))
   have N:iL wr.heap.size wr D:=((az wr.heap.size wr).drew).trans K;have B2:=af (p.o.trans (N.mono p.o.size));have S2:ah (kt wb D (Y oa l.length oc) l):=⟨oa,oc,rfl,H.o.below N,bE A.o N,B2.o⟩;obtain⟨la,lc,e2,-,j⟩:=ku.of (aG.of o2) (by rw[jK];unfold maxLen;omega) (am _)
   rw[jK]at e2 j;subst e2;have s:=af j;obtain⟨L,hL⟩:=aq (bu (rs.map aD) v.2);have u:ah (L.length=16):=by show _=_;rw[<-hL,jK]
   rw[hL]at s HR;clear CG R S c0 c1 l0 l1 l2 U p o2 K j hL N KY H A F;go_wp2;go_loopw [3,6] (λov kv W=>∃(m:Nat) (q:List Int),m<=16/\kv=I J m/\q.length<=16*k+m/\ah (q=(L.take m).foldl eF l)/\ah (kt wb W ov q)/\ah (iL D.heap.size D W)) (λ_ kv _=>16-(intOf kv).toNat)
   case atStart=>exact⟨0,l,aK _,rfl,by omega,(by show _=_;simp),S2,az _ _⟩
   case round=>
    obtain⟨m,q,hm,rfl,hq,HQ,F,V⟩:=hrel;obtain⟨aa,ab,e,d,i,c⟩:=F.o;subst e;by_cases ac:(m:Int)<16
    ·have Q:=ay (show m<L.length by have:=u.o;omega)
     generalize L[m]'(by have:=u.o;omega)=x at Q
     obtain⟨lb,lo,e3,-,d0⟩:=(s.o.below V.o).at Q;subst e3;have m0:(0:Int)<=m:=by omega
     have HF:=af (XX (acc:=l) Q);have CI:=af (Of aa q.length ab q x wr (by omega) d)
     have n:=af c;clear Q d i c F;go_wp2_with fail;refine CI.o.mono ?_;rintro e w3 ⟨uv,rfl,o3,b3⟩;have M:=KE q x;have g:ah (eF q x=(L.take (m+1)).foldl eF l):=by show _=_;rw[HF.o,HQ.o]
     have y:ah (kt wb w3 uv (eF q x)):=kt.of (lJ o3 n.o.size) (by unfold maxLen;omega) (n.o.trans (b3.mono n.o.size))
     have Z:=af (V.o.trans (b3.mono V.o.size));generalize eF q x=q2 at M g y;clear CI b3 o3 n HF;go_wp2;go_roundw
     case rel=>first|exact⟨m+1,q2,by omega,by go_num,by omega,g,y,Z⟩|exact⟨m+1,q2,by omega,by go_num,by omega,g,y⟩
     case measure=>simp[intOf];omega
    ·have g:ah (q=oK (rs.map aD) vs (k+1)):=by
      have e:m=16:=by omega
      have:=HQ.o;rw[e,bL (by rw[u.o];omega)]at this
      show _=_;rw[this,HR.o]
     clear d i c;go_wp2;go_roundw
     case rel=>exact⟨k+1,q,by omega,by go_num,by omega,g,F⟩
     case measure=>simp[intOf];omega
  ·have E:ah (l=C):=by
    show _=_;rw[HL.o,<-HC.o,aI,oK,bL (by have:=B.o;omega)]
   have BE:ah (iL w.heap.size w wr):=t.o.1.trans (p.o.mono t.o.1.size);have OE:ah (wr.ownsRow w.heap.size 3 1 (Y oa l.length oc) l.length (ax l)):=lJ A.o t.o.1.size;go_wp2;go_ret;refine⟨_,rfl,?_,BE.o⟩;rw[<-E.o];exact OE.o
theorem Ux:∀(l:List Int) (acc:List Int),(l.foldl eF acc).length<=acc.length+l.length:=by
 intro l
 induction l with
 |nil=>intro acc;simp
 |cons x l a=>intro acc;have:=a (eF acc x);have:=KE acc x;simp only[nA,aV];omega
theorem Ny(a:List Kn):∀(vs:List (Int×Int)) (acc:List Int),(vs.foldl (λacc v=>(bu a v.2).foldl eF acc) acc).length<=acc.length+16*vs.length:=by
 intro vs
 induction vs with
 |nil=>intro acc;simp
 |cons v vs b=>
  intro acc;have:=b ((bu a v.2).foldl eF acc);have:=Ux (bu a v.2) acc;have:=jK a v.2;simp only[nA,aV];omega
theorem qI(s:Sto):(aI s).length<=16*s.fV.length:=by
 have:=Ny s.fK s.fV []
 simpa[aI]using this
theorem tC:Fe 9:=by
 rintro v ⟨vs,g,nx⟩ w ⟨e,f,vc,ad,a,cap,rs,rfl,b,h,h4,i,j,c,d⟩;simp only at b c;subst b;exact UG e f vc ad a cap nx vs rs w (by omega) (by omega) c d
variable{s:Sto}
theorem YR{w:iW}{v:iX}(h:di w v s):∃b c vc ad a cap,v=iA #[Y b c vc,Y ad a cap,I J s.next]:=by
 obtain⟨b,c,vc,ad,a,cap,rs,h1,-⟩:=h;exact⟨b,c,vc,ad,a,cap,h1⟩
def Nd(w W:iW)(g:Nat)(xs:List iX):Prop:=iL w.heap.size w W/\w.heap.size<=g/\aP 4 g xs W
theorem Nd.next{w W a:iW}{xs:List iX}(h:Nd w W g xs)(b:iL W.heap.size W a):Nd w a g xs:=⟨h.1.trans (b.mono h.1.size),h.2.1,h.2.2.below b⟩
theorem Nd.drewN{w W:iW}{xs:List iX}(h:Nd w W g xs)(n:Nat):Nd w (W.drewN n) g xs:=h.next (dL (az _ _) n)
theorem Nd.put{w W:iW}{xs:List iX}(h:Nd w W g xs)(u:iX):Nd w (W.setCell ⟨g,k,O⟩ u) g (xs.set k u):=⟨h.1.setCell (p:=⟨g,k,O⟩) h.2.1 _,h.2.1,h.2.2.set k u⟩
theorem Nd.lt{w W:iW}{xs:List iX}(h:Nd w W g xs):g<W.heap.size:=by
 obtain⟨cs,h1,-⟩:=h.2.2;exact(aL.1 h1).1
theorem Zq{R:List Bool}{b:Bool}(c:R.length=n)(a:R[k]?=X b):((bM R).take k++(List.replicate n (iB iF)).drop k).set k (iB b)=(bM R).take (k+1)++(List.replicate n (iB iF)).drop (k+1):=by
 have f:=(aB.1 a).1;have d:(bM R)[k]?=X (iB b):=oZ a;have e:(bM R).length=n:=by simp[bM,c]
 rw[jm _ _ (by rw[cG];omega),cG,qt (by omega),kM,i8 (by rw[zJ];omega),cu,eG,d,fs]
 rfl
def uY(M:List an)(L:List Int)(base c:Int)(z:Int)(row:List Bool):Prop:=
 (∃k:Nat,z+1=k/\bp (M.drop k) c=O/\row=cE M L base)∨(z= -2/\row=cE M (L++[c]) base)
theorem R9{L:List Int}{base z:Int}(h:uY M L base c z row)(d:z<0):row=cE M (L++[c]) base:=by
 rcases h with⟨k,e,b,a⟩|⟨-,a⟩
 ·have:k=0:=by omega
  subst this;rw[AW]at b;rw[a,Zw L base b]
 ·exact a
theorem vz(ad:Option Addr)(a cap:Nat)(M:List an)(la:Option Addr)(D lc:Nat)(live:List Int)(base:Int)(w:iW)(hl:a<=1099511627776)(ao:D<=1000000000000000000)(h:iH w ad a M)(hi:fG w la D live):
 iK Tryz.prog 46 #[Y ad a cap,Y la D lc,I J base] w (IL w a (cE M live base)):=by
 obtain⟨i0,H,K,L,N⟩:=bV Ck;have HR:=af h;have HI:=af hi;have E:=af (show M.length=a from h.1);have F:=af hi.1;clear h hi;go_enter Tryz.func46,Tryz.ntmps46;go_wp2_with (at_make;refine tm _ rfl _ _ 98 rfl w.heap.size 4 i0 (iB iF) 1 Tryz.underlying98 H K L J J _ _ a rfl rfl rfl rfl (by rw[N];omega) (by unfold maxLen;omega) (by simp) ?_)
 intro w1 p m;rw[sy]at p;clear H K L N;have BG:iL w.heap.size w w1:=(az _ _).grown m (am _) (λk hk=>by cases hk)
 have N0:ah (Nd w w1 w.heap.size (List.replicate a (iB iF))):=⟨BG,am _,(aG.of p).flt⟩;clear p m BG;obtain⟨S,A⟩:=aq (cE M [] base);have y:=af A;have u:ah (S.length=a):=by show _=_;rw[<-A,qd];exact E.o
 clear A;go_wp2;go_loopw [8] (λs wr=>∃k:Nat,s=I J k/\k<=a/\ah (Nd w wr w.heap.size ((bM S).take k++(List.replicate a (iB iF)).drop k))) (λs _=>a-(intOf s).toNat)
 case atStart=>exact⟨0,rfl,aK _,by simpa using N0⟩
 case round=>
  rename iW=>wr
  obtain⟨k,rfl,hk,C⟩:=hrel;clear N0;have aj:(0:Int)<=k:=by omega
  by_cases ap:(k:Int)<a
  ·obtain⟨x,r⟩:∃x,M[k]?=X x:=⟨_,ay (by have:=E.o;omega)⟩
   obtain⟨rb,ro,rfl,-,T,c1,c2,c3,U,V,Z,c7,d4⟩:=(HR.o.below C.o.1).all r;have hb:S[k]?=X (x.fP.kind==2&&decide (base<=x.fP.tx)):=by rw[<-y.o,XM,bi,r];rfl
   have l:=af (C.o.put (k:=k) (iB (x.fP.kind==2&&decide (base<=x.fP.tx))));rw[Zq u.o hb]at l;obtain⟨xb,xl,pk,pq,px,pp,pc,pt⟩:=x;simp only at T c1 c2 c3 U V Z c7 d4 l;have kc:wr.cell? ⟨w.heap.size,k,O⟩=X (iB iF):=C.o.2.2.cell (by
    have ai:(bM S).length=a:=by simp[bM,u.o]
    rw[ct (by rw[cG];omega),cG,qt (by omega),kM,lh,pP]
    rw[Dr,ak (by omega)])
   have kf:=C.o.2.2.frozen k;clear r hb;by_cases t:(pk==2)=iV
   ·rw[t,gk]at l;by_cases P:base<=px
    ·rw[aW P]at l;go_wp2;go_roundw
     case rel=>exact⟨k+1,by go_num,by omega,l⟩
     case measure=>simp[intOf];omega
    ·rw[bf P]at l;go_wp2;go_roundw
     case rel=>exact⟨k+1,by go_num,by omega,l⟩
     case measure=>simp[intOf];omega
   ·have t:(pk==2)=iF:=by simpa using t
    rw[t,kL]at l;go_wp2;go_roundw
    case rel=>exact⟨k+1,by go_num,by omega,l⟩
    case measure=>simp[intOf];omega
  ·have ek:k=a:=by omega
   have l:ah (Nd w wr w.heap.size (bM (cE M (live.take 0) base))):=by
    have:=C.o;rw[ek,bL (by simp[bM,u.o]),me (by simp),dS,<-y.o]at this
    exact this
   clear C ek y u;go_wp2;go_loopw [9] (λs wr=>∃k:Nat,s=I J k/\k<=D/\ah (Nd w wr w.heap.size (bM (cE M (live.take k) base)))) (λs _=>D-(intOf s).toNat)
   case atStart=>exact⟨0,rfl,aK _,l⟩
   case round=>
    rename iW=>wr2
    obtain⟨f,rfl,al,R⟩:=hrel;clear l;have ae:(0:Int)<=f:=by omega
    by_cases ag:(f:Int)<D
    ·obtain⟨c,hc⟩:∃c,live[f]?=X c:=⟨_,ay (by have:=F.o;omega)⟩
     obtain⟨lb,lo,ab,-,-⟩:=HI.o.at hc;subst ab;have HC:ah (∀W,iL w.heap.size w W->W.cell? ⟨lb,lo+f,O⟩=X (I J c)):=by
      intro W hW;obtain⟨ar,au,e,-,q⟩:=(HI.o.below hW).at hc;injection e with e
      injection e with e1 e2
      subst e1 e2;exact q
     have aa:ah (live.take (f+1)=live.take f++[c]):=by show _=_;rw[eG,hc];rfl
     have L0:ah (uY M (live.take f) base c ((a:Int)-1) (cE M (live.take f) base)):=.inl ⟨a,by omega,by rw[me (by have:=E.o;omega)];rfl,rfl⟩
     clear hc;go_wp2;go_loopw [10] (λs wr=>∃(z:Int) (row:List Bool),s=I J z/\-2<=z/\z<a/\ah (uY M (live.take f) base c z row)/\ah (Nd w wr w.heap.size (bM row))) (λs _=>(intOf s+2).toNat)
     case atStart=>exact⟨(a:Int)-1,_,by go_num,by omega,by omega,L0,R⟩
     case round=>
      rename iW=>wr3
      obtain⟨z,row,rfl,z1,z2,B,g⟩:=hrel;clear L0 R;by_cases hz:0<=z
      ·obtain⟨j,rfl⟩:∃j:Nat,z=(j:Int):=⟨z.toNat,by omega⟩
       obtain⟨x,r⟩:∃x,M[j]?=X x:=⟨_,ay (by have:=E.o;omega)⟩
       obtain⟨b,d⟩:row=cE M (live.take f) base/\bp (M.drop (j+1)) c=O:=by
        rcases B.o with⟨k',e,hn,hr⟩|⟨e,-⟩
        ·have:k'=j+1:=by omega
         subst this;exact⟨hr,hn⟩
        ·omega
       obtain⟨rb,ro,rfl,-,T,c1,c2,c3,U,V,Z,c7,d4⟩:=(HR.o.below g.o.1).all r;have cl:=HC.o _ g.o.1;by_cases i:cW c x=iV
       ·have Q:ah (uY M (live.take f) base c (-2) (row.set j iV)):=.inr ⟨rfl,by rw[b,Sy _ _ r i d]⟩
        have ac:row.length=a:=by rw[b,qd];exact E.o
        unfold cW at i;rw[bn]at i;obtain⟨t,P⟩:=i;obtain⟨xb,xl,pk,pq,px,pp,pc,pt⟩:=x;simp only at T c1 c2 c3 U V Z c7 d4 t P;have v:ah (∀n,Nd w (wr3.drewN n) w.heap.size (bM row)):=λn=>g.o.drewN n
        obtain⟨bj,G⟩:∃bj,row[j]?=X bj:=⟨_,ay (by omega)⟩
        have KC:ah (∀n,(wr3.drewN n).cell? ⟨w.heap.size,j,O⟩=X (iB bj)):=λn=>(v.o n).2.2.cell (oZ G)
        have KF:ah (∀n,(wr3.drewN n).frozen? ⟨w.heap.size,j,O⟩=iF):=λn=>(v.o n).2.2.frozen j
        have N6:ah (∀n,Nd w ((wr3.drewN n).setCell ⟨w.heap.size,j,O⟩ (iB iV)) w.heap.size (bM (row.set j iV))):=λn=>by
         have:=(v.o n).put (k:=j) (iB iV);rw[wC]at this;exact this
        clear r b d ac B G g;go_wp2;go_quiet (fail);have kc:=KC.o;have kf:=KF.o;clear KC KF v;go_wp2;go_roundw
        case rel=>exact⟨-2,row.set j iV,by go_num,by omega,by omega,Q,N6.o _⟩
        case measure=>simp[intOf];omega
       ·have i:cW c x=iF:=by simpa using i
        have Q:ah (uY M (live.take f) base c ((j:Int)-1) row):=.inl ⟨j,by omega,by rw[i8 (aB.1 r).1,(aB.1 r).2,Af,d,i];rfl,b⟩
        have v:ah (∀n,Nd w (wr3.drewN n) w.heap.size (bM row)):=λn=>g.o.drewN n
        unfold cW at i;obtain⟨xb,xl,pk,pq,px,pp,pc,pt⟩:=x;simp only at T c1 c2 c3 U V Z c7 d4 i;by_cases t:(pk==1)=iV
        ·have P:(px==c)=iF:=by rw[t,gk]at i;exact i
         clear r b d B g i;go_wp2;go_quiet (fail);go_wp2;go_roundw
         case rel=>exact⟨(j:Int)-1,row,by go_num,by omega,by omega,Q,v.o _⟩
         case measure=>simp[intOf];omega
        ·have t:(pk==1)=iF:=by simpa using t
         clear r b d B g i;go_wp2;go_quiet (fail);go_wp2;go_roundw
         case rel=>exact⟨(j:Int)-1,row,by go_num,by omega,by omega,Q,v.o _⟩
         case measure=>simp[intOf];omega
      ·have b:=R9 B.o (by omega)
       have v:ah (Nd w wr3 w.heap.size (bM (cE M (live.take (f+1)) base))):=by rw[aa.o,<-b];exact g
       clear b B g;go_wp2;go_roundw
       case rel=>exact⟨f+1,by go_num,by omega,v⟩
       case measure=>simp[intOf];omega
    ·have g:ah (Nd w wr2 w.heap.size (bM (cE M live base))):=by
      have:=R.o;rw[bL (by have:=F.o;omega)]at this
      exact this
     clear R;go_wp2;go_ret;exact⟨w.heap.size,rfl,am _,g.o.lt,g.o.2.2,g.o.1⟩
theorem yM(ad:Option Addr)(f cap:Nat)(M:List an)(g n c:Nat)(row:List Bool)(b:Int)(w:iW)(L:f<=1099511627776)(v:row.length=f)(C:n=f)(h:iH w ad f M)(u:aP 4 g (bM row) w):
 iK Tryz.prog 45 #[Y ad f cap,Y (X ⟨g,0,O⟩) n c,I J b] w λe w'=>e=G (I J ((dP M row b:Nat):Int))/\w'=w:=by
 subst C;have A:=af h;have t:=af (show M.length=n from h.1);have i:=af v;have y:=af u;clear h v u;go_enter Tryz.func45,Tryz.ntmps45;go_wp2;go_loopw [7,8] (λF s wr=>∃(k q:Nat),F=I J q/\s=I J k/\k<=n/\q<=k/\ah (dP (M.take k) (row.take k) b=q)/\wr=w) (λ_ s _=>n-(intOf s).toNat)
 case atStart=>exact⟨0,0,rfl,rfl,aK _,am _,(by show _=_;simp[dP]),rfl⟩
 case round=>
  obtain⟨k,q,rfl,rfl,K,N,j,rfl⟩:=hrel;have D:(0:Int)<=k:=by omega
  by_cases E:(k:Int)<n
  ·obtain⟨x,p⟩:∃x,M[k]?=X x:=⟨_,ay (by have:=t.o;omega)⟩
   obtain⟨r,m⟩:∃r,row[k]?=X r:=⟨_,ay (by have:=i.o;omega)⟩
   obtain⟨T,U,rfl,-,B,-⟩:=A.o.all p;have H:=y.o.cell (oZ m);have a:=af (QP b p m);obtain⟨xb,V,pk,R,S,Q,P,pt⟩:=x;simp only at B a;rw[j.o]at a;clear p m j;cases r with
   |true=>
    rw[gk]at a;by_cases l:(xb==b)=iV
    ·rw[l]at a;have d:ah (dP (M.take (k+1)) (row.take (k+1)) b=q+1):=a;clear a;go_wp2;go_roundw
     case rel=>exact⟨k+1,q+1,by go_num,by go_num,by omega,by omega,d,trivial⟩
     case measure=>simp[intOf];omega
    ·have l:(xb==b)=iF:=by simpa using l
     rw[l]at a;have d:ah (dP (M.take (k+1)) (row.take (k+1)) b=q):=a;clear a;go_wp2;go_roundw
     case rel=>exact⟨k+1,q,rfl,by go_num,by omega,by omega,d,trivial⟩
     case measure=>simp[intOf];omega
   |false=>
    rw[kL]at a;have d:ah (dP (M.take (k+1)) (row.take (k+1)) b=q):=a;clear a;go_wp2;go_roundw
    case rel=>exact⟨k+1,q,rfl,by go_num,by omega,by omega,d,trivial⟩
    case measure=>simp[intOf];omega
  ·have z:ah (dP M row b=q):=by
    have:=j.o;rw[bL (by have:=t.o;omega),bL (by have:=i.o;omega)]at this
    exact this
   clear j;go_wp2;go_ret;rw[z.o];exact⟨rfl,rfl⟩
theorem XG(v:iX)(rs:List Rw)(sv:iX)(s:Sto)(base b:Int)(w:iW)(hl:rs.length<=1048576)(t:∀r∈rs,r.2.2.2.length<=1048576)(x:mJ rs)(ha:dX w v rs)(hs:di w sv s):
 iK Tryz.prog 18 #[iA #[v],sv,I J base,I J b] w λe w'=>e=G (I J ((iq (au (rs.map aw)) (aI s) base b:Nat):Int))/\iL w.heap.size w w':=by
 obtain⟨M,hM⟩:=aq (au (rs.map aw));have f:=hs.fit;have Q:=qI s;obtain⟨l,m,vc,d,c,a,rfl⟩:=YR hs;have B:=aR w (iC #[v] 26);have y:(w.alloc (iC #[v] 26)).heap.size=w.heap.size+1:=by simp
 have F:(w.alloc (iC #[v] 26)).cell? ⟨w.heap.size,0,O⟩=X v:=ai _ _ 0 _ _ _ (aC w (iC #[v] 26));generalize R:w.alloc (iC #[v] 26)=wa at B y F;have D:=aR wa (iC #[Y l m vc,Y d c a,I J s.next] 32);have z:∀(k:Nat) (u:iX),#[Y l m vc,Y d c a,I J s.next][k]?=X u->(wa.alloc (iC #[Y l m vc,Y d c a,I J s.next] 32)).cell? ⟨wa.heap.size,k,O⟩=X u:=λk u hu=>by
  exact(ai _ _ k _ _ _ (aC wa (iC #[Y l m vc,Y d c a,I J s.next] 32))).trans hu
 generalize S:wa.alloc (iC #[Y l m vc,Y d c a,I J s.next] 32)=wb at D z;have E:iL w.heap.size w wb:=B.trans (D.mono B.size);have k0:wb.cell? ⟨w.heap.size,0,O⟩=X v:=(D.cell (aT wa _ F)).trans F;have T:=z 0 _ rfl;have U:=z 1 _ rfl;have V:=z 2 _ rfl;have C:=af (oU v rs wb hl t x (ha.below E));have HS:=af (hs.below E);have L:=af E;unfold kZ at C;rw[hM]at C⊢;have p:ah ((aI s).length<=16*1048576):=by have:=f.1;show _<=_;omega
 have n:=af (λW (h:di W (iA #[Y l m vc,Y d c a,I J s.next]) s)=>tC _ s W h)
 clear hl t x ha hs B hM f Q y F z E;go_enter Tryz.func18,Tryz.ntmps18;go_wp2_with fail;clear R S D;refine C.o.mono ?_;rintro e w1 ⟨ad,cap,rfl,h1,h2,j⟩;have e0:=(j.cell (aT wb _ T)).trans T;have e1:=(j.cell (aT wb _ U)).trans U;have e2:=(j.cell (aT wb _ V)).trans V;have HR:=af h1;have Z:=af (HS.o.below j);have H:=af (L.o.trans (j.mono L.o.size));clear C h1 j HS L k0 T U V;go_wp2_with fail;refine(n.o _ Z.o).mono ?_;rintro e w2 ⟨lv,rfl,ho,A⟩;obtain⟨la,lc,rfl,q,-,-⟩:=kt.of ho (by have:=p.o;unfold maxLen;omega) A
 have HI:=af q;have K:=af (H.o.trans (A.mono H.o.size));have i:=af (HR.o.below A);clear ho q A n Z H HR e0 e1 e2;go_wp2_with fail;refine(vz ad M.length cap M la (aI s).length lc (aI s) base w2 h2 (by have:=p.o;omega) i.o HI.o).mono ?_
 rintro e w3 ⟨g,rfl,g1,g2,g3,P⟩;have N:=af (i.o.below P);have HG:=af g3;have B3:=af (K.o.trans (P.mono K.o.size));clear g1 g2 g3 P i K;go_wp2_with fail;refine(yM ad M.length cap M g M.length M.length (cE M (aI s) base) b w3 h2 (qd _ _ _) rfl N.o HG.o).mono ?_;rintro e w4 ⟨rfl,rfl⟩;go_wp2;go_ret;exact⟨rfl,B3.o⟩
end Go.Proofs.YtgigcooffjjbgaaGreatDoor
