/-
  FOf; Fla; FMath; Rd; SNext; SIn; SMay; SLeaf; SOk; FSnoc; SCopy; FPut; SProg; SBad; FBlk; Make4; SWipe
-/
import Derived.Test.YtgigcooffjjbgaaGreatDoorPk5
open Go.Value renaming int→I,slice→Y,string→iT,bool→iB,pointer→iP,agg→iA,tuple→iU
open Go.IntKind renaming i64→J
open Option renaming none→O,some→X
open Go.Ending renaming returned→G
open Go.Obj renaming cells→iC
open Bool renaming true→iV,false→iF
open Go renaming World→iW,Value→iX,Calls→iK
open Go.RowKit renaming Below→iL
set_option maxHeartbeats 1600000
set_option maxRecDepth 100000
namespace Go.Proofs.YtgigcooffjjbgaaGreatDoor
open Go.RowKit
theorem Ke:(Tryz.prog.info? 26).map (·.size)=X 1:=by kernel_rfl
def dp(w:iW)(B:Nat)(v:iX)(bs:List Bk):Prop:=∃a:List Rw,a.map aw=bs/\fk w B w.heap.size v a
variable{a:Act}{ops:Array Oper}{t:ByteArray}{fn:Func}{ls:List (Int × ByteArray)}{rest:List Oper}{B lo B' k n cap m size lc gl j g:Nat}{e:TypeId}
variable{bs:List Bk}
theorem dp.form{w:iW}{v:iX}(h:dp w B v bs):∃ad cap,v=Y ad bs.length cap:=by
 obtain⟨a,rfl,hs⟩:=h;obtain⟨ad,cap,rfl,-⟩:=lM hs.1;exact⟨ad,cap,by simp⟩
theorem dp.below{w w':iW}{v:iX}(h:dp w B v bs)(a:iL w.heap.size w w'):dp w' B v bs:=by
 obtain⟨b,e,hs⟩:=h;exact⟨b,e,(hs.below a (am _)).up a.size⟩
theorem fk.down{w:iW}{a hi:Nat}{v:iX}{rs:List Rw}(h:fk w lo hi v rs)(b:a<=lo):fk w a hi v rs:=⟨vM h.1 b,h.2.1,λr c=>⟨vM (h.2.2.1 r c).1 b,(h.2.2.1 r c).2⟩,h.2.2.2⟩
theorem dp.down{w:iW}{v:iX}(h:dp w B v bs)(a:B'<=B):dp w B' v bs:=by
 obtain⟨b,e,hs⟩:=h;exact⟨b,e,hs.down a⟩
theorem dp.cell{w:iW}{B:Nat}{v:iX}{bs:List Bk}(h:dp w B v bs){g:Nat}(b:g<B)(i:Nat)(u:iX):dp (w.setCell ⟨g,i,O⟩ u) B v bs:=by
 obtain⟨a,e,hs⟩:=h;refine⟨a,e,?_⟩;have:=hs.kept (w':=w.setCell ⟨g,i,O⟩ u) (λk h1 _=>aO _ _ _ _ (by show k≠g;omega))
 simpa[World.setCell]using this
def cE(lo hi:Nat)(v:iX)(bs:List Bk):iW->Prop:=λW=>∃a:List Rw,a.map aw=bs/\fk W lo hi v a
theorem cE.loc(lo hi:Nat)(v:iX)(bs:List Bk):mm lo hi (cE lo hi v bs):=by
 rintro w w' a ⟨b,e,h⟩;exact⟨b,e,h.kept a⟩
theorem cE.form{w:iW}{hi:Nat}{v:iX}(h:cE lo hi v bs w):∃ad cap,v=Y ad bs.length cap/\(0<bs.length->∃g,ad=X ⟨g,0,O⟩/\lo<=g/\g<hi):=by
 obtain⟨c,rfl,h⟩:=h;obtain⟨ad,cap,rfl,-,-,a⟩:=lM h.1;refine⟨ad,cap,by simp,λb=>?_⟩
 obtain⟨g,e,h4,-⟩:=a (by simpa using b)
 subst e;exact⟨g,rfl,h4,h.2.1 g rfl⟩
variable{hs:List nK}
theorem Tk.fla{w a wj:iW}{v:iX}(T:Tk w a hs)(b:iL a.heap.size a wj)(f:dp wj a.heap.size v bs):Tk w wj ((a.heap.size,wj.heap.size,cE a.heap.size wj.heap.size v bs)::hs):=T.add b (cE.loc _ _ _ _) f
theorem cE.of{w:iW}{hi:Nat}{v:iX}(h:cE lo hi v bs w)(b:hi<=w.heap.size)(a:B<=lo):dp w B v bs:=by
 obtain⟨c,e,h⟩:=h;exact⟨c,e,(h.up b).down a⟩
def Tx(ls:List (Int×ByteArray)):Prop:=∀t∈ls,t.2.size<=1048576
def mW(rs:List Rw):Prop:=∀r∈rs,Tx r.2.2.2
def ju(w:iW)(u:iX)(ls:List (Int×ByteArray)):Prop:=
 ∃a lc,u=Y a ls.length lc/\(a=O->lc=0)/\∀j t,ls[j]?=X t->∃gl o,a=X ⟨gl,o,O⟩/\w.cell? ⟨gl,o+j*2,O⟩=X (I J t.1)/\w.cell? ⟨gl,o+j*2+1,O⟩=X (iT t.2)
def eB(w:iW)(v:iX)(rs:List Rw):Prop:=
 ∃b a,v=Y b rs.length a/\(b=O->a=0)/\∀k r,rs[k]?=X r->∃g,b=X ⟨g,0,O⟩/\(w.cell? ⟨g,k*3,O⟩=X (iB r.1)/\w.cell? ⟨g,k*3+1,O⟩=X (I J r.2.1)/\w.cell? ⟨g,k*3+2,O⟩=X r.2.2.1)/\ju w r.2.2.1 r.2.2.2
theorem ju.below{w w':iW}{u:iX}(h:ju w u ls)(a:iL w.heap.size w w'):ju w' u ls:=by
 obtain⟨f,lc,e,c,h⟩:=h;refine⟨f,lc,e,c,λj t d=>?_⟩
 obtain⟨gl,o,b,c1,c2⟩:=h j t d;exact⟨gl,o,b,(a.cell (bk w _ c1)).trans c1,(a.cell (bk w _ c2)).trans c2⟩
theorem eB.below{w w':iW}{v:iX}{rs:List Rw}(h:eB w v rs)(b:iL w.heap.size w w'):eB w' v rs:=by
 obtain⟨j,a,e,d,h⟩:=h;refine⟨j,a,e,d,λk r i=>?_⟩
 obtain⟨g,c,⟨c1,c2,c3⟩,f⟩:=h k r i;exact⟨g,c,⟨(b.cell (bk w _ c1)).trans c1,(b.cell (bk w _ c2)).trans c2,(b.cell (bk w _ c3)).trans c3⟩,f.below b⟩
theorem eB.at{w:iW}{c:Option Addr}{a:Nat}{rs:List Rw}{r:Rw}(h:eB w (Y c n a) rs)(d:rs[k]?=X r):∃g,c=X ⟨g,0,O⟩/\(w.cell? ⟨g,k*3,O⟩=X (iB r.1)/\w.cell? ⟨g,k*3+1,O⟩=X (I J r.2.1)/\w.cell? ⟨g,k*3+2,O⟩=X r.2.2.1)/\ju w r.2.2.1 r.2.2.2:=by
 obtain⟨f,b,e,-,h⟩:=h;injection e with e1 e2 e3
 subst e1;exact h k r d
theorem LW{w:iW}{a:Option Addr}{xs:List iX}(h:w.ownsRow B e size (Y a m cap) n xs):a=O->cap=0:=by
 rintro rfl;rcases h.2 with⟨h,-⟩|⟨g,b,c,h,-⟩
 ·injection h
 ·cases h
theorem kh.rd{w:iW}{hi:Nat}{u:iX}(h:kh w lo hi u ls):ju w u ls:=by
 obtain⟨e,lc,rfl,-,-,d⟩:=lM h.1;refine⟨e,lc,rfl,LW h.1,λj t a=>?_⟩
 obtain⟨gl,rfl,-,-⟩:=d (by have:=(aC.1 a).1;omega)
 obtain⟨b,c⟩:=Ga h.1 a;exact⟨gl,0,rfl,by rw[eC];exact b,by rw[eC];exact c⟩
theorem fk.rd{w:iW}{hi:Nat}{v:iX}{rs:List Rw}(h:fk w lo hi v rs):eB w v rs:=by
 obtain⟨d,a,rfl,-,-,c⟩:=lM h.1;refine⟨d,a,rfl,LW h.1,λk r b=>?_⟩
 obtain⟨g,rfl,-,-⟩:=c (by have:=(aC.1 b).1;omega)
 exact⟨g,rfl,Cr (k:=k) (t:=gt r) h.1 (by rw[bh,b];rfl),(h.2.2.1 r (aL b)).rd⟩
theorem Sy(g o j:Nat):(⟨g,o,O⟩:Addr).add j=⟨g,o+j,O⟩:=by
 simp only[Addr.add];split<;>simp_all
theorem ju.cells{w:iW}{gl o n lc:Nat}{ls:List (Int×ByteArray)}(h:ju w (Y (X ⟨gl,o,O⟩) n lc) ls)(j:Nat)(u:iX)(b:(fT ls)[j]?=X u):w.cell? ⟨gl,o+j,O⟩=X u:=by
 obtain⟨m,l,e,-,h⟩:=h;injection e with e1 e2 e3
 subst e1;have c:=(aC.1 b).1;rw[Ha]at c;obtain⟨t,f⟩:∃t,ls[j/2]?=X t:=⟨_,ay (by omega)⟩
 obtain⟨i,p,a,c1,c2⟩:=h _ t f;injection a with a
 injection a with e5 e6
 subst e5 e6;obtain⟨d,g⟩:=Ee ls (j/2) t f;rcases Nat.mod_two_eq_zero_or_one j with k|k
 ·have e:j/2*2=j:=by omega
  rw[e]at d c1;rw[b]at d;cases d;exact c1
 ·have e:j/2*2+1=j:=by omega
  rw[e,b]at g;cases g;rw[mf,e]at c2;exact c2
theorem ju.head{w:iW}{a:Option Addr}(h:ju w (Y a n lc) ls)(b:0<ls.length):∃gl o,a=X ⟨gl,o,O⟩:=by
 obtain⟨d,c,e,-,h⟩:=h;injection e with e1 e2 e3
 subst e1;obtain⟨gl,o,e,-⟩:=h 0 _ (ay b);exact⟨gl,o,e⟩
theorem ju.two{w:iW}{o:Nat}{t:Int×ByteArray}(h:ju w (Y (X ⟨gl,o,O⟩) n lc) ls)(a:ls[j]?=X t):w.cell? ⟨gl,o+j*2,O⟩=X (I J t.1)/\w.cell? ⟨gl,o+j*2+1,O⟩=X (iT t.2):=by
 obtain⟨b,c⟩:=Ee ls j t a;exact⟨h.cells _ _ b,h.cells _ _ c⟩
theorem ju.none0{w:iW}{a:Option Addr}(h:ju w (Y a n lc) ls):a=O->lc=0:=by
 obtain⟨c,b,e,h,-⟩:=h;injection e with e1 e2 e3
 subst e1 e3;exact h
theorem eB.head{w:iW}{b:Option Addr}{a:Nat}{rs:List Rw}(h:eB w (Y b n a) rs)(c:0<rs.length):∃g,b=X ⟨g,0,O⟩:=by
 obtain⟨g,e,-⟩:=h.at (ay c);exact⟨g,e⟩
theorem Er(x:Bool)(y:Int)(v:iX)(ls:List (Int×ByteArray))(w:iW)(Q:ls.length<=1048576)(r:ju w v ls):
 iK Tryz.prog 212 #[iA #[iB x,I J y,v]] w λe w'=>e=G (I J (br ls:Nat))/\iL w.heap.size w w':=by
 have s:=r;obtain⟨ad,a,rfl,-,-⟩:=s;have l:=af ((ax w.heap.size w).alloc (am _) (iC #[iB x,I J y,Y ad ls.length a] 81));have n:=af (r.below l.o);clear r;go_enter Tryz.func212,Tryz.ntmps212;go_wp2;have b:=aj _ _ 2 _ _ _ (aB w (iC #[iB x,I J y,Y ad ls.length a] 81));have f:ah ((w.alloc (iC #[iB x,I J y,Y ad ls.length a] 81)).cell? ⟨w.heap.size,2,O⟩=X (Y ad ls.length a)):=b;have h:=af (show(w.alloc (iC #[iB x,I J y,Y ad ls.length a] 81)).heap.size=w.heap.size+1 by simp)
 clear b;generalize w.alloc (iC #[iB x,I J y,Y ad ls.length a] 81)=H at l n f h⊢;go_loopw [3] (λF wr=>∃k:Nat,k<=ls.length/\F=I J k/\ah (∀(j:Nat) (u:Int×ByteArray),j<k->ls[j]?=X u->u.1≠0)/\ah (iL H.heap.size H wr)) (λF _=>ls.length-(intOf F).toNat)
 case atStart=>exact⟨0,aJ _,rfl,(show∀(j:Nat) (u:Int×ByteArray),j<0->ls[j]?=X u->u.1≠0 from λj u L=>by omega),ax _ _⟩
 case round=>
  obtain⟨k,P,rfl,q,m⟩:=hrel;have b:wr.cell? ⟨w.heap.size,2,O⟩=X (Y ad ls.length a):=(m.o.cell (show w.heap.size<H.heap.size by have:=h.o;omega)).trans f.o
  have d:=af (l.o.trans (m.o.mono l.o.size));by_cases M:(k:Int)<ls.length
  ·obtain⟨g,lo,K⟩:=n.o.head (by omega)
   subst K;have C:k<ls.length:=by omega
   obtain⟨z,t,D⟩:∃z t,ls[k]?=X (z,t):=⟨ls[k].1,ls[k].2,ay C⟩;obtain⟨c1,-⟩:=(n.o.below m.o).two D;simp only at c1;have i:=af D;have R:(0:Int)<=k:=by omega
   clear D;by_cases E:z=0
   ·subst E;have p:=af (Cj i.o rfl q.o);go_wp2;go_ret;exact⟨by rw[p.o];rfl,d.o⟩
   ·have N:(z==0)=iF:=by simpa using E
    go_wp2;go_roundw
    case rel=>
     refine⟨k+1,by omega,by go_num,af (λj u L c=>?_),m⟩
     by_cases A:j=k
     ·subst A;rw[i.o]at c;cases c;exact E
     ·exact q.o j u (by omega) c
    case measure=>simp[intOf];omega
  ·have B:k=ls.length:=by omega
   have p:=af (Me (ls:=ls) (λj u c=>q.o j u (by have:=(aC.1 c).1;omega) c))
   clear B;go_wp2;go_ret;exact⟨by rw[p.o];rfl,d.o⟩
theorem gO(x lo hi:Int)(b:Bool)(w:iW)(h:(lo<=x/\x<=hi/\b=iV)∨((x<lo∨lo<=x/\¬x<=hi)/\b=iF)):
 iK Tryz.prog 35 #[I J x,I J lo,I J hi] w λe w'=>e=G (iB b)/\w'=w:=by
 rcases h with⟨h1,a,rfl⟩|⟨h1|⟨h1,a⟩,rfl⟩
 all_goals
  go_enter Tryz.func35,Tryz.ntmps35;go_wp2;go_ret;exact⟨rfl,rfl⟩
theorem ij(x lo hi:Int)(w:iW):
 iK Tryz.prog 35 #[I J x,I J lo,I J hi] w λe w'=>e=G (iB (decide (lo<=x/\x<=hi)))/\w'=w:=by
 apply gO;by_cases h:lo<=x/\x<=hi
 ·exact .inl ⟨h.1,h.2,aS h⟩
 ·exact .inr ⟨by omega,aV h⟩
theorem Of{b leaf:Int}(h:¬(0<=b/\b<=(bs.length:Int)-1)):jb bs b leaf t=iF:=by
 unfold jb;cases a:bs[b.toNat]? with
 |none=>rfl
 |some r=>
  have:=(aC.1 a).1;exact aV (λc=>h ⟨c.1,by omega⟩)
theorem Q3{b leaf:Int}{r:Bk}(h0:0<=b)(a:bs[b.toNat]?=X r):jb bs b leaf t=decide (r.1=iF/\leaf<4/\leaf=br r.2.2/\1<=t.size/\t.size<=120):=by
 unfold jb;rw[a];simp[h0]
theorem Zs(v:iX)(rs:List Rw)(b leaf:Int)(t:ByteArray)(w:iW)(S:rs.length<=1048576)(z:∀r∈rs,r.2.2.2.length<=1048576)(F:eB w v rs):
 iK Tryz.prog 233 #[iA #[v],I J b,I J leaf,iT t] w λe w'=>e=G (iB (jb (rs.map aw) b leaf t))/\iL w.heap.size w w':=by
 have H:=F;obtain⟨ad,p,rfl,-,-⟩:=H;have E:=af z;have j:=af ((ax w.heap.size w).alloc (am _) (iC #[Y ad rs.length p] 26));have P:=af (F.below j.o);have R:IntKind.i64.wrap ((rs.length:Int)-1)=(rs.length:Int)-1:=by rw[cm];omega
 clear F z;by_cases l:0<=b/\b<=(rs.length:Int)-1
 ·have a:decide (0<=b/\b<=(rs.length:Int)-1)=iV:=aS l;obtain⟨k,rfl⟩:∃k:Nat,b=k:=⟨b.toNat,by omega⟩
  have K:k<rs.length:=by omega
  have A:rs[k]?=X rs[k]:=ay K;generalize rs[k]=r at A;have h:=aL A;have B:=E.o r h;obtain⟨g,Q,⟨c1,c2,c3⟩,f⟩:=P.o.at A;subst Q;obtain⟨x,y,u,ls⟩:=r;simp only at c1 c2 c3;simp only at f B;have C:=af (Q3 (bs:=rs.map aw) (leaf:=leaf) (t:=t) (r:=(x,y,ls)) l.1 (by rw[bh,bi,A];rfl))
  have s:=f;obtain⟨U,O,rfl,-,-⟩:=s;have D:=af f;have T:(0:Int)<=k:=by omega
  clear A h f l;cases x with
  |true=>
   have c:ah (jb (rs.map aw) k leaf t=iF):=C.o.trans (aV (by simp))
   go_enter Tryz.func233,Tryz.ntmps233;go_wp2_with fail;refine(ij (k:Int) 0 ((rs.length:Int)-1) _).mono ?_;rintro e M ⟨rfl,rfl⟩;rw[a];clear a;go_wp2;go_ret;exact⟨by rw[c.o];rfl,j.o⟩
  |false=>
   by_cases d:leaf<4
   ·have q:decide (leaf<4)=iV:=aS d;go_enter Tryz.func233,Tryz.ntmps233;go_wp2_with fail;refine(ij (k:Int) 0 ((rs.length:Int)-1) _).mono ?_;rintro e M ⟨rfl,rfl⟩;rw[a];clear a;go_wp2_with fail;refine(Er iF y _ ls _ B D.o).mono ?_;rintro e V ⟨rfl,N⟩;have n:=af (j.o.trans (N.mono j.o.size));clear N;by_cases m:leaf=br ls
    ·have L:(leaf==(br ls:Int))=iV:=by simp[m]
     have c:ah (jb (rs.map aw) k leaf t=decide ((1:Int)<=t.size/\(t.size:Int)<=120)):=by
      show _=_;rw[C.o];congr 1;apply propext;constructor
      ·intro i;exact⟨by have:=i.2.2.2.1;omega,by have:=i.2.2.2.2;omega⟩
      ·intro i;exact⟨by trivial,d,m,by omega,by omega⟩
     clear m;go_wp2_with fail;refine(ij (t.size:Int) 1 120 _).mono ?_;rintro e W ⟨rfl,rfl⟩;rw[<-c.o];clear c;go_wp2;go_ret;exact⟨rfl,n.o⟩
    ·have L:(leaf==(br ls:Int))=iF:=by simpa using m
     have c:ah (jb (rs.map aw) k leaf t=iF):=C.o.trans (aV (λi=>m i.2.2.1))
     clear m;go_wp2;go_ret;exact⟨by rw[c.o];rfl,n.o⟩
   ·have q:decide (leaf<4)=iF:=aV d;have c:ah (jb (rs.map aw) k leaf t=iF):=C.o.trans (aV (λi=>d i.2.1))
    go_enter Tryz.func233,Tryz.ntmps233;go_wp2_with fail;refine(ij (k:Int) 0 ((rs.length:Int)-1) _).mono ?_;rintro e M ⟨rfl,rfl⟩;rw[a];clear a;go_wp2;go_ret;exact⟨by rw[c.o];rfl,j.o⟩
 ·have a:decide (0<=b/\b<=(rs.length:Int)-1)=iF:=aV l;have c:ah (jb (rs.map aw) b leaf t=iF):=Of (by rw[bm];exact l)
  clear l;go_enter Tryz.func233,Tryz.ntmps233;go_wp2_with fail;refine(ij b 0 ((rs.length:Int)-1) _).mono ?_;rintro e M ⟨rfl,rfl⟩;rw[a];clear a;go_wp2;go_ret;exact⟨by rw[c.o];rfl,j.o⟩
theorem uF(x:Int)(t:ByteArray)(w:iW):
 iK Tryz.prog 176 #[iA #[I J x,iT t]] w λe w'=>e=G (iB (gZ (x,t)))/\iL w.heap.size w w':=by
 have d:=af ((ax w.heap.size w).alloc (am _) (iC #[I J x,iT t] 83));by_cases h0:x=0
 ·subst h0;have c:ah (gZ (0,t)=t.toList.isEmpty):=by
   show _=_;simp only[gZ];rw[mU];have b:t.size=t.data.toList.length:=rfl;cases g:t.data.toList with
   |nil=>rw[g]at b;exact aS (Or.inl ⟨trivial,b⟩)
   |cons a l=>rw[g]at b;exact aV (by simp only[aW]at b;omega)
  go_enter Tryz.func176,Tryz.ntmps176;go_wp2;go_ret;exact⟨by rw[c.o];rfl,d.o⟩
 ·by_cases h1:x=1
  ·subst h1;have c:ah (gZ (1,t)=decide ((1:Int)<=t.size/\(t.size:Int)<=120)):=by
    show _=_;simp only[gZ];congr 1;apply propext;simp;omega
   go_enter Tryz.func176,Tryz.ntmps176;go_wp2_with fail;refine(ij (t.size:Int) 1 120 _).mono ?_;rintro e k ⟨rfl,rfl⟩;rw[<-c.o];clear c;go_wp2;go_ret;exact⟨rfl,d.o⟩
  ·have h:(x==0)=iF:=by simpa using h0
   have i:(x==1)=iF:=by simpa using h1
   by_cases f:x=2
   ·subst f;have c:ah (gZ (2,t)=decide ((t.size:Int)<=120)):=by
     show _=_;simp only[gZ];congr 1;apply propext;simp;omega
    go_enter Tryz.func176,Tryz.ntmps176;go_wp2;go_ret;exact⟨by rw[c.o];rfl,d.o⟩
   ·have j:(x==2)=iF:=by simpa using f
    have c:ah (gZ (x,t)=iF):=by
     show _=_;simp only[gZ];exact aV (by omega)
    go_enter Tryz.func176,Tryz.ntmps176;go_wp2;go_ret;exact⟨by rw[c.o];rfl,d.o⟩
theorem wY(v:iX)(rs:List Rw)(w:iW)(hl:rs.length<=1048576)(az:∀r∈rs,r.2.2.2.length<=1048576)(ha:eB w v rs):
 iK Tryz.prog 137 #[iA #[v]] w λe w'=>e=G (iB (bp (rs.map aw)))/\iL w.heap.size w w':=by
 have aF:=ha;obtain⟨ad,d,rfl,-,-⟩:=aF;have HB:=af ((ax w.heap.size w).alloc (am _) (iC #[Y ad rs.length d] 26));have HA:=af (ha.below HB.o);have aa:=aj _ _ 0 _ _ _ (aB w (iC #[Y ad rs.length d] 26));have ac:ah ((w.alloc (iC #[Y ad rs.length d] 26)).cell? ⟨w.heap.size,0,O⟩=X (Y ad rs.length d)):=aa;have ao:=af (show(w.alloc (iC #[Y ad rs.length d] 26)).heap.size=w.heap.size+1 by simp)
 have aC:=af az;clear ha aa az;go_enter Tryz.func137,Tryz.ntmps137;go_wp2;generalize w.alloc (iC #[Y ad rs.length d] 26)=wA at HB HA ac ao⊢;go_loopw [3] (λiv wr=>∃k:Nat,k<=rs.length/\iv=I J k/\ah (∀r∈(rs.take k),dw (aw r)=iV)/\ah (iL wA.heap.size wA wr)) (λiv _=>rs.length-(intOf iv).toNat)
 case atStart=>exact⟨0,aJ _,rfl,(show∀r∈rs.take 0,dw (aw r)=iV by simp),ax _ _⟩
 case round=>
  rename iW=>wo
  obtain⟨k,hk,rfl,HN,HW⟩:=hrel;have aa:wo.cell? ⟨w.heap.size,0,O⟩=X (Y ad rs.length d):=(HW.o.cell (show w.heap.size<wA.heap.size by have:=ao.o;omega)).trans ac.o
  have V:=af (HB.o.trans (HW.o.mono HB.o.size));have aH:=HB.o.size;by_cases aK:(k:Int)<rs.length
  ·have ar:k<rs.length:=by omega
   have p:rs[k]?=X rs[k]:=ay ar;have ab:rs.take (k+1)=rs.take k++[rs[k]]:=ft ar;generalize rs[k]=r at p ab;have H:=aL p;have aG:=aC.o r H;obtain⟨g,eg,⟨c1,c2,c3⟩,T⟩:=(HA.o.below HW.o).at p;subst eg;obtain⟨x,y,u,ls⟩:=r;simp only at c1 c2 c3;simp only at T aG;have av:=T;obtain⟨U,c,rfl,-,-⟩:=av;have ag:=af T;have aD:=af ab;have ak:=af H;have k0:(0:Int)<=k:=by omega
   clear p ab T H;have N:=af (oP (f:=aw) ak.o);have D:=af (V.o.alloc (by have:=V.o.size;exact this) (iC #[iB x,I J y,Y U ls.length c] 81))
   by_cases S:ls.length=4
   ·have au:((ls.length:Int) !=4)=iF:=by rw[S];rfl
    have aA:=af S;clear S;have Q:=af ((ax wo.heap.size wo).alloc (am _) (iC #[iB x,I J y,Y U ls.length c] 81));have R:=aj _ _ 2 _ _ _ (aB wo (iC #[iB x,I J y,Y U ls.length c] 81));have ae:ah ((wo.alloc (iC #[iB x,I J y,Y U ls.length c] 81)).cell? ⟨wo.heap.size,2,O⟩=X (Y U ls.length c)):=R;have Z:=af (show(wo.alloc (iC #[iB x,I J y,Y U ls.length c] 81)).heap.size=wo.heap.size+1 by simp)
    clear R;by_cases hy:0<=y/\y<=1000000000
    ·have HY:=af hy;have K:decide (0<=y/\y<=1000000000)=iV:=aS hy;clear hy;go_wp2_with fail;refine(ij y 0 1000000000 _).mono ?_;rintro e l ⟨rfl,rfl⟩;rw[K];clear K;go_wp2;generalize wo.alloc (iC #[iB x,I J y,Y U ls.length c] 81)=wB at D Q ae Z⊢;go_loopw [5] (λiv wr=>∃j:Nat,j<=ls.length/\iv=I J j/\ah (∀i,i<j->iw ls i=iV)/\ah (iL wB.heap.size wB wr)) (λiv _=>ls.length-(intOf iv).toNat)
     case atStart=>exact⟨0,aJ _,rfl,(show∀i,i<0->iw ls i=iV from λi hi=>by omega),ax _ _⟩
     case round=>
      obtain⟨j,hj,rfl,HJ,s⟩:=hrel;have R:wr.cell? ⟨wo.heap.size,2,O⟩=X (Y U ls.length c):=(s.o.cell (show wo.heap.size<wB.heap.size by have:=Z.o;omega)).trans ae.o
      have q:=af (D.o.trans (s.o.mono D.o.size));by_cases aI:(j:Int)<ls.length
      ·obtain⟨gl,lo,el⟩:=ag.o.head (by omega)
       subst el;have F:j<ls.length:=by omega
       obtain⟨z,t,ht⟩:∃z t,ls[j]?=X (z,t):=⟨ls[j].1,ls[j].2,ay F⟩;have an:=af ((ag.o.below Q.o).below s.o);obtain⟨d1,d2⟩:=an.o.two ht;simp only at d1 d2;have HT:=af ht;have j0:(0:Int)<=j:=by omega
       clear ht;have P:ah (∀l,iL wr.heap.size wr l->l.cell? ⟨wo.heap.size,2,O⟩=X (Y (X ⟨gl,lo,O⟩) ls.length c)/\ju l (Y (X ⟨gl,lo,O⟩) ls.length c) ls):=λl a=>by
        have s1:=Z.o;have s2:=s.o.size;exact⟨(a.cell (show wo.heap.size<wr.heap.size by omega)).trans R,an.o.below a⟩
       cases n:gZ (z,t)with
       |false=>
        have L:ah (bp (rs.map aw)=iF):=yU N.o (FZ (b:=aw (x,y,Y (X ⟨gl,lo,O⟩) ls.length c,ls)) F (Iq HT.o n));go_wp2_with fail;refine(uF z t _).mono ?_;rintro e l ⟨rfl,a⟩;rw[n];have M:=af (q.o.trans (a.mono q.o.size));clear a;go_wp2;go_ret;exact⟨by rw[L.o];rfl,M.o⟩
       |true=>
        have ai:=af n;cases j with
        |zero=>
         simp only[nj,qT]at d1 d2;go_wp2_with fail;refine(uF z t _).mono ?_;rintro e l ⟨rfl,a⟩;rw[n];have A:=af (s.o.trans (a.mono s.o.size));obtain⟨q1,C⟩:=P.o l a;clear a C;go_wp2;refine⟨⟨1,by omega,rfl,(show∀i,i<1->iw ls i=iV from λi hi=>?_),A⟩,by simp[intOf];omega⟩
         obtain rfl:i=0:=by omega
         exact Fs HT.o ai.o
        |succ m=>
         have hm:m<ls.length:=by omega
         obtain⟨zp,tp,hp⟩:∃z t,ls[m]?=X (z,t):=⟨ls[m].1,ls[m].2,ay hm⟩;have HP:=af hp;clear hp;have E:zp≠0∨z=0->ah (∀i,i<m+1+1->iw ls i=iV):=λhq i hi=>by
          by_cases h1:i=m+1
          ·subst h1;exact Kc HT.o HP.o ai.o hq
          ·exact HJ.o i (by omega)
         by_cases h:zp=0
         ·by_cases B:z=0
          ·have W:=E (Or.inr B);have e1:(zp==0)=iV:=by simp[h]
           have e2:(z !=0)=iF:=by simp[B]
           clear E h B;go_wp2_with fail;refine(uF z t _).mono ?_;rintro e l ⟨rfl,a⟩;rw[n];have A:=af (s.o.trans (a.mono s.o.size));obtain⟨q1,C⟩:=P.o l a;obtain⟨p1,-⟩:=C.two HT.o;obtain⟨p2,-⟩:=C.two HP.o;simp only at p1 p2;clear a C;go_wp2;exact⟨⟨m+1+1,by omega,rfl,W,A⟩,by simp[intOf];omega⟩
          ·have e1:(zp==0)=iV:=by simp[h]
           have e2:(z !=0)=iV:=by simp[B]
           have L:ah (bp (rs.map aw)=iF):=yU N.o (FZ (b:=aw (x,y,Y (X ⟨gl,lo,O⟩) ls.length c,ls)) F (M8 HT.o HP.o h B));clear E h B;go_wp2_with fail;refine(uF z t _).mono ?_;rintro e l ⟨rfl,a⟩;rw[n];have A:=af (s.o.trans (a.mono s.o.size));have M:=af (q.o.trans (a.mono q.o.size));obtain⟨q1,C⟩:=P.o l a;obtain⟨p1,-⟩:=C.two HT.o;obtain⟨p2,-⟩:=C.two HP.o;simp only at p1 p2;clear a C;go_wp2;go_ret;exact⟨by rw[L.o];rfl,M.o⟩
         ·have W:=E (Or.inl h);have e1:(zp==0)=iF:=by simpa using h
          clear E h;go_wp2_with fail;refine(uF z t _).mono ?_;rintro e l ⟨rfl,a⟩;rw[n];have A:=af (s.o.trans (a.mono s.o.size));have M:=af (q.o.trans (a.mono q.o.size));obtain⟨q1,C⟩:=P.o l a;obtain⟨p1,-⟩:=C.two HT.o;obtain⟨p2,-⟩:=C.two HP.o;simp only at p1 p2;clear a C;go_wp2;exact⟨⟨m+1+1,by omega,rfl,W,A⟩,by simp[intOf];omega⟩
      ·have ap:j=ls.length:=by omega
       have al:ah (∀r∈rs.take (k+1),dw (aw r)=iV):=by
        show∀r∈rs.take (k+1),dw (aw r)=iV;intro r p;rw[aD.o]at p;rcases bJ.1 p with p|p
        ·exact HN.o r p
        ·rw[bU]at p;subst p;exact MX (b:=(x,y,ls)) aA.o HY.o (λi hi=>HJ.o i (by rw[ap];exact hi))
       have aE:=af ((HW.o.trans (Q.o.mono HW.o.size)).trans (s.o.mono (bV HW.o.size Q.o.size)));clear ap;go_wp2;go_roundw
       case rel=>exact⟨k+1,by omega,by go_num,al,aE⟩
       case measure=>simp[intOf];omega
    ·have L:ah (bp (rs.map aw)=iF):=yU N.o (Wu hy);have K:decide (0<=y/\y<=1000000000)=iF:=aV hy;clear hy;go_wp2_with fail;refine(ij y 0 1000000000 _).mono ?_;rintro e l ⟨rfl,rfl⟩;rw[K];clear K;go_wp2;go_ret;exact⟨by rw[L.o];rfl,D.o⟩
   ·have au:((ls.length:Int) !=4)=iV:=by simp;omega
    have L:ah (bp (rs.map aw)=iF):=yU N.o (QA S);go_wp2;go_ret;exact⟨by rw[L.o];rfl,D.o⟩
  ·have aq:k=rs.length:=by omega
   have hn:=HN.o;rw[aq,ci (am _)]at hn;have L:ah (bp (rs.map aw)=decide (3<=(rs.length:Int)/\(rs.length:Int)<=10)):=by
    show _=_;rw[Kz (λb hb=>by obtain⟨r,p,rfl⟩:=bZ.1 hb;exact hn r p)]
    congr 1;apply propext;rw[bm];omega
   clear hn aq;go_wp2_with fail;refine(ij (rs.length:Int) 3 10 _).mono ?_;rintro e l ⟨rfl,rfl⟩;rw[<-L.o];clear L;go_wp2;go_ret;exact⟨rfl,V.o⟩
theorem MZ{w w':iW}{hi:Nat}{v u:iX}{xs:List iX}(c:w.ownsRow B 81 3 v n xs)(a:w.grownBy w' v.ownBlock)(h:kh w B hi u ls):kh w' B hi u ls:=by
 refine⟨h.1.kept a ?_,h.2⟩;cases b:v.ownBlock with
 |none=>
  cases d:u.ownBlock with
  |none=>exact Or.inl rfl
  |some g=>exact Or.inr (by simp)
 |some g=>exact Or.inr (Ei c h.1 g b)
theorem fk.snoc {w w':iW} {v m:iX} {d:List Rw} {r:Rw} (h:fk w B w.heap.size v d) (j:w.grownBy w' v.ownBlock)
 (l:w'.ownsRow B 81 3 m (d.length+1) (gH (d.map gt)++[iB r.1,I J r.2.1,r.2.2.1])) (k:w.ownsRow B' 83 2 r.2.2.1 r.2.2.2.length (fT r.2.2.2)) (o:B<=B')
 (f:∀q∈d,∀g,q.2.2.1.ownBlock=X g->g<B'):fk w' B w'.heap.size m (d++[r]):=by
 have hs:=j.size;refine⟨?_,λg c=>(iM l g c).2,λq c=>?_,?_⟩
 ·rw[gV,aI,abZ];exact l
 ·rcases bJ.1 c with c|c
  ·exact(MZ h.1 j (h.2.2.1 q c)).up hs
  ·rw[bU]at c;subst c;exact(MZ h.1 j ⟨vM k o,λg c=>(iM k g c).2⟩).up hs
 ·rw[gV,iE];refine⟨h.2.2.2,by simp,λa p b i=>?_⟩
  obtain⟨q,c,rfl⟩:=bZ.1 p;simp at i;subst i;cases n:q.2.2.1.ownBlock with
  |none=>exact Or.inl rfl
  |some g=>
   refine Or.inr (λe=>?_)
   have s:=f q c g n;have t:=(iM k g e.symm).1;omega
theorem fk.cellb{w:iW}{v:iX}{rs:List Rw}(h:fk w B w.heap.size v rs)(a:g<B)(i:Nat)(u:iX):fk (w.setCell ⟨g,i,O⟩ u) B (w.setCell ⟨g,i,O⟩ u).heap.size v rs:=by
 have:=h.kept (w':=w.setCell ⟨g,i,O⟩ u) (λk h1 _=>aO _ _ _ _ (by show k≠g;omega))
 simpa[World.setCell]using this
theorem Th(w:iW):(w.alloc (iC #[] 83)).ownsRow w.heap.size 83 2 (Y (X ⟨w.heap.size,0,O⟩) 0 0) 0 (fT []):=
 ⟨rfl,.inr ⟨w.heap.size,0,#[],rfl,am _,aB w _,am _,by unfold maxLen;omega,rfl,rfl⟩⟩
theorem UM (w:iW) {o:Oper} {Q:Exit->Act->iW->Prop} (q:o.guard=O) (s x:Operand)
 (e:o.op=Op.call {callee:=Callee.builtin Builtin.append,args:= #[s,x],argTypes:= #[79,79]}) (g:Nat) (hs:a.eval s=Y (X ⟨g,0,O⟩) 0 0)
 (b:w.ownsRow g 83 2 (Y (X ⟨g,0,O⟩) 0 0) 0 (fT [])) (i:Option Addr) (c:Nat) (ls:List (Int×ByteArray)) (r:a.eval x=Y i ls.length c) (C:ls.length<=1048576)
 (d:ju w (Y i ls.length c) ls)
 (p:∀h w',w'.ownsRow g 83 2 h ls.length (fT ls)->w.grownBy w' (X g)->wpList Tryz.prog ops Q rest (a.put o.dst h) w'):wpList Tryz.prog ops Q (o::rest) a w:=by
 obtain⟨t,hi,m,f,n⟩:=bO Cc;have y:=(iM b g rfl).2;by_cases h0:ls.length=0
 ·have l:ls=[]:=iJ h0;subst l;refine IA w q s x _ e g _ t 2 Tryz.underlying79 hi f g 0 0 [] hs b i 0 c [] r rfl ?_ (by simp) (by simp) (am _) (λw' h1 k=>p _ w' h1 k)
  exact λA=>⟨rfl,d.none0 A⟩
 ·obtain⟨v,B,rfl⟩:=d.head (by omega)
  refine cS w q s x _ e g _ t (iA #[I J 0,iT ⟨#[]⟩]) 2 24 Tryz.underlying79 hi m f n rfl (by decide) _ 0 [] hs b ⟨v,B,O⟩ ls.length c (fT ls) r (Ha ls) (λj u z=>by rw[Sy];exact d.cells j u z) (abW ls) (by unfold maxLen;omega) (by omega) (by omega) ?_
  intro h w' h1 k _;rw[eC]at h1;exact p h w' h1 k
theorem UP(w:iW)(cs:Array iX)(t:TypeId)(g:Nat)(a:w.heap.size=g):∀(j:Nat) (u:iX),cs.toList[j]?=X u->(w.alloc (iC cs t)).cell? ((⟨g,0,O⟩:Addr).add j)=X u:=by
 intro j u b;subst a;rw[fh,aj _ _ j _ _ _ (aB w (iC cs t))]
 simpa using b
theorem Q6(x:Bool)(y:Int)(a:Option Addr)(n c:Nat):∀u∈ [iB x,I J y,Y a n c],u.oneCell'=iV:=by
 intro u b;simp at b;rcases b with h|h|h<;>subst h<;>rfl
def oT(w wr:iW)(b a:iX)(d:List Rw):Prop:=
 wr.heap[w.heap.size]?=X (iC #[b] 26 (0,0))/\wr.heap[w.heap.size+1]?=X (iC #[Y O 0 0] 26 (0,0))/\wr.heap[w.heap.size+1+1]?=X (iC #[a] 26 (0,0))/\
  fk wr (w.heap.size+3) wr.heap.size a d/\iL w.heap.size w wr
theorem ab1(w:iW)(a:iX):oT w (((w.alloc (iC #[a] 26)).alloc (iC #[Y O 0 0] 26)).alloc (iC #[Y O 0 0] 26)) a (Y O 0 0) []:=by
 refine⟨?_,?_,?_,⟨⟨rfl,.inl ⟨rfl,rfl⟩⟩,λg b=>(by cases b),λr c=>(by cases c),List.Pairwise.nil⟩,((aZ).alloc (by simp) _).alloc (by simp;omega) _⟩
 ·rw[gn _ _ _ (by simp;omega),gn _ _ _ (by simp)]
  exact aB w _
 ·rw[gn _ _ _ (by simp)]
  have:=aB (w.alloc (iC #[a] 26)) (iC #[Y O 0 0] 26);rw[show(w.alloc (iC #[a] 26)).heap.size=w.heap.size+1 by simp]at this
  exact this
 ·have:=aB ((w.alloc (iC #[a] 26)).alloc (iC #[Y O 0 0] 26)) (iC #[Y O 0 0] 26);rw[show((w.alloc (iC #[a] 26)).alloc (iC #[Y O 0 0] 26)).heap.size=w.heap.size+1+1 by simp]at this
  exact this
theorem oT.below{w wr w':iW}{b c:iX}{d:List Rw}(h:oT w wr b c d)(a:iL wr.heap.size wr w'):oT w w' b c d:=by
 obtain⟨h1,g,e,h4,f⟩:=h;have i:=(aK.1 e).1;exact⟨(a.block _ (by omega)).trans h1,(a.block _ (by omega)).trans g,(a.block _ (by omega)).trans e,(h4.below a (am _)).up a.size,f.trans (a.mono f.size)⟩
theorem oT.snoc {w wr w':iW} {j f a:iX} {d:List Rw} {r:Rw} (h:oT w wr j f d) (l:wr.grownBy w' f.ownBlock)
 (x:w'.ownsRow (w.heap.size+3) 81 3 a (d.length+1) (gH (d.map gt)++[iB r.1,I J r.2.1,r.2.2.1])) (v:wr.ownsRow B' 83 2 r.2.2.1 r.2.2.2.length (fT r.2.2.2)) (s:w.heap.size+3<=B')
 (b:∀q∈d,∀g,q.2.2.1.ownBlock=X g->g<B'):oT w (w'.setCell ⟨w.heap.size+1+1,0,O⟩ a) j a (d++[r]):=by
 obtain⟨h1,o,m,h4,n⟩:=h;have y:=(aK.1 m).1;have c:∀i,i<w.heap.size+3->X i≠f.ownBlock:=λi hi e=>by
  have:=(iM h4.1 i e.symm).1;omega
 have t:=h4.snoc l x v s b;refine⟨cX ((l.block _ (by omega) (c _ (by omega))).trans h1) (by omega) _ _,cX ((l.block _ (by omega) (c _ (by omega))).trans o) (by omega) _ _,dz ((l.block _ (by omega) (c _ (by omega))).trans m) 0 a,t.cellb (by omega) 0 a,?_⟩
 exact(n.trans ((ax w.heap.size wr).grown l n.size (λk u=>by have:=(iM h4.1 k u).1;omega))).setCell (p:=⟨w.heap.size+1+1,0,O⟩) (by show _<=_+1+1;omega) _
theorem Di(v:iX)(rs:List Rw)(w:iW)(hl:rs.length<=1048576)(N:∀r∈rs,r.2.2.2.length<=1048576)(ha:eB w v rs):
 iK Tryz.prog 138 #[iA #[v]] w λe w'=>∃u,e=G (iA #[u])/\dp w' w.heap.size u (rs.map aw)/\iL w.heap.size w w':=by
 obtain⟨i0,ao,ar,au,av⟩:=bO FQ;have an:=ha;obtain⟨ad,h,rfl,-,-⟩:=an;have ab:=af N;have W:=af ha;clear ha N;have ae:=af (ab1 w (Y ad rs.length h));go_enter Tryz.func138,Tryz.ntmps138;go_wp2;go_loopw [4] (λiv wr=>∃(k:Nat) (D:iX) (d:List Rw),k<=rs.length/\iv=I J k/\ah (d.length=k)/\ah (d.map aw=(rs.take k).map aw)/\ah (oT w wr (Y ad rs.length h) D d)) (λiv _=>rs.length-(intOf iv).toNat)
 case atStart=>exact⟨0,_,[],aJ _,rfl,rfl,rfl,ae⟩
 case round=>
  obtain⟨k,D,d,hk,rfl,HD,HT,HS⟩:=hrel;obtain⟨s1,U,V,s4,s5⟩:=HS.o;have HB:=af s5;have aO:=s5.size;have l3:=(aK.1 V).1;have aH:wr.cell? ⟨w.heap.size,0,O⟩=X (Y ad rs.length h):=aj _ _ 0 _ _ _ s1;have aE:wr.cell? ⟨w.heap.size+1,0,O⟩=X (Y O 0 0):=aj _ _ 0 _ _ _ U;have m:wr.cell? ⟨w.heap.size+1+1,0,O⟩=X D:=aj _ _ 0 _ _ _ V;have aD:=aF _ _ 0 _ _ U;have aC:=aF _ _ 0 _ _ V;obtain⟨R,c,rfl,-,-,-⟩:=lM s4.1;have HF:=af s4;have S2:=af U;clear s1 U V s4 s5;by_cases aN:(k:Int)<rs.length
  ·have L:k<rs.length:=by omega
   have T:rs[k]?=X rs[k]:=ay L;have C:rs.take (k+1)=rs.take k++[rs[k]]:=ft L;generalize rs[k]=r at T C;have l:=aL T;have Q:=ab.o r l;obtain⟨g,eg,⟨c1,c2,c3⟩,j⟩:=(W.o.below HB.o).at T;subst eg;obtain⟨x,y,u,ls⟩:=r;simp only at c1 c2 c3;simp only at j Q;have M:=j;obtain⟨n,b,rfl,-,-⟩:=M;have k0:(0:Int)<=k:=by omega
   have ak:=af C;have A:=(ax wr.heap.size wr).alloc (am _) (iC #[iB x,I J y,Y n ls.length b] 81);have B:=A.alloc A.size (iC #[] 83);have OS:=af (j.below B);have o1:=Th (wr.alloc (iC #[iB x,I J y,Y n ls.length b] 81));rw[show(wr.alloc (iC #[iB x,I J y,Y n ls.length b] 81)).heap.size=wr.heap.size+1 by simp]at o1
   have O1:=af o1;have E:=af B;have r1:=(gn (wr.alloc (iC #[iB x,I J y,Y n ls.length b] 81)) (iC #[] 83) wr.heap.size (by simp)).trans (aB wr (iC #[iB x,I J y,Y n ls.length b] 81))
   have R1:=af r1;have F:=af (show((wr.alloc (iC #[iB x,I J y,Y n ls.length b] 81)).alloc (iC #[] 83)).heap.size=wr.heap.size+1+1 by simp)
   clear T C l j A B o1 r1;go_wp2_with (at_builtin;refine UM _ rfl _ _ rfl (wr.heap.size+1) rfl O1.o n b ls rfl Q OS.o ?_);intro v' s o3 g3;have z3:=g3.size;rw[F.o]at z3;have S:=(g3.block wr.heap.size (by rw[F.o];omega) (by simp)).trans R1.o
   have b3:=E.o.grown g3 E.o.size (λi hi2=>by cases hi2;omega)
   obtain⟨f,a,rfl,-,-,-⟩:=lM o3;have e0:s.cell? ⟨wr.heap.size,0,O⟩=X (iB x):=aj _ _ 0 _ _ _ S;have e1:s.cell? ⟨wr.heap.size,1,O⟩=X (I J y):=aj _ _ 1 _ _ _ S;have e2:s.cell? ⟨wr.heap.size,2,O⟩=X (Y n ls.length b):=aj _ _ 2 _ _ _ S;have f2:=aF _ _ 2 _ _ S;have ap:s.cell? ⟨w.heap.size+1+1,0,O⟩=X (Y R d.length c):=(b3.cell (show w.heap.size+1+1<wr.heap.size from l3)).trans m;have b5:=(b3.setCell (p:=⟨wr.heap.size,2,O⟩) (am _) (Y f ls.length a)).alloc (by simp[World.setCell];omega) (iC #[iB x,I J y,Y f ls.length a] 81)
   have t:=af (HS.o.below b5);have o5:=(JH (vM o3 (am _)) (show wr.heap.size<wr.heap.size+1 by omega) 2 (Y f ls.length a)).alloc (iC #[iB x,I J y,Y f ls.length a] 81)
   have O5:=af o5;have ac:=af (UP (s.setCell ⟨wr.heap.size,2,O⟩ (Y f ls.length a)) #[iB x,I J y,Y f ls.length a] 81 s.heap.size (by simp[World.setCell]))
   have al:=af (show w.heap.size+3<=((s.setCell ⟨wr.heap.size,2,O⟩ (Y f ls.length a)).alloc (iC #[iB x,I J y,Y f ls.length a] 81)).heap.size by simp[World.setCell];omega)
   have aM:d.length<=1048576:=by have:=HD.o;omega
   clear S o3 g3 b3 b5 o5 m;go_wp2_with (at_builtin;refine cS _ rfl _ _ 24 rfl (w.heap.size+3) 81 i0 (iA #[iB iF,I J 0,Y O 0 0]) 3 40 Tryz.underlying24 ao ar au av rfl (by decide) _ d.length (gH (d.map gt)) rfl t.o.2.2.2.1.1 ⟨s.heap.size,0,O⟩ 1 1 [iB x,I J y,Y f ls.length a] rfl rfl ac.o (Q6 _ _ _ _ _) (by unfold maxLen;omega) (by omega) al.o ?_)
   intro aG w6 o6 g6 _;have H:∀q∈d,∀g,q.2.2.1.ownBlock=X g->g<wr.heap.size+1:=λq hq g aq=>by
    have:=(HF.o.2.2.1 q hq).2 g aq;omega
   have c7:=oT.snoc (r:=(x,y,Y f ls.length a,ls)) t.o g6 o6 O5.o (by omega) H
   have z:=t.o;obtain⟨-,-,t3,t4,-⟩:=z;have P:X (w.heap.size+1+1)≠(Y R d.length c).ownBlock:=λe=>by
    have:=(iM t4.1 _ e.symm).1;omega
   have t6:=(g6.block _ ((aK.1 t3).1) P).trans t3;have x6:w6.cell? ⟨w.heap.size+1+1,0,O⟩=X (Y R d.length c):=aj _ _ 0 _ _ _ t6;have y6:=aF _ _ 0 _ _ t6;obtain⟨aP,aA,rfl,-,-,-⟩:=lM o6;have C7:=af c7;have Z:ah ((d++[((x,y,Y f ls.length a,ls):Rw)]).length=k+1):=by show _=_;rw[aI,HD.o];rfl
   have ai:ah ((d++[((x,y,Y f ls.length a,ls):Rw)]).map aw=(rs.take (k+1)).map aw):=by show _=_;rw[gV,HT.o,ak.o,gV];rfl
   clear c7 t3 t4 t6 g6 o6 P H;go_wp2;go_roundw
   case rel=>exact⟨k+1,_,_,by omega,by go_num,Z,ai,C7⟩
   case measure=>simp[intOf];omega
  ·have K:k=rs.length:=by omega
   have ht:=HT.o;rw[K,ci (am _)]at ht;have ag:=af ht;have Q2:=af (dz S2.o 0 (Y R d.length c));have aa:=af (HF.o.cellb (show w.heap.size+1<w.heap.size+3 by omega) 0 (Y R d.length c))
   clear K ht;go_wp2;exact az (vY rfl _ _ (w.heap.size+1) 26 _ (0,0) _ rfl Q2.o Tryz.underlying26 rfl Ke) rfl ⟨_,rfl,⟨d,ag.o,aa.o.down (show w.heap.size<=w.heap.size+3 by omega)⟩,HB.o.setCell (p:=⟨w.heap.size+1,0,O⟩) (by show _<=_+1;omega) _⟩
theorem kF {p q:Tmp} (h:fn.results= #[.cell p 26,.tmp q]) (a:Array iX) (w:iW) (g:Nat) (v:iX)
 (e:a.getD p undef=iP (X ⟨g,0,O⟩)) (c:w.heap[g]?=X (iC #[v] 26 (0,0))):
 (results fn a).run Tryz.prog w=.ok (iU #[iA #[v],a.getD q undef]) w:=by
 have b:a[p]?.getD undef=iP (X ⟨g,0,O⟩):=by simpa using e
 have d:=lL (P:=Tryz.prog) w g 26 26 #[v] (0,0) _ c Tryz.underlying26 rfl Ke;simp[results,h,b,asAddr,d]
theorem It(a:List Rw)(k:Nat)(r:Rw)(f:Bk->Bk)(h:a[k]?=X r)(b:Rw)(c:aw b=f (aw r)):(a.set k b).map aw=(a.map aw).modify k f:=by
 apply lH;intro i;rw[bh,rp,bh];by_cases hi:k=i
 ·subst hi;have:=(aC.1 h).1;rw[mq this,h];simp[c]
 ·rw[oZ hi];simp[hi]
theorem abP{w:iW}{xs:List iX}(h:w.ownsRow B 83 2 (Y (X ⟨gl,0,O⟩) n cap) m xs):∀i cs,w.heap[i]?=X (iC cs 26 (0,0))->i≠gl:=by
 intro i cs hi e;subst e;rcases h.2 with⟨h1,-⟩|⟨g,cap,b,h1,-,a,-⟩
 ·cases h1
 ·injection h1 with a1
  simp at a1;subst a1;rw[hi]at a;simp at a
theorem dp.put{w:iW}{s:Option Addr}{d:Nat}{b:Bk}(h:dp w B (Y s n d) bs)(v:bs[k]?=X b)(p:j<b.2.2.length):
 ∃f gl c,s=X ⟨f,0,O⟩/\w.cell? ⟨f,k*3+2,O⟩=X (Y (X ⟨gl,0,O⟩) b.2.2.length c)/\(∃x,w.cell? ⟨gl,j*2,O⟩=X x)/\(∃x,w.cell? ⟨gl,j*2+1,O⟩=X x)/\
  w.frozen? ⟨gl,j*2,O⟩=iF/\w.frozen? ⟨gl,j*2+1,O⟩=iF/\B<=gl/\B<=f/\(∀i cs,w.heap[i]?=X (iC cs 26 (0,0))->i≠gl)/\
  ∀(z:Int) (t:ByteArray),dp ((w.setCell ⟨gl,j*2,O⟩ (I J z)).setCell ⟨gl,j*2+1,O⟩ (iT t)) B (Y s n d) (bs.modify k (λr=>(r.1,r.2.1,r.2.2.set j (z,t)))):=by
 obtain⟨E,rfl,hs⟩:=h;rw[bh]at v;obtain⟨r,g,rfl⟩:=sk.1 v;obtain⟨N,q,e,-,-,M⟩:=lM hs.1;injection e with e1 e2 e3
 subst e1 e2 e3;have K:=(aC.1 g).1;obtain⟨f,rfl,o,-⟩:=M (by omega)
 obtain⟨x,y,u,ls⟩:=r;have a:=hs.2.2.1 _ (aL g);simp only[aw]at p a⊢;obtain⟨P,c,rfl,-,-,L⟩:=lM a.1;obtain⟨gl,rfl,m,-⟩:=L (by omega)
 obtain⟨-,-,c3⟩:=Cr (k:=k) (t:=gt (x,y,Y (X ⟨gl,0,O⟩) ls.length c,ls)) hs.1 (by rw[bh,g];rfl)
 obtain⟨l,C⟩:∃l,ls[j]?=X l:=⟨ls[j],ay p⟩;obtain⟨F,G⟩:=Ga a.1 C;refine⟨f,gl,c,rfl,c3,⟨_,F⟩,⟨_,G⟩,a.1.frozenAt _,a.1.frozenAt _,m,o,abP a.1,λz t=>⟨E.set k (x,y,Y (X ⟨gl,0,O⟩) ls.length c,ls.set j (z,t)),It E k _ _ g _ rfl,?_⟩⟩
 have g1:=mB w gl (j*2) (I J z);have g2:=mB (w.setCell ⟨gl,j*2,O⟩ (I J z)) gl (j*2+1) (iT t);have H:w.grownBy ((w.setCell ⟨gl,j*2,O⟩ (I J z)).setCell ⟨gl,j*2+1,O⟩ (iT t)) (X gl):=
  ⟨g2.os.trans g1.os,g2.tape.trans g1.tape,g2.output.trans g1.output,bV g1.size g2.size,λi hi A=>(g2.block i (eW hi g1.size) A).trans (g1.block i hi A)⟩
 have D:=sW (sW a.1 rfl (j*2) (I J z)) rfl (j*2+1) (iT t);rw[(LS ls j l C).1 z,(LS (ls.set j (z,l.2)) j (z,l.2) (by rw[mq p])).2 t,xX]at D
 have:=hs.leaves (k:=k) (ls':=ls.set j (z,t)) g H ⟨by rw[gK];exact D,a.2⟩
 simpa[World.setCell]using this
theorem VL{b leaf:Int}(a:bp bs=iV)(h:jb bs b leaf t=iV):∃(k j:Nat) (r:Bk),b=k/\leaf=j/\bs[k]?=X r/\j<4/\r.2.2.length=4:=by
 unfold jb at h;cases c:bs[b.toNat]? with
 |none=>rw[c]at h;cases h
 |some r=>
  rw[c]at h;have h:=ri h;refine⟨b.toNat,br r.2.2,r,by omega,h.2.2.2.1,c,by omega,?_⟩
  simp only[bp,bu,gY]at a;have d:=a.2 r (aL c);simp only[dw,bu,bM]at d;exact d.1.1
theorem aaU(v:iX)(rs:List Rw)(b leaf:Int)(t:ByteArray)(w:iW)(hl:rs.length<=1048576)(U:∀r∈rs,r.2.2.2.length<=1048576)(ha:eB w v rs):
 iK Tryz.prog 215 #[iA #[v],I J b,I J leaf,iT t] w λe w'=>∃u,e=G (iU #[iA #[u],iB (gI (rs.map aw) b leaf t).2])/\dp w' w.heap.size u (gI (rs.map aw) b leaf t).1/\iL w.heap.size w w':=by
 have x:=af U;have h1:=ha;obtain⟨s,c,rfl,-,-⟩:=h1;have z:=((ax w.heap.size w).alloc (am _) (iC #[Y s rs.length c] 26)).alloc (by simp) (iC #[Y O 0 0] 26)
 have ac:=af z;have HA:=af (ha.below z);have r0:=(gn (w.alloc (iC #[Y s rs.length c] 26)) (iC #[Y O 0 0] 26) w.heap.size (by simp)).trans (aB w (iC #[Y s rs.length c] 26))
 have r1:=aB (w.alloc (iC #[Y s rs.length c] 26)) (iC #[Y O 0 0] 26);rw[show(w.alloc (iC #[Y s rs.length c] 26)).heap.size=w.heap.size+1 by simp]at r1
 have R0:=af r0;have R1:=af r1;have HZ:=af (show((w.alloc (iC #[Y s rs.length c] 26)).alloc (iC #[Y O 0 0] 26)).heap.size=w.heap.size+2 by simp)
 clear ha U z r0 r1;go_enter Tryz.func215,Tryz.ntmps215;go_wp2_with fail;refine(Di _ rs _ hl x.o HA.o).mono ?_;rintro e h ⟨u,rfl,T,y⟩;obtain⟨f,a,rfl⟩:=T.form;rw[bm]at T;rw[bm];have z1:=y.size;have aa:=af (HA.o.below y);rw[HZ.o]at T y z1;have q0:=(y.block _ (by omega)).trans R0.o
 have q1:=(y.block _ (by omega)).trans R1.o
 have B:=(ax h.heap.size h).alloc (am _) (iC #[Y f rs.length a] 26);have q2:=aB h (iC #[Y f rs.length a] 26);have p0:=(B.block _ (by omega)).trans q0
 have p1:=(B.block _ (by omega)).trans q1
 have ad:=af ((ac.o.trans (y.mono (by omega))).trans (B.mono (by omega)))
 have ae:=af (T.below B);have E:=af (aa.o.below B);have P0:=af p0;have P1:=af p1;have P2:=af q2;have Q:=af (show(h.alloc (iC #[Y f rs.length a] 26)).heap.size=h.heap.size+1 by simp)
 have k0:(h.alloc (iC #[Y f rs.length a] 26)).cell? ⟨w.heap.size,0,O⟩=X (Y s rs.length c):=aj _ _ 0 _ _ _ p0;clear p0 p1 q0 q1 q2 y B T;go_wp2_with fail;refine(wY _ rs _ hl x.o E.o).mono ?_;rintro e w3 ⟨rfl,i⟩;have z3:=i.size;have ab:=af (E.o.below i);rw[Q.o]at i z3;have t0:=(i.block _ (by omega)).trans P0.o
 have m:=(i.block _ (by omega)).trans P1.o
 have A:=(i.block _ (by omega)).trans P2.o
 have F:=af (ad.o.trans (i.mono (by omega)))
 have K:=af (ae.o.below (by rw[Q.o];exact i))
 have m0:w3.cell? ⟨w.heap.size,0,O⟩=X (Y s rs.length c):=aj _ _ 0 _ _ _ t0;have m1:w3.cell? ⟨w.heap.size+1,0,O⟩=X (Y O 0 0):=aj _ _ 0 _ _ _ m;have m2:w3.cell? ⟨h.heap.size,0,O⟩=X (Y f rs.length a):=aj _ _ 0 _ _ _ A;have f1:=aF _ _ 0 _ _ m;have T1:=af m;have T2:=af A;clear t0 A m i k0;cases l:bp (rs.map aw)with
 |false=>
  have n:ah (gI (rs.map aw) b leaf t=(rs.map aw,iF)):=by show _=_;simp[gI,l]
  have D:=af (K.o.cell (show w.heap.size+1<w.heap.size+2 by omega) 0 (Y f rs.length a))
  have R:=af (dz T1.o 0 (Y f rs.length a));have g:=af (F.o.setCell (p:=⟨w.heap.size+1,0,O⟩) (by show _<=_+1;omega) (Y f rs.length a))
  clear l;go_wp2;exact az (kF rfl _ _ (w.heap.size+1) _ rfl R.o) rfl ⟨_,by rw[n.o];rfl,by rw[n.o];exact D.o.down (by omega),g.o⟩
 |true=>
  have M:=af l;clear l;go_wp2_with fail;refine(Zs _ rs b leaf t _ hl x.o ab.o).mono ?_;rintro e w4 ⟨rfl,C⟩;have z4:=C.size;have m:=(C.block _ (by omega)).trans T1.o
  have A:=(C.block _ (by omega)).trans T2.o
  have H:=af (F.o.trans (C.mono (by omega)))
  have L:=af (K.o.below C);have n1:w4.cell? ⟨w.heap.size+1,0,O⟩=X (Y O 0 0):=aj _ _ 0 _ _ _ m;have n2:w4.cell? ⟨h.heap.size,0,O⟩=X (Y f rs.length a):=aj _ _ 0 _ _ _ A;have o1:=aF _ _ 0 _ _ m;have S:=af m;have Z:=af A;clear m0 m1 m2 f1 m A C;cases V:jb (rs.map aw) b leaf t with
  |false=>
   have n:ah (gI (rs.map aw) b leaf t=(rs.map aw,iF)):=by show _=_;simp[gI,V]
   have D:=af (L.o.cell (show w.heap.size+1<w.heap.size+2 by omega) 0 (Y f rs.length a))
   have R:=af (dz S.o 0 (Y f rs.length a));have g:=af (H.o.setCell (p:=⟨w.heap.size+1,0,O⟩) (by show _<=_+1;omega) (Y f rs.length a))
   clear V;go_wp2;exact az (kF rfl _ _ (w.heap.size+1) _ rfl R.o) rfl ⟨_,by rw[n.o];rfl,by rw[n.o];exact D.o.down (by omega),g.o⟩
  |true=>
   have N:ah (gI (rs.map aw) b leaf t=(jZ (rs.map aw) b.toNat leaf.toNat t,iV)):=by show _=_;simp[gI,V,M.o]
   obtain⟨k,j,r,rfl,rfl,hr,ap,W⟩:=VL M.o V;obtain⟨gu,gl,al,rfl,c3,⟨x1,d1⟩,⟨x2,d2⟩,f1,f2,an,ao,d,q⟩:=L.o.put (j:=j) hr (by omega)
   rw[W]at c3;have ag:=(aC.1 hr).1;rw[bm]at ag;have aq:(k:Int)<rs.length:=by omega
   have k0:(0:Int)<=k:=by omega
   have j0:(0:Int)<=j:=by omega
   have j4:(j:Int)<4:=by omega
   have P:=af (q 1 t);have n:ah (gI (rs.map aw) (k:Int) (j:Int) t=((rs.map aw).modify k (λr=>(r.1,r.2.1,r.2.2.set j (1,t))),iV)):=by show _=_;rw[N.o];rfl
   have v1:=cX (cX S.o (d _ _ S.o) (j*2) (I J 1)) (d _ _ S.o) (j*2+1) (iT t);have v2:=cX (cX Z.o (d _ _ Z.o) (j*2) (I J 1)) (d _ _ Z.o) (j*2+1) (iT t);have x5:((w4.setCell ⟨gl,j*2,O⟩ (I J 1)).setCell ⟨gl,j*2+1,O⟩ (iT t)).cell? ⟨w.heap.size+1,0,O⟩=X (Y O 0 0):=aj _ _ 0 _ _ _ v1;have y5:((w4.setCell ⟨gl,j*2,O⟩ (I J 1)).setCell ⟨gl,j*2+1,O⟩ (iT t)).cell? ⟨h.heap.size,0,O⟩=X (Y (X ⟨gu,0,O⟩) rs.length a):=aj _ _ 0 _ _ _ v2;have ai:h.heap.size≠gl:=d _ _ Z.o;have ak:w.heap.size+1≠gl:=d _ _ S.o;have D:=af (P.o.cell (show w.heap.size+1<w.heap.size+2 by omega) 0 (Y (X ⟨gu,0,O⟩) rs.length a))
   have R:=af (dz v1 0 (Y (X ⟨gu,0,O⟩) rs.length a));have g:=af (((H.o.setCell (p:=⟨gl,j*2,O⟩) (by show _<=gl;omega) (I J 1)).setCell (p:=⟨gl,j*2+1,O⟩) (by show _<=gl;omega) (iT t)).setCell (p:=⟨w.heap.size+1,0,O⟩) (by show _<=_+1;omega) (Y (X ⟨gu,0,O⟩) rs.length a))
   clear q V hr W N d v1 v2;go_wp2;exact az (kF rfl _ _ (w.heap.size+1) _ rfl R.o) rfl ⟨_,by rw[n.o];rfl,by rw[n.o];exact D.o.down (by omega),g.o⟩
theorem WF{w:iW}{xs:List iX}(h:w.ownsRow B 81 3 (Y (X ⟨gl,0,O⟩) n cap) m xs):∀i cs,w.heap[i]?=X (iC cs 26 (0,0))->i≠gl:=by
 intro i cs hi e;subst e;rcases h.2 with⟨h1,-⟩|⟨g,cap,b,h1,-,a,-⟩
 ·cases h1
 ·injection h1 with a1
  simp at a1;subst a1;rw[hi]at a;simp at a
theorem TR{l:List iX}{v:iX}{H:Nat}(h:l.Pairwise (λa b=>a.ownBlock=O∨a.ownBlock≠b.ownBlock))(m:∀a∈l,∀g,a.ownBlock=X g->g<H)(n:∀g,v.ownBlock=X g->H<=g):
 (l.set k v).Pairwise (λa b=>a.ownBlock=O∨a.ownBlock≠b.ownBlock):=by
 rw[pP]at h⊢;intro i j hi r d;have hi2:i<l.length:=by simpa using hi
 have c:j<l.length:=by simpa using r
 rw[List.getElem_set,List.getElem_set];by_cases h1:k=i
 ·rw[ak h1,ai (by omega)]
  cases e:v.ownBlock with
  |none=>exact Or.inl rfl
  |some g=>
   refine Or.inr (λq=>?_)
   have o:=n g e;have p:=m _ (rl c) g q.symm;omega
 ·rw[ai h1];by_cases f:k=j
  ·rw[ak f];cases e:l[i].ownBlock with
   |none=>exact Or.inl rfl
   |some g=>
    refine Or.inr (λq=>?_)
    have o:=n g q.symm;have p:=m _ (rl hi2) g e;omega
  ·rw[ai f];exact h i j hi2 c d
theorem dp.setBlock {w w':iW} {P:Option Addr} {m:Nat} {b:Bk} {v:iX} (h:dp w B (Y P n m) bs) (Q:bs[k]?=X b) (E:iL w.heap.size w w')
 (M:w'.ownsRow w.heap.size 83 2 v ls.length (fT ls)) (U:B<=w.heap.size):
 ∃c,P=X ⟨c,0,O⟩/\(w'.cell? ⟨c,k*3,O⟩=X (iB b.1)/\w'.cell? ⟨c,k*3+1,O⟩=X (I J b.2.1)/\∃x,w'.cell? ⟨c,k*3+2,O⟩=X x)/\(∀j,w'.frozen? ⟨c,j,O⟩=iF)/\B<=c/\c<w.heap.size/\
  (∀i cs,w'.heap[i]?=X (iC cs 26 (0,0))->i≠c)/\
  ∀(x:Bool) (y:Int) (f:Bk->Bk),f b=(x,y,ls)->dp (((w'.setCell ⟨c,k*3,O⟩ (iB x)).setCell ⟨c,k*3+1,O⟩ (I J y)).setCell ⟨c,k*3+2,O⟩ v) B (Y P n m) (bs.modify k f):=by
 obtain⟨u,rfl,s⟩:=h;rw[bh]at Q;obtain⟨r,A,rfl⟩:=sk.1 Q;have L:=(aC.1 A).1;obtain⟨aa,N,e,-,-,u3⟩:=lM s.1;injection e with e1 e2 e3
 subst e1 e2 e3;obtain⟨c,rfl,G,F⟩:=u3 (by omega)
 have hs:=s.below E (am _);obtain⟨c1,c2,c3⟩:=Cr (k:=k) (t:=gt r) hs.1 (by rw[bh,A];rfl)
 refine⟨c,rfl,⟨c1,c2,_,c3⟩,λj=>hs.1.frozenAt j,G,F,WF hs.1,λx y f W=>⟨u.set k (x,y,v,ls),It u k r f A _ W.symm,?_⟩⟩
 have K:(u.map gt)[k]?=X (gt r):=by rw[bh,A];rfl
 have l:k<(u.map gt).length:=by simpa using L
 have R:=sW hs.1 rfl (k*3) (iB x);have S:=sW R rfl (k*3+1) (I J y);have T:=sW S rfl (k*3+2) v;have z:∀q d,kh w' B w'.heap.size q d->kh (((w'.setCell ⟨c,k*3,O⟩ (iB x)).setCell ⟨c,k*3+1,O⟩ (I J y)).setCell ⟨c,k*3+2,O⟩ v) B w'.heap.size q d:=λq d p=>by
  have C:kh (w'.setCell ⟨c,k*3,O⟩ (iB x)) B w'.heap.size q d:=⟨p.1.kept (mB _ c _ _) (Bx hs.1 p.1),p.2⟩;have D:kh ((w'.setCell ⟨c,k*3,O⟩ (iB x)).setCell ⟨c,k*3+1,O⟩ (I J y)) B w'.heap.size q d:=⟨C.1.kept (mB _ c _ _) (Bx R C.1),C.2⟩;exact⟨D.1.kept (mB _ c _ _) (Bx S D.1),D.2⟩
 rw[(Fl (u.map gt) k (gt r) K).1 x,(Fl ((u.map gt).set k (x,(gt r).2.1,(gt r).2.2)) k (x,(gt r).2.1,(gt r).2.2) (by rw[mq l])).2.1 y,xX,
  (Fl ((u.map gt).set k (x,y,(gt r).2.2)) k (x,y,(gt r).2.2) (by rw[mq l])).2.2 v,xX]at T
 have Z:((((w'.setCell ⟨c,k*3,O⟩ (iB x)).setCell ⟨c,k*3+1,O⟩ (I J y)).setCell ⟨c,k*3+2,O⟩ v).heap.size)=w'.heap.size:=by simp[World.setCell]
 rw[Z];refine⟨?_,λg o=>eW (hs.2.1 g o) E.size,λq p=>?_,?_⟩
 ·rw[sU,gK];exact T
 ·rcases nG p with h1|h1
  ·exact z _ _ ((hs.2.2.1 q h1).up E.size)
  ·subst h1;exact z _ _ ⟨vM M U,λg o=>(iM M g o).2⟩
 ·rw[sU];refine TR (H:=w.heap.size) hs.2.2.2 (λa V g o=>?_) (λg o=>(iM M g o).1)
  obtain⟨q,p,rfl⟩:=bZ.1 V;exact(s.2.2.1 q p).2 g o
def jg:Array iX:= #[I J 0,iT ⟨#[]⟩,I J 0,iT ⟨#[]⟩,I J 0,iT ⟨#[]⟩,I J 0,iT ⟨#[]⟩]
theorem Uj:madeCells #[I J 0,iT ⟨#[]⟩] (4*2)=jg:=by
 apply sO.1;simp[madeCells];rfl
theorem FH(w:iW):(Instr.makeSlice 79 (I J 4) (I J 4)).run Tryz.prog w=.ok (Y (X ⟨w.heap.size,0,O⟩) 4 4) (w.alloc (iC jg 83)):=by
 obtain⟨f,a,b,c,d⟩:=bO Cc;have e:=run_make (P:=Tryz.prog) w 79 83 f (iA #[I J 0,iT ⟨#[]⟩]) Tryz.underlying79 a b J J 4 4 (by omega) (kI _) (by rw[d];omega) (by omega)
 rw[c]at e;rw[<-Uj];exact e
theorem Gb(w:iW):(w.alloc (iC jg 83)).ownsRow w.heap.size 83 2 (Y (X ⟨w.heap.size,0,O⟩) 4 4) eZ.length (fT eZ):=
 ⟨rfl,.inr ⟨w.heap.size,4,jg,rfl,am _,aB w _,am _,by unfold maxLen;omega,rfl,rfl⟩⟩
theorem abE{b:Int}(h:¬(0<=b/\b<=(bs.length:Int)-1)):qZ bs b=iF:=by
 unfold qZ;cases a:bs[b.toNat]? with
 |none=>rfl
 |some r=>
  have:=(aC.1 a).1;exact aV (λc=>h ⟨c.1,by omega⟩)
theorem PQ{b:Int}{r:Bk}(h0:0<=b)(a:bs[b.toNat]?=X r):qZ bs b=decide (r.1=iF/\r.2.1≠1000000000):=by
 unfold qZ;rw[a];simp[h0]
theorem Qr{b:Bk}(h:bp bs=iV)(c:b∈bs):0<=b.2.1/\b.2.1<=1000000000:=by
 simp only[bp,bu,gY]at h;have a:=h.2 b c;simp only[dw,bu,bM]at a;exact a.1.2
theorem Uu(v:iX)(rs:List Rw)(b:Int)(w:iW)(hl:rs.length<=1048576)(aa:∀r∈rs,r.2.2.2.length<=1048576)(ha:eB w v rs):
 iK Tryz.prog 216 #[iA #[v],I J b] w λe w'=>∃u,e=G (iU #[iA #[u],iB (gL (rs.map aw) b).2])/\dp w' w.heap.size u (gL (rs.map aw) b).1/\iL w.heap.size w w':=by
 obtain⟨i0,av,aE,aG,aH⟩:=bO Cc;have aC:IntKind.i64.wrap ((rs.length:Int)-1)=(rs.length:Int)-1:=by rw[cm];omega
 have S:=af aa;have h1:=ha;obtain⟨C,f,rfl,-,-⟩:=h1;have F:=((ax w.heap.size w).alloc (am _) (iC #[Y C rs.length f] 26)).alloc (by simp) (iC #[Y O 0 0] 26)
 have ad:=af F;have HA:=af (ha.below F);have r0:=(gn (w.alloc (iC #[Y C rs.length f] 26)) (iC #[Y O 0 0] 26) w.heap.size (by simp)).trans (aB w (iC #[Y C rs.length f] 26))
 have r1:=aB (w.alloc (iC #[Y C rs.length f] 26)) (iC #[Y O 0 0] 26);rw[show(w.alloc (iC #[Y C rs.length f] 26)).heap.size=w.heap.size+1 by simp]at r1
 have R0:=af r0;have R1:=af r1;have HZ:=af (show((w.alloc (iC #[Y C rs.length f] 26)).alloc (iC #[Y O 0 0] 26)).heap.size=w.heap.size+2 by simp)
 clear ha aa F r0 r1;go_enter Tryz.func216,Tryz.ntmps216;go_wp2_with fail;refine(Di _ rs _ hl S.o HA.o).mono ?_;rintro e n ⟨u,rfl,Z,E⟩;obtain⟨B,a,rfl⟩:=Z.form;rw[bm]at Z;rw[bm];have z1:=E.size;have ab:=af (HA.o.below E);rw[HZ.o]at Z E z1;have q0:=(E.block _ (by omega)).trans R0.o
 have q1:=(E.block _ (by omega)).trans R1.o
 have M:=(ax n.heap.size n).alloc (am _) (iC #[Y B rs.length a] 26);have q2:=aB n (iC #[Y B rs.length a] 26);have p0:=(M.block _ (by omega)).trans q0
 have p1:=(M.block _ (by omega)).trans q1
 have ae:=af ((ad.o.trans (E.mono (by omega))).trans (M.mono (by omega)))
 have ai:=af (Z.below M);have P:=af (ab.o.below M);have P0:=af p0;have P1:=af p1;have P2:=af q2;have V:=af (show(n.alloc (iC #[Y B rs.length a] 26)).heap.size=n.heap.size+1 by simp)
 have k0:(n.alloc (iC #[Y B rs.length a] 26)).cell? ⟨w.heap.size,0,O⟩=X (Y C rs.length f):=aj _ _ 0 _ _ _ p0;clear p0 p1 q0 q1 q2 E M Z;go_wp2_with fail;refine(wY _ rs _ hl S.o P.o).mono ?_;rintro e w3 ⟨rfl,s⟩;have z3:=s.size;have ac:=af (P.o.below s);rw[V.o]at s z3;have t0:=(s.block _ (by omega)).trans P0.o
 have t1:=(s.block _ (by omega)).trans P1.o
 have t2:=(s.block _ (by omega)).trans P2.o
 have D:=af (ae.o.trans (s.mono (by omega)))
 have R:=af (ai.o.below (by rw[V.o];exact s))
 have m0:w3.cell? ⟨w.heap.size,0,O⟩=X (Y C rs.length f):=aj _ _ 0 _ _ _ t0;have m1:w3.cell? ⟨w.heap.size+1,0,O⟩=X (Y O 0 0):=aj _ _ 0 _ _ _ t1;have m2:w3.cell? ⟨n.heap.size,0,O⟩=X (Y B rs.length a):=aj _ _ 0 _ _ _ t2;have f1:=aF _ _ 0 _ _ t1;have W:=af t1;have T2:=af t2;clear t0 t2 t1 s k0;have K:=af (R.o.cell (show w.heap.size+1<w.heap.size+2 by omega) 0 (Y B rs.length a))
 have L:=af (dz W.o 0 (Y B rs.length a));have l:=af (D.o.setCell (p:=⟨w.heap.size+1,0,O⟩) (by show _<=_+1;omega) (Y B rs.length a))
 cases z:bp (rs.map aw)with
 |false=>
  have j:ah (gL (rs.map aw) b=(rs.map aw,iF)):=by show _=_;simp[gL,z]
  clear z;go_wp2;exact az (kF rfl _ _ (w.heap.size+1) _ rfl L.o) rfl ⟨_,by rw[j.o];rfl,by rw[j.o];exact K.o.down (by omega),l.o⟩
 |true=>
  have T:=af z;clear z;go_wp2_with fail;refine(ij b 0 ((rs.length:Int)-1) _).mono ?_;rintro e c ⟨rfl,rfl⟩;by_cases N:0<=b/\b<=(rs.length:Int)-1
  ·have q:decide (0<=b/\b<=(rs.length:Int)-1)=iV:=aS N;rw[q];obtain⟨k,rfl⟩:∃k:Nat,b=k:=⟨b.toNat,by omega⟩
   have ar:k<rs.length:=by omega
   have hr:rs[k]?=X rs[k]:=ay ar;generalize rs[k]=r at hr;obtain⟨gv,eg,⟨c1,c2,-⟩,-⟩:=ac.o.at hr;subst eg;obtain⟨x,y,u,ls⟩:=r;simp only at c1 c2;have t:(rs.map aw)[k]?=X (x,y,ls):=by rw[bh,hr];rfl
   have hy:=Qr T.o (aL t);simp only at hy;have HM:=af (PQ (bs:=rs.map aw) (b:=(k:Int)) N.1 (by rw[bi];exact t))
   have aA:(k:Int)<rs.length:=by omega
   have k0:(0:Int)<=k:=by omega
   have ag:=af t;clear hr N q t;cases x with
   |true=>
    have j:ah (gL (rs.map aw) (k:Int)=(rs.map aw,iF)):=by show _=_;simp[gL,HM.o]
    go_wp2;exact az (kF rfl _ _ (w.heap.size+1) _ rfl L.o) rfl ⟨_,by rw[j.o];rfl,by rw[j.o];exact K.o.down (by omega),l.o⟩
   |false=>
    by_cases m:y=1000000000
    ·have j:ah (gL (rs.map aw) (k:Int)=(rs.map aw,iF)):=by show _=_;simp[gL,HM.o,m]
     have e9:(y==1000000000)=iV:=by simp[m]
     clear m;go_wp2;exact az (kF rfl _ _ (w.heap.size+1) _ rfl L.o) rfl ⟨_,by rw[j.o];rfl,by rw[j.o];exact K.o.down (by omega),l.o⟩
    ·have j:ah (gL (rs.map aw) (k:Int)=((rs.map aw).modify k (λr=>(iF,r.2.1+1,eZ)),iV)):=by show _=_;simp[gL,HM.o,m,T.o]
     have e9:(y==1000000000)=iF:=by simpa using m
     have aD:IntKind.i64.wrap (y+1)=y+1:=by rw[cm];omega
     clear m;have h:=(ax c.heap.size c).alloc (am _) (iC jg 83);obtain⟨d,rfl,⟨d1,d2,x3,d3⟩,fz,au,g,i,A⟩:=R.o.setBlock ag.o h (Gb c) (by omega)
     have MK:=FH;have g1:=fz (k*3);have g2:=fz (k*3+1);have g3:=fz (k*3+2);have ak:=d1;have al:=d2;have an:=d3;rw[h.cell (show d<c.heap.size from g)]at ak al an;have ao:=g1;have ap:=g2;have aq:=g3;rw[h.frozen (show d<c.heap.size from g)]at ao ap aq;have s0:w.heap.size<c.heap.size:=by omega
     have s1:n.heap.size<c.heap.size:=by omega
     have sv:gv<c.heap.size:=bk c _ c1;have n0:w.heap.size≠c.heap.size:=by omega
     have n1:n.heap.size≠c.heap.size:=by omega
     have nv:gv≠c.heap.size:=by omega
     have nu:d≠c.heap.size:=by omega
     have a0:=(h.cell (p:=⟨w.heap.size,0,O⟩) s0).trans m0;have a1:=(h.cell (p:=⟨n.heap.size,0,O⟩) s1).trans m2;have a2:=(h.cell (p:=⟨gv,k*3,O⟩) sv).trans c1;have a3:=(h.cell (p:=⟨gv,k*3+1,O⟩) sv).trans c2;have hp:=A iF (y+1) (λr=>(iF,r.2.1+1,eZ)) rfl
     have v1:=cX (cX (cX ((h.block _ (show w.heap.size+1<c.heap.size by omega)).trans W.o) (i _ _ ((h.block _ (show w.heap.size+1<c.heap.size by omega)).trans W.o)) (k*3) (iB iF)) (i _ _ ((h.block _ (show w.heap.size+1<c.heap.size by omega)).trans W.o)) (k*3+1) (I J (y+1))) (i _ _ ((h.block _ (show w.heap.size+1<c.heap.size by omega)).trans W.o)) (k*3+2) (Y (X ⟨c.heap.size,0,O⟩) 4 4)
     have v2:=cX (cX (cX ((h.block _ s1).trans T2.o) (i _ _ ((h.block _ s1).trans T2.o)) (k*3) (iB iF)) (i _ _ ((h.block _ s1).trans T2.o)) (k*3+1) (I J (y+1))) (i _ _ ((h.block _ s1).trans T2.o)) (k*3+2) (Y (X ⟨c.heap.size,0,O⟩) 4 4);have H:=(((D.o.alloc D.o.size (iC jg 83)).setCell (p:=⟨d,k*3,O⟩) (by show _<=d;omega) (iB iF)).setCell (p:=⟨d,k*3+1,O⟩) (by show _<=d;omega) (I J (y+1))).setCell (p:=⟨d,k*3+2,O⟩) (by show _<=d;omega) (Y (X ⟨c.heap.size,0,O⟩) 4 4)
     have U:ah ((((c.alloc (iC jg 83)).setCell ⟨d,k*3,O⟩ (iB iF)).setCell ⟨d,k*3+1,O⟩ (I J (y+1))).setCell ⟨d,k*3+2,O⟩ (Y (X ⟨c.heap.size,0,O⟩) 4 4)=(((c.setCell ⟨d,k*3,O⟩ (iB iF)).setCell ⟨d,k*3+1,O⟩ (I J (y+1))).setCell ⟨d,k*3+2,O⟩ (Y (X ⟨c.heap.size,0,O⟩) 4 4)).alloc (iC jg 83)):=by
      show _=_;rw[Ev _ _ _ _ g,Ev _ _ _ _ (by simpa[World.setCell]using g),Ev _ _ _ _ (by simpa[World.setCell]using g)]
     rw[U.o]at hp v1 v2 H;go_wp2_with fail;go_region;have FP:=af (show dp ((((c.setCell ⟨d,k*3,O⟩ (iB iF)).setCell ⟨d,k*3+1,O⟩ (I J (y+1))).setCell ⟨d,k*3+2,O⟩ (Y (X ⟨c.heap.size,0,O⟩) 4 4)).alloc (iC jg 83)).drew _ _ _ from hp);have V1:=af (show((((c.setCell ⟨d,k*3,O⟩ (iB iF)).setCell ⟨d,k*3+1,O⟩ (I J (y+1))).setCell ⟨d,k*3+2,O⟩ (Y (X ⟨c.heap.size,0,O⟩) 4 4)).alloc (iC jg 83)).drew.heap[w.heap.size+1]?=_ from v1);have V2:=af (show((((c.setCell ⟨d,k*3,O⟩ (iB iF)).setCell ⟨d,k*3+1,O⟩ (I J (y+1))).setCell ⟨d,k*3+2,O⟩ (Y (X ⟨c.heap.size,0,O⟩) 4 4)).alloc (iC jg 83)).drew.heap[n.heap.size]?=_ from v2);have Q:=af H.drew;clear hp v1 v2 H A i U;generalize((((c.setCell ⟨d,k*3,O⟩ (iB iF)).setCell ⟨d,k*3+1,O⟩ (I J (y+1))).setCell ⟨d,k*3+2,O⟩ (Y (X ⟨c.heap.size,0,O⟩) 4 4)).alloc (iC jg 83)).drew=w6 at FP V1 V2 Q⊢;have x5:w6.cell? ⟨w.heap.size+1,0,O⟩=X (Y O 0 0):=aj _ _ 0 _ _ _ V1.o;have y5:w6.cell? ⟨n.heap.size,0,O⟩=X (Y (X ⟨d,0,O⟩) rs.length a):=aj _ _ 0 _ _ _ V2.o;have f5:=aF _ _ 0 _ _ V1.o;have K:=af (FP.o.cell (show w.heap.size+1<w.heap.size+2 by omega) 0 (Y (X ⟨d,0,O⟩) rs.length a))
     have L:=af (dz V1.o 0 (Y (X ⟨d,0,O⟩) rs.length a));have l:=af (Q.o.setCell (p:=⟨w.heap.size+1,0,O⟩) (by show _<=_+1;omega) (Y (X ⟨d,0,O⟩) rs.length a))
     go_wp2;exact az (kF rfl _ _ (w.heap.size+1) _ rfl L.o) rfl ⟨_,by rw[j.o];rfl,by rw[j.o];exact K.o.down (by omega),l.o⟩
  ·have q:decide (0<=b/\b<=(rs.length:Int)-1)=iF:=aV N;rw[q];have j:ah (gL (rs.map aw) b=(rs.map aw,iF)):=by show _=_;simp[gL,abE (bs:=rs.map aw) (b:=b) (by rw[List.length_map];exact N)]
   clear N q;go_wp2;exact az (kF rfl _ _ (w.heap.size+1) _ rfl L.o) rfl ⟨_,by rw[j.o];rfl,by rw[j.o];exact K.o.down (by omega),l.o⟩
end Go.Proofs.YtgigcooffjjbgaaGreatDoor
