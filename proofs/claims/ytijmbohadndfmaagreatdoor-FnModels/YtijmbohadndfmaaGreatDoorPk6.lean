/-
  FOf; Fla; FMath; Rd; SNext; SIn; SMay; SLeaf; SOk; FSnoc; SCopy; FPut; SProg
-/
import Derived.Test.YtijmbohadndfmaaGreatDoorPk5
open Go.Value renaming int→I,slice→Y,string→iT,bool→iB,pointer→iP,agg→iA,tuple→iU
open Go.IntKind renaming i64→J
open Option renaming none→O,some→X
open Go.Ending renaming returned→G
open Go.Obj renaming cells→iC
open Bool renaming true→iV,false→iF
open Go renaming World→iW,Value→iX,Calls→iK
open Go.RowKit renaming Below→iL
set_option maxHeartbeats 1600000
set_option maxRecDepth 100000
namespace Go.Proofs.YtijmbohadndfmaaGreatDoor
open Go.RowKit
theorem Ew:(Tryz.prog.info? 38).map (·.size)=X 1:=by kernel_rfl
def dm(w:iW)(B:Nat)(v:iX)(bs:List Bk):Prop:=∃ss:List Rw,ss.map aC=bs/\eJ w B w.heap.size v ss
variable{a:Act}{ops:Array Oper}{t:ByteArray}{fn:Func}{b leaf:Int}{ls:List (Int × ByteArray)}{rest:List Oper}{B lo B' k n cap m size lc gl j g:Nat}{e:TypeId}
variable{bs:List Bk}
theorem dm.form{w:iW}{v:iX}(h:dm w B v bs):∃ad cap,v=Y ad bs.length cap:=by
 obtain⟨ss,rfl,hs⟩:=h;obtain⟨ad,cap,rfl,-⟩:=lN hs.1;exact⟨ad,cap,by simp⟩
theorem dm.below{w w':iW}{v:iX}(h:dm w B v bs)(a:iL w.heap.size w w'):dm w' B v bs:=by
 obtain⟨ss,e,hs⟩:=h;exact⟨ss,e,(hs.below a (ak _)).up a.size⟩
theorem eJ.down{w:iW}{a hi:Nat}{v:iX}{rs:List Rw}(h:eJ w lo hi v rs)(b:a<=lo):eJ w a hi v rs:=⟨uz h.1 b,h.2.1,λr c=>⟨uz (h.2.2.1 r c).1 b,(h.2.2.1 r c).2⟩,h.2.2.2⟩
theorem dm.down{w:iW}{v:iX}(h:dm w B v bs)(a:B'<=B):dm w B' v bs:=by
 obtain⟨ss,e,hs⟩:=h;exact⟨ss,e,hs.down a⟩
theorem dm.cell{w:iW}{B:Nat}{v:iX}{bs:List Bk}(h:dm w B v bs){g:Nat}(a:g<B)(i:Nat)(u:iX):dm (w.setCell ⟨g,i,O⟩ u) B v bs:=by
 obtain⟨ss,e,hs⟩:=h;refine⟨ss,e,?_⟩;have:=hs.kept (w':=w.setCell ⟨g,i,O⟩ u) (λk h1 _=>aU _ _ _ _ (by show k≠g;omega))
 simpa[World.setCell]using this
def cu(lo hi:Nat)(v:iX)(bs:List Bk):iW->Prop:=λW=>∃ss:List Rw,ss.map aC=bs/\eJ W lo hi v ss
theorem cu.loc(lo hi:Nat)(v:iX)(bs:List Bk):lM lo hi (cu lo hi v bs):=by
 rintro w w' a ⟨ss,e,h⟩;exact⟨ss,e,h.kept a⟩
theorem cu.form{w:iW}{hi:Nat}{v:iX}(h:cu lo hi v bs w):∃ad cap,v=Y ad bs.length cap/\(0<bs.length->∃g,ad=X ⟨g,0,O⟩/\lo<=g/\g<hi):=by
 obtain⟨ss,rfl,h⟩:=h;obtain⟨ad,cap,rfl,-,-,a⟩:=lN h.1;refine⟨ad,cap,by simp,λb=>?_⟩
 obtain⟨g,e,h4,-⟩:=a (by simpa using b)
 subst e;exact⟨g,rfl,h4,h.2.1 g rfl⟩
variable{hs:List nU}
theorem Tk.fla{w a wj:iW}{v:iX}(T:Tk w a hs)(b:iL a.heap.size a wj)(f:dm wj a.heap.size v bs):Tk w wj ((a.heap.size,wj.heap.size,cu a.heap.size wj.heap.size v bs)::hs):=T.add b (cu.loc _ _ _ _) f
theorem cu.of{w:iW}{hi:Nat}{v:iX}(h:cu lo hi v bs w)(b:hi<=w.heap.size)(a:B<=lo):dm w B v bs:=by
 obtain⟨ss,e,h⟩:=h;exact⟨ss,e,(h.up b).down a⟩
def Tx(ls:List (Int×ByteArray)):Prop:=∀t∈ls,t.2.size<=1048576
def uP(rs:List Rw):Prop:=∀r∈rs,Tx r.2.2.2
def iJ(w:iW)(u:iX)(ls:List (Int×ByteArray)):Prop:=
 ∃a lc,u=Y a ls.length lc/\(a=O->lc=0)/\∀j t,ls[j]?=X t->∃gl o,a=X ⟨gl,o,O⟩/\w.cell? ⟨gl,o+j*2,O⟩=X (I J t.1)/\w.cell? ⟨gl,o+j*2+1,O⟩=X (iT t.2)
def fO(w:iW)(v:iX)(rs:List Rw):Prop:=
 ∃b a,v=Y b rs.length a/\(b=O->a=0)/\∀k r,rs[k]?=X r->∃g,b=X ⟨g,0,O⟩/\(w.cell? ⟨g,k*3,O⟩=X (iB r.1)/\w.cell? ⟨g,k*3+1,O⟩=X (I J r.2.1)/\w.cell? ⟨g,k*3+2,O⟩=X r.2.2.1)/\iJ w r.2.2.1 r.2.2.2
theorem iJ.below{w w':iW}{u:iX}(h:iJ w u ls)(a:iL w.heap.size w w'):iJ w' u ls:=by
 obtain⟨f,lc,e,c,h⟩:=h;refine⟨f,lc,e,c,λj t d=>?_⟩
 obtain⟨gl,o,b,c1,c2⟩:=h j t d;exact⟨gl,o,b,(a.cell (bh w _ c1)).trans c1,(a.cell (bh w _ c2)).trans c2⟩
theorem fO.below{w w':iW}{v:iX}{rs:List Rw}(h:fO w v rs)(b:iL w.heap.size w w'):fO w' v rs:=by
 obtain⟨j,a,e,d,h⟩:=h;refine⟨j,a,e,d,λk r i=>?_⟩
 obtain⟨g,c,⟨c1,c2,c3⟩,f⟩:=h k r i;exact⟨g,c,⟨(b.cell (bh w _ c1)).trans c1,(b.cell (bh w _ c2)).trans c2,(b.cell (bh w _ c3)).trans c3⟩,f.below b⟩
theorem fO.at{w:iW}{c:Option Addr}{a:Nat}{rs:List Rw}{r:Rw}(h:fO w (Y c n a) rs)(d:rs[k]?=X r):∃g,c=X ⟨g,0,O⟩/\(w.cell? ⟨g,k*3,O⟩=X (iB r.1)/\w.cell? ⟨g,k*3+1,O⟩=X (I J r.2.1)/\w.cell? ⟨g,k*3+2,O⟩=X r.2.2.1)/\iJ w r.2.2.1 r.2.2.2:=by
 obtain⟨f,b,e,-,h⟩:=h;injection e with e1 e2 e3
 subst e1;exact h k r d
theorem Hf{w:iW}{a:Option Addr}{xs:List iX}(h:w.ownsRow B e size (Y a m cap) n xs):a=O->cap=0:=by
 rintro rfl;rcases h.2 with⟨h,-⟩|⟨g,b,c,h,-⟩
 ·injection h
 ·cases h
theorem jD.rd{w:iW}{hi:Nat}{u:iX}(h:jD w lo hi u ls):iJ w u ls:=by
 obtain⟨e,lc,rfl,-,-,d⟩:=lN h.1;refine⟨e,lc,rfl,Hf h.1,λj t a=>?_⟩
 obtain⟨gl,rfl,-,-⟩:=d (by have:=(aD.1 a).1;omega)
 obtain⟨b,c⟩:=DU h.1 a;exact⟨gl,0,rfl,by rw[dK];exact b,by rw[dK];exact c⟩
theorem eJ.rd{w:iW}{hi:Nat}{v:iX}{rs:List Rw}(h:eJ w lo hi v rs):fO w v rs:=by
 obtain⟨d,a,rfl,-,-,c⟩:=lN h.1;refine⟨d,a,rfl,Hf h.1,λk r b=>?_⟩
 obtain⟨g,rfl,-,-⟩:=c (by have:=(aD.1 b).1;omega)
 exact⟨g,rfl,zS (k:=k) (t:=fL r) h.1 (by rw[bk,b];rfl),(h.2.2.1 r (aH b)).rd⟩
theorem Mh(g o j:Nat):(⟨g,o,O⟩:Addr).add j=⟨g,o+j,O⟩:=by
 simp only[Addr.add];split<;>simp_all
theorem iJ.cells{w:iW}{gl o n lc:Nat}{ls:List (Int×ByteArray)}(h:iJ w (Y (X ⟨gl,o,O⟩) n lc) ls)(j:Nat)(u:iX)(b:(fi ls)[j]?=X u):w.cell? ⟨gl,o+j,O⟩=X u:=by
 obtain⟨m,l,e,-,h⟩:=h;injection e with e1 e2 e3
 subst e1;have c:=(aD.1 b).1;rw[GH]at c;obtain⟨t,f⟩:∃t,ls[j/2]?=X t:=⟨_,ay (by omega)⟩
 obtain⟨i,p,a,c1,c2⟩:=h _ t f;injection a with a
 injection a with e5 e6
 subst e5 e6;obtain⟨d,g⟩:=A9 ls (j/2) t f;rcases Nat.mod_two_eq_zero_or_one j with k|k
 ·have e:j/2*2=j:=by omega
  rw[e]at d c1;rw[b]at d;cases d;exact c1
 ·have e:j/2*2+1=j:=by omega
  rw[e,b]at g;cases g;rw[kH,e]at c2;exact c2
theorem iJ.head{w:iW}{a:Option Addr}(h:iJ w (Y a n lc) ls)(b:0<ls.length):∃gl o,a=X ⟨gl,o,O⟩:=by
 obtain⟨d,c,e,-,h⟩:=h;injection e with e1 e2 e3
 subst e1;obtain⟨gl,o,e,-⟩:=h 0 _ (ay b);exact⟨gl,o,e⟩
theorem iJ.two{w:iW}{o:Nat}{t:Int×ByteArray}(h:iJ w (Y (X ⟨gl,o,O⟩) n lc) ls)(a:ls[j]?=X t):w.cell? ⟨gl,o+j*2,O⟩=X (I J t.1)/\w.cell? ⟨gl,o+j*2+1,O⟩=X (iT t.2):=by
 obtain⟨b,c⟩:=A9 ls j t a;exact⟨h.cells _ _ b,h.cells _ _ c⟩
theorem iJ.none0{w:iW}{a:Option Addr}(h:iJ w (Y a n lc) ls):a=O->lc=0:=by
 obtain⟨c,b,e,h,-⟩:=h;injection e with e1 e2 e3
 subst e1 e3;exact h
theorem fO.head{w:iW}{b:Option Addr}{a:Nat}{rs:List Rw}(h:fO w (Y b n a) rs)(c:0<rs.length):∃g,b=X ⟨g,0,O⟩:=by
 obtain⟨g,e,-⟩:=h.at (ay c);exact⟨g,e⟩
theorem zH(x:Bool)(y:Int)(v:iX)(ls:List (Int×ByteArray))(w:iW)(Q:ls.length<=1048576)(r:iJ w v ls):
 iK Tryz.prog 142 #[iA #[iB x,I J y,v]] w λe w'=>e=G (I J (bm ls:Nat))/\iL w.heap.size w w':=by
 have s:=r;obtain⟨ad,a,rfl,-,-⟩:=s;have l:=af ((ax w.heap.size w).alloc (ak _) (iC #[iB x,I J y,Y ad ls.length a] 107));have n:=af (r.below l.o);clear r;go_enter Tryz.func142,Tryz.ntmps142;go_wp2;have b:=am _ _ 2 _ _ _ (az w (iC #[iB x,I J y,Y ad ls.length a] 107));have f:ah ((w.alloc (iC #[iB x,I J y,Y ad ls.length a] 107)).cell? ⟨w.heap.size,2,O⟩=X (Y ad ls.length a)):=b;have h:=af (show(w.alloc (iC #[iB x,I J y,Y ad ls.length a] 107)).heap.size=w.heap.size+1 by simp)
 clear b;generalize w.alloc (iC #[iB x,I J y,Y ad ls.length a] 107)=H at l n f h⊢;go_loopw [3] (λF wr=>∃k:Nat,k<=ls.length/\F=I J k/\ah (∀(j:Nat) (u:Int×ByteArray),j<k->ls[j]?=X u->u.1≠0)/\ah (iL H.heap.size H wr)) (λF _=>ls.length-(intOf F).toNat)
 case atStart=>exact⟨0,aI _,rfl,(show∀(j:Nat) (u:Int×ByteArray),j<0->ls[j]?=X u->u.1≠0 from λj u L=>by omega),ax _ _⟩
 case round=>
  obtain⟨k,P,rfl,q,m⟩:=hrel;have b:wr.cell? ⟨w.heap.size,2,O⟩=X (Y ad ls.length a):=(m.o.cell (show w.heap.size<H.heap.size by have:=h.o;omega)).trans f.o
  have d:=af (l.o.trans (m.o.mono l.o.size));by_cases M:(k:Int)<ls.length
  ·obtain⟨g,lo,K⟩:=n.o.head (by omega)
   subst K;have C:k<ls.length:=by omega
   obtain⟨z,t,D⟩:∃z t,ls[k]?=X (z,t):=⟨ls[k].1,ls[k].2,ay C⟩;obtain⟨c1,-⟩:=(n.o.below m.o).two D;simp only at c1;have i:=af D;have R:(0:Int)<=k:=by omega
   clear D;by_cases E:z=0
   ·subst E;have p:=af (Bx i.o rfl q.o);go_wp2;go_ret;exact⟨by rw[p.o];rfl,d.o⟩
   ·have N:(z==0)=iF:=by simpa using E
    go_wp2;go_roundw
    case rel=>
     refine⟨k+1,by omega,by go_num,af (λj u L c=>?_),m⟩
     by_cases A:j=k
     ·subst A;rw[i.o]at c;cases c;exact E
     ·exact q.o j u (by omega) c
    case measure=>simp[intOf];omega
  ·have B:k=ls.length:=by omega
   have p:=af (FU (ls:=ls) (λj u c=>q.o j u (by have:=(aD.1 c).1;omega) c))
   clear B;go_wp2;go_ret;exact⟨by rw[p.o];rfl,d.o⟩
theorem gM(x lo hi:Int)(b:Bool)(w:iW)(h:(lo<=x/\x<=hi/\b=iV)∨((x<lo∨lo<=x/\¬x<=hi)/\b=iF)):
 iK Tryz.prog 40 #[I J x,I J lo,I J hi] w λe w'=>e=G (iB b)/\w'=w:=by
 rcases h with⟨h1,a,rfl⟩|⟨h1|⟨h1,a⟩,rfl⟩
 all_goals
  go_enter Tryz.func40,Tryz.ntmps40;go_wp2;go_ret;exact⟨rfl,rfl⟩
theorem gT(x lo hi:Int)(w:iW):
 iK Tryz.prog 40 #[I J x,I J lo,I J hi] w λe w'=>e=G (iB (decide (lo<=x/\x<=hi)))/\w'=w:=by
 apply gM;by_cases h:lo<=x/\x<=hi
 ·exact .inl ⟨h.1,h.2,aQ h⟩
 ·exact .inr ⟨by omega,aV h⟩
theorem VP(h:¬(0<=b/\b<=(bs.length:Int)-1)):ij bs b leaf t=iF:=by
 unfold ij;cases a:bs[b.toNat]? with
 |none=>rfl
 |some r=>
  have:=(aD.1 a).1;exact aV (λc=>h ⟨c.1,by omega⟩)
theorem Wy{r:Bk}(h0:0<=b)(a:bs[b.toNat]?=X r):ij bs b leaf t=decide (r.1=iF/\leaf<4/\leaf=bm r.2.2/\1<=t.size/\t.size<=120):=by
 unfold ij;rw[a];simp[h0]
theorem RJ(v:iX)(rs:List Rw)(b leaf:Int)(t:ByteArray)(w:iW)(S:rs.length<=1048576)(z:∀r∈rs,r.2.2.2.length<=1048576)(F:fO w v rs):
 iK Tryz.prog 159 #[iA #[v],I J b,I J leaf,iT t] w λe w'=>e=G (iB (ij (rs.map aC) b leaf t))/\iL w.heap.size w w':=by
 have H:=F;obtain⟨ad,p,rfl,-,-⟩:=H;have E:=af z;have j:=af ((ax w.heap.size w).alloc (ak _) (iC #[Y ad rs.length p] 38));have P:=af (F.below j.o);have R:IntKind.i64.wrap ((rs.length:Int)-1)=(rs.length:Int)-1:=by rw[cL];omega
 clear F z;by_cases l:0<=b/\b<=(rs.length:Int)-1
 ·have a:decide (0<=b/\b<=(rs.length:Int)-1)=iV:=aQ l;obtain⟨k,rfl⟩:∃k:Nat,b=k:=⟨b.toNat,by omega⟩
  have K:k<rs.length:=by omega
  have A:rs[k]?=X rs[k]:=ay K;generalize rs[k]=r at A;have h:=aH A;have B:=E.o r h;obtain⟨g,Q,⟨c1,c2,c3⟩,f⟩:=P.o.at A;subst Q;obtain⟨x,y,u,ls⟩:=r;simp only at c1 c2 c3;simp only at f B;have C:=af (Wy (bs:=rs.map aC) (leaf:=leaf) (t:=t) (r:=(x,y,ls)) l.1 (by rw[bk,aZ,A];rfl))
  have s:=f;obtain⟨U,O,rfl,-,-⟩:=s;have D:=af f;have T:(0:Int)<=k:=by omega
  clear A h f l;cases x with
  |true=>
   have c:ah (ij (rs.map aC) k leaf t=iF):=C.o.trans (aV (by simp))
   go_enter Tryz.func159,Tryz.ntmps159;go_wp2_with fail;refine(gT (k:Int) 0 ((rs.length:Int)-1) _).mono ?_;rintro e M ⟨rfl,rfl⟩;rw[a];clear a;go_wp2;go_ret;exact⟨by rw[c.o];rfl,j.o⟩
  |false=>
   by_cases d:leaf<4
   ·have q:decide (leaf<4)=iV:=aQ d;go_enter Tryz.func159,Tryz.ntmps159;go_wp2_with fail;refine(gT (k:Int) 0 ((rs.length:Int)-1) _).mono ?_;rintro e M ⟨rfl,rfl⟩;rw[a];clear a;go_wp2_with fail;refine(zH iF y _ ls _ B D.o).mono ?_;rintro e V ⟨rfl,N⟩;have n:=af (j.o.trans (N.mono j.o.size));clear N;by_cases m:leaf=bm ls
    ·have L:(leaf==(bm ls:Int))=iV:=by simp[m]
     have c:ah (ij (rs.map aC) k leaf t=decide ((1:Int)<=t.size/\(t.size:Int)<=120)):=by
      show _=_;rw[C.o];congr 1;apply propext;constructor
      ·intro i;exact⟨by have:=i.2.2.2.1;omega,by have:=i.2.2.2.2;omega⟩
      ·intro i;exact⟨by trivial,d,m,by omega,by omega⟩
     clear m;go_wp2_with fail;refine(gT (t.size:Int) 1 120 _).mono ?_;rintro e W ⟨rfl,rfl⟩;rw[<-c.o];clear c;go_wp2;go_ret;exact⟨rfl,n.o⟩
    ·have L:(leaf==(bm ls:Int))=iF:=by simpa using m
     have c:ah (ij (rs.map aC) k leaf t=iF):=C.o.trans (aV (λi=>m i.2.2.1))
     clear m;go_wp2;go_ret;exact⟨by rw[c.o];rfl,n.o⟩
   ·have q:decide (leaf<4)=iF:=aV d;have c:ah (ij (rs.map aC) k leaf t=iF):=C.o.trans (aV (λi=>d i.2.1))
    go_enter Tryz.func159,Tryz.ntmps159;go_wp2_with fail;refine(gT (k:Int) 0 ((rs.length:Int)-1) _).mono ?_;rintro e M ⟨rfl,rfl⟩;rw[a];clear a;go_wp2;go_ret;exact⟨by rw[c.o];rfl,j.o⟩
 ·have a:decide (0<=b/\b<=(rs.length:Int)-1)=iF:=aV l;have c:ah (ij (rs.map aC) b leaf t=iF):=VP (by rw[aS];exact l)
  clear l;go_enter Tryz.func159,Tryz.ntmps159;go_wp2_with fail;refine(gT b 0 ((rs.length:Int)-1) _).mono ?_;rintro e M ⟨rfl,rfl⟩;rw[a];clear a;go_wp2;go_ret;exact⟨by rw[c.o];rfl,j.o⟩
theorem uO(x:Int)(t:ByteArray)(w:iW):
 iK Tryz.prog 95 #[iA #[I J x,iT t]] w λe w'=>e=G (iB (gC (x,t)))/\iL w.heap.size w w':=by
 have d:=af ((ax w.heap.size w).alloc (ak _) (iC #[I J x,iT t] 142));by_cases h0:x=0
 ·subst h0;have c:ah (gC (0,t)=t.toList.isEmpty):=by
   show _=_;simp only[gC];rw[pj];have b:t.size=t.data.toList.length:=rfl;cases g:t.data.toList with
   |nil=>rw[g]at b;exact aQ (Or.inl ⟨trivial,b⟩)
   |cons a l=>rw[g]at b;exact aV (by simp only[aR]at b;omega)
  go_enter Tryz.func95,Tryz.ntmps95;go_wp2;go_ret;exact⟨by rw[c.o];rfl,d.o⟩
 ·by_cases h1:x=1
  ·subst h1;have c:ah (gC (1,t)=decide ((1:Int)<=t.size/\(t.size:Int)<=120)):=by
    show _=_;simp only[gC];congr 1;apply propext;simp;omega
   go_enter Tryz.func95,Tryz.ntmps95;go_wp2_with fail;refine(gT (t.size:Int) 1 120 _).mono ?_;rintro e k ⟨rfl,rfl⟩;rw[<-c.o];clear c;go_wp2;go_ret;exact⟨rfl,d.o⟩
  ·have h:(x==0)=iF:=by simpa using h0
   have i:(x==1)=iF:=by simpa using h1
   by_cases f:x=2
   ·subst f;have c:ah (gC (2,t)=decide ((t.size:Int)<=120)):=by
     show _=_;simp only[gC];congr 1;apply propext;simp;omega
    go_enter Tryz.func95,Tryz.ntmps95;go_wp2;go_ret;exact⟨by rw[c.o];rfl,d.o⟩
   ·have j:(x==2)=iF:=by simpa using f
    have c:ah (gC (x,t)=iF):=by
     show _=_;simp only[gC];exact aV (by omega)
    go_enter Tryz.func95,Tryz.ntmps95;go_wp2;go_ret;exact⟨by rw[c.o];rfl,d.o⟩
theorem wZ(v:iX)(rs:List Rw)(w:iW)(hl:rs.length<=1048576)(aw:∀r∈rs,r.2.2.2.length<=1048576)(ha:fO w v rs):
 iK Tryz.prog 63 #[iA #[v]] w λe w'=>e=G (iB (bn (rs.map aC)))/\iL w.heap.size w w':=by
 have aF:=ha;obtain⟨ad,d,rfl,-,-⟩:=aF;have HB:=af ((ax w.heap.size w).alloc (ak _) (iC #[Y ad rs.length d] 38));have HA:=af (ha.below HB.o);have aa:=am _ _ 0 _ _ _ (az w (iC #[Y ad rs.length d] 38));have ac:ah ((w.alloc (iC #[Y ad rs.length d] 38)).cell? ⟨w.heap.size,0,O⟩=X (Y ad rs.length d)):=aa;have ao:=af (show(w.alloc (iC #[Y ad rs.length d] 38)).heap.size=w.heap.size+1 by simp)
 have aB:=af aw;clear ha aa aw;go_enter Tryz.func63,Tryz.ntmps63;go_wp2;generalize w.alloc (iC #[Y ad rs.length d] 38)=wA at HB HA ac ao⊢;go_loopw [3] (λiv wr=>∃k:Nat,k<=rs.length/\iv=I J k/\ah (∀r∈(rs.take k),di (aC r)=iV)/\ah (iL wA.heap.size wA wr)) (λiv _=>rs.length-(intOf iv).toNat)
 case atStart=>exact⟨0,aI _,rfl,(show∀r∈rs.take 0,di (aC r)=iV by simp),ax _ _⟩
 case round=>
  rename iW=>wo
  obtain⟨k,hk,rfl,HN,HW⟩:=hrel;have aa:wo.cell? ⟨w.heap.size,0,O⟩=X (Y ad rs.length d):=(HW.o.cell (show w.heap.size<wA.heap.size by have:=ao.o;omega)).trans ac.o
  have V:=af (HB.o.trans (HW.o.mono HB.o.size));have aJ:=HB.o.size;by_cases aL:(k:Int)<rs.length
  ·have ar:k<rs.length:=by omega
   have p:rs[k]?=X rs[k]:=ay ar;have ab:rs.take (k+1)=rs.take k++[rs[k]]:=ge ar;generalize rs[k]=r at p ab;have H:=aH p;have aG:=aB.o r H;obtain⟨g,eg,⟨c1,c2,c3⟩,T⟩:=(HA.o.below HW.o).at p;subst eg;obtain⟨x,y,u,ls⟩:=r;simp only at c1 c2 c3;simp only at T aG;have av:=T;obtain⟨U,c,rfl,-,-⟩:=av;have ag:=af T;have aD:=af ab;have aj:=af H;have k0:(0:Int)<=k:=by omega
   clear p ab T H;have N:=af (ou (f:=aC) aj.o);have D:=af (V.o.alloc (by have:=V.o.size;exact this) (iC #[iB x,I J y,Y U ls.length c] 107))
   by_cases S:ls.length=4
   ·have au:((ls.length:Int) !=4)=iF:=by rw[S];rfl
    have aA:=af S;clear S;have Q:=af ((ax wo.heap.size wo).alloc (ak _) (iC #[iB x,I J y,Y U ls.length c] 107));have R:=am _ _ 2 _ _ _ (az wo (iC #[iB x,I J y,Y U ls.length c] 107));have ae:ah ((wo.alloc (iC #[iB x,I J y,Y U ls.length c] 107)).cell? ⟨wo.heap.size,2,O⟩=X (Y U ls.length c)):=R;have Z:=af (show(wo.alloc (iC #[iB x,I J y,Y U ls.length c] 107)).heap.size=wo.heap.size+1 by simp)
    clear R;by_cases hy:0<=y/\y<=1000000000
    ·have HY:=af hy;have K:decide (0<=y/\y<=1000000000)=iV:=aQ hy;clear hy;go_wp2_with fail;refine(gT y 0 1000000000 _).mono ?_;rintro e l ⟨rfl,rfl⟩;rw[K];clear K;go_wp2;generalize wo.alloc (iC #[iB x,I J y,Y U ls.length c] 107)=wB at D Q ae Z⊢;go_loopw [5] (λiv wr=>∃j:Nat,j<=ls.length/\iv=I J j/\ah (∀i,i<j->ib ls i=iV)/\ah (iL wB.heap.size wB wr)) (λiv _=>ls.length-(intOf iv).toNat)
     case atStart=>exact⟨0,aI _,rfl,(show∀i,i<0->ib ls i=iV from λi hi=>by omega),ax _ _⟩
     case round=>
      obtain⟨j,hj,rfl,HJ,s⟩:=hrel;have R:wr.cell? ⟨wo.heap.size,2,O⟩=X (Y U ls.length c):=(s.o.cell (show wo.heap.size<wB.heap.size by have:=Z.o;omega)).trans ae.o
      have q:=af (D.o.trans (s.o.mono D.o.size));by_cases aK:(j:Int)<ls.length
      ·obtain⟨gl,lo,el⟩:=ag.o.head (by omega)
       subst el;have F:j<ls.length:=by omega
       obtain⟨z,t,ht⟩:∃z t,ls[j]?=X (z,t):=⟨ls[j].1,ls[j].2,ay F⟩;have an:=af ((ag.o.below Q.o).below s.o);obtain⟨d1,d2⟩:=an.o.two ht;simp only at d1 d2;have HT:=af ht;have j0:(0:Int)<=j:=by omega
       clear ht;have P:ah (∀l,iL wr.heap.size wr l->l.cell? ⟨wo.heap.size,2,O⟩=X (Y (X ⟨gl,lo,O⟩) ls.length c)/\iJ l (Y (X ⟨gl,lo,O⟩) ls.length c) ls):=λl a=>by
        have s1:=Z.o;have s2:=s.o.size;exact⟨(a.cell (show wo.heap.size<wr.heap.size by omega)).trans R,an.o.below a⟩
       cases n:gC (z,t)with
       |false=>
        have L:ah (bn (rs.map aC)=iF):=xY N.o (D6 (b:=aC (x,y,Y (X ⟨gl,lo,O⟩) ls.length c,ls)) F (Kf HT.o n));go_wp2_with fail;refine(uO z t _).mono ?_;rintro e l ⟨rfl,a⟩;rw[n];have M:=af (q.o.trans (a.mono q.o.size));clear a;go_wp2;go_ret;exact⟨by rw[L.o];rfl,M.o⟩
       |true=>
        have ai:=af n;cases j with
        |zero=>
         simp only[lq,oh]at d1 d2;go_wp2_with fail;refine(uO z t _).mono ?_;rintro e l ⟨rfl,a⟩;rw[n];have A:=af (s.o.trans (a.mono s.o.size));obtain⟨q1,C⟩:=P.o l a;clear a C;go_wp2;refine⟨⟨1,by omega,rfl,(show∀i,i<1->ib ls i=iV from λi hi=>?_),A⟩,by simp[intOf];omega⟩
         obtain rfl:i=0:=by omega
         exact Hp HT.o ai.o
        |succ m=>
         have hm:m<ls.length:=by omega
         obtain⟨zp,tp,hp⟩:∃z t,ls[m]?=X (z,t):=⟨ls[m].1,ls[m].2,ay hm⟩;have HP:=af hp;clear hp;have E:zp≠0∨z=0->ah (∀i,i<m+1+1->ib ls i=iV):=λhq i hi=>by
          by_cases h1:i=m+1
          ·subst h1;exact FX HT.o HP.o ai.o hq
          ·exact HJ.o i (by omega)
         by_cases h:zp=0
         ·by_cases B:z=0
          ·have W:=E (Or.inr B);have e1:(zp==0)=iV:=by simp[h]
           have e2:(z !=0)=iF:=by simp[B]
           clear E h B;go_wp2_with fail;refine(uO z t _).mono ?_;rintro e l ⟨rfl,a⟩;rw[n];have A:=af (s.o.trans (a.mono s.o.size));obtain⟨q1,C⟩:=P.o l a;obtain⟨p1,-⟩:=C.two HT.o;obtain⟨p2,-⟩:=C.two HP.o;simp only at p1 p2;clear a C;go_wp2;exact⟨⟨m+1+1,by omega,rfl,W,A⟩,by simp[intOf];omega⟩
          ·have e1:(zp==0)=iV:=by simp[h]
           have e2:(z !=0)=iV:=by simp[B]
           have L:ah (bn (rs.map aC)=iF):=xY N.o (D6 (b:=aC (x,y,Y (X ⟨gl,lo,O⟩) ls.length c,ls)) F (F7 HT.o HP.o h B));clear E h B;go_wp2_with fail;refine(uO z t _).mono ?_;rintro e l ⟨rfl,a⟩;rw[n];have A:=af (s.o.trans (a.mono s.o.size));have M:=af (q.o.trans (a.mono q.o.size));obtain⟨q1,C⟩:=P.o l a;obtain⟨p1,-⟩:=C.two HT.o;obtain⟨p2,-⟩:=C.two HP.o;simp only at p1 p2;clear a C;go_wp2;go_ret;exact⟨by rw[L.o];rfl,M.o⟩
         ·have W:=E (Or.inl h);have e1:(zp==0)=iF:=by simpa using h
          clear E h;go_wp2_with fail;refine(uO z t _).mono ?_;rintro e l ⟨rfl,a⟩;rw[n];have A:=af (s.o.trans (a.mono s.o.size));have M:=af (q.o.trans (a.mono q.o.size));obtain⟨q1,C⟩:=P.o l a;obtain⟨p1,-⟩:=C.two HT.o;obtain⟨p2,-⟩:=C.two HP.o;simp only at p1 p2;clear a C;go_wp2;exact⟨⟨m+1+1,by omega,rfl,W,A⟩,by simp[intOf];omega⟩
      ·have ap:j=ls.length:=by omega
       have al:ah (∀r∈rs.take (k+1),di (aC r)=iV):=by
        show∀r∈rs.take (k+1),di (aC r)=iV;intro r p;rw[aD.o]at p;rcases br.1 p with p|p
        ·exact HN.o r p
        ·rw[bT]at p;subst p;exact Gg (b:=(x,y,ls)) aA.o HY.o (λi hi=>HJ.o i (by rw[ap];exact hi))
       have aE:=af ((HW.o.trans (Q.o.mono HW.o.size)).trans (s.o.mono (bR HW.o.size Q.o.size)));clear ap;go_wp2;go_roundw
       case rel=>exact⟨k+1,by omega,by go_num,al,aE⟩
       case measure=>simp[intOf];omega
    ·have L:ah (bn (rs.map aC)=iF):=xY N.o (XI hy);have K:decide (0<=y/\y<=1000000000)=iF:=aV hy;clear hy;go_wp2_with fail;refine(gT y 0 1000000000 _).mono ?_;rintro e l ⟨rfl,rfl⟩;rw[K];clear K;go_wp2;go_ret;exact⟨by rw[L.o];rfl,D.o⟩
   ·have au:((ls.length:Int) !=4)=iV:=by simp;omega
    have L:ah (bn (rs.map aC)=iF):=xY N.o (LW S);go_wp2;go_ret;exact⟨by rw[L.o];rfl,D.o⟩
  ·have aq:k=rs.length:=by omega
   have hn:=HN.o;rw[aq,cm (ak _)]at hn;have L:ah (bn (rs.map aC)=decide (3<=(rs.length:Int)/\(rs.length:Int)<=10)):=by
    show _=_;rw[EH (λb hb=>by obtain⟨r,p,rfl⟩:=bF.1 hb;exact hn r p)]
    congr 1;apply propext;rw[aS];omega
   clear hn aq;go_wp2_with fail;refine(gT (rs.length:Int) 3 10 _).mono ?_;rintro e l ⟨rfl,rfl⟩;rw[<-L.o];clear L;go_wp2;go_ret;exact⟨rfl,V.o⟩
theorem IG{w w':iW}{hi:Nat}{v u:iX}{xs:List iX}(c:w.ownsRow B 107 3 v n xs)(a:w.grownBy w' v.ownBlock)(h:jD w B hi u ls):jD w' B hi u ls:=by
 refine⟨h.1.kept a ?_,h.2⟩;cases b:v.ownBlock with
 |none=>
  cases d:u.ownBlock with
  |none=>exact Or.inl rfl
  |some g=>exact Or.inr (by simp)
 |some g=>exact Or.inr (BH c h.1 g b)
theorem eJ.snoc {w w':iW} {v m:iX} {d:List Rw} {r:Rw} (h:eJ w B w.heap.size v d) (j:w.grownBy w' v.ownBlock)
 (l:w'.ownsRow B 107 3 m (d.length+1) (fW (d.map fL)++[iB r.1,I J r.2.1,r.2.2.1])) (k:w.ownsRow B' 142 2 r.2.2.1 r.2.2.2.length (fi r.2.2.2)) (o:B<=B')
 (f:∀q∈d,∀g,q.2.2.1.ownBlock=X g->g<B'):eJ w' B w'.heap.size m (d++[r]):=by
 have hs:=j.size;refine⟨?_,λg c=>(iq l g c).2,λq c=>?_,?_⟩
 ·rw[dB,aT,Nr];exact l
 ·rcases br.1 c with c|c
  ·exact(IG h.1 j (h.2.2.1 q c)).up hs
  ·rw[bT]at c;subst c;exact(IG h.1 j ⟨uz k o,λg c=>(iq k g c).2⟩).up hs
 ·rw[dB,eW];refine⟨h.2.2.2,by simp,λa p b i=>?_⟩
  obtain⟨q,c,rfl⟩:=bF.1 p;simp at i;subst i;cases n:q.2.2.1.ownBlock with
  |none=>exact Or.inl rfl
  |some g=>
   refine Or.inr (λe=>?_)
   have s:=f q c g n;have t:=(iq k g e.symm).1;omega
theorem eJ.cellb{w:iW}{v:iX}{rs:List Rw}(h:eJ w B w.heap.size v rs)(a:g<B)(i:Nat)(u:iX):eJ (w.setCell ⟨g,i,O⟩ u) B (w.setCell ⟨g,i,O⟩ u).heap.size v rs:=by
 have:=h.kept (w':=w.setCell ⟨g,i,O⟩ u) (λk h1 _=>aU _ _ _ _ (by show k≠g;omega))
 simpa[World.setCell]using this
theorem Tw(w:iW):(w.alloc (iC #[] 142)).ownsRow w.heap.size 142 2 (Y (X ⟨w.heap.size,0,O⟩) 0 0) 0 (fi []):=
 ⟨rfl,.inr ⟨w.heap.size,0,#[],rfl,ak _,az w _,ak _,by unfold maxLen;omega,rfl,rfl⟩⟩
theorem Ur (w:iW) {o:Oper} {Q:Exit->Act->iW->Prop} (q:o.guard=O) (s x:Operand)
 (e:o.op=Op.call {callee:=Callee.builtin Builtin.append,args:= #[s,x],argTypes:= #[105,105]}) (g:Nat) (hs:a.eval s=Y (X ⟨g,0,O⟩) 0 0)
 (b:w.ownsRow g 142 2 (Y (X ⟨g,0,O⟩) 0 0) 0 (fi [])) (i:Option Addr) (c:Nat) (ls:List (Int×ByteArray)) (r:a.eval x=Y i ls.length c) (C:ls.length<=1048576)
 (d:iJ w (Y i ls.length c) ls)
 (p:∀h w',w'.ownsRow g 142 2 h ls.length (fi ls)->w.grownBy w' (X g)->wpList Tryz.prog ops Q rest (a.put o.dst h) w'):wpList Tryz.prog ops Q (o::rest) a w:=by
 obtain⟨t,hi,m,f,n⟩:=bK yY;have y:=(iq b g rfl).2;by_cases h0:ls.length=0
 ·have l:ls=[]:=lF h0;subst l;refine G9 w q s x _ e g _ t 2 Tryz.underlying105 hi f g 0 0 [] hs b i 0 c [] r rfl ?_ (by simp) (by simp) (ak _) (λw' h1 k=>p _ w' h1 k)
  exact λA=>⟨rfl,d.none0 A⟩
 ·obtain⟨v,B,rfl⟩:=d.head (by omega)
  refine cN w q s x _ e g _ t (iA #[I J 0,iT ⟨#[]⟩]) 2 24 Tryz.underlying105 hi m f n rfl (by decide) _ 0 [] hs b ⟨v,B,O⟩ ls.length c (fi ls) r (GH ls) (λj u z=>by rw[Mh];exact d.cells j u z) (QV ls) (by unfold maxLen;omega) (by omega) (by omega) ?_
  intro h w' h1 k _;rw[dK]at h1;exact p h w' h1 k
theorem MM(w:iW)(cs:Array iX)(t:TypeId)(g:Nat)(a:w.heap.size=g):∀(j:Nat) (u:iX),cs.toList[j]?=X u->(w.alloc (iC cs t)).cell? ((⟨g,0,O⟩:Addr).add j)=X u:=by
 intro j u b;subst a;rw[eX,am _ _ j _ _ _ (az w (iC cs t))]
 simpa using b
theorem Xb(x:Bool)(y:Int)(a:Option Addr)(n c:Nat):∀u∈ [iB x,I J y,Y a n c],u.oneCell'=iV:=by
 intro u b;simp at b;rcases b with h|h|h<;>subst h<;>rfl
def ph(w wr:iW)(b a:iX)(d:List Rw):Prop:=
 wr.heap[w.heap.size]?=X (iC #[b] 38 (0,0))/\wr.heap[w.heap.size+1]?=X (iC #[Y O 0 0] 38 (0,0))/\wr.heap[w.heap.size+1+1]?=X (iC #[a] 38 (0,0))/\
  eJ wr (w.heap.size+3) wr.heap.size a d/\iL w.heap.size w wr
theorem Oh(w:iW)(a:iX):ph w (((w.alloc (iC #[a] 38)).alloc (iC #[Y O 0 0] 38)).alloc (iC #[Y O 0 0] 38)) a (Y O 0 0) []:=by
 refine⟨?_,?_,?_,⟨⟨rfl,.inl ⟨rfl,rfl⟩⟩,λg b=>(by cases b),λr c=>(by cases c),List.Pairwise.nil⟩,((aY).alloc (by simp) _).alloc (by simp;omega) _⟩
 ·rw[gU _ _ _ (by simp;omega),gU _ _ _ (by simp)]
  exact az w _
 ·rw[gU _ _ _ (by simp)]
  have:=az (w.alloc (iC #[a] 38)) (iC #[Y O 0 0] 38);rw[show(w.alloc (iC #[a] 38)).heap.size=w.heap.size+1 by simp]at this
  exact this
 ·have:=az ((w.alloc (iC #[a] 38)).alloc (iC #[Y O 0 0] 38)) (iC #[Y O 0 0] 38);rw[show((w.alloc (iC #[a] 38)).alloc (iC #[Y O 0 0] 38)).heap.size=w.heap.size+1+1 by simp]at this
  exact this
theorem ph.below{w wr w':iW}{b c:iX}{d:List Rw}(h:ph w wr b c d)(a:iL wr.heap.size wr w'):ph w w' b c d:=by
 obtain⟨h1,g,e,h4,f⟩:=h;have i:=(aJ.1 e).1;exact⟨(a.block _ (by omega)).trans h1,(a.block _ (by omega)).trans g,(a.block _ (by omega)).trans e,(h4.below a (ak _)).up a.size,f.trans (a.mono f.size)⟩
theorem ph.snoc {w wr w':iW} {j f a:iX} {d:List Rw} {r:Rw} (h:ph w wr j f d) (l:wr.grownBy w' f.ownBlock)
 (x:w'.ownsRow (w.heap.size+3) 107 3 a (d.length+1) (fW (d.map fL)++[iB r.1,I J r.2.1,r.2.2.1])) (v:wr.ownsRow B' 142 2 r.2.2.1 r.2.2.2.length (fi r.2.2.2)) (s:w.heap.size+3<=B')
 (b:∀q∈d,∀g,q.2.2.1.ownBlock=X g->g<B'):ph w (w'.setCell ⟨w.heap.size+1+1,0,O⟩ a) j a (d++[r]):=by
 obtain⟨h1,o,m,h4,n⟩:=h;have y:=(aJ.1 m).1;have c:∀i,i<w.heap.size+3->X i≠f.ownBlock:=λi hi e=>by
  have:=(iq h4.1 i e.symm).1;omega
 have t:=h4.snoc l x v s b;refine⟨dC ((l.block _ (by omega) (c _ (by omega))).trans h1) (by omega) _ _,dC ((l.block _ (by omega) (c _ (by omega))).trans o) (by omega) _ _,eo ((l.block _ (by omega) (c _ (by omega))).trans m) 0 a,t.cellb (by omega) 0 a,?_⟩
 exact(n.trans ((ax w.heap.size wr).grown l n.size (λk u=>by have:=(iq h4.1 k u).1;omega))).setCell (p:=⟨w.heap.size+1+1,0,O⟩) (by show _<=_+1+1;omega) _
theorem zU(v:iX)(rs:List Rw)(w:iW)(hl:rs.length<=1048576)(N:∀r∈rs,r.2.2.2.length<=1048576)(ha:fO w v rs):
 iK Tryz.prog 64 #[iA #[v]] w λe w'=>∃u,e=G (iA #[u])/\dm w' w.heap.size u (rs.map aC)/\iL w.heap.size w w':=by
 obtain⟨i0,ao,ar,au,av⟩:=bK Fk;have an:=ha;obtain⟨ad,h,rfl,-,-⟩:=an;have ab:=af N;have W:=af ha;clear ha N;have ae:=af (Oh w (Y ad rs.length h));go_enter Tryz.func64,Tryz.ntmps64;go_wp2;go_loopw [4] (λiv wr=>∃(k:Nat) (D:iX) (d:List Rw),k<=rs.length/\iv=I J k/\ah (d.length=k)/\ah (d.map aC=(rs.take k).map aC)/\ah (ph w wr (Y ad rs.length h) D d)) (λiv _=>rs.length-(intOf iv).toNat)
 case atStart=>exact⟨0,_,[],aI _,rfl,rfl,rfl,ae⟩
 case round=>
  obtain⟨k,D,d,hk,rfl,HD,HT,HS⟩:=hrel;obtain⟨s1,U,V,s4,s5⟩:=HS.o;have HB:=af s5;have aN:=s5.size;have l3:=(aJ.1 V).1;have aG:wr.cell? ⟨w.heap.size,0,O⟩=X (Y ad rs.length h):=am _ _ 0 _ _ _ s1;have aD:wr.cell? ⟨w.heap.size+1,0,O⟩=X (Y O 0 0):=am _ _ 0 _ _ _ U;have m:wr.cell? ⟨w.heap.size+1+1,0,O⟩=X D:=am _ _ 0 _ _ _ V;have aB:=aL _ _ 0 _ _ U;have aA:=aL _ _ 0 _ _ V;obtain⟨R,c,rfl,-,-,-⟩:=lN s4.1;have HF:=af s4;have S2:=af U;clear s1 U V s4 s5;by_cases aM:(k:Int)<rs.length
  ·have L:k<rs.length:=by omega
   have T:rs[k]?=X rs[k]:=ay L;have C:rs.take (k+1)=rs.take k++[rs[k]]:=ge L;generalize rs[k]=r at T C;have l:=aH T;have Q:=ab.o r l;obtain⟨g,eg,⟨c1,c2,c3⟩,j⟩:=(W.o.below HB.o).at T;subst eg;obtain⟨x,y,u,ls⟩:=r;simp only at c1 c2 c3;simp only at j Q;have M:=j;obtain⟨n,b,rfl,-,-⟩:=M;have k0:(0:Int)<=k:=by omega
   have aj:=af C;have A:=(ax wr.heap.size wr).alloc (ak _) (iC #[iB x,I J y,Y n ls.length b] 107);have B:=A.alloc A.size (iC #[] 142);have OS:=af (j.below B);have o1:=Tw (wr.alloc (iC #[iB x,I J y,Y n ls.length b] 107));rw[show(wr.alloc (iC #[iB x,I J y,Y n ls.length b] 107)).heap.size=wr.heap.size+1 by simp]at o1
   have O1:=af o1;have E:=af B;have r1:=(gU (wr.alloc (iC #[iB x,I J y,Y n ls.length b] 107)) (iC #[] 142) wr.heap.size (by simp)).trans (az wr (iC #[iB x,I J y,Y n ls.length b] 107))
   have R1:=af r1;have F:=af (show((wr.alloc (iC #[iB x,I J y,Y n ls.length b] 107)).alloc (iC #[] 142)).heap.size=wr.heap.size+1+1 by simp)
   clear T C l j A B o1 r1;go_wp2_with (at_builtin;refine Ur _ rfl _ _ rfl (wr.heap.size+1) rfl O1.o n b ls rfl Q OS.o ?_);intro v' s o3 g3;have z3:=g3.size;rw[F.o]at z3;have S:=(g3.block wr.heap.size (by rw[F.o];omega) (by simp)).trans R1.o
   have b3:=E.o.grown g3 E.o.size (λi hi2=>by cases hi2;omega)
   obtain⟨f,a,rfl,-,-,-⟩:=lN o3;have e0:s.cell? ⟨wr.heap.size,0,O⟩=X (iB x):=am _ _ 0 _ _ _ S;have e1:s.cell? ⟨wr.heap.size,1,O⟩=X (I J y):=am _ _ 1 _ _ _ S;have e2:s.cell? ⟨wr.heap.size,2,O⟩=X (Y n ls.length b):=am _ _ 2 _ _ _ S;have f2:=aL _ _ 2 _ _ S;have ap:s.cell? ⟨w.heap.size+1+1,0,O⟩=X (Y R d.length c):=(b3.cell (show w.heap.size+1+1<wr.heap.size from l3)).trans m;have b5:=(b3.setCell (p:=⟨wr.heap.size,2,O⟩) (ak _) (Y f ls.length a)).alloc (by simp[World.setCell];omega) (iC #[iB x,I J y,Y f ls.length a] 107)
   have t:=af (HS.o.below b5);have o5:=(Cf (uz o3 (ak _)) (show wr.heap.size<wr.heap.size+1 by omega) 2 (Y f ls.length a)).alloc (iC #[iB x,I J y,Y f ls.length a] 107)
   have O5:=af o5;have ac:=af (MM (s.setCell ⟨wr.heap.size,2,O⟩ (Y f ls.length a)) #[iB x,I J y,Y f ls.length a] 107 s.heap.size (by simp[World.setCell]))
   have al:=af (show w.heap.size+3<=((s.setCell ⟨wr.heap.size,2,O⟩ (Y f ls.length a)).alloc (iC #[iB x,I J y,Y f ls.length a] 107)).heap.size by simp[World.setCell];omega)
   have aK:d.length<=1048576:=by have:=HD.o;omega
   clear S o3 g3 b3 b5 o5 m;go_wp2_with (at_builtin;refine cN _ rfl _ _ 36 rfl (w.heap.size+3) 107 i0 (iA #[iB iF,I J 0,Y O 0 0]) 3 40 Tryz.underlying36 ao ar au av rfl (by decide) _ d.length (fW (d.map fL)) rfl t.o.2.2.2.1.1 ⟨s.heap.size,0,O⟩ 1 1 [iB x,I J y,Y f ls.length a] rfl rfl ac.o (Xb _ _ _ _ _) (by unfold maxLen;omega) (by omega) al.o ?_)
   intro aE w6 o6 g6 _;have H:∀q∈d,∀g,q.2.2.1.ownBlock=X g->g<wr.heap.size+1:=λq hq g aq=>by
    have:=(HF.o.2.2.1 q hq).2 g aq;omega
   have c7:=ph.snoc (r:=(x,y,Y f ls.length a,ls)) t.o g6 o6 O5.o (by omega) H
   have z:=t.o;obtain⟨-,-,t3,t4,-⟩:=z;have P:X (w.heap.size+1+1)≠(Y R d.length c).ownBlock:=λe=>by
    have:=(iq t4.1 _ e.symm).1;omega
   have t6:=(g6.block _ ((aJ.1 t3).1) P).trans t3;have x6:w6.cell? ⟨w.heap.size+1+1,0,O⟩=X (Y R d.length c):=am _ _ 0 _ _ _ t6;have y6:=aL _ _ 0 _ _ t6;obtain⟨aO,aw,rfl,-,-,-⟩:=lN o6;have C7:=af c7;have Z:ah ((d++[((x,y,Y f ls.length a,ls):Rw)]).length=k+1):=by show _=_;rw[aT,HD.o];rfl
   have ai:ah ((d++[((x,y,Y f ls.length a,ls):Rw)]).map aC=(rs.take (k+1)).map aC):=by show _=_;rw[dB,HT.o,aj.o,dB];rfl
   clear c7 t3 t4 t6 g6 o6 P H;go_wp2;go_roundw
   case rel=>exact⟨k+1,_,_,by omega,by go_num,Z,ai,C7⟩
   case measure=>simp[intOf];omega
  ·have K:k=rs.length:=by omega
   have ht:=HT.o;rw[K,cm (ak _)]at ht;have ag:=af ht;have Q2:=af (eo S2.o 0 (Y R d.length c));have aa:=af (HF.o.cellb (show w.heap.size+1<w.heap.size+3 by omega) 0 (Y R d.length c))
   clear K ht;go_wp2;exact aF (tW rfl _ _ (w.heap.size+1) 38 _ (0,0) _ rfl Q2.o Tryz.underlying38 rfl Ew) rfl ⟨_,rfl,⟨d,ag.o,aa.o.down (show w.heap.size<=w.heap.size+3 by omega)⟩,HB.o.setCell (p:=⟨w.heap.size+1,0,O⟩) (by show _<=_+1;omega) _⟩
theorem jX {p q:Tmp} (h:fn.results= #[.cell p 38,.tmp q]) (a:Array iX) (w:iW) (g:Nat) (v:iX)
 (e:a.getD p undef=iP (X ⟨g,0,O⟩)) (c:w.heap[g]?=X (iC #[v] 38 (0,0))):
 (results fn a).run Tryz.prog w=.ok (iU #[iA #[v],a.getD q undef]) w:=by
 have b:a[p]?.getD undef=iP (X ⟨g,0,O⟩):=by simpa using e
 have d:=lx (P:=Tryz.prog) w g 38 38 #[v] (0,0) _ c Tryz.underlying38 rfl Ew;simp[results,h,b,asAddr,d]
theorem JV(ss:List Rw)(k:Nat)(r:Rw)(f:Bk->Bk)(h:ss[k]?=X r)(r':Rw)(a:aC r'=f (aC r)):(ss.set k r').map aC=(ss.map aC).modify k f:=by
 apply kM;intro i;rw[bk,rA,bk];by_cases hi:k=i
 ·subst hi;have:=(aD.1 h).1;rw[ku this,h];simp[a]
 ·rw[lZ hi];simp[hi]
theorem PH{w:iW}{xs:List iX}(h:w.ownsRow B 142 2 (Y (X ⟨gl,0,O⟩) n cap) m xs):∀i cs,w.heap[i]?=X (iC cs 38 (0,0))->i≠gl:=by
 intro i cs hi e;subst e;rcases h.2 with⟨h1,-⟩|⟨g,cap,b,h1,-,a,-⟩
 ·cases h1
 ·injection h1 with a1
  simp at a1;subst a1;rw[hi]at a;simp at a
theorem dm.put{w:iW}{s:Option Addr}{d:Nat}{b:Bk}(h:dm w B (Y s n d) bs)(v:bs[k]?=X b)(p:j<b.2.2.length):
 ∃f gl c,s=X ⟨f,0,O⟩/\w.cell? ⟨f,k*3+2,O⟩=X (Y (X ⟨gl,0,O⟩) b.2.2.length c)/\(∃x,w.cell? ⟨gl,j*2,O⟩=X x)/\(∃x,w.cell? ⟨gl,j*2+1,O⟩=X x)/\
  w.frozen? ⟨gl,j*2,O⟩=iF/\w.frozen? ⟨gl,j*2+1,O⟩=iF/\B<=gl/\B<=f/\(∀i cs,w.heap[i]?=X (iC cs 38 (0,0))->i≠gl)/\
  ∀(z:Int) (t:ByteArray),dm ((w.setCell ⟨gl,j*2,O⟩ (I J z)).setCell ⟨gl,j*2+1,O⟩ (iT t)) B (Y s n d) (bs.modify k (λr=>(r.1,r.2.1,r.2.2.set j (z,t)))):=by
 obtain⟨ss,rfl,hs⟩:=h;rw[bk]at v;obtain⟨r,g,rfl⟩:=sW.1 v;obtain⟨M,q,e,-,-,L⟩:=lN hs.1;injection e with e1 e2 e3
 subst e1 e2 e3;have H:=(aD.1 g).1;obtain⟨f,rfl,o,-⟩:=L (by omega)
 obtain⟨x,y,u,ls⟩:=r;have a:=hs.2.2.1 _ (aH g);simp only[aC]at p a⊢;obtain⟨N,c,rfl,-,-,K⟩:=lN a.1;obtain⟨gl,rfl,m,-⟩:=K (by omega)
 obtain⟨-,-,c3⟩:=zS (k:=k) (t:=fL (x,y,Y (X ⟨gl,0,O⟩) ls.length c,ls)) hs.1 (by rw[bk,g];rfl)
 obtain⟨l,C⟩:∃l,ls[j]?=X l:=⟨ls[j],ay p⟩;obtain⟨E,F⟩:=DU a.1 C;refine⟨f,gl,c,rfl,c3,⟨_,E⟩,⟨_,F⟩,a.1.frozenAt _,a.1.frozenAt _,m,o,PH a.1,λz t=>⟨ss.set k (x,y,Y (X ⟨gl,0,O⟩) ls.length c,ls.set j (z,t)),JV ss k _ _ g _ rfl,?_⟩⟩
 have g1:=ik w gl (j*2) (I J z);have g2:=ik (w.setCell ⟨gl,j*2,O⟩ (I J z)) gl (j*2+1) (iT t);have G:w.grownBy ((w.setCell ⟨gl,j*2,O⟩ (I J z)).setCell ⟨gl,j*2+1,O⟩ (iT t)) (X gl):=
  ⟨g2.os.trans g1.os,g2.tape.trans g1.tape,g2.output.trans g1.output,bR g1.size g2.size,λi hi A=>(g2.block i (gX hi g1.size) A).trans (g1.block i hi A)⟩
 have D:=mi (mi a.1 rfl (j*2) (I J z)) rfl (j*2+1) (iT t);rw[(Fc ls j l C).1 z,(Fc (ls.set j (z,l.2)) j (z,l.2) (by rw[ku p])).2 t,zG]at D
 have:=hs.leaves (k:=k) (ls':=ls.set j (z,t)) g G ⟨by rw[iy];exact D,a.2⟩
 simpa[World.setCell]using this
theorem Vl(a:bn bs=iV)(h:ij bs b leaf t=iV):∃(k j:Nat) (r:Bk),b=k/\leaf=j/\bs[k]?=X r/\j<4/\r.2.2.length=4:=by
 unfold ij at h;cases c:bs[b.toNat]? with
 |none=>rw[c]at h;cases h
 |some r=>
  rw[c]at h;have h:=qc h;refine⟨b.toNat,bm r.2.2,r,by omega,h.2.2.2.1,c,by omega,?_⟩
  simp only[bn,bt,gy]at a;have d:=a.2 r (aH c);simp only[di,bt,bW]at d;exact d.1.1
theorem Zr(v:iX)(rs:List Rw)(b leaf:Int)(t:ByteArray)(w:iW)(hl:rs.length<=1048576)(U:∀r∈rs,r.2.2.2.length<=1048576)(ha:fO w v rs):
 iK Tryz.prog 145 #[iA #[v],I J b,I J leaf,iT t] w λe w'=>∃u,e=G (iU #[iA #[u],iB (fY (rs.map aC) b leaf t).2])/\dm w' w.heap.size u (fY (rs.map aC) b leaf t).1/\iL w.heap.size w w':=by
 have x:=af U;have h1:=ha;obtain⟨s,c,rfl,-,-⟩:=h1;have z:=((ax w.heap.size w).alloc (ak _) (iC #[Y s rs.length c] 38)).alloc (by simp) (iC #[Y O 0 0] 38)
 have ac:=af z;have HA:=af (ha.below z);have r0:=(gU (w.alloc (iC #[Y s rs.length c] 38)) (iC #[Y O 0 0] 38) w.heap.size (by simp)).trans (az w (iC #[Y s rs.length c] 38))
 have r1:=az (w.alloc (iC #[Y s rs.length c] 38)) (iC #[Y O 0 0] 38);rw[show(w.alloc (iC #[Y s rs.length c] 38)).heap.size=w.heap.size+1 by simp]at r1
 have R0:=af r0;have R1:=af r1;have HZ:=af (show((w.alloc (iC #[Y s rs.length c] 38)).alloc (iC #[Y O 0 0] 38)).heap.size=w.heap.size+2 by simp)
 clear ha U z r0 r1;go_enter Tryz.func145,Tryz.ntmps145;go_wp2_with fail;refine(zU _ rs _ hl x.o HA.o).mono ?_;rintro e h ⟨u,rfl,T,y⟩;obtain⟨f,a,rfl⟩:=T.form;rw[aS]at T;rw[aS];have z1:=y.size;have aa:=af (HA.o.below y);rw[HZ.o]at T y z1;have q0:=(y.block _ (by omega)).trans R0.o
 have q1:=(y.block _ (by omega)).trans R1.o
 have B:=(ax h.heap.size h).alloc (ak _) (iC #[Y f rs.length a] 38);have q2:=az h (iC #[Y f rs.length a] 38);have p0:=(B.block _ (by omega)).trans q0
 have p1:=(B.block _ (by omega)).trans q1
 have ad:=af ((ac.o.trans (y.mono (by omega))).trans (B.mono (by omega)))
 have ae:=af (T.below B);have E:=af (aa.o.below B);have P0:=af p0;have P1:=af p1;have P2:=af q2;have Q:=af (show(h.alloc (iC #[Y f rs.length a] 38)).heap.size=h.heap.size+1 by simp)
 have k0:(h.alloc (iC #[Y f rs.length a] 38)).cell? ⟨w.heap.size,0,O⟩=X (Y s rs.length c):=am _ _ 0 _ _ _ p0;clear p0 p1 q0 q1 q2 y B T;go_wp2_with fail;refine(wZ _ rs _ hl x.o E.o).mono ?_;rintro e w3 ⟨rfl,i⟩;have z3:=i.size;have ab:=af (E.o.below i);rw[Q.o]at i z3;have t0:=(i.block _ (by omega)).trans P0.o
 have m:=(i.block _ (by omega)).trans P1.o
 have A:=(i.block _ (by omega)).trans P2.o
 have F:=af (ad.o.trans (i.mono (by omega)))
 have K:=af (ae.o.below (by rw[Q.o];exact i))
 have m0:w3.cell? ⟨w.heap.size,0,O⟩=X (Y s rs.length c):=am _ _ 0 _ _ _ t0;have m1:w3.cell? ⟨w.heap.size+1,0,O⟩=X (Y O 0 0):=am _ _ 0 _ _ _ m;have m2:w3.cell? ⟨h.heap.size,0,O⟩=X (Y f rs.length a):=am _ _ 0 _ _ _ A;have f1:=aL _ _ 0 _ _ m;have T1:=af m;have T2:=af A;clear t0 A m i k0;cases l:bn (rs.map aC)with
 |false=>
  have n:ah (fY (rs.map aC) b leaf t=(rs.map aC,iF)):=by show _=_;simp[fY,l]
  have D:=af (K.o.cell (show w.heap.size+1<w.heap.size+2 by omega) 0 (Y f rs.length a))
  have R:=af (eo T1.o 0 (Y f rs.length a));have g:=af (F.o.setCell (p:=⟨w.heap.size+1,0,O⟩) (by show _<=_+1;omega) (Y f rs.length a))
  clear l;go_wp2;exact aF (jX rfl _ _ (w.heap.size+1) _ rfl R.o) rfl ⟨_,by rw[n.o];rfl,by rw[n.o];exact D.o.down (by omega),g.o⟩
 |true=>
  have M:=af l;clear l;go_wp2_with fail;refine(RJ _ rs b leaf t _ hl x.o ab.o).mono ?_;rintro e w4 ⟨rfl,C⟩;have z4:=C.size;have m:=(C.block _ (by omega)).trans T1.o
  have A:=(C.block _ (by omega)).trans T2.o
  have H:=af (F.o.trans (C.mono (by omega)))
  have L:=af (K.o.below C);have n1:w4.cell? ⟨w.heap.size+1,0,O⟩=X (Y O 0 0):=am _ _ 0 _ _ _ m;have n2:w4.cell? ⟨h.heap.size,0,O⟩=X (Y f rs.length a):=am _ _ 0 _ _ _ A;have o1:=aL _ _ 0 _ _ m;have S:=af m;have Z:=af A;clear m0 m1 m2 f1 m A C;cases V:ij (rs.map aC) b leaf t with
  |false=>
   have n:ah (fY (rs.map aC) b leaf t=(rs.map aC,iF)):=by show _=_;simp[fY,V]
   have D:=af (L.o.cell (show w.heap.size+1<w.heap.size+2 by omega) 0 (Y f rs.length a))
   have R:=af (eo S.o 0 (Y f rs.length a));have g:=af (H.o.setCell (p:=⟨w.heap.size+1,0,O⟩) (by show _<=_+1;omega) (Y f rs.length a))
   clear V;go_wp2;exact aF (jX rfl _ _ (w.heap.size+1) _ rfl R.o) rfl ⟨_,by rw[n.o];rfl,by rw[n.o];exact D.o.down (by omega),g.o⟩
  |true=>
   have N:ah (fY (rs.map aC) b leaf t=(jG (rs.map aC) b.toNat leaf.toNat t,iV)):=by show _=_;simp[fY,V,M.o]
   obtain⟨k,j,r,rfl,rfl,hr,ap,W⟩:=Vl M.o V;obtain⟨gu,gl,al,rfl,c3,⟨x1,d1⟩,⟨x2,d2⟩,f1,f2,an,ao,d,q⟩:=L.o.put (j:=j) hr (by omega)
   rw[W]at c3;have ag:=(aD.1 hr).1;rw[aS]at ag;have aq:(k:Int)<rs.length:=by omega
   have k0:(0:Int)<=k:=by omega
   have j0:(0:Int)<=j:=by omega
   have j4:(j:Int)<4:=by omega
   have P:=af (q 1 t);have n:ah (fY (rs.map aC) (k:Int) (j:Int) t=((rs.map aC).modify k (λr=>(r.1,r.2.1,r.2.2.set j (1,t))),iV)):=by show _=_;rw[N.o];rfl
   have v1:=dC (dC S.o (d _ _ S.o) (j*2) (I J 1)) (d _ _ S.o) (j*2+1) (iT t);have v2:=dC (dC Z.o (d _ _ Z.o) (j*2) (I J 1)) (d _ _ Z.o) (j*2+1) (iT t);have x5:((w4.setCell ⟨gl,j*2,O⟩ (I J 1)).setCell ⟨gl,j*2+1,O⟩ (iT t)).cell? ⟨w.heap.size+1,0,O⟩=X (Y O 0 0):=am _ _ 0 _ _ _ v1;have y5:((w4.setCell ⟨gl,j*2,O⟩ (I J 1)).setCell ⟨gl,j*2+1,O⟩ (iT t)).cell? ⟨h.heap.size,0,O⟩=X (Y (X ⟨gu,0,O⟩) rs.length a):=am _ _ 0 _ _ _ v2;have ai:h.heap.size≠gl:=d _ _ Z.o;have aj:w.heap.size+1≠gl:=d _ _ S.o;have D:=af (P.o.cell (show w.heap.size+1<w.heap.size+2 by omega) 0 (Y (X ⟨gu,0,O⟩) rs.length a))
   have R:=af (eo v1 0 (Y (X ⟨gu,0,O⟩) rs.length a));have g:=af (((H.o.setCell (p:=⟨gl,j*2,O⟩) (by show _<=gl;omega) (I J 1)).setCell (p:=⟨gl,j*2+1,O⟩) (by show _<=gl;omega) (iT t)).setCell (p:=⟨w.heap.size+1,0,O⟩) (by show _<=_+1;omega) (Y (X ⟨gu,0,O⟩) rs.length a))
   clear q V hr W N d v1 v2;go_wp2;exact aF (jX rfl _ _ (w.heap.size+1) _ rfl R.o) rfl ⟨_,by rw[n.o];rfl,by rw[n.o];exact D.o.down (by omega),g.o⟩
end Go.Proofs.YtijmbohadndfmaaGreatDoor
