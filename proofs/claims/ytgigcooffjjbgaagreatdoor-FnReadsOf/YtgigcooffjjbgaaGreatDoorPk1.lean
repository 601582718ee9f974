/-
  KnN; TrMath2; LkN; ILeaf; IKids; PartL; EqArr; ILink
-/
import Derived.Test.YtgigcooffjjbgaaGreatDoorPk0
import Derived.Laws.StructEq
import Derived.LaidEqlPtr
open Go.Value renaming int→I,slice→Y,bool→iB,pointer→iP,agg→iA,tuple→iU
open Go.IntKind renaming i64→J
open Option renaming none→O,some→X
open Go.Ending renaming returned→G
open Go.Obj renaming cells→iC
open Bool renaming true→iV,false→iF
open Go renaming World→iW,Value→iX,Calls→iK
open Go.RowKit renaming Below→iL
set_option maxHeartbeats 1000000
set_option maxRecDepth 100000
namespace Go.Proofs.YtgigcooffjjbgaaGreatDoor
open Go.RowKit Words
theorem vU:(Tryz.prog.info? 189).map (λi=>(i.zero,i.size,i.bytes))=X (X (iA #[iB iF,Y O 0 0]),2,32):=by kernel_rfl
abbrev Kw:=Bool×iX×List Int
def sN(t:Kw):List iX:=[iB t.1,t.2.1]
def d8(l:List Kw):List iX:=l.flatMap sN
def aE(t:Kw):Kn:=⟨t.1,t.2.2⟩
theorem Ms(a b:List Kw):d8 (a++b)=d8 a++d8 b:=by simp[d8]
theorem Zr(t:Kw)(l:List Kw):d8 (t::l)=sN t++d8 l:=by simp[d8]
theorem JW(l:List Kw)(t:Kw):d8 l++sN t=d8 (l++[t]):=by rw[Ms];simp[d8]
theorem RY(l:List Kw)(k:Nat)(t:Kw)(h:l[k]?=X t)(j:Nat)(v:iX)(b:(sN t)[j]?=X v):(d8 l)[k*2+j]?=X v:=by
 have c:j<2:=(aC.1 b).1
 induction l generalizing k with
 |nil=>simp at h
 |cons a l d=>
  rw[Zr];cases k with
  |zero=>
   simp at h;subst h;rw[ip (by show _<2;omega),nj,eC]
   exact b
  |succ k=>
   rw[cu (by show 2<=_;omega),show(k+1)*2+j-(sN a).length=k*2+j by show _-2=_;omega]
   exact d k (by simpa using h)
def gP(w:iW)(a:Option Addr)(c:Nat)(ls:List Int):Prop:=
 ls.length=c/\c<=maxLen/\(0<c->∃b d,a=X ⟨b,d,O⟩/\b<w.heap.size/\∀i t,ls[i]?=X t->w.cell? ⟨b,d+i,O⟩=X (I J t))
theorem gP.below{w w':iW}{a:Option Addr}{c:Nat}{ls:List Int}(h:gP w a c ls)(f:iL w.heap.size w w'):gP w' a c ls:=by
 obtain⟨h1,g,h4⟩:=h;refine⟨h1,g,λh0=>?_⟩
 obtain⟨b,d,e,k,j⟩:=h4 h0;have hs:=f.size;exact⟨b,d,e,by omega,λi t l=>(f.cell (show b<w.heap.size from k)).trans (j i t l)⟩
variable{k lo g B B' n i:Nat}{ad:Option Addr}
theorem gP.at{w:iW}{a:Option Addr}{d:Nat}{ls:List Int}(h:gP w a d ls){t:Int}(f:ls[k]?=X t):
 ∃b c,a=X ⟨b,c,O⟩/\b<w.heap.size/\w.cell? ⟨b,c+k,O⟩=X (I J t):=by
 obtain⟨h1,-,h4⟩:=h;have j:=(aC.1 f).1;obtain⟨b,c,e,g,i⟩:=h4 (by omega)
 exact⟨b,c,e,g,i k t f⟩
theorem kB{l:List Int}{x:Int}(h:l[k]?=X x):(aD l)[k]?=X (I J x):=by
 obtain⟨h1,a⟩:=aC.1 h;rw[yP l k h1,a]
def kM(W:iW)(v:iX)(ls:List Int):Prop:=∃a c,v=Y a ls.length c/\(a=O->c=0)/\gP W a ls.length ls
theorem kM.below{W W':iW}{v:iX}{ls:List Int}(h:kM W v ls)(b:iL W.heap.size W W'):kM W' v ls:=by
 obtain⟨a,c,e,h1,d⟩:=h;exact⟨a,c,e,h1,d.below b⟩
theorem kM.of{hi:Nat}{v:iX}{ls:List Int}{W:iW}(h:aG 3 lo hi v ls.length (aD ls) W)(a:ls.length<=maxLen)(d:hi<=W.heap.size):kM W v ls:=by
 rcases h with⟨rfl,h0⟩|⟨g,cap,rfl,h1,c,b⟩
 ·exact⟨O,0,by rw[h0],λ_=>rfl,rfl,a,λh=>by omega⟩
 ·refine⟨_,_,rfl,(λe=>by cases e),rfl,a,λ_=>⟨g,0,rfl,by omega,λi t hi=>?_⟩⟩
  simpa using b.cell (kB hi)
def dO(W:iW)(ad:Option Addr)(a:Nat)(rs:List Kw):Prop:=
 rs.length=a/\a<=maxLen/\(∀r∈rs,kM W r.2.1 r.2.2)/\(0<a->∃b c,ad=X ⟨b,c,O⟩/\b<W.heap.size/\∀i r,rs[i]?=X r->W.cell? ⟨b,c+i*2,O⟩=X (iB r.1)/\W.cell? ⟨b,c+i*2+1,O⟩=X r.2.1)
variable{rs:List Kw}
theorem dO.below{W W':iW}{a:Nat}(h:dO W ad a rs)(c:iL W.heap.size W W'):dO W' ad a rs:=by
 obtain⟨h1,j,k,h4⟩:=h;refine⟨h1,j,λr m=>(k r m).below c,λh0=>?_⟩
 obtain⟨b,d,e,f,l⟩:=h4 h0;have hs:=c.size;refine⟨b,d,e,by omega,λi t n=>?_⟩
 obtain⟨g,c1⟩:=l i t n;exact⟨(c.cell (show b<W.heap.size from f)).trans g,(c.cell (show b<W.heap.size from f)).trans c1⟩
theorem dO.at{W:iW}{c:Nat}(h:dO W ad c rs){r:Kw}(d:rs[k]?=X r):
 ∃b a,ad=X ⟨b,a,O⟩/\b<W.heap.size/\W.cell? ⟨b,a+k*2,O⟩=X (iB r.1)/\W.cell? ⟨b,a+k*2+1,O⟩=X r.2.1:=by
 obtain⟨h1,-,-,h4⟩:=h;have j:=(aC.1 d).1;obtain⟨b,a,e,g,i⟩:=h4 (by omega)
 obtain⟨f,c1⟩:=i k r d;exact⟨b,a,e,g,f,c1⟩
theorem dO.cell{W:iW}{b a c:Nat}{rs:List Kw}(h:dO W (X ⟨b,a,O⟩) c rs){k:Nat}{r:Kw}(g:rs[k]?=X r):
 W.cell? ⟨b,a+k*2,O⟩=X (iB r.1)/\W.cell? ⟨b,a+k*2+1,O⟩=X r.2.1:=by
 obtain⟨i,d,e,-,f,c1⟩:=h.at g;injection e with e
 injection e with e1 e2
 subst e1 e2;exact⟨f,c1⟩
theorem dO.adr{W:iW}{c:Nat}(h:dO W ad c rs)(h0:0<c):∃b a,ad=X ⟨b,a,O⟩/\b<W.heap.size:=by
 obtain⟨b,a,e,d,-⟩:=h.2.2.2 h0;exact⟨b,a,e,d⟩
def Ex(rs:List Kw):Prop:=rs.Pairwise (λa b=>∀g,a.2.1.ownBlock=X g->b.2.1.ownBlock≠X g)
def cC(W:iW)(B:Nat)(v:iX)(rs:List Kw):Prop:=
 W.ownsRow B 189 2 v rs.length (d8 rs)/\(∀r∈rs,aG 3 B W.heap.size r.2.1 r.2.2.length (aD r.2.2) W/\r.2.2.length<=maxLen)/\Ex rs
def qG(lo hi:Nat)(v:iX)(rs:List Kw)(W:iW):Prop:=
 aG 189 lo hi v rs.length (d8 rs) W/\(∀r∈rs,aG 3 lo hi r.2.1 r.2.2.length (aD r.2.2) W/\r.2.2.length<=maxLen)/\Ex rs/\rs.length<=maxLen
def dB(lo hi:Nat)(v:iX)(M:List Kn):iW->Prop:=λW=>∃rs:List Kw,rs.map aE=M/\qG lo hi v rs W
theorem DU{w:iW}{cs b:Array iX}(h:w.heap[g]?=X (iC cs 3 (0,0)))(a:w.heap[g]?=X (iC b 189 (0,0))):False:=by
 rw[h]at a;injection a with a
 injection a with _ a
 simp at a
theorem cC.below{W W':iW}{v:iX}(h:cC W B v rs)(b:iL W.heap.size W W'):cC W' B v rs:=
 ⟨bC h.1 b,λr a=>⟨((h.2.1 r a).1.blw b).up b.size,(h.2.1 r a).2⟩,h.2.2⟩
theorem cC.down{W:iW}{v:iX}(h:cC W B v rs)(a:B'<=B):cC W B' v rs:=
 ⟨oJ h.1 a,λr b=>⟨(h.2.1 r b).1.dn a,(h.2.1 r b).2⟩,h.2.2⟩
theorem cC.nil(W:iW)(B:Nat):cC W B (Y O 0 0) []:=⟨pW _ _ _ _,(λ_ h=>by cases h),List.Pairwise.nil⟩
theorem cC.snoc {f W y:iW} {v u':iX} {r:Kw} (h0:cC f B v rs) (u:iL f.heap.size f W) (p:B<=f.heap.size) (l:aG 3 f.heap.size W.heap.size r.2.1 r.2.2.length (aD r.2.2) W) (z:r.2.2.length<=maxLen)
 (d:W.grownBy y v.ownBlock) (A:y.ownsRow B 189 2 u' (rs++[r]).length (d8 (rs++[r]))):cC y B u' (rs++[r]):=by
 have h:=h0.below u;have w:=nL h.1;have j:∀(t:iX) (g:Nat),v.ownBlock=X g->∀{lo hi n:Nat} {xs:List iX},aG 3 lo hi t n xs W->t.ownBlock≠X g:=by
  intro t g d lo hi n xs hs e;obtain⟨-,-,cs,q⟩:=w g d;obtain⟨-,-,m,q'⟩:=hs.lt g e;exact DU q' q
 refine⟨A,?_,?_⟩
 ·intro x c;rcases bJ.1 c with c|c
  ·exact⟨((h.2.1 x c).1.grown d (λg e i=>j _ g i (h.2.1 x c).1 e)).up d.size,(h.2.1 x c).2⟩
  ·simp only[bU]at c;subst c;exact⟨((l.grown d (λg e i=>j _ g i l e)).dn p).up d.size,z⟩
 ·refine iE.2 ⟨h.2.2,mQ _ _,?_⟩;intro a s b k g o i;simp only[bU]at k;subst k;have C:=((h0.2.1 a s).1.lt g o).2.1;have D:=(l.lt g i).1;omega
theorem cC.form{W:iW}{v:iX}(h:cC W B v rs):∃ad c,v=Y ad rs.length c:=by
 rcases h.1.2 with⟨rfl,h0⟩|⟨g,cap,a,rfl,-⟩
 ·exact⟨_,_,by rw[h0]⟩
 ·exact⟨_,_,rfl⟩
theorem cC.len{W:iW}{v:iX}(h:cC W B v rs):rs.length<=maxLen:=by
 rcases h.1.2 with⟨rfl,h0⟩|⟨g,cap,a,rfl,-,-,h1,b,-⟩
 ·rw[h0];unfold maxLen;omega
 ·omega
theorem cC.fK{W:iW}{v:iX}(h:cC W B v rs):qG B W.heap.size v rs W:=⟨aG.of h.1,h.2.1,h.2.2,h.len⟩
theorem qG.rd{W:iW}{hi c:Nat}(h:qG lo hi (Y ad n c) rs W)(l:rs.length=n)(f:hi<=W.heap.size):dO W ad n rs:=by
 obtain⟨h1,a,o,h4⟩:=h;refine⟨l,by omega,λr d=>kM.of (a r d).1 (a r d).2 f,λh0=>?_⟩
 rcases h1 with⟨e,q⟩|⟨g,cap,e,p,s,m⟩
 ·omega
 ·injection e with e1 e2 e3
  refine⟨g,0,e1,by omega,λi r hi=>?_⟩
  have b:=λj v k=>m.cell (RY rs i r hi j v k)
  refine⟨?_,?_⟩
  ·simpa using b 0 _ rfl
  ·simpa using b 1 _ rfl
theorem qG.loc(lo hi:Nat)(v:iX)(rs:List Kw):mm lo hi (qG lo hi v rs):=by
 intro w w' a h;exact⟨aG.loc _ _ _ _ _ _ w w' a h.1,λr b=>⟨aG.loc _ _ _ _ _ _ w w' a (h.2.1 r b).1,(h.2.1 r b).2⟩,h.2.2⟩
theorem dB.loc(lo hi:Nat)(v:iX)(M:List Kn):mm lo hi (dB lo hi v M):=by
 rintro w w' b ⟨rs,h1,a⟩;exact⟨rs,h1,qG.loc _ _ _ _ w w' b a⟩
theorem dB.form{W:iW}{hi:Nat}{v:iX}{M:List Kn}(h:dB lo hi v M W):∃ad c,v=Y ad M.length c:=by
 obtain⟨rs,rfl,h1,-⟩:=h;obtain⟨ad,c,e,-⟩:=h1.form;exact⟨ad,c,by rw[e];simp⟩
def pj(w:iW)(L:List Kn)(v:iX)(w':iW):Prop:=
 ∃a rs,v=iA #[a]/\cC w' w.heap.size a rs/\rs.map aE=L/\iL w.heap.size w w'
theorem Jl{hi:Nat}{v:iX}{xs:List iX}{t:TypeId}{W:iW}{cs:Array iX}(h:aG t lo hi v n xs W)(q:W.heap[i]?=X (iC cs 30 (0,0)))(b:t≠30):v.ownBlock≠X i:=by
 intro e;obtain⟨-,-,a,q'⟩:=h.lt i e;rw[q]at q';injection q' with q'
 injection q' with _ q'
 exact b q'.symm
theorem cC.cell{W:iW}{B i:Nat}{v:iX}{rs:List Kw}{cs:Array iX}(h:cC W B v rs)(q:W.heap[i]?=X (iC cs 30 (0,0)))(j:Nat)(u:iX):cC (W.setCell ⟨i,j,O⟩ u) B v rs:=by
 have a:=mB W i j u;refine⟨h.1.kept a (.inr ?_),λr b=>⟨((h.2.1 r b).1.grown a (λg e c=>?_)).up a.size,(h.2.1 r b).2⟩,h.2.2⟩
 ·exact Jl (aG.of h.1) q (by decide)
 ·cases c;exact Jl (h.2.1 r b).1 q (by decide) e
def Ai(w:iW)(L:List Kn)(r:Int)(e:Ending)(w':iW):Prop:=∃v,e=G (iU #[v,I J r])/\pj w L v w'
namespace Words
variable{α:Type}{lf:Bool}{r n:Int}{i k q s:Nat}
variable{l:List Kn}
theorem FC(h:∀i x,l[i]?=X x->gW l i x=iV):cj l=iV:=by
 have:∀k,ji l k=iV:=by
  intro k
  induction k with
  |zero=>rfl
  |succ k b=>
   rw[ji,b,gU];cases a:l[k]? with
   |none=>rfl
   |some x=>exact h k x a
 exact this _
theorem vL{x:Kn}(h4:x.fD.length=4)(h:∀n∈x.fD,fb l i x.leaf n=iV):gW l i x=iV:=by
 rw[gW,aS h4,gU,gY];exact h
theorem BI{m:List Kn}(h:i<l.length):(l++m)[i]?=l[i]?:=ip h
theorem EA{m:List Kn}{n:Int}(h:n.toNat<l.length):jw (l++m) n=jw l n:=by rw[jw,jw,BI h]
theorem An{m:List Kn}(h:r.toNat<l.length):dQ (l++m) r k=dQ l r k:=by rw[dQ,dQ,BI h]
theorem XJ{m:List Kn}{n:Int}(h:fb l i lf n=iV):fb (l++m) i lf n=iV:=by
 unfold fb at h⊢;cases lf with
 |true=>exact h
 |false=>
  simp only[ge,fQ,ky,bu,bM]at h⊢;rcases h with h|⟨⟨h1,b⟩,a⟩
  ·exact .inl h
  ·obtain⟨y,hy,-⟩:=DW a;exact .inr ⟨⟨h1,b⟩,by rw[EA (aC.1 hy).1];exact a⟩
theorem Ze{m:List Kn}{x:Kn}(h:gW l i x=iV):gW (l++m) i x=iV:=by
 refine vL (mR h) (λn b=>?_)
 obtain⟨k,a⟩:=iG b;exact XJ (uU h a)
theorem Ut{m:List Kn}(h:bB l r=iV):bB (l++m) r=iV:=by
 unfold bB at h⊢;simp only[ky,bu,bM,nA,aI]at h⊢;rcases h with h|⟨⟨h1,b⟩,a⟩
 ·exact .inl h
 ·exact .inr ⟨⟨h1,by omega⟩,by rw[EA (by omega)];exact a⟩
theorem ZB{m:List Kn}{s:Nat}(d:cj l=iV)(g:bB l r=iV)(hs:s<=15):cG (l++m) r s=cG l r s:=by
 unfold cG;by_cases h0:r<0
 ·rw[ak h0,ak h0]
 ·rw[ai h0,ai h0];obtain⟨x,b,c⟩:=lj g (by omega)
  have a:=(aC.1 b).1;rw[An a];obtain⟨n,f,e⟩:=lO d b c (show s/4<4 by omega)
  rw[ie b f];rcases e with rfl|⟨h1,h,y,hy,-,-⟩
  ·rw[ak (by omega),ak (by omega)]
  ·rw[ai (by omega),ai (by omega),An (aC.1 hy).1]
def tE(l:List Kn)(r:Int)(q:Nat):List Int:=if r<0 then[0,0,0,0]else if dQ l r q<0 then[0,0,0,0]else((l[(dQ l r q).toNat]?).map Kn.fD).getD []
def sF(l:List Kn)(r:Int):List Int:=if r<0 then[-1,-1,-1,-1]else((l[r.toNat]?).map Kn.fD).getD []
theorem Al(l:List Kn)(r:Int)(s:Nat)(n:Int):ir l r s n=⟨iV,(tE l r (s/4)).set (s % 4) n⟩:=rfl
theorem Gx(l:List Kn)(r:Int)(s:Nat):ib l r s=⟨iF,(sF l r).set (s/4) (l.length:Int)⟩:=rfl
theorem ye(k:Nat)(a:k<4):([0,0,0,0]:List Int)[k]?=X 0:=by
 match k,a with
 |0,_|1,_|2,_|3,_=>rfl
theorem Yp(k:Nat)(a:k<4):([-1,-1,-1,-1]:List Int)[k]?=X (-1):=by
 match k,a with
 |0,_|1,_|2,_|3,_=>rfl
theorem BT(e:cj l=iV)(p:bB l r=iV)(o:q<4)(a:k<4):(tE l r q)[k]?=X (cG l r (4*q+k))/\0<=cG l r (4*q+k):=by
 have h:(4*q+k)/4=q:=by omega
 have i:(4*q+k) % 4=k:=by omega
 unfold tE cG;rw[h,i];by_cases h0:r<0
 ·rw[ak h0,ak h0];exact⟨ye k a,by omega⟩
 ·rw[ai h0,ai h0];obtain⟨x,g,c⟩:=lj p (by omega)
  obtain⟨n,m,j⟩:=lO e g c o;rw[ie g m];rcases j with rfl|⟨h1,s,y,hy,d,-⟩
  ·rw[ak (by omega),ak (by omega)]
   exact⟨ye k a,by omega⟩
  ·rw[ai (by omega),ai (by omega),hy]
   obtain⟨v,f,b⟩:=xL e hy d a;rw[ie hy f];exact⟨f,b⟩
theorem Ch(c:cj l=iV)(g:bB l r=iV)(f:q<4):(tE l r q).length=4:=by
 unfold tE;by_cases h0:r<0
 ·rw[ak h0];rfl
 ·rw[ai h0];obtain⟨x,b,a⟩:=lj g (by omega)
  obtain⟨n,e,d⟩:=lO c b a f;rw[ie b e];rcases d with rfl|⟨h1,i,y,hy,h,h4⟩
  ·rw[ak (by omega)];rfl
  ·rw[ai (by omega),hy];exact h4
theorem Li(f:cj l=iV)(h:bB l r=iV)(d:k<4):∃n,(sF l r)[k]?=X n/\(n= -1∨0<=n/\n<l.length/\jw l n=iV)/\n=if r<0 then-1 else dQ l r k:=by
 unfold sF;by_cases h0:r<0
 ·rw[ak h0,ak h0];exact⟨-1,Yp k d,.inl rfl,rfl⟩
 ·rw[ai h0,ai h0];obtain⟨x,a,b⟩:=lj h (by omega)
  obtain⟨n,e,g⟩:=lO f a b d;rw[a];refine⟨n,e,?_,(ie a e).symm⟩;rcases g with rfl|⟨h1,i,y,hy,c,-⟩
  ·exact .inl rfl
  ·have:=(aC.1 hy).1;exact .inr ⟨h1,by omega,by rw[pK hy];exact c⟩
theorem Bg(b:cj l=iV)(c:bB l r=iV):(sF l r).length=4:=by
 unfold sF;by_cases h0:r<0
 ·rw[ak h0];rfl
 ·rw[ai h0];obtain⟨x,a,d⟩:=lj c (by omega)
  rw[a];exact mR (lR b a)
section
theorem yi:(l++[ir l r s n,ib l r s])[l.length]?=X (ir l r s n):=by simp
theorem Fg:(l++[ir l r s n,ib l r s])[l.length+1]?=X (ib l r s):=by simp
theorem J5{xs:List α}{v x:α}(h:x∈xs.set k v):x=v∨∃j:Nat,xs[j]?=X x:=by
 rcases nG h with h|h
 ·exact .inr (iG h)
 ·exact .inl h
theorem Bb(b:cj l=iV)(f:bB l r=iV)(hs:s<=15)(t:0<=n):cj (l++[ir l r s n,ib l r s])=iV:=by
 refine FC (λi x d=>?_)
 have hi:=(aC.1 d).1;simp only[aI,aW,dW]at hi;by_cases h1:i<l.length
 ·rw[BI h1]at d;exact Ze (lR b d)
 ·by_cases o:i=l.length
  ·subst o;rw[yi]at d;cases d;rw[Al];refine vL (by rw[gK];exact Ch b f (by omega)) (λv h=>?_)
   simp only[fb,dF,bM];rcases J5 h with rfl|⟨j,c⟩
   ·exact t
   ·have a:=(aC.1 c).1;rw[Ch b f (by omega)]at a
    obtain⟨e,k⟩:=BT b f (show s/4<4 by omega) a
    rw[e]at c;cases c;exact k
  ·have p:i=l.length+1:=by omega
   subst p;rw[Fg]at d;cases d;rw[Gx];refine vL (by rw[gK];exact Bg b f) (λv h=>?_)
   simp only[fb,ge,fQ,ky,bu,bM];rcases J5 h with rfl|⟨j,c⟩
   ·refine .inr ⟨⟨by omega,by omega⟩,?_⟩
    have:=yi (l:=l) (r:=r) (s:=s) (n:=n);rw[Gx]at this;rw[jw,bi,this];rfl
   ·have a:=(aC.1 c).1;rw[Bg b f]at a;obtain⟨m,q,g,-⟩:=Li b f a;rw[q]at c;cases c;rcases g with g|⟨c1,c2,c3⟩
    ·exact .inl g
    ·exact .inr ⟨⟨c1,by omega⟩,by rw[EA (by omega)];exact c3⟩
theorem PH:bB (l++[ir l r s n,ib l r s]) ((l.length:Int)+1)=iV:=by
 unfold bB;simp only[ky,bu,bM,nA,aI,aW,dW];refine .inr ⟨⟨by omega,by omega⟩,?_⟩
 have e:((l.length:Int)+1).toNat=l.length+1:=by omega
 rw[jw,e,Fg];rfl
theorem LJ{m:Int}(h:((sF l r).set (s/4) (l.length:Int))[k]?=X m):dQ (l++[ir l r s n,ib l r s]) ((l.length:Int)+1) k=m:=by
 have e:((l.length:Int)+1).toNat=l.length+1:=by omega
 exact ie (by rw[e];exact Fg) h
theorem Px(d:cj l=iV)(f:bB l r=iV)(hs:s<=15)(hi:i<=15):cG (l++[ir l r s n,ib l r s]) ((l.length:Int)+1) i=if i=s then n else cG l r i:=by
 have j:i/4<4:=by omega
 have c:s/4<4:=by omega
 have k:4*(i/4)+i % 4=i:=by omega
 by_cases b:i/4=s/4
 ·have h:dQ (l++[ir l r s n,ib l r s]) ((l.length:Int)+1) (i/4)=l.length:=LJ (by rw[b,mq (by rw[Bg d f];exact c)])
  have g:cG (l++[ir l r s n,ib l r s]) ((l.length:Int)+1) i=dQ (l++[ir l r s n,ib l r s]) (l.length:Int) (i % 4):=by
   conv=>lhs;unfold cG
   rw[ai (by omega),h,ai (by omega)]
  rw[g];by_cases e:i=s
  ·rw[ak e];refine ie (by rw[bi];exact yi) ?_
   rw[Al,e];exact mq (by rw[Ch d f c];omega)
  ·rw[ai e];refine ie (by rw[bi];exact yi) ?_
   rw[Al];show((tE l r (s/4)).set (s % 4) n)[i % 4]?=_;rw[oZ (by omega),<-b,(BT d f j (show i % 4<4 by omega)).1,k]
 ·rw[ai (by intro e;rw[e]at b;exact b rfl)]
  obtain⟨m,p,o,a⟩:=Li d f j;have h:dQ (l++[ir l r s n,ib l r s]) ((l.length:Int)+1) (i/4)=m:=LJ (by rw[oZ (λe=>b e.symm)];exact p)
  conv=>lhs;unfold cG
  rw[ai (by omega),h]
  unfold cG;by_cases h0:r<0
  ·rw[ak h0]at a;rw[ak h0,a,ak (by omega)]
  ·rw[ai h0]at a;rw[ai h0,<-a];rcases o with rfl|⟨c1,c2,c3⟩
   ·rw[ak (by omega),ak (by omega)]
   ·rw[ai (by omega),ai (by omega),An (by omega)]
end
end Words
structure Lk where
 place:Int
 leaf:Bool
 nums:List Int
 tos:List (Option Nat)
 need:Bool
def ptr(b:Nat):iX:=iP (X ⟨b,0,O⟩)
def lq:Option Nat->iX
 |none=>iP O
 |some b=>ptr b
def mK(l:List (Option Nat)):List iX:=l.map lq
def pF(l:List Nat):List iX:=l.map ptr
def mt(x:Lk):List iX:=[I J x.place,iB x.leaf]++(aD x.nums++(mK x.tos++[iB x.need]))
def Lk.Four(x:Lk):Prop:=x.nums.length=4/\x.tos.length=4
def cF(W:iW)(b:Nat)(x:Lk):Prop:=W.heap[b]?=X (iC (mt x).toArray 247 (0,0))/\x.Four
variable{α:Type}{lf:Bool}{fn:Func}{xs:List Int}{b C k g n i B z:Nat}
theorem cF.lt{W:iW}{x:Lk}(h:cF W b x):b<W.heap.size:=(aK.1 h.1).1
theorem cF.below{W W':iW}{x:Lk}(h:cF W b x)(c:iL C W W')(a:b<C):cF W' b x:=⟨(c.block b a).trans h.1,h.2⟩
theorem cF.blw{W W':iW}{x:Lk}(h:cF W b x)(a:iL W.heap.size W W'):cF W' b x:=h.below a h.lt
theorem cF.frozen{W:iW}{x:Lk}(h:cF W b x)(o:Nat):W.frozen? ⟨b,o,O⟩=iF:=aF _ _ o _ _ h.1
theorem cF.cell{W:iW}{b k:Nat}{x:Lk}{v:iX}(h:cF W b x)(a:(mt x)[k]?=X v):W.cell? ⟨b,k,O⟩=X v:=by
 rw[aj _ _ k _ _ _ h.1]
 simpa using a
theorem cF.place{W:iW}{x:Lk}(h:cF W b x):W.cell? ⟨b,0,O⟩=X (I J x.place):=h.cell rfl
theorem cF.leaf{W:iW}{x:Lk}(h:cF W b x):W.cell? ⟨b,1,O⟩=X (iB x.leaf):=h.cell rfl
theorem Ou{x:Lk}{n:Int}(a:x.nums[k]?=X n):(mt x)[2+k]?=X (I J n):=by
 have b:=(aC.1 a).1;rw[mt,cu (by simp),ip (by simp[aD];omega)]
 simpa using kB a
theorem abA{x:Lk}(h4:x.Four){o:Option Nat}(a:x.tos[k]?=X o):(mt x)[6+k]?=X (lq o):=by
 have b:=(aC.1 a).1;have h1:(aD x.nums).length=4:=by simp[aD,h4.1]
 rw[mt,cu (by simp;omega),cu (by rw[h1];simp;omega),ip (by rw[h1];simp[mK];omega),h1]
 have e:6+k- [I J x.place,iB x.leaf].length-4=k:=by simp;omega
 rw[e,mK,bh,a];rfl
theorem cF.num{W:iW}{x:Lk}{n:Int}(h:cF W b x)(a:x.nums[k]?=X n):W.cell? ⟨b,2+k,O⟩=X (I J n):=h.cell (Ou a)
theorem cF.to{W:iW}{x:Lk}{o:Option Nat}(h:cF W b x)(a:x.tos[k]?=X o):W.cell? ⟨b,6+k,O⟩=X (lq o):=h.cell (abA h.2 a)
theorem cF.set{W:iW}{x a:Lk}{u:iX}(h:cF W b x)(h4:a.Four)(e:mt a=(mt x).set k u):cF (W.setCell ⟨b,k,O⟩ u) b a:=by
 refine⟨?_,h4⟩;rw[dz h.1,e];simp
theorem cF.other{W:iW}{x:Lk}(h:cF W b x)(a:b≠g)(u:iX):cF (W.setCell ⟨g,k,O⟩ u) b x:=⟨cX h.1 a _ _,h.2⟩
theorem cF.setNum{W:iW}{x:Lk}(h:cF W b x)(a:k<4)(n:Int):cF (W.setCell ⟨b,2+k,O⟩ (I J n)) b {x with nums:=x.nums.set k n}:=by
 refine h.set ⟨by simp[h.2.1],h.2.2⟩ ?_
 have h1:(aD x.nums).length=4:=by simp[aD,h.2.1]
 rw[mt,mt,jz _ _ (by simp),Cn _ _ (by rw[h1];simp;omega)]
 have e:2+k- [I J x.place,iB x.leaf].length=k:=by simp
 rw[e];simp[aD,List.map_set]
theorem cF.setTo{W:iW}{x:Lk}(h:cF W b x)(c:k<4)(o:Option Nat):cF (W.setCell ⟨b,6+k,O⟩ (lq o)) b {x with tos:=x.tos.set k o}:=by
 refine h.set ⟨h.2.1,by simp[h.2.2]⟩ ?_
 have h1:(aD x.nums).length=4:=by simp[aD,h.2.1]
 have a:(mK x.tos).length=4:=by simp[mK,h.2.2]
 rw[mt,mt,jz _ _ (by simp;omega),jz _ _ (by rw[h1];simp;omega),Cn _ _ (by rw[h1,a];simp;omega),h1]
 have e:6+k- [I J x.place,iB x.leaf].length-4=k:=by simp;omega
 rw[e];simp[mK,List.map_set]
theorem Eo(b:Nat)(x:Lk)(s:Nat)(v:Int)(w:iW)(hs:s<=15)(h:cF w b x)(g:(∃k,k=s/4/\x.tos[k]?=X O/\v=0)∨∃c y,x.tos[s/4]?=X (X c)/\cF w c y/\y.nums[s % 4]?=X v):
 iK Tryz.prog 134 #[ptr b,I J s] w λe w'=>e=G (I J v)/\w'=w:=by
 obtain⟨q,d⟩:=aq (s/4);obtain⟨t,f⟩:=aq (s % 4);rw[d]at g;rw[f]at g;have p:(s:Int).tdiv 4=(q:Int):=by rw[DY (by omega)];omega
 have r:(s:Int).tmod 4=(t:Int):=by rw[Ap (by omega)];omega
 have j:(s:Int)/4=(q:Int):=by omega
 have l:(s:Int) % 4=(t:Int):=by omega
 have q0:(0:Int)<=q:=by omega
 have m:(q:Int)<4:=by omega
 have n:(0:Int)<=t:=by omega
 have o:(t:Int)<4:=by omega
 rcases g with⟨k,rfl,a,rfl⟩|⟨c,y,a,hy,i⟩
 ·have c1:w.cell? ⟨b,6+k,O⟩=X (iP O):=h.to a;clear h a d f;unfold ptr;go_enter Tryz.func134,Tryz.ntmps134;go_wp2;go_ret;exact⟨rfl,rfl⟩
 ·have c1:w.cell? ⟨b,6+q,O⟩=X (iP (X ⟨c,0,O⟩)):=h.to a;have c2:w.cell? ⟨c,2+t,O⟩=X (I J v):=hy.num i;clear h a d f hy i;unfold ptr;go_enter Tryz.func134,Tryz.ntmps134;go_wp2;go_ret;exact⟨rfl,rfl⟩
def kZ(W:iW)(a:Option Addr)(n:Nat)(bs:List Nat):Prop:=bs.length=n/\n<=maxLen/\(0<n->∃g,a=X ⟨g,0,O⟩/\g<W.heap.size/\∀(i b:Nat),bs[i]?=X b->W.cell? ⟨g,i,O⟩=X (ptr b))
theorem kZ.below{W W':iW}{a:Option Addr}{bs:List Nat}(h:kZ W a n bs)(c:iL W.heap.size W W'):kZ W' a n bs:=by
 obtain⟨h1,d,f⟩:=h;refine⟨h1,d,λh0=>?_⟩
 obtain⟨g,e,k,j⟩:=f h0;have:=c.size;exact⟨g,e,by omega,λi b hi=>(c.cell (show g<W.heap.size from k)).trans (j i b hi)⟩
theorem kZ.at{W:iW}{a:Option Addr}{bs:List Nat}(h:kZ W a n bs)(hi:bs[i]?=X b):∃g,a=X ⟨g,0,O⟩/\g<W.heap.size/\W.cell? ⟨g,i,O⟩=X (ptr b):=by
 have:=(aC.1 hi).1;obtain⟨g,e,d,c⟩:=h.2.2 (by have:=h.1;omega)
 exact⟨g,e,d,c i b hi⟩
theorem VN{l:List Nat}(h:l[k]?=X b):(pF l)[k]?=X (ptr b):=by rw[pF,bh,h];rfl
theorem Tl(l:List Nat)(b:Nat):pF l++[ptr b]=pF (l++[b]):=by simp[pF]
theorem kZ.of{W:iW}{v:iX}{bs:List Nat}(h:W.ownsRow B 192 1 v bs.length (pF bs)):∃a c,v=Y a bs.length c/\kZ W a bs.length bs:=by
 rcases h.2 with⟨rfl,h0⟩|⟨g,cap,d,rfl,h1,e,f,h4,j,k⟩
 ·exact⟨O,0,by rw[h0],rfl,by rw[h0];unfold maxLen;omega,λh=>by omega⟩
 ·refine⟨_,_,rfl,rfl,by omega,λ_=>⟨g,rfl,(aK.1 e).1,λi b hi=>?_⟩⟩
  rw[<-fh];exact h.cells (g:=g) rfl i _ (VN hi)
def fA(W:iW)(bs:List Nat)(xs:List Lk):Prop:=bs.length=xs.length/\∀(i b:Nat) (x:Lk),bs[i]?=X b->xs[i]?=X x->cF W b x
theorem fA.below{W W':iW}{bs:List Nat}{xs:List Lk}(h:fA W bs xs)(c:iL W.heap.size W W'):fA W' bs xs:=⟨h.1,λi b x h1 a=>(h.2 i b x h1 a).blw c⟩
theorem fA.get{W:iW}{bs:List Nat}{xs:List Lk}(h:fA W bs xs){x:Lk}(a:xs[i]?=X x):∃b,bs[i]?=X b/\cF W b x:=by
 have:=(aC.1 a).1;exact⟨_,ay (by rw[h.1];exact this),h.2 i _ x (ay (by rw[h.1];exact this)) a⟩
theorem fA.nil(W:iW):fA W [] []:=⟨rfl,λ_ _ _ h=>by simp at h⟩
def gT(bs:List Nat)(xs:List Lk)(p:Int):Option Nat:=if p<0 then O else(xs[p.toNat]?).bind (λx=>if x.leaf=iV then bs[p.toNat]? else O)
theorem Nv(k:Option Addr)(n c:Nat)(bs:List Nat)(xs:List Lk)(p:Int)(w:iW)(f:kZ w k n bs)(d:fA w bs xs):
 iK Tryz.prog 231 #[Y k n c,I J p] w λe w'=>e=G (lq (gT bs xs p))/\w'=w:=by
 have i:xs.length=n:=by rw[<-d.1];exact f.1
 by_cases h0:p<0
 ·have E:ah (gT bs xs p=O):=ak h0;rw[E.o];clear f d i E;go_enter Tryz.func231,Tryz.ntmps231;go_wp2;go_ret;exact⟨rfl,rfl⟩
 ·obtain⟨m,rfl⟩:∃m:Nat,p=(m:Int):=⟨p.toNat,by omega⟩
  by_cases h1:(n:Int)<=m
  ·have E:ah (gT bs xs (m:Int)=O):=by
    show _=_;rw[gT,ai h0,bi,H7 (by omega)]
    rfl
   rw[E.o];clear f d i E;go_enter Tryz.func231,Tryz.ntmps231;go_wp2;go_ret;exact⟨rfl,rfl⟩
  ·obtain⟨x,j⟩:∃x,xs[m]?=X x:=⟨_,ay (by omega)⟩
   obtain⟨b,h,l⟩:=d.get j;obtain⟨g,rfl,-,q⟩:=f.at h;have c1:=l.leaf;unfold ptr at q;have r:(0:Int)<=m:=by omega
   have s:(m:Int)<n:=by omega
   have E:ah (gT bs xs (m:Int)=if x.leaf=iV then X b else O):=by
    show _=_;rw[gT,ai h0,bi,j,h];rfl
   rw[E.o];clear f d i E l h j h0 h1;cases a:x.leaf with
   |true=>
    rw[a]at c1;clear a;go_enter Tryz.func231,Tryz.ntmps231;go_wp2;go_ret;exact⟨rfl,rfl⟩
   |false=>
    rw[a]at c1;clear a;go_enter Tryz.func231,Tryz.ntmps231;go_wp2;go_ret;exact⟨rfl,rfl⟩
def AE:Lk:=⟨-1,iF,[0,0,0,0],[O,O,O,O],iF⟩
theorem WY(a:iX)(w:iW):
 iK Tryz.prog 175 #[a,I J (-1)] w λe w'=>e=G (ptr w.heap.size)/\cF w' w.heap.size AE/\iL w.heap.size w w':=by
 go_enter Tryz.func175,Tryz.ntmps175;go_wp2;go_ret;exact⟨rfl,⟨aB w _,rfl,rfl⟩,aZ⟩
theorem QW(h:Option Addr)(n c:Nat)(bs:List Nat)(xs:List Lk)(m b:Nat)(x:Lk)(w:iW)(f:kZ w h n bs)(i:fA w bs xs)(k:xs[m]?=X x)(d:bs[m]?=X b)(j:x.leaf=iF):
 iK Tryz.prog 175 #[Y h n c,I J m] w λe w'=>e=G (ptr b)/\w'=w:=by
 have a:=(aC.1 d).1;rw[f.1]at a;obtain⟨g,rfl,-,l⟩:=f.at d;have c1:=(i.2 m b x d k).leaf;rw[j]at c1;unfold ptr at l⊢;have o:(0:Int)<=m:=by omega
 have p:(m:Int)<n:=by omega
 have m1:((m:Int)== -1)=iF:=by rw[dk];omega
 clear f i k d j a;go_enter Tryz.func175,Tryz.ntmps175;go_wp2;go_ret;exact⟨rfl,rfl⟩
theorem YH(j:Option Addr)(n c:Nat)(bs:List Nat)(xs:List Lk)(r:Int)(w:iW)(f:kZ w j n bs)(d:fA w bs xs)(h1:r≠-1)(a:r<0∨(n:Int)<=r∨∃x,xs[r.toNat]?=X x/\x.leaf=iV):
 iK Tryz.prog 175 #[Y j n c,I J r] w λe w'=>e=G (iP O)/\w'=w:=by
 have m1:(r== -1)=iF:=by rw[dk];exact h1
 by_cases h0:r<0
 ·clear f d a h1;go_enter Tryz.func175,Tryz.ntmps175;go_wp2;go_ret;exact⟨rfl,rfl⟩
 ·by_cases p:(n:Int)<=r
  ·clear f d a h1;go_enter Tryz.func175,Tryz.ntmps175;go_wp2;go_ret;exact⟨rfl,rfl⟩
  ·obtain⟨x,i,o⟩:∃x,xs[r.toNat]?=X x/\x.leaf=iV:=by
    rcases a with h|h|h
    ·omega
    ·omega
    ·exact h
   obtain⟨m,rfl⟩:∃m:Nat,r=(m:Int):=⟨r.toNat,by omega⟩
   rw[bi]at i;obtain⟨b,l,k⟩:=d.get i;obtain⟨g,rfl,-,q⟩:=f.at l;have c1:=k.leaf;rw[o]at c1;unfold ptr at q;have s:(0:Int)<=m:=by omega
   have t:(m:Int)<n:=by omega
   clear f d i l o k a h1 h0 p;go_enter Tryz.func175,Tryz.ntmps175;go_wp2;go_ret;exact⟨rfl,rfl⟩
theorem Hk:(Tryz.prog.info? 244).map (·.size)=X 4:=by kernel_rfl
theorem Ho:(Tryz.prog.info? 192).map (λi=>(i.zero,i.size,i.bytes))=X (X (iP O),1,8):=by kernel_rfl
theorem VI{w:iW}{l:List iX}{t:TypeId}(h:w.heap[g]?=X (iC l.toArray t (0,0))):w.rangeAt g 0 l:=by
 intro j v a;rw[eC,aj _ _ j _ _ _ h]
 simpa using a
theorem Jf {p:Tmp} {b t:TypeId} (h:fn.results= #[.cell p b]) (a:Array iX) (w:iW) (g:Nat) (l:List iX) (d:TypeDesc)
 (j:a.getD p undef=iP (X ⟨g,0,O⟩)) (e:w.heap[g]?=X (iC l.toArray t (0,0))) (k:Tryz.prog.underlying b=X d) (f:d.isRow=iV) (hi:(Tryz.prog.info? b).map (·.size)=X l.length):
 (results fn a).run Tryz.prog w=.ok (iA l.toArray) w:=by
 have c:a[p]?.getD undef=iP (X ⟨g,0,O⟩):=by simpa using j
 have i:=AU (P:=Tryz.prog) w g 0 b l d (VI e) k f hi;simp[results,h,c,asAddr,i]
theorem YI{w:iW}{e f i j:iX}{t:TypeId}(h:w.heap[g]?=X (iC #[e,f,i,j] t (0,0)))(a b c d:iX):
 ((((w.setCell ⟨g,0,O⟩ a).setCell ⟨g,1,O⟩ b).setCell ⟨g,2,O⟩ c).setCell ⟨g,3,O⟩ d).heap[g]?=X (iC #[a,b,c,d] t (0,0)):=
 dz (dz (dz (dz h 0 a) 1 b) 2 c) 3 d
theorem Xr{a w:iW}(h:iL B a w)(b:B<=g)(c d e f:iX):iL B a ((((w.setCell ⟨g,0,O⟩ c).setCell ⟨g,1,O⟩ d).setCell ⟨g,2,O⟩ e).setCell ⟨g,3,O⟩ f):=
 (((h.setCell (p:=⟨g,0,O⟩) b c).setCell (p:=⟨g,1,O⟩) b d).setCell (p:=⟨g,2,O⟩) b e).setCell (p:=⟨g,3,O⟩) b f
theorem vk{l:List α}(h:l.length=4):∃a b c d,l=[a,b,c,d]:=by
 match l,h with
 | [a,b,c,d],_=>exact⟨a,b,c,d,rfl⟩
def tG(W:iW)(x:Lk)(a:List Int):Prop:=if x.leaf=iV then a=x.nums else a.length=4/\∀(k:Nat) (o:Option Nat),x.tos[k]?=X o->∃p,a[k]?=X p/\(o=O/\p= -1∨∃c,o=X c/\W.cell? ⟨c,0,O⟩=X (I J p)/\c<W.heap.size)
theorem aam(l:List (Option Nat))(k:Nat)(o:Option Nat)(e:l.length=4)(b:l[k]?=X o)(W:iW):(Instr.index 245 (iA (mK l).toArray) (I J (k:Int))).run Tryz.prog W=.ok (lq o) W:=by
 have d:k<4:=by rw[<-e];exact(aC.1 b).1
 have c:(mK l)[k]?=X (lq o):=by rw[mK,bh,b];rfl
 obtain⟨h,hi,f,a,g⟩:=bO Ho;simp[Instr.index,run_underlying Tryz.underlying245,asIntOf,part,sizeOf,typeInfo,hi,a,isAgg,run_underlying Tryz.underlying192,d,c]
theorem Yy(b:Nat)(x:Lk)(w:iW)(h:cF w b x)(d:x.leaf=iV):
 iK Tryz.prog 232 #[ptr b] w λe w'=>e=G (iA (aD x.nums).toArray)/\iL w.heap.size w w':=by
 obtain⟨f,g,i,j,a⟩:=vk h.2.1;have c:=h.blw ((ax w.heap.size w).alloc (am _) (iC #[I J 0,I J 0,I J 0,I J 0] 244));have c1:=c.leaf;rw[d]at c1;have m:=c.num (k:=0) (n:=f) (by rw[a];rfl)
 have p:=c.num (k:=1) (n:=g) (by rw[a];rfl)
 have q:=c.num (k:=2) (n:=i) (by rw[a];rfl)
 have r:=c.num (k:=3) (n:=j) (by rw[a];rfl)
 have l:=af a;have t:=af (aB w (iC #[I J 0,I J 0,I J 0,I J 0] 244));have s:ah (iL w.heap.size w (w.alloc (iC #[I J 0,I J 0,I J 0,I J 0] 244))):=(ax w.heap.size w).alloc (am _) _;simp only[Nat.reduceAdd]at m p q r;clear h c a d;unfold ptr;go_enter Tryz.func232,Tryz.ntmps232;go_wp2;rw[l.o];exact az (Jf rfl _ _ _ (aD [f,g,i,j]) _ rfl (aB w _) Tryz.underlying244 rfl Hk) rfl ⟨rfl,(ax w.heap.size w).alloc (am _) _⟩
def lJ(w W:iW)(z:Nat)(xs:List Int):Prop:=W.heap[z]?=X (iC #[I J 0,I J 0,I J 0,I J 0] 244 (0,0))/\W.heap[z+1]?=X (iC (aD xs).toArray 244 (0,0))/\iL z w W
theorem lJ.set{w W:iW}(h:lJ w W z xs)(n:Int):lJ w (W.setCell ⟨z+1,k,O⟩ (I J n)) z (xs.set k n):=by
 refine⟨cX h.1 (by omega) _ _,?_,h.2.2.setCell (p:=⟨z+1,k,O⟩) (by show z<=z+1;omega) _⟩
 rw[dz h.2.1];simp[aD,List.map_set]
theorem lJ.cell{w W:iW}{z k:Nat}{xs:List Int}{n:Int}(h:lJ w W z xs)(a:xs[k]?=X n):W.cell? ⟨z+1,k,O⟩=X (I J n):=by
 rw[aj _ _ k _ _ _ h.2.1]
 simpa using kB a
theorem lJ.fr{w W:iW}(h:lJ w W z xs)(k:Nat):W.frozen? ⟨z+1,k,O⟩=iF:=aF _ _ k _ _ h.2.1
theorem Yo(b:Nat)(x:Lk)(j:List Int)(w:iW)(h:cF w b x)(C:tG w x j):
 iK Tryz.prog 232 #[ptr b] w λe w'=>e=G (iA (aD j).toArray)/\iL w.heap.size w w':=by
 cases F:x.leaf with
 |true=>
  rw[tG,ak F]at C;rw[C];exact Yy b x w h F
 |false=>
  rw[tG,ai (by rw[F];decide)]at C
  obtain⟨D,E⟩:=C;obtain⟨t0,t1,t2,t3,r⟩:=vk h.2.2;have n:iL w.heap.size w ((w.alloc (iC #[I J 0,I J 0,I J 0,I J 0] 244)).alloc (iC #[I J 0,I J 0,I J 0,I J 0] 244)):=((ax w.heap.size w).alloc (am _) _).alloc (by simp) _
  have K:=h.blw ((ax w.heap.size w).alloc (am _) (iC #[I J 0,I J 0,I J 0,I J 0] 244));have c1:=K.leaf;rw[F]at c1;have H:=h.blw n;have T:=H.to (k:=0) (o:=t0) (by rw[r];rfl)
  have U:=H.to (k:=1) (o:=t1) (by rw[r];rfl)
  have V:=H.to (k:=2) (o:=t2) (by rw[r];rfl)
  have Y:=H.to (k:=3) (o:=t3) (by rw[r];rfl)
  have N:ah (lJ w ((w.alloc (iC #[I J 0,I J 0,I J 0,I J 0] 244)).alloc (iC #[I J 0,I J 0,I J 0,I J 0] 244)) w.heap.size [0,0,0,0]):=by
   refine⟨(gn _ _ _ (by simp)).trans (aB w _),?_,n⟩
   have:=aB (w.alloc (iC #[I J 0,I J 0,I J 0,I J 0] 244)) (iC #[I J 0,I J 0,I J 0,I J 0] 244);rw[show(w.alloc (iC #[I J 0,I J 0,I J 0,I J 0] 244)).heap.size=w.heap.size+1 by simp]at this
   exact this
  have t:∀o:Option Nat,∃a,lq o=iP a:=λo=>by cases o<;>exact⟨_,rfl⟩
  have HT:=af r;have H4:ah (x.tos.length=4):=h.2.2;have M:=af E;have f:=af D;have s:ah (iA (mK x.tos).toArray=iA #[lq t0,lq t1,lq t2,lq t3]):=by show _=_;rw[r];rfl
  obtain⟨a0,u⟩:=t t0;obtain⟨a1,v⟩:=t t1;obtain⟨a2,y⟩:=t t2;obtain⟨a3,A⟩:=t t3;rw[u]at T s;rw[v]at U s;rw[y]at V s;rw[A]at Y s;simp only[Nat.reduceAdd]at T U V Y;clear h H K r F n t E D u v y A;unfold ptr;go_enter Tryz.func232,Tryz.ntmps232;go_wp2;rw[<-s.o];obtain⟨z,hz⟩:=aq w.heap.size;have HZ:=af hz;rw[hz]at N⊢;clear T U V Y c1 hz s;generalize(w.alloc (iC #[I J 0,I J 0,I J 0,I J 0] 244)).alloc (iC #[I J 0,I J 0,I J 0,I J 0] 244)=wa at N⊢;go_loopw [18] (λiv W=>∃k:Nat,k<=4/\iv=I J k/\ah (lJ w W z (j.take k++[0,0,0,0].drop k))) (λiv _=>4-(intOf iv).toNat)
  case atStart=>exact⟨0,by omega,rfl,N⟩
  case round=>
   obtain⟨k,C,rfl,g⟩:=hrel;clear N;by_cases ad:(k:Int)<4
   ·obtain⟨o,P⟩:∃o,x.tos[k]?=X o:=⟨_,ay (by have:=H4.o;omega)⟩
    have i:=aam x.tos k o H4.o P;obtain⟨p,Q,Z⟩:=M.o k o P;have k0:(0:Int)<=k:=by omega
    have oc:wr.cell? ⟨z+1,k,O⟩=X (I J 0):=g.o.cell (by
     rw[cu (by simp;omega),cD,qg (by have:=f.o;omega),lh,ly]
     have:k=0∨k=1∨k=2∨k=3:=by omega
     rcases this with rfl|rfl|rfl|rfl<;>rfl)
    have of:=g.o.fr k;have S:∀m:Int,ah (lJ w (wr.setCell ⟨z+1,k,O⟩ (I J m)) z ((j.take k++[0,0,0,0].drop k).set k m)):=λm=>g.o.set m
    have L:ah ((j.take k++[0,0,0,0].drop k).set k p=j.take (k+1)++[0,0,0,0].drop (k+1)):=by
     show _=_;have aa:=(aC.1 Q).1;rw[jz _ _ (by simp;omega),cD,qg (by omega),lh,ft aa,(aC.1 Q).2,fW]
     have:k=0∨k=1∨k=2∨k=3:=by omega
     rcases this with rfl|rfl|rfl|rfl<;>rfl
    rcases Z with⟨rfl,rfl⟩|⟨c,rfl,Z,ac⟩
    ·have d:=S (-1);rw[L.o]at d;have B:∀W:iW,(Instr.index 245 (iA (mK x.tos).toArray) (I J (k:Int))).run Tryz.prog W=.ok (iP O) W:=i;clear S g L i P Q M;go_wp2;go_roundw
     case rel=>exact⟨k+1,by omega,by go_num,d⟩
     case measure=>simp[intOf];omega
    ·have d:ah (lJ w ((wr.setCell ⟨z+1,k,O⟩ (I J (-1))).setCell ⟨z+1,k,O⟩ (I J p)) z ((j.take k++[0,0,0,0].drop k).set k p)):=by
      have:=(g.o.set (k:=k) (-1)).set (k:=k) p;rw[xX]at this;exact this
     have ab:w.heap.size=z:=HZ.o;have cc:(wr.setCell ⟨z+1,k,O⟩ (I J (-1))).cell? ⟨c,0,O⟩=X (I J p):=by
      rw[iN _ _ _ _ (λe=>by injection e;omega),g.o.2.2.cell (show c<z by omega)]
      exact Z
     have B:∀W:iW,(Instr.index 245 (iA (mK x.tos).toArray) (I J (k:Int))).run Tryz.prog W=.ok (iP (X ⟨c,0,O⟩)) W:=i;rw[L.o]at d;clear S g L i P Q M ab;go_wp2;go_roundw
     case rel=>exact⟨k+1,by omega,by go_num,d⟩
     case measure=>simp[intOf];omega
   ·have e4:k=4:=by omega
    subst e4;have d:ah (lJ w wr z j):=by
     have:=g.o;rw[ci (by have:=f.o;omega)]at this
     show lJ w wr z j
     simpa using this
    obtain⟨k0,k1,k2,k3,q⟩:=vk f.o;have R:=af q;rw[q]at d;have q0:=d.o.cell (k:=0) rfl;have q1:=d.o.cell (k:=1) rfl;have q2:=d.o.cell (k:=2) rfl;have q3:=d.o.cell (k:=3) rfl;have p0:=aj _ _ 0 _ _ _ d.o.1;have p1:=aj _ _ 1 _ _ _ d.o.1;have p2:=aj _ _ 2 _ _ _ d.o.1;have p3:=aj _ _ 3 _ _ _ d.o.1;have f0:=λo=>aF _ _ o _ _ d.o.1
    clear g M q f;go_wp2;exact az (Jf rfl _ _ _ (aD [k0,k1,k2,k3]) _ rfl (YI d.o.1 _ _ _ _) Tryz.underlying244 rfl Hk) rfl ⟨congrArg (λl=>Ending.returned (iA (aD l).toArray)) R.o.symm,by rw[HZ.o];exact Xr d.o.2.2 (am _) _ _ _ _⟩
theorem GR(l:List Int)(k:Nat)(n:Int):(aD l).set k (I J n)=aD (l.set k n):=by simp[aD,List.map_set]
theorem yb{l r:List α}{v:α}(b:l[k]?=X v)(c:r.length=l.length):(l.take k++r.drop k).set k v=l.take (k+1)++r.drop (k+1):=by
 obtain⟨a,e⟩:=aC.1 b;rw[jz _ _ (by rw[cD];omega),cD,qg (by omega),lh,jh (by omega),cA,ft a,e,fW]
 rfl
theorem Ff{l r:List α}(a:k<l.length):(l.take k++r.drop k)[k]?=r[k]?:=by
 rw[cu (by rw[cD];omega),cD,qg (by omega),lh,ly]
 simp
theorem Wv(d:Nat)(a b:Int)(W:iW):(Op.equalIn (d+1) 3 (I J a) (I J b)).run Tryz.prog W=.ok (a==b) W:=run_equalIn_int W d 3 J J a b Tryz.underlying3
theorem PE(c d f g h i j k:Int)(W:iW):(binOp .eql 244 (iA (aD [c,d,f,g]).toArray) (iA (aD [h,i,j,k]).toArray)).run Tryz.prog W=.ok (iB ([c,d,f,g]==[h,i,j,k])) W:=by
 rw[run_eql_struct];have e:(Op.equalIn 10000 244 (iA (aD [c,d,f,g]).toArray) (iA (aD [h,i,j,k]).toArray)).run Tryz.prog W=.ok ([c,d,f,g]==[h,i,j,k]) W:=by
  show(Op.equalIn (9999+1) _ _ _).run _ _=_;obtain⟨r,hi,p,m,q⟩:=bO mr;rw[Op.equalIn];simp only[vI,PK Tryz.underlying244,uJ,sizeOf,typeInfo];have l:∀(a b:Int) (W:iW),(Op.equalIn 9999 3 (I J a) (I J b)).run Tryz.prog W=.ok (a==b) W:=λa b W=>Wv 9998 a b W
  simp[aD,hi,m,List.range',part,isAgg,sizeOf,typeInfo,run_underlying Tryz.underlying3,l];cases h0:c==h<;>simp at h0<;>simp[h0]
  cases h1:d==i<;>simp at h1<;>simp[h1]
  cases n:f==j<;>simp at n<;>simp[n]
  cases o:g==k<;>simp at o<;>simp[o]
 rw[e];rfl
def nn(k:Int):Int:=if k<0 then 0 else k
def oh(bs:List Nat)(xs:List Lk)(n:Nat)(lf:Bool)(a:List Int):Lk:=if lf=iV then⟨n,iV,a.map nn,[O,O,O,O],iF⟩else⟨n,iF,[0,0,0,0],a.map (gT bs xs),iF⟩
def pV(bs:List Nat)(xs:List Lk)(lf:Bool)(a:List Int):List Int:=if lf=iV then a.map nn else a.map (λk=>if (gT bs xs k).isSome=iV then k else-1)
def nw(bs:List Nat)(xs:List Lk)(lf:Bool)(a:List Int):Bool:=decide (a.length=4)&&(pV bs xs lf a==a)
theorem Ix{bs:List Nat}{xs:List Lk}{k:Int}(h:gT bs xs k=X b):0<=k/\bs[k.toNat]?=X b/\∃x,xs[k.toNat]?=X x/\x.leaf=iV:=by
 unfold gT at h;split at h
 ·cases h
 ·cases a:xs[k.toNat]? with
  |none=>rw[a]at h;cases h
  |some x=>
   rw[a,jd]at h;split at h
   ·rename_i hl
    exact⟨by omega,h,x,rfl,hl⟩
   ·cases h
def aaJ(w:iW)(ok:Bool)(x:Lk)(e:Ending)(w':iW):Prop:=∃v,e=G (iU #[v,iB ok])/\iL w.heap.size w w'/\(ok=iV->∃b,v=ptr b/\cF w' b x/\w.heap.size<=b)
def iI(w W:iW)(z:Nat)(lf:Bool)(kv:iX)(gs:List Int)(x:Lk):Prop:=W.heap[z]?=X (iC #[iB lf,kv] 189 (0,0))/\W.heap[z+1]?=X (iC (aD gs).toArray 244 (0,0))/\cF W (z+1+1) x/\iL z w W
theorem iI.drew{w W:iW}{kv:iX}{gs:List Int}{x:Lk}(h:iI w W z lf kv gs x):iI w W.drew z lf kv gs x:=⟨h.1,h.2.1,h.2.2.1,h.2.2.2.drew⟩
theorem iI.given{w W:iW}{kv:iX}{gs:List Int}{x:Lk}(h:iI w W z lf kv gs x)(n:Int):iI w (W.setCell ⟨z+1,k,O⟩ (I J n)) z lf kv (gs.set k n) x:=by
 refine⟨cX h.1 (by omega) _ _,?_,h.2.2.1.other (by omega) _,h.2.2.2.setCell (p:=⟨z+1,k,O⟩) (by show z<=z+1;omega) _⟩
 rw[dz h.2.1];simp[aD,List.map_set]
theorem iI.num{w W:iW}{kv:iX}{gs:List Int}{x:Lk}(h:iI w W z lf kv gs x)(a:k<4)(n:Int):iI w (W.setCell ⟨z+1+1,2+k,O⟩ (I J n)) z lf kv gs {x with nums:=x.nums.set k n}:=
 ⟨cX h.1 (by omega) _ _,cX h.2.1 (by omega) _ _,h.2.2.1.setNum a n,h.2.2.2.setCell (p:=⟨z+1+1,2+k,O⟩) (by show z<=z+1+1;omega) _⟩
theorem iI.to{w W:iW}{kv:iX}{gs:List Int}{x:Lk}(h:iI w W z lf kv gs x)(a:k<4)(o:Option Nat):iI w (W.setCell ⟨z+1+1,6+k,O⟩ (lq o)) z lf kv gs {x with tos:=x.tos.set k o}:=
 ⟨cX h.1 (by omega) _ _,cX h.2.1 (by omega) _ _,h.2.2.1.setTo a o,h.2.2.2.setCell (p:=⟨z+1+1,6+k,O⟩) (by show z<=z+1+1;omega) _⟩
theorem iI.cell{w W:iW}{z k:Nat}{lf:Bool}{kv:iX}{gs:List Int}{x:Lk}(h:iI w W z lf kv gs x){n:Int}(a:gs[k]?=X n):W.cell? ⟨z+1,k,O⟩=X (I J n):=by
 rw[aj _ _ k _ _ _ h.2.1]
 simpa using kB a
theorem iI.fr{w W:iW}{kv:iX}{gs:List Int}{x:Lk}(h:iI w W z lf kv gs x)(k:Nat):W.frozen? ⟨z+1,k,O⟩=iF:=aF _ _ k _ _ h.2.1
def nM(bs:List Nat)(xs:List Lk)(n:Nat)(lf:Bool)(a:List Int)(k:Nat):Lk:=if lf=iV then⟨n,iV,(a.map nn).take k++[0,0,0,0].drop k,[O,O,O,O],iF⟩else⟨n,iF,[0,0,0,0],(a.map (gT bs xs)).take k++[O,O,O,O].drop k,iF⟩
theorem aaI{bs:List Nat}{xs:List Lk}{a:List Int}(h:a.length=4):nM bs xs n lf a 4=oh bs xs n lf a:=by
 have b:(a.map nn).take 4=a.map nn:=ci (by simp;omega)
 have c:(a.map (gT bs xs)).take 4=a.map (gT bs xs):=ci (by simp;omega)
 unfold nM oh;rw[b,c];simp
theorem abq(fa:Option Addr)(n c:Nat)(bs:List Nat)(xs:List Lk)(lf:Bool)(l:Option Addr)(kl p:Nat)(a:List Int)(w:iW)(hr:kZ w fa n bs)(hf:fA w bs xs)(v:∀(i:Nat) (x:Lk),xs[i]?=X x->x.place=i)(N:gP w l kl a):
 iK Tryz.prog 208 #[Y fa n c,iA #[iB lf,Y l kl p]] w (aaJ w (nw bs xs lf a) (oh bs xs n lf a)):=by
 have u:=N.1;by_cases h4:¬(kl:Int)=4
 ·have E:ah (nw bs xs lf a=iF):=by show _=_;rw[nw,aV (by omega),lZ]
  rw[E.o];clear hr hf v N u E;go_enter Tryz.func208,Tryz.ntmps208;go_wp2;go_ret2;exact⟨_,rfl,aZ,λh=>by cases h⟩
 ·have aa:kl=4:=by omega
  subst aa;obtain⟨z,S⟩:=aq w.heap.size;have L:=af S;have H:=af N;have f:=af u;have HR:=af hr;have HF:=af hf;have HP:=af v;have V:ah (iI w (((w.alloc (iC #[iB lf,Y l 4 p] 189)).alloc (iC #[I J 0,I J 0,I J 0,I J 0] 244)).alloc (iC #[I J n,iB lf,I J 0,I J 0,I J 0,I J 0,iP O,iP O,iP O,iP O,iB iF] 247)) w.heap.size lf (Y l 4 p) [0,0,0,0] (nM bs xs n lf a 0)):=by
   have za:(w.alloc (iC #[iB lf,Y l 4 p] 189)).heap.size=w.heap.size+1:=by simp
   have zb:((w.alloc (iC #[iB lf,Y l 4 p] 189)).alloc (iC #[I J 0,I J 0,I J 0,I J 0] 244)).heap.size=w.heap.size+1+1:=by simp
   have R0:=aB w (iC #[iB lf,Y l 4 p] 189);have R1:=aB (w.alloc (iC #[iB lf,Y l 4 p] 189)) (iC #[I J 0,I J 0,I J 0,I J 0] 244);have R2:=aB ((w.alloc (iC #[iB lf,Y l 4 p] 189)).alloc (iC #[I J 0,I J 0,I J 0,I J 0] 244)) (iC #[I J n,iB lf,I J 0,I J 0,I J 0,I J 0,iP O,iP O,iP O,iP O,iB iF] 247);rw[za]at R1;rw[zb]at R2;refine⟨(gn _ _ _ (by simp;omega)).trans ((gn _ _ _ (by simp)).trans R0),(gn _ _ _ (by simp)).trans R1,⟨?_,?_⟩,((aZ).alloc (by simp) _).alloc (by simp;omega) _⟩
   ·rw[R2];cases lf<;>rfl
   ·cases lf<;>exact⟨rfl,rfl⟩
  clear hr hf v N u h4 S;go_enter Tryz.func208,Tryz.ntmps208;go_wp2;have S:=L.o;rw[S]at V⊢;clear S;generalize((w.alloc (iC #[iB lf,Y l 4 p] 189)).alloc (iC #[I J 0,I J 0,I J 0,I J 0] 244)).alloc (iC #[I J n,iB lf,I J 0,I J 0,I J 0,I J 0,iP O,iP O,iP O,iP O,iB iF] 247)=wa at V⊢;go_loopw [23] (λiv W=>∃k:Nat,k<=4/\iv=I J k/\ah (iI w W z lf (Y l 4 p) (a.take k++[0,0,0,0].drop k) (nM bs xs n lf a k))) (λiv _=>4-(intOf iv).toNat)
  case atStart=>exact⟨0,by omega,rfl,V⟩
  case round=>
   obtain⟨k,N,rfl,s⟩:=hrel;clear V;by_cases ae:(k:Int)<4
   ·have r:k<4:=by omega
    obtain⟨m,D⟩:∃m,a[k]?=X m:=⟨_,ay (by have:=f.o;omega)⟩
    obtain⟨kb,ko,e,-,hc⟩:=(H.o.below (by rw[L.o];exact s.o.2.2.2)).at D
    subst e;have A:(0:Int)<=k:=by omega
    have oc:wr.cell? ⟨z+1,k,O⟩=X (I J 0):=s.o.cell (by
     rw[Ff (by have:=f.o;omega)]
     exact ye k r)
    have of:=s.o.fr k;have ol:wr.cell? ⟨z,0,O⟩=X (iB lf):=aj _ _ 0 _ _ _ s.o.1;have d:=af (s.o.given (k:=k) m);rw[yb D (by have:=f.o;simp;omega)]at d
    have U:=af D;clear s D;cases lf with
    |true=>
     have T:ah ({nM bs xs n iV a k with nums:=(nM bs xs n iV a k).nums.set k (if m<0 then 0 else m)}=nM bs xs n iV a (k+1)):=by
      show Lk.mk _ _ _ _ _=Lk.mk _ _ _ _ _;congr 1;show((a.map nn).take k++[0,0,0,0].drop k).set k (if m<0 then 0 else m)=_
      exact yb (by rw[bh,U.o];rfl) (by have:=f.o;simp;omega)
     have B:=af (d.o.num r (if m<0 then 0 else m))
     rw[T.o]at B;have ac:(wr.setCell ⟨z+1,k,O⟩ (I J m)).cell? ⟨z+1+1,2+k,O⟩=X (I J 0):=d.o.2.2.1.num (by
      show((a.map nn).take k++[0,0,0,0].drop k)[k]?=_;rw[Ff (by have:=f.o;simp;omega)]
      exact ye k r)
     have ad:=d.o.2.2.1.frozen (2+k);clear T d U;go_wp2;go_roundw
     case rel=>exact⟨k+1,by omega,by go_num,B⟩
     case measure=>simp[intOf];omega
    |false=>
     have y:ah (iL w.heap.size w (wr.setCell ⟨z+1,k,O⟩ (I J m)).drew):=by rw[af L.o];exact d.o.drew.2.2.2
     have C:=af (Nv fa n c bs xs m (wr.setCell ⟨z+1,k,O⟩ (I J m)).drew (HR.o.below y.o) (HF.o.below y.o));obtain⟨o,P⟩:=aq (gT bs xs m);rw[P]at C;have T:ah ({nM bs xs n iF a k with tos:=(nM bs xs n iF a k).tos.set k o}=nM bs xs n iF a (k+1)):=by
      show Lk.mk _ _ _ _ _=Lk.mk _ _ _ _ _;congr 1;show((a.map (gT bs xs)).take k++[O,O,O,O].drop k).set k o=_;exact yb (by rw[bh,U.o,<-P];rfl) (by have:=f.o;simp;omega)
     have B:=af (d.o.to r o);rw[T.o]at B;have ac:(wr.setCell ⟨z+1,k,O⟩ (I J m)).cell? ⟨z+1+1,6+k,O⟩=X (iP O):=d.o.2.2.1.to (o:=O) (by
      show((a.map (gT bs xs)).take k++[O,O,O,O].drop k)[k]?=_;rw[Ff (by have:=f.o;simp;omega)]
      match k,r with
      |0,_|1,_|2,_|3,_=>rfl)
     have ad:=d.o.2.2.1.frozen (6+k);have ab:∃q,lq o=iP q:=by cases o<;>exact⟨_,rfl⟩
     obtain⟨q,hq⟩:=ab;rw[hq]at C B;clear T d U P y hq;go_wp2;go_region_held3 (λ_=>True) (trivial) ((go_at_call 231;(with_reducible refine cn C.o ?_);rintro e w1 ⟨rfl,rfl⟩))
     go_wp2;go_roundw
     case rel=>exact⟨k+1,by omega,by go_num,af B.o.drew⟩
     case measure=>simp[intOf];omega
   ·have e4:k=4:=by omega
    subst e4;have d:ah (iI w wr z lf (Y l 4 p) a (oh bs xs n lf a)):=by
     have:=s.o;rw[ci (by have:=f.o;omega),aaI f.o]at this
     show iI w wr z lf (Y l 4 p) a (oh bs xs n lf a)
     simpa using this
    have y:ah (iL w.heap.size w wr.drew):=by rw[af L.o];exact d.o.drew.2.2.2
    have KR:ah (tG wr.drew (oh bs xs n lf a) (pV bs xs lf a)):=by
     show tG _ _ _;unfold tG;cases lf with
     |true=>rfl
     |false=>
      refine⟨by rw[pV,ai (by decide),bm];exact f.o,λj o P=>?_⟩
      have Q:(a.map (gT bs xs))[j]?=X o:=P;rw[bh,sk]at Q;obtain⟨m,D,rfl⟩:=Q;refine⟨if (gT bs xs m).isSome=iV then m else-1,by rw[pV,ai (by decide),bh,D];rfl,?_⟩
      cases hq:gT bs xs m with
      |none=>exact .inl ⟨rfl,rfl⟩
      |some b=>
       obtain⟨h0,hb,x,hx,-⟩:=Ix hq;have hA:=(HF.o.below y.o).2 _ b x hb hx;refine .inr ⟨b,rfl,?_,hA.lt⟩;rw[hA.place,HP.o _ x hx];show X (I J ((m.toNat:Nat):Int))=X (I J m);rw[Int.toNat_of_nonneg h0]
    have C:=af (Yo (z+1+1) (oh bs xs n lf a) (pV bs xs lf a) wr.drew d.o.drew.2.2.1 KR.o);obtain⟨A,F,G,K,g⟩:=vk f.o;obtain⟨a0,a1,a2,a3,t⟩:=vk (show(pV bs xs lf a).length=4 by rw[pV];split<;>rw[bm]<;>exact f.o)
    have OK:ah (nw bs xs lf a=([a0,a1,a2,a3]==[A,F,G,K])):=by
     show _=_;rw[nw,aS f.o,gU,t,g]
    obtain⟨ok,R⟩:=aq (([a0,a1,a2,a3]==[A,F,G,K]));have M:=λW=>PE a0 a1 a2 a3 A F G K W
    rw[R]at OK M;rw[t]at C;have q0:=d.o.cell (k:=0) (n:=A) (by rw[g];rfl)
    have q1:=d.o.cell (k:=1) (n:=F) (by rw[g];rfl)
    have q2:=d.o.cell (k:=2) (n:=G) (by rw[g];rfl)
    have q3:=d.o.cell (k:=3) (n:=K) (by rw[g];rfl)
    have KP:ah (∀W,iL wr.drew.heap.size wr.drew W->W.cell? ⟨z+1,0,O⟩=X (I J A)/\W.cell? ⟨z+1,1,O⟩=X (I J F)/\W.cell? ⟨z+1,2,O⟩=X (I J G)/\W.cell? ⟨z+1,3,O⟩=X (I J K)):=λW Z=>by
     have hl:z+1<wr.drew.heap.size:=(aK.1 d.o.2.1).1;exact⟨(Z.cell (show z+1<wr.drew.heap.size from hl)).trans q0,(Z.cell (show z+1<wr.drew.heap.size from hl)).trans q1,(Z.cell (show z+1<wr.drew.heap.size from hl)).trans q2,(Z.cell (show z+1<wr.drew.heap.size from hl)).trans q3⟩
    simp only[aD,cB,oU]at C M;unfold ptr at C;clear s KR g t R;go_wp2;go_region_held3 (λw'=>w'.cell? ⟨z+1,0,O⟩=X (I J A)/\w'.cell? ⟨z+1,1,O⟩=X (I J F)/\w'.cell? ⟨z+1,2,O⟩=X (I J G)/\w'.cell? ⟨z+1,3,O⟩=X (I J K)) (first|go_keep|exact KP.o _ BB.o) ((go_at_call 232;(with_reducible refine cn C.o ?_);rintro e w1 ⟨rfl,bb⟩;have BB:=af bb;clear bb))
    all_goals
     go_wp2;go_ret2;refine⟨_,congrArg (λq=>Ending.returned (iU #[ptr (z+1+1),iB q])) OK.o.symm,y.o.trans (BB.o.mono y.o.size),λ_=>⟨z+1+1,rfl,d.o.drew.2.2.1.blw BB.o,by have:=L.o;omega⟩⟩
end Go.Proofs.YtgigcooffjjbgaaGreatDoor
