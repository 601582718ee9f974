/-
  KnN; TrMath2; LkN; ILeaf; IKids; PartL; EqArr; ILink
-/
import Derived.Test.YtgigcooffjjbgaaGreatDoorPk0
import Derived.Laws.StructEq
import Derived.LaidEqlPtr
open Go.Value renaming int→I,slice→Y,bool→iB,pointer→iP,agg→iA,tuple→iU
open Go.IntKind renaming i64→J
open Option renaming none→O,some→X
open Go.Ending renaming returned→G
open Go.Obj renaming cells→iC
open Bool renaming true→iV,false→iF
open Go renaming World→iW,Value→iX,Calls→iK
open Go.RowKit renaming Below→iL
set_option maxHeartbeats 1000000
set_option maxRecDepth 100000
namespace Go.Proofs.YtgigcooffjjbgaaGreatDoor
open Go.RowKit Words
theorem tM:(Tryz.prog.info? 189).map (λi=>(i.zero,i.size,i.bytes))=X (X (iA #[iB iF,Y O 0 0]),2,32):=by kernel_rfl
abbrev Kw:=Bool×iX×List Int
def tz(t:Kw):List iX:=[iB t.1,t.2.1]
def d8(l:List Kw):List iX:=l.flatMap tz
def aD(t:Kw):Kn:=⟨t.1,t.2.2⟩
theorem Eh(a b:List Kw):d8 (a++b)=d8 a++d8 b:=by simp[d8]
theorem UF(t:Kw)(l:List Kw):d8 (t::l)=tz t++d8 l:=by simp[d8]
theorem Js(l:List Kw)(t:Kw):d8 l++tz t=d8 (l++[t]):=by rw[Eh];simp[d8]
theorem Li(l:List Kw)(k:Nat)(t:Kw)(h:l[k]?=X t)(j:Nat)(v:iX)(b:(tz t)[j]?=X v):(d8 l)[k*2+j]?=X v:=by
 have c:j<2:=(aB.1 b).1
 induction l generalizing k with
 |nil=>simp at h
 |cons a l d=>
  rw[UF];cases k with
  |zero=>
   simp at h;subst h;rw[hI (by show _<2;omega),mW,eV]
   exact b
  |succ k=>
   rw[ct (by show 2<=_;omega),show(k+1)*2+j-(tz a).length=k*2+j by show _-2=_;omega]
   exact d k (by simpa using h)
def fG(w:iW)(a:Option Addr)(c:Nat)(ls:List Int):Prop:=
 ls.length=c/\c<=maxLen/\(0<c->∃b d,a=X ⟨b,d,O⟩/\b<w.heap.size/\∀i t,ls[i]?=X t->w.cell? ⟨b,d+i,O⟩=X (I J t))
theorem fG.below{w w':iW}{a:Option Addr}{c:Nat}{ls:List Int}(h:fG w a c ls)(f:iL w.heap.size w w'):fG w' a c ls:=by
 obtain⟨h1,g,h4⟩:=h;refine⟨h1,g,λh0=>?_⟩
 obtain⟨b,d,e,k,j⟩:=h4 h0;have hs:=f.size;exact⟨b,d,e,by omega,λi t l=>(f.cell (show b<w.heap.size from k)).trans (j i t l)⟩
variable{k lo g B B' n i:Nat}{ad:Option Addr}
theorem fG.at{w:iW}{a:Option Addr}{d:Nat}{ls:List Int}(h:fG w a d ls){t:Int}(f:ls[k]?=X t):
 ∃b c,a=X ⟨b,c,O⟩/\b<w.heap.size/\w.cell? ⟨b,c+k,O⟩=X (I J t):=by
 obtain⟨h1,-,h4⟩:=h;have j:=(aB.1 f).1;obtain⟨b,c,e,g,i⟩:=h4 (by omega)
 exact⟨b,c,e,g,i k t f⟩
theorem iI{l:List Int}{x:Int}(h:l[k]?=X x):(ax l)[k]?=X (I J x):=by
 obtain⟨h1,a⟩:=aB.1 h;rw[sE l k h1,a]
def ku(W:iW)(v:iX)(ls:List Int):Prop:=∃a c,v=Y a ls.length c/\(a=O->c=0)/\fG W a ls.length ls
theorem ku.below{W d:iW}{v:iX}{ls:List Int}(h:ku W v ls)(b:iL W.heap.size W d):ku d v ls:=by
 obtain⟨a,c,e,h1,f⟩:=h;exact⟨a,c,e,h1,f.below b⟩
theorem ku.of{hi:Nat}{v:iX}{ls:List Int}{W:iW}(h:aG 3 lo hi v ls.length (ax ls) W)(a:ls.length<=maxLen)(d:hi<=W.heap.size):ku W v ls:=by
 rcases h with⟨rfl,h0⟩|⟨g,cap,rfl,h1,c,b⟩
 ·exact⟨O,0,by rw[h0],λ_=>rfl,rfl,a,λh=>by omega⟩
 ·refine⟨_,_,rfl,(λe=>by cases e),rfl,a,λ_=>⟨g,0,rfl,by omega,λi t hi=>?_⟩⟩
  simpa using b.cell (iI hi)
def dB(W:iW)(ad:Option Addr)(a:Nat)(rs:List Kw):Prop:=
 rs.length=a/\a<=maxLen/\(∀r∈rs,ku W r.2.1 r.2.2)/\(0<a->∃b c,ad=X ⟨b,c,O⟩/\b<W.heap.size/\∀i r,rs[i]?=X r->W.cell? ⟨b,c+i*2,O⟩=X (iB r.1)/\W.cell? ⟨b,c+i*2+1,O⟩=X r.2.1)
variable{rs:List Kw}
theorem dB.below{W f:iW}{a:Nat}(h:dB W ad a rs)(c:iL W.heap.size W f):dB f ad a rs:=by
 obtain⟨h1,k,l,h4⟩:=h;refine⟨h1,k,λr n=>(l r n).below c,λh0=>?_⟩
 obtain⟨b,d,e,g,m⟩:=h4 h0;have hs:=c.size;refine⟨b,d,e,by omega,λi t o=>?_⟩
 obtain⟨j,c1⟩:=m i t o;exact⟨(c.cell (show b<W.heap.size from g)).trans j,(c.cell (show b<W.heap.size from g)).trans c1⟩
theorem dB.at{W:iW}{c:Nat}(h:dB W ad c rs){r:Kw}(d:rs[k]?=X r):
 ∃b a,ad=X ⟨b,a,O⟩/\b<W.heap.size/\W.cell? ⟨b,a+k*2,O⟩=X (iB r.1)/\W.cell? ⟨b,a+k*2+1,O⟩=X r.2.1:=by
 obtain⟨h1,-,-,h4⟩:=h;have j:=(aB.1 d).1;obtain⟨b,a,e,g,i⟩:=h4 (by omega)
 obtain⟨f,c1⟩:=i k r d;exact⟨b,a,e,g,f,c1⟩
theorem dB.cell{W:iW}{b a c:Nat}{rs:List Kw}(h:dB W (X ⟨b,a,O⟩) c rs){k:Nat}{r:Kw}(g:rs[k]?=X r):
 W.cell? ⟨b,a+k*2,O⟩=X (iB r.1)/\W.cell? ⟨b,a+k*2+1,O⟩=X r.2.1:=by
 obtain⟨i,d,e,-,f,c1⟩:=h.at g;injection e with e
 injection e with e1 e2
 subst e1 e2;exact⟨f,c1⟩
theorem dB.adr{W:iW}{c:Nat}(h:dB W ad c rs)(h0:0<c):∃b a,ad=X ⟨b,a,O⟩/\b<W.heap.size:=by
 obtain⟨b,a,e,d,-⟩:=h.2.2.2 h0;exact⟨b,a,e,d⟩
def zG(rs:List Kw):Prop:=rs.Pairwise (λa b=>∀g,a.2.1.ownBlock=X g->b.2.1.ownBlock≠X g)
def cA(W:iW)(B:Nat)(v:iX)(rs:List Kw):Prop:=
 W.ownsRow B 189 2 v rs.length (d8 rs)/\(∀r∈rs,aG 3 B W.heap.size r.2.1 r.2.2.length (ax r.2.2) W/\r.2.2.length<=maxLen)/\zG rs
def pY(lo hi:Nat)(v:iX)(rs:List Kw)(W:iW):Prop:=
 aG 189 lo hi v rs.length (d8 rs) W/\(∀r∈rs,aG 3 lo hi r.2.1 r.2.2.length (ax r.2.2) W/\r.2.2.length<=maxLen)/\zG rs/\rs.length<=maxLen
def dy(lo hi:Nat)(v:iX)(M:List Kn):iW->Prop:=λW=>∃rs:List Kw,rs.map aD=M/\pY lo hi v rs W
theorem Cx{w:iW}{cs b:Array iX}(h:w.heap[g]?=X (iC cs 3 (0,0)))(a:w.heap[g]?=X (iC b 189 (0,0))):False:=by
 rw[h]at a;injection a with a
 injection a with _ a
 simp at a
theorem cA.below{W a:iW}{v:iX}(h:cA W B v rs)(b:iL W.heap.size W a):cA a B v rs:=
 ⟨bE h.1 b,λr c=>⟨((h.2.1 r c).1.blw b).up b.size,(h.2.1 r c).2⟩,h.2.2⟩
theorem cA.down{W:iW}{v:iX}(h:cA W B v rs)(a:B'<=B):cA W B' v rs:=
 ⟨lJ h.1 a,λr b=>⟨(h.2.1 r b).1.dn a,(h.2.1 r b).2⟩,h.2.2⟩
theorem cA.nil(W:iW)(B:Nat):cA W B (Y O 0 0) []:=⟨uK _ _ _ _,(λ_ h=>by cases h),List.Pairwise.nil⟩
theorem cA.snoc {f W y:iW} {v u':iX} {r:Kw} (h0:cA f B v rs) (u:iL f.heap.size f W) (p:B<=f.heap.size) (l:aG 3 f.heap.size W.heap.size r.2.1 r.2.2.length (ax r.2.2) W) (z:r.2.2.length<=maxLen)
 (d:W.grownBy y v.ownBlock) (A:y.ownsRow B 189 2 u' (rs++[r]).length (d8 (rs++[r]))):cA y B u' (rs++[r]):=by
 have h:=h0.below u;have w:=mD h.1;have j:∀(t:iX) (g:Nat),v.ownBlock=X g->∀{lo hi n:Nat} {xs:List iX},aG 3 lo hi t n xs W->t.ownBlock≠X g:=by
  intro t g d lo hi n xs hs e;obtain⟨-,-,cs,q⟩:=w g d;obtain⟨-,-,m,q'⟩:=hs.lt g e;exact Cx q' q
 refine⟨A,?_,?_⟩
 ·intro x c;rcases bG.1 c with c|c
  ·exact⟨((h.2.1 x c).1.grown d (λg e i=>j _ g i (h.2.1 x c).1 e)).up d.size,(h.2.1 x c).2⟩
  ·simp only[bR]at c;subst c;exact⟨((l.grown d (λg e i=>j _ g i l e)).dn p).up d.size,z⟩
 ·refine iu.2 ⟨h.2.2,mA _ _,?_⟩;intro a s b k g o i;simp only[bR]at k;subst k;have C:=((h0.2.1 a s).1.lt g o).2.1;have D:=(l.lt g i).1;omega
theorem cA.form{W:iW}{v:iX}(h:cA W B v rs):∃ad c,v=Y ad rs.length c:=by
 rcases h.1.2 with⟨rfl,h0⟩|⟨g,cap,a,rfl,-⟩
 ·exact⟨_,_,by rw[h0]⟩
 ·exact⟨_,_,rfl⟩
theorem cA.len{W:iW}{v:iX}(h:cA W B v rs):rs.length<=maxLen:=by
 rcases h.1.2 with⟨rfl,h0⟩|⟨g,cap,a,rfl,-,-,h1,b,-⟩
 ·rw[h0];unfold maxLen;omega
 ·omega
theorem cA.fK{W:iW}{v:iX}(h:cA W B v rs):pY B W.heap.size v rs W:=⟨aG.of h.1,h.2.1,h.2.2,h.len⟩
theorem pY.rd{W:iW}{hi c:Nat}(h:pY lo hi (Y ad n c) rs W)(l:rs.length=n)(f:hi<=W.heap.size):dB W ad n rs:=by
 obtain⟨h1,a,o,h4⟩:=h;refine⟨l,by omega,λr d=>ku.of (a r d).1 (a r d).2 f,λh0=>?_⟩
 rcases h1 with⟨e,q⟩|⟨g,cap,e,p,s,m⟩
 ·omega
 ·injection e with e1 e2 e3
  refine⟨g,0,e1,by omega,λi r hi=>?_⟩
  have b:=λj v k=>m.cell (Li rs i r hi j v k)
  refine⟨?_,?_⟩
  ·simpa using b 0 _ rfl
  ·simpa using b 1 _ rfl
theorem pY.loc(lo hi:Nat)(v:iX)(rs:List Kw):mt lo hi (pY lo hi v rs):=by
 intro w w' a h;exact⟨aG.loc _ _ _ _ _ _ w w' a h.1,λr b=>⟨aG.loc _ _ _ _ _ _ w w' a (h.2.1 r b).1,(h.2.1 r b).2⟩,h.2.2⟩
theorem dy.loc(lo hi:Nat)(v:iX)(M:List Kn):mt lo hi (dy lo hi v M):=by
 rintro w w' b ⟨rs,h1,a⟩;exact⟨rs,h1,pY.loc _ _ _ _ w w' b a⟩
theorem dy.form{W:iW}{hi:Nat}{v:iX}{M:List Kn}(h:dy lo hi v M W):∃ad c,v=Y ad M.length c:=by
 obtain⟨rs,rfl,h1,-⟩:=h;obtain⟨ad,c,e,-⟩:=h1.form;exact⟨ad,c,by rw[e];simp⟩
def oz(w:iW)(L:List Kn)(v:iX)(w':iW):Prop:=
 ∃a rs,v=iA #[a]/\cA w' w.heap.size a rs/\rs.map aD=L/\iL w.heap.size w w'
theorem JQ{hi:Nat}{v:iX}{xs:List iX}{t:TypeId}{W:iW}{cs:Array iX}(h:aG t lo hi v n xs W)(q:W.heap[i]?=X (iC cs 30 (0,0)))(b:t≠30):v.ownBlock≠X i:=by
 intro e;obtain⟨-,-,a,q'⟩:=h.lt i e;rw[q]at q';injection q' with q'
 injection q' with _ q'
 exact b q'.symm
theorem cA.cell{W:iW}{B i:Nat}{v:iX}{rs:List Kw}{cs:Array iX}(h:cA W B v rs)(q:W.heap[i]?=X (iC cs 30 (0,0)))(j:Nat)(u:iX):cA (W.setCell ⟨i,j,O⟩ u) B v rs:=by
 have a:=mg W i j u;refine⟨h.1.kept a (.inr ?_),λr b=>⟨((h.2.1 r b).1.grown a (λg e c=>?_)).up a.size,(h.2.1 r b).2⟩,h.2.2⟩
 ·exact JQ (aG.of h.1) q (by decide)
 ·cases c;exact JQ (h.2.1 r b).1 q (by decide) e
def Dw(w:iW)(L:List Kn)(r:Int)(e:Ending)(w':iW):Prop:=∃v,e=G (iU #[v,I J r])/\oz w L v w'
namespace Words
variable{α:Type}{lf:Bool}{r n:Int}{i k q s:Nat}
variable{l:List Kn}
theorem Jb(h:∀i x,l[i]?=X x->gT l i x=iV):bU l=iV:=by
 have:∀k,jp l k=iV:=by
  intro k
  induction k with
  |zero=>rfl
  |succ k b=>
   rw[jp,b,gk];cases a:l[k]? with
   |none=>rfl
   |some x=>exact h k x a
 exact this _
theorem tY{x:Kn}(h4:x.fD.length=4)(h:∀n∈x.fD,eQ l i x.leaf n=iV):gT l i x=iV:=by
 rw[gT,aW h4,gk,gV];exact h
theorem AD{m:List Kn}(h:i<l.length):(l++m)[i]?=l[i]?:=hI h
theorem zL{m:List Kn}{n:Int}(h:n.toNat<l.length):i7 (l++m) n=i7 l n:=by rw[i7,i7,AD h]
theorem Cf{m:List Kn}(h:r.toNat<l.length):dI (l++m) r k=dI l r k:=by rw[dI,dI,AD h]
theorem YY{m:List Kn}{n:Int}(h:eQ l i lf n=iV):eQ (l++m) i lf n=iV:=by
 unfold eQ at h⊢;cases lf with
 |true=>exact h
 |false=>
  simp only[eS,fb,jS,bn,bH]at h⊢;rcases h with h|⟨⟨h1,b⟩,a⟩
  ·exact .inl h
  ·obtain⟨y,hy,-⟩:=zO a;exact .inr ⟨⟨h1,b⟩,by rw[zL (aB.1 hy).1];exact a⟩
theorem VE{m:List Kn}{x:Kn}(h:gT l i x=iV):gT (l++m) i x=iV:=by
 refine tY (mf h) (λn b=>?_)
 obtain⟨k,a⟩:=io b;exact YY (ui h a)
theorem Ot{m:List Kn}(h:bt l r=iV):bt (l++m) r=iV:=by
 unfold bt at h⊢;simp only[jS,bn,bH,ng,aJ]at h⊢;rcases h with h|⟨⟨h1,b⟩,a⟩
 ·exact .inl h
 ·exact .inr ⟨⟨h1,by omega⟩,by rw[zL (by omega)];exact a⟩
theorem Pn{m:List Kn}{s:Nat}(d:bU l=iV)(g:bt l r=iV)(hs:s<=15):ce (l++m) r s=ce l r s:=by
 unfold ce;by_cases h0:r<0
 ·rw[ak h0,ak h0]
 ·rw[aj h0,aj h0];obtain⟨x,b,c⟩:=lu g (by omega)
  have a:=(aB.1 b).1;rw[Cf a];obtain⟨n,f,e⟩:=lM d b c (show s/4<4 by omega)
  rw[hO b f];rcases e with rfl|⟨h1,h,y,hy,-,-⟩
  ·rw[ak (by omega),ak (by omega)]
  ·rw[aj (by omega),aj (by omega),Cf (aB.1 hy).1]
def sL(l:List Kn)(r:Int)(q:Nat):List Int:=if r<0 then[0,0,0,0]else if dI l r q<0 then[0,0,0,0]else((l[(dI l r q).toNat]?).map Kn.fD).getD []
def rU(l:List Kn)(r:Int):List Int:=if r<0 then[-1,-1,-1,-1]else((l[r.toNat]?).map Kn.fD).getD []
theorem Bj(l:List Kn)(r:Int)(s:Nat)(n:Int):ij l r s n=⟨iV,(sL l r (s/4)).set (s % 4) n⟩:=rfl
theorem IC(l:List Kn)(r:Int)(s:Nat):ik l r s=⟨iF,(rU l r).set (s/4) (l.length:Int)⟩:=rfl
theorem wG(k:Nat)(a:k<4):([0,0,0,0]:List Int)[k]?=X 0:=by
 match k,a with
 |0,_|1,_|2,_|3,_=>rfl
theorem Zf(k:Nat)(a:k<4):([-1,-1,-1,-1]:List Int)[k]?=X (-1):=by
 match k,a with
 |0,_|1,_|2,_|3,_=>rfl
theorem Bq(e:bU l=iV)(p:bt l r=iV)(o:q<4)(a:k<4):(sL l r q)[k]?=X (ce l r (4*q+k))/\0<=ce l r (4*q+k):=by
 have h:(4*q+k)/4=q:=by omega
 have i:(4*q+k) % 4=k:=by omega
 unfold sL ce;rw[h,i];by_cases h0:r<0
 ·rw[ak h0,ak h0];exact⟨wG k a,by omega⟩
 ·rw[aj h0,aj h0];obtain⟨x,g,c⟩:=lu p (by omega)
  obtain⟨n,m,j⟩:=lM e g c o;rw[hO g m];rcases j with rfl|⟨h1,s,y,hy,d,-⟩
  ·rw[ak (by omega),ak (by omega)]
   exact⟨wG k a,by omega⟩
  ·rw[aj (by omega),aj (by omega),hy]
   obtain⟨v,f,b⟩:=vN e hy d a;rw[hO hy f];exact⟨f,b⟩
theorem Aw(c:bU l=iV)(g:bt l r=iV)(f:q<4):(sL l r q).length=4:=by
 unfold sL;by_cases h0:r<0
 ·rw[ak h0];rfl
 ·rw[aj h0];obtain⟨x,b,a⟩:=lu g (by omega)
  obtain⟨n,e,d⟩:=lM c b a f;rw[hO b e];rcases d with rfl|⟨h1,i,y,hy,h,h4⟩
  ·rw[ak (by omega)];rfl
  ·rw[aj (by omega),hy];exact h4
theorem I6(f:bU l=iV)(h:bt l r=iV)(d:k<4):∃n,(rU l r)[k]?=X n/\(n= -1∨0<=n/\n<l.length/\i7 l n=iV)/\n=if r<0 then-1 else dI l r k:=by
 unfold rU;by_cases h0:r<0
 ·rw[ak h0,ak h0];exact⟨-1,Zf k d,.inl rfl,rfl⟩
 ·rw[aj h0,aj h0];obtain⟨x,a,b⟩:=lu h (by omega)
  obtain⟨n,e,g⟩:=lM f a b d;rw[a];refine⟨n,e,?_,(hO a e).symm⟩;rcases g with rfl|⟨h1,i,y,hy,c,-⟩
  ·exact .inl rfl
  ·have:=(aB.1 hy).1;exact .inr ⟨h1,by omega,by rw[oJ hy];exact c⟩
theorem Ct(b:bU l=iV)(c:bt l r=iV):(rU l r).length=4:=by
 unfold rU;by_cases h0:r<0
 ·rw[ak h0];rfl
 ·rw[aj h0];obtain⟨x,a,d⟩:=lu c (by omega)
  rw[a];exact mf (lN b a)
section
theorem we:(l++[ij l r s n,ik l r s])[l.length]?=X (ij l r s n):=by simp
theorem Ae:(l++[ij l r s n,ik l r s])[l.length+1]?=X (ik l r s):=by simp
theorem Jv{xs:List α}{v x:α}(h:x∈xs.set k v):x=v∨∃j:Nat,xs[j]?=X x:=by
 rcases nK h with h|h
 ·exact .inr (io h)
 ·exact .inl h
theorem zo(b:bU l=iV)(f:bt l r=iV)(hs:s<=15)(t:0<=n):bU (l++[ij l r s n,ik l r s])=iV:=by
 refine Jb (λi x d=>?_)
 have hi:=(aB.1 d).1;simp only[aJ,aV,dU]at hi;by_cases h1:i<l.length
 ·rw[AD h1]at d;exact VE (lN b d)
 ·by_cases o:i=l.length
  ·subst o;rw[we]at d;cases d;rw[Bj];refine tY (by rw[gI];exact Aw b f (by omega)) (λv h=>?_)
   simp only[eQ,dw,bH];rcases Jv h with rfl|⟨j,c⟩
   ·exact t
   ·have a:=(aB.1 c).1;rw[Aw b f (by omega)]at a
    obtain⟨e,k⟩:=Bq b f (show s/4<4 by omega) a
    rw[e]at c;cases c;exact k
  ·have p:i=l.length+1:=by omega
   subst p;rw[Ae]at d;cases d;rw[IC];refine tY (by rw[gI];exact Ct b f) (λv h=>?_)
   simp only[eQ,eS,fb,jS,bn,bH];rcases Jv h with rfl|⟨j,c⟩
   ·refine .inr ⟨⟨by omega,by omega⟩,?_⟩
    have:=we (l:=l) (r:=r) (s:=s) (n:=n);rw[IC]at this;rw[i7,bk,this];rfl
   ·have a:=(aB.1 c).1;rw[Ct b f]at a;obtain⟨m,q,g,-⟩:=I6 b f a;rw[q]at c;cases c;rcases g with g|⟨c1,c2,c3⟩
    ·exact .inl g
    ·exact .inr ⟨⟨c1,by omega⟩,by rw[zL (by omega)];exact c3⟩
theorem Mf:bt (l++[ij l r s n,ik l r s]) ((l.length:Int)+1)=iV:=by
 unfold bt;simp only[jS,bn,bH,ng,aJ,aV,dU];refine .inr ⟨⟨by omega,by omega⟩,?_⟩
 have e:((l.length:Int)+1).toNat=l.length+1:=by omega
 rw[i7,e,Ae];rfl
theorem Jq{m:Int}(h:((rU l r).set (s/4) (l.length:Int))[k]?=X m):dI (l++[ij l r s n,ik l r s]) ((l.length:Int)+1) k=m:=by
 have e:((l.length:Int)+1).toNat=l.length+1:=by omega
 exact hO (by rw[e];exact Ae) h
theorem UZ(d:bU l=iV)(f:bt l r=iV)(hs:s<=15)(hi:i<=15):ce (l++[ij l r s n,ik l r s]) ((l.length:Int)+1) i=if i=s then n else ce l r i:=by
 have j:i/4<4:=by omega
 have c:s/4<4:=by omega
 have k:4*(i/4)+i % 4=i:=by omega
 by_cases b:i/4=s/4
 ·have h:dI (l++[ij l r s n,ik l r s]) ((l.length:Int)+1) (i/4)=l.length:=Jq (by rw[b,lZ (by rw[Ct d f];exact c)])
  have g:ce (l++[ij l r s n,ik l r s]) ((l.length:Int)+1) i=dI (l++[ij l r s n,ik l r s]) (l.length:Int) (i % 4):=by
   conv=>lhs;unfold ce
   rw[aj (by omega),h,aj (by omega)]
  rw[g];by_cases e:i=s
  ·rw[ak e];refine hO (by rw[bk];exact we) ?_
   rw[Bj,e];exact lZ (by rw[Aw d f c];omega)
  ·rw[aj e];refine hO (by rw[bk];exact we) ?_
   rw[Bj];show((sL l r (s/4)).set (s % 4) n)[i % 4]?=_;rw[oE (by omega),<-b,(Bq d f j (show i % 4<4 by omega)).1,k]
 ·rw[aj (by intro e;rw[e]at b;exact b rfl)]
  obtain⟨m,p,o,a⟩:=I6 d f j;have h:dI (l++[ij l r s n,ik l r s]) ((l.length:Int)+1) (i/4)=m:=Jq (by rw[oE (λe=>b e.symm)];exact p)
  conv=>lhs;unfold ce
  rw[aj (by omega),h]
  unfold ce;by_cases h0:r<0
  ·rw[ak h0]at a;rw[ak h0,a,ak (by omega)]
  ·rw[aj h0]at a;rw[aj h0,<-a];rcases o with rfl|⟨c1,c2,c3⟩
   ·rw[ak (by omega),ak (by omega)]
   ·rw[aj (by omega),aj (by omega),Cf (by omega)]
end
end Words
structure Lk where
 place:Int
 leaf:Bool
 nums:List Int
 tos:List (Option Nat)
 need:Bool
def ptr(b:Nat):iX:=iP (X ⟨b,0,O⟩)
def lm:Option Nat->iX
 |none=>iP O
 |some b=>ptr b
def mF(l:List (Option Nat)):List iX:=l.map lm
def pi(l:List Nat):List iX:=l.map ptr
def ml(x:Lk):List iX:=[I J x.place,iB x.leaf]++(ax x.nums++(mF x.tos++[iB x.need]))
def Lk.Four(x:Lk):Prop:=x.nums.length=4/\x.tos.length=4
def cB(W:iW)(b:Nat)(x:Lk):Prop:=W.heap[b]?=X (iC (ml x).toArray 247 (0,0))/\x.Four
variable{α:Type}{lf:Bool}{fn:Func}{xs:List Int}{b C k g n i B z:Nat}
theorem cB.lt{W:iW}{x:Lk}(h:cB W b x):b<W.heap.size:=(aL.1 h.1).1
theorem cB.below{W a:iW}{x:Lk}(h:cB W b x)(d:iL C W a)(c:b<C):cB a b x:=⟨(d.block b c).trans h.1,h.2⟩
theorem cB.blw{W a:iW}{x:Lk}(h:cB W b x)(c:iL W.heap.size W a):cB a b x:=h.below c h.lt
theorem cB.frozen{W:iW}{x:Lk}(h:cB W b x)(o:Nat):W.frozen? ⟨b,o,O⟩=iF:=aF _ _ o _ _ h.1
theorem cB.cell{W:iW}{b k:Nat}{x:Lk}{v:iX}(h:cB W b x)(a:(ml x)[k]?=X v):W.cell? ⟨b,k,O⟩=X v:=by
 rw[ai _ _ k _ _ _ h.1]
 simpa using a
theorem cB.place{W:iW}{x:Lk}(h:cB W b x):W.cell? ⟨b,0,O⟩=X (I J x.place):=h.cell rfl
theorem cB.leaf{W:iW}{x:Lk}(h:cB W b x):W.cell? ⟨b,1,O⟩=X (iB x.leaf):=h.cell rfl
theorem Wh{x:Lk}{n:Int}(a:x.nums[k]?=X n):(ml x)[2+k]?=X (I J n):=by
 have b:=(aB.1 a).1;rw[ml,ct (by simp),hI (by simp[ax];omega)]
 simpa using iI a
theorem Zs{x:Lk}(h4:x.Four){o:Option Nat}(a:x.tos[k]?=X o):(ml x)[6+k]?=X (lm o):=by
 have b:=(aB.1 a).1;have h1:(ax x.nums).length=4:=by simp[ax,h4.1]
 rw[ml,ct (by simp;omega),ct (by rw[h1];simp;omega),hI (by rw[h1];simp[mF];omega),h1]
 have e:6+k- [I J x.place,iB x.leaf].length-4=k:=by simp;omega
 rw[e,mF,bi,a];rfl
theorem cB.num{W:iW}{x:Lk}{n:Int}(h:cB W b x)(a:x.nums[k]?=X n):W.cell? ⟨b,2+k,O⟩=X (I J n):=h.cell (Wh a)
theorem cB.to{W:iW}{x:Lk}{o:Option Nat}(h:cB W b x)(a:x.tos[k]?=X o):W.cell? ⟨b,6+k,O⟩=X (lm o):=h.cell (Zs h.2 a)
theorem cB.set{W:iW}{x a:Lk}{u:iX}(h:cB W b x)(h4:a.Four)(e:ml a=(ml x).set k u):cB (W.setCell ⟨b,k,O⟩ u) b a:=by
 refine⟨?_,h4⟩;rw[dq h.1,e];simp
theorem cB.other{W:iW}{x:Lk}(h:cB W b x)(a:b≠g)(u:iX):cB (W.setCell ⟨g,k,O⟩ u) b x:=⟨cU h.1 a _ _,h.2⟩
theorem cB.setNum{W:iW}{x:Lk}(h:cB W b x)(a:k<4)(n:Int):cB (W.setCell ⟨b,2+k,O⟩ (I J n)) b {x with nums:=x.nums.set k n}:=by
 refine h.set ⟨by simp[h.2.1],h.2.2⟩ ?_
 have h1:(ax x.nums).length=4:=by simp[ax,h.2.1]
 rw[ml,ml,jm _ _ (by simp),Dk _ _ (by rw[h1];simp;omega)]
 have e:2+k- [I J x.place,iB x.leaf].length=k:=by simp
 rw[e];simp[ax,List.map_set]
theorem cB.setTo{W:iW}{x:Lk}(h:cB W b x)(c:k<4)(o:Option Nat):cB (W.setCell ⟨b,6+k,O⟩ (lm o)) b {x with tos:=x.tos.set k o}:=by
 refine h.set ⟨h.2.1,by simp[h.2.2]⟩ ?_
 have h1:(ax x.nums).length=4:=by simp[ax,h.2.1]
 have a:(mF x.tos).length=4:=by simp[mF,h.2.2]
 rw[ml,ml,jm _ _ (by simp;omega),jm _ _ (by rw[h1];simp;omega),Dk _ _ (by rw[h1,a];simp;omega),h1]
 have e:6+k- [I J x.place,iB x.leaf].length-4=k:=by simp;omega
 rw[e];simp[mF,List.map_set]
theorem Az(b:Nat)(x:Lk)(s:Nat)(v:Int)(w:iW)(hs:s<=15)(h:cB w b x)(g:(∃k,k=s/4/\x.tos[k]?=X O/\v=0)∨∃c y,x.tos[s/4]?=X (X c)/\cB w c y/\y.nums[s % 4]?=X v):
 iK Tryz.prog 134 #[ptr b,I J s] w λe w'=>e=G (I J v)/\w'=w:=by
 obtain⟨q,d⟩:=aq (s/4);obtain⟨t,f⟩:=aq (s % 4);rw[d]at g;rw[f]at g;have p:(s:Int).tdiv 4=(q:Int):=by rw[AX (by omega)];omega
 have r:(s:Int).tmod 4=(t:Int):=by rw[zw (by omega)];omega
 have j:(s:Int)/4=(q:Int):=by omega
 have l:(s:Int) % 4=(t:Int):=by omega
 have q0:(0:Int)<=q:=by omega
 have m:(q:Int)<4:=by omega
 have n:(0:Int)<=t:=by omega
 have o:(t:Int)<4:=by omega
 rcases g with⟨k,rfl,a,rfl⟩|⟨c,y,a,hy,i⟩
 ·have c1:w.cell? ⟨b,6+k,O⟩=X (iP O):=h.to a;clear h a d f;unfold ptr;go_enter Tryz.func134,Tryz.ntmps134;go_wp2;go_ret;exact⟨rfl,rfl⟩
 ·have c1:w.cell? ⟨b,6+q,O⟩=X (iP (X ⟨c,0,O⟩)):=h.to a;have c2:w.cell? ⟨c,2+t,O⟩=X (I J v):=hy.num i;clear h a d f hy i;unfold ptr;go_enter Tryz.func134,Tryz.ntmps134;go_wp2;go_ret;exact⟨rfl,rfl⟩
def ky(W:iW)(a:Option Addr)(n:Nat)(bs:List Nat):Prop:=bs.length=n/\n<=maxLen/\(0<n->∃g,a=X ⟨g,0,O⟩/\g<W.heap.size/\∀(i b:Nat),bs[i]?=X b->W.cell? ⟨g,i,O⟩=X (ptr b))
theorem ky.below{W a:iW}{c:Option Addr}{bs:List Nat}(h:ky W c n bs)(d:iL W.heap.size W a):ky a c n bs:=by
 obtain⟨h1,f,j⟩:=h;refine⟨h1,f,λh0=>?_⟩
 obtain⟨g,e,l,k⟩:=j h0;have:=d.size;exact⟨g,e,by omega,λi b hi=>(d.cell (show g<W.heap.size from l)).trans (k i b hi)⟩
theorem ky.at{W:iW}{a:Option Addr}{bs:List Nat}(h:ky W a n bs)(hi:bs[i]?=X b):∃g,a=X ⟨g,0,O⟩/\g<W.heap.size/\W.cell? ⟨g,i,O⟩=X (ptr b):=by
 have:=(aB.1 hi).1;obtain⟨g,e,d,c⟩:=h.2.2 (by have:=h.1;omega)
 exact⟨g,e,d,c i b hi⟩
theorem Ru{l:List Nat}(h:l[k]?=X b):(pi l)[k]?=X (ptr b):=by rw[pi,bi,h];rfl
theorem UB(l:List Nat)(b:Nat):pi l++[ptr b]=pi (l++[b]):=by simp[pi]
theorem ky.of{W:iW}{v:iX}{bs:List Nat}(h:W.ownsRow B 192 1 v bs.length (pi bs)):∃a c,v=Y a bs.length c/\ky W a bs.length bs:=by
 rcases h.2 with⟨rfl,h0⟩|⟨g,cap,d,rfl,h1,e,f,h4,j,k⟩
 ·exact⟨O,0,by rw[h0],rfl,by rw[h0];unfold maxLen;omega,λh=>by omega⟩
 ·refine⟨_,_,rfl,rfl,by omega,λ_=>⟨g,rfl,(aL.1 e).1,λi b hi=>?_⟩⟩
  rw[<-fw];exact h.cells (g:=g) rfl i _ (Ru hi)
def ft(W:iW)(bs:List Nat)(xs:List Lk):Prop:=bs.length=xs.length/\∀(i b:Nat) (x:Lk),bs[i]?=X b->xs[i]?=X x->cB W b x
theorem ft.below{W a:iW}{bs:List Nat}{xs:List Lk}(h:ft W bs xs)(d:iL W.heap.size W a):ft a bs xs:=⟨h.1,λi b x h1 c=>(h.2 i b x h1 c).blw d⟩
theorem ft.get{W:iW}{bs:List Nat}{xs:List Lk}(h:ft W bs xs){x:Lk}(a:xs[i]?=X x):∃b,bs[i]?=X b/\cB W b x:=by
 have:=(aB.1 a).1;exact⟨_,ay (by rw[h.1];exact this),h.2 i _ x (ay (by rw[h.1];exact this)) a⟩
theorem ft.nil(W:iW):ft W [] []:=⟨rfl,λ_ _ _ h=>by simp at h⟩
def gW(bs:List Nat)(xs:List Lk)(p:Int):Option Nat:=if p<0 then O else(xs[p.toNat]?).bind (λx=>if x.leaf=iV then bs[p.toNat]? else O)
theorem PG(k:Option Addr)(n c:Nat)(bs:List Nat)(xs:List Lk)(p:Int)(w:iW)(f:ky w k n bs)(d:ft w bs xs):
 iK Tryz.prog 231 #[Y k n c,I J p] w λe w'=>e=G (lm (gW bs xs p))/\w'=w:=by
 have i:xs.length=n:=by rw[<-d.1];exact f.1
 by_cases h0:p<0
 ·have E:ah (gW bs xs p=O):=ak h0;rw[E.o];clear f d i E;go_enter Tryz.func231,Tryz.ntmps231;go_wp2;go_ret;exact⟨rfl,rfl⟩
 ·obtain⟨m,rfl⟩:∃m:Nat,p=(m:Int):=⟨p.toNat,by omega⟩
  by_cases h1:(n:Int)<=m
  ·have E:ah (gW bs xs (m:Int)=O):=by
    show _=_;rw[gW,aj h0,bk,wV (by omega)]
    rfl
   rw[E.o];clear f d i E;go_enter Tryz.func231,Tryz.ntmps231;go_wp2;go_ret;exact⟨rfl,rfl⟩
  ·obtain⟨x,j⟩:∃x,xs[m]?=X x:=⟨_,ay (by omega)⟩
   obtain⟨b,h,l⟩:=d.get j;obtain⟨g,rfl,-,q⟩:=f.at h;have c1:=l.leaf;unfold ptr at q;have r:(0:Int)<=m:=by omega
   have s:(m:Int)<n:=by omega
   have E:ah (gW bs xs (m:Int)=if x.leaf=iV then X b else O):=by
    show _=_;rw[gW,aj h0,bk,j,h];rfl
   rw[E.o];clear f d i E l h j h0 h1;cases a:x.leaf with
   |true=>
    rw[a]at c1;clear a;go_enter Tryz.func231,Tryz.ntmps231;go_wp2;go_ret;exact⟨rfl,rfl⟩
   |false=>
    rw[a]at c1;clear a;go_enter Tryz.func231,Tryz.ntmps231;go_wp2;go_ret;exact⟨rfl,rfl⟩
def Cz:Lk:=⟨-1,iF,[0,0,0,0],[O,O,O,O],iF⟩
theorem OY(a:iX)(w:iW):
 iK Tryz.prog 175 #[a,I J (-1)] w λe w'=>e=G (ptr w.heap.size)/\cB w' w.heap.size Cz/\iL w.heap.size w w':=by
 go_enter Tryz.func175,Tryz.ntmps175;go_wp2;go_ret;exact⟨rfl,⟨aC w _,rfl,rfl⟩,bh⟩
theorem Xk(h:Option Addr)(n c:Nat)(bs:List Nat)(xs:List Lk)(m b:Nat)(x:Lk)(w:iW)(f:ky w h n bs)(i:ft w bs xs)(k:xs[m]?=X x)(d:bs[m]?=X b)(j:x.leaf=iF):
 iK Tryz.prog 175 #[Y h n c,I J m] w λe w'=>e=G (ptr b)/\w'=w:=by
 have a:=(aB.1 d).1;rw[f.1]at a;obtain⟨g,rfl,-,l⟩:=f.at d;have c1:=(i.2 m b x d k).leaf;rw[j]at c1;unfold ptr at l⊢;have o:(0:Int)<=m:=by omega
 have p:(m:Int)<n:=by omega
 have m1:((m:Int)== -1)=iF:=by rw[du];omega
 clear f i k d j a;go_enter Tryz.func175,Tryz.ntmps175;go_wp2;go_ret;exact⟨rfl,rfl⟩
theorem MX(j:Option Addr)(n c:Nat)(bs:List Nat)(xs:List Lk)(r:Int)(w:iW)(f:ky w j n bs)(d:ft w bs xs)(h1:r≠-1)(a:r<0∨(n:Int)<=r∨∃x,xs[r.toNat]?=X x/\x.leaf=iV):
 iK Tryz.prog 175 #[Y j n c,I J r] w λe w'=>e=G (iP O)/\w'=w:=by
 have m1:(r== -1)=iF:=by rw[du];exact h1
 by_cases h0:r<0
 ·clear f d a h1;go_enter Tryz.func175,Tryz.ntmps175;go_wp2;go_ret;exact⟨rfl,rfl⟩
 ·by_cases p:(n:Int)<=r
  ·clear f d a h1;go_enter Tryz.func175,Tryz.ntmps175;go_wp2;go_ret;exact⟨rfl,rfl⟩
  ·obtain⟨x,i,o⟩:∃x,xs[r.toNat]?=X x/\x.leaf=iV:=by
    rcases a with h|h|h
    ·omega
    ·omega
    ·exact h
   obtain⟨m,rfl⟩:∃m:Nat,r=(m:Int):=⟨r.toNat,by omega⟩
   rw[bk]at i;obtain⟨b,l,k⟩:=d.get i;obtain⟨g,rfl,-,q⟩:=f.at l;have c1:=k.leaf;rw[o]at c1;unfold ptr at q;have s:(0:Int)<=m:=by omega
   have t:(m:Int)<n:=by omega
   clear f d i l o k a h1 h0 p;go_enter Tryz.func175,Tryz.ntmps175;go_wp2;go_ret;exact⟨rfl,rfl⟩
theorem FC:(Tryz.prog.info? 244).map (·.size)=X 4:=by kernel_rfl
theorem JV:(Tryz.prog.info? 192).map (λi=>(i.zero,i.size,i.bytes))=X (X (iP O),1,8):=by kernel_rfl
theorem Xc{w:iW}{l:List iX}{t:TypeId}(h:w.heap[g]?=X (iC l.toArray t (0,0))):w.rangeAt g 0 l:=by
 intro j v a;rw[eV,ai _ _ j _ _ _ h]
 simpa using a
theorem Fy {p:Tmp} {b t:TypeId} (h:fn.results= #[.cell p b]) (a:Array iX) (w:iW) (g:Nat) (l:List iX) (d:TypeDesc)
 (j:a.getD p undef=iP (X ⟨g,0,O⟩)) (e:w.heap[g]?=X (iC l.toArray t (0,0))) (k:Tryz.prog.underlying b=X d) (f:d.isRow=iV) (hi:(Tryz.prog.info? b).map (·.size)=X l.length):
 (results fn a).run Tryz.prog w=.ok (iA l.toArray) w:=by
 have c:a[p]?.getD undef=iP (X ⟨g,0,O⟩):=by simpa using j
 have i:=run_loadVar_mid (P:=Tryz.prog) w g 0 b l d (Xc e) k f hi;simp[results,h,c,asAddr,i]
theorem OU{w:iW}{e f i j:iX}{t:TypeId}(h:w.heap[g]?=X (iC #[e,f,i,j] t (0,0)))(a b c d:iX):
 ((((w.setCell ⟨g,0,O⟩ a).setCell ⟨g,1,O⟩ b).setCell ⟨g,2,O⟩ c).setCell ⟨g,3,O⟩ d).heap[g]?=X (iC #[a,b,c,d] t (0,0)):=
 dq (dq (dq (dq h 0 a) 1 b) 2 c) 3 d
theorem Sh{a w:iW}(h:iL B a w)(b:B<=g)(c d e f:iX):iL B a ((((w.setCell ⟨g,0,O⟩ c).setCell ⟨g,1,O⟩ d).setCell ⟨g,2,O⟩ e).setCell ⟨g,3,O⟩ f):=
 (((h.setCell (p:=⟨g,0,O⟩) b c).setCell (p:=⟨g,1,O⟩) b d).setCell (p:=⟨g,2,O⟩) b e).setCell (p:=⟨g,3,O⟩) b f
theorem uZ{l:List α}(h:l.length=4):∃a b c d,l=[a,b,c,d]:=by
 match l,h with
 | [a,b,c,d],_=>exact⟨a,b,c,d,rfl⟩
def sP(W:iW)(x:Lk)(a:List Int):Prop:=if x.leaf=iV then a=x.nums else a.length=4/\∀(k:Nat) (o:Option Nat),x.tos[k]?=X o->∃p,a[k]?=X p/\(o=O/\p= -1∨∃c,o=X c/\W.cell? ⟨c,0,O⟩=X (I J p)/\c<W.heap.size)
theorem Vp(l:List (Option Nat))(k:Nat)(o:Option Nat)(e:l.length=4)(b:l[k]?=X o)(W:iW):(Instr.index 245 (iA (mF l).toArray) (I J (k:Int))).run Tryz.prog W=.ok (lm o) W:=by
 have d:k<4:=by rw[<-e];exact(aB.1 b).1
 have c:(mF l)[k]?=X (lm o):=by rw[mF,bi,b];rfl
 obtain⟨h,hi,f,a,g⟩:=bV JV;simp[Instr.index,run_underlying Tryz.underlying245,asIntOf,part,sizeOf,typeInfo,hi,a,isAgg,run_underlying Tryz.underlying192,d,c]
theorem Oc(b:Nat)(x:Lk)(w:iW)(h:cB w b x)(d:x.leaf=iV):
 iK Tryz.prog 232 #[ptr b] w λe w'=>e=G (iA (ax x.nums).toArray)/\iL w.heap.size w w':=by
 obtain⟨f,g,i,j,a⟩:=uZ h.2.1;have c:=h.blw ((az w.heap.size w).alloc (am _) (iC #[I J 0,I J 0,I J 0,I J 0] 244));have c1:=c.leaf;rw[d]at c1;have m:=c.num (k:=0) (n:=f) (by rw[a];rfl)
 have p:=c.num (k:=1) (n:=g) (by rw[a];rfl)
 have q:=c.num (k:=2) (n:=i) (by rw[a];rfl)
 have r:=c.num (k:=3) (n:=j) (by rw[a];rfl)
 have l:=af a;have t:=af (aC w (iC #[I J 0,I J 0,I J 0,I J 0] 244));have s:ah (iL w.heap.size w (w.alloc (iC #[I J 0,I J 0,I J 0,I J 0] 244))):=(az w.heap.size w).alloc (am _) _;simp only[Nat.reduceAdd]at m p q r;clear h c a d;unfold ptr;go_enter Tryz.func232,Tryz.ntmps232;go_wp2;rw[l.o];exact aE (Fy rfl _ _ _ (ax [f,g,i,j]) _ rfl (aC w _) Tryz.underlying244 rfl FC) rfl ⟨rfl,(az w.heap.size w).alloc (am _) _⟩
def lU(w W:iW)(z:Nat)(xs:List Int):Prop:=W.heap[z]?=X (iC #[I J 0,I J 0,I J 0,I J 0] 244 (0,0))/\W.heap[z+1]?=X (iC (ax xs).toArray 244 (0,0))/\iL z w W
theorem lU.set{w W:iW}(h:lU w W z xs)(n:Int):lU w (W.setCell ⟨z+1,k,O⟩ (I J n)) z (xs.set k n):=by
 refine⟨cU h.1 (by omega) _ _,?_,h.2.2.setCell (p:=⟨z+1,k,O⟩) (by show z<=z+1;omega) _⟩
 rw[dq h.2.1];simp[ax,List.map_set]
theorem lU.cell{w W:iW}{z k:Nat}{xs:List Int}{n:Int}(h:lU w W z xs)(a:xs[k]?=X n):W.cell? ⟨z+1,k,O⟩=X (I J n):=by
 rw[ai _ _ k _ _ _ h.2.1]
 simpa using iI a
theorem lU.fr{w W:iW}(h:lU w W z xs)(k:Nat):W.frozen? ⟨z+1,k,O⟩=iF:=aF _ _ k _ _ h.2.1
theorem Mp(b:Nat)(x:Lk)(j:List Int)(w:iW)(h:cB w b x)(C:sP w x j):
 iK Tryz.prog 232 #[ptr b] w λe w'=>e=G (iA (ax j).toArray)/\iL w.heap.size w w':=by
 cases F:x.leaf with
 |true=>
  rw[sP,ak F]at C;rw[C];exact Oc b x w h F
 |false=>
  rw[sP,aj (by rw[F];decide)]at C
  obtain⟨D,E⟩:=C;obtain⟨t0,t1,t2,t3,r⟩:=uZ h.2.2;have n:iL w.heap.size w ((w.alloc (iC #[I J 0,I J 0,I J 0,I J 0] 244)).alloc (iC #[I J 0,I J 0,I J 0,I J 0] 244)):=((az w.heap.size w).alloc (am _) _).alloc (by simp) _
  have K:=h.blw ((az w.heap.size w).alloc (am _) (iC #[I J 0,I J 0,I J 0,I J 0] 244));have c1:=K.leaf;rw[F]at c1;have H:=h.blw n;have T:=H.to (k:=0) (o:=t0) (by rw[r];rfl)
  have U:=H.to (k:=1) (o:=t1) (by rw[r];rfl)
  have V:=H.to (k:=2) (o:=t2) (by rw[r];rfl)
  have Y:=H.to (k:=3) (o:=t3) (by rw[r];rfl)
  have N:ah (lU w ((w.alloc (iC #[I J 0,I J 0,I J 0,I J 0] 244)).alloc (iC #[I J 0,I J 0,I J 0,I J 0] 244)) w.heap.size [0,0,0,0]):=by
   refine⟨(gt _ _ _ (by simp)).trans (aC w _),?_,n⟩
   have:=aC (w.alloc (iC #[I J 0,I J 0,I J 0,I J 0] 244)) (iC #[I J 0,I J 0,I J 0,I J 0] 244);rw[show(w.alloc (iC #[I J 0,I J 0,I J 0,I J 0] 244)).heap.size=w.heap.size+1 by simp]at this
   exact this
  have t:∀o:Option Nat,∃a,lm o=iP a:=λo=>by cases o<;>exact⟨_,rfl⟩
  have HT:=af r;have H4:ah (x.tos.length=4):=h.2.2;have M:=af E;have f:=af D;have s:ah (iA (mF x.tos).toArray=iA #[lm t0,lm t1,lm t2,lm t3]):=by show _=_;rw[r];rfl
  obtain⟨a0,u⟩:=t t0;obtain⟨a1,v⟩:=t t1;obtain⟨a2,y⟩:=t t2;obtain⟨a3,A⟩:=t t3;rw[u]at T s;rw[v]at U s;rw[y]at V s;rw[A]at Y s;simp only[Nat.reduceAdd]at T U V Y;clear h H K r F n t E D u v y A;unfold ptr;go_enter Tryz.func232,Tryz.ntmps232;go_wp2;rw[<-s.o];obtain⟨z,hz⟩:=aq w.heap.size;have HZ:=af hz;rw[hz]at N⊢;clear T U V Y c1 hz s;generalize(w.alloc (iC #[I J 0,I J 0,I J 0,I J 0] 244)).alloc (iC #[I J 0,I J 0,I J 0,I J 0] 244)=wa at N⊢;go_loopw [18] (λiv W=>∃k:Nat,k<=4/\iv=I J k/\ah (lU w W z (j.take k++[0,0,0,0].drop k))) (λiv _=>4-(intOf iv).toNat)
  case atStart=>exact⟨0,by omega,rfl,N⟩
  case round=>
   obtain⟨k,C,rfl,g⟩:=hrel;clear N;by_cases ad:(k:Int)<4
   ·obtain⟨o,P⟩:∃o,x.tos[k]?=X o:=⟨_,ay (by have:=H4.o;omega)⟩
    have i:=Vp x.tos k o H4.o P;obtain⟨p,Q,Z⟩:=M.o k o P;have k0:(0:Int)<=k:=by omega
    have oc:wr.cell? ⟨z+1,k,O⟩=X (I J 0):=g.o.cell (by
     rw[ct (by simp;omega),cG,qt (by have:=f.o;omega),kM,lh]
     have:k=0∨k=1∨k=2∨k=3:=by omega
     rcases this with rfl|rfl|rfl|rfl<;>rfl)
    have of:=g.o.fr k;have S:∀m:Int,ah (lU w (wr.setCell ⟨z+1,k,O⟩ (I J m)) z ((j.take k++[0,0,0,0].drop k).set k m)):=λm=>g.o.set m
    have L:ah ((j.take k++[0,0,0,0].drop k).set k p=j.take (k+1)++[0,0,0,0].drop (k+1)):=by
     show _=_;have aa:=(aB.1 Q).1;rw[jm _ _ (by simp;omega),cG,qt (by omega),kM,eY aa,(aB.1 Q).2,fs]
     have:k=0∨k=1∨k=2∨k=3:=by omega
     rcases this with rfl|rfl|rfl|rfl<;>rfl
    rcases Z with⟨rfl,rfl⟩|⟨c,rfl,Z,ac⟩
    ·have d:=S (-1);rw[L.o]at d;have B:∀W:iW,(Instr.index 245 (iA (mF x.tos).toArray) (I J (k:Int))).run Tryz.prog W=.ok (iP O) W:=i;clear S g L i P Q M;go_wp2;go_roundw
     case rel=>exact⟨k+1,by omega,by go_num,d⟩
     case measure=>simp[intOf];omega
    ·have d:ah (lU w ((wr.setCell ⟨z+1,k,O⟩ (I J (-1))).setCell ⟨z+1,k,O⟩ (I J p)) z ((j.take k++[0,0,0,0].drop k).set k p)):=by
      have:=(g.o.set (k:=k) (-1)).set (k:=k) p;rw[wh]at this;exact this
     have ab:w.heap.size=z:=HZ.o;have cc:(wr.setCell ⟨z+1,k,O⟩ (I J (-1))).cell? ⟨c,0,O⟩=X (I J p):=by
      rw[iQ _ _ _ _ (λe=>by injection e;omega),g.o.2.2.cell (show c<z by omega)]
      exact Z
     have B:∀W:iW,(Instr.index 245 (iA (mF x.tos).toArray) (I J (k:Int))).run Tryz.prog W=.ok (iP (X ⟨c,0,O⟩)) W:=i;rw[L.o]at d;clear S g L i P Q M ab;go_wp2;go_roundw
     case rel=>exact⟨k+1,by omega,by go_num,d⟩
     case measure=>simp[intOf];omega
   ·have e4:k=4:=by omega
    subst e4;have d:ah (lU w wr z j):=by
     have:=g.o;rw[bL (by have:=f.o;omega)]at this
     show lU w wr z j
     simpa using this
    obtain⟨k0,k1,k2,k3,q⟩:=uZ f.o;have R:=af q;rw[q]at d;have q0:=d.o.cell (k:=0) rfl;have q1:=d.o.cell (k:=1) rfl;have q2:=d.o.cell (k:=2) rfl;have q3:=d.o.cell (k:=3) rfl;have p0:=ai _ _ 0 _ _ _ d.o.1;have p1:=ai _ _ 1 _ _ _ d.o.1;have p2:=ai _ _ 2 _ _ _ d.o.1;have p3:=ai _ _ 3 _ _ _ d.o.1;have f0:=λo=>aF _ _ o _ _ d.o.1
    clear g M q f;go_wp2;exact aE (Fy rfl _ _ _ (ax [k0,k1,k2,k3]) _ rfl (OU d.o.1 _ _ _ _) Tryz.underlying244 rfl FC) rfl ⟨congrArg (λl=>Ending.returned (iA (ax l).toArray)) R.o.symm,by rw[HZ.o];exact Sh d.o.2.2 (am _) _ _ _ _⟩
theorem Ac(l:List Int)(k:Nat)(n:Int):(ax l).set k (I J n)=ax (l.set k n):=by simp[ax,List.map_set]
theorem tI{l r:List α}{v:α}(b:l[k]?=X v)(c:r.length=l.length):(l.take k++r.drop k).set k v=l.take (k+1)++r.drop (k+1):=by
 obtain⟨a,e⟩:=aB.1 b;rw[jm _ _ (by rw[cG];omega),cG,qt (by omega),kM,i8 (by omega),cu,eY a,e,fs]
 rfl
theorem xA{l r:List α}(a:k<l.length):(l.take k++r.drop k)[k]?=r[k]?:=by
 rw[ct (by rw[cG];omega),cG,qt (by omega),kM,lh]
 simp
theorem Xo(d:Nat)(a b:Int)(W:iW):(Op.equalIn (d+1) 3 (I J a) (I J b)).run Tryz.prog W=.ok (a==b) W:=run_equalIn_int W d 3 J J a b Tryz.underlying3
theorem Wq(c d f g h i j k:Int)(W:iW):(binOp .eql 244 (iA (ax [c,d,f,g]).toArray) (iA (ax [h,i,j,k]).toArray)).run Tryz.prog W=.ok (iB ([c,d,f,g]==[h,i,j,k])) W:=by
 rw[run_eql_struct];have e:(Op.equalIn 10000 244 (iA (ax [c,d,f,g]).toArray) (iA (ax [h,i,j,k]).toArray)).run Tryz.prog W=.ok ([c,d,f,g]==[h,i,j,k]) W:=by
  show(Op.equalIn (9999+1) _ _ _).run _ _=_;obtain⟨r,hi,p,m,q⟩:=bV lp;rw[Op.equalIn];simp only[tW,aao Tryz.underlying244,ur,sizeOf,typeInfo];have l:∀(a b:Int) (W:iW),(Op.equalIn 9999 3 (I J a) (I J b)).run Tryz.prog W=.ok (a==b) W:=λa b W=>Xo 9998 a b W
  simp[ax,hi,m,List.range',part,isAgg,sizeOf,typeInfo,run_underlying Tryz.underlying3,l];cases h0:c==h<;>simp at h0<;>simp[h0]
  cases h1:d==i<;>simp at h1<;>simp[h1]
  cases n:f==j<;>simp at n<;>simp[n]
  cases o:g==k<;>simp at o<;>simp[o]
 rw[e];rfl
def nn(k:Int):Int:=if k<0 then 0 else k
def om(bs:List Nat)(xs:List Lk)(n:Nat)(lf:Bool)(a:List Int):Lk:=if lf=iV then⟨n,iV,a.map nn,[O,O,O,O],iF⟩else⟨n,iF,[0,0,0,0],a.map (gW bs xs),iF⟩
def oF(bs:List Nat)(xs:List Lk)(lf:Bool)(a:List Int):List Int:=if lf=iV then a.map nn else a.map (λk=>if (gW bs xs k).isSome=iV then k else-1)
def mM(bs:List Nat)(xs:List Lk)(lf:Bool)(a:List Int):Bool:=decide (a.length=4)&&(oF bs xs lf a==a)
theorem Hp{bs:List Nat}{xs:List Lk}{k:Int}(h:gW bs xs k=X b):0<=k/\bs[k.toNat]?=X b/\∃x,xs[k.toNat]?=X x/\x.leaf=iV:=by
 unfold gW at h;split at h
 ·cases h
 ·cases a:xs[k.toNat]? with
  |none=>rw[a]at h;cases h
  |some x=>
   rw[a,kw]at h;split at h
   ·rename_i hl
    exact⟨by omega,h,x,rfl,hl⟩
   ·cases h
def OC(w:iW)(ok:Bool)(x:Lk)(e:Ending)(w':iW):Prop:=∃v,e=G (iU #[v,iB ok])/\iL w.heap.size w w'/\(ok=iV->∃b,v=ptr b/\cB w' b x/\w.heap.size<=b)
def iD(w W:iW)(z:Nat)(lf:Bool)(kv:iX)(gs:List Int)(x:Lk):Prop:=W.heap[z]?=X (iC #[iB lf,kv] 189 (0,0))/\W.heap[z+1]?=X (iC (ax gs).toArray 244 (0,0))/\cB W (z+1+1) x/\iL z w W
theorem iD.drew{w W:iW}{kv:iX}{gs:List Int}{x:Lk}(h:iD w W z lf kv gs x):iD w W.drew z lf kv gs x:=⟨h.1,h.2.1,h.2.2.1,h.2.2.2.drew⟩
theorem iD.given{w W:iW}{kv:iX}{gs:List Int}{x:Lk}(h:iD w W z lf kv gs x)(n:Int):iD w (W.setCell ⟨z+1,k,O⟩ (I J n)) z lf kv (gs.set k n) x:=by
 refine⟨cU h.1 (by omega) _ _,?_,h.2.2.1.other (by omega) _,h.2.2.2.setCell (p:=⟨z+1,k,O⟩) (by show z<=z+1;omega) _⟩
 rw[dq h.2.1];simp[ax,List.map_set]
theorem iD.num{w W:iW}{kv:iX}{gs:List Int}{x:Lk}(h:iD w W z lf kv gs x)(a:k<4)(n:Int):iD w (W.setCell ⟨z+1+1,2+k,O⟩ (I J n)) z lf kv gs {x with nums:=x.nums.set k n}:=
 ⟨cU h.1 (by omega) _ _,cU h.2.1 (by omega) _ _,h.2.2.1.setNum a n,h.2.2.2.setCell (p:=⟨z+1+1,2+k,O⟩) (by show z<=z+1+1;omega) _⟩
theorem iD.to{w W:iW}{kv:iX}{gs:List Int}{x:Lk}(h:iD w W z lf kv gs x)(a:k<4)(o:Option Nat):iD w (W.setCell ⟨z+1+1,6+k,O⟩ (lm o)) z lf kv gs {x with tos:=x.tos.set k o}:=
 ⟨cU h.1 (by omega) _ _,cU h.2.1 (by omega) _ _,h.2.2.1.setTo a o,h.2.2.2.setCell (p:=⟨z+1+1,6+k,O⟩) (by show z<=z+1+1;omega) _⟩
theorem iD.cell{w W:iW}{z k:Nat}{lf:Bool}{kv:iX}{gs:List Int}{x:Lk}(h:iD w W z lf kv gs x){n:Int}(a:gs[k]?=X n):W.cell? ⟨z+1,k,O⟩=X (I J n):=by
 rw[ai _ _ k _ _ _ h.2.1]
 simpa using iI a
theorem iD.fr{w W:iW}{kv:iX}{gs:List Int}{x:Lk}(h:iD w W z lf kv gs x)(k:Nat):W.frozen? ⟨z+1,k,O⟩=iF:=aF _ _ k _ _ h.2.1
def nQ(bs:List Nat)(xs:List Lk)(n:Nat)(lf:Bool)(a:List Int)(k:Nat):Lk:=if lf=iV then⟨n,iV,(a.map nn).take k++[0,0,0,0].drop k,[O,O,O,O],iF⟩else⟨n,iF,[0,0,0,0],(a.map (gW bs xs)).take k++[O,O,O,O].drop k,iF⟩
theorem Ox{bs:List Nat}{xs:List Lk}{a:List Int}(h:a.length=4):nQ bs xs n lf a 4=om bs xs n lf a:=by
 have b:(a.map nn).take 4=a.map nn:=bL (by simp;omega)
 have c:(a.map (gW bs xs)).take 4=a.map (gW bs xs):=bL (by simp;omega)
 unfold nQ om;rw[b,c];simp
theorem OH(fa:Option Addr)(n c:Nat)(bs:List Nat)(xs:List Lk)(lf:Bool)(l:Option Addr)(kl p:Nat)(a:List Int)(w:iW)(hr:ky w fa n bs)(hf:ft w bs xs)(v:∀(i:Nat) (x:Lk),xs[i]?=X x->x.place=i)(N:fG w l kl a):
 iK Tryz.prog 208 #[Y fa n c,iA #[iB lf,Y l kl p]] w (OC w (mM bs xs lf a) (om bs xs n lf a)):=by
 have u:=N.1;by_cases h4:¬(kl:Int)=4
 ·have E:ah (mM bs xs lf a=iF):=by show _=_;rw[mM,bf (by omega),kL]
  rw[E.o];clear hr hf v N u E;go_enter Tryz.func208,Tryz.ntmps208;go_wp2;go_ret2;exact⟨_,rfl,bh,λh=>by cases h⟩
 ·have aa:kl=4:=by omega
  subst aa;obtain⟨z,S⟩:=aq w.heap.size;have L:=af S;have H:=af N;have f:=af u;have HR:=af hr;have HF:=af hf;have HP:=af v;have V:ah (iD w (((w.alloc (iC #[iB lf,Y l 4 p] 189)).alloc (iC #[I J 0,I J 0,I J 0,I J 0] 244)).alloc (iC #[I J n,iB lf,I J 0,I J 0,I J 0,I J 0,iP O,iP O,iP O,iP O,iB iF] 247)) w.heap.size lf (Y l 4 p) [0,0,0,0] (nQ bs xs n lf a 0)):=by
   have za:(w.alloc (iC #[iB lf,Y l 4 p] 189)).heap.size=w.heap.size+1:=by simp
   have zb:((w.alloc (iC #[iB lf,Y l 4 p] 189)).alloc (iC #[I J 0,I J 0,I J 0,I J 0] 244)).heap.size=w.heap.size+1+1:=by simp
   have R0:=aC w (iC #[iB lf,Y l 4 p] 189);have R1:=aC (w.alloc (iC #[iB lf,Y l 4 p] 189)) (iC #[I J 0,I J 0,I J 0,I J 0] 244);have R2:=aC ((w.alloc (iC #[iB lf,Y l 4 p] 189)).alloc (iC #[I J 0,I J 0,I J 0,I J 0] 244)) (iC #[I J n,iB lf,I J 0,I J 0,I J 0,I J 0,iP O,iP O,iP O,iP O,iB iF] 247);rw[za]at R1;rw[zb]at R2;refine⟨(gt _ _ _ (by simp;omega)).trans ((gt _ _ _ (by simp)).trans R0),(gt _ _ _ (by simp)).trans R1,⟨?_,?_⟩,((bh).alloc (by simp) _).alloc (by simp;omega) _⟩
   ·rw[R2];cases lf<;>rfl
   ·cases lf<;>exact⟨rfl,rfl⟩
  clear hr hf v N u h4 S;go_enter Tryz.func208,Tryz.ntmps208;go_wp2;have S:=L.o;rw[S]at V⊢;clear S;generalize((w.alloc (iC #[iB lf,Y l 4 p] 189)).alloc (iC #[I J 0,I J 0,I J 0,I J 0] 244)).alloc (iC #[I J n,iB lf,I J 0,I J 0,I J 0,I J 0,iP O,iP O,iP O,iP O,iB iF] 247)=wa at V⊢;go_loopw [23] (λiv W=>∃k:Nat,k<=4/\iv=I J k/\ah (iD w W z lf (Y l 4 p) (a.take k++[0,0,0,0].drop k) (nQ bs xs n lf a k))) (λiv _=>4-(intOf iv).toNat)
  case atStart=>exact⟨0,by omega,rfl,V⟩
  case round=>
   obtain⟨k,N,rfl,s⟩:=hrel;clear V;by_cases ae:(k:Int)<4
   ·have r:k<4:=by omega
    obtain⟨m,D⟩:∃m,a[k]?=X m:=⟨_,ay (by have:=f.o;omega)⟩
    obtain⟨kb,ko,e,-,hc⟩:=(H.o.below (by rw[L.o];exact s.o.2.2.2)).at D
    subst e;have A:(0:Int)<=k:=by omega
    have oc:wr.cell? ⟨z+1,k,O⟩=X (I J 0):=s.o.cell (by
     rw[xA (by have:=f.o;omega)]
     exact wG k r)
    have of:=s.o.fr k;have ol:wr.cell? ⟨z,0,O⟩=X (iB lf):=ai _ _ 0 _ _ _ s.o.1;have d:=af (s.o.given (k:=k) m);rw[tI D (by have:=f.o;simp;omega)]at d
    have U:=af D;clear s D;cases lf with
    |true=>
     have T:ah ({nQ bs xs n iV a k with nums:=(nQ bs xs n iV a k).nums.set k (if m<0 then 0 else m)}=nQ bs xs n iV a (k+1)):=by
      show Lk.mk _ _ _ _ _=Lk.mk _ _ _ _ _;congr 1;show((a.map nn).take k++[0,0,0,0].drop k).set k (if m<0 then 0 else m)=_
      exact tI (by rw[bi,U.o];rfl) (by have:=f.o;simp;omega)
     have B:=af (d.o.num r (if m<0 then 0 else m))
     rw[T.o]at B;have ac:(wr.setCell ⟨z+1,k,O⟩ (I J m)).cell? ⟨z+1+1,2+k,O⟩=X (I J 0):=d.o.2.2.1.num (by
      show((a.map nn).take k++[0,0,0,0].drop k)[k]?=_;rw[xA (by have:=f.o;simp;omega)]
      exact wG k r)
     have ad:=d.o.2.2.1.frozen (2+k);clear T d U;go_wp2;go_roundw
     case rel=>exact⟨k+1,by omega,by go_num,B⟩
     case measure=>simp[intOf];omega
    |false=>
     have y:ah (iL w.heap.size w (wr.setCell ⟨z+1,k,O⟩ (I J m)).drew):=by rw[af L.o];exact d.o.drew.2.2.2
     have C:=af (PG fa n c bs xs m (wr.setCell ⟨z+1,k,O⟩ (I J m)).drew (HR.o.below y.o) (HF.o.below y.o));obtain⟨o,P⟩:=aq (gW bs xs m);rw[P]at C;have T:ah ({nQ bs xs n iF a k with tos:=(nQ bs xs n iF a k).tos.set k o}=nQ bs xs n iF a (k+1)):=by
      show Lk.mk _ _ _ _ _=Lk.mk _ _ _ _ _;congr 1;show((a.map (gW bs xs)).take k++[O,O,O,O].drop k).set k o=_;exact tI (by rw[bi,U.o,<-P];rfl) (by have:=f.o;simp;omega)
     have B:=af (d.o.to r o);rw[T.o]at B;have ac:(wr.setCell ⟨z+1,k,O⟩ (I J m)).cell? ⟨z+1+1,6+k,O⟩=X (iP O):=d.o.2.2.1.to (o:=O) (by
      show((a.map (gW bs xs)).take k++[O,O,O,O].drop k)[k]?=_;rw[xA (by have:=f.o;simp;omega)]
      match k,r with
      |0,_|1,_|2,_|3,_=>rfl)
     have ad:=d.o.2.2.1.frozen (6+k);have ab:∃q,lm o=iP q:=by cases o<;>exact⟨_,rfl⟩
     obtain⟨q,hq⟩:=ab;rw[hq]at C B;clear T d U P y hq;go_wp2;go_region_held3 (λ_=>True) (trivial) ((go_at_call 231;(with_reducible refine cj C.o ?_);rintro e w1 ⟨rfl,rfl⟩))
     go_wp2;go_roundw
     case rel=>exact⟨k+1,by omega,by go_num,af B.o.drew⟩
     case measure=>simp[intOf];omega
   ·have e4:k=4:=by omega
    subst e4;have d:ah (iD w wr z lf (Y l 4 p) a (om bs xs n lf a)):=by
     have:=s.o;rw[bL (by have:=f.o;omega),Ox f.o]at this
     show iD w wr z lf (Y l 4 p) a (om bs xs n lf a)
     simpa using this
    have y:ah (iL w.heap.size w wr.drew):=by rw[af L.o];exact d.o.drew.2.2.2
    have KR:ah (sP wr.drew (om bs xs n lf a) (oF bs xs lf a)):=by
     show sP _ _ _;unfold sP;cases lf with
     |true=>rfl
     |false=>
      refine⟨by rw[oF,aj (by decide),bm];exact f.o,λj o P=>?_⟩
      have Q:(a.map (gW bs xs))[j]?=X o:=P;rw[bi,og]at Q;obtain⟨m,D,rfl⟩:=Q;refine⟨if (gW bs xs m).isSome=iV then m else-1,by rw[oF,aj (by decide),bi,D];rfl,?_⟩
      cases hq:gW bs xs m with
      |none=>exact .inl ⟨rfl,rfl⟩
      |some b=>
       obtain⟨h0,hb,x,hx,-⟩:=Hp hq;have hA:=(HF.o.below y.o).2 _ b x hb hx;refine .inr ⟨b,rfl,?_,hA.lt⟩;rw[hA.place,HP.o _ x hx];show X (I J ((m.toNat:Nat):Int))=X (I J m);rw[Int.toNat_of_nonneg h0]
    have C:=af (Mp (z+1+1) (om bs xs n lf a) (oF bs xs lf a) wr.drew d.o.drew.2.2.1 KR.o);obtain⟨A,F,G,K,g⟩:=uZ f.o;obtain⟨a0,a1,a2,a3,t⟩:=uZ (show(oF bs xs lf a).length=4 by rw[oF];split<;>rw[bm]<;>exact f.o)
    have OK:ah (mM bs xs lf a=([a0,a1,a2,a3]==[A,F,G,K])):=by
     show _=_;rw[mM,aW f.o,gk,t,g]
    obtain⟨ok,R⟩:=aq (([a0,a1,a2,a3]==[A,F,G,K]));have M:=λW=>Wq a0 a1 a2 a3 A F G K W
    rw[R]at OK M;rw[t]at C;have q0:=d.o.cell (k:=0) (n:=A) (by rw[g];rfl)
    have q1:=d.o.cell (k:=1) (n:=F) (by rw[g];rfl)
    have q2:=d.o.cell (k:=2) (n:=G) (by rw[g];rfl)
    have q3:=d.o.cell (k:=3) (n:=K) (by rw[g];rfl)
    have KP:ah (∀W,iL wr.drew.heap.size wr.drew W->W.cell? ⟨z+1,0,O⟩=X (I J A)/\W.cell? ⟨z+1,1,O⟩=X (I J F)/\W.cell? ⟨z+1,2,O⟩=X (I J G)/\W.cell? ⟨z+1,3,O⟩=X (I J K)):=λW Z=>by
     have hl:z+1<wr.drew.heap.size:=(aL.1 d.o.2.1).1;exact⟨(Z.cell (show z+1<wr.drew.heap.size from hl)).trans q0,(Z.cell (show z+1<wr.drew.heap.size from hl)).trans q1,(Z.cell (show z+1<wr.drew.heap.size from hl)).trans q2,(Z.cell (show z+1<wr.drew.heap.size from hl)).trans q3⟩
    simp only[ax,cn,oh]at C M;unfold ptr at C;clear s KR g t R;go_wp2;go_region_held3 (λw'=>w'.cell? ⟨z+1,0,O⟩=X (I J A)/\w'.cell? ⟨z+1,1,O⟩=X (I J F)/\w'.cell? ⟨z+1,2,O⟩=X (I J G)/\w'.cell? ⟨z+1,3,O⟩=X (I J K)) (first|go_keep|exact KP.o _ BB.o) ((go_at_call 232;(with_reducible refine cj C.o ?_);rintro e w1 ⟨rfl,bb⟩;have BB:=af bb;clear bb))
    all_goals
     go_wp2;go_ret2;refine⟨_,congrArg (λq=>Ending.returned (iU #[ptr (z+1+1),iB q])) OK.o.symm,y.o.trans (BB.o.mono y.o.size),λ_=>⟨z+1+1,rfl,d.o.drew.2.2.1.blw BB.o,by have:=L.o;omega⟩⟩
end Go.Proofs.YtgigcooffjjbgaaGreatDoor
