/-
  KnN; TrMath2; LkN; ILeaf; IKids; PartL; EqArr; ILink; Draw; D2; DText; D2o; D3p; SMath; SeP; DecI; Math; Math2; PgMath; RdP; FlP; SoMath; FoP
-/
import Derived.Test.YtijmbohadndfmaaGreatDoorPk0
import Derived.Laws.StructEq
import Derived.LaidEqlPtr
import Derived.Laws.Bits128
open Go.Value renaming int→I,slice→Y,string→iT,bool→iB,pointer→iP,agg→iA,tuple→iU
open Go.IntKind renaming i64→J
open Option renaming none→O,some→X
open Go.Ending renaming returned→G
open Go.Obj renaming cells→iC
open Bool renaming true→iV,false→iF
open Go renaming World→iW,Value→iX,Calls→iK
open Go.RowKit renaming Below→iL
set_option maxHeartbeats 1000000
set_option maxRecDepth 100000
namespace Go.Proofs.YtijmbohadndfmaaGreatDoor
open Go.RowKit Words
theorem tw:(Tryz.prog.info? 205).map (λi=>(i.zero,i.size,i.bytes))=X (X (iA #[iB iF,Y O 0 0]),2,32):=by kernel_rfl
abbrev Kw:=Bool×iX×List Int
def rQ(t:Kw):List iX:=[iB t.1,t.2.1]
def dT(l:List Kw):List iX:=l.flatMap rQ
def aG(t:Kw):Kn:=⟨t.1,t.2.2⟩
theorem IB(a b:List Kw):dT (a++b)=dT a++dT b:=by simp[dT]
theorem QJ(t:Kw)(l:List Kw):dT (t::l)=rQ t++dT l:=by simp[dT]
theorem Ep(l:List Kw)(t:Kw):dT l++rQ t=dT (l++[t]):=by rw[IB];simp[dT]
theorem Sx(l:List Kw)(k:Nat)(t:Kw)(h:l[k]?=X t)(j:Nat)(v:iX)(b:(rQ t)[j]?=X v):(dT l)[k*2+j]?=X v:=by
 have c:j<2:=(aD.1 b).1
 induction l generalizing k with
 |nil=>simp at h
 |cons a l d=>
  rw[QJ];cases k with
  |zero=>
   simp at h;subst h;rw[lz (by show _<2;omega),lq,dK]
   exact b
  |succ k=>
   rw[dz (by show 2<=_;omega),show(k+1)*2+j-(rQ a).length=k*2+j by show _-2=_;omega]
   exact d k (by simpa using h)
def gR(w:iW)(a:Option Addr)(c:Nat)(ls:List Int):Prop:=
 ls.length=c/\c<=maxLen/\(0<c->∃b d,a=X ⟨b,d,O⟩/\b<w.heap.size/\∀i t,ls[i]?=X t->w.cell? ⟨b,d+i,O⟩=X (I J t))
theorem gR.below{w w':iW}{a:Option Addr}{c:Nat}{ls:List Int}(h:gR w a c ls)(f:iL w.heap.size w w'):gR w' a c ls:=by
 obtain⟨h1,g,h4⟩:=h;refine⟨h1,g,λh0=>?_⟩
 obtain⟨b,d,e,k,j⟩:=h4 h0;have hs:=f.size;exact⟨b,d,e,by omega,λi t l=>(f.cell (show b<w.heap.size from k)).trans (j i t l)⟩
variable{x:Int}{k lo g B B' c n i:Nat}{ad:Option Addr}
theorem gR.at{w:iW}{a:Option Addr}{d:Nat}{ls:List Int}(h:gR w a d ls){t:Int}(f:ls[k]?=X t):
 ∃b c,a=X ⟨b,c,O⟩/\b<w.heap.size/\w.cell? ⟨b,c+k,O⟩=X (I J t):=by
 obtain⟨h1,-,h4⟩:=h;have j:=(aD.1 f).1;obtain⟨b,c,e,g,i⟩:=h4 (by omega)
 exact⟨b,c,e,g,i k t f⟩
theorem lJ{l:List Int}(h:l[k]?=X x):(aE l)[k]?=X (I J x):=by
 obtain⟨h1,a⟩:=aD.1 h;rw[yB l k h1,a]
def kh(W:iW)(v:iX)(ls:List Int):Prop:=∃a c,v=Y a ls.length c/\(a=O->c=0)/\gR W a ls.length ls
theorem kh.below{W W':iW}{v:iX}{ls:List Int}(h:kh W v ls)(b:iL W.heap.size W W'):kh W' v ls:=by
 obtain⟨a,c,e,h1,d⟩:=h;exact⟨a,c,e,h1,d.below b⟩
theorem kh.of{hi:Nat}{v:iX}{ls:List Int}{W:iW}(h:aB 3 lo hi v ls.length (aE ls) W)(a:ls.length<=maxLen)(d:hi<=W.heap.size):kh W v ls:=by
 rcases h with⟨rfl,h0⟩|⟨g,cap,rfl,h1,c,b⟩
 ·exact⟨O,0,by rw[h0],λ_=>rfl,rfl,a,λh=>by omega⟩
 ·refine⟨_,_,rfl,(λe=>by cases e),rfl,a,λ_=>⟨g,0,rfl,by omega,λi t hi=>?_⟩⟩
  simpa using b.cell (lJ hi)
def eH(W:iW)(ad:Option Addr)(a:Nat)(rs:List Kw):Prop:=
 rs.length=a/\a<=maxLen/\(∀r∈rs,kh W r.2.1 r.2.2)/\(0<a->∃b c,ad=X ⟨b,c,O⟩/\b<W.heap.size/\∀i r,rs[i]?=X r->W.cell? ⟨b,c+i*2,O⟩=X (iB r.1)/\W.cell? ⟨b,c+i*2+1,O⟩=X r.2.1)
theorem eH.below{W W':iW}{a:Nat}{rs:List Kw}(h:eH W ad a rs)(c:iL W.heap.size W W'):eH W' ad a rs:=by
 obtain⟨h1,j,k,h4⟩:=h;refine⟨h1,j,λr m=>(k r m).below c,λh0=>?_⟩
 obtain⟨b,d,e,f,l⟩:=h4 h0;have hs:=c.size;refine⟨b,d,e,by omega,λi t n=>?_⟩
 obtain⟨g,c1⟩:=l i t n;exact⟨(c.cell (show b<W.heap.size from f)).trans g,(c.cell (show b<W.heap.size from f)).trans c1⟩
theorem eH.at{W:iW}{c:Nat}{rs:List Kw}(h:eH W ad c rs){r:Kw}(d:rs[k]?=X r):
 ∃b a,ad=X ⟨b,a,O⟩/\b<W.heap.size/\W.cell? ⟨b,a+k*2,O⟩=X (iB r.1)/\W.cell? ⟨b,a+k*2+1,O⟩=X r.2.1:=by
 obtain⟨h1,-,-,h4⟩:=h;have j:=(aD.1 d).1;obtain⟨b,a,e,g,i⟩:=h4 (by omega)
 obtain⟨f,c1⟩:=i k r d;exact⟨b,a,e,g,f,c1⟩
theorem eH.cell{W:iW}{b a c:Nat}{rs:List Kw}(h:eH W (X ⟨b,a,O⟩) c rs){k:Nat}{r:Kw}(g:rs[k]?=X r):
 W.cell? ⟨b,a+k*2,O⟩=X (iB r.1)/\W.cell? ⟨b,a+k*2+1,O⟩=X r.2.1:=by
 obtain⟨i,d,e,-,f,c1⟩:=h.at g;injection e with e
 injection e with e1 e2
 subst e1 e2;exact⟨f,c1⟩
theorem eH.adr{W:iW}{c:Nat}{rs:List Kw}(h:eH W ad c rs)(h0:0<c):∃b a,ad=X ⟨b,a,O⟩/\b<W.heap.size:=by
 obtain⟨b,a,e,d,-⟩:=h.2.2.2 h0;exact⟨b,a,e,d⟩
def Ch(rs:List Kw):Prop:=rs.Pairwise (λa b=>∀g,a.2.1.ownBlock=X g->b.2.1.ownBlock≠X g)
def ct(W:iW)(B:Nat)(v:iX)(rs:List Kw):Prop:=
 W.ownsRow B 205 2 v rs.length (dT rs)/\(∀r∈rs,aB 3 B W.heap.size r.2.1 r.2.2.length (aE r.2.2) W/\r.2.2.length<=maxLen)/\Ch rs
def pK(lo hi:Nat)(v:iX)(rs:List Kw)(W:iW):Prop:=
 aB 205 lo hi v rs.length (dT rs) W/\(∀r∈rs,aB 3 lo hi r.2.1 r.2.2.length (aE r.2.2) W/\r.2.2.length<=maxLen)/\Ch rs/\rs.length<=maxLen
def dt(lo hi:Nat)(v:iX)(M:List Kn):iW->Prop:=λW=>∃rs:List Kw,rs.map aG=M/\pK lo hi v rs W
theorem Ck{w:iW}{cs b:Array iX}(h:w.heap[g]?=X (iC cs 3 (0,0)))(a:w.heap[g]?=X (iC b 205 (0,0))):False:=by
 rw[h]at a;injection a with a
 injection a with _ a
 simp at a
theorem ct.below{W W':iW}{v:iX}{rs:List Kw}(h:ct W B v rs)(b:iL W.heap.size W W'):ct W' B v rs:=
 ⟨bu h.1 b,λr a=>⟨((h.2.1 r a).1.blw b).up b.size,(h.2.1 r a).2⟩,h.2.2⟩
theorem ct.down{W:iW}{v:iX}{rs:List Kw}(h:ct W B v rs)(a:B'<=B):ct W B' v rs:=
 ⟨nO h.1 a,λr b=>⟨(h.2.1 r b).1.dn a,(h.2.1 r b).2⟩,h.2.2⟩
theorem ct.nil(W:iW)(B:Nat):ct W B (Y O 0 0) []:=⟨xz _ _ _ _,(λ_ h=>by cases h),List.Pairwise.nil⟩
theorem ct.snoc {W0 W y:iW} {v u':iX} {rs:List Kw} {r:Kw} (h0:ct W0 B v rs) (s:iL W0.heap.size W0 W) (o:B<=W0.heap.size) (k:aB 3 W0.heap.size W.heap.size r.2.1 r.2.2.length (aE r.2.2) W) (w:r.2.2.length<=maxLen)
 (d:W.grownBy y v.ownBlock) (z:y.ownsRow B 205 2 u' (rs++[r]).length (dT (rs++[r]))):ct y B u' (rs++[r]):=by
 have h:=h0.below s;have u:=fQ h.1;have i:∀(t:iX) (g:Nat),v.ownBlock=X g->∀{lo hi n:Nat} {xs:List iX},aB 3 lo hi t n xs W->t.ownBlock≠X g:=by
  intro t g d lo hi n xs hs e;obtain⟨-,-,cs,q⟩:=u g d;obtain⟨-,-,l,q'⟩:=hs.lt g e;exact Ck q' q
 refine⟨z,?_,?_⟩
 ·intro x c;rcases br.1 c with c|c
  ·exact⟨((h.2.1 x c).1.grown d (λg e f=>i _ g f (h.2.1 x c).1 e)).up d.size,(h.2.1 x c).2⟩
  ·simp only[bT]at c;subst c;exact⟨((k.grown d (λg e f=>i _ g f k e)).dn o).up d.size,w⟩
 ·refine eW.2 ⟨h.2.2,mA _ _,?_⟩;intro a p b j g m f;simp only[bT]at j;subst j;have A:=((h0.2.1 a p).1.lt g m).2.1;have C:=(k.lt g f).1;omega
theorem ct.form{W:iW}{v:iX}{rs:List Kw}(h:ct W B v rs):∃ad c,v=Y ad rs.length c:=by
 rcases h.1.2 with⟨rfl,h0⟩|⟨g,cap,a,rfl,-⟩
 ·exact⟨_,_,by rw[h0]⟩
 ·exact⟨_,_,rfl⟩
theorem ct.len{W:iW}{v:iX}{rs:List Kw}(h:ct W B v rs):rs.length<=maxLen:=by
 rcases h.1.2 with⟨rfl,h0⟩|⟨g,cap,a,rfl,-,-,h1,b,-⟩
 ·rw[h0];unfold maxLen;omega
 ·omega
theorem ct.fK{W:iW}{v:iX}{rs:List Kw}(h:ct W B v rs):pK B W.heap.size v rs W:=⟨aB.of h.1,h.2.1,h.2.2,h.len⟩
theorem pK.rd{W:iW}{hi:Nat}{rs:List Kw}(h:pK lo hi (Y ad n c) rs W)(l:rs.length=n)(f:hi<=W.heap.size):eH W ad n rs:=by
 obtain⟨h1,a,o,h4⟩:=h;refine⟨l,by omega,λr d=>kh.of (a r d).1 (a r d).2 f,λh0=>?_⟩
 rcases h1 with⟨e,q⟩|⟨g,cap,e,p,s,m⟩
 ·omega
 ·injection e with e1 e2 e3
  refine⟨g,0,e1,by omega,λi r hi=>?_⟩
  have b:=λj v k=>m.cell (Sx rs i r hi j v k)
  refine⟨?_,?_⟩
  ·simpa using b 0 _ rfl
  ·simpa using b 1 _ rfl
theorem pK.loc(lo hi:Nat)(v:iX)(rs:List Kw):lM lo hi (pK lo hi v rs):=by
 intro w w' a h;exact⟨aB.loc _ _ _ _ _ _ w w' a h.1,λr b=>⟨aB.loc _ _ _ _ _ _ w w' a (h.2.1 r b).1,(h.2.1 r b).2⟩,h.2.2⟩
theorem dt.loc(lo hi:Nat)(v:iX)(M:List Kn):lM lo hi (dt lo hi v M):=by
 rintro w w' b ⟨rs,h1,a⟩;exact⟨rs,h1,pK.loc _ _ _ _ w w' b a⟩
theorem dt.form{W:iW}{hi:Nat}{v:iX}{M:List Kn}(h:dt lo hi v M W):∃ad c,v=Y ad M.length c:=by
 obtain⟨rs,rfl,h1,-⟩:=h;obtain⟨ad,c,e,-⟩:=h1.form;exact⟨ad,c,by rw[e];simp⟩
def oG(w:iW)(L:List Kn)(v:iX)(w':iW):Prop:=
 ∃a rs,v=iA #[a]/\ct w' w.heap.size a rs/\rs.map aG=L/\iL w.heap.size w w'
theorem ID{hi:Nat}{v:iX}{xs:List iX}{t:TypeId}{W:iW}{cs:Array iX}(h:aB t lo hi v n xs W)(q:W.heap[i]?=X (iC cs 42 (0,0)))(b:t≠42):v.ownBlock≠X i:=by
 intro e;obtain⟨-,-,a,q'⟩:=h.lt i e;rw[q]at q';injection q' with q'
 injection q' with _ q'
 exact b q'.symm
theorem ct.cell{W:iW}{B i:Nat}{v:iX}{rs:List Kw}{cs:Array iX}(h:ct W B v rs)(q:W.heap[i]?=X (iC cs 42 (0,0)))(j:Nat)(u:iX):ct (W.setCell ⟨i,j,O⟩ u) B v rs:=by
 have a:=ik W i j u;refine⟨h.1.kept a (.inr ?_),λr b=>⟨((h.2.1 r b).1.grown a (λg e c=>?_)).up a.size,(h.2.1 r b).2⟩,h.2.2⟩
 ·exact ID (aB.of h.1) q (by decide)
 ·cases c;exact ID (h.2.1 r b).1 q (by decide) e
def Bz(w:iW)(L:List Kn)(r:Int)(e:Ending)(w':iW):Prop:=∃v,e=G (iU #[v,I J r])/\oG w L v w'
namespace Words
variable{α:Type}{lf:Bool}{r n:Int}{i k q s:Nat}
variable{l:List Kn}
theorem Gf(h:∀i x,l[i]?=X x->iS l i x=iV):cO l=iV:=by
 have:∀k,lI l k=iV:=by
  intro k
  induction k with
  |zero=>rfl
  |succ k b=>
   rw[lI,b,jr];cases a:l[k]? with
   |none=>rfl
   |some x=>exact h k x a
 exact this _
theorem uU{x:Kn}(h4:x.fD.length=4)(h:∀n∈x.fD,fN l i x.leaf n=iV):iS l i x=iV:=by
 rw[iS,aQ h4,jr,gy];exact h
theorem yO{m:List Kn}(h:i<l.length):(l++m)[i]?=l[i]?:=lz h
theorem Dn{m:List Kn}{n:Int}(h:n.toNat<l.length):jJ (l++m) n=jJ l n:=by rw[jJ,jJ,yO h]
theorem Bu{m:List Kn}(h:r.toNat<l.length):dH (l++m) r k=dH l r k:=by rw[dH,dH,yO h]
theorem Nh{m:List Kn}{n:Int}(h:fN l i lf n=iV):fN (l++m) i lf n=iV:=by
 unfold fN at h⊢;cases lf with
 |true=>exact h
 |false=>
  simp only[hI,eT,jd,bt,bW]at h⊢;rcases h with h|⟨⟨h1,b⟩,a⟩
  ·exact .inl h
  ·obtain⟨y,hy,-⟩:=GE a;exact .inr ⟨⟨h1,b⟩,by rw[Dn (aD.1 hy).1];exact a⟩
theorem MJ{m:List Kn}{x:Kn}(h:iS l i x=iV):iS (l++m) i x=iV:=by
 refine uU (lY h) (λn b=>?_)
 obtain⟨k,a⟩:=ml b;exact Nh (wR h a)
theorem VW{m:List Kn}(h:bO l r=iV):bO (l++m) r=iV:=by
 unfold bO at h⊢;simp only[jd,bt,bW,lC,aT]at h⊢;rcases h with h|⟨⟨h1,b⟩,a⟩
 ·exact .inl h
 ·exact .inr ⟨⟨h1,by omega⟩,by rw[Dn (by omega)];exact a⟩
theorem Yu{m:List Kn}{s:Nat}(d:cO l=iV)(g:bO l r=iV)(hs:s<=15):cX (l++m) r s=cX l r s:=by
 unfold cX;by_cases h0:r<0
 ·rw[aj h0,aj h0]
 ·rw[ai h0,ai h0];obtain⟨x,b,c⟩:=lQ g (by omega)
  have a:=(aD.1 b).1;rw[Bu a];obtain⟨n,f,e⟩:=md d b c (show s/4<4 by omega)
  rw[ix b f];rcases e with rfl|⟨h1,h,y,hy,-,-⟩
  ·rw[aj (by omega),aj (by omega)]
  ·rw[ai (by omega),ai (by omega),Bu (aD.1 hy).1]
def sV(l:List Kn)(r:Int)(q:Nat):List Int:=if r<0 then[0,0,0,0]else if dH l r q<0 then[0,0,0,0]else((l[(dH l r q).toNat]?).map Kn.fD).getD []
def sr(l:List Kn)(r:Int):List Int:=if r<0 then[-1,-1,-1,-1]else((l[r.toNat]?).map Kn.fD).getD []
theorem Br(l:List Kn)(r:Int)(s:Nat)(n:Int):gS l r s n=⟨iV,(sV l r (s/4)).set (s % 4) n⟩:=rfl
theorem Im(l:List Kn)(r:Int)(s:Nat):gY l r s=⟨iF,(sr l r).set (s/4) (l.length:Int)⟩:=rfl
theorem EA(k:Nat)(a:k<4):([0,0,0,0]:List Int)[k]?=X 0:=by
 match k,a with
 |0,_|1,_|2,_|3,_=>rfl
theorem Uw(k:Nat)(a:k<4):([-1,-1,-1,-1]:List Int)[k]?=X (-1):=by
 match k,a with
 |0,_|1,_|2,_|3,_=>rfl
theorem Af(e:cO l=iV)(p:bO l r=iV)(o:q<4)(a:k<4):(sV l r q)[k]?=X (cX l r (4*q+k))/\0<=cX l r (4*q+k):=by
 have h:(4*q+k)/4=q:=by omega
 have i:(4*q+k) % 4=k:=by omega
 unfold sV cX;rw[h,i];by_cases h0:r<0
 ·rw[aj h0,aj h0];exact⟨EA k a,by omega⟩
 ·rw[ai h0,ai h0];obtain⟨x,g,c⟩:=lQ p (by omega)
  obtain⟨n,m,j⟩:=md e g c o;rw[ix g m];rcases j with rfl|⟨h1,s,y,hy,d,-⟩
  ·rw[aj (by omega),aj (by omega)]
   exact⟨EA k a,by omega⟩
  ·rw[ai (by omega),ai (by omega),hy]
   obtain⟨v,f,b⟩:=Cn e hy d a;rw[ix hy f];exact⟨f,b⟩
theorem Ca(c:cO l=iV)(g:bO l r=iV)(f:q<4):(sV l r q).length=4:=by
 unfold sV;by_cases h0:r<0
 ·rw[aj h0];rfl
 ·rw[ai h0];obtain⟨x,b,a⟩:=lQ g (by omega)
  obtain⟨n,e,d⟩:=md c b a f;rw[ix b e];rcases d with rfl|⟨h1,i,y,hy,h,h4⟩
  ·rw[aj (by omega)];rfl
  ·rw[ai (by omega),hy];exact h4
theorem J5(f:cO l=iV)(h:bO l r=iV)(d:k<4):∃n,(sr l r)[k]?=X n/\(n= -1∨0<=n/\n<l.length/\jJ l n=iV)/\n=if r<0 then-1 else dH l r k:=by
 unfold sr;by_cases h0:r<0
 ·rw[aj h0,aj h0];exact⟨-1,Uw k d,.inl rfl,rfl⟩
 ·rw[ai h0,ai h0];obtain⟨x,a,b⟩:=lQ h (by omega)
  obtain⟨n,e,g⟩:=md f a b d;rw[a];refine⟨n,e,?_,(ix a e).symm⟩;rcases g with rfl|⟨h1,i,y,hy,c,-⟩
  ·exact .inl rfl
  ·have:=(aD.1 hy).1;exact .inr ⟨h1,by omega,by rw[pD hy];exact c⟩
theorem zO(b:cO l=iV)(c:bO l r=iV):(sr l r).length=4:=by
 unfold sr;by_cases h0:r<0
 ·rw[aj h0];rfl
 ·rw[ai h0];obtain⟨x,a,d⟩:=lQ c (by omega)
  rw[a];exact lY (lA b a)
section
theorem wK:(l++[gS l r s n,gY l r s])[l.length]?=X (gS l r s n):=by simp
theorem CZ:(l++[gS l r s n,gY l r s])[l.length+1]?=X (gY l r s):=by simp
theorem KH{xs:List α}{v x:α}(h:x∈xs.set k v):x=v∨∃j:Nat,xs[j]?=X x:=by
 rcases mF h with h|h
 ·exact .inr (ml h)
 ·exact .inl h
theorem zC(b:cO l=iV)(f:bO l r=iV)(hs:s<=15)(t:0<=n):cO (l++[gS l r s n,gY l r s])=iV:=by
 refine Gf (λi x d=>?_)
 have hi:=(aD.1 d).1;simp only[aT,aR,cU]at hi;by_cases h1:i<l.length
 ·rw[yO h1]at d;exact MJ (lA b d)
 ·by_cases o:i=l.length
  ·subst o;rw[wK]at d;cases d;rw[Br];refine uU (by rw[iy];exact Ca b f (by omega)) (λv h=>?_)
   simp only[fN,cW,bW];rcases KH h with rfl|⟨j,c⟩
   ·exact t
   ·have a:=(aD.1 c).1;rw[Ca b f (by omega)]at a
    obtain⟨e,k⟩:=Af b f (show s/4<4 by omega) a
    rw[e]at c;cases c;exact k
  ·have p:i=l.length+1:=by omega
   subst p;rw[CZ]at d;cases d;rw[Im];refine uU (by rw[iy];exact zO b f) (λv h=>?_)
   simp only[fN,hI,eT,jd,bt,bW];rcases KH h with rfl|⟨j,c⟩
   ·refine .inr ⟨⟨by omega,by omega⟩,?_⟩
    have:=wK (l:=l) (r:=r) (s:=s) (n:=n);rw[Im]at this;rw[jJ,aZ,this];rfl
   ·have a:=(aD.1 c).1;rw[zO b f]at a;obtain⟨m,q,g,-⟩:=J5 b f a;rw[q]at c;cases c;rcases g with g|⟨c1,c2,c3⟩
    ·exact .inl g
    ·exact .inr ⟨⟨c1,by omega⟩,by rw[Dn (by omega)];exact c3⟩
theorem RW:bO (l++[gS l r s n,gY l r s]) ((l.length:Int)+1)=iV:=by
 unfold bO;simp only[jd,bt,bW,lC,aT,aR,cU];refine .inr ⟨⟨by omega,by omega⟩,?_⟩
 have e:((l.length:Int)+1).toNat=l.length+1:=by omega
 rw[jJ,e,CZ];rfl
theorem DT{m:Int}(h:((sr l r).set (s/4) (l.length:Int))[k]?=X m):dH (l++[gS l r s n,gY l r s]) ((l.length:Int)+1) k=m:=by
 have e:((l.length:Int)+1).toNat=l.length+1:=by omega
 exact ix (by rw[e];exact CZ) h
theorem RP(d:cO l=iV)(f:bO l r=iV)(hs:s<=15)(hi:i<=15):cX (l++[gS l r s n,gY l r s]) ((l.length:Int)+1) i=if i=s then n else cX l r i:=by
 have j:i/4<4:=by omega
 have c:s/4<4:=by omega
 have k:4*(i/4)+i % 4=i:=by omega
 by_cases b:i/4=s/4
 ·have h:dH (l++[gS l r s n,gY l r s]) ((l.length:Int)+1) (i/4)=l.length:=DT (by rw[b,ku (by rw[zO d f];exact c)])
  have g:cX (l++[gS l r s n,gY l r s]) ((l.length:Int)+1) i=dH (l++[gS l r s n,gY l r s]) (l.length:Int) (i % 4):=by
   conv=>lhs;unfold cX
   rw[ai (by omega),h,ai (by omega)]
  rw[g];by_cases e:i=s
  ·rw[aj e];refine ix (by rw[aZ];exact wK) ?_
   rw[Br,e];exact ku (by rw[Ca d f c];omega)
  ·rw[ai e];refine ix (by rw[aZ];exact wK) ?_
   rw[Br];show((sV l r (s/4)).set (s % 4) n)[i % 4]?=_;rw[lZ (by omega),<-b,(Af d f j (show i % 4<4 by omega)).1,k]
 ·rw[ai (by intro e;rw[e]at b;exact b rfl)]
  obtain⟨m,p,o,a⟩:=J5 d f j;have h:dH (l++[gS l r s n,gY l r s]) ((l.length:Int)+1) (i/4)=m:=DT (by rw[lZ (λe=>b e.symm)];exact p)
  conv=>lhs;unfold cX
  rw[ai (by omega),h]
  unfold cX;by_cases h0:r<0
  ·rw[aj h0]at a;rw[aj h0,a,aj (by omega)]
  ·rw[ai h0]at a;rw[ai h0,<-a];rcases o with rfl|⟨c1,c2,c3⟩
   ·rw[aj (by omega),aj (by omega)]
   ·rw[ai (by omega),ai (by omega),Bu (by omega)]
end
end Words
theorem GW(l:List Int)(k:Nat)(n:Int):(aE l).set k (I J n)=aE (l.set k n):=by simp[aE,List.map_set]
variable{α:Type}{k B C cap:Nat}{ad:Option Addr}
theorem OA{l r:List α}{v:α}(b:l[k]?=X v)(c:r.length=l.length):(l.take k++r.drop k).set k v=l.take (k+1)++r.drop (k+1):=by
 obtain⟨a,e⟩:=aD.1 b;rw[ii _ _ (by rw[dk];omega),dk,sR (by omega),ja,gj (by omega),bE,ge a,e,fJ]
 rfl
def nn(k:Int):Int:=if k<0 then 0 else k
theorem Y7(n:Int):bits .and J n 255=n % 256:=by
 have a:(BitVec.ofInt 64 255).toNat=2^8-1:=by decide
 have b:(BitVec.ofInt 64 n&&&BitVec.ofInt 64 255).toNat=(n % ((2^64:Nat):Int)).toNat % 2^8:=by
  rw[BitVec.toNat_and,BitVec.toNat_ofInt,a,Nat.and_two_pow_sub_one_eq_mod]
 show IntKind.i64.wrap ((BitVec.ofInt 64 n&&&BitVec.ofInt 64 255).toNat:Nat)=n % 256;rw[b,cL];omega
def gQ(w:iW)(ad:Option Addr)(d B:Nat):Prop:=
 ∀j,j<d->∃b a,ad=X ⟨b,a,O⟩/\b<B/\∃c:Nat,c<256/\w.cell? ⟨b,a+j,O⟩=X (I .u8 c)
theorem gQ.on{w w':iW}{a:Nat}(h:gQ w ad a B)(g:iL C w w')(k:B<=C):gQ w' ad a B:=by
 intro j i;obtain⟨b,d,h1,e,c,f,h4⟩:=h j i;exact⟨b,d,h1,e,c,f,by rw[g.cell (show b<C by omega)];exact h4⟩
def jM(w:iW)(p:Nat)(ad:Option Addr)(a cap:Nat):Prop:=
 w.cell? ⟨p,0,O⟩=X (Y ad a cap)/\(∃i:Nat,i<=a/\w.cell? ⟨p,1,O⟩=X (I J i))/\(∃h:Int,w.cell? ⟨p,2,O⟩=X (I J h))/\
 w.frozen? ⟨p,1,O⟩=iF/\w.frozen? ⟨p,2,O⟩=iF/\p<w.heap.size
theorem jM.below{w w':iW}{p:Nat}{b:Nat}(h:jM w p ad b cap)(a:iL C w w')(g:p<C):jM w' p ad b cap:=by
 obtain⟨h1,⟨i,hi,c⟩,⟨x,d⟩,h4,e,f⟩:=h;exact⟨by rw[a.cell (show p<C by omega)];exact h1,⟨i,hi,by rw[a.cell (show p<C by omega)];exact c⟩,⟨x,by rw[a.cell (show p<C by omega)];exact d⟩,
  by rw[a.frozen (show p<C by omega)];exact h4,by rw[a.frozen (show p<C by omega)];exact e,gX f a.size⟩
theorem AH{c d e:iW}{r:Option Nat}(h:c.grownBy d r)(k:d.grownBy e r):c.grownBy e r:=
 ⟨k.os.trans h.os,k.tape.trans h.tape,k.output.trans h.output,bR h.size k.size,λj a b=>(k.block j (gX a h.size) b).trans (h.block j a b)⟩
theorem XG(w:iW)(r:Option Nat):w.grownBy w r:=⟨rfl,rfl,rfl,ak _,λ_ _ _=>rfl⟩
theorem I9(w:iW)(p:Nat)(o:Nat)(v:iX):w.grownBy (w.setCell ⟨p,o,O⟩ v) (X p):=
 ⟨rfl,rfl,rfl,by simp,λk _ a=>heap_setCell_other w ⟨p,o,O⟩ k v (λe=>a (by simp[e]))⟩
theorem Q0(w:iW)(n:Nat)(r:Option Nat):w.grownBy (w.drewN n) r:=⟨rfl,rfl,rfl,ak _,λ_ _ _=>rfl⟩
theorem WU{p:Nat}{w w':iW}(h:w.grownBy w' (X p))(c:B<=p)(a:B<=w.heap.size):iL B w w':=
 (ax _ _).grown h a (λk b=>by cases b;exact c)
theorem th(p:Nat)(ad:Option Addr)(a cap B:Nat)(w:iW)(hl:a<=1048576)(H:jM w p ad a cap)(A:gQ w ad a B)(Z:B<=p):
 iK Tryz.prog 43 #[iP (X ⟨p,0,O⟩)] w λe w'=>∃x:Int,e=G (I J x)/\0<=x/\x<256/\w.grownBy w' (X p)/\jM w' p ad a cap:=by
 obtain⟨h1,⟨i,hi,r⟩,⟨x,s⟩,h4,t,V⟩:=H;have C:=af A;clear A;go_enter Tryz.func43,Tryz.ntmps43;go_wp2;have v:=Y7;have g:(w.setCell ⟨p,2,O⟩ (I J (wrap64 (wrap64 (x*6364136223846793005)+1442695040888963407)))).cell? ⟨p,0,O⟩=X (Y ad a cap):=by
  rw[gP _ _ _ _ (by simp)];exact h1
 have h:(w.setCell ⟨p,2,O⟩ (I J (wrap64 (wrap64 (x*6364136223846793005)+1442695040888963407)))).cell? ⟨p,1,O⟩=X (I J i):=by
  rw[gP _ _ _ _ (by simp)];exact r
 have j:=wT w ⟨p,2,O⟩ (I J (wrap64 (wrap64 (x*6364136223846793005)+1442695040888963407))) s;have l:(w.setCell ⟨p,2,O⟩ (I J (wrap64 (wrap64 (x*6364136223846793005)+1442695040888963407)))).frozen? ⟨p,1,O⟩=iF:=by simpa using h4
 have m:(w.setCell ⟨p,2,O⟩ (I J (wrap64 (wrap64 (x*6364136223846793005)+1442695040888963407)))).frozen? ⟨p,2,O⟩=iF:=by simpa using t
 have q:=I9 w p 2 (I J (wrap64 (wrap64 (x*6364136223846793005)+1442695040888963407)));generalize w.setCell ⟨p,2,O⟩ (I J (wrap64 (wrap64 (x*6364136223846793005)+1442695040888963407)))=W at*;generalize wrap64 (wrap64 (x*6364136223846793005)+1442695040888963407)=y at*;go_region_held3 (λw'=>w'.cell? ⟨p,2,O⟩=X (I J y)) (go_keep) (fail)
 obtain⟨z,u⟩:=an (bits BinOp.xor IntKind.i64 (y/8589934592) (y/35184372088832) % 256);have T:0<=z:=by omega
 have U:z<256:=by omega
 rw[u];have M:=q.size;have n:p<W.heap.size:=by omega
 by_cases N:(i:Int)<a
 ·obtain⟨b,f,rfl,F,c,K,d⟩:=C.o i (by omega)
  have L:W.cell? ⟨b,f+i,O⟩=X (I .u8 c):=by
   rw[vQ (w:=w) (q.block b (by omega) (by simp;omega))];exact d
  have i0:(0:Int)<=i:=by omega
  have r1:IntKind.i64.wrap (c:Int)=c:=by rw[cL];omega
  have r2:IntKind.i64.wrap (z+c)=z+c:=by rw[cL];omega
  clear u d h1 r s h4 t;go_wp2;go_region_held3 (λw'=>w'.cell? ⟨p,0,O⟩=X (Y (X ⟨b,f,O⟩) a cap)/\w'.cell? ⟨p,1,O⟩=X (I J i)) (go_keep) (fail)
  go_wp2;go_region_held3 (λw'=>w'.cell? ⟨p,0,O⟩=X (Y (X ⟨b,f,O⟩) a cap)/\w'.cell? ⟨p,1,O⟩=X (I J i)/\w'.cell? ⟨b,f+i,O⟩=X (I .u8 c)) (go_keep) (fail)
  go_wp2;go_ret;have k:=I9 W p 1 (I J ((i:Int)+1));have Q:(W.setCell ⟨p,1,O⟩ (I J ((i:Int)+1))).cell? ⟨p,0,O⟩=X (Y (X ⟨b,f,O⟩) a cap):=by
   rw[gP _ _ _ _ (by simp)];exact g
  have R:=wT W ⟨p,1,O⟩ (I J ((i:Int)+1)) h;have S:(W.setCell ⟨p,1,O⟩ (I J ((i:Int)+1))).cell? ⟨p,2,O⟩=X (I J y):=by
   rw[gP _ _ _ _ (by simp)];exact j
  have D:(W.setCell ⟨p,1,O⟩ (I J ((i:Int)+1))).frozen? ⟨p,1,O⟩=iF:=by simpa using l
  have E:(W.setCell ⟨p,1,O⟩ (I J ((i:Int)+1))).frozen? ⟨p,2,O⟩=iF:=by simpa using m
  have P:=k.size;exact⟨(z+c) % 256,rfl,by omega,by omega,AH q ⟨k.os,k.tape,k.output,k.size,k.block⟩,Q,⟨i+1,by omega,R⟩,⟨y,S⟩,D,E,gX n P⟩
 ·clear u h1 r s h4 t;go_wp2;go_region_held3 (λw'=>w'.cell? ⟨p,0,O⟩=X (Y ad a cap)/\w'.cell? ⟨p,1,O⟩=X (I J i)) (go_keep) (fail)
  go_wp2;go_ret;exact⟨z,rfl,T,U,AH q (Q0 W 2 _),g,⟨i,hi,h⟩,⟨y,j⟩,l,m,n⟩
def cR(w w':iW)(p:Nat)(ad:Option Addr)(a cap:Nat):Prop:=w.grownBy w' (X p)/\jM w' p ad a cap
theorem cR.code{w w':iW}{p:Nat}{a:Nat}(h:cR w w' p ad a cap)(c:gQ w ad a B)(b:B<=p)(d:p<w.heap.size):gQ w' ad a B:=
 c.on (WU h.1 b (by omega)) (ak _)
theorem cR.trans{b c d:iW}{p:Nat}{a:Nat}(h:cR b c p ad a cap)(k:cR c d p ad a cap):cR b d p ad a cap:=⟨AH h.1 k.1,k.2⟩
theorem cR.refl{w:iW}{p:Nat}{ad:Option Addr}{a cap:Nat}(h:jM w p ad a cap):cR w w p ad a cap:=⟨XG _ _,h⟩
theorem cR.below{w d e:iW}{p:Nat}{b:Nat}(h:cR w d p ad b cap)(a:iL w.heap.size d e)(f:p<w.heap.size):cR w e p ad b cap:=
 ⟨⟨a.os.trans h.1.os,a.tape.trans h.1.tape,a.output.trans h.1.output,bR h.1.size a.size,λj c g=>(a.block j c).trans (h.1.block j c g)⟩,h.2.below a f⟩
theorem lm(n:Int)(p:Nat)(ad:Option Addr)(a cap B:Nat)(w:iW)(Q:n<=1000000000000)(i:a<=1048576)(r:jM w p ad a cap)(D:gQ w ad a B)(b:B<=p):
 iK Tryz.prog 25 #[iP (X ⟨p,0,O⟩),I J n] w λe w'=>∃x:Int,e=G (I J x)/\0<=x/\(0<n->x<n)/\(n<=0->x=0)/\cR w w' p ad a cap:=by
 have v:=r.2.2.2.2.2;have l:=af r;have m:=af D;clear r D;by_cases h1:n<=0
 ·go_enter Tryz.func25,Tryz.ntmps25;go_wp2;go_ret;exact⟨0,rfl,by omega,λh=>by omega,λ_=>rfl,cR.refl l.o⟩
 ·by_cases P:n<=256
  ·go_enter Tryz.func25,Tryz.ntmps25;go_wp2_with fail;refine(th p ad a cap B _ i l.o m.o b).mono ?_;rintro e q ⟨x,rfl,M,N,g1,c1⟩;have f:ah (cR w q p ad a cap):=⟨g1,c1⟩;clear g1 c1;have A:=Int.emod_nonneg x (show n≠0 by omega)
   have m1:=Int.emod_lt_of_pos x (show 0<n by omega)
   have K:(n==0)=iF:=by rw[dZ];omega
   go_wp2;go_ret;exact⟨x % n,rfl,A,λ_=>m1,λh=>by omega,f.o⟩
  ·go_enter Tryz.func25,Tryz.ntmps25;go_wp2_with fail;refine(th p ad a cap B _ i l.o m.o b).mono ?_;rintro e q ⟨x,rfl,M,N,g1,c1⟩;have f:ah (cR w q p ad a cap):=⟨g1,c1⟩;have c:=af (f.o.code m.o b v);have s:=c1.2.2.2.2.2;clear g1 c1 m l;go_wp2_with fail;refine(th p ad a cap B _ i f.o.2 c.o b).mono ?_;rintro e E ⟨y,rfl,T,U,g1,c1⟩;have j:ah (cR q E p ad a cap):=⟨g1,c1⟩;have d:=af (j.o.code c.o b s);have t:=c1.2.2.2.2.2;clear g1 c1 c;go_wp2_with fail;refine(th p ad a cap B _ i j.o.2 d.o b).mono ?_;rintro e F ⟨z,rfl,V,W,g1,c1⟩;have k:ah (cR E F p ad a cap):=⟨g1,c1⟩;have g:=af (k.o.code d.o b t);clear g1 c1 d;go_wp2_with fail;refine(th p ad a cap B _ i k.o.2 g.o b).mono ?_;rintro e L ⟨u,rfl,R,S,g1,c1⟩;have C:ah (cR F L p ad a cap):=⟨g1,c1⟩;have H:=af (((f.o.trans j.o).trans k.o).trans C.o);clear g1 c1 g f j k C;have A:=Int.emod_nonneg (x*16777216+y*65536+z*256+u) (show n≠0 by omega)
   have m1:=Int.emod_lt_of_pos (x*16777216+y*65536+z*256+u) (show 0<n by omega)
   have K:(n==0)=iF:=by rw[dZ];omega
   go_wp2;go_ret;exact⟨(x*16777216+y*65536+z*256+u) % n,rfl,A,λ_=>m1,λh=>by omega,H.o⟩
theorem Og (g:Nat) (ls:List ByteArray) (p:Nat) (ad:Option Addr) (b cap B:Nat) (w:iW) (h0:0<ls.length) (h1:ls.length<=1000) (v:g≠p)
 (a:∀j,j<ls.length->w.cell? ⟨g,j,O⟩=X (iT (ls.getD j ⟨#[]⟩))) (z:b<=1048576) (l:jM w p ad b cap) (m:gQ w ad b B) (u:B<=p):
 iK Tryz.prog 79 #[iP (X ⟨p,0,O⟩),Y (X ⟨g,0,O⟩) ls.length ls.length] w λe w'=>∃t:ByteArray,e=G (iT t)/\ah (t∈ls)/\cR w w' p ad b cap:=by
 have q:=af l;have r:=af m;have s:=af a;clear l m a;go_enter Tryz.func79,Tryz.ntmps79;go_wp2_with fail;refine(lm (ls.length:Int) p ad b cap B _ (by omega) z q.o r.o u).mono ?_
 rintro e A ⟨x,rfl,C,n,_,f⟩;have D:=n (by omega)
 obtain⟨j,rfl⟩:=Ah C;have d:=s.o j (by omega)
 have k:g<w.heap.size:=bh w _ d;have i:A.cell? ⟨g,j,O⟩=X (iT (ls.getD j ⟨#[]⟩)):=by
  rw[vQ (w:=w) (f.1.block g k (by simpa using v))];exact d
 have c:ah (ls.getD j ⟨#[]⟩∈ls):=by
  show _∈_;rw[om,ay (by omega)]
  exact qy _
 obtain⟨y,hy⟩:=an (ls.getD j ⟨#[]⟩);rw[hy]at i c;have h:=af f;clear f d hy n;go_wp2;go_ret;exact⟨y,rfl,c,h.o⟩
def qd:List ByteArray:=[⟨#[]⟩,⟨#[97]⟩,⟨#[98,98]⟩,⟨#[97,98,99,100,97,98,99,100,97,98,99,100]⟩,⟨#[104,101,108,108,111]⟩,⟨#[104,101,108,108,111,32,104,101,108,108,111,32,104,101,108,108,111]⟩,⟨#[122,122,122,122,122,122,122,122,122,122,122,122]⟩,⟨#[113,49]⟩,⟨#[113,50]⟩,⟨#[113,51]⟩]
theorem zM(w:iW)(cs:Array iX)(t:TypeId)(j:Nat)(v:iX)(h:cs[j]?=X v):(w.alloc (iC cs t)).cell? ⟨w.heap.size,j,O⟩=X v:=(am _ _ j _ _ _ (az w (iC cs t))).trans h
theorem Pb(w:iW):∀j,j<qd.length->(w.alloc (iC #[iT ⟨#[]⟩,iT ⟨#[97]⟩,iT ⟨#[98,98]⟩,iT ⟨#[97,98,99,100,97,98,99,100,97,98,99,100]⟩,iT ⟨#[104,101,108,108,111]⟩,iT ⟨#[104,101,108,108,111,32,104,101,108,108,111,32,104,101,108,108,111]⟩,iT ⟨#[122,122,122,122,122,122,122,122,122,122,122,122]⟩,iT ⟨#[113,49]⟩,iT ⟨#[113,50]⟩,iT ⟨#[113,51]⟩] 9)).cell? ⟨w.heap.size,j,O⟩=X (iT (qd.getD j ⟨#[]⟩)):=by
 intro j a;have a:j<10:=a;refine zM w _ _ j _ ?_;have:j=0∨j=1∨j=2∨j=3∨j=4∨j=5∨j=6∨j=7∨j=8∨j=9:=by omega
 rcases this with rfl|rfl|rfl|rfl|rfl|rfl|rfl|rfl|rfl|rfl<;>rfl
theorem Rt(p:Nat)(ad:Option Addr)(a cap B:Nat)(w:iW)(q:a<=1048576)(f:jM w p ad a cap)(l:gQ w ad a B)(m:B<=p):
 iK Tryz.prog 52 #[iP (X ⟨p,0,O⟩)] w λe w'=>∃t:ByteArray,e=G (iT t)/\ah (t∈qd)/\cR w w' p ad a cap:=by
 have r:=f.2.2.2.2.2;have b:=aO w (iC #[iT ⟨#[]⟩,iT ⟨#[97]⟩,iT ⟨#[98,98]⟩,iT ⟨#[97,98,99,100,97,98,99,100,97,98,99,100]⟩,iT ⟨#[104,101,108,108,111]⟩,iT ⟨#[104,101,108,108,111,32,104,101,108,108,111,32,104,101,108,108,111]⟩,iT ⟨#[122,122,122,122,122,122,122,122,122,122,122,122]⟩,iT ⟨#[113,49]⟩,iT ⟨#[113,50]⟩,iT ⟨#[113,51]⟩] 9);have c:=af (f.below b r);have i:=af (l.on b (by omega))
 have k:=af (Pb w);have h:ah (cR w (w.alloc (iC #[iT ⟨#[]⟩,iT ⟨#[97]⟩,iT ⟨#[98,98]⟩,iT ⟨#[97,98,99,100,97,98,99,100,97,98,99,100]⟩,iT ⟨#[104,101,108,108,111]⟩,iT ⟨#[104,101,108,108,111,32,104,101,108,108,111,32,104,101,108,108,111]⟩,iT ⟨#[122,122,122,122,122,122,122,122,122,122,122,122]⟩,iT ⟨#[113,49]⟩,iT ⟨#[113,50]⟩,iT ⟨#[113,51]⟩] 9)) p ad a cap):=⟨⟨rfl,rfl,rfl,by simp,λj n _=>b.block j n⟩,c.o⟩
 clear f l b;go_enter Tryz.func52,Tryz.ntmps52;go_wp2_with fail;generalize w.alloc (iC #[iT ⟨#[]⟩,iT ⟨#[97]⟩,iT ⟨#[98,98]⟩,iT ⟨#[97,98,99,100,97,98,99,100,97,98,99,100]⟩,iT ⟨#[104,101,108,108,111]⟩,iT ⟨#[104,101,108,108,111,32,104,101,108,108,111,32,104,101,108,108,111]⟩,iT ⟨#[122,122,122,122,122,122,122,122,122,122,122,122]⟩,iT ⟨#[113,49]⟩,iT ⟨#[113,50]⟩,iT ⟨#[113,51]⟩] 9)=wa at c i k h⊢;refine(Og w.heap.size qd p ad a cap B wa (by decide) (by decide) (by omega) k.o q c.o i.o m).mono ?_
 rintro e u ⟨t,rfl,s,g⟩;have d:=af (h.o.trans g);clear g;go_wp2;go_ret;exact⟨t,rfl,s,d.o⟩
theorem Bp(n:Int)(p:Nat)(ad:Option Addr)(a cap B:Nat)(w:iW)(l:n<=1000000000000)(k:a<=1048576)(f:jM w p ad a cap)(g:gQ w ad a B)(j:B<=p):
 iK Tryz.prog 12 #[iP (X ⟨p,0,O⟩),I J n] w λe w'=>∃b:Bool,e=G (iB b)/\cR w w' p ad a cap:=by
 have h:=af f;have i:=af g;clear f g;go_enter Tryz.func12,Tryz.ntmps12;go_wp2_with fail;refine(lm n p ad a cap B _ l k h.o i.o j).mono ?_;rintro e m ⟨x,rfl,q,_,_,d⟩;have c:=af d;clear d;go_wp2;all_goals
  go_ret;exact⟨_,rfl,c.o⟩
theorem Li (g:Nat) (ls:List Int) (p:Nat) (ad:Option Addr) (b cap B:Nat) (w:iW) (h0:0<ls.length) (h1:ls.length<=1000) (t:g≠p)
 (a:∀j,j<ls.length->w.cell? ⟨g,j,O⟩=X (I J (ls.getD j 0))) (u:b<=1048576) (k:jM w p ad b cap) (l:gQ w ad b B) (s:B<=p):
 iK Tryz.prog 30 #[iP (X ⟨p,0,O⟩),Y (X ⟨g,0,O⟩) ls.length ls.length] w λe w'=>∃x:Int,e=G (I J x)/\cR w w' p ad b cap:=by
 have n:=af k;have q:=af l;have r:=af a;clear k l a;go_enter Tryz.func30,Tryz.ntmps30;go_wp2_with fail;refine(lm (ls.length:Int) p ad b cap B _ (by omega) u n.o q.o s).mono ?_
 rintro e v ⟨x,rfl,z,m,_,d⟩;have A:=m (by omega)
 obtain⟨j,rfl⟩:=Ah z;have c:=r.o j (by omega)
 have i:g<w.heap.size:=bh w _ c;have h:v.cell? ⟨g,j,O⟩=X (I J (ls.getD j 0)):=by
  rw[vQ (w:=w) (d.1.block g i (by simpa using t))];exact c
 obtain⟨y,hy⟩:=an (ls.getD j 0);rw[hy]at h;have f:=af d;clear d c hy m;go_wp2;go_ret;exact⟨y,rfl,f.o⟩
end Go.Proofs.YtijmbohadndfmaaGreatDoor
namespace Go.Proofs.YtijmbohadndfmaaGreatDoor.Sums
def Kh:Nat:=3558460437
def kx(x:Nat):Nat:=x/2^^^(if x % 2=1 then Kh else 0)
def h4(x:Nat):Nat:=kx (kx (kx (kx x)))
def xx(s:Nat)(b:UInt8):Nat:=h4 (h4 (s^^^b.toNat))
def lK(s:Nat)(l:List UInt8):Nat:=l.foldl xx s
theorem tC(x:Nat)(h:x<4294967296):kx x<4294967296:=by
 unfold kx;refine Nat.xor_lt_two_pow (n:=32) (by omega) ?_
 split<;>simp[Kh]
theorem wg(x:Nat)(h:x<4294967296):h4 x<4294967296:=tC _ (tC _ (tC _ (tC _ h)))
theorem Sj(b:UInt8):b.toNat<256:=by have:=b.toNat_lt;omega
theorem EB(x y:Nat)(h:x<4294967296)(k:y<4294967296):x^^^y<4294967296:=Nat.xor_lt_two_pow (n:=32) h k
theorem Rv(s:Nat)(b:UInt8)(h:s<4294967296):s^^^b.toNat<4294967296:=EB _ _ h (by have:=Sj b;omega)
theorem Yt(s:Nat)(b:UInt8)(h:s<4294967296):xx s b<4294967296:=wg _ (wg _ (Rv s b h))
theorem QW(l:List UInt8):∀s,s<4294967296->lK s l<4294967296:=by
 induction l with
 |nil=>intro s h;exact h
 |cons a l b=>intro s h;exact b _ (Yt s a h)
theorem LQ(s:Nat)(l k:List UInt8):lK s (l++k)=lK (lK s l) k:=by simp[lK]
theorem UJ(s:Nat)(l:List UInt8)(k:Nat)(h:k<l.length):lK s (l.take (k+1))=xx (lK s (l.take k)) l[k]:=by
 rw[ge h,LQ];rfl
def gJ(x:Nat):List UInt8:=[UInt8.ofNat (x/16777216 % 256),UInt8.ofNat (x/65536 % 256),UInt8.ofNat (x/256 % 256),UInt8.ofNat (x % 256)]
theorem Ax(x:Nat):(gJ x).length=4:=rfl
def start:Nat:=4294967295
def m8(l:List UInt8):Nat:=lK start l
theorem yM(l:List UInt8):m8 l<4294967296:=QW l _ (by decide)
end Go.Proofs.YtijmbohadndfmaaGreatDoor.Sums
namespace Go.Proofs.YtijmbohadndfmaaGreatDoor
open Sums
def dJ(t:ByteArray):ByteArray:=t++⟨(gJ (m8 t.data.toList)).toArray⟩
theorem Ad(t:ByteArray):(dJ t).size=t.size+4:=by
 simp[dJ,ByteArray.size_append];rfl
def ip(t:ByteArray):ByteArray:=t.extract 0 (t.size-4)
theorem Cm(t:ByteArray):(ip t).size=t.size-4:=by simp[ip]
def lD(t:ByteArray):Option ByteArray:=
 if 4<=t.size/\t.size<=20004/\(dJ (ip t)).data.toList=t.data.toList then X (ip t)else O
variable{t:ByteArray}
theorem BM{s:ByteArray}(h:lD t=X s):dJ s=t/\s.size<=20000:=by
 unfold lD at h;split at h
 ·rename_i hc
  cases h;exact⟨lP (qO.1 hc.2.2),by rw[Cm];omega⟩
 ·cases h
theorem Ye(s:ByteArray):ip (dJ s)=s:=by
 unfold ip;rw[Ad];apply lP;unfold dJ;have e:s.size+4-4=s.data.size:=by simp
 rw[e];simp[ByteArray.data_append,ByteArray.data_extract]
theorem LV(s:ByteArray)(h:s.size<=20000):lD (dJ s)=X s:=by
 unfold lD;rw[Ye,aj ⟨by rw[Ad];omega,by rw[Ad];omega,rfl⟩]
theorem zn(h:¬(4<=t.size/\t.size<=20004/\dJ (ip t)=t)):lD t=O:=by
 unfold lD;rw[ai];rintro⟨a,b,c⟩;exact h ⟨a,b,lP (qO.1 c)⟩
theorem L7(h1:4<=t.size)(a:t.size<=20004)(b:dJ (ip t)=t):lD t=X (ip t):=by
 unfold lD;rw[aj ⟨h1,a,by rw[b]⟩]
theorem tL{p:Prop}{d:Decidable p}(h:p): @decide p d=iV:=aQ h
theorem pH{p:Prop}{d:Decidable p}(h:¬p): @decide p d=iF:=aV h
theorem rM{p:Prop}{d:Decidable p}:(@decide p d=iV)=p:=bW
end Go.Proofs.YtijmbohadndfmaaGreatDoor
namespace Go.Proofs.YtijmbohadndfmaaGreatDoor.Words
def oq:Nat->Nat->List UInt8
 |0,n=> [UInt8.ofNat n]
 |f+1,n=>if n<128 then[UInt8.ofNat n]else UInt8.ofNat (n % 128+128)::oq f (n/128)
def bL(n:Nat):List UInt8:=oq n n
theorem Xs:∀(f g n:Nat),n<=f->n<=g->oq f n=oq g n:=by
 intro f
 induction f with
 |zero=>
  intro g n a b;have:n=0:=by omega
  subst this;cases g<;>simp[oq]
 |succ f c=>
  intro g n a b;cases g with
  |zero=>
   have:n=0:=by omega
   subst this;simp[oq]
  |succ g=>
   simp only[oq];split
   ·rfl
   ·rw[c g (n/128) (by omega) (by omega)]
theorem qr(n:Nat)(h:n<128):bL n=[UInt8.ofNat n]:=by
 unfold bL;cases n with
 |zero=>rfl
 |succ n=>simp[oq,h]
theorem vt(n:Nat)(h:128<=n):bL n=UInt8.ofNat (n % 128+128)::bL (n/128):=by
 unfold bL;cases n with
 |zero=>omega
 |succ n=>
  rw[oq,ai (by omega)]
  rw[Xs n ((n+1)/128) ((n+1)/128) (by omega) (ak _)]
theorem pQ(n:Nat)(h:n<9223372036854775808):0<(bL n).length/\(bL n).length<=9:=by
 have c:∀n,n<128->(bL n).length=1:=λn h=>by rw[qr n h];rfl
 have a:∀(k:Nat) (b:Nat),(∀n,n<b->0<(bL n).length/\(bL n).length<=k)->128<=128*b->∀n,n<128*b->0<(bL n).length/\(bL n).length<=k+1:=by
  intro k b m _ n o;by_cases h1:n<128
  ·rw[c n h1];omega
  ·rw[vt n (by omega),aR]
   have:=m (n/128) (by omega)
   omega
 have h1:∀n,n<128->0<(bL n).length/\(bL n).length<=1:=λn h=>by rw[c n h];omega
 have d:=a 1 128 h1 (by omega)
 have e:=a 2 (128*128) d (by omega)
 have h4:=a 3 (128*(128*128)) e (by omega)
 have f:=a 4 (128*(128*(128*128))) h4 (by omega)
 have g:=a 5 (128*(128*(128*(128*128)))) f (by omega)
 have i:=a 6 (128*(128*(128*(128*(128*128))))) g (by omega)
 have j:=a 7 (128*(128*(128*(128*(128*(128*128)))))) i (by omega)
 have l:=a 8 (128*(128*(128*(128*(128*(128*(128*128))))))) j (by omega)
 exact l n (by omega)
def dD:List UInt8->Nat
 | []=>0
 |c::r=>c.toNat % 128+128*dD r
theorem AQ(l:List UInt8)(c:UInt8):dD (l++[c])=dD l+c.toNat % 128*128^l.length:=by
 induction l with
 |nil=>simp[dD]
 |cons a l b=>
  simp only[jf,dD,b,aR,xm];rw[Nat.mul_add,<-kH];congr 1;rw[Nat.mul_left_comm,Bj 128]
theorem Ov(l:List UInt8):dD l<128^l.length:=by
 induction l with
 |nil=>simp[dD]
 |cons a l b=>
  simp only[dD,aR,xm];omega
def scan:Nat->List UInt8->Option (List UInt8)
 |0,_=>O
 |_+1,[]=>O
 |f+1,c::r=>if c.toNat<128 then X [c]else(scan f r).map (c::·)
theorem ofNat_toNat(c:UInt8):UInt8.ofNat c.toNat=c:=by simp
theorem GF:∀(p:List UInt8) (c:UInt8),c.toNat<128->(∀x∈p,128<=x.toNat)->
 (bL (dD (p++[c]))=p++[c]↔¬(c.toNat=0/\p≠ []))/\(dD (p++[c])=0->c.toNat=0):=by
 intro p
 induction p with
 |nil=>
  intro c f _;have e:dD ([]++[c])=c.toNat:=by simp[dD];omega
  rw[e,qr _ f];simp
 |cons a p t=>
  intro c f j;have u:128<=a.toNat:=j a (by simp)
  have q:a.toNat<256:=a.toNat_lt;obtain⟨k,l⟩:=t c f (λx s=>j x (by simp[s]))
  have e:dD (a::p++[c])=a.toNat % 128+128*dD (p++[c]):=rfl;rw[e];refine⟨?_,λh=>l (by omega)⟩
  by_cases g:dD (p++[c])=0
  ·have b:=l g;rw[g,qr _ (by omega)]
   constructor
   ·intro h;have:=congrArg List.length h;simp at this
   ·intro h;exact absurd ⟨b,by simp⟩ h
  ·rw[vt _ (by omega)]
   have m:(a.toNat % 128+128*dD (p++[c])) % 128+128=a.toNat:=by omega
   have n:(a.toNat % 128+128*dD (p++[c]))/128=dD (p++[c]):=by omega
   rw[m,n,ofNat_toNat];constructor
   ·intro h i;have o:bL (dD (p++[c]))=p++[c]:=by simpa using h
    have:=k.1 o;by_cases d:p=[]
    ·subst d;have:dD [c]=0:=by simp[dD,i.1]
     exact g this
    ·exact this ⟨i.1,d⟩
   ·intro h;have b:¬c.toNat=0:=λh0=>h ⟨h0,by simp⟩
    have:=k.2 (λr=>b r.1)
    rw[this];rfl
def cF(b:List UInt8)(a:Nat):Option (Nat×Nat):=
 match scan 5 (b.drop a)with
 |none=>O
 |some l=>if dD l<=1000000000/\bL (dD l)=l then X (dD l,a+l.length)else O
theorem Ul:∀(p r:List UInt8) (f:Nat),(∀x∈p,128<=x.toNat)->scan (p.length+f) (p++r)=(scan f r).map (p++·):=by
 intro p
 induction p with
 |nil=>intro r f _;simp
 |cons a p d=>
  intro r f b;have g:=b a (by simp)
  have e:(a::p).length+f=(p.length+f)+1:=by simp;omega
  rw[e,jf,scan,ai (by omega),d r f (λx c=>b x (by simp[c]))]
  cases scan f r<;>simp
end Go.Proofs.YtijmbohadndfmaaGreatDoor.Words
namespace Go.Proofs.YtijmbohadndfmaaGreatDoor.Words
def St(l:List UInt8)(q k n u:Nat):Prop:=
 k<=5/\q+k<=l.length/\(∀x∈(l.drop q).take k,128<=x.toNat)/\n=dD ((l.drop q).take k)/\u=128^k
variable{q k n c:Nat}
theorem St.zero{l:List UInt8}(h:q<=l.length):St l q 0 0 1:=⟨by omega,by omega,by simp,by simp[dD],by simp⟩
theorem DJ{l:List UInt8}(h:q+k<l.length):(l.drop q).take (k+1)=(l.drop q).take k++[l[q+k]]:=by
 rw[ge (by simp;omega)]
 simp
theorem pz{l:List UInt8}(h:q+k<=l.length):((l.drop q).take k).length=k:=by simp;omega
theorem St.step{l:List UInt8}{u:Nat}(h:St l q k n u)(g:k<5)(c:q+k<l.length)(f:128<=l[q+k].toNat):
 St l q (k+1) (n+l[q+k].toNat % 128*u) (u*128):=by
 obtain⟨h1,d,e,h4,b⟩:=h;refine⟨by omega,by omega,?_,?_,?_⟩
 ·rw[DJ c];intro x a;rcases br.1 a with a|a
  ·exact e x a
  ·simp at a;subst a;exact f
 ·rw[DJ c,AQ,pz d,<-h4,<-b]
 ·rw[b,xm]
theorem St.bounds{l:List UInt8}{u:Nat}(h:St l q k n u):0<u/\n<u/\u<=34359738368/\(k<5->u<=268435456)/\(k=5->u=34359738368):=by
 obtain⟨h1,b,d,h4,a⟩:=h;have c:=Ov ((l.drop q).take k);rw[pz b,<-h4,<-a]at c;have e:u=1/\k=0∨u=128/\k=1∨u=16384/\k=2∨u=2097152/\k=3∨u=268435456/\k=4∨u=34359738368/\k=5:=by
  match k,h1,a with
  |0,_,h=>left;exact⟨h,rfl⟩
  |1,_,h=>right;left;exact⟨h,rfl⟩
  |2,_,h=>right;right;left;exact⟨h,rfl⟩
  |3,_,h=>right;right;right;left;exact⟨h,rfl⟩
  |4,_,h=>right;right;right;right;left;exact⟨h,rfl⟩
  |5,_,h=>right;right;right;right;right;exact⟨h,rfl⟩
  |k+6,h,_=>omega
 omega
theorem Ng{l:List UInt8}:l.drop q=(l.drop q).take k++l.drop (q+k):=by
 have:=jP k (l.drop q);rw[qo]at this;exact this.symm
theorem St.scan{l:List UInt8}{u:Nat}(h:St l q k n u):scan 5 (l.drop q)=(scan (5-k) (l.drop (q+k))).map ((l.drop q).take k++·):=by
 obtain⟨h1,a,b,_,_⟩:=h;have e:=Ul ((l.drop q).take k) (l.drop (q+k)) (5-k) b;rw[pz a,<-Ng]at e;rw[<-e];congr 1;omega
theorem St.stop{l:List UInt8}{u:Nat}(h:St l q k n u)(hs:¬(q+k<l.length/\k<5)):cF l q=O:=by
 have e:=h.scan;obtain⟨h1,c,_,_,_⟩:=h;have:Words.scan (5-k) (l.drop (q+k))=O:=by
  by_cases b:k=5
  ·subst b;rfl
  ·have:l.drop (q+k)=[]:=kB (by omega)
   rw[this];obtain⟨f,a⟩:∃f,5-k=f+1:=⟨4-k,by omega⟩
   rw[a];rfl
 rw[this]at e;simp[cF,e]
theorem St.hit{l:List UInt8}{u:Nat}(h:St l q k n u)(s:k<5)(r:q+k<l.length)(c:l[q+k].toNat<128):
 cF l q=if n+l[q+k].toNat % 128*u<=1000000000/\¬(l[q+k].toNat=0/\k≠0)then X (n+l[q+k].toNat % 128*u,q+k+1)else O:=by
 have e:=h.scan;obtain⟨h1,a,m,h4,o⟩:=h;have g:l.drop (q+k)=l[q+k]::l.drop (q+k+1):=gj r;obtain⟨f,p⟩:∃f,5-k=f+1:=⟨4-k,by omega⟩
 rw[g,p,Words.scan,aj c,kg]at e;have d:=(GF ((l.drop q).take k) l[q+k] c m).1;have b:dD ((l.drop q).take k++[l[q+k]])=n+l[q+k].toNat % 128*u:=by rw[AQ,pz a,<-h4,<-o]
 have i:(l.drop q).take k≠ []↔k≠0:=by
  rw[<-List.length_pos_iff,pz a];omega
 rw[b,i]at d;unfold cF;rw[e];simp only[b,d];have j:((l.drop q).take k++[l[q+k]]).length=k+1:=by rw[aT,pz a];rfl
 rw[j,kH]
theorem St.hit_yes {l:List UInt8} {u:Nat} (h:St l q k n u) (c:k<5) (d:q+k<l.length) (b:l[q+k].toNat<128)
 (h1:n+l[q+k].toNat % 128*u<=1000000000) (a:¬(l[q+k].toNat=0/\k≠0)):cF l q=X (n+l[q+k].toNat % 128*u,q+k+1):=by
 rw[h.hit c d b,aj ⟨h1,a⟩]
theorem St.hit_no {l:List UInt8} {u:Nat} (h:St l q k n u) (b:k<5) (c:q+k<l.length) (a:l[q+k].toNat<128)
 (h1:1000000000<n+l[q+k].toNat % 128*u∨l[q+k].toNat=0/\k≠0):cF l q=O:=by
 rw[h.hit b c a,ai (by omega)]
theorem St.hit_var{l:List UInt8}{u:Nat}(h:St l q k n u)(i:q+k<l.length)(g:l[q+k].toNat<128):
 bL (n+l[q+k].toNat % 128*u)=(l.drop q).take (k+1)↔¬(l[q+k].toNat=0/\k≠0):=by
 obtain⟨h1,a,e,h4,f⟩:=h;have b:=(GF ((l.drop q).take k) l[q+k] g e).1;have c:dD ((l.drop q).take k++[l[q+k]])=n+l[q+k].toNat % 128*u:=by rw[AQ,pz a,<-h4,<-f]
 have d:(l.drop q).take k≠ []↔k≠0:=by
  rw[<-List.length_pos_iff,pz a];omega
 rw[c,d]at b;rw[DJ i];exact b
def At(l:List UInt8)(i c:Nat):Prop:=∃h:i<l.length,l[i].toNat=c
theorem St.step'{l:List UInt8}{u:Nat}(h:St l q k n u)(d:k<5)(a:At l (q+k) c)(b:128<=c):St l q (k+1) (n+c % 128*u) (u*128):=by
 obtain⟨e,rfl⟩:=a;exact h.step d e b
theorem St.yes'{l:List UInt8}{u:Nat}(h:St l q k n u)(e:k<5)(b:At l (q+k) c)(d:c<128)(h1:n+c % 128*u<=1000000000)(a:¬(c=0/\k≠0)):
 cF l q=X (n+c % 128*u,q+k+1):=by
 obtain⟨f,rfl⟩:=b;exact h.hit_yes e f d h1 a
theorem St.no'{l:List UInt8}{u:Nat}(h:St l q k n u)(d:k<5)(a:At l (q+k) c)(b:c<128)(h1:1000000000<n+c % 128*u∨c=0/\k≠0):
 cF l q=O:=by
 obtain⟨e,rfl⟩:=a;exact h.hit_no d e b h1
theorem St.var'{l:List UInt8}{u:Nat}(h:St l q k n u)(a:At l (q+k) c)(b:c<128):
 bL (n+c % 128*u)=(l.drop q).take (k+1)↔¬(c=0/\k≠0):=by
 obtain⟨d,rfl⟩:=a;exact h.hit_var d b
theorem Mc(c u:Nat)(a:u<=268435456):c % 128*u<=34091302912:=by
 have h1:c % 128<=127:=by omega
 have:=Nat.mul_le_mul h1 a;omega
theorem Ry:∀(f:Nat) (l r:List UInt8),scan f l=X r->r.length<=l.length:=by
 intro f
 induction f with
 |zero=>intro l r h;simp[scan]at h
 |succ f a=>
  intro l r h;cases l with
  |nil=>simp[scan]at h
  |cons c l=>
   rw[scan]at h;split at h
   ·cases h;simp
   ·cases e:scan f l with
    |none=>simp[e]at h
    |some r'=>
     simp[e]at h;subst h;have:=a l r' e;simp;omega
theorem sd(l:List UInt8)(q n j:Nat)(a:q<=l.length)(h:cF l q=X (n,j)):j<=l.length/\n<=1000000000:=by
 unfold cF at h;cases e:scan 5 (l.drop q)with
 |none=>simp[e]at h
 |some r=>
  have:=Ry 5 _ _ e;simp only[jz]at this;simp only[e]at h;split at h
  ·rename_i h1
   cases h;exact⟨by omega,h1.1⟩
  ·cases h
theorem Us(c u:Nat)(a:u<=268435456):(c:Int) % 128*u<=34091302912:=by
 have:=Mc c u a;have h:((c % 128*u:Nat):Int)<=(34091302912:Nat):=Int.ofNat_le.2 this
 simpa using h
theorem Zn(c u:Nat):0<=(c:Int) % 128*u:=by
 have h:(0:Int)<=((c % 128*u:Nat):Int):=Int.natCast_nonneg _
 simpa using h
theorem t8(n c u:Nat):((n+c % 128*u:Nat):Int)=n+(c:Int) % 128*u:=by simp
end Go.Proofs.YtijmbohadndfmaaGreatDoor.Words
namespace Go.Proofs.YtijmbohadndfmaaGreatDoor.Words
structure Pg where
 kind:Int
 seq:Int
 tx:Int
 part:Int
 count:Int
 text:ByteArray
def Pg.Right(p:Pg):Prop:=
 (p.kind=1/\p.count=1/\p.part=0∨p.kind=2/\1<=p.count/\p.count<=9/\0<=p.part/\p.part<p.count)/\1<=p.seq/\p.seq<=1000000000/\1<=p.tx/\p.tx<=1000000000/\(p.text.size:Int)<=90
abbrev Pg.decR(p:Pg):Decidable p.Right:=by unfold Pg.Right;exact inferInstance
def eP(n:Nat):ByteArray:=⟨(bL n).toArray⟩
def nA(n:Nat):ByteArray:=⟨#[UInt8.ofNat n]⟩
def dG(p:Pg):ByteArray:=((((nA p.kind.toNat++eP p.seq.toNat)++eP p.tx.toNat)++eP p.part.toNat)++eP p.count.toNat)++p.text
theorem Dt(p:Pg):(dG p).data.toList=UInt8.ofNat p.kind.toNat::(bL p.seq.toNat++(bL p.tx.toNat++(bL p.part.toNat++(bL p.count.toNat++p.text.data.toList)))):=by
 simp[dG,nA,eP,ByteArray.data_append]
theorem Eu(p:Pg)(h:p.Right):(dG p).size<=127:=by
 obtain⟨h1,g,i,h4,j,k⟩:=h;have a:=(pQ p.seq.toNat (by omega)).2
 have b:=(pQ p.tx.toNat (by omega)).2
 have c:=(pQ p.part.toNat (by omega)).2
 have d:=(pQ p.count.toNat (by omega)).2
 have e:(dG p).size=(dG p).data.toList.length:=rfl;have f:p.text.size=p.text.data.toList.length:=rfl;rw[e,Dt];simp only[aR,aT];omega
theorem Pm:∀(f:Nat) (l r:List UInt8),scan f l=X r->l=r++l.drop r.length:=by
 intro f
 induction f with
 |zero=>intro l r h;simp[scan]at h
 |succ f a=>
  intro l r h;cases l with
  |nil=>simp[scan]at h
  |cons c l=>
   simp only[scan]at h;split at h
   ·cases h;simp
   ·cases e:scan f l with
    |none=>simp[e]at h
    |some r'=>
     simp[e]at h;subst h;have:=a l r' e;simp only[jf,aR,List.drop_succ_cons];rw[<-this]
theorem sX(l:List UInt8)(q n j:Nat)(h:cF l q=X (n,j)):l.drop q=bL n++l.drop j:=by
 unfold cF at h;cases e:scan 5 (l.drop q)with
 |none=>simp[e]at h
 |some r=>
  have a:=Pm 5 _ _ e;simp only[e]at h;split at h
  ·rename_i h1
   cases h;rw[h1.2];rw[qo]at a;exact a
  ·cases h
theorem Vp:∀(f n:Nat) (r:List UInt8),n<128^(f+1)->scan (f+1) (bL n++r)=X (bL n):=by
 intro f
 induction f with
 |zero=>
  intro n r h;have h1:n<128:=by simpa using h
  have e:(UInt8.ofNat n).toNat=n:=by rw[og];omega
  rw[qr n h1,xZ,scan,e,aj h1]
 |succ f b=>
  intro n r h;by_cases h1:n<128
  ·have e:(UInt8.ofNat n).toNat=n:=by rw[og];omega
   rw[qr n h1,xZ,scan,e,aj h1]
  ·have e:(UInt8.ofNat (n % 128+128)).toNat=n % 128+128:=by rw[og];omega
   have a:n/128<128^(f+1):=by
    rw[xm]at h;omega
   rw[vt n (by omega),jf,scan,e,ai (by omega),b (n/128) r a]
   rfl
theorem QH:∀(k n:Nat),n<=k->dD (bL n)=n:=by
 intro k
 induction k with
 |zero=>
  intro n h;have:n=0:=by omega
  subst this;rfl
 |succ k a=>
  intro n h;by_cases h1:n<128
  ·have e:(UInt8.ofNat n).toNat=n:=by rw[og];omega
   rw[qr n h1,dD,dD,e];omega
  ·have e:(UInt8.ofNat (n % 128+128)).toNat=n % 128+128:=by rw[og];omega
   rw[vt n (by omega),dD,e,a (n/128) (by omega)];omega
theorem sU(l:List UInt8)(q n:Nat)(r:List UInt8)(a:n<=1000000000)(h:l.drop q=bL n++r):cF l q=X (n,q+(bL n).length)/\l.drop (q+(bL n).length)=r:=by
 constructor
 ·unfold cF;rw[h,Vp 4 n r (by omega)]
  have e:=QH n n (ak _);simp only[e];rw[aj ⟨a,trivial⟩]
 ·rw[<-qo,h,List.drop_left]
def qg(s:ByteArray):Option Pg:=
 match s.data.toList[0]? with
 |none=>O
 |some k=>
  match cF s.data.toList 1 with
  |none=>O
  |some (a,f)=>
   match cF s.data.toList f with
   |none=>O
   |some (b,g)=>
    match cF s.data.toList g with
    |none=>O
    |some (c,h)=>
     match cF s.data.toList h with
     |none=>O
     |some (d,e)=>letI:=(Pg.mk k.toNat a b c d (s.extract e s.size)).decR;if (Pg.mk k.toNat a b c d (s.extract e s.size)).Right then X (Pg.mk k.toNat a b c d (s.extract e s.size))else O
theorem Jc(s:ByteArray)(i:Nat):(s.extract i s.size).data.toList=s.data.toList.drop i:=by
 simp[ByteArray.data_extract];exact cm (by rw[jz];exact ak _)
theorem rB{a b:ByteArray}(h:a.data.toList=b.data.toList):a=b:=lP (qO.1 h)
variable{c:Nat}
theorem GY{s:ByteArray}{k:UInt8}{a b d f g h i:Nat}(h0:s.data.toList[0]?=X k)(h1:cF s.data.toList 1=X (a,f))(p:cF s.data.toList f=X (b,g))(q:cF s.data.toList g=X (c,h))(h4:cF s.data.toList h=X (d,i)):
 dG (Pg.mk k.toNat a b c d (s.extract i s.size))=s:=by
 apply rB;rw[Dt,Jc];have j:=sX _ _ _ _ h1;have m:=sX _ _ _ _ p;have n:=sX _ _ _ _ q;have o:=sX _ _ _ _ h4;simp only[aZ,ofNat_toNat];rw[<-o,<-n,<-m,<-j];cases e:s.data.toList with
 |nil=>rw[e]at h0;cases h0
 |cons x l=>rw[e]at h0;cases h0;simp
theorem NZ(p:Pg)(h:p.Right):qg (dG p)=X p:=by
 obtain⟨h1,s,t,h4,u,v⟩:=id h;have e:=Dt p;have i:(dG p).data.toList[0]?=X (UInt8.ofNat p.kind.toNat):=by rw[e];rfl
 obtain⟨j,n⟩:=sU (dG p).data.toList 1 p.seq.toNat _ (by omega) (by rw[e];rfl)
 obtain⟨k,o⟩:=sU (dG p).data.toList _ p.tx.toNat _ (by omega) n
 obtain⟨l,q⟩:=sU (dG p).data.toList _ p.part.toNat _ (by omega) o
 obtain⟨m,r⟩:=sU (dG p).data.toList _ p.count.toNat _ (by omega) q
 unfold qg;rw[i];simp only[j,k,l,m];have g:(dG p).extract (1+(bL p.seq.toNat).length+(bL p.tx.toNat).length+(bL p.part.toNat).length+(bL p.count.toNat).length) (dG p).size=p.text:=by
  apply rB;rw[Jc,r]
 have f:((UInt8.ofNat p.kind.toNat).toNat:Int)=p.kind:=by rw[og];omega
 have a:((p.seq.toNat:Nat):Int)=p.seq:=by omega
 have b:((p.tx.toNat:Nat):Int)=p.tx:=by omega
 have c:((p.part.toNat:Nat):Int)=p.part:=by omega
 have d:((p.count.toNat:Nat):Int)=p.count:=by omega
 rw[g,f,a,b,c,d];exact aj h
end Go.Proofs.YtijmbohadndfmaaGreatDoor.Words
namespace Go.Proofs.YtijmbohadndfmaaGreatDoor
open Words Sums
def kQ(t:ByteArray):Option Pg:=match lD t with|none=>O|some s=>qg s
theorem OM(p:Pg)(h:p.Right):kQ (dJ (dG p))=X p:=by
 unfold kQ;rw[LV _ (by have:=Eu p h;omega)]
 exact NZ p h
variable{t:ByteArray}{ls:List (Int × ByteArray)}{k:Nat}
variable{p:Pg}
theorem Sw(h:kQ t=X p):p.Right/\dJ (dG p)=t:=by
 unfold kQ at h;cases e:lD t with
 |none=>rw[e]at h;cases h
 |some s=>
  rw[e]at h;simp only at h;unfold qg at h;split at h
  ·cases h
  ·rename_i k0 h0
   split at h
   ·cases h
   ·rename_i a i1 h1
    split at h
    ·cases h
    ·rename_i b i2 h2
     split at h
     ·cases h
     ·rename_i c i3 h3
      split at h
      ·cases h
      ·rename_i d i4 h4
       split at h
       ·rename_i hq
        cases h;refine⟨hq,?_⟩;rw[GY h0 h1 h2 h3 h4];exact(BM e).1
       ·cases h
abbrev Bk:=Bool×Int×List (Int×ByteArray)
def gC(t:Int×ByteArray):Bool:=decide (t.1=0/\t.2.size=0∨t.1=1/\1<=t.2.size/\t.2.size<=120∨t.1=2/\t.2.size<=120)
def ib(ls:List (Int×ByteArray))(k:Nat):Bool:=match ls[k]? with
 |none=>iV
 |some t=>gC t&& !(decide (0<k/\t.1≠0/\∃u,ls[k-1]?=X u/\u.1=0))
def di(b:Bk):Bool:=decide (b.2.2.length=4/\0<=b.2.1/\b.2.1<=1000000000)&&(List.range b.2.2.length).all (ib b.2.2)
def bn(bs:List Bk):Bool:=decide (3<=bs.length/\bs.length<=10)&&bs.all di
variable{bs:List Bk}
theorem xY{b:Bk}(a:b∈bs)(h:di b=iF):bn bs=iF:=by
 have h1:bs.all di=iF:=sj.2 ⟨b,a,by simp[h]⟩
 simp[bn,h1]
theorem EH(h:∀b∈bs,di b=iV):bn bs=decide (3<=bs.length/\bs.length<=10):=by
 have h1:bs.all di=iV:=gy.2 h;simp[bn,h1]
theorem LW{b:Bk}(h:b.2.2.length≠4):di b=iF:=by simp[di,h]
theorem XI{b:Bk}(h:¬(0<=b.2.1/\b.2.1<=1000000000)):di b=iF:=by
 have h1:decide (b.2.2.length=4/\0<=b.2.1/\b.2.1<=1000000000)=iF:=aV (λa=>h a.2)
 simp only[di,h1,mV]
theorem D6{b:Bk}(a:k<b.2.2.length)(h:ib b.2.2 k=iF):di b=iF:=by
 have h1:(List.range b.2.2.length).all (ib b.2.2)=iF:=sj.2 ⟨k,ju.2 a,by simp[h]⟩
 simp only[di,h1,uq]
theorem Gg{b:Bk}(c:b.2.2.length=4)(d:0<=b.2.1/\b.2.1<=1000000000)(h:∀k,k<b.2.2.length->ib b.2.2 k=iV):di b=iV:=by
 have h1:(List.range b.2.2.length).all (ib b.2.2)=iV:=gy.2 (λk a=>h k (ju.1 a))
 simp only[di,h1,Cx];exact aQ ⟨c,d⟩
theorem Kf{t:Int×ByteArray}(a:ls[k]?=X t)(h:gC t=iF):ib ls k=iF:=by simp[ib,a,h]
theorem Hp{t:Int×ByteArray}(a:ls[0]?=X t)(h:gC t=iV):ib ls 0=iV:=by simp only[ib,a,h];simp
theorem FX{t u:Int×ByteArray}(f:ls[k+1]?=X t)(g:ls[k]?=X u)(h:gC t=iV)(d:u.1≠0∨t.1=0):ib ls (k+1)=iV:=by
 have h1:decide (0<k+1/\t.1≠0/\∃u,ls[k+1-1]?=X u/\u.1=0)=iF:=by
  refine aV (λe=>?_)
  obtain⟨-,a,q,b,c⟩:=e;rw[Nat.add_sub_cancel,g]at b;cases b;rcases d with d|d
  ·exact d c
  ·exact a d
 simp only[ib,f,h,h1];rfl
theorem F7{t u:Int×ByteArray}(b:ls[k+1]?=X t)(c:ls[k]?=X u)(h0:u.1=0)(a:t.1≠0):ib ls (k+1)=iF:=by
 have h1:decide (0<k+1/\t.1≠0/\∃u,ls[k+1-1]?=X u/\u.1=0)=iV:=aQ ⟨by omega,a,u,by rw[Nat.add_sub_cancel];exact c,h0⟩
 simp only[ib,b,h1];simp
def bm(ls:List (Int×ByteArray)):Nat:=if ls.findIdx (λt=>t.1==0)<ls.length then ls.findIdx (λt=>t.1==0)else 4
theorem Bx{t:Int×ByteArray}(d:ls[k]?=X t)(h0:t.1=0)(b:∀(j:Nat) (u:Int×ByteArray),j<k->ls[j]?=X u->u.1≠0):bm ls=k:=by
 obtain⟨h1,a⟩:=aD.1 d;have h:ls.findIdx (λt=>t.1==0)=k:=by
  rw[List.findIdx_eq h1];refine⟨by rw[a];simp[h0],λj c=>?_⟩
  have:=b j ls[j] c (ay (by omega))
  simpa using this
 simp only[bm,h,aj h1]
theorem FU(a:∀(j:Nat) (u:Int×ByteArray),ls[j]?=X u->u.1≠0):bm ls=4:=by
 have h:ls.findIdx (λt=>t.1==0)=ls.length:=by
  rw[Cw];intro t c;obtain⟨j,b,rfl⟩:=nJ c;have:=a j ls[j] (ay b)
  simpa using this
 simp only[bm,h];rw[ai (by omega)]
def eK:List (Int×ByteArray):=[(0,⟨#[]⟩),(0,⟨#[]⟩),(0,⟨#[]⟩),(0,⟨#[]⟩)]
def gL(n:Int):List Bk:=if 3<=n/\n<=10 then List.replicate n.toNat (iF,0,eK)else[]
def ij(bs:List Bk)(b leaf:Int)(t:ByteArray):Bool:=match bs[b.toNat]? with
 |none=>iF
 |some r=>decide (0<=b/\r.1=iF/\leaf<4/\leaf=bm r.2.2/\1<=t.size/\t.size<=120)
def jG(bs:List Bk)(b leaf:Nat)(t:ByteArray):List Bk:=bs.modify b (λr=>(r.1,r.2.1,r.2.2.set leaf (1,t)))
def fY(bs:List Bk)(b leaf:Int)(t:ByteArray):List Bk×Bool:=if bn bs&&ij bs b leaf t then(jG bs b.toNat leaf.toNat t,iV)else(bs,iF)
def qw(bs:List Bk)(b:Int):Bool:=match bs[b.toNat]? with
 |none=>iF
 |some r=>decide (0<=b/\r.1=iF/\r.2.1≠1000000000)
def gx(bs:List Bk)(b:Int):List Bk×Bool:=if bn bs&&qw bs b then(bs.modify b.toNat (λr=>(iF,r.2.1+1,eK)),iV)else(bs,iF)
def eh(bs:List Bk)(b leaf:Int):ByteArray×Bool:=match bs[b.toNat]? with
 |none=>(⟨#[]⟩,iF)
 |some r=>match r.2.2[leaf.toNat]? with
  |none=>(⟨#[]⟩,iF)
  |some t=>if 0<=b/\0<=leaf/\t.1=1 then(t.2,iV)else(⟨#[]⟩,iF)
end Go.Proofs.YtijmbohadndfmaaGreatDoor
namespace Go.Proofs.YtijmbohadndfmaaGreatDoor.Words
structure aq where
 block:Int
 leaf:Int
 fP:Pg
def aq.key(x:aq):Int:=x.fP.seq
def Asc(l:List aq):Prop:=l.Pairwise (λa b=>a.key<=b.key)
def Akin(l k:List aq):Prop:=∀c:Int,l.filter (λx=>x.key==c)=k.filter (λx=>x.key==c)
theorem Akin.refl(l:List aq):Akin l l:=λ_=>rfl
theorem Akin.symm{l k:List aq}(h:Akin l k):Akin k l:=λc=>(h c).symm
theorem Akin.trans{l k m:List aq}(h:Akin l k)(a:Akin k m):Akin l m:=λc=>(h c).trans (a c)
theorem Akin.app{a b c d:List aq}(h:Akin a b)(e:Akin c d):Akin (a++c) (b++d):=λz=>by
 rw[iD,iD,h z,e z]
theorem Akin.flip{a b:List aq}(h:∀x∈a,∀y∈b,x.key≠y.key):Akin (a++b) (b++a):=λc=>by
 rw[iD,iD];by_cases d:∃x∈a,x.key=c
 ·obtain⟨x,f,rfl⟩:=d;have:b.filter (λy=>y.key==x.key)=[]:=by
   rw[mt];intro y hy;have:=h x f y hy
   simpa using λe=>this e.symm
  rw[this];simp
 ·have:a.filter (λy=>y.key==c)=[]:=by
   rw[mt];intro y hy
   simpa using λe=>d ⟨y,hy,e⟩
  rw[this];simp
theorem Akin.mem{l k:List aq}(h:Akin l k)(x:aq):x∈l↔x∈k:=by
 have:=h x.key;have e:∀m:List aq,x∈m↔x∈m.filter (λy=>y.key==x.key):=λm=>by simp
 rw[e l,e k,this]
theorem Akin.eq:∀{l k:List aq},Akin l k->Asc l->Asc k->l=k:=by
 intro l
 induction l with
 |nil=>
  intro k h _ _;cases k with
  |nil=>rfl
  |cons b k=>
   have:=h b.key;simp at this
 |cons a l m=>
  intro k h g i;cases k with
  |nil=>
   have:=h a.key;simp at this
  |cons b k=>
   have f:a.key=b.key:=by
    have h1:b∈a::l:=(h.mem b).2 mT;have j:a∈b::k:=(h.mem a).1 mT;have c1:a.key<=b.key:=by
     rcases bf.1 h1 with e|e
     ·rw[e];exact kN _
     ·exact(gK.1 g).1 b e
    have c2:b.key<=a.key:=by
     rcases bf.1 j with e|e
     ·rw[e];exact kN _
     ·exact(gK.1 i).1 a e
    omega
   have h0:=h a.key;rw[nN (by simp),nN (by simp[f])]at h0
   injection h0 with e1 _
   subst e1;congr 1;refine m (λc=>?_) (gK.1 g).2 (gK.1 i).2
   have d:=h c;by_cases e:a.key=c
   ·rw[nN (by simp[e]),nN (by simp[e])]at d
    injection d
   ·rw[qR (by simpa using e),qR (by simpa using e)]at d
    exact d
theorem Asc.app{a b:List aq}(c:Asc a)(d:Asc b)(h:∀x∈a,∀y∈b,x.key<=y.key):Asc (a++b):=eW.2 ⟨c,d,h⟩
theorem Asc.left{a b:List aq}(h:Asc (a++b)):Asc a:=(eW.1 h).1
theorem Asc.right{a b:List aq}(h:Asc (a++b)):Asc b:=(eW.1 h).2.1
theorem Asc.across{a b:List aq}(h:Asc (a++b)):∀x∈a,∀y∈b,x.key<=y.key:=(eW.1 h).2.2
end Go.Proofs.YtijmbohadndfmaaGreatDoor.Words
namespace Go.Proofs.YtijmbohadndfmaaGreatDoor
open Words Sums
def fs(bs:List Bk)(b k:Int):Option Pg:=if (eh bs b k).2 then kQ (eh bs b k).1 else O
def kw(bs:List Bk)(b:Nat):Nat->List aq
 |0=> []
 |k+1=>kw bs b k++(match fs bs b k with|some p=> [⟨b,k,p⟩]|none=> [])
def gH(bs:List Bk):Nat->List aq
 |0=> []
 |b+1=>gH bs b++kw bs b ((bs[b]?).map (λr=>r.2.2.length)|>.getD 0)
theorem Yz(bs:List Bk)(b k:Nat):(kw bs b k).length<=k:=by
 induction k with
 |zero=>exact ak _
 |succ k a=>
  simp only[kw,aT];split<;>simp<;>omega
end Go.Proofs.YtijmbohadndfmaaGreatDoor
