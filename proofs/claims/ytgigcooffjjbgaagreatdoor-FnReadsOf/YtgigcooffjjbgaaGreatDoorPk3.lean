/-
  StMath; ScM; ScM2; TMath; ZMath; ChM; RoMath; HpMath; PlMath; PoMath
-/
import Derived.Test.YtgigcooffjjbgaaGreatDoorPk2
open Go.Value renaming int→I,string→iT,agg→iA
open Go.IntKind renaming i64→J
open Option renaming none→O,some→X
open Bool renaming true→iV,false→iF
open Go renaming Value→iX
namespace Go.Proofs.YtgigcooffjjbgaaGreatDoor
abbrev aM:=Int×Int×Int×ByteArray
def yp(s:aM):iX:=iA #[I J s.1,I J s.2.1,I J s.2.2.1,iT s.2.2.2]
def cV(bs:List Bk)(s:aM):List Bk×Bool:=if s.1=1 then gI bs s.2.1 s.2.2.1 s.2.2.2 else if s.1=2 then gL bs s.2.1 else(bs,iF)
def de:List Bk->List aM->List Bk×Nat
 |bs,[]=>(bs,0)
 |bs,s::l=>if (cV bs s).2 then((de (cV bs s).1 l).1,(de (cV bs s).1 l).2+1)else(bs,0)
variable{α:Type}{t:ByteArray}{i b k n j:Nat}
variable{bs:List Bk}
theorem Gs{c:List Bk}{l m:List aM}(h:de bs l=(c,l.length)):de bs (l++m)=((de c m).1,l.length+(de c m).2):=by
 induction l generalizing bs with
 |nil=>
  simp only[de]at h;cases h;simp
 |cons s l d=>
  simp only[de,aW]at h;by_cases hs:(cV bs s).2=iV
  ·rw[ak hs]at h;have h1:de (cV bs s).1 l=(c,l.length):=by
    have b:=congrArg Prod.fst h;have a:=congrArg Prod.snd h;simp only at b a;exact qE b (by simp only;omega)
   rw[ii,de,ak hs,d h1];simp only[aW];congr 1;omega
  ·rw[ai hs]at h;have a:=congrArg Prod.snd h;simp at a
theorem IF(bs:List Bk)(s:aM):de bs [s]=if (cV bs s).2 then((cV bs s).1,1)else(bs,0):=by
 simp only[de]
theorem aaq{b:List Bk}{l:List aM}{s:aM}(h:de bs (l.take i)=(b,i))(hs:l[i]?=X s)(d:(cV b s).2=iV):de bs (l.take (i+1))=((cV b s).1,i+1):=by
 obtain⟨h1,rfl⟩:=aC.1 hs;have a:(l.take i).length=i:=by rw[cD];omega
 rw[ft h1,Gs (c:=b) (by rw[a];exact h),IF,ak d,a]
theorem Od{b:List Bk}{l:List aM}{s:aM}(h:de bs (l.take i)=(b,i))(hs:l[i]?=X s)(d:(cV b s).2=iF):de bs l=(b,i):=by
 obtain⟨h1,rfl⟩:=aC.1 hs;have a:(l.take i).length=i:=by rw[cD];omega
 have e:l=l.take i++(l[i]::l.drop (i+1)):=by rw[<-jh h1,jk]
 rw[e,Gs (c:=b) (by rw[a];exact h),de,ai (by rw[d];simp),a]
 rfl
theorem Oe{b:List Bk}{l:List aM}(h:de bs (l.take i)=(b,i))(hi:i=l.length):de bs l=(b,l.length):=by
 subst hi;rw[ci (am _)]at h;exact h
theorem Yu{s:aM}(h:(cV bs s).2=iV):∃(k:Nat) (r:Bk),s.2.1=k/\bs[k]?=X r/\r.2.2.length=4/\(s.1=1∨s.1=2)/\(s.1=1->∃j:Nat,s.2.2.1=j/\j<4/\j=br r.2.2/\1<=s.2.2.2.size/\s.2.2.2.size<=120)/\bp bs=iV/\r.1=iF:=by
 have fi:∀r∈bs,bp bs=iV->r.2.2.length=4:=by
  intro r e h;simp only[bp,bu,gY]at h;have b:=h.2 r e;simp only[dw,bu,bM]at b;exact b.1.1
 unfold cV at h;by_cases h1:s.1=1
 ·rw[ak h1]at h;unfold gI at h;split at h
  ·rename_i b
   rw[bu]at b;obtain⟨d,a⟩:=b;unfold jb at a;cases c:bs[s.2.1.toNat]? with
   |none=>rw[c]at a;cases a
   |some r=>
    rw[c]at a;have a:=ri a;exact⟨s.2.1.toNat,r,by omega,c,fi r (aL c) d,Or.inl h1,λ_=>⟨br r.2.2,a.2.2.2.1,by omega,rfl,a.2.2.2.2.1,a.2.2.2.2.2⟩,d,a.2.1⟩
  ·cases h
 ·rw[ai h1]at h;by_cases b:s.1=2
  ·rw[ak b]at h;unfold gL at h;split at h
   ·rename_i h3
    rw[bu]at h3;obtain⟨d,a⟩:=h3;unfold qZ at a;cases c:bs[s.2.1.toNat]? with
    |none=>rw[c]at a;cases a
    |some r=>
     rw[c]at a;have a:=ri a;exact⟨s.2.1.toNat,r,by omega,c,fi r (aL c) d,Or.inr b,λh=>absurd h h1,d,a.2.1⟩
   ·cases h
  ·rw[ai b]at h;cases h
open Words Sums
def mH(x:an):List an->List an
 | []=> [x]
 |y::l=>if x.key<y.key then x::y::l else y::mH x l
def lQ(l:List an):List an:=l.foldl (λm x=>mH x m) []
variable{x:an}
theorem Vj{y:an}{l:List an}:y∈mH x l↔y=x∨y∈l:=by
 induction l with
 |nil=>simp[mH]
 |cons z l a=>
  unfold mH;split
  ·simp
  ·simp only[be,a];constructor
   ·rintro(h|h|h)
    ·exact .inr (.inl h)
    ·exact .inl h
    ·exact .inr (.inr h)
   ·rintro(h|h|h)
    ·exact .inr (.inl h)
    ·exact .inl h
    ·exact .inr (.inr h)
theorem Vf{l:List an}(h:Asc l):Asc (mH x l):=by
 induction l with
 |nil=>exact mQ _ _
 |cons z l a=>
  have h1:=gx.1 h;unfold mH;split
  ·rename_i hx
   refine gx.2 ⟨?_,h⟩;intro y hy;rcases be.1 hy with e|e
   ·subst e;omega
   ·have:=h1.1 y e;omega
  ·rename_i hx
   refine gx.2 ⟨?_,a h1.2⟩;intro y hy;rcases Vj.1 hy with e|e
   ·subst e;omega
   ·exact h1.1 y e
theorem Vd{l:List an}(h:Asc l):Akin (mH x l) (l++[x]):=by
 intro c
 induction l with
 |nil=>rfl
 |cons z l d=>
  have h1:=gx.1 h;unfold mH;split
  ·rename_i hx
   rw[jF];by_cases e:x.key=c
   ·have b:(z::l).filter (λy=>y.key==c)=[]:=by
     rw[mI];intro y hy;rcases be.1 hy with q|q
     ·subst q;simp;omega
     ·have:=h1.1 y q;simp;omega
    rw[b,nZ (by simpa using e),b,nZ (by simpa using e)]
    rfl
   ·rw[rF (a:=x) (by simpa using e),rF (a:=x) (l:=[]) (by simpa using e)]
    simp
  ·rw[ii];by_cases e:z.key=c
   ·rw[nZ (by simpa using e),nZ (by simpa using e),d h1.2]
   ·rw[rF (by simpa using e),rF (by simpa using e),d h1.2]
theorem zY(l:List an)(x:an):lQ (l++[x])=mH x (lQ l):=by simp[lQ,List.foldl_append]
theorem Du{P:List α->Prop}(h0:P [])(h1:∀l r,P l->P (l++[r])):∀l,P l:=by
 intro l;have:∀m:List α,P m.reverse:=by
  intro m
  induction m with
  |nil=>simpa using h0
  |cons a m b=>rw[List.reverse_cons];exact h1 _ _ b
 simpa using this l.reverse
theorem xJ(l:List an):Asc (lQ l):=by
 induction l using Du with
 |h0=>exact List.Pairwise.nil
 |h1 l x ih=>rw[zY];exact Vf ih
theorem xu(l:List an):Akin l (lQ l):=by
 induction l using Du with
 |h0=>exact Akin.refl _
 |h1 l x ih=>
  rw[zY];exact(ih.app (Akin.refl [x])).trans (Vd (xJ l)).symm
theorem Eu{l m:List an}(h:Akin l m)(a:Asc m):m=lQ l:=(h.symm.trans (xu l)).eq a (xJ l)
theorem Ae(l:List an)(x:an):x∈lQ l↔x∈l:=((xu l).mem x).symm
theorem Words.Asc.sub{l m:List an}(h:Asc l)(hs:m.Sublist l):Asc m:=List.Pairwise.sublist hs h
theorem Words.Akin.filter{l m:List an}(h:Akin l m)(p:an->Bool):Akin (l.filter p) (m.filter p):=λc=>by
 have e:∀k:List an,(k.filter p).filter (λx=>x.key==c)=(k.filter (λx=>x.key==c)).filter p:=λk=>by
  rw[vS,vS];congr 1;funext x;exact uD _ _
 rw[e,e,h c]
theorem NZ(l:List an)(p:an->Bool):lQ (l.filter p)=(lQ l).filter p:=
 (Eu ((xu l).filter p) ((xJ l).sub wV)).symm
def au(bs:List Bk):List an:=lQ (dt bs bs.length)
variable{M:List an}
theorem Ov(a:Asc M)(b:Akin (dt bs bs.length) M):M=au bs:=Eu b a
def lu(bs:List Bk)(b:Nat):Nat:=(bs[b]?).map (λr=>r.2.2.length)|>.getD 0
def oR(b k:Nat):List (Nat×Nat):=(List.range k).map (λj=>(b,j))
def ox(bs:List Bk)(n:Nat):List (Nat×Nat):=(List.range n).flatMap (λb=>oR b (lu bs b))
def nX(bs:List Bk)(q:Nat×Nat):Option an:=(dP bs q.1 q.2).map (λp=>⟨q.1,q.2,p⟩)
theorem Lf(b k:Nat):oR b (k+1)=oR b k++[(b,k)]:=by simp[oR,List.range_succ]
theorem Gn(bs:List Bk)(n:Nat):ox bs (n+1)=ox bs n++oR n (lu bs n):=by simp[ox,List.range_succ,List.flatMap_append]
theorem Pd(bs:List Bk)(b k:Nat):gj bs b k=(oR b k).filterMap (nX bs):=by
 induction k with
 |zero=>rfl
 |succ k a=>
  rw[Lf,nY,gj,a];congr 1;cases h:dP bs (b:Int) (k:Int)with
  |none=>simp[nX,h]
  |some p=>simp[nX,h]
theorem rh(bs:List Bk)(n:Nat):dt bs n=(ox bs n).filterMap (nX bs):=by
 induction n with
 |zero=>rfl
 |succ n a=>
  rw[Gn,nY,dt,a,Pd];rfl
theorem xi{q:Nat×Nat}:q∈oR b k↔q.1=b/\q.2<k:=by
 simp only[oR,bZ,jX];constructor
 ·rintro⟨j,a,rfl⟩;exact⟨rfl,a⟩
 ·rintro⟨rfl,h⟩;exact⟨q.2,h,rfl⟩
theorem zS{q:Nat×Nat}:q∈ox bs n↔q.1<n/\q.2<lu bs q.1:=by
 simp only[ox,mi,jX];constructor
 ·rintro⟨b,c,d⟩;obtain⟨rfl,h⟩:=xi.1 d;exact⟨c,h⟩
 ·rintro⟨h1,a⟩;exact⟨q.1,h1,xi.2 ⟨rfl,a⟩⟩
theorem QV(b k:Nat):(oR b k).Nodup:=by
 induction k with
 |zero=>exact List.nodup_nil
 |succ k c=>
  rw[Lf,Bq];refine⟨c,by simp,?_⟩
  intro x a y hy;rw[bU]at hy;subst hy;have:=(xi.1 a).2;intro e;rw[e]at this;simp at this
theorem Ih(bs:List Bk)(n:Nat):(ox bs n).Nodup:=by
 induction n with
 |zero=>exact List.nodup_nil
 |succ n b=>
  rw[Gn,Bq];refine⟨b,QV _ _,?_⟩;intro x a y hy e;have h1:=(zS.1 a).1;have c:=(xi.1 hy).1;rw[e]at h1;omega
theorem oL{β:Type}{f g:α->Option β}:∀{l:List α},(∀x∈l,f x=g x)->l.filterMap f=l.filterMap g
 | [],_=>rfl
 |a::l,h=>by rw[qD,qD,h a (by simp),oL (λx b=>h x (by simp[b]))]
theorem aad{L:List α}(i:L.Nodup){f g:α->Option an}{q:α}(o:q∈L)(h0:f q=O)(h1:g q=X x)(hs:∀p∈L,p≠q->g p=f p)(j:∀y∈L.filterMap f,y.key<x.key):
 lQ (L.filterMap g)=lQ (L.filterMap f)++[x]:=by
 obtain⟨A,B,rfl⟩:=List.append_of_mem o;rw[Bq,List.nodup_cons]at i;have m:A.filterMap g=A.filterMap f:=oL (λp c=>hs p (by simp[c]) (λe=>i.2.2 p c q (by simp) e))
 have n:B.filterMap g=B.filterMap f:=oL (λp c=>hs p (by simp[c]) (λe=>i.2.1.1 (e▸c)))
 have l:(A++q::B).filterMap g=A.filterMap f++([x]++B.filterMap f):=by
  rw[nY,qD,h1,m,n];rfl
 have k:(A++q::B).filterMap f=A.filterMap f++B.filterMap f:=by
  rw[nY,qD,h0]
 rw[k]at j;rw[l,k]
 symm
 apply Eu
 ·refine Akin.trans ?_ ((xu _).app (Akin.refl [x]));rw[fW];refine(Akin.refl _).app (Akin.flip ?_);intro a d b h;rw[bU]at d;subst d;have:=j b (wK _ h);omega
 ·refine(xJ _).app (mQ _ _) ?_;intro a d b h;rw[bU]at h;subst h;have:=j a ((Ae _ _).1 d);omega
variable{cs:List Bk}
theorem Kt(h:∀b,lu bs b=lu cs b)(n:Nat):ox bs n=ox cs n:=by
 unfold ox;congr 1;funext b;rw[h b]
theorem xZ{l:List α}(f:α->α)(h:i≠j):(l.modify i f)[j]?=l[j]?:=by
 rw[rp];simp[h]
theorem Ya{l:Nat}{r:Bk}(t:ByteArray)(c:bs[b]?=X r)(d:l<r.2.2.length)(i k:Nat):du (jZ bs b l t) (i:Int) (k:Int)=if i=b/\k=l then(t,iV)else du bs (i:Int) (k:Int):=by
 unfold du jZ;rw[bi];by_cases e:i=b
 ·subst e;rw[xA,c];simp only[Option.map_eq_map,fE,bi];by_cases a:k=l
  ·subst a;rw[mq d];simp
  ·rw[oZ (λh=>a h.symm)]
   simp[a]
 ·rw[xZ _ (λh=>e h.symm),ai (λh=>e h.1)]
theorem Kx{l:Nat}{r:Bk}(t:ByteArray)(a:bs[b]?=X r)(c:l<r.2.2.length)(i k:Nat):dP (jZ bs b l t) i k=if i=b/\k=l then dE t else dP bs i k:=by
 unfold dP;rw[Ya t a c];by_cases h:i=b/\k=l
 ·rw[ak h,ak h];rfl
 ·rw[ai h,ai h]
theorem abR(bs:List Bk)(b l:Nat)(t:ByteArray)(i:Nat):lu (jZ bs b l t) i=lu bs i:=by
 unfold lu jZ;by_cases e:b=i
 ·subst e;rw[xA];cases h:bs[b]?<;>simp
 ·rw[xZ _ e]
variable{p:Pg}
theorem Zl{l:Nat}{r:Bk}(c:bs[b]?=X r)(d:l<r.2.2.length)(f:dP bs b l=O)(g:dE t=X p)(e:∀y∈au bs,y.key<p.seq):
 au (jZ bs b l t)=au bs++[⟨b,l,p⟩]:=by
 have a:(jZ bs b l t).length=bs.length:=by simp[jZ]
 unfold au at e⊢;rw[a,rh,rh,Kt (abR bs b l t)];refine aad (Ih bs bs.length) (q:=(b,l)) (zS.2 ⟨(aC.1 c).1,?_⟩) ?_ ?_ ?_ ?_
 ·show l<lu bs b;rw[lu,c];exact d
 ·simp[nX,f]
 ·simp only[nX];rw[Kx t c d,ak ⟨rfl,rfl⟩,g];rfl
 ·intro q _ i;simp only[nX];rw[Kx t c d,ai (λh=>i (qE h.1 h.2))]
 ·intro y hy;rw[<-rh]at hy;exact e y ((Ae _ _).2 hy)
theorem Pu(c:∀i,lu cs i=lu bs i)(a:cs.length=bs.length)(h0:∀k:Nat,dP cs b k=O)(h1:∀i k,i≠b->dP cs (i:Nat) (k:Nat)=dP bs i k):
 au cs=(au bs).filter (λx=> !decide (x.block=(b:Int))):=by
 unfold au;rw[<-NZ,a,rh,rh,Kt c];congr 1;rw[Km];apply oL;intro q _;simp only[nX];by_cases e:q.1=b
 ·rw[e,h0];cases dP bs (b:Int) (q.2:Int)with
  |none=>rfl
  |some p=>simp[Option.filter]
 ·rw[h1 _ _ e];cases dP bs (q.1:Int) (q.2:Int)with
  |none=>rfl
  |some p=>
   have:¬((q.1:Int)=(b:Int)):=by omega
   simp[Option.filter,this]
theorem MS(bs:List Bk)(b:Nat)(x:Bool)(n:Int)(h:bs[b]?=X (x,n,eZ))(k:Nat):dP bs b k=O:=by
 unfold dP;have:(du bs (b:Int) (k:Int)).2=iF:=by
  unfold du;rw[bi,h];simp only[bi];cases e:eZ[k]? with
  |none=>rfl
  |some t=>
   have a:=aL e;have:t.1=0:=by
    simp only[eZ,be,eI,eX]at a;rcases a with rfl|rfl|rfl|rfl<;>rfl
   simp[this]
 rw[this];rfl
theorem Ph{r:Bk}(a:bs[b]?=X r)(c:r.2.2.length=4):
 au (bs.modify b (λr=>(iF,r.2.1+1,eZ)))=(au bs).filter (λx=> !decide (x.block=(b:Int))):=by
 refine Pu ?_ (by simp) ?_ ?_
 ·intro i;unfold lu;by_cases e:b=i
  ·subst e;rw[xA,a];simp[c,eZ]
  ·rw[xZ _ e]
 ·intro k;refine MS _ b iF (r.2.1+1) ?_ k;rw[xA,a];rfl
 ·intro i k hi;unfold dP;have:du (bs.modify b (λr=>(iF,r.2.1+1,eZ))) (i:Int) (k:Int)=du bs (i:Int) (k:Int):=by
   unfold du;rw[bi,xZ _ (λh=>hi h.symm)]
  rw[this]
theorem II(h:x∈au bs):∃b l:Nat,x.block=b/\x.leaf=l/\b<bs.length/\l<lu bs b/\dP bs b l=X x.fP:=by
 unfold au at h;rw[Ae,rh,tU]at h;obtain⟨q,d,e⟩:=h;have c:=zS.1 d;simp only[nX]at e;cases a:dP bs (q.1:Int) (q.2:Int)with
 |none=>rw[a]at e;cases e
 |some p=>
  rw[a]at e;simp only[fE,fq]at e;subst e;exact⟨q.1,q.2,rfl,rfl,c.1,c.2,a⟩
end Go.Proofs.YtgigcooffjjbgaaGreatDoor
namespace Go.Proofs.YtgigcooffjjbgaaGreatDoor.Pack
def bT:Nat->List UInt8->List UInt8->Nat
 |0,_,_=>0
 |f+1,a::al,b::bs=>if a=b then bT f al bs+1 else 0
 |_+1,_,_=>0
theorem zu(f:Nat)(a b:List UInt8):bT f a b<=f/\bT f a b<=b.length:=by
 induction f generalizing a b with
 |zero=>simp[bT]
 |succ f d=>
  cases a with
  |nil=>simp[bT]
  |cons x c=>
   cases b with
   |nil=>simp[bT]
   |cons y bs=>
    unfold bT;split
    ·have:=d c bs;simp only[aW];omega
    ·simp
theorem OJ(f:Nat)(a b:List UInt8)(i:Nat)(h:i<bT f a b):a[i]?=b[i]?/\i<b.length:=by
 induction f generalizing a b i with
 |zero=>simp[bT]at h
 |succ f d=>
  cases a with
  |nil=>simp[bT]at h
  |cons x c=>
   cases b with
   |nil=>simp[bT]at h
   |cons y bs=>
    unfold bT at h;split at h
    ·rename_i e
     subst e;cases i with
     |zero=>simp
     |succ i=>
      have:=d c bs i (by omega)
      simp only[oE,aW];exact⟨this.1,by omega⟩
    ·omega
def bG(s:List UInt8)(a:Nat):Nat->Nat×Nat
 |0=>(0,0)
 |k+1=>if 4<=bT 31 (s.drop (a-(k+1))) (s.drop a)/\(bG s a k).1<bT 31 (s.drop (a-(k+1))) (s.drop a)then(bT 31 (s.drop (a-(k+1))) (s.drop a),k+1)else bG s a k
theorem Js(s:List UInt8)(a k:Nat):bG s a k=(0,0)∨(4<=(bG s a k).1/\(bG s a k).1<=31/\0<(bG s a k).2/\(bG s a k).2<=k/\(bG s a k).1=bT 31 (s.drop (a-(bG s a k).2)) (s.drop a)):=by
 induction k with
 |zero=>left;rfl
 |succ k b=>
  unfold bG;split
  ·rename_i h
   right;have:=(zu 31 (s.drop (a-(k+1))) (s.drop a)).1;exact⟨h.1,this,Nat.succ_pos k,am _,rfl⟩
  ·rcases b with h|h
   ·left;exact h
   ·right;exact⟨h.1,h.2.1,h.2.2.1,by omega,h.2.2.2.2⟩
def stepT(s:List UInt8)(a:Nat×List (Nat×Nat×List UInt8)):Nat×List (Nat×Nat×List UInt8):=
 if 0<(bG s a.1 a.1).1 then(a.1+(bG s a.1 a.1).1,a.2++[((bG s a.1 a.1).2,(bG s a.1 a.1).1,[])])
 else match a.2.getLast? with
  |some (0,z,t)=>if t.length<31 then(a.1+1,a.2.dropLast++[(0,z,t++[s.getD a.1 0])])else(a.1+1,a.2++[(0,0,[s.getD a.1 0])])
  |_=>(a.1+1,a.2++[(0,0,[s.getD a.1 0])])
def dR:Nat->List UInt8->Nat×List (Nat×Nat×List UInt8)
 |0,_=>(0,[])
 |n+1,s=>if (dR n s).1<s.length then stepT s (dR n s)else dR n s
def iq(s:List UInt8):List (Nat×Nat×List UInt8):=(dR s.length s).2
def lF:Nat->Nat->List UInt8->List UInt8
 |0,_,out=>out
 |n+1,back,out=>lF n back (out++[out.getD (out.length-back) 0])
def j8(a:Nat)(t:Nat×Nat×List UInt8):Prop:=if t.1=0 then(1<=t.2.2.length/\t.2.2.length<=31/\t.2.1=0)else(t.1<=a/\1<=t.2.1/\t.2.1<=31/\t.2.2=[])
abbrev Sh(a:Nat)(t:Nat×Nat×List UInt8):Decidable (j8 a t):=by unfold j8;exact inferInstance
def lx(a:List UInt8)(t:Nat×Nat×List UInt8):List UInt8:=if t.1=0 then a++t.2.2 else lF t.2.1 t.1 a
def lX(a:List UInt8):List (Nat×Nat×List UInt8)->Option (List UInt8)
 | []=>X a
 |t::r=>letI:=Sh a.length t;if j8 a.length t then(if (lx a t).length<=64 then lX (lx a t) r else O)else O
def plain(l:List (Nat×Nat×List UInt8)):Option (List UInt8):=lX [] l
theorem I5(c:List UInt8)(a b:List (Nat×Nat×List UInt8)):lX c (a++b)=(lX c a).bind λo=>lX o b:=by
 induction a generalizing c with
 |nil=>rfl
 |cons t a d=>
  simp only[ii,lX];split
  ·split
   ·exact d _
   ·rfl
  ·rfl
theorem EG(a:List (Nat×Nat×List UInt8))(t:Nat×Nat×List UInt8)(o:List UInt8)(h:plain a=X o)(h1:j8 o.length t)(b:(lx o t).length<=64):plain (a++[t])=X (lx o t):=by
 unfold plain at*;rw[I5,h];simp only[jd,lX];rw[ak h1,ak b]
theorem Rg(s:List UInt8)(a b n:Nat)(g:0<b)(j:b<=a)(h:∀i,i<n->s[a-b+i]?=s[a+i]?/\a+i<s.length):lF n b (s.take a)=s.take (a+n):=by
 induction n generalizing a with
 |zero=>rfl
 |succ n f=>
  have h0:=h 0 (by omega)
  have d:a<s.length:=by have:=h0.2;omega
  have c:(s.take a).length=a:=by rw[cD];omega
  have e:s.take a++[(s.take a).getD ((s.take a).length-b) 0]=s.take (a+1):=by
   rw[ft d,c];congr 2;rw[pL,xj (by omega)]
   have:=h0.1;simp only[qT]at this;rw[this,ay d];rfl
  unfold lF;rw[e,f (a+1) (by omega) (λi hi=>by
   have:=h (i+1) (by omega)
   rw[show a+1-b+i=a-b+(i+1)by omega,show a+1+i=a+(i+1)by omega]
   exact this),show a+1+n=a+(n+1)by omega]
def ve(s:List UInt8)(a:Nat×List (Nat×Nat×List UInt8)):Prop:=a.1<=s.length/\plain a.2=X (s.take a.1)/\∀t∈a.2,t.1=0∨4<=t.2.1
theorem Uc(a:List (Nat×Nat×List UInt8))(t:Nat×Nat×List UInt8)(o:List UInt8)(h:plain (a++[t])=X o):∃b,plain a=X b/\j8 b.length t/\lx b t=o:=by
 unfold plain at*;rw[I5]at h;cases c:lX [] a with
 |none=>rw[c]at h;cases h
 |some b=>
  rw[c]at h;simp only[jd,lX]at h;split at h
  ·split at h
   ·rename_i h1 h2
    cases h;exact⟨b,rfl,h1,rfl⟩
   ·cases h
  ·cases h
theorem GZ(s:List UInt8)(k:Nat)(h:k<s.length):s.take k++[s.getD k 0]=s.take (k+1):=by
 rw[ft h,pL,ay h];rfl
theorem Mm(s:List UInt8)(k:Nat)(a:List (Nat×Nat×List UInt8))(hs:s.length<=64)(c:k<s.length)(h:ve s (k,a)):ve s (k+1,a++[(0,0,[s.getD k 0])]):=by
 refine⟨c,?_,?_⟩
 ·have d:=EG a (0,0,[s.getD k 0]) _ h.2.1 (by simp[j8]) (by simp[lx];omega)
  rw[d];simp only[lx,dF];exact congrArg X (GZ s k c)
 ·intro t e;rcases bJ.1 e with b|b
  ·exact h.2.2 t b
  ·simp at b;subst b;left;rfl
theorem Py(s:List UInt8)(g:Nat×List (Nat×Nat×List UInt8))(hs:s.length<=64)(m:g.1<s.length)(h:ve s g):ve s (stepT s g)/\g.1<(stepT s g).1:=by
 obtain⟨k,e⟩:=g;unfold stepT;simp only;split
 ·rename_i hb
  rcases Js s k k with h0|⟨h4,q,r,j,D⟩
  ·rw[h0]at hb;simp at hb
  ·have b:∀i,i<(bG s k k).1->s[k-(bG s k k).2+i]?=s[k+i]?/\k+i<s.length:=by
    intro i hi;rw[D]at hi;obtain⟨x,A⟩:=OJ _ _ _ i hi;rw[ly,ly]at x;rw[iz]at A;exact⟨x,by omega⟩
   have u:k+(bG s k k).1<=s.length:=by
    have:=(b ((bG s k k).1-1) (by omega)).2
    omega
   have o:=Rg s k (bG s k k).2 (bG s k k).1 r j b;refine⟨⟨u,?_,?_⟩,by omega⟩
   ·have C:(s.take k).length=k:=by simp at m⊢;omega
    have v:j8 (s.take k).length ((bG s k k).2,(bG s k k).1,[]):=by
     unfold j8;rw[ai (by simp only;omega),C]
     exact⟨j,by simp only;omega,q,rfl⟩
    have c:lx (s.take k) ((bG s k k).2,(bG s k k).1,[])=s.take (k+(bG s k k).1):=by
     unfold lx;rw[ai (by simp only;omega)]
     exact o
    have:=EG e _ _ h.2.1 v (by rw[c,cD];omega)
    rw[this,c]
   ·intro t o;rcases bJ.1 o with d|d
    ·exact h.2.2 t d
    ·simp at d;subst d;right;exact h4
 ·split
  ·rename_i z t hlast
   split
   ·rename_i o
    obtain⟨a,l⟩:∃a,e=a++[(0,z,t)]:=by
     obtain⟨a,hi⟩:=BL.1 hlast;exact⟨a,hi⟩
    subst l;obtain⟨y,h1,B,p⟩:=Uc a _ _ h.2.1;simp only[List.dropLast_concat];have f:=B;unfold j8 at f;rw[ak rfl]at f;have n:lx y (0,z,t++[s.getD k 0])=s.take (k+1):=by
     unfold lx at p⊢;rw[ak rfl]at p⊢;rw[<-GZ s k m,<-p,fW]
    refine⟨⟨m,?_,?_⟩,zZ k⟩
    ·have:=EG a (0,z,t++[s.getD k 0]) y h1 (by
      unfold j8;rw[ak rfl];simp only[aI,IX];exact⟨by omega,by omega,f.2.2⟩) (by rw[n,cD];omega)
     rw[this,n]
    ·intro t' w;rcases bJ.1 w with d|d
     ·exact h.2.2 t' (sy _ d)
     ·simp at d;subst d;left;rfl
   ·exact⟨Mm s k e hs m h,zZ k⟩
  ·exact⟨Mm s k e hs m h,zZ k⟩
theorem DI(s:List UInt8)(hs:s.length<=64)(n:Nat):ve s (dR n s)/\min n s.length<=(dR n s).1:=by
 induction n with
 |zero=>exact⟨⟨aJ _,rfl,λt b=>by cases b⟩,by simp⟩
 |succ n a=>
  unfold dR;split
  ·rename_i h
   have:=Py s _ hs h a.1;exact⟨this.1,by omega⟩
  ·exact⟨a.1,by omega⟩
theorem zo(s:List UInt8)(hs:s.length<=64):plain (iq s)=X s/\∀t∈iq s,t.1=0∨4<=t.2.1:=by
 obtain⟨⟨h1,a,b⟩,h4⟩:=DI s hs s.length;refine⟨?_,b⟩;unfold iq;rw[a,ci (by omega)]
end Go.Proofs.YtgigcooffjjbgaaGreatDoor.Pack
namespace Go.Proofs.YtgigcooffjjbgaaGreatDoor.Pack
def bL(t:Nat×Nat×List UInt8):List UInt8:=if t.1=0 then UInt8.ofNat t.2.2.length::t.2.2 else[UInt8.ofNat (128+t.2.1),UInt8.ofNat t.1]
def sl(s:List UInt8):List UInt8:=122::(iq s).flatMap bL
def cR(s:List UInt8):Option (List UInt8):=if 64<s.length then O else X (if s.length+1<=(sl s).length then 114::s else sl s)
def ot:Nat->List UInt8->Option (List (Nat×Nat×List UInt8))
 |_,[]=>X []
 |0,_::_=>O
 |f+1,n::r=>
  if 128<n.toNat then(match r with
   |b::r'=>(ot f r').map λl=>(b.toNat,n.toNat-128,[])::l
   | []=>O)
  else if n.toNat<=r.length then(ot f (r.drop n.toNat)).map λl=>(0,0,r.take n.toNat)::l else O
def dc(t:List UInt8):Option (List UInt8):=
 match t with
 | []=>O
 |c::r=>(if c=122 then(ot r.length r).bind plain else X r).bind λs=>if cR s=X t then X s else O
theorem aa4(s t:List UInt8)(h:cR s=X t):t.length<=s.length+1:=by
 unfold cR at h;split at h
 ·cases h
 ·cases h;split
  ·simp
  ·omega
def Fit(t:Nat×Nat×List UInt8):Prop:=(t.1=0/\1<=t.2.2.length/\t.2.2.length<=31/\t.2.1=0)∨(0<t.1/\t.1<=64/\1<=t.2.1/\t.2.1<=31/\t.2.2=[])
theorem wI(b o:List UInt8)(l:List (Nat×Nat×List UInt8))(f:b.length<=64)(h:lX b l=X o):∀t∈l,Fit t:=by
 induction l generalizing b with
 |nil=>intro t c;cases c
 |cons a l d=>
  unfold lX at h;split at h
  ·rename_i hok
   split at h
   ·rename_i hlen
    intro t c;rcases be.1 c with e|e
    ·subst e;unfold j8 at hok;split at hok
     ·rename_i h0
      exact .inl ⟨h0,hok⟩
     ·rename_i h0
      exact .inr ⟨by omega,by omega,hok.2⟩
    ·exact d _ hlen h t e
   ·cases h
  ·cases h
theorem ou(n:Nat)(h:n<256):(UInt8.ofNat n).toNat=n:=by rw[qp];omega
theorem V6(t:Nat×Nat×List UInt8):1<=(bL t).length:=by
 unfold bL;split<;>simp
theorem Vr(l:List (Nat×Nat×List UInt8))(h:∀t∈l,Fit t)(f:Nat)(a:(l.flatMap bL).length<=f):ot f (l.flatMap bL)=X l:=by
 induction l generalizing f with
 |nil=>
  simp only[List.flatMap_nil];cases f<;>rfl
 |cons t l p=>
  have j:=h t (by simp)
  have o:=p (λt j=>h t (by simp[j]))
  rw[nT]at a⊢;rw[aI]at a;have h1:=V6 t;obtain⟨g,rfl⟩:∃g,f=g+1:=⟨f-1,by omega⟩
  obtain⟨b,n,x⟩:=t;rcases j with⟨c,e,i,d⟩|⟨c,e,i,d,m⟩
  ·simp only at c e i d;subst c d;have k:bL (0,0,x)=UInt8.ofNat x.length::x:=rfl;rw[k]at a⊢;rw[ii];unfold ot;rw[ou x.length (by omega),ai (by omega),ak (by simp)]
   rw[Af,List.take_left,o g (by simp only[aW]at a;omega)]
   rfl
  ·simp only at c e i d m;subst m;have k:bL (b,n,[])=[UInt8.ofNat (128+n),UInt8.ofNat b]:=by
    unfold bL;rw[ai (by simp only;omega)]
   rw[k]at a⊢;rw[ii];unfold ot;rw[ou (128+n) (by omega),ak (by omega)]
   simp only[ii,jT];rw[o g (by simp only[aW,dW]at a;omega),ou b (by omega)]
   simp
theorem IL(s t:List UInt8)(h:cR s=X t):dc t=X s:=by
 have hs:s.length<=64:=by
  unfold cR at h;split at h
  ·cases h
  ·omega
 obtain⟨b,-⟩:=zo s hs;have a:=h;unfold cR at a;rw[ai (by omega)]at a
 split at a
 ·cases a;unfold dc;simp only;rw[ai (by decide)]
  simp only[jd];rw[ak h]
 ·cases a;show(if (122:UInt8)=122 then(ot ((iq s).flatMap bL).length ((iq s).flatMap bL)).bind plain else X _).bind _=_
  rw[ak rfl,Vr _ (wI [] s _ (by simp) b) _ (am _)]
  simp only[jd,b];rw[ak h]
theorem So(s t:List UInt8)(h:dc t=X s):cR s=X t:=by
 unfold dc at h;split at h
 ·cases h
 ·rename_i c r
  cases a:(if c=122 then(ot r.length r).bind plain else X r)with
  |none=>rw[a]at h;cases h
  |some x=>
   rw[a]at h;simp only[jd]at h;split at h
   ·rename_i e
    cases h;exact e
   ·cases h
theorem Vq(n b:Nat)(a:List UInt8):(lF n b a).length=a.length+n:=by
 induction n generalizing a with
 |zero=>rfl
 |succ n c=>unfold lF;rw[c];simp;omega
end Go.Proofs.YtgigcooffjjbgaaGreatDoor.Pack
namespace Go.Proofs.YtgigcooffjjbgaaGreatDoor
open Words Sums Pack
def di(c:Int)(x:an):Bool:=x.fP.kind==1&&x.fP.tx==c
def bH(M:List an)(c:Int):Option an:=(M.filter (di c)).getLast?
def bn(M:List an)(c:Int):Option (List UInt8):=(bH M c).bind λx=>dc x.fP.text.data.toList
def fs(M:List an)(live:List Int)(t:List UInt8):Int:=(live.find? λc=>decide (bn M c=X t)).getD 0
theorem yD(l:List an)(x:an)(c:Int):bH (l++[x]) c=if di c x then X x else bH l c:=by
 unfold bH;rw[jF];by_cases h:di c x=iV
 ·rw[nZ h,Dy,List.getLast?_concat,ak h]
 ·rw[rF h,Dy,dS,ai h]
theorem qO(l m:List an)(c:Int):bH (l++m) c=(bH m c).or (bH l c):=by
 unfold bH;rw[jF,List.getLast?_append]
variable{t:ByteArray}{c:Int}{ls:List (Int × ByteArray)}{row:List Bool}{live:List Int}{k i m j:Nat}
variable{x:an}
theorem qe{l:List an}(h:bH l c=X x):x∈l/\di c x=iV:=by
 unfold bH at h;have:=List.mem_of_getLast? h;rw[gQ]at this;exact this
theorem vB{l:List an}:bH l c=O↔∀x∈l,di c x=iF:=by
 unfold bH;rw[List.getLast?_eq_none_iff,mI];simp
variable{M:List an}
theorem Fc(h:M[k]?=X x)(c:Int):bH (M.take (k+1)) c=if di c x then X x else bH (M.take k) c:=by
 rw[fm,h];exact yD _ _ _
theorem Cz(x:an)(l:List an)(c:Int):bH (x::l) c=(bH l c).or (if di c x then X x else O):=by
 rw[show x::l=[x]++l from rfl,qO];congr 1;exact(yD [] x c).trans (by split<;>rfl)
def pJ(M:List an)(live:List Int)(base:Int)(i:Nat)(x:an):Bool:=
 (x.fP.kind==2&&decide (base<=x.fP.tx))||(x.fP.kind==1&&live.contains x.fP.tx&&(bH (M.drop (i+1)) x.fP.tx).isNone)
def cN(M:List an)(live:List Int)(base:Int):List Bool:=M.mapIdx (pJ M live base)
def eK(M:List an)(row:List Bool)(b:Int):Nat:=((M.zip row).filter λp=>p.2&&p.1.block==b).length
def nU(M:List an)(live:List Int)(base b:Int):Nat:=eK M (cN M live base) b
theorem qU(M:List an)(live:List Int)(base:Int):(cN M live base).length=M.length:=by simp[cN]
theorem qL(live:List Int)(base:Int)(h:M[i]?=X x):(cN M live base)[i]?=X (pJ M live base i x):=by simp[cN,h]
theorem VX(M:List an)(base:Int):cN M [] base=M.map λx=>x.fP.kind==2&&decide (base<=x.fP.tx):=by
 apply lH;intro i;cases h:M[i]? with
 |none=>simp[cN,h]
 |some x=>rw[qL _ _ h,bh,h];simp[pJ]
theorem PG(L:List Int)(base:Int)(h:bH M c=O):cN M (L++[c]) base=cN M L base:=by
 apply lH;intro i;cases hi:M[i]? with
 |none=>simp[cN,hi]
 |some x=>
  rw[qL _ _ hi,qL _ _ hi];congr 1;have:=vB.1 h x (aL hi);unfold di at this;unfold pJ;congr 1;by_cases a:x.fP.kind=1
  ·have d:¬x.fP.tx=c:=by simpa[a]using this
   simp[a,d]
  ·have b:(x.fP.kind==1)=iF:=by simpa using a
   simp[b]
theorem WV(L:List Int)(base:Int)(hi:M[i]?=X x)(l:di c x=iV)(k:bH (M.drop (i+1)) c=O):cN M (L++[c]) base=(cN M L base).set i iV:=by
 have a:=l;unfold di at a;simp only[bu,ix]at a;apply lH;intro j;rw[th];by_cases e:i=j
 ·subst e;rw[ak rfl,qU,ak (aC.1 hi).1,qL _ _ hi];congr 1;unfold pJ;simp[a.1,a.2,k]
 ·rw[ai e];cases b:M[j]? with
  |none=>simp[cN,b]
  |some y=>
   rw[qL _ _ b,qL _ _ b];congr 1;unfold pJ;congr 1;by_cases h:y.fP.kind=1
   ·by_cases f:y.fP.tx=c
    ·have g:di c y=iV:=by unfold di;simp[h,f]
     have m:j<i:=by
      rcases Nat.lt_or_ge j i with q|q
      ·exact q
      ·exfalso
       have:=vB.1 k y (aL (i:=j-(i+1)) (by rw[ly,show i+1+(j-(i+1))=j by omega];exact b))
       rw[g]at this;cases this
     have hs:(bH (M.drop (j+1)) y.fP.tx).isNone=iF:=by
      rw[f];cases n:bH (M.drop (j+1)) c with
      |some _=>rfl
      |none=>
       exfalso
       have:=vB.1 n x (aL (i:=i-(j+1)) (by rw[ly,show j+1+(i-(j+1))=i by omega];exact hi))
       rw[l]at this;cases this
     simp[hs]
    ·simp[f]
   ·have d:(y.fP.kind==1)=iF:=by simpa using h
    simp[d]
def vu(x y:an):Bool:=x.block==y.block&&x.leaf==y.leaf&&x.fP.kind==y.fP.kind&&x.fP.seq==y.fP.seq&&x.fP.tx==y.fP.tx&&x.fP.part==y.fP.part&&x.fP.count==y.fP.count&&decide (x.fP.text.data.toList=y.fP.text.data.toList)
theorem IV(x:an):vu x x=iV:=by simp[vu]
def rP(M:List an)(live:List Int)(base:Int)(x:an):Bool:=
 if x.fP.kind=2 then decide (base<=x.fP.tx)else(match bH M x.fP.tx with|some y=>vu y x|none=>iF)&&live.contains x.fP.tx
def uM(M:List an):Prop:=M.Pairwise λx y=>¬(x.block=y.block/\x.leaf=y.leaf)
theorem VT(live:List Int)(base:Int)(e:uM M)(a:x.fP.kind=1∨x.fP.kind=2)(hi:M[i]?=X x):pJ M live base i x=rP M live base x:=by
 unfold pJ rP;rcases a with a|a
 ·rw[ai (by omega)]
  simp only[a,show((1:Int)==2)=iF from rfl,lZ,xp,Dr,gU];rw[uD];congr 1;have h:di x.fP.tx x=iV:=by unfold di;simp[a]
  have c:M=M.take (i+1)++M.drop (i+1):=(jk _ _).symm;have b:=qO (M.take (i+1)) (M.drop (i+1)) x.fP.tx;rw[<-c,Fc hi,ak h]at b;cases g:bH (M.drop (i+1)) x.fP.tx with
  |none=>
   rw[g]at b;rw[b];simp[IV]
  |some y=>
   rw[g]at b;rw[b];simp only[Option.or,Option.isNone_some];have j:=(qe g).1;have f:¬(x.block=y.block/\x.leaf=y.leaf):=by
    unfold uM at e;rw[c,iE]at e;refine e.2.2 x ?_ y j;rw[fm,hi];simp
   cases d:vu y x with
   |false=>rfl
   |true=>
    unfold vu at d;simp only[bu,ix]at d;exact absurd ⟨d.1.1.1.1.1.1.1.symm,d.1.1.1.1.1.1.2.symm⟩ f
 ·rw[ak a];simp[a]
theorem Ir(f:an->Bool)(b:Int):∀M:List an,eK M (M.map f) b=(M.filter λx=>x.block==b&&f x).length
 | []=>rfl
 |x::M=>by
  have a:=Ir f b M;unfold eK at a⊢;rw[cB,List.zip_cons_cons,kC,kC];simp only;rw[uD];split<;>simp[a]
theorem MG(live:List Int)(base b:Int)(a:uM M)(c:∀x∈M,x.fP.kind=1∨x.fP.kind=2):nU M live base b=(M.filter λx=>x.block==b&&rP M live base x).length:=by
 unfold nU;have:cN M live base=M.map (rP M live base):=by
  apply lH;intro i;cases h:M[i]? with
  |none=>simp[cN,h]
  |some x=>rw[qL _ _ h,bh,h,VT live base a (c x (aL h)) h];rfl
 rw[this,Ir]
theorem Sw(x:an)(l:List an):(mH x l).Perm (x::l):=by
 induction l with
 |nil=>exact DQ _
 |cons y l a=>
  unfold mH;split
  ·exact DQ _
  ·exact(List.Perm.cons y a).trans (List.Perm.swap x y l)
theorem Mg(l:List an):(lQ l).Perm l:=by
 induction l using Du with
 |h0=>exact DQ _
 |h1 l x ih=>
  rw[zY];exact(Sw x _).trans ((List.Perm.cons x ih).trans (List.perm_append_singleton x l).symm)
theorem OU(M:List an)(c:Int)(l:List Int)(t:List UInt8):fs M (c::l) t=if bn M c=X t then c else fs M l t:=by
 unfold fs;rw[List.find?_cons];by_cases h:bn M c=X t
 ·simp[h]
 ·simp[h]
theorem Ns(t:List UInt8)(h:live[k]?=X c):fs M (live.drop k) t=if bn M c=X t then c else fs M (live.drop (k+1)) t:=by
 obtain⟨a,e⟩:=aC.1 h;rw[jh a,OU,e]
theorem QM{r:Bool}(b:Int)(c:M[k]?=X x)(a:row[k]?=X r):eK (M.take (k+1)) (row.take (k+1)) b=eK (M.take k) (row.take k) b+if r&&x.block==b then 1 else 0:=by
 have h1:=(aC.1 c).1;have e:=(aC.1 a).1;unfold eK;rw[fm,fm,c,a];simp only[qR];rw[List.zip_append (by rw[cD,cD];omega),jF,aI]
 congr 1;cases r<;>cases d:(x.block==b)<;>simp[d]
theorem JD(bs:List Bk)(m:Nat)(h:∀b∈bs,b.2.2.length<=m):(au bs).length<=bs.length*m:=by
 have a:∀n,(dt bs n).length<=n*m:=by
  intro n
  induction n with
  |zero=>simp[dt]
  |succ n d=>
   rw[dt,aI,Nat.succ_mul];have h1:=Pf bs n ((bs[n]?).map (λr=>r.2.2.length)|>.getD 0)
   have c:((bs[n]?).map (λr=>r.2.2.length)|>.getD 0)<=m:=by
    cases e:bs[n]? with
    |none=>simp
    |some r=>simpa using h r (aL e)
   omega
 unfold au;rw[(Mg _).length_eq];exact a bs.length
theorem IJ(bs:List Bk):uM (au bs):=by
 unfold uM au;rw[(Mg _).pairwise_iff (λh d=>h ⟨d.1.symm,d.2.symm⟩)]
 rw[rh,List.pairwise_filterMap];refine(Ih bs bs.length).imp ?_;intro p q e x b y hy d;unfold nX at b hy;cases h1:dP bs p.1 p.2 with
 |none=>rw[h1]at b;cases b
 |some a=>
  cases f:dP bs q.1 q.2 with
  |none=>rw[f]at hy;cases hy
  |some c=>
   rw[h1]at b;rw[f]at hy;simp only[fE,fq]at b hy;subst b hy;simp only at d;exact e (qE (by omega) (by omega))
variable{bs:List Bk}
theorem sL(h:x∈au bs):x.fP.Right:=by
 obtain⟨b,l,-,-,-,-,a⟩:=II h;unfold dP at a;split at a
 ·exact(Rj a).1
 ·cases a
theorem IK(h:x∈au bs):x.fP.kind=1∨x.fP.kind=2:=by
 rcases(sL h).1 with q|q
 ·exact .inl q.1
 ·exact .inr q.1
def dj(ls:List (Int×ByteArray)):Nat:=ls.countP (λt=>t.1==0)
theorem Df(ls:List (Int×ByteArray)):dj ls<=ls.length:=List.countP_le_length
theorem Ao{t:Int×ByteArray}(b:ls[k]?=X t):dj (ls.take (k+1))=dj (ls.take k)+if t.1=0 then 1 else 0:=by
 obtain⟨h1,a⟩:=aC.1 b;rw[ft h1,a];unfold dj;rw[zq];by_cases h:t.1=0<;>simp[h]
def lY(b:Bk):Bool:= !b.1&&decide (dj b.2.2=b.2.2.length)
def go(b:Bk):Bool:= !b.1&&decide (0<dj b.2.2/\dj b.2.2<b.2.2.length)
def je(bs:List Bk):Nat->List Int
 |0=> []
 |k+1=>je bs k++(match bs[k]? with|some b=>if lY b=iV then[(k:Int)]else[]|none=> [])
def jA(bs:List Bk):List Int:=je bs bs.length
theorem Wz{b:Bk}(a:bs[k]?=X b)(h:lY b=iV):je bs (k+1)=je bs k++[(k:Int)]:=by simp[je,a,h]
theorem Vy{b:Bk}(a:bs[k]?=X b)(h:lY b=iF):je bs (k+1)=je bs k:=by simp[je,a,h]
theorem Wl(bs:List Bk)(k:Nat):(je bs k).length<=k:=by
 induction k with
 |zero=>exact am _
 |succ k a=>
  simp only[je,aI];split
  ·split<;>simp<;>omega
  ·simp;omega
theorem Cx{x:Int}(h:x∈je bs k):∃i:Nat,x=i/\i<k/\∃b,bs[i]?=X b/\lY b=iV:=by
 induction k with
 |zero=>cases h
 |succ k d=>
  simp only[je,bJ]at h;rcases h with h|h
  ·obtain⟨i,e,hi,r⟩:=d h;exact⟨i,e,by omega,r⟩
  ·cases a:bs[k]? with
   |none=>rw[a]at h;cases h
   |some b=>
    rw[a]at h;simp only at h;by_cases c:lY b=iV
    ·rw[ak c,bU]at h;exact⟨k,h,by omega,b,a,c⟩
    ·rw[ai c]at h;cases h
theorem Zt{b:Bk}(hi:i<k)(a:bs[i]?=X b)(c:lY b=iV):(i:Int)∈je bs k:=by
 induction k with
 |zero=>omega
 |succ k d=>
  simp only[je,bJ];by_cases e:i=k
  ·subst e;right;rw[a];simp[c]
  ·exact Or.inl (d (by omega))
theorem Pq(bs:List Bk)(k:Nat):(je bs k).Pairwise (·<·):=by
 induction k with
 |zero=>exact List.Pairwise.nil
 |succ k g=>
  simp only[je];refine iE.2 ⟨g,?_,λa f c d=>?_⟩
  ·split
   ·split
    ·exact mQ _ _
    ·exact List.Pairwise.nil
   ·exact List.Pairwise.nil
  ·obtain⟨i,rfl,hi,-⟩:=Cx f;cases e:bs[k]? with
   |none=>rw[e]at d;cases d
   |some b=>
    rw[e]at d;simp only at d;split at d
    ·rw[bU]at d;omega
    ·cases d
def hJ(bs:List Bk):Int:=if bs.findIdx go<bs.length then(bs.findIdx go:Int)else-1
theorem QE{b:Bk}(d:bs[k]?=X b)(h:go b=iV)(g:∀(j:Nat) (c:Bk),j<k->bs[j]?=X c->go c=iF):hJ bs=k:=by
 obtain⟨h1,a⟩:=aC.1 d;have e:bs.findIdx go=k:=by
  rw[List.findIdx_eq h1];refine⟨by rw[a];exact h,λj f=>?_⟩
  exact g j bs[j] f (ay (by omega))
 simp only[hJ,e,ak h1]
theorem Sx(d:∀(j:Nat) (c:Bk),bs[j]?=X c->go c=iF):hJ bs= -1:=by
 have e:bs.findIdx go=bs.length:=by
  rw[A6];intro c a;obtain⟨j,b,rfl⟩:=pw a;exact d j bs[j] (ay b)
 simp only[hJ,e];rw[ai (by omega)]
theorem Hi(bs:List Bk):(hJ bs= -1/\∀(j:Nat) (c:Bk),bs[j]?=X c->go c=iF)∨∃k b,hJ bs=(k:Nat)/\bs[k]?=X b/\go b=iV/\∀(j:Nat) (c:Bk),j<k->bs[j]?=X c->go c=iF:=by
 by_cases h:bs.findIdx go<bs.length
 ·right;refine⟨bs.findIdx go,bs[bs.findIdx go],by simp only[hJ,ak h],ay h,Cd,λj c d a=>?_⟩
  obtain⟨h1,rfl⟩:=aC.1 a;have:=Lp d
  simpa using this
 ·left;refine⟨by simp only[hJ,ai h],λj c a=>?_⟩
  have e:bs.findIdx go=bs.length:=by have:=List.findIdx_le_length (xs:=bs) (p:=go);omega
  rw[A6]at e;exact e c (aL a)
def iH(bs:List Bk):Nat->Nat
 |0=>0
 |k+1=>iH bs k+(match bs[k]? with|some b=>if b.1=iV then 0 else dj b.2.2|none=>0)
def cP(bs:List Bk):Nat:=iH bs bs.length
theorem xx{b:Bk}(a:bs[k]?=X b)(h:b.1=iF):iH bs (k+1)=iH bs k+dj b.2.2:=by simp[iH,a,h]
theorem Xt{b:Bk}(a:bs[k]?=X b)(h:b.1=iV):iH bs (k+1)=iH bs k:=by simp[iH,a,h]
theorem UF(a:∀b∈bs,b.2.2.length<=m)(k:Nat):iH bs k<=k*m:=by
 induction k with
 |zero=>exact aJ _
 |succ k e=>
  rw[Nat.succ_mul];simp only[iH];cases c:bs[k]? with
  |none=>simp only;omega
  |some b=>
   have h1:=a b (aL c);have d:=Df b.2.2;simp only;split<;>omega
abbrev Wb:=Int×Int
abbrev g9(a b:Wb):Prop:=a.2<b.2∨a.2=b.2/\a.1<b.1
theorem aaA{a b c:Wb}(h:¬g9 b a)(k:¬g9 c b):¬g9 c a:=by unfold g9 at*;omega
theorem WE{a b:Wb}(h:g9 a b):¬g9 b a:=by unfold g9 at*;omega
theorem Qn{a b c:Wb}(h:¬g9 c b)(k:g9 a b):¬g9 c a:=by unfold g9 at*;omega
theorem wR(a:Wb):¬g9 a a:=by unfold g9;omega
def lC(L:List Wb)(b:Wb):Prop:=b∈L/\∀x∈L,¬g9 x b
theorem lC.eq{L:List Wb}{a b:Wb}(h:lC L a)(k:lC L b):a=b:=by
 have h1:=h.2 b k.1;have c:=k.2 a h.1;unfold g9 at h1 c;exact qE (by omega) (by omega)
def tK:List Wb->Option Wb
 | []=>O
 |x::l=>match tK l with
  |none=>X x
  |some y=>if g9 y x then X y else X x
theorem LH{L:List Wb}(h:L≠ []):∃b,tK L=X b/\lC L b:=by
 induction L with
 |nil=>exact absurd rfl h
 |cons x l g=>
  by_cases e:l=[]
  ·subst e;exact⟨x,rfl,bU.2 rfl,λy hy=>by rw[bU]at hy;subst hy;exact wR _⟩
  ·obtain⟨y,h1,f,d⟩:=g e;by_cases a:g9 y x
   ·refine⟨y,by simp only[tK,h1,ak a],ur _ f,λz c=>?_⟩
    rcases be.1 c with rfl|c
    ·exact WE a
    ·exact d z c
   ·refine⟨x,by simp only[tK,h1,ai a],pO,λz c=>?_⟩
    rcases be.1 c with rfl|c
    ·exact wR _
    ·exact aaA a (d z c)
theorem lC.is{L:List Wb}{b:Wb}(h:lC L b):tK L=X b:=by
 obtain⟨c,h1,a⟩:=LH (L:=L) (λe=>by subst e;cases h.1)
 rw[h1,h.eq a]
def tR(bs:List Bk)(i:Int):Int:=match bs[i.toNat]? with|some b=>b.2.1|none=>0
def nB(bs:List Bk)(l:List Int):List Wb:=l.map (λi=>(i,tR bs i))
def Hu(bs:List Bk)(i:Int):List (Int×ByteArray):=match bs[i.toNat]? with|some b=>b.2.2|none=> []
def fZ(bs:List Bk):Int×Int×Bool:=
 if bp bs then
  if 0<=hJ bs then(hJ bs,(br (Hu bs (hJ bs)):Nat),iV)
  else match tK (nB bs (jA bs))with
   |some b=>(b.1,0,iV)
   |none=>(0,0,iF)
 else(0,0,iF)
theorem Yd(h:bp bs=iF):fZ bs=(0,0,iF):=by unfold fZ;rw[h];rfl
theorem Hf{b:Bk}(h:bp bs=iV)(c:hJ bs=k)(a:bs[k]?=X b):fZ bs=((k:Int),((br b.2.2:Nat):Int),iV):=by
 unfold fZ Hu;rw[h,c,ak rfl,ak (by omega),bi,a]
theorem Hs{r:Wb}(h:bp bs=iV)(a:hJ bs= -1)(b:lC (nB bs (jA bs)) r):fZ bs=(r.1,0,iV):=by
 unfold fZ;rw[h,a,ak rfl,ai (by omega),b.is]
theorem KG(h:bp bs=iV)(a:hJ bs= -1)(b:jA bs=[]):fZ bs=(0,0,iF):=by
 unfold fZ;rw[h,a,ak rfl,ai (by omega),b]
 rfl
theorem Zf(h:bp bs=iV):3<=bs.length/\bs.length<=10:=by
 simp only[bp,bu,bM]at h;exact h.1
theorem Gk(h:0<dj ls):br ls<ls.length/\∃t,ls[br ls]?=X t/\t.1=0:=by
 have h1:∃t∈ls,(t.1==0)=iV:=by
  unfold dj at h;exact List.countP_pos_iff.1 h
 have a:ls.findIdx (λt=>t.1==0)<ls.length:=List.findIdx_lt_length.2 h1
 have e:br ls=ls.findIdx (λt=>t.1==0):=by simp only[br];rw[ak a]
 have b:=Cd (w:=a);rw[e];exact⟨a,_,ay a,by simpa using b⟩
theorem Ni(h:dj ls=ls.length)(a:0<ls.length):br ls=0:=by
 unfold dj at h;rw[List.countP_eq_length]at h;have h0:ls[0]?=X ls[0]:=ay a;exact Cj h0 (by simpa using h _ (aL h0)) (λj u b=>by omega)
theorem RQ{t:Int×ByteArray}(a:ls[j]?=X t)(h0:t.1=0)(x:ByteArray):dj (ls.set j (1,x))+1=dj ls:=by
 obtain⟨b,e⟩:=aC.1 a;have c:0<dj ls:=by
  unfold dj;exact List.countP_pos_iff.2 ⟨t,aL a,by simp[h0]⟩
 unfold dj at*;rw[List.countP_set b,e];simp[h0];omega
variable{f:Bk -> Bk}
theorem S6{b:Bk}(g:bs[k]?=X b)(h1:(f b).1=iF)(i:b.1=iF)(j:dj (f b).2.2+1=dj b.2.2)(n:Nat):iH (bs.modify k f) n+(if k<n then 1 else 0)=iH bs n:=by
 induction n with
 |zero=>simp[iH]
 |succ n d=>
  by_cases e:k=n
  ·subst e;have a:(bs.modify k f)[k]?=X (f b):=by rw[rp,g];simp
   rw[xx a h1,xx g i,ak (by omega)]
   rw[ai (by omega)]at d
   omega
  ·have a:(bs.modify k f)[n]?=bs[n]?:=by
    rw[rp];cases bs[n]? with
    |none=>rfl
    |some c=>simp[e]
   simp only[iH,a];by_cases h:k<n
   ·rw[ak h]at d;rw[ak (by omega)]
    omega
   ·rw[ai h]at d;rw[ai (by omega)]
    omega
theorem abD(h:∀(i:Nat) (b:Bk),bs[i]?=X b->b.1=iV∨dj b.2.2=0)(n:Nat):iH bs n=0:=by
 induction n with
 |zero=>rfl
 |succ n c=>
  simp only[iH,c];cases a:bs[n]? with
  |none=>rfl
  |some b=>
   simp only;rcases h n b a with h|h
   ·simp[h]
   ·simp[h]
theorem Mv{b:Bk}(a:bs[k]?=X b)(h1:b.1=iF)(d:0<dj b.2.2)(n:Nat)(f:k<n):0<iH bs n:=by
 induction n with
 |zero=>omega
 |succ n c=>
  by_cases e:k=n
  ·subst e;rw[xx a h1];omega
  ·have:=c (by omega)
   simp only[iH];omega
theorem QP(j:bp bs=iV)(h4:∀b∈bs,b.2.2.length=4):
 (fZ bs=(0,0,iF)/\cP bs=0/\hJ bs= -1/\jA bs=[])∨
 ∃(k:Nat) (b:Bk),bs[k]?=X b/\b.1=iF/\br b.2.2<4/\(∃t,b.2.2[br b.2.2]?=X t/\t.1=0)/\fZ bs=((k:Int),((br b.2.2:Nat):Int),iV)/\0<cP bs/\(hJ bs=(k:Int)∨hJ bs= -1/\(k:Int)∈jA bs):=by
 rcases Hi bs with⟨h,q⟩|⟨k,b,h,c,u,-⟩
 ·by_cases l:jA bs=[]
  ·left;refine⟨KG j h l,abD (λi b c=>?_) _,h,l⟩
   have h1:=q i b c;have m:lY b=iF:=by
    cases B:lY b with
    |false=>rfl
    |true=>
     have:=Zt (k:=bs.length) (aC.1 c).1 c B;change (i:Int)∈jA bs at this;rw[l]at this;cases this
   unfold go at h1;unfold lY at m;have C:=Df b.2.2;cases o:b.1 with
   |true=>exact Or.inl rfl
   |false=>
    right;rw[o]at h1 m;simp at h1 m;omega
  ·right;obtain⟨r,-,v⟩:=LH (L:=nB bs (jA bs)) (λe=>l (by simpa[nB]using e))
   obtain⟨x,w,e⟩:=bZ.1 v.1;obtain⟨p,y,A,b,c,d⟩:=Cx w;subst y;have f:=h4 b (aL c);unfold lY at d;simp only[bu,nA,bM]at d;have g:0<dj b.2.2:=by rw[d.2,f];omega
   have s:=Ni d.2 (by omega)
   obtain⟨z,n⟩:=Gk g;refine⟨p,b,c,d.1,by omega,n,?_,Mv c d.1 g _ A,Or.inr ⟨h,w⟩⟩
   rw[Hs j h v,s,<-e];rfl
 ·right;have f:=h4 b (aL c);have a:=u;unfold go at a;simp only[bu,nA,bM]at a;obtain⟨z,n⟩:=Gk a.2.1;exact⟨k,b,c,a.1,by omega,n,Hf j h c,Mv c a.1 a.2.1 _ (aC.1 c).1,Or.inl h⟩
theorem abw{b:Bk}(c:bp bs=iV)(a:bs[k]?=X b)(h1:b.1=iF)(l:br b.2.2<4)(i:∃t,b.2.2[br b.2.2]?=X t/\t.1=0)(e:1<=t.size)(g:t.size<=120):
 gI bs (k:Int) ((br b.2.2:Nat):Int) t=(jZ bs k (br b.2.2) t,iV)/\cP (jZ bs k (br b.2.2) t)+1=cP bs:=by
 have h:jb bs (k:Int) ((br b.2.2:Nat):Int) t=iV:=by
  unfold jb;rw[bi,a];exact aS ⟨by omega,h1,by omega,rfl,e,g⟩
 refine⟨?_,?_⟩
 ·unfold gI;rw[c,h];rw[Bool.and_self,ak rfl,bi,bi]
 ·obtain⟨u,j,d⟩:=i;have:=S6 (f:=λr=>(r.1,r.2.1,r.2.2.set (br b.2.2) (1,t))) a h1 h1 (RQ j d t) bs.length
  rw[ak (aC.1 a).1]at this;unfold cP jZ;rw[wD];exact this
end Go.Proofs.YtgigcooffjjbgaaGreatDoor
