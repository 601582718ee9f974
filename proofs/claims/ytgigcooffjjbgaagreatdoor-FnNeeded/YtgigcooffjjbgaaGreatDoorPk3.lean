/-
  StMath; ScM; ScM2; TMath; ZMath; ChM; RoMath; HpMath; PlMath; PoMath
-/
import Derived.Test.YtgigcooffjjbgaaGreatDoorPk2
open Go.Value renaming int→I,string→iT,agg→iA
open Go.IntKind renaming i64→J
open Option renaming none→O,some→X
open Bool renaming true→iV,false→iF
open Go renaming Value→iX
namespace Go.Proofs.YtgigcooffjjbgaaGreatDoor
abbrev aM:=Int×Int×Int×ByteArray
def yu(s:aM):iX:=iA #[I J s.1,I J s.2.1,I J s.2.2.1,iT s.2.2.2]
def cR(bs:List Bk)(s:aM):List Bk×Bool:=if s.1=1 then gM bs s.2.1 s.2.2.1 s.2.2.2 else if s.1=2 then gE bs s.2.1 else(bs,iF)
def dc:List Bk->List aM->List Bk×Nat
 |bs,[]=>(bs,0)
 |bs,s::l=>if (cR bs s).2 then((dc (cR bs s).1 l).1,(dc (cR bs s).1 l).2+1)else(bs,0)
variable{α:Type}{t:ByteArray}{i b k n j:Nat}
variable{bs:List Bk}
theorem Ix{c:List Bk}{l m:List aM}(h:dc bs l=(c,l.length)):dc bs (l++m)=((dc c m).1,l.length+(dc c m).2):=by
 induction l generalizing bs with
 |nil=>
  simp only[dc]at h;cases h;simp
 |cons s l d=>
  simp only[dc,aV]at h;by_cases hs:(cR bs s).2=iV
  ·rw[ak hs]at h;have h1:dc (cR bs s).1 l=(c,l.length):=by
    have b:=congrArg Prod.fst h;have a:=congrArg Prod.snd h;simp only at b a;exact qc b (by simp only;omega)
   rw[jl,dc,ak hs,d h1];simp only[aV];congr 1;omega
  ·rw[aj hs]at h;have a:=congrArg Prod.snd h;simp at a
theorem Jh(bs:List Bk)(s:aM):dc bs [s]=if (cR bs s).2 then((cR bs s).1,1)else(bs,0):=by
 simp only[dc]
theorem LO{b:List Bk}{l:List aM}{s:aM}(h:dc bs (l.take i)=(b,i))(hs:l[i]?=X s)(d:(cR b s).2=iV):dc bs (l.take (i+1))=((cR b s).1,i+1):=by
 obtain⟨h1,rfl⟩:=aB.1 hs;have a:(l.take i).length=i:=by rw[cG];omega
 rw[eY h1,Ix (c:=b) (by rw[a];exact h),Jh,ak d,a]
theorem XJ{b:List Bk}{l:List aM}{s:aM}(h:dc bs (l.take i)=(b,i))(hs:l[i]?=X s)(d:(cR b s).2=iF):dc bs l=(b,i):=by
 obtain⟨h1,rfl⟩:=aB.1 hs;have a:(l.take i).length=i:=by rw[cG];omega
 have e:l=l.take i++(l[i]::l.drop (i+1)):=by rw[<-i8 h1,jo]
 rw[e,Ix (c:=b) (by rw[a];exact h),dc,aj (by rw[d];simp),a]
 rfl
theorem VL{b:List Bk}{l:List aM}(h:dc bs (l.take i)=(b,i))(hi:i=l.length):dc bs l=(b,l.length):=by
 subst hi;rw[bL (am _)]at h;exact h
theorem RL{s:aM}(h:(cR bs s).2=iV):∃(k:Nat) (r:Bk),s.2.1=k/\bs[k]?=X r/\r.2.2.length=4/\(s.1=1∨s.1=2)/\(s.1=1->∃j:Nat,s.2.2.1=j/\j<4/\j=br r.2.2/\1<=s.2.2.2.size/\s.2.2.2.size<=120)/\bo bs=iV/\r.1=iF:=by
 have eX:∀r∈bs,bo bs=iV->r.2.2.length=4:=by
  intro r e h;simp only[bo,bn,gV]at h;have b:=h.2 r e;simp only[dm,bn,bH]at b;exact b.1.1
 unfold cR at h;by_cases h1:s.1=1
 ·rw[ak h1]at h;unfold gM at h;split at h
  ·rename_i b
   rw[bn]at b;obtain⟨d,a⟩:=b;unfold iM at a;cases c:bs[s.2.1.toNat]? with
   |none=>rw[c]at a;cases a
   |some r=>
    rw[c]at a;have a:=sF a;exact⟨s.2.1.toNat,r,by omega,c,eX r (aO c) d,Or.inl h1,λ_=>⟨br r.2.2,a.2.2.2.1,by omega,rfl,a.2.2.2.2.1,a.2.2.2.2.2⟩,d,a.2.1⟩
  ·cases h
 ·rw[aj h1]at h;by_cases b:s.1=2
  ·rw[ak b]at h;unfold gE at h;split at h
   ·rename_i h3
    rw[bn]at h3;obtain⟨d,a⟩:=h3;unfold qG at a;cases c:bs[s.2.1.toNat]? with
    |none=>rw[c]at a;cases a
    |some r=>
     rw[c]at a;have a:=sF a;exact⟨s.2.1.toNat,r,by omega,c,eX r (aO c) d,Or.inr b,λh=>absurd h h1,d,a.2.1⟩
   ·cases h
  ·rw[aj b]at h;cases h
open Words Sums
def mu(x:an):List an->List an
 | []=> [x]
 |y::l=>if x.key<y.key then x::y::l else y::mu x l
def lT(l:List an):List an:=l.foldl (λm x=>mu x m) []
variable{x:an}
theorem Nq{y:an}{l:List an}:y∈mu x l↔y=x∨y∈l:=by
 induction l with
 |nil=>simp[mu]
 |cons z l a=>
  unfold mu;split
  ·simp
  ·simp only[aX,a];constructor
   ·rintro(h|h|h)
    ·exact .inr (.inl h)
    ·exact .inl h
    ·exact .inr (.inr h)
   ·rintro(h|h|h)
    ·exact .inr (.inl h)
    ·exact .inl h
    ·exact .inr (.inr h)
theorem ZF{l:List an}(h:Asc l):Asc (mu x l):=by
 induction l with
 |nil=>exact mA _ _
 |cons z l a=>
  have h1:=fQ.1 h;unfold mu;split
  ·rename_i hx
   refine fQ.2 ⟨?_,h⟩;intro y hy;rcases aX.1 hy with e|e
   ·subst e;omega
   ·have:=h1.1 y e;omega
  ·rename_i hx
   refine fQ.2 ⟨?_,a h1.2⟩;intro y hy;rcases Nq.1 hy with e|e
   ·subst e;omega
   ·exact h1.1 y e
theorem QF{l:List an}(h:Asc l):Akin (mu x l) (l++[x]):=by
 intro c
 induction l with
 |nil=>rfl
 |cons z l d=>
  have h1:=fQ.1 h;unfold mu;split
  ·rename_i hx
   rw[ir];by_cases e:x.key=c
   ·have b:(z::l).filter (λy=>y.key==c)=[]:=by
     rw[mV];intro y hy;rcases aX.1 hy with q|q
     ·subst q;simp;omega
     ·have:=h1.1 y q;simp;omega
    rw[b,oq (by simpa using e),b,oq (by simpa using e)]
    rfl
   ·rw[q9 (a:=x) (by simpa using e),q9 (a:=x) (l:=[]) (by simpa using e)]
    simp
  ·rw[jl];by_cases e:z.key=c
   ·rw[oq (by simpa using e),oq (by simpa using e),d h1.2]
   ·rw[q9 (by simpa using e),q9 (by simpa using e),d h1.2]
theorem zf(l:List an)(x:an):lT (l++[x])=mu x (lT l):=by simp[lT,List.foldl_append]
theorem Am{P:List α->Prop}(h0:P [])(h1:∀l r,P l->P (l++[r])):∀l,P l:=by
 intro l;have:∀m:List α,P m.reverse:=by
  intro m
  induction m with
  |nil=>simpa using h0
  |cons a m b=>rw[List.reverse_cons];exact h1 _ _ b
 simpa using this l.reverse
theorem xM(l:List an):Asc (lT l):=by
 induction l using Am with
 |h0=>exact List.Pairwise.nil
 |h1 l x ih=>rw[zf];exact ZF ih
theorem yA(l:List an):Akin l (lT l):=by
 induction l using Am with
 |h0=>exact Akin.refl _
 |h1 l x ih=>
  rw[zf];exact(ih.app (Akin.refl [x])).trans (QF (xM l)).symm
theorem Bs{l m:List an}(h:Akin l m)(a:Asc m):m=lT l:=(h.symm.trans (yA l)).eq a (xM l)
theorem DH(l:List an)(x:an):x∈lT l↔x∈l:=((yA l).mem x).symm
theorem Words.Asc.sub{l m:List an}(h:Asc l)(hs:m.Sublist l):Asc m:=JK hs h
theorem Words.Akin.filter{l m:List an}(h:Akin l m)(p:an->Bool):Akin (l.filter p) (m.filter p):=λc=>by
 have e:∀k:List an,(k.filter p).filter (λx=>x.key==c)=(k.filter (λx=>x.key==c)).filter p:=λk=>by
  rw[tH,tH];congr 1;funext x;exact tN _ _
 rw[e,e,h c]
theorem Yr(l:List an)(p:an->Bool):lT (l.filter p)=(lT l).filter p:=
 (Bs ((yA l).filter p) ((xM l).sub tZ)).symm
def au(bs:List Bk):List an:=lT (dk bs bs.length)
variable{M:List an}
theorem VN(a:Asc M)(b:Akin (dk bs bs.length) M):M=au bs:=Bs b a
def kW(bs:List Bk)(b:Nat):Nat:=(bs[b]?).map (λr=>r.2.2.length)|>.getD 0
def oN(b k:Nat):List (Nat×Nat):=(List.range k).map (λj=>(b,j))
def n9(bs:List Bk)(n:Nat):List (Nat×Nat):=(List.range n).flatMap (λb=>oN b (kW bs b))
def oo(bs:List Bk)(q:Nat×Nat):Option an:=(dJ bs q.1 q.2).map (λp=>⟨q.1,q.2,p⟩)
theorem F5(b k:Nat):oN b (k+1)=oN b k++[(b,k)]:=by simp[oN,List.range_succ]
theorem GJ(bs:List Bk)(n:Nat):n9 bs (n+1)=n9 bs n++oN n (kW bs n):=by simp[n9,List.range_succ,List.flatMap_append]
theorem Yy(bs:List Bk)(b k:Nat):fT bs b k=(oN b k).filterMap (oo bs):=by
 induction k with
 |zero=>rfl
 |succ k a=>
  rw[F5,nD,fT,a];congr 1;cases h:dJ bs (b:Int) (k:Int)with
  |none=>simp[oo,h]
  |some p=>simp[oo,h]
theorem rk(bs:List Bk)(n:Nat):dk bs n=(n9 bs n).filterMap (oo bs):=by
 induction n with
 |zero=>rfl
 |succ n a=>
  rw[GJ,nD,dk,a,Yy];rfl
theorem yH{q:Nat×Nat}:q∈oN b k↔q.1=b/\q.2<k:=by
 simp only[oN,bJ,iw];constructor
 ·rintro⟨j,a,rfl⟩;exact⟨rfl,a⟩
 ·rintro⟨rfl,h⟩;exact⟨q.2,h,rfl⟩
theorem Aa{q:Nat×Nat}:q∈n9 bs n↔q.1<n/\q.2<kW bs q.1:=by
 simp only[n9,md,iw];constructor
 ·rintro⟨b,c,d⟩;obtain⟨rfl,h⟩:=yH.1 d;exact⟨c,h⟩
 ·rintro⟨h1,a⟩;exact⟨q.1,h1,yH.2 ⟨rfl,a⟩⟩
theorem Pl(b k:Nat):(oN b k).Nodup:=by
 induction k with
 |zero=>exact List.nodup_nil
 |succ k c=>
  rw[F5,Df];refine⟨c,by simp,?_⟩
  intro x a y hy;rw[bR]at hy;subst hy;have:=(yH.1 a).2;intro e;rw[e]at this;simp at this
theorem JI(bs:List Bk)(n:Nat):(n9 bs n).Nodup:=by
 induction n with
 |zero=>exact List.nodup_nil
 |succ n b=>
  rw[GJ,Df];refine⟨b,Pl _ _,?_⟩;intro x a y hy e;have h1:=(Aa.1 a).1;have c:=(yH.1 hy).1;rw[e]at h1;omega
theorem o9{β:Type}{f g:α->Option β}:∀{l:List α},(∀x∈l,f x=g x)->l.filterMap f=l.filterMap g
 | [],_=>rfl
 |a::l,h=>by rw[qn,qn,h a (by simp),o9 (λx b=>h x (by simp[b]))]
theorem Ti{L:List α}(i:L.Nodup){f g:α->Option an}{q:α}(o:q∈L)(h0:f q=O)(h1:g q=X x)(hs:∀p∈L,p≠q->g p=f p)(j:∀y∈L.filterMap f,y.key<x.key):
 lT (L.filterMap g)=lT (L.filterMap f)++[x]:=by
 obtain⟨A,B,rfl⟩:=List.append_of_mem o;rw[Df,z8]at i;have m:A.filterMap g=A.filterMap f:=o9 (λp c=>hs p (by simp[c]) (λe=>i.2.2 p c q (by simp) e))
 have n:B.filterMap g=B.filterMap f:=o9 (λp c=>hs p (by simp[c]) (λe=>i.2.1.1 (e▸c)))
 have l:(A++q::B).filterMap g=A.filterMap f++([x]++B.filterMap f):=by
  rw[nD,qn,h1,m,n];rfl
 have k:(A++q::B).filterMap f=A.filterMap f++B.filterMap f:=by
  rw[nD,qn,h0]
 rw[k]at j;rw[l,k]
 symm
 apply Bs
 ·refine Akin.trans ?_ ((yA _).app (Akin.refl [x]));rw[fs];refine(Akin.refl _).app (Akin.flip ?_);intro a d b h;rw[bR]at d;subst d;have:=j b (xY _ h);omega
 ·refine(xM _).app (mA _ _) ?_;intro a d b h;rw[bR]at h;subst h;have:=j a ((DH _ _).1 d);omega
variable{cs:List Bk}
theorem EE(h:∀b,kW bs b=kW cs b)(n:Nat):n9 bs n=n9 cs n:=by
 unfold n9;congr 1;funext b;rw[h b]
theorem xI{l:List α}(f:α->α)(h:i≠j):(l.modify i f)[j]?=l[j]?:=by
 rw[rz];simp[h]
theorem SO{l:Nat}{r:Bk}(t:ByteArray)(c:bs[b]?=X r)(d:l<r.2.2.length)(i k:Nat):dl (jM bs b l t) (i:Int) (k:Int)=if i=b/\k=l then(t,iV)else dl bs (i:Int) (k:Int):=by
 unfold dl jM;rw[bk];by_cases e:i=b
 ·subst e;rw[wO,c];simp only[Option.map_eq_map,g9,bk];by_cases a:k=l
  ·subst a;rw[lZ d];simp
  ·rw[oE (λh=>a h.symm)]
   simp[a]
 ·rw[xI _ (λh=>e h.symm),aj (λh=>e h.1)]
theorem Ka{l:Nat}{r:Bk}(t:ByteArray)(a:bs[b]?=X r)(c:l<r.2.2.length)(i k:Nat):dJ (jM bs b l t) i k=if i=b/\k=l then dx t else dJ bs i k:=by
 unfold dJ;rw[SO t a c];by_cases h:i=b/\k=l
 ·rw[ak h,ak h];rfl
 ·rw[aj h,aj h]
theorem Ys(bs:List Bk)(b l:Nat)(t:ByteArray)(i:Nat):kW (jM bs b l t) i=kW bs i:=by
 unfold kW jM;by_cases e:b=i
 ·subst e;rw[wO];cases h:bs[b]?<;>simp
 ·rw[xI _ e]
variable{p:Pg}
theorem PQ{l:Nat}{r:Bk}(c:bs[b]?=X r)(d:l<r.2.2.length)(f:dJ bs b l=O)(g:dx t=X p)(e:∀y∈au bs,y.key<p.seq):
 au (jM bs b l t)=au bs++[⟨b,l,p⟩]:=by
 have a:(jM bs b l t).length=bs.length:=by simp[jM]
 unfold au at e⊢;rw[a,rk,rk,EE (Ys bs b l t)];refine Ti (JI bs bs.length) (q:=(b,l)) (Aa.2 ⟨(aB.1 c).1,?_⟩) ?_ ?_ ?_ ?_
 ·show l<kW bs b;rw[kW,c];exact d
 ·simp[oo,f]
 ·simp only[oo];rw[Ka t c d,ak ⟨rfl,rfl⟩,g];rfl
 ·intro q _ i;simp only[oo];rw[Ka t c d,aj (λh=>i (qc h.1 h.2))]
 ·intro y hy;rw[<-rk]at hy;exact e y ((DH _ _).2 hy)
theorem Xi(c:∀i,kW cs i=kW bs i)(a:cs.length=bs.length)(h0:∀k:Nat,dJ cs b k=O)(h1:∀i k,i≠b->dJ cs (i:Nat) (k:Nat)=dJ bs i k):
 au cs=(au bs).filter (λx=> !decide (x.block=(b:Int))):=by
 unfold au;rw[<-Yr,a,rk,rk,EE c];congr 1;rw[Hw];apply o9;intro q _;simp only[oo];by_cases e:q.1=b
 ·rw[e,h0];cases dJ bs (b:Int) (q.2:Int)with
  |none=>rfl
  |some p=>simp[Option.filter]
 ·rw[h1 _ _ e];cases dJ bs (q.1:Int) (q.2:Int)with
  |none=>rfl
  |some p=>
   have:¬((q.1:Int)=(b:Int)):=by omega
   simp[Option.filter,this]
theorem Ff(bs:List Bk)(b:Nat)(x:Bool)(n:Int)(h:bs[b]?=X (x,n,eW))(k:Nat):dJ bs b k=O:=by
 unfold dJ;have:(dl bs (b:Int) (k:Int)).2=iF:=by
  unfold dl;rw[bk,h];simp only[bk];cases e:eW[k]? with
  |none=>rfl
  |some t=>
   have a:=aO e;have:t.1=0:=by
    simp only[eW,aX,eI,fp]at a;rcases a with rfl|rfl|rfl|rfl<;>rfl
   simp[this]
 rw[this];rfl
theorem RY{r:Bk}(a:bs[b]?=X r)(c:r.2.2.length=4):
 au (bs.modify b (λr=>(iF,r.2.1+1,eW)))=(au bs).filter (λx=> !decide (x.block=(b:Int))):=by
 refine Xi ?_ (by simp) ?_ ?_
 ·intro i;unfold kW;by_cases e:b=i
  ·subst e;rw[wO,a];simp[c,eW]
  ·rw[xI _ e]
 ·intro k;refine Ff _ b iF (r.2.1+1) ?_ k;rw[wO,a];rfl
 ·intro i k hi;unfold dJ;have:dl (bs.modify b (λr=>(iF,r.2.1+1,eW))) (i:Int) (k:Int)=dl bs (i:Int) (k:Int):=by
   unfold dl;rw[bk,xI _ (λh=>hi h.symm)]
  rw[this]
theorem Cn(h:x∈au bs):∃b l:Nat,x.block=b/\x.leaf=l/\b<bs.length/\l<kW bs b/\dJ bs b l=X x.fP:=by
 unfold au at h;rw[DH,rk,tS]at h;obtain⟨q,d,e⟩:=h;have c:=Aa.1 d;simp only[oo]at e;cases a:dJ bs (q.1:Int) (q.2:Int)with
 |none=>rw[a]at e;cases e
 |some p=>
  rw[a]at e;simp only[g9,fu]at e;subst e;exact⟨q.1,q.2,rfl,rfl,c.1,c.2,a⟩
end Go.Proofs.YtgigcooffjjbgaaGreatDoor
namespace Go.Proofs.YtgigcooffjjbgaaGreatDoor.Pack
def dg:Nat->List UInt8->List UInt8->Nat
 |0,_,_=>0
 |f+1,a::al,b::bs=>if a=b then dg f al bs+1 else 0
 |_+1,_,_=>0
theorem Fv(f:Nat)(a b:List UInt8):dg f a b<=f/\dg f a b<=b.length:=by
 induction f generalizing a b with
 |zero=>simp[dg]
 |succ f d=>
  cases a with
  |nil=>simp[dg]
  |cons x c=>
   cases b with
   |nil=>simp[dg]
   |cons y bs=>
    unfold dg;split
    ·have:=d c bs;simp only[aV];omega
    ·simp
theorem OJ(f:Nat)(a b:List UInt8)(i:Nat)(h:i<dg f a b):a[i]?=b[i]?/\i<b.length:=by
 induction f generalizing a b i with
 |zero=>simp[dg]at h
 |succ f d=>
  cases a with
  |nil=>simp[dg]at h
  |cons x c=>
   cases b with
   |nil=>simp[dg]at h
   |cons y bs=>
    unfold dg at h;split at h
    ·rename_i e
     subst e;cases i with
     |zero=>simp
     |succ i=>
      have:=d c bs i (by omega)
      simp only[nH,aV];exact⟨this.1,by omega⟩
    ·omega
def cC(s:List UInt8)(a:Nat):Nat->Nat×Nat
 |0=>(0,0)
 |k+1=>if 4<=dg 31 (s.drop (a-(k+1))) (s.drop a)/\(cC s a k).1<dg 31 (s.drop (a-(k+1))) (s.drop a)then(dg 31 (s.drop (a-(k+1))) (s.drop a),k+1)else cC s a k
theorem Mb(s:List UInt8)(a k:Nat):cC s a k=(0,0)∨(4<=(cC s a k).1/\(cC s a k).1<=31/\0<(cC s a k).2/\(cC s a k).2<=k/\(cC s a k).1=dg 31 (s.drop (a-(cC s a k).2)) (s.drop a)):=by
 induction k with
 |zero=>left;rfl
 |succ k b=>
  unfold cC;split
  ·rename_i h
   right;have:=(Fv 31 (s.drop (a-(k+1))) (s.drop a)).1;exact⟨h.1,this,Nat.succ_pos k,am _,rfl⟩
  ·rcases b with h|h
   ·left;exact h
   ·right;exact⟨h.1,h.2.1,h.2.2.1,by omega,h.2.2.2.2⟩
def stepT(s:List UInt8)(a:Nat×List (Nat×Nat×List UInt8)):Nat×List (Nat×Nat×List UInt8):=
 if 0<(cC s a.1 a.1).1 then(a.1+(cC s a.1 a.1).1,a.2++[((cC s a.1 a.1).2,(cC s a.1 a.1).1,[])])
 else match a.2.getLast? with
  |some (0,z,t)=>if t.length<31 then(a.1+1,a.2.dropLast++[(0,z,t++[s.getD a.1 0])])else(a.1+1,a.2++[(0,0,[s.getD a.1 0])])
  |_=>(a.1+1,a.2++[(0,0,[s.getD a.1 0])])
def dY:Nat->List UInt8->Nat×List (Nat×Nat×List UInt8)
 |0,_=>(0,[])
 |n+1,s=>if (dY n s).1<s.length then stepT s (dY n s)else dY n s
def kS(s:List UInt8):List (Nat×Nat×List UInt8):=(dY s.length s).2
def mp:Nat->Nat->List UInt8->List UInt8
 |0,_,out=>out
 |n+1,back,out=>mp n back (out++[out.getD (out.length-back) 0])
def jW(a:Nat)(t:Nat×Nat×List UInt8):Prop:=if t.1=0 then(1<=t.2.2.length/\t.2.2.length<=31/\t.2.1=0)else(t.1<=a/\1<=t.2.1/\t.2.1<=31/\t.2.2=[])
abbrev QO(a:Nat)(t:Nat×Nat×List UInt8):Decidable (jW a t):=by unfold jW;exact inferInstance
def kY(a:List UInt8)(t:Nat×Nat×List UInt8):List UInt8:=if t.1=0 then a++t.2.2 else mp t.2.1 t.1 a
def lC(a:List UInt8):List (Nat×Nat×List UInt8)->Option (List UInt8)
 | []=>X a
 |t::r=>letI:=QO a.length t;if jW a.length t then(if (kY a t).length<=64 then lC (kY a t) r else O)else O
def plain(l:List (Nat×Nat×List UInt8)):Option (List UInt8):=lC [] l
theorem IZ(c:List UInt8)(a b:List (Nat×Nat×List UInt8)):lC c (a++b)=(lC c a).bind λo=>lC o b:=by
 induction a generalizing c with
 |nil=>rfl
 |cons t a d=>
  simp only[jl,lC];split
  ·split
   ·exact d _
   ·rfl
  ·rfl
theorem Di(a:List (Nat×Nat×List UInt8))(t:Nat×Nat×List UInt8)(o:List UInt8)(h:plain a=X o)(h1:jW o.length t)(b:(kY o t).length<=64):plain (a++[t])=X (kY o t):=by
 unfold plain at*;rw[IZ,h];simp only[kw,lC];rw[ak h1,ak b]
theorem Rl(s:List UInt8)(a b n:Nat)(g:0<b)(j:b<=a)(h:∀i,i<n->s[a-b+i]?=s[a+i]?/\a+i<s.length):mp n b (s.take a)=s.take (a+n):=by
 induction n generalizing a with
 |zero=>rfl
 |succ n f=>
  have h0:=h 0 (by omega)
  have d:a<s.length:=by have:=h0.2;omega
  have c:(s.take a).length=a:=by rw[cG];omega
  have e:s.take a++[(s.take a).getD ((s.take a).length-b) 0]=s.take (a+1):=by
   rw[eY d,c];congr 2;rw[nJ,tX (by omega)]
   have:=h0.1;simp only[pP]at this;rw[this,ay d];rfl
  unfold mp;rw[e,f (a+1) (by omega) (λi hi=>by
   have:=h (i+1) (by omega)
   rw[show a+1-b+i=a-b+(i+1)by omega,show a+1+i=a+(i+1)by omega]
   exact this),show a+1+n=a+(n+1)by omega]
def uQ(s:List UInt8)(a:Nat×List (Nat×Nat×List UInt8)):Prop:=a.1<=s.length/\plain a.2=X (s.take a.1)/\∀t∈a.2,t.1=0∨4<=t.2.1
theorem RH(a:List (Nat×Nat×List UInt8))(t:Nat×Nat×List UInt8)(o:List UInt8)(h:plain (a++[t])=X o):∃b,plain a=X b/\jW b.length t/\kY b t=o:=by
 unfold plain at*;rw[IZ]at h;cases c:lC [] a with
 |none=>rw[c]at h;cases h
 |some b=>
  rw[c]at h;simp only[kw,lC]at h;split at h
  ·split at h
   ·rename_i h1 h2
    cases h;exact⟨b,rfl,h1,rfl⟩
   ·cases h
  ·cases h
theorem K9(s:List UInt8)(k:Nat)(h:k<s.length):s.take k++[s.getD k 0]=s.take (k+1):=by
 rw[eY h,nJ,ay h];rfl
theorem Hs(s:List UInt8)(k:Nat)(a:List (Nat×Nat×List UInt8))(hs:s.length<=64)(c:k<s.length)(h:uQ s (k,a)):uQ s (k+1,a++[(0,0,[s.getD k 0])]):=by
 refine⟨c,?_,?_⟩
 ·have d:=Di a (0,0,[s.getD k 0]) _ h.2.1 (by simp[jW]) (by simp[kY];omega)
  rw[d];simp only[kY,dw];exact congrArg X (K9 s k c)
 ·intro t e;rcases bG.1 e with b|b
  ·exact h.2.2 t b
  ·simp at b;subst b;left;rfl
theorem TC(s:List UInt8)(g:Nat×List (Nat×Nat×List UInt8))(hs:s.length<=64)(m:g.1<s.length)(h:uQ s g):uQ s (stepT s g)/\g.1<(stepT s g).1:=by
 obtain⟨k,e⟩:=g;unfold stepT;simp only;split
 ·rename_i hb
  rcases Mb s k k with h0|⟨h4,q,r,j,D⟩
  ·rw[h0]at hb;simp at hb
  ·have b:∀i,i<(cC s k k).1->s[k-(cC s k k).2+i]?=s[k+i]?/\k+i<s.length:=by
    intro i hi;rw[D]at hi;obtain⟨x,A⟩:=OJ _ _ _ i hi;rw[lh,lh]at x;rw[ju]at A;exact⟨x,by omega⟩
   have u:k+(cC s k k).1<=s.length:=by
    have:=(b ((cC s k k).1-1) (by omega)).2
    omega
   have o:=Rl s k (cC s k k).2 (cC s k k).1 r j b;refine⟨⟨u,?_,?_⟩,by omega⟩
   ·have C:(s.take k).length=k:=by simp at m⊢;omega
    have v:jW (s.take k).length ((cC s k k).2,(cC s k k).1,[]):=by
     unfold jW;rw[aj (by simp only;omega),C]
     exact⟨j,by simp only;omega,q,rfl⟩
    have c:kY (s.take k) ((cC s k k).2,(cC s k k).1,[])=s.take (k+(cC s k k).1):=by
     unfold kY;rw[aj (by simp only;omega)]
     exact o
    have:=Di e _ _ h.2.1 v (by rw[c,cG];omega)
    rw[this,c]
   ·intro t o;rcases bG.1 o with d|d
    ·exact h.2.2 t d
    ·simp at d;subst d;right;exact h4
 ·split
  ·rename_i z t hlast
   split
   ·rename_i o
    obtain⟨a,l⟩:∃a,e=a++[(0,z,t)]:=by
     obtain⟨a,hi⟩:=zm.1 hlast;exact⟨a,hi⟩
    subst l;obtain⟨y,h1,B,p⟩:=RH a _ _ h.2.1;simp only[List.dropLast_concat];have f:=B;unfold jW at f;rw[ak rfl]at f;have n:kY y (0,z,t++[s.getD k 0])=s.take (k+1):=by
     unfold kY at p⊢;rw[ak rfl]at p⊢;rw[<-K9 s k m,<-p,fs]
    refine⟨⟨m,?_,?_⟩,zZ k⟩
    ·have:=Di a (0,z,t++[s.getD k 0]) y h1 (by
      unfold jW;rw[ak rfl];simp only[aJ,Iy];exact⟨by omega,by omega,f.2.2⟩) (by rw[n,cG];omega)
     rw[this,n]
    ·intro t' w;rcases bG.1 w with d|d
     ·exact h.2.2 t' (sC _ d)
     ·simp at d;subst d;left;rfl
   ·exact⟨Hs s k e hs m h,zZ k⟩
  ·exact⟨Hs s k e hs m h,zZ k⟩
theorem JU(s:List UInt8)(hs:s.length<=64)(n:Nat):uQ s (dY n s)/\min n s.length<=(dY n s).1:=by
 induction n with
 |zero=>exact⟨⟨aK _,rfl,λt b=>by cases b⟩,by simp⟩
 |succ n a=>
  unfold dY;split
  ·rename_i h
   have:=TC s _ hs h a.1;exact⟨this.1,by omega⟩
  ·exact⟨a.1,by omega⟩
theorem Ej(s:List UInt8)(hs:s.length<=64):plain (kS s)=X s/\∀t∈kS s,t.1=0∨4<=t.2.1:=by
 obtain⟨⟨h1,a,b⟩,h4⟩:=JU s hs s.length;refine⟨?_,b⟩;unfold kS;rw[a,bL (by omega)]
end Go.Proofs.YtgigcooffjjbgaaGreatDoor.Pack
namespace Go.Proofs.YtgigcooffjjbgaaGreatDoor.Pack
def fW(t:Nat×Nat×List UInt8):List UInt8:=if t.1=0 then UInt8.ofNat t.2.2.length::t.2.2 else[UInt8.ofNat (128+t.2.1),UInt8.ofNat t.1]
def xJ(s:List UInt8):List UInt8:=122::(kS s).flatMap fW
def go(s:List UInt8):Option (List UInt8):=if 64<s.length then O else X (if s.length+1<=(xJ s).length then 114::s else xJ s)
def pr:Nat->List UInt8->Option (List (Nat×Nat×List UInt8))
 |_,[]=>X []
 |0,_::_=>O
 |f+1,n::r=>
  if 128<n.toNat then(match r with
   |b::r'=>(pr f r').map λl=>(b.toNat,n.toNat-128,[])::l
   | []=>O)
  else if n.toNat<=r.length then(pr f (r.drop n.toNat)).map λl=>(0,0,r.take n.toNat)::l else O
def fF(t:List UInt8):Option (List UInt8):=
 match t with
 | []=>O
 |c::r=>(if c=122 then(pr r.length r).bind plain else X r).bind λs=>if go s=X t then X s else O
def Fit(t:Nat×Nat×List UInt8):Prop:=(t.1=0/\1<=t.2.2.length/\t.2.2.length<=31/\t.2.1=0)∨(0<t.1/\t.1<=64/\1<=t.2.1/\t.2.1<=31/\t.2.2=[])
theorem Ke(b o:List UInt8)(l:List (Nat×Nat×List UInt8))(f:b.length<=64)(h:lC b l=X o):∀t∈l,Fit t:=by
 induction l generalizing b with
 |nil=>intro t c;cases c
 |cons a l d=>
  unfold lC at h;split at h
  ·rename_i hok
   split at h
   ·rename_i hlen
    intro t c;rcases aX.1 c with e|e
    ·subst e;unfold jW at hok;split at hok
     ·rename_i h0
      exact .inl ⟨h0,hok⟩
     ·rename_i h0
      exact .inr ⟨by omega,by omega,hok.2⟩
    ·exact d _ hlen h t e
   ·cases h
  ·cases h
theorem th(n:Nat)(h:n<256):(UInt8.ofNat n).toNat=n:=by rw[qj];omega
theorem VA(t:Nat×Nat×List UInt8):1<=(fW t).length:=by
 unfold fW;split<;>simp
theorem T9(l:List (Nat×Nat×List UInt8))(h:∀t∈l,Fit t)(f:Nat)(a:(l.flatMap fW).length<=f):pr f (l.flatMap fW)=X l:=by
 induction l generalizing f with
 |nil=>
  simp only[List.flatMap_nil];cases f<;>rfl
 |cons t l p=>
  have j:=h t (by simp)
  have o:=p (λt j=>h t (by simp[j]))
  rw[oL]at a⊢;rw[aJ]at a;have h1:=VA t;obtain⟨g,rfl⟩:∃g,f=g+1:=⟨f-1,by omega⟩
  obtain⟨b,n,x⟩:=t;rcases j with⟨c,e,i,d⟩|⟨c,e,i,d,m⟩
  ·simp only at c e i d;subst c d;have k:fW (0,0,x)=UInt8.ofNat x.length::x:=rfl;rw[k]at a⊢;rw[jl];unfold pr;rw[th x.length (by omega),aj (by omega),ak (by simp)]
   rw[List.drop_left,List.take_left,o g (by simp only[aV]at a;omega)]
   rfl
  ·simp only at c e i d m;subst m;have k:fW (b,n,[])=[UInt8.ofNat (128+n),UInt8.ofNat b]:=by
    unfold fW;rw[aj (by simp only;omega)]
   rw[k]at a⊢;rw[jl];unfold pr;rw[th (128+n) (by omega),ak (by omega)]
   simp only[jl,jT];rw[o g (by simp only[aV,dU]at a;omega),th b (by omega)]
   simp
theorem XD(s t:List UInt8)(h:go s=X t):fF t=X s:=by
 have hs:s.length<=64:=by
  unfold go at h;split at h
  ·cases h
  ·omega
 obtain⟨b,-⟩:=Ej s hs;have a:=h;unfold go at a;rw[aj (by omega)]at a
 split at a
 ·cases a;unfold fF;simp only;rw[aj (by decide)]
  simp only[kw];rw[ak h]
 ·cases a;show(if (122:UInt8)=122 then(pr ((kS s).flatMap fW).length ((kS s).flatMap fW)).bind plain else X _).bind _=_
  rw[ak rfl,T9 _ (Ke [] s _ (by simp) b) _ (am _)]
  simp only[kw,b];rw[ak h]
theorem aan(n b:Nat)(a:List UInt8):(mp n b a).length=a.length+n:=by
 induction n generalizing a with
 |zero=>rfl
 |succ n c=>unfold mp;rw[c];simp;omega
end Go.Proofs.YtgigcooffjjbgaaGreatDoor.Pack
namespace Go.Proofs.YtgigcooffjjbgaaGreatDoor
open Words Sums Pack
def cW(c:Int)(x:an):Bool:=x.fP.kind==1&&x.fP.tx==c
def bp(M:List an)(c:Int):Option an:=(M.filter (cW c)).getLast?
def bI(M:List an)(c:Int):Option (List UInt8):=(bp M c).bind λx=>fF x.fP.text.data.toList
def fi(M:List an)(live:List Int)(t:List UInt8):Int:=(live.find? λc=>decide (bI M c=X t)).getD 0
theorem xD(l:List an)(x:an)(c:Int):bp (l++[x]) c=if cW c x then X x else bp l c:=by
 unfold bp;rw[ir];by_cases h:cW c x=iV
 ·rw[oq h,vG,List.getLast?_concat,ak h]
 ·rw[q9 h,vG,dS,aj h]
theorem qW(l m:List an)(c:Int):bp (l++m) c=(bp m c).or (bp l c):=by
 unfold bp;rw[ir,List.getLast?_append]
variable{t:ByteArray}{c:Int}{ls:List (Int × ByteArray)}{row:List Bool}{live:List Int}{k i m j:Nat}
variable{x:an}
theorem ph{l:List an}(h:bp l c=X x):x∈l/\cW c x=iV:=by
 unfold bp at h;have:=List.mem_of_getLast? h;rw[eh]at this;exact this
theorem rL{l:List an}:bp l c=O↔∀x∈l,cW c x=iF:=by
 unfold bp;rw[List.getLast?_eq_none_iff,mV];simp
variable{M:List an}
theorem zK(h:M[k]?=X x)(c:Int):bp (M.take (k+1)) c=if cW c x then X x else bp (M.take k) c:=by
 rw[eG,h];exact xD _ _ _
theorem Af(x:an)(l:List an)(c:Int):bp (x::l) c=(bp l c).or (if cW c x then X x else O):=by
 rw[show x::l=[x]++l from rfl,qW];congr 1;exact(xD [] x c).trans (by split<;>rfl)
def py(M:List an)(live:List Int)(base:Int)(i:Nat)(x:an):Bool:=
 (x.fP.kind==2&&decide (base<=x.fP.tx))||(x.fP.kind==1&&live.contains x.fP.tx&&(bp (M.drop (i+1)) x.fP.tx).isNone)
def cE(M:List an)(live:List Int)(base:Int):List Bool:=M.mapIdx (py M live base)
def dP(M:List an)(row:List Bool)(b:Int):Nat:=((M.zip row).filter λp=>p.2&&p.1.block==b).length
def iq(M:List an)(live:List Int)(base b:Int):Nat:=dP M (cE M live base) b
theorem qd(M:List an)(live:List Int)(base:Int):(cE M live base).length=M.length:=by simp[cE]
theorem p7(live:List Int)(base:Int)(h:M[i]?=X x):(cE M live base)[i]?=X (py M live base i x):=by simp[cE,h]
theorem XM(M:List an)(base:Int):cE M [] base=M.map λx=>x.fP.kind==2&&decide (base<=x.fP.tx):=by
 apply kO;intro i;cases h:M[i]? with
 |none=>simp[cE,h]
 |some x=>rw[p7 _ _ h,bi,h];simp[py]
theorem Zw(L:List Int)(base:Int)(h:bp M c=O):cE M (L++[c]) base=cE M L base:=by
 apply kO;intro i;cases hi:M[i]? with
 |none=>simp[cE,hi]
 |some x=>
  rw[p7 _ _ hi,p7 _ _ hi];congr 1;have:=rL.1 h x (aO hi);unfold cW at this;unfold py;congr 1;by_cases a:x.fP.kind=1
  ·have d:¬x.fP.tx=c:=by simpa[a]using this
   simp[a,d]
  ·have b:(x.fP.kind==1)=iF:=by simpa using a
   simp[b]
theorem Sy(L:List Int)(base:Int)(hi:M[i]?=X x)(l:cW c x=iV)(k:bp (M.drop (i+1)) c=O):cE M (L++[c]) base=(cE M L base).set i iV:=by
 have a:=l;unfold cW at a;simp only[bn,jg]at a;apply kO;intro j;rw[sZ];by_cases e:i=j
 ·subst e;rw[ak rfl,qd,ak (aB.1 hi).1,p7 _ _ hi];congr 1;unfold py;simp[a.1,a.2,k]
 ·rw[aj e];cases b:M[j]? with
  |none=>simp[cE,b]
  |some y=>
   rw[p7 _ _ b,p7 _ _ b];congr 1;unfold py;congr 1;by_cases h:y.fP.kind=1
   ·by_cases f:y.fP.tx=c
    ·have g:cW c y=iV:=by unfold cW;simp[h,f]
     have m:j<i:=by
      rcases Nat.lt_or_ge j i with q|q
      ·exact q
      ·exfalso
       have:=rL.1 k y (aO (i:=j-(i+1)) (by rw[lh,show i+1+(j-(i+1))=j by omega];exact b))
       rw[g]at this;cases this
     have hs:(bp (M.drop (j+1)) y.fP.tx).isNone=iF:=by
      rw[f];cases n:bp (M.drop (j+1)) c with
      |some _=>rfl
      |none=>
       exfalso
       have:=rL.1 n x (aO (i:=i-(j+1)) (by rw[lh,show j+1+(i-(j+1))=i by omega];exact hi))
       rw[l]at this;cases this
     simp[hs]
    ·simp[f]
   ·have d:(y.fP.kind==1)=iF:=by simpa using h
    simp[d]
def lj(x y:an):Bool:=x.block==y.block&&x.leaf==y.leaf&&x.fP.kind==y.fP.kind&&x.fP.seq==y.fP.seq&&x.fP.tx==y.fP.tx&&x.fP.part==y.fP.part&&x.fP.count==y.fP.count&&decide (x.fP.text.data.toList=y.fP.text.data.toList)
theorem Du(x:an):lj x x=iV:=by simp[lj]
def mq(M:List an)(live:List Int)(base:Int)(x:an):Bool:=
 if x.fP.kind=2 then decide (base<=x.fP.tx)else(match bp M x.fP.tx with|some y=>lj y x|none=>iF)&&live.contains x.fP.tx
def sR(M:List an):Prop:=M.Pairwise λx y=>¬(x.block=y.block/\x.leaf=y.leaf)
theorem LW(live:List Int)(base:Int)(e:sR M)(a:x.fP.kind=1∨x.fP.kind=2)(hi:M[i]?=X x):py M live base i x=mq M live base x:=by
 unfold py mq;rcases a with a|a
 ·rw[aj (by omega)]
  simp only[a,show((1:Int)==2)=iF from rfl,kL,xu,zk,gk];rw[tN];congr 1;have h:cW x.fP.tx x=iV:=by unfold cW;simp[a]
  have c:M=M.take (i+1)++M.drop (i+1):=(jo _ _).symm;have b:=qW (M.take (i+1)) (M.drop (i+1)) x.fP.tx;rw[<-c,zK hi,ak h]at b;cases g:bp (M.drop (i+1)) x.fP.tx with
  |none=>
   rw[g]at b;rw[b];simp[Du]
  |some y=>
   rw[g]at b;rw[b];simp only[Option.or,Option.isNone_some];have j:=(ph g).1;have f:¬(x.block=y.block/\x.leaf=y.leaf):=by
    unfold sR at e;rw[c,iu]at e;refine e.2.2 x ?_ y j;rw[eG,hi];simp
   cases d:lj y x with
   |false=>rfl
   |true=>
    unfold lj at d;simp only[bn,jg]at d;exact absurd ⟨d.1.1.1.1.1.1.1.symm,d.1.1.1.1.1.1.2.symm⟩ f
 ·rw[ak a];simp[a]
theorem JB(f:an->Bool)(b:Int):∀M:List an,dP M (M.map f) b=(M.filter λx=>x.block==b&&f x).length
 | []=>rfl
 |x::M=>by
  have a:=JB f b M;unfold dP at a⊢;rw[cn,List.zip_cons_cons,gP,gP];simp only;rw[tN];split<;>simp[a]
theorem yG(live:List Int)(base b:Int)(a:sR M)(c:∀x∈M,x.fP.kind=1∨x.fP.kind=2):iq M live base b=(M.filter λx=>x.block==b&&mq M live base x).length:=by
 unfold iq;have:cE M live base=M.map (mq M live base):=by
  apply kO;intro i;cases h:M[i]? with
  |none=>simp[cE,h]
  |some x=>rw[p7 _ _ h,bi,h,LW live base a (c x (aO h)) h];rfl
 rw[this,JB]
theorem S8(x:an)(l:List an):(mu x l).Perm (x::l):=by
 induction l with
 |nil=>exact BM _
 |cons y l a=>
  unfold mu;split
  ·exact BM _
  ·exact(List.Perm.cons y a).trans (List.Perm.swap x y l)
theorem JO(l:List an):(lT l).Perm l:=by
 induction l using Am with
 |h0=>exact BM _
 |h1 l x ih=>
  rw[zf];exact(S8 x _).trans ((List.Perm.cons x ih).trans (List.perm_append_singleton x l).symm)
theorem QD(M:List an)(c:Int)(l:List Int)(t:List UInt8):fi M (c::l) t=if bI M c=X t then c else fi M l t:=by
 unfold fi;rw[List.find?_cons];by_cases h:bI M c=X t
 ·simp[h]
 ·simp[h]
theorem MW(t:List UInt8)(h:live[k]?=X c):fi M (live.drop k) t=if bI M c=X t then c else fi M (live.drop (k+1)) t:=by
 obtain⟨a,e⟩:=aB.1 h;rw[i8 a,QD,e]
theorem QP{r:Bool}(b:Int)(c:M[k]?=X x)(a:row[k]?=X r):dP (M.take (k+1)) (row.take (k+1)) b=dP (M.take k) (row.take k) b+if r&&x.block==b then 1 else 0:=by
 have h1:=(aB.1 c).1;have e:=(aB.1 a).1;unfold dP;rw[eG,eG,c,a];simp only[qD];rw[List.zip_append (by rw[cG,cG];omega),ir,aJ]
 congr 1;cases r<;>cases d:(x.block==b)<;>simp[d]
theorem Lw(M:List an)(row:List Bool)(b:Int):dP M row b<=M.length:=by
 unfold dP;refine bT (Ko _ _) ?_;rw[yL];omega
theorem Hq(bs:List Bk)(m:Nat)(h:∀b∈bs,b.2.2.length<=m):(au bs).length<=bs.length*m:=by
 have a:∀n,(dk bs n).length<=n*m:=by
  intro n
  induction n with
  |zero=>simp[dk]
  |succ n d=>
   rw[dk,aJ,Nat.succ_mul];have h1:=RK bs n ((bs[n]?).map (λr=>r.2.2.length)|>.getD 0)
   have c:((bs[n]?).map (λr=>r.2.2.length)|>.getD 0)<=m:=by
    cases e:bs[n]? with
    |none=>simp
    |some r=>simpa using h r (aO e)
   omega
 unfold au;rw[(JO _).length_eq];exact a bs.length
theorem vA(bs:List Bk):sR (au bs):=by
 unfold sR au;rw[(JO _).pairwise_iff (λh d=>h ⟨d.1.symm,d.2.symm⟩)]
 rw[rk,List.pairwise_filterMap];refine(JI bs bs.length).imp ?_;intro p q e x b y hy d;unfold oo at b hy;cases h1:dJ bs p.1 p.2 with
 |none=>rw[h1]at b;cases b
 |some a=>
  cases f:dJ bs q.1 q.2 with
  |none=>rw[f]at hy;cases hy
  |some c=>
   rw[h1]at b;rw[f]at hy;simp only[g9,fu]at b hy;subst b hy;simp only at d;exact e (qc (by omega) (by omega))
variable{bs:List Bk}
theorem sk(h:x∈au bs):x.fP.Right:=by
 obtain⟨b,l,-,-,-,-,a⟩:=Cn h;unfold dJ at a;split at a
 ·exact(Uw a).1
 ·cases a
theorem tE(h:x∈au bs):x.fP.kind=1∨x.fP.kind=2:=by
 rcases(sk h).1 with q|q
 ·exact .inl q.1
 ·exact .inr q.1
def da(ls:List (Int×ByteArray)):Nat:=ls.countP (λt=>t.1==0)
theorem zV(ls:List (Int×ByteArray)):da ls<=ls.length:=List.countP_le_length
theorem AH{t:Int×ByteArray}(b:ls[k]?=X t):da (ls.take (k+1))=da (ls.take k)+if t.1=0 then 1 else 0:=by
 obtain⟨h1,a⟩:=aB.1 b;rw[eY h1,a];unfold da;rw[ym];by_cases h:t.1=0<;>simp[h]
def lA(b:Bk):Bool:= !b.1&&decide (da b.2.2=b.2.2.length)
def fY(b:Bk):Bool:= !b.1&&decide (0<da b.2.2/\da b.2.2<b.2.2.length)
def iE(bs:List Bk):Nat->List Int
 |0=> []
 |k+1=>iE bs k++(match bs[k]? with|some b=>if lA b=iV then[(k:Int)]else[]|none=> [])
def jB(bs:List Bk):List Int:=iE bs bs.length
theorem OB{b:Bk}(a:bs[k]?=X b)(h:lA b=iV):iE bs (k+1)=iE bs k++[(k:Int)]:=by simp[iE,a,h]
theorem SM{b:Bk}(a:bs[k]?=X b)(h:lA b=iF):iE bs (k+1)=iE bs k:=by simp[iE,a,h]
theorem YP(bs:List Bk)(k:Nat):(iE bs k).length<=k:=by
 induction k with
 |zero=>exact am _
 |succ k a=>
  simp only[iE,aJ];split
  ·split<;>simp<;>omega
  ·simp;omega
theorem AR{x:Int}(h:x∈iE bs k):∃i:Nat,x=i/\i<k/\∃b,bs[i]?=X b/\lA b=iV:=by
 induction k with
 |zero=>cases h
 |succ k d=>
  simp only[iE,bG]at h;rcases h with h|h
  ·obtain⟨i,e,hi,r⟩:=d h;exact⟨i,e,by omega,r⟩
  ·cases a:bs[k]? with
   |none=>rw[a]at h;cases h
   |some b=>
    rw[a]at h;simp only at h;by_cases c:lA b=iV
    ·rw[ak c,bR]at h;exact⟨k,h,by omega,b,a,c⟩
    ·rw[aj c]at h;cases h
theorem YZ{b:Bk}(hi:i<k)(a:bs[i]?=X b)(c:lA b=iV):(i:Int)∈iE bs k:=by
 induction k with
 |zero=>omega
 |succ k d=>
  simp only[iE,bG];by_cases e:i=k
  ·subst e;right;rw[a];simp[c]
  ·exact Or.inl (d (by omega))
theorem OA(bs:List Bk)(k:Nat):(iE bs k).Pairwise (·<·):=by
 induction k with
 |zero=>exact List.Pairwise.nil
 |succ k g=>
  simp only[iE];refine iu.2 ⟨g,?_,λa f c d=>?_⟩
  ·split
   ·split
    ·exact mA _ _
    ·exact List.Pairwise.nil
   ·exact List.Pairwise.nil
  ·obtain⟨i,rfl,hi,-⟩:=AR f;cases e:bs[k]? with
   |none=>rw[e]at d;cases d
   |some b=>
    rw[e]at d;simp only at d;split at d
    ·rw[bR]at d;omega
    ·cases d
def ib(bs:List Bk):Int:=if bs.findIdx fY<bs.length then(bs.findIdx fY:Int)else-1
theorem Ww{b:Bk}(d:bs[k]?=X b)(h:fY b=iV)(g:∀(j:Nat) (c:Bk),j<k->bs[j]?=X c->fY c=iF):ib bs=k:=by
 obtain⟨h1,a⟩:=aB.1 d;have e:bs.findIdx fY=k:=by
  rw[List.findIdx_eq h1];refine⟨by rw[a];exact h,λj f=>?_⟩
  exact g j bs[j] f (ay (by omega))
 simp only[ib,e,ak h1]
theorem PH(d:∀(j:Nat) (c:Bk),bs[j]?=X c->fY c=iF):ib bs= -1:=by
 have e:bs.findIdx fY=bs.length:=by
  rw[y8];intro c a;obtain⟨j,b,rfl⟩:=oH a;exact d j bs[j] (ay b)
 simp only[ib,e];rw[aj (by omega)]
theorem Jo(bs:List Bk):(ib bs= -1/\∀(j:Nat) (c:Bk),bs[j]?=X c->fY c=iF)∨∃k b,ib bs=(k:Nat)/\bs[k]?=X b/\fY b=iV/\∀(j:Nat) (c:Bk),j<k->bs[j]?=X c->fY c=iF:=by
 by_cases h:bs.findIdx fY<bs.length
 ·right;refine⟨bs.findIdx fY,bs[bs.findIdx fY],by simp only[ib,ak h],ay h,CZ,λj c d a=>?_⟩
  obtain⟨h1,rfl⟩:=aB.1 a;have:=Fb d
  simpa using this
 ·left;refine⟨by simp only[ib,aj h],λj c a=>?_⟩
  have e:bs.findIdx fY=bs.length:=by have:=List.findIdx_le_length (xs:=bs) (p:=fY);omega
  rw[y8]at e;exact e c (aO a)
def ix(bs:List Bk):Nat->Nat
 |0=>0
 |k+1=>ix bs k+(match bs[k]? with|some b=>if b.1=iV then 0 else da b.2.2|none=>0)
def cK(bs:List Bk):Nat:=ix bs bs.length
theorem xe{b:Bk}(a:bs[k]?=X b)(h:b.1=iF):ix bs (k+1)=ix bs k+da b.2.2:=by simp[ix,a,h]
theorem Lu{b:Bk}(a:bs[k]?=X b)(h:b.1=iV):ix bs (k+1)=ix bs k:=by simp[ix,a,h]
theorem XK(a:∀b∈bs,b.2.2.length<=m)(k:Nat):ix bs k<=k*m:=by
 induction k with
 |zero=>exact aK _
 |succ k e=>
  rw[Nat.succ_mul];simp only[ix];cases c:bs[k]? with
  |none=>simp only;omega
  |some b=>
   have h1:=a b (aO c);have d:=zV b.2.2;simp only;split<;>omega
abbrev Wb:=Int×Int
abbrev gR(a b:Wb):Prop:=a.2<b.2∨a.2=b.2/\a.1<b.1
theorem Zy{a b c:Wb}(h:¬gR b a)(k:¬gR c b):¬gR c a:=by unfold gR at*;omega
theorem Vv{a b:Wb}(h:gR a b):¬gR b a:=by unfold gR at*;omega
theorem Yv{a b c:Wb}(h:¬gR c b)(k:gR a b):¬gR c a:=by unfold gR at*;omega
theorem xL(a:Wb):¬gR a a:=by unfold gR;omega
def kV(L:List Wb)(b:Wb):Prop:=b∈L/\∀x∈L,¬gR x b
theorem kV.eq{L:List Wb}{a b:Wb}(h:kV L a)(k:kV L b):a=b:=by
 have h1:=h.2 b k.1;have c:=k.2 a h.1;unfold gR at h1 c;exact qc (by omega) (by omega)
def sl:List Wb->Option Wb
 | []=>O
 |x::l=>match sl l with
  |none=>X x
  |some y=>if gR y x then X y else X x
theorem K8{L:List Wb}(h:L≠ []):∃b,sl L=X b/\kV L b:=by
 induction L with
 |nil=>exact absurd rfl h
 |cons x l g=>
  by_cases e:l=[]
  ·subst e;exact⟨x,rfl,bR.2 rfl,λy hy=>by rw[bR]at hy;subst hy;exact xL _⟩
  ·obtain⟨y,h1,f,d⟩:=g e;by_cases a:gR y x
   ·refine⟨y,by simp only[sl,h1,ak a],rp _ f,λz c=>?_⟩
    rcases aX.1 c with rfl|c
    ·exact Vv a
    ·exact d z c
   ·refine⟨x,by simp only[sl,h1,aj a],lD,λz c=>?_⟩
    rcases aX.1 c with rfl|c
    ·exact xL _
    ·exact Zy a (d z c)
theorem kV.is{L:List Wb}{b:Wb}(h:kV L b):sl L=X b:=by
 obtain⟨c,h1,a⟩:=K8 (L:=L) (λe=>by subst e;cases h.1)
 rw[h1,h.eq a]
def uj(bs:List Bk)(i:Int):Int:=match bs[i.toNat]? with|some b=>b.2.1|none=>0
def mX(bs:List Bk)(l:List Int):List Wb:=l.map (λi=>(i,uj bs i))
def Gl(bs:List Bk)(i:Int):List (Int×ByteArray):=match bs[i.toNat]? with|some b=>b.2.2|none=> []
def gy(bs:List Bk):Int×Int×Bool:=
 if bo bs then
  if 0<=ib bs then(ib bs,(br (Gl bs (ib bs)):Nat),iV)
  else match sl (mX bs (jB bs))with
   |some b=>(b.1,0,iV)
   |none=>(0,0,iF)
 else(0,0,iF)
theorem Xz(h:bo bs=iF):gy bs=(0,0,iF):=by unfold gy;rw[h];rfl
theorem JH{b:Bk}(h:bo bs=iV)(c:ib bs=k)(a:bs[k]?=X b):gy bs=((k:Int),((br b.2.2:Nat):Int),iV):=by
 unfold gy Gl;rw[h,c,ak rfl,ak (by omega),bk,a]
theorem FQ{r:Wb}(h:bo bs=iV)(a:ib bs= -1)(b:kV (mX bs (jB bs)) r):gy bs=(r.1,0,iV):=by
 unfold gy;rw[h,a,ak rfl,aj (by omega),b.is]
theorem Iv(h:bo bs=iV)(a:ib bs= -1)(b:jB bs=[]):gy bs=(0,0,iF):=by
 unfold gy;rw[h,a,ak rfl,aj (by omega),b]
 rfl
theorem Mj(h:bo bs=iV):3<=bs.length/\bs.length<=10:=by
 simp only[bo,bn,bH]at h;exact h.1
theorem EB(h:0<da ls):br ls<ls.length/\∃t,ls[br ls]?=X t/\t.1=0:=by
 have h1:∃t∈ls,(t.1==0)=iV:=by
  unfold da at h;exact List.countP_pos_iff.1 h
 have a:ls.findIdx (λt=>t.1==0)<ls.length:=List.findIdx_lt_length.2 h1
 have e:br ls=ls.findIdx (λt=>t.1==0):=by simp only[br];rw[ak a]
 have b:=CZ (w:=a);rw[e];exact⟨a,_,ay a,by simpa using b⟩
theorem PK(h:da ls=ls.length)(a:0<ls.length):br ls=0:=by
 unfold da at h;rw[List.countP_eq_length]at h;have h0:ls[0]?=X ls[0]:=ay a;exact Ah h0 (by simpa using h _ (aO h0)) (λj u b=>by omega)
theorem NT{t:Int×ByteArray}(a:ls[j]?=X t)(h0:t.1=0)(x:ByteArray):da (ls.set j (1,x))+1=da ls:=by
 obtain⟨b,e⟩:=aB.1 a;have c:0<da ls:=by
  unfold da;exact List.countP_pos_iff.2 ⟨t,aO a,by simp[h0]⟩
 unfold da at*;rw[List.countP_set b,e];simp[h0];omega
variable{f:Bk -> Bk}
theorem UY{b:Bk}(g:bs[k]?=X b)(h1:(f b).1=iF)(i:b.1=iF)(j:da (f b).2.2+1=da b.2.2)(n:Nat):ix (bs.modify k f) n+(if k<n then 1 else 0)=ix bs n:=by
 induction n with
 |zero=>simp[ix]
 |succ n d=>
  by_cases e:k=n
  ·subst e;have a:(bs.modify k f)[k]?=X (f b):=by rw[rz,g];simp
   rw[xe a h1,xe g i,ak (by omega)]
   rw[aj (by omega)]at d
   omega
  ·have a:(bs.modify k f)[n]?=bs[n]?:=by
    rw[rz];cases bs[n]? with
    |none=>rfl
    |some c=>simp[e]
   simp only[ix,a];by_cases h:k<n
   ·rw[ak h]at d;rw[ak (by omega)]
    omega
   ·rw[aj h]at d;rw[aj (by omega)]
    omega
theorem aak(h:∀(i:Nat) (b:Bk),bs[i]?=X b->b.1=iV∨da b.2.2=0)(n:Nat):ix bs n=0:=by
 induction n with
 |zero=>rfl
 |succ n c=>
  simp only[ix,c];cases a:bs[n]? with
  |none=>rfl
  |some b=>
   simp only;rcases h n b a with h|h
   ·simp[h]
   ·simp[h]
theorem Gs{b:Bk}(a:bs[k]?=X b)(h1:b.1=iF)(d:0<da b.2.2)(n:Nat)(f:k<n):0<ix bs n:=by
 induction n with
 |zero=>omega
 |succ n c=>
  by_cases e:k=n
  ·subst e;rw[xe a h1];omega
  ·have:=c (by omega)
   simp only[ix];omega
theorem Lq(j:bo bs=iV)(h4:∀b∈bs,b.2.2.length=4):
 (gy bs=(0,0,iF)/\cK bs=0/\ib bs= -1/\jB bs=[])∨
 ∃(k:Nat) (b:Bk),bs[k]?=X b/\b.1=iF/\br b.2.2<4/\(∃t,b.2.2[br b.2.2]?=X t/\t.1=0)/\gy bs=((k:Int),((br b.2.2:Nat):Int),iV)/\0<cK bs/\(ib bs=(k:Int)∨ib bs= -1/\(k:Int)∈jB bs):=by
 rcases Jo bs with⟨h,q⟩|⟨k,b,h,c,u,-⟩
 ·by_cases l:jB bs=[]
  ·left;refine⟨Iv j h l,aak (λi b c=>?_) _,h,l⟩
   have h1:=q i b c;have m:lA b=iF:=by
    cases B:lA b with
    |false=>rfl
    |true=>
     have:=YZ (k:=bs.length) (aB.1 c).1 c B;change (i:Int)∈jB bs at this;rw[l]at this;cases this
   unfold fY at h1;unfold lA at m;have C:=zV b.2.2;cases o:b.1 with
   |true=>exact Or.inl rfl
   |false=>
    right;rw[o]at h1 m;simp at h1 m;omega
  ·right;obtain⟨r,-,v⟩:=K8 (L:=mX bs (jB bs)) (λe=>l (by simpa[mX]using e))
   obtain⟨x,w,e⟩:=bJ.1 v.1;obtain⟨p,y,A,b,c,d⟩:=AR w;subst y;have f:=h4 b (aO c);unfold lA at d;simp only[bn,ng,bH]at d;have g:0<da b.2.2:=by rw[d.2,f];omega
   have s:=PK d.2 (by omega)
   obtain⟨z,n⟩:=EB g;refine⟨p,b,c,d.1,by omega,n,?_,Gs c d.1 g _ A,Or.inr ⟨h,w⟩⟩
   rw[FQ j h v,s,<-e];rfl
 ·right;have f:=h4 b (aO c);have a:=u;unfold fY at a;simp only[bn,ng,bH]at a;obtain⟨z,n⟩:=EB a.2.1;exact⟨k,b,c,a.1,by omega,n,JH j h c,Gs c a.1 a.2.1 _ (aB.1 c).1,Or.inl h⟩
theorem M5{b:Bk}(c:bo bs=iV)(a:bs[k]?=X b)(h1:b.1=iF)(l:br b.2.2<4)(i:∃t,b.2.2[br b.2.2]?=X t/\t.1=0)(e:1<=t.size)(g:t.size<=120):
 gM bs (k:Int) ((br b.2.2:Nat):Int) t=(jM bs k (br b.2.2) t,iV)/\cK (jM bs k (br b.2.2) t)+1=cK bs:=by
 have h:iM bs (k:Int) ((br b.2.2:Nat):Int) t=iV:=by
  unfold iM;rw[bk,a];exact aW ⟨by omega,h1,by omega,rfl,e,g⟩
 refine⟨?_,?_⟩
 ·unfold gM;rw[c,h];rw[Bool.and_self,ak rfl,bk,bk]
 ·obtain⟨u,j,d⟩:=i;have:=UY (f:=λr=>(r.1,r.2.1,r.2.2.set (br b.2.2) (1,t))) a h1 h1 (NT j d t) bs.length
  rw[ak (aB.1 a).1]at this;unfold cK jM;rw[wR];exact this
end Go.Proofs.YtgigcooffjjbgaaGreatDoor
