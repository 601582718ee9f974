/-
  StMath; ScM; ScM2; TMath; ZMath; ChM; RoMath; HpMath; PlMath; PoMath
-/
import Derived.Test.YtijmbohadndfmaaGreatDoorPk1
open Go.Value renaming int→I,string→iT,agg→iA
open Go.IntKind renaming i64→J
open Option renaming none→O,some→X
open Bool renaming true→iV,false→iF
open Go renaming Value→iX
namespace Go.Proofs.YtijmbohadndfmaaGreatDoor
abbrev aM:=Int×Int×Int×ByteArray
def xg(s:aM):iX:=iA #[I J s.1,I J s.2.1,I J s.2.2.1,iT s.2.2.2]
def cP(bs:List Bk)(s:aM):List Bk×Bool:=if s.1=1 then fY bs s.2.1 s.2.2.1 s.2.2.2 else if s.1=2 then gx bs s.2.1 else(bs,iF)
def da:List Bk->List aM->List Bk×Nat
 |bs,[]=>(bs,0)
 |bs,s::l=>if (cP bs s).2 then((da (cP bs s).1 l).1,(da (cP bs s).1 l).2+1)else(bs,0)
variable{α:Type}{t:ByteArray}{i k n j:Nat}
variable{bs:List Bk}
theorem J8{c:List Bk}{l m:List aM}(h:da bs l=(c,l.length)):da bs (l++m)=((da c m).1,l.length+(da c m).2):=by
 induction l generalizing bs with
 |nil=>
  simp only[da]at h;cases h;simp
 |cons s l d=>
  simp only[da,aR]at h;by_cases hs:(cP bs s).2=iV
  ·rw[aj hs]at h;have h1:da (cP bs s).1 l=(c,l.length):=by
    have b:=congrArg Prod.fst h;have a:=congrArg Prod.snd h;simp only at b a;exact pV b (by simp only;omega)
   rw[jf,da,aj hs,d h1];simp only[aR];congr 1;omega
  ·rw[ai hs]at h;have a:=congrArg Prod.snd h;simp at a
theorem JS(bs:List Bk)(s:aM):da bs [s]=if (cP bs s).2 then((cP bs s).1,1)else(bs,0):=by
 simp only[da]
theorem WT{b:List Bk}{l:List aM}{s:aM}(h:da bs (l.take i)=(b,i))(hs:l[i]?=X s)(d:(cP b s).2=iV):da bs (l.take (i+1))=((cP b s).1,i+1):=by
 obtain⟨h1,rfl⟩:=aD.1 hs;have a:(l.take i).length=i:=by rw[dk];omega
 rw[ge h1,J8 (c:=b) (by rw[a];exact h),JS,aj d,a]
theorem QM{b:List Bk}{l:List aM}{s:aM}(h:da bs (l.take i)=(b,i))(hs:l[i]?=X s)(d:(cP b s).2=iF):da bs l=(b,i):=by
 obtain⟨h1,rfl⟩:=aD.1 hs;have a:(l.take i).length=i:=by rw[dk];omega
 have e:l=l.take i++(l[i]::l.drop (i+1)):=by rw[<-gj h1,jP]
 rw[e,J8 (c:=b) (by rw[a];exact h),da,ai (by rw[d];simp),a]
 rfl
theorem Uz{b:List Bk}{l:List aM}(h:da bs (l.take i)=(b,i))(hi:i=l.length):da bs l=(b,l.length):=by
 subst hi;rw[cm (ak _)]at h;exact h
theorem RU{s:aM}(h:(cP bs s).2=iV):∃(k:Nat) (r:Bk),s.2.1=k/\bs[k]?=X r/\r.2.2.length=4/\(s.1=1∨s.1=2)/\(s.1=1->∃j:Nat,s.2.2.1=j/\j<4/\j=bm r.2.2/\1<=s.2.2.2.size/\s.2.2.2.size<=120)/\bn bs=iV/\r.1=iF:=by
 have gJ:∀r∈bs,bn bs=iV->r.2.2.length=4:=by
  intro r e h;simp only[bn,bt,gy]at h;have b:=h.2 r e;simp only[di,bt,bW]at b;exact b.1.1
 unfold cP at h;by_cases h1:s.1=1
 ·rw[aj h1]at h;unfold fY at h;split at h
  ·rename_i b
   rw[bt]at b;obtain⟨d,a⟩:=b;unfold ij at a;cases c:bs[s.2.1.toNat]? with
   |none=>rw[c]at a;cases a
   |some r=>
    rw[c]at a;have a:=qc a;exact⟨s.2.1.toNat,r,by omega,c,gJ r (aH c) d,Or.inl h1,λ_=>⟨bm r.2.2,a.2.2.2.1,by omega,rfl,a.2.2.2.2.1,a.2.2.2.2.2⟩,d,a.2.1⟩
  ·cases h
 ·rw[ai h1]at h;by_cases b:s.1=2
  ·rw[aj b]at h;unfold gx at h;split at h
   ·rename_i h3
    rw[bt]at h3;obtain⟨d,a⟩:=h3;unfold qw at a;cases c:bs[s.2.1.toNat]? with
    |none=>rw[c]at a;cases a
    |some r=>
     rw[c]at a;have a:=qc a;exact⟨s.2.1.toNat,r,by omega,c,gJ r (aH c) d,Or.inr b,λh=>absurd h h1,d,a.2.1⟩
   ·cases h
  ·rw[ai b]at h;cases h
open Words Sums
def me(x:aq):List aq->List aq
 | []=> [x]
 |y::l=>if x.key<y.key then x::y::l else y::me x l
def lw(l:List aq):List aq:=l.foldl (λm x=>me x m) []
theorem Wn{x y:aq}{l:List aq}:y∈me x l↔y=x∨y∈l:=by
 induction l with
 |nil=>simp[me]
 |cons z l a=>
  unfold me;split
  ·simp
  ·simp only[bf,a];constructor
   ·rintro(h|h|h)
    ·exact .inr (.inl h)
    ·exact .inl h
    ·exact .inr (.inr h)
   ·rintro(h|h|h)
    ·exact .inr (.inl h)
    ·exact .inl h
    ·exact .inr (.inr h)
theorem Rg{x:aq}{l:List aq}(h:Asc l):Asc (me x l):=by
 induction l with
 |nil=>exact mA _ _
 |cons z l a=>
  have h1:=gK.1 h;unfold me;split
  ·rename_i hx
   refine gK.2 ⟨?_,h⟩;intro y hy;rcases bf.1 hy with e|e
   ·subst e;omega
   ·have:=h1.1 y e;omega
  ·rename_i hx
   refine gK.2 ⟨?_,a h1.2⟩;intro y hy;rcases Wn.1 hy with e|e
   ·subst e;omega
   ·exact h1.1 y e
theorem Re{x:aq}{l:List aq}(h:Asc l):Akin (me x l) (l++[x]):=by
 intro c
 induction l with
 |nil=>rfl
 |cons z l d=>
  have h1:=gK.1 h;unfold me;split
  ·rename_i hx
   rw[iD];by_cases e:x.key=c
   ·have b:(z::l).filter (λy=>y.key==c)=[]:=by
     rw[mt];intro y hy;rcases bf.1 hy with q|q
     ·subst q;simp;omega
     ·have:=h1.1 y q;simp;omega
    rw[b,nN (by simpa using e),b,nN (by simpa using e)]
    rfl
   ·rw[qR (a:=x) (by simpa using e),qR (a:=x) (l:=[]) (by simpa using e)]
    simp
  ·rw[jf];by_cases e:z.key=c
   ·rw[nN (by simpa using e),nN (by simpa using e),d h1.2]
   ·rw[qR (by simpa using e),qR (by simpa using e),d h1.2]
theorem As(l:List aq)(x:aq):lw (l++[x])=me x (lw l):=by simp[lw,List.foldl_append]
theorem Bc{P:List α->Prop}(h0:P [])(h1:∀l r,P l->P (l++[r])):∀l,P l:=by
 intro l;have:∀m:List α,P m.reverse:=by
  intro m
  induction m with
  |nil=>simpa using h0
  |cons a m b=>rw[List.reverse_cons];exact h1 _ _ b
 simpa using this l.reverse
theorem vW(l:List aq):Asc (lw l):=by
 induction l using Bc with
 |h0=>exact List.Pairwise.nil
 |h1 l x ih=>rw[As];exact Rg ih
theorem vN(l:List aq):Akin l (lw l):=by
 induction l using Bc with
 |h0=>exact Akin.refl _
 |h1 l x ih=>
  rw[As];exact(ih.app (Akin.refl [x])).trans (Re (vW l)).symm
theorem Co{l m:List aq}(h:Akin l m)(a:Asc m):m=lw l:=(h.symm.trans (vN l)).eq a (vW l)
theorem A7(l:List aq)(x:aq):x∈lw l↔x∈l:=((vN l).mem x).symm
theorem Words.Asc.sub{l m:List aq}(h:Asc l)(hs:m.Sublist l):Asc m:=zY hs h
theorem Words.Akin.filter{l m:List aq}(h:Akin l m)(p:aq->Bool):Akin (l.filter p) (m.filter p):=λc=>by
 have e:∀k:List aq,(k.filter p).filter (λx=>x.key==c)=(k.filter (λx=>x.key==c)).filter p:=λk=>by
  rw[vh,vh];congr 1;funext x;exact uF _ _
 rw[e,e,h c]
theorem MX(l:List aq)(p:aq->Bool):lw (l.filter p)=(lw l).filter p:=
 (Co ((vN l).filter p) ((vW l).sub sS)).symm
def aw(bs:List Bk):List aq:=lw (gH bs bs.length)
variable{M:List aq}
theorem Vd(a:Asc M)(b:Akin (gH bs bs.length) M):M=aw bs:=Co b a
def kI(bs:List Bk)(b:Nat):Nat:=(bs[b]?).map (λr=>r.2.2.length)|>.getD 0
def n8(b k:Nat):List (Nat×Nat):=(List.range k).map (λj=>(b,j))
def nj(bs:List Bk)(n:Nat):List (Nat×Nat):=(List.range n).flatMap (λb=>n8 b (kI bs b))
def nI(bs:List Bk)(q:Nat×Nat):Option aq:=(fs bs q.1 q.2).map (λp=>⟨q.1,q.2,p⟩)
theorem Fi(b k:Nat):n8 b (k+1)=n8 b k++[(b,k)]:=by simp[n8,List.range_succ]
theorem JP(bs:List Bk)(n:Nat):nj bs (n+1)=nj bs n++n8 n (kI bs n):=by simp[nj,List.range_succ,List.flatMap_append]
theorem Qv(bs:List Bk)(b k:Nat):kw bs b k=(n8 b k).filterMap (nI bs):=by
 induction k with
 |zero=>rfl
 |succ k a=>
  rw[Fi,nh,kw,a];congr 1;cases h:fs bs (b:Int) (k:Int)with
  |none=>simp[nI,h]
  |some p=>simp[nI,h]
theorem ry(bs:List Bk)(n:Nat):gH bs n=(nj bs n).filterMap (nI bs):=by
 induction n with
 |zero=>rfl
 |succ n a=>
  rw[JP,nh,gH,a,Qv];rfl
theorem wV{b:Nat}{q:Nat×Nat}:q∈n8 b k↔q.1=b/\q.2<k:=by
 simp only[n8,bF,ju];constructor
 ·rintro⟨j,a,rfl⟩;exact⟨rfl,a⟩
 ·rintro⟨rfl,h⟩;exact⟨q.2,h,rfl⟩
theorem Ar{q:Nat×Nat}:q∈nj bs n↔q.1<n/\q.2<kI bs q.1:=by
 simp only[nj,lE,ju];constructor
 ·rintro⟨b,c,d⟩;obtain⟨rfl,h⟩:=wV.1 d;exact⟨c,h⟩
 ·rintro⟨h1,a⟩;exact⟨q.1,h1,wV.2 ⟨rfl,a⟩⟩
theorem Ph(b k:Nat):(n8 b k).Nodup:=by
 induction k with
 |zero=>exact List.nodup_nil
 |succ k c=>
  rw[Fi,Cc];refine⟨c,by simp,?_⟩
  intro x a y hy;rw[bT]at hy;subst hy;have:=(wV.1 a).2;intro e;rw[e]at this;simp at this
theorem GN(bs:List Bk)(n:Nat):(nj bs n).Nodup:=by
 induction n with
 |zero=>exact List.nodup_nil
 |succ n b=>
  rw[JP,Cc];refine⟨b,Ph _ _,?_⟩;intro x a y hy e;have h1:=(Ar.1 a).1;have c:=(wV.1 hy).1;rw[e]at h1;omega
theorem oH{β:Type}{f g:α->Option β}:∀{l:List α},(∀x∈l,f x=g x)->l.filterMap f=l.filterMap g
 | [],_=>rfl
 |a::l,h=>by rw[pW,pW,h a (by simp),oH (λx b=>h x (by simp[b]))]
theorem Ok{L:List α}(i:L.Nodup){f g:α->Option aq}{q:α}{x:aq}(o:q∈L)(h0:f q=O)(h1:g q=X x)(hs:∀p∈L,p≠q->g p=f p)(j:∀y∈L.filterMap f,y.key<x.key):
 lw (L.filterMap g)=lw (L.filterMap f)++[x]:=by
 obtain⟨A,B,rfl⟩:=List.append_of_mem o;rw[Cc,List.nodup_cons]at i;have m:A.filterMap g=A.filterMap f:=oH (λp c=>hs p (by simp[c]) (λe=>i.2.2 p c q (by simp) e))
 have n:B.filterMap g=B.filterMap f:=oH (λp c=>hs p (by simp[c]) (λe=>i.2.1.1 (e▸c)))
 have l:(A++q::B).filterMap g=A.filterMap f++([x]++B.filterMap f):=by
  rw[nh,pW,h1,m,n];rfl
 have k:(A++q::B).filterMap f=A.filterMap f++B.filterMap f:=by
  rw[nh,pW,h0]
 rw[k]at j;rw[l,k]
 symm
 apply Co
 ·refine Akin.trans ?_ ((vN _).app (Akin.refl [x]));rw[fJ];refine(Akin.refl _).app (Akin.flip ?_);intro a d b h;rw[bT]at d;subst d;have:=j b (xI _ h);omega
 ·refine(vW _).app (mA _ _) ?_;intro a d b h;rw[bT]at h;subst h;have:=j a ((A7 _ _).1 d);omega
variable{cs:List Bk}
theorem GO(h:∀b,kI bs b=kI cs b)(n:Nat):nj bs n=nj cs n:=by
 unfold nj;congr 1;funext b;rw[h b]
theorem xf{l:List α}(f:α->α)(h:i≠j):(l.modify i f)[j]?=l[j]?:=by
 rw[rA];simp[h]
theorem O4{b l:Nat}{r:Bk}(t:ByteArray)(c:bs[b]?=X r)(d:l<r.2.2.length)(i k:Nat):eh (jG bs b l t) (i:Int) (k:Int)=if i=b/\k=l then(t,iV)else eh bs (i:Int) (k:Int):=by
 unfold eh jG;rw[aZ];by_cases e:i=b
 ·subst e;rw[xN,c];simp only[Option.map_eq_map,kg,aZ];by_cases a:k=l
  ·subst a;rw[ku d];simp
  ·rw[lZ (λh=>a h.symm)]
   simp[a]
 ·rw[xf _ (λh=>e h.symm),ai (λh=>e h.1)]
theorem IX{b l:Nat}{r:Bk}(t:ByteArray)(a:bs[b]?=X r)(c:l<r.2.2.length)(i k:Nat):fs (jG bs b l t) i k=if i=b/\k=l then kQ t else fs bs i k:=by
 unfold fs;rw[O4 t a c];by_cases h:i=b/\k=l
 ·rw[aj h,aj h];rfl
 ·rw[ai h,ai h]
theorem Rr(bs:List Bk)(b l:Nat)(t:ByteArray)(i:Nat):kI (jG bs b l t) i=kI bs i:=by
 unfold kI jG;by_cases e:b=i
 ·subst e;rw[xN];cases h:bs[b]?<;>simp
 ·rw[xf _ e]
variable{p:Pg}
theorem QO{b l:Nat}{r:Bk}(c:bs[b]?=X r)(d:l<r.2.2.length)(f:fs bs b l=O)(g:kQ t=X p)(e:∀y∈aw bs,y.key<p.seq):
 aw (jG bs b l t)=aw bs++[⟨b,l,p⟩]:=by
 have a:(jG bs b l t).length=bs.length:=by simp[jG]
 unfold aw at e⊢;rw[a,ry,ry,GO (Rr bs b l t)];refine Ok (GN bs bs.length) (q:=(b,l)) (Ar.2 ⟨(aD.1 c).1,?_⟩) ?_ ?_ ?_ ?_
 ·show l<kI bs b;rw[kI,c];exact d
 ·simp[nI,f]
 ·simp only[nI];rw[IX t c d,aj ⟨rfl,rfl⟩,g];rfl
 ·intro q _ i;simp only[nI];rw[IX t c d,ai (λh=>i (pV h.1 h.2))]
 ·intro y hy;rw[<-ry]at hy;exact e y ((A7 _ _).2 hy)
theorem Tf{b:Nat}(c:∀i,kI cs i=kI bs i)(a:cs.length=bs.length)(h0:∀k:Nat,fs cs b k=O)(h1:∀i k,i≠b->fs cs (i:Nat) (k:Nat)=fs bs i k):
 aw cs=(aw bs).filter (λx=> !decide (x.block=(b:Int))):=by
 unfold aw;rw[<-MX,a,ry,ry,GO c];congr 1;rw[K7];apply oH;intro q _;simp only[nI];by_cases e:q.1=b
 ·rw[e,h0];cases fs bs (b:Int) (q.2:Int)with
  |none=>rfl
  |some p=>simp[Option.filter]
 ·rw[h1 _ _ e];cases fs bs (q.1:Int) (q.2:Int)with
  |none=>rfl
  |some p=>
   have:¬((q.1:Int)=(b:Int)):=by omega
   simp[Option.filter,this]
theorem Fq(bs:List Bk)(b:Nat)(x:Bool)(n:Int)(h:bs[b]?=X (x,n,eK))(k:Nat):fs bs b k=O:=by
 unfold fs;have:(eh bs (b:Int) (k:Int)).2=iF:=by
  unfold eh;rw[aZ,h];simp only[aZ];cases e:eK[k]? with
  |none=>rfl
  |some t=>
   have a:=aH e;have:t.1=0:=by
    simp only[eK,bf,dV,ez]at a;rcases a with rfl|rfl|rfl|rfl<;>rfl
   simp[this]
 rw[this];rfl
theorem US{b:Nat}{r:Bk}(a:bs[b]?=X r)(c:r.2.2.length=4):
 aw (bs.modify b (λr=>(iF,r.2.1+1,eK)))=(aw bs).filter (λx=> !decide (x.block=(b:Int))):=by
 refine Tf ?_ (by simp) ?_ ?_
 ·intro i;unfold kI;by_cases e:b=i
  ·subst e;rw[xN,a];simp[c,eK]
  ·rw[xf _ e]
 ·intro k;refine Fq _ b iF (r.2.1+1) ?_ k;rw[xN,a];rfl
 ·intro i k hi;unfold fs;have:eh (bs.modify b (λr=>(iF,r.2.1+1,eK))) (i:Int) (k:Int)=eh bs (i:Int) (k:Int):=by
   unfold eh;rw[aZ,xf _ (λh=>hi h.symm)]
  rw[this]
theorem Jr{x:aq}(h:x∈aw bs):∃b l:Nat,x.block=b/\x.leaf=l/\b<bs.length/\l<kI bs b/\fs bs b l=X x.fP:=by
 unfold aw at h;rw[A7,ry,uk]at h;obtain⟨q,d,e⟩:=h;have c:=Ar.1 d;simp only[nI]at e;cases a:fs bs (q.1:Int) (q.2:Int)with
 |none=>rw[a]at e;cases e
 |some p=>
  rw[a]at e;simp only[kg,fu]at e;subst e;exact⟨q.1,q.2,rfl,rfl,c.1,c.2,a⟩
end Go.Proofs.YtijmbohadndfmaaGreatDoor
namespace Go.Proofs.YtijmbohadndfmaaGreatDoor.Pack
def dh:Nat->List UInt8->List UInt8->Nat
 |0,_,_=>0
 |f+1,a::al,b::bs=>if a=b then dh f al bs+1 else 0
 |_+1,_,_=>0
theorem Ir(f:Nat)(a b:List UInt8):dh f a b<=f/\dh f a b<=b.length:=by
 induction f generalizing a b with
 |zero=>simp[dh]
 |succ f d=>
  cases a with
  |nil=>simp[dh]
  |cons x c=>
   cases b with
   |nil=>simp[dh]
   |cons y bs=>
    unfold dh;split
    ·have:=d c bs;simp only[aR];omega
    ·simp
theorem Pa(f:Nat)(a b:List UInt8)(i:Nat)(h:i<dh f a b):a[i]?=b[i]?/\i<b.length:=by
 induction f generalizing a b i with
 |zero=>simp[dh]at h
 |succ f d=>
  cases a with
  |nil=>simp[dh]at h
  |cons x c=>
   cases b with
   |nil=>simp[dh]at h
   |cons y bs=>
    unfold dh at h;split at h
    ·rename_i e
     subst e;cases i with
     |zero=>simp
     |succ i=>
      have:=d c bs i (by omega)
      simp only[qY,aR];exact⟨this.1,by omega⟩
    ·omega
def cB(s:List UInt8)(a:Nat):Nat->Nat×Nat
 |0=>(0,0)
 |k+1=>if 4<=dh 31 (s.drop (a-(k+1))) (s.drop a)/\(cB s a k).1<dh 31 (s.drop (a-(k+1))) (s.drop a)then(dh 31 (s.drop (a-(k+1))) (s.drop a),k+1)else cB s a k
theorem Lw(s:List UInt8)(a k:Nat):cB s a k=(0,0)∨(4<=(cB s a k).1/\(cB s a k).1<=31/\0<(cB s a k).2/\(cB s a k).2<=k/\(cB s a k).1=dh 31 (s.drop (a-(cB s a k).2)) (s.drop a)):=by
 induction k with
 |zero=>left;rfl
 |succ k b=>
  unfold cB;split
  ·rename_i h
   right;have:=(Ir 31 (s.drop (a-(k+1))) (s.drop a)).1;exact⟨h.1,this,Nat.succ_pos k,ak _,rfl⟩
  ·rcases b with h|h
   ·left;exact h
   ·right;exact⟨h.1,h.2.1,h.2.2.1,by omega,h.2.2.2.2⟩
def stepT(s:List UInt8)(a:Nat×List (Nat×Nat×List UInt8)):Nat×List (Nat×Nat×List UInt8):=
 if 0<(cB s a.1 a.1).1 then(a.1+(cB s a.1 a.1).1,a.2++[((cB s a.1 a.1).2,(cB s a.1 a.1).1,[])])
 else match a.2.getLast? with
  |some (0,z,t)=>if t.length<31 then(a.1+1,a.2.dropLast++[(0,z,t++[s.getD a.1 0])])else(a.1+1,a.2++[(0,0,[s.getD a.1 0])])
  |_=>(a.1+1,a.2++[(0,0,[s.getD a.1 0])])
def dQ:Nat->List UInt8->Nat×List (Nat×Nat×List UInt8)
 |0,_=>(0,[])
 |n+1,s=>if (dQ n s).1<s.length then stepT s (dQ n s)else dQ n s
def kU(s:List UInt8):List (Nat×Nat×List UInt8):=(dQ s.length s).2
def mu:Nat->Nat->List UInt8->List UInt8
 |0,_,out=>out
 |n+1,back,out=>mu n back (out++[out.getD (out.length-back) 0])
def jF(a:Nat)(t:Nat×Nat×List UInt8):Prop:=if t.1=0 then(1<=t.2.2.length/\t.2.2.length<=31/\t.2.1=0)else(t.1<=a/\1<=t.2.1/\t.2.1<=31/\t.2.2=[])
abbrev Ya(a:Nat)(t:Nat×Nat×List UInt8):Decidable (jF a t):=by unfold jF;exact inferInstance
def kO(a:List UInt8)(t:Nat×Nat×List UInt8):List UInt8:=if t.1=0 then a++t.2.2 else mu t.2.1 t.1 a
def lB(a:List UInt8):List (Nat×Nat×List UInt8)->Option (List UInt8)
 | []=>X a
 |t::r=>letI:=Ya a.length t;if jF a.length t then(if (kO a t).length<=64 then lB (kO a t) r else O)else O
def plain(l:List (Nat×Nat×List UInt8)):Option (List UInt8):=lB [] l
theorem Iv(c:List UInt8)(a b:List (Nat×Nat×List UInt8)):lB c (a++b)=(lB c a).bind λo=>lB o b:=by
 induction a generalizing c with
 |nil=>rfl
 |cons t a d=>
  simp only[jf,lB];split
  ·split
   ·exact d _
   ·rfl
  ·rfl
theorem yT(a:List (Nat×Nat×List UInt8))(t:Nat×Nat×List UInt8)(o:List UInt8)(h:plain a=X o)(h1:jF o.length t)(b:(kO o t).length<=64):plain (a++[t])=X (kO o t):=by
 unfold plain at*;rw[Iv,h];simp only[kV,lB];rw[aj h1,aj b]
theorem VD(s:List UInt8)(a b n:Nat)(g:0<b)(j:b<=a)(h:∀i,i<n->s[a-b+i]?=s[a+i]?/\a+i<s.length):mu n b (s.take a)=s.take (a+n):=by
 induction n generalizing a with
 |zero=>rfl
 |succ n f=>
  have h0:=h 0 (by omega)
  have d:a<s.length:=by have:=h0.2;omega
  have c:(s.take a).length=a:=by rw[dk];omega
  have e:s.take a++[(s.take a).getD ((s.take a).length-b) 0]=s.take (a+1):=by
   rw[ge d,c];congr 2;rw[om,List.getElem?_take_of_lt (by omega)]
   have:=h0.1;simp only[oh]at this;rw[this,ay d];rfl
  unfold mu;rw[e,f (a+1) (by omega) (λi hi=>by
   have:=h (i+1) (by omega)
   rw[show a+1-b+i=a-b+(i+1)by omega,show a+1+i=a+(i+1)by omega]
   exact this),show a+1+n=a+(n+1)by omega]
def tH(s:List UInt8)(a:Nat×List (Nat×Nat×List UInt8)):Prop:=a.1<=s.length/\plain a.2=X (s.take a.1)/\∀t∈a.2,t.1=0∨4<=t.2.1
theorem Za(a:List (Nat×Nat×List UInt8))(t:Nat×Nat×List UInt8)(o:List UInt8)(h:plain (a++[t])=X o):∃b,plain a=X b/\jF b.length t/\kO b t=o:=by
 unfold plain at*;rw[Iv]at h;cases c:lB [] a with
 |none=>rw[c]at h;cases h
 |some b=>
  rw[c]at h;simp only[kV,lB]at h;split at h
  ·split at h
   ·rename_i h1 h2
    cases h;exact⟨b,rfl,h1,rfl⟩
   ·cases h
  ·cases h
theorem Ev(s:List UInt8)(k:Nat)(h:k<s.length):s.take k++[s.getD k 0]=s.take (k+1):=by
 rw[ge h,om,ay h];rfl
theorem Ea(s:List UInt8)(k:Nat)(a:List (Nat×Nat×List UInt8))(hs:s.length<=64)(c:k<s.length)(h:tH s (k,a)):tH s (k+1,a++[(0,0,[s.getD k 0])]):=by
 refine⟨c,?_,?_⟩
 ·have d:=yT a (0,0,[s.getD k 0]) _ h.2.1 (by simp[jF]) (by simp[kO];omega)
  rw[d];simp only[kO,cW];exact congrArg X (Ev s k c)
 ·intro t e;rcases br.1 e with b|b
  ·exact h.2.2 t b
  ·simp at b;subst b;left;rfl
theorem Vs(s:List UInt8)(f:Nat×List (Nat×Nat×List UInt8))(hs:s.length<=64)(l:f.1<s.length)(h:tH s f):tH s (stepT s f)/\f.1<(stepT s f).1:=by
 obtain⟨k,d⟩:=f;unfold stepT;simp only;split
 ·rename_i hb
  rcases Lw s k k with h0|⟨h4,p,q,g,C⟩
  ·rw[h0]at hb;simp at hb
  ·have b:∀i,i<(cB s k k).1->s[k-(cB s k k).2+i]?=s[k+i]?/\k+i<s.length:=by
    intro i hi;rw[C]at hi;obtain⟨w,y⟩:=Pa _ _ _ i hi;rw[mQ,mQ]at w;rw[jz]at y;exact⟨w,by omega⟩
   have r:k+(cB s k k).1<=s.length:=by
    have:=(b ((cB s k k).1-1) (by omega)).2
    omega
   have n:=VD s k (cB s k k).2 (cB s k k).1 q g b;refine⟨⟨r,?_,?_⟩,by omega⟩
   ·have B:(s.take k).length=k:=by simp at l⊢;omega
    have u:jF (s.take k).length ((cB s k k).2,(cB s k k).1,[]):=by
     unfold jF;rw[ai (by simp only;omega),B]
     exact⟨g,by simp only;omega,p,rfl⟩
    have aW:kO (s.take k) ((cB s k k).2,(cB s k k).1,[])=s.take (k+(cB s k k).1):=by
     unfold kO;rw[ai (by simp only;omega)]
     exact n
    have:=yT d _ _ h.2.1 u (by rw[aW,dk];omega)
    rw[this,aW]
   ·intro t n;rcases br.1 n with c|c
    ·exact h.2.2 t c
    ·simp at c;subst c;right;exact h4
 ·split
  ·rename_i z t hlast
   split
   ·rename_i n
    obtain⟨a,j⟩:∃a,d=a++[(0,z,t)]:=by
     obtain⟨a,hi⟩:=DF.1 hlast;exact⟨a,hi⟩
    subst j;obtain⟨x,h1,A,o⟩:=Za a _ _ h.2.1;simp only[AL];have e:=A;unfold jF at e;rw[aj rfl]at e;have m:kO x (0,z,t++[s.getD k 0])=s.take (k+1):=by
     unfold kO at o⊢;rw[aj rfl]at o⊢;rw[<-Ev s k l,<-o,fJ]
    refine⟨⟨l,?_,?_⟩,Cl k⟩
    ·have:=yT a (0,z,t++[s.getD k 0]) x h1 (by
      unfold jF;rw[aj rfl];simp only[aT,Jd];exact⟨by omega,by omega,e.2.2⟩) (by rw[m,dk];omega)
     rw[this,m]
    ·intro t' v;rcases br.1 v with c|c
     ·exact h.2.2 t' (rj _ c)
     ·simp at c;subst c;left;rfl
   ·exact⟨Ea s k d hs l h,Cl k⟩
  ·exact⟨Ea s k d hs l h,Cl k⟩
theorem Gw(s:List UInt8)(hs:s.length<=64)(n:Nat):tH s (dQ n s)/\min n s.length<=(dQ n s).1:=by
 induction n with
 |zero=>exact⟨⟨aI _,rfl,λt b=>by cases b⟩,by simp⟩
 |succ n a=>
  unfold dQ;split
  ·rename_i h
   have:=Vs s _ hs h a.1;exact⟨this.1,by omega⟩
  ·exact⟨a.1,by omega⟩
theorem D8(s:List UInt8)(hs:s.length<=64):plain (kU s)=X s/\∀t∈kU s,t.1=0∨4<=t.2.1:=by
 obtain⟨⟨h1,a,b⟩,h4⟩:=Gw s hs s.length;refine⟨?_,b⟩;unfold kU;rw[a,cm (by omega)]
end Go.Proofs.YtijmbohadndfmaaGreatDoor.Pack
namespace Go.Proofs.YtijmbohadndfmaaGreatDoor.Pack
def fM(t:Nat×Nat×List UInt8):List UInt8:=if t.1=0 then UInt8.ofNat t.2.2.length::t.2.2 else[UInt8.ofNat (128+t.2.1),UInt8.ofNat t.1]
def xj(s:List UInt8):List UInt8:=122::(kU s).flatMap fM
def fx(s:List UInt8):Option (List UInt8):=if 64<s.length then O else X (if s.length+1<=(xj s).length then 114::s else xj s)
def oM:Nat->List UInt8->Option (List (Nat×Nat×List UInt8))
 |_,[]=>X []
 |0,_::_=>O
 |f+1,n::r=>
  if 128<n.toNat then(match r with
   |b::r'=>(oM f r').map λl=>(b.toNat,n.toNat-128,[])::l
   | []=>O)
  else if n.toNat<=r.length then(oM f (r.drop n.toNat)).map λl=>(0,0,r.take n.toNat)::l else O
def fp(t:List UInt8):Option (List UInt8):=
 match t with
 | []=>O
 |c::r=>(if c=122 then(oM r.length r).bind plain else X r).bind λs=>if fx s=X t then X s else O
def Fit(t:Nat×Nat×List UInt8):Prop:=(t.1=0/\1<=t.2.2.length/\t.2.2.length<=31/\t.2.1=0)∨(0<t.1/\t.1<=64/\1<=t.2.1/\t.2.1<=31/\t.2.2=[])
theorem Km(b o:List UInt8)(l:List (Nat×Nat×List UInt8))(f:b.length<=64)(h:lB b l=X o):∀t∈l,Fit t:=by
 induction l generalizing b with
 |nil=>intro t c;cases c
 |cons a l d=>
  unfold lB at h;split at h
  ·rename_i hok
   split at h
   ·rename_i hlen
    intro t c;rcases bf.1 c with e|e
    ·subst e;unfold jF at hok;split at hok
     ·rename_i h0
      exact .inl ⟨h0,hok⟩
     ·rename_i h0
      exact .inr ⟨by omega,by omega,hok.2⟩
    ·exact d _ hlen h t e
   ·cases h
  ·cases h
theorem rW(n:Nat)(h:n<256):(UInt8.ofNat n).toNat=n:=by rw[og];omega
theorem Zg(t:Nat×Nat×List UInt8):1<=(fM t).length:=by
 unfold fM;split<;>simp
theorem Tq(l:List (Nat×Nat×List UInt8))(h:∀t∈l,Fit t)(f:Nat)(a:(l.flatMap fM).length<=f):oM f (l.flatMap fM)=X l:=by
 induction l generalizing f with
 |nil=>
  simp only[List.flatMap_nil];cases f<;>rfl
 |cons t l p=>
  have j:=h t (by simp)
  have o:=p (λt j=>h t (by simp[j]))
  rw[qn]at a⊢;rw[aT]at a;have h1:=Zg t;obtain⟨g,rfl⟩:∃g,f=g+1:=⟨f-1,by omega⟩
  obtain⟨b,n,x⟩:=t;rcases j with⟨c,e,i,d⟩|⟨c,e,i,d,m⟩
  ·simp only at c e i d;subst c d;have k:fM (0,0,x)=UInt8.ofNat x.length::x:=rfl;rw[k]at a⊢;rw[jf];unfold oM;rw[rW x.length (by omega),ai (by omega),aj (by simp)]
   rw[List.drop_left,List.take_left,o g (by simp only[aR]at a;omega)]
   rfl
  ·simp only at c e i d m;subst m;have k:fM (b,n,[])=[UInt8.ofNat (128+n),UInt8.ofNat b]:=by
    unfold fM;rw[ai (by simp only;omega)]
   rw[k]at a⊢;rw[jf];unfold oM;rw[rW (128+n) (by omega),aj (by omega)]
   simp only[jf,iN];rw[o g (by simp only[aR,cU]at a;omega),rW b (by omega)]
   simp
theorem Xg(s t:List UInt8)(h:fx s=X t):fp t=X s:=by
 have hs:s.length<=64:=by
  unfold fx at h;split at h
  ·cases h
  ·omega
 obtain⟨b,-⟩:=D8 s hs;have a:=h;unfold fx at a;rw[ai (by omega)]at a
 split at a
 ·cases a;unfold fp;simp only;rw[ai (by decide)]
  simp only[kV];rw[aj h]
 ·cases a;show(if (122:UInt8)=122 then(oM ((kU s).flatMap fM).length ((kU s).flatMap fM)).bind plain else X _).bind _=_
  rw[aj rfl,Tq _ (Km [] s _ (by simp) b) _ (ak _)]
  simp only[kV,b];rw[aj h]
theorem Tv(n b:Nat)(a:List UInt8):(mu n b a).length=a.length+n:=by
 induction n generalizing a with
 |zero=>rfl
 |succ n c=>unfold mu;rw[c];simp;omega
end Go.Proofs.YtijmbohadndfmaaGreatDoor.Pack
namespace Go.Proofs.YtijmbohadndfmaaGreatDoor
open Words Sums Pack
def dj(c:Int)(x:aq):Bool:=x.fP.kind==1&&x.fP.tx==c
def bS(M:List aq)(c:Int):Option aq:=(M.filter (dj c)).getLast?
def bG(M:List aq)(c:Int):Option (List UInt8):=(bS M c).bind λx=>fp x.fP.text.data.toList
def eR(M:List aq)(live:List Int)(t:List UInt8):Int:=(live.find? λc=>decide (bG M c=X t)).getD 0
theorem Ib(l:List aq)(x:aq)(c:Int):bS (l++[x]) c=if dj c x then X x else bS l c:=by
 unfold bS;rw[iD];by_cases h:dj c x=iV
 ·rw[nN h,Bg,List.getLast?_concat,aj h]
 ·rw[qR h,Bg,eM,ai h]
theorem qu(l m:List aq)(c:Int):bS (l++m) c=(bS m c).or (bS l c):=by
 unfold bS;rw[iD,List.getLast?_append]
theorem pP{l:List aq}{c:Int}{x:aq}(h:bS l c=X x):x∈l/\dj c x=iV:=by
 unfold bS at h;have:=List.mem_of_getLast? h;rw[dR]at this;exact this
theorem tS{l:List aq}{c:Int}:bS l c=O↔∀x∈l,dj c x=iF:=by
 unfold bS;rw[List.getLast?_eq_none_iff,mt];simp
variable{t:ByteArray}{x:Int}{ls:List (Int × ByteArray)}{row:List Bool}{live:List Int}{k i m j:Nat}
variable{M:List aq}
theorem CH{x:aq}(h:M[k]?=X x)(c:Int):bS (M.take (k+1)) c=if dj c x then X x else bS (M.take k) c:=by
 rw[dF,h];exact Ib _ _ _
theorem zD(x:aq)(l:List aq)(c:Int):bS (x::l) c=(bS l c).or (if dj c x then X x else O):=by
 rw[show x::l=[x]++l from rfl,qu];congr 1;exact(Ib [] x c).trans (by split<;>rfl)
def nW(M:List aq)(live:List Int)(base:Int)(i:Nat)(x:aq):Bool:=
 (x.fP.kind==2&&decide (base<=x.fP.tx))||(x.fP.kind==1&&live.contains x.fP.tx&&(bS (M.drop (i+1)) x.fP.tx).isNone)
def cK(M:List aq)(live:List Int)(base:Int):List Bool:=M.mapIdx (nW M live base)
def ei(M:List aq)(row:List Bool)(b:Int):Nat:=((M.zip row).filter λp=>p.2&&p.1.block==b).length
def nV(M:List aq)(live:List Int)(base b:Int):Nat:=ei M (cK M live base) b
theorem re(M:List aq)(live:List Int)(base:Int):(cK M live base).length=M.length:=by simp[cK]
theorem pS{x:aq}(live:List Int)(base:Int)(h:M[i]?=X x):(cK M live base)[i]?=X (nW M live base i x):=by simp[cK,h]
theorem NF(M:List aq)(base:Int):cK M [] base=M.map λx=>x.fP.kind==2&&decide (base<=x.fP.tx):=by
 apply kM;intro i;cases h:M[i]? with
 |none=>simp[cK,h]
 |some x=>rw[pS _ _ h,bk,h];simp[nW]
theorem So{c:Int}(L:List Int)(base:Int)(h:bS M c=O):cK M (L++[c]) base=cK M L base:=by
 apply kM;intro i;cases hi:M[i]? with
 |none=>simp[cK,hi]
 |some x=>
  rw[pS _ _ hi,pS _ _ hi];congr 1;have:=tS.1 h x (aH hi);unfold dj at this;unfold nW;congr 1;by_cases a:x.fP.kind=1
  ·have d:¬x.fP.tx=c:=by simpa[a]using this
   simp[a,d]
  ·have b:(x.fP.kind==1)=iF:=by simpa using a
   simp[b]
theorem PC{c:Int}{x:aq}(L:List Int)(base:Int)(hi:M[i]?=X x)(l:dj c x=iV)(k:bS (M.drop (i+1)) c=O):cK M (L++[c]) base=(cK M L base).set i iV:=by
 have a:=l;unfold dj at a;simp only[bt,ky]at a;apply kM;intro j;rw[uw];by_cases e:i=j
 ·subst e;rw[aj rfl,re,aj (aD.1 hi).1,pS _ _ hi];congr 1;unfold nW;simp[a.1,a.2,k]
 ·rw[ai e];cases b:M[j]? with
  |none=>simp[cK,b]
  |some y=>
   rw[pS _ _ b,pS _ _ b];congr 1;unfold nW;congr 1;by_cases h:y.fP.kind=1
   ·by_cases f:y.fP.tx=c
    ·have g:dj c y=iV:=by unfold dj;simp[h,f]
     have m:j<i:=by
      rcases yN j i with q|q
      ·exact q
      ·exfalso
       have:=tS.1 k y (aH (i:=j-(i+1)) (by rw[mQ,show i+1+(j-(i+1))=j by omega];exact b))
       rw[g]at this;cases this
     have hs:(bS (M.drop (j+1)) y.fP.tx).isNone=iF:=by
      rw[f];cases n:bS (M.drop (j+1)) c with
      |some _=>rfl
      |none=>
       exfalso
       have:=tS.1 n x (aH (i:=i-(j+1)) (by rw[mQ,show j+1+(i-(j+1))=i by omega];exact hi))
       rw[l]at this;cases this
     simp[hs]
    ·simp[f]
   ·have d:(y.fP.kind==1)=iF:=by simpa using h
    simp[d]
def ue(x y:aq):Bool:=x.block==y.block&&x.leaf==y.leaf&&x.fP.kind==y.fP.kind&&x.fP.seq==y.fP.seq&&x.fP.tx==y.fP.tx&&x.fP.part==y.fP.part&&x.fP.count==y.fP.count&&decide (x.fP.text.data.toList=y.fP.text.data.toList)
theorem JZ(x:aq):ue x x=iV:=by simp[ue]
def rz(M:List aq)(live:List Int)(base:Int)(x:aq):Bool:=
 if x.fP.kind=2 then decide (base<=x.fP.tx)else(match bS M x.fP.tx with|some y=>ue y x|none=>iF)&&live.contains x.fP.tx
def tE(M:List aq):Prop:=M.Pairwise λx y=>¬(x.block=y.block/\x.leaf=y.leaf)
theorem Yd{x:aq}(live:List Int)(base:Int)(e:tE M)(a:x.fP.kind=1∨x.fP.kind=2)(hi:M[i]?=X x):nW M live base i x=rz M live base x:=by
 unfold nW rz;rcases a with a|a
 ·rw[ai (by omega)]
  simp only[a,show((1:Int)==2)=iF from rfl,mV,xK,Bs,jr];rw[uF];congr 1;have h:dj x.fP.tx x=iV:=by unfold dj;simp[a]
  have c:M=M.take (i+1)++M.drop (i+1):=(jP _ _).symm;have b:=qu (M.take (i+1)) (M.drop (i+1)) x.fP.tx;rw[<-c,CH hi,aj h]at b;cases g:bS (M.drop (i+1)) x.fP.tx with
  |none=>
   rw[g]at b;rw[b];simp[JZ]
  |some y=>
   rw[g]at b;rw[b];simp only[Option.or,Option.isNone_some];have j:=(pP g).1;have f:¬(x.block=y.block/\x.leaf=y.leaf):=by
    unfold tE at e;rw[c,eW]at e;refine e.2.2 x ?_ y j;rw[dF,hi];simp
   cases d:ue y x with
   |false=>rfl
   |true=>
    unfold ue at d;simp only[bt,ky]at d;exact absurd ⟨d.1.1.1.1.1.1.1.symm,d.1.1.1.1.1.1.2.symm⟩ f
 ·rw[aj a];simp[a]
theorem JQ(f:aq->Bool)(b:Int):∀M:List aq,ei M (M.map f) b=(M.filter λx=>x.block==b&&f x).length
 | []=>rfl
 |x::M=>by
  have a:=JQ f b M;unfold ei at a⊢;rw[cD,List.zip_cons_cons,iH,iH];simp only;rw[uF];split<;>simp[a]
theorem GM(live:List Int)(base b:Int)(a:tE M)(c:∀x∈M,x.fP.kind=1∨x.fP.kind=2):nV M live base b=(M.filter λx=>x.block==b&&rz M live base x).length:=by
 unfold nV;have:cK M live base=M.map (rz M live base):=by
  apply kM;intro i;cases h:M[i]? with
  |none=>simp[cK,h]
  |some x=>rw[pS _ _ h,bk,h,Yd live base a (c x (aH h)) h];rfl
 rw[this,JQ]
theorem Va(x:aq)(l:List aq):(me x l).Perm (x::l):=by
 induction l with
 |nil=>exact Dq _
 |cons y l a=>
  unfold me;split
  ·exact Dq _
  ·exact(List.Perm.cons y a).trans (List.Perm.swap x y l)
theorem D7(l:List aq):(lw l).Perm l:=by
 induction l using Bc with
 |h0=>exact Dq _
 |h1 l x ih=>
  rw[As];exact(Va x _).trans ((List.Perm.cons x ih).trans (Ij x l).symm)
theorem Sb(M:List aq)(c:Int)(l:List Int)(t:List UInt8):eR M (c::l) t=if bG M c=X t then c else eR M l t:=by
 unfold eR;rw[List.find?_cons];by_cases h:bG M c=X t
 ·simp[h]
 ·simp[h]
theorem Rx{c:Int}(t:List UInt8)(h:live[k]?=X c):eR M (live.drop k) t=if bG M c=X t then c else eR M (live.drop (k+1)) t:=by
 obtain⟨a,e⟩:=aD.1 h;rw[gj a,Sb,e]
theorem Q5{x:aq}{r:Bool}(b:Int)(c:M[k]?=X x)(a:row[k]?=X r):ei (M.take (k+1)) (row.take (k+1)) b=ei (M.take k) (row.take k) b+if r&&x.block==b then 1 else 0:=by
 have h1:=(aD.1 c).1;have e:=(aD.1 a).1;unfold ei;rw[dF,dF,c,a];simp only[rh];rw[List.zip_append (by rw[dk,dk];omega),iD,aT]
 congr 1;cases r<;>cases d:(x.block==b)<;>simp[d]
theorem JJ(bs:List Bk)(m:Nat)(h:∀b∈bs,b.2.2.length<=m):(aw bs).length<=bs.length*m:=by
 have a:∀n,(gH bs n).length<=n*m:=by
  intro n
  induction n with
  |zero=>simp[gH]
  |succ n d=>
   rw[gH,aT,Nat.succ_mul];have h1:=Yz bs n ((bs[n]?).map (λr=>r.2.2.length)|>.getD 0)
   have c:((bs[n]?).map (λr=>r.2.2.length)|>.getD 0)<=m:=by
    cases e:bs[n]? with
    |none=>simp
    |some r=>simpa using h r (aH e)
   omega
 unfold aw;rw[(D7 _).length_eq];exact a bs.length
theorem Fl(bs:List Bk):tE (aw bs):=by
 unfold tE aw;rw[(D7 _).pairwise_iff (λh d=>h ⟨d.1.symm,d.2.symm⟩)]
 rw[ry,List.pairwise_filterMap];refine(GN bs bs.length).imp ?_;intro p q e x b y hy d;unfold nI at b hy;cases h1:fs bs p.1 p.2 with
 |none=>rw[h1]at b;cases b
 |some a=>
  cases f:fs bs q.1 q.2 with
  |none=>rw[f]at hy;cases hy
  |some c=>
   rw[h1]at b;rw[f]at hy;simp only[kg,fu]at b hy;subst b hy;simp only at d;exact e (pV (by omega) (by omega))
variable{bs:List Bk}
theorem sf{x:aq}(h:x∈aw bs):x.fP.Right:=by
 obtain⟨b,l,-,-,-,-,a⟩:=Jr h;unfold fs at a;split at a
 ·exact(Sw a).1
 ·cases a
theorem Jg{x:aq}(h:x∈aw bs):x.fP.kind=1∨x.fP.kind=2:=by
 rcases(sf h).1 with q|q
 ·exact .inl q.1
 ·exact .inr q.1
def c8(ls:List (Int×ByteArray)):Nat:=ls.countP (λt=>t.1==0)
theorem zI(ls:List (Int×ByteArray)):c8 ls<=ls.length:=List.countP_le_length
theorem zo{t:Int×ByteArray}(b:ls[k]?=X t):c8 (ls.take (k+1))=c8 (ls.take k)+if t.1=0 then 1 else 0:=by
 obtain⟨h1,a⟩:=aD.1 b;rw[ge h1,a];unfold c8;rw[xe];by_cases h:t.1=0<;>simp[h]
def lH(b:Bk):Bool:= !b.1&&decide (c8 b.2.2=b.2.2.length)
def fB(b:Bk):Bool:= !b.1&&decide (0<c8 b.2.2/\c8 b.2.2<b.2.2.length)
def iu(bs:List Bk):Nat->List Int
 |0=> []
 |k+1=>iu bs k++(match bs[k]? with|some b=>if lH b=iV then[(k:Int)]else[]|none=> [])
def jy(bs:List Bk):List Int:=iu bs bs.length
theorem RY{b:Bk}(a:bs[k]?=X b)(h:lH b=iV):iu bs (k+1)=iu bs k++[(k:Int)]:=by simp[iu,a,h]
theorem Xa{b:Bk}(a:bs[k]?=X b)(h:lH b=iF):iu bs (k+1)=iu bs k:=by simp[iu,a,h]
theorem MS(bs:List Bk)(k:Nat):(iu bs k).length<=k:=by
 induction k with
 |zero=>exact ak _
 |succ k a=>
  simp only[iu,aT];split
  ·split<;>simp<;>omega
  ·simp;omega
theorem Bh(h:x∈iu bs k):∃i:Nat,x=i/\i<k/\∃b,bs[i]?=X b/\lH b=iV:=by
 induction k with
 |zero=>cases h
 |succ k d=>
  simp only[iu,br]at h;rcases h with h|h
  ·obtain⟨i,e,hi,r⟩:=d h;exact⟨i,e,by omega,r⟩
  ·cases a:bs[k]? with
   |none=>rw[a]at h;cases h
   |some b=>
    rw[a]at h;simp only at h;by_cases c:lH b=iV
    ·rw[aj c,bT]at h;exact⟨k,h,by omega,b,a,c⟩
    ·rw[ai c]at h;cases h
theorem VX{b:Bk}(hi:i<k)(a:bs[i]?=X b)(c:lH b=iV):(i:Int)∈iu bs k:=by
 induction k with
 |zero=>omega
 |succ k d=>
  simp only[iu,br];by_cases e:i=k
  ·subst e;right;rw[a];simp[c]
  ·exact Or.inl (d (by omega))
theorem MA(bs:List Bk)(k:Nat):(iu bs k).Pairwise (·<·):=by
 induction k with
 |zero=>exact List.Pairwise.nil
 |succ k g=>
  simp only[iu];refine eW.2 ⟨g,?_,λa f c d=>?_⟩
  ·split
   ·split
    ·exact mA _ _
    ·exact List.Pairwise.nil
   ·exact List.Pairwise.nil
  ·obtain⟨i,rfl,hi,-⟩:=Bh f;cases e:bs[k]? with
   |none=>rw[e]at d;cases d
   |some b=>
    rw[e]at d;simp only at d;split at d
    ·rw[bT]at d;omega
    ·cases d
def gW(bs:List Bk):Int:=if bs.findIdx fB<bs.length then(bs.findIdx fB:Int)else-1
theorem Qc{b:Bk}(d:bs[k]?=X b)(h:fB b=iV)(g:∀(j:Nat) (c:Bk),j<k->bs[j]?=X c->fB c=iF):gW bs=k:=by
 obtain⟨h1,a⟩:=aD.1 d;have e:bs.findIdx fB=k:=by
  rw[List.findIdx_eq h1];refine⟨by rw[a];exact h,λj f=>?_⟩
  exact g j bs[j] f (ay (by omega))
 simp only[gW,e,aj h1]
theorem Wo(d:∀(j:Nat) (c:Bk),bs[j]?=X c->fB c=iF):gW bs= -1:=by
 have e:bs.findIdx fB=bs.length:=by
  rw[Cw];intro c a;obtain⟨j,b,rfl⟩:=nJ a;exact d j bs[j] (ay b)
 simp only[gW,e];rw[ai (by omega)]
theorem H7(bs:List Bk):(gW bs= -1/\∀(j:Nat) (c:Bk),bs[j]?=X c->fB c=iF)∨∃k b,gW bs=(k:Nat)/\bs[k]?=X b/\fB b=iV/\∀(j:Nat) (c:Bk),j<k->bs[j]?=X c->fB c=iF:=by
 by_cases h:bs.findIdx fB<bs.length
 ·right;refine⟨bs.findIdx fB,bs[bs.findIdx fB],by simp only[gW,aj h],ay h,yF,λj c d a=>?_⟩
  obtain⟨h1,rfl⟩:=aD.1 a;have:=IQ d
  simpa using this
 ·left;refine⟨by simp only[gW,ai h],λj c a=>?_⟩
  have e:bs.findIdx fB=bs.length:=by have:=List.findIdx_le_length (xs:=bs) (p:=fB);omega
  rw[Cw]at e;exact e c (aH a)
def hZ(bs:List Bk):Nat->Nat
 |0=>0
 |k+1=>hZ bs k+(match bs[k]? with|some b=>if b.1=iV then 0 else c8 b.2.2|none=>0)
def cJ(bs:List Bk):Nat:=hZ bs bs.length
theorem wJ{b:Bk}(a:bs[k]?=X b)(h:b.1=iF):hZ bs (k+1)=hZ bs k+c8 b.2.2:=by simp[hZ,a,h]
theorem UP{b:Bk}(a:bs[k]?=X b)(h:b.1=iV):hZ bs (k+1)=hZ bs k:=by simp[hZ,a,h]
theorem Vw(a:∀b∈bs,b.2.2.length<=m)(k:Nat):hZ bs k<=k*m:=by
 induction k with
 |zero=>exact aI _
 |succ k e=>
  rw[Nat.succ_mul];simp only[hZ];cases c:bs[k]? with
  |none=>simp only;omega
  |some b=>
   have h1:=a b (aH c);have d:=zI b.2.2;simp only;split<;>omega
abbrev Wb:=Int×Int
abbrev gE(a b:Wb):Prop:=a.2<b.2∨a.2=b.2/\a.1<b.1
theorem Sr{a b c:Wb}(h:¬gE b a)(k:¬gE c b):¬gE c a:=by unfold gE at*;omega
theorem UW{a b:Wb}(h:gE a b):¬gE b a:=by unfold gE at*;omega
theorem Ts{a b c:Wb}(h:¬gE c b)(k:gE a b):¬gE c a:=by unfold gE at*;omega
theorem vP(a:Wb):¬gE a a:=by unfold gE;omega
def kR(L:List Wb)(b:Wb):Prop:=b∈L/\∀x∈L,¬gE x b
theorem kR.eq{L:List Wb}{a b:Wb}(h:kR L a)(k:kR L b):a=b:=by
 have h1:=h.2 b k.1;have c:=k.2 a h.1;unfold gE at h1 c;exact pV (by omega) (by omega)
def sF:List Wb->Option Wb
 | []=>O
 |x::l=>match sF l with
  |none=>X x
  |some y=>if gE y x then X y else X x
theorem Hq{L:List Wb}(h:L≠ []):∃b,sF L=X b/\kR L b:=by
 induction L with
 |nil=>exact absurd rfl h
 |cons x l g=>
  by_cases e:l=[]
  ·subst e;exact⟨x,rfl,bT.2 rfl,λy hy=>by rw[bT]at hy;subst hy;exact vP _⟩
  ·obtain⟨y,h1,f,d⟩:=g e;by_cases a:gE y x
   ·refine⟨y,by simp only[sF,h1,aj a],qz _ f,λz c=>?_⟩
    rcases bf.1 c with rfl|c
    ·exact UW a
    ·exact d z c
   ·refine⟨x,by simp only[sF,h1,ai a],mT,λz c=>?_⟩
    rcases bf.1 c with rfl|c
    ·exact vP _
    ·exact Sr a (d z c)
theorem kR.is{L:List Wb}{b:Wb}(h:kR L b):sF L=X b:=by
 obtain⟨c,h1,a⟩:=Hq (L:=L) (λe=>by subst e;cases h.1)
 rw[h1,h.eq a]
def tN(bs:List Bk)(i:Int):Int:=match bs[i.toNat]? with|some b=>b.2.1|none=>0
def nf(bs:List Bk)(l:List Int):List Wb:=l.map (λi=>(i,tN bs i))
def Fv(bs:List Bk)(i:Int):List (Int×ByteArray):=match bs[i.toNat]? with|some b=>b.2.2|none=> []
def fI(bs:List Bk):Int×Int×Bool:=
 if bn bs then
  if 0<=gW bs then(gW bs,(bm (Fv bs (gW bs)):Nat),iV)
  else match sF (nf bs (jy bs))with
   |some b=>(b.1,0,iV)
   |none=>(0,0,iF)
 else(0,0,iF)
theorem Yb(h:bn bs=iF):fI bs=(0,0,iF):=by unfold fI;rw[h];rfl
theorem Lp{b:Bk}(h:bn bs=iV)(c:gW bs=k)(a:bs[k]?=X b):fI bs=((k:Int),((bm b.2.2:Nat):Int),iV):=by
 unfold fI Fv;rw[h,c,aj rfl,aj (by omega),aZ,a]
theorem Gz{r:Wb}(h:bn bs=iV)(a:gW bs= -1)(b:kR (nf bs (jy bs)) r):fI bs=(r.1,0,iV):=by
 unfold fI;rw[h,a,aj rfl,ai (by omega),b.is]
theorem Kp(h:bn bs=iV)(a:gW bs= -1)(b:jy bs=[]):fI bs=(0,0,iF):=by
 unfold fI;rw[h,a,aj rfl,ai (by omega),b]
 rfl
theorem XQ(h:bn bs=iV):3<=bs.length/\bs.length<=10:=by
 simp only[bn,bt,bW]at h;exact h.1
theorem Lj(h:0<c8 ls):bm ls<ls.length/\∃t,ls[bm ls]?=X t/\t.1=0:=by
 have h1:∃t∈ls,(t.1==0)=iV:=by
  unfold c8 at h;exact List.countP_pos_iff.1 h
 have a:ls.findIdx (λt=>t.1==0)<ls.length:=List.findIdx_lt_length.2 h1
 have e:bm ls=ls.findIdx (λt=>t.1==0):=by simp only[bm];rw[aj a]
 have b:=yF (w:=a);rw[e];exact⟨a,_,ay a,by simpa using b⟩
theorem YF(h:c8 ls=ls.length)(a:0<ls.length):bm ls=0:=by
 unfold c8 at h;rw[List.countP_eq_length]at h;have h0:ls[0]?=X ls[0]:=ay a;exact Bx h0 (by simpa using h _ (aH h0)) (λj u b=>by omega)
theorem PI{t:Int×ByteArray}(a:ls[j]?=X t)(h0:t.1=0)(x:ByteArray):c8 (ls.set j (1,x))+1=c8 ls:=by
 obtain⟨b,e⟩:=aD.1 a;have c:0<c8 ls:=by
  unfold c8;exact List.countP_pos_iff.2 ⟨t,aH a,by simp[h0]⟩
 unfold c8 at*;rw[List.countP_set b,e];simp[h0];omega
variable{f:Bk -> Bk}
theorem Yh{b:Bk}(g:bs[k]?=X b)(h1:(f b).1=iF)(i:b.1=iF)(j:c8 (f b).2.2+1=c8 b.2.2)(n:Nat):hZ (bs.modify k f) n+(if k<n then 1 else 0)=hZ bs n:=by
 induction n with
 |zero=>simp[hZ]
 |succ n d=>
  by_cases e:k=n
  ·subst e;have a:(bs.modify k f)[k]?=X (f b):=by rw[rA,g];simp
   rw[wJ a h1,wJ g i,aj (by omega)]
   rw[ai (by omega)]at d
   omega
  ·have a:(bs.modify k f)[n]?=bs[n]?:=by
    rw[rA];cases bs[n]? with
    |none=>rfl
    |some c=>simp[e]
   simp only[hZ,a];by_cases h:k<n
   ·rw[aj h]at d;rw[aj (by omega)]
    omega
   ·rw[ai h]at d;rw[ai (by omega)]
    omega
theorem Vr(h:∀(i:Nat) (b:Bk),bs[i]?=X b->b.1=iV∨c8 b.2.2=0)(n:Nat):hZ bs n=0:=by
 induction n with
 |zero=>rfl
 |succ n c=>
  simp only[hZ,c];cases a:bs[n]? with
  |none=>rfl
  |some b=>
   simp only;rcases h n b a with h|h
   ·simp[h]
   ·simp[h]
theorem Hk{b:Bk}(a:bs[k]?=X b)(h1:b.1=iF)(d:0<c8 b.2.2)(n:Nat)(f:k<n):0<hZ bs n:=by
 induction n with
 |zero=>omega
 |succ n c=>
  by_cases e:k=n
  ·subst e;rw[wJ a h1];omega
  ·have:=c (by omega)
   simp only[hZ];omega
theorem Uu(j:bn bs=iV)(h4:∀b∈bs,b.2.2.length=4):
 (fI bs=(0,0,iF)/\cJ bs=0/\gW bs= -1/\jy bs=[])∨
 ∃(k:Nat) (b:Bk),bs[k]?=X b/\b.1=iF/\bm b.2.2<4/\(∃t,b.2.2[bm b.2.2]?=X t/\t.1=0)/\fI bs=((k:Int),((bm b.2.2:Nat):Int),iV)/\0<cJ bs/\(gW bs=(k:Int)∨gW bs= -1/\(k:Int)∈jy bs):=by
 rcases H7 bs with⟨h,q⟩|⟨k,b,h,c,u,-⟩
 ·by_cases l:jy bs=[]
  ·left;refine⟨Kp j h l,Vr (λi b c=>?_) _,h,l⟩
   have h1:=q i b c;have m:lH b=iF:=by
    cases B:lH b with
    |false=>rfl
    |true=>
     have:=VX (k:=bs.length) (aD.1 c).1 c B;change (i:Int)∈jy bs at this;rw[l]at this;cases this
   unfold fB at h1;unfold lH at m;have C:=zI b.2.2;cases o:b.1 with
   |true=>exact Or.inl rfl
   |false=>
    right;rw[o]at h1 m;simp at h1 m;omega
  ·right;obtain⟨r,-,v⟩:=Hq (L:=nf bs (jy bs)) (λe=>l (by simpa[nf]using e))
   obtain⟨x,w,e⟩:=bF.1 v.1;obtain⟨p,y,A,b,c,d⟩:=Bh w;subst y;have f:=h4 b (aH c);unfold lH at d;simp only[bt,lC,bW]at d;have g:0<c8 b.2.2:=by rw[d.2,f];omega
   have s:=YF d.2 (by omega)
   obtain⟨z,n⟩:=Lj g;refine⟨p,b,c,d.1,by omega,n,?_,Hk c d.1 g _ A,Or.inr ⟨h,w⟩⟩
   rw[Gz j h v,s,<-e];rfl
 ·right;have f:=h4 b (aH c);have a:=u;unfold fB at a;simp only[bt,lC,bW]at a;obtain⟨z,n⟩:=Lj a.2.1;exact⟨k,b,c,a.1,by omega,n,Lp j h c,Hk c a.1 a.2.1 _ (aD.1 c).1,Or.inl h⟩
theorem Tz{b:Bk}(c:bn bs=iV)(a:bs[k]?=X b)(h1:b.1=iF)(l:bm b.2.2<4)(i:∃t,b.2.2[bm b.2.2]?=X t/\t.1=0)(e:1<=t.size)(g:t.size<=120):
 fY bs (k:Int) ((bm b.2.2:Nat):Int) t=(jG bs k (bm b.2.2) t,iV)/\cJ (jG bs k (bm b.2.2) t)+1=cJ bs:=by
 have h:ij bs (k:Int) ((bm b.2.2:Nat):Int) t=iV:=by
  unfold ij;rw[aZ,a];exact aQ ⟨by omega,h1,by omega,rfl,e,g⟩
 refine⟨?_,?_⟩
 ·unfold fY;rw[c,h];rw[Bool.and_self,aj rfl,aZ,aZ]
 ·obtain⟨u,j,d⟩:=i;have:=Yh (f:=λr=>(r.1,r.2.1,r.2.2.set (bm b.2.2) (1,t))) a h1 h1 (PI j d t) bs.length
  rw[aj (aD.1 a).1]at this;unfold cJ jG;rw[ye];exact this
end Go.Proofs.YtijmbohadndfmaaGreatDoor
