/-
  RcMath; TxMath; TxMath2; TrMath3; TrMath4; SwMath; StoM
-/
import Derived.Test.YtgigcooffjjbgaaGreatDoorPk2
import Derived.Test.YtgigcooffjjbgaaGreatDoorPk1
open Option renaming none→O,some→X
open Bool renaming true→iV,false→iF
namespace Go.Proofs.YtgigcooffjjbgaaGreatDoor.Words
structure Rc where
 kind:Int
 vol:Int
 arg:Int
 fC:Int
def Rc.tu(r:Rc):Int×Int×Int×Int:=(r.kind,r.vol,r.arg,r.fC)
def Rc.Right(r:Rc):Prop:=
 (0<=r.arg/\r.arg<=1000000000)/\(r.kind=1/\r.vol=0/\r.fC=0∨(1<=r.vol/\r.vol<=9)/\(r.kind=2/\r.arg<=9/\r.fC=0∨r.kind=3/\r.arg=0/\r.fC=0∨r.kind=4/\r.arg<16/\1<=r.fC/\r.fC<=1000000000∨r.kind=5/\r.arg<16/\r.fC=0))
abbrev Rc.decR(r:Rc):Decidable r.Right:=by unfold Rc.Right;exact inferInstance
def iy(r:Rc):List UInt8:=UInt8.ofNat (16*r.kind+r.vol).toNat::(bK r.arg.toNat++bK r.fC.toNat)
def mo(r:Rc):ByteArray:=(nG (16*r.kind+r.vol).toNat++fh r.arg.toNat)++fh r.fC.toNat
theorem CH(r:Rc):(mo r).data.toList=iy r:=by
 simp[mo,iy,nG,fh,ByteArray.data_append]
theorem vO(r:Rc)(h:r.Right):3<=(iy r).length/\(iy r).length<=19:=by
 obtain⟨h1,c⟩:=h;have a:=qm r.arg.toNat (by omega)
 have b:=qm r.fC.toNat (by omega)
 simp only[iy,aV,aJ];omega
def dR:List Rc->List UInt8
 | []=> []
 |r::l=>iy r++dR l
theorem KU(a b:List Rc):dR (a++b)=dR a++dR b:=by
 induction a with
 |nil=>rfl
 |cons r a c=>simp only[jl,dR,c,fs]
theorem Kk(a:List Rc)(r:Rc):dR (a++[r])=dR a++iy r:=by
 rw[KU];simp[dR]
theorem Nu(a:List Rc)(h:∀r∈a,r.Right):3*a.length<=(dR a).length/\(dR a).length<=19*a.length:=by
 induction a with
 |nil=>simp[dR]
 |cons r a c=>
  have h1:=vO r (h r (by simp))
  have d:=c (λx b=>h x (by simp[b]))
  simp only[dR,aJ,aV];omega
def lx(l:List UInt8)(q:Nat):Option (Rc×Nat):=
 match l[q]? with
 |none=>O
 |some k=>
  match bN l (q+1)with
  |none=>O
  |some (a,i)=>
   match bN l i with
   |none=>O
   |some (c,j)=>letI:=(Rc.mk (k.toNat/16:Nat) (k.toNat % 16:Nat) a c).decR;if (Rc.mk (k.toNat/16:Nat) (k.toNat % 16:Nat) a c).Right then X (Rc.mk (k.toNat/16:Nat) (k.toNat % 16:Nat) a c,j)else O
variable{q j:Nat}
theorem WB{l:List UInt8}{k:UInt8}(h:l[q]?=X k):q<l.length/\l.drop q=k::l.drop (q+1):=by
 obtain⟨h1,a⟩:=aB.1 h;exact⟨h1,by rw[<-a];exact i8 h1⟩
theorem Kf{l:List UInt8}{r:Rc}(h:lx l q=X (r,j)):
 ∃(k:UInt8) (a i c:Nat),l[q]?=X k/\bN l (q+1)=X (a,i)/\bN l i=X (c,j)/\r=Rc.mk (k.toNat/16:Nat) (k.toNat % 16:Nat) a c/\r.Right:=by
 unfold lx at h;split at h
 ·cases h
 rename_i k hk
 split at h
 ·cases h
 rename_i a i ha
 split at h
 ·cases h
 rename_i c j' hc
 split at h
 ·rename_i hr
  cases h;exact⟨k,a,i,c,hk,ha,hc,rfl,hr⟩
 ·cases h
theorem xX{l:List UInt8}{r:Rc}(h:lx l q=X (r,j)):r.Right/\q<l.length/\q<j/\j<=l.length/\l.drop q=iy r++l.drop j:=by
 obtain⟨k,a,i,c,p,d,f,rfl,g⟩:=Kf h;obtain⟨h1,o⟩:=WB p;have m:=sU _ _ _ _ d;have n:=sU _ _ _ _ f;have t:=nP l (q+1) a i (by omega) d
 have u:=nP l i c j (by omega) f
 have e:UInt8.ofNat (16*((k.toNat/16:Nat):Int)+((k.toNat % 16:Nat):Int)).toNat=k:=by
  have:(16*((k.toNat/16:Nat):Int)+((k.toNat % 16:Nat):Int)).toNat=k.toNat:=by omega
  rw[this];exact UInt8.ofNat_toNat
 have b:l.drop q=iy (Rc.mk (k.toNat/16:Nat) (k.toNat % 16:Nat) a c)++l.drop j:=by
  rw[o,m,n];simp only[iy,e,bk,jl,fs]
 refine⟨g,h1,?_,by omega,b⟩
 have s:=vO _ g;have:=congrArg List.length b;simp only[aJ,ju]at this;omega
theorem PD{l:List UInt8}{r:Rc}{t:List UInt8}(b:r.Right)(h:l.drop q=iy r++t):lx l q=X (r,q+(iy r).length)/\l.drop (q+(iy r).length)=t:=by
 have j:=b;obtain⟨h1,e⟩:=j;have m:l[q]?=X (UInt8.ofNat (16*r.kind+r.vol).toNat):=by
  have:(l.drop q)[0]?=X (UInt8.ofNat (16*r.kind+r.vol).toNat):=by rw[h];rfl
  rw[lh]at this
  simpa using this
 have f:l.drop (q+1)=bK r.arg.toNat++(bK r.fC.toNat++t):=by
  rw[<-tV,h];simp[iy]
 obtain⟨i,h4⟩:=sW l (q+1) r.arg.toNat _ (by omega) f
 obtain⟨k,g⟩:=sW l _ r.fC.toNat _ (by omega) h4
 have c:(UInt8.ofNat (16*r.kind+r.vol).toNat).toNat=(16*r.kind+r.vol).toNat:=by rw[qj];omega
 have d:Rc.mk ((UInt8.ofNat (16*r.kind+r.vol).toNat).toNat/16:Nat) ((UInt8.ofNat (16*r.kind+r.vol).toNat).toNat % 16:Nat) (r.arg.toNat:Nat) (r.fC.toNat:Nat)=r:=by
  rw[c];cases r;simp only[Rc.mk.injEq];simp only at h1 e;omega
 have a:q+(iy r).length=q+1+(bK r.arg.toNat).length+(bK r.fC.toNat).length:=by simp only[iy,aV,aJ];omega
 constructor
 ·unfold lx;rw[m];simp only[i,k,a];rw[d,ak b]
 ·rw[a];exact g
def rg(l:List UInt8):Nat->Nat->Option (List Rc)
 |0,_=>O
 |f+1,q=>if l.length<=q then X []else
  match lx l q with
  |none=>O
  |some (r,j)=>(rg l f j).map (r::·)
def fR(l:List UInt8)(q:Nat):Option (List Rc):=rg l (l.length-q+1) q
theorem Ro(l:List UInt8):∀(f q:Nat),l.length-q+1<=f->rg l f q=fR l q:=by
 intro f
 induction f using Nat.strongRecOn with
 |ind f ih=>
  intro q h;cases f with
  |zero=>omega
  |succ f=>
   unfold fR;simp only[rg];split
   ·rfl
   ·cases e:lx l q with
    |none=>rfl
    |some x=>
     obtain⟨r,j⟩:=x;obtain⟨-,h1,b,c,-⟩:=xX e;simp only;rw[ih f (by omega) j (by omega)]
     by_cases a:l.length-q=f
     ·rw[a,ih f (by omega) j (by omega)]
     ·rw[ih (l.length-q) (by omega) j (by omega)]
theorem Bb{l:List UInt8}(h:l.length<=q):fR l q=X []:=by
 unfold fR;simp only[rg,ak h]
theorem xz{l:List UInt8}(h:q<l.length)(h1:lx l q=O):fR l q=O:=by
 unfold fR;simp only[rg,aj (Nat.not_le.2 h),h1]
theorem yE{l:List UInt8}{r:Rc}(h1:lx l q=X (r,j)):fR l q=(fR l j).map (r::·):=by
 obtain⟨-,a,b,c,-⟩:=xX h1;unfold fR;simp only[rg,aj (Nat.not_le.2 a),h1];rw[Ro l (l.length-q) j (by omega)]
 rfl
theorem YU:∀(x:List Rc) (l:List UInt8) (q:Nat),(∀r∈x,r.Right)->l.drop q=dR x->fR l q=X x:=by
 intro x
 induction x with
 |nil=>
  intro l q _ h;have:=congrArg List.length h;simp only[dR,ju,dU]at this;exact Bb (by omega)
 |cons r x c=>
  intro l q a h;obtain⟨h1,b⟩:=PD (a r (by simp)) (by simpa only[dR]using h)
  rw[yE h1,c l _ (λy hy=>a y (by simp[hy])) b]
  rfl
theorem MM:∀(x:List Rc) (l:List UInt8) (q:Nat),fR l q=X x->(∀r∈x,r.Right)/\l.drop q=dR x:=by
 intro x
 induction x with
 |nil=>
  intro l q h;refine⟨by simp,?_⟩
  by_cases b:l.length<=q
  ·exact me b
  ·cases e:lx l q with
   |none=>rw[xz (by omega) e]at h;cases h
   |some y=>
    obtain⟨r,j⟩:=y;rw[yE e]at h;cases a:fR l j with
    |none=>rw[a]at h;cases h
    |some z=>rw[a]at h;simp at h
 |cons r x f=>
  intro l q h;by_cases b:l.length<=q
  ·rw[Bb b]at h;simp at h
  ·cases e:lx l q with
   |none=>rw[xz (by omega) e]at h;cases h
   |some y=>
    obtain⟨g,j⟩:=y;rw[yE e]at h;cases a:fR l j with
    |none=>rw[a]at h;cases h
    |some z=>
     rw[a]at h;simp at h;obtain⟨rfl,rfl⟩:=h;obtain⟨h1,c⟩:=f l j a;obtain⟨d,-,-,-,h4⟩:=xX e;refine⟨?_,?_⟩
     ·intro y hy;rcases aX.1 hy with rfl|hy
      ·exact d
      ·exact h1 y hy
     ·rw[h4,c];rfl
end Go.Proofs.YtgigcooffjjbgaaGreatDoor.Words
namespace Go.Proofs.YtgigcooffjjbgaaGreatDoor.Words
def eM(l:List Rc):ByteArray:=⟨(dR l).toArray⟩
theorem Gx(l:List Rc):(eM l).size=(dR l).length:=by show(dR l).toArray.size=_;simp
theorem Fp(l:List Rc):(eM l).data.toList=dR l:=rfl
theorem Sc(l:List Rc)(r:Rc):eM l++mo r=eM (l++[r]):=by
 apply rT;rw[rX,DM,CH];show(dR l).toArray.toList++iy r=(dR (l++[r])).toArray.toList;rw[Kk]
theorem Rm(r:Rc):eM [r]=mo r:=by
 apply rT;rw[CH];show iy r++[]=_;simp
def qk(s:List (List Rc)×List Rc)(r:Rc):List (List Rc)×List Rc:=
 if 90<(dR s.2).length+(iy r).length then(s.1++[s.2],[r])else(s.1,s.2++[r])
def pk(l:List Rc):List (List Rc)×List Rc:=l.foldl qk ([],[])
def cP(l:List Rc):List (List Rc):=(pk l).1++[(pk l).2]
theorem Vs:pk []=([],[]):=rfl
theorem As(l:List Rc)(r:Rc):pk (l++[r])=qk (pk l) r:=by simp[pk,List.foldl_append]
variable{α:Type}{k i:Nat}
theorem Zm{l:List Rc}{r:Rc}(h:l[k]?=X r):pk (l.take (k+1))=qk (pk (l.take k)) r:=by
 rw[eG,h];exact As _ _
theorem vR(l:List Rc):0<(cP l).length:=by simp[cP]
theorem vx{P:List α->Prop}(h0:P [])(h1:∀l r,P l->P (l++[r])):∀l,P l:=by
 intro l;have:∀m:List α,P m.reverse:=by
  intro m
  induction m with
  |nil=>simpa using h0
  |cons a m b=>rw[List.reverse_cons];exact h1 _ _ b
 simpa using this l.reverse
theorem XO(l:List Rc):(cP l).flatten=l:=by
 induction l using vx with
 |h0=>rfl
 |h1 l r ih=>
  unfold cP at*;rw[As];unfold qk;split
  ·simp only[List.flatten_append,vU,List.flatten_nil,dS]at ih⊢;rw[ih]
  ·simp only[List.flatten_append,vU,List.flatten_nil,dS]at ih⊢;rw[<-fs,ih]
theorem aaq(l:List Rc)(h:∀r∈l,r.Right):∀g∈cP l,(dR g).length<=90:=by
 induction l using vx with
 |h0=>intro g a;simp[cP,Vs]at a;subst a;simp[dR]
 |h1 l r ih=>
  have b:=ih (λx c=>h x (by simp[c]))
  have d:=vO r (h r (by simp))
  unfold cP at*;rw[As];unfold qk;intro g a;split at a
  ·simp only[bG,bR]at a b;rcases a with(a|a)|a
   ·exact b g (.inl a)
   ·exact b g (.inr a)
   ·subst a;simp only[dR,dS];omega
  ·simp only[bG,bR]at a b;rcases a with a|a
   ·exact b g (.inl a)
   ·subst a;rw[Kk,aJ];omega
def iY(seq tx:Int)(l:List Rc):Prop:=
 (∀r∈l,r.Right)/\(cP l).length<=9/\1<=seq/\seq<=1000000000-(cP l).length+1/\1<=tx/\tx<=1000000000
abbrev mO(seq tx:Int)(l:List Rc):Decidable (iY seq tx l):=by unfold iY;exact @instDecidableAnd _ _ (@List.decidableBAll _ _ (λr=>r.decR) l) _
def ri(seq tx:Int)(n:Nat)(i:Nat)(g:List Rc):Pg:=⟨2,seq+i,tx,i,n,eM g⟩
def ci(seq tx:Int)(l:List Rc):List Pg:=(cP l).mapIdx (ri seq tx (cP l).length)
theorem xf(seq tx:Int)(l:List Rc):(ci seq tx l).length=(cP l).length:=by simp[ci]
variable{p:Pg}
theorem uC{seq tx:Int}{l:List Rc}(h:(ci seq tx l)[i]?=X p):∃g,(cP l)[i]?=X g/\p=ri seq tx (cP l).length i g:=by
 unfold ci at h;rw[DS]at h;cases a:(cP l)[i]? with
 |none=>rw[a]at h;simp at h
 |some g=>rw[a]at h;simp at h;exact⟨g,rfl,h.symm⟩
theorem Ez{seq tx:Int}{l:List Rc}{g:List Rc}(h:(cP l)[i]?=X g):(ci seq tx l)[i]?=X (ri seq tx (cP l).length i g):=by
 unfold ci;rw[DS,h];rfl
def jV(seq tx:Int)(l:List Rc):List Pg:=letI:=mO seq tx l;if iY seq tx l then ci seq tx l else[]
def pR(ps:List Pg)(tx:Int):Option Pg:=ps.find? (λp=>decide (p.kind=2/\p.tx=tx/\p.part=0))
def rx(ps:List Pg)(tx k c:Int):Option Pg:=ps.find? (λp=>decide (p.kind=2/\p.tx=tx/\p.part=k/\p.count=c))
def jt(ps:List Pg)(tx c:Int):Nat->Nat->Option (List Pg)
 |0,_=>X []
 |n+1,k=>
  match rx ps tx k c with
  |none=>O
  |some p=>(jt ps tx c n (k+1)).map (p::·)
def kI(ps:List Pg)(tx:Int):Option (List Pg):=
 match pR ps tx with
 |none=>O
 |some p=>(jt ps tx p.count (p.count.toNat-1) 1).map (p::·)
structure TxR where
 num:Int
 seq:Int
 fR:List Rc
def lq(l:List Pg):ByteArray:=⟨(l.flatMap (λp=>p.text.data.toList)).toArray⟩
theorem Ry(l:List Pg)(p:Pg):lq l++p.text=lq (l++[p]):=by
 apply rT;rw[rX,DM];simp[lq]
theorem Q4(l:List Pg):(lq l).data.toList=l.flatMap (λp=>p.text.data.toList):=rfl
def pE:List Pg->Int
 | []=>0
 |p::l=>l.foldl (λm q=>if q.seq<m then q.seq else m) p.seq
theorem Xs(p:Pg):pE [p]=p.seq:=rfl
theorem Qf{l:List Pg}(h:l≠ [])(q:Pg):pE (l++[q])=if q.seq<pE l then q.seq else pE l:=by
 cases l with
 |nil=>exact absurd rfl h
 |cons p l=>
  show(l++[q]).foldl _ p.seq=_;rw[tj];rfl
def dt(ps:List Pg)(tx:Int):Option TxR:=
 match kI ps tx with
 |none=>O
 |some l=>(fR (lq l).data.toList 0).map (λrs=>⟨tx,pE l,rs⟩)
def qC(ns:List Int)(x:Int):List Int:=ns.filter (λy=>decide (y<x))++[x]++ns.filter (λy=>decide (x<y))
def pC(ns:List Int)(p:Pg):List Int:=if p.kind=2 then qC ns p.tx else ns
def dA(ps:List Pg):List Int:=ps.foldl pC []
variable{ps:List Pg}
theorem Nr(h:ps[k]?=X p):dA (ps.take (k+1))=pC (dA (ps.take k)) p:=by
 rw[eG,h];simp[dA,List.foldl_append]
theorem yZ(ps:List Pg)(p:Pg):dA (ps++[p])=pC (dA ps) p:=by simp[dA,List.foldl_append]
theorem aac(ns:List Int)(x y:Int):y∈qC ns x↔y=x∨y∈ns:=by
 simp only[qC,bG,eh,bR,sN];constructor
 ·rintro((⟨h,-⟩|h)|⟨h,-⟩)<;>simp_all
 ·rintro(h|h)
  ·simp[h]
  ·rcases Int.lt_trichotomy y x with g|g|g<;>simp_all
theorem Lh(ns:List Int)(x:Int)(h:ns.Pairwise (·<·)):(qC ns x).Pairwise (·<·):=by
 unfold qC;rw[iu,iu];refine⟨⟨h.filter _,by simp,?_⟩,h.filter _,?_⟩
 ·intro a c b d;simp at c d;omega
 ·intro a c b d;simp at c d;omega
theorem Vt(ns:List Int)(x:Int):(qC ns x).length<=ns.length+1:=by
 have h:(ns.filter (λy=>decide (y<x))).length+(ns.filter (λy=>decide (x<y))).length<=ns.length:=by
  induction ns with
  |nil=>simp
  |cons a ns c=>
   rw[gP,gP];rcases Int.lt_trichotomy a x with g|g|g
   ·have e:¬x<a:=by omega
    simp only[g,e,rE,pe,dw,aV];simp only[eS,fb];omega
   ·have e:¬x<a:=by omega
    have b:¬a<x:=by omega
    simp only[e,b,pe,aV];simp only[eS,fb];omega
   ·have e:¬a<x:=by omega
    simp only[g,e,rE,pe,dw,aV];simp only[eS,fb];omega
 simp only[qC,aJ,aV,dU];omega
theorem rD(ps:List Pg):(dA ps).Pairwise (·<·):=by
 induction ps using vx with
 |h0=>simp[dA]
 |h1 ps p ih=>
  rw[yZ];unfold pC;split
  ·exact Lh _ _ ih
  ·exact ih
theorem qV(ps:List Pg)(x:Int):x∈dA ps↔∃p∈ps,p.kind=2/\p.tx=x:=by
 induction ps using vx with
 |h0=>simp[dA]
 |h1 ps p ih=>
  rw[yZ];unfold pC;split
  ·rename_i hk
   rw[aac,ih];constructor
   ·rintro(h|⟨q,a,h⟩)
    ·exact⟨p,by simp,hk,h.symm⟩
    ·exact⟨q,by simp[a],h⟩
   ·rintro⟨q,a,h1,b⟩;rw[bG,bR]at a;rcases a with a|a
    ·exact .inr ⟨q,a,h1,b⟩
    ·subst a;exact .inl b.symm
  ·rename_i hk
   rw[ih];constructor
   ·rintro⟨q,a,h⟩;exact⟨q,by simp[a],h⟩
   ·rintro⟨q,a,h1,b⟩;rw[bG,bR]at a;rcases a with a|a
    ·exact⟨q,a,h1,b⟩
    ·subst a;exact absurd h1 hk
theorem JC:∀{a b:List Int},a.Pairwise (·<·)->b.Pairwise (·<·)->(∀x,x∈a↔x∈b)->a=b:=by
 intro a
 induction a with
 |nil=>
  intro b _ _ h;cases b with
  |nil=>rfl
  |cons y b=>have:=(h y).2 (by simp);simp at this
 |cons x a o=>
  intro b l n h;cases b with
  |nil=>have:=(h x).1 (by simp);simp at this
  |cons y b=>
   obtain⟨g,j⟩:=fQ.1 l;obtain⟨i,k⟩:=fQ.1 n;have d:x=y:=by
    have h1:=(h x).1 (by simp)
    have c:=(h y).2 (by simp)
    rw[aX]at h1 c;rcases h1 with h1|h1
    ·exact h1
    ·rcases c with c|c
     ·exact c.symm
     ·have:=i x h1;have:=g y c;omega
   subst d;refine congrArg _ (o j k λz=>?_)
   have f:=h z;rw[aX,aX]at f;constructor
   ·intro m;rcases f.1 (.inr m)with e|e
    ·subst e;have:=g z m;omega
    ·exact e
   ·intro m;rcases f.2 (.inr m)with e|e
    ·subst e;have:=i z m;omega
    ·exact e
theorem Gg(ps:List Pg):(dA ps).length<=ps.length:=by
 induction ps using vx with
 |h0=>simp[dA]
 |h1 ps p ih=>
  rw[yZ,aJ];unfold pC;split
  ·have:=Vt (dA ps) p.tx;simp only[aV,dU];omega
  ·omega
def dF(ps:List Pg):List TxR:=(dA ps).filterMap (dt ps)
theorem Hj(ps:List Pg):((dF ps).map (·.num)).Pairwise (·<·):=by
 have h:=rD ps;unfold dF;generalize dA ps=ns at h
 induction ns with
 |nil=>simp
 |cons n ns f=>
  obtain⟨h1,d⟩:=fQ.1 h;rw[qn];split
  ·exact f d
  ·rename_i x hx
   rw[cn,fQ];refine⟨?_,f d⟩;intro y hy;have c:∀{m:Int} {z:TxR},dt ps m=X z->z.num=m:=by
    intro m z a;unfold dt at a;split at a
    ·cases a
    ·cases e:fR (lq _).data.toList 0 with
     |none=>rw[e]at a;cases a
     |some rs=>rw[e]at a;cases a;rfl
   obtain⟨z,a,rfl⟩:=bJ.1 hy;obtain⟨m,g,b⟩:=tS.1 a;rw[c hx,c b];exact h1 m g
def TxR.base(t:TxR):Bool:=match t.fR with
 | []=>iF
 |r::_=>r.kind==1
def fX(l:List TxR):Nat->Nat
 |0=>0
 |i+1=>match l[i]? with
  |none=>fX l i
  |some t=>if t.base then i else fX l i
def jJ(l:List TxR):List TxR:=l.drop (fX l l.length)
theorem Dm(l:List TxR):∀i,fX l i<=i:=by
 intro i
 induction i with
 |zero=>simp[fX]
 |succ i a=>
  simp only[fX];split
  ·omega
  ·split<;>omega
theorem Kz(l:List TxR):∀i,i<=l.length->(fX l i=0∨∃t,l[fX l i]?=X t/\t.base=iV)/\∀j t,fX l i<j->j<i->l[j]?=X t->t.base=iF:=by
 intro i
 induction i with
 |zero=>intro _;exact⟨.inl rfl,λj t h1 a=>by omega⟩
 |succ i d=>
  intro hi;obtain⟨h1,a⟩:=d (by omega)
  have c:=Dm l i;simp only[fX];split
  ·rename_i hn
   have:=zI.1 hn;omega
  ·rename_i t ht
   cases b:t.base with
   |true=>exact⟨.inr ⟨t,by simpa using ht,b⟩,λj u g1 g2=>by simp at g1;omega⟩
   |false=>
    refine⟨by simpa using h1,λj u g1 g2 g3=>?_⟩
    simp at g1;by_cases e:j=i
    ·subst e;rw[ht]at g3;cases g3;exact b
    ·exact a j u g1 (by omega) g3
end Go.Proofs.YtgigcooffjjbgaaGreatDoor.Words
namespace Go.Proofs.YtgigcooffjjbgaaGreatDoor.Words
variable{α:Type}{c sq:Int}{i k m:Nat}
theorem IB{l:List α}{P:α->Bool}{x:α}(c:x∈l)(a:P x=iV)(b:∀y∈l,P y=iV->y=x):l.find? P=X x:=by
 cases h:l.find? P with
 |none=>
  have:=Ad.1 h x c;exact absurd a this
 |some y=>rw[b y (tD h) (vk h)]
def vI(ps:List Pg)(tx:Int)(Q:List Pg):Prop:=∀x,(x∈ps/\x.kind=2/\x.tx=tx)↔x∈Q
theorem vT{seq tx:Int}{l:List Rc}{x:Pg}(h:x∈ci seq tx l):∃i:Nat,i<(cP l).length/\(ci seq tx l)[i]?=X x/\x.part=i/\x.kind=2/\x.tx=tx/\x.count=(cP l).length:=by
 obtain⟨i,hi⟩:=AY.1 h;obtain⟨g,a,rfl⟩:=uC hi;exact⟨i,(aB.1 a).1,hi,rfl,rfl,rfl,rfl⟩
theorem uR(seq tx:Int)(l:List Rc)(hi:i<(cP l).length):∃x,(ci seq tx l)[i]?=X x/\x∈ci seq tx l/\x.part=i/\x.kind=2/\x.tx=tx/\x.count=(cP l).length/\x.seq=seq+i:=by
 have e:=Ez (seq:=seq) (tx:=tx) (ay hi);exact⟨_,e,aO e,rfl,rfl,rfl,rfl,rfl⟩
theorem Ht{seq tx:Int}{l:List Rc}{x y:Pg}(b:x∈ci seq tx l)(hy:y∈ci seq tx l)(h:x.part=y.part):x=y:=by
 obtain⟨i,-,h1,a,-⟩:=vT b;obtain⟨j,-,g1,g2,-⟩:=vT hy;have:i=j:=by rw[a,g2]at h;omega
 subst this;rw[h1]at g1;exact sV g1
variable{ps:List Pg}
theorem Ns{seq tx:Int}{l:List Rc}(h:vI ps tx (ci seq tx l)):pR ps tx=(ci seq tx l)[0]?:=by
 obtain⟨x,h1,b,c,h4,d,e,-⟩:=uR seq tx l (vR l);rw[h1];refine IB ((h x).2 b).1 (by simp[h4,d,c]) ?_
 intro y hy a;simp at a;exact Ht ((h y).1 ⟨hy,a.1,a.2.1⟩) b (by rw[a.2.2,c];rfl)
theorem Za{seq tx:Int}{l:List Rc}(h:vI ps tx (ci seq tx l))(f:k<(cP l).length):rx ps tx k (cP l).length=(ci seq tx l)[k]?:=by
 obtain⟨x,h1,b,c,h4,d,e,-⟩:=uR seq tx l f;rw[h1];refine IB ((h x).2 b).1 (by simp[h4,d,c,e]) ?_
 intro y hy a;simp at a;exact Ht ((h y).1 ⟨hy,a.1,a.2.1⟩) b (by rw[a.2.2.1,c])
theorem ZY{seq tx:Int}{l:List Rc}(h:vI ps tx (ci seq tx l)):∀(m k:Nat),k+m=(cP l).length->jt ps tx (cP l).length m k=X ((ci seq tx l).drop k):=by
 intro m
 induction m with
 |zero=>
  intro k b;simp only[jt];rw[me (by rw[xf];omega)]
 |succ m c=>
  intro k b;have a:k<(cP l).length:=by omega
  obtain⟨x,h1,-⟩:=uR seq tx l a;simp only[jt,Za h a,h1,c (k+1) (by omega),g9]
  obtain⟨d,e⟩:=aB.1 h1;rw[i8 d,e]
theorem LH{seq tx:Int}{l:List Rc}(h:vI ps tx (ci seq tx l)):kI ps tx=X (ci seq tx l):=by
 obtain⟨x,h1,-,-,-,-,a,-⟩:=uR seq tx l (vR l);unfold kI;rw[Ns h,h1];simp only;have d:=vR l;have e:x.count.toNat-1=(cP l).length-1:=by rw[a];rfl
 rw[e,a,ZY h _ 1 (by omega)]
 obtain⟨b,c⟩:=aB.1 h1;have:=i8 b;rw[c]at this;simp only[AW]at this;rw[g9,<-this]
theorem Od:∀gs:List (List Rc),gs.flatMap dR=dR gs.flatten:=by
 intro gs
 induction gs with
 |nil=>rfl
 |cons g gs a=>rw[oL,vU,KU,a]
theorem Mq(seq tx:Int)(n:Nat):∀(gs:List (List Rc)) (k:Nat),(gs.mapIdx (λi g=>ri seq tx n (i+k) g)).flatMap (λp=>p.text.data.toList)=gs.flatMap dR:=by
 intro gs
 induction gs with
 |nil=>intro k;rfl
 |cons g gs a=>
  intro k;rw[List.mapIdx_cons,oL,oL];have e:(λi g=>ri seq tx n (i+1+k) g)=(λi g=>ri seq tx n (i+(k+1)) g):=by
   funext i g;rw[show i+1+k=i+(k+1)by omega]
  rw[e,a (k+1)];rfl
theorem Qb(seq tx:Int)(l:List Rc):lq (ci seq tx l)=eM l:=by
 apply rT;rw[Q4,Fp];have:=Mq seq tx (cP l).length (cP l) 0;rw[Od,XO]at this;exact this
theorem O4:∀(l:List Pg) (m:Int),(∀q∈l,m<=q.seq)->l.foldl (λm q=>if q.seq<m then q.seq else m) m=m:=by
 intro l
 induction l with
 |nil=>intro m _;rfl
 |cons q l b=>
  intro m h;have h1:=h q (by simp)
  rw[nA,aj (by omega)]
  exact b m (λx a=>h x (by simp[a]))
theorem OR(seq tx:Int)(l:List Rc):pE (ci seq tx l)=seq:=by
 obtain⟨x,h1,-,-,-,-,-,d⟩:=uR seq tx l (vR l);have a:∀q∈ci seq tx l,seq<=q.seq:=by
  intro q b;obtain⟨i,hi⟩:=AY.1 b;obtain⟨g,-,rfl⟩:=uC hi;show seq<=seq+(i:Int);omega
 cases b:ci seq tx l with
 |nil=>rw[b]at h1;simp at h1
 |cons p q=>
  rw[b]at h1 a;simp at h1;subst h1;have c:p.seq=seq:=by rw[d];simp
  show q.foldl (λm q=>if q.seq<m then q.seq else m) p.seq=seq
  rw[O4,c];intro z e;rw[c];exact a z (by simp[e])
theorem Yd{seq tx:Int}{l:List Rc}(a:∀r∈l,r.Right)(h:vI ps tx (ci seq tx l)):dt ps tx=X ⟨tx,seq,l⟩:=by
 unfold dt;rw[LH h];simp only;rw[Qb,Fp,YU l _ 0 a rfl,OR];rfl
def dp(f:Pg->Nat)(ps:List Pg):Nat:=(ps.map f).sum
def lR(f:Pg->Nat)(ps:List Pg)(k:Int):Nat:=dp f (ps.filter (λp=>decide (p.part<k)))
theorem zH(f:Pg->Nat)(ps:List Pg)(k:Int):lR f ps k<=dp f ps:=by
 unfold lR dp
 induction ps with
 |nil=>simp
 |cons p ps a=>
  rw[gP];split
  ·simp only[cn,fU];omega
  ·simp only[cn,fU];omega
theorem Yj(f:Pg->Nat)(ps:List Pg)(k:Int):lR f ps k<=lR f ps (k+1):=by
 unfold lR dp
 induction ps with
 |nil=>simp
 |cons p ps b=>
  rw[gP,gP];by_cases h:p.part<k
  ·have a:p.part<k+1:=by omega
   simp only[h,a,rE,dw,cn,fU];omega
  ·simp only[h,pe,eS,fb];split
   ·simp only[cn,fU];omega
   ·exact b
variable{p:Pg}
theorem ww(f:Pg->Nat){k:Int}(a:p∈ps)(g:p.part=k):lR f ps k+f p<=lR f ps (k+1):=by
 induction ps with
 |nil=>cases a
 |cons q ps d=>
  have i:=Yj f ps k;unfold lR dp at*;rw[gP,gP];rcases aX.1 a with e|e
  ·subst e;have h1:¬p.part<k:=by omega
   have c:p.part<k+1:=by omega
   simp only[h1,c,rE,pe,eS,dw,fb,cn,fU];omega
  ·have:=d e;by_cases h:q.part<k
   ·have b:q.part<k+1:=by omega
    simp only[h,b,rE,dw,cn,fU];omega
   ·simp only[h,pe,eS,fb];split
    ·simp only[cn,fU];omega
    ·exact this
theorem Ip(f:Pg->Nat)(a:p∈ps):f p<=dp f ps:=by
 unfold dp
 induction ps with
 |nil=>cases a
 |cons q ps b=>
  rw[cn,fU];rcases aX.1 a with e|e
  ·subst e;omega
  ·have:=b e;omega
theorem Xd(ps:List Pg):dp (λ_=>1) ps=ps.length:=by
 unfold dp
 induction ps with
 |nil=>rfl
 |cons q ps a=>rw[cn,fU,a,aV];omega
def mU(ps:List Pg)(tx:Int)(k:Nat)(c:Int):Option Pg:=ps.find? (λp=>decide (p.kind=2/\p.tx=tx/\p.part=k/\(0<k->p.count=c)))
theorem IA(ps:List Pg)(tx c:Int):mU ps tx 0 c=pR ps tx:=by
 unfold mU pR;congr 1;funext p;simp
theorem D7(ps:List Pg)(tx:Int)(k:Nat)(c:Int)(a:0<k):mU ps tx k c=rx ps tx k c:=by
 unfold mU rx;congr 1;funext p;simp[a]
theorem xO{tx:Int}(h:mU ps tx k c=X p):p∈ps/\p.kind=2/\p.tx=tx/\p.part=k/\(0<k->p.count=c):=by
 have h1:=tD h;have a:=vk h;simp only[bH]at a;exact⟨h1,a⟩
theorem FW{l:List α}{P:α->Bool}{x:α}(a:l[m]?=X x)(h:(l.take m).find? P=O):(P x=iF->(l.take (m+1)).find? P=O)/\(P x=iV->l.find? P=X x):=by
 have c:=(aB.1 a).1;have e:l=l.take m++x::l.drop (m+1):=by
  have:=jo m l;rw[i8 c,(aB.1 a).2]at this;exact this.symm
 constructor
 ·intro b;rw[eG,a,List.find?_append,h];simp[b]
 ·intro b;rw[e,List.find?_append,h];simp[b]
def pZ(ps:List Pg)(tx:Int)(k:Nat)(c sq:Int)(a:List Pg):Prop:=
 (k=0/\a=[]/\c=0/\sq=0)∨(0<k/\a≠ []/\sq=pE a/\c.toNat<=dp (λp=>p.count.toNat) ps/\kI ps tx=(jt ps tx c (c.toNat-k) k).map (a++·))
theorem pZ.no{tx:Int}{a:List Pg}(h:pZ ps tx k c sq a)(f:k=0∨(k:Int)<c)(b:mU ps tx k c=O):kI ps tx=O:=by
 rcases h with⟨rfl,-⟩|⟨h0,-,-,-,d⟩
 ·rw[IA]at b;unfold kI;rw[b]
 ·rw[D7 _ _ _ _ h0]at b;obtain⟨m,e⟩:∃m,c.toNat-k=m+1:=⟨c.toNat-k-1,by omega⟩
  rw[d,e];simp only[jt,b,Option.map_none]
theorem pZ.yes{tx:Int}{a:List Pg}(h:pZ ps tx k c sq a)(l:k=0∨(k:Int)<c)(b:mU ps tx k c=X p):pZ ps tx (k+1) p.count (if k=0∨p.seq<sq then p.seq else sq) (a++[p]):=by
 have e:=xO b;refine .inr ⟨by omega,by simp,?_,Ip (λp=>p.count.toNat) e.1,?_⟩
 ·rcases h with⟨rfl,rfl,-,-⟩|⟨h0,h1,d,-,-⟩
  ·simp[Xs]
  ·rw[Qf h1,<-d];by_cases g:p.seq<sq
   ·rw[ak (.inr g),ak g]
   ·rw[aj (by omega),aj g]
 ·rcases h with⟨rfl,rfl,-,-⟩|⟨h0,h1,d,-,f⟩
  ·rw[IA]at b;unfold kI;rw[b];rfl
  ·have i:=e.2.2.2.2 h0;rw[D7 _ _ _ _ h0]at b;obtain⟨m,j⟩:∃m,c.toNat-k=m+1:=⟨c.toNat-k-1,by omega⟩
   rw[f,j,i,show c.toNat-(k+1)=m by omega]
   simp only[jt,b,Option.map_map];congr 1;funext x;simp
theorem pZ.end_{tx:Int}{a:List Pg}(h:pZ ps tx k c sq a)(e:¬(k=0∨(k:Int)<c)):kI ps tx=X a/\sq=pE a:=by
 rcases h with⟨rfl,-⟩|⟨h0,h1,b,-,d⟩
 ·simp at e
 ·have:c.toNat-k=0:=by omega
  rw[d,this];exact⟨by simp[jt],b⟩
end Go.Proofs.YtgigcooffjjbgaaGreatDoor.Words
namespace Go.Proofs.YtgigcooffjjbgaaGreatDoor
namespace Words
theorem UC(p:Nat->Bool)(a:Nat):∀n,(List.range n).countP p<=(List.range n).countP (λi=>p i&& !(i==a))+(if a<n then 1 else 0):=by
 intro n
 induction n with
 |zero=>simp
 |succ n b=>
  rw[oe,ym,ym,zh,zh];by_cases e:n=a
  ·subst e;simp only[zk,Bool.not_true,vH,eS,fb];rw[aj (by omega)]at b
   rw[ak (show n<n+1 by omega)]
   split<;>omega
  ·have c:(n==a)=iF:=by simpa using e
   rw[c];simp only[Bool.not_false,Be];by_cases h:a<n
   ·rw[ak h]at b;rw[ak (show a<n+1 by omega)]
    omega
   ·rw[aj h]at b;rw[aj (show¬a<n+1 by omega)]
    omega
theorem LE:∀(c:List Nat) (n:Nat) (p:Nat->Bool),(∀i,p i=iV->i∈c)->(List.range n).countP p<=c.length:=by
 intro c
 induction c with
 |nil=>
  intro n p h;rw[List.countP_eq_zero.2 (λi _ b=>by have:=h i b;cases this)]
  exact am _
 |cons a c d=>
  intro n p h;have h1:=UC p a n;have f:=d n (λi=>p i&& !(i==a)) (λi hi=>by
   simp only[bn,ng,du]at hi;rcases aX.1 (h i hi.1)with e|e
   ·exact absurd e hi.2
   ·exact e)
  rw[aV];split at h1<;>omega
variable{r n:Int}{i s:Nat}
variable{l:List Kn}
theorem Pa(h:r<0):dM l r i=iF:=by rw[dM,bf (by omega),kL]
theorem sG(h:0<=r):dM l r i=iV↔r=i∨∃k,k<4/\dI l r k=i:=by
 rw[dM,aW h,gk,jS,bH,rJ];constructor
 ·rintro(h|⟨k,a,e⟩)
  ·exact .inl h
  ·exact .inr ⟨k,iw.1 a,by simpa using e⟩
 ·rintro(h|⟨k,a,e⟩)
  ·exact .inl h
  ·exact .inr ⟨k,iw.2 a,by simpa using e⟩
section
end
end Words
namespace Words
def pt(l:List Kn)(r:Int)(s:Nat)(n:Int):List Kn:=l++[ij l r s n,ik l r s]
def vV(l:List Kn):Int:=(l.length:Int)+1
def kQ(l:List Kn)(r:Int):Prop:=bU l=iV/\bt l r=iV
variable{r:Int}{i:Nat}
variable{l:List Kn}
theorem wt{n:Int}{s:Nat}(h:kQ l r)(hs:s<=15)(a:0<=n):kQ (pt l r s n) (vV l):=⟨zo h.1 h.2 hs a,Mf⟩
theorem Bn{n k:Int}{s:Nat}(h:kQ l r)(hs:s<=15)(b:0<=n)(a:bt l k=iV):kQ (pt l r s n) k:=⟨zo h.1 h.2 hs b,Ot a⟩
theorem Dq{n:Int}{s:Nat}(h:kQ l r)(hs:s<=15)(b:0<=n):gS l r (s:Int) n=pt l r s n/\jw l r (s:Int) n=vV l:=by
 have a:lL l r (s:Int) n=iV:=by rw[lL,jX,h.1,h.2,aW (show(0:Int)<=(s:Int)by omega),aW (show(s:Int)<=15 by omega),aW b];rfl
 exact⟨by rw[gS,ak a,bk];rfl,by rw[jw,ak a];rfl⟩
theorem mT(h:kQ l r)(hi:i<=15):gj l r (i:Int)=ce l r i:=by
 rw[gj,jX,h.1,h.2,aW (show(0:Int)<=(i:Int)by omega),aW (show(i:Int)<=15 by omega),bk]
 rfl
theorem FL{n:Int}{s:Nat}(h:kQ l r)(hs:s<=15)(a:0<=n)(hi:i<=15):gj (pt l r s n) (vV l) (i:Int)=if i=s then n else gj l r (i:Int):=by
 rw[mT (wt h hs a) hi,mT h hi];exact UZ h.1 h.2 hs hi
theorem Kv{n k:Int}{s:Nat}(h:kQ l r)(hs:s<=15)(b:0<=n)(a:bt l k=iV)(hi:i<=15):gj (pt l r s n) k (i:Int)=gj l k (i:Int):=by
 rw[mT (Bn h hs b a) hi,mT ⟨h.1,a⟩ hi];exact Pn h.1 a hi
theorem J5{m:List Kn}{k:Int}(h:∀i:Nat,i<=15->gj l r (i:Int)=gj m k (i:Int)):bu l r=bu m k:=by
 refine nY (λi hi=>?_)
 have:=iw.1 hi;exact h i (by omega)
theorem MO{n k:Int}{s:Nat}(h:kQ l r)(hs:s<=15)(b:0<=n)(a:bt l k=iV):bu (pt l r s n) k=bu l k:=J5 (λ_ hi=>Kv h hs b a hi)
end Words
namespace Words
def bC(l:List Kn)(rs:List Int)(i:Nat):Bool:=rs.any (λr=>dM l r i)
def cX(u:Nat->Bool)(i:Nat):Nat:=(List.range i).countP u
theorem NW(u:Nat->Bool):cX u 0=0:=rfl
theorem qU(u:Nat->Bool)(i:Nat):cX u (i+1)=cX u i+(if u i=iV then 1 else 0):=by
 rw[cX,cX,oe,ym,zh]
theorem Cw(u:Nat->Bool)(i:Nat):cX u i<=i:=by
 induction i with
 |zero=>exact am _
 |succ i a=>rw[qU];split<;>omega
variable{r:Int}{rs:List Int}{i j n k:Nat}{u:Nat -> Bool}
theorem Wo(u:Nat->Bool)(h:i<=j):cX u i<=cX u j:=by
 induction j with
 |zero=>have:i=0:=by omega
        subst this;exact am _
 |succ j a=>
  by_cases e:i=j+1
  ·subst e;exact am _
  ·have:=a (by omega)
   rw[qU];omega
theorem Jn(u:Nat->Bool)(h:i<j)(a:u i=iV):cX u i<cX u j:=by
 have:=Wo u (show i+1<=j by omega)
 rw[qU,ak a]at this;omega
theorem He(h:∀j,j<n->u j=iV):∀i,i<=n->cX u i=i:=by
 intro i
 induction i with
 |zero=>intro _;rfl
 |succ i a=>intro hi;rw[qU,a (by omega),ak (h i (by omega))]
def fL(u:Nat->Bool)(n:Int):Int:=if n<0 then n else(cX u n.toNat:Int)
theorem r9(u:Nat->Bool){n:Int}(h:n<0):fL u n=n:=ak h
theorem p9(u:Nat->Bool)(n:Nat):fL u (n:Int)=(cX u n:Int):=by rw[fL,aj (by omega),bk]
def dN(u:Nat->Bool)(x:Kn):Kn:=if x.leaf=iV then x else⟨iF,x.fD.map (fL u)⟩
theorem yW(u:Nat->Bool)(x:Kn):(dN u x).leaf=x.leaf:=by
 unfold dN;cases h:x.leaf with
 |true=>rw[ak rfl];exact h
 |false=>rfl
def kD(u:Nat->Bool)(l:List Kn):Nat->List Kn
 |0=> []
 |k+1=>if u k=iV then kD u l k++((l[k]?).map (dN u)).toList else kD u l k
variable{l:List Kn}
theorem Cm(h:u k=iF):kD u l (k+1)=kD u l k:=by rw[kD,h,aj (by decide)]
theorem vQ{x:Kn}(h:u k=iV)(a:l[k]?=X x):kD u l (k+1)=kD u l k++[dN u x]:=by rw[kD,ak h,a];rfl
theorem uy(h:k<=l.length):(kD u l k).length=cX u k:=by
 induction k with
 |zero=>rfl
 |succ k b=>
  rw[qU];cases a:u k with
  |false=>rw[Cm a,b (by omega)];rfl
  |true=>rw[vQ a (ay (show k<l.length by omega)),aJ,b (by omega)];rfl
theorem Uo{x:Kn}(f:k<=l.length)(hi:i<k)(b:u i=iV)(c:l[i]?=X x):(kD u l k)[cX u i]?=X (dN u x):=by
 induction k with
 |zero=>omega
 |succ k d=>
  by_cases e:i=k
  ·subst e;rw[vQ b c,ct (by rw[uy (by omega)];exact am _),uy (by omega),kM]
   rfl
  ·have h:=d (by omega) (by omega)
   cases a:u k with
   |false=>rw[Cm a];exact h
   |true=>
    rw[vQ a (ay (show k<l.length by omega)),hI (by rw[uy (by omega)];exact Jn u (by omega) b)]
    exact h
theorem Gy(h:j<cX u k):∃i,i<k/\u i=iV/\cX u i=j:=by
 induction k with
 |zero=>rw[NW]at h;omega
 |succ k c=>
  by_cases e:j<cX u k
  ·obtain⟨i,h1,b⟩:=c e;exact⟨i,by omega,b⟩
  ·rw[qU]at h;cases a:u k with
   |false=>rw[a,aj (by decide)]at h;omega
   |true=>rw[a,ak rfl]at h;exact⟨k,by omega,a,by omega⟩
def jZ(l:List Kn)(rs:List Int):List Kn:=kD (bC l rs) l l.length
def pS(l:List Kn)(rs:List Int):Bool:=bU l&&rs.all (bt l)
def jD(l:List Kn)(rs:List Int):List Kn:=if pS l rs=iV then jZ l rs else l
def mC(l:List Kn)(rs:List Int):List Int:=if pS l rs=iV then rs.map (fL (bC l rs))else rs
theorem P7(l:List Kn)(rs:List Int):(mC l rs).length=rs.length:=by unfold mC;split<;>simp
section
def mY(l:List Kn)(rs:List Int):Prop:=bU l=iV/\∀r∈rs,bt l r=iV
theorem xg(h:mY l rs):pS l rs=iV:=by rw[pS,h.1,gk,gV];exact h.2
theorem ZT(h:pS l rs=iV):mY l rs:=by rw[pS,bn,gV]at h;exact h
theorem ye(a:r∈rs)(h0:0<=r):bC l rs r.toNat=iV:=by
 rw[bC,rJ];exact⟨r,a,(sG h0).2 (.inl (by omega))⟩
theorem II(a:r∈rs)(h:dM l r i=iV):bC l rs i=iV:=by
 rw[bC,rJ];exact⟨r,a,h⟩
theorem Dy(h:dM l r i=iV):0<=r:=by
 by_cases h0:0<=r
 ·exact h0
 ·rw[Pa (by omega)]at h;cases h
theorem VI(d:bU l=iV)(o:bt l r=iV)(h:dM l r i=iV):i<l.length/\(r=i∨i7 l i=iV):=by
 have h0:=Dy h;obtain⟨x,a,b⟩:=lu o h0;have j:=(aB.1 a).1;rcases(sG h0).1 h with e|⟨k,g,e⟩
 ·exact⟨by omega,.inl e⟩
 ·obtain⟨n,m,f⟩:=lM d a b g;rw[hO a m]at e;rcases f with q|⟨p,s,y,hy,c,-⟩
  ·omega
  ·have:n.toNat=i:=by omega
   rw[this]at hy;have:=(aB.1 hy).1;exact⟨this,.inr (by rw[oJ (y:=y) (by simpa using hy)];exact c)⟩
theorem NI(h:mY l rs){x:Kn}(f:l[i]?=X x)(d:x.leaf=iF)(b:bC l rs i=iV):(i:Int)∈rs:=by
 rw[bC,rJ]at b;obtain⟨r,a,c⟩:=b;rcases(VI h.1 (h.2 r a) c).2 with e|e
 ·rw[<-e];exact a
 ·rw[oJ (y:=x) (by simpa using f),d]at e
  cases e
theorem A8(h:mY l rs){x:Kn}(a:l[i]?=X x)(c:x.leaf=iF)(f:bC l rs i=iV)(b:k<4)(d:x.fD[k]?=X (n:Int)):bC l rs n=iV:=by
 have e:=NI h a c f;refine II e ((sG (by omega)).2 (.inr ⟨k,b,?_⟩))
 exact hO (by rw[bk];exact a) d
theorem uS:(jZ l rs).length=cX (bC l rs) l.length:=uy (am _)
theorem uX{x:Kn}(a:l[i]?=X x)(b:bC l rs i=iV):(jZ l rs)[cX (bC l rs) i]?=X (dN (bC l rs) x):=Uo (am _) (aB.1 a).1 b a
theorem Us{y:Kn}(hy:(jZ l rs)[j]?=X y):∃i x,l[i]?=X x/\bC l rs i=iV/\cX (bC l rs) i=j/\y=dN (bC l rs) x:=by
 have c:=(aB.1 hy).1;rw[uS]at c;obtain⟨i,h1,a,b⟩:=Gy c;have d:=ay h1;refine⟨i,_,d,a,b,?_⟩;have:=uX d a;rw[b,hy]at this;exact sV this
theorem MT{x:Kn}(a:x.leaf=iF){n:Int}(b:x.fD[k]?=X n):(dN u x).fD[k]?=X (fL u n):=by
 rw[dN,aj (by rw[a];decide)]
 show(x.fD.map (fL u))[k]?=_;rw[bi,b];rfl
theorem I4(h:mY l rs):bU (jZ l rs)=iV:=by
 refine Jb (λj y hy=>?_)
 obtain⟨i,x,g,w,A,rfl⟩:=Us hy;have p:=lN h.1 g;have h4:=mf p;cases a:x.leaf with
 |true=>
  have e:dN (bC l rs) x=x:=by rw[dN,ak a]
  rw[e];refine tY h4 (λn f=>?_)
  obtain⟨k,b⟩:=io f;have:=ui p b;rw[eQ,ak a]at this;rw[eQ,ak a];exact this
 |false=>
  have e:dN (bC l rs) x=⟨iF,x.fD.map (fL (bC l rs))⟩:=by rw[dN,aj (by rw[a];decide)]
  rw[e];refine tY (by rw[bm];exact h4) (λn f=>?_)
  obtain⟨m,v,rfl⟩:=bJ.1 f;obtain⟨k,b⟩:=io v;have u:=(aB.1 b).1;obtain⟨B,c,t⟩:=lM h.1 (r:=(i:Int)) (by rw[bk];exact g) a (show k<4 by omega)
  rw[b]at c;cases c;rw[eQ,aj (show¬(iF=iV)by decide)]
  simp only[jS,bn,bH];rcases t with rfl|⟨c1,c2,z,s,o,-⟩
  ·exact .inl (r9 _ (by omega))
  ·obtain⟨q,rfl⟩:∃q:Nat,m=(q:Int):=⟨m.toNat,by omega⟩
   simp only[bk]at c2 s;have d:=A8 h g a w (show k<4 by omega) b
   rw[p9];have:=Jn (bC l rs) (show q<i by omega) d
   refine .inr ⟨⟨by omega,by omega⟩,?_⟩
   rw[oJ (y:=dN (bC l rs) z) (by rw[bk];exact uX s d),yW]
   exact o
theorem JW(h:mY l rs)(a:r∈rs):bt (jZ l rs) (fL (bC l rs) r)=iV:=by
 unfold bt;simp only[jS,bn,bH,ng];by_cases h0:r<0
 ·left;rw[r9 _ h0];have:=h.2 r a;unfold bt at this;simp only[jS,bn,bH]at this;omega
 ·right;obtain⟨x,e,b⟩:=lu (h.2 r a) (by omega)
  have d:=ye (l:=l) a (by omega)
  obtain⟨q,rfl⟩:∃q:Nat,r=(q:Int):=⟨r.toNat,by omega⟩
  simp only[bk]at e d;have c:=uX e d;have:=(aB.1 c).1;rw[p9];refine⟨⟨by omega,by omega⟩,?_⟩
  rw[oJ (y:=dN (bC l rs) x) (by rw[bk];exact c),yW]
  exact b
theorem Fq(h:mY l rs){r:Nat}(d:(r:Int)∈rs)(g:k<4):dI (jZ l rs) (cX (bC l rs) r:Int) k=fL (bC l rs) (dI l (r:Int) k):=by
 obtain⟨x,b,a⟩:=lu (h.2 _ d) (by omega)
 have e:=ye (l:=l) d (by omega)
 simp only[bk]at b e;have f:=uX b e;obtain⟨n,c,-⟩:=lM h.1 (r:=(r:Int)) (by rw[bk];exact b) a g
 rw[hO (by rw[bk];exact f) (MT a c),hO (by rw[bk];exact b) c]
theorem Kd(h:mY l rs)(d:r∈rs){s:Nat}(hs:s<=15):ce (jZ l rs) (fL (bC l rs) r) s=ce l r s:=by
 unfold ce;by_cases h0:r<0
 ·rw[r9 _ h0,ak h0,ak h0]
 ·obtain⟨q,rfl⟩:∃q:Nat,r=(q:Int):=⟨r.toNat,by omega⟩
  obtain⟨x,c,a⟩:=lu (h.2 _ d) (by omega)
  have i:=ye (l:=l) d (by omega)
  rw[bk]at c i;rw[p9,aj (show¬(cX (bC l rs) q:Int)<0 by omega),aj h0,Fq h d (show s/4<4 by omega)]
  obtain⟨n,g,o⟩:=lM h.1 (r:=(q:Int)) (by rw[bk];exact c) a (show s/4<4 by omega)
  rw[hO (by rw[bk];exact c) g]
  rcases o with rfl|⟨c1,c2,y,hy,b,-⟩
  ·rw[r9 _ (show(-1:Int)<0 by omega),ak (show(-1:Int)<0 by omega),ak (show(-1:Int)<0 by omega)]
  ·obtain⟨j,rfl⟩:∃j:Nat,n=(j:Int):=⟨n.toNat,by omega⟩
   rw[bk]at hy;have f:=A8 h c a i (show s/4<4 by omega) g
   obtain⟨v,k,-⟩:=vN h.1 hy b (show s % 4<4 by omega)
   have e:dN (bC l rs) y=y:=by rw[dN,ak b]
   have m:=uX hy f;rw[e]at m;rw[p9,aj (show¬(cX (bC l rs) j:Int)<0 by omega),aj (show¬(j:Int)<0 by omega),hO (by rw[bk];exact m) k,hO (by rw[bk];exact hy) k]
theorem On(h:mY l rs)(a:r∈rs):bu (jZ l rs) (fL (bC l rs) r)=bu l r:=
 J5 (λi hi=>by rw[mT ⟨I4 h,JW h a⟩ hi,mT ⟨h.1,h.2 r a⟩ hi];exact Kd h a hi)
theorem Wz(h:mY l rs)(b:j<(jZ l rs).length):bC (jZ l rs) (rs.map (fL (bC l rs))) j=iV:=by
 rw[uS]at b;obtain⟨i,-,f,rfl⟩:=Gy b;obtain⟨r,d,a⟩:=rJ.1 f;have h0:=Dy a;obtain⟨q,rfl⟩:∃q:Nat,r=(q:Int):=⟨r.toNat,by omega⟩
 refine II (bJ.2 ⟨_,d,rfl⟩) ?_;rw[p9,sG (by omega)]
 rcases(sG h0).1 a with e|⟨k,c,e⟩
 ·left;have:q=i:=by omega
  rw[this]
 ·right;exact⟨k,c,by rw[Fq h d c,e,p9]⟩
theorem RV:(jZ l rs).length<=l.length:=by rw[uS];exact Cw _ _
end
end Words
namespace Words
structure Sto where
 fV:List (Int×Int)
 fK:List Kn
 next:Int
def cD(l:List (Int×Int)):List Int:=l.map (·.2)
def ii:Sto:=⟨[],[],1⟩
def mK(s:Sto)(i:Nat)(id:Int):Bool:=match i with
 |0=>iV
 |j+1=>match s.fV[j]? with
  |some u=>decide (u.1<id)
  |none=>iV
def ke(s:Sto)(r:Int)(k:Nat):Bool:=(List.range k).all (λj=>decide (ce s.fK r j<s.next))
def lG(s:Sto)(i:Nat)(v:Int×Int):Bool:=((decide (1<=v.1)&&decide (v.1<=9))&&mK s i v.1)&&(bt s.fK v.2&&ke s v.2 16)
def jA(s:Sto):Nat->Bool
 |0=>iV
 |k+1=>jA s k&&(match s.fV[k]? with|some v=>lG s k v|none=>iV)
def dh(s:Sto):Bool:=((decide (s.fV.length<=3)&&bU s.fK)&&(decide (1<=s.next)&&decide (s.next<=1000000000)))&&(jA s s.fV.length&&decide ((jD s.fK (cD s.fV)).length=s.fK.length))
variable{r id:Int}{v:Int × Int}{k j i n:Nat}{u:Nat -> Bool}
variable{s:Sto}
theorem Aj(h:s.fV[k]?=X v):jA s (k+1)=(jA s k&&lG s k v):=by rw[jA,h]
theorem XV(h:j<=k)(a:jA s k=iV):jA s j=iV:=by
 induction k with
 |zero=>have:j=0:=by omega
        subst this;exact a
 |succ k b=>
  rw[jA,bn]at a;by_cases e:j=k+1
  ·subst e;rw[jA,bn];exact a
  ·exact b (by omega) a.1
theorem Hv(h:jA s s.fV.length=iV)(hi:s.fV[i]?=X v):lG s i v=iV:=by
 have a:=(aB.1 hi).1;have:=XV (show i+1<=s.fV.length by omega) h
 rw[Aj hi,bn]at this;exact this.2
theorem PU(hi:s.fV[i]?=X v)(a:lG s i v=iF):jA s s.fV.length=iF:=by
 cases h:jA s s.fV.length with
 |false=>rfl
 |true=>rw[Hv h hi]at a;cases a
theorem WC(h:∀i v,s.fV[i]?=X v->lG s i v=iV):∀k,k<=s.fV.length->jA s k=iV:=by
 intro k
 induction k with
 |zero=>intro _;rfl
 |succ k a=>
  intro b;have e:=ay (show k<s.fV.length by omega)
  rw[Aj e,a (by omega),h k _ e]
  rfl
theorem aay(h:cX u n=n):∀j,j<n->u j=iV:=by
 induction n with
 |zero=>intro j b;omega
 |succ n c=>
  rw[qU]at h;have h1:=Cw u n;cases a:u n with
  |false=>rw[a,aj (by decide)]at h;omega
  |true=>
   rw[a,ak rfl]at h;intro j b;by_cases e:j=n
   ·subst e;exact a
   ·exact c (by omega) j (by omega)
structure Sto.Near (s:Sto):Prop where
 few:s.fV.length<=3
 ar:bU s.fK=iV
 nx:1<=s.next/\s.next<=1000000000
 ids:∀v∈s.fV,1<=v.1/\v.1<=9
 asc:s.fV.Pairwise (λu v=>u.1<v.1)
 root:∀v∈s.fV,bt s.fK v.2=iV
 less:∀v∈s.fV,∀k:Nat,k<=15->ce s.fK v.2 k<s.next
structure Sto.Right (s:Sto):Prop extends Sto.Near s where
 used:∀j,j<s.fK.length->bC s.fK (cD s.fV) j=iV
theorem Sto.Near.trs(h:s.Near):mY s.fK (cD s.fV):=⟨h.ar,λr a=>by
 obtain⟨v,b,rfl⟩:=bJ.1 a;exact h.root v b⟩
theorem L7{l:List (Int×Int)}(h:∀i u v,l[i]?=X u->l[i+1]?=X v->u.1<v.1):l.Pairwise (λu v=>u.1<v.1):=by
 have c:∀d i u v,l[i]?=X u->l[i+d+1]?=X v->u.1<v.1:=by
  intro d
  induction d with
  |zero=>intro i u v h1 f;exact h i u v h1 f
  |succ d m=>
   intro i u v h1 f;have n:=(aB.1 f).1;have e:=ay (show i+d+1<l.length by omega)
   have a:=m i u _ h1 e;have b:=h (i+d+1) _ v e (by rw[show i+d+1+1=i+(d+1)+1 by omega];exact f)
   omega
 rw[nh];intro i j hi k g;refine c (j-i-1) i _ _ (ay hi) ?_;rw[show i+(j-i-1)+1=j by omega]
 exact ay k
theorem CQ:ke s r 16=iV↔∀k:Nat,k<=15->ce s.fK r k<s.next:=by
 rw[ke,gV];constructor
 ·intro h k a;have:=h k (iw.2 (by omega))
  simpa using this
 ·intro h k a;have:=h k (by have:=iw.1 a;omega)
  simpa using this
theorem jR(s:Sto):dh s=iV↔s.Right:=by
 unfold dh;simp only[bn,sN];constructor
 ·rintro⟨⟨⟨h1,g⟩,k⟩,h4,d⟩;have vb:∀i v,s.fV[i]?=X v->((1<=v.1/\v.1<=9)/\mK s i v.1=iV)/\bt s.fK v.2=iV/\ke s v.2 16=iV:=by
   intro i v hi;have:=Hv h4 hi;rw[lG]at this
   simpa only[bn,sN]using this
  have c:∀v∈s.fV,(1<=v.1/\v.1<=9)/\bt s.fK v.2=iV/\ke s v.2 16=iV:=by
   intro v a;obtain⟨i,hi,e⟩:=qz.1 a;have:=vb i v (by rw[<-e];exact ay hi)
   exact⟨this.1.1,this.2⟩
  have f:s.Near:=by
   refine⟨h1,g,k,λv a=>(c v a).1,L7 ?_,λv a=>(c v a).2.1,λv a=>CQ.1 (c v a).2.2⟩
   intro i u v m a;have:=(vb (i+1) v a).1.2;rw[mK,m]at this
   simpa using this
  refine⟨f,?_⟩;rw[jD,ak (xg f.trs),uS]at d;exact aay d
 ·intro h;refine⟨⟨⟨h.few,h.ar⟩,h.nx⟩,WC ?_ _ (am _),?_⟩
  ·intro i v hi;have b:=aO hi;rw[lG];simp only[bn,sN];refine⟨⟨h.ids v b,?_⟩,h.root v b,CQ.2 (h.less v b)⟩;cases i with
   |zero=>rfl
   |succ j=>
    have l:=(aB.1 hi).1;have e:=ay (show j<s.fV.length by omega)
    rw[mK,e];have:=(nh.1 h.asc) j (j+1) (by omega) l (by omega)
    rw[(aB.1 hi).2]at this
    simpa using this
  ·rw[jD,ak (xg h.trs),uS];exact He h.used _ (am _)
def ja(l:List (Int×Int))(id:Int):Nat->Option Nat
 |0=>O
 |k+1=>match ja l id k with
  |some j=>X j
  |none=>match l[k]? with
   |some v=>if v.1=id then X k else O
   |none=>O
def bO(l:List (Int×Int))(id:Int):Option Nat:=ja l id l.length
theorem Oo{l:List (Int×Int)}(h:ja l id k=X j):j<k/\∃v,l[j]?=X v/\v.1=id:=by
 induction k with
 |zero=>cases h
 |succ k b=>
  rw[ja]at h;cases e:ja l id k with
  |some i=>
   rw[e]at h;injection h with h
   subst h;obtain⟨h1,a⟩:=b e;exact⟨by omega,a⟩
  |none=>
   rw[e]at h;simp only at h;split at h
   ·rename_i v hv
    split at h
    ·rename_i hid
     injection h with h
     subst h;exact⟨by omega,v,hv,hid⟩
    ·cases h
   ·cases h
theorem Pj{l:List (Int×Int)}(h:ja l id k=O):∀j v,j<k->l[j]?=X v->v.1≠id:=by
 induction k with
 |zero=>intro j v d;omega
 |succ k f=>
  rw[ja]at h;cases e:ja l id k with
  |some i=>rw[e]at h;cases h
  |none=>
   rw[e]at h;simp only at h;intro j v d b;by_cases c:j=k
   ·subst c;rw[b]at h;simp only at h;intro a;rw[ak a]at h;cases h
   ·exact f e j v (by omega) b
theorem Pu{l:List (Int×Int)}(h:ja l id k=O)(b:l[k]?=X v)(a:v.1≠id):ja l id (k+1)=O:=by
 rw[ja,h,b];exact aj a
theorem VR{l:List (Int×Int)}(h:ja l id k=O)(b:l[k]?=X v)(a:v.1=id):∀m,k<m->ja l id m=X k:=by
 intro m
 induction m with
 |zero=>intro h;omega
 |succ m c=>
  intro d;by_cases e:m=k
  ·subst e;rw[ja,h,b];exact ak a
  ·rw[ja,c (by omega)]
theorem qa{l:List (Int×Int)}(h:bO l id=X j):∃v,l[j]?=X v/\v.1=id:=(Oo h).2
theorem AJ{l:List (Int×Int)}(h:bO l id=O):∀v∈l,v.1≠id:=by
 intro v a;obtain⟨i,hi,e⟩:=qz.1 a;exact Pj h i v hi (by rw[<-e];exact ay hi)
theorem Zk{l:List (Int×Int)}(a:v∈l)(e:v.1=id):∃j,bO l id=X j:=by
 cases h:bO l id with
 |some j=>exact⟨j,rfl⟩
 |none=>exact absurd e (AJ h v a)
def m8(l:List (Int×Int))(id:Int):Option Int:=(bO l id).bind (λk=>(l[k]?).map (·.2))
def im(s:Sto):Sto:=⟨List.zipWith (λv r=>(v.1,r)) s.fV (mC s.fK (cD s.fV)),jD s.fK (cD s.fV),s.next⟩
def gQ(l:List (Int×Int))(id r:Int):List (Int×Int):=l.filter (λv=>decide (v.1<id))++(id,r)::l.filter (λv=>decide (id<v.1))
def fx(s:Sto)(r:Rc):Sto×Bool:=
 match (if 0<r.arg then m8 s.fV r.arg else X (-1))with
 |none=>(s,iF)
 |some q=>if (bO s.fV r.vol).isSome||decide (s.fV.length=3)then(s,iF)else(⟨gQ s.fV r.vol q,s.fK,s.next⟩,iV)
def wU(s:Sto)(k:Nat):Sto:=im ⟨s.fV.take k++s.fV.drop (k+1),s.fK,s.next⟩
def ow(s:Sto)(k:Nat)(v:Int×Int)(r:Rc):Sto:=im ⟨s.fV.set k (v.1,jw s.fK v.2 r.arg r.fC),gS s.fK v.2 r.arg r.fC,if s.next<=r.fC then r.fC+1 else s.next⟩
def aY(s:Sto)(r:Rc):Sto×Bool:=
 letI:=r.decR
 if dh s=iV/\r.Right then
  if r.kind=1 then(⟨[],[],if r.arg=0 then 1 else r.arg⟩,iV)
  else if r.kind=2 then fx s r
  else match bO s.fV r.vol with
   |none=>(s,iF)
   |some k=>if r.fC=1000000000 then(s,iF)else if r.kind=3 then(wU s k,iV)else(ow s k ((s.fV[k]?).getD (0,0)) r,iV)
 else(s,iF)
def dO:Sto->List Rc->Option Sto
 |s,[]=>X s
 |s,r::l=>if (aY s r).2=iV then dO (aY s r).1 l else O
def jd(s:Sto)(l:List Rc):Sto×Bool:=match dO s l with
 |some n=>(n,iV)
 |none=>(s,iF)
def je(s:Sto)(b a:Int):Int:=match m8 s.fV b with
 |some r=>gj s.fK r a
 |none=>0
def eF(l:List Int)(x:Int):List Int:=l.filter (λy=>decide (y<x))++(if 0<x then[x]else[])++l.filter (λy=>decide (x<y))
def aI(s:Sto):List Int:=s.fV.foldl (λacc v=>(bu s.fK v.2).foldl eF acc) []
def kd(id:Int)(L:List Int)(k:Nat):List Rc:=(List.range k).filterMap (λ(j:Nat)=>if 0<(L[j]?).getD 0 then X ⟨4,id,(j:Int),(L[j]?).getD 0⟩else O)
def pW(l:List Kn)(v:Int×Int):List Rc:=⟨2,v.1,0,0⟩::kd v.1 (bu l v.2) 16
def hJ(s:Sto):List Rc:=⟨1,0,s.next,0⟩::s.fV.flatMap (pW s.fK)
def cT(s:Sto):List (Int×List Int):=s.fV.map (λv=>(v.1,bu s.fK v.2))
def qK(a b:Sto):Bool:=decide (cT a=cT b)&&decide (a.next=b.next)
theorem qg(h:s.Near):(im s).fV=s.fV.map (λv=>(v.1,fL (bC s.fK (cD s.fV)) v.2)):=by
 show List.zipWith _ _ _=_;rw[mC,ak (xg h.trs)];generalize fL (bC s.fK (cD s.fV))=f;unfold cD;generalize s.fV=l
 induction l with
 |nil=>rfl
 |cons v l a=>simp only[cn,List.zipWith_cons_cons,a]
theorem rW(h:s.Near):(im s).fK=jZ s.fK (cD s.fV):=by
 show jD _ _=_;rw[jD,ak (xg h.trs)]
theorem UJ(h:s.Near):cD (im s).fV=(cD s.fV).map (fL (bC s.fK (cD s.fV))):=by
 rw[qg h];unfold cD;rw[Bh,Bh];rfl
theorem Bo(h:s.Near):(im s).Right:=by
 have d:∀v∈s.fV,v.2∈cD s.fV:=λv a=>bJ.2 ⟨v,a,rfl⟩
 refine⟨⟨?_,?_,h.nx,?_,?_,?_,?_⟩,?_⟩
 ·rw[qg h,bm];exact h.few
 ·rw[rW h];exact I4 h.trs
 ·rw[qg h];intro v a;obtain⟨u,b,rfl⟩:=bJ.1 a;exact h.ids u b
 ·rw[qg h,uH];exact h.asc
 ·rw[qg h,rW h];intro v a;obtain⟨u,b,rfl⟩:=bJ.1 a;exact JW h.trs (d u b)
 ·rw[qg h,rW h];intro v a k c;obtain⟨u,b,rfl⟩:=bJ.1 a;show ce _ _ k<s.next;rw[Kd h.trs (d u b) c];exact h.less u b k c
 ·rw[UJ h,rW h];intro j e;exact Wz h.trs e
theorem wE(h:s.Near):cT (im s)=cT s:=by
 unfold cT;rw[qg h,rW h,Bh];refine nY λv a=>?_
 show(v.1,_)=(v.1,_);rw[On h.trs (bJ.2 ⟨v,a,rfl⟩)]
end Words
end Go.Proofs.YtgigcooffjjbgaaGreatDoor
