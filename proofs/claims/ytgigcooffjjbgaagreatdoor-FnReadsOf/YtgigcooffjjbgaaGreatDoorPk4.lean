/-
  RcMath; TxMath; TxMath2; TrMath3; TrMath4; SwMath; StoM
-/
import Derived.Test.YtgigcooffjjbgaaGreatDoorPk2
import Derived.Test.YtgigcooffjjbgaaGreatDoorPk1
open Option renaming none→O,some→X
open Bool renaming true→iV,false→iF
namespace Go.Proofs.YtgigcooffjjbgaaGreatDoor.Words
structure Rc where
 kind:Int
 vol:Int
 arg:Int
 fC:Int
def Rc.tu(r:Rc):Int×Int×Int×Int:=(r.kind,r.vol,r.arg,r.fC)
def Rc.Right(r:Rc):Prop:=
 (0<=r.arg/\r.arg<=1000000000)/\(r.kind=1/\r.vol=0/\r.fC=0∨(1<=r.vol/\r.vol<=9)/\(r.kind=2/\r.arg<=9/\r.fC=0∨r.kind=3/\r.arg=0/\r.fC=0∨r.kind=4/\r.arg<16/\1<=r.fC/\r.fC<=1000000000∨r.kind=5/\r.arg<16/\r.fC=0))
abbrev Rc.decR(r:Rc):Decidable r.Right:=by unfold Rc.Right;exact inferInstance
def iD(r:Rc):List UInt8:=UInt8.ofNat (16*r.kind+r.vol).toNat::(bK r.arg.toNat++bK r.fC.toNat)
def mu(r:Rc):ByteArray:=(oI (16*r.kind+r.vol).toNat++fB r.arg.toNat)++fB r.fC.toNat
theorem Fh(r:Rc):(mu r).data.toList=iD r:=by
 simp[mu,iD,oI,fB,ByteArray.data_append]
theorem x8(r:Rc)(h:r.Right):3<=(iD r).length/\(iD r).length<=19:=by
 obtain⟨h1,c⟩:=h;have a:=p8 r.arg.toNat (by omega)
 have b:=p8 r.fC.toNat (by omega)
 simp only[iD,aW,aI];omega
def dU:List Rc->List UInt8
 | []=> []
 |r::l=>iD r++dU l
theorem FG(a b:List Rc):dU (a++b)=dU a++dU b:=by
 induction a with
 |nil=>rfl
 |cons r a c=>simp only[ii,dU,c,fW]
theorem JI(a:List Rc)(r:Rc):dU (a++[r])=dU a++iD r:=by
 rw[FG];simp[dU]
theorem WQ(a:List Rc)(h:∀r∈a,r.Right):3*a.length<=(dU a).length/\(dU a).length<=19*a.length:=by
 induction a with
 |nil=>simp[dU]
 |cons r a c=>
  have h1:=x8 r (h r (by simp))
  have d:=c (λx b=>h x (by simp[b]))
  simp only[dU,aI,aW];omega
def lB(l:List UInt8)(q:Nat):Option (Rc×Nat):=
 match l[q]? with
 |none=>O
 |some k=>
  match bR l (q+1)with
  |none=>O
  |some (a,i)=>
   match bR l i with
   |none=>O
   |some (c,j)=>letI:=(Rc.mk (k.toNat/16:Nat) (k.toNat % 16:Nat) a c).decR;if (Rc.mk (k.toNat/16:Nat) (k.toNat % 16:Nat) a c).Right then X (Rc.mk (k.toNat/16:Nat) (k.toNat % 16:Nat) a c,j)else O
variable{q j:Nat}
theorem WZ{l:List UInt8}{k:UInt8}(h:l[q]?=X k):q<l.length/\l.drop q=k::l.drop (q+1):=by
 obtain⟨h1,a⟩:=aC.1 h;exact⟨h1,by rw[<-a];exact jh h1⟩
theorem Mj{l:List UInt8}{r:Rc}(h:lB l q=X (r,j)):
 ∃(k:UInt8) (a i c:Nat),l[q]?=X k/\bR l (q+1)=X (a,i)/\bR l i=X (c,j)/\r=Rc.mk (k.toNat/16:Nat) (k.toNat % 16:Nat) a c/\r.Right:=by
 unfold lB at h;split at h
 ·cases h
 rename_i k hk
 split at h
 ·cases h
 rename_i a i ha
 split at h
 ·cases h
 rename_i c j' hc
 split at h
 ·rename_i hr
  cases h;exact⟨k,a,i,c,hk,ha,hc,rfl,hr⟩
 ·cases h
theorem wN{l:List UInt8}{r:Rc}(h:lB l q=X (r,j)):r.Right/\q<l.length/\q<j/\j<=l.length/\l.drop q=iD r++l.drop j:=by
 obtain⟨k,a,i,c,p,d,f,rfl,g⟩:=Mj h;obtain⟨h1,o⟩:=WZ p;have m:=sd _ _ _ _ d;have n:=sd _ _ _ _ f;have t:=nQ l (q+1) a i (by omega) d
 have u:=nQ l i c j (by omega) f
 have e:UInt8.ofNat (16*((k.toNat/16:Nat):Int)+((k.toNat % 16:Nat):Int)).toNat=k:=by
  have:(16*((k.toNat/16:Nat):Int)+((k.toNat % 16:Nat):Int)).toNat=k.toNat:=by omega
  rw[this];exact UInt8.ofNat_toNat
 have b:l.drop q=iD (Rc.mk (k.toNat/16:Nat) (k.toNat % 16:Nat) a c)++l.drop j:=by
  rw[o,m,n];simp only[iD,e,bi,ii,fW]
 refine⟨g,h1,?_,by omega,b⟩
 have s:=x8 _ g;have:=congrArg List.length b;simp only[aI,iz]at this;omega
theorem Nk{l:List UInt8}{r:Rc}{t:List UInt8}(b:r.Right)(h:l.drop q=iD r++t):lB l q=X (r,q+(iD r).length)/\l.drop (q+(iD r).length)=t:=by
 have j:=b;obtain⟨h1,e⟩:=j;have m:l[q]?=X (UInt8.ofNat (16*r.kind+r.vol).toNat):=by
  have:(l.drop q)[0]?=X (UInt8.ofNat (16*r.kind+r.vol).toNat):=by rw[h];rfl
  rw[ly]at this
  simpa using this
 have f:l.drop (q+1)=bK r.arg.toNat++(bK r.fC.toNat++t):=by
  rw[<-wg,h];simp[iD]
 obtain⟨i,h4⟩:=sz l (q+1) r.arg.toNat _ (by omega) f
 obtain⟨k,g⟩:=sz l _ r.fC.toNat _ (by omega) h4
 have c:(UInt8.ofNat (16*r.kind+r.vol).toNat).toNat=(16*r.kind+r.vol).toNat:=by rw[qp];omega
 have d:Rc.mk ((UInt8.ofNat (16*r.kind+r.vol).toNat).toNat/16:Nat) ((UInt8.ofNat (16*r.kind+r.vol).toNat).toNat % 16:Nat) (r.arg.toNat:Nat) (r.fC.toNat:Nat)=r:=by
  rw[c];cases r;simp only[Rc.mk.injEq];simp only at h1 e;omega
 have a:q+(iD r).length=q+1+(bK r.arg.toNat).length+(bK r.fC.toNat).length:=by simp only[iD,aW,aI];omega
 constructor
 ·unfold lB;rw[m];simp only[i,k,a];rw[d,ak b]
 ·rw[a];exact g
def qQ(l:List UInt8):Nat->Nat->Option (List Rc)
 |0,_=>O
 |f+1,q=>if l.length<=q then X []else
  match lB l q with
  |none=>O
  |some (r,j)=>(qQ l f j).map (r::·)
def fR(l:List UInt8)(q:Nat):Option (List Rc):=qQ l (l.length-q+1) q
theorem OM(l:List UInt8):∀(f q:Nat),l.length-q+1<=f->qQ l f q=fR l q:=by
 intro f
 induction f using Nat.strongRecOn with
 |ind f ih=>
  intro q h;cases f with
  |zero=>omega
  |succ f=>
   unfold fR;simp only[qQ];split
   ·rfl
   ·cases e:lB l q with
    |none=>rfl
    |some x=>
     obtain⟨r,j⟩:=x;obtain⟨-,h1,b,c,-⟩:=wN e;simp only;rw[ih f (by omega) j (by omega)]
     by_cases a:l.length-q=f
     ·rw[a,ih f (by omega) j (by omega)]
     ·rw[ih (l.length-q) (by omega) j (by omega)]
theorem Bt{l:List UInt8}(h:l.length<=q):fR l q=X []:=by
 unfold fR;simp only[qQ,ak h]
theorem yL{l:List UInt8}(h:q<l.length)(h1:lB l q=O):fR l q=O:=by
 unfold fR;simp only[qQ,ai (Nat.not_le.2 h),h1]
theorem xF{l:List UInt8}{r:Rc}(h1:lB l q=X (r,j)):fR l q=(fR l j).map (r::·):=by
 obtain⟨-,a,b,c,-⟩:=wN h1;unfold fR;simp only[qQ,ai (Nat.not_le.2 a),h1];rw[OM l (l.length-q) j (by omega)]
 rfl
theorem ZD:∀(x:List Rc) (l:List UInt8) (q:Nat),(∀r∈x,r.Right)->l.drop q=dU x->fR l q=X x:=by
 intro x
 induction x with
 |nil=>
  intro l q _ h;have:=congrArg List.length h;simp only[dU,iz,dW]at this;exact Bt (by omega)
 |cons r x c=>
  intro l q a h;obtain⟨h1,b⟩:=Nk (a r (by simp)) (by simpa only[dU]using h)
  rw[xF h1,c l _ (λy hy=>a y (by simp[hy])) b]
  rfl
theorem VQ:∀(x:List Rc) (l:List UInt8) (q:Nat),fR l q=X x->(∀r∈x,r.Right)/\l.drop q=dU x:=by
 intro x
 induction x with
 |nil=>
  intro l q h;refine⟨by simp,?_⟩
  by_cases b:l.length<=q
  ·exact mw b
  ·cases e:lB l q with
   |none=>rw[yL (by omega) e]at h;cases h
   |some y=>
    obtain⟨r,j⟩:=y;rw[xF e]at h;cases a:fR l j with
    |none=>rw[a]at h;cases h
    |some z=>rw[a]at h;simp at h
 |cons r x f=>
  intro l q h;by_cases b:l.length<=q
  ·rw[Bt b]at h;simp at h
  ·cases e:lB l q with
   |none=>rw[yL (by omega) e]at h;cases h
   |some y=>
    obtain⟨g,j⟩:=y;rw[xF e]at h;cases a:fR l j with
    |none=>rw[a]at h;cases h
    |some z=>
     rw[a]at h;simp at h;obtain⟨rfl,rfl⟩:=h;obtain⟨h1,c⟩:=f l j a;obtain⟨d,-,-,-,h4⟩:=wN e;refine⟨?_,?_⟩
     ·intro y hy;rcases be.1 hy with rfl|hy
      ·exact d
      ·exact h1 y hy
     ·rw[h4,c];rfl
end Go.Proofs.YtgigcooffjjbgaaGreatDoor.Words
namespace Go.Proofs.YtgigcooffjjbgaaGreatDoor.Words
def eS(l:List Rc):ByteArray:=⟨(dU l).toArray⟩
theorem Io(l:List Rc):(eS l).size=(dU l).length:=by show(dU l).toArray.size=_;simp
theorem Gp(l:List Rc):(eS l).data.toList=dU l:=rfl
theorem WL(l:List Rc)(r:Rc):eS l++mu r=eS (l++[r]):=by
 apply tP;rw[tB,Dp,Fh];show(dU l).toArray.toList++iD r=(dU (l++[r])).toArray.toList;rw[JI]
theorem Yt(r:Rc):eS [r]=mu r:=by
 apply tP;rw[Fh];show iD r++[]=_;simp
def qc(s:List (List Rc)×List Rc)(r:Rc):List (List Rc)×List Rc:=
 if 90<(dU s.2).length+(iD r).length then(s.1++[s.2],[r])else(s.1,s.2++[r])
def pk(l:List Rc):List (List Rc)×List Rc:=l.foldl qc ([],[])
def cU(l:List Rc):List (List Rc):=(pk l).1++[(pk l).2]
theorem Xs:pk []=([],[]):=rfl
theorem Bw(l:List Rc)(r:Rc):pk (l++[r])=qc (pk l) r:=by simp[pk,List.foldl_append]
variable{α:Type}{k i:Nat}
theorem Wk{l:List Rc}{r:Rc}(h:l[k]?=X r):pk (l.take (k+1))=qc (pk (l.take k)) r:=by
 rw[fm,h];exact Bw _ _
theorem yz(l:List Rc):0<(cU l).length:=by simp[cU]
theorem uP{P:List α->Prop}(h0:P [])(h1:∀l r,P l->P (l++[r])):∀l,P l:=by
 intro l;have:∀m:List α,P m.reverse:=by
  intro m
  induction m with
  |nil=>simpa using h0
  |cons a m b=>rw[List.reverse_cons];exact h1 _ _ b
 simpa using this l.reverse
theorem UX(l:List Rc):(cU l).flatten=l:=by
 induction l using uP with
 |h0=>rfl
 |h1 l r ih=>
  unfold cU at*;rw[Bw];unfold qc;split
  ·simp only[List.flatten_append,zi,List.flatten_nil,dS]at ih⊢;rw[ih]
  ·simp only[List.flatten_append,zi,List.flatten_nil,dS]at ih⊢;rw[<-fW,ih]
theorem Ol(l:List Rc)(h:∀r∈l,r.Right):∀g∈cU l,(dU g).length<=90:=by
 induction l using uP with
 |h0=>intro g a;simp[cU,Xs]at a;subst a;simp[dU]
 |h1 l r ih=>
  have b:=ih (λx c=>h x (by simp[c]))
  have d:=x8 r (h r (by simp))
  unfold cU at*;rw[Bw];unfold qc;intro g a;split at a
  ·simp only[bJ,bU]at a b;rcases a with(a|a)|a
   ·exact b g (.inl a)
   ·exact b g (.inr a)
   ·subst a;simp only[dU,dS];omega
  ·simp only[bJ,bU]at a b;rcases a with a|a
   ·exact b g (.inl a)
   ·subst a;rw[JI,aI];omega
def ja(seq tx:Int)(l:List Rc):Prop:=
 (∀r∈l,r.Right)/\(cU l).length<=9/\1<=seq/\seq<=1000000000-(cU l).length+1/\1<=tx/\tx<=1000000000
abbrev nh(seq tx:Int)(l:List Rc):Decidable (ja seq tx l):=by unfold ja;exact @instDecidableAnd _ _ (@List.decidableBAll _ _ (λr=>r.decR) l) _
def ry(seq tx:Int)(n:Nat)(i:Nat)(g:List Rc):Pg:=⟨2,seq+i,tx,i,n,eS g⟩
def co(seq tx:Int)(l:List Rc):List Pg:=(cU l).mapIdx (ry seq tx (cU l).length)
theorem xn(seq tx:Int)(l:List Rc):(co seq tx l).length=(cU l).length:=by simp[co]
variable{p:Pg}
theorem vz{seq tx:Int}{l:List Rc}(h:(co seq tx l)[i]?=X p):∃g,(cU l)[i]?=X g/\p=ry seq tx (cU l).length i g:=by
 unfold co at h;rw[Fb]at h;cases a:(cU l)[i]? with
 |none=>rw[a]at h;simp at h
 |some g=>rw[a]at h;simp at h;exact⟨g,rfl,h.symm⟩
theorem Kb{seq tx:Int}{l:List Rc}{g:List Rc}(h:(cU l)[i]?=X g):(co seq tx l)[i]?=X (ry seq tx (cU l).length i g):=by
 unfold co;rw[Fb,h];rfl
def kj(seq tx:Int)(l:List Rc):List Pg:=letI:=nh seq tx l;if ja seq tx l then co seq tx l else[]
def qI(ps:List Pg)(tx:Int):Option Pg:=ps.find? (λp=>decide (p.kind=2/\p.tx=tx/\p.part=0))
def rC(ps:List Pg)(tx k c:Int):Option Pg:=ps.find? (λp=>decide (p.kind=2/\p.tx=tx/\p.part=k/\p.count=c))
def jH(ps:List Pg)(tx c:Int):Nat->Nat->Option (List Pg)
 |0,_=>X []
 |n+1,k=>
  match rC ps tx k c with
  |none=>O
  |some p=>(jH ps tx c n (k+1)).map (p::·)
def kH(ps:List Pg)(tx:Int):Option (List Pg):=
 match qI ps tx with
 |none=>O
 |some p=>(jH ps tx p.count (p.count.toNat-1) 1).map (p::·)
structure TxR where
 num:Int
 seq:Int
 fR:List Rc
def lD(l:List Pg):ByteArray:=⟨(l.flatMap (λp=>p.text.data.toList)).toArray⟩
theorem OH(l:List Pg)(p:Pg):lD l++p.text=lD (l++[p]):=by
 apply tP;rw[tB,Dp];simp[lD]
theorem ZR(l:List Pg):(lD l).data.toList=l.flatMap (λp=>p.text.data.toList):=rfl
def pe:List Pg->Int
 | []=>0
 |p::l=>l.foldl (λm q=>if q.seq<m then q.seq else m) p.seq
theorem Zd(p:Pg):pe [p]=p.seq:=rfl
theorem aaB{l:List Pg}(h:l≠ [])(q:Pg):pe (l++[q])=if q.seq<pe l then q.seq else pe l:=by
 cases l with
 |nil=>exact absurd rfl h
 |cons p l=>
  show(l++[q]).foldl _ p.seq=_;rw[sQ];rfl
def dx(ps:List Pg)(tx:Int):Option TxR:=
 match kH ps tx with
 |none=>O
 |some l=>(fR (lD l).data.toList 0).map (λrs=>⟨tx,pe l,rs⟩)
def rO(ns:List Int)(x:Int):List Int:=ns.filter (λy=>decide (y<x))++[x]++ns.filter (λy=>decide (x<y))
def pB(ns:List Int)(p:Pg):List Int:=if p.kind=2 then rO ns p.tx else ns
def dA(ps:List Pg):List Int:=ps.foldl pB []
variable{ps:List Pg}
theorem RJ(h:ps[k]?=X p):dA (ps.take (k+1))=pB (dA (ps.take k)) p:=by
 rw[fm,h];simp[dA,List.foldl_append]
theorem zQ(ps:List Pg)(p:Pg):dA (ps++[p])=pB (dA ps) p:=by simp[dA,List.foldl_append]
theorem TF(ns:List Int)(x y:Int):y∈rO ns x↔y=x∨y∈ns:=by
 simp only[rO,bJ,gQ,bU,tw];constructor
 ·rintro((⟨h,-⟩|h)|⟨h,-⟩)<;>simp_all
 ·rintro(h|h)
  ·simp[h]
  ·rcases Int.lt_trichotomy y x with g|g|g<;>simp_all
theorem ZF(ns:List Int)(x:Int)(h:ns.Pairwise (·<·)):(rO ns x).Pairwise (·<·):=by
 unfold rO;rw[iE,iE];refine⟨⟨h.filter _,by simp,?_⟩,h.filter _,?_⟩
 ·intro a c b d;simp at c d;omega
 ·intro a c b d;simp at c d;omega
theorem Qg(ns:List Int)(x:Int):(rO ns x).length<=ns.length+1:=by
 have h:(ns.filter (λy=>decide (y<x))).length+(ns.filter (λy=>decide (x<y))).length<=ns.length:=by
  induction ns with
  |nil=>simp
  |cons a ns c=>
   rw[kC,kC];rcases Int.lt_trichotomy a x with g|g|g
   ·have e:¬x<a:=by omega
    simp only[g,e,rK,oQ,dF,aW];simp only[ge,fQ];omega
   ·have e:¬x<a:=by omega
    have b:¬a<x:=by omega
    simp only[e,b,oQ,aW];simp only[ge,fQ];omega
   ·have e:¬a<x:=by omega
    simp only[g,e,rK,oQ,dF,aW];simp only[ge,fQ];omega
 simp only[rO,aI,aW,dW];omega
theorem rG(ps:List Pg):(dA ps).Pairwise (·<·):=by
 induction ps using uP with
 |h0=>simp[dA]
 |h1 ps p ih=>
  rw[zQ];unfold pB;split
  ·exact ZF _ _ ih
  ·exact ih
theorem rj(ps:List Pg)(x:Int):x∈dA ps↔∃p∈ps,p.kind=2/\p.tx=x:=by
 induction ps using uP with
 |h0=>simp[dA]
 |h1 ps p ih=>
  rw[zQ];unfold pB;split
  ·rename_i hk
   rw[TF,ih];constructor
   ·rintro(h|⟨q,a,h⟩)
    ·exact⟨p,by simp,hk,h.symm⟩
    ·exact⟨q,by simp[a],h⟩
   ·rintro⟨q,a,h1,b⟩;rw[bJ,bU]at a;rcases a with a|a
    ·exact .inr ⟨q,a,h1,b⟩
    ·subst a;exact .inl b.symm
  ·rename_i hk
   rw[ih];constructor
   ·rintro⟨q,a,h⟩;exact⟨q,by simp[a],h⟩
   ·rintro⟨q,a,h1,b⟩;rw[bJ,bU]at a;rcases a with a|a
    ·exact⟨q,a,h1,b⟩
    ·subst a;exact absurd h1 hk
theorem GE:∀{a b:List Int},a.Pairwise (·<·)->b.Pairwise (·<·)->(∀x,x∈a↔x∈b)->a=b:=by
 intro a
 induction a with
 |nil=>
  intro b _ _ h;cases b with
  |nil=>rfl
  |cons y b=>have:=(h y).2 (by simp);simp at this
 |cons x a o=>
  intro b l n h;cases b with
  |nil=>have:=(h x).1 (by simp);simp at this
  |cons y b=>
   obtain⟨g,j⟩:=gx.1 l;obtain⟨i,k⟩:=gx.1 n;have d:x=y:=by
    have h1:=(h x).1 (by simp)
    have c:=(h y).2 (by simp)
    rw[be]at h1 c;rcases h1 with h1|h1
    ·exact h1
    ·rcases c with c|c
     ·exact c.symm
     ·have:=i x h1;have:=g y c;omega
   subst d;refine congrArg _ (o j k λz=>?_)
   have f:=h z;rw[be,be]at f;constructor
   ·intro m;rcases f.1 (.inr m)with e|e
    ·subst e;have:=g z m;omega
    ·exact e
   ·intro m;rcases f.2 (.inr m)with e|e
    ·subst e;have:=i z m;omega
    ·exact e
theorem Fz(ps:List Pg):(dA ps).length<=ps.length:=by
 induction ps using uP with
 |h0=>simp[dA]
 |h1 ps p ih=>
  rw[zQ,aI];unfold pB;split
  ·have:=Qg (dA ps) p.tx;simp only[aW,dW];omega
  ·omega
def dM(ps:List Pg):List TxR:=(dA ps).filterMap (dx ps)
theorem KU(ps:List Pg):((dM ps).map (·.num)).Pairwise (·<·):=by
 have h:=rG ps;unfold dM;generalize dA ps=ns at h
 induction ns with
 |nil=>simp
 |cons n ns f=>
  obtain⟨h1,d⟩:=gx.1 h;rw[qD];split
  ·exact f d
  ·rename_i x hx
   rw[cB,gx];refine⟨?_,f d⟩;intro y hy;have c:∀{m:Int} {z:TxR},dx ps m=X z->z.num=m:=by
    intro m z a;unfold dx at a;split at a
    ·cases a
    ·cases e:fR (lD _).data.toList 0 with
     |none=>rw[e]at a;cases a
     |some rs=>rw[e]at a;cases a;rfl
   obtain⟨z,a,rfl⟩:=bZ.1 hy;obtain⟨m,g,b⟩:=tU.1 a;rw[c hx,c b];exact h1 m g
def TxR.base(t:TxR):Bool:=match t.fR with
 | []=>iF
 |r::_=>r.kind==1
def gk(l:List TxR):Nat->Nat
 |0=>0
 |i+1=>match l[i]? with
  |none=>gk l i
  |some t=>if t.base then i else gk l i
def kg(l:List TxR):List TxR:=l.drop (gk l l.length)
theorem Dj(l:List TxR):∀i,gk l i<=i:=by
 intro i
 induction i with
 |zero=>simp[gk]
 |succ i a=>
  simp only[gk];split
  ·omega
  ·split<;>omega
theorem Jr(l:List TxR):∀i,i<=l.length->(gk l i=0∨∃t,l[gk l i]?=X t/\t.base=iV)/\∀j t,gk l i<j->j<i->l[j]?=X t->t.base=iF:=by
 intro i
 induction i with
 |zero=>intro _;exact⟨.inl rfl,λj t h1 a=>by omega⟩
 |succ i d=>
  intro hi;obtain⟨h1,a⟩:=d (by omega)
  have c:=Dj l i;simp only[gk];split
  ·rename_i hn
   have:=Dc.1 hn;omega
  ·rename_i t ht
   cases b:t.base with
   |true=>exact⟨.inr ⟨t,by simpa using ht,b⟩,λj u g1 g2=>by simp at g1;omega⟩
   |false=>
    refine⟨by simpa using h1,λj u g1 g2 g3=>?_⟩
    simp at g1;by_cases e:j=i
    ·subst e;rw[ht]at g3;cases g3;exact b
    ·exact a j u g1 (by omega) g3
end Go.Proofs.YtgigcooffjjbgaaGreatDoor.Words
namespace Go.Proofs.YtgigcooffjjbgaaGreatDoor.Words
variable{α:Type}{c sq:Int}{i k m:Nat}
theorem GT{l:List α}{P:α->Bool}{x:α}(c:x∈l)(a:P x=iV)(b:∀y∈l,P y=iV->y=x):l.find? P=X x:=by
 cases h:l.find? P with
 |none=>
  have:=Ea.1 h x c;exact absurd a this
 |some y=>rw[b y (tm h) (vH h)]
def uN(ps:List Pg)(tx:Int)(Q:List Pg):Prop:=∀x,(x∈ps/\x.kind=2/\x.tx=tx)↔x∈Q
theorem zB{seq tx:Int}{l:List Rc}{x:Pg}(h:x∈co seq tx l):∃i:Nat,i<(cU l).length/\(co seq tx l)[i]?=X x/\x.part=i/\x.kind=2/\x.tx=tx/\x.count=(cU l).length:=by
 obtain⟨i,hi⟩:=D8.1 h;obtain⟨g,a,rfl⟩:=vz hi;exact⟨i,(aC.1 a).1,hi,rfl,rfl,rfl,rfl⟩
theorem vn(seq tx:Int)(l:List Rc)(hi:i<(cU l).length):∃x,(co seq tx l)[i]?=X x/\x∈co seq tx l/\x.part=i/\x.kind=2/\x.tx=tx/\x.count=(cU l).length/\x.seq=seq+i:=by
 have e:=Kb (seq:=seq) (tx:=tx) (ay hi);exact⟨_,e,aL e,rfl,rfl,rfl,rfl,rfl⟩
theorem Jw{seq tx:Int}{l:List Rc}{x y:Pg}(b:x∈co seq tx l)(hy:y∈co seq tx l)(h:x.part=y.part):x=y:=by
 obtain⟨i,-,h1,a,-⟩:=zB b;obtain⟨j,-,g1,g2,-⟩:=zB hy;have:i=j:=by rw[a,g2]at h;omega
 subst this;rw[h1]at g1;exact sR g1
variable{ps:List Pg}
theorem abi{seq tx:Int}{l:List Rc}(h:uN ps tx (co seq tx l)):qI ps tx=(co seq tx l)[0]?:=by
 obtain⟨x,h1,b,c,h4,d,e,-⟩:=vn seq tx l (yz l);rw[h1];refine GT ((h x).2 b).1 (by simp[h4,d,c]) ?_
 intro y hy a;simp at a;exact Jw ((h y).1 ⟨hy,a.1,a.2.1⟩) b (by rw[a.2.2,c];rfl)
theorem QF{seq tx:Int}{l:List Rc}(h:uN ps tx (co seq tx l))(f:k<(cU l).length):rC ps tx k (cU l).length=(co seq tx l)[k]?:=by
 obtain⟨x,h1,b,c,h4,d,e,-⟩:=vn seq tx l f;rw[h1];refine GT ((h x).2 b).1 (by simp[h4,d,c,e]) ?_
 intro y hy a;simp at a;exact Jw ((h y).1 ⟨hy,a.1,a.2.1⟩) b (by rw[a.2.2.1,c])
theorem Xu{seq tx:Int}{l:List Rc}(h:uN ps tx (co seq tx l)):∀(m k:Nat),k+m=(cU l).length->jH ps tx (cU l).length m k=X ((co seq tx l).drop k):=by
 intro m
 induction m with
 |zero=>
  intro k b;simp only[jH];rw[mw (by rw[xn];omega)]
 |succ m c=>
  intro k b;have a:k<(cU l).length:=by omega
  obtain⟨x,h1,-⟩:=vn seq tx l a;simp only[jH,QF h a,h1,c (k+1) (by omega),fE]
  obtain⟨d,e⟩:=aC.1 h1;rw[jh d,e]
theorem Tp{seq tx:Int}{l:List Rc}(h:uN ps tx (co seq tx l)):kH ps tx=X (co seq tx l):=by
 obtain⟨x,h1,-,-,-,-,a,-⟩:=vn seq tx l (yz l);unfold kH;rw[abi h,h1];simp only;have d:=yz l;have e:x.count.toNat-1=(cU l).length-1:=by rw[a];rfl
 rw[e,a,Xu h _ 1 (by omega)]
 obtain⟨b,c⟩:=aC.1 h1;have:=jh b;rw[c]at this;simp only[Cu]at this;rw[fE,<-this]
theorem VW:∀gs:List (List Rc),gs.flatMap dU=dU gs.flatten:=by
 intro gs
 induction gs with
 |nil=>rfl
 |cons g gs a=>rw[nT,zi,FG,a]
theorem XV(seq tx:Int)(n:Nat):∀(gs:List (List Rc)) (k:Nat),(gs.mapIdx (λi g=>ry seq tx n (i+k) g)).flatMap (λp=>p.text.data.toList)=gs.flatMap dU:=by
 intro gs
 induction gs with
 |nil=>intro k;rfl
 |cons g gs a=>
  intro k;rw[List.mapIdx_cons,nT,nT];have e:(λi g=>ry seq tx n (i+1+k) g)=(λi g=>ry seq tx n (i+(k+1)) g):=by
   funext i g;rw[show i+1+k=i+(k+1)by omega]
  rw[e,a (k+1)];rfl
theorem abC(seq tx:Int)(l:List Rc):lD (co seq tx l)=eS l:=by
 apply tP;rw[ZR,Gp];have:=XV seq tx (cU l).length (cU l) 0;rw[VW,UX]at this;exact this
theorem Ww:∀(l:List Pg) (m:Int),(∀q∈l,m<=q.seq)->l.foldl (λm q=>if q.seq<m then q.seq else m) m=m:=by
 intro l
 induction l with
 |nil=>intro m _;rfl
 |cons q l b=>
  intro m h;have h1:=h q (by simp)
  rw[nN,ai (by omega)]
  exact b m (λx a=>h x (by simp[a]))
theorem QT(seq tx:Int)(l:List Rc):pe (co seq tx l)=seq:=by
 obtain⟨x,h1,-,-,-,-,-,d⟩:=vn seq tx l (yz l);have a:∀q∈co seq tx l,seq<=q.seq:=by
  intro q b;obtain⟨i,hi⟩:=D8.1 b;obtain⟨g,-,rfl⟩:=vz hi;show seq<=seq+(i:Int);omega
 cases b:co seq tx l with
 |nil=>rw[b]at h1;simp at h1
 |cons p q=>
  rw[b]at h1 a;simp at h1;subst h1;have c:p.seq=seq:=by rw[d];simp
  show q.foldl (λm q=>if q.seq<m then q.seq else m) p.seq=seq
  rw[Ww,c];intro z e;rw[c];exact a z (by simp[e])
theorem Qk{seq tx:Int}{l:List Rc}(a:∀r∈l,r.Right)(h:uN ps tx (co seq tx l)):dx ps tx=X ⟨tx,seq,l⟩:=by
 unfold dx;rw[Tp h];simp only;rw[abC,Gp,ZD l _ 0 a rfl,QT];rfl
def dm(f:Pg->Nat)(ps:List Pg):Nat:=(ps.map f).sum
def lI(f:Pg->Nat)(ps:List Pg)(k:Int):Nat:=dm f (ps.filter (λp=>decide (p.part<k)))
theorem DH(f:Pg->Nat)(ps:List Pg)(k:Int):lI f ps k<=dm f ps:=by
 unfold lI dm
 induction ps with
 |nil=>simp
 |cons p ps a=>
  rw[kC];split
  ·simp only[cB,gB];omega
  ·simp only[cB,gB];omega
theorem ab5(f:Pg->Nat)(ps:List Pg)(k:Int):lI f ps k<=lI f ps (k+1):=by
 unfold lI dm
 induction ps with
 |nil=>simp
 |cons p ps b=>
  rw[kC,kC];by_cases h:p.part<k
  ·have a:p.part<k+1:=by omega
   simp only[h,a,rK,dF,cB,gB];omega
  ·simp only[h,oQ,ge,fQ];split
   ·simp only[cB,gB];omega
   ·exact b
variable{p:Pg}
theorem yn(f:Pg->Nat){k:Int}(a:p∈ps)(g:p.part=k):lI f ps k+f p<=lI f ps (k+1):=by
 induction ps with
 |nil=>cases a
 |cons q ps d=>
  have i:=ab5 f ps k;unfold lI dm at*;rw[kC,kC];rcases be.1 a with e|e
  ·subst e;have h1:¬p.part<k:=by omega
   have c:p.part<k+1:=by omega
   simp only[h1,c,rK,oQ,ge,dF,fQ,cB,gB];omega
  ·have:=d e;by_cases h:q.part<k
   ·have b:q.part<k+1:=by omega
    simp only[h,b,rK,dF,cB,gB];omega
   ·simp only[h,oQ,ge,fQ];split
    ·simp only[cB,gB];omega
    ·exact this
theorem Hl(f:Pg->Nat)(a:p∈ps):f p<=dm f ps:=by
 unfold dm
 induction ps with
 |nil=>cases a
 |cons q ps b=>
  rw[cB,gB];rcases be.1 a with e|e
  ·subst e;omega
  ·have:=b e;omega
theorem RP(ps:List Pg):dm (λ_=>1) ps=ps.length:=by
 unfold dm
 induction ps with
 |nil=>rfl
 |cons q ps a=>rw[cB,gB,a,aW];omega
def nC(ps:List Pg)(tx:Int)(k:Nat)(c:Int):Option Pg:=ps.find? (λp=>decide (p.kind=2/\p.tx=tx/\p.part=k/\(0<k->p.count=c)))
theorem Ln(ps:List Pg)(tx c:Int):nC ps tx 0 c=qI ps tx:=by
 unfold nC qI;congr 1;funext p;simp
theorem Hx(ps:List Pg)(tx:Int)(k:Nat)(c:Int)(a:0<k):nC ps tx k c=rC ps tx k c:=by
 unfold nC rC;congr 1;funext p;simp[a]
theorem xo{tx:Int}(h:nC ps tx k c=X p):p∈ps/\p.kind=2/\p.tx=tx/\p.part=k/\(0<k->p.count=c):=by
 have h1:=tm h;have a:=vH h;simp only[bM]at a;exact⟨h1,a⟩
theorem Hc{l:List α}{P:α->Bool}{x:α}(a:l[m]?=X x)(h:(l.take m).find? P=O):(P x=iF->(l.take (m+1)).find? P=O)/\(P x=iV->l.find? P=X x):=by
 have c:=(aC.1 a).1;have e:l=l.take m++x::l.drop (m+1):=by
  have:=jk m l;rw[jh c,(aC.1 a).2]at this;exact this.symm
 constructor
 ·intro b;rw[fm,a,List.find?_append,h];simp[b]
 ·intro b;rw[e,List.find?_append,h];simp[b]
def p9(ps:List Pg)(tx:Int)(k:Nat)(c sq:Int)(a:List Pg):Prop:=
 (k=0/\a=[]/\c=0/\sq=0)∨(0<k/\a≠ []/\sq=pe a/\c.toNat<=dm (λp=>p.count.toNat) ps/\kH ps tx=(jH ps tx c (c.toNat-k) k).map (a++·))
theorem p9.no{tx:Int}{a:List Pg}(h:p9 ps tx k c sq a)(f:k=0∨(k:Int)<c)(b:nC ps tx k c=O):kH ps tx=O:=by
 rcases h with⟨rfl,-⟩|⟨h0,-,-,-,d⟩
 ·rw[Ln]at b;unfold kH;rw[b]
 ·rw[Hx _ _ _ _ h0]at b;obtain⟨m,e⟩:∃m,c.toNat-k=m+1:=⟨c.toNat-k-1,by omega⟩
  rw[d,e];simp only[jH,b,Option.map_none]
theorem p9.yes{tx:Int}{a:List Pg}(h:p9 ps tx k c sq a)(l:k=0∨(k:Int)<c)(b:nC ps tx k c=X p):p9 ps tx (k+1) p.count (if k=0∨p.seq<sq then p.seq else sq) (a++[p]):=by
 have e:=xo b;refine .inr ⟨by omega,by simp,?_,Hl (λp=>p.count.toNat) e.1,?_⟩
 ·rcases h with⟨rfl,rfl,-,-⟩|⟨h0,h1,d,-,-⟩
  ·simp[Zd]
  ·rw[aaB h1,<-d];by_cases g:p.seq<sq
   ·rw[ak (.inr g),ak g]
   ·rw[ai (by omega),ai g]
 ·rcases h with⟨rfl,rfl,-,-⟩|⟨h0,h1,d,-,f⟩
  ·rw[Ln]at b;unfold kH;rw[b];rfl
  ·have i:=e.2.2.2.2 h0;rw[Hx _ _ _ _ h0]at b;obtain⟨m,j⟩:∃m,c.toNat-k=m+1:=⟨c.toNat-k-1,by omega⟩
   rw[f,j,i,show c.toNat-(k+1)=m by omega]
   simp only[jH,b,Option.map_map];congr 1;funext x;simp
theorem p9.end_{tx:Int}{a:List Pg}(h:p9 ps tx k c sq a)(e:¬(k=0∨(k:Int)<c)):kH ps tx=X a/\sq=pe a:=by
 rcases h with⟨rfl,-⟩|⟨h0,h1,b,-,d⟩
 ·simp at e
 ·have:c.toNat-k=0:=by omega
  rw[d,this];exact⟨by simp[jH],b⟩
end Go.Proofs.YtgigcooffjjbgaaGreatDoor.Words
namespace Go.Proofs.YtgigcooffjjbgaaGreatDoor
namespace Words
theorem Wn(p:Nat->Bool)(a:Nat):∀n,(List.range n).countP p<=(List.range n).countP (λi=>p i&& !(i==a))+(if a<n then 1 else 0):=by
 intro n
 induction n with
 |zero=>simp
 |succ n b=>
  rw[qm,zq,zq,CZ,CZ];by_cases e:n=a
  ·subst e;simp only[Dr,Bool.not_true,vW,ge,fQ];rw[ai (by omega)]at b
   rw[ak (show n<n+1 by omega)]
   split<;>omega
  ·have c:(n==a)=iF:=by simpa using e
   rw[c];simp only[Bool.not_false,Eg];by_cases h:a<n
   ·rw[ak h]at b;rw[ak (show a<n+1 by omega)]
    omega
   ·rw[ai h]at b;rw[ai (show¬a<n+1 by omega)]
    omega
theorem XO:∀(c:List Nat) (n:Nat) (p:Nat->Bool),(∀i,p i=iV->i∈c)->(List.range n).countP p<=c.length:=by
 intro c
 induction c with
 |nil=>
  intro n p h;rw[List.countP_eq_zero.2 (λi _ b=>by have:=h i b;cases this)]
  exact am _
 |cons a c d=>
  intro n p h;have h1:=Wn p a n;have f:=d n (λi=>p i&& !(i==a)) (λi hi=>by
   simp only[bu,nA,dk]at hi;rcases be.1 (h i hi.1)with e|e
   ·exact absurd e hi.2
   ·exact e)
  rw[aW];split at h1<;>omega
variable{r n:Int}{i s:Nat}
variable{l:List Kn}
theorem Yb(h:r<0):dN l r i=iF:=by rw[dN,aV (by omega),lZ]
theorem sX(h:0<=r):dN l r i=iV↔r=i∨∃k,k<4/\dQ l r k=i:=by
 rw[dN,aS h,gU,ky,bM,re];constructor
 ·rintro(h|⟨k,a,e⟩)
  ·exact .inl h
  ·exact .inr ⟨k,jX.1 a,by simpa using e⟩
 ·rintro(h|⟨k,a,e⟩)
  ·exact .inl h
  ·exact .inr ⟨k,jX.2 a,by simpa using e⟩
section
end
end Words
namespace Words
def pt(l:List Kn)(r:Int)(s:Nat)(n:Int):List Kn:=l++[ir l r s n,ib l r s]
def yC(l:List Kn):Int:=(l.length:Int)+1
def lw(l:List Kn)(r:Int):Prop:=cj l=iV/\bB l r=iV
variable{r:Int}{i:Nat}
variable{l:List Kn}
theorem xH{n:Int}{s:Nat}(h:lw l r)(hs:s<=15)(a:0<=n):lw (pt l r s n) (yC l):=⟨Bb h.1 h.2 hs a,PH⟩
theorem BH{n k:Int}{s:Nat}(h:lw l r)(hs:s<=15)(b:0<=n)(a:bB l k=iV):lw (pt l r s n) k:=⟨Bb h.1 h.2 hs b,Ut a⟩
theorem Em{n:Int}{s:Nat}(h:lw l r)(hs:s<=15)(b:0<=n):gN l r (s:Int) n=pt l r s n/\jM l r (s:Int) n=yC l:=by
 have a:lW l r (s:Int) n=iV:=by rw[lW,jJ,h.1,h.2,aS (show(0:Int)<=(s:Int)by omega),aS (show(s:Int)<=15 by omega),aS b];rfl
 exact⟨by rw[gN,ak a,bi];rfl,by rw[jM,ak a];rfl⟩
theorem mS(h:lw l r)(hi:i<=15):dZ l r (i:Int)=cG l r i:=by
 rw[dZ,jJ,h.1,h.2,aS (show(0:Int)<=(i:Int)by omega),aS (show(i:Int)<=15 by omega),bi]
 rfl
theorem Fp{n:Int}{s:Nat}(h:lw l r)(hs:s<=15)(a:0<=n)(hi:i<=15):dZ (pt l r s n) (yC l) (i:Int)=if i=s then n else dZ l r (i:Int):=by
 rw[mS (xH h hs a) hi,mS h hi];exact Px h.1 h.2 hs hi
theorem Ks{n k:Int}{s:Nat}(h:lw l r)(hs:s<=15)(b:0<=n)(a:bB l k=iV)(hi:i<=15):dZ (pt l r s n) k (i:Int)=dZ l k (i:Int):=by
 rw[mS (BH h hs b a) hi,mS ⟨h.1,a⟩ hi];exact ZB h.1 a hi
theorem Jk{m:List Kn}{k:Int}(h:∀i:Nat,i<=15->dZ l r (i:Int)=dZ m k (i:Int)):bW l r=bW m k:=by
 refine oY (λi hi=>?_)
 have:=jX.1 hi;exact h i (by omega)
theorem We{n k:Int}{s:Nat}(h:lw l r)(hs:s<=15)(b:0<=n)(a:bB l k=iV):bW (pt l r s n) k=bW l k:=Jk (λ_ hi=>Ks h hs b a hi)
end Words
namespace Words
def bE(l:List Kn)(rs:List Int)(i:Nat):Bool:=rs.any (λr=>dN l r i)
def da(u:Nat->Bool)(i:Nat):Nat:=(List.range i).countP u
theorem Q9(u:Nat->Bool):da u 0=0:=rfl
theorem rD(u:Nat->Bool)(i:Nat):da u (i+1)=da u i+(if u i=iV then 1 else 0):=by
 rw[da,da,qm,zq,CZ]
theorem BS(u:Nat->Bool)(i:Nat):da u i<=i:=by
 induction i with
 |zero=>exact am _
 |succ i a=>rw[rD];split<;>omega
variable{r:Int}{rs:List Int}{i j n k:Nat}{u:Nat -> Bool}
theorem SQ(u:Nat->Bool)(h:i<=j):da u i<=da u j:=by
 induction j with
 |zero=>have:i=0:=by omega
        subst this;exact am _
 |succ j a=>
  by_cases e:i=j+1
  ·subst e;exact am _
  ·have:=a (by omega)
   rw[rD];omega
theorem Mx(u:Nat->Bool)(h:i<j)(a:u i=iV):da u i<da u j:=by
 have:=SQ u (show i+1<=j by omega)
 rw[rD,ak a]at this;omega
theorem LI(h:∀j,j<n->u j=iV):∀i,i<=n->da u i=i:=by
 intro i
 induction i with
 |zero=>intro _;rfl
 |succ i a=>intro hi;rw[rD,a (by omega),ak (h i (by omega))]
def fX(u:Nat->Bool)(n:Int):Int:=if n<0 then n else(da u n.toNat:Int)
theorem sr(u:Nat->Bool){n:Int}(h:n<0):fX u n=n:=ak h
theorem qF(u:Nat->Bool)(n:Nat):fX u (n:Int)=(da u n:Int):=by rw[fX,ai (by omega),bi]
def dT(u:Nat->Bool)(x:Kn):Kn:=if x.leaf=iV then x else⟨iF,x.fD.map (fX u)⟩
theorem AW(u:Nat->Bool)(x:Kn):(dT u x).leaf=x.leaf:=by
 unfold dT;cases h:x.leaf with
 |true=>rw[ak rfl];exact h
 |false=>rfl
def kK(u:Nat->Bool)(l:List Kn):Nat->List Kn
 |0=> []
 |k+1=>if u k=iV then kK u l k++((l[k]?).map (dT u)).toList else kK u l k
variable{l:List Kn}
theorem Ay(h:u k=iF):kK u l (k+1)=kK u l k:=by rw[kK,h,ai (by decide)]
theorem wL{x:Kn}(h:u k=iV)(a:l[k]?=X x):kK u l (k+1)=kK u l k++[dT u x]:=by rw[kK,ak h,a];rfl
theorem uL(h:k<=l.length):(kK u l k).length=da u k:=by
 induction k with
 |zero=>rfl
 |succ k b=>
  rw[rD];cases a:u k with
  |false=>rw[Ay a,b (by omega)];rfl
  |true=>rw[wL a (ay (show k<l.length by omega)),aI,b (by omega)];rfl
theorem Sl{x:Kn}(f:k<=l.length)(hi:i<k)(b:u i=iV)(c:l[i]?=X x):(kK u l k)[da u i]?=X (dT u x):=by
 induction k with
 |zero=>omega
 |succ k d=>
  by_cases e:i=k
  ·subst e;rw[wL b c,cu (by rw[uL (by omega)];exact am _),uL (by omega),lh]
   rfl
  ·have h:=d (by omega) (by omega)
   cases a:u k with
   |false=>rw[Ay a];exact h
   |true=>
    rw[wL a (ay (show k<l.length by omega)),ip (by rw[uL (by omega)];exact Mx u (by omega) b)]
    exact h
theorem Kj(h:j<da u k):∃i,i<k/\u i=iV/\da u i=j:=by
 induction k with
 |zero=>rw[Q9]at h;omega
 |succ k c=>
  by_cases e:j<da u k
  ·obtain⟨i,h1,b⟩:=c e;exact⟨i,by omega,b⟩
  ·rw[rD]at h;cases a:u k with
   |false=>rw[a,ai (by decide)]at h;omega
   |true=>rw[a,ak rfl]at h;exact⟨k,by omega,a,by omega⟩
def kt(l:List Kn)(rs:List Int):List Kn:=kK (bE l rs) l l.length
def qb(l:List Kn)(rs:List Int):Bool:=cj l&&rs.all (bB l)
def jV(l:List Kn)(rs:List Int):List Kn:=if qb l rs=iV then kt l rs else l
def mp(l:List Kn)(rs:List Int):List Int:=if qb l rs=iV then rs.map (fX (bE l rs))else rs
theorem WG(l:List Kn)(rs:List Int):(mp l rs).length=rs.length:=by unfold mp;split<;>simp
section
def m9(l:List Kn)(rs:List Int):Prop:=cj l=iV/\∀r∈rs,bB l r=iV
theorem xS(h:m9 l rs):qb l rs=iV:=by rw[qb,h.1,gU,gY];exact h.2
theorem To(h:qb l rs=iV):m9 l rs:=by rw[qb,bu,gY]at h;exact h
theorem xM(a:r∈rs)(h0:0<=r):bE l rs r.toNat=iV:=by
 rw[bE,re];exact⟨r,a,(sX h0).2 (.inl (by omega))⟩
theorem JU(a:r∈rs)(h:dN l r i=iV):bE l rs i=iV:=by
 rw[bE,re];exact⟨r,a,h⟩
theorem Cb(h:dN l r i=iV):0<=r:=by
 by_cases h0:0<=r
 ·exact h0
 ·rw[Yb (by omega)]at h;cases h
theorem VZ(d:cj l=iV)(o:bB l r=iV)(h:dN l r i=iV):i<l.length/\(r=i∨jw l i=iV):=by
 have h0:=Cb h;obtain⟨x,a,b⟩:=lj o h0;have j:=(aC.1 a).1;rcases(sX h0).1 h with e|⟨k,g,e⟩
 ·exact⟨by omega,.inl e⟩
 ·obtain⟨n,m,f⟩:=lO d a b g;rw[ie a m]at e;rcases f with q|⟨p,s,y,hy,c,-⟩
  ·omega
  ·have:n.toNat=i:=by omega
   rw[this]at hy;have:=(aC.1 hy).1;exact⟨this,.inr (by rw[pK (y:=y) (by simpa using hy)];exact c)⟩
theorem Tu(h:m9 l rs){x:Kn}(f:l[i]?=X x)(d:x.leaf=iF)(b:bE l rs i=iV):(i:Int)∈rs:=by
 rw[bE,re]at b;obtain⟨r,a,c⟩:=b;rcases(VZ h.1 (h.2 r a) c).2 with e|e
 ·rw[<-e];exact a
 ·rw[pK (y:=x) (by simpa using f),d]at e
  cases e
theorem BU(h:m9 l rs){x:Kn}(a:l[i]?=X x)(c:x.leaf=iF)(f:bE l rs i=iV)(b:k<4)(d:x.fD[k]?=X (n:Int)):bE l rs n=iV:=by
 have e:=Tu h a c f;refine JU e ((sX (by omega)).2 (.inr ⟨k,b,?_⟩))
 exact ie (by rw[bi];exact a) d
theorem vZ:(kt l rs).length=da (bE l rs) l.length:=uL (am _)
theorem vy{x:Kn}(a:l[i]?=X x)(b:bE l rs i=iV):(kt l rs)[da (bE l rs) i]?=X (dT (bE l rs) x):=Sl (am _) (aC.1 a).1 b a
theorem Tf{y:Kn}(hy:(kt l rs)[j]?=X y):∃i x,l[i]?=X x/\bE l rs i=iV/\da (bE l rs) i=j/\y=dT (bE l rs) x:=by
 have c:=(aC.1 hy).1;rw[vZ]at c;obtain⟨i,h1,a,b⟩:=Kj c;have d:=ay h1;refine⟨i,_,d,a,b,?_⟩;have:=vy d a;rw[b,hy]at this;exact sR this
theorem Q8{x:Kn}(a:x.leaf=iF){n:Int}(b:x.fD[k]?=X n):(dT u x).fD[k]?=X (fX u n):=by
 rw[dT,ai (by rw[a];decide)]
 show(x.fD.map (fX u))[k]?=_;rw[bh,b];rfl
theorem LR(h:m9 l rs):cj (kt l rs)=iV:=by
 refine FC (λj y hy=>?_)
 obtain⟨i,x,g,w,A,rfl⟩:=Tf hy;have p:=lR h.1 g;have h4:=mR p;cases a:x.leaf with
 |true=>
  have e:dT (bE l rs) x=x:=by rw[dT,ak a]
  rw[e];refine vL h4 (λn f=>?_)
  obtain⟨k,b⟩:=iG f;have:=uU p b;rw[fb,ak a]at this;rw[fb,ak a];exact this
 |false=>
  have e:dT (bE l rs) x=⟨iF,x.fD.map (fX (bE l rs))⟩:=by rw[dT,ai (by rw[a];decide)]
  rw[e];refine vL (by rw[bm];exact h4) (λn f=>?_)
  obtain⟨m,v,rfl⟩:=bZ.1 f;obtain⟨k,b⟩:=iG v;have u:=(aC.1 b).1;obtain⟨B,c,t⟩:=lO h.1 (r:=(i:Int)) (by rw[bi];exact g) a (show k<4 by omega)
  rw[b]at c;cases c;rw[fb,ai (show¬(iF=iV)by decide)]
  simp only[ky,bu,bM];rcases t with rfl|⟨c1,c2,z,s,o,-⟩
  ·exact .inl (sr _ (by omega))
  ·obtain⟨q,rfl⟩:∃q:Nat,m=(q:Int):=⟨m.toNat,by omega⟩
   simp only[bi]at c2 s;have d:=BU h g a w (show k<4 by omega) b
   rw[qF];have:=Mx (bE l rs) (show q<i by omega) d
   refine .inr ⟨⟨by omega,by omega⟩,?_⟩
   rw[pK (y:=dT (bE l rs) z) (by rw[bi];exact vy s d),AW]
   exact o
theorem LE(h:m9 l rs)(a:r∈rs):bB (kt l rs) (fX (bE l rs) r)=iV:=by
 unfold bB;simp only[ky,bu,bM,nA];by_cases h0:r<0
 ·left;rw[sr _ h0];have:=h.2 r a;unfold bB at this;simp only[ky,bu,bM]at this;omega
 ·right;obtain⟨x,e,b⟩:=lj (h.2 r a) (by omega)
  have d:=xM (l:=l) a (by omega)
  obtain⟨q,rfl⟩:∃q:Nat,r=(q:Int):=⟨r.toNat,by omega⟩
  simp only[bi]at e d;have c:=vy e d;have:=(aC.1 c).1;rw[qF];refine⟨⟨by omega,by omega⟩,?_⟩
  rw[pK (y:=dT (bE l rs) x) (by rw[bi];exact c),AW]
  exact b
theorem JE(h:m9 l rs){r:Nat}(d:(r:Int)∈rs)(g:k<4):dQ (kt l rs) (da (bE l rs) r:Int) k=fX (bE l rs) (dQ l (r:Int) k):=by
 obtain⟨x,b,a⟩:=lj (h.2 _ d) (by omega)
 have e:=xM (l:=l) d (by omega)
 simp only[bi]at b e;have f:=vy b e;obtain⟨n,c,-⟩:=lO h.1 (r:=(r:Int)) (by rw[bi];exact b) a g
 rw[ie (by rw[bi];exact f) (Q8 a c),ie (by rw[bi];exact b) c]
theorem H5(h:m9 l rs)(d:r∈rs){s:Nat}(hs:s<=15):cG (kt l rs) (fX (bE l rs) r) s=cG l r s:=by
 unfold cG;by_cases h0:r<0
 ·rw[sr _ h0,ak h0,ak h0]
 ·obtain⟨q,rfl⟩:∃q:Nat,r=(q:Int):=⟨r.toNat,by omega⟩
  obtain⟨x,c,a⟩:=lj (h.2 _ d) (by omega)
  have i:=xM (l:=l) d (by omega)
  rw[bi]at c i;rw[qF,ai (show¬(da (bE l rs) q:Int)<0 by omega),ai h0,JE h d (show s/4<4 by omega)]
  obtain⟨n,g,o⟩:=lO h.1 (r:=(q:Int)) (by rw[bi];exact c) a (show s/4<4 by omega)
  rw[ie (by rw[bi];exact c) g]
  rcases o with rfl|⟨c1,c2,y,hy,b,-⟩
  ·rw[sr _ (show(-1:Int)<0 by omega),ak (show(-1:Int)<0 by omega),ak (show(-1:Int)<0 by omega)]
  ·obtain⟨j,rfl⟩:∃j:Nat,n=(j:Int):=⟨n.toNat,by omega⟩
   rw[bi]at hy;have f:=BU h c a i (show s/4<4 by omega) g
   obtain⟨v,k,-⟩:=xL h.1 hy b (show s % 4<4 by omega)
   have e:dT (bE l rs) y=y:=by rw[dT,ak b]
   have m:=vy hy f;rw[e]at m;rw[qF,ai (show¬(da (bE l rs) j:Int)<0 by omega),ai (show¬(j:Int)<0 by omega),ie (by rw[bi];exact m) k,ie (by rw[bi];exact hy) k]
theorem SH(h:m9 l rs)(a:r∈rs):bW (kt l rs) (fX (bE l rs) r)=bW l r:=
 Jk (λi hi=>by rw[mS ⟨LR h,LE h a⟩ hi,mS ⟨h.1,h.2 r a⟩ hi];exact H5 h a hi)
theorem aan(h:m9 l rs)(b:j<(kt l rs).length):bE (kt l rs) (rs.map (fX (bE l rs))) j=iV:=by
 rw[vZ]at b;obtain⟨i,-,f,rfl⟩:=Kj b;obtain⟨r,d,a⟩:=re.1 f;have h0:=Cb a;obtain⟨q,rfl⟩:∃q:Nat,r=(q:Int):=⟨r.toNat,by omega⟩
 refine JU (bZ.2 ⟨_,d,rfl⟩) ?_;rw[qF,sX (by omega)]
 rcases(sX h0).1 a with e|⟨k,c,e⟩
 ·left;have:q=i:=by omega
  rw[this]
 ·right;exact⟨k,c,by rw[JE h d c,e,qF]⟩
theorem aaL:(kt l rs).length<=l.length:=by rw[vZ];exact BS _ _
end
end Words
namespace Words
structure Sto where
 fV:List (Int×Int)
 fK:List Kn
 next:Int
def cH(l:List (Int×Int)):List Int:=l.map (·.2)
def ik:Sto:=⟨[],[],1⟩
def nt(s:Sto)(i:Nat)(id:Int):Bool:=match i with
 |0=>iV
 |j+1=>match s.fV[j]? with
  |some u=>decide (u.1<id)
  |none=>iV
def kO(s:Sto)(r:Int)(k:Nat):Bool:=(List.range k).all (λj=>decide (cG s.fK r j<s.next))
def lG(s:Sto)(i:Nat)(v:Int×Int):Bool:=((decide (1<=v.1)&&decide (v.1<=9))&&nt s i v.1)&&(bB s.fK v.2&&kO s v.2 16)
def jP(s:Sto):Nat->Bool
 |0=>iV
 |k+1=>jP s k&&(match s.fV[k]? with|some v=>lG s k v|none=>iV)
def dl(s:Sto):Bool:=((decide (s.fV.length<=3)&&cj s.fK)&&(decide (1<=s.next)&&decide (s.next<=1000000000)))&&(jP s s.fV.length&&decide ((jV s.fK (cH s.fV)).length=s.fK.length))
variable{r id:Int}{v:Int × Int}{k j i n:Nat}{u:Nat -> Bool}
variable{s:Sto}
theorem DX(h:s.fV[k]?=X v):jP s (k+1)=(jP s k&&lG s k v):=by rw[jP,h]
theorem Xj(h:j<=k)(a:jP s k=iV):jP s j=iV:=by
 induction k with
 |zero=>have:j=0:=by omega
        subst this;exact a
 |succ k b=>
  rw[jP,bu]at a;by_cases e:j=k+1
  ·subst e;rw[jP,bu];exact a
  ·exact b (by omega) a.1
theorem IG(h:jP s s.fV.length=iV)(hi:s.fV[i]?=X v):lG s i v=iV:=by
 have a:=(aC.1 hi).1;have:=Xj (show i+1<=s.fV.length by omega) h
 rw[DX hi,bu]at this;exact this.2
theorem UG(hi:s.fV[i]?=X v)(a:lG s i v=iF):jP s s.fV.length=iF:=by
 cases h:jP s s.fV.length with
 |false=>rfl
 |true=>rw[IG h hi]at a;cases a
theorem aar(h:∀i v,s.fV[i]?=X v->lG s i v=iV):∀k,k<=s.fV.length->jP s k=iV:=by
 intro k
 induction k with
 |zero=>intro _;rfl
 |succ k a=>
  intro b;have e:=ay (show k<s.fV.length by omega)
  rw[DX e,a (by omega),h k _ e]
  rfl
theorem OT(h:da u n=n):∀j,j<n->u j=iV:=by
 induction n with
 |zero=>intro j b;omega
 |succ n c=>
  rw[rD]at h;have h1:=BS u n;cases a:u n with
  |false=>rw[a,ai (by decide)]at h;omega
  |true=>
   rw[a,ak rfl]at h;intro j b;by_cases e:j=n
   ·subst e;exact a
   ·exact c (by omega) j (by omega)
structure Sto.Near (s:Sto):Prop where
 few:s.fV.length<=3
 ar:cj s.fK=iV
 nx:1<=s.next/\s.next<=1000000000
 ids:∀v∈s.fV,1<=v.1/\v.1<=9
 asc:s.fV.Pairwise (λu v=>u.1<v.1)
 root:∀v∈s.fV,bB s.fK v.2=iV
 less:∀v∈s.fV,∀k:Nat,k<=15->cG s.fK v.2 k<s.next
structure Sto.Right (s:Sto):Prop extends Sto.Near s where
 used:∀j,j<s.fK.length->bE s.fK (cH s.fV) j=iV
theorem Sto.Near.trs(h:s.Near):m9 s.fK (cH s.fV):=⟨h.ar,λr a=>by
 obtain⟨v,b,rfl⟩:=bZ.1 a;exact h.root v b⟩
theorem WS{l:List (Int×Int)}(h:∀i u v,l[i]?=X u->l[i+1]?=X v->u.1<v.1):l.Pairwise (λu v=>u.1<v.1):=by
 have c:∀d i u v,l[i]?=X u->l[i+d+1]?=X v->u.1<v.1:=by
  intro d
  induction d with
  |zero=>intro i u v h1 f;exact h i u v h1 f
  |succ d m=>
   intro i u v h1 f;have n:=(aC.1 f).1;have e:=ay (show i+d+1<l.length by omega)
   have a:=m i u _ h1 e;have b:=h (i+d+1) _ v e (by rw[show i+d+1+1=i+(d+1)+1 by omega];exact f)
   omega
 rw[pP];intro i j hi k g;refine c (j-i-1) i _ _ (ay hi) ?_;rw[show i+(j-i-1)+1=j by omega]
 exact ay k
theorem CJ:kO s r 16=iV↔∀k:Nat,k<=15->cG s.fK r k<s.next:=by
 rw[kO,gY];constructor
 ·intro h k a;have:=h k (jX.2 (by omega))
  simpa using this
 ·intro h k a;have:=h k (by have:=jX.1 a;omega)
  simpa using this
theorem kx(s:Sto):dl s=iV↔s.Right:=by
 unfold dl;simp only[bu,tw];constructor
 ·rintro⟨⟨⟨h1,g⟩,k⟩,h4,d⟩;have vb:∀i v,s.fV[i]?=X v->((1<=v.1/\v.1<=9)/\nt s i v.1=iV)/\bB s.fK v.2=iV/\kO s v.2 16=iV:=by
   intro i v hi;have:=IG h4 hi;rw[lG]at this
   simpa only[bu,tw]using this
  have c:∀v∈s.fV,(1<=v.1/\v.1<=9)/\bB s.fK v.2=iV/\kO s v.2 16=iV:=by
   intro v a;obtain⟨i,hi,e⟩:=rg.1 a;have:=vb i v (by rw[<-e];exact ay hi)
   exact⟨this.1.1,this.2⟩
  have f:s.Near:=by
   refine⟨h1,g,k,λv a=>(c v a).1,WS ?_,λv a=>(c v a).2.1,λv a=>CJ.1 (c v a).2.2⟩
   intro i u v m a;have:=(vb (i+1) v a).1.2;rw[nt,m]at this
   simpa using this
  refine⟨f,?_⟩;rw[jV,ak (xS f.trs),vZ]at d;exact OT d
 ·intro h;refine⟨⟨⟨h.few,h.ar⟩,h.nx⟩,aar ?_ _ (am _),?_⟩
  ·intro i v hi;have b:=aL hi;rw[lG];simp only[bu,tw];refine⟨⟨h.ids v b,?_⟩,h.root v b,CJ.2 (h.less v b)⟩;cases i with
   |zero=>rfl
   |succ j=>
    have l:=(aC.1 hi).1;have e:=ay (show j<s.fV.length by omega)
    rw[nt,e];have:=(pP.1 h.asc) j (j+1) (by omega) l (by omega)
    rw[(aC.1 hi).2]at this
    simpa using this
  ·rw[jV,ak (xS h.trs),vZ];exact LI h.used _ (am _)
def im(l:List (Int×Int))(id:Int):Nat->Option Nat
 |0=>O
 |k+1=>match im l id k with
  |some j=>X j
  |none=>match l[k]? with
   |some v=>if v.1=id then X k else O
   |none=>O
def bw(l:List (Int×Int))(id:Int):Option Nat:=im l id l.length
theorem Yw{l:List (Int×Int)}(h:im l id k=X j):j<k/\∃v,l[j]?=X v/\v.1=id:=by
 induction k with
 |zero=>cases h
 |succ k b=>
  rw[im]at h;cases e:im l id k with
  |some i=>
   rw[e]at h;injection h with h
   subst h;obtain⟨h1,a⟩:=b e;exact⟨by omega,a⟩
  |none=>
   rw[e]at h;simp only at h;split at h
   ·rename_i v hv
    split at h
    ·rename_i hid
     injection h with h
     subst h;exact⟨by omega,v,hv,hid⟩
    ·cases h
   ·cases h
theorem SA{l:List (Int×Int)}(h:im l id k=O):∀j v,j<k->l[j]?=X v->v.1≠id:=by
 induction k with
 |zero=>intro j v d;omega
 |succ k f=>
  rw[im]at h;cases e:im l id k with
  |some i=>rw[e]at h;cases h
  |none=>
   rw[e]at h;simp only at h;intro j v d b;by_cases c:j=k
   ·subst c;rw[b]at h;simp only at h;intro a;rw[ak a]at h;cases h
   ·exact f e j v (by omega) b
theorem Mb{l:List (Int×Int)}(h:im l id k=O)(b:l[k]?=X v)(a:v.1≠id):im l id (k+1)=O:=by
 rw[im,h,b];exact ai a
theorem Mf{l:List (Int×Int)}(h:im l id k=O)(b:l[k]?=X v)(a:v.1=id):∀m,k<m->im l id m=X k:=by
 intro m
 induction m with
 |zero=>intro h;omega
 |succ m c=>
  intro d;by_cases e:m=k
  ·subst e;rw[im,h,b];exact ak a
  ·rw[im,c (by omega)]
theorem om{l:List (Int×Int)}(h:bw l id=X j):∃v,l[j]?=X v/\v.1=id:=(Yw h).2
theorem Aq{l:List (Int×Int)}(h:bw l id=O):∀v∈l,v.1≠id:=by
 intro v a;obtain⟨i,hi,e⟩:=rg.1 a;exact SA h i v hi (by rw[<-e];exact ay hi)
theorem aa5{l:List (Int×Int)}(a:v∈l)(e:v.1=id):∃j,bw l id=X j:=by
 cases h:bw l id with
 |some j=>exact⟨j,rfl⟩
 |none=>exact absurd e (Aq h v a)
def lU(l:List (Int×Int))(id:Int):Option Int:=(bw l id).bind (λk=>(l[k]?).map (·.2))
def hO(s:Sto):Sto:=⟨List.zipWith (λv r=>(v.1,r)) s.fV (mp s.fK (cH s.fV)),jV s.fK (cH s.fV),s.next⟩
def gS(l:List (Int×Int))(id r:Int):List (Int×Int):=l.filter (λv=>decide (v.1<id))++(id,r)::l.filter (λv=>decide (id<v.1))
def fO(s:Sto)(r:Rc):Sto×Bool:=
 match (if 0<r.arg then lU s.fV r.arg else X (-1))with
 |none=>(s,iF)
 |some q=>if (bw s.fV r.vol).isSome||decide (s.fV.length=3)then(s,iF)else(⟨gS s.fV r.vol q,s.fK,s.next⟩,iV)
def zF(s:Sto)(k:Nat):Sto:=hO ⟨s.fV.take k++s.fV.drop (k+1),s.fK,s.next⟩
def pD(s:Sto)(k:Nat)(v:Int×Int)(r:Rc):Sto:=hO ⟨s.fV.set k (v.1,jM s.fK v.2 r.arg r.fC),gN s.fK v.2 r.arg r.fC,if s.next<=r.fC then r.fC+1 else s.next⟩
def aX(s:Sto)(r:Rc):Sto×Bool:=
 letI:=r.decR
 if dl s=iV/\r.Right then
  if r.kind=1 then(⟨[],[],if r.arg=0 then 1 else r.arg⟩,iV)
  else if r.kind=2 then fO s r
  else match bw s.fV r.vol with
   |none=>(s,iF)
   |some k=>if r.fC=1000000000 then(s,iF)else if r.kind=3 then(zF s k,iV)else(pD s k ((s.fV[k]?).getD (0,0)) r,iV)
 else(s,iF)
def dY:Sto->List Rc->Option Sto
 |s,[]=>X s
 |s,r::l=>if (aX s r).2=iV then dY (aX s r).1 l else O
def jy(s:Sto)(l:List Rc):Sto×Bool:=match dY s l with
 |some n=>(n,iV)
 |none=>(s,iF)
def dy(s:Sto)(b a:Int):Int:=match lU s.fV b with
 |some r=>dZ s.fK r a
 |none=>0
def eV(l:List Int)(x:Int):List Int:=l.filter (λy=>decide (y<x))++(if 0<x then[x]else[])++l.filter (λy=>decide (x<y))
def aY(s:Sto):List Int:=s.fV.foldl (λacc v=>(bW s.fK v.2).foldl eV acc) []
def km(id:Int)(L:List Int)(k:Nat):List Rc:=(List.range k).filterMap (λ(j:Nat)=>if 0<(L[j]?).getD 0 then X ⟨4,id,(j:Int),(L[j]?).getD 0⟩else O)
def qu(l:List Kn)(v:Int×Int):List Rc:=⟨2,v.1,0,0⟩::km v.1 (bW l v.2) 16
def iu(s:Sto):List Rc:=⟨1,0,s.next,0⟩::s.fV.flatMap (qu s.fK)
def cW(s:Sto):List (Int×List Int):=s.fV.map (λv=>(v.1,bW s.fK v.2))
def rV(a b:Sto):Bool:=decide (cW a=cW b)&&decide (a.next=b.next)
theorem qH(h:s.Near):(hO s).fV=s.fV.map (λv=>(v.1,fX (bE s.fK (cH s.fV)) v.2)):=by
 show List.zipWith _ _ _=_;rw[mp,ak (xS h.trs)];generalize fX (bE s.fK (cH s.fV))=f;unfold cH;generalize s.fV=l
 induction l with
 |nil=>rfl
 |cons v l a=>simp only[cB,List.zipWith_cons_cons,a]
theorem sC(h:s.Near):(hO s).fK=kt s.fK (cH s.fV):=by
 show jV _ _=_;rw[jV,ak (xS h.trs)]
theorem Sp(h:s.Near):cH (hO s).fV=(cH s.fV).map (fX (bE s.fK (cH s.fV))):=by
 rw[qH h];unfold cH;rw[BJ,BJ];rfl
theorem zV(h:s.Near):(hO s).Right:=by
 have d:∀v∈s.fV,v.2∈cH s.fV:=λv a=>bZ.2 ⟨v,a,rfl⟩
 refine⟨⟨?_,?_,h.nx,?_,?_,?_,?_⟩,?_⟩
 ·rw[qH h,bm];exact h.few
 ·rw[sC h];exact LR h.trs
 ·rw[qH h];intro v a;obtain⟨u,b,rfl⟩:=bZ.1 a;exact h.ids u b
 ·rw[qH h,BP];exact h.asc
 ·rw[qH h,sC h];intro v a;obtain⟨u,b,rfl⟩:=bZ.1 a;exact LE h.trs (d u b)
 ·rw[qH h,sC h];intro v a k c;obtain⟨u,b,rfl⟩:=bZ.1 a;show cG _ _ k<s.next;rw[H5 h.trs (d u b) c];exact h.less u b k c
 ·rw[Sp h,sC h];intro j e;exact aan h.trs e
theorem yB(h:s.Near):cW (hO s)=cW s:=by
 unfold cW;rw[qH h,sC h,BJ];refine oY λv a=>?_
 show(v.1,_)=(v.1,_);rw[SH h.trs (bZ.2 ⟨v,a,rfl⟩)]
end Words
end Go.Proofs.YtgigcooffjjbgaaGreatDoor
