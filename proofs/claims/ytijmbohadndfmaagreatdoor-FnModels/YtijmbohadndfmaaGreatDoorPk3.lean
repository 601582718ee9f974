/-
  RcMath; TxMath; TxMath2; TrMath3; TrMath4; SwMath; StoM
-/
import Derived.Test.YtijmbohadndfmaaGreatDoorPk1
open Option renaming none→O,some→X
open Bool renaming true→iV,false→iF
namespace Go.Proofs.YtijmbohadndfmaaGreatDoor.Words
structure Rc where
 kind:Int
 vol:Int
 arg:Int
 fC:Int
def Rc.tu(r:Rc):Int×Int×Int×Int:=(r.kind,r.vol,r.arg,r.fC)
def Rc.Right(r:Rc):Prop:=
 (0<=r.arg/\r.arg<=1000000000)/\(r.kind=1/\r.vol=0/\r.fC=0∨(1<=r.vol/\r.vol<=9)/\(r.kind=2/\r.arg<=9/\r.fC=0∨r.kind=3/\r.arg=0/\r.fC=0∨r.kind=4/\r.arg<16/\1<=r.fC/\r.fC<=1000000000∨r.kind=5/\r.arg<16/\r.fC=0))
abbrev Rc.decR(r:Rc):Decidable r.Right:=by unfold Rc.Right;exact inferInstance
def ie(r:Rc):List UInt8:=UInt8.ofNat (16*r.kind+r.vol).toNat::(bL r.arg.toNat++bL r.fC.toNat)
def lR(r:Rc):ByteArray:=(nA (16*r.kind+r.vol).toNat++eP r.arg.toNat)++eP r.fC.toNat
theorem yP(r:Rc):(lR r).data.toList=ie r:=by
 simp[lR,ie,nA,eP,ByteArray.data_append]
theorem wU(r:Rc)(h:r.Right):3<=(ie r).length/\(ie r).length<=19:=by
 obtain⟨h1,c⟩:=h;have a:=pQ r.arg.toNat (by omega)
 have b:=pQ r.fC.toNat (by omega)
 simp only[ie,aR,aT];omega
def dM:List Rc->List UInt8
 | []=> []
 |r::l=>ie r++dM l
theorem Gc(a b:List Rc):dM (a++b)=dM a++dM b:=by
 induction a with
 |nil=>rfl
 |cons r a c=>simp only[jf,dM,c,fJ]
theorem Jk(a:List Rc)(r:Rc):dM (a++[r])=dM a++ie r:=by
 rw[Gc];simp[dM]
theorem S6(a:List Rc)(h:∀r∈a,r.Right):3*a.length<=(dM a).length/\(dM a).length<=19*a.length:=by
 induction a with
 |nil=>simp[dM]
 |cons r a c=>
  have h1:=wU r (h r (by simp))
  have d:=c (λx b=>h x (by simp[b]))
  simp only[dM,aT,aR];omega
def kE(l:List UInt8)(q:Nat):Option (Rc×Nat):=
 match l[q]? with
 |none=>O
 |some k=>
  match cF l (q+1)with
  |none=>O
  |some (a,i)=>
   match cF l i with
   |none=>O
   |some (c,j)=>letI:=(Rc.mk (k.toNat/16:Nat) (k.toNat % 16:Nat) a c).decR;if (Rc.mk (k.toNat/16:Nat) (k.toNat % 16:Nat) a c).Right then X (Rc.mk (k.toNat/16:Nat) (k.toNat % 16:Nat) a c,j)else O
variable{q j:Nat}
theorem Nq{l:List UInt8}{k:UInt8}(h:l[q]?=X k):q<l.length/\l.drop q=k::l.drop (q+1):=by
 obtain⟨h1,a⟩:=aD.1 h;exact⟨h1,by rw[<-a];exact gj h1⟩
theorem Ez{l:List UInt8}{r:Rc}(h:kE l q=X (r,j)):
 ∃(k:UInt8) (a i c:Nat),l[q]?=X k/\cF l (q+1)=X (a,i)/\cF l i=X (c,j)/\r=Rc.mk (k.toNat/16:Nat) (k.toNat % 16:Nat) a c/\r.Right:=by
 unfold kE at h;split at h
 ·cases h
 rename_i k hk
 split at h
 ·cases h
 rename_i a i ha
 split at h
 ·cases h
 rename_i c j' hc
 split at h
 ·rename_i hr
  cases h;exact⟨k,a,i,c,hk,ha,hc,rfl,hr⟩
 ·cases h
theorem wI{l:List UInt8}{r:Rc}(h:kE l q=X (r,j)):r.Right/\q<l.length/\q<j/\j<=l.length/\l.drop q=ie r++l.drop j:=by
 obtain⟨k,a,i,c,p,d,f,rfl,g⟩:=Ez h;obtain⟨h1,o⟩:=Nq p;have m:=sX _ _ _ _ d;have n:=sX _ _ _ _ f;have t:=sd l (q+1) a i (by omega) d
 have u:=sd l i c j (by omega) f
 have e:UInt8.ofNat (16*((k.toNat/16:Nat):Int)+((k.toNat % 16:Nat):Int)).toNat=k:=by
  have:(16*((k.toNat/16:Nat):Int)+((k.toNat % 16:Nat):Int)).toNat=k.toNat:=by omega
  rw[this];exact UInt8.ofNat_toNat
 have b:l.drop q=ie (Rc.mk (k.toNat/16:Nat) (k.toNat % 16:Nat) a c)++l.drop j:=by
  rw[o,m,n];simp only[ie,e,aZ,jf,fJ]
 refine⟨g,h1,?_,by omega,b⟩
 have s:=wU _ g;have:=congrArg List.length b;simp only[aT,jz]at this;omega
theorem Lz{l:List UInt8}{r:Rc}{t:List UInt8}(b:r.Right)(h:l.drop q=ie r++t):kE l q=X (r,q+(ie r).length)/\l.drop (q+(ie r).length)=t:=by
 have j:=b;obtain⟨h1,e⟩:=j;have m:l[q]?=X (UInt8.ofNat (16*r.kind+r.vol).toNat):=by
  have:(l.drop q)[0]?=X (UInt8.ofNat (16*r.kind+r.vol).toNat):=by rw[h];rfl
  rw[mQ]at this
  simpa using this
 have f:l.drop (q+1)=bL r.arg.toNat++(bL r.fC.toNat++t):=by
  rw[<-qo,h];simp[ie]
 obtain⟨i,h4⟩:=sU l (q+1) r.arg.toNat _ (by omega) f
 obtain⟨k,g⟩:=sU l _ r.fC.toNat _ (by omega) h4
 have c:(UInt8.ofNat (16*r.kind+r.vol).toNat).toNat=(16*r.kind+r.vol).toNat:=by rw[og];omega
 have d:Rc.mk ((UInt8.ofNat (16*r.kind+r.vol).toNat).toNat/16:Nat) ((UInt8.ofNat (16*r.kind+r.vol).toNat).toNat % 16:Nat) (r.arg.toNat:Nat) (r.fC.toNat:Nat)=r:=by
  rw[c];cases r;simp only[Rc.mk.injEq];simp only at h1 e;omega
 have a:q+(ie r).length=q+1+(bL r.arg.toNat).length+(bL r.fC.toNat).length:=by simp only[ie,aR,aT];omega
 constructor
 ·unfold kE;rw[m];simp only[i,k,a];rw[d,aj b]
 ·rw[a];exact g
def qS(l:List UInt8):Nat->Nat->Option (List Rc)
 |0,_=>O
 |f+1,q=>if l.length<=q then X []else
  match kE l q with
  |none=>O
  |some (r,j)=>(qS l f j).map (r::·)
def fR(l:List UInt8)(q:Nat):Option (List Rc):=qS l (l.length-q+1) q
theorem TE(l:List UInt8):∀(f q:Nat),l.length-q+1<=f->qS l f q=fR l q:=by
 intro f
 induction f using Nat.strongRecOn with
 |ind f ih=>
  intro q h;cases f with
  |zero=>omega
  |succ f=>
   unfold fR;simp only[qS];split
   ·rfl
   ·cases e:kE l q with
    |none=>rfl
    |some x=>
     obtain⟨r,j⟩:=x;obtain⟨-,h1,b,c,-⟩:=wI e;simp only;rw[ih f (by omega) j (by omega)]
     by_cases a:l.length-q=f
     ·rw[a,ih f (by omega) j (by omega)]
     ·rw[ih (l.length-q) (by omega) j (by omega)]
theorem DH{l:List UInt8}(h:l.length<=q):fR l q=X []:=by
 unfold fR;simp only[qS,aj h]
theorem yz{l:List UInt8}(h:q<l.length)(h1:kE l q=O):fR l q=O:=by
 unfold fR;simp only[qS,ai (Nat.not_le.2 h),h1]
theorem wQ{l:List UInt8}{r:Rc}(h1:kE l q=X (r,j)):fR l q=(fR l j).map (r::·):=by
 obtain⟨-,a,b,c,-⟩:=wI h1;unfold fR;simp only[qS,ai (Nat.not_le.2 a),h1];rw[TE l (l.length-q) j (by omega)]
 rfl
theorem LE:∀(x:List Rc) (l:List UInt8) (q:Nat),(∀r∈x,r.Right)->l.drop q=dM x->fR l q=X x:=by
 intro x
 induction x with
 |nil=>
  intro l q _ h;have:=congrArg List.length h;simp only[dM,jz,cU]at this;exact DH (by omega)
 |cons r x c=>
  intro l q a h;obtain⟨h1,b⟩:=Lz (a r (by simp)) (by simpa only[dM]using h)
  rw[wQ h1,c l _ (λy hy=>a y (by simp[hy])) b]
  rfl
theorem RH:∀(x:List Rc) (l:List UInt8) (q:Nat),fR l q=X x->(∀r∈x,r.Right)/\l.drop q=dM x:=by
 intro x
 induction x with
 |nil=>
  intro l q h;refine⟨by simp,?_⟩
  by_cases b:l.length<=q
  ·exact kB b
  ·cases e:kE l q with
   |none=>rw[yz (by omega) e]at h;cases h
   |some y=>
    obtain⟨r,j⟩:=y;rw[wQ e]at h;cases a:fR l j with
    |none=>rw[a]at h;cases h
    |some z=>rw[a]at h;simp at h
 |cons r x f=>
  intro l q h;by_cases b:l.length<=q
  ·rw[DH b]at h;simp at h
  ·cases e:kE l q with
   |none=>rw[yz (by omega) e]at h;cases h
   |some y=>
    obtain⟨r',j⟩:=y;rw[wQ e]at h;cases a:fR l j with
    |none=>rw[a]at h;cases h
    |some z=>
     rw[a]at h;simp at h;obtain⟨rfl,rfl⟩:=h;obtain⟨h1,c⟩:=f l j a;obtain⟨d,-,-,-,h4⟩:=wI e;refine⟨?_,?_⟩
     ·intro y hy;rcases bf.1 hy with rfl|hy
      ·exact d
      ·exact h1 y hy
     ·rw[h4,c];rfl
end Go.Proofs.YtijmbohadndfmaaGreatDoor.Words
namespace Go.Proofs.YtijmbohadndfmaaGreatDoor.Words
def d8(l:List Rc):ByteArray:=⟨(dM l).toArray⟩
theorem Ht(l:List Rc):(d8 l).size=(dM l).length:=by show(dM l).toArray.size=_;simp
theorem Ee(l:List Rc):(d8 l).data.toList=dM l:=rfl
theorem Xl(l:List Rc)(r:Rc):d8 l++lR r=d8 (l++[r]):=by
 apply rB;rw[rV,BT,yP];show(dM l).toArray.toList++ie r=(dM (l++[r])).toArray.toList;rw[Jk]
theorem WQ(r:Rc):d8 [r]=lR r:=by
 apply rB;rw[yP];show ie r++[]=_;simp
def pM(s:List (List Rc)×List Rc)(r:Rc):List (List Rc)×List Rc:=
 if 90<(dM s.2).length+(ie r).length then(s.1++[s.2],[r])else(s.1,s.2++[r])
def pk(l:List Rc):List (List Rc)×List Rc:=l.foldl pM ([],[])
def cM(l:List Rc):List (List Rc):=(pk l).1++[(pk l).2]
theorem Ns:pk []=([],[]):=rfl
theorem z8(l:List Rc)(r:Rc):pk (l++[r])=pM (pk l) r:=by simp[pk,List.foldl_append]
variable{α:Type}{k i:Nat}
theorem Zh{l:List Rc}{r:Rc}(h:l[k]?=X r):pk (l.take (k+1))=pM (pk (l.take k)) r:=by
 rw[dF,h];exact z8 _ _
theorem yx(l:List Rc):0<(cM l).length:=by simp[cM]
theorem tX{P:List α->Prop}(h0:P [])(h1:∀l r,P l->P (l++[r])):∀l,P l:=by
 intro l;have:∀m:List α,P m.reverse:=by
  intro m
  induction m with
  |nil=>simpa using h0
  |cons a m b=>rw[List.reverse_cons];exact h1 _ _ b
 simpa using this l.reverse
theorem Mr(l:List Rc):(cM l).flatten=l:=by
 induction l using tX with
 |h0=>rfl
 |h1 l r ih=>
  unfold cM at*;rw[z8];unfold pM;split
  ·simp only[List.flatten_append,Db,List.flatten_nil,eM]at ih⊢;rw[ih]
  ·simp only[List.flatten_append,Db,List.flatten_nil,eM]at ih⊢;rw[<-fJ,ih]
theorem Nb(l:List Rc)(h:∀r∈l,r.Right):∀g∈cM l,(dM g).length<=90:=by
 induction l using tX with
 |h0=>intro g a;simp[cM,Ns]at a;subst a;simp[dM]
 |h1 l r ih=>
  have b:=ih (λx c=>h x (by simp[c]))
  have d:=wU r (h r (by simp))
  unfold cM at*;rw[z8];unfold pM;intro g a;split at a
  ·simp only[br,bT]at a b;rcases a with(a|a)|a
   ·exact b g (.inl a)
   ·exact b g (.inr a)
   ·subst a;simp only[dM,eM];omega
  ·simp only[br,bT]at a b;rcases a with a|a
   ·exact b g (.inl a)
   ·subst a;rw[Jk,aT];omega
def io(seq tx:Int)(l:List Rc):Prop:=
 (∀r∈l,r.Right)/\(cM l).length<=9/\1<=seq/\seq<=1000000000-(cM l).length+1/\1<=tx/\tx<=1000000000
abbrev mD(seq tx:Int)(l:List Rc):Decidable (io seq tx l):=by unfold io;exact @instDecidableAnd _ _ (@List.decidableBAll _ _ (λr=>r.decR) l) _
def qD(seq tx:Int)(n:Nat)(i:Nat)(g:List Rc):Pg:=⟨2,seq+i,tx,i,n,d8 g⟩
def co(seq tx:Int)(l:List Rc):List Pg:=(cM l).mapIdx (qD seq tx (cM l).length)
theorem xO(seq tx:Int)(l:List Rc):(co seq tx l).length=(cM l).length:=by simp[co]
variable{p:Pg}
theorem uT{seq tx:Int}{l:List Rc}(h:(co seq tx l)[i]?=X p):∃g,(cM l)[i]?=X g/\p=qD seq tx (cM l).length i g:=by
 unfold co at h;rw[List.getElem?_mapIdx]at h;cases a:(cM l)[i]? with
 |none=>rw[a]at h;simp at h
 |some g=>rw[a]at h;simp at h;exact⟨g,rfl,h.symm⟩
theorem Ih{seq tx:Int}{l:List Rc}{g:List Rc}(h:(cM l)[i]?=X g):(co seq tx l)[i]?=X (qD seq tx (cM l).length i g):=by
 unfold co;rw[List.getElem?_mapIdx,h];rfl
def jC(seq tx:Int)(l:List Rc):List Pg:=letI:=mD seq tx l;if io seq tx l then co seq tx l else[]
def pu(ps:List Pg)(tx:Int):Option Pg:=ps.find? (λp=>decide (p.kind=2/\p.tx=tx/\p.part=0))
def qX(ps:List Pg)(tx k c:Int):Option Pg:=ps.find? (λp=>decide (p.kind=2/\p.tx=tx/\p.part=k/\p.count=c))
def jg(ps:List Pg)(tx c:Int):Nat->Nat->Option (List Pg)
 |0,_=>X []
 |n+1,k=>
  match qX ps tx k c with
  |none=>O
  |some p=>(jg ps tx c n (k+1)).map (p::·)
def kz(ps:List Pg)(tx:Int):Option (List Pg):=
 match pu ps tx with
 |none=>O
 |some p=>(jg ps tx p.count (p.count.toNat-1) 1).map (p::·)
structure TxR where
 num:Int
 seq:Int
 fR:List Rc
def kG(l:List Pg):ByteArray:=⟨(l.flatMap (λp=>p.text.data.toList)).toArray⟩
theorem Yp(l:List Pg)(p:Pg):kG l++p.text=kG (l++[p]):=by
 apply rB;rw[rV,BT];simp[kG]
theorem VG(l:List Pg):(kG l).data.toList=l.flatMap (λp=>p.text.data.toList):=rfl
def oV:List Pg->Int
 | []=>0
 |p::l=>l.foldl (λm q=>if q.seq<m then q.seq else m) p.seq
theorem Uv(p:Pg):oV [p]=p.seq:=rfl
theorem TV{l:List Pg}(h:l≠ [])(q:Pg):oV (l++[q])=if q.seq<oV l then q.seq else oV l:=by
 cases l with
 |nil=>exact absurd rfl h
 |cons p l=>
  show(l++[q]).foldl _ p.seq=_;rw[rG];rfl
def dp(ps:List Pg)(tx:Int):Option TxR:=
 match kz ps tx with
 |none=>O
 |some l=>(fR (kG l).data.toList 0).map (λrs=>⟨tx,oV l,rs⟩)
def ru(ns:List Int)(x:Int):List Int:=ns.filter (λy=>decide (y<x))++[x]++ns.filter (λy=>decide (x<y))
def pi(ns:List Int)(p:Pg):List Int:=if p.kind=2 then ru ns p.tx else ns
def du(ps:List Pg):List Int:=ps.foldl pi []
variable{ps:List Pg}
theorem YL(h:ps[k]?=X p):du (ps.take (k+1))=pi (du (ps.take k)) p:=by
 rw[dF,h];simp[du,List.foldl_append]
theorem Bb(ps:List Pg)(p:Pg):du (ps++[p])=pi (du ps) p:=by simp[du,List.foldl_append]
theorem YO(ns:List Int)(x y:Int):y∈ru ns x↔y=x∨y∈ns:=by
 simp only[ru,br,dR,bT,rM];constructor
 ·rintro((⟨h,-⟩|h)|⟨h,-⟩)<;>simp_all
 ·rintro(h|h)
  ·simp[h]
  ·rcases Int.lt_trichotomy y x with g|g|g<;>simp_all
theorem UK(ns:List Int)(x:Int)(h:ns.Pairwise (·<·)):(ru ns x).Pairwise (·<·):=by
 unfold ru;rw[eW,eW];refine⟨⟨h.filter _,by simp,?_⟩,h.filter _,?_⟩
 ·intro a c b d;simp at c d;omega
 ·intro a c b d;simp at c d;omega
theorem Rs(ns:List Int)(x:Int):(ru ns x).length<=ns.length+1:=by
 have h:(ns.filter (λy=>decide (y<x))).length+(ns.filter (λy=>decide (x<y))).length<=ns.length:=by
  induction ns with
  |nil=>simp
  |cons a ns c=>
   rw[iH,iH];rcases Int.lt_trichotomy a x with g|g|g
   ·have e:¬x<a:=by omega
    simp only[g,e,pC,mK,cW,aR];simp only[hI,eT];omega
   ·have e:¬x<a:=by omega
    have b:¬a<x:=by omega
    simp only[e,b,mK,aR];simp only[hI,eT];omega
   ·have e:¬a<x:=by omega
    simp only[g,e,pC,mK,cW,aR];simp only[hI,eT];omega
 simp only[ru,aT,aR,cU];omega
theorem rk(ps:List Pg):(du ps).Pairwise (·<·):=by
 induction ps using tX with
 |h0=>simp[du]
 |h1 ps p ih=>
  rw[Bb];unfold pi;split
  ·exact UK _ _ ih
  ·exact ih
theorem q9(ps:List Pg)(x:Int):x∈du ps↔∃p∈ps,p.kind=2/\p.tx=x:=by
 induction ps using tX with
 |h0=>simp[du]
 |h1 ps p ih=>
  rw[Bb];unfold pi;split
  ·rename_i hk
   rw[YO,ih];constructor
   ·rintro(h|⟨q,a,h⟩)
    ·exact⟨p,by simp,hk,h.symm⟩
    ·exact⟨q,by simp[a],h⟩
   ·rintro⟨q,a,h1,b⟩;rw[br,bT]at a;rcases a with a|a
    ·exact .inr ⟨q,a,h1,b⟩
    ·subst a;exact .inl b.symm
  ·rename_i hk
   rw[ih];constructor
   ·rintro⟨q,a,h⟩;exact⟨q,by simp[a],h⟩
   ·rintro⟨q,a,h1,b⟩;rw[br,bT]at a;rcases a with a|a
    ·exact⟨q,a,h1,b⟩
    ·subst a;exact absurd h1 hk
theorem JN:∀{a b:List Int},a.Pairwise (·<·)->b.Pairwise (·<·)->(∀x,x∈a↔x∈b)->a=b:=by
 intro a
 induction a with
 |nil=>
  intro b _ _ h;cases b with
  |nil=>rfl
  |cons y b=>have:=(h y).2 (by simp);simp at this
 |cons x a o=>
  intro b l n h;cases b with
  |nil=>have:=(h x).1 (by simp);simp at this
  |cons y b=>
   obtain⟨g,j⟩:=gK.1 l;obtain⟨i,k⟩:=gK.1 n;have d:x=y:=by
    have h1:=(h x).1 (by simp)
    have c:=(h y).2 (by simp)
    rw[bf]at h1 c;rcases h1 with h1|h1
    ·exact h1
    ·rcases c with c|c
     ·exact c.symm
     ·have:=i x h1;have:=g y c;omega
   subst d;refine congrArg _ (o j k λz=>?_)
   have f:=h z;rw[bf,bf]at f;constructor
   ·intro m;rcases f.1 (.inr m)with e|e
    ·subst e;have:=g z m;omega
    ·exact e
   ·intro m;rcases f.2 (.inr m)with e|e
    ·subst e;have:=i z m;omega
    ·exact e
theorem JL(ps:List Pg):(du ps).length<=ps.length:=by
 induction ps using tX with
 |h0=>simp[du]
 |h1 ps p ih=>
  rw[Bb,aT];unfold pi;split
  ·have:=Rs (du ps) p.tx;simp only[aR,cU];omega
  ·omega
def dA(ps:List Pg):List TxR:=(du ps).filterMap (dp ps)
theorem IH(ps:List Pg):((dA ps).map (·.num)).Pairwise (·<·):=by
 have h:=rk ps;unfold dA;generalize du ps=ns at h
 induction ns with
 |nil=>simp
 |cons n ns f=>
  obtain⟨h1,d⟩:=gK.1 h;rw[pW];split
  ·exact f d
  ·rename_i x hx
   rw[cD,gK];refine⟨?_,f d⟩;intro y hy;have c:∀{m:Int} {z:TxR},dp ps m=X z->z.num=m:=by
    intro m z a;unfold dp at a;split at a
    ·cases a
    ·cases e:fR (kG _).data.toList 0 with
     |none=>rw[e]at a;cases a
     |some rs=>rw[e]at a;cases a;rfl
   obtain⟨z,a,rfl⟩:=bF.1 hy;obtain⟨m,g,b⟩:=uk.1 a;rw[c hx,c b];exact h1 m g
def TxR.base(t:TxR):Bool:=match t.fR with
 | []=>iF
 |r::_=>r.kind==1
def fE(l:List TxR):Nat->Nat
 |0=>0
 |i+1=>match l[i]? with
  |none=>fE l i
  |some t=>if t.base then i else fE l i
def jB(l:List TxR):List TxR:=l.drop (fE l l.length)
theorem zW(l:List TxR):∀i,fE l i<=i:=by
 intro i
 induction i with
 |zero=>simp[fE]
 |succ i a=>
  simp only[fE];split
  ·omega
  ·split<;>omega
theorem Gk(l:List TxR):∀i,i<=l.length->(fE l i=0∨∃t,l[fE l i]?=X t/\t.base=iV)/\∀j t,fE l i<j->j<i->l[j]?=X t->t.base=iF:=by
 intro i
 induction i with
 |zero=>intro _;exact⟨.inl rfl,λj t h1 a=>by omega⟩
 |succ i d=>
  intro hi;obtain⟨h1,a⟩:=d (by omega)
  have c:=zW l i;simp only[fE];split
  ·rename_i hn
   have:=KV.1 hn;omega
  ·rename_i t ht
   cases b:t.base with
   |true=>exact⟨.inr ⟨t,by simpa using ht,b⟩,λj u g1 g2=>by simp at g1;omega⟩
   |false=>
    refine⟨by simpa using h1,λj u g1 g2 g3=>?_⟩
    simp at g1;by_cases e:j=i
    ·subst e;rw[ht]at g3;cases g3;exact b
    ·exact a j u g1 (by omega) g3
end Go.Proofs.YtijmbohadndfmaaGreatDoor.Words
namespace Go.Proofs.YtijmbohadndfmaaGreatDoor.Words
variable{α:Type}{sq:Int}{i k m:Nat}
theorem Iy{l:List α}{P:α->Bool}{x:α}(c:x∈l)(a:P x=iV)(b:∀y∈l,P y=iV->y=x):l.find? P=X x:=by
 cases h:l.find? P with
 |none=>
  have:=Bf.1 h x c;exact absurd a this
 |some y=>rw[b y (rL h) (tK h)]
def tM(ps:List Pg)(tx:Int)(Q:List Pg):Prop:=∀x,(x∈ps/\x.kind=2/\x.tx=tx)↔x∈Q
theorem yj{seq tx:Int}{l:List Rc}{x:Pg}(h:x∈co seq tx l):∃i:Nat,i<(cM l).length/\(co seq tx l)[i]?=X x/\x.part=i/\x.kind=2/\x.tx=tx/\x.count=(cM l).length:=by
 obtain⟨i,hi⟩:=zL.1 h;obtain⟨g,a,rfl⟩:=uT hi;exact⟨i,(aD.1 a).1,hi,rfl,rfl,rfl,rfl⟩
theorem uh(seq tx:Int)(l:List Rc)(hi:i<(cM l).length):∃x,(co seq tx l)[i]?=X x/\x∈co seq tx l/\x.part=i/\x.kind=2/\x.tx=tx/\x.count=(cM l).length/\x.seq=seq+i:=by
 have e:=Ih (seq:=seq) (tx:=tx) (ay hi);exact⟨_,e,aH e,rfl,rfl,rfl,rfl,rfl⟩
theorem F9{seq tx:Int}{l:List Rc}{x y:Pg}(b:x∈co seq tx l)(hy:y∈co seq tx l)(h:x.part=y.part):x=y:=by
 obtain⟨i,-,h1,a,-⟩:=yj b;obtain⟨j,-,g1,g2,-⟩:=yj hy;have:i=j:=by rw[a,g2]at h;omega
 subst this;rw[h1]at g1;exact sN g1
variable{ps:List Pg}
theorem LJ{seq tx:Int}{l:List Rc}(h:tM ps tx (co seq tx l)):pu ps tx=(co seq tx l)[0]?:=by
 obtain⟨x,h1,b,c,h4,d,e,-⟩:=uh seq tx l (yx l);rw[h1];refine Iy ((h x).2 b).1 (by simp[h4,d,c]) ?_
 intro y hy a;simp at a;exact F9 ((h y).1 ⟨hy,a.1,a.2.1⟩) b (by rw[a.2.2,c];rfl)
theorem Vv{seq tx:Int}{l:List Rc}(h:tM ps tx (co seq tx l))(f:k<(cM l).length):qX ps tx k (cM l).length=(co seq tx l)[k]?:=by
 obtain⟨x,h1,b,c,h4,d,e,-⟩:=uh seq tx l f;rw[h1];refine Iy ((h x).2 b).1 (by simp[h4,d,c,e]) ?_
 intro y hy a;simp at a;exact F9 ((h y).1 ⟨hy,a.1,a.2.1⟩) b (by rw[a.2.2.1,c])
theorem QX{seq tx:Int}{l:List Rc}(h:tM ps tx (co seq tx l)):∀(m k:Nat),k+m=(cM l).length->jg ps tx (cM l).length m k=X ((co seq tx l).drop k):=by
 intro m
 induction m with
 |zero=>
  intro k b;simp only[jg];rw[kB (by rw[xO];omega)]
 |succ m c=>
  intro k b;have a:k<(cM l).length:=by omega
  obtain⟨x,h1,-⟩:=uh seq tx l a;simp only[jg,Vv h a,h1,c (k+1) (by omega),kg]
  obtain⟨d,e⟩:=aD.1 h1;rw[gj d,e]
theorem LN{seq tx:Int}{l:List Rc}(h:tM ps tx (co seq tx l)):kz ps tx=X (co seq tx l):=by
 obtain⟨x,h1,-,-,-,-,a,-⟩:=uh seq tx l (yx l);unfold kz;rw[LJ h,h1];simp only;have d:=yx l;have e:x.count.toNat-1=(cM l).length-1:=by rw[a];rfl
 rw[e,a,QX h _ 1 (by omega)]
 obtain⟨b,c⟩:=aD.1 h1;have:=gj b;rw[c]at this;simp only[xE]at this;rw[kg,<-this]
theorem Nm:∀gs:List (List Rc),gs.flatMap dM=dM gs.flatten:=by
 intro gs
 induction gs with
 |nil=>rfl
 |cons g gs a=>rw[qn,Db,Gc,a]
theorem Ms(seq tx:Int)(n:Nat):∀(gs:List (List Rc)) (k:Nat),(gs.mapIdx (λi g=>qD seq tx n (i+k) g)).flatMap (λp=>p.text.data.toList)=gs.flatMap dM:=by
 intro gs
 induction gs with
 |nil=>intro k;rfl
 |cons g gs a=>
  intro k;rw[List.mapIdx_cons,qn,qn];have e:(λi g=>qD seq tx n (i+1+k) g)=(λi g=>qD seq tx n (i+(k+1)) g):=by
   funext i g;rw[show i+1+k=i+(k+1)by omega]
  rw[e,a (k+1)];rfl
theorem Y6(seq tx:Int)(l:List Rc):kG (co seq tx l)=d8 l:=by
 apply rB;rw[VG,Ee];have:=Ms seq tx (cM l).length (cM l) 0;rw[Nm,Mr]at this;exact this
theorem UG:∀(l:List Pg) (m:Int),(∀q∈l,m<=q.seq)->l.foldl (λm q=>if q.seq<m then q.seq else m) m=m:=by
 intro l
 induction l with
 |nil=>intro m _;rfl
 |cons q l b=>
  intro m h;have h1:=h q (by simp)
  rw[nT,ai (by omega)]
  exact b m (λx a=>h x (by simp[a]))
theorem VL(seq tx:Int)(l:List Rc):oV (co seq tx l)=seq:=by
 obtain⟨x,h1,-,-,-,-,-,d⟩:=uh seq tx l (yx l);have a:∀q∈co seq tx l,seq<=q.seq:=by
  intro q b;obtain⟨i,hi⟩:=zL.1 b;obtain⟨g,-,rfl⟩:=uT hi;show seq<=seq+(i:Int);omega
 cases b:co seq tx l with
 |nil=>rw[b]at h1;simp at h1
 |cons p q=>
  rw[b]at h1 a;simp at h1;subst h1;have c:p.seq=seq:=by rw[d];simp
  show q.foldl (λm q=>if q.seq<m then q.seq else m) p.seq=seq
  rw[UG,c];intro z e;rw[c];exact a z (by simp[e])
theorem Uy{seq tx:Int}{l:List Rc}(a:∀r∈l,r.Right)(h:tM ps tx (co seq tx l)):dp ps tx=X ⟨tx,seq,l⟩:=by
 unfold dp;rw[LN h];simp only;rw[Y6,Ee,LE l _ 0 a rfl,VL];rfl
def dl(f:Pg->Nat)(ps:List Pg):Nat:=(ps.map f).sum
def lp(f:Pg->Nat)(ps:List Pg)(k:Int):Nat:=dl f (ps.filter (λp=>decide (p.part<k)))
theorem AE(f:Pg->Nat)(ps:List Pg)(k:Int):lp f ps k<=dl f ps:=by
 unfold lp dl
 induction ps with
 |nil=>simp
 |cons p ps a=>
  rw[iH];split
  ·simp only[cD,gt];omega
  ·simp only[cD,gt];omega
theorem YJ(f:Pg->Nat)(ps:List Pg)(k:Int):lp f ps k<=lp f ps (k+1):=by
 unfold lp dl
 induction ps with
 |nil=>simp
 |cons p ps b=>
  rw[iH,iH];by_cases h:p.part<k
  ·have a:p.part<k+1:=by omega
   simp only[h,a,pC,cW,cD,gt];omega
  ·simp only[h,mK,hI,eT];split
   ·simp only[cD,gt];omega
   ·exact b
variable{p:Pg}
theorem yg(f:Pg->Nat){k:Int}(a:p∈ps)(g:p.part=k):lp f ps k+f p<=lp f ps (k+1):=by
 induction ps with
 |nil=>cases a
 |cons q ps d=>
  have i:=YJ f ps k;unfold lp dl at*;rw[iH,iH];rcases bf.1 a with e|e
  ·subst e;have h1:¬p.part<k:=by omega
   have c:p.part<k+1:=by omega
   simp only[h1,c,pC,mK,hI,cW,eT,cD,gt];omega
  ·have:=d e;by_cases h:q.part<k
   ·have b:q.part<k+1:=by omega
    simp only[h,b,pC,cW,cD,gt];omega
   ·simp only[h,mK,hI,eT];split
    ·simp only[cD,gt];omega
    ·exact this
theorem FJ(f:Pg->Nat)(a:p∈ps):f p<=dl f ps:=by
 unfold dl
 induction ps with
 |nil=>cases a
 |cons q ps b=>
  rw[cD,gt];rcases bf.1 a with e|e
  ·subst e;omega
  ·have:=b e;omega
theorem RQ(ps:List Pg):dl (λ_=>1) ps=ps.length:=by
 unfold dl
 induction ps with
 |nil=>rfl
 |cons q ps a=>rw[cD,gt,a,aR];omega
def mO(ps:List Pg)(tx:Int)(k:Nat)(c:Int):Option Pg:=ps.find? (λp=>decide (p.kind=2/\p.tx=tx/\p.part=k/\(0<k->p.count=c)))
theorem J7(ps:List Pg)(tx c:Int):mO ps tx 0 c=pu ps tx:=by
 unfold mO pu;congr 1;funext p;simp
theorem I5(ps:List Pg)(tx:Int)(k:Nat)(c:Int)(a:0<k):mO ps tx k c=qX ps tx k c:=by
 unfold mO qX;congr 1;funext p;simp[a]
theorem xX{tx c:Int}(h:mO ps tx k c=X p):p∈ps/\p.kind=2/\p.tx=tx/\p.part=k/\(0<k->p.count=c):=by
 have h1:=rL h;have a:=tK h;simp only[bW]at a;exact⟨h1,a⟩
theorem Hu{l:List α}{P:α->Bool}{x:α}(a:l[m]?=X x)(h:(l.take m).find? P=O):(P x=iF->(l.take (m+1)).find? P=O)/\(P x=iV->l.find? P=X x):=by
 have c:=(aD.1 a).1;have e:l=l.take m++x::l.drop (m+1):=by
  have:=jP m l;rw[gj c,(aD.1 a).2]at this;exact this.symm
 constructor
 ·intro b;rw[dF,a,List.find?_append,h];simp[b]
 ·intro b;rw[e,List.find?_append,h];simp[b]
def pX(ps:List Pg)(tx:Int)(k:Nat)(c sq:Int)(done:List Pg):Prop:=
 (k=0/\done=[]/\c=0/\sq=0)∨(0<k/\done≠ []/\sq=oV done/\c.toNat<=dl (λp=>p.count.toNat) ps/\kz ps tx=(jg ps tx c (c.toNat-k) k).map (done++·))
variable{done:List Pg}
theorem pX.no{tx c:Int}(h:pX ps tx k c sq done)(e:k=0∨(k:Int)<c)(a:mO ps tx k c=O):kz ps tx=O:=by
 rcases h with⟨rfl,-⟩|⟨h0,-,-,-,b⟩
 ·rw[J7]at a;unfold kz;rw[a]
 ·rw[I5 _ _ _ _ h0]at a;obtain⟨m,d⟩:∃m,c.toNat-k=m+1:=⟨c.toNat-k-1,by omega⟩
  rw[b,d];simp only[jg,a,Option.map_none]
theorem pX.yes{tx c:Int}(h:pX ps tx k c sq done)(j:k=0∨(k:Int)<c)(a:mO ps tx k c=X p):pX ps tx (k+1) p.count (if k=0∨p.seq<sq then p.seq else sq) (done++[p]):=by
 have d:=xX a;refine .inr ⟨by omega,by simp,?_,FJ (λp=>p.count.toNat) d.1,?_⟩
 ·rcases h with⟨rfl,rfl,-,-⟩|⟨h0,h1,b,-,-⟩
  ·simp[Uv]
  ·rw[TV h1,<-b];by_cases g:p.seq<sq
   ·rw[aj (.inr g),aj g]
   ·rw[ai (by omega),ai g]
 ·rcases h with⟨rfl,rfl,-,-⟩|⟨h0,h1,b,-,e⟩
  ·rw[J7]at a;unfold kz;rw[a];rfl
  ·have f:=d.2.2.2.2 h0;rw[I5 _ _ _ _ h0]at a;obtain⟨m,i⟩:∃m,c.toNat-k=m+1:=⟨c.toNat-k-1,by omega⟩
   rw[e,i,f,show c.toNat-(k+1)=m by omega]
   simp only[jg,a,Option.map_map];congr 1;funext x;simp
theorem pX.end_{tx c:Int}(h:pX ps tx k c sq done)(d:¬(k=0∨(k:Int)<c)):kz ps tx=X done/\sq=oV done:=by
 rcases h with⟨rfl,-⟩|⟨h0,h1,a,-,b⟩
 ·simp at d
 ·have:c.toNat-k=0:=by omega
  rw[b,this];exact⟨by simp[jg],a⟩
end Go.Proofs.YtijmbohadndfmaaGreatDoor.Words
namespace Go.Proofs.YtijmbohadndfmaaGreatDoor
namespace Words
theorem Ut(p:Nat->Bool)(a:Nat):∀n,(List.range n).countP p<=(List.range n).countP (λi=>p i&& !(i==a))+(if a<n then 1 else 0):=by
 intro n
 induction n with
 |zero=>simp
 |succ n b=>
  rw[qb,xe,xe,zF,zF];by_cases e:n=a
  ·subst e;simp only[Bs,Bool.not_true,uq,hI,eT];rw[ai (by omega)]at b
   rw[aj (show n<n+1 by omega)]
   split<;>omega
  ·have c:(n==a)=iF:=by simpa using e
   rw[c];simp only[Bool.not_false,Cx];by_cases h:a<n
   ·rw[aj h]at b;rw[aj (show a<n+1 by omega)]
    omega
   ·rw[ai h]at b;rw[ai (show¬a<n+1 by omega)]
    omega
theorem VU:∀(c:List Nat) (n:Nat) (p:Nat->Bool),(∀i,p i=iV->i∈c)->(List.range n).countP p<=c.length:=by
 intro c
 induction c with
 |nil=>
  intro n p h;rw[List.countP_eq_zero.2 (λi _ b=>by have:=h i b;cases this)]
  exact ak _
 |cons a c d=>
  intro n p h;have h1:=Ut p a n;have f:=d n (λi=>p i&& !(i==a)) (λi hi=>by
   simp only[bt,lC,dZ]at hi;rcases bf.1 (h i hi.1)with e|e
   ·exact absurd e hi.2
   ·exact e)
  rw[aR];split at h1<;>omega
variable{r n:Int}{i s:Nat}
variable{l:List Kn}
theorem XV(h:r<0):dE l r i=iF:=by rw[dE,aV (by omega),mV]
theorem rH(h:0<=r):dE l r i=iV↔r=i∨∃k,k<4/\dH l r k=i:=by
 rw[dE,aQ h,jr,jd,bW,pO];constructor
 ·rintro(h|⟨k,a,e⟩)
  ·exact .inl h
  ·exact .inr ⟨k,ju.1 a,by simpa using e⟩
 ·rintro(h|⟨k,a,e⟩)
  ·exact .inl h
  ·exact .inr ⟨k,ju.2 a,by simpa using e⟩
section
end
end Words
namespace Words
def pt(l:List Kn)(r:Int)(s:Nat)(n:Int):List Kn:=l++[gS l r s n,gY l r s]
def vZ(l:List Kn):Int:=(l.length:Int)+1
def kX(l:List Kn)(r:Int):Prop:=cO l=iV/\bO l r=iV
variable{r:Int}{i:Nat}
variable{l:List Kn}
theorem xF{n:Int}{s:Nat}(h:kX l r)(hs:s<=15)(a:0<=n):kX (pt l r s n) (vZ l):=⟨zC h.1 h.2 hs a,RW⟩
theorem zJ{n k:Int}{s:Nat}(h:kX l r)(hs:s<=15)(b:0<=n)(a:bO l k=iV):kX (pt l r s n) k:=⟨zC h.1 h.2 hs b,VW a⟩
theorem Ab{n:Int}{s:Nat}(h:kX l r)(hs:s<=15)(b:0<=n):gN l r (s:Int) n=pt l r s n/\jo l r (s:Int) n=vZ l:=by
 have a:lO l r (s:Int) n=iV:=by rw[lO,kL,h.1,h.2,aQ (show(0:Int)<=(s:Int)by omega),aQ (show(s:Int)<=15 by omega),aQ b];rfl
 exact⟨by rw[gN,aj a,aZ];rfl,by rw[jo,aj a];rfl⟩
theorem mP(h:kX l r)(hi:i<=15):gF l r (i:Int)=cX l r i:=by
 rw[gF,kL,h.1,h.2,aQ (show(0:Int)<=(i:Int)by omega),aQ (show(i:Int)<=15 by omega),aZ]
 rfl
theorem Fg{n:Int}{s:Nat}(h:kX l r)(hs:s<=15)(a:0<=n)(hi:i<=15):gF (pt l r s n) (vZ l) (i:Int)=if i=s then n else gF l r (i:Int):=by
 rw[mP (xF h hs a) hi,mP h hi];exact RP h.1 h.2 hs hi
theorem Ga{n k:Int}{s:Nat}(h:kX l r)(hs:s<=15)(b:0<=n)(a:bO l k=iV)(hi:i<=15):gF (pt l r s n) k (i:Int)=gF l k (i:Int):=by
 rw[mP (zJ h hs b a) hi,mP ⟨h.1,a⟩ hi];exact Yu h.1 a hi
theorem En{m:List Kn}{k:Int}(h:∀i:Nat,i<=15->gF l r (i:Int)=gF m k (i:Int)):ce l r=ce m k:=by
 refine sJ (λi hi=>?_)
 have:=ju.1 hi;exact h i (by omega)
theorem VN{n k:Int}{s:Nat}(h:kX l r)(hs:s<=15)(b:0<=n)(a:bO l k=iV):ce (pt l r s n) k=ce l k:=En (λ_ hi=>Ga h hs b a hi)
end Words
namespace Words
def bw(l:List Kn)(rs:List Int)(i:Nat):Bool:=rs.any (λr=>dE l r i)
def cY(u:Nat->Bool)(i:Nat):Nat:=(List.range i).countP u
theorem SQ(u:Nat->Bool):cY u 0=0:=rfl
theorem qQ(u:Nat->Bool)(i:Nat):cY u (i+1)=cY u i+(if u i=iV then 1 else 0):=by
 rw[cY,cY,qb,xe,zF]
theorem Ct(u:Nat->Bool)(i:Nat):cY u i<=i:=by
 induction i with
 |zero=>exact ak _
 |succ i a=>rw[qQ];split<;>omega
variable{r:Int}{rs:List Int}{i j n k:Nat}{u:Nat -> Bool}
theorem Su(u:Nat->Bool)(h:i<=j):cY u i<=cY u j:=by
 induction j with
 |zero=>have:i=0:=by omega
        subst this;exact ak _
 |succ j a=>
  by_cases e:i=j+1
  ·subst e;exact ak _
  ·have:=a (by omega)
   rw[qQ];omega
theorem JD(u:Nat->Bool)(h:i<j)(a:u i=iV):cY u i<cY u j:=by
 have:=Su u (show i+1<=j by omega)
 rw[qQ,aj a]at this;omega
theorem GC(h:∀j,j<n->u j=iV):∀i,i<=n->cY u i=i:=by
 intro i
 induction i with
 |zero=>intro _;rfl
 |succ i a=>intro hi;rw[qQ,a (by omega),aj (h i (by omega))]
def fm(u:Nat->Bool)(n:Int):Int:=if n<0 then n else(cY u n.toNat:Int)
theorem sB(u:Nat->Bool){n:Int}(h:n<0):fm u n=n:=aj h
theorem qm(u:Nat->Bool)(n:Nat):fm u (n:Int)=(cY u n:Int):=by rw[fm,ai (by omega),aZ]
def dI(u:Nat->Bool)(x:Kn):Kn:=if x.leaf=iV then x else⟨iF,x.fD.map (fm u)⟩
theorem zy(u:Nat->Bool)(x:Kn):(dI u x).leaf=x.leaf:=by
 unfold dI;cases h:x.leaf with
 |true=>rw[aj rfl];exact h
 |false=>rfl
def ke(u:Nat->Bool)(l:List Kn):Nat->List Kn
 |0=> []
 |k+1=>if u k=iV then ke u l k++((l[k]?).map (dI u)).toList else ke u l k
variable{l:List Kn}
theorem zu(h:u k=iF):ke u l (k+1)=ke u l k:=by rw[ke,h,ai (by decide)]
theorem vJ{x:Kn}(h:u k=iV)(a:l[k]?=X x):ke u l (k+1)=ke u l k++[dI u x]:=by rw[ke,aj h,a];rfl
theorem uW(h:k<=l.length):(ke u l k).length=cY u k:=by
 induction k with
 |zero=>rfl
 |succ k b=>
  rw[qQ];cases a:u k with
  |false=>rw[zu a,b (by omega)];rfl
  |true=>rw[vJ a (ay (show k<l.length by omega)),aT,b (by omega)];rfl
theorem QG{x:Kn}(f:k<=l.length)(hi:i<k)(b:u i=iV)(c:l[i]?=X x):(ke u l k)[cY u i]?=X (dI u x):=by
 induction k with
 |zero=>omega
 |succ k d=>
  by_cases e:i=k
  ·subst e;rw[vJ b c,dz (by rw[uW (by omega)];exact ak _),uW (by omega),ja]
   rfl
  ·have h:=d (by omega) (by omega)
   cases a:u k with
   |false=>rw[zu a];exact h
   |true=>
    rw[vJ a (ay (show k<l.length by omega)),lz (by rw[uW (by omega)];exact JD u (by omega) b)]
    exact h
theorem FY(h:j<cY u k):∃i,i<k/\u i=iV/\cY u i=j:=by
 induction k with
 |zero=>rw[SQ]at h;omega
 |succ k c=>
  by_cases e:j<cY u k
  ·obtain⟨i,h1,b⟩:=c e;exact⟨i,by omega,b⟩
  ·rw[qQ]at h;cases a:u k with
   |false=>rw[a,ai (by decide)]at h;omega
   |true=>rw[a,aj rfl]at h;exact⟨k,by omega,a,by omega⟩
def jE(l:List Kn)(rs:List Int):List Kn:=ke (bw l rs) l l.length
def py(l:List Kn)(rs:List Int):Bool:=cO l&&rs.all (bO l)
def jp(l:List Kn)(rs:List Int):List Kn:=if py l rs=iV then jE l rs else l
def mr(l:List Kn)(rs:List Int):List Int:=if py l rs=iV then rs.map (fm (bw l rs))else rs
theorem Nu(l:List Kn)(rs:List Int):(mr l rs).length=rs.length:=by unfold mr;split<;>simp
section
def mS(l:List Kn)(rs:List Int):Prop:=cO l=iV/\∀r∈rs,bO l r=iV
theorem xS(h:mS l rs):py l rs=iV:=by rw[py,h.1,jr,gy];exact h.2
theorem LS(h:py l rs=iV):mS l rs:=by rw[py,bt,gy]at h;exact h
theorem wt(a:r∈rs)(h0:0<=r):bw l rs r.toNat=iV:=by
 rw[bw,pO];exact⟨r,a,(rH h0).2 (.inl (by omega))⟩
theorem Ki(a:r∈rs)(h:dE l r i=iV):bw l rs i=iV:=by
 rw[bw,pO];exact⟨r,a,h⟩
theorem zZ(h:dE l r i=iV):0<=r:=by
 by_cases h0:0<=r
 ·exact h0
 ·rw[XV (by omega)]at h;cases h
theorem Te(d:cO l=iV)(o:bO l r=iV)(h:dE l r i=iV):i<l.length/\(r=i∨jJ l i=iV):=by
 have h0:=zZ h;obtain⟨x,a,b⟩:=lQ o h0;have j:=(aD.1 a).1;rcases(rH h0).1 h with e|⟨k,g,e⟩
 ·exact⟨by omega,.inl e⟩
 ·obtain⟨n,m,f⟩:=md d a b g;rw[ix a m]at e;rcases f with q|⟨p,s,y,hy,c,-⟩
  ·omega
  ·have:n.toNat=i:=by omega
   rw[this]at hy;have:=(aD.1 hy).1;exact⟨this,.inr (by rw[pD (y:=y) (by simpa using hy)];exact c)⟩
theorem LR(h:mS l rs){x:Kn}(f:l[i]?=X x)(d:x.leaf=iF)(b:bw l rs i=iV):(i:Int)∈rs:=by
 rw[bw,pO]at b;obtain⟨r,a,c⟩:=b;rcases(Te h.1 (h.2 r a) c).2 with e|e
 ·rw[<-e];exact a
 ·rw[pD (y:=x) (by simpa using f),d]at e
  cases e
theorem Da(h:mS l rs){x:Kn}(a:l[i]?=X x)(c:x.leaf=iF)(f:bw l rs i=iV)(b:k<4)(d:x.fD[k]?=X (n:Int)):bw l rs n=iV:=by
 have e:=LR h a c f;refine Ki e ((rH (by omega)).2 (.inr ⟨k,b,?_⟩))
 exact ix (by rw[aZ];exact a) d
theorem uD:(jE l rs).length=cY (bw l rs) l.length:=uW (ak _)
theorem tF{x:Kn}(a:l[i]?=X x)(b:bw l rs i=iV):(jE l rs)[cY (bw l rs) i]?=X (dI (bw l rs) x):=QG (ak _) (aD.1 a).1 b a
theorem L9{y:Kn}(hy:(jE l rs)[j]?=X y):∃i x,l[i]?=X x/\bw l rs i=iV/\cY (bw l rs) i=j/\y=dI (bw l rs) x:=by
 have c:=(aD.1 hy).1;rw[uD]at c;obtain⟨i,h1,a,b⟩:=FY c;have d:=ay h1;refine⟨i,_,d,a,b,?_⟩;have:=tF d a;rw[b,hy]at this;exact sN this
theorem Ra{x:Kn}(a:x.leaf=iF){n:Int}(b:x.fD[k]?=X n):(dI u x).fD[k]?=X (fm u n):=by
 rw[dI,ai (by rw[a];decide)]
 show(x.fD.map (fm u))[k]?=_;rw[bk,b];rfl
theorem Fj(h:mS l rs):cO (jE l rs)=iV:=by
 refine Gf (λj y hy=>?_)
 obtain⟨i,x,g,w,A,rfl⟩:=L9 hy;have p:=lA h.1 g;have h4:=lY p;cases a:x.leaf with
 |true=>
  have e:dI (bw l rs) x=x:=by rw[dI,aj a]
  rw[e];refine uU h4 (λn f=>?_)
  obtain⟨k,b⟩:=ml f;have:=wR p b;rw[fN,aj a]at this;rw[fN,aj a];exact this
 |false=>
  have e:dI (bw l rs) x=⟨iF,x.fD.map (fm (bw l rs))⟩:=by rw[dI,ai (by rw[a];decide)]
  rw[e];refine uU (by rw[aS];exact h4) (λn f=>?_)
  obtain⟨m,v,rfl⟩:=bF.1 f;obtain⟨k,b⟩:=ml v;have u:=(aD.1 b).1;obtain⟨B,c,t⟩:=md h.1 (r:=(i:Int)) (by rw[aZ];exact g) a (show k<4 by omega)
  rw[b]at c;cases c;rw[fN,ai (show¬(iF=iV)by decide)]
  simp only[jd,bt,bW];rcases t with rfl|⟨c1,c2,z,s,o,-⟩
  ·exact .inl (sB _ (by omega))
  ·obtain⟨q,rfl⟩:∃q:Nat,m=(q:Int):=⟨m.toNat,by omega⟩
   simp only[aZ]at c2 s;have d:=Da h g a w (show k<4 by omega) b
   rw[qm];have:=JD (bw l rs) (show q<i by omega) d
   refine .inr ⟨⟨by omega,by omega⟩,?_⟩
   rw[pD (y:=dI (bw l rs) z) (by rw[aZ];exact tF s d),zy]
   exact o
theorem H6(h:mS l rs)(a:r∈rs):bO (jE l rs) (fm (bw l rs) r)=iV:=by
 unfold bO;simp only[jd,bt,bW,lC];by_cases h0:r<0
 ·left;rw[sB _ h0];have:=h.2 r a;unfold bO at this;simp only[jd,bt,bW]at this;omega
 ·right;obtain⟨x,e,b⟩:=lQ (h.2 r a) (by omega)
  have d:=wt (l:=l) a (by omega)
  obtain⟨q,rfl⟩:∃q:Nat,r=(q:Int):=⟨r.toNat,by omega⟩
  simp only[aZ]at e d;have c:=tF e d;have:=(aD.1 c).1;rw[qm];refine⟨⟨by omega,by omega⟩,?_⟩
  rw[pD (y:=dI (bw l rs) x) (by rw[aZ];exact c),zy]
  exact b
theorem EE(h:mS l rs){r:Nat}(d:(r:Int)∈rs)(g:k<4):dH (jE l rs) (cY (bw l rs) r:Int) k=fm (bw l rs) (dH l (r:Int) k):=by
 obtain⟨x,b,a⟩:=lQ (h.2 _ d) (by omega)
 have e:=wt (l:=l) d (by omega)
 simp only[aZ]at b e;have f:=tF b e;obtain⟨n,c,-⟩:=md h.1 (r:=(r:Int)) (by rw[aZ];exact b) a g
 rw[ix (by rw[aZ];exact f) (Ra a c),ix (by rw[aZ];exact b) c]
theorem Gs(h:mS l rs)(d:r∈rs){s:Nat}(hs:s<=15):cX (jE l rs) (fm (bw l rs) r) s=cX l r s:=by
 unfold cX;by_cases h0:r<0
 ·rw[sB _ h0,aj h0,aj h0]
 ·obtain⟨q,rfl⟩:∃q:Nat,r=(q:Int):=⟨r.toNat,by omega⟩
  obtain⟨x,c,a⟩:=lQ (h.2 _ d) (by omega)
  have i:=wt (l:=l) d (by omega)
  rw[aZ]at c i;rw[qm,ai (show¬(cY (bw l rs) q:Int)<0 by omega),ai h0,EE h d (show s/4<4 by omega)]
  obtain⟨n,g,o⟩:=md h.1 (r:=(q:Int)) (by rw[aZ];exact c) a (show s/4<4 by omega)
  rw[ix (by rw[aZ];exact c) g]
  rcases o with rfl|⟨c1,c2,y,hy,b,-⟩
  ·rw[sB _ (show(-1:Int)<0 by omega),aj (show(-1:Int)<0 by omega),aj (show(-1:Int)<0 by omega)]
  ·obtain⟨j,rfl⟩:∃j:Nat,n=(j:Int):=⟨n.toNat,by omega⟩
   rw[aZ]at hy;have f:=Da h c a i (show s/4<4 by omega) g
   obtain⟨v,k,-⟩:=Cn h.1 hy b (show s % 4<4 by omega)
   have e:dI (bw l rs) y=y:=by rw[dI,aj b]
   have m:=tF hy f;rw[e]at m;rw[qm,ai (show¬(cY (bw l rs) j:Int)<0 by omega),ai (show¬(j:Int)<0 by omega),ix (by rw[aZ];exact m) k,ix (by rw[aZ];exact hy) k]
theorem YX(h:mS l rs)(a:r∈rs):ce (jE l rs) (fm (bw l rs) r)=ce l r:=
 En (λi hi=>by rw[mP ⟨Fj h,H6 h a⟩ hi,mP ⟨h.1,h.2 r a⟩ hi];exact Gs h a hi)
theorem YG(h:mS l rs)(b:j<(jE l rs).length):bw (jE l rs) (rs.map (fm (bw l rs))) j=iV:=by
 rw[uD]at b;obtain⟨i,-,f,rfl⟩:=FY b;obtain⟨r,d,a⟩:=pO.1 f;have h0:=zZ a;obtain⟨q,rfl⟩:∃q:Nat,r=(q:Int):=⟨r.toNat,by omega⟩
 refine Ki (bF.2 ⟨_,d,rfl⟩) ?_;rw[qm,rH (by omega)]
 rcases(rH h0).1 a with e|⟨k,c,e⟩
 ·left;have:q=i:=by omega
  rw[this]
 ·right;exact⟨k,c,by rw[EE h d c,e,qm]⟩
theorem OK:(jE l rs).length<=l.length:=by rw[uD];exact Ct _ _
end
end Words
namespace Words
structure Sto where
 fV:List (Int×Int)
 fK:List Kn
 next:Int
def cC(l:List (Int×Int)):List Int:=l.map (·.2)
def gO:Sto:=⟨[],[],1⟩
def m7(s:Sto)(i:Nat)(id:Int):Bool:=match i with
 |0=>iV
 |j+1=>match s.fV[j]? with
  |some u=>decide (u.1<id)
  |none=>iV
def kp(s:Sto)(r:Int)(k:Nat):Bool:=(List.range k).all (λj=>decide (cX s.fK r j<s.next))
def ly(s:Sto)(i:Nat)(v:Int×Int):Bool:=((decide (1<=v.1)&&decide (v.1<=9))&&m7 s i v.1)&&(bO s.fK v.2&&kp s v.2 16)
def je(s:Sto):Nat->Bool
 |0=>iV
 |k+1=>je s k&&(match s.fV[k]? with|some v=>ly s k v|none=>iV)
def dc(s:Sto):Bool:=((decide (s.fV.length<=3)&&cO s.fK)&&(decide (1<=s.next)&&decide (s.next<=1000000000)))&&(je s s.fV.length&&decide ((jp s.fK (cC s.fV)).length=s.fK.length))
variable{r id:Int}{v:Int × Int}{k j i n:Nat}{u:Nat -> Bool}
variable{s:Sto}
theorem Aa(h:s.fV[k]?=X v):je s (k+1)=(je s k&&ly s k v):=by rw[je,h]
theorem Mp(h:j<=k)(a:je s k=iV):je s j=iV:=by
 induction k with
 |zero=>have:j=0:=by omega
        subst this;exact a
 |succ k b=>
  rw[je,bt]at a;by_cases e:j=k+1
  ·subst e;rw[je,bt];exact a
  ·exact b (by omega) a.1
theorem I4(h:je s s.fV.length=iV)(hi:s.fV[i]?=X v):ly s i v=iV:=by
 have a:=(aD.1 hi).1;have:=Mp (show i+1<=s.fV.length by omega) h
 rw[Aa hi,bt]at this;exact this.2
theorem Qm(hi:s.fV[i]?=X v)(a:ly s i v=iF):je s s.fV.length=iF:=by
 cases h:je s s.fV.length with
 |false=>rfl
 |true=>rw[I4 h hi]at a;cases a
theorem Vz(h:∀i v,s.fV[i]?=X v->ly s i v=iV):∀k,k<=s.fV.length->je s k=iV:=by
 intro k
 induction k with
 |zero=>intro _;rfl
 |succ k a=>
  intro b;have e:=ay (show k<s.fV.length by omega)
  rw[Aa e,a (by omega),h k _ e]
  rfl
theorem Sv(h:cY u n=n):∀j,j<n->u j=iV:=by
 induction n with
 |zero=>intro j b;omega
 |succ n c=>
  rw[qQ]at h;have h1:=Ct u n;cases a:u n with
  |false=>rw[a,ai (by decide)]at h;omega
  |true=>
   rw[a,aj rfl]at h;intro j b;by_cases e:j=n
   ·subst e;exact a
   ·exact c (by omega) j (by omega)
structure Sto.Near (s:Sto):Prop where
 few:s.fV.length<=3
 ar:cO s.fK=iV
 nx:1<=s.next/\s.next<=1000000000
 ids:∀v∈s.fV,1<=v.1/\v.1<=9
 asc:s.fV.Pairwise (λu v=>u.1<v.1)
 root:∀v∈s.fV,bO s.fK v.2=iV
 less:∀v∈s.fV,∀k:Nat,k<=15->cX s.fK v.2 k<s.next
structure Sto.Right (s:Sto):Prop extends Sto.Near s where
 used:∀j,j<s.fK.length->bw s.fK (cC s.fV) j=iV
theorem Sto.Near.trs(h:s.Near):mS s.fK (cC s.fV):=⟨h.ar,λr a=>by
 obtain⟨v,b,rfl⟩:=bF.1 a;exact h.root v b⟩
theorem QB{l:List (Int×Int)}(h:∀i u v,l[i]?=X u->l[i+1]?=X v->u.1<v.1):l.Pairwise (λu v=>u.1<v.1):=by
 have c:∀d i u v,l[i]?=X u->l[i+d+1]?=X v->u.1<v.1:=by
  intro d
  induction d with
  |zero=>intro i u v h1 f;exact h i u v h1 f
  |succ d m=>
   intro i u v h1 f;have n:=(aD.1 f).1;have e:=ay (show i+d+1<l.length by omega)
   have a:=m i u _ h1 e;have b:=h (i+d+1) _ v e (by rw[show i+d+1+1=i+(d+1)+1 by omega];exact f)
   omega
 rw[mJ];intro i j hi k g;refine c (j-i-1) i _ _ (ay hi) ?_;rw[show i+(j-i-1)+1=j by omega]
 exact ay k
theorem Az:kp s r 16=iV↔∀k:Nat,k<=15->cX s.fK r k<s.next:=by
 rw[kp,gy];constructor
 ·intro h k a;have:=h k (ju.2 (by omega))
  simpa using this
 ·intro h k a;have:=h k (by have:=ju.1 a;omega)
  simpa using this
theorem jQ(s:Sto):dc s=iV↔s.Right:=by
 unfold dc;simp only[bt,rM];constructor
 ·rintro⟨⟨⟨h1,g⟩,k⟩,h4,d⟩;have vb:∀i v,s.fV[i]?=X v->((1<=v.1/\v.1<=9)/\m7 s i v.1=iV)/\bO s.fK v.2=iV/\kp s v.2 16=iV:=by
   intro i v hi;have:=I4 h4 hi;rw[ly]at this
   simpa only[bt,rM]using this
  have c:∀v∈s.fV,(1<=v.1/\v.1<=9)/\bO s.fK v.2=iV/\kp s v.2 16=iV:=by
   intro v a;obtain⟨i,hi,e⟩:=qI.1 a;have:=vb i v (by rw[<-e];exact ay hi)
   exact⟨this.1.1,this.2⟩
  have f:s.Near:=by
   refine⟨h1,g,k,λv a=>(c v a).1,QB ?_,λv a=>(c v a).2.1,λv a=>Az.1 (c v a).2.2⟩
   intro i u v m a;have:=(vb (i+1) v a).1.2;rw[m7,m]at this
   simpa using this
  refine⟨f,?_⟩;rw[jp,aj (xS f.trs),uD]at d;exact Sv d
 ·intro h;refine⟨⟨⟨h.few,h.ar⟩,h.nx⟩,Vz ?_ _ (ak _),?_⟩
  ·intro i v hi;have b:=aH hi;rw[ly];simp only[bt,rM];refine⟨⟨h.ids v b,?_⟩,h.root v b,Az.2 (h.less v b)⟩;cases i with
   |zero=>rfl
   |succ j=>
    have l:=(aD.1 hi).1;have e:=ay (show j<s.fV.length by omega)
    rw[m7,e];have:=(mJ.1 h.asc) j (j+1) (by omega) l (by omega)
    rw[(aD.1 hi).2]at this
    simpa using this
  ·rw[jp,aj (xS h.trs),uD];exact GC h.used _ (ak _)
def iM(l:List (Int×Int))(id:Int):Nat->Option Nat
 |0=>O
 |k+1=>match iM l id k with
  |some j=>X j
  |none=>match l[k]? with
   |some v=>if v.1=id then X k else O
   |none=>O
def bY(l:List (Int×Int))(id:Int):Option Nat:=iM l id l.length
theorem Sf{l:List (Int×Int)}(h:iM l id k=X j):j<k/\∃v,l[j]?=X v/\v.1=id:=by
 induction k with
 |zero=>cases h
 |succ k b=>
  rw[iM]at h;cases e:iM l id k with
  |some i=>
   rw[e]at h;injection h with h
   subst h;obtain⟨h1,a⟩:=b e;exact⟨by omega,a⟩
  |none=>
   rw[e]at h;simp only at h;split at h
   ·rename_i v hv
    split at h
    ·rename_i hid
     injection h with h
     subst h;exact⟨by omega,v,hv,hid⟩
    ·cases h
   ·cases h
theorem Th{l:List (Int×Int)}(h:iM l id k=O):∀j v,j<k->l[j]?=X v->v.1≠id:=by
 induction k with
 |zero=>intro j v d;omega
 |succ k f=>
  rw[iM]at h;cases e:iM l id k with
  |some i=>rw[e]at h;cases h
  |none=>
   rw[e]at h;simp only at h;intro j v d b;by_cases c:j=k
   ·subst c;rw[b]at h;simp only at h;intro a;rw[aj a]at h;cases h
   ·exact f e j v (by omega) b
theorem Of{l:List (Int×Int)}(h:iM l id k=O)(b:l[k]?=X v)(a:v.1≠id):iM l id (k+1)=O:=by
 rw[iM,h,b];exact ai a
theorem Yk{l:List (Int×Int)}(h:iM l id k=O)(b:l[k]?=X v)(a:v.1=id):∀m,k<m->iM l id m=X k:=by
 intro m
 induction m with
 |zero=>intro h;omega
 |succ m c=>
  intro d;by_cases e:m=k
  ·subst e;rw[iM,h,b];exact aj a
  ·rw[iM,c (by omega)]
theorem qa{l:List (Int×Int)}(h:bY l id=X j):∃v,l[j]?=X v/\v.1=id:=(Sf h).2
theorem Dj{l:List (Int×Int)}(h:bY l id=O):∀v∈l,v.1≠id:=by
 intro v a;obtain⟨i,hi,e⟩:=qI.1 a;exact Th h i v hi (by rw[<-e];exact ay hi)
theorem Zd{l:List (Int×Int)}(a:v∈l)(e:v.1=id):∃j,bY l id=X j:=by
 cases h:bY l id with
 |some j=>exact⟨j,rfl⟩
 |none=>exact absurd e (Dj h v a)
def mR(l:List (Int×Int))(id:Int):Option Int:=(bY l id).bind (λk=>(l[k]?).map (·.2))
def g9(s:Sto):Sto:=⟨List.zipWith (λv r=>(v.1,r)) s.fV (mr s.fK (cC s.fV)),jp s.fK (cC s.fV),s.next⟩
def gG(l:List (Int×Int))(id r:Int):List (Int×Int):=l.filter (λv=>decide (v.1<id))++(id,r)::l.filter (λv=>decide (id<v.1))
def ft(s:Sto)(r:Rc):Sto×Bool:=
 match (if 0<r.arg then mR s.fV r.arg else X (-1))with
 |none=>(s,iF)
 |some q=>if (bY s.fV r.vol).isSome||decide (s.fV.length=3)then(s,iF)else(⟨gG s.fV r.vol q,s.fK,s.next⟩,iV)
def xH(s:Sto)(k:Nat):Sto:=g9 ⟨s.fV.take k++s.fV.drop (k+1),s.fK,s.next⟩
def oT(s:Sto)(k:Nat)(v:Int×Int)(r:Rc):Sto:=g9 ⟨s.fV.set k (v.1,jo s.fK v.2 r.arg r.fC),gN s.fK v.2 r.arg r.fC,if s.next<=r.fC then r.fC+1 else s.next⟩
def aX(s:Sto)(r:Rc):Sto×Bool:=
 letI:=r.decR
 if dc s=iV/\r.Right then
  if r.kind=1 then(⟨[],[],if r.arg=0 then 1 else r.arg⟩,iV)
  else if r.kind=2 then ft s r
  else match bY s.fV r.vol with
   |none=>(s,iF)
   |some k=>if r.fC=1000000000 then(s,iF)else if r.kind=3 then(xH s k,iV)else(oT s k ((s.fV[k]?).getD (0,0)) r,iV)
 else(s,iF)
def dL:Sto->List Rc->Option Sto
 |s,[]=>X s
 |s,r::l=>if (aX s r).2=iV then dL (aX s r).1 l else O
def i8(s:Sto)(l:List Rc):Sto×Bool:=match dL s l with
 |some n=>(n,iV)
 |none=>(s,iF)
def iE(s:Sto)(b a:Int):Int:=match mR s.fV b with
 |some r=>gF s.fK r a
 |none=>0
def eD(l:List Int)(x:Int):List Int:=l.filter (λy=>decide (y<x))++(if 0<x then[x]else[])++l.filter (λy=>decide (x<y))
def be(s:Sto):List Int:=s.fV.foldl (λacc v=>(ce s.fK v.2).foldl eD acc) []
def jW(id:Int)(L:List Int)(k:Nat):List Rc:=(List.range k).filterMap (λ(j:Nat)=>if 0<(L[j]?).getD 0 then X ⟨4,id,(j:Int),(L[j]?).getD 0⟩else O)
def pY(l:List Kn)(v:Int×Int):List Rc:=⟨2,v.1,0,0⟩::jW v.1 (ce l v.2) 16
def gZ(s:Sto):List Rc:=⟨1,0,s.next,0⟩::s.fV.flatMap (pY s.fK)
def cV(s:Sto):List (Int×List Int):=s.fV.map (λv=>(v.1,ce s.fK v.2))
def qH(a b:Sto):Bool:=decide (cV a=cV b)&&decide (a.next=b.next)
theorem pG(h:s.Near):(g9 s).fV=s.fV.map (λv=>(v.1,fm (bw s.fK (cC s.fV)) v.2)):=by
 show List.zipWith _ _ _=_;rw[mr,aj (xS h.trs)];generalize fm (bw s.fK (cC s.fV))=f;unfold cC;generalize s.fV=l
 induction l with
 |nil=>rfl
 |cons v l a=>simp only[cD,List.zipWith_cons_cons,a]
theorem sk(h:s.Near):(g9 s).fK=jE s.fK (cC s.fV):=by
 show jp _ _=_;rw[jp,aj (xS h.trs)]
theorem Xf(h:s.Near):cC (g9 s).fV=(cC s.fV).map (fm (bw s.fK (cC s.fV))):=by
 rw[pG h];unfold cC;rw[Cp,Cp];rfl
theorem yZ(h:s.Near):(g9 s).Right:=by
 have d:∀v∈s.fV,v.2∈cC s.fV:=λv a=>bF.2 ⟨v,a,rfl⟩
 refine⟨⟨?_,?_,h.nx,?_,?_,?_,?_⟩,?_⟩
 ·rw[pG h,aS];exact h.few
 ·rw[sk h];exact Fj h.trs
 ·rw[pG h];intro v a;obtain⟨u,b,rfl⟩:=bF.1 a;exact h.ids u b
 ·rw[pG h,qi];exact h.asc
 ·rw[pG h,sk h];intro v a;obtain⟨u,b,rfl⟩:=bF.1 a;exact H6 h.trs (d u b)
 ·rw[pG h,sk h];intro v a k c;obtain⟨u,b,rfl⟩:=bF.1 a;show cX _ _ k<s.next;rw[Gs h.trs (d u b) c];exact h.less u b k c
 ·rw[Xf h,sk h];intro j e;exact YG h.trs e
theorem vT(h:s.Near):cV (g9 s)=cV s:=by
 unfold cV;rw[pG h,sk h,Cp];refine sJ λv a=>?_
 show(v.1,_)=(v.1,_);rw[YX h.trs (bF.2 ⟨v,a,rfl⟩)]
end Words
end Go.Proofs.YtijmbohadndfmaaGreatDoor
