/-
  StoM2; StoM3; StoM4; StoM5; StoM6; StoM7; DvM; BkP; FRP; DvM2; DvM3; DvM4; DvM5
-/
import Derived.Test.YtgigcooffjjbgaaGreatDoorPk4
import Derived.Test.YtgigcooffjjbgaaGreatDoorPk3
open Go.Value renaming int→I
open Go.IntKind renaming i64→J
open Option renaming none→O,some→X
open Go.Ending renaming returned→G
open Bool renaming true→iV,false→iF
namespace Go.Proofs.YtgigcooffjjbgaaGreatDoor
namespace Words
variable{id r c:Int}{v:Int × Int}{k i:Nat}
theorem VP{l:List (Int×Int)}(h:∀v∈l,v.1≠id):(gQ l id r).length=l.length+1:=by
 rw[gQ,aJ,aV];have d:(l.filter (λv=>decide (v.1<id))).length+(l.filter (λv=>decide (id<v.1))).length=l.length:=by
  induction l with
  |nil=>rfl
  |cons v l c=>
   have i:=c (λu b=>h u (rp _ b))
   have e:=h v lD;rw[gP,gP];by_cases a:v.1<id
   ·rw[ak (by simpa using a),aj (by simp;omega),aV,aV];omega
   ·rw[aj (by simpa using a),ak (by simp;omega),aV,aV];omega
 omega
theorem rR{l:List (Int×Int)}(h:v∈gQ l id r):v=(id,r)∨v∈l:=by
 rw[gQ,bG,aX,eh,eh]at h;rcases h with h|h|h
 ·exact .inr h.1
 ·exact .inl h
 ·exact .inr h.1
theorem WE{l:List (Int×Int)}(h:v∈l)(b:v.1≠id):v∈gQ l id r:=by
 rw[gQ,bG,aX,eh,eh];by_cases a:v.1<id
 ·exact .inl ⟨h,by simpa using a⟩
 ·exact .inr (.inr ⟨h,by simp;omega⟩)
theorem Rx{l:List (Int×Int)}(h:l.Pairwise (λu v=>u.1<v.1)):(gQ l id r).Pairwise (λu v=>u.1<v.1):=by
 rw[gQ,iu,fQ];refine⟨h.filter _,⟨?_,h.filter _⟩,?_⟩
 ·intro v a
  simpa using(eh.1 a).2
 ·intro u b v a;have h1:u.1<id:=by simpa using(eh.1 b).2
  rcases aX.1 a with e|e
  ·rw[e];exact h1
  ·have:id<v.1:=by simpa using(eh.1 e).2
   omega
variable{s:Sto}
theorem GS(h:s.Right){q:Int}(b:1<=id/\id<=9)(c:∀v∈s.fV,v.1≠id)(m:s.fV.length<3)(i:bt s.fK q=iV)(f:∀k:Nat,k<=15->ce s.fK q k<s.next):(Sto.mk (gQ s.fV id q) s.fK s.next).Right:=by
 refine⟨⟨?_,h.ar,h.nx,?_,Rx h.asc,?_,?_⟩,?_⟩
 ·show(gQ s.fV id q).length<=3;rw[VP c];omega
 ·intro v a;rcases rR a with e|e
  ·rw[e];exact b
  ·exact h.ids v e
 ·intro v a;rcases rR a with e|e
  ·rw[e];exact i
  ·exact h.root v e
 ·intro v a;rcases rR a with e|e
  ·rw[e];exact f
  ·exact h.less v e
 ·intro j g;have:=h.used j g;rw[bC,rJ]at this⊢;obtain⟨r,l,d⟩:=this;obtain⟨v,a,rfl⟩:=bJ.1 l;exact⟨v.2,bJ.2 ⟨v,WE a (c v a),rfl⟩,d⟩
theorem yC(h:s.Near)(k:Nat):(Sto.mk (s.fV.take k++s.fV.drop (k+1)) s.fK s.next).Near:=by
 have a:(s.fV.take k++s.fV.drop (k+1)).Sublist s.fV:=by
  rw[<-List.eraseIdx_eq_take_drop_succ];exact List.eraseIdx_sublist _ _
 exact⟨bT a.length_le h.few,h.ar,h.nx,λv b=>h.ids v (a.subset b),h.asc.sublist a,λv b=>h.root v (a.subset b),λv b=>h.less v (a.subset b)⟩
theorem Ql{l:List (Int×Int)}{q:Int}(b:l[k]?=X v):(l.set k (v.1,q)).map (·.1)=l.map (·.1):=by
 rw[sJ];obtain⟨h1,a⟩:=aB.1 b;have:(l.map (·.1))[k]'(by simpa using h1)=v.1:=by rw[BT,a]
 show(l.map (·.1)).set k v.1=_
 rw[<-this];exact I9 _
theorem AU(h:s.Near)(o:s.fV[k]?=X v)(hi:i<=15)(h0:0<=c)(y:c<1000000000):
 (Sto.mk (s.fV.set k (v.1,jw s.fK v.2 (i:Int) c)) (gS s.fK v.2 (i:Int) c) (if s.next<=c then c+1 else s.next)).Near/\
  cT (Sto.mk (s.fV.set k (v.1,jw s.fK v.2 (i:Int) c)) (gS s.fK v.2 (i:Int) c) (if s.next<=c then c+1 else s.next))=(cT s).set k (v.1,(bu s.fK v.2).set i c):=by
 have m:=aO o;have d:kQ s.fK v.2:=⟨h.ar,h.root v m⟩;obtain⟨q,r⟩:=Dq (n:=c) d hi h0;rw[q,r];have p:s.next<=(if s.next<=c then c+1 else s.next)/\c<(if s.next<=c then c+1 else s.next)/\(if s.next<=c then c+1 else s.next)<=1000000000:=by
  have:=h.nx;split<;>omega
 generalize(if s.next<=c then c+1 else s.next)=nx at p⊢
 have w:=h.nx;refine⟨⟨by show(s.fV.set k _).length<=3;rw[gI];exact h.few,(wt d hi h0).1,⟨by show 1<=nx;omega,p.2.2⟩,?_,?_,?_,?_⟩,?_⟩
 ·intro u l;rcases nK l with e|e
  ·exact h.ids u e
  ·rw[e];exact h.ids v m
 ·have:=h.asc;rw[<-uH (f:=λ(x:Int×Int)=>x.1) (R:=λa b=>a<b)]at this⊢
  show((s.fV.set k _).map _).Pairwise _;rw[Ql o];exact this
 ·intro u l;rcases nK l with e|e
  ·exact(Bn d hi h0 (h.root u e)).2
  ·rw[e];exact(wt d hi h0).2
 ·intro u l j g;show ce (pt s.fK v.2 i c) u.2 j<nx;rcases nK l with e|e
  ·have a:=Kv d hi h0 (h.root u e) g;rw[mT (Bn d hi h0 (h.root u e)) g,mT ⟨h.ar,h.root u e⟩ g]at a;rw[a];have:=h.less u e j g;omega
  ·rw[e];have a:=FL d hi h0 g;rw[mT (wt d hi h0) g,mT d g]at a;rw[a];split
   ·omega
   ·have:=h.less v m j g;omega
 ·unfold cT;show(s.fV.set k _).map _=_;rw[sJ];have t:s.fV.map (λu=>(u.1,bu (pt s.fK v.2 i c) u.2))=s.fV.map (λu=>(u.1,bu s.fK u.2)):=
   nY λu l=>by rw[MO d hi h0 (h.root u l)]
  rw[t];congr 1;show(v.1,bu (pt s.fK v.2 i c) (vV s.fK))=_;congr 1;refine kO λj=>?_
  rw[sZ];unfold bu;simp only[bi,bm,List.length_range];by_cases g:j<16
  ·rw[xZ g];simp only[g9];rw[FL d hi h0 (by omega)]
   by_cases e:i=j
   ·subst e;rw[ak rfl,ak rfl,ak (by omega)]
   ·rw[aj (Ne.symm e),aj e]
  ·rw[wV (by simp;omega)]
   simp only[Option.map_none];by_cases e:i=j
   ·omega
   ·rw[aj e]
theorem Kt(h:s.Near):∀k:Nat,k<=15->ce s.fK (-1) k<s.next:=by
 intro k _;rw[ce,ak (by omega)]
 have:=h.nx;omega
theorem GT(l:List Kn):bt l (-1)=iV:=by simp[bt]
theorem Et{q:Int}(e:m8 s.fV id=X q):(id,q)∈s.fV:=by
 rw[m8]at e;cases a:bO s.fV id with
 |none=>rw[a]at e;cases e
 |some k=>
  rw[a]at e;obtain⟨v,c,b⟩:=qa a;simp only[kw,c,g9,fu]at e;have:=aO c;rw[<-b,<-e];exact this
theorem Bi:ii.Right:=by
 refine⟨⟨by decide,rfl,by decide,?_,List.Pairwise.nil,?_,?_⟩,?_⟩
 all_goals intro v a;first|cases a|(exact absurd a (Nat.not_lt_zero _))
theorem Jj{n:Int}(h:1<=n/\n<=1000000000):(Sto.mk [] [] n).Right:=by
 refine⟨⟨by show 0<=3;omega,rfl,h,?_,List.Pairwise.nil,?_,?_⟩,?_⟩
 all_goals intro v a;first|cases a|(exact absurd a (Nat.not_lt_zero _))
theorem wW(h:s.Right)(r:Rc):(aY s r).1.Right:=by
 unfold aY;split
 ·rename_i hb
  obtain⟨-,⟨e,g⟩⟩:=hb;split
  ·refine Jj ?_;split<;>omega
  ·rename_i hk1
   split
   ·rename_i hk2
    unfold fx;split
    ·exact h
    ·rename_i q hq
     split
     ·exact h
     ·rename_i hc
      simp only[jS,bH,sH,Bool.not_eq_true,Ks,wH]at hc;have f:=h.few;have a:bt s.fK q=iV/\∀k:Nat,k<=15->ce s.fK q k<s.next:=by
       split at hq
       ·have b:=Et hq;exact⟨h.root _ b,h.less _ b⟩
       ·injection hq with hq
        subst hq;exact⟨GT _,Kt h.toNear⟩
      exact GS h (by omega) (AJ hc.1) (by omega) a.1 a.2
   ·split
    ·exact h
    ·rename_i k ha2
     split
     ·exact h
     ·split
      ·exact Bo (yC h.toNear k)
      ·rename_i hcn hk3
       obtain⟨v,d,-⟩:=qa ha2;rw[d,pK];have hi:r.arg.toNat<=15:=by omega
       have:=(AU h.toNear d (c:=r.fC) hi (by omega) (by omega)).1
       rw[show((r.arg.toNat:Nat):Int)=r.arg by omega]at this
       exact Bo this
 ·exact h
end Words
namespace Words
theorem Jm(l:List Kn):bu l (-1)=List.replicate 16 0:=by
 have:∀s:Int,gj l (-1) s=0:=by
  intro s;rw[gj];split
  ·rw[ce,ak (by omega)]
  ·rfl
 unfold bu;simp only[this];rfl
theorem uN(l:List Kn)(r:Int):(bu l r).length=16:=by simp[bu]
variable{r id c:Int}{v:Int × Int}{i k j:Nat}
theorem J8(l:List Kn)(r:Int)(hi:i<16):(bu l r)[i]?=X (gj l r (i:Int)):=by
 unfold bu;rw[bi,xZ hi];rfl
variable{l:List Kn}
theorem QM(h:kQ l r)(hi:i<=15):0<=ce l r i:=by
 have:=(Bq h.1 h.2 (show i/4<4 by omega) (show i % 4<4 by omega)).2
 rwa [show 4*(i/4)+i % 4=i by omega]at this
theorem vu(s:Sto):(cT s).length=s.fV.length:=by simp[cT]
variable{s:Sto}
theorem Br(h:s.fV[k]?=X v):(cT s)[k]?=X (v.1,bu s.fK v.2):=by
 rw[cT,bi,h];rfl
theorem S7{l:List (Int×Int)}(h:l.Pairwise (λu v=>u.1<v.1)){u:Int×Int}(hi:l[i]?=X u)(k:l[j]?=X v)(e:u.1=v.1):i=j:=by
 obtain⟨c,d⟩:=aB.1 hi;obtain⟨f,g⟩:=aB.1 k;have b:=nh.1 h;rcases DL i j with a|a|a
 ·have:=b i j c f a;rw[d,g]at this;omega
 ·exact a
 ·have:=b j i f c a;rw[d,g]at this;omega
theorem JF{l:List (Int×Int)}(h:l.Pairwise (λu v=>u.1<v.1))(a:l[j]?=X v):bO l v.1=X j:=by
 obtain⟨k,b⟩:=Zk (aO a) rfl;obtain⟨u,c,e⟩:=qa b;rw[b,S7 h c a e]
theorem ME{l:List (Int×Int)}(h:l.Pairwise (λu v=>u.1<v.1))(b:v∈l):m8 l v.1=X v.2:=by
 obtain⟨i,hi,e⟩:=qz.1 b;have a:l[i]?=X v:=by rw[<-e];exact ay hi
 rw[m8,JF h a,kw,a];rfl
theorem Ts{l:List (Int×Int)}(h:∀v∈l,v.1≠id):bO l id=O:=by
 cases e:bO l id with
 |none=>rfl
 |some k=>
  obtain⟨v,b,a⟩:=qa e;exact absurd a (h v (aO b))
theorem Sg(h:s.Right){L:List Int}(a:(id,L)∈cT s)(hi:i<16):X (je s id (i:Int))=L[i]?:=by
 obtain⟨v,b,e⟩:=bJ.1 a;injection e with e1 e2
 subst e1;subst e2;rw[je,ME h.asc b,J8 _ _ hi]
theorem RQ{n:Sto}(h:n.Right)(c:1<=id/\id<=9)(e:n.fV.length<3)(d:∀v∈n.fV,v.1<id):
 ∃m,aY n ⟨2,id,0,0⟩=(m,iV)/\m.Right/\cT m=cT n++[(id,List.replicate 16 0)]/\m.next=n.next:=by
 have b:∀v∈n.fV,v.1≠id:=λv a=>by have:=d v a;omega
 have f:(Rc.mk 2 id 0 0).Right:=by
  unfold Rc.Right
  dsimp only
  omega
 have a:gQ n.fV id (-1)=n.fV++[(id,-1)]:=by
  rw[gQ,List.filter_eq_self.2 (λv a=>by simpa using d v a),mV.2 (λv a=>by have:=d v a;simp;omega)]
 refine⟨⟨gQ n.fV id (-1),n.fK,n.next⟩,?_,GS h c b e (GT _) (Kt h.toNear),?_,rfl⟩
 ·rw[aY,ak ⟨(jR n).2 h,f⟩];simp only[show¬((2:Int)=1)by omega,fb,dw,fx,Int.lt_irrefl,Ts b,yO,xu,bH]
  rw[aj (by omega)]
 ·unfold cT;show(gQ n.fV id (-1)).map _=_;rw[a,fm,cn,oh,Jm]
theorem Xx{n:Sto}(h:n.Right){L:List Int}{t:List (Int×List Int)}(b:cT n=t++[(id,L)])(hi:i<=15)(l:1<=c/\c<n.next):
 ∃m,aY n ⟨4,id,(i:Int),c⟩=(m,iV)/\m.Right/\cT m=t++[(id,L.set i c)]/\m.next=n.next:=by
 have o:n.fV.length=t.length+1:=by rw[<-vu,b];simp
 have a:=ay (show t.length<n.fV.length by omega)
 generalize n.fV[t.length]=v at a;have h1:=Br a;rw[b,ct (am _),kM]at h1;injection h1 with h1
 injection h1 with e1 e2
 subst e1;subst e2;have f:=aO a;have e:=h.ids v f;have g:=h.nx;have j:(Rc.mk 4 v.1 (i:Int) c).Right:=by
  unfold Rc.Right
  dsimp only
  omega
 obtain⟨d,k⟩:=AU h.toNear a hi (show 0<=c by omega) (show c<1000000000 by omega)
 refine⟨ow n t.length v ⟨4,v.1,(i:Int),c⟩,?_,Bo d,?_,?_⟩
 ·rw[aY,ak ⟨(jR n).2 h,j⟩];simp only[show¬((4:Int)=1)by omega,show¬((4:Int)=2)by omega,show¬((4:Int)=3)by omega,fb,JF h.asc a,a,pK]
  rw[aj (by omega)]
 ·rw[ow,wE d,k,b,jm _ _ (am _),kM];rfl
 ·show(if n.next<=c then c+1 else n.next)=n.next
  rw[aj (by omega)]
theorem wX(s:Sto)(a b:List Rc):dO s (a++b)=(dO s a).bind (λn=>dO n b):=by
 induction a generalizing s with
 |nil=>rfl
 |cons r a c=>
  rw[jl,dO,dO];split
  ·exact c _
  ·rfl
theorem Sr{m:Sto}{r:Rc}(h:aY s r=(m,iV)):dO s [r]=X m:=by
 rw[dO,h,ak rfl,dO]
theorem It(id:Int)(L:List Int)(k:Nat):kd id L (k+1)=kd id L k++(if 0<(L[k]?).getD 0 then[⟨4,id,(k:Int),(L[k]?).getD 0⟩]else[]):=by
 rw[kd,kd,oe,nD];congr 1;simp only[qn,xF];split
 ·rename_i h;split at h
  ·cases h
  ·rename_i h2;rw[aj h2]
 ·rename_i x h;split at h
  ·rename_i h2;injection h with h;rw[ak h2,h]
  ·cases h
theorem Mo{n:Sto}(h:n.Right){L:List Int}{t:List (Int×List Int)}(j:cT n=t++[(id,List.replicate 16 0)])(p:L.length=16)(i:∀c∈L,0<=c/\c<n.next):
 ∀k,k<=16->∃m,dO n (kd id L k)=X m/\m.Right/\cT m=t++[(id,L.take k++List.replicate (16-k) 0)]/\m.next=n.next:=by
 intro k
 induction k with
 |zero=>intro _;exact⟨n,rfl,h,j,rfl⟩
 |succ k o=>
  intro q;obtain⟨m,h1,d,f,h4⟩:=o (by omega)
  have e:=ay (show k<L.length by omega)
  have l:=i _ (aO e);have a:L.take (k+1)=L.take k++[L[k]]:=by rw[eY (by omega)]
  have b:List.replicate (16-k) (0:Int)=0::List.replicate (16-(k+1)) 0:=by rw[show 16-k=(16-(k+1))+1 by omega,List.replicate_succ]
  rw[It,e,pK];generalize L[k]=c at l a;by_cases h0:0<c
  ·rw[ak h0,wX,h1,kw];obtain⟨m2,g1,g2,g3,g⟩:=Xx d f (show k<=15 by omega) (show 1<=c/\c<m.next by rw[h4];omega)
   refine⟨m2,Sr g1,g2,?_,g.trans h4⟩;rw[g3,b,jm _ _ (by simp;omega),cG,show k-min k L.length=0 by omega,a,fs]
   rfl
  ·rw[aj h0,dS];refine⟨m,h1,d,?_,h4⟩;have:c=0:=by omega
   subst this;rw[f,b,a,fs];rfl
theorem Yu(h:s.Right):∀k,k<=s.fV.length->∃m,dO ⟨[],[],s.next⟩ ((s.fV.take k).flatMap (pW s.fK))=X m/\m.Right/\cT m=(cT s).take k/\m.next=s.next:=by
 intro k
 induction k with
 |zero=>intro _;exact⟨⟨[],[],s.next⟩,rfl,Jj h.nx,rfl,rfl⟩
 |succ k z=>
  intro H;obtain⟨m,h1,r,d,h4⟩:=z (by omega)
  have e:=ay (show k<s.fV.length by omega)
  have p:s.fV.take (k+1)=s.fV.take k++[s.fV[k]]:=by rw[eY (by omega)]
  have q:=Br e;obtain⟨E,F⟩:=aB.1 q;have n:=aO e;have x:=nh.1 h.asc;have j:∀u∈m.fV,u.1<(s.fV[k]).1:=by
   intro u y;have:(u.1,bu m.fK u.2)∈(cT s).take k:=by rw[<-d];exact bJ.2 ⟨u,y,rfl⟩
   obtain⟨i,hi,b⟩:=qz.1 this;rw[AA]at b;have g:i<k:=by rw[cG]at hi;omega
   simp only[cT,BT]at b;injection b with a e4
   rw[<-a];exact x i k (by omega) (by omega) g
  have w:m.fV.length=k:=by
   rw[<-vu,d,cG,vu];omega
  have G:=h.few;generalize s.fV[k]=v at*;obtain⟨m1,g1,g2,g3,o⟩:=RQ r (h.ids v n) (by omega) j
  have f:∀c∈bu s.fK v.2,0<=c/\c<m1.next:=by
   intro c t;obtain⟨i,hi,b⟩:=qz.1 t;rw[uN]at hi;have a:=J8 s.fK v.2 hi;rw[ay (by rw[uN];exact hi),b]at a
   injection a with a
   have tk:kQ s.fK v.2:=⟨h.ar,h.root v n⟩;rw[a,mT tk (by omega),o,h4]
   exact⟨QM tk (by omega),h.less v n i (by omega)⟩
  obtain⟨m2,A,B,C,D⟩:=Mo g2 g3 (uN _ _) f 16 (am _);refine⟨m2,?_,B,?_,by rw[D,o,h4]⟩
  ·rw[p,rK,wX,h1,kw];show dO m (pW s.fK v++[])=_;rw[dS,pW,dO,g1,ak rfl];exact A
  ·rw[C,d,eY E,F,bL (l:=bu s.fK v.2) (by rw[uN];omega)]
   simp
theorem Vh{x:Sto}(h:s.Right)(d:x.Right):∃m,dO x (hJ s)=X m/\m.Right/\cT m=cT s/\m.next=s.next:=by
 obtain⟨m,h1,b,a,h4⟩:=Yu h _ (am _);rw[bL (am _)]at h1;rw[bL (by rw[vu];omega)]at a
 have f:=h.nx;have c:(Rc.mk 1 0 s.next 0).Right:=by
  unfold Rc.Right
  dsimp only
  omega
 refine⟨m,?_,b,a,h4⟩;have e:aY x ⟨1,0,s.next,0⟩=(⟨[],[],s.next⟩,iV):=by
  rw[aY,ak ⟨(jR x).2 d,c⟩,ak rfl]
  dsimp only
  rw[aj (by omega)]
 rw[hJ,dO,e,ak rfl];exact h1
end Words
namespace Words
variable{y:Int}
variable{s:Sto}
theorem Ft(h:s.Right):s.fK.length<=15:=by
 have e:(List.range s.fK.length).countP (bC s.fK (cD s.fV))=s.fK.length:=He h.used _ (am _);have c:=LE ((cD s.fV).flatMap (λr=>r.toNat::(List.range 4).map (λk=>(dI s.fK r k).toNat))) s.fK.length (bC s.fK (cD s.fV)) (by
  intro i hi;rw[bC,rJ]at hi;obtain⟨r,d,a⟩:=hi;rw[md];refine⟨r,d,?_⟩;rcases(sG (Dy a)).1 a with q|⟨k,b,q⟩
  ·rw[aX];left;omega
  ·rw[aX,bJ];right;exact⟨k,iw.2 b,by omega⟩)
 have g:((cD s.fV).flatMap (λr=>r.toNat::(List.range 4).map (λk=>(dI s.fK r k).toNat))).length=5*s.fV.length:=by
  unfold cD;generalize s.fV=l
  induction l with
  |nil=>rfl
  |cons v l f=>rw[cn,oL,aJ,f];simp;omega
 have:=h.few;omega
def sf(l:List Int):Prop:=l.Pairwise (λa b=>a<b)/\∀x∈l,0<x
theorem JP{l:List Int}(h:sf l){x:Int}:y∈eF l x↔y∈l∨(0<x/\y=x):=by
 unfold eF;rw[bG,bG,eh,eh];simp only[bH];constructor
 ·rintro((q|q)|q)
  ·exact .inl q.1
  ·split at q
   ·rename_i hx;rw[bR]at q;exact .inr ⟨hx,q⟩
   ·cases q
  ·exact .inl q.1
 ·rintro(q|⟨b,c⟩)
  ·have:=h.2 y q;by_cases e:y=x
   ·subst e;rw[ak this];exact .inl (.inr (bR.2 rfl))
   ·by_cases a:y<x
    ·exact .inl (.inl ⟨q,a⟩)
    ·exact .inr ⟨q,by omega⟩
  ·subst c;rw[ak b];exact .inl (.inr (bR.2 rfl))
theorem OL{l:List Int}(h:sf l)(x:Int):sf (eF l x):=by
 refine⟨?_,λy hy=>?_⟩
 ·unfold eF;rw[fs,iu,iu];refine⟨h.1.filter _,⟨?_,h.1.filter _,?_⟩,?_⟩
  ·split
   ·exact mA _ _
   ·exact List.Pairwise.nil
  ·intro a d b c;have e:x<b:=by simpa using(eh.1 c).2
   split at d
   ·rw[bR]at d;omega
   ·cases d
  ·intro a d b c;have f:a<x:=by simpa using(eh.1 d).2
   rcases bG.1 c with c|c
   ·split at c
    ·rw[bR]at c;omega
    ·cases c
   ·have e:x<b:=by simpa using(eh.1 c).2
    omega
 ·rcases(JP h).1 hy with q|⟨g,i⟩
  ·exact h.2 y q
  ·omega
theorem Hz{l:List Int}(h:sf l)(L:List Int):sf (L.foldl eF l)/\∀y,y∈L.foldl eF l↔y∈l∨(0<y/\y∈L):=by
 induction L generalizing l with
 |nil=>exact⟨h,λy=>by simp⟩
 |cons x L d=>
  obtain⟨h1,c⟩:=d (OL h x);refine⟨h1,λy=>?_⟩
  rw[nA,c,JP h,aX];constructor
  ·rintro((q|⟨b,a⟩)|⟨b,a⟩)
   ·exact .inl q
   ·subst a;exact .inr ⟨b,.inl rfl⟩
   ·exact .inr ⟨b,.inr a⟩
  ·rintro(q|⟨b,a|a⟩)
   ·exact .inl (.inl q)
   ·subst a;exact .inl (.inr ⟨b,rfl⟩)
   ·exact .inr ⟨b,a⟩
def qe(s:Sto):List Int:=s.fV.flatMap (λv=>bu s.fK v.2)
theorem wu(s:Sto):aI s=(qe s).foldl eF []:=by
 unfold aI qe;generalize([]:List Int)=acc;generalize s.fV=l
 induction l generalizing acc with
 |nil=>rfl
 |cons v l a=>rw[nA,a,oL,tj]
theorem KH(s:Sto):sf (aI s):=by
 rw[wu];exact(Hz ⟨List.Pairwise.nil,λ_ h=>by cases h⟩ _).1
theorem qi(s:Sto)(y:Int):y∈aI s↔0<y/\y∈qe s:=by
 rw[wu,(Hz ⟨List.Pairwise.nil,λ_ h=>by cases h⟩ _).2]
 simp
end Words
namespace Words
def nT(s:Sto):List Int:=(qe s).filter (λy=>decide (1<=y))
theorem KG:∀{a b:List Int},a.Pairwise (λx y=>x<y)->b.Pairwise (λx y=>x<y)->(∀y,y∈a↔y∈b)->a=b
 | [],[],_,_,_=>rfl
 | [],y::b,_,_,h=>absurd ((h y).2 lD) (by simp)
 |x::a,[],_,_,h=>absurd ((h x).1 lD) (by simp)
 |x::a,y::b,ha,hb,h=>by
  rw[fQ]at ha hb;have e:x=y:=by
   rcases aX.1 ((h x).1 lD)with e|q
   ·exact e
   ·rcases aX.1 ((h y).2 lD)with e|d
    ·exact e.symm
    ·have:=hb.1 x q;have:=ha.1 y d;omega
  subst e;rw[KG ha.2 hb.2 (λz=>?_)]
  constructor
  ·intro c;rcases aX.1 ((h z).1 (rp _ c))with e|q
   ·subst e;have:=ha.1 z c;omega
   ·exact q
  ·intro c;rcases aX.1 ((h z).2 (rp _ c))with e|q
   ·subst e;have:=hb.1 z c;omega
   ·exact q
variable{s:Sto}
theorem TM{l:List Int}(h1:l.Pairwise (λx y=>x<y))(c:∀y,y∈l↔y∈nT s):l=aI s:=by
 refine KG h1 (KH s).1 (λy=>?_)
 rw[c,qi,nT,eh];simp only[bH];constructor
 ·rintro⟨a,b⟩;exact⟨by omega,a⟩
 ·rintro⟨a,b⟩;exact⟨b,by omega⟩
end Words
namespace Words
variable{s:Sto}
theorem Ve(h:s.Right)(r a c:Int):∀x∈gS s.fK r a c,x.fD.length<=1048576:=by
 have eX:∀l:List Kn,bU l=iV->∀x∈l,x.fD.length<=1048576:=λl f x g=>by
  obtain⟨i,hi,e⟩:=qz.1 g;have:=mf (lN f (i:=i) (x:=x) (by rw[<-e];exact ay hi))
  omega
 unfold gS;split
 ·rename_i hp
  rw[lL,jX]at hp;simp only[bn,bH]at hp;obtain⟨⟨⟨h1,b⟩,j,h4⟩,d⟩:=hp;exact eX _ (zo h1 b (by omega) d)
 ·exact eX _ h.ar
end Words
namespace Words
variable{v:Int × Int}
variable{s:Sto}
theorem qS{r:Rc}(h:(aY s r).2=iF):(aY s r).1=s:=by
 unfold aY fx at h⊢;split
 ·rename_i hb
  rw[ak hb]at h;split
  ·rename_i h1
   rw[ak h1]at h;cases h
  ·rename_i h1
   rw[aj h1]at h;split
   ·rename_i h2
    rw[ak h2]at h;split
    ·rfl
    ·rename_i q hq
     rw[hq]at h;simp only at h;split
     ·rfl
     ·rename_i h3
      rw[aj h3]at h;cases h
   ·rename_i h2
    rw[aj h2]at h;cases a:bO s.fV r.vol with
    |none=>rfl
    |some k=>
     rw[a]at h;simp only at h⊢;split
     ·rfl
     ·rename_i h3
      rw[aj h3]at h;split
      ·rename_i h4
       rw[ak h4]at h;cases h
      ·rename_i h4
       rw[aj h4]at h;cases h
 ·rfl
theorem nR{r:Rc}(h:(aY s r).2=iV):s.Right/\r.Right:=by
 unfold aY at h;split at h
 ·rename_i hb
  exact⟨(jR s).1 hb.1,hb.2⟩
 ·cases h
theorem EP{r:Rc}(h:(aY s r).2=iV)(b:r.kind=1):(aY s r).1.fV=[]:=by
 have a:=nR h;rw[aY,ak ⟨(jR s).2 a.1,a.2⟩,ak b]
theorem Il(h:v∈s.fV):(v.1,bu s.fK v.2)∈cT s:=bJ.2 ⟨v,h,rfl⟩
theorem si{r:Rc}(h:(aY s r).2=iV)(u:r.kind=4∨r.kind=5):∃k v,s.fV[k]?=X v/\v.1=r.vol/\0<=r.arg/\r.arg<=15/\0<=r.fC/\(r.kind=5->r.fC=0)/\
 cT (aY s r).1=(cT s).set k (v.1,(bu s.fK v.2).set r.arg.toNat r.fC)/\(aY s r).1.next=(if s.next<=r.fC then r.fC+1 else s.next)/\(aY s r).1.fK.length<=s.fK.length+2:=by
 obtain⟨hs,l⟩:=nR h;have f:=l;unfold Rc.Right at f;have d:=(jR s).2 hs;have o:¬r.kind=1:=by omega
 have p:¬r.kind=2:=by omega
 have q:¬r.kind=3:=by omega
 rw[aY,ak ⟨d,l⟩,aj o,aj p]at h⊢;cases b:bO s.fV r.vol with
 |none=>rw[b]at h;cases h
 |some k=>
  rw[b]at h;simp only at h⊢;by_cases i:r.fC=1000000000
  ·rw[ak i]at h;cases h
  ·rw[aj i,aj q];obtain⟨v,a,e⟩:=qa b;rw[a,pK];have hi:r.arg.toNat<=15:=by omega
   obtain⟨g,m⟩:=AU hs.toNear a (c:=r.fC) hi (by omega) (by omega)
   have t:kQ s.fK v.2:=⟨hs.ar,hs.root v (aO a)⟩;have j:=(Dq (n:=r.fC) t hi (by omega)).1
   rw[show((r.arg.toNat:Nat):Int)=r.arg by omega]at g m j
   refine⟨k,v,a,e,by omega,by omega,by omega,by omega,?_,rfl,?_⟩
   ·show cT (ow s k v r)=_;rw[ow,wE g,m]
   ·show(ow s k v r).fK.length<=_;rw[ow,rW g];refine bT RV ?_;show(gS s.fK v.2 r.arg r.fC).length<=_;rw[j,pt];simp
theorem Zr{r:Rc}(h:(aY s r).2=iV)(d:r.kind=4∨r.kind=5):je (aY s r).1 r.vol r.arg=r.fC/\r.fC<(aY s r).1.next/\s.next<=(aY s r).1.next:=by
 obtain⟨k,v,l,a,h0,b,m,-,j,g,-⟩:=si h d;have c:=wW (nR h).1 r;have e:=(aB.1 l).1;have f:(v.1,(bu s.fK v.2).set r.arg.toNat r.fC)∈cT (aY s r).1:=by
  rw[j];exact AY.2 ⟨k,by rw[lZ (by rw[vu];exact e)]⟩
 have:=Sg c f (i:=r.arg.toNat) (by omega)
 rw[show((r.arg.toNat:Nat):Int)=r.arg by omega,a,lZ (by rw[uN];omega)]at this
 injection this with this
 refine⟨this,?_,?_⟩<;>rw[g]<;>split<;>omega
theorem vC{r:Rc}(h:(aY s r).2=iV)(d:r.kind=2):∃q,(aY s r).1=⟨gQ s.fV r.vol q,s.fK,s.next⟩/\(∀v∈s.fV,v.1≠r.vol)/\s.fV.length<3/\(0<r.arg->(r.arg,q)∈s.fV)/\(¬0<r.arg->q= -1):=by
 obtain⟨hs,e⟩:=nR h;have c:=(jR s).2 hs;rw[aY,ak ⟨c,e⟩,aj (by omega),ak d,fx]at h⊢
 have f:=hs.few;split at h
 ·cases h
 ·rename_i q hq
  by_cases a:((bO s.fV r.vol).isSome||decide (s.fV.length=3))=iV
  ·rw[ak a]at h;cases h
  ·rw[aj a];simp only[jS,bH,sH,Bool.not_eq_true,Ks,wH]at a;refine⟨q,rfl,AJ a.1,by omega,λb=>?_,λb=>?_⟩
   ·rw[ak b]at hq;exact Et hq
   ·rw[aj b]at hq;injection hq with hq
    exact hq.symm
theorem QY(h:s.Near)(a:v∈(im s).fV):∃u∈s.fV,u.1=v.1:=by
 rw[qg h]at a;obtain⟨u,b,rfl⟩:=bJ.1 a;exact⟨u,b,rfl⟩
theorem Jy(h:s.Right)(r:Rc):∀v∈(aY s r).1.fV,v.1=r.vol∨∃u∈s.fV,u.1=v.1:=by
 cases a:(aY s r).2 with
 |false=>rw[qS a];exact λv b=> .inr ⟨v,b,rfl⟩
 |true=>
  have l:=(nR a).2;have f:=l;unfold Rc.Right at f;by_cases m:r.kind=1
  ·rw[EP a m];intro v b;exact(eI b).elim
  by_cases n:r.kind=2
  ·obtain⟨q,e,-⟩:=vC a n;rw[e];intro v b;rcases rR b with e|e
   ·rw[e];exact .inl rfl
   ·exact .inr ⟨v,e,rfl⟩
  by_cases t:r.kind=3
  ·rw[aY,ak ⟨(jR s).2 h,l⟩,aj m,aj n]at a⊢;cases i:bO s.fV r.vol with
   |none=>rw[i]at a;cases a
   |some k=>
    rw[i]at a;simp only at a⊢;by_cases j:r.fC=1000000000
    ·rw[ak j]at a;cases a
    ·rw[aj j,ak t];intro v b;obtain⟨u,g,e⟩:=QY (yC h.toNear k) b;refine .inr ⟨u,?_,e⟩;rcases bG.1 g with q|q
     ·exact wg q
     ·exact DI q
  ·obtain⟨k,v,b,d,-,-,-,-,o,-⟩:=si a (by omega)
   intro u g;have:=Il g;rw[o]at this;rcases nK this with e|e
   ·obtain⟨x,p,c⟩:=bJ.1 e;injection c with c _
    exact .inr ⟨x,p,c⟩
   ·injection e with e _
    exact .inl (by rw[e,d])
theorem Ob(r:Rc)(j:r.kind≠1):(aY s r).1.next=s.next∨(aY s r).1.next=r.fC+1:=by
 cases a:(aY s r).2 with
 |false=>rw[qS a];exact .inl rfl
 |true=>
  obtain⟨h,f⟩:=nR a;have b:=f;unfold Rc.Right at b;by_cases g:r.kind=2
  ·obtain⟨q,e,-⟩:=vC a g;rw[e];exact .inl rfl
  by_cases m:r.kind=3
  ·rw[aY,ak ⟨(jR s).2 h,f⟩,aj j,aj g]at a⊢;cases c:bO s.fV r.vol with
   |none=>rw[c]at a;cases a
   |some k=>
    rw[c]at a;simp only at a⊢;by_cases d:r.fC=1000000000
    ·rw[ak d]at a;cases a
    ·rw[aj d,ak m];exact .inl rfl
  ·obtain⟨k,v,n,i,-,-,-,-,-,l,-⟩:=si a (by omega)
   rw[l];split
   ·exact .inr rfl
   ·exact .inl rfl
theorem Ue(s:Sto)(r:Rc):jd s [r]=aY s r:=by
 rw[jd,dO];cases a:(aY s r).2 with
 |false=>
  rw[aj (by decide)]
  simp only;exact qc (qS a).symm a.symm
 |true=>rw[ak rfl,dO];simp only;rw[<-a]
theorem Wi{m:Sto}(h:s.Right):∀{l:List Rc},dO s l=X m->m.Right:=by
 intro l
 induction l generalizing s with
 |nil=>intro e;injection e with e;rw[<-e];exact h
 |cons r l a=>
  intro e;rw[dO]at e;split at e
  ·exact a (wW h r) e
  ·cases e
end Words
open Words Sums Pack
structure Dv where
 fH:List Bk
 fS:Sto
 seq:Int
 tx:Int
 base:Int
def gY(M:List an):Int:=M.foldl (λs x=>if s<=x.fP.seq then x.fP.seq+1 else s) 1
def gL(M:List an):Int:=M.foldl (λs x=>if x.fP.kind=2/\s<=x.fP.tx then x.fP.tx+1 else s) 1
def cI(M:List an):List TxR:=jJ (dF (M.map an.fP))
def fk(T:List TxR):Sto:=T.foldl (λs t=>(jd s t.fR).1) ii
def mh:List TxR->Int
 | []=>0
 |t::_=>t.num
def jz(bs:List Bk):Dv:=⟨bs,fk (cI (au bs)),gY (au bs),gL (au bs),mh (cI (au bs))⟩
def sd:Dv:=⟨[],⟨[],[],0⟩,0,0,0⟩
def fj(bs:List Bk):Dv×Bool:=if bo bs then(jz bs,iV)else(sd,iF)
def l9(d:Dv):Bool:=(fj d.fH).2&&qK (fj d.fH).1.fS d.fS&&decide ((fj d.fH).1.seq=d.seq)&&decide ((fj d.fH).1.tx=d.tx)&&decide ((fj d.fH).1.base=d.base)&&dh d.fS
def lw(p:Pg):ByteArray×Bool:=letI:=p.decR;if p.Right then(cS (dT p),iV)else(⟨#[]⟩,iF)
def cJ(bs:List Bk)(l:List aM)(p:Pg):List Bk×List aM×Bool:=
 if (lw p).2&&(gy bs).2.2 then((cR bs (1,(gy bs).1,(gy bs).2.1,(lw p).1)).1,l++[(1,(gy bs).1,(gy bs).2.1,(lw p).1)],(cR bs (1,(gy bs).1,(gy bs).2.1,(lw p).1)).2)else(bs,l,iF)
def eD:List Bk×List aM×Bool->List Pg->List Bk×List aM×Bool
 |s,[]=>s
 |s,p::ps=>if s.2.2 then eD (cJ s.1 s.2.1 p) ps else s
def oP(l:List Rc):Int:=(l.getLast?.map Rc.fC).getD 0
def kG(seq c:Int)(t:ByteArray):Pg:=⟨1,seq,c,0,1,t⟩
def jr(d:Dv)(l:List Rc)(t:ByteArray):List Bk×List aM×Bool:=if t.size=0 then(d.fH,[],iV)else cJ d.fH [] (kG d.seq (oP l) t)
def eK(d:Dv)(t:ByteArray):Int:=if t.size=0 then d.seq else d.seq+1
def dZ(d:Dv)(l:List Rc)(t:ByteArray):List aM×Bool:=
 if l.length=0 then([],iV)
 else if (eD (jr d l t) (jV (eK d t) d.tx l)).2.2&& @decide (iY (eK d t) d.tx l) (mO (eK d t) d.tx l)then((eD (jr d l t) (jV (eK d t) d.tx l)).2.1,iV)else([],iF)
def gn(d:Dv)(l:List aM):Dv:=(fj (dc d.fH l).1).1
structure Up (d:Dv):Prop where
 ok:bo d.fH=iV
 is:d=jz d.fH
theorem Kh(M:List an):∀x∈M,x.fP.seq<gY M:=by
 have h:∀(L:List an) (s:Int),s<=L.foldl (λs x=>if s<=x.fP.seq then x.fP.seq+1 else s) s/\∀x∈L,x.fP.seq<L.foldl (λs x=>if s<=x.fP.seq then x.fP.seq+1 else s) s:=by
  intro L
  induction L with
  |nil=>intro s;exact⟨kK _,λx a=>by cases a⟩
  |cons y L c=>
   intro s;rw[nA];obtain⟨h1,b⟩:=c (if s<=y.fP.seq then y.fP.seq+1 else s)
   have d:s<=(if s<=y.fP.seq then y.fP.seq+1 else s)/\y.fP.seq<(if s<=y.fP.seq then y.fP.seq+1 else s):=by split<;>omega
   refine⟨?_,λx a=>?_⟩
   ·omega
   ·rcases aX.1 a with e|e
    ·subst e;omega
    ·exact b x e
 exact(h M 1).2
theorem zi(M:List an):∀x∈M,x.fP.kind=2->x.fP.tx<gL M:=by
 have h:∀(L:List an) (s:Int),s<=L.foldl (λs x=>if x.fP.kind=2/\s<=x.fP.tx then x.fP.tx+1 else s) s/\∀x∈L,x.fP.kind=2->x.fP.tx<L.foldl (λs x=>if x.fP.kind=2/\s<=x.fP.tx then x.fP.tx+1 else s) s:=by
  intro L
  induction L with
  |nil=>intro s;exact⟨kK _,λx a=>by cases a⟩
  |cons y L f=>
   intro s;rw[nA];obtain⟨h1,c⟩:=f (if y.fP.kind=2/\s<=y.fP.tx then y.fP.tx+1 else s)
   have d:s<=(if y.fP.kind=2/\s<=y.fP.tx then y.fP.tx+1 else s)/\(y.fP.kind=2->y.fP.tx<(if y.fP.kind=2/\s<=y.fP.tx then y.fP.tx+1 else s)):=by split<;>omega
   refine⟨?_,λx a b=>?_⟩
   ·omega
   ·rcases aX.1 a with e|e
    ·subst e;have:=d.2 b;omega
    ·exact c x e b
 exact(h M 1).2
variable{α:Type}{t:ByteArray}{y c:Int}{ls:List (Int × ByteArray)}{T:List UInt8 -> Prop}{k n i j m:Nat}
variable{bs:List Bk}
theorem vD(h:bo bs=iV):∀b∈bs,b.2.2.length=4:=by
 intro b c;have h1:=h;unfold bo at h1;rw[bn,gV]at h1;have a:=h1.2 b c;unfold dm at a;rw[bn,sN]at a;exact a.1.1
variable{p:Pg}
theorem Yp{l:List aM}(a:bo bs=iV)(h:(cJ bs l p).2.2=iV):
 p.Right/\∃(k:Nat) (b:Bk) (s:aM),bs[k]?=X b/\b.1=iF/\br b.2.2<4/\(∃u,b.2.2[br b.2.2]?=X u/\u.1=0)/\s=(1,(k:Int),((br b.2.2:Nat):Int),cS (dT p))/\cR bs s=(jM bs k (br b.2.2) (cS (dT p)),iV)/\cJ bs l p=(jM bs k (br b.2.2) (cS (dT p)),l++[s],iV):=by
 unfold cJ at h;by_cases f:p.Right
 ·have c:lw p=(cS (dT p),iV):=by unfold lw;rw[ak f]
  rw[c]at h;rcases Lq a (vD a)with⟨e,-⟩|⟨k,b,m,h1,i,j,e,-,-⟩
  ·rw[e]at h;simp at h
  ·refine⟨f,k,b,_,m,h1,i,j,rfl,?_⟩;rw[e]at h;simp only[gk,dw]at h;have g:cR bs (1,(k:Int),((br b.2.2:Nat):Int),cS (dT p))=(jM bs k (br b.2.2) (cS (dT p)),iV):=by
    have d:(cR bs (1,(k:Int),((br b.2.2:Nat):Int),cS (dT p))).2=iV:=h;unfold cR gM at d⊢;simp only[dw]at d⊢;split at d
    ·rename_i hq
     rw[ak hq,bk,bk]
    ·cases d
   refine⟨g,?_⟩;unfold cJ;rw[c,e];simp only[gk,dw];rw[g]
 ·have c:lw p=(⟨#[]⟩,iF):=by unfold lw;rw[aj f]
  rw[c]at h;simp at h
theorem Im{u:Int×ByteArray}(d:ls[k]?=X u)(h0:u.1=0):br ls<=k:=by
 obtain⟨h1,c⟩:=aB.1 d;have h:ls.findIdx (λt=>t.1==0)<=k:=Nat.le_of_not_lt (λa=>by
  have b:=Fb a;rw[c]at b;simp[h0]at b)
 simp only[br];rw[ak (by omega)]
 exact h
theorem Re(h4:ls.length<=4)(d:k<ls.length)(a:br ls<k):∃u,ls[br ls]?=X u/\u.1=0:=by
 have h:ls.findIdx (λt=>t.1==0)<ls.length:=Nat.lt_of_not_le (λc=>by
  simp only[br]at a;rw[aj (by omega)]at a
  omega)
 have e:br ls=ls.findIdx (λt=>t.1==0):=by simp only[br];rw[ak h]
 have b:=CZ (w:=h);refine⟨ls[ls.findIdx (λt=>t.1==0)],by rw[e];exact ay h,by simpa using b⟩
theorem Uf(h:∀k,k<ls.length->iz ls k=iV){u:Int×ByteArray}(f:ls[n]?=X u)(h0:u.1=0)(d:Nat):∀t,ls[n+d]?=X t->t.1=0:=by
 induction d with
 |zero=>
  intro t a;rw[pP,f]at a;cases a;exact h0
 |succ d i=>
  intro t a;have c:=(aB.1 a).1;have b:ls[n+d]?=X ls[n+d]:=ay (by omega)
  have g:=i _ b;cases DP (t.1=0)with
  |inl e=>exact e
  |inr e=>
   have:=JX (k:=n+d) a b g e;rw[show n+d+1=n+(d+1)from rfl,h _ c]at this;cases this
theorem LJ{b:Bk}{t:Int×ByteArray}(h4:b.2.2.length=4)(e:b.2.2[k]?=X t)(f:br b.2.2<k)(h:t.1≠0):dm b=iF:=by
 cases d:dm b with
 |false=>rfl
 |true=>
  have c:=(aB.1 e).1;simp only[dm,bn]at d;have a:∀k,k<b.2.2.length->iz b.2.2 k=iV:=λk c=>gV.1 d.2 k (iw.2 c)
  obtain⟨u,g,h0⟩:=Re (by omega) c f
  exact absurd (Uf a g h0 (k-br b.2.2) t (by rw[show br b.2.2+(k-br b.2.2)=k by omega];exact e)) h
theorem Fw{b:Bk}(h4:b.2.2.length=4)(f:0<=b.2.1/\b.2.1<=1000000000)(h:∀k t,b.2.2[k]?=X t->gU t=iV/\(br b.2.2<k->t.1=0)):dm b=iV:=by
 refine Ev h4 f (λk d=>?_)
 have a:b.2.2[k]?=X b.2.2[k]:=ay d;generalize b.2.2[k]=t at a;cases k with
 |zero=>exact Gn a (h 0 t a).1
 |succ k=>
  have c:b.2.2[k]?=X b.2.2[k]:=ay (by omega)
  generalize b.2.2[k]=u at c;refine H7 a c (h _ t a).1 ?_;cases DP (u.1=0)with
  |inr e=>exact Or.inl e
  |inl e=>exact Or.inr ((h _ t a).2 (by have:=Im c e;omega))
theorem xE{b:Bk}(h:dm b=iV):b.2.2.length=4/\(0<=b.2.1/\b.2.1<=1000000000)/\∀k t,b.2.2[k]?=X t->gU t=iV/\(br b.2.2<k->t.1=0):=by
 have h0:=h;simp only[dm,bn,bH]at h;refine⟨h.1.1,h.1.2,λk t a=>?_⟩
 have d:=(aB.1 a).1;have c:=gV.1 h.2 k (iw.2 d);refine⟨?_,λf=>?_⟩
 ·cases g:gU t with
  |true=>rfl
  |false=>
   rw[Gw a g]at c;cases c
 ·cases DP (t.1=0)with
  |inl e=>exact e
  |inr e=>
   rw[LJ h.1.1 a f e]at h0;cases h0
theorem vX(h:bo bs=iV):(3<=bs.length/\bs.length<=10)/\∀b∈bs,dm b=iV:=by
 simp only[bo,bn,gV,bH]at h;exact h
theorem Gz(h1:3<=bs.length/\bs.length<=10)(a:∀b∈bs,dm b=iV):bo bs=iV:=by
 rw[Hc a];exact aW h1
theorem YQ{u:Int×ByteArray}(a:ls[i]?=X u)(hi:i<br ls):u.1≠0:=by
 intro h0;have:=Im a h0;omega
theorem YO{b:Bk}(h:dm b=iV)(f:br b.2.2<4)(z:Int)(t:ByteArray)(k:z≠0):br (b.2.2.set (br b.2.2) (z,t))=br b.2.2+1:=by
 obtain⟨h4,-,d⟩:=xE h;generalize l:br b.2.2=j at f;have c:∀(i:Nat) (u:Int×ByteArray),i<j+1->(b.2.2.set j (z,t))[i]?=X u->u.1≠0:=by
  intro i u hi a;by_cases e:j=i
  ·subst e;rw[lZ (by omega)]at a
   cases a;exact k
  ·rw[oE e]at a;exact YQ a (by omega)
 by_cases g:j+1<4
 ·have a:b.2.2[j+1]?=X b.2.2[j+1]:=ay (by omega)
  refine Ah (t:=b.2.2[j+1]) (by rw[oE (by omega)];exact a) ((d (j+1) _ a).2 (by omega)) c
 ·rw[ES (λi u a=>c i u (by have:=(aB.1 a).1;rw[gI]at this;omega) a)]
  omega
theorem PJ{b:Bk}(h:dm b=iV)(f:br b.2.2<4)(z:Int)(t:ByteArray)(j:z≠0)(g:gU (z,t)=iV):dm (b.1,b.2.1,b.2.2.set (br b.2.2) (z,t))=iV:=by
 obtain⟨h4,i,c⟩:=xE h;refine Fw (by simpa using h4) i (λk u a=>?_)
 simp only at a⊢;rw[YO h f z t j];by_cases e:br b.2.2=k
 ·subst e;rw[lZ (by omega)]at a
  cases a;exact⟨g,λd=>by omega⟩
 ·rw[oE e]at a;exact⟨(c k u a).1,λd=>(c k u a).2 (by omega)⟩
variable{f:Bk -> Bk}
theorem Ii(h:bo bs=iV)(g:∀r,bs[k]?=X r->dm (f r)=iV):bo (bs.modify k f)=iV:=by
 obtain⟨h1,d⟩:=vX h;refine Gz (by rw[wR];exact h1) (λb c=>?_)
 obtain⟨i,hi,rfl⟩:=oH c;have a:(bs.modify k f)[i]?=X (bs.modify k f)[i]:=ay hi;generalize(bs.modify k f)[i]=x at a;rw[rz]at a;cases c:bs[i]? with
 |none=>rw[c]at a;cases a
 |some r=>
  rw[c]at a;by_cases e:k=i
  ·subst e;simp at a;subst a;exact g r c
  ·simp[e]at a;subst a;exact d _ (aO c)
theorem El(x:Bool)(y:Int)(hy:0<=y/\y<=1000000000):dm (x,y,eW)=iV:=by
 refine Fw rfl hy (λk t b=>?_)
 have a:t∈eW:=aO b;have e:t=(0,⟨#[]⟩):=by
  simp only[eW,aX,eI,fp,or_self]at a;exact a
 subst e;exact⟨rfl,λ_=>rfl⟩
def Right(n:Int)(bs:List Bk):Prop:=bo bs=iV/\∀r∈bs,r.2.1<=n
theorem WK{x:Bk}(h:x∈bs.modify k f):x∈bs∨∃r,bs[k]?=X r/\x=f r:=by
 obtain⟨i,hi,rfl⟩:=oH h;have a:(bs.modify k f)[i]?=X (bs.modify k f)[i]:=ay hi;generalize(bs.modify k f)[i]=x at a;rw[rz]at a;cases b:bs[i]? with
 |none=>rw[b]at a;cases a
 |some r=>
  rw[b]at a;by_cases e:k=i
  ·subst e;simp at a;subst a;exact Or.inr ⟨r,b,rfl⟩
  ·simp[e]at a;subst a;exact Or.inl (aO b)
theorem Right.new{n:Int}(h:3<=n/\n<=10):Right 0 (gX n):=by
 unfold gX;rw[ak h];refine⟨Gz (by rw[zJ];omega) (λb a=>?_),λr c=>?_⟩
 ·rw[(zP.1 a).2];exact El _ _ (by omega)
 ·rw[(zP.1 c).2];exact kK _
theorem Right.prog{n:Int}(h:Right n bs)(b leaf:Int)(t:ByteArray):Right n (gM bs b leaf t).1:=by
 unfold gM;split
 ·rename_i hh
  rw[bn]at hh;have c:=hh.2;unfold iM at c;cases d:bs[b.toNat]? with
  |none=>rw[d]at c;cases c
  |some r=>
   rw[d]at c;obtain⟨h0,m,j,k,f,g⟩:=sF c;have i:leaf.toNat=br r.2.2:=by omega
   have e:gU (1,t)=iV:=aW (Or.inr (Or.inl ⟨rfl,f,g⟩));refine⟨Ii h.1 (λq a=>?_),λq a=>?_⟩
   ·rw[d]at a;cases a;rw[i];exact PJ ((vX h.1).2 r (aO d)) (by omega) 1 t (by omega) e
   ·rcases WK a with a|⟨x,l,rfl⟩
    ·exact h.2 q a
    ·exact h.2 x (aO l)
 ·exact h
theorem Oz(h:bo bs=iV):Right 1000000000 bs:=⟨h,λr a=>(xE ((vX h).2 r a)).2.1.2⟩
theorem aae(h:bo bs=iV)(b l:Int)(t:ByteArray):bo (gM bs b l t).1=iV:=((Oz h).prog b l t).1
theorem Zz{b:Bk}{u:Int×ByteArray}(a:bs[k]?=X b)(c:b.2.2[j]?=X u)(h0:u.1=0):dJ bs k j=O:=by
 unfold dJ;have:(dl bs (k:Int) (j:Int)).2=iF:=by
  unfold dl;rw[bk,a];simp only[bk,c];simp[h0]
 rw[this];rfl
theorem Ao{l:List aM}(a:bo bs=iV)(w:∀y∈au bs,y.key<p.seq)(h:(cJ bs l p).2.2=iV):
 ∃(cs:List Bk) (s:aM) (x:an),cJ bs l p=(cs,l++[s],iV)/\cR bs s=(cs,iV)/\bo cs=iV/\x.fP=p/\p.Right/\au cs=au bs++[x]/\x.block=s.2.1/\s.1=1/\cK cs+1=cK bs:=by
 obtain⟨o,k,b,s,f,h1,t,⟨u,q,e⟩,hs,g,A⟩:=Yp a h;have d:1<=(cS (dT p)).size/\(cS (dT p)).size<=120:=by
  have n:(cR bs s).2=iV:=by rw[g]
  obtain⟨C,r,B,-,-,-,v⟩:=RL n;obtain⟨j,-,-,-,m,c⟩:=v.1 (by rw[hs])
  rw[hs]at m c;exact⟨m,c⟩
 have z:br b.2.2<b.2.2.length:=by rw[vD a b (aO f)];omega
 refine⟨_,s,⟨(k:Int),((br b.2.2:Nat):Int),p⟩,A,g,?_,rfl,o,?_,by rw[hs],by rw[hs],?_⟩
 ·have n:(cR bs s).2=iV:=by rw[g]
  have c:=aae a s.2.1 s.2.2.1 s.2.2.2;have i:cR bs s=gM bs s.2.1 s.2.2.1 s.2.2.2:=by unfold cR;rw[ak (by rw[hs])]
  rw[<-i,g]at c;exact c
 ·exact PQ f z (Zz f q e) (UT p o) w
 ·exact(M5 a f h1 t ⟨u,q,e⟩ d.1 d.2).2
def kR(x:Int)(p:Pg):Bool:=decide (p.kind=2/\p.tx=x)
theorem JZ{l m:List α}{P Q:α->Bool}(h:l.filter Q=m.filter Q)(b:∀x,P x=iV->Q x=iV):l.find? P=m.find? P:=by
 have e:∀k:List α,k.find? P=(k.filter Q).find? P:=λk=>by
  rw[List.find?_filter];congr 1;funext x;cases a:P x with
  |false=>simp
  |true=>simp[b x a]
 rw[e l,e m,h]
variable{ps:List Pg}
theorem xq{qs:List Pg}{x:Int}(h:ps.filter (kR x)=qs.filter (kR x)):dt ps x=dt qs x:=by
 have h0:pR ps x=pR qs x:=JZ h (λp a=>by simp only[bH]at a;simp[kR,a.1,a.2.1])
 have b:∀k c,rx ps x k c=rx qs x k c:=λk c=>JZ h (λp a=>by simp only[bH]at a;simp[kR,a.1,a.2.1])
 have d:∀(c:Int) (n k:Nat),jt ps x c n k=jt qs x c n k:=by
  intro c n
  induction n with
  |zero=>intro k;rfl
  |succ n e=>intro k;simp only[jt,b,e]
 unfold dt kI;rw[h0];cases pR qs x with
 |none=>rfl
 |some p=>simp only[d]
theorem vP{x:Int}(h:∀p∈ps,p.kind=2->p.tx≠x):ps.filter (kR x)=[]:=by
 rw[mV];intro p a;simp only[kR,bH];exact λq=>h p a q.1 q.2
theorem TE{x:Int}(h:∀p∈ps,p.kind=2->p.tx≠x):dt ps x=O:=by
 rw[xq (qs:=[]) (by rw[vP h];rfl)]
 rfl
theorem IR{ns:List Int}(f:ns.Pairwise (·<·))(h:∀p∈ps,p.kind=2->p.tx∈ns):dF ps=ns.filterMap (dt ps):=by
 have d:ns.filterMap (dt ps)=(ns.filter λx=>decide (x∈dA ps)).filterMap (dt ps):=by
  rw[Fc];apply o9;intro x _;by_cases a:x∈dA ps
  ·simp[a]
  ·simp only[a,pe,eS,fb];refine TE (λp c b e=>a ?_)
   exact(qV ps x).2 ⟨p,c,b,e⟩
 unfold dF;rw[d];congr 1;refine JC (rD ps) (f.sublist tZ) (λx=>?_)
 rw[eh,bH];constructor
 ·intro a;obtain⟨p,c,b,e⟩:=(qV ps x).1 a;exact⟨e▸h p c b,a⟩
 ·exact λa=>a.2
theorem IE(b:p∈ps)(a:p.kind=2):p.tx∈dA ps:=(qV ps p.tx).2 ⟨p,b,a,rfl⟩
theorem Tb{h:List Pg}{seq tx:Int}{l:List Rc}(s:∀r∈l,r.Right)(k:∀p∈h,p.kind≠2)(n:∀p∈ps,p.kind=2->p.tx<tx):dF (ps++h++ci seq tx l)=dF ps++[⟨tx,seq,l⟩]:=by
 have j:∀p∈ci seq tx l,p.kind=2/\p.tx=tx:=λp c=>by
  obtain⟨i,-,-,-,h4,o,-⟩:=vT c;exact⟨h4,o⟩
 have g:∀x∈dA ps,x<tx:=λx d=>by
  obtain⟨p,c,f,e⟩:=(qV ps x).1 d;exact e▸n p c f
 rw[IR (ns:=dA ps++[tx])]
 ·rw[nD];congr 1
  ·apply o9;intro x d;apply xq;have t:=g x d;rw[ir,ir,vP (ps:=h) (λp c f=>absurd f (k p c)),vP (ps:=ci seq tx l) (λp c _ e=>by have:=(j p c).2;omega)]
   simp
  ·have:dt (ps++h++ci seq tx l) tx=X ⟨tx,seq,l⟩:=by
    refine Yd s (λx=>?_)
    constructor
    ·rintro⟨d,f,e⟩;rcases bG.1 d with d|d
     ·rcases bG.1 d with d|d
      ·have:=n x d f;omega
      ·exact absurd f (k x d)
     ·exact d
    ·intro d;exact⟨xY _ d,j x d⟩
   rw[qn,this];rfl
 ·refine iu.2 ⟨rD ps,mA _ _,?_⟩;intro a q b m;rw[bR]at m;subst m;exact g a q
 ·intro p c f;rcases bG.1 c with c|c
  ·rcases bG.1 c with c|c
   ·exact sC _ (IE c f)
   ·exact absurd f (k p c)
  ·rw[(j p c).2];simp
theorem Pc{b:List Pg}(d:∀p∈b,p.kind≠2):dF (ps++b)=dF ps:=by
 rw[IR (ps:=ps++b) (ns:=dA ps) (rD ps) (λp a c=>by
  rcases bG.1 a with a|a
  ·exact IE a c
  ·exact absurd c (d p a))]
 unfold dF;apply o9;intro x _;apply xq;rw[ir,vP (ps:=b) (λp a c=>absurd c (d p a)),dS]
theorem GN{x:Int}{t:TxR}(h:dt ps x=X t):t.num=x:=by
 unfold dt at h;cases a:kI ps x with
 |none=>rw[a]at h;cases h
 |some l=>
  rw[a]at h;simp only at h;cases b:fR (lq l).data.toList 0 with
  |none=>rw[b]at h;cases h
  |some rs=>rw[b]at h;cases h;rfl
theorem Dj{t:TxR}(h:t∈dF ps):∃p∈ps,p.kind=2/\p.tx=t.num:=by
 obtain⟨x,d,e⟩:=tS.1 h;obtain⟨p,c,b,a⟩:=(qV ps x).1 d;exact⟨p,c,b,by rw[a,GN e]⟩
theorem Qu{qs:List Pg}(b:Int)(h:∀x,b<=x->ps.filter (kR x)=qs.filter (kR x)):(dF ps).filter (λt=>decide (b<=t.num))=(dF qs).filter (λt=>decide (b<=t.num)):=by
 have e:∀rs:List Pg,(dF rs).filter (λt=>decide (b<=t.num))=((dA rs).filter (λx=>decide (b<=x))).filterMap (dt rs):=λrs=>by
  unfold dF;rw[Hw,Fc];apply o9;intro x _;cases m:dt rs x with
  |none=>simp[Option.filter]
  |some t=>
   have:=GN m;by_cases d:b<=x
   ·simp[Option.filter,this,d]
   ·simp[Option.filter,this,d]
 have c:∀{rs f:List Pg},(∀x,b<=x->rs.filter (kR x)=f.filter (kR x))->∀x,b<=x->x∈dA rs->x∈dA f:=by
  intro rs f k x d a;obtain⟨p,n,j,i⟩:=(qV rs x).1 a;have:p∈rs.filter (kR x):=eh.2 ⟨n,by simp[kR,j,i]⟩
  rw[k x d]at this;obtain⟨g,-⟩:=eh.1 this;exact(qV f x).2 ⟨p,g,j,i⟩
 rw[e ps,e qs];have l:(dA ps).filter (λx=>decide (b<=x))=(dA qs).filter (λx=>decide (b<=x)):=by
  refine JC ((rD ps).sublist tZ) ((rD qs).sublist tZ) (λx=>?_)
  rw[eh,eh,bH];exact⟨λa=>⟨c h x a.2 a.1,a.2⟩,λa=>⟨c (λy hy=>(h y hy).symm) x a.2 a.1,a.2⟩⟩
 rw[l];apply o9;intro x a;exact xq (h x (by have:=(eh.1 a).2;simpa using this))
theorem WF(L:List TxR)(t:TxR):∀i,i<=L.length->fX (L++[t]) i=fX L i:=by
 intro i
 induction i with
 |zero=>intro _;rfl
 |succ i a=>
  intro hi;simp only[fX];rw[hI (by omega),a (by omega)]
theorem V5(L:List TxR)(t:TxR):jJ (L++[t])=if t.base then[t]else jJ L++[t]:=by
 unfold jJ;rw[aJ];simp only[aV,dU];rw[fX];rw[ct (am _)];simp only[kM,sw];cases a:t.base with
 |true=>
  simp only[dw];rw[wF (am _),yS];rfl
 |false=>
  simp only[eS,fb];rw[WF L t _ (am _),wF (Dm L _)]
theorem Jk(L:List TxR):∃A,L=A++jJ L:=⟨L.take (fX L L.length),(jo _ _).symm⟩
theorem XH{A B:List TxR}(h0:∀t∈B.tail,t.base=iF)(h1:∀t,B.head?=X t->t.base=iV∨A=[])(e:B=[]->A=[]):jJ (A++B)=B:=by
 cases B with
 |nil=>rw[e rfl];rfl
 |cons t B=>
  have hs:=Kz (A++t::B) (A++t::B).length (am _);have c:=Dm (A++t::B) (A++t::B).length;obtain⟨g1,g2⟩:=hs;generalize i:fX (A++t::B) (A++t::B).length=z at g1 g2 c;have d:z=A.length:=by
   rcases h1 t rfl with g|f
   ·rcases DL z A.length with q|q|q
    ·have:=g2 A.length t q (by simp) (by rw[ct (am _)];simp)
     rw[g]at this;cases this
    ·exact q
    ·rcases g1 with g1|⟨u,b,a⟩
     ·omega
     ·rw[ct (by omega)]at b
      obtain⟨j,h⟩:∃j,z-A.length=j+1:=⟨z-A.length-1,by omega⟩
      rw[h,nH]at b;have:=h0 u (aO b);rw[a]at this;cases this
   ·subst f;rcases g1 with g1|⟨u,b,a⟩
    ·exact g1
    ·cases z with
     |zero=>rfl
     |succ j=>
      rw[jT,nH]at b;have:=h0 u (aO b);rw[a]at this;cases this
  unfold jJ;rw[i,d,wF (am _),yS];rfl
theorem Xe(L:List TxR):∀t∈(jJ L).tail,t.base=iF:=by
 intro t a;obtain⟨-,g2⟩:=Kz L L.length (am _);unfold jJ at a;rw[List.tail_drop]at a;obtain⟨i,hi⟩:=io a;rw[lh]at hi;exact g2 _ t (by omega) (aB.1 hi).1 hi
theorem Fj:∀(ps:List Pg) (s:List Bk×List aM×Bool),s.2.2=iF->(eD s ps).2.2=iF
 | [],s,h=>h
 |p::ps,s,h=>by rw[eD,h];exact h
theorem Ar:∀(ps:List Pg) {bs:List Bk} {l:List aM},bo bs=iV->(∀y∈au bs,∀p∈ps,y.key<p.seq)->ps.Pairwise (λp q=>p.seq<q.seq)->(eD (bs,l,iV) ps).2.2=iV->
 ∃(cs:List Bk) (L:List aM) (xs:List an),eD (bs,l,iV) ps=(cs,l++L,iV)/\dc bs L=(cs,L.length)/\bo cs=iV/\xs.map an.fP=ps/\au cs=au bs++xs/\(∀p∈ps,p.Right)/\(∀s∈L,s.1=1)/\L.length=ps.length/\L.map (λs=>s.2.1)=xs.map an.block/\cK cs+ps.length=cK bs
 | [],bs,l,hok,_,_,_=>⟨bs,[],[],by simp[eD],rfl,hok,rfl,by simp,by simp,by simp,rfl,rfl,by simp⟩
 |p::ps,bs,l,hok,hk,hp,h=>by
  rw[eD]at h;simp only[dw]at h;have h1:(cJ bs l p).2.2=iV:=by
   cases e:(cJ bs l p).2.2 with
   |true=>rfl
   |false=>rw[Fj ps _ e]at h;cases h
  obtain⟨cs,s,x,f,j,k,g,m,i,n,o,E⟩:=Ao hok (λy hy=>hk y hy p (by simp)) h1
  obtain⟨c,d⟩:=fQ.1 hp;rw[f]at h;obtain⟨b,L,xs,r,u,v,w,z,A,B,C,D,t⟩:=Ar ps (bs:=cs) (l:=l++[s]) k (λy hy q a=>by
   rw[i]at hy;rcases bG.1 hy with hy|hy
   ·exact hk y hy q (by simp[a])
   ·rw[bR]at hy;subst hy;show y.fP.seq<q.seq;rw[g];exact c q a) d h
  refine⟨b,s::L,x::xs,?_,?_,v,by simp[g,w],?_,?_,?_,by simp[C],by simp[D,n],?_⟩
  ·rw[eD];simp only[dw];rw[f,r];simp
  ·rw[dc,j];simp only[dw];rw[u];simp
  ·rw[z,i];simp
  ·intro q a;rcases aX.1 a with rfl|a
   ·exact m
   ·exact A q a
  ·intro q a;rcases aX.1 a with rfl|a
   ·exact o
   ·exact B q a
  ·rw[aV];omega
theorem Ib(seq tx:Int)(l:List Rc):(ci seq tx l).Pairwise (λp q=>p.seq<q.seq):=by
 rw[nh];intro i j hi c b;obtain⟨g,-,e⟩:=uC (ay hi);obtain⟨d,-,a⟩:=uC (ay c);rw[e,a];show seq+(i:Int)<seq+(j:Int);omega
theorem GF{seq tx:Int}{l:List Rc}(h:p∈ci seq tx l):seq<=p.seq:=by
 obtain⟨i,hi,e⟩:=oH h;obtain⟨g,-,a⟩:=uC (ay hi);rw[<-e,a];show seq<=seq+(i:Int);omega
variable{d:Dv}{L:List aM}
theorem Pr{l:List Rc}(i:bo d.fH=iV)(hs:∀y∈au d.fH,y.key<d.seq)(Q:l≠ [])(h:dZ d l t=(L,iV)):
 ∃(cs:List Bk) (m G:List an),dc d.fH L=(cs,L.length)/\bo cs=iV/\au cs=au d.fH++m++G/\G.map an.fP=ci (eK d t) d.tx l/\iY (eK d t) d.tx l/\
  ((t.size=0/\m=[])∨(t.size≠0/\∃x,m=[x]/\x.fP=kG d.seq (oP l) t/\x.fP.Right))/\(∀s∈L,s.1=1)/\cK cs+L.length=cK d.fH:=by
 unfold dZ at h;rw[aj (by intro e;exact Q (gK e))]at h
 by_cases j:((eD (jr d l t) (jV (eK d t) d.tx l)).2.2&& @decide (iY (eK d t) d.tx l) (mO (eK d t) d.tx l))=iV
 ·rw[ak j]at h;rw[bn,sN]at j;obtain⟨a,c⟩:=j;have e:jV (eK d t) d.tx l=ci (eK d t) d.tx l:=by unfold jV;rw[ak c]
  rw[e]at a h;have b:(eD (jr d l t) (ci (eK d t) d.tx l)).2.1=L:=congrArg Prod.fst h;by_cases f:t.size=0
  ·have n:jr d l t=(d.fH,[],iV):=by unfold jr;rw[ak f]
   have r:eK d t=d.seq:=by unfold eK;rw[ak f]
   rw[n]at a b;obtain⟨cs,H,xs,u,v,w,z,A,O,B,C,P,g⟩:=Ar _ i (λy hy p D=>by
    have:=GF D;have:=hs y hy;omega) (Ib _ _ _) a
   rw[u]at b;simp only[jT]at b;subst b;exact⟨cs,[],xs,v,w,by rw[A];simp,z,c,.inl ⟨f,rfl⟩,B,by rw[C];exact g⟩
  ·have n:jr d l t=cJ d.fH [] (kG d.seq (oP l) t):=by unfold jr;rw[aj f]
   have r:eK d t=d.seq+1:=by unfold eK;rw[aj f]
   rw[n]at a b;have h1:(cJ d.fH [] (kG d.seq (oP l) t)).2.2=iV:=by
    cases e:(cJ d.fH [] (kG d.seq (oP l) t)).2.2 with
    |true=>rfl
    |false=>rw[Fj _ _ e]at a;cases a
   obtain⟨cs,s,x,I,J,K,o,M,F,R,N,S⟩:=Ao i (λy hy=>hs y hy) h1
   rw[I]at a b;obtain⟨k,H,xs,u,v,w,z,A,O,B,C,P,g⟩:=Ar _ K (λy hy p D=>by
    have T:=GF D;rw[F]at hy;rcases bG.1 hy with hy|hy
    ·have:=hs y hy;omega
    ·rw[bR]at hy;subst hy;show y.fP.seq<p.seq;rw[o];show d.seq<p.seq;omega) (Ib _ _ _) a
   rw[u]at b;simp only[jT,xw]at b;subst b;refine⟨k,[x],xs,?_,w,by rw[A,F],z,c,.inr ⟨f,x,rfl,o,by rw[o];exact M⟩,?_,?_⟩
   ·rw[dc,J];simp only[dw];rw[v];simp
   ·intro q E;rcases aX.1 E with rfl|E
    ·exact N
    ·exact B q E
   ·rw[aV,C];omega
 ·rw[aj j]at h;cases h
theorem Eu{l:List Rc}(o:Up d)(C:l≠ [])(h:dZ d l t=(L,iV)):
 ∃(cs:List Bk) (b f:List an) (g:TxR),gn d L=jz cs/\bo cs=iV/\dc d.fH L=(cs,L.length)/\au cs=au d.fH++b++f/\(∀x∈f,x.fP.kind=2/\x.fP.tx=d.tx)/\g.num=d.tx/\g.fR=l/\
  ((t.size=0/\b=[])∨(t.size≠0/\∃x,b=[x]/\x.fP=kG d.seq (oP l) t/\x.fP.Right))/\(∀s∈L,s.1=1)/\cK cs+L.length=cK d.fH/\
  cI (au cs)=if g.base then[g]else cI (au d.fH)++[g]:=by
 have c:d.seq=gY (au d.fH):=congrArg Dv.seq o.is;have n:d.tx=gL (au d.fH):=congrArg Dv.tx o.is;obtain⟨cs,b,f,h1,q,r,h4,w,u,z,A⟩:=Pr o.ok (λy hy=>by rw[c];exact Kh _ y hy) C h
 have k:∀x∈f,x.fP.kind=2/\x.fP.tx=d.tx:=λx a=>by
  have:x.fP∈ci (eK d t) d.tx l:=by rw[<-h4];exact pj a
  obtain⟨i,-,-,-,D,E,-⟩:=vT this;exact⟨D,E⟩
 refine⟨cs,b,f,⟨d.tx,eK d t,l⟩,?_,q,h1,r,k,rfl,rfl,u,z,A,?_⟩
 ·unfold gn fj;rw[h1];simp only;rw[ak q]
 ·unfold cI;rw[r,fm,fm,h4];rw[Tb w.1 (λp m=>?_) (λp m B=>?_)]
  ·exact V5 _ _
  ·obtain⟨x,a,e⟩:=bJ.1 m;rcases u with⟨-,j⟩|⟨-,y,j,v,-⟩
   ·rw[j]at a;cases a
   ·rw[j,bR]at a;subst a;rw[<-e,v];show(1:Int)≠2;decide
  ·obtain⟨x,a,e⟩:=bJ.1 m;rw[<-e,n];exact zi _ x a (by rw[e];exact B)
theorem Bf(s:Sto):qe s=(cT s).flatMap (·.2):=by simp[qe,cT,List.flatMap_map]
variable{s:Sto}
theorem OQ{m:Sto}(h:cT m=cT s):aI m=aI s:=by
 rw[wu,wu,Bf,Bf,h]
theorem vY:y∈qe s↔∃p∈cT s,y∈p.2:=by rw[Bf,md]
theorem BS{r:Rc}(B:r.kind≠1)(hy:y∈aI (aY s r).1):y∈aI s∨(r.kind=4/\y=r.fC/\(aY s r).2=iV):=by
 rw[qi]at hy;obtain⟨h0,hy⟩:=hy;cases d:(aY s r).2 with
 |false=>
  rw[qS d]at hy;exact .inl ((qi s y).2 ⟨h0,hy⟩)
 |true=>
  obtain⟨hs,t⟩:=nR d;have m:=t;unfold Rc.Right at m;by_cases h:r.kind=4∨r.kind=5
  ·obtain⟨k,v,b,-,-,-,-,x,A,-⟩:=si d h;obtain⟨p,f,a⟩:=vY.1 hy;rw[A]at f;rcases nK f with f|f
   ·exact .inl ((qi s y).2 ⟨h0,vY.2 ⟨p,f,a⟩⟩)
   ·subst f;simp only at a;rcases nK a with a|a
    ·exact .inl ((qi s y).2 ⟨h0,vY.2 ⟨_,aO (Br b),a⟩⟩)
    ·rcases h with h4|j
     ·exact .inr ⟨h4,a,rfl⟩
     ·have:=x j;omega
  ·by_cases u:r.kind=2
   ·obtain⟨q,e,-,-,i,z⟩:=vC d u;rw[e]at hy;unfold qe at hy;obtain⟨v,b,c⟩:=md.1 hy;simp only at c b;refine .inl ((qi s y).2 ⟨h0,?_⟩);rcases rR b with rfl|b
    ·simp only at c;by_cases g:0<r.arg
     ·exact md.2 ⟨_,i g,c⟩
     ·rw[z g,Jm]at c;have:=(zP.1 c).2;omega
    ·exact md.2 ⟨v,b,c⟩
   ·have w:r.kind=3:=by omega
    refine .inl ((qi s y).2 ⟨h0,?_⟩);have l:=(jR s).2 hs;rw[aY,ak ⟨l,t⟩,aj (by omega),aj (by omega)]at hy d
    cases i:bO s.fV r.vol with
    |none=>rw[i]at d;cases d
    |some k=>
     rw[i]at hy d;simp only at hy d;by_cases o:r.fC=1000000000
     ·rw[ak o]at d;cases d
     ·rw[aj o,ak w]at hy;simp only at hy;obtain⟨p,f,a⟩:=vY.1 hy;rw[wU,wE (yC hs.toNear k)]at f;obtain⟨v,b,e⟩:=bJ.1 f;simp only at b;have n:v∈s.fV:=by
       rcases bG.1 b with b|b
       ·exact wg b
       ·exact DI b
      subst e;exact md.2 ⟨v,n,a⟩
theorem AZ{a:Sto}{m:Int}(hs:∀v∈s.fV,v.1<=m)(h:∀p∈cT a,∃v∈s.fV,v.1=p.1):∀v∈a.fV,v.1<=m:=by
 intro v c;obtain⟨u,b,e⟩:=h _ (Il c);have:=hs u b;simp only at e;omega
theorem Jz{p:Int×List Int}(h:p∈cT s):∃v∈s.fV,v.1=p.1:=by
 obtain⟨v,a,e⟩:=bJ.1 h;exact⟨v,a,by rw[<-e]⟩
theorem Jy{r:Rc}{m:Int}(hs:∀v∈s.fV,v.1<=m)(u:r.kind=2->r.vol<=m):∀v∈(aY s r).1.fV,v.1<=m:=by
 cases c:(aY s r).2 with
 |false=>rw[qS c];exact hs
 |true=>
  obtain⟨d,o⟩:=nR c;have i:=o;unfold Rc.Right at i;by_cases g:r.kind=4∨r.kind=5
  ·obtain⟨k,v,b,-,-,-,-,-,w,-⟩:=si c g;refine AZ hs (λp a=>?_)
   rw[w]at a;rcases nK a with a|a
   ·exact Jz a
   ·exact⟨v,aO b,by rw[a]⟩
  ·by_cases f:r.kind=2
   ·obtain⟨q,e,-⟩:=vC c f;rw[e];intro v b;rcases rR b with rfl|b
    ·exact u f
    ·exact hs v b
   ·by_cases h1:r.kind=1
    ·rw[EP c h1];intro v b;cases b
    ·have t:r.kind=3:=by omega
     have h:=(jR s).2 d;refine AZ hs (λp a=>?_)
     rw[aY,ak ⟨h,o⟩,aj h1,aj f]at a c;cases l:bO s.fV r.vol with
     |none=>rw[l]at c;cases c
     |some k=>
      rw[l]at a c;simp only at a c;by_cases n:r.fC=1000000000
      ·rw[ak n]at c;cases c
      ·rw[aj n,ak t]at a;simp only at a;rw[wU,wE (yC d.toNear k)]at a;obtain⟨v,b,e⟩:=bJ.1 a;simp only at b;have j:v∈s.fV:=by
        rcases bG.1 b with b|b
        ·exact wg b
        ·exact DI b
       exact⟨v,j,by rw[<-e]⟩
theorem Ty{r:Rc}(i:r.kind≠1):s.next<=(aY s r).1.next:=by
 cases a:(aY s r).2 with
 |false=>rw[qS a];exact kK _
 |true=>
  obtain⟨hs,f⟩:=nR a;have d:=f;unfold Rc.Right at d;by_cases b:r.kind=4∨r.kind=5
  ·exact(Zr a b).2.2
  ·by_cases g:r.kind=2
   ·obtain⟨q,e,-⟩:=vC a g;rw[e];exact kK _
   ·have c:=(jR s).2 hs;rw[aY,ak ⟨c,f⟩,aj (by omega),aj (by omega)]at a⊢
    cases h:bO s.fV r.vol with
    |none=>simp only;exact kK _
    |some k=>
     simp only;split
     ·exact kK _
     ·rw[ak (show r.kind=3 by omega)]
      exact kK _
theorem Wk{r:Rc}(hs:s.Right)(d:r.Right)(e:r.kind=4)(a:(bO s.fV r.vol).isSome=iV)(c:r.fC≠1000000000):(aY s r).2=iV:=by
 rw[aY,ak ⟨(jR s).2 hs,d⟩,aj (by omega),aj (by omega)]
 cases b:bO s.fV r.vol with
 |none=>rw[b]at a;cases a
 |some k=>
  simp only;rw[aj c,aj (by omega)]
def jq(M:List an):Prop:=match cI M with
 | []=>∀x∈M,x.fP.kind≠2
 |t::_=>t.base=iV∨∀x∈M,x.fP.kind=2->t.num<=x.fP.tx
structure cO (T:List UInt8->Prop) (n:Nat) (d:Dv):Prop where
 up:Up d
 st:d.fS.Right
 hd:jq (au d.fH)
 lv:∀c∈aI d.fS,∃x∈au d.fH,cW c x=iV
 tx:∀x∈au d.fH,x.fP.kind=1->∃t,fF x.fP.text.data.toList=X t/\T t
 df:∀c∈aI d.fS,∀c'∈aI d.fS,bI (au d.fH) c=bI (au d.fH) c'->c=c'
 dn:∀x∈au d.fH,x.fP.kind=1->x.fP.tx<d.fS.next
 nx:d.fS.next<=(n:Int)+1
 vi:∀v∈d.fS.fV,v.1<=3
theorem cO.has(h:cO T n d)(f:c∈aI d.fS):∃x t,bp (au d.fH) c=X x/\bI (au d.fH) c=X t/\T t:=by
 obtain⟨x,i,g⟩:=h.lv c f;cases b:bp (au d.fH) c with
 |none=>have:=rL.1 b x i;rw[g]at this;cases this
 |some y=>
  obtain⟨hy,a⟩:=ph b;obtain⟨t,h1,e⟩:=h.tx y hy (by unfold cW at a;simp at a;exact a.1)
  exact⟨y,t,rfl,by unfold bI;rw[b];exact h1,e⟩
theorem cO.sub{T':List UInt8->Prop}(h:cO T n d)(c:∀t,T t->T' t)(f:n<=m):cO T' m d:=
 ⟨h.up,h.st,h.hd,h.lv,λx e b=>by obtain⟨t,h1,a⟩:=h.tx x e b;exact⟨t,h1,c t a⟩,h.df,h.dn,(by have:=h.nx;omega),h.vi⟩
variable{M:List an}
theorem Mv{t:TxR}(h:t∈cI M):∃x∈M,x.fP.kind=2/\x.fP.tx=t.num:=by
 unfold cI at h;obtain⟨A,a⟩:=Jk (dF (M.map an.fP));obtain⟨p,c,b,e⟩:=Dj (ps:=M.map an.fP) (t:=t) (by rw[a];exact xY _ h)
 obtain⟨x,d,rfl⟩:=bJ.1 c;exact⟨x,d,b,e⟩
variable{x:an}
theorem vK(h:cW c x=iV):x.fP.kind=1/\x.fP.tx=c:=by
 unfold cW at h
 simpa using h
theorem FH{a:List an}(h:∀x∈a,x.fP.kind=2):bp a c=O:=by
 rw[rL];intro x b;have:=h x b;unfold cW;simp[this]
theorem WU(h:bp M c=X x):bI M c=fF x.fP.text.data.toList:=by unfold bI;rw[h];rfl
end Go.Proofs.YtgigcooffjjbgaaGreatDoor
