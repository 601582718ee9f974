/-
  StoM2; StoM3; StoM4; StoM5; StoM6; StoM7; DvM; BkP; FRP; DvM2; DvM3; DvM4; DvM5; DvM6; FRow
-/
import Derived.Test.YtgigcooffjjbgaaGreatDoorPk4
import Derived.Test.YtgigcooffjjbgaaGreatDoorPk3
open Go.Value renaming int→I,slice→Y,string→iT,bool→iB,agg→iA
open Go.IntKind renaming i64→J
open Option renaming none→O,some→X
open Go.Ending renaming returned→G
open Bool renaming true→iV,false→iF
open Go renaming World→iW,Value→iX
open Go.RowKit renaming Below→iL
namespace Go.Proofs.YtgigcooffjjbgaaGreatDoor
namespace Words
variable{id r c:Int}{v:Int × Int}{k i:Nat}
theorem ab0{l:List (Int×Int)}(h:∀v∈l,v.1≠id):(gS l id r).length=l.length+1:=by
 rw[gS,aI,aW];have d:(l.filter (λv=>decide (v.1<id))).length+(l.filter (λv=>decide (id<v.1))).length=l.length:=by
  induction l with
  |nil=>rfl
  |cons v l c=>
   have i:=c (λu b=>h u (ur _ b))
   have e:=h v pO;rw[kC,kC];by_cases a:v.1<id
   ·rw[ak (by simpa using a),ai (by simp;omega),aW,aW];omega
   ·rw[ai (by simpa using a),ak (by simp;omega),aW,aW];omega
 omega
theorem sP{l:List (Int×Int)}(h:v∈gS l id r):v=(id,r)∨v∈l:=by
 rw[gS,bJ,be,gQ,gQ]at h;rcases h with h|h|h
 ·exact .inr h.1
 ·exact .inl h
 ·exact .inr h.1
theorem TZ{l:List (Int×Int)}(h:v∈l)(b:v.1≠id):v∈gS l id r:=by
 rw[gS,bJ,be,gQ,gQ];by_cases a:v.1<id
 ·exact .inl ⟨h,by simpa using a⟩
 ·exact .inr (.inr ⟨h,by simp;omega⟩)
theorem WO{l:List (Int×Int)}(h:l.Pairwise (λu v=>u.1<v.1)):(gS l id r).Pairwise (λu v=>u.1<v.1):=by
 rw[gS,iE,gx];refine⟨h.filter _,⟨?_,h.filter _⟩,?_⟩
 ·intro v a
  simpa using(gQ.1 a).2
 ·intro u b v a;have h1:u.1<id:=by simpa using(gQ.1 b).2
  rcases be.1 a with e|e
  ·rw[e];exact h1
  ·have:id<v.1:=by simpa using(gQ.1 e).2
   omega
variable{s:Sto}
theorem Im(h:s.Right){q:Int}(b:1<=id/\id<=9)(c:∀v∈s.fV,v.1≠id)(m:s.fV.length<3)(i:bB s.fK q=iV)(f:∀k:Nat,k<=15->cG s.fK q k<s.next):(Sto.mk (gS s.fV id q) s.fK s.next).Right:=by
 refine⟨⟨?_,h.ar,h.nx,?_,WO h.asc,?_,?_⟩,?_⟩
 ·show(gS s.fV id q).length<=3;rw[ab0 c];omega
 ·intro v a;rcases sP a with e|e
  ·rw[e];exact b
  ·exact h.ids v e
 ·intro v a;rcases sP a with e|e
  ·rw[e];exact i
  ·exact h.root v e
 ·intro v a;rcases sP a with e|e
  ·rw[e];exact f
  ·exact h.less v e
 ·intro j g;have:=h.used j g;rw[bE,re]at this⊢;obtain⟨r,l,d⟩:=this;obtain⟨v,a,rfl⟩:=bZ.1 l;exact⟨v.2,bZ.2 ⟨v,TZ a (c v a),rfl⟩,d⟩
theorem y8(h:s.Near)(k:Nat):(Sto.mk (s.fV.take k++s.fV.drop (k+1)) s.fK s.next).Near:=by
 have a:(s.fV.take k++s.fV.drop (k+1)).Sublist s.fV:=by
  rw[<-List.eraseIdx_eq_take_drop_succ];exact List.eraseIdx_sublist _ _
 exact⟨bV a.length_le h.few,h.ar,h.nx,λv b=>h.ids v (a.subset b),h.asc.sublist a,λv b=>h.root v (a.subset b),λv b=>h.less v (a.subset b)⟩
theorem T8{l:List (Int×Int)}{q:Int}(b:l[k]?=X v):(l.set k (v.1,q)).map (·.1)=l.map (·.1):=by
 rw[sU];obtain⟨h1,a⟩:=aC.1 b;have:(l.map (·.1))[k]'(by simpa using h1)=v.1:=by rw[Cs,a]
 show(l.map (·.1)).set k v.1=_
 rw[<-this];exact Kr _
theorem Am(h:s.Near)(o:s.fV[k]?=X v)(hi:i<=15)(h0:0<=c)(y:c<1000000000):
 (Sto.mk (s.fV.set k (v.1,jM s.fK v.2 (i:Int) c)) (gN s.fK v.2 (i:Int) c) (if s.next<=c then c+1 else s.next)).Near/\
  cW (Sto.mk (s.fV.set k (v.1,jM s.fK v.2 (i:Int) c)) (gN s.fK v.2 (i:Int) c) (if s.next<=c then c+1 else s.next))=(cW s).set k (v.1,(bW s.fK v.2).set i c):=by
 have m:=aL o;have d:lw s.fK v.2:=⟨h.ar,h.root v m⟩;obtain⟨q,r⟩:=Em (n:=c) d hi h0;rw[q,r];have p:s.next<=(if s.next<=c then c+1 else s.next)/\c<(if s.next<=c then c+1 else s.next)/\(if s.next<=c then c+1 else s.next)<=1000000000:=by
  have:=h.nx;split<;>omega
 generalize(if s.next<=c then c+1 else s.next)=nx at p⊢
 have w:=h.nx;refine⟨⟨by show(s.fV.set k _).length<=3;rw[gK];exact h.few,(xH d hi h0).1,⟨by show 1<=nx;omega,p.2.2⟩,?_,?_,?_,?_⟩,?_⟩
 ·intro u l;rcases nG l with e|e
  ·exact h.ids u e
  ·rw[e];exact h.ids v m
 ·have:=h.asc;rw[<-BP (f:=λ(x:Int×Int)=>x.1) (R:=λa b=>a<b)]at this⊢
  show((s.fV.set k _).map _).Pairwise _;rw[T8 o];exact this
 ·intro u l;rcases nG l with e|e
  ·exact(BH d hi h0 (h.root u e)).2
  ·rw[e];exact(xH d hi h0).2
 ·intro u l j g;show cG (pt s.fK v.2 i c) u.2 j<nx;rcases nG l with e|e
  ·have a:=Ks d hi h0 (h.root u e) g;rw[mS (BH d hi h0 (h.root u e)) g,mS ⟨h.ar,h.root u e⟩ g]at a;rw[a];have:=h.less u e j g;omega
  ·rw[e];have a:=Fp d hi h0 g;rw[mS (xH d hi h0) g,mS d g]at a;rw[a];split
   ·omega
   ·have:=h.less v m j g;omega
 ·unfold cW;show(s.fV.set k _).map _=_;rw[sU];have t:s.fV.map (λu=>(u.1,bW (pt s.fK v.2 i c) u.2))=s.fV.map (λu=>(u.1,bW s.fK u.2)):=
   oY λu l=>by rw[We d hi h0 (h.root u l)]
  rw[t];congr 1;show(v.1,bW (pt s.fK v.2 i c) (yC s.fK))=_;congr 1;refine lH λj=>?_
  rw[th];unfold bW;simp only[bh,bm,List.length_range];by_cases g:j<16
  ·rw[Ek g];simp only[fE];rw[Fp d hi h0 (by omega)]
   by_cases e:i=j
   ·subst e;rw[ak rfl,ak rfl,ak (by omega)]
   ·rw[ai (Ne.symm e),ai e]
  ·rw[H7 (by simp;omega)]
   simp only[Option.map_none];by_cases e:i=j
   ·omega
   ·rw[ai e]
theorem Gg(h:s.Near):∀k:Nat,k<=15->cG s.fK (-1) k<s.next:=by
 intro k _;rw[cG,ak (by omega)]
 have:=h.nx;omega
theorem ME(l:List Kn):bB l (-1)=iV:=by simp[bB]
theorem Mh{q:Int}(e:lU s.fV id=X q):(id,q)∈s.fV:=by
 rw[lU]at e;cases a:bw s.fV id with
 |none=>rw[a]at e;cases e
 |some k=>
  rw[a]at e;obtain⟨v,c,b⟩:=om a;simp only[jd,c,fE,fq]at e;have:=aL c;rw[<-b,<-e];exact this
theorem DP:ik.Right:=by
 refine⟨⟨by decide,rfl,by decide,?_,List.Pairwise.nil,?_,?_⟩,?_⟩
 all_goals intro v a;first|cases a|(exact absurd a (Nat.not_lt_zero _))
theorem GC{n:Int}(h:1<=n/\n<=1000000000):(Sto.mk [] [] n).Right:=by
 refine⟨⟨by show 0<=3;omega,rfl,h,?_,List.Pairwise.nil,?_,?_⟩,?_⟩
 all_goals intro v a;first|cases a|(exact absurd a (Nat.not_lt_zero _))
theorem yf(h:s.Right)(r:Rc):(aX s r).1.Right:=by
 unfold aX;split
 ·rename_i hb
  obtain⟨-,⟨e,g⟩⟩:=hb;split
  ·refine GC ?_;split<;>omega
  ·rename_i hk1
   split
   ·rename_i hk2
    unfold fO;split
    ·exact h
    ·rename_i q hq
     split
     ·exact h
     ·rename_i hc
      simp only[ky,bM,tL,Bool.not_eq_true,Kf,xt]at hc;have f:=h.few;have a:bB s.fK q=iV/\∀k:Nat,k<=15->cG s.fK q k<s.next:=by
       split at hq
       ·have b:=Mh hq;exact⟨h.root _ b,h.less _ b⟩
       ·injection hq with hq
        subst hq;exact⟨ME _,Gg h.toNear⟩
      exact Im h (by omega) (Aq hc.1) (by omega) a.1 a.2
   ·split
    ·exact h
    ·rename_i k ha2
     split
     ·exact h
     ·split
      ·exact zV (y8 h.toNear k)
      ·rename_i hcn hk3
       obtain⟨v,d,-⟩:=om ha2;rw[d,oo];have hi:r.arg.toNat<=15:=by omega
       have:=(Am h.toNear d (c:=r.fC) hi (by omega) (by omega)).1
       rw[show((r.arg.toNat:Nat):Int)=r.arg by omega]at this
       exact zV this
 ·exact h
end Words
namespace Words
theorem MJ(l:List Kn):bW l (-1)=List.replicate 16 0:=by
 have:∀s:Int,dZ l (-1) s=0:=by
  intro s;rw[dZ];split
  ·rw[cG,ak (by omega)]
  ·rfl
 unfold bW;simp only[this];rfl
theorem vG(l:List Kn)(r:Int):(bW l r).length=16:=by simp[bW]
variable{r id c:Int}{v:Int × Int}{i k j:Nat}
theorem La(l:List Kn)(r:Int)(hi:i<16):(bW l r)[i]?=X (dZ l r (i:Int)):=by
 unfold bW;rw[bh,Ek hi];rfl
variable{l:List Kn}
theorem K9(h:lw l r)(hi:i<=15):0<=cG l r i:=by
 have:=(BT h.1 h.2 (show i/4<4 by omega) (show i % 4<4 by omega)).2
 rwa [show 4*(i/4)+i % 4=i by omega]at this
theorem vK(s:Sto):(cW s).length=s.fV.length:=by simp[cW]
variable{s:Sto}
theorem Cp(h:s.fV[k]?=X v):(cW s)[k]?=X (v.1,bW s.fK v.2):=by
 rw[cW,bh,h];rfl
theorem Uq{l:List (Int×Int)}(h:l.Pairwise (λu v=>u.1<v.1)){u:Int×Int}(hi:l[i]?=X u)(k:l[j]?=X v)(e:u.1=v.1):i=j:=by
 obtain⟨c,d⟩:=aC.1 hi;obtain⟨f,g⟩:=aC.1 k;have b:=pP.1 h;rcases Nat.lt_trichotomy i j with a|a|a
 ·have:=b i j c f a;rw[d,g]at this;omega
 ·exact a
 ·have:=b j i f c a;rw[d,g]at this;omega
theorem zX{l:List (Int×Int)}(h:l.Pairwise (λu v=>u.1<v.1))(a:l[j]?=X v):bw l v.1=X j:=by
 obtain⟨k,b⟩:=aa5 (aL a) rfl;obtain⟨u,c,e⟩:=om b;rw[b,Uq h c a e]
theorem JK{l:List (Int×Int)}(h:l.Pairwise (λu v=>u.1<v.1))(b:v∈l):lU l v.1=X v.2:=by
 obtain⟨i,hi,e⟩:=rg.1 b;have a:l[i]?=X v:=by rw[<-e];exact ay hi
 rw[lU,zX h a,jd,a];rfl
theorem Ki{l:List (Int×Int)}(h:∀v∈l,v.1≠id):bw l id=O:=by
 cases e:bw l id with
 |none=>rfl
 |some k=>
  obtain⟨v,b,a⟩:=om e;exact absurd a (h v (aL b))
theorem Ok(h:s.Right){L:List Int}(a:(id,L)∈cW s)(hi:i<16):X (dy s id (i:Int))=L[i]?:=by
 obtain⟨v,b,e⟩:=bZ.1 a;injection e with e1 e2
 subst e1;subst e2;rw[dy,JK h.asc b,La _ _ hi]
theorem VH{n:Sto}(h:n.Right)(c:1<=id/\id<=9)(e:n.fV.length<3)(d:∀v∈n.fV,v.1<id):
 ∃m,aX n ⟨2,id,0,0⟩=(m,iV)/\m.Right/\cW m=cW n++[(id,List.replicate 16 0)]/\m.next=n.next:=by
 have b:∀v∈n.fV,v.1≠id:=λv a=>by have:=d v a;omega
 have f:(Rc.mk 2 id 0 0).Right:=by
  unfold Rc.Right
  dsimp only
  omega
 have a:gS n.fV id (-1)=n.fV++[(id,-1)]:=by
  rw[gS,List.filter_eq_self.2 (λv a=>by simpa using d v a),mI.2 (λv a=>by have:=d v a;simp;omega)]
 refine⟨⟨gS n.fV id (-1),n.fK,n.next⟩,?_,Im h c b e (ME _) (Gg h.toNear),?_,rfl⟩
 ·rw[aX,ak ⟨(kx n).2 h,f⟩];simp only[show¬((2:Int)=1)by omega,fQ,dF,fO,Int.lt_irrefl,Ki b,ut,xp,bM]
  rw[ai (by omega)]
 ·unfold cW;show(gS n.fV id (-1)).map _=_;rw[a,gV,cB,oU,MJ]
theorem Zz{n:Sto}(h:n.Right){L:List Int}{t:List (Int×List Int)}(b:cW n=t++[(id,L)])(hi:i<=15)(l:1<=c/\c<n.next):
 ∃m,aX n ⟨4,id,(i:Int),c⟩=(m,iV)/\m.Right/\cW m=t++[(id,L.set i c)]/\m.next=n.next:=by
 have o:n.fV.length=t.length+1:=by rw[<-vK,b];simp
 have a:=ay (show t.length<n.fV.length by omega)
 generalize n.fV[t.length]=v at a;have h1:=Cp a;rw[b,cu (am _),lh]at h1;injection h1 with h1
 injection h1 with e1 e2
 subst e1;subst e2;have f:=aL a;have e:=h.ids v f;have g:=h.nx;have j:(Rc.mk 4 v.1 (i:Int) c).Right:=by
  unfold Rc.Right
  dsimp only
  omega
 obtain⟨d,k⟩:=Am h.toNear a hi (show 0<=c by omega) (show c<1000000000 by omega)
 refine⟨pD n t.length v ⟨4,v.1,(i:Int),c⟩,?_,zV d,?_,?_⟩
 ·rw[aX,ak ⟨(kx n).2 h,j⟩];simp only[show¬((4:Int)=1)by omega,show¬((4:Int)=2)by omega,show¬((4:Int)=3)by omega,fQ,zX h.asc a,a,oo]
  rw[ai (by omega)]
 ·rw[pD,yB d,k,b,jz _ _ (am _),lh];rfl
 ·show(if n.next<=c then c+1 else n.next)=n.next
  rw[ai (by omega)]
theorem yZ(s:Sto)(a b:List Rc):dY s (a++b)=(dY s a).bind (λn=>dY n b):=by
 induction a generalizing s with
 |nil=>rfl
 |cons r a c=>
  rw[ii,dY,dY];split
  ·exact c _
  ·rfl
theorem QL{m:Sto}{r:Rc}(h:aX s r=(m,iV)):dY s [r]=X m:=by
 rw[dY,h,ak rfl,dY]
theorem Ll(id:Int)(L:List Int)(k:Nat):km id L (k+1)=km id L k++(if 0<(L[k]?).getD 0 then[⟨4,id,(k:Int),(L[k]?).getD 0⟩]else[]):=by
 rw[km,km,qm,nY];congr 1;simp only[qD,wE];split
 ·rename_i h;split at h
  ·cases h
  ·rename_i h2;rw[ai h2]
 ·rename_i x h;split at h
  ·rename_i h2;injection h with h;rw[ak h2,h]
  ·cases h
theorem Pk{n:Sto}(h:n.Right){L:List Int}{t:List (Int×List Int)}(j:cW n=t++[(id,List.replicate 16 0)])(p:L.length=16)(i:∀c∈L,0<=c/\c<n.next):
 ∀k,k<=16->∃m,dY n (km id L k)=X m/\m.Right/\cW m=t++[(id,L.take k++List.replicate (16-k) 0)]/\m.next=n.next:=by
 intro k
 induction k with
 |zero=>intro _;exact⟨n,rfl,h,j,rfl⟩
 |succ k o=>
  intro q;obtain⟨m,h1,d,f,h4⟩:=o (by omega)
  have e:=ay (show k<L.length by omega)
  have l:=i _ (aL e);have a:L.take (k+1)=L.take k++[L[k]]:=by rw[ft (by omega)]
  have b:List.replicate (16-k) (0:Int)=0::List.replicate (16-(k+1)) 0:=by rw[show 16-k=(16-(k+1))+1 by omega,List.replicate_succ]
  rw[Ll,e,oo];generalize L[k]=c at l a;by_cases h0:0<c
  ·rw[ak h0,yZ,h1,jd];obtain⟨m2,g1,g2,g3,g⟩:=Zz d f (show k<=15 by omega) (show 1<=c/\c<m.next by rw[h4];omega)
   refine⟨m2,QL g1,g2,?_,g.trans h4⟩;rw[g3,b,jz _ _ (by simp;omega),cD,show k-min k L.length=0 by omega,a,fW]
   rfl
  ·rw[ai h0,dS];refine⟨m,h1,d,?_,h4⟩;have:c=0:=by omega
   subst this;rw[f,b,a,fW];rfl
theorem Yz(h:s.Right):∀k,k<=s.fV.length->∃m,dY ⟨[],[],s.next⟩ ((s.fV.take k).flatMap (qu s.fK))=X m/\m.Right/\cW m=(cW s).take k/\m.next=s.next:=by
 intro k
 induction k with
 |zero=>intro _;exact⟨⟨[],[],s.next⟩,rfl,GC h.nx,rfl,rfl⟩
 |succ k z=>
  intro H;obtain⟨m,h1,r,d,h4⟩:=z (by omega)
  have e:=ay (show k<s.fV.length by omega)
  have p:s.fV.take (k+1)=s.fV.take k++[s.fV[k]]:=by rw[ft (by omega)]
  have q:=Cp e;obtain⟨E,F⟩:=aC.1 q;have n:=aL e;have x:=pP.1 h.asc;have j:∀u∈m.fV,u.1<(s.fV[k]).1:=by
   intro u y;have:(u.1,bW m.fK u.2)∈(cW s).take k:=by rw[<-d];exact bZ.2 ⟨u,y,rfl⟩
   obtain⟨i,hi,b⟩:=rg.1 this;rw[AJ]at b;have g:i<k:=by rw[cD]at hi;omega
   simp only[cW,Cs]at b;injection b with a e4
   rw[<-a];exact x i k (by omega) (by omega) g
  have w:m.fV.length=k:=by
   rw[<-vK,d,cD,vK];omega
  have G:=h.few;generalize s.fV[k]=v at*;obtain⟨m1,g1,g2,g3,o⟩:=VH r (h.ids v n) (by omega) j
  have f:∀c∈bW s.fK v.2,0<=c/\c<m1.next:=by
   intro c t;obtain⟨i,hi,b⟩:=rg.1 t;rw[vG]at hi;have a:=La s.fK v.2 hi;rw[ay (by rw[vG];exact hi),b]at a
   injection a with a
   have tk:lw s.fK v.2:=⟨h.ar,h.root v n⟩;rw[a,mS tk (by omega),o,h4]
   exact⟨K9 tk (by omega),h.less v n i (by omega)⟩
  obtain⟨m2,A,B,C,D⟩:=Pk g2 g3 (vG _ _) f 16 (am _);refine⟨m2,?_,B,?_,by rw[D,o,h4]⟩
  ·rw[p,tj,yZ,h1,jd];show dY m (qu s.fK v++[])=_;rw[dS,qu,dY,g1,ak rfl];exact A
  ·rw[C,d,ft E,F,ci (l:=bW s.fK v.2) (by rw[vG];omega)]
   simp
theorem Va{x:Sto}(h:s.Right)(d:x.Right):∃m,dY x (iu s)=X m/\m.Right/\cW m=cW s/\m.next=s.next:=by
 obtain⟨m,h1,b,a,h4⟩:=Yz h _ (am _);rw[ci (am _)]at h1;rw[ci (by rw[vK];omega)]at a
 have f:=h.nx;have c:(Rc.mk 1 0 s.next 0).Right:=by
  unfold Rc.Right
  dsimp only
  omega
 refine⟨m,?_,b,a,h4⟩;have e:aX x ⟨1,0,s.next,0⟩=(⟨[],[],s.next⟩,iV):=by
  rw[aX,ak ⟨(kx x).2 d,c⟩,ak rfl]
  dsimp only
  rw[ai (by omega)]
 rw[iu,dY,e,ak rfl];exact h1
end Words
namespace Words
variable{y:Int}
variable{s:Sto}
theorem Ky(h:s.Right):s.fK.length<=15:=by
 have e:(List.range s.fK.length).countP (bE s.fK (cH s.fV))=s.fK.length:=LI h.used _ (am _);have c:=XO ((cH s.fV).flatMap (λr=>r.toNat::(List.range 4).map (λk=>(dQ s.fK r k).toNat))) s.fK.length (bE s.fK (cH s.fV)) (by
  intro i hi;rw[bE,re]at hi;obtain⟨r,d,a⟩:=hi;rw[mi];refine⟨r,d,?_⟩;rcases(sX (Cb a)).1 a with q|⟨k,b,q⟩
  ·rw[be];left;omega
  ·rw[be,bZ];right;exact⟨k,jX.2 b,by omega⟩)
 have g:((cH s.fV).flatMap (λr=>r.toNat::(List.range 4).map (λk=>(dQ s.fK r k).toNat))).length=5*s.fV.length:=by
  unfold cH;generalize s.fV=l
  induction l with
  |nil=>rfl
  |cons v l f=>rw[cB,nT,aI,f];simp;omega
 have:=h.few;omega
def uB(l:List Int):Prop:=l.Pairwise (λa b=>a<b)/\∀x∈l,0<x
theorem Kg{l:List Int}(h:uB l){x:Int}:y∈eV l x↔y∈l∨(0<x/\y=x):=by
 unfold eV;rw[bJ,bJ,gQ,gQ];simp only[bM];constructor
 ·rintro((q|q)|q)
  ·exact .inl q.1
  ·split at q
   ·rename_i hx;rw[bU]at q;exact .inr ⟨hx,q⟩
   ·cases q
  ·exact .inl q.1
 ·rintro(q|⟨b,c⟩)
  ·have:=h.2 y q;by_cases e:y=x
   ·subst e;rw[ak this];exact .inl (.inr (bU.2 rfl))
   ·by_cases a:y<x
    ·exact .inl (.inl ⟨q,a⟩)
    ·exact .inr ⟨q,by omega⟩
  ·subst c;rw[ak b];exact .inl (.inr (bU.2 rfl))
theorem abG{l:List Int}(h:uB l)(x:Int):uB (eV l x):=by
 refine⟨?_,λy hy=>?_⟩
 ·unfold eV;rw[fW,iE,iE];refine⟨h.1.filter _,⟨?_,h.1.filter _,?_⟩,?_⟩
  ·split
   ·exact mQ _ _
   ·exact List.Pairwise.nil
  ·intro a d b c;have e:x<b:=by simpa using(gQ.1 c).2
   split at d
   ·rw[bU]at d;omega
   ·cases d
  ·intro a d b c;have f:a<x:=by simpa using(gQ.1 d).2
   rcases bJ.1 c with c|c
   ·split at c
    ·rw[bU]at c;omega
    ·cases c
   ·have e:x<b:=by simpa using(gQ.1 c).2
    omega
 ·rcases(Kg h).1 hy with q|⟨g,i⟩
  ·exact h.2 y q
  ·omega
theorem Nt{l:List Int}(h:uB l)(L:List Int):uB (L.foldl eV l)/\∀y,y∈L.foldl eV l↔y∈l∨(0<y/\y∈L):=by
 induction L generalizing l with
 |nil=>exact⟨h,λy=>by simp⟩
 |cons x L d=>
  obtain⟨h1,c⟩:=d (abG h x);refine⟨h1,λy=>?_⟩
  rw[nN,c,Kg h,be];constructor
  ·rintro((q|⟨b,a⟩)|⟨b,a⟩)
   ·exact .inl q
   ·subst a;exact .inr ⟨b,.inl rfl⟩
   ·exact .inr ⟨b,.inr a⟩
  ·rintro(q|⟨b,a|a⟩)
   ·exact .inl (.inl q)
   ·subst a;exact .inl (.inr ⟨b,rfl⟩)
   ·exact .inr ⟨b,a⟩
def rH(s:Sto):List Int:=s.fV.flatMap (λv=>bW s.fK v.2)
theorem DS(s:Sto):aY s=(rH s).foldl eV []:=by
 unfold aY rH;generalize([]:List Int)=acc;generalize s.fV=l
 induction l generalizing acc with
 |nil=>rfl
 |cons v l a=>rw[nN,a,nT,sQ]
theorem qC(s:Sto)(y:Int):y∈aY s↔0<y/\y∈rH s:=by
 rw[DS,(Nt ⟨List.Pairwise.nil,λ_ h=>by cases h⟩ _).2]
 simp
end Words
namespace Words
variable{s:Sto}
theorem ZV(h:s.Right)(r a c:Int):∀x∈gN s.fK r a c,x.fD.length<=1048576:=by
 have fi:∀l:List Kn,cj l=iV->∀x∈l,x.fD.length<=1048576:=λl f x g=>by
  obtain⟨i,hi,e⟩:=rg.1 g;have:=mR (lR f (i:=i) (x:=x) (by rw[<-e];exact ay hi))
  omega
 unfold gN;split
 ·rename_i hp
  rw[lW,jJ]at hp;simp only[bu,bM]at hp;obtain⟨⟨⟨h1,b⟩,j,h4⟩,d⟩:=hp;exact fi _ (Bb h1 b (by omega) d)
 ·exact fi _ h.ar
end Words
namespace Words
variable{v:Int × Int}
variable{s:Sto}
theorem q9{r:Rc}(h:(aX s r).2=iF):(aX s r).1=s:=by
 unfold aX fO at h⊢;split
 ·rename_i hb
  rw[ak hb]at h;split
  ·rename_i h1
   rw[ak h1]at h;cases h
  ·rename_i h1
   rw[ai h1]at h;split
   ·rename_i h2
    rw[ak h2]at h;split
    ·rfl
    ·rename_i q hq
     rw[hq]at h;simp only at h;split
     ·rfl
     ·rename_i h3
      rw[ai h3]at h;cases h
   ·rename_i h2
    rw[ai h2]at h;cases a:bw s.fV r.vol with
    |none=>rfl
    |some k=>
     rw[a]at h;simp only at h⊢;split
     ·rfl
     ·rename_i h3
      rw[ai h3]at h;split
      ·rename_i h4
       rw[ak h4]at h;cases h
      ·rename_i h4
       rw[ai h4]at h;cases h
 ·rfl
theorem nO{r:Rc}(h:(aX s r).2=iV):s.Right/\r.Right:=by
 unfold aX at h;split at h
 ·rename_i hb
  exact⟨(kx s).1 hb.1,hb.2⟩
 ·cases h
theorem Ml{r:Rc}(h:(aX s r).2=iV)(b:r.kind=1):(aX s r).1.fV=[]:=by
 have a:=nO h;rw[aX,ak ⟨(kx s).2 a.1,a.2⟩,ak b]
theorem Hj(h:v∈s.fV):(v.1,bW s.fK v.2)∈cW s:=bZ.2 ⟨v,h,rfl⟩
theorem rZ{r:Rc}(h:(aX s r).2=iV)(u:r.kind=4∨r.kind=5):∃k v,s.fV[k]?=X v/\v.1=r.vol/\0<=r.arg/\r.arg<=15/\0<=r.fC/\(r.kind=5->r.fC=0)/\
 cW (aX s r).1=(cW s).set k (v.1,(bW s.fK v.2).set r.arg.toNat r.fC)/\(aX s r).1.next=(if s.next<=r.fC then r.fC+1 else s.next)/\(aX s r).1.fK.length<=s.fK.length+2:=by
 obtain⟨hs,l⟩:=nO h;have f:=l;unfold Rc.Right at f;have d:=(kx s).2 hs;have o:¬r.kind=1:=by omega
 have p:¬r.kind=2:=by omega
 have q:¬r.kind=3:=by omega
 rw[aX,ak ⟨d,l⟩,ai o,ai p]at h⊢;cases b:bw s.fV r.vol with
 |none=>rw[b]at h;cases h
 |some k=>
  rw[b]at h;simp only at h⊢;by_cases i:r.fC=1000000000
  ·rw[ak i]at h;cases h
  ·rw[ai i,ai q];obtain⟨v,a,e⟩:=om b;rw[a,oo];have hi:r.arg.toNat<=15:=by omega
   obtain⟨g,m⟩:=Am hs.toNear a (c:=r.fC) hi (by omega) (by omega)
   have t:lw s.fK v.2:=⟨hs.ar,hs.root v (aL a)⟩;have j:=(Em (n:=r.fC) t hi (by omega)).1
   rw[show((r.arg.toNat:Nat):Int)=r.arg by omega]at g m j
   refine⟨k,v,a,e,by omega,by omega,by omega,by omega,?_,rfl,?_⟩
   ·show cW (pD s k v r)=_;rw[pD,yB g,m]
   ·show(pD s k v r).fK.length<=_;rw[pD,sC g];refine bV aaL ?_;show(gN s.fK v.2 r.arg r.fC).length<=_;rw[j,pt];simp
theorem XG{r:Rc}(h:(aX s r).2=iV)(d:r.kind=4∨r.kind=5):dy (aX s r).1 r.vol r.arg=r.fC/\r.fC<(aX s r).1.next/\s.next<=(aX s r).1.next:=by
 obtain⟨k,v,l,a,h0,b,m,-,j,g,-⟩:=rZ h d;have c:=yf (nO h).1 r;have e:=(aC.1 l).1;have f:(v.1,(bW s.fK v.2).set r.arg.toNat r.fC)∈cW (aX s r).1:=by
  rw[j];exact D8.2 ⟨k,by rw[mq (by rw[vK];exact e)]⟩
 have:=Ok c f (i:=r.arg.toNat) (by omega)
 rw[show((r.arg.toNat:Nat):Int)=r.arg by omega,a,mq (by rw[vG];omega)]at this
 injection this with this
 refine⟨this,?_,?_⟩<;>rw[g]<;>split<;>omega
theorem tY{r:Rc}(h:(aX s r).2=iV)(d:r.kind=2):∃q,(aX s r).1=⟨gS s.fV r.vol q,s.fK,s.next⟩/\(∀v∈s.fV,v.1≠r.vol)/\s.fV.length<3/\(0<r.arg->(r.arg,q)∈s.fV)/\(¬0<r.arg->q= -1):=by
 obtain⟨hs,e⟩:=nO h;have c:=(kx s).2 hs;rw[aX,ak ⟨c,e⟩,ai (by omega),ak d,fO]at h⊢
 have f:=hs.few;split at h
 ·cases h
 ·rename_i q hq
  by_cases a:((bw s.fV r.vol).isSome||decide (s.fV.length=3))=iV
  ·rw[ak a]at h;cases h
  ·rw[ai a];simp only[ky,bM,tL,Bool.not_eq_true,Kf,xt]at a;refine⟨q,rfl,Aq a.1,by omega,λb=>?_,λb=>?_⟩
   ·rw[ak b]at hq;exact Mh hq
   ·rw[ai b]at hq;injection hq with hq
    exact hq.symm
theorem PY(h:s.Near)(a:v∈(hO s).fV):∃u∈s.fV,u.1=v.1:=by
 rw[qH h]at a;obtain⟨u,b,rfl⟩:=bZ.1 a;exact⟨u,b,rfl⟩
theorem Iv(h:s.Right)(r:Rc):∀v∈(aX s r).1.fV,v.1=r.vol∨∃u∈s.fV,u.1=v.1:=by
 cases a:(aX s r).2 with
 |false=>rw[q9 a];exact λv b=> .inr ⟨v,b,rfl⟩
 |true=>
  have l:=(nO a).2;have f:=l;unfold Rc.Right at f;by_cases m:r.kind=1
  ·rw[Ml a m];intro v b;exact(eI b).elim
  by_cases n:r.kind=2
  ·obtain⟨q,e,-⟩:=tY a n;rw[e];intro v b;rcases sP b with e|e
   ·rw[e];exact .inl rfl
   ·exact .inr ⟨v,e,rfl⟩
  by_cases t:r.kind=3
  ·rw[aX,ak ⟨(kx s).2 h,l⟩,ai m,ai n]at a⊢;cases i:bw s.fV r.vol with
   |none=>rw[i]at a;cases a
   |some k=>
    rw[i]at a;simp only at a⊢;by_cases j:r.fC=1000000000
    ·rw[ak j]at a;cases a
    ·rw[ai j,ak t];intro v b;obtain⟨u,g,e⟩:=PY (y8 h.toNear k) b;refine .inr ⟨u,?_,e⟩;rcases bJ.1 g with q|q
     ·exact wU q
     ·exact DK q
  ·obtain⟨k,v,b,d,-,-,-,-,o,-⟩:=rZ a (by omega)
   intro u g;have:=Hj g;rw[o]at this;rcases nG this with e|e
   ·obtain⟨x,p,c⟩:=bZ.1 e;injection c with c _
    exact .inr ⟨x,p,c⟩
   ·injection e with e _
    exact .inl (by rw[e,d])
theorem abX(r:Rc)(j:r.kind≠1):(aX s r).1.next=s.next∨(aX s r).1.next=r.fC+1:=by
 cases a:(aX s r).2 with
 |false=>rw[q9 a];exact .inl rfl
 |true=>
  obtain⟨h,f⟩:=nO a;have b:=f;unfold Rc.Right at b;by_cases g:r.kind=2
  ·obtain⟨q,e,-⟩:=tY a g;rw[e];exact .inl rfl
  by_cases m:r.kind=3
  ·rw[aX,ak ⟨(kx s).2 h,f⟩,ai j,ai g]at a⊢;cases c:bw s.fV r.vol with
   |none=>rw[c]at a;cases a
   |some k=>
    rw[c]at a;simp only at a⊢;by_cases d:r.fC=1000000000
    ·rw[ak d]at a;cases a
    ·rw[ai d,ak m];exact .inl rfl
  ·obtain⟨k,v,n,i,-,-,-,-,-,l,-⟩:=rZ a (by omega)
   rw[l];split
   ·exact .inr rfl
   ·exact .inl rfl
theorem QJ(s:Sto)(r:Rc):jy s [r]=aX s r:=by
 rw[jy,dY];cases a:(aX s r).2 with
 |false=>
  rw[ai (by decide)]
  simp only;exact qE (q9 a).symm a.symm
 |true=>rw[ak rfl,dY];simp only;rw[<-a]
theorem YO{m:Sto}(h:s.Right):∀{l:List Rc},dY s l=X m->m.Right:=by
 intro l
 induction l generalizing s with
 |nil=>intro e;injection e with e;rw[<-e];exact h
 |cons r l a=>
  intro e;rw[dY]at e;split at e
  ·exact a (yf h r) e
  ·cases e
end Words
open Words Sums Pack
structure Dv where
 fH:List Bk
 fS:Sto
 seq:Int
 tx:Int
 base:Int
def gM(M:List an):Int:=M.foldl (λs x=>if s<=x.fP.seq then x.fP.seq+1 else s) 1
def gy(M:List an):Int:=M.foldl (λs x=>if x.fP.kind=2/\s<=x.fP.tx then x.fP.tx+1 else s) 1
def cO(M:List an):List TxR:=kg (dM (M.map an.fP))
def fx(T:List TxR):Sto:=T.foldl (λs t=>(jy s t.fR).1) ik
def mx:List TxR->Int
 | []=>0
 |t::_=>t.num
def jU(bs:List Bk):Dv:=⟨bs,fx (cO (au bs)),gM (au bs),gy (au bs),mx (cO (au bs))⟩
def tN:Dv:=⟨[],⟨[],[],0⟩,0,0,0⟩
def fw(bs:List Bk):Dv×Bool:=if bp bs then(jU bs,iV)else(tN,iF)
def mG(d:Dv):Bool:=(fw d.fH).2&&rV (fw d.fH).1.fS d.fS&&decide ((fw d.fH).1.seq=d.seq)&&decide ((fw d.fH).1.tx=d.tx)&&decide ((fw d.fH).1.base=d.base)&&dl d.fS
def lp(p:Pg):ByteArray×Bool:=letI:=p.decR;if p.Right then(cY (dV p),iV)else(⟨#[]⟩,iF)
def cM(bs:List Bk)(l:List aM)(p:Pg):List Bk×List aM×Bool:=
 if (lp p).2&&(fZ bs).2.2 then((cV bs (1,(fZ bs).1,(fZ bs).2.1,(lp p).1)).1,l++[(1,(fZ bs).1,(fZ bs).2.1,(lp p).1)],(cV bs (1,(fZ bs).1,(fZ bs).2.1,(lp p).1)).2)else(bs,l,iF)
def eO:List Bk×List aM×Bool->List Pg->List Bk×List aM×Bool
 |s,[]=>s
 |s,p::ps=>if s.2.2 then eO (cM s.1 s.2.1 p) ps else s
def pG(l:List Rc):Int:=(l.getLast?.map Rc.fC).getD 0
def kW(seq c:Int)(t:ByteArray):Pg:=⟨1,seq,c,0,1,t⟩
def jB(d:Dv)(l:List Rc)(t:ByteArray):List Bk×List aM×Bool:=if t.size=0 then(d.fH,[],iV)else cM d.fH [] (kW d.seq (pG l) t)
def eG(d:Dv)(t:ByteArray):Int:=if t.size=0 then d.seq else d.seq+1
def ez(d:Dv)(l:List Rc)(t:ByteArray):List aM×Bool:=
 if l.length=0 then([],iV)
 else if (eO (jB d l t) (kj (eG d t) d.tx l)).2.2&& @decide (ja (eG d t) d.tx l) (nh (eG d t) d.tx l)then((eO (jB d l t) (kj (eG d t) d.tx l)).2.1,iV)else([],iF)
def fY(d:Dv)(l:List aM):Dv:=(fw (de d.fH l).1).1
structure Up (d:Dv):Prop where
 ok:bp d.fH=iV
 is:d=jU d.fH
theorem MV(M:List an):∀x∈M,x.fP.seq<gM M:=by
 have h:∀(L:List an) (s:Int),s<=L.foldl (λs x=>if s<=x.fP.seq then x.fP.seq+1 else s) s/\∀x∈L,x.fP.seq<L.foldl (λs x=>if s<=x.fP.seq then x.fP.seq+1 else s) s:=by
  intro L
  induction L with
  |nil=>intro s;exact⟨kI _,λx a=>by cases a⟩
  |cons y L c=>
   intro s;rw[nN];obtain⟨h1,b⟩:=c (if s<=y.fP.seq then y.fP.seq+1 else s)
   have d:s<=(if s<=y.fP.seq then y.fP.seq+1 else s)/\y.fP.seq<(if s<=y.fP.seq then y.fP.seq+1 else s):=by split<;>omega
   refine⟨?_,λx a=>?_⟩
   ·omega
   ·rcases be.1 a with e|e
    ·subst e;omega
    ·exact b x e
 exact(h M 1).2
theorem AF(M:List an):∀x∈M,x.fP.kind=2->x.fP.tx<gy M:=by
 have h:∀(L:List an) (s:Int),s<=L.foldl (λs x=>if x.fP.kind=2/\s<=x.fP.tx then x.fP.tx+1 else s) s/\∀x∈L,x.fP.kind=2->x.fP.tx<L.foldl (λs x=>if x.fP.kind=2/\s<=x.fP.tx then x.fP.tx+1 else s) s:=by
  intro L
  induction L with
  |nil=>intro s;exact⟨kI _,λx a=>by cases a⟩
  |cons y L f=>
   intro s;rw[nN];obtain⟨h1,c⟩:=f (if y.fP.kind=2/\s<=y.fP.tx then y.fP.tx+1 else s)
   have d:s<=(if y.fP.kind=2/\s<=y.fP.tx then y.fP.tx+1 else s)/\(y.fP.kind=2->y.fP.tx<(if y.fP.kind=2/\s<=y.fP.tx then y.fP.tx+1 else s)):=by split<;>omega
   refine⟨?_,λx a b=>?_⟩
   ·omega
   ·rcases be.1 a with e|e
    ·subst e;have:=d.2 b;omega
    ·exact c x e b
 exact(h M 1).2
variable{α:Type}{t:ByteArray}{y c:Int}{ls:List (Int × ByteArray)}{live:List Int}{T:List UInt8 -> Prop}{k n i j m B cap g z lo size hi' B':Nat}{e:TypeId}
variable{bs:List Bk}
theorem vR(h:bp bs=iV):∀b∈bs,b.2.2.length=4:=by
 intro b c;have h1:=h;unfold bp at h1;rw[bu,gY]at h1;have a:=h1.2 b c;unfold dw at a;rw[bu,tw]at a;exact a.1.1
variable{p:Pg}
theorem abQ{l:List aM}(a:bp bs=iV)(h:(cM bs l p).2.2=iV):
 p.Right/\∃(k:Nat) (b:Bk) (s:aM),bs[k]?=X b/\b.1=iF/\br b.2.2<4/\(∃u,b.2.2[br b.2.2]?=X u/\u.1=0)/\s=(1,(k:Int),((br b.2.2:Nat):Int),cY (dV p))/\cV bs s=(jZ bs k (br b.2.2) (cY (dV p)),iV)/\cM bs l p=(jZ bs k (br b.2.2) (cY (dV p)),l++[s],iV):=by
 unfold cM at h;by_cases f:p.Right
 ·have c:lp p=(cY (dV p),iV):=by unfold lp;rw[ak f]
  rw[c]at h;rcases QP a (vR a)with⟨e,-⟩|⟨k,b,m,h1,i,j,e,-,-⟩
  ·rw[e]at h;simp at h
  ·refine⟨f,k,b,_,m,h1,i,j,rfl,?_⟩;rw[e]at h;simp only[gU,dF]at h;have g:cV bs (1,(k:Int),((br b.2.2:Nat):Int),cY (dV p))=(jZ bs k (br b.2.2) (cY (dV p)),iV):=by
    have d:(cV bs (1,(k:Int),((br b.2.2:Nat):Int),cY (dV p))).2=iV:=h;unfold cV gI at d⊢;simp only[dF]at d⊢;split at d
    ·rename_i hq
     rw[ak hq,bi,bi]
    ·cases d
   refine⟨g,?_⟩;unfold cM;rw[c,e];simp only[gU,dF];rw[g]
 ·have c:lp p=(⟨#[]⟩,iF):=by unfold lp;rw[ai f]
  rw[c]at h;simp at h
theorem Gy{u:Int×ByteArray}(d:ls[k]?=X u)(h0:u.1=0):br ls<=k:=by
 obtain⟨h1,c⟩:=aC.1 d;have h:ls.findIdx (λt=>t.1==0)<=k:=Nat.le_of_not_lt (λa=>by
  have b:=Lp a;rw[c]at b;simp[h0]at b)
 simp only[br];rw[ak (by omega)]
 exact h
theorem YA(h4:ls.length<=4)(d:k<ls.length)(a:br ls<k):∃u,ls[br ls]?=X u/\u.1=0:=by
 have h:ls.findIdx (λt=>t.1==0)<ls.length:=Nat.lt_of_not_le (λc=>by
  simp only[br]at a;rw[ai (by omega)]at a
  omega)
 have e:br ls=ls.findIdx (λt=>t.1==0):=by simp only[br];rw[ak h]
 have b:=Cd (w:=h);refine⟨ls[ls.findIdx (λt=>t.1==0)],by rw[e];exact ay h,by simpa using b⟩
theorem Pz(h:∀k,k<ls.length->iw ls k=iV){u:Int×ByteArray}(f:ls[n]?=X u)(h0:u.1=0)(d:Nat):∀t,ls[n+d]?=X t->t.1=0:=by
 induction d with
 |zero=>
  intro t a;rw[qT,f]at a;cases a;exact h0
 |succ d i=>
  intro t a;have c:=(aC.1 a).1;have b:ls[n+d]?=X ls[n+d]:=ay (by omega)
  have g:=i _ b;cases Au (t.1=0)with
  |inl e=>exact e
  |inr e=>
   have:=M8 (k:=n+d) a b g e;rw[show n+d+1=n+(d+1)from rfl,h _ c]at this;cases this
theorem abM{b:Bk}{t:Int×ByteArray}(h4:b.2.2.length=4)(e:b.2.2[k]?=X t)(f:br b.2.2<k)(h:t.1≠0):dw b=iF:=by
 cases d:dw b with
 |false=>rfl
 |true=>
  have c:=(aC.1 e).1;simp only[dw,bu]at d;have a:∀k,k<b.2.2.length->iw b.2.2 k=iV:=λk c=>gY.1 d.2 k (jX.2 c)
  obtain⟨u,g,h0⟩:=YA (by omega) c f
  exact absurd (Pz a g h0 (k-br b.2.2) t (by rw[show br b.2.2+(k-br b.2.2)=k by omega];exact e)) h
theorem JZ{b:Bk}(h4:b.2.2.length=4)(f:0<=b.2.1/\b.2.1<=1000000000)(h:∀k t,b.2.2[k]?=X t->gZ t=iV/\(br b.2.2<k->t.1=0)):dw b=iV:=by
 refine MX h4 f (λk d=>?_)
 have a:b.2.2[k]?=X b.2.2[k]:=ay d;generalize b.2.2[k]=t at a;cases k with
 |zero=>exact Fs a (h 0 t a).1
 |succ k=>
  have c:b.2.2[k]?=X b.2.2[k]:=ay (by omega)
  generalize b.2.2[k]=u at c;refine Kc a c (h _ t a).1 ?_;cases Au (u.1=0)with
  |inr e=>exact Or.inl e
  |inl e=>exact Or.inr ((h _ t a).2 (by have:=Gy c e;omega))
theorem ym{b:Bk}(h:dw b=iV):b.2.2.length=4/\(0<=b.2.1/\b.2.1<=1000000000)/\∀k t,b.2.2[k]?=X t->gZ t=iV/\(br b.2.2<k->t.1=0):=by
 have h0:=h;simp only[dw,bu,bM]at h;refine⟨h.1.1,h.1.2,λk t a=>?_⟩
 have d:=(aC.1 a).1;have c:=gY.1 h.2 k (jX.2 d);refine⟨?_,λf=>?_⟩
 ·cases g:gZ t with
  |true=>rfl
  |false=>
   rw[Iq a g]at c;cases c
 ·cases Au (t.1=0)with
  |inl e=>exact e
  |inr e=>
   rw[abM h.1.1 a f e]at h0;cases h0
theorem xU(h:bp bs=iV):(3<=bs.length/\bs.length<=10)/\∀b∈bs,dw b=iV:=by
 simp only[bp,bu,gY,bM]at h;exact h
theorem Lu(h1:3<=bs.length/\bs.length<=10)(a:∀b∈bs,dw b=iV):bp bs=iV:=by
 rw[Kz a];exact aS h1
theorem YF{u:Int×ByteArray}(a:ls[i]?=X u)(hi:i<br ls):u.1≠0:=by
 intro h0;have:=Gy a h0;omega
theorem Td{b:Bk}(h:dw b=iV)(f:br b.2.2<4)(z:Int)(t:ByteArray)(k:z≠0):br (b.2.2.set (br b.2.2) (z,t))=br b.2.2+1:=by
 obtain⟨h4,-,d⟩:=ym h;generalize l:br b.2.2=j at f;have c:∀(i:Nat) (u:Int×ByteArray),i<j+1->(b.2.2.set j (z,t))[i]?=X u->u.1≠0:=by
  intro i u hi a;by_cases e:j=i
  ·subst e;rw[mq (by omega)]at a
   cases a;exact k
  ·rw[oZ e]at a;exact YF a (by omega)
 by_cases g:j+1<4
 ·have a:b.2.2[j+1]?=X b.2.2[j+1]:=ay (by omega)
  refine Cj (t:=b.2.2[j+1]) (by rw[oZ (by omega)];exact a) ((d (j+1) _ a).2 (by omega)) c
 ·rw[Me (λi u a=>c i u (by have:=(aC.1 a).1;rw[gK]at this;omega) a)]
  omega
theorem aaz{b:Bk}(h:dw b=iV)(f:br b.2.2<4)(z:Int)(t:ByteArray)(j:z≠0)(g:gZ (z,t)=iV):dw (b.1,b.2.1,b.2.2.set (br b.2.2) (z,t))=iV:=by
 obtain⟨h4,i,c⟩:=ym h;refine JZ (by simpa using h4) i (λk u a=>?_)
 simp only at a⊢;rw[Td h f z t j];by_cases e:br b.2.2=k
 ·subst e;rw[mq (by omega)]at a
  cases a;exact⟨g,λd=>by omega⟩
 ·rw[oZ e]at a;exact⟨(c k u a).1,λd=>(c k u a).2 (by omega)⟩
variable{f:Bk -> Bk}
theorem Ma(h:bp bs=iV)(g:∀r,bs[k]?=X r->dw (f r)=iV):bp (bs.modify k f)=iV:=by
 obtain⟨h1,d⟩:=xU h;refine Lu (by rw[wD];exact h1) (λb c=>?_)
 obtain⟨i,hi,rfl⟩:=pw c;have a:(bs.modify k f)[i]?=X (bs.modify k f)[i]:=ay hi;generalize(bs.modify k f)[i]=x at a;rw[rp]at a;cases c:bs[i]? with
 |none=>rw[c]at a;cases a
 |some r=>
  rw[c]at a;by_cases e:k=i
  ·subst e;simp at a;subst a;exact g r c
  ·simp[e]at a;subst a;exact d _ (aL c)
theorem Lx(x:Bool)(y:Int)(hy:0<=y/\y<=1000000000):dw (x,y,eZ)=iV:=by
 refine JZ rfl hy (λk t b=>?_)
 have a:t∈eZ:=aL b;have e:t=(0,⟨#[]⟩):=by
  simp only[eZ,be,eI,eX,or_self]at a;exact a
 subst e;exact⟨rfl,λ_=>rfl⟩
def Right(n:Int)(bs:List Bk):Prop:=bp bs=iV/\∀r∈bs,r.2.1<=n
theorem VR{x:Bk}(h:x∈bs.modify k f):x∈bs∨∃r,bs[k]?=X r/\x=f r:=by
 obtain⟨i,hi,rfl⟩:=pw h;have a:(bs.modify k f)[i]?=X (bs.modify k f)[i]:=ay hi;generalize(bs.modify k f)[i]=x at a;rw[rp]at a;cases b:bs[i]? with
 |none=>rw[b]at a;cases a
 |some r=>
  rw[b]at a;by_cases e:k=i
  ·subst e;simp at a;subst a;exact Or.inr ⟨r,b,rfl⟩
  ·simp[e]at a;subst a;exact Or.inl (aL b)
theorem Right.new{n:Int}(h:3<=n/\n<=10):Right 0 (gR n):=by
 unfold gR;rw[ak h];refine⟨Lu (by rw[Ew];omega) (λb a=>?_),λr c=>?_⟩
 ·rw[(Fk.1 a).2];exact Lx _ _ (by omega)
 ·rw[(Fk.1 c).2];exact kI _
theorem Right.prog{n:Int}(h:Right n bs)(b leaf:Int)(t:ByteArray):Right n (gI bs b leaf t).1:=by
 unfold gI;split
 ·rename_i hh
  rw[bu]at hh;have c:=hh.2;unfold jb at c;cases d:bs[b.toNat]? with
  |none=>rw[d]at c;cases c
  |some r=>
   rw[d]at c;obtain⟨h0,m,j,k,f,g⟩:=ri c;have i:leaf.toNat=br r.2.2:=by omega
   have e:gZ (1,t)=iV:=aS (Or.inr (Or.inl ⟨rfl,f,g⟩));refine⟨Ma h.1 (λq a=>?_),λq a=>?_⟩
   ·rw[d]at a;cases a;rw[i];exact aaz ((xU h.1).2 r (aL d)) (by omega) 1 t (by omega) e
   ·rcases VR a with a|⟨x,l,rfl⟩
    ·exact h.2 q a
    ·exact h.2 x (aL l)
 ·exact h
theorem Pc(h:bp bs=iV):Right 1000000000 bs:=⟨h,λr a=>(ym ((xU h).2 r a)).2.1.2⟩
theorem Zo(h:bp bs=iV)(b l:Int)(t:ByteArray):bp (gI bs b l t).1=iV:=((Pc h).prog b l t).1
theorem WC{b:Bk}{u:Int×ByteArray}(a:bs[k]?=X b)(c:b.2.2[j]?=X u)(h0:u.1=0):dP bs k j=O:=by
 unfold dP;have:(du bs (k:Int) (j:Int)).2=iF:=by
  unfold du;rw[bi,a];simp only[bi,c];simp[h0]
 rw[this];rfl
theorem AA{l:List aM}(a:bp bs=iV)(w:∀y∈au bs,y.key<p.seq)(h:(cM bs l p).2.2=iV):
 ∃(cs:List Bk) (s:aM) (x:an),cM bs l p=(cs,l++[s],iV)/\cV bs s=(cs,iV)/\bp cs=iV/\x.fP=p/\p.Right/\au cs=au bs++[x]/\x.block=s.2.1/\s.1=1/\cP cs+1=cP bs:=by
 obtain⟨o,k,b,s,f,h1,t,⟨u,q,e⟩,hs,g,A⟩:=abQ a h;have d:1<=(cY (dV p)).size/\(cY (dV p)).size<=120:=by
  have n:(cV bs s).2=iV:=by rw[g]
  obtain⟨C,r,B,-,-,-,v⟩:=Yu n;obtain⟨j,-,-,-,m,c⟩:=v.1 (by rw[hs])
  rw[hs]at m c;exact⟨m,c⟩
 have z:br b.2.2<b.2.2.length:=by rw[vR a b (aL f)];omega
 refine⟨_,s,⟨(k:Int),((br b.2.2:Nat):Int),p⟩,A,g,?_,rfl,o,?_,by rw[hs],by rw[hs],?_⟩
 ·have n:(cV bs s).2=iV:=by rw[g]
  have c:=Zo a s.2.1 s.2.2.1 s.2.2.2;have i:cV bs s=gI bs s.2.1 s.2.2.1 s.2.2.2:=by unfold cV;rw[ak (by rw[hs])]
  rw[<-i,g]at c;exact c
 ·exact Zl f z (WC f q e) (Sa p o) w
 ·exact(abw a f h1 t ⟨u,q,e⟩ d.1 d.2).2
def lE(x:Int)(p:Pg):Bool:=decide (p.kind=2/\p.tx=x)
theorem Gl{l m:List α}{P Q:α->Bool}(h:l.filter Q=m.filter Q)(b:∀x,P x=iV->Q x=iV):l.find? P=m.find? P:=by
 have e:∀k:List α,k.find? P=(k.filter Q).find? P:=λk=>by
  rw[List.find?_filter];congr 1;funext x;cases a:P x with
  |false=>simp
  |true=>simp[b x a]
 rw[e l,e m,h]
variable{ps:List Pg}
theorem zw{qs:List Pg}{x:Int}(h:ps.filter (lE x)=qs.filter (lE x)):dx ps x=dx qs x:=by
 have h0:qI ps x=qI qs x:=Gl h (λp a=>by simp only[bM]at a;simp[lE,a.1,a.2.1])
 have b:∀k c,rC ps x k c=rC qs x k c:=λk c=>Gl h (λp a=>by simp only[bM]at a;simp[lE,a.1,a.2.1])
 have d:∀(c:Int) (n k:Nat),jH ps x c n k=jH qs x c n k:=by
  intro c n
  induction n with
  |zero=>intro k;rfl
  |succ n e=>intro k;simp only[jH,b,e]
 unfold dx kH;rw[h0];cases qI qs x with
 |none=>rfl
 |some p=>simp only[d]
theorem yA{x:Int}(h:∀p∈ps,p.kind=2->p.tx≠x):ps.filter (lE x)=[]:=by
 rw[mI];intro p a;simp only[lE,bM];exact λq=>h p a q.1 q.2
theorem Ux{x:Int}(h:∀p∈ps,p.kind=2->p.tx≠x):dx ps x=O:=by
 rw[zw (qs:=[]) (by rw[yA h];rfl)]
 rfl
theorem Gh{ns:List Int}(f:ns.Pairwise (·<·))(h:∀p∈ps,p.kind=2->p.tx∈ns):dM ps=ns.filterMap (dx ps):=by
 have d:ns.filterMap (dx ps)=(ns.filter λx=>decide (x∈dA ps)).filterMap (dx ps):=by
  rw[I6];apply oL;intro x _;by_cases a:x∈dA ps
  ·simp[a]
  ·simp only[a,oQ,ge,fQ];refine Ux (λp c b e=>a ?_)
   exact(rj ps x).2 ⟨p,c,b,e⟩
 unfold dM;rw[d];congr 1;refine GE (rG ps) (f.sublist wV) (λx=>?_)
 rw[gQ,bM];constructor
 ·intro a;obtain⟨p,c,b,e⟩:=(rj ps x).1 a;exact⟨e▸h p c b,a⟩
 ·exact λa=>a.2
theorem JO(b:p∈ps)(a:p.kind=2):p.tx∈dA ps:=(rj ps p.tx).2 ⟨p,b,a,rfl⟩
theorem Xi{h:List Pg}{seq tx:Int}{l:List Rc}(s:∀r∈l,r.Right)(k:∀p∈h,p.kind≠2)(n:∀p∈ps,p.kind=2->p.tx<tx):dM (ps++h++co seq tx l)=dM ps++[⟨tx,seq,l⟩]:=by
 have j:∀p∈co seq tx l,p.kind=2/\p.tx=tx:=λp c=>by
  obtain⟨i,-,-,-,h4,o,-⟩:=zB c;exact⟨h4,o⟩
 have g:∀x∈dA ps,x<tx:=λx d=>by
  obtain⟨p,c,f,e⟩:=(rj ps x).1 d;exact e▸n p c f
 rw[Gh (ns:=dA ps++[tx])]
 ·rw[nY];congr 1
  ·apply oL;intro x d;apply zw;have t:=g x d;rw[jF,jF,yA (ps:=h) (λp c f=>absurd f (k p c)),yA (ps:=co seq tx l) (λp c _ e=>by have:=(j p c).2;omega)]
   simp
  ·have:dx (ps++h++co seq tx l) tx=X ⟨tx,seq,l⟩:=by
    refine Qk s (λx=>?_)
    constructor
    ·rintro⟨d,f,e⟩;rcases bJ.1 d with d|d
     ·rcases bJ.1 d with d|d
      ·have:=n x d f;omega
      ·exact absurd f (k x d)
     ·exact d
    ·intro d;exact⟨wK _ d,j x d⟩
   rw[qD,this];rfl
 ·refine iE.2 ⟨rG ps,mQ _ _,?_⟩;intro a q b m;rw[bU]at m;subst m;exact g a q
 ·intro p c f;rcases bJ.1 c with c|c
  ·rcases bJ.1 c with c|c
   ·exact sy _ (JO c f)
   ·exact absurd f (k p c)
  ·rw[(j p c).2];simp
theorem aaP{b:List Pg}(d:∀p∈b,p.kind≠2):dM (ps++b)=dM ps:=by
 rw[Gh (ps:=ps++b) (ns:=dA ps) (rG ps) (λp a c=>by
  rcases bJ.1 a with a|a
  ·exact JO a c
  ·exact absurd c (d p a))]
 unfold dM;apply oL;intro x _;apply zw;rw[jF,yA (ps:=b) (λp a c=>absurd c (d p a)),dS]
theorem He{x:Int}{t:TxR}(h:dx ps x=X t):t.num=x:=by
 unfold dx at h;cases a:kH ps x with
 |none=>rw[a]at h;cases h
 |some l=>
  rw[a]at h;simp only at h;cases b:fR (lD l).data.toList 0 with
  |none=>rw[b]at h;cases h
  |some rs=>rw[b]at h;cases h;rfl
theorem DM{t:TxR}(h:t∈dM ps):∃p∈ps,p.kind=2/\p.tx=t.num:=by
 obtain⟨x,d,e⟩:=tU.1 h;obtain⟨p,c,b,a⟩:=(rj ps x).1 d;exact⟨p,c,b,by rw[a,He e]⟩
theorem Ws{qs:List Pg}(b:Int)(h:∀x,b<=x->ps.filter (lE x)=qs.filter (lE x)):(dM ps).filter (λt=>decide (b<=t.num))=(dM qs).filter (λt=>decide (b<=t.num)):=by
 have e:∀rs:List Pg,(dM rs).filter (λt=>decide (b<=t.num))=((dA rs).filter (λx=>decide (b<=x))).filterMap (dx rs):=λrs=>by
  unfold dM;rw[Km,I6];apply oL;intro x _;cases m:dx rs x with
  |none=>simp[Option.filter]
  |some t=>
   have:=He m;by_cases d:b<=x
   ·simp[Option.filter,this,d]
   ·simp[Option.filter,this,d]
 have c:∀{rs f:List Pg},(∀x,b<=x->rs.filter (lE x)=f.filter (lE x))->∀x,b<=x->x∈dA rs->x∈dA f:=by
  intro rs f k x d a;obtain⟨p,n,j,i⟩:=(rj rs x).1 a;have:p∈rs.filter (lE x):=gQ.2 ⟨n,by simp[lE,j,i]⟩
  rw[k x d]at this;obtain⟨g,-⟩:=gQ.1 this;exact(rj f x).2 ⟨p,g,j,i⟩
 rw[e ps,e qs];have l:(dA ps).filter (λx=>decide (b<=x))=(dA qs).filter (λx=>decide (b<=x)):=by
  refine GE ((rG ps).sublist wV) ((rG qs).sublist wV) (λx=>?_)
  rw[gQ,gQ,bM];exact⟨λa=>⟨c h x a.2 a.1,a.2⟩,λa=>⟨c (λy hy=>(h y hy).symm) x a.2 a.1,a.2⟩⟩
 rw[l];apply oL;intro x a;exact zw (h x (by have:=(gQ.1 a).2;simpa using this))
theorem Yh(L:List TxR)(t:TxR):∀i,i<=L.length->gk (L++[t]) i=gk L i:=by
 intro i
 induction i with
 |zero=>intro _;rfl
 |succ i a=>
  intro hi;simp only[gk];rw[ip (by omega),a (by omega)]
theorem UC(L:List TxR)(t:TxR):kg (L++[t])=if t.base then[t]else kg L++[t]:=by
 unfold kg;rw[aI];simp only[aW,dW];rw[gk];rw[cu (am _)];simp only[lh,sf];cases a:t.base with
 |true=>
  simp only[dF];rw[yS (am _),uA];rfl
 |false=>
  simp only[ge,fQ];rw[Yh L t _ (am _),yS (Dj L _)]
theorem GH(L:List TxR):∃A,L=A++kg L:=⟨L.take (gk L L.length),(jk _ _).symm⟩
theorem ZM{A B:List TxR}(h0:∀t∈B.tail,t.base=iF)(h1:∀t,B.head?=X t->t.base=iV∨A=[])(e:B=[]->A=[]):kg (A++B)=B:=by
 cases B with
 |nil=>rw[e rfl];rfl
 |cons t B=>
  have hs:=Jr (A++t::B) (A++t::B).length (am _);have c:=Dj (A++t::B) (A++t::B).length;obtain⟨g1,g2⟩:=hs;generalize i:gk (A++t::B) (A++t::B).length=z at g1 g2 c;have d:z=A.length:=by
   rcases h1 t rfl with g|f
   ·rcases Nat.lt_trichotomy z A.length with q|q|q
    ·have:=g2 A.length t q (by simp) (by rw[cu (am _)];simp)
     rw[g]at this;cases this
    ·exact q
    ·rcases g1 with g1|⟨u,b,a⟩
     ·omega
     ·rw[cu (by omega)]at b
      obtain⟨j,h⟩:∃j,z-A.length=j+1:=⟨z-A.length-1,by omega⟩
      rw[h,oE]at b;have:=h0 u (aL b);rw[a]at this;cases this
   ·subst f;rcases g1 with g1|⟨u,b,a⟩
    ·exact g1
    ·cases z with
     |zero=>rfl
     |succ j=>
      rw[jT,oE]at b;have:=h0 u (aL b);rw[a]at this;cases this
  unfold kg;rw[i,d,yS (am _),uA];rfl
theorem aag(L:List TxR):∀t∈(kg L).tail,t.base=iF:=by
 intro t a;obtain⟨-,g2⟩:=Jr L L.length (am _);unfold kg at a;rw[List.tail_drop]at a;obtain⟨i,hi⟩:=iG a;rw[ly]at hi;exact g2 _ t (by omega) (aC.1 hi).1 hi
theorem JM:∀(ps:List Pg) (s:List Bk×List aM×Bool),s.2.2=iF->(eO s ps).2.2=iF
 | [],s,h=>h
 |p::ps,s,h=>by rw[eO,h];exact h
theorem Bh:∀(ps:List Pg) {bs:List Bk} {l:List aM},bp bs=iV->(∀y∈au bs,∀p∈ps,y.key<p.seq)->ps.Pairwise (λp q=>p.seq<q.seq)->(eO (bs,l,iV) ps).2.2=iV->
 ∃(cs:List Bk) (L:List aM) (xs:List an),eO (bs,l,iV) ps=(cs,l++L,iV)/\de bs L=(cs,L.length)/\bp cs=iV/\xs.map an.fP=ps/\au cs=au bs++xs/\(∀p∈ps,p.Right)/\(∀s∈L,s.1=1)/\L.length=ps.length/\L.map (λs=>s.2.1)=xs.map an.block/\cP cs+ps.length=cP bs
 | [],bs,l,hok,_,_,_=>⟨bs,[],[],by simp[eO],rfl,hok,rfl,by simp,by simp,by simp,rfl,rfl,by simp⟩
 |p::ps,bs,l,hok,hk,hp,h=>by
  rw[eO]at h;simp only[dF]at h;have h1:(cM bs l p).2.2=iV:=by
   cases e:(cM bs l p).2.2 with
   |true=>rfl
   |false=>rw[JM ps _ e]at h;cases h
  obtain⟨cs,s,x,f,j,k,g,m,i,n,o,E⟩:=AA hok (λy hy=>hk y hy p (by simp)) h1
  obtain⟨c,d⟩:=gx.1 hp;rw[f]at h;obtain⟨b,L,xs,r,u,v,w,z,A,B,C,D,t⟩:=Bh ps (bs:=cs) (l:=l++[s]) k (λy hy q a=>by
   rw[i]at hy;rcases bJ.1 hy with hy|hy
   ·exact hk y hy q (by simp[a])
   ·rw[bU]at hy;subst hy;show y.fP.seq<q.seq;rw[g];exact c q a) d h
  refine⟨b,s::L,x::xs,?_,?_,v,by simp[g,w],?_,?_,?_,by simp[C],by simp[D,n],?_⟩
  ·rw[eO];simp only[dF];rw[f,r];simp
  ·rw[de,j];simp only[dF];rw[u];simp
  ·rw[z,i];simp
  ·intro q a;rcases be.1 a with rfl|a
   ·exact m
   ·exact A q a
  ·intro q a;rcases be.1 a with rfl|a
   ·exact o
   ·exact B q a
  ·rw[aW];omega
theorem Fq(seq tx:Int)(l:List Rc):(co seq tx l).Pairwise (λp q=>p.seq<q.seq):=by
 rw[pP];intro i j hi c b;obtain⟨g,-,e⟩:=vz (ay hi);obtain⟨d,-,a⟩:=vz (ay c);rw[e,a];show seq+(i:Int)<seq+(j:Int);omega
theorem Jj{seq tx:Int}{l:List Rc}(h:p∈co seq tx l):seq<=p.seq:=by
 obtain⟨i,hi,e⟩:=pw h;obtain⟨g,-,a⟩:=vz (ay hi);rw[<-e,a];show seq<=seq+(i:Int);omega
variable{d:Dv}{L:List aM}
theorem TG{l:List Rc}(i:bp d.fH=iV)(hs:∀y∈au d.fH,y.key<d.seq)(Q:l≠ [])(h:ez d l t=(L,iV)):
 ∃(cs:List Bk) (m G:List an),de d.fH L=(cs,L.length)/\bp cs=iV/\au cs=au d.fH++m++G/\G.map an.fP=co (eG d t) d.tx l/\ja (eG d t) d.tx l/\
  ((t.size=0/\m=[])∨(t.size≠0/\∃x,m=[x]/\x.fP=kW d.seq (pG l) t/\x.fP.Right))/\(∀s∈L,s.1=1)/\cP cs+L.length=cP d.fH:=by
 unfold ez at h;rw[ai (by intro e;exact Q (iJ e))]at h
 by_cases j:((eO (jB d l t) (kj (eG d t) d.tx l)).2.2&& @decide (ja (eG d t) d.tx l) (nh (eG d t) d.tx l))=iV
 ·rw[ak j]at h;rw[bu,tw]at j;obtain⟨a,c⟩:=j;have e:kj (eG d t) d.tx l=co (eG d t) d.tx l:=by unfold kj;rw[ak c]
  rw[e]at a h;have b:(eO (jB d l t) (co (eG d t) d.tx l)).2.1=L:=congrArg Prod.fst h;by_cases f:t.size=0
  ·have n:jB d l t=(d.fH,[],iV):=by unfold jB;rw[ak f]
   have r:eG d t=d.seq:=by unfold eG;rw[ak f]
   rw[n]at a b;obtain⟨cs,H,xs,u,v,w,z,A,O,B,C,P,g⟩:=Bh _ i (λy hy p D=>by
    have:=Jj D;have:=hs y hy;omega) (Fq _ _ _) a
   rw[u]at b;simp only[jT]at b;subst b;exact⟨cs,[],xs,v,w,by rw[A];simp,z,c,.inl ⟨f,rfl⟩,B,by rw[C];exact g⟩
  ·have n:jB d l t=cM d.fH [] (kW d.seq (pG l) t):=by unfold jB;rw[ai f]
   have r:eG d t=d.seq+1:=by unfold eG;rw[ai f]
   rw[n]at a b;have h1:(cM d.fH [] (kW d.seq (pG l) t)).2.2=iV:=by
    cases e:(cM d.fH [] (kW d.seq (pG l) t)).2.2 with
    |true=>rfl
    |false=>rw[JM _ _ e]at a;cases a
   obtain⟨cs,s,x,I,J,K,o,M,F,R,N,S⟩:=AA i (λy hy=>hs y hy) h1
   rw[I]at a b;obtain⟨k,H,xs,u,v,w,z,A,O,B,C,P,g⟩:=Bh _ K (λy hy p D=>by
    have T:=Jj D;rw[F]at hy;rcases bJ.1 hy with hy|hy
    ·have:=hs y hy;omega
    ·rw[bU]at hy;subst hy;show y.fP.seq<p.seq;rw[o];show d.seq<p.seq;omega) (Fq _ _ _) a
   rw[u]at b;simp only[jT,yo]at b;subst b;refine⟨k,[x],xs,?_,w,by rw[A,F],z,c,.inr ⟨f,x,rfl,o,by rw[o];exact M⟩,?_,?_⟩
   ·rw[de,J];simp only[dF];rw[v];simp
   ·intro q E;rcases be.1 E with rfl|E
    ·exact N
    ·exact B q E
   ·rw[aW,C];omega
 ·rw[ai j]at h;cases h
theorem GN{l:List Rc}(o:Up d)(C:l≠ [])(h:ez d l t=(L,iV)):
 ∃(cs:List Bk) (b f:List an) (g:TxR),fY d L=jU cs/\bp cs=iV/\de d.fH L=(cs,L.length)/\au cs=au d.fH++b++f/\(∀x∈f,x.fP.kind=2/\x.fP.tx=d.tx)/\g.num=d.tx/\g.fR=l/\
  ((t.size=0/\b=[])∨(t.size≠0/\∃x,b=[x]/\x.fP=kW d.seq (pG l) t/\x.fP.Right))/\(∀s∈L,s.1=1)/\cP cs+L.length=cP d.fH/\
  cO (au cs)=if g.base then[g]else cO (au d.fH)++[g]:=by
 have c:d.seq=gM (au d.fH):=congrArg Dv.seq o.is;have n:d.tx=gy (au d.fH):=congrArg Dv.tx o.is;obtain⟨cs,b,f,h1,q,r,h4,w,u,z,A⟩:=TG o.ok (λy hy=>by rw[c];exact MV _ y hy) C h
 have k:∀x∈f,x.fP.kind=2/\x.fP.tx=d.tx:=λx a=>by
  have:x.fP∈co (eG d t) d.tx l:=by rw[<-h4];exact oP a
  obtain⟨i,-,-,-,D,E,-⟩:=zB this;exact⟨D,E⟩
 refine⟨cs,b,f,⟨d.tx,eG d t,l⟩,?_,q,h1,r,k,rfl,rfl,u,z,A,?_⟩
 ·unfold fY fw;rw[h1];simp only;rw[ak q]
 ·unfold cO;rw[r,gV,gV,h4];rw[Xi w.1 (λp m=>?_) (λp m B=>?_)]
  ·exact UC _ _
  ·obtain⟨x,a,e⟩:=bZ.1 m;rcases u with⟨-,j⟩|⟨-,y,j,v,-⟩
   ·rw[j]at a;cases a
   ·rw[j,bU]at a;subst a;rw[<-e,v];show(1:Int)≠2;decide
  ·obtain⟨x,a,e⟩:=bZ.1 m;rw[<-e,n];exact AF _ x a (by rw[e];exact B)
theorem D9(s:Sto):rH s=(cW s).flatMap (·.2):=by simp[rH,cW,List.flatMap_map]
variable{s:Sto}
theorem YB{m:Sto}(h:cW m=cW s):aY m=aY s:=by
 rw[DS,DS,D9,D9,h]
theorem xh:y∈rH s↔∃p∈cW s,y∈p.2:=by rw[D9,mi]
theorem DV{r:Rc}(B:r.kind≠1)(hy:y∈aY (aX s r).1):y∈aY s∨(r.kind=4/\y=r.fC/\(aX s r).2=iV):=by
 rw[qC]at hy;obtain⟨h0,hy⟩:=hy;cases d:(aX s r).2 with
 |false=>
  rw[q9 d]at hy;exact .inl ((qC s y).2 ⟨h0,hy⟩)
 |true=>
  obtain⟨hs,t⟩:=nO d;have m:=t;unfold Rc.Right at m;by_cases h:r.kind=4∨r.kind=5
  ·obtain⟨k,v,b,-,-,-,-,x,A,-⟩:=rZ d h;obtain⟨p,f,a⟩:=xh.1 hy;rw[A]at f;rcases nG f with f|f
   ·exact .inl ((qC s y).2 ⟨h0,xh.2 ⟨p,f,a⟩⟩)
   ·subst f;simp only at a;rcases nG a with a|a
    ·exact .inl ((qC s y).2 ⟨h0,xh.2 ⟨_,aL (Cp b),a⟩⟩)
    ·rcases h with h4|j
     ·exact .inr ⟨h4,a,rfl⟩
     ·have:=x j;omega
  ·by_cases u:r.kind=2
   ·obtain⟨q,e,-,-,i,z⟩:=tY d u;rw[e]at hy;unfold rH at hy;obtain⟨v,b,c⟩:=mi.1 hy;simp only at c b;refine .inl ((qC s y).2 ⟨h0,?_⟩);rcases sP b with rfl|b
    ·simp only at c;by_cases g:0<r.arg
     ·exact mi.2 ⟨_,i g,c⟩
     ·rw[z g,MJ]at c;have:=(Fk.1 c).2;omega
    ·exact mi.2 ⟨v,b,c⟩
   ·have w:r.kind=3:=by omega
    refine .inl ((qC s y).2 ⟨h0,?_⟩);have l:=(kx s).2 hs;rw[aX,ak ⟨l,t⟩,ai (by omega),ai (by omega)]at hy d
    cases i:bw s.fV r.vol with
    |none=>rw[i]at d;cases d
    |some k=>
     rw[i]at hy d;simp only at hy d;by_cases o:r.fC=1000000000
     ·rw[ak o]at d;cases d
     ·rw[ai o,ak w]at hy;simp only at hy;obtain⟨p,f,a⟩:=xh.1 hy;rw[zF,yB (y8 hs.toNear k)]at f;obtain⟨v,b,e⟩:=bZ.1 f;simp only at b;have n:v∈s.fV:=by
       rcases bJ.1 b with b|b
       ·exact wU b
       ·exact DK b
      subst e;exact mi.2 ⟨v,n,a⟩
theorem Eh{a:Sto}{m:Int}(hs:∀v∈s.fV,v.1<=m)(h:∀p∈cW a,∃v∈s.fV,v.1=p.1):∀v∈a.fV,v.1<=m:=by
 intro v c;obtain⟨u,b,e⟩:=h _ (Hj c);have:=hs u b;simp only at e;omega
theorem Gw{p:Int×List Int}(h:p∈cW s):∃v∈s.fV,v.1=p.1:=by
 obtain⟨v,a,e⟩:=bZ.1 h;exact⟨v,a,by rw[<-e]⟩
theorem Iv{r:Rc}{m:Int}(hs:∀v∈s.fV,v.1<=m)(u:r.kind=2->r.vol<=m):∀v∈(aX s r).1.fV,v.1<=m:=by
 cases c:(aX s r).2 with
 |false=>rw[q9 c];exact hs
 |true=>
  obtain⟨d,o⟩:=nO c;have i:=o;unfold Rc.Right at i;by_cases g:r.kind=4∨r.kind=5
  ·obtain⟨k,v,b,-,-,-,-,-,w,-⟩:=rZ c g;refine Eh hs (λp a=>?_)
   rw[w]at a;rcases nG a with a|a
   ·exact Gw a
   ·exact⟨v,aL b,by rw[a]⟩
  ·by_cases f:r.kind=2
   ·obtain⟨q,e,-⟩:=tY c f;rw[e];intro v b;rcases sP b with rfl|b
    ·exact u f
    ·exact hs v b
   ·by_cases h1:r.kind=1
    ·rw[Ml c h1];intro v b;cases b
    ·have t:r.kind=3:=by omega
     have h:=(kx s).2 d;refine Eh hs (λp a=>?_)
     rw[aX,ak ⟨h,o⟩,ai h1,ai f]at a c;cases l:bw s.fV r.vol with
     |none=>rw[l]at c;cases c
     |some k=>
      rw[l]at a c;simp only at a c;by_cases n:r.fC=1000000000
      ·rw[ak n]at c;cases c
      ·rw[ai n,ak t]at a;simp only at a;rw[zF,yB (y8 d.toNear k)]at a;obtain⟨v,b,e⟩:=bZ.1 a;simp only at b;have j:v∈s.fV:=by
        rcases bJ.1 b with b|b
        ·exact wU b
        ·exact DK b
       exact⟨v,j,by rw[<-e]⟩
theorem QB{r:Rc}(i:r.kind≠1):s.next<=(aX s r).1.next:=by
 cases a:(aX s r).2 with
 |false=>rw[q9 a];exact kI _
 |true=>
  obtain⟨hs,f⟩:=nO a;have d:=f;unfold Rc.Right at d;by_cases b:r.kind=4∨r.kind=5
  ·exact(XG a b).2.2
  ·by_cases g:r.kind=2
   ·obtain⟨q,e,-⟩:=tY a g;rw[e];exact kI _
   ·have c:=(kx s).2 hs;rw[aX,ak ⟨c,f⟩,ai (by omega),ai (by omega)]at a⊢
    cases h:bw s.fV r.vol with
    |none=>simp only;exact kI _
    |some k=>
     simp only;split
     ·exact kI _
     ·rw[ak (show r.kind=3 by omega)]
      exact kI _
theorem QH{r:Rc}(hs:s.Right)(d:r.Right)(e:r.kind=4)(a:(bw s.fV r.vol).isSome=iV)(c:r.fC≠1000000000):(aX s r).2=iV:=by
 rw[aX,ak ⟨(kx s).2 hs,d⟩,ai (by omega),ai (by omega)]
 cases b:bw s.fV r.vol with
 |none=>rw[b]at a;cases a
 |some k=>
  simp only;rw[ai c,ai (by omega)]
def jD(M:List an):Prop:=match cO M with
 | []=>∀x∈M,x.fP.kind≠2
 |t::_=>t.base=iV∨∀x∈M,x.fP.kind=2->t.num<=x.fP.tx
structure cL (T:List UInt8->Prop) (n:Nat) (d:Dv):Prop where
 up:Up d
 st:d.fS.Right
 hd:jD (au d.fH)
 lv:∀c∈aY d.fS,∃x∈au d.fH,di c x=iV
 tx:∀x∈au d.fH,x.fP.kind=1->∃t,dc x.fP.text.data.toList=X t/\T t
 df:∀c∈aY d.fS,∀c'∈aY d.fS,bn (au d.fH) c=bn (au d.fH) c'->c=c'
 dn:∀x∈au d.fH,x.fP.kind=1->x.fP.tx<d.fS.next
 nx:d.fS.next<=(n:Int)+1
 vi:∀v∈d.fS.fV,v.1<=3
theorem cL.has(h:cL T n d)(f:c∈aY d.fS):∃x t,bH (au d.fH) c=X x/\bn (au d.fH) c=X t/\T t:=by
 obtain⟨x,i,g⟩:=h.lv c f;cases b:bH (au d.fH) c with
 |none=>have:=vB.1 b x i;rw[g]at this;cases this
 |some y=>
  obtain⟨hy,a⟩:=qe b;obtain⟨t,h1,e⟩:=h.tx y hy (by unfold di at a;simp at a;exact a.1)
  exact⟨y,t,rfl,by unfold bn;rw[b];exact h1,e⟩
theorem cL.sub{T':List UInt8->Prop}(h:cL T n d)(c:∀t,T t->T' t)(f:n<=m):cL T' m d:=
 ⟨h.up,h.st,h.hd,h.lv,λx e b=>by obtain⟨t,h1,a⟩:=h.tx x e b;exact⟨t,h1,c t a⟩,h.df,h.dn,(by have:=h.nx;omega),h.vi⟩
variable{M:List an}
theorem Vn{t:TxR}(h:t∈cO M):∃x∈M,x.fP.kind=2/\x.fP.tx=t.num:=by
 unfold cO at h;obtain⟨A,a⟩:=GH (dM (M.map an.fP));obtain⟨p,c,b,e⟩:=DM (ps:=M.map an.fP) (t:=t) (by rw[a];exact wK _ h)
 obtain⟨x,d,rfl⟩:=bZ.1 c;exact⟨x,d,b,e⟩
variable{x:an}
theorem xN(h:di c x=iV):x.fP.kind=1/\x.fP.tx=c:=by
 unfold di at h
 simpa using h
theorem Lb{a:List an}(h:∀x∈a,x.fP.kind=2):bH a c=O:=by
 rw[vB];intro x b;have:=h x b;unfold di;simp[this]
theorem UT(h:bH M c=X x):bn M c=dc x.fP.text.data.toList:=by unfold bn;rw[h];rfl
structure Ak where
 kind:Int
 vol:Int
 sector:Int
 of:Int
 text:ByteArray
def kS(q:Ak):Bool:=
 if¬(1<=q.kind/\q.kind<=6)∨¬(1<=q.vol/\q.vol<=9)∨64<q.text.size∨(q.kind≠1/\q.text.size≠0)then iF
 else if q.kind=4 then decide (q.sector=0/\1<=q.of/\q.of<=9)
 else if q.of≠0 then iF
 else if q.kind=3∨q.kind=5 then decide (q.sector=0)
 else decide (0<=q.sector/\q.sector<=15)
def aQ:ByteArray:=⟨#[]⟩
def md(t:ByteArray):ByteArray:=match cR t.data.toList with
 |some p=>⟨p.toArray⟩
 |none=>aQ
def eF(d:Dv)(q:Ak):List Rc×ByteArray×Int:=
 if kS q=iF then([],aQ,3)
 else if q.kind=3∨q.kind=4 then
  if (bw d.fS.fV q.vol).isSome then([],aQ,2)
  else if q.kind=4/\(bw d.fS.fV q.of).isSome=iF then([],aQ,1)
  else if 3<=d.fS.fV.length then([],aQ,4)
  else([⟨2,q.vol,q.of,0⟩],aQ,0)
 else if (bw d.fS.fV q.vol).isSome=iF then([],aQ,1)
 else if q.kind=1 then
  if fs (au d.fH) (aY d.fS) q.text.data.toList=0 then([⟨4,q.vol,q.sector,d.fS.next⟩],md q.text,0)
  else([⟨4,q.vol,q.sector,fs (au d.fH) (aY d.fS) q.text.data.toList⟩],aQ,0)
 else if q.kind=2 then([⟨5,q.vol,q.sector,0⟩],aQ,0)
 else if q.kind=5 then([⟨3,q.vol,0,0⟩],aQ,0)
 else([],aQ,0)
def n9(d:Dv)(q:Ak)(l:List Rc)(t:ByteArray):Prop:=
 (l=[]/\t=aQ)∨(∃r:Rc,((r.kind=2∨r.kind=3∨r.kind=5)/\r.vol=q.vol)/\l=[r]/\t=aQ)∨(∃c,c∈aY d.fS/\bn (au d.fH) c=X q.text.data.toList/\l=[⟨4,q.vol,q.sector,c⟩]/\t=aQ)∨((∀c∈aY d.fS,bn (au d.fH) c≠X q.text.data.toList)/\(bw d.fS.fV q.vol).isSome=iV/\(1<=q.vol/\q.vol<=9/\0<=q.sector/\q.sector<=15)/\q.text.size<=64/\l=[⟨4,q.vol,q.sector,d.fS.next⟩]/\t=md q.text)
theorem n9.none{q:Ak}:n9 d q [] aQ:=.inl ⟨rfl,rfl⟩
theorem n9.plain{q:Ak}(r:Rc)(a:r.kind=2∨r.kind=3∨r.kind=5)(b:r.vol=q.vol):n9 d q [r] aQ:=.inr (.inl ⟨r,⟨a,b⟩,rfl,rfl⟩)
theorem n9.old{q:Ak}(c:Int)(a:c∈aY d.fS)(b:bn (au d.fH) c=X q.text.data.toList):n9 d q [⟨4,q.vol,q.sector,c⟩] aQ:=.inr (.inr (.inl ⟨c,a,b,rfl,rfl⟩))
theorem n9.new{q:Ak}(a:∀c∈aY d.fS,bn (au d.fH) c≠X q.text.data.toList)(b:(bw d.fS.fV q.vol).isSome=iV)(h1:1<=q.vol/\q.vol<=9/\0<=q.sector/\q.sector<=15)(hs:q.text.size<=64):n9 d q [⟨4,q.vol,q.sector,d.fS.next⟩] (md q.text):=.inr (.inr (.inr ⟨a,b,h1,hs,rfl,rfl⟩))
theorem VA{t:List UInt8}(d:∀c∈live,0<c)(h:fs M live t=0):∀c∈live,bn M c≠X t:=by
 intro c b e;unfold fs at h;cases a:live.find? (λc=>decide (bn M c=X t))with
 |none=>
  have:=Ea.1 a c b;simp[e]at this
 |some y=>
  rw[a]at h;have:=d y (tm a);simp at h;omega
theorem Vl{t:List UInt8}(h:fs M live t≠0):fs M live t∈live/\bn M (fs M live t)=X t:=by
 unfold fs at h⊢;cases a:live.find? (λc=>decide (bn M c=X t))with
 |none=>rw[a]at h;exact absurd rfl h
 |some y=>
  have h1:=vH a;simp only[bM]at h1;exact⟨tm a,h1⟩
theorem Pm(d:Dv)(q:Ak):n9 d q (eF d q).1 (eF d q).2.1:=by
 have f:∀c∈aY d.fS,0<c:=λc b=>((qC _ _).1 b).1
 unfold eF;split
 ·exact .none
 rename_i ha
 split
 ·split
  ·exact .none
  split
  ·exact .none
  split
  ·exact .none
  ·exact .plain _ (.inl rfl) rfl
 split
 ·exact .none
 rename_i hv
 split
 ·rename_i hk
  split
  ·rename_i hz
   refine .new (VA f hz) (by cases e:(bw d.fS.fV q.vol).isSome with|true=>rfl|false=>exact absurd e hv) ?_ ?_
   ·unfold kS at ha;split at ha
    ·exact absurd rfl ha
    rename_i hh
    simp only[tL,Bc]at hh;rw[ai (show¬q.kind=4 by omega)]at ha
    split at ha
    ·exact absurd rfl ha
    rw[ai (show¬(q.kind=3∨q.kind=5)by omega)]at ha
    simp only[rA,Bc]at ha;exact⟨hh.2.1.1,hh.2.1.2,ha.1,ha.2⟩
   ·unfold kS at ha;split at ha
    ·exact absurd rfl ha
    rename_i hh
    simp only[tL,Bc]at hh;omega
  ·rename_i hz
   obtain⟨h1,a⟩:=Vl hz;exact .old _ h1 a
 split
 ·exact .plain _ (.inr (.inr rfl)) rfl
 split
 ·exact .plain _ (.inr (.inl rfl)) rfl
 ·exact .none
theorem UW(h:t.size<=64):∃p,cR t.data.toList=X p/\dc p=X t.data.toList/\(md t).data.toList=p/\(md t).size≠0:=by
 have c:t.data.toList.length=t.size:=by simp
 cases a:cR t.data.toList with
 |none=>
  unfold cR at a;rw[ai (by omega)]at a
  cases a
 |some p=>
  have b:md t=⟨p.toArray⟩:=by unfold md;rw[a]
  refine⟨p,rfl,IL _ _ a,by rw[b],?_⟩
  rw[b];show p.toArray.size≠0;unfold cR at a;rw[ai (by omega)]at a
  injection a with a
  rw[<-a];split
  ·simp
  ·simp[sl]
theorem Qc(L:List TxR)(t:TxR):fx (L++[t])=(jy (fx L) t.fR).1:=by simp[fx,List.foldl_append]
theorem LV{d i:List an}{t:TxR}(b:jD M)(g:∀x∈M,x.fP.kind=2->x.fP.tx<t.num)(h1:∀x∈d,x.fP.kind≠2)(j:∀x∈i,x.fP.kind=2/\x.fP.tx=t.num)(k:cO (M++d++i)=if t.base then[t]else cO M++[t]):jD (M++d++i):=by
 unfold jD;rw[k];cases l:t.base with
 |true=>simp only[dF];exact .inl l
 |false=>
  simp only[ge,fQ];unfold jD at b;cases f:cO M with
  |nil=>
   rw[f]at b;simp only[jT]at b⊢;right;intro x a c;rcases bJ.1 a with a|a
   ·rcases bJ.1 a with a|a
    ·exact absurd c (b x a)
    ·exact absurd c (h1 x a)
   ·have:=(j x a).2;omega
  |cons u L=>
   rw[f]at b;simp only[ii]at b⊢;rcases b with b|b
   ·exact .inl b
   ·right;intro x a c;rcases bJ.1 a with a|a
    ·rcases bJ.1 a with a|a
     ·exact b x a c
     ·exact absurd c (h1 x a)
    ·obtain⟨y,hy,h,e⟩:=Vn (M:=M) (t:=u) (by rw[f];simp)
     have:=g y hy h;have:=(j x a).2;omega
theorem Ad(a e:List an)(h:∃x∈M,di c x=iV):∃x∈M++a++e,di c x=iV:=by
 obtain⟨x,d,b⟩:=h;exact⟨x,sy _ (sy _ d),b⟩
theorem aat{q:Ak}{l:List Rc}(h:cL T n d)(hn:n<999999998)(N:q.vol<=3)(V:n9 d q l t)(M:l≠ [])(hT:T q.text.data.toList)(hw:ez d l t=(L,iV)):cL T (n+1) (fY d L):=by
 obtain⟨cs,R,ms,tr,h1,h2,-,h4,S,h6,h7,U,-,-,J⟩:=GN h.up M hw;have P:d.tx=gy (au d.fH):=congrArg Dv.tx h.up.is;have ae:d.fS=fx (cO (au d.fH)):=congrArg Dv.fS h.up.is
 -- one record, no base
 obtain⟨r,f,o⟩:∃r,l=[r]/\r.kind≠1:=by
  rcases V with⟨rfl,rfl⟩|⟨r,hr,rfl,rfl⟩|⟨c,m,H,rfl,rfl⟩|⟨-,-,-,-,rfl,rfl⟩
  ·exact absurd rfl M
  ·exact⟨r,rfl,by omega⟩
  ·exact⟨_,rfl,by show(4:Int)≠1;decide⟩
  ·exact⟨_,rfl,by show(4:Int)≠1;decide⟩
 have hb:tr.base=iF:=by
  unfold TxR.base;rw[h7,f]
  simpa using o
 have b:(jU cs).fS=(aX d.fS r).1:=by
  show fx (cO (au cs))=_;rw[J,hb];simp only[ge,fQ];rw[Qc,<-ae,h7,f,QJ]
 have Y:∀x∈R,x.fP.kind=1:=by
  intro x a;rcases U with⟨-,e⟩|⟨-,y,e,I,-⟩
  ·rw[e]at a;cases a
  ·rw[e,bU]at a;subst a;rw[I];rfl
 have E:∀c,bH (au cs) c=(bH R c).or (bH (au d.fH) c):=λc=>by
  rw[h4,qO,Lb (λx a=>(S x a).1),qO]
  rfl
 rw[h1];have hR:=yf h.st r;have aj:(jU cs).fH=cs:=rfl
 -- the new chunk's page
 have w:(R=[]/\(∀y∈aY (aX d.fS r).1,y∈aY d.fS))∨∃x,R=[x]/\x.fP.kind=1/\x.fP.tx=d.fS.next/\dc x.fP.text.data.toList=X q.text.data.toList/\(∀c∈aY d.fS,bn (au d.fH) c≠X q.text.data.toList)/\(∀y∈aY (aX d.fS r).1,y∈aY d.fS∨y=d.fS.next)/\(aX d.fS r).1.next=d.fS.next+1:=by
  rcases V with⟨rfl,rfl⟩|⟨W,O,rfl,rfl⟩|⟨c,m,H,rfl,rfl⟩|⟨ab,hv,ai,hs,rfl,rfl⟩
  ·exact absurd rfl M
  ·left;injection f with f
   subst f;rcases U with⟨-,e⟩|⟨e,-⟩
   ·exact⟨e,λy hy=>(DV o hy).elim id (λq=>by omega)⟩
   ·exact absurd rfl e
  ·left;injection f with f
   subst f;rcases U with⟨-,e⟩|⟨e,-⟩
   ·exact⟨e,λy hy=>(DV o hy).elim id (λq=>by rw[q.2.1];exact m)⟩
   ·exact absurd rfl e
  ·right;injection f with f
   subst f;obtain⟨p,p1,p2,p3,p4⟩:=UW hs;rcases U with⟨e,-⟩|⟨-,x,e,I,-⟩
   ·exact absurd e p4
   ·have ac:=h.st.nx;have ah:=h.nx;have hr:Rc.Right ⟨4,q.vol,q.sector,d.fS.next⟩:=by
     refine⟨⟨?_,?_⟩,.inr ⟨⟨?_,?_⟩,.inr (.inr (.inl ⟨rfl,?_,?_,?_⟩))⟩⟩<;>simp only<;>omega
    have af:=QH h.st hr rfl hv (by simp only;omega)
    obtain⟨k,v,-,-,-,-,-,-,-,e5,-⟩:=rZ af (.inl rfl);simp only[kI,dF]at e5;refine⟨x,e,by rw[I];rfl,by rw[I];rfl,?_,ab,?_,e5⟩
    ·rw[I];show dc (md q.text).data.toList=_;rw[p3];exact p2
    ·intro y hy;rcases DV o hy with g|g
     ·exact .inl g
     ·exact .inr g.2.1
 have ag:∀v∈(aX d.fS r).1.fV,v.1<=3:=Iv h.vi (λh2=>by
  rcases V with⟨rfl,rfl⟩|⟨W,O,rfl,rfl⟩|⟨c,m,H,rfl,rfl⟩|⟨-,-,-,-,rfl,rfl⟩
  ·exact absurd rfl M
  ·injection f with f
   subst f;omega
  ·injection f with f
   subst f;exact N
  ·injection f with f
   subst f;exact N)
 refine⟨⟨h2,rfl⟩,by rw[b];exact hR,?_,?_,?_,?_,?_,?_,by rw[b];exact ag⟩
 ·show jD (au cs);rw[h4];exact LV h.hd (λx a K=>by rw[h6,P];exact AF _ x a K) (λx a=>by rw[Y x a];decide) (λx a=>by rw[h6];exact S x a) (by rw[<-h4];exact J)
 ·intro c m;rw[b]at m;show∃x∈au cs,_;rw[h4];rcases w with⟨-,A⟩|⟨x,j,A,Q,-,-,C,-⟩
  ·exact Ad _ _ (h.lv c (A c m))
  ·rcases C c m with C|C
   ·exact Ad _ _ (h.lv c C)
   ·exact⟨x,by rw[j];simp,by unfold di;simp[A,Q,C]⟩
 ·intro x a K;change x∈au cs at a;rw[h4]at a;rcases bJ.1 a with a|a
  ·rcases bJ.1 a with a|a
   ·exact h.tx x a K
   ·rcases w with⟨j,-⟩|⟨y,j,-,-,k4,-⟩
    ·rw[j]at a;cases a
    ·rw[j,bU]at a;subst a;exact⟨_,k4,hT⟩
  ·have:=(S x a).1;omega
 ·intro c m c' D u;rw[b]at m D;change bn (au cs) c=bn (au cs) c' at u;rcases w with⟨j,A⟩|⟨x,j,A,Q,k4,k5,C,-⟩
  ·have H:∀y,bn (au cs) y=bn (au d.fH) y:=λy=>by
    unfold bn;rw[E y,j];rfl
   rw[H,H]at u;exact h.df c (A c m) c' (A c' D) u
  ·have i:∀y∈aY d.fS,bn (au cs) y=bn (au d.fH) y:=λy hy=>by
    have Z:¬(d.fS.next=y):=by
     obtain⟨z,hz,F⟩:=h.lv y hy;obtain⟨z1,z2⟩:=xN F;have:=h.dn z hz z1;omega
    unfold bn;rw[E y,j,Cz];have:di y x=iF:=by unfold di;simp[A,Q,Z]
    rw[this];rfl
   have B:bn (au cs) d.fS.next=X q.text.data.toList:=by
    rw[UT (x:=x)]
    ·exact k4
    ·rw[E,j,Cz];have:di d.fS.next x=iV:=by unfold di;simp[A,Q]
     rw[this];rfl
   rcases C c m with g|g<;>rcases C c' D with G|G
   ·rw[i c g,i c' G]at u;exact h.df c g c' G u
   ·subst G;rw[i c g,B]at u;exact absurd u (k5 c g)
   ·subst g;rw[i c' G,B]at u;exact absurd u.symm (k5 c' G)
   ·rw[g,G]
 ·intro x a K;change x∈au cs at a;rw[b];have aa:=QB (s:=d.fS) o;rw[h4]at a;rcases bJ.1 a with a|a
  ·rcases bJ.1 a with a|a
   ·have:=h.dn x a K;omega
   ·rcases w with⟨j,-⟩|⟨y,j,-,Q,-,-,-,k7⟩
    ·rw[j]at a;cases a
    ·rw[j,bU]at a;subst a;omega
  ·have:=(S x a).1;omega
 ·rw[b];have ac:=h.nx;rcases w with⟨-,-⟩|⟨-,-,-,-,-,-,-,k7⟩
  ·rcases abX (s:=d.fS) r o with g|g
   ·rw[g];omega
   ·rcases V with⟨rfl,rfl⟩|⟨W,O,rfl,rfl⟩|⟨c,m,H,rfl,rfl⟩|⟨-,-,-,-,rfl,rfl⟩
    ·exact absurd rfl M
    ·injection f with f
     subst f;have ak:=hR.nx;cases u:(aX d.fS W).2 with
     |false=>rw[q9 u];omega
     |true=>
      obtain⟨-,ad⟩:=nO u;unfold Rc.Right at ad;rw[g];have:W.fC=0:=by omega
      omega
    ·injection f with f
     subst f;simp only at g;obtain⟨z,hz,F⟩:=h.lv c m;obtain⟨z1,z2⟩:=xN F;have:=h.dn z hz z1;rw[g];omega
    ·injection f with f
     subst f;simp only at g;rw[g];omega
  ·rw[k7];omega
open Go.RowKit
theorem Cc:(Tryz.prog.info? 83).map (λi=>(i.zero,i.size,i.bytes))=X (X (iA #[I J 0,iT ⟨#[]⟩]),2,24):=by kernel_rfl
theorem FQ:(Tryz.prog.info? 81).map (λi=>(i.zero,i.size,i.bytes))=X (X (iA #[iB iF,I J 0,Y O 0 0]),3,40):=by kernel_rfl
def vC(t:Int×ByteArray):List iX:=[I J t.1,iT t.2]
def fT(l:List (Int×ByteArray)):List iX:=l.flatMap vC
theorem Ha(l:List (Int×ByteArray)):(fT l).length=l.length*2:=by
 induction l with
 |nil=>rfl
 |cons t l a=>simp[fT,vC]at a⊢;omega
theorem rY(t:Int×ByteArray)(l:List (Int×ByteArray)):fT (t::l)=[I J t.1,iT t.2]++fT l:=by simp[fT,vC]
theorem Ee(l:List (Int×ByteArray))(k:Nat)(t:Int×ByteArray)(h:l[k]?=X t):(fT l)[k*2]?=X (I J t.1)/\(fT l)[k*2+1]?=X (iT t.2):=by
 induction l generalizing k with
 |nil=>simp at h
 |cons a l b=>
  cases k with
  |zero=>
   simp at h;subst h;exact⟨rfl,rfl⟩
  |succ k=>
   have:=b k (by simpa using h)
   rw[rY,cu (by simp;omega),cu (by simp;omega)]
   simp only[aW,dW];rw[show(k+1)*2-(0+1+1)=k*2 by omega,show(k+1)*2+1-(0+1+1)=k*2+1 by omega]
   exact this
theorem abW(l:List (Int×ByteArray)):∀v∈fT l,v.oneCell'=iV:=by
 intro v b;obtain⟨t,-,a⟩:=mi.1 b;simp[vC]at a;rcases a with h|h<;>subst h<;>rfl
theorem LS(ls:List (Int×ByteArray))(k:Nat)(t:Int×ByteArray)(h:ls[k]?=X t):
 (∀z:Int,(fT ls).set (k*2) (I J z)=fT (ls.set k (z,t.2)))/\(∀z:ByteArray,(fT ls).set (k*2+1) (iT z)=fT (ls.set k (t.1,z))):=by
 induction ls generalizing k with
 |nil=>simp at h
 |cons a r c=>
  cases k with
  |zero=>
   simp at h;subst h;simp[rY]
  |succ k=>
   obtain⟨h1,b⟩:=c k (by simpa using h)
   refine⟨λz=>?_,λz=>?_⟩
   ·rw[ce,rY,rY,<-h1 z,jz _ _ (by simp;omega)]
    congr 2;simp;omega
   ·rw[ce,rY,rY,<-b z,jz _ _ (by simp;omega)]
    congr 2;simp;omega
theorem Ga{w:iW}{l:List (Int×ByteArray)}{t:Int×ByteArray}(h:w.ownsRow B 83 2 (Y (X ⟨g,0,O⟩) n cap) n (fT l))(b:l[k]?=X t):
 w.cell? ⟨g,k*2,O⟩=X (I J t.1)/\w.cell? ⟨g,k*2+1,O⟩=X (iT t.2):=by
 obtain⟨h1,a⟩:=Ee l k t b;have c1:=h.cells (g:=g) rfl _ _ h1;have c2:=h.cells (g:=g) rfl _ _ a;rw[fh]at c1 c2;exact⟨c1,c2⟩
def xe(t:Bool×Int×iX):List iX:=[iB t.1,I J t.2.1,t.2.2]
def gH(l:List (Bool×Int×iX)):List iX:=l.flatMap xe
theorem abZ(a b:List (Bool×Int×iX)):gH (a++b)=gH a++gH b:=by simp[gH]
theorem pY(t:Bool×Int×iX)(l:List (Bool×Int×iX)):gH (t::l)=[iB t.1,I J t.2.1,t.2.2]++gH l:=by simp[gH,xe]
theorem Qv(l:List (Bool×Int×iX))(k:Nat)(t:Bool×Int×iX)(h:l[k]?=X t):(gH l)[k*3]?=X (iB t.1)/\(gH l)[k*3+1]?=X (I J t.2.1)/\(gH l)[k*3+2]?=X t.2.2:=by
 induction l generalizing k with
 |nil=>simp at h
 |cons a l b=>
  cases k with
  |zero=>
   simp at h;subst h;exact⟨rfl,rfl,rfl⟩
  |succ k=>
   have:=b k (by simpa using h)
   rw[pY,cu (by simp;omega),cu (by simp;omega),cu (by simp;omega)]
   simp only[aW,dW];rw[show(k+1)*3-(0+1+1+1)=k*3 by omega,show(k+1)*3+1-(0+1+1+1)=k*3+1 by omega,show(k+1)*3+2-(0+1+1+1)=k*3+2 by omega]
   exact this
theorem Fl(ls:List (Bool×Int×iX))(k:Nat)(t:Bool×Int×iX)(h:ls[k]?=X t):
 (∀z:Bool,(gH ls).set (k*3) (iB z)=gH (ls.set k (z,t.2.1,t.2.2)))/\(∀z:Int,(gH ls).set (k*3+1) (I J z)=gH (ls.set k (t.1,z,t.2.2)))/\(∀z:iX,(gH ls).set (k*3+2) z=gH (ls.set k (t.1,t.2.1,z))):=by
 induction ls generalizing k with
 |nil=>simp at h
 |cons a r d=>
  cases k with
  |zero=>
   simp at h;subst h;simp[pY]
  |succ k=>
   obtain⟨h1,b,c⟩:=d k (by simpa using h)
   refine⟨λz=>?_,λz=>?_,λz=>?_⟩
   ·rw[ce,pY,pY,<-h1 z,jz _ _ (by simp;omega)]
    congr 2;simp;omega
   ·rw[ce,pY,pY,<-b z,jz _ _ (by simp;omega)]
    congr 2;simp;omega
   ·rw[ce,pY,pY,<-c z,jz _ _ (by simp;omega)]
    congr 2;simp;omega
theorem Cr{w:iW}{l:List (Bool×Int×iX)}{t:Bool×Int×iX}(h:w.ownsRow B 81 3 (Y (X ⟨g,0,O⟩) n cap) n (gH l))(c:l[k]?=X t):
 w.cell? ⟨g,k*3,O⟩=X (iB t.1)/\w.cell? ⟨g,k*3+1,O⟩=X (I J t.2.1)/\w.cell? ⟨g,k*3+2,O⟩=X t.2.2:=by
 obtain⟨h1,a,b⟩:=Qv l k t c;have c1:=h.cells (g:=g) rfl _ _ h1;have c2:=h.cells (g:=g) rfl _ _ a;have c3:=h.cells (g:=g) rfl _ _ b;rw[fh]at c1 c2 c3;exact⟨c1,c2,c3⟩
theorem lM{w:iW}{v:iX}{xs:List iX}(h:w.ownsRow B e z v n xs):
 ∃ad cap,v=Y ad n cap/\n<=cap/\cap<=maxLen/\(0<n->∃g,ad=X ⟨g,0,O⟩/\B<=g/\g<w.heap.size):=by
 have a:=h.lt;rcases h.2 with⟨h1,c⟩|⟨g,cap,b,h1,-,-,d,h4,-⟩
 ·exact⟨O,0,by rw[h1,c],by omega,by unfold maxLen;omega,λh=>by omega⟩
 ·subst h1;exact⟨_,cap,rfl,d,h4,λ_=>⟨g,rfl,a g rfl⟩⟩
abbrev Rw:=Bool×Int×iX×List (Int×ByteArray)
def gt(r:Rw):Bool×Int×iX:=(r.1,r.2.1,r.2.2.1)
def aw(r:Rw):Bk:=(r.1,r.2.1,r.2.2.2)
def kh(w:iW)(lo hi:Nat)(v:iX)(ls:List (Int×ByteArray)):Prop:=
 w.ownsRow lo 83 2 v ls.length (fT ls)/\∀g,v.ownBlock=X g->g<hi
def fk(w:iW)(lo hi:Nat)(v:iX)(rs:List Rw):Prop:=
 w.ownsRow lo 81 3 v rs.length (gH (rs.map gt))/\(∀g,v.ownBlock=X g->g<hi)/\(∀r∈rs,kh w lo hi r.2.2.1 r.2.2.2)/\
  (rs.map λr=>r.2.2.1).Pairwise (λa b=>a.ownBlock=O∨a.ownBlock≠b.ownBlock)
theorem IR{w w':iW}{hi:Nat}{v:iX}{xs:List iX}(h:w.ownsRow lo e size v n xs)(i:∀g,v.ownBlock=X g->g<hi)(j:∀g,lo<=g->g<hi->w'.heap[g]?=w.heap[g]?):w'.ownsRow lo e size v n xs:=by
 have k:=h.lt;obtain⟨h1,f⟩:=h;refine⟨h1,?_⟩;rcases f with h|⟨g,cap,a,rfl,b,c,d⟩
 ·exact .inl h
 ·exact .inr ⟨g,cap,a,rfl,b,by rw[j g b (i g rfl)];exact c,d⟩
theorem kh.kept{w w':iW}{hi:Nat}{v:iX}(h:kh w lo hi v ls)(a:∀g,lo<=g->g<hi->w'.heap[g]?=w.heap[g]?):kh w' lo hi v ls:=⟨IR h.1 h.2 a,h.2⟩
theorem fk.kept{w w':iW}{hi:Nat}{v:iX}{rs:List Rw}(h:fk w lo hi v rs)(a:∀g,lo<=g->g<hi->w'.heap[g]?=w.heap[g]?):fk w' lo hi v rs:=
 ⟨IR h.1 h.2.1 a,h.2.1,λr b=>(h.2.2.1 r b).kept a,h.2.2.2⟩
theorem fk.below{w w':iW}{hi:Nat}{v:iX}{rs:List Rw}(h:fk w lo hi v rs)(a:iL w.heap.size w w')(c:hi<=w.heap.size):fk w' lo hi v rs:=h.kept (λg _ b=>a.block g (by omega))
theorem kh.up{w:iW}{hi:Nat}{v:iX}(h:kh w lo hi v ls)(b:hi<=hi'):kh w lo hi' v ls:=⟨h.1,λg a=>eW (h.2 g a) b⟩
theorem fk.up{w:iW}{hi:Nat}{v:iX}{rs:List Rw}(h:fk w lo hi v rs)(a:hi<=hi'):fk w lo hi' v rs:=⟨h.1,λg b=>eW (h.2.1 g b) a,λr c=>(h.2.2.1 r c).up a,h.2.2.2⟩
theorem Ei{w:iW}{u v:iX}{xs j:List iX}(h:w.ownsRow B 81 3 u n xs)(i:w.ownsRow B' 83 2 v m j):∀g,u.ownBlock=X g->v.ownBlock≠X g:=by
 intro g h1 a;rcases h.2 with⟨rfl,-⟩|⟨g1,cap,e,rfl,-,f,-⟩
 ·cases h1
 ·rcases i.2 with⟨rfl,-⟩|⟨g2,b,c,rfl,-,d,-⟩
  ·cases a
  ·simp[Value.ownBlock]at h1 a;subst h1 a;rw[f]at d;simp at d
theorem JC(l:List α)(k:Nat)(a:α)(h:l[k]?=X a):l.set k a=l:=by
 induction l generalizing k with
 |nil=>rfl
 |cons b r c=>
  cases k with
  |zero=>simp at h;subst h;rfl
  |succ k=>rw[ce,c k (by simpa using h)]
theorem Bx{w:iW}{a:Nat}{v:iX}{xs d:List iX}(b:w.ownsRow B 81 3 (Y (X ⟨g,0,O⟩) n a) n xs)(c:w.ownsRow B' 83 2 v m d):v.ownBlock=O∨v.ownBlock≠X g:=Or.inr (Ei b c g rfl)
theorem Q0{R:α->α->Prop}{l:List α}(h:l.Pairwise R)(c:∀a b,R a b->R b a){a b:α}(hi:l[i]?=X a)(f:l[j]?=X b)(g:i≠j):R a b:=by
 obtain⟨h1,rfl⟩:=aC.1 hi;obtain⟨e,rfl⟩:=aC.1 f;rw[pP]at h;by_cases d:i<j
 ·exact h i j h1 e d
 ·exact c _ _ (h j i e h1 (by omega))
theorem Rb(a b:iX)(h:a.ownBlock=O∨a.ownBlock≠b.ownBlock):b.ownBlock=O∨b.ownBlock≠a.ownBlock:=by
 cases c:b.ownBlock with
 |none=>exact Or.inl rfl
 |some g=>
  refine Or.inr (λe=>?_)
  rcases h with h|h
  ·rw[h]at e;cases e
  ·exact h (by rw[c,e])
theorem fk.leaves{w w':iW}{hi:Nat}{v:iX}{rs:List Rw}{r:Rw}{ls':List (Int×ByteArray)}(h:fk w lo hi v rs)(c:rs[k]?=X r)(f:w.grownBy w' r.2.2.1.ownBlock)(m:kh w' lo hi r.2.2.1 ls'):
 fk w' lo hi v (rs.set k (r.1,r.2.1,r.2.2.1,ls')):=by
 have d:=h.2.2.1 r (aL c);refine⟨?_,h.2.1,λx o=>?_,?_⟩
 ·have l:(rs.set k (r.1,r.2.1,r.2.2.1,ls')).map gt=rs.map gt:=by
   rw[sU];exact JC _ _ _ (by rw[bh,c];rfl)
  rw[l,gK];refine h.1.kept f ?_;cases n:v.ownBlock with
  |none=>exact Or.inl rfl
  |some g=>exact Or.inr (λe=>Ei h.1 d.1 g n e.symm)
 ·obtain⟨i,hi,rfl⟩:=pw o;have hi2:i<rs.length:=by simpa using hi
  by_cases a:k=i
  ·subst a;simp only[List.getElem_set_self];exact m
  ·rw[List.getElem_set_ne a];have b:=h.2.2.1 rs[i] (rl _);refine⟨b.1.kept f ?_,b.2⟩;exact Q0 h.2.2.2 Rb (i:=i) (j:=k) (by rw[bh,ay hi2];rfl) (by rw[bh,c];rfl) (λe=>a e.symm)
 ·rw[sU];simp only;rw[JC _ _ _ (by rw[bh,c];rfl)]
  exact h.2.2.2
end Go.Proofs.YtgigcooffjjbgaaGreatDoor
