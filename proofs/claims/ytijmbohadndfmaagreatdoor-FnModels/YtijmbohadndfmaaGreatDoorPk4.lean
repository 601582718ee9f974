/-
  StoM2; StoM3; StoM4; StoM5; StoM6; StoM7; DvM; BkP
-/
import Derived.Test.YtijmbohadndfmaaGreatDoorPk3
import Derived.Test.YtijmbohadndfmaaGreatDoorPk2
open Option renaming none→O,some→X
open Go.Ending renaming returned→G
open Bool renaming true→iV,false→iF
namespace Go.Proofs.YtijmbohadndfmaaGreatDoor
namespace Words
variable{id r:Int}{v:Int × Int}{k i:Nat}
theorem Qf{l:List (Int×Int)}(h:∀v∈l,v.1≠id):(gG l id r).length=l.length+1:=by
 rw[gG,aT,aR];have d:(l.filter (λv=>decide (v.1<id))).length+(l.filter (λv=>decide (id<v.1))).length=l.length:=by
  induction l with
  |nil=>rfl
  |cons v l c=>
   have i:=c (λu b=>h u (qz _ b))
   have e:=h v mT;rw[iH,iH];by_cases a:v.1<id
   ·rw[aj (by simpa using a),ai (by simp;omega),aR,aR];omega
   ·rw[ai (by simpa using a),aj (by simp;omega),aR,aR];omega
 omega
theorem rE{l:List (Int×Int)}(h:v∈gG l id r):v=(id,r)∨v∈l:=by
 rw[gG,br,bf,dR,dR]at h;rcases h with h|h|h
 ·exact .inr h.1
 ·exact .inl h
 ·exact .inr h.1
theorem Pj{l:List (Int×Int)}(h:v∈l)(b:v.1≠id):v∈gG l id r:=by
 rw[gG,br,bf,dR,dR];by_cases a:v.1<id
 ·exact .inl ⟨h,by simpa using a⟩
 ·exact .inr (.inr ⟨h,by simp;omega⟩)
theorem Sp{l:List (Int×Int)}(h:l.Pairwise (λu v=>u.1<v.1)):(gG l id r).Pairwise (λu v=>u.1<v.1):=by
 rw[gG,eW,gK];refine⟨h.filter _,⟨?_,h.filter _⟩,?_⟩
 ·intro v a
  simpa using(dR.1 a).2
 ·intro u b v a;have h1:u.1<id:=by simpa using(dR.1 b).2
  rcases bf.1 a with e|e
  ·rw[e];exact h1
  ·have:id<v.1:=by simpa using(dR.1 e).2
   omega
variable{s:Sto}
theorem Jb(h:s.Right){q:Int}(b:1<=id/\id<=9)(c:∀v∈s.fV,v.1≠id)(m:s.fV.length<3)(i:bO s.fK q=iV)(f:∀k:Nat,k<=15->cX s.fK q k<s.next):(Sto.mk (gG s.fV id q) s.fK s.next).Right:=by
 refine⟨⟨?_,h.ar,h.nx,?_,Sp h.asc,?_,?_⟩,?_⟩
 ·show(gG s.fV id q).length<=3;rw[Qf c];omega
 ·intro v a;rcases rE a with e|e
  ·rw[e];exact b
  ·exact h.ids v e
 ·intro v a;rcases rE a with e|e
  ·rw[e];exact i
  ·exact h.root v e
 ·intro v a;rcases rE a with e|e
  ·rw[e];exact f
  ·exact h.less v e
 ·intro j g;have:=h.used j g;rw[bw,pO]at this⊢;obtain⟨r,l,d⟩:=this;obtain⟨v,a,rfl⟩:=bF.1 l;exact⟨v.2,bF.2 ⟨v,Pj a (c v a),rfl⟩,d⟩
theorem xR(h:s.Near)(k:Nat):(Sto.mk (s.fV.take k++s.fV.drop (k+1)) s.fK s.next).Near:=by
 have a:(s.fV.take k++s.fV.drop (k+1)).Sublist s.fV:=by
  rw[<-List.eraseIdx_eq_take_drop_succ];exact List.eraseIdx_sublist _ _
 exact⟨bR a.length_le h.few,h.ar,h.nx,λv b=>h.ids v (a.subset b),h.asc.sublist a,λv b=>h.root v (a.subset b),λv b=>h.less v (a.subset b)⟩
theorem VI{l:List (Int×Int)}{q:Int}(b:l[k]?=X v):(l.set k (v.1,q)).map (·.1)=l.map (·.1):=by
 rw[p8];obtain⟨h1,a⟩:=aD.1 b;have:(l.map (·.1))[k]'(by simpa using h1)=v.1:=by rw[Bw,a]
 show(l.map (·.1)).set k v.1=_
 rw[<-this];exact Jm _
theorem DP(h:s.Near)(o:s.fV[k]?=X v){c:Int}(hi:i<=15)(h0:0<=c)(y:c<1000000000):
 (Sto.mk (s.fV.set k (v.1,jo s.fK v.2 (i:Int) c)) (gN s.fK v.2 (i:Int) c) (if s.next<=c then c+1 else s.next)).Near/\
  cV (Sto.mk (s.fV.set k (v.1,jo s.fK v.2 (i:Int) c)) (gN s.fK v.2 (i:Int) c) (if s.next<=c then c+1 else s.next))=(cV s).set k (v.1,(ce s.fK v.2).set i c):=by
 have m:=aH o;have d:kX s.fK v.2:=⟨h.ar,h.root v m⟩;obtain⟨q,r⟩:=Ab (n:=c) d hi h0;rw[q,r];have p:s.next<=(if s.next<=c then c+1 else s.next)/\c<(if s.next<=c then c+1 else s.next)/\(if s.next<=c then c+1 else s.next)<=1000000000:=by
  have:=h.nx;split<;>omega
 generalize(if s.next<=c then c+1 else s.next)=nx at p⊢
 have w:=h.nx;refine⟨⟨by show(s.fV.set k _).length<=3;rw[iy];exact h.few,(xF d hi h0).1,⟨by show 1<=nx;omega,p.2.2⟩,?_,?_,?_,?_⟩,?_⟩
 ·intro u l;rcases mF l with e|e
  ·exact h.ids u e
  ·rw[e];exact h.ids v m
 ·have:=h.asc;rw[<-qi (f:=λ(x:Int×Int)=>x.1) (R:=λa b=>a<b)]at this⊢
  show((s.fV.set k _).map _).Pairwise _;rw[VI o];exact this
 ·intro u l;rcases mF l with e|e
  ·exact(zJ d hi h0 (h.root u e)).2
  ·rw[e];exact(xF d hi h0).2
 ·intro u l j g;show cX (pt s.fK v.2 i c) u.2 j<nx;rcases mF l with e|e
  ·have a:=Ga d hi h0 (h.root u e) g;rw[mP (zJ d hi h0 (h.root u e)) g,mP ⟨h.ar,h.root u e⟩ g]at a;rw[a];have:=h.less u e j g;omega
  ·rw[e];have a:=Fg d hi h0 g;rw[mP (xF d hi h0) g,mP d g]at a;rw[a];split
   ·omega
   ·have:=h.less v m j g;omega
 ·unfold cV;show(s.fV.set k _).map _=_;rw[p8];have t:s.fV.map (λu=>(u.1,ce (pt s.fK v.2 i c) u.2))=s.fV.map (λu=>(u.1,ce s.fK u.2)):=
   sJ λu l=>by rw[VN d hi h0 (h.root u l)]
  rw[t];congr 1;show(v.1,ce (pt s.fK v.2 i c) (vZ s.fK))=_;congr 1;refine kM λj=>?_
  rw[uw];unfold ce;simp only[bk,aS,List.length_range];by_cases g:j<16
  ·rw[AJ g];simp only[kg];rw[Fg d hi h0 (by omega)]
   by_cases e:i=j
   ·subst e;rw[aj rfl,aj rfl,aj (by omega)]
   ·rw[ai (Ne.symm e),ai e]
  ·rw[List.getElem?_eq_none (by simp;omega)]
   simp only[Option.map_none];by_cases e:i=j
   ·omega
   ·rw[ai e]
theorem DY(h:s.Near):∀k:Nat,k<=15->cX s.fK (-1) k<s.next:=by
 intro k _;rw[cX,aj (by omega)]
 have:=h.nx;omega
theorem Eb(l:List Kn):bO l (-1)=iV:=by simp[bO]
theorem Lo{q:Int}(e:mR s.fV id=X q):(id,q)∈s.fV:=by
 rw[mR]at e;cases a:bY s.fV id with
 |none=>rw[a]at e;cases e
 |some k=>
  rw[a]at e;obtain⟨v,c,b⟩:=qa a;simp only[kV,c,kg,fu]at e;have:=aH c;rw[<-b,<-e];exact this
theorem Ac:gO.Right:=by
 refine⟨⟨by decide,rfl,by decide,?_,List.Pairwise.nil,?_,?_⟩,?_⟩
 all_goals intro v a;first|cases a|(exact absurd a (Nat.not_lt_zero _))
theorem Fz{n:Int}(h:1<=n/\n<=1000000000):(Sto.mk [] [] n).Right:=by
 refine⟨⟨by show 0<=3;omega,rfl,h,?_,List.Pairwise.nil,?_,?_⟩,?_⟩
 all_goals intro v a;first|cases a|(exact absurd a (Nat.not_lt_zero _))
theorem yt(h:s.Right)(r:Rc):(aX s r).1.Right:=by
 unfold aX;split
 ·rename_i hb
  obtain⟨-,⟨e,g⟩⟩:=hb;split
  ·refine Fz ?_;split<;>omega
  ·rename_i hk1
   split
   ·rename_i hk2
    unfold ft;split
    ·exact h
    ·rename_i q hq
     split
     ·exact h
     ·rename_i hc
      simp only[jd,bW,rD,Bool.not_eq_true,Lh,tJ]at hc;have f:=h.few;have a:bO s.fK q=iV/\∀k:Nat,k<=15->cX s.fK q k<s.next:=by
       split at hq
       ·have b:=Lo hq;exact⟨h.root _ b,h.less _ b⟩
       ·injection hq with hq
        subst hq;exact⟨Eb _,DY h.toNear⟩
      exact Jb h (by omega) (Dj hc.1) (by omega) a.1 a.2
   ·split
    ·exact h
    ·rename_i k ha2
     split
     ·exact h
     ·split
      ·exact yZ (xR h.toNear k)
      ·rename_i hcn hk3
       obtain⟨v,d,-⟩:=qa ha2;rw[d,pL];have hi:r.arg.toNat<=15:=by omega
       have:=(DP h.toNear d (c:=r.fC) hi (by omega) (by omega)).1
       rw[show((r.arg.toNat:Nat):Int)=r.arg by omega]at this
       exact yZ this
 ·exact h
end Words
namespace Words
theorem Gl(l:List Kn):ce l (-1)=List.replicate 16 0:=by
 have:∀s:Int,gF l (-1) s=0:=by
  intro s;rw[gF];split
  ·rw[cX,aj (by omega)]
  ·rfl
 unfold ce;simp only[this];rfl
theorem ux(l:List Kn)(r:Int):(ce l r).length=16:=by simp[ce]
variable{r id:Int}{v:Int × Int}{i k j:Nat}
theorem Hc(l:List Kn)(r:Int)(hi:i<16):(ce l r)[i]?=X (gF l r (i:Int)):=by
 unfold ce;rw[bk,AJ hi];rfl
variable{l:List Kn}
theorem Pv(h:kX l r)(hi:i<=15):0<=cX l r i:=by
 have:=(Af h.1 h.2 (show i/4<4 by omega) (show i % 4<4 by omega)).2
 rwa [show 4*(i/4)+i % 4=i by omega]at this
theorem uH(s:Sto):(cV s).length=s.fV.length:=by simp[cV]
variable{s:Sto}
theorem rx(h:s.fV[k]?=X v):(cV s)[k]?=X (v.1,ce s.fK v.2):=by
 rw[cV,bk,h];rfl
theorem Q3{l:List (Int×Int)}(h:l.Pairwise (λu v=>u.1<v.1)){u:Int×Int}(hi:l[i]?=X u)(k:l[j]?=X v)(e:u.1=v.1):i=j:=by
 obtain⟨c,d⟩:=aD.1 hi;obtain⟨f,g⟩:=aD.1 k;have b:=mJ.1 h;rcases Nat.lt_trichotomy i j with a|a|a
 ·have:=b i j c f a;rw[d,g]at this;omega
 ·exact a
 ·have:=b j i f c a;rw[d,g]at this;omega
theorem JM{l:List (Int×Int)}(h:l.Pairwise (λu v=>u.1<v.1))(a:l[j]?=X v):bY l v.1=X j:=by
 obtain⟨k,b⟩:=Zd (aH a) rfl;obtain⟨u,c,e⟩:=qa b;rw[b,Q3 h c a e]
theorem Pu{l:List (Int×Int)}(h:l.Pairwise (λu v=>u.1<v.1))(b:v∈l):mR l v.1=X v.2:=by
 obtain⟨i,hi,e⟩:=qI.1 b;have a:l[i]?=X v:=by rw[<-e];exact ay hi
 rw[mR,JM h a,kV,a];rfl
theorem Vb{l:List (Int×Int)}(h:∀v∈l,v.1≠id):bY l id=O:=by
 cases e:bY l id with
 |none=>rfl
 |some k=>
  obtain⟨v,b,a⟩:=qa e;exact absurd a (h v (aH b))
theorem Oz(h:s.Right){L:List Int}(a:(id,L)∈cV s)(hi:i<16):X (iE s id (i:Int))=L[i]?:=by
 obtain⟨v,b,e⟩:=bF.1 a;injection e with e1 e2
 subst e1;subst e2;rw[iE,Pu h.asc b,Hc _ _ hi]
theorem Mb{n:Sto}(h:n.Right)(c:1<=id/\id<=9)(e:n.fV.length<3)(d:∀v∈n.fV,v.1<id):
 ∃m,aX n ⟨2,id,0,0⟩=(m,iV)/\m.Right/\cV m=cV n++[(id,List.replicate 16 0)]/\m.next=n.next:=by
 have b:∀v∈n.fV,v.1≠id:=λv a=>by have:=d v a;omega
 have f:(Rc.mk 2 id 0 0).Right:=by
  unfold Rc.Right
  dsimp only
  omega
 have a:gG n.fV id (-1)=n.fV++[(id,-1)]:=by
  rw[gG,zR.2 (λv a=>by simpa using d v a),mt.2 (λv a=>by have:=d v a;simp;omega)]
 refine⟨⟨gG n.fV id (-1),n.fK,n.next⟩,?_,Jb h c b e (Eb _) (DY h.toNear),?_,rfl⟩
 ·rw[aX,aj ⟨(jQ n).2 h,f⟩];simp only[show¬((2:Int)=1)by omega,eT,cW,ft,Int.lt_irrefl,Vb b,Option.isSome_none,xK,bW]
  rw[ai (by omega)]
 ·unfold cV;show(gG n.fV id (-1)).map _=_;rw[a,dB,cD,nZ,Gl]
theorem Qo{n:Sto}(h:n.Right){L:List Int}{t:List (Int×List Int)}(b:cV n=t++[(id,L)]){c:Int}(hi:i<=15)(l:1<=c/\c<n.next):
 ∃m,aX n ⟨4,id,(i:Int),c⟩=(m,iV)/\m.Right/\cV m=t++[(id,L.set i c)]/\m.next=n.next:=by
 have o:n.fV.length=t.length+1:=by rw[<-uH,b];simp
 have a:=ay (show t.length<n.fV.length by omega)
 generalize n.fV[t.length]=v at a;have h1:=rx a;rw[b,dz (ak _),ja]at h1;injection h1 with h1
 injection h1 with e1 e2
 subst e1;subst e2;have f:=aH a;have e:=h.ids v f;have g:=h.nx;have j:(Rc.mk 4 v.1 (i:Int) c).Right:=by
  unfold Rc.Right
  dsimp only
  omega
 obtain⟨d,k⟩:=DP h.toNear a hi (show 0<=c by omega) (show c<1000000000 by omega)
 refine⟨oT n t.length v ⟨4,v.1,(i:Int),c⟩,?_,yZ d,?_,?_⟩
 ·rw[aX,aj ⟨(jQ n).2 h,j⟩];simp only[show¬((4:Int)=1)by omega,show¬((4:Int)=2)by omega,show¬((4:Int)=3)by omega,eT,JM h.asc a,a,pL]
  rw[ai (by omega)]
 ·rw[oT,vT d,k,b,ii _ _ (ak _),ja];rfl
 ·show(if n.next<=c then c+1 else n.next)=n.next
  rw[ai (by omega)]
theorem xy(s:Sto)(a b:List Rc):dL s (a++b)=(dL s a).bind (λn=>dL n b):=by
 induction a generalizing s with
 |nil=>rfl
 |cons r a c=>
  rw[jf,dL,dL];split
  ·exact c _
  ·rfl
theorem LH{m:Sto}{r:Rc}(h:aX s r=(m,iV)):dL s [r]=X m:=by
 rw[dL,h,aj rfl,dL]
theorem Jx(id:Int)(L:List Int)(k:Nat):jW id L (k+1)=jW id L k++(if 0<(L[k]?).getD 0 then[⟨4,id,(k:Int),(L[k]?).getD 0⟩]else[]):=by
 rw[jW,jW,qb,nh];congr 1;simp only[pW,vM];split
 ·rename_i h;split at h
  ·cases h
  ·rename_i h2;rw[ai h2]
 ·rename_i x h;split at h
  ·rename_i h2;injection h with h;rw[aj h2,h]
  ·cases h
theorem UT{n:Sto}(h:n.Right){L:List Int}{t:List (Int×List Int)}(j:cV n=t++[(id,List.replicate 16 0)])(p:L.length=16)(i:∀c∈L,0<=c/\c<n.next):
 ∀k,k<=16->∃m,dL n (jW id L k)=X m/\m.Right/\cV m=t++[(id,L.take k++List.replicate (16-k) 0)]/\m.next=n.next:=by
 intro k
 induction k with
 |zero=>intro _;exact⟨n,rfl,h,j,rfl⟩
 |succ k o=>
  intro q;obtain⟨m,h1,d,f,h4⟩:=o (by omega)
  have e:=ay (show k<L.length by omega)
  have l:=i _ (aH e);have a:L.take (k+1)=L.take k++[L[k]]:=by rw[ge (by omega)]
  have b:List.replicate (16-k) (0:Int)=0::List.replicate (16-(k+1)) 0:=by rw[show 16-k=(16-(k+1))+1 by omega,List.replicate_succ]
  rw[Jx,e,pL];generalize L[k]=c at l a;by_cases h0:0<c
  ·rw[aj h0,xy,h1,kV];obtain⟨m2,g1,g2,g3,g⟩:=Qo d f (show k<=15 by omega) (show 1<=c/\c<m.next by rw[h4];omega)
   refine⟨m2,LH g1,g2,?_,g.trans h4⟩;rw[g3,b,ii _ _ (by simp;omega),dk,show k-min k L.length=0 by omega,a,fJ]
   rfl
  ·rw[ai h0,eM];refine⟨m,h1,d,?_,h4⟩;have:c=0:=by omega
   subst this;rw[f,b,a,fJ];rfl
theorem XJ(h:s.Right):∀k,k<=s.fV.length->∃m,dL ⟨[],[],s.next⟩ ((s.fV.take k).flatMap (pY s.fK))=X m/\m.Right/\cV m=(cV s).take k/\m.next=s.next:=by
 intro k
 induction k with
 |zero=>intro _;exact⟨⟨[],[],s.next⟩,rfl,Fz h.nx,rfl,rfl⟩
 |succ k z=>
  intro H;obtain⟨m,h1,r,d,h4⟩:=z (by omega)
  have e:=ay (show k<s.fV.length by omega)
  have p:s.fV.take (k+1)=s.fV.take k++[s.fV[k]]:=by rw[ge (by omega)]
  have q:=rx e;obtain⟨E,F⟩:=aD.1 q;have n:=aH e;have x:=mJ.1 h.asc;have j:∀u∈m.fV,u.1<(s.fV[k]).1:=by
   intro u y;have:(u.1,ce m.fK u.2)∈(cV s).take k:=by rw[<-d];exact bF.2 ⟨u,y,rfl⟩
   obtain⟨i,hi,b⟩:=qI.1 this;rw[ww]at b;have g:i<k:=by rw[dk]at hi;omega
   simp only[cV,Bw]at b;injection b with a e4
   rw[<-a];exact x i k (by omega) (by omega) g
  have w:m.fV.length=k:=by
   rw[<-uH,d,dk,uH];omega
  have G:=h.few;generalize s.fV[k]=v at*;obtain⟨m1,g1,g2,g3,o⟩:=Mb r (h.ids v n) (by omega) j
  have f:∀c∈ce s.fK v.2,0<=c/\c<m1.next:=by
   intro c t;obtain⟨i,hi,b⟩:=qI.1 t;rw[ux]at hi;have a:=Hc s.fK v.2 hi;rw[ay (by rw[ux];exact hi),b]at a
   injection a with a
   have tk:kX s.fK v.2:=⟨h.ar,h.root v n⟩;rw[a,mP tk (by omega),o,h4]
   exact⟨Pv tk (by omega),h.less v n i (by omega)⟩
  obtain⟨m2,A,B,C,D⟩:=UT g2 g3 (ux _ _) f 16 (ak _);refine⟨m2,?_,B,?_,by rw[D,o,h4]⟩
  ·rw[p,tR,xy,h1,kV];show dL m (pY s.fK v++[])=_;rw[eM,pY,dL,g1,aj rfl];exact A
  ·rw[C,d,ge E,F,cm (l:=ce s.fK v.2) (by rw[ux];omega)]
   simp
theorem Ru{x:Sto}(h:s.Right)(d:x.Right):∃m,dL x (gZ s)=X m/\m.Right/\cV m=cV s/\m.next=s.next:=by
 obtain⟨m,h1,b,a,h4⟩:=XJ h _ (ak _);rw[cm (ak _)]at h1;rw[cm (by rw[uH];omega)]at a
 have f:=h.nx;have c:(Rc.mk 1 0 s.next 0).Right:=by
  unfold Rc.Right
  dsimp only
  omega
 refine⟨m,?_,b,a,h4⟩;have e:aX x ⟨1,0,s.next,0⟩=(⟨[],[],s.next⟩,iV):=by
  rw[aX,aj ⟨(jQ x).2 d,c⟩,aj rfl]
  dsimp only
  rw[ai (by omega)]
 rw[gZ,dL,e,aj rfl];exact h1
end Words
namespace Words
variable{x y:Int}
variable{s:Sto}
theorem Ec(h:s.Right):s.fK.length<=15:=by
 have e:(List.range s.fK.length).countP (bw s.fK (cC s.fV))=s.fK.length:=GC h.used _ (ak _);have c:=VU ((cC s.fV).flatMap (λr=>r.toNat::(List.range 4).map (λk=>(dH s.fK r k).toNat))) s.fK.length (bw s.fK (cC s.fV)) (by
  intro i hi;rw[bw,pO]at hi;obtain⟨r,d,a⟩:=hi;rw[lE];refine⟨r,d,?_⟩;rcases(rH (zZ a)).1 a with q|⟨k,b,q⟩
  ·rw[bf];left;omega
  ·rw[bf,bF];right;exact⟨k,ju.2 b,by omega⟩)
 have g:((cC s.fV).flatMap (λr=>r.toNat::(List.range 4).map (λk=>(dH s.fK r k).toNat))).length=5*s.fV.length:=by
  unfold cC;generalize s.fV=l
  induction l with
  |nil=>rfl
  |cons v l f=>rw[cD,qn,aT,f];simp;omega
 have:=h.few;omega
def tV(l:List Int):Prop:=l.Pairwise (λa b=>a<b)/\∀x∈l,0<x
theorem JE{l:List Int}(h:tV l):y∈eD l x↔y∈l∨(0<x/\y=x):=by
 unfold eD;rw[br,br,dR,dR];simp only[bW];constructor
 ·rintro((q|q)|q)
  ·exact .inl q.1
  ·split at q
   ·rename_i hx;rw[bT]at q;exact .inr ⟨hx,q⟩
   ·cases q
  ·exact .inl q.1
 ·rintro(q|⟨b,c⟩)
  ·have:=h.2 y q;by_cases e:y=x
   ·subst e;rw[aj this];exact .inl (.inr (bT.2 rfl))
   ·by_cases a:y<x
    ·exact .inl (.inl ⟨q,a⟩)
    ·exact .inr ⟨q,by omega⟩
  ·subst c;rw[aj b];exact .inl (.inr (bT.2 rfl))
theorem Vh{l:List Int}(h:tV l)(x:Int):tV (eD l x):=by
 refine⟨?_,λy hy=>?_⟩
 ·unfold eD;rw[fJ,eW,eW];refine⟨h.1.filter _,⟨?_,h.1.filter _,?_⟩,?_⟩
  ·split
   ·exact mA _ _
   ·exact List.Pairwise.nil
  ·intro a d b c;have e:x<b:=by simpa using(dR.1 c).2
   split at d
   ·rw[bT]at d;omega
   ·cases d
  ·intro a d b c;have f:a<x:=by simpa using(dR.1 d).2
   rcases br.1 c with c|c
   ·split at c
    ·rw[bT]at c;omega
    ·cases c
   ·have e:x<b:=by simpa using(dR.1 c).2
    omega
 ·rcases(JE h).1 hy with q|⟨g,i⟩
  ·exact h.2 y q
  ·omega
theorem Qn{l:List Int}(h:tV l)(L:List Int):tV (L.foldl eD l)/\∀y,y∈L.foldl eD l↔y∈l∨(0<y/\y∈L):=by
 induction L generalizing l with
 |nil=>exact⟨h,λy=>by simp⟩
 |cons x L d=>
  obtain⟨h1,c⟩:=d (Vh h x);refine⟨h1,λy=>?_⟩
  rw[nT,c,JE h,bf];constructor
  ·rintro((q|⟨b,a⟩)|⟨b,a⟩)
   ·exact .inl q
   ·subst a;exact .inr ⟨b,.inl rfl⟩
   ·exact .inr ⟨b,.inr a⟩
  ·rintro(q|⟨b,a|a⟩)
   ·exact .inl (.inl q)
   ·subst a;exact .inl (.inr ⟨b,rfl⟩)
   ·exact .inr ⟨b,a⟩
def qA(s:Sto):List Int:=s.fV.flatMap (λv=>ce s.fK v.2)
theorem BP(s:Sto):be s=(qA s).foldl eD []:=by
 unfold be qA;generalize([]:List Int)=acc;generalize s.fV=l
 induction l generalizing acc with
 |nil=>rfl
 |cons v l a=>rw[nT,a,qn,rG]
theorem ri(s:Sto)(y:Int):y∈be s↔0<y/\y∈qA s:=by
 rw[BP,(Qn ⟨List.Pairwise.nil,λ_ h=>by cases h⟩ _).2]
 simp
end Words
namespace Words
variable{s:Sto}
theorem T9(h:s.Right)(r a c:Int):∀x∈gN s.fK r a c,x.fD.length<=1048576:=by
 have gJ:∀l:List Kn,cO l=iV->∀x∈l,x.fD.length<=1048576:=λl f x g=>by
  obtain⟨i,hi,e⟩:=qI.1 g;have:=lY (lA f (i:=i) (x:=x) (by rw[<-e];exact ay hi))
  omega
 unfold gN;split
 ·rename_i hp
  rw[lO,kL]at hp;simp only[bt,bW]at hp;obtain⟨⟨⟨h1,b⟩,j,h4⟩,d⟩:=hp;exact gJ _ (zC h1 b (by omega) d)
 ·exact gJ _ h.ar
end Words
namespace Words
variable{v:Int × Int}
variable{s:Sto}
theorem qG{r:Rc}(h:(aX s r).2=iF):(aX s r).1=s:=by
 unfold aX ft at h⊢;split
 ·rename_i hb
  rw[aj hb]at h;split
  ·rename_i h1
   rw[aj h1]at h;cases h
  ·rename_i h1
   rw[ai h1]at h;split
   ·rename_i h2
    rw[aj h2]at h;split
    ·rfl
    ·rename_i q hq
     rw[hq]at h;simp only at h;split
     ·rfl
     ·rename_i h3
      rw[ai h3]at h;cases h
   ·rename_i h2
    rw[ai h2]at h;cases a:bY s.fV r.vol with
    |none=>rfl
    |some k=>
     rw[a]at h;simp only at h⊢;split
     ·rfl
     ·rename_i h3
      rw[ai h3]at h;split
      ·rename_i h4
       rw[aj h4]at h;cases h
      ·rename_i h4
       rw[ai h4]at h;cases h
 ·rfl
theorem nF{r:Rc}(h:(aX s r).2=iV):s.Right/\r.Right:=by
 unfold aX at h;split at h
 ·rename_i hb
  exact⟨(jQ s).1 hb.1,hb.2⟩
 ·cases h
theorem IL{r:Rc}(h:(aX s r).2=iV)(b:r.kind=1):(aX s r).1.fV=[]:=by
 have a:=nF h;rw[aX,aj ⟨(jQ s).2 a.1,a.2⟩,aj b]
theorem KG(h:v∈s.fV):(v.1,ce s.fK v.2)∈cV s:=bF.2 ⟨v,h,rfl⟩
theorem sP{r:Rc}(h:(aX s r).2=iV)(u:r.kind=4∨r.kind=5):∃k v,s.fV[k]?=X v/\v.1=r.vol/\0<=r.arg/\r.arg<=15/\0<=r.fC/\(r.kind=5->r.fC=0)/\
 cV (aX s r).1=(cV s).set k (v.1,(ce s.fK v.2).set r.arg.toNat r.fC)/\(aX s r).1.next=(if s.next<=r.fC then r.fC+1 else s.next)/\(aX s r).1.fK.length<=s.fK.length+2:=by
 obtain⟨hs,l⟩:=nF h;have f:=l;unfold Rc.Right at f;have d:=(jQ s).2 hs;have o:¬r.kind=1:=by omega
 have p:¬r.kind=2:=by omega
 have q:¬r.kind=3:=by omega
 rw[aX,aj ⟨d,l⟩,ai o,ai p]at h⊢;cases b:bY s.fV r.vol with
 |none=>rw[b]at h;cases h
 |some k=>
  rw[b]at h;simp only at h⊢;by_cases i:r.fC=1000000000
  ·rw[aj i]at h;cases h
  ·rw[ai i,ai q];obtain⟨v,a,e⟩:=qa b;rw[a,pL];have hi:r.arg.toNat<=15:=by omega
   obtain⟨g,m⟩:=DP hs.toNear a (c:=r.fC) hi (by omega) (by omega)
   have t:kX s.fK v.2:=⟨hs.ar,hs.root v (aH a)⟩;have j:=(Ab (n:=r.fC) t hi (by omega)).1
   rw[show((r.arg.toNat:Nat):Int)=r.arg by omega]at g m j
   refine⟨k,v,a,e,by omega,by omega,by omega,by omega,?_,rfl,?_⟩
   ·show cV (oT s k v r)=_;rw[oT,vT g,m]
   ·show(oT s k v r).fK.length<=_;rw[oT,sk g];refine bR OK ?_;show(gN s.fK v.2 r.arg r.fC).length<=_;rw[j,pt];simp
theorem Qt{r:Rc}(h:(aX s r).2=iV)(d:r.kind=4∨r.kind=5):iE (aX s r).1 r.vol r.arg=r.fC/\r.fC<(aX s r).1.next/\s.next<=(aX s r).1.next:=by
 obtain⟨k,v,l,a,h0,b,m,-,j,g,-⟩:=sP h d;have c:=yt (nF h).1 r;have e:=(aD.1 l).1;have f:(v.1,(ce s.fK v.2).set r.arg.toNat r.fC)∈cV (aX s r).1:=by
  rw[j];exact zL.2 ⟨k,by rw[ku (by rw[uH];exact e)]⟩
 have:=Oz c f (i:=r.arg.toNat) (by omega)
 rw[show((r.arg.toNat:Nat):Int)=r.arg by omega,a,ku (by rw[ux];omega)]at this
 injection this with this
 refine⟨this,?_,?_⟩<;>rw[g]<;>split<;>omega
theorem tT{r:Rc}(h:(aX s r).2=iV)(d:r.kind=2):∃q,(aX s r).1=⟨gG s.fV r.vol q,s.fK,s.next⟩/\(∀v∈s.fV,v.1≠r.vol)/\s.fV.length<3/\(0<r.arg->(r.arg,q)∈s.fV)/\(¬0<r.arg->q= -1):=by
 obtain⟨hs,e⟩:=nF h;have c:=(jQ s).2 hs;rw[aX,aj ⟨c,e⟩,ai (by omega),aj d,ft]at h⊢
 have f:=hs.few;split at h
 ·cases h
 ·rename_i q hq
  by_cases a:((bY s.fV r.vol).isSome||decide (s.fV.length=3))=iV
  ·rw[aj a]at h;cases h
  ·rw[ai a];simp only[jd,bW,rD,Bool.not_eq_true,Lh,tJ]at a;refine⟨q,rfl,Dj a.1,by omega,λb=>?_,λb=>?_⟩
   ·rw[aj b]at hq;exact Lo hq
   ·rw[ai b]at hq;injection hq with hq
    exact hq.symm
theorem Xr(h:s.Near)(a:v∈(g9 s).fV):∃u∈s.fV,u.1=v.1:=by
 rw[pG h]at a;obtain⟨u,b,rfl⟩:=bF.1 a;exact⟨u,b,rfl⟩
theorem JO(h:s.Right)(r:Rc):∀v∈(aX s r).1.fV,v.1=r.vol∨∃u∈s.fV,u.1=v.1:=by
 cases a:(aX s r).2 with
 |false=>rw[qG a];exact λv b=> .inr ⟨v,b,rfl⟩
 |true=>
  have l:=(nF a).2;have f:=l;unfold Rc.Right at f;by_cases m:r.kind=1
  ·rw[IL a m];intro v b;exact(dV b).elim
  by_cases n:r.kind=2
  ·obtain⟨q,e,-⟩:=tT a n;rw[e];intro v b;rcases rE b with e|e
   ·rw[e];exact .inl rfl
   ·exact .inr ⟨v,e,rfl⟩
  by_cases t:r.kind=3
  ·rw[aX,aj ⟨(jQ s).2 h,l⟩,ai m,ai n]at a⊢;cases i:bY s.fV r.vol with
   |none=>rw[i]at a;cases a
   |some k=>
    rw[i]at a;simp only at a⊢;by_cases j:r.fC=1000000000
    ·rw[aj j]at a;cases a
    ·rw[ai j,aj t];intro v b;obtain⟨u,g,e⟩:=Xr (xR h.toNear k) b;refine .inr ⟨u,?_,e⟩;rcases br.1 g with q|q
     ·exact qj q
     ·exact qZ q
  ·obtain⟨k,v,b,d,-,-,-,-,o,-⟩:=sP a (by omega)
   intro u g;have:=KG g;rw[o]at this;rcases mF this with e|e
   ·obtain⟨x,p,c⟩:=bF.1 e;injection c with c _
    exact .inr ⟨x,p,c⟩
   ·injection e with e _
    exact .inl (by rw[e,d])
theorem UM(r:Rc)(j:r.kind≠1):(aX s r).1.next=s.next∨(aX s r).1.next=r.fC+1:=by
 cases a:(aX s r).2 with
 |false=>rw[qG a];exact .inl rfl
 |true=>
  obtain⟨h,f⟩:=nF a;have b:=f;unfold Rc.Right at b;by_cases g:r.kind=2
  ·obtain⟨q,e,-⟩:=tT a g;rw[e];exact .inl rfl
  by_cases m:r.kind=3
  ·rw[aX,aj ⟨(jQ s).2 h,f⟩,ai j,ai g]at a⊢;cases c:bY s.fV r.vol with
   |none=>rw[c]at a;cases a
   |some k=>
    rw[c]at a;simp only at a⊢;by_cases d:r.fC=1000000000
    ·rw[aj d]at a;cases a
    ·rw[ai d,aj m];exact .inl rfl
  ·obtain⟨k,v,n,i,-,-,-,-,-,l,-⟩:=sP a (by omega)
   rw[l];split
   ·exact .inr rfl
   ·exact .inl rfl
theorem Qh(s:Sto)(r:Rc):i8 s [r]=aX s r:=by
 rw[i8,dL];cases a:(aX s r).2 with
 |false=>
  rw[ai (by decide)]
  simp only;exact pV (qG a).symm a.symm
 |true=>rw[aj rfl,dL];simp only;rw[<-a]
theorem Ti{m:Sto}(h:s.Right):∀{l:List Rc},dL s l=X m->m.Right:=by
 intro l
 induction l generalizing s with
 |nil=>intro e;injection e with e;rw[<-e];exact h
 |cons r l a=>
  intro e;rw[dL]at e;split at e
  ·exact a (yt h r) e
  ·cases e
end Words
open Words Sums Pack
structure Dv where
 fH:List Bk
 fS:Sto
 seq:Int
 tx:Int
 base:Int
def gI(M:List aq):Int:=M.foldl (λs x=>if s<=x.fP.seq then x.fP.seq+1 else s) 1
def fZ(M:List aq):Int:=M.foldl (λs x=>if x.fP.kind=2/\s<=x.fP.tx then x.fP.tx+1 else s) 1
def cI(M:List aq):List TxR:=jB (dA (M.map aq.fP))
def eQ(T:List TxR):Sto:=T.foldl (λs t=>(i8 s t.fR).1) gO
def lV:List TxR->Int
 | []=>0
 |t::_=>t.num
def jk(bs:List Bk):Dv:=⟨bs,eQ (cI (aw bs)),gI (aw bs),fZ (aw bs),lV (cI (aw bs))⟩
def rZ:Dv:=⟨[],⟨[],[],0⟩,0,0,0⟩
def eV(bs:List Bk):Dv×Bool:=if bn bs then(jk bs,iV)else(rZ,iF)
def mq(d:Dv):Bool:=(eV d.fH).2&&qH (eV d.fH).1.fS d.fS&&decide ((eV d.fH).1.seq=d.seq)&&decide ((eV d.fH).1.tx=d.tx)&&decide ((eV d.fH).1.base=d.base)&&dc d.fS
def kS(p:Pg):ByteArray×Bool:=letI:=p.decR;if p.Right then(dJ (dG p),iV)else(⟨#[]⟩,iF)
def cH(bs:List Bk)(l:List aM)(p:Pg):List Bk×List aM×Bool:=
 if (kS p).2&&(fI bs).2.2 then((cP bs (1,(fI bs).1,(fI bs).2.1,(kS p).1)).1,l++[(1,(fI bs).1,(fI bs).2.1,(kS p).1)],(cP bs (1,(fI bs).1,(fI bs).2.1,(kS p).1)).2)else(bs,l,iF)
def eA:List Bk×List aM×Bool->List Pg->List Bk×List aM×Bool
 |s,[]=>s
 |s,p::ps=>if s.2.2 then eA (cH s.1 s.2.1 p) ps else s
def pe(l:List Rc):Int:=(l.getLast?.map Rc.fC).getD 0
def jZ(seq c:Int)(t:ByteArray):Pg:=⟨1,seq,c,0,1,t⟩
def jw(d:Dv)(l:List Rc)(t:ByteArray):List Bk×List aM×Bool:=if t.size=0 then(d.fH,[],iV)else cH d.fH [] (jZ d.seq (pe l) t)
def eI(d:Dv)(t:ByteArray):Int:=if t.size=0 then d.seq else d.seq+1
def dY(d:Dv)(l:List Rc)(t:ByteArray):List aM×Bool:=
 if l.length=0 then([],iV)
 else if (eA (jw d l t) (jC (eI d t) d.tx l)).2.2&& @decide (io (eI d t) d.tx l) (mD (eI d t) d.tx l)then((eA (jw d l t) (jC (eI d t) d.tx l)).2.1,iV)else([],iF)
def fF(d:Dv)(l:List aM):Dv:=(eV (da d.fH l).1).1
structure Up (d:Dv):Prop where
 ok:bn d.fH=iV
 is:d=jk d.fH
theorem Et(M:List aq):∀x∈M,x.fP.seq<gI M:=by
 have h:∀(L:List aq) (s:Int),s<=L.foldl (λs x=>if s<=x.fP.seq then x.fP.seq+1 else s) s/\∀x∈L,x.fP.seq<L.foldl (λs x=>if s<=x.fP.seq then x.fP.seq+1 else s) s:=by
  intro L
  induction L with
  |nil=>intro s;exact⟨kN _,λx a=>by cases a⟩
  |cons y L c=>
   intro s;rw[nT];obtain⟨h1,b⟩:=c (if s<=y.fP.seq then y.fP.seq+1 else s)
   have d:s<=(if s<=y.fP.seq then y.fP.seq+1 else s)/\y.fP.seq<(if s<=y.fP.seq then y.fP.seq+1 else s):=by split<;>omega
   refine⟨?_,λx a=>?_⟩
   ·omega
   ·rcases bf.1 a with e|e
    ·subst e;omega
    ·exact b x e
 exact(h M 1).2
theorem Cv(M:List aq):∀x∈M,x.fP.kind=2->x.fP.tx<fZ M:=by
 have h:∀(L:List aq) (s:Int),s<=L.foldl (λs x=>if x.fP.kind=2/\s<=x.fP.tx then x.fP.tx+1 else s) s/\∀x∈L,x.fP.kind=2->x.fP.tx<L.foldl (λs x=>if x.fP.kind=2/\s<=x.fP.tx then x.fP.tx+1 else s) s:=by
  intro L
  induction L with
  |nil=>intro s;exact⟨kN _,λx a=>by cases a⟩
  |cons y L f=>
   intro s;rw[nT];obtain⟨h1,c⟩:=f (if y.fP.kind=2/\s<=y.fP.tx then y.fP.tx+1 else s)
   have d:s<=(if y.fP.kind=2/\s<=y.fP.tx then y.fP.tx+1 else s)/\(y.fP.kind=2->y.fP.tx<(if y.fP.kind=2/\s<=y.fP.tx then y.fP.tx+1 else s)):=by split<;>omega
   refine⟨?_,λx a b=>?_⟩
   ·omega
   ·rcases bf.1 a with e|e
    ·subst e;have:=d.2 b;omega
    ·exact c x e b
 exact(h M 1).2
variable{ls:List (Int × ByteArray)}{k n:Nat}
variable{bs:List Bk}
theorem vB(h:bn bs=iV):∀b∈bs,b.2.2.length=4:=by
 intro b c;have h1:=h;unfold bn at h1;rw[bt,gy]at h1;have a:=h1.2 b c;unfold di at a;rw[bt,rM]at a;exact a.1.1
variable{p:Pg}
theorem WH{l:List aM}(a:bn bs=iV)(h:(cH bs l p).2.2=iV):
 p.Right/\∃(k:Nat) (b:Bk) (s:aM),bs[k]?=X b/\b.1=iF/\bm b.2.2<4/\(∃u,b.2.2[bm b.2.2]?=X u/\u.1=0)/\s=(1,(k:Int),((bm b.2.2:Nat):Int),dJ (dG p))/\cP bs s=(jG bs k (bm b.2.2) (dJ (dG p)),iV)/\cH bs l p=(jG bs k (bm b.2.2) (dJ (dG p)),l++[s],iV):=by
 unfold cH at h;by_cases f:p.Right
 ·have c:kS p=(dJ (dG p),iV):=by unfold kS;rw[aj f]
  rw[c]at h;rcases Uu a (vB a)with⟨e,-⟩|⟨k,b,m,h1,i,j,e,-,-⟩
  ·rw[e]at h;simp at h
  ·refine⟨f,k,b,_,m,h1,i,j,rfl,?_⟩;rw[e]at h;simp only[jr,cW]at h;have g:cP bs (1,(k:Int),((bm b.2.2:Nat):Int),dJ (dG p))=(jG bs k (bm b.2.2) (dJ (dG p)),iV):=by
    have d:(cP bs (1,(k:Int),((bm b.2.2:Nat):Int),dJ (dG p))).2=iV:=h;unfold cP fY at d⊢;simp only[cW]at d⊢;split at d
    ·rename_i hq
     rw[aj hq,aZ,aZ]
    ·cases d
   refine⟨g,?_⟩;unfold cH;rw[c,e];simp only[jr,cW];rw[g]
 ·have c:kS p=(⟨#[]⟩,iF):=by unfold kS;rw[ai f]
  rw[c]at h;simp at h
theorem Lf{u:Int×ByteArray}(d:ls[k]?=X u)(h0:u.1=0):bm ls<=k:=by
 obtain⟨h1,c⟩:=aD.1 d;have h:ls.findIdx (λt=>t.1==0)<=k:=Nat.le_of_not_lt (λa=>by
  have b:=IQ a;rw[c]at b;simp[h0]at b)
 simp only[bm];rw[aj (by omega)]
 exact h
theorem Ud(h4:ls.length<=4)(d:k<ls.length)(a:bm ls<k):∃u,ls[bm ls]?=X u/\u.1=0:=by
 have h:ls.findIdx (λt=>t.1==0)<ls.length:=Nat.lt_of_not_le (λc=>by
  simp only[bm]at a;rw[ai (by omega)]at a
  omega)
 have e:bm ls=ls.findIdx (λt=>t.1==0):=by simp only[bm];rw[aj h]
 have b:=yF (w:=h);refine⟨ls[ls.findIdx (λt=>t.1==0)],by rw[e];exact ay h,by simpa using b⟩
theorem NR(h:∀k,k<ls.length->ib ls k=iV){u:Int×ByteArray}(f:ls[n]?=X u)(h0:u.1=0)(d:Nat):∀t,ls[n+d]?=X t->t.1=0:=by
 induction d with
 |zero=>
  intro t a;rw[oh,f]at a;cases a;exact h0
 |succ d i=>
  intro t a;have c:=(aD.1 a).1;have b:ls[n+d]?=X ls[n+d]:=ay (by omega)
  have g:=i _ b;cases yJ (t.1=0)with
  |inl e=>exact e
  |inr e=>
   have:=F7 (k:=n+d) a b g e;rw[show n+d+1=n+(d+1)from rfl,h _ c]at this;cases this
theorem Sa{b:Bk}{t:Int×ByteArray}(h4:b.2.2.length=4)(e:b.2.2[k]?=X t)(f:bm b.2.2<k)(h:t.1≠0):di b=iF:=by
 cases d:di b with
 |false=>rfl
 |true=>
  have c:=(aD.1 e).1;simp only[di,bt]at d;have a:∀k,k<b.2.2.length->ib b.2.2 k=iV:=λk c=>gy.1 d.2 k (ju.2 c)
  obtain⟨u,g,h0⟩:=Ud (by omega) c f
  exact absurd (NR a g h0 (k-bm b.2.2) t (by rw[show bm b.2.2+(k-bm b.2.2)=k by omega];exact e)) h
theorem KL{b:Bk}(h4:b.2.2.length=4)(f:0<=b.2.1/\b.2.1<=1000000000)(h:∀k t,b.2.2[k]?=X t->gC t=iV/\(bm b.2.2<k->t.1=0)):di b=iV:=by
 refine Gg h4 f (λk d=>?_)
 have a:b.2.2[k]?=X b.2.2[k]:=ay d;generalize b.2.2[k]=t at a;cases k with
 |zero=>exact Hp a (h 0 t a).1
 |succ k=>
  have c:b.2.2[k]?=X b.2.2[k]:=ay (by omega)
  generalize b.2.2[k]=u at c;refine FX a c (h _ t a).1 ?_;cases yJ (u.1=0)with
  |inr e=>exact Or.inl e
  |inl e=>exact Or.inr ((h _ t a).2 (by have:=Lf c e;omega))
end Go.Proofs.YtijmbohadndfmaaGreatDoor
