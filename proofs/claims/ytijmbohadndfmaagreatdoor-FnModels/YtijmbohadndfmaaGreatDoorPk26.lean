/-
  ShFil; MoTw; DMo; IShX; LastC; IShC; IShS; ShSet
-/
import Derived.Test.YtijmbohadndfmaaGreatDoorPk25
import Derived.Test.YtijmbohadndfmaaGreatDoorPk24
open Go.Value renaming int→I,slice→Y,string→iT,bool→iB,pointer→iP,agg→iA,tuple→iU
open Go.IntKind renaming i64→J
open Option renaming none→O,some→X
open Go.Ending renaming returned→G
open Go.Obj renaming cells→iC
open Bool renaming true→iV,false→iF
open Go renaming World→iW,Value→iX,Calls→iK
open Go.RowKit renaming Below→iL
set_option maxHeartbeats 4000000
set_option maxRecDepth 100000
namespace Go.Proofs.YtijmbohadndfmaaGreatDoor
open Go.RowKit Words
def gh(W:iW)(B:Nat)(v:iX)(n:Nat)(ss:List Hw)(a:List iX):Prop:=
 W.ownsRow B 32 2 v n (bi ss++a)/\(∀r∈ss,aB 9 B W.heap.size r.2.1 r.2.2.length (cA r.2.2) W/\r.2.2.length<=maxLen)/\mE ss
variable{t:ByteArray}{fn:Func}{x:Int}{B n g lo j cap k i c m p len:Nat}{ad:Option Addr}{w1 w3 W W':iW}{mv:iX}
variable{ss:List Hw}
theorem gh.below{W W':iW}{v:iX}{c:List iX}(h:gh W B v n ss c)(b:iL W.heap.size W W'):gh W' B v n ss c:=
 ⟨bu h.1 b,λr a=>⟨((h.2.1 r a).1.blw b).up b.size,(h.2.1 r a).2⟩,h.2.2⟩
theorem gh.own{W:iW}{v:iX}(h:gh W B v ss.length ss []):ci W B v ss:=⟨by have:=h.1;rwa [eM]at this,h.2⟩
theorem DI{w:iW}{hi:Nat}{v:iX}{xs:List iX}{cs:Array iX}(h:aB 9 lo hi v n xs w)(q:w.heap[g]?=X (iC cs 32 (0,0))):v.ownBlock≠X g:=by
 intro e;obtain⟨-,-,a,q'⟩:=h.lt g e;exact CQ q' q
theorem aB.setH{w:iW}{hi:Nat}{v u:iX}{xs:List iX}{cs:Array iX}(h:aB 9 lo hi v n xs w)(q:w.heap[g]?=X (iC cs 32 (0,0))):aB 9 lo hi v n xs (w.setCell ⟨g,j,O⟩ u):=
 h.grown (ik w g j u) (λk a e=>by cases e;exact DI h q a)
theorem gh.set{W:iW}{c:List iX}{u:iX}{b:List iX}(h:gh W B (Y (X ⟨g,0,O⟩) n cap) n ss c)(e:(bi ss++c).set j u=bi ss++b):gh (W.setCell ⟨g,j,O⟩ u) B (Y (X ⟨g,0,O⟩) n cap) n ss b:=by
 obtain⟨-,-,cs,q⟩:=fQ h.1 g rfl;refine⟨by rw[<-e];exact mi h.1 rfl j u,λr a=>⟨?_,(h.2.1 r a).2⟩,h.2.2⟩
 have d:(W.setCell ⟨g,j,O⟩ u).heap.size=W.heap.size:=by simp[World.setCell]
 rw[d];exact(h.2.1 r a).1.setH q
theorem gh.take{W0 W:iW}{f:List iX}{lf:Int}{kv:iX}{ls:List ByteArray}(h0:∀r∈ss,∀q,r.2.1.ownBlock=X q->q<W0.heap.size)(k:B<=W0.heap.size)(h:gh W B (Y (X ⟨g,0,O⟩) n cap) n ss (I J lf::kv::f))(e:aB 9 W0.heap.size W.heap.size kv ls.length (cA ls) W)(m:ls.length<=maxLen):gh W B (Y (X ⟨g,0,O⟩) n cap) n (ss++[(lf,kv,ls)]) f:=by
 refine⟨?_,?_,?_⟩
 ·have:=h.1;rw[<-tZ,fJ];exact this
 ·intro r c;rcases br.1 c with c|c
  ·exact h.2.1 r c
  ·simp only[bT]at c;subst c;exact⟨e.dn k,m⟩
 ·refine eW.2 ⟨h.2.2,mA _ _,?_⟩;intro a l b d q i j;simp only[bT]at d;subst d;have o:=h0 a l q i;have p:=(e.lt q j).1;omega
theorem gh.lt{W:iW}{v:iX}{c:List iX}(h:gh W B v n ss c):∀r∈ss,∀q,r.2.1.ownBlock=X q->q<W.heap.size:=λr b q a=>((h.2.1 r b).1.lt q a).2.1
theorem GG(c:ss.length=k)(a b u:iX)(d:List iX):(bi ss++a::b::d).set (k*2) u=bi ss++u::b::d:=by
 rw[ii _ _ (by rw[kC,c];exact ak _),kC,c,ja]
 rfl
theorem Yn(c:ss.length=k)(a b u:iX)(d:List iX):(bi ss++a::b::d).set (k*2+1) u=bi ss++a::u::d:=by
 rw[ii _ _ (by rw[kC,c];omega),kC,c,show k*2+1-k*2=1 by omega]
 rfl
theorem gh.cell0{W:iW}{a b:iX}{d:List iX}(h:gh W B (Y (X ⟨g,0,O⟩) n cap) n ss (a::b::d))(c:ss.length=k):W.cell? ⟨g,k*2,O⟩=X a:=by
 rw[<-eX];refine h.1.cells (g:=g) rfl (k*2) a ?_;rw[dz (by rw[kC,c];exact ak _),kC,c,ja]
 rfl
theorem gh.cell1{W:iW}{a b:iX}{d:List iX}(h:gh W B (Y (X ⟨g,0,O⟩) n cap) n ss (a::b::d))(c:ss.length=k):W.cell? ⟨g,k*2+1,O⟩=X b:=by
 rw[<-eX];refine h.1.cells (g:=g) rfl (k*2+1) b ?_;rw[dz (by rw[kC,c];omega),kC,c,show k*2+1-k*2=1 by omega]
 rfl
theorem gh.fr{W:iW}{a:List iX}(h:gh W B (Y (X ⟨g,0,O⟩) n cap) n ss a)(j:Nat):W.frozen? ⟨g,j,O⟩=iF:=by
 obtain⟨-,-,cs,q⟩:=fQ h.1 g rfl;exact aL _ _ j _ _ q
def kt(w W:iW)(g n:Nat)(ls:List ByteArray)(a:List iX):Prop:=W.ownsRow g 9 1 (Y (X ⟨g,0,O⟩) n n) n (cA ls++a)/\iL g w W
theorem kt.put{w W:iW}{ls:List ByteArray}{a:iX}{b:List iX}(h:kt w W g n ls (a::b))(c:ls.length=j)(s:ByteArray):kt w (W.setCell ⟨g,j,O⟩ (iT s)) g n (ls++[s]) b:=by
 refine⟨?_,h.2.setCell (p:=⟨g,j,O⟩) (ak _) _⟩;have e:(cA ls++a::b).set j (iT s)=cA (ls++[s])++b:=by
  rw[ii _ _ (by rw[ur,c];exact ak _),ur,c,ja]
  simp[cA]
 rw[<-e];exact mi h.1 rfl j _
theorem kt.fr{w W:iW}{ls:List ByteArray}{a:List iX}(h:kt w W g n ls a)(j:Nat):W.frozen? ⟨g,j,O⟩=iF:=by
 obtain⟨-,-,cs,q⟩:=fQ h.1 g rfl;exact aL _ _ j _ _ q
theorem kt.cell{w W:iW}{g n j:Nat}{ls:List ByteArray}{a:iX}{c:List iX}(h:kt w W g n ls (a::c))(b:ls.length=j):W.cell? ⟨g,j,O⟩=X a:=by
 rw[<-eX];refine h.1.cells (g:=g) rfl j a ?_;rw[dz (by rw[ur,b];exact ak _),ur,b,ja]
 rfl
theorem kt.below{w W W':iW}{ls:List ByteArray}{a:List iX}(h:kt w W g n ls a)(c:g<=w.heap.size)(b:iL W.heap.size W W'):kt w W' g n ls a:=
 ⟨bu h.1 b,h.2.trans (b.mono (by have:=h.2.size;omega))⟩
theorem Ue{R:List iX}(h:R.length=n)(b:k<n):∃a,R.drop k=a::R.drop (k+1):=⟨R[k],gj (by omega)⟩
theorem Sn{R:List iX}(h:R.length=n*2)(c:k<n):∃a b,R.drop (k*2)=a::b::R.drop ((k+1)*2):=by
 refine⟨R[k*2],R[k*2+1],?_⟩;rw[gj (by omega),gj (by omega)]
 rw[show k*2+1+1=(k+1)*2 by omega]
def hY(M:List Sh):Prop:=M.Pairwise (λa b=>a.vol<b.vol)
theorem Vt{M:List Sh}:∀k,de M x k= -1->∀i,i<k->∀s,M[i]?=X s->s.vol≠x:=by
 intro k
 induction k with
 |zero=>intro _ i hi;omega
 |succ k b=>
  intro h i hi s hs;rw[de]at h;split at h
  ·rename_i h0
   by_cases e:i=k
   ·subst e;rw[hs]at h;intro a;simp only[aj a]at h;omega
   ·exact b h0 i (by omega) s hs
  ·rename_i h0
   exact absurd h h0
theorem KU{M:List Sh}(h:bM M x<0):∀s∈M,s.vol≠x:=by
 intro s hs;obtain⟨i,hi,e⟩:=nJ hs;refine Vt M.length ?_ i hi s (by rw[ay hi,e])
 rcases rX M x with q|q
 ·exact q
 ·omega
theorem Rn{M:List Sh}(h:∀s∈M,s.vol≠x):∀k,de M x k= -1:=by
 intro k
 induction k with
 |zero=>rfl
 |succ k a=>
  rw[de,aj a];split
  ·rename_i s hs
   rw[ai (h s (aH hs))]
  ·rfl
theorem Pn{M:List Sh}(h:∀s∈M,s.vol≠x):bM M x= -1:=Rn h _
theorem Ju{M:List Sh}(h:∃s∈M,s.vol=x):0<=bM M x:=by
 rcases Int.lt_or_le (bM M x) 0 with q|q
 ·obtain⟨s,hs,e⟩:=h;exact absurd e (KU q s hs)
 ·exact q
theorem Mw{M R:List Sh}(h:∀i:Nat,(M[i]?).map Sh.vol=(R[i]?).map Sh.vol):∀k,de M x k=de R x k:=by
 intro k
 induction k with
 |zero=>rfl
 |succ k c=>
  rw[de,de,c];have:=h k;split
  ·cases b:M[k]? with
   |none=>
    cases a:R[k]? with
    |none=>rfl
    |some r=>rw[b,a]at this;cases this
   |some s=>
    cases a:R[k]? with
    |none=>rw[b,a]at this;cases this
    |some r=>
     rw[b,a]at this;have e:s.vol=r.vol:=by simpa using this
     simp only[e]
  ·rfl
theorem Lk{M:List Sh}:∀(k i:Nat),de M x k=i->∃s,M[i]?=X s/\s.vol=x:=by
 intro k
 induction k with
 |zero=>intro i h;simp only[de]at h;omega
 |succ k a=>
  intro i h;rw[de]at h;split at h
  ·split at h
   ·rename_i s hs
    split at h
    ·have e:k=i:=by omega
     subst e;exact⟨s,hs,by assumption⟩
    ·omega
   ·omega
  ·exact a i h
theorem hY.sub{M R:List Sh}(h:hY M)(s:R.Sublist M):hY R:=zY s h
theorem hY.add{M:List Sh}{x:Sh}(h:hY M):hY (eS M x):=by
 unfold eS hY;refine eW.2 ⟨eW.2 ⟨h.sub sS,mA _ _,?_⟩,h.sub sS,?_⟩
 ·intro a c b d;have:=(dR.1 c).2;simp only[bT]at d;subst d
  simpa using this
 ·intro a c b d;have e:=(dR.1 d).2;have e:x.vol<b.vol:=by simpa using e
  rcases br.1 c with c|c
  ·have h1:=(dR.1 c).2;have h1:a.vol<x.vol:=by simpa using h1
   omega
  ·simp only[bT]at c;subst c;exact e
theorem vO(M:List Sh)(i j:Nat)(t:ByteArray)(k:Nat):(jO M i j t)[k]?=if k=i then(M[i]?).map (λs=>⟨s.vol,s.texts.set j t⟩)else M[k]?:=by
 cases h:M[i]? with
 |none=>
  have a:jO M i j t=M:=by unfold jO;rw[h]
  rw[a];by_cases e:k=i
  ·rw[aj e,e,h];rfl
  ·rw[ai e]
 |some s=>
  have b:=(aD.1 h).1;have a:jO M i j t=M.set i ⟨s.vol,s.texts.set j t⟩:=by unfold jO;rw[h]
  rw[a];by_cases e:k=i
  ·rw[aj e,e,ku b];rfl
  ·rw[ai e,lZ (by omega)]
theorem J4(M:List Sh)(i j:Nat)(t:ByteArray)(k:Nat):((jO M i j t)[k]?).map Sh.vol=(M[k]?).map Sh.vol:=by
 rw[vO];split
 ·rename_i e
  subst e;cases M[k]?<;>rfl
 ·rfl
theorem Ex(M:List Sh)(i j:Nat)(t:ByteArray):(jO M i j t).length=M.length:=by
 unfold jO;split
 ·rw[iy]
 ·rfl
theorem hY.set{M:List Sh}(h:hY M):hY (jO M i j t):=by
 have e:(jO M i j t).map Sh.vol=M.map Sh.vol:=by
  apply kM;intro k;rw[bk,bk,J4]
 have c:(M.map Sh.vol).Pairwise (λa b=>a<b):=qi.2 h
 rw[<-e]at c;exact qi.1 c
theorem AW(M:List Sh)(i:Nat):(M.take i++M.drop (i+1)).Sublist M:=by
 conv=>rhs;rw[<-jP i M]
 exact List.Sublist.append (List.Sublist.refl _) (by rw[<-qo];exact List.drop_sublist _ _)
theorem Qr{M:List Sh}(q:Ak)(h:hY M):hY (fG M q):=by
 unfold fG;split
 ·exact h
 ·split
  ·split
   ·exact h.add
   ·exact h
  ·split
   ·split
    ·exact h.add
    ·exact h
   ·split
    ·split
     ·exact h.sub (AW _ _)
     ·exact h
    ·split
     ·exact h
     ·split
      ·exact h.set
      ·exact h
theorem Gi(M:List Sh)(x:Sh):∃s∈eS M x,s.vol=x.vol:=⟨x,by unfold eS;simp,rfl⟩
theorem Yv{M:List Sh}(h:hY M)(l:0<=bM M x):bM (M.take (bM M x).toNat++M.drop ((bM M x).toNat+1)) x= -1:=by
 obtain⟨i,hi⟩:∃i:Nat,bM M x=i:=⟨(bM M x).toNat,by omega⟩
 rw[hi,aZ];obtain⟨s,hs,e⟩:=Lk _ i hi;refine Pn (λr b k=>?_)
 have d:=mJ.1 h;obtain⟨f,g⟩:=aD.1 hs;rcases br.1 b with b|b
 ·obtain⟨j,c,a⟩:=nJ b;rw[dk]at c;rw[ww]at a;have:=d j i (by omega) f (by omega)
  rw[a,g]at this;omega
 ·obtain⟨j,c,a⟩:=nJ b;rw[jz]at c;rw[List.getElem_drop]at a;have:=d i (i+1+j) f (by omega) (by omega)
  rw[a,g]at this;omega
theorem Yl{M:List Sh}(q:Ak)(h:hY M):fG (fG M q) q=fG M q:=by
 obtain⟨R,a⟩:=an (fG M q);rw[a];have h0:=a;unfold fG at a;split at a
 ·unfold fG;rw[aj (by assumption)]
 rename_i hk
 split at a
 ·rename_i k3
  have:0<=bM R q.vol:=by
   split at a
   ·rw[<-a];exact Ju (Gi _ ⟨q.vol,_⟩)
   ·rw[<-a];omega
  unfold fG;rw[ai hk,aj k3,ai (by omega)]
 rename_i k3
 split at a
 ·rename_i k4
  split at a
  ·have:0<=bM R q.vol:=by rw[<-a];exact Ju (Gi _ ⟨q.vol,_⟩)
   unfold fG;rw[ai hk,ai k3,aj k4,ai (by omega)]
  ·rw[<-a,h0,a]
 rename_i k4
 split at a
 ·rename_i k5
  split at a
  ·have:bM R q.vol= -1:=by rw[<-a];exact Yv h (by assumption)
   unfold fG;rw[ai hk,ai k3,ai k4,aj k5,ai (by omega)]
  ·rw[<-a,h0,a]
 rename_i k5
 split at a
 ·rw[<-a,h0,a]
 rename_i k6
 split at a
 ·rename_i hc
  obtain⟨i,hi⟩:∃i:Nat,bM M q.vol=i:=⟨(bM M q.vol).toNat,by omega⟩
  rw[hi,aZ]at a;have b:bM R q.vol=i:=by
   rw[<-hi,<-a];unfold bM;rw[Ex];exact Mw (J4 M i q.sector.toNat q.text) _
  obtain⟨s,hs,-⟩:=Lk _ i hi;have c:R[i]?=X ⟨s.vol,s.texts.set q.sector.toNat q.text⟩:=by
   rw[<-a,vO,aj rfl,hs];rfl
  unfold fG;rw[ai hk,ai k3,ai k4,ai k5,ai k6];split
  ·rw[b,aZ];apply kM;intro k;rw[vO];split
   ·rename_i e
    subst e;rw[c];simp
   ·rfl
  ·rfl
 ·rw[<-a,h0,a]
def oL(n:Nat)(M:List Sh):Prop:=M.length<=n/\∀s∈M,s.texts.length<=16/\∀t∈s.texts,t.size<=1048576
theorem Yj(M:List Sh)(x:Sh):(eS M x).length<=M.length+1:=by
 have b:∀l:List Sh,(l.filter (λs=>decide (s.vol<x.vol))).length+(l.filter (λs=>decide (x.vol<s.vol))).length<=l.length:=by
  intro l
  induction l with
  |nil=>simp
  |cons a l c=>
   simp only[iH,aR];by_cases c1:a.vol<x.vol
   ·have c2:¬x.vol<a.vol:=by omega
    simp only[c1,c2,pC,mK,cW,hI,eT,aR];omega
   ·simp only[c1,mK,hI,eT];split
    ·simp only[aR];omega
    ·omega
 have:=b M;unfold eS;simp only[aT,aR,cU];omega
theorem oL.add{M:List Sh}{x:Sh}(h:oL n M)(a:x.texts.length<=16/\∀t∈x.texts,t.size<=1048576):oL (n+1) (eS M x):=by
 refine⟨by have:=Yj M x;have:=h.1;omega,λs hs=>?_⟩
 unfold eS at hs;rcases br.1 hs with hs|hs
 ·rcases br.1 hs with hs|hs
  ·exact h.2 s (dR.1 hs).1
  ·simp only[bT]at hs;subst hs;exact a
 ·exact h.2 s (dR.1 hs).1
theorem Oq{M:List Sh}{q:Ak}(h:oL n M)(b:q.text.size<=1048576):oL (n+1) (fG M q):=by
 have h1:oL (n+1) M:=⟨by have:=h.1;omega,h.2⟩
 unfold fG;split
 ·exact h1
 ·split
  ·split
   ·exact h.add ⟨by simp,λt b=>by rw[(wL.1 b).2];exact aI _⟩
   ·exact h1
  ·split
   ·split
    ·refine h.add ?_;unfold iR;split
     ·rename_i s hs
      exact h.2 s (aH hs)
     ·exact⟨by simp,λt b=>by cases b⟩
    ·exact h1
   ·split
    ·split
     ·exact⟨by have:=(AW M (bM M q.vol).toNat).length_le;have:=h1.1;omega,λs hs=>h.2 s ((AW M _).subset hs)⟩
     ·exact h1
    ·split
     ·exact h1
     ·split
      ·refine⟨by rw[Ex];exact h1.1,λs hs=>?_⟩
       obtain⟨k,c⟩:=ml hs;rw[vO]at c;split at c
       ·obtain⟨r,f,rfl⟩:=sW.1 c;obtain⟨d,e⟩:=h.2 r (aH f);refine⟨by simp only[iy];exact d,λt a=>?_⟩
        rcases mF a with a|a
        ·exact e t a
        ·rw[a];exact b
       ·exact h.2 s (aH c)
      ·exact h1
open Sums
variable{d:Dv}
theorem QT(h:cQ ji n d)(v:Int)(k:Nat):∀t∈eY d v k,t.size<=1048576:=by
 intro t f;obtain⟨i,-,rfl⟩:=bF.1 f;unfold js;split
 ·split
  ·exact aI _
  ·split
   ·rename_i t2 e
    have:ji t2:=by
     cases a:bS (aw d.fH) (iE d.fS v (i:Int))with
     |none=>unfold bG at e;rw[a]at e;cases e
     |some y=>
      obtain⟨hy,b⟩:=pP a;obtain⟨g,h1,c⟩:=h.tx y hy (ui b).1;unfold bG at e;rw[a]at e;simp only[kV]at e;rw[h1]at e;injection e with e
      subst e;exact c
    exact F6 (show ji (Dm t2).data.toList by unfold Dm;rw[List.toList_toArray];exact this)
   ·exact aI _
 ·exact aI _
theorem Wi(h:cQ ji n d):hY (m9 d):=qi.2 h.st.asc
def p7(rs:List Hw):Prop:=rs.length<=3/\hY (rs.map aW)/\∀r∈rs,r.2.2.length<=16/\∀t∈r.2.2,t.size<=1048576
variable{rs:List Hw}
theorem Xy(h:cQ ji n d)(e:rs.map aW=m9 d):p7 rs/\∀r∈rs,r.2.2.length=16:=by
 have c:∀r∈rs,∃v∈d.fS.fV,aW r=⟨v.1,eY d v.1 16⟩:=by
  intro r c;have:aW r∈m9 d:=by rw[<-e];exact bF.2 ⟨r,c,rfl⟩
  obtain⟨v,f,b⟩:=bF.1 this;exact⟨v,f,b.symm⟩
 have g:∀r∈rs,r.2.2.length=16:=by
  intro r a;obtain⟨v,f,b⟩:=c r a;have:r.2.2=eY d v.1 16:=congrArg Sh.texts b;rw[this,uM]
 refine⟨⟨?_,by rw[e];exact Wi h,λr a=>⟨by rw[g r a];decide,?_⟩⟩,g⟩
 ·have:=congrArg List.length e;unfold m9 at this;rw[aS,aS]at this;have:=h.st.few;omega
 ·obtain⟨v,f,b⟩:=c r a;have:r.2.2=eY d v.1 16:=congrArg Sh.texts b;rw[this];exact QT h _ _
theorem p7.cut{u u':iX}{ls:List ByteArray}(h:p7 ((x,u,ls)::rs)):p7 ((x,u',ls.take 3)::rs):=by
 obtain⟨h1,d,c⟩:=h;refine⟨by simpa using h1,?_,λr a=>?_⟩
 ·obtain⟨g,i⟩:=gK.1 d;exact gK.2 ⟨λb e=>g b e,i⟩
 ·rcases bf.1 a with rfl|a
  ·obtain⟨j,k⟩:=c (x,u,ls) (by simp)
   exact⟨by simp only[dk];simp only at j;omega,λt f=>k t (qj f)⟩
  ·exact c r (qz _ a)
theorem kK.cut{hi b a:Nat}{ls:List ByteArray}{W:iW}(h:kK lo hi (Y (X ⟨b,0,O⟩) (rs.length+1) c) ((x,Y (X ⟨g,0,O⟩) m a,ls)::rs) W)(D:3<=ls.length):
 kK lo hi (Y (X ⟨b,0,O⟩) (rs.length+1) c) ((x,Y (X ⟨g,0,O⟩) 3 a,ls.take 3)::rs) (W.setCell ⟨b,1,O⟩ (Y (X ⟨g,0,O⟩) 3 a)):=by
 obtain⟨h1,o,s,h4⟩:=h;obtain⟨-,-,cs,d⟩:=h1.lt b rfl;refine⟨?_,λr f=>?_,?_,by simpa using h4⟩
 ·have:=h1.setAt 1 (Y (X ⟨g,0,O⟩) 3 a);exact this
 ·rcases bf.1 f with rfl|f
  ·obtain⟨B,E⟩:=o (x,Y (X ⟨g,0,O⟩) m a,ls) (by simp)
   have n:(ls.take 3).length=3:=by rw[dk];omega
   refine⟨?_,by simp only[n];unfold maxLen;omega⟩
   refine aB.setH ?_ d;simp only[n];rcases B with⟨e,-⟩|⟨C,q,e,t,u,l,w,y⟩
   ·cases e
   ·injection e with e1 e2 e3
    injection e1 with e1
    injection e1 with e1
    subst e1;refine .inr ⟨g,a,rfl,t,u,l,w,λi v j=>y i v ?_⟩
    have p:i<3:=by
     have:=(aD.1 j).1;rw[ur,n]at this;exact this
    unfold cA at j⊢;rw[AP,List.getElem?_take,aj p]at j;exact j
  ·exact⟨(o r (qz _ f)).1.setH d,(o r (qz _ f)).2⟩
 ·obtain⟨z,A⟩:=gK.1 s;exact gK.2 ⟨λb d k e=>z b d k e,A⟩
theorem Fh {p q:Tmp} (h:fn.results= #[.tmp p,.cell q 26]) (a:Array iX) (w:iW) (g:Nat) (k:Ak)
 (e:a.getD q undef=iP (X ⟨g,0,O⟩)) (c:bH w g k):(results fn a).run Tryz.prog w=.ok (iU #[a.getD p undef,dU k]) w:=by
 have b:a[q]?.getD undef=iP (X ⟨g,0,O⟩):=by simpa using e
 have d:=lx (P:=Tryz.prog) w g 26 26 _ _ _ c Tryz.underlying26 rfl Gy;simp[results,h,b,asAddr,d,dU]
def Ce(w:iW)(e:Ending)(w':iW):Prop:=∃a n c rs q,e=G (iU #[Y a n c,dU q])/\dN w' a n rs/\n<=c/\c<=9223372036854775807/\p7 rs/\q.text.size<=1048576/\iL w.heap.size w w'
def mW(d a W:iW)(p:Nat)(ad:Option Addr)(b cap:Nat)(c:iX)(rs:List Hw):Prop:=
 cR d W p ad b cap/\a.heap.size<=W.heap.size/\(∀y,y<a.heap.size->p≠y->W.heap[y]?=a.heap[y]?)/\∃hi,hi<=W.heap.size/\kK a.heap.size hi c rs W
section
theorem mW.draw(h:mW w1 w3 W p ad len cap mv rs)(b:cR W W' p ad len cap)(m:p<w1.heap.size)(k:w1.heap.size<=w3.heap.size):mW w1 w3 W' p ad len cap mv rs:=by
 obtain⟨f,l,g,hi,i,j⟩:=h;have d:∀y,p≠y->y<W.heap.size->W'.heap[y]?=W.heap[y]?:=λy c a=>b.1.block y a (λe=>by cases e;exact c rfl)
 exact⟨f.trans b,bR l b.1.size,λy c a=>(d y a (by omega)).trans (g y c a),hi,bR i b.1.size,kK.loc _ _ _ _ W W' (λy c a=>d y (by omega) (by omega)) j⟩
theorem mW.cut{b a:Nat}{ls:List ByteArray}(h:mW w1 w3 W p ad len cap (Y (X ⟨b,0,O⟩) (rs.length+1) c) ((x,Y (X ⟨g,0,O⟩) m a,ls)::rs))(l:3<=ls.length)(n:p<w1.heap.size)(j:w1.heap.size<=w3.heap.size):
 mW w1 w3 (W.setCell ⟨b,1,O⟩ (Y (X ⟨g,0,O⟩) 3 a)) p ad len cap (Y (X ⟨b,0,O⟩) (rs.length+1) c) ((x,Y (X ⟨g,0,O⟩) 3 a,ls.take 3)::rs):=by
 obtain⟨e,k,f,hi,i,d⟩:=h;obtain⟨r,-,-⟩:=d.1.lt b rfl;refine⟨e.below ((ax _ _).setCell (p:=⟨b,1,O⟩) (by show _<=b;omega) _) n,by simpa[World.setCell]using k,λy o q=>(aU _ _ _ _ (by show y≠b;omega)).trans (f y o q),hi,by simpa[World.setCell]using i,d.cut l⟩
end
variable{α:Type}{a:Act}{listed:Array Bool}{ops:Array Oper}{g B i j N cap q:Nat}{P:Program}
theorem Kr(W:iW){y:Nat}(q:Ak)(h:y≠g):(im W g q).heap[y]?=W.heap[y]?:=by
 unfold im
 iterate 5 rw[aU _ _ _ _ (by exact h)]
theorem Jw(W:iW)(g:Nat)(q:Ak):(im W g q).heap.size=W.heap.size:=by simp[im,World.setCell]
theorem Gm{w W:iW}(h:iL B w W)(a:B<=g)(q:Ak):iL B w (im W g q):=
 ((((h.setCell (p:=⟨g,0,O⟩) a _).setCell (p:=⟨g,1,O⟩) a _).setCell (p:=⟨g,2,O⟩) a _).setCell (p:=⟨g,3,O⟩) a _).setCell (p:=⟨g,4,O⟩) a _
theorem YM(ad:Option Addr)(c cap:Nat)(w:iW)(hl:c<=1048576)(hd:gQ w ad c w.heap.size):
 iK Tryz.prog 5 #[Y ad c cap] w (Ce w):=by
 have bA:=aO w (iC #[I J 0,I J 0,I J 0,I J 0,iT ⟨#[]⟩] 26);have ZA:ah (bH (w.alloc (iC #[I J 0,I J 0,I J 0,I J 0,iT ⟨#[]⟩] 26)) w.heap.size mB):=az _ _;have sA:(w.alloc (iC #[I J 0,I J 0,I J 0,I J 0,iT ⟨#[]⟩] 26)).heap.size=w.heap.size+1:=by simp
 have HD:=af (hd.on bA (ak _));have BA:=af bA;clear hd bA;go_enter Tryz.func5,Tryz.ntmps5;go_wp2_with fail;generalize w.alloc (iC #[I J 0,I J 0,I J 0,I J 0,iT ⟨#[]⟩] 26)=wa at HD BA ZA sA⊢;refine(Mn ad c cap w.heap.size wa hl HD.o).mono ?_;rintro e N ⟨p,rfl,hp,hc,b1⟩;have f:=hc.2.2.2.2.2;have B1:=af (BA.o.trans (b1.mono BA.o.size));have Z1:=af (ZA.o.below b1);have R:=af (HD.o.on b1 (by omega))
 have CD:=af (Nz p ad c cap w.heap.size N hl hc R.o (by omega))
 unfold Cz at CD;clear b1 hc ZA HD BA;go_wp2_with fail;refine CD.o.mono ?_;rintro e M ⟨v,d,rfl,o2,f2,g2,dr⟩;obtain⟨fd,fc,va,vl,vc,ae,ln,ca,e2⟩:=o2.form;have aw:=dr.1.size;have Z2:bH M w.heap.size mB:=(dr.1.block _ Z1.o.lt (λe=>by cases e;omega)).trans Z1.o
 have b3:=aO M (iC #[Y fd d.fH.length fc,Y va vl vc,Y ae ln ca,I J d.fS.next,I J d.seq,I J d.tx,I J d.base] 46);have G3:aP (M.alloc (iC #[Y fd d.fH.length fc,Y va vl vc,Y ae ln ca,I J d.fS.next,I J d.seq,I J d.tx,I J d.base] 46)) M.heap.size (Y fd d.fH.length fc) (Y va vl vc) (Y ae ln ca) d.fS.next d.seq d.tx d.base:=az _ _;have O3:=af (o2.below b3);have aq:=af (dr.below (b3.mono aw) f);have Z3:=af (Z2.below b3);have HF:=af f2;have HG:=af g2;have HX:=af e2;have aB:=b3.size;have T:M.heap.size+1=(M.alloc (iC #[Y fd d.fH.length fc,Y va vl vc,Y ae ln ca,I J d.fS.next,I J d.seq,I J d.tx,I J d.base] 46)).heap.size:=by simp
 subst e2;generalize aC:M.alloc (iC #[Y fd d.fH.length fc,Y va vl vc,Y ae ln ca,I J d.fS.next,I J d.seq,I J d.tx,I J d.base] 46)=P at G3 O3 aq Z3 aB T;have H3:=af G3;obtain⟨c0,c1,c2,c3,c4,c5,c6⟩:=G3.cells;have CS:=af (PD _ d P (O3.o.rd HF.o));have A:ah (N.heap.size<=P.heap.size):=by show _<=_;omega
 clear o2 f2 g2 dr Z2 b3 CD G3;go_wp2_with fail;clear aC;refine CS.o.mono ?_;rintro e w4 ⟨mv,rs,rfl,o4,t4,b4,cp⟩;obtain⟨ma,u,ap⟩:=o4.form;obtain⟨ok,au⟩:=Xy HG.o t4;have m:rs.length<=u/\u<=9223372036854775807:=by
  rcases o4.1.2 with⟨e,h0⟩|⟨g,aD,aH,e,-,-,q1,q2,-⟩
  ·rw[ap]at e;injection e with _ e1 e2
   omega
  ·rw[ap]at e;injection e with _ _ e2
   unfold maxLen at q2;omega
 subst ap;have W:ah (mW N P w4 p ad c cap (Y ma rs.length u) rs):=
  ⟨aq.o.below (b4.mono A.o) f,b4.size,λy y1 _=>b4.block y y1,w4.heap.size,ak _,o4.fK⟩
 have aJ:=b4.size;have l:ah (M.heap.size+1=P.heap.size/\N.heap.size<=M.heap.size):=⟨T,aw⟩;have x:ah (∀r∈rs,r.2.2.length=16):=au;have U:=af cp;have z:=af ok;obtain⟨n,hn⟩:=an rs.length;rw[hn]at m W;rw[hn];have V:=af hn;clear o4 t4 b4 cp ok au CS hn c0 c1 c2 c3 c4 c5 c6;by_cases h0:(0:Int)<n
 ·have CO:=af (Bp 12 p ad c cap w.heap.size w4 (by omega) hl W.o.1.2 (W.o.1.code R.o (by omega) f) (by omega))
  go_wp2_with fail;refine CO.o.mono ?_;rintro e w5 ⟨bo,rfl,d5⟩;have S5:=af (W.o.draw d5 f A.o);clear CO d5 W;obtain⟨⟨x0,xv,xl⟩,L,aA⟩:∃r0 L,rs=r0::L:=by
   cases rs with
   |nil=>have:=V.o;simp at this;omega
   |cons r0 L=>exact⟨_,_,rfl⟩
  subst aA;obtain⟨-,-,-,hi,-,h1,h2,-⟩:=S5.o;obtain⟨aQ,c',e,hb⟩:=h1.form;obtain⟨b,ay,-,-⟩:=hb (by simp)
  injection e with e1 e2 e3
  subst e1 ay;have aN:xl.length=16:=x.o _ (mT ..);obtain⟨ga,gc,eg,ax⟩:=U.o _ (mT ..);simp only at eg;obtain⟨q1,-⟩:=h2 _ (mT ..);obtain⟨aI,aE,e,al⟩:=q1.form;simp only at e al;rw[eg]at e;injection e with e4 e5 e6
  obtain⟨g,hg,-,-⟩:=al (by omega)
  subst e4 hg;subst eg;obtain⟨-,-,cs,av⟩:=h1.lt b rfl;have aK:w5.cell? ⟨b,1,O⟩=X (Y (X ⟨g,0,O⟩) 16 gc):=by
   rcases h1 with⟨e,-⟩|⟨b',aG,e,-,-,hf⟩
   ·cases e
   ·injection e with e1
    injection e1 with e1
    injection e1 with e1
    subst e1;exact hf.cell (k:=1) rfl
  have aM:=aL _ _ 1 _ _ av;have g3:(3:Int)<=gc:=by omega
  have ar:ah (L.length+1=n):=V.o;clear h1 h2 hb q1 al av e2 e3 e5 e6;cases bo
  case' false=>
   obtain⟨S,t⟩:=an w5;obtain⟨j,s,R9⟩:∃j,ah (mW N P S p ad c cap (Y (X ⟨b,0,O⟩) n u) j)/\ah (p7 j/\j.length=n):=⟨_,by rw[<-t];exact S5,z.o,V.o⟩
  case' true=>
   have SC:mW N P (w5.setCell ⟨b,1,O⟩ (Y (X ⟨g,0,O⟩) 3 gc)) p ad c cap (Y (X ⟨b,0,O⟩) n u) ((x0,Y (X ⟨g,0,O⟩) 3 gc,xl.take 3)::L):=by
    have h5:=S5.o;rw[<-ar.o]at h5⊢;exact h5.cut (by omega) f A.o
   obtain⟨S,t⟩:=an (w5.setCell ⟨b,1,O⟩ (Y (X ⟨g,0,O⟩) 3 gc));rw[t]at SC;obtain⟨j,s,R9⟩:∃j,ah (mW N P S p ad c cap (Y (X ⟨b,0,O⟩) n u) j)/\ah (p7 j/\j.length=n):=⟨_,SC,z.o.cut,V.o⟩;clear SC
  all_goals
   clear S5 x U z V ar ax;obtain⟨Z,aa,ab,ac,ag,ai,aj⟩:=aP.cells (show aP S M.heap.size _ _ _ _ _ _ _ from(s.o.2.2.1 _ (by have:=l.o;omega) (by have:=l.o;omega)).trans H3.o)
   have CA:=af (II _ d N.heap.size p ad c cap w.heap.size S hl s.o.1.2 (s.o.1.code R.o (by omega) f) (by omega) (O3.o.keep (λy y1 y2=>s.o.2.2.1 y y2 (by omega)) s.o.2.1) HF.o f HG.o.vi)
   go_wp2_with fail;try clear t
   refine CA.o.mono ?_;rintro e h ⟨q,rfl,hq,B⟩;have i:=af (s.o.draw B f A.o);have a:ah (bH h w.heap.size mB):=(i.o.2.2.1 _ (by have:=l.o;omega) (by omega)).trans Z3.o
   obtain⟨D,E,F,H,K⟩:=q;unfold dU;obtain⟨z0,z1,z2,z3,z4⟩:=a.o.cells;have f0:=a.o.frz 0;have f1:=a.o.frz 1;have f2:=a.o.frz 2;have f3:=a.o.frz 3;have f4:=a.o.frz 4;have Q:ah (Ce w (G (iU #[Y (X ⟨b,0,O⟩) n u,dU ⟨D,E,F,H,K⟩])) (im h w.heap.size ⟨D,E,F,H,K⟩)/\bH (im h w.heap.size ⟨D,E,F,H,K⟩) w.heap.size ⟨D,E,F,H,K⟩):=by
    obtain⟨hi,am,ao⟩:=i.o.2.2.2;have C:kK P.heap.size hi (Y (X ⟨b,0,O⟩) n u) j (im h w.heap.size ⟨D,E,F,H,K⟩):=kK.loc _ _ _ _ h _ (λy y1 y2=>Kr _ _ (by have:=l.o;omega)) ao
    refine⟨⟨(X ⟨b,0,O⟩),n,u,j,_,rfl,C.rd R9.o.2 (by rw[Jw];exact am),m.1,m.2,R9.o.1,hq,Gm (B1.o.grown i.o.1.1 (by have:=B1.o.size;exact this) (λy hy=>by cases hy;omega)) (ak _) _⟩,Cr a.o _⟩
   unfold im at Q;simp only at Q;simp only[mB]at z0 z1 z2 z3 z4;clear hq B i a s CA Z aa ab ac ag ai aj;go_wp2;refine aF (Fh (p:=2) (q:=3) rfl _ _ w.heap.size _ rfl Q.o.2) rfl ?_;exact Q.o.1
 ·obtain⟨S,t⟩:=an w4;obtain⟨j,s,R9⟩:∃j,ah (mW N P S p ad c cap (Y ma n u) j)/\ah (p7 j/\j.length=n):=⟨rs,by rw[<-t];exact W,z.o,V.o⟩
  clear W x U z V;obtain⟨Z,aa,ab,ac,ag,ai,aj⟩:=aP.cells (show aP S M.heap.size _ _ _ _ _ _ _ from(s.o.2.2.1 _ (by have:=l.o;omega) (by have:=l.o;omega)).trans H3.o)
  have CA:=af (II _ d N.heap.size p ad c cap w.heap.size S hl s.o.1.2 (s.o.1.code R.o (by omega) f) (by omega) (O3.o.keep (λy y1 y2=>s.o.2.2.1 y y2 (by omega)) s.o.2.1) HF.o f HG.o.vi)
  go_wp2_with fail;try clear t
  refine CA.o.mono ?_;rintro e h ⟨q,rfl,hq,B⟩;have i:=af (s.o.draw B f A.o);have a:ah (bH h w.heap.size mB):=(i.o.2.2.1 _ (by have:=l.o;omega) (by omega)).trans Z3.o
  obtain⟨D,E,F,H,K⟩:=q;unfold dU;obtain⟨z0,z1,z2,z3,z4⟩:=a.o.cells;have f0:=a.o.frz 0;have f1:=a.o.frz 1;have f2:=a.o.frz 2;have f3:=a.o.frz 3;have f4:=a.o.frz 4;have Q:ah (Ce w (G (iU #[Y ma n u,dU ⟨D,E,F,H,K⟩])) (im h w.heap.size ⟨D,E,F,H,K⟩)/\bH (im h w.heap.size ⟨D,E,F,H,K⟩) w.heap.size ⟨D,E,F,H,K⟩):=by
   obtain⟨hi,am,ao⟩:=i.o.2.2.2;have C:kK P.heap.size hi (Y ma n u) j (im h w.heap.size ⟨D,E,F,H,K⟩):=kK.loc _ _ _ _ h _ (λy y1 y2=>Kr _ _ (by have:=l.o;omega)) ao
   refine⟨⟨ma,n,u,j,_,rfl,C.rd R9.o.2 (by rw[Jw];exact am),m.1,m.2,R9.o.1,hq,Gm (B1.o.grown i.o.1.1 (by have:=B1.o.size;exact this) (λy hy=>by cases hy;omega)) (ak _) _⟩,Cr a.o _⟩
  unfold im at Q;simp only at Q;simp only[mB]at z0 z1 z2 z3 z4;clear hq B i a s CA Z aa ab ac ag ai aj;go_wp2;refine aF (Fh (p:=2) (q:=3) rfl _ _ w.heap.size _ rfl Q.o.2) rfl ?_;exact Q.o.1
theorem YC(x:Int)(a:Option Addr)(n c:Nat)(b:Nat)(id:Int)(w:iW)(h:w.cell? ⟨b,0,O⟩=X (I J id)):
 iK Tryz.prog 35 #[iA #[I J x,Y a n c],iP (X ⟨b,0,O⟩)] w λe w'=>e=G (iB (x==id))/\iL w.heap.size w w':=by
 have f:b<w.heap.size:=bh w _ h;have d:=af (aO w (iC #[I J x,Y a n c] 32));have g:=(d.o.cell (show b<w.heap.size from f)).trans h;go_enter Tryz.func35,Tryz.ntmps35;go_wp2;go_ret;exact⟨rfl,d.o⟩
theorem Sq(ad:Option Addr)(a cap:Nat)(rs:List Hw)(x:Int)(m:Nat)(w:iW)(h:dN w ad a rs)(S:a<=1048576)(p:w.cell? ⟨m,0,O⟩=X (I J x)):
 iK Tryz.prog 34 #[Y ad a cap,.func (.func 35) #[] #[iP (X ⟨m,0,O⟩)]] w λe w'=>e=G (I J (bM (rs.map aW) x))/\iL w.heap.size w w':=by
 have H:=af h;have y:=af h.1;have D:=af p;have i:=af (bh w _ p);clear h p;obtain⟨R,n⟩:=an (bM (rs.map aW) x);rw[n];have f:ah (de (rs.map aW) x a=R):=by
  show _=_;rw[<-n,<-y.o];show _=de _ x _;rw[aS]
 clear n;go_enter Tryz.func34,Tryz.ntmps34;go_wp2_with fail;go_loopw [8] (λq wr=>∃k:Nat,k<=a/\q=I J k/\ah (de (rs.map aW) x k= -1/\iL w.heap.size w wr)) (λq _=>a-(intOf q).toNat)
 case atStart=>exact⟨0,aI _,rfl,rfl,ax _ _⟩
 case round=>
  obtain⟨k,Q,rfl,c⟩:=hrel;by_cases F:(k:Int)<a
  ·obtain⟨r,g⟩:∃r,rs[k]?=X r:=⟨_,ay (by have:=y.o;omega)⟩
   obtain⟨P,U,E,-,B,c1⟩:=(H.o.below c.o.2).at g;subst E;obtain⟨K,L,C,-⟩:=H.o.2.2.1 r (aH g);have s:=vR g;obtain⟨t,V,N⟩:=r;simp only at B c1 s C;subst C;have T:(0:Int)<=k:=by omega
   have v:=af (YC t K N.length L m x wr ((c.o.2.cell i.o).trans D.o));have z:=af s;clear g s;go_wp2_with fail;refine v.o.mono ?_;rintro e M ⟨rfl,A⟩;have u:=af (c.o.2.trans (A.mono c.o.2.size));clear A v B c1;by_cases b:(t==x)=iV
   ·have j:ah (R=(k:Int)):=by
     show _=_;rw[<-f.o];exact FV (Fm c.o.1 z.o (by simpa[aW]using b)) a (by omega)
    rw[b];clear c f;go_wp2;go_ret;rw[j.o];exact⟨rfl,u.o⟩
   ·have d:(t==x)=iF:=by simpa using b
    have l:ah (de (rs.map aW) x (k+1)= -1/\iL w.heap.size w M):=⟨FC c.o.1 z.o (by simpa[aW]using b),u.o⟩
    rw[d];clear c b;go_wp2;go_roundw
    case rel=>exact⟨k+1,by omega,by go_num,l⟩
    case measure=>simp[intOf];omega
  ·have j:ah (R= -1):=by
    show _=_;rw[<-f.o,<-c.o.1];congr 1;omega
   clear f;go_wp2;go_ret;rw[j.o];exact⟨rfl,c.o.2⟩
theorem Cy(ad:Option Addr)(a cap:Nat)(rs:List Hw)(x:Int)(w:iW)(h:dN w ad a rs)(i:a<=1048576):
 iK Tryz.prog 16 #[Y ad a cap,I J x] w λe w'=>e=G (I J (bM (rs.map aW) x))/\iL w.heap.size w w':=by
 have b:=aO w (iC #[I J x] 3);have f:(w.alloc (iC #[I J x] 3)).heap[w.heap.size]?=X (iC #[I J x] 3 (0,0)):=az _ _;have C:=af (Sq ad a cap rs x w.heap.size _ (h.below b) i (am _ _ 0 _ _ _ f));have c:=af b;clear b f h;go_enter Tryz.func16,Tryz.ntmps16;go_wp2_with fail;refine C.o.mono ?_;rintro e j ⟨rfl,d⟩;have g:=af (c.o.trans (d.mono c.o.size));clear d C;go_wp2;go_ret;exact⟨rfl,g.o⟩
open Go
def uA(o:Oper)(i:Nat):Bool:=o.after.any λe=>Region.binds .any e&&e.on==i
def uj(ops:Array Oper)(o:Oper):Bool:=
 ((List.range ops.size).all λi=>uA o i||(List.range ops.size).any λj=>uA o j&&(match ops[j]? with|some a=>uA a i|none=>iF))&&
 ((List.range ops.size).all λj=>match ops[j]? with
   |some a=>(a.after.all λe=> !Region.binds .any e||decide (e.on<j))&&(match a.guard with|none=>iV|some (k,_)=>decide (k<ops.size))
   |none=>iV)&&
 (o.after.all λe=> !Region.binds .any e||decide (e.on<ops.size))&&
 o.guard.isNone
theorem zk{o:Oper}(h:uA o i=iV):∃e∈o.after,Region.binds .any e=iV/\e.on=i:=by
 unfold uA at h;simp only[Array.any_eq_true',bt,ky]at h;obtain⟨e,b,a,c⟩:=h;exact⟨e,b,a,c⟩
theorem Yc{o:Oper}(h:uj ops o=iV):(∀i,i<ops.size->(∃e∈o.after,Region.binds .any e=iV/\e.on=i)∨∃j a,ops[j]?=X a/\(∃e∈o.after,Region.binds .any e=iV/\e.on=j)/\∃e∈a.after,Region.binds .any e=iV/\e.on=i)/\(∀j a,ops[j]?=X a->(∀e∈a.after,Region.binds .any e=iV->e.on<j)/\∀k b,a.guard=X (k,b)->k<ops.size)/\o.guard=O/\∀e∈o.after,Region.binds .any e=iV->e.on<ops.size:=by
 unfold uj at h;simp only[bt,gy,ju,tJ,jd,pO]at h;obtain⟨⟨⟨h1,n⟩,h4⟩,p⟩:=h;refine⟨λi hi=>?_,λj a l=>?_,p,λe g f=>?_⟩
 ·rcases h1 i hi with q|⟨j,l,s,d⟩
  ·exact .inl (zk q)
  ·cases c:ops[j]? with
   |none=>rw[c]at d;cases d
   |some a=>
    rw[c]at d;exact .inr ⟨j,a,c,zk s,zk d⟩
 ·have m:=(aJ.1 l).1;have:=n j m;rw[l]at this;simp only[bt,xJ,jd,lC,bW]at this;refine⟨λe g f=>?_,λk b r=>?_⟩
  ·rcases this.1 e g with q|q
   ·rw[f]at q;cases q
   ·exact q
  ·have q:=this.2;rw[r]at q
   simpa using q
 ·have:=xJ.1 h4 e g;simp only[jd,lC,bW]at this;rcases this with q|q
  ·rw[f]at q;cases q
  ·exact q
def sY(ops:Array Oper)(listed:Array Bool):Prop:=∀j a,ops[j]?=X a->listed.getD j iF=iV->∀e∈a.after,Region.binds .any e=iV->listed.getD e.on iF=iV
theorem Tc(ops:Array Oper)(n:Nat):sY ops (Array.replicate n iF):=by
 intro j b _ h;rw[wC]at h;by_cases a:j<n
 ·rw[mp (by simpa using a)]at h
  simp at h
 ·rw[GQ (by simpa using a)]at h
  cases h
theorem sY.step(h:sY ops listed)(g:j∈Region.ready .any ops listed):sY ops (listed.setIfInBounds j iV):=by
 rw[kW]at g;obtain⟨o,n,l,m⟩:=g;have i:∀k,listed.getD k iF=iV->(listed.setIfInBounds j iV).getD k iF=iV:=λk a=>by
  by_cases e:j=k
  ·subst e;rw[wC]at a⊢;by_cases b:j<listed.size
   ·rw[AY b];rfl
   ·rw[GQ (by omega)]at a;cases a
  ·rw[xW iF e];exact a
 intro k ok a b e f d;by_cases c:j=k
 ·subst c;rw[l]at a;cases a;exact i _ (m e f d)
 ·rw[xW iF c]at b;exact i _ (h k ok a b e f d)
theorem Tj{o:Oper}{Q:Exit->Act->iW->Prop}(h:uj ops o=iV):∀(fuel:Nat) (listed:Array Bool) (a:Act) (w:iW),listed.size=ops.size->sY ops listed->
 wpAny P .any ops (mX P o Q) fuel listed a w->wpAny P .any (ops.push o) Q (fuel+1) (listed.push iF) a w:=by
 obtain⟨h1,G,T,h4⟩:=Yc h;have U:∀(listed:Array Bool) (j:Nat),listed.size=ops.size->sY ops listed->j∈Region.ready .any (ops.push o) (listed.push iF)->(j<ops.size/\j∈Region.ready .any ops listed)∨(j=ops.size/\∀i,i<ops.size->listed.getD i iF=iV):=by
  intro listed j hs m f;rw[kW]at f;obtain⟨n,l,p,E⟩:=f;by_cases d:j<ops.size
  ·left;rw[pU d]at p;rw[qt (by omega)]at n
   refine⟨d,kW.2 ⟨n,l,by rw[mp d];exact p,λe u s=>?_⟩⟩
   have:=E e u s
   rwa [oz]at this
  ·right;have L:j<(ops.push o).size:=(aJ.1 p).1;simp only[yh]at L;have e:j=ops.size:=by omega
   subst e;simp only[yb,fu]at p;subst p;refine⟨rfl,λi hi=>?_⟩
   rcases h1 i hi with⟨e,u,s,N⟩|⟨t,ot,ht,⟨e,u,s,N⟩,V,J,I,O⟩
   ·have:=E e u s;rw[oz,N]at this;exact this
   ·have:=E e u s;rw[oz,N]at this;have:=m t ot ht this V J I;rw[O]at this;exact this
 have D:∀(listed:Array Bool),listed.size=ops.size->(∀i,i<ops.size->listed.getD i iF=iV)->Region.ready .any ops listed=[]:=by
  intro listed hs g;rw[vG];intro j f;rw[kW]at f;obtain⟨n,l,p,-⟩:=f;have d:=(aJ.1 p).1;have:=g j d;have y:j<listed.size:=by omega
  simp[y]at n this;rw[n]at this;cases this
 have r:∀(fuel:Nat) (listed:Array Bool) (a:Act) (w:iW),listed.size=ops.size->(∀i,i<ops.size->listed.getD i iF=iV)->wpList P #[] Q [o] a w->wpOp P (ops.push o) Q ops.size (wpAny P .any (ops.push o) Q fuel ((listed.push iF).setIfInBounds ops.size iV)) a w:=by
  intro fuel listed a w hs g v;have x:Region.ready .any (ops.push o) ((listed.push iF).setIfInBounds ops.size iV)=[]:=by
   rw[vG];intro j f;rw[kW]at f;obtain⟨n,l,p,-⟩:=f;have d:=(aJ.1 p).1;simp only[yh]at d;by_cases e:ops.size=j
   ·subst e;have:ops.size<(listed.push iF).size:=by simp[hs]
    rw[wC,AY this]at n;cases n
   ·rw[xW iV e,qt (by omega)]at n
    have M:=g j (by omega)
    have y:j<listed.size:=by omega
    simp[y]at n M;rw[n]at M;cases M
  unfold wpOp;simp only[yb,Region.wanted,T,cW];simp only[wpList,Region.wanted,T,cW]at v;exact v.imp (Oper.wp_mono (λS w' z=>wpAny_done x z fuel)) id
 have C:∀(listed:Array Bool),listed.size=ops.size->(∀i,i<ops.size->listed.getD i iF=iV)->ops.size∈Region.ready .any (ops.push o) (listed.push iF):=by
  intro listed hs g;rw[kW];refine⟨by simp[<-hs],o,by simp,λe u s=>?_⟩
  rw[oz];exact g e.on (h4 e u s)
 have up:∀(listed:Array Bool) (j:Nat),listed.size=ops.size->j∈Region.ready .any ops listed->j∈Region.ready .any (ops.push o) (listed.push iF):=by
  intro listed j hs f;rw[kW]at f⊢;obtain⟨n,l,p,E⟩:=f;have d:=(aJ.1 p).1;refine⟨by rw[qt (by omega)];exact n,l,by rw[pU d,<-mp d];exact p,λe u s=>?_⟩
  rw[oz];exact E e u s
 have yl:∀(c:Array iX) (k:Nat),k<ops.size->yielded (ops.push o) c k=yielded ops c k:=by
  intro c k z;unfold yielded;rw[pU z,<-mp z]
 have wn:∀(l:Oper) (j:Nat) (c:Array iX),ops[j]?=X l->Region.wanted l (yielded (ops.push o) c)=Region.wanted l (yielded ops c):=by
  intro l j c f;unfold Region.wanted;cases Z:l.guard with
  |none=>rfl
  |some kb=>
   obtain⟨k,b⟩:=kb;simp only;rw[yl c k ((G j l f).2 k b Z)]
 have R:∀(j:Nat) (K:Act->iW->Prop) (a:Act) (w:iW),j<ops.size->wpOp P ops (mX P o Q) j K a w->wpOp P (ops.push o) Q j K a w:=by
  intro j K a w f v;have A:ops[j]?=X ops[j]:=mp f;unfold wpOp at*;rw[pU f];rw[A]at v;simp only at v⊢;rw[wn _ j a.tmps A];split
  ·rename_i hw
   simp only[hw,cW]at v;exact v.imp (λq=>Ie q) (λq=>⟨q.1,LetsOut.last q.2⟩)
  ·rename_i hw
   simp only[hw]at v;exact v
 intro fuel
 induction fuel with
 |zero=>
  intro listed a w hs m H;have g:=wF hs (λj l f=>(G j l f).1) H.1
  refine⟨λF=>?_,λj f=>?_⟩
  ·have:=C listed hs g;rw[F]at this;cases this
  ·rcases U listed j hs m f with⟨-,q⟩|⟨rfl,q⟩
   ·rw[H.1]at q;cases q
   ·exact r 0 listed a w hs q H.2
 |succ fuel ih=>
  intro listed a w hs m H;refine⟨λF=>?_,λj f=>?_⟩
  ·cases B:Region.ready .any ops listed with
   |nil=>
    have:=C listed hs (wF hs (λj l f=>(G j l f).1) B)
    rw[F]at this;cases this
   |cons k ks=>
    have:=up listed k hs (by rw[B];simp)
    rw[F]at this;cases this
  ·rcases U listed j hs m f with⟨d,q⟩|⟨rfl,q⟩
   ·have W:=R j _ a w d (H.2 j q);refine wpOp_mono (λS w' z=>?_) W
    have Y:=ih (listed.setIfInBounds j iV) S w' (by simpa using hs) (m.step q) z
    have e:(listed.push iF).setIfInBounds j iV=(listed.setIfInBounds j iV).push iF:=by
     apply rC;rw[rF,wW,wW,rF,List.set_append_left _ _ (by rw[BU];omega)]
    rw[e];exact Y
   ·exact r (fuel+1) listed a w hs q (H.1 (D listed hs q))
theorem VT {id:Nat} {l:List Oper} {o:Oper} {Q:Exit->Act->iW->Prop} {S:iW->Prop} {w:iW} (g:P.follows .mixedOrders=iV) (h:uj l.toArray o=iV) (e:S w.drew)
 (f:S w.drew->wpAnyH P .any l.toArray (mX P o Q) S l.length (Array.replicate l.length iF) a w.drew):(Code.region id (l++[o]).toArray iV).wp P Q a w:=by
 refine Dp g ?_;have b:(l++[o]).toArray=l.toArray.push o:=by simp
 have c:(l++[o]).toArray.size=l.length+1:=by simp
 rw[c,b];have d:Array.replicate (l.length+1) iF=(Array.replicate l.length iF).push iF:=by rw[Array.replicate_succ]
 rw[d];exact Tj h l.length _ a _ (by simp) (Tc _ _) (A8 _ _ _ _ (f e))
theorem Ys {id:Nat} (n:Nat) {l:List Oper} {o:Oper} {Q:Exit->Act->iW->Prop} {S:iW->Prop} {w:iW} (d:P.follows .mixedOrders=iV) (f:l.drop n=[o]) (h:uj l.dropLast.toArray o=iV) (b:S w.drew)
 (c:S w.drew->wpAnyH P .any l.dropLast.toArray (mX P o Q) S l.dropLast.length (Array.replicate l.dropLast.length iF) a w.drew):(Code.region id l.toArray iV).wp P Q a w:=by
 have e:l=l.dropLast++[o]:=by
  have:=jP n l;rw[f]at this;rw[<-this,AL]
 have:=VT (id:=id) (Q:=Q) (S:=S) d h b c;rw[<-e]at this;exact this
theorem GJ(s:ByteArray)(w:iW)(hs:s.size<=281474976710656):
 iK Tryz.prog 39 #[iT s] w λe w'=>e=G (iT s)/\iL w.heap.size w w':=by
 go_enter Tryz.func39,Tryz.ntmps39;go_wp2_with fail;refine(Tryz.stringslite_Clone _ _ hs).mono ?_;rintro e w' ⟨rfl,a⟩;go_wp2;go_ret;exact⟨rfl,a⟩
theorem Hm(a:Option Addr)(n c:Nat)(ls:List ByteArray)(w:iW)(h:mY w a n ls)(hn:n<=1048576)(hs:∀t∈ls,t.size<=281474976710656):
 iK Tryz.prog 32 #[Y a n c] w λe w'=>e=G (Y (X ⟨w.heap.size,0,O⟩) n n)/\w'.ownsRow w.heap.size 9 1 (Y (X ⟨w.heap.size,0,O⟩) n n) n (cA ls)/\iL w.heap.size w w':=by
 have H:=af h;have s:=af h.1;have M:=af hs;obtain⟨T,K,j,l,m⟩:=bK vV;clear h hs;go_enter Tryz.func32,Tryz.ntmps32;go_wp2_with (at_make;refine pZ _ rfl _ _ 30 rfl w.heap.size 9 T (iT ⟨#[]⟩) 1 Tryz.underlying30 K j l J J _ _ n rfl rfl rfl rfl (by rw[m];omega) (by unfold maxLen;omega) (by omega) ?_)
 intro Z d f;generalize(madeCells #[iT ⟨#[]⟩] _).toList=Q at d;have B:ah (Q.length=n):=by have:=d.1;show _=_;simpa using this
 have v:ah (kt w Z w.heap.size n [] Q):=⟨by simpa[cA]using d,(ax _ _).grown f (ak _) (λk L=>by cases L)⟩
 obtain⟨z,x⟩:=an w.heap.size;have u:=af x;rw[x]at v⊢;clear d f K j l m x;go_wp2;go_loopw [11] (λy W=>∃k:Nat,k<=n/\y=I J k/\ah (kt w W z n (ls.take k) (Q.drop k))) (λy _=>n-(intOf y).toNat)
 case atStart=>exact⟨0,aI _,rfl,by have:=v.o;show kt _ _ _ _ _ _;simpa using this⟩
 case round=>
  obtain⟨k,L,rfl,g⟩:=hrel;clear v;by_cases S:(k:Int)<n
  ·obtain⟨t,q⟩:∃t,ls[k]?=X t:=⟨_,ay (by have:=s.o;omega)⟩
   obtain⟨b,V,e,R,P⟩:=(H.o.below (show iL w.heap.size w wr by rw[u.o];exact g.o.2)).at q
   subst e;obtain⟨U,F⟩:=Ue B.o (show k<n by omega)
   have i:ah (kt w wr z n (ls.take k) (U::Q.drop (k+1))):=by have:=g.o;rw[F]at this;exact this
   have A:ah ((ls.take k).length=k):=by show _=_;rw[dk];have:=s.o;omega
   have D:ah (ls.take k++[t]=ls.take (k+1)):=by show _=_;rw[dF,q];rfl
   have C:=af (GJ t wr (M.o t (aH q)));have k0:(0:Int)<=k:=by omega
   clear q F g R;go_wp2_with fail;refine C.o.mono ?_;rintro e w3 ⟨rfl,E⟩;have p:=af (i.o.below (by have:=u.o;omega) E)
   have q0:=p.o.cell A.o;have f0:=p.o.fr k;have N:ah (kt w (w3.setCell ⟨z,k,O⟩ (iT t)) z n (ls.take (k+1)) (Q.drop (k+1))):=by have:=p.o.put A.o t;rw[D.o]at this;exact this
   clear E C i p D P;go_wp2;go_roundw
   case rel=>exact⟨k+1,by omega,by go_num,N⟩
   case measure=>simp[intOf];omega
  ·have e:k=n:=by omega
   subst e;have r:ah (wr.ownsRow z 9 1 (Y (X ⟨z,0,O⟩) k k) k (cA ls)/\iL z w wr):=by
    refine⟨?_,g.o.2⟩;have:=g.o.1;rw[kB (by have:=B.o;omega),eM,cm (by have:=s.o;omega)]at this
    exact this
   clear g;go_wp2;go_ret;rw[u.o];exact⟨rfl,r.o⟩
def CJ(w W:iW)(z n:Nat)(ss:List Hw)(a:List iX):Prop:=gh W z (Y (X ⟨z,0,O⟩) n n) n ss a/\iL z w W
theorem MT(a:Option Addr)(n c:Nat)(rs:List Hw)(w:iW)(h:dN w a n rs)(hn:n<=1048576)(aa:∀r∈rs,r.2.2.length<=1048576)(hs:∀r∈rs,∀t∈r.2.2,t.size<=281474976710656):
 iK Tryz.prog 14 #[Y a n c] w λe w'=>(∃z,e=G (Y (X ⟨z,0,O⟩) n n))/\sH w (rs.map aW) e w':=by
 have H:=af h;have HN:=af h.1;have HS:=af hs;have ap:=af aa;obtain⟨i0,hi,ae,ag,ai⟩:=bK rg;clear h hs aa;go_enter Tryz.func14,Tryz.ntmps14;go_wp2_with (at_make;refine pZ _ rfl _ _ 24 rfl w.heap.size 32 i0 (iA #[I J 0,Y O 0 0]) 2 Tryz.underlying24 hi ae ag J J _ _ n rfl rfl rfl rfl (by rw[ai];omega) (by unfold maxLen;omega) (by omega) ?_)
 intro w1 j s;generalize(madeCells #[I J 0,Y O 0 0] (n*2)).toList=R at j;have T:ah (R.length=n*2):=j.1;obtain⟨z,hz⟩:=an w.heap.size;have HZ:=af hz;have S0:ah (CJ w w1 z n [] R):=⟨⟨by rw[<-hz];simpa[bi]using j,(λ_ h=>by cases h),List.Pairwise.nil⟩,by rw[<-hz];exact(ax _ _).grown s (ak _) (λk hk=>by cases hk)⟩
 try rw[hz]
 clear j s hi ae ag ai hz;go_wp2;go_loopw [11] (λiv W=>∃(k:Nat) (ss:List Hw),k<=n/\iv=I J k/\ah (ss.length=k/\ss.map aW=(rs.map aW).take k/\CJ w W z n ss (R.drop (k*2)))) (λiv _=>n-(intOf iv).toNat)
 case atStart=>exact⟨0,[],aI _,rfl,rfl,by simp,by simpa using S0.o⟩
 case round=>
  obtain⟨k,ss,hk,rfl,HX⟩:=hrel
  rename iW=>wq
  clear S0;obtain⟨ac,ad,Z⟩:=HX.o;have f:=af ac;have D:=af ad;have L:=af Z;clear HX ac ad Z;have HW:ah (iL w.heap.size w wq):=by show iL _ _ _;rw[HZ.o];exact L.o.2
  by_cases av:(k:Int)<n
  ·obtain⟨r,hr⟩:∃r,rs[k]?=X r:=⟨_,ay (by have:=HN.o;omega)⟩
   obtain⟨b,aA,e,hb,c0,c1⟩:=(H.o.below HW.o).at hr;subst e;have hm:=aH hr;obtain⟨x,y,eu,-,hu⟩:=(H.o.below HW.o).2.2.1 r hm;have U:=af (HS.o r hm);have E:=ap.o r hm;have V:ah ((rs.map aW)[k]?=X (aW r)):=vR hr;obtain⟨i,xv,N⟩:=r;simp only at c0 c1 eu hu E U;subst eu;obtain⟨m,F⟩:=an N.length;rw[F]at c1 hu E;have k0:(0:Int)<=k:=by omega
   obtain⟨oa,ob,hd⟩:=Sn T.o (show k<n by omega)
   have B:ah (gh wq z (Y (X ⟨z,0,O⟩) n n) n ss (oa::ob::R.drop ((k+1)*2))):=by have:=L.o.1;rw[hd]at this;exact this
   have bV:=aO wq (iC #[I J i,Y x m y] 32);have M:(wq.alloc (iC #[I J i,Y x m y] 32)).heap[wq.heap.size]?=X (iC #[I J i,Y x m y] 32 (0,0)):=az _ _;have v:(wq.alloc (iC #[I J i,Y x m y] 32)).heap.size=wq.heap.size+1:=by simp
   have HU:=af hu;have Q:=af F;have aw:z<wq.heap.size:=(fQ L.o.1.1 z rfl).2.1;clear hr hm hb hd hu F;go_upto_region 5 with fail
   generalize wq.alloc (iC #[I J i,Y x m y] 32)=l at bV M v⊢;obtain⟨g,u⟩:=an wq.heap.size;have ao:=af u;rw[u]at M v;try rw[u]
   have BV:=af bV;have GV:=af M;have bD:iL l.heap.size l l.drew:=(ax _ _).drew;have C:=af (Hm x m y N l.drew ((HU.o.below BV.o).below bD) E U.o);have ab:l.drew.heap.size=g+1:=v;rw[ab]at C;have KD:l.drew.cell? ⟨g,0,O⟩=X (I J i)/\l.drew.cell? ⟨g,1,O⟩=X (Y x m y):=⟨am _ _ 0 _ _ _ (M:l.drew.heap[g]?=_),am _ _ 1 _ _ _ (M:l.drew.heap[g]?=_)⟩;have P:=af KD;have BQ:ah (iL wq.heap.size wq l.drew):=BV.o.trans (bD.mono (by omega))
   clear bV M v bD c0 c1 u;refine Ys 9 (S:=λw'=>w'.cell? ⟨g,0,O⟩=X (I J i)/\w'.cell? ⟨g,1,O⟩=X (Y x m y)) (by kernel_rfl) rfl (by kernel_rfl) KD (λhHeld=>?_)
   simp only[vp,tU,aR,cU,Nat.reduceAdd];refine au 0 ?_;refine au 1 ?_;refine au 2 ?_;refine au 3 ?_;refine au 4 ?_;refine au 5 ?_;refine ch 6 rfl (by kernel_rfl) (λK hK=>?_)
   go_simp;refine C.o.mono ?_;rintro en w2 ⟨rfl,al,b2⟩;have BD:ah (iL l.drew.heap.size l.drew w2):=by show iL _ _ _;rw[ab];exact b2
   refine hK.out _ _ (by have:=P.o;exact⟨(BD.o.cell (show g<l.drew.heap.size by omega)).trans this.1,(BD.o.cell (show g<l.drew.heap.size by omega)).trans this.2⟩) (λhHeld2=>?_)
   clear hK K hHeld;have hHeld:=hHeld2;clear hHeld2
   (try simp only[Act.put,bJ,bE,bp])
   refine au 7 ?_;refine au 8 ?_;refine jx (by kernel_rfl) (vw ?_)
   have OW:=af al;have A:ah (iL wq.heap.size wq w2):=BQ.o.trans (BD.o.mono BQ.o.size);have d:=af (B.o.below A.o);have q0:=d.o.cell0 f.o;have q1:=d.o.cell1 f.o;have f0:=d.o.fr (k*2);have f1:=d.o.fr (k*2+1);have aj:((w2.setCell ⟨z,k*2,O⟩ (I J i)).setCell ⟨z,k*2+1,O⟩ (Y (X ⟨g+1,0,O⟩) m m)).heap.size=w2.heap.size:=by simp[World.setCell]
   have NX:ah (CJ w ((w2.setCell ⟨z,k*2,O⟩ (I J i)).setCell ⟨z,k*2+1,O⟩ (Y (X ⟨g+1,0,O⟩) m m)) z n (ss++[(i,Y (X ⟨g+1,0,O⟩) m m,N)]) (R.drop ((k+1)*2))):=by
    obtain⟨-,-,cs,q⟩:=fQ d.o.1 z rfl;obtain⟨-,-,ar,q2⟩:=fQ (d.o.set (GG f.o oa ob (I J i) _)).1 z rfl;refine⟨?_,?_⟩
    ·refine gh.take (W0:=wq) B.o.lt (by omega) ((d.o.set (GG f.o oa ob (I J i) _)).set (Yn f.o _ _ _ _)) ?_ (by rw[Q.o];unfold maxLen;omega)
     rw[aj,Q.o];exact(((aB.of OW.o).dn (show wq.heap.size<=g+1 by have:=ao.o;omega)).setH q).setH q2
    ·exact((L.o.2.trans (A.o.mono (by omega))).setCell (p:=⟨z,k*2,O⟩) (by show z<=z;omega) _).setCell (p:=⟨z,k*2+1,O⟩) (by show z<=z;omega) _
   have NT:ah ((ss++[(i,Y (X ⟨g+1,0,O⟩) m m,N)]).map aW=(rs.map aW).take (k+1)):=by
    show _=_;rw[dB,D.o,dF,V.o];rfl
   have NL:ah ((ss++[(i,Y (X ⟨g+1,0,O⟩) m m,N)]).length=k+1):=by show _=_;rw[aT,f.o];rfl
   generalize ss++[(i,Y (X ⟨g+1,0,O⟩) m m,N)]=aq at NX NT NL;clear aj OW B d L D f V BQ A HU BV GV P C al b2 BD hHeld KD HW;go_wp2;go_roundw
   case rel=>exact⟨k+1,aq,by omega,by go_num,NL.o,NT.o,NX.o⟩
   case measure=>simp[intOf];omega
  ·have ek:k=n:=by omega
   subst ek;have KO:ah (ci wq z (Y (X ⟨z,0,O⟩) k k) ss):=by
    have:=L.o.1;rw[kB (by have:=T.o;omega)]at this
    have e:=f.o;exact gh.own (by rw[e];exact this)
   have ET:ah (ss.map aW=rs.map aW):=by
    show _=_;rw[D.o,cm (by rw[aS];have:=HN.o;omega)]
   go_wp2;go_ret;exact⟨⟨z,rfl⟩,_,ss,rfl,KO.o.down (by have:=HZ.o;omega),ET.o,HW.o⟩
def Gu(D:List Hw):Prop:=∀r∈D,∃a n c,r.2.1=Y a n c
def hO(w W:iW)(B g N cap:Nat)(D:List Hw):Prop:=W.ownsRow B 32 2 (Y (X ⟨g,0,O⟩) N cap) N (bi D)/\w.grownBy W (X g)/\Gu D
theorem hO.below{w V d:iW}{D:List Hw}(h:hO w V B g N cap D)(a:iL V.heap.size V d):hO w d B g N cap D:=by
 obtain⟨h1,b,e⟩:=h;have hs:=b.size;exact⟨bu h1 a,⟨a.os.trans b.os,a.tape.trans b.tape,a.output.trans b.output,bR hs a.size,λi hi c=>(a.block i (by omega)).trans (b.block i hi c)⟩,e⟩
theorem hO.cells{w W:iW}{B g N cap i:Nat}{D:List Hw}{r:Hw}(h:hO w W B g N cap D)(hi:D[i]?=X r):W.cell? ⟨g,i*2,O⟩=X (I J r.1)/\W.cell? ⟨g,i*2+1,O⟩=X r.2.1:=by
 have f:=λj v a=>h.1.cells (g:=g) rfl (i*2+j) v (yA D i r hi j v a)
 simp only[eX]at f;exact⟨f 0 _ rfl,f 1 _ rfl⟩
theorem hO.fr{w W:iW}{D:List Hw}(h:hO w W B g N cap D)(j:Nat):W.frozen? ⟨g,j,O⟩=iF:=by
 obtain⟨-,-,cs,q⟩:=fQ h.1 g rfl;exact aL _ _ j _ _ q
theorem Gv{L:List Hw}(hi:i<L.length)(a:Int)(v:iX)(l:List ByteArray):((bi L).set (i*2) (I J a)).set (i*2+1) v=bi (L.set i (a,v,l)):=by
 induction L generalizing i with
 |nil=>simp at hi
 |cons x L c=>
  cases i with
  |zero=>rfl
  |succ i=>
   have e:(i+1)*2=i*2+2:=by omega
   have b:(i+1)*2+1=(i*2+1)+2:=by omega
   have:=c (i:=i) (by simpa using hi)
   rw[b,e,bp,xA,xA,<-this];rfl
theorem hO.swap{w W:iW}{P R:List Hw}{u y:Hw}(h:hO w W B g N cap (P++u::y::R))(d:P.length=q):
 hO w ((((W.setCell ⟨g,(q+1)*2,O⟩ (I J u.1)).setCell ⟨g,(q+1)*2+1,O⟩ u.2.1).setCell ⟨g,q*2,O⟩ (I J y.1)).setCell ⟨g,q*2+1,O⟩ y.2.1) B g N cap (P++y::u::R):=by
 obtain⟨h1,b,c⟩:=h;have e:((((bi (P++u::y::R)).set ((q+1)*2) (I J u.1)).set ((q+1)*2+1) u.2.1).set (q*2) (I J y.1)).set (q*2+1) y.2.1=bi (P++y::u::R):=by
  rw[Gv (by simp;omega) u.1 u.2.1 u.2.2,Gv (by simp;omega) y.1 y.2.1 y.2.2]
  subst d;congr 1;rw[ii _ _ (by omega),show P.length+1-P.length=1 by omega,ii _ _ (by omega),ja]
  rfl
 refine⟨?_,?_,?_⟩
 ·rw[<-e];exact mi (mi (mi (mi h1 rfl _ _) rfl _ _) rfl _ _) rfl _ _
 ·exact(((b.trans (ik _ g _ _)).trans (ik _ g _ _)).trans (ik _ g _ _)).trans (ik _ g _ _)
 ·intro r a;refine c r ?_;simp only[br,bf]at a⊢;rcases a with a|a|a|a
  ·exact .inl a
  ·exact .inr (.inr (.inl a))
  ·exact .inr (.inl a)
  ·exact .inr (.inr (.inr a))
def mf(L:List Hw)(x:Hw)(i:Nat)(E:List Hw):Prop:=(i<=L.length/\E=L++[x])∨(i=L.length+1/\∃U V,L=U++V/\(∀u∈U,u.1<=x.1)/\(∀v∈V,x.1<v.1)/\E=U++x::V)
theorem mf.start(L:List Hw)(x:Hw):mf L x 1 (L++[x]):=by
 cases L with
 |nil=>exact .inr ⟨rfl,[],[],rfl,(λ_ h=>by cases h),(λ_ h=>by cases h),rfl⟩
 |cons a L=>exact .inl ⟨by simp,rfl⟩
theorem mf.parts{L:List Hw}{x:Hw}{E:List Hw}(h:mf L x i E)(b:L.length+1=N)(hi:i<N):∃S y T,E=S++y::T/\S.length=i/\S++y::T=L++[x]:=by
 obtain⟨h1,rfl⟩|⟨h1,-⟩:=h
 ·have a:i<(L++[x]).length:=by simp;omega
  refine⟨(L++[x]).take i,(L++[x])[i],(L++[x]).drop (i+1),?_,by rw[dk];omega,?_⟩
  ·rw[<-gj a,jP]
  ·rw[<-gj a,jP]
 ·omega
variable{S:List Hw}
theorem mf.asc{L T:List Hw}{x y:Hw}(c:L.Pairwise (λa b=>a.1<b.1))(h:S++y::T=L++[x]):S.Pairwise (λa b=>a.1<b.1):=by
 have:S<+:L++[x]:=⟨y::T,h⟩;rcases T.eq_nil_or_concat with rfl|⟨T',b,rfl⟩
 ·have:=(wD h rfl).1;rw[this];exact c
 ·have e:(S++y::T')++[b]=L++[x]:=by simpa using h
  have:=(wD e rfl).1;rw[<-this]at c;exact(eW.1 c).1
variable{V:List Hw}
theorem mf.step{L T U:List Hw}{x y:Hw}(g:L.Pairwise (λa b=>a.1<b.1))(h:S++y::T=L++[x])(k:S.length=i)(c:U++V=S)(j:∀v∈V,y.1<v.1)(n:∀u∈U,u.1<=y.1):mf L x (i+1) (U++(y::(V++T))):=by
 rcases T.eq_nil_or_concat with rfl|⟨T',b,rfl⟩
 ·obtain⟨d,f⟩:=wD h rfl;injection f with f _
  subst d f;exact .inr ⟨by rw[<-k],U,V,c.symm,n,j,by simp⟩
 ·have e:(S++y::T')++[b]=L++[x]:=by simpa using h
  have d:=(wD e rfl).1;have m:∀s∈S,s.1<y.1:=λs hs=>by
   rw[<-d]at g;exact(eW.1 g).2.2 s hs y (by simp)
  have l:V=[]:=by
   cases V with
   |nil=>rfl
   |cons v V=>
    have h1:=j v (by simp)
    have o:=m v (by rw[<-c];simp)
    omega
  subst l;rw[eM]at c;subst c;refine .inl ⟨by rw[<-d];simp;omega,?_⟩
  rw[iN];exact h
theorem Ta{d:List Hw}{u y:Hw}(f:S.Pairwise (λa b=>a.1<b.1))(c:(d++[u])++V=S)(h:u.1<=y.1):∀p∈d++[u],p.1<=y.1:=by
 intro p g;rw[<-c]at f;have h1:=(eW.1 f).1;rcases br.1 g with e|e
 ·have:=(eW.1 h1).2.2 p e u (by simp);omega
 ·rw[bT]at e;subst e;exact h
def xo(w W:iW)(B g N cap:Nat)(L:List Hw)(x:Hw):Prop:=∃U V,L=U++V/\(∀u∈U,u.1<=x.1)/\(∀v∈V,x.1<v.1)/\hO w W B g N cap (U++x::V)
theorem Jz(x y:Int):(Lib.compareInt x y<0)↔x<y:=by
 unfold Lib.compareInt;split<;>(try split)<;>omega
theorem SH(x y:Int)(b c:Option Addr)(f g c1 c2:Nat)(w:iW):
 iK Tryz.prog 37 #[iA #[I J x,Y b f c1],iA #[I J y,Y c g c2]] w λe w'=>e=G (I J (Lib.compareInt x y))/\iL w.heap.size w w':=by
 have d:=((ax w.heap.size w).alloc (ak _) (iC #[I J x,Y b f c1] 32)).alloc (by simp) (iC #[I J y,Y c g c2] 32)
 have h:=af d;have a:=af (λW=>Tryz.cmp_Compare_int x y W)
 generalize Lib.compareInt x y=r at a;clear d;go_enter Tryz.func37,Tryz.ntmps37;go_wp2_with fail;refine(a.o _).mono ?_;rintro e i ⟨rfl,rfl⟩;go_wp2;go_ret;exact⟨rfl,h.o⟩
theorem S7(B g N cap:Nat)(L:List Hw)(x:Hw)(w:iW)(hN:N<=1048580)(hl:L.length+1=N)(ha:L.Pairwise (λa b=>a.1<b.1))(ho:hO w w B g N cap (L++[x])):
 iK Tryz.prog 93 #[Y (X ⟨g,0,O⟩) N cap,I J 0,I J N,.func (.func 37) #[] #[]] w λe w'=>e=G (iU #[])/\xo w w' B g N cap L x:=by
 have HL:=af hl;have HA:=af ha;have t:=af ho;have s:=af (mf.start L x);generalize L++[x]=D at t s;have am:1<=N:=by omega
 clear hl ha ho;go_enter Tryz.func93,Tryz.ntmps93;go_wp2;go_loopw [8] (λiv wr=>∃(i:Nat) (E:List Hw),iv=I J i/\1<=i/\i<=N/\ah (mf L x i E)/\ah (hO w wr B g N cap E)) (λiv _=>N-(intOf iv).toNat)
 case atStart=>exact⟨1,D,rfl,ak _,am,s,t⟩
 case round=>
  rename iW=>wo
  obtain⟨i,E,rfl,r1,r2,HO,d⟩:=hrel;clear t s;by_cases av:(i:Int)<N
  ·obtain⟨S,y,T,e1,e2,e3⟩:=HO.o.parts HL.o (by omega)
   have AS:=af (mf.asc HA.o e3);have E3:=af e3;have E2:=af e2;have J0:ah (E=S++(y::([]++T))/\S++[]=S/\S.length=i/\∀v∈([]:List Hw),y.1<v.1):=⟨by rw[e1];simp,by simp,e2,λv hv=>by cases hv⟩
   have ab:=d;clear e1 e2 e3 HO d;go_wp2;go_loopw [9] (λjv wr=>∃(j:Nat) (F U V:List Hw),jv=I J j/\j<=i/\ah (F=U++(y::(V++T))/\U++V=S/\U.length=j/\∀v∈V,y.1<v.1)/\ah (hO w wr B g N cap F)) (λjv _=>(intOf jv).toNat)
   case atStart=>exact⟨i,E,S,[],rfl,ak _,J0,ab⟩
   case round=>
    obtain⟨j,m,U,V,rfl,n,HK,d⟩:=hrel;clear ab J0;have f:ah ((∀u∈U,u.1<=y.1)->mf L x (i+1) m):=λhu=>by
     obtain⟨k1,k2,k3,k4⟩:=HK.o;rw[k1];exact mf.step HA.o E3.o E2.o k2 k4 hu
    by_cases au:(0:Int)<j
    ·obtain⟨k1,k2,k3,k4⟩:=HK.o;obtain⟨l,u,eU⟩:∃l u,U=l++[u]:=by
      have ad:U≠ []:=λe=>by subst e;simp at k3;omega
      exact⟨U.dropLast,U.getLast ad,(Jn ad).symm⟩
     subst eU;obtain⟨q,aw⟩:∃q:Nat,(j:Int)-1=q:=⟨j-1,by omega⟩
     have ay:IntKind.i64.wrap ((j:Int)-1)=q:=by rw[cL];omega
     have ar:IntKind.i64.wrap (q:Int)=q:=by rw[cL];omega
     have M:j=q+1:=by omega
     have lU:l.length=q:=by simp at k3;omega
     have eG:m=l++u::y::(V++T):=by rw[k1];simp
     have hq:m[q]?=X u:=by rw[eG,<-lU];simp
     have hp:m[j]?=X y:=by rw[eG,M,<-lU];simp
     have aj:=af hp;have al:=af hq;have LU:=af lU;have EG:=af eG;obtain⟨ya,yn,yc,ey⟩:=d.o.2.2 y (aH hp);obtain⟨va,vn,vc,eu⟩:=d.o.2.2 u (aH hq);have C:ah (∀W,hO w W B g N cap m->W.cell? ⟨g,j*2,O⟩=X (I J y.1)/\W.cell? ⟨g,j*2+1,O⟩=X (Y ya yn yc)/\W.cell? ⟨g,q*2,O⟩=X (I J u.1)/\W.cell? ⟨g,q*2+1,O⟩=X (Y va vn vc)):=λW h=>by
      have c1:=h.cells aj.o;have c2:=h.cells al.o;rw[ey]at c1;rw[eu]at c2;exact⟨c1.1,c1.2,c2.1,c2.2⟩
     have Z:ah (iK Tryz.prog 37 #[iA #[I J y.1,Y ya yn yc],iA #[I J u.1,Y va vn vc]] wr.drew λe w'=>e=G (I J (Lib.compareInt y.1 u.1))/\hO w w' B g N cap m):=(SH y.1 u.1 ya va yn vn yc vc wr.drew).mono (λe w' h=>⟨h.1,(d.o.below (ax _ _).drew).below h.2⟩)
     have jN:(j:Int)<N:=by omega
     have qN:(q:Int)<N:=by omega
     have j0:(0:Int)<=j:=by omega
     have q0:(0:Int)<=q:=by omega
     have aq:0<j:=by omega
     have c:=af M;obtain⟨y0,R⟩:=an y.1;obtain⟨u0,Q⟩:=an u.1;have A:=af R;have z:=af Q;have EY:=af ey;have EU:=af eu;have ac:=af k2;have K4:=af k4;rw[R,Q]at C Z;obtain⟨r,P⟩:∃r,r=Lib.compareInt y0 u0:=⟨_,rfl⟩;rw[<-P]at Z;have aa:=af P;have k:=af (C.o _ (d.o.below (ax _ _).drew));obtain⟨c0,c1,d0,d1⟩:=C.o _ d.o;clear hp hq eG k1 k2 k3 k4 HK ey eu R Q P lU M;by_cases hc:y0<u0
     ·have ap:decide (r<0)=iV:=by rw[aa.o];exact aQ ((Jz _ _).2 hc)
      obtain⟨F',K⟩:∃F',F'=l++(y::((u::V)++T)):=⟨_,rfl⟩;have ai:=af K;have NU:ah (F'=l++(y::((u::V)++T))/\l++(u::V)=S/\l.length=q/\∀v∈(u::V),y.1<v.1):=⟨K,by rw[<-ac.o];simp,LU.o,λv hv=>by
       rcases bf.1 hv with e|e
       ·subst e;rw[A.o,z.o];exact hc
       ·exact K4.o v e⟩
      clear f hc K;go_wp2;go_region_held3 (λw'=>w'.cell? ⟨g,j*2,O⟩=X (I J y0)/\w'.cell? ⟨g,j*2+1,O⟩=X (Y ya yn yc)/\w'.cell? ⟨g,q*2,O⟩=X (I J u0)/\w'.cell? ⟨g,q*2+1,O⟩=X (Y va vn vc)) (first|go_keep|exact k.o|exact K2.o) ((go_at_call 37;(with_reducible refine dq Z.o ?_);rintro e w2 ⟨rfl,n⟩;have H:=af n;have K2:=af (C.o _ n);clear n))
      all_goals
       clear c0 c1 d0 d1 k Z C;have NX:ah (hO w ((((w2.setCell ⟨g,j*2,O⟩ (I J u0)).setCell ⟨g,j*2+1,O⟩ (Y va vn vc)).setCell ⟨g,q*2,O⟩ (I J y0)).setCell ⟨g,q*2+1,O⟩ (Y ya yn yc)) B g N cap F'):=by
        have h1:=H.o;rw[EG.o]at h1;have h2:=h1.swap LU.o;rw[EY.o,EU.o,A.o,z.o,<-c.o]at h2;rw[ai.o];exact h2
       obtain⟨x0,x1,z0,z1⟩:=K2.o;have f0:=H.o.fr (j*2);have f1:=H.o.fr (j*2+1);have f2:=H.o.fr (q*2);have f3:=H.o.fr (q*2+1);have n0:q*2≠j*2:=by have:=c.o;omega
       have n1:q*2+1≠j*2+1:=by have:=c.o;omega
       have n2:q*2≠j*2+1:=by omega
       have n3:q*2+1≠j*2:=by omega
       clear K2;go_wp2;go_region;have ND:=af (NX.o.below (ax _ _).drew);go_wp2;go_roundw
       case rel=>exact⟨q,F',l,u::V,by first|rfl|go_num,by have:=c.o;omega,NU,ND⟩
       case measure=>have:=c.o;simp[intOf];omega
     ·have ap:decide (r<0)=iF:=by rw[aa.o];exact aV (λe=>hc ((Jz _ _).1 e))
      have PO:=af (f.o (Ta AS.o ac.o (by rw[A.o,z.o];omega)))
      clear f;go_wp2;go_region_held3 (λw'=>w'.cell? ⟨g,j*2,O⟩=X (I J y0)/\w'.cell? ⟨g,j*2+1,O⟩=X (Y ya yn yc)/\w'.cell? ⟨g,q*2,O⟩=X (I J u0)/\w'.cell? ⟨g,q*2+1,O⟩=X (Y va vn vc)) (first|go_keep|exact k.o|exact K2.o) ((go_at_call 37;(with_reducible refine dq Z.o ?_);rintro e w2 ⟨rfl,n⟩;have H:=af n;have K2:=af (C.o _ n);clear n))
      all_goals
       clear c0 c1 d0 d1 k Z C K2;go_wp2;go_roundw
       case rel=>exact⟨i+1,m,by go_num,by omega,by omega,PO,H⟩
       case measure=>simp[intOf];omega
    ·have hU:U=[]:=by
      obtain⟨k1,k2,k3,k4⟩:=HK.o;exact lF (by omega)
     have PO:=af (f.o (λp ae=>by rw[hU]at ae;cases ae))
     have ao:j=0:=by omega
     subst ao;clear f HK hU;go_wp2;go_quiet (fail);go_wp2;go_roundw
     case rel=>exact⟨i+1,m,by go_num,by omega,by omega,PO,d.o.below (bI (ax _ _) _)⟩
     case measure=>simp[intOf];omega
  ·have ag:ah (xo w wo B g N cap L x):=by
    rcases HO.o with⟨h1,-⟩|⟨-,U,V,h2,h3,h4,h5⟩
    ·have:=HL.o;omega
    ·exact⟨U,V,h2,h3,h4,by rw[<-h5];exact d.o⟩
   clear HO d;go_wp2
   first|go_end0|refine aF (uC rfl _ _ _) rfl ?_
   exact⟨rfl,ag.o⟩
theorem LM(B g N cap:Nat)(L:List Hw)(x:Hw)(w:iW)(q:N<=19)(d:L.length+1=N)(c:L.Pairwise (λa b=>a.1<b.1))(f:hO w w B g N cap (L++[x])):
 iK Tryz.prog 60 #[Y (X ⟨g,0,O⟩) N cap,I J N,.func (.func 37) #[] #[]] w λe w'=>e=G (iU #[])/\xo w w' B g N cap L x:=by
 have C:=af (S7 B g N cap L x w (by omega) d c f)
 have l:¬(20:Int)<=N:=by omega
 clear d c f;go_enter Tryz.func60,Tryz.ntmps60;go_wp2;go_loopw [7,8] (λj k wr=>j=I J 0/\k=I J 20/\wr=w) (λ_ _ _=>0)
 case atStart=>exact⟨rfl,rfl,rfl⟩
 case round=>
  obtain⟨rfl,rfl,rfl⟩:=hrel;go_wp2_with fail;refine C.o.mono ?_;rintro e p ⟨rfl,h⟩;have i:=af h;have m:¬(20:Int)<N:=by omega
  clear h C;go_wp2;go_loopw [6] (λn wr=>n=I J 20/\wr=p) (λ_ _=>0)
  case atStart=>exact⟨rfl,rfl⟩
  case round=>
   obtain⟨rfl,rfl⟩:=hrel;go_wp2
   first|go_end0|refine aF (uC rfl _ _ _) rfl ?_
   exact⟨rfl,i.o⟩
theorem TX(B g N cap:Nat)(L:List Hw)(x:Hw)(w:iW)(j:N<=19)(d:L.length+1=N)(c:L.Pairwise (λa b=>a.1<b.1))(f:hO w w B g N cap (L++[x])):
 iK Tryz.prog 36 #[Y (X ⟨g,0,O⟩) N cap,.func (.func 37) #[] #[]] w λe w'=>e=G (iU #[])/\xo w w' B g N cap L x:=by
 have C:=af (LM B g N cap L x w j d c f);clear d c f;go_enter Tryz.func36,Tryz.ntmps36;go_wp2_with fail;refine C.o.mono ?_;rintro e k ⟨rfl,h⟩;have i:=af h;clear h;go_wp2
 first|go_end0|refine aF (uC rfl _ _ _) rfl ?_
 exact⟨rfl,i.o⟩
theorem IW{β:Type}{l:List α}{r r':α}(f:α->β)(a:l[j]?=X r)(h:f r'=f r):(l.set j r').map f=l.map f:=by
 apply kM;intro i;rw[bk,bk];by_cases e:i=j
 ·subst e;rw[ku (aD.1 a).1,a];simp[h]
 ·rw[lZ (by omega)]
variable{rs:List Hw}
theorem L6{r:Hw}(a:rs[j]?=X r)(ls:List ByteArray):bi (rs.set j (r.1,r.2.1,ls))=bi rs:=by
 unfold bi;rw[List.flatMap_def,List.flatMap_def,IW (r':=((r.1,r.2.1,ls):Hw)) lS a rfl]
theorem UX(ls:List ByteArray)(i:Nat)(t:ByteArray):cA (ls.set i t)=(cA ls).set i (iT t):=by
 unfold cA;rw[p8]
theorem OL{r:Hw}(d:rs[j]?=X r)(ls:List ByteArray)(h:mE rs):mE (rs.set j (r.1,r.2.1,ls)):=by
 have e:=IW (r':=((r.1,r.2.1,ls):Hw)) (λx:Hw=>x.2.1) d rfl
 unfold mE at h⊢;have c:(rs.map (λx:Hw=>x.2.1)).Pairwise (λa b=>∀g,a.ownBlock=X g->b.ownBlock≠X g):=qi.2 h
 rw[<-e]at c;exact qi.1 c
theorem mE.far(h:mE rs){r q:Hw}(hi:rs[i]?=X r)(n:rs[j]?=X q)(o:i≠j)(b:r.2.1.ownBlock=X g):q.2.1.ownBlock≠X g:=by
 obtain⟨e,f⟩:=aD.1 hi;obtain⟨k,l⟩:=aD.1 n;have c:=mJ.1 h;intro d;rcases yN i j with a|m
 ·have:=c i j e k a g (by rw[f];exact b)
  rw[l]at this;exact this d
 ·have:=c j i k e (by omega) g (by rw[l];exact d)
  rw[f]at this;exact this b
theorem ci.setT{W:iW}{v:iX}(h:ci W B v rs){r:Hw}(c:rs[j]?=X r)(u:r.2.1=Y (X ⟨g,0,O⟩) r.2.2.length cap)(i:Nat)(t:ByteArray):
 ci (W.setCell ⟨g,i,O⟩ (iT t)) B v (rs.set j (r.1,r.2.1,r.2.2.set i t)):=by
 obtain⟨h1,f,p⟩:=h;have l:=(f r (aH c)).1;have s:r.2.1.ownBlock=X g:=by rw[u];rfl
 obtain⟨g1,g2,cs,g3⟩:=l.lt g s;have z:(W.setCell ⟨g,i,O⟩ (iT t)).heap.size=W.heap.size:=by simp[World.setCell]
 have o:(32:TypeId)≠9:=by decide
 refine⟨?_,λq y=>?_,OL c _ p⟩
 ·rw[L6 c,iy];refine h1.kept (ik W g i (iT t)) (.inr (λe=>?_))
  obtain⟨-,-,w,q'⟩:=(aB.of h1).lt g e;rw[g3]at q';injection q' with q'
  injection q' with _ q'
  exact o q'.symm
 ·rw[z];obtain⟨k,a⟩:=ml y;by_cases e:k=j
  ·subst e;rw[ku (aD.1 c).1]at a;injection a with a
   subst a;refine⟨?_,by simp only[iy];exact(f r (aH c)).2⟩
   simp only[iy,UX];rw[u]at l⊢;exact l.setAt i (iT t)
  ·rw[lZ (by omega)]at a
   obtain⟨m,n⟩:=f q (aH a);exact⟨m.grown (ik W g i (iT t)) (λb x d=>by
    injection d with d
    subst d;exact p.far c a (by omega) s x),n⟩
theorem AZ{r:Hw}(ls:List ByteArray):(rs.set j (r.1,r.2.1,ls)).map aW=(rs.map aW).set j ⟨r.1,ls⟩:=by
 rw[p8];rfl
end Go.Proofs.YtijmbohadndfmaaGreatDoor
