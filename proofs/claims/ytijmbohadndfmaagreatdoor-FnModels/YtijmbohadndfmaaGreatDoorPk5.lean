/-
  FRP; DvM2; DvM3; DvM4; DvM5; DvM6; FRow
-/
import Derived.Test.YtijmbohadndfmaaGreatDoorPk4
open Go.Value renaming int→I,slice→Y,string→iT,bool→iB,agg→iA
open Go.IntKind renaming i64→J
open Option renaming none→O,some→X
open Go.Ending renaming returned→G
open Bool renaming true→iV,false→iF
open Go renaming World→iW,Value→iX
open Go.RowKit renaming Below→iL
namespace Go.Proofs.YtijmbohadndfmaaGreatDoor
theorem vH{b:Bk}(h:di b=iV):b.2.2.length=4/\(0<=b.2.1/\b.2.1<=1000000000)/\∀k t,b.2.2[k]?=X t->gC t=iV/\(bm b.2.2<k->t.1=0):=by
 have h0:=h;simp only[di,bt,bW]at h;refine⟨h.1.1,h.1.2,λk t a=>?_⟩
 have d:=(aD.1 a).1;have c:=gy.1 h.2 k (ju.2 d);refine⟨?_,λf=>?_⟩
 ·cases g:gC t with
  |true=>rfl
  |false=>
   rw[Kf a g]at c;cases c
 ·cases yJ (t.1=0)with
  |inl e=>exact e
  |inr e=>
   rw[Sa h.1.1 a f e]at h0;cases h0
variable{α:Type}{t:ByteArray}{x y:Int}{ls:List (Int × ByteArray)}{live:List Int}{T:List UInt8 -> Prop}{i k j n m B cap g z lo size hi' B':Nat}{e:TypeId}
variable{bs:List Bk}
theorem yo(h:bn bs=iV):(3<=bs.length/\bs.length<=10)/\∀b∈bs,di b=iV:=by
 simp only[bn,bt,gy,bW]at h;exact h
theorem Hl(h1:3<=bs.length/\bs.length<=10)(a:∀b∈bs,di b=iV):bn bs=iV:=by
 rw[EH a];exact aQ h1
theorem Mx{u:Int×ByteArray}(a:ls[i]?=X u)(hi:i<bm ls):u.1≠0:=by
 intro h0;have:=Lf a h0;omega
theorem Tg{b:Bk}(h:di b=iV)(f:bm b.2.2<4)(z:Int)(t:ByteArray)(k:z≠0):bm (b.2.2.set (bm b.2.2) (z,t))=bm b.2.2+1:=by
 obtain⟨h4,-,d⟩:=vH h;generalize l:bm b.2.2=j at f;have c:∀(i:Nat) (u:Int×ByteArray),i<j+1->(b.2.2.set j (z,t))[i]?=X u->u.1≠0:=by
  intro i u hi a;by_cases e:j=i
  ·subst e;rw[ku (by omega)]at a
   cases a;exact k
  ·rw[lZ e]at a;exact Mx a (by omega)
 by_cases g:j+1<4
 ·have a:b.2.2[j+1]?=X b.2.2[j+1]:=ay (by omega)
  refine Bx (t:=b.2.2[j+1]) (by rw[lZ (by omega)];exact a) ((d (j+1) _ a).2 (by omega)) c
 ·rw[FU (λi u a=>c i u (by have:=(aD.1 a).1;rw[iy]at this;omega) a)]
  omega
theorem TG{b:Bk}(h:di b=iV)(f:bm b.2.2<4)(z:Int)(t:ByteArray)(j:z≠0)(g:gC (z,t)=iV):di (b.1,b.2.1,b.2.2.set (bm b.2.2) (z,t))=iV:=by
 obtain⟨h4,i,c⟩:=vH h;refine KL (by simpa using h4) i (λk u a=>?_)
 simp only at a⊢;rw[Tg h f z t j];by_cases e:bm b.2.2=k
 ·subst e;rw[ku (by omega)]at a
  cases a;exact⟨g,λd=>by omega⟩
 ·rw[lZ e]at a;exact⟨(c k u a).1,λd=>(c k u a).2 (by omega)⟩
variable{f:Bk -> Bk}
theorem GP(h:bn bs=iV)(g:∀r,bs[k]?=X r->di (f r)=iV):bn (bs.modify k f)=iV:=by
 obtain⟨h1,d⟩:=yo h;refine Hl (by rw[ye];exact h1) (λb c=>?_)
 obtain⟨i,hi,rfl⟩:=nJ c;have a:(bs.modify k f)[i]?=X (bs.modify k f)[i]:=ay hi;generalize(bs.modify k f)[i]=x at a;rw[rA]at a;cases c:bs[i]? with
 |none=>rw[c]at a;cases a
 |some r=>
  rw[c]at a;by_cases e:k=i
  ·subst e;simp at a;subst a;exact g r c
  ·simp[e]at a;subst a;exact d _ (aH c)
theorem IU(x:Bool)(y:Int)(hy:0<=y/\y<=1000000000):di (x,y,eK)=iV:=by
 refine KL rfl hy (λk t b=>?_)
 have a:t∈eK:=aH b;have e:t=(0,⟨#[]⟩):=by
  simp only[eK,bf,dV,ez,or_self]at a;exact a
 subst e;exact⟨rfl,λ_=>rfl⟩
def Right(n:Int)(bs:List Bk):Prop:=bn bs=iV/\∀r∈bs,r.2.1<=n
theorem Zi{x:Bk}(h:x∈bs.modify k f):x∈bs∨∃r,bs[k]?=X r/\x=f r:=by
 obtain⟨i,hi,rfl⟩:=nJ h;have a:(bs.modify k f)[i]?=X (bs.modify k f)[i]:=ay hi;generalize(bs.modify k f)[i]=x at a;rw[rA]at a;cases b:bs[i]? with
 |none=>rw[b]at a;cases a
 |some r=>
  rw[b]at a;by_cases e:k=i
  ·subst e;simp at a;subst a;exact Or.inr ⟨r,b,rfl⟩
  ·simp[e]at a;subst a;exact Or.inl (aH b)
theorem Right.new{n:Int}(h:3<=n/\n<=10):Right 0 (gL n):=by
 unfold gL;rw[aj h];refine⟨Hl (by rw[vk];omega) (λb a=>?_),λr c=>?_⟩
 ·rw[(wL.1 a).2];exact IU _ _ (by omega)
 ·rw[(wL.1 c).2];exact kN _
theorem Right.prog{n:Int}(h:Right n bs)(b leaf:Int)(t:ByteArray):Right n (fY bs b leaf t).1:=by
 unfold fY;split
 ·rename_i hh
  rw[bt]at hh;have c:=hh.2;unfold ij at c;cases d:bs[b.toNat]? with
  |none=>rw[d]at c;cases c
  |some r=>
   rw[d]at c;obtain⟨h0,m,j,k,f,g⟩:=qc c;have i:leaf.toNat=bm r.2.2:=by omega
   have e:gC (1,t)=iV:=aQ (Or.inr (Or.inl ⟨rfl,f,g⟩));refine⟨GP h.1 (λq a=>?_),λq a=>?_⟩
   ·rw[d]at a;cases a;rw[i];exact TG ((yo h.1).2 r (aH d)) (by omega) 1 t (by omega) e
   ·rcases Zi a with a|⟨x,l,rfl⟩
    ·exact h.2 q a
    ·exact h.2 x (aH l)
 ·exact h
open Words Sums Pack
theorem WZ(h:bn bs=iV):Right 1000000000 bs:=⟨h,λr a=>(vH ((yo h).2 r a)).2.1.2⟩
theorem Wu(h:bn bs=iV)(b l:Int)(t:ByteArray):bn (fY bs b l t).1=iV:=((WZ h).prog b l t).1
theorem Rl{b:Bk}{u:Int×ByteArray}(a:bs[k]?=X b)(c:b.2.2[j]?=X u)(h0:u.1=0):fs bs k j=O:=by
 unfold fs;have:(eh bs (k:Int) (j:Int)).2=iF:=by
  unfold eh;rw[aZ,a];simp only[aZ,c];simp[h0]
 rw[this];rfl
variable{p:Pg}
theorem yW{l:List aM}(a:bn bs=iV)(w:∀y∈aw bs,y.key<p.seq)(h:(cH bs l p).2.2=iV):
 ∃(cs:List Bk) (s:aM) (x:aq),cH bs l p=(cs,l++[s],iV)/\cP bs s=(cs,iV)/\bn cs=iV/\x.fP=p/\p.Right/\aw cs=aw bs++[x]/\x.block=s.2.1/\s.1=1/\cJ cs+1=cJ bs:=by
 obtain⟨o,k,b,s,f,h1,t,⟨u,q,e⟩,hs,g,A⟩:=WH a h;have d:1<=(dJ (dG p)).size/\(dJ (dG p)).size<=120:=by
  have n:(cP bs s).2=iV:=by rw[g]
  obtain⟨C,r,B,-,-,-,v⟩:=RU n;obtain⟨j,-,-,-,m,c⟩:=v.1 (by rw[hs])
  rw[hs]at m c;exact⟨m,c⟩
 have z:bm b.2.2<b.2.2.length:=by rw[vB a b (aH f)];omega
 refine⟨_,s,⟨(k:Int),((bm b.2.2:Nat):Int),p⟩,A,g,?_,rfl,o,?_,by rw[hs],by rw[hs],?_⟩
 ·have n:(cP bs s).2=iV:=by rw[g]
  have c:=Wu a s.2.1 s.2.2.1 s.2.2.2;have i:cP bs s=fY bs s.2.1 s.2.2.1 s.2.2.2:=by unfold cP;rw[aj (by rw[hs])]
  rw[<-i,g]at c;exact c
 ·exact QO f z (Rl f q e) (OM p o) w
 ·exact(Tz a f h1 t ⟨u,q,e⟩ d.1 d.2).2
def kF(x:Int)(p:Pg):Bool:=decide (p.kind=2/\p.tx=x)
theorem KT{l m:List α}{P Q:α->Bool}(h:l.filter Q=m.filter Q)(b:∀x,P x=iV->Q x=iV):l.find? P=m.find? P:=by
 have e:∀k:List α,k.find? P=(k.filter Q).find? P:=λk=>by
  rw[List.find?_filter];congr 1;funext x;cases a:P x with
  |false=>simp
  |true=>simp[b x a]
 rw[e l,e m,h]
variable{ps:List Pg}
theorem wH{qs:List Pg}(h:ps.filter (kF x)=qs.filter (kF x)):dp ps x=dp qs x:=by
 have h0:pu ps x=pu qs x:=KT h (λp a=>by simp only[bW]at a;simp[kF,a.1,a.2.1])
 have b:∀k c,qX ps x k c=qX qs x k c:=λk c=>KT h (λp a=>by simp only[bW]at a;simp[kF,a.1,a.2.1])
 have d:∀(c:Int) (n k:Nat),jg ps x c n k=jg qs x c n k:=by
  intro c n
  induction n with
  |zero=>intro k;rfl
  |succ n e=>intro k;simp only[jg,b,e]
 unfold dp kz;rw[h0];cases pu qs x with
 |none=>rfl
 |some p=>simp only[d]
theorem yu(h:∀p∈ps,p.kind=2->p.tx≠x):ps.filter (kF x)=[]:=by
 rw[mt];intro p a;simp only[kF,bW];exact λq=>h p a q.1 q.2
theorem XU(h:∀p∈ps,p.kind=2->p.tx≠x):dp ps x=O:=by
 rw[wH (qs:=[]) (by rw[yu h];rfl)]
 rfl
theorem Kt{ns:List Int}(f:ns.Pairwise (·<·))(h:∀p∈ps,p.kind=2->p.tx∈ns):dA ps=ns.filterMap (dp ps):=by
 have d:ns.filterMap (dp ps)=(ns.filter λx=>decide (x∈du ps)).filterMap (dp ps):=by
  rw[E8];apply oH;intro x _;by_cases a:x∈du ps
  ·simp[a]
  ·simp only[a,mK,hI,eT];refine XU (λp c b e=>a ?_)
   exact(q9 ps x).2 ⟨p,c,b,e⟩
 unfold dA;rw[d];congr 1;refine JN (rk ps) (f.sublist sS) (λx=>?_)
 rw[dR,bW];constructor
 ·intro a;obtain⟨p,c,b,e⟩:=(q9 ps x).1 a;exact⟨e▸h p c b,a⟩
 ·exact λa=>a.2
theorem Jl(b:p∈ps)(a:p.kind=2):p.tx∈du ps:=(q9 ps p.tx).2 ⟨p,b,a,rfl⟩
theorem Qu{h:List Pg}{seq tx:Int}{l:List Rc}(s:∀r∈l,r.Right)(k:∀p∈h,p.kind≠2)(n:∀p∈ps,p.kind=2->p.tx<tx):dA (ps++h++co seq tx l)=dA ps++[⟨tx,seq,l⟩]:=by
 have j:∀p∈co seq tx l,p.kind=2/\p.tx=tx:=λp c=>by
  obtain⟨i,-,-,-,h4,o,-⟩:=yj c;exact⟨h4,o⟩
 have g:∀x∈du ps,x<tx:=λx d=>by
  obtain⟨p,c,f,e⟩:=(q9 ps x).1 d;exact e▸n p c f
 rw[Kt (ns:=du ps++[tx])]
 ·rw[nh];congr 1
  ·apply oH;intro x d;apply wH;have t:=g x d;rw[iD,iD,yu (ps:=h) (λp c f=>absurd f (k p c)),yu (ps:=co seq tx l) (λp c _ e=>by have:=(j p c).2;omega)]
   simp
  ·have:dp (ps++h++co seq tx l) tx=X ⟨tx,seq,l⟩:=by
    refine Uy s (λx=>?_)
    constructor
    ·rintro⟨d,f,e⟩;rcases br.1 d with d|d
     ·rcases br.1 d with d|d
      ·have:=n x d f;omega
      ·exact absurd f (k x d)
     ·exact d
    ·intro d;exact⟨xI _ d,j x d⟩
   rw[pW,this];rfl
 ·refine eW.2 ⟨rk ps,mA _ _,?_⟩;intro a q b m;rw[bT]at m;subst m;exact g a q
 ·intro p c f;rcases br.1 c with c|c
  ·rcases br.1 c with c|c
   ·exact rj _ (Jl c f)
   ·exact absurd f (k p c)
  ·rw[(j p c).2];simp
theorem YZ{b:List Pg}(d:∀p∈b,p.kind≠2):dA (ps++b)=dA ps:=by
 rw[Kt (ps:=ps++b) (ns:=du ps) (rk ps) (λp a c=>by
  rcases br.1 a with a|a
  ·exact Jl a c
  ·exact absurd c (d p a))]
 unfold dA;apply oH;intro x _;apply wH;rw[iD,yu (ps:=b) (λp a c=>absurd c (d p a)),eM]
theorem Hb{t:TxR}(h:dp ps x=X t):t.num=x:=by
 unfold dp at h;cases a:kz ps x with
 |none=>rw[a]at h;cases h
 |some l=>
  rw[a]at h;simp only at h;cases b:fR (kG l).data.toList 0 with
  |none=>rw[b]at h;cases h
  |some rs=>rw[b]at h;cases h;rfl
theorem yH{t:TxR}(h:t∈dA ps):∃p∈ps,p.kind=2/\p.tx=t.num:=by
 obtain⟨x,d,e⟩:=uk.1 h;obtain⟨p,c,b,a⟩:=(q9 ps x).1 d;exact⟨p,c,b,by rw[a,Hb e]⟩
theorem Vo{qs:List Pg}(b:Int)(h:∀x,b<=x->ps.filter (kF x)=qs.filter (kF x)):(dA ps).filter (λt=>decide (b<=t.num))=(dA qs).filter (λt=>decide (b<=t.num)):=by
 have e:∀rs:List Pg,(dA rs).filter (λt=>decide (b<=t.num))=((du rs).filter (λx=>decide (b<=x))).filterMap (dp rs):=λrs=>by
  unfold dA;rw[K7,E8];apply oH;intro x _;cases m:dp rs x with
  |none=>simp[Option.filter]
  |some t=>
   have:=Hb m;by_cases d:b<=x
   ·simp[Option.filter,this,d]
   ·simp[Option.filter,this,d]
 have c:∀{rs f:List Pg},(∀x,b<=x->rs.filter (kF x)=f.filter (kF x))->∀x,b<=x->x∈du rs->x∈du f:=by
  intro rs f k x d a;obtain⟨p,n,j,i⟩:=(q9 rs x).1 a;have:p∈rs.filter (kF x):=dR.2 ⟨n,by simp[kF,j,i]⟩
  rw[k x d]at this;obtain⟨g,-⟩:=dR.1 this;exact(q9 f x).2 ⟨p,g,j,i⟩
 rw[e ps,e qs];have l:(du ps).filter (λx=>decide (b<=x))=(du qs).filter (λx=>decide (b<=x)):=by
  refine JN ((rk ps).sublist sS) ((rk qs).sublist sS) (λx=>?_)
  rw[dR,dR,bW];exact⟨λa=>⟨c h x a.2 a.1,a.2⟩,λa=>⟨c (λy hy=>(h y hy).symm) x a.2 a.1,a.2⟩⟩
 rw[l];apply oH;intro x a;exact wH (h x (by have:=(dR.1 a).2;simpa using this))
theorem Zp(L:List TxR)(t:TxR):∀i,i<=L.length->fE (L++[t]) i=fE L i:=by
 intro i
 induction i with
 |zero=>intro _;rfl
 |succ i a=>
  intro hi;simp only[fE];rw[lz (by omega),a (by omega)]
theorem Vc(L:List TxR)(t:TxR):jB (L++[t])=if t.base then[t]else jB L++[t]:=by
 unfold jB;rw[aT];simp only[aR,cU];rw[fE];rw[dz (ak _)];simp only[ja,tP];cases a:t.base with
 |true=>
  simp only[cW];rw[vY (ak _),vK];rfl
 |false=>
  simp only[hI,eT];rw[Zp L t _ (ak _),vY (zW L _)]
theorem Ii(L:List TxR):∃A,L=A++jB L:=⟨L.take (fE L L.length),(jP _ _).symm⟩
theorem Td{A B:List TxR}(h0:∀t∈B.tail,t.base=iF)(h1:∀t,B.head?=X t->t.base=iV∨A=[])(e:B=[]->A=[]):jB (A++B)=B:=by
 cases B with
 |nil=>rw[e rfl];rfl
 |cons t B=>
  have hs:=Gk (A++t::B) (A++t::B).length (ak _);have c:=zW (A++t::B) (A++t::B).length;obtain⟨g1,g2⟩:=hs;generalize i:fE (A++t::B) (A++t::B).length=z at g1 g2 c;have d:z=A.length:=by
   rcases h1 t rfl with g|f
   ·rcases Nat.lt_trichotomy z A.length with q|q|q
    ·have:=g2 A.length t q (by simp) (by rw[dz (ak _)];simp)
     rw[g]at this;cases this
    ·exact q
    ·rcases g1 with g1|⟨u,b,a⟩
     ·omega
     ·rw[dz (by omega)]at b
      obtain⟨j,h⟩:∃j,z-A.length=j+1:=⟨z-A.length-1,by omega⟩
      rw[h,qY]at b;have:=h0 u (aH b);rw[a]at this;cases this
   ·subst f;rcases g1 with g1|⟨u,b,a⟩
    ·exact g1
    ·cases z with
     |zero=>rfl
     |succ j=>
      rw[iN,qY]at b;have:=h0 u (aH b);rw[a]at this;cases this
  unfold jB;rw[i,d,vY (ak _),vK];rfl
theorem M9(L:List TxR):∀t∈(jB L).tail,t.base=iF:=by
 intro t a;obtain⟨-,g2⟩:=Gk L L.length (ak _);unfold jB at a;rw[List.tail_drop]at a;obtain⟨i,hi⟩:=ml a;rw[mQ]at hi;exact g2 _ t (by omega) (aD.1 hi).1 hi
theorem Em:∀(ps:List Pg) (s:List Bk×List aM×Bool),s.2.2=iF->(eA s ps).2.2=iF
 | [],s,h=>h
 |p::ps,s,h=>by rw[eA,h];exact h
theorem Au:∀(ps:List Pg) {bs:List Bk} {l:List aM},bn bs=iV->(∀y∈aw bs,∀p∈ps,y.key<p.seq)->ps.Pairwise (λp q=>p.seq<q.seq)->(eA (bs,l,iV) ps).2.2=iV->
 ∃(cs:List Bk) (L:List aM) (xs:List aq),eA (bs,l,iV) ps=(cs,l++L,iV)/\da bs L=(cs,L.length)/\bn cs=iV/\xs.map aq.fP=ps/\aw cs=aw bs++xs/\(∀p∈ps,p.Right)/\(∀s∈L,s.1=1)/\L.length=ps.length/\L.map (λs=>s.2.1)=xs.map aq.block/\cJ cs+ps.length=cJ bs
 | [],bs,l,hok,_,_,_=>⟨bs,[],[],by simp[eA],rfl,hok,rfl,by simp,by simp,by simp,rfl,rfl,by simp⟩
 |p::ps,bs,l,hok,hk,hp,h=>by
  rw[eA]at h;simp only[cW]at h;have h1:(cH bs l p).2.2=iV:=by
   cases e:(cH bs l p).2.2 with
   |true=>rfl
   |false=>rw[Em ps _ e]at h;cases h
  obtain⟨cs,s,x,f,j,k,g,m,i,n,o,E⟩:=yW hok (λy hy=>hk y hy p (by simp)) h1
  obtain⟨c,d⟩:=gK.1 hp;rw[f]at h;obtain⟨b,L,xs,r,u,v,w,z,A,B,C,D,t⟩:=Au ps (bs:=cs) (l:=l++[s]) k (λy hy q a=>by
   rw[i]at hy;rcases br.1 hy with hy|hy
   ·exact hk y hy q (by simp[a])
   ·rw[bT]at hy;subst hy;show y.fP.seq<q.seq;rw[g];exact c q a) d h
  refine⟨b,s::L,x::xs,?_,?_,v,by simp[g,w],?_,?_,?_,by simp[C],by simp[D,n],?_⟩
  ·rw[eA];simp only[cW];rw[f,r];simp
  ·rw[da,j];simp only[cW];rw[u];simp
  ·rw[z,i];simp
  ·intro q a;rcases bf.1 a with rfl|a
   ·exact m
   ·exact A q a
  ·intro q a;rcases bf.1 a with rfl|a
   ·exact o
   ·exact B q a
  ·rw[aR];omega
theorem Ef(seq tx:Int)(l:List Rc):(co seq tx l).Pairwise (λp q=>p.seq<q.seq):=by
 rw[mJ];intro i j hi c b;obtain⟨g,-,e⟩:=uT (ay hi);obtain⟨d,-,a⟩:=uT (ay c);rw[e,a];show seq+(i:Int)<seq+(j:Int);omega
theorem JA{seq tx:Int}{l:List Rc}(h:p∈co seq tx l):seq<=p.seq:=by
 obtain⟨i,hi,e⟩:=nJ h;obtain⟨g,-,a⟩:=uT (ay hi);rw[<-e,a];show seq<=seq+(i:Int);omega
variable{d:Dv}{L:List aM}
theorem Nk{l:List Rc}(i:bn d.fH=iV)(hs:∀y∈aw d.fH,y.key<d.seq)(Q:l≠ [])(h:dY d l t=(L,iV)):
 ∃(cs:List Bk) (m G:List aq),da d.fH L=(cs,L.length)/\bn cs=iV/\aw cs=aw d.fH++m++G/\G.map aq.fP=co (eI d t) d.tx l/\io (eI d t) d.tx l/\
  ((t.size=0/\m=[])∨(t.size≠0/\∃x,m=[x]/\x.fP=jZ d.seq (pe l) t/\x.fP.Right))/\(∀s∈L,s.1=1)/\cJ cs+L.length=cJ d.fH:=by
 unfold dY at h;rw[ai (by intro e;exact Q (lF e))]at h
 by_cases j:((eA (jw d l t) (jC (eI d t) d.tx l)).2.2&& @decide (io (eI d t) d.tx l) (mD (eI d t) d.tx l))=iV
 ·rw[aj j]at h;rw[bt,rM]at j;obtain⟨a,c⟩:=j;have e:jC (eI d t) d.tx l=co (eI d t) d.tx l:=by unfold jC;rw[aj c]
  rw[e]at a h;have b:(eA (jw d l t) (co (eI d t) d.tx l)).2.1=L:=congrArg Prod.fst h;by_cases f:t.size=0
  ·have n:jw d l t=(d.fH,[],iV):=by unfold jw;rw[aj f]
   have r:eI d t=d.seq:=by unfold eI;rw[aj f]
   rw[n]at a b;obtain⟨cs,H,xs,u,v,w,z,A,O,B,C,P,g⟩:=Au _ i (λy hy p D=>by
    have:=JA D;have:=hs y hy;omega) (Ef _ _ _) a
   rw[u]at b;simp only[iN]at b;subst b;exact⟨cs,[],xs,v,w,by rw[A];simp,z,c,.inl ⟨f,rfl⟩,B,by rw[C];exact g⟩
  ·have n:jw d l t=cH d.fH [] (jZ d.seq (pe l) t):=by unfold jw;rw[ai f]
   have r:eI d t=d.seq+1:=by unfold eI;rw[ai f]
   rw[n]at a b;have h1:(cH d.fH [] (jZ d.seq (pe l) t)).2.2=iV:=by
    cases e:(cH d.fH [] (jZ d.seq (pe l) t)).2.2 with
    |true=>rfl
    |false=>rw[Em _ _ e]at a;cases a
   obtain⟨cs,s,x,I,J,K,o,M,F,R,N,S⟩:=yW i (λy hy=>hs y hy) h1
   rw[I]at a b;obtain⟨k,H,xs,u,v,w,z,A,O,B,C,P,g⟩:=Au _ K (λy hy p D=>by
    have T:=JA D;rw[F]at hy;rcases br.1 hy with hy|hy
    ·have:=hs y hy;omega
    ·rw[bT]at hy;subst hy;show y.fP.seq<p.seq;rw[o];show d.seq<p.seq;omega) (Ef _ _ _) a
   rw[u]at b;simp only[iN,xZ]at b;subst b;refine⟨k,[x],xs,?_,w,by rw[A,F],z,c,.inr ⟨f,x,rfl,o,by rw[o];exact M⟩,?_,?_⟩
   ·rw[da,J];simp only[cW];rw[v];simp
   ·intro q E;rcases bf.1 E with rfl|E
    ·exact N
    ·exact B q E
   ·rw[aR,C];omega
 ·rw[ai j]at h;cases h
theorem Ji{l:List Rc}(o:Up d)(C:l≠ [])(h:dY d l t=(L,iV)):
 ∃(cs:List Bk) (b f:List aq) (g:TxR),fF d L=jk cs/\bn cs=iV/\da d.fH L=(cs,L.length)/\aw cs=aw d.fH++b++f/\(∀x∈f,x.fP.kind=2/\x.fP.tx=d.tx)/\g.num=d.tx/\g.fR=l/\
  ((t.size=0/\b=[])∨(t.size≠0/\∃x,b=[x]/\x.fP=jZ d.seq (pe l) t/\x.fP.Right))/\(∀s∈L,s.1=1)/\cJ cs+L.length=cJ d.fH/\
  cI (aw cs)=if g.base then[g]else cI (aw d.fH)++[g]:=by
 have c:d.seq=gI (aw d.fH):=congrArg Dv.seq o.is;have n:d.tx=fZ (aw d.fH):=congrArg Dv.tx o.is;obtain⟨cs,b,f,h1,q,r,h4,w,u,z,A⟩:=Nk o.ok (λy hy=>by rw[c];exact Et _ y hy) C h
 have k:∀x∈f,x.fP.kind=2/\x.fP.tx=d.tx:=λx a=>by
  have:x.fP∈co (eI d t) d.tx l:=by rw[<-h4];exact ou a
  obtain⟨i,-,-,-,D,E,-⟩:=yj this;exact⟨D,E⟩
 refine⟨cs,b,f,⟨d.tx,eI d t,l⟩,?_,q,h1,r,k,rfl,rfl,u,z,A,?_⟩
 ·unfold fF eV;rw[h1];simp only;rw[aj q]
 ·unfold cI;rw[r,dB,dB,h4];rw[Qu w.1 (λp m=>?_) (λp m B=>?_)]
  ·exact Vc _ _
  ·obtain⟨x,a,e⟩:=bF.1 m;rcases u with⟨-,j⟩|⟨-,y,j,v,-⟩
   ·rw[j]at a;cases a
   ·rw[j,bT]at a;subst a;rw[<-e,v];show(1:Int)≠2;decide
  ·obtain⟨x,a,e⟩:=bF.1 m;rw[<-e,n];exact Cv _ x a (by rw[e];exact B)
theorem BS(s:Sto):qA s=(cV s).flatMap (·.2):=by simp[qA,cV,List.flatMap_map]
variable{s:Sto}
theorem Xm{m:Sto}(h:cV m=cV s):be m=be s:=by
 rw[BP,BP,BS,BS,h]
theorem vS:y∈qA s↔∃p∈cV s,y∈p.2:=by rw[BS,lE]
theorem AM{r:Rc}(B:r.kind≠1)(hy:y∈be (aX s r).1):y∈be s∨(r.kind=4/\y=r.fC/\(aX s r).2=iV):=by
 rw[ri]at hy;obtain⟨h0,hy⟩:=hy;cases d:(aX s r).2 with
 |false=>
  rw[qG d]at hy;exact .inl ((ri s y).2 ⟨h0,hy⟩)
 |true=>
  obtain⟨hs,t⟩:=nF d;have m:=t;unfold Rc.Right at m;by_cases h:r.kind=4∨r.kind=5
  ·obtain⟨k,v,b,-,-,-,-,x,A,-⟩:=sP d h;obtain⟨p,f,a⟩:=vS.1 hy;rw[A]at f;rcases mF f with f|f
   ·exact .inl ((ri s y).2 ⟨h0,vS.2 ⟨p,f,a⟩⟩)
   ·subst f;simp only at a;rcases mF a with a|a
    ·exact .inl ((ri s y).2 ⟨h0,vS.2 ⟨_,aH (rx b),a⟩⟩)
    ·rcases h with h4|j
     ·exact .inr ⟨h4,a,rfl⟩
     ·have:=x j;omega
  ·by_cases u:r.kind=2
   ·obtain⟨q,e,-,-,i,z⟩:=tT d u;rw[e]at hy;unfold qA at hy;obtain⟨v,b,c⟩:=lE.1 hy;simp only at c b;refine .inl ((ri s y).2 ⟨h0,?_⟩);rcases rE b with rfl|b
    ·simp only at c;by_cases g:0<r.arg
     ·exact lE.2 ⟨_,i g,c⟩
     ·rw[z g,Gl]at c;have:=(wL.1 c).2;omega
    ·exact lE.2 ⟨v,b,c⟩
   ·have w:r.kind=3:=by omega
    refine .inl ((ri s y).2 ⟨h0,?_⟩);have l:=(jQ s).2 hs;rw[aX,aj ⟨l,t⟩,ai (by omega),ai (by omega)]at hy d
    cases i:bY s.fV r.vol with
    |none=>rw[i]at d;cases d
    |some k=>
     rw[i]at hy d;simp only at hy d;by_cases o:r.fC=1000000000
     ·rw[aj o]at d;cases d
     ·rw[ai o,aj w]at hy;simp only at hy;obtain⟨p,f,a⟩:=vS.1 hy;rw[xH,vT (xR hs.toNear k)]at f;obtain⟨v,b,e⟩:=bF.1 f;simp only at b;have n:v∈s.fV:=by
       rcases br.1 b with b|b
       ·exact qj b
       ·exact qZ b
      subst e;exact lE.2 ⟨v,n,a⟩
theorem Ap{a:Sto}{m:Int}(hs:∀v∈s.fV,v.1<=m)(h:∀p∈cV a,∃v∈s.fV,v.1=p.1):∀v∈a.fV,v.1<=m:=by
 intro v c;obtain⟨u,b,e⟩:=h _ (KG c);have:=hs u b;simp only at e;omega
theorem JR{p:Int×List Int}(h:p∈cV s):∃v∈s.fV,v.1=p.1:=by
 obtain⟨v,a,e⟩:=bF.1 h;exact⟨v,a,by rw[<-e]⟩
theorem JO{r:Rc}{m:Int}(hs:∀v∈s.fV,v.1<=m)(u:r.kind=2->r.vol<=m):∀v∈(aX s r).1.fV,v.1<=m:=by
 cases c:(aX s r).2 with
 |false=>rw[qG c];exact hs
 |true=>
  obtain⟨d,o⟩:=nF c;have i:=o;unfold Rc.Right at i;by_cases g:r.kind=4∨r.kind=5
  ·obtain⟨k,v,b,-,-,-,-,-,w,-⟩:=sP c g;refine Ap hs (λp a=>?_)
   rw[w]at a;rcases mF a with a|a
   ·exact JR a
   ·exact⟨v,aH b,by rw[a]⟩
  ·by_cases f:r.kind=2
   ·obtain⟨q,e,-⟩:=tT c f;rw[e];intro v b;rcases rE b with rfl|b
    ·exact u f
    ·exact hs v b
   ·by_cases h1:r.kind=1
    ·rw[IL c h1];intro v b;cases b
    ·have t:r.kind=3:=by omega
     have h:=(jQ s).2 d;refine Ap hs (λp a=>?_)
     rw[aX,aj ⟨h,o⟩,ai h1,ai f]at a c;cases l:bY s.fV r.vol with
     |none=>rw[l]at c;cases c
     |some k=>
      rw[l]at a c;simp only at a c;by_cases n:r.fC=1000000000
      ·rw[aj n]at c;cases c
      ·rw[ai n,aj t]at a;simp only at a;rw[xH,vT (xR d.toNear k)]at a;obtain⟨v,b,e⟩:=bF.1 a;simp only at b;have j:v∈s.fV:=by
        rcases br.1 b with b|b
        ·exact qj b
        ·exact qZ b
       exact⟨v,j,by rw[<-e]⟩
theorem QZ{r:Rc}(i:r.kind≠1):s.next<=(aX s r).1.next:=by
 cases a:(aX s r).2 with
 |false=>rw[qG a];exact kN _
 |true=>
  obtain⟨hs,f⟩:=nF a;have d:=f;unfold Rc.Right at d;by_cases b:r.kind=4∨r.kind=5
  ·exact(Qt a b).2.2
  ·by_cases g:r.kind=2
   ·obtain⟨q,e,-⟩:=tT a g;rw[e];exact kN _
   ·have c:=(jQ s).2 hs;rw[aX,aj ⟨c,f⟩,ai (by omega),ai (by omega)]at a⊢
    cases h:bY s.fV r.vol with
    |none=>simp only;exact kN _
    |some k=>
     simp only;split
     ·exact kN _
     ·rw[aj (show r.kind=3 by omega)]
      exact kN _
theorem MI{r:Rc}(hs:s.Right)(d:r.Right)(e:r.kind=4)(a:(bY s.fV r.vol).isSome=iV)(c:r.fC≠1000000000):(aX s r).2=iV:=by
 rw[aX,aj ⟨(jQ s).2 hs,d⟩,ai (by omega),ai (by omega)]
 cases b:bY s.fV r.vol with
 |none=>rw[b]at a;cases a
 |some k=>
  simp only;rw[ai c,ai (by omega)]
def jt(M:List aq):Prop:=match cI M with
 | []=>∀x∈M,x.fP.kind≠2
 |t::_=>t.base=iV∨∀x∈M,x.fP.kind=2->t.num<=x.fP.tx
structure cQ (T:List UInt8->Prop) (n:Nat) (d:Dv):Prop where
 up:Up d
 st:d.fS.Right
 hd:jt (aw d.fH)
 lv:∀c∈be d.fS,∃x∈aw d.fH,dj c x=iV
 tx:∀x∈aw d.fH,x.fP.kind=1->∃t,fp x.fP.text.data.toList=X t/\T t
 df:∀c∈be d.fS,∀c'∈be d.fS,bG (aw d.fH) c=bG (aw d.fH) c'->c=c'
 dn:∀x∈aw d.fH,x.fP.kind=1->x.fP.tx<d.fS.next
 nx:d.fS.next<=(n:Int)+1
 vi:∀v∈d.fS.fV,v.1<=3
theorem cQ.has(h:cQ T n d){c:Int}(f:c∈be d.fS):∃x t,bS (aw d.fH) c=X x/\bG (aw d.fH) c=X t/\T t:=by
 obtain⟨x,i,g⟩:=h.lv c f;cases b:bS (aw d.fH) c with
 |none=>have:=tS.1 b x i;rw[g]at this;cases this
 |some y=>
  obtain⟨hy,a⟩:=pP b;obtain⟨t,h1,e⟩:=h.tx y hy (by unfold dj at a;simp at a;exact a.1)
  exact⟨y,t,rfl,by unfold bG;rw[b];exact h1,e⟩
theorem cQ.sub{T':List UInt8->Prop}(h:cQ T n d)(c:∀t,T t->T' t)(f:n<=m):cQ T' m d:=
 ⟨h.up,h.st,h.hd,h.lv,λx e b=>by obtain⟨t,h1,a⟩:=h.tx x e b;exact⟨t,h1,c t a⟩,h.df,h.dn,(by have:=h.nx;omega),h.vi⟩
variable{M:List aq}
theorem Zk{t:TxR}(h:t∈cI M):∃x∈M,x.fP.kind=2/\x.fP.tx=t.num:=by
 unfold cI at h;obtain⟨A,a⟩:=Ii (dA (M.map aq.fP));obtain⟨p,c,b,e⟩:=yH (ps:=M.map aq.fP) (t:=t) (by rw[a];exact xI _ h)
 obtain⟨x,d,rfl⟩:=bF.1 c;exact⟨x,d,b,e⟩
theorem ui{c:Int}{x:aq}(h:dj c x=iV):x.fP.kind=1/\x.fP.tx=c:=by
 unfold dj at h
 simpa using h
theorem Gj{a:List aq}{c:Int}(h:∀x∈a,x.fP.kind=2):bS a c=O:=by
 rw[tS];intro x b;have:=h x b;unfold dj;simp[this]
theorem M4{c:Int}{x:aq}(h:bS M c=X x):bG M c=fp x.fP.text.data.toList:=by unfold bG;rw[h];rfl
structure Ak where
 kind:Int
 vol:Int
 sector:Int
 of:Int
 text:ByteArray
def iO(q:Ak):Bool:=
 if¬(1<=q.kind/\q.kind<=6)∨¬(1<=q.vol/\q.vol<=9)∨64<q.text.size∨(q.kind≠1/\q.text.size≠0)then iF
 else if q.kind=4 then decide (q.sector=0/\1<=q.of/\q.of<=9)
 else if q.of≠0 then iF
 else if q.kind=3∨q.kind=5 then decide (q.sector=0)
 else decide (0<=q.sector/\q.sector<=15)
def aK:ByteArray:=⟨#[]⟩
def lu(t:ByteArray):ByteArray:=match fx t.data.toList with
 |some p=>⟨p.toArray⟩
 |none=>aK
def dX(d:Dv)(q:Ak):List Rc×ByteArray×Int:=
 if iO q=iF then([],aK,3)
 else if q.kind=3∨q.kind=4 then
  if (bY d.fS.fV q.vol).isSome then([],aK,2)
  else if q.kind=4/\(bY d.fS.fV q.of).isSome=iF then([],aK,1)
  else if 3<=d.fS.fV.length then([],aK,4)
  else([⟨2,q.vol,q.of,0⟩],aK,0)
 else if (bY d.fS.fV q.vol).isSome=iF then([],aK,1)
 else if q.kind=1 then
  if eR (aw d.fH) (be d.fS) q.text.data.toList=0 then([⟨4,q.vol,q.sector,d.fS.next⟩],lu q.text,0)
  else([⟨4,q.vol,q.sector,eR (aw d.fH) (be d.fS) q.text.data.toList⟩],aK,0)
 else if q.kind=2 then([⟨5,q.vol,q.sector,0⟩],aK,0)
 else if q.kind=5 then([⟨3,q.vol,0,0⟩],aK,0)
 else([],aK,0)
def nP(d:Dv)(q:Ak)(l:List Rc)(t:ByteArray):Prop:=
 (l=[]/\t=aK)∨(∃r:Rc,((r.kind=2∨r.kind=3∨r.kind=5)/\r.vol=q.vol)/\l=[r]/\t=aK)∨(∃c,c∈be d.fS/\bG (aw d.fH) c=X q.text.data.toList/\l=[⟨4,q.vol,q.sector,c⟩]/\t=aK)∨((∀c∈be d.fS,bG (aw d.fH) c≠X q.text.data.toList)/\(bY d.fS.fV q.vol).isSome=iV/\(1<=q.vol/\q.vol<=9/\0<=q.sector/\q.sector<=15)/\q.text.size<=64/\l=[⟨4,q.vol,q.sector,d.fS.next⟩]/\t=lu q.text)
theorem nP.none{q:Ak}:nP d q [] aK:=.inl ⟨rfl,rfl⟩
theorem nP.plain{q:Ak}(r:Rc)(a:r.kind=2∨r.kind=3∨r.kind=5)(b:r.vol=q.vol):nP d q [r] aK:=.inr (.inl ⟨r,⟨a,b⟩,rfl,rfl⟩)
theorem nP.old{q:Ak}(c:Int)(a:c∈be d.fS)(b:bG (aw d.fH) c=X q.text.data.toList):nP d q [⟨4,q.vol,q.sector,c⟩] aK:=.inr (.inr (.inl ⟨c,a,b,rfl,rfl⟩))
theorem nP.new{q:Ak}(a:∀c∈be d.fS,bG (aw d.fH) c≠X q.text.data.toList)(b:(bY d.fS.fV q.vol).isSome=iV)(h1:1<=q.vol/\q.vol<=9/\0<=q.sector/\q.sector<=15)(hs:q.text.size<=64):nP d q [⟨4,q.vol,q.sector,d.fS.next⟩] (lu q.text):=.inr (.inr (.inr ⟨a,b,h1,hs,rfl,rfl⟩))
theorem Tt{t:List UInt8}(d:∀c∈live,0<c)(h:eR M live t=0):∀c∈live,bG M c≠X t:=by
 intro c b e;unfold eR at h;cases a:live.find? (λc=>decide (bG M c=X t))with
 |none=>
  have:=Bf.1 a c b;simp[e]at this
 |some y=>
  rw[a]at h;have:=d y (rL a);simp at h;omega
theorem YN{t:List UInt8}(h:eR M live t≠0):eR M live t∈live/\bG M (eR M live t)=X t:=by
 unfold eR at h⊢;cases a:live.find? (λc=>decide (bG M c=X t))with
 |none=>rw[a]at h;exact absurd rfl h
 |some y=>
  have h1:=tK a;simp only[bW]at h1;exact⟨rL a,h1⟩
theorem QU(d:Dv)(q:Ak):nP d q (dX d q).1 (dX d q).2.1:=by
 have f:∀c∈be d.fS,0<c:=λc b=>((ri _ _).1 b).1
 unfold dX;split
 ·exact .none
 rename_i ha
 split
 ·split
  ·exact .none
  split
  ·exact .none
  split
  ·exact .none
  ·exact .plain _ (.inl rfl) rfl
 split
 ·exact .none
 rename_i hv
 split
 ·rename_i hk
  split
  ·rename_i hz
   refine .new (Tt f hz) (by cases e:(bY d.fS.fV q.vol).isSome with|true=>rfl|false=>exact absurd e hv) ?_ ?_
   ·unfold iO at ha;split at ha
    ·exact absurd rfl ha
    rename_i hh
    simp only[rD,Cg]at hh;rw[ai (show¬q.kind=4 by omega)]at ha
    split at ha
    ·exact absurd rfl ha
    rw[ai (show¬(q.kind=3∨q.kind=5)by omega)]at ha
    simp only[rU,Cg]at ha;exact⟨hh.2.1.1,hh.2.1.2,ha.1,ha.2⟩
   ·unfold iO at ha;split at ha
    ·exact absurd rfl ha
    rename_i hh
    simp only[rD,Cg]at hh;omega
  ·rename_i hz
   obtain⟨h1,a⟩:=YN hz;exact .old _ h1 a
 split
 ·exact .plain _ (.inr (.inr rfl)) rfl
 split
 ·exact .plain _ (.inr (.inl rfl)) rfl
 ·exact .none
theorem Zf(h:t.size<=64):∃p,fx t.data.toList=X p/\fp p=X t.data.toList/\(lu t).data.toList=p/\(lu t).size≠0:=by
 have c:t.data.toList.length=t.size:=by simp
 cases a:fx t.data.toList with
 |none=>
  unfold fx at a;rw[ai (by omega)]at a
  cases a
 |some p=>
  have b:lu t=⟨p.toArray⟩:=by unfold lu;rw[a]
  refine⟨p,rfl,Xg _ _ a,by rw[b],?_⟩
  rw[b];show p.toArray.size≠0;unfold fx at a;rw[ai (by omega)]at a
  injection a with a
  rw[<-a];split
  ·simp
  ·simp[xj]
theorem WM(L:List TxR)(t:TxR):eQ (L++[t])=(i8 (eQ L) t.fR).1:=by simp[eQ,List.foldl_append]
theorem Eg{d i:List aq}{t:TxR}(b:jt M)(g:∀x∈M,x.fP.kind=2->x.fP.tx<t.num)(h1:∀x∈d,x.fP.kind≠2)(j:∀x∈i,x.fP.kind=2/\x.fP.tx=t.num)(k:cI (M++d++i)=if t.base then[t]else cI M++[t]):jt (M++d++i):=by
 unfold jt;rw[k];cases l:t.base with
 |true=>simp only[cW];exact .inl l
 |false=>
  simp only[hI,eT];unfold jt at b;cases f:cI M with
  |nil=>
   rw[f]at b;simp only[iN]at b⊢;right;intro x a c;rcases br.1 a with a|a
   ·rcases br.1 a with a|a
    ·exact absurd c (b x a)
    ·exact absurd c (h1 x a)
   ·have:=(j x a).2;omega
  |cons u L=>
   rw[f]at b;simp only[jf]at b⊢;rcases b with b|b
   ·exact .inl b
   ·right;intro x a c;rcases br.1 a with a|a
    ·rcases br.1 a with a|a
     ·exact b x a c
     ·exact absurd c (h1 x a)
    ·obtain⟨y,hy,h,e⟩:=Zk (M:=M) (t:=u) (by rw[f];simp)
     have:=g y hy h;have:=(j x a).2;omega
theorem DQ{c:Int}(a e:List aq)(h:∃x∈M,dj c x=iV):∃x∈M++a++e,dj c x=iV:=by
 obtain⟨x,d,b⟩:=h;exact⟨x,rj _ (rj _ d),b⟩
theorem MZ{q:Ak}{l:List Rc}(h:cQ T n d)(hn:n<999999998)(N:q.vol<=3)(V:nP d q l t)(M:l≠ [])(hT:T q.text.data.toList)(hw:dY d l t=(L,iV)):cQ T (n+1) (fF d L):=by
 obtain⟨cs,R,ms,tr,h1,h2,-,h4,S,h6,h7,U,-,-,J⟩:=Ji h.up M hw;have P:d.tx=fZ (aw d.fH):=congrArg Dv.tx h.up.is;have ad:d.fS=eQ (cI (aw d.fH)):=congrArg Dv.fS h.up.is
 -- one record, no base
 obtain⟨r,f,o⟩:∃r,l=[r]/\r.kind≠1:=by
  rcases V with⟨rfl,rfl⟩|⟨r,hr,rfl,rfl⟩|⟨c,m,H,rfl,rfl⟩|⟨-,-,-,-,rfl,rfl⟩
  ·exact absurd rfl M
  ·exact⟨r,rfl,by omega⟩
  ·exact⟨_,rfl,by show(4:Int)≠1;decide⟩
  ·exact⟨_,rfl,by show(4:Int)≠1;decide⟩
 have hb:tr.base=iF:=by
  unfold TxR.base;rw[h7,f]
  simpa using o
 have b:(jk cs).fS=(aX d.fS r).1:=by
  show eQ (cI (aw cs))=_;rw[J,hb];simp only[hI,eT];rw[WM,<-ad,h7,f,Qh]
 have W:∀x∈R,x.fP.kind=1:=by
  intro x a;rcases U with⟨-,e⟩|⟨-,y,e,I,-⟩
  ·rw[e]at a;cases a
  ·rw[e,bT]at a;subst a;rw[I];rfl
 have E:∀c,bS (aw cs) c=(bS R c).or (bS (aw d.fH) c):=λc=>by
  rw[h4,qu,Gj (λx a=>(S x a).1),qu]
  rfl
 rw[h1];have hR:=yt h.st r;have ai:(jk cs).fH=cs:=rfl
 -- the new chunk's page
 have w:(R=[]/\(∀y∈be (aX d.fS r).1,y∈be d.fS))∨∃x,R=[x]/\x.fP.kind=1/\x.fP.tx=d.fS.next/\fp x.fP.text.data.toList=X q.text.data.toList/\(∀c∈be d.fS,bG (aw d.fH) c≠X q.text.data.toList)/\(∀y∈be (aX d.fS r).1,y∈be d.fS∨y=d.fS.next)/\(aX d.fS r).1.next=d.fS.next+1:=by
  rcases V with⟨rfl,rfl⟩|⟨r',O,rfl,rfl⟩|⟨c,m,H,rfl,rfl⟩|⟨aa,hv,ah,hs,rfl,rfl⟩
  ·exact absurd rfl M
  ·left;injection f with f
   subst f;rcases U with⟨-,e⟩|⟨e,-⟩
   ·exact⟨e,λy hy=>(AM o hy).elim id (λq=>by omega)⟩
   ·exact absurd rfl e
  ·left;injection f with f
   subst f;rcases U with⟨-,e⟩|⟨e,-⟩
   ·exact⟨e,λy hy=>(AM o hy).elim id (λq=>by rw[q.2.1];exact m)⟩
   ·exact absurd rfl e
  ·right;injection f with f
   subst f;obtain⟨p,p1,p2,p3,p4⟩:=Zf hs;rcases U with⟨e,-⟩|⟨-,x,e,I,-⟩
   ·exact absurd e p4
   ·have ab:=h.st.nx;have ag:=h.nx;have hr:Rc.Right ⟨4,q.vol,q.sector,d.fS.next⟩:=by
     refine⟨⟨?_,?_⟩,.inr ⟨⟨?_,?_⟩,.inr (.inr (.inl ⟨rfl,?_,?_,?_⟩))⟩⟩<;>simp only<;>omega
    have ae:=MI h.st hr rfl hv (by simp only;omega)
    obtain⟨k,v,-,-,-,-,-,-,-,e5,-⟩:=sP ae (.inl rfl);simp only[kN,cW]at e5;refine⟨x,e,by rw[I];rfl,by rw[I];rfl,?_,aa,?_,e5⟩
    ·rw[I];show fp (lu q.text).data.toList=_;rw[p3];exact p2
    ·intro y hy;rcases AM o hy with g|g
     ·exact .inl g
     ·exact .inr g.2.1
 have af:∀v∈(aX d.fS r).1.fV,v.1<=3:=JO h.vi (λh2=>by
  rcases V with⟨rfl,rfl⟩|⟨r',O,rfl,rfl⟩|⟨c,m,H,rfl,rfl⟩|⟨-,-,-,-,rfl,rfl⟩
  ·exact absurd rfl M
  ·injection f with f
   subst f;omega
  ·injection f with f
   subst f;exact N
  ·injection f with f
   subst f;exact N)
 refine⟨⟨h2,rfl⟩,by rw[b];exact hR,?_,?_,?_,?_,?_,?_,by rw[b];exact af⟩
 ·show jt (aw cs);rw[h4];exact Eg h.hd (λx a K=>by rw[h6,P];exact Cv _ x a K) (λx a=>by rw[W x a];decide) (λx a=>by rw[h6];exact S x a) (by rw[<-h4];exact J)
 ·intro c m;rw[b]at m;show∃x∈aw cs,_;rw[h4];rcases w with⟨-,A⟩|⟨x,j,A,Q,-,-,C,-⟩
  ·exact DQ _ _ (h.lv c (A c m))
  ·rcases C c m with C|C
   ·exact DQ _ _ (h.lv c C)
   ·exact⟨x,by rw[j];simp,by unfold dj;simp[A,Q,C]⟩
 ·intro x a K;change x∈aw cs at a;rw[h4]at a;rcases br.1 a with a|a
  ·rcases br.1 a with a|a
   ·exact h.tx x a K
   ·rcases w with⟨j,-⟩|⟨y,j,-,-,k4,-⟩
    ·rw[j]at a;cases a
    ·rw[j,bT]at a;subst a;exact⟨_,k4,hT⟩
  ·have:=(S x a).1;omega
 ·intro c m c' D u;rw[b]at m D;change bG (aw cs) c=bG (aw cs) c' at u;rcases w with⟨j,A⟩|⟨x,j,A,Q,k4,k5,C,-⟩
  ·have H:∀y,bG (aw cs) y=bG (aw d.fH) y:=λy=>by
    unfold bG;rw[E y,j];rfl
   rw[H,H]at u;exact h.df c (A c m) c' (A c' D) u
  ·have i:∀y∈be d.fS,bG (aw cs) y=bG (aw d.fH) y:=λy hy=>by
    have Y:¬(d.fS.next=y):=by
     obtain⟨z,hz,F⟩:=h.lv y hy;obtain⟨z1,z2⟩:=ui F;have:=h.dn z hz z1;omega
    unfold bG;rw[E y,j,zD];have:dj y x=iF:=by unfold dj;simp[A,Q,Y]
    rw[this];rfl
   have B:bG (aw cs) d.fS.next=X q.text.data.toList:=by
    rw[M4 (x:=x)]
    ·exact k4
    ·rw[E,j,zD];have:dj d.fS.next x=iV:=by unfold dj;simp[A,Q]
     rw[this];rfl
   rcases C c m with g|g<;>rcases C c' D with G|G
   ·rw[i c g,i c' G]at u;exact h.df c g c' G u
   ·subst G;rw[i c g,B]at u;exact absurd u (k5 c g)
   ·subst g;rw[i c' G,B]at u;exact absurd u.symm (k5 c' G)
   ·rw[g,G]
 ·intro x a K;change x∈aw cs at a;rw[b];have Z:=QZ (s:=d.fS) o;rw[h4]at a;rcases br.1 a with a|a
  ·rcases br.1 a with a|a
   ·have:=h.dn x a K;omega
   ·rcases w with⟨j,-⟩|⟨y,j,-,Q,-,-,-,k7⟩
    ·rw[j]at a;cases a
    ·rw[j,bT]at a;subst a;omega
  ·have:=(S x a).1;omega
 ·rw[b];have ab:=h.nx;rcases w with⟨-,-⟩|⟨-,-,-,-,-,-,-,k7⟩
  ·rcases UM (s:=d.fS) r o with g|g
   ·rw[g];omega
   ·rcases V with⟨rfl,rfl⟩|⟨r',O,rfl,rfl⟩|⟨c,m,H,rfl,rfl⟩|⟨-,-,-,-,rfl,rfl⟩
    ·exact absurd rfl M
    ·injection f with f
     subst f;have aj:=hR.nx;cases u:(aX d.fS r').2 with
     |false=>rw[qG u];omega
     |true=>
      obtain⟨-,ac⟩:=nF u;unfold Rc.Right at ac;rw[g];have:r'.fC=0:=by omega
      omega
    ·injection f with f
     subst f;simp only at g;obtain⟨z,hz,F⟩:=h.lv c m;obtain⟨z1,z2⟩:=ui F;have:=h.dn z hz z1;rw[g];omega
    ·injection f with f
     subst f;simp only at g;rw[g];omega
  ·rw[k7];omega
open Go.RowKit
theorem yY:(Tryz.prog.info? 142).map (λi=>(i.zero,i.size,i.bytes))=X (X (iA #[I J 0,iT ⟨#[]⟩]),2,24):=by kernel_rfl
theorem Fk:(Tryz.prog.info? 107).map (λi=>(i.zero,i.size,i.bytes))=X (X (iA #[iB iF,I J 0,Y O 0 0]),3,40):=by kernel_rfl
def ti(t:Int×ByteArray):List iX:=[I J t.1,iT t.2]
def fi(l:List (Int×ByteArray)):List iX:=l.flatMap ti
theorem GH(l:List (Int×ByteArray)):(fi l).length=l.length*2:=by
 induction l with
 |nil=>rfl
 |cons t l a=>simp[fi,ti]at a⊢;omega
theorem sQ(t:Int×ByteArray)(l:List (Int×ByteArray)):fi (t::l)=[I J t.1,iT t.2]++fi l:=by simp[fi,ti]
theorem A9(l:List (Int×ByteArray))(k:Nat)(t:Int×ByteArray)(h:l[k]?=X t):(fi l)[k*2]?=X (I J t.1)/\(fi l)[k*2+1]?=X (iT t.2):=by
 induction l generalizing k with
 |nil=>simp at h
 |cons a l b=>
  cases k with
  |zero=>
   simp at h;subst h;exact⟨rfl,rfl⟩
  |succ k=>
   have:=b k (by simpa using h)
   rw[sQ,dz (by simp;omega),dz (by simp;omega)]
   simp only[aR,cU];rw[show(k+1)*2-(0+1+1)=k*2 by omega,show(k+1)*2+1-(0+1+1)=k*2+1 by omega]
   exact this
theorem QV(l:List (Int×ByteArray)):∀v∈fi l,v.oneCell'=iV:=by
 intro v b;obtain⟨t,-,a⟩:=lE.1 b;simp[ti]at a;rcases a with h|h<;>subst h<;>rfl
theorem Fc(ls:List (Int×ByteArray))(k:Nat)(t:Int×ByteArray)(h:ls[k]?=X t):
 (∀z:Int,(fi ls).set (k*2) (I J z)=fi (ls.set k (z,t.2)))/\(∀z:ByteArray,(fi ls).set (k*2+1) (iT z)=fi (ls.set k (t.1,z))):=by
 induction ls generalizing k with
 |nil=>simp at h
 |cons a r c=>
  cases k with
  |zero=>
   simp at h;subst h;simp[sQ]
  |succ k=>
   obtain⟨h1,b⟩:=c k (by simpa using h)
   refine⟨λz=>?_,λz=>?_⟩
   ·rw[bp,sQ,sQ,<-h1 z,ii _ _ (by simp;omega)]
    congr 2;simp;omega
   ·rw[bp,sQ,sQ,<-b z,ii _ _ (by simp;omega)]
    congr 2;simp;omega
theorem DU{w:iW}{l:List (Int×ByteArray)}{t:Int×ByteArray}(h:w.ownsRow B 142 2 (Y (X ⟨g,0,O⟩) n cap) n (fi l))(b:l[k]?=X t):
 w.cell? ⟨g,k*2,O⟩=X (I J t.1)/\w.cell? ⟨g,k*2+1,O⟩=X (iT t.2):=by
 obtain⟨h1,a⟩:=A9 l k t b;have c1:=h.cells (g:=g) rfl _ _ h1;have c2:=h.cells (g:=g) rfl _ _ a;rw[eX]at c1 c2;exact⟨c1,c2⟩
def yq(t:Bool×Int×iX):List iX:=[iB t.1,I J t.2.1,t.2.2]
def fW(l:List (Bool×Int×iX)):List iX:=l.flatMap yq
theorem Nr(a b:List (Bool×Int×iX)):fW (a++b)=fW a++fW b:=by simp[fW]
theorem pA(t:Bool×Int×iX)(l:List (Bool×Int×iX)):fW (t::l)=[iB t.1,I J t.2.1,t.2.2]++fW l:=by simp[fW,yq]
theorem Rh(l:List (Bool×Int×iX))(k:Nat)(t:Bool×Int×iX)(h:l[k]?=X t):(fW l)[k*3]?=X (iB t.1)/\(fW l)[k*3+1]?=X (I J t.2.1)/\(fW l)[k*3+2]?=X t.2.2:=by
 induction l generalizing k with
 |nil=>simp at h
 |cons a l b=>
  cases k with
  |zero=>
   simp at h;subst h;exact⟨rfl,rfl,rfl⟩
  |succ k=>
   have:=b k (by simpa using h)
   rw[pA,dz (by simp;omega),dz (by simp;omega),dz (by simp;omega)]
   simp only[aR,cU];rw[show(k+1)*3-(0+1+1+1)=k*3 by omega,show(k+1)*3+1-(0+1+1+1)=k*3+1 by omega,show(k+1)*3+2-(0+1+1+1)=k*3+2 by omega]
   exact this
theorem yE(ls:List (Bool×Int×iX))(k:Nat)(t:Bool×Int×iX)(h:ls[k]?=X t):
 (∀z:Bool,(fW ls).set (k*3) (iB z)=fW (ls.set k (z,t.2.1,t.2.2)))/\(∀z:Int,(fW ls).set (k*3+1) (I J z)=fW (ls.set k (t.1,z,t.2.2)))/\(∀z:iX,(fW ls).set (k*3+2) z=fW (ls.set k (t.1,t.2.1,z))):=by
 induction ls generalizing k with
 |nil=>simp at h
 |cons a r d=>
  cases k with
  |zero=>
   simp at h;subst h;simp[pA]
  |succ k=>
   obtain⟨h1,b,c⟩:=d k (by simpa using h)
   refine⟨λz=>?_,λz=>?_,λz=>?_⟩
   ·rw[bp,pA,pA,<-h1 z,ii _ _ (by simp;omega)]
    congr 2;simp;omega
   ·rw[bp,pA,pA,<-b z,ii _ _ (by simp;omega)]
    congr 2;simp;omega
   ·rw[bp,pA,pA,<-c z,ii _ _ (by simp;omega)]
    congr 2;simp;omega
theorem zS{w:iW}{l:List (Bool×Int×iX)}{t:Bool×Int×iX}(h:w.ownsRow B 107 3 (Y (X ⟨g,0,O⟩) n cap) n (fW l))(c:l[k]?=X t):
 w.cell? ⟨g,k*3,O⟩=X (iB t.1)/\w.cell? ⟨g,k*3+1,O⟩=X (I J t.2.1)/\w.cell? ⟨g,k*3+2,O⟩=X t.2.2:=by
 obtain⟨h1,a,b⟩:=Rh l k t c;have c1:=h.cells (g:=g) rfl _ _ h1;have c2:=h.cells (g:=g) rfl _ _ a;have c3:=h.cells (g:=g) rfl _ _ b;rw[eX]at c1 c2 c3;exact⟨c1,c2,c3⟩
theorem lN{w:iW}{v:iX}{xs:List iX}(h:w.ownsRow B e z v n xs):
 ∃ad cap,v=Y ad n cap/\n<=cap/\cap<=maxLen/\(0<n->∃g,ad=X ⟨g,0,O⟩/\B<=g/\g<w.heap.size):=by
 have a:=h.lt;rcases h.2 with⟨h1,c⟩|⟨g,cap,b,h1,-,-,d,h4,-⟩
 ·exact⟨O,0,by rw[h1,c],by omega,by unfold maxLen;omega,λh=>by omega⟩
 ·subst h1;exact⟨_,cap,rfl,d,h4,λ_=>⟨g,rfl,a g rfl⟩⟩
abbrev Rw:=Bool×Int×iX×List (Int×ByteArray)
def fL(r:Rw):Bool×Int×iX:=(r.1,r.2.1,r.2.2.1)
def aC(r:Rw):Bk:=(r.1,r.2.1,r.2.2.2)
def jD(w:iW)(lo hi:Nat)(v:iX)(ls:List (Int×ByteArray)):Prop:=
 w.ownsRow lo 142 2 v ls.length (fi ls)/\∀g,v.ownBlock=X g->g<hi
def eJ(w:iW)(lo hi:Nat)(v:iX)(rs:List Rw):Prop:=
 w.ownsRow lo 107 3 v rs.length (fW (rs.map fL))/\(∀g,v.ownBlock=X g->g<hi)/\(∀r∈rs,jD w lo hi r.2.2.1 r.2.2.2)/\
  (rs.map λr=>r.2.2.1).Pairwise (λa b=>a.ownBlock=O∨a.ownBlock≠b.ownBlock)
theorem E9{w w':iW}{hi:Nat}{v:iX}{xs:List iX}(h:w.ownsRow lo e size v n xs)(i:∀g,v.ownBlock=X g->g<hi)(j:∀g,lo<=g->g<hi->w'.heap[g]?=w.heap[g]?):w'.ownsRow lo e size v n xs:=by
 have k:=h.lt;obtain⟨h1,f⟩:=h;refine⟨h1,?_⟩;rcases f with h|⟨g,cap,a,rfl,b,c,d⟩
 ·exact .inl h
 ·exact .inr ⟨g,cap,a,rfl,b,by rw[j g b (i g rfl)];exact c,d⟩
theorem jD.kept{w w':iW}{hi:Nat}{v:iX}(h:jD w lo hi v ls)(a:∀g,lo<=g->g<hi->w'.heap[g]?=w.heap[g]?):jD w' lo hi v ls:=⟨E9 h.1 h.2 a,h.2⟩
theorem eJ.kept{w w':iW}{hi:Nat}{v:iX}{rs:List Rw}(h:eJ w lo hi v rs)(a:∀g,lo<=g->g<hi->w'.heap[g]?=w.heap[g]?):eJ w' lo hi v rs:=
 ⟨E9 h.1 h.2.1 a,h.2.1,λr b=>(h.2.2.1 r b).kept a,h.2.2.2⟩
theorem eJ.below{w w':iW}{hi:Nat}{v:iX}{rs:List Rw}(h:eJ w lo hi v rs)(a:iL w.heap.size w w')(c:hi<=w.heap.size):eJ w' lo hi v rs:=h.kept (λg _ b=>a.block g (by omega))
theorem jD.up{w:iW}{hi:Nat}{v:iX}(h:jD w lo hi v ls)(b:hi<=hi'):jD w lo hi' v ls:=⟨h.1,λg a=>gX (h.2 g a) b⟩
theorem eJ.up{w:iW}{hi:Nat}{v:iX}{rs:List Rw}(h:eJ w lo hi v rs)(a:hi<=hi'):eJ w lo hi' v rs:=⟨h.1,λg b=>gX (h.2.1 g b) a,λr c=>(h.2.2.1 r c).up a,h.2.2.2⟩
theorem BH{w:iW}{u v:iX}{xs j:List iX}(h:w.ownsRow B 107 3 u n xs)(i:w.ownsRow B' 142 2 v m j):∀g,u.ownBlock=X g->v.ownBlock≠X g:=by
 intro g h1 a;rcases h.2 with⟨rfl,-⟩|⟨g1,cap,e,rfl,-,f,-⟩
 ·cases h1
 ·rcases i.2 with⟨rfl,-⟩|⟨g2,b,c,rfl,-,d,-⟩
  ·cases a
  ·simp[Value.ownBlock]at h1 a;subst h1 a;rw[f]at d;simp at d
theorem Fb(l:List α)(k:Nat)(a:α)(h:l[k]?=X a):l.set k a=l:=by
 induction l generalizing k with
 |nil=>rfl
 |cons b r c=>
  cases k with
  |zero=>simp at h;subst h;rfl
  |succ k=>rw[bp,c k (by simpa using h)]
theorem Aj{w:iW}{a:Nat}{v:iX}{xs d:List iX}(b:w.ownsRow B 107 3 (Y (X ⟨g,0,O⟩) n a) n xs)(c:w.ownsRow B' 142 2 v m d):v.ownBlock=O∨v.ownBlock≠X g:=Or.inr (BH b c g rfl)
theorem Vm{R:α->α->Prop}{l:List α}(h:l.Pairwise R)(c:∀a b,R a b->R b a){a b:α}(hi:l[i]?=X a)(f:l[j]?=X b)(g:i≠j):R a b:=by
 obtain⟨h1,rfl⟩:=aD.1 hi;obtain⟨e,rfl⟩:=aD.1 f;rw[mJ]at h;by_cases d:i<j
 ·exact h i j h1 e d
 ·exact c _ _ (h j i e h1 (by omega))
theorem Y9(a b:iX)(h:a.ownBlock=O∨a.ownBlock≠b.ownBlock):b.ownBlock=O∨b.ownBlock≠a.ownBlock:=by
 cases c:b.ownBlock with
 |none=>exact Or.inl rfl
 |some g=>
  refine Or.inr (λe=>?_)
  rcases h with h|h
  ·rw[h]at e;cases e
  ·exact h (by rw[c,e])
theorem eJ.leaves{w w':iW}{hi:Nat}{v:iX}{rs:List Rw}{r:Rw}{ls':List (Int×ByteArray)}(h:eJ w lo hi v rs)(c:rs[k]?=X r)(f:w.grownBy w' r.2.2.1.ownBlock)(m:jD w' lo hi r.2.2.1 ls'):
 eJ w' lo hi v (rs.set k (r.1,r.2.1,r.2.2.1,ls')):=by
 have d:=h.2.2.1 r (aH c);refine⟨?_,h.2.1,λx o=>?_,?_⟩
 ·have l:(rs.set k (r.1,r.2.1,r.2.2.1,ls')).map fL=rs.map fL:=by
   rw[p8];exact Fb _ _ _ (by rw[bk,c];rfl)
  rw[l,iy];refine h.1.kept f ?_;cases n:v.ownBlock with
  |none=>exact Or.inl rfl
  |some g=>exact Or.inr (λe=>BH h.1 d.1 g n e.symm)
 ·obtain⟨i,hi,rfl⟩:=nJ o;have hi2:i<rs.length:=by simpa using hi
  by_cases a:k=i
  ·subst a;simp only[List.getElem_set_self];exact m
  ·rw[List.getElem_set_ne a];have b:=h.2.2.1 rs[i] (qy _);refine⟨b.1.kept f ?_,b.2⟩;exact Vm h.2.2.2 Y9 (i:=i) (j:=k) (by rw[bk,ay hi2];rfl) (by rw[bk,c];rfl) (λe=>a e.symm)
 ·rw[p8];simp only;rw[Fb _ _ _ (by rw[bk,c];rfl)]
  exact h.2.2.2
end Go.Proofs.YtijmbohadndfmaaGreatDoor
