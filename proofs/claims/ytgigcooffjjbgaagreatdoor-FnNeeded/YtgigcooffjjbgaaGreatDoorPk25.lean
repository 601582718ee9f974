/-
  SClA; PkRM; Rows3; GRow; GMath; Fits; IPlain; PkMM; TRows; Bytes; Start; PMap; PKey; Note; WithB; PkCut; IMatch; LMath; Longest; ITok; IPack; IUnp
-/
import Derived.Test.YtgigcooffjjbgaaGreatDoorPk24
import Derived.Lib.AppendStr
import Derived.Maps.GroupsBeside
import Derived.WideKeyEntry
import Derived.DeepKeys4
open Go.Value renaming int→I,slice→Y,string→iT,bool→iB,agg→iA,tuple→iU
open Go.IntKind renaming i64→J
open Option renaming none→O,some→X
open Go.Ending renaming returned→G
open Go.Obj renaming cells→iC
open Bool renaming true→iV,false→iF
open Go renaming World→iW,Value→iX,Calls→iK
open Go.RowKit renaming Below→iL
set_option maxHeartbeats 16000000
set_option maxRecDepth 100000
namespace Go.Proofs.YtgigcooffjjbgaaGreatDoor
open Go.RowKit Words Sums
theorem Vi(M:List an)(h:∀x∈M,x.fP.Right):1<=gL M/\gL M<=1000000001:=by
 unfold gL;have a:∀(L:List an) (s:Int),(∀x∈L,x.fP.Right)->1<=s->s<=1000000001->1<=L.foldl (λs x=>if x.fP.kind=2/\s<=x.fP.tx then x.fP.tx+1 else s) s/\L.foldl (λs x=>if x.fP.kind=2/\s<=x.fP.tx then x.fP.tx+1 else s) s<=1000000001:=by
  intro L
  induction L with
  |nil=>intro s _ h1 b;exact⟨h1,b⟩
  |cons x L e=>
   intro s d h1 b;have c:=d x (by simp)
   have:=c.2.2.2.1;have:=c.2.2.2.2.1;rw[nA];refine e _ (λy hy=>d y (by simp[hy])) ?_ ?_
   ·split<;>omega
   ·split<;>omega
 exact a M 1 h (by omega) (by omega)
variable{q0:Int}{T:List UInt8 -> Prop}{n B z g:Nat}{w W W':iW}{x a b c u:iX}
variable{d:Dv}
theorem cO.wrap(h:cO T n d):IntKind.i64.wrap (d.tx-1)=d.tx-1:=by
 have h1:d.tx=gL (au d.fH):=congrArg Dv.tx h.up.is;have b:=Vi (au d.fH) (λx a=>sk a)
 rw[cm];omega
theorem cO.fit(h:cO T n d):d.Fit:=⟨Ic h.up.ok,vZ h.st⟩
variable{L:List aM}
theorem KT{W:iW}{u:iX}(h:W.ownsRow B 254 4 u L.length (cV L)):nX W u L:=by
 rcases h.2 with⟨rfl,e⟩|⟨g,c,b,rfl,h1,l,d,h4,-⟩
 ·have f:L=[]:=gK e;subst f;exact⟨O,0,rfl,am _,by omega,λ_=>rfl,λi s hs=>by simp at hs⟩
 ·refine⟨X ⟨g,0,O⟩,c,rfl,d,by unfold maxLen at h4;omega,λe=>(by cases e),λi s hs=>⟨g,0,rfl,?_⟩⟩
  have a:=λ(j:Nat) (v:iX) (k:(ry s)[j]?=X v)=>tP h (g:=g) rfl (i*4+j) v (IW _ i s hs j v k)
  have e:∀j,(⟨g,0,O⟩:Addr).add j=⟨g,j,O⟩:=fw g;rw[eV];refine⟨?_,?_,?_,?_⟩
  ·have:=a 0 _ rfl;rw[e]at this;exact this
  ·have:=a 1 _ rfl;rw[e]at this;exact this
  ·have:=a 2 _ rfl;rw[e]at this;exact this
  ·have:=a 3 _ rfl;rw[e]at this;exact this
theorem LU(Q:List Pg):∀(s:List Bk×List aM×Bool),(eD s Q).2.1.length<=s.2.1.length+Q.length:=by
 induction Q with
 |nil=>intro s;simp[eD]
 |cons p Q a=>
  intro s;rw[eD];split
  ·refine bT (a _) ?_;have:=sB s.1 s.2.1 p;rw[aV];omega
  ·omega
theorem Ed(d:Dv)(l:List Rc)(t:ByteArray):(dZ d l t).1.length<=10:=by
 unfold dZ;split
 ·simp
 ·split
  ·simp only;refine bT (LU _ _) ?_;have h1:=Ga (eK d t) d.tx l;have a:(jr d l t).2.1.length<=1:=by
    unfold jr;split
    ·simp
    ·have:=sB d.fH [] (kG d.seq (oP l) t)
     simpa using this
   omega
  ·simp
theorem Fh(b:Int):∀(ps:List Pg) (f:List Bk) (l:List aM) (q:Int) (r:List Bk×List aM×Int),eH b f l q ps=X r->r.2.1.length<=l.length+ps.length
 | [],f,l,q,r,h=>by simp only[eH,fu]at h;subst h;simp
 |p::ps,f,l,q,r,h=>by
  rw[eH]at h;split at h
  ·refine bT (Fh b ps _ _ _ r h) ?_;have:=sB f l (lQ p q);rw[aV];omega
  ·cases h
theorem Ng(b:Int)(a:bo d.fH=iV):(kX d b).1.length<=1000:=by
 unfold kX;split
 ·rename_i r hr
  have h1:=Fh b _ _ _ _ r hr;have c:=(tJ a).1;have e:(pL (au d.fH) (aI d.fS) b).length<=4*40:=by
   unfold pL;rw[List.length_flatMap];have:∀y∈(List.range 4).map (λ(lf:Nat)=>(((au d.fH).zip (cE (au d.fH) (aI d.fS) 1000000001)).filterMap λp=>if p.2&&p.1.block==b&&p.1.leaf==(lf:Int)then X p.1 else O).length),y<=40:=by
    intro y hy;obtain⟨lf,-,rfl⟩:=bJ.1 hy;refine bT (yJ _ _) ?_;rw[yL];omega
   simp only[List.range,List.range.loop,cn,oh,aX,eI,fp,forall_eq_or_imp,forall_eq,fU,List.sum_nil]at this⊢;omega
  simp only[dU,bm]at h1;simp only;omega
 ·simp
theorem JD(a:bo d.fH=iV):(jc d).1.length<=1000:=by
 unfold jc;split
 ·simp
 ·split
  ·split
   ·simp
   ·exact Ng _ a
  ·have:=Ed d (hJ d.fS) aQ;omega
theorem AO(v:iX)(bs:List Bk)(w:iW)(hs:de bs)(a:fq w v bs):iK Tryz.prog 103 #[iA #[v]] w λe w'=>e=G (I J (cK bs:Nat))/\iL w.heap.size w w':=by
 obtain⟨rs,rfl,h,l,b,c⟩:=a.lens hs;exact Wx v rs w l b h
structure gF (w W:iW) (z g:Nat) (x a b c u:iX) (d:Dv) (l:List aM):Prop where
 bel:iL w.heap.size w W
 dv:∃B,z<B/\cM B x d W
 fit:d.Fit
 is:x=iA #[a,b,c,I J d.fS.next,I J d.seq,I J d.tx,I J d.base]
 at_:aU W g a b c d.fS.next d.seq d.tx d.base
 zat:aU W z (Y O 0 0) (Y O 0 0) (Y O 0 0) 0 0 0 0
 row:W.ownsRow w.heap.size 254 4 u l.length (cV l)
 gg:z<g
 zz:w.heap.size<=z
def Bc(w:iW)(r:Dv×List aM)(e:Ending)(w':iW):Prop:=∃v u,e=G (iU #[v,u])/\cM w.heap.size v r.1 w'/\r.1.Fit/\w'.ownsRow w.heap.size 254 4 u r.2.length (cV r.2)/\iL w.heap.size w w'
section
variable{l:List aM}
theorem gF.below(h:gF w W z g x a b c u d l)(e:iL W.heap.size W W'):gF w W' z g x a b c u d l:=by
 obtain⟨h1,⟨B,i,j⟩,h4,k,m,n,o,p,f⟩:=h;exact⟨h1.trans (e.mono h1.size),⟨B,i,j.below e⟩,h4,k,m.below e,n.below e,bE o e,p,f⟩
theorem gF.rd(h:gF w W z g x a b c u d l):eP W (iA #[a,b,c,I J d.fS.next,I J d.seq,I J d.tx,I J d.base]) d:=by
 obtain⟨h1,⟨B,j,f⟩,h4,i,k,m,n,o,e⟩:=h;rw[<-i];exact f.rd h4
theorem tU{W:iW}{u:iX}{xs:List iX}{j k l:iX}{r w v:Int}(h:W.ownsRow B 254 4 u n xs)(p:aU W g j k l r q0 w v)(a b c:iX)(m q t s:Int):(bF W g a b c m q t s).ownsRow B 254 4 u n xs:=by
 obtain⟨h0,h⟩:=h;refine⟨h0,?_⟩;rcases h with h|⟨z,cap,d,e,h1,f,o⟩
 ·exact .inl h
 ·refine .inr ⟨z,cap,d,e,h1,(rA _ _ _ _ _ _ _ _ _ (λi=>?_)).trans f,o⟩
  subst i;rw[show W.heap[z]?=_ from p]at f;simp at f
theorem gF.rat(h:gF w W z g x a b c u d l):aU (bF W z a b c d.fS.next d.seq d.tx d.base) z a b c d.fS.next d.seq d.tx d.base:=lI h.zat _ _ _ _ _ _ _
theorem gF.ret(h:gF w W z g x a b c u d l):Bc w (d,l) (G (iU #[iA #[a,b,c,I J d.fS.next,I J d.seq,I J d.tx,I J d.base],u])) (bF W z a b c d.fS.next d.seq d.tx d.base):=by
 obtain⟨B,f,e⟩:=h.dv;refine⟨_,_,rfl,?_,h.fit,tU h.row h.zat _ _ _ _ _ _ _,ly _ _ _ _ _ _ _ h.bel h.zz⟩;have:=(e.put (g:=z) (by omega) a b c d.fS.next d.seq d.tx d.base).down (B':=w.heap.size) (by have:=h.zz;omega)
 rw[h.is]at this;exact this
variable{d':Dv}
theorem gF.step {j W3:iW} {p f i c' u':iX} (h:gF w W z g x a b c u d l) (s:iL W.heap.size W j) (Q:W.heap.size<=B) (K:cM B p d' j) (G:d'.Fit) (N:p=iA #[f,i,c',I J d'.fS.next,I J d'.seq,I J d'.tx,I J d'.base])
 (M:W3.ownsRow w.heap.size 254 4 u' (l.length+L.length) (cV l++cV L)) (m:(bF j g f i c' d'.fS.next d'.seq d'.tx d'.base).grownBy W3 u.ownBlock):gF w W3 z g p f i c' u' d' (l++L):=by
 have H:=h.at_.lt;have P:=h.zat.lt;have v:=iS h.row;have o:∀k,u.ownBlock=X k->w.heap.size<=k/\k<W.heap.size:=λk t=>v k t
 have A:u.ownBlock≠X g:=λe=>by
  rcases h.row.2 with⟨rfl,-⟩|⟨y,cap,r,rfl,-,n,-⟩
  ·cases e
  ·simp only[Value.ownBlock,fu]at e;subst e;rw[show W.heap[y]?=_ from h.at_]at n;simp at n
 have C:u.ownBlock≠X z:=λe=>by
  rcases h.row.2 with⟨rfl,-⟩|⟨y,cap,r,rfl,-,n,-⟩
  ·cases e
  ·simp only[Value.ownBlock,fu]at e;subst e;rw[show W.heap[y]?=_ from h.zat]at n;simp at n
 have q:iL w.heap.size w (bF j g f i c' d'.fS.next d'.seq d'.tx d'.base):=ly _ _ _ _ _ _ _ (h.bel.trans (s.mono h.bel.size)) (by have:=h.gg;have:=h.zz;omega)
 have g2:aU (bF j g f i c' d'.fS.next d'.seq d'.tx d'.base) g f i c' d'.fS.next d'.seq d'.tx d'.base:=lI (h.at_.below s) _ _ _ _ _ _ _;have E:aU (bF j g f i c' d'.fS.next d'.seq d'.tx d'.base) z (Y O 0 0) (Y O 0 0) (Y O 0 0) 0 0 0 0:=(rA _ _ _ _ _ _ _ _ _ (by have:=h.gg;omega)).trans (h.zat.below s)
 have F:cM B p d' (bF j g f i c' d'.fS.next d'.seq d'.tx d'.base):=K.put (by omega) _ _ _ _ _ _ _
 generalize bF j g f i c' d'.fS.next d'.seq d'.tx d'.base=V at m q g2 E F;refine⟨q.grown m q.size (λk t=>(o k t).1),⟨B,by omega,F.keep (λy hy D=>m.block y D (λe=>?_)) m.size⟩,G,N,(m.block g g2.lt (λe=>A e.symm)).trans g2,(m.block _ E.lt (λe=>C e.symm)).trans E,?_,h.gg,h.zz⟩
 ·have:=(o y e.symm).2;omega
 ·rw[aJ,Ag];exact M
def AF(w:iW)(r:Dv×List aM×ByteArray×Int)(e:Ending)(w':iW):Prop:=∃v u,e=G (iU #[v,u,iT r.2.2.1,I J r.2.2.2])/\cM w.heap.size v r.1 w'/\r.1.Fit/\w'.ownsRow w.heap.size 254 4 u r.2.1.length (cV r.2.1)/\iL w.heap.size w w'
theorem gF.ret4(h:gF w W z g x a b c u d l)(t:ByteArray)(k:Int):AF w (d,l,t,k) (G (iU #[iA #[a,b,c,I J d.fS.next,I J d.seq,I J d.tx,I J d.base],u,iT t,I J k])) (bF W z a b c d.fS.next d.seq d.tx d.base):=by
 obtain⟨v,u',e,h1,f,i,h4⟩:=h.ret;injection e with e
 injection e with e
 injection e with e
 simp only[jk,kx]at e;obtain⟨rfl,rfl⟩:=e;exact⟨_,_,rfl,h1,f,i,h4⟩
theorem gF.clean {e:iW} {m i j c' u':iX} (h:gF w W z g x a b c u d l) (f:iL W.heap.size W e) (p:cM W.heap.size m d' e) (n:d'.Fit) (r:m=iA #[i,j,c',I J d'.fS.next,I J d'.seq,I J d'.tx,I J d'.base])
 (q:e.ownsRow W.heap.size 254 4 u' L.length (cV L)):gF w (bF e g i j c' d'.fS.next d'.seq d'.tx d'.base) z g m i j c' u' d' L:=by
 have o:=h.at_.lt;have k:=h.zat.lt;refine⟨ly _ _ _ _ _ _ _ (h.bel.trans (f.mono h.bel.size)) (by have:=h.gg;have:=h.zz;omega),⟨W.heap.size,k,p.put (by omega) _ _ _ _ _ _ _⟩,n,r,lI (h.at_.below f) _ _ _ _ _ _ _,(rA _ _ _ _ _ _ _ _ _ (by have:=h.gg;omega)).trans (h.zat.below f),?_,h.gg,h.zz⟩
 exact tU (qQ q h.bel.size) (h.at_.below f) _ _ _ _ _ _ _
theorem gF.fin {o W3:iW} {r f i c' u':iX} (h:gF w W z g x a b c u d l) (m:iL W.heap.size W o) (N:W.heap.size<=B) (E:cM B r d' o) (C:d'.Fit) (H:r=iA #[f,i,c',I J d'.fS.next,I J d'.seq,I J d'.tx,I J d'.base])
 (F:W3.ownsRow w.heap.size 254 4 u' (l.length+L.length) (cV l++cV L)) (n:o.grownBy W3 u.ownBlock):aU W3 z (Y O 0 0) (Y O 0 0) (Y O 0 0) 0 0 0 0/\AF w (d',l++L,aQ,0) (G (iU #[iA #[f,i,c',I J d'.fS.next,I J d'.seq,I J d'.tx,I J d'.base],u',iT aQ,I J 0])) (bF W3 z f i c' d'.fS.next d'.seq d'.tx d'.base)/\aU (bF W3 z f i c' d'.fS.next d'.seq d'.tx d'.base) z f i c' d'.fS.next d'.seq d'.tx d'.base:=by
 have K:=h.zat.lt;have j:=iS h.row;have p:u.ownBlock≠X z:=λe=>by
  rcases h.row.2 with⟨rfl,-⟩|⟨y,cap,A,rfl,-,t,-⟩
  ·cases e
  ·simp only[Value.ownBlock,fu]at e;subst e;rw[show W.heap[y]?=_ from h.zat]at t;simp at t
 have s:aU W3 z (Y O 0 0) (Y O 0 0) (Y O 0 0) 0 0 0 0:=(n.block _ (h.zat.below m).lt (λe=>p e.symm)).trans (h.zat.below m)
 have M:cM B r d' W3:=E.keep (λy hy q=>n.block y q (λe=>by have:=(j y e.symm).2;omega)) n.size
 have v:iL w.heap.size w W3:=(h.bel.trans (m.mono h.bel.size)).grown n (h.bel.trans (m.mono h.bel.size)).size (λk D=>(j k D).1)
 refine⟨s,⟨_,_,rfl,?_,C,?_,ly _ _ _ _ _ _ _ v h.zz⟩,lI s _ _ _ _ _ _ _⟩
 ·have:=(M.put (g:=z) (by omega) f i c' d'.fS.next d'.seq d'.tx d'.base).down (B':=w.heap.size) (by have:=h.zz;omega)
  rw[H]at this;exact this
 ·show World.ownsRow _ _ _ _ _ (l++L).length (cV (l++L));rw[aJ,Ag];exact tU F s _ _ _ _ _ _ _
end
theorem WS(T:List UInt8->Prop)(n:Nat)(x:iX)(d:Dv)(i:Int)(w:iW)(h:eP w x d)(hg:cO T n d):iK Tryz.prog 104 #[x,I J i] w (Bc w (gJ d i)):=by
 have hx:=h;obtain⟨i0,aF,aH,aI,aL⟩:=bV An;have I0:=af aF;have I1:=af aH;have I2:=af aI;have I3:=af aL;clear aF aH aI aL;obtain⟨fd,Z,va,vl,vc,ad,ln,cap,rfl,h1,h2,h3⟩:=h.form;have aN:(w.alloc (iC #[Y fd d.fH.length Z,Y va vl vc,Y ad ln cap,I J d.fS.next,I J d.seq,I J d.tx,I J d.base] 34)).heap.size=w.heap.size+1:=by simp
 have aA:=aR w (iC #[Y fd d.fH.length Z,Y va vl vc,Y ad ln cap,I J d.fS.next,I J d.seq,I J d.tx,I J d.base] 34);have aB:aU (w.alloc (iC #[Y fd d.fH.length Z,Y va vl vc,Y ad ln cap,I J d.fS.next,I J d.seq,I J d.tx,I J d.base] 34)) w.heap.size (Y fd d.fH.length Z) (Y va vl vc) (Y ad ln cap) d.fS.next d.seq d.tx d.base:=aC _ _;have bA:iL w.heap.size w ((w.alloc (iC #[Y fd d.fH.length Z,Y va vl vc,Y ad ln cap,I J d.fS.next,I J d.seq,I J d.tx,I J d.base] 34)).alloc (iC #[Y O 0 0,Y O 0 0,Y O 0 0,I J 0,I J 0,I J 0,I J 0] 34)):=aA.alloc (by omega) _
 have gA:=aB.below (w':=(w.alloc (iC #[Y fd d.fH.length Z,Y va vl vc,Y ad ln cap,I J d.fS.next,I J d.seq,I J d.tx,I J d.base] 34)).alloc (iC #[Y O 0 0,Y O 0 0,Y O 0 0,I J 0,I J 0,I J 0,I J 0] 34)) (bh);have zA:aU ((w.alloc (iC #[Y fd d.fH.length Z,Y va vl vc,Y ad ln cap,I J d.fS.next,I J d.seq,I J d.tx,I J d.base] 34)).alloc (iC #[Y O 0 0,Y O 0 0,Y O 0 0,I J 0,I J 0,I J 0,I J 0] 34)) (w.heap.size+1) (Y O 0 0) (Y O 0 0) (Y O 0 0) 0 0 0 0:=by
  rw[<-aN];exact aC _ _
 generalize au:(w.alloc (iC #[Y fd d.fH.length Z,Y va vl vc,Y ad ln cap,I J d.fS.next,I J d.seq,I J d.tx,I J d.base] 34)).alloc (iC #[Y O 0 0,Y O 0 0,Y O 0 0,I J 0,I J 0,I J 0,I J 0] 34)=wa at bA gA zA;have CC:=af (Eb _ d wa (hx.below bA) hg.fit);unfold rZ at CC;have HB:=af bA;have HZ:=af zA;have aO:=af hg;have S:ah (gJ d i=j8 (min i.toNat 20) d []):=rfl;obtain⟨R,hR⟩:=aq (gJ d i);rw[hR]at S⊢;obtain⟨y0,y1,y2,y3,y4,y5,y6⟩:=gA.cells;clear hx h h1 h2 h3 aN aA aB bA gA zA hg hR;go_enter Tryz.func104,Tryz.ntmps104;go_wp2_with fail;clear au;refine CC.o.mono ?_;rintro e K ⟨v1,rfl,o1,f1,b1⟩;obtain⟨v,y,vb,F,E,A,lo,C,e1⟩:=o1.form;have au:=HZ.o.lt;have b2:=aR K (iC #[Y v d.fH.length y,Y vb F E,Y A lo C,I J d.fS.next,I J d.seq,I J d.tx,I J d.base] 34);have g2:aU (K.alloc (iC #[Y v d.fH.length y,Y vb F E,Y A lo C,I J d.fS.next,I J d.seq,I J d.tx,I J d.base] 34)) K.heap.size (Y v d.fH.length y) (Y vb F E) (Y A lo C) d.fS.next d.seq d.tx d.base:=aC _ _;have B2:=HB.o.trans (b1.mono HB.o.size);have B3:=B2.trans (b2.mono B2.size);have W:iL (K.alloc (iC #[Y v d.fH.length y,Y vb F E,Y A lo C,I J d.fS.next,I J d.seq,I J d.tx,I J d.base] 34)).heap.size (K.alloc (iC #[Y v d.fH.length y,Y vb F E,Y A lo C,I J d.fS.next,I J d.seq,I J d.tx,I J d.base] 34)) ((K.alloc (iC #[Y v d.fH.length y,Y vb F E,Y A lo C,I J d.fS.next,I J d.seq,I J d.tx,I J d.base] 34)).alloc (iC #[] 254)):=bh;have n3:=nN B3 (K.alloc (iC #[Y v d.fH.length y,Y vb F E,Y A lo C,I J d.fS.next,I J d.seq,I J d.tx,I J d.base] 34)).heap.size rfl;have C3:ah (gF w ((K.alloc (iC #[Y v d.fH.length y,Y vb F E,Y A lo C,I J d.fS.next,I J d.seq,I J d.tx,I J d.base] 34)).alloc (iC #[] 254)) (w.heap.size+1) K.heap.size v1 (Y v d.fH.length y) (Y vb F E) (Y A lo C) (Y (X ⟨(K.alloc (iC #[Y v d.fH.length y,Y vb F E,Y A lo C,I J d.fS.next,I J d.seq,I J d.tx,I J d.base] 34)).heap.size,0,O⟩) 0 0) d []):=
  ⟨n3.2,⟨wa.heap.size,by omega,(o1.below b2).below W⟩,f1,e1,g2.below W,((HZ.o.below b1).below b2).below W,n3.1,by have:=b1.size;omega,by omega⟩
 subst e1;clear b2 g2 B2 B3 W n3 o1 f1 CC b1 HB HZ au y0 y1 y2 y3 y4 y5 y6;generalize aQ:K.alloc (iC #[Y v d.fH.length y,Y vb F E,Y A lo C,I J d.fS.next,I J d.seq,I J d.tx,I J d.base] 34)=w2 at C3;generalize aS:w2.alloc (iC #[] 254)=w3 at C3;go_wp2;clear aQ aS;obtain⟨g,ao⟩:=aq K.heap.size;obtain⟨u0,ar⟩:=aq (Y (X ⟨w2.heap.size,0,O⟩) 0 0);rw[ao,ar]at C3;rw[ao,ar];clear ao ar;go_loopw [7,8] (λuv iv wr=>∃(k:Nat) (j:Dv) (l:List aM) (x a b c u:iX),uv=u/\iv=I J k/\k<=min i.toNat 20/\l.length<=k*1000/\ah (cO T n j)/\ah (j8 (min i.toNat 20-k) j l=j8 (min i.toNat 20) d [])/\ah (gF w wr (w.heap.size+1) g x a b c u j l)) (λ_ iv _=>min i.toNat 20-(intOf iv).toNat)
 case atStart=>exact⟨0,d,[],_,_,_,_,_,rfl,rfl,aK _,aK _,aO,rfl,C3⟩
 case round=>
  rename iW=>wr
  obtain⟨k,j,l,x,a,b,c,uv,rfl,rfl,hk,hl,G,s,f⟩:=hrel;clear C3;have aW:(0:Int)<=k:=by omega
  obtain⟨v,y,vb,F,E,A,lo,C,ex⟩:∃v y vb F E A lo C,(iA #[a,b,c,I J j.fS.next,I J j.seq,I J j.tx,I J j.base])=iA #[Y v j.fH.length y,Y vb F E,Y A lo C,I J j.fS.next,I J j.seq,I J j.tx,I J j.base]:=by
   obtain⟨B,-,hd⟩:=f.o.dv;obtain⟨v,y,vb,F,E,A,lo,C,e⟩:=hd.form;exact⟨v,y,vb,F,E,A,lo,C,f.o.is.symm.trans e⟩
  injection ex with ex
  injection ex with ex
  simp only[jk,kx]at ex;obtain⟨ea,eb,ec⟩:=ex;subst ea eb ec;by_cases aX:(k:Int)<i
  ·by_cases aY:(k:Int)<20
   ·have aP:k<min i.toNat 20:=by omega
    obtain⟨m,hm⟩:∃m,min i.toNat 20-k=m+1:=⟨min i.toNat 20-k-1,by omega⟩
    have HM:=af (show min i.toNat 20-(k+1)=m by omega)
    rw[hm]at s;clear hm;obtain⟨c0,c1,c2,c3,c4,c5,c6⟩:=f.o.at_.cells;have CR:=af (AO (Y v j.fH.length y) j.fH wr f.o.fit.1 (by obtain⟨fv,vv,kv,e,r1,-⟩:=f.o.rd;injection e with e;injection e with e;simp only[jk]at e;rw[e.1];exact r1))
    obtain⟨rm,ap⟩:=aq (cK j.fH);rw[ap]at CR;have V:=af ap;clear ap;go_wp2_with fail;refine CR.o.mono ?_;rintro e w5 ⟨rfl,b5⟩;have z:=af (f.o.below b5);clear CR f b5 c0 c1 c2 c3 c4 c5 c6;by_cases aG:(rm:Int)<12
    ·have r:ah ((if (jc j).2 then j8 m (gn j (jc j).1) (l++(jc j).1)else(j,l))=j8 (min i.toNat 20) d []):=by
      have:=s.o;rw[j8,ak (by rw[V.o];omega)]at this
      exact this
     have CL:=af (Ll _ j w5 z.o.rd G.o.up.ok (by have:=G.o.st.few;omega) G.o.wrap)
     have ab:=af (JD G.o.up.ok);have U:=af (λ(L:List aM) (hL:jc j=(L,iV))=>Al G.o hL)
     obtain⟨L,ok,hL⟩:∃L ok,jc j=(L,ok):=⟨_,_,rfl⟩;rw[hL]at r CL ab U;unfold ji at CL;simp only at r CL ab;clear s V hL;obtain⟨c0,c1,c2,c3,c4,c5,c6⟩:=z.o.at_.cells;go_wp2_with fail;refine CL.o.mono ?_;rintro e w6 ⟨sv,rfl,o6,b6⟩;have t:=af (z.o.below b6);have O6:=af o6;clear CL z o6 b6 c0 c1 c2 c3 c4 c5 c6;cases ok with
     |false=>
      have HE:ah (R=(j,l)):=by show _=_;rw[S.o,<-r.o];rfl
      clear S r U O6;have N:=af (t.o.ret);obtain⟨i0,i1,i2,i3,i4,i5,i6⟩:=t.o.at_.cells;obtain⟨j0,j1,j2,j3,j4,j5,j6⟩:=t.o.zat.cells;have q0:=t.o.zat.fr 0;have q1:=t.o.zat.fr 1;have q2:=t.o.zat.fr 2;have q3:=t.o.zat.fr 3;have q4:=t.o.zat.fr 4;have q5:=t.o.zat.fr 5;have q6:=t.o.zat.fr 6;have M:=af (t.o.rat);unfold bF at N M;clear t;go_wp2;refine aE (pU (p:=4) (q:=5) rfl _ _ (w.heap.size+1) _ _ _ _ _ _ _ rfl M.o) rfl ?_;rw[HE.o];exact N.o
     |true=>
      have P:ah (j8 m (gn j L) (l++L)=j8 (min i.toNat 20) d []):=r;obtain⟨c0,c1,c2,c3,c4,c5,c6⟩:=t.o.at_.cells;have aV:=ab.o;have CA:=af (Jw _ sv j L w6 t.o.rd (by omega) (KT O6.o))
      unfold rZ at CA;have az:=af (U.o L rfl);obtain⟨D,aD⟩:=aq (gn j L);rw[aD]at CA az P;clear aD r U;go_wp2_with fail;refine CA.o.mono ?_;rintro e w7 ⟨v7,rfl,o7,f7,b7⟩;obtain⟨al,an,aw,ay,ax,ag,av,ai,e7⟩:=o7.form;have H:=af (t.o.below b7);have O7:=af (tU (bE O6.o b7) (H.o.at_) (Y al D.fH.length an) (Y aw ay ax) (Y ag av ai) D.fS.next D.seq D.tx D.base);have R7:=af (tU (bE t.o.row b7) (H.o.at_) (Y al D.fH.length an) (Y aw ay ax) (Y ag av ai) D.fS.next D.seq D.tx D.base);have ST:=af (λ(W3:iW) (u':iX) hr hg=>t.o.step (W3:=W3) (u':=u') (L:=L) b7 (am _) o7 f7 e7 hr hg)
      have ac:ah (w.heap.size<=(bF w7 g (Y al D.fH.length an) (Y aw ay ax) (Y ag av ai) D.fS.next D.seq D.tx D.base).heap.size):=by show _<=_;rw[Cb];exact H.o.bel.size
      subst e7;obtain⟨aZ,a0,a1,a2,a3,a4,a5⟩:=H.o.at_.cells;have q0:=H.o.at_.fr 0;have q1:=H.o.at_.fr 1;have q2:=H.o.at_.fr 2;have q3:=H.o.at_.fr 3;have q4:=H.o.at_.fr 4;have q5:=H.o.at_.fr 5;have q6:=H.o.at_.fr 6;unfold bF at O7 R7 ST ac;clear t H O6 CA o7 f7 b7 c0 c1 c2 c3 c4 c5 c6;go_wp2_with (at_builtin;refine Ew _ rfl _ _ rfl w.heap.size _ i0 I0.o I1.o I2.o I3.o _ l.length (cV l) rfl R7.o L _ rfl O7.o ?g1 ?g2 ac.o ?_)
      case g1=>unfold maxLen;omega
      case g2=>omega
      intro v8 w8 aa Q;have NS:=af (ST.o w8 v8 aa Q);have NL:(l++L).length<=(k+1)*1000:=by rw[aJ];omega
      generalize l++L=l3 at NS NL P;clear aa Q ST O7 R7 ac;go_wp2;go_roundw
      case rel=>exact⟨k+1,D,l3,_,_,_,_,_,rfl,by go_num,by omega,NL,az,(by show _=_;rw[HM.o];exact P.o),NS⟩
      case measure=>simp[intOf];omega
    ·have HE:ah (R=(j,l)):=by
      show _=_;rw[S.o,<-s.o,j8,aj (by rw[V.o];omega)]
     have aT:(12:Int)<=rm:=by omega
     clear S s V aG G HM aP hk hl;go_upto_region 11 with fail
     have N:=af (z.o.ret);obtain⟨i0,i1,i2,i3,i4,i5,i6⟩:=z.o.at_.cells;obtain⟨j0,j1,j2,j3,j4,j5,j6⟩:=z.o.zat.cells;have q0:=z.o.zat.fr 0;have q1:=z.o.zat.fr 1;have q2:=z.o.zat.fr 2;have q3:=z.o.zat.fr 3;have q4:=z.o.zat.fr 4;have q5:=z.o.zat.fr 5;have q6:=z.o.zat.fr 6;have M:=af (z.o.rat);unfold bF at N M;clear z;go_wp2;refine aE (pU (p:=4) (q:=5) rfl _ _ (w.heap.size+1) _ _ _ _ _ _ _ rfl M.o) rfl ?_;rw[HE.o];exact N.o
   ·have HE:ah (R=(j,l)):=by
     show _=_;rw[S.o,<-s.o,show min i.toNat 20-k=0 by omega]
     rfl
    clear S s;have N:=af (f.o.ret);obtain⟨i0,i1,i2,i3,i4,i5,i6⟩:=f.o.at_.cells;obtain⟨j0,j1,j2,j3,j4,j5,j6⟩:=f.o.zat.cells;have q0:=f.o.zat.fr 0;have q1:=f.o.zat.fr 1;have q2:=f.o.zat.fr 2;have q3:=f.o.zat.fr 3;have q4:=f.o.zat.fr 4;have q5:=f.o.zat.fr 5;have q6:=f.o.zat.fr 6;have M:=af (f.o.rat);unfold bF at N M;clear f;go_wp2;refine aE (pU (p:=4) (q:=5) rfl _ _ (w.heap.size+1) _ _ _ _ _ _ _ rfl M.o) rfl ?_;rw[HE.o];exact N.o
  ·have HE:ah (R=(j,l)):=by
    show _=_;rw[S.o,<-s.o,show min i.toNat 20-k=0 by omega]
    rfl
   clear S s;have N:=af (f.o.ret);obtain⟨i0,i1,i2,i3,i4,i5,i6⟩:=f.o.at_.cells;obtain⟨j0,j1,j2,j3,j4,j5,j6⟩:=f.o.zat.cells;have q0:=f.o.zat.fr 0;have q1:=f.o.zat.fr 1;have q2:=f.o.zat.fr 2;have q3:=f.o.zat.fr 3;have q4:=f.o.zat.fr 4;have q5:=f.o.zat.fr 5;have q6:=f.o.zat.fr 6;have M:=af (f.o.rat);unfold bF at N M;clear f;go_wp2;refine aE (pU (p:=4) (q:=5) rfl _ _ (w.heap.size+1) _ _ _ _ _ _ _ rfl M.o) rfl ?_;rw[HE.o];exact N.o
end Go.Proofs.YtgigcooffjjbgaaGreatDoor
namespace Go.Proofs.YtgigcooffjjbgaaGreatDoor.Pack
def mm(a:Nat):Nat->List UInt8->Option (List (Nat×Nat×List UInt8))
 |_,[]=>X []
 |0,_::_=>O
 |f+1,n::r=>
  if a<=n.toNat then(match r with
   |b::r'=>(mm a f r').map λl=>(b.toNat,n.toNat-128,[])::l
   | []=>O)
  else if n.toNat<=r.length then(mm a f (r.drop n.toNat)).map λl=>(0,0,r.take n.toNat)::l else O
theorem Tl(f:Nat)(r:List UInt8):mm 129 f r=pr f r:=by
 induction f generalizing r with
 |zero=>cases r<;>rfl
 |succ f a=>
  cases r with
  |nil=>rfl
  |cons n r=>
   unfold mm pr;by_cases h:128<n.toNat
   ·rw[ak h,ak (by omega)]
    cases r with
    |nil=>rfl
    |cons b r=>simp only[a]
   ·rw[aj h,aj (by omega),a]
theorem Hg(a f:Nat)(r:List UInt8)(h:r.length<=f):mm a f r=mm a r.length r:=by
 induction f using Nat.strongRecOn generalizing r with
 |ind f ih=>
  cases r with
  |nil=>cases f<;>rfl
  |cons n r=>
   rw[aV]at h;obtain⟨g,rfl⟩:∃g,f=g+1:=⟨f-1,by omega⟩
   rw[aV];unfold mm;by_cases c:a<=n.toNat
   ·rw[ak c,ak c];cases r with
    |nil=>rfl
    |cons b r=>
     rw[aV]at h;simp only;rw[ih g (by omega) r (by omega)]
     by_cases d:r.length+1<g+1
     ·rw[aV,ih (r.length+1) d r (by omega)]
     ·omega
   ·rw[aj c,aj c];have e:(r.drop n.toNat).length<=r.length:=by rw[ju];omega
    rw[ih g (by omega) (r.drop n.toNat) (by omega)]
    by_cases d:r.length<g+1
    ·rw[ih r.length d (r.drop n.toNat) e]
    ·omega
def RG(a:Nat)(r:List UInt8):Option (List (Nat×Nat×List UInt8)):=mm a r.length r
theorem WP(a:Nat):RG a []=X []:=rfl
theorem VG(a:Nat)(n b:UInt8)(r:List UInt8)(h:a<=n.toNat):RG a (n::b::r)=(RG a r).map λl=>(b.toNat,n.toNat-128,[])::l:=by
 unfold RG;rw[aV]
 conv=>lhs;unfold mm
 rw[ak h];simp only;rw[Hg a _ r (by simp)]
theorem Nl(a:Nat)(n:UInt8)(h:a<=n.toNat):RG a [n]=O:=by
 unfold RG;rw[aV]
 conv=>lhs;unfold mm
 rw[ak h]
theorem SB(a:Nat)(n:UInt8)(r:List UInt8)(h:¬a<=n.toNat)(b:n.toNat<=r.length):RG a (n::r)=(RG a (r.drop n.toNat)).map λl=>(0,0,r.take n.toNat)::l:=by
 unfold RG;rw[aV]
 conv=>lhs;unfold mm
 rw[aj h,ak b,Hg a _ (r.drop n.toNat) (by rw[ju];omega)]
theorem XC(a:Nat)(n:UInt8)(r:List UInt8)(h:¬a<=n.toNat)(b:¬n.toNat<=r.length):RG a (n::r)=O:=by
 unfold RG;rw[aV]
 conv=>lhs;unfold mm
 rw[aj h,aj b]
theorem MY(c:UInt8)(r:List UInt8):fF (c::r)=(if c=122 then(RG 129 r).bind plain else X r).bind λs=>if go s=X (c::r)then X s else O:=by
 unfold fF RG;simp only[Tl]
end Go.Proofs.YtgigcooffjjbgaaGreatDoor.Pack
namespace Go.Proofs.YtgigcooffjjbgaaGreatDoor
open Go.RowKit Pack
theorem Ki:(Tryz.prog.info? 150).map (λi=>(i.zero,i.size,i.bytes))=X (X (iA #[I J 0,I J 0,iT ⟨#[]⟩]),3,32):=by kernel_rfl
def uU(t:Nat×Nat×List UInt8):List iX:=[I J (t.1:Nat),I J (t.2.1:Nat),iT ⟨t.2.2.toArray⟩]
def ez(l:List (Nat×Nat×List UInt8)):List iX:=l.flatMap uU
theorem E8(l:List (Nat×Nat×List UInt8)):(ez l).length=l.length*3:=by
 induction l with
 |nil=>rfl
 |cons t l a=>simp[ez,uU]at a⊢;omega
theorem qX(l:List (Nat×Nat×List UInt8))(t:Nat×Nat×List UInt8):ez l++uU t=ez (l++[t]):=by simp[ez]
theorem EG(l:List (Nat×Nat×List UInt8))(k:Nat)(t:Nat×Nat×List UInt8)(h:l[k]?=X t):(ez l)[3*k]?=X (I J (t.1:Nat))/\(ez l)[3*k+1]?=X (I J (t.2.1:Nat))/\(ez l)[3*k+2]?=X (iT ⟨t.2.2.toArray⟩):=by
 induction l generalizing k with
 |nil=>simp at h
 |cons a l c=>
  cases k with
  |zero=>
   simp at h;subst h;exact⟨rfl,rfl,rfl⟩
  |succ k=>
   have:=c k (by simpa using h)
   have e:ez (a::l)=uU a++ez l:=by simp[ez]
   have b:(uU a).length=3:=rfl;rw[e,ct (by rw[b];omega),ct (by rw[b];omega),ct (by rw[b];omega),b,show 3*(k+1)-3=3*k by omega,show 3*(k+1)+1-3=3*k+1 by omega,show 3*(k+1)+2-3=3*k+2 by omega]
   exact this
theorem QN(l:List (Nat×Nat×List UInt8))(b z:Nat)(x y:List UInt8):(ez (l++[(b,z,x)])).set (3*l.length+2) (iT ⟨y.toArray⟩)=ez (l++[(b,z,y)]):=by
 rw[<-qX,<-qX,jm _ _ (by rw[E8];omega),E8,show 3*l.length+2-l.length*3=2 by omega]
 rfl
variable{t:ByteArray}{cap g n size B k z:Nat}{e:TypeId}
theorem Wy{w:iW}{base:Nat}{v:iX}{xs:List iX}(h:w.ownsRow base e size v n xs)(j:v=Y (X ⟨g,0,O⟩) n cap)(k:Nat)(u:iX):
 (w.setCell ⟨g,k,O⟩ u).ownsRow base e size v n (xs.set k u):=by
 obtain⟨h1,l⟩:=h;refine⟨by simpa using h1,?_⟩
 rcases l with⟨c,-⟩|⟨f,d,b,c,h4,i,m,o,p,q⟩
 ·rw[j]at c;cases c
 ·right;have r:f=g:=by rw[j]at c;injection c with a;simp at a;exact a.symm
  subst r;refine⟨f,d,b.setIfInBounds k u,c,h4,?_,m,o,by simpa using p,?_⟩
  ·rw[vE w f k b e (0,0) u i];exact tT w f b _ e _ i
  ·rw[yr,List.take_set,q]
def xS(t:Int×Int×ByteArray):List iX:=[I J t.1,I J t.2.1,iT t.2.2]
def mI(l:List (Int×Int×ByteArray)):List iX:=l.flatMap xS
def j7(t:Nat×Nat×List UInt8):Int×Int×ByteArray:=((t.1:Int),(t.2.1:Int),⟨t.2.2.toArray⟩)
theorem Ex(l:List (Nat×Nat×List UInt8)):ez l=mI (l.map j7):=by
 simp[ez,mI,List.flatMap_map,j7,xS];rfl
theorem NJ(l:List (Int×Int×ByteArray))(k:Nat)(t:Int×Int×ByteArray)(h:l[k]?=X t):(mI l)[k*3]?=X (I J t.1)/\(mI l)[k*3+1]?=X (I J t.2.1)/\(mI l)[k*3+2]?=X (iT t.2.2):=by
 induction l generalizing k with
 |nil=>simp at h
 |cons a l c=>
  cases k with
  |zero=>
   simp at h;subst h;exact⟨rfl,rfl,rfl⟩
  |succ k=>
   have:=c k (by simpa using h)
   have e:mI (a::l)=xS a++mI l:=by simp[mI]
   have b:(xS a).length=3:=rfl;rw[e,ct (by rw[b];omega),ct (by rw[b];omega),ct (by rw[b];omega),b,show(k+1)*3-3=k*3 by omega,show(k+1)*3+1-3=k*3+1 by omega,show(k+1)*3+2-3=k*3+2 by omega]
   exact this
theorem F9{w:iW}{l:List (Int×Int×ByteArray)}{t:Int×Int×ByteArray}(h:w.ownsRow B 150 3 (Y (X ⟨g,0,O⟩) n cap) n (mI l))(c:l[k]?=X t):
 w.cell? ⟨g,k*3,O⟩=X (I J t.1)/\w.cell? ⟨g,k*3+1,O⟩=X (I J t.2.1)/\w.cell? ⟨g,k*3+2,O⟩=X (iT t.2.2):=by
 obtain⟨h1,a,b⟩:=NJ l k t c;have c1:=h.cells (g:=g) rfl _ _ h1;have c2:=h.cells (g:=g) rfl _ _ a;have c3:=h.cells (g:=g) rfl _ _ b;rw[fw]at c1 c2 c3;exact⟨c1,c2,c3⟩
theorem rY{w:iW}{v:iX}{xs:List iX}(h:w.ownsRow B e z v n xs):
 ∃ad cap,v=Y ad n cap/\n<=cap/\cap<=maxLen/\(0<n->∃g,ad=X ⟨g,0,O⟩/\B<=g/\g<w.heap.size):=by
 have a:=h.lt;rcases h.2 with⟨h1,c⟩|⟨g,cap,b,h1,-,-,d,h4,-⟩
 ·exact⟨O,0,by rw[h1,c],by omega,by unfold maxLen;omega,λh=>by omega⟩
 ·subst h1;exact⟨_,cap,rfl,d,h4,λ_=>⟨g,rfl,a g rfl⟩⟩
def lX(a:Nat)(t:Int×Int×ByteArray):Prop:=(t.1=0/\1<=t.2.2.size/\t.2.2.size<=31/\t.2.1=0)∨(1<=t.1/\t.1<=a/\1<=t.2.1/\t.2.1<=31/\t.2.2.size=0)
abbrev Gv(a:Nat)(t:Int×Int×ByteArray):Decidable (lX a t):=by unfold lX;exact inferInstance
def mr(a:List UInt8)(t:Int×Int×ByteArray):List UInt8:=mp t.2.1.toNat t.1.toNat (a++t.2.2.data.toList)
def pz(a:List UInt8):List (Int×Int×ByteArray)->Option (List UInt8)
 | []=>X a
 |t::r=>letI:=Gv a.length t;if lX a.length t/\a.length+t.2.2.size+t.2.1.toNat<=64 then pz (mr a t) r else O
def oY(l:List (Int×Int×ByteArray)):Option (List UInt8):=pz [] l
theorem TV(a:List UInt8)(t:Int×Int×ByteArray):(mr a t).length=a.length+t.2.2.size+t.2.1.toNat:=by
 unfold mr;rw[aan,aJ];simp
theorem JT(a:Nat)(t:Nat×Nat×List UInt8):lX a (j7 t)↔jW a t:=by
 obtain⟨b,z,x⟩:=t;have c:(⟨x.toArray⟩:ByteArray).size=x.length:=by show x.toArray.size=_;simp
 unfold lX jW j7;simp only[c];have h0:x.length=0↔x=[]:=Ey;rw[<-h0];split<;>omega
theorem WI(a:List UInt8)(t:Nat×Nat×List UInt8)(h:jW a.length t):mr a (j7 t)=kY a t:=by
 obtain⟨b,z,x⟩:=t;unfold jW at h;unfold mr kY j7;simp only[bk]at*;split at h
 ·rename_i hb
  rw[ak hb,h.2.2];rfl
 ·rename_i hb
  rw[aj hb,h.2.2.2];simp
theorem VU(l:List (Nat×Nat×List UInt8))(a:List UInt8):pz a (l.map j7)=lC a l:=by
 induction l generalizing a with
 |nil=>rfl
 |cons t r f=>
  rw[cn,pz,lC];by_cases h:jW a.length t
  ·have e:=WI a t h;have d:=TV a (j7 t);rw[e]at d;rw[ak h,e,f];by_cases b:(kY a t).length<=64
   ·rw[ak ⟨(JT _ _).2 h,by omega⟩,ak b]
   ·rw[aj (λc=>b (by omega)),aj b]
  ·rw[aj (λc=>h ((JT _ _).1 c.1)),aj h]
def mx(r:Option (List UInt8)):iX:=match r with
 |some o=>iU #[iT ⟨o.toArray⟩,iB iV]
 |none=>iU #[iT ⟨#[]⟩,iB iF]
theorem Xf(a:List UInt8)(ls:List (Int×Int×ByteArray))(k:Nat)(t:Int×Int×ByteArray)(h:ls[k]?=X t):
 pz a (ls.drop k)=letI:=Gv a.length t;if lX a.length t/\a.length+t.2.2.size+t.2.1.toNat<=64 then pz (mr a t) (ls.drop (k+1))else O:=by
 obtain⟨h1,b⟩:=aB.1 h;rw[i8 h1,b];rfl
theorem Rf(n a:Nat)(o:List UInt8):mp (n+1) a o=mp n a (o++[o.getD (o.length-a) 0]):=rfl
theorem Sb(o:List UInt8)(j:Nat)(a:j<o.length):(fZ o)[j]?=X (I .u8 ((o.getD j 0).toNat:Int)):=by
 rw[yf o j a,nJ,ay a];rfl
def jI(w:iW)(g:Nat)(a b:Int)(t:ByteArray):Prop:=w.heap[g]?=X (iC #[I J a,I J b,iT t] 150 (0,0))
theorem jI.lt{w:iW}{a b:Int}(h:jI w g a b t):g<w.heap.size:=(aL.1 h).1
theorem jI.cells{w:iW}{g:Nat}{a b:Int}{t:ByteArray}(h:jI w g a b t):w.cell? ⟨g,0,O⟩=X (I J a)/\w.cell? ⟨g,1,O⟩=X (I J b)/\w.cell? ⟨g,2,O⟩=X (iT t):=by
 have h1:=ai w g 0 _ _ _ h;have c:=ai w g 1 _ _ _ h;have d:=ai w g 2 _ _ _ h;exact⟨h1,c,d⟩
theorem jI.grown{w w':iW}{a b:Int}{v:iX}{xs:List iX}(h:jI w g a b t)(j:w.ownsRow B 5 1 v n xs)(i:w.grownBy w' v.ownBlock):jI w' g a b t:=by
 refine(i.block g h.lt (λe=>?_)).trans h
 rcases j.2 with⟨rfl,-⟩|⟨f,cap,d,rfl,-,c,-⟩
 ·cases e
 ·have:g=f:=by simpa[Value.ownBlock]using e
  subst this;unfold jI at h;rw[h]at c;simp at c
theorem jI.below{w w':iW}{a b:Int}(h:jI w g a b t)(c:iL w.heap.size w w'):jI w' g a b t:=(c.block g h.lt).trans h
theorem jI.alloc{w:iW}{a b:Int}(h:jI w g a b t)(o:Obj):jI (w.alloc o) g a b t:=h.below ((az _ _).alloc (am _) o)
theorem L5(w:iW)(a b:Int)(t:ByteArray):jI (w.alloc (iC #[I J a,I J b,iT t] 150)) w.heap.size a b t:=aC w _
end Go.Proofs.YtgigcooffjjbgaaGreatDoor
namespace Go.Proofs.YtgigcooffjjbgaaGreatDoor.Pack
theorem xC(s:List UInt8)(k:Nat)(h:k<s.length):s.drop k=s.getD k 0::s.drop (k+1):=by
 rw[i8 h,nJ,ay h];rfl
theorem Qw(f:Nat)(s:List UInt8)(i j:Nat)(hi:i<s.length)(a:j<s.length)(h:s.getD i 0=s.getD j 0):dg (f+1) (s.drop i) (s.drop j)=dg f (s.drop (i+1)) (s.drop (j+1))+1:=by
 rw[xC s i hi,xC s j a];exact ak h
theorem QL(f:Nat)(s:List UInt8)(i j:Nat)(hi:i<s.length)(a:j<s.length)(h:s.getD i 0≠s.getD j 0):dg f (s.drop i) (s.drop j)=0:=by
 cases f with
 |zero=>rfl
 |succ f=>
  rw[xC s i hi,xC s j a];exact aj h
theorem Lc(f:Nat)(s a:List UInt8)(j:Nat)(b:s.length<=j):dg f a (s.drop j)=0:=by
 rw[me b];cases f with
 |zero=>rfl
 |succ f=>cases a<;>rfl
theorem Lz(s:List UInt8)(k m:Nat)(h:4<=dg 31 (s.drop (k-(m+1))) (s.drop k))(a:(cC s k m).1<dg 31 (s.drop (k-(m+1))) (s.drop k)):cC s k (m+1)=(dg 31 (s.drop (k-(m+1))) (s.drop k),m+1):=by
 unfold cC;rw[ak ⟨h,a⟩]
theorem Lb(s:List UInt8)(k m:Nat)(h:¬(4<=dg 31 (s.drop (k-(m+1))) (s.drop k)/\(cC s k m).1<dg 31 (s.drop (k-(m+1))) (s.drop k))):cC s k (m+1)=cC s k m:=by
 conv=>lhs;unfold cC
 rw[aj h]
theorem wT(s:List UInt8)(m k:Nat)(l:List (Nat×Nat×List UInt8))(h:dY m s=(k,l))(a:k<s.length):dY (m+1) s=stepT s (k,l):=by
 conv=>lhs;unfold dY
 rw[h,ak a]
theorem Ua(s:List UInt8)(m k a b:Nat)(l:List (Nat×Nat×List UInt8))(hs:s.length<=64)(h:dY m s=(k,l))(d:k<s.length)(c:cC s k k=(a,b))(h0:0<a):dY (m+1) s=(k+a,l++[(b,a,[])])/\k+a<=s.length:=by
 have e:dY (m+1) s=(k+a,l++[(b,a,[])]):=by
  rw[wT s m k l h d];unfold stepT;simp only[c];rw[ak h0]
 refine⟨e,?_⟩;have:=(JU s hs (m+1)).1.1;rw[e]at this;exact this
theorem Yn(s:List UInt8)(m k z:Nat)(l:List (Nat×Nat×List UInt8))(t:List UInt8)(h:dY m s=(k,l++[(0,z,t)]))(b:k<s.length)(a:(cC s k k).1=0)(c:t.length<31):dY (m+1) s=(k+1,l++[(0,z,t++[s.getD k 0])]):=by
 rw[wT s m k _ h b];unfold stepT;simp only[a];rw[aj (by omega)]
 simp[c]
theorem UN(s:List UInt8)(m k:Nat)(l:List (Nat×Nat×List UInt8))(h:dY m s=(k,l))(d:k<s.length)(c:(cC s k k).1=0)(e:∀a z t,l=a++[(0,z,t)]->¬t.length<31):dY (m+1) s=(k+1,l++[(0,0,[s.getD k 0])]):=by
 rw[wT s m k _ h d];unfold stepT;simp only[c];rw[aj (by omega)]
 split
 ·rename_i z t hlast
  obtain⟨a,b⟩:=zm.1 hlast;rw[aj (e a z t b)]
 ·rfl
theorem Fdd(s:List UInt8)(m d:Nat)(h:s.length<=(dY m s).1):dY (m+d) s=dY m s:=by
 induction d with
 |zero=>rfl
 |succ d a=>
  have e:dY (m+(d+1)) s=if (dY (m+d) s).1<s.length then stepT s (dY (m+d) s)else dY (m+d) s:=rfl
  rw[e,a,aj (by omega)]
theorem SU(s:List UInt8)(m:Nat)(l:List (Nat×Nat×List UInt8))(h:dY m s=(s.length,l))(a:m<=s.length):kS s=l:=by
 have:=Fdd s m (s.length-m) (by rw[h];exact am _)
 rw[show m+(s.length-m)=s.length by omega]at this
 unfold kS;rw[this,h]
end Go.Proofs.YtgigcooffjjbgaaGreatDoor.Pack
namespace Go.Proofs.YtgigcooffjjbgaaGreatDoor
open Go.RowKit Pack
theorem zS(s:ByteArray)(j:Nat)(a:Int)(b:a=j)(c:j<s.size)(W:iW):(Instr.index 9 (iT s) (I J a)).run Tryz.prog W=.ok (I .u8 (((s.data.toList.getD j 0).toNat:Nat):Int)) W:=by
 subst b;rw[run_index_string W 9 s J j Tryz.underlying9,dif_pos (by omega)]
 have:s.data.toList.getD j 0=s[j]:=by
  rw[nJ,ay (by simpa using c)]
  rfl
 rw[this];rfl
def Kg(w:iW)(e:Ending)(w':iW)(l:List (Nat×Nat×List UInt8)):Prop:=∃v:iX,e=G v/\w'.ownsRow w.heap.size 150 3 v l.length (ez l)/\iL w.heap.size w w'
theorem Je{w:iW}{base:Nat}{v:iX}{l:List (Nat×Nat×List UInt8)}(h:w.ownsRow base 150 3 v l.length (ez l))(h0:0<l.length):∃g cap,v=Y (X ⟨g,0,O⟩) l.length cap:=by
 rcases h.2 with⟨-,b⟩|⟨g,cap,a,rfl,-⟩
 ·omega
 ·exact⟨g,cap,rfl⟩
theorem uf(w:iW)(a b c:iX)(t:TypeId):∀(j:Nat) (u:iX),[a,b,c][j]?=X u->(w.alloc (iC #[a,b,c] t)).cell? ((⟨w.heap.size,0,O⟩:Addr).add j)=X u:=by
 intro j u d
 match j,d with
 |0,d=>simp at d;subst d;simp[Addr.add]
 |1,d=>simp at d;subst d;simp[Addr.add]
 |2,d=>simp at d;subst d;simp[Addr.add]
theorem uq(a b:Int)(u:ByteArray):∀v∈ [I J a,I J b,iT u],v.oneCell'=iV:=by
 intro v c;rcases aX.1 c with h|h
 ·subst h;rfl
 ·rcases aX.1 h with h|h
  ·subst h;rfl
  ·rcases aX.1 h with h|h
   ·subst h;rfl
   ·cases h
variable{B n g:Nat}{e:TypeId}
theorem uh {w wr b:iW} {v:iX} {xs:List iX} {o:Obj} (d:iL B w wr) (c:B<=wr.heap.size)
 (a:wr.ownsRow B e 3 v n xs) (f:(wr.alloc o).grownBy b v.ownBlock):iL B w b:=
 (d.alloc c _).grown f (by simp;omega) (λk g=>(a.lt k g).1)
def zt(w:iW)(g:Nat)(l:List UInt8):Prop:=
 g<w.heap.size/\∀j (a:j<l.length),w.cell? ⟨g,j,O⟩=X (I .u8 (l[j].toNat:Int))/\w.frozen? ⟨g,j,O⟩=iF
theorem Lm(w:iW)(s:ByteArray):∃(C:Nat) (w':iW),(convert 9 22 (iT s)).run Tryz.prog w=.ok (Y (X ⟨w.heap.size,0,O⟩) s.size C) w'/\iL w.heap.size w w'/\zt w' w.heap.size s.data.toList:=by
 have h:=run_bytes_of_string (P:=Tryz.prog) w 9 22 5 s Tryz.underlying9 Tryz.underlying22 Tryz.underlying5;generalize grownCap w s.size 0 5=C at h;refine⟨C,_,h,((az _ _).drew).alloc (am _) _,by simp,?_⟩
 intro j b;have a:j<s.data.size:=by simpa using b
 have c:j<s.size:=a;have e:=bytesRow_at s C j a;have f:j<(bytesRow s C).size:=by
  unfold bytesRow;rw[Array.size_append,Array.size_map];omega
 have d:w.drew.heap.size=w.heap.size:=rfl;constructor
 ·have:=World.cell?_alloc_mark w.drew (bytesRow s C) 5 ((bytesRow s C).size,(bytesRow s C).size+1) j;rw[d]at this;rw[this,e];simp
 ·have:=World.frozen?_alloc_mark w.drew (bytesRow s C) 5 (bytesRow s C).size ((bytesRow s C).size+1) j;rw[d]at this;rw[this];simp;omega
theorem Nz(l:List UInt8):∀v∈fZ l,v.oneCell'=iV:=by
 intro u a;obtain⟨x,-,rfl⟩:=bJ.1 a;rfl
theorem RF{w:iW}{l:List UInt8}(h:zt w g l):w.rangeAt g 0 (fZ l):=by
 intro j v a;have b:j<l.length:=by
  have:=(aB.1 a).1
  rwa [Pv]at this
 rw[yf l j b]at a;cases a;rw[eV];exact(h.2 j b).1
def BA(l:List UInt8):ByteArray:=⟨l.toArray⟩
theorem sz(l:List UInt8):(BA l).size=l.length:=by show l.toArray.size=_;simp
theorem sM(l:List UInt8):(BA l).data.toList=l:=rfl
theorem J6(l:List UInt8)(a b:Nat):(BA l).extract a b=BA ((l.drop a).take (b-a)):=by
 apply lO;apply uJ;rw[Cp];rfl
theorem Zi(l:List UInt8)(k:Nat)(x:Int)(a:x=k)(b:k<=l.length)(W:iW):(Instr.slice 9 (iT (BA l)) (X (I J x)) O O).run Tryz.prog W=.ok (iT (BA (l.drop k))) W:=by
 subst a;rw[run_slice_string_from_if W 9 (BA l) J _ Tryz.underlying9,ak (by rw[sz];omega),J6,sz]
 rw[bL (by rw[ju];simp)]
 rfl
theorem AE(l:List UInt8)(k:Nat)(c:UInt8)(x:Int)(d:x=k)(a:l[k]?=X c)(W:iW):(Instr.index 9 (iT (BA l)) (I J x)).run Tryz.prog W=.ok (I .u8 ((c.toNat:Nat):Int)) W:=by
 have b:=(aB.1 a).1;have:=zS (BA l) k x d (by rw[sz];exact b) W
 rw[sM,nJ,a]at this;exact this
theorem Uk(w:iW)(x y:iX)(t:TypeId):∀(j:Nat) (u:iX),[x,y][j]?=X u->(w.alloc (iC #[x,y] t)).cell? ((⟨w.heap.size,0,O⟩:Addr).add j)=X u:=by
 intro j u a
 match j,a with
 |0,a=>simp at a;subst a;simp[Addr.add]
 |1,a=>simp at a;subst a;simp[Addr.add]
theorem aaA(c:UInt8)(s:ByteArray):(⟨#[c]⟩++s:ByteArray)=⟨(c::s.data.toList).toArray⟩:=by
 apply lO;rw[rX];apply uJ;simp
theorem YC(s:List UInt8)(hs:s.length<=64):∀t∈kS s,Fit t:=Ke [] s (kS s) (by simp) (Ej s hs).1
theorem LG(s:List UInt8):(kS s).length<=s.length:=by
 have h1:∀m,(dY m s).2.length<=m:=by
  intro m
  induction m with
  |zero=>exact am _
  |succ m a=>
   by_cases b:(dY m s).1<s.length
   ·obtain⟨k,l,h⟩:∃k l,dY m s=(k,l):=⟨_,_,rfl⟩;rw[h]at a b;rw[wT s m k l h b];simp only at a b;have c:l.dropLast.length<=l.length:=by rw[List.length_dropLast];omega
    unfold Pack.stepT;simp only;split
    ·rw[aJ];exact wJ a (am 1)
    ·split
     ·split
      ·rw[aJ];exact wJ (bT c a) (am 1)
      ·rw[aJ];exact wJ a (am 1)
     ·rw[aJ];exact wJ a (am 1)
   ·rw[Fdd s m 1 (by omega)]
    omega
 exact h1 s.length
def VC(a:Nat)(w:iW)(r:List UInt8)(e:Ending)(w':iW):Prop:=
 ∃(v:iX) (l:List (Nat×Nat×List UInt8)) (ok:Bool),e=G (iU #[v,iB ok])/\l.length<=r.length/\w'.ownsRow w.heap.size 150 3 v l.length (ez l)/\(ok=iV->RG a r=X l)/\(ok=iF->RG a r=O)/\iL w.heap.size w w'
theorem Io(o:Option (List (Nat×Nat×List UInt8)))(l:List (Nat×Nat×List UInt8))(t:Nat×Nat×List UInt8):(o.map λx=>t::x).map (λx=>l++x)=o.map λx=>(l++[t])++x:=by
 cases o<;>simp
theorem wL(o:List UInt8):mx (X o)=iU #[iT (BA o),iB iV]:=rfl
theorem Dx:mx O=iU #[iT ⟨#[]⟩,iB iF]:=rfl
theorem ZI(a b:List UInt8)(h:a≠b):((BA a).toList==(BA b).toList)=iF:=by
 rw[m7,m7,sM,sM,du];exact h
end Go.Proofs.YtgigcooffjjbgaaGreatDoor
