/-
  SWrite; SDead; DvM8; SVic
-/
import Derived.Test.YtgigcooffjjbgaaGreatDoorPk14
import Derived.Test.YtgigcooffjjbgaaGreatDoorPk15
import Derived.Test.YtgigcooffjjbgaaGreatDoorPk13
open Go.Value renaming int→I,slice→Y,string→iT,bool→iB,tuple→iU
open Go.IntKind renaming i64→J
open Option renaming none→O,some→X
open Go.Ending renaming returned→G
open Go.Obj renaming cells→iC
open Bool renaming true→iV,false→iF
open Go renaming World→iW,Value→iX,Calls→iK
open Go.RowKit renaming Below→iL
set_option maxHeartbeats 4000000
set_option maxRecDepth 100000
namespace Go.Proofs.YtgigcooffjjbgaaGreatDoor
open Go.RowKit Words Sums
def ji(w:iW)(r:List aM×Bool)(e:Ending)(w':iW):Prop:=∃a,e=G (iU #[a,iB r.2])/\w'.ownsRow w.heap.size 254 4 a r.1.length (cV r.1)/\iL w.heap.size w w'
theorem nN{w W:iW}(b:iL w.heap.size w W)(n:Nat)(a:W.heap.size=n):(W.alloc (iC #[] 254)).ownsRow w.heap.size 254 4 (Y (X ⟨n,0,O⟩) 0 0) ([]:List aM).length (cV [])/\iL w.heap.size w (W.alloc (iC #[] 254)):=by
 subst a;exact⟨⟨rfl,.inr ⟨W.heap.size,0,#[],rfl,b.size,aC W _,am _,by unfold maxLen;omega,rfl,rfl⟩⟩,b.alloc b.size _⟩
def jP(w W:iW)(g:Nat)(v u:iX)(bs:List Bk)(l:List aM):Prop:=
 iL w.heap.size w W/\W.heap[g]?=X (iC #[v] 26 (0,0))/\jU g W v bs/\W.ownsRow w.heap.size 254 4 u l.length (cV l)/\de bs/\w.heap.size<=g
variable{live:List Int}{T:List UInt8 -> Prop}{g B B' n np pb pcap k:Nat}
variable{bs:List Bk}
theorem jP.below{w W b:iW}{v u:iX}{l:List aM}(h:jP w W g v u bs l)(a:iL W.heap.size W b):jP w b g v u bs l:=by
 obtain⟨h1,c,d,h4,e,f⟩:=h;exact⟨h1.trans (a.mono h1.size),(a.block _ (aL.1 c).1).trans c,d.keep a.size (λx _ i=>a.block x i),bE h4 a,e,f⟩
variable{bs':List Bk}
theorem jP.put{w W a:iW}{v u j u':iX}{l f:List aM}(h:jP w W g v u bs l)(o:be W a (λx=>u.ownBlock≠X x))(t:jU g a j bs')(s:a.ownsRow w.heap.size 254 4 u' f.length (cV f))(hs:de bs'):jP w (a.setCell ⟨g,0,O⟩ j) g j u' bs' f:=by
 obtain⟨h1,b,z,h4,A,m⟩:=h;have d:=iS h4;have n:a.heap[g]?=X (iC #[v] 26 (0,0)):=by
  refine(o.2.2.2.2 g (aL.1 b).1 (λe=>?_)).trans b
  rcases h4.2 with⟨rfl,-⟩|⟨x,c,q,rfl,-,k,-⟩
  ·cases e
  ·simp only[Value.ownBlock,fu]at e;subst e;rw[b]at k;simp at k
 have r:iL w.heap.size w a:=h1.trans (o.down h1.size (λi hi e=>by have:=(d i e).1;omega))
 exact⟨r.setCell (p:=⟨g,0,O⟩) m _,bw _ _ 0 _ _ _ n,t.keep (by simp[World.setCell]) (λx y _=>aS _ _ _ _ y),Fa s n,hs,m⟩
theorem Db(h:de bs)(l:List aM)(p:Pg):de (cJ bs l p).1:=by
 unfold cJ;split
 ·exact h.step _
 ·exact h
theorem sB(bs:List Bk)(l:List aM)(p:Pg):(cJ bs l p).2.1.length<=l.length+1:=by
 unfold cJ;split
 ·simp
 ·simp
theorem A9(s:List Bk×List aM×Bool)(Q:List Pg)(h:s.2.2=iF):eD s Q=s:=by
 cases Q with
 |nil=>rfl
 |cons p Q=>rw[eD,aj (by rw[h];decide)]
theorem Ga(seq tx:Int)(l:List Rc):(jV seq tx l).length<=9:=by
 unfold jV;split
 ·rename_i h
  rw[xf];exact h.2.1
 ·simp
theorem qQ{W:iW}{e s:Nat}{v:iX}{xs:List iX}(h:W.ownsRow B e s v n xs)(c:B'<=B):W.ownsRow B' e s v n xs:=by
 obtain⟨h0,h⟩:=h;refine⟨h0,?_⟩;rcases h with h|⟨g,cap,a,e,h1,b⟩
 ·exact .inl h
 ·exact .inr ⟨g,cap,a,e,by omega,b⟩
def mB(w W:iW)(pb np pcap:Nat)(Q:List Pg):Prop:=W.ownsRow w.heap.size 44 6 (Y (X ⟨pb,0,O⟩) np pcap) np (jE (Q.map Pg.tu))
variable{Q:List Pg}
theorem mB.kept{w W j:iW}{v u q:iX}{l:List aM}(h:mB w W pb np pcap Q)(n:jP w W g v u bs l)(p:be W j (λx=>u.ownBlock≠X x)):mB w (j.setCell ⟨g,0,O⟩ q) pb np pcap Q:=by
 obtain⟨h0,h⟩:=h;refine⟨h0,?_⟩;rcases h with⟨e,-⟩|⟨x,c,d,e,h1,a,o⟩
 ·cases e
 ·refine .inr ⟨x,c,d,e,h1,?_,o⟩;have i:=(aL.1 a).1;have f:x≠g:=λb=>by
   subst b;rw[n.2.1]at a;simp at a
  refine(aS _ _ _ _ f).trans ((p.2.2.2.2 x i (λb=>?_)).trans a)
  rcases n.2.2.2.1.2 with⟨rfl,-⟩|⟨y,c',k,rfl,-,m,-⟩
  ·cases b
  ·simp only[Value.ownBlock,fu]at b;subst b;rw[a]at m;simp at m
theorem mB.kept0{w W i:iW}{v u:iX}{l:List aM}(h:mB w W pb np pcap Q)(o:jP w W g v u bs l)(n:be W i (λx=>u.ownBlock≠X x)):mB w i pb np pcap Q:=by
 obtain⟨h0,h⟩:=h;refine⟨h0,?_⟩;rcases h with⟨e,-⟩|⟨x,c,a,e,h1,b,m⟩
 ·cases e
 ·refine .inr ⟨x,c,a,e,h1,?_,m⟩;have f:=(aL.1 b).1;refine(n.2.2.2.2 x f (λd=>?_)).trans b
  rcases o.2.2.2.1.2 with⟨rfl,-⟩|⟨y,c',j,rfl,-,k,-⟩
  ·cases d
  ·simp only[Value.ownBlock,fu]at d;subst d;rw[b]at k;simp at k
theorem jP.cell{w W:iW}{g:Nat}{v u:iX}{bs:List Bk}{l:List aM}(h:jP w W g v u bs l){a:iW}(j:be W a (λx=>u.ownBlock≠X x)):a.cell? ⟨g,0,O⟩=X v/\a.frozen? ⟨g,0,O⟩=iF:=by
 obtain⟨h1,b,k,h4,m,n⟩:=h;have f:a.heap[g]?=X (iC #[v] 26 (0,0)):=by
  refine(j.2.2.2.2 g (aL.1 b).1 (λe=>?_)).trans b
  rcases h4.2 with⟨rfl,-⟩|⟨x,c,i,rfl,-,d,-⟩
  ·cases e
  ·simp only[Value.ownBlock,fu]at e;subst e;rw[b]at d;simp at d
 exact⟨ai _ _ 0 _ _ _ f,aF _ _ 0 _ _ f⟩
variable{p:Pg}
theorem mB.at{w W:iW}(h:mB w W pb np pcap Q)(c:Q[k]?=X p):W.cell? ⟨pb,k*6,O⟩=X (I J p.kind)/\W.cell? ⟨pb,k*6+1,O⟩=X (I J p.seq)/\W.cell? ⟨pb,k*6+2,O⟩=X (I J p.tx)/\W.cell? ⟨pb,k*6+3,O⟩=X (I J p.part)/\W.cell? ⟨pb,k*6+4,O⟩=X (I J p.count)/\W.cell? ⟨pb,k*6+5,O⟩=X (iT p.text):=by
 have d:(Q.map Pg.tu)[k]?=X p.tu:=by rw[bi,c];rfl
 have a:=λ(j:Nat) (v:iX) (b:(mS p.tu)[j]?=X v)=>tP h (g:=pb) rfl (k*6+j) v (WH _ k _ d j v b)
 have e:∀j,(⟨pb,0,O⟩:Addr).add j=⟨pb,j,O⟩:=fw pb;refine⟨?_,?_,?_,?_,?_,?_⟩
 ·have:=a 0 _ rfl;rw[e]at this;exact this
 ·have:=a 1 _ rfl;rw[e]at this;exact this
 ·have:=a 2 _ rfl;rw[e]at this;exact this
 ·have:=a 3 _ rfl;rw[e]at this;exact this
 ·have:=a 4 _ rfl;rw[e]at this;exact this
 ·have:=a 5 _ rfl;rw[e]at this;exact this
theorem Hf(x:iX)(d:Dv)(ra:Option Addr)(n rc:Nat)(l:List Rc)(t:ByteArray)(w:iW)(h:eP w x d)(hn:n<=33554432)(hr:kC w ra n (l.map Rc.tu)):iK Tryz.prog 105 #[x,Y ra n rc,iT t] w (ji w (dZ d l t)):=by
 obtain⟨g,f,C,D,vc,ad,B,cap,rfl,h1,h2,h3⟩:=h.form;have an:l.length=n:=by have:=hr.1;simpa using this
 have ae:=af an;have s0:(w.alloc (iC #[Y g d.fH.length f,Y C D vc,Y ad B cap,I J d.fS.next,I J d.seq,I J d.tx,I J d.base] 34)).heap.size=w.heap.size+1:=by simp
 have s1:((w.alloc (iC #[Y g d.fH.length f,Y C D vc,Y ad B cap,I J d.fS.next,I J d.seq,I J d.tx,I J d.base] 34)).alloc (iC #[] 254)).heap.size=w.heap.size+1+1:=by simp
 have b0:=aR w (iC #[Y g d.fH.length f,Y C D vc,Y ad B cap,I J d.fS.next,I J d.seq,I J d.tx,I J d.base] 34);have n1:=nN b0 (w.heap.size+1) s0;have g0:aU ((w.alloc (iC #[Y g d.fH.length f,Y C D vc,Y ad B cap,I J d.fS.next,I J d.seq,I J d.tx,I J d.base] 34)).alloc (iC #[] 254)) w.heap.size (Y g d.fH.length f) (Y C D vc) (Y ad B cap) d.fS.next d.seq d.tx d.base:=(iZ _ _ (by simp)).trans (aC w _)
 have HW:ah (dZ d l t=if l.length=0 then([],iV)else if (eD (jr d l t) (jV (eK d t) d.tx l)).2.2&& @decide (iY (eK d t) d.tx l) (mO (eK d t) d.tx l)then((eD (jr d l t) (jV (eK d t) d.tx l)).2.1,iV)else([],iF)):=rfl
 obtain⟨R,hR⟩:=aq (dZ d l t);rw[hR]at HW⊢;clear hR;by_cases hz:n=0
 ·have HE:ah (R=([],iV)):=by show _=_;rw[HW.o,ak (by omega)]
  have FN:ah (ji w ([],iV) (G (iU #[Y (X ⟨w.heap.size+1,0,O⟩) 0 0,iB iV])) ((w.alloc (iC #[Y g d.fH.length f,Y C D vc,Y ad B cap,I J d.fS.next,I J d.seq,I J d.tx,I J d.base] 34)).alloc (iC #[] 254))):=⟨_,rfl,n1.1,n1.2⟩;have aW:((n:Int)==0)=iV:=by simp[hz]
  clear HW b0 n1 g0 h h1 h2 h3 hr s0 s1 an hz;go_enter Tryz.func105,Tryz.ntmps105;go_wp2;refine aE (cH rfl _ _ _) rfl ?_;rw[HE.o];exact FN.o
 have aW:((n:Int)==0)=iF:=by rw[du];omega
 rw[aj (by rw[ae.o];exact hz)]at HW
 have b2:iL w.heap.size w (((w.alloc (iC #[Y g d.fH.length f,Y C D vc,Y ad B cap,I J d.fS.next,I J d.seq,I J d.tx,I J d.base] 34)).alloc (iC #[] 254)).alloc (iC #[Y g d.fH.length f] 26)):=n1.2.alloc n1.2.size _;have al:iL ((w.alloc (iC #[Y g d.fH.length f,Y C D vc,Y ad B cap,I J d.fS.next,I J d.seq,I J d.tx,I J d.base] 34)).alloc (iC #[] 254)).heap.size ((w.alloc (iC #[Y g d.fH.length f,Y C D vc,Y ad B cap,I J d.fS.next,I J d.seq,I J d.tx,I J d.base] 34)).alloc (iC #[] 254)) (((w.alloc (iC #[Y g d.fH.length f,Y C D vc,Y ad B cap,I J d.fS.next,I J d.seq,I J d.tx,I J d.base] 34)).alloc (iC #[] 254)).alloc (iC #[Y g d.fH.length f] 26)):=bh;have g2:(((w.alloc (iC #[Y g d.fH.length f,Y C D vc,Y ad B cap,I J d.fS.next,I J d.seq,I J d.tx,I J d.base] 34)).alloc (iC #[] 254)).alloc (iC #[Y g d.fH.length f] 26)).heap[((w.alloc (iC #[Y g d.fH.length f,Y C D vc,Y ad B cap,I J d.fS.next,I J d.seq,I J d.tx,I J d.base] 34)).alloc (iC #[] 254)).heap.size]?=X (iC #[Y g d.fH.length f] 26 (0,0)):=aC _ _;have W2:ah (jP w (((w.alloc (iC #[Y g d.fH.length f,Y C D vc,Y ad B cap,I J d.fS.next,I J d.seq,I J d.tx,I J d.base] 34)).alloc (iC #[] 254)).alloc (iC #[Y g d.fH.length f] 26)) ((w.alloc (iC #[Y g d.fH.length f,Y C D vc,Y ad B cap,I J d.fS.next,I J d.seq,I J d.tx,I J d.base] 34)).alloc (iC #[] 254)).heap.size (Y g d.fH.length f) (Y (X ⟨w.heap.size+1,0,O⟩) 0 0) d.fH []):=
  ⟨b2,g2,jU.of_rdb h1 b2 (by omega),bE n1.1 al,h2,by omega⟩
 have G2:=af (g0.below al);have y0:=g0.cells.1;have aD:=af hr;have av:=s1;clear b0 n1 g0 b2 al g2 s0 s1 h h1 h2 h3 hr an;generalize a1:(w.alloc (iC #[Y g d.fH.length f,Y C D vc,Y ad B cap,I J d.fS.next,I J d.seq,I J d.tx,I J d.base] 34)).alloc (iC #[] 254)=E at y0 W2 G2 av;generalize a2:E.alloc (iC #[Y g d.fH.length f] 26)=w2 at W2 G2;obtain⟨-,-,-,-,y4,y5,-⟩:=G2.o.cells;have aF:=af av;clear av;go_enter Tryz.func105,Tryz.ntmps105;go_upto_if 25 with fail
 clear a1 a2 y0;obtain⟨te,ac⟩:=aq t.toList.isEmpty;rw[ac];rw[GP]at ac;go_cut [8,10,11] (λs8 a5 a6 V=>∃(u8 v8:iX) (a:List Bk) (v:List aM) (b:Bool) (sq:Int),s8=u8/\a5=I J sq/\a6=iB b/\v.length<=1/\ah (jr d l t=(a,v,b))/\ah (sq=eK d t∨b=iF)/\ah (jP w V E.heap.size v8 u8 a v)/\ah (aU V w.heap.size (Y g d.fH.length f) (Y C D vc) (Y ad B cap) d.fS.next d.seq d.tx d.base))
 case first=>
  cases te with
  |true=>
   have ht:t.size=0:=sF ac;have HQ:ah (jr d l t=(d.fH,[],iV)):=by show _=_;unfold jr;rw[ak ht]
   have u:ah (d.seq=eK d t∨iV=iF):=.inl (by unfold eK;rw[ak ht])
   have P:([]:List aM).length<=1:=aK _;go_wp2_with fail;go_meet
   case rel=>exact⟨_,_,d.fH,[],iV,d.seq,rfl,rfl,rfl,aK _,HQ,u,W2,G2⟩
  |false=>
   have ht:¬t.size=0:=of_decide_eq_false ac;obtain⟨m,hm⟩:∃m,n=m+1:=⟨n-1,by omega⟩
   obtain⟨r,au⟩:∃r,l[m]?=X r:=⟨_,ay (by have:=ae.o;omega)⟩
   obtain⟨N,am⟩:=aq r.fC;have aN:oP l=N:=by
    unfold oP;rw[List.getLast?_eq_getElem?,show l.length-1=m by have:=ae.o;omega,au,<-am]
    rfl
   obtain⟨rb,ro,aY,ar,aP⟩:=aD.o.2.2.2 (by omega)
   have SW:w.cell? ⟨rb,ro+m*4+3,O⟩=X (I J N):=by
    have:=(aP m r.tu (by rw[bi,au];rfl)).2.2.2
    rw[<-am];exact this
   have SD:w2.drew.cell? ⟨rb,ro+m*4+3,O⟩=X (I J N):=(W2.o.1.cell ar).trans SW;subst aY;have a3:IntKind.i64.wrap ((n:Int)-1)=(m:Int):=by rw[cm];omega
   have ba:(0:Int)<=m:=by omega
   have bb:(m:Int)<n:=by omega
   have b7:iL w2.heap.size w2 w2.drew:=(az _ _).drew;have c:=af (W2.o.below b7);have G7:=af (G2.o.below b7);have y9:w2.drew.cell? ⟨E.heap.size,0,O⟩=X (Y g d.fH.length f):=ai _ _ 0 _ _ _ c.o.2.1;have U:=af (AQ (Y g d.fH.length f) (Y (X ⟨w.heap.size+1,0,O⟩) 0 0) d.fH [] (kG d.seq N t) w.heap.size E.heap.size w2.drew c.o.2.2.2.2.1 (by simp) c.o.2.2.1 c.o.2.2.2.1 c.o.1.size (aL.1 c.o.2.1).1)
   have H:=af (Db c.o.2.2.2.2.1 [] (kG d.seq N t));have P:=sB d.fH [] (kG d.seq N t);have HQ:ah (jr d l t=cJ d.fH [] (kG d.seq N t)):=by show _=_;unfold jr;rw[aj ht,aN]
   have u:ah (IntKind.i64.wrap (d.seq+1)=eK d t∨(cJ d.fH [] (kG d.seq N t)).2.2=iF):=by
    by_cases hr:(kG d.seq N t).Right
    ·left;have h1:1<=d.seq:=hr.2.1;have h2:d.seq<=1000000000:=hr.2.2.1;unfold eK;rw[aj ht,cm];omega
    ·right;unfold cJ;rw[aj (by unfold lw;rw[aj hr];simp)]
   obtain⟨a,v,b,h8⟩:∃a v b,cJ d.fH [] (kG d.seq N t)=(a,v,b):=⟨_,_,_,rfl⟩;rw[h8]at U H HQ u P;simp only at H u P;unfold dC kG at U;simp only at U;have aT:w.heap.size<w2.drew.heap.size:=G7.o.lt;have HM:=af hm;clear h8 b7 aP aN am au ht SW W2 G2 hm;go_upto_region 8 with fail
   refine q8 (λw'=>w'.cell? ⟨rb,ro+m*4+3,O⟩=X (I J N)) (by kernel_rfl) SD (λhHeld=>?_)
   simp only[aV,dU,Nat.reduceAdd];refine aH 1 ?_;refine aH 2 ?_;refine aH 3 ?_;refine aH 4 ?_;refine aH 5 ?_;refine aH 6 ?_;refine aH 7 ?_;refine aH 8 ?_;refine aH 9 ?_;refine aH 10 ?_;refine aH 11 ?_;refine dG 0 rfl (by kernel_rfl) (λK A=>?_)
   go_simp;refine A.out _ _ SD (λhHeld2=>?_)
   clear A K hHeld;have hHeld:=hHeld2;clear hHeld2
   (try simp only[Act.put,cN,cu,bZ])
   refine dG 12 rfl (by kernel_rfl) (λK A=>?_)
   go_simp;refine U.o.mono ?_;rintro e F ⟨v8,u8,rfl,r8,o8,k8⟩;obtain⟨s,q,rfl⟩:=r8.rdb.form;have W8:=af (c.o.put k8 r8 o8 H.o);have L:=c.o.cell k8;have z0:=L.1;have z1:=L.2;have SE:F.cell? ⟨rb,ro+m*4+3,O⟩=X (I J N):=((k8.down c.o.1.size (λi hi e=>by simp[Value.ownBlock]at e;omega)).cell ar).trans SD
   have SF:(F.setCell ⟨E.heap.size,0,O⟩ (Y s a.length q)).cell? ⟨rb,ro+m*4+3,O⟩=X (I J N):=(iQ _ _ _ _ (λe=>by have h5:=congrArg Addr.block e;have h6:=aF.o;have h7:=c.o.2.2.2.2.2;simp only at h5;have h8:rb<w.heap.size:=ar;omega)).trans SE
   have G8:ah (aU (F.setCell ⟨E.heap.size,0,O⟩ (Y s a.length q)) w.heap.size (Y g d.fH.length f) (Y C D vc) (Y ad B cap) d.fS.next d.seq d.tx d.base):=(aS _ _ _ _ (show w.heap.size≠E.heap.size by have:=aF.o;omega)).trans ((k8.2.2.2.2 w.heap.size aT (λe=>by simp[Value.ownBlock]at e)).trans G7.o)
   clear L r8 o8 k8 U c G7;refine A.out _ _ SE (λhHeld2=>?_)
   clear A K hHeld;have hHeld:=hHeld2;clear hHeld2;refine aH 13 ?_;refine aH 14 ?_;refine aH 15 ?_;refine aH 16 ?_;refine dG 17 rfl (by kernel_rfl) (λK A=>?_)
   go_simp;refine A.out _ _ SF (λhHeld2=>?_)
   clear A K hHeld;have hHeld:=hHeld2;clear hHeld2
   (try simp only[Act.put,cN,cu,bZ])
   refine aH 18 ?_;refine aH 19 ?_;refine oG (by kernel_rfl) ?_
   clear hHeld SD SE SF z0 z1 y9 y4 y5 a3;obtain⟨sq,aZ⟩:=aq (IntKind.i64.wrap (d.seq+1));rw[aZ]at u;go_wp2_with fail;go_meet
   case rel=>exact⟨_,_,a,v,b,sq,rfl,rfl,rfl,P,HQ,u,W8,G8⟩
 case rest=>
  obtain⟨w9,hV⟩:∃w9,w9=wc:=⟨_,rfl⟩;subst hV;clear W2 G2 y4 y5;obtain⟨u8,v8,a,v,b,sq,rfl,rfl,rfl,P,HQ,u,W8,G8⟩:=hcut;obtain⟨-,-,-,-,y4,y5,-⟩:=G8.o.cells;go_upto_region 10 with fail
  have CT:=af (Ta sq d.tx _ n rc l w9 hn (aD.o.below W8.o.1));obtain⟨Q,hQ⟩:=aq (jV sq d.tx l);have aO:Q.length<=9:=by rw[<-hQ];exact Ga _ _ _
  obtain⟨np,ao⟩:=aq Q.length;obtain⟨aQ,aa⟩:=aq (@decide (iY sq d.tx l) (mO sq d.tx l));rw[hQ,aa]at CT;have z:ah (R=if (eD (a,v,b) Q).2.2&&aQ then((eD (a,v,b) Q).2.1,iV)else([],iF)):=by
   show _=_;rw[HW.o,HQ.o];rcases u.o with e|e
   ·rw[<-e,hQ,aa]
   ·rw[A9 _ _ (by exact e),A9 _ _ (by exact e)]
    show(if (b&&_)=iV then _ else _)=(if (b&&_)=iV then _ else _)
    rw[e];rfl
  rw[ao]at aO;have ag:=af ao;clear HW HQ u hQ aa ao;go_wp2_with fail;refine CT.o.mono ?_;rintro e w5 ⟨pv,rfl,po,b5⟩;have W5:=af (W8.o.below b5);obtain⟨pa,pcap,rfl,-,-,ap⟩:=lS po;rw[ag.o]at po ap⊢;have aX:0<np->∃pb,pa=X ⟨pb,0,O⟩:=λhp=>by
   obtain⟨pb,e,-⟩:=ap hp;exact⟨pb,e⟩
  have aG:ah (∀pb,pa=X ⟨pb,0,O⟩->mB w w5 pb np pcap Q):=λpb e=>by subst e;exact qQ po W8.o.1.size
  clear ap po b5 CT W8 G8 y4 y5;go_wp2;go_loopw [8,11,14] (λuv a4 iv wr=>∃(k:Nat) (u6 v6:iX) (j:List Bk) (S:List aM) (T:Bool),u6=uv/\a4=iB T/\iv=I J k/\k<=np/\S.length<=k+1/\ah (jP w wr E.heap.size v6 u6 j S)/\ah (∀pb,pa=X ⟨pb,0,O⟩->mB w wr pb np pcap Q)/\ah (eD (a,v,b) Q=eD (j,S,T) (Q.drop k))) (λ_ _ iv _=>np-(intOf iv).toNat)
  case atStart=>exact⟨0,_,_,_,_,_,rfl,rfl,rfl,aK _,P,W5,aG,rfl⟩
  case round=>
   rename iW=>wr
   obtain⟨k,u6,v6,j,S,T,a0,rfl,rfl,hk,a8,Z,M,y⟩:=hrel;subst a0;clear W5 aG;have a7:(0:Int)<=k:=by omega
   by_cases a9:(k:Int)<np
   ·cases T with
    |true=>
     obtain⟨pb,rfl⟩:=aX (by omega)
     obtain⟨p,hp⟩:∃p,Q[k]?=X p:=⟨_,ay (by have:=ag.o;omega)⟩
     have HD:ah (Q.drop k=p::Q.drop (k+1)):=i8 (aB.1 hp).1|>.trans (by rw[(aB.1 hp).2])
     have HP:=af hp;obtain⟨p0,p1,p2,p3,p4,p5⟩:=p;have b7:iL wr.heap.size wr wr.drew:=(az _ _).drew;have c:=af (Z.o.below b7);have ab:ah (mB w wr.drew pb np pcap Q):=bE (M.o pb rfl) b7;have SD:wr.drew.cell? ⟨pb,k*6,O⟩=X (I J p0)/\wr.drew.cell? ⟨pb,k*6+1,O⟩=X (I J p1)/\wr.drew.cell? ⟨pb,k*6+2,O⟩=X (I J p2)/\wr.drew.cell? ⟨pb,k*6+3,O⟩=X (I J p3)/\wr.drew.cell? ⟨pb,k*6+4,O⟩=X (I J p4)/\wr.drew.cell? ⟨pb,k*6+5,O⟩=X (iT p5):=ab.o.at hp;obtain⟨vd,vc,rfl⟩:=c.o.2.2.1.rdb.form;have y9:wr.drew.cell? ⟨E.heap.size,0,O⟩=X (Y vd j.length vc):=ai _ _ 0 _ _ _ c.o.2.1;have U:=af (AQ (Y vd j.length vc) u6 j S ⟨p0,p1,p2,p3,p4,p5⟩ w.heap.size E.heap.size wr.drew c.o.2.2.2.2.1 (by omega) c.o.2.2.1 c.o.2.2.2.1 c.o.1.size (aL.1 c.o.2.1).1)
     have H:=af (Db c.o.2.2.2.2.1 S ⟨p0,p1,p2,p3,p4,p5⟩);have ax:=sB j S ⟨p0,p1,p2,p3,p4,p5⟩;have aA:ah (eD (a,v,b) Q=eD (cJ j S ⟨p0,p1,p2,p3,p4,p5⟩) (Q.drop (k+1))):=by show _=_;rw[y.o,HD.o,eD,ak rfl]
     obtain⟨a,v,b,h8⟩:∃a v b,cJ j S ⟨p0,p1,p2,p3,p4,p5⟩=(a,v,b):=⟨_,_,_,rfl⟩;rw[h8]at U H aA ax;simp only at H ax;unfold dC at U;simp only at U;clear h8 hp b7 M y HD Z;go_upto_region 14 with fail
     refine q8 (λw'=>w'.cell? ⟨pb,k*6,O⟩=X (I J p0)/\w'.cell? ⟨pb,k*6+1,O⟩=X (I J p1)/\w'.cell? ⟨pb,k*6+2,O⟩=X (I J p2)/\w'.cell? ⟨pb,k*6+3,O⟩=X (I J p3)/\w'.cell? ⟨pb,k*6+4,O⟩=X (I J p4)/\w'.cell? ⟨pb,k*6+5,O⟩=X (iT p5)) (by kernel_rfl) SD (λhHeld=>?_)
     simp only[aV,dU,Nat.reduceAdd];refine aH 1 ?_;refine aH 2 ?_;refine aH 3 ?_;refine aH 4 ?_;refine aH 5 ?_;refine dG 0 rfl (by kernel_rfl) (λK A=>?_)
     go_simp;refine A.out _ _ SD (λhHeld2=>?_)
     clear A K hHeld;have hHeld:=hHeld2;clear hHeld2
     (try simp only[Act.put,cN,cu,bZ])
     refine dG 6 rfl (by kernel_rfl) (λK A=>?_)
     go_simp;refine U.o.mono ?_;rintro e F ⟨v8,u8,rfl,r8,o8,k8⟩;obtain⟨s,q,rfl⟩:=r8.rdb.form;have W8:=af (c.o.put k8 r8 o8 H.o);have aI:=af (ab.o.kept0 c.o k8);have aJ:ah (∀aw,X (⟨pb,0,O⟩:Addr)=X ⟨aw,0,O⟩->mB w (F.setCell ⟨E.heap.size,0,O⟩ (Y s a.length q)) aw np pcap Q):=λaw e=>by
      injection e with e
      injection e with e
      subst e;exact ab.o.kept c.o k8
     have SE:F.cell? ⟨pb,k*6,O⟩=X (I J p0)/\F.cell? ⟨pb,k*6+1,O⟩=X (I J p1)/\F.cell? ⟨pb,k*6+2,O⟩=X (I J p2)/\F.cell? ⟨pb,k*6+3,O⟩=X (I J p3)/\F.cell? ⟨pb,k*6+4,O⟩=X (I J p4)/\F.cell? ⟨pb,k*6+5,O⟩=X (iT p5):=aI.o.at HP.o;have SF:(F.setCell ⟨E.heap.size,0,O⟩ (Y s a.length q)).cell? ⟨pb,k*6,O⟩=X (I J p0)/\(F.setCell ⟨E.heap.size,0,O⟩ (Y s a.length q)).cell? ⟨pb,k*6+1,O⟩=X (I J p1)/\(F.setCell ⟨E.heap.size,0,O⟩ (Y s a.length q)).cell? ⟨pb,k*6+2,O⟩=X (I J p2)/\(F.setCell ⟨E.heap.size,0,O⟩ (Y s a.length q)).cell? ⟨pb,k*6+3,O⟩=X (I J p3)/\(F.setCell ⟨E.heap.size,0,O⟩ (Y s a.length q)).cell? ⟨pb,k*6+4,O⟩=X (I J p4)/\(F.setCell ⟨E.heap.size,0,O⟩ (Y s a.length q)).cell? ⟨pb,k*6+5,O⟩=X (iT p5):=(aJ.o pb rfl).at HP.o;have L:=c.o.cell k8;have z0:=L.1;have z1:=L.2;clear L r8 o8 k8 U c ab aI;refine A.out _ _ SE (λhHeld2=>?_)
     clear A K hHeld;have hHeld:=hHeld2;clear hHeld2;refine aH 7 ?_;refine aH 8 ?_;refine aH 9 ?_;refine aH 10 ?_;refine dG 11 rfl (by kernel_rfl) (λK A=>?_)
     go_simp;refine A.out _ _ SF (λhHeld2=>?_)
     clear A K hHeld;have hHeld:=hHeld2;clear hHeld2
     (try simp only[Act.put,cN,cu,bZ])
     refine aH 12 ?_;refine aH 13 ?_;refine oG (by kernel_rfl) ?_
     clear hHeld SD SE SF z0 z1 y9 HP;go_wp2;go_roundw
     case rel=>exact⟨k+1,u8,_,a,v,b,rfl,rfl,by go_num,by omega,by omega,W8,aJ,aA⟩
     case measure=>simp[intOf];omega
    |false=>
     have HF:ah (eD (a,v,b) Q=(j,S,iF)):=by show _=_;rw[y.o];exact A9 _ _ rfl
     have HE:ah (R=([],iF)):=by show _=_;rw[z.o,HF.o];rfl
     have W:=nN Z.o.1 wr.heap.size rfl;have FN:ah (ji w ([],iF) (G (iU #[Y (X ⟨wr.heap.size,0,O⟩) 0 0,iB iF])) (wr.alloc (iC #[] 254))):=⟨_,rfl,W.1,W.2⟩;clear z HF W Z M y;go_wp2;refine aE (cH rfl _ _ _) rfl ?_;rw[HE.o];exact FN.o
   ·have HF:ah (eD (a,v,b) Q=(j,S,T)):=by show _=_;rw[y.o,List.drop_of_length_le (by have:=ag.o;omega)];rfl
    cases T with
    |false=>
     have HE:ah (R=([],iF)):=by show _=_;rw[z.o,HF.o];rfl
     have W:=nN Z.o.1 wr.heap.size rfl;have FN:ah (ji w ([],iF) (G (iU #[Y (X ⟨wr.heap.size,0,O⟩) 0 0,iB iF])) (wr.alloc (iC #[] 254))):=⟨_,rfl,W.1,W.2⟩;clear z HF W Z M y;go_wp2;refine aE (cH rfl _ _ _) rfl ?_;rw[HE.o];exact FN.o
    |true=>
     cases aQ with
     |false=>
      have HE:ah (R=([],iF)):=by show _=_;rw[z.o,HF.o];rfl
      have W:=nN Z.o.1 wr.heap.size rfl;have FN:ah (ji w ([],iF) (G (iU #[Y (X ⟨wr.heap.size,0,O⟩) 0 0,iB iF])) (wr.alloc (iC #[] 254))):=⟨_,rfl,W.1,W.2⟩;clear z HF W Z M y;go_wp2;refine aE (cH rfl _ _ _) rfl ?_;rw[HE.o];exact FN.o
     |true=>
      have HE:ah (R=(S,iV)):=by show _=_;rw[z.o,HF.o];rfl
      have FN:ah (ji w (S,iV) (G (iU #[u6,iB iV])) wr):=⟨_,rfl,Z.o.2.2.2.1,Z.o.1⟩;clear z HF Z M y;go_wp2;refine aE (cH rfl _ _ _) rfl ?_;rw[HE.o];exact FN.o
def uG(d:Dv)(b:Nat):Option Int:=match d.fH[b]? with
 |none=>O
 |some x=>if !x.1&& !pT x&&decide (iq (au d.fH) (aI d.fS) d.base (b:Int)=0)then X (b:Int)else O
def oR(d:Dv)(k:Nat):List Int:=(List.range k).filterMap (uG d)
theorem wQ(d:Dv)(k:Nat):oR d (k+1)=oR d k++(uG d k).toList:=by
 unfold oR;rw[oe,nD];congr 1
def ou(w W:iW)(u:iX)(l:List Int):Prop:=iL w.heap.size w W/\W.ownsRow w.heap.size 3 1 u l.length (ax l)
theorem ou.below{w W a:iW}{u:iX}{l:List Int}(h:ou w W u l)(b:iL W.heap.size W a):ou w a u l:=⟨h.1.trans (b.mono h.1.size),bE h.2 b⟩
theorem ou.snoc{w W a:iW}{u c:iX}{l:List Int}{x:Int}{t:TypeId}(h:ou w W u l)(f:a.ownsRow w.heap.size 3 1 c (l.length+1) (ax l++[I J x]))(d:(W.alloc (iC #[I J x] t)).grownBy a u.ownBlock):ou w a c (l++[x]):=by
 have b:=h.below ((az _ _).alloc (am _) (iC #[I J x] t));refine⟨b.1.grown d b.1.size (λk e=>(h.2.lt k e).1),?_⟩
 rw[aJ,<-qB];exact f
theorem ou.fresh(w:iW):ou w (w.alloc (iC #[] 3)) (Y (X ⟨w.heap.size,0,O⟩) 0 0) []:=
 ⟨bh,rfl,.inr ⟨w.heap.size,0,#[],rfl,am _,aC w _,am _,by unfold maxLen;omega,rfl,rfl⟩⟩
theorem aah(x:iX)(d:Dv)(w:iW)(h:eP w x d):iK Tryz.prog 179 #[x] w (ny w (pB d)):=by
 obtain⟨i0,an,aA,aB,aD⟩:=bV lp;obtain⟨fd,Z,v,A,vc,ad,t,cap,rfl,h1,h2,h3⟩:=h.form;have V:=aR w (iC #[Y fd d.fH.length Z,Y v A vc,Y ad t cap,I J d.fS.next,I J d.seq,I J d.tx,I J d.base] 34);have gA:aU (w.alloc (iC #[Y fd d.fH.length Z,Y v A vc,Y ad t cap,I J d.fS.next,I J d.seq,I J d.tx,I J d.base] 34)) w.heap.size (Y fd d.fH.length Z) (Y v A vc) (Y ad t cap) d.fS.next d.seq d.tx d.base:=aC _ _;generalize ar:w.alloc (iC #[Y fd d.fH.length Z,Y v A vc,Y ad t cap,I J d.fS.next,I J d.seq,I J d.tx,I J d.base] 34)=wa at V gA;obtain⟨rs,e1,i1,l1,F,ae⟩:=(h1.below V).lens h2;have CS:=af (oU (Y fd d.fH.length Z) rs wa l1 F ae i1);rw[e1]at CS;unfold kZ at CS;have p:=h3.fit;have ao:=qI d.fS;have T:ah ((aI d.fS).length<=16*1048576):=by have:=p.1;show _<=_;omega
 have B:ah (pB d=oR d d.fH.length):=rfl;have S:ah (∀(k:Nat) (y:Bk),d.fH[k]?=X y->uG d k=if !y.1&& !pT y&&decide (dP (au d.fH) (cE (au d.fH) (aI d.fS) d.base) (k:Int)=0)then X (k:Int)else O):=λk y hy=>by unfold uG;rw[hy];rfl
 obtain⟨R,hR⟩:=aq (pB d);rw[hR]at B⊢;obtain⟨M,hM⟩:=aq (au d.fH);rw[hM]at CS S;have HS:=af (h3.below V);have HF:=af i1;have ag:=af e1;have aj:=af F;have ak:ah (rs.length=d.fH.length):=by show _=_;rw[<-e1,bm]
 have aH:d.fH.length<=1048576:=h2.1;have HB:=af V;have HG:=af gA;have y0:=gA.cells.1;clear h1 h2 h3 h e1 i1 l1 F ae hM hR V gA p ao;go_enter Tryz.func179,Tryz.ntmps179;go_wp2_with fail;clear ar;refine CS.o.mono ?_;rintro e G ⟨la,lc,rfl,f1,f2,f3⟩;have b7:iL G.heap.size G G.drew:=(az _ _).drew;have W:=f3.trans (b7.mono f3.size);have HR:=af (f1.below b7);have U:=af f2;have K:=af (HG.o.below W);have S1:=af (HS.o.below W);have B1:=af (HB.o.trans (W.mono HB.o.size));have F1:=af (HF.o.below W);have SD:G.drew.cell? ⟨w.heap.size,1,O⟩=X (Y v A vc)/\G.drew.cell? ⟨w.heap.size,2,O⟩=X (Y ad t cap)/\G.drew.cell? ⟨w.heap.size,3,O⟩=X (I J d.fS.next)/\G.drew.cell? ⟨w.heap.size,6,O⟩=X (I J d.base):=⟨K.o.cells.2.1,K.o.cells.2.2.1,K.o.cells.2.2.2.1,K.o.cells.2.2.2.2.2.2⟩;clear CS f1 f2 f3 W b7 HG HS HB HF y0;go_wp2_with fail;go_region_held3 (λw'=>w'.cell? ⟨w.heap.size,1,O⟩=X (Y v A vc)/\w'.cell? ⟨w.heap.size,2,O⟩=X (Y ad t cap)/\w'.cell? ⟨w.heap.size,3,O⟩=X (I J d.fS.next)/\w'.cell? ⟨w.heap.size,6,O⟩=X (I J d.base)) (first|(with_reducible exact SD)|(with_reducible exact SE)|(with_reducible exact SF)|go_keep) (first
  |(go_at_call 9;refine(tC _ d.fS _ S1.o).mono ?_;rintro e w2 ⟨lv,rfl,ho,P⟩;obtain⟨ia,ic,rfl,aa,-,-⟩:=kt.of ho (by have:=T.o;unfold maxLen;omega) P;have L:=af (K.o.below P);have B2:=af (B1.o.trans (P.mono B1.o.size));have F2:=af (F1.o.below P);have C:=af (HR.o.below P);have SE:w2.cell? ⟨w.heap.size,1,O⟩=X (Y v A vc)/\w2.cell? ⟨w.heap.size,2,O⟩=X (Y ad t cap)/\w2.cell? ⟨w.heap.size,3,O⟩=X (I J d.fS.next)/\w2.cell? ⟨w.heap.size,6,O⟩=X (I J d.base):=⟨L.o.cells.2.1,L.o.cells.2.2.1,L.o.cells.2.2.2.1,L.o.cells.2.2.2.2.2.2⟩;have CN:=af (vz la M.length lc M ia (aI d.fS).length ic (aI d.fS) d.base w2 U.o (by have:=T.o;omega) C.o aa);clear ho aa P)
  |(go_at_call 46;refine CN.o.mono ?_;rintro e H ⟨g,rfl,g1,g2,g3,g4⟩;have Q:=af (L.o.below g4);have B3:=af (B2.o.trans (g4.mono B2.o.size));have F3:=af (F2.o.below g4);have am:=af (C.o.below g4);have al:=af g3;have SF:H.cell? ⟨w.heap.size,1,O⟩=X (Y v A vc)/\H.cell? ⟨w.heap.size,2,O⟩=X (Y ad t cap)/\H.cell? ⟨w.heap.size,3,O⟩=X (I J d.fS.next)/\H.cell? ⟨w.heap.size,6,O⟩=X (I J d.base):=⟨Q.o.cells.2.1,Q.o.cells.2.2.1,Q.o.cells.2.2.2.1,Q.o.cells.2.2.2.2.2.2⟩;clear g1 g2 g3 g4))
 all_goals
  clear SD SE SF CN K L S1 B1 B2 F1 F2 HR C;have N0:=af (ou.fresh H);go_wp2;go_loopw [5,6] (λov bv wr=>∃(b:Nat) (l:List Int) (u:iX),ov=u/\bv=I J b/\b<=d.fH.length/\l.length<=b/\ah (l=oR d b)/\ah (ou H wr u l)) (λ_ bv _=>d.fH.length-(intOf bv).toNat)
  case atStart=>exact⟨0,[],_,rfl,rfl,aK _,aK _,rfl,N0⟩
  case round=>
   rename iW=>wr
   obtain⟨b,l,ov,rfl,rfl,hb,aE,i,N⟩:=hrel;clear N0;have y0:=(Q.o.below N.o.1).cells.1;have aF:(0:Int)<=b:=by omega
   by_cases aG:(b:Int)<d.fH.length
   ·obtain⟨r,hr⟩:∃r,rs[b]?=X r:=⟨_,ay (by have:=ak.o;omega)⟩
    have ac:d.fH[b]?=X (aw r):=by rw[<-ag.o,bi,hr];rfl
    obtain⟨gv,e,⟨c1,c2,c3⟩,j⟩:=(F3.o.below N.o.1).at hr;subst e;have D:=aj.o r (aO hr);obtain⟨x,y,u,ls⟩:=r;have a:ah (uG d b=if (!x&& !pT (x,y,ls)&&decide (dP M (cE M (aI d.fS) d.base) (b:Int)=0))=iV then X (b:Int)else O):=S.o b (x,y,ls) ac
    simp only at c1 c2 c3 j D;have ab:=j;obtain⟨ld,E,rfl,-,-⟩:=ab;have bX:=aR wr (iC #[iB x,I J y,Y ld ls.length E] 81);have hX:=aC wr (iC #[iB x,I J y,Y ld ls.length E] 81);have x0:=ai _ _ 0 _ _ _ hX;have x1:=ai _ _ 1 _ _ _ hX;have x2:=ai _ _ 2 _ _ _ hX;simp only[nM,sw,nH]at x0 x1 x2;clear hX;generalize av:wr.alloc (iC #[iB x,I J y,Y ld ls.length E] 81)=wx at bX x0 x1 x2;have NX:=af (N.o.below bX);have CB:=af (Yc x y _ ls wx D (j.below bX));obtain⟨z,hz⟩:=aq (pT (x,y,ls));rw[hz]at CB a;clear hr ac j D hz bX N;cases x with
    |true=>
     have n:ah (l=oR d (b+1)):=by
      show _=_;rw[wQ,a.o]
      simpa using i.o
     clear a i CB;go_wp2;go_roundw
     case rel=>exact⟨b+1,l,_,rfl,by go_num,by omega,by omega,n,NX⟩
     case measure=>simp[intOf];omega
    |false=>
     go_wp2_with fail;clear av;refine CB.o.mono ?_;rintro e w5 ⟨rfl,b5⟩;have m:=af (NX.o.below b5);clear CB NX b5 x0 x1 x2 c1 c2 c3 y0;cases z with
     |true=>
      have n:ah (l=oR d (b+1)):=by
       show _=_;rw[wQ,a.o]
       simpa using i.o
      clear a i;go_wp2;go_roundw
      case rel=>exact⟨b+1,l,_,rfl,by go_num,by omega,by omega,n,m⟩
      case measure=>simp[intOf];omega
     |false=>
      have CO:=af (yM la M.length lc M g M.length M.length (cE M (aI d.fS) d.base) b w5 U.o (qd _ _ _) rfl (am.o.below m.o.1) (al.o.below m.o.1));obtain⟨q,hq⟩:=aq (dP M (cE M (aI d.fS) d.base) (b:Int));rw[hq]at CO a;clear hq;go_wp2_with fail;refine CO.o.mono ?_;rintro e w6 ⟨rfl,rfl⟩;by_cases f:q=0
      ·have n:ah (l++[(b:Int)]=oR d (b+1)):=by
        show _=_;rw[wQ,a.o,f,<-i.o];simp
       have ap:((q:Int)==0)=iV:=by simp[f]
       clear a i CO f;go_wp2_with (at_builtin;refine cZ _ rfl _ _ 36 rfl H.heap.size 3 i0 (I J 0) 1 8 Tryz.underlying36 an aA aB aD rfl (by decide) _ l.length (ax l) rfl (m.o.2.alloc _) ⟨w6.heap.size,0,O⟩ 1 1 [I J _] rfl rfl (by exact lz _ _ _) (qJ _) ?g1 ?g2 ?g3 ?_)
       case g1=>unfold maxLen;omega
       case g2=>omega
       case g3=>have:=m.o.1.size;simp;omega
       intro v' w7 s c _;have NS:=af (m.o.snoc s c);have NN:(l++[(b:Int)]).length=l.length+1:=by simp
       generalize l++[(b:Int)]=l3 at n NS NN;clear s c m;go_wp2;go_roundw
       case rel=>exact⟨b+1,l3,_,rfl,by go_num,by omega,by omega,n,NS⟩
       case measure=>simp[intOf];omega
      ·have n:ah (l=oR d (b+1)):=by
        show _=_;rw[wQ,a.o,bf f]
        simpa using i.o
       have ap:((q:Int)==0)=iF:=by rw[du];omega
       clear a i CO f;go_wp2;go_roundw
       case rel=>exact⟨b+1,l,_,rfl,by go_num,by omega,by omega,n,m⟩
       case measure=>simp[intOf];omega
   ·have HE:ah (R=l):=by
     show _=_;rw[B.o,i.o];congr 1;omega
    clear B i;go_wp2;go_ret;rw[HE.o];exact⟨_,rfl,qQ N.o.2 B3.o.size,B3.o.trans (N.o.1.mono B3.o.size)⟩
open Pack
def sS(l:List aM):Int:=(l.getLast?.map (λs=>s.2.1)).getD 0
def lQ(p:Pg)(q:Int):Pg:=⟨p.kind,q,p.tx,p.part,p.count,p.text⟩
def eH(b:Int):List Bk->List aM->Int->List Pg->Option (List Bk×List aM×Int)
 |f,l,q,[]=>X (f,l,q)
 |f,l,q,p::ps=>if (cJ f l (lQ p q)).2.2&&decide (sS (cJ f l (lQ p q)).2.1≠b)then eH b (cJ f l (lQ p q)).1 (cJ f l (lQ p q)).2.1 (q+1) ps else O
def pL(M:List an)(live:List Int)(b:Int):List an:=(List.range 4).flatMap λ(lf:Nat)=>(M.zip (cE M live 1000000001)).filterMap λp=>if p.2&&p.1.block==b&&p.1.leaf==(lf:Int)then X p.1 else O
def kX(d:Dv)(b:Int):List aM×Bool:=match eH b d.fH [] d.seq ((pL (au d.fH) (aI d.fS) b).map an.fP)with
 |some r=>(r.2.1,iV)
 |none=>([],iF)
def tG(p:Pg):Int×Int×ByteArray:=(p.kind,p.tx,p.text)
theorem IY(b:Int):∀(ps:List Pg) {bs:List Bk} {l:List aM} {q:Int} {r:List Bk×List aM×Int},bo bs=iV->(∀y∈au bs,y.key<q)->eH b bs l q ps=X r->
 ∃(cs:List Bk) (L:List aM) (xs:List an),r=(cs,l++L,q+ps.length)/\dc bs L=(cs,L.length)/\bo cs=iV/\xs.map (λx=>tG x.fP)=ps.map tG/\au cs=au bs++xs/\(∀x∈xs,x.fP.Right)/\(∀x∈xs,q<=x.fP.seq)/\(∀s∈L,s.1=1)/\L.length=ps.length/\(∀x∈xs,x.block≠b)
 | [],bs,l,q,r,hok,_,h=>by
  simp only[eH,fu]at h;subst h;exact⟨bs,[],[],by simp,rfl,hok,rfl,by simp,by simp,by simp,by simp,rfl,by simp⟩
 |p::ps,bs,l,q,r,hok,hk,h=>by
  simp only[eH]at h;split at h
  ·rename_i hc
   rw[bn,bH]at hc;obtain⟨cs,s,x,g,i,j,a,k,f,m,n,-⟩:=Ao hok (p:=lQ p q) (λy hy=>hk y hy) hc.1
   rw[g]at h hc;have e:s.2.1≠b:=by
    have:=hc.2;unfold sS at this
    simpa using this
   obtain⟨c,L,xs,o,t,u,v,w,z,A,B,C,d⟩:=IY b ps (bs:=cs) (l:=l++[s]) (q:=q+1) j (λy hy=>by
    rw[f]at hy;rcases bG.1 hy with hy|hy
    ·have:=hk y hy;omega
    ·rw[bR]at hy;subst hy;show y.fP.seq<q+1;rw[a];show q<q+1;omega) h
   refine⟨c,s::L,x::xs,?_,?_,u,?_,by rw[w,f];simp,?_,?_,?_,by simp[C],?_⟩
   ·rw[o];simp only[fs,xw,aV,mQ,vL];omega
   ·rw[dc,i];simp only[dw];rw[t];simp
   ·rw[cn,cn,v,a];rfl
   ·intro y hy;rcases aX.1 hy with rfl|hy
    ·rw[a];exact k
    ·exact z y hy
   ·intro y hy;rcases aX.1 hy with rfl|hy
    ·rw[a];exact kK _
    ·have:=A y hy;omega
   ·intro y hy;rcases aX.1 hy with rfl|hy
    ·exact n
    ·exact B y hy
   ·intro y hy;rcases aX.1 hy with rfl|hy
    ·rw[m];exact e
    ·exact d y hy
  ·cases h
theorem wm{b:Int}{y:an}(h:y∈pL (au bs) live b):y∈au bs/\y.fP.kind=1/\y.fP.tx∈live/\bp (au bs) y.fP.tx=X y/\y.block=b:=by
 unfold pL at h;obtain⟨lf,-,h⟩:=md.1 h;obtain⟨p,j,e⟩:=tS.1 h;split at e
 ·rename_i hc
  injection e with e
  subst e;simp only[bn,jg]at hc;obtain⟨i,hi⟩:=io j;obtain⟨h1,a⟩:=t8.1 hi;rw[p7 _ _ h1]at a;injection a with a
  rw[hc.1.1]at a;have f:=aO h1;have k:=sk f;unfold py at a;have g:(p.1.fP.kind==2&&decide ((1000000001:Int)<=p.1.fP.tx))=iF:=by
   have:=k.2.2.2.2.1;have:¬(1000000001:Int)<=p.1.fP.tx:=by omega
   simp[this]
  rw[g,xu]at a;simp only[bn,jg,wH,Em]at a;refine⟨f,a.1.1,a.1.2,?_,hc.1.2⟩;have c:au bs=(au bs).take (i+1)++(au bs).drop (i+1):=(jo _ _).symm;have d:=qW ((au bs).take (i+1)) ((au bs).drop (i+1)) p.1.fP.tx;rw[<-c,zK h1,a.2]at d;rw[d];have:cW p.1.fP.tx p.1=iV:=by unfold cW;simp[a.1.1]
  rw[this];rfl
 ·cases e
variable{d:Dv}{L:List aM}
theorem ZZ{b:Int}(h:cO T n d)(q:kX d b=(L,iV)):cO T n (gn d L):=by
 have w:d.seq=gY (au d.fH):=congrArg Dv.seq h.up.is;have D:d.fS=fk (cI (au d.fH)):=congrArg Dv.fS h.up.is;unfold kX at q;split at q
 ·rename_i r hr
  obtain⟨cs,H,xs,I,K,F,M,m,R,S,U,V,J⟩:=IY b _ h.up.ok (λy hy=>by rw[w];exact Kh _ y hy) hr
  rw[I]at q;simp only[jT,mQ,kx]at q;subst q;have k:gn d H=jz cs:=by
   unfold gn fj;rw[K];simp only;rw[ak F]
  have g:∀x∈xs,∃y∈pL (au d.fH) (aI d.fS) b,x.fP.kind=y.fP.kind/\x.fP.tx=y.fP.tx/\x.fP.text=y.fP.text:=λx a=>by
   have:tG x.fP∈((pL (au d.fH) (aI d.fS) b).map an.fP).map tG:=by rw[<-M];exact pj a
   obtain⟨p,C,e⟩:=bJ.1 this;obtain⟨y,hy,rfl⟩:=bJ.1 C;unfold tG at e;simp only[mQ]at e;exact⟨y,hy,e.1.symm,e.2.1.symm,e.2.2.symm⟩
  have o:∀x∈xs,x.fP.kind=1:=λx a=>by
   obtain⟨y,hy,e,-,-⟩:=g x a;rw[e];exact(wm hy).2.1
  have l:cI (au cs)=cI (au d.fH):=by
   unfold cI;rw[m,fm,Pc];intro p C;obtain⟨x,a,rfl⟩:=bJ.1 C;rw[o x a];decide
  have f:(jz cs).fS=d.fS:=by
   show fk (cI (au cs))=_;rw[l,<-D]
  have j:∀c,bI (au cs) c=bI (au d.fH) c:=λc=>by
   unfold bI;rw[m,qW];cases a:bp xs c with
   |none=>rfl
   |some x=>
    obtain⟨O,P⟩:=ph a;obtain⟨-,N⟩:=vK P;obtain⟨y,hy,Q,z,A⟩:=g x O;have:=(wm hy).2.2.2.1;rw[<-z,N]at this;rw[this];simp only[Option.or];show fF x.fP.text.data.toList=fF y.fP.text.data.toList;rw[A]
  rw[k];refine⟨⟨F,rfl⟩,by rw[f];exact h.st,?_,?_,?_,?_,?_,(by rw[f];exact h.nx),by rw[f];exact h.vi⟩
  ·show jq (au cs);have i:=h.hd;unfold jq at i⊢;rw[l];cases G:cI (au d.fH)with
   |nil=>
    rw[G]at i;simp only at i⊢;intro x a;rw[m]at a;rcases bG.1 a with a|a
    ·exact i x a
    ·rw[o x a];decide
   |cons t L=>
    rw[G]at i;simp only at i⊢;rcases i with i|i
    ·exact .inl i
    ·right;intro x a v;rw[m]at a;rcases bG.1 a with a|a
     ·exact i x a v
     ·have:=o x a;omega
  ·intro c s;rw[f]at s;obtain⟨x,a,E⟩:=h.lv c s;show∃x∈au cs,_;rw[m];exact⟨x,sC _ a,E⟩
  ·intro x a v;change x∈au cs at a;rw[m]at a;rcases bG.1 a with a|a
   ·exact h.tx x a v
   ·obtain⟨y,hy,-,-,A⟩:=g x a;have:=wm hy;rw[A];exact h.tx y this.1 this.2.1
  ·intro c s c' u B;rw[f]at s u;change bI (au cs) c=bI (au cs) c' at B;rw[j,j]at B;exact h.df c s c' u B
  ·intro x a v;change x∈au cs at a;rw[f];rw[m]at a;rcases bG.1 a with a|a
   ·exact h.dn x a v
   ·obtain⟨y,hy,-,z,-⟩:=g x a;have:=wm hy;rw[z];exact h.dn y this.1 this.2.1
 ·cases q
def rM(d:Dv):Bool:=if d.base≠d.tx-1 then iF else match (dF ((au d.fH).map an.fP)).find? (λt=>decide (t.num=d.base))with
 |some t=>t.base
 |none=>iF
def iR(d:Dv):Nat->Int×Nat
 |0=>(-1,4)
 |k+1=>match d.fH[k]? with
  |none=>iR d k
  |some x=>if !x.1&&decide (br x.2.2=4)&&decide (iq (au d.fH) (aI d.fS) d.base (k:Int)=iq (au d.fH) (aI d.fS) 1000000000 (k:Int))&&decide (1<=iq (au d.fH) (aI d.fS) d.base (k:Int))&&decide (iq (au d.fH) (aI d.fS) d.base (k:Int)<(iR d k).2)
   then((k:Int),iq (au d.fH) (aI d.fS) d.base (k:Int))else iR d k
def nW(d:Dv):Int:=(iR d d.fH.length).1
def jc(d:Dv):List aM×Bool:=match pB d with
 |b::_=>([(2,b,0,aQ)],iV)
 | []=>if rM d then(if nW d<0 then([],iF)else kX d (nW d))else dZ d (hJ d.fS) aQ
theorem Al(h:cO T n d)(a:jc d=(L,iV)):cO T n (gn d L):=by
 unfold jc at a;split at a
 ·rename_i b l hd
  injection a with a
  subst a;exact YM h (by rw[hd];simp)
 ·split at a
  ·split at a
   ·cases a
   ·exact ZZ h a
  ·exact QQ h a
def j8:Nat->Dv->List aM->Dv×List aM
 |0,d,l=>(d,l)
 |k+1,d,l=>if cK d.fH<12 then(if (jc d).2 then j8 k (gn d (jc d).1) (l++(jc d).1)else(d,l))else(d,l)
def gJ(d:Dv)(a:Int):Dv×List aM:=j8 (min a.toNat 20) d []
theorem EY:∀(k:Nat) {d:Dv} (l:List aM),cO T n d->cO T n (j8 k d l).1
 |0,d,l,h=>h
 |k+1,d,l,h=>by
  rw[j8];split
  ·split
   ·rename_i hc
    exact EY k _ (Al h (qc rfl hc))
   ·exact h
  ·exact h
def My(l:List UInt8):ByteArray:=⟨l.toArray⟩
def nt(d:Dv)(b a:Int):ByteArray×Bool:=
 if (bO d.fS.fV b).isSome then
  if je d.fS b a=0 then(aQ,iV)
  else match bI (au d.fH) (je d.fS b a)with
   |some t=>(My t,iV)
   |none=>(aQ,iF)
 else(aQ,iF)
def sj(d:Dv)(q:Ak):Dv×List aM×ByteArray×Int:=
 if l9 d=iF then(d,[],aQ,5)
 else if (eA d q).2.2≠0 then(d,[],aQ,(eA d q).2.2)
 else if q.kind=6 then(if (nt d q.vol q.sector).2 then(d,[],(nt d q.vol q.sector).1,0)else(d,[],aQ,1))
 else
  let c:=if cK d.fH<12 then gJ d 20 else(d,[])
  let w:=dZ c.1 (eA c.1 q).1 (eA c.1 q).2.1
  if w.2=iF∨cK c.1.fH<8 then(c.1,c.2,aQ,4)else(gn c.1 w.1,c.2++w.1,aQ,0)
theorem Rn{q:Ak}(h:cO T n d)(k:n<999999998)(b:q.vol<=3)(j:T q.text.data.toList):cO T (n+1) (sj d q).1:=by
 have h1:cO T (n+1) d:=h.sub (λ_ x=>x) (by omega)
 unfold sj;split
 ·exact h1
 split
 ·exact h1
 split
 ·split<;>exact h1
 simp only;have a:cO T n (if cK d.fH<12 then gJ d 20 else(d,[])).1:=by
  split
  ·exact EY _ _ h
  ·exact h
 generalize(if cK d.fH<12 then gJ d 20 else(d,[]))=c at a⊢
 split
 ·exact a.sub (λ_ x=>x) (by omega)
 ·rename_i hw
  simp only[sH,Bool.not_eq_false]at hw;have l:=Nw c.1 q;by_cases f:(eA c.1 q).1=[]
  ·rw[f];have:dZ c.1 [] (eA c.1 q).2.1=([],iV):=by unfold dZ;simp
   rw[this];simp only;have e:gn c.1 []=c.1:=by
    have g:gn c.1 []=(fj c.1.fH).1:=rfl;have i:fj c.1.fH=(jz c.1.fH,iV):=by unfold fj;rw[ak a.up.ok]
    rw[g,i];exact a.up.is.symm
   rw[e];exact a.sub (λ_ x=>x) (by omega)
  ·exact QB a k b l f j (qc rfl hw.1)
theorem ZG{k:Int}(n:3<=k/\k<=10):cO T 0 (jz (gX k)):=by
 have j:=(Right.new n).1;have hs:au (gX k)=[]:=by
  cases e:au (gX k)with
  |nil=>rfl
  |cons x M=>
   obtain⟨b,l,-,-,i,-,m⟩:=Cn (bs:=gX k) (x:=x) (by rw[e];simp)
   have o:(gX k)[b]?=X (iF,0,eW):=by
    unfold gX at i⊢;rw[ak n]at i⊢;rw[zJ]at i;rw[Dr,ak i]
   rw[Ff _ b iF 0 o l]at m;cases m
 have g:cI (au (gX k))=[]:=by rw[hs];rfl
 have a:(jz (gX k)).fS=ii:=by
  show fk (cI (au (gX k)))=_;rw[g];rfl
 have d:aI ii=[]:=rfl;refine⟨⟨j,rfl⟩,by rw[a];exact Bi,?_,?_,?_,?_,?_,?_,by rw[a];intro v p;cases p⟩
 ·show jq (au (gX k));unfold jq;rw[g];simp only;intro x f;rw[hs]at f;cases f
 ·intro c h;rw[a,d]at h;cases h
 ·intro x f;change x∈au (gX k)at f;rw[hs]at f;cases f
 ·intro c h;rw[a,d]at h;cases h
 ·intro x f;change x∈au (gX k)at f;rw[hs]at f;cases f
 ·rw[a];show(1:Int)<=_;decide
theorem L8(x:iX)(d:Dv)(w:iW)(h:eP w x d):iK Tryz.prog 182 #[x] w λe w'=>e=G (I J (nW d))/\iL w.heap.size w w':=by
 obtain⟨fd,fc,va,vl,vc,ad,ln,cap,rfl,h1,h2,h3⟩:=h.form;have bA:=aR w (iC #[Y fd d.fH.length fc,Y va vl vc,Y ad ln cap,I J d.fS.next,I J d.seq,I J d.tx,I J d.base] 34);have gA:aU (w.alloc (iC #[Y fd d.fH.length fc,Y va vl vc,Y ad ln cap,I J d.fS.next,I J d.seq,I J d.tx,I J d.base] 34)) w.heap.size (Y fd d.fH.length fc) (Y va vl vc) (Y ad ln cap) d.fS.next d.seq d.tx d.base:=aC _ _;generalize aF:w.alloc (iC #[Y fd d.fH.length fc,Y va vl vc,Y ad ln cap,I J d.fS.next,I J d.seq,I J d.tx,I J d.base] 34)=wa at bA gA;obtain⟨rs,V,i1,l1,P,ao⟩:=(h1.below bA).lens h2;have CS:=af (oU (Y fd d.fH.length fc) rs wa l1 P ao i1);rw[V]at CS;unfold kZ at CS;have A:=h3.fit;have aD:=qI d.fS;have l:ah ((aI d.fS).length<=16*1048576):=by have:=A.1;show _<=_;omega
 have D:ah (nW d=(iR d d.fH.length).1):=rfl;have C:ah (∀(k:Nat) (y:Bk),d.fH[k]?=X y->iR d (k+1)=if !y.1&&decide (br y.2.2=4)&&decide (dP (au d.fH) (cE (au d.fH) (aI d.fS) d.base) (k:Int)=dP (au d.fH) (cE (au d.fH) (aI d.fS) 1000000000) (k:Int))&&decide (1<=dP (au d.fH) (cE (au d.fH) (aI d.fS) d.base) (k:Int))&&decide (dP (au d.fH) (cE (au d.fH) (aI d.fS) d.base) (k:Int)<(iR d k).2)then((k:Int),dP (au d.fH) (cE (au d.fH) (aI d.fS) d.base) (k:Int))else iR d k):=λk y hy=>by rw[iR,hy];rfl
 obtain⟨R,hR⟩:=aq (nW d);rw[hR]at D⊢;obtain⟨M,hM⟩:=aq (au d.fH);rw[hM]at CS C;have HS:=af (h3.below bA);have HF:=af i1;have ap:=af V;have ar:=af P;have av:ah (rs.length=d.fH.length):=by show _=_;rw[<-V,bm]
 have aN:d.fH.length<=1048576:=h2.1;have HB:=af bA;have HG:=af gA;have y0:=gA.cells.1;clear h1 h2 h3 h V i1 l1 P ao hM hR bA gA A aD;go_enter Tryz.func182,Tryz.ntmps182;go_wp2_with fail;clear aF;refine CS.o.mono ?_;rintro e w1 ⟨la,lc,rfl,f1,f2,f3⟩;have HR:=af f1;have n:=af f2;have G1:=af (HG.o.below f3);have S1:=af (HS.o.below f3);have B1:=af (HB.o.trans (f3.mono HB.o.size));have F1:=af (HF.o.below f3);obtain⟨-,y1,y2,y3,-,-,-⟩:=G1.o.cells;clear CS f1 f2 f3 HG HS HB HF y0;go_wp2_with fail;refine(tC _ d.fS _ S1.o).mono ?_;rintro e w2 ⟨lv,rfl,ho,U⟩;obtain⟨ia,ic,rfl,ak,-,-⟩:=kt.of ho (by have:=l.o;unfold maxLen;omega) U
 have G2:=af (G1.o.below U);have B2:=af (B1.o.trans (U.mono B1.o.size));have F2:=af (F1.o.below U);have f:=af (HR.o.below U);have HI:=af ak;have y6:=G2.o.cells.2.2.2.2.2.2;clear ho ak U y1 y2 y3 G1 B1 F1 HR S1;go_wp2_with fail;refine(vz la M.length lc M ia (aI d.fS).length ic (aI d.fS) d.base w2 n.o (by have:=l.o;omega) f.o HI.o).mono ?_
 rintro e w3 ⟨g,rfl,-,-,g3,c⟩;have G3:=af (G2.o.below c);have B3:=af (B2.o.trans (c.mono B2.o.size));have F3:=af (F2.o.below c);have E:=af (f.o.below c);have Z:=af (HI.o.below c);have ac:=af g3;clear g3 c y6 G2 B2 F2 f HI;go_wp2_with fail;refine(vz la M.length lc M ia (aI d.fS).length ic (aI d.fS) 1000000000 w3 n.o (by have:=l.o;omega) E.o Z.o).mono ?_
 rintro e w4 ⟨g2,rfl,-,-,g3,c⟩;have G4:=af (G3.o.below c);have B4:=af (B3.o.trans (c.mono B3.o.size));have F4:=af (F3.o.below c);have ae:=af (E.o.below c);have aa:=af (ac.o.below c);have W:=af g3;clear g3 c G3 B3 F3 E Z ac l;obtain⟨Q,t⟩:=aq (cE M (aI d.fS) d.base);obtain⟨r2,v⟩:=aq (cE M (aI d.fS) 1000000000);have aA:ah (Q.length=M.length):=by show _=_;rw[<-t];exact qd _ _ _
 have f:ah (r2.length=M.length):=by show _=_;rw[<-v];exact qd _ _ _
 rw[t,v]at C;rw[t]at aa;rw[v]at W;clear t v;go_wp2;go_loopw [7,8,9] (λzv mv iv wr=>∃(k m:Nat) (z:Int),zv=I J z/\mv=I J m/\iv=I J k/\k<=d.fH.length/\m<=4/\ah (iR d k=(z,m))/\ah (iL w4.heap.size w4 wr)) (λ_ _ iv _=>d.fH.length-(intOf iv).toNat)
 case atStart=>exact⟨0,4,-1,rfl,rfl,rfl,aK _,am _,rfl,az _ _⟩
 case round=>
  rename iW=>wr
  obtain⟨k,m,z,rfl,rfl,rfl,hk,hm,b,S⟩:=hrel;have y0:=(G4.o.below S.o).cells.1;have aJ:(0:Int)<=k:=by omega
  by_cases aM:(k:Int)<d.fH.length
  ·obtain⟨r,hr⟩:∃r,rs[k]?=X r:=⟨_,ay (by have:=av.o;omega)⟩
   have an:d.fH[k]?=X (aw r):=by rw[<-ap.o,bi,hr];rfl
   obtain⟨gv,e,⟨c1,c2,c3⟩,s⟩:=(F4.o.below S.o).at hr;subst e;have H:=ar.o r (aO hr);obtain⟨x,y,u,ls⟩:=r;have a:ah (iR d (k+1)=if (!x&&decide (br ls=4)&&decide (dP M Q (k:Int)=dP M r2 (k:Int))&&decide (1<=dP M Q (k:Int))&&decide (dP M Q (k:Int)<(iR d k).2))=iV then((k:Int),dP M Q (k:Int))else iR d k):=C.o k (x,y,ls) an
   simp only at c1 c2 c3 s H;have al:=s;obtain⟨ld,O,rfl,-,-⟩:=al;have bX:=aR wr (iC #[iB x,I J y,Y ld ls.length O] 81);have hX:=aC wr (iC #[iB x,I J y,Y ld ls.length O] 81);have x0:=ai _ _ 0 _ _ _ hX;have x1:=ai _ _ 1 _ _ _ hX;have x2:=ai _ _ 2 _ _ _ hX;simp only[nM,sw,nH]at x0 x1 x2;clear hX;generalize aG:wr.alloc (iC #[iB x,I J y,Y ld ls.length O] 81)=wx at bX x0 x1 x2;have T:=af (S.o.trans (bX.mono S.o.size));have CB:=af (Cq x y _ ls wx H (s.below bX));have B:=af (yM la M.length lc M g M.length M.length Q k wx n.o aA.o rfl (ae.o.below T.o) (aa.o.below T.o));obtain⟨q,hq⟩:=aq (dP M Q (k:Int));obtain⟨q2,L⟩:=aq (dP M r2 (k:Int));have p:=af L;obtain⟨nb,j⟩:=aq (br ls);rw[hq]at B;rw[hq,L,j]at a;rw[j]at CB;clear hr an s H hq L j bX S;go_wp2_with fail;clear aG;refine B.o.mono ?_;rintro e w5 ⟨rfl,rfl⟩;clear B c1 c2 c3 y0;cases x with
   |true=>
    have i:ah (iR d (k+1)=(z,m)):=by
     show _=_;rw[a.o,b.o];exact aj (by simp[*])
    clear a b CB p;go_wp2;go_roundw
    case rel=>exact⟨k+1,m,z,rfl,rfl,by go_num,by omega,by omega,i,T⟩
    case measure=>simp[intOf];omega
   |false=>
    go_wp2_with fail;refine CB.o.mono ?_;rintro e w6 ⟨rfl,b6⟩;have F:=af (T.o.trans (b6.mono T.o.size));clear CB T b6 x0 x1 x2;by_cases K:nb=4
    ·have j:((nb:Int)==4)=iV:=by simp[K]
     have B:=af (yM la M.length lc M g2 M.length M.length r2 k w6 n.o f.o rfl (ae.o.below F.o) (W.o.below F.o));rw[p.o]at B;have ab:=af K;clear K;go_wp2_with fail;refine B.o.mono ?_;rintro e w7 ⟨rfl,rfl⟩;clear B p;by_cases N:q=q2
     ·have aE:((q:Int)==(q2:Int))=iV:=by simp[N]
      have ax:=af N;clear N;by_cases h1:(q:Int)≥1
      ·by_cases aL:(q:Int)<m
       ·have i:ah (iR d (k+1)=((k:Int),q)):=by
         show _=_;rw[a.o,b.o];have V:=ax.o;have e2:=ab.o;have ag:1<=q:=by omega
         have aB:q<m:=by omega
         rw[aW V,aW e2,aW ag,aW (show q<(z,m).2 from aB)];rfl
        clear a b;go_wp2;go_roundw
        case rel=>exact⟨k+1,q,k,rfl,rfl,by go_num,by omega,by omega,i,F⟩
        case measure=>simp[intOf];omega
       ·have aH:¬q<m:=by omega
        have i:ah (iR d (k+1)=(z,m)):=by
         show _=_;rw[a.o,b.o];exact aj (by simp[*])
        clear a b;go_wp2;go_roundw
        case rel=>exact⟨k+1,m,z,rfl,rfl,by go_num,by omega,by omega,i,F⟩
        case measure=>simp[intOf];omega
      ·have ag:¬1<=q:=by omega
       have i:ah (iR d (k+1)=(z,m)):=by
        show _=_;rw[a.o,b.o];exact aj (by simp[*])
       clear a b;go_wp2;go_roundw
       case rel=>exact⟨k+1,m,z,rfl,rfl,by go_num,by omega,by omega,i,F⟩
       case measure=>simp[intOf];omega
     ·have aE:((q:Int)==(q2:Int))=iF:=by rw[du];omega
      have i:ah (iR d (k+1)=(z,m)):=by
       show _=_;rw[a.o,b.o];exact aj (by simp[*])
      clear a b;go_wp2;go_roundw
      case rel=>exact⟨k+1,m,z,rfl,rfl,by go_num,by omega,by omega,i,F⟩
      case measure=>simp[intOf];omega
    ·have j:((nb:Int)==4)=iF:=by rw[du];omega
     have i:ah (iR d (k+1)=(z,m)):=by
      show _=_;rw[a.o,b.o];exact aj (by simp[*])
     clear a b p;go_wp2;go_roundw
     case rel=>exact⟨k+1,m,z,rfl,rfl,by go_num,by omega,by omega,i,F⟩
     case measure=>simp[intOf];omega
  ·have HE:ah (R=z):=by
    show _=_;rw[D.o,show d.fH.length=k by omega,b.o]
   have FB:=af (B4.o.trans (S.o.mono B4.o.size));clear D b;go_wp2;go_ret;exact⟨by rw[HE.o];rfl,FB.o⟩
end Go.Proofs.YtgigcooffjjbgaaGreatDoor
