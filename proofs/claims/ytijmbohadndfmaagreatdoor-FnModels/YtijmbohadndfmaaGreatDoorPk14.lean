/-
  SWrite; SDead; DvM8; SVic
-/
import Derived.Test.YtijmbohadndfmaaGreatDoorPk13
open Go.Value renaming int→I,slice→Y,string→iT,bool→iB,tuple→iU
open Go.IntKind renaming i64→J
open Option renaming none→O,some→X
open Go.Ending renaming returned→G
open Go.Obj renaming cells→iC
open Bool renaming true→iV,false→iF
open Go renaming World→iW,Value→iX,Calls→iK
open Go.RowKit renaming Below→iL
set_option maxHeartbeats 4000000
set_option maxRecDepth 100000
namespace Go.Proofs.YtijmbohadndfmaaGreatDoor
open Go.RowKit Words Sums
def iG(w:iW)(r:List aM×Bool)(e:Ending)(w':iW):Prop:=∃a,e=G (iU #[a,iB r.2])/\w'.ownsRow w.heap.size 184 4 a r.1.length (cT r.1)/\iL w.heap.size w w'
theorem ny{w W:iW}(b:iL w.heap.size w W)(n:Nat)(a:W.heap.size=n):(W.alloc (iC #[] 184)).ownsRow w.heap.size 184 4 (Y (X ⟨n,0,O⟩) 0 0) ([]:List aM).length (cT [])/\iL w.heap.size w (W.alloc (iC #[] 184)):=by
 subst a;exact⟨⟨rfl,.inr ⟨W.heap.size,0,#[],rfl,b.size,az W _,ak _,by unfold maxLen;omega,rfl,rfl⟩⟩,b.alloc b.size _⟩
def jA(w W:iW)(g:Nat)(v u:iX)(bs:List Bk)(l:List aM):Prop:=
 iL w.heap.size w W/\W.heap[g]?=X (iC #[v] 38 (0,0))/\jS g W v bs/\W.ownsRow w.heap.size 184 4 u l.length (cT l)/\dg bs/\w.heap.size<=g
variable{x b:Int}{live:List Int}{T:List UInt8 -> Prop}{g B B' n np pb pcap k:Nat}
variable{bs:List Bk}
theorem jA.below{w W W':iW}{v u:iX}{l:List aM}(h:jA w W g v u bs l)(a:iL W.heap.size W W'):jA w W' g v u bs l:=by
 obtain⟨h1,b,c,h4,d,e⟩:=h;exact⟨h1.trans (a.mono h1.size),(a.block _ (aJ.1 b).1).trans b,c.keep a.size (λx _ f=>a.block x f),bu h4 a,d,e⟩
variable{bs':List Bk}
theorem jA.put{w W W':iW}{v u f u':iX}{l d:List aM}(h:jA w W g v u bs l)(n:cG W W' (λx=>u.ownBlock≠X x))(s:jS g W' f bs')(r:W'.ownsRow w.heap.size 184 4 u' d.length (cT d))(hs:dg bs'):jA w (W'.setCell ⟨g,0,O⟩ f) g f u' bs' d:=by
 obtain⟨h1,a,y,h4,z,k⟩:=h;have b:=iq h4;have m:W'.heap[g]?=X (iC #[v] 38 (0,0)):=by
  refine(n.2.2.2.2 g (aJ.1 a).1 (λe=>?_)).trans a
  rcases h4.2 with⟨rfl,-⟩|⟨x,c,o,rfl,-,j,-⟩
  ·cases e
  ·simp only[Value.ownBlock,fu]at e;subst e;rw[a]at j;simp at j
 have q:iL w.heap.size w W':=h1.trans (n.down h1.size (λi hi e=>by have:=(b i e).1;omega))
 exact⟨q.setCell (p:=⟨g,0,O⟩) k _,bC _ _ 0 _ _ _ m,s.keep (by simp[World.setCell]) (λx t _=>aU _ _ _ _ t),JT r m,hs,k⟩
theorem Ba(h:dg bs)(l:List aM)(p:Pg):dg (cH bs l p).1:=by
 unfold cH;split
 ·exact h.step _
 ·exact h
theorem sO(bs:List Bk)(l:List aM)(p:Pg):(cH bs l p).2.1.length<=l.length+1:=by
 unfold cH;split
 ·simp
 ·simp
theorem Dc(s:List Bk×List aM×Bool)(Q:List Pg)(h:s.2.2=iF):eA s Q=s:=by
 cases Q with
 |nil=>rfl
 |cons p Q=>rw[eA,ai (by rw[h];decide)]
theorem Eh(seq tx:Int)(l:List Rc):(jC seq tx l).length<=9:=by
 unfold jC;split
 ·rename_i h
  rw[xO];exact h.2.1
 ·simp
theorem qM{W:iW}{e s:Nat}{v:iX}{xs:List iX}(h:W.ownsRow B e s v n xs)(c:B'<=B):W.ownsRow B' e s v n xs:=by
 obtain⟨h0,h⟩:=h;refine⟨h0,?_⟩;rcases h with h|⟨g,cap,a,e,h1,b⟩
 ·exact .inl h
 ·exact .inr ⟨g,cap,a,e,by omega,b⟩
def mh(w W:iW)(pb np pcap:Nat)(Q:List Pg):Prop:=W.ownsRow w.heap.size 110 6 (Y (X ⟨pb,0,O⟩) np pcap) np (jl (Q.map Pg.tu))
variable{Q:List Pg}
theorem mh.kept{w W W':iW}{v u p:iX}{l:List aM}(h:mh w W pb np pcap Q)(m:jA w W g v u bs l)(o:cG W W' (λx=>u.ownBlock≠X x)):mh w (W'.setCell ⟨g,0,O⟩ p) pb np pcap Q:=by
 obtain⟨h0,h⟩:=h;refine⟨h0,?_⟩;rcases h with⟨e,-⟩|⟨x,c,d,e,h1,a,n⟩
 ·cases e
 ·refine .inr ⟨x,c,d,e,h1,?_,n⟩;have i:=(aJ.1 a).1;have f:x≠g:=λb=>by
   subst b;rw[m.2.1]at a;simp at a
  refine(aU _ _ _ _ f).trans ((o.2.2.2.2 x i (λb=>?_)).trans a)
  rcases m.2.2.2.1.2 with⟨rfl,-⟩|⟨y,c',j,rfl,-,k,-⟩
  ·cases b
  ·simp only[Value.ownBlock,fu]at b;subst b;rw[a]at k;simp at k
theorem mh.kept0{w W W':iW}{v u:iX}{l:List aM}(h:mh w W pb np pcap Q)(n:jA w W g v u bs l)(m:cG W W' (λx=>u.ownBlock≠X x)):mh w W' pb np pcap Q:=by
 obtain⟨h0,h⟩:=h;refine⟨h0,?_⟩;rcases h with⟨e,-⟩|⟨x,c,a,e,h1,b,k⟩
 ·cases e
 ·refine .inr ⟨x,c,a,e,h1,?_,k⟩;have f:=(aJ.1 b).1;refine(m.2.2.2.2 x f (λd=>?_)).trans b
  rcases n.2.2.2.1.2 with⟨rfl,-⟩|⟨y,c',i,rfl,-,j,-⟩
  ·cases d
  ·simp only[Value.ownBlock,fu]at d;subst d;rw[b]at j;simp at j
theorem jA.cell{w W:iW}{g:Nat}{v u:iX}{bs:List Bk}{l:List aM}(h:jA w W g v u bs l){W':iW}(i:cG W W' (λx=>u.ownBlock≠X x)):W'.cell? ⟨g,0,O⟩=X v/\W'.frozen? ⟨g,0,O⟩=iF:=by
 obtain⟨h1,a,j,h4,k,m⟩:=h;have d:W'.heap[g]?=X (iC #[v] 38 (0,0)):=by
  refine(i.2.2.2.2 g (aJ.1 a).1 (λe=>?_)).trans a
  rcases h4.2 with⟨rfl,-⟩|⟨x,c,f,rfl,-,b,-⟩
  ·cases e
  ·simp only[Value.ownBlock,fu]at e;subst e;rw[a]at b;simp at b
 exact⟨am _ _ 0 _ _ _ d,aL _ _ 0 _ _ d⟩
variable{p:Pg}
theorem mh.at{w W:iW}(h:mh w W pb np pcap Q)(c:Q[k]?=X p):W.cell? ⟨pb,k*6,O⟩=X (I J p.kind)/\W.cell? ⟨pb,k*6+1,O⟩=X (I J p.seq)/\W.cell? ⟨pb,k*6+2,O⟩=X (I J p.tx)/\W.cell? ⟨pb,k*6+3,O⟩=X (I J p.part)/\W.cell? ⟨pb,k*6+4,O⟩=X (I J p.count)/\W.cell? ⟨pb,k*6+5,O⟩=X (iT p.text):=by
 have d:(Q.map Pg.tu)[k]?=X p.tu:=by rw[bk,c];rfl
 have a:=λ(j:Nat) (v:iX) (b:(mZ p.tu)[j]?=X v)=>ve h (g:=pb) rfl (k*6+j) v (Oj _ k _ d j v b)
 have e:∀j,(⟨pb,0,O⟩:Addr).add j=⟨pb,j,O⟩:=eX pb;refine⟨?_,?_,?_,?_,?_,?_⟩
 ·have:=a 0 _ rfl;rw[e]at this;exact this
 ·have:=a 1 _ rfl;rw[e]at this;exact this
 ·have:=a 2 _ rfl;rw[e]at this;exact this
 ·have:=a 3 _ rfl;rw[e]at this;exact this
 ·have:=a 4 _ rfl;rw[e]at this;exact this
 ·have:=a 5 _ rfl;rw[e]at this;exact this
theorem Kc(x:iX)(d:Dv)(ra:Option Addr)(n rc:Nat)(l:List Rc)(t:ByteArray)(w:iW)(h:fU w x d)(hn:n<=33554432)(hr:j8 w ra n (l.map Rc.tu)):iK Tryz.prog 50 #[x,Y ra n rc,iT t] w (iG w (dY d l t)):=by
 obtain⟨g,f,C,D,vc,ad,B,cap,rfl,h1,h2,h3⟩:=h.form;have ao:l.length=n:=by have:=hr.1;simpa using this
 have ae:=af ao;have s0:(w.alloc (iC #[Y g d.fH.length f,Y C D vc,Y ad B cap,I J d.fS.next,I J d.seq,I J d.tx,I J d.base] 46)).heap.size=w.heap.size+1:=by simp
 have s1:((w.alloc (iC #[Y g d.fH.length f,Y C D vc,Y ad B cap,I J d.fS.next,I J d.seq,I J d.tx,I J d.base] 46)).alloc (iC #[] 184)).heap.size=w.heap.size+1+1:=by simp
 have b0:=aO w (iC #[Y g d.fH.length f,Y C D vc,Y ad B cap,I J d.fS.next,I J d.seq,I J d.tx,I J d.base] 46);have n1:=ny b0 (w.heap.size+1) s0;have g0:aP ((w.alloc (iC #[Y g d.fH.length f,Y C D vc,Y ad B cap,I J d.fS.next,I J d.seq,I J d.tx,I J d.base] 46)).alloc (iC #[] 184)) w.heap.size (Y g d.fH.length f) (Y C D vc) (Y ad B cap) d.fS.next d.seq d.tx d.base:=(nM _ _ (by simp)).trans (az w _)
 have HW:ah (dY d l t=if l.length=0 then([],iV)else if (eA (jw d l t) (jC (eI d t) d.tx l)).2.2&& @decide (io (eI d t) d.tx l) (mD (eI d t) d.tx l)then((eA (jw d l t) (jC (eI d t) d.tx l)).2.1,iV)else([],iF)):=rfl
 obtain⟨R,hR⟩:=an (dY d l t);rw[hR]at HW⊢;clear hR;by_cases hz:n=0
 ·have HE:ah (R=([],iV)):=by show _=_;rw[HW.o,aj (by omega)]
  have FN:ah (iG w ([],iV) (G (iU #[Y (X ⟨w.heap.size+1,0,O⟩) 0 0,iB iV])) ((w.alloc (iC #[Y g d.fH.length f,Y C D vc,Y ad B cap,I J d.fS.next,I J d.seq,I J d.tx,I J d.base] 46)).alloc (iC #[] 184))):=⟨_,rfl,n1.1,n1.2⟩;have aW:((n:Int)==0)=iV:=by simp[hz]
  clear HW b0 n1 g0 h h1 h2 h3 hr s0 s1 ao hz;go_enter Tryz.func50,Tryz.ntmps50;go_wp2;refine aF (cE rfl _ _ _) rfl ?_;rw[HE.o];exact FN.o
 have aW:((n:Int)==0)=iF:=by rw[dZ];omega
 rw[ai (by rw[ae.o];exact hz)]at HW
 have b2:iL w.heap.size w (((w.alloc (iC #[Y g d.fH.length f,Y C D vc,Y ad B cap,I J d.fS.next,I J d.seq,I J d.tx,I J d.base] 46)).alloc (iC #[] 184)).alloc (iC #[Y g d.fH.length f] 38)):=n1.2.alloc n1.2.size _;have ak:iL ((w.alloc (iC #[Y g d.fH.length f,Y C D vc,Y ad B cap,I J d.fS.next,I J d.seq,I J d.tx,I J d.base] 46)).alloc (iC #[] 184)).heap.size ((w.alloc (iC #[Y g d.fH.length f,Y C D vc,Y ad B cap,I J d.fS.next,I J d.seq,I J d.tx,I J d.base] 46)).alloc (iC #[] 184)) (((w.alloc (iC #[Y g d.fH.length f,Y C D vc,Y ad B cap,I J d.fS.next,I J d.seq,I J d.tx,I J d.base] 46)).alloc (iC #[] 184)).alloc (iC #[Y g d.fH.length f] 38)):=aY;have g2:(((w.alloc (iC #[Y g d.fH.length f,Y C D vc,Y ad B cap,I J d.fS.next,I J d.seq,I J d.tx,I J d.base] 46)).alloc (iC #[] 184)).alloc (iC #[Y g d.fH.length f] 38)).heap[((w.alloc (iC #[Y g d.fH.length f,Y C D vc,Y ad B cap,I J d.fS.next,I J d.seq,I J d.tx,I J d.base] 46)).alloc (iC #[] 184)).heap.size]?=X (iC #[Y g d.fH.length f] 38 (0,0)):=az _ _;have W2:ah (jA w (((w.alloc (iC #[Y g d.fH.length f,Y C D vc,Y ad B cap,I J d.fS.next,I J d.seq,I J d.tx,I J d.base] 46)).alloc (iC #[] 184)).alloc (iC #[Y g d.fH.length f] 38)) ((w.alloc (iC #[Y g d.fH.length f,Y C D vc,Y ad B cap,I J d.fS.next,I J d.seq,I J d.tx,I J d.base] 46)).alloc (iC #[] 184)).heap.size (Y g d.fH.length f) (Y (X ⟨w.heap.size+1,0,O⟩) 0 0) d.fH []):=
  ⟨b2,g2,jS.of_rdb h1 b2 (by omega),bu n1.1 ak,h2,by omega⟩
 have G2:=af (g0.below ak);have y0:=g0.cells.1;have aE:=af hr;have aw:=s1;clear b0 n1 g0 b2 ak g2 s0 s1 h h1 h2 h3 hr ao;generalize a2:(w.alloc (iC #[Y g d.fH.length f,Y C D vc,Y ad B cap,I J d.fS.next,I J d.seq,I J d.tx,I J d.base] 46)).alloc (iC #[] 184)=E at y0 W2 G2 aw;generalize a3:E.alloc (iC #[Y g d.fH.length f] 38)=w2 at W2 G2;obtain⟨-,-,-,-,y4,y5,-⟩:=G2.o.cells;have aG:=af aw;clear aw;go_enter Tryz.func50,Tryz.ntmps50;go_upto_if 25 with fail
 clear a2 a3 y0;obtain⟨te,ac⟩:=an t.toList.isEmpty;rw[ac];rw[Hv]at ac;go_cut [8,10,11] (λs8 a6 a7 V=>∃(u8 v8:iX) (a:List Bk) (v:List aM) (b:Bool) (sq:Int),s8=u8/\a6=I J sq/\a7=iB b/\v.length<=1/\ah (jw d l t=(a,v,b))/\ah (sq=eI d t∨b=iF)/\ah (jA w V E.heap.size v8 u8 a v)/\ah (aP V w.heap.size (Y g d.fH.length f) (Y C D vc) (Y ad B cap) d.fS.next d.seq d.tx d.base))
 case first=>
  cases te with
  |true=>
   have ht:t.size=0:=qc ac;have HQ:ah (jw d l t=(d.fH,[],iV)):=by show _=_;unfold jw;rw[aj ht]
   have u:ah (d.seq=eI d t∨iV=iF):=.inl (by unfold eI;rw[aj ht])
   have P:([]:List aM).length<=1:=aI _;go_wp2_with fail;go_meet
   case rel=>exact⟨_,_,d.fH,[],iV,d.seq,rfl,rfl,rfl,aI _,HQ,u,W2,G2⟩
  |false=>
   have ht:¬t.size=0:=of_decide_eq_false ac;obtain⟨m,hm⟩:∃m,n=m+1:=⟨n-1,by omega⟩
   obtain⟨r,av⟩:∃r,l[m]?=X r:=⟨_,ay (by have:=ae.o;omega)⟩
   obtain⟨N,al⟩:=an r.fC;have aN:pe l=N:=by
    unfold pe;rw[List.getLast?_eq_getElem?,show l.length-1=m by have:=ae.o;omega,av,<-al]
    rfl
   obtain⟨rb,ro,aZ,ar,aS⟩:=aE.o.2.2.2 (by omega)
   have SW:w.cell? ⟨rb,ro+m*4+3,O⟩=X (I J N):=by
    have:=(aS m r.tu (by rw[bk,av];rfl)).2.2.2
    rw[<-al];exact this
   have SD:w2.drew.cell? ⟨rb,ro+m*4+3,O⟩=X (I J N):=(W2.o.1.cell ar).trans SW;subst aZ;have a4:IntKind.i64.wrap ((n:Int)-1)=(m:Int):=by rw[cL];omega
   have bb:(0:Int)<=m:=by omega
   have bc:(m:Int)<n:=by omega
   have b7:iL w2.heap.size w2 w2.drew:=(ax _ _).drew;have c:=af (W2.o.below b7);have G7:=af (G2.o.below b7);have y9:w2.drew.cell? ⟨E.heap.size,0,O⟩=X (Y g d.fH.length f):=am _ _ 0 _ _ _ c.o.2.1;have U:=af (Dy (Y g d.fH.length f) (Y (X ⟨w.heap.size+1,0,O⟩) 0 0) d.fH [] (jZ d.seq N t) w.heap.size E.heap.size w2.drew c.o.2.2.2.2.1 (by simp) c.o.2.2.1 c.o.2.2.2.1 c.o.1.size (aJ.1 c.o.2.1).1)
   have H:=af (Ba c.o.2.2.2.2.1 [] (jZ d.seq N t));have P:=sO d.fH [] (jZ d.seq N t);have HQ:ah (jw d l t=cH d.fH [] (jZ d.seq N t)):=by show _=_;unfold jw;rw[ai ht,aN]
   have u:ah (IntKind.i64.wrap (d.seq+1)=eI d t∨(cH d.fH [] (jZ d.seq N t)).2.2=iF):=by
    by_cases hr:(jZ d.seq N t).Right
    ·left;have h1:1<=d.seq:=hr.2.1;have h2:d.seq<=1000000000:=hr.2.2.1;unfold eI;rw[ai ht,cL];omega
    ·right;unfold cH;rw[ai (by unfold kS;rw[ai hr];simp)]
   obtain⟨a,v,b,h8⟩:∃a v b,cH d.fH [] (jZ d.seq N t)=(a,v,b):=⟨_,_,_,rfl⟩;rw[h8]at U H HQ u P;simp only at H u P;unfold i7 jZ at U;simp only at U;have aV:w.heap.size<w2.drew.heap.size:=G7.o.lt;have HM:=af hm;clear h8 b7 aS aN al av ht SW W2 G2 hm;go_upto_region 8 with fail
   refine kJ (λw'=>w'.cell? ⟨rb,ro+m*4+3,O⟩=X (I J N)) (by kernel_rfl) SD (λhHeld=>?_)
   simp only[aR,cU,Nat.reduceAdd];refine au 1 ?_;refine au 2 ?_;refine au 3 ?_;refine au 4 ?_;refine au 5 ?_;refine au 6 ?_;refine au 7 ?_;refine au 8 ?_;refine au 9 ?_;refine au 10 ?_;refine au 11 ?_;refine ch 0 rfl (by kernel_rfl) (λK A=>?_)
   go_simp;refine A.out _ _ SD (λhHeld2=>?_)
   clear A K hHeld;have hHeld:=hHeld2;clear hHeld2
   (try simp only[Act.put,bJ,bE,bp])
   refine ch 12 rfl (by kernel_rfl) (λK A=>?_)
   go_simp;refine U.o.mono ?_;rintro e F ⟨v8,u8,rfl,r8,o8,k8⟩;obtain⟨s,q,rfl⟩:=r8.rdb.form;have W8:=af (c.o.put k8 r8 o8 H.o);have L:=c.o.cell k8;have z0:=L.1;have z1:=L.2;have SE:F.cell? ⟨rb,ro+m*4+3,O⟩=X (I J N):=((k8.down c.o.1.size (λi hi e=>by simp[Value.ownBlock]at e;omega)).cell ar).trans SD
   have SF:(F.setCell ⟨E.heap.size,0,O⟩ (Y s a.length q)).cell? ⟨rb,ro+m*4+3,O⟩=X (I J N):=(gP _ _ _ _ (λe=>by have h5:=congrArg Addr.block e;have h6:=aG.o;have h7:=c.o.2.2.2.2.2;simp only at h5;have h8:rb<w.heap.size:=ar;omega)).trans SE
   have G8:ah (aP (F.setCell ⟨E.heap.size,0,O⟩ (Y s a.length q)) w.heap.size (Y g d.fH.length f) (Y C D vc) (Y ad B cap) d.fS.next d.seq d.tx d.base):=(aU _ _ _ _ (show w.heap.size≠E.heap.size by have:=aG.o;omega)).trans ((k8.2.2.2.2 w.heap.size aV (λe=>by simp[Value.ownBlock]at e)).trans G7.o)
   clear L r8 o8 k8 U c G7;refine A.out _ _ SE (λhHeld2=>?_)
   clear A K hHeld;have hHeld:=hHeld2;clear hHeld2;refine au 13 ?_;refine au 14 ?_;refine au 15 ?_;refine au 16 ?_;refine ch 17 rfl (by kernel_rfl) (λK A=>?_)
   go_simp;refine A.out _ _ SF (λhHeld2=>?_)
   clear A K hHeld;have hHeld:=hHeld2;clear hHeld2
   (try simp only[Act.put,bJ,bE,bp])
   refine au 18 ?_;refine au 19 ?_;refine jx (by kernel_rfl) ?_
   clear hHeld SD SE SF z0 z1 y9 y4 y5 a4;obtain⟨sq,a0⟩:=an (IntKind.i64.wrap (d.seq+1));rw[a0]at u;go_wp2_with fail;go_meet
   case rel=>exact⟨_,_,a,v,b,sq,rfl,rfl,rfl,P,HQ,u,W8,G8⟩
 case rest=>
  obtain⟨w9,hV⟩:∃w9,w9=wc:=⟨_,rfl⟩;subst hV;clear W2 G2 y4 y5;obtain⟨u8,v8,a,v,b,sq,rfl,rfl,rfl,P,HQ,u,W8,G8⟩:=hcut;obtain⟨-,-,-,-,y4,y5,-⟩:=G8.o.cells;go_upto_region 10 with fail
  have CT:=af (WC sq d.tx _ n rc l w9 hn (aE.o.below W8.o.1));obtain⟨Q,hQ⟩:=an (jC sq d.tx l);have aQ:Q.length<=9:=by rw[<-hQ];exact Eh _ _ _
  obtain⟨np,ap⟩:=an Q.length;obtain⟨aT,aa⟩:=an (@decide (io sq d.tx l) (mD sq d.tx l));rw[hQ,aa]at CT;have z:ah (R=if (eA (a,v,b) Q).2.2&&aT then((eA (a,v,b) Q).2.1,iV)else([],iF)):=by
   show _=_;rw[HW.o,HQ.o];rcases u.o with e|e
   ·rw[<-e,hQ,aa]
   ·rw[Dc _ _ (by exact e),Dc _ _ (by exact e)]
    show(if (b&&_)=iV then _ else _)=(if (b&&_)=iV then _ else _)
    rw[e];rfl
  rw[ap]at aQ;have ag:=af ap;clear HW HQ u hQ aa ap;go_wp2_with fail;refine CT.o.mono ?_;rintro e w5 ⟨pv,rfl,po,b5⟩;have W5:=af (W8.o.below b5);obtain⟨pa,pcap,rfl,-,-,aq⟩:=lN po;rw[ag.o]at po aq⊢;have aX:0<np->∃pb,pa=X ⟨pb,0,O⟩:=λhp=>by
   obtain⟨pb,e,-⟩:=aq hp;exact⟨pb,e⟩
  have aH:ah (∀pb,pa=X ⟨pb,0,O⟩->mh w w5 pb np pcap Q):=λpb e=>by subst e;exact qM po W8.o.1.size
  clear aq po b5 CT W8 G8 y4 y5;go_wp2;go_loopw [8,11,14] (λuv a5 iv wr=>∃(k:Nat) (u6 v6:iX) (j:List Bk) (S:List aM) (T:Bool),u6=uv/\a5=iB T/\iv=I J k/\k<=np/\S.length<=k+1/\ah (jA w wr E.heap.size v6 u6 j S)/\ah (∀pb,pa=X ⟨pb,0,O⟩->mh w wr pb np pcap Q)/\ah (eA (a,v,b) Q=eA (j,S,T) (Q.drop k))) (λ_ _ iv _=>np-(intOf iv).toNat)
  case atStart=>exact⟨0,_,_,_,_,_,rfl,rfl,rfl,aI _,P,W5,aH,rfl⟩
  case round=>
   rename iW=>wr
   obtain⟨k,u6,v6,j,S,T,a1,rfl,rfl,hk,a9,Z,M,y⟩:=hrel;subst a1;clear W5 aH;have a8:(0:Int)<=k:=by omega
   by_cases ba:(k:Int)<np
   ·cases T with
    |true=>
     obtain⟨pb,rfl⟩:=aX (by omega)
     obtain⟨p,hp⟩:∃p,Q[k]?=X p:=⟨_,ay (by have:=ag.o;omega)⟩
     have HD:ah (Q.drop k=p::Q.drop (k+1)):=gj (aD.1 hp).1|>.trans (by rw[(aD.1 hp).2])
     have HP:=af hp;obtain⟨p0,p1,p2,p3,p4,p5⟩:=p;have b7:iL wr.heap.size wr wr.drew:=(ax _ _).drew;have c:=af (Z.o.below b7);have ab:ah (mh w wr.drew pb np pcap Q):=bu (M.o pb rfl) b7;have SD:wr.drew.cell? ⟨pb,k*6,O⟩=X (I J p0)/\wr.drew.cell? ⟨pb,k*6+1,O⟩=X (I J p1)/\wr.drew.cell? ⟨pb,k*6+2,O⟩=X (I J p2)/\wr.drew.cell? ⟨pb,k*6+3,O⟩=X (I J p3)/\wr.drew.cell? ⟨pb,k*6+4,O⟩=X (I J p4)/\wr.drew.cell? ⟨pb,k*6+5,O⟩=X (iT p5):=ab.o.at hp;obtain⟨vd,vc,rfl⟩:=c.o.2.2.1.rdb.form;have y9:wr.drew.cell? ⟨E.heap.size,0,O⟩=X (Y vd j.length vc):=am _ _ 0 _ _ _ c.o.2.1;have U:=af (Dy (Y vd j.length vc) u6 j S ⟨p0,p1,p2,p3,p4,p5⟩ w.heap.size E.heap.size wr.drew c.o.2.2.2.2.1 (by omega) c.o.2.2.1 c.o.2.2.2.1 c.o.1.size (aJ.1 c.o.2.1).1)
     have H:=af (Ba c.o.2.2.2.2.1 S ⟨p0,p1,p2,p3,p4,p5⟩);have aB:=sO j S ⟨p0,p1,p2,p3,p4,p5⟩;have aC:ah (eA (a,v,b) Q=eA (cH j S ⟨p0,p1,p2,p3,p4,p5⟩) (Q.drop (k+1))):=by show _=_;rw[y.o,HD.o,eA,aj rfl]
     obtain⟨a,v,b,h8⟩:∃a v b,cH j S ⟨p0,p1,p2,p3,p4,p5⟩=(a,v,b):=⟨_,_,_,rfl⟩;rw[h8]at U H aC aB;simp only at H aB;unfold i7 at U;simp only at U;clear h8 hp b7 M y HD Z;go_upto_region 14 with fail
     refine kJ (λw'=>w'.cell? ⟨pb,k*6,O⟩=X (I J p0)/\w'.cell? ⟨pb,k*6+1,O⟩=X (I J p1)/\w'.cell? ⟨pb,k*6+2,O⟩=X (I J p2)/\w'.cell? ⟨pb,k*6+3,O⟩=X (I J p3)/\w'.cell? ⟨pb,k*6+4,O⟩=X (I J p4)/\w'.cell? ⟨pb,k*6+5,O⟩=X (iT p5)) (by kernel_rfl) SD (λhHeld=>?_)
     simp only[aR,cU,Nat.reduceAdd];refine au 1 ?_;refine au 2 ?_;refine au 3 ?_;refine au 4 ?_;refine au 5 ?_;refine ch 0 rfl (by kernel_rfl) (λK A=>?_)
     go_simp;refine A.out _ _ SD (λhHeld2=>?_)
     clear A K hHeld;have hHeld:=hHeld2;clear hHeld2
     (try simp only[Act.put,bJ,bE,bp])
     refine ch 6 rfl (by kernel_rfl) (λK A=>?_)
     go_simp;refine U.o.mono ?_;rintro e F ⟨v8,u8,rfl,r8,o8,k8⟩;obtain⟨s,q,rfl⟩:=r8.rdb.form;have W8:=af (c.o.put k8 r8 o8 H.o);have aK:=af (ab.o.kept0 c.o k8);have aL:ah (∀aA,X (⟨pb,0,O⟩:Addr)=X ⟨aA,0,O⟩->mh w (F.setCell ⟨E.heap.size,0,O⟩ (Y s a.length q)) aA np pcap Q):=λaA e=>by
      injection e with e
      injection e with e
      subst e;exact ab.o.kept c.o k8
     have SE:F.cell? ⟨pb,k*6,O⟩=X (I J p0)/\F.cell? ⟨pb,k*6+1,O⟩=X (I J p1)/\F.cell? ⟨pb,k*6+2,O⟩=X (I J p2)/\F.cell? ⟨pb,k*6+3,O⟩=X (I J p3)/\F.cell? ⟨pb,k*6+4,O⟩=X (I J p4)/\F.cell? ⟨pb,k*6+5,O⟩=X (iT p5):=aK.o.at HP.o;have SF:(F.setCell ⟨E.heap.size,0,O⟩ (Y s a.length q)).cell? ⟨pb,k*6,O⟩=X (I J p0)/\(F.setCell ⟨E.heap.size,0,O⟩ (Y s a.length q)).cell? ⟨pb,k*6+1,O⟩=X (I J p1)/\(F.setCell ⟨E.heap.size,0,O⟩ (Y s a.length q)).cell? ⟨pb,k*6+2,O⟩=X (I J p2)/\(F.setCell ⟨E.heap.size,0,O⟩ (Y s a.length q)).cell? ⟨pb,k*6+3,O⟩=X (I J p3)/\(F.setCell ⟨E.heap.size,0,O⟩ (Y s a.length q)).cell? ⟨pb,k*6+4,O⟩=X (I J p4)/\(F.setCell ⟨E.heap.size,0,O⟩ (Y s a.length q)).cell? ⟨pb,k*6+5,O⟩=X (iT p5):=(aL.o pb rfl).at HP.o;have L:=c.o.cell k8;have z0:=L.1;have z1:=L.2;clear L r8 o8 k8 U c ab aK;refine A.out _ _ SE (λhHeld2=>?_)
     clear A K hHeld;have hHeld:=hHeld2;clear hHeld2;refine au 7 ?_;refine au 8 ?_;refine au 9 ?_;refine au 10 ?_;refine ch 11 rfl (by kernel_rfl) (λK A=>?_)
     go_simp;refine A.out _ _ SF (λhHeld2=>?_)
     clear A K hHeld;have hHeld:=hHeld2;clear hHeld2
     (try simp only[Act.put,bJ,bE,bp])
     refine au 12 ?_;refine au 13 ?_;refine jx (by kernel_rfl) ?_
     clear hHeld SD SE SF z0 z1 y9 HP;go_wp2;go_roundw
     case rel=>exact⟨k+1,u8,_,a,v,b,rfl,rfl,by go_num,by omega,by omega,W8,aL,aC⟩
     case measure=>simp[intOf];omega
    |false=>
     have HF:ah (eA (a,v,b) Q=(j,S,iF)):=by show _=_;rw[y.o];exact Dc _ _ rfl
     have HE:ah (R=([],iF)):=by show _=_;rw[z.o,HF.o];rfl
     have W:=ny Z.o.1 wr.heap.size rfl;have FN:ah (iG w ([],iF) (G (iU #[Y (X ⟨wr.heap.size,0,O⟩) 0 0,iB iF])) (wr.alloc (iC #[] 184))):=⟨_,rfl,W.1,W.2⟩;clear z HF W Z M y;go_wp2;refine aF (cE rfl _ _ _) rfl ?_;rw[HE.o];exact FN.o
   ·have HF:ah (eA (a,v,b) Q=(j,S,T)):=by show _=_;rw[y.o,List.drop_of_length_le (by have:=ag.o;omega)];rfl
    cases T with
    |false=>
     have HE:ah (R=([],iF)):=by show _=_;rw[z.o,HF.o];rfl
     have W:=ny Z.o.1 wr.heap.size rfl;have FN:ah (iG w ([],iF) (G (iU #[Y (X ⟨wr.heap.size,0,O⟩) 0 0,iB iF])) (wr.alloc (iC #[] 184))):=⟨_,rfl,W.1,W.2⟩;clear z HF W Z M y;go_wp2;refine aF (cE rfl _ _ _) rfl ?_;rw[HE.o];exact FN.o
    |true=>
     cases aT with
     |false=>
      have HE:ah (R=([],iF)):=by show _=_;rw[z.o,HF.o];rfl
      have W:=ny Z.o.1 wr.heap.size rfl;have FN:ah (iG w ([],iF) (G (iU #[Y (X ⟨wr.heap.size,0,O⟩) 0 0,iB iF])) (wr.alloc (iC #[] 184))):=⟨_,rfl,W.1,W.2⟩;clear z HF W Z M y;go_wp2;refine aF (cE rfl _ _ _) rfl ?_;rw[HE.o];exact FN.o
     |true=>
      have HE:ah (R=(S,iV)):=by show _=_;rw[z.o,HF.o];rfl
      have FN:ah (iG w (S,iV) (G (iU #[u6,iB iV])) wr):=⟨_,rfl,Z.o.2.2.2.1,Z.o.1⟩;clear z HF Z M y;go_wp2;refine aF (cE rfl _ _ _) rfl ?_;rw[HE.o];exact FN.o
def vC(d:Dv)(b:Nat):Option Int:=match d.fH[b]? with
 |none=>O
 |some x=>if !x.1&& !pw x&&decide (nV (aw d.fH) (be d.fS) d.base (b:Int)=0)then X (b:Int)else O
def oZ(d:Dv)(k:Nat):List Int:=(List.range k).filterMap (vC d)
theorem x8(d:Dv)(k:Nat):oZ d (k+1)=oZ d k++(vC d k).toList:=by
 unfold oZ;rw[qb,nh];congr 1
def nK(w W:iW)(u:iX)(l:List Int):Prop:=iL w.heap.size w W/\W.ownsRow w.heap.size 3 1 u l.length (aE l)
theorem nK.below{w W W':iW}{u:iX}{l:List Int}(h:nK w W u l)(a:iL W.heap.size W W'):nK w W' u l:=⟨h.1.trans (a.mono h.1.size),bu h.2 a⟩
theorem nK.snoc{w W a:iW}{u c:iX}{l:List Int}{t:TypeId}(h:nK w W u l)(f:a.ownsRow w.heap.size 3 1 c (l.length+1) (aE l++[I J x]))(d:(W.alloc (iC #[I J x] t)).grownBy a u.ownBlock):nK w a c (l++[x]):=by
 have b:=h.below ((ax _ _).alloc (ak _) (iC #[I J x] t));refine⟨b.1.grown d b.1.size (λk e=>(h.2.lt k e).1),?_⟩
 rw[aT,<-tA];exact f
theorem nK.fresh(w:iW):nK w (w.alloc (iC #[] 3)) (Y (X ⟨w.heap.size,0,O⟩) 0 0) []:=
 ⟨aY,rfl,.inr ⟨w.heap.size,0,#[],rfl,ak _,az w _,ak _,by unfold maxLen;omega,rfl,rfl⟩⟩
theorem Sk(x:iX)(d:Dv)(w:iW)(h:fU w x d):iK Tryz.prog 109 #[x] w (pJ w (oN d)):=by
 obtain⟨i0,ao,av,aA,aB⟩:=bK nG;obtain⟨fd,Z,v,A,vc,ad,t,cap,rfl,h1,h2,h3⟩:=h.form;have V:=aO w (iC #[Y fd d.fH.length Z,Y v A vc,Y ad t cap,I J d.fS.next,I J d.seq,I J d.tx,I J d.base] 46);have gA:aP (w.alloc (iC #[Y fd d.fH.length Z,Y v A vc,Y ad t cap,I J d.fS.next,I J d.seq,I J d.tx,I J d.base] 46)) w.heap.size (Y fd d.fH.length Z) (Y v A vc) (Y ad t cap) d.fS.next d.seq d.tx d.base:=az _ _;generalize ar:w.alloc (iC #[Y fd d.fH.length Z,Y v A vc,Y ad t cap,I J d.fS.next,I J d.seq,I J d.tx,I J d.base] 46)=wa at V gA;obtain⟨rs,e1,i1,l1,F,ae⟩:=(h1.below V).lens h2;have CS:=af (pR (Y fd d.fH.length Z) rs wa l1 F ae i1);rw[e1]at CS;unfold nH at CS;have p:=h3.fit;have ap:=wP d.fS;have T:ah ((be d.fS).length<=16*1048576):=by have:=p.1;show _<=_;omega
 have B:ah (oN d=oZ d d.fH.length):=rfl;have S:ah (∀(k:Nat) (y:Bk),d.fH[k]?=X y->vC d k=if !y.1&& !pw y&&decide (ei (aw d.fH) (cK (aw d.fH) (be d.fS) d.base) (k:Int)=0)then X (k:Int)else O):=λk y hy=>by unfold vC;rw[hy];rfl
 obtain⟨R,hR⟩:=an (oN d);rw[hR]at B⊢;obtain⟨M,hM⟩:=an (aw d.fH);rw[hM]at CS S;have HS:=af (h3.below V);have HF:=af i1;have ag:=af e1;have ai:=af F;have aj:ah (rs.length=d.fH.length):=by show _=_;rw[<-e1,aS]
 have aJ:d.fH.length<=1048576:=h2.1;have HB:=af V;have HG:=af gA;have y0:=gA.cells.1;clear h1 h2 h3 h e1 i1 l1 F ae hM hR V gA p ap;go_enter Tryz.func109,Tryz.ntmps109;go_wp2_with fail;clear ar;refine CS.o.mono ?_;rintro e G ⟨la,lc,rfl,f1,f2,f3⟩;have b7:iL G.heap.size G G.drew:=(ax _ _).drew;have W:=f3.trans (b7.mono f3.size);have HR:=af (f1.below b7);have U:=af f2;have K:=af (HG.o.below W);have S1:=af (HS.o.below W);have B1:=af (HB.o.trans (W.mono HB.o.size));have F1:=af (HF.o.below W);have SD:G.drew.cell? ⟨w.heap.size,1,O⟩=X (Y v A vc)/\G.drew.cell? ⟨w.heap.size,2,O⟩=X (Y ad t cap)/\G.drew.cell? ⟨w.heap.size,3,O⟩=X (I J d.fS.next)/\G.drew.cell? ⟨w.heap.size,6,O⟩=X (I J d.base):=⟨K.o.cells.2.1,K.o.cells.2.2.1,K.o.cells.2.2.2.1,K.o.cells.2.2.2.2.2.2⟩;clear CS f1 f2 f3 W b7 HG HS HB HF y0;go_wp2_with fail;go_region_held3 (λw'=>w'.cell? ⟨w.heap.size,1,O⟩=X (Y v A vc)/\w'.cell? ⟨w.heap.size,2,O⟩=X (Y ad t cap)/\w'.cell? ⟨w.heap.size,3,O⟩=X (I J d.fS.next)/\w'.cell? ⟨w.heap.size,6,O⟩=X (I J d.base)) (first|(with_reducible exact SD)|(with_reducible exact SE)|(with_reducible exact SF)|go_keep) (first
  |(go_at_call 73;refine(xD _ d.fS _ S1.o).mono ?_;rintro e w2 ⟨lv,rfl,ho,P⟩;obtain⟨ia,ic,rfl,aa,-,-⟩:=lW.of ho (by have:=T.o;unfold maxLen;omega) P;have L:=af (K.o.below P);have B2:=af (B1.o.trans (P.mono B1.o.size));have F2:=af (F1.o.below P);have C:=af (HR.o.below P);have SE:w2.cell? ⟨w.heap.size,1,O⟩=X (Y v A vc)/\w2.cell? ⟨w.heap.size,2,O⟩=X (Y ad t cap)/\w2.cell? ⟨w.heap.size,3,O⟩=X (I J d.fS.next)/\w2.cell? ⟨w.heap.size,6,O⟩=X (I J d.base):=⟨L.o.cells.2.1,L.o.cells.2.2.1,L.o.cells.2.2.2.1,L.o.cells.2.2.2.2.2.2⟩;have CN:=af (wM la M.length lc M ia (be d.fS).length ic (be d.fS) d.base w2 U.o (by have:=T.o;omega) C.o aa);clear ho aa P)
  |(go_at_call 138;refine CN.o.mono ?_;rintro e H ⟨g,rfl,g1,g2,g3,g4⟩;have Q:=af (L.o.below g4);have B3:=af (B2.o.trans (g4.mono B2.o.size));have F3:=af (F2.o.below g4);have al:=af (C.o.below g4);have ak:=af g3;have SF:H.cell? ⟨w.heap.size,1,O⟩=X (Y v A vc)/\H.cell? ⟨w.heap.size,2,O⟩=X (Y ad t cap)/\H.cell? ⟨w.heap.size,3,O⟩=X (I J d.fS.next)/\H.cell? ⟨w.heap.size,6,O⟩=X (I J d.base):=⟨Q.o.cells.2.1,Q.o.cells.2.2.1,Q.o.cells.2.2.2.1,Q.o.cells.2.2.2.2.2.2⟩;clear g1 g2 g3 g4))
 all_goals
  clear SD SE SF CN K L S1 B1 B2 F1 F2 HR C;have N0:=af (nK.fresh H);go_wp2;go_loopw [5,6] (λov bv wr=>∃(b:Nat) (l:List Int) (u:iX),ov=u/\bv=I J b/\b<=d.fH.length/\l.length<=b/\ah (l=oZ d b)/\ah (nK H wr u l)) (λ_ bv _=>d.fH.length-(intOf bv).toNat)
  case atStart=>exact⟨0,[],_,rfl,rfl,aI _,aI _,rfl,N0⟩
  case round=>
   rename iW=>wr
   obtain⟨b,l,ov,rfl,rfl,hb,aD,i,N⟩:=hrel;clear N0;have y0:=(Q.o.below N.o.1).cells.1;have aF:(0:Int)<=b:=by omega
   by_cases aG:(b:Int)<d.fH.length
   ·obtain⟨r,hr⟩:∃r,rs[b]?=X r:=⟨_,ay (by have:=aj.o;omega)⟩
    have ac:d.fH[b]?=X (aC r):=by rw[<-ag.o,bk,hr];rfl
    obtain⟨gv,e,⟨c1,c2,c3⟩,j⟩:=(F3.o.below N.o.1).at hr;subst e;have D:=ai.o r (aH hr);obtain⟨x,y,u,ls⟩:=r;have a:ah (vC d b=if (!x&& !pw (x,y,ls)&&decide (ei M (cK M (be d.fS) d.base) (b:Int)=0))=iV then X (b:Int)else O):=S.o b (x,y,ls) ac
    simp only at c1 c2 c3 j D;have ab:=j;obtain⟨ld,E,rfl,-,-⟩:=ab;have bX:=aO wr (iC #[iB x,I J y,Y ld ls.length E] 107);have hX:=az wr (iC #[iB x,I J y,Y ld ls.length E] 107);have x0:=am _ _ 0 _ _ _ hX;have x1:=am _ _ 1 _ _ _ hX;have x2:=am _ _ 2 _ _ _ hX;simp only[mH,tP,qY]at x0 x1 x2;clear hX;generalize au:wr.alloc (iC #[iB x,I J y,Y ld ls.length E] 107)=wx at bX x0 x1 x2;have NX:=af (N.o.below bX);have CB:=af (Vg x y _ ls wx D (j.below bX));obtain⟨z,hz⟩:=an (pw (x,y,ls));rw[hz]at CB a;clear hr ac j D hz bX N;cases x with
    |true=>
     have n:ah (l=oZ d (b+1)):=by
      show _=_;rw[x8,a.o]
      simpa using i.o
     clear a i CB;go_wp2;go_roundw
     case rel=>exact⟨b+1,l,_,rfl,by go_num,by omega,by omega,n,NX⟩
     case measure=>simp[intOf];omega
    |false=>
     go_wp2_with fail;clear au;refine CB.o.mono ?_;rintro e w5 ⟨rfl,b5⟩;have m:=af (NX.o.below b5);clear CB NX b5 x0 x1 x2 c1 c2 c3 y0;cases z with
     |true=>
      have n:ah (l=oZ d (b+1)):=by
       show _=_;rw[x8,a.o]
       simpa using i.o
      clear a i;go_wp2;go_roundw
      case rel=>exact⟨b+1,l,_,rfl,by go_num,by omega,by omega,n,m⟩
      case measure=>simp[intOf];omega
     |false=>
      have CO:=af (Bv la M.length lc M g M.length M.length (cK M (be d.fS) d.base) b w5 U.o (re _ _ _) rfl (al.o.below m.o.1) (ak.o.below m.o.1));obtain⟨q,hq⟩:=an (ei M (cK M (be d.fS) d.base) (b:Int));rw[hq]at CO a;clear hq;go_wp2_with fail;refine CO.o.mono ?_;rintro e w6 ⟨rfl,rfl⟩;by_cases f:q=0
      ·have n:ah (l++[(b:Int)]=oZ d (b+1)):=by
        show _=_;rw[x8,a.o,f,<-i.o];simp
       have aq:((q:Int)==0)=iV:=by simp[f]
       clear a i CO f;go_wp2_with (at_builtin;refine cN _ rfl _ _ 72 rfl H.heap.size 3 i0 (I J 0) 1 8 Tryz.underlying72 ao av aA aB rfl (by decide) _ l.length (aE l) rfl (m.o.2.alloc _) ⟨w6.heap.size,0,O⟩ 1 1 [I J _] rfl rfl (by exact nw _ _ _) (vg _) ?g1 ?g2 ?g3 ?_)
       case g1=>unfold maxLen;omega
       case g2=>omega
       case g3=>have:=m.o.1.size;simp;omega
       intro v' w7 s c _;have NS:=af (m.o.snoc s c);have NN:(l++[(b:Int)]).length=l.length+1:=by simp
       generalize l++[(b:Int)]=l3 at n NS NN;clear s c m;go_wp2;go_roundw
       case rel=>exact⟨b+1,l3,_,rfl,by go_num,by omega,by omega,n,NS⟩
       case measure=>simp[intOf];omega
      ·have n:ah (l=oZ d (b+1)):=by
        show _=_;rw[x8,a.o,aV f]
        simpa using i.o
       have aq:((q:Int)==0)=iF:=by rw[dZ];omega
       clear a i CO f;go_wp2;go_roundw
       case rel=>exact⟨b+1,l,_,rfl,by go_num,by omega,by omega,n,m⟩
       case measure=>simp[intOf];omega
   ·have HE:ah (R=l):=by
     show _=_;rw[B.o,i.o];congr 1;omega
    clear B i;go_wp2;go_ret;rw[HE.o];exact⟨_,rfl,qM N.o.2 B3.o.size,B3.o.trans (N.o.1.mono B3.o.size)⟩
open Pack
def sy(l:List aM):Int:=(l.getLast?.map (λs=>s.2.1)).getD 0
def le(p:Pg)(q:Int):Pg:=⟨p.kind,q,p.tx,p.part,p.count,p.text⟩
def eF(b:Int):List Bk->List aM->Int->List Pg->Option (List Bk×List aM×Int)
 |f,l,q,[]=>X (f,l,q)
 |f,l,q,p::ps=>if (cH f l (le p q)).2.2&&decide (sy (cH f l (le p q)).2.1≠b)then eF b (cH f l (le p q)).1 (cH f l (le p q)).2.1 (q+1) ps else O
def oX(M:List aq)(live:List Int)(b:Int):List aq:=(List.range 4).flatMap λ(lf:Nat)=>(M.zip (cK M live 1000000001)).filterMap λp=>if p.2&&p.1.block==b&&p.1.leaf==(lf:Int)then X p.1 else O
def kY(d:Dv)(b:Int):List aM×Bool:=match eF b d.fH [] d.seq ((oX (aw d.fH) (be d.fS) b).map aq.fP)with
 |some r=>(r.2.1,iV)
 |none=>([],iF)
def tG(p:Pg):Int×Int×ByteArray:=(p.kind,p.tx,p.text)
theorem JK(b:Int):∀(ps:List Pg) {bs:List Bk} {l:List aM} {q:Int} {r:List Bk×List aM×Int},bn bs=iV->(∀y∈aw bs,y.key<q)->eF b bs l q ps=X r->
 ∃(cs:List Bk) (L:List aM) (xs:List aq),r=(cs,l++L,q+ps.length)/\da bs L=(cs,L.length)/\bn cs=iV/\xs.map (λx=>tG x.fP)=ps.map tG/\aw cs=aw bs++xs/\(∀x∈xs,x.fP.Right)/\(∀x∈xs,q<=x.fP.seq)/\(∀s∈L,s.1=1)/\L.length=ps.length/\(∀x∈xs,x.block≠b)
 | [],bs,l,q,r,hok,_,h=>by
  simp only[eF,fu]at h;subst h;exact⟨bs,[],[],by simp,rfl,hok,rfl,by simp,by simp,by simp,by simp,rfl,by simp⟩
 |p::ps,bs,l,q,r,hok,hk,h=>by
  simp only[eF]at h;split at h
  ·rename_i hc
   rw[bt,bW]at hc;obtain⟨cs,s,x,g,i,j,a,k,f,m,n,-⟩:=yW hok (p:=le p q) (λy hy=>hk y hy) hc.1
   rw[g]at h hc;have e:s.2.1≠b:=by
    have:=hc.2;unfold sy at this
    simpa using this
   obtain⟨c,L,xs,o,t,u,v,w,z,A,B,C,d⟩:=JK b ps (bs:=cs) (l:=l++[s]) (q:=q+1) j (λy hy=>by
    rw[f]at hy;rcases br.1 hy with hy|hy
    ·have:=hk y hy;omega
    ·rw[bT]at hy;subst hy;show y.fP.seq<q+1;rw[a];show q<q+1;omega) h
   refine⟨c,s::L,x::xs,?_,?_,u,?_,by rw[w,f];simp,?_,?_,?_,by simp[C],?_⟩
   ·rw[o];simp only[fJ,xZ,aR,oJ,tY];omega
   ·rw[da,i];simp only[cW];rw[t];simp
   ·rw[cD,cD,v,a];rfl
   ·intro y hy;rcases bf.1 hy with rfl|hy
    ·rw[a];exact k
    ·exact z y hy
   ·intro y hy;rcases bf.1 hy with rfl|hy
    ·rw[a];exact kN _
    ·have:=A y hy;omega
   ·intro y hy;rcases bf.1 hy with rfl|hy
    ·exact n
    ·exact B y hy
   ·intro y hy;rcases bf.1 hy with rfl|hy
    ·rw[m];exact e
    ·exact d y hy
  ·cases h
theorem vI{y:aq}(h:y∈oX (aw bs) live b):y∈aw bs/\y.fP.kind=1/\y.fP.tx∈live/\bS (aw bs) y.fP.tx=X y/\y.block=b:=by
 unfold oX at h;obtain⟨lf,-,h⟩:=lE.1 h;obtain⟨p,j,e⟩:=uk.1 h;split at e
 ·rename_i hc
  injection e with e
  subst e;simp only[bt,ky]at hc;obtain⟨i,hi⟩:=ml j;obtain⟨h1,a⟩:=ut.1 hi;rw[pS _ _ h1]at a;injection a with a
  rw[hc.1.1]at a;have f:=aH h1;have k:=sf f;unfold nW at a;have g:(p.1.fP.kind==2&&decide ((1000000001:Int)<=p.1.fP.tx))=iF:=by
   have:=k.2.2.2.2.1;have:¬(1000000001:Int)<=p.1.fP.tx:=by omega
   simp[this]
  rw[g,xK]at a;simp only[bt,ky,tJ,List.contains_iff_mem]at a;refine⟨f,a.1.1,a.1.2,?_,hc.1.2⟩;have c:aw bs=(aw bs).take (i+1)++(aw bs).drop (i+1):=(jP _ _).symm;have d:=qu ((aw bs).take (i+1)) ((aw bs).drop (i+1)) p.1.fP.tx;rw[<-c,CH h1,a.2]at d;rw[d];have:dj p.1.fP.tx p.1=iV:=by unfold dj;simp[a.1.1]
  rw[this];rfl
 ·cases e
variable{d:Dv}{L:List aM}
theorem Me(h:cQ T n d)(q:kY d b=(L,iV)):cQ T n (fF d L):=by
 have w:d.seq=gI (aw d.fH):=congrArg Dv.seq h.up.is;have D:d.fS=eQ (cI (aw d.fH)):=congrArg Dv.fS h.up.is;unfold kY at q;split at q
 ·rename_i r hr
  obtain⟨cs,H,xs,I,K,F,M,m,R,S,U,V,J⟩:=JK b _ h.up.ok (λy hy=>by rw[w];exact Et _ y hy) hr
  rw[I]at q;simp only[iN,oJ,jY]at q;subst q;have k:fF d H=jk cs:=by
   unfold fF eV;rw[K];simp only;rw[aj F]
  have g:∀x∈xs,∃y∈oX (aw d.fH) (be d.fS) b,x.fP.kind=y.fP.kind/\x.fP.tx=y.fP.tx/\x.fP.text=y.fP.text:=λx a=>by
   have:tG x.fP∈((oX (aw d.fH) (be d.fS) b).map aq.fP).map tG:=by rw[<-M];exact ou a
   obtain⟨p,C,e⟩:=bF.1 this;obtain⟨y,hy,rfl⟩:=bF.1 C;unfold tG at e;simp only[oJ]at e;exact⟨y,hy,e.1.symm,e.2.1.symm,e.2.2.symm⟩
  have o:∀x∈xs,x.fP.kind=1:=λx a=>by
   obtain⟨y,hy,e,-,-⟩:=g x a;rw[e];exact(vI hy).2.1
  have l:cI (aw cs)=cI (aw d.fH):=by
   unfold cI;rw[m,dB,YZ];intro p C;obtain⟨x,a,rfl⟩:=bF.1 C;rw[o x a];decide
  have f:(jk cs).fS=d.fS:=by
   show eQ (cI (aw cs))=_;rw[l,<-D]
  have j:∀c,bG (aw cs) c=bG (aw d.fH) c:=λc=>by
   unfold bG;rw[m,qu];cases a:bS xs c with
   |none=>rfl
   |some x=>
    obtain⟨O,P⟩:=pP a;obtain⟨-,N⟩:=ui P;obtain⟨y,hy,Q,z,A⟩:=g x O;have:=(vI hy).2.2.2.1;rw[<-z,N]at this;rw[this];simp only[Option.or];show fp x.fP.text.data.toList=fp y.fP.text.data.toList;rw[A]
  rw[k];refine⟨⟨F,rfl⟩,by rw[f];exact h.st,?_,?_,?_,?_,?_,(by rw[f];exact h.nx),by rw[f];exact h.vi⟩
  ·show jt (aw cs);have i:=h.hd;unfold jt at i⊢;rw[l];cases G:cI (aw d.fH)with
   |nil=>
    rw[G]at i;simp only at i⊢;intro x a;rw[m]at a;rcases br.1 a with a|a
    ·exact i x a
    ·rw[o x a];decide
   |cons t L=>
    rw[G]at i;simp only at i⊢;rcases i with i|i
    ·exact .inl i
    ·right;intro x a v;rw[m]at a;rcases br.1 a with a|a
     ·exact i x a v
     ·have:=o x a;omega
  ·intro c s;rw[f]at s;obtain⟨x,a,E⟩:=h.lv c s;show∃x∈aw cs,_;rw[m];exact⟨x,rj _ a,E⟩
  ·intro x a v;change x∈aw cs at a;rw[m]at a;rcases br.1 a with a|a
   ·exact h.tx x a v
   ·obtain⟨y,hy,-,-,A⟩:=g x a;have:=vI hy;rw[A];exact h.tx y this.1 this.2.1
  ·intro c s c' u B;rw[f]at s u;change bG (aw cs) c=bG (aw cs) c' at B;rw[j,j]at B;exact h.df c s c' u B
  ·intro x a v;change x∈aw cs at a;rw[f];rw[m]at a;rcases br.1 a with a|a
   ·exact h.dn x a v
   ·obtain⟨y,hy,-,z,-⟩:=g x a;have:=vI hy;rw[z];exact h.dn y this.1 this.2.1
 ·cases q
def rT(d:Dv):Bool:=if d.base≠d.tx-1 then iF else match (dA ((aw d.fH).map aq.fP)).find? (λt=>decide (t.num=d.base))with
 |some t=>t.base
 |none=>iF
def ir(d:Dv):Nat->Int×Nat
 |0=>(-1,4)
 |k+1=>match d.fH[k]? with
  |none=>ir d k
  |some x=>if !x.1&&decide (bm x.2.2=4)&&decide (nV (aw d.fH) (be d.fS) d.base (k:Int)=nV (aw d.fH) (be d.fS) 1000000000 (k:Int))&&decide (1<=nV (aw d.fH) (be d.fS) d.base (k:Int))&&decide (nV (aw d.fH) (be d.fS) d.base (k:Int)<(ir d k).2)
   then((k:Int),nV (aw d.fH) (be d.fS) d.base (k:Int))else ir d k
def nD(d:Dv):Int:=(ir d d.fH.length).1
def iY(d:Dv):List aM×Bool:=match oN d with
 |b::_=>([(2,b,0,aK)],iV)
 | []=>if rT d then(if nD d<0 then([],iF)else kY d (nD d))else dY d (gZ d.fS) aK
theorem zK(h:cQ T n d)(a:iY d=(L,iV)):cQ T n (fF d L):=by
 unfold iY at a;split at a
 ·rename_i b l hd
  injection a with a
  subst a;exact Ro h (by rw[hd];simp)
 ·split at a
  ·split at a
   ·cases a
   ·exact Me h a
  ·exact QF h a
def jV:Nat->Dv->List aM->Dv×List aM
 |0,d,l=>(d,l)
 |k+1,d,l=>if cJ d.fH<12 then(if (iY d).2 then jV k (fF d (iY d).1) (l++(iY d).1)else(d,l))else(d,l)
def fX(d:Dv)(a:Int):Dv×List aM:=jV (min a.toNat 20) d []
theorem Fa:∀(k:Nat) {d:Dv} (l:List aM),cQ T n d->cQ T n (jV k d l).1
 |0,d,l,h=>h
 |k+1,d,l,h=>by
  rw[jV];split
  ·split
   ·rename_i hc
    exact Fa k _ (zK h (pV rfl hc))
   ·exact h
  ·exact h
def Dm(l:List UInt8):ByteArray:=⟨l.toArray⟩
def js(d:Dv)(b a:Int):ByteArray×Bool:=
 if (bY d.fS.fV b).isSome then
  if iE d.fS b a=0 then(aK,iV)
  else match bG (aw d.fH) (iE d.fS b a)with
   |some t=>(Dm t,iV)
   |none=>(aK,iF)
 else(aK,iF)
def sT(d:Dv)(q:Ak):Dv×List aM×ByteArray×Int:=
 if mq d=iF then(d,[],aK,5)
 else if (dX d q).2.2≠0 then(d,[],aK,(dX d q).2.2)
 else if q.kind=6 then(if (js d q.vol q.sector).2 then(d,[],(js d q.vol q.sector).1,0)else(d,[],aK,1))
 else
  let c:=if cJ d.fH<12 then fX d 20 else(d,[])
  let w:=dY c.1 (dX c.1 q).1 (dX c.1 q).2.1
  if w.2=iF∨cJ c.1.fH<8 then(c.1,c.2,aK,4)else(fF c.1 w.1,c.2++w.1,aK,0)
theorem WJ{q:Ak}(h:cQ T n d)(k:n<999999998)(b:q.vol<=3)(j:T q.text.data.toList):cQ T (n+1) (sT d q).1:=by
 have h1:cQ T (n+1) d:=h.sub (λ_ x=>x) (by omega)
 unfold sT;split
 ·exact h1
 split
 ·exact h1
 split
 ·split<;>exact h1
 simp only;have a:cQ T n (if cJ d.fH<12 then fX d 20 else(d,[])).1:=by
  split
  ·exact Fa _ _ h
  ·exact h
 generalize(if cJ d.fH<12 then fX d 20 else(d,[]))=c at a⊢
 split
 ·exact a.sub (λ_ x=>x) (by omega)
 ·rename_i hw
  simp only[rD,Bool.not_eq_false]at hw;have l:=QU c.1 q;by_cases f:(dX c.1 q).1=[]
  ·rw[f];have:dY c.1 [] (dX c.1 q).2.1=([],iV):=by unfold dY;simp
   rw[this];simp only;have e:fF c.1 []=c.1:=by
    have g:fF c.1 []=(eV c.1.fH).1:=rfl;have i:eV c.1.fH=(jk c.1.fH,iV):=by unfold eV;rw[aj a.up.ok]
    rw[g,i];exact a.up.is.symm
   rw[e];exact a.sub (λ_ x=>x) (by omega)
  ·exact MZ a k b l f j (pV rfl hw.1)
theorem XH{k:Int}(n:3<=k/\k<=10):cQ T 0 (jk (gL k)):=by
 have j:=(Right.new n).1;have hs:aw (gL k)=[]:=by
  cases e:aw (gL k)with
  |nil=>rfl
  |cons x M=>
   obtain⟨b,l,-,-,i,-,m⟩:=Jr (bs:=gL k) (x:=x) (by rw[e];simp)
   have o:(gL k)[b]?=X (iF,0,eK):=by
    unfold gL at i⊢;rw[aj n]at i⊢;rw[vk]at i;rw[DK,aj i]
   rw[Fq _ b iF 0 o l]at m;cases m
 have g:cI (aw (gL k))=[]:=by rw[hs];rfl
 have a:(jk (gL k)).fS=gO:=by
  show eQ (cI (aw (gL k)))=_;rw[g];rfl
 have d:be gO=[]:=rfl;refine⟨⟨j,rfl⟩,by rw[a];exact Ac,?_,?_,?_,?_,?_,?_,by rw[a];intro v p;cases p⟩
 ·show jt (aw (gL k));unfold jt;rw[g];simp only;intro x f;rw[hs]at f;cases f
 ·intro c h;rw[a,d]at h;cases h
 ·intro x f;change x∈aw (gL k)at f;rw[hs]at f;cases f
 ·intro c h;rw[a,d]at h;cases h
 ·intro x f;change x∈aw (gL k)at f;rw[hs]at f;cases f
 ·rw[a];show(1:Int)<=_;decide
theorem Ui(x:iX)(d:Dv)(w:iW)(h:fU w x d):iK Tryz.prog 112 #[x] w λe w'=>e=G (I J (nD d))/\iL w.heap.size w w':=by
 obtain⟨fd,fc,va,vl,vc,ad,ln,cap,rfl,h1,h2,h3⟩:=h.form;have bA:=aO w (iC #[Y fd d.fH.length fc,Y va vl vc,Y ad ln cap,I J d.fS.next,I J d.seq,I J d.tx,I J d.base] 46);have gA:aP (w.alloc (iC #[Y fd d.fH.length fc,Y va vl vc,Y ad ln cap,I J d.fS.next,I J d.seq,I J d.tx,I J d.base] 46)) w.heap.size (Y fd d.fH.length fc) (Y va vl vc) (Y ad ln cap) d.fS.next d.seq d.tx d.base:=az _ _;generalize aF:w.alloc (iC #[Y fd d.fH.length fc,Y va vl vc,Y ad ln cap,I J d.fS.next,I J d.seq,I J d.tx,I J d.base] 46)=wa at bA gA;obtain⟨rs,V,i1,l1,P,ap⟩:=(h1.below bA).lens h2;have CS:=af (pR (Y fd d.fH.length fc) rs wa l1 P ap i1);rw[V]at CS;unfold nH at CS;have A:=h3.fit;have aD:=wP d.fS;have l:ah ((be d.fS).length<=16*1048576):=by have:=A.1;show _<=_;omega
 have D:ah (nD d=(ir d d.fH.length).1):=rfl;have C:ah (∀(k:Nat) (y:Bk),d.fH[k]?=X y->ir d (k+1)=if !y.1&&decide (bm y.2.2=4)&&decide (ei (aw d.fH) (cK (aw d.fH) (be d.fS) d.base) (k:Int)=ei (aw d.fH) (cK (aw d.fH) (be d.fS) 1000000000) (k:Int))&&decide (1<=ei (aw d.fH) (cK (aw d.fH) (be d.fS) d.base) (k:Int))&&decide (ei (aw d.fH) (cK (aw d.fH) (be d.fS) d.base) (k:Int)<(ir d k).2)then((k:Int),ei (aw d.fH) (cK (aw d.fH) (be d.fS) d.base) (k:Int))else ir d k):=λk y hy=>by rw[ir,hy];rfl
 obtain⟨R,hR⟩:=an (nD d);rw[hR]at D⊢;obtain⟨M,hM⟩:=an (aw d.fH);rw[hM]at CS C;have HS:=af (h3.below bA);have HF:=af i1;have aq:=af V;have ar:=af P;have au:ah (rs.length=d.fH.length):=by show _=_;rw[<-V,aS]
 have aN:d.fH.length<=1048576:=h2.1;have HB:=af bA;have HG:=af gA;have y0:=gA.cells.1;clear h1 h2 h3 h V i1 l1 P ap hM hR bA gA A aD;go_enter Tryz.func112,Tryz.ntmps112;go_wp2_with fail;clear aF;refine CS.o.mono ?_;rintro e w1 ⟨la,lc,rfl,f1,f2,f3⟩;have HR:=af f1;have n:=af f2;have G1:=af (HG.o.below f3);have S1:=af (HS.o.below f3);have B1:=af (HB.o.trans (f3.mono HB.o.size));have F1:=af (HF.o.below f3);obtain⟨-,y1,y2,y3,-,-,-⟩:=G1.o.cells;clear CS f1 f2 f3 HG HS HB HF y0;go_wp2_with fail;refine(xD _ d.fS _ S1.o).mono ?_;rintro e w2 ⟨lv,rfl,ho,U⟩;obtain⟨ia,ic,rfl,aj,-,-⟩:=lW.of ho (by have:=l.o;unfold maxLen;omega) U
 have G2:=af (G1.o.below U);have B2:=af (B1.o.trans (U.mono B1.o.size));have F2:=af (F1.o.below U);have f:=af (HR.o.below U);have HI:=af aj;have y6:=G2.o.cells.2.2.2.2.2.2;clear ho aj U y1 y2 y3 G1 B1 F1 HR S1;go_wp2_with fail;refine(wM la M.length lc M ia (be d.fS).length ic (be d.fS) d.base w2 n.o (by have:=l.o;omega) f.o HI.o).mono ?_
 rintro e w3 ⟨g,rfl,-,-,g3,c⟩;have G3:=af (G2.o.below c);have B3:=af (B2.o.trans (c.mono B2.o.size));have F3:=af (F2.o.below c);have E:=af (f.o.below c);have Z:=af (HI.o.below c);have ac:=af g3;clear g3 c y6 G2 B2 F2 f HI;go_wp2_with fail;refine(wM la M.length lc M ia (be d.fS).length ic (be d.fS) 1000000000 w3 n.o (by have:=l.o;omega) E.o Z.o).mono ?_
 rintro e w4 ⟨g2,rfl,-,-,g3,c⟩;have G4:=af (G3.o.below c);have B4:=af (B3.o.trans (c.mono B3.o.size));have F4:=af (F3.o.below c);have ae:=af (E.o.below c);have aa:=af (ac.o.below c);have W:=af g3;clear g3 c G3 B3 F3 E Z ac l;obtain⟨Q,t⟩:=an (cK M (be d.fS) d.base);obtain⟨r2,v⟩:=an (cK M (be d.fS) 1000000000);have aA:ah (Q.length=M.length):=by show _=_;rw[<-t];exact re _ _ _
 have f:ah (r2.length=M.length):=by show _=_;rw[<-v];exact re _ _ _
 rw[t,v]at C;rw[t]at aa;rw[v]at W;clear t v;go_wp2;go_loopw [7,8,9] (λzv mv iv wr=>∃(k m:Nat) (z:Int),zv=I J z/\mv=I J m/\iv=I J k/\k<=d.fH.length/\m<=4/\ah (ir d k=(z,m))/\ah (iL w4.heap.size w4 wr)) (λ_ _ iv _=>d.fH.length-(intOf iv).toNat)
 case atStart=>exact⟨0,4,-1,rfl,rfl,rfl,aI _,ak _,rfl,ax _ _⟩
 case round=>
  rename iW=>wr
  obtain⟨k,m,z,rfl,rfl,rfl,hk,hm,b,S⟩:=hrel;have y0:=(G4.o.below S.o).cells.1;have aK:(0:Int)<=k:=by omega
  by_cases aM:(k:Int)<d.fH.length
  ·obtain⟨r,hr⟩:∃r,rs[k]?=X r:=⟨_,ay (by have:=au.o;omega)⟩
   have ao:d.fH[k]?=X (aC r):=by rw[<-aq.o,bk,hr];rfl
   obtain⟨gv,e,⟨c1,c2,c3⟩,s⟩:=(F4.o.below S.o).at hr;subst e;have H:=ar.o r (aH hr);obtain⟨x,y,u,ls⟩:=r;have a:ah (ir d (k+1)=if (!x&&decide (bm ls=4)&&decide (ei M Q (k:Int)=ei M r2 (k:Int))&&decide (1<=ei M Q (k:Int))&&decide (ei M Q (k:Int)<(ir d k).2))=iV then((k:Int),ei M Q (k:Int))else ir d k):=C.o k (x,y,ls) ao
   simp only at c1 c2 c3 s H;have al:=s;obtain⟨ld,O,rfl,-,-⟩:=al;have bX:=aO wr (iC #[iB x,I J y,Y ld ls.length O] 107);have hX:=az wr (iC #[iB x,I J y,Y ld ls.length O] 107);have x0:=am _ _ 0 _ _ _ hX;have x1:=am _ _ 1 _ _ _ hX;have x2:=am _ _ 2 _ _ _ hX;simp only[mH,tP,qY]at x0 x1 x2;clear hX;generalize aG:wr.alloc (iC #[iB x,I J y,Y ld ls.length O] 107)=wx at bX x0 x1 x2;have T:=af (S.o.trans (bX.mono S.o.size));have CB:=af (zH x y _ ls wx H (s.below bX));have B:=af (Bv la M.length lc M g M.length M.length Q k wx n.o aA.o rfl (ae.o.below T.o) (aa.o.below T.o));obtain⟨q,hq⟩:=an (ei M Q (k:Int));obtain⟨q2,L⟩:=an (ei M r2 (k:Int));have p:=af L;obtain⟨nb,j⟩:=an (bm ls);rw[hq]at B;rw[hq,L,j]at a;rw[j]at CB;clear hr ao s H hq L j bX S;go_wp2_with fail;clear aG;refine B.o.mono ?_;rintro e w5 ⟨rfl,rfl⟩;clear B c1 c2 c3 y0;cases x with
   |true=>
    have i:ah (ir d (k+1)=(z,m)):=by
     show _=_;rw[a.o,b.o];exact ai (by simp[*])
    clear a b CB p;go_wp2;go_roundw
    case rel=>exact⟨k+1,m,z,rfl,rfl,by go_num,by omega,by omega,i,T⟩
    case measure=>simp[intOf];omega
   |false=>
    go_wp2_with fail;refine CB.o.mono ?_;rintro e w6 ⟨rfl,b6⟩;have F:=af (T.o.trans (b6.mono T.o.size));clear CB T b6 x0 x1 x2;by_cases K:nb=4
    ·have j:((nb:Int)==4)=iV:=by simp[K]
     have B:=af (Bv la M.length lc M g2 M.length M.length r2 k w6 n.o f.o rfl (ae.o.below F.o) (W.o.below F.o));rw[p.o]at B;have ab:=af K;clear K;go_wp2_with fail;refine B.o.mono ?_;rintro e w7 ⟨rfl,rfl⟩;clear B p;by_cases N:q=q2
     ·have aE:((q:Int)==(q2:Int))=iV:=by simp[N]
      have av:=af N;clear N;by_cases h1:(q:Int)≥1
      ·by_cases aL:(q:Int)<m
       ·have i:ah (ir d (k+1)=((k:Int),q)):=by
         show _=_;rw[a.o,b.o];have V:=av.o;have e2:=ab.o;have ag:1<=q:=by omega
         have aB:q<m:=by omega
         rw[aQ V,aQ e2,aQ ag,aQ (show q<(z,m).2 from aB)];rfl
        clear a b;go_wp2;go_roundw
        case rel=>exact⟨k+1,q,k,rfl,rfl,by go_num,by omega,by omega,i,F⟩
        case measure=>simp[intOf];omega
       ·have aJ:¬q<m:=by omega
        have i:ah (ir d (k+1)=(z,m)):=by
         show _=_;rw[a.o,b.o];exact ai (by simp[*])
        clear a b;go_wp2;go_roundw
        case rel=>exact⟨k+1,m,z,rfl,rfl,by go_num,by omega,by omega,i,F⟩
        case measure=>simp[intOf];omega
      ·have ag:¬1<=q:=by omega
       have i:ah (ir d (k+1)=(z,m)):=by
        show _=_;rw[a.o,b.o];exact ai (by simp[*])
       clear a b;go_wp2;go_roundw
       case rel=>exact⟨k+1,m,z,rfl,rfl,by go_num,by omega,by omega,i,F⟩
       case measure=>simp[intOf];omega
     ·have aE:((q:Int)==(q2:Int))=iF:=by rw[dZ];omega
      have i:ah (ir d (k+1)=(z,m)):=by
       show _=_;rw[a.o,b.o];exact ai (by simp[*])
      clear a b;go_wp2;go_roundw
      case rel=>exact⟨k+1,m,z,rfl,rfl,by go_num,by omega,by omega,i,F⟩
      case measure=>simp[intOf];omega
    ·have j:((nb:Int)==4)=iF:=by rw[dZ];omega
     have i:ah (ir d (k+1)=(z,m)):=by
      show _=_;rw[a.o,b.o];exact ai (by simp[*])
     clear a b p;go_wp2;go_roundw
     case rel=>exact⟨k+1,m,z,rfl,rfl,by go_num,by omega,by omega,i,F⟩
     case measure=>simp[intOf];omega
  ·have HE:ah (R=z):=by
    show _=_;rw[D.o,show d.fH.length=k by omega,b.o]
   have FB:=af (B4.o.trans (S.o.mono B4.o.size));clear D b;go_wp2;go_ret;exact⟨by rw[HE.o];rfl,FB.o⟩
end Go.Proofs.YtijmbohadndfmaaGreatDoor
