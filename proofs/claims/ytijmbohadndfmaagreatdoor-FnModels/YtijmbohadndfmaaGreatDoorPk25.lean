/-
  D3l; DAny; ShM; ShN; ShTo; ShEq; ZsMk; ShMk; TkSh; MoP; ShCp; SSameM; ShAdd; SModD
-/
import Derived.Test.YtijmbohadndfmaaGreatDoorPk23
open Go.Value renaming int→I,slice→Y,string→iT,bool→iB,pointer→iP,agg→iA,tuple→iU
open Go.IntKind renaming i64→J
open Option renaming none→O,some→X
open Go.Ending renaming returned→G
open Go.Obj renaming cells→iC
open Bool renaming true→iV,false→iF
open Go renaming World→iW,Value→iX,Calls→iK
open Go.RowKit renaming Below→iL
set_option maxHeartbeats 8000000
set_option maxRecDepth 100000
namespace Go.Proofs.YtijmbohadndfmaaGreatDoor
open Go.RowKit
theorem Xj(n x:Nat)(w:iW)(K:n<=1048576)(M:x<256):
 iK Tryz.prog 31 #[I J n,I .u8 x] w λe w'=>∃t:List UInt8,e=G (iT ⟨t.toArray⟩)/\t.length=n/\iL w.heap.size w w':=by
 obtain⟨F,hi,q,r,s⟩:=bK zB;go_enter Tryz.func31,Tryz.ntmps31;go_wp2_with (at_make;refine pZ _ rfl _ _ 22 rfl w.heap.size 5 F (I .u8 0) 1 Tryz.underlying22 hi q r J J _ _ n rfl rfl rfl rfl (by rw[s];omega) (by unfold maxLen;omega) (ak _) ?_)
 intro H a b;have f:iL w.heap.size w H:=(ax _ _).grown b (ak _) (λk y=>by cases y)
 rw[sI]at a;clear b;go_wp2;go_loopw [6] (λv wr=>∃k:Nat,k<=n/\v=I J k/\wr.ownsRow w.heap.size 5 1 (Y (X ⟨w.heap.size,0,O⟩) n n) n (List.replicate k (I .u8 x)++List.replicate (n-k) (I .u8 0))/\iL w.heap.size w wr) (λv _=>n-(intOf v).toNat)
 case atStart=>exact⟨0,aI _,rfl,a,f⟩
 case round=>
  clear a f;obtain⟨k,y,rfl,d,c⟩:=hrel;by_cases E:(k:Int)<n
  ·have z:k<(List.replicate k (I .u8 x)++List.replicate (n-k) (I .u8 0)).length:=by simp;omega
   obtain⟨u,L⟩:∃u,wr.cell? ⟨w.heap.size,k,O⟩=X u:=⟨_,by simpa[eX]using d.cells (g:=w.heap.size) rfl k _ (ay z)⟩
   have D:=d.frozenAt k;have j:=(d.stored k (I .u8 x)).1;rw[YP (List.replicate k (I .u8 x)) (I .u8 0) (I .u8 x) n k (by simp) (by omega),<-List.replicate_succ']at j
   have l:=c.setCell (p:=⟨w.heap.size,k,O⟩) (ak _) (I .u8 x);clear z d;go_wp2;go_roundw
   case rel=>exact⟨k+1,by omega,by go_num,j,l⟩
   case measure=>simp[intOf];omega
  ·have i:k=n:=by omega
   rw[i,ja,List.replicate_zero,eM]at d;have h:List.replicate n (I .u8 x)=eO (List.replicate n (UInt8.ofNat x)):=by
    unfold eO;rw[List.map_replicate,og,Nat.mod_eq_of_lt (by omega)]
   rw[h]at d;obtain⟨t,m⟩:∃t,t=List.replicate n (UInt8.ofNat x):=⟨_,rfl⟩;have C:(convert 22 9 (Y (X ⟨w.heap.size,0,O⟩) n n)).run Tryz.prog wr=.ok (iT ⟨t.toArray⟩) wr:=by
    rw[m];exact Ko (B:=w.heap.size) wr _ (List.replicate n (UInt8.ofNat x)) (by rw[vk];exact d)
   have A:ah (t.length=n):=by show _=_;rw[m];simp
   clear h m d i;go_wp2;go_ret;exact⟨t,rfl,A.o,c⟩
open Words Sums
variable{t:ByteArray}{r:Int}{B cap g:Nat}{ad:Option Addr}
theorem F6(h:ji t.data.toList):t.size<=1048576:=by
 unfold ji qd at h;have hs:t.size=t.data.toList.length:=by rw[BU];rfl
 rw[hs];obtain⟨b,a,e⟩:=bF.1 h;rw[<-e];have:qd.all (λb=>decide (b.data.toList.length<=1048576))=iV:=by decide
 exact qc (gy.1 this b a)
theorem zq(u v z:Int){w W:iW}{p:Nat}{f:Nat}{q:Ak}{a b c:iX}{n s t:Int}(N:Nx w W g p ad f cap q a b c n s t r)(m:f<=1048576)(l:gQ w ad f B)(i:B<=p):
 iK Tryz.prog 30 #[iP (X ⟨p,0,O⟩),Y (X ⟨W.heap.size,0,O⟩) 3 3] (W.alloc (iC #[I J u,I J v,I J z] 3)) λe w'=>∃x:Int,e=G (I J x)/\Nx w w' g p ad f cap q a b c n s t r:=by
 have h:=N.below ((ax W.heap.size W).alloc (ak _) (iC #[I J u,I J v,I J z] 3));refine(Li W.heap.size [u,v,z] p ad f cap B _ (by simp) (by simp) (by have:=N.ask.lt;have:=N.gg;have:=N.pl;omega) ?_ m h.dr.2 (h.cd l i) i).mono ?_
 ·intro j k;have k:j<3:=k;refine zM W _ _ j _ ?_;have:j=0∨j=1∨j=2:=by omega
  rcases this with rfl|rfl|rfl<;>rfl
 ·rintro e w' ⟨x,rfl,d⟩;exact⟨x,rfl,h.draw d⟩
theorem II(x:iX)(d:Dv)(B0 p:Nat)(ad:Option Addr)(c cap B:Nat)(w:iW)(L:c<=1048576)(hc:jM w p ad c cap)(hd:gQ w ad c B)(r:B<=p)(ho:cS B0 x d w)(hf:d.Fit)(W:p<B0)(Z:∀v∈d.fS.fV,v.1<=3):
 iK Tryz.prog 13 #[iP (X ⟨p,0,O⟩),x] w λe w'=>∃q:Ak,e=G (dU q)/\q.text.size<=1048576/\cR w w' p ad c cap:=by
 have u:=hc.2.2.2.2.2;obtain⟨j,i,l,n,vc,b,k,a,hx,-,-,-⟩:=(ho.rd hf).form;have F:=af hd;have H:=aO w (iC #[Y j d.fH.length i,Y l n vc,Y b k a,I J d.fS.next,I J d.seq,I J d.tx,I J d.base] 46);have s0:(w.alloc (iC #[Y j d.fH.length i,Y l n vc,Y b k a,I J d.fS.next,I J d.seq,I J d.tx,I J d.base] 46)).heap.size=w.heap.size+1:=by simp
 have gA:aP (w.alloc (iC #[Y j d.fH.length i,Y l n vc,Y b k a,I J d.fS.next,I J d.seq,I J d.tx,I J d.base] 46)) w.heap.size (Y j d.fH.length i) (Y l n vc) (Y b k a) d.fS.next d.seq d.tx d.base:=az _ _;have K:iL (w.alloc (iC #[Y j d.fH.length i,Y l n vc,Y b k a,I J d.fS.next,I J d.seq,I J d.tx,I J d.base] 46)).heap.size (w.alloc (iC #[Y j d.fH.length i,Y l n vc,Y b k a,I J d.fS.next,I J d.seq,I J d.tx,I J d.base] 46)) ((w.alloc (iC #[Y j d.fH.length i,Y l n vc,Y b k a,I J d.fS.next,I J d.seq,I J d.tx,I J d.base] 46)).alloc (iC #[I J 0,I J 0,I J 0,I J 0,iT ⟨#[]⟩] 26)):=aY;have zA:bH ((w.alloc (iC #[Y j d.fH.length i,Y l n vc,Y b k a,I J d.fS.next,I J d.seq,I J d.tx,I J d.base] 46)).alloc (iC #[I J 0,I J 0,I J 0,I J 0,iT ⟨#[]⟩] 26)) (w.heap.size+1) mB:=by
  rw[<-s0];exact az _ _
 have N:=af ((cR.refl hc).below (H.trans (K.mono H.size)) u);have R:=af (gA.below K);have DZ:=af zA;clear H K s0 gA zA hc;subst hx;go_enter Tryz.func13,Tryz.ntmps13;obtain⟨wa,M⟩:=an ((w.alloc (iC #[Y j d.fH.length i,Y l n vc,Y b k a,I J d.fS.next,I J d.seq,I J d.tx,I J d.base] 46)).alloc (iC #[I J 0,I J 0,I J 0,I J 0,iT ⟨#[]⟩] 26));rw[M]at N R DZ;have CN:=af (vD _ d B0 p ad c cap B wa L N.o.2 (N.o.code F.o r u) r (ho.drawn N.o W) hf W Z);obtain⟨c0,c1,c2,c3,c4,c5,c6⟩:=R.o.cells;have U:=af M;clear ho hf Z hd;go_wp2_with fail;try rw[U.o]
 clear M U;go_wp2_with fail;clear c0 c1 c2 c3 c4 c5 c6;refine CN.o.mono ?_;rintro e C ⟨q,rfl,Q,d1⟩;have kk:∀y,p≠y->y<wa.heap.size->C.heap[y]?=wa.heap[y]?:=λy y1 y2=>d1.1.block y y2 (λe=>by cases e;exact y1 rfl)
 have D:=N.o.trans d1;have T:aP C w.heap.size (Y j d.fH.length i) (Y l n vc) (Y b k a) d.fS.next d.seq d.tx d.base:=(kk _ (by omega) R.o.lt).trans R.o
 have E:bH C (w.heap.size+1) mB:=(kk _ (by omega) DZ.o.lt).trans DZ.o
 have HQ:ah (q.text.size<=1048576):=F6 Q.1;obtain⟨k0,k1,k2,k3,k4⟩:=q;unfold dU;simp only at HQ⊢;have b3:=aO C (iC #[I J k0,I J k1,I J k2,I J k3,iT k4] 26);have P:ah (Nx w (C.alloc (iC #[I J k0,I J k1,I J k2,I J k3,iT k4] 26)) C.heap.size p ad c cap ⟨k0,k1,k2,k3,k4⟩ (Y j d.fH.length i) (Y l n vc) (Y b k a) d.fS.next d.seq d.tx d.base):=
  ⟨D.below (b3.mono D.1.size) u,az _ _,E.below b3,T.below b3,E.lt,u⟩
 clear d1 N R DZ D T E b3 kk CN Q;go_upto_region 2 with fail
 generalize C.alloc (iC #[I J k0,I J k1,I J k2,I J k3,iT k4] 26)=w2 at P⊢;obtain⟨g,hg⟩:=an C.heap.size;rw[hg]at P;try rw[hg]
 clear hg;go_wp2_with fail;refine(lm 12 p ad c cap B w2 (by omega) L P.o.dr.2 (P.o.cd F.o r) r).mono ?_
 rintro e w3 ⟨y,rfl,y0,y1,-,d3⟩;have h:=af (P.o.draw d3);clear d3 y1 P;obtain⟨q,Q⟩:=an (⟨k0,k1,k2,k3,k4⟩:Ak);have A:ah (q.text.size<=1048576):=by rw[<-Q];exact HQ
 rw[Q]at h;clear Q HQ;go_upto_block 0 with fail
 go_cut [] (λV=>∃q:Ak,ah (q.text.size<=1048576)/\ah (Nx w V g p ad c cap q (Y j d.fH.length i) (Y l n vc) (Y b k a) d.fS.next d.seq d.tx d.base))
 case first=>
  by_cases e0:(y==0)=iV
  ·go_wp2_with fail;refine(lm 8 p ad c cap B w3 (by omega) L h.o.dr.2 (h.o.cd F.o r) r).mono ?_
   rintro e x ⟨z,rfl,-,-,-,f⟩;have S:=af (h.o.draw f);have t:=af (S.o.set (S.o.ask.set0 z));have m0:=S.o.ask.cells.1;have f0:=S.o.ask.frz 0;clear f;go_wp2_with fail;go_meet
   case rel=>exact⟨⟨z,q.vol,q.sector,q.of,q.text⟩,A,t⟩
  have e0:(y==0)=iF:=by simpa using e0
  by_cases e1:(y==1)=iV
  ·go_wp2_with fail;refine(zq 0 9 10 h.o L F.o r).mono ?_;rintro e x ⟨z,rfl,f⟩;have S:=af f;have t:=af (S.o.set (S.o.ask.set1 z));have m0:=S.o.ask.cells.2.1;have f0:=S.o.ask.frz 1;clear f;go_wp2_with fail;go_meet
   case rel=>exact⟨⟨q.kind,z,q.sector,q.of,q.text⟩,A,t⟩
  have e1:(y==1)=iF:=by simpa using e1
  by_cases e2:(y==2)=iV
  ·go_wp2_with fail;refine(zq (-1) 15 16 h.o L F.o r).mono ?_;rintro e x ⟨z,rfl,f⟩;have S:=af f;have t:=af (S.o.set (S.o.ask.set2 z));have m0:=S.o.ask.cells.2.2.1;have f0:=S.o.ask.frz 2;clear f;go_wp2_with fail;go_meet
   case rel=>exact⟨⟨q.kind,q.vol,z,q.of,q.text⟩,A,t⟩
  have e2:(y==2)=iF:=by simpa using e2
  by_cases e3:(y==3)=iV
  ·go_wp2_with fail;refine(zq 0 1 10 h.o L F.o r).mono ?_;rintro e x ⟨z,rfl,f⟩;have S:=af f;have t:=af (S.o.set (S.o.ask.set3 z));have m0:=S.o.ask.cells.2.2.2.1;have f0:=S.o.ask.frz 3;clear f;go_wp2_with fail;go_meet
   case rel=>exact⟨⟨q.kind,q.vol,q.sector,z,q.text⟩,A,t⟩
  have e3:(y==3)=iF:=by simpa using e3
  by_cases e4:(y==4)=iV
  ·go_wp2_with fail;refine(lm 2 p ad c cap B w3 (by omega) L h.o.dr.2 (h.o.cd F.o r) r).mono ?_
   rintro e x ⟨z,rfl,z0,z1,-,f⟩;have z2:=z1 (by omega)
   obtain⟨m,hm⟩:∃m:Nat,64+z=m:=⟨(64+z).toNat,by omega⟩
   have ag:IntKind.i64.wrap (64+z)=m:=by rw[cL];omega
   have S:=af (h.o.draw f);have CL:=af (Xj m 65 x (by omega) (by decide))
   have ac:m<=1048576:=by omega
   clear f z1 hm;go_wp2_with fail;refine CL.o.mono ?_;rintro e x2 ⟨tl,rfl,ae,bx⟩;have S2:=af (S.o.below bx);have t:=af (S2.o.set (S2.o.ask.set4 ⟨tl.toArray⟩));have aa:ah ((⟨tl.toArray⟩:ByteArray).size<=1048576):=by show tl.toArray.size<=_;simp;omega
   have m0:=S2.o.ask.cells.2.2.2.2;have f0:=S2.o.ask.frz 4;clear bx CL;go_wp2_with fail;go_meet
   case rel=>exact⟨⟨q.kind,q.vol,q.sector,q.of,⟨tl.toArray⟩⟩,aa,t⟩
  have e4:(y==4)=iF:=by simpa using e4
  go_wp2_with fail;go_meet
  case rel=>exact⟨_,A,h⟩
 case rest=>
  obtain⟨V4,ab⟩:∃V4,V4=wc:=⟨_,rfl⟩;subst ab;clear h A;obtain⟨q2,A,s⟩:=hcut;obtain⟨m0,m1,m2,m3,m4⟩:=s.o.ask.cells;obtain⟨j0,j1,j2,j3,j4⟩:=s.o.zer.cells;have r0:=s.o.zer.frz 0;have r1:=s.o.zer.frz 1;have r2:=s.o.zer.frz 2;have r3:=s.o.zer.frz 3;have r4:=s.o.zer.frz 4;have FE:=af (s.o.fin);unfold im at FE;clear s;go_wp2;refine aF (Ka (p:=4) rfl _ _ (w.heap.size+1) _ rfl FE.o.1) rfl ?_;exact⟨_,rfl,A.o,FE.o.2⟩
namespace Words
structure Sh where
 vol:Int
 texts:List ByteArray
end Words
theorem rg:(Tryz.prog.info? 32).map (λi=>(i.zero,i.size,i.bytes))=X (X (iA #[I J 0,Y O 0 0]),2,32):=by kernel_rfl
abbrev Hw:=Int×iX×List ByteArray
def lS(t:Hw):List iX:=[I J t.1,t.2.1]
def bi(l:List Hw):List iX:=l.flatMap lS
def aW(t:Hw):Sh:=⟨t.1,t.2.2⟩
theorem kC(l:List Hw):(bi l).length=l.length*2:=by
 induction l with
 |nil=>rfl
 |cons t l a=>simp[bi,lS]at a⊢;omega
theorem tB(a b:List Hw):bi (a++b)=bi a++bi b:=by simp[bi]
theorem xA(t:Hw)(l:List Hw):bi (t::l)=lS t++bi l:=by simp[bi]
theorem tZ(l:List Hw)(t:Hw):bi l++lS t=bi (l++[t]):=by rw[tB];simp[bi]
theorem yA(l:List Hw)(k:Nat)(t:Hw)(h:l[k]?=X t)(j:Nat)(v:iX)(b:(lS t)[j]?=X v):(bi l)[k*2+j]?=X v:=by
 have c:j<2:=(aD.1 b).1
 induction l generalizing k with
 |nil=>simp at h
 |cons a l d=>
  rw[xA];cases k with
  |zero=>
   simp at h;subst h;rw[lz (by show _<2;omega),lq,dK]
   exact b
  |succ k=>
   rw[dz (by show 2<=_;omega),show(k+1)*2+j-(lS a).length=k*2+j by show _-2=_;omega]
   exact d k (by simpa using h)
def cA(l:List ByteArray):List iX:=l.map iT
theorem ur(l:List ByteArray):(cA l).length=l.length:=by simp[cA]
theorem V6(l:List ByteArray)(k:Nat)(h:k<l.length):(cA l)[k]?=X (iT l[k]):=by simp[cA,h]
def mY(w:iW)(a:Option Addr)(c:Nat)(ls:List ByteArray):Prop:=
 ls.length=c/\c<=maxLen/\(0<c->∃b d,a=X ⟨b,d,O⟩/\b<w.heap.size/\∀i t,ls[i]?=X t->w.cell? ⟨b,d+i,O⟩=X (iT t))
theorem mY.below{w w':iW}{a:Option Addr}{c:Nat}{ls:List ByteArray}(h:mY w a c ls)(f:iL w.heap.size w w'):mY w' a c ls:=by
 obtain⟨h1,g,h4⟩:=h;refine⟨h1,g,λh0=>?_⟩
 obtain⟨b,d,e,k,j⟩:=h4 h0;have hs:=f.size;exact⟨b,d,e,by omega,λi t l=>(f.cell (show b<w.heap.size from k)).trans (j i t l)⟩
variable{a:Act}{ops:Array Oper}{t:ByteArray}{x:Int}{k lo g B B' c n i j:Nat}{ad:Option Addr}{E:Prop}
theorem mY.at{w:iW}{a:Option Addr}{d:Nat}{ls:List ByteArray}(h:mY w a d ls)(f:ls[k]?=X t):
 ∃b c,a=X ⟨b,c,O⟩/\b<w.heap.size/\w.cell? ⟨b,c+k,O⟩=X (iT t):=by
 obtain⟨h1,-,h4⟩:=h;have j:=(aD.1 f).1;obtain⟨b,c,e,g,i⟩:=h4 (by omega)
 exact⟨b,c,e,g,i k t f⟩
theorem xB{l:List ByteArray}{x:ByteArray}(h:l[k]?=X x):(cA l)[k]?=X (iT x):=by
 obtain⟨h1,a⟩:=aD.1 h;rw[V6 l k h1,a]
def jq(W:iW)(v:iX)(ls:List ByteArray):Prop:=∃a c,v=Y a ls.length c/\(a=O->c=0)/\mY W a ls.length ls
theorem jq.below{W W':iW}{v:iX}{ls:List ByteArray}(h:jq W v ls)(b:iL W.heap.size W W'):jq W' v ls:=by
 obtain⟨a,c,e,h1,d⟩:=h;exact⟨a,c,e,h1,d.below b⟩
theorem jq.of{hi:Nat}{v:iX}{ls:List ByteArray}{W:iW}(h:aB 9 lo hi v ls.length (cA ls) W)(a:ls.length<=maxLen)(d:hi<=W.heap.size):jq W v ls:=by
 rcases h with⟨rfl,h0⟩|⟨g,cap,rfl,h1,c,b⟩
 ·exact⟨O,0,by rw[h0],λ_=>rfl,rfl,a,λh=>by omega⟩
 ·refine⟨_,_,rfl,(λe=>by cases e),rfl,a,λ_=>⟨g,0,rfl,by omega,λi t hi=>?_⟩⟩
  simpa using b.cell (xB hi)
theorem jq.one{W:iW}{v:iX}{ls:List ByteArray}(h:jq W v ls):v.oneCell'=iV:=by
 obtain⟨a,c,rfl,-⟩:=h;rfl
def dN(W:iW)(ad:Option Addr)(a:Nat)(rs:List Hw):Prop:=
 rs.length=a/\a<=maxLen/\(∀r∈rs,jq W r.2.1 r.2.2)/\(0<a->∃b c,ad=X ⟨b,c,O⟩/\b<W.heap.size/\∀i r,rs[i]?=X r->W.cell? ⟨b,c+i*2,O⟩=X (I J r.1)/\W.cell? ⟨b,c+i*2+1,O⟩=X r.2.1)
variable{rs:List Hw}
theorem dN.below{W W':iW}{a:Nat}(h:dN W ad a rs)(c:iL W.heap.size W W'):dN W' ad a rs:=by
 obtain⟨h1,j,k,h4⟩:=h;refine⟨h1,j,λr m=>(k r m).below c,λh0=>?_⟩
 obtain⟨b,d,e,f,l⟩:=h4 h0;have hs:=c.size;refine⟨b,d,e,by omega,λi t n=>?_⟩
 obtain⟨g,c1⟩:=l i t n;exact⟨(c.cell (show b<W.heap.size from f)).trans g,(c.cell (show b<W.heap.size from f)).trans c1⟩
theorem dN.at{W:iW}{c:Nat}(h:dN W ad c rs){r:Hw}(d:rs[k]?=X r):
 ∃b a,ad=X ⟨b,a,O⟩/\b<W.heap.size/\W.cell? ⟨b,a+k*2,O⟩=X (I J r.1)/\W.cell? ⟨b,a+k*2+1,O⟩=X r.2.1:=by
 obtain⟨h1,-,-,h4⟩:=h;have j:=(aD.1 d).1;obtain⟨b,a,e,g,i⟩:=h4 (by omega)
 obtain⟨f,c1⟩:=i k r d;exact⟨b,a,e,g,f,c1⟩
theorem dN.cell{W:iW}{b a c:Nat}{rs:List Hw}(h:dN W (X ⟨b,a,O⟩) c rs){k:Nat}{r:Hw}(g:rs[k]?=X r):
 W.cell? ⟨b,a+k*2,O⟩=X (I J r.1)/\W.cell? ⟨b,a+k*2+1,O⟩=X r.2.1:=by
 obtain⟨i,d,e,-,f,c1⟩:=h.at g;injection e with e
 injection e with e1 e2
 subst e1 e2;exact⟨f,c1⟩
theorem dN.adr{W:iW}{c:Nat}(h:dN W ad c rs)(h0:0<c):∃b a,ad=X ⟨b,a,O⟩/\b<W.heap.size:=by
 obtain⟨b,a,e,d,-⟩:=h.2.2.2 h0;exact⟨b,a,e,d⟩
def mE(rs:List Hw):Prop:=rs.Pairwise (λa b=>∀g,a.2.1.ownBlock=X g->b.2.1.ownBlock≠X g)
def ci(W:iW)(B:Nat)(v:iX)(rs:List Hw):Prop:=
 W.ownsRow B 32 2 v rs.length (bi rs)/\(∀r∈rs,aB 9 B W.heap.size r.2.1 r.2.2.length (cA r.2.2) W/\r.2.2.length<=maxLen)/\mE rs
def kK(lo hi:Nat)(v:iX)(rs:List Hw)(W:iW):Prop:=
 aB 32 lo hi v rs.length (bi rs) W/\(∀r∈rs,aB 9 lo hi r.2.1 r.2.2.length (cA r.2.2) W/\r.2.2.length<=maxLen)/\mE rs/\rs.length<=maxLen
theorem CQ{w:iW}{cs b:Array iX}(h:w.heap[g]?=X (iC cs 9 (0,0)))(a:w.heap[g]?=X (iC b 32 (0,0))):False:=by
 rw[h]at a;injection a with a
 injection a with _ a
 simp at a
theorem ci.below{W W':iW}{v:iX}(h:ci W B v rs)(b:iL W.heap.size W W'):ci W' B v rs:=
 ⟨bu h.1 b,λr a=>⟨((h.2.1 r a).1.blw b).up b.size,(h.2.1 r a).2⟩,h.2.2⟩
theorem ci.down{W:iW}{v:iX}(h:ci W B v rs)(a:B'<=B):ci W B' v rs:=
 ⟨nO h.1 a,λr b=>⟨(h.2.1 r b).1.dn a,(h.2.1 r b).2⟩,h.2.2⟩
theorem ci.empty(W:iW)(B:Nat)(a:B<=W.heap.size):ci (W.alloc (iC #[] 32)) B (Y (X ⟨W.heap.size,0,O⟩) 0 0) []:=
 ⟨⟨rfl,.inr ⟨W.heap.size,0,#[],rfl,a,az W _,ak _,by unfold maxLen;omega,rfl,rfl⟩⟩,(λ_ h=>by cases h),List.Pairwise.nil⟩
theorem ci.snoc {W0 W y:iW} {v u':iX} {r:Hw} (h0:ci W0 B v rs) (s:iL W0.heap.size W0 W) (o:B<=W0.heap.size) (k:aB 9 W0.heap.size W.heap.size r.2.1 r.2.2.length (cA r.2.2) W) (w:r.2.2.length<=maxLen)
 (d:W.grownBy y v.ownBlock) (z:y.ownsRow B 32 2 u' (rs++[r]).length (bi (rs++[r]))):ci y B u' (rs++[r]):=by
 have h:=h0.below s;have u:=fQ h.1;have i:∀(t:iX) (g:Nat),v.ownBlock=X g->∀{lo hi n:Nat} {xs:List iX},aB 9 lo hi t n xs W->t.ownBlock≠X g:=by
  intro t g d lo hi n xs hs e;obtain⟨-,-,cs,q⟩:=u g d;obtain⟨-,-,l,q'⟩:=hs.lt g e;exact CQ q' q
 refine⟨z,?_,?_⟩
 ·intro x c;rcases br.1 c with c|c
  ·exact⟨((h.2.1 x c).1.grown d (λg e f=>i _ g f (h.2.1 x c).1 e)).up d.size,(h.2.1 x c).2⟩
  ·simp only[bT]at c;subst c;exact⟨((k.grown d (λg e f=>i _ g f k e)).dn o).up d.size,w⟩
 ·refine eW.2 ⟨h.2.2,mA _ _,?_⟩;intro a p b j g m f;simp only[bT]at j;subst j;have A:=((h0.2.1 a p).1.lt g m).2.1;have C:=(k.lt g f).1;omega
theorem ci.form{W:iW}{v:iX}(h:ci W B v rs):∃ad c,v=Y ad rs.length c:=by
 rcases h.1.2 with⟨rfl,h0⟩|⟨g,cap,a,rfl,-⟩
 ·exact⟨_,_,by rw[h0]⟩
 ·exact⟨_,_,rfl⟩
theorem ci.len{W:iW}{v:iX}(h:ci W B v rs):rs.length<=maxLen:=by
 rcases h.1.2 with⟨rfl,h0⟩|⟨g,cap,a,rfl,-,-,h1,b,-⟩
 ·rw[h0];unfold maxLen;omega
 ·omega
theorem ci.fK{W:iW}{v:iX}(h:ci W B v rs):kK B W.heap.size v rs W:=⟨aB.of h.1,h.2.1,h.2.2,h.len⟩
theorem kK.rd{W:iW}{hi:Nat}(h:kK lo hi (Y ad n c) rs W)(l:rs.length=n)(f:hi<=W.heap.size):dN W ad n rs:=by
 obtain⟨h1,a,o,h4⟩:=h;refine⟨l,by omega,λr d=>jq.of (a r d).1 (a r d).2 f,λh0=>?_⟩
 rcases h1 with⟨e,q⟩|⟨g,cap,e,p,s,m⟩
 ·omega
 ·injection e with e1 e2 e3
  refine⟨g,0,e1,by omega,λi r hi=>?_⟩
  have b:=λj v k=>m.cell (yA rs i r hi j v k)
  refine⟨?_,?_⟩
  ·simpa using b 0 _ rfl
  ·simpa using b 1 _ rfl
theorem kK.loc(lo hi:Nat)(v:iX)(rs:List Hw):lM lo hi (kK lo hi v rs):=by
 intro w w' a h;exact⟨aB.loc _ _ _ _ _ _ w w' a h.1,λr b=>⟨aB.loc _ _ _ _ _ _ w w' a (h.2.1 r b).1,(h.2.1 r b).2⟩,h.2.2⟩
def Md(l:List ByteArray):Nat:=(l.map ByteArray.size).sum
def Lq(l:List ByteArray):Nat:=l.length+Md l
theorem vV:(Tryz.prog.info? 9).map (λi=>(i.zero,i.size,i.bytes))=X (X (iT ⟨#[]⟩),1,16):=by kernel_rfl
def q8(l:List Hw):Nat:=(l.map (λt=>Lq t.2.2)).sum
def xG:Nat->List Sh->Nat
 |k,[]=>k
 |k,t::l=>xG (k+1+t.texts.length) l
def sH(w:iW)(M:List Sh)(e:Ending)(w':iW):Prop:=
 ∃a rs,e=G a/\ci w' w.heap.size a rs/\rs.map aW=M/\iL w.heap.size w w'
def eS(M:List Sh)(x:Sh):List Sh:=M.filter (λs=>decide (s.vol<x.vol))++[x]++M.filter (λs=>decide (x.vol<s.vol))
def de(M:List Sh)(x:Int):Nat->Int
 |0=> -1
 |k+1=>if de M x k= -1 then(match M[k]? with|some s=>if s.vol=x then(k:Int)else-1|none=> -1)else de M x k
def bM(M:List Sh)(x:Int):Int:=de M x M.length
theorem FC{M:List Sh}{s:Sh}(h0:de M x k= -1)(h:M[k]?=X s)(a:s.vol≠x):de M x (k+1)= -1:=by
 simp only[de,h0,cW,h,ai a]
theorem Fm{M:List Sh}{s:Sh}(h0:de M x k= -1)(h:M[k]?=X s)(a:s.vol=x):de M x (k+1)=k:=by
 simp only[de,h0,cW,h,aj a]
theorem FV{M:List Sh}{v:Nat}(h0:de M x k=v):∀n,k<=n->de M x n=v:=by
 intro n b
 induction n with
 |zero=>
  have:k=0:=by omega
  subst this;exact h0
 |succ n a=>
  by_cases e:k=n+1
  ·rw[<-e];exact h0
  ·have:=a (by omega)
   simp only[de];rw[ai (by rw[this];omega)]
   exact this
def iR(M:List Sh)(i:Int):List ByteArray:=match M[i.toNat]? with
 |some s=>s.texts
 |none=> []
def jO(M:List Sh)(i:Nat)(j:Nat)(t:ByteArray):List Sh:=match M[i]? with
 |some s=>M.set i ⟨s.vol,s.texts.set j t⟩
 |none=>M
def fG(M:List Sh)(q:Ak):List Sh:=
 if iO q=iF then M
 else if q.kind=3 then(if bM M q.vol<0 then eS M ⟨q.vol,List.replicate 16 aK⟩else M)
 else if q.kind=4 then(if bM M q.vol<0/\0<=bM M q.of then eS M ⟨q.vol,iR M (bM M q.of)⟩else M)
 else if q.kind=5 then(if 0<=bM M q.vol then M.take (bM M q.vol).toNat++M.drop ((bM M q.vol).toNat+1)else M)
 else if q.kind=6 then M
 else(if 0<=bM M q.vol/\q.sector<(iR M (bM M q.vol)).length then jO M (bM M q.vol).toNat q.sector.toNat q.text else M)
theorem J2{q:Ak}(h:iO q=iV):1<=q.kind/\q.kind<=6/\(q.kind=1∨q.kind=2->0<=q.sector/\q.sector<=15):=by
 unfold iO at h;split at h
 ·cases h
 ·rename_i h1
  have a:1<=q.kind/\q.kind<=6:=by omega
  refine⟨a.1,a.2,λb=>?_⟩
  rw[ai (by omega)]at h
  split at h
  ·cases h
  ·rw[ai (by omega)]at h
   exact qc h
theorem WI{M:List Sh}:∀k,de M x k= -1∨(0<=de M x k/\(de M x k).toNat<k/\(de M x k).toNat<M.length):=by
 intro k
 induction k with
 |zero=>exact .inl rfl
 |succ k a=>
  rw[de];split
  ·split
   ·rename_i s hs
    have:=(aD.1 hs).1;split
    ·exact .inr (by omega)
    ·exact .inl rfl
   ·exact .inl rfl
  ·rcases a with a|a
   ·omega
   ·exact .inr (by omega)
theorem rX(M:List Sh)(x:Int):bM M x= -1∨(0<=bM M x/\(bM M x).toNat<M.length):=by
 rcases WI (M:=M) (x:=x) M.length with h|h
 ·exact .inl h
 ·exact .inr ⟨h.1,h.2.2⟩
theorem vR{r:Hw}(h:rs[i]?=X r):(rs.map aW)[i]?=X (aW r):=by rw[bk,h];rfl
theorem It(W:iW)(x:Int)(v:iX):∀(j:Nat) (u:iX),[I J x,v][j]?=X u->(W.alloc (iC #[I J x,v] 32)).cell? ((⟨W.heap.size,0,O⟩:Addr).add j)=X u:=by
 intro j u a
 match j,a with
 |0,a|1,a=>
  simp at a;subst a;simp[Addr.add]
theorem rY(x:Int)(b:Option Addr)(n c:Nat):∀u∈ [I J x,Y b n c],u.oneCell'=iV:=by
 intro u a;simp at a;rcases a with h|h<;>subst h<;>rfl
theorem Xh(l:List ByteArray):∀u∈cA l,u.oneCell'=iV:=by
 intro u a;obtain⟨x,-,rfl⟩:=bF.1 a;rfl
theorem Xk{l:List ByteArray}{u:iX}(h:(cA l)[j]?=X u):∃x,l[j]?=X x/\u=iT x:=by
 rw[cA,bk]at h;obtain⟨x,a,rfl⟩:=sW.1 h;exact⟨x,a,rfl⟩
theorem mY.cells{w:iW}{b a d:Nat}{ls:List ByteArray}(h:mY w (X ⟨b,a,O⟩) d ls)(j:Nat)(u:iX)(i:(cA ls)[j]?=X u):w.cell? ((⟨b,a,O⟩:Addr).add j)=X u:=by
 obtain⟨x,k,rfl⟩:=Xk i;obtain⟨l,f,e,-,c⟩:=h.at k;injection e with e
 injection e with e1 e2
 subst e1 e2;have g:(⟨b,a,O⟩:Addr).add j=⟨b,a+j,O⟩:=by simp only[Addr.add];split<;>simp_all
 rw[g];exact c
theorem Np (w:iW) {o:Oper} {K:Act->iW->Prop} {Q:Exit->Act->iW->Prop} (k:o.guard=O) (s x:Operand)
 (A:o.op=.call {callee:=.builtin .append,args:= #[s,x],argTypes:= #[30,30]})
 (base:Nat) (i:TypeInfo) (hi:Tryz.prog.info? 9=X i) (F:i.zero=X (iT ⟨#[]⟩)) (j:i.size=1) (r:i.bytes=16)
 (v:iX) (n:Nat) (xs:List iX) (hs:a.eval s=v) (f:w.ownsRow base 9 1 v n xs)
 (ls:List ByteArray) (m:Nat) (H:ls.length=m) (u:iX) (z:a.eval x=u) (B:jq w u ls) (p:n+m<=maxLen) (d:(n+m)*16<=140737488355328) (g:base<=w.heap.size)
 (h:∀G w',w'.ownsRow base 9 1 G (n+m) (xs++cA ls)->w.grownBy w' v.ownBlock->K (a.put o.dst G) w'):
 if Region.wanted o (yielded ops a.tmps)=iV then Oper.wp Tryz.prog o a w K Q else E:=by
 subst H;obtain⟨ad,c,rfl,h0,D⟩:=B;cases ls with
 |nil=>
  cases ad with
  |none=>
   rw[h0 rfl]at z;have I:Region.wanted o (yielded ops a.tmps)=iV:=by simp[Region.wanted,k]
   rw[aj I];have t:=AF (P:=Tryz.prog) (w:=w) base 30 o.type 9 i 1 Tryz.underlying30 hi v n xs f;unfold Oper.wp execOp;simp only[A,resolve,invoke,builtin,tI,uQ,uy,vz,cD,nZ,hs,z,cU,t];exact h v w (by simpa[cA]using f) (rK _ _)
  |some q=>exact kT w k s x 30 A base 9 i (iT ⟨#[]⟩) 1 16 Tryz.underlying30 hi F j r rfl (by decide) v n xs hs f q 0 c [] z rfl (λ_ _ e=>by simp at e) (λ_ e=>by cases e) p d g h
 |cons y l=>
  obtain⟨b,C,e,-,J⟩:=D.2.2 (by simp)
  subst e;exact kT w k s x 30 A base 9 i (iT ⟨#[]⟩) 1 16 Tryz.underlying30 hi F j r rfl (by decide) v n xs hs f ⟨b,C,O⟩ _ c (cA (y::l)) z (by simp[cA]) D.cells (Xh _) p d g h
theorem UE(ad:Option Addr)(a cap:Nat)(rs:List Hw)(x:Int)(w:iW)(h:dN w ad a rs):
 iK Tryz.prog 21 #[Y ad a cap,I J x] w λe w'=>e=G (I J (bM (rs.map aW) x))/\w'=w:=by
 have H:=af h;have n:=af h.1;have v:=h.2.1;unfold maxLen at v;clear h;obtain⟨R,l⟩:=an (bM (rs.map aW) x);rw[l];have f:ah (de (rs.map aW) x a=R):=by
  show _=_;rw[<-l,<-n.o];show _=de _ x _;rw[aS]
 clear l;go_enter Tryz.func21,Tryz.ntmps21;go_wp2;go_loopw [5] (λm wr=>∃k:Nat,k<=a/\m=I J k/\ah (de (rs.map aW) x k= -1)/\wr=w) (λm _=>a-(intOf m).toNat)
 case atStart=>exact⟨0,aI _,rfl,rfl,rfl⟩
 case round=>
  obtain⟨k,z,rfl,c,rfl⟩:=hrel;by_cases u:(k:Int)<a
  ·obtain⟨r,g⟩:∃r,rs[k]?=X r:=⟨_,ay (by have:=n.o;omega)⟩
   obtain⟨y,B,t,-,s,-⟩:=H.o.at g;subst t;have d:=vR g;obtain⟨q,D,C⟩:=r;simp only at s d;have A:(0:Int)<=k:=by omega
   by_cases b:(q==x)=iV
   ·have i:ah (R=(k:Int)):=by
     show _=_;rw[<-f.o];exact FV (Fm c.o d (by simpa[aW]using b)) a (by omega)
    clear g d c f;go_wp2;go_ret;rw[i.o];exact⟨rfl,rfl⟩
   ·have p:(q==x)=iF:=by simpa using b
    have j:ah (de (rs.map aW) x (k+1)= -1):=FC c.o d (by simpa[aW]using b)
    clear g d c b;go_wp2;go_roundw
    case rel=>exact⟨k+1,by omega,by go_num,j,by first|rfl|trivial⟩
    case measure=>simp[intOf];omega
  ·have i:ah (R= -1):=by
    show _=_;rw[<-f.o,<-c.o];congr 1;omega
   clear c f;go_wp2;go_ret;rw[i.o];exact⟨rfl,rfl⟩
def sD(w W:iW)(a:iX)(ss:List Hw):Prop:=ci W w.heap.size a ss/\iL w.heap.size w W
theorem AG(f:Nat)(ad:Option Addr)(i cap:Nat)(rs:List Hw)(w:iW)(hl:i<=4194304)(U:∀r∈rs,r.2.2.length<=1048576)(h:dN w ad i rs)(hf:f=20):
 iK Tryz.prog f #[Y ad i cap] w λe w'=>∃v ss,e=G v/\ci w' w.heap.size v ss/\ss.map aW=rs.map aW/\iL w.heap.size w w':=by
 subst hf;have S0:ah (sD w (w.alloc (iC #[] 32)) (Y (X ⟨w.heap.size,0,O⟩) 0 0) []):=⟨ci.empty _ _ (ak _),aY⟩;have H:=af h;have H1:=af h.1;have ab:=af U;clear h U;go_enter Tryz.func20,Tryz.ntmps20;go_wp2;generalize w.alloc (iC #[] 32)=wa at S0⊢;go_loopw [3,4] (λov iv W=>∃(k:Nat) (ss:List Hw),k<=i/\iv=I J k/\ss.length<=k/\ah (ss.map aW=(rs.map aW).take k)/\ah (sD w W ov ss)) (λ_ iv _=>i-(intOf iv).toNat)
 case atStart=>exact⟨0,[],aI _,rfl,aI _,by show _=_;simp,S0⟩
 case round=>
  obtain⟨k,ss,hk,rfl,ag,HT,a⟩:=hrel;clear S0;obtain⟨oa,oc,ac⟩:=a.o.1.form;subst ac;by_cases al:(k:Int)<i
  ·obtain⟨r,Z⟩:∃r,rs[k]?=X r:=⟨_,ay (by have:=H1.o;omega)⟩
   obtain⟨b,t,e,hb⟩:=H.o.adr (by omega)
   subst e;have KR:=af (H.o.below a.o.2);obtain⟨c0,c1⟩:=H.o.cell Z;have V:=ab.o r (aH Z);obtain⟨ka,kc,T,R,kr⟩:=KR.o.2.2.1 r (aH Z);obtain⟨lf,kv,ls⟩:=r;simp only at c0 c1 V T kr;subst T;have P:ah (jq wr (Y ka ls.length kc) ls):=⟨ka,kc,rfl,R,kr⟩;have N:ah (ss.map aW++[⟨lf,ls⟩]=(rs.map aW).take (k+1)):=by
    show _=_;rw[HT.o,dF,vR Z];rfl
   have k0:(0:Int)<=k:=by omega
   obtain⟨c,C⟩:=an ls.length;rw[C]at c1 V P;clear kr Z HT R;obtain⟨sn,E⟩:=an ss.length;rw[E]at a ag⊢;have z:=af E;obtain⟨i0,l,m,n,p⟩:=bK vV;have I0:=af l;have Y0:=af m;have Y1:=af n;have Y2:=af p;clear l m n p;obtain⟨j0,l,m,n,p⟩:=bK rg;have J0:=af l;have X0:=af m;have X1:=af n;have X2:=af p;clear l m n p E;have u:=af C;clear C;have g:ah (w.heap.size<=wr.heap.size):=a.o.2.size;have s:ah (∀W,iL w.heap.size w W->W.cell? ⟨b,t+k*2,O⟩=X (I J lf)/\W.cell? ⟨b,t+k*2+1,O⟩=X (Y ka c kc)):=λW hW=>
    ⟨(hW.cell (show b<w.heap.size from hb)).trans c0,(hW.cell (show b<w.heap.size from hb)).trans c1⟩
   have e0:=(s.o _ a.o.2).1;have e1:=(s.o _ a.o.2).2;clear hb c0 c1;have Q:ah (wr.ownsRow w.heap.size 32 2 (Y oa sn oc) sn (bi ss)):=by have:=a.o.1.1;rw[z.o]at this;exact this
   have BA:ah (iL wr.heap.size wr (wr.alloc (iC #[] 9)).drew):=(aY).drew;have OE:ah ((wr.alloc (iC #[] 9)).drew.ownsRow wr.heap.size 9 1 (Y (X ⟨wr.heap.size,0,O⟩) 0 0) 0 []):=⟨rfl,.inr ⟨wr.heap.size,0,#[],rfl,ak _,az wr _,ak _,by unfold maxLen;omega,rfl,rfl⟩⟩
   have C1:=af (P.o.below BA.o);have x:=af BA.o.size;go_wp2_with fail;refine wY 16 (S:=λw'=>w'.cell? ⟨b,t+k*2,O⟩=X (I J lf)/\w'.cell? ⟨b,t+k*2+1,O⟩=X (Y ka c kc)) (by kernel_rfl) rfl (by kernel_rfl) (by first|exact s.o _ a.o.2|exact s.o _ a.o.2.drew) (λhHeld=>?_)
   simp only[vp,tU,aR,cU,Nat.reduceAdd];refine au 0 ?_;refine au 1 ?_;refine au 2 ?_;refine au 3 ?_;refine au 4 ?_;refine au 5 ?_;refine au 7 ?_;refine au 8 ?_;refine au 9 ?_;refine au 10 ?_;refine au 11 ?_;refine ch 6 rfl (by kernel_rfl) (λK j=>?_)
   go_simp;refine j.out _ _ (by exact s.o _ (a.o.2.trans (BA.o.mono g.o))) (λhHeld2=>?_)
   clear j K hHeld;have hHeld:=hHeld2;clear hHeld2
   (try simp only[Act.put,bJ,bE,bp])
   refine ch 12 rfl (by kernel_rfl) (λK j=>?_)
   refine Np _ (by rfl) (.tmp 18) (.tmp 23) (by rfl) wr.heap.size i0 I0.o Y0.o Y1.o Y2.o _ 0 [] (by simp[Act.eval]) OE.o ls c u.o _ (by simp[Act.eval]) C1.o (by unfold maxLen;omega) (by omega) x.o ?_
   intro v1 F o1 g1;have B1:ah (iL wr.heap.size wr F):=BA.o.grown g1 x.o (λq hq=>(OE.o.lt q hq).1)
   rw[iN,dK]at o1;obtain⟨d,vc,aj,-⟩:=(aB.of o1).form;subst aj;have O1:=af o1;have BC:=af (aO F (iC #[I J lf,Y d c vc] 32));have L:ah (iL wr.heap.size wr (F.alloc (iC #[I J lf,Y d c vc] 32))):=B1.o.trans (BC.o.mono B1.o.size);have B:=af (bu Q.o L.o);have y:ah (w.heap.size<=(F.alloc (iC #[I J lf,Y d c vc] 32)).heap.size):=bR g.o L.o.size;clear o1 g1;refine j.out _ _ (by exact s.o _ (a.o.2.trans (B1.o.mono g.o))) (λhHeld2=>?_)
   clear j K hHeld;have hHeld:=hHeld2;clear hHeld2
   (try simp only[Act.put,bJ,bE,bp])
   refine au 13 ?_;refine ch 14 rfl (by kernel_rfl) (λK j=>?_)
   go_simp;refine j.out _ _ (by exact s.o _ (a.o.2.trans (L.o.mono g.o))) (λhHeld2=>?_)
   clear j K hHeld;have hHeld:=hHeld2;clear hHeld2
   (try simp only[Act.put,bJ,bE,bp])
   refine ch 15 rfl (by kernel_rfl) (λK j=>?_)
   refine kT _ (by rfl) (.tmp 12) (.tmp 26) 24 (by rfl) w.heap.size 32 j0 (iA #[I J 0,Y O 0 0]) 2 32 Tryz.underlying24 J0.o X0.o X1.o X2.o rfl (by decide) _ sn (bi ss) (by simp[Act.eval]) B.o ⟨F.heap.size,0,O⟩ 1 1 [I J lf,Y d c vc] (by simp[Act.eval]) rfl (It _ _ _) (rY _ _ _ _) (by unfold maxLen;omega) (by omega) y.o ?_
   intro u2 w2 o2 g2;have M:ah (iL w.heap.size w w2):=(a.o.2.trans (L.o.mono g.o)).grown g2 y.o (λq hq=>(B.o.lt q hq).1)
   obtain⟨ua,uc,ai,-⟩:=(aB.of o2).form;subst ai;have O2:=af o2;have G2:=af g2;clear o2 g2;refine j.out _ _ (by exact s.o _ M.o) (λhHeld2=>?_)
   clear j K hHeld;have hHeld:=hHeld2;clear hHeld2
   (try simp only[Act.put,bJ,bE,bp])
   refine wpAnyH_done (by kernel_rfl) ?_ _
   refine vw ?_;go_wp2_with fail;all_goals
    have SN:ah (sD w w2 (Y ua (sn+1) uc) (ss++[(lf,Y d c vc,ls)])):=by
     have o2:=O2.o;have ae:aB 9 wr.heap.size (F.alloc (iC #[I J lf,Y d c vc] 32)).heap.size (Y d c vc) ls.length (cA ls) (F.alloc (iC #[I J lf,Y d c vc] 32)):=by
      rw[u.o];exact((aB.of O1.o).blw BC.o).up BC.o.size
     have ho:w2.ownsRow w.heap.size 32 2 (Y ua (sn+1) uc) (ss++[(lf,Y d c vc,ls)]).length (bi (ss++[(lf,Y d c vc,ls)])):=by
      rw[<-tZ,aT,z.o];exact o2
     exact⟨ci.snoc (r:=(lf,Y d c vc,ls)) a.o.1 L.o g.o ae (by simp only;have:=u.o;unfold maxLen;omega) G2.o ho,M.o⟩
    have A:ah ((ss++[(lf,Y d c vc,ls)]).map aW=(rs.map aW).take (k+1)):=by
     show _=_;rw[dB];exact N.o
    have D:(ss++[(lf,Y d c vc,ls)]).length<=k+1:=by rw[aT,z.o];simp;omega
    generalize ss++[(lf,Y d c vc,ls)]=aa at SN A D;clear O1 O2 G2 BC L B y s Q BA OE C1 x a N;go_wp2;go_roundw
    case rel=>first|exact⟨k+1,aa,by omega,by go_num,D,A,SN⟩|exact⟨_,_,k+1,aa,by omega,by go_num,D,A,SN⟩
    case measure=>simp[intOf];omega
  ·have ET:ah (ss.map aW=rs.map aW):=by
    show _=_;rw[HT.o,cm (by rw[aS];have:=H1.o;omega)]
   go_wp2;go_ret
   first
    |exact⟨_,ss,rfl,a.o.1,ET.o,a.o.2⟩
    |exact⟨_,rfl,ss,a.o.1,ET.o,a.o.2⟩
theorem NP{a b:ByteArray}(h:a=b):(a.toList==b.toList)=iV:=by subst h;simp
theorem PM(w:iW)(p q:Nat):(w.drewN p).drewN q=w.drewN (p+q):=by
 induction q with
 |zero=>rfl
 |succ q a=>exact congrArg World.drew a
def fA(w W:iW)(x:Int)(b a:iX)(ss:List Hw):Prop:=W.heap[w.heap.size]?=X (iC #[I J x,b] 32 (0,0))/\W.ownsRow (w.heap.size+1) 32 2 a ss.length (bi ss)/\iL w.heap.size w W
variable{ss:List Hw}
theorem fA.below{w W W':iW}{c a:iX}(h:fA w W x c a ss)(b:iL W.heap.size W W'):fA w W' x c a ss:=
 ⟨(b.block _ (aJ.1 h.1).1).trans h.1,bu h.2.1 b,h.2.2.trans (b.mono h.2.2.size)⟩
theorem fA.form{w W:iW}{d a:iX}(h:fA w W x d a ss):∃ad c,a=Y ad ss.length c:=by
 rcases h.2.1.2 with⟨rfl,h0⟩|⟨g,cap,b,rfl,-⟩
 ·exact⟨_,_,by rw[h0]⟩
 ·exact⟨_,_,rfl⟩
theorem fA.snoc{w W y:iW}{f d u:iX}{r:Hw}(h:fA w W x f d ss)(c:W.grownBy y d.ownBlock)(g:y.ownsRow (w.heap.size+1) 32 2 u (ss.length+1) (bi ss++lS r)):fA w y x f u (ss++[r]):=by
 have i:w.heap.size+1<=W.heap.size:=(aJ.1 h.1).1;have b:=λq a=>(h.2.1.lt q a).1
 refine⟨(c.block _ (by omega) (λe=>?_)).trans h.1,by rw[aT,<-tZ];exact g,h.2.2.grown c (by omega) (λq a=>by have:=b q a;omega)⟩
 have:=b _ e.symm;omega
theorem fA.rd{w W:iW}{p:iX}{a:Option Addr}(h:fA w W x p (Y a n c) ss)(k:ss.length=n)(hs:∀r∈ss,jq w r.2.1 r.2.2):dN W a n ss:=by
 have t:ss.length<=maxLen:=by
  rcases h.2.1.2 with⟨-,h0⟩|⟨g,cap,d,-,-,-,h1,s,-⟩
  ·rw[h0];unfold maxLen;omega
  ·omega
 refine⟨k,by omega,λr l=>(hs r l).below h.2.2,λh0=>?_⟩
 rcases aB.of h.2.1 with⟨e,q⟩|⟨g,cap,e,u,m,o⟩
 ·omega
 ·injection e with e1 e2 e3
  refine⟨g,0,e1,m,λi r hi=>?_⟩
  have b:=λj v f=>o.cell (yA ss i r hi j v f)
  refine⟨?_,?_⟩
  ·simpa using b 0 _ rfl
  ·simpa using b 1 _ rfl
theorem IZ{r:Hw}(p:Hw->Bool)(h:rs[k]?=X r):(rs.take (k+1)).filter p=(rs.take k).filter p++(if p r then[r]else[]):=by
 rw[dF,h,iD];congr 1;simp[List.filter_cons]
theorem Fe(rs:List Hw)(p:Sh->Bool):(rs.filter (λr=>p (aW r))).map aW=(rs.map aW).filter p:=by
 induction rs with
 |nil=>rfl
 |cons r rs a=>
  simp only[iH,cD];split<;>simp[a]
theorem vy(W:iW)(x:Int)(v:iX)(n:Nat)(a:W.heap.size=n):∀(j:Nat) (u:iX),[I J x,v][j]?=X u->(W.alloc (iC #[I J x,v] 32)).cell? ((⟨n,0,O⟩:Addr).add j)=X u:=by
 subst a;exact It W x v
theorem Ln(f:Nat)(ad:Option Addr)(p cap:Nat)(rs:List Hw)(x:Int)(xv:iX)(D:List ByteArray)(w:iW)(hl:p<=1048576)(ag:∀r∈rs,r.2.2.length<=1048576)(ap:D.length<=1048576)(h:dN w ad p rs)(hx:jq w xv D)(hf:f=23):
 iK Tryz.prog f #[Y ad p cap,iA #[I J x,xv]] w (sH w (eS (rs.map aW) ⟨x,D⟩)):=by
 subst hf;obtain⟨d,g,rfl,al,ao⟩:=hx;have HX:ah (jq w (Y d D.length g) D):=⟨d,g,rfl,al,ao⟩;clear al ao;have av:=af ap;obtain⟨l,V⟩:=an D.length;rw[V]at HX;rw[V];clear V ap;have S0:ah (fA w ((w.alloc (iC #[I J x,Y d l g] 32)).alloc (iC #[] 32)) x (Y d l g) (Y (X ⟨w.heap.size+1,0,O⟩) 0 0) []):=by
  have e:(w.alloc (iC #[I J x,Y d l g] 32)).heap.size=w.heap.size+1:=by simp
  refine⟨(gU _ _ _ (by simp)).trans (az _ _),?_,(aY).alloc (by simp) _⟩
  have:=(ci.empty (w.alloc (iC #[I J x,Y d l g] 32)) (w.heap.size+1) (by simp)).1
  rw[e]at this;exact this
 have H:=af h;have H1:=af h.1;have aa:=af ag;clear h ag;go_enter Tryz.func23,Tryz.ntmps23;go_wp2;generalize(w.alloc (iC #[I J x,Y d l g] 32)).alloc (iC #[] 32)=wa at S0⊢;obtain⟨j0,ae,aq,ar,au⟩:=bK rg;have J0:=af ae;have Z0:=af aq;have Z1:=af ar;have Z2:=af au;clear ae aq ar au;go_loopw [5,6] (λov Z W=>∃(k:Nat) (ss:List Hw),k<=p/\Z=I J k/\ss.length<=k+0/\ah (ss=(rs.take k).filter (λr=>decide (r.1<x)))/\ah (fA w W x (Y d l g) ov ss)) (λ_ Z _=>p-(intOf Z).toNat)
 case atStart=>exact⟨0,[],aI _,rfl,aI _,by show _=_;simp,S0⟩
 case round=>
  obtain⟨k,ss,hk,rfl,F,E,i⟩:=hrel;clear S0;obtain⟨Q,R,U⟩:=i.o.form;subst U;by_cases ak:(k:Int)<p
  ·obtain⟨r,t⟩:∃r,rs[k]?=X r:=⟨_,ay (by have:=H1.o;omega)⟩
   obtain⟨b,aC,e,hb⟩:=H.o.adr (by omega)
   subst e;have T:=af (H.o.below i.o.2.2);obtain⟨c0,c1⟩:=T.o.cell t;have x0:=am _ _ 0 _ _ _ i.o.1;have n:=IZ (λr=>decide (r.1<x)) t
   obtain⟨lf,kv,ls⟩:=r;obtain⟨y,z,L,-⟩:=T.o.2.2.1 (lf,kv,ls) (aH t);simp only at c0 c1 L n;subst L;have k0:(0:Int)<=k:=by omega
   obtain⟨A,K⟩:=an ls.length;rw[K]at c1 n;clear K t hb T;obtain⟨u,c⟩:=an ss.length;rw[c]at i F⊢;have j:=af c;clear c;have aA:ah (w.heap.size+1<=wr.heap.size):=(aJ.1 i.o.1).1;by_cases hc:lf<x
   ·have m:ah (ss++[(lf,Y y A z,ls)]=(rs.take (k+1)).filter (λr=>decide (r.1<x))):=by
     show _=_;rw[n,E.o,aj (aQ hc)]
    clear n E;have v:ah (∀q,fA w ((wr.drewN q).alloc (iC #[I J lf,Y y A z] 32)) x (Y d l g) (Y Q u R) ss):=λq=>(i.o.below (bI (ax _ _) q)).below (aY)
    have S:ah (∀q,((wr.drewN q).alloc (iC #[I J lf,Y y A z] 32)).ownsRow (w.heap.size+1) 32 2 (Y Q u R) u (bi ss)):=λq=>by have:=(v.o q).2.1;rw[j.o]at this;exact this
    have B:ah (∀q,w.heap.size+1<=((wr.drewN q).alloc (iC #[I J lf,Y y A z] 32)).heap.size):=λq=>(aJ.1 (v.o q).1).1
    go_wp2;go_quiet (fail);go_wp2_with (at_builtin;refine cN _ rfl _ _ 24 rfl (w.heap.size+1) 32 j0 (iA #[I J 0,Y O 0 0]) 2 32 Tryz.underlying24 J0.o Z0.o Z1.o Z2.o rfl (by decide) _ u (bi ss) rfl (S.o _) ⟨wr.heap.size,0,O⟩ 1 1 [I J lf,Y y A z] rfl rfl (vy _ _ _ _ (by simp)) (rY _ _ _ _) (by unfold maxLen;omega) (by omega) (B.o _) ?_)
    intro u2 w2 N g2 _;obtain⟨ua,uc,M,-⟩:=(aB.of N).form;subst M;have G:ah (fA w w2 x (Y d l g) (Y ua (u+1) uc) (ss++[(lf,Y y A z,ls)])):=fA.snoc (r:=(lf,Y y A z,ls)) (v.o _) g2 (by rw[j.o];exact N)
    have a:(ss++[(lf,Y y A z,ls)]).length<=k+1+0:=by rw[aT,j.o];simp;omega
    generalize ss++[(lf,Y y A z,ls)]=P at G m a;clear N g2 v S B i;go_wp2;go_roundw
    case rel=>first|exact⟨k+1,P,by omega,by go_num,a,m,G⟩|exact⟨_,_,k+1,P,by omega,by go_num,a,m,G⟩
    case measure=>simp[intOf];omega
   ·have m:ah (ss=(rs.take (k+1)).filter (λr=>decide (r.1<x))):=by
     show _=_;rw[n,E.o,ai (by simpa using hc)]
     simp
    clear n E;have v:ah (∀q,fA w (wr.drewN q) x (Y d l g) (Y Q u R) ss):=λq=>i.o.below (bI (ax _ _) q)
    clear i;have a:ss.length<=k+1+0:=by rw[j.o];omega
    go_wp2;go_quiet (fail);go_wp2;go_roundw
    case rel=>first|exact⟨k+1,ss,by omega,by go_num,a,m,v.o _⟩|exact⟨_,_,k+1,ss,by omega,by go_num,a,m,v.o _⟩
    case measure=>simp[intOf];omega
  ·obtain⟨u,c⟩:=an ss.length;have ac:ah (ss=rs.filter (λr=>decide (r.1<x))):=by
    show _=_;rw[E.o,cm (by have:=H1.o;omega)]
   rw[c]at i F⊢;have j:=af c;clear c E;have x0:=am _ _ 0 _ _ _ i.o.1;have x1:=am _ _ 1 _ _ _ i.o.1;have v:ah (fA w (wr.alloc (iC #[I J x,Y d l g] 32)) x (Y d l g) (Y Q u R) ss):=i.o.below (aY);have S:ah ((wr.alloc (iC #[I J x,Y d l g] 32)).ownsRow (w.heap.size+1) 32 2 (Y Q u R) u (bi ss)):=by have:=v.o.2.1;rw[j.o]at this;exact this
   have B:ah (w.heap.size+1<=(wr.alloc (iC #[I J x,Y d l g] 32)).heap.size):=(aJ.1 v.o.1).1;go_wp2_with (at_builtin;refine cN _ rfl _ _ 24 rfl (w.heap.size+1) 32 j0 (iA #[I J 0,Y O 0 0]) 2 32 Tryz.underlying24 J0.o Z0.o Z1.o Z2.o rfl (by decide) _ u (bi ss) rfl S.o ⟨wr.heap.size,0,O⟩ 1 1 [I J x,Y d l g] rfl rfl (vy _ _ _ _ rfl) (rY _ _ _ _) (by unfold maxLen;omega) (by omega) B.o ?_)
   intro u2 w2 N g2 _;obtain⟨ua,uc,M,-⟩:=(aB.of N).form;subst M;have G:ah (fA w w2 x (Y d l g) (Y ua (u+1) uc) (ss++[(x,Y d l g,D)])):=fA.snoc (r:=(x,Y d l g,D)) v.o g2 (by rw[j.o];exact N)
   have ab:ah (ss++[(x,Y d l g,D)]=rs.filter (λr=>decide (r.1<x))++[(x,Y d l g,D)]++(rs.take 0).filter (λr=>decide (x<r.1))):=by show _=_;rw[ac.o];simp
   have a:(ss++[(x,Y d l g,D)]).length<=p+1:=by rw[aT,j.o];simp;omega
   generalize aw:ss++[(x,Y d l g,D)]=s0 at G ab a;clear N g2 v S B i aw ac j x0 x1 F hk ak;have S0:=G;clear G;go_wp2;go_loopw [5,7] (λov Z W=>∃(k:Nat) (ss:List Hw),k<=p/\Z=I J k/\ss.length<=k+(p+1)/\ah (ss=rs.filter (λr=>decide (r.1<x))++[(x,Y d l g,D)]++(rs.take k).filter (λr=>decide (x<r.1)))/\ah (fA w W x (Y d l g) ov ss)) (λ_ Z _=>p-(intOf Z).toNat)
   case atStart=>exact⟨0,s0,aI _,rfl,by omega,ab,S0⟩
   case round=>
    obtain⟨k,ss,hk,rfl,F,E,i⟩:=hrel;clear S0;obtain⟨Q,R,U⟩:=i.o.form;subst U;by_cases ak:(k:Int)<p
    ·obtain⟨r,t⟩:∃r,rs[k]?=X r:=⟨_,ay (by have:=H1.o;omega)⟩
     obtain⟨b,aC,e,hb⟩:=H.o.adr (by omega)
     subst e;have T:=af (H.o.below i.o.2.2);obtain⟨c0,c1⟩:=T.o.cell t;have x0:=am _ _ 0 _ _ _ i.o.1;have n:=IZ (λr=>decide (x<r.1)) t
     obtain⟨lf,kv,ls⟩:=r;obtain⟨y,z,L,-⟩:=T.o.2.2.1 (lf,kv,ls) (aH t);simp only at c0 c1 L n;subst L;have k0:(0:Int)<=k:=by omega
     obtain⟨A,K⟩:=an ls.length;rw[K]at c1 n;clear K t hb T;obtain⟨u,c⟩:=an ss.length;rw[c]at i F⊢;have j:=af c;clear c;have aA:ah (w.heap.size+1<=wr.heap.size):=(aJ.1 i.o.1).1;by_cases hc:x<lf
     ·have m:ah (ss++[(lf,Y y A z,ls)]=rs.filter (λr=>decide (r.1<x))++[(x,Y d l g,D)]++(rs.take (k+1)).filter (λr=>decide (x<r.1))):=by
       show _=_;rw[n,E.o,aj (aQ hc)];simp only[fJ]
      clear n E;have v:ah (∀q,fA w ((wr.drewN q).alloc (iC #[I J lf,Y y A z] 32)) x (Y d l g) (Y Q u R) ss):=λq=>(i.o.below (bI (ax _ _) q)).below (aY)
      have S:ah (∀q,((wr.drewN q).alloc (iC #[I J lf,Y y A z] 32)).ownsRow (w.heap.size+1) 32 2 (Y Q u R) u (bi ss)):=λq=>by have:=(v.o q).2.1;rw[j.o]at this;exact this
      have B:ah (∀q,w.heap.size+1<=((wr.drewN q).alloc (iC #[I J lf,Y y A z] 32)).heap.size):=λq=>(aJ.1 (v.o q).1).1
      go_wp2;go_quiet (fail);go_wp2_with (at_builtin;refine cN _ rfl _ _ 24 rfl (w.heap.size+1) 32 j0 (iA #[I J 0,Y O 0 0]) 2 32 Tryz.underlying24 J0.o Z0.o Z1.o Z2.o rfl (by decide) _ u (bi ss) rfl (S.o _) ⟨wr.heap.size,0,O⟩ 1 1 [I J lf,Y y A z] rfl rfl (vy _ _ _ _ (by simp)) (rY _ _ _ _) (by unfold maxLen;omega) (by omega) (B.o _) ?_)
      intro u2 w2 N g2 _;obtain⟨ua,uc,M,-⟩:=(aB.of N).form;subst M;have G:ah (fA w w2 x (Y d l g) (Y ua (u+1) uc) (ss++[(lf,Y y A z,ls)])):=fA.snoc (r:=(lf,Y y A z,ls)) (v.o _) g2 (by rw[j.o];exact N)
      have a:(ss++[(lf,Y y A z,ls)]).length<=k+1+(p+1):=by rw[aT,j.o];simp;omega
      generalize ss++[(lf,Y y A z,ls)]=P at G m a;clear N g2 v S B i;go_wp2;go_roundw
      case rel=>first|exact⟨k+1,P,by omega,by go_num,a,m,G⟩|exact⟨_,_,k+1,P,by omega,by go_num,a,m,G⟩
      case measure=>simp[intOf];omega
     ·have m:ah (ss=rs.filter (λr=>decide (r.1<x))++[(x,Y d l g,D)]++(rs.take (k+1)).filter (λr=>decide (x<r.1))):=by
       show _=_;rw[n,E.o,ai (by simpa using hc)]
       simp
      clear n E;have v:ah (∀q,fA w (wr.drewN q) x (Y d l g) (Y Q u R) ss):=λq=>i.o.below (bI (ax _ _) q)
      clear i;have a:ss.length<=k+1+(p+1):=by rw[j.o];omega
      go_wp2;go_quiet (fail);go_wp2;go_roundw
      case rel=>first|exact⟨k+1,ss,by omega,by go_num,a,m,v.o _⟩|exact⟨_,_,k+1,ss,by omega,by go_num,a,m,v.o _⟩
      case measure=>simp[intOf];omega
    ·have SS:ah (ss=rs.filter (λr=>decide (r.1<x))++[(x,Y d l g,D)]++rs.filter (λr=>decide (x<r.1))):=by
      show _=_;rw[E.o,cm (by have:=H1.o;omega)]
     obtain⟨u,c⟩:=an ss.length;rw[c]at i F⊢;have HM:ah (ss.map aW=eS (rs.map aW) ⟨x,D⟩):=by
      show _=_;rw[SS.o,dB,dB];unfold eS;rw[<-Fe rs (λs=>decide (s.vol<x)),<-Fe rs (λs=>decide (x<s.vol))]
      rfl
     have HR:ah (∀r∈ss,jq w r.2.1 r.2.2/\r.2.2.length<=1048576):=by
      intro r t;rw[SS.o]at t;rcases br.1 t with t|t
      ·rcases br.1 t with t|t
       ·have:=(dR.1 t).1;exact⟨H.o.2.2.1 r this,aa.o r this⟩
       ·simp only[bT]at t;subst t;exact⟨HX.o,av.o⟩
      ·have:=(dR.1 t).1;exact⟨H.o.2.2.1 r this,aa.o r this⟩
     have C:=af (AG _ Q u R ss wr (by omega) (λr t=>(HR.o r t).2) (i.o.rd c (λr t=>(HR.o r t).1)) rfl)
     clear SS E c HR;go_wp2_with fail;refine C.o.mono ?_;rintro e3 w3 ⟨v3,s3,rfl,o3,t3,b3⟩;go_wp2;go_ret;exact⟨_,s3,rfl,o3.down i.o.2.2.size,by rw[t3];exact HM.o,i.o.2.2.trans (b3.mono i.o.2.2.size)⟩
open Pack
def eY(d:Dv)(v:Int)(n:Nat):List ByteArray:=(List.range n).map (λk:Nat=>(js d v k).1)
def m9(d:Dv):List Sh:=d.fS.fV.map (λv=>⟨v.1,eY d v.1 16⟩)
theorem RA(d:Dv)(v:Int)(n:Nat):eY d v (n+1)=eY d v n++[(js d v n).1]:=by
 unfold eY;rw[qb,dB];rfl
theorem uM(d:Dv)(v:Int)(n:Nat):(eY d v n).length=n:=by simp[eY]
def lh(wr W:iW)(id:Int)(b:iX)(a:List ByteArray):Prop:=W.heap[wr.heap.size]?=X (iC #[I J id,b] 32 (0,0))/\W.ownsRow (wr.heap.size+1) 9 1 b a.length (cA a)/\iL wr.heap.size wr W
theorem lh.below{w W W':iW}{a:iX}{ss:List ByteArray}(h:lh w W x a ss)(b:iL W.heap.size W W'):lh w W' x a ss:=
 ⟨(b.block _ (aJ.1 h.1).1).trans h.1,bu h.2.1 b,h.2.2.trans (b.mono h.2.2.size)⟩
theorem lh.form{w W:iW}{a:iX}{ss:List ByteArray}(h:lh w W x a ss):∃ad c,a=Y ad ss.length c:=by
 rcases h.2.1.2 with⟨rfl,h0⟩|⟨g,cap,b,rfl,-⟩
 ·exact⟨_,_,by rw[h0]⟩
 ·exact⟨_,_,rfl⟩
theorem lh.blk{wr W y:iW}{a:iX}{c:List ByteArray}(h:lh wr W x a c)(b:W.grownBy y a.ownBlock):y.heap[wr.heap.size]?=X (iC #[I J x,a] 32 (0,0)):=by
 refine(b.block _ (aJ.1 h.1).1 (λe=>?_)).trans h.1
 have:=(h.2.1.lt _ e.symm).1;omega
theorem lh.snoc{wr W y:iW}{d u:iX}{a:List ByteArray}{s:ByteArray}(h:lh wr W x d a)(c:W.grownBy y d.ownBlock)(g:y.ownsRow (wr.heap.size+1) 9 1 u (a.length+1) (cA a++[iT s])):lh wr (y.setCell ⟨wr.heap.size,1,O⟩ u) x u (a++[s]):=by
 have i:wr.heap.size+1<=W.heap.size:=(aJ.1 h.1).1;have f:=λq b=>(h.2.1.lt q b).1
 refine⟨eo (h.blk c) 1 u,?_,(h.2.2.grown c (by omega) (λq b=>by have:=f q b;omega)).setCell (p:=⟨wr.heap.size,1,O⟩) (ak _) _⟩
 have e:cA (a++[s])=cA a++[iT s]:=by simp[cA]
 rw[e,aT];exact Cf g (by omega) 1 u
theorem Mi(W:iW)(s:ByteArray)(n:Nat)(b:W.heap.size=n):∀(j:Nat) (u:iX),[iT s][j]?=X u->(W.alloc (iC #[iT s] 9)).cell? ((⟨n,0,O⟩:Addr).add j)=X u:=by
 subst b;intro j u a
 match j,a with
 |0,a=>
  simp at a;subst a;simp[Addr.add]
theorem zQ(s:ByteArray):∀u∈ [iT s],u.oneCell'=iV:=by
 intro u a;simp at a;subst a;rfl
def Dx(rs:List Hw):Prop:=∀r∈rs,∃a c,r.2.1=Y a 16 c/\16<=c
theorem PD(v:iX)(d:Dv)(w:iW)(h:fU w v d):iK Tryz.prog 11 #[v] w λe w'=>∃uv rs,e=G uv/\ci w' w.heap.size uv rs/\rs.map aW=m9 d/\iL w.heap.size w w'/\Dx rs:=by
 obtain⟨fd,fc,va,C,vc,ad,ln,cap,rfl,h1,h2,h3⟩:=h.form;have bA:=aO w (iC #[Y fd d.fH.length fc,Y va C vc,Y ad ln cap,I J d.fS.next,I J d.seq,I J d.tx,I J d.base] 46);have gA:aP (w.alloc (iC #[Y fd d.fH.length fc,Y va C vc,Y ad ln cap,I J d.fS.next,I J d.seq,I J d.tx,I J d.base] 46)) w.heap.size (Y fd d.fH.length fc) (Y va C vc) (Y ad ln cap) d.fS.next d.seq d.tx d.base:=az _ _;generalize ao:w.alloc (iC #[Y fd d.fH.length fc,Y va C vc,Y ad ln cap,I J d.fS.next,I J d.seq,I J d.tx,I J d.base] 46)=wa at bA gA;obtain⟨rs,e1,i1,l1,ap,ar⟩:=(h1.below bA).lens h2;have CS:=af (pR (Y fd d.fH.length fc) rs wa l1 ap ar i1);rw[e1]at CS;unfold nH at CS;have HR:ah (∀u t,vu (aw d.fH) d.fS u t=iU #[iT (js d u t).1,iB (js d u t).2]):=λu t=>IY d u t
 have HT:ah (∀x∈aw d.fH,x.fP.text.size<=1048576):=AU;obtain⟨M,hM⟩:=an (aw d.fH);rw[hM]at CS HR HT;have HI:=af (h3.below bA);obtain⟨aQ,aU,aR,aE,aM,ag,aN,hv,-,aK,-,-,-,U,-⟩:=h3.below bA;unfold eC at hv;injection hv with hv
 simp only[Array.mk.injEq,iQ,Al,jY]at hv;obtain⟨⟨rfl,rfl,rfl⟩,-⟩:=hv;have ab:=af U;have aa:=af U.1;have c0:=gA.cells.1;have HG:=af gA;have HD:=af bA;obtain⟨Jq,hJ⟩:=an d.fS.next;rw[hJ]at HI HG ao;rw[hJ];clear hJ bA gA h1 h2 h3 h rs e1 i1 l1 ap ar hM U;obtain⟨i0,m,n,p,s⟩:=bK vV;have I0:=af m;have Y0:=af n;have Y1:=af p;have Y2:=af s;clear m n p s;obtain⟨j0,m,n,p,s⟩:=bK rg;have J0:=af m;have Z0:=af n;have Z1:=af p;have Z2:=af s;clear m n p s;go_enter Tryz.func11,Tryz.ntmps11;go_wp2_with fail;clear ao;refine CS.o.mono ?_;rintro e y ⟨la,lc,rfl,f1,f2,f3⟩;have S0:ah (sD y (y.alloc (iC #[] 32)) (Y (X ⟨y.heap.size,0,O⟩) 0 0) []):=⟨ci.empty _ _ (ak _),aY⟩;have F1:=af f1;have au:=af f2;have D1:=af (HD.o.trans (f3.mono HD.o.size));have G1:=af (HG.o.below f3);have I1:=af (HI.o.below f3);have V1:=af (ab.o.below f3);clear f1 f2 f3 CS HG HI HD ab c0;go_wp2;generalize y.alloc (iC #[] 32)=wb at S0⊢;go_loopw [4,5] (λov iv W=>∃(k:Nat) (ss:List Hw),k<=C/\iv=I J k/\ss.length<=k/\ah (ss.map aW=(m9 d).take k/\Dx ss)/\ah (sD y W ov ss)) (λ_ iv _=>C-(intOf iv).toNat)
 case atStart=>exact⟨0,[],aI _,rfl,aI _,⟨by simp,λr g=>(by cases g)⟩,S0⟩
 case round=>
  obtain⟨k,ss,hk,rfl,aC,i,c⟩:=hrel;have E:=af i.o.1;have D:=af i.o.2;clear i
  rename iW=>wq
  clear S0;obtain⟨oa,oc,av⟩:=c.o.1.form;subst av;have GR:=af (G1.o.below c.o.2);have a1:=GR.o.cells.2.1;by_cases aH:(k:Int)<C
  ·obtain⟨r,g⟩:∃r,d.fS.fV[k]?=X r:=⟨_,ay (by have:=aa.o;omega)⟩
   obtain⟨b,aD,e,hb,hc⟩:=(V1.o.below c.o.2).2.2.2 (by omega)
   subst e;obtain⟨b0,-⟩:=hc k r g;have K:ah (ss.map aW++[⟨r.1,eY d r.1 16⟩]=(m9 d).take (k+1)):=by
    show _=_;rw[E.o,dF];unfold m9;rw[bk,g];rfl
   obtain⟨id,rt⟩:=r;simp only at b0 K;have k0:(0:Int)<=k:=by omega
   clear g hb hc E;obtain⟨sn,S⟩:=an ss.length;rw[S]at c aC⊢;have H:=af S;clear S;have A:ah (y.heap.size<=wq.heap.size):=c.o.2.size;have X0:ah (lh wq (wq.alloc (iC #[I J id,Y O 0 0] 32)) id (Y O 0 0) (eY d id 0)):=
    ⟨az wq _,xz _ _ _ _,aY⟩
   go_wp2;generalize wq.alloc (iC #[I J id,Y O 0 0] 32)=wx at X0⊢;go_loopw [7] (λjv W=>∃(j:Nat) (tv:iX),j<=16/\jv=I J j/\ah (lh wq W id tv (eY d id j))) (λjv _=>16-(intOf jv).toNat)
   case atStart=>exact⟨0,_,aI _,rfl,X0⟩
   case round=>
    obtain⟨j,tv,hj,rfl,f⟩:=hrel;clear X0;obtain⟨a,tc,al⟩:=f.o.form;rw[uM]at al;subst al;have x0:=am _ _ 0 _ _ _ f.o.1;have x1:=am _ _ 1 _ _ _ f.o.1;have BQ:=af (c.o.2.trans (f.o.2.2.mono A.o));by_cases aG:(j:Int)<16
    ·have G2:=af (G1.o.below BQ.o);have y1:=G2.o.cells.2.1;have y2:=G2.o.cells.2.2.1;have y3:=G2.o.cells.2.2.2.1;have CR:=af (Io la M.length lc M (iA #[Y (X ⟨b,aD,O⟩) C vc,Y ad ln cap,I J Jq]) d.fS id j wr (by have:=au.o;omega) HT.o (F1.o.below BQ.o) (I1.o.below BQ.o))
     rw[HR.o]at CR;have l:=af (RA d id j);have z:=af (uM d id j);obtain⟨P,hP⟩:=an (js d id j);rw[hP]at CR l;obtain⟨TT,ai⟩:=an (eY d id j);rw[ai]at f l z;obtain⟨ps,pb⟩:=P;simp only at CR l;clear hP ai;go_wp2_with fail;refine CR.o.mono ?_;rintro e w2 ⟨rfl,g2⟩;have X2:=af (f.o.below g2);have z1:=am _ _ 1 _ _ _ X2.o.1;have X3:=af (X2.o.below ((ax _ _).alloc (ak _) (iC #[iT ps] 9)));have OW:ah ((w2.alloc (iC #[iT ps] 9)).ownsRow (wq.heap.size+1) 9 1 (Y a j tc) j (cA TT)):=by have:=X3.o.2.1;rw[z.o]at this;exact this
     have ac:ah (wq.heap.size+1<=(w2.alloc (iC #[iT ps] 9)).heap.size):=(aJ.1 X3.o.1).1;clear g2 CR f x0 x1;go_wp2_with (at_builtin;refine cN _ rfl _ _ 30 rfl (wq.heap.size+1) 9 i0 (iT ⟨#[]⟩) 1 16 Tryz.underlying30 I0.o Y0.o Y1.o Y2.o rfl (by decide) _ j (cA TT) rfl OW.o ⟨w2.heap.size,0,O⟩ 1 1 [iT ps] rfl rfl (Mi _ _ _ rfl) (zQ _) (by unfold maxLen;omega) (by omega) ac.o ?_)
     intro u4 w4 V Q _;obtain⟨ua,uc,T,-⟩:=(aB.of V).form;subst T;have r4:=X3.o.blk Q;have t1:=am _ _ 1 _ _ _ r4;have t2:=aL _ _ 1 _ _ r4;have Z:ah (lh wq (w4.setCell ⟨wq.heap.size,1,O⟩ (Y ua (j+1) uc)) id (Y ua (j+1) uc) (eY d id (j+1))):=by
      rw[l.o];exact X3.o.snoc Q (by rw[z.o];exact V)
     clear V Q r4 OW ac X2 X3 l z z1;go_wp2;go_roundw
     case rel=>first|exact⟨j+1,_,by omega,by go_num,Z⟩|exact⟨_,j+1,_,by omega,by go_num,Z⟩
     case measure=>simp[intOf];omega
    ·have aj:j=16:=by omega
     subst aj;have ae:ah (wq.ownsRow y.heap.size 32 2 (Y oa sn oc) sn (bi ss)):=by have:=c.o.1.1;rw[H.o]at this;exact this
     have BC:=af (aO wr (iC #[I J id,Y a 16 tc] 32));have BX:ah (iL wq.heap.size wq (wr.alloc (iC #[I J id,Y a 16 tc] 32))):=f.o.2.2.trans (BC.o.mono f.o.2.2.size);have N:=af (bu ae.o BX.o);have F:ah (y.heap.size<=(wr.alloc (iC #[I J id,Y a 16 tc] 32)).heap.size):=bR A.o BX.o.size;go_wp2_with (at_builtin;refine cN _ rfl _ _ 24 rfl y.heap.size 32 j0 (iA #[I J 0,Y O 0 0]) 2 32 Tryz.underlying24 J0.o Z0.o Z1.o Z2.o rfl (by decide) _ sn (bi ss) rfl N.o ⟨wr.heap.size,0,O⟩ 1 1 [I J id,Y a 16 tc] rfl rfl (vy _ _ _ _ rfl) (rY _ _ _ _) (by unfold maxLen;omega) (by omega) F.o ?_)
     intro u4 w4 V Q _;obtain⟨ua,uc,T,-⟩:=(aB.of V).form;subst T;have Z:ah (sD y w4 (Y ua (sn+1) uc) (ss++[(id,Y a 16 tc,eY d id 16)])):=by
      have aA:aB 9 wq.heap.size (wr.alloc (iC #[I J id,Y a 16 tc] 32)).heap.size (Y a 16 tc) (eY d id 16).length (cA (eY d id 16)) (wr.alloc (iC #[I J id,Y a 16 tc] 32)):=(((aB.of f.o.2.1).blw BC.o).up BC.o.size).dn (by omega)
      have ho:w4.ownsRow y.heap.size 32 2 (Y ua (sn+1) uc) (ss++[(id,Y a 16 tc,eY d id 16)]).length (bi (ss++[(id,Y a 16 tc,eY d id 16)])):=by
       rw[<-tZ,aT,H.o];exact V
      exact⟨ci.snoc (r:=(id,Y a 16 tc,eY d id 16)) c.o.1 BX.o A.o aA (by simp only[uM];unfold maxLen;omega) Q ho,(c.o.2.trans (BX.o.mono A.o)).grown Q F.o (λq hq=>(N.o.lt q hq).1)⟩
     have B:16<=tc:=by
      rcases f.o.2.1.2 with⟨e,-⟩|⟨g',ag,aF,e,-,-,q1,-⟩
      ·injection e with _ e2
       omega
      ·injection e with _ _ e3
       rw[uM]at q1;omega
     have L:ah ((ss++[(id,Y a 16 tc,eY d id 16)]).map aW=(m9 d).take (k+1)/\Dx (ss++[(id,Y a 16 tc,eY d id 16)])):=by
      refine⟨by rw[dB];exact K.o,λr g=>?_⟩
      rcases br.1 g with g|g
      ·exact D.o r g
      ·simp only[bT]at g;subst g;exact⟨a,tc,rfl,B⟩
     clear B;have R:(ss++[(id,Y a 16 tc,eY d id 16)]).length<=k+1:=by rw[aT,H.o];simp;omega
     generalize ss++[(id,Y a 16 tc,eY d id 16)]=aq at Z L R;clear V Q ae BC BX N F f c K BQ x0 x1 D;go_wp2;go_roundw
     case rel=>first|exact⟨k+1,aq,by omega,by go_num,R,L,Z⟩|exact⟨_,_,k+1,aq,by omega,by go_num,R,L,Z⟩
     case measure=>simp[intOf];omega
  ·have ET:ah (ss.map aW=m9 d):=by
    show _=_;rw[E.o,cm (by unfold m9;rw[aS];have:=aa.o;omega)]
   go_wp2;go_ret;exact⟨_,rfl,ss,c.o.1.down D1.o.size,ET.o,D1.o.trans (c.o.2.mono D1.o.size),D.o⟩
end Go.Proofs.YtijmbohadndfmaaGreatDoor
