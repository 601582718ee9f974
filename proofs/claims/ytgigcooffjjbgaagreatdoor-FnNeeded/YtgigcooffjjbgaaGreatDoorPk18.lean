/-
  SBaSt; TxN; LTx; SL10; RcApp; SSince
-/
import Derived.Test.YtgigcooffjjbgaaGreatDoorPk17
open Go.Value renaming int→I,slice→Y,string→iT,bool→iB,pointer→iP,agg→iA,tuple→iU
open Go.IntKind renaming i64→J
open Option renaming none→O,some→X
open Go.Ending renaming returned→G
open Go.Obj renaming cells→iC
open Bool renaming true→iV,false→iF
open Go renaming World→iW,Value→iX,Calls→iK
open Go.RowKit renaming Below→iL
set_option maxHeartbeats 4000000
set_option maxRecDepth 100000
namespace Go.Proofs.YtgigcooffjjbgaaGreatDoor
open Go.RowKit Words Sums
theorem Pt(x:iX)(d:Dv)(w:iW)(h:eP w x d)(T:d.fS.fV.length<=1048576):iK Tryz.prog 181 #[x] w (ji w (dZ d (hJ d.fS) aQ)):=by
 have A:=h;obtain⟨b,a,f,g,vc,ad,c,cap,rfl,h1,S,y⟩:=h.form;have p:=aR w (iC #[Y b d.fH.length a,Y f g vc,Y ad c cap,I J d.fS.next,I J d.seq,I J d.tx,I J d.base] 34);have r:aU (w.alloc (iC #[Y b d.fH.length a,Y f g vc,Y ad c cap,I J d.fS.next,I J d.seq,I J d.tx,I J d.base] 34)) w.heap.size (Y b d.fH.length a) (Y f g vc) (Y ad c cap) d.fS.next d.seq d.tx d.base:=aC _ _;generalize U:w.alloc (iC #[Y b d.fH.length a,Y f g vc,Y ad c cap,I J d.fS.next,I J d.seq,I J d.tx,I J d.base] 34)=wa at p r;have q:iL w.heap.size w wa.drew:=p.drew;have s:=r.below (w':=wa.drew) (az _ _).drew;have t:=af (Ou _ d.fS wa.drew (y.below q));have k:ah ((hJ d.fS).length<=33554432):=by
  have:=Sa d.fS;show _<=_;omega
 have M:=af A;have v:=af q;have N:(wa.drew.cell? ⟨w.heap.size,0,O⟩=X (Y b d.fH.length a)/\wa.drew.cell? ⟨w.heap.size,1,O⟩=X (Y f g vc)/\wa.drew.cell? ⟨w.heap.size,2,O⟩=X (Y ad c cap)/\wa.drew.cell? ⟨w.heap.size,3,O⟩=X (I J d.fS.next)/\wa.drew.cell? ⟨w.heap.size,4,O⟩=X (I J d.seq)/\wa.drew.cell? ⟨w.heap.size,5,O⟩=X (I J d.tx)/\wa.drew.cell? ⟨w.heap.size,6,O⟩=X (I J d.base)):=s.cells;have u:=af s;obtain⟨L,z⟩:=aq (hJ d.fS);rw[z]at t k⊢;clear z p r q s h h1 S y A T;go_enter Tryz.func181,Tryz.ntmps181;go_wp2_with fail;go_region_held3 (λw'=>(w'.cell? ⟨w.heap.size,0,O⟩=X (Y b d.fH.length a)/\w'.cell? ⟨w.heap.size,1,O⟩=X (Y f g vc)/\w'.cell? ⟨w.heap.size,2,O⟩=X (Y ad c cap)/\w'.cell? ⟨w.heap.size,3,O⟩=X (I J d.fS.next)/\w'.cell? ⟨w.heap.size,4,O⟩=X (I J d.seq)/\w'.cell? ⟨w.heap.size,5,O⟩=X (I J d.tx)/\w'.cell? ⟨w.heap.size,6,O⟩=X (I J d.base))) (first|(with_reducible exact N)|(with_reducible exact P)|(with_reducible exact Q)|go_keep) (first
  |(go_at_call 211;refine t.o.mono ?_;rintro e i ⟨rv,rfl,B,m⟩;obtain⟨V,W,rfl,C⟩:=kC.of_own (by rw[bm]) B;have l:=af (v.o.trans (m.mono v.o.size));have P:(i.cell? ⟨w.heap.size,0,O⟩=X (Y b d.fH.length a)/\i.cell? ⟨w.heap.size,1,O⟩=X (Y f g vc)/\i.cell? ⟨w.heap.size,2,O⟩=X (Y ad c cap)/\i.cell? ⟨w.heap.size,3,O⟩=X (I J d.fS.next)/\i.cell? ⟨w.heap.size,4,O⟩=X (I J d.seq)/\i.cell? ⟨w.heap.size,5,O⟩=X (I J d.tx)/\i.cell? ⟨w.heap.size,6,O⟩=X (I J d.base)):=(u.o.below m).cells;have K:=af (u.o.below m);have E:=af (Hf _ d V L.length W L aQ i (M.o.below l.o) k.o C);clear B C m)
  |(go_at_call 105;refine E.o.mono ?_;rintro e j ⟨Z,rfl,D,n⟩;have F:=af (l.o.trans (n.mono l.o.size));have Q:(j.cell? ⟨w.heap.size,0,O⟩=X (Y b d.fH.length a)/\j.cell? ⟨w.heap.size,1,O⟩=X (Y f g vc)/\j.cell? ⟨w.heap.size,2,O⟩=X (Y ad c cap)/\j.cell? ⟨w.heap.size,3,O⟩=X (I J d.fS.next)/\j.cell? ⟨w.heap.size,4,O⟩=X (I J d.seq)/\j.cell? ⟨w.heap.size,5,O⟩=X (I J d.tx)/\j.cell? ⟨w.heap.size,6,O⟩=X (I J d.base)):=(K.o.below n).cells;have R:=af D;clear D n))
 all_goals
  have H:ah (ji w (dZ d L aQ) (G (iU #[Z,iB (dZ d L aQ).2])) j):=⟨_,rfl,qQ R.o l.o.size,F.o⟩;go_wp2;refine aE (cH rfl _ _ _) rfl ?_;exact H.o
theorem IM:(Tryz.prog.info? 205).map (λi=>(i.zero,i.size,i.bytes))=X (X (iA #[I J 0,I J 0,Y O 0 0]),3,40):=by kernel_rfl
theorem Vk:(Tryz.prog.info? 205).map (·.size)=X 3:=by kernel_rfl
abbrev Xw:=Int×Int×iX×List (Int×Int×Int×Int)
def vy(t:Xw):List iX:=[I J t.1,I J t.2.1,t.2.2.1]
def jO(l:List Xw):List iX:=l.flatMap vy
def dz(t:Xw):Int×Int×List (Int×Int×Int×Int):=(t.1,t.2.1,t.2.2.2)
def Words.TxR.tu(x:TxR):Int×Int×List (Int×Int×Int×Int):=(x.num,x.seq,x.fR.map Rc.tu)
theorem Rg(a b:List Xw):jO (a++b)=jO a++jO b:=by simp[jO]
theorem X8(t:Xw)(l:List Xw):jO (t::l)=vy t++jO l:=by simp[jO]
theorem J9(l:List Xw)(t:Xw):jO l++vy t=jO (l++[t]):=by rw[Rg];simp[jO]
theorem UW(l:List Xw)(k:Nat)(t:Xw)(h:l[k]?=X t)(j:Nat)(v:iX)(b:(vy t)[j]?=X v):(jO l)[k*3+j]?=X v:=by
 have c:j<3:=(aB.1 b).1
 induction l generalizing k with
 |nil=>simp at h
 |cons a l d=>
  rw[X8];cases k with
  |zero=>
   simp at h;subst h;rw[hI (by show _<3;omega),mW,eV]
   exact b
  |succ k=>
   rw[ct (by show 3<=_;omega),show(k+1)*3+j-(vy a).length=k*3+j by show _-3=_;omega]
   exact d k (by simpa using h)
def oV(W:iW)(v:iX)(ls:List (Int×Int×Int×Int)):Prop:=∃a c,v=Y a ls.length c/\(a=O->c=0)/\kC W a ls.length ls
theorem oV.below{W d:iW}{v:iX}{ls:List (Int×Int×Int×Int)}(h:oV W v ls)(b:iL W.heap.size W d):oV d v ls:=by
 obtain⟨a,c,e,h1,f⟩:=h;exact⟨a,c,e,h1,f.below b⟩
variable{a:Act}{ops:Array Oper}{t t':ByteArray}{fn:Func}{sq c c' sq':Int}{rest:List Oper}{lo k g B B' n m size:Nat}{ad:Option Addr}{e:TypeId}
theorem oV.of{hi:Nat}{v:iX}{ls:List (Int×Int×Int×Int)}{W:iW}(h:aG 110 lo hi v ls.length (bY ls) W)(b:ls.length<=maxLen)(k:hi<=W.heap.size):oV W v ls:=by
 rcases h with⟨rfl,h0⟩|⟨g,cap,rfl,h1,f,c⟩
 ·exact⟨O,0,by rw[h0],λ_=>rfl,rfl,b,by simp,λh=>by omega⟩
 ·refine⟨_,_,rfl,(λe=>by cases e),rfl,b,by simp,λ_=>⟨g,0,rfl,by omega,λi t hi=>?_⟩⟩
  have a:=λj v d=>c.cell (Bu ls i t hi j v d)
  refine⟨?_,?_,?_,?_⟩
  ·simpa using a 0 _ rfl
  ·simpa using a 1 _ rfl
  ·simpa using a 2 _ rfl
  ·simpa using a 3 _ rfl
def qL(W:iW)(ad:Option Addr)(c:Nat)(rs:List Xw):Prop:=
 rs.length=c/\c<=maxLen/\(∀r∈rs,oV W r.2.2.1 r.2.2.2)/\(0<c->∃b a,ad=X ⟨b,a,O⟩/\b<W.heap.size/\∀i r,rs[i]?=X r->W.cell? ⟨b,a+i*3,O⟩=X (I J r.1)/\W.cell? ⟨b,a+i*3+1,O⟩=X (I J r.2.1)/\W.cell? ⟨b,a+i*3+2,O⟩=X r.2.2.1)
theorem qL.below{W g:iW}{c:Nat}{rs:List Xw}(h:qL W ad c rs)(a:iL W.heap.size W g):qL g ad c rs:=by
 obtain⟨h1,k,l,h4⟩:=h;refine⟨h1,k,λr n=>(l r n).below a,λh0=>?_⟩
 obtain⟨b,f,e,d,m⟩:=h4 h0;have hs:=a.size;refine⟨b,f,e,by omega,λi t o=>?_⟩
 obtain⟨j,c1,c2⟩:=m i t o;exact⟨(a.cell (show b<W.heap.size from d)).trans j,(a.cell (show b<W.heap.size from d)).trans c1,(a.cell (show b<W.heap.size from d)).trans c2⟩
theorem qL.at{W:iW}{c:Nat}{rs:List Xw}(h:qL W ad c rs){r:Xw}(d:rs[k]?=X r):
 ∃b a,ad=X ⟨b,a,O⟩/\b<W.heap.size/\W.cell? ⟨b,a+k*3,O⟩=X (I J r.1)/\W.cell? ⟨b,a+k*3+1,O⟩=X (I J r.2.1)/\W.cell? ⟨b,a+k*3+2,O⟩=X r.2.2.1:=by
 obtain⟨h1,-,-,h4⟩:=h;have j:=(aB.1 d).1;obtain⟨b,a,e,g,i⟩:=h4 (by omega)
 obtain⟨f,c1,c2⟩:=i k r d;exact⟨b,a,e,g,f,c1,c2⟩
def J2(rs:List Xw):Prop:=rs.Pairwise (λa b=>∀g,a.2.2.1.ownBlock=X g->b.2.2.1.ownBlock≠X g)
def fN(W:iW)(B:Nat)(v:iX)(rs:List Xw):Prop:=
 W.ownsRow B 205 3 v rs.length (jO rs)/\(∀r∈rs,aG 110 B W.heap.size r.2.2.1 r.2.2.2.length (bY r.2.2.2) W/\r.2.2.2.length<=maxLen)/\J2 rs
def rj(lo hi:Nat)(v:iX)(rs:List Xw)(W:iW):Prop:=
 aG 205 lo hi v rs.length (jO rs) W/\(∀r∈rs,aG 110 lo hi r.2.2.1 r.2.2.2.length (bY r.2.2.2) W/\r.2.2.2.length<=maxLen)/\J2 rs/\rs.length<=maxLen
theorem Dc{w:iW}{cs b:Array iX}(h:w.heap[g]?=X (iC cs 110 (0,0)))(a:w.heap[g]?=X (iC b 205 (0,0))):False:=by
 rw[h]at a;injection a with a
 injection a with _ a
 simp at a
theorem fN.below{W a:iW}{v:iX}{rs:List Xw}(h:fN W B v rs)(b:iL W.heap.size W a):fN a B v rs:=
 ⟨bE h.1 b,λr c=>⟨((h.2.1 r c).1.blw b).up b.size,(h.2.1 r c).2⟩,h.2.2⟩
theorem fN.down{W:iW}{v:iX}{rs:List Xw}(h:fN W B v rs)(a:B'<=B):fN W B' v rs:=
 ⟨lJ h.1 a,λr b=>⟨(h.2.1 r b).1.dn a,(h.2.1 r b).2⟩,h.2.2⟩
theorem fN.empty(W:iW)(B:Nat)(a:B<=W.heap.size):fN (W.alloc (iC #[] 205)) B (Y (X ⟨W.heap.size,0,O⟩) 0 0) []:=
 ⟨⟨rfl,.inr ⟨W.heap.size,0,#[],rfl,a,aC W _,am _,by unfold maxLen;omega,rfl,rfl⟩⟩,(λ_ h=>by cases h),List.Pairwise.nil⟩
theorem fN.snoc {f W y:iW} {v u':iX} {rs:List Xw} {r:Xw} (h0:fN f B v rs) (u:iL f.heap.size f W) (p:B<=f.heap.size) (l:aG 110 f.heap.size W.heap.size r.2.2.1 r.2.2.2.length (bY r.2.2.2) W) (z:r.2.2.2.length<=maxLen)
 (d:W.grownBy y v.ownBlock) (A:y.ownsRow B 205 3 u' (rs++[r]).length (jO (rs++[r]))):fN y B u' (rs++[r]):=by
 have h:=h0.below u;have w:=mD h.1;have j:∀(t:iX) (g:Nat),v.ownBlock=X g->∀{lo hi n:Nat} {xs:List iX},aG 110 lo hi t n xs W->t.ownBlock≠X g:=by
  intro t g d lo hi n xs hs e;obtain⟨-,-,cs,q⟩:=w g d;obtain⟨-,-,m,q'⟩:=hs.lt g e;exact Dc q' q
 refine⟨A,?_,?_⟩
 ·intro x c;rcases bG.1 c with c|c
  ·exact⟨((h.2.1 x c).1.grown d (λg e i=>j _ g i (h.2.1 x c).1 e)).up d.size,(h.2.1 x c).2⟩
  ·simp only[bR]at c;subst c;exact⟨((l.grown d (λg e i=>j _ g i l e)).dn p).up d.size,z⟩
 ·refine iu.2 ⟨h.2.2,mA _ _,?_⟩;intro a s b k g o i;simp only[bR]at k;subst k;have C:=((h0.2.1 a s).1.lt g o).2.1;have D:=(l.lt g i).1;omega
theorem fN.form{W:iW}{v:iX}{rs:List Xw}(h:fN W B v rs):∃ad c,v=Y ad rs.length c:=by
 rcases h.1.2 with⟨rfl,h0⟩|⟨g,cap,a,rfl,-⟩
 ·exact⟨_,_,by rw[h0]⟩
 ·exact⟨_,_,rfl⟩
theorem fN.len{W:iW}{v:iX}{rs:List Xw}(h:fN W B v rs):rs.length<=maxLen:=by
 rcases h.1.2 with⟨rfl,h0⟩|⟨g,cap,a,rfl,-,-,h1,b,-⟩
 ·rw[h0];unfold maxLen;omega
 ·omega
theorem fN.txs{W:iW}{v:iX}{rs:List Xw}(h:fN W B v rs):rj B W.heap.size v rs W:=⟨aG.of h.1,h.2.1,h.2.2,h.len⟩
theorem rj.rd{W:iW}{hi c:Nat}{rs:List Xw}(h:rj lo hi (Y ad n c) rs W)(l:rs.length=n)(f:hi<=W.heap.size):qL W ad n rs:=by
 obtain⟨h1,b,o,h4⟩:=h;refine⟨l,by omega,λr d=>oV.of (b r d).1 (b r d).2 f,λh0=>?_⟩
 rcases h1 with⟨e,q⟩|⟨g,cap,e,p,s,m⟩
 ·omega
 ·injection e with e1 e2 e3
  refine⟨g,0,e1,by omega,λi r hi=>?_⟩
  have a:=λj v k=>m.cell (UW rs i r hi j v k)
  refine⟨?_,?_,?_⟩
  ·simpa using a 0 _ rfl
  ·simpa using a 1 _ rfl
  ·simpa using a 2 _ rfl
theorem rj.loc(lo hi:Nat)(v:iX)(rs:List Xw):mt lo hi (rj lo hi v rs):=by
 intro w w' a h;exact⟨aG.loc _ _ _ _ _ _ w w' a h.1,λr b=>⟨aG.loc _ _ _ _ _ _ w w' a (h.2.1 r b).1,(h.2.1 r b).2⟩,h.2.2⟩
def xK(w:iW)(L:List TxR)(e:Ending)(w':iW):Prop:=
 ∃a rs,e=G a/\fN w' w.heap.size a rs/\rs.map dz=L.map TxR.tu/\iL w.heap.size w w'
def LT(w W:iW)(tx sq:Int):Prop:=
 iL w.heap.size w W/\W.heap[w.heap.size]?=X (iC #[I J 0,I J 0,Y O 0 0] 205 (0,0))/\W.heap[w.heap.size+1]?=X (iC #[I J tx,I J sq,Y O 0 0] 205 (0,0))
theorem LT.below{w W a:iW}{tx:Int}(h:LT w W tx sq)(b:iL W.heap.size W a):LT w a tx sq:=
 ⟨h.1.trans (b.mono h.1.size),(b.block _ (aL.1 h.2.1).1).trans h.2.1,(b.block _ (aL.1 h.2.2).1).trans h.2.2⟩
theorem LT.start(w:iW)(tx:Int):LT w ((w.alloc (iC #[I J 0,I J 0,Y O 0 0] 205)).alloc (iC #[I J tx,I J 0,Y O 0 0] 205)) tx 0:=by
 have a:(w.alloc (iC #[I J 0,I J 0,Y O 0 0] 205)).heap.size=w.heap.size+1:=by simp
 have h1:=aC (w.alloc (iC #[I J 0,I J 0,Y O 0 0] 205)) (iC #[I J tx,I J 0,Y O 0 0] 205);rw[a]at h1;exact⟨(bh).alloc (by simp) _,(gt _ _ w.heap.size (by simp)).trans (aC w _),h1⟩
theorem LT.set{w W:iW}{tx:Int}(h:LT w W tx sq)(s:Int):LT w (W.setCell ⟨w.heap.size+1,1,O⟩ (I J s)) tx s:=
 ⟨h.1.setCell (by simp) _,cU h.2.1 (by omega) _ _,dq h.2.2 1 (I J s)⟩
theorem LT.at{w W:iW}{tx:Int}(h:LT w W tx sq):W.cell? ⟨w.heap.size+1,0,O⟩=X (I J tx)/\W.cell? ⟨w.heap.size+1,1,O⟩=X (I J sq)/\W.cell? ⟨w.heap.size+1,2,O⟩=X (Y O 0 0):=
 ⟨ai _ _ 0 _ _ _ h.2.2,ai _ _ 1 _ _ _ h.2.2,ai _ _ 2 _ _ _ h.2.2⟩
theorem LT.fr{w W:iW}{tx:Int}(h:LT w W tx sq)(j:Nat):W.frozen? ⟨w.heap.size+1,j,O⟩=iF:=aF _ _ j _ _ h.2.2
theorem LT.at0{w W:iW}{tx:Int}(h:LT w W tx sq):W.cell? ⟨w.heap.size,0,O⟩=X (I J 0)/\W.cell? ⟨w.heap.size,1,O⟩=X (I J 0)/\W.cell? ⟨w.heap.size,2,O⟩=X (Y O 0 0):=
 ⟨ai _ _ 0 _ _ _ h.2.1,ai _ _ 1 _ _ _ h.2.1,ai _ _ 2 _ _ _ h.2.1⟩
theorem LT.fr0{w W:iW}{tx:Int}(h:LT w W tx sq)(j:Nat):W.frozen? ⟨w.heap.size,j,O⟩=iF:=aF _ _ j _ _ h.2.1
theorem IX {p q:Tmp} (h:fn.results= #[.cell p 205,.tmp q]) (c:Array iX) (w:iW) (g:Nat) (a b:Int) (v:iX)
 (i:c.getD p undef=iP (X ⟨g,0,O⟩)) (e:w.heap[g]?=X (iC #[I J a,I J b,v] 205 (0,0))):
 (results fn c).run Tryz.prog w=.ok (iU #[iA #[I J a,I J b,v],c.getD q undef]) w:=by
 have d:c[p]?.getD undef=iP (X ⟨g,0,O⟩):=by simpa using i
 have f:=nj (P:=Tryz.prog) w g 205 205 _ _ _ e Tryz.underlying205 rfl Vk;simp[results,h,d,asAddr,f]
theorem Jc{w:iW}{cs:Array iX}{x y z:iX}(h:w.heap[g]?=X (iC cs 205 (0,0))):(((w.setCell ⟨g,0,O⟩ x).setCell ⟨g,1,O⟩ y).setCell ⟨g,2,O⟩ z).heap[g]?=X (iC (((cs.setIfInBounds 0 x).setIfInBounds 1 y).setIfInBounds 2 z) 205 (0,0)):=
 dq (dq (dq h 0 x) 1 y) 2 z
theorem Ec{a w:iW}{x y z:iX}(h:iL B a w)(b:B<=g):iL B a (((w.setCell ⟨g,0,O⟩ x).setCell ⟨g,1,O⟩ y).setCell ⟨g,2,O⟩ z):=
 ((h.setCell (p:=⟨g,0,O⟩) b x).setCell (p:=⟨g,1,O⟩) b y).setCell (p:=⟨g,2,O⟩) b z
def rN(tx:Int)(k:Nat)(c:Int)(p:Pg):Bool:=decide (p.kind=2/\p.tx=tx/\p.part=k/\(0<k->p.count=c))
def nk(ps:List Pg)(tx:Int)(k:Nat)(c:Int)(t:ByteArray)(sq:Int)(m:Nat)(c':Int)(t':ByteArray)(f:Bool)(sq':Int):Prop:=
 (f=iF/\c'=c/\t'=t/\sq'=sq/\(ps.take m).find? (rN tx k c)=O)∨(f=iV/\∃p,mU ps tx k c=X p/\c'=p.count/\t'=t++p.text/\sq'=if k=0∨p.seq<sq then p.seq else sq)
variable{ps:List Pg}{p:Pg}
theorem nk.skip{tx:Int}(h:nk ps tx k c t sq m c' t' iF sq')(e:ps[m]?=X p)(d:rN tx k c p=iF):nk ps tx k c t sq (m+1) c' t' iF sq':=by
 rcases h with⟨-,h1,a,b,h4⟩|⟨h,-⟩
 ·exact .inl ⟨rfl,h1,a,b,(FW e h4).1 d⟩
 ·cases h
theorem nk.take{tx:Int}(h:nk ps tx k c t sq m c' t' iF sq')(e:ps[m]?=X p)(d:rN tx k c p=iV):c'=c/\t'=t/\sq'=sq/\mU ps tx k c=X p:=by
 rcases h with⟨-,h1,a,b,h4⟩|⟨h,-⟩
 ·exact⟨h1,a,b,(FW e h4).2 d⟩
 ·cases h
theorem nk.none{tx:Int}(h:nk ps tx k c t sq m c' t' iF sq')(a:ps.length<=m):mU ps tx k c=Option.none:=by
 rcases h with⟨-,-,-,-,h4⟩|⟨h,-⟩
 ·rw[bL a]at h4;exact h4
 ·cases h
def yg(ps:List Pg)(tx:Int)(k:Nat)(c sq:Int)(t:ByteArray)(a:List Pg):Prop:=
 t=lq a/\pZ ps tx k c sq a/\t.size<=lR (λp=>p.text.size) ps k/\k<=lR (λ_=>1) ps k
theorem Ef{tx:Int}{a:List Pg}(d:yg ps tx k c sq t a)(i:dp (λp=>p.text.size) ps<=1048576)(f:mU ps tx k c=X p):t.size+p.text.size<=lR (λp=>p.text.size) ps ((k+1:Nat):Int)/\t.size+p.text.size<=1048576:=by
 obtain⟨-,-,h,-⟩:=d;have b:=xO f;have h1:=ww (λp=>p.text.size) b.1 b.2.2.2.1
 have g:=zH (λp=>p.text.size) ps ((k:Int)+1)
 have e:((k+1:Nat):Int)=(k:Int)+1:=by omega
 rw[e];try simp only at h1
 exact⟨by omega,by omega⟩
theorem ZP{tx:Int}{S g:Nat}{a:List Pg}(o:yg ps tx k c sq t a)(l:k=0∨(k:Int)<c)(u:dp (λp=>p.text.size) ps<=1048576)(d:ps.length=g)(j:dp (λp=>p.count.toNat) ps=S)(h:nk ps tx k c t sq m c' t' iV sq'):
 (∃b,yg ps tx (k+1) c' sq' t' b)/\t'.size<=1048576/\k+1<=g/\c'.toNat-(k+1)<(if k=0 then S+1 else c.toNat-k):=by
 rcases h with⟨h,-⟩|⟨-,p,n,rfl,rfl,rfl⟩
 ·cases h
 have f:=Ef o u n;obtain⟨g1,g2,g3,v⟩:=o;have i:=xO n;have e:((k+1:Nat):Int)=(k:Int)+1:=by omega
 have h1:=ww (λ_=>1) i.1 i.2.2.2.1
 have s:=zH (λ_=>1) ps ((k:Int)+1)
 rw[Xd,d]at s;have q:=Ip (λp=>p.count.toNat) i.1
 rw[j]at q;try simp only at h1 q
 refine⟨⟨a++[p],?_,g2.yes l n,?_,?_⟩,?_,by omega,?_⟩
 ·rw[g1];exact Ry a p
 ·rw[ve];exact f.1
 ·rw[e];omega
 ·rw[ve];exact f.2
 ·by_cases r:k=0
  ·rw[ak r];omega
  ·rw[aj r,i.2.2.2.2 (by omega)];omega
theorem X9{w:iW}{v:iX}{xs:List iX}(h:w.ownsRow B e size v n xs):n<=maxLen:=by
 rcases h.2 with⟨rfl,h0⟩|⟨g,cap,a,rfl,-,-,h1,b,-⟩
 ·rw[h0];unfold maxLen;omega
 ·omega
def FJ(w:iW)(ps:List Pg)(tx:Int)(e:Ending)(w':iW):Prop:=
 ∃(sq:Int) (a:Option Addr) (n c:Nat) (ok:Bool),e=G (iU #[iA #[I J tx,I J sq,Y a n c],iB ok])/\iL w.heap.size w w'/\
  (dt ps tx=O/\ok=iF∨∃x:TxR,dt ps tx=X x/\ok=iV/\x.num=tx/\x.seq=sq/\n=x.fR.length/\n<=maxLen/\aG 110 w.heap.size w'.heap.size (Y a n c) n (bY (x.fR.map Rc.tu)) w')
theorem UH{tx:Int}(h:kI ps tx=O):dt ps tx=O:=by unfold dt;rw[h]
theorem UL{tx:Int}{l:List Pg}(h:kI ps tx=X l):dt ps tx=(fR (lq l).data.toList 0).map (λrs=>⟨tx,pE l,rs⟩):=by unfold dt;rw[h]
theorem Pi(ad:Option Addr)(a cap:Nat)(M:List an)(tx:Int)(w:iW)(hl:a<=1048576)(hs:dp (λp=>p.text.size) (M.map an.fP)<=1048576)(h:iH w ad a M):
 iK Tryz.prog 177 #[Y ad a cap,I J tx] w (FJ w (M.map an.fP) tx):=by
 have HR:=af h;have HN:=af (show M.length=a from h.1);have HS:=af hs;clear h hs;obtain⟨ps,r⟩:=aq (M.map an.fP);rw[r]at HS⊢;have HP:=af r;have ac:ps.length=a:=by rw[<-r,bm];exact HN.o
 have W:=af ac;clear r ac;obtain⟨S,hS⟩:=aq (dp (λp=>p.count.toNat) ps)
 have al:=af hS;clear hS;have T0:=af (LT.start w tx);go_enter Tryz.func177,Tryz.ntmps177;go_wp2;generalize(w.alloc (iC #[I J 0,I J 0,Y O 0 0] 205)).alloc (iC #[I J tx,I J 0,Y O 0 0] 205)=wa at T0⊢;go_loopw [7,8,9] (λcv tv pv wr=>∃(k:Nat) (c sq:Int) (t:ByteArray) (A:List Pg),cv=I J c/\tv=iT t/\pv=I J k/\k<=a/\t.size<=1048576/\ah (LT w wr tx sq)/\ah (yg ps tx k c sq t A)) (λcv _ pv _=>if (intOf pv).toNat=0 then S+1 else(intOf cv).toNat-(intOf pv).toNat)
 case atStart=>exact⟨0,0,0,⟨#[]⟩,[],rfl,rfl,rfl,aK _,aK _,T0,rfl,.inl ⟨rfl,rfl,rfl,rfl⟩,aK _,aK _⟩
 case round=>
  obtain⟨k,c,sq,t,A,rfl,rfl,rfl,hk,ht,T,K⟩:=hrel;clear T0;have aA:(0:Int)<=k:=by omega
  by_cases l:k=0∨(k:Int)<c
  ·have R:=af l;have eg:(((k:Int)==0)=iV/\¬(0:Int)<k)∨(((k:Int)==0)=iF/\(k:Int)<c/\(0:Int)<k):=by
    simp only[jg,du,ne_eq];omega
   clear l;rcases eg with⟨eg,au⟩|⟨eg,ap,au⟩
   all_goals
    go_wp2;go_loopw [7,8,10,11] (λcv tv fv iv wr=>∃(m:Nat) (c':Int) (t':ByteArray) (f:Bool) (sq':Int),m<=a/\cv=I J c'/\tv=iT t'/\fv=iB f/\iv=I J m/\t'.size<=1048576/\ah (LT w wr tx sq')/\ah (nk ps tx k c t sq m c' t' f sq')) (λ_ _ _ iv _=>a-(intOf iv).toNat)
    case atStart=>exact⟨0,c,t,iF,sq,aK _,rfl,rfl,rfl,rfl,ht,T,.inl ⟨rfl,rfl,rfl,rfl,rfl⟩⟩
    case round=>
     obtain⟨m,c',t',f,sq',hm,rfl,rfl,rfl,rfl,aw,T',F⟩:=hrel;clear T;cases f with
     |true=>
      obtain⟨⟨G,G'⟩,n1,n2,n3⟩:=ZP K.o R.o HS.o W.o al.o F.o;have ag:=af G';have N3:=af n3;clear G' n3;by_cases av:(m:Int)<a;all_goals
       go_wp2;go_roundw
       case rel=>exact⟨k+1,c',sq',t',G,rfl,rfl,by go_num,n2,n1,T',ag⟩
       case measure=>have:=N3.o;by_cases ar:k=0<;>simp[intOf,ar]at this⊢<;>omega
     |false=>
      by_cases av:(m:Int)<a
      ·have aa:m<M.length:=by have:=HN.o;omega
       obtain⟨x,N⟩:∃x,M[m]?=X x:=⟨_,ay aa⟩;have ae:ps[m]?=X x.fP:=by rw[<-HP.o,bi,N];rfl
       obtain⟨rb,ro,rfl,-,-,-,c0,c1,c2,c3,c4,c5⟩:=(HR.o.below T'.o.1).at N;have L:=af ae;clear N ae aa;obtain⟨xb,xl,pk,v,Q,P,s,pt⟩:=x;simp only at c0 c1 c2 c3 c4 c5 L;have m0:(0:Int)<=m:=by omega
       have TA:=af (T'.o.below ((az _ _).alloc (am _) (iC #[I J pk,I J v,I J Q,I J P,I J s,iT pt] 44)));by_cases hy:rN tx k c ⟨pk,v,Q,P,s,pt⟩=iV
       ·obtain⟨rfl,rfl,rfl,n⟩:=F.o.take L.o hy;obtain⟨-,y1,y2,y3,y4⟩:=xO n;simp only at y1 y2 y3 y4;have hz:=(Ef K.o HS.o n).2;simp only at hz;have q1:(pk !=2)=iF:=by rw[y1];rfl
        have q2:(Q !=tx)=iF:=by rw[y2];simp
        have q3:(P !=(k:Int))=iF:=by rw[y3];simp
        try have q4:(s !=c')=iF:=by rw[y4 (by omega)];simp
        have V:=af n;clear y1 y2 y3 y4 n hy;obtain⟨-,l1,-⟩:=TA.o.at;have lf:=TA.o.fr 1;obtain⟨u,U⟩:=aq (t'++pt);have hu:u.size<=1048576:=by rw[<-U,ve];exact hz
        have Yq:¬(9223372036854775807<t'.size+pt.size):=by omega
        by_cases hs:k=0∨v<sq'
        ·try have hq:v<sq':=by omega
         have TB:=af (TA.o.set v);have Z:ah (nk ps tx k c' t' sq' (m+1) s u iV v):=.inr ⟨rfl,_,V.o,rfl,U.symm,by rw[ak (by simp only;omega)]⟩
         go_wp2;go_roundw
         case rel=>exact⟨m+1,s,u,iV,v,by omega,rfl,by first|rfl|rw[<-U],rfl,by go_num,hu,TB,Z⟩
         case measure=>simp[intOf];omega
        ·have hq:¬v<sq':=by omega
         have Z:ah (nk ps tx k c' t' sq' (m+1) s u iV sq'):=.inr ⟨rfl,_,V.o,rfl,U.symm,by rw[aj (by simp only;omega)]⟩
         first
          |omega
          |(go_wp2
            go_roundw
            case rel=>exact⟨m+1,s,u,iV,sq',by omega,rfl,by first|rfl|rw[<-U],rfl,by go_num,hu,TA,Z⟩
            case measure=>simp[intOf];omega)
       ·have hy:rN tx k c ⟨pk,v,Q,P,s,pt⟩=iF:=by simpa using hy
        have Z:=af (F.o.skip L.o hy);have hc:c'=c:=by rcases F.o with⟨-,h,-⟩|⟨h,-⟩<;>first|exact h|cases h
        subst hc;unfold rN at hy;simp only[qO]at hy;clear F;have hn:(pk !=2)=iV∨(pk !=2)=iF/\((Q !=tx)=iV∨(Q !=tx)=iF/\((P !=(k:Int))=iV∨(P !=(k:Int))=iF/\(0:Int)<k/\(s !=c')=iV)):=by
         simp only[bne_iff_ne,bne_eq_false_iff_eq,ne_eq];omega
        clear hy;rcases hn with r1|⟨r1,r2|⟨r2,r3|⟨r3,r5,r4⟩⟩⟩
        all_goals
         first
          |omega
          |(go_wp2
            go_roundw
            case rel=>exact⟨m+1,c',t',iF,sq',by omega,rfl,rfl,rfl,by go_num,aw,TA,Z⟩
            case measure=>simp[intOf];omega)
      ·have ab:=F.o.none (m:=m) (by have:=W.o;omega)
       have HO:ah (dt ps tx=O):=UH (K.o.2.1.no R.o ab);clear ab;obtain⟨a0,a1,a2⟩:=T'.o.at;obtain⟨b0,b1,b2⟩:=T'.o.at0;have f0:=T'.o.fr0 0;have f1:=T'.o.fr0 1;have f2:=T'.o.fr0 2;go_wp2;exact aE (IX rfl _ _ w.heap.size tx sq' (Y O 0 0) rfl (Jc T'.o.2.1)) rfl ⟨sq',O,0,0,iF,rfl,Ec T'.o.1 (am _),.inl ⟨HO.o,rfl⟩⟩
  ·have E:=K.o.2.1.end_ l;have eg:((k:Int)==0)=iF:=by rw[du];omega
   have ap:¬(k:Int)<c:=by omega
   have HE:=af E;have D:=K.o.1;have HC:=af D;clear l E D K;go_wp2_with fail;refine(T8 t wr ht).mono ?_;rintro e i ⟨uv,acc,ok,rfl,ho,hb,N⟩;have j:=af (T.o.below hb);have S1:=af (aG.of ho);have L:=af N;obtain⟨b,d,rfl,-⟩:=S1.o.form;have S2:ah (aG 110 w.heap.size i.heap.size (Y b acc.length d) acc.length (bY (acc.map Rc.tu)) i):=S1.o.dn T.o.1.size;have H:ah (∀g cs,(Y b acc.length d).ownBlock=X g->i.heap[g]?=X (iC cs 205 (0,0))->False):=by
    intro g cs e q;obtain⟨-,-,ax,q'⟩:=S1.o.lt g e;exact Dc q' q
   have ai:=af (X9 ho);clear ho hb N S1 T;obtain⟨a0,a1,a2⟩:=j.o.at;have g2:=j.o.fr 2;obtain⟨b0,b1,b2⟩:=j.o.at0;have f0:=j.o.fr0 0;have f1:=j.o.fr0 1;have f2:=j.o.fr0 2;have C:ah ((Y b acc.length d).ownBlock≠X (w.heap.size+1)):=λe=>H.o _ _ e j.o.2.2
   have B:ah ((Y b acc.length d).ownBlock≠X w.heap.size):=λe=>H.o _ _ e j.o.2.1
   have HZ:ah (aG 110 w.heap.size i.heap.size (Y b acc.length d) acc.length (bY (acc.map Rc.tu)) (i.setCell ⟨w.heap.size+1,2,O⟩ (Y b acc.length d))):=S2.o.grown (mg i (w.heap.size+1) 2 _) (λg e e2=>C.o (by rw[e,<-e2]))
   have ao:ah (∀x y z:iX,aG 110 w.heap.size ((((i.setCell ⟨w.heap.size+1,2,O⟩ (Y b acc.length d)).setCell ⟨w.heap.size,0,O⟩ x).setCell ⟨w.heap.size,1,O⟩ y).setCell ⟨w.heap.size,2,O⟩ z).heap.size (Y b acc.length d) acc.length (bY (acc.map Rc.tu)) ((((i.setCell ⟨w.heap.size+1,2,O⟩ (Y b acc.length d)).setCell ⟨w.heap.size,0,O⟩ x).setCell ⟨w.heap.size,1,O⟩ y).setCell ⟨w.heap.size,2,O⟩ z)):=by
    intro x y z;have e:((((i.setCell ⟨w.heap.size+1,2,O⟩ (Y b acc.length d)).setCell ⟨w.heap.size,0,O⟩ x).setCell ⟨w.heap.size,1,O⟩ y).setCell ⟨w.heap.size,2,O⟩ z).heap.size=i.heap.size:=by simp[World.setCell]
    rw[e];have f:=λg (e:(Y b acc.length d).ownBlock=X g) (e2:X w.heap.size=X g)=>B.o (by rw[e,<-e2])
    exact((HZ.o.grown (mg _ w.heap.size 0 x) f).grown (mg _ w.heap.size 1 y) f).grown (mg _ w.heap.size 2 z) f
   have R0:ah ((i.setCell ⟨w.heap.size+1,2,O⟩ (Y b acc.length d)).heap[w.heap.size]?=X (iC #[I J 0,I J 0,Y O 0 0] 205 (0,0))):=cU j.o.2.1 (by omega) _ _
   have BB:ah (iL w.heap.size w (i.setCell ⟨w.heap.size+1,2,O⟩ (Y b acc.length d))):=j.o.1.setCell (by simp) _
   clear HZ H C B S2;have OO:ah (dt ps tx=O/\ok=iF∨∃x:TxR,dt ps tx=X x/\ok=iV/\x.num=tx/\x.seq=sq/\acc.length=x.fR.length/\x.fR=acc):=by
    have e1:=UL HE.o.1;rw[<-HC.o]at e1;rcases L.o with⟨q,q2,-⟩|⟨q,q2⟩
    ·rw[q]at e1;exact .inl ⟨e1,q2⟩
    ·rw[q]at e1;exact .inr ⟨_,e1,q2,rfl,HE.o.2.symm,rfl,rfl⟩
   clear L HE HC;go_wp2;refine aE (IX rfl _ _ w.heap.size tx sq (Y b acc.length d) rfl (Jc R0.o)) rfl ⟨sq,b,acc.length,d,ok,rfl,Ec BB.o (am _),?_⟩;rcases OO.o with h|⟨x,h1,h2,h3,h4,h5,h6⟩
   ·exact .inl h
   ·exact .inr ⟨x,h1,h2,h3,h4,h5,ai.o,by rw[h6];exact ao.o _ _ _⟩
theorem YJ(b a j:Nat):(⟨b,a,O⟩:Addr).add j=⟨b,a+j,O⟩:=by
 simp only[Addr.add];split<;>simp_all
theorem QA(w:iW):(w.alloc (iC #[] 110)).ownsRow w.heap.size 110 4 (Y (X ⟨w.heap.size,0,O⟩) 0 0) 0 (bY []):=
 ⟨rfl,.inr ⟨w.heap.size,0,#[],rfl,am _,aC w _,am _,by unfold maxLen;omega,rfl,rfl⟩⟩
theorem V6(M:List (Int×Int×Int×Int))(i:Nat)(v:iX)(h:(bY M)[i]?=X v):∃x,M[i/4]?=X x/\(mi x)[i % 4]?=X v:=by
 have c:=(aB.1 h).1;rw[Jg]at c;obtain⟨x,b⟩:∃x,M[i/4]?=X x:=⟨_,ay (by omega)⟩
 obtain⟨u,a⟩:∃u,(mi x)[i % 4]?=X u:=⟨_,ay (by show i % 4<4;omega)⟩
 have:=Bu M (i/4) x b (i % 4) u a;rw[show i/4*4+i % 4=i by omega,h]at this
 cases this;exact⟨x,b,a⟩
theorem kC.cells{w:iW}{b c d:Nat}{ls:List (Int×Int×Int×Int)}(h:kC w (X ⟨b,c,O⟩) d ls)(j:Nat)(u:iX)(k:(bY ls)[j]?=X u):w.cell? ⟨b,c+j,O⟩=X u:=by
 obtain⟨x,l,a⟩:=V6 ls j u k;obtain⟨n,g,e,-,i,c1,c2,c3⟩:=h.at l;injection e with e
 injection e with e1 e2
 subst e1;subst e2;have f:j=j/4*4+j % 4:=by omega
 have h4:j % 4<4:=by omega
 generalize j % 4=m at f h4 a;rw[f,<-ma]
 match m,h4,a with
 |0,_,a=>simp only[mi]at a;simp at a;subst a;simpa using i
 |1,_,a=>simp only[mi]at a;simp at a;subst a;exact c1
 |2,_,a=>simp only[mi]at a;simp at a;subst a;exact c2
 |3,_,a=>simp only[mi]at a;simp at a;subst a;exact c3
theorem NZ (w:iW) {o:Oper} {Q:Exit->Act->iW->Prop} (y:o.guard=O) (s x:Operand)
 (f:o.op=Op.call {callee:=Callee.builtin Builtin.append,args:= #[s,x],argTypes:= #[57,57]}) (g:Nat) (hs:a.eval s=Y (X ⟨g,0,O⟩) 0 0)
 (d:w.ownsRow g 110 4 (Y (X ⟨g,0,O⟩) 0 0) 0 (bY [])) (v:iX) (ls:List (Int×Int×Int×Int)) (z:a.eval x=v) (F:ls.length<=1048576)
 (h:oV w v ls)
 (t:∀k w',w'.ownsRow g 110 4 k ls.length (bY ls)->w.grownBy w' (X g)->wpList Tryz.prog ops Q rest (a.put o.dst k) w'):wpList Tryz.prog ops Q (o::rest) a w:=by
 obtain⟨A,hi,p,i,q⟩:=bV Bz;obtain⟨B,c,rfl,m,e⟩:=h;have C:=(iS d g rfl).2;by_cases h0:ls.length=0
 ·have n:ls=[]:=gK h0;subst n;refine Ho w y s x _ f g _ A 4 Tryz.underlying57 hi i g 0 0 [] hs d B 0 c [] z rfl ?_ (by simp) (by simp) (am _) (λw' h1 l=>t _ w' h1 l)
  exact λE=>⟨rfl,m E⟩
 ·obtain⟨b,r,rfl,-,-⟩:=e.2.2.2 (by omega)
  refine cZ w y s x _ f g _ A (iA #[I J 0,I J 0,I J 0,I J 0]) 4 32 Tryz.underlying57 hi p i q rfl (by decide) _ 0 [] hs d ⟨b,r,O⟩ ls.length c (bY ls) z (Jg ls) (λj u D=>by rw[YJ];exact e.cells j u D) (Ma ls) (by unfold maxLen;omega) (by omega) (by omega) ?_
  intro k w' h1 l _;rw[eV]at h1;exact t k w' h1 l
theorem YT{rs:List Xw}{L:List TxR}(h:rs.map dz=L.map TxR.tu){r:Xw}(b:rs[k]?=X r):∃x,L[k]?=X x/\dz r=x.tu:=by
 have e:=congrArg (λl=>l[k]?) h
 simp only[bi,b]at e;cases a:L[k]? with
 |none=>rw[a]at e;simp at e
 |some x=>rw[a]at e;simp at e;exact⟨x,rfl,e⟩
theorem Qp{rs:List Xw}{L:List TxR}(h:rs.map dz=L.map TxR.tu):rs.length=L.length:=by
 have:=congrArg List.length h
 simpa using this
theorem aav{r:Xw}{x:TxR}(h:dz r=x.tu):x.base=match r.2.2.2 with| []=>iF|t::_=>t.1==1:=by
 have e:r.2.2.2=x.fR.map Rc.tu:=congrArg (λz=>z.2.2) h
 unfold TxR.base;rw[e];cases x.fR<;>rfl
theorem V8{w y:iW}{a:Nat}{cs:Array iX}(h:w.heap[a]?=X (iC cs 205 (0,0)))(b:w.grownBy y (X g))(c:a≠g):y.heap[a]?=X (iC cs 205 (0,0)):=
 (b.block a (aL.1 h).1 (λe=>c (sV e))).trans h
theorem Es(W:iW)(a b:Int)(v:iX)(g:Nat)(d:W.heap.size=g):∀(j:Nat) (u:iX),[I J a,I J b,v][j]?=X u->(W.alloc (iC #[I J a,I J b,v] 205)).cell? ((⟨g,0,O⟩:Addr).add j)=X u:=by
 intro j u c;subst d
 match j,c with
 |0,c|1,c|2,c=>
  simp at c;subst c;simp[Addr.add]
theorem DV(a b:Int)(e:Option Addr)(n c:Nat):∀u∈ [I J a,I J b,Y e n c],u.oneCell'=iV:=by
 intro u d;simp at d;rcases d with h|h|h<;>subst h<;>rfl
theorem L9(ad:Option Addr)(f cap:Nat)(rs:List Xw)(L:List TxR)(w:iW)(hl:f<=1048576)(an:∀r∈rs,r.2.2.2.length<=1048576)(hL:rs.map dz=L.map TxR.tu)(h:qL w ad f rs):
 iK Tryz.prog 140 #[Y ad f cap] w (xK w (jJ L)):=by
 have HR:=af h;have HT:=af hL;have aa:=af an;have HN:=af (show rs.length=f from h.1);clear h hL an;go_enter Tryz.func140,Tryz.ntmps140;go_wp2;go_loopw [3,4] (λav V wr=>∃(k b:Nat),k<=f/\V=I J k/\av=I J b/\b<=k/\ah (b=fX L k)/\wr=w) (λ_ V _=>f-(intOf V).toNat)
 case atStart=>exact⟨0,0,aK _,rfl,rfl,am _,rfl,rfl⟩
 case round=>
  obtain⟨k,b,hk,rfl,rfl,aM,P,au⟩:=hrel;have aw:=au.symm;subst aw;clear au;by_cases aN:(k:Int)<f
  ·have H:k<rs.length:=by have:=HN.o;omega
   obtain⟨r,v⟩:∃r,rs[k]?=X r:=⟨_,ay H⟩;obtain⟨x,K,M⟩:=YT HT.o v;obtain⟨rb,ro,rfl,-,-,-,c2⟩:=HR.o.at v;obtain⟨ra,rc,s,-,d⟩:=HR.o.2.2.1 r (aO v);rw[s]at c2;have u:=aa.o r (aO v);have a:=aav M;have c:fX L (k+1)=if x.base then k else fX L k:=by simp only[fX,K]
   have k0:(0:Int)<=k:=by omega
   cases D:r.2.2.2 with
   |nil=>
    rw[D]at a c2;have B:ah (b=fX L (k+1)):=by show _=_;rw[c,a];exact P.o
    clear v K M s d a c u D H P;simp only[dU]at c2;go_wp2;go_roundw
    case rel=>exact⟨k+1,b,by omega,by go_num,rfl,by omega,B,by first|trivial|rfl⟩
    case measure=>simp[intOf];omega
   |cons t ts=>
    rw[D]at a c2 d u;obtain⟨b2,o2,rfl,-,d0,-,-,-⟩:=d.at (k:=0) (t:=t) rfl;simp only[mW,pP]at d0;simp only at a;have ar:(0:Int)<(((t::ts).length:Nat):Int):=by simp only[aV];omega
    generalize(t::ts).length=n2 at c2 ar u;obtain⟨t1,U⟩:=aq t.1;rw[U]at d0 a;cases ht:(t1==1)with
    |true=>
     rw[ht]at a;have B:ah (k=fX L (k+1)):=by show _=_;rw[c,a];rfl
     clear v K M s d a c D H P U;go_wp2;go_roundw
     case rel=>exact⟨k+1,k,by omega,by go_num,rfl,by omega,B,by first|trivial|rfl⟩
     case measure=>simp[intOf];omega
    |false=>
     rw[ht]at a;have B:ah (b=fX L (k+1)):=by show _=_;rw[c,a];exact P.o
     clear v K M s d a c D H P U;go_wp2;go_roundw
     case rel=>exact⟨k+1,b,by omega,by go_num,rfl,by omega,B,by first|trivial|rfl⟩
     case measure=>simp[intOf];omega
  ·have aE:k=L.length:=by have:=HN.o;have:=Qp HT.o;omega
   have aD:ah (b=fX L L.length):=by show _=_;rw[P.o,aE]
   have X0:=af (fN.empty w w.heap.size (am _));have B0:=af ((az w.heap.size w).alloc (am _) (iC #[] 205));clear P;go_wp2;generalize w.alloc (iC #[] 205)=wa at X0 B0⊢;go_loopw [5,6] (λov V W=>∃(j:Nat) (A:List Xw),b<=j/\j<=f/\V=I J j/\A.length<=j/\ah (fN W w.heap.size ov A)/\ah (iL w.heap.size w W)/\ah (A.map dz=((rs.map dz).take j).drop b)) (λ_ V _=>f-(intOf V).toNat)
   case atStart=>exact⟨b,[],am _,by omega,rfl,aK _,X0,B0,by show _=_;rw[me (by simp;omega)];rfl⟩
   case round=>
    obtain⟨j,A,aL,hj,rfl,aP,Xq,G,E⟩:=hrel;clear X0 B0;by_cases aI:(j:Int)<f
    ·have aj:j<rs.length:=by have:=HN.o;omega
     obtain⟨r,v⟩:∃r,rs[j]?=X r:=⟨_,ay aj⟩;obtain⟨rb,ro,rfl,-,c0,c1,c2⟩:=(HR.o.below G.o).at v;have s:=(HR.o.below G.o).2.2.1 r (aO v);have u:=aa.o r (aO v);obtain⟨i,l,sv,ls⟩:=r;simp only at c0 c1 c2 s u;obtain⟨N,n,rfl,ao,d⟩:=s;have SV:ah (oV wr (Y N ls.length n) ls):=⟨N,n,rfl,ao,d⟩;have E':ah (A.map dz++[(i,l,ls)]=((rs.map dz).take (j+1)).drop b):=by
      show _=_;rw[E.o,eG,bi,v];simp only[g9,qD];rw[wF (by simp;omega)]
      rfl
     have j0:(0:Int)<=j:=by omega
     clear v d ao E aj
     -- the local transaction, and the empty row of records
     have BA:ah (iL wr.heap.size wr ((wr.alloc (iC #[I J i,I J l,Y N ls.length n] 205)).alloc (iC #[] 110))):=(bh).alloc (by simp) _
     have R:=af (SV.o.below BA.o);have OE:ah (((wr.alloc (iC #[I J i,I J l,Y N ls.length n] 205)).alloc (iC #[] 110)).ownsRow (wr.heap.size+1) 110 4 (Y (X ⟨wr.heap.size+1,0,O⟩) 0 0) 0 (bY [])):=by
      have:=QA (wr.alloc (iC #[I J i,I J l,Y N ls.length n] 205));rw[kg rfl]at this;exact this
     have LC:ah (((wr.alloc (iC #[I J i,I J l,Y N ls.length n] 205)).alloc (iC #[] 110)).heap[wr.heap.size]?=X (iC #[I J i,I J l,Y N ls.length n] 205 (0,0))):=
      (gt _ _ wr.heap.size (by simp)).trans (aC wr _)
     obtain⟨m,T⟩:=aq ls.length;have C:=af T;rw[T]at c2 u R OE LC BA SV;clear T;go_wp2_with (at_builtin;refine NZ _ rfl _ _ rfl (wr.heap.size+1) rfl OE.o _ ls rfl (by have:=C.o;omega) R.o ?_)
     intro F y ho S;have Q:=af (V8 LC.o S (by omega))
     have BY:ah (iL wr.heap.size wr y):=BA.o.grown S BA.o.size (λk hk=>by simp only[fu]at hk;omega)
     have SY:ah (aG 110 wr.heap.size y.heap.size F ls.length (bY ls) y):=(aG.of ho).dn (by omega)
     have VY:ah (F.ownBlock≠X wr.heap.size):=by
      intro e;obtain⟨-,-,cs,q⟩:=mD ho _ e;exact Dc q Q.o
     clear ho S OE LC BA R SV c0 c1 c2;obtain⟨x0,x1⟩:y.cell? ⟨wr.heap.size,0,O⟩=X (I J i)/\y.cell? ⟨wr.heap.size,1,O⟩=X (I J l):=⟨ai _ _ 0 _ _ _ Q.o,ai _ _ 1 _ _ _ Q.o⟩;have x2:y.cell? ⟨wr.heap.size,2,O⟩=X (Y N m n):=ai _ _ 2 _ _ _ Q.o;have f2:y.frozen? ⟨wr.heap.size,2,O⟩=iF:=aF _ _ 2 _ _ Q.o;have LZ:ah ((y.setCell ⟨wr.heap.size,2,O⟩ F).heap[wr.heap.size]?=X (iC #[I J i,I J l,F] 205 (0,0))):=dq Q.o 2 F;have BZ:ah (iL wr.heap.size wr (y.setCell ⟨wr.heap.size,2,O⟩ F)):=BY.o.setCell (am _) _;have SZ:ah (aG 110 wr.heap.size (y.setCell ⟨wr.heap.size,2,O⟩ F).heap.size F ls.length (bY ls) (y.setCell ⟨wr.heap.size,2,O⟩ F)):=by
      have h2:=SY.o.grown (mg y wr.heap.size 2 F) (λg e e2=>VY.o (by rw[e,<-e2]))
      have e:(y.setCell ⟨wr.heap.size,2,O⟩ F).heap.size=y.heap.size:=by simp[World.setCell]
      show aG _ _ _ _ _ _ _;rw[e];exact h2
     clear Q BY SY VY;obtain⟨p,vc,rfl,-⟩:=SZ.o.form;rw[C.o]at SZ BZ LZ;rw[C.o];have XZ:=af (Xq.o.below BZ.o);have ab:=af (Es (y.setCell ⟨wr.heap.size,2,O⟩ (Y p m vc)) i l (Y p m vc) y.heap.size (by simp[World.setCell]))
     have ac:=af (DV i l p m vc);have Z:ah (iL (y.setCell ⟨wr.heap.size,2,O⟩ (Y p m vc)).heap.size (y.setCell ⟨wr.heap.size,2,O⟩ (Y p m vc)) ((y.setCell ⟨wr.heap.size,2,O⟩ (Y p m vc)).alloc (iC #[I J i,I J l,Y p m vc] 205))):=bh;have XN:=af (XZ.o.below Z.o);have OW:=af XN.o.1;have ae:=af (show w.heap.size<=((y.setCell ⟨wr.heap.size,2,O⟩ (Y p m vc)).alloc (iC #[I J i,I J l,Y p m vc] 205)).heap.size by have:=G.o.size;have:=BZ.o.size;have:=Z.o.size;omega)
     obtain⟨i0,ag,ax,aA,aB⟩:=bV IM;have I0:=af ag;have Z0:=af ax;have Z1:=af aA;have Z2:=af aB;clear ag ax aA aB;go_wp2_with (at_builtin;refine cZ _ rfl _ _ 201 rfl w.heap.size 205 i0 (iA #[I J 0,I J 0,Y O 0 0]) 3 40 Tryz.underlying201 I0.o Z0.o Z1.o Z2.o rfl (by decide) _ _ _ rfl OW.o ⟨y.heap.size,0,O⟩ 1 1 [I J i,I J l,Y p m vc] rfl rfl ab.o ac.o ?c1 ?c2 ae.o ?_)
     case c1=>unfold maxLen;omega
     case c2=>omega
     intro u' z ho S _;have ap:z.ownsRow w.heap.size 205 3 u' (A++[((i,l,Y p m vc,ls):Xw)]).length (jO (A++[((i,l,Y p m vc,ls):Xw)])):=by
      rw[<-J9,aJ];exact ho
     have BB:=af (BZ.o.trans (Z.o.mono BZ.o.size));have XF:=af (fN.snoc (r:=((i,l,Y p m vc,ls):Xw)) Xq.o BB.o G.o.size (by
      show aG _ _ _ _ ls.length _ _;rw[C.o];exact(SZ.o.blw Z.o).up Z.o.size) (by show ls.length<=maxLen;rw[C.o];unfold maxLen;omega) S ap)
     have BF:ah (iL w.heap.size w z):=(G.o.trans (BB.o.mono G.o.size)).grown S (by have:=G.o.size;have:=BB.o.size;omega) (λk hk=>(XN.o.1.lt k hk).1)
     have E2:ah ((A++[((i,l,Y p m vc,ls):Xw)]).map dz=((rs.map dz).take (j+1)).drop b):=by
      show _=_;rw[<-E'.o,fm];rfl
     clear ho S ap BB XN OW ae ab ac Z XZ SZ BZ LZ I0 Z0 Z1 Z2 E' Xq G x0 x1 x2 f2;have al:(A++[((i,l,Y p m vc,ls):Xw)]).length<=j+1:=by simp;omega
     generalize A++[((i,l,Y p m vc,ls):Xw)]=aH at XF E2 al;go_wp2;go_roundw
     case rel=>exact⟨j+1,aH,by omega,by omega,by go_num,al,XF,BF,E2⟩
     case measure=>simp[intOf];omega
    ·have ak:j=(rs.map dz).length:=by have:=HN.o;simp;omega
     have EF:ah (A.map dz=(jJ L).map TxR.tu):=by
      show _=_;rw[E.o,ak,nF,HT.o,aD.o,jJ,List.map_drop]
     clear ak;go_wp2;go_ret;exact⟨_,A,rfl,Xq.o,EF.o,G.o⟩
end Go.Proofs.YtgigcooffjjbgaaGreatDoor
