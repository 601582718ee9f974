/-
  Gate; SCopyS; CeRc; RcRow; TreeC; StoC; StH; DvC; Emp; SAsk; DNext
-/
import Derived.Test.YtijmbohadndfmaaGreatDoorPk8
import Derived.Deep.Cut
import Derived.Deep.CutBlock
open Go.Value renaming int→I,slice→Y,string→iT,bool→iB,pointer→iP,agg→iA,tuple→iU
open Go.IntKind renaming i64→J
open Option renaming none→O,some→X
open Go.Ending renaming returned→G
open Go.Obj renaming cells→iC
open Bool renaming true→iV,false→iF
open Go renaming World→iW,Value→iX,Calls→iK
open Go.RowKit renaming Below→iL
set_option maxHeartbeats 8000000
set_option maxRecDepth 100000
namespace Go.Proofs.YtijmbohadndfmaaGreatDoor
open Go Go.RowKit
variable{a:Act}{listed:Array Bool}{ops:Array Oper}{fn:Func}{q0:Int}{rest:List Oper}{fuel B c m n size k lo g z zb i B':Nat}{oi:Oper}{ad:Option Addr}{P:Program}{E:Prop}{e:TypeId}{W:iW}
theorem kJ {id:Nat} {l:List Oper} {Q:Exit->Act->iW->Prop} (S:iW->Prop) {w:iW} (e:P.follows .mixedOrders=iV) (c:S w.drew)
 (d:S w.drew->wpAnyH P .any l.toArray Q S l.length (Array.replicate l.length iF) a w.drew):(Code.region id l.toArray iV).wp P Q a w:=by
 refine Dp e ?_;have b:l.toArray.size=l.length:=by simp
 rw[b];exact A8 _ _ _ _ (d c)
theorem Zt {l:List Oper} {Q:Exit->Act->iW->Prop} {S:iW->Prop} (i:Nat) {w:iW} (d:l.drop i=oi::rest)
 (hs:Region.noSelect l.toArray=iV) (e:Region.free .any l.toArray listed i=iV) (g:(Region.ready .any l.toArray listed).contains i=iV)
 (hQ:∀c a w,Q (.panic c) (a.put oi.dst undef) w->Q (.panic c) a w) (f:Region.wanted oi (yielded l.toArray a.tmps)=iF) (b:S w)
 (h:wpAnyH P .any l.toArray Q S fuel (listed.setIfInBounds i iV) (a.put oi.dst undef) w):wpAnyH P .any l.toArray Q S (fuel+1) listed a w:=by
 have hi:l.toArray[i]?=X oi:=by
  have:l[i]?=(l.drop i)[0]?:=by simp
  rw[mH,this,d];rfl
 exact wpAnyH_take hi hs e g hQ (Or.inr ⟨f,rfl⟩) b h
theorem jx{l:List Oper}{Q:Exit->Act->iW->Prop}{S:iW->Prop}{w:iW}(b:Region.ready .any l.toArray listed=[])(h:Q .normal a w):wpAnyH P .any l.toArray Q S fuel listed a w:=wpAnyH_done b h fuel
open Words
def fh(w:iW)(s:Sto)(v:iX)(w':iW):Prop:=
 ∃vv kv lo1 hi1 lo2 hi2,v=iA #[vv,kv,I J s.next]/\aB 68 lo1 hi1 vv s.fV.length (cn s.fV) w'/\dt lo2 hi2 kv s.fK w'/\w.heap.size<=lo1/\hi1<=w'.heap.size/\w.heap.size<=lo2/\hi2<=w'.heap.size/\(hi1<=lo2∨hi2<=lo1)/\iL w.heap.size w w'
def mM(v:iX):Prop:=∃a n c k x,v=iA #[Y a n c,k,x]/\n<=c
theorem Dz{w:iW}{a:Option Addr}{xs:List iX}(h:w.ownsRow B e size (Y a n c) m xs):n<=c:=by
 rcases h.2 with⟨h1,d⟩|⟨g,cap,b,h1,d,f,h4,-⟩
 ·injection h1 with e1 e2 e3
  omega
 ·injection h1 with e1 e2 e3
  omega
theorem sZ (w:iW) {o:Oper} {K:Act->iW->Prop} {Q:Exit->Act->iW->Prop} (p:o.guard=O) (s x:Operand)
 (B:o.op=.call {callee:=.builtin .append,args:= #[s,x],argTypes:= #[39,39]})
 (base:Nat) (i:TypeInfo) (hi:Tryz.prog.info? 68=X i) (G:i.zero=X (iA #[I J 0,I J 0])) (k:i.size=2) (t:i.bytes=16)
 (v:iX) (n:Nat) (xs:List iX) (hs:a.eval s=v) (f:w.ownsRow base 68 2 v n xs)
 (ls:List (Int×Int)) (m:Nat) (M:ls.length=m) (u:iX) (A:a.eval x=u) (C:qk w u ls) (r:n+m<=maxLen) (d:(n+m)*16<=140737488355328) (g:base<=w.heap.size)
 (h:∀H w',w'.ownsRow base 68 2 H (n+m) (xs++cn ls)->w.grownBy w' v.ownBlock->K (a.put o.dst H) w'):
 if Region.wanted o (yielded ops a.tmps)=iV then Oper.wp Tryz.prog o a w K Q else E:=by
 subst M;obtain⟨ad,c,rfl,h0,F⟩:=C;cases ls with
 |nil=>
  cases ad with
  |none=>
   rw[h0 rfl]at A;have N:Region.wanted o (yielded ops a.tmps)=iV:=by simp[Region.wanted,p]
   rw[aj N];have z:=AF (P:=Tryz.prog) (w:=w) base 39 o.type 68 i 2 Tryz.underlying39 hi v n xs f;unfold Oper.wp execOp;simp only[B,resolve,invoke,builtin,tI,uQ,uy,vz,cD,nZ,hs,A,cU,z];exact h v w (by simpa[cn]using f) (rK _ _)
  |some q=>exact kT w p s x 39 B base 68 i (iA #[I J 0,I J 0]) 2 16 Tryz.underlying39 hi G k t rfl (by decide) v n xs hs f q 0 c [] A rfl (λ_ _ e=>by simp at e) (λ_ e=>by cases e) r d g h
 |cons y l=>
  obtain⟨b,D,e,-,R⟩:=F.2.2.2 (by simp)
  subst e;exact kT w p s x 39 B base 68 i (iA #[I J 0,I J 0]) 2 16 Tryz.underlying39 hi G k t rfl (by decide) v n xs hs f ⟨b,D,O⟩ _ c (cn (y::l)) A (Ll _) (λj u L=>by rw[Il];exact F.cells j u L) (Ww _) r d g h
theorem Vk(c:Option Addr)(b vc:Nat)(ad:Option Addr)(a cap:Nat)(nx:Int)(vs:List (Int×Int))(rs:List Kw)(w:iW)(ar:b<=1048576)(hl:a<=1048578)(C:∀r∈rs,r.2.2.length<=1048576)(F:c=O->vc=0)(h:gn w c b vs)(hk:eH w ad a rs):
 iK Tryz.prog 69 #[iA (eC c b vc ad a cap nx)] w λe w'=>∃v,e=G v/\fh w ⟨vs,rs.map aG,nx⟩ v w'/\mM v:=by
 obtain⟨i0,hi,L,M,N⟩:=bK vE;have I0:=af hi;have Y0:=af L;have Y1:=af M;have Y2:=af N;clear hi L M N;have f:=af h.1;have HL:=af C;have j:=af (Tk.two w #[Y c b vc,Y ad a cap,I J nx] #[Y O 0 0,Y O 0 0,I J 0] 44 44);have aj:=af h;have ag:=af hk;have ac:=af F;clear h hk C F;unfold eC;go_enter Tryz.func69,Tryz.ntmps69;go_wp2_with fail;generalize(w.alloc (iC #[Y c b vc,Y ad a cap,I J nx] 44)).alloc (iC #[Y O 0 0,Y O 0 0,I J 0] 44)=wb at j⊢;have x0:wb.cell? ⟨w.heap.size,0,O⟩=X (Y c b vc):=j.o.at 1 0 rfl rfl;have x1:wb.cell? ⟨w.heap.size,1,O⟩=X (Y ad a cap):=j.o.at 1 1 rfl rfl;have x2:wb.cell? ⟨w.heap.size,2,O⟩=X (I J nx):=j.o.at 1 2 rfl rfl;have U:=af (bh wb _ x0);have XR:=af (j.o.get 0 rfl);have KB:=af (ag.o.below j.o.1);have BW:=af j.o.1;obtain⟨z,hz⟩:=an w.heap.size;rw[hz]at x0 x1 x2 U XR⊢;have ae:=af hz;clear hz;have T:ah (∀W,iL wb.heap.size wb W->W.cell? ⟨z,0,O⟩=X (Y c b vc)/\W.cell? ⟨z,1,O⟩=X (Y ad a cap)/\W.cell? ⟨z,2,O⟩=X (I J nx)):=λW H=>⟨(H.cell (show z<wb.heap.size from U.o)).trans x0,(H.cell (show z<wb.heap.size from U.o)).trans x1,(H.cell (show z<wb.heap.size from U.o)).trans x2⟩
 have BD:ah (iL wb.heap.size wb wb.drew):=(ax _ _).drew;have d:ah (iL wb.heap.size wb (wb.alloc (iC #[] 68)).drew):=(aY).drew;have OE:ah ((wb.alloc (iC #[] 68)).drew.ownsRow wb.heap.size 68 2 (Y (X ⟨wb.heap.size,0,O⟩) 0 0) 0 []):=⟨rfl,.inr ⟨wb.heap.size,0,#[],rfl,ak _,az wb _,ak _,by unfold maxLen;omega,rfl,rfl⟩⟩
 have ai:ah (qk (wb.alloc (iC #[] 68)).drew (Y c b vc) vs):=⟨c,vc,by rw[f.o],ac.o,by rw[f.o];exact(aj.o.below j.o.1).below d.o⟩
 have B:=af d.o.size;refine wY 10 (S:=λw'=>w'.cell? ⟨z,0,O⟩=X (Y c b vc)/\w'.cell? ⟨z,1,O⟩=X (Y ad a cap)/\w'.cell? ⟨z,2,O⟩=X (I J nx)) (by kernel_rfl) rfl (by kernel_rfl) (T.o _ BD.o) (λhHeld=>?_)
 simp only[vp,tU,aR,cU,Nat.reduceAdd];refine au 1 ?_;refine au 2 ?_;refine au 4 ?_;refine au 5 ?_;refine au 7 ?_;refine au 8 ?_;refine ch 0 rfl (by kernel_rfl) (λK k=>?_)
 go_simp;refine k.out _ _ (T.o _ d.o) (λhHeld2=>?_)
 clear k K hHeld;have hHeld:=hHeld2;clear hHeld2
 (try simp only[Act.put,bJ,bE,bp])
 refine ch 3 rfl (by kernel_rfl) (λK k=>?_)
 refine sZ _ (by rfl) (.tmp 3) (.tmp 5) (by rfl) wb.heap.size i0 I0.o Y0.o Y1.o Y2.o _ 0 [] (by simp[Act.eval]) OE.o vs b f.o _ (by simp[Act.eval]) ai.o (by unfold maxLen;omega) (by omega) B.o ?_
 intro v1 R Q g1;rw[iN,dK]at Q;have x:ah (iL wb.heap.size wb R):=d.o.grown g1 B.o (λq Z=>(OE.o.lt q Z).1)
 have P1:=af (aB.of Q);have O1:=af Q;obtain⟨t,u,ao,-⟩:=(aB.of Q).form;subst ao;have A:=af (Dz Q);refine k.out _ _ (T.o _ x.o) (λhHeld2=>?_)
 clear k K hHeld;have hHeld:=hHeld2;clear hHeld2
 (try simp only[Act.put,bJ,bE,bp])
 refine ch 6 rfl (by kernel_rfl) (λK k=>?_)
 go_simp;refine(Cb ad a cap rs R hl HL.o (KB.o.below x.o)).mono ?_;rintro en i ⟨aw,rfl,kv,ss,rfl,ko,E,V⟩;have B2:=af (x.o.trans (V.mono x.o.size));have O2:=af (bu O1.o V);have K2:=af ko;have ab:=af E;have y:=af V;obtain⟨m,n,al⟩:=ko.form;subst al;obtain⟨s,D⟩:=an ss.length;rw[D]at K2⊢;clear ko E V D;refine k.out _ _ (T.o _ B2.o) (λhHeld2=>?_)
 clear k K hHeld;have hHeld:=hHeld2;clear hHeld2
 (try simp only[Act.put,bJ,bE,bp])
 refine au 9 ?_;refine jx (by kernel_rfl) (vw ?_)
 clear hHeld;have P:ah (z+1<wb.heap.size):=(aJ.1 XR.o).1;have l:ah (i.heap[z+1]?=X (iC #[Y O 0 0,Y O 0 0,I J 0] 44 (0,0))):=(B2.o.block (z+1) P.o).trans XR.o;have r0:=am _ _ 0 _ _ _ l.o;have r1:=am _ _ 1 _ _ _ l.o;have r2:=am _ _ 2 _ _ _ l.o;have f0:=aL _ _ 0 _ _ l.o;have f1:=aL _ _ 1 _ _ l.o;have f2:=aL _ _ 2 _ _ l.o;have R3:ah ((((i.setCell ⟨z+1,0,O⟩ (Y t b u)).setCell ⟨z+1,1,O⟩ (Y m s n)).setCell ⟨z+1,2,O⟩ (I J nx)).heap[z+1]?=X (iC #[Y t b u,Y m s n,I J nx] 44 (0,0))):=bC _ _ 2 _ _ _ (bC _ _ 1 _ _ _ (bC _ _ 0 _ _ _ l.o));have aa:ah (fh w ⟨vs,rs.map aG,nx⟩ (iA #[Y t b u,Y m s n,I J nx]) (((i.setCell ⟨z+1,0,O⟩ (Y t b u)).setCell ⟨z+1,1,O⟩ (Y m s n)).setCell ⟨z+1,2,O⟩ (I J nx))):=by
  have h1:=P.o;have h2:=x.o.size;have h3:=BW.o.size;have aq:(((i.setCell ⟨z+1,0,O⟩ (Y t b u)).setCell ⟨z+1,1,O⟩ (Y m s n)).setCell ⟨z+1,2,O⟩ (I J nx)).heap.size=i.heap.size:=by simp[World.setCell]
  have ap:=y.o.size;have Z:∀g,g≠z+1->(((i.setCell ⟨z+1,0,O⟩ (Y t b u)).setCell ⟨z+1,1,O⟩ (Y m s n)).setCell ⟨z+1,2,O⟩ (I J nx)).heap[g]?=i.heap[g]?:=λg hg=>(aU _ _ _ _ hg).trans ((aU _ _ _ _ hg).trans (aU _ _ _ _ hg))
  refine⟨_,_,wb.heap.size,R.heap.size,R.heap.size,i.heap.size,rfl,?_,⟨ss,ab.o,?_⟩,by omega,by omega,by omega,by omega,.inl (ak _),?_⟩
  ·refine aB.loc _ _ _ _ _ _ R _ (λg g1 g2=>?_) (by rw[f.o];exact P1.o)
   exact(Z g (by omega)).trans (y.o.block g g2)
  ·exact pK.loc _ _ _ _ i _ (λg g1 g2=>Z g (by omega)) K2.o.fK
  ·have av:=ae.o;exact(((BW.o.trans (B2.o.mono h3)).setCell (p:=⟨z+1,0,O⟩) (by show _<=z+1;omega) _).setCell (p:=⟨z+1,1,O⟩) (by show _<=z+1;omega) _).setCell (p:=⟨z+1,2,O⟩) (by show _<=z+1;omega) _
 go_wp2;exact aF (tW rfl _ _ (z+1) 44 _ (0,0) _ rfl R3.o Tryz.underlying44 rfl uY) rfl ⟨_,rfl,aa.o,⟨_,_,_,_,_,rfl,A.o⟩⟩
def mz(t:Int×Int×Int×Int):List iX:=[I J t.1,I J t.2.1,I J t.2.2.1,I J t.2.2.2]
def cj(l:List (Int×Int×Int×Int)):List iX:=l.flatMap mz
theorem DV(l:List (Int×Int×Int×Int)):(cj l).length=l.length*4:=by
 induction l with
 |nil=>rfl
 |cons t l a=>simp[cj,mz]at a⊢;omega
theorem Er(a b:List (Int×Int×Int×Int)):cj (a++b)=cj a++cj b:=by simp[cj]
theorem Ri(t:Int×Int×Int×Int)(l:List (Int×Int×Int×Int)):cj (t::l)=mz t++cj l:=by simp[cj]
theorem Bt(l:List (Int×Int×Int×Int))(k:Nat)(t:Int×Int×Int×Int)(h:l[k]?=X t)(j:Nat)(v:iX)(b:(mz t)[j]?=X v):(cj l)[k*4+j]?=X v:=by
 have c:j<4:=(aD.1 b).1
 induction l generalizing k with
 |nil=>simp at h
 |cons a l d=>
  rw[Ri];cases k with
  |zero=>
   simp at h;subst h;rw[lz (by show _<4;omega),lq,dK]
   exact b
  |succ k=>
   rw[dz (by show 4<=_;omega),show(k+1)*4+j-(mz a).length=k*4+j by show _-4=_;omega]
   exact d k (by simpa using h)
theorem Nt(l:List (Int×Int×Int×Int)):∀v∈cj l,v.oneCell'=iV:=by
 intro v b;obtain⟨t,-,a⟩:=lE.1 b;simp[mz]at a;rcases a with h|h|h|h<;>subst h<;>rfl
theorem Ae:(Tryz.prog.info? 137).map (λi=>(i.zero,i.size,i.bytes))=X (X (iA #[I J 0,I J 0,I J 0,I J 0]),4,32):=by kernel_rfl
def j8(w:iW)(a:Option Addr)(d:Nat)(ls:List (Int×Int×Int×Int)):Prop:=
 ls.length=d/\d<=maxLen/\(∀t∈ls,True)/\(0<d->∃b c,a=X ⟨b,c,O⟩/\b<w.heap.size/\∀i t,ls[i]?=X t->w.cell? ⟨b,c+i*4,O⟩=X (I J t.1)/\w.cell? ⟨b,c+i*4+1,O⟩=X (I J t.2.1)/\w.cell? ⟨b,c+i*4+2,O⟩=X (I J t.2.2.1)/\w.cell? ⟨b,c+i*4+3,O⟩=X (I J t.2.2.2))
theorem j8.below{w w':iW}{a:Option Addr}{d:Nat}{ls:List (Int×Int×Int×Int)}(h:j8 w a d ls)(c:iL w.heap.size w w'):j8 w' a d ls:=by
 obtain⟨h1,k,l,h4⟩:=h;refine⟨h1,k,l,λh0=>?_⟩
 obtain⟨b,g,e,f,m⟩:=h4 h0;have hs:=c.size;refine⟨b,g,e,by omega,λi t n=>?_⟩
 obtain⟨j,c1,c2,c3⟩:=m i t n;exact⟨(c.cell (show b<w.heap.size from f)).trans j,(c.cell (show b<w.heap.size from f)).trans c1,(c.cell (show b<w.heap.size from f)).trans c2,(c.cell (show b<w.heap.size from f)).trans c3⟩
theorem j8.at{w:iW}{a:Option Addr}{d:Nat}{ls:List (Int×Int×Int×Int)}(h:j8 w a d ls){t:Int×Int×Int×Int}(f:ls[k]?=X t):
 ∃b c,a=X ⟨b,c,O⟩/\b<w.heap.size/\w.cell? ⟨b,c+k*4,O⟩=X (I J t.1)/\w.cell? ⟨b,c+k*4+1,O⟩=X (I J t.2.1)/\w.cell? ⟨b,c+k*4+2,O⟩=X (I J t.2.2.1)/\w.cell? ⟨b,c+k*4+3,O⟩=X (I J t.2.2.2):=by
 obtain⟨h1,-,-,h4⟩:=h;have l:=(aD.1 f).1;obtain⟨b,c,e,i,j⟩:=h4 (by omega)
 obtain⟨g,c1,c2,c3⟩:=j k t f;exact⟨b,c,e,i,g,c1,c2,c3⟩
theorem j8.of_own{w:iW}{base:Nat}{v:iX}{M:List (Int×Int×Int×Int)}(d:M.length=n)(h:w.ownsRow base 137 4 v n (cj M)):
 ∃a c,v=Y a n c/\j8 w a n M:=by
 have l:=h;obtain⟨-,k⟩:=l;rcases k with⟨rfl,rfl⟩|⟨g,cap,e,rfl,o,h4,p,q,-,-⟩
 ·exact⟨O,0,rfl,d,by unfold maxLen;omega,by simp,λh=>by omega⟩
 ·refine⟨_,_,rfl,d,by omega,by simp,λ_=>⟨g,0,rfl,(aJ.1 h4).1,λi t hi=>?_⟩⟩
  have b:=λj v m=>h.cells (g:=g) rfl (i*4+j) v (Bt M i t hi j v m)
  have f:∀j,(⟨g,0,O⟩:Addr).add j=⟨g,0+j,O⟩:=λj=>by simp only[Addr.add];split<;>simp_all
  simp only[f]at b;exact⟨b 0 _ rfl,by simpa[Nat.add_assoc]using b 1 _ rfl,by simpa[Nat.add_assoc]using b 2 _ rfl,by simpa[Nat.add_assoc]using b 3 _ rfl⟩
theorem dt.rd{W:iW}{hi:Nat}{M:List Kn}(h:dt lo hi (Y ad n c) M W)(b:M.length=n)(a:hi<=W.heap.size):∃rs,rs.map aG=M/\eH W ad n rs:=by
 obtain⟨rs,e,d⟩:=h;exact⟨rs,e,d.rd (by rw[<-b,<-e,aS]) a⟩
def dO(w:iW)(v:iX)(s:Sto):Prop:=
 ∃b c vc ad a cap rs,v=iA (eC b c vc ad a cap s.next)/\s.fK=rs.map aG/\c<=1048576/\a<=1048576/\(∀r∈rs,r.2.2.length<=1048576)/\(b=O->vc=0)/\gn w b c s.fV/\eH w ad a rs
variable{s:Sto}
theorem dO.below{w w':iW}{v:iX}(h:dO w v s)(b:iL w.heap.size w w'):dO w' v s:=by
 obtain⟨j,k,vc,ad,a,cap,rs,h1,c,d,h4,e,f,g,i⟩:=h;exact⟨j,k,vc,ad,a,cap,rs,h1,c,d,h4,e,f,g.below b,i.below b⟩
def Words.Sto.Fit(s:Sto):Prop:=s.fV.length<=1048576/\s.fK.length<=1048576/\∀k∈s.fK,k.fD.length<=1048576
theorem dO.fit{w:iW}{v:iX}(h:dO w v s):s.Fit:=by
 obtain⟨l,m,vc,ad,g,cap,rs,h1,a,i,h4,c,j,d,e⟩:=h;refine⟨by have:=d.1;omega,by rw[a,aS];have:=e.1;omega,λk b=>?_⟩
 rw[a]at b;obtain⟨r,f,rfl⟩:=bF.1 b;exact c r f
theorem yw(h:s.Right):s.Fit:=by
 refine⟨by have:=h.few;omega,by have:=Ec h;omega,λk a=>?_⟩
 obtain⟨i,hi,e⟩:=qI.1 a;have:=lY (lA h.ar (i:=i) (x:=k) (by rw[<-e];exact ay hi))
 omega
theorem Qe(h:s.Fit)(r:Rc):(aX s r).1.Fit:=by
 by_cases a:dc s=iV
 ·exact yw (yt ((jQ s).1 a) r)
 ·rw[aX,ai (λq=>a q.1)];exact h
theorem fh.blw{w w':iW}{v:iX}(h:fh w s v w'):iL w.heap.size w w':=by
 obtain⟨vv,kv,lo1,hi1,lo2,hi2,-,-,-,-,-,-,-,-,h⟩:=h;exact h
theorem fh.form{w w':iW}{v:iX}(h:fh w s v w'):∃b d vc ad a cap,v=iA #[Y b d vc,Y ad a cap,I J s.next]:=by
 obtain⟨vv,kv,lo1,hi1,lo2,hi2,rfl,h1,c,-⟩:=h;obtain⟨b,vc,rfl,-⟩:=h1.form;obtain⟨ad,cap,rfl⟩:=c.form;exact⟨_,_,_,_,_,_,rfl⟩
theorem fh.set3{w0 w d:iW}{v a b c:iX}(h:fh w s v d)(f:iL w0.heap.size w0 w)(r:g<w.heap.size)(h0:w0.heap.size<=g):fh w0 s v (((d.setCell ⟨g,0,O⟩ a).setCell ⟨g,1,O⟩ b).setCell ⟨g,2,O⟩ c):=by
 obtain⟨vv,kv,lo1,hi1,lo2,hi2,e,h1,j,m,h4,n,o,k,l⟩:=h;have hs:=f.size;have t:(((d.setCell ⟨g,0,O⟩ a).setCell ⟨g,1,O⟩ b).setCell ⟨g,2,O⟩ c).heap.size=d.heap.size:=by simp[World.setCell]
 have i:∀q,w.heap.size<=q->(((d.setCell ⟨g,0,O⟩ a).setCell ⟨g,1,O⟩ b).setCell ⟨g,2,O⟩ c).heap[q]?=d.heap[q]?:=λq u=>(aU _ _ _ _ (show q≠g by omega)).trans ((aU _ _ _ _ (show q≠g by omega)).trans (aU _ _ _ _ (show q≠g by omega)))
 refine⟨vv,kv,lo1,hi1,lo2,hi2,e,?_,?_,by omega,by omega,by omega,by omega,k,?_⟩
 ·exact aB.loc _ _ _ _ _ _ d _ (λg g1 g2=>i g (by omega)) h1
 ·exact dt.loc _ _ _ _ d _ (λg g1 g2=>i g (by omega)) j
 ·exact(((f.trans (l.mono hs)).setCell (p:=⟨g,0,O⟩) h0 _).setCell (p:=⟨g,1,O⟩) h0 _).setCell (p:=⟨g,2,O⟩) h0 _
theorem n7{w:iW}{d e f a b c:iX}(h:w.heap[g]?=X (iC #[d,e,f] 44 (0,0))):(((w.setCell ⟨g,0,O⟩ a).setCell ⟨g,1,O⟩ b).setCell ⟨g,2,O⟩ c).heap[g]?=X (iC #[a,b,c] 44 (0,0)):=bC _ _ 2 _ _ _ (bC _ _ 1 _ _ _ (bC _ _ 0 _ _ _ h))
theorem xP{w W:iW}{lo1 hi1 lo2 hi2:Nat}{vv kv:iX}(a:w.heap.size<=z)(h1:aB 68 lo1 hi1 vv s.fV.length (cn s.fV) W)(h:dt lo2 hi2 kv s.fK W)(d:w.heap.size<=lo1/\(hi1<=z∨z<lo1))(e:w.heap.size<=lo2/\(hi2<=z∨z<lo2))(k:hi1<=W.heap.size)(l:hi2<=W.heap.size)(f:hi1<=lo2∨hi2<=lo1)(i:iL w.heap.size w W):
 fh w s (iA #[vv,kv,I J s.next]) (((W.setCell ⟨z,0,O⟩ vv).setCell ⟨z,1,O⟩ kv).setCell ⟨z,2,O⟩ (I J s.next)):=by
 have j:(((W.setCell ⟨z,0,O⟩ vv).setCell ⟨z,1,O⟩ kv).setCell ⟨z,2,O⟩ (I J s.next)).heap.size=W.heap.size:=by simp[World.setCell]
 have c:∀q,q≠z->(((W.setCell ⟨z,0,O⟩ vv).setCell ⟨z,1,O⟩ kv).setCell ⟨z,2,O⟩ (I J s.next)).heap[q]?=W.heap[q]?:=λq b=>(aU _ _ _ _ b).trans ((aU _ _ _ _ b).trans (aU _ _ _ _ b))
 refine⟨vv,kv,lo1,hi1,lo2,hi2,rfl,?_,?_,d.1,by omega,e.1,by omega,f,?_⟩
 ·exact aB.loc _ _ _ _ _ _ W _ (λg g1 g2=>c g (by omega)) h1
 ·exact dt.loc _ _ _ _ W _ (λg g1 g2=>c g (by omega)) h
 ·exact((i.setCell (p:=⟨z,0,O⟩) a _).setCell (p:=⟨z,1,O⟩) a _).setCell (p:=⟨z,2,O⟩) a _
def Ao(w:iW)(p:Sto×Bool)(e:Ending)(w':iW):Prop:=∃u,e=G (iU #[u,iB p.2])/\fh w p.1 u w'
def Wq(f:Nat):Prop:=∀w:iW,iK Tryz.prog f #[] w λe w'=>∃v,e=G v/\fh w gO v w'
def XY(f:Nat):Prop:=∀(v:iX) (s:Sto) (w:iW),dO w v s->iK Tryz.prog f #[v] w λe w'=>e=G (iB (dc s))/\iL w.heap.size w w'
def Ny(w:iW)(l:List Rc)(e:Ending)(w':iW):Prop:=∃v,e=G v/\w'.ownsRow w.heap.size 137 4 v l.length (cj (l.map Rc.tu))/\iL w.heap.size w w'
def WR(f:Nat):Prop:=∀(v:iX) (s:Sto) (w:iW),dO w v s->iK Tryz.prog f #[v] w (Ny w (gZ s))
def Ql(f:Nat):Prop:=∀(v:iX) (s:Sto) (a:Option Addr) (n c:Nat) (l:List Rc) (w:iW),n<=1048576*32->dO w v s->j8 w a n (l.map Rc.tu)->iK Tryz.prog f #[v,Y a n c] w (Ao w (i8 s l))
def Oo(f:Nat):Prop:=∀(v:iX) (s:Sto) (w:iW),dO w v s->iK Tryz.prog f #[v] w (pJ w (be s))
def OJ(f:Nat):Prop:=∀(v:iX) (s:Sto) (u:iX) (t:Sto) (w:iW),dO w v s->dO w u t->iK Tryz.prog f #[v,u] w λe w'=>e=G (iB (qH s t))/\iL w.heap.size w w'
def eB(lo zb:Nat)(v:iX)(s:Sto)(V:iW):Prop:=∃vv kv lo1 hi1 lo2 hi2,v=iA #[vv,kv,I J s.next]/\aB 68 lo1 hi1 vv s.fV.length (cn s.fV) V/\dt lo2 hi2 kv s.fK V/\(lo<=lo1/\(hi1<=zb∨zb<lo1))/\(lo<=lo2/\(hi2<=zb∨zb<lo2))/\hi1<=V.heap.size/\hi2<=V.heap.size/\(hi1<=lo2∨hi2<=lo1)
theorem eB.keep{v:iX}{V a:iW}(h:eB lo zb v s V)(b:∀g,lo<=g->g≠zb->g<V.heap.size->a.heap[g]?=V.heap[g]?)(k:V.heap.size<=a.heap.size):eB lo zb v s a:=by
 obtain⟨vv,kv,lo1,hi1,lo2,hi2,e,h1,c,d,h4,i,j,f⟩:=h;refine⟨vv,kv,lo1,hi1,lo2,hi2,e,?_,?_,d,h4,by omega,by omega,f⟩
 ·exact aB.loc _ _ _ _ _ _ V _ (λg g1 g2=>b g (by omega) (by omega) (by omega)) h1
 ·exact dt.loc _ _ _ _ V _ (λg g1 g2=>b g (by omega) (by omega) (by omega)) c
theorem eB.below{v:iX}{V a:iW}(h:eB lo zb v s V)(b:iL V.heap.size V a):eB lo zb v s a:=h.keep (λg _ _ c=>b.block g c) b.size
theorem eB.of{v:iX}{w V:iW}(h:fh w s v V)(d:lo<=w.heap.size)(f:zb<w.heap.size∨V.heap.size<=zb):eB lo zb v s V:=by
 obtain⟨vv,kv,lo1,hi1,lo2,hi2,e,h1,a,g,h4,i,b,c,-⟩:=h;exact⟨vv,kv,lo1,hi1,lo2,hi2,e,h1,a,⟨by omega,by omega⟩,⟨by omega,by omega⟩,h4,b,c⟩
theorem eB.set{v u:iX}{V:iW}(h:eB lo zb v s V):eB lo zb v s (V.setCell ⟨zb,k,O⟩ u):=
 h.keep (λg _ a _=>aU _ _ _ _ a) (by simp[World.setCell])
theorem eB.rd{v:iX}{V:iW}(h:eB lo zb v s V)(a:s.Fit):dO V v s:=by
 obtain⟨vv,kv,lo1,hi1,lo2,hi2,rfl,h1,d,k,h4,f,g,l⟩:=h;obtain⟨j,vc,rfl,i,b⟩:=qk.of h1 (by have:=a.1;unfold maxLen;omega) f
 obtain⟨ad,cap,rfl⟩:=d.form;obtain⟨rs,e,c⟩:=d.rd rfl g;refine⟨j,s.fV.length,vc,ad,s.fK.length,cap,rs,rfl,e.symm,a.1,a.2.1,λr c=>?_,i,b,c⟩
 exact a.2.2 (aG r) (by rw[<-e];exact bF.2 ⟨r,c,rfl⟩)
theorem eB.fin{w V:iW}{a b:iX}{n:Int}(h:eB lo zb (iA #[a,b,I J n]) s V)(m:iL w.heap.size w V)(o:w.heap.size<=g)(q:g<lo):fh w s (iA #[a,b,I J n]) (((V.setCell ⟨g,0,O⟩ a).setCell ⟨g,1,O⟩ b).setCell ⟨g,2,O⟩ (I J n)):=by
 obtain⟨vv,kv,lo1,hi1,lo2,hi2,e,h1,i,p,h4,j,k,l⟩:=h;injection e with e
 injection e with e
 simp only[iQ,jY]at e;obtain⟨c,d,f⟩:=e;rw[c,d,f];exact xP o h1 i ⟨by omega,.inr (by omega)⟩ ⟨by omega,.inr (by omega)⟩ j k l m
theorem Ip{t:Sto}{l:List Rc}{r:Rc}(h:dL s (l.take k)=X t)(b:l[k]?=X r):dL s (l.take (k+1))=if (aX t r).2=iV then X (aX t r).1 else O:=by
 obtain⟨h1,a⟩:=aD.1 b;rw[ge h1,a,xy,h,kV,dL];split<;>rfl
theorem Pz{t:Sto}{l:List Rc}{r:Rc}(h:dL s (l.take k)=X t)(b:l[k]?=X r)(a:(aX t r).2=iF):i8 s l=(s,iF):=by
 have e:dL s l=O:=by
  conv=>lhs;rw[<-jP (k+1) l]
  rw[xy,Ip h b,ai (by rw[a];decide)]
  rfl
 rw[i8,e]
theorem Ou{t:Sto}{l:List Rc}(h:dL s l=X t):i8 s l=(t,iV):=by rw[i8,h]
def fU(W:iW)(v:iX)(d:Dv):Prop:=∃a vv kv,v=iA #[a,vv,kv,I J d.fS.next,I J d.seq,I J d.tx,I J d.base]/\fj W a d.fH/\dg d.fH/\dO W (iA #[vv,kv,I J d.fS.next]) d.fS
variable{d:Dv}
theorem fU.below{W W':iW}{v:iX}(h:fU W v d)(a:iL W.heap.size W W'):fU W' v d:=by
 obtain⟨b,vv,kv,e,h1,c,f⟩:=h;exact⟨b,vv,kv,e,h1.below a,c,f.below a⟩
theorem Qa{W:iW}{vv kv:iX}{n:Int}(h:dO W (iA #[vv,kv,I J n]) s):∃b c vc ad a cap,vv=Y b c vc/\kv=Y ad a cap/\n=s.next:=by
 obtain⟨b,c,vc,ad,a,cap,rs,h1,-⟩:=h;unfold eC at h1;injection h1 with h1
 injection h1 with h1
 simp only[iQ,jY,Value.int.injEq,tY]at h1;exact⟨b,c,vc,ad,a,cap,h1.1,h1.2.1,h1.2.2⟩
theorem fU.form{W:iW}{v:iX}(h:fU W v d):∃c b f g vc ad a cap,v=iA #[Y c d.fH.length b,Y f g vc,Y ad a cap,I J d.fS.next,I J d.seq,I J d.tx,I J d.base]/\fj W (Y c d.fH.length b) d.fH/\dg d.fH/\dO W (iA #[Y f g vc,Y ad a cap,I J d.fS.next]) d.fS:=by
 obtain⟨k,vv,kv,e,h1,j,i⟩:=h;obtain⟨c,b,rfl⟩:=h1.form;obtain⟨f,g,vc,ad,a,cap,rfl,rfl,-⟩:=Qa i;exact⟨c,b,f,g,vc,ad,a,cap,e,h1,j,i⟩
def aP(W:iW)(g:Nat)(a b c:iX)(n q t s:Int):Prop:=W.heap[g]?=X (iC #[a,b,c,I J n,I J q,I J t,I J s] 46 (0,0))
theorem aP.below{w w':iW}{a b c:iX}{n q t s:Int}(h:aP w g a b c n q t s)(d:iL w.heap.size w w'):aP w' g a b c n q t s:=(d.block _ (aJ.1 h).1).trans h
theorem aP.lt{w:iW}{a b c:iX}{n q t s:Int}(h:aP w g a b c n q t s):g<w.heap.size:=(aJ.1 h).1
theorem aP.cells{W:iW}{g:Nat}{a b c:iX}{n q t s:Int}(h:aP W g a b c n q t s):W.cell? ⟨g,0,O⟩=X a/\W.cell? ⟨g,1,O⟩=X b/\W.cell? ⟨g,2,O⟩=X c/\W.cell? ⟨g,3,O⟩=X (I J n)/\W.cell? ⟨g,4,O⟩=X (I J q)/\W.cell? ⟨g,5,O⟩=X (I J t)/\W.cell? ⟨g,6,O⟩=X (I J s):=
 ⟨am _ _ 0 _ _ _ h,am _ _ 1 _ _ _ h,am _ _ 2 _ _ _ h,am _ _ 3 _ _ _ h,am _ _ 4 _ _ _ h,am _ _ 5 _ _ _ h,am _ _ 6 _ _ _ h⟩
theorem aP.fr{W:iW}{a b c:iX}{n q t s:Int}(h:aP W g a b c n q t s)(k:Nat):W.frozen? ⟨g,k,O⟩=iF:=aL _ _ k _ _ h
theorem aP.seq{W:iW}{a b c:iX}{n q t s:Int}(h:aP W g a b c n q t s)(x:Int):aP (W.setCell ⟨g,4,O⟩ (I J x)) g a b c n x t s:=bC _ _ 4 _ _ _ h
theorem aP.tx{W:iW}{a b c:iX}{n q t s:Int}(h:aP W g a b c n q t s)(x:Int):aP (W.setCell ⟨g,5,O⟩ (I J x)) g a b c n q x s:=bC _ _ 5 _ _ _ h
theorem aP.base{W:iW}{a b c:iX}{n q t s:Int}(h:aP W g a b c n q t s)(x:Int):aP (W.setCell ⟨g,6,O⟩ (I J x)) g a b c n q t x:=bC _ _ 6 _ _ _ h
theorem aP.fS{W:iW}{a b c:iX}{n q t s:Int}(h:aP W g a b c n q t s)(x y:iX)(m:Int):aP (((W.setCell ⟨g,1,O⟩ x).setCell ⟨g,2,O⟩ y).setCell ⟨g,3,O⟩ (I J m)) g a x y m q t s:=by
 have h1:(W.setCell ⟨g,1,O⟩ x).heap[g]?=X (iC #[a,x,c,I J n,I J q,I J t,I J s] 46 (0,0)):=bC _ _ 1 _ _ _ h;generalize W.setCell ⟨g,1,O⟩ x=d at h1⊢;have e:(d.setCell ⟨g,2,O⟩ y).heap[g]?=X (iC #[a,x,y,I J n,I J q,I J t,I J s] 46 (0,0)):=bC _ _ 2 _ _ _ h1;generalize d.setCell ⟨g,2,O⟩ y=f at e⊢;exact bC _ _ 3 _ _ _ e
theorem aP.far{W:iW}{h:Nat}{a b c u:iX}{n q t s:Int}(e:aP W g a b c n q t s)(d:g≠h):aP (W.setCell ⟨h,k,O⟩ u) g a b c n q t s:=(aU _ _ _ _ d).trans e
def bU(W:iW)(g:Nat)(a b c:iX)(n q t s:Int):iW:=((((((W.setCell ⟨g,0,O⟩ a).setCell ⟨g,1,O⟩ b).setCell ⟨g,2,O⟩ c).setCell ⟨g,3,O⟩ (I J n)).setCell ⟨g,4,O⟩ (I J q)).setCell ⟨g,5,O⟩ (I J t)).setCell ⟨g,6,O⟩ (I J s)
theorem qJ(W:iW)(g:Nat)(a b c:iX)(n q t s:Int)(h:i≠g):(bU W g a b c n q t s).heap[i]?=W.heap[i]?:=by
 unfold bU;rw[aU _ ⟨g,6,O⟩ _ _ h,aU _ ⟨g,5,O⟩ _ _ h,aU _ ⟨g,4,O⟩ _ _ h,aU _ ⟨g,3,O⟩ _ _ h,aU _ ⟨g,2,O⟩ _ _ h,aU _ ⟨g,1,O⟩ _ _ h,aU _ ⟨g,0,O⟩ _ _ h]
theorem Dk(W:iW)(g:Nat)(a b c:iX)(n q t s:Int):(bU W g a b c n q t s).heap.size=W.heap.size:=by simp[bU,World.setCell]
theorem mj{w W:iW}(a b c:iX)(n q t s:Int)(h:iL B w W)(d:B<=g):iL B w (bU W g a b c n q t s):=
 ((((((h.setCell (p:=⟨g,0,O⟩) d _).setCell (p:=⟨g,1,O⟩) d _).setCell (p:=⟨g,2,O⟩) d _).setCell (p:=⟨g,3,O⟩) d _).setCell (p:=⟨g,4,O⟩) d _).setCell (p:=⟨g,5,O⟩) d _).setCell (p:=⟨g,6,O⟩) d _
theorem lX{W:iW}{k f i:iX}{j e d:Int}(h:aP W g k f i j q0 e d)(a b c:iX)(n q t s:Int):aP (bU W g a b c n q t s) g a b c n q t s:=by
 unfold bU;have h0:(W.setCell ⟨g,0,O⟩ a).heap[g]?=X (iC #[a,f,i,I J j,I J q0,I J e,I J d] 46 (0,0)):=bC _ _ 0 _ _ _ h;generalize W.setCell ⟨g,0,O⟩ a=W0 at h0⊢;have h1:aP (((W0.setCell ⟨g,1,O⟩ b).setCell ⟨g,2,O⟩ c).setCell ⟨g,3,O⟩ (I J n)) g a b c n q0 e d:=aP.fS h0 b c n;exact((h1.seq q).tx t).base s
theorem Bl:(Tryz.prog.info? 46).map (·.size)=X 7:=by kernel_rfl
theorem pI {p q:Tmp} (h:fn.results= #[.cell p 46,.tmp q]) (d:Array iX) (w:iW) (g:Nat) (a b c:iX) (n x t s:Int)
 (j:d.getD p undef=iP (X ⟨g,0,O⟩)) (f:aP w g a b c n x t s):
 (results fn d).run Tryz.prog w=.ok (iU #[iA #[a,b,c,I J n,I J x,I J t,I J s],d.getD q undef]) w:=by
 have e:d[p]?.getD undef=iP (X ⟨g,0,O⟩):=by simpa using j
 have i:=lx (P:=Tryz.prog) w g 46 46 _ _ _ f Tryz.underlying46 rfl Bl;simp[results,h,e,asAddr,i]
theorem Cq {p:Tmp} (h:fn.results= #[.cell p 46]) (d:Array iX) (w:iW) (g:Nat) (a b c:iX) (n x t s:Int)
 (j:d.getD p undef=iP (X ⟨g,0,O⟩)) (f:aP w g a b c n x t s):
 (results fn d).run Tryz.prog w=.ok (iA #[a,b,c,I J n,I J x,I J t,I J s]) w:=by
 have e:d[p]?.getD undef=iP (X ⟨g,0,O⟩):=by simpa using j
 have i:=lx (P:=Tryz.prog) w g 46 46 _ _ _ f Tryz.underlying46 rfl Bl;simp[results,h,e,asAddr,i]
def cS(B:Nat)(v:iX)(d:Dv)(W:iW):Prop:=∃a vv kv lo hi lo1 hi1 lo2 hi2,v=iA #[a,vv,kv,I J d.fS.next,I J d.seq,I J d.tx,I J d.base]/\cu lo hi a d.fH W/\aB 68 lo1 hi1 vv d.fS.fV.length (cn d.fS.fV) W/\dt lo2 hi2 kv d.fS.fK W/\(B<=lo/\hi<=W.heap.size)/\(B<=lo1/\hi1<=W.heap.size)/\(B<=lo2/\hi2<=W.heap.size)/\(hi<=lo1∨hi1<=lo)/\(hi<=lo2∨hi2<=lo)/\(hi1<=lo2∨hi2<=lo1)
theorem cS.keep{v:iX}{V a:iW}(h:cS B v d V)(b:∀g,B<=g->g<V.heap.size->a.heap[g]?=V.heap[g]?)(m:V.heap.size<=a.heap.size):cS B v d a:=by
 obtain⟨c,vv,kv,lo,hi,lo1,hi1,lo2,hi2,e,h1,f,i,h4,j,k,l⟩:=h;refine⟨c,vv,kv,lo,hi,lo1,hi1,lo2,hi2,e,?_,?_,?_,⟨h4.1,by omega⟩,⟨j.1,by omega⟩,⟨k.1,by omega⟩,l⟩
 ·exact cu.loc _ _ _ _ V _ (λg g1 g2=>b g (by omega) (by omega)) h1
 ·exact aB.loc _ _ _ _ _ _ V _ (λg g1 g2=>b g (by omega) (by omega)) f
 ·exact dt.loc _ _ _ _ V _ (λg g1 g2=>b g (by omega) (by omega)) i
theorem cS.below{v:iX}{V a:iW}(h:cS B v d V)(b:iL V.heap.size V a):cS B v d a:=h.keep (λg _ c=>b.block g c) b.size
theorem cS.down{v:iX}{V:iW}(h:cS B v d V)(j:B'<=B):cS B' v d V:=by
 obtain⟨a,vv,kv,lo,hi,lo1,hi1,lo2,hi2,e,h1,b,c,h4,f,g,i⟩:=h;exact⟨a,vv,kv,lo,hi,lo1,hi1,lo2,hi2,e,h1,b,c,⟨by omega,h4.2⟩,⟨by omega,f.2⟩,⟨by omega,g.2⟩,i⟩
def Dv.Fit(d:Dv):Prop:=dg d.fH/\d.fS.Fit
theorem cS.rd{v:iX}{V:iW}(h:cS B v d V)(c:d.Fit):fU V v d:=by
 obtain⟨f,vv,kv,lo,hi,lo1,hi1,lo2,hi2,e,h1,g,i,h4,a,b,k,l,j⟩:=h;exact⟨f,vv,kv,e,h1.rdb,c.1,eB.rd (lo:=0) (zb:=V.heap.size) ⟨vv,kv,lo1,hi1,lo2,hi2,rfl,g,i,⟨by omega,.inl a.2⟩,⟨by omega,.inl b.2⟩,a.2,b.2,j⟩ c.2⟩
theorem cS.form{v:iX}{V:iW}(h:cS B v d V):∃c b f j vc ad a cap,v=iA #[Y c d.fH.length b,Y f j vc,Y ad a cap,I J d.fS.next,I J d.seq,I J d.tx,I J d.base]:=by
 obtain⟨k,vv,kv,lo,hi,lo1,hi1,lo2,hi2,e,h1,g,i,-⟩:=h;obtain⟨c,b,rfl,-⟩:=h1.form;obtain⟨f,vc,rfl,-⟩:=g.form;obtain⟨ad,cap,rfl⟩:=i.form;exact⟨_,_,_,_,_,_,_,_,e⟩
theorem cS.put{v:iX}{V:iW}(h:cS B v d V)(e:g<B)(a b c:iX)(n q t s:Int):cS B v d (bU V g a b c n q t s):=
 h.keep (λx f _=>qJ _ _ _ _ _ _ _ _ _ (by omega)) (by rw[Dk];exact ak _)
def AD(w:iW)(d:Dv)(ok:Bool)(e:Ending)(w':iW):Prop:=∃v,e=G (iU #[v,iB ok])/\cS w.heap.size v d w'/\d.Fit/\iL w.heap.size w w'
def rO(w:iW)(d:Dv)(e:Ending)(w':iW):Prop:=∃v,e=G v/\cS w.heap.size v d w'/\d.Fit/\iL w.heap.size w w'
theorem N9:dg []:=⟨by simp,λr a=>by cases a⟩
theorem VJ(B:Nat)(W:iW):cu B B (Y O 0 0) [] W:=⟨[],rfl,xz _ _ _ _,λg a=>by simp[Value.ownBlock]at a,λr b=>(by cases b),by simp⟩
theorem PT(B:Nat)(W:iW):dt B B (Y O 0 0) [] W:=⟨[],rfl,.inl ⟨rfl,rfl⟩,λr a=>(by cases a),by simp[Ch],aI _⟩
theorem Lg(W:iW)(a:B<=W.heap.size):cS B (iA #[Y O 0 0,Y O 0 0,Y O 0 0,I J 0,I J 0,I J 0,I J 0]) rZ W:=
 ⟨_,_,_,B,B,B,B,B,B,rfl,VJ B W,.inl ⟨rfl,rfl⟩,PT B W,⟨by omega,a⟩,⟨by omega,a⟩,⟨by omega,a⟩,.inl (by omega),.inl (by omega),.inl (by omega)⟩
theorem D9:rZ.Fit:=⟨N9,by decide,by decide,λk a=>by cases a⟩
variable{bs:List Bk}
theorem Fp(h:bn bs=iV):dg bs:=by
 have h1:=h;unfold bn at h1;rw[bt,bW]at h1;refine⟨by omega,λr d=>⟨by rw[vB h r d];omega,λt f=>?_⟩⟩
 have a:=gy.1 h1.2 r d;unfold di at a;rw[bt]at a;obtain⟨k,c⟩:=ml f;have b:=gy.1 a.2 k (ju.2 (aD.1 c).1);unfold ib at b;rw[c]at b;have h4:gC t=iV:=by
  cases e:gC t with
  |true=>rfl
  |false=>simp[e]at b
 unfold gC at h4;simp only[bW]at h4;omega
theorem Hv(t:ByteArray):t.toList.isEmpty=decide (t.size=0):=by
 rw[zt];obtain⟨⟨l⟩⟩:=t;cases l with
 |nil=>rfl
 |cons a l=>exact(aV (by simp[ByteArray.size])).symm
open Sums
def dU(q:Ak):iX:=iA #[I J q.kind,I J q.vol,I J q.sector,I J q.of,iT q.text]
def bH(W:iW)(g:Nat)(q:Ak):Prop:=W.heap[g]?=X (iC #[I J q.kind,I J q.vol,I J q.sector,I J q.of,iT q.text] 26 (0,0))
theorem bH.below{w w':iW}{q:Ak}(h:bH w g q)(a:iL w.heap.size w w'):bH w' g q:=(a.block _ (aJ.1 h).1).trans h
theorem bH.lt{w:iW}{q:Ak}(h:bH w g q):g<w.heap.size:=(aJ.1 h).1
theorem bH.cells{W:iW}{g:Nat}{q:Ak}(h:bH W g q):W.cell? ⟨g,0,O⟩=X (I J q.kind)/\W.cell? ⟨g,1,O⟩=X (I J q.vol)/\W.cell? ⟨g,2,O⟩=X (I J q.sector)/\W.cell? ⟨g,3,O⟩=X (I J q.of)/\W.cell? ⟨g,4,O⟩=X (iT q.text):=
 ⟨am _ _ 0 _ _ _ h,am _ _ 1 _ _ _ h,am _ _ 2 _ _ _ h,am _ _ 3 _ _ _ h,am _ _ 4 _ _ _ h⟩
theorem J9(q:Ak)(w:iW):iK Tryz.prog 22 #[dU q] w λe w'=>e=G (iB (iO q))/\iL w.heap.size w w':=by
 obtain⟨k,v,s,o,t⟩:=q;unfold dU;simp only;have E:=aO w (iC #[I J k,I J v,I J s,I J o,iT t] 26);obtain⟨L,c1,c2,c3,M⟩:=bH.cells (q:=⟨k,v,s,o,t⟩) (az w (iC #[I J k,I J v,I J s,I J o,iT t] 26));simp only at L c1 c2 c3 M;generalize f:w.alloc (iC #[I J k,I J v,I J s,I J o,iT t] 26)=wa at E L c1 c2 c3 M;have c:=af E;obtain⟨R,F⟩:=an (iO ⟨k,v,s,o,t⟩);rw[F];have a:ah (R=if¬(1<=k/\k<=6)∨¬(1<=v/\v<=9)∨64<t.size∨(k≠1/\t.size≠0)then iF else if k=4 then decide (s=0/\1<=o/\o<=9)else if o≠0 then iF else if k=3∨k=5 then decide (s=0)else decide (0<=s/\s<=15)):=by show _=_;rw[<-F];rfl
 clear F E;have b:=af (Hv t);go_enter Tryz.func22,Tryz.ntmps22;by_cases i:¬(1<=k/\k<=6)
 ·go_wp2_with fail
  (try clear f)
  refine(gM k 1 6 iF _ (.inr ⟨by omega,rfl⟩)).mono ?_
  rintro e w' ⟨rfl,rfl⟩;go_wp2;go_ret;exact⟨by rw[a.o,aj (.inl i)];rfl,c.o⟩
 have i:1<=k/\k<=6:=xu.1 i;go_wp2_with fail
 (try clear f)
 refine(gM k 1 6 iV _ (.inl ⟨i.1,i.2,rfl⟩)).mono ?_;rintro e w' ⟨rfl,rfl⟩;by_cases j:¬(1<=v/\v<=9)
 ·go_wp2_with fail
  (try clear f)
  refine(gM v 1 9 iF _ (.inr ⟨by omega,rfl⟩)).mono ?_
  rintro e w' ⟨rfl,rfl⟩;go_wp2;go_ret;exact⟨by rw[a.o,aj (.inr (.inl j))];rfl,c.o⟩
 have j:1<=v/\v<=9:=xu.1 j;go_wp2_with fail
 (try clear f)
 refine(gM v 1 9 iV _ (.inl ⟨j.1,j.2,rfl⟩)).mono ?_;rintro e w' ⟨rfl,rfl⟩;by_cases H:64<t.size
 ·have K:(t.size:Int)>64:=by omega
  go_wp2;go_ret;exact⟨by rw[a.o,aj (.inr (.inr (.inl H)))];rfl,c.o⟩
 have K:¬((t.size:Int)>64):=by omega
 by_cases g:k≠1/\t.size≠0
 ·have Q:(k !=1)=iV:=by simpa using g.1
  have S:t.toList.isEmpty=iF:=by rw[b.o];exact aV g.2
  have N:=af g;clear g;go_wp2;go_ret;exact⟨by rw[a.o,aj (.inr (.inr (.inr N.o)))];rfl,c.o⟩
 have m:ah (¬(¬(1<=k/\k<=6)∨¬(1<=v/\v<=9)∨64<t.size∨(k≠1/\t.size≠0))):=by
  rintro(h|h|h|h)
  ·exact h i
  ·exact h j
  ·exact H h
  ·exact g h
 have l:ah (R=if k=4 then decide (s=0/\1<=o/\o<=9)else if o≠0 then iF else if k=3∨k=5 then decide (s=0)else decide (0<=s/\s<=15)):=by show _=_;rw[a.o,ai m.o]
 have P:((k !=1)=iF)∨((k !=1)=iV/\t.toList.isEmpty=iV):=by
  by_cases h1:k=1
  ·left;simp[h1]
  ·right;refine⟨by simpa using h1,?_⟩
   rw[b.o];exact aQ (xu.1 λh=>g ⟨h1,h⟩)
 have a:=l;clear l m b g H j i;rcases P with g|⟨g,Q⟩
 all_goals
  by_cases y:(k==4)=iV
  ·have d:k=4:=by simpa using y
   rw[aj d]at a;clear d;by_cases C:(s==0)=iV
   ·have u:s=0:=by simpa using C
    have O:=af u;clear u;by_cases B:1<=o/\o<=9
    ·have b:ah (R=iV):=by show _=_;rw[a.o];exact aQ ⟨O.o,B⟩
     clear a;go_wp2_with fail;refine(gM o 1 9 iV _ (.inl ⟨B.1,B.2,rfl⟩)).mono ?_;rintro e w' ⟨rfl,rfl⟩;go_wp2;go_ret;exact⟨by rw[b.o];rfl,c.o⟩
    ·have b:ah (R=iF):=by show _=_;rw[a.o];exact aV λh=>B h.2
     clear a;go_wp2_with fail;refine(gM o 1 9 iF _ (.inr ⟨by omega,rfl⟩)).mono ?_
     rintro e w' ⟨rfl,rfl⟩;go_wp2;go_ret;exact⟨by rw[b.o];rfl,c.o⟩
   ·have C:(s==0)=iF:=by simpa using C
    have b:ah (R=iF):=by show _=_;rw[a.o];exact aV λh=>by simp[h.1]at C
    clear a;go_wp2;go_ret;exact⟨by rw[b.o];rfl,c.o⟩
  ·have d:¬k=4:=by simpa using y
   have y:(k==4)=iF:=by simpa using y
   rw[ai d]at a;clear d;by_cases A:(o !=0)=iV
   ·have b:ah (R=iF):=by show _=_;rw[a.o];exact aj (by simpa using A)
    clear a;go_wp2;go_ret;exact⟨by rw[b.o];rfl,c.o⟩
   have r:¬(o≠0):=by simpa using A
   have A:(o !=0)=iF:=by simpa using A
   rw[ai r]at a;clear r;by_cases x:(k==3)=iV
   ·have b:ah (R=(s==0)):=by show _=_;rw[a.o];rw[aj (.inl (by simpa using x))];by_cases h:s=0<;>simp[h]
    clear a;go_wp2;go_ret;exact⟨by rw[b.o];rfl,c.o⟩
   have n:¬k=3:=by simpa using x
   have x:(k==3)=iF:=by simpa using x
   by_cases z:(k==5)=iV
   ·have b:ah (R=(s==0)):=by show _=_;rw[a.o];rw[aj (.inr (by simpa using z))];by_cases h:s=0<;>simp[h]
    clear a;go_wp2;go_ret;exact⟨by rw[b.o];rfl,c.o⟩
   have p:¬k=5:=by simpa using z
   have z:(k==5)=iF:=by simpa using z
   rw[ai (λh=>h.elim n p)]at a
   clear n p;by_cases D:0<=s/\s<=15
   ·have b:ah (R=iV):=by show _=_;rw[a.o];exact aQ D
    clear a;go_wp2_with fail;refine(gM s 0 15 iV _ (.inl ⟨D.1,D.2,rfl⟩)).mono ?_;rintro e w' ⟨rfl,rfl⟩;go_wp2;go_ret;exact⟨by rw[b.o];rfl,c.o⟩
   ·have b:ah (R=iF):=by show _=_;rw[a.o];exact aV D
    clear a;go_wp2_with fail;refine(gM s 0 15 iF _ (.inr ⟨by omega,rfl⟩)).mono ?_
    rintro e w' ⟨rfl,rfl⟩;go_wp2;go_ret;exact⟨by rw[b.o];rfl,c.o⟩
def mB:Ak:=⟨0,0,0,0,⟨#[]⟩⟩
def ji(t:List UInt8):Prop:=t∈qd.map (λb=>b.data.toList)
theorem Zo:ji (⟨#[]⟩:ByteArray).data.toList:=by unfold ji qd;simp
theorem Gy:(Tryz.prog.info? 26).map (·.size)=X 5:=by kernel_rfl
theorem Ka {p:Tmp} (h:fn.results= #[.cell p 26]) (a:Array iX) (w:iW) (g:Nat) (q:Ak)
 (e:a.getD p undef=iP (X ⟨g,0,O⟩)) (c:bH w g q):(results fn a).run Tryz.prog w=.ok (dU q) w:=by
 have b:a[p]?.getD undef=iP (X ⟨g,0,O⟩):=by simpa using e
 have d:=lx (P:=Tryz.prog) w g 26 26 _ _ _ c Tryz.underlying26 rfl Gy;simp[results,h,b,asAddr,d,dU]
section
variable{q:Ak}
theorem bH.frz(h:bH W g q)(k:Nat):W.frozen? ⟨g,k,O⟩=iF:=aL _ _ k _ _ h
theorem bH.set0(h:bH W g q)(x:Int):bH (W.setCell ⟨g,0,O⟩ (I J x)) g ⟨x,q.vol,q.sector,q.of,q.text⟩:=bC _ _ 0 _ _ _ h
theorem bH.set1(h:bH W g q)(x:Int):bH (W.setCell ⟨g,1,O⟩ (I J x)) g ⟨q.kind,x,q.sector,q.of,q.text⟩:=bC _ _ 1 _ _ _ h
theorem bH.set2(h:bH W g q)(x:Int):bH (W.setCell ⟨g,2,O⟩ (I J x)) g ⟨q.kind,q.vol,x,q.of,q.text⟩:=bC _ _ 2 _ _ _ h
theorem bH.set3(h:bH W g q)(x:Int):bH (W.setCell ⟨g,3,O⟩ (I J x)) g ⟨q.kind,q.vol,q.sector,x,q.text⟩:=bC _ _ 3 _ _ _ h
theorem bH.set4(h:bH W g q)(x:ByteArray):bH (W.setCell ⟨g,4,O⟩ (iT x)) g ⟨q.kind,q.vol,q.sector,q.of,x⟩:=bC _ _ 4 _ _ _ h
end
def im(W:iW)(g:Nat)(q:Ak):iW:=((((W.setCell ⟨g,0,O⟩ (I J q.kind)).setCell ⟨g,1,O⟩ (I J q.vol)).setCell ⟨g,2,O⟩ (I J q.sector)).setCell ⟨g,3,O⟩ (I J q.of)).setCell ⟨g,4,O⟩ (iT q.text)
variable{n s t r:Int}{g p len cap k B:Nat}{ad:Option Addr}{w W W':iW}{a b c:iX}
theorem Cr{W:iW}{q0:Ak}(h:bH W g q0)(q:Ak):bH (im W g q) g q:=((((h.set0 q.kind).set1 q.vol).set2 q.sector).set3 q.of).set4 q.text
structure Nx (w W:iW) (g p:Nat) (ad:Option Addr) (len cap:Nat) (q:Ak) (a b c:iX) (n s t r:Int):Prop where
 dr:cR w W p ad len cap
 ask:bH W g q
 zer:bH W (w.heap.size+1) mB
 dev:aP W w.heap.size a b c n s t r
 gg:w.heap.size+1<g
 pl:p<w.heap.size
section
variable{q:Ak}
theorem Nx.draw(h:Nx w W g p ad len cap q a b c n s t r)(i:cR W W' p ad len cap):Nx w W' g p ad len cap q a b c n s t r:=by
 obtain⟨h1,d,f,h4,j,l⟩:=h;have k:∀y,w.heap.size<=y->y<W.heap.size->W'.heap[y]?=W.heap[y]?:=λy o m=>i.1.block y m (λe=>by cases e;omega)
 exact⟨h1.trans i,(k _ (by omega) d.lt).trans d,(k _ (by omega) f.lt).trans f,(k _ (by omega) h4.lt).trans h4,j,l⟩
theorem Nx.below(h:Nx w W g p ad len cap q a b c n s t r)(d:iL W.heap.size W W'):Nx w W' g p ad len cap q a b c n s t r:=by
 obtain⟨h1,f,i,h4,j,e⟩:=h;exact⟨h1.below (d.mono h1.1.size) e,f.below d,i.below d,h4.below d,j,e⟩
theorem Nx.set(h:Nx w W g p ad len cap q a b c n s t r){u:iX}{q':Ak}(j:bH (W.setCell ⟨g,k,O⟩ u) g q'):Nx w (W.setCell ⟨g,k,O⟩ u) g p ad len cap q' a b c n s t r:=by
 obtain⟨h1,l,e,h4,f,d⟩:=h;have i:iL w.heap.size W (W.setCell ⟨g,k,O⟩ u):=(ax _ _).setCell (p:=⟨g,k,O⟩) (by show _<=g;omega) _
 exact⟨h1.below i d,j,(aU _ _ _ _ (show w.heap.size+1≠g by omega)).trans e,(aU _ _ _ _ (show w.heap.size≠g by omega)).trans h4,f,d⟩
theorem Nx.fin(h:Nx w W g p ad len cap q a b c n s t r):bH (im W (w.heap.size+1) q) (w.heap.size+1) q/\cR w (im W (w.heap.size+1) q) p ad len cap:=by
 refine⟨Cr h.zer q,h.dr.below ?_ h.pl⟩;unfold im;exact(((((ax _ _).setCell (p:=⟨w.heap.size+1,0,O⟩) (by show _<=w.heap.size+1;omega) _).setCell (p:=⟨w.heap.size+1,1,O⟩) (by show _<=w.heap.size+1;omega) _).setCell (p:=⟨w.heap.size+1,2,O⟩) (by show _<=w.heap.size+1;omega) _).setCell (p:=⟨w.heap.size+1,3,O⟩) (by show _<=w.heap.size+1;omega) _).setCell (p:=⟨w.heap.size+1,4,O⟩) (by show _<=w.heap.size+1;omega) _
theorem Nx.cd(h:Nx w W g p ad len cap q a b c n s t r)(e:gQ w ad len B)(d:B<=p):gQ W ad len B:=h.dr.code e d h.pl
end
variable{B cap vc:Nat}{ad:Option Addr}
variable{d:Dv}
theorem cS.drawn{p:Nat}{v:iX}{w W:iW}{a:Nat}(h:cS B v d w)(b:cR w W p ad a cap)(f:p<B):cS B v d W:=h.keep (λy g c=>b.1.block y c (λe=>by cases e;omega)) b.1.size
variable{s:Sto}
theorem FW{W:iW}{b:Option Addr}{c:Nat}{kv:iX}{n:Int}(h:dO W (iA #[Y b c vc,kv,I J n]) s):gn W b c s.fV:=by
 obtain⟨j,l,k,d,g,a,i,e,m,-,-,-,-,f,-⟩:=h;unfold eC at e;injection e with e
 injection e with e
 simp only[iQ,Al]at e;obtain⟨⟨rfl,rfl,rfl⟩,-⟩:=e;exact f
def TQ(q:Ak):Prop:=ji q.text.data.toList/\q.vol<=3
theorem vD(x:iX)(d:Dv)(B0 p:Nat)(ad:Option Addr)(c cap B:Nat)(w:iW)(R:c<=1048576)(hc:jM w p ad c cap)(hd:gQ w ad c B)(u:B<=p)(ho:cS B0 x d w)(hf:d.Fit)(aD:p<B0)(au:∀v∈d.fS.fV,v.1<=3):
 iK Tryz.prog 27 #[iP (X ⟨p,0,O⟩),x] w λe w'=>∃q:Ak,e=G (dU q)/\TQ q/\cR w w' p ad c cap:=by
 have D:=hc.2.2.2.2.2;obtain⟨l,i,r,f,vc,b,m,a,rfl,h1,h2,h3⟩:=(ho.rd hf).form;have am:d.fS.fV.length=f:=(FW h3).1;have ai:ah (∀W,cR w W p ad c cap->gn W r f d.fS.fV):=λW hW=>by
  obtain⟨fv,vv,kv,e,-,-,h6⟩:=(ho.drawn hW aD).rd hf;injection e with e
  injection e with e
  simp only[iQ,jY]at e;obtain⟨-,rfl,rfl⟩:=e;exact FW h6
 have N:=af am;have aK:f<=1048576:=by rw[<-am];exact hf.2.1
 have M:=af hd;have av:ah (∀k:Nat,(d.fS.fV[k]?.getD (0,0)).1<=3):=λk=>by
  cases e:d.fS.fV[k]? with
  |none=>show(0:Int)<=3;decide
  |some v=>exact au v (aH e)
 clear au;have aj:=aO w (iC #[Y l d.fH.length i,Y r f vc,Y b m a,I J d.fS.next,I J d.seq,I J d.tx,I J d.base] 46);have ak:iL (w.alloc (iC #[Y l d.fH.length i,Y r f vc,Y b m a,I J d.fS.next,I J d.seq,I J d.tx,I J d.base] 46)).heap.size (w.alloc (iC #[Y l d.fH.length i,Y r f vc,Y b m a,I J d.fS.next,I J d.seq,I J d.tx,I J d.base] 46)) ((w.alloc (iC #[Y l d.fH.length i,Y r f vc,Y b m a,I J d.fS.next,I J d.seq,I J d.tx,I J d.base] 46)).alloc (iC #[I J 0,I J 0,I J 0,I J 0,iT ⟨#[]⟩] 26)):=aY;have P:iL ((w.alloc (iC #[Y l d.fH.length i,Y r f vc,Y b m a,I J d.fS.next,I J d.seq,I J d.tx,I J d.base] 46)).alloc (iC #[I J 0,I J 0,I J 0,I J 0,iT ⟨#[]⟩] 26)).heap.size ((w.alloc (iC #[Y l d.fH.length i,Y r f vc,Y b m a,I J d.fS.next,I J d.seq,I J d.tx,I J d.base] 46)).alloc (iC #[I J 0,I J 0,I J 0,I J 0,iT ⟨#[]⟩] 26)) (((w.alloc (iC #[Y l d.fH.length i,Y r f vc,Y b m a,I J d.fS.next,I J d.seq,I J d.tx,I J d.base] 46)).alloc (iC #[I J 0,I J 0,I J 0,I J 0,iT ⟨#[]⟩] 26)).alloc (iC #[I J 1,I J 1,I J 1,I J 1,I J 1,I J 1,I J 2,I J 3,I J 4,I J 5,I J 6] 3)):=aY;have s0:(w.alloc (iC #[Y l d.fH.length i,Y r f vc,Y b m a,I J d.fS.next,I J d.seq,I J d.tx,I J d.base] 46)).heap.size=w.heap.size+1:=by simp
 have s1:((w.alloc (iC #[Y l d.fH.length i,Y r f vc,Y b m a,I J d.fS.next,I J d.seq,I J d.tx,I J d.base] 46)).alloc (iC #[I J 0,I J 0,I J 0,I J 0,iT ⟨#[]⟩] 26)).heap.size=w.heap.size+1+1:=by simp
 have gA:aP (w.alloc (iC #[Y l d.fH.length i,Y r f vc,Y b m a,I J d.fS.next,I J d.seq,I J d.tx,I J d.base] 46)) w.heap.size (Y l d.fH.length i) (Y r f vc) (Y b m a) d.fS.next d.seq d.tx d.base:=az _ _;have zA:bH ((w.alloc (iC #[Y l d.fH.length i,Y r f vc,Y b m a,I J d.fS.next,I J d.seq,I J d.tx,I J d.base] 46)).alloc (iC #[I J 0,I J 0,I J 0,I J 0,iT ⟨#[]⟩] 26)) (w.heap.size+1) mB:=by
  rw[<-s0];exact az _ _
 have b2:=aj.trans (ak.mono aj.size);have C:=b2.trans (P.mono b2.size);have DR:=af ((cR.refl hc).below C D);have DG:=af ((gA.below ak).below P);have DZ:=af (zA.below P);have KI:ah (∀j,j< [(1:Int),1,1,1,1,1,2,3,4,5,6].length->(((w.alloc (iC #[Y l d.fH.length i,Y r f vc,Y b m a,I J d.fS.next,I J d.seq,I J d.tx,I J d.base] 46)).alloc (iC #[I J 0,I J 0,I J 0,I J 0,iT ⟨#[]⟩] 26)).alloc (iC #[I J 1,I J 1,I J 1,I J 1,I J 1,I J 1,I J 2,I J 3,I J 4,I J 5,I J 6] 3)).cell? ⟨w.heap.size+1+1,j,O⟩=X (I J ([(1:Int),1,1,1,1,1,2,3,4,5,6].getD j 0))):=by
  intro j hj;have hj:j<11:=hj;rw[<-s1];refine zM ((w.alloc (iC #[Y l d.fH.length i,Y r f vc,Y b m a,I J d.fS.next,I J d.seq,I J d.tx,I J d.base] 46)).alloc (iC #[I J 0,I J 0,I J 0,I J 0,iT ⟨#[]⟩] 26)) _ _ j _ ?_;have:j=0∨j=1∨j=2∨j=3∨j=4∨j=5∨j=6∨j=7∨j=8∨j=9∨j=10:=by omega
  rcases this with rfl|rfl|rfl|rfl|rfl|rfl|rfl|rfl|rfl|rfl|rfl<;>rfl
 clear h1 h2 h3 ho hf hc hd aj ak P s0 s1 gA zA b2 C am;go_enter Tryz.func27,Tryz.ntmps27;go_wp2_with fail;generalize(((w.alloc (iC #[Y l d.fH.length i,Y r f vc,Y b m a,I J d.fS.next,I J d.seq,I J d.tx,I J d.base] 46)).alloc (iC #[I J 0,I J 0,I J 0,I J 0,iT ⟨#[]⟩] 26)).alloc (iC #[I J 1,I J 1,I J 1,I J 1,I J 1,I J 1,I J 2,I J 3,I J 4,I J 5,I J 6] 3))=wa at DR DG DZ KI⊢;refine(Li (w.heap.size+1+1) [(1:Int),1,1,1,1,1,2,3,4,5,6] p ad c cap B wa (by decide) (by decide) (by omega) KI.o R DR.o.2 (DR.o.code M.o u D) u).mono ?_
 rintro e w1 ⟨k,rfl,d1⟩;have kk:∀(W W':iW),cR W W' p ad c cap->∀y,p≠y->y<W.heap.size->W'.heap[y]?=W.heap[y]?:=λW W' hd y y1 y2=>hd.1.block y y2 (λe=>by cases e;exact y1 rfl)
 have L:=af (DR.o.trans d1);have aa:ah (aP w1 w.heap.size (Y l d.fH.length i) (Y r f vc) (Y b m a) d.fS.next d.seq d.tx d.base):=(kk _ _ d1 _ (by omega) DG.o.lt).trans DG.o
 have ac:ah (bH w1 (w.heap.size+1) mB):=(kk _ _ d1 _ (by omega) DZ.o.lt).trans DZ.o
 clear d1 DR DG DZ KI;go_wp2_with fail;refine(lm 3 p ad c cap B w1 (by omega) R L.o.2 (L.o.code M.o u D) u).mono ?_
 rintro e w2 ⟨y,rfl,y0,y1,-,d2⟩;have y2:=y1 (by omega)
 have wy:IntKind.i64.wrap (1+y)=1+y:=by rw[cL];omega
 have ab:=L.o.trans d2;have ao:aP w2 w.heap.size (Y l d.fH.length i) (Y r f vc) (Y b m a) d.fS.next d.seq d.tx d.base:=(kk _ _ d2 _ (by omega) aa.o.lt).trans aa.o
 have ae:bH w2 (w.heap.size+1) mB:=(kk _ _ d2 _ (by omega) ac.o.lt).trans ac.o
 have C:=aO w2 (iC #[I J k,I J (1+y),I J 0,I J 0,iT ⟨#[]⟩] 26);have s:ah (Nx w (w2.alloc (iC #[I J k,I J (1+y),I J 0,I J 0,iT ⟨#[]⟩] 26)) w2.heap.size p ad c cap ⟨k,1+y,0,0,⟨#[]⟩⟩ (Y l d.fH.length i) (Y r f vc) (Y b m a) d.fS.next d.seq d.tx d.base):=
  ⟨ab.below (C.mono ab.1.size) D,az _ _,ae.below C,ao.below C,ae.lt,D⟩
 clear d2 L aa ac ab ao ae C kk y1;have yv:=s.o.dev.cells.2.1;go_upto_if 17 with fail
 clear yv;generalize w2.alloc (iC #[I J k,I J (1+y),I J 0,I J 0,iT ⟨#[]⟩] 26)=w3 at s⊢;obtain⟨g,hg⟩:=an w2.heap.size;rw[hg]at s;try rw[hg]
 clear hg;have t:ah (TQ ⟨k,1+y,0,0,⟨#[]⟩⟩):=⟨Zo,by show 1+y<=3;omega⟩
 obtain⟨q,hq⟩:=an (⟨k,1+y,0,0,⟨#[]⟩⟩:Ak);rw[hq]at s t;clear hq wy y0 y2;go_cut [] (λV=>∃q:Ak,ah (TQ q)/\ah (Nx w V g p ad c cap q (Y l d.fH.length i) (Y r f vc) (Y b m a) d.fS.next d.seq d.tx d.base))
 case first=>
  obtain⟨m0,m1,m2,m3,m4⟩:=s.o.ask.cells;by_cases E:f=0
  ·have aI:((f:Int)==0)=iV:=by simp[E]
   have NV:=af (s.o.set (s.o.ask.set0 3));have f0:=s.o.ask.frz 0;clear E;go_wp2_with fail;go_meet
   case rel=>exact⟨⟨3,q.vol,q.sector,q.of,q.text⟩,t,NV⟩
  ·have aI:((f:Int)==0)=iF:=by rw[dZ];omega
   have aG:0<f:=by omega
   clear E;by_cases k3:(q.kind !=3)=iV
   ·by_cases k4:(q.kind !=4)=iV
    ·go_wp2_with fail;refine(Bp 8 p ad c cap B w3 (by omega) R s.o.dr.2 (s.o.cd M.o u) u).mono ?_
     rintro e x3 ⟨C,rfl,U⟩;have K:=af (s.o.draw U);clear U m0 m1 m2 m3 m4;cases C with
     |true=>
      go_wp2_with fail;go_meet
      case rel=>exact⟨_,t,K⟩
     |false=>
      obtain⟨vb,T,al,-⟩:=(ai.o _ K.o.dr).at (ay (show 0<d.fS.fV.length by have:=N.o;omega))
      subst al;have KK:ah (∀W q,Nx w W g p ad c cap q (Y l d.fH.length i) (Y (X ⟨vb,T,O⟩) f vc) (Y b m a) d.fS.next d.seq d.tx d.base->W.cell? ⟨w.heap.size,1,O⟩=X (Y (X ⟨vb,T,O⟩) f vc)/\∀j:Nat,j<f->W.cell? ⟨vb,T+j*2,O⟩=X (I J (d.fS.fV[j]?.getD (0,0)).1)):=λW q H=>by
       refine⟨H.dev.cells.2.1,λj hj=>?_⟩
       have aq:j<d.fS.fV.length:=by rw[N.o];exact hj
       obtain⟨b',o',e,-,qq,-⟩:=(ai.o _ H.dr).at (ay aq);injection e with e
       injection e with e1 e2
       subst e1 e2;rw[ay aq];exact qq
      have CB:ah (∀W,Nx w W g p ad c cap q (Y l d.fH.length i) (Y (X ⟨vb,T,O⟩) f vc) (Y b m a) d.fS.next d.seq d.tx d.base->iK Tryz.prog 25 #[iP (X ⟨p,0,O⟩),I J (f:Int)] W λe w'=>∃k:Nat,e=G (I J (k:Int))/\k<f/\ah (Nx w w' g p ad c cap q (Y l d.fH.length i) (Y (X ⟨vb,T,O⟩) f vc) (Y b m a) d.fS.next d.seq d.tx d.base)):=λW H=>by
       refine(lm (f:Int) p ad c cap B W (by omega) R H.dr.2 (H.cd M.o u) u).mono ?_
       rintro e w' ⟨x,rfl,x0,x1,-,hS⟩;exact⟨x.toNat,by rw[Int.toNat_of_nonneg x0],by have:=x1 (by omega);omega,H.draw hS⟩
      have ap:ah (Nx w x3.drew g p ad c cap q (Y l d.fH.length i) (Y (X ⟨vb,T,O⟩) f vc) (Y b m a) d.fS.next d.seq d.tx d.base):=K.o.below (ax _ _).drew;go_upto_region 5 with fail
      go_region_held3 (λw'=>w'.cell? ⟨w.heap.size,1,O⟩=X (Y (X ⟨vb,T,O⟩) f vc)/\∀j:Nat,j<f->w'.cell? ⟨vb,T+j*2,O⟩=X (I J (d.fS.fV[j]?.getD (0,0)).1)) (first|exact KK.o _ _ ap.o|exact KK.o _ _ S4.o|exact KK.o _ _ NV.o) (first
       |(go_at_call 25;(with_reducible refine dq (CB.o _ ap.o) ?_);rintro en x4 ⟨k3,rfl,aC,S4⟩;have NV:=af (S4.o.set (S4.o.ask.set1 (d.fS.fV[k3]?.getD (0,0)).1));have kc:=S4.o.ask.cells.2.1;have kf:=S4.o.ask.frz 1;have kb:=(KK.o _ _ S4.o).2 k3 aC;have ki:(k3:Int)<f:=by omega))
      all_goals
       go_wp2_with fail;go_meet
       case rel=>exact⟨⟨q.kind,(d.fS.fV[k3]?.getD (0,0)).1,q.sector,q.of,q.text⟩,⟨t.o.1,av.o k3⟩,NV⟩
    ·have k4:(q.kind !=4)=iF:=by simpa using k4
     go_wp2_with fail;go_meet
     case rel=>exact⟨_,t,s⟩
   ·have k3:(q.kind !=3)=iF:=by simpa using k3
    go_wp2_with fail;go_meet
    case rel=>exact⟨_,t,s⟩
 case rest=>
  obtain⟨V,hV⟩:∃V,V=wc:=⟨_,rfl⟩;subst hV;clear s t q;obtain⟨q,t,s⟩:=hcut;go_upto_region 6 with fail
  go_cut [52] (λaJ V=>∃(bb:Bool) (q:Ak),aJ=iB bb/\ah (TQ q)/\ah (Nx w V g p ad c cap q (Y l d.fH.length i) (Y r f vc) (Y b m a) d.fS.next d.seq d.tx d.base))
  case first=>
   obtain⟨m0,m1,m2,m3,m4⟩:=s.o.ask.cells;by_cases k5:(q.kind==5)=iV
   ·go_wp2_with fail;refine(Bp 3 p ad c cap B V (by omega) R s.o.dr.2 (s.o.cd M.o u) u).mono ?_
    rintro e x3 ⟨C,rfl,U⟩;have K:=af (s.o.draw U);clear U;go_wp2_with fail;go_meet
    case rel=>exact⟨!C,q,rfl,t,K⟩
   ·have k5:(q.kind==5)=iF:=by simpa using k5
    go_wp2_with fail;go_meet
    case rel=>exact⟨iF,q,rfl,t,s⟩
  case rest=>
   obtain⟨bb,q2,ar,ag,N4⟩:=hcut;subst ar;obtain⟨V2,aw⟩:∃V2,V2=wc:=⟨_,rfl⟩;subst aw;clear s t;go_upto_if 52 with fail
   go_cut [] (λV=>∃q:Ak,ah (TQ q)/\ah (Nx w V g p ad c cap q (Y l d.fH.length i) (Y r f vc) (Y b m a) d.fS.next d.seq d.tx d.base))
   case first=>
    cases bb with
    |false=>
     go_wp2_with fail;go_meet
     case rel=>exact⟨q2,ag,N4⟩
    |true=>
     have NV:=af (N4.o.set (N4.o.ask.set0 1));have m0:=N4.o.ask.cells.1;have f0:=N4.o.ask.frz 0;go_wp2_with fail;go_meet
     case rel=>exact⟨⟨1,q2.vol,q2.sector,q2.of,q2.text⟩,ag,NV⟩
   case rest=>
    obtain⟨V3,aA⟩:∃V3,V3=wc:=⟨_,rfl⟩;subst aA;clear N4 ag q2 q;obtain⟨q,t,n⟩:=hcut;have m0:=n.o.ask.cells.1;go_upto_block 0 with fail
    clear m0;go_cut [] (λV=>∃q:Ak,ah (TQ q)/\ah (Nx w V g p ad c cap q (Y l d.fH.length i) (Y r f vc) (Y b m a) d.fS.next d.seq d.tx d.base))
    case first=>
     by_cases c1:(q.kind==1)=iV
     ·go_wp2_with fail;refine(Rt p ad c cap B V3 R n.o.dr.2 (n.o.cd M.o u) u).mono ?_;rintro e x3 ⟨tx,rfl,aE,U⟩;have K:=af (n.o.draw U);have N6:=af (K.o.set (K.o.ask.set4 tx));have m4:=K.o.ask.cells.2.2.2.2;have f4:=K.o.ask.frz 4;clear U n;go_upto_region 11 with fail
      clear m4 f4;generalize x3.setCell ⟨g,4,O⟩ (iT tx)=x4 at N6⊢;go_wp2_with fail;refine(lm 16 p ad c cap B x4 (by omega) R N6.o.dr.2 (N6.o.cd M.o u) u).mono ?_
      rintro e x9 ⟨F,rfl,z0,z1,-,d9⟩;have z2:=z1 (by omega)
      have z:=af (N6.o.draw d9);have A:=af (z.o.set (z.o.ask.set2 F));have m2:=z.o.ask.cells.2.2.1;have f2:=z.o.ask.frz 2;go_wp2_with fail;go_meet
      case rel=>exact⟨⟨q.kind,q.vol,F,q.of,tx⟩,⟨bF.2 ⟨tx,aE.o,rfl⟩,t.o.2⟩,A⟩
     have c1:(q.kind==1)=iF:=by simpa using c1
     by_cases Q:(q.kind==2)=iV∨(q.kind==2)=iF/\(q.kind==6)=iV
     ·rcases Q with c2|⟨c2,c6⟩
      all_goals
       go_wp2_with fail;refine(lm 16 p ad c cap B V3 (by omega) R n.o.dr.2 (n.o.cd M.o u) u).mono ?_
       rintro e x9 ⟨F,rfl,z0,z1,-,d9⟩;have z2:=z1 (by omega)
       have z:=af (n.o.draw d9);have A:=af (z.o.set (z.o.ask.set2 F));have m2:=z.o.ask.cells.2.2.1;have f2:=z.o.ask.frz 2;go_wp2_with fail;go_meet
       case rel=>exact⟨⟨q.kind,q.vol,F,q.of,q.text⟩,t,A⟩
     have c2:(q.kind==2)=iF:=by
      cases h:(q.kind==2)with
      |true=>exact absurd (.inl h) Q
      |false=>rfl
     have c6:(q.kind==6)=iF:=by
      cases h:(q.kind==6)with
      |true=>exact absurd (.inr ⟨c2,h⟩) Q
      |false=>rfl
     clear Q;by_cases c4:(q.kind==4)=iV
     ·go_wp2_with fail;refine(lm 3 p ad c cap B V3 (by omega) R n.o.dr.2 (n.o.cd M.o u) u).mono ?_
      rintro e x9 ⟨F,rfl,z0,z1,-,d9⟩;have z2:=z1 (by omega)
      have z:=af (n.o.draw d9);have wz:IntKind.i64.wrap (1+F)=1+F:=by rw[cL];omega
      have A:=af (z.o.set (z.o.ask.set3 (1+F)));have m3:=z.o.ask.cells.2.2.2.1;have f3:=z.o.ask.frz 3;clear d9 n;go_upto_region 17 with fail
      clear m3 f3 z wz;generalize x9.setCell ⟨g,3,O⟩ (I J (1+F))=aL at A⊢;have yv:=A.o.dev.cells.2.1;by_cases E:(f:Int)>0
      ·obtain⟨vb,T,al,-,kb,-⟩:=(ai.o _ A.o.dr).at (ay (show 0<d.fS.fV.length by have:=N.o;omega))
       subst al;obtain⟨S,Z⟩:∃S,(d.fS.fV[0]'(by have:=N.o;omega)).1=S:=⟨_,rfl⟩
       rw[Z,lq,oh]at kb;have aG:(0:Int)<f:=E;have N8:=af (A.o.set (A.o.ask.set3 S));have m3:=A.o.ask.cells.2.2.2.1;have f3:=A.o.ask.frz 3;clear Z;go_wp2_with fail;go_meet
       case rel=>exact⟨⟨q.kind,q.vol,q.sector,S,q.text⟩,t,N8⟩
      ·go_wp2_with fail;go_meet
       case rel=>exact⟨⟨q.kind,q.vol,q.sector,1+F,q.text⟩,t,A⟩
     have c4:(q.kind==4)=iF:=by simpa using c4
     go_wp2_with fail;go_meet
     case rel=>exact⟨_,t,n⟩
    case rest=>
     obtain⟨V4,aB⟩:∃V4,V4=wc:=⟨_,rfl⟩;subst aB;clear n t;obtain⟨q2,t,n⟩:=hcut;obtain⟨m0,m1,m2,m3,m4⟩:=n.o.ask.cells;obtain⟨j0,j1,j2,j3,j4⟩:=n.o.zer.cells;have r0:=n.o.zer.frz 0;have r1:=n.o.zer.frz 1;have r2:=n.o.zer.frz 2;have r3:=n.o.zer.frz 3;have r4:=n.o.zer.frz 4;have FE:=af (n.o.fin);unfold im at FE;clear n;go_wp2;refine aF (Ka (p:=4) rfl _ _ (w.heap.size+1) _ rfl FE.o.1) rfl ?_;exact⟨_,rfl,t.o,FE.o.2⟩
end Go.Proofs.YtijmbohadndfmaaGreatDoor
