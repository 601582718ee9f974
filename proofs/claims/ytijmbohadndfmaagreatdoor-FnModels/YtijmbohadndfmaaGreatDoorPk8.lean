/-
  SRoots; VlApp; StApp; LastOp; KnCp
-/
import Derived.Test.YtijmbohadndfmaaGreatDoorPk7
import Derived.Maps.AppendAt
import Derived.Deep.DeepCutAuto
open Go.Value renaming int→I,slice→Y,bool→iB,agg→iA
open Go.IntKind renaming i64→J
open Option renaming none→O,some→X
open Go.Ending renaming returned→G
open Go.Obj renaming cells→iC
open Bool renaming true→iV,false→iF
open Go renaming World→iW,Value→iX,Calls→iK
open Go.RowKit renaming Below→iL
set_option maxHeartbeats 2000000
set_option maxRecDepth 100000
namespace Go.Proofs.YtijmbohadndfmaaGreatDoor
open Go.RowKit Words
theorem uY:(Tryz.prog.info? 44).map (·.size)=X 3:=by kernel_rfl
abbrev eC(b:Option Addr)(c vc:Nat)(ad:Option Addr)(a cap:Nat)(nx:Int):Array iX:= #[Y b c vc,Y ad a cap,I J nx]
theorem Kk(w:iW)(a b c:iX):(w.alloc (iC #[a,b,c] 44)).cell? ⟨w.heap.size,0,O⟩=X a/\(w.alloc (iC #[a,b,c] 44)).cell? ⟨w.heap.size,1,O⟩=X b/\(w.alloc (iC #[a,b,c] 44)).cell? ⟨w.heap.size,2,O⟩=X c:=by
 have h:=az w (iC #[a,b,c] 44);exact⟨am _ _ 0 _ _ _ h,am _ _ 1 _ _ _ h,am _ _ 2 _ _ _ h⟩
variable{a:Act}{K:Act -> World -> Prop}{listed:Array Bool}{ops:Array Oper}{v:Int × Int}{vs:List (Int × Int)}{rest:List Oper}{k lo i fuel B g j:Nat}{oi:Oper}{P:Program}{E:Prop}
theorem WS(h:vs[k]?=X v):cC (vs.take k)++[v.2]=cC (vs.take (k+1)):=by
 obtain⟨h1,a⟩:=aD.1 h;rw[ge h1,a];simp[cC]
theorem Fo(j:Option Addr)(c vc:Nat)(ad:Option Addr)(a cap:Nat)(nx:Int)(vs:List (Int×Int))(w:iW)(hl:c<=1048578)(h:gn w j c vs):
 iK Tryz.prog 105 #[iA (eC j c vc ad a cap nx)] w (pJ w (cC vs)):=by
 obtain⟨i0,hi,s,t,u⟩:=bK nG;have T:=af hi;have U:=af s;have V:=af t;have Z:=af u;clear hi s t u;have A:=af (Kk w (Y j c vc) (Y ad a cap) (I J nx)).1;have m:=af (aO w (iC #[Y j c vc,Y ad a cap,I J nx] 44));have H:=af (h.below m.o);have g:=af h.1;have D:=af (show w.heap.size<(w.alloc (iC #[Y j c vc,Y ad a cap,I J nx] 44)).heap.size by simp)
 have C:=af (show(w.alloc (iC #[Y j c vc,Y ad a cap,I J nx] 44)).heap.size=w.heap.size+1 by simp)
 clear h;unfold eC;go_enter Tryz.func105,Tryz.ntmps105;go_wp2_with fail;generalize w.alloc (iC #[Y j c vc,Y ad a cap,I J nx] 44)=wb at A m H D C⊢;have L:ah ((wb.alloc (iC #[] 3)).ownsRow wb.heap.size 3 1 (Y (X ⟨wb.heap.size,0,O⟩) 0 0) ([]:List Int).length (aE [])):=nE wb #[] 0 (ak _) (by unfold maxLen;omega) (by simp)
 have BA:=af (aO wb (iC #[] 3));generalize wb.alloc (iC #[] 3)=wa at L BA⊢;obtain⟨z,F⟩:=an w.heap.size;rw[F]at A D C⊢;have S:=af F;clear F;go_loopw [3,4] (λov kv W=>∃(k:Nat) (l:List Int),k<=c/\kv=I J k/\l.length<=k/\ah (l=cC (vs.take k))/\ah (W.ownsRow wb.heap.size 3 1 ov l.length (aE l)/\iL wb.heap.size wb W)) (λ_ kv _=>c-(intOf kv).toNat)
 case atStart=>exact⟨0,[],aI _,rfl,aI _,by show _=_;simp[cC],by rw[<-C.o];exact L.o,BA.o⟩
 case round=>
  obtain⟨k,l,hk,rfl,aa,B,d⟩:=hrel;have bx:=(d.o.2.cell (show z<wb.heap.size from D.o)).trans A.o;by_cases ab:(k:Int)<c
  ·have hw:=d.o.2.size;have x:=ay (show k<vs.length by have:=g.o;omega)
   generalize vs[k]'(by have:=g.o;omega)=v at x
   obtain⟨b,ac,e,hb,c0,c1⟩:=(H.o.below d.o.2).at x;subst e;have f:ah (l++[v.2]=cC (vs.take (k+1))):=by
    show _=_;rw[B.o,WS x]
   have k0:(0:Int)<=k:=by omega
   clear x;generalize v.2=y at c1 f;have N:=af d.o.1;have K:=af d.o.2;clear d B;have n:=af (aO wr (iC #[I J y] 3));have i:=af (bu N.o n.o);go_wp2_with (at_builtin;refine cN _ rfl _ _ 72 rfl wb.heap.size 3 i0 (I J 0) 1 8 Tryz.underlying72 T.o U.o V.o Z.o rfl (by decide) _ _ _ rfl i.o ⟨wr.heap.size,0,O⟩ 1 1 [I J y] rfl rfl (nw _ _ _) (vg _) ?c1 ?c2 ?c3 ?_)
   case c1=>unfold maxLen;omega
   case c2=>omega
   case c3=>have:=n.o.size;omega
   intro u' G E P _;rw[tA]at E;have r:G.ownsRow wb.heap.size 3 1 u' (l++[y]).length (aE (l++[y])):=by rw[aT];exact E
   have M:ah (G.ownsRow wb.heap.size 3 1 u' (l++[y]).length (aE (l++[y]))/\iL wb.heap.size wb G):=⟨r,(K.o.trans (n.o.mono hw)).grown P (by have:=n.o.size;omega) (λq hq=>(i.o.lt q hq).1)⟩
   have p:(l++[y]).length<=k+1:=by simp;omega
   generalize l++[y]=l2 at f M p;clear E r P i N n K;go_wp2;go_roundw
   case rel=>exact⟨k+1,l2,by omega,by go_num,p,f,M⟩
   case measure=>simp[intOf];omega
  ·have Q:ah (l=cC vs):=by
    show _=_;rw[B.o,cm (by have:=g.o;omega)]
   have R:ah (iL w.heap.size w wr):=m.o.trans (d.o.2.mono m.o.size);go_wp2;go_ret;refine⟨_,rfl,?_,R.o⟩;rw[<-Q.o];exact nO d.o.1 m.o.size
def iI:Option Nat->Int
 |some k=>k
 |none=> -1
theorem rJ(i:Option Addr)(c vc:Nat)(ad:Option Addr)(a cap:Nat)(nx:Int)(vs:List (Int×Int))(id:Int)(w:iW)(D:c<=1048578)(h:gn w i c vs):
 iK Tryz.prog 55 #[iA (eC i c vc ad a cap nx),I J id] w λe w'=>e=G (I J (iI (bY vs id)))/\iL w.heap.size w w':=by
 have p:=af (Kk w (Y i c vc) (Y ad a cap) (I J nx)).1;have m:=af (aO w (iC #[Y i c vc,Y ad a cap,I J nx] 44));have H:=af (h.below m.o);have d:=af h.1;have s:=af (show w.heap.size<(w.alloc (iC #[Y i c vc,Y ad a cap,I J nx] 44)).heap.size by simp)
 clear h;unfold eC;go_enter Tryz.func55,Tryz.ntmps55;go_wp2_with fail;generalize w.alloc (iC #[Y i c vc,Y ad a cap,I J nx] 44)=wb at p m H s⊢;obtain⟨z,t⟩:=an w.heap.size;rw[t]at p s⊢;have f:=af t;clear t;go_loopw [5] (λkv W=>∃k:Nat,k<=c/\kv=I J k/\ah (iM vs id k=O)/\ah (iL wb.heap.size wb W)) (λkv _=>c-(intOf kv).toNat)
 case atStart=>exact⟨0,aI _,rfl,(rfl:iM vs id 0=O),ax _ _⟩
 case round=>
  obtain⟨k,C,rfl,r,n⟩:=hrel;have y:=(n.o.cell (show z<wb.heap.size from s.o)).trans p.o;have q:ah (iL w.heap.size w wr):=m.o.trans (n.o.mono m.o.size);rw[f.o]at q;by_cases u:(k:Int)<c
  ·have g:=ay (show k<vs.length by have:=d.o;omega)
   generalize vs[k]'(by have:=d.o;omega)=v at g
   obtain⟨b,x,e,B,A,c1⟩:=(H.o.below n.o).at g;subst e;have E:(0:Int)<=k:=by omega
   by_cases l:(v.1==id)=iV
   ·have j:ah (bY vs id=X k):=Yk r.o g (by simpa using l) _ (by have:=d.o;omega)
    clear g;go_wp2;go_ret;exact⟨by rw[j.o];rfl,by rw[f.o];exact q.o⟩
   ·have j:ah (iM vs id (k+1)=O):=Of r.o g (by simpa using l)
    clear g;go_wp2;go_roundw
    case rel=>exact⟨k+1,by omega,by go_num,j,n⟩
    case measure=>simp[intOf];omega
  ·have j:ah (bY vs id=O):=by
    have e:k=vs.length:=by have:=d.o;omega
    have:=r.o;rw[e]at this;exact this
   go_wp2;go_ret;exact⟨by rw[j.o];rfl,by rw[f.o];exact q.o⟩
def qk(W:iW)(v:iX)(ls:List (Int×Int)):Prop:=∃a c,v=Y a ls.length c/\(a=O->c=0)/\gn W a ls.length ls
theorem qk.of{hi:Nat}{v:iX}{ls:List (Int×Int)}{W:iW}(h:aB 68 lo hi v ls.length (cn ls) W)(b:ls.length<=maxLen)(k:hi<=W.heap.size):qk W v ls:=by
 rcases h with⟨rfl,h0⟩|⟨g,cap,rfl,h1,f,c⟩
 ·exact⟨O,0,by rw[h0],λ_=>rfl,rfl,b,by simp,λh=>by omega⟩
 ·refine⟨_,_,rfl,(λe=>by cases e),rfl,b,by simp,λ_=>⟨g,0,rfl,by omega,λi t hi=>?_⟩⟩
  have a:=λj v d=>c.cell (uE ls i t hi j v d)
  refine⟨?_,?_⟩
  ·simpa using a 0 _ rfl
  ·simpa using a 1 _ rfl
theorem Il(b a j:Nat):(⟨b,a,O⟩:Addr).add j=⟨b,a+j,O⟩:=by
 simp only[Addr.add];split<;>simp_all
theorem Rp(w:iW):(w.alloc (iC #[] 68)).ownsRow w.heap.size 68 2 (Y (X ⟨w.heap.size,0,O⟩) 0 0) 0 (cn []):=
 ⟨rfl,.inr ⟨w.heap.size,0,#[],rfl,ak _,az w _,ak _,by unfold maxLen;omega,rfl,rfl⟩⟩
theorem PQ(M:List (Int×Int))(i:Nat)(v:iX)(h:(cn M)[i]?=X v):∃x,M[i/2]?=X x/\(nR x)[i % 2]?=X v:=by
 have c:=(aD.1 h).1;rw[Ll]at c;obtain⟨x,b⟩:∃x,M[i/2]?=X x:=⟨_,ay (by omega)⟩
 obtain⟨u,a⟩:∃u,(nR x)[i % 2]?=X u:=⟨_,ay (by show i % 2<2;omega)⟩
 have:=uE M (i/2) x b (i % 2) u a;rw[show i/2*2+i % 2=i by omega,h]at this
 cases this;exact⟨x,b,a⟩
theorem gn.cells{w:iW}{b c d:Nat}{ls:List (Int×Int)}(h:gn w (X ⟨b,c,O⟩) d ls)(j:Nat)(u:iX)(k:(cn ls)[j]?=X u):w.cell? ⟨b,c+j,O⟩=X u:=by
 obtain⟨x,l,a⟩:=PQ ls j u k;obtain⟨n,g,e,-,i,c1⟩:=h.at l;injection e with e
 injection e with e1 e2
 subst e1;subst e2;have f:j=j/2*2+j % 2:=by omega
 have h4:j % 2<2:=by omega
 generalize j % 2=m at f h4 a;rw[f,<-kH]
 match m,h4,a with
 |0,_,a=>simp only[nR]at a;simp at a;subst a;simpa using i
 |1,_,a=>simp only[nR]at a;simp at a;subst a;exact c1
theorem kT (w:World) {o:Oper} {Q:Exit->Act->World->Prop} (A:o.guard=none) (s x:Operand) (t:TypeId)
 (H:o.op=.call {callee:=.builtin .append,args:= #[s,x],argTypes:= #[t,t]})
 (base:Nat) (e:TypeId) (i:TypeInfo) (z:Value) (size d:Nat) (J:P.underlying t=some (.slice e)) (hi:P.info? e=some i) (N:i.zero=some z)
 (l:i.size=size) (y:i.bytes=d) (C:z.cells.size=size) (B:0<size)
 (v:Value) (n:Nat) (xs:List Value) (hs:a.eval s=v) (p:w.ownsRow base e size v n xs)
 (ad:Addr) (m c:Nat) (b:List Value) (M:a.eval x=.slice (some ad) m c) (G:b.length=m*size) (k:∀j u,b[j]?=some u->w.cell? (ad.add j)=some u) (h1:∀u∈b,u.oneCell'=true)
 (r:n+m<=maxLen) (f:(n+m)*d<=140737488355328) (g:base<=w.heap.size)
 (h:∀q w',w'.ownsRow base e size q (n+m) (xs++b)->w.grownBy w' v.ownBlock->K (a.put o.dst q) w'):
 if Region.wanted o (yielded ops a.tmps)=true then Oper.wp P o a w K Q else E:=by
 have L:Region.wanted o (yielded ops a.tmps)=true:=by simp[Region.wanted,A]
 rw[aj L];obtain⟨q,w',I,D,F,_,_⟩:=run_append_own_at (P:=P) w base t o.type e i z size d J hi N l y C B v n xs p ad m c b G k h1 r f g;unfold Oper.wp execOp;simp only[H,resolve,invoke,builtin,tI,uQ,uy,vz,cD,nZ,hs,M,I];exact h q w' D F
open Go
def t7(ops:Array Oper)(o:Oper):Bool:=
 ((List.range ops.size).all λi=>o.after.any λe=>Region.binds .any e&&e.on==i)&&
 ((List.range ops.size).all λj=>match ops[j]? with
   |some a=>(a.after.all λe=> !Region.binds .any e||decide (e.on<j))&&(match a.guard with|none=>iV|some (k,_)=>decide (k<ops.size))
   |none=>iV)&&
 (o.after.all λe=> !Region.binds .any e||decide (e.on<ops.size))&&
 o.guard.isNone
def mX(P:Program)(o:Oper)(Q:Exit->Act->iW->Prop):Exit->Act->iW->Prop
 | .normal,a,w=>wpList P #[] Q [o] a w
 |e,a,w=>Q e a w
theorem LetsOut.last{o:Oper}{Q:Exit->Act->iW->Prop}(h:LetsOut (mX P o Q)):LetsOut Q:=by
 obtain⟨a,w,h⟩:=h;exact⟨a,w,h⟩
theorem Ie{o:Oper}{Q:Exit->Act->iW->Prop}{K:Act->iW->Prop}{r:Result Next}(h:oi.upon P a K (mX P o Q) r):oi.upon P a K Q r:=by
 cases r with
 |ok n w'=>
  cases n<;>simp only[Oper.upon]at h⊢<;>
   first
    |exact h
    |exact dq h (λe c b=>by
     cases e
     ·exact b
     ·exact b
     ·exact LetsOut.last b)
 |halt x w'=>cases x<;>simp only[Oper.upon]at h⊢<;>exact h
theorem YA{o:Oper}(h:t7 ops o=iV):(∀i,i<ops.size->∃e∈o.after,Region.binds .any e=iV/\e.on=i)/\(∀j d,ops[j]?=X d->(∀e∈d.after,Region.binds .any e=iV->e.on<j)/\∀k b,d.guard=X (k,b)->k<ops.size)/\o.guard=O/\∀e∈o.after,Region.binds .any e=iV->e.on<ops.size:=by
 unfold t7 at h;simp only[bt,gy,ju,Array.any_eq_true',tJ,ky]at h;obtain⟨⟨⟨h1,l⟩,h4⟩,m⟩:=h;refine⟨λi hi=>?_,λj d g=>?_,m,λe c a=>?_⟩
 ·obtain⟨e,c,a,p⟩:=h1 i hi;exact⟨e,c,a,p⟩
 ·have f:=(aJ.1 g).1;have:=l j f;rw[g]at this;simp only[bt,xJ,jd,lC,bW]at this;refine⟨λe c a=>?_,λk b n=>?_⟩
  ·rcases this.1 e c with q|q
   ·rw[a]at q;cases q
   ·exact q
  ·have q:=this.2;rw[n]at q
   simpa using q
 ·have:=xJ.1 h4 e c;simp only[jd,lC,bW]at this;rcases this with q|q
  ·rw[a]at q;cases q
  ·exact q
theorem wF(hs:listed.size=ops.size)(h:∀j c,ops[j]?=X c->∀e∈c.after,Region.binds .any e=iV->e.on<j)(g:Region.ready .any ops listed=[]):∀i,i<ops.size->listed.getD i iF=iV:=by
 intro i
 induction i using Nat.strongRecOn with
 |ind i ih=>
  intro hi;cases a:listed.getD i iF with
  |true=>rfl
  |false=>
   have b:i∈Region.ready .any ops listed:=by
    rw[kW];refine⟨?_,ops[i],mp hi,λe f d=>?_⟩
    ·have hi2:i<listed.size:=by omega
     simp[hi2]at a⊢;exact a
    ·have:=h i _ (mp hi) e f d;exact ih e.on this (by omega)
   rw[g]at b;cases b
theorem qt{d:Bool}(h:i<listed.size):(listed.push iF).getD i d=listed.getD i d:=by
 simp[Array.getElem?_push,h,Nat.ne_of_lt h]
theorem oz:(listed.push iF).getD i iF=listed.getD i iF:=by
 by_cases h:i<listed.size
 ·exact qt h
 ·by_cases e:i=listed.size
  ·subst e;simp
  ·simp[Array.getElem?_push,e]
theorem Yw{o:Oper}{Q:Exit->Act->iW->Prop}(h:t7 ops o=iV):∀(fuel:Nat) (listed:Array Bool) (a:Act) (w:iW),listed.size=ops.size->
 wpAny P .any ops (mX P o Q) fuel listed a w->wpAny P .any (ops.push o) Q (fuel+1) (listed.push iF) a w:=by
 obtain⟨h1,E,L,h4⟩:=YA h;have M:∀(listed:Array Bool) (j:Nat),listed.size=ops.size->j∈Region.ready .any (ops.push o) (listed.push iF)->(j<ops.size/\j∈Region.ready .any ops listed)∨(j=ops.size/\∀i,i<ops.size->listed.getD i iF=iV):=by
  intro listed j hs f;rw[kW]at f;obtain⟨m,l,n,D⟩:=f;by_cases d:j<ops.size
  ·left;rw[pU d]at n;rw[qt (by omega)]at m
   refine⟨d,kW.2 ⟨m,l,by rw[mp d];exact n,λe u s=>?_⟩⟩
   have:=D e u s
   rwa [oz]at this
  ·right;have F:j<(ops.push o).size:=(aJ.1 n).1;simp only[yh]at F;have e:j=ops.size:=by omega
   subst e;simp only[yb,fu]at n;subst n;refine⟨rfl,λi hi=>?_⟩
   obtain⟨e,u,s,S⟩:=h1 i hi;have:=D e u s;rw[oz,S]at this;exact this
 have B:∀(listed:Array Bool),listed.size=ops.size->(∀i,i<ops.size->listed.getD i iF=iV)->Region.ready .any ops listed=[]:=by
  intro listed hs g;rw[vG];intro j f;rw[kW]at f;obtain⟨m,l,n,-⟩:=f;have d:=(aJ.1 n).1;have:=g j d;have v:j<listed.size:=by omega
  simp[v]at m this;rw[m]at this;cases this
 have p:∀(fuel:Nat) (listed:Array Bool) (a:Act) (w:iW),listed.size=ops.size->(∀i,i<ops.size->listed.getD i iF=iV)->wpList P #[] Q [o] a w->wpOp P (ops.push o) Q ops.size (wpAny P .any (ops.push o) Q fuel ((listed.push iF).setIfInBounds ops.size iV)) a w:=by
  intro fuel listed a w hs g r;have t:Region.ready .any (ops.push o) ((listed.push iF).setIfInBounds ops.size iV)=[]:=by
   rw[vG];intro j f;rw[kW]at f;obtain⟨m,l,n,-⟩:=f;have d:=(aJ.1 n).1;simp only[yh]at d;by_cases e:ops.size=j
   ·subst e;have:ops.size<(listed.push iF).size:=by simp[hs]
    rw[wC,AY this]at m;cases m
   ·rw[xW iV e,qt (by omega)]at m
    have G:=g j (by omega)
    have v:j<listed.size:=by omega
    simp[v]at m G;rw[m]at G;cases G
  unfold wpOp;simp only[yb,Region.wanted,L,cW];simp only[wpList,Region.wanted,L,cW]at r;exact r.imp (Oper.wp_mono (λJ w' x=>wpAny_done t x fuel)) id
 have A:∀(listed:Array Bool),listed.size=ops.size->(∀i,i<ops.size->listed.getD i iF=iV)->ops.size∈Region.ready .any (ops.push o) (listed.push iF):=by
  intro listed hs g;rw[kW];refine⟨by simp[<-hs],o,by simp,λe u s=>?_⟩
  rw[oz];exact g e.on (h4 e u s)
 have V:∀(listed:Array Bool) (j:Nat),listed.size=ops.size->j∈Region.ready .any ops listed->j∈Region.ready .any (ops.push o) (listed.push iF):=by
  intro listed j hs f;rw[kW]at f⊢;obtain⟨m,l,n,D⟩:=f;have d:=(aJ.1 n).1;refine⟨by rw[qt (by omega)];exact m,l,by rw[pU d,<-mp d];exact n,λe u s=>?_⟩
  rw[oz];exact D e u s
 have Y:∀(c:Array iX) (k:Nat),k<ops.size->yielded (ops.push o) c k=yielded ops c k:=by
  intro c k x;unfold yielded;rw[pU x,<-mp x]
 have W:∀(l:Oper) (j:Nat) (c:Array iX),ops[j]?=X l->Region.wanted l (yielded (ops.push o) c)=Region.wanted l (yielded ops c):=by
  intro l j c f;unfold Region.wanted;cases R:l.guard with
  |none=>rfl
  |some U=>
   obtain⟨k,b⟩:=U;simp only;rw[Y c k ((E j l f).2 k b R)]
 have I:∀(j:Nat) (K:Act->iW->Prop) (a:Act) (w:iW),j<ops.size->wpOp P ops (mX P o Q) j K a w->wpOp P (ops.push o) Q j K a w:=by
  intro j K a w f r;have y:ops[j]?=X ops[j]:=mp f;unfold wpOp at*;rw[pU f];rw[y]at r;simp only at r⊢;rw[W _ j a.tmps y];split
  ·rename_i hw
   simp only[hw,cW]at r;exact r.imp (λq=>Ie q) (λq=>⟨q.1,LetsOut.last q.2⟩)
  ·rename_i hw
   simp only[hw]at r;exact r
 intro fuel
 induction fuel with
 |zero=>
  intro listed a w hs H;have g:=wF hs (λj l f=>(E j l f).1) H.1
  refine⟨λC=>?_,λj f=>?_⟩
  ·have:=A listed hs g;rw[C]at this;cases this
  ·rcases M listed j hs f with⟨-,q⟩|⟨rfl,q⟩
   ·rw[H.1]at q;cases q
   ·exact p 0 listed a w hs q H.2
 |succ fuel T=>
  intro listed a w hs H;refine⟨λC=>?_,λj f=>?_⟩
  ·cases z:Region.ready .any ops listed with
   |nil=>
    have:=A listed hs (wF hs (λj l f=>(E j l f).1) z)
    rw[C]at this;cases this
   |cons k Z=>
    have:=V listed k hs (by rw[z];simp)
    rw[C]at this;cases this
  ·rcases M listed j hs f with⟨d,q⟩|⟨rfl,q⟩
   ·have N:=I j _ a w d (H.2 j q);refine wpOp_mono (λJ w' x=>?_) N
    have O:=T (listed.setIfInBounds j iV) J w' (by simpa using hs) x
    have e:(listed.push iF).setIfInBounds j iV=(listed.setIfInBounds j iV).push iF:=by
     apply rC;rw[rF,wW,wW,rF,List.set_append_left _ _ (by rw[BU];omega)]
    rw[e];exact O
   ·exact p (fuel+1) listed a w hs q (H.1 (B listed hs q))
theorem OC {id:Nat} {l:List Oper} {o:Oper} {Q:Exit->Act->iW->Prop} {S:iW->Prop} {w:iW} (g:P.follows .mixedOrders=iV) (h:t7 l.toArray o=iV) (e:S w.drew)
 (f:S w.drew->wpAnyH P .any l.toArray (mX P o Q) S l.length (Array.replicate l.length iF) a w.drew):(Code.region id (l++[o]).toArray iV).wp P Q a w:=by
 refine Dp g ?_;have b:(l++[o]).toArray=l.toArray.push o:=by simp
 have c:(l++[o]).toArray.size=l.length+1:=by simp
 rw[c,b];have d:Array.replicate (l.length+1) iF=(Array.replicate l.length iF).push iF:=by rw[Array.replicate_succ]
 rw[d];exact Yw h l.length _ a _ (by simp) (A8 _ _ _ _ (f e))
theorem wY {id:Nat} (n:Nat) {l:List Oper} {o:Oper} {Q:Exit->Act->iW->Prop} {S:iW->Prop} {w:iW} (d:P.follows .mixedOrders=iV) (f:l.drop n=[o]) (h:t7 l.dropLast.toArray o=iV) (b:S w.drew)
 (c:S w.drew->wpAnyH P .any l.dropLast.toArray (mX P o Q) S l.dropLast.length (Array.replicate l.dropLast.length iF) a w.drew):(Code.region id l.toArray iV).wp P Q a w:=by
 have e:l=l.dropLast++[o]:=by
  have:=jP n l;rw[f]at this;rw[<-this,AL]
 have:=OC (id:=id) (Q:=Q) (S:=S) d h b c;rw[<-e]at this;exact this
theorem xU {l:List Oper} {Q:Exit->Act->iW->Prop} {S:iW->Prop} (i:Nat) {v:iX} {w:iW} (d:l.drop i=oi::rest)
 (hs:Region.noSelect l.toArray=iV) (e:Region.free .any l.toArray listed i=iV) (g:(Region.ready .any l.toArray listed).contains i=iV)
 (hQ:∀c a w,Q (.panic c) (a.put oi.dst v) w->Q (.panic c) a w) (f:Region.wanted oi (yielded l.toArray a.tmps)=iV) (b:S w) (hy:∀w,S w->(execOp a.eval oi).run P w=.ok (.value v) w)
 (h:wpAnyH P .any l.toArray Q S fuel (listed.setIfInBounds i iV) (a.put oi.dst v) w):wpAnyH P .any l.toArray Q S (fuel+1) listed a w:=by
 have hi:l.toArray[i]?=X oi:=by
  have:l[i]?=(l.drop i)[0]?:=by simp
  rw[mH,this,d];rfl
 exact wpAnyH_take hi hs e g hQ (Or.inl ⟨f,hy⟩) b h
theorem au {l:List Oper} {Q:Exit->Act->iW->Prop} {S:iW->Prop} (i:Nat) {v:iX} {d:Act} {w:iW} (h:wpAnyH P .any l.toArray Q S fuel (listed.setIfInBounds i iV) d w) (f:l.drop i=oi::rest:=by exact rfl)
 (hs:Region.noSelect l.toArray=iV:=by kernel_rfl) (g:Region.free .any l.toArray listed i=iV:=by kernel_rfl) (m:(Region.ready .any l.toArray listed).contains i=iV:=by kernel_rfl)
 (hQ:∀c a w,Q (.panic c) (a.put oi.dst v) w->Q (.panic c) a w:=by exact λ_ _ _ h=>h) (j:Region.wanted oi (yielded l.toArray a.tmps)=iV:=by rfl) (e:S w:=by assumption) (hy:∀w,S w->(execOp a.eval oi).run P w=.ok (.value v) w:=by(intro w b;(try dsimp only at b);go_simp;all_goals with_reducible rfl))
 (k:a.put oi.dst v=d:=by(simp only[Act.put,bJ,bE,bp];try rfl)):wpAnyH P .any l.toArray Q S (fuel+1) listed a w:=
 xU i f hs g m hQ j e hy (k▸h)
theorem nt {l:List Oper} {Q:Exit->Act->iW->Prop} {S:iW->Prop} (i:Nat) {b:Act} {w:iW} (h:wpAnyH P .any l.toArray Q S fuel (listed.setIfInBounds i iV) b w) (e:l.drop i=oi::rest:=by exact rfl)
 (hs:Region.noSelect l.toArray=iV:=by kernel_rfl) (f:Region.free .any l.toArray listed i=iV:=by kernel_rfl) (k:(Region.ready .any l.toArray listed).contains i=iV:=by kernel_rfl)
 (hQ:∀c a w,Q (.panic c) (a.put oi.dst undef) w->Q (.panic c) a w:=by exact λ_ _ _ h=>h) (g:Region.wanted oi (yielded l.toArray a.tmps)=iF:=by rfl) (d:S w:=by assumption)
 (j:a.put oi.dst undef=b:=by(simp only[Act.put,bJ,bE,bp];try rfl)):wpAnyH P .any l.toArray Q S (fuel+1) listed a w:=by
 have hi:l.toArray[i]?=X oi:=by
  have:l[i]?=(l.drop i)[0]?:=by simp
  rw[mH,this,e];rfl
 exact wpAnyH_take hi hs f k hQ (Or.inr ⟨g,rfl⟩) d (j▸h)
theorem ch {l:List Oper} {Q:Exit->Act->iW->Prop} {S:iW->Prop} (i:Nat) {w:iW} (c:l.drop i=oi::rest) (d:Region.ready .any l.toArray listed=[i])
 (h:∀b:Act->iW->Prop,Shut (∀a w,S w->(S w->wpAnyH P .any l.toArray Q S fuel (listed.setIfInBounds i iV) a w)->b a w)->if Region.wanted oi (yielded l.toArray a.tmps)=iV then Oper.wp P oi a w b Q else b (a.put oi.dst undef) w):
 wpAnyH P .any l.toArray Q S (fuel+1) listed a w:=by
 have hi:l.toArray[i]?=X oi:=by
  have:l[i]?=(l.drop i)[0]?:=by simp
  rw[mH,this,c];rfl
 exact wpAnyH_ready d (by simp) (Df hi h AllReadyH.nil)
theorem vw{o:Oper}{Q:Exit->Act->iW->Prop}{w:iW}(h:wpList P #[] Q [o] a w):mX P o Q .normal a w:=h
theorem Jj:(Tryz.prog.info? 42).map (·.size)=X 1:=by kernel_rfl
def zX(w W:iW)(z:Nat)(b a:iX)(ss:List Kw):Prop:=W.heap[z]?=X (iC #[b] 42 (0,0))/\W.heap[z+1]?=X (iC #[Y O 0 0] 42 (0,0))/\W.heap[z+2]?=X (iC #[a] 42 (0,0))/\ct W (z+3) a ss/\iL z w W
theorem ct.cellB{W:iW}{v:iX}{rs:List Kw}(h:ct W B v rs)(c:g<B)(i:Nat)(u:iX):ct (W.setCell ⟨g,i,O⟩ u) B v rs:=by
 have e:(W.setCell ⟨g,i,O⟩ u).heap.size=W.heap.size:=by simp[World.setCell]
 refine⟨Cf h.1 c i u,λr a=>⟨?_,(h.2.1 r a).2⟩,h.2.2⟩
 rw[e];exact(h.2.1 r a).1.grown (ik _ g i _) (λq d b=>by
  have:=((h.2.1 r a).1.lt q d).1;cases b;omega)
theorem GU(W:iW)(lf:Bool)(v:iX):∀(j:Nat) (u:iX),[iB lf,v][j]?=X u->(W.alloc (iC #[iB lf,v] 205)).cell? ((⟨W.heap.size,0,O⟩:Addr).add j)=X u:=by
 intro j u a
 match j,a with
 |0,a|1,a=>
  simp at a;subst a;simp[Addr.add]
theorem I8(lf:Bool)(b:Option Addr)(n c:Nat):∀u∈ [iB lf,Y b n c],u.oneCell'=iV:=by
 intro u a;simp at a;rcases a with h|h<;>subst h<;>rfl
theorem qp(l:List Int):∀u∈aE l,u.oneCell'=iV:=by
 intro u a;obtain⟨x,-,rfl⟩:=bF.1 a;rfl
theorem OI{l:List Int}{u:iX}(h:(aE l)[j]?=X u):∃x,l[j]?=X x/\u=I J x:=by
 rw[aE,bk]at h;obtain⟨x,a,rfl⟩:=sW.1 h;exact⟨x,a,rfl⟩
theorem gR.cells{w:iW}{b a d:Nat}{ls:List Int}(h:gR w (X ⟨b,a,O⟩) d ls)(j:Nat)(u:iX)(i:(aE ls)[j]?=X u):w.cell? ((⟨b,a,O⟩:Addr).add j)=X u:=by
 obtain⟨x,k,rfl⟩:=OI i;obtain⟨l,f,e,-,c⟩:=h.at k;injection e with e
 injection e with e1 e2
 subst e1 e2;have g:(⟨b,a,O⟩:Addr).add j=⟨b,a+j,O⟩:=by simp only[Addr.add];split<;>simp_all
 rw[g];exact c
theorem Nc (w:World) {o:Oper} {Q:Exit->Act->World->Prop} (k:o.guard=none) (s x:Operand)
 (A:o.op=.call {callee:=.builtin .append,args:= #[s,x],argTypes:= #[72,72]})
 (base:Nat) (i:TypeInfo) (hi:Tryz.prog.info? 3=some i) (F:i.zero=some (.int .i64 0)) (j:i.size=1) (r:i.bytes=8)
 (v:Value) (n:Nat) (xs:List Value) (hs:a.eval s=v) (f:w.ownsRow base 3 1 v n xs)
 (ls:List Int) (m:Nat) (H:ls.length=m) (u:Value) (z:a.eval x=u) (B:kh w u ls) (p:n+m<=maxLen) (d:(n+m)*8<=140737488355328) (g:base<=w.heap.size)
 (h:∀G w',w'.ownsRow base 3 1 G (n+m) (xs++aE ls)->w.grownBy w' v.ownBlock->K (a.put o.dst G) w'):
 if Region.wanted o (yielded ops a.tmps)=true then Oper.wp Tryz.prog o a w K Q else E:=by
 subst H;obtain⟨ad,c,rfl,h0,D⟩:=B;cases ls with
 |nil=>
  cases ad with
  |none=>
   rw[h0 rfl]at z;have I:Region.wanted o (yielded ops a.tmps)=true:=by simp[Region.wanted,k]
   rw[aj I];have t:=AF (P:=Tryz.prog) (w:=w) base 72 o.type 3 i 1 Tryz.underlying72 hi v n xs f;unfold Oper.wp execOp;simp only[A,resolve,invoke,builtin,tI,uQ,uy,vz,cD,nZ,hs,z,cU,t];exact h v w (by simpa[aE]using f) (rK _ _)
  |some q=>exact kT w k s x 72 A base 3 i (.int .i64 0) 1 8 Tryz.underlying72 hi F j r rfl (by decide) v n xs hs f q 0 c [] z rfl (λ_ _ e=>by simp at e) (λ_ e=>by cases e) p d g h
 |cons y l=>
  obtain⟨b,C,e,-,J⟩:=D.2.2 (by simp)
  subst e;exact kT w k s x 72 A base 3 i (.int .i64 0) 1 8 Tryz.underlying72 hi F j r rfl (by decide) v n xs hs f ⟨b,C,none⟩ _ c (aE (y::l)) z (by simp[aE]) D.cells (qp _) p d g h
theorem Cb(ad:Option Addr)(a cap:Nat)(rs:List Kw)(w:iW)(hl:a<=1048578)(ai:∀r∈rs,r.2.2.length<=1048576)(h:eH w ad a rs):
 iK Tryz.prog 98 #[iA #[Y ad a cap]] w λe w'=>∃v,e=G v/\oG w (rs.map aG) v w':=by
 have za:(w.alloc (iC #[Y ad a cap] 42)).heap.size=w.heap.size+1:=by simp
 have zb:((w.alloc (iC #[Y ad a cap] 42)).alloc (iC #[Y O 0 0] 42)).heap.size=w.heap.size+1+1:=by simp
 have R0:=az w (iC #[Y ad a cap] 42);have R1:=az (w.alloc (iC #[Y ad a cap] 42)) (iC #[Y O 0 0] 42);have R2:=az ((w.alloc (iC #[Y ad a cap] 42)).alloc (iC #[Y O 0 0] 42)) (iC #[Y O 0 0] 42);rw[za]at R1;rw[zb]at R2;have S0:ah (zX w (((w.alloc (iC #[Y ad a cap] 42)).alloc (iC #[Y O 0 0] 42)).alloc (iC #[Y O 0 0] 42)) w.heap.size (Y ad a cap) (Y O 0 0) []):=
  ⟨(gU _ _ _ (by simp;omega)).trans ((gU _ _ _ (by simp)).trans R0),(gU _ _ _ (by simp)).trans R1,R2,ct.nil _ _,((aY).alloc (by simp) _).alloc (by simp;omega) _⟩
 have H:=af h;have H1:=af h.1;have ap:=af ai;clear za zb R0 R1 R2 h ai;go_enter Tryz.func98,Tryz.ntmps98;go_wp2;generalize((w.alloc (iC #[Y ad a cap] 42)).alloc (iC #[Y O 0 0] 42)).alloc (iC #[Y O 0 0] 42)=wa at S0⊢;obtain⟨z,hz⟩:=an w.heap.size;rw[hz]at S0⊢;have HZ:=af hz;clear hz;go_loopw [4] (λiv W=>∃(k:Nat) (ov:iX) (ss:List Kw),k<=a/\iv=I J k/\ss.length<=k/\ah (ss.map aG=(rs.map aG).take k)/\ah (zX w W z (Y ad a cap) ov ss)) (λiv _=>a-(intOf iv).toNat)
 case atStart=>exact⟨0,_,[],aI _,rfl,aI _,by show _=_;simp,S0⟩
 case round=>
  obtain⟨k,ov,ss,hk,rfl,av,HT,f⟩:=hrel;clear S0;have a0:=am _ _ 0 _ _ _ f.o.1;have o0:=am _ _ 0 _ _ _ f.o.2.2.1;have fo:=aL _ _ 0 _ _ f.o.2.2.1;by_cases aC:(k:Int)<a
  ·obtain⟨r,hr⟩:∃r,rs[k]?=X r:=⟨_,ay (by have:=H1.o;omega)⟩
   obtain⟨b,i,e,hb⟩:=H.o.adr (by omega)
   subst e;have KR:=af (H.o.below (by rw[HZ.o];exact f.o.2.2.2.2))
   obtain⟨c0,c1⟩:=KR.o.cell hr;have aj:=ap.o r (aH hr);obtain⟨ka,kc,ag,ae,kr⟩:=KR.o.2.2.1 r (aH hr);obtain⟨lf,kv,ls⟩:=r;simp only at c0 c1 aj ag kr;subst ag;have aa:ah (kh wr (Y ka ls.length kc) ls):=⟨ka,kc,rfl,ae,kr⟩;have V:ah (ss.map aG++[⟨lf,ls⟩]=(rs.map aG).take (k+1)):=by
    show _=_;rw[HT.o,dF,wu hr];rfl
   have k0:(0:Int)<=k:=by omega
   obtain⟨g,Q⟩:=an ls.length;rw[Q]at c1 aj aa;clear kr hr hb HT ae;obtain⟨t,u,R⟩:=f.o.2.2.2.1.form;subst R;obtain⟨j,T⟩:=an ss.length;rw[T]at f o0 av;have N:=af T;obtain⟨i0,x,y,A,B⟩:=bK nG;have I0:=af x;have Y0:=af y;have Y1:=af A;have Y2:=af B;clear x y A B;obtain⟨j0,x,y,A,B⟩:=bK tw;have J0:=af x;have X0:=af y;have X1:=af A;have X2:=af B;clear x y A B T;have F:=af Q;clear Q;have c:ah (z+3<=wr.heap.size):=by have:=(aJ.1 f.o.2.2.1).1;show _<=_;omega
   have ac:ah (b<z):=by have:=HZ.o;obtain⟨b',o',e,q⟩:=H.o.adr (by omega);cases e;show _<_;omega
   have n:ah (∀W,iL (z+2) wr W->W.cell? ⟨z,0,O⟩=X (Y (X ⟨b,i,O⟩) a cap)/\W.cell? ⟨b,i+k*2,O⟩=X (iB lf)/\W.cell? ⟨b,i+k*2+1,O⟩=X (Y ka g kc)):=λW hW=>
    ⟨(hW.cell (show z<z+2 by omega)).trans a0,(hW.cell (show b<z+2 by have:=ac.o;omega)).trans c0,(hW.cell (show b<z+2 by have:=ac.o;omega)).trans c1⟩
   have E:ah (∀W,iL (z+3) wr W->W.cell? ⟨z+1+1,0,O⟩=X (Y t j u)):=λW hW=>(hW.cell (show z+2<z+3 by omega)).trans o0
   have oA:(wr.alloc (iC #[] 3)).cell? ⟨z+1+1,0,O⟩=X (Y t j u):=E.o _ ((aY).mono c.o);have oW:wr.cell? ⟨z+1+1,0,O⟩=X (Y t j u):=o0;have ab:ah (wr.ownsRow (z+3) 205 2 (Y t j u) j (dT ss)):=by have:=f.o.2.2.2.1.1;rw[N.o]at this;exact this
   have BA:ah (iL wr.heap.size wr (wr.alloc (iC #[] 3)).drew):=(aY).drew;have OE:ah ((wr.alloc (iC #[] 3)).drew.ownsRow wr.heap.size 3 1 (Y (X ⟨wr.heap.size,0,O⟩) 0 0) 0 []):=⟨rfl,.inr ⟨wr.heap.size,0,#[],rfl,ak _,az wr _,ak _,by unfold maxLen;omega,rfl,rfl⟩⟩
   have C1:=af (aa.o.below BA.o);have L:=af BA.o.size;go_wp2_with fail;refine wY 20 (S:=λw'=>w'.cell? ⟨z,0,O⟩=X (Y (X ⟨b,i,O⟩) a cap)/\w'.cell? ⟨b,i+k*2,O⟩=X (iB lf)/\w'.cell? ⟨b,i+k*2+1,O⟩=X (Y ka g kc)/\w'.cell? ⟨z+1+1,0,O⟩=X (Y t j u)) (by kernel_rfl) rfl (by kernel_rfl) (by first|go_keep|exact⟨a0,c0,c1,o0⟩) (λhHeld=>?_)
   simp only[vp,tU,aR,cU,Nat.reduceAdd];refine au 0 ?_;refine au 1 ?_;refine au 2 ?_;refine au 3 ?_;refine au 4 ?_;refine au 5 ?_;refine au 6 ?_;refine au 7 ?_;refine au 9 ?_;refine au 10 ?_;refine au 11 ?_;refine au 12 ?_;refine au 13 ?_;refine au 14 ?_;refine ch 8 rfl (by kernel_rfl) (λK s=>?_)
   go_simp;refine s.out _ _ (by first|go_keep|exact⟨(n.o _ (BA.o.mono (by have:=c.o;omega))).1,(n.o _ (BA.o.mono (by have:=c.o;omega))).2.1,(n.o _ (BA.o.mono (by have:=c.o;omega))).2.2,oA⟩) (λhHeld2=>?_)
   clear s K hHeld;have hHeld:=hHeld2;clear hHeld2
   (try simp only[Act.put,bJ,bE,bp])
   refine ch 15 rfl (by kernel_rfl) (λK s=>?_)
   refine Nc _ (by rfl) (.tmp 21) (.tmp 27) (by rfl) wr.heap.size i0 I0.o Y0.o Y1.o Y2.o _ 0 [] (by simp[Act.eval]) OE.o ls g F.o _ (by simp[Act.eval]) C1.o (by unfold maxLen;omega) (by omega) L.o ?_
   intro v1 D o1 g1;have B1:ah (iL wr.heap.size wr D):=BA.o.grown g1 L.o (λq hq=>(OE.o.lt q hq).1)
   have m:ah (iL (z+3) wr D):=B1.o.mono c.o;rw[iN,dK]at o1;obtain⟨l,vc,ax,-⟩:=(aB.of o1).form;subst ax;have O1:=af o1;have BC:=af (aO D (iC #[iB lf,Y l g vc] 205));have C:ah (iL wr.heap.size wr (D.alloc (iC #[iB lf,Y l g vc] 205))):=B1.o.trans (BC.o.mono B1.o.size);have P:=af (bu ab.o C.o);have oB:D.cell? ⟨z+1+1,0,O⟩=X (Y t j u):=E.o _ m.o;have oC:(D.alloc (iC #[iB lf,Y l g vc] 205)).cell? ⟨z+1+1,0,O⟩=X (Y t j u):=E.o _ (C.o.mono c.o);have M:ah (z+3<=(D.alloc (iC #[iB lf,Y l g vc] 205)).heap.size):=bR c.o C.o.size;clear o1 g1;refine s.out _ _ (by exact⟨(n.o _ (m.o.mono (by omega))).1,(n.o _ (m.o.mono (by omega))).2.1,(n.o _ (m.o.mono (by omega))).2.2,E.o _ m.o⟩) (λhHeld2=>?_)
   clear s K hHeld;have hHeld:=hHeld2;clear hHeld2
   (try simp only[Act.put,bJ,bE,bp])
   refine au 16 ?_;refine ch 17 rfl (by kernel_rfl) (λK s=>?_)
   go_simp;refine s.out _ _ (by exact⟨(n.o _ (C.o.mono (by have:=c.o;omega))).1,(n.o _ (C.o.mono (by have:=c.o;omega))).2.1,(n.o _ (C.o.mono (by have:=c.o;omega))).2.2,E.o _ (C.o.mono c.o)⟩) (λhHeld2=>?_)
   clear s K hHeld;have hHeld:=hHeld2;clear hHeld2
   (try simp only[Act.put,bJ,bE,bp])
   refine ch 18 rfl (by kernel_rfl) (λK s=>?_)
   refine kT _ (by rfl) (.tmp 14) (.tmp 30) 40 (by rfl) (z+3) 205 j0 (iA #[iB iF,Y O 0 0]) 2 32 Tryz.underlying40 J0.o X0.o X1.o X2.o rfl (by decide) _ j (dT ss) (by simp[Act.eval]) P.o ⟨D.heap.size,0,O⟩ 1 1 [iB lf,Y l g vc] (by simp[Act.eval]) rfl (GU _ _ _) (I8 _ _ _ _) (by unfold maxLen;omega) (by omega) M.o ?_
   intro u2 U o2 g2;have d:ah (iL (z+3) wr U):=(C.o.mono c.o).grown g2 M.o (λq hq=>(P.o.lt q hq).1)
   obtain⟨ua,uc,aw,-⟩:=(aB.of o2).form;subst aw;have O2:=af o2;have G2:=af g2;have oD:U.cell? ⟨z+1+1,0,O⟩=X (Y t j u):=E.o _ d.o;have ao:ah (iL (z+2) wr (U.setCell ⟨z+1+1,0,O⟩ (Y ua (j+1) uc))):=(d.o.mono (by omega)).setCell (p:=⟨z+1+1,0,O⟩) (by show z+2<=z+1+1;omega) _
   have aq:U.frozen? ⟨z+1+1,0,O⟩=iF:=aL _ _ 0 _ _ ((d.o.block (z+2) (by omega)).trans f.o.2.2.1)
   clear o2 g2;refine s.out _ _ (by exact⟨(n.o _ (d.o.mono (by omega))).1,(n.o _ (d.o.mono (by omega))).2.1,(n.o _ (d.o.mono (by omega))).2.2,E.o _ d.o⟩) (λhHeld2=>?_)
   clear s K hHeld;have hHeld:=hHeld2;clear hHeld2
   (try simp only[Act.put,bJ,bE,bp])
   refine au 19 ?_;refine wpAnyH_done (by kernel_rfl) ?_ _
   refine vw ?_;go_wp2_with fail;all_goals
    have SN:ah (zX w (U.setCell ⟨z+1+1,0,O⟩ (Y ua (j+1) uc)) z (Y (X ⟨b,i,O⟩) a cap) (Y ua (j+1) uc) (ss++[(lf,Y l g vc,ls)])):=by
     have o2:=O2.o;have ar:aB 3 wr.heap.size (D.alloc (iC #[iB lf,Y l g vc] 205)).heap.size (Y l g vc) ls.length (aE ls) (D.alloc (iC #[iB lf,Y l g vc] 205)):=by
      rw[F.o];exact((aB.of O1.o).blw BC.o).up BC.o.size
     have ho:U.ownsRow (z+3) 205 2 (Y ua (j+1) uc) (ss++[(lf,Y l g vc,ls)]).length (dT (ss++[(lf,Y l g vc,ls)])):=by
      rw[<-Ep,aT,N.o];exact o2
     have s:=ct.snoc (r:=(lf,Y l g vc,ls)) f.o.2.2.2.1 C.o c.o ar (by simp only;have:=F.o;unfold maxLen;omega) G2.o ho
     refine⟨dC ((d.o.block z (by omega)).trans f.o.1) (by omega) _ _,dC ((d.o.block (z+1) (by omega)).trans f.o.2.1) (by omega) _ _,?_,s.cellB (show z+1+1<z+3 by omega) _ _,((f.o.2.2.2.2.trans (d.o.mono (by omega))).setCell (p:=⟨z+1+1,0,O⟩) (by show z<=z+1+1;omega) _)⟩
     exact(eo ((d.o.block (z+2) (by omega)).trans f.o.2.2.1) 0 _)
    have Z:ah ((ss++[(lf,Y l g vc,ls)]).map aG=(rs.map aG).take (k+1)):=by
     show _=_;rw[dB];exact V.o
    have al:(ss++[(lf,Y l g vc,ls)]).length<=k+1:=by rw[aT,N.o];simp;omega
    generalize ss++[(lf,Y l g vc,ls)]=aA at SN Z al;generalize U.setCell ⟨z+1+1,0,O⟩ (Y ua (j+1) uc)=w3 at SN⊢;clear O1 O2 G2 BC C P M m d ao oB oC oD oA oW aq n E ab BA OE C1 L f V;go_wp2;go_roundw
    case rel=>exact⟨k+1,_,aA,by omega,by go_num,al,Z,SN⟩
    case measure=>simp[intOf];omega
  ·obtain⟨t,u,R⟩:=f.o.2.2.2.1.form;subst R;have r0:=am _ _ 0 _ _ _ f.o.2.1;have f0:=aL _ _ 0 _ _ f.o.2.1;have o1:wr.cell? ⟨z+1+1,0,O⟩=X (Y t ss.length u):=o0;have ET:ah (ss.map aG=rs.map aG):=by
    show _=_;rw[HT.o,cm (by rw[aS];have:=H1.o;omega)]
   go_wp2;refine aF (tW rfl _ _ (z+1) 42 _ (0,0) _ rfl (eo f.o.2.1 0 (Y t ss.length u)) Tryz.underlying42 rfl Jj) rfl ⟨_,rfl,Y t ss.length u,ss,rfl,?_,ET.o,?_⟩
   ·rw[HZ.o];exact(f.o.2.2.2.1.cellB (show z+1<z+3 by omega) _ _).down (by omega)
   ·rw[HZ.o];exact f.o.2.2.2.2.setCell (p:=⟨z+1,0,O⟩) (by show z<=z+1;omega) _
end Go.Proofs.YtijmbohadndfmaaGreatDoor
