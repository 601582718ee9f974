/-
  SRoots; VlApp; StApp; LastOp; KnCp; Gate; SCopyS; CeRc; RcRow; TreeC; StoC; StH; DvC; Emp; SAsk
-/
import Derived.Test.YtgigcooffjjbgaaGreatDoorPk7
import Derived.Deep.DeepCutAuto
open Go.Value renaming int→I,slice→Y,string→iT,bool→iB,pointer→iP,agg→iA,tuple→iU
open Go.IntKind renaming i64→J
open Option renaming none→O,some→X
open Go.Ending renaming returned→G
open Go.Obj renaming cells→iC
open Bool renaming true→iV,false→iF
open Go renaming World→iW,Value→iX,Calls→iK
open Go.RowKit renaming Below→iL
set_option maxHeartbeats 2000000
set_option maxRecDepth 100000
namespace Go.Proofs.YtgigcooffjjbgaaGreatDoor
open Go.RowKit Words
theorem vg:(Tryz.prog.info? 32).map (·.size)=X 3:=by kernel_rfl
abbrev dK(b:Option Addr)(c vc:Nat)(ad:Option Addr)(a cap:Nat)(nx:Int):Array iX:= #[Y b c vc,Y ad a cap,I J nx]
theorem Ca(w:iW)(a b c:iX):(w.alloc (iC #[a,b,c] 32)).cell? ⟨w.heap.size,0,O⟩=X a/\(w.alloc (iC #[a,b,c] 32)).cell? ⟨w.heap.size,1,O⟩=X b/\(w.alloc (iC #[a,b,c] 32)).cell? ⟨w.heap.size,2,O⟩=X c:=by
 have h:=aC w (iC #[a,b,c] 32);exact⟨ai _ _ 0 _ _ _ h,ai _ _ 1 _ _ _ h,ai _ _ 2 _ _ _ h⟩
variable{a:Act}{K:Act -> World -> Prop}{listed:Array Bool}{ops:Array Oper}{fn:Func}{q0:Int}{v:Int × Int}{vs:List (Int × Int)}{rest:List Oper}{k lo i fuel B g j m n size z zb B':Nat}{oi:Oper}{ad:Option Addr}{P:Program}{E:Prop}{e:TypeId}
theorem QH(h:vs[k]?=X v):cD (vs.take k)++[v.2]=cD (vs.take (k+1)):=by
 obtain⟨h1,a⟩:=aB.1 h;rw[eY h1,a];simp[cD]
theorem D8(j:Option Addr)(c vc:Nat)(ad:Option Addr)(a cap:Nat)(nx:Int)(vs:List (Int×Int))(w:iW)(hl:c<=1048578)(h:ge w j c vs):
 iK Tryz.prog 131 #[iA (dK j c vc ad a cap nx)] w (ny w (cD vs)):=by
 obtain⟨i0,hi,s,t,u⟩:=bV lp;have T:=af hi;have U:=af s;have V:=af t;have Z:=af u;clear hi s t u;have A:=af (Ca w (Y j c vc) (Y ad a cap) (I J nx)).1;have m:=af (aR w (iC #[Y j c vc,Y ad a cap,I J nx] 32));have H:=af (h.below m.o);have g:=af h.1;have D:=af (show w.heap.size<(w.alloc (iC #[Y j c vc,Y ad a cap,I J nx] 32)).heap.size by simp)
 have C:=af (show(w.alloc (iC #[Y j c vc,Y ad a cap,I J nx] 32)).heap.size=w.heap.size+1 by simp)
 clear h;unfold dK;go_enter Tryz.func131,Tryz.ntmps131;go_wp2_with fail;generalize w.alloc (iC #[Y j c vc,Y ad a cap,I J nx] 32)=wb at A m H D C⊢;have L:ah ((wb.alloc (iC #[] 3)).ownsRow wb.heap.size 3 1 (Y (X ⟨wb.heap.size,0,O⟩) 0 0) ([]:List Int).length (ax [])):=m9 wb #[] 0 (am _) (by unfold maxLen;omega) (by simp)
 have BA:=af (aR wb (iC #[] 3));generalize wb.alloc (iC #[] 3)=wa at L BA⊢;obtain⟨z,F⟩:=aq w.heap.size;rw[F]at A D C⊢;have S:=af F;clear F;go_loopw [3,4] (λov kv W=>∃(k:Nat) (l:List Int),k<=c/\kv=I J k/\l.length<=k/\ah (l=cD (vs.take k))/\ah (W.ownsRow wb.heap.size 3 1 ov l.length (ax l)/\iL wb.heap.size wb W)) (λ_ kv _=>c-(intOf kv).toNat)
 case atStart=>exact⟨0,[],aK _,rfl,aK _,by show _=_;simp[cD],by rw[<-C.o];exact L.o,BA.o⟩
 case round=>
  obtain⟨k,l,hk,rfl,aa,B,d⟩:=hrel;have bx:=(d.o.2.cell (show z<wb.heap.size from D.o)).trans A.o;by_cases ab:(k:Int)<c
  ·have hw:=d.o.2.size;have x:=ay (show k<vs.length by have:=g.o;omega)
   generalize vs[k]'(by have:=g.o;omega)=v at x
   obtain⟨b,ac,e,hb,c0,c1⟩:=(H.o.below d.o.2).at x;subst e;have f:ah (l++[v.2]=cD (vs.take (k+1))):=by
    show _=_;rw[B.o,QH x]
   have k0:(0:Int)<=k:=by omega
   clear x;generalize v.2=y at c1 f;have N:=af d.o.1;have K:=af d.o.2;clear d B;have n:=af (aR wr (iC #[I J y] 3));have i:=af (bE N.o n.o);go_wp2_with (at_builtin;refine cZ _ rfl _ _ 36 rfl wb.heap.size 3 i0 (I J 0) 1 8 Tryz.underlying36 T.o U.o V.o Z.o rfl (by decide) _ _ _ rfl i.o ⟨wr.heap.size,0,O⟩ 1 1 [I J y] rfl rfl (lz _ _ _) (qJ _) ?c1 ?c2 ?c3 ?_)
   case c1=>unfold maxLen;omega
   case c2=>omega
   case c3=>have:=n.o.size;omega
   intro u' G E P _;rw[qB]at E;have r:G.ownsRow wb.heap.size 3 1 u' (l++[y]).length (ax (l++[y])):=by rw[aJ];exact E
   have M:ah (G.ownsRow wb.heap.size 3 1 u' (l++[y]).length (ax (l++[y]))/\iL wb.heap.size wb G):=⟨r,(K.o.trans (n.o.mono hw)).grown P (by have:=n.o.size;omega) (λq hq=>(i.o.lt q hq).1)⟩
   have p:(l++[y]).length<=k+1:=by simp;omega
   generalize l++[y]=l2 at f M p;clear E r P i N n K;go_wp2;go_roundw
   case rel=>exact⟨k+1,l2,by omega,by go_num,p,f,M⟩
   case measure=>simp[intOf];omega
  ·have Q:ah (l=cD vs):=by
    show _=_;rw[B.o,bL (by have:=g.o;omega)]
   have R:ah (iL w.heap.size w wr):=m.o.trans (d.o.2.mono m.o.size);go_wp2;go_ret;refine⟨_,rfl,?_,R.o⟩;rw[<-Q.o];exact lJ d.o.1 m.o.size
def jh:Option Nat->Int
 |some k=>k
 |none=> -1
theorem se(i:Option Addr)(c vc:Nat)(ad:Option Addr)(a cap:Nat)(nx:Int)(vs:List (Int×Int))(id:Int)(w:iW)(D:c<=1048578)(h:ge w i c vs):
 iK Tryz.prog 50 #[iA (dK i c vc ad a cap nx),I J id] w λe w'=>e=G (I J (jh (bO vs id)))/\iL w.heap.size w w':=by
 have p:=af (Ca w (Y i c vc) (Y ad a cap) (I J nx)).1;have m:=af (aR w (iC #[Y i c vc,Y ad a cap,I J nx] 32));have H:=af (h.below m.o);have d:=af h.1;have s:=af (show w.heap.size<(w.alloc (iC #[Y i c vc,Y ad a cap,I J nx] 32)).heap.size by simp)
 clear h;unfold dK;go_enter Tryz.func50,Tryz.ntmps50;go_wp2_with fail;generalize w.alloc (iC #[Y i c vc,Y ad a cap,I J nx] 32)=wb at p m H s⊢;obtain⟨z,t⟩:=aq w.heap.size;rw[t]at p s⊢;have f:=af t;clear t;go_loopw [5] (λkv W=>∃k:Nat,k<=c/\kv=I J k/\ah (ja vs id k=O)/\ah (iL wb.heap.size wb W)) (λkv _=>c-(intOf kv).toNat)
 case atStart=>exact⟨0,aK _,rfl,(rfl:ja vs id 0=O),az _ _⟩
 case round=>
  obtain⟨k,C,rfl,r,n⟩:=hrel;have y:=(n.o.cell (show z<wb.heap.size from s.o)).trans p.o;have q:ah (iL w.heap.size w wr):=m.o.trans (n.o.mono m.o.size);rw[f.o]at q;by_cases u:(k:Int)<c
  ·have g:=ay (show k<vs.length by have:=d.o;omega)
   generalize vs[k]'(by have:=d.o;omega)=v at g
   obtain⟨b,x,e,B,A,c1⟩:=(H.o.below n.o).at g;subst e;have E:(0:Int)<=k:=by omega
   by_cases l:(v.1==id)=iV
   ·have j:ah (bO vs id=X k):=VR r.o g (by simpa using l) _ (by have:=d.o;omega)
    clear g;go_wp2;go_ret;exact⟨by rw[j.o];rfl,by rw[f.o];exact q.o⟩
   ·have j:ah (ja vs id (k+1)=O):=Pu r.o g (by simpa using l)
    clear g;go_wp2;go_roundw
    case rel=>exact⟨k+1,by omega,by go_num,j,n⟩
    case measure=>simp[intOf];omega
  ·have j:ah (bO vs id=O):=by
    have e:k=vs.length:=by have:=d.o;omega
    have:=r.o;rw[e]at this;exact this
   go_wp2;go_ret;exact⟨by rw[j.o];rfl,by rw[f.o];exact q.o⟩
def pQ(W:iW)(v:iX)(ls:List (Int×Int)):Prop:=∃a c,v=Y a ls.length c/\(a=O->c=0)/\ge W a ls.length ls
theorem pQ.of{hi:Nat}{v:iX}{ls:List (Int×Int)}{W:iW}(h:aG 66 lo hi v ls.length (ch ls) W)(b:ls.length<=maxLen)(k:hi<=W.heap.size):pQ W v ls:=by
 rcases h with⟨rfl,h0⟩|⟨g,cap,rfl,h1,f,c⟩
 ·exact⟨O,0,by rw[h0],λ_=>rfl,rfl,b,by simp,λh=>by omega⟩
 ·refine⟨_,_,rfl,(λe=>by cases e),rfl,b,by simp,λ_=>⟨g,0,rfl,by omega,λi t hi=>?_⟩⟩
  have a:=λj v d=>c.cell (vh ls i t hi j v d)
  refine⟨?_,?_⟩
  ·simpa using a 0 _ rfl
  ·simpa using a 1 _ rfl
theorem G9(b a j:Nat):(⟨b,a,O⟩:Addr).add j=⟨b,a+j,O⟩:=by
 simp only[Addr.add];split<;>simp_all
theorem YE(w:iW):(w.alloc (iC #[] 66)).ownsRow w.heap.size 66 2 (Y (X ⟨w.heap.size,0,O⟩) 0 0) 0 (ch []):=
 ⟨rfl,.inr ⟨w.heap.size,0,#[],rfl,am _,aC w _,am _,by unfold maxLen;omega,rfl,rfl⟩⟩
theorem Wa(M:List (Int×Int))(i:Nat)(v:iX)(h:(ch M)[i]?=X v):∃x,M[i/2]?=X x/\(n7 x)[i % 2]?=X v:=by
 have c:=(aB.1 h).1;rw[Iq]at c;obtain⟨x,b⟩:∃x,M[i/2]?=X x:=⟨_,ay (by omega)⟩
 obtain⟨u,a⟩:∃u,(n7 x)[i % 2]?=X u:=⟨_,ay (by show i % 2<2;omega)⟩
 have:=vh M (i/2) x b (i % 2) u a;rw[show i/2*2+i % 2=i by omega,h]at this
 cases this;exact⟨x,b,a⟩
theorem ge.cells{w:iW}{b c d:Nat}{ls:List (Int×Int)}(h:ge w (X ⟨b,c,O⟩) d ls)(j:Nat)(u:iX)(k:(ch ls)[j]?=X u):w.cell? ⟨b,c+j,O⟩=X u:=by
 obtain⟨x,l,a⟩:=Wa ls j u k;obtain⟨n,g,e,-,i,c1⟩:=h.at l;injection e with e
 injection e with e1 e2
 subst e1;subst e2;have f:j=j/2*2+j % 2:=by omega
 have h4:j % 2<2:=by omega
 generalize j % 2=m at f h4 a;rw[f,<-ma]
 match m,h4,a with
 |0,_,a=>simp only[n7]at a;simp at a;subst a;simpa using i
 |1,_,a=>simp only[n7]at a;simp at a;subst a;exact c1
theorem pu (w:World) {o:Oper} {Q:Exit->Act->World->Prop} (A:o.guard=none) (s x:Operand) (t:TypeId)
 (H:o.op=.call {callee:=.builtin .append,args:= #[s,x],argTypes:= #[t,t]})
 (base:Nat) (e:TypeId) (i:TypeInfo) (z:Value) (size d:Nat) (J:P.underlying t=some (.slice e)) (hi:P.info? e=some i) (N:i.zero=some z)
 (l:i.size=size) (y:i.bytes=d) (C:z.cells.size=size) (B:0<size)
 (v:Value) (n:Nat) (xs:List Value) (hs:a.eval s=v) (p:w.ownsRow base e size v n xs)
 (ad:Addr) (m c:Nat) (b:List Value) (M:a.eval x=.slice (some ad) m c) (G:b.length=m*size) (k:∀j u,b[j]?=some u->w.cell? (ad.add j)=some u) (h1:∀u∈b,u.oneCell'=true)
 (r:n+m<=maxLen) (f:(n+m)*d<=140737488355328) (g:base<=w.heap.size)
 (h:∀q w',w'.ownsRow base e size q (n+m) (xs++b)->w.grownBy w' v.ownBlock->K (a.put o.dst q) w'):
 if Region.wanted o (yielded ops a.tmps)=true then Oper.wp P o a w K Q else E:=by
 have L:Region.wanted o (yielded ops a.tmps)=true:=by simp[Region.wanted,A]
 rw[ak L];obtain⟨q,w',I,D,F,_,_⟩:=run_append_own_at (P:=P) w base t o.type e i z size d J hi N l y C B v n xs p ad m c b G k h1 r f g;unfold Oper.wp execOp;simp only[H,resolve,invoke,builtin,tW,xQ,ur,xV,cn,oh,hs,M,I];exact h q w' D F
open Go
def uW(ops:Array Oper)(o:Oper):Bool:=
 ((List.range ops.size).all λi=>o.after.any λe=>Region.binds .any e&&e.on==i)&&
 ((List.range ops.size).all λj=>match ops[j]? with
   |some a=>(a.after.all λe=> !Region.binds .any e||decide (e.on<j))&&(match a.guard with|none=>iV|some (k,_)=>decide (k<ops.size))
   |none=>iV)&&
 (o.after.all λe=> !Region.binds .any e||decide (e.on<ops.size))&&
 o.guard.isNone
def qZ(P:Program)(o:Oper)(Q:Exit->Act->iW->Prop):Exit->Act->iW->Prop
 | .normal,a,w=>wpList P #[] Q [o] a w
 |e,a,w=>Q e a w
theorem LetsOut.last{o:Oper}{Q:Exit->Act->iW->Prop}(h:LetsOut (qZ P o Q)):LetsOut Q:=by
 obtain⟨a,w,h⟩:=h;exact⟨a,w,h⟩
theorem Yw{o:Oper}{Q:Exit->Act->iW->Prop}{K:Act->iW->Prop}{r:Result Next}(h:oi.upon P a K (qZ P o Q) r):oi.upon P a K Q r:=by
 cases r with
 |ok n w'=>
  cases n<;>simp only[Oper.upon]at h⊢<;>
   first
    |exact h
    |exact cj h (λe c b=>by
     cases e
     ·exact b
     ·exact b
     ·exact LetsOut.last b)
 |halt x w'=>cases x<;>simp only[Oper.upon]at h⊢<;>exact h
theorem Nb{o:Oper}(h:uW ops o=iV):(∀i,i<ops.size->∃e∈o.after,Region.binds .any e=iV/\e.on=i)/\(∀j d,ops[j]?=X d->(∀e∈d.after,Region.binds .any e=iV->e.on<j)/\∀k b,d.guard=X (k,b)->k<ops.size)/\o.guard=O/\∀e∈o.after,Region.binds .any e=iV->e.on<ops.size:=by
 unfold uW at h;simp only[bn,gV,iw,Array.any_eq_true',wH,jg]at h;obtain⟨⟨⟨h1,l⟩,h4⟩,m⟩:=h;refine⟨λi hi=>?_,λj d g=>?_,m,λe c a=>?_⟩
 ·obtain⟨e,c,a,p⟩:=h1 i hi;exact⟨e,c,a,p⟩
 ·have f:=(aL.1 g).1;have:=l j f;rw[g]at this;simp only[bn,Gf,jS,ng,bH]at this;refine⟨λe c a=>?_,λk b n=>?_⟩
  ·rcases this.1 e c with q|q
   ·rw[a]at q;cases q
   ·exact q
  ·have q:=this.2;rw[n]at q
   simpa using q
 ·have:=Gf.1 h4 e c;simp only[jS,ng,bH]at this;rcases this with q|q
  ·rw[a]at q;cases q
  ·exact q
theorem GG(hs:listed.size=ops.size)(h:∀j c,ops[j]?=X c->∀e∈c.after,Region.binds .any e=iV->e.on<j)(g:Region.ready .any ops listed=[]):∀i,i<ops.size->listed.getD i iF=iV:=by
 intro i
 induction i using Nat.strongRecOn with
 |ind i ih=>
  intro hi;cases a:listed.getD i iF with
  |true=>rfl
  |false=>
   have b:i∈Region.ready .any ops listed:=by
    rw[qP];refine⟨?_,ops[i],pX hi,λe f d=>?_⟩
    ·have hi2:i<listed.size:=by omega
     simp[hi2]at a⊢;exact a
    ·have:=h i _ (pX hi) e f d;exact ih e.on this (by omega)
   rw[g]at b;cases b
theorem xv{d:Bool}(h:i<listed.size):(listed.push iF).getD i d=listed.getD i d:=by
 simp[Array.getElem?_push,h,Nat.ne_of_lt h]
theorem xt:(listed.push iF).getD i iF=listed.getD i iF:=by
 by_cases h:i<listed.size
 ·exact xv h
 ·by_cases e:i=listed.size
  ·subst e;simp
  ·simp[Array.getElem?_push,e]
theorem Wn{o:Oper}{Q:Exit->Act->iW->Prop}(h:uW ops o=iV):∀(fuel:Nat) (listed:Array Bool) (a:Act) (w:iW),listed.size=ops.size->
 wpAny P .any ops (qZ P o Q) fuel listed a w->wpAny P .any (ops.push o) Q (fuel+1) (listed.push iF) a w:=by
 obtain⟨h1,E,L,h4⟩:=Nb h;have M:∀(listed:Array Bool) (j:Nat),listed.size=ops.size->j∈Region.ready .any (ops.push o) (listed.push iF)->(j<ops.size/\j∈Region.ready .any ops listed)∨(j=ops.size/\∀i,i<ops.size->listed.getD i iF=iV):=by
  intro listed j hs f;rw[qP]at f;obtain⟨m,l,n,D⟩:=f;by_cases d:j<ops.size
  ·left;rw[xn d]at n;rw[xv (by omega)]at m
   refine⟨d,qP.2 ⟨m,l,by rw[pX d];exact n,λe u s=>?_⟩⟩
   have:=D e u s
   rwa [xt]at this
  ·right;have F:j<(ops.push o).size:=(aL.1 n).1;simp only[Array.size_push]at F;have e:j=ops.size:=by omega
   subst e;simp only[Hn,fu]at n;subst n;refine⟨rfl,λi hi=>?_⟩
   obtain⟨e,u,s,S⟩:=h1 i hi;have:=D e u s;rw[xt,S]at this;exact this
 have B:∀(listed:Array Bool),listed.size=ops.size->(∀i,i<ops.size->listed.getD i iF=iV)->Region.ready .any ops listed=[]:=by
  intro listed hs g;rw[H5];intro j f;rw[qP]at f;obtain⟨m,l,n,-⟩:=f;have d:=(aL.1 n).1;have:=g j d;have v:j<listed.size:=by omega
  simp[v]at m this;rw[m]at this;cases this
 have p:∀(fuel:Nat) (listed:Array Bool) (a:Act) (w:iW),listed.size=ops.size->(∀i,i<ops.size->listed.getD i iF=iV)->wpList P #[] Q [o] a w->wpOp P (ops.push o) Q ops.size (wpAny P .any (ops.push o) Q fuel ((listed.push iF).setIfInBounds ops.size iV)) a w:=by
  intro fuel listed a w hs g r;have t:Region.ready .any (ops.push o) ((listed.push iF).setIfInBounds ops.size iV)=[]:=by
   rw[H5];intro j f;rw[qP]at f;obtain⟨m,l,n,-⟩:=f;have d:=(aL.1 n).1;simp only[Array.size_push]at d;by_cases e:ops.size=j
   ·subst e;have:ops.size<(listed.push iF).size:=by simp[hs]
    rw[Array.getD_eq_getD_getElem?,Array.getElem?_setIfInBounds_self_of_lt this]at m;cases m
   ·rw[getD_set_ne iV e,xv (by omega)]at m
    have G:=g j (by omega)
    have v:j<listed.size:=by omega
    simp[v]at m G;rw[m]at G;cases G
  unfold wpOp;simp only[Hn,Region.wanted,L,dw];simp only[wpList,Region.wanted,L,dw]at r;exact r.imp (Oper.wp_mono (λJ w' x=>wpAny_done t x fuel)) id
 have A:∀(listed:Array Bool),listed.size=ops.size->(∀i,i<ops.size->listed.getD i iF=iV)->ops.size∈Region.ready .any (ops.push o) (listed.push iF):=by
  intro listed hs g;rw[qP];refine⟨by simp[<-hs],o,by simp,λe u s=>?_⟩
  rw[xt];exact g e.on (h4 e u s)
 have V:∀(listed:Array Bool) (j:Nat),listed.size=ops.size->j∈Region.ready .any ops listed->j∈Region.ready .any (ops.push o) (listed.push iF):=by
  intro listed j hs f;rw[qP]at f⊢;obtain⟨m,l,n,D⟩:=f;have d:=(aL.1 n).1;refine⟨by rw[xv (by omega)];exact m,l,by rw[xn d,<-pX d];exact n,λe u s=>?_⟩
  rw[xt];exact D e u s
 have Y:∀(c:Array iX) (k:Nat),k<ops.size->yielded (ops.push o) c k=yielded ops c k:=by
  intro c k x;unfold yielded;rw[xn x,<-pX x]
 have W:∀(l:Oper) (j:Nat) (c:Array iX),ops[j]?=X l->Region.wanted l (yielded (ops.push o) c)=Region.wanted l (yielded ops c):=by
  intro l j c f;unfold Region.wanted;cases R:l.guard with
  |none=>rfl
  |some U=>
   obtain⟨k,b⟩:=U;simp only;rw[Y c k ((E j l f).2 k b R)]
 have I:∀(j:Nat) (K:Act->iW->Prop) (a:Act) (w:iW),j<ops.size->wpOp P ops (qZ P o Q) j K a w->wpOp P (ops.push o) Q j K a w:=by
  intro j K a w f r;have y:ops[j]?=X ops[j]:=pX f;unfold wpOp at*;rw[xn f];rw[y]at r;simp only at r⊢;rw[W _ j a.tmps y];split
  ·rename_i hw
   simp only[hw,dw]at r;exact r.imp (λq=>Yw q) (λq=>⟨q.1,LetsOut.last q.2⟩)
  ·rename_i hw
   simp only[hw]at r;exact r
 intro fuel
 induction fuel with
 |zero=>
  intro listed a w hs H;have g:=GG hs (λj l f=>(E j l f).1) H.1
  refine⟨λC=>?_,λj f=>?_⟩
  ·have:=A listed hs g;rw[C]at this;cases this
  ·rcases M listed j hs f with⟨-,q⟩|⟨rfl,q⟩
   ·rw[H.1]at q;cases q
   ·exact p 0 listed a w hs q H.2
 |succ fuel T=>
  intro listed a w hs H;refine⟨λC=>?_,λj f=>?_⟩
  ·cases z:Region.ready .any ops listed with
   |nil=>
    have:=A listed hs (GG hs (λj l f=>(E j l f).1) z)
    rw[C]at this;cases this
   |cons k Z=>
    have:=V listed k hs (by rw[z];simp)
    rw[C]at this;cases this
  ·rcases M listed j hs f with⟨d,q⟩|⟨rfl,q⟩
   ·have N:=I j _ a w d (H.2 j q);refine wpOp_mono (λJ w' x=>?_) N
    have O:=T (listed.setIfInBounds j iV) J w' (by simpa using hs) x
    have e:(listed.push iF).setIfInBounds j iV=(listed.setIfInBounds j iV).push iF:=by
     apply uJ;rw[yr,Array.toList_push,Array.toList_push,yr,Dk _ _ (by rw[Array.length_toList];omega)]
    rw[e];exact O
   ·exact p (fuel+1) listed a w hs q (H.1 (B listed hs q))
theorem Pe {id:Nat} {l:List Oper} {o:Oper} {Q:Exit->Act->iW->Prop} {S:iW->Prop} {w:iW} (g:P.follows .mixedOrders=iV) (h:uW l.toArray o=iV) (e:S w.drew)
 (f:S w.drew->wpAnyH P .any l.toArray (qZ P o Q) S l.length (Array.replicate l.length iF) a w.drew):(Code.region id (l++[o]).toArray iV).wp P Q a w:=by
 refine wp_region_any g ?_;have b:(l++[o]).toArray=l.toArray.push o:=by simp
 have c:(l++[o]).toArray.size=l.length+1:=by simp
 rw[c,b];have d:Array.replicate (l.length+1) iF=(Array.replicate l.length iF).push iF:=by rw[Array.replicate_succ]
 rw[d];exact Wn h l.length _ a _ (by simp) (wpAny_of_held _ _ _ _ (f e))
theorem zT {id:Nat} (n:Nat) {l:List Oper} {o:Oper} {Q:Exit->Act->iW->Prop} {S:iW->Prop} {w:iW} (d:P.follows .mixedOrders=iV) (f:l.drop n=[o]) (h:uW l.dropLast.toArray o=iV) (b:S w.drew)
 (c:S w.drew->wpAnyH P .any l.dropLast.toArray (qZ P o Q) S l.dropLast.length (Array.replicate l.dropLast.length iF) a w.drew):(Code.region id l.toArray iV).wp P Q a w:=by
 have e:l=l.dropLast++[o]:=by
  have:=jo n l;rw[f]at this;rw[<-this,List.dropLast_concat]
 have:=Pe (id:=id) (Q:=Q) (S:=S) d h b c;rw[<-e]at this;exact this
theorem yn {l:List Oper} {Q:Exit->Act->iW->Prop} {S:iW->Prop} (i:Nat) {v:iX} {w:iW} (d:l.drop i=oi::rest)
 (hs:Region.noSelect l.toArray=iV) (e:Region.free .any l.toArray listed i=iV) (g:(Region.ready .any l.toArray listed).contains i=iV)
 (hQ:∀c a w,Q (.panic c) (a.put oi.dst v) w->Q (.panic c) a w) (f:Region.wanted oi (yielded l.toArray a.tmps)=iV) (b:S w) (hy:∀w,S w->(execOp a.eval oi).run P w=.ok (.value v) w)
 (h:wpAnyH P .any l.toArray Q S fuel (listed.setIfInBounds i iV) (a.put oi.dst v) w):wpAnyH P .any l.toArray Q S (fuel+1) listed a w:=by
 have hi:l.toArray[i]?=X oi:=by
  have:l[i]?=(l.drop i)[0]?:=by simp
  rw[nM,this,d];rfl
 exact lg hi hs e g hQ (Or.inl ⟨f,hy⟩) b h
theorem aH {l:List Oper} {Q:Exit->Act->iW->Prop} {S:iW->Prop} (i:Nat) {v:iX} {d:Act} {w:iW} (h:wpAnyH P .any l.toArray Q S fuel (listed.setIfInBounds i iV) d w) (f:l.drop i=oi::rest:=by exact rfl)
 (hs:Region.noSelect l.toArray=iV:=by kernel_rfl) (g:Region.free .any l.toArray listed i=iV:=by kernel_rfl) (m:(Region.ready .any l.toArray listed).contains i=iV:=by kernel_rfl)
 (hQ:∀c a w,Q (.panic c) (a.put oi.dst v) w->Q (.panic c) a w:=by exact λ_ _ _ h=>h) (j:Region.wanted oi (yielded l.toArray a.tmps)=iV:=by rfl) (e:S w:=by assumption) (hy:∀w,S w->(execOp a.eval oi).run P w=.ok (.value v) w:=by(intro w b;(try dsimp only at b);go_simp;all_goals with_reducible rfl))
 (k:a.put oi.dst v=d:=by(simp only[Act.put,cN,cu,bZ];try rfl)):wpAnyH P .any l.toArray Q S (fuel+1) listed a w:=
 yn i f hs g m hQ j e hy (k▸h)
theorem nO {l:List Oper} {Q:Exit->Act->iW->Prop} {S:iW->Prop} (i:Nat) {b:Act} {w:iW} (h:wpAnyH P .any l.toArray Q S fuel (listed.setIfInBounds i iV) b w) (e:l.drop i=oi::rest:=by exact rfl)
 (hs:Region.noSelect l.toArray=iV:=by kernel_rfl) (f:Region.free .any l.toArray listed i=iV:=by kernel_rfl) (k:(Region.ready .any l.toArray listed).contains i=iV:=by kernel_rfl)
 (hQ:∀c a w,Q (.panic c) (a.put oi.dst undef) w->Q (.panic c) a w:=by exact λ_ _ _ h=>h) (g:Region.wanted oi (yielded l.toArray a.tmps)=iF:=by rfl) (d:S w:=by assumption)
 (j:a.put oi.dst undef=b:=by(simp only[Act.put,cN,cu,bZ];try rfl)):wpAnyH P .any l.toArray Q S (fuel+1) listed a w:=by
 have hi:l.toArray[i]?=X oi:=by
  have:l[i]?=(l.drop i)[0]?:=by simp
  rw[nM,this,e];rfl
 exact lg hi hs f k hQ (Or.inr ⟨g,rfl⟩) d (j▸h)
theorem dG {l:List Oper} {Q:Exit->Act->iW->Prop} {S:iW->Prop} (i:Nat) {w:iW} (c:l.drop i=oi::rest) (d:Region.ready .any l.toArray listed=[i])
 (h:∀b:Act->iW->Prop,Shut (∀a w,S w->(S w->wpAnyH P .any l.toArray Q S fuel (listed.setIfInBounds i iV) a w)->b a w)->if Region.wanted oi (yielded l.toArray a.tmps)=iV then Oper.wp P oi a w b Q else b (a.put oi.dst undef) w):
 wpAnyH P .any l.toArray Q S (fuel+1) listed a w:=by
 have hi:l.toArray[i]?=X oi:=by
  have:l[i]?=(l.drop i)[0]?:=by simp
  rw[nM,this,c];rfl
 exact BH d (by simp) (yF hi h Bv)
theorem BL{o:Oper}{Q:Exit->Act->iW->Prop}{w:iW}(h:wpList P #[] Q [o] a w):qZ P o Q .normal a w:=h
theorem Kp:(Tryz.prog.info? 30).map (·.size)=X 1:=by kernel_rfl
def AP(w W:iW)(z:Nat)(b a:iX)(c:List Kw):Prop:=W.heap[z]?=X (iC #[b] 30 (0,0))/\W.heap[z+1]?=X (iC #[Y O 0 0] 30 (0,0))/\W.heap[z+2]?=X (iC #[a] 30 (0,0))/\cA W (z+3) a c/\iL z w W
variable{rs:List Kw}
theorem cA.cellB{W:iW}{v:iX}(h:cA W B v rs)(c:g<B)(i:Nat)(u:iX):cA (W.setCell ⟨g,i,O⟩ u) B v rs:=by
 have e:(W.setCell ⟨g,i,O⟩ u).heap.size=W.heap.size:=by simp[World.setCell]
 refine⟨J4 h.1 c i u,λr a=>⟨?_,(h.2.1 r a).2⟩,h.2.2⟩
 rw[e];exact(h.2.1 r a).1.grown (mg _ g i _) (λq d b=>by
  have:=((h.2.1 r a).1.lt q d).1;cases b;omega)
theorem ID(W:iW)(lf:Bool)(v:iX):∀(j:Nat) (u:iX),[iB lf,v][j]?=X u->(W.alloc (iC #[iB lf,v] 189)).cell? ((⟨W.heap.size,0,O⟩:Addr).add j)=X u:=by
 intro j u a
 match j,a with
 |0,a|1,a=>
  simp at a;subst a;simp[Addr.add]
theorem I7(lf:Bool)(b:Option Addr)(n c:Nat):∀u∈ [iB lf,Y b n c],u.oneCell'=iV:=by
 intro u a;simp at a;rcases a with h|h<;>subst h<;>rfl
theorem ru(l:List Int):∀u∈ax l,u.oneCell'=iV:=by
 intro u a;obtain⟨x,-,rfl⟩:=bJ.1 a;rfl
theorem QV{l:List Int}{u:iX}(h:(ax l)[j]?=X u):∃x,l[j]?=X x/\u=I J x:=by
 rw[ax,bi]at h;obtain⟨x,a,rfl⟩:=og.1 h;exact⟨x,a,rfl⟩
theorem fG.cells{w:iW}{b a d:Nat}{ls:List Int}(h:fG w (X ⟨b,a,O⟩) d ls)(j:Nat)(u:iX)(i:(ax ls)[j]?=X u):w.cell? ((⟨b,a,O⟩:Addr).add j)=X u:=by
 obtain⟨x,k,rfl⟩:=QV i;obtain⟨l,f,e,-,c⟩:=h.at k;injection e with e
 injection e with e1 e2
 subst e1 e2;have g:(⟨b,a,O⟩:Addr).add j=⟨b,a+j,O⟩:=by simp only[Addr.add];split<;>simp_all
 rw[g];exact c
theorem YA (w:World) {o:Oper} {Q:Exit->Act->World->Prop} (k:o.guard=none) (s x:Operand)
 (A:o.op=.call {callee:=.builtin .append,args:= #[s,x],argTypes:= #[36,36]})
 (base:Nat) (i:TypeInfo) (hi:Tryz.prog.info? 3=some i) (F:i.zero=some (.int .i64 0)) (j:i.size=1) (r:i.bytes=8)
 (v:Value) (n:Nat) (xs:List Value) (hs:a.eval s=v) (f:w.ownsRow base 3 1 v n xs)
 (ls:List Int) (m:Nat) (H:ls.length=m) (u:Value) (z:a.eval x=u) (B:ku w u ls) (p:n+m<=maxLen) (d:(n+m)*8<=140737488355328) (g:base<=w.heap.size)
 (h:∀G w',w'.ownsRow base 3 1 G (n+m) (xs++ax ls)->w.grownBy w' v.ownBlock->K (a.put o.dst G) w'):
 if Region.wanted o (yielded ops a.tmps)=true then Oper.wp Tryz.prog o a w K Q else E:=by
 subst H;obtain⟨ad,c,rfl,h0,D⟩:=B;cases ls with
 |nil=>
  cases ad with
  |none=>
   rw[h0 rfl]at z;have I:Region.wanted o (yielded ops a.tmps)=true:=by simp[Region.wanted,k]
   rw[ak I];have t:=Jd (P:=Tryz.prog) (w:=w) base 36 o.type 3 i 1 Tryz.underlying36 hi v n xs f;unfold Oper.wp execOp;simp only[A,resolve,invoke,builtin,tW,xQ,ur,xV,cn,oh,hs,z,dU,t];exact h v w (by simpa[ax]using f) (wM _ _)
  |some q=>exact pu w k s x 36 A base 3 i (.int .i64 0) 1 8 Tryz.underlying36 hi F j r rfl (by decide) v n xs hs f q 0 c [] z rfl (λ_ _ e=>by simp at e) (λ_ e=>by cases e) p d g h
 |cons y l=>
  obtain⟨b,C,e,-,J⟩:=D.2.2 (by simp)
  subst e;exact pu w k s x 36 A base 3 i (.int .i64 0) 1 8 Tryz.underlying36 hi F j r rfl (by decide) v n xs hs f ⟨b,C,none⟩ _ c (ax (y::l)) z (by simp[ax]) D.cells (ru _) p d g h
theorem Bm(ad:Option Addr)(a cap:Nat)(rs:List Kw)(w:iW)(hl:a<=1048578)(ak:∀r∈rs,r.2.2.length<=1048576)(h:dB w ad a rs):
 iK Tryz.prog 85 #[iA #[Y ad a cap]] w λe w'=>∃v,e=G v/\oz w (rs.map aD) v w':=by
 have za:(w.alloc (iC #[Y ad a cap] 30)).heap.size=w.heap.size+1:=by simp
 have zb:((w.alloc (iC #[Y ad a cap] 30)).alloc (iC #[Y O 0 0] 30)).heap.size=w.heap.size+1+1:=by simp
 have R0:=aC w (iC #[Y ad a cap] 30);have R1:=aC (w.alloc (iC #[Y ad a cap] 30)) (iC #[Y O 0 0] 30);have R2:=aC ((w.alloc (iC #[Y ad a cap] 30)).alloc (iC #[Y O 0 0] 30)) (iC #[Y O 0 0] 30);rw[za]at R1;rw[zb]at R2;have S0:ah (AP w (((w.alloc (iC #[Y ad a cap] 30)).alloc (iC #[Y O 0 0] 30)).alloc (iC #[Y O 0 0] 30)) w.heap.size (Y ad a cap) (Y O 0 0) []):=
  ⟨(gt _ _ _ (by simp;omega)).trans ((gt _ _ _ (by simp)).trans R0),(gt _ _ _ (by simp)).trans R1,R2,cA.nil _ _,((bh).alloc (by simp) _).alloc (by simp;omega) _⟩
 have H:=af h;have H1:=af h.1;have ap:=af ak;clear za zb R0 R1 R2 h ak;go_enter Tryz.func85,Tryz.ntmps85;go_wp2;generalize((w.alloc (iC #[Y ad a cap] 30)).alloc (iC #[Y O 0 0] 30)).alloc (iC #[Y O 0 0] 30)=wa at S0⊢;obtain⟨z,hz⟩:=aq w.heap.size;rw[hz]at S0⊢;have HZ:=af hz;clear hz;go_loopw [4] (λiv W=>∃(k:Nat) (ov:iX) (g:List Kw),k<=a/\iv=I J k/\g.length<=k/\ah (g.map aD=(rs.map aD).take k)/\ah (AP w W z (Y ad a cap) ov g)) (λiv _=>a-(intOf iv).toNat)
 case atStart=>exact⟨0,_,[],aK _,rfl,aK _,by show _=_;simp,S0⟩
 case round=>
  obtain⟨k,ov,g,hk,rfl,av,HT,f⟩:=hrel;clear S0;have a0:=ai _ _ 0 _ _ _ f.o.1;have o0:=ai _ _ 0 _ _ _ f.o.2.2.1;have fo:=aF _ _ 0 _ _ f.o.2.2.1;by_cases aB:(k:Int)<a
  ·obtain⟨r,hr⟩:∃r,rs[k]?=X r:=⟨_,ay (by have:=H1.o;omega)⟩
   obtain⟨b,j,e,hb⟩:=H.o.adr (by omega)
   subst e;have KR:=af (H.o.below (by rw[HZ.o];exact f.o.2.2.2.2))
   obtain⟨c0,c1⟩:=KR.o.cell hr;have al:=ap.o r (aO hr);obtain⟨ka,kc,aj,ag,kr⟩:=KR.o.2.2.1 r (aO hr);obtain⟨lf,kv,ls⟩:=r;simp only at c0 c1 al aj kr;subst aj;have ab:ah (ku wr (Y ka ls.length kc) ls):=⟨ka,kc,rfl,ag,kr⟩;have Z:ah (g.map aD++[⟨lf,ls⟩]=(rs.map aD).take (k+1)):=by
    show _=_;rw[HT.o,eG,wP hr];rfl
   have k0:(0:Int)<=k:=by omega
   obtain⟨i,R⟩:=aq ls.length;rw[R]at c1 al ab;clear kr hr hb HT ag;obtain⟨u,x,T⟩:=f.o.2.2.2.1.form;subst T;obtain⟨l,U⟩:=aq g.length;rw[U]at f o0 av;have P:=af U;obtain⟨i0,y,A,B,C⟩:=bV lp;have I0:=af y;have Y0:=af A;have Y1:=af B;have Y2:=af C;clear y A B C;obtain⟨j0,y,A,B,C⟩:=bV tM;have J0:=af y;have X0:=af A;have X1:=af B;have X2:=af C;clear y A B C U;have L:=af R;clear R;have c:ah (z+3<=wr.heap.size):=by have:=(aL.1 f.o.2.2.1).1;show _<=_;omega
   have ae:ah (b<z):=by have:=HZ.o;obtain⟨b',o',e,q⟩:=H.o.adr (by omega);cases e;show _<_;omega
   have s:ah (∀W,iL (z+2) wr W->W.cell? ⟨z,0,O⟩=X (Y (X ⟨b,j,O⟩) a cap)/\W.cell? ⟨b,j+k*2,O⟩=X (iB lf)/\W.cell? ⟨b,j+k*2+1,O⟩=X (Y ka i kc)):=λW hW=>
    ⟨(hW.cell (show z<z+2 by omega)).trans a0,(hW.cell (show b<z+2 by have:=ae.o;omega)).trans c0,(hW.cell (show b<z+2 by have:=ae.o;omega)).trans c1⟩
   have F:ah (∀W,iL (z+3) wr W->W.cell? ⟨z+1+1,0,O⟩=X (Y u l x)):=λW hW=>(hW.cell (show z+2<z+3 by omega)).trans o0
   have oA:(wr.alloc (iC #[] 3)).cell? ⟨z+1+1,0,O⟩=X (Y u l x):=F.o _ ((bh).mono c.o);have oW:wr.cell? ⟨z+1+1,0,O⟩=X (Y u l x):=o0;have ac:ah (wr.ownsRow (z+3) 189 2 (Y u l x) l (d8 g)):=by have:=f.o.2.2.2.1.1;rw[P.o]at this;exact this
   have BA:ah (iL wr.heap.size wr (wr.alloc (iC #[] 3)).drew):=(bh).drew;have OE:ah ((wr.alloc (iC #[] 3)).drew.ownsRow wr.heap.size 3 1 (Y (X ⟨wr.heap.size,0,O⟩) 0 0) 0 []):=⟨rfl,.inr ⟨wr.heap.size,0,#[],rfl,am _,aC wr _,am _,by unfold maxLen;omega,rfl,rfl⟩⟩
   have C1:=af (ab.o.below BA.o);have M:=af BA.o.size;go_wp2_with fail;refine zT 20 (S:=λw'=>w'.cell? ⟨z,0,O⟩=X (Y (X ⟨b,j,O⟩) a cap)/\w'.cell? ⟨b,j+k*2,O⟩=X (iB lf)/\w'.cell? ⟨b,j+k*2+1,O⟩=X (Y ka i kc)/\w'.cell? ⟨z+1+1,0,O⟩=X (Y u l x)) (by kernel_rfl) rfl (by kernel_rfl) (by first|go_keep|exact⟨a0,c0,c1,o0⟩) (λhHeld=>?_)
   simp only[zU,Ab,aV,dU,Nat.reduceAdd];refine aH 0 ?_;refine aH 1 ?_;refine aH 2 ?_;refine aH 3 ?_;refine aH 4 ?_;refine aH 5 ?_;refine aH 6 ?_;refine aH 7 ?_;refine aH 9 ?_;refine aH 10 ?_;refine aH 11 ?_;refine aH 12 ?_;refine aH 13 ?_;refine aH 14 ?_;refine dG 8 rfl (by kernel_rfl) (λK t=>?_)
   go_simp;refine t.out _ _ (by first|go_keep|exact⟨(s.o _ (BA.o.mono (by have:=c.o;omega))).1,(s.o _ (BA.o.mono (by have:=c.o;omega))).2.1,(s.o _ (BA.o.mono (by have:=c.o;omega))).2.2,oA⟩) (λhHeld2=>?_)
   clear t K hHeld;have hHeld:=hHeld2;clear hHeld2
   (try simp only[Act.put,cN,cu,bZ])
   refine dG 15 rfl (by kernel_rfl) (λK t=>?_)
   refine YA _ (by rfl) (.tmp 21) (.tmp 27) (by rfl) wr.heap.size i0 I0.o Y0.o Y1.o Y2.o _ 0 [] (by simp[Act.eval]) OE.o ls i L.o _ (by simp[Act.eval]) C1.o (by unfold maxLen;omega) (by omega) M.o ?_
   intro v1 E o1 g1;have B1:ah (iL wr.heap.size wr E):=BA.o.grown g1 M.o (λq hq=>(OE.o.lt q hq).1)
   have n:ah (iL (z+3) wr E):=B1.o.mono c.o;rw[jT,eV]at o1;obtain⟨m,vc,az,-⟩:=(aG.of o1).form;subst az;have O1:=af o1;have BC:=af (aR E (iC #[iB lf,Y m i vc] 189));have D:ah (iL wr.heap.size wr (E.alloc (iC #[iB lf,Y m i vc] 189))):=B1.o.trans (BC.o.mono B1.o.size);have Q:=af (bE ac.o D.o);have oB:E.cell? ⟨z+1+1,0,O⟩=X (Y u l x):=F.o _ n.o;have oC:(E.alloc (iC #[iB lf,Y m i vc] 189)).cell? ⟨z+1+1,0,O⟩=X (Y u l x):=F.o _ (D.o.mono c.o);have N:ah (z+3<=(E.alloc (iC #[iB lf,Y m i vc] 189)).heap.size):=bT c.o D.o.size;clear o1 g1;refine t.out _ _ (by exact⟨(s.o _ (n.o.mono (by omega))).1,(s.o _ (n.o.mono (by omega))).2.1,(s.o _ (n.o.mono (by omega))).2.2,F.o _ n.o⟩) (λhHeld2=>?_)
   clear t K hHeld;have hHeld:=hHeld2;clear hHeld2
   (try simp only[Act.put,cN,cu,bZ])
   refine aH 16 ?_;refine dG 17 rfl (by kernel_rfl) (λK t=>?_)
   go_simp;refine t.out _ _ (by exact⟨(s.o _ (D.o.mono (by have:=c.o;omega))).1,(s.o _ (D.o.mono (by have:=c.o;omega))).2.1,(s.o _ (D.o.mono (by have:=c.o;omega))).2.2,F.o _ (D.o.mono c.o)⟩) (λhHeld2=>?_)
   clear t K hHeld;have hHeld:=hHeld2;clear hHeld2
   (try simp only[Act.put,cN,cu,bZ])
   refine dG 18 rfl (by kernel_rfl) (λK t=>?_)
   refine pu _ (by rfl) (.tmp 14) (.tmp 30) 28 (by rfl) (z+3) 189 j0 (iA #[iB iF,Y O 0 0]) 2 32 Tryz.underlying28 J0.o X0.o X1.o X2.o rfl (by decide) _ l (d8 g) (by simp[Act.eval]) Q.o ⟨E.heap.size,0,O⟩ 1 1 [iB lf,Y m i vc] (by simp[Act.eval]) rfl (ID _ _ _) (I7 _ _ _ _) (by unfold maxLen;omega) (by omega) N.o ?_
   intro u2 V o2 g2;have d:ah (iL (z+3) wr V):=(D.o.mono c.o).grown g2 N.o (λq hq=>(Q.o.lt q hq).1)
   obtain⟨ua,uc,aw,-⟩:=(aG.of o2).form;subst aw;have O2:=af o2;have G2:=af g2;have oD:V.cell? ⟨z+1+1,0,O⟩=X (Y u l x):=F.o _ d.o;have ao:ah (iL (z+2) wr (V.setCell ⟨z+1+1,0,O⟩ (Y ua (l+1) uc))):=(d.o.mono (by omega)).setCell (p:=⟨z+1+1,0,O⟩) (by show z+2<=z+1+1;omega) _
   have ar:V.frozen? ⟨z+1+1,0,O⟩=iF:=aF _ _ 0 _ _ ((d.o.block (z+2) (by omega)).trans f.o.2.2.1)
   clear o2 g2;refine t.out _ _ (by exact⟨(s.o _ (d.o.mono (by omega))).1,(s.o _ (d.o.mono (by omega))).2.1,(s.o _ (d.o.mono (by omega))).2.2,F.o _ d.o⟩) (λhHeld2=>?_)
   clear t K hHeld;have hHeld:=hHeld2;clear hHeld2
   (try simp only[Act.put,cN,cu,bZ])
   refine aH 19 ?_;refine wpAnyH_done (by kernel_rfl) ?_ _
   refine BL ?_;go_wp2_with fail;all_goals
    have SN:ah (AP w (V.setCell ⟨z+1+1,0,O⟩ (Y ua (l+1) uc)) z (Y (X ⟨b,j,O⟩) a cap) (Y ua (l+1) uc) (g++[(lf,Y m i vc,ls)])):=by
     have o2:=O2.o;have au:aG 3 wr.heap.size (E.alloc (iC #[iB lf,Y m i vc] 189)).heap.size (Y m i vc) ls.length (ax ls) (E.alloc (iC #[iB lf,Y m i vc] 189)):=by
      rw[L.o];exact((aG.of O1.o).blw BC.o).up BC.o.size
     have ho:V.ownsRow (z+3) 189 2 (Y ua (l+1) uc) (g++[(lf,Y m i vc,ls)]).length (d8 (g++[(lf,Y m i vc,ls)])):=by
      rw[<-Js,aJ,P.o];exact o2
     have t:=cA.snoc (r:=(lf,Y m i vc,ls)) f.o.2.2.2.1 D.o c.o au (by simp only;have:=L.o;unfold maxLen;omega) G2.o ho
     refine⟨cU ((d.o.block z (by omega)).trans f.o.1) (by omega) _ _,cU ((d.o.block (z+1) (by omega)).trans f.o.2.1) (by omega) _ _,?_,t.cellB (show z+1+1<z+3 by omega) _ _,((f.o.2.2.2.2.trans (d.o.mono (by omega))).setCell (p:=⟨z+1+1,0,O⟩) (by show z<=z+1+1;omega) _)⟩
     exact(dq ((d.o.block (z+2) (by omega)).trans f.o.2.2.1) 0 _)
    have aa:ah ((g++[(lf,Y m i vc,ls)]).map aD=(rs.map aD).take (k+1)):=by
     show _=_;rw[fm];exact Z.o
    have an:(g++[(lf,Y m i vc,ls)]).length<=k+1:=by rw[aJ,P.o];simp;omega
    generalize g++[(lf,Y m i vc,ls)]=aA at SN aa an;generalize V.setCell ⟨z+1+1,0,O⟩ (Y ua (l+1) uc)=w3 at SN⊢;clear O1 O2 G2 BC D Q N n d ao oB oC oD oA oW ar s F ac BA OE C1 M f Z;go_wp2;go_roundw
    case rel=>exact⟨k+1,_,aA,by omega,by go_num,an,aa,SN⟩
    case measure=>simp[intOf];omega
  ·obtain⟨u,x,T⟩:=f.o.2.2.2.1.form;subst T;have r0:=ai _ _ 0 _ _ _ f.o.2.1;have f0:=aF _ _ 0 _ _ f.o.2.1;have o1:wr.cell? ⟨z+1+1,0,O⟩=X (Y u g.length x):=o0;have ET:ah (g.map aD=rs.map aD):=by
    show _=_;rw[HT.o,bL (by rw[bm];have:=H1.o;omega)]
   go_wp2;refine aE (uD rfl _ _ (z+1) 30 _ (0,0) _ rfl (dq f.o.2.1 0 (Y u g.length x)) Tryz.underlying30 rfl Kp) rfl ⟨_,rfl,Y u g.length x,g,rfl,?_,ET.o,?_⟩
   ·rw[HZ.o];exact(f.o.2.2.2.1.cellB (show z+1<z+3 by omega) _ _).down (by omega)
   ·rw[HZ.o];exact f.o.2.2.2.2.setCell (p:=⟨z+1,0,O⟩) (by show z<=z+1;omega) _
theorem q8 {id:Nat} {l:List Oper} {Q:Exit->Act->iW->Prop} (S:iW->Prop) {w:iW} (e:P.follows .mixedOrders=iV) (c:S w.drew)
 (d:S w.drew->wpAnyH P .any l.toArray Q S l.length (Array.replicate l.length iF) a w.drew):(Code.region id l.toArray iV).wp P Q a w:=by
 refine wp_region_any e ?_;have b:l.toArray.size=l.length:=by simp
 rw[b];exact wpAny_of_held _ _ _ _ (d c)
theorem aaC {l:List Oper} {Q:Exit->Act->iW->Prop} {S:iW->Prop} (i:Nat) {w:iW} (d:l.drop i=oi::rest)
 (hs:Region.noSelect l.toArray=iV) (e:Region.free .any l.toArray listed i=iV) (g:(Region.ready .any l.toArray listed).contains i=iV)
 (hQ:∀c a w,Q (.panic c) (a.put oi.dst undef) w->Q (.panic c) a w) (f:Region.wanted oi (yielded l.toArray a.tmps)=iF) (b:S w)
 (h:wpAnyH P .any l.toArray Q S fuel (listed.setIfInBounds i iV) (a.put oi.dst undef) w):wpAnyH P .any l.toArray Q S (fuel+1) listed a w:=by
 have hi:l.toArray[i]?=X oi:=by
  have:l[i]?=(l.drop i)[0]?:=by simp
  rw[nM,this,d];rfl
 exact lg hi hs e g hQ (Or.inr ⟨f,rfl⟩) b h
theorem oG{l:List Oper}{Q:Exit->Act->iW->Prop}{S:iW->Prop}{w:iW}(b:Region.ready .any l.toArray listed=[])(h:Q .normal a w):wpAnyH P .any l.toArray Q S fuel listed a w:=wpAnyH_done b h fuel
def fJ(w:iW)(s:Sto)(v:iX)(w':iW):Prop:=
 ∃vv kv lo1 hi1 lo2 hi2,v=iA #[vv,kv,I J s.next]/\aG 66 lo1 hi1 vv s.fV.length (ch s.fV) w'/\dy lo2 hi2 kv s.fK w'/\w.heap.size<=lo1/\hi1<=w'.heap.size/\w.heap.size<=lo2/\hi2<=w'.heap.size/\(hi1<=lo2∨hi2<=lo1)/\iL w.heap.size w w'
def mR(v:iX):Prop:=∃a n c k x,v=iA #[Y a n c,k,x]/\n<=c
theorem Dt{w:iW}{c:Nat}{a:Option Addr}{xs:List iX}(h:w.ownsRow B e size (Y a n c) m xs):n<=c:=by
 rcases h.2 with⟨h1,d⟩|⟨g,cap,b,h1,d,f,h4,-⟩
 ·injection h1 with e1 e2 e3
  omega
 ·injection h1 with e1 e2 e3
  omega
theorem rQ (w:iW) {o:Oper} {K:Act->iW->Prop} {Q:Exit->Act->iW->Prop} (p:o.guard=O) (s x:Operand)
 (B:o.op=.call {callee:=.builtin .append,args:= #[s,x],argTypes:= #[27,27]})
 (base:Nat) (i:TypeInfo) (hi:Tryz.prog.info? 66=X i) (G:i.zero=X (iA #[I J 0,I J 0])) (k:i.size=2) (t:i.bytes=16)
 (v:iX) (n:Nat) (xs:List iX) (hs:a.eval s=v) (f:w.ownsRow base 66 2 v n xs)
 (ls:List (Int×Int)) (m:Nat) (M:ls.length=m) (u:iX) (A:a.eval x=u) (C:pQ w u ls) (r:n+m<=maxLen) (d:(n+m)*16<=140737488355328) (g:base<=w.heap.size)
 (h:∀H w',w'.ownsRow base 66 2 H (n+m) (xs++ch ls)->w.grownBy w' v.ownBlock->K (a.put o.dst H) w'):
 if Region.wanted o (yielded ops a.tmps)=iV then Oper.wp Tryz.prog o a w K Q else E:=by
 subst M;obtain⟨ad,c,rfl,h0,F⟩:=C;cases ls with
 |nil=>
  cases ad with
  |none=>
   rw[h0 rfl]at A;have N:Region.wanted o (yielded ops a.tmps)=iV:=by simp[Region.wanted,p]
   rw[ak N];have z:=Jd (P:=Tryz.prog) (w:=w) base 27 o.type 66 i 2 Tryz.underlying27 hi v n xs f;unfold Oper.wp execOp;simp only[B,resolve,invoke,builtin,tW,xQ,ur,xV,cn,oh,hs,A,dU,z];exact h v w (by simpa[ch]using f) (wM _ _)
  |some q=>exact pu w p s x 27 B base 66 i (iA #[I J 0,I J 0]) 2 16 Tryz.underlying27 hi G k t rfl (by decide) v n xs hs f q 0 c [] A rfl (λ_ _ e=>by simp at e) (λ_ e=>by cases e) r d g h
 |cons y l=>
  obtain⟨b,D,e,-,R⟩:=F.2.2.2 (by simp)
  subst e;exact pu w p s x 27 B base 66 i (iA #[I J 0,I J 0]) 2 16 Tryz.underlying27 hi G k t rfl (by decide) v n xs hs f ⟨b,D,O⟩ _ c (ch (y::l)) A (Iq _) (λj u L=>by rw[G9];exact F.cells j u L) (VD _) r d g h
theorem Xg(c:Option Addr)(b vc:Nat)(ad:Option Addr)(a cap:Nat)(nx:Int)(vs:List (Int×Int))(rs:List Kw)(w:iW)(ar:b<=1048576)(hl:a<=1048578)(C:∀r∈rs,r.2.2.length<=1048576)(F:c=O->vc=0)(h:ge w c b vs)(hk:dB w ad a rs):
 iK Tryz.prog 53 #[iA (dK c b vc ad a cap nx)] w λe w'=>∃v,e=G v/\fJ w ⟨vs,rs.map aD,nx⟩ v w'/\mR v:=by
 obtain⟨i0,hi,L,M,N⟩:=bV xp;have I0:=af hi;have Y0:=af L;have Y1:=af M;have Y2:=af N;clear hi L M N;have f:=af h.1;have HL:=af C;have j:=af (Tk.two w #[Y c b vc,Y ad a cap,I J nx] #[Y O 0 0,Y O 0 0,I J 0] 32 32);have ak:=af h;have ag:=af hk;have ac:=af F;clear h hk C F;unfold dK;go_enter Tryz.func53,Tryz.ntmps53;go_wp2_with fail;generalize(w.alloc (iC #[Y c b vc,Y ad a cap,I J nx] 32)).alloc (iC #[Y O 0 0,Y O 0 0,I J 0] 32)=wb at j⊢;have x0:wb.cell? ⟨w.heap.size,0,O⟩=X (Y c b vc):=j.o.at 1 0 rfl rfl;have x1:wb.cell? ⟨w.heap.size,1,O⟩=X (Y ad a cap):=j.o.at 1 1 rfl rfl;have x2:wb.cell? ⟨w.heap.size,2,O⟩=X (I J nx):=j.o.at 1 2 rfl rfl;have U:=af (aT wb _ x0);have XR:=af (j.o.get 0 rfl);have KB:=af (ag.o.below j.o.1);have BW:=af j.o.1;obtain⟨z,hz⟩:=aq w.heap.size;rw[hz]at x0 x1 x2 U XR⊢;have ae:=af hz;clear hz;have T:ah (∀W,iL wb.heap.size wb W->W.cell? ⟨z,0,O⟩=X (Y c b vc)/\W.cell? ⟨z,1,O⟩=X (Y ad a cap)/\W.cell? ⟨z,2,O⟩=X (I J nx)):=λW H=>⟨(H.cell (show z<wb.heap.size from U.o)).trans x0,(H.cell (show z<wb.heap.size from U.o)).trans x1,(H.cell (show z<wb.heap.size from U.o)).trans x2⟩
 have BD:ah (iL wb.heap.size wb wb.drew):=(az _ _).drew;have d:ah (iL wb.heap.size wb (wb.alloc (iC #[] 66)).drew):=(bh).drew;have OE:ah ((wb.alloc (iC #[] 66)).drew.ownsRow wb.heap.size 66 2 (Y (X ⟨wb.heap.size,0,O⟩) 0 0) 0 []):=⟨rfl,.inr ⟨wb.heap.size,0,#[],rfl,am _,aC wb _,am _,by unfold maxLen;omega,rfl,rfl⟩⟩
 have aj:ah (pQ (wb.alloc (iC #[] 66)).drew (Y c b vc) vs):=⟨c,vc,by rw[f.o],ac.o,by rw[f.o];exact(ak.o.below j.o.1).below d.o⟩
 have B:=af d.o.size;refine zT 10 (S:=λw'=>w'.cell? ⟨z,0,O⟩=X (Y c b vc)/\w'.cell? ⟨z,1,O⟩=X (Y ad a cap)/\w'.cell? ⟨z,2,O⟩=X (I J nx)) (by kernel_rfl) rfl (by kernel_rfl) (T.o _ BD.o) (λhHeld=>?_)
 simp only[zU,Ab,aV,dU,Nat.reduceAdd];refine aH 1 ?_;refine aH 2 ?_;refine aH 4 ?_;refine aH 5 ?_;refine aH 7 ?_;refine aH 8 ?_;refine dG 0 rfl (by kernel_rfl) (λK k=>?_)
 go_simp;refine k.out _ _ (T.o _ d.o) (λhHeld2=>?_)
 clear k K hHeld;have hHeld:=hHeld2;clear hHeld2
 (try simp only[Act.put,cN,cu,bZ])
 refine dG 3 rfl (by kernel_rfl) (λK k=>?_)
 refine rQ _ (by rfl) (.tmp 3) (.tmp 5) (by rfl) wb.heap.size i0 I0.o Y0.o Y1.o Y2.o _ 0 [] (by simp[Act.eval]) OE.o vs b f.o _ (by simp[Act.eval]) aj.o (by unfold maxLen;omega) (by omega) B.o ?_
 intro v1 R Q g1;rw[jT,eV]at Q;have x:ah (iL wb.heap.size wb R):=d.o.grown g1 B.o (λq Z=>(OE.o.lt q Z).1)
 have P1:=af (aG.of Q);have O1:=af Q;obtain⟨t,u,an,-⟩:=(aG.of Q).form;subst an;have A:=af (Dt Q);refine k.out _ _ (T.o _ x.o) (λhHeld2=>?_)
 clear k K hHeld;have hHeld:=hHeld2;clear hHeld2
 (try simp only[Act.put,cN,cu,bZ])
 refine dG 6 rfl (by kernel_rfl) (λK k=>?_)
 go_simp;refine(Bm ad a cap rs R hl HL.o (KB.o.below x.o)).mono ?_;rintro en i ⟨av,rfl,kv,ss,rfl,ko,E,V⟩;have B2:=af (x.o.trans (V.mono x.o.size));have O2:=af (bE O1.o V);have K2:=af ko;have ab:=af E;have y:=af V;obtain⟨m,n,al⟩:=ko.form;subst al;obtain⟨s,D⟩:=aq ss.length;rw[D]at K2⊢;clear ko E V D;refine k.out _ _ (T.o _ B2.o) (λhHeld2=>?_)
 clear k K hHeld;have hHeld:=hHeld2;clear hHeld2
 (try simp only[Act.put,cN,cu,bZ])
 refine aH 9 ?_;refine oG (by kernel_rfl) (BL ?_)
 clear hHeld;have P:ah (z+1<wb.heap.size):=(aL.1 XR.o).1;have l:ah (i.heap[z+1]?=X (iC #[Y O 0 0,Y O 0 0,I J 0] 32 (0,0))):=(B2.o.block (z+1) P.o).trans XR.o;have r0:=ai _ _ 0 _ _ _ l.o;have r1:=ai _ _ 1 _ _ _ l.o;have r2:=ai _ _ 2 _ _ _ l.o;have f0:=aF _ _ 0 _ _ l.o;have f1:=aF _ _ 1 _ _ l.o;have f2:=aF _ _ 2 _ _ l.o;have R3:ah ((((i.setCell ⟨z+1,0,O⟩ (Y t b u)).setCell ⟨z+1,1,O⟩ (Y m s n)).setCell ⟨z+1,2,O⟩ (I J nx)).heap[z+1]?=X (iC #[Y t b u,Y m s n,I J nx] 32 (0,0))):=bw _ _ 2 _ _ _ (bw _ _ 1 _ _ _ (bw _ _ 0 _ _ _ l.o));have aa:ah (fJ w ⟨vs,rs.map aD,nx⟩ (iA #[Y t b u,Y m s n,I J nx]) (((i.setCell ⟨z+1,0,O⟩ (Y t b u)).setCell ⟨z+1,1,O⟩ (Y m s n)).setCell ⟨z+1,2,O⟩ (I J nx))):=by
  have h1:=P.o;have h2:=x.o.size;have h3:=BW.o.size;have ap:(((i.setCell ⟨z+1,0,O⟩ (Y t b u)).setCell ⟨z+1,1,O⟩ (Y m s n)).setCell ⟨z+1,2,O⟩ (I J nx)).heap.size=i.heap.size:=by simp[World.setCell]
  have ao:=y.o.size;have Z:∀g,g≠z+1->(((i.setCell ⟨z+1,0,O⟩ (Y t b u)).setCell ⟨z+1,1,O⟩ (Y m s n)).setCell ⟨z+1,2,O⟩ (I J nx)).heap[g]?=i.heap[g]?:=λg hg=>(aS _ _ _ _ hg).trans ((aS _ _ _ _ hg).trans (aS _ _ _ _ hg))
  refine⟨_,_,wb.heap.size,R.heap.size,R.heap.size,i.heap.size,rfl,?_,⟨ss,ab.o,?_⟩,by omega,by omega,by omega,by omega,.inl (am _),?_⟩
  ·refine aG.loc _ _ _ _ _ _ R _ (λg g1 g2=>?_) (by rw[f.o];exact P1.o)
   exact(Z g (by omega)).trans (y.o.block g g2)
  ·exact pY.loc _ _ _ _ i _ (λg g1 g2=>Z g (by omega)) K2.o.fK
  ·have au:=ae.o;exact(((BW.o.trans (B2.o.mono h3)).setCell (p:=⟨z+1,0,O⟩) (by show _<=z+1;omega) _).setCell (p:=⟨z+1,1,O⟩) (by show _<=z+1;omega) _).setCell (p:=⟨z+1,2,O⟩) (by show _<=z+1;omega) _
 go_wp2;exact aE (uD rfl _ _ (z+1) 32 _ (0,0) _ rfl R3.o Tryz.underlying32 rfl vg) rfl ⟨_,rfl,aa.o,⟨_,_,_,_,_,rfl,A.o⟩⟩
def mi(t:Int×Int×Int×Int):List iX:=[I J t.1,I J t.2.1,I J t.2.2.1,I J t.2.2.2]
def bY(l:List (Int×Int×Int×Int)):List iX:=l.flatMap mi
theorem Jg(l:List (Int×Int×Int×Int)):(bY l).length=l.length*4:=by
 induction l with
 |nil=>rfl
 |cons t l a=>simp[bY,mi]at a⊢;omega
theorem Fo(a b:List (Int×Int×Int×Int)):bY (a++b)=bY a++bY b:=by simp[bY]
theorem QK(t:Int×Int×Int×Int)(l:List (Int×Int×Int×Int)):bY (t::l)=mi t++bY l:=by simp[bY]
theorem Bu(l:List (Int×Int×Int×Int))(k:Nat)(t:Int×Int×Int×Int)(h:l[k]?=X t)(j:Nat)(v:iX)(b:(mi t)[j]?=X v):(bY l)[k*4+j]?=X v:=by
 have c:j<4:=(aB.1 b).1
 induction l generalizing k with
 |nil=>simp at h
 |cons a l d=>
  rw[QK];cases k with
  |zero=>
   simp at h;subst h;rw[hI (by show _<4;omega),mW,eV]
   exact b
  |succ k=>
   rw[ct (by show 4<=_;omega),show(k+1)*4+j-(mi a).length=k*4+j by show _-4=_;omega]
   exact d k (by simpa using h)
theorem Ma(l:List (Int×Int×Int×Int)):∀v∈bY l,v.oneCell'=iV:=by
 intro v b;obtain⟨t,-,a⟩:=md.1 b;simp[mi]at a;rcases a with h|h|h|h<;>subst h<;>rfl
theorem Bz:(Tryz.prog.info? 110).map (λi=>(i.zero,i.size,i.bytes))=X (X (iA #[I J 0,I J 0,I J 0,I J 0]),4,32):=by kernel_rfl
def kC(w:iW)(a:Option Addr)(d:Nat)(ls:List (Int×Int×Int×Int)):Prop:=
 ls.length=d/\d<=maxLen/\(∀t∈ls,True)/\(0<d->∃b c,a=X ⟨b,c,O⟩/\b<w.heap.size/\∀i t,ls[i]?=X t->w.cell? ⟨b,c+i*4,O⟩=X (I J t.1)/\w.cell? ⟨b,c+i*4+1,O⟩=X (I J t.2.1)/\w.cell? ⟨b,c+i*4+2,O⟩=X (I J t.2.2.1)/\w.cell? ⟨b,c+i*4+3,O⟩=X (I J t.2.2.2))
theorem kC.below{w w':iW}{a:Option Addr}{d:Nat}{ls:List (Int×Int×Int×Int)}(h:kC w a d ls)(c:iL w.heap.size w w'):kC w' a d ls:=by
 obtain⟨h1,k,l,h4⟩:=h;refine⟨h1,k,l,λh0=>?_⟩
 obtain⟨b,g,e,f,m⟩:=h4 h0;have hs:=c.size;refine⟨b,g,e,by omega,λi t n=>?_⟩
 obtain⟨j,c1,c2,c3⟩:=m i t n;exact⟨(c.cell (show b<w.heap.size from f)).trans j,(c.cell (show b<w.heap.size from f)).trans c1,(c.cell (show b<w.heap.size from f)).trans c2,(c.cell (show b<w.heap.size from f)).trans c3⟩
theorem kC.at{w:iW}{a:Option Addr}{d:Nat}{ls:List (Int×Int×Int×Int)}(h:kC w a d ls){t:Int×Int×Int×Int}(f:ls[k]?=X t):
 ∃b c,a=X ⟨b,c,O⟩/\b<w.heap.size/\w.cell? ⟨b,c+k*4,O⟩=X (I J t.1)/\w.cell? ⟨b,c+k*4+1,O⟩=X (I J t.2.1)/\w.cell? ⟨b,c+k*4+2,O⟩=X (I J t.2.2.1)/\w.cell? ⟨b,c+k*4+3,O⟩=X (I J t.2.2.2):=by
 obtain⟨h1,-,-,h4⟩:=h;have l:=(aB.1 f).1;obtain⟨b,c,e,i,j⟩:=h4 (by omega)
 obtain⟨g,c1,c2,c3⟩:=j k t f;exact⟨b,c,e,i,g,c1,c2,c3⟩
theorem kC.of_own{w:iW}{base:Nat}{v:iX}{M:List (Int×Int×Int×Int)}(d:M.length=n)(h:w.ownsRow base 110 4 v n (bY M)):
 ∃a c,v=Y a n c/\kC w a n M:=by
 have l:=h;obtain⟨-,k⟩:=l;rcases k with⟨rfl,rfl⟩|⟨g,cap,e,rfl,o,h4,p,q,-,-⟩
 ·exact⟨O,0,rfl,d,by unfold maxLen;omega,by simp,λh=>by omega⟩
 ·refine⟨_,_,rfl,d,by omega,by simp,λ_=>⟨g,0,rfl,(aL.1 h4).1,λi t hi=>?_⟩⟩
  have b:=λj v m=>h.cells (g:=g) rfl (i*4+j) v (Bu M i t hi j v m)
  have f:∀j,(⟨g,0,O⟩:Addr).add j=⟨g,0+j,O⟩:=λj=>by simp only[Addr.add];split<;>simp_all
  simp only[f]at b;exact⟨b 0 _ rfl,by simpa[Nat.add_assoc]using b 1 _ rfl,by simpa[Nat.add_assoc]using b 2 _ rfl,by simpa[Nat.add_assoc]using b 3 _ rfl⟩
def Sn(f:Nat):Prop:=∀(ad:Option Addr) (a cap:Nat) (rs:List Kw) (r:Int) (w:iW),a<=1048578->dB w ad a rs->iK Tryz.prog f #[iA #[Y ad a cap],I J r] w (ny w (bu (rs.map aD) r))
theorem dy.rd{W:iW}{hi c:Nat}{M:List Kn}(h:dy lo hi (Y ad n c) M W)(b:M.length=n)(a:hi<=W.heap.size):∃rs,rs.map aD=M/\dB W ad n rs:=by
 obtain⟨rs,e,d⟩:=h;exact⟨rs,e,d.rd (by rw[<-b,<-e,bm]) a⟩
def di(w:iW)(v:iX)(s:Sto):Prop:=
 ∃b c vc ad a cap rs,v=iA (dK b c vc ad a cap s.next)/\s.fK=rs.map aD/\c<=1048576/\a<=1048576/\(∀r∈rs,r.2.2.length<=1048576)/\(b=O->vc=0)/\ge w b c s.fV/\dB w ad a rs
variable{s:Sto}
theorem di.below{w w':iW}{v:iX}(h:di w v s)(b:iL w.heap.size w w'):di w' v s:=by
 obtain⟨j,k,vc,ad,a,cap,rs,h1,c,d,h4,e,f,g,i⟩:=h;exact⟨j,k,vc,ad,a,cap,rs,h1,c,d,h4,e,f,g.below b,i.below b⟩
def Words.Sto.Fit(s:Sto):Prop:=s.fV.length<=1048576/\s.fK.length<=1048576/\∀k∈s.fK,k.fD.length<=1048576
theorem di.fit{w:iW}{v:iX}(h:di w v s):s.Fit:=by
 obtain⟨l,m,vc,ad,g,cap,rs,h1,a,i,h4,c,j,d,e⟩:=h;refine⟨by have:=d.1;omega,by rw[a,bm];have:=e.1;omega,λk b=>?_⟩
 rw[a]at b;obtain⟨r,f,rfl⟩:=bJ.1 b;exact c r f
theorem vZ(h:s.Right):s.Fit:=by
 refine⟨by have:=h.few;omega,by have:=Ft h;omega,λk a=>?_⟩
 obtain⟨i,hi,e⟩:=qz.1 a;have:=mf (lN h.ar (i:=i) (x:=k) (by rw[<-e];exact ay hi))
 omega
theorem Mh(h:s.Fit)(r:Rc):(aY s r).1.Fit:=by
 by_cases a:dh s=iV
 ·exact vZ (wW ((jR s).1 a) r)
 ·rw[aY,aj (λq=>a q.1)];exact h
theorem fJ.blw{w w':iW}{v:iX}(h:fJ w s v w'):iL w.heap.size w w':=by
 obtain⟨vv,kv,lo1,hi1,lo2,hi2,-,-,-,-,-,-,-,-,h⟩:=h;exact h
theorem fJ.form{w w':iW}{v:iX}(h:fJ w s v w'):∃b d vc ad a cap,v=iA #[Y b d vc,Y ad a cap,I J s.next]:=by
 obtain⟨vv,kv,lo1,hi1,lo2,hi2,rfl,h1,c,-⟩:=h;obtain⟨b,vc,rfl,-⟩:=h1.form;obtain⟨ad,cap,rfl⟩:=c.form;exact⟨_,_,_,_,_,_,rfl⟩
theorem fJ.set3{w0 w d:iW}{v a b c:iX}(h:fJ w s v d)(f:iL w0.heap.size w0 w)(r:g<w.heap.size)(h0:w0.heap.size<=g):fJ w0 s v (((d.setCell ⟨g,0,O⟩ a).setCell ⟨g,1,O⟩ b).setCell ⟨g,2,O⟩ c):=by
 obtain⟨vv,kv,lo1,hi1,lo2,hi2,e,h1,j,m,h4,n,o,k,l⟩:=h;have hs:=f.size;have t:(((d.setCell ⟨g,0,O⟩ a).setCell ⟨g,1,O⟩ b).setCell ⟨g,2,O⟩ c).heap.size=d.heap.size:=by simp[World.setCell]
 have i:∀q,w.heap.size<=q->(((d.setCell ⟨g,0,O⟩ a).setCell ⟨g,1,O⟩ b).setCell ⟨g,2,O⟩ c).heap[q]?=d.heap[q]?:=λq u=>(aS _ _ _ _ (show q≠g by omega)).trans ((aS _ _ _ _ (show q≠g by omega)).trans (aS _ _ _ _ (show q≠g by omega)))
 refine⟨vv,kv,lo1,hi1,lo2,hi2,e,?_,?_,by omega,by omega,by omega,by omega,k,?_⟩
 ·exact aG.loc _ _ _ _ _ _ d _ (λg g1 g2=>i g (by omega)) h1
 ·exact dy.loc _ _ _ _ d _ (λg g1 g2=>i g (by omega)) j
 ·exact(((f.trans (l.mono hs)).setCell (p:=⟨g,0,O⟩) h0 _).setCell (p:=⟨g,1,O⟩) h0 _).setCell (p:=⟨g,2,O⟩) h0 _
theorem pJ{w:iW}{d e f a b c:iX}(h:w.heap[g]?=X (iC #[d,e,f] 32 (0,0))):(((w.setCell ⟨g,0,O⟩ a).setCell ⟨g,1,O⟩ b).setCell ⟨g,2,O⟩ c).heap[g]?=X (iC #[a,b,c] 32 (0,0)):=bw _ _ 2 _ _ _ (bw _ _ 1 _ _ _ (bw _ _ 0 _ _ _ h))
theorem vS{w W:iW}{lo1 hi1 lo2 hi2:Nat}{vv kv:iX}(a:w.heap.size<=z)(h1:aG 66 lo1 hi1 vv s.fV.length (ch s.fV) W)(h:dy lo2 hi2 kv s.fK W)(d:w.heap.size<=lo1/\(hi1<=z∨z<lo1))(e:w.heap.size<=lo2/\(hi2<=z∨z<lo2))(k:hi1<=W.heap.size)(l:hi2<=W.heap.size)(f:hi1<=lo2∨hi2<=lo1)(i:iL w.heap.size w W):
 fJ w s (iA #[vv,kv,I J s.next]) (((W.setCell ⟨z,0,O⟩ vv).setCell ⟨z,1,O⟩ kv).setCell ⟨z,2,O⟩ (I J s.next)):=by
 have j:(((W.setCell ⟨z,0,O⟩ vv).setCell ⟨z,1,O⟩ kv).setCell ⟨z,2,O⟩ (I J s.next)).heap.size=W.heap.size:=by simp[World.setCell]
 have c:∀q,q≠z->(((W.setCell ⟨z,0,O⟩ vv).setCell ⟨z,1,O⟩ kv).setCell ⟨z,2,O⟩ (I J s.next)).heap[q]?=W.heap[q]?:=λq b=>(aS _ _ _ _ b).trans ((aS _ _ _ _ b).trans (aS _ _ _ _ b))
 refine⟨vv,kv,lo1,hi1,lo2,hi2,rfl,?_,?_,d.1,by omega,e.1,by omega,f,?_⟩
 ·exact aG.loc _ _ _ _ _ _ W _ (λg g1 g2=>c g (by omega)) h1
 ·exact dy.loc _ _ _ _ W _ (λg g1 g2=>c g (by omega)) h
 ·exact((i.setCell (p:=⟨z,0,O⟩) a _).setCell (p:=⟨z,1,O⟩) a _).setCell (p:=⟨z,2,O⟩) a _
def zq(w:iW)(p:Sto×Bool)(e:Ending)(w':iW):Prop:=∃u,e=G (iU #[u,iB p.2])/\fJ w p.1 u w'
def LN(f:Nat):Prop:=∀w:iW,iK Tryz.prog f #[] w λe w'=>∃v,e=G v/\fJ w ii v w'
def Sd(f:Nat):Prop:=∀(v:iX) (s:Sto) (w:iW),di w v s->iK Tryz.prog f #[v] w λe w'=>e=G (iB (dh s))/\iL w.heap.size w w'
def Mt(w:iW)(l:List Rc)(e:Ending)(w':iW):Prop:=∃v,e=G v/\w'.ownsRow w.heap.size 110 4 v l.length (bY (l.map Rc.tu))/\iL w.heap.size w w'
def Mk(f:Nat):Prop:=∀(v:iX) (s:Sto) (w:iW),di w v s->iK Tryz.prog f #[v] w (Mt w (hJ s))
def Th(f:Nat):Prop:=∀(v:iX) (s:Sto) (a:Option Addr) (n c:Nat) (l:List Rc) (w:iW),n<=1048576*32->di w v s->kC w a n (l.map Rc.tu)->iK Tryz.prog f #[v,Y a n c] w (zq w (jd s l))
def Fe(f:Nat):Prop:=∀(v:iX) (s:Sto) (w:iW),di w v s->iK Tryz.prog f #[v] w (ny w (aI s))
def Ph(f:Nat):Prop:=∀(v:iX) (s:Sto) (u:iX) (t:Sto) (w:iW),di w v s->di w u t->iK Tryz.prog f #[v,u] w λe w'=>e=G (iB (qK s t))/\iL w.heap.size w w'
def eB(lo zb:Nat)(v:iX)(s:Sto)(V:iW):Prop:=∃vv kv lo1 hi1 lo2 hi2,v=iA #[vv,kv,I J s.next]/\aG 66 lo1 hi1 vv s.fV.length (ch s.fV) V/\dy lo2 hi2 kv s.fK V/\(lo<=lo1/\(hi1<=zb∨zb<lo1))/\(lo<=lo2/\(hi2<=zb∨zb<lo2))/\hi1<=V.heap.size/\hi2<=V.heap.size/\(hi1<=lo2∨hi2<=lo1)
theorem eB.keep{v:iX}{V a:iW}(h:eB lo zb v s V)(b:∀g,lo<=g->g≠zb->g<V.heap.size->a.heap[g]?=V.heap[g]?)(k:V.heap.size<=a.heap.size):eB lo zb v s a:=by
 obtain⟨vv,kv,lo1,hi1,lo2,hi2,e,h1,c,d,h4,i,j,f⟩:=h;refine⟨vv,kv,lo1,hi1,lo2,hi2,e,?_,?_,d,h4,by omega,by omega,f⟩
 ·exact aG.loc _ _ _ _ _ _ V _ (λg g1 g2=>b g (by omega) (by omega) (by omega)) h1
 ·exact dy.loc _ _ _ _ V _ (λg g1 g2=>b g (by omega) (by omega) (by omega)) c
theorem eB.below{v:iX}{V a:iW}(h:eB lo zb v s V)(b:iL V.heap.size V a):eB lo zb v s a:=h.keep (λg _ _ c=>b.block g c) b.size
theorem eB.of{v:iX}{w V:iW}(h:fJ w s v V)(d:lo<=w.heap.size)(f:zb<w.heap.size∨V.heap.size<=zb):eB lo zb v s V:=by
 obtain⟨vv,kv,lo1,hi1,lo2,hi2,e,h1,a,g,h4,i,b,c,-⟩:=h;exact⟨vv,kv,lo1,hi1,lo2,hi2,e,h1,a,⟨by omega,by omega⟩,⟨by omega,by omega⟩,h4,b,c⟩
theorem eB.set{v u:iX}{V:iW}(h:eB lo zb v s V):eB lo zb v s (V.setCell ⟨zb,k,O⟩ u):=
 h.keep (λg _ a _=>aS _ _ _ _ a) (by simp[World.setCell])
theorem eB.rd{v:iX}{V:iW}(h:eB lo zb v s V)(a:s.Fit):di V v s:=by
 obtain⟨vv,kv,lo1,hi1,lo2,hi2,rfl,h1,d,k,h4,f,g,l⟩:=h;obtain⟨j,vc,rfl,i,b⟩:=pQ.of h1 (by have:=a.1;unfold maxLen;omega) f
 obtain⟨ad,cap,rfl⟩:=d.form;obtain⟨rs,e,c⟩:=d.rd rfl g;refine⟨j,s.fV.length,vc,ad,s.fK.length,cap,rs,rfl,e.symm,a.1,a.2.1,λr c=>?_,i,b,c⟩
 exact a.2.2 (aD r) (by rw[<-e];exact bJ.2 ⟨r,c,rfl⟩)
theorem eB.fin{w V:iW}{a b:iX}{n:Int}(h:eB lo zb (iA #[a,b,I J n]) s V)(m:iL w.heap.size w V)(o:w.heap.size<=g)(q:g<lo):fJ w s (iA #[a,b,I J n]) (((V.setCell ⟨g,0,O⟩ a).setCell ⟨g,1,O⟩ b).setCell ⟨g,2,O⟩ (I J n)):=by
 obtain⟨vv,kv,lo1,hi1,lo2,hi2,e,h1,i,p,h4,j,k,l⟩:=h;injection e with e
 injection e with e
 simp only[jk,kx]at e;obtain⟨c,d,f⟩:=e;rw[c,d,f];exact vS o h1 i ⟨by omega,.inr (by omega)⟩ ⟨by omega,.inr (by omega)⟩ j k l m
theorem Ja{t:Sto}{l:List Rc}{r:Rc}(h:dO s (l.take k)=X t)(b:l[k]?=X r):dO s (l.take (k+1))=if (aY t r).2=iV then X (aY t r).1 else O:=by
 obtain⟨h1,a⟩:=aB.1 b;rw[eY h1,a,wX,h,kw,dO];split<;>rfl
theorem M8{t:Sto}{l:List Rc}{r:Rc}(h:dO s (l.take k)=X t)(b:l[k]?=X r)(a:(aY t r).2=iF):jd s l=(s,iF):=by
 have e:dO s l=O:=by
  conv=>lhs;rw[<-jo (k+1) l]
  rw[wX,Ja h b,aj (by rw[a];decide)]
  rfl
 rw[jd,e]
theorem Xp{t:Sto}{l:List Rc}(h:dO s l=X t):jd s l=(t,iV):=by rw[jd,h]
def eP(W:iW)(v:iX)(d:Dv):Prop:=∃a vv kv,v=iA #[a,vv,kv,I J d.fS.next,I J d.seq,I J d.tx,I J d.base]/\fq W a d.fH/\de d.fH/\di W (iA #[vv,kv,I J d.fS.next]) d.fS
variable{d:Dv}
theorem eP.below{W a:iW}{v:iX}(h:eP W v d)(b:iL W.heap.size W a):eP a v d:=by
 obtain⟨c,vv,kv,e,h1,f,g⟩:=h;exact⟨c,vv,kv,e,h1.below b,f,g.below b⟩
theorem Vd{W:iW}{vv kv:iX}{n:Int}(h:di W (iA #[vv,kv,I J n]) s):∃b c vc ad a cap,vv=Y b c vc/\kv=Y ad a cap/\n=s.next:=by
 obtain⟨b,c,vc,ad,a,cap,rs,h1,-⟩:=h;unfold dK at h1;injection h1 with h1
 injection h1 with h1
 simp only[jk,kx,Value.int.injEq,vL]at h1;exact⟨b,c,vc,ad,a,cap,h1.1,h1.2.1,h1.2.2⟩
theorem eP.form{W:iW}{v:iX}(h:eP W v d):∃c b f g vc ad a cap,v=iA #[Y c d.fH.length b,Y f g vc,Y ad a cap,I J d.fS.next,I J d.seq,I J d.tx,I J d.base]/\fq W (Y c d.fH.length b) d.fH/\de d.fH/\di W (iA #[Y f g vc,Y ad a cap,I J d.fS.next]) d.fS:=by
 obtain⟨k,vv,kv,e,h1,j,i⟩:=h;obtain⟨c,b,rfl⟩:=h1.form;obtain⟨f,g,vc,ad,a,cap,rfl,rfl,-⟩:=Vd i;exact⟨c,b,f,g,vc,ad,a,cap,e,h1,j,i⟩
def aU(W:iW)(g:Nat)(a b c:iX)(n q t s:Int):Prop:=W.heap[g]?=X (iC #[a,b,c,I J n,I J q,I J t,I J s] 34 (0,0))
theorem aU.below{w w':iW}{a b c:iX}{n q t s:Int}(h:aU w g a b c n q t s)(d:iL w.heap.size w w'):aU w' g a b c n q t s:=(d.block _ (aL.1 h).1).trans h
theorem aU.lt{w:iW}{a b c:iX}{n q t s:Int}(h:aU w g a b c n q t s):g<w.heap.size:=(aL.1 h).1
theorem aU.cells{W:iW}{g:Nat}{a b c:iX}{n q t s:Int}(h:aU W g a b c n q t s):W.cell? ⟨g,0,O⟩=X a/\W.cell? ⟨g,1,O⟩=X b/\W.cell? ⟨g,2,O⟩=X c/\W.cell? ⟨g,3,O⟩=X (I J n)/\W.cell? ⟨g,4,O⟩=X (I J q)/\W.cell? ⟨g,5,O⟩=X (I J t)/\W.cell? ⟨g,6,O⟩=X (I J s):=
 ⟨ai _ _ 0 _ _ _ h,ai _ _ 1 _ _ _ h,ai _ _ 2 _ _ _ h,ai _ _ 3 _ _ _ h,ai _ _ 4 _ _ _ h,ai _ _ 5 _ _ _ h,ai _ _ 6 _ _ _ h⟩
theorem aU.fr{W:iW}{a b c:iX}{n q t s:Int}(h:aU W g a b c n q t s)(k:Nat):W.frozen? ⟨g,k,O⟩=iF:=aF _ _ k _ _ h
theorem aU.seq{W:iW}{a b c:iX}{n q t s:Int}(h:aU W g a b c n q t s)(x:Int):aU (W.setCell ⟨g,4,O⟩ (I J x)) g a b c n x t s:=bw _ _ 4 _ _ _ h
theorem aU.tx{W:iW}{a b c:iX}{n q t s:Int}(h:aU W g a b c n q t s)(x:Int):aU (W.setCell ⟨g,5,O⟩ (I J x)) g a b c n q x s:=bw _ _ 5 _ _ _ h
theorem aU.base{W:iW}{a b c:iX}{n q t s:Int}(h:aU W g a b c n q t s)(x:Int):aU (W.setCell ⟨g,6,O⟩ (I J x)) g a b c n q t x:=bw _ _ 6 _ _ _ h
theorem aU.fS{W:iW}{a b c:iX}{n q t s:Int}(h:aU W g a b c n q t s)(x y:iX)(m:Int):aU (((W.setCell ⟨g,1,O⟩ x).setCell ⟨g,2,O⟩ y).setCell ⟨g,3,O⟩ (I J m)) g a x y m q t s:=by
 have h1:(W.setCell ⟨g,1,O⟩ x).heap[g]?=X (iC #[a,x,c,I J n,I J q,I J t,I J s] 34 (0,0)):=bw _ _ 1 _ _ _ h;generalize W.setCell ⟨g,1,O⟩ x=d at h1⊢;have e:(d.setCell ⟨g,2,O⟩ y).heap[g]?=X (iC #[a,x,y,I J n,I J q,I J t,I J s] 34 (0,0)):=bw _ _ 2 _ _ _ h1;generalize d.setCell ⟨g,2,O⟩ y=f at e⊢;exact bw _ _ 3 _ _ _ e
theorem aU.far{W:iW}{h:Nat}{a b c u:iX}{n q t s:Int}(e:aU W g a b c n q t s)(d:g≠h):aU (W.setCell ⟨h,k,O⟩ u) g a b c n q t s:=(aS _ _ _ _ d).trans e
def bF(W:iW)(g:Nat)(a b c:iX)(n q t s:Int):iW:=((((((W.setCell ⟨g,0,O⟩ a).setCell ⟨g,1,O⟩ b).setCell ⟨g,2,O⟩ c).setCell ⟨g,3,O⟩ (I J n)).setCell ⟨g,4,O⟩ (I J q)).setCell ⟨g,5,O⟩ (I J t)).setCell ⟨g,6,O⟩ (I J s)
theorem rA(W:iW)(g:Nat)(a b c:iX)(n q t s:Int)(h:i≠g):(bF W g a b c n q t s).heap[i]?=W.heap[i]?:=by
 unfold bF;rw[aS _ ⟨g,6,O⟩ _ _ h,aS _ ⟨g,5,O⟩ _ _ h,aS _ ⟨g,4,O⟩ _ _ h,aS _ ⟨g,3,O⟩ _ _ h,aS _ ⟨g,2,O⟩ _ _ h,aS _ ⟨g,1,O⟩ _ _ h,aS _ ⟨g,0,O⟩ _ _ h]
theorem Cb(W:iW)(g:Nat)(a b c:iX)(n q t s:Int):(bF W g a b c n q t s).heap.size=W.heap.size:=by simp[bF,World.setCell]
theorem ly{w W:iW}(a b c:iX)(n q t s:Int)(h:iL B w W)(d:B<=g):iL B w (bF W g a b c n q t s):=
 ((((((h.setCell (p:=⟨g,0,O⟩) d _).setCell (p:=⟨g,1,O⟩) d _).setCell (p:=⟨g,2,O⟩) d _).setCell (p:=⟨g,3,O⟩) d _).setCell (p:=⟨g,4,O⟩) d _).setCell (p:=⟨g,5,O⟩) d _).setCell (p:=⟨g,6,O⟩) d _
theorem lI{W:iW}{l f i:iX}{j e d:Int}(h:aU W g l f i j q0 e d)(a b c:iX)(n q t s:Int):aU (bF W g a b c n q t s) g a b c n q t s:=by
 unfold bF;have h0:(W.setCell ⟨g,0,O⟩ a).heap[g]?=X (iC #[a,f,i,I J j,I J q0,I J e,I J d] 34 (0,0)):=bw _ _ 0 _ _ _ h;generalize W.setCell ⟨g,0,O⟩ a=k at h0⊢;have h1:aU (((k.setCell ⟨g,1,O⟩ b).setCell ⟨g,2,O⟩ c).setCell ⟨g,3,O⟩ (I J n)) g a b c n q0 e d:=aU.fS h0 b c n;exact((h1.seq q).tx t).base s
theorem BP:(Tryz.prog.info? 34).map (·.size)=X 7:=by kernel_rfl
theorem pU {p q:Tmp} (h:fn.results= #[.cell p 34,.tmp q]) (d:Array iX) (w:iW) (g:Nat) (a b c:iX) (n x t s:Int)
 (j:d.getD p undef=iP (X ⟨g,0,O⟩)) (f:aU w g a b c n x t s):
 (results fn d).run Tryz.prog w=.ok (iU #[iA #[a,b,c,I J n,I J x,I J t,I J s],d.getD q undef]) w:=by
 have e:d[p]?.getD undef=iP (X ⟨g,0,O⟩):=by simpa using j
 have i:=nj (P:=Tryz.prog) w g 34 34 _ _ _ f Tryz.underlying34 rfl BP;simp[results,h,e,asAddr,i]
theorem xU {p:Tmp} (h:fn.results= #[.cell p 34]) (d:Array iX) (w:iW) (g:Nat) (a b c:iX) (n x t s:Int)
 (j:d.getD p undef=iP (X ⟨g,0,O⟩)) (f:aU w g a b c n x t s):
 (results fn d).run Tryz.prog w=.ok (iA #[a,b,c,I J n,I J x,I J t,I J s]) w:=by
 have e:d[p]?.getD undef=iP (X ⟨g,0,O⟩):=by simpa using j
 have i:=nj (P:=Tryz.prog) w g 34 34 _ _ _ f Tryz.underlying34 rfl BP;simp[results,h,e,asAddr,i]
def cM(B:Nat)(v:iX)(d:Dv)(W:iW):Prop:=∃a vv kv lo hi lo1 hi1 lo2 hi2,v=iA #[a,vv,kv,I J d.fS.next,I J d.seq,I J d.tx,I J d.base]/\cF lo hi a d.fH W/\aG 66 lo1 hi1 vv d.fS.fV.length (ch d.fS.fV) W/\dy lo2 hi2 kv d.fS.fK W/\(B<=lo/\hi<=W.heap.size)/\(B<=lo1/\hi1<=W.heap.size)/\(B<=lo2/\hi2<=W.heap.size)/\(hi<=lo1∨hi1<=lo)/\(hi<=lo2∨hi2<=lo)/\(hi1<=lo2∨hi2<=lo1)
theorem cM.keep{v:iX}{V a:iW}(h:cM B v d V)(b:∀g,B<=g->g<V.heap.size->a.heap[g]?=V.heap[g]?)(m:V.heap.size<=a.heap.size):cM B v d a:=by
 obtain⟨c,vv,kv,lo,hi,lo1,hi1,lo2,hi2,e,h1,f,i,h4,j,k,l⟩:=h;refine⟨c,vv,kv,lo,hi,lo1,hi1,lo2,hi2,e,?_,?_,?_,⟨h4.1,by omega⟩,⟨j.1,by omega⟩,⟨k.1,by omega⟩,l⟩
 ·exact cF.loc _ _ _ _ V _ (λg g1 g2=>b g (by omega) (by omega)) h1
 ·exact aG.loc _ _ _ _ _ _ V _ (λg g1 g2=>b g (by omega) (by omega)) f
 ·exact dy.loc _ _ _ _ V _ (λg g1 g2=>b g (by omega) (by omega)) i
theorem cM.below{v:iX}{V a:iW}(h:cM B v d V)(b:iL V.heap.size V a):cM B v d a:=h.keep (λg _ c=>b.block g c) b.size
theorem cM.down{v:iX}{V:iW}(h:cM B v d V)(j:B'<=B):cM B' v d V:=by
 obtain⟨a,vv,kv,lo,hi,lo1,hi1,lo2,hi2,e,h1,b,c,h4,f,g,i⟩:=h;exact⟨a,vv,kv,lo,hi,lo1,hi1,lo2,hi2,e,h1,b,c,⟨by omega,h4.2⟩,⟨by omega,f.2⟩,⟨by omega,g.2⟩,i⟩
def Dv.Fit(d:Dv):Prop:=de d.fH/\d.fS.Fit
theorem cM.rd{v:iX}{V:iW}(h:cM B v d V)(c:d.Fit):eP V v d:=by
 obtain⟨f,vv,kv,lo,hi,lo1,hi1,lo2,hi2,e,h1,g,i,h4,a,b,k,l,j⟩:=h;exact⟨f,vv,kv,e,h1.rdb,c.1,eB.rd (lo:=0) (zb:=V.heap.size) ⟨vv,kv,lo1,hi1,lo2,hi2,rfl,g,i,⟨by omega,.inl a.2⟩,⟨by omega,.inl b.2⟩,a.2,b.2,j⟩ c.2⟩
theorem cM.form{v:iX}{V:iW}(h:cM B v d V):∃c b f j vc ad a cap,v=iA #[Y c d.fH.length b,Y f j vc,Y ad a cap,I J d.fS.next,I J d.seq,I J d.tx,I J d.base]:=by
 obtain⟨k,vv,kv,lo,hi,lo1,hi1,lo2,hi2,e,h1,g,i,-⟩:=h;obtain⟨c,b,rfl,-⟩:=h1.form;obtain⟨f,vc,rfl,-⟩:=g.form;obtain⟨ad,cap,rfl⟩:=i.form;exact⟨_,_,_,_,_,_,_,_,e⟩
theorem cM.put{v:iX}{V:iW}(h:cM B v d V)(e:g<B)(a b c:iX)(n q t s:Int):cM B v d (bF V g a b c n q t s):=
 h.keep (λx f _=>rA _ _ _ _ _ _ _ _ _ (by omega)) (by rw[Cb];exact am _)
def Dz(w:iW)(d:Dv)(ok:Bool)(e:Ending)(w':iW):Prop:=∃v,e=G (iU #[v,iB ok])/\cM w.heap.size v d w'/\d.Fit/\iL w.heap.size w w'
def rZ(w:iW)(d:Dv)(e:Ending)(w':iW):Prop:=∃v,e=G v/\cM w.heap.size v d w'/\d.Fit/\iL w.heap.size w w'
theorem VV:de []:=⟨by simp,λr a=>by cases a⟩
theorem QW(B:Nat)(W:iW):cF B B (Y O 0 0) [] W:=⟨[],rfl,uK _ _ _ _,λg a=>by simp[Value.ownBlock]at a,λr b=>(by cases b),by simp⟩
theorem Zt(B:Nat)(W:iW):dy B B (Y O 0 0) [] W:=⟨[],rfl,.inl ⟨rfl,rfl⟩,λr a=>(by cases a),by simp[zG],aK _⟩
theorem Fm(W:iW)(a:B<=W.heap.size):cM B (iA #[Y O 0 0,Y O 0 0,Y O 0 0,I J 0,I J 0,I J 0,I J 0]) sd W:=
 ⟨_,_,_,B,B,B,B,B,B,rfl,QW B W,.inl ⟨rfl,rfl⟩,Zt B W,⟨by omega,a⟩,⟨by omega,a⟩,⟨by omega,a⟩,.inl (by omega),.inl (by omega),.inl (by omega)⟩
theorem FU:sd.Fit:=⟨VV,by decide,by decide,λk a=>by cases a⟩
variable{bs:List Bk}
theorem Ic(h:bo bs=iV):de bs:=by
 have h1:=h;unfold bo at h1;rw[bn,bH]at h1;refine⟨by omega,λr d=>⟨by rw[vD h r d];omega,λt f=>?_⟩⟩
 have a:=gV.1 h1.2 r d;unfold dm at a;rw[bn]at a;obtain⟨k,c⟩:=io f;have b:=gV.1 a.2 k (iw.2 (aB.1 c).1);unfold iz at b;rw[c]at b;have h4:gU t=iV:=by
  cases e:gU t with
  |true=>rfl
  |false=>simp[e]at b
 unfold gU at h4;simp only[bH]at h4;omega
theorem GP(t:ByteArray):t.toList.isEmpty=decide (t.size=0):=by
 rw[Cv];obtain⟨⟨l⟩⟩:=t;cases l with
 |nil=>rfl
 |cons a l=>exact(bf (by simp[ByteArray.size])).symm
open Sums
def mw(q:Ak):iX:=iA #[I J q.kind,I J q.vol,I J q.sector,I J q.of,iT q.text]
def cQ(W:iW)(g:Nat)(q:Ak):Prop:=W.heap[g]?=X (iC #[I J q.kind,I J q.vol,I J q.sector,I J q.of,iT q.text] 55 (0,0))
theorem cQ.below{w w':iW}{q:Ak}(h:cQ w g q)(a:iL w.heap.size w w'):cQ w' g q:=(a.block _ (aL.1 h).1).trans h
theorem cQ.lt{w:iW}{q:Ak}(h:cQ w g q):g<w.heap.size:=(aL.1 h).1
theorem cQ.cells{W:iW}{g:Nat}{q:Ak}(h:cQ W g q):W.cell? ⟨g,0,O⟩=X (I J q.kind)/\W.cell? ⟨g,1,O⟩=X (I J q.vol)/\W.cell? ⟨g,2,O⟩=X (I J q.sector)/\W.cell? ⟨g,3,O⟩=X (I J q.of)/\W.cell? ⟨g,4,O⟩=X (iT q.text):=
 ⟨ai _ _ 0 _ _ _ h,ai _ _ 1 _ _ _ h,ai _ _ 2 _ _ _ h,ai _ _ 3 _ _ _ h,ai _ _ 4 _ _ _ h⟩
theorem Sz(q:Ak)(w:iW):iK Tryz.prog 49 #[mw q] w λe w'=>e=G (iB (rC q))/\iL w.heap.size w w':=by
 obtain⟨k,v,s,o,t⟩:=q;unfold mw;simp only;have E:=aR w (iC #[I J k,I J v,I J s,I J o,iT t] 55);obtain⟨L,c1,c2,c3,M⟩:=cQ.cells (q:=⟨k,v,s,o,t⟩) (aC w (iC #[I J k,I J v,I J s,I J o,iT t] 55));simp only at L c1 c2 c3 M;generalize f:w.alloc (iC #[I J k,I J v,I J s,I J o,iT t] 55)=wa at E L c1 c2 c3 M;have c:=af E;obtain⟨R,F⟩:=aq (rC ⟨k,v,s,o,t⟩);rw[F];have a:ah (R=if¬(1<=k/\k<=6)∨¬(1<=v/\v<=9)∨64<t.size∨(k≠1/\t.size≠0)then iF else if k=4 then decide (s=0/\1<=o/\o<=9)else if o≠0 then iF else if k=3∨k=5 then decide (s=0)else decide (0<=s/\s<=15)):=by show _=_;rw[<-F];rfl
 clear F E;have b:=af (GP t);go_enter Tryz.func49,Tryz.ntmps49;by_cases i:¬(1<=k/\k<=6)
 ·go_wp2_with fail
  (try clear f)
  refine(gO k 1 6 iF _ (.inr ⟨by omega,rfl⟩)).mono ?_
  rintro e w' ⟨rfl,rfl⟩;go_wp2;go_ret;exact⟨by rw[a.o,ak (.inl i)];rfl,c.o⟩
 have i:1<=k/\k<=6:=Cy.1 i;go_wp2_with fail
 (try clear f)
 refine(gO k 1 6 iV _ (.inl ⟨i.1,i.2,rfl⟩)).mono ?_;rintro e w' ⟨rfl,rfl⟩;by_cases j:¬(1<=v/\v<=9)
 ·go_wp2_with fail
  (try clear f)
  refine(gO v 1 9 iF _ (.inr ⟨by omega,rfl⟩)).mono ?_
  rintro e w' ⟨rfl,rfl⟩;go_wp2;go_ret;exact⟨by rw[a.o,ak (.inr (.inl j))];rfl,c.o⟩
 have j:1<=v/\v<=9:=Cy.1 j;go_wp2_with fail
 (try clear f)
 refine(gO v 1 9 iV _ (.inl ⟨j.1,j.2,rfl⟩)).mono ?_;rintro e w' ⟨rfl,rfl⟩;by_cases H:64<t.size
 ·have K:(t.size:Int)>64:=by omega
  go_wp2;go_ret;exact⟨by rw[a.o,ak (.inr (.inr (.inl H)))];rfl,c.o⟩
 have K:¬((t.size:Int)>64):=by omega
 by_cases g:k≠1/\t.size≠0
 ·have Q:(k !=1)=iV:=by simpa using g.1
  have S:t.toList.isEmpty=iF:=by rw[b.o];exact bf g.2
  have N:=af g;clear g;go_wp2;go_ret;exact⟨by rw[a.o,ak (.inr (.inr (.inr N.o)))];rfl,c.o⟩
 have m:ah (¬(¬(1<=k/\k<=6)∨¬(1<=v/\v<=9)∨64<t.size∨(k≠1/\t.size≠0))):=by
  rintro(h|h|h|h)
  ·exact h i
  ·exact h j
  ·exact H h
  ·exact g h
 have l:ah (R=if k=4 then decide (s=0/\1<=o/\o<=9)else if o≠0 then iF else if k=3∨k=5 then decide (s=0)else decide (0<=s/\s<=15)):=by show _=_;rw[a.o,aj m.o]
 have P:((k !=1)=iF)∨((k !=1)=iV/\t.toList.isEmpty=iV):=by
  by_cases h1:k=1
  ·left;simp[h1]
  ·right;refine⟨by simpa using h1,?_⟩
   rw[b.o];exact aW (Cy.1 λh=>g ⟨h1,h⟩)
 have a:=l;clear l m b g H j i;rcases P with g|⟨g,Q⟩
 all_goals
  by_cases y:(k==4)=iV
  ·have d:k=4:=by simpa using y
   rw[ak d]at a;clear d;by_cases C:(s==0)=iV
   ·have u:s=0:=by simpa using C
    have O:=af u;clear u;by_cases B:1<=o/\o<=9
    ·have b:ah (R=iV):=by show _=_;rw[a.o];exact aW ⟨O.o,B⟩
     clear a;go_wp2_with fail;refine(gO o 1 9 iV _ (.inl ⟨B.1,B.2,rfl⟩)).mono ?_;rintro e w' ⟨rfl,rfl⟩;go_wp2;go_ret;exact⟨by rw[b.o];rfl,c.o⟩
    ·have b:ah (R=iF):=by show _=_;rw[a.o];exact bf λh=>B h.2
     clear a;go_wp2_with fail;refine(gO o 1 9 iF _ (.inr ⟨by omega,rfl⟩)).mono ?_
     rintro e w' ⟨rfl,rfl⟩;go_wp2;go_ret;exact⟨by rw[b.o];rfl,c.o⟩
   ·have C:(s==0)=iF:=by simpa using C
    have b:ah (R=iF):=by show _=_;rw[a.o];exact bf λh=>by simp[h.1]at C
    clear a;go_wp2;go_ret;exact⟨by rw[b.o];rfl,c.o⟩
  ·have d:¬k=4:=by simpa using y
   have y:(k==4)=iF:=by simpa using y
   rw[aj d]at a;clear d;by_cases A:(o !=0)=iV
   ·have b:ah (R=iF):=by show _=_;rw[a.o];exact ak (by simpa using A)
    clear a;go_wp2;go_ret;exact⟨by rw[b.o];rfl,c.o⟩
   have r:¬(o≠0):=by simpa using A
   have A:(o !=0)=iF:=by simpa using A
   rw[aj r]at a;clear r;by_cases x:(k==3)=iV
   ·have b:ah (R=(s==0)):=by show _=_;rw[a.o];rw[ak (.inl (by simpa using x))];by_cases h:s=0<;>simp[h]
    clear a;go_wp2;go_ret;exact⟨by rw[b.o];rfl,c.o⟩
   have n:¬k=3:=by simpa using x
   have x:(k==3)=iF:=by simpa using x
   by_cases z:(k==5)=iV
   ·have b:ah (R=(s==0)):=by show _=_;rw[a.o];rw[ak (.inr (by simpa using z))];by_cases h:s=0<;>simp[h]
    clear a;go_wp2;go_ret;exact⟨by rw[b.o];rfl,c.o⟩
   have p:¬k=5:=by simpa using z
   have z:(k==5)=iF:=by simpa using z
   rw[aj (λh=>h.elim n p)]at a
   clear n p;by_cases D:0<=s/\s<=15
   ·have b:ah (R=iV):=by show _=_;rw[a.o];exact aW D
    clear a;go_wp2_with fail;refine(gO s 0 15 iV _ (.inl ⟨D.1,D.2,rfl⟩)).mono ?_;rintro e w' ⟨rfl,rfl⟩;go_wp2;go_ret;exact⟨by rw[b.o];rfl,c.o⟩
   ·have b:ah (R=iF):=by show _=_;rw[a.o];exact bf D
    clear a;go_wp2_with fail;refine(gO s 0 15 iF _ (.inr ⟨by omega,rfl⟩)).mono ?_
    rintro e w' ⟨rfl,rfl⟩;go_wp2;go_ret;exact⟨by rw[b.o];rfl,c.o⟩
end Go.Proofs.YtgigcooffjjbgaaGreatDoor
