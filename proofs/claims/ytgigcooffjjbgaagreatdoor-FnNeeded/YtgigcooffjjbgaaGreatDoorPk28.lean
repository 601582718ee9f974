/-
  IChunk; ILive; INeed; LwDv; DvM9; Big; DPl; LawNd; Code; Vars
-/
import Derived.Test.YtgigcooffjjbgaaGreatDoorPk27
import Derived.ChangeVars
open Go.Value renaming int→I,slice→Y,string→iT,bool→iB,agg→iA,tuple→iU
open Go.IntKind renaming i64→J
open Option renaming none→O,some→X
open Go.Ending renaming returned→G
open Go.Obj renaming cells→iC
open Bool renaming true→iV,false→iF
open Go renaming World→iW,Value→iX,Calls→iK
open Go.RowKit renaming Below→iL
set_option maxHeartbeats 4000000
set_option maxRecDepth 100000
namespace Go.Proofs.YtgigcooffjjbgaaGreatDoor
open Go.RowKit Words
def qr(l:List Kn)(vs:List (Int×Int))(k:Nat):List Int:=((vs.take k).flatMap (λv=>bu l v.2)).filter (λy=>decide (1<=y))
variable{q t:Int}{v:Int × Int}{vs:List (Int × Int)}{live:List Int}{k m z g B:Nat}{ad:Option Addr}{w:iW}{a b c:iX}
variable{l:List Kn}
theorem Ye(h:vs[k]?=X v):qr l vs (k+1)=qr l vs k++(bu l v.2).filter (λy=>decide (1<=y)):=by
 obtain⟨h1,a⟩:=aB.1 h;rw[qr,qr,eY h1,a,rK,ir];simp
theorem Uj{L:List Int}{x:Int}(h:L[m]?=X x):(L.take (m+1)).filter (λy=>decide (1<=y))=(L.take m).filter (λy=>decide (1<=y))++(if 1<=x then[x]else[]):=by
 obtain⟨h1,a⟩:=aB.1 h;rw[eY h1,a,ir,gP,vG];by_cases b:1<=x<;>simp[b]
def pD(w W:iW)(z:Nat)(vv kv b a:iX)(l:List Int):Prop:=W.cell? ⟨z,0,O⟩=X vv/\W.cell? ⟨z,1,O⟩=X kv/\W.cell? ⟨z,2,O⟩=X b/\W.ownsRow (w.heap.size+1) 3 1 a l.length (ax l)/\iL w.heap.size w W
theorem pD.below{w W b:iW}{vv kv d c:iX}{l:List Int}(h:pD w W z vv kv d c l)(a:iL W.heap.size W b):pD w b z vv kv d c l:=
 ⟨(a.cell (aT W _ h.1)).trans h.1,(a.cell (aT W _ h.2.1)).trans h.2.1,(a.cell (aT W _ h.2.2.1)).trans h.2.2.1,bE h.2.2.2.1 a,h.2.2.2.2.trans (a.mono h.2.2.2.2.size)⟩
theorem pD.snoc{w W y:iW}{vv kv o d u:iX}{l:List Int}{n:Int}(r:z=w.heap.size)(h:pD w W z vv kv o d l)(j:y.ownsRow (w.heap.size+1) 3 1 u (l.length+1) (ax l++[I J n]))(i:(W.alloc (iC #[I J n] 3)).grownBy y d.ownBlock):pD w y z vv kv o u (l++[n]):=by
 have h1:=h.below ((az _ _).alloc (am _) (iC #[I J n] 3));have m:∀q,d.ownBlock=X q->w.heap.size+1<=q:=λq f=>(h1.2.2.2.1.lt q f).1
 have b:=h1.2.2.2.2.grown i h1.2.2.2.2.size (λq f=>by have:=m q f;omega)
 have c:∀k v,(W.alloc (iC #[I J n] 3)).cell? ⟨z,k,O⟩=X v->y.cell? ⟨z,k,O⟩=X v:=λk v a=>by
  have p:=aT _ _ a;have g:=i.block z p (λe=>by have:=m z e.symm;omega)
  unfold World.cell? at a⊢;simp only at g a⊢;rw[g];exact a
 rw[qB]at j;exact⟨c 0 _ h1.1,c 1 _ h1.2.1,c 2 _ h1.2.2.1,by rw[aJ];exact j,b⟩
def ux(w W:iW)(z:Nat)(vv kv c b:iX)(l:List Int)(a:Nat)(L:List Int):Prop:=pD w W z vv kv c b l/\(∀(k:Nat) (x:Int),L[k]?=X x->W.cell? ⟨a,k,O⟩=X (I J x))/\b.ownBlock≠X a/\a<W.heap.size
theorem ux.snoc{w W y:iW}{a:Nat}{vv kv g b u:iX}{l L:List Int}{n:Int}(p:z=w.heap.size)(h:ux w W z vv kv g b l a L)(m:y.ownsRow (w.heap.size+1) 3 1 u (l.length+1) (ax l++[I J n]))(c:(W.alloc (iC #[I J n] 3)).grownBy y b.ownBlock)(o:u.ownBlock=b.ownBlock∨u.ownBlock=X (W.heap.size+1)):ux w y z vv kv g u (l++[n]) a L:=by
 obtain⟨h1,i,d,h4⟩:=h;have r:(W.alloc (iC #[I J n] 3)).heap.size=W.heap.size+1:=by simp
 have hs:=c.size;have f:y.heap[a]?=W.heap[a]?:=(c.block a (by omega) (λe=>d e.symm)).trans (((az _ _).alloc (am _) (iC #[I J n] 3)).block a h4)
 refine⟨h1.snoc p m c,λk x j=>?_,?_,by omega⟩
 ·have:=i k x j;unfold World.cell? at this⊢;simp only at f this⊢;rw[f];exact this
 ·rcases o with e|e
  ·rw[e];exact d
  ·rw[e];intro q;injection q with q
   omega
theorem Ur(s:Option Addr)(f vc:Nat)(ad:Option Addr)(a cap:Nat)(nx:Int)(vs:List (Int×Int))(rs:List Kw)(w:iW)(au:f<=1048576)(hl:a<=1048576)(h:ge w s f vs)(S:dB w ad a rs):
 iK Tryz.prog 74 #[iA (dK s f vc ad a cap nx)] w (ny w (nT ⟨vs,rs.map aD,nx⟩)):=by
 have u:=af (Ca w (Y s f vc) (Y ad a cap) (I J nx));have B0:=af (aR w (iC #[Y s f vc,Y ad a cap,I J nx] 32));have HV:=af h;have D:=af h.1;have HK:=af S;obtain⟨i0,hi,M,N,P⟩:=bV lp;have I0:=af hi;have Y0:=af M;have Y1:=af N;have Y2:=af P;clear h S hi M N P;unfold dK;go_enter Tryz.func74,Tryz.ntmps74;go_wp2_with fail;generalize w.alloc (iC #[Y s f vc,Y ad a cap,I J nx] 32)=wb at u B0⊢;obtain⟨z,hz⟩:=aq w.heap.size;rw[hz]at u⊢;have Z:=af hz;clear hz;have S0:ah (pD w wb z (Y s f vc) (Y ad a cap) (I J nx) (Y O 0 0) []):=⟨u.o.1,u.o.2.1,u.o.2.2,uK _ _ _ _,B0.o⟩;go_loopw [3,11] (λcv kv W=>∃(k:Nat) (l:List Int),k<=f/\kv=I J k/\l.length<=16*k/\ah (l=qr (rs.map aD) vs k)/\ah (pD w W z (Y s f vc) (Y ad a cap) (I J nx) cv l)) (λ_ kv _=>f-(intOf kv).toNat)
 case atStart=>exact⟨0,[],aK _,rfl,am _,(rfl:[]=qr (rs.map aD) vs 0),S0⟩
 case round=>
  obtain⟨k,l,al,rfl,ap,HL,t⟩:=hrel;clear S0;by_cases ar:(k:Int)<f
  ·obtain⟨v,hv⟩:∃v,vs[k]?=X v:=⟨_,ay (by have:=D.o;omega)⟩
   obtain⟨b,Q,e,hb,c0,c1⟩:=(HV.o.below t.o.2.2.2.2).at hv;subst e;have k0:(0:Int)<=k:=by omega
   have q:=af (Ye (l:=rs.map aD) hv);obtain⟨T,p⟩:=v;simp only at c0 c1 q;have E:=af (t.o.below ((az _ _).alloc (am _) (iC #[I J T,I J p] 66)));have d1:=ai _ _ 1 _ _ _ (aC wr (iC #[I J T,I J p] 66));have ab:(wr.alloc (iC #[I J T,I J p] 66)).cell? ⟨wr.heap.size,1,O⟩=X (I J p):=d1;obtain⟨x0,x1,x2,-,-⟩:=E.o;obtain⟨X0,X1,X2,-,-⟩:=t.o;have U:=af (Pp ad a cap rs p (wr.alloc (iC #[I J T,I J p] 66)) (by omega) (HK.o.below E.o.2.2.2.2))
   have m:(bu (rs.map aD) p).length=16:=jK _ _;obtain⟨L,hL⟩:=aq (bu (rs.map aD) p);rw[hL]at U m q;clear hv hL d1;go_wp2_with fail;refine U.o.mono ?_;rintro e w2 ⟨av,rfl,ao,b2⟩;have S2:=af (E.o.below b2);obtain⟨aa,ac,rfl,G⟩:=(aG.of ao).form;obtain⟨R,rfl,H,n⟩:=G (by omega)
   have S3:ah (ux w w2 z (Y (X ⟨b,Q,O⟩) f vc) (Y ad a cap) (I J nx) u3 l R L):=by
    refine⟨S2.o,λk x S=>?_,λe=>?_,n⟩
    ·rw[<-fw];exact ao.cells (g:=R) rfl k _ (iI S)
    ·have:=(E.o.2.2.2.1.lt R e).2;omega
   rw[m];have B:=af m;clear ao b2 G U E S2 x0 x1 x2 X0 X1 X2 t ab m H n;go_wp2_with fail;go_loopw [3,21] (λcv jv W=>∃(j:Nat) (i:List Int),j<=16/\jv=I J j/\i.length<=16*k+j/\ah (i=l++(L.take j).filter (λy=>decide (1<=y)))/\ah (ux w W z (Y (X ⟨b,Q,O⟩) f vc) (Y ad a cap) (I J nx) cv i R L)) (λ_ jv _=>16-(intOf jv).toNat)
   case atStart=>exact⟨0,l,aK _,rfl,by omega,(by simp:l=l++(L.take 0).filter _),S3⟩
   case round=>
    obtain⟨j,i,hj,rfl,an,r,c⟩:=hrel;clear S3;by_cases ae:(j:Int)<16
    ·obtain⟨x,hx⟩:∃x,L[j]?=X x:=⟨_,ay (by have:=B.o;omega)⟩
     have cx:=c.o.2.1 j x hx;have FT:=af (Uj hx);have j0:(0:Int)<=j:=by omega
     clear hx;by_cases F:1<=x
     ·have d:ah (i++[x]=l++(L.take (j+1)).filter (λy=>decide (1<=y))):=by
       show _=_;rw[FT.o,ak F,<-fs,<-r.o]
      have OW:=af (bE c.o.1.2.2.2.1 ((az _ _).alloc (am _) (iC #[I J x] 3)));have C:ah (w.heap.size+1<=(wr.alloc (iC #[I J x] 3)).heap.size):=by
       have:=c.o.1.2.2.2.2.size;show _<=_;simp;omega
      go_wp2_with (at_builtin;refine zM _ rfl _ _ 36 rfl (w.heap.size+1) 3 i0 (I J 0) 1 8 Tryz.underlying36 I0.o Y0.o Y1.o Y2.o rfl (by decide) _ _ _ rfl OW.o ⟨wr.heap.size,0,O⟩ 1 1 [I J x] rfl rfl (lz _ _ _) (qJ _) ?c1 ?c2 ?c3 ?_)
      case c1=>unfold maxLen;omega
      case c2=>omega
      case c3=>exact C.o
      intro u' y ho hg _ hu;have NX:=af (c.o.snoc Z.o.symm ho hg hu);have K:(i++[x]).length<=16*k+(j+1):=by simp;omega
      generalize i++[x]=l3 at d NX K;clear ho hg hu c OW C;go_wp2;go_roundw
      case rel=>exact⟨j+1,l3,by omega,by go_num,K,d,NX⟩
      case measure=>simp[intOf];omega
     ·have d:ah (i=l++(L.take (j+1)).filter (λy=>decide (1<=y))):=by
       show _=_;rw[FT.o,aj F,dS,<-r.o]
      go_wp2;go_roundw
      case rel=>exact⟨j+1,i,by omega,by go_num,by omega,d,c⟩
      case measure=>simp[intOf];omega
    ·have d:ah (i=qr (rs.map aD) vs (k+1)):=by
      show _=_;rw[q.o,<-HL.o,r.o,bL (by have:=B.o;omega)]
     have V:=af c.o.1;go_wp2;go_roundw
     case rel=>exact⟨k+1,i,by omega,by go_num,by omega,d,V⟩
     case measure=>simp[intOf];omega
  ·have HE:ah (l=nT ⟨vs,rs.map aD,nx⟩):=by
    show _=_;rw[HL.o,qr,bL (by have:=D.o;omega)]
    rfl
   have A:ah (wr.ownsRow w.heap.size 3 1 u3 (nT ⟨vs,rs.map aD,nx⟩).length (ax (nT ⟨vs,rs.map aD,nx⟩))/\iL w.heap.size w wr):=by
    rw[<-HE.o];exact⟨lJ t.o.2.2.2.1 (by omega),t.o.2.2.2.2⟩
   go_wp2;go_ret;exact⟨_,rfl,A.o.1,A.o.2⟩
open Go.Shelf Go.Lib Go.Sort
theorem IP{W:iW}{l:List Int}{a:Array iX}(d:W.heap[g]?=X (iC a 3 (0,0)))(h4:a.toList.take l.length=ax l):Holds (I J) W g 0 l.toArray:=by
 intro j e;have b:j<l.length:=by simpa using e
 refine⟨?_,aF _ _ _ _ _ d⟩;rw[eV,ai _ _ j _ _ _ d];have c:(a.toList.take l.length)[j]?=(ax l)[j]?:=by rw[h4]
 rw[tX b,rO]at c;rw[c,sE l j b,getElem!_pos _ j e];simp
variable{n:Nat}
theorem GU{a:Array iX}{l:List Int}(f:n<=l.length)(d:l.length<=a.size):(putCells (I J) 0 l.toArray a).toList.take n=ax (l.take n):=by
 apply kO;intro j;by_cases c:j<n
 ·rw[tX c,rO];simp only[putCells,Array.getElem?_mapIdx,aK,vL,eV,Nat.sub_zero];rw[pX (show j<a.size by omega)]
  have b:j<l.toArray.size:=by simp;omega
  simp only[g9,b,dw];rw[getElem!_pos _ j b];have e:=ay (show j<(l.take n).length by rw[cG];omega)
  rw[iI e];simp
 ·rw[wV (by rw[cG];omega),wV (by simp[ax];omega)]
theorem GC{W:iW}{a:Array iX}{d:Array Int}(b:W.heap[g]?=X (iC a 3 (0,0))):(putRow (I J) (Sort.ahead W m) g 0 d).heap[g]?=X (iC (putCells (I J) 0 d a) 3 (0,0)):=by
 simp[putRow,mapBlock,Sort.ahead,Array.getElem?_modify,b,onCells]
theorem Gb(W:iW)(g m:Nat)(d:Array Int)(c:Array Obj):W.grownBy (grow (putRow (I J) (Sort.ahead W m) g 0 d) c) (X g):=by
 refine⟨rfl,rfl,rfl,by simp[putRow,mapBlock,Sort.ahead,grow],λk b a=>?_⟩
 rw[heap_grow_old _ _ (by simpa[putRow,mapBlock,Sort.ahead]using b)]
 have:g≠k:=λe=>a (by rw[e])
 simp[putRow,mapBlock,Sort.ahead,Array.getElem?_modify,this]
theorem MV(w:iW):grow w #[]=w:=by simp[grow]
theorem Qq(lo:Nat)(v:iX)(l:List Int)(w:iW)(h:w.ownsRow lo 3 1 v l.length (ax l))(p:l.length<=16777216):
 iK Tryz.prog 75 #[v] w λe w'=>e=G (iU #[])/\w'.ownsRow lo 3 1 v l.length (ax (l.mergeSort λx y=>decide (x<=y)))/\w.grownBy w' v.ownBlock:=by
 have i:=h;rcases h.2 with⟨rfl,h0⟩|⟨g,cap,c,rfl,d,b,h1,j,f,h4⟩
 ·have n:l=[]:=gK h0;subst n;refine cj (Tryz.slices_Sort_int_none O 0 w) ?_;rintro e w' ⟨rfl,rfl⟩;exact⟨rfl,by rw[List.mergeSort_nil];exact h,⟨rfl,rfl,rfl,am _,λ_ _ _=>rfl⟩⟩
 ·rw[xy]at f h4;refine cj (Tryz.slices_Sort_int g 0 cap l w (IP b h4) (aL.1 b).1 (by omega)) ?_
  rintro e w' ⟨rfl,m,o,rfl⟩;have k:=Gb w g m (l.mergeSort λx y=>decide (x<=y)).toArray o
  have a:(l.mergeSort λx y=>decide (x<=y)).length=l.length:=IF l
  refine⟨rfl,⟨by simp[ax],.inr ⟨g,cap,putCells (I J) 0 (l.mergeSort λx y=>decide (x<=y)).toArray c,rfl,d,?_,h1,j,?_,?_⟩⟩,k⟩
  ·rw[heap_grow_old _ _ (by simpa[putRow,mapBlock,Sort.ahead]using(aL.1 b).1)]
   exact GC b
  ·simp[putCells,f]
  ·rw[xy,<-a,GU (am _) (by omega),nF]
theorem XI(lo:Nat)(v:iX)(l:List Int)(w:iW)(h:w.ownsRow lo 3 1 v l.length (ax l))(q:l.length<=16777216):
 iK Tryz.prog 76 #[v] w λe w'=>∃j,e=G j/\w'.ownsRow lo 3 1 j (compact l).length (ax (compact l))/\w.grownBy w' v.ownBlock:=by
 have i:=h;rcases h.2 with⟨rfl,h0⟩|⟨g,cap,k,rfl,a,c,h1,n,b,h4⟩
 ·have o:l=[]:=gK h0;subst o;refine cj (Tryz.slices_Compact_int_empty O 0 w) ?_;rintro e w' ⟨rfl,rfl⟩;exact⟨_,rfl,h,⟨rfl,rfl,rfl,am _,λ_ _ _=>rfl⟩⟩
 ·rw[xy]at b h4;refine cj (Tryz.slices_Compact_int g 0 cap l w (IP c h4) (by omega) h1) ?_
  rintro e w' ⟨rfl,m,rfl⟩;have p:=compact_length_le l;have d:=Gb w g m (compact l++List.replicate (l.length-(compact l).length) 0).toArray #[];rw[MV]at d;have f:(compact l++List.replicate (l.length-(compact l).length) 0).length=l.length:=by simp;omega
  refine⟨_,rfl,⟨by simp[ax],.inr ⟨g,cap,_,rfl,a,GC c,by omega,n,by simp[putCells,b],?_⟩⟩,d⟩
  rw[xy,GU (by omega) (by omega),List.take_left' rfl]
theorem Ya{l:List Int}(x:Int):x∈compact l↔x∈l:=by
 unfold compact compactUpTo;constructor
 ·intro h;obtain⟨j,b,rfl⟩:=bJ.1 h;have d:=iw.1 (eh.1 b).1;rw[getElem!_pos _ j (by simpa using d)]
  simp
 ·intro h;have:∀n j:Nat,j<=n->l[j]?=X x->x∈((List.range l.length).filter (keeps l.toArray)).map (l.toArray[·]!):=by
   intro n
   induction n with
   |zero=>
    intro j b a;have e:j=0:=by omega
    subst e;have c:=(aB.1 a).1;refine bJ.2 ⟨0,eh.2 ⟨iw.2 c,keeps_lt_one _ 0 (by omega)⟩,?_⟩
    rw[getElem!_pos _ 0 (by simpa using c)]
    simpa using(aB.1 a).2
   |succ n i=>
    intro j b a;have c:=(aB.1 a).1;have g:l.toArray[j]! =x:=by
     rw[getElem!_pos _ j (by simpa using c)]
     simpa using(aB.1 a).2
    by_cases h0:j=0
    ·exact i j (by omega) a
    ·by_cases f:l.toArray[j]! =l.toArray[j-1]!
     ·refine i (j-1) (by omega) ?_
      rw[ay (by omega)]
      rw[g,getElem!_pos _ (j-1) (by simp;omega)]at f
      rw[f];simp
     ·exact bJ.2 ⟨j,eh.2 ⟨iw.2 c,keeps_pos f⟩,g⟩
  obtain⟨j,b⟩:=io h;exact this j j (am _) b
theorem QT{l:List Int}(h:l.Pairwise (λx y=>x<=y)):(compact l).Pairwise (λx y=>x<y):=by
 unfold compact compactUpTo;rw[uH];have g:∀i j,i<=j->j<l.length->l.toArray[i]! <=l.toArray[j]! :=by
  intro i j d c;rw[getElem!_pos _ i (by simp;omega),getElem!_pos _ j (by simpa using c)]
  by_cases e:i=j
  ·subst e;exact kK _
  ·have:=nh.1 h i j (by omega) c (by omega)
   simpa using this
 refine Ha ?_ ((List.pairwise_lt_range (n:=l.length)).filter (keeps l.toArray));intro i j hi c d;obtain⟨m,k⟩:=eh.1 c;have f:=iw.1 m;have a:=g i (j-1) (by omega) (by omega)
 have b:=g (j-1) j (by omega) f
 simp only[keeps,bH]at k;rcases k with e|e
 ·omega
 ·omega
theorem Sf(s:Sto):compact ((nT s).mergeSort λx y=>decide (x<=y))=aI s:=by
 refine TM (QT ?_) (λy=>?_)
 ·have:=List.pairwise_mergeSort (le:=λx y:Int=>decide (x<=y)) (by intro a b c h1 d;simp at*;omega) (by intro a b;simp;omega) (nT s)
  exact this.imp (fun{a b} h=>by simpa using h)
 ·rw[Ya];exact(List.mergeSort_perm _ _).mem_iff
theorem Uv:Fe 41:=by
 rintro v s w ⟨k,m,vc,ad,a,cap,rs,rfl,g,D,S,A,C,h,N⟩;obtain⟨vs,W,nx⟩:=s;simp only at g h⊢;subst g;have c:=af (aR w (iC #[Y k m vc,Y ad a cap,I J nx] 32));have i:=af (Ur k m vc ad a cap nx vs rs (w.alloc (iC #[Y k m vc,Y ad a cap,I J nx] 32)) D S (h.below c.o) (N.below c.o));unfold dK at i;have r:ah ((nT ⟨vs,rs.map aD,nx⟩).length<=16777216):=by
  show _<=_;refine bT (Ko _ _) ?_;have e:∀l:List (Int×Int),(l.flatMap (λv=>bu (rs.map aD) v.2)).length=16*l.length:=by
   intro l
   induction l with
   |nil=>rfl
   |cons v l T=>rw[oL,aJ,T,jK,aV];omega
  show(vs.flatMap _).length<=_;rw[e];have:=h.1;omega
 have t:=af (Sf ⟨vs,rs.map aD,nx⟩);obtain⟨L,K⟩:=aq (nT ⟨vs,rs.map aD,nx⟩);rw[K]at i r t;rw[<-t.o];clear h N A C K t;have n:ah ((L.mergeSort λx y=>decide (x<=y)).length=L.length):=IF L
 obtain⟨M,z⟩:∃M,(L.mergeSort λx y=>decide (x<=y))=M:=⟨_,rfl⟩
 have p:=af z;rw[z]at n⊢;clear z;unfold dK;go_enter Tryz.func41,Tryz.ntmps41;go_wp2_with fail;refine i.o.mono ?_;rintro e U ⟨H,rfl,u,G⟩;have E:=af (c.o.trans (G.mono c.o.size));have b:ah (w.heap.size<=(w.alloc (iC #[Y k m vc,Y ad a cap,I J nx] 32)).heap.size):=c.o.size;have CS:=af (Qq _ H L U u r.o);rw[p.o]at CS;have Q:=af u;clear u G i;go_wp2_with fail;refine CS.o.mono ?_;rintro e V ⟨rfl,j,g2⟩;rw[<-n.o]at j;have F:=af (XI _ H M V j (by rw[n.o];exact r.o))
 have d:=af (E.o.grown g2 E.o.size (λq B=>by have:=(Q.o.lt q B).1;have:=b.o;omega))
 have R:=af j;clear j g2 CS;go_wp2_with fail;refine F.o.mono ?_;rintro e P ⟨v3,rfl,O,g3⟩;have f:ah (P.ownsRow w.heap.size 3 1 v3 (compact M).length (ax (compact M))/\iL w.heap.size w P):=⟨lJ O b.o,d.o.grown g3 d.o.size (λq B=>by have:=(R.o.lt q B).1;have:=b.o;omega)⟩
 clear O g3 F;go_wp2;go_ret;exact⟨_,rfl,f.o.1,f.o.2⟩
open Sums
variable{s:Sto}
theorem XU{w:iW}{v:iX}(h:di w v s):∃b c vc ad a cap,v=iA #[Y b c vc,Y ad a cap,I J s.next]:=by
 obtain⟨b,c,vc,ad,a,cap,rs,h1,-⟩:=h;exact⟨b,c,vc,ad,a,cap,h1⟩
theorem V9(c:Option Addr)(a lc:Nat)(live:List Int)(x:Int)(w:iW)(i:a<=1000000000000000000)(hi:fG w c a live):
 iK Tryz.prog 77 #[Y c a lc,I J x] w λe w'=>e=G (iB (live.contains x))/\w'=w:=by
 by_cases h0:a=0
 ·have l:live=[]:=gK (by rw[hi.1,h0])
  subst h0 l;exact Tryz.slices_Contains_int_empty c lc x w
 ·obtain⟨b,d,e,-,-⟩:=hi.at (k:=0) (t:=live[0]'(by rw[hi.1];omega)) (ay _)
  subst e;have:=Tryz.slices_Contains_int b d a lc live x w (by rw[hi.1];exact am _) (by omega) (λj f=>by
   obtain⟨m,g,e,-,h⟩:=hi.at (k:=j) (t:=live[j]) (ay f);injection e with e
   injection e with e1 e2
   subst e1 e2;rw[h,nJ,ay f];rfl)
  rw[bL (by rw[hi.1];exact am _)]at this
  exact this
def lK(M:List an)(live:List Int)(base:Int)(x:an):Bool:=if x.fP.kind=2 then decide (base<=x.fP.tx)else lj (qF (bp M x.fP.tx)) x&&live.contains x.fP.tx
variable{M:List an}{x:an}
theorem Pm(live:List Int)(base:Int)(c:x∈M)(d:x.fP.kind=1∨x.fP.kind=2):lK M live base x=mq M live base x:=by
 unfold lK mq;split
 ·rfl
 ·rename_i h2
  have a:x.fP.kind=1:=by omega
  cases b:bp M x.fP.tx with
  |some y=>rfl
  |none=>
   have:=rL.1 b x c;unfold cW at this;simp[a]at this
theorem Yh(B:Nat)(M:List an)(x:an)(E:Option Addr)(A lc:Nat)(live:List Int)(base:Int)(w:iW)(D:A<=1000000000000000000)(H:NM w B M)(hi:fG w E A live):
 iK Tryz.prog 42 #[.map (X B),gG x,Y E A lc,I J base] w λe w'=>e=G (iB (lK M live base x))/\iL w.heap.size w w':=by
 obtain⟨y,hy⟩:=aq (qF (bp M x.fP.tx));have z:=λW=>UE y x W
 rw[Ze]at z;have k:ah (lK M live base x=if x.fP.kind=2 then decide (base<=x.fP.tx)else lj y x&&live.contains x.fP.tx):=by show _=_;rw[<-hy];rfl
 obtain⟨b,K⟩:=aq (lj y x);rw[K]at z k;obtain⟨xb,m,pk,f,a,d,c,pt⟩:=x;obtain⟨yb,yl,yk,yq,yx,yp,yc,yt⟩:=y;unfold gG at z⊢;simp only at z k hy⊢;have t:=aR w (iC #[I J xb,I J m,I J pk,I J f,I J a,I J d,I J c,iT pt] 53);have r:jY (w.alloc (iC #[I J xb,I J m,I J pk,I J f,I J a,I J d,I J c,iT pt] 53)) w.heap.size ⟨xb,m,pk,f,a,d,c,pt⟩:=aC _ _;generalize P:w.alloc (iC #[I J xb,I J m,I J pk,I J f,I J a,I J d,I J c,iT pt] 53)=C at t r;have u:=aR C (iC #[I J pk,I J f,I J a,I J d,I J c,iT pt] 44);have j:=r.below u;have s:(C.alloc (iC #[I J pk,I J f,I J a,I J d,I J c,iT pt] 44)).heap[C.heap.size]?=X (iC #[I J pk,I J f,I J a,I J d,I J c,iT pt] 44 (0,0)):=aC _ _;generalize Q:C.alloc (iC #[I J pk,I J f,I J a,I J d,I J c,iT pt] 44)=R at u j s;have h:=t.trans (u.mono t.size);have i:=(H.below h).look a iF;rw[hy]at i;unfold gG at i;simp only[eS,fb]at i;obtain⟨S,T,U,V,Z,x5,x6,x7⟩:=r.cells;obtain⟨y0,y1,y2,y3,y4,y5,y6,y7⟩:=j.cells;simp only at S T U V Z x5 x6 x7 y0 y1 y2 y3 y4 y5 y6 y7;have p0:=ai _ _ 0 _ _ _ s;have p2:=ai _ _ 2 _ _ _ s;have L:=af (hi.below h);have g:=af h;clear H hi hy K t u h r j s;by_cases v:(pk==2)=iV
 ·have n:pk=2:=by simpa using v
  have l:ah (lK M live base ⟨xb,m,pk,f,a,d,c,pt⟩=decide (base<=a)):=by show _=_;rw[k.o,ak n]
  clear k n i;by_cases N:base<=a
  ·go_enter Tryz.func42,Tryz.ntmps42;go_wp2;go_ret;rw[l.o,aW N];exact⟨rfl,g.o⟩
  ·go_enter Tryz.func42,Tryz.ntmps42;go_wp2;go_ret;rw[l.o,bf (show¬base<=a by omega)]
   exact⟨rfl,g.o⟩
 ·have O:(pk==2)=iF:=by simpa using v
  have l:ah (lK M live base ⟨xb,m,pk,f,a,d,c,pt⟩=(b&&live.contains a)):=by show _=_;rw[k.o,aj (by simpa using v)]
  clear k v;cases b with
  |false=>
   go_enter Tryz.func42,Tryz.ntmps42;go_wp2;go_ret;rw[l.o];exact⟨rfl,g.o⟩
  |true=>
   have F:=af (V9 E A lc live a R D L.o);obtain⟨q,p⟩:=aq (live.contains a);rw[p]at F l;clear p;go_enter Tryz.func42,Tryz.ntmps42;go_wp2_with fail;refine F.o.mono ?_;rintro e w3 ⟨rfl,rfl⟩;go_wp2;go_ret;rw[l.o,gk];exact⟨rfl,g.o⟩
theorem aai(p:an->Bool)(h:M[k]?=X x):((M.take (k+1)).filter p).length=((M.take k).filter p).length+if p x then 1 else 0:=by
 rw[GQ h,ir,aJ];cases a:p x<;>simp[a]
def uk(w W:iW)(B:Nat)(M:List an)(ad:Option Addr)(a:Nat)(b:Option Addr)(c:Nat)(live:List Int):Prop:=iL w.heap.size w W/\NM W B M/\iH W ad a M/\fG W b c live
theorem uk.next{w W c:iW}{a e:Nat}{d:Option Addr}(h:uk w W B M ad a d e live)(b:iL W.heap.size W c):uk w c B M ad a d e live:=
 ⟨h.1.trans (b.mono h.1.size),h.2.1.below b,h.2.2.1.below b,h.2.2.2.below b⟩
theorem Yx(v:iX)(rs:List Rw)(sv:iX)(s:Sto)(base b:Int)(w:iW)(hl:rs.length<=1048576)(Z:∀r∈rs,r.2.2.2.length<=1048576)(aa:mJ rs)(ha:dX w v rs)(hs:di w sv s)(hH:eC w):
 iK Tryz.prog 15 #[iA #[v],sv,I J base,I J b] w λe w'=>e=G (I J ((iq (au (rs.map aw)) (aI s) base b:Nat):Int))/\iL w.heap.size w w':=by
 obtain⟨M,U⟩:=aq (au (rs.map aw));have A:=hs.fit;have ac:=qI s;have ab:ah (iq M (aI s) base b=(M.filter λx=>x.block==b&&lK M (aI s) base x).length):=by
  show _=_;rw[yG _ _ _ (by rw[<-U];exact vA _) (λx B=>tE (by rw[U];exact B))]
  congr 1;apply List.filter_congr;intro x B;rw[Pm _ _ B (tE (by rw[U];exact B))]
 obtain⟨l,m,vc,d,c,a,rfl⟩:=XU hs;have bA:=aR w (iC #[v] 26);have kA:(w.alloc (iC #[v] 26)).cell? ⟨w.heap.size,0,O⟩=X v:=ai _ _ 0 _ _ _ (aC w (iC #[v] 26));generalize ae:w.alloc (iC #[v] 26)=wa at bA kA;have bB:=aR wa (iC #[Y l m vc,Y d c a,I J s.next] 32);have kB:∀(k:Nat) (u:iX),#[Y l m vc,Y d c a,I J s.next][k]?=X u->(wa.alloc (iC #[Y l m vc,Y d c a,I J s.next] 32)).cell? ⟨wa.heap.size,k,O⟩=X u:=λk u hu=>by
  exact(ai _ _ k _ _ _ (aC wa (iC #[Y l m vc,Y d c a,I J s.next] 32))).trans hu
 generalize ag:wa.alloc (iC #[Y l m vc,Y d c a,I J s.next] 32)=wb at bB kB;have T:iL w.heap.size w wb:=bA.trans (bB.mono bA.size);have k0:wb.cell? ⟨w.heap.size,0,O⟩=X v:=(bB.cell (aT wa _ kA)).trans kA;have s0:=kB 0 _ rfl;have s1:=kB 1 _ rfl;have s2:=kB 2 _ rfl;have C:=af (Uz v rs wb hl Z aa (ha.below T) (hH.on T));have HS:=af (hs.below T);have BW:=af T;unfold kZ at C;rw[U]at C⊢;have R:ah ((aI s).length<=16*1048576):=by have:=A.1;show _<=_;omega
 have Q:=af (λW (h:di W (iA #[Y l m vc,Y d c a,I J s.next]) s)=>Uv _ s W h)
 clear hl Z aa ha hs bA U A ac kA kB T hH;go_enter Tryz.func15,Tryz.ntmps15;go_wp2_with fail;clear ae ag bB;refine C.o.mono ?_;rintro e N ⟨ad,cap,rfl,h1,h2,L⟩;have e0:=(L.cell (aT wb _ s0)).trans s0;have e1:=(L.cell (aT wb _ s1)).trans s1;have e2:=(L.cell (aT wb _ s2)).trans s2;have HR:=af h1;have H1:=af (HS.o.below L);have B1:=af (BW.o.trans (L.mono BW.o.size));have bd:iL N.heap.size N N.drew:=(az _ _).drew;have F:=af (HR.o.below bd);have P:=af (H1.o.below bd);have D:=af (B1.o.trans (bd.mono B1.o.size));have t:ah (N.drew.cell? ⟨wa.heap.size,0,O⟩=X (Y l m vc)/\N.drew.cell? ⟨wa.heap.size,1,O⟩=X (Y d c a)/\N.drew.cell? ⟨wa.heap.size,2,O⟩=X (I J s.next)):=⟨e0,e1,e2⟩;clear C h1 L HS BW k0 s0 s1 s2 bd HR H1 B1;go_wp2;go_region_held3 (λw'=>w'.cell? ⟨wa.heap.size,0,O⟩=X (Y l m vc)/\w'.cell? ⟨wa.heap.size,1,O⟩=X (Y d c a)/\w'.cell? ⟨wa.heap.size,2,O⟩=X (I J s.next)) (first|(with_reducible exact E3.o)|(with_reducible exact y.o)|(with_reducible exact t.o)|go_keep) (first
  |(go_at_call 32;refine(Z9 ad M.length cap M _ h2 F.o).mono ?_;rintro en w2 ⟨BN,rfl,-,hN,H⟩;have NA:=af hN;have SA:=af (P.o.below H);have RA:=af (F.o.below H);have E:=af (D.o.trans (H.mono D.o.size));have y:ah (w2.cell? ⟨wa.heap.size,0,O⟩=X (Y l m vc)/\w2.cell? ⟨wa.heap.size,1,O⟩=X (Y d c a)/\w2.cell? ⟨wa.heap.size,2,O⟩=X (I J s.next)):=⟨(H.cell (aT _ _ t.o.1)).trans t.o.1,(H.cell (aT _ _ t.o.2.1)).trans t.o.2.1,(H.cell (aT _ _ t.o.2.2)).trans t.o.2.2⟩;clear hN H)
  |(go_at_call 41;refine(Q.o _ SA.o).mono ?_;rintro en w3 ⟨lv,rfl,ho,z⟩;obtain⟨la,lc,rfl,V,-,-⟩:=kt.of ho (by have:=R.o;unfold maxLen;omega) z;have ND:ah (uk w w3 BN M ad M.length la (aI s).length (aI s)):=⟨E.o.trans (z.mono E.o.size),NA.o.below z,RA.o.below z,V⟩;have E3:ah (w3.cell? ⟨wa.heap.size,0,O⟩=X (Y l m vc)/\w3.cell? ⟨wa.heap.size,1,O⟩=X (Y d c a)/\w3.cell? ⟨wa.heap.size,2,O⟩=X (I J s.next)):=⟨(z.cell (aT _ _ y.o.1)).trans y.o.1,(z.cell (aT _ _ y.o.2.1)).trans y.o.2.1,(z.cell (aT _ _ y.o.2.2)).trans y.o.2.2⟩;clear ho V z NA SA RA E))
 all_goals
  clear t y E3 F P D Q e0 e1 e2;obtain⟨n,hn⟩:=aq M.length;rw[hn]at ND h2;have HN:=af hn;try rw[hn]
  clear hn;go_wp2;go_loopw [12,23] (λnv iv wr=>∃(k q:Nat),nv=I J q/\iv=I J k/\k<=n/\q<=k/\ah (((M.take k).filter λx=>x.block==b&&lK M (aI s) base x).length=q)/\ah (uk w wr BN M ad n la (aI s).length (aI s))) (λ_ iv _=>n-(intOf iv).toNat)
  case atStart=>exact⟨0,0,rfl,rfl,aK _,am _,(by show _=_;simp),ND⟩
  case round=>
   rename iW=>wr
   obtain⟨k,q,rfl,rfl,hk,hq,HQ,p⟩:=hrel;clear ND;have aj:(0:Int)<=k:=by omega
   by_cases ak:(k:Int)<n
   ·obtain⟨x,B⟩:∃x,M[k]?=X x:=⟨_,ay (by have:=HN.o;omega)⟩
    obtain⟨rb,ro,rfl,-,c0,c1,c2,c3,c4,c5,c6,c7,d4⟩:=p.o.2.2.1.all B;have g:=af (aai (λx=>x.block==b&&lK M (aI s) base x) B)
    rw[HQ.o]at g;obtain⟨j,hj⟩:=aq (lK M (aI s) base x);rw[hj]at g;have HJ:=af hj;have ba:=aR wr (iC #[I J x.block,I J x.leaf,I J x.fP.kind,I J x.fP.seq,I J x.fP.tx,I J x.fP.part,I J x.fP.count,iT x.fP.text] 53);have f:=af (p.o.next ba);have FA:ah (jY (wr.alloc (iC #[I J x.block,I J x.leaf,I J x.fP.kind,I J x.fP.seq,I J x.fP.tx,I J x.fP.part,I J x.fP.count,iT x.fP.text] 53)) wr.heap.size x):=aC _ _;obtain⟨y0,y1,y2,y3,y4,y5,y6,y7⟩:=FA.o.cells;have K:=af (Yh BN M x la (aI s).length lc (aI s) base _ (by have:=R.o;omega) f.o.2.1 f.o.2.2.2)
    rw[HJ.o]at K;obtain⟨xb,xl,pk,pq,px,pp,pc,pt⟩:=x;unfold gG at K;simp only at c0 c1 c2 c3 c4 c5 c6 c7 d4 y0 y1 y2 y3 y4 y5 y6 y7 g K f;clear B hj HJ ba FA p HQ;by_cases hb:(xb==b)=iV
    ·rw[hb,gk]at g;go_wp2_with fail;refine K.o.mono ?_;rintro e w4 ⟨rfl,b4⟩;have S:=af (f.o.next b4);clear b4 K f;cases j with
     |true=>
      have i:ah (((M.take (k+1)).filter λx=>x.block==b&&lK M (aI s) base x).length=q+1):=g
      clear g;go_wp2;go_roundw
      case rel=>exact⟨k+1,q+1,by go_num,by go_num,by omega,by omega,i,S⟩
      case measure=>simp[intOf];omega
     |false=>
      have i:ah (((M.take (k+1)).filter λx=>x.block==b&&lK M (aI s) base x).length=q):=g
      clear g;go_wp2;go_roundw
      case rel=>exact⟨k+1,q,rfl,by go_num,by omega,by omega,i,S⟩
      case measure=>simp[intOf];omega
    ·have hb:(xb==b)=iF:=by simpa using hb
     rw[hb,kL]at g;have i:ah (((M.take (k+1)).filter λx=>x.block==b&&lK M (aI s) base x).length=q):=g
     clear g K;go_wp2;go_roundw
     case rel=>exact⟨k+1,q,rfl,by go_num,by omega,by omega,i,f⟩
     case measure=>simp[intOf];omega
   ·have HO:ah (iq M (aI s) base b=q):=by
     have:=HQ.o;rw[bL (by have:=HN.o;omega),<-ab.o]at this
     exact this
    clear HQ;go_wp2;go_ret;rw[HO.o];exact⟨rfl,p.o.1⟩
variable{d:Dv}
theorem eP.parts{w:iW}{a b c:iX}{n q t s:Int}(h:eP w (iA #[a,b,c,I J n,I J q,I J t,I J s]) d):fq w a d.fH/\de d.fH/\di w (iA #[b,c,I J n]) d.fS:=by
 obtain⟨i,vv,kv,e,h1,f,g⟩:=h;injection e with e
 injection e with e
 simp only[jk,Value.int.injEq,vL,kx]at e;obtain⟨rfl,rfl,rfl,rfl,-⟩:=e;exact⟨h1,f,g⟩
section
variable{n s:Int}
theorem Md(h:eP w (iA #[a,b,c,I J n,I J q,I J t,I J s]) d)(m:eC w)(base k:Int):
 iK Tryz.prog 15 #[iA #[a],iA #[b,c,I J n],I J base,I J k] w λe w'=>e=G (I J ((iq (au d.fH) (aI d.fS) base k:Nat):Int))/\iL w.heap.size w w':=by
 obtain⟨h1,j,l⟩:=h.parts;obtain⟨rs,i,o,p,f,g⟩:=h1.lens j;rw[<-i];exact Yx a rs _ d.fS base k w p f g o l m
theorem VK(h:eP w (iA #[a,b,c,I J n,I J q,I J t,I J s]) d)(base k:Int):
 iK Tryz.prog 18 #[iA #[a],iA #[b,c,I J n],I J base,I J k] w λe w'=>e=G (I J ((iq (au d.fH) (aI d.fS) base k:Nat):Int))/\iL w.heap.size w w':=by
 obtain⟨h1,j,l⟩:=h.parts;obtain⟨rs,i,m,o,f,g⟩:=h1.lens j;rw[<-i];exact XG a rs _ d.fS base k w o f g m l
theorem SH(h:eP w (iA #[a,b,c,I J n,I J q,I J t,I J s]) d):iK Tryz.prog 16 #[iA #[a]] w (kZ w d.fH):=by
 obtain⟨h1,i,l⟩:=h.parts;obtain⟨rs,g,j,k,e,f⟩:=h1.lens i;rw[<-g];exact oU a rs w k e f j
end
open Pack
variable{α H:Type}{T:List UInt8 -> Prop}{n B C k cap g m:Nat}{sp:Nat -> Bool}{ad:Option Addr}{P:Program}{e:TypeId}
theorem DC [BEq α] [LawfulBEq α]:∀{l m:List α},l.Nodup->(∀x∈l,x∈m)->l.length<=m.length
 | [],m,_,_=>aK _
 |a::l,m,h,hs=>by
  obtain⟨h1,f⟩:=z8.1 h;have c:=hs a (by simp)
  have g:=DC (m:=m.erase a) f (λx d=>by
   have b:x≠a:=λe=>h1 (e▸d)
   exact(List.mem_erase_of_ne b).2 (hs x (by simp[d])))
  have:=List.length_erase_of_mem c;have:0<m.length:=vJ c;simp only[aV];omega
theorem Gj(f:α->Int)(p:α->Bool)(m:Nat):∀M:List α,(∀x∈M,0<=f x/\f x<(m:Int))->((List.range m).map λ(b:Nat)=>(M.filter λx=>f x==(b:Int)&&p x).length).sum=(M.filter p).length
 | [],_=>by
  simp only[vG,dU]
  induction m with
  |zero=>rfl
  |succ m d=>rw[oe,fm,yN,d (λx i=>by cases i)];rfl
 |x::M,h=>by
  have d:=Gj f p m M (λy hy=>h y (by simp[hy]))
  obtain⟨h0,h1⟩:=h x (by simp)
  have split:∀k:Nat,((List.range k).map λ(b:Nat)=>((x::M).filter λx=>f x==(b:Int)&&p x).length).sum=((List.range k).map λ(b:Nat)=>(M.filter λx=>f x==(b:Int)&&p x).length).sum+(if p x=iV/\f x<(k:Int)then 1 else 0):=by
   intro k
   induction k with
   |zero=>simp;omega
   |succ k e=>
    rw[oe,fm,fm,yN,yN,e];simp only[cn,oh,fU,List.sum_nil,pP];rw[gP];by_cases a:p x=iV
    ·by_cases g:f x=(k:Int)
     ·have:(f x==(k:Int)&&p x)=iV:=by simp[g,a]
      rw[this];simp only[dw,aV];rw[aj (by omega),ak ⟨a,by omega⟩]
      omega
     ·have:(f x==(k:Int)&&p x)=iF:=by simp[g]
      rw[this];simp only[eS,fb];by_cases c:f x<(k:Int)
      ·rw[ak ⟨a,c⟩,ak ⟨a,by omega⟩];omega
      ·rw[aj (by omega),aj (by omega)];omega
    ·have:(f x==(k:Int)&&p x)=iF:=by simp[a]
     rw[this];simp only[eS,fb];rw[aj (λq=>a q.1),aj (λq=>a q.1)]
     omega
  rw[split m,d,gP];by_cases a:p x=iV
  ·rw[ak ⟨a,h1⟩,ak a];simp
  ·rw[aj (λq=>a q.1),aj a];rfl
variable{d:Dv}
theorem QS(h:cO T n d):((au d.fH).filter λx=>x.fP.kind==1&&(match bp (au d.fH) x.fP.tx with|some y=>lj y x|none=>iF)&&(aI d.fS).contains x.fP.tx).length=(aI d.fS).length:=by
 have b:=vA d.fH;have p:∀{x y:an},x∈au d.fH->y∈au d.fH->x.block=y.block->x.leaf=y.leaf->x=y:=by
  intro x y a hy A B;obtain⟨i,hi,k⟩:=oH a;obtain⟨j,C,l⟩:=oH hy;unfold sR at b;rw[nh]at b;rcases DL i j with q|q|q
  ·exact absurd ⟨by rw[k,l];exact A,by rw[k,l];exact B⟩ (b i j hi C q)
  ·subst q;rw[<-k,<-l]
  ·exact absurd ⟨by rw[k,l];exact A.symm,by rw[k,l];exact B.symm⟩ (b j i C hi q)
 have z:∀{x:an},x∈au d.fH->(match bp (au d.fH) x.fP.tx with|some y=>lj y x|none=>iF)=iV->bp (au d.fH) x.fP.tx=X x:=by
  intro x a g;cases hy:bp (au d.fH) x.fP.tx with
  |none=>rw[hy]at g;cases g
  |some y=>
   rw[hy]at g;simp only at g;unfold lj at g;simp only[bn,jg]at g;rw[p (ph hy).1 a g.1.1.1.1.1.1.1 g.1.1.1.1.1.1.2]
 generalize s:(au d.fH).filter (λx=>x.fP.kind==1&&(match bp (au d.fH) x.fP.tx with|some y=>lj y x|none=>iF)&&(aI d.fS).contains x.fP.tx)=F
 have f:∀x∈F,x∈au d.fH/\bp (au d.fH) x.fP.tx=X x/\x.fP.tx∈aI d.fS:=by
  intro x a;rw[<-s,eh]at a;simp only[bn,Em]at a;exact⟨a.1,z a.1 a.2.1.2,a.2.2⟩
 have u:(F.map λx=>x.fP.tx).Nodup:=by
  unfold List.Nodup;rw[uH];have o:F.Sublist (au d.fH):=by rw[<-s];exact tZ
  have w:F.Pairwise λx y=>¬(x.block=y.block/\x.leaf=y.leaf):=JK o b
  refine Ha ?_ w;intro x y a hy v e;have h1:=(f x a).2.1;have E:=(f y hy).2.1;rw[e,E]at h1;injection h1 with h1
  subst h1;exact v ⟨rfl,rfl⟩
 have G:(aI d.fS).Nodup:=(KH d.fS).1.imp (λh=>by omega)
 have I:F.length<=(aI d.fS).length:=by
  have:=DC u (m:=aI d.fS) (λc r=>by
   obtain⟨x,a,rfl⟩:=bJ.1 r;exact(f x a).2.2)
  simpa using this
 have J:(aI d.fS).length<=F.length:=by
  have:=DC G (m:=F.map λx=>x.fP.tx) (λc r=>by
   obtain⟨x,t,a,-,-⟩:=h.has r;obtain⟨m1,m2⟩:=ph a;obtain⟨H,D⟩:=vK m2;refine bJ.2 ⟨x,?_,D⟩;rw[<-s,eh];refine⟨m1,?_⟩;rw[D,a];simp[H,Du,r])
  simpa using this
 omega
theorem Fz{p q r:α->Bool}:∀{M:List α},(∀x∈M,p x=(q x||r x))->(∀x∈M,¬(q x=iV/\r x=iV))->(M.filter p).length=(M.filter q).length+(M.filter r).length
 | [],_,_=>rfl
 |x::M,h1,h2=>by
  have a:=Fz (M:=M) (λy hy=>h1 y (by simp[hy])) (λy hy=>h2 y (by simp[hy]))
  have e:=h1 x (by simp)
  have n:=h2 x (by simp)
  rw[gP,gP,gP,e];cases b:q x<;>cases c:r x
  ·simp[a]
  ·simp[a];omega
  ·simp[a];omega
  ·exact absurd ⟨b,c⟩ n
theorem Vl(h:cO T n d)(base:Int):
 ((List.range d.fH.length).map λ(b:Nat)=>iq (au d.fH) (aI d.fS) base (b:Int)).sum=(aI d.fS).length+((au d.fH).filter λx=>x.fP.kind==2&&decide (base<=x.fP.tx)).length:=by
 have e:((List.range d.fH.length).map λ(b:Nat)=>iq (au d.fH) (aI d.fS) base (b:Int))=(List.range d.fH.length).map λ(b:Nat)=>((au d.fH).filter λx=>x.block==(b:Int)&&mq (au d.fH) (aI d.fS) base x).length:=by
  apply nY;intro b _;exact yG _ _ _ (vA _) (λx a=>tE a)
 rw[e,Gj an.block (mq (au d.fH) (aI d.fS) base) d.fH.length _ (λx a=>by
  obtain⟨b,l,g,-,i,-⟩:=Cn a;omega)]
 rw[<-QS h,Nat.add_comm];refine Fz (λx a=>?_) (λx a=>?_)
 ·unfold mq;rcases tE a with c|c
  ·rw[aj (by omega),c]
   cases bp (au d.fH) x.fP.tx<;>simp
  ·rw[ak c];simp[c]
 ·rintro⟨h1,f⟩;simp only[bn,jg]at h1 f;omega
theorem Hk(ad:Option Addr)(a cap:Nat)(w:iW):
 iK Tryz.prog 7 #[Y ad a cap] w λe w'=>e=G (iB (decide ((1048576:Int)<a)))/\w'=w:=by
 by_cases h:(1048576:Int)<a;all_goals
  go_enter Tryz.func7,Tryz.ntmps7;go_wp2;go_ret;exact⟨by simp[h],rfl⟩
theorem gN.up{w:iW}{a:Nat}(h:gN w ad a B)(g:B<=C):gN w ad a C:=by
 intro j e;obtain⟨b,d,h1,f,c⟩:=h j e;exact⟨b,d,h1,by omega,c⟩
def aag(w:iW)(e:Ending)(w':iW):Prop:=
 ∃(g a:Nat) (l:List Int),e=G (Y (X ⟨g,0,O⟩) 12 a)/\w.heap.size<=g/\g<w'.heap.size/\l.length=12/\(∀x∈l,0<=x/\x<10000)/\(∀j (b:j<l.length),w'.cell? ⟨g,j,O⟩=X (I J l[j]))/\iL w.heap.size w w'
theorem Tv(ad:Option Addr)(b cap:Nat)(w:iW)(R:b<=1048576)(hd:gN w ad b w.heap.size):
 iK Tryz.prog 17 #[Y ad b cap] w λe w'=>aag w e w':=by
 obtain⟨i0,hi,U,V,W⟩:=bV lp;have K:=af hd;clear hd;go_enter Tryz.func17,Tryz.ntmps17;go_wp2_with fail;refine(Hb ad b cap w.heap.size _ R K.o).mono ?_;rintro e w1 ⟨p,rfl,z,N,G⟩;have HC:=af N;have hs:=G.size;have S:=N.2.2.2.2.2;have r:=af (K.o.on G (am _));clear N;go_wp2_with fail;refine(ti p ad b cap w.heap.size _ R HC.o r.o z).mono ?_;rintro e q ⟨x,rfl,x0,x1,g1,c1⟩;have B:iL w.heap.size w q:=G.trans (DQ g1 z hs);have L:=af (cL.code ⟨g1,c1⟩ r.o z S);have H:=af c1;have v:=c1.2.2.2.2.2;have T:=B.size;clear g1 c1 G HC r K;go_wp2;go_loopw [4,5] (λaa Z wr=>∃l:List Int,l.length<=12/\Z=I J l.length/\ah (∀x∈l,0<=x/\x<10000)/\wr.ownsRow q.heap.size 3 1 aa l.length (ax l)/\q.heap.size<=wr.heap.size/\ah (cL q wr p ad b cap)) (λ_ Z _=>12-(intOf Z).toNat)
 case atStart=>exact⟨[],by simp,rfl,(by intro x hx;cases hx),m9 q #[] 0 (am _) (by unfold maxLen;omega) (by simp),by simp,cL.below (cL.refl H.o) (bh) v⟩
 case round=>
  obtain⟨l,ht,rfl,f,a,ag,k⟩:=hrel;by_cases F:(l.length:Int)<12
  ·have A:=af (k.o.code L.o z v);go_wp2_with fail;refine(nf 10000 p ad b cap w.heap.size _ (by omega) R k.o.2 A.o z).mono ?_
   rintro e w3 ⟨x,rfl,x0,x1,_,D⟩;have x2:=x1 (by omega)
   have d:=a.lt;have c:=a.kept D.1 (.inr (λh=>by have:=d p h;omega))
   have D1:ah (cL q w3 p ad b cap):=k.o.trans D;have ac:=D.1.size;clear D a k A x1;go_wp2_with (at_builtin;refine cZ _ rfl _ _ 36 rfl q.heap.size 3 i0 (I J 0) 1 8 Tryz.underlying36 hi U V W rfl (by decide) _ _ _ rfl (by exact c.alloc _) ⟨w3.heap.size,0,O⟩ 1 1 [I J _] rfl rfl (by exact lz _ _ _) (qJ _) (by unfold maxLen;omega) (by omega) (by simp;omega) ?_)
   intro v' w4 n m _;have u:iL q.heap.size w3 w4:=yP (az _ _) (by omega) c m
   have D2:ah (cL q w4 p ad b cap):=D1.o.below u v;rw[qB l x]at n;have ae:=u.size;have t:ah (∀y∈l++[x],0<=y/\y<10000):=by
    intro y hy;rcases bG.1 hy with h|h
    ·exact f.o y h
    ·simp at h;subst h;exact⟨x0,x2⟩
   clear c m u D1 f;go_wp2;go_roundw
   case rel=>exact⟨l++[x],by simp;omega,by simp,t,by simpa using n,by omega,D2⟩
   case measure=>simp[intOf];omega
  ·have s:l.length=12:=by omega
   have M:iL w.heap.size w wr:=B.trans (DQ k.o.1 z T);rw[s]at a;have d:=a.lt;have C:=a;rcases a.2 with⟨-,h0⟩|⟨g,cp,ab,rfl,-,-,-,-,-,-⟩
   ·omega
   ·have F:=d g rfl;have P:w.heap.size<=g:=by omega
    have Q:g<wr.heap.size:=F.2;have i:∀j (hj:j<l.length),wr.cell? ⟨g,j,O⟩=X (I J l[j]):=by
     intro j hj;have:=C.cells (g:=g) rfl j _ (sE l j hj);rw[fw]at this;exact this
    have HO:=af i;have E:=af s;clear s i C a d;go_wp2;go_ret;exact⟨g,cp,l,rfl,P,Q,E.o,f.o,HO.o,M⟩
def tw(M:List an)(live:List Int)(base:Int)(k:Nat):Nat:=((List.range k).map λ(b:Nat)=>iq M live base (b:Int)).sum
theorem UK(M:List an)(live:List Int)(base:Int)(k:Nat):tw M live base (k+1)=tw M live base k+iq M live base (k:Int):=by
 unfold tw;rw[oe,fm,yN];simp
def n8(M:List an)(base:Int)(k:Nat):Nat:=((M.take k).filter λx=>x.fP.kind==2&&decide (base<=x.fP.tx)).length
variable{M:List an}{x:an}
theorem Mi(base:Int)(h:M[k]?=X x):n8 M base (k+1)=n8 M base k+if (x.fP.kind==2&&decide (base<=x.fP.tx))=iV then 1 else 0:=by
 unfold n8;rw[eG,h,ir,aJ];congr 1;by_cases a:(x.fP.kind==2&&decide (base<=x.fP.tx))=iV
 ·rw[ak a];simp[a]
 ·rw[aj a];simp[a]
theorem Ol(ad:Option Addr)(a cap:Nat)(w:iW)(hd:gN w ad a w.heap.size)(ht:eC w):
 iK Tryz.prog 4 #[Y ad a cap] w λe w'=>e=G (iB iV)/\iL w.heap.size w w':=by
 have HD:=af hd;have HT:=af ht;clear hd ht;by_cases h:(1048576:Int)<a
 ·go_enter Tryz.func4,Tryz.ntmps4;go_wp2_with fail;refine(Hk ad a cap _).mono ?_;rintro e w1 ⟨rfl,rfl⟩;rw[aW h];go_wp2;go_ret;exact⟨rfl,az _ _⟩
 ·have Q:a<=1048576:=by omega
  have P:decide ((1048576:Int)<a)=iF:=bf h;clear h;go_enter Tryz.func4,Tryz.ntmps4;go_wp2_with fail;refine(Hk ad a cap _).mono ?_;rintro e w0 ⟨rfl,al⟩;subst al;rw[P];clear P;go_wp2_with fail;refine(WL ad a cap _ Q HD.o).mono ?_;rintro e w1 ⟨v,d,rfl,o1,N,g1,b1⟩;obtain⟨fd,fc,va,vl,vc,ae,ln,ca,e1⟩:=o1.form;have x1:=o1.rd N;rw[e1]at x1;have b2:=aR w1 (iC #[Y fd d.fH.length fc,Y va vl vc,Y ae ln ca,I J d.fS.next,I J d.seq,I J d.tx,I J d.base] 34);have g2:aU (w1.alloc (iC #[Y fd d.fH.length fc,Y va vl vc,Y ae ln ca,I J d.fS.next,I J d.seq,I J d.tx,I J d.base] 34)) w1.heap.size (Y fd d.fH.length fc) (Y va vl vc) (Y ae ln ca) d.fS.next d.seq d.tx d.base:=aC _ _;have X2:=af (x1.below b2);have B2:=af (b1.trans (b2.mono b1.size));have HG:=af g1;subst e1;generalize an:w1.alloc (iC #[Y fd d.fH.length fc,Y va vl vc,Y ae ln ca,I J d.fS.next,I J d.seq,I J d.tx,I J d.base] 34)=w2 at g2 X2 B2;have G2:=af g2;have E:=g2.cells.1;have CS:=af (SH X2.o);unfold kZ at CS;have s:(au d.fH).length<=40:=(tJ g1.up.ok).1;have ac:d.fH.length<=10:=by
   have:=g1.up.ok;unfold bo at this;rw[bn,bH]at this;omega
  have S:(aI d.fS).length<=48:=by
   have:=qI d.fS;have:=g1.st.few;omega
  clear o1 N g1 b1 x1 b2 g2;go_wp2_with fail;clear an;refine CS.o.mono ?_;rintro e w3 ⟨la,lc,rfl,N,-,b3⟩;have HR:=af N;have X3:=af (X2.o.below b3);have G3:=af (G2.o.below b3);have F:=af (B2.o.trans (b3.mono B2.o.size));have H:=af ((HD.o.on F.o (am _)).up F.o.size);clear CS N b3 X2 G2 B2 E;go_wp2_with fail;refine(Tv ad a cap _ Q H.o).mono ?_;rintro e w4 ⟨pg,cp,pl,rfl,-,-,ai,V,U,L⟩;have X4:=af (X3.o.below L);have G4:=af (G3.o.below L);have R4:=af (HR.o.below L);have B4:=af (F.o.trans (L.mono F.o.size));have p0:=U 0 (by omega)
  obtain⟨x,C⟩:=aq (pl[0]'(by omega))
  have ar:0<=x/\x<10000:=by rw[<-C];exact V _ (qh _)
  rw[C]at p0;obtain⟨ao,ap⟩:=ar;obtain⟨M,O⟩:=aq (au d.fH);have HM:=af O;have A:=af (Vl HG.o);rw[O]at s R4;rw[O]at A;try rw[O]
  clear C V U ai L X3 G3 HR F H HD O;obtain⟨base,B⟩:=aq (x.tmod 12);go_upto_region 6 with fail
  clear B ao ap p0;obtain⟨t,f⟩:=aq (aI d.fS);have u:=af f;obtain⟨Z,i⟩:=aq d.fH.length;have p:ah (tw M t base Z=t.length+n8 M base M.length):=by
   show _=_;have:=A.o base;rw[f,i]at this;unfold tw n8;rw[bL (am _)];exact this
  rw[f]at S;rw[i]at ac X4 G4;rw[i];have ax:=af i;have ab:=af (HT.o.on B4.o);clear A f i HT;go_wp2;go_loopw [6,7] (λnv bv wr=>∃k q:Nat,nv=I J q/\bv=I J k/\k<=Z/\q<=k*40/\ah (tw M t base k=q)/\ah (iL w4.heap.size w4 wr)) (λ_ bv _=>Z-(intOf bv).toNat)
  case atStart=>exact⟨0,0,rfl,rfl,aK _,aK _,rfl,az _ _⟩
  case round=>
   rename iW=>wr
   obtain⟨k,q,rfl,rfl,hk,hq,HQ,j⟩:=hrel;have aA:(0:Int)<=k:=by omega
   obtain⟨E,y1,y2,y3,-,-,-⟩:=(G4.o.below j.o).cells;by_cases aD:(k:Int)<Z
   ·have CI:=af (Md (X4.o.below j.o) (ab.o.on j.o) base k);have R:=Lw M (cE M t base) k;have y:=af (UK M t base k);rw[HQ.o]at y;rw[HM.o,u.o]at CI;obtain⟨m,T⟩:=aq (iq M t base (k:Int));have ag:m<=40:=by rw[<-T];exact bT R s
    have aa:=af T;rw[T]at CI y;clear T R HQ;go_wp2_with fail;refine CI.o.mono ?_;rintro e w5 ⟨rfl,D⟩;have r:=af (j.o.trans (D.mono j.o.size));clear CI D j E y1 y2 y3;obtain⟨E,y1,y2,y3,-,-,-⟩:=(G4.o.below r.o).cells;have CN:=af (VK (X4.o.below r.o) base k);rw[HM.o,u.o,aa.o]at CN;go_wp2_with fail;refine CN.o.mono ?_;rintro e w6 ⟨rfl,b6⟩;have W6:=af (r.o.trans (b6.mono r.o.size));have aE:((m:Int) !=(m:Int))=iF:=by simp
    clear CN b6 r E y1 y2 y3;go_wp2;go_roundw
    case rel=>exact⟨k+1,q+m,by go_num,by go_num,by omega,by omega,y,W6⟩
    case measure=>simp[intOf];omega
   ·have z:ah (q=t.length+n8 M base M.length):=by
     show _=_;rw[<-HQ.o,show k=Z by omega]
     exact p.o
    clear HQ p;have SL:=(X4.o.below j.o).parts.2.2;go_wp2_with fail;refine(tC _ d.fS _ SL).mono ?_;rintro e w5 ⟨aG,rfl,ho,D⟩;rw[u.o]at ho;obtain⟨ia,ic,rfl,-,-,-⟩:=kt.of ho (by unfold maxLen;omega) D
    have r:=af (j.o.trans (D.mono j.o.size));clear ho SL D j E y1 y2 y3;obtain⟨c,hc⟩:=aq t.length;rw[hc]at z S;try rw[hc]
    clear hc;go_wp2;go_loopw [9,10] (λnv iv wr=>∃k m:Nat,nv=I J m/\iv=I J k/\k<=M.length/\m<=c+k/\ah (m=c+n8 M base k)/\ah (iL w4.heap.size w4 wr)) (λ_ iv _=>M.length-(intOf iv).toNat)
    case atStart=>exact⟨0,c,rfl,rfl,aK _,by omega,rfl,r⟩
    case round=>
     rename iW=>wr
     obtain⟨l,m,rfl,rfl,aB,T,n,g⟩:=hrel;clear r;have av:(0:Int)<=l:=by omega
     by_cases aw:(l:Int)<M.length
     ·obtain⟨x,C⟩:∃x,M[l]?=X x:=⟨_,ay (by omega)⟩
      obtain⟨rb,ro,rfl,-,c0,c1,c2,c3,c4,c5,c6,c7,d4⟩:=(R4.o.below g.o).all C;have b:=af (Mi base C);obtain⟨xb,xl,pk,pq,px,pp,pc,pt⟩:=x;simp only at c0 c1 c2 c3 c4 c5 c6 c7 d4 b;clear C;by_cases q1:(pk==2)=iV
      ·by_cases q2:px≥base
       ·have K:ah (m+1=c+n8 M base (l+1)):=by
         show _=_;rw[b.o,ak (by rw[q1,aW (show base<=px from q2)];rfl),n.o]
         omega
        clear b n;go_wp2;go_roundw
        case rel=>exact⟨l+1,m+1,by go_num,by go_num,by omega,by omega,K,g⟩
        case measure=>simp[intOf];omega
       ·have K:ah (m=c+n8 M base (l+1)):=by
         show _=_;rw[b.o,aj (by rw[bf (show¬base<=px from q2)];simp),n.o]
         omega
        clear b n;go_wp2;go_roundw
        case rel=>exact⟨l+1,m,rfl,by go_num,by omega,by omega,K,g⟩
        case measure=>simp[intOf];omega
      ·have q1:(pk==2)=iF:=by simpa using q1
       have K:ah (m=c+n8 M base (l+1)):=by
        show _=_;rw[b.o,aj (by rw[q1];simp),n.o]
        omega
       clear b n;go_wp2;go_roundw
       case rel=>exact⟨l+1,m,rfl,by go_num,by omega,by omega,K,g⟩
       case measure=>simp[intOf];omega
     ·have W:q=m:=by
       have h1:=n.o;have h2:=z.o;rw[show l=M.length by omega]at h1
       omega
      have aF:((q:Int)==(m:Int))=iV:=by rw[W];simp
      have FB:=af (B4.o.trans (g.o.mono B4.o.size));clear W n z;go_wp2;go_ret;exact⟨rfl,FB.o⟩
/-- A row of bytes that came in: nil, or cells that hold them. -/
def Zb(w:iW)(a:Option Addr)(len cap:Nat)(zs:List Int):Prop:=
 (a=O/\len=0/\cap=0/\zs=[])∨
 ∃x,a=X x/\len<=cap/\cap<=maxLen/\zs.length=cap/\(∀i,i<zs.length->w.cell? (x.add i)=X (I .u8 (zs.getD i 0)))/\∀n∈zs,(Lit.int .u8 n).wf=iV
theorem Np(b a j:Nat):(⟨b,a,O⟩:Addr).add j=⟨b,a+j,O⟩:=by
 simp only[Addr.add];split<;>simp_all
theorem OX{w:iW}{a:Option Addr}{e:Nat}{d:List Int}(h:Zb w a e cap d):gN w a e w.heap.size:=by
 intro j o;rcases h with⟨_,l,_⟩|⟨x,rfl,l,_,h4,k,m⟩
 ·omega
 ·obtain⟨b,i,f⟩:=x;have g:=k j (by omega)
  have c:f=O:=by simpa[Addr.add]using World.cell?_spot (k 0 (by omega))
  subst c;rw[Np]at g;have n:d.getD j 0∈d:=by
   rw[nJ,ay (by omega)]
   exact qh _
  have p:0<=d.getD j 0/\d.getD j 0<=255:=by simpa[Lit.wf,IntKind.min,IntKind.max,IntKind.signed,IntKind.bits]using m _ n
  refine⟨b,i,rfl,aT w _ g,(d.getD j 0).toNat,by omega,?_⟩
  rw[g];congr 2;omega
open Go.ChangeShapes
theorem V7 {enc:TypeId×iX->H} {t:TypeId} {k:IntKind} (i:P.underlying t=X (.array n e)) (g:P.underlying e=X (I k))
 (V d:iW) (b f:Nat) (sp c:Nat->Bool) (a:Bool) (fuel:Nat) (cs:List iX):
 DataW.trod enc P V b sp a fuel t cs=DataW.trod enc P d f c a fuel t cs:=by
 cases fuel with
 |zero=>rfl
 |succ fuel=>
  have h:∀x:List iX,DataW.trod enc P V b sp a fuel e x=DataW.trod enc P d f c a fuel e x:=by
   intro x;cases fuel with
   |zero=>rfl
   |succ fuel=>
    simp only[DataW.trod,g];rcases x with _|⟨v,_|⟨v2,r⟩⟩
    ·rfl
    ·cases v<;>rfl
    ·cases v<;>rfl
  simp only[DataW.trod,i,h]
theorem Jl{enc:TypeId×iX->H}{W:iW}:∀{ns:List String} {gs:List (DataW H)} {q:List MemPlace},DataW.TrodVars enc P W sp ns gs q->gs.length=ns.length
 | [],[],_,_=>rfl
 | [],_::_,_,h=>by simp[DataW.TrodVars]at h
 |_::_,[],_,h=>by simp[DataW.TrodVars]at h
 |_::_,_::_,_,h=>by
  obtain⟨_,_,_,_,_,_,_,_,_,_,hs,_⟩:=h;simp[Jl hs]
theorem ZD{enc:TypeId×iX->H}{W b:iW}{a:Nat->Bool}(gs:List (DataW H))(q:List MemPlace)(h:DataW.TrodVars enc P W sp [] gs q):DataW.TrodVars enc P b a [] gs q:=by
 cases gs with
 |nil=>exact h
 |cons=>simp[DataW.TrodVars]at h
theorem Xa {enc:TypeId×iX->H} {W b:iW} {a:Nat->Bool} {n:String} {ns:List String} {t:TypeId} {k:IntKind}
 (i:P.globalNamed n=X g) (l:(P.globals[g]?).map (·.type)=X t) (u:P.underlying t=X (.array m e)) (s:P.underlying e=X (I k)) (r:iL W.heap.size W b)
 (rest:∀gs q,DataW.TrodVars enc P W sp ns gs q->DataW.TrodVars enc P b a ns gs q) (gs:List (DataW H)) (q:List MemPlace) (h:DataW.TrodVars enc P W sp (n::ns) gs q):DataW.TrodVars enc P b a (n::ns) gs q:=by
 cases gs with
 |nil=>simp[DataW.TrodVars]at h
 |cons d v=>
  obtain⟨w,t',cs,fuel,p,q',h1,o,f,h4,hs,rfl⟩:=h;obtain rfl:=sV (i.symm.trans h1);obtain rfl:=sV (l.symm.trans o);have j:g<W.heap.size:=by
   rcases Nat.lt_or_ge g W.heap.size with c|c
   ·exact c
   ·unfold World.var? at f;simp[i,Array.getElem?_eq_none c]at f
  refine⟨g,t,cs,fuel,p,q',h1,o,var?_below r i j f,?_,rest _ _ hs,rfl⟩;rw[V7 u s b W 0 0 a sp];exact h4
end Go.Proofs.YtgigcooffjjbgaaGreatDoor
