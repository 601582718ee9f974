/-
  FrS; SDo; SOpen; SFree; SPlace; CeSt; StRow; SPut16
-/
import Derived.Test.YtgigcooffjjbgaaGreatDoorPk11
open Go.Value renaming int→I,slice→Y,string→iT,bool→iB,pointer→iP,agg→iA,tuple→iU
open Go.IntKind renaming i64→J
open Option renaming none→O,some→X
open Go.Ending renaming returned→G
open Go.Obj renaming cells→iC
open Bool renaming true→iV,false→iF
open Go renaming World→iW,Value→iX,Calls→iK
open Go.RowKit renaming Below→iL
set_option maxHeartbeats 2000000
set_option maxRecDepth 100000
namespace Go.Proofs.YtgigcooffjjbgaaGreatDoor
open Go.RowKit
def uP(w:iW)(B:Nat)(u:iX)(l:List Int):Prop:=w.ownsRow B 3 1 u l.length (ax l)
def qo(w wr:iW)(v a:iX)(l:List Int):Prop:=iL w.heap.size w wr/\wr.heap[w.heap.size]?=X (iC #[v] 26 (0,0))/\uP wr (w.heap.size+1) a l
theorem qo.below{w wr w':iW}{v a:iX}{l:List Int}(h:qo w wr v a l)(b:iL wr.heap.size wr w'):qo w w' v a l:=
 ⟨h.1.trans (b.mono h.1.size),(b.block _ (aL.1 h.2.1).1).trans h.2.1,bE h.2.2 b⟩
theorem qo.snoc{w wr d:iW}{v a g:iX}{l:List Int}{x:Int}{t:TypeId}(h:qo w wr v a l)(j:d.ownsRow (w.heap.size+1) 3 1 g (l.length+1) (ax l++[I J x]))(f:(wr.alloc (iC #[I J x] t)).grownBy d a.ownBlock):qo w d v g (l++[x]):=by
 have b:=h.below ((az _ _).alloc (am _) (iC #[I J x] t));have c:=(aL.1 b.2.1).1;refine⟨b.1.grown f b.1.size (λk i=>uT (h.2.2.lt k i).1),(f.block w.heap.size c (λe=>?_)).trans b.2.1,?_⟩
 ·have:=(h.2.2.lt _ e.symm).1;omega
 ·unfold uP;rw[aJ,<-qB];exact j
def zX(p:Int×Int×Bool):iX:=iU #[I J p.1,I J p.2.1,iB p.2.2]
theorem DU(v:iX)(bs:List Bk)(s:aM)(w:iW)(hs:de bs)(D:fq w v bs):
 iK Tryz.prog 185 #[iA #[v],yu s] w λe w'=>∃u,e=G (iU #[iA #[u],iB (cR bs s).2])/\dj w' w.heap.size u (cR bs s).1/\iL w.heap.size w w':=by
 obtain⟨z,vc,rfl⟩:=D.form;obtain⟨k,b,lf,t⟩:=s;unfold yu;simp only;have f:=af (Tk.three w #[Y z bs.length vc] #[I J k,I J b,I J lf,iT t] #[Y O 0 0] 26 254 26);have n:=af (D.below f.o.1);have B:=af hs;obtain⟨g,q,C⟩:∃g q,cR bs (k,b,lf,t)=(g,q):=⟨_,_,rfl⟩;have A:=af C;rw[C];clear D hs C;have E:w.heap.size<=w.heap.size+1+1:=by omega
 by_cases h1:k=1
 ·subst h1;have p:ah (gM bs b lf t=(g,q)):=by show _=_;rw[<-A.o];simp[cR]
  go_enter Tryz.func185,Tryz.ntmps185;go_wp2_with fail;generalize((w.alloc (iC #[Y z bs.length vc] 26)).alloc (iC #[I J 1,I J b,I J lf,iT t] 254)).alloc (iC #[Y O 0 0] 26)=w0 at f n⊢;refine(aap _ bs b lf t w0 B.o n.o).mono ?_;rintro e h ⟨u,rfl,a,i⟩;rw[p.o]at a⊢;simp only at a⊢;obtain⟨m,l,rfl⟩:=a.form;have c:=af (f.o.fla i a);have r:w.heap.size+1+1+1<=w0.heap.size:=f.o.hi 0 rfl;have H:h.cell? ⟨w.heap.size+1+1,0,O⟩=X (Y O 0 0):=c.o.at 1 0 rfl rfl;have F:=c.o.fr 1 0 rfl;have d:=af (c.o.write (hs':=[(w0.heap.size,h.heap.size,cF w0.heap.size h.heap.size (Y m g.length l) g)]) 1 rfl E (Y m g.length l) (λx j=>by rw[bR]at j;subst j;exact⟨lD ..,Or.inr r⟩))
  clear i a f c;go_wp2;exact aE (kH rfl _ _ (w.heap.size+1+1) _ rfl (d.o.get 0 rfl)) rfl ⟨_,rfl,(d.o.get 1 rfl).of (d.o.hi 1 rfl) (by omega),d.o.1⟩
 ·have K:(k==1)=iF:=by simpa using h1
  by_cases y:k=2
  ·subst y;have p:ah (gE bs b=(g,q)):=by show _=_;rw[<-A.o];simp[cR]
   go_enter Tryz.func185,Tryz.ntmps185;go_wp2_with fail;generalize((w.alloc (iC #[Y z bs.length vc] 26)).alloc (iC #[I J 2,I J b,I J lf,iT t] 254)).alloc (iC #[Y O 0 0] 26)=w0 at f n⊢;refine(YF _ bs b w0 B.o n.o).mono ?_;rintro e h ⟨u,rfl,a,i⟩;rw[p.o]at a⊢;simp only at a⊢;obtain⟨m,l,rfl⟩:=a.form;have c:=af (f.o.fla i a);have r:w.heap.size+1+1+1<=w0.heap.size:=f.o.hi 0 rfl;have H:h.cell? ⟨w.heap.size+1+1,0,O⟩=X (Y O 0 0):=c.o.at 1 0 rfl rfl;have F:=c.o.fr 1 0 rfl;have d:=af (c.o.write (hs':=[(w0.heap.size,h.heap.size,cF w0.heap.size h.heap.size (Y m g.length l) g)]) 1 rfl E (Y m g.length l) (λx j=>by rw[bR]at j;subst j;exact⟨lD ..,Or.inr r⟩))
   clear i a f c;go_wp2;exact aE (kH rfl _ _ (w.heap.size+1+1) _ rfl (d.o.get 0 rfl)) rfl ⟨_,rfl,(d.o.get 1 rfl).of (d.o.hi 1 rfl) (by omega),d.o.1⟩
  ·have L:(k==2)=iF:=by simpa using y
   have p:ah ((bs,iF)=(g,q)):=by show _=_;rw[<-A.o];simp[cR,h1,y]
   obtain⟨rfl,rfl⟩:=Prod.mk.inj p.o;clear h1 y;go_enter Tryz.func185,Tryz.ntmps185;go_wp2_with fail;generalize((w.alloc (iC #[Y z bs.length vc] 26)).alloc (iC #[I J k,I J b,I J lf,iT t] 254)).alloc (iC #[Y O 0 0] 26)=w0 at f n⊢;refine(wD _ bs w0 B.o n.o).mono ?_;rintro e h ⟨u,rfl,a,i⟩;obtain⟨m,l,rfl⟩:=a.form;have c:=af (f.o.fla i a);have r:w.heap.size+1+1+1<=w0.heap.size:=f.o.hi 0 rfl;have H:h.cell? ⟨w.heap.size+1+1,0,O⟩=X (Y O 0 0):=c.o.at 1 0 rfl rfl;have F:=c.o.fr 1 0 rfl;have d:=af (c.o.write (hs':=[(w0.heap.size,h.heap.size,cF w0.heap.size h.heap.size (Y m bs.length l) bs)]) 1 rfl E (Y m bs.length l) (λx j=>by rw[bR]at j;subst j;exact⟨lD ..,Or.inr r⟩))
   clear i a f c;go_wp2;exact aE (kH rfl _ _ (w.heap.size+1+1) _ rfl (d.o.get 0 rfl)) rfl ⟨_,rfl,(d.o.get 1 rfl).of (d.o.hi 1 rfl) (by omega),d.o.1⟩
theorem Zl(v:iX)(rs:List Rw)(w:iW)(hl:rs.length<=1048576)(L:∀r∈rs,r.2.2.2.length<=1048576)(ha:dX w v rs):
 iK Tryz.prog 213 #[iA #[v]] w λe w'=>e=G (I J (ib (rs.map aw)))/\iL w.heap.size w w':=by
 have aa:=ha;obtain⟨T,g,rfl,-,-⟩:=aa;have V:=af L;obtain⟨n,hn⟩:=aq rs.length;have HN:=af hn;have P:=af ((az w.heap.size w).alloc (am _) (iC #[Y T n g] 26));have A:=af ha;rw[hn]at hl A⊢;have R0:=af (aC w (iC #[Y T n g] 26));clear ha L hn;go_enter Tryz.func213,Tryz.ntmps213;go_wp2;have HF:=af (A.o.below P.o);clear A;generalize w.alloc (iC #[Y T n g] 26)=wA at P HF R0⊢;have cf:wA.cell? ⟨w.heap.size,0,O⟩=X (Y T n g):=ai _ _ 0 _ _ _ R0.o;go_loop [3] (λbv=>∃b:Nat,bv=I J b/\b<=n/\ah (∀(j:Nat) (c:Bk),j<b->(rs.map aw)[j]?=X c->fY c=iF)) (λbv=>n-(intOf bv).toNat)
 case atStart=>exact⟨0,rfl,aK _,(show∀(j:Nat) (c:Bk),j<0->(rs.map aw)[j]?=X c->fY c=iF from λj c hj=>by omega)⟩
 case round=>
  obtain⟨b,rfl,r1,l⟩:=hrel;by_cases ac:(b:Int)<n
  ·have i:b<rs.length:=by have:=HN.o;omega
   obtain⟨r,Q⟩:∃r,rs[b]?=X r:=⟨_,ay i⟩;have N:(rs.map aw)[b]?=X (aw r):=by rw[bi,Q];rfl
   obtain⟨gv,e,⟨c1,c2,c3⟩,s⟩:=HF.o.at Q;subst e;have M:=V.o r (aO Q);obtain⟨x,y,u,ls⟩:=r;simp only at c1 c2 c3;simp only at s M;have b0:(0:Int)<=b:=by omega
   have K:=s;obtain⟨ld,lc,rfl,-,-⟩:=K;have D:=af s;have E:=af N;obtain⟨m,hm⟩:=aq ls.length;have W:=af hm;rw[hm]at c3 M;clear N s Q i hm;go_wp2;go_loop [4,5,6] (λnv mv kv=>∃(k p q:Nat),kv=I J k/\k<=m/\nv=I J p/\mv=I J q/\p<=k/\q<=k/\ah (da (ls.take k)=p/\p+q=k)) (λ_ _ kv=>m-(intOf kv).toNat)
   case atStart=>exact⟨0,0,0,rfl,aK _,rfl,rfl,am _,am _,⟨rfl,rfl⟩⟩
   case round=>
    obtain⟨k,p,q,rfl,hk,rfl,rfl,hp,hq,h⟩:=hrel;by_cases ab:(k:Int)<m
    ·have B:k<ls.length:=by have:=W.o;omega
     obtain⟨z,t,R⟩:∃z t,ls[k]?=X (z,t):=⟨ls[k].1,ls[k].2,ay B⟩;obtain⟨gl,lo,e⟩:=D.o.head (by have:=W.o;omega)
     subst e;obtain⟨d1,-⟩:=D.o.two R;simp only at d1;have k0:(0:Int)<=k:=by omega
     have f:=AH R;simp only at f;by_cases S:z=0
     ·have U:ah (da (ls.take (k+1))=p+1/\p+1+q=k+1):=by
       rw[ak S,h.o.1]at f;exact⟨f,by have:=h.o.2;omega⟩
      subst S;clear R B h f;go_wp2;go_round
      case rel=>exact⟨k+1,p+1,q,by go_num,by omega,by go_num,rfl,by omega,by omega,U⟩
      case measure=>simp[intOf];omega
     ·have U:ah (da (ls.take (k+1))=p/\p+(q+1)=k+1):=by
       rw[aj S,h.o.1]at f;exact⟨f,by have:=h.o.2;omega⟩
      have ag:(z==0)=iF:=by simpa using S
      clear R B h f;go_wp2;go_round
      case rel=>exact⟨k+1,p,q+1,by go_num,by omega,rfl,by go_num,by omega,by omega,U⟩
      case measure=>simp[intOf];omega
    ·have H:k=ls.length:=by have:=W.o;omega
     have i:da ls=p:=by rw[<-h.o.1,H,bL (am _)]
     have d:fY (x,y,ls)=(!x&&decide (0<p/\0<q)):=by
      unfold fY;simp only[i];congr 2;apply propext;have:=h.o.2;omega
     have a:fY (x,y,ls)=iF->ah (∀(j:Nat) (c:Bk),j<b+1->(rs.map aw)[j]?=X c->fY c=iF):=by
      intro hf j c hj C;by_cases e:j=b
      ·subst e;rw[E.o]at C;cases C;exact hf
      ·exact l.o j c (by omega) C
     clear H i;cases x with
     |true=>
      have F:=a (by rw[d];rfl)
      clear d a h;go_wp2;go_round
      case rel=>exact⟨b+1,by go_num,by omega,F⟩
      case measure=>simp[intOf];omega
     |false=>
      by_cases ad:(0:Int)<p
      ·by_cases ae:(0:Int)<q
       ·have Z:ah (ib (rs.map aw)=b):=Ww E.o (show fY (iF,y,ls)=iV by rw[d];simp;omega) l.o
        clear d a h;go_wp2;go_ret;exact⟨by rw[Z.o];rfl,P.o⟩
       ·have F:=a (by rw[d];simp;omega)
        clear d a h;go_wp2;go_round
        case rel=>exact⟨b+1,by go_num,by omega,F⟩
        case measure=>simp[intOf];omega
      ·have F:=a (by rw[d];simp;omega)
       clear d a h;go_wp2;go_round
       case rel=>exact⟨b+1,by go_num,by omega,F⟩
       case measure=>simp[intOf];omega
  ·have Z:ah (ib (rs.map aw)= -1):=PH (λj c C=>l.o j c (by have:=(aB.1 C).1;rw[bm]at this;have:=HN.o;omega) C)
   clear l;go_wp2;go_ret;exact⟨by rw[Z.o];rfl,P.o⟩
def pG(x:Bool)(ls:List (Int×ByteArray))(k:Nat):Bool:= !x&&decide (da (ls.take k)=k)
variable{fn:Func}{ls:List (Int × ByteArray)}{k g cap i n q lo B z:Nat}{ok:Nat -> Prop}{ad:Option Addr}
theorem VM{x:Bool}{t:Int×ByteArray}(c:ls[k]?=X t):pG x ls (k+1)=(pG x ls k&&(t.1==0)):=by
 have h1:=AH c;have d:da (ls.take k)<=k:=bT (zV _) (List.length_take_le _ _);unfold pG;rw[h1];by_cases h:t.1=0
 ·simp[h]
 ·have a:decide (da (ls.take k)+(if t.1=0 then 1 else 0)=k+1)=iF:=bf (by rw[aj h];omega)
  have b:(t.1==0)=iF:=by simpa using h
  rw[a,b];simp
theorem Wj(x:Bool)(y:Int)(ls:List (Int×ByteArray)):pG x ls ls.length=lA (x,y,ls):=by
 unfold pG lA;rw[bL (am _)]
theorem Sv(v:iX)(rs:List Rw)(w:iW)(hl:rs.length<=1048576)(E:∀r∈rs,r.2.2.2.length<=1048576)(T:dX w v rs):
 iK Tryz.prog 214 #[iA #[v]] w λe w'=>∃u,e=G u/\uP w' w.heap.size u (jB (rs.map aw))/\iL w.heap.size w w':=by
 obtain⟨i0,V,aa,ab,ac⟩:=bV lp;have U:=T;obtain⟨j,a,rfl,-,-⟩:=U;have P:=af E;obtain⟨n,Z⟩:=aq rs.length;have HN:=af Z;have p:=af T;rw[Z]at hl p⊢;have R:=aR w (iC #[Y j n a] 26);have S0:ah (qo w (w.alloc (iC #[Y j n a] 26)) (Y j n a) (Y O 0 0) []):=⟨R,aC _ _,uK _ _ _ _⟩;clear T E Z R;go_enter Tryz.func214,Tryz.ntmps214;go_wp2;go_loopw [3,4] (λad S wr=>∃(b:Nat) (l:List Int),S=I J b/\b<=n/\l.length<=b/\ah (l=iE (rs.map aw) b)/\ah (qo w wr (Y j n a) ad l)) (λ_ S _=>n-(intOf S).toNat)
 case atStart=>
  refine⟨0,[],rfl,aK _,aK _,rfl,?_⟩;have s1:=S0.o.below ((az _ _).alloc (am _) (iC #[] 3));refine⟨s1.1,s1.2.1,?_⟩;have:=m9 (e:=3) (size:=1) (w.alloc (iC #[Y j n a] 26)) #[] 0 (am _) (by unfold maxLen;omega) (by simp)
  unfold uP ax
  simpa using this
 case round=>
  obtain⟨b,l,rfl,r1,ae,d,g⟩:=hrel;clear S0;have cf:wr.cell? ⟨w.heap.size,0,O⟩=X (Y j n a):=ai _ _ 0 _ _ _ g.o.2.1;by_cases aj:(b:Int)<n
  ·have A:b<rs.length:=by have:=HN.o;omega
   obtain⟨r,N⟩:∃r,rs[b]?=X r:=⟨_,ay A⟩;have H:(rs.map aw)[b]?=X (aw r):=by rw[bi,N];rfl
   obtain⟨gv,e,⟨c1,c2,c3⟩,h⟩:=(p.o.below g.o.1).at N;subst e;have F:=P.o r (aO N);obtain⟨x,y,u,ls⟩:=r;simp only at c1 c2 c3;simp only at h F;have R:(0:Int)<=b:=by omega
   have D:=h;obtain⟨ld,lc,rfl,-,-⟩:=D;have q:=af h;have s:=af H;obtain⟨m,W⟩:=aq ls.length;have Q:=af W;rw[W]at c3 F;clear H h N A W;have ST:ah (pG x ls 0= !x):=by show _=_;simp[pG,da]
   go_wp2;go_loop [5,6] (λfv kv=>∃(k:Nat) (f:Bool),kv=I J k/\k<=m/\fv=iB f/\ah (pG x ls k=f)) (λ_ kv=>m-(intOf kv).toNat)
   case atStart=>exact⟨0, !x,rfl,aK _,rfl,ST⟩
   case round=>
    obtain⟨k,f,rfl,hk,rfl,K⟩:=hrel;clear ST;by_cases ag:(k:Int)<m
    ·have B:k<ls.length:=by have:=Q.o;omega
     obtain⟨z,t,ht⟩:∃z t,ls[k]?=X (z,t):=⟨ls[k].1,ls[k].2,ay B⟩;obtain⟨gl,lo,e⟩:=q.o.head (by have:=Q.o;omega)
     subst e;obtain⟨d1,-⟩:=q.o.two ht;simp only at d1;have AN:ah (pG x ls (k+1)=(f&&(z==0))):=by show _=_;rw[VM ht,K.o]
     have k0:(0:Int)<=k:=by omega
     clear ht B K;cases f with
     |false=>
      go_wp2;go_round
      case rel=>exact⟨k+1,iF,by go_num,by omega,rfl,AN⟩
      case measure=>simp[intOf];omega
     |true=>
      go_wp2;go_round
      case rel=>exact⟨k+1,(z==0),by go_num,by omega,rfl,AN⟩
      case measure=>simp[intOf];omega
    ·have C:k=ls.length:=by have:=Q.o;omega
     have M:lA (x,y,ls)=f:=by rw[<-Wj x y ls,<-K.o,C]
     clear C K;cases f with
     |false=>
      have L:ah (l=iE (rs.map aw) (b+1)):=by show _=_;rw[SM s.o M];exact d.o
      clear M;go_wp2;go_roundw
      case rel=>exact⟨b+1,l,by go_num,by omega,by omega,L,g⟩
      case measure=>simp[intOf];omega
     |true=>
      have L:ah (l++[(b:Int)]=iE (rs.map aw) (b+1)):=by show _=_;rw[OB s.o M,d.o]
      clear M;go_wp2_with (at_builtin;refine cZ _ rfl _ _ 36 rfl (w.heap.size+1) 3 i0 (I J 0) 1 8 Tryz.underlying36 V aa ab ac rfl (by decide) _ l.length (ax l) rfl (g.o.2.2.alloc _) ⟨wr.heap.size,0,O⟩ 1 1 [I J _] rfl rfl (by exact lz _ _ _) (qJ _) ?g1 ?g2 ?g3 ?_)
      case g1=>unfold maxLen;omega
      case g2=>omega
      case g3=>have:=(aL.1 g.o.2.1).1;simp;omega
      intro v' w4 i c _;have NS:=af (g.o.snoc i c);have NN:(l++[(b:Int)]).length=l.length+1:=by simp
      generalize l++[(b:Int)]=l3 at L NS NN;clear i c g;go_wp2;go_roundw
      case rel=>exact⟨b+1,l3,by go_num,by omega,by omega,L,NS⟩
      case measure=>simp[intOf];omega
  ·have PF:ah (jB (rs.map aw)=l):=by
    show _=_;unfold jB;rw[bm,d.o];congr 1;have:=HN.o;omega
   clear d;go_wp2;go_ret;refine⟨_,rfl,?_,g.o.1⟩;rw[PF.o];exact lJ g.o.2.2 (by omega)
theorem SQ{L:List Wb}{b x:Wb}(c:kV (L.take k) b)(d:L[k]?=X x)(a:gR x b):kV (L.take (k+1)) x:=by
 obtain⟨h1,rfl⟩:=aB.1 d;rw[eY h1];refine⟨xY _ (bR.2 rfl),λy hy=>?_⟩
 rcases bG.1 hy with hy|hy
 ·exact Yv (c.2 y hy) a
 ·rw[bR]at hy;subst hy;exact xL _
theorem Ri{L:List Wb}{b x:Wb}(c:kV (L.take k) b)(d:L[k]?=X x)(a:¬gR x b):kV (L.take (k+1)) b:=by
 obtain⟨h1,rfl⟩:=aB.1 d;rw[eY h1];refine⟨sC _ c.1,λy hy=>?_⟩
 rcases bG.1 hy with hy|hy
 ·exact c.2 y hy
 ·rw[bR]at hy;subst hy;exact a
theorem SC(v:iX)(rs:List Rw)(w:iW)(hl:rs.length<=1048576)(f:∀r∈rs,r.2.2.2.length<=1048576)(ha:dX w v rs):
 iK Tryz.prog 184 #[iA #[v]] w λe w'=>e=G (zX (gy (rs.map aw)))/\iL w.heap.size w w':=by
 have ar:=ha;obtain⟨p,a,rfl,-,-⟩:=ar;obtain⟨n,D⟩:=aq rs.length;have b1:=(az w.heap.size w).alloc (am _) (iC #[Y p n a] 26);have HF:=af ha;have HN:=af D;have ak:=af f;have R1:=af (aC w (iC #[Y p n a] 26));have C1:ah (∀W,iL w.heap.size w W->iK Tryz.prog 137 #[iA #[Y p n a]] W λe w'=>e=G (iB (bo (rs.map aw)))/\iL W.heap.size W w'):=by
  intro W A;have:=xh (Y p rs.length a) rs W hl f (ha.below A);rw[D]at this;exact this
 have C2:ah (∀W,iL w.heap.size w W->iK Tryz.prog 213 #[iA #[Y p n a]] W λe w'=>e=G (I J (ib (rs.map aw)))/\iL W.heap.size W w'):=by
  intro W A;have:=Zl (Y p rs.length a) rs W hl f (ha.below A);rw[D]at this;exact this
 have C3:ah (∀W,iL w.heap.size w W->iK Tryz.prog 214 #[iA #[Y p n a]] W λe w'=>∃u,e=G u/\uP w' W.heap.size u (jB (rs.map aw))/\iL W.heap.size W w'):=by
  intro W A;have:=Sv (Y p rs.length a) rs W hl f (ha.below A);rw[D]at this;exact this
 have H:=af b1;rw[D]at hl⊢;clear f ha b1;cases c:bo (rs.map aw)with
 |false=>
  have s:=af (Xz c);rw[c]at C1;clear c D;go_enter Tryz.func184,Tryz.ntmps184;go_wp2_with fail;refine(C1.o _ H.o).mono ?_;rintro e w2 ⟨rfl,Z⟩;have T:=af (H.o.trans (Z.mono H.o.size));clear Z;go_wp2;go_ret3;exact⟨by rw[s.o];rfl,T.o⟩
 |true=>
  have au:=Mj c;rw[bm,D]at au;rw[c]at C1;have L:=af c;clear c D;go_enter Tryz.func184,Tryz.ntmps184;go_wp2_with fail;refine(C1.o _ H.o).mono ?_;rintro e w2 ⟨rfl,Z⟩;have T:=af (H.o.trans (Z.mono H.o.size));have R2:=af ((Z.block _ (aL.1 R1.o).1).trans R1.o);have c2:w2.cell? ⟨w.heap.size,0,O⟩=X (Y p n a):=ai _ _ 0 _ _ _ R2.o;clear Z C1 R1 H;go_wp2_with fail;refine(C2.o _ T.o).mono ?_;rintro e w3 ⟨rfl,b3⟩;have U:=af (T.o.trans (b3.mono T.o.size));have R3:=af ((b3.block _ (aL.1 R2.o).1).trans R2.o);have c3:w3.cell? ⟨w.heap.size,0,O⟩=X (Y p n a):=ai _ _ 0 _ _ _ R3.o;clear b3 C2 R2 T c2;rcases Jo (rs.map aw)with⟨R,-⟩|⟨k,b,R,hb,-,-⟩
  ·rw[R];have HO:=af R;have ac:=af (λ(x:Int) (hx:x∈jB (rs.map aw))=>AR hx)
   have aa:=af (OA (rs.map aw) (rs.map aw).length);have B:(jB (rs.map aw)).length<=10:=by
    have:=YP (rs.map aw) (rs.map aw).length;simp only[jB,bm]at this⊢;have:=HN.o;omega
   clear R;go_wp2_with fail;refine(C3.o _ U.o).mono ?_;rintro e S ⟨u,rfl,hu,b4⟩;have K:=af (U.o.trans (b4.mono U.o.size));have R4:=af ((b4.block _ (aL.1 R3.o).1).trans R3.o);obtain⟨ud,aD,rfl,-,u2,u3⟩:=lS hu;unfold maxLen at u2;have U3:=af u3;have HU:=af hu;obtain⟨F,hF⟩:=aq (jB (rs.map aw));have d:jB (rs.map aw)=[]->gy (rs.map aw)=(0,0,iF):=λh0=>Iv L.o HO.o h0
   have PL:∀r,kV (mX (rs.map aw) F) r->gy (rs.map aw)=(r.1,0,iV):=λr z=>FQ L.o HO.o (by rw[hF];exact z)
   have M:=af d;have al:=af PL;have ab:ah (F.Pairwise (·<·)):=by rw[<-hF];exact aa.o
   rw[hF]at ac B HU U3 M⊢;obtain⟨m,hm⟩:=aq F.length;have HM:=af hm;rw[hm]at U3 B⊢;clear b4 hu u3 R3 c3 C3 d PL hF aa hm;have c4:S.cell? ⟨w.heap.size,0,O⟩=X (Y p n a):=ai _ _ 0 _ _ _ R4.o;by_cases h0:m=0
   ·subst h0;have s:ah (gy (rs.map aw)=(0,0,iF)):=M.o (gK HM.o);clear M;go_wp2;go_ret3;exact⟨by rw[s.o];rfl,K.o⟩
   ·have aI:((m:Int)==0)=iF:=by simp;omega
    have aJ:¬(m:Int)=0:=by omega
    obtain⟨gu,e,g1,g2⟩:=U3.o (by omega)
    subst e;obtain⟨gv,e⟩:=HF.o.head (by have:=HN.o;omega)
    subst e
    -- a free block, as it is read
    have RD:ah (∀(W:iW) (k:Nat),iL S.heap.size S W->k<m->∃(j:Nat) (y:Int),F[k]?=X (j:Int)/\j<n/\(mX (rs.map aw) F)[k]?=X ((j:Int),y)/\uj (rs.map aw) (j:Int)=y/\W.cell? ⟨gu,k,O⟩=X (I J (j:Int))/\W.cell? ⟨gv,j*3+1,O⟩=X (I J y)):=by
     intro W k A hk;obtain⟨x,hx⟩:∃x,F[k]?=X x:=⟨_,ay (by have:=HM.o;omega)⟩
     obtain⟨j,e,hj,b,hb,-⟩:=ac.o x (aO hx);rw[bm]at hj;obtain⟨r,z⟩:∃r,rs[j]?=X r:=⟨_,ay hj⟩;have ag:uj (rs.map aw) (j:Int)=r.2.1:=by unfold uj;rw[bk,bi,z];rfl
     subst e;refine⟨j,r.2.1,hx,by have:=HN.o;omega,by unfold mX;rw[bi,hx,<-ag];rfl,ag,?_,?_⟩
     ·have h1:=(bE HU.o A).cells (g:=gu) rfl k (I J (j:Int)) (by rw[ax];rw[bi,hx];rfl)
      rw[fw]at h1;exact h1
     ·have ao:=K.o.trans (A.mono K.o.size);obtain⟨aE,e,⟨-,c2,-⟩,-⟩:=(HF.o.below ao).at z;injection e with e
      injection e with e
      subst e;exact c2
    obtain⟨j0,y0,e1,e2,e3,e4,e5,e6⟩:=RD.o S 0 (az _ _) (by omega)
    have L0:ah (kV ((mX (rs.map aw) F).take 1) ((j0:Int),y0)):=by
     have:=eY (l:=mX (rs.map aw) F) (i:=0) (aB.1 e3).1;rw[aB]at e3;rw[show(1:Nat)=0+1 from rfl,this,e3.2];exact⟨by simp,λy hy=>by simp at hy;subst hy;exact xL _⟩
    have E1:=af e1;have E4:=af e4;have E2:=af e2;clear e1 e2 e3 e4 e6;go_wp2;clear e5;go_loopw [7,8] (λbv iv wr=>∃(k j:Nat) (y:Int),iv=I J k/\bv=I J (j:Int)/\1<=k/\k<=m/\ah (∃i,i<k/\F[i]?=X (j:Int))/\ah (j<n)/\ah (uj (rs.map aw) (j:Int)=y)/\ah (kV ((mX (rs.map aw) F).take k) ((j:Int),y))/\ah (iL S.heap.size S wr)) (λ_ iv _=>m-(intOf iv).toNat)
    case atStart=>exact⟨1,j0,y0,rfl,rfl,by omega,by omega,⟨0,by omega,E1.o⟩,E2,E4,L0,az _ _⟩
    case round=>
     obtain⟨k,j,y,rfl,rfl,aF,hk,HI,HJ,HY,V,HW⟩:=hrel;clear L0 E1 E4 E2;have cf:wr.cell? ⟨w.heap.size,0,O⟩=X (Y (X ⟨gv,0,O⟩) n a):=ai _ _ 0 _ _ _ ((HW.o.block _ (aL.1 R4.o).1).trans R4.o);by_cases aH:(k:Int)<m
     ·obtain⟨j2,y2,f1,f2,f3,f4,f5,f6⟩:=RD.o wr k HW.o (by omega)
      -- the best one, as it is read
      obtain⟨i,av,t⟩:=HI.o;obtain⟨E,y3,g3,g4,g5,g6,g7,g8⟩:=RD.o wr i HW.o (by omega)
      have ad:(j:Int)=E:=by rw[t]at g3;cases g3;rfl
      have ae:E=j:=by omega
      subst ae;have aA:y3=y:=by rw[<-g6,HY.o]
      subst aA
      -- places ascend
      have C:(E:Int)<j2:=by
       obtain⟨p1,p2⟩:=aB.1 t;obtain⟨p3,p4⟩:=aB.1 f1;have:=nh.1 ab.o i k p1 p3 av;rw[p2,p4]at this;exact this
      have jn:(E:Int)<n:=by omega
      have aK:(j2:Int)<n:=by omega
      have z1:(0:Int)<=E:=by omega
      have z2:(0:Int)<=j2:=by omega
      have z3:(0:Int)<=k:=by omega
      have F1:=af f1;have F2:=af f2;have F4:=af f4;have BD:=af (λq=>dL HW.o q)
      have KI:=af HI.o;by_cases hw:y2<y3
      ·have NL:=af (SQ V.o f3 (show gR ((j2:Int),y2) ((E:Int),y3)from Or.inl hw));clear f1 f2 f3 f4 g3 g4 g5 g6 g7 HI V HY t C ad;go_wp2;go_quiet (fail);go_wp2;go_roundw
       case rel=>exact⟨k+1,j2,y2,by go_num,rfl,by omega,by omega,⟨k,by omega,F1.o⟩,F2,F4,NL,BD.o _⟩
       case measure=>simp[intOf];omega
      ·have NL:=af (Ri V.o f3 (show¬gR ((j2:Int),y2) ((E:Int),y3)from λh=>by unfold gR at h;simp only at h;omega))
       have an:=af HY.o;have aj:=af HJ.o;clear f1 f2 f3 f4 g3 g4 g5 g6 g7 HI V HY HJ t C ad;go_wp2;go_quiet (fail);go_wp2;go_roundw
       case rel=>exact⟨k+1,E,y3,by go_num,rfl,by omega,by omega,(by obtain⟨i,h1,h2⟩:=KI.o;exact⟨i,by omega,h2⟩),aj,an,NL,BD.o _⟩
       case measure=>simp[intOf];omega
     ·have s:ah (gy (rs.map aw)=((j:Int),0,iV)):=by
       have:=V.o;rw[bL (by simp only[mX,bm];have:=HM.o;omega)]at this
       exact al.o _ this
      have B5:=af (K.o.trans (HW.o.mono K.o.size));clear V HI HY HJ;go_wp2;go_ret3;exact⟨by rw[s.o];rfl,B5.o⟩
  ·rw[R];have aG:k<n:=by have:=(aB.1 hb).1;rw[bm]at this;have:=HN.o;omega
   have s:=af (JH L.o R hb);obtain⟨r,z⟩:∃r,rs[k]?=X r:=⟨_,ay (by have:=HN.o;omega)⟩
   have ap:b=aw r:=by rw[bi,z]at hb;cases hb;rfl
   subst ap;obtain⟨gv,e,⟨c1,c2,c4⟩,P⟩:=(HF.o.below U.o).at z;subst e;have Q:=ak.o r (aO z);obtain⟨x,y,u,ls⟩:=r;simp only at c1 c2 c4;simp only[aw]at s;simp only at P Q;have C4:=af (Cq x y u ls w3 Q P);generalize br ls=N at C4 s;have k0:(0:Int)<=k:=by omega
   have kn:(k:Int)<n:=by omega
   clear R hb z P Q;go_wp2_with fail;refine C4.o.mono ?_;rintro e S ⟨rfl,b4⟩;have K:=af (U.o.trans (b4.mono U.o.size));clear C4 b4;go_wp2;go_ret3;exact⟨by rw[s.o];rfl,K.o⟩
def ry(t:Int×Int×Int×ByteArray):List iX:=[I J t.1,I J t.2.1,I J t.2.2.1,iT t.2.2.2]
def cV(l:List (Int×Int×Int×ByteArray)):List iX:=l.flatMap ry
theorem OT(l:List (Int×Int×Int×ByteArray)):(cV l).length=l.length*4:=by
 induction l with
 |nil=>rfl
 |cons t l a=>simp[cV,ry]at a⊢;omega
theorem Ag(a b:List (Int×Int×Int×ByteArray)):cV (a++b)=cV a++cV b:=by simp[cV]
theorem Qc(t:Int×Int×Int×ByteArray)(l:List (Int×Int×Int×ByteArray)):cV (t::l)=ry t++cV l:=by simp[cV]
theorem IW(l:List (Int×Int×Int×ByteArray))(k:Nat)(t:Int×Int×Int×ByteArray)(h:l[k]?=X t)(j:Nat)(v:iX)(b:(ry t)[j]?=X v):(cV l)[k*4+j]?=X v:=by
 have c:j<4:=(aB.1 b).1
 induction l generalizing k with
 |nil=>simp at h
 |cons a l d=>
  rw[Qc];cases k with
  |zero=>
   simp at h;subst h;rw[hI (by show _<4;omega),mW,eV]
   exact b
  |succ k=>
   rw[ct (by show 4<=_;omega),show(k+1)*4+j-(ry a).length=k*4+j by show _-4=_;omega]
   exact d k (by simpa using h)
theorem Nj(l:List (Int×Int×Int×ByteArray)):∀v∈cV l,v.oneCell'=iV:=by
 intro v b;obtain⟨t,-,a⟩:=md.1 b;simp[ry]at a;rcases a with h|h|h|h<;>subst h<;>rfl
theorem An:(Tryz.prog.info? 254).map (λi=>(i.zero,i.size,i.bytes))=X (X (iA #[I J 0,I J 0,I J 0,iT ⟨#[]⟩]),4,40):=by kernel_rfl
def uz(w:iW)(g o:Nat)(s:aM):Prop:=w.cell? ⟨g,o,O⟩=X (I J s.1)/\w.cell? ⟨g,o+1,O⟩=X (I J s.2.1)/\w.cell? ⟨g,o+2,O⟩=X (I J s.2.2.1)/\w.cell? ⟨g,o+3,O⟩=X (iT s.2.2.2)
def nX(w:iW)(u:iX)(l:List aM):Prop:=
 ∃ad cap,u=Y ad l.length cap/\l.length<=cap/\cap<=9223372036854775807/\(ad=O->cap=0)/\∀i s,l[i]?=X s->∃g o,ad=X ⟨g,o,O⟩/\uz w g (o+i*4) s
theorem uz.below{w w':iW}{o:Nat}{s:aM}(h:uz w g o s)(a:iL w.heap.size w w'):uz w' g o s:=by
 obtain⟨c1,c2,c3,b⟩:=h;exact⟨(a.cell (aT w _ c1)).trans c1,(a.cell (aT w _ c2)).trans c2,(a.cell (aT w _ c3)).trans c3,(a.cell (aT w _ b)).trans b⟩
theorem nX.below{w w':iW}{u:iX}{l:List aM}(h:nX w u l)(d:iL w.heap.size w w'):nX w' u l:=by
 obtain⟨ad,cap,e,h1,b,c,h⟩:=h;refine⟨ad,cap,e,h1,b,c,λi s hs=>?_⟩
 obtain⟨g,o,a,h4⟩:=h i s hs;exact⟨g,o,a,h4.below d⟩
theorem nX.form{w:iW}{u:iX}{l:List aM}(h:nX w u l):∃ad cap,u=Y ad l.length cap/\l.length<=cap/\cap<=9223372036854775807/\(ad=O->cap=0):=by
 obtain⟨ad,cap,e,h1,a,b,h⟩:=h;exact⟨ad,cap,e,h1,a,b⟩
theorem nX.at{w:iW}{l:List aM}{s:aM}(h:nX w (Y ad n cap) l)(hs:l[i]?=X s):∃g o,ad=X ⟨g,o,O⟩/\uz w g (o+i*4) s:=by
 obtain⟨b,a,e,h1,c,d,h⟩:=h;injection e with e1 e2 e3
 subst e1;exact h i s hs
open Words Sums
def jU(q:Nat)(W:iW)(v:iX)(bs:List Bk):Prop:=∀a:iW,W.heap.size<=a.heap.size->(∀x,x≠q->x<W.heap.size->a.heap[x]?=W.heap[x]?)->fq a v bs
variable{bs:List Bk}
theorem jU.rdb{W:iW}{v:iX}(h:jU q W v bs):fq W v bs:=h W (am _) (λ_ _ _=>rfl)
theorem jU.keep{W a:iW}{v:iX}(h:jU q W v bs)(f:W.heap.size<=a.heap.size)(d:∀x,x≠q->x<W.heap.size->a.heap[x]?=W.heap[x]?):jU q a v bs:=
 λV h1 c=>h V (by omega) (λx b e=>(c x b (by omega)).trans (d x b e))
theorem Sk{w W:iW}{v:iX}(h:fq w v bs)(q:∀x,x<w.heap.size->W.heap[x]?=w.heap[x]?):fq W v bs:=by
 have a:∀(g o:Nat) (x:iX),w.cell? ⟨g,o,O⟩=X x->W.cell? ⟨g,o,O⟩=X x:=λg o x d=>(wN (q g (aT w _ d))).trans d
 obtain⟨rs,e,A,b,rfl,p,h⟩:=h;refine⟨rs,e,A,b,rfl,p,λk r u=>?_⟩
 obtain⟨g,l,⟨c1,c2,c3⟩,z,lc,m,c,s⟩:=h k r u;refine⟨g,l,⟨a _ _ _ c1,a _ _ _ c2,a _ _ _ c3⟩,z,lc,m,c,λj t y=>?_⟩
 obtain⟨gl,o,n,f,i⟩:=s j t y;exact⟨gl,o,n,a _ _ _ f,a _ _ _ i⟩
theorem jU.of_rdb{w W:iW}{v:iX}(h:fq w v bs)(a:iL w.heap.size w W)(d:w.heap.size<=q):jU q W v bs:=
 λV h1 b=>Sk h (λx c=>(b x (by omega) (by have:=a.size;omega)).trans (a.block x c))
theorem jU.of_fla{hi:Nat}{W:iW}{v:iX}(h:cF lo hi v bs W)(b:hi<=W.heap.size)(c:q<lo):jU q W v bs:=
 λV h1 a=>(cF.loc lo hi v bs W V (λx d e=>a x (by omega) (by omega)) h).rdb
theorem Fa{W:iW}{u x:iX}{xs:List iX}{c:Array iX}(h:W.ownsRow B 254 4 u n xs)(i:W.heap[z]?=X (iC c 26 (0,0))):(W.setCell ⟨z,k,O⟩ x).ownsRow B 254 4 u n xs:=by
 obtain⟨h0,h⟩:=h;refine⟨h0,?_⟩;rcases h with h|⟨g,cap,b,e,h1,d,f⟩
 ·exact .inl h
 ·refine .inr ⟨g,cap,b,e,h1,(aS _ _ _ _ (λa=>?_)).trans d,f⟩
  simp only at a;subst a;rw[i]at d;simp at d
theorem We{w x:iW}{o:Nat}{u:iX}(h:be w x ok)(b:w.heap.size<=g):be w (x.setCell ⟨g,o,O⟩ u) ok:=
 ⟨h.1,h.2.1,h.2.2.1,by simpa[World.setCell]using h.2.2.2.1,λi hi a=>(aS _ _ _ _ (by show i≠g;omega)).trans (h.2.2.2.2 i hi a)⟩
theorem Px(v:iX)(bs:List Bk)(w:iW)(hs:de bs)(a:fq w v bs):
 iK Tryz.prog 184 #[iA #[v]] w λe w'=>e=G (zX (gy bs))/\iL w.heap.size w w':=by
 obtain⟨rs,rfl,h,l,b,c⟩:=a.lens hs;exact SC v rs w l b h
theorem Q5(p:Pg):qb p=iU #[iT (lw p).1,iB (lw p).2]:=by
 unfold qb lw;split<;>rfl
theorem WV:(Tryz.prog.info? 26).map (·.size)=X 1:=by kernel_rfl
theorem GR {p q r:Tmp} (h:fn.results= #[.cell p 26,.tmp q,.tmp r]) (a:Array iX) (w:iW) (g:Nat) (v:iX)
 (e:a.getD p undef=iP (X ⟨g,0,O⟩)) (c:w.heap[g]?=X (iC #[v] 26 (0,0))):
 (results fn a).run Tryz.prog w=.ok (iU #[iA #[v],a.getD q undef,a.getD r undef]) w:=by
 have b:a[p]?.getD undef=iP (X ⟨g,0,O⟩):=by simpa using e
 have d:=nj (P:=Tryz.prog) w g 26 26 #[v] (0,0) _ c Tryz.underlying26 rfl WV;simp[results,h,b,asAddr,d]
theorem US(k b lf:Int)(t:ByteArray):∀u∈ [I J k,I J b,I J lf,iT t],u.oneCell'=iV:=by
 intro u a;simp only[aX,eI,fp]at a;rcases a with rfl|rfl|rfl|rfl<;>rfl
theorem Tm(w:iW)(cs:Array iX)(t:TypeId)(g:Nat)(a:w.heap.size=g):∀(j:Nat) (u:iX),cs.toList[j]?=X u->(w.alloc (iC cs t)).cell? ((⟨g,0,O⟩:Addr).add j)=X u:=by
 intro j u b;subst a;rw[fw];exact ai _ _ j _ _ _ (aC w (iC cs t))|>.trans (by simpa using b)
def Bg(B q:Nat)(w:iW)(u:iX)(r:List Bk×List aM×Bool)(e:Ending)(w':iW):Prop:=
 ∃a u',e=G (iU #[iA #[a],u',iB r.2.2])/\jU q w' a r.1/\w'.ownsRow B 254 4 u' r.2.1.length (cV r.2.1)/\be w w' (λx=>u.ownBlock≠X x)
theorem AQ(v u:iX)(bs:List Bk)(l:List aM)(p:Pg)(B q:Nat)(w:iW)(hs:de bs)(hl:l.length<=1000000000000)(ha:jU q w v bs)(ho:w.ownsRow B 254 4 u l.length (cV l))(hB:B<=w.heap.size)(hq:q<w.heap.size):
 iK Tryz.prog 145 #[iA #[v],u,dC p] w (Bg B q w u (cJ bs l p)):=by
 obtain⟨m,i,rfl⟩:=ha.rdb.form;obtain⟨i0,ae,al,am,D⟩:=bV An;have I0:=af ae;have I1:=af al;have I2:=af am;have I3:=af D;have A:=af (Q5 p);obtain⟨tx,ok,U⟩:∃tx ok,lw p=(tx,ok):=⟨_,_,rfl⟩;obtain⟨b,lf,V,T⟩:∃b lf V,gy bs=(b,lf,V):=⟨_,_,_,rfl⟩;have HP:ah (cJ bs l p=if (ok&&V)=iV then((cR bs (1,b,lf,tx)).1,l++[(1,b,lf,tx)],(cR bs (1,b,lf,tx)).2)else(bs,l,iF)):=by show _=_;unfold cJ;rw[U,T]
 have ac:=af T;rw[U]at A;simp only at A;obtain⟨pk,t,y,s,r,pt⟩:=p;obtain⟨R,hR⟩:=aq (cJ bs l ⟨pk,t,y,s,r,pt⟩);rw[hR]at HP⊢;have s0:(w.alloc (iC #[Y m bs.length i] 26)).heap.size=w.heap.size+1:=by simp
 have s1:((w.alloc (iC #[Y m bs.length i] 26)).alloc (iC #[I J pk,I J t,I J y,I J s,I J r,iT pt] 44)).heap.size=w.heap.size+1+1:=by simp
 have b0:=aR w (iC #[Y m bs.length i] 26);have N:iL w.heap.size w ((w.alloc (iC #[Y m bs.length i] 26)).alloc (iC #[I J pk,I J t,I J y,I J s,I J r,iT pt] 44)):=b0.alloc (by omega) _
 have bA:iL w.heap.size w (((w.alloc (iC #[Y m bs.length i] 26)).alloc (iC #[I J pk,I J t,I J y,I J s,I J r,iT pt] 44)).alloc (iC #[Y O 0 0] 26)):=N.alloc (by omega) _
 have g0:(((w.alloc (iC #[Y m bs.length i] 26)).alloc (iC #[I J pk,I J t,I J y,I J s,I J r,iT pt] 44)).alloc (iC #[Y O 0 0] 26)).heap[w.heap.size]?=X (iC #[Y m bs.length i] 26 (0,0)):=(iZ _ _ (by simp;omega)).trans ((iZ _ _ (by simp)).trans (aC w _))
 have g1:(((w.alloc (iC #[Y m bs.length i] 26)).alloc (iC #[I J pk,I J t,I J y,I J s,I J r,iT pt] 44)).alloc (iC #[Y O 0 0] 26)).heap[w.heap.size+1]?=X (iC #[I J pk,I J t,I J y,I J s,I J r,iT pt] 44 (0,0)):=by
  refine(iZ _ _ (by simp)).trans ?_
  rw[<-s0];exact aC _ _
 have g2:(((w.alloc (iC #[Y m bs.length i] 26)).alloc (iC #[I J pk,I J t,I J y,I J s,I J r,iT pt] 44)).alloc (iC #[Y O 0 0] 26)).heap[w.heap.size+1+1]?=X (iC #[Y O 0 0] 26 (0,0)):=by
  rw[<-s1];exact aC _ _
 generalize aw:((w.alloc (iC #[Y m bs.length i] 26)).alloc (iC #[I J pk,I J t,I J y,I J s,I J r,iT pt] 44)).alloc (iC #[Y O 0 0] 26)=wa at bA g0 g1 g2;have CP:=af (JG ⟨pk,t,y,s,r,pt⟩ wa);rw[A.o]at CP;unfold dC at CP⊢;simp only at CP⊢;have L:=af bA;have G0:=af g0;have G2:=af g2;have HA:=af ha;have HS:=af hs;have HO:=af ho;have c0:=ai _ _ 0 _ _ _ g1;have c1:=ai _ _ 1 _ _ _ g1;have c2:=ai _ _ 2 _ _ _ g1;have c3:=ai _ _ 3 _ _ _ g1;have c4:=ai _ _ 4 _ _ _ g1;have c5:=ai _ _ 5 _ _ _ g1;clear ae al am D U T hR s0 s1 b0 N bA g0 g1 g2 ha hs ho A;go_enter Tryz.func145,Tryz.ntmps145;go_wp2_with fail;clear aw;refine CP.o.mono ?_;rintro e w1 ⟨rfl,N⟩;have B1:=af (L.o.trans (N.mono L.o.size));have F1:=af ((N.block _ (aL.1 G0.o).1).trans G0.o);have Z1:=af ((N.block _ (aL.1 G2.o).1).trans G2.o);have k1:=ai _ _ 0 _ _ _ F1.o;have CL:=af (Px (Y m bs.length i) bs w1 HS.o (HA.o.rdb.below B1.o));rw[ac.o]at CL;unfold zX at CL;simp only at CL;clear CP L G0 G2 ac N c0 c1 c2 c3 c4 c5;go_wp2_with fail;refine CL.o.mono ?_;rintro e c ⟨rfl,b2⟩;have B2:=af (B1.o.trans (b2.mono B1.o.size));have F2:=af ((b2.block _ (aL.1 F1.o).1).trans F1.o);have F:=af ((b2.block _ (aL.1 Z1.o).1).trans Z1.o);have D:=(aL.1 F.o).1;clear CL B1 F1 Z1 b2 k1;by_cases hc:(ok&&V)=iV
 case neg=>
  have HE:ah (R=(bs,l,iF)):=by show _=_;rw[HP.o,aj hc]
  have k0:=ai _ _ 0 _ _ _ F2.o;have k1:=ai _ _ 0 _ _ _ F.o;have k2:=aF _ _ 0 _ _ F.o;have RB:=af (B2.o.setCell (p:=⟨w.heap.size+1+1,0,O⟩) (by show _<=_+1+1;omega) (Y m bs.length i))
  have RR:ah ((c.setCell ⟨w.heap.size+1+1,0,O⟩ (Y m bs.length i)).heap[w.heap.size+1+1]?=X (iC #[Y m bs.length i] 26 (0,0))):=bw _ _ 0 _ _ _ F.o;have FN:ah (Bg B q w u (bs,l,iF) (G (iU #[iA #[Y m bs.length i],u,iB iF])) (c.setCell ⟨w.heap.size+1+1,0,O⟩ (Y m bs.length i))):=⟨_,_,rfl,HA.o.keep RB.o.size (λx _ x2=>RB.o.block x x2),bE HO.o RB.o,be.below RB.o⟩
  have ao:ok=iF∨(ok=iV/\V=iF):=by
   cases ok with
   |false=>exact .inl rfl
   |true=>cases V with
    |false=>exact .inr ⟨rfl,rfl⟩
    |true=>exact absurd rfl hc
  clear HP hc F2 F B2 HA HO RB;rcases ao with rfl|⟨rfl,rfl⟩
  all_goals
   go_wp2;refine aE (GR rfl _ _ (w.heap.size+1+1) _ rfl RR.o) rfl ?_;rw[HE.o];exact FN.o
 case pos=>
  have HE:ah (R=((cR bs (1,b,lf,tx)).1,l++[(1,b,lf,tx)],(cR bs (1,b,lf,tx)).2)):=by show _=_;rw[HP.o,ak hc]
  obtain⟨rfl,rfl⟩:ok=iV/\V=iV:=by simpa using hc
  obtain⟨cs,E,S⟩:∃cs E,cR bs (1,b,lf,tx)=(cs,E):=⟨_,_,rfl⟩;rw[S]at HE;have b3:=aR c (iC #[I J 1,I J b,I J lf,iT tx] 254);have W:(c.alloc (iC #[I J 1,I J b,I J lf,iT tx] 254)).heap[c.heap.size]?=X (iC #[I J 1,I J b,I J lf,iT tx] 254 (0,0)):=aC _ _;have B3:=af (B2.o.trans (b3.mono B2.o.size));have F3:=af ((b3.block _ (aL.1 F2.o).1).trans F2.o);have Z3:=af ((b3.block _ (aL.1 F.o).1).trans F.o);have ap:(c.alloc (iC #[I J 1,I J b,I J lf,iT tx] 254)).heap.size=c.heap.size+1:=by simp
  generalize au:c.alloc (iC #[I J 1,I J b,I J lf,iT tx] 254)=w3 at b3 W B3 F3 Z3 ap;have T3:=af W;have CD:=af (DU (Y m bs.length i) bs (1,b,lf,tx) w3 HS.o (HA.o.rdb.below B3.o));rw[S]at CD;unfold yu at CD;simp only at CD;have k0:=ai _ _ 0 _ _ _ F3.o;have c0:=ai _ _ 0 _ _ _ W;have c1:=ai _ _ 1 _ _ _ W;have c2:=ai _ _ 2 _ _ _ W;have c3:=ai _ _ 3 _ _ _ W;clear HP hc F2 F B2 S b3 W;go_wp2_with fail;clear au;refine CD.o.mono ?_;rintro e g ⟨nv,rfl,fo,P⟩;obtain⟨f,d,rfl⟩:=fo.form;have b5:=aR g (iC #[Y f cs.length d] 26);have n5:(g.alloc (iC #[Y f cs.length d] 26)).heap[g.heap.size]?=X (iC #[Y f cs.length d] 26 (0,0)):=aC _ _;have ar:(g.alloc (iC #[Y f cs.length d] 26)).heap.size=g.heap.size+1:=by simp
  have bb:=B3.o.trans (P.mono B3.o.size);have B5:=af (bb.trans (b5.mono bb.size));have Z:=af (((b5.block _ (by have:=P.size;omega)).trans (P.block _ (by omega))).trans T3.o)
  have Z5:=af (((b5.block _ (by have:=P.size;omega)).trans (P.block _ (by omega))).trans Z3.o)
  have FO:ah (cF w3.heap.size g.heap.size (Y f cs.length d) cs (g.alloc (iC #[Y f cs.length d] 26))):=cF.loc _ _ _ _ g _ (λx x1 x2=>b5.block x x2) fo
  have ay:=P.size;generalize av:g.alloc (iC #[Y f cs.length d] 26)=a at b5 n5 ar B5 Z Z5 FO;have SD:(a.drew.cell? ⟨g.heap.size,0,O⟩=X (Y f cs.length d))/\a.drew.cell? ⟨c.heap.size,0,O⟩=X (I J 1)/\a.drew.cell? ⟨c.heap.size,1,O⟩=X (I J b)/\a.drew.cell? ⟨c.heap.size,2,O⟩=X (I J lf)/\a.drew.cell? ⟨c.heap.size,3,O⟩=X (iT tx):=⟨ai _ _ 0 _ _ _ n5,ai _ _ 0 _ _ _ Z.o,ai _ _ 1 _ _ _ Z.o,ai _ _ 2 _ _ _ Z.o,ai _ _ 3 _ _ _ Z.o⟩;have B6:ah (iL w.heap.size w (a.drew.alloc (iC #[I J 1,I J b,I J lf,iT tx] 254))):=B5.o.drew.alloc (by have:=B5.o.size;exact this) _
  have OW:=af (bE HO.o B6.o);have N6:ah ((a.drew.alloc (iC #[I J 1,I J b,I J lf,iT tx] 254)).heap[g.heap.size]?=X (iC #[Y f cs.length d] 26 (0,0))):=(iZ _ _ (by show _<a.heap.size;omega)).trans n5
  have T6:ah ((a.drew.alloc (iC #[I J 1,I J b,I J lf,iT tx] 254)).heap[c.heap.size]?=X (iC #[I J 1,I J b,I J lf,iT tx] 254 (0,0))):=(iZ _ _ (by show _<a.heap.size;omega)).trans Z.o
  have Z6:ah ((a.drew.alloc (iC #[I J 1,I J b,I J lf,iT tx] 254)).heap[w.heap.size+1+1]?=X (iC #[Y O 0 0] 26 (0,0))):=(iZ _ _ (by show _<a.heap.size;omega)).trans Z5.o
  have aa:ah (cF w3.heap.size g.heap.size (Y f cs.length d) cs (a.drew.alloc (iC #[I J 1,I J b,I J lf,iT tx] 254))):=cF.loc _ _ _ _ a _ (λx x1 x2=>iZ _ _ (by show _<a.heap.size;omega)) FO.o
  have SE:((a.drew.alloc (iC #[I J 1,I J b,I J lf,iT tx] 254)).cell? ⟨g.heap.size,0,O⟩=X (Y f cs.length d))/\(a.drew.alloc (iC #[I J 1,I J b,I J lf,iT tx] 254)).cell? ⟨c.heap.size,0,O⟩=X (I J 1)/\(a.drew.alloc (iC #[I J 1,I J b,I J lf,iT tx] 254)).cell? ⟨c.heap.size,1,O⟩=X (I J b)/\(a.drew.alloc (iC #[I J 1,I J b,I J lf,iT tx] 254)).cell? ⟨c.heap.size,2,O⟩=X (I J lf)/\(a.drew.alloc (iC #[I J 1,I J b,I J lf,iT tx] 254)).cell? ⟨c.heap.size,3,O⟩=X (iT tx):=⟨ai _ _ 0 _ _ _ N6.o,ai _ _ 0 _ _ _ T6.o,ai _ _ 1 _ _ _ T6.o,ai _ _ 2 _ _ _ T6.o,ai _ _ 3 _ _ _ T6.o⟩;have HN:=af (Tm a.drew #[I J 1,I J b,I J lf,iT tx] 254 a.heap.size rfl);have ad:ah (B<=(a.drew.alloc (iC #[I J 1,I J b,I J lf,iT tx] 254)).heap.size):=bT hB B6.o.size;have ag:(a.drew.alloc (iC #[I J 1,I J b,I J lf,iT tx] 254)).heap.size=a.heap.size+1:=(show(a.drew.alloc (iC #[I J 1,I J b,I J lf,iT tx] 254)).heap.size=a.drew.heap.size+1 by simp)
  have z:ah (∀x,x<a.heap.size->x<(a.drew.alloc (iC #[I J 1,I J b,I J lf,iT tx] 254)).heap.size):=λx hx=>by rw[ag];omega
  have an:=af (iS HO.o);have ax:w.heap.size+1+1<c.heap.size:=D;clear CD P b5 bb fo k0 c0 c1 c2 c3 T3 F3 Z3 B3;go_upto_region 7 with fail
  clear av;refine q8 (λw'=>(w'.cell? ⟨g.heap.size,0,O⟩=X (Y f cs.length d))/\w'.cell? ⟨c.heap.size,0,O⟩=X (I J 1)/\w'.cell? ⟨c.heap.size,1,O⟩=X (I J b)/\w'.cell? ⟨c.heap.size,2,O⟩=X (I J lf)/\w'.cell? ⟨c.heap.size,3,O⟩=X (iT tx)) (by kernel_rfl) SD (λhHeld=>?_)
  simp only[aV,dU,Nat.reduceAdd];refine aH 0 ?_;refine aH 1 ?_;refine aH 2 ?_;refine aH 5 ?_;refine dG 3 rfl (by kernel_rfl) (λK H=>?_)
  go_simp;refine H.out _ _ SE (λhHeld2=>?_)
  clear H K hHeld;have hHeld:=hHeld2;clear hHeld2
  (try simp only[Act.put,cN,cu,bZ])
  refine dG 4 rfl (by kernel_rfl) (λK H=>?_)
  refine pu _ (by rfl) (.tmp 47) (.tmp 49) 118 (by rfl) B 254 i0 (iA #[I J 0,I J 0,I J 0,iT ⟨#[]⟩]) 4 40 Tryz.underlying118 I0.o I1.o I2.o I3.o rfl (by decide) _ l.length (cV l) (by simp[Act.eval]) OW.o ⟨a.heap.size,0,O⟩ 1 1 [I J 1,I J b,I J lf,iT tx] (by simp[Act.eval]) rfl HN.o (US _ _ _ _) (by unfold maxLen;omega) (by omega) ad.o ?_
  intro u7 n o7 Q;have C:∀x,w.heap.size<=x->X x≠u.ownBlock:=λx hx e=>by have:=(an.o x e.symm).2;omega
  have N7:=af ((Q.block _ (z.o _ (by omega)) (C g.heap.size (by omega))).trans N6.o)
  have T7:=af ((Q.block _ (z.o _ (by omega)) (C c.heap.size (by omega))).trans T6.o)
  have Z7:=af ((Q.block _ (z.o _ (by omega)) (C (w.heap.size+1+1) (by omega))).trans Z6.o)
  have ab:ah (cF w3.heap.size g.heap.size (Y f cs.length d) cs n):=cF.loc _ _ _ _ _ _ (λx x1 x2=>Q.block x (z.o _ (by omega)) (C x (by omega))) aa.o
  have M:(n.cell? ⟨g.heap.size,0,O⟩=X (Y f cs.length d))/\n.cell? ⟨c.heap.size,0,O⟩=X (I J 1)/\n.cell? ⟨c.heap.size,1,O⟩=X (I J b)/\n.cell? ⟨c.heap.size,2,O⟩=X (I J lf)/\n.cell? ⟨c.heap.size,3,O⟩=X (iT tx):=⟨ai _ _ 0 _ _ _ N7.o,ai _ _ 0 _ _ _ T7.o,ai _ _ 1 _ _ _ T7.o,ai _ _ 2 _ _ _ T7.o,ai _ _ 3 _ _ _ T7.o⟩;have KK:ah (be w n (λx=>u.ownBlock≠X x)):=(be.below B6.o).trans (be.grown Q (λj e hh=>hh e))
  have az:a.heap.size<n.heap.size:=fE (show a.heap.size<(a.drew.alloc (iC #[I J 1,I J b,I J lf,iT tx] 254)).heap.size by rw[ag];omega) Q.size
  have O7:=af o7;have z0:=ai _ _ 0 _ _ _ Z7.o;have z1:=aF _ _ 0 _ _ Z7.o;clear o7 Q N7 T7 N6 T6 Z6 aa OW B6 HN ad;refine H.out _ _ M (λhHeld2=>?_)
  clear H K hHeld;have hHeld:=hHeld2;clear hHeld2
  (try simp only[Act.put,cN,cu,bZ])
  refine dG 6 rfl (by kernel_rfl) (λK H=>?_)
  go_simp;refine H.out _ _ (by first|go_keep|(refine⟨?_,?_,?_,?_,?_⟩<;>(rw[iQ (h:=λe=>by have:=congrArg Addr.block e;simp at this;omega)];first|exact M.1|exact M.2.1|exact M.2.2.1|exact M.2.2.2.1|exact M.2.2.2.2))) (λhHeld2=>?_)
  clear H K hHeld;have hHeld:=hHeld2;clear hHeld2
  (try simp only[Act.put,cN,cu,bZ])
  refine aH 7 ?_;refine aH 8 ?_;refine oG (by kernel_rfl) ?_
  have RR:ah ((n.setCell ⟨w.heap.size+1+1,0,O⟩ (Y f cs.length d)).heap[w.heap.size+1+1]?=X (iC #[Y f cs.length d] 26 (0,0))):=bw _ _ 0 _ _ _ Z7.o;have FN:ah (Bg B q w u (cs,l++[(1,b,lf,tx)],E) (G (iU #[iA #[Y f cs.length d],u7,iB E])) (n.setCell ⟨w.heap.size+1+1,0,O⟩ (Y f cs.length d))):=by
   refine⟨_,_,rfl,jU.of_fla (lo:=w3.heap.size) (hi:=g.heap.size) (cF.loc _ _ _ _ n _ (λx x1 x2=>aS _ _ _ _ (by show x≠w.heap.size+1+1;omega)) ab.o) (by simp[World.setCell];omega) (by omega),?_,We KK.o (by omega)⟩
   have h1:=Fa (k:=0) (x:=Y f cs.length d) O7.o Z7.o;have h2:cV (l++[((1,b,lf,tx):aM)])=cV l++[I J 1,I J b,I J lf,iT tx]:=by rw[Ag];rfl
   show World.ownsRow _ B _ 4 u7 (l++[((1,b,lf,tx):aM)]).length (cV (l++[((1,b,lf,tx):aM)]));rw[h2,aJ];exact h1
  clear hHeld SD SE M KK O7 Z7 ab z0 z1;go_wp2;refine aE (GR rfl _ _ (w.heap.size+1+1) _ rfl RR.o) rfl ?_;rw[HE.o];exact FN.o
end Go.Proofs.YtgigcooffjjbgaaGreatDoor
