/-
  ScC; SHas; ApI; SInsI; SLive; SConL; SNeed; FrS; SDo; SOpen; SFree
-/
import Derived.Test.YtijmbohadndfmaaGreatDoorPk11
import Derived.Test.YtijmbohadndfmaaGreatDoorPk9
open Go.Value renaming int→I,slice→Y,string→iT,bool→iB,agg→iA,tuple→iU
open Go.IntKind renaming i64→J
open Option renaming none→O,some→X
open Go.Ending renaming returned→G
open Go.Obj renaming cells→iC
open Bool renaming true→iV,false→iF
open Go renaming World→iW,Value→iX,Calls→iK
open Go.RowKit renaming Below→iL
set_option maxHeartbeats 4000000
set_option maxRecDepth 100000
namespace Go.Proofs.YtijmbohadndfmaaGreatDoor
open Go.RowKit Words Sums
def nH(w:iW)(bs:List Bk)(e:Ending)(w':iW):Prop:=
 ∃(ad:Option Addr) (cap:Nat),e=G (Y ad (aw bs).length cap)/\jc w' ad (aw bs).length (aw bs)/\(aw bs).length<=1099511627776/\iL w.heap.size w w'
theorem Ma{w w':iW}{rs:List Rw}{e:Ending}(j:rs.length<=1048576)(a:∀r∈rs,r.2.2.2.length<=1048576)(h:∃u M,e=G u/\Asc M/\Akin (gH (rs.map aC) rs.length) M/\sM w' w.heap.size u M/\iL w.heap.size w w'):nH w (rs.map aC) e w':=by
 obtain⟨u,M,rfl,h1,d,f,h4⟩:=h;have c:M=aw (rs.map aC):=Vd h1 (by rw[aS];exact d)
 obtain⟨ad,cap,rfl,g,-⟩:=f.rd;subst c;refine⟨ad,cap,rfl,g,?_,h4⟩;refine bR (JJ (rs.map aC) 1048576 (λb i=>?_)) ?_
 ·obtain⟨r,k,rfl⟩:=bF.1 i;exact a r k
 ·rw[aS];exact bR (zh _ j) (by decide)
theorem pR(v:iX)(rs:List Rw)(w:iW)(c:rs.length<=1048576)(a:∀r∈rs,r.2.2.2.length<=1048576)(b:uP rs)(d:fO w v rs):iK Tryz.prog 28 #[iA #[v]] w (nH w (rs.map aC)):=
 (WG v rs w c a b d).mono (λ_ _ h=>Ma c a h)
variable{a:Act}{ops:Array Oper}{r y x:Int}{v:Int × Int}{ls:List (Int × ByteArray)}{vs:List (Int × Int)}{row:List Bool}{rest:List Oper}{k n m g:Nat}
variable{bs:List Bk}
theorem AU:∀x∈aw bs,x.fP.text.size<=1048576:=λx a=>by
 have:=(sf a).2.2.2.2.2;omega
def bN(l:List Bool):List iX:=l.map iB
theorem xM(l:List Bool)(k:Nat)(b:Bool):(bN l).set k (iB b)=bN (l.set k b):=by simp[bN,List.map_set]
theorem ol{l:List Bool}{b:Bool}(h:l[k]?=X b):(bN l)[k]?=X (iB b):=by rw[bN,bk,h];rfl
theorem Cu:(Tryz.prog.info? 4).map (λi=>(i.zero,i.size,i.bytes))=X (X (iB iF),1,1):=by kernel_rfl
def jU(l:List Kn)(m:Nat)(k i:Nat):Bool:=decide (m=i)||(List.range k).any (λj=>decide (dH l (m:Int) j=i))
theorem Di(l:List Kn)(m k i:Nat):jU l m (k+1) i=(jU l m k i||decide (dH l (m:Int) k=i)):=by
 rw[jU,jU,qb,List.any_append,Bool.or_assoc];simp
theorem Po(l:List Kn)(h:r<0)(i:Nat):dE l r i=iF:=by rw[dE,aV (by omega),mV]
theorem QD(l:List Kn)(m i:Nat):dE l (m:Int) i=jU l m 4 i:=by
 rw[dE,jU,aQ (by omega),jr]
 congr 1;rw[zi];omega
theorem map_set{n k:Nat}{f f':Nat->Bool}(a:∀i,i≠k->f' i=f i)(b:f' k=iV):((List.range n).map f).set k iV=(List.range n).map f':=by
 apply kM;intro i;rw[uw];by_cases e:k=i
 ·subst e;by_cases h:k<n
  ·simp[h,b]
  ·simp[h]
 ·rw[ai e,bk,bk];by_cases h:i<n
  ·simp[h,a i (Ne.symm e)]
  ·simp[h]
theorem Be{f f':Nat->Bool}(a:∀i,i<n->f' i=f i):(List.range n).map f=(List.range n).map f':=sJ (λi hi=>(a i (ju.1 hi)).symm)
def JH(w:iW)(a:Nat)(bs:List Bool)(e:Ending)(w':iW):Prop:=∃g,e=G (Y (X ⟨g,0,O⟩) a a)/\w.heap.size<=g/\g<w'.heap.size/\aN 4 g (bN bs) w'/\iL w.heap.size w w'
theorem Ow(ad:Option Addr)(a cap:Nat)(rs:List Kw)(r:Int)(w:iW)(hl:a<=1048578)(h:eH w ad a rs)(ha:cO (rs.map aG)=iV)(hr:bO (rs.map aG) r=iV):
 iK Tryz.prog 136 #[iA #[Y ad a cap],I J r] w (JH w a ((List.range a).map (dE (rs.map aG) r))):=by
 obtain⟨i0,hi,P,Q,R⟩:=bK Cu;have B:=af (sK w (Y ad a cap));have V:=B.o;have v:=af (aO w (iC #[Y ad a cap] 42));have H:=af (h.below v.o);have U:=af (show w.heap.size<(w.alloc (iC #[Y ad a cap] 42)).heap.size by simp)
 have HA:=af ha;have HR:=af hr;have G:=af (show(rs.map aG).length=a by rw[aS];exact h.1)
 clear h ha hr;obtain⟨L,hL⟩:=an (rs.map aG);have HL:=af hL;rw[hL]at HA HR G⊢;clear hL;go_enter Tryz.func136,Tryz.ntmps136;go_wp2_with (at_make;refine pZ _ rfl _ _ 206 rfl (w.heap.size+1) 4 i0 (iB iF) 1 Tryz.underlying206 hi P Q J J _ _ a rfl rfl rfl rfl (by rw[R];omega) (by unfold maxLen;omega) (by simp) ?_)
 intro q c d;rw[sI]at c;clear hi P Q R;have l:(w.alloc (iC #[Y ad a cap] 42)).heap.size=w.heap.size+1:=by simp
 have A:ah (iL (w.alloc (iC #[Y ad a cap] 42)).heap.size (w.alloc (iC #[Y ad a cap] 42)) q):=(ax _ _).grown d (ak _) (λk hk=>by cases hk)
 have s:ah (aN 4 (w.heap.size+1) (bN ((List.range a).map (λ_=>iF))) q):=by
  have e:List.replicate a (iB iF)=bN ((List.range a).map (λ_=>iF)):=by
   apply kM;intro i;by_cases h:i<a
   ·simp[bN,h]
   ·simp[bN,h]
  have:=(aB.of c).flt;rw[e]at this;exact this
 have D:ah (w.heap.size+1<q.heap.size):=(c.lt _ rfl).2;clear c d V;generalize w.alloc (iC #[Y ad a cap] 42)=wb at B v H U l A;obtain⟨z,hz⟩:=an w.heap.size;rw[hz]at B U s D l⊢;have K:=af hz;clear hz;obtain⟨g,hg⟩:=an (z+1);rw[hg]at s D l⊢;have F:=af hg;have E:=af l;clear hg l;have V:=(A.o.cell (show z<wb.heap.size from U.o)).trans B.o;by_cases M:r<0
 ·have S:ah (aN 4 g (bN ((List.range a).map (dE L r))) q):=by
   have:=s.o;rw[Be (λi _=>Po L M i)]at this
   exact this
  have HF:ah (iL w.heap.size w q):=v.o.trans (A.o.mono v.o.size);go_wp2;go_ret;exact⟨g,rfl,by have:=K.o;have:=F.o;omega,D.o,S.o,HF.o⟩
 ·obtain⟨m,rfl⟩:∃m:Nat,r=(m:Int):=⟨r.toNat,by omega⟩
  obtain⟨x,hx,ab⟩:=lQ HR.o (by omega)
  have aa:m<a:=by have:=(aD.1 hx).1;rw[G.o]at this;simpa using this
  obtain⟨b,ae,e,-⟩:=H.o.adr (by omega)
  subst e;have x4:=lY (lA HA.o hx);have c0:q.cell? ⟨g,m,O⟩=X (iB iF):=s.o.cell (ol (by simp[aa]))
  have f0:=s.o.frozen m;have S:ah (aN 4 g (bN ((List.range a).map (jU L m 0))) (q.setCell ⟨g,m,O⟩ (iB iV))):=by
   have:=s.o.set m (iB iV);rw[xM,map_set (f':=jU L m 0) (λi hi=>by simp[jU];omega) (by simp[jU])]at this
   exact this
  have B2:ah (iL wb.heap.size wb (q.setCell ⟨g,m,O⟩ (iB iV))):=A.o.setCell (p:=⟨g,m,O⟩) (by show wb.heap.size<=g;have:=E.o;omega) _
  have G2:ah (g<(q.setCell ⟨g,m,O⟩ (iB iV)).heap.size):=af (by have:=D.o;simpa[World.setCell]using this)
  have m0:(0:Int)<=m:=by omega
  have mL:(m:Int)<a:=by omega
  have HX:=af hx;clear hx;go_wp2;clear c0 f0 s D V A;generalize q.setCell ⟨g,m,O⟩ (iB iV)=w2 at S B2 G2⊢;go_loopw [6] (λkv W=>∃k:Nat,k<=4/\kv=I J k/\ah (aN 4 g (bN ((List.range a).map (jU L m k))) W)/\ah (iL wb.heap.size wb W)/\ah (g<W.heap.size)) (λkv _=>4-(intOf kv).toNat)
  case atStart=>exact⟨0,aI _,rfl,S,B2,G2⟩
  case round=>
   obtain⟨k,hk,rfl,t,y,T⟩:=hrel;have V:=(y.o.cell (show z<wb.heap.size from U.o)).trans B.o;by_cases ac:(k:Int)<4
   ·obtain⟨n,Z,u⟩:=md HA.o HX.o ab (show k<4 by omega)
    have f:dH L (m:Int) k=n:=ix HX.o Z;have N:(rs.map aG)[(m:Int).toNat]?=X x:=by rw[HL.o];exact HX.o
    obtain⟨ka,kc,-,c1,kr⟩:=(H.o.below y.o).fD N;rw[x4]at c1 kr;simp only[aZ]at c1;obtain⟨kb,ko,e,-,yq⟩:=kr.at Z;subst e;have k0:(0:Int)<=k:=by omega
    clear N kr;rcases u with rfl|⟨n0,nm,-⟩
    ·have C:ah (aN 4 g (bN ((List.range a).map (jU L m (k+1)))) wr):=by
      have:=t.o;rw[Be (f':=jU L m (k+1)) (λi _=>by rw[Di,f,aV (by omega),AA])]at this
      exact this
     clear f Z t;go_wp2;go_roundw
     case rel=>exact⟨k+1,by omega,by go_num,C,y,T⟩
     case measure=>simp[intOf];omega
    ·obtain⟨j,rfl⟩:∃j:Nat,n=(j:Int):=⟨n.toNat,by omega⟩
     simp only[aZ]at nm;have jL:(j:Int)<a:=by omega
     have j0:(0:Int)<=j:=by omega
     obtain⟨o,ho⟩:∃o,((List.range a).map (jU L m k))[j]?=X o:=⟨_,ay (by simp;omega)⟩
     have d0:wr.cell? ⟨g,j,O⟩=X (iB o):=t.o.cell (ol ho);have f0:=t.o.frozen j;have C:ah (aN 4 g (bN ((List.range a).map (jU L m (k+1)))) (wr.setCell ⟨g,j,O⟩ (iB iV))):=by
      have:=t.o.set j (iB iV);rw[xM,map_set (f':=jU L m (k+1)) (λi hi=>by rw[Di,f,aV (by omega),AA]) (by rw[Di,f,aQ rfl,Bool.or_true])]at this
      exact this
     have B3:ah (iL wb.heap.size wb (wr.setCell ⟨g,j,O⟩ (iB iV))):=y.o.setCell (p:=⟨g,j,O⟩) (by show wb.heap.size<=g;have:=E.o;omega) _
     have G3:ah (g<(wr.setCell ⟨g,j,O⟩ (iB iV)).heap.size):=af (by have:=T.o;simpa[World.setCell]using this)
     clear f Z t ho y T n0;go_wp2;go_roundw
     case rel=>exact⟨k+1,by omega,by go_num,C,B3,G3⟩
     case measure=>simp[intOf];omega
   ·have C:ah (aN 4 g (bN ((List.range a).map (dE L (m:Int)))) wr):=by
     have:=t.o;rw[show k=4 by omega,Be (f':=dE L (m:Int)) (λi _=>QD L m i)]at this
     exact this
    have HF:ah (iL w.heap.size w wr):=v.o.trans (y.o.mono v.o.size);go_wp2;go_ret;exact⟨g,rfl,by have:=K.o;have:=F.o;omega,T.o,C.o,HF.o⟩
theorem se (W:iW) (y:Int) {o:Oper} {Q:Exit->Act->iW->Prop} (g:o.guard=O) (s x:Operand)
 (d:o.op=.call {callee:=.builtin .append,args:= #[s,x],argTypes:= #[72,72]}) (base:Nat) (v:iX) (xs:List Int) (hs:a.eval s=v) (r:a.eval x=Y (X ⟨W.heap.size,0,O⟩) 1 1)
 (b:W.ownsRow base 3 1 v xs.length (aE xs)) (u:xs.length<=1000000000000) (f:base<=W.heap.size)
 (h:∀e w' l,ah (l=xs++[y])->w'.ownsRow base 3 1 e l.length (aE l)->iL base W w'->wpList Tryz.prog ops Q rest (a.put o.dst e) w'):wpList Tryz.prog ops Q (o::rest) a (W.alloc (iC #[I J y] 3)):=by
 obtain⟨t,hi,i,j,k⟩:=bK nG;have c:=aO W (iC #[I J y] 3);have m:=bu b c;refine cN _ g s x 72 d base 3 t (I J 0) 1 8 Tryz.underlying72 hi i j k rfl (by decide) v _ _ hs m ⟨W.heap.size,0,O⟩ 1 1 [I J y] r rfl (nw W _ 3) (vg y) (by unfold maxLen;omega) (by omega) (bR f c.size) (λe w' d n _=>?_)
 refine h e w' _ (rfl:_=_) ?_ ((c.mono f).grown n (bR f c.size) (λq p=>(m.lt q p).1))
 rw[tA]at d;rw[aT];exact d
theorem FM{L:List Int}{p:Int->Bool}(h:L[k]?=X y):(L.take (k+1)).filter p=(L.take k).filter p++(if p y=iV then[y]else[]):=by
 obtain⟨h1,a⟩:=aD.1 h;rw[ge h1,a,iD,iH,Bg]
theorem Qd(U:Option Addr)(n rc:Nat)(L:List Int)(x:Int)(w:iW)(hn:n<=100000000)(h:gR w U n L):
 iK Tryz.prog 107 #[Y U n rc,I J x] w (pJ w (eD L x)):=by
 obtain⟨i0,hi,A,B,C⟩:=bK nG;have I0:=af hi;have Y0:=af A;have Y1:=af B;have Y2:=af C;clear hi A B C;have i:=af h.1;have S:=af h;clear h;obtain⟨M,H⟩:=an (eD L x);have HM:=af H;rw[H];clear H;go_enter Tryz.func107,Tryz.ntmps107;go_wp2_with fail;have F:ah ((w.alloc (iC #[] 3)).ownsRow w.heap.size 3 1 (Y (X ⟨w.heap.size,0,O⟩) 0 0) ([]:List Int).length (aE [])):=nE w #[] 0 (ak _) (by unfold maxLen;omega) (by simp)
 have BA:=af (aO w (iC #[] 3));generalize w.alloc (iC #[] 3)=wa at F BA⊢;obtain⟨z,P⟩:=an w.heap.size;rw[P]at F⊢;have E:=af P;clear P;go_loopw [5,6] (λR kv W=>∃(k:Nat) (l:List Int),k<=n/\kv=I J k/\l.length<=k/\ah (l=(L.take k).filter (λy=>decide (y<x)))/\ah (W.ownsRow w.heap.size 3 1 R l.length (aE l)/\iL w.heap.size w W)) (λ_ kv _=>n-(intOf kv).toNat)
 case atStart=>exact⟨0,[],aI _,rfl,aI _,by show _=_;simp,by rw[E.o];exact F.o,BA.o⟩
 case round=>
  obtain⟨k,l,hk,rfl,K,r,d⟩:=hrel;by_cases N:(k:Int)<n
  ·have hy:=ay (show k<L.length by have:=i.o;omega)
   generalize L[k]'(by have:=i.o;omega)=y at hy
   obtain⟨b,Q,e,m,c0⟩:=(S.o.below d.o.2).at hy;subst e;have k0:(0:Int)<=k:=by omega
   have v:=af (FM (p:=λy=>decide (y<x)) hy)
   clear hy;by_cases j:y<x
   ·have a:ah (l++[y]=(L.take (k+1)).filter (λy=>decide (y<x))):=by
     show _=_;rw[v.o,aj (by simpa using j),r.o]
    go_wp2_with (at_builtin;refine se _ y rfl _ _ rfl w.heap.size _ l rfl rfl d.o.1 (by omega) d.o.2.size ?_)
    intro u' t f c s m;have q:ah (t.ownsRow w.heap.size 3 1 u' f.length (aE f)/\iL w.heap.size w t):=⟨s,d.o.2.trans m⟩;have g:f.length<=k+1:=by rw[c.o];simp;omega
    rw[<-c.o]at a;clear s m d c;go_wp2;go_roundw
    case rel=>exact⟨k+1,f,by omega,by go_num,g,a,q⟩
    case measure=>simp[intOf];omega
   ·have a:ah (l=(L.take (k+1)).filter (λy=>decide (y<x))):=by
     show _=_;rw[v.o,ai (by simpa using j),eM]
     exact r.o
    go_wp2;go_roundw
    case rel=>exact⟨k+1,l,by omega,by go_num,by omega,a,d⟩
    case measure=>simp[intOf];omega
  ·have u:ah (l=L.filter (λy=>decide (y<x))):=by
    show _=_;rw[r.o,cm (by have:=i.o;omega)]
   have aa:l.length<=n:=by omega
   clear r;go_upto_if 29 with fail
   go_cut [5] (λs5 W=>∃f:List Int,ah (f=L.filter (λy=>decide (y<x))++(if 0<x then[x]else[]))/\ah (W.ownsRow w.heap.size 3 1 s5 f.length (aE f)/\iL w.heap.size w W)/\f.length<=n+1)
   case first=>
    by_cases T:(0:Int)<x
    ·have a:ah (l++[x]=L.filter (λy=>decide (y<x))++(if 0<x then[x]else[])):=by
      show _=_;rw[u.o,aj T]
     go_wp2_with (at_builtin;refine se _ x rfl _ _ rfl w.heap.size _ l rfl rfl d.o.1 (by omega) d.o.2.size ?_)
     intro u' t f c s m;have q:ah (t.ownsRow w.heap.size 3 1 u' f.length (aE f)/\iL w.heap.size w t):=⟨s,d.o.2.trans m⟩;have g:f.length<=n+1:=by rw[c.o];simp;omega
     rw[<-c.o]at a;clear s m d c;go_wp2_with fail;go_meet
     case rel=>exact⟨f,a,q,g⟩
    ·have a:ah (l=L.filter (λy=>decide (y<x))++(if 0<x then[x]else[])):=by
      show _=_;rw[ai T,eM];exact u.o
     have q:=af d.o;have g:l.length<=n+1:=by omega
     go_wp2_with fail;go_meet
     case rel=>exact⟨l,a,q,g⟩
   case rest=>
    obtain⟨W,hV⟩:∃W,W=wc:=⟨_,rfl⟩;subst hV;clear u d;obtain⟨f,a,q,g⟩:=hcut;go_wp2;obtain⟨D,G⟩:=an (L.filter (λy=>decide (y<x))++(if 0<x then[x]else[]))
    rw[G]at a;have Z:=af G;clear G;go_loopw [5,7] (λR kv W=>∃(k:Nat) (l:List Int),k<=n/\kv=I J k/\l.length<=n+1+k/\ah (l=D++(L.take k).filter (λy=>decide (x<y)))/\ah (W.ownsRow w.heap.size 3 1 R l.length (aE l)/\iL w.heap.size w W)) (λ_ kv _=>n-(intOf kv).toNat)
    case atStart=>exact⟨0,f,aI _,rfl,by omega,(by show _=_;rw[a.o];simp),q⟩
    case round=>
     obtain⟨k,l,hk,rfl,K,r,d⟩:=hrel;by_cases N:(k:Int)<n
     ·have hy:=ay (show k<L.length by have:=i.o;omega)
      generalize L[k]'(by have:=i.o;omega)=y at hy
      obtain⟨b,Q,e,m,c0⟩:=(S.o.below d.o.2).at hy;subst e;have k0:(0:Int)<=k:=by omega
      have v:=af (FM (p:=λy=>decide (x<y)) hy)
      clear hy;by_cases j:x<y
      ·have a:ah (l++[y]=D++(L.take (k+1)).filter (λy=>decide (x<y))):=by
        show _=_;rw[v.o,aj (by simpa using j),r.o];rw[fJ]
       go_wp2_with (at_builtin;refine se _ y rfl _ _ rfl w.heap.size _ l rfl rfl d.o.1 (by omega) d.o.2.size ?_)
       intro u' t f c s m;have q:ah (t.ownsRow w.heap.size 3 1 u' f.length (aE f)/\iL w.heap.size w t):=⟨s,d.o.2.trans m⟩;have g:f.length<=n+1+(k+1):=by rw[c.o];simp;omega
       rw[<-c.o]at a;clear s m d c;go_wp2;go_roundw
       case rel=>exact⟨k+1,f,by omega,by go_num,g,a,q⟩
       case measure=>simp[intOf];omega
      ·have a:ah (l=D++(L.take (k+1)).filter (λy=>decide (x<y))):=by
        show _=_;rw[v.o,ai (by simpa using j),eM]
        exact r.o
       go_wp2;go_roundw
       case rel=>exact⟨k+1,l,by omega,by go_num,by omega,a,d⟩
       case measure=>simp[intOf];omega
     ·have u:ah (l=D++L.filter (λy=>decide (x<y))):=by
       show _=_;rw[r.o,cm (by have:=i.o;omega)]
      have V:ah (l=M):=by
       show _=_;rw[u.o,<-HM.o,eD,<-Z.o]
      go_wp2;go_ret;refine⟨_,rfl,?_,d.o.2⟩;rw[<-V.o];exact d.o.1
theorem Iz(l:List Int)(x:Int):(eD l x).length<=l.length+1:=by
 have a:(l.filter (λy=>decide (y<x))).length+(l.filter (λy=>decide (x<y))).length<=l.length:=by
  induction l with
  |nil=>exact ak _
  |cons v l b=>
   rw[iH,iH];by_cases h1:v<x
   ·rw[aj (by simpa using h1),ai (by simp;omega),aR,aR];omega
   ·rw[ai (by simpa using h1)]
    split
    ·rw[aR,aR];omega
    ·rw[aR];omega
 rw[eD,aT,aT];split
 ·rw[Jd];omega
 ·rw[cU];omega
def oS(l:List Kn)(vs:List (Int×Int))(k:Nat):List Int:=(vs.take k).foldl (λacc v=>(ce l v.2).foldl eD acc) []
variable{l:List Kn}
theorem Ze(h:vs[k]?=X v):oS l vs (k+1)=(ce l v.2).foldl eD (oS l vs k):=by
 obtain⟨h1,a⟩:=aD.1 h;rw[oS,oS,ge h1,a,rG,nT,List.foldl_nil]
theorem Pw{L:List Int}{acc:List Int}(h:L[m]?=X x):(L.take (m+1)).foldl eD acc=eD ((L.take m).foldl eD acc) x:=by
 obtain⟨h1,a⟩:=aD.1 h;rw[ge h1,a,rG,nT,List.foldl_nil]
def lW(w W:iW)(b:iX)(l:List Int):Prop:=∃a c,b=Y a l.length c/\gR W a l.length l/\W.ownsRow w.heap.size 3 1 b l.length (aE l)/\iL w.heap.size w W
theorem lW.of{w W:iW}{a:iX}{l:List Int}(h:W.ownsRow w.heap.size 3 1 a l.length (aE l))(c:l.length<=maxLen)(b:iL w.heap.size w W):lW w W a l:=by
 obtain⟨f,g,e,-,d⟩:=kh.of (aB.of h) c (ak _);exact⟨f,g,e,d,h,b⟩
theorem OX(G:Option Addr)(f vc:Nat)(ad:Option Addr)(a cap:Nat)(nx:Int)(vs:List (Int×Int))(rs:List Kw)(w:iW)(aj:f<=1048578)(hl:a<=1048578)(h:gn w G f vs)(hk:eH w ad a rs):
 iK Tryz.prog 73 #[iA (eC G f vc ad a cap nx)] w (pJ w (be ⟨vs,rs.map aG,nx⟩)):=by
 have t:=af ((Tk.start w).cell #[Y G f vc,Y ad a cap,I J nx] 44);have B:=af h.1;have HV:=af h;have HK:=af hk;clear h hk;obtain⟨C,hC⟩:=an (be ⟨vs,rs.map aG,nx⟩);have HC:=af hC;rw[hC];clear hC;unfold eC;go_enter Tryz.func73,Tryz.ntmps73;go_wp2_with fail;have T:=af (show(w.alloc (iC #[Y G f vc,Y ad a cap,I J nx] 44)).heap.size=w.heap.size+1 by simp)
 generalize w.alloc (iC #[Y G f vc,Y ad a cap,I J nx] 44)=wb at t T⊢;have x0:wb.cell? ⟨w.heap.size,0,O⟩=X (Y G f vc):=t.o.at 0 0 rfl rfl;have x1:wb.cell? ⟨w.heap.size,1,O⟩=X (Y ad a cap):=t.o.at 0 1 rfl rfl;have XB:=af (bh wb _ x0);have O0:ah ((wb.alloc (iC #[] 3)).ownsRow wb.heap.size 3 1 (Y (X ⟨wb.heap.size,0,O⟩) 0 0) ([]:List Int).length (aE [])):=nE wb #[] 0 (ak _) (by unfold maxLen;omega) (by simp)
 have BA:=af (aO wb (iC #[] 3));have S0:=af (lW.of O0.o (by simp) BA.o)
 generalize wb.alloc (iC #[] 3)=wa at S0⊢;obtain⟨z,hz⟩:=an w.heap.size;rw[hz]at x0 x1 XB T⊢;have ae:=af hz;clear hz O0 BA;go_loopw [3,4] (λov iv W=>∃(k:Nat) (l:List Int),k<=f/\iv=I J k/\l.length<=16*k/\ah (l=oS (rs.map aG) vs k)/\ah (lW wb W ov l)) (λ_ iv _=>f-(intOf iv).toNat)
 case atStart=>exact⟨0,[],aI _,rfl,aI _,(by show _=_;simp[oS]),by rw[<-T.o];exact S0.o⟩
 case round=>
  obtain⟨k,l,hk,rfl,ag,HL,F⟩:=hrel;obtain⟨oa,oc,e,d,i,c⟩:=F.o;subst e;have p:=af c;have A:=af i;have H:=af d;clear d i c;have R:=(p.o.cell (show z<wb.heap.size from XB.o)).trans x0;have S:=(p.o.cell (show z<wb.heap.size from XB.o)).trans x1;by_cases ai:(k:Int)<f
  ·have P:=ay (show k<vs.length by have:=B.o;omega)
   generalize vs[k]'(by have:=B.o;omega)=v at P
   obtain⟨b,r,e,hb,c0,c1⟩:=(((HV.o.below t.o.1).below p.o)).at P;subst e;have k0:(0:Int)<=k:=by omega
   have HR:ah (oS (rs.map aG) vs (k+1)=(ce (rs.map aG) v.2).foldl eD l):=by
    show _=_;rw[Ze P,HL.o]
   have CG:=af (yD ad a cap rs v.2 wr.drew hl ((HK.o.below t.o.1).below p.o.drew));have U:=af p.o.drew;have l0:=bh wr _ R;have l1:=bh wr _ S;have l2:=bh wr _ c1;clear P;go_wp2;go_region_held3 (λw'=>w'.cell? ⟨z,0,O⟩=X (Y (X ⟨b,r,O⟩) f vc)/\w'.cell? ⟨z,1,O⟩=X (Y ad a cap)/\w'.cell? ⟨b,r+k*2+1,O⟩=X (I J v.2)) (first|exact⟨R,S,c1⟩|exact KY.o) ((go_at_call 100;(with_reducible refine dq CG.o ?_);rintro en D ⟨lv,rfl,o2,K⟩;have KY:ah (D.cell? ⟨z,0,O⟩=X (Y (X ⟨b,r,O⟩) f vc)/\D.cell? ⟨z,1,O⟩=X (Y ad a cap)/\D.cell? ⟨b,r+k*2+1,O⟩=X (I J v.2)):=⟨(K.cell l0).trans R,(K.cell l1).trans S,(K.cell l2).trans c1⟩))
   have N:iL wr.heap.size wr D:=((ax wr.heap.size wr).drew).trans K;have B2:=af (p.o.trans (N.mono p.o.size));have S2:ah (lW wb D (Y oa l.length oc) l):=⟨oa,oc,rfl,H.o.below N,bu A.o N,B2.o⟩;obtain⟨la,lc,e2,-,j⟩:=kh.of (aB.of o2) (by rw[pF];unfold maxLen;omega) (ak _)
   rw[pF]at e2 j;subst e2;have s:=af j;obtain⟨L,hL⟩:=an (ce (rs.map aG) v.2);have u:ah (L.length=16):=by show _=_;rw[<-hL,pF]
   rw[hL]at s HR;clear CG R S c0 c1 l0 l1 l2 U p o2 K j hL N KY H A F;go_wp2;go_loopw [3,6] (λov kv W=>∃(m:Nat) (q:List Int),m<=16/\kv=I J m/\q.length<=16*k+m/\ah (q=(L.take m).foldl eD l)/\ah (lW wb W ov q)/\ah (iL D.heap.size D W)) (λ_ kv _=>16-(intOf kv).toNat)
   case atStart=>exact⟨0,l,aI _,rfl,by omega,(by show _=_;simp),S2,ax _ _⟩
   case round=>
    obtain⟨m,q,hm,rfl,hq,HQ,F,V⟩:=hrel;obtain⟨aa,ab,e,d,i,c⟩:=F.o;subst e;by_cases ac:(m:Int)<16
    ·have Q:=ay (show m<L.length by have:=u.o;omega)
     generalize L[m]'(by have:=u.o;omega)=x at Q
     obtain⟨lb,lo,e3,-,d0⟩:=(s.o.below V.o).at Q;subst e3;have m0:(0:Int)<=m:=by omega
     have HF:=af (Pw (acc:=l) Q);have CI:=af (Qd aa q.length ab q x wr (by omega) d)
     have n:=af c;clear Q d i c F;go_wp2_with fail;refine CI.o.mono ?_;rintro e w3 ⟨uv,rfl,o3,b3⟩;have M:=Iz q x;have g:ah (eD q x=(L.take (m+1)).foldl eD l):=by show _=_;rw[HF.o,HQ.o]
     have y:ah (lW wb w3 uv (eD q x)):=lW.of (nO o3 n.o.size) (by unfold maxLen;omega) (n.o.trans (b3.mono n.o.size))
     have Z:=af (V.o.trans (b3.mono V.o.size));generalize eD q x=q2 at M g y;clear CI b3 o3 n HF;go_wp2;go_roundw
     case rel=>first|exact⟨m+1,q2,by omega,by go_num,by omega,g,y,Z⟩|exact⟨m+1,q2,by omega,by go_num,by omega,g,y⟩
     case measure=>simp[intOf];omega
    ·have g:ah (q=oS (rs.map aG) vs (k+1)):=by
      have e:m=16:=by omega
      have:=HQ.o;rw[e,cm (by rw[u.o];omega)]at this
      show _=_;rw[this,HR.o]
     clear d i c;go_wp2;go_roundw
     case rel=>exact⟨k+1,q,by omega,by go_num,by omega,g,F⟩
     case measure=>simp[intOf];omega
  ·have E:ah (l=C):=by
    show _=_;rw[HL.o,<-HC.o,be,oS,cm (by have:=B.o;omega)]
   have BE:ah (iL w.heap.size w wr):=t.o.1.trans (p.o.mono t.o.1.size);have OE:ah (wr.ownsRow w.heap.size 3 1 (Y oa l.length oc) l.length (aE l)):=nO A.o t.o.1.size;go_wp2;go_ret;refine⟨_,rfl,?_,BE.o⟩;rw[<-E.o];exact OE.o
theorem Xc:∀(l:List Int) (acc:List Int),(l.foldl eD acc).length<=acc.length+l.length:=by
 intro l
 induction l with
 |nil=>intro acc;simp
 |cons x l a=>intro acc;have:=a (eD acc x);have:=Iz acc x;simp only[nT,aR];omega
theorem L8(a:List Kn):∀(vs:List (Int×Int)) (acc:List Int),(vs.foldl (λacc v=>(ce a v.2).foldl eD acc) acc).length<=acc.length+16*vs.length:=by
 intro vs
 induction vs with
 |nil=>intro acc;simp
 |cons v vs b=>
  intro acc;have:=b ((ce a v.2).foldl eD acc);have:=Xc (ce a v.2) acc;have:=pF a v.2;simp only[nT,aR];omega
theorem wP(s:Sto):(be s).length<=16*s.fV.length:=by
 have:=L8 s.fK s.fV []
 simpa[be]using this
theorem xD:Oo 73:=by
 rintro v ⟨vs,g,nx⟩ w ⟨e,f,vc,ad,a,cap,rs,rfl,b,h,h4,i,j,c,d⟩;simp only at b c;subst b;exact OX e f vc ad a cap nx vs rs w (by omega) (by omega) c d
def Nd(w W:iW)(g:Nat)(xs:List iX):Prop:=iL w.heap.size w W/\w.heap.size<=g/\aN 4 g xs W
theorem Nd.next{w W W':iW}{xs:List iX}(h:Nd w W g xs)(b:iL W.heap.size W W'):Nd w W' g xs:=⟨h.1.trans (b.mono h.1.size),h.2.1,h.2.2.below b⟩
theorem Nd.drewN{w W:iW}{xs:List iX}(h:Nd w W g xs)(n:Nat):Nd w (W.drewN n) g xs:=h.next (bI (ax _ _) n)
theorem Nd.put{w W:iW}{xs:List iX}(h:Nd w W g xs)(u:iX):Nd w (W.setCell ⟨g,k,O⟩ u) g (xs.set k u):=⟨h.1.setCell (p:=⟨g,k,O⟩) h.2.1 _,h.2.1,h.2.2.set k u⟩
theorem Nd.lt{w W:iW}{xs:List iX}(h:Nd w W g xs):g<W.heap.size:=by
 obtain⟨cs,h1,-⟩:=h.2.2;exact(aJ.1 h1).1
theorem Tp{R:List Bool}{b:Bool}(c:R.length=n)(a:R[k]?=X b):((bN R).take k++(List.replicate n (iB iF)).drop k).set k (iB b)=(bN R).take (k+1)++(List.replicate n (iB iF)).drop (k+1):=by
 have f:=(aD.1 a).1;have d:(bN R)[k]?=X (iB b):=ol a;have e:(bN R).length=n:=by simp[bN,c]
 rw[ii _ _ (by rw[dk];omega),dk,sR (by omega),ja,gj (by rw[vk];omega),bE,dF,d,fJ]
 rfl
def uX(M:List aq)(L:List Int)(base c:Int)(z:Int)(row:List Bool):Prop:=
 (∃k:Nat,z+1=k/\bS (M.drop k) c=O/\row=cK M L base)∨(z= -2/\row=cK M (L++[c]) base)
variable{M:List aq}
theorem Qw{L:List Int}{base c z:Int}(h:uX M L base c z row)(d:z<0):row=cK M (L++[c]) base:=by
 rcases h with⟨k,e,b,a⟩|⟨-,a⟩
 ·have:k=0:=by omega
  subst this;rw[xE]at b;rw[a,So L base b]
 ·exact a
theorem wM(ad:Option Addr)(a cap:Nat)(M:List aq)(la:Option Addr)(D lc:Nat)(live:List Int)(base:Int)(w:iW)(hl:a<=1099511627776)(ao:D<=1000000000000000000)(h:jc w ad a M)(hi:gR w la D live):
 iK Tryz.prog 138 #[Y ad a cap,Y la D lc,I J base] w (JH w a (cK M live base)):=by
 obtain⟨i0,H,K,L,N⟩:=bK Cu;have HR:=af h;have HI:=af hi;have E:=af (show M.length=a from h.1);have F:=af hi.1;clear h hi;go_enter Tryz.func138,Tryz.ntmps138;go_wp2_with (at_make;refine pZ _ rfl _ _ 206 rfl w.heap.size 4 i0 (iB iF) 1 Tryz.underlying206 H K L J J _ _ a rfl rfl rfl rfl (by rw[N];omega) (by unfold maxLen;omega) (by simp) ?_)
 intro w1 p m;rw[sI]at p;clear H K L N;have BG:iL w.heap.size w w1:=(ax _ _).grown m (ak _) (λk hk=>by cases hk)
 have N0:ah (Nd w w1 w.heap.size (List.replicate a (iB iF))):=⟨BG,ak _,(aB.of p).flt⟩;clear p m BG;obtain⟨S,A⟩:=an (cK M [] base);have y:=af A;have u:ah (S.length=a):=by show _=_;rw[<-A,re];exact E.o
 clear A;go_wp2;go_loopw [8] (λs wr=>∃k:Nat,s=I J k/\k<=a/\ah (Nd w wr w.heap.size ((bN S).take k++(List.replicate a (iB iF)).drop k))) (λs _=>a-(intOf s).toNat)
 case atStart=>exact⟨0,rfl,aI _,by simpa using N0⟩
 case round=>
  rename iW=>wr
  obtain⟨k,rfl,hk,C⟩:=hrel;clear N0;have al:(0:Int)<=k:=by omega
  by_cases ap:(k:Int)<a
  ·obtain⟨x,r⟩:∃x,M[k]?=X x:=⟨_,ay (by have:=E.o;omega)⟩
   obtain⟨rb,ro,rfl,-,T,c1,c2,c3,U,V,Z,c7,d4⟩:=(HR.o.below C.o.1).all r;have hb:S[k]?=X (x.fP.kind==2&&decide (base<=x.fP.tx)):=by rw[<-y.o,NF,bk,r];rfl
   have l:=af (C.o.put (k:=k) (iB (x.fP.kind==2&&decide (base<=x.fP.tx))));rw[Tp u.o hb]at l;obtain⟨xb,xl,pk,pq,px,pp,pc,pt⟩:=x;simp only at T c1 c2 c3 U V Z c7 d4 l;have kc:wr.cell? ⟨w.heap.size,k,O⟩=X (iB iF):=C.o.2.2.cell (by
    have ai:(bN S).length=a:=by simp[bN,u.o]
    rw[dz (by rw[dk];omega),dk,sR (by omega),ja,mQ,oh]
    rw[DK,aj (by omega)])
   have kf:=C.o.2.2.frozen k;clear r hb;by_cases t:(pk==2)=iV
   ·rw[t,jr]at l;by_cases P:base<=px
    ·rw[aQ P]at l;go_wp2;go_roundw
     case rel=>exact⟨k+1,by go_num,by omega,l⟩
     case measure=>simp[intOf];omega
    ·rw[aV P]at l;go_wp2;go_roundw
     case rel=>exact⟨k+1,by go_num,by omega,l⟩
     case measure=>simp[intOf];omega
   ·have t:(pk==2)=iF:=by simpa using t
    rw[t,mV]at l;go_wp2;go_roundw
    case rel=>exact⟨k+1,by go_num,by omega,l⟩
    case measure=>simp[intOf];omega
  ·have ek:k=a:=by omega
   have l:ah (Nd w wr w.heap.size (bN (cK M (live.take 0) base))):=by
    have:=C.o;rw[ek,cm (by simp[bN,u.o]),kB (by simp),eM,<-y.o]at this
    exact this
   clear C ek y u;go_wp2;go_loopw [9] (λs wr=>∃k:Nat,s=I J k/\k<=D/\ah (Nd w wr w.heap.size (bN (cK M (live.take k) base)))) (λs _=>D-(intOf s).toNat)
   case atStart=>exact⟨0,rfl,aI _,l⟩
   case round=>
    rename iW=>wr2
    obtain⟨f,rfl,am,R⟩:=hrel;clear l;have ae:(0:Int)<=f:=by omega
    by_cases ag:(f:Int)<D
    ·obtain⟨c,hc⟩:∃c,live[f]?=X c:=⟨_,ay (by have:=F.o;omega)⟩
     obtain⟨lb,lo,ab,-,-⟩:=HI.o.at hc;subst ab;have HC:ah (∀W,iL w.heap.size w W->W.cell? ⟨lb,lo+f,O⟩=X (I J c)):=by
      intro W hW;obtain⟨ar,au,e,-,q⟩:=(HI.o.below hW).at hc;injection e with e
      injection e with e1 e2
      subst e1 e2;exact q
     have aa:ah (live.take (f+1)=live.take f++[c]):=by show _=_;rw[dF,hc];rfl
     have L0:ah (uX M (live.take f) base c ((a:Int)-1) (cK M (live.take f) base)):=.inl ⟨a,by omega,by rw[kB (by have:=E.o;omega)];rfl,rfl⟩
     clear hc;go_wp2;go_loopw [10] (λs wr=>∃(z:Int) (row:List Bool),s=I J z/\-2<=z/\z<a/\ah (uX M (live.take f) base c z row)/\ah (Nd w wr w.heap.size (bN row))) (λs _=>(intOf s+2).toNat)
     case atStart=>exact⟨(a:Int)-1,_,by go_num,by omega,by omega,L0,R⟩
     case round=>
      rename iW=>wr3
      obtain⟨z,row,rfl,z1,z2,B,g⟩:=hrel;clear L0 R;by_cases hz:0<=z
      ·obtain⟨j,rfl⟩:∃j:Nat,z=(j:Int):=⟨z.toNat,by omega⟩
       obtain⟨x,r⟩:∃x,M[j]?=X x:=⟨_,ay (by have:=E.o;omega)⟩
       obtain⟨b,d⟩:row=cK M (live.take f) base/\bS (M.drop (j+1)) c=O:=by
        rcases B.o with⟨k',e,hn,hr⟩|⟨e,-⟩
        ·have:k'=j+1:=by omega
         subst this;exact⟨hr,hn⟩
        ·omega
       obtain⟨rb,ro,rfl,-,T,c1,c2,c3,U,V,Z,c7,d4⟩:=(HR.o.below g.o.1).all r;have cl:=HC.o _ g.o.1;by_cases i:dj c x=iV
       ·have Q:ah (uX M (live.take f) base c (-2) (row.set j iV)):=.inr ⟨rfl,by rw[b,PC _ _ r i d]⟩
        have ac:row.length=a:=by rw[b,re];exact E.o
        unfold dj at i;rw[bt]at i;obtain⟨t,P⟩:=i;obtain⟨xb,xl,pk,pq,px,pp,pc,pt⟩:=x;simp only at T c1 c2 c3 U V Z c7 d4 t P;have v:ah (∀n,Nd w (wr3.drewN n) w.heap.size (bN row)):=λn=>g.o.drewN n
        obtain⟨bj,G⟩:∃bj,row[j]?=X bj:=⟨_,ay (by omega)⟩
        have KC:ah (∀n,(wr3.drewN n).cell? ⟨w.heap.size,j,O⟩=X (iB bj)):=λn=>(v.o n).2.2.cell (ol G)
        have KF:ah (∀n,(wr3.drewN n).frozen? ⟨w.heap.size,j,O⟩=iF):=λn=>(v.o n).2.2.frozen j
        have N6:ah (∀n,Nd w ((wr3.drewN n).setCell ⟨w.heap.size,j,O⟩ (iB iV)) w.heap.size (bN (row.set j iV))):=λn=>by
         have:=(v.o n).put (k:=j) (iB iV);rw[xM]at this;exact this
        clear r b d ac B G g;go_wp2;go_quiet (fail);have kc:=KC.o;have kf:=KF.o;clear KC KF v;go_wp2;go_roundw
        case rel=>exact⟨-2,row.set j iV,by go_num,by omega,by omega,Q,N6.o _⟩
        case measure=>simp[intOf];omega
       ·have i:dj c x=iF:=by simpa using i
        have Q:ah (uX M (live.take f) base c ((j:Int)-1) row):=.inl ⟨j,by omega,by rw[gj (aD.1 r).1,(aD.1 r).2,zD,d,i];rfl,b⟩
        have v:ah (∀n,Nd w (wr3.drewN n) w.heap.size (bN row)):=λn=>g.o.drewN n
        unfold dj at i;obtain⟨xb,xl,pk,pq,px,pp,pc,pt⟩:=x;simp only at T c1 c2 c3 U V Z c7 d4 i;by_cases t:(pk==1)=iV
        ·have P:(px==c)=iF:=by rw[t,jr]at i;exact i
         clear r b d B g i;go_wp2;go_quiet (fail);go_wp2;go_roundw
         case rel=>exact⟨(j:Int)-1,row,by go_num,by omega,by omega,Q,v.o _⟩
         case measure=>simp[intOf];omega
        ·have t:(pk==1)=iF:=by simpa using t
         clear r b d B g i;go_wp2;go_quiet (fail);go_wp2;go_roundw
         case rel=>exact⟨(j:Int)-1,row,by go_num,by omega,by omega,Q,v.o _⟩
         case measure=>simp[intOf];omega
      ·have b:=Qw B.o (by omega)
       have v:ah (Nd w wr3 w.heap.size (bN (cK M (live.take (f+1)) base))):=by rw[aa.o,<-b];exact g
       clear b B g;go_wp2;go_roundw
       case rel=>exact⟨f+1,by go_num,by omega,v⟩
       case measure=>simp[intOf];omega
    ·have g:ah (Nd w wr2 w.heap.size (bN (cK M live base))):=by
      have:=R.o;rw[cm (by have:=F.o;omega)]at this
      exact this
     clear R;go_wp2;go_ret;exact⟨w.heap.size,rfl,ak _,g.o.lt,g.o.2.2,g.o.1⟩
theorem Bv(ad:Option Addr)(f cap:Nat)(M:List aq)(g n c:Nat)(row:List Bool)(b:Int)(w:iW)(L:f<=1099511627776)(v:row.length=f)(C:n=f)(h:jc w ad f M)(u:aN 4 g (bN row) w):
 iK Tryz.prog 140 #[Y ad f cap,Y (X ⟨g,0,O⟩) n c,I J b] w λe w'=>e=G (I J ((ei M row b:Nat):Int))/\w'=w:=by
 subst C;have A:=af h;have t:=af (show M.length=n from h.1);have i:=af v;have y:=af u;clear h v u;go_enter Tryz.func140,Tryz.ntmps140;go_wp2;go_loopw [7,8] (λF s wr=>∃(k q:Nat),F=I J q/\s=I J k/\k<=n/\q<=k/\ah (ei (M.take k) (row.take k) b=q)/\wr=w) (λ_ s _=>n-(intOf s).toNat)
 case atStart=>exact⟨0,0,rfl,rfl,aI _,ak _,(by show _=_;simp[ei]),rfl⟩
 case round=>
  obtain⟨k,q,rfl,rfl,K,N,j,rfl⟩:=hrel;have D:(0:Int)<=k:=by omega
  by_cases E:(k:Int)<n
  ·obtain⟨x,p⟩:∃x,M[k]?=X x:=⟨_,ay (by have:=t.o;omega)⟩
   obtain⟨r,m⟩:∃r,row[k]?=X r:=⟨_,ay (by have:=i.o;omega)⟩
   obtain⟨T,U,rfl,-,B,-⟩:=A.o.all p;have H:=y.o.cell (ol m);have a:=af (Q5 b p m);obtain⟨xb,V,pk,R,S,Q,P,pt⟩:=x;simp only at B a;rw[j.o]at a;clear p m j;cases r with
   |true=>
    rw[jr]at a;by_cases l:(xb==b)=iV
    ·rw[l]at a;have d:ah (ei (M.take (k+1)) (row.take (k+1)) b=q+1):=a;clear a;go_wp2;go_roundw
     case rel=>exact⟨k+1,q+1,by go_num,by go_num,by omega,by omega,d,trivial⟩
     case measure=>simp[intOf];omega
    ·have l:(xb==b)=iF:=by simpa using l
     rw[l]at a;have d:ah (ei (M.take (k+1)) (row.take (k+1)) b=q):=a;clear a;go_wp2;go_roundw
     case rel=>exact⟨k+1,q,rfl,by go_num,by omega,by omega,d,trivial⟩
     case measure=>simp[intOf];omega
   |false=>
    rw[mV]at a;have d:ah (ei (M.take (k+1)) (row.take (k+1)) b=q):=a;clear a;go_wp2;go_roundw
    case rel=>exact⟨k+1,q,rfl,by go_num,by omega,by omega,d,trivial⟩
    case measure=>simp[intOf];omega
  ·have z:ah (ei M row b=q):=by
    have:=j.o;rw[cm (by have:=t.o;omega),cm (by have:=i.o;omega)]at this
    exact this
   clear j;go_wp2;go_ret;rw[z.o];exact⟨rfl,rfl⟩
def vr(w:iW)(B:Nat)(u:iX)(l:List Int):Prop:=w.ownsRow B 3 1 u l.length (aE l)
def qe(w wr:iW)(v a:iX)(l:List Int):Prop:=iL w.heap.size w wr/\wr.heap[w.heap.size]?=X (iC #[v] 38 (0,0))/\vr wr (w.heap.size+1) a l
theorem qe.below{w wr w':iW}{v a:iX}{l:List Int}(h:qe w wr v a l)(b:iL wr.heap.size wr w'):qe w w' v a l:=
 ⟨h.1.trans (b.mono h.1.size),(b.block _ (aJ.1 h.2.1).1).trans h.2.1,bu h.2.2 b⟩
theorem qe.snoc{w wr d:iW}{v a g:iX}{l:List Int}{t:TypeId}(h:qe w wr v a l)(j:d.ownsRow (w.heap.size+1) 3 1 g (l.length+1) (aE l++[I J x]))(f:(wr.alloc (iC #[I J x] t)).grownBy d a.ownBlock):qe w d v g (l++[x]):=by
 have b:=h.below ((ax _ _).alloc (ak _) (iC #[I J x] t));have c:=(aJ.1 b.2.1).1;refine⟨b.1.grown f b.1.size (λk i=>wm (h.2.2.lt k i).1),(f.block w.heap.size c (λe=>?_)).trans b.2.1,?_⟩
 ·have:=(h.2.2.lt _ e.symm).1;omega
 ·unfold vr;rw[aT,<-tA];exact j
def Bm(p:Int×Int×Bool):iX:=iU #[I J p.1,I J p.2.1,iB p.2.2]
theorem AB(v:iX)(bs:List Bk)(s:aM)(w:iW)(hs:dg bs)(D:fj w v bs):
 iK Tryz.prog 115 #[iA #[v],xg s] w λe w'=>∃u,e=G (iU #[iA #[u],iB (cP bs s).2])/\dm w' w.heap.size u (cP bs s).1/\iL w.heap.size w w':=by
 obtain⟨z,vc,rfl⟩:=D.form;obtain⟨k,b,lf,t⟩:=s;unfold xg;simp only;have f:=af (Tk.three w #[Y z bs.length vc] #[I J k,I J b,I J lf,iT t] #[Y O 0 0] 38 184 38);have n:=af (D.below f.o.1);have B:=af hs;obtain⟨g,q,C⟩:∃g q,cP bs (k,b,lf,t)=(g,q):=⟨_,_,rfl⟩;have A:=af C;rw[C];clear D hs C;have E:w.heap.size<=w.heap.size+1+1:=by omega
 by_cases h1:k=1
 ·subst h1;have p:ah (fY bs b lf t=(g,q)):=by show _=_;rw[<-A.o];simp[cP]
  go_enter Tryz.func115,Tryz.ntmps115;go_wp2_with fail;generalize((w.alloc (iC #[Y z bs.length vc] 38)).alloc (iC #[I J 1,I J b,I J lf,iT t] 184)).alloc (iC #[Y O 0 0] 38)=w0 at f n⊢;refine(Vy _ bs b lf t w0 B.o n.o).mono ?_;rintro e h ⟨u,rfl,a,i⟩;rw[p.o]at a⊢;simp only at a⊢;obtain⟨m,l,rfl⟩:=a.form;have c:=af (f.o.fla i a);have r:w.heap.size+1+1+1<=w0.heap.size:=f.o.hi 0 rfl;have H:h.cell? ⟨w.heap.size+1+1,0,O⟩=X (Y O 0 0):=c.o.at 1 0 rfl rfl;have F:=c.o.fr 1 0 rfl;have d:=af (c.o.write (hs':=[(w0.heap.size,h.heap.size,cu w0.heap.size h.heap.size (Y m g.length l) g)]) 1 rfl E (Y m g.length l) (λx j=>by rw[bT]at j;subst j;exact⟨mT ..,Or.inr r⟩))
  clear i a f c;go_wp2;exact aF (jX rfl _ _ (w.heap.size+1+1) _ rfl (d.o.get 0 rfl)) rfl ⟨_,rfl,(d.o.get 1 rfl).of (d.o.hi 1 rfl) (by omega),d.o.1⟩
 ·have K:(k==1)=iF:=by simpa using h1
  by_cases y:k=2
  ·subst y;have p:ah (gx bs b=(g,q)):=by show _=_;rw[<-A.o];simp[cP]
   go_enter Tryz.func115,Tryz.ntmps115;go_wp2_with fail;generalize((w.alloc (iC #[Y z bs.length vc] 38)).alloc (iC #[I J 2,I J b,I J lf,iT t] 184)).alloc (iC #[Y O 0 0] 38)=w0 at f n⊢;refine(YT _ bs b w0 B.o n.o).mono ?_;rintro e h ⟨u,rfl,a,i⟩;rw[p.o]at a⊢;simp only at a⊢;obtain⟨m,l,rfl⟩:=a.form;have c:=af (f.o.fla i a);have r:w.heap.size+1+1+1<=w0.heap.size:=f.o.hi 0 rfl;have H:h.cell? ⟨w.heap.size+1+1,0,O⟩=X (Y O 0 0):=c.o.at 1 0 rfl rfl;have F:=c.o.fr 1 0 rfl;have d:=af (c.o.write (hs':=[(w0.heap.size,h.heap.size,cu w0.heap.size h.heap.size (Y m g.length l) g)]) 1 rfl E (Y m g.length l) (λx j=>by rw[bT]at j;subst j;exact⟨mT ..,Or.inr r⟩))
   clear i a f c;go_wp2;exact aF (jX rfl _ _ (w.heap.size+1+1) _ rfl (d.o.get 0 rfl)) rfl ⟨_,rfl,(d.o.get 1 rfl).of (d.o.hi 1 rfl) (by omega),d.o.1⟩
  ·have L:(k==2)=iF:=by simpa using y
   have p:ah ((bs,iF)=(g,q)):=by show _=_;rw[<-A.o];simp[cP,h1,y]
   obtain⟨rfl,rfl⟩:=Prod.mk.inj p.o;clear h1 y;go_enter Tryz.func115,Tryz.ntmps115;go_wp2_with fail;generalize((w.alloc (iC #[Y z bs.length vc] 38)).alloc (iC #[I J k,I J b,I J lf,iT t] 184)).alloc (iC #[Y O 0 0] 38)=w0 at f n⊢;refine(xi _ bs w0 B.o n.o).mono ?_;rintro e h ⟨u,rfl,a,i⟩;obtain⟨m,l,rfl⟩:=a.form;have c:=af (f.o.fla i a);have r:w.heap.size+1+1+1<=w0.heap.size:=f.o.hi 0 rfl;have H:h.cell? ⟨w.heap.size+1+1,0,O⟩=X (Y O 0 0):=c.o.at 1 0 rfl rfl;have F:=c.o.fr 1 0 rfl;have d:=af (c.o.write (hs':=[(w0.heap.size,h.heap.size,cu w0.heap.size h.heap.size (Y m bs.length l) bs)]) 1 rfl E (Y m bs.length l) (λx j=>by rw[bT]at j;subst j;exact⟨mT ..,Or.inr r⟩))
   clear i a f c;go_wp2;exact aF (jX rfl _ _ (w.heap.size+1+1) _ rfl (d.o.get 0 rfl)) rfl ⟨_,rfl,(d.o.get 1 rfl).of (d.o.hi 1 rfl) (by omega),d.o.1⟩
theorem Ox(v:iX)(rs:List Rw)(w:iW)(hl:rs.length<=1048576)(L:∀r∈rs,r.2.2.2.length<=1048576)(ha:fO w v rs):
 iK Tryz.prog 143 #[iA #[v]] w λe w'=>e=G (I J (gW (rs.map aC)))/\iL w.heap.size w w':=by
 have aa:=ha;obtain⟨T,g,rfl,-,-⟩:=aa;have V:=af L;obtain⟨n,hn⟩:=an rs.length;have HN:=af hn;have P:=af ((ax w.heap.size w).alloc (ak _) (iC #[Y T n g] 38));have A:=af ha;rw[hn]at hl A⊢;have R0:=af (az w (iC #[Y T n g] 38));clear ha L hn;go_enter Tryz.func143,Tryz.ntmps143;go_wp2;have HF:=af (A.o.below P.o);clear A;generalize w.alloc (iC #[Y T n g] 38)=wA at P HF R0⊢;have cf:wA.cell? ⟨w.heap.size,0,O⟩=X (Y T n g):=am _ _ 0 _ _ _ R0.o;go_loop [3] (λbv=>∃b:Nat,bv=I J b/\b<=n/\ah (∀(j:Nat) (c:Bk),j<b->(rs.map aC)[j]?=X c->fB c=iF)) (λbv=>n-(intOf bv).toNat)
 case atStart=>exact⟨0,rfl,aI _,(show∀(j:Nat) (c:Bk),j<0->(rs.map aC)[j]?=X c->fB c=iF from λj c hj=>by omega)⟩
 case round=>
  obtain⟨b,rfl,r1,l⟩:=hrel;by_cases ac:(b:Int)<n
  ·have i:b<rs.length:=by have:=HN.o;omega
   obtain⟨r,Q⟩:∃r,rs[b]?=X r:=⟨_,ay i⟩;have N:(rs.map aC)[b]?=X (aC r):=by rw[bk,Q];rfl
   obtain⟨gv,e,⟨c1,c2,c3⟩,s⟩:=HF.o.at Q;subst e;have M:=V.o r (aH Q);obtain⟨x,y,u,ls⟩:=r;simp only at c1 c2 c3;simp only at s M;have b0:(0:Int)<=b:=by omega
   have K:=s;obtain⟨ld,lc,rfl,-,-⟩:=K;have D:=af s;have E:=af N;obtain⟨m,hm⟩:=an ls.length;have W:=af hm;rw[hm]at c3 M;clear N s Q i hm;go_wp2;go_loop [4,5,6] (λnv mv kv=>∃(k p q:Nat),kv=I J k/\k<=m/\nv=I J p/\mv=I J q/\p<=k/\q<=k/\ah (c8 (ls.take k)=p/\p+q=k)) (λ_ _ kv=>m-(intOf kv).toNat)
   case atStart=>exact⟨0,0,0,rfl,aI _,rfl,rfl,ak _,ak _,⟨rfl,rfl⟩⟩
   case round=>
    obtain⟨k,p,q,rfl,hk,rfl,rfl,hp,hq,h⟩:=hrel;by_cases ab:(k:Int)<m
    ·have B:k<ls.length:=by have:=W.o;omega
     obtain⟨z,t,R⟩:∃z t,ls[k]?=X (z,t):=⟨ls[k].1,ls[k].2,ay B⟩;obtain⟨gl,lo,e⟩:=D.o.head (by have:=W.o;omega)
     subst e;obtain⟨d1,-⟩:=D.o.two R;simp only at d1;have k0:(0:Int)<=k:=by omega
     have f:=zo R;simp only at f;by_cases S:z=0
     ·have U:ah (c8 (ls.take (k+1))=p+1/\p+1+q=k+1):=by
       rw[aj S,h.o.1]at f;exact⟨f,by have:=h.o.2;omega⟩
      subst S;clear R B h f;go_wp2;go_round
      case rel=>exact⟨k+1,p+1,q,by go_num,by omega,by go_num,rfl,by omega,by omega,U⟩
      case measure=>simp[intOf];omega
     ·have U:ah (c8 (ls.take (k+1))=p/\p+(q+1)=k+1):=by
       rw[ai S,h.o.1]at f;exact⟨f,by have:=h.o.2;omega⟩
      have ag:(z==0)=iF:=by simpa using S
      clear R B h f;go_wp2;go_round
      case rel=>exact⟨k+1,p,q+1,by go_num,by omega,rfl,by go_num,by omega,by omega,U⟩
      case measure=>simp[intOf];omega
    ·have H:k=ls.length:=by have:=W.o;omega
     have i:c8 ls=p:=by rw[<-h.o.1,H,cm (ak _)]
     have d:fB (x,y,ls)=(!x&&decide (0<p/\0<q)):=by
      unfold fB;simp only[i];congr 2;apply propext;have:=h.o.2;omega
     have a:fB (x,y,ls)=iF->ah (∀(j:Nat) (c:Bk),j<b+1->(rs.map aC)[j]?=X c->fB c=iF):=by
      intro hf j c hj C;by_cases e:j=b
      ·subst e;rw[E.o]at C;cases C;exact hf
      ·exact l.o j c (by omega) C
     clear H i;cases x with
     |true=>
      have F:=a (by rw[d];rfl)
      clear d a h;go_wp2;go_round
      case rel=>exact⟨b+1,by go_num,by omega,F⟩
      case measure=>simp[intOf];omega
     |false=>
      by_cases ad:(0:Int)<p
      ·by_cases ae:(0:Int)<q
       ·have Z:ah (gW (rs.map aC)=b):=Qc E.o (show fB (iF,y,ls)=iV by rw[d];simp;omega) l.o
        clear d a h;go_wp2;go_ret;exact⟨by rw[Z.o];rfl,P.o⟩
       ·have F:=a (by rw[d];simp;omega)
        clear d a h;go_wp2;go_round
        case rel=>exact⟨b+1,by go_num,by omega,F⟩
        case measure=>simp[intOf];omega
      ·have F:=a (by rw[d];simp;omega)
       clear d a h;go_wp2;go_round
       case rel=>exact⟨b+1,by go_num,by omega,F⟩
       case measure=>simp[intOf];omega
  ·have Z:ah (gW (rs.map aC)= -1):=Wo (λj c C=>l.o j c (by have:=(aD.1 C).1;rw[aS]at this;have:=HN.o;omega) C)
   clear l;go_wp2;go_ret;exact⟨by rw[Z.o];rfl,P.o⟩
def oK(x:Bool)(ls:List (Int×ByteArray))(k:Nat):Bool:= !x&&decide (c8 (ls.take k)=k)
theorem Na{x:Bool}{t:Int×ByteArray}(c:ls[k]?=X t):oK x ls (k+1)=(oK x ls k&&(t.1==0)):=by
 have h1:=zo c;have d:c8 (ls.take k)<=k:=bR (zI _) (List.length_take_le _ _);unfold oK;rw[h1];by_cases h:t.1=0
 ·simp[h]
 ·have a:decide (c8 (ls.take k)+(if t.1=0 then 1 else 0)=k+1)=iF:=aV (by rw[ai h];omega)
  have b:(t.1==0)=iF:=by simpa using h
  rw[a,b];simp
theorem Rd(x:Bool)(y:Int)(ls:List (Int×ByteArray)):oK x ls ls.length=lH (x,y,ls):=by
 unfold oK lH;rw[cm (ak _)]
theorem Wj(v:iX)(rs:List Rw)(w:iW)(hl:rs.length<=1048576)(E:∀r∈rs,r.2.2.2.length<=1048576)(T:fO w v rs):
 iK Tryz.prog 144 #[iA #[v]] w λe w'=>∃u,e=G u/\vr w' w.heap.size u (jy (rs.map aC))/\iL w.heap.size w w':=by
 obtain⟨i0,V,aa,ab,ac⟩:=bK nG;have U:=T;obtain⟨j,a,rfl,-,-⟩:=U;have P:=af E;obtain⟨n,Z⟩:=an rs.length;have HN:=af Z;have p:=af T;rw[Z]at hl p⊢;have R:=aO w (iC #[Y j n a] 38);have S0:ah (qe w (w.alloc (iC #[Y j n a] 38)) (Y j n a) (Y O 0 0) []):=⟨R,az _ _,xz _ _ _ _⟩;clear T E Z R;go_enter Tryz.func144,Tryz.ntmps144;go_wp2;go_loopw [3,4] (λad S wr=>∃(b:Nat) (l:List Int),S=I J b/\b<=n/\l.length<=b/\ah (l=iu (rs.map aC) b)/\ah (qe w wr (Y j n a) ad l)) (λ_ S _=>n-(intOf S).toNat)
 case atStart=>
  refine⟨0,[],rfl,aI _,aI _,rfl,?_⟩;have s1:=S0.o.below ((ax _ _).alloc (ak _) (iC #[] 3));refine⟨s1.1,s1.2.1,?_⟩;have:=nE (e:=3) (size:=1) (w.alloc (iC #[Y j n a] 38)) #[] 0 (ak _) (by unfold maxLen;omega) (by simp)
  unfold vr aE
  simpa using this
 case round=>
  obtain⟨b,l,rfl,r1,ae,d,g⟩:=hrel;clear S0;have cf:wr.cell? ⟨w.heap.size,0,O⟩=X (Y j n a):=am _ _ 0 _ _ _ g.o.2.1;by_cases ai:(b:Int)<n
  ·have A:b<rs.length:=by have:=HN.o;omega
   obtain⟨r,N⟩:∃r,rs[b]?=X r:=⟨_,ay A⟩;have H:(rs.map aC)[b]?=X (aC r):=by rw[bk,N];rfl
   obtain⟨gv,e,⟨c1,c2,c3⟩,h⟩:=(p.o.below g.o.1).at N;subst e;have F:=P.o r (aH N);obtain⟨x,y,u,ls⟩:=r;simp only at c1 c2 c3;simp only at h F;have R:(0:Int)<=b:=by omega
   have D:=h;obtain⟨ld,lc,rfl,-,-⟩:=D;have q:=af h;have s:=af H;obtain⟨m,W⟩:=an ls.length;have Q:=af W;rw[W]at c3 F;clear H h N A W;have ST:ah (oK x ls 0= !x):=by show _=_;simp[oK,c8]
   go_wp2;go_loop [5,6] (λfv kv=>∃(k:Nat) (f:Bool),kv=I J k/\k<=m/\fv=iB f/\ah (oK x ls k=f)) (λ_ kv=>m-(intOf kv).toNat)
   case atStart=>exact⟨0, !x,rfl,aI _,rfl,ST⟩
   case round=>
    obtain⟨k,f,rfl,hk,rfl,K⟩:=hrel;clear ST;by_cases ag:(k:Int)<m
    ·have B:k<ls.length:=by have:=Q.o;omega
     obtain⟨z,t,ht⟩:∃z t,ls[k]?=X (z,t):=⟨ls[k].1,ls[k].2,ay B⟩;obtain⟨gl,lo,e⟩:=q.o.head (by have:=Q.o;omega)
     subst e;obtain⟨d1,-⟩:=q.o.two ht;simp only at d1;have AN:ah (oK x ls (k+1)=(f&&(z==0))):=by show _=_;rw[Na ht,K.o]
     have k0:(0:Int)<=k:=by omega
     clear ht B K;cases f with
     |false=>
      go_wp2;go_round
      case rel=>exact⟨k+1,iF,by go_num,by omega,rfl,AN⟩
      case measure=>simp[intOf];omega
     |true=>
      go_wp2;go_round
      case rel=>exact⟨k+1,(z==0),by go_num,by omega,rfl,AN⟩
      case measure=>simp[intOf];omega
    ·have C:k=ls.length:=by have:=Q.o;omega
     have M:lH (x,y,ls)=f:=by rw[<-Rd x y ls,<-K.o,C]
     clear C K;cases f with
     |false=>
      have L:ah (l=iu (rs.map aC) (b+1)):=by show _=_;rw[Xa s.o M];exact d.o
      clear M;go_wp2;go_roundw
      case rel=>exact⟨b+1,l,by go_num,by omega,by omega,L,g⟩
      case measure=>simp[intOf];omega
     |true=>
      have L:ah (l++[(b:Int)]=iu (rs.map aC) (b+1)):=by show _=_;rw[RY s.o M,d.o]
      clear M;go_wp2_with (at_builtin;refine cN _ rfl _ _ 72 rfl (w.heap.size+1) 3 i0 (I J 0) 1 8 Tryz.underlying72 V aa ab ac rfl (by decide) _ l.length (aE l) rfl (g.o.2.2.alloc _) ⟨wr.heap.size,0,O⟩ 1 1 [I J _] rfl rfl (by exact nw _ _ _) (vg _) ?g1 ?g2 ?g3 ?_)
      case g1=>unfold maxLen;omega
      case g2=>omega
      case g3=>have:=(aJ.1 g.o.2.1).1;simp;omega
      intro v' w4 i c _;have NS:=af (g.o.snoc i c);have NN:(l++[(b:Int)]).length=l.length+1:=by simp
      generalize l++[(b:Int)]=l3 at L NS NN;clear i c g;go_wp2;go_roundw
      case rel=>exact⟨b+1,l3,by go_num,by omega,by omega,L,NS⟩
      case measure=>simp[intOf];omega
  ·have PF:ah (jy (rs.map aC)=l):=by
    show _=_;unfold jy;rw[aS,d.o];congr 1;have:=HN.o;omega
   clear d;go_wp2;go_ret;refine⟨_,rfl,?_,g.o.1⟩;rw[PF.o];exact nO g.o.2.2 (by omega)
end Go.Proofs.YtijmbohadndfmaaGreatDoor
