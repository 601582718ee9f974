/-
  SPlace; CeSt; StRow; SPut16; SRecOk; SRecText; CePg; SReadRecs; TxRow; STxP
-/
import Derived.Test.YtijmbohadndfmaaGreatDoorPk12
open Go.Value renaming int→I,slice→Y,string→iT,bool→iB,pointer→iP,agg→iA,tuple→iU
open Go.IntKind renaming i64→J
open Option renaming none→O,some→X
open Go.Ending renaming returned→G
open Go.Obj renaming cells→iC
open Bool renaming true→iV,false→iF
open Go renaming World→iW,Value→iX,Calls→iK
open Go.RowKit renaming Below→iL
set_option maxHeartbeats 2000000
set_option maxRecDepth 100000
namespace Go.Proofs.YtijmbohadndfmaaGreatDoor
open Go.RowKit
variable{bad bad':Bool}{t:ByteArray}{fn:Func}{x:Int}{k g cap i n q lo B z size q' c m:Nat}{ok:Nat -> Prop}{ad:Option Addr}{e:TypeId}
theorem Pt{L:List Wb}{b x:Wb}(c:kR (L.take k) b)(d:L[k]?=X x)(a:gE x b):kR (L.take (k+1)) x:=by
 obtain⟨h1,rfl⟩:=aD.1 d;rw[ge h1];refine⟨xI _ (bT.2 rfl),λy hy=>?_⟩
 rcases br.1 hy with hy|hy
 ·exact Ts (c.2 y hy) a
 ·rw[bT]at hy;subst hy;exact vP _
theorem X8{L:List Wb}{b x:Wb}(c:kR (L.take k) b)(d:L[k]?=X x)(a:¬gE x b):kR (L.take (k+1)) b:=by
 obtain⟨h1,rfl⟩:=aD.1 d;rw[ge h1];refine⟨rj _ c.1,λy hy=>?_⟩
 rcases br.1 hy with hy|hy
 ·exact c.2 y hy
 ·rw[bT]at hy;subst hy;exact a
theorem SO(v:iX)(rs:List Rw)(w:iW)(hl:rs.length<=1048576)(f:∀r∈rs,r.2.2.2.length<=1048576)(ha:fO w v rs):
 iK Tryz.prog 114 #[iA #[v]] w λe w'=>e=G (Bm (fI (rs.map aC)))/\iL w.heap.size w w':=by
 have ar:=ha;obtain⟨p,a,rfl,-,-⟩:=ar;obtain⟨n,D⟩:=an rs.length;have b1:=(ax w.heap.size w).alloc (ak _) (iC #[Y p n a] 38);have HF:=af ha;have HN:=af D;have aj:=af f;have R1:=af (az w (iC #[Y p n a] 38));have C1:ah (∀W,iL w.heap.size w W->iK Tryz.prog 63 #[iA #[Y p n a]] W λe w'=>e=G (iB (bn (rs.map aC)))/\iL W.heap.size W w'):=by
  intro W A;have:=wZ (Y p rs.length a) rs W hl f (ha.below A);rw[D]at this;exact this
 have C2:ah (∀W,iL w.heap.size w W->iK Tryz.prog 143 #[iA #[Y p n a]] W λe w'=>e=G (I J (gW (rs.map aC)))/\iL W.heap.size W w'):=by
  intro W A;have:=Ox (Y p rs.length a) rs W hl f (ha.below A);rw[D]at this;exact this
 have C3:ah (∀W,iL w.heap.size w W->iK Tryz.prog 144 #[iA #[Y p n a]] W λe w'=>∃u,e=G u/\vr w' W.heap.size u (jy (rs.map aC))/\iL W.heap.size W w'):=by
  intro W A;have:=Wj (Y p rs.length a) rs W hl f (ha.below A);rw[D]at this;exact this
 have H:=af b1;rw[D]at hl⊢;clear f ha b1;cases c:bn (rs.map aC)with
 |false=>
  have s:=af (Yb c);rw[c]at C1;clear c D;go_enter Tryz.func114,Tryz.ntmps114;go_wp2_with fail;refine(C1.o _ H.o).mono ?_;rintro e w2 ⟨rfl,Z⟩;have T:=af (H.o.trans (Z.mono H.o.size));clear Z;go_wp2;go_ret3;exact⟨by rw[s.o];rfl,T.o⟩
 |true=>
  have au:=XQ c;rw[aS,D]at au;rw[c]at C1;have L:=af c;clear c D;go_enter Tryz.func114,Tryz.ntmps114;go_wp2_with fail;refine(C1.o _ H.o).mono ?_;rintro e w2 ⟨rfl,Z⟩;have T:=af (H.o.trans (Z.mono H.o.size));have R2:=af ((Z.block _ (aJ.1 R1.o).1).trans R1.o);have c2:w2.cell? ⟨w.heap.size,0,O⟩=X (Y p n a):=am _ _ 0 _ _ _ R2.o;clear Z C1 R1 H;go_wp2_with fail;refine(C2.o _ T.o).mono ?_;rintro e w3 ⟨rfl,b3⟩;have U:=af (T.o.trans (b3.mono T.o.size));have R3:=af ((b3.block _ (aJ.1 R2.o).1).trans R2.o);have c3:w3.cell? ⟨w.heap.size,0,O⟩=X (Y p n a):=am _ _ 0 _ _ _ R3.o;clear b3 C2 R2 T c2;rcases H7 (rs.map aC)with⟨R,-⟩|⟨k,b,R,hb,-,-⟩
  ·rw[R];have HO:=af R;have ac:=af (λ(x:Int) (hx:x∈jy (rs.map aC))=>Bh hx)
   have aa:=af (MA (rs.map aC) (rs.map aC).length);have B:(jy (rs.map aC)).length<=10:=by
    have:=MS (rs.map aC) (rs.map aC).length;simp only[jy,aS]at this⊢;have:=HN.o;omega
   clear R;go_wp2_with fail;refine(C3.o _ U.o).mono ?_;rintro e S ⟨u,rfl,hu,b4⟩;have K:=af (U.o.trans (b4.mono U.o.size));have R4:=af ((b4.block _ (aJ.1 R3.o).1).trans R3.o);obtain⟨ud,aA,rfl,-,u2,u3⟩:=lN hu;unfold maxLen at u2;have U3:=af u3;have HU:=af hu;obtain⟨F,hF⟩:=an (jy (rs.map aC));have d:jy (rs.map aC)=[]->fI (rs.map aC)=(0,0,iF):=λh0=>Kp L.o HO.o h0
   have PL:∀r,kR (nf (rs.map aC) F) r->fI (rs.map aC)=(r.1,0,iV):=λr z=>Gz L.o HO.o (by rw[hF];exact z)
   have M:=af d;have al:=af PL;have ab:ah (F.Pairwise (·<·)):=by rw[<-hF];exact aa.o
   rw[hF]at ac B HU U3 M⊢;obtain⟨m,hm⟩:=an F.length;have HM:=af hm;rw[hm]at U3 B⊢;clear b4 hu u3 R3 c3 C3 d PL hF aa hm;have c4:S.cell? ⟨w.heap.size,0,O⟩=X (Y p n a):=am _ _ 0 _ _ _ R4.o;by_cases h0:m=0
   ·subst h0;have s:ah (fI (rs.map aC)=(0,0,iF)):=M.o (lF HM.o);clear M;go_wp2;go_ret3;exact⟨by rw[s.o];rfl,K.o⟩
   ·have aK:((m:Int)==0)=iF:=by simp;omega
    have aL:¬(m:Int)=0:=by omega
    obtain⟨gu,e,g1,g2⟩:=U3.o (by omega)
    subst e;obtain⟨gv,e⟩:=HF.o.head (by have:=HN.o;omega)
    subst e
    -- a free block, as it is read
    have RD:ah (∀(W:iW) (k:Nat),iL S.heap.size S W->k<m->∃(j:Nat) (y:Int),F[k]?=X (j:Int)/\j<n/\(nf (rs.map aC) F)[k]?=X ((j:Int),y)/\tN (rs.map aC) (j:Int)=y/\W.cell? ⟨gu,k,O⟩=X (I J (j:Int))/\W.cell? ⟨gv,j*3+1,O⟩=X (I J y)):=by
     intro W k A hk;obtain⟨x,hx⟩:∃x,F[k]?=X x:=⟨_,ay (by have:=HM.o;omega)⟩
     obtain⟨j,e,hj,b,hb,-⟩:=ac.o x (aH hx);rw[aS]at hj;obtain⟨r,z⟩:∃r,rs[j]?=X r:=⟨_,ay hj⟩;have ag:tN (rs.map aC) (j:Int)=r.2.1:=by unfold tN;rw[aZ,bk,z];rfl
     subst e;refine⟨j,r.2.1,hx,by have:=HN.o;omega,by unfold nf;rw[bk,hx,<-ag];rfl,ag,?_,?_⟩
     ·have h1:=(bu HU.o A).cells (g:=gu) rfl k (I J (j:Int)) (by rw[aE];rw[bk,hx];rfl)
      rw[eX]at h1;exact h1
     ·have ap:=K.o.trans (A.mono K.o.size);obtain⟨aB,e,⟨-,c2,-⟩,-⟩:=(HF.o.below ap).at z;injection e with e
      injection e with e
      subst e;exact c2
    obtain⟨j0,y0,e1,e2,e3,e4,e5,e6⟩:=RD.o S 0 (ax _ _) (by omega)
    have L0:ah (kR ((nf (rs.map aC) F).take 1) ((j0:Int),y0)):=by
     have:=ge (l:=nf (rs.map aC) F) (i:=0) (aD.1 e3).1;rw[aD]at e3;rw[show(1:Nat)=0+1 from rfl,this,e3.2];exact⟨by simp,λy hy=>by simp at hy;subst hy;exact vP _⟩
    have E1:=af e1;have E4:=af e4;have E2:=af e2;clear e1 e2 e3 e4 e6;go_wp2;clear e5;go_loopw [7,8] (λbv iv wr=>∃(k j:Nat) (y:Int),iv=I J k/\bv=I J (j:Int)/\1<=k/\k<=m/\ah (∃i,i<k/\F[i]?=X (j:Int))/\ah (j<n)/\ah (tN (rs.map aC) (j:Int)=y)/\ah (kR ((nf (rs.map aC) F).take k) ((j:Int),y))/\ah (iL S.heap.size S wr)) (λ_ iv _=>m-(intOf iv).toNat)
    case atStart=>exact⟨1,j0,y0,rfl,rfl,by omega,by omega,⟨0,by omega,E1.o⟩,E2,E4,L0,ax _ _⟩
    case round=>
     obtain⟨k,j,y,rfl,rfl,aF,hk,HI,HJ,HY,V,HW⟩:=hrel;clear L0 E1 E4 E2;have cf:wr.cell? ⟨w.heap.size,0,O⟩=X (Y (X ⟨gv,0,O⟩) n a):=am _ _ 0 _ _ _ ((HW.o.block _ (aJ.1 R4.o).1).trans R4.o);by_cases aI:(k:Int)<m
     ·obtain⟨j2,y2,f1,f2,f3,f4,f5,f6⟩:=RD.o wr k HW.o (by omega)
      -- the best one, as it is read
      obtain⟨i,av,t⟩:=HI.o;obtain⟨E,y3,g3,g4,g5,g6,g7,g8⟩:=RD.o wr i HW.o (by omega)
      have ad:(j:Int)=E:=by rw[t]at g3;cases g3;rfl
      have ae:E=j:=by omega
      subst ae;have aw:y3=y:=by rw[<-g6,HY.o]
      subst aw
      -- places ascend
      have C:(E:Int)<j2:=by
       obtain⟨p1,p2⟩:=aD.1 t;obtain⟨p3,p4⟩:=aD.1 f1;have:=mJ.1 ab.o i k p1 p3 av;rw[p2,p4]at this;exact this
      have jn:(E:Int)<n:=by omega
      have aM:(j2:Int)<n:=by omega
      have z1:(0:Int)<=E:=by omega
      have z2:(0:Int)<=j2:=by omega
      have z3:(0:Int)<=k:=by omega
      have F1:=af f1;have F2:=af f2;have F4:=af f4;have BD:=af (λq=>bI HW.o q)
      have KI:=af HI.o;by_cases hw:y2<y3
      ·have NL:=af (Pt V.o f3 (show gE ((j2:Int),y2) ((E:Int),y3)from Or.inl hw));clear f1 f2 f3 f4 g3 g4 g5 g6 g7 HI V HY t C ad;go_wp2;go_quiet (fail);go_wp2;go_roundw
       case rel=>exact⟨k+1,j2,y2,by go_num,rfl,by omega,by omega,⟨k,by omega,F1.o⟩,F2,F4,NL,BD.o _⟩
       case measure=>simp[intOf];omega
      ·have NL:=af (X8 V.o f3 (show¬gE ((j2:Int),y2) ((E:Int),y3)from λh=>by unfold gE at h;simp only at h;omega))
       have ao:=af HY.o;have ai:=af HJ.o;clear f1 f2 f3 f4 g3 g4 g5 g6 g7 HI V HY HJ t C ad;go_wp2;go_quiet (fail);go_wp2;go_roundw
       case rel=>exact⟨k+1,E,y3,by go_num,rfl,by omega,by omega,(by obtain⟨i,h1,h2⟩:=KI.o;exact⟨i,by omega,h2⟩),ai,ao,NL,BD.o _⟩
       case measure=>simp[intOf];omega
     ·have s:ah (fI (rs.map aC)=((j:Int),0,iV)):=by
       have:=V.o;rw[cm (by simp only[nf,aS];have:=HM.o;omega)]at this
       exact al.o _ this
      have B5:=af (K.o.trans (HW.o.mono K.o.size));clear V HI HY HJ;go_wp2;go_ret3;exact⟨by rw[s.o];rfl,B5.o⟩
  ·rw[R];have aG:k<n:=by have:=(aD.1 hb).1;rw[aS]at this;have:=HN.o;omega
   have s:=af (Lp L.o R hb);obtain⟨r,z⟩:∃r,rs[k]?=X r:=⟨_,ay (by have:=HN.o;omega)⟩
   have aq:b=aC r:=by rw[bk,z]at hb;cases hb;rfl
   subst aq;obtain⟨gv,e,⟨c1,c2,c4⟩,P⟩:=(HF.o.below U.o).at z;subst e;have Q:=aj.o r (aH z);obtain⟨x,y,u,ls⟩:=r;simp only at c1 c2 c4;simp only[aC]at s;simp only at P Q;have C4:=af (zH x y u ls w3 Q P);generalize bm ls=N at C4 s;have k0:(0:Int)<=k:=by omega
   have kn:(k:Int)<n:=by omega
   clear R hb z P Q;go_wp2_with fail;refine C4.o.mono ?_;rintro e S ⟨rfl,b4⟩;have K:=af (U.o.trans (b4.mono U.o.size));clear C4 b4;go_wp2;go_ret3;exact⟨by rw[s.o];rfl,K.o⟩
def qU(t:Int×Int×Int×ByteArray):List iX:=[I J t.1,I J t.2.1,I J t.2.2.1,iT t.2.2.2]
def cT(l:List (Int×Int×Int×ByteArray)):List iX:=l.flatMap qU
theorem Pl(l:List (Int×Int×Int×ByteArray)):(cT l).length=l.length*4:=by
 induction l with
 |nil=>rfl
 |cons t l a=>simp[cT,qU]at a⊢;omega
theorem zj(a b:List (Int×Int×Int×ByteArray)):cT (a++b)=cT a++cT b:=by simp[cT]
theorem Vf(t:Int×Int×Int×ByteArray)(l:List (Int×Int×Int×ByteArray)):cT (t::l)=qU t++cT l:=by simp[cT]
theorem Hr(l:List (Int×Int×Int×ByteArray))(k:Nat)(t:Int×Int×Int×ByteArray)(h:l[k]?=X t)(j:Nat)(v:iX)(b:(qU t)[j]?=X v):(cT l)[k*4+j]?=X v:=by
 have c:j<4:=(aD.1 b).1
 induction l generalizing k with
 |nil=>simp at h
 |cons a l d=>
  rw[Vf];cases k with
  |zero=>
   simp at h;subst h;rw[lz (by show _<4;omega),lq,dK]
   exact b
  |succ k=>
   rw[dz (by show 4<=_;omega),show(k+1)*4+j-(qU a).length=k*4+j by show _-4=_;omega]
   exact d k (by simpa using h)
theorem Xt(l:List (Int×Int×Int×ByteArray)):∀v∈cT l,v.oneCell'=iV:=by
 intro v b;obtain⟨t,-,a⟩:=lE.1 b;simp[qU]at a;rcases a with h|h|h|h<;>subst h<;>rfl
theorem Aw:(Tryz.prog.info? 184).map (λi=>(i.zero,i.size,i.bytes))=X (X (iA #[I J 0,I J 0,I J 0,iT ⟨#[]⟩]),4,40):=by kernel_rfl
def tO(w:iW)(g o:Nat)(s:aM):Prop:=w.cell? ⟨g,o,O⟩=X (I J s.1)/\w.cell? ⟨g,o+1,O⟩=X (I J s.2.1)/\w.cell? ⟨g,o+2,O⟩=X (I J s.2.2.1)/\w.cell? ⟨g,o+3,O⟩=X (iT s.2.2.2)
def ni(w:iW)(u:iX)(l:List aM):Prop:=
 ∃ad cap,u=Y ad l.length cap/\l.length<=cap/\cap<=9223372036854775807/\(ad=O->cap=0)/\∀i s,l[i]?=X s->∃g o,ad=X ⟨g,o,O⟩/\tO w g (o+i*4) s
theorem tO.below{w w':iW}{o:Nat}{s:aM}(h:tO w g o s)(a:iL w.heap.size w w'):tO w' g o s:=by
 obtain⟨c1,c2,c3,b⟩:=h;exact⟨(a.cell (bh w _ c1)).trans c1,(a.cell (bh w _ c2)).trans c2,(a.cell (bh w _ c3)).trans c3,(a.cell (bh w _ b)).trans b⟩
theorem ni.below{w w':iW}{u:iX}{l:List aM}(h:ni w u l)(d:iL w.heap.size w w'):ni w' u l:=by
 obtain⟨ad,cap,e,h1,b,c,h⟩:=h;refine⟨ad,cap,e,h1,b,c,λi s hs=>?_⟩
 obtain⟨g,o,a,h4⟩:=h i s hs;exact⟨g,o,a,h4.below d⟩
theorem ni.form{w:iW}{u:iX}{l:List aM}(h:ni w u l):∃ad cap,u=Y ad l.length cap/\l.length<=cap/\cap<=9223372036854775807/\(ad=O->cap=0):=by
 obtain⟨ad,cap,e,h1,a,b,h⟩:=h;exact⟨ad,cap,e,h1,a,b⟩
theorem ni.at{w:iW}{l:List aM}{s:aM}(h:ni w (Y ad n cap) l)(hs:l[i]?=X s):∃g o,ad=X ⟨g,o,O⟩/\tO w g (o+i*4) s:=by
 obtain⟨b,a,e,h1,c,d,h⟩:=h;injection e with e1 e2 e3
 subst e1;exact h i s hs
open Words Sums
def jS(q:Nat)(W:iW)(v:iX)(bs:List Bk):Prop:=∀W':iW,W.heap.size<=W'.heap.size->(∀x,x≠q->x<W.heap.size->W'.heap[x]?=W.heap[x]?)->fj W' v bs
variable{bs:List Bk}
theorem jS.rdb{W:iW}{v:iX}(h:jS q W v bs):fj W v bs:=h W (ak _) (λ_ _ _=>rfl)
theorem jS.keep{W W':iW}{v:iX}(h:jS q W v bs)(e:W.heap.size<=W'.heap.size)(c:∀x,x≠q->x<W.heap.size->W'.heap[x]?=W.heap[x]?):jS q W' v bs:=
 λV h1 b=>h V (by omega) (λx a d=>(b x a (by omega)).trans (c x a d))
theorem XK{w W:iW}{v:iX}(h:fj w v bs)(q:∀x,x<w.heap.size->W.heap[x]?=w.heap[x]?):fj W v bs:=by
 have a:∀(g o:Nat) (x:iX),w.cell? ⟨g,o,O⟩=X x->W.cell? ⟨g,o,O⟩=X x:=λg o x d=>(vQ (q g (bh w _ d))).trans d
 obtain⟨rs,e,A,b,rfl,p,h⟩:=h;refine⟨rs,e,A,b,rfl,p,λk r u=>?_⟩
 obtain⟨g,l,⟨c1,c2,c3⟩,z,lc,m,c,s⟩:=h k r u;refine⟨g,l,⟨a _ _ _ c1,a _ _ _ c2,a _ _ _ c3⟩,z,lc,m,c,λj t y=>?_⟩
 obtain⟨gl,o,n,f,i⟩:=s j t y;exact⟨gl,o,n,a _ _ _ f,a _ _ _ i⟩
theorem jS.of_rdb{w W:iW}{v:iX}(h:fj w v bs)(a:iL w.heap.size w W)(d:w.heap.size<=q):jS q W v bs:=
 λV h1 b=>XK h (λx c=>(b x (by omega) (by have:=a.size;omega)).trans (a.block x c))
theorem jS.of_fla{hi:Nat}{W:iW}{v:iX}(h:cu lo hi v bs W)(b:hi<=W.heap.size)(c:q<lo):jS q W v bs:=
 λV h1 a=>(cu.loc lo hi v bs W V (λx d e=>a x (by omega) (by omega)) h).rdb
theorem JT{W:iW}{u x:iX}{xs:List iX}{c:Array iX}(h:W.ownsRow B 184 4 u n xs)(i:W.heap[z]?=X (iC c 38 (0,0))):(W.setCell ⟨z,k,O⟩ x).ownsRow B 184 4 u n xs:=by
 obtain⟨h0,h⟩:=h;refine⟨h0,?_⟩;rcases h with h|⟨g,cap,b,e,h1,d,f⟩
 ·exact .inl h
 ·refine .inr ⟨g,cap,b,e,h1,(aU _ _ _ _ (λa=>?_)).trans d,f⟩
  simp only at a;subst a;rw[i]at d;simp at d
theorem Rb{w x:iW}{o:Nat}{u:iX}(h:cG w x ok)(b:w.heap.size<=g):cG w (x.setCell ⟨g,o,O⟩ u) ok:=
 ⟨h.1,h.2.1,h.2.2.1,by simpa[World.setCell]using h.2.2.2.1,λi hi a=>(aU _ _ _ _ (by show i≠g;omega)).trans (h.2.2.2.2 i hi a)⟩
theorem QK(v:iX)(bs:List Bk)(w:iW)(hs:dg bs)(a:fj w v bs):
 iK Tryz.prog 114 #[iA #[v]] w λe w'=>e=G (Bm (fI bs))/\iL w.heap.size w w':=by
 obtain⟨rs,rfl,h,l,b,c⟩:=a.lens hs;exact SO v rs w l b h
theorem S8(p:Pg):pN p=iU #[iT (kS p).1,iB (kS p).2]:=by
 unfold pN kS;split<;>rfl
theorem ML:(Tryz.prog.info? 38).map (·.size)=X 1:=by kernel_rfl
theorem Ff {p q r:Tmp} (h:fn.results= #[.cell p 38,.tmp q,.tmp r]) (a:Array iX) (w:iW) (g:Nat) (v:iX)
 (e:a.getD p undef=iP (X ⟨g,0,O⟩)) (c:w.heap[g]?=X (iC #[v] 38 (0,0))):
 (results fn a).run Tryz.prog w=.ok (iU #[iA #[v],a.getD q undef,a.getD r undef]) w:=by
 have b:a[p]?.getD undef=iP (X ⟨g,0,O⟩):=by simpa using e
 have d:=lx (P:=Tryz.prog) w g 38 38 #[v] (0,0) _ c Tryz.underlying38 rfl ML;simp[results,h,b,asAddr,d]
theorem WL(k b lf:Int)(t:ByteArray):∀u∈ [I J k,I J b,I J lf,iT t],u.oneCell'=iV:=by
 intro u a;simp only[bf,dV,ez]at a;rcases a with rfl|rfl|rfl|rfl<;>rfl
theorem PJ(w:iW)(cs:Array iX)(t:TypeId)(g:Nat)(a:w.heap.size=g):∀(j:Nat) (u:iX),cs.toList[j]?=X u->(w.alloc (iC cs t)).cell? ((⟨g,0,O⟩:Addr).add j)=X u:=by
 intro j u b;subst a;rw[eX];exact am _ _ j _ _ _ (az w (iC cs t))|>.trans (by simpa using b)
def zT(B q:Nat)(w:iW)(u:iX)(r:List Bk×List aM×Bool)(e:Ending)(w':iW):Prop:=
 ∃a u',e=G (iU #[iA #[a],u',iB r.2.2])/\jS q w' a r.1/\w'.ownsRow B 184 4 u' r.2.1.length (cT r.2.1)/\cG w w' (λx=>u.ownBlock≠X x)
theorem Dy(v u:iX)(bs:List Bk)(l:List aM)(p:Pg)(B q:Nat)(w:iW)(hs:dg bs)(hl:l.length<=1000000000000)(ha:jS q w v bs)(ho:w.ownsRow B 184 4 u l.length (cT l))(hB:B<=w.heap.size)(hq:q<w.heap.size):
 iK Tryz.prog 76 #[iA #[v],u,i7 p] w (zT B q w u (cH bs l p)):=by
 obtain⟨m,i,rfl⟩:=ha.rdb.form;obtain⟨i0,ae,ak,al,D⟩:=bK Aw;have I0:=af ae;have I1:=af ak;have I2:=af al;have I3:=af D;have A:=af (S8 p);obtain⟨tx,ok,U⟩:∃tx ok,kS p=(tx,ok):=⟨_,_,rfl⟩;obtain⟨b,lf,V,T⟩:∃b lf V,fI bs=(b,lf,V):=⟨_,_,_,rfl⟩;have HP:ah (cH bs l p=if (ok&&V)=iV then((cP bs (1,b,lf,tx)).1,l++[(1,b,lf,tx)],(cP bs (1,b,lf,tx)).2)else(bs,l,iF)):=by show _=_;unfold cH;rw[U,T]
 have ac:=af T;rw[U]at A;simp only at A;obtain⟨pk,t,y,s,r,pt⟩:=p;obtain⟨R,hR⟩:=an (cH bs l ⟨pk,t,y,s,r,pt⟩);rw[hR]at HP⊢;have s0:(w.alloc (iC #[Y m bs.length i] 38)).heap.size=w.heap.size+1:=by simp
 have s1:((w.alloc (iC #[Y m bs.length i] 38)).alloc (iC #[I J pk,I J t,I J y,I J s,I J r,iT pt] 110)).heap.size=w.heap.size+1+1:=by simp
 have b0:=aO w (iC #[Y m bs.length i] 38);have N:iL w.heap.size w ((w.alloc (iC #[Y m bs.length i] 38)).alloc (iC #[I J pk,I J t,I J y,I J s,I J r,iT pt] 110)):=b0.alloc (by omega) _
 have bA:iL w.heap.size w (((w.alloc (iC #[Y m bs.length i] 38)).alloc (iC #[I J pk,I J t,I J y,I J s,I J r,iT pt] 110)).alloc (iC #[Y O 0 0] 38)):=N.alloc (by omega) _
 have g0:(((w.alloc (iC #[Y m bs.length i] 38)).alloc (iC #[I J pk,I J t,I J y,I J s,I J r,iT pt] 110)).alloc (iC #[Y O 0 0] 38)).heap[w.heap.size]?=X (iC #[Y m bs.length i] 38 (0,0)):=(nM _ _ (by simp;omega)).trans ((nM _ _ (by simp)).trans (az w _))
 have g1:(((w.alloc (iC #[Y m bs.length i] 38)).alloc (iC #[I J pk,I J t,I J y,I J s,I J r,iT pt] 110)).alloc (iC #[Y O 0 0] 38)).heap[w.heap.size+1]?=X (iC #[I J pk,I J t,I J y,I J s,I J r,iT pt] 110 (0,0)):=by
  refine(nM _ _ (by simp)).trans ?_
  rw[<-s0];exact az _ _
 have g2:(((w.alloc (iC #[Y m bs.length i] 38)).alloc (iC #[I J pk,I J t,I J y,I J s,I J r,iT pt] 110)).alloc (iC #[Y O 0 0] 38)).heap[w.heap.size+1+1]?=X (iC #[Y O 0 0] 38 (0,0)):=by
  rw[<-s1];exact az _ _
 generalize ax:((w.alloc (iC #[Y m bs.length i] 38)).alloc (iC #[I J pk,I J t,I J y,I J s,I J r,iT pt] 110)).alloc (iC #[Y O 0 0] 38)=wa at bA g0 g1 g2;have CP:=af (Kq ⟨pk,t,y,s,r,pt⟩ wa);rw[A.o]at CP;unfold i7 at CP⊢;simp only at CP⊢;have L:=af bA;have G0:=af g0;have G2:=af g2;have HA:=af ha;have HS:=af hs;have HO:=af ho;have c0:=am _ _ 0 _ _ _ g1;have c1:=am _ _ 1 _ _ _ g1;have c2:=am _ _ 2 _ _ _ g1;have c3:=am _ _ 3 _ _ _ g1;have c4:=am _ _ 4 _ _ _ g1;have c5:=am _ _ 5 _ _ _ g1;clear ae ak al D U T hR s0 s1 b0 N bA g0 g1 g2 ha hs ho A;go_enter Tryz.func76,Tryz.ntmps76;go_wp2_with fail;clear ax;refine CP.o.mono ?_;rintro e w1 ⟨rfl,N⟩;have B1:=af (L.o.trans (N.mono L.o.size));have F1:=af ((N.block _ (aJ.1 G0.o).1).trans G0.o);have Z1:=af ((N.block _ (aJ.1 G2.o).1).trans G2.o);have k1:=am _ _ 0 _ _ _ F1.o;have CL:=af (QK (Y m bs.length i) bs w1 HS.o (HA.o.rdb.below B1.o));rw[ac.o]at CL;unfold Bm at CL;simp only at CL;clear CP L G0 G2 ac N c0 c1 c2 c3 c4 c5;go_wp2_with fail;refine CL.o.mono ?_;rintro e c ⟨rfl,b2⟩;have B2:=af (B1.o.trans (b2.mono B1.o.size));have F2:=af ((b2.block _ (aJ.1 F1.o).1).trans F1.o);have F:=af ((b2.block _ (aJ.1 Z1.o).1).trans Z1.o);have D:=(aJ.1 F.o).1;clear CL B1 F1 Z1 b2 k1;by_cases hc:(ok&&V)=iV
 case neg=>
  have HE:ah (R=(bs,l,iF)):=by show _=_;rw[HP.o,ai hc]
  have k0:=am _ _ 0 _ _ _ F2.o;have k1:=am _ _ 0 _ _ _ F.o;have k2:=aL _ _ 0 _ _ F.o;have RB:=af (B2.o.setCell (p:=⟨w.heap.size+1+1,0,O⟩) (by show _<=_+1+1;omega) (Y m bs.length i))
  have RR:ah ((c.setCell ⟨w.heap.size+1+1,0,O⟩ (Y m bs.length i)).heap[w.heap.size+1+1]?=X (iC #[Y m bs.length i] 38 (0,0))):=bC _ _ 0 _ _ _ F.o;have FN:ah (zT B q w u (bs,l,iF) (G (iU #[iA #[Y m bs.length i],u,iB iF])) (c.setCell ⟨w.heap.size+1+1,0,O⟩ (Y m bs.length i))):=⟨_,_,rfl,HA.o.keep RB.o.size (λx _ x2=>RB.o.block x x2),bu HO.o RB.o,cG.below RB.o⟩
  have ap:ok=iF∨(ok=iV/\V=iF):=by
   cases ok with
   |false=>exact .inl rfl
   |true=>cases V with
    |false=>exact .inr ⟨rfl,rfl⟩
    |true=>exact absurd rfl hc
  clear HP hc F2 F B2 HA HO RB;rcases ap with rfl|⟨rfl,rfl⟩
  all_goals
   go_wp2;refine aF (Ff rfl _ _ (w.heap.size+1+1) _ rfl RR.o) rfl ?_;rw[HE.o];exact FN.o
 case pos=>
  have HE:ah (R=((cP bs (1,b,lf,tx)).1,l++[(1,b,lf,tx)],(cP bs (1,b,lf,tx)).2)):=by show _=_;rw[HP.o,aj hc]
  obtain⟨rfl,rfl⟩:ok=iV/\V=iV:=by simpa using hc
  obtain⟨cs,E,S⟩:∃cs E,cP bs (1,b,lf,tx)=(cs,E):=⟨_,_,rfl⟩;rw[S]at HE;have b3:=aO c (iC #[I J 1,I J b,I J lf,iT tx] 184);have W:(c.alloc (iC #[I J 1,I J b,I J lf,iT tx] 184)).heap[c.heap.size]?=X (iC #[I J 1,I J b,I J lf,iT tx] 184 (0,0)):=az _ _;have B3:=af (B2.o.trans (b3.mono B2.o.size));have F3:=af ((b3.block _ (aJ.1 F2.o).1).trans F2.o);have Z3:=af ((b3.block _ (aJ.1 F.o).1).trans F.o);have aq:(c.alloc (iC #[I J 1,I J b,I J lf,iT tx] 184)).heap.size=c.heap.size+1:=by simp
  generalize av:c.alloc (iC #[I J 1,I J b,I J lf,iT tx] 184)=w3 at b3 W B3 F3 Z3 aq;have T3:=af W;have CD:=af (AB (Y m bs.length i) bs (1,b,lf,tx) w3 HS.o (HA.o.rdb.below B3.o));rw[S]at CD;unfold xg at CD;simp only at CD;have k0:=am _ _ 0 _ _ _ F3.o;have c0:=am _ _ 0 _ _ _ W;have c1:=am _ _ 1 _ _ _ W;have c2:=am _ _ 2 _ _ _ W;have c3:=am _ _ 3 _ _ _ W;clear HP hc F2 F B2 S b3 W;go_wp2_with fail;clear av;refine CD.o.mono ?_;rintro e g ⟨nv,rfl,fo,P⟩;obtain⟨f,d,rfl⟩:=fo.form;have b5:=aO g (iC #[Y f cs.length d] 38);have n5:(g.alloc (iC #[Y f cs.length d] 38)).heap[g.heap.size]?=X (iC #[Y f cs.length d] 38 (0,0)):=az _ _;have ar:(g.alloc (iC #[Y f cs.length d] 38)).heap.size=g.heap.size+1:=by simp
  have bb:=B3.o.trans (P.mono B3.o.size);have B5:=af (bb.trans (b5.mono bb.size));have Z:=af (((b5.block _ (by have:=P.size;omega)).trans (P.block _ (by omega))).trans T3.o)
  have Z5:=af (((b5.block _ (by have:=P.size;omega)).trans (P.block _ (by omega))).trans Z3.o)
  have FO:ah (cu w3.heap.size g.heap.size (Y f cs.length d) cs (g.alloc (iC #[Y f cs.length d] 38))):=cu.loc _ _ _ _ g _ (λx x1 x2=>b5.block x x2) fo
  have aA:=P.size;generalize aw:g.alloc (iC #[Y f cs.length d] 38)=a at b5 n5 ar B5 Z Z5 FO;have SD:(a.drew.cell? ⟨g.heap.size,0,O⟩=X (Y f cs.length d))/\a.drew.cell? ⟨c.heap.size,0,O⟩=X (I J 1)/\a.drew.cell? ⟨c.heap.size,1,O⟩=X (I J b)/\a.drew.cell? ⟨c.heap.size,2,O⟩=X (I J lf)/\a.drew.cell? ⟨c.heap.size,3,O⟩=X (iT tx):=⟨am _ _ 0 _ _ _ n5,am _ _ 0 _ _ _ Z.o,am _ _ 1 _ _ _ Z.o,am _ _ 2 _ _ _ Z.o,am _ _ 3 _ _ _ Z.o⟩;have B6:ah (iL w.heap.size w (a.drew.alloc (iC #[I J 1,I J b,I J lf,iT tx] 184))):=B5.o.drew.alloc (by have:=B5.o.size;exact this) _
  have OW:=af (bu HO.o B6.o);have N6:ah ((a.drew.alloc (iC #[I J 1,I J b,I J lf,iT tx] 184)).heap[g.heap.size]?=X (iC #[Y f cs.length d] 38 (0,0))):=(nM _ _ (by show _<a.heap.size;omega)).trans n5
  have T6:ah ((a.drew.alloc (iC #[I J 1,I J b,I J lf,iT tx] 184)).heap[c.heap.size]?=X (iC #[I J 1,I J b,I J lf,iT tx] 184 (0,0))):=(nM _ _ (by show _<a.heap.size;omega)).trans Z.o
  have Z6:ah ((a.drew.alloc (iC #[I J 1,I J b,I J lf,iT tx] 184)).heap[w.heap.size+1+1]?=X (iC #[Y O 0 0] 38 (0,0))):=(nM _ _ (by show _<a.heap.size;omega)).trans Z5.o
  have aa:ah (cu w3.heap.size g.heap.size (Y f cs.length d) cs (a.drew.alloc (iC #[I J 1,I J b,I J lf,iT tx] 184))):=cu.loc _ _ _ _ a _ (λx x1 x2=>nM _ _ (by show _<a.heap.size;omega)) FO.o
  have SE:((a.drew.alloc (iC #[I J 1,I J b,I J lf,iT tx] 184)).cell? ⟨g.heap.size,0,O⟩=X (Y f cs.length d))/\(a.drew.alloc (iC #[I J 1,I J b,I J lf,iT tx] 184)).cell? ⟨c.heap.size,0,O⟩=X (I J 1)/\(a.drew.alloc (iC #[I J 1,I J b,I J lf,iT tx] 184)).cell? ⟨c.heap.size,1,O⟩=X (I J b)/\(a.drew.alloc (iC #[I J 1,I J b,I J lf,iT tx] 184)).cell? ⟨c.heap.size,2,O⟩=X (I J lf)/\(a.drew.alloc (iC #[I J 1,I J b,I J lf,iT tx] 184)).cell? ⟨c.heap.size,3,O⟩=X (iT tx):=⟨am _ _ 0 _ _ _ N6.o,am _ _ 0 _ _ _ T6.o,am _ _ 1 _ _ _ T6.o,am _ _ 2 _ _ _ T6.o,am _ _ 3 _ _ _ T6.o⟩;have HN:=af (PJ a.drew #[I J 1,I J b,I J lf,iT tx] 184 a.heap.size rfl);have ad:ah (B<=(a.drew.alloc (iC #[I J 1,I J b,I J lf,iT tx] 184)).heap.size):=bR hB B6.o.size;have ag:(a.drew.alloc (iC #[I J 1,I J b,I J lf,iT tx] 184)).heap.size=a.heap.size+1:=(show(a.drew.alloc (iC #[I J 1,I J b,I J lf,iT tx] 184)).heap.size=a.drew.heap.size+1 by simp)
  have z:ah (∀x,x<a.heap.size->x<(a.drew.alloc (iC #[I J 1,I J b,I J lf,iT tx] 184)).heap.size):=λx hx=>by rw[ag];omega
  have ao:=af (iq HO.o);have ay:w.heap.size+1+1<c.heap.size:=D;clear CD P b5 bb fo k0 c0 c1 c2 c3 T3 F3 Z3 B3;go_upto_region 7 with fail
  clear aw;refine kJ (λw'=>(w'.cell? ⟨g.heap.size,0,O⟩=X (Y f cs.length d))/\w'.cell? ⟨c.heap.size,0,O⟩=X (I J 1)/\w'.cell? ⟨c.heap.size,1,O⟩=X (I J b)/\w'.cell? ⟨c.heap.size,2,O⟩=X (I J lf)/\w'.cell? ⟨c.heap.size,3,O⟩=X (iT tx)) (by kernel_rfl) SD (λhHeld=>?_)
  simp only[aR,cU,Nat.reduceAdd];refine au 0 ?_;refine au 1 ?_;refine au 2 ?_;refine au 5 ?_;refine ch 3 rfl (by kernel_rfl) (λK H=>?_)
  go_simp;refine H.out _ _ SE (λhHeld2=>?_)
  clear H K hHeld;have hHeld:=hHeld2;clear hHeld2
  (try simp only[Act.put,bJ,bE,bp])
  refine ch 4 rfl (by kernel_rfl) (λK H=>?_)
  refine kT _ (by rfl) (.tmp 47) (.tmp 49) 62 (by rfl) B 184 i0 (iA #[I J 0,I J 0,I J 0,iT ⟨#[]⟩]) 4 40 Tryz.underlying62 I0.o I1.o I2.o I3.o rfl (by decide) _ l.length (cT l) (by simp[Act.eval]) OW.o ⟨a.heap.size,0,O⟩ 1 1 [I J 1,I J b,I J lf,iT tx] (by simp[Act.eval]) rfl HN.o (WL _ _ _ _) (by unfold maxLen;omega) (by omega) ad.o ?_
  intro u7 n o7 Q;have C:∀x,w.heap.size<=x->X x≠u.ownBlock:=λx hx e=>by have:=(ao.o x e.symm).2;omega
  have N7:=af ((Q.block _ (z.o _ (by omega)) (C g.heap.size (by omega))).trans N6.o)
  have T7:=af ((Q.block _ (z.o _ (by omega)) (C c.heap.size (by omega))).trans T6.o)
  have Z7:=af ((Q.block _ (z.o _ (by omega)) (C (w.heap.size+1+1) (by omega))).trans Z6.o)
  have ab:ah (cu w3.heap.size g.heap.size (Y f cs.length d) cs n):=cu.loc _ _ _ _ _ _ (λx x1 x2=>Q.block x (z.o _ (by omega)) (C x (by omega))) aa.o
  have M:(n.cell? ⟨g.heap.size,0,O⟩=X (Y f cs.length d))/\n.cell? ⟨c.heap.size,0,O⟩=X (I J 1)/\n.cell? ⟨c.heap.size,1,O⟩=X (I J b)/\n.cell? ⟨c.heap.size,2,O⟩=X (I J lf)/\n.cell? ⟨c.heap.size,3,O⟩=X (iT tx):=⟨am _ _ 0 _ _ _ N7.o,am _ _ 0 _ _ _ T7.o,am _ _ 1 _ _ _ T7.o,am _ _ 2 _ _ _ T7.o,am _ _ 3 _ _ _ T7.o⟩;have KK:ah (cG w n (λx=>u.ownBlock≠X x)):=(cG.below B6.o).trans (cG.grown Q (λj e hh=>hh e))
  have aB:a.heap.size<n.heap.size:=gX (show a.heap.size<(a.drew.alloc (iC #[I J 1,I J b,I J lf,iT tx] 184)).heap.size by rw[ag];omega) Q.size
  have O7:=af o7;have z0:=am _ _ 0 _ _ _ Z7.o;have z1:=aL _ _ 0 _ _ Z7.o;clear o7 Q N7 T7 N6 T6 Z6 aa OW B6 HN ad;refine H.out _ _ M (λhHeld2=>?_)
  clear H K hHeld;have hHeld:=hHeld2;clear hHeld2
  (try simp only[Act.put,bJ,bE,bp])
  refine ch 6 rfl (by kernel_rfl) (λK H=>?_)
  go_simp;refine H.out _ _ (by first|go_keep|(refine⟨?_,?_,?_,?_,?_⟩<;>(rw[gP (h:=λe=>by have:=congrArg Addr.block e;simp at this;omega)];first|exact M.1|exact M.2.1|exact M.2.2.1|exact M.2.2.2.1|exact M.2.2.2.2))) (λhHeld2=>?_)
  clear H K hHeld;have hHeld:=hHeld2;clear hHeld2
  (try simp only[Act.put,bJ,bE,bp])
  refine au 7 ?_;refine au 8 ?_;refine jx (by kernel_rfl) ?_
  have RR:ah ((n.setCell ⟨w.heap.size+1+1,0,O⟩ (Y f cs.length d)).heap[w.heap.size+1+1]?=X (iC #[Y f cs.length d] 38 (0,0))):=bC _ _ 0 _ _ _ Z7.o;have FN:ah (zT B q w u (cs,l++[(1,b,lf,tx)],E) (G (iU #[iA #[Y f cs.length d],u7,iB E])) (n.setCell ⟨w.heap.size+1+1,0,O⟩ (Y f cs.length d))):=by
   refine⟨_,_,rfl,jS.of_fla (lo:=w3.heap.size) (hi:=g.heap.size) (cu.loc _ _ _ _ n _ (λx x1 x2=>aU _ _ _ _ (by show x≠w.heap.size+1+1;omega)) ab.o) (by simp[World.setCell];omega) (by omega),?_,Rb KK.o (by omega)⟩
   have h1:=JT (k:=0) (x:=Y f cs.length d) O7.o Z7.o;have h2:cT (l++[((1,b,lf,tx):aM)])=cT l++[I J 1,I J b,I J lf,iT tx]:=by rw[zj];rfl
   show World.ownsRow _ B _ 4 u7 (l++[((1,b,lf,tx):aM)]).length (cT (l++[((1,b,lf,tx):aM)]));rw[h2,aT];exact h1
  clear hHeld SD SE M KK O7 Z7 ab z0 z1;go_wp2;refine aF (Ff rfl _ _ (w.heap.size+1+1) _ rfl RR.o) rfl ?_;rw[HE.o];exact FN.o
def qC(r:Rc):iX:=iA #[I J r.kind,I J r.vol,I J r.arg,I J r.fC]
theorem Kz(k v a c:Int):(Rc.mk k v a c).Right↔(0<=a/\a<=1000000000)/\(k=1/\v=0/\c=0∨(1<=v/\v<=9)/\(k=2/\a<=9/\c=0∨k=3/\a=0/\c=0∨k=4/\a<16/\1<=c/\c<=1000000000∨k=5/\a<16/\c=0)):=Iff.rfl
theorem ym(r:Rc)(w:iW):
 iK Tryz.prog 132 #[qC r] w λe w'=>e=G (iB (@decide r.Right r.decR))/\iL w.heap.size w w':=by
 obtain⟨k,v,a,c⟩:=r;have h:=af (Kz k v a c);have g:=af ((ax w.heap.size w).alloc (ak _) (iC #[I J k,I J v,I J a,I J c] 137));unfold qC;simp only;have f:¬(0<=a/\a<=1000000000)∨(0<=a/\a<=1000000000)/\(k=1/\((v==0)=iV∨(v==0)=iF)∨(k==1)=iF/\(¬(2<=k/\k<=5)∨(2<=k/\k<=5)/\(¬(1<=v/\v<=9)∨(1<=v/\v<=9)/\(k=4/\(¬a<16∨a<16/\(¬(1<=c/\c<=1000000000)∨1<=c/\c<=1000000000))∨(k=2∨k=3∨k=5)/\((c==0)=iV∨(c==0)=iF))))):=by
  simp only[ky,dZ,ne_eq];omega
 rcases f with j|⟨j,⟨rfl,i|i⟩|⟨i,l|⟨l,m|⟨m,⟨rfl,d|⟨d,n|n⟩⟩|⟨rfl|rfl|rfl,d|d⟩⟩⟩⟩⟩
 all_goals
  go_enter Tryz.func132,Tryz.ntmps132
  repeat
   go_wp2_with fail
   first
    |refine(gM _ _ _ iV _ (.inl ⟨by omega,by omega,rfl⟩)).mono ?_
    |refine(gM _ _ _ iF _ (.inr ⟨by omega,rfl⟩)).mono ?_
   rintro e p ⟨rfl,rfl⟩
  go_wp2;go_ret;refine⟨congrArg (λb=>Ending.returned (iB b)) (Av.2 (Iff.trans ?_ (Iff.symm (Iff.trans (@decide_eq_true_iff _ (Rc.decR _)) h.o)))),g.o⟩
  clear h g
  (try simp only[ky,dZ,ne_eq,bW,hI,eq_self,tY,false_iff,true_iff]at*)
  omega
def uS(r:Rc):iX:=letI:=r.decR;if r.Right then iU #[iT (lR r),iB iV]else iU #[iT ⟨#[]⟩,iB iF]
theorem K8(r:Rc)(h:r.Right):(lR r).size<=19:=by
 have e:(lR r).size=(lR r).data.toList.length:=rfl;rw[e,yP];exact(wU r h).2
theorem MO(w e:iW)(a b c d:iX)(f:TypeId)(g:iL (w.alloc (iC #[a,b,c,d] f)).heap.size (w.alloc (iC #[a,b,c,d] f)) e):
 e.cell? ⟨w.heap.size,0,O⟩=X a/\e.cell? ⟨w.heap.size,1,O⟩=X b/\e.cell? ⟨w.heap.size,2,O⟩=X c/\e.cell? ⟨w.heap.size,3,O⟩=X d:=by
 refine⟨?_,?_,?_,?_⟩<;>(rw[g.cell (by simp)];simp)
def n9(w a:iW)(k v x c:Int):Prop:=iL w.heap.size w a/\w.heap.size<a.heap.size/\
 (a.cell? ⟨w.heap.size,0,O⟩=X (I J k)/\a.cell? ⟨w.heap.size,1,O⟩=X (I J v)/\a.cell? ⟨w.heap.size,2,O⟩=X (I J x)/\a.cell? ⟨w.heap.size,3,O⟩=X (I J c))
theorem n9.next{w a b:iW}{k v c:Int}(h:n9 w a k v x c)(d:iL a.heap.size a b):n9 w b k v x c:=
 ⟨h.1.trans (d.mono h.1.size),gX h.2.1 d.size,by rw[d.cell h.2.1,d.cell h.2.1,d.cell h.2.1,d.cell h.2.1];exact h.2.2⟩
theorem n9.drew{w a:iW}{k v c:Int}(h:n9 w a k v x c):n9 w a.drew k v x c:=⟨h.1.drew,h.2.1,h.2.2⟩
theorem WP(r:Rc)(w:iW):
 iK Tryz.prog 116 #[qC r] w λe w'=>e=G (uS r)/\iL w.heap.size w w':=by
 have i:=af ((ax w.heap.size w).alloc (ak _) (iC #[I J r.kind,I J r.vol,I J r.arg,I J r.fC] 137));by_cases h:r.Right
 ·have l:ah (uS r=iU #[iT (lR r),iB iV]):=aj h;have Z:=K8 r h;have m:=af (ym r);have y:=h;obtain⟨r1,r2⟩:=y;have g:ah (lR r=(nA (16*r.kind+r.vol).toNat++eP r.arg.toNat)++eP r.fC.toNat):=rfl;have n:=tL (d:=r.decR) h;obtain⟨k,v,x,c⟩:=r;unfold qC at*;simp only at*;obtain⟨k,rfl,-⟩:=oP (show 0<=k by omega)
  obtain⟨v,rfl,-⟩:=oP (show 0<=v by omega)
  obtain⟨x,rfl,M⟩:=oP (show 0<=x by omega)
  obtain⟨c,rfl,L⟩:=oP (show 0<=c by omega)
  have N:(16*(k:Int)+(v:Int)).toNat=16*k+v:=by omega
  have kb:k<=5:=by omega
  have vb:v<=9:=by omega
  have Y:IntKind.i64.wrap (16*(k:Int))=16*(k:Int):=by rw[cL];omega
  have s:IntKind.i64.wrap (16*(k:Int)+(v:Int))=((16*k+v:Nat):Int):=by rw[cL];omega
  obtain⟨b,t⟩:∃b,b=16*k+v:=⟨_,rfl⟩;rw[N,M,L,<-t]at g;rw[<-t]at s;clear M L N;obtain⟨F,A⟩:∃z,z=nA b:=⟨_,rfl⟩;obtain⟨v1,D⟩:∃z,z=eP x:=⟨_,rfl⟩;obtain⟨v2,E⟩:∃z,z=eP c:=⟨_,rfl⟩;have B:=af (λw=>Gb b (by omega) w)
  have p:=af (λw=>qE x w (by omega))
  have q:=af (λw=>qE c w (by omega))
  change ah (∀w,iK Tryz.prog 123 #[I J x] w λe w'=>e=G (iT (eP x))/\iL w.heap.size w w')at p
  change ah (∀w,iK Tryz.prog 123 #[I J c] w λe w'=>e=G (iT (eP c))/\iL w.heap.size w w')at q
  rw[<-A]at B g;rw[<-D]at p g;rw[<-E]at q g;clear A D E t;obtain⟨pa,j⟩:∃z,z=lR ⟨k,v,x,c⟩:=⟨_,rfl⟩;rw[<-j]at Z g l;clear j h r1 r2 kb vb;obtain⟨P,C⟩:∃u,F++v1=u:=⟨_,rfl⟩;rw[C]at g;have T:P++v2=pa:=g.o.symm;have R:=congrArg ByteArray.size C;have S:=congrArg ByteArray.size T;rw[uB]at R S;have U:ah (¬(9223372036854775807<F.size+v1.size)):=by show¬_;omega
  have V:ah (¬(9223372036854775807<P.size+v2.size)):=by show¬_;omega
  clear R S g;go_enter Tryz.func116,Tryz.ntmps116;go_wp2_with fail;refine(m.o _).mono ?_;rintro e Q ⟨rfl,a⟩;rw[n];obtain⟨W,c1,c2,c3⟩:=MO _ _ _ _ _ _ _ a;have f:ah (n9 w Q k v x c):=⟨i.o.trans (a.mono i.o.size),gX (by simp) a.size,W,c1,c2,c3⟩
  clear a i n m;go_wp2_with fail;have y1:=U.o;have y2:=V.o;go_region_held3 (λw'=>w'.cell? ⟨w.heap.size,0,O⟩=X (I J k)/\w'.cell? ⟨w.heap.size,1,O⟩=X (I J v)/\w'.cell? ⟨w.heap.size,2,O⟩=X (I J x)/\w'.cell? ⟨w.heap.size,3,O⟩=X (I J c)) (first|go_keep|exact f.o.2.2|exact f.o.drew.2.2) (first
   |(go_at_call 122;with_reducible refine dq (B.o _) ?_;rintro e w2 ⟨rfl,H⟩;have f:=af (n9.next (by first|exact f.o|exact f.o.drew) H);clear H)
   |(go_at_call 123;(with_reducible first|refine dq (p.o _) ?_|refine dq (q.o _) ?_);rintro e w3 ⟨rfl,K⟩;have f:=af (n9.next (by first|exact f.o|exact f.o.drew) K);clear K))
  all_goals
   go_wp2;go_ret2;exact⟨by rw[l.o];rfl,f.o.1⟩
 ·have l:ah (uS r=iU #[iT ⟨#[]⟩,iB iF]):=ai h;have m:=af (ym r);have n:=pH (d:=r.decR) h;obtain⟨k,v,x,c⟩:=r;unfold qC at*;simp only at*;clear h;go_enter Tryz.func116,Tryz.ntmps116;go_wp2_with fail;refine(m.o _).mono ?_;rintro e Q ⟨rfl,a⟩;rw[n];go_wp2;go_ret2;exact⟨by rw[l.o];rfl,i.o.trans (a.mono i.o.size)⟩
def mZ(t:Int×Int×Int×Int×Int×ByteArray):List iX:=[I J t.1,I J t.2.1,I J t.2.2.1,I J t.2.2.2.1,I J t.2.2.2.2.1,iT t.2.2.2.2.2]
def jl(l:List (Int×Int×Int×Int×Int×ByteArray)):List iX:=l.flatMap mZ
theorem X9(a b:List (Int×Int×Int×Int×Int×ByteArray)):jl (a++b)=jl a++jl b:=by simp[jl]
theorem L5(t:Int×Int×Int×Int×Int×ByteArray)(l:List (Int×Int×Int×Int×Int×ByteArray)):jl (t::l)=mZ t++jl l:=by simp[jl]
theorem Oj(l:List (Int×Int×Int×Int×Int×ByteArray))(k:Nat)(t:Int×Int×Int×Int×Int×ByteArray)(h:l[k]?=X t)(j:Nat)(v:iX)(b:(mZ t)[j]?=X v):(jl l)[k*6+j]?=X v:=by
 have c:j<6:=(aD.1 b).1
 induction l generalizing k with
 |nil=>simp at h
 |cons a l d=>
  rw[L5];cases k with
  |zero=>
   simp at h;subst h;rw[lz (by show _<6;omega),lq,dK]
   exact b
  |succ k=>
   rw[dz (by show 6<=_;omega),show(k+1)*6+j-(mZ a).length=k*6+j by show _-6=_;omega]
   exact d k (by simpa using h)
theorem Qy:(Tryz.prog.info? 110).map (λi=>(i.zero,i.size,i.bytes))=X (X (iA #[I J 0,I J 0,I J 0,I J 0,I J 0,iT ⟨#[]⟩]),6,56):=by kernel_rfl
def JW:iX->Nat
 |Y _ n _=>n
 |_=>0
theorem Es{W W':iW}{base:Nat}{v:iX}{xs:List iX}(h:W.ownsRow base e size v n xs)(j:∀i,i<W.heap.size->v.ownBlock=X i->W'.heap[i]?=W.heap[i]?):W'.ownsRow base e size v n xs:=by
 obtain⟨h1,f⟩:=h;refine⟨h1,?_⟩;rcases f with h|⟨g,cap,a,rfl,c,b,d⟩
 ·exact .inl h
 ·exact .inr ⟨g,cap,a,rfl,c,by rw[j g (aJ.1 b).1 rfl];exact b,d⟩
theorem dy.off{w:iW}{p:Nat}{i:Int}{v:iX}(h:dy w g t i bad)(f:p≠g):dy (w.setCell ⟨p,k,O⟩ v) g t i bad:=by
 obtain⟨h1,a,b,h4,c,d⟩:=h;have e:∀j,(w.setCell ⟨p,k,O⟩ v).cell? ⟨g,j,O⟩=w.cell? ⟨g,j,O⟩:=λj=>gP _ _ _ _ (λe=>f (by injection e))
 exact⟨by simpa using h1,by rw[e];exact a,by rw[e];exact b,by rw[e];exact h4,by simpa using c,by simpa using d⟩
def RS(w W:iW)(g:Nat)(t:ByteArray)(q:Nat)(bad:Bool)(a:iX)(acc:List Rc):Prop:=
 iL w.heap.size w W/\w.heap.size<=g/\dy W g t q bad/\W.ownsRow w.heap.size 137 4 a acc.length (cj (acc.map Rc.tu))/\a.ownBlock≠X g
variable{acc:List Rc}
theorem RS.moved{w W W':iW}{b:iX}(h:RS w W g t q bad b acc)(m:lg W W' g t q' bad'):RS w W' g t q' bad' b acc:=by
 obtain⟨h1,d,f,h4,a⟩:=h;exact⟨h1.trans (cG.down m.1 h1.size (λi hi=>by omega)),d,m.2,Es h4 (λi hi e=>m.1.2.2.2.2 i hi (λc=>a (c▸e))),a⟩
theorem RS.below{w W W':iW}{a:iX}(h:RS w W g t q bad a acc)(b:iL W.heap.size W W'):RS w W' g t q bad a acc:=
 h.moved ⟨cG.below b,h.2.2.1.below b⟩
theorem RS.set1{w W:iW}{a:iX}(h:RS w W g t q bad a acc):RS w (W.setCell ⟨g,1,O⟩ (I J (q':Nat))) g t q' bad a acc:=
 h.moved (lg.set1 h.2.2.1 (ax _ _))
def RT(w W:iW)(g:Nat)(t:ByteArray)(q:Nat)(bad:Bool)(b:iX)(acc:List Rc)(a:Nat)(cs:Array iX):Prop:=
 RS w W g t q bad b acc/\w.heap.size<=a/\a≠g/\b.ownBlock≠X a/\W.heap[a]?=X (iC cs 137 (0,0))
theorem RT.new{w W:iW}{a:iX}(h:RS w W g t q bad a acc)(cs:Array iX):RT w (W.alloc (iC cs 137)) g t q bad a acc W.heap.size cs:=by
 have b:=h.2.2.2.1.lt;have c:=h.2.2.1.1;refine⟨h.below (aY),h.1.size,by omega,λe=>?_,az W _⟩
 have:=(b _ e).2;omega
theorem RT.moved{w W W':iW}{d:iX}{a:Nat}{cs:Array iX}(h:RT w W g t q bad d acc a cs)(m:lg W W' g t q' bad'):RT w W' g t q' bad' d acc a cs:=by
 obtain⟨h1,e,b,h4,c⟩:=h;exact⟨h1.moved m,e,b,h4,(m.1.2.2.2.2 a (aJ.1 c).1 b).trans c⟩
theorem RT.below{w W W':iW}{c:iX}{a:Nat}{cs:Array iX}(h:RT w W g t q bad c acc a cs)(b:iL W.heap.size W W'):RT w W' g t q bad c acc a cs:=
 h.moved ⟨cG.below b,h.1.2.2.1.below b⟩
theorem RT.set{w W:iW}{d:iX}{a:Nat}{cs:Array iX}(h:RT w W g t q bad d acc a cs)(k:Nat)(v:iX):RT w (W.setCell ⟨a,k,O⟩ v) g t q bad d acc a (cs.setIfInBounds k v):=by
 obtain⟨⟨f,j,l,m,n⟩,b,c,h4,p⟩:=h;exact⟨⟨f.setCell b _,j,l.off c,Es m (λi _ e=>aU _ _ _ _ (λo=>h4 (by subst o;exact e))),n⟩,b,c,h4,bC _ _ _ _ _ _ p⟩
theorem RT.at_{w W:iW}{c:iX}{a:Nat}{cs:Array iX}(h:RT w W g t q bad c acc a cs)(k:Nat)(v:iX)(b:cs[k]?=X v):W.cell? ⟨a,k,O⟩=X v/\W.frozen? ⟨a,k,O⟩=iF:=
 ⟨am _ _ k _ _ _ h.2.2.2.2▸b,aL _ _ k _ _ h.2.2.2.2⟩
theorem RS.grown{w W y:iW}{l u':iX}{a:List Rc}(h:RS w W g t q bad l acc)(c:W.grownBy y l.ownBlock)(r:y.ownsRow w.heap.size 137 4 u' a.length (cj (a.map Rc.tu)))(b:u'.ownBlock=l.ownBlock∨u'.ownBlock=X W.heap.size):RS w y g t q bad u' a:=by
 obtain⟨h1,o,⟨d,c1,c2,c3,m,n⟩,h4,i⟩:=h;have e:∀j,y.cell? ⟨g,j,O⟩=W.cell? ⟨g,j,O⟩:=λj=>c.cell_far _ d (λe=>i e.symm)
 have f:∀j,y.frozen? ⟨g,j,O⟩=W.frozen? ⟨g,j,O⟩:=λj=>c.frozen_far _ d (λe=>i e.symm)
 refine⟨h1.grown c h1.size (λk p=>(h4.lt k p).1),o,⟨gX d c.size,by rw[e];exact c1,by rw[e];exact c2,by rw[e];exact c3,by rw[f];exact m,by rw[f];exact n⟩,r,λe=>?_⟩
 rcases b with b|b
 ·exact i (b▸e)
 ·rw[b]at e;have:W.heap.size=g:=by injection e
  omega
theorem He{w W:iW}(b:iL w.heap.size w W)(n:Nat)(a:W.heap.size=n):(W.alloc (iC #[] 137)).ownsRow w.heap.size 137 4 (Y (X ⟨n,0,O⟩) 0 0) ([]:List Rc).length (cj (([]:List Rc).map Rc.tu))/\iL w.heap.size w (W.alloc (iC #[] 137)):=by
 subst a;exact⟨⟨rfl,.inr ⟨W.heap.size,0,#[],rfl,b.size,az W _,ak _,by unfold maxLen;omega,rfl,rfl⟩⟩,b.alloc b.size _⟩
theorem Wk(W:iW)(r:Rc)(g:Nat)(b:W.heap.size=g):∀(j:Nat) (u:iX),[I J r.kind,I J r.vol,I J r.arg,I J r.fC][j]?=X u->(W.alloc (iC #[I J r.kind,I J r.vol,I J r.arg,I J r.fC] 137)).cell? ((⟨g,0,O⟩:Addr).add j)=X u:=by
 intro j u a;subst b
 match j,a with
 |0,a|1,a|2,a|3,a=>
  simp at a;subst a;simp[Addr.add]
theorem OP(r:Rc):∀u∈ [I J r.kind,I J r.vol,I J r.arg,I J r.fC],u.oneCell'=iV:=by
 intro u a;simp at a;rcases a with h|h|h|h<;>subst h<;>rfl
theorem Vj(acc:List Rc)(r:Rc):cj (acc.map Rc.tu)++[I J r.kind,I J r.vol,I J r.arg,I J r.fC]=cj ((acc++[r]).map Rc.tu):=by
 rw[dB,Er];rfl
def Vn(w:iW)(t:ByteArray)(e:Ending)(w':iW):Prop:=
 ∃a acc ok,e=G (iU #[a,iB ok])/\w'.ownsRow w.heap.size 137 4 a acc.length (cj (acc.map Rc.tu))/\iL w.heap.size w w'/\(fR t.data.toList 0=O/\ok=iF/\acc=[]∨fR t.data.toList 0=X acc/\ok=iV)
theorem Zm(t:ByteArray)(w:iW)(hs:t.size<=1048576):
 iK Tryz.prog 131 #[iT t] w (Vn w t):=by
 have R0:ah (RS w ((w.alloc (iC #[] 137)).alloc (iC #[iT t,I J 0,iB iF] 154)) (w.heap.size+1) t 0 iF (Y (X ⟨w.heap.size,0,O⟩) 0 0) []):=by
  have hz:(w.alloc (iC #[] 137)).heap.size=w.heap.size+1:=by simp
  have h1:=az (w.alloc (iC #[] 137)) (iC #[iT t,I J 0,iB iF] 154);have h0:=(gU (w.alloc (iC #[] 137)) (iC #[iT t,I J 0,iB iF] 154) w.heap.size (by simp)).trans (az w (iC #[] 137))
  rw[hz]at h1;refine⟨(aY).alloc (by simp) _,by omega,⟨by simp,am _ _ 0 _ _ _ h1,am _ _ 1 _ _ _ h1,am _ _ 2 _ _ _ h1,aL _ _ 1 _ _ h1,aL _ _ 2 _ _ h1⟩,⟨rfl,.inr ⟨w.heap.size,0,#[],rfl,ak _,h0,ak _,by unfold maxLen;omega,rfl,rfl⟩⟩,?_⟩
  intro e;have e2:w.heap.size=w.heap.size+1:=by injection e
  omega
 go_enter Tryz.func131,Tryz.ntmps131;go_wp2;generalize(w.alloc (iC #[] 137)).alloc (iC #[iT t,I J 0,iB iF] 154)=wa at R0⊢;go_loopw [4] (λuv wr=>∃(q ug uc:Nat) (acc:List Rc),uv=Y (X ⟨ug,0,O⟩) acc.length uc/\acc.length<=q/\q<=t.size/\ah (RS w wr (w.heap.size+1) t q iF (Y (X ⟨ug,0,O⟩) acc.length uc) acc)/\ah (fR t.data.toList 0=(fR t.data.toList q).map (acc++·))) (λuv _=>t.size+1-JW uv)
 case atStart=>exact⟨0,w.heap.size,0,[],rfl,ak _,aI _,R0,by show _=Option.map _ _;cases fR t.data.toList 0<;>simp⟩
 case round=>
  obtain⟨q,ug,uc,acc,rfl,ha,hq,R,E⟩:=hrel;clear R0;obtain⟨-,c0,c1,c2,f1,f2⟩:=R.o.2.2.1;by_cases aq:(q:Int)<t.size
  ·obtain⟨c,r⟩:=an (t[q].toNat:Nat);have ae:c<256:=by rw[<-r];exact Ay _
   have n:t.data.toList[q]?=X t[q]:=aD.2 ⟨by simpa using(show q<t.size by omega),rfl⟩
   obtain⟨k,hk⟩:∃k,k=c/16:=⟨_,rfl⟩;obtain⟨v,hv⟩:∃v,v=c % 16:=⟨_,rfl⟩;have ek:(c:Int).tdiv 16=(k:Int):=by rw[hk];rfl
   have ev:(c:Int).tmod 16=(v:Int):=by rw[hv];rfl
   have aa:(c:Int)/16=(k:Int):=by omega
   have ab:(c:Int) % 16=(v:Int):=by omega
   have av:k<16:=by omega
   have aw:v<16:=by omega
   have HK:ah (k=c/16):=hk;have HV:ah (v=c % 16):=hv;have G:ah (∃b:UInt8,t.data.toList[q]?=X b/\b.toNat=c):=⟨_,n,r⟩;clear hk hv n;obtain⟨B,j⟩:=an (q+1);obtain⟨f,A,x,e1⟩:∃f A x,fT t.data.toList B iF=(f,A,x):=⟨_,_,_,rfl⟩;obtain⟨d,l,L,e2⟩:∃d l L,fT t.data.toList A x=(d,l,L):=⟨_,_,_,rfl⟩;have R1:=af (R.o.set1 (q':=B));have V1:=af (λW g (h:dy W g t (B:Nat) iF)=>sm t B iF g W hs h f A x e1)
   have V2:=af (λW g (h:dy W g t (A:Nat) x)=>sm t A x g W hs h d l L e2)
   have E1:=af e1;have E2:=af e2;clear e1 e2;go_wp2_with fail;have cr:((q:Int)+1)=(B:Int):=by omega
   rw[cr];have HQ:=af j;clear j c0 c1 c2 f1 f2 r ae ek ev aa ab cr;generalize wr.setCell ⟨w.heap.size+1,1,O⟩ (I J (B:Int))=C at R1⊢;refine(V1.o _ _ R1.o.2.2.1).mono ?_;rintro e D ⟨rfl,m2⟩;have R2:=af (R1.o.moved m2);have H:=af (RT.new R2.o #[I J k,I J v,I J f,I J 0]);obtain⟨sc,s⟩:=an D.heap.size;rw[s]at H;clear m2 R1;go_wp2_with fail;try rw[s]
   generalize D.alloc (iC #[I J k,I J v,I J f,I J 0] 137)=x3 at H⊢;refine(V2.o _ _ H.o.1.2.2.1).mono ?_;rintro e x4 ⟨rfl,m4⟩;have T4:=af (H.o.moved m4);have i:=af (T4.o.set 3 (I J d));change ah (RT w _ _ t l L _ acc sc #[I J k,I J v,I J f,I J d])at i;clear m4 H R2 s V1 V2;obtain⟨a3,b3⟩:=T4.o.at_ 3 _ rfl;obtain⟨-,-,-,p2,-,-⟩:=i.o.1.2.2.1;obtain⟨r0,-⟩:=i.o.at_ 0 _ rfl;obtain⟨r1,-⟩:=i.o.at_ 1 _ rfl;obtain⟨r2,-⟩:=i.o.at_ 2 _ rfl;obtain⟨r3,-⟩:=i.o.at_ 3 _ rfl;cases L with
   |true=>
    have m:ah (fR t.data.toList q=O):=by
     obtain⟨b,n,-⟩:=G.o;refine yz (aD.1 n).1 ?_;cases a:kE t.data.toList q with
     |none=>rfl
     |some y=>
      obtain⟨rr,jj⟩:=y;obtain⟨b',a',i',c',-,h1,h2,-,-⟩:=Ez a;have C:=E1.o;rw[<-HQ.o]at C;simp only[fT,h1]at C;injection C with C D
      injection D with D x3
      subst C D x3;have x4:=E2.o;simp[fT,h2]at x4
    have F:=af (He i.o.1.1 x4.heap.size (by simp[World.setCell]))
    go_wp2_with fail;go_ret2;exact⟨_,[],iF,rfl,F.o.1,F.o.2,.inl ⟨by rw[E.o,m.o];rfl,rfl,rfl⟩⟩
   |false=>
    obtain⟨ac,N⟩:=jh E2.o;subst ac;obtain⟨-,M⟩:=jh E1.o;have HR:ah (kE t.data.toList q=letI:=(Rc.mk k v f d).decR;if (Rc.mk k v f d).Right then X (Rc.mk k v f d,l)else O):=by
     obtain⟨b,n,ad⟩:=G.o;show _=_;have j:=HQ.o;subst j;unfold kE;simp only[n,M,N];rw[ad,<-HK.o,<-HV.o]
    have HL:ah (q<t.data.toList.length):=by
     obtain⟨b,n,-⟩:=G.o;exact(aD.1 n).1
    clear N M E1 E2;have p:=af (ym (Rc.mk k v f d));unfold qC at p;simp only at p;by_cases z:(Rc.mk k v f d).Right
    ·have a:=HR.o;rw[aj z]at a;obtain⟨-,-,au,Q,-⟩:=wI a;have S:l<=t.size:=Q;have E':ah (fR t.data.toList 0=(fR t.data.toList l).map ((acc++[Rc.mk k v f d])++·)):=by
      show _=_;rw[E.o,wQ a];cases fR t.data.toList l<;>simp
     rw[tL z]at p;clear z a HR E Q HK HV G;go_wp2_with fail;clear a3 b3;generalize x4.setCell ⟨sc,3,O⟩ (I J (d:Int))=x5 at i p2 r0 r1 r2 r3⊢;refine(p.o _).mono ?_;rintro e x6 ⟨rfl,b6⟩;have u:=af (i.o.below b6);clear b6 i T4 p2 r0 r1 r2 r3 p;obtain⟨r0,-⟩:=u.o.at_ 0 _ rfl;obtain⟨r1,-⟩:=u.o.at_ 1 _ rfl;obtain⟨r2,-⟩:=u.o.at_ 2 _ rfl;obtain⟨r3,-⟩:=u.o.at_ 3 _ rfl;have R6:=af (u.o.1.below ((ax _ _).alloc (ak _) (iC #[I J k,I J v,I J f,I J d] 137)));have m:=af (Wk x6 (Rc.mk k v f d) x6.heap.size rfl);have HO:=af (OP (Rc.mk k v f d));have HZ:=af R6.o.1.size;have OW:=af R6.o.2.2.2.1;clear u;obtain⟨i0,P,U,V,Z⟩:=bK Ae;have I0:=af P;have Z0:=af U;have Z1:=af V;have Z2:=af Z;clear P U V Z;go_wp2_with (at_builtin;refine wpList_append_own_at _ rfl _ _ 94 rfl w.heap.size 137 i0 (iA #[I J 0,I J 0,I J 0,I J 0]) 4 32 Tryz.underlying94 I0.o Z0.o Z1.o Z2.o rfl (by decide) _ acc.length (cj (acc.map Rc.tu)) rfl OW.o ⟨x6.heap.size,0,O⟩ 1 1 [I J k,I J v,I J f,I J d] rfl rfl m.o HO.o ?m1 ?m2 HZ.o ?_)
     case m1=>unfold maxLen;omega
     case m2=>omega
     intro u' y T hg _ hw;have es:=Vj acc (Rc.mk k v f d);simp only at es;rw[es,show acc.length+1=(acc++[Rc.mk k v f d]).length by simp]at T
     have RN:=af (R6.o.grown hg T (by simpa using hw))
     have ag:(acc++[Rc.mk k v f d]).length=acc.length+1:=by simp
     generalize acc++[Rc.mk k v f d]=K at RN ag T E';rcases T.2 with⟨-,h0⟩|⟨ao,al,ap,rfl,-,-,-,-,-,-⟩
     ·omega
     clear T hg hw m HO HZ OW r0 r1 r2 r3 es I0 Z0 Z1 Z2 R6 HL;go_wp2;go_roundw
     case rel=>exact⟨l,ao,al,K,rfl,by omega,S,RN,E'⟩
     case measure=>simp[JW];omega
    ·have a:=HR.o;rw[ai z]at a;have m:ah (fR t.data.toList q=O):=yz HL.o a;rw[pH z]at p;clear z a HR HL HK HV G;go_wp2_with fail;clear a3 b3;generalize x4.setCell ⟨sc,3,O⟩ (I J (d:Int))=x5 at i p2 r0 r1 r2 r3⊢;refine(p.o _).mono ?_;rintro e x6 ⟨rfl,b6⟩;have F:=af (He (i.o.below b6).1.1 x6.heap.size rfl);go_wp2_with fail;go_ret2;exact⟨_,[],iF,rfl,F.o.1,F.o.2,.inl ⟨by rw[E.o,m.o];rfl,rfl,rfl⟩⟩
  ·have ar:q=t.size:=by omega
   have m:ah (fR t.data.toList q=X []):=DH (show t.size<=q by omega)
   go_wp2_with fail;go_ret2;exact⟨_,acc,iV,rfl,R.o.2.2.2.1,R.o.1,.inr ⟨by rw[E.o,m.o];simp,rfl⟩⟩
def Words.Pg.tu(p:Pg):Int×Int×Int×Int×Int×ByteArray:=(p.kind,p.seq,p.tx,p.part,p.count,p.text)
def XM(w:iW)(Q:List Pg)(ok:Bool)(e:Ending)(w':iW):Prop:=
 ∃a,e=G (iU #[a,iB ok])/\w'.ownsRow w.heap.size 110 6 a Q.length (jl (Q.map Pg.tu))/\iL w.heap.size w w'
def nS(gs:List (List Rc)):List iX:=gs.map (λg=>iT (d8 g))
theorem Sc(gs:List (List Rc))(g:List Rc):nS gs++[iT (d8 g)]=nS (gs++[g]):=by simp[nS]
theorem Wg(gs:List (List Rc))(g a:List Rc)(m:Nat)(b:gs.length=m):(nS (gs++[g])).set m (iT (d8 a))=nS (gs++[a]):=by
 subst b;simp[nS,List.set_append_right]
def TS(w W:iW)(a:iX)(gs:List (List Rc)):Prop:=
 iL w.heap.size w W/\W.heap[w.heap.size]?=X (iC #[] 110 (0,0))/\W.ownsRow (w.heap.size+1) 9 1 a gs.length (nS gs)
variable{gs:List (List Rc)}
theorem TS.below{w W W':iW}{a:iX}(h:TS w W a gs)(b:iL W.heap.size W W'):TS w W' a gs:=
 ⟨h.1.trans (b.mono h.1.size),(b.block _ (aJ.1 h.2.1).1).trans h.2.1,bu h.2.2 b⟩
theorem TS.start(w:iW):TS w ((w.alloc (iC #[] 110)).alloc (iC #[iT ⟨#[]⟩] 9)) (Y (X ⟨w.heap.size+1,0,O⟩) 1 1) [[]]:=by
 have a:(w.alloc (iC #[] 110)).heap.size=w.heap.size+1:=by simp
 have h1:=az (w.alloc (iC #[] 110)) (iC #[iT ⟨#[]⟩] 9);rw[a]at h1;refine⟨(aY).alloc (by simp) _,?_,rfl,.inr ⟨w.heap.size+1,1,#[iT ⟨#[]⟩],rfl,ak _,h1,ak _,by unfold maxLen;omega,rfl,rfl⟩⟩
 exact(gU (w.alloc (iC #[] 110)) (iC #[iT ⟨#[]⟩] 9) w.heap.size (by simp)).trans (az w (iC #[] 110))
theorem TS.grown{w W y:iW}{g u':iX}{a:List (List Rc)}(h:TS w W g gs)(f:W.grownBy y g.ownBlock)(j:y.ownsRow (w.heap.size+1) 9 1 u' a.length (nS a)):TS w y u' a:=by
 obtain⟨h1,c,d⟩:=h;have b:=(aJ.1 c).1;refine⟨h1.grown f h1.size (λk i=>wm (d.lt k i).1),?_,j⟩
 refine(f.block _ b (λe=>?_)).trans c
 have:=(d.lt _ e.symm).1;omega
theorem TS.none{w W:iW}{a:iX}(h:TS w W a gs):W.ownsRow w.heap.size 110 6 (Y (X ⟨w.heap.size,0,Option.none⟩) 0 0) ([]:List Pg).length (jl (([]:List Pg).map Pg.tu)):=
 ⟨rfl,.inr ⟨w.heap.size,0,#[],rfl,ak _,h.2.1,ak _,by unfold maxLen;omega,rfl,rfl⟩⟩
theorem TS.len{w W:iW}(h:TS w W (Y (X ⟨g,0,Option.none⟩) n c) gs):gs.length=n:=by
 rcases h.2.2.2 with⟨e,-⟩|⟨_,_,_,e,-⟩
 ·simp at e
 ·simp at e;exact e.2.1.symm
theorem TS.at_{w W:iW}(h:TS w W (Y (X ⟨g,0,Option.none⟩) n c) gs){x:List Rc}(a:gs[m]?=X x):W.cell? ⟨g,m,Option.none⟩=X (iT (d8 x)):=by
 have:=h.2.2.cells (g:=g) rfl m (iT (d8 x)) (by simp[nS,a])
 rwa [eX]at this
theorem TS.stored{w W:iW}{x y:List Rc}(h:TS w W (Y (X ⟨g,0,Option.none⟩) n c) (gs++[x]))(e:gs.length=m):TS w (W.setCell ⟨g,m,Option.none⟩ (iT (d8 y))) (Y (X ⟨g,0,Option.none⟩) n c) (gs++[y]):=by
 have b:=h.len;have a:=h.2.2;rw[b]at a;obtain⟨h4,d⟩:=a.stored m (iT (d8 y));rw[Wg gs x y m e]at h4;refine TS.grown h d ?_;rw[show(gs++[y]).length=n by simpa using b]
 exact h4
theorem UN:(Tryz.prog.info? 9).map (λi=>(i.zero,i.size,i.bytes))=X (X (iT ⟨#[]⟩),1,16):=by kernel_rfl
theorem zQ(x:ByteArray):∀u∈ [iT x],u.oneCell'=iV:=by
 intro u a;simp at a;subst a;rfl
def nL(w W:iW)(b:iX)(gs:List (List Rc))(a:iX)(Q:List Pg):Prop:=
 TS w W b gs/\W.ownsRow (w.heap.size+1) 110 6 a Q.length (jl (Q.map Pg.tu))
variable{Q:List Pg}
theorem nL.below{w W W':iW}{c a:iX}(h:nL w W c gs a Q)(b:iL W.heap.size W W'):nL w W' c gs a Q:=
 ⟨h.1.below b,bu h.2 b⟩
theorem nL.grown{w W y:iW}{i n m:iX}{c:List Pg}(h:nL w W i gs n Q)(d:W.grownBy y n.ownBlock)(r:y.ownsRow (w.heap.size+1) 110 6 m c.length (jl (c.map Pg.tu))):nL w y i gs m c:=by
 obtain⟨⟨h1,j,l⟩,h4⟩:=h;have f:=(aJ.1 j).1;refine⟨⟨h1.grown d h1.size (λk q=>wm (h4.lt k q).1),?_,?_⟩,r⟩
 ·refine(d.block _ f (λe=>?_)).trans j
  have:=(h4.lt _ e.symm).1;omega
 ·refine l.kept d ?_;cases g:i.ownBlock with
  |none=>exact .inl rfl
  |some a=>
   refine .inr λe=>?_
   rcases l.2 with⟨rfl,-⟩|⟨g3,c3,o,rfl,-,s,-⟩
   ·cases g
   ·rcases h4.2 with⟨rfl,-⟩|⟨u,t,p,rfl,-,b,-⟩
    ·cases e
    ·simp only[Value.ownBlock,fu]at g e;subst g;subst e;rw[s]at b;injection b with b
     injection b with _ b
     simp at b
theorem nL.start{w W:iW}{a:iX}(h:TS w W a gs):nL w (W.alloc (iC #[] 110)) a gs (Y (X ⟨W.heap.size,0,Option.none⟩) 0 0) []:=
 ⟨h.below (aY),rfl,.inr ⟨W.heap.size,0,#[],rfl,(aJ.1 h.2.1).1,az W _,ak _,by unfold maxLen;omega,rfl,rfl⟩⟩
theorem PG(W:iW)(p:Pg)(g:Nat)(b:W.heap.size=g):∀(j:Nat) (u:iX),(mZ p.tu)[j]?=X u->(W.alloc (iC #[I J p.kind,I J p.seq,I J p.tx,I J p.part,I J p.count,iT p.text] 110)).cell? ((⟨g,0,Option.none⟩:Addr).add j)=X u:=by
 intro j u a;subst b
 match j,a with
 |0,a|1,a|2,a|3,a|4,a|5,a=>
  simp[mZ,Pg.tu]at a;subst a;simp[Addr.add]
theorem VE(p:Pg):∀u∈mZ p.tu,u.oneCell'=iV:=by
 intro u a;simp[mZ]at a;rcases a with h|h|h|h|h|h<;>subst h<;>rfl
theorem Sg(Q:List Pg)(p:Pg):jl (Q.map Pg.tu)++mZ p.tu=jl ((Q++[p]).map Pg.tu):=by
 rw[dB,X9];simp[jl]
theorem WC(seq tx:Int)(ad:Option Addr)(a cap:Nat)(l:List Rc)(w:iW)(hl:a<=33554432)(h:j8 w ad a (l.map Rc.tu)):
 iK Tryz.prog 77 #[I J seq,I J tx,Y ad a cap] w (XM w (jC seq tx l) (@decide (io seq tx l) (mD seq tx l))):=by
 have HR:=af h;have hn:l.length=a:=by have:=h.1;simpa using this
 have HN:=af hn;clear h hn;have T0:ah (TS w ((w.alloc (iC #[] 110)).alloc (iC #[iT ⟨#[]⟩] 9)) (Y (X ⟨w.heap.size+1,0,O⟩) 1 1) (cM (l.take 0))):=TS.start w;go_enter Tryz.func77,Tryz.ntmps77;go_wp2;generalize(w.alloc (iC #[] 110)).alloc (iC #[iT ⟨#[]⟩] 9)=wa at T0⊢;go_loopw [9,10] (λuv S wr=>∃k:Nat,k<=a/\S=I J k/\(∃V m tc:Nat,uv=Y (X ⟨V,0,O⟩) (m+1) tc/\m<=k/\ah (TS w wr (Y (X ⟨V,0,O⟩) (m+1) tc) (cM (l.take k))))/\ah (∀r∈l.take k,r.Right)) (λ_ S _=>a-(intOf S).toNat)
 case atStart=>exact⟨0,aI _,rfl,⟨_,0,_,rfl,ak _,T0⟩,λr R=>by simp at R⟩
 case round=>
  obtain⟨k,hk,rfl,⟨V,m,tc,rfl,aC,T⟩,RR⟩:=hrel;clear T0;by_cases aB:(k:Int)<a
  ·have ar:k<l.length:=by have:=HN.o;omega
   obtain⟨r,hx⟩:∃r,l[k]?=X r:=⟨l[k],ay ar⟩;obtain⟨rb,ro,rfl,-,c0,c1,c2,c3⟩:=(HR.o.below T.o.1).at (k:=k) (t:=r.tu) (by rw[bk,hx];rfl)
   simp only[Rc.tu]at c0 c1 c2 c3;have C:=af (WP r wr);unfold qC at C;have k0:(0:Int)<=k:=by omega
   obtain⟨B,gl,F⟩:∃B gl,pk (l.take k)=(B,gl):=⟨_,_,rfl⟩;have hG:cM (l.take k)=B++[gl]:=by unfold cM;rw[F]
   have hS:pk (l.take (k+1))=pM (B,gl) r:=by rw[Zh hx,F]
   rw[hG]at T;have M:B.length=m:=by have:=T.o.len;simpa using this
   by_cases R:r.Right
   ·have hz:=K8 r R;rw[uS,aj R]at C;have ac:ah (∀x∈l.take (k+1),x.Right):=by
     intro x ao;rw[dF,hx,br]at ao;rcases ao with e|e
     ·exact RR.o x e
     ·simp at e;subst e;exact R
    have ag:(d8 gl).size<=90:=by
     rw[Ht];exact Nb _ RR.o gl (by rw[hG];simp)
    obtain⟨t,G⟩:=an (lR r);rw[G]at C hz;go_wp2_with fail;refine C.o.mono ?_;rintro e c ⟨rfl,b1⟩;have d:=af (T.o.below b1);clear b1 T C c0 c1 c2 c3;have d0:c.cell? ⟨V,m,O⟩=X (iT (d8 gl)):=d.o.at_ (by subst M;simp)
    have em:((m+1:Nat):Int)-1=(m:Int):=by omega
    have m0:(0:Int)<=m:=by omega
    have ae:(dM gl).length+(ie r).length=(d8 gl).size+t.size:=by
     rw[Ht,<-G];congr 1
    by_cases al:(90:Int)<(d8 gl).size+t.size
    ·have n:cM (l.take (k+1))=(B++[gl])++[[r]]:=by
      unfold cM;rw[hS,pM];simp only;rw[aj (by omega)]
     have et:t=d8 [r]:=by rw[WQ,G]
     obtain⟨i0,p,v,z,A⟩:=bK UN;have I0:=af p;have Z0:=af v;have Z1:=af z;have Z2:=af A;have D:=af (d.o.2.2.alloc (iC #[iT t] 9));have W:=af (show w.heap.size+1<=(c.alloc (iC #[iT t] 9)).heap.size by have:=(aJ.1 d.o.2.1).1;simp;omega)
     rw[d.o.len]at D;have H1:=af (nw c (iT t) 9);have H2:=af (zQ t);have TA:=af (d.o.below ((ax _ _).alloc (ak _) (iC #[iT t] 9)));have ab:=af n;have aa:=af et;clear p v z A n et hG hS F hx ae;generalize d8 gl=tl at d0 al ag⊢;go_wp2_with (at_builtin;refine cN _ rfl _ _ 30 rfl (w.heap.size+1) 9 i0 (iT ⟨#[]⟩) 1 16 Tryz.underlying30 I0.o Z0.o Z1.o Z2.o rfl (by decide) _ _ _ rfl D.o ⟨c.heap.size,0,O⟩ 1 1 [iT t] rfl rfl H1.o H2.o ?c1 ?c2 W.o ?_)
     case c1=>unfold maxLen;omega
     case c2=>omega
     intro u' y ho hg _;have s:y.ownsRow (w.heap.size+1) 9 1 u' ((B++[gl])++[[r]]).length (nS ((B++[gl])++[[r]])):=by
      rw[<-Sc,<-aa.o];have:((B++[gl])++[[r]]).length=m+1+1:=by simp[M]
      rw[this];exact ho
     have K:=af (TA.o.grown hg s);rw[<-ab.o]at K;rcases ho.2 with⟨-,h0⟩|⟨aw,av,aA,rfl,-,-,-,-,-,-⟩
     ·omega
     clear ho hg s D W H1 H2 TA I0 Z0 Z1 Z2 ab aa d;go_wp2;go_roundw
     case rel=>exact⟨k+1,by omega,by go_num,⟨aw,m+1,av,rfl,by omega,K⟩,ac⟩
     case measure=>simp[intOf];omega
    ·have n:cM (l.take (k+1))=B++[gl++[r]]:=by
      unfold cM;rw[hS,pM];simp only;rw[ai (by omega)]
     have et:d8 gl++t=d8 (gl++[r]):=by rw[<-Xl,G]
     have K:=af (d.o.stored (y:=gl++[r]) M);rw[<-n,<-et]at K;have f0:c.frozen? ⟨V,m,O⟩=iF:=by
      have h3:=d.o.2.2;rw[d.o.len]at h3;exact h3.frozenAt m
     have Yq:¬(9223372036854775807<(d8 gl).size+t.size):=by omega
     clear n et hG hS F hx ae;generalize d8 gl=tl at d0 al ag K Yq⊢;obtain⟨u,U⟩:=an (tl++t);rw[U]at K;go_wp2;go_roundw
     case rel=>exact⟨k+1,by omega,by go_num,⟨V,m,tc,rfl,by omega,K⟩,ac⟩
     case measure=>simp[intOf];omega
   ·rw[uS,ai R]at C;have b:ah (jC seq tx l=[]/\ @decide (io seq tx l) (mD seq tx l)=iF):=by
     have:¬io seq tx l:=λh=>R (h.1 r (aH hx))
     exact⟨ai this,pH this⟩
    go_wp2_with fail;refine C.o.mono ?_;rintro e c ⟨rfl,b1⟩;have d:=af (T.o.below b1);clear b1 T C c0 c1 c2 c3;go_wp2;go_ret2;rw[b.o.1,b.o.2];exact⟨_,rfl,d.o.none,d.o.1⟩
  ·have au:k=l.length:=by have:=HN.o;omega
   rw[au,oU]at T RR;have N:=T.o.len;by_cases h9:(9:Int)<((m+1:Nat):Int)
   ·have b:ah (jC seq tx l=[]/\ @decide (io seq tx l) (mD seq tx l)=iF):=by
     have:¬io seq tx l:=λh=>by have:=h.2.1;omega
     exact⟨ai this,pH this⟩
    clear N;go_wp2;go_ret2;rw[b.o.1,b.o.2];exact⟨_,rfl,T.o.none,T.o.1⟩
   ·by_cases hq:1<=seq/\seq<=1000000000-((m+1:Nat):Int)+1
    ·by_cases G:1<=tx/\tx<=1000000000
     ·have Q:io seq tx l:=⟨RR.o,by omega,hq.1,by rw[N];exact hq.2,G.1,G.2⟩
      have b:ah (jC seq tx l=co seq tx l/\ @decide (io seq tx l) (mD seq tx l)=iV):=⟨aj Q,tL Q⟩;have HM:=af N;clear N Q;go_wp2_with fail;refine(gM seq 1 _ iV _ (.inl ⟨by omega,by omega,rfl⟩)).mono ?_
      rintro e c ⟨rfl,rfl⟩;go_wp2_with fail;refine(gM tx 1 1000000000 iV _ (.inl ⟨by omega,by omega,rfl⟩)).mono ?_
      rintro e c ⟨rfl,rfl⟩;have P0:=af (nL.start T.o);obtain⟨x0,am⟩:=an c.heap.size;rw[am]at P0;go_wp2_with fail;try rw[am]
      generalize c.alloc (iC #[] 110)=wb at P0⊢;go_loopw [14,15] (λov S wr=>∃j:Nat,j<=m+1/\S=I J j/\ah (nL w wr (Y (X ⟨V,0,O⟩) (m+1) tc) (cM l) ov ((co seq tx l).take j))) (λ_ S _=>m+1-(intOf S).toNat)
      case atStart=>exact⟨0,aI _,rfl,P0⟩
      case round=>
       obtain⟨j,hj,rfl,P⟩:=hrel;clear P0;by_cases az:(j:Int)<((m+1:Nat):Int)
       ·have ap:j<(cM l).length:=by have:=HM.o;omega
        obtain⟨g,L⟩:∃g,(cM l)[j]?=X g:=⟨_,ay ap⟩;have d0:=P.o.1.at_ L;obtain⟨pg,E⟩:∃pg:Pg,pg=⟨2,seq+j,tx,j,((m+1:Nat):Int),d8 g⟩:=⟨_,rfl⟩;have hT:ah ((co seq tx l).take j++[pg]=(co seq tx l).take (j+1)):=by
         show _=_;rw[dF,Ih L,E];simp[qD,HM.o]
        have q:((co seq tx l).take j).length=j:=by rw[dk,xO];omega
        have Z:=af (P.o.below ((ax _ _).alloc (ak _) (iC #[I J 2,I J (seq+j),I J tx,I J j,I J ((m+1:Nat):Int),iT (d8 g)] 110)));have f:=af (PG wr pg wr.heap.size rfl);have i:=af (VE pg);have H:=af (Sg ((co seq tx l).take j) pg);rw[E]at f i;simp only[Pg.tu,mZ]at f i;have D:=af Z.o.2;have W:=af (show w.heap.size+1<=(wr.alloc (iC #[I J 2,I J (seq+j),I J tx,I J j,I J ((m+1:Nat):Int),iT (d8 g)] 110)).heap.size by have:=(aJ.1 Z.o.1.2.1).1;omega)
        rw[q]at D;have HL:=af q;have HP:=af E;obtain⟨i0,p,v,z,A⟩:=bK Qy;have I0:=af p;have Z0:=af v;have Z1:=af z;have Z2:=af A;clear p v z A q E L P;generalize(co seq tx l).take j=Qj at Z H D hT HL;generalize d8 g=tt at d0 Z f i D W HP⊢;have j0:(0:Int)<=j:=by omega
        go_wp2_with (at_builtin;refine cN _ rfl _ _ 146 rfl (w.heap.size+1) 110 i0 (iA #[I J 0,I J 0,I J 0,I J 0,I J 0,iT ⟨#[]⟩]) 6 56 Tryz.underlying146 I0.o Z0.o Z1.o Z2.o rfl (by decide) _ _ _ rfl D.o ⟨wr.heap.size,0,O⟩ 1 1 [I J 2,I J (seq+j),I J tx,I J j,I J ((m+1:Nat):Int),iT tt] rfl rfl f.o i.o ?c1 ?c2 W.o ?_)
        case c1=>unfold maxLen;omega
        case c2=>omega
        intro u' y ho hg _;have s:y.ownsRow (w.heap.size+1) 110 6 u' ((co seq tx l).take (j+1)).length (jl (((co seq tx l).take (j+1)).map Pg.tu)):=by
         rw[<-hT.o,<-H.o,aT,HL.o,HP.o];exact ho
        have PN:=af (Z.o.grown hg s);clear ho hg s D W f i H Z I0 Z0 Z1 Z2 hT HP HL d0;go_wp2;go_roundw
        case rel=>exact⟨j+1,by omega,by go_num,PN⟩
        case measure=>simp[intOf];omega
       ·have aq:j=(co seq tx l).length:=by rw[xO];have:=HM.o;omega
        rw[aq,oU]at P;go_wp2;go_ret2;rw[b.o.1,b.o.2];exact⟨_,rfl,nO P.o.2 (Nat.le_succ _),P.o.1.1⟩
     ·have b:ah (jC seq tx l=[]/\ @decide (io seq tx l) (mD seq tx l)=iF):=by
       have:¬io seq tx l:=λh=>G h.2.2.2.2
       exact⟨ai this,pH this⟩
      clear N;go_wp2_with fail;refine(gM seq 1 _ iV _ (.inl ⟨by omega,by omega,rfl⟩)).mono ?_
      rintro e c ⟨rfl,rfl⟩;go_wp2_with fail;refine(gM tx 1 1000000000 iF _ (.inr ⟨by omega,rfl⟩)).mono ?_
      rintro e c ⟨rfl,rfl⟩;go_wp2;go_ret2;rw[b.o.1,b.o.2];exact⟨_,rfl,T.o.none,T.o.1⟩
    ·have b:ah (jC seq tx l=[]/\ @decide (io seq tx l) (mD seq tx l)=iF):=by
      have:¬io seq tx l:=λh=>hq ⟨h.2.2.1,by have:=h.2.2.2.1;rw[N]at this;exact this⟩
      exact⟨ai this,pH this⟩
     clear N;go_wp2_with fail;refine(gM seq 1 _ iF _ (.inr ⟨by omega,rfl⟩)).mono ?_
     rintro e c ⟨rfl,rfl⟩;go_wp2;go_ret2;rw[b.o.1,b.o.2];exact⟨_,rfl,T.o.none,T.o.1⟩
end Go.Proofs.YtijmbohadndfmaaGreatDoor
