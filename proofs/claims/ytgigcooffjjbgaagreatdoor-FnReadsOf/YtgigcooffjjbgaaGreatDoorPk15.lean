/-
  SPlace; CeSt; StRow; SPut16; SRecOk; SRecText; CePg; SReadRecs; TxRow; STxP
-/
import Derived.Test.YtgigcooffjjbgaaGreatDoorPk14
open Go.Value renaming int→I,slice→Y,string→iT,bool→iB,pointer→iP,agg→iA,tuple→iU
open Go.IntKind renaming i64→J
open Option renaming none→O,some→X
open Go.Ending renaming returned→G
open Go.Obj renaming cells→iC
open Bool renaming true→iV,false→iF
open Go renaming World→iW,Value→iX,Calls→iK
open Go.RowKit renaming Below→iL
set_option maxHeartbeats 2000000
set_option maxRecDepth 100000
namespace Go.Proofs.YtgigcooffjjbgaaGreatDoor
open Go.RowKit
variable{bad bad':Bool}{t:ByteArray}{fn:Func}{c:Int}{k g cap i n q lo B z size q' m:Nat}{ok:Nat -> Prop}{ad:Option Addr}{e:TypeId}
theorem V9{L:List Wb}{b x:Wb}(c:lC (L.take k) b)(d:L[k]?=X x)(a:g9 x b):lC (L.take (k+1)) x:=by
 obtain⟨h1,rfl⟩:=aC.1 d;rw[ft h1];refine⟨wK _ (bU.2 rfl),λy hy=>?_⟩
 rcases bJ.1 hy with hy|hy
 ·exact Qn (c.2 y hy) a
 ·rw[bU]at hy;subst hy;exact wR _
theorem Vu{L:List Wb}{b x:Wb}(c:lC (L.take k) b)(d:L[k]?=X x)(a:¬g9 x b):lC (L.take (k+1)) b:=by
 obtain⟨h1,rfl⟩:=aC.1 d;rw[ft h1];refine⟨sy _ c.1,λy hy=>?_⟩
 rcases bJ.1 hy with hy|hy
 ·exact c.2 y hy
 ·rw[bU]at hy;subst hy;exact a
theorem XC(v:iX)(rs:List Rw)(w:iW)(hl:rs.length<=1048576)(f:∀r∈rs,r.2.2.2.length<=1048576)(ha:eB w v rs):
 iK Tryz.prog 184 #[iA #[v]] w λe w'=>e=G (Cq (fZ (rs.map aw)))/\iL w.heap.size w w':=by
 have ar:=ha;obtain⟨p,a,rfl,-,-⟩:=ar;obtain⟨n,D⟩:=aq rs.length;have b1:=(ax w.heap.size w).alloc (am _) (iC #[Y p n a] 26);have HF:=af ha;have HN:=af D;have ak:=af f;have R1:=af (aB w (iC #[Y p n a] 26));have C1:ah (∀W,iL w.heap.size w W->iK Tryz.prog 137 #[iA #[Y p n a]] W λe w'=>e=G (iB (bp (rs.map aw)))/\iL W.heap.size W w'):=by
  intro W A;have:=wY (Y p rs.length a) rs W hl f (ha.below A);rw[D]at this;exact this
 have C2:ah (∀W,iL w.heap.size w W->iK Tryz.prog 213 #[iA #[Y p n a]] W λe w'=>e=G (I J (hJ (rs.map aw)))/\iL W.heap.size W w'):=by
  intro W A;have:=RK (Y p rs.length a) rs W hl f (ha.below A);rw[D]at this;exact this
 have C3:ah (∀W,iL w.heap.size w W->iK Tryz.prog 214 #[iA #[Y p n a]] W λe w'=>∃u,e=G u/\uW w' W.heap.size u (jA (rs.map aw))/\iL W.heap.size W w'):=by
  intro W A;have:=NI (Y p rs.length a) rs W hl f (ha.below A);rw[D]at this;exact this
 have H:=af b1;rw[D]at hl⊢;clear f ha b1;cases c:bp (rs.map aw)with
 |false=>
  have s:=af (Yd c);rw[c]at C1;clear c D;go_enter Tryz.func184,Tryz.ntmps184;go_wp2_with fail;refine(C1.o _ H.o).mono ?_;rintro e w2 ⟨rfl,Z⟩;have T:=af (H.o.trans (Z.mono H.o.size));clear Z;go_wp2;go_ret3;exact⟨by rw[s.o];rfl,T.o⟩
 |true=>
  have au:=Zf c;rw[bm,D]at au;rw[c]at C1;have L:=af c;clear c D;go_enter Tryz.func184,Tryz.ntmps184;go_wp2_with fail;refine(C1.o _ H.o).mono ?_;rintro e w2 ⟨rfl,Z⟩;have T:=af (H.o.trans (Z.mono H.o.size));have R2:=af ((Z.block _ (aK.1 R1.o).1).trans R1.o);have c2:w2.cell? ⟨w.heap.size,0,O⟩=X (Y p n a):=aj _ _ 0 _ _ _ R2.o;clear Z C1 R1 H;go_wp2_with fail;refine(C2.o _ T.o).mono ?_;rintro e w3 ⟨rfl,b3⟩;have U:=af (T.o.trans (b3.mono T.o.size));have R3:=af ((b3.block _ (aK.1 R2.o).1).trans R2.o);have c3:w3.cell? ⟨w.heap.size,0,O⟩=X (Y p n a):=aj _ _ 0 _ _ _ R3.o;clear b3 C2 R2 T c2;rcases Hi (rs.map aw)with⟨R,-⟩|⟨k,b,R,hb,-,-⟩
  ·rw[R];have HO:=af R;have ac:=af (λ(x:Int) (hx:x∈jA (rs.map aw))=>Cx hx)
   have aa:=af (Pq (rs.map aw) (rs.map aw).length);have B:(jA (rs.map aw)).length<=10:=by
    have:=Wl (rs.map aw) (rs.map aw).length;simp only[jA,bm]at this⊢;have:=HN.o;omega
   clear R;go_wp2_with fail;refine(C3.o _ U.o).mono ?_;rintro e S ⟨u,rfl,hu,b4⟩;have K:=af (U.o.trans (b4.mono U.o.size));have R4:=af ((b4.block _ (aK.1 R3.o).1).trans R3.o);obtain⟨ud,aA,rfl,-,u2,u3⟩:=lM hu;unfold maxLen at u2;have U3:=af u3;have HU:=af hu;obtain⟨F,hF⟩:=aq (jA (rs.map aw));have d:jA (rs.map aw)=[]->fZ (rs.map aw)=(0,0,iF):=λh0=>KG L.o HO.o h0
   have PL:∀r,lC (nB (rs.map aw) F) r->fZ (rs.map aw)=(r.1,0,iV):=λr z=>Hs L.o HO.o (by rw[hF];exact z)
   have M:=af d;have al:=af PL;have ab:ah (F.Pairwise (·<·)):=by rw[<-hF];exact aa.o
   rw[hF]at ac B HU U3 M⊢;obtain⟨m,hm⟩:=aq F.length;have HM:=af hm;rw[hm]at U3 B⊢;clear b4 hu u3 R3 c3 C3 d PL hF aa hm;have c4:S.cell? ⟨w.heap.size,0,O⟩=X (Y p n a):=aj _ _ 0 _ _ _ R4.o;by_cases h0:m=0
   ·subst h0;have s:ah (fZ (rs.map aw)=(0,0,iF)):=M.o (iJ HM.o);clear M;go_wp2;go_ret3;exact⟨by rw[s.o];rfl,K.o⟩
   ·have aI:((m:Int)==0)=iF:=by simp;omega
    have aJ:¬(m:Int)=0:=by omega
    obtain⟨gu,e,g1,g2⟩:=U3.o (by omega)
    subst e;obtain⟨gv,e⟩:=HF.o.head (by have:=HN.o;omega)
    subst e
    -- a free block, as it is read
    have RD:ah (∀(W:iW) (k:Nat),iL S.heap.size S W->k<m->∃(j:Nat) (y:Int),F[k]?=X (j:Int)/\j<n/\(nB (rs.map aw) F)[k]?=X ((j:Int),y)/\tR (rs.map aw) (j:Int)=y/\W.cell? ⟨gu,k,O⟩=X (I J (j:Int))/\W.cell? ⟨gv,j*3+1,O⟩=X (I J y)):=by
     intro W k A hk;obtain⟨x,hx⟩:∃x,F[k]?=X x:=⟨_,ay (by have:=HM.o;omega)⟩
     obtain⟨j,e,hj,b,hb,-⟩:=ac.o x (aL hx);rw[bm]at hj;obtain⟨r,z⟩:∃r,rs[j]?=X r:=⟨_,ay hj⟩;have ag:tR (rs.map aw) (j:Int)=r.2.1:=by unfold tR;rw[bi,bh,z];rfl
     subst e;refine⟨j,r.2.1,hx,by have:=HN.o;omega,by unfold nB;rw[bh,hx,<-ag];rfl,ag,?_,?_⟩
     ·have h1:=(bC HU.o A).cells (g:=gu) rfl k (I J (j:Int)) (by rw[aD];rw[bh,hx];rfl)
      rw[fh]at h1;exact h1
     ·have ao:=K.o.trans (A.mono K.o.size);obtain⟨aE,e,⟨-,c2,-⟩,-⟩:=(HF.o.below ao).at z;injection e with e
      injection e with e
      subst e;exact c2
    obtain⟨j0,y0,e1,e2,e3,e4,e5,e6⟩:=RD.o S 0 (ax _ _) (by omega)
    have L0:ah (lC ((nB (rs.map aw) F).take 1) ((j0:Int),y0)):=by
     have:=ft (l:=nB (rs.map aw) F) (i:=0) (aC.1 e3).1;rw[aC]at e3;rw[show(1:Nat)=0+1 from rfl,this,e3.2];exact⟨by simp,λy hy=>by simp at hy;subst hy;exact wR _⟩
    have E1:=af e1;have E4:=af e4;have E2:=af e2;clear e1 e2 e3 e4 e6;go_wp2;clear e5;go_loopw [7,8] (λbv iv wr=>∃(k j:Nat) (y:Int),iv=I J k/\bv=I J (j:Int)/\1<=k/\k<=m/\ah (∃i,i<k/\F[i]?=X (j:Int))/\ah (j<n)/\ah (tR (rs.map aw) (j:Int)=y)/\ah (lC ((nB (rs.map aw) F).take k) ((j:Int),y))/\ah (iL S.heap.size S wr)) (λ_ iv _=>m-(intOf iv).toNat)
    case atStart=>exact⟨1,j0,y0,rfl,rfl,by omega,by omega,⟨0,by omega,E1.o⟩,E2,E4,L0,ax _ _⟩
    case round=>
     obtain⟨k,j,y,rfl,rfl,aF,hk,HI,HJ,HY,V,HW⟩:=hrel;clear L0 E1 E4 E2;have cf:wr.cell? ⟨w.heap.size,0,O⟩=X (Y (X ⟨gv,0,O⟩) n a):=aj _ _ 0 _ _ _ ((HW.o.block _ (aK.1 R4.o).1).trans R4.o);by_cases aH:(k:Int)<m
     ·obtain⟨j2,y2,f1,f2,f3,f4,f5,f6⟩:=RD.o wr k HW.o (by omega)
      -- the best one, as it is read
      obtain⟨i,av,t⟩:=HI.o;obtain⟨E,y3,g3,g4,g5,g6,g7,g8⟩:=RD.o wr i HW.o (by omega)
      have ad:(j:Int)=E:=by rw[t]at g3;cases g3;rfl
      have ae:E=j:=by omega
      subst ae;have az:y3=y:=by rw[<-g6,HY.o]
      subst az
      -- places ascend
      have C:(E:Int)<j2:=by
       obtain⟨p1,p2⟩:=aC.1 t;obtain⟨p3,p4⟩:=aC.1 f1;have:=pP.1 ab.o i k p1 p3 av;rw[p2,p4]at this;exact this
      have jn:(E:Int)<n:=by omega
      have aM:(j2:Int)<n:=by omega
      have z1:(0:Int)<=E:=by omega
      have z2:(0:Int)<=j2:=by omega
      have z3:(0:Int)<=k:=by omega
      have F1:=af f1;have F2:=af f2;have F4:=af f4;have BD:=af (λq=>bY HW.o q)
      have KI:=af HI.o;by_cases hw:y2<y3
      ·have NL:=af (V9 V.o f3 (show g9 ((j2:Int),y2) ((E:Int),y3)from Or.inl hw));clear f1 f2 f3 f4 g3 g4 g5 g6 g7 HI V HY t C ad;go_wp2;go_quiet (fail);go_wp2;go_roundw
       case rel=>exact⟨k+1,j2,y2,by go_num,rfl,by omega,by omega,⟨k,by omega,F1.o⟩,F2,F4,NL,BD.o _⟩
       case measure=>simp[intOf];omega
      ·have NL:=af (Vu V.o f3 (show¬g9 ((j2:Int),y2) ((E:Int),y3)from λh=>by unfold g9 at h;simp only at h;omega))
       have an:=af HY.o;have ai:=af HJ.o;clear f1 f2 f3 f4 g3 g4 g5 g6 g7 HI V HY HJ t C ad;go_wp2;go_quiet (fail);go_wp2;go_roundw
       case rel=>exact⟨k+1,E,y3,by go_num,rfl,by omega,by omega,(by obtain⟨i,h1,h2⟩:=KI.o;exact⟨i,by omega,h2⟩),ai,an,NL,BD.o _⟩
       case measure=>simp[intOf];omega
     ·have s:ah (fZ (rs.map aw)=((j:Int),0,iV)):=by
       have:=V.o;rw[ci (by simp only[nB,bm];have:=HM.o;omega)]at this
       exact al.o _ this
      have B5:=af (K.o.trans (HW.o.mono K.o.size));clear V HI HY HJ;go_wp2;go_ret3;exact⟨by rw[s.o];rfl,B5.o⟩
  ·rw[R];have aG:k<n:=by have:=(aC.1 hb).1;rw[bm]at this;have:=HN.o;omega
   have s:=af (Hf L.o R hb);obtain⟨r,z⟩:∃r,rs[k]?=X r:=⟨_,ay (by have:=HN.o;omega)⟩
   have ap:b=aw r:=by rw[bh,z]at hb;cases hb;rfl
   subst ap;obtain⟨gv,e,⟨c1,c2,c4⟩,P⟩:=(HF.o.below U.o).at z;subst e;have Q:=ak.o r (aL z);obtain⟨x,y,u,ls⟩:=r;simp only at c1 c2 c4;simp only[aw]at s;simp only at P Q;have C4:=af (Er x y u ls w3 Q P);generalize br ls=N at C4 s;have k0:(0:Int)<=k:=by omega
   have kn:(k:Int)<n:=by omega
   clear R hb z P Q;go_wp2_with fail;refine C4.o.mono ?_;rintro e S ⟨rfl,b4⟩;have K:=af (U.o.trans (b4.mono U.o.size));clear C4 b4;go_wp2;go_ret3;exact⟨by rw[s.o];rfl,K.o⟩
def rT(t:Int×Int×Int×ByteArray):List iX:=[I J t.1,I J t.2.1,I J t.2.2.1,iT t.2.2.2]
def cZ(l:List (Int×Int×Int×ByteArray)):List iX:=l.flatMap rT
theorem aaS(l:List (Int×Int×Int×ByteArray)):(cZ l).length=l.length*4:=by
 induction l with
 |nil=>rfl
 |cons t l a=>simp[cZ,rT]at a⊢;omega
theorem AX(a b:List (Int×Int×Int×ByteArray)):cZ (a++b)=cZ a++cZ b:=by simp[cZ]
theorem Sq(t:Int×Int×Int×ByteArray)(l:List (Int×Int×Int×ByteArray)):cZ (t::l)=rT t++cZ l:=by simp[cZ]
theorem IP(l:List (Int×Int×Int×ByteArray))(k:Nat)(t:Int×Int×Int×ByteArray)(h:l[k]?=X t)(j:Nat)(v:iX)(b:(rT t)[j]?=X v):(cZ l)[k*4+j]?=X v:=by
 have c:j<4:=(aC.1 b).1
 induction l generalizing k with
 |nil=>simp at h
 |cons a l d=>
  rw[Sq];cases k with
  |zero=>
   simp at h;subst h;rw[ip (by show _<4;omega),nj,eC]
   exact b
  |succ k=>
   rw[cu (by show 4<=_;omega),show(k+1)*4+j-(rT a).length=k*4+j by show _-4=_;omega]
   exact d k (by simpa using h)
theorem aa3(l:List (Int×Int×Int×ByteArray)):∀v∈cZ l,v.oneCell'=iV:=by
 intro v b;obtain⟨t,-,a⟩:=mi.1 b;simp[rT]at a;rcases a with h|h|h|h<;>subst h<;>rfl
theorem Dn:(Tryz.prog.info? 254).map (λi=>(i.zero,i.size,i.bytes))=X (X (iA #[I J 0,I J 0,I J 0,iT ⟨#[]⟩]),4,40):=by kernel_rfl
def uz(w:iW)(g o:Nat)(s:aM):Prop:=w.cell? ⟨g,o,O⟩=X (I J s.1)/\w.cell? ⟨g,o+1,O⟩=X (I J s.2.1)/\w.cell? ⟨g,o+2,O⟩=X (I J s.2.2.1)/\w.cell? ⟨g,o+3,O⟩=X (iT s.2.2.2)
def nR(w:iW)(u:iX)(l:List aM):Prop:=
 ∃ad cap,u=Y ad l.length cap/\l.length<=cap/\cap<=9223372036854775807/\(ad=O->cap=0)/\∀i s,l[i]?=X s->∃g o,ad=X ⟨g,o,O⟩/\uz w g (o+i*4) s
theorem uz.below{w w':iW}{o:Nat}{s:aM}(h:uz w g o s)(a:iL w.heap.size w w'):uz w' g o s:=by
 obtain⟨c1,c2,c3,b⟩:=h;exact⟨(a.cell (bk w _ c1)).trans c1,(a.cell (bk w _ c2)).trans c2,(a.cell (bk w _ c3)).trans c3,(a.cell (bk w _ b)).trans b⟩
theorem nR.below{w w':iW}{u:iX}{l:List aM}(h:nR w u l)(d:iL w.heap.size w w'):nR w' u l:=by
 obtain⟨ad,cap,e,h1,b,c,h⟩:=h;refine⟨ad,cap,e,h1,b,c,λi s hs=>?_⟩
 obtain⟨g,o,a,h4⟩:=h i s hs;exact⟨g,o,a,h4.below d⟩
theorem nR.form{w:iW}{u:iX}{l:List aM}(h:nR w u l):∃ad cap,u=Y ad l.length cap/\l.length<=cap/\cap<=9223372036854775807/\(ad=O->cap=0):=by
 obtain⟨ad,cap,e,h1,a,b,h⟩:=h;exact⟨ad,cap,e,h1,a,b⟩
theorem nR.at{w:iW}{l:List aM}{s:aM}(h:nR w (Y ad n cap) l)(hs:l[i]?=X s):∃g o,ad=X ⟨g,o,O⟩/\uz w g (o+i*4) s:=by
 obtain⟨b,a,e,h1,c,d,h⟩:=h;injection e with e1 e2 e3
 subst e1;exact h i s hs
open Words Sums
def kD(q:Nat)(W:iW)(v:iX)(bs:List Bk):Prop:=∀W':iW,W.heap.size<=W'.heap.size->(∀x,x≠q->x<W.heap.size->W'.heap[x]?=W.heap[x]?)->fu W' v bs
variable{bs:List Bk}
theorem kD.rdb{W:iW}{v:iX}(h:kD q W v bs):fu W v bs:=h W (am _) (λ_ _ _=>rfl)
theorem kD.keep{W W':iW}{v:iX}(h:kD q W v bs)(e:W.heap.size<=W'.heap.size)(c:∀x,x≠q->x<W.heap.size->W'.heap[x]?=W.heap[x]?):kD q W' v bs:=
 λV h1 b=>h V (by omega) (λx a d=>(b x a (by omega)).trans (c x a d))
theorem YC{w W:iW}{v:iX}(h:fu w v bs)(q:∀x,x<w.heap.size->W.heap[x]?=w.heap[x]?):fu W v bs:=by
 have a:∀(g o:Nat) (x:iX),w.cell? ⟨g,o,O⟩=X x->W.cell? ⟨g,o,O⟩=X x:=λg o x d=>(zD (q g (bk w _ d))).trans d
 obtain⟨rs,e,A,b,rfl,p,h⟩:=h;refine⟨rs,e,A,b,rfl,p,λk r u=>?_⟩
 obtain⟨g,l,⟨c1,c2,c3⟩,z,lc,m,c,s⟩:=h k r u;refine⟨g,l,⟨a _ _ _ c1,a _ _ _ c2,a _ _ _ c3⟩,z,lc,m,c,λj t y=>?_⟩
 obtain⟨gl,o,n,f,i⟩:=s j t y;exact⟨gl,o,n,a _ _ _ f,a _ _ _ i⟩
theorem kD.of_rdb{w W:iW}{v:iX}(h:fu w v bs)(a:iL w.heap.size w W)(d:w.heap.size<=q):kD q W v bs:=
 λV h1 b=>YC h (λx c=>(b x (by omega) (by have:=a.size;omega)).trans (a.block x c))
theorem kD.of_fla{hi:Nat}{W:iW}{v:iX}(h:cE lo hi v bs W)(b:hi<=W.heap.size)(c:q<lo):kD q W v bs:=
 λV h1 a=>(cE.loc lo hi v bs W V (λx d e=>a x (by omega) (by omega)) h).rdb
theorem JY{W:iW}{u x:iX}{xs:List iX}{c:Array iX}(h:W.ownsRow B 254 4 u n xs)(i:W.heap[z]?=X (iC c 26 (0,0))):(W.setCell ⟨z,k,O⟩ x).ownsRow B 254 4 u n xs:=by
 obtain⟨h0,h⟩:=h;refine⟨h0,?_⟩;rcases h with h|⟨g,cap,b,e,h1,d,f⟩
 ·exact .inl h
 ·refine .inr ⟨g,cap,b,e,h1,(aO _ _ _ _ (λa=>?_)).trans d,f⟩
  simp only at a;subst a;rw[i]at d;simp at d
theorem WU{w x:iW}{o:Nat}{u:iX}(h:aR w x ok)(b:w.heap.size<=g):aR w (x.setCell ⟨g,o,O⟩ u) ok:=
 ⟨h.1,h.2.1,h.2.2.1,by simpa[World.setCell]using h.2.2.2.1,λi hi a=>(aO _ _ _ _ (by show i≠g;omega)).trans (h.2.2.2.2 i hi a)⟩
theorem Wi(v:iX)(bs:List Bk)(w:iW)(hs:dg bs)(a:fu w v bs):
 iK Tryz.prog 184 #[iA #[v]] w λe w'=>e=G (Cq (fZ bs))/\iL w.heap.size w w':=by
 obtain⟨rs,rfl,h,l,b,c⟩:=a.lens hs;exact XC v rs w l b h
theorem Ud(p:Pg):qr p=iU #[iT (lp p).1,iB (lp p).2]:=by
 unfold qr lp;split<;>rfl
theorem abT:(Tryz.prog.info? 26).map (·.size)=X 1:=by kernel_rfl
theorem GU {p q r:Tmp} (h:fn.results= #[.cell p 26,.tmp q,.tmp r]) (a:Array iX) (w:iW) (g:Nat) (v:iX)
 (e:a.getD p undef=iP (X ⟨g,0,O⟩)) (c:w.heap[g]?=X (iC #[v] 26 (0,0))):
 (results fn a).run Tryz.prog w=.ok (iU #[iA #[v],a.getD q undef,a.getD r undef]) w:=by
 have b:a[p]?.getD undef=iP (X ⟨g,0,O⟩):=by simpa using e
 have d:=lL (P:=Tryz.prog) w g 26 26 #[v] (0,0) _ c Tryz.underlying26 rfl abT;simp[results,h,b,asAddr,d]
theorem ZI(k b lf:Int)(t:ByteArray):∀u∈ [I J k,I J b,I J lf,iT t],u.oneCell'=iV:=by
 intro u a;simp only[be,eI,eX]at a;rcases a with rfl|rfl|rfl|rfl<;>rfl
theorem aax(w:iW)(cs:Array iX)(t:TypeId)(g:Nat)(a:w.heap.size=g):∀(j:Nat) (u:iX),cs.toList[j]?=X u->(w.alloc (iC cs t)).cell? ((⟨g,0,O⟩:Addr).add j)=X u:=by
 intro j u b;subst a;rw[fh];exact aj _ _ j _ _ _ (aB w (iC cs t))|>.trans (by simpa using b)
def CH(B q:Nat)(w:iW)(u:iX)(r:List Bk×List aM×Bool)(e:Ending)(w':iW):Prop:=
 ∃a u',e=G (iU #[iA #[a],u',iB r.2.2])/\kD q w' a r.1/\w'.ownsRow B 254 4 u' r.2.1.length (cZ r.2.1)/\aR w w' (λx=>u.ownBlock≠X x)
theorem zW(v u:iX)(bs:List Bk)(l:List aM)(p:Pg)(B q:Nat)(w:iW)(hs:dg bs)(hl:l.length<=1000000000000)(ha:kD q w v bs)(ho:w.ownsRow B 254 4 u l.length (cZ l))(hB:B<=w.heap.size)(hq:q<w.heap.size):
 iK Tryz.prog 145 #[iA #[v],u,dJ p] w (CH B q w u (cM bs l p)):=by
 obtain⟨m,i,rfl⟩:=ha.rdb.form;obtain⟨i0,ae,al,am,D⟩:=bO Dn;have I0:=af ae;have I1:=af al;have I2:=af am;have I3:=af D;have A:=af (Ud p);obtain⟨tx,ok,U⟩:∃tx ok,lp p=(tx,ok):=⟨_,_,rfl⟩;obtain⟨b,lf,V,T⟩:∃b lf V,fZ bs=(b,lf,V):=⟨_,_,_,rfl⟩;have HP:ah (cM bs l p=if (ok&&V)=iV then((cV bs (1,b,lf,tx)).1,l++[(1,b,lf,tx)],(cV bs (1,b,lf,tx)).2)else(bs,l,iF)):=by show _=_;unfold cM;rw[U,T]
 have ac:=af T;rw[U]at A;simp only at A;obtain⟨pk,t,y,s,r,pt⟩:=p;obtain⟨R,hR⟩:=aq (cM bs l ⟨pk,t,y,s,r,pt⟩);rw[hR]at HP⊢;have s0:(w.alloc (iC #[Y m bs.length i] 26)).heap.size=w.heap.size+1:=by simp
 have s1:((w.alloc (iC #[Y m bs.length i] 26)).alloc (iC #[I J pk,I J t,I J y,I J s,I J r,iT pt] 44)).heap.size=w.heap.size+1+1:=by simp
 have b0:=aT w (iC #[Y m bs.length i] 26);have N:iL w.heap.size w ((w.alloc (iC #[Y m bs.length i] 26)).alloc (iC #[I J pk,I J t,I J y,I J s,I J r,iT pt] 44)):=b0.alloc (by omega) _
 have bA:iL w.heap.size w (((w.alloc (iC #[Y m bs.length i] 26)).alloc (iC #[I J pk,I J t,I J y,I J s,I J r,iT pt] 44)).alloc (iC #[Y O 0 0] 26)):=N.alloc (by omega) _
 have g0:(((w.alloc (iC #[Y m bs.length i] 26)).alloc (iC #[I J pk,I J t,I J y,I J s,I J r,iT pt] 44)).alloc (iC #[Y O 0 0] 26)).heap[w.heap.size]?=X (iC #[Y m bs.length i] 26 (0,0)):=(iS _ _ (by simp;omega)).trans ((iS _ _ (by simp)).trans (aB w _))
 have g1:(((w.alloc (iC #[Y m bs.length i] 26)).alloc (iC #[I J pk,I J t,I J y,I J s,I J r,iT pt] 44)).alloc (iC #[Y O 0 0] 26)).heap[w.heap.size+1]?=X (iC #[I J pk,I J t,I J y,I J s,I J r,iT pt] 44 (0,0)):=by
  refine(iS _ _ (by simp)).trans ?_
  rw[<-s0];exact aB _ _
 have g2:(((w.alloc (iC #[Y m bs.length i] 26)).alloc (iC #[I J pk,I J t,I J y,I J s,I J r,iT pt] 44)).alloc (iC #[Y O 0 0] 26)).heap[w.heap.size+1+1]?=X (iC #[Y O 0 0] 26 (0,0)):=by
  rw[<-s1];exact aB _ _
 generalize aw:((w.alloc (iC #[Y m bs.length i] 26)).alloc (iC #[I J pk,I J t,I J y,I J s,I J r,iT pt] 44)).alloc (iC #[Y O 0 0] 26)=wa at bA g0 g1 g2;have CP:=af (Lg ⟨pk,t,y,s,r,pt⟩ wa);rw[A.o]at CP;unfold dJ at CP⊢;simp only at CP⊢;have L:=af bA;have G0:=af g0;have G2:=af g2;have HA:=af ha;have HS:=af hs;have HO:=af ho;have c0:=aj _ _ 0 _ _ _ g1;have c1:=aj _ _ 1 _ _ _ g1;have c2:=aj _ _ 2 _ _ _ g1;have c3:=aj _ _ 3 _ _ _ g1;have c4:=aj _ _ 4 _ _ _ g1;have c5:=aj _ _ 5 _ _ _ g1;clear ae al am D U T hR s0 s1 b0 N bA g0 g1 g2 ha hs ho A;go_enter Tryz.func145,Tryz.ntmps145;go_wp2_with fail;clear aw;refine CP.o.mono ?_;rintro e w1 ⟨rfl,N⟩;have B1:=af (L.o.trans (N.mono L.o.size));have F1:=af ((N.block _ (aK.1 G0.o).1).trans G0.o);have Z1:=af ((N.block _ (aK.1 G2.o).1).trans G2.o);have k1:=aj _ _ 0 _ _ _ F1.o;have CL:=af (Wi (Y m bs.length i) bs w1 HS.o (HA.o.rdb.below B1.o));rw[ac.o]at CL;unfold Cq at CL;simp only at CL;clear CP L G0 G2 ac N c0 c1 c2 c3 c4 c5;go_wp2_with fail;refine CL.o.mono ?_;rintro e c ⟨rfl,b2⟩;have B2:=af (B1.o.trans (b2.mono B1.o.size));have F2:=af ((b2.block _ (aK.1 F1.o).1).trans F1.o);have F:=af ((b2.block _ (aK.1 Z1.o).1).trans Z1.o);have D:=(aK.1 F.o).1;clear CL B1 F1 Z1 b2 k1;by_cases hc:(ok&&V)=iV
 case neg=>
  have HE:ah (R=(bs,l,iF)):=by show _=_;rw[HP.o,ai hc]
  have k0:=aj _ _ 0 _ _ _ F2.o;have k1:=aj _ _ 0 _ _ _ F.o;have k2:=aF _ _ 0 _ _ F.o;have RB:=af (B2.o.setCell (p:=⟨w.heap.size+1+1,0,O⟩) (by show _<=_+1+1;omega) (Y m bs.length i))
  have RR:ah ((c.setCell ⟨w.heap.size+1+1,0,O⟩ (Y m bs.length i)).heap[w.heap.size+1+1]?=X (iC #[Y m bs.length i] 26 (0,0))):=bo _ _ 0 _ _ _ F.o;have FN:ah (CH B q w u (bs,l,iF) (G (iU #[iA #[Y m bs.length i],u,iB iF])) (c.setCell ⟨w.heap.size+1+1,0,O⟩ (Y m bs.length i))):=⟨_,_,rfl,HA.o.keep RB.o.size (λx _ x2=>RB.o.block x x2),bC HO.o RB.o,aR.below RB.o⟩
  have ao:ok=iF∨(ok=iV/\V=iF):=by
   cases ok with
   |false=>exact .inl rfl
   |true=>cases V with
    |false=>exact .inr ⟨rfl,rfl⟩
    |true=>exact absurd rfl hc
  clear HP hc F2 F B2 HA HO RB;rcases ao with rfl|⟨rfl,rfl⟩
  all_goals
   go_wp2;refine az (GU rfl _ _ (w.heap.size+1+1) _ rfl RR.o) rfl ?_;rw[HE.o];exact FN.o
 case pos=>
  have HE:ah (R=((cV bs (1,b,lf,tx)).1,l++[(1,b,lf,tx)],(cV bs (1,b,lf,tx)).2)):=by show _=_;rw[HP.o,ak hc]
  obtain⟨rfl,rfl⟩:ok=iV/\V=iV:=by simpa using hc
  obtain⟨cs,E,S⟩:∃cs E,cV bs (1,b,lf,tx)=(cs,E):=⟨_,_,rfl⟩;rw[S]at HE;have b3:=aT c (iC #[I J 1,I J b,I J lf,iT tx] 254);have W:(c.alloc (iC #[I J 1,I J b,I J lf,iT tx] 254)).heap[c.heap.size]?=X (iC #[I J 1,I J b,I J lf,iT tx] 254 (0,0)):=aB _ _;have B3:=af (B2.o.trans (b3.mono B2.o.size));have F3:=af ((b3.block _ (aK.1 F2.o).1).trans F2.o);have Z3:=af ((b3.block _ (aK.1 F.o).1).trans F.o);have ap:(c.alloc (iC #[I J 1,I J b,I J lf,iT tx] 254)).heap.size=c.heap.size+1:=by simp
  generalize au:c.alloc (iC #[I J 1,I J b,I J lf,iT tx] 254)=w3 at b3 W B3 F3 Z3 ap;have T3:=af W;have CD:=af (Av (Y m bs.length i) bs (1,b,lf,tx) w3 HS.o (HA.o.rdb.below B3.o));rw[S]at CD;unfold yp at CD;simp only at CD;have k0:=aj _ _ 0 _ _ _ F3.o;have c0:=aj _ _ 0 _ _ _ W;have c1:=aj _ _ 1 _ _ _ W;have c2:=aj _ _ 2 _ _ _ W;have c3:=aj _ _ 3 _ _ _ W;clear HP hc F2 F B2 S b3 W;go_wp2_with fail;clear au;refine CD.o.mono ?_;rintro e g ⟨nv,rfl,fo,P⟩;obtain⟨f,d,rfl⟩:=fo.form;have b5:=aT g (iC #[Y f cs.length d] 26);have n5:(g.alloc (iC #[Y f cs.length d] 26)).heap[g.heap.size]?=X (iC #[Y f cs.length d] 26 (0,0)):=aB _ _;have ar:(g.alloc (iC #[Y f cs.length d] 26)).heap.size=g.heap.size+1:=by simp
  have bb:=B3.o.trans (P.mono B3.o.size);have B5:=af (bb.trans (b5.mono bb.size));have Z:=af (((b5.block _ (by have:=P.size;omega)).trans (P.block _ (by omega))).trans T3.o)
  have Z5:=af (((b5.block _ (by have:=P.size;omega)).trans (P.block _ (by omega))).trans Z3.o)
  have FO:ah (cE w3.heap.size g.heap.size (Y f cs.length d) cs (g.alloc (iC #[Y f cs.length d] 26))):=cE.loc _ _ _ _ g _ (λx x1 x2=>b5.block x x2) fo
  have ay:=P.size;generalize av:g.alloc (iC #[Y f cs.length d] 26)=a at b5 n5 ar B5 Z Z5 FO;have SD:(a.drew.cell? ⟨g.heap.size,0,O⟩=X (Y f cs.length d))/\a.drew.cell? ⟨c.heap.size,0,O⟩=X (I J 1)/\a.drew.cell? ⟨c.heap.size,1,O⟩=X (I J b)/\a.drew.cell? ⟨c.heap.size,2,O⟩=X (I J lf)/\a.drew.cell? ⟨c.heap.size,3,O⟩=X (iT tx):=⟨aj _ _ 0 _ _ _ n5,aj _ _ 0 _ _ _ Z.o,aj _ _ 1 _ _ _ Z.o,aj _ _ 2 _ _ _ Z.o,aj _ _ 3 _ _ _ Z.o⟩;have B6:ah (iL w.heap.size w (a.drew.alloc (iC #[I J 1,I J b,I J lf,iT tx] 254))):=B5.o.drew.alloc (by have:=B5.o.size;exact this) _
  have OW:=af (bC HO.o B6.o);have N6:ah ((a.drew.alloc (iC #[I J 1,I J b,I J lf,iT tx] 254)).heap[g.heap.size]?=X (iC #[Y f cs.length d] 26 (0,0))):=(iS _ _ (by show _<a.heap.size;omega)).trans n5
  have T6:ah ((a.drew.alloc (iC #[I J 1,I J b,I J lf,iT tx] 254)).heap[c.heap.size]?=X (iC #[I J 1,I J b,I J lf,iT tx] 254 (0,0))):=(iS _ _ (by show _<a.heap.size;omega)).trans Z.o
  have Z6:ah ((a.drew.alloc (iC #[I J 1,I J b,I J lf,iT tx] 254)).heap[w.heap.size+1+1]?=X (iC #[Y O 0 0] 26 (0,0))):=(iS _ _ (by show _<a.heap.size;omega)).trans Z5.o
  have aa:ah (cE w3.heap.size g.heap.size (Y f cs.length d) cs (a.drew.alloc (iC #[I J 1,I J b,I J lf,iT tx] 254))):=cE.loc _ _ _ _ a _ (λx x1 x2=>iS _ _ (by show _<a.heap.size;omega)) FO.o
  have SE:((a.drew.alloc (iC #[I J 1,I J b,I J lf,iT tx] 254)).cell? ⟨g.heap.size,0,O⟩=X (Y f cs.length d))/\(a.drew.alloc (iC #[I J 1,I J b,I J lf,iT tx] 254)).cell? ⟨c.heap.size,0,O⟩=X (I J 1)/\(a.drew.alloc (iC #[I J 1,I J b,I J lf,iT tx] 254)).cell? ⟨c.heap.size,1,O⟩=X (I J b)/\(a.drew.alloc (iC #[I J 1,I J b,I J lf,iT tx] 254)).cell? ⟨c.heap.size,2,O⟩=X (I J lf)/\(a.drew.alloc (iC #[I J 1,I J b,I J lf,iT tx] 254)).cell? ⟨c.heap.size,3,O⟩=X (iT tx):=⟨aj _ _ 0 _ _ _ N6.o,aj _ _ 0 _ _ _ T6.o,aj _ _ 1 _ _ _ T6.o,aj _ _ 2 _ _ _ T6.o,aj _ _ 3 _ _ _ T6.o⟩;have HN:=af (aax a.drew #[I J 1,I J b,I J lf,iT tx] 254 a.heap.size rfl);have ad:ah (B<=(a.drew.alloc (iC #[I J 1,I J b,I J lf,iT tx] 254)).heap.size):=bV hB B6.o.size;have ag:(a.drew.alloc (iC #[I J 1,I J b,I J lf,iT tx] 254)).heap.size=a.heap.size+1:=(show(a.drew.alloc (iC #[I J 1,I J b,I J lf,iT tx] 254)).heap.size=a.drew.heap.size+1 by simp)
  have z:ah (∀x,x<a.heap.size->x<(a.drew.alloc (iC #[I J 1,I J b,I J lf,iT tx] 254)).heap.size):=λx hx=>by rw[ag];omega
  have an:=af (iM HO.o);have ax:w.heap.size+1+1<c.heap.size:=D;clear CD P b5 bb fo k0 c0 c1 c2 c3 T3 F3 Z3 B3;go_upto_region 7 with fail
  clear av;refine qP (λw'=>(w'.cell? ⟨g.heap.size,0,O⟩=X (Y f cs.length d))/\w'.cell? ⟨c.heap.size,0,O⟩=X (I J 1)/\w'.cell? ⟨c.heap.size,1,O⟩=X (I J b)/\w'.cell? ⟨c.heap.size,2,O⟩=X (I J lf)/\w'.cell? ⟨c.heap.size,3,O⟩=X (iT tx)) (by kernel_rfl) SD (λhHeld=>?_)
  simp only[aW,dW,Nat.reduceAdd];refine aH 0 ?_;refine aH 1 ?_;refine aH 2 ?_;refine aH 5 ?_;refine dL 3 rfl (by kernel_rfl) (λK H=>?_)
  go_simp;refine H.out _ _ SE (λhHeld2=>?_)
  clear H K hHeld;have hHeld:=hHeld2;clear hHeld2
  (try simp only[Act.put,cT,cA,ce])
  refine dL 4 rfl (by kernel_rfl) (λK H=>?_)
  refine oO _ (by rfl) (.tmp 47) (.tmp 49) 118 (by rfl) B 254 i0 (iA #[I J 0,I J 0,I J 0,iT ⟨#[]⟩]) 4 40 Tryz.underlying118 I0.o I1.o I2.o I3.o rfl (by decide) _ l.length (cZ l) (by simp[Act.eval]) OW.o ⟨a.heap.size,0,O⟩ 1 1 [I J 1,I J b,I J lf,iT tx] (by simp[Act.eval]) rfl HN.o (ZI _ _ _ _) (by unfold maxLen;omega) (by omega) ad.o ?_
  intro u7 n o7 Q;have C:∀x,w.heap.size<=x->X x≠u.ownBlock:=λx hx e=>by have:=(an.o x e.symm).2;omega
  have N7:=af ((Q.block _ (z.o _ (by omega)) (C g.heap.size (by omega))).trans N6.o)
  have T7:=af ((Q.block _ (z.o _ (by omega)) (C c.heap.size (by omega))).trans T6.o)
  have Z7:=af ((Q.block _ (z.o _ (by omega)) (C (w.heap.size+1+1) (by omega))).trans Z6.o)
  have ab:ah (cE w3.heap.size g.heap.size (Y f cs.length d) cs n):=cE.loc _ _ _ _ _ _ (λx x1 x2=>Q.block x (z.o _ (by omega)) (C x (by omega))) aa.o
  have M:(n.cell? ⟨g.heap.size,0,O⟩=X (Y f cs.length d))/\n.cell? ⟨c.heap.size,0,O⟩=X (I J 1)/\n.cell? ⟨c.heap.size,1,O⟩=X (I J b)/\n.cell? ⟨c.heap.size,2,O⟩=X (I J lf)/\n.cell? ⟨c.heap.size,3,O⟩=X (iT tx):=⟨aj _ _ 0 _ _ _ N7.o,aj _ _ 0 _ _ _ T7.o,aj _ _ 1 _ _ _ T7.o,aj _ _ 2 _ _ _ T7.o,aj _ _ 3 _ _ _ T7.o⟩;have KK:ah (aR w n (λx=>u.ownBlock≠X x)):=(aR.below B6.o).trans (aR.grown Q (λj e hh=>hh e))
  have aA:a.heap.size<n.heap.size:=eW (show a.heap.size<(a.drew.alloc (iC #[I J 1,I J b,I J lf,iT tx] 254)).heap.size by rw[ag];omega) Q.size
  have O7:=af o7;have z0:=aj _ _ 0 _ _ _ Z7.o;have z1:=aF _ _ 0 _ _ Z7.o;clear o7 Q N7 T7 N6 T6 Z6 aa OW B6 HN ad;refine H.out _ _ M (λhHeld2=>?_)
  clear H K hHeld;have hHeld:=hHeld2;clear hHeld2
  (try simp only[Act.put,cT,cA,ce])
  refine dL 6 rfl (by kernel_rfl) (λK H=>?_)
  go_simp;refine H.out _ _ (by first|go_keep|(refine⟨?_,?_,?_,?_,?_⟩<;>(rw[iN (h:=λe=>by have:=congrArg Addr.block e;simp at this;omega)];first|exact M.1|exact M.2.1|exact M.2.2.1|exact M.2.2.2.1|exact M.2.2.2.2))) (λhHeld2=>?_)
  clear H K hHeld;have hHeld:=hHeld2;clear hHeld2
  (try simp only[Act.put,cT,cA,ce])
  refine aH 7 ?_;refine aH 8 ?_;refine pz (by kernel_rfl) ?_
  have RR:ah ((n.setCell ⟨w.heap.size+1+1,0,O⟩ (Y f cs.length d)).heap[w.heap.size+1+1]?=X (iC #[Y f cs.length d] 26 (0,0))):=bo _ _ 0 _ _ _ Z7.o;have FN:ah (CH B q w u (cs,l++[(1,b,lf,tx)],E) (G (iU #[iA #[Y f cs.length d],u7,iB E])) (n.setCell ⟨w.heap.size+1+1,0,O⟩ (Y f cs.length d))):=by
   refine⟨_,_,rfl,kD.of_fla (lo:=w3.heap.size) (hi:=g.heap.size) (cE.loc _ _ _ _ n _ (λx x1 x2=>aO _ _ _ _ (by show x≠w.heap.size+1+1;omega)) ab.o) (by simp[World.setCell];omega) (by omega),?_,WU KK.o (by omega)⟩
   have h1:=JY (k:=0) (x:=Y f cs.length d) O7.o Z7.o;have h2:cZ (l++[((1,b,lf,tx):aM)])=cZ l++[I J 1,I J b,I J lf,iT tx]:=by rw[AX];rfl
   show World.ownsRow _ B _ 4 u7 (l++[((1,b,lf,tx):aM)]).length (cZ (l++[((1,b,lf,tx):aM)]));rw[h2,aI];exact h1
  clear hHeld SD SE M KK O7 Z7 ab z0 z1;go_wp2;refine az (GU rfl _ _ (w.heap.size+1+1) _ rfl RR.o) rfl ?_;rw[HE.o];exact FN.o
def rN(r:Rc):iX:=iA #[I J r.kind,I J r.vol,I J r.arg,I J r.fC]
theorem FX(k v a c:Int):(Rc.mk k v a c).Right↔(0<=a/\a<=1000000000)/\(k=1/\v=0/\c=0∨(1<=v/\v<=9)/\(k=2/\a<=9/\c=0∨k=3/\a=0/\c=0∨k=4/\a<16/\1<=c/\c<=1000000000∨k=5/\a<16/\c=0)):=Iff.rfl
theorem xg(r:Rc)(w:iW):
 iK Tryz.prog 87 #[rN r] w λe w'=>e=G (iB (@decide r.Right r.decR))/\iL w.heap.size w w':=by
 obtain⟨k,v,a,c⟩:=r;have h:=af (FX k v a c);have g:=af ((ax w.heap.size w).alloc (am _) (iC #[I J k,I J v,I J a,I J c] 110));unfold rN;simp only;have f:¬(0<=a/\a<=1000000000)∨(0<=a/\a<=1000000000)/\(k=1/\((v==0)=iV∨(v==0)=iF)∨(k==1)=iF/\(¬(2<=k/\k<=5)∨(2<=k/\k<=5)/\(¬(1<=v/\v<=9)∨(1<=v/\v<=9)/\(k=4/\(¬a<16∨a<16/\(¬(1<=c/\c<=1000000000)∨1<=c/\c<=1000000000))∨(k=2∨k=3∨k=5)/\((c==0)=iV∨(c==0)=iF))))):=by
  simp only[ix,dk,ne_eq];omega
 rcases f with j|⟨j,⟨rfl,i|i⟩|⟨i,l|⟨l,m|⟨m,⟨rfl,d|⟨d,n|n⟩⟩|⟨rfl|rfl|rfl,d|d⟩⟩⟩⟩⟩
 all_goals
  go_enter Tryz.func87,Tryz.ntmps87
  repeat
   go_wp2_with fail
   first
    |refine(gO _ _ _ iV _ (.inl ⟨by omega,by omega,rfl⟩)).mono ?_
    |refine(gO _ _ _ iF _ (.inr ⟨by omega,rfl⟩)).mono ?_
   rintro e p ⟨rfl,rfl⟩
  go_wp2;go_ret;refine⟨congrArg (λb=>Ending.returned (iB b)) (z8.2 (Iff.trans ?_ (Iff.symm (Iff.trans (@decide_eq_true_iff _ (Rc.decR _)) h.o)))),g.o⟩
  clear h g
  (try simp only[ix,dk,ne_eq,bM,ge,eq_self,vD,false_iff,true_iff]at*)
  omega
def ui(r:Rc):iX:=letI:=r.decR;if r.Right then iU #[iT (mu r),iB iV]else iU #[iT ⟨#[]⟩,iB iF]
theorem My(r:Rc)(h:r.Right):(mu r).size<=19:=by
 have e:(mu r).size=(mu r).data.toList.length:=rfl;rw[e,Fh];exact(x8 r h).2
theorem YZ(w e:iW)(a b c d:iX)(f:TypeId)(g:iL (w.alloc (iC #[a,b,c,d] f)).heap.size (w.alloc (iC #[a,b,c,d] f)) e):
 e.cell? ⟨w.heap.size,0,O⟩=X a/\e.cell? ⟨w.heap.size,1,O⟩=X b/\e.cell? ⟨w.heap.size,2,O⟩=X c/\e.cell? ⟨w.heap.size,3,O⟩=X d:=by
 refine⟨?_,?_,?_,?_⟩<;>(rw[g.cell (by simp)];simp)
def pM(w a:iW)(k v x c:Int):Prop:=iL w.heap.size w a/\w.heap.size<a.heap.size/\
 (a.cell? ⟨w.heap.size,0,O⟩=X (I J k)/\a.cell? ⟨w.heap.size,1,O⟩=X (I J v)/\a.cell? ⟨w.heap.size,2,O⟩=X (I J x)/\a.cell? ⟨w.heap.size,3,O⟩=X (I J c))
theorem pM.next{w a b:iW}{k v x:Int}(h:pM w a k v x c)(d:iL a.heap.size a b):pM w b k v x c:=
 ⟨h.1.trans (d.mono h.1.size),eW h.2.1 d.size,by rw[d.cell h.2.1,d.cell h.2.1,d.cell h.2.1,d.cell h.2.1];exact h.2.2⟩
theorem pM.drew{w a:iW}{k v x:Int}(h:pM w a k v x c):pM w a.drew k v x c:=⟨h.1.drew,h.2.1,h.2.2⟩
theorem Tq(r:Rc)(w:iW):
 iK Tryz.prog 186 #[rN r] w λe w'=>e=G (ui r)/\iL w.heap.size w w':=by
 have i:=af ((ax w.heap.size w).alloc (am _) (iC #[I J r.kind,I J r.vol,I J r.arg,I J r.fC] 110));by_cases h:r.Right
 ·have l:ah (ui r=iU #[iT (mu r),iB iV]):=ak h;have Z:=My r h;have m:=af (xg r);have y:=h;obtain⟨r1,r2⟩:=y;have g:ah (mu r=(oI (16*r.kind+r.vol).toNat++fB r.arg.toNat)++fB r.fC.toNat):=rfl;have n:=n8 (d:=r.decR) h;obtain⟨k,v,x,c⟩:=r;unfold rN at*;simp only at*;obtain⟨k,rfl,-⟩:=pC (show 0<=k by omega)
  obtain⟨v,rfl,-⟩:=pC (show 0<=v by omega)
  obtain⟨x,rfl,M⟩:=pC (show 0<=x by omega)
  obtain⟨c,rfl,L⟩:=pC (show 0<=c by omega)
  have N:(16*(k:Int)+(v:Int)).toNat=16*k+v:=by omega
  have kb:k<=5:=by omega
  have vb:v<=9:=by omega
  have Y:IntKind.i64.wrap (16*(k:Int))=16*(k:Int):=by rw[cm];omega
  have s:IntKind.i64.wrap (16*(k:Int)+(v:Int))=((16*k+v:Nat):Int):=by rw[cm];omega
  obtain⟨b,t⟩:∃b,b=16*k+v:=⟨_,rfl⟩;rw[N,M,L,<-t]at g;rw[<-t]at s;clear M L N;obtain⟨F,A⟩:∃z,z=oI b:=⟨_,rfl⟩;obtain⟨v1,D⟩:∃z,z=fB x:=⟨_,rfl⟩;obtain⟨v2,E⟩:∃z,z=fB c:=⟨_,rfl⟩;have B:=af (λw=>Gv b (by omega) w)
  have p:=af (λw=>rz x w (by omega))
  have q:=af (λw=>rz c w (by omega))
  change ah (∀w,iK Tryz.prog 72 #[I J x] w λe w'=>e=G (iT (fB x))/\iL w.heap.size w w')at p
  change ah (∀w,iK Tryz.prog 72 #[I J c] w λe w'=>e=G (iT (fB c))/\iL w.heap.size w w')at q
  rw[<-A]at B g;rw[<-D]at p g;rw[<-E]at q g;clear A D E t;obtain⟨pa,j⟩:∃z,z=mu ⟨k,v,x,c⟩:=⟨_,rfl⟩;rw[<-j]at Z g l;clear j h r1 r2 kb vb;obtain⟨P,C⟩:∃u,F++v1=u:=⟨_,rfl⟩;rw[C]at g;have T:P++v2=pa:=g.o.symm;have R:=congrArg ByteArray.size C;have S:=congrArg ByteArray.size T;rw[tZ]at R S;have U:ah (¬(9223372036854775807<F.size+v1.size)):=by show¬_;omega
  have V:ah (¬(9223372036854775807<P.size+v2.size)):=by show¬_;omega
  clear R S g;go_enter Tryz.func186,Tryz.ntmps186;go_wp2_with fail;refine(m.o _).mono ?_;rintro e Q ⟨rfl,a⟩;rw[n];obtain⟨W,c1,c2,c3⟩:=YZ _ _ _ _ _ _ _ a;have f:ah (pM w Q k v x c):=⟨i.o.trans (a.mono i.o.size),eW (by simp) a.size,W,c1,c2,c3⟩
  clear a i n m;go_wp2_with fail;have y1:=U.o;have y2:=V.o;go_region_held3 (λw'=>w'.cell? ⟨w.heap.size,0,O⟩=X (I J k)/\w'.cell? ⟨w.heap.size,1,O⟩=X (I J v)/\w'.cell? ⟨w.heap.size,2,O⟩=X (I J x)/\w'.cell? ⟨w.heap.size,3,O⟩=X (I J c)) (first|go_keep|exact f.o.2.2|exact f.o.drew.2.2) (first
   |(go_at_call 71;with_reducible refine cn (B.o _) ?_;rintro e w2 ⟨rfl,H⟩;have f:=af (pM.next (by first|exact f.o|exact f.o.drew) H);clear H)
   |(go_at_call 72;(with_reducible first|refine cn (p.o _) ?_|refine cn (q.o _) ?_);rintro e w3 ⟨rfl,K⟩;have f:=af (pM.next (by first|exact f.o|exact f.o.drew) K);clear K))
  all_goals
   go_wp2;go_ret2;exact⟨by rw[l.o];rfl,f.o.1⟩
 ·have l:ah (ui r=iU #[iT ⟨#[]⟩,iB iF]):=ai h;have m:=af (xg r);have n:=eM (d:=r.decR) h;obtain⟨k,v,x,c⟩:=r;unfold rN at*;simp only at*;clear h;go_enter Tryz.func186,Tryz.ntmps186;go_wp2_with fail;refine(m.o _).mono ?_;rintro e Q ⟨rfl,a⟩;rw[n];go_wp2;go_ret2;exact⟨by rw[l.o];rfl,i.o.trans (a.mono i.o.size)⟩
def mY(t:Int×Int×Int×Int×Int×ByteArray):List iX:=[I J t.1,I J t.2.1,I J t.2.2.1,I J t.2.2.2.1,I J t.2.2.2.2.1,iT t.2.2.2.2.2]
def jO(l:List (Int×Int×Int×Int×Int×ByteArray)):List iX:=l.flatMap mY
theorem Vi(a b:List (Int×Int×Int×Int×Int×ByteArray)):jO (a++b)=jO a++jO b:=by simp[jO]
theorem Qe(t:Int×Int×Int×Int×Int×ByteArray)(l:List (Int×Int×Int×Int×Int×ByteArray)):jO (t::l)=mY t++jO l:=by simp[jO]
theorem abe(l:List (Int×Int×Int×Int×Int×ByteArray))(k:Nat)(t:Int×Int×Int×Int×Int×ByteArray)(h:l[k]?=X t)(j:Nat)(v:iX)(b:(mY t)[j]?=X v):(jO l)[k*6+j]?=X v:=by
 have c:j<6:=(aC.1 b).1
 induction l generalizing k with
 |nil=>simp at h
 |cons a l d=>
  rw[Qe];cases k with
  |zero=>
   simp at h;subst h;rw[ip (by show _<6;omega),nj,eC]
   exact b
  |succ k=>
   rw[cu (by show 6<=_;omega),show(k+1)*6+j-(mY a).length=k*6+j by show _-6=_;omega]
   exact d k (by simpa using h)
theorem Yv:(Tryz.prog.info? 44).map (λi=>(i.zero,i.size,i.bytes))=X (X (iA #[I J 0,I J 0,I J 0,I J 0,I J 0,iT ⟨#[]⟩]),6,56):=by kernel_rfl
def Lj:iX->Nat
 |Y _ n _=>n
 |_=>0
theorem LU{W W':iW}{base:Nat}{v:iX}{xs:List iX}(h:W.ownsRow base e size v n xs)(j:∀i,i<W.heap.size->v.ownBlock=X i->W'.heap[i]?=W.heap[i]?):W'.ownsRow base e size v n xs:=by
 obtain⟨h1,f⟩:=h;refine⟨h1,?_⟩;rcases f with h|⟨g,cap,a,rfl,c,b,d⟩
 ·exact .inl h
 ·exact .inr ⟨g,cap,a,rfl,c,by rw[j g (aK.1 b).1 rfl];exact b,d⟩
theorem dH.off{w:iW}{p:Nat}{i:Int}{v:iX}(h:dH w g t i bad)(f:p≠g):dH (w.setCell ⟨p,k,O⟩ v) g t i bad:=by
 obtain⟨h1,a,b,h4,c,d⟩:=h;have e:∀j,(w.setCell ⟨p,k,O⟩ v).cell? ⟨g,j,O⟩=w.cell? ⟨g,j,O⟩:=λj=>iN _ _ _ _ (λe=>f (by injection e))
 exact⟨by simpa using h1,by rw[e];exact a,by rw[e];exact b,by rw[e];exact h4,by simpa using c,by simpa using d⟩
def RS(w W:iW)(g:Nat)(t:ByteArray)(q:Nat)(bad:Bool)(a:iX)(acc:List Rc):Prop:=
 iL w.heap.size w W/\w.heap.size<=g/\dH W g t q bad/\W.ownsRow w.heap.size 110 4 a acc.length (ch (acc.map Rc.tu))/\a.ownBlock≠X g
variable{acc:List Rc}
theorem RS.moved{w W W':iW}{b:iX}(h:RS w W g t q bad b acc)(m:lK W W' g t q' bad'):RS w W' g t q' bad' b acc:=by
 obtain⟨h1,d,f,h4,a⟩:=h;exact⟨h1.trans (aR.down m.1 h1.size (λi hi=>by omega)),d,m.2,LU h4 (λi hi e=>m.1.2.2.2.2 i hi (λc=>a (c▸e))),a⟩
theorem RS.below{w W W':iW}{a:iX}(h:RS w W g t q bad a acc)(b:iL W.heap.size W W'):RS w W' g t q bad a acc:=
 h.moved ⟨aR.below b,h.2.2.1.below b⟩
theorem RS.set1{w W:iW}{a:iX}(h:RS w W g t q bad a acc):RS w (W.setCell ⟨g,1,O⟩ (I J (q':Nat))) g t q' bad a acc:=
 h.moved (lK.set1 h.2.2.1 (ax _ _))
def RT(w W:iW)(g:Nat)(t:ByteArray)(q:Nat)(bad:Bool)(b:iX)(acc:List Rc)(a:Nat)(cs:Array iX):Prop:=
 RS w W g t q bad b acc/\w.heap.size<=a/\a≠g/\b.ownBlock≠X a/\W.heap[a]?=X (iC cs 110 (0,0))
theorem RT.new{w W:iW}{a:iX}(h:RS w W g t q bad a acc)(cs:Array iX):RT w (W.alloc (iC cs 110)) g t q bad a acc W.heap.size cs:=by
 have b:=h.2.2.2.1.lt;have c:=h.2.2.1.1;refine⟨h.below (aZ),h.1.size,by omega,λe=>?_,aB W _⟩
 have:=(b _ e).2;omega
theorem RT.moved{w W W':iW}{d:iX}{a:Nat}{cs:Array iX}(h:RT w W g t q bad d acc a cs)(m:lK W W' g t q' bad'):RT w W' g t q' bad' d acc a cs:=by
 obtain⟨h1,e,b,h4,c⟩:=h;exact⟨h1.moved m,e,b,h4,(m.1.2.2.2.2 a (aK.1 c).1 b).trans c⟩
theorem RT.below{w W W':iW}{c:iX}{a:Nat}{cs:Array iX}(h:RT w W g t q bad c acc a cs)(b:iL W.heap.size W W'):RT w W' g t q bad c acc a cs:=
 h.moved ⟨aR.below b,h.1.2.2.1.below b⟩
theorem RT.set{w W:iW}{d:iX}{a:Nat}{cs:Array iX}(h:RT w W g t q bad d acc a cs)(k:Nat)(v:iX):RT w (W.setCell ⟨a,k,O⟩ v) g t q bad d acc a (cs.setIfInBounds k v):=by
 obtain⟨⟨f,j,l,m,n⟩,b,c,h4,p⟩:=h;exact⟨⟨f.setCell b _,j,l.off c,LU m (λi _ e=>aO _ _ _ _ (λo=>h4 (by subst o;exact e))),n⟩,b,c,h4,bo _ _ _ _ _ _ p⟩
theorem RT.at_{w W:iW}{c:iX}{a:Nat}{cs:Array iX}(h:RT w W g t q bad c acc a cs)(k:Nat)(v:iX)(b:cs[k]?=X v):W.cell? ⟨a,k,O⟩=X v/\W.frozen? ⟨a,k,O⟩=iF:=
 ⟨aj _ _ k _ _ _ h.2.2.2.2▸b,aF _ _ k _ _ h.2.2.2.2⟩
theorem RS.grown{w W y:iW}{l u':iX}{a:List Rc}(h:RS w W g t q bad l acc)(c:W.grownBy y l.ownBlock)(r:y.ownsRow w.heap.size 110 4 u' a.length (ch (a.map Rc.tu)))(b:u'.ownBlock=l.ownBlock∨u'.ownBlock=X W.heap.size):RS w y g t q bad u' a:=by
 obtain⟨h1,o,⟨d,c1,c2,c3,m,n⟩,h4,i⟩:=h;have e:∀j,y.cell? ⟨g,j,O⟩=W.cell? ⟨g,j,O⟩:=λj=>c.cell_far _ d (λe=>i e.symm)
 have f:∀j,y.frozen? ⟨g,j,O⟩=W.frozen? ⟨g,j,O⟩:=λj=>c.frozen_far _ d (λe=>i e.symm)
 refine⟨h1.grown c h1.size (λk p=>(h4.lt k p).1),o,⟨eW d c.size,by rw[e];exact c1,by rw[e];exact c2,by rw[e];exact c3,by rw[f];exact m,by rw[f];exact n⟩,r,λe=>?_⟩
 rcases b with b|b
 ·exact i (b▸e)
 ·rw[b]at e;have:W.heap.size=g:=by injection e
  omega
theorem Na{w W:iW}(b:iL w.heap.size w W)(n:Nat)(a:W.heap.size=n):(W.alloc (iC #[] 110)).ownsRow w.heap.size 110 4 (Y (X ⟨n,0,O⟩) 0 0) ([]:List Rc).length (ch (([]:List Rc).map Rc.tu))/\iL w.heap.size w (W.alloc (iC #[] 110)):=by
 subst a;exact⟨⟨rfl,.inr ⟨W.heap.size,0,#[],rfl,b.size,aB W _,am _,by unfold maxLen;omega,rfl,rfl⟩⟩,b.alloc b.size _⟩
theorem Tz(W:iW)(r:Rc)(g:Nat)(b:W.heap.size=g):∀(j:Nat) (u:iX),[I J r.kind,I J r.vol,I J r.arg,I J r.fC][j]?=X u->(W.alloc (iC #[I J r.kind,I J r.vol,I J r.arg,I J r.fC] 110)).cell? ((⟨g,0,O⟩:Addr).add j)=X u:=by
 intro j u a;subst b
 match j,a with
 |0,a|1,a|2,a|3,a=>
  simp at a;subst a;simp[Addr.add]
theorem OY(r:Rc):∀u∈ [I J r.kind,I J r.vol,I J r.arg,I J r.fC],u.oneCell'=iV:=by
 intro u a;simp at a;rcases a with h|h|h|h<;>subst h<;>rfl
theorem Sb(acc:List Rc)(r:Rc):ch (acc.map Rc.tu)++[I J r.kind,I J r.vol,I J r.arg,I J r.fC]=ch ((acc++[r]).map Rc.tu):=by
 rw[gV,Je];rfl
def R9(w:iW)(t:ByteArray)(e:Ending)(w':iW):Prop:=
 ∃a acc ok,e=G (iU #[a,iB ok])/\w'.ownsRow w.heap.size 110 4 a acc.length (ch (acc.map Rc.tu))/\iL w.heap.size w w'/\(fR t.data.toList 0=O/\ok=iF/\acc=[]∨fR t.data.toList 0=X acc/\ok=iV)
theorem abf(t:ByteArray)(w:iW)(hs:t.size<=1048576):
 iK Tryz.prog 209 #[iT t] w (R9 w t):=by
 have R0:ah (RS w ((w.alloc (iC #[] 110)).alloc (iC #[iT t,I J 0,iB iF] 87)) (w.heap.size+1) t 0 iF (Y (X ⟨w.heap.size,0,O⟩) 0 0) []):=by
  have hz:(w.alloc (iC #[] 110)).heap.size=w.heap.size+1:=by simp
  have h1:=aB (w.alloc (iC #[] 110)) (iC #[iT t,I J 0,iB iF] 87);have h0:=(gn (w.alloc (iC #[] 110)) (iC #[iT t,I J 0,iB iF] 87) w.heap.size (by simp)).trans (aB w (iC #[] 110))
  rw[hz]at h1;refine⟨(aZ).alloc (by simp) _,by omega,⟨by simp,aj _ _ 0 _ _ _ h1,aj _ _ 1 _ _ _ h1,aj _ _ 2 _ _ _ h1,aF _ _ 1 _ _ h1,aF _ _ 2 _ _ h1⟩,⟨rfl,.inr ⟨w.heap.size,0,#[],rfl,am _,h0,am _,by unfold maxLen;omega,rfl,rfl⟩⟩,?_⟩
  intro e;have e2:w.heap.size=w.heap.size+1:=by injection e
  omega
 go_enter Tryz.func209,Tryz.ntmps209;go_wp2;generalize(w.alloc (iC #[] 110)).alloc (iC #[iT t,I J 0,iB iF] 87)=wa at R0⊢;go_loopw [4] (λuv wr=>∃(q ug uc:Nat) (acc:List Rc),uv=Y (X ⟨ug,0,O⟩) acc.length uc/\acc.length<=q/\q<=t.size/\ah (RS w wr (w.heap.size+1) t q iF (Y (X ⟨ug,0,O⟩) acc.length uc) acc)/\ah (fR t.data.toList 0=(fR t.data.toList q).map (acc++·))) (λuv _=>t.size+1-Lj uv)
 case atStart=>exact⟨0,w.heap.size,0,[],rfl,am _,aJ _,R0,by show _=Option.map _ _;cases fR t.data.toList 0<;>simp⟩
 case round=>
  obtain⟨q,ug,uc,acc,rfl,ha,hq,R,E⟩:=hrel;clear R0;obtain⟨-,c0,c1,c2,f1,f2⟩:=R.o.2.2.1;by_cases ap:(q:Int)<t.size
  ·obtain⟨c,r⟩:=aq (t[q].toNat:Nat);have ae:c<256:=by rw[<-r];exact uj _
   have n:t.data.toList[q]?=X t[q]:=aC.2 ⟨by simpa using(show q<t.size by omega),rfl⟩
   obtain⟨k,hk⟩:∃k,k=c/16:=⟨_,rfl⟩;obtain⟨v,hv⟩:∃v,v=c % 16:=⟨_,rfl⟩;have ek:(c:Int).tdiv 16=(k:Int):=by rw[hk];rfl
   have ev:(c:Int).tmod 16=(v:Int):=by rw[hv];rfl
   have aa:(c:Int)/16=(k:Int):=by omega
   have ab:(c:Int) % 16=(v:Int):=by omega
   have av:k<16:=by omega
   have aw:v<16:=by omega
   have HK:ah (k=c/16):=hk;have HV:ah (v=c % 16):=hv;have G:ah (∃b:UInt8,t.data.toList[q]?=X b/\b.toNat=c):=⟨_,n,r⟩;clear hk hv n;obtain⟨B,j⟩:=aq (q+1);obtain⟨f,A,x,e1⟩:∃f A x,gF t.data.toList B iF=(f,A,x):=⟨_,_,_,rfl⟩;obtain⟨d,l,L,e2⟩:∃d l L,gF t.data.toList A x=(d,l,L):=⟨_,_,_,rfl⟩;have R1:=af (R.o.set1 (q':=B));have V1:=af (λW g (h:dH W g t (B:Nat) iF)=>sE t B iF g W hs h f A x e1)
   have V2:=af (λW g (h:dH W g t (A:Nat) x)=>sE t A x g W hs h d l L e2)
   have E1:=af e1;have E2:=af e2;clear e1 e2;go_wp2_with fail;have cr:((q:Int)+1)=(B:Int):=by omega
   rw[cr];have HQ:=af j;clear j c0 c1 c2 f1 f2 r ae ek ev aa ab cr;generalize wr.setCell ⟨w.heap.size+1,1,O⟩ (I J (B:Int))=C at R1⊢;refine(V1.o _ _ R1.o.2.2.1).mono ?_;rintro e D ⟨rfl,m2⟩;have R2:=af (R1.o.moved m2);have H:=af (RT.new R2.o #[I J k,I J v,I J f,I J 0]);obtain⟨sc,s⟩:=aq D.heap.size;rw[s]at H;clear m2 R1;go_wp2_with fail;try rw[s]
   generalize D.alloc (iC #[I J k,I J v,I J f,I J 0] 110)=x3 at H⊢;refine(V2.o _ _ H.o.1.2.2.1).mono ?_;rintro e x4 ⟨rfl,m4⟩;have T4:=af (H.o.moved m4);have i:=af (T4.o.set 3 (I J d));change ah (RT w _ _ t l L _ acc sc #[I J k,I J v,I J f,I J d])at i;clear m4 H R2 s V1 V2;obtain⟨a3,b3⟩:=T4.o.at_ 3 _ rfl;obtain⟨-,-,-,p2,-,-⟩:=i.o.1.2.2.1;obtain⟨r0,-⟩:=i.o.at_ 0 _ rfl;obtain⟨r1,-⟩:=i.o.at_ 1 _ rfl;obtain⟨r2,-⟩:=i.o.at_ 2 _ rfl;obtain⟨r3,-⟩:=i.o.at_ 3 _ rfl;cases L with
   |true=>
    have m:ah (fR t.data.toList q=O):=by
     obtain⟨b,n,-⟩:=G.o;refine yL (aC.1 n).1 ?_;cases a:lB t.data.toList q with
     |none=>rfl
     |some y=>
      obtain⟨rr,jj⟩:=y;obtain⟨b',a',i',c',-,h1,h2,-,-⟩:=Mj a;have C:=E1.o;rw[<-HQ.o]at C;simp only[gF,h1]at C;injection C with C D
      injection D with D x3
      subst C D x3;have x4:=E2.o;simp[gF,h2]at x4
    have F:=af (Na i.o.1.1 x4.heap.size (by simp[World.setCell]))
    go_wp2_with fail;go_ret2;exact⟨_,[],iF,rfl,F.o.1,F.o.2,.inl ⟨by rw[E.o,m.o];rfl,rfl,rfl⟩⟩
   |false=>
    obtain⟨ac,N⟩:=jG E2.o;subst ac;obtain⟨-,M⟩:=jG E1.o;have HR:ah (lB t.data.toList q=letI:=(Rc.mk k v f d).decR;if (Rc.mk k v f d).Right then X (Rc.mk k v f d,l)else O):=by
     obtain⟨b,n,ad⟩:=G.o;show _=_;have j:=HQ.o;subst j;unfold lB;simp only[n,M,N];rw[ad,<-HK.o,<-HV.o]
    have HL:ah (q<t.data.toList.length):=by
     obtain⟨b,n,-⟩:=G.o;exact(aC.1 n).1
    clear N M E1 E2;have p:=af (xg (Rc.mk k v f d));unfold rN at p;simp only at p;by_cases z:(Rc.mk k v f d).Right
    ·have a:=HR.o;rw[ak z]at a;obtain⟨-,-,au,Q,-⟩:=wN a;have S:l<=t.size:=Q;have E':ah (fR t.data.toList 0=(fR t.data.toList l).map ((acc++[Rc.mk k v f d])++·)):=by
      show _=_;rw[E.o,xF a];cases fR t.data.toList l<;>simp
     rw[n8 z]at p;clear z a HR E Q HK HV G;go_wp2_with fail;clear a3 b3;generalize x4.setCell ⟨sc,3,O⟩ (I J (d:Int))=x5 at i p2 r0 r1 r2 r3⊢;refine(p.o _).mono ?_;rintro e x6 ⟨rfl,b6⟩;have u:=af (i.o.below b6);clear b6 i T4 p2 r0 r1 r2 r3 p;obtain⟨r0,-⟩:=u.o.at_ 0 _ rfl;obtain⟨r1,-⟩:=u.o.at_ 1 _ rfl;obtain⟨r2,-⟩:=u.o.at_ 2 _ rfl;obtain⟨r3,-⟩:=u.o.at_ 3 _ rfl;have R6:=af (u.o.1.below ((ax _ _).alloc (am _) (iC #[I J k,I J v,I J f,I J d] 110)));have m:=af (Tz x6 (Rc.mk k v f d) x6.heap.size rfl);have HO:=af (OY (Rc.mk k v f d));have HZ:=af R6.o.1.size;have OW:=af R6.o.2.2.2.1;clear u;obtain⟨i0,P,U,V,Z⟩:=bO zN;have I0:=af P;have Z0:=af U;have Z1:=af V;have Z2:=af Z;clear P U V Z;go_wp2_with (at_builtin;refine rS _ rfl _ _ 57 rfl w.heap.size 110 i0 (iA #[I J 0,I J 0,I J 0,I J 0]) 4 32 Tryz.underlying57 I0.o Z0.o Z1.o Z2.o rfl (by decide) _ acc.length (ch (acc.map Rc.tu)) rfl OW.o ⟨x6.heap.size,0,O⟩ 1 1 [I J k,I J v,I J f,I J d] rfl rfl m.o HO.o ?m1 ?m2 HZ.o ?_)
     case m1=>unfold maxLen;omega
     case m2=>omega
     intro u' y T hg _ hw;have es:=Sb acc (Rc.mk k v f d);simp only at es;rw[es,show acc.length+1=(acc++[Rc.mk k v f d]).length by simp]at T
     have RN:=af (R6.o.grown hg T (by simpa using hw))
     have ag:(acc++[Rc.mk k v f d]).length=acc.length+1:=by simp
     generalize acc++[Rc.mk k v f d]=K at RN ag T E';rcases T.2 with⟨-,h0⟩|⟨an,al,ao,rfl,-,-,-,-,-,-⟩
     ·omega
     clear T hg hw m HO HZ OW r0 r1 r2 r3 es I0 Z0 Z1 Z2 R6 HL;go_wp2;go_roundw
     case rel=>exact⟨l,an,al,K,rfl,by omega,S,RN,E'⟩
     case measure=>simp[Lj];omega
    ·have a:=HR.o;rw[ai z]at a;have m:ah (fR t.data.toList q=O):=yL HL.o a;rw[eM z]at p;clear z a HR HL HK HV G;go_wp2_with fail;clear a3 b3;generalize x4.setCell ⟨sc,3,O⟩ (I J (d:Int))=x5 at i p2 r0 r1 r2 r3⊢;refine(p.o _).mono ?_;rintro e x6 ⟨rfl,b6⟩;have F:=af (Na (i.o.below b6).1.1 x6.heap.size rfl);go_wp2_with fail;go_ret2;exact⟨_,[],iF,rfl,F.o.1,F.o.2,.inl ⟨by rw[E.o,m.o];rfl,rfl,rfl⟩⟩
  ·have ar:q=t.size:=by omega
   have m:ah (fR t.data.toList q=X []):=Bt (show t.size<=q by omega)
   go_wp2_with fail;go_ret2;exact⟨_,acc,iV,rfl,R.o.2.2.2.1,R.o.1,.inr ⟨by rw[E.o,m.o];simp,rfl⟩⟩
def Words.Pg.tu(p:Pg):Int×Int×Int×Int×Int×ByteArray:=(p.kind,p.seq,p.tx,p.part,p.count,p.text)
def UB(w:iW)(Q:List Pg)(ok:Bool)(e:Ending)(w':iW):Prop:=
 ∃a,e=G (iU #[a,iB ok])/\w'.ownsRow w.heap.size 44 6 a Q.length (jO (Q.map Pg.tu))/\iL w.heap.size w w'
def oz(gs:List (List Rc)):List iX:=gs.map (λg=>iT (eS g))
theorem aav(gs:List (List Rc))(g:List Rc):oz gs++[iT (eS g)]=oz (gs++[g]):=by simp[oz]
theorem Oa(gs:List (List Rc))(g a:List Rc)(m:Nat)(b:gs.length=m):(oz (gs++[g])).set m (iT (eS a))=oz (gs++[a]):=by
 subst b;simp[oz,List.set_append_right]
def TS(w W:iW)(a:iX)(gs:List (List Rc)):Prop:=
 iL w.heap.size w W/\W.heap[w.heap.size]?=X (iC #[] 44 (0,0))/\W.ownsRow (w.heap.size+1) 9 1 a gs.length (oz gs)
variable{gs:List (List Rc)}
theorem TS.below{w W W':iW}{a:iX}(h:TS w W a gs)(b:iL W.heap.size W W'):TS w W' a gs:=
 ⟨h.1.trans (b.mono h.1.size),(b.block _ (aK.1 h.2.1).1).trans h.2.1,bC h.2.2 b⟩
theorem TS.start(w:iW):TS w ((w.alloc (iC #[] 44)).alloc (iC #[iT ⟨#[]⟩] 9)) (Y (X ⟨w.heap.size+1,0,O⟩) 1 1) [[]]:=by
 have a:(w.alloc (iC #[] 44)).heap.size=w.heap.size+1:=by simp
 have h1:=aB (w.alloc (iC #[] 44)) (iC #[iT ⟨#[]⟩] 9);rw[a]at h1;refine⟨(aZ).alloc (by simp) _,?_,rfl,.inr ⟨w.heap.size+1,1,#[iT ⟨#[]⟩],rfl,am _,h1,am _,by unfold maxLen;omega,rfl,rfl⟩⟩
 exact(gn (w.alloc (iC #[] 44)) (iC #[iT ⟨#[]⟩] 9) w.heap.size (by simp)).trans (aB w (iC #[] 44))
theorem TS.grown{w W y:iW}{g u':iX}{a:List (List Rc)}(h:TS w W g gs)(f:W.grownBy y g.ownBlock)(j:y.ownsRow (w.heap.size+1) 9 1 u' a.length (oz a)):TS w y u' a:=by
 obtain⟨h1,c,d⟩:=h;have b:=(aK.1 c).1;refine⟨h1.grown f h1.size (λk i=>uQ (d.lt k i).1),?_,j⟩
 refine(f.block _ b (λe=>?_)).trans c
 have:=(d.lt _ e.symm).1;omega
theorem TS.none{w W:iW}{a:iX}(h:TS w W a gs):W.ownsRow w.heap.size 44 6 (Y (X ⟨w.heap.size,0,Option.none⟩) 0 0) ([]:List Pg).length (jO (([]:List Pg).map Pg.tu)):=
 ⟨rfl,.inr ⟨w.heap.size,0,#[],rfl,am _,h.2.1,am _,by unfold maxLen;omega,rfl,rfl⟩⟩
theorem TS.len{w W:iW}{c:Nat}(h:TS w W (Y (X ⟨g,0,Option.none⟩) n c) gs):gs.length=n:=by
 rcases h.2.2.2 with⟨e,-⟩|⟨_,_,_,e,-⟩
 ·simp at e
 ·simp at e;exact e.2.1.symm
theorem TS.at_{w W:iW}{c:Nat}(h:TS w W (Y (X ⟨g,0,Option.none⟩) n c) gs){x:List Rc}(a:gs[m]?=X x):W.cell? ⟨g,m,Option.none⟩=X (iT (eS x)):=by
 have:=h.2.2.cells (g:=g) rfl m (iT (eS x)) (by simp[oz,a])
 rwa [fh]at this
theorem TS.stored{w W:iW}{c:Nat}{x y:List Rc}(h:TS w W (Y (X ⟨g,0,Option.none⟩) n c) (gs++[x]))(e:gs.length=m):TS w (W.setCell ⟨g,m,Option.none⟩ (iT (eS y))) (Y (X ⟨g,0,Option.none⟩) n c) (gs++[y]):=by
 have b:=h.len;have a:=h.2.2;rw[b]at a;obtain⟨h4,d⟩:=a.stored m (iT (eS y));rw[Oa gs x y m e]at h4;refine TS.grown h d ?_;rw[show(gs++[y]).length=n by simpa using b]
 exact h4
theorem QS:(Tryz.prog.info? 9).map (λi=>(i.zero,i.size,i.bytes))=X (X (iT ⟨#[]⟩),1,16):=by kernel_rfl
theorem aa1(x:ByteArray):∀u∈ [iT x],u.oneCell'=iV:=by
 intro u a;simp at a;subst a;rfl
def n7(w W:iW)(b:iX)(gs:List (List Rc))(a:iX)(Q:List Pg):Prop:=
 TS w W b gs/\W.ownsRow (w.heap.size+1) 44 6 a Q.length (jO (Q.map Pg.tu))
variable{Q:List Pg}
theorem n7.below{w W W':iW}{c a:iX}(h:n7 w W c gs a Q)(b:iL W.heap.size W W'):n7 w W' c gs a Q:=
 ⟨h.1.below b,bC h.2 b⟩
theorem n7.grown{w W y:iW}{i n m:iX}{c:List Pg}(h:n7 w W i gs n Q)(d:W.grownBy y n.ownBlock)(r:y.ownsRow (w.heap.size+1) 44 6 m c.length (jO (c.map Pg.tu))):n7 w y i gs m c:=by
 obtain⟨⟨h1,j,l⟩,h4⟩:=h;have f:=(aK.1 j).1;refine⟨⟨h1.grown d h1.size (λk q=>uQ (h4.lt k q).1),?_,?_⟩,r⟩
 ·refine(d.block _ f (λe=>?_)).trans j
  have:=(h4.lt _ e.symm).1;omega
 ·refine l.kept d ?_;cases g:i.ownBlock with
  |none=>exact .inl rfl
  |some a=>
   refine .inr λe=>?_
   rcases l.2 with⟨rfl,-⟩|⟨g3,c3,o,rfl,-,s,-⟩
   ·cases g
   ·rcases h4.2 with⟨rfl,-⟩|⟨u,t,p,rfl,-,b,-⟩
    ·cases e
    ·simp only[Value.ownBlock,fq]at g e;subst g;subst e;rw[s]at b;injection b with b
     injection b with _ b
     simp at b
theorem n7.start{w W:iW}{a:iX}(h:TS w W a gs):n7 w (W.alloc (iC #[] 44)) a gs (Y (X ⟨W.heap.size,0,Option.none⟩) 0 0) []:=
 ⟨h.below (aZ),rfl,.inr ⟨W.heap.size,0,#[],rfl,(aK.1 h.2.1).1,aB W _,am _,by unfold maxLen;omega,rfl,rfl⟩⟩
theorem Tb(W:iW)(p:Pg)(g:Nat)(b:W.heap.size=g):∀(j:Nat) (u:iX),(mY p.tu)[j]?=X u->(W.alloc (iC #[I J p.kind,I J p.seq,I J p.tx,I J p.part,I J p.count,iT p.text] 44)).cell? ((⟨g,0,Option.none⟩:Addr).add j)=X u:=by
 intro j u a;subst b
 match j,a with
 |0,a|1,a|2,a|3,a|4,a|5,a=>
  simp[mY,Pg.tu]at a;subst a;simp[Addr.add]
theorem WP(p:Pg):∀u∈mY p.tu,u.oneCell'=iV:=by
 intro u a;simp[mY]at a;rcases a with h|h|h|h|h|h<;>subst h<;>rfl
theorem YR(Q:List Pg)(p:Pg):jO (Q.map Pg.tu)++mY p.tu=jO ((Q++[p]).map Pg.tu):=by
 rw[gV,Vi];simp[jO]
theorem Uv(seq tx:Int)(ad:Option Addr)(a cap:Nat)(l:List Rc)(w:iW)(hl:a<=33554432)(h:kU w ad a (l.map Rc.tu)):
 iK Tryz.prog 146 #[I J seq,I J tx,Y ad a cap] w (UB w (kj seq tx l) (@decide (ja seq tx l) (nh seq tx l))):=by
 have HR:=af h;have hn:l.length=a:=by have:=h.1;simpa using this
 have HN:=af hn;clear h hn;have T0:ah (TS w ((w.alloc (iC #[] 44)).alloc (iC #[iT ⟨#[]⟩] 9)) (Y (X ⟨w.heap.size+1,0,O⟩) 1 1) (cU (l.take 0))):=TS.start w;go_enter Tryz.func146,Tryz.ntmps146;go_wp2;generalize(w.alloc (iC #[] 44)).alloc (iC #[iT ⟨#[]⟩] 9)=wa at T0⊢;go_loopw [9,10] (λuv S wr=>∃k:Nat,k<=a/\S=I J k/\(∃V m tc:Nat,uv=Y (X ⟨V,0,O⟩) (m+1) tc/\m<=k/\ah (TS w wr (Y (X ⟨V,0,O⟩) (m+1) tc) (cU (l.take k))))/\ah (∀r∈l.take k,r.Right)) (λ_ S _=>a-(intOf S).toNat)
 case atStart=>exact⟨0,aJ _,rfl,⟨_,0,_,rfl,am _,T0⟩,λr R=>by simp at R⟩
 case round=>
  obtain⟨k,hk,rfl,⟨V,m,tc,rfl,aC,T⟩,RR⟩:=hrel;clear T0;by_cases aB:(k:Int)<a
  ·have ar:k<l.length:=by have:=HN.o;omega
   obtain⟨r,hx⟩:∃r,l[k]?=X r:=⟨l[k],ay ar⟩;obtain⟨rb,ro,rfl,-,c0,c1,c2,c3⟩:=(HR.o.below T.o.1).at (k:=k) (t:=r.tu) (by rw[bh,hx];rfl)
   simp only[Rc.tu]at c0 c1 c2 c3;have C:=af (Tq r wr);unfold rN at C;have k0:(0:Int)<=k:=by omega
   obtain⟨B,gl,F⟩:∃B gl,pk (l.take k)=(B,gl):=⟨_,_,rfl⟩;have hG:cU (l.take k)=B++[gl]:=by unfold cU;rw[F]
   have hS:pk (l.take (k+1))=qc (B,gl) r:=by rw[Wk hx,F]
   rw[hG]at T;have M:B.length=m:=by have:=T.o.len;simpa using this
   by_cases R:r.Right
   ·have hz:=My r R;rw[ui,ak R]at C;have ac:ah (∀x∈l.take (k+1),x.Right):=by
     intro x an;rw[fm,hx,bJ]at an;rcases an with e|e
     ·exact RR.o x e
     ·simp at e;subst e;exact R
    have ag:(eS gl).size<=90:=by
     rw[Io];exact Ol _ RR.o gl (by rw[hG];simp)
    obtain⟨t,G⟩:=aq (mu r);rw[G]at C hz;go_wp2_with fail;refine C.o.mono ?_;rintro e c ⟨rfl,b1⟩;have d:=af (T.o.below b1);clear b1 T C c0 c1 c2 c3;have d0:c.cell? ⟨V,m,O⟩=X (iT (eS gl)):=d.o.at_ (by subst M;simp)
    have em:((m+1:Nat):Int)-1=(m:Int):=by omega
    have m0:(0:Int)<=m:=by omega
    have ae:(dU gl).length+(iD r).length=(eS gl).size+t.size:=by
     rw[Io,<-G];congr 1
    by_cases aj:(90:Int)<(eS gl).size+t.size
    ·have n:cU (l.take (k+1))=(B++[gl])++[[r]]:=by
      unfold cU;rw[hS,qc];simp only;rw[ak (by omega)]
     have et:t=eS [r]:=by rw[Yt,G]
     obtain⟨i0,p,v,z,A⟩:=bO QS;have I0:=af p;have Z0:=af v;have Z1:=af z;have Z2:=af A;have D:=af (d.o.2.2.alloc (iC #[iT t] 9));have W:=af (show w.heap.size+1<=(c.alloc (iC #[iT t] 9)).heap.size by have:=(aK.1 d.o.2.1).1;simp;omega)
     rw[d.o.len]at D;have H1:=af (lS c (iT t) 9);have H2:=af (aa1 t);have TA:=af (d.o.below ((ax _ _).alloc (am _) (iC #[iT t] 9)));have ab:=af n;have aa:=af et;clear p v z A n et hG hS F hx ae;generalize eS gl=tl at d0 aj ag⊢;go_wp2_with (at_builtin;refine cS _ rfl _ _ 184 rfl (w.heap.size+1) 9 i0 (iT ⟨#[]⟩) 1 16 Tryz.underlying184 I0.o Z0.o Z1.o Z2.o rfl (by decide) _ _ _ rfl D.o ⟨c.heap.size,0,O⟩ 1 1 [iT t] rfl rfl H1.o H2.o ?c1 ?c2 W.o ?_)
     case c1=>unfold maxLen;omega
     case c2=>omega
     intro u' y ho hg _;have s:y.ownsRow (w.heap.size+1) 9 1 u' ((B++[gl])++[[r]]).length (oz ((B++[gl])++[[r]])):=by
      rw[<-aav,<-aa.o];have:((B++[gl])++[[r]]).length=m+1+1:=by simp[M]
      rw[this];exact ho
     have K:=af (TA.o.grown hg s);rw[<-ab.o]at K;rcases ho.2 with⟨-,h0⟩|⟨aw,av,aA,rfl,-,-,-,-,-,-⟩
     ·omega
     clear ho hg s D W H1 H2 TA I0 Z0 Z1 Z2 ab aa d;go_wp2;go_roundw
     case rel=>exact⟨k+1,by omega,by go_num,⟨aw,m+1,av,rfl,by omega,K⟩,ac⟩
     case measure=>simp[intOf];omega
    ·have n:cU (l.take (k+1))=B++[gl++[r]]:=by
      unfold cU;rw[hS,qc];simp only;rw[ai (by omega)]
     have et:eS gl++t=eS (gl++[r]):=by rw[<-WL,G]
     have K:=af (d.o.stored (y:=gl++[r]) M);rw[<-n,<-et]at K;have f0:c.frozen? ⟨V,m,O⟩=iF:=by
      have h3:=d.o.2.2;rw[d.o.len]at h3;exact h3.frozenAt m
     have Yq:¬(9223372036854775807<(eS gl).size+t.size):=by omega
     clear n et hG hS F hx ae;generalize eS gl=tl at d0 aj ag K Yq⊢;obtain⟨u,U⟩:=aq (tl++t);rw[U]at K;go_wp2;go_roundw
     case rel=>exact⟨k+1,by omega,by go_num,⟨V,m,tc,rfl,by omega,K⟩,ac⟩
     case measure=>simp[intOf];omega
   ·rw[ui,ai R]at C;have b:ah (kj seq tx l=[]/\ @decide (ja seq tx l) (nh seq tx l)=iF):=by
     have:¬ja seq tx l:=λh=>R (h.1 r (aL hx))
     exact⟨ai this,eM this⟩
    go_wp2_with fail;refine C.o.mono ?_;rintro e c ⟨rfl,b1⟩;have d:=af (T.o.below b1);clear b1 T C c0 c1 c2 c3;go_wp2;go_ret2;rw[b.o.1,b.o.2];exact⟨_,rfl,d.o.none,d.o.1⟩
  ·have au:k=l.length:=by have:=HN.o;omega
   rw[au,mD]at T RR;have N:=T.o.len;by_cases h9:(9:Int)<((m+1:Nat):Int)
   ·have b:ah (kj seq tx l=[]/\ @decide (ja seq tx l) (nh seq tx l)=iF):=by
     have:¬ja seq tx l:=λh=>by have:=h.2.1;omega
     exact⟨ai this,eM this⟩
    clear N;go_wp2;go_ret2;rw[b.o.1,b.o.2];exact⟨_,rfl,T.o.none,T.o.1⟩
   ·by_cases hq:1<=seq/\seq<=1000000000-((m+1:Nat):Int)+1
    ·by_cases G:1<=tx/\tx<=1000000000
     ·have Q:ja seq tx l:=⟨RR.o,by omega,hq.1,by rw[N];exact hq.2,G.1,G.2⟩
      have b:ah (kj seq tx l=co seq tx l/\ @decide (ja seq tx l) (nh seq tx l)=iV):=⟨ak Q,n8 Q⟩;have HM:=af N;clear N Q;go_wp2_with fail;refine(gO seq 1 _ iV _ (.inl ⟨by omega,by omega,rfl⟩)).mono ?_
      rintro e c ⟨rfl,rfl⟩;go_wp2_with fail;refine(gO tx 1 1000000000 iV _ (.inl ⟨by omega,by omega,rfl⟩)).mono ?_
      rintro e c ⟨rfl,rfl⟩;have P0:=af (n7.start T.o);obtain⟨x0,al⟩:=aq c.heap.size;rw[al]at P0;go_wp2_with fail;try rw[al]
      generalize c.alloc (iC #[] 44)=wb at P0⊢;go_loopw [14,15] (λov S wr=>∃j:Nat,j<=m+1/\S=I J j/\ah (n7 w wr (Y (X ⟨V,0,O⟩) (m+1) tc) (cU l) ov ((co seq tx l).take j))) (λ_ S _=>m+1-(intOf S).toNat)
      case atStart=>exact⟨0,aJ _,rfl,P0⟩
      case round=>
       obtain⟨j,hj,rfl,P⟩:=hrel;clear P0;by_cases az:(j:Int)<((m+1:Nat):Int)
       ·have ao:j<(cU l).length:=by have:=HM.o;omega
        obtain⟨g,L⟩:∃g,(cU l)[j]?=X g:=⟨_,ay ao⟩;have d0:=P.o.1.at_ L;obtain⟨pg,E⟩:∃pg:Pg,pg=⟨2,seq+j,tx,j,((m+1:Nat):Int),eS g⟩:=⟨_,rfl⟩;have hT:ah ((co seq tx l).take j++[pg]=(co seq tx l).take (j+1)):=by
         show _=_;rw[fm,Kb L,E];simp[ry,HM.o]
        have q:((co seq tx l).take j).length=j:=by rw[cD,xn];omega
        have Z:=af (P.o.below ((ax _ _).alloc (am _) (iC #[I J 2,I J (seq+j),I J tx,I J j,I J ((m+1:Nat):Int),iT (eS g)] 44)));have f:=af (Tb wr pg wr.heap.size rfl);have i:=af (WP pg);have H:=af (YR ((co seq tx l).take j) pg);rw[E]at f i;simp only[Pg.tu,mY]at f i;have D:=af Z.o.2;have W:=af (show w.heap.size+1<=(wr.alloc (iC #[I J 2,I J (seq+j),I J tx,I J j,I J ((m+1:Nat):Int),iT (eS g)] 44)).heap.size by have:=(aK.1 Z.o.1.2.1).1;omega)
        rw[q]at D;have HL:=af q;have HP:=af E;obtain⟨i0,p,v,z,A⟩:=bO Yv;have I0:=af p;have Z0:=af v;have Z1:=af z;have Z2:=af A;clear p v z A q E L P;generalize(co seq tx l).take j=Qj at Z H D hT HL;generalize eS g=tt at d0 Z f i D W HP⊢;have j0:(0:Int)<=j:=by omega
        go_wp2_with (at_builtin;refine cS _ rfl _ _ 211 rfl (w.heap.size+1) 44 i0 (iA #[I J 0,I J 0,I J 0,I J 0,I J 0,iT ⟨#[]⟩]) 6 56 Tryz.underlying211 I0.o Z0.o Z1.o Z2.o rfl (by decide) _ _ _ rfl D.o ⟨wr.heap.size,0,O⟩ 1 1 [I J 2,I J (seq+j),I J tx,I J j,I J ((m+1:Nat):Int),iT tt] rfl rfl f.o i.o ?c1 ?c2 W.o ?_)
        case c1=>unfold maxLen;omega
        case c2=>omega
        intro u' y ho hg _;have s:y.ownsRow (w.heap.size+1) 44 6 u' ((co seq tx l).take (j+1)).length (jO (((co seq tx l).take (j+1)).map Pg.tu)):=by
         rw[<-hT.o,<-H.o,aI,HL.o,HP.o];exact ho
        have PN:=af (Z.o.grown hg s);clear ho hg s D W f i H Z I0 Z0 Z1 Z2 hT HP HL d0;go_wp2;go_roundw
        case rel=>exact⟨j+1,by omega,by go_num,PN⟩
        case measure=>simp[intOf];omega
       ·have ap:j=(co seq tx l).length:=by rw[xn];have:=HM.o;omega
        rw[ap,mD]at P;go_wp2;go_ret2;rw[b.o.1,b.o.2];exact⟨_,rfl,oJ P.o.2 (Nat.le_succ _),P.o.1.1⟩
     ·have b:ah (kj seq tx l=[]/\ @decide (ja seq tx l) (nh seq tx l)=iF):=by
       have:¬ja seq tx l:=λh=>G h.2.2.2.2
       exact⟨ai this,eM this⟩
      clear N;go_wp2_with fail;refine(gO seq 1 _ iV _ (.inl ⟨by omega,by omega,rfl⟩)).mono ?_
      rintro e c ⟨rfl,rfl⟩;go_wp2_with fail;refine(gO tx 1 1000000000 iF _ (.inr ⟨by omega,rfl⟩)).mono ?_
      rintro e c ⟨rfl,rfl⟩;go_wp2;go_ret2;rw[b.o.1,b.o.2];exact⟨_,rfl,T.o.none,T.o.1⟩
    ·have b:ah (kj seq tx l=[]/\ @decide (ja seq tx l) (nh seq tx l)=iF):=by
      have:¬ja seq tx l:=λh=>hq ⟨h.2.2.1,by have:=h.2.2.2.1;rw[N]at this;exact this⟩
      exact⟨ai this,eM this⟩
     clear N;go_wp2_with fail;refine(gO seq 1 _ iF _ (.inr ⟨by omega,rfl⟩)).mono ?_
     rintro e c ⟨rfl,rfl⟩;go_wp2;go_ret2;rw[b.o.1,b.o.2];exact⟨_,rfl,T.o.none,T.o.1⟩
end Go.Proofs.YtgigcooffjjbgaaGreatDoor
