/-
  SMount; SBd17; SCl1; DoS
-/
import Derived.Test.YtijmbohadndfmaaGreatDoorPk19
open Go.Value renaming int→I,slice→Y,string→iT,bool→iB,agg→iA,tuple→iU
open Go.IntKind renaming i64→J
open Option renaming none→O,some→X
open Go.Ending renaming returned→G
open Go.Obj renaming cells→iC
open Bool renaming true→iV,false→iF
open Go renaming World→iW,Value→iX,Calls→iK
open Go.RowKit renaming Below→iL
set_option maxHeartbeats 4000000
set_option maxRecDepth 100000
namespace Go.Proofs.YtijmbohadndfmaaGreatDoor
open Go.RowKit Words Sums
def cZ(w W:iW)(z g lo hi slo:Nat)(a vv kv:iX)(bs:List Bk)(s:Sto)(q t b:Int):Prop:=
 iL w.heap.size w W/\aP W z (Y O 0 0) (Y O 0 0) (Y O 0 0) 0 0 0 0/\aP W g a vv kv s.next q t b/\cu lo hi a bs W/\eB slo g (iA #[vv,kv,I J s.next]) s W/\(w.heap.size<=z/\z<lo/\z<slo/\lo<=hi/\hi<=g/\hi<=slo)
variable{a:Act}{ops:Array Oper}{b:Int}{rest:List Oper}{g lo slo z k B c:Nat}
variable{bs:List Bk}{s:Sto}
theorem cZ.below{w W W':iW}{hi:Nat}{d vv kv:iX}{q t:Int}(h:cZ w W z g lo hi slo d vv kv bs s q t b)(a:iL W.heap.size W W'):cZ w W' z g lo hi slo d vv kv bs s q t b:=by
 obtain⟨h1,f,e,h4,i,j,k,l,m,c⟩:=h;have:=e.lt;exact⟨h1.trans (a.mono h1.size),f.below a,e.below a,cu.loc _ _ _ _ W _ (λx n o=>a.block x (by omega)) h4,i.below a,j,k,l,m,c⟩
theorem cZ.drewN{w W:iW}{hi:Nat}{a vv kv:iX}{q t:Int}(h:cZ w W z g lo hi slo a vv kv bs s q t b)(n:Nat):cZ w (W.drewN n) z g lo hi slo a vv kv bs s q t b:=h.below (bI (ax _ _) n)
theorem cZ.upd{w W W':iW}{hi:Nat}{a vv kv:iX}{q t q' t' e:Int}(h:cZ w W z g lo hi slo a vv kv bs s q t b)(d:∀x,x≠g->W'.heap[x]?=W.heap[x]?)(u:W'.heap.size=W.heap.size)(n:iL g W W')(o:aP W' g a vv kv s.next q' t' e):cZ w W' z g lo hi slo a vv kv bs s q' t' e:=by
 obtain⟨h1,f,r,h4,i,j,k,l,m,c⟩:=h;exact⟨h1.trans (n.mono (by omega)),(d z (by omega)).trans f,o,cu.loc _ _ _ _ W _ (λx v y=>d x (by omega)) h4,i.keep (λx _ p _=>d x p) (by omega),j,k,l,m,c⟩
theorem cZ.seq{w W:iW}{hi:Nat}{a vv kv:iX}{q t:Int}(h:cZ w W z g lo hi slo a vv kv bs s q t b)(x:Int):cZ w (W.setCell ⟨g,4,O⟩ (I J x)) z g lo hi slo a vv kv bs s x t b:=
 h.upd (λ_ c=>aU _ _ _ _ c) (by simp) ((ax g W).setCell (p:=⟨g,4,O⟩) (ak _) _) (h.2.2.1.seq x)
theorem cZ.tx{w W:iW}{hi:Nat}{a vv kv:iX}{q t:Int}(h:cZ w W z g lo hi slo a vv kv bs s q t b)(x:Int):cZ w (W.setCell ⟨g,5,O⟩ (I J x)) z g lo hi slo a vv kv bs s q x b:=
 h.upd (λ_ c=>aU _ _ _ _ c) (by simp) ((ax g W).setCell (p:=⟨g,5,O⟩) (ak _) _) (h.2.2.1.tx x)
theorem cZ.base{w W:iW}{hi:Nat}{a vv kv:iX}{q t:Int}(h:cZ w W z g lo hi slo a vv kv bs s q t b)(x:Int):cZ w (W.setCell ⟨g,6,O⟩ (I J x)) z g lo hi slo a vv kv bs s q t x:=
 h.upd (λ_ c=>aU _ _ _ _ c) (by simp) ((ax g W).setCell (p:=⟨g,6,O⟩) (ak _) _) (h.2.2.1.base x)
theorem cZ.fS{w W e:iW}{hi:Nat}{k vv kv c a:iX}{f:Sto}{q t:Int}(h:cZ w W z g lo hi slo k vv kv bs s q t b)(m:fh W f (iA #[c,a,I J f.next]) e)(hs:slo<=W.heap.size):cZ w (((e.setCell ⟨g,1,O⟩ c).setCell ⟨g,2,O⟩ a).setCell ⟨g,3,O⟩ (I J f.next)) z g lo hi slo k c a bs f q t b:=by
 have A:=m.blw;have B:=h.2.2.1.lt;obtain⟨h1,n,o,h4,C,r,u,v,y,i⟩:=h.below A;have l:∀x,x≠g->(((e.setCell ⟨g,1,O⟩ c).setCell ⟨g,2,O⟩ a).setCell ⟨g,3,O⟩ (I J f.next)).heap[x]?=e.heap[x]?:=λx j=>by
  rw[aU _ ⟨g,3,O⟩ _ _ j,aU _ ⟨g,2,O⟩ _ _ j,aU _ ⟨g,1,O⟩ _ _ j]
 have d:w.heap.size<=g:=by omega
 refine⟨((h1.setCell (p:=⟨g,1,O⟩) d _).setCell (p:=⟨g,2,O⟩) d _).setCell (p:=⟨g,3,O⟩) d _,(l z (by omega)).trans n,o.fS _ _ _,cu.loc _ _ _ _ e _ (λx D E=>l x (by omega)) h4,?_,r,u,v,y,i⟩
 exact(((eB.of m hs (.inl B)).set).set).set
theorem cZ.fin{w W:iW}{hi:Nat}{a vv kv:iX}{q t:Int}(h:cZ w W z g lo hi slo a vv kv bs s q t b):
 aP (bU W z a vv kv s.next q t b) z a vv kv s.next q t b/\cS w.heap.size (iA #[a,vv,kv,I J s.next,I J q,I J t,I J b]) ⟨bs,s,q,t,b⟩ (bU W z a vv kv s.next q t b)/\iL w.heap.size w (bU W z a vv kv s.next q t b):=by
 obtain⟨h1,l,m,h4,n,o,B,C,D,k⟩:=h;obtain⟨A,y,lo1,hi1,lo2,hi2,e,r,u,F,G,H,K,v⟩:=n;injection e with e
 injection e with e
 simp only[iQ,jY]at e;obtain⟨i,j⟩:=e;subst i j;have E:=m.lt;have c:∀x,x≠z->(bU W z a vv kv s.next q t b).heap[x]?=W.heap[x]?:=λx p=>qJ _ _ _ _ _ _ _ _ _ p
 refine⟨lX l _ _ _ _ _ _ _,⟨a,vv,kv,lo,hi,lo1,hi1,lo2,hi2,rfl,cu.loc _ _ _ _ W _ (λx d f=>c x (by omega)) h4,aB.loc _ _ _ _ _ _ W _ (λx d f=>c x (by omega)) r,dt.loc _ _ _ _ W _ (λx d f=>c x (by omega)) u,?_,?_,?_,.inl (by omega),.inl (by omega),v⟩,mj _ _ _ _ _ _ _ h1 o⟩<;>rw[Dk]<;>omega
variable{M:List aq}
theorem Ps{x:aq}(h:M[k]?=X x):gI (M.take (k+1))=if gI (M.take k)<=x.fP.seq then x.fP.seq+1 else gI (M.take k):=by
 rw[dF,h];unfold gI;rw[rh,rG];rfl
theorem SA{x:aq}(h:M[k]?=X x):fZ (M.take (k+1))=if x.fP.kind=2/\fZ (M.take k)<=x.fP.tx then x.fP.tx+1 else fZ (M.take k):=by
 rw[dF,h];unfold fZ;rw[rh,rG];rfl
theorem UY{L:List TxR}{t:TxR}(h:L[k]?=X t):eQ (L.take (k+1))=(i8 (eQ (L.take k)) t.fR).1:=by
 rw[dF,h];simp[eQ,List.foldl_append]
theorem XT(h:s.Right)(l:List Rc):(i8 s l).1.Right:=by
 unfold i8;cases e:dL s l with
 |none=>exact h
 |some m=>exact Ti h e
theorem Gx(L:List TxR):(eQ L).Right:=by
 have:∀(L:List TxR) (s:Sto),s.Right->(L.foldl (λs t=>(i8 s t.fR).1) s).Right:=by
  intro L
  induction L with
  |nil=>intro s h;exact h
  |cons t L a=>intro s h;exact a _ (XT h _)
 exact this L gO Ac
theorem yU:∀{l:List Nat} {x:Nat},x∈l->x<=l.sum
 |a::l,x,h=>by
  rw[gt];rcases bf.1 h with rfl|h
  ·omega
  ·have:=yU h;omega
theorem IM:∀(L:List TxR) (k:Nat),((L.drop k).map (λx=>x.fR.length)).sum<=(L.map (λx=>x.fR.length)).sum
 | [],k=>by simp
 |t::L,0=>ak _
 |t::L,k+1=>by
  have:=IM L k;simp only[List.drop_succ_cons,cD,gt];omega
theorem Tm{gs:List Xw}{L:List TxR}(h:gs.map dw=L.map TxR.tu)(hs:(L.map (λx=>x.fR.length)).sum<=1200){r:Xw}(a:r∈gs):r.2.2.2.length<=1048576:=by
 have h1:dw r∈L.map TxR.tu:=by rw[<-h];exact ou a
 obtain⟨t,b,e⟩:=bF.1 h1;have c:t.fR.length<=1200:=bR (yU (bF.2 ⟨t,b,rfl⟩)) hs;unfold dw TxR.tu at e;simp only[oJ]at e;rw[<-e.2.2,aS];omega
theorem wE(h:bn bs=iV):(aw bs).length<=40/\dl (λp=>p.text.size) ((aw bs).map aq.fP)<=3600:=by
 have h1:(aw bs).length<=bs.length*4:=JJ bs 4 (λb d=>by rw[vB h b d];exact ak _)
 have f:bs.length<=10:=by
  unfold bn at h;rw[bt,bW]at h;omega
 have c:∀M:List aq,(∀x∈M,x.fP.text.size<=90)->dl (λp=>p.text.size) (M.map aq.fP)<=90*M.length:=by
  intro M
  induction M with
  |nil=>intro _;simp[dl]
  |cons x M e=>
   intro a;have:=e (λy hy=>a y (by simp[hy]))
   have:=a x (by simp)
   simp only[dl,cD,gt,aR]at*;omega
 have h4:=c (aw bs) (λx a=>by have:=(sf a).2.2.2.2.2;omega)
 omega
theorem Ci(v:iX)(bs:List Bk)(w:iW)(hs:dg bs)(ha:fj w v bs):iK Tryz.prog 42 #[iA #[v]] w (AD w (eV bs).1 (eV bs).2):=by
 obtain⟨fd,fc,rfl⟩:=ha.form;have bb:(w.alloc (iC #[Y fd bs.length fc] 38)).heap.size=w.heap.size+1:=by simp
 have bA:iL w.heap.size w ((w.alloc (iC #[Y fd bs.length fc] 38)).alloc (iC #[Y O 0 0,Y O 0 0,Y O 0 0,I J 0,I J 0,I J 0,I J 0] 46)):=(aY).alloc (by simp) _
 have kA:((w.alloc (iC #[Y fd bs.length fc] 38)).alloc (iC #[Y O 0 0,Y O 0 0,Y O 0 0,I J 0,I J 0,I J 0,I J 0] 46)).cell? ⟨w.heap.size,0,O⟩=X (Y fd bs.length fc):=am _ _ 0 _ _ _ ((nM _ _ (by simp)).trans (az w (iC #[Y fd bs.length fc] 38)))
 have zA:aP ((w.alloc (iC #[Y fd bs.length fc] 38)).alloc (iC #[Y O 0 0,Y O 0 0,Y O 0 0,I J 0,I J 0,I J 0,I J 0] 46)) (w.heap.size+1) (Y O 0 0) (Y O 0 0) (Y O 0 0) 0 0 0 0:=by
  rw[<-bb];exact az _ _
 generalize bu:(w.alloc (iC #[Y fd bs.length fc] 38)).alloc (iC #[Y O 0 0,Y O 0 0,Y O 0 0,I J 0,I J 0,I J 0,I J 0] 46)=wa at bA kA zA;have aE:=ha.below bA;obtain⟨rs,e1,i1,l1,ag,aA⟩:=aE.lens hs;have CO:=af (wZ (Y fd bs.length fc) rs wa l1 ag i1);rw[e1]at CO;have HA:=af aE;have HS:=af hs;have ZA:=af zA;have aB:=af bA;clear ha hs aE i1 l1 ag aA e1 bA zA bb;go_enter Tryz.func42,Tryz.ntmps42;go_wp2_with fail;clear bu;refine CO.o.mono ?_;rintro e w1 ⟨rfl,b1⟩;have k1:=(b1.cell (bh wa _ kA)).trans kA;have S:=af (ZA.o.below b1);have B1:=af (aB.o.trans (b1.mono aB.o.size));have A1:=af (HA.o.below b1);clear CO b1 kA ZA HA aB;cases ae:bn bs with
 |false=>
  have HM:ah (eV bs=(rZ,iF)):=by show _=_;unfold eV;rw[ae];rfl
  obtain⟨y0,y1,y2,y3,y4,y5,y6⟩:=S.o.cells;have f0:=S.o.fr 0;have f1:=S.o.fr 1;have f2:=S.o.fr 2;have f3:=S.o.fr 3;have f4:=S.o.fr 4;have f5:=S.o.fr 5;have f6:=S.o.fr 6;have FD:=af (lX S.o (Y O 0 0) (Y O 0 0) (Y O 0 0) 0 0 0 0);have FB:=af (mj (Y O 0 0) (Y O 0 0) (Y O 0 0) 0 0 0 0 B1.o (g:=w.heap.size+1) (by omega))
  have FI:=af (Lg (B:=w.heap.size) (bU w1 (w.heap.size+1) (Y O 0 0) (Y O 0 0) (Y O 0 0) 0 0 0 0) FB.o.size);unfold bU at FD FB FI;clear ae A1 B1 S;go_wp2;refine aF (pI rfl _ _ (w.heap.size+1) _ _ _ _ _ _ _ rfl FD.o) rfl ?_;rw[HM.o];exact⟨_,rfl,FI.o,D9,FB.o⟩
 |true=>
  have av:=wE ae;have HM:ah (eV bs=(jk bs,iV)):=by show _=_;unfold eV;rw[ae];rfl
  obtain⟨rs,e1,i1,l1,ag,aA⟩:=A1.o.lens HS.o;have CS:=af (pR (Y fd bs.length fc) rs w1 l1 ag aA i1);rw[e1]at CS;unfold nH at CS;obtain⟨M,hM⟩:=an (aw bs);rw[hM]at CS av;have HP:ah (jk bs=⟨bs,eQ (cI M),gI M,fZ M,lV (cI M)⟩):=by show _=_;unfold jk;rw[hM]
  have bd:ah (∀x∈M,x.fP.Right):=by rw[<-hM];exact λx hx=>sf hx
  have aW:=af av;have a1:=av.1;clear ae rs e1 i1 l1 ag aA hM av;go_wp2_with fail;refine CS.o.mono ?_;rintro e H ⟨la,lc,rfl,h1,-,h3⟩;have k2:=(h3.cell (bh w1 _ k1)).trans k1;have R2:=af h1;have A2:=af (A1.o.below h3);have Z2:=af (S.o.below h3);have B2:=af (B1.o.trans (h3.mono B1.o.size));clear CS h1 h3 k1 A1 S B1;go_wp2_with fail;refine(xi _ bs _ HS.o A2.o).mono ?_;rintro e b ⟨x,rfl,fo,b3⟩;obtain⟨z,y,rfl⟩:=fo.form;have F3:ah (cu H.heap.size b.heap.size (Y z bs.length y) bs b):=fo;have R3:=af (R2.o.below b3);have Z3:=af (Z2.o.below b3);have B3:=af (B2.o.trans (b3.mono B2.o.size));have bt:=b3.size;have bN:=Z2.o.lt;clear fo b3 k2 A2 R2 Z2 B2;go_wp2_with fail;refine(Od _).mono ?_;rintro e a ⟨sv,rfl,so⟩;obtain⟨j,l,vc,ad,i,cap,rfl⟩:=so.form;have b4:=so.blw;have R4:=af (R3.o.below b4);have ba:=aO a (iC #[Y z bs.length y,Y j l vc,Y ad i cap,I J gO.next,I J 1,I J 1,I J 0] 46);have M0:ah (cZ w (a.alloc (iC #[Y z bs.length y,Y j l vc,Y ad i cap,I J gO.next,I J 1,I J 1,I J 0] 46)) (w.heap.size+1) a.heap.size H.heap.size b.heap.size b.heap.size (Y z bs.length y) (Y j l vc) (Y ad i cap) bs gO 1 1 0):=by
   have hb:=(B3.o.trans (b4.mono B3.o.size));exact⟨hb.trans (ba.mono hb.size),(Z3.o.below b4).below ba,az _ _,cu.loc _ _ _ _ b _ (λx T P=>(ba.block x (by have:=b4.size;omega)).trans (b4.block x P)) F3.o,(eB.of so (ak _) (.inr (ak _))).below ba,by omega,by omega,by omega,bt,b4.size,ak _⟩
  have BZ:=af ba;have bK:=b4.size;clear so b4 ba R3 Z3 B3 F3;go_wp2;generalize a.alloc (iC #[Y z bs.length y,Y j l vc,Y ad i cap,I J gO.next,I J 1,I J 1,I J 0] 46)=w5 at M0 BZ⊢;obtain⟨n,hn⟩:=an M.length;have HN:=af hn;rw[hn]at R4 a1⊢;clear hn;go_loopw [6] (λiv wr=>∃k:Nat,iv=I J k/\k<=n/\ah (cZ w wr (w.heap.size+1) a.heap.size H.heap.size b.heap.size b.heap.size (Y z bs.length y) (Y j l vc) (Y ad i cap) bs gO (gI (M.take k)) (fZ (M.take k)) 0)/\ah (iL a.heap.size a wr)) (λiv _=>n-(intOf iv).toNat)
  case atStart=>exact⟨0,rfl,aI _,M0,BZ⟩
  case round=>
   rename iW=>wr
   obtain⟨k,rfl,hk,C,BK⟩:=hrel;clear M0 BZ;have bm:(0:Int)<=k:=by omega
   by_cases bo:(k:Int)<n
   ·obtain⟨x,hx⟩:∃x,M[k]?=X x:=⟨_,ay (by have:=HN.o;omega)⟩
    have hR:=bd.o x (aH hx);have ao:=af (Ps hx);have A:=af (SA hx);have HX:=af hx;obtain⟨sq,a3⟩:=an (gI (M.take k));obtain⟨tq,a7⟩:=an (fZ (M.take k));rw[a3]at C ao;rw[a7]at C A;obtain⟨xb,xl,pk,pq,px,pp,pc,pt⟩:=x;have bG:1<=pq/\pq<=1000000000:=⟨hR.2.1,hR.2.2.1⟩;have bH:1<=px/\px<=1000000000:=⟨hR.2.2.2.1,hR.2.2.2.2.1⟩;simp only at ao A;clear hx hR a3 a7;have N:ah (∀m,cZ w (wr.drewN m) (w.heap.size+1) a.heap.size H.heap.size b.heap.size b.heap.size (Y z bs.length y) (Y j l vc) (Y ad i cap) bs gO sq tq 0):=λm=>C.o.drewN m
    have BD:ah (∀m,iL a.heap.size a (wr.drewN m)):=λm=>bI BK.o m
    have d:=C;have E:=BK;obtain⟨rb,ro,R,-,Q,c1,c2,c3,c4,c5,c6,c7,d4⟩:=(R4.o.below E.o).all HX.o;subst R;simp only at Q c1 c2 c3 c4 c5 c6 c7 d4;have d3:=c3;rw[show ro+k*8+3=ro+k*8+2+1 from rfl]at d3;obtain⟨-,-,-,-,y4,y5,-⟩:=d.o.2.2.1.cells;have f4:=d.o.2.2.1.fr 4;have f5:=d.o.2.2.1.fr 5;clear d E C BK;obtain⟨p,hp⟩:=an (decide (pq≥sq));have U:ah (gI (M.take (k+1))=if p=iV then pq+1 else sq):=by show _=_;rw[ao.o,<-hp];simp only[bW,ge_iff_le]
    go_wp2;go_quiet (fail);generalize f:wr.drewN _=wy;have d:ah (cZ w wy (w.heap.size+1) a.heap.size H.heap.size b.heap.size b.heap.size (Y z bs.length y) (Y j l vc) (Y ad i cap) bs gO sq tq 0):=by rw[<-f];exact N.o _
    have E:ah (iL a.heap.size a wy):=by rw[<-f];exact BD.o _
    clear f N BD Q c1 c2 c3 c4 c5 c6 c7 d3 d4 y4 y5 f4 f5 ao;go_upto_if 33 with fail
    clear hp;go_cut [] (λV=>ah (cZ w V (w.heap.size+1) a.heap.size H.heap.size b.heap.size b.heap.size (Y z bs.length y) (Y j l vc) (Y ad i cap) bs gO (gI (M.take (k+1))) tq 0)/\ah (iL a.heap.size a V))
    case first=>
     cases p with
     |true=>
      obtain⟨rb,ro,R,-,Q,c1,c2,c3,c4,c5,c6,c7,d4⟩:=(R4.o.below E.o).all HX.o;injection R with R;injection R with e9a e9b;subst e9a e9b
      simp only at Q c1 c2 c3 c4 c5 c6 c7 d4;have d3:=c3;rw[show ro+k*8+3=ro+k*8+2+1 from rfl]at d3;obtain⟨-,-,-,-,y4,y5,-⟩:=d.o.2.2.1.cells;have f4:=d.o.2.2.1.fr 4;have f5:=d.o.2.2.1.fr 5;have MR:=af (d.o.seq (pq+1));rw[aj rfl]at U;have BR:=af (E.o.setCell (p:=⟨a.heap.size,4,O⟩) (ak _) (I J (pq+1)));clear d E;go_wp2_with fail;go_meet
      case rel=>exact⟨by rw[U.o];exact MR,BR⟩
     |false=>
      rw[ai (by simp)]at U
      rw[<-U.o]at d;go_wp2_with fail;go_meet
      case rel=>exact⟨d,E⟩
    case rest=>
     obtain⟨wq,hV⟩:∃wq,wq=wc:=⟨_,rfl⟩;subst hV;clear d E U;obtain⟨d,E⟩:=hcut;have N:ah (∀m,cZ w (wq.drewN m) (w.heap.size+1) a.heap.size H.heap.size b.heap.size b.heap.size (Y z bs.length y) (Y j l vc) (Y ad i cap) bs gO (gI (M.take (k+1))) tq 0):=λm=>d.o.drewN m
     have BD:ah (∀m,iL a.heap.size a (wq.drewN m)):=λm=>bI E.o m
     obtain⟨rb,ro,R,-,Q,c1,c2,c3,c4,c5,c6,c7,d4⟩:=(R4.o.below E.o).all HX.o;injection R with R;injection R with e9a e9b;subst e9a e9b
     simp only at Q c1 c2 c3 c4 c5 c6 c7 d4;have d3:=c3;rw[show ro+k*8+3=ro+k*8+2+1 from rfl]at d3;obtain⟨-,-,-,-,y4,y5,-⟩:=d.o.2.2.1.cells;have f4:=d.o.2.2.1.fr 4;have f5:=d.o.2.2.1.fr 5;clear d E;by_cases q:pk=2/\tq<=px
     ·have q1:(pk==2)=iV:=by simpa using q.1
      have q3:decide (px≥tq)=iV:=aQ q.2;rw[aj q]at A;clear q;go_wp2;go_quiet (fail);generalize f:wq.drewN _=wz;have d:ah (cZ w wz (w.heap.size+1) a.heap.size H.heap.size b.heap.size b.heap.size (Y z bs.length y) (Y j l vc) (Y ad i cap) bs gO (gI (M.take (k+1))) tq 0):=by rw[<-f];exact N.o _
      have E:ah (iL a.heap.size a wz):=by rw[<-f];exact BD.o _
      clear f N BD Q c1 c2 c3 c4 c5 c6 c7 d3 d4 y4 y5 f4 f5;obtain⟨rb,ro,R,-,Q,c1,c2,c3,c4,c5,c6,c7,d4⟩:=(R4.o.below E.o).all HX.o;injection R with R;injection R with e9a e9b;subst e9a e9b
      simp only at Q c1 c2 c3 c4 c5 c6 c7 d4;have d3:=c3;rw[show ro+k*8+3=ro+k*8+2+1 from rfl]at d3;obtain⟨-,-,-,-,y4,y5,-⟩:=d.o.2.2.1.cells;have f4:=d.o.2.2.1.fr 4;have f5:=d.o.2.2.1.fr 5;have MN:ah (cZ w (wz.setCell ⟨a.heap.size,5,O⟩ (I J (px+1))) (w.heap.size+1) a.heap.size H.heap.size b.heap.size b.heap.size (Y z bs.length y) (Y j l vc) (Y ad i cap) bs gO (gI (M.take (k+1))) (fZ (M.take (k+1))) 0):=by rw[A.o];exact d.o.tx _
      have BN:=af (E.o.setCell (p:=⟨a.heap.size,5,O⟩) (ak _) (I J (px+1)));clear d E A;go_wp2;go_roundw
      case rel=>exact⟨k+1,by go_num,by omega,MN,BN⟩
      case measure=>simp[intOf];omega
     ·rw[ai q]at A;have q:((pk==2)=iV/\decide (px≥tq)=iF)∨(pk==2)=iF:=by
       by_cases q1:pk=2
       ·exact .inl ⟨by simpa using q1,aV (λh=>q ⟨q1,h⟩)⟩
       ·exact .inr (by simpa using q1)
      rcases q with⟨q1,q3⟩|q1
      all_goals
       go_wp2;go_quiet (fail);generalize f:wq.drewN _=wz;have MN:ah (cZ w wz (w.heap.size+1) a.heap.size H.heap.size b.heap.size b.heap.size (Y z bs.length y) (Y j l vc) (Y ad i cap) bs gO (gI (M.take (k+1))) (fZ (M.take (k+1))) 0):=by rw[A.o,<-f];exact N.o _
       have BN:ah (iL a.heap.size a wz):=by rw[<-f];exact BD.o _
       clear f N BD A;go_wp2;go_roundw
       case rel=>exact⟨k+1,by go_num,by omega,MN,BN⟩
       case measure=>simp[intOf];omega
   ·have ek:M.take k=M:=cm (by have:=HN.o;omega)
    have F:ah (cZ w wr (w.heap.size+1) a.heap.size H.heap.size b.heap.size b.heap.size (Y z bs.length y) (Y j l vc) (Y ad i cap) bs gO (gI M) (fZ M) 0):=by have:=C.o;rw[ek]at this;exact this
    have R5:=af (R4.o.below BK.o);have bl:=C.o.2.2.1.lt;obtain⟨L1,ap⟩:=an (dA (M.map aq.fP));have q8:=Hn (M.map aq.fP);rw[ap,aS,HN.o]at q8;have CG:=af (DX la n lc M wr (by omega) (by have:=aW.o.2;omega) R5.o)
    rw[ap]at CG;have W:ah ((L1.map (λx=>x.fR.length)).sum<=1200):=by have:=aW.o.2;show _<=_;omega
    have bq:=q8.2;obtain⟨n1,ab⟩:=an L1.length;have aN:=af ab;rw[ab]at bq;have aX:ah (cI M=jB L1):=by show _=_;unfold cI;rw[ap]
    clear ek C BK R5 ap q8 ab R4;go_wp2_with fail;refine CG.o.mono ?_;rintro e w6 h6;obtain⟨ga,gc,gs,rfl,aZ,aG,a0,b6⟩:=h6.rows aN.o;have M6:=af (F.o.below b6);have bC:a.heap.size<w6.heap.size:=by have:=b6.size;omega
    obtain⟨c,aa⟩:=an (jB L1);have bB:=af aa;have CI:=af (Px ga n1 gc gs L1 w6 (by omega) (λr hr=>Tm aG W.o hr) aG (a0.txs.rd aZ (ak _)))
    rw[aa]at CI aX;have br:c.length<=n1:=by rw[<-aa];unfold jB;rw[jz,aN.o];omega
    obtain⟨n2,ac⟩:=an c.length;have al:=af ac;rw[ac]at br;have bg:ah ((c.map (λx=>x.fR.length)).sum<=1200):=by
     have h1:=W.o;show _<=_;rw[<-aa];unfold jB;exact bR (IM _ _) h1
    clear h6 aZ aG a0 b6 F CG aa ac bl W;go_wp2_with fail;refine CI.o.mono ?_;rintro e s h7;obtain⟨ta,tc,ts,rfl,a6,a8,a9,b7⟩:=h7.rows al.o;have M7:=af (M6.o.below b7);have X7:=af a9.txs;have aC:=af a6;have bj:=af a8;have bL:=b7.size;clear h7 a6 a8 a9 b7 M6 CI;go_wp2;go_loopw [8] (λiv wr=>∃(k:Nat) (j:Option Addr) (l vc:Nat) (ad:Option Addr) (i cap:Nat),iv=I J k/\k<=n2/\ah (cZ w wr (w.heap.size+1) a.heap.size H.heap.size b.heap.size b.heap.size (Y z bs.length y) (Y j l vc) (Y ad i cap) bs (eQ (c.take k)) (gI M) (fZ M) (if k=0 then 0 else lV c))/\ah (s.heap.size<=wr.heap.size/\∀x,w6.heap.size<=x->x<s.heap.size->wr.heap[x]?=s.heap[x]?)) (λiv _=>n2-(intOf iv).toNat)
    case atStart=>exact⟨0,j,l,vc,ad,i,cap,rfl,aI _,M7,ak _,λ_ _ _=>rfl⟩
    case round=>
     rename iW=>wr
     obtain⟨k,j,l,vc,ad,i,cap,rfl,hk,C,KK⟩:=hrel;clear M7;have bm:(0:Int)<=k:=by omega
     by_cases bo:(k:Int)<n2
     ·have a5:k<c.length:=by have:=al.o;omega
      obtain⟨t,ht⟩:∃t,c[k]?=X t:=⟨_,ay a5⟩;obtain⟨r,hr⟩:∃r,ts[k]?=X r:=⟨_,ay (by have:=aC.o;omega)⟩
      have G:dw r=t.tu:=by
       have h1:(ts.map dw)[k]?=X (dw r):=by rw[bk,hr];rfl
       rw[bj.o,bk,ht]at h1;injection h1 with h1
       exact h1.symm
      have HR:=af hr;have aT:ah (r.2.2.2=t.fR.map Rc.tu):=by show _=_;unfold dw TxR.tu at G;simp only[oJ]at G;exact G.2.2
      have be:ah (r.1=t.num):=by show _=_;unfold dw TxR.tu at G;simp only[oJ]at G;exact G.1
      have bf:ah (t.fR.length<=1200):=bR (yU (bF.2 ⟨t,aH ht,rfl⟩)) bg.o;have bi:=af (UY ht);have bc:ah (k=0->lV c=t.num):=λh0=>by
       subst h0;cases hL:c with
       |nil=>rw[hL]at ht;cases ht
       |cons u L=>rw[hL]at ht;simp at ht;subst ht;rfl
      clear hr G ht a5;go_upto_if 78 with fail
      go_cut [] (λV=>ah (cZ w V (w.heap.size+1) a.heap.size H.heap.size b.heap.size b.heap.size (Y z bs.length y) (Y j l vc) (Y ad i cap) bs (eQ (c.take k)) (gI M) (fZ M) (if k+1=0 then 0 else lV c))/\ah (s.heap.size<=V.heap.size/\∀x,w6.heap.size<=x->x<s.heap.size->V.heap[x]?=s.heap[x]?))
      case first=>
       by_cases D:k=0
       ·have eg:((k:Int)==0)=iV:=by simp[D]
        have bz:=af D;have RC:=af ((qT.loc _ _ _ _ s wr (λx T P=>KK.o.2 x T P) X7.o).rd aC.o KK.o.1)
        obtain⟨tb,tf,e8,-,Q,-,c2⟩:=RC.o.at HR.o;subst e8;rw[be.o]at Q;obtain⟨-,-,-,-,-,-,y6⟩:=C.o.2.2.1.cells;have f6:=C.o.2.2.1.fr 6;have MB:ah (cZ w (wr.setCell ⟨a.heap.size,6,O⟩ (I J t.num)) (w.heap.size+1) a.heap.size H.heap.size b.heap.size b.heap.size (Y z bs.length y) (Y j l vc) (Y ad i cap) bs (eQ (c.take k)) (gI M) (fZ M) (if k+1=0 then 0 else lV c)):=by
         have:=C.o.base t.num;rw[ai (show¬(k+1=0)by omega),bc.o D]
         exact this
        have KB:ah (s.heap.size<=(wr.setCell ⟨a.heap.size,6,O⟩ (I J t.num)).heap.size/\∀x,w6.heap.size<=x->x<s.heap.size->(wr.setCell ⟨a.heap.size,6,O⟩ (I J t.num)).heap[x]?=s.heap[x]?):=⟨by simpa using KK.o.1,λx T P=>(aU _ _ _ _ (show x≠a.heap.size by omega)).trans (KK.o.2 x T P)⟩
        clear D C KK RC c2;go_wp2_with fail;go_meet
        case rel=>exact⟨MB,KB⟩
       ·have eg:((k:Int)==0)=iF:=by rw[dZ];omega
        have MB:ah (cZ w wr (w.heap.size+1) a.heap.size H.heap.size b.heap.size b.heap.size (Y z bs.length y) (Y j l vc) (Y ad i cap) bs (eQ (c.take k)) (gI M) (fZ M) (if k+1=0 then 0 else lV c)):=by
         have:=C.o;rw[ai D]at this;rw[ai (show¬(k+1=0)by omega)]
         exact this
        go_wp2_with fail;go_meet
        case rel=>exact⟨MB,KK⟩
      case rest=>
       obtain⟨wb,hV⟩:∃wb,wb=wc:=⟨_,rfl⟩;subst hV;clear C KK;obtain⟨MB,KB⟩:=hcut;have bD:=MB.o.2.2.1.lt;have RD:=af ((qT.loc _ _ _ _ s wb (λx T P=>KB.o.2 x T P) X7.o).rd aC.o KB.o.1)
       obtain⟨tb,tf,e8,-,Q,-,c2⟩:=RD.o.at HR.o;subst e8;have bM:w6.heap.size<=tb:=by
        rcases X7.o.1 with⟨e,-⟩|⟨g,cp,e,q1,-⟩
        ·cases e
        ·injection e with e1
         injection e1 with e1
         injection e1 with e1
         rw[e1];exact q1
       obtain⟨ra,rc,e7,-,ar⟩:=RD.o.2.2.1 _ (aH HR.o);rw[e7]at c2;obtain⟨-,y1,y2,y3,-,-,-⟩:=MB.o.2.2.1.cells;rw[aT.o]at ar e7;rw[aT.o,aS]at c2;rw[aS]at ar e7;have a4:=MB.o.2.2.2.2.1.rd (yw (Gx (c.take k)));have N:=af (MB.o.below (ax wb.heap.size wb).drew);have KD:ah (s.heap.size<=wb.drew.heap.size/\∀x,w6.heap.size<=x->x<s.heap.size->wb.drew.heap[x]?=s.heap[x]?):=KB;have CE:=af (P7 (iA #[Y j l vc,Y ad i cap,I J (eQ (c.take k)).next]) (eQ (c.take k)) ra t.fR.length rc t.fR wb.drew (by have:=bf.o;omega) (a4.below (ax wb.heap.size wb).drew) (ar.below (ax wb.heap.size wb).drew))
       have SD:wb.drew.cell? ⟨tb,tf+k*3+2,O⟩=X (Y ra t.fR.length rc):=c2;clear a4 ar e7 RD KB Q;obtain⟨nx,a2⟩:=an ((eQ (c.take k)).next);rw[a2]at CE y3;clear a2;have z1:wb.drew.cell? ⟨a.heap.size,1,O⟩=X (Y j l vc):=y1;have z2:wb.drew.cell? ⟨a.heap.size,2,O⟩=X (Y ad i cap):=y2;have z3:wb.drew.cell? ⟨a.heap.size,3,O⟩=X (I J nx):=y3;clear y1 y2 y3 c2;go_upto_region 18 with fail
       refine kJ (λw'=>w'.cell? ⟨tb,tf+k*3+2,O⟩=X (Y ra t.fR.length rc)) (by kernel_rfl) SD (λhHeld=>?_)
       simp only[aR,cU,Nat.reduceAdd];refine au 0 ?_;refine au 2 ?_;refine au 3 ?_;refine au 4 ?_;refine au 5 ?_;refine au 6 ?_;refine ch 1 rfl (by kernel_rfl) (λK hK=>?_)
       go_simp;refine hK.out _ _ SD (λhHeld2=>?_)
       clear hK K hHeld;have hHeld:=hHeld2;clear hHeld2
       (try simp only[Act.put,bJ,bE,bp])
       clear z1 z2 z3;refine ch 7 rfl (by kernel_rfl) (λK hK=>?_)
       go_simp;refine CE.o.mono ?_;rintro en w9 ⟨u,rfl,so⟩;obtain⟨aK,aM,aL,aD,aJ,Z,rfl⟩:=so.form;have b9:=so.blw;have SE:=(b9.cell (bh _ _ SD)).trans SD;have MN:=af (N.o.fS so (by show b.heap.size<=wb.heap.size;omega))
       have KN:ah (s.heap.size<=w9.heap.size/\∀x,w6.heap.size<=x->x<s.heap.size->w9.heap[x]?=s.heap[x]?):=⟨bR KD.o.1 b9.size,λx T P=>(b9.block x (gX P KD.o.1)).trans (KD.o.2 x T P)⟩
       obtain⟨-,T,P,x3,-,-,-⟩:=(N.o.2.2.1.below b9).cells;have bv:=(N.o.2.2.1.below b9).fr 1;have bw:=(N.o.2.2.1.below b9).fr 2;have bx:=(N.o.2.2.1.below b9).fr 3;clear so b9 CE N KD;refine hK.out _ _ SE (λhHeld2=>?_)
       clear hK K hHeld;have hHeld:=hHeld2;clear hHeld2
       (try simp only[Act.put,bJ,bE,bp])
       refine au 8 ?_;refine au 9 ?_;refine au 10 ?_;refine au 11 ?_;refine ch 12 rfl (by kernel_rfl) (λK hK=>?_)
       go_simp;refine hK.out _ _ (by rw[gP (h:=λe=>by have:=congrArg Addr.block e;simp at this;omega),gP (h:=λe=>by have:=congrArg Addr.block e;simp at this;omega),gP (h:=λe=>by have:=congrArg Addr.block e;simp at this;omega)];exact SE) (λhHeld2=>?_)
       clear hK K hHeld;have hHeld:=hHeld2;clear hHeld2
       (try simp only[Act.put,bJ,bE,bp])
       refine jx (by kernel_rfl) ?_
       clear hHeld SD SE T P x3 bv bw bx;rw[<-bi.o]at MN⊢;have KM:ah (s.heap.size<=(((w9.setCell ⟨a.heap.size,1,O⟩ (Y aK aM aL)).setCell ⟨a.heap.size,2,O⟩ (Y aD aJ Z)).setCell ⟨a.heap.size,3,O⟩ (I J (eQ (c.take (k+1))).next)).heap.size/\∀x,w6.heap.size<=x->x<s.heap.size->(((w9.setCell ⟨a.heap.size,1,O⟩ (Y aK aM aL)).setCell ⟨a.heap.size,2,O⟩ (Y aD aJ Z)).setCell ⟨a.heap.size,3,O⟩ (I J (eQ (c.take (k+1))).next)).heap[x]?=s.heap[x]?):=⟨by simpa using KN.o.1,λx T P=>by
        rw[aU _ ⟨a.heap.size,3,O⟩ _ _ (show x≠a.heap.size by omega),aU _ ⟨a.heap.size,2,O⟩ _ _ (show x≠a.heap.size by omega),aU _ ⟨a.heap.size,1,O⟩ _ _ (show x≠a.heap.size by omega)]
        exact KN.o.2 x T P⟩
       clear KN;go_wp2;go_roundw
       case rel=>exact⟨k+1,aK,aM,aL,aD,aJ,Z,by go_num,by omega,MN,KM⟩
       case measure=>simp[intOf];omega
     ·have ek:c.take k=c:=cm (by have:=al.o;omega)
      have eb:(if k=0 then 0 else lV c)=lV c:=by
       by_cases h0:k=0
       ·rw[aj h0];cases hL:c with
        |nil=>rfl
        |cons u L=>have:=al.o;rw[hL,aR]at this;omega
       ·rw[ai h0]
      have F:=C.o;rw[ek,eb]at F;have FN:=af F.fin;obtain⟨g0,g1,g2,g3,g4,g5,g6⟩:=F.2.2.1.cells;obtain⟨i0,i1,i2,i3,i4,i5,i6⟩:=F.2.1.cells;have q0:=F.2.1.fr 0;have q1:=F.2.1.fr 1;have q2:=F.2.1.fr 2;have q3:=F.2.1.fr 3;have q4:=F.2.1.fr 4;have q5:=F.2.1.fr 5;have q6:=F.2.1.fr 6;clear F C KK ek eb;unfold bU at FN;go_wp2;refine aF (pI (p:=2) (q:=3) rfl _ _ (w.heap.size+1) _ _ _ _ _ _ _ rfl FN.o.1) rfl ?_;rw[HM.o,HP.o,aX.o];exact⟨_,rfl,FN.o.2.1,⟨HS.o,yw (Gx c)⟩,FN.o.2.2⟩
theorem Vq{L:List TxR}(h:∀(j:Nat) (u:TxR),j<L.length->L[j]?=X u->u.num≠b):L.find? (λt=>decide (t.num=b))=O:=by
 rw[Bf];intro u c;obtain⟨j,a⟩:=ml c
 simpa using h j u (aD.1 a).1 a
theorem Sd{L:List TxR}{t:TxR}(h:∀(j:Nat) (u:TxR),j<k->L[j]?=X u->u.num≠b)(c:L[k]?=X t)(f:t.num=b):L.find? (λt=>decide (t.num=b))=X t:=by
 obtain⟨d,e⟩:=aD.1 c;rw[List.find?_eq_some_iff_getElem];refine⟨by simpa using f,k,d,e,λj a=>?_⟩
 have:=h j L[j] a (ay (by omega))
 simpa using this
theorem YB(x:iX)(d:Dv)(w:iW)(h:fU w x d)(Q:bn d.fH=iV)(aC:IntKind.i64.wrap (d.tx-1)=d.tx-1):iK Tryz.prog 110 #[x] w λe w'=>e=G (iB (rT d))/\iL w.heap.size w w':=by
 obtain⟨C,B,va,vl,vc,ad,ln,cap,rfl,h1,h2,h3⟩:=h.form;have bA:=aO w (iC #[Y C d.fH.length B,Y va vl vc,Y ad ln cap,I J d.fS.next,I J d.seq,I J d.tx,I J d.base] 46);have gA:aP (w.alloc (iC #[Y C d.fH.length B,Y va vl vc,Y ad ln cap,I J d.fS.next,I J d.seq,I J d.tx,I J d.base] 46)) w.heap.size (Y C d.fH.length B) (Y va vl vc) (Y ad ln cap) d.fS.next d.seq d.tx d.base:=az _ _;generalize am:w.alloc (iC #[Y C d.fH.length B,Y va vl vc,Y ad ln cap,I J d.fS.next,I J d.seq,I J d.tx,I J d.base] 46)=wa at bA gA;obtain⟨rs,e1,i1,l1,V,W⟩:=(h1.below bA).lens h2;have CS:=af (pR (Y C d.fH.length B) rs wa l1 V W i1);rw[e1]at CS;unfold nH at CS;have z:=wE Q;have g:ah (rT d=if d.base≠d.tx-1 then iF else match (dA ((aw d.fH).map aq.fP)).find? (λt=>decide (t.num=d.base))with
  |some t=>t.base
  |none=>iF):=rfl
 obtain⟨M,hM⟩:=an (aw d.fH);rw[hM]at CS z g;obtain⟨R,hR⟩:=an (rT d);rw[hR]at g⊢;have i:=af z;have HB:=af bA;have HG:=af gA;obtain⟨y0,-,-,-,-,y5,y6⟩:=gA.cells;clear h1 h2 h3 h Q e1 i1 l1 V W rs hM hR z bA gA;go_enter Tryz.func110,Tryz.ntmps110;by_cases hb:(d.base !=d.tx-1)=iV
 ·have s:ah (R=iF):=by show _=_;rw[g.o,aj (by simpa using hb)]
  clear g CS;go_wp2;go_ret;exact⟨by rw[s.o];rfl,HB.o⟩
 have D:¬(d.base≠d.tx-1):=by simpa using hb
 have hb:(d.base !=d.tx-1)=iF:=by simpa using hb
 rw[ai D]at g;clear D;go_wp2_with fail;clear am;refine CS.o.mono ?_;rintro e w1 ⟨la,lc,rfl,f1,-,f3⟩;have CG:=af (DX la M.length lc M w1 (by have:=i.o.1;omega) (by have:=i.o.2;omega) f1)
 have B1:=af (HB.o.trans (f3.mono HB.o.size));have G1:=af (HG.o.below f3);obtain⟨L,hL⟩:=an (dA (M.map aq.fP));have q8:=Hn (M.map aq.fP);rw[hL,aS]at q8;rw[hL]at CG g;obtain⟨n1,K⟩:=an L.length;have ap:n1<=40:=by have:=i.o.1;omega
 have HN:=af K;have ao:ah ((L.map (λx=>x.fR.length)).sum<=1200):=by have:=i.o.2;show _<=_;omega
 clear CS HB HG f1 f3 hL q8 K y0 y5 y6;go_wp2_with fail;refine CG.o.mono ?_;rintro e p h6;obtain⟨ga,gc,gs,rfl,v,F,H,b6⟩:=h6.rows HN.o;have B2:=af (B1.o.trans (b6.mono B1.o.size));have G2:=af (G1.o.below b6);have RT:=af (H.txs.rd v (ak _));have ab:=af F;have aa:=af v;clear CG h6 H b6 B1 G1 F v;go_wp2;go_loopw [4] (λiv wr=>∃k:Nat,iv=I J k/\k<=n1/\ah (iL p.heap.size p wr)/\ah (∀(j:Nat) (u:TxR),j<k->L[j]?=X u->u.num≠d.base)) (λiv _=>n1-(intOf iv).toNat)
 case atStart=>exact⟨0,rfl,aI _,ax _ _,(show∀(j:Nat) (u:TxR),j<0->L[j]?=X u->u.num≠d.base from λj u hj=>by omega)⟩
 case round=>
  rename iW=>wr
  obtain⟨k,rfl,hk,BK,HK⟩:=hrel;have ar:(0:Int)<=k:=by omega
  by_cases au:(k:Int)<n1
  ·obtain⟨t,ht⟩:∃t,L[k]?=X t:=⟨_,ay (by have:=HN.o;omega)⟩
   obtain⟨r,T⟩:∃r,gs[k]?=X r:=⟨_,ay (by have:=aa.o;omega)⟩
   have a:dw r=t.tu:=by
    have h1:(gs.map dw)[k]?=X (dw r):=by rw[bk,T];rfl
    rw[ab.o,bk,ht]at h1;injection h1 with h1
    exact h1.symm
   have l:r.2.2.2=t.fR.map Rc.tu:=by unfold dw TxR.tu at a;simp only[oJ]at a;exact a.2.2
   have y:r.1=t.num:=by unfold dw TxR.tu at a;simp only[oJ]at a;exact a.1
   have A:ah (∀m,iL p.heap.size p (wr.drewN m)):=λm=>bI BK.o m
   obtain⟨tb,tf,e8,al,c0,-,c2⟩:=(RT.o.below BK.o).at T;subst e8;obtain⟨ra,rc,e7,-,n⟩:=RT.o.2.2.1 _ (aH T);rw[e7,l,aS]at c2;rw[y]at c0;rw[l,aS]at n;obtain⟨-,-,-,-,-,-,y6⟩:=(G2.o.below BK.o).cells;have HT:=af ht;by_cases c:(t.num==d.base)=iV
   ·have HF:ah (R=t.base):=by show _=_;rw[g.o,Sd HK.o HT.o (by simpa using c)]
    have ae:=af n;have C2:=af c2;have aB:tb<wr.heap.size:=al;clear a l y e7 T ht n g;go_wp2;go_quiet (fail);generalize b:wr.drewN _=Z;have BZ:ah (iL p.heap.size p Z):=by rw[<-b];exact A.o _
    have d2:Z.cell? ⟨tb,tf+k*3+2,O⟩=X (Y ra t.fR.length rc):=by rw[<-b];exact C2.o
    have FB:=af (B2.o.trans (BZ.o.mono B2.o.size));cases f:t.fR with
    |nil=>
     have s:ah (R=iF):=by show _=_;rw[HF.o];unfold TxR.base;rw[f]
     rw[f]at d2;clear b A c0 c2 y6 C2 HF;go_wp2;go_ret;exact⟨by rw[s.o];rfl,FB.o⟩
    |cons q qs=>
     have s:ah (R=(q.kind==1)):=by show _=_;rw[HF.o];unfold TxR.base;rw[f]
     obtain⟨rb,ro,e9,aA,E⟩:=(ae.o.below BZ.o).2.2.2 (by rw[f];simp)
     subst e9;have d3:=(E 0 q.tu (by rw[f];rfl)).1
     rw[f]at d2;have S:((q::qs).length:Int)>0:=by simp
     obtain⟨nq,P⟩:=an ((q::qs).length);rw[P]at d2 S;have av:(0:Int)<nq:=S;have d4:Z.cell? ⟨rb,ro,O⟩=X (I J q.kind):=by rw[lq,oh]at d3;exact d3
     clear b A c0 c2 y6 C2 HF E P;go_wp2;go_ret;exact⟨by rw[s.o];rfl,FB.o⟩
   ·have N:t.num≠d.base:=by simpa using c
    have c:(t.num==d.base)=iF:=by simpa using c
    have ac:=af N;clear a l y e7 T ht n c2 N;go_wp2;go_quiet (fail);generalize b:wr.drewN _=Z;have BZ:ah (iL p.heap.size p Z):=by rw[<-b];exact A.o _
    clear b A c0 y6;go_wp2;go_roundw
    case rel=>
     refine⟨k+1,by go_num,by omega,BZ,af (λj u hj U=>?_)⟩
     by_cases ag:j=k
     ·subst ag;rw[HT.o]at U;cases U;exact ac.o
     ·exact HK.o j u (by omega) U
    case measure=>simp[intOf];omega
  ·have s:ah (R=iF):=by
    show _=_;rw[g.o,Vq (λj u hj U=>HK.o j u (by have:=HN.o;omega) U)]
   have FB:=af (B2.o.trans (BK.o.mono B2.o.size));clear g;go_wp2;go_ret;exact⟨by rw[s.o];rfl,FB.o⟩
theorem Ky (w:iW) {o:Oper} {Q:Exit->Act->iW->Prop} (k:o.guard=O) (s x:Operand)
 (t:o.op=.call {callee:=.builtin .append,args:= #[s,x],argTypes:= #[62,62]})
 (base z:Nat) (i:TypeInfo) (hi:Tryz.prog.info? 184=X i) (D:i.zero=X (iA #[I J 0,I J 0,I J 0,iT ⟨#[]⟩])) (j:i.size=4) (r:i.bytes=40)
 (v:iX) (n:Nat) (xs:List iX) (hs:a.eval s=v) (b:w.ownsRow base 184 4 v n xs)
 (L:List aM) (u:iX) (y:a.eval x=u) (l:w.ownsRow z 184 4 u L.length (cT L)) (p:n+L.length<=maxLen) (d:(n+L.length)*40<=140737488355328) (f:base<=w.heap.size)
 (h:∀m w',w'.ownsRow base 184 4 m (n+L.length) (xs++cT L)->w.grownBy w' v.ownBlock->wpList Tryz.prog ops Q rest (a.put o.dst m) w'):wpList Tryz.prog ops Q (o::rest) a w:=by
 have E:= @World.ownsRow.cells;rcases l.2 with⟨rfl,e⟩|⟨g,c,A,rfl,-⟩
 ·have C:L.length=0:=by exact e
  have q:L=[]:=lF C;subst q;exact FQ k s x 62 t base 184 i 4 Tryz.underlying62 hi v n xs hs b y (h v w (by simpa[cT]using b) (rK _ _))
 ·exact cN w k s x 62 t base 184 i _ 4 40 Tryz.underlying62 hi D j r rfl (by decide) v n xs hs b ⟨g,0,O⟩ L.length c (cT L) y (Pl L) (ve l rfl) (Xt L) p d f (λm w' h1 B _=>h m w' h1 B)
theorem Uo{W:iW}(b:Int)(a:B<=W.heap.size):(W.alloc (iC #[I J 2,I J b,I J 0,iT ⟨#[]⟩] 184)).ownsRow B 184 4 (Y (X ⟨W.heap.size,0,O⟩) 1 1) 1 (cT [(2,b,0,aK)]):=
 ⟨rfl,.inr ⟨W.heap.size,1,_,rfl,a,az W _,ak _,by unfold maxLen;omega,rfl,rfl⟩⟩
theorem QA(x:iX)(d:Dv)(w:iW)(h:fU w x d)(F:bn d.fH=iV)(hv:d.fS.fV.length<=1048576)(L:IntKind.i64.wrap (d.tx-1)=d.tx-1):iK Tryz.prog 75 #[x] w (iG w (iY d)):=by
 have hx:=h;obtain⟨V,U,va,vl,vc,ad,Z,cap,rfl,h1,h2,h3⟩:=h.form;have T:=aO w (iC #[Y V d.fH.length U,Y va vl vc,Y ad Z cap,I J d.fS.next,I J d.seq,I J d.tx,I J d.base] 46);have W:aP (w.alloc (iC #[Y V d.fH.length U,Y va vl vc,Y ad Z cap,I J d.fS.next,I J d.seq,I J d.tx,I J d.base] 46)) w.heap.size (Y V d.fH.length U) (Y va vl vc) (Y ad Z cap) d.fS.next d.seq d.tx d.base:=az _ _;generalize ac:w.alloc (iC #[Y V d.fH.length U,Y va vl vc,Y ad Z cap,I J d.fS.next,I J d.seq,I J d.tx,I J d.base] 46)=wa at T W;have HX:=af (hx.below T);have HV:=af hv;have ab:=af L;have B:=af F;have HB:=af T;have HG:=af W;have P:=af (Sk _ d wa HX.o);unfold pJ at P;have c:ah (iY d=match oN d with
  |b::_=>([(2,b,0,aK)],iV)
  | []=>if rT d then(if nD d<0 then([],iF)else kY d (nD d))else dY d (gZ d.fS) aK):=rfl
 obtain⟨D,hD⟩:=an (oN d);have aa:ah (D.length<=1048576):=by
  show _<=_;rw[<-hD];unfold oN;refine bR (xQ _ _) ?_;rw[List.length_range];exact h2.1
 rw[hD]at P c;obtain⟨R,hR⟩:=an (iY d);rw[hR]at c⊢;obtain⟨q,r,s,u,v,y,A⟩:=W.cells;clear hx h h1 h2 h3 T W F hv L hD hR;go_enter Tryz.func75,Tryz.ntmps75;go_wp2_with fail;clear ac;refine P.o.mono ?_;rintro e w1 ⟨lv,rfl,ho,C⟩;obtain⟨ia,ic,rfl,j,-,-⟩:=lW.of ho (by have:=aa.o;unfold maxLen;omega) C
 have l:=af (HB.o.trans (C.mono HB.o.size));have G1:=af (HG.o.below C);have X1:=af (HX.o.below C);clear P ho C HB HG HX q r s u v y A;cases D with
 |cons b D=>
  have g:ah (R=([(2,b,0,aK)],iV)):=c;obtain⟨lb,lo,e,-,c0⟩:=j.at (k:=0) (t:=b) rfl;subst e;have c1:w1.cell? ⟨lb,lo,O⟩=X (I J b):=c0;have f:ah (iG w ([(2,b,0,aK)],iV) (G (iU #[Y (X ⟨w1.heap.size,0,O⟩) 1 1,iB iV])) (w1.alloc (iC #[I J 2,I J b,I J 0,iT ⟨#[]⟩] 184))):=⟨_,rfl,Uo b l.o.size,l.o.alloc l.o.size _⟩;have E:((b::D).length:Int)>0:=by simp
  obtain⟨n,hn⟩:=an ((b::D).length);rw[hn]at E;try rw[hn]
  have ae:(0:Int)<n:=E;clear hn j c c0;go_wp2;refine aF (cE rfl _ _ _) rfl ?_;rw[g.o];exact f.o
 |nil=>
  obtain⟨q,r,s,u,v,y,A⟩:=G1.o.cells;have CB:=af (YB _ d w1 X1.o B.o ab.o);obtain⟨z,hz⟩:=an (rT d);rw[hz]at CB;have a:ah (R=if z then(if nD d<0 then([],iF)else kY d (nD d))else dY d (gZ d.fS) aK):=by show _=_;rw[c.o,<-hz]
  clear c hz j;go_wp2_with fail;refine CB.o.mono ?_;rintro e w2 ⟨rfl,S⟩;have m:=af (l.o.trans (S.mono l.o.size));have G2:=af (G1.o.below S);have Q:=af (X1.o.below S);clear CB S l G1 X1 q r s u v y A;obtain⟨q,r,s,u,v,y,A⟩:=G2.o.cells;cases z with
  |false=>
   have g:ah (R=dY d (gZ d.fS) aK):=a;clear a;go_wp2_with fail;refine(YI _ d w2 Q.o HV.o).mono ?_;rintro e p ⟨uv,rfl,o3,i⟩;have f:ah (iG w (dY d (gZ d.fS) aK) (G (iU #[uv,iB (dY d (gZ d.fS) aK).2])) p):=⟨_,rfl,qM o3 m.o.size,m.o.trans (i.mono m.o.size)⟩;clear o3 i;go_wp2;refine aF (cE rfl _ _ _) rfl ?_;rw[g.o];exact f.o
  |true=>
   have CV:=af (Ui _ d w2 Q.o);obtain⟨M,H⟩:=an (nD d);rw[H]at CV a;clear H;go_wp2_with fail;refine CV.o.mono ?_;rintro e p ⟨rfl,i⟩;have N:=af (m.o.trans (i.mono m.o.size));have G3:=af (G2.o.below i);have X3:=af (Q.o.below i);clear CV i m G2 Q q r s u v y A;obtain⟨q,r,s,u,v,y,A⟩:=G3.o.cells;by_cases K:M<0
   ·have g:ah (R=([],iF)):=by show _=_;rw[a.o,aj trivial,aj K]
    have FR:=ny N.o p.heap.size rfl;have f:ah (iG w ([],iF) (G (iU #[Y (X ⟨p.heap.size,0,O⟩) 0 0,iB iF])) (p.alloc (iC #[] 184))):=⟨_,rfl,FR.1,FR.2⟩;clear a FR;go_wp2;refine aF (cE rfl _ _ _) rfl ?_;rw[g.o];exact f.o
   ·have g:ah (R=kY d M):=by show _=_;rw[a.o,aj trivial,ai K]
    clear a;go_wp2_with fail;refine(Ot _ d M p X3.o (by have:=(wE B.o).1;omega)).mono ?_
    rintro e w4 ⟨uv,rfl,o4,b4⟩;have f:ah (iG w (kY d M) (G (iU #[uv,iB (kY d M).2])) w4):=⟨_,rfl,qM o4 N.o.size,N.o.trans (b4.mono N.o.size)⟩;clear o4 b4;go_wp2;refine aF (cE rfl _ _ _) rfl ?_;rw[g.o];exact f.o
def fw(w wr:iW)(c:Nat)(v:iX)(bs:List Bk):Prop:=∃lo hi,(hi<=c∨c+1<=lo)/\w.heap.size+1+1<=lo/\w.heap.size+1+1<=c/\
 Tk w wr [(c,c+1,bZ c #[v] 38),(lo,hi,cu lo hi v bs),(w.heap.size+1,w.heap.size+1+1,bZ (w.heap.size+1) #[Y O 0 0] 38)]
theorem fw.below{w wr a:iW}{v:iX}(h:fw w wr c v bs)(e:iL wr.heap.size wr a):fw w a c v bs:=by
 obtain⟨lo,hi,h1,b,d,T⟩:=h;exact⟨lo,hi,h1,b,d,T.below e⟩
theorem fw.cell{w wr:iW}{c:Nat}{v:iX}{bs:List Bk}(h:fw w wr c v bs):wr.cell? ⟨c,0,O⟩=X v/\wr.frozen? ⟨c,0,O⟩=iF/\wr.cell? ⟨w.heap.size+1,0,O⟩=X (Y O 0 0)/\wr.frozen? ⟨w.heap.size+1,0,O⟩=iF:=by
 obtain⟨lo,hi,h1,a,b,T⟩:=h;exact⟨T.at 0 0 rfl rfl,T.fr 0 0 rfl,T.at 2 0 rfl rfl,T.fr 2 0 rfl⟩
theorem fw.rdb{w wr:iW}{v:iX}(h:fw w wr c v bs):fj wr v bs:=by
 obtain⟨lo,hi,h1,a,b,T⟩:=h;exact(T.get 1 rfl).rdb
theorem fw.bel{w wr:iW}{v:iX}(h:fw w wr c v bs):iL w.heap.size w wr:=by
 obtain⟨lo,hi,h1,a,b,T⟩:=h;exact T.1
theorem fw.form{w wr:iW}{v:iX}(h:fw w wr c v bs):∃ad cap,v=Y ad bs.length cap:=h.rdb.form
variable{bs':List Bk}
theorem fw.next{w wr a j:iW}{v u:iX}(h:fw w wr c v bs)(l:iL wr.heap.size wr a)(f:dm a wr.heap.size u bs')(b:iL a.heap.size a j):fw w (j.setCell ⟨c,0,O⟩ u) c u bs':=by
 obtain⟨lo,hi,h1,m,d,T⟩:=h;have e:=T.hi 0 rfl;have k:=(T.fla l f).below b;refine⟨wr.heap.size,a.heap.size,Or.inr e,by omega,d,k.write (hs':=[(wr.heap.size,a.heap.size,cu wr.heap.size a.heap.size u bs'),(w.heap.size+1,w.heap.size+1+1,bZ (w.heap.size+1) #[Y O 0 0] 38)]) 1 rfl (by omega) u (λx g=>?_)⟩
 simp only[bf,dV,ez]at g;rcases g with rfl|rfl
 ·exact⟨mT ..,Or.inr e⟩
 ·exact⟨aH (i:=3) rfl,Or.inl d⟩
theorem fw.next2{w wr a:iW}{v u z:iX}(h:fw w wr c v bs)(m:iL (wr.alloc (iC #[z] 38)).drew.heap.size (wr.alloc (iC #[z] 38)).drew a)(f:dm a (wr.alloc (iC #[z] 38)).drew.heap.size u bs'):
 (a.cell? ⟨wr.heap.size,0,O⟩=X z/\a.frozen? ⟨wr.heap.size,0,O⟩=iF)/\(a.setCell ⟨wr.heap.size,0,O⟩ u).cell? ⟨wr.heap.size,0,O⟩=X u/\fw w (a.setCell ⟨wr.heap.size,0,O⟩ u) c v bs/\fw w ((a.setCell ⟨wr.heap.size,0,O⟩ u).setCell ⟨c,0,O⟩ u) c u bs':=by
 obtain⟨lo,hi,h1,l,g,T⟩:=h;have n:=T.hi 0 rfl;have j:=T.hi 1 rfl;have o:(wr.alloc (iC #[z] 38)).drew.heap.size=wr.heap.size+1:=kq rfl _;rw[o]at f;have d:=(((T.celln rfl #[z] 38).drew).below m).put (lo:=wr.heap.size+1) (hi:=a.heap.size) (P:=cu (wr.heap.size+1) a.heap.size u bs') (ak _) (cu.loc _ _ _ _) f;have e:=d.write (hs':=[(wr.heap.size+1,a.heap.size,cu (wr.heap.size+1) a.heap.size u bs'),(c,c+1,bZ c #[v] 38),(lo,hi,cu lo hi v bs),(w.heap.size+1,w.heap.size+1+1,bZ (w.heap.size+1) #[Y O 0 0] 38)]) 1 rfl (by omega) u (λx b=>by
  simp only[bf,dV,ez]at b;rcases b with rfl|rfl|rfl|rfl
  ·exact⟨aH (i:=0) rfl,Or.inr (ak _)⟩
  ·exact⟨aH (i:=2) rfl,Or.inl n⟩
  ·exact⟨aH (i:=3) rfl,Or.inl j⟩
  ·exact⟨aH (i:=4) rfl,Or.inl (show w.heap.size+1+1<=wr.heap.size by omega)⟩)
 have k:=e.write (hs':=[(wr.heap.size+1,a.heap.size,cu (wr.heap.size+1) a.heap.size u bs'),(w.heap.size+1,w.heap.size+1+1,bZ (w.heap.size+1) #[Y O 0 0] 38)]) 2 rfl (by omega) u (λx b=>by
  simp only[bf,dV,ez]at b;rcases b with rfl|rfl
  ·exact⟨aH (i:=1) rfl,Or.inr (show c+1<=wr.heap.size+1 by omega)⟩
  ·exact⟨aH (i:=4) rfl,Or.inl g⟩)
 refine⟨⟨d.at 1 0 rfl rfl,d.fr 1 0 rfl⟩,e.at 0 0 rfl rfl,⟨lo,hi,h1,l,g,e.drop (λx b=>?_)⟩,⟨_,_,Or.inr (show c+1<=wr.heap.size+1 by omega),by omega,g,k⟩⟩
 simp only[bf,dV,ez]at b⊢;rcases b with h|h|h<;>simp[h]
theorem fw.fin{w wr:iW}{v:iX}(h:fw w wr c v bs):(wr.setCell ⟨w.heap.size+1,0,O⟩ v).heap[w.heap.size+1]?=X (iC #[v] 38 (0,0))/\dm (wr.setCell ⟨w.heap.size+1,0,O⟩ v) w.heap.size v bs/\iL w.heap.size w (wr.setCell ⟨w.heap.size+1,0,O⟩ v):=by
 obtain⟨lo,hi,h1,d,e,T⟩:=h;have a:=T.write (hs':=[(lo,hi,cu lo hi v bs)]) 2 rfl (by omega) v (λx b=>by rw[bT]at b;subst b;exact⟨aH (i:=1) rfl,Or.inr d⟩)
 exact⟨a.get 0 rfl,(a.get 1 rfl).of (a.hi 1 rfl) (by omega),a.1⟩
theorem fw.start{w b:iW}{a v:iX}(e:iL ((w.alloc (iC #[a] 38)).alloc (iC #[Y O 0 0] 38)).heap.size ((w.alloc (iC #[a] 38)).alloc (iC #[Y O 0 0] 38)) b)(f:dm b ((w.alloc (iC #[a] 38)).alloc (iC #[Y O 0 0] 38)).heap.size v bs)(k:b.heap.size=c):fw w (b.alloc (iC #[v] 38)) c v bs:=by
 subst k;have j:=Tk.two w #[a] #[Y O 0 0] 38 38;have i:((w.alloc (iC #[a] 38)).alloc (iC #[Y O 0 0] 38)).heap.size=w.heap.size+1+1:=kq (kq rfl _) _;have d:=(j.fla e f).cell #[v] 38;rw[i]at d;have hs:=e.size;rw[i]at hs;refine⟨w.heap.size+1+1,b.heap.size,Or.inl (ak _),ak _,hs,d.drop (λx g=>?_)⟩
 simp only[bf,dV,ez]at g⊢;rcases g with h|h|h<;>simp[h]
end Go.Proofs.YtijmbohadndfmaaGreatDoor
