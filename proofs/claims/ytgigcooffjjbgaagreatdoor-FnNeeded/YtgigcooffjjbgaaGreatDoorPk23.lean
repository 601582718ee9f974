/-
  SMount; SBd17; SCl1; DoS
-/
import Derived.Test.YtgigcooffjjbgaaGreatDoorPk22
open Go.Value renaming int→I,slice→Y,string→iT,bool→iB,agg→iA,tuple→iU
open Go.IntKind renaming i64→J
open Option renaming none→O,some→X
open Go.Ending renaming returned→G
open Go.Obj renaming cells→iC
open Bool renaming true→iV,false→iF
open Go renaming World→iW,Value→iX,Calls→iK
open Go.RowKit renaming Below→iL
set_option maxHeartbeats 4000000
set_option maxRecDepth 100000
namespace Go.Proofs.YtgigcooffjjbgaaGreatDoor
open Go.RowKit Words Sums
def cY(w W:iW)(z g lo hi slo:Nat)(a vv kv:iX)(bs:List Bk)(s:Sto)(q t b:Int):Prop:=
 iL w.heap.size w W/\aU W z (Y O 0 0) (Y O 0 0) (Y O 0 0) 0 0 0 0/\aU W g a vv kv s.next q t b/\cF lo hi a bs W/\eB slo g (iA #[vv,kv,I J s.next]) s W/\(w.heap.size<=z/\z<lo/\z<slo/\lo<=hi/\hi<=g/\hi<=slo)
variable{a:Act}{ops:Array Oper}{rest:List Oper}{g lo slo z k B:Nat}
variable{bs:List Bk}{s:Sto}
theorem cY.below{w W d:iW}{hi:Nat}{e vv kv:iX}{q t b:Int}(h:cY w W z g lo hi slo e vv kv bs s q t b)(a:iL W.heap.size W d):cY w d z g lo hi slo e vv kv bs s q t b:=by
 obtain⟨h1,i,f,h4,j,k,l,m,n,c⟩:=h;have:=f.lt;exact⟨h1.trans (a.mono h1.size),i.below a,f.below a,cF.loc _ _ _ _ W _ (λx o p=>a.block x (by omega)) h4,j.below a,k,l,m,n,c⟩
theorem cY.drewN{w W:iW}{hi:Nat}{a vv kv:iX}{q t b:Int}(h:cY w W z g lo hi slo a vv kv bs s q t b)(n:Nat):cY w (W.drewN n) z g lo hi slo a vv kv bs s q t b:=h.below (dL (az _ _) n)
theorem cY.upd{w W a:iW}{hi:Nat}{c vv kv:iX}{q t b q' t' f:Int}(h:cY w W z g lo hi slo c vv kv bs s q t b)(e:∀x,x≠g->a.heap[x]?=W.heap[x]?)(v:a.heap.size=W.heap.size)(o:iL g W a)(p:aU a g c vv kv s.next q' t' f):cY w a z g lo hi slo c vv kv bs s q' t' f:=by
 obtain⟨h1,i,u,h4,j,k,l,m,n,d⟩:=h;exact⟨h1.trans (o.mono (by omega)),(e z (by omega)).trans i,p,cF.loc _ _ _ _ W _ (λx y A=>e x (by omega)) h4,j.keep (λx _ r _=>e x r) (by omega),k,l,m,n,d⟩
theorem cY.seq{w W:iW}{hi:Nat}{a vv kv:iX}{q t b:Int}(h:cY w W z g lo hi slo a vv kv bs s q t b)(x:Int):cY w (W.setCell ⟨g,4,O⟩ (I J x)) z g lo hi slo a vv kv bs s x t b:=
 h.upd (λ_ c=>aS _ _ _ _ c) (by simp) ((az g W).setCell (p:=⟨g,4,O⟩) (am _) _) (h.2.2.1.seq x)
theorem cY.tx{w W:iW}{hi:Nat}{a vv kv:iX}{q t b:Int}(h:cY w W z g lo hi slo a vv kv bs s q t b)(x:Int):cY w (W.setCell ⟨g,5,O⟩ (I J x)) z g lo hi slo a vv kv bs s q x b:=
 h.upd (λ_ c=>aS _ _ _ _ c) (by simp) ((az g W).setCell (p:=⟨g,5,O⟩) (am _) _) (h.2.2.1.tx x)
theorem cY.base{w W:iW}{hi:Nat}{a vv kv:iX}{q t b:Int}(h:cY w W z g lo hi slo a vv kv bs s q t b)(x:Int):cY w (W.setCell ⟨g,6,O⟩ (I J x)) z g lo hi slo a vv kv bs s q t x:=
 h.upd (λ_ c=>aS _ _ _ _ c) (by simp) ((az g W).setCell (p:=⟨g,6,O⟩) (am _) _) (h.2.2.1.base x)
theorem cY.fS{w W e:iW}{hi:Nat}{k vv kv c a:iX}{f:Sto}{q t b:Int}(h:cY w W z g lo hi slo k vv kv bs s q t b)(m:fJ W f (iA #[c,a,I J f.next]) e)(hs:slo<=W.heap.size):cY w (((e.setCell ⟨g,1,O⟩ c).setCell ⟨g,2,O⟩ a).setCell ⟨g,3,O⟩ (I J f.next)) z g lo hi slo k c a bs f q t b:=by
 have A:=m.blw;have B:=h.2.2.1.lt;obtain⟨h1,n,o,h4,C,r,u,v,y,i⟩:=h.below A;have l:∀x,x≠g->(((e.setCell ⟨g,1,O⟩ c).setCell ⟨g,2,O⟩ a).setCell ⟨g,3,O⟩ (I J f.next)).heap[x]?=e.heap[x]?:=λx j=>by
  rw[aS _ ⟨g,3,O⟩ _ _ j,aS _ ⟨g,2,O⟩ _ _ j,aS _ ⟨g,1,O⟩ _ _ j]
 have d:w.heap.size<=g:=by omega
 refine⟨((h1.setCell (p:=⟨g,1,O⟩) d _).setCell (p:=⟨g,2,O⟩) d _).setCell (p:=⟨g,3,O⟩) d _,(l z (by omega)).trans n,o.fS _ _ _,cF.loc _ _ _ _ e _ (λx D E=>l x (by omega)) h4,?_,r,u,v,y,i⟩
 exact(((eB.of m hs (.inl B)).set).set).set
theorem cY.fin{w W:iW}{hi:Nat}{a vv kv:iX}{q t b:Int}(h:cY w W z g lo hi slo a vv kv bs s q t b):
 aU (bF W z a vv kv s.next q t b) z a vv kv s.next q t b/\cM w.heap.size (iA #[a,vv,kv,I J s.next,I J q,I J t,I J b]) ⟨bs,s,q,t,b⟩ (bF W z a vv kv s.next q t b)/\iL w.heap.size w (bF W z a vv kv s.next q t b):=by
 obtain⟨h1,l,m,h4,n,o,B,C,D,k⟩:=h;obtain⟨A,y,lo1,hi1,lo2,hi2,e,r,u,F,G,H,K,v⟩:=n;injection e with e
 injection e with e
 simp only[jk,kx]at e;obtain⟨i,j⟩:=e;subst i j;have E:=m.lt;have c:∀x,x≠z->(bF W z a vv kv s.next q t b).heap[x]?=W.heap[x]?:=λx p=>rA _ _ _ _ _ _ _ _ _ p
 refine⟨lI l _ _ _ _ _ _ _,⟨a,vv,kv,lo,hi,lo1,hi1,lo2,hi2,rfl,cF.loc _ _ _ _ W _ (λx d f=>c x (by omega)) h4,aG.loc _ _ _ _ _ _ W _ (λx d f=>c x (by omega)) r,dy.loc _ _ _ _ W _ (λx d f=>c x (by omega)) u,?_,?_,?_,.inl (by omega),.inl (by omega),v⟩,ly _ _ _ _ _ _ _ h1 o⟩<;>rw[Cb]<;>omega
variable{M:List an}{x:an}
theorem Sq(h:M[k]?=X x):gY (M.take (k+1))=if gY (M.take k)<=x.fP.seq then x.fP.seq+1 else gY (M.take k):=by
 rw[eG,h];unfold gY;rw[qD,tj];rfl
theorem Zo(h:M[k]?=X x):gL (M.take (k+1))=if x.fP.kind=2/\gL (M.take k)<=x.fP.tx then x.fP.tx+1 else gL (M.take k):=by
 rw[eG,h];unfold gL;rw[qD,tj];rfl
theorem Lp{L:List TxR}{t:TxR}(h:L[k]?=X t):fk (L.take (k+1))=(jd (fk (L.take k)) t.fR).1:=by
 rw[eG,h];simp[fk,List.foldl_append]
theorem Qe(h:s.Right)(l:List Rc):(jd s l).1.Right:=by
 unfold jd;cases e:dO s l with
 |none=>exact h
 |some m=>exact Wi h e
theorem Kl(L:List TxR):(fk L).Right:=by
 have:∀(L:List TxR) (s:Sto),s.Right->(L.foldl (λs t=>(jd s t.fR).1) s).Right:=by
  intro L
  induction L with
  |nil=>intro s h;exact h
  |cons t L a=>intro s h;exact a _ (Qe h _)
 exact this L ii Bi
theorem Dp:∀{l:List Nat} {x:Nat},x∈l->x<=l.sum
 |a::l,x,h=>by
  rw[fU];rcases aX.1 h with rfl|h
  ·omega
  ·have:=Dp h;omega
theorem Fk:∀(L:List TxR) (k:Nat),((L.drop k).map (λx=>x.fR.length)).sum<=(L.map (λx=>x.fR.length)).sum
 | [],k=>by simp
 |t::L,0=>am _
 |t::L,k+1=>by
  have:=Fk L k;simp only[List.drop_succ_cons,cn,fU];omega
theorem VX{gs:List Xw}{L:List TxR}(h:gs.map dz=L.map TxR.tu)(hs:(L.map (λx=>x.fR.length)).sum<=1200){r:Xw}(a:r∈gs):r.2.2.2.length<=1048576:=by
 have h1:dz r∈L.map TxR.tu:=by rw[<-h];exact pj a
 obtain⟨t,b,e⟩:=bJ.1 h1;have c:t.fR.length<=1200:=bT (Dp (bJ.2 ⟨t,b,rfl⟩)) hs;unfold dz TxR.tu at e;simp only[mQ]at e;rw[<-e.2.2,bm];omega
theorem tJ(h:bo bs=iV):(au bs).length<=40/\dp (λp=>p.text.size) ((au bs).map an.fP)<=3600:=by
 have h1:(au bs).length<=bs.length*4:=Hq bs 4 (λb d=>by rw[vD h b d];exact am _)
 have f:bs.length<=10:=by
  unfold bo at h;rw[bn,bH]at h;omega
 have c:∀M:List an,(∀x∈M,x.fP.text.size<=90)->dp (λp=>p.text.size) (M.map an.fP)<=90*M.length:=by
  intro M
  induction M with
  |nil=>intro _;simp[dp]
  |cons x M e=>
   intro a;have:=e (λy hy=>a y (by simp[hy]))
   have:=a x (by simp)
   simp only[dp,cn,fU,aV]at*;omega
 have h4:=c (au bs) (λx a=>by have:=(sk a).2.2.2.2.2;omega)
 omega
theorem Cu(v:iX)(bs:List Bk)(w:iW)(hs:de bs)(ha:fq w v bs):iK Tryz.prog 99 #[iA #[v]] w (Dz w (fj bs).1 (fj bs).2):=by
 obtain⟨fd,fc,rfl⟩:=ha.form;have a9:(w.alloc (iC #[Y fd bs.length fc] 26)).heap.size=w.heap.size+1:=by simp
 have bA:iL w.heap.size w ((w.alloc (iC #[Y fd bs.length fc] 26)).alloc (iC #[Y O 0 0,Y O 0 0,Y O 0 0,I J 0,I J 0,I J 0,I J 0] 34)):=(bh).alloc (by simp) _
 have kA:((w.alloc (iC #[Y fd bs.length fc] 26)).alloc (iC #[Y O 0 0,Y O 0 0,Y O 0 0,I J 0,I J 0,I J 0,I J 0] 34)).cell? ⟨w.heap.size,0,O⟩=X (Y fd bs.length fc):=ai _ _ 0 _ _ _ ((iZ _ _ (by simp)).trans (aC w (iC #[Y fd bs.length fc] 26)))
 have zA:aU ((w.alloc (iC #[Y fd bs.length fc] 26)).alloc (iC #[Y O 0 0,Y O 0 0,Y O 0 0,I J 0,I J 0,I J 0,I J 0] 34)) (w.heap.size+1) (Y O 0 0) (Y O 0 0) (Y O 0 0) 0 0 0 0:=by
  rw[<-a9];exact aC _ _
 generalize bu:(w.alloc (iC #[Y fd bs.length fc] 26)).alloc (iC #[Y O 0 0,Y O 0 0,Y O 0 0,I J 0,I J 0,I J 0,I J 0] 34)=wa at bA kA zA;have aF:=ha.below bA;obtain⟨rs,e1,i1,l1,al,ax⟩:=aF.lens hs;have CO:=af (xh (Y fd bs.length fc) rs wa l1 al i1);rw[e1]at CO;have HA:=af aF;have HS:=af hs;have ZA:=af zA;have aA:=af bA;clear ha hs aF i1 l1 al ax e1 bA zA a9;go_enter Tryz.func99,Tryz.ntmps99;go_wp2_with fail;clear bu;refine CO.o.mono ?_;rintro e w1 ⟨rfl,b1⟩;have k1:=(b1.cell (aT wa _ kA)).trans kA;have S:=af (ZA.o.below b1);have B1:=af (aA.o.trans (b1.mono aA.o.size));have A1:=af (HA.o.below b1);clear CO b1 kA ZA HA aA;cases ae:bo bs with
 |false=>
  have HM:ah (fj bs=(sd,iF)):=by show _=_;unfold fj;rw[ae];rfl
  obtain⟨y0,y1,y2,y3,y4,y5,y6⟩:=S.o.cells;have f0:=S.o.fr 0;have f1:=S.o.fr 1;have f2:=S.o.fr 2;have f3:=S.o.fr 3;have f4:=S.o.fr 4;have f5:=S.o.fr 5;have f6:=S.o.fr 6;have FD:=af (lI S.o (Y O 0 0) (Y O 0 0) (Y O 0 0) 0 0 0 0);have FB:=af (ly (Y O 0 0) (Y O 0 0) (Y O 0 0) 0 0 0 0 B1.o (g:=w.heap.size+1) (by omega))
  have FI:=af (Fm (B:=w.heap.size) (bF w1 (w.heap.size+1) (Y O 0 0) (Y O 0 0) (Y O 0 0) 0 0 0 0) FB.o.size);unfold bF at FD FB FI;clear ae A1 B1 S;go_wp2;refine aE (pU rfl _ _ (w.heap.size+1) _ _ _ _ _ _ _ rfl FD.o) rfl ?_;rw[HM.o];exact⟨_,rfl,FI.o,FU,FB.o⟩
 |true=>
  have aw:=tJ ae;have HM:ah (fj bs=(jz bs,iV)):=by show _=_;unfold fj;rw[ae];rfl
  obtain⟨rs,e1,i1,l1,al,ax⟩:=A1.o.lens HS.o;have CS:=af (oU (Y fd bs.length fc) rs w1 l1 al ax i1);rw[e1]at CS;unfold kZ at CS;obtain⟨M,hM⟩:=aq (au bs);rw[hM]at CS aw;have HP:ah (jz bs=⟨bs,fk (cI M),gY M,gL M,mh (cI M)⟩):=by show _=_;unfold jz;rw[hM]
  have bc:ah (∀x∈M,x.fP.Right):=by rw[<-hM];exact λx hx=>sk hx
  have aQ:=af aw;have a0:=aw.1;clear ae rs e1 i1 l1 al ax hM aw;go_wp2_with fail;refine CS.o.mono ?_;rintro e H ⟨la,lc,rfl,h1,-,h3⟩;have k2:=(h3.cell (aT w1 _ k1)).trans k1;have R2:=af h1;have A2:=af (A1.o.below h3);have Z2:=af (S.o.below h3);have B2:=af (B1.o.trans (h3.mono B1.o.size));clear CS h1 h3 k1 A1 S B1;go_wp2_with fail;refine(wD _ bs _ HS.o A2.o).mono ?_;rintro e b ⟨x,rfl,fo,b3⟩;obtain⟨z,y,rfl⟩:=fo.form;have F3:ah (cF H.heap.size b.heap.size (Y z bs.length y) bs b):=fo;have R3:=af (R2.o.below b3);have Z3:=af (Z2.o.below b3);have B3:=af (B2.o.trans (b3.mono B2.o.size));have bt:=b3.size;have bN:=Z2.o.lt;clear fo b3 k2 A2 R2 Z2 B2;go_wp2_with fail;refine(Nt _).mono ?_;rintro e a ⟨sv,rfl,so⟩;obtain⟨j,l,vc,ad,i,cap,rfl⟩:=so.form;have b4:=so.blw;have R4:=af (R3.o.below b4);have ba:=aR a (iC #[Y z bs.length y,Y j l vc,Y ad i cap,I J ii.next,I J 1,I J 1,I J 0] 34);have M0:ah (cY w (a.alloc (iC #[Y z bs.length y,Y j l vc,Y ad i cap,I J ii.next,I J 1,I J 1,I J 0] 34)) (w.heap.size+1) a.heap.size H.heap.size b.heap.size b.heap.size (Y z bs.length y) (Y j l vc) (Y ad i cap) bs ii 1 1 0):=by
   have hb:=(B3.o.trans (b4.mono B3.o.size));exact⟨hb.trans (ba.mono hb.size),(Z3.o.below b4).below ba,aC _ _,cF.loc _ _ _ _ b _ (λx T P=>(ba.block x (by have:=b4.size;omega)).trans (b4.block x P)) F3.o,(eB.of so (am _) (.inr (am _))).below ba,by omega,by omega,by omega,bt,b4.size,am _⟩
  have BZ:=af ba;have bI:=b4.size;clear so b4 ba R3 Z3 B3 F3;go_wp2;generalize a.alloc (iC #[Y z bs.length y,Y j l vc,Y ad i cap,I J ii.next,I J 1,I J 1,I J 0] 34)=w5 at M0 BZ⊢;obtain⟨n,hn⟩:=aq M.length;have HN:=af hn;rw[hn]at R4 a0⊢;clear hn;go_loopw [6] (λiv wr=>∃k:Nat,iv=I J k/\k<=n/\ah (cY w wr (w.heap.size+1) a.heap.size H.heap.size b.heap.size b.heap.size (Y z bs.length y) (Y j l vc) (Y ad i cap) bs ii (gY (M.take k)) (gL (M.take k)) 0)/\ah (iL a.heap.size a wr)) (λiv _=>n-(intOf iv).toNat)
  case atStart=>exact⟨0,rfl,aK _,M0,BZ⟩
  case round=>
   rename iW=>wr
   obtain⟨k,rfl,hk,C,BK⟩:=hrel;clear M0 BZ;have bn:(0:Int)<=k:=by omega
   by_cases bp:(k:Int)<n
   ·obtain⟨x,hx⟩:∃x,M[k]?=X x:=⟨_,ay (by have:=HN.o;omega)⟩
    have hR:=bc.o x (aO hx);have ap:=af (Sq hx);have A:=af (Zo hx);have HX:=af hx;obtain⟨sq,a2⟩:=aq (gY (M.take k));obtain⟨tq,a6⟩:=aq (gL (M.take k));rw[a2]at C ap;rw[a6]at C A;obtain⟨xb,xl,pk,pq,px,pp,pc,pt⟩:=x;have bE:1<=pq/\pq<=1000000000:=⟨hR.2.1,hR.2.2.1⟩;have bG:1<=px/\px<=1000000000:=⟨hR.2.2.2.1,hR.2.2.2.2.1⟩;simp only at ap A;clear hx hR a2 a6;have N:ah (∀m,cY w (wr.drewN m) (w.heap.size+1) a.heap.size H.heap.size b.heap.size b.heap.size (Y z bs.length y) (Y j l vc) (Y ad i cap) bs ii sq tq 0):=λm=>C.o.drewN m
    have BD:ah (∀m,iL a.heap.size a (wr.drewN m)):=λm=>dL BK.o m
    have d:=C;have E:=BK;obtain⟨rb,ro,R,-,Q,c1,c2,c3,c4,c5,c6,c7,d4⟩:=(R4.o.below E.o).all HX.o;subst R;simp only at Q c1 c2 c3 c4 c5 c6 c7 d4;have d3:=c3;rw[show ro+k*8+3=ro+k*8+2+1 from rfl]at d3;obtain⟨-,-,-,-,y4,y5,-⟩:=d.o.2.2.1.cells;have f4:=d.o.2.2.1.fr 4;have f5:=d.o.2.2.1.fr 5;clear d E C BK;obtain⟨p,hp⟩:=aq (decide (pq≥sq));have U:ah (gY (M.take (k+1))=if p=iV then pq+1 else sq):=by show _=_;rw[ap.o,<-hp];simp only[bH,ge_iff_le]
    go_wp2;go_quiet (fail);generalize f:wr.drewN _=wy;have d:ah (cY w wy (w.heap.size+1) a.heap.size H.heap.size b.heap.size b.heap.size (Y z bs.length y) (Y j l vc) (Y ad i cap) bs ii sq tq 0):=by rw[<-f];exact N.o _
    have E:ah (iL a.heap.size a wy):=by rw[<-f];exact BD.o _
    clear f N BD Q c1 c2 c3 c4 c5 c6 c7 d3 d4 y4 y5 f4 f5 ap;go_upto_if 33 with fail
    clear hp;go_cut [] (λV=>ah (cY w V (w.heap.size+1) a.heap.size H.heap.size b.heap.size b.heap.size (Y z bs.length y) (Y j l vc) (Y ad i cap) bs ii (gY (M.take (k+1))) tq 0)/\ah (iL a.heap.size a V))
    case first=>
     cases p with
     |true=>
      obtain⟨rb,ro,R,-,Q,c1,c2,c3,c4,c5,c6,c7,d4⟩:=(R4.o.below E.o).all HX.o;injection R with R;injection R with e9a e9b;subst e9a e9b
      simp only at Q c1 c2 c3 c4 c5 c6 c7 d4;have d3:=c3;rw[show ro+k*8+3=ro+k*8+2+1 from rfl]at d3;obtain⟨-,-,-,-,y4,y5,-⟩:=d.o.2.2.1.cells;have f4:=d.o.2.2.1.fr 4;have f5:=d.o.2.2.1.fr 5;have MR:=af (d.o.seq (pq+1));rw[ak rfl]at U;have BR:=af (E.o.setCell (p:=⟨a.heap.size,4,O⟩) (am _) (I J (pq+1)));clear d E;go_wp2_with fail;go_meet
      case rel=>exact⟨by rw[U.o];exact MR,BR⟩
     |false=>
      rw[aj (by simp)]at U
      rw[<-U.o]at d;go_wp2_with fail;go_meet
      case rel=>exact⟨d,E⟩
    case rest=>
     obtain⟨wq,hV⟩:∃wq,wq=wc:=⟨_,rfl⟩;subst hV;clear d E U;obtain⟨d,E⟩:=hcut;have N:ah (∀m,cY w (wq.drewN m) (w.heap.size+1) a.heap.size H.heap.size b.heap.size b.heap.size (Y z bs.length y) (Y j l vc) (Y ad i cap) bs ii (gY (M.take (k+1))) tq 0):=λm=>d.o.drewN m
     have BD:ah (∀m,iL a.heap.size a (wq.drewN m)):=λm=>dL E.o m
     obtain⟨rb,ro,R,-,Q,c1,c2,c3,c4,c5,c6,c7,d4⟩:=(R4.o.below E.o).all HX.o;injection R with R;injection R with e9a e9b;subst e9a e9b
     simp only at Q c1 c2 c3 c4 c5 c6 c7 d4;have d3:=c3;rw[show ro+k*8+3=ro+k*8+2+1 from rfl]at d3;obtain⟨-,-,-,-,y4,y5,-⟩:=d.o.2.2.1.cells;have f4:=d.o.2.2.1.fr 4;have f5:=d.o.2.2.1.fr 5;clear d E;by_cases q:pk=2/\tq<=px
     ·have q1:(pk==2)=iV:=by simpa using q.1
      have q3:decide (px≥tq)=iV:=aW q.2;rw[ak q]at A;clear q;go_wp2;go_quiet (fail);generalize f:wq.drewN _=wz;have d:ah (cY w wz (w.heap.size+1) a.heap.size H.heap.size b.heap.size b.heap.size (Y z bs.length y) (Y j l vc) (Y ad i cap) bs ii (gY (M.take (k+1))) tq 0):=by rw[<-f];exact N.o _
      have E:ah (iL a.heap.size a wz):=by rw[<-f];exact BD.o _
      clear f N BD Q c1 c2 c3 c4 c5 c6 c7 d3 d4 y4 y5 f4 f5;obtain⟨rb,ro,R,-,Q,c1,c2,c3,c4,c5,c6,c7,d4⟩:=(R4.o.below E.o).all HX.o;injection R with R;injection R with e9a e9b;subst e9a e9b
      simp only at Q c1 c2 c3 c4 c5 c6 c7 d4;have d3:=c3;rw[show ro+k*8+3=ro+k*8+2+1 from rfl]at d3;obtain⟨-,-,-,-,y4,y5,-⟩:=d.o.2.2.1.cells;have f4:=d.o.2.2.1.fr 4;have f5:=d.o.2.2.1.fr 5;have MN:ah (cY w (wz.setCell ⟨a.heap.size,5,O⟩ (I J (px+1))) (w.heap.size+1) a.heap.size H.heap.size b.heap.size b.heap.size (Y z bs.length y) (Y j l vc) (Y ad i cap) bs ii (gY (M.take (k+1))) (gL (M.take (k+1))) 0):=by rw[A.o];exact d.o.tx _
      have BN:=af (E.o.setCell (p:=⟨a.heap.size,5,O⟩) (am _) (I J (px+1)));clear d E A;go_wp2;go_roundw
      case rel=>exact⟨k+1,by go_num,by omega,MN,BN⟩
      case measure=>simp[intOf];omega
     ·rw[aj q]at A;have q:((pk==2)=iV/\decide (px≥tq)=iF)∨(pk==2)=iF:=by
       by_cases q1:pk=2
       ·exact .inl ⟨by simpa using q1,bf (λh=>q ⟨q1,h⟩)⟩
       ·exact .inr (by simpa using q1)
      rcases q with⟨q1,q3⟩|q1
      all_goals
       go_wp2;go_quiet (fail);generalize f:wq.drewN _=wz;have MN:ah (cY w wz (w.heap.size+1) a.heap.size H.heap.size b.heap.size b.heap.size (Y z bs.length y) (Y j l vc) (Y ad i cap) bs ii (gY (M.take (k+1))) (gL (M.take (k+1))) 0):=by rw[A.o,<-f];exact N.o _
       have BN:ah (iL a.heap.size a wz):=by rw[<-f];exact BD.o _
       clear f N BD A;go_wp2;go_roundw
       case rel=>exact⟨k+1,by go_num,by omega,MN,BN⟩
       case measure=>simp[intOf];omega
   ·have ek:M.take k=M:=bL (by have:=HN.o;omega)
    have F:ah (cY w wr (w.heap.size+1) a.heap.size H.heap.size b.heap.size b.heap.size (Y z bs.length y) (Y j l vc) (Y ad i cap) bs ii (gY M) (gL M) 0):=by have:=C.o;rw[ek]at this;exact this
    have R5:=af (R4.o.below BK.o);have bl:=C.o.2.2.1.lt;obtain⟨L1,ar⟩:=aq (dF (M.map an.fP));have ag:=Jp (M.map an.fP);rw[ar,bm,HN.o]at ag;have CG:=af (DY la n lc M wr (by omega) (by have:=aQ.o.2;omega) R5.o)
    rw[ar]at CG;have W:ah ((L1.map (λx=>x.fR.length)).sum<=1200):=by have:=aQ.o.2;show _<=_;omega
    have bq:=ag.2;obtain⟨n1,ab⟩:=aq L1.length;have aN:=af ab;rw[ab]at bq;have aX:ah (cI M=jJ L1):=by show _=_;unfold cI;rw[ar]
    clear ek C BK R5 ar ag ab R4;go_wp2_with fail;refine CG.o.mono ?_;rintro e w6 h6;obtain⟨ga,gc,gs,rfl,aY,aG,aZ,b6⟩:=h6.rows aN.o;have M6:=af (F.o.below b6);have bC:a.heap.size<w6.heap.size:=by have:=b6.size;omega
    obtain⟨c,aa⟩:=aq (jJ L1);have bB:=af aa;have CI:=af (L9 ga n1 gc gs L1 w6 (by omega) (λr hr=>VX aG W.o hr) aG (aZ.txs.rd aY (am _)))
    rw[aa]at CI aX;have br:c.length<=n1:=by rw[<-aa];unfold jJ;rw[ju,aN.o];omega
    obtain⟨n2,ac⟩:=aq c.length;have ao:=af ac;rw[ac]at br;have bg:ah ((c.map (λx=>x.fR.length)).sum<=1200):=by
     have h1:=W.o;show _<=_;rw[<-aa];unfold jJ;exact bT (Fk _ _) h1
    clear h6 aY aG aZ b6 F CG aa ac bl W;go_wp2_with fail;refine CI.o.mono ?_;rintro e s h7;obtain⟨ta,tc,ts,rfl,a5,a7,a8,b7⟩:=h7.rows ao.o;have M7:=af (M6.o.below b7);have X7:=af a8.txs;have aB:=af a5;have bk:=af a7;have bK:=b7.size;clear h7 a5 a7 a8 b7 M6 CI;go_wp2;go_loopw [8] (λiv wr=>∃(k:Nat) (j:Option Addr) (l vc:Nat) (ad:Option Addr) (i cap:Nat),iv=I J k/\k<=n2/\ah (cY w wr (w.heap.size+1) a.heap.size H.heap.size b.heap.size b.heap.size (Y z bs.length y) (Y j l vc) (Y ad i cap) bs (fk (c.take k)) (gY M) (gL M) (if k=0 then 0 else mh c))/\ah (s.heap.size<=wr.heap.size/\∀x,w6.heap.size<=x->x<s.heap.size->wr.heap[x]?=s.heap[x]?)) (λiv _=>n2-(intOf iv).toNat)
    case atStart=>exact⟨0,j,l,vc,ad,i,cap,rfl,aK _,M7,am _,λ_ _ _=>rfl⟩
    case round=>
     rename iW=>wr
     obtain⟨k,j,l,vc,ad,i,cap,rfl,hk,C,KK⟩:=hrel;clear M7;have bn:(0:Int)<=k:=by omega
     by_cases bp:(k:Int)<n2
     ·have a4:k<c.length:=by have:=ao.o;omega
      obtain⟨t,ht⟩:∃t,c[k]?=X t:=⟨_,ay a4⟩;obtain⟨r,hr⟩:∃r,ts[k]?=X r:=⟨_,ay (by have:=aB.o;omega)⟩
      have G:dz r=t.tu:=by
       have h1:(ts.map dz)[k]?=X (dz r):=by rw[bi,hr];rfl
       rw[bk.o,bi,ht]at h1;injection h1 with h1
       exact h1.symm
      have HR:=af hr;have aP:ah (r.2.2.2=t.fR.map Rc.tu):=by show _=_;unfold dz TxR.tu at G;simp only[mQ]at G;exact G.2.2
      have bd:ah (r.1=t.num):=by show _=_;unfold dz TxR.tu at G;simp only[mQ]at G;exact G.1
      have be:ah (t.fR.length<=1200):=bT (Dp (bJ.2 ⟨t,aO ht,rfl⟩)) bg.o;have bj:=af (Lp ht);have bb:ah (k=0->mh c=t.num):=λh0=>by
       subst h0;cases hL:c with
       |nil=>rw[hL]at ht;cases ht
       |cons u L=>rw[hL]at ht;simp at ht;subst ht;rfl
      clear hr G ht a4;go_upto_if 78 with fail
      go_cut [] (λV=>ah (cY w V (w.heap.size+1) a.heap.size H.heap.size b.heap.size b.heap.size (Y z bs.length y) (Y j l vc) (Y ad i cap) bs (fk (c.take k)) (gY M) (gL M) (if k+1=0 then 0 else mh c))/\ah (s.heap.size<=V.heap.size/\∀x,w6.heap.size<=x->x<s.heap.size->V.heap[x]?=s.heap[x]?))
      case first=>
       by_cases D:k=0
       ·have eg:((k:Int)==0)=iV:=by simp[D]
        have bz:=af D;have RC:=af ((rj.loc _ _ _ _ s wr (λx T P=>KK.o.2 x T P) X7.o).rd aB.o KK.o.1)
        obtain⟨tb,tf,e8,-,Q,-,c2⟩:=RC.o.at HR.o;subst e8;rw[bd.o]at Q;obtain⟨-,-,-,-,-,-,y6⟩:=C.o.2.2.1.cells;have f6:=C.o.2.2.1.fr 6;have MB:ah (cY w (wr.setCell ⟨a.heap.size,6,O⟩ (I J t.num)) (w.heap.size+1) a.heap.size H.heap.size b.heap.size b.heap.size (Y z bs.length y) (Y j l vc) (Y ad i cap) bs (fk (c.take k)) (gY M) (gL M) (if k+1=0 then 0 else mh c)):=by
         have:=C.o.base t.num;rw[aj (show¬(k+1=0)by omega),bb.o D]
         exact this
        have KB:ah (s.heap.size<=(wr.setCell ⟨a.heap.size,6,O⟩ (I J t.num)).heap.size/\∀x,w6.heap.size<=x->x<s.heap.size->(wr.setCell ⟨a.heap.size,6,O⟩ (I J t.num)).heap[x]?=s.heap[x]?):=⟨by simpa using KK.o.1,λx T P=>(aS _ _ _ _ (show x≠a.heap.size by omega)).trans (KK.o.2 x T P)⟩
        clear D C KK RC c2;go_wp2_with fail;go_meet
        case rel=>exact⟨MB,KB⟩
       ·have eg:((k:Int)==0)=iF:=by rw[du];omega
        have MB:ah (cY w wr (w.heap.size+1) a.heap.size H.heap.size b.heap.size b.heap.size (Y z bs.length y) (Y j l vc) (Y ad i cap) bs (fk (c.take k)) (gY M) (gL M) (if k+1=0 then 0 else mh c)):=by
         have:=C.o;rw[aj D]at this;rw[aj (show¬(k+1=0)by omega)]
         exact this
        go_wp2_with fail;go_meet
        case rel=>exact⟨MB,KK⟩
      case rest=>
       obtain⟨wb,hV⟩:∃wb,wb=wc:=⟨_,rfl⟩;subst hV;clear C KK;obtain⟨MB,KB⟩:=hcut;have bD:=MB.o.2.2.1.lt;have RD:=af ((rj.loc _ _ _ _ s wb (λx T P=>KB.o.2 x T P) X7.o).rd aB.o KB.o.1)
       obtain⟨tb,tf,e8,-,Q,-,c2⟩:=RD.o.at HR.o;subst e8;have bM:w6.heap.size<=tb:=by
        rcases X7.o.1 with⟨e,-⟩|⟨g,cp,e,q1,-⟩
        ·cases e
        ·injection e with e1
         injection e1 with e1
         injection e1 with e1
         rw[e1];exact q1
       obtain⟨ra,rc,e7,-,av⟩:=RD.o.2.2.1 _ (aO HR.o);rw[e7]at c2;obtain⟨-,y1,y2,y3,-,-,-⟩:=MB.o.2.2.1.cells;rw[aP.o]at av e7;rw[aP.o,bm]at c2;rw[bm]at av e7;have a3:=MB.o.2.2.2.2.1.rd (vZ (Kl (c.take k)));have N:=af (MB.o.below (az wb.heap.size wb).drew);have KD:ah (s.heap.size<=wb.drew.heap.size/\∀x,w6.heap.size<=x->x<s.heap.size->wb.drew.heap[x]?=s.heap[x]?):=KB;have CE:=af (YV (iA #[Y j l vc,Y ad i cap,I J (fk (c.take k)).next]) (fk (c.take k)) ra t.fR.length rc t.fR wb.drew (by have:=be.o;omega) (a3.below (az wb.heap.size wb).drew) (av.below (az wb.heap.size wb).drew))
       have SD:wb.drew.cell? ⟨tb,tf+k*3+2,O⟩=X (Y ra t.fR.length rc):=c2;clear a3 av e7 RD KB Q;obtain⟨nx,a1⟩:=aq ((fk (c.take k)).next);rw[a1]at CE y3;clear a1;have z1:wb.drew.cell? ⟨a.heap.size,1,O⟩=X (Y j l vc):=y1;have z2:wb.drew.cell? ⟨a.heap.size,2,O⟩=X (Y ad i cap):=y2;have z3:wb.drew.cell? ⟨a.heap.size,3,O⟩=X (I J nx):=y3;clear y1 y2 y3 c2;go_upto_region 18 with fail
       refine q8 (λw'=>w'.cell? ⟨tb,tf+k*3+2,O⟩=X (Y ra t.fR.length rc)) (by kernel_rfl) SD (λhHeld=>?_)
       simp only[aV,dU,Nat.reduceAdd];refine aH 0 ?_;refine aH 2 ?_;refine aH 3 ?_;refine aH 4 ?_;refine aH 5 ?_;refine aH 6 ?_;refine dG 1 rfl (by kernel_rfl) (λK hK=>?_)
       go_simp;refine hK.out _ _ SD (λhHeld2=>?_)
       clear hK K hHeld;have hHeld:=hHeld2;clear hHeld2
       (try simp only[Act.put,cN,cu,bZ])
       clear z1 z2 z3;refine dG 7 rfl (by kernel_rfl) (λK hK=>?_)
       go_simp;refine CE.o.mono ?_;rintro en w9 ⟨u,rfl,so⟩;obtain⟨aJ,aM,aL,aD,aI,Z,rfl⟩:=so.form;have b9:=so.blw;have SE:=(b9.cell (aT _ _ SD)).trans SD;have MN:=af (N.o.fS so (by show b.heap.size<=wb.heap.size;omega))
       have KN:ah (s.heap.size<=w9.heap.size/\∀x,w6.heap.size<=x->x<s.heap.size->w9.heap[x]?=s.heap[x]?):=⟨bT KD.o.1 b9.size,λx T P=>(b9.block x (fE P KD.o.1)).trans (KD.o.2 x T P)⟩
       obtain⟨-,T,P,x3,-,-,-⟩:=(N.o.2.2.1.below b9).cells;have bv:=(N.o.2.2.1.below b9).fr 1;have bw:=(N.o.2.2.1.below b9).fr 2;have bx:=(N.o.2.2.1.below b9).fr 3;clear so b9 CE N KD;refine hK.out _ _ SE (λhHeld2=>?_)
       clear hK K hHeld;have hHeld:=hHeld2;clear hHeld2
       (try simp only[Act.put,cN,cu,bZ])
       refine aH 8 ?_;refine aH 9 ?_;refine aH 10 ?_;refine aH 11 ?_;refine dG 12 rfl (by kernel_rfl) (λK hK=>?_)
       go_simp;refine hK.out _ _ (by rw[iQ (h:=λe=>by have:=congrArg Addr.block e;simp at this;omega),iQ (h:=λe=>by have:=congrArg Addr.block e;simp at this;omega),iQ (h:=λe=>by have:=congrArg Addr.block e;simp at this;omega)];exact SE) (λhHeld2=>?_)
       clear hK K hHeld;have hHeld:=hHeld2;clear hHeld2
       (try simp only[Act.put,cN,cu,bZ])
       refine oG (by kernel_rfl) ?_
       clear hHeld SD SE T P x3 bv bw bx;rw[<-bj.o]at MN⊢;have KM:ah (s.heap.size<=(((w9.setCell ⟨a.heap.size,1,O⟩ (Y aJ aM aL)).setCell ⟨a.heap.size,2,O⟩ (Y aD aI Z)).setCell ⟨a.heap.size,3,O⟩ (I J (fk (c.take (k+1))).next)).heap.size/\∀x,w6.heap.size<=x->x<s.heap.size->(((w9.setCell ⟨a.heap.size,1,O⟩ (Y aJ aM aL)).setCell ⟨a.heap.size,2,O⟩ (Y aD aI Z)).setCell ⟨a.heap.size,3,O⟩ (I J (fk (c.take (k+1))).next)).heap[x]?=s.heap[x]?):=⟨by simpa using KN.o.1,λx T P=>by
        rw[aS _ ⟨a.heap.size,3,O⟩ _ _ (show x≠a.heap.size by omega),aS _ ⟨a.heap.size,2,O⟩ _ _ (show x≠a.heap.size by omega),aS _ ⟨a.heap.size,1,O⟩ _ _ (show x≠a.heap.size by omega)]
        exact KN.o.2 x T P⟩
       clear KN;go_wp2;go_roundw
       case rel=>exact⟨k+1,aJ,aM,aL,aD,aI,Z,by go_num,by omega,MN,KM⟩
       case measure=>simp[intOf];omega
     ·have ek:c.take k=c:=bL (by have:=ao.o;omega)
      have eb:(if k=0 then 0 else mh c)=mh c:=by
       by_cases h0:k=0
       ·rw[ak h0];cases hL:c with
        |nil=>rfl
        |cons u L=>have:=ao.o;rw[hL,aV]at this;omega
       ·rw[aj h0]
      have F:=C.o;rw[ek,eb]at F;have FN:=af F.fin;obtain⟨g0,g1,g2,g3,g4,g5,g6⟩:=F.2.2.1.cells;obtain⟨i0,i1,i2,i3,i4,i5,i6⟩:=F.2.1.cells;have q0:=F.2.1.fr 0;have q1:=F.2.1.fr 1;have q2:=F.2.1.fr 2;have q3:=F.2.1.fr 3;have q4:=F.2.1.fr 4;have q5:=F.2.1.fr 5;have q6:=F.2.1.fr 6;clear F C KK ek eb;unfold bF at FN;go_wp2;refine aE (pU (p:=2) (q:=3) rfl _ _ (w.heap.size+1) _ _ _ _ _ _ _ rfl FN.o.1) rfl ?_;rw[HM.o,HP.o,aX.o];exact⟨_,rfl,FN.o.2.1,⟨HS.o,vZ (Kl c)⟩,FN.o.2.2⟩
theorem SP{L:List TxR}{b:Int}(h:∀(j:Nat) (u:TxR),j<L.length->L[j]?=X u->u.num≠b):L.find? (λt=>decide (t.num=b))=O:=by
 rw[Ad];intro u c;obtain⟨j,a⟩:=io c
 simpa using h j u (aB.1 a).1 a
theorem Vc{L:List TxR}{b:Int}{t:TxR}(h:∀(j:Nat) (u:TxR),j<k->L[j]?=X u->u.num≠b)(c:L[k]?=X t)(f:t.num=b):L.find? (λt=>decide (t.num=b))=X t:=by
 obtain⟨d,e⟩:=aB.1 c;rw[List.find?_eq_some_iff_getElem];refine⟨by simpa using f,k,d,e,λj a=>?_⟩
 have:=h j L[j] a (ay (by omega))
 simpa using this
theorem Rt(x:iX)(d:Dv)(w:iW)(h:eP w x d)(S:bo d.fH=iV)(aB:IntKind.i64.wrap (d.tx-1)=d.tx-1):iK Tryz.prog 180 #[x] w λe w'=>e=G (iB (rM d))/\iL w.heap.size w w':=by
 obtain⟨D,C,va,vl,vc,ad,ln,cap,rfl,h1,h2,h3⟩:=h.form;have bA:=aR w (iC #[Y D d.fH.length C,Y va vl vc,Y ad ln cap,I J d.fS.next,I J d.seq,I J d.tx,I J d.base] 34);have gA:aU (w.alloc (iC #[Y D d.fH.length C,Y va vl vc,Y ad ln cap,I J d.fS.next,I J d.seq,I J d.tx,I J d.base] 34)) w.heap.size (Y D d.fH.length C) (Y va vl vc) (Y ad ln cap) d.fS.next d.seq d.tx d.base:=aC _ _;generalize al:w.alloc (iC #[Y D d.fH.length C,Y va vl vc,Y ad ln cap,I J d.fS.next,I J d.seq,I J d.tx,I J d.base] 34)=wa at bA gA;obtain⟨rs,e1,i1,l1,W,Z⟩:=(h1.below bA).lens h2;have CS:=af (oU (Y D d.fH.length C) rs wa l1 W Z i1);rw[e1]at CS;unfold kZ at CS;have A:=tJ S;have g:ah (rM d=if d.base≠d.tx-1 then iF else match (dF ((au d.fH).map an.fP)).find? (λt=>decide (t.num=d.base))with
  |some t=>t.base
  |none=>iF):=rfl
 obtain⟨M,hM⟩:=aq (au d.fH);rw[hM]at CS A g;obtain⟨R,hR⟩:=aq (rM d);rw[hR]at g⊢;have i:=af A;have HB:=af bA;have HG:=af gA;obtain⟨y0,-,-,-,-,y5,y6⟩:=gA.cells;clear h1 h2 h3 h S e1 i1 l1 W Z rs hM hR A bA gA;go_enter Tryz.func180,Tryz.ntmps180;by_cases hb:(d.base !=d.tx-1)=iV
 ·have v:ah (R=iF):=by show _=_;rw[g.o,ak (by simpa using hb)]
  clear g CS;go_wp2;go_ret;exact⟨by rw[v.o];rfl,HB.o⟩
 have E:¬(d.base≠d.tx-1):=by simpa using hb
 have hb:(d.base !=d.tx-1)=iF:=by simpa using hb
 rw[aj E]at g;clear E;go_wp2_with fail;clear al;refine CS.o.mono ?_;rintro e w1 ⟨la,lc,rfl,f1,-,f3⟩;have CG:=af (DY la M.length lc M w1 (by have:=i.o.1;omega) (by have:=i.o.2;omega) f1)
 have B1:=af (HB.o.trans (f3.mono HB.o.size));have G1:=af (HG.o.below f3);obtain⟨L,hL⟩:=aq (dF (M.map an.fP));have p:=Jp (M.map an.fP);rw[hL,bm]at p;rw[hL]at CG g;obtain⟨n1,N⟩:=aq L.length;have ap:n1<=40:=by have:=i.o.1;omega
 have HN:=af N;have ao:ah ((L.map (λx=>x.fR.length)).sum<=1200):=by have:=i.o.2;show _<=_;omega
 clear CS HB HG f1 f3 hL p N y0 y5 y6;go_wp2_with fail;refine CG.o.mono ?_;rintro e s h6;obtain⟨ga,gc,gs,rfl,y,H,K,b6⟩:=h6.rows HN.o;have B2:=af (B1.o.trans (b6.mono B1.o.size));have G2:=af (G1.o.below b6);have RT:=af (K.txs.rd y (am _));have ab:=af H;have aa:=af y;clear CG h6 K b6 B1 G1 H y;go_wp2;go_loopw [4] (λiv wr=>∃k:Nat,iv=I J k/\k<=n1/\ah (iL s.heap.size s wr)/\ah (∀(j:Nat) (u:TxR),j<k->L[j]?=X u->u.num≠d.base)) (λiv _=>n1-(intOf iv).toNat)
 case atStart=>exact⟨0,rfl,aK _,az _ _,(show∀(j:Nat) (u:TxR),j<0->L[j]?=X u->u.num≠d.base from λj u hj=>by omega)⟩
 case round=>
  rename iW=>wr
  obtain⟨k,rfl,hk,BK,HK⟩:=hrel;have ar:(0:Int)<=k:=by omega
  by_cases av:(k:Int)<n1
  ·obtain⟨t,ht⟩:∃t,L[k]?=X t:=⟨_,ay (by have:=HN.o;omega)⟩
   obtain⟨r,U⟩:∃r,gs[k]?=X r:=⟨_,ay (by have:=aa.o;omega)⟩
   have a:dz r=t.tu:=by
    have h1:(gs.map dz)[k]?=X (dz r):=by rw[bi,U];rfl
    rw[ab.o,bi,ht]at h1;injection h1 with h1
    exact h1.symm
   have l:r.2.2.2=t.fR.map Rc.tu:=by unfold dz TxR.tu at a;simp only[mQ]at a;exact a.2.2
   have z:r.1=t.num:=by unfold dz TxR.tu at a;simp only[mQ]at a;exact a.1
   have B:ah (∀m,iL s.heap.size s (wr.drewN m)):=λm=>dL BK.o m
   obtain⟨tb,tf,e8,ai,c0,-,c2⟩:=(RT.o.below BK.o).at U;subst e8;obtain⟨ra,rc,e7,-,n⟩:=RT.o.2.2.1 _ (aO U);rw[e7,l,bm]at c2;rw[z]at c0;rw[l,bm]at n;obtain⟨-,-,-,-,-,-,y6⟩:=(G2.o.below BK.o).cells;have HT:=af ht;by_cases c:(t.num==d.base)=iV
   ·have HF:ah (R=t.base):=by show _=_;rw[g.o,Vc HK.o HT.o (by simpa using c)]
    have ae:=af n;have C2:=af c2;have aA:tb<wr.heap.size:=ai;clear a l z e7 U ht n g;go_wp2;go_quiet (fail);generalize b:wr.drewN _=wz;have BZ:ah (iL s.heap.size s wz):=by rw[<-b];exact B.o _
    have d2:wz.cell? ⟨tb,tf+k*3+2,O⟩=X (Y ra t.fR.length rc):=by rw[<-b];exact C2.o
    have FB:=af (B2.o.trans (BZ.o.mono B2.o.size));cases f:t.fR with
    |nil=>
     have v:ah (R=iF):=by show _=_;rw[HF.o];unfold TxR.base;rw[f]
     rw[f]at d2;clear b B c0 c2 y6 C2 HF;go_wp2;go_ret;exact⟨by rw[v.o];rfl,FB.o⟩
    |cons q qs=>
     have v:ah (R=(q.kind==1)):=by show _=_;rw[HF.o];unfold TxR.base;rw[f]
     obtain⟨rb,ro,e9,ax,F⟩:=(ae.o.below BZ.o).2.2.2 (by rw[f];simp)
     subst e9;have d3:=(F 0 q.tu (by rw[f];rfl)).1
     rw[f]at d2;have T:((q::qs).length:Int)>0:=by simp
     obtain⟨nq,Q⟩:=aq ((q::qs).length);rw[Q]at d2 T;have aw:(0:Int)<nq:=T;have d4:wz.cell? ⟨rb,ro,O⟩=X (I J q.kind):=by rw[mW,pP]at d3;exact d3
     clear b B c0 c2 y6 C2 HF F Q;go_wp2;go_ret;exact⟨by rw[v.o];rfl,FB.o⟩
   ·have P:t.num≠d.base:=by simpa using c
    have c:(t.num==d.base)=iF:=by simpa using c
    have ac:=af P;clear a l z e7 U ht n c2 P;go_wp2;go_quiet (fail);generalize b:wr.drewN _=wz;have BZ:ah (iL s.heap.size s wz):=by rw[<-b];exact B.o _
    clear b B c0 y6;go_wp2;go_roundw
    case rel=>
     refine⟨k+1,by go_num,by omega,BZ,af (λj u hj V=>?_)⟩
     by_cases ag:j=k
     ·subst ag;rw[HT.o]at V;cases V;exact ac.o
     ·exact HK.o j u (by omega) V
    case measure=>simp[intOf];omega
  ·have v:ah (R=iF):=by
    show _=_;rw[g.o,SP (λj u hj V=>HK.o j u (by have:=HN.o;omega) V)]
   have FB:=af (B2.o.trans (BK.o.mono B2.o.size));clear g;go_wp2;go_ret;exact⟨by rw[v.o];rfl,FB.o⟩
theorem Ew (w:iW) {o:Oper} {Q:Exit->Act->iW->Prop} (k:o.guard=O) (s x:Operand)
 (t:o.op=.call {callee:=.builtin .append,args:= #[s,x],argTypes:= #[118,118]})
 (base z:Nat) (i:TypeInfo) (hi:Tryz.prog.info? 254=X i) (D:i.zero=X (iA #[I J 0,I J 0,I J 0,iT ⟨#[]⟩])) (j:i.size=4) (r:i.bytes=40)
 (v:iX) (n:Nat) (xs:List iX) (hs:a.eval s=v) (b:w.ownsRow base 254 4 v n xs)
 (L:List aM) (u:iX) (y:a.eval x=u) (l:w.ownsRow z 254 4 u L.length (cV L)) (p:n+L.length<=maxLen) (d:(n+L.length)*40<=140737488355328) (f:base<=w.heap.size)
 (h:∀m w',w'.ownsRow base 254 4 m (n+L.length) (xs++cV L)->w.grownBy w' v.ownBlock->wpList Tryz.prog ops Q rest (a.put o.dst m) w'):wpList Tryz.prog ops Q (o::rest) a w:=by
 have E:= @World.ownsRow.cells;rcases l.2 with⟨rfl,e⟩|⟨g,c,A,rfl,-⟩
 ·have C:L.length=0:=by exact e
  have q:L=[]:=gK C;subst q;exact Hi k s x 118 t base 254 i 4 Tryz.underlying118 hi v n xs hs b y (h v w (by simpa[cV]using b) (wM _ _))
 ·exact cZ w k s x 118 t base 254 i _ 4 40 Tryz.underlying118 hi D j r rfl (by decide) v n xs hs b ⟨g,0,O⟩ L.length c (cV L) y (OT L) (tP l rfl) (Nj L) p d f (λm w' h1 B _=>h m w' h1 B)
theorem aas{W:iW}(b:Int)(a:B<=W.heap.size):(W.alloc (iC #[I J 2,I J b,I J 0,iT ⟨#[]⟩] 254)).ownsRow B 254 4 (Y (X ⟨W.heap.size,0,O⟩) 1 1) 1 (cV [(2,b,0,aQ)]):=
 ⟨rfl,.inr ⟨W.heap.size,1,_,rfl,a,aC W _,am _,by unfold maxLen;omega,rfl,rfl⟩⟩
theorem Ll(x:iX)(d:Dv)(w:iW)(h:eP w x d)(F:bo d.fH=iV)(hv:d.fS.fV.length<=1048576)(L:IntKind.i64.wrap (d.tx-1)=d.tx-1):iK Tryz.prog 144 #[x] w (ji w (jc d)):=by
 have hx:=h;obtain⟨V,U,va,vl,vc,ad,Z,cap,rfl,h1,h2,h3⟩:=h.form;have T:=aR w (iC #[Y V d.fH.length U,Y va vl vc,Y ad Z cap,I J d.fS.next,I J d.seq,I J d.tx,I J d.base] 34);have W:aU (w.alloc (iC #[Y V d.fH.length U,Y va vl vc,Y ad Z cap,I J d.fS.next,I J d.seq,I J d.tx,I J d.base] 34)) w.heap.size (Y V d.fH.length U) (Y va vl vc) (Y ad Z cap) d.fS.next d.seq d.tx d.base:=aC _ _;generalize ac:w.alloc (iC #[Y V d.fH.length U,Y va vl vc,Y ad Z cap,I J d.fS.next,I J d.seq,I J d.tx,I J d.base] 34)=wa at T W;have HX:=af (hx.below T);have HV:=af hv;have ab:=af L;have B:=af F;have HB:=af T;have HG:=af W;have P:=af (aah _ d wa HX.o);unfold ny at P;have c:ah (jc d=match pB d with
  |b::_=>([(2,b,0,aQ)],iV)
  | []=>if rM d then(if nW d<0 then([],iF)else kX d (nW d))else dZ d (hJ d.fS) aQ):=rfl
 obtain⟨D,hD⟩:=aq (pB d);have aa:ah (D.length<=1048576):=by
  show _<=_;rw[<-hD];unfold pB;refine bT (yJ _ _) ?_;rw[List.length_range];exact h2.1
 rw[hD]at P c;obtain⟨R,hR⟩:=aq (jc d);rw[hR]at c⊢;obtain⟨q,r,s,u,v,y,A⟩:=W.cells;clear hx h h1 h2 h3 T W F hv L hD hR;go_enter Tryz.func144,Tryz.ntmps144;go_wp2_with fail;clear ac;refine P.o.mono ?_;rintro e w1 ⟨lv,rfl,ho,C⟩;obtain⟨ia,ic,rfl,j,-,-⟩:=kt.of ho (by have:=aa.o;unfold maxLen;omega) C
 have l:=af (HB.o.trans (C.mono HB.o.size));have G1:=af (HG.o.below C);have X1:=af (HX.o.below C);clear P ho C HB HG HX q r s u v y A;cases D with
 |cons b D=>
  have g:ah (R=([(2,b,0,aQ)],iV)):=c;obtain⟨lb,lo,e,-,c0⟩:=j.at (k:=0) (t:=b) rfl;subst e;have c1:w1.cell? ⟨lb,lo,O⟩=X (I J b):=c0;have f:ah (ji w ([(2,b,0,aQ)],iV) (G (iU #[Y (X ⟨w1.heap.size,0,O⟩) 1 1,iB iV])) (w1.alloc (iC #[I J 2,I J b,I J 0,iT ⟨#[]⟩] 254))):=⟨_,rfl,aas b l.o.size,l.o.alloc l.o.size _⟩;have E:((b::D).length:Int)>0:=by simp
  obtain⟨n,hn⟩:=aq ((b::D).length);rw[hn]at E;try rw[hn]
  have ae:(0:Int)<n:=E;clear hn j c c0;go_wp2;refine aE (cH rfl _ _ _) rfl ?_;rw[g.o];exact f.o
 |nil=>
  obtain⟨q,r,s,u,v,y,A⟩:=G1.o.cells;have CB:=af (Rt _ d w1 X1.o B.o ab.o);obtain⟨z,hz⟩:=aq (rM d);rw[hz]at CB;have a:ah (R=if z then(if nW d<0 then([],iF)else kX d (nW d))else dZ d (hJ d.fS) aQ):=by show _=_;rw[c.o,<-hz]
  clear c hz j;go_wp2_with fail;refine CB.o.mono ?_;rintro e w2 ⟨rfl,S⟩;have m:=af (l.o.trans (S.mono l.o.size));have G2:=af (G1.o.below S);have Q:=af (X1.o.below S);clear CB S l G1 X1 q r s u v y A;obtain⟨q,r,s,u,v,y,A⟩:=G2.o.cells;cases z with
  |false=>
   have g:ah (R=dZ d (hJ d.fS) aQ):=a;clear a;go_wp2_with fail;refine(Pt _ d w2 Q.o HV.o).mono ?_;rintro e p ⟨uv,rfl,o3,i⟩;have f:ah (ji w (dZ d (hJ d.fS) aQ) (G (iU #[uv,iB (dZ d (hJ d.fS) aQ).2])) p):=⟨_,rfl,qQ o3 m.o.size,m.o.trans (i.mono m.o.size)⟩;clear o3 i;go_wp2;refine aE (cH rfl _ _ _) rfl ?_;rw[g.o];exact f.o
  |true=>
   have CV:=af (L8 _ d w2 Q.o);obtain⟨M,H⟩:=aq (nW d);rw[H]at CV a;clear H;go_wp2_with fail;refine CV.o.mono ?_;rintro e p ⟨rfl,i⟩;have N:=af (m.o.trans (i.mono m.o.size));have G3:=af (G2.o.below i);have X3:=af (Q.o.below i);clear CV i m G2 Q q r s u v y A;obtain⟨q,r,s,u,v,y,A⟩:=G3.o.cells;by_cases K:M<0
   ·have g:ah (R=([],iF)):=by show _=_;rw[a.o,ak trivial,ak K]
    have FR:=nN N.o p.heap.size rfl;have f:ah (ji w ([],iF) (G (iU #[Y (X ⟨p.heap.size,0,O⟩) 0 0,iB iF])) (p.alloc (iC #[] 254))):=⟨_,rfl,FR.1,FR.2⟩;clear a FR;go_wp2;refine aE (cH rfl _ _ _) rfl ?_;rw[g.o];exact f.o
   ·have g:ah (R=kX d M):=by show _=_;rw[a.o,ak trivial,aj K]
    clear a;go_wp2_with fail;refine(Ub _ d M p X3.o (by have:=(tJ B.o).1;omega)).mono ?_
    rintro e w4 ⟨uv,rfl,o4,b4⟩;have f:ah (ji w (kX d M) (G (iU #[uv,iB (kX d M).2])) w4):=⟨_,rfl,qQ o4 N.o.size,N.o.trans (b4.mono N.o.size)⟩;clear o4 b4;go_wp2;refine aE (cH rfl _ _ _) rfl ?_;rw[g.o];exact f.o
def gx(w wr:iW)(c:Nat)(v:iX)(bs:List Bk):Prop:=∃lo hi,(hi<=c∨c+1<=lo)/\w.heap.size+1+1<=lo/\w.heap.size+1+1<=c/\
 Tk w wr [(c,c+1,bS c #[v] 26),(lo,hi,cF lo hi v bs),(w.heap.size+1,w.heap.size+1+1,bS (w.heap.size+1) #[Y O 0 0] 26)]
theorem gx.below{w wr a:iW}{c:Nat}{v:iX}(h:gx w wr c v bs)(e:iL wr.heap.size wr a):gx w a c v bs:=by
 obtain⟨lo,hi,h1,b,d,T⟩:=h;exact⟨lo,hi,h1,b,d,T.below e⟩
theorem gx.cell{w wr:iW}{c:Nat}{v:iX}{bs:List Bk}(h:gx w wr c v bs):wr.cell? ⟨c,0,O⟩=X v/\wr.frozen? ⟨c,0,O⟩=iF/\wr.cell? ⟨w.heap.size+1,0,O⟩=X (Y O 0 0)/\wr.frozen? ⟨w.heap.size+1,0,O⟩=iF:=by
 obtain⟨lo,hi,h1,a,b,T⟩:=h;exact⟨T.at 0 0 rfl rfl,T.fr 0 0 rfl,T.at 2 0 rfl rfl,T.fr 2 0 rfl⟩
theorem gx.rdb{w wr:iW}{c:Nat}{v:iX}(h:gx w wr c v bs):fq wr v bs:=by
 obtain⟨lo,hi,h1,a,b,T⟩:=h;exact(T.get 1 rfl).rdb
theorem gx.bel{w wr:iW}{c:Nat}{v:iX}(h:gx w wr c v bs):iL w.heap.size w wr:=by
 obtain⟨lo,hi,h1,a,b,T⟩:=h;exact T.1
theorem gx.form{w wr:iW}{c:Nat}{v:iX}(h:gx w wr c v bs):∃ad cap,v=Y ad bs.length cap:=h.rdb.form
variable{bs':List Bk}
theorem gx.next{w wr a j:iW}{c:Nat}{v u:iX}(h:gx w wr c v bs)(l:iL wr.heap.size wr a)(f:dj a wr.heap.size u bs')(b:iL a.heap.size a j):gx w (j.setCell ⟨c,0,O⟩ u) c u bs':=by
 obtain⟨lo,hi,h1,m,d,T⟩:=h;have e:=T.hi 0 rfl;have k:=(T.fla l f).below b;refine⟨wr.heap.size,a.heap.size,Or.inr e,by omega,d,k.write (hs':=[(wr.heap.size,a.heap.size,cF wr.heap.size a.heap.size u bs'),(w.heap.size+1,w.heap.size+1+1,bS (w.heap.size+1) #[Y O 0 0] 26)]) 1 rfl (by omega) u (λx g=>?_)⟩
 simp only[aX,eI,fp]at g;rcases g with rfl|rfl
 ·exact⟨lD ..,Or.inr e⟩
 ·exact⟨aO (i:=3) rfl,Or.inl d⟩
theorem gx.next2{w wr a:iW}{c:Nat}{v u z:iX}(h:gx w wr c v bs)(m:iL (wr.alloc (iC #[z] 26)).drew.heap.size (wr.alloc (iC #[z] 26)).drew a)(f:dj a (wr.alloc (iC #[z] 26)).drew.heap.size u bs'):
 (a.cell? ⟨wr.heap.size,0,O⟩=X z/\a.frozen? ⟨wr.heap.size,0,O⟩=iF)/\(a.setCell ⟨wr.heap.size,0,O⟩ u).cell? ⟨wr.heap.size,0,O⟩=X u/\gx w (a.setCell ⟨wr.heap.size,0,O⟩ u) c v bs/\gx w ((a.setCell ⟨wr.heap.size,0,O⟩ u).setCell ⟨c,0,O⟩ u) c u bs':=by
 obtain⟨lo,hi,h1,l,g,T⟩:=h;have n:=T.hi 0 rfl;have j:=T.hi 1 rfl;have o:(wr.alloc (iC #[z] 26)).drew.heap.size=wr.heap.size+1:=kg rfl _;rw[o]at f;have d:=(((T.celln rfl #[z] 26).drew).below m).put (lo:=wr.heap.size+1) (hi:=a.heap.size) (P:=cF (wr.heap.size+1) a.heap.size u bs') (am _) (cF.loc _ _ _ _) f;have e:=d.write (hs':=[(wr.heap.size+1,a.heap.size,cF (wr.heap.size+1) a.heap.size u bs'),(c,c+1,bS c #[v] 26),(lo,hi,cF lo hi v bs),(w.heap.size+1,w.heap.size+1+1,bS (w.heap.size+1) #[Y O 0 0] 26)]) 1 rfl (by omega) u (λx b=>by
  simp only[aX,eI,fp]at b;rcases b with rfl|rfl|rfl|rfl
  ·exact⟨aO (i:=0) rfl,Or.inr (am _)⟩
  ·exact⟨aO (i:=2) rfl,Or.inl n⟩
  ·exact⟨aO (i:=3) rfl,Or.inl j⟩
  ·exact⟨aO (i:=4) rfl,Or.inl (show w.heap.size+1+1<=wr.heap.size by omega)⟩)
 have k:=e.write (hs':=[(wr.heap.size+1,a.heap.size,cF (wr.heap.size+1) a.heap.size u bs'),(w.heap.size+1,w.heap.size+1+1,bS (w.heap.size+1) #[Y O 0 0] 26)]) 2 rfl (by omega) u (λx b=>by
  simp only[aX,eI,fp]at b;rcases b with rfl|rfl
  ·exact⟨aO (i:=1) rfl,Or.inr (show c+1<=wr.heap.size+1 by omega)⟩
  ·exact⟨aO (i:=4) rfl,Or.inl g⟩)
 refine⟨⟨d.at 1 0 rfl rfl,d.fr 1 0 rfl⟩,e.at 0 0 rfl rfl,⟨lo,hi,h1,l,g,e.drop (λx b=>?_)⟩,⟨_,_,Or.inr (show c+1<=wr.heap.size+1 by omega),by omega,g,k⟩⟩
 simp only[aX,eI,fp]at b⊢;rcases b with h|h|h<;>simp[h]
theorem gx.fin{w wr:iW}{c:Nat}{v:iX}(h:gx w wr c v bs):(wr.setCell ⟨w.heap.size+1,0,O⟩ v).heap[w.heap.size+1]?=X (iC #[v] 26 (0,0))/\dj (wr.setCell ⟨w.heap.size+1,0,O⟩ v) w.heap.size v bs/\iL w.heap.size w (wr.setCell ⟨w.heap.size+1,0,O⟩ v):=by
 obtain⟨lo,hi,h1,d,e,T⟩:=h;have a:=T.write (hs':=[(lo,hi,cF lo hi v bs)]) 2 rfl (by omega) v (λx b=>by rw[bR]at b;subst b;exact⟨aO (i:=1) rfl,Or.inr d⟩)
 exact⟨a.get 0 rfl,(a.get 1 rfl).of (a.hi 1 rfl) (by omega),a.1⟩
theorem gx.start{w b:iW}{c:Nat}{a v:iX}(e:iL ((w.alloc (iC #[a] 26)).alloc (iC #[Y O 0 0] 26)).heap.size ((w.alloc (iC #[a] 26)).alloc (iC #[Y O 0 0] 26)) b)(f:dj b ((w.alloc (iC #[a] 26)).alloc (iC #[Y O 0 0] 26)).heap.size v bs)(k:b.heap.size=c):gx w (b.alloc (iC #[v] 26)) c v bs:=by
 subst k;have j:=Tk.two w #[a] #[Y O 0 0] 26 26;have i:((w.alloc (iC #[a] 26)).alloc (iC #[Y O 0 0] 26)).heap.size=w.heap.size+1+1:=kg (kg rfl _) _;have d:=(j.fla e f).cell #[v] 26;rw[i]at d;have hs:=e.size;rw[i]at hs;refine⟨w.heap.size+1+1,b.heap.size,Or.inl (am _),am _,hs,d.drop (λx g=>?_)⟩
 simp only[aX,eI,fp]at g⊢;rcases g with h|h|h<;>simp[h]
end Go.Proofs.YtgigcooffjjbgaaGreatDoor
