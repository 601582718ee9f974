/-
  SMoOf; IShD; IRecOk; IAsk; IRtK
-/
import Derived.Test.YtijmbohadndfmaaGreatDoorPk26
import Derived.Deep.DeepAppendRoom
import Derived.Laws.EntriesVeiled
open Go.Value renaming int→I,slice→Y,string→iT,bool→iB,pointer→iP,agg→iA,tuple→iU
open Go.IntKind renaming i64→J
open Option renaming none→O,some→X
open Go.Ending renaming returned→G
open Go.Obj renaming cells→iC
open Bool renaming true→iV,false→iF
open Go renaming World→iW,Value→iX,Calls→iK
open Go.RowKit renaming Below→iL
set_option maxHeartbeats 4000000
set_option maxRecDepth 100000
namespace Go.Proofs.YtijmbohadndfmaaGreatDoor
open Go.RowKit Words
theorem Gr:∀(l:List Hw) (j:Nat) (u:iX),(bi l)[j]?=X u->∃i d r,j=i*2+d/\l[i]?=X r/\(lS r)[d]?=X u
 | [],j,u,h=>by simp[bi]at h
 |a::l,j,u,h=>by
  rw[xA]at h;by_cases e:j<2
  ·rw[lz (by show j<2;exact e)]at h
   exact⟨0,j,a,by omega,rfl,h⟩
  ·rw[dz (by show 2<=j;omega)]at h
   obtain⟨i,d,r,h1,b,c⟩:=Gr l (j-2) u h;exact⟨i+1,d,r,by omega,by simpa using b,c⟩
theorem Ty(b a j:Nat):(⟨b,a,O⟩:Addr).add j=⟨b,a+j,O⟩:=by
 simp only[Addr.add];split<;>simp_all
variable{fn:Func}{n B c g i:Nat}
variable{rs:List Hw}
theorem dN.partAt{W:iW}{b a:Nat}(h:dN W (X ⟨b,a,O⟩) n rs)(p:Nat)(i:Nat)(u:iX)(j:(bi (rs.drop p))[i]?=X u):W.cell? ((⟨b,a+p*2,O⟩:Addr).add i)=X u:=by
 obtain⟨k,d,r,e,f,c⟩:=Gr _ _ _ j;rw[mQ]at f;obtain⟨g,c1⟩:=h.cell f;rw[Ty,e]
 match d,c with
 |0,c=>
  simp[lS]at c;subst c;rw[show a+p*2+(k*2+0)=a+(p+k)*2 by omega]
  exact g
 |1,c=>
  simp[lS]at c;subst c;rw[show a+p*2+(k*2+1)=a+(p+k)*2+1 by omega]
  exact c1
theorem dN.takeAt{W:iW}{b a:Nat}(h:dN W (X ⟨b,a,O⟩) n rs)(p:Nat)(i:Nat)(u:iX)(c:(bi (rs.take p))[i]?=X u):W.cell? ((⟨b,a,O⟩:Addr).add i)=X u:=by
 have:=h.partAt 0 i u (by
  rw[xE,<-jP p rs,tB,lz (aD.1 c).1];exact c)
 rw[lq,oh]at this;exact this
theorem dN.dropAt{W:iW}{b a:Nat}(h:dN W (X ⟨b,a,O⟩) n rs)(p c:Nat)(j:p<=n)(g:n<=c):
 ∃ad,(if c=p then(X ⟨b,a,O⟩:Option Addr)else X ⟨b,a+p*2,O⟩)=X ad/\∀W',iL W.heap.size W W'->∀i u,(bi (rs.drop p))[i]?=X u->W'.cell? (ad.add i)=X u:=by
 by_cases e:c=p
 ·refine⟨⟨b,a,O⟩,aj e,λW' f i u d=>?_⟩
  rw[kB (by have:=h.1;omega)]at d
  simp[bi]at d
 ·exact⟨⟨b,a+p*2,O⟩,ai e,λW' f i u d=>(h.below f).partAt p i u d⟩
theorem dN.oneCells{W:iW}{a:Option Addr}{l:List Hw}(h:dN W a n rs)(c:∀r∈l,r∈rs):∀u∈bi l,u.oneCell'=iV:=by
 intro u b;obtain⟨r,d,b⟩:=lE.1 b;simp only[lS,bf,dV,ez]at b;rcases b with rfl|rfl
 ·rfl
 ·exact(h.2.2.1 r (c r d)).one
variable{ss:List Hw}
theorem WB{W:iW}{a:Option Addr}(h:W.ownsRow B 32 2 (Y a n c) n (bi ss))(k:ss.length=n)(f:n<=maxLen)(hs:∀r∈ss,jq W r.2.1 r.2.2):dN W a n ss:=by
 refine⟨k,f,hs,λh0=>?_⟩
 rcases aB.of h with⟨e,q⟩|⟨g,cap,e,o,l,m⟩
 ·omega
 ·injection e with e1 e2 e3
  refine⟨g,0,e1,l,λi r hi=>?_⟩
  have b:=λj v d=>m.cell (yA ss i r hi j v d)
  refine⟨?_,?_⟩
  ·simpa using b 0 _ rfl
  ·simpa using b 1 _ rfl
def jI:Array iX:=(List.replicate 16 (iT ⟨#[]⟩)).toArray
theorem Oi:(Tryz.prog.info? 9).map (λi=>(i.zero,i.size,i.bytes))=X (X (iT ⟨#[]⟩),1,16):=by kernel_rfl
theorem Zb:madeCells #[iT ⟨#[]⟩] (16*1)=jI:=by
 apply qO.1;simp[madeCells];rfl
theorem DS(w:iW):(Instr.makeSlice 30 (I J 16) (I J 16)).run Tryz.prog w=.ok (Y (X ⟨w.heap.size,0,O⟩) 16 16) (w.alloc (iC jI 9)):=by
 obtain⟨f,a,b,c,d⟩:=bK Oi;have e:=run_make (P:=Tryz.prog) w 30 9 f (iT ⟨#[]⟩) Tryz.underlying30 a b J J 16 16 (by omega) (kN _) (by rw[d];omega) (by omega)
 rw[c]at e;rw[<-Zb];exact e
theorem Uh(w:iW):jq (w.alloc (iC jI 9)) (Y (X ⟨w.heap.size,0,O⟩) 16 16) (List.replicate 16 aK):=by
 have b:=az w (iC jI 9);refine⟨_,_,rfl,(λe=>by cases e),rfl,by unfold maxLen;decide,λ_=>⟨w.heap.size,0,rfl,by simp,λi t hi=>?_⟩⟩
 obtain⟨h1,a⟩:=aD.1 hi;rw[vk]at h1;rw[List.getElem_replicate]at a;subst a;have:=am _ _ i _ _ _ b;unfold jI at this;rw[mH,DK,aj h1]at this;rw[dK];exact this
theorem QC(a:Option Addr)(n c:Nat)(rs:List Hw)(k v s o:Int)(t:ByteArray)(w:iW)(hl:n<=1048576)(be:n<=c)(bl:c<=9223372036854775807)(aI:∀r∈rs,r.2.2.length<=1048576)(h:dN w a n rs):
 iK Tryz.prog 7 #[Y a n c,iA #[I J k,I J v,I J s,I J o,iT t]] w (sH w (fG (rs.map aW) ⟨k,v,s,o,t⟩)):=by
 have bA:=aO w (iC #[I J k,I J v,I J s,I J o,iT t] 26);have gA:bH (w.alloc (iC #[I J k,I J v,I J s,I J o,iT t] 26)) w.heap.size ⟨k,v,s,o,t⟩:=az w _;generalize bg:w.alloc (iC #[I J k,I J v,I J s,I J o,iT t] 26)=wa at bA gA;have H:=af (h.below bA);have am:=af aI;have HN:=af h.1;have CC:=af (AG _ a n c rs wa (by omega) aI H.o rfl)
 obtain⟨M,hM⟩:=an (rs.map aW);have HM:=af hM;have ao:ah (M.length=n):=by show _=_;rw[<-hM,aS];exact h.1
 have CA:=af (λ(x:Int) (W:iW) (b:iL wa.heap.size wa W)=>UE a n c rs x W (H.o.below b))
 simp only[hM]at CA;rw[hM];obtain⟨K,B⟩:=an (bM M v);have aN:=af B;have aq:ah (K= -1∨(0<=K/\K.toNat<M.length)):=by show _∨_;rw[<-B];exact rX M v
 obtain⟨R,hR⟩:=an (fG M ⟨k,v,s,o,t⟩);have HR:=af hR;rw[hR];obtain⟨z,hz⟩:=an (iO ⟨k,v,s,o,t⟩);have HZ:=af hz;have CK:=af (λW=>J9 ⟨k,v,s,o,t⟩ W)
 unfold dU at CK;simp only[hz]at CK;have HB:=af bA;have HG:=af gA;clear hM B hR hz h aI bA gA;go_enter Tryz.func7,Tryz.ntmps7;go_wp2_with fail;clear bg;refine CC.o.mono ?_;rintro e w1 ⟨cv,cs,rfl,o1,t1,b1⟩;obtain⟨ca,cc,a0⟩:=o1.form;have aD:cs.length=n:=by have:=congrArg List.length t1;rw[aS,aS,HN.o]at this;exact this
 rw[aD]at a0;subst a0;have G1:=af (HG.o.below b1);have CV:=af (CA.o v w1 b1);rw[aN.o]at CV;obtain⟨-,Z,-,-,-⟩:=G1.o.cells;simp only at Z;have D1:=af b1;have O1:=af o1;have V:ah (cs.map aW=M):=t1.trans HM.o;have al:=af aD;clear CC o1 t1 b1 aD HG;go_wp2_with fail;refine CV.o.mono ?_;rintro e bo ⟨rfl,hw⟩;have aJ:=hw.symm;clear hw;subst aJ;obtain⟨y0,Z,y2,y3,y4⟩:=G1.o.cells;simp only at y0 Z y2 y3 y4;clear CV;go_wp2_with fail;refine(CK.o w1).mono ?_;rintro e l ⟨rfl,b2⟩;have G2:=af (G1.o.below b2);have D2:=af (D1.o.trans (b2.mono D1.o.size));have P:ah (ci l w.heap.size (Y ca n cc) cs):=(O1.o.below b2).down HB.o.size;have Q:=af (HB.o.trans (D2.o.mono HB.o.size));have H2:=af (H.o.below D2.o);clear y0 Z y2 y3 y4 b2 G1 D1 O1 CK;obtain⟨y0,Z,y2,y3,y4⟩:=G2.o.cells;simp only at y0 Z y2 y3 y4;cases z with
 |false=>
  have y:ah (R=M):=by show _=_;rw[<-HR.o];unfold fG;rw[aj HZ.o]
  clear y0 Z y2 y3 y4;go_wp2;go_ret;exact⟨_,cs,rfl,P.o,by rw[y.o];exact V.o,Q.o⟩
 |true=>
  obtain⟨k1,k2,k3⟩:=J2 HZ.o;simp only at k1 k2 k3;have d:ah (R=if k=3 then(if K<0 then eS M ⟨v,List.replicate 16 aK⟩else M)else if k=4 then(if K<0/\0<=bM M o then eS M ⟨v,iR M (bM M o)⟩else M)else if k=5 then(if 0<=K then M.take K.toNat++M.drop (K.toNat+1)else M)else if k=6 then M else(if 0<=K/\s<(iR M K).length then jO M K.toNat s.toNat t else M)):=by
   show _=_;rw[<-HR.o];unfold fG;rw[ai (by rw[HZ.o];decide)]
   simp only[aN.o]
  have bd:k=1∨k=2∨k=3∨k=4∨k=5∨k=6:=by omega
  clear HR HZ;rcases bd with hk|hk|hk|hk|hk|hk
  all_goals subst hk
  ·obtain⟨s0,bj⟩:=k3 (by omega)
   clear k1 k2 k3;simp only[show¬((1:Int)=3)by decide,show¬((1:Int)=4)by decide,show¬((1:Int)=5)by decide,show¬((1:Int)=6)by decide,eT]at d
   by_cases F:K<0
   ·have y:ah (R=M):=by show _=_;rw[d.o,ai (by omega)]
    have hd:decide (K≥0)=iF:=aV (by omega)
    have aE:decide (0<=K)=iF:=aV (by omega)
    clear d;go_wp2;go_quiet (fail);go_wp2;go_ret;exact⟨_,cs,rfl,P.o.below (bI (ax _ _) _),by rw[y.o];exact V.o,bI Q.o _⟩
   ·obtain⟨j,rfl⟩:∃j:Nat,K=j:=⟨K.toNat,by omega⟩
    have a2:j<M.length:=by rcases aq.o with e|e<;>omega
    have aG:j<n:=by have:=ao.o;omega
    obtain⟨r,A⟩:∃r,cs[j]?=X r:=⟨_,ay (by have:=al.o;omega)⟩
    obtain⟨C,ae⟩:=P.o.2.1 r (aH A);obtain⟨ob,oo,e,-,c0,c1⟩:=(P.o.fK.rd al.o (ak _)).at A;subst e;have L:M[j]?=X ⟨r.1,r.2.2⟩:=by rw[<-V.o,bk,A];rfl
    have T:ah (iR M (j:Int)=r.2.2):=by show _=_;unfold iR;rw[aZ,L]
    rw[T.o,aZ]at d;obtain⟨ga,gc,D,U⟩:=C.form;rw[D]at c1;obtain⟨i,rfl⟩:∃i:Nat,s=i:=⟨s.toNat,by omega⟩
    obtain⟨m,hm⟩:=an r.2.2.length;have bc:(0:Int)<=j:=by omega
    have a3:(j:Int)<n:=by omega
    have ap:(0:Int)<=i:=by omega
    have hd:decide ((j:Int)≥0)=iV:=aQ (by omega)
    have aE:decide ((0:Int)<=j)=iV:=aQ (by omega)
    by_cases bb:i<m
    ·have aF:decide ((i:Int)<(m:Int))=iV:=aQ (by omega)
     have a1:(i:Int)<m:=by omega
     have y:ah (R=M.set j ⟨r.1,r.2.2.set i t⟩):=by
      show _=_;rw[d.o,aj ⟨by omega,by omega⟩]
      unfold jO;rw[L,aZ]
     obtain⟨g,rfl,g1,g2⟩:=U (by omega)
     obtain⟨-,-,gs,g3⟩:=C.lt g (by rw[D];rfl)
     rw[D]at C;obtain⟨q,hq⟩:∃q,r.2.2[i]?=X q:=⟨_,ay (by omega)⟩
     have aa:ah (l.cell? ⟨g,i,O⟩=X (iT q)):=by
      show _=_;have:=C.flt.cell (xB hq)
      simpa using this
     have ab:ah (l.frozen? ⟨g,i,O⟩=iF):=aL _ _ i _ _ g3;have ac:g≠ob:=by
      rcases aB.of P.o.1 with⟨N,-⟩|⟨g',aP,N,-,-,ba,aA,-⟩
      ·cases N
      ·injection N with N
       injection N with N
       injection N with N
       intro e;rw[e,N,aA]at g3;injection g3 with g3
       injection g3 with _ g3
       exact absurd g3 (by decide)
     have S:g≠w.heap.size:=by
      intro e;rw[e,G2.o]at g3;injection g3 with g3
      injection g3 with _ g3
      exact absurd g3 (by decide)
     have ar:=af A;have aw:=af D;rw[hm]at c1;have C1:=af c1;clear d A D C ae U L T hq g3 c0 c1;have c1:=C1.o;go_wp2;go_quiet (fail);generalize f:l.drewN _=E;have z1:E.drew.cell? ⟨ob,oo+j*2+1,O⟩=X (Y (X ⟨g,0,O⟩) m gc):=by rw[<-f];exact C1.o
     have z2:E.drew.cell? ⟨w.heap.size,2,O⟩=X (I J i):=by rw[<-f];exact y2
     have z4:E.drew.cell? ⟨w.heap.size,4,O⟩=X (iT t):=by rw[<-f];exact y4
     have zg:E.drew.cell? ⟨g,i,O⟩=X (iT q):=by rw[<-f];exact aa.o
     have zf:E.drew.frozen? ⟨g,i,O⟩=iF:=by rw[<-f];exact ab.o
     have OZ:ah (ci E w.heap.size (Y (X ⟨ob,oo,O⟩) n cc) cs):=by rw[<-f];exact P.o.below (bI (ax _ _) _)
     have BZ:ah (iL w.heap.size w E):=by rw[<-f];exact bI Q.o _
     have KS:ah ((E.setCell ⟨g,i,O⟩ (iT t)).cell? ⟨ob,oo+j*2+1,O⟩=X (Y (X ⟨g,0,O⟩) m gc)/\(E.setCell ⟨g,i,O⟩ (iT t)).cell? ⟨w.heap.size,2,O⟩=X (I J i)/\(E.setCell ⟨g,i,O⟩ (iT t)).cell? ⟨w.heap.size,4,O⟩=X (iT t)):=by
      rw[gP (h:=λe=>ac (by have:=congrArg Addr.block e;simp at this;omega)),gP (h:=λe=>S (by have:=congrArg Addr.block e;simp at this;omega)),gP (h:=λe=>S (by have:=congrArg Addr.block e;simp at this;omega))]
      exact⟨z1,z2,z4⟩
     clear f c1 C1 aa ab y0 Z y2 y3 y4;go_upto_region 19 with fail
     refine kJ (λw'=>w'.cell? ⟨ob,oo+j*2+1,O⟩=X (Y (X ⟨g,0,O⟩) m gc)/\w'.cell? ⟨w.heap.size,2,O⟩=X (I J i)/\w'.cell? ⟨w.heap.size,4,O⟩=X (iT t)) (by kernel_rfl) ⟨z1,z2,z4⟩ (λhHeld=>?_)
     simp only[aR,cU,Nat.reduceAdd];refine au 0 ?_;refine au 1 ?_;refine au 2 ?_;refine au 3 ?_;refine au 4 ?_;refine au 5 ?_;refine au 6 ?_;refine au 7 ?_;refine au 8 ?_;refine au 9 ?_;refine ch 10 rfl (by kernel_rfl) (λK B=>?_)
     go_simp;refine B.out _ _ (KS.o) (λhHeld2=>?_)
     clear B K hHeld;have hHeld:=hHeld2;clear hHeld2
     (try simp only[Act.put,bJ,bE,bp])
     refine jx (by kernel_rfl) ?_
     clear hHeld z1 z2 z4 zg zf;have SN:=af ((OZ.o.setT ar.o (by rw[aw.o]) i t).below ((ax _ _).drew))
     have BN:=af (BZ.o.setCell (p:=⟨g,i,O⟩) g1 (iT t)).drew;have av:ah ((cs.set j (r.1,r.2.1,r.2.2.set i t)).map aW=R):=by show _=_;rw[AZ,V.o,y.o]
     generalize(E.setCell ⟨g,i,O⟩ (iT t)).drew=wy at SN BN⊢;go_wp2;go_ret;exact⟨_,_,rfl,SN.o,av.o,BN.o⟩
    ·have aF:decide ((i:Int)<(m:Int))=iF:=aV (by omega)
     have y:ah (R=M):=by show _=_;rw[d.o,ai (by omega)]
     rw[hm]at c1;clear d A D C ae U L T c0;go_wp2;go_quiet (fail);go_wp2;go_ret;exact⟨_,cs,rfl,P.o.below (bI (ax _ _) _),by rw[y.o];exact V.o,bI Q.o _⟩
  ·obtain⟨s0,bj⟩:=k3 (by omega)
   clear k1 k2 k3;simp only[show¬((2:Int)=3)by decide,show¬((2:Int)=4)by decide,show¬((2:Int)=5)by decide,show¬((2:Int)=6)by decide,eT]at d
   by_cases F:K<0
   ·have y:ah (R=M):=by show _=_;rw[d.o,ai (by omega)]
    have hd:decide (K≥0)=iF:=aV (by omega)
    have aE:decide (0<=K)=iF:=aV (by omega)
    clear d;go_wp2;go_quiet (fail);go_wp2;go_ret;exact⟨_,cs,rfl,P.o.below (bI (ax _ _) _),by rw[y.o];exact V.o,bI Q.o _⟩
   ·obtain⟨j,rfl⟩:∃j:Nat,K=j:=⟨K.toNat,by omega⟩
    have a2:j<M.length:=by rcases aq.o with e|e<;>omega
    have aG:j<n:=by have:=ao.o;omega
    obtain⟨r,A⟩:∃r,cs[j]?=X r:=⟨_,ay (by have:=al.o;omega)⟩
    obtain⟨C,ae⟩:=P.o.2.1 r (aH A);obtain⟨ob,oo,e,-,c0,c1⟩:=(P.o.fK.rd al.o (ak _)).at A;subst e;have L:M[j]?=X ⟨r.1,r.2.2⟩:=by rw[<-V.o,bk,A];rfl
    have T:ah (iR M (j:Int)=r.2.2):=by show _=_;unfold iR;rw[aZ,L]
    rw[T.o,aZ]at d;obtain⟨ga,gc,D,U⟩:=C.form;rw[D]at c1;obtain⟨i,rfl⟩:∃i:Nat,s=i:=⟨s.toNat,by omega⟩
    obtain⟨m,hm⟩:=an r.2.2.length;have bc:(0:Int)<=j:=by omega
    have a3:(j:Int)<n:=by omega
    have ap:(0:Int)<=i:=by omega
    have hd:decide ((j:Int)≥0)=iV:=aQ (by omega)
    have aE:decide ((0:Int)<=j)=iV:=aQ (by omega)
    by_cases bb:i<m
    ·have aF:decide ((i:Int)<(m:Int))=iV:=aQ (by omega)
     have a1:(i:Int)<m:=by omega
     have y:ah (R=M.set j ⟨r.1,r.2.2.set i t⟩):=by
      show _=_;rw[d.o,aj ⟨by omega,by omega⟩]
      unfold jO;rw[L,aZ]
     obtain⟨g,rfl,g1,g2⟩:=U (by omega)
     obtain⟨-,-,gs,g3⟩:=C.lt g (by rw[D];rfl)
     rw[D]at C;obtain⟨q,hq⟩:∃q,r.2.2[i]?=X q:=⟨_,ay (by omega)⟩
     have aa:ah (l.cell? ⟨g,i,O⟩=X (iT q)):=by
      show _=_;have:=C.flt.cell (xB hq)
      simpa using this
     have ab:ah (l.frozen? ⟨g,i,O⟩=iF):=aL _ _ i _ _ g3;have ac:g≠ob:=by
      rcases aB.of P.o.1 with⟨N,-⟩|⟨g',aP,N,-,-,ba,aA,-⟩
      ·cases N
      ·injection N with N
       injection N with N
       injection N with N
       intro e;rw[e,N,aA]at g3;injection g3 with g3
       injection g3 with _ g3
       exact absurd g3 (by decide)
     have S:g≠w.heap.size:=by
      intro e;rw[e,G2.o]at g3;injection g3 with g3
      injection g3 with _ g3
      exact absurd g3 (by decide)
     have ar:=af A;have aw:=af D;rw[hm]at c1;have C1:=af c1;clear d A D C ae U L T hq g3 c0 c1;have c1:=C1.o;go_wp2;go_quiet (fail);generalize f:l.drewN _=E;have z1:E.drew.cell? ⟨ob,oo+j*2+1,O⟩=X (Y (X ⟨g,0,O⟩) m gc):=by rw[<-f];exact C1.o
     have z2:E.drew.cell? ⟨w.heap.size,2,O⟩=X (I J i):=by rw[<-f];exact y2
     have z4:E.drew.cell? ⟨w.heap.size,4,O⟩=X (iT t):=by rw[<-f];exact y4
     have zg:E.drew.cell? ⟨g,i,O⟩=X (iT q):=by rw[<-f];exact aa.o
     have zf:E.drew.frozen? ⟨g,i,O⟩=iF:=by rw[<-f];exact ab.o
     have OZ:ah (ci E w.heap.size (Y (X ⟨ob,oo,O⟩) n cc) cs):=by rw[<-f];exact P.o.below (bI (ax _ _) _)
     have BZ:ah (iL w.heap.size w E):=by rw[<-f];exact bI Q.o _
     have KS:ah ((E.setCell ⟨g,i,O⟩ (iT t)).cell? ⟨ob,oo+j*2+1,O⟩=X (Y (X ⟨g,0,O⟩) m gc)/\(E.setCell ⟨g,i,O⟩ (iT t)).cell? ⟨w.heap.size,2,O⟩=X (I J i)/\(E.setCell ⟨g,i,O⟩ (iT t)).cell? ⟨w.heap.size,4,O⟩=X (iT t)):=by
      rw[gP (h:=λe=>ac (by have:=congrArg Addr.block e;simp at this;omega)),gP (h:=λe=>S (by have:=congrArg Addr.block e;simp at this;omega)),gP (h:=λe=>S (by have:=congrArg Addr.block e;simp at this;omega))]
      exact⟨z1,z2,z4⟩
     clear f c1 C1 aa ab y0 Z y2 y3 y4;go_upto_region 19 with fail
     refine kJ (λw'=>w'.cell? ⟨ob,oo+j*2+1,O⟩=X (Y (X ⟨g,0,O⟩) m gc)/\w'.cell? ⟨w.heap.size,2,O⟩=X (I J i)/\w'.cell? ⟨w.heap.size,4,O⟩=X (iT t)) (by kernel_rfl) ⟨z1,z2,z4⟩ (λhHeld=>?_)
     simp only[aR,cU,Nat.reduceAdd];refine au 0 ?_;refine au 1 ?_;refine au 2 ?_;refine au 3 ?_;refine au 4 ?_;refine au 5 ?_;refine au 6 ?_;refine au 7 ?_;refine au 8 ?_;refine au 9 ?_;refine ch 10 rfl (by kernel_rfl) (λK B=>?_)
     go_simp;refine B.out _ _ (KS.o) (λhHeld2=>?_)
     clear B K hHeld;have hHeld:=hHeld2;clear hHeld2
     (try simp only[Act.put,bJ,bE,bp])
     refine jx (by kernel_rfl) ?_
     clear hHeld z1 z2 z4 zg zf;have SN:=af ((OZ.o.setT ar.o (by rw[aw.o]) i t).below ((ax _ _).drew))
     have BN:=af (BZ.o.setCell (p:=⟨g,i,O⟩) g1 (iT t)).drew;have av:ah ((cs.set j (r.1,r.2.1,r.2.2.set i t)).map aW=R):=by show _=_;rw[AZ,V.o,y.o]
     generalize(E.setCell ⟨g,i,O⟩ (iT t)).drew=wy at SN BN⊢;go_wp2;go_ret;exact⟨_,_,rfl,SN.o,av.o,BN.o⟩
    ·have aF:decide ((i:Int)<(m:Int))=iF:=aV (by omega)
     have y:ah (R=M):=by show _=_;rw[d.o,ai (by omega)]
     rw[hm]at c1;clear d A D C ae U L T c0;go_wp2;go_quiet (fail);go_wp2;go_ret;exact⟨_,cs,rfl,P.o.below (bI (ax _ _) _),by rw[y.o];exact V.o,bI Q.o _⟩
  ·clear k1 k2 k3;simp only[cW]at d;by_cases F:K<0
   ·have y:ah (R=eS M ⟨v,List.replicate 16 aK⟩):=by show _=_;rw[d.o,aj F]
    have SD:l.drew.cell? ⟨w.heap.size,1,O⟩=X (I J v):=Z;clear d;go_upto_region 8 with fail
    clear y0 y2 y3 y4;refine kJ (λw'=>w'.cell? ⟨w.heap.size,1,O⟩=X (I J v)) (by kernel_rfl) SD (λhHeld=>?_)
    simp only[aR,cU,Nat.reduceAdd];refine au 0 ?_;refine au 1 ?_;refine au 2 ?_;refine ch 3 rfl (by kernel_rfl) (λK B=>?_)
    go_simp;simp only[DS];have SE:(l.drew.alloc (iC jI 9)).cell? ⟨w.heap.size,1,O⟩=X (I J v):=((aY).cell (bh _ _ SD)).trans SD;refine B.out _ _ (SE) (λhHeld2=>?_)
    clear B K hHeld;have hHeld:=hHeld2;clear hHeld2
    (try simp only[Act.put,bJ,bE,bp])
    refine au 4 ?_;have bz:iL l.heap.size l (l.drew.alloc (iC jI 9)):=((ax _ _).drew).alloc (ak _) _;have CD:=af (Ln _ a n c rs v (Y (X ⟨l.drew.heap.size,0,O⟩) 16 16) (List.replicate 16 aK) (l.drew.alloc (iC jI 9)) hl am.o (by decide) (H2.o.below bz) (Uh l.drew) rfl)
    rw[HM.o]at CD;have BZ:=af (Q.o.trans (bz.mono Q.o.size));generalize l.drew.alloc (iC jI 9)=E at SE CD BZ⊢;refine ch 5 rfl (by kernel_rfl) (λK B=>?_)
    go_simp;refine CD.o.mono ?_;rintro en w3 ⟨uv,us,rfl,o3,t3,b3⟩;have SF:=(b3.cell (bh _ _ SE)).trans SE;refine B.out _ _ (SF) (λhHeld2=>?_)
    clear B K hHeld;have hHeld:=hHeld2;clear hHeld2
    (try simp only[Act.put,bJ,bE,bp])
    refine au 6 ?_;refine jx (by kernel_rfl) ?_
    clear hHeld SD SE SF Z;go_wp2;go_ret;exact⟨_,us,rfl,o3.down BZ.o.size,by rw[t3,y.o],BZ.o.trans (b3.mono BZ.o.size)⟩
   ·have y:ah (R=M):=by show _=_;rw[d.o,ai F]
    clear d;go_wp2;go_ret;exact⟨_,cs,rfl,P.o,by rw[y.o];exact V.o,Q.o⟩
  ·clear k1 k2 k3;simp only[show¬((4:Int)=3)by decide,eT,cW]at d
   have CO:=af (CA.o o l D2.o);obtain⟨K2,aC⟩:=an (bM M o);have aM:ah (K2= -1∨(0<=K2/\K2.toNat<M.length)):=by show _∨_;rw[<-aC];exact rX M o
   rw[aC]at CO d;clear aC;go_wp2_with fail;refine CO.o.mono ?_;rintro e bq ⟨rfl,hw⟩;have aJ:=hw.symm;clear hw;subst aJ;clear CO;by_cases F:K<0
   ·by_cases aU:0<=K2
    ·obtain⟨j,rfl⟩:∃j:Nat,K2=j:=⟨K2.toNat,by omega⟩
     have hj:j<M.length:=by rcases aM.o with e|e<;>omega
     have aG:j<n:=by have:=ao.o;omega
     obtain⟨r,A⟩:∃r,rs[j]?=X r:=⟨_,ay (by have:=HN.o;omega)⟩
     have y:ah (R=eS M ⟨v,r.2.2⟩):=by
      show _=_;rw[d.o,aj ⟨F,aU⟩];unfold iR;rw[<-HM.o];simp only[aZ,bk,A,kg];rfl
     obtain⟨b,ag,e,hb,c0,c1⟩:=H2.o.at A;subst e;have CD:=af (Ln _ (X ⟨b,ag,O⟩) n c rs v r.2.1 r.2.2 l.drew hl am.o (am.o r (aH A)) (H2.o.below (bI (ax _ _) 1)) ((H2.o.2.2.1 r (aH A)).below (bI (ax _ _) 1)) rfl);rw[HM.o]at CD;obtain⟨ra,rc,a4,-⟩:=H2.o.2.2.1 r (aH A);rw[a4]at c1 CD;have BD:=af (bI Q.o 1);have l1:=bh l _ Z;have j0:(0:Int)<=j:=by omega
     have j1:(j:Int)<n:=by omega
     clear d A hb c0 a4 aM;go_wp2;go_region_held3 (λw'=>w'.cell? ⟨w.heap.size,1,O⟩=X (I J v)/\w'.cell? ⟨b,ag+j*2+1,O⟩=X (Y ra r.2.2.length rc)) (first|exact⟨Z,c1⟩|exact KY.o) ((go_at_call 23;(with_reducible refine dq CD.o ?_);rintro en w3 ⟨uv,us,rfl,o3,t3,b3⟩;have KY:ah (w3.cell? ⟨w.heap.size,1,O⟩=X (I J v)/\w3.cell? ⟨b,ag+j*2+1,O⟩=X (Y ra r.2.2.length rc)):=⟨(b3.cell l1).trans Z,(b3.cell (bh l _ c1)).trans c1⟩))
     have FN:ah (sH w R (G uv) w3):=⟨uv,us,rfl,o3.down BD.o.size,by rw[t3,y.o],BD.o.trans (b3.mono BD.o.size)⟩
     obtain⟨ua,uc,hu⟩:=o3.form;subst hu;clear o3 t3 b3 KY CD;go_wp2;go_ret;exact FN.o
    ·have y:ah (R=M):=by show _=_;rw[d.o,ai (by omega)]
     clear d;go_wp2;go_ret;exact⟨_,cs,rfl,P.o,by rw[y.o];exact V.o,Q.o⟩
   ·have y:ah (R=M):=by show _=_;rw[d.o,ai (by omega)]
    clear d;go_wp2;go_ret;exact⟨_,cs,rfl,P.o,by rw[y.o];exact V.o,Q.o⟩
  ·clear k1 k2 k3;simp only[show¬((5:Int)=3)by decide,show¬((5:Int)=4)by decide,eT,cW]at d
   by_cases F:0<=K
   ·obtain⟨j,rfl⟩:∃j:Nat,K=j:=⟨K.toNat,by omega⟩
    have a2:j<M.length:=by rcases aq.o with e|e<;>omega
    have aG:j<n:=by have:=ao.o;omega
    obtain⟨p,hp⟩:=an (j+1:Nat);have y:ah (R=M.take j++M.drop p):=by show _=_;rw[d.o,aj F,aZ,hp]
    obtain⟨b,ag,e,hb⟩:=H2.o.adr (by omega)
    subst e;obtain⟨ad,bm,aX⟩:=H2.o.dropAt p c (by omega) be
    have a9:=af aX;have j0:(0:Int)<=j:=by omega
    have j1:(j:Int)<=c:=by omega
    have p0:(0:Int)<=p:=by omega
    have p1:(p:Int)<=n:=by omega
    have bn:IntKind.i64.wrap ((j:Int)+1)=(p:Int):=by rw[cL];omega
    obtain⟨a8,ap,a5,a6,a7⟩:=bK rg;have J0:=af ap;have Z0:=af a5;have Z1:=af a6;have Z2:=af a7;have OE:ah (ci (l.alloc (iC #[] 32)).drew l.heap.size (Y (X ⟨l.heap.size,0,O⟩) 0 0) []):=(ci.empty l l.heap.size (ak _)).below ((ax _ _).drew);have BE:ah (iL l.heap.size l (l.alloc (iC #[] 32)).drew):=(aY).drew;have HP:=af hp;clear d hb ap a5 a6 a7 aX hp;go_upto_region 15 with fail
    refine kJ (λ_=>True) (by kernel_rfl) trivial (λhHeld=>?_)
    simp only[aR,cU,Nat.reduceAdd];refine au 1 ?_;refine au 2 ?_;refine au 3 ?_;refine au 5 ?_;refine au 6 ?_;refine au 7 ?_;refine au 8 ?_;refine ch 0 rfl (by kernel_rfl) (λK B=>?_)
    go_simp;refine B.out _ _ (trivial) (λhHeld2=>?_)
    clear B K hHeld;have hHeld:=hHeld2;clear hHeld2
    (try simp only[Act.put,bJ,bE,bp])
    clear hHeld;have hHeld:True:=trivial;generalize(l.alloc (iC #[] 32)).drew=wa at OE BE⊢;refine ch 4 rfl (by kernel_rfl) (λK B=>?_)
    refine kT _ (by rfl) (.tmp 56) (.tmp 59) 24 (by rfl) l.heap.size 32 a8 (iA #[I J 0,Y O 0 0]) 2 32 Tryz.underlying24 J0.o Z0.o Z1.o Z2.o rfl (by decide) _ 0 [] (by simp[Act.eval]) OE.o.1 ⟨b,ag,O⟩ j c (bi (rs.take j)) (by simp[Act.eval]) (by rw[kC,dk];have:=HN.o;omega) ((H2.o.below BE.o).takeAt j) (H2.o.oneCells (λr A=>qj A)) (by unfold maxLen;omega) (by omega) BE.o.size ?_
    intro v1 w3 o3 g3;have B3:ah (iL l.heap.size l w3):=BE.o.grown g3 BE.o.size (λq hq=>(OE.o.1.lt q hq).1)
    rw[iN,dK]at o3;have O3:=af o3;clear o3 g3;refine B.out _ _ trivial (λhHeld2=>?_)
    clear B K hHeld;have hHeld:=hHeld2;clear hHeld2
    (try simp only[Act.put,bJ,bE,bp])
    refine ch 9 rfl (by kernel_rfl) (λK B=>?_)
    refine kT _ (by rfl) (.tmp 60) (.tmp 64) 24 (by rfl) l.heap.size 32 a8 (iA #[I J 0,Y O 0 0]) 2 32 Tryz.underlying24 J0.o Z0.o Z1.o Z2.o rfl (by decide) _ j (bi (rs.take j)) (by simp[Act.eval]) O3.o ad (n-p) (c-p) (bi (rs.drop p)) (by simp[Act.eval]) (by rw[kC,jz];have:=HN.o;omega) (λi u hu=>a9.o w3 B3.o i u hu) (H2.o.oneCells (λr A=>qZ A)) (by unfold maxLen;omega) (by omega) B3.o.size ?_
    intro v2 w4 o4 g4;have B4:ah (iL l.heap.size l w4):=B3.o.grown g4 B3.o.size (λq hq=>(O3.o.lt q hq).1)
    rw[<-tB]at o4;obtain⟨ua,uc,bf,-⟩:=(aB.of o4).form;subst bf;have R4:=af (WB o4 (by rw[aT,dk,jz];have:=HN.o;omega) (by unfold maxLen;omega) (λr A=>(H2.o.2.2.1 r (by rcases br.1 A with h|h;exact qj h;exact qZ h)).below B4.o))
    have C4:=af (AG _ ua (j+(n-p)) uc (rs.take j++rs.drop p) w4 (by omega) (λr A=>am.o r (by rcases br.1 A with h|h;exact qj h;exact qZ h)) R4.o rfl)
    clear o4 g4;refine B.out _ _ trivial (λhHeld2=>?_)
    clear B K hHeld;have hHeld:=hHeld2;clear hHeld2
    (try simp only[Act.put,bJ,bE,bp])
    refine ch 10 rfl (by kernel_rfl) (λK B=>?_)
    go_simp;refine C4.o.mono ?_;rintro en w5 ⟨uv,us,rfl,o5,t5,b5⟩;refine B.out _ _ trivial (λhHeld2=>?_)
    clear B K hHeld;have hHeld:=hHeld2;clear hHeld2
    (try simp only[Act.put,bJ,bE,bp])
    refine au 11 ?_;refine jx (by kernel_rfl) ?_
    have BB:=Q.o.trans (B4.o.mono Q.o.size);have FN:ah (sH w R (G uv) w5):=⟨uv,us,rfl,o5.down BB.size,by rw[t5,y.o,dB,AP,zE,HM.o],BB.trans (b5.mono BB.size)⟩
    clear hHeld o5 t5 b5 BB;go_wp2;go_ret;exact FN.o
   ·have y:ah (R=M):=by show _=_;rw[d.o,ai F]
    have aU:K<0:=by omega
    clear d;go_wp2;go_ret;exact⟨_,cs,rfl,P.o,by rw[y.o];exact V.o,Q.o⟩
  ·clear k1 k2 k3;simp only[show¬((6:Int)=3)by decide,show¬((6:Int)=4)by decide,show¬((6:Int)=5)by decide,eT,cW]at d
   have y:ah (R=M):=d;clear d;go_wp2;go_ret;exact⟨_,cs,rfl,P.o,by rw[y.o];exact V.o,Q.o⟩
theorem WK(w:iW)(k:TypeId)(g o c:Nat)(a:Array iX)(i:w.heap[g]?=X (iC a 32 (0,0)))(b:o+2<=a.size):
 (Builtin.clear_ #[24] k #[Y (X ⟨g,o,O⟩) 1 c]).run Tryz.prog w=.ok (iU #[]) (w.setRow g (pB a.toList o [I J 0,Y O 0 0]).toArray):=by
 have j:∀w,(zeroValue 32).run Tryz.prog w=.ok (iA #[I J 0,Y O 0 0]) w:=λw=>by kernel_rfl
 have f:(Builtin.zeroCells (iA #[I J 0,Y O 0 0]).cells 1).toList=[I J 0,Y O 0 0]:=by kernel_rfl
 have d:=run_storeCells_at Tryz.prog g o 32 [I J 0,Y O 0 0] 0 a w i (by simpa using b) (by intro v e;simp at e;rcases e with h|h<;>subst h<;>rfl)
 simp only[oh]at d;simp[Builtin.clear_,run_underlying Tryz.underlying24,j,f,d,pB]
theorem Oy(B z n m k j:Nat)(rs:List Hw)(w:iW)(y:dN w (X ⟨z,0,O⟩) n rs)(ac:n<=1048576)(hk:k<n)(hj:k+1=j)(hm:m+1=n)(L:w.ownsRow B 32 2 (Y (X ⟨z,0,O⟩) n n) n (bi rs)):
 iK Tryz.prog 19 #[Y (X ⟨z,0,O⟩) n n,I J k,I J j] w λe w'=>e=G (Y (X ⟨z,0,O⟩) m n)/\w'.ownsRow B 32 2 (Y (X ⟨z,0,O⟩) m n) m (bi (rs.take k++rs.drop j))/\w.grownBy w' (X z):=by
 have D:=af y.1;obtain⟨ad,s,q⟩:=y.dropAt j n (by omega) (ak _)
 have c:iL w.heap.size w w.drew:=(ax _ _).drew;have h:=af (q w.drew c);have P:ah (w.grownBy w.drew (X z)):=⟨c.os,c.tape,c.output,c.size,λi hi _=>c.block i hi⟩
 have p:=af (y.oneCells (l:=rs.drop j) (λr hr=>qZ hr))
 obtain⟨i0,hi,M,v,N⟩:=bK rg;have R:ah (w.drew.ownsRow B 32 2 (Y (X ⟨z,0,O⟩) k n) k (bi (rs.take k))):=by
  refine bu ?_ c;rcases L.2 with⟨e,-⟩|⟨g',cap,a,e,h2,E,h4,S,F,H⟩
  ·cases e
  ·injection e with e1 e2 e3
   injection e1 with e1
   injection e1 with e1
   subst e1 e3;refine⟨by rw[kC,dk];have:=D.o;omega,.inr ⟨z,n,a,rfl,h2,E,by omega,S,F,?_⟩⟩
   have Z:bi rs=bi (rs.take k)++bi (rs.drop k):=by rw[<-tB,jP]
   have e5:(bi (rs.take k)).length=k*2:=by rw[kC,dk];have:=D.o;omega
   have e6:a.toList.take (k*2)=(a.toList.take (n*2)).take (k*2):=by rw[List.take_take,sR (by omega)]
   rw[e6,H,Z,<-e5,List.take_left]
 have U:=af hi;have V:=af v;have k0:(0:Int)<=k:=by omega
 have kj:(k:Int)<=j:=by omega
 have jn:(j:Int)<=n:=by omega
 have kn:(k:Int)<=n:=by omega
 have j0:(0:Int)<=j:=by omega
 have m0:(0:Int)<=m:=by omega
 have mn:(m:Int)<=n:=by omega
 have aa:((k:Int)==j)=iF:=by rw[dZ];omega
 have C:ah (k+(n-j)=m):=by show _=_;omega
 have ae:¬n=m:=by omega
 have ab:n-m=1:=by omega
 have ag:(m:Int)<=m:=by omega
 have A:ah (B<=z):=(fQ L z rfl).1;clear c y q L hi M v N hm hj;go_enter Tryz.func19,Tryz.ntmps19;go_upto_region 5 with fail
 refine kJ (λ_=>True) (by kernel_rfl) trivial (λhHeld=>?_)
 simp only[aR,cU,Nat.reduceAdd];refine au 0 ?_;refine au 1 ?_;refine au 2 ?_;refine au 3 ?_;refine au 4 ?_;refine au 5 ?_;refine ch 6 rfl (by kernel_rfl) (λK T=>?_)
 rw[aj (by rfl)]
 have d:(if n=j then(X ⟨z,0,O⟩:Option Addr)else X ⟨z,j*2,O⟩)=X ad:=by rw[<-s,dK]
 refine wp_append_own_spare _ (.tmp 22) (.tmp 25) 24 (by rfl) B 32 i0 2 Tryz.underlying24 U.o V.o z k n (bi (rs.take k)) (by simp[Act.eval]) R.o ad (n-j) (n-j) (bi (rs.drop j)) (by simp[Act.eval,d]) (by rw[kC,jz,D.o]) h.o p.o (by omega) ?_
 intro f x g1;generalize(if n=j then(X ⟨z,0,O⟩:Option Addr)else X ⟨z,j*2,O⟩)=W
 rw[<-tB]at x;rw[C.o]at x⊢;refine T.out _ _ trivial (λhHeld2=>?_)
 clear T K hHeld;have hHeld:=hHeld2;clear hHeld2
 (try simp only[Act.put,bJ,bE,bp])
 refine au 7 ?_;refine jx (by kernel_rfl) ?_
 obtain⟨a,b,t,u⟩:∃a:Array iX,f.heap[z]?=X (iC a 32 (0,0))/\a.size=n*2/\a.toList.take (m*2)=bi (rs.take k++rs.drop j):=by
  rcases x.2 with⟨e,-⟩|⟨g',cap,a,e,-,E,h4,S,F,H⟩
  ·cases e
  ·injection e with e1 e2 e3
   injection e1 with e1
   injection e1 with e1
   subst e1 e3;exact⟨a,E,F,H⟩
 have Q:=λty=>WK f ty z (m*2) 1 a b (by omega)
 have g:ah ((f.setRow z (pB a.toList (m*2) [I J 0,Y O 0 0]).toArray).ownsRow B 32 2 (Y (X ⟨z,0,O⟩) m n) m (bi (rs.take k++rs.drop j))/\w.grownBy (f.setRow z (pB a.toList (m*2) [I J 0,Y O 0 0]).toArray) (X z)):=by
  refine⟨⟨x.1,.inr ⟨z,n,_,rfl,A.o,rN f z a _ _ _ b,by omega,by unfold maxLen;omega,?_,?_⟩⟩,(P.o.trans g1).trans (Yf _ _ _)⟩
  ·rw[List.size_toArray,VA (by simp;omega)]
   simpa using t
  ·rw[<-u];unfold pB;rw[List.toList_toArray,List.take_left' (by simp;omega)]
 generalize f.setRow z (pB a.toList (m*2) [I J 0,Y O 0 0]).toArray=we at Q g;clear b t u x g1 hHeld h p R P s d;go_wp2_with (at_builtin;refine NA _ rfl _ 24 rfl _ rfl (Q _) ?_);go_ret;exact⟨rfl,g.o⟩
theorem ql(x lo hi:Int)(b:Bool)(w:iW)(h:(lo<=x/\x<=hi/\b=iV)∨((x<lo∨lo<=x/\¬x<=hi)/\b=iF)):
 iK Tryz.prog 58 #[I J x,I J lo,I J hi] w λe w'=>e=G (iB b)/\w'=w:=by
 rcases h with⟨h1,a,rfl⟩|⟨h1|⟨h1,a⟩,rfl⟩
 all_goals
  go_enter Tryz.func58,Tryz.ntmps58;go_wp2;go_ret;exact⟨rfl,rfl⟩
open Sums
structure Kd where
 sec:Int
 of1:Int
 of2:Int
 text:Int
 ref:iX
 plan:iX
def jb:Kd:=⟨0,0,0,0,.nilFunc,.nilFunc⟩
def lj(n:Nat):iX:=.func (.func n) #[] #[]
def kd(k:Int):Kd:=
 if k=1 then⟨15,0,0,64,lj 86,lj 87⟩
 else if k=2 then⟨15,0,0,0,lj 86,lj 88⟩
 else if k=3 then⟨0,0,0,0,lj 89,lj 90⟩
 else if k=4 then⟨0,1,9,0,lj 89,lj 90⟩
 else if k=5 then⟨0,0,0,0,lj 86,lj 91⟩
 else if k=6 then⟨15,0,0,0,lj 86,lj 92⟩
 else jb
theorem JF{k:Int}(h:¬(1<=k/\k<=6)):kd k=jb:=by
 unfold kd;rw[ai (by omega),ai (by omega),ai (by omega),ai (by omega),ai (by omega),ai (by omega)]
theorem VQ(q:Ak):iO q=decide ((1<=q.kind/\q.kind<=6)/\(1<=q.vol/\q.vol<=9)/\(0<=q.sector/\q.sector<=(kd q.kind).sec)/\((kd q.kind).of1<=q.of/\q.of<=(kd q.kind).of2)/\(q.text.size:Int)<=(kd q.kind).text):=by
 obtain⟨k,v,s,o,t⟩:=q;unfold iO;simp only;by_cases h:1<=k/\k<=6
 ·obtain rfl|rfl|rfl|rfl|rfl|rfl:k=1∨k=2∨k=3∨k=4∨k=5∨k=6:=by omega
  all_goals
   simp only[kd,cW,eT,Int.reduceEq,or_self,false_or,ez,ne_eq,not_true_eq_false,not_false_eq_true,tY,false_and]
   repeat' split
   all_goals first
    |exact(aV (by omega)).symm
    |exact zi.2 ⟨λh=>by omega,λh=>by omega⟩
 ·rw[aj (.inl h)];exact(aV (λx=>h x.1)).symm
def qW(c:Kd):iX:=iA #[I J c.sec,I J c.of1,I J c.of2,I J c.text,c.ref,c.plan]
def il(W:iW)(g:Nat)(c:Kd):Prop:=W.heap[g]?=X (iC #[I J c.sec,I J c.of1,I J c.of2,I J c.text,c.ref,c.plan] 78 (0,0))
theorem il.below{w w':iW}{c:Kd}(h:il w g c)(a:iL w.heap.size w w'):il w' g c:=(a.block _ (aJ.1 h).1).trans h
theorem il.lt{w:iW}{c:Kd}(h:il w g c):g<w.heap.size:=(aJ.1 h).1
theorem il.cells{W:iW}{g:Nat}{c:Kd}(h:il W g c):W.cell? ⟨g,0,O⟩=X (I J c.sec)/\W.cell? ⟨g,1,O⟩=X (I J c.of1)/\W.cell? ⟨g,2,O⟩=X (I J c.of2)/\W.cell? ⟨g,3,O⟩=X (I J c.text)/\W.cell? ⟨g,4,O⟩=X c.ref/\W.cell? ⟨g,5,O⟩=X c.plan:=
 ⟨am _ _ 0 _ _ _ h,am _ _ 1 _ _ _ h,am _ _ 2 _ _ _ h,am _ _ 3 _ _ _ h,am _ _ 4 _ _ _ h,am _ _ 5 _ _ _ h⟩
theorem il.fr{W:iW}{c:Kd}(h:il W g c)(k:Nat):W.frozen? ⟨g,k,O⟩=iF:=aL _ _ k _ _ h
def p9(W:iW)(g:Nat)(a b c d e f:iX):iW:=(((((W.setCell ⟨g,0,O⟩ a).setCell ⟨g,1,O⟩ b).setCell ⟨g,2,O⟩ c).setCell ⟨g,3,O⟩ d).setCell ⟨g,4,O⟩ e).setCell ⟨g,5,O⟩ f
theorem Ld(W:iW)(g:Nat)(a b c d e f:iX)(h:i≠g):(p9 W g a b c d e f).heap[i]?=W.heap[i]?:=by
 unfold p9;rw[aU _ ⟨g,5,O⟩ _ _ h,aU _ ⟨g,4,O⟩ _ _ h,aU _ ⟨g,3,O⟩ _ _ h,aU _ ⟨g,2,O⟩ _ _ h,aU _ ⟨g,1,O⟩ _ _ h,aU _ ⟨g,0,O⟩ _ _ h]
theorem yS{w W:iW}(a b c d e f:iX)(h:iL B w W)(i:B<=g):iL B w (p9 W g a b c d e f):=
 (((((h.setCell (p:=⟨g,0,O⟩) i _).setCell (p:=⟨g,1,O⟩) i _).setCell (p:=⟨g,2,O⟩) i _).setCell (p:=⟨g,3,O⟩) i _).setCell (p:=⟨g,4,O⟩) i _).setCell (p:=⟨g,5,O⟩) i _
theorem zV{W:iW}{a:Kd}(h:il W g a)(c:Kd):il (p9 W g (I J c.sec) (I J c.of1) (I J c.of2) (I J c.text) c.ref c.plan) g c:=
 bC _ _ 5 _ _ _ (bC _ _ 4 _ _ _ (bC _ _ 3 _ _ _ (bC _ _ 2 _ _ _ (bC _ _ 1 _ _ _ (bC _ _ 0 _ _ _ h)))))
theorem NQ:(Tryz.prog.info? 78).map (·.size)=X 6:=by kernel_rfl
theorem Ku {p q:Tmp} (h:fn.results= #[.cell p 78,.tmp q]) (a:Array iX) (w:iW) (g:Nat) (c:Kd)
 (f:a.getD p undef=iP (X ⟨g,0,O⟩)) (d:il w g c):
 (results fn a).run Tryz.prog w=.ok (iU #[qW c,a.getD q undef]) w:=by
 have b:a[p]?.getD undef=iP (X ⟨g,0,O⟩):=by simpa using f
 have e:=lx (P:=Tryz.prog) w g 78 78 _ _ _ d Tryz.underlying78 rfl NQ;simp[results,h,b,asAddr,e,qW]
def mN:Array iX:= #[I J 0,I J 0,I J 0,I J 0,.nilFunc,.nilFunc,I J 15,I J 0,I J 0,I J 64,.func (.func 86) #[] #[],.func (.func 87) #[] #[],I J 15,I J 0,I J 0,I J 0,.func (.func 86) #[] #[],.func (.func 88) #[] #[],I J 0,I J 0,I J 0,I J 0,.func (.func 89) #[] #[],.func (.func 90) #[] #[],I J 0,I J 1,I J 9,I J 0,.func (.func 89) #[] #[],.func (.func 90) #[] #[],I J 0,I J 0,I J 0,I J 0,.func (.func 86) #[] #[],.func (.func 91) #[] #[],I J 15,I J 0,I J 0,I J 0,.func (.func 86) #[] #[],.func (.func 92) #[] #[]]
def uV:iX:=iA mN
theorem IA:(Tryz.prog.info? 118).map (·.size)=X 42:=by kernel_rfl
theorem QI {p:Tmp} (h:fn.results= #[.cell p 118]) (a:Array iX) (w:iW) (g:Nat)
 (e:a.getD p undef=iP (X ⟨g,0,O⟩)) (c:w.rangeAt g 0 mN.toList):
 (results fn a).run Tryz.prog w=.ok uV w:=by
 have b:a[p]?.getD undef=iP (X ⟨g,0,O⟩):=by simpa using e
 have d:=run_loadVar_mid (P:=Tryz.prog) w g 0 118 mN.toList _ c Tryz.underlying118 rfl IA;simp[results,h,b,asAddr,d,uV]
theorem Fx{b:Nat}{a:iW}(c:B<=b):∀(vs:List iX) (o:Nat) (w:iW),iL B a w->iL B a (w.setCells b o vs)
 | [],_,_,h=>h
 |v::r,o,w,h=>by
  rw[World.setCells];exact Fx c r _ _ (h.setCell (p:=⟨b,o,O⟩) c v)
def yi:Array iX:= #[I J 0,I J 0,I J 0,I J 0,.nilFunc,.nilFunc,I J 0,I J 0,I J 0,I J 0,.nilFunc,.nilFunc,I J 0,I J 0,I J 0,I J 0,.nilFunc,.nilFunc,I J 0,I J 0,I J 0,I J 0,.nilFunc,.nilFunc,I J 0,I J 0,I J 0,I J 0,.nilFunc,.nilFunc,I J 0,I J 0,I J 0,I J 0,.nilFunc,.nilFunc,I J 0,I J 0,I J 0,I J 0,.nilFunc,.nilFunc]
theorem IR(w:iW):(w.alloc (iC yi 118)).there w.heap.size 0 mN.size:=by
 intro j b;rw[dK,Hd];refine⟨?_,by simp⟩
 have h1:yi.size=42:=rfl;have a:mN.size=42:=rfl;rw[mp (by omega)]
 rfl
theorem RM:mN.all (·.oneCell')=iV:=by kernel_rfl
theorem Wz(w:iW):iK Tryz.prog 59 #[] w λe w'=>e=G uV/\iL w.heap.size w w':=by
 have c:=af (IR w);have b:=af (World.rangeAt_setCells_same _ _ 0 mN.toList (show(w.alloc (iC yi 118)).there w.heap.size 0 mN.toList.length from IR w));have a:=af (Fx (ak w.heap.size) mN.toList 0 _ ((ax w.heap.size w).alloc (ak _) (iC yi 118)));go_enter Tryz.func59,Tryz.ntmps59;go_wp2_with (refine wpList_store_mid rfl 118 (Operand.tmp 0) (Operand.tmp 7) rfl w.heap.size 0 mN rfl rfl c.o IA RM ?_);refine aF (QI rfl _ _ w.heap.size rfl b.o) rfl ?_;exact⟨rfl,a.o⟩
theorem OH:(Tryz.prog.info? 78).map (λi=>(i.zero,i.size,i.bytes))=X (X (iA #[I J 0,I J 0,I J 0,I J 0,.nilFunc,.nilFunc]),6,48):=by kernel_rfl
theorem Mv{k:Int}(h:1<=k/\k<=6)(W:iW):(Instr.index 118 uV (I J k)).run Tryz.prog W=.ok (qW (kd k)) W:=by
 obtain rfl|rfl|rfl|rfl|rfl|rfl:k=1∨k=2∨k=3∨k=4∨k=5∨k=6:=by omega
 all_goals
  obtain⟨d,hi,b,a,c⟩:=bK OH;simp[Instr.index,run_underlying Tryz.underlying118,asIntOf,uV,part,sizeOf,typeInfo,hi,a,isAgg,run_underlying Tryz.underlying78,mN,qW,kd,lj]
theorem Ke{k:Int}(h:1<=k/\k<=6):∃c1 c2 c3 a b c,kd k=⟨c1,c2,c3,a,.func (.func b) #[] #[],.func (.func c) #[] #[]⟩:=by
 obtain rfl|rfl|rfl|rfl|rfl|rfl:k=1∨k=2∨k=3∨k=4∨k=5∨k=6:=by omega
 all_goals exact⟨_,_,_,_,_,_,rfl⟩
def Am(w W:iW)(q:Ak)(g:Nat):Prop:=bH W w.heap.size q/\il W (w.heap.size+1) jb/\il W g (kd q.kind)/\iL w.heap.size w W
def oE(w W:iW)(q:Ak):Prop:=bH W w.heap.size q/\il W (w.heap.size+1) jb/\iL w.heap.size w W
theorem oE.below{w W W':iW}{q:Ak}(h:oE w W q)(a:iL W.heap.size W W'):oE w W' q:=⟨h.1.below a,h.2.1.below a,h.2.2.trans (a.mono h.2.2.size)⟩
theorem oE.late{w W:iW}{q:Ak}{c:Kd}(h:oE w W q)(d:kd q.kind=c):Am w (W.alloc (iC #[I J c.sec,I J c.of1,I J c.of2,I J c.text,c.ref,c.plan] 78)) q W.heap.size:=by
 have b:=(ax W.heap.size W).alloc (ak _) (iC #[I J c.sec,I J c.of1,I J c.of2,I J c.text,c.ref,c.plan] 78);have a:=h.below b;refine⟨a.1,a.2.1,?_,a.2.2⟩;rw[d];exact az _ _
theorem oE.early{w W:iW}{q:Ak}{c:Kd}(h:oE w W q)(b:il W g jb)(d:w.heap.size+1<g)(a:kd q.kind=c):Am w (p9 W g (I J c.sec) (I J c.of1) (I J c.of2) (I J c.text) c.ref c.plan) q g:=by
 refine⟨(Ld _ _ _ _ _ _ _ _ (by omega)).trans h.1,(Ld _ _ _ _ _ _ _ _ (by omega)).trans h.2.1,?_,yS _ _ _ _ _ _ h.2.2 (by omega)⟩
 rw[a];exact zV b c
theorem UV(q:Ak)(w:iW):iK Tryz.prog 33 #[dU q] w λe w'=>e=G (iU #[qW (kd q.kind),iB (iO q)])/\iL w.heap.size w w':=by
 obtain⟨k,v,s,o,t⟩:=q;unfold dU;simp only;have s0:(w.alloc (iC #[I J k,I J v,I J s,I J o,iT t] 26)).heap.size=w.heap.size+1:=by simp
 have b0:=aO w (iC #[I J k,I J v,I J s,I J o,iT t] 26);have a0:bH (w.alloc (iC #[I J k,I J v,I J s,I J o,iT t] 26)) w.heap.size ⟨k,v,s,o,t⟩:=az _ _;have l:=(ax (w.alloc (iC #[I J k,I J v,I J s,I J o,iT t] 26)).heap.size _).alloc (ak _) (iC #[I J 0,I J 0,I J 0,I J 0,.nilFunc,.nilFunc] 78);have S:=a0.below l;have zA:il ((w.alloc (iC #[I J k,I J v,I J s,I J o,iT t] 26)).alloc (iC #[I J 0,I J 0,I J 0,I J 0,.nilFunc,.nilFunc] 78)) (w.heap.size+1) jb:=by
  rw[<-s0];exact az _ _
 have bA:=b0.trans (l.mono b0.size);generalize p:(w.alloc (iC #[I J k,I J v,I J s,I J o,iT t] 26)).alloc (iC #[I J 0,I J 0,I J 0,I J 0,.nilFunc,.nilFunc] 78)=wa at S zA bA;have M:wa.heap.size=w.heap.size+1+1:=by rw[<-p];simp
 obtain⟨c0,c1,c2,c3,c4⟩:=S.cells;simp only at c0 c1 c2 c3 c4;obtain⟨R,hR⟩:=an (iO ⟨k,v,s,o,t⟩);rw[hR];have d:ah (R=decide ((1<=k/\k<=6)/\(1<=v/\v<=9)/\(0<=s/\s<=(kd k).sec)/\((kd k).of1<=o/\o<=(kd k).of2)/\(t.size:Int)<=(kd k).text)):=hR.symm.trans (VQ _);have HA:=af S;have c:=af zA;have Z:=af bA;have HS:=af M;clear s0 b0 a0 l S zA bA M hR;by_cases i:¬(1<=k/\k<=6)
 ·have b:ah (R=iF):=by show _=_;rw[d.o];exact aV (λx=>i x.1)
  have HK:=af (JF i);obtain⟨y,z,A,B,C,D⟩:=c.o.cells;unfold jb at y z A B C D;simp only at y z A B C D;have f0:=c.o.fr 0;have f1:=c.o.fr 1;have f2:=c.o.fr 2;have f3:=c.o.fr 3;have f4:=c.o.fr 4;have f5:=c.o.fr 5;have n:=af (zV c.o jb);have u:=af (yS (I J jb.sec) (I J jb.of1) (I J jb.of2) (I J jb.text) jb.ref jb.plan Z.o (g:=w.heap.size+1) (by omega))
  unfold p9 jb at n u;simp only at n u;clear d;go_enter Tryz.func33,Tryz.ntmps33;go_wp2_with fail;clear p;refine(ql k 1 6 iF _ (.inr ⟨by omega,rfl⟩)).mono ?_
  rintro e w' ⟨rfl,rfl⟩;go_wp2;refine aF (Ku rfl _ _ (w.heap.size+1) _ rfl n.o) rfl ?_;rw[HK.o,b.o];exact⟨rfl,u.o⟩
 have i:1<=k/\k<=6:=xu.1 i;have f:=Mv i;obtain⟨E,F,H,N,n1,n2,hC⟩:=Ke i;rw[hC]at d f⊢;unfold qW at f⊢;simp only at d f⊢;have HC:=af hC;clear hC;go_enter Tryz.func33,Tryz.ntmps33;go_wp2_with fail;clear p;refine(ql k 1 6 iV _ (.inl ⟨i.1,i.2,rfl⟩)).mono ?_;rintro e m ⟨rfl,rfl⟩;go_upto_region 3 with fail
 go_cut [4] (λs4 wc=>∃g:Nat,s4=iP (X ⟨g,0,O⟩)/\ah (Am w wc ⟨k,v,s,o,t⟩ g)/\w.heap.size+1<g)
 case first=>
  have ad:(0:Int)<=k:=by omega
  have R0:=af (show oE w m ⟨k,v,s,o,t⟩from⟨HA.o,c.o,Z.o⟩);have RD:=af (R0.o.below (W':=m.drew) (ax _ _).drew);have RE:=af (R0.o.below (W':=(m.alloc (iC #[I J 0,I J 0,I J 0,I J 0,.nilFunc,.nilFunc] 78)).drew) (aY).drew);have ZE:ah (il (m.alloc (iC #[I J 0,I J 0,I J 0,I J 0,.nilFunc,.nilFunc] 78)).drew m.heap.size jb):=az m (iC #[I J 0,I J 0,I J 0,I J 0,.nilFunc,.nilFunc] 78);have K0:=af RD.o.1.cells.1;have K1:=af RE.o.1.cells.1;simp only at K0 K1;clear c1 c2 c3 c4;go_region_held3 (λW=>W.cell? ⟨w.heap.size,0,O⟩=X (I J k)) (first|(with_reducible exact K0.o)|(with_reducible exact K1.o)|(with_reducible exact KC.o)|(with_reducible exact KD.o)|(with_reducible exact KE.o)|go_keep) ((go_at_call 59;(with_reducible refine dq (Wz _) ?_);rintro en y1 ⟨rfl,l⟩;have Q:=af (show oE w y1 ⟨k,v,s,o,t⟩from by first|(with_reducible exact RD.o.below l)|(with_reducible exact RE.o.below l));(try have j:=af (show il y1 m.heap.size jb from by with_reducible exact ZE.o.below l));have KC:=af Q.o.1.cells.1;have Y:=af (Q.o.late HC.o);have KD:=af Y.o.1.cells.1;(try have P:=af (Q.o.early j.o (show w.heap.size+1<m.heap.size by have:=HS.o;omega) HC.o));(try have KE:=af P.o.1.cells.1);(try unfold p9 at P KE);simp only at KC Y KD;(try simp only at P KE);(try obtain⟨y,z,A,B,C,D⟩:=j.o.cells);(try unfold jb at y z A B C D);(try simp only at y z A B C D);(try have f0:=j.o.fr 0);(try have f1:=j.o.fr 1);(try have f2:=j.o.fr 2);(try have f3:=j.o.fr 3);(try have f4:=j.o.fr 4);(try have f5:=j.o.fr 5);clear l))
  all_goals
   go_wp2_with fail;go_meet
   case rel=>first
    |((with_reducible refine⟨_,rfl,Y,?_⟩);have:=Q.o.2.1.lt;omega)
    |((with_reducible refine⟨_,rfl,P,?_⟩);have:=HS.o;omega)
 case rest=>
  obtain⟨w2,r⟩:∃w2,w2=wc:=⟨_,rfl⟩;subst r;obtain⟨g,aa,hg,ae⟩:=hcut;subst aa;obtain⟨A2,Z2,K,B2⟩:=hg.o;obtain⟨d0,d1,d2,d3,d4⟩:=A2.cells;simp only at d0 d1 d2 d3 d4;simp only at K;rw[HC.o]at K;obtain⟨e0,e1,e2,e3,e4,e5⟩:=K.cells;simp only at e0 e1 e2 e3 e4 e5;have HG:=af K;have a:=af Z2;have L:=af B2;clear HA c Z HS hg A2 Z2 K B2 f;go_upto_region 4 with fail
  go_cut [5] (λs5 wc=>s5=iB R/\wc=w2)
  case first=>
   by_cases T:1<=v/\v<=9
   ·go_wp2_with fail;refine(ql v 1 9 iV _ (.inl ⟨T.1,T.2,rfl⟩)).mono ?_;rintro e w' ⟨rfl,rfl⟩;by_cases U:0<=s/\s<=E
    ·go_wp2_with fail;refine(ql s 0 E iV _ (.inl ⟨U.1,U.2,rfl⟩)).mono ?_;rintro e w' ⟨rfl,rfl⟩;by_cases V:F<=o/\o<=H
     ·go_wp2_with fail;refine(ql o F H iV _ (.inl ⟨V.1,V.2,rfl⟩)).mono ?_;rintro e w' ⟨rfl,rfl⟩;have b:ah (R=decide ((t.size:Int)<=N)):=by show _=_;rw[d.o];exact zi.2 ⟨λh=>h.2.2.2.2,λh=>⟨i,T,U,V,h⟩⟩
      by_cases p5:(t.size:Int)<=N
      ·go_wp2;go_meet
       case rel=>exact⟨by rw[b.o,aQ p5],rfl⟩
      ·go_wp2;go_meet
       case rel=>exact⟨by rw[b.o,aV (by omega)],rfl⟩
     ·have b:ah (R=iF):=by show _=_;rw[d.o];exact aV (λh=>V h.2.2.2.1)
      go_wp2_with fail;refine(ql o F H iF _ (.inr ⟨by omega,rfl⟩)).mono ?_
      rintro e w' ⟨rfl,rfl⟩;go_wp2;go_meet
      case rel=>exact⟨by rw[b.o],rfl⟩
    ·have b:ah (R=iF):=by show _=_;rw[d.o];exact aV (λh=>U h.2.2.1)
     go_wp2_with fail;refine(ql s 0 E iF _ (.inr ⟨by omega,rfl⟩)).mono ?_
     rintro e w' ⟨rfl,rfl⟩;go_wp2;go_meet
     case rel=>exact⟨by rw[b.o],rfl⟩
   ·have b:ah (R=iF):=by show _=_;rw[d.o];exact aV (λh=>T h.2.1)
    go_wp2_with fail;refine(ql v 1 9 iF _ (.inr ⟨by omega,rfl⟩)).mono ?_
    rintro e w' ⟨rfl,rfl⟩;go_wp2;go_meet
    case rel=>exact⟨by rw[b.o],rfl⟩
  case rest=>
   obtain⟨w3,r⟩:∃w3,w3=wc:=⟨_,rfl⟩;subst r;obtain⟨ab,ac⟩:=hcut;subst ab ac;obtain⟨y,z,A,B,C,D⟩:=a.o.cells;have f0:=a.o.fr 0;have f1:=a.o.fr 1;have f2:=a.o.fr 2;have f3:=a.o.fr 3;have f4:=a.o.fr 4;have f5:=a.o.fr 5;have n:=af (zV a.o ⟨E,F,H,N,.func (.func n1) #[] #[],.func (.func n2) #[] #[]⟩);have u:=af (yS (I J E) (I J F) (I J H) (I J N) (.func (.func n1) #[] #[]) (.func (.func n2) #[] #[]) L.o (g:=w.heap.size+1) (by omega))
   unfold p9 at n u;simp only at n;clear d d0 d1 d2 d3 d4 HG a L;go_wp2;refine aF (Ku rfl _ _ (w.heap.size+1) _ rfl n.o) rfl ?_;exact⟨rfl,u.o⟩
theorem VM(q:Ak)(w:iW):iK Tryz.prog 15 #[dU q] w λe w'=>e=G (iB (iO q))/\iL w.heap.size w w':=by
 obtain⟨k,v,s,o,t⟩:=q;have i:=aO w (iC #[I J k,I J v,I J s,I J o,iT t] 26);have C:=af (UV ⟨k,v,s,o,t⟩ (w.alloc (iC #[I J k,I J v,I J s,I J o,iT t] 26)));obtain⟨R,l⟩:=an (iO ⟨k,v,s,o,t⟩);rw[l]at C⊢;have a:∃c1 c2 c3 c v1 v2,kd k=⟨c1,c2,c3,c,v1,v2⟩/\((v1=.nilFunc/\v2=.nilFunc)∨∃d f,v1=.func (.func d) #[] #[]/\v2=.func (.func f) #[] #[]):=by
  by_cases h:1<=k/\k<=6
  ·obtain⟨c1,c2,c3,c,d,f,e⟩:=Ke h;exact⟨_,_,_,_,_,_,e,.inr ⟨_,_,rfl,rfl⟩⟩
  ·exact⟨_,_,_,_,_,_,JF h,.inl ⟨rfl,rfl⟩⟩
 obtain⟨c1,c2,c3,c,v1,v2,a,m⟩:=a;simp only at C;rw[a]at C;unfold dU qW at C;unfold dU;simp only at C⊢;have b:=af i;clear l a i;rcases m with⟨rfl,rfl⟩|⟨d,f,rfl,rfl⟩
 all_goals
  go_enter Tryz.func15,Tryz.ntmps15;go_wp2_with fail;refine C.o.mono ?_;rintro e n ⟨rfl,j⟩;have g:=af (b.o.trans (j.mono b.o.size));clear j C b;go_wp2;go_ret;exact⟨rfl,g.o.alloc g.o.size _⟩
end Go.Proofs.YtijmbohadndfmaaGreatDoor
