/-
  IMoF; Big; LawMls; Code; Vars
-/
import Derived.Test.YtijmbohadndfmaaGreatDoorPk27
import Derived.ChangeVars
open Go.Value renaming int→I,slice→Y,string→iT,bool→iB,agg→iA,tuple→iU
open Go.IntKind renaming i64→J
open Option renaming none→O,some→X
open Go.Ending renaming returned→G
open Go.Obj renaming cells→iC
open Bool renaming true→iV,false→iF
open Go renaming World→iW,Value→iX,Calls→iK
open Go.RowKit renaming Below→iL
set_option maxHeartbeats 8000000
set_option maxRecDepth 100000
namespace Go.Proofs.YtijmbohadndfmaaGreatDoor
open Go.RowKit Words
theorem NH(x:Int)(i m c:Nat)(a:Option Addr)(t:ByteArray)(w:iW)(h:¬i<m):
 iK Tryz.prog 18 #[iA #[I J x,Y a m c],I J i,iT t] w λe w'=>e=G (iU #[])/\iL w.heap.size w w':=by
 have b:=af (aO w (iC #[I J x,Y a m c] 32));have d:¬(i:Int)<m:=by omega
 go_enter Tryz.func18,Tryz.ntmps18;go_wp2
 first|go_end0|refine aF (uC rfl _ _ _) rfl ?_
 exact⟨rfl,b.o⟩
theorem Oe(x:Int)(i m c g:Nat)(gs:Array iX)(t:ByteArray)(q:iX)(w:iW)(h:i<m)(A:t.size<=281474976710656)(z:w.heap[g]?=X (iC gs 9 (0,0)))(y:w.cell? ⟨g,i,O⟩=X q):
 iK Tryz.prog 18 #[iA #[I J x,Y (X ⟨g,0,O⟩) m c],I J i,iT t] w λe w'=>e=G (iU #[])/\∃w0,iL w.heap.size w w0/\w'=w0.setCell ⟨g,i,O⟩ (iT t):=by
 have l:=aO w (iC #[I J x,Y (X ⟨g,0,O⟩) m c] 32);have n:(w.alloc (iC #[I J x,Y (X ⟨g,0,O⟩) m c] 32)).heap[w.heap.size]?=X (iC #[I J x,Y (X ⟨g,0,O⟩) m c] 32 (0,0)):=az _ _;have N:(i:Int)<m:=by omega
 have M:(0:Int)<=i:=by omega
 have p:=am _ _ 1 _ _ _ n;have D:=af y;have r:=af z;have E:=af A;clear y z h A;go_enter Tryz.func18,Tryz.ntmps18;go_upto_region 2 with fail
 generalize w.alloc (iC #[I J x,Y (X ⟨g,0,O⟩) m c] 32)=B at l n p⊢;have f:B.drew.cell? ⟨w.heap.size,1,O⟩=X (Y (X ⟨g,0,O⟩) m c):=p;have v:=af l.drew;have C:=af (GJ t B.drew E.o);clear l n p;refine kJ (λw'=>w'.cell? ⟨w.heap.size,1,O⟩=X (Y (X ⟨g,0,O⟩) m c)) (by kernel_rfl) f (λhHeld=>?_)
 simp only[aR,cU,Nat.reduceAdd];refine au 0 ?_;refine au 1 ?_;refine au 2 ?_;refine au 3 ?_;refine ch 4 rfl (by kernel_rfl) (λK a=>?_)
 go_simp;refine C.o.mono ?_;rintro L d ⟨rfl,u⟩;have k:=(u.cell (bh _ _ f)).trans f;refine a.out _ _ k (λhHeld2=>?_)
 clear a K hHeld;have hHeld:=hHeld2;clear hHeld2
 (try simp only[Act.put,bJ,bE,bp])
 refine au 5 ?_;have j:ah (iL w.heap.size w d):=v.o.trans (u.mono v.o.size);have b:g<w.heap.size:=(aJ.1 r.o).1;have F:d.cell? ⟨g,i,O⟩=X q:=(j.o.cell b).trans D.o;have H:d.frozen? ⟨g,i,O⟩=iF:=aL _ _ i _ _ ((j.o.block g b).trans r.o);have s:(d.setCell ⟨g,i,O⟩ (iT t)).cell? ⟨w.heap.size,1,O⟩=X (Y (X ⟨g,0,O⟩) m c):=by
  rw[gP (h:=λe=>by have:=congrArg Addr.block e;simp at this;omega)]
  exact k
 refine ch 6 rfl (by kernel_rfl) (λK a=>?_)
 go_simp;refine a.out _ _ s (λhHeld2=>?_)
 clear a K hHeld;have hHeld:=hHeld2;clear hHeld2
 (try simp only[Act.put,bJ,bE,bp])
 refine jx (by kernel_rfl) ?_
 clear hHeld f k s F H C;go_wp2
 first|go_end0|refine aF (uC rfl _ _ _) rfl ?_
 exact⟨rfl,d,j.o,rfl⟩
theorem IP{M:List Sh}(p:Sh->Bool)(h:∀s∈M,p s=iV):M.filter p=M:=zR.2 h
theorem Ig{M:List Sh}(p:Sh->Bool)(h:∀s∈M,p s=iF):M.filter p=[]:=mt.2 (λs hs=>by rw[h s hs];decide)
theorem Qk{U V:List Sh}{x:Sh}(a:∀u∈U,u.vol<x.vol)(b:∀v∈V,x.vol<v.vol):eS (U++V) x=U++x::V:=by
 unfold eS;rw[iD,iD,IP (M:=U) _ (λs hs=>aQ (a s hs)),Ig (M:=V) _ (λs hs=>aV (by have:=b s hs;omega)),Ig (M:=U) _ (λs hs=>aV (by have:=a s hs;omega)),IP (M:=V) _ (λs hs=>aQ (b s hs))]
 simp
theorem mE.perm{a b:List Hw}(h:mE a)(p:a.Perm b):mE b:=
 (List.Perm.pairwise_iff (λc g d e=>c g e d) p).1 h
variable{H:Type}{B N cap g k n m:Nat}{sp:Nat -> Bool}{P:Program}{e:TypeId}
variable{V:List Hw}
theorem YS{w W:iW}{L U:List Hw}{x:Hw}(h:ci w B (Y (X ⟨g,0,O⟩) N cap) (L++[x]))(e:L=U++V)(s:hO w W B g N cap (U++x::V))(f:L.length+1=N):ci W B (Y (X ⟨g,0,O⟩) N cap) (U++x::V):=by
 subst e;have a:((U++V)++[x]).Perm (U++x::V):=by
  rw[fJ];exact List.Perm.append_left U (Ij x V)
 have j:(U++x::V).length=N:=by simp at f⊢;omega
 obtain⟨-,-,cs,q⟩:=fQ h.1 g rfl;refine⟨by rw[j];exact s.1,λr k=>?_,h.2.2.perm a⟩
 obtain⟨h1,d⟩:=h.2.1 r (a.mem_iff.2 k);exact⟨(h1.grown s.2.1 (λb i c=>by cases c;exact DI h1 q i)).up s.2.1.size,d⟩
variable{rs:List Hw}
theorem ci.slv{W:iW}{v:iX}(h:ci W B v rs):Gu rs:=by
 intro r b;obtain⟨a,c,e,-⟩:=(h.2.1 r b).1.form;exact⟨a,_,c,e⟩
def nk(M:List Sh)(k v o:Int):List Sh:=
 if k=3 then eS M ⟨v,List.replicate 16 aK⟩
 else if k=4/\0<=bM M o then eS M ⟨v,iR M (bM M o)⟩else M
theorem WE(w:iW):(w.alloc (iC jI 9)).ownsRow w.heap.size 9 1 (Y (X ⟨w.heap.size,0,O⟩) 16 16) 16 (cA (List.replicate 16 aK)):=by
 refine⟨by simp[cA],.inr ⟨w.heap.size,16,jI,rfl,ak _,az _ _,ak _,by unfold maxLen;omega,by simp[jI],?_⟩⟩
 simp[jI,cA,aK]
theorem Mt(B n c:Nat)(a:Option Addr)(cs:List Hw)(M:List Sh)(k v s o:Int)(t:ByteArray)(w:iW)(hB:B<=w.heap.size)(ho:ci w B (Y a n c) cs)(hM:cs.map aW=M)(hn:n<=18)(ae:cs.length=n)(ha:hY M)(hv:bM M v<0)(av:∀r∈cs,r.2.2.length<=1048576)(hs:∀r∈cs,∀t∈r.2.2,t.size<=281474976710656):
 iK Tryz.prog 17 #[Y a n c,iA #[I J k,I J v,I J s,I J o,iT t]] w λe w'=>∃u ss,e=G u/\ci w' B u ss/\ss.map aW=nk M k v o/\iL B w w':=by
 have bA:=aO w (iC #[I J k,I J v,I J s,I J o,iT t] 26);have gA:bH (w.alloc (iC #[I J k,I J v,I J s,I J o,iT t] 26)) w.heap.size ⟨k,v,s,o,t⟩:=az w _;have sA:(w.alloc (iC #[I J k,I J v,I J s,I J o,iT t] 26)).heap.size=w.heap.size+1:=by simp
 generalize al:w.alloc (iC #[I J k,I J v,I J s,I J o,iT t] 26)=wa at bA gA sA;have bB:iL w.heap.size w (wa.alloc (iC #[I J v,Y O 0 0] 32)):=bA.alloc (by omega) _
 have gB:bH (wa.alloc (iC #[I J v,Y O 0 0] 32)) w.heap.size ⟨k,v,s,o,t⟩:=gA.below (aY);have ad:(wa.alloc (iC #[I J v,Y O 0 0] 32)).heap[w.heap.size+1]?=X (iC #[I J v,Y O 0 0] 32 (0,0)):=by
  have:=az wa (iC #[I J v,Y O 0 0] 32);rw[sA]at this;exact this
 obtain⟨sb,ag⟩:=an (w.heap.size+1);have aI:=af ag;rw[ag]at sA ad;have HO:=af ho;have i:=af hM;have HA:=af ha;have HV:=af hv;have aF:=af av;have HS:=af hs;have y:=af ae;have E:=af hB;have au:ah (∀W,iL w.heap.size w W->W.ownsRow B 32 2 (Y a n c) n (bi cs)):=λW b=>by have:=bu ho.1 b;rw[ae]at this;exact this
 have A:=af bB;have GB:=af gB;have H0:=af ad;obtain⟨-,x1,-,-,-⟩:=gA.cells;obtain⟨y0,-,-,y3,-⟩:=gB.cells;simp only at x1 y0 y3;obtain⟨i0,hi,ap,aq,ar⟩:=bK vV;obtain⟨j0,P,aA,aC,aD⟩:=bK rg;have J0:=af P;have X0:=af aA;have X1:=af aC;have X2:=af aD;clear bA gA bB gB ad ho hM ha hv av hs ae hB ag P aA aC aD;go_enter Tryz.func17,Tryz.ntmps17;rcases(show k=3∨(k=4/\0<=bM M o)∨(k=4/\¬0<=bM M o)∨(¬k=3/\¬k=4)by omega)with F|F|F|F
 case' inl=>
  have K:nk M k v o=eS M ⟨v,List.replicate 16 aK⟩:=by rw[F];rfl
  subst F;go_wp2_with fail;generalize wa.alloc (iC #[I J v,Y O 0 0] 32)=D at A GB H0 y0 y3⊢;obtain⟨d,h⟩:=an 16;rw[show(Instr.makeSlice 30 (I J 16) (I J 16)).run Tryz.prog D=.ok (Y (X ⟨D.heap.size,0,O⟩) d d) (D.alloc (iC jI 9))by rw[<-h];exact DS D]
  have ow:=WE D;have b3:=aO D (iC jI 9);obtain⟨C,z⟩:=an (List.replicate 16 aK);have TL:ah (C.length=d):=by show _=_;rw[<-z,<-h];rfl
  rw[z]at ow K;rw[h]at ow;have aa:d<=1048576:=by omega
  obtain⟨l,T⟩:=an D.heap.size;rw[T]at ow;try rw[T]
  generalize D.alloc (iC jI 9)=w3 at b3 ow⊢;have TZ:ah (w.heap.size<=l):=by rw[<-T];exact A.o.size
  have B3:=af (A.o.trans (b3.mono A.o.size));have H3:=af ((b3.block sb (aJ.1 H0.o).1).trans H0.o);clear al x1 b3 z h T y0 y3 hi ap aq ar
 case' inr.inl=>
  obtain⟨Q,H⟩:=F;have K:nk M k v o=eS M ⟨v,iR M (bM M o)⟩:=by
   unfold nk;rw[ai (by omega),aj ⟨Q,H⟩]
  obtain⟨j,P⟩:∃j:Nat,bM M o=j:=⟨(bM M o).toNat,by omega⟩
  have aP:j<M.length:=by rcases rX M o with q|q<;>omega
  have aM:cs.length=M.length:=by rw[<-i.o,aS]
  obtain⟨r,L⟩:∃r,cs[j]?=X r:=⟨_,ay (by omega)⟩
  have aQ:(j:Int)<n:=by have:=y.o;omega
  have aN:(0:Int)<=j:=by omega
  obtain⟨C,z⟩:=an (iR M (bM M o));have S:r.2.2=C:=by
   rw[<-z,P,<-i.o];unfold iR;rw[aZ,bk,L];rfl
  rw[z]at K;subst Q;go_wp2_with fail;generalize wa.alloc (iC #[I J v,Y O 0 0] 32)=D at A GB H0 y0 y3⊢;have RD:=af ((HO.o.fK.rd y.o (ak _)).below A.o);have CV:=Cy a n c cs o D RD.o (by omega)
  rw[i.o,P]at CV;refine CV.mono ?_;rintro e aE ⟨rfl,b2⟩;have m:=af (A.o.trans (b2.mono A.o.size));obtain⟨ab,ao,ea,-,c0,c1⟩:=(RD.o.below b2).at L;obtain⟨ga,gc,eg,-,gz⟩:=(RD.o.below b2).2.2.1 r (aH L);rw[eg]at c1;subst ea;rw[S]at c1 gz;obtain⟨d,h⟩:=an C.length;rw[h]at c1 gz;have TL:=af h;have aa:d<=1048576:=by have:=aF.o r (aH L);rw[S,h]at this;exact this
  have CT:=af (Hm ga d gc C aE gz aa (λx hx=>HS.o r (aH L) x (by rw[S];exact hx)))
  have ac:=af ((b2.block sb (aJ.1 H0.o).1).trans H0.o);clear CV b2 L eg gz S z h aP aM c0 al x1 y0 y3 hi ap aq ar H P;go_wp2_with fail;refine CT.o.mono ?_;rintro e w3 ⟨rfl,ow,b3⟩;have B3:=af (m.o.trans (b3.mono m.o.size));have H3:=af ((b3.block sb (aJ.1 ac.o).1).trans ac.o);have TZ:=af m.o.size;generalize aE.heap.size=l at ow TZ⊢;clear b3 CT c1 RD aQ aN ac m
 case' inr.inr.inl=>
  obtain⟨Q,H⟩:=F;have HE:ah (nk M k v o=M):=by
   show _=_;unfold nk;rw[ai (by omega),ai (λe=>H e.2)]
  have P:bM M o= -1:=by rcases rX M o with q|q<;>omega
  subst Q;go_wp2_with fail;generalize wa.alloc (iC #[I J v,Y O 0 0] 32)=D at A GB H0 y0 y3⊢;have CV:=Cy a n c cs o D ((HO.o.fK.rd y.o (ak _)).below A.o) (by omega)
  rw[i.o,P]at CV;refine CV.mono ?_;rintro e w3 ⟨rfl,b2⟩;have m:=af (A.o.trans (b2.mono A.o.size));clear CV b2 al x1 y0 y3 hi ap aq ar H P;go_wp2;go_ret;exact⟨_,cs,rfl,HO.o.below m.o,i.o.trans HE.o.symm,m.o.mono E.o⟩
 case' inr.inr.inr=>
  have HE:ah (nk M k v o=M):=by
   show _=_;unfold nk;rw[ai F.1,ai (λe=>F.2 e.1)]
  have h3:(k==3)=iF:=dZ.2 F.1;have h4:(k==4)=iF:=dZ.2 F.2;go_wp2;go_ret;exact⟨_,cs,rfl,HO.o.below A.o,i.o.trans HE.o.symm,A.o.mono E.o⟩
 all_goals
  have OW:=af ow;have aG:=af K;have xq:=am _ _ 1 _ _ _ H3.o;have xp:=am _ _ 0 _ _ _ H3.o;have fq:=aL _ _ 1 _ _ H3.o;have B4:ah (iL w.heap.size w ((w3.setCell ⟨sb,1,O⟩ (Y (X ⟨l,0,O⟩) d d)).alloc (iC #[I J v,Y (X ⟨l,0,O⟩) d d] 32))):=(B3.o.setCell (p:=⟨sb,1,O⟩) (by show _<=sb;have:=aI.o;omega) _).alloc (by have:=B3.o.size;simp[World.setCell];omega) _
  have QS:ah (aB 9 w.heap.size ((w3.setCell ⟨sb,1,O⟩ (Y (X ⟨l,0,O⟩) d d)).alloc (iC #[I J v,Y (X ⟨l,0,O⟩) d d] 32)).heap.size (Y (X ⟨l,0,O⟩) d d) C.length (cA C) ((w3.setCell ⟨sb,1,O⟩ (Y (X ⟨l,0,O⟩) d d)).alloc (iC #[I J v,Y (X ⟨l,0,O⟩) d d] 32))):=by
   show aB _ _ _ _ _ _ _;rw[TL.o];exact((((aB.of OW.o).dn TZ.o).setH H3.o).blw (aY)).up (by simp[World.setCell])
  have N:ah (B<=((w3.setCell ⟨sb,1,O⟩ (Y (X ⟨l,0,O⟩) d d)).alloc (iC #[I J v,Y (X ⟨l,0,O⟩) d d] 32)).heap.size):=bR E.o B4.o.size;clear ow K;go_wp2_with (at_builtin;refine cN _ rfl _ _ 24 rfl B 32 j0 (iA #[I J 0,Y O 0 0]) 2 32 Tryz.underlying24 J0.o X0.o X1.o X2.o rfl (by decide) _ n (bi cs) rfl (au.o _ B4.o) ⟨w3.heap.size,0,O⟩ 1 1 [I J v,Y (X ⟨l,0,O⟩) d d] rfl rfl (vy _ _ _ _ (by simp[World.setCell])) (rY _ _ _ _) (by unfold maxLen;omega) (by omega) N.o ?_)
  intro u5 w5 o5 g5 _;obtain⟨ua,uc,hu,aw⟩:=(aB.of o5).form;obtain⟨g,hg,-,-⟩:=aw (by omega)
  subst hg hu;have SN:ah (ci w5 B (Y (X ⟨g,0,O⟩) (n+1) uc) (cs++[(v,Y (X ⟨l,0,O⟩) d d,C)])):=ci.snoc (W0:=w) (r:=(v,Y (X ⟨l,0,O⟩) d d,C)) HO.o B4.o E.o QS.o (by show C.length<=_;rw[TL.o];unfold maxLen;omega) g5 (by rw[aT,y.o,<-tZ];exact o5)
  have B5:ah (iL B w w5/\B<=w5.heap.size):=⟨(B4.o.mono E.o).grown g5 N.o (λq hq=>((au.o _ B4.o).lt q hq).1),bR N.o g5.size⟩
  have AC:cs.Pairwise (λa b:Hw=>a.1<b.1):=by
   have:=HA.o;unfold hY at this;rw[<-i.o]at this;exact(qi (f:=aW) (R:=λa b:Sh=>a.vol<b.vol)).1 this
  have CS:=af (TX B g (n+1) uc cs (v,Y (X ⟨l,0,O⟩) d d,C) w5 (by omega) (by rw[y.o]) AC ⟨by have:=SN.o.1;rw[aT,y.o]at this;exact this,rK _ _,SN.o.slv⟩)
  clear o5 g5 aw xq xp fq OW QS B4 N B3 H3;go_wp2_with fail;refine CS.o.mono ?_;rintro e w6 ⟨rfl,U,V,eL,hu,ax,s6⟩;have F1:=af (YS SN.o eL s6 (by rw[y.o]))
  have F2:ah ((U++(v,Y (X ⟨l,0,O⟩) d d,C)::V).map aW=eS M ⟨v,C⟩):=by
   show _=_;have hm:M=U.map aW++V.map aW:=by rw[<-i.o,eL,dB]
   rw[dB,cD,hm];refine(Qk (λu Z=>?_) (λu Z=>?_)).symm
   ·obtain⟨r,L,rfl⟩:=bF.1 Z;have h1:=hu r L;have h2:=KU HV.o (aW r) (by rw[hm];exact rj _ Z)
    simp only[aW]at h1 h2⊢;omega
   ·obtain⟨r,L,rfl⟩:=bF.1 Z;exact ax r L
  have F3:ah (iL B w w6):=B5.o.1.grown s6.2.1 B5.o.2 (λq hq=>by cases hq;exact(fQ SN.o.1 g rfl).1)
  clear AC CS SN B5 eL hu ax s6;go_wp2;go_ret;exact⟨_,_,rfl,F1.o,F2.o.trans aG.o.symm,F3.o⟩
theorem Iu(a:Option Addr)(n c:Nat)(rs:List Hw)(k v s o:Int)(t:ByteArray)(w:iW)(hn:n<=18)(am:∀r∈rs,r.2.2.length<=1048576)(hs:∀r∈rs,∀t∈r.2.2,t.size<=281474976710656)(ht:t.size<=281474976710656)(ha:hY (rs.map aW))(h:dN w a n rs):
 iK Tryz.prog 6 #[Y a n c,iA #[I J k,I J v,I J s,I J o,iT t]] w (sH w (fG (rs.map aW) ⟨k,v,s,o,t⟩)):=by
 have bA:=aO w (iC #[I J k,I J v,I J s,I J o,iT t] 26);have gA:bH (w.alloc (iC #[I J k,I J v,I J s,I J o,iT t] 26)) w.heap.size ⟨k,v,s,o,t⟩:=az w _;obtain⟨wa,aB⟩:=an (w.alloc (iC #[I J k,I J v,I J s,I J o,iT t] 26));rw[aB]at bA gA;have HN:=af h.1;have CC:=af (MT a n c rs wa (h.below bA) (by omega) am hs)
 obtain⟨M,hM⟩:=an (rs.map aW);have HM:=af hM;have ap:ah (∀x∈M,x.texts.length<=1048576/\∀t∈x.texts,t.size<=281474976710656):=λx hx=>by
  rw[<-hM]at hx;obtain⟨r,l,rfl⟩:=bF.1 hx;exact⟨am r l,hs r l⟩
 have aq:ah (M.length=n):=by show _=_;rw[<-hM,aS];exact h.1
 rw[hM]at CC ha;rw[hM];have HA:=af ha;have HT:=af ht;obtain⟨K,hK⟩:=an (bM M v);have ad:=af hK;have aD:ah (K= -1∨(0<=K/\K.toNat<M.length)):=by show _∨_;rw[<-hK];exact rX M v
 obtain⟨R,hR⟩:=an (fG M ⟨k,v,s,o,t⟩);have HR:=af hR;rw[hR];obtain⟨z,hz⟩:=an (iO ⟨k,v,s,o,t⟩);have HZ:=af hz;have CK:=af (λW=>VM ⟨k,v,s,o,t⟩ W)
 unfold dU at CK;simp only[hz]at CK;have HB:=af bA;have HG:=af gA;clear hM hK hR hz h am hs ha ht bA gA;go_enter Tryz.func6,Tryz.ntmps6;go_wp2_with fail;clear aB;refine CC.o.mono ?_;rintro e w1 ⟨⟨D,rfl⟩,cv,cs,H,o1,t1,b1⟩;injection H with H
 subst H;have ar:cs.length=n:=by have:=congrArg List.length t1;rw[aS,aq.o]at this;exact this
 have G1:=af (HG.o.below b1);have D1:=af (HB.o.trans (b1.mono HB.o.size));have O1:=af o1;have Q:=af t1;have E:=af ar;have HW:ah (w.heap.size<=wa.heap.size/\wa.heap.size<=w1.heap.size):=⟨HB.o.size,b1.size⟩;obtain⟨y0,y1,S,y3,T⟩:=G1.o.cells;simp only at y0 y1 S y3 T;clear CC o1 t1 b1 ar HG;go_wp2_with fail;refine(CK.o w1).mono ?_;rintro e w2 ⟨rfl,b2⟩;have G2:=af (G1.o.below b2);have D2:=af (D1.o.trans (b2.mono D1.o.size));have O2:=af (O1.o.below b2);have ae:ah (w.heap.size<=wa.heap.size/\wa.heap.size<=w2.heap.size):=⟨HW.o.1,bR HW.o.2 b2.size⟩;clear y0 y1 S y3 T b2 G1 D1 O1 CK HW;obtain⟨y0,y1,S,y3,T⟩:=G2.o.cells;simp only at y0 y1 S y3 T;cases z with
 |false=>
  have F:ah (R=M):=by show _=_;rw[<-HR.o];unfold fG;rw[aj HZ.o]
  clear y0 y1 S y3 T;go_wp2;go_ret;exact⟨_,cs,rfl,O2.o.down HB.o.size,by rw[F.o];exact Q.o,D2.o⟩
 |true=>
  have f:ah (R=if k=3 then(if K<0 then eS M ⟨v,List.replicate 16 aK⟩else M)else if k=4 then(if K<0/\0<=bM M o then eS M ⟨v,iR M (bM M o)⟩else M)else if k=5 then(if 0<=K then M.take K.toNat++M.drop (K.toNat+1)else M)else if k=6 then M else(if 0<=K/\s<(iR M K).length then jO M K.toNat s.toNat t else M)):=by
   show _=_;rw[<-HR.o];unfold fG;rw[ai (by rw[HZ.o];decide)]
   simp only[ad.o]
  obtain⟨k1,k2,k3⟩:=J2 HZ.o;simp only at k1 k2 k3;have RD:=af (O2.o.fK.rd E.o (ak _));have CV:=af (Cy (X ⟨D,0,O⟩) n n cs v w2 RD.o (by omega))
  rw[Q.o,ad.o]at CV;clear HR HZ;go_wp2_with fail;refine CV.o.mono ?_;rintro e A ⟨rfl,b3⟩;have G3:=af (G2.o.below b3);have D3:=af (D2.o.trans (b3.mono D2.o.size));have C:=af (O2.o.below b3);have d:ah (w.heap.size<=wa.heap.size/\wa.heap.size<=A.heap.size):=⟨ae.o.1,bR ae.o.2 b3.size⟩;clear y0 y1 S y3 T b3 G2 D2 O2 CV RD ae;obtain⟨y0,y1,S,y3,T⟩:=G3.o.cells;simp only at y0 y1 S y3 T;by_cases ag:K<0
  ·have F:ah (R=nk M k v o):=by
    show _=_;rw[f.o];unfold nk;by_cases c3:k=3
    ·rw[aj c3,aj c3,aj ag]
    ·rw[ai c3,ai c3];by_cases c4:k=4
     ·rw[aj c4];by_cases c5:0<=bM M o
      ·rw[aj ⟨ag,c5⟩,aj ⟨c4,c5⟩]
      ·rw[ai (λe=>c5 e.2),ai (λe=>c5 e.2)]
     ·have e4:¬(k=4/\0<=bM M o):=λe=>c4 e.1
      rw[ai c4,ai e4];by_cases c5:k=5
      ·rw[aj c5,ai (by omega)]
      ·rw[ai c5];by_cases c6:k=6
       ·rw[aj c6]
       ·have e6:¬(0<=K/\s<((iR M K).length:Int)):=λe=>by have:=e.1;omega
        rw[ai c6,ai e6]
   have CN:=af (Mt wa.heap.size n n (X ⟨D,0,O⟩) cs M k v s o t A d.o.2 C.o Q.o hn E.o HA.o (by rw[ad.o];exact ag) (λr l=>(ap.o (aW r) (by rw[<-Q.o];exact bF.2 ⟨r,l,rfl⟩)).1) (λr l=>(ap.o (aW r) (by rw[<-Q.o];exact bF.2 ⟨r,l,rfl⟩)).2))
   clear f;go_wp2_with fail;refine CN.o.mono ?_;rintro e w4 ⟨u,ss,rfl,Z,t4,b4⟩;have SN:ah (ci w4 w.heap.size u ss):=Z.down d.o.1;have TN:ah (ss.map aW=R):=t4.trans F.o.symm;have BN:=af (D3.o.trans (b4.mono d.o.1));clear Z t4 b4 CN F C;go_wp2;go_ret;exact⟨_,ss,rfl,SN.o,TN.o,BN.o⟩
  ·obtain⟨j,rfl⟩:∃j:Nat,K=j:=⟨K.toNat,by omega⟩
   have aP:j<M.length:=by rcases aD.o with e|e<;>omega
   have aG:j<n:=by have:=aq.o;omega
   obtain⟨r,l⟩:∃r,cs[j]?=X r:=⟨_,ay (by have:=E.o;omega)⟩
   have aA:(0:Int)<=j:=by omega
   have aN:(j:Int)<n:=by omega
   have V:M[j]?=X ⟨r.1,r.2.2⟩:=by rw[<-Q.o,bk,l];rfl
   rcases(show(k=1∨k=2)∨k=5∨(k=3∨k=4∨k=6)by omega)with hk|hk|hk
   ·obtain⟨s0,aM⟩:=k3 hk;have L:ah (R=if s<(r.2.2.length:Int)then M.set j ⟨r.1,r.2.2.set s.toNat t⟩else M):=by
     show _=_;rw[f.o,ai (by omega),ai (by omega),ai (by omega),ai (by omega)]
     unfold iR jO;rw[aZ,V];simp only[aA,tY]
    obtain⟨i,rfl⟩:∃i:Nat,s=i:=⟨s.toNat,by omega⟩
    rw[aZ]at L;obtain⟨N,aL⟩:=C.o.2.1 r (aH l);obtain⟨c0,c1⟩:=(C.o.fK.rd E.o (ak _)).cell l;rw[dK]at c0 c1;obtain⟨ga,gc,P,av⟩:=N.form;rw[P]at c1;obtain⟨m,hm⟩:=an r.2.2.length;rw[hm]at c1 L;have aE:=af l;obtain⟨x0,aC⟩:=an r.1;rw[aC]at c0;have U:ah (A.drew.cell? ⟨D,j*2,O⟩=X (I J x0)/\A.drew.cell? ⟨D,j*2+1,O⟩=X (Y ga m gc)/\A.drew.cell? ⟨w.heap.size,2,O⟩=X (I J i)/\A.drew.cell? ⟨w.heap.size,4,O⟩=X (iT t)):=⟨c0,c1,S,T⟩;have bq:iL A.heap.size A A.drew:=(ax _ _).drew;have CP:ah (iK Tryz.prog 18 #[iA #[I J x0,Y ga m gc],I J i,iT t] A.drew λe w'=>e=G (iU #[])/\(w'.cell? ⟨D,j*2,O⟩=X (I J x0)/\w'.cell? ⟨D,j*2+1,O⟩=X (Y ga m gc)/\w'.cell? ⟨w.heap.size,2,O⟩=X (I J i)/\w'.cell? ⟨w.heap.size,4,O⟩=X (iT t))/\∃ss,ci w' wa.heap.size (Y (X ⟨D,0,O⟩) n n) ss/\ss.map aW=R/\iL wa.heap.size A w'):=by
     by_cases aw:i<m
     ·have F:R=M.set j ⟨r.1,r.2.2.set i t⟩:=by rw[L.o,aj (by omega)]
      obtain⟨g,rfl,g1,g2⟩:=av (by omega)
      obtain⟨-,-,gs,g3⟩:=N.lt g (by rw[P];rfl)
      obtain⟨q,hq⟩:∃q,r.2.2[i]?=X q:=⟨_,ay (by omega)⟩
      rw[P]at N;have aF:A.drew.cell? ⟨g,i,O⟩=X (iT q):=by
       have:=N.flt.cell (xB hq)
       simpa using this
      refine(Oe x0 i m gc g gs t _ A.drew aw HT.o g3 aF).mono ?_;rintro e w' ⟨rfl,w0,b0,rfl⟩;have aa:g≠D:=λe=>by
       obtain⟨-,-,qs,aJ⟩:=fQ C.o.1 D rfl;rw[e]at g3;exact CQ g3 aJ
      have ab:g≠w.heap.size:=λe=>by
       rw[e,G3.o]at g3;injection g3 with g3
       injection g3 with _ g3
       exact absurd g3 (by decide)
      have H:∀(y o:Nat) (u:iX),g≠y->A.drew.cell? ⟨y,o,O⟩=X u->(w0.setCell ⟨g,i,O⟩ (iT t)).cell? ⟨y,o,O⟩=X u:=λy o u hy hu=>by
       rw[gP (h:=λe=>hy (by have:=congrArg Addr.block e;simp at this;omega))]
       exact(b0.cell (bh _ _ hu)).trans hu
      refine⟨rfl,⟨H _ _ _ aa U.o.1,H _ _ _ aa U.o.2.1,H _ _ _ ab U.o.2.2.1,H _ _ _ ab U.o.2.2.2⟩,_,((C.o.below bq).below b0).setT l (by rw[P]) i t,by rw[AZ,Q.o,F],?_⟩
      exact((bq.trans b0).mono d.o.2).setCell (p:=⟨g,i,O⟩) g1 (iT t)
     ·have F:R=M:=by rw[L.o,ai (by omega)]
      refine(NH x0 i m gc ga t A.drew aw).mono ?_;rintro e w' ⟨rfl,b0⟩;have H:∀(y o:Nat) (u:iX),A.drew.cell? ⟨y,o,O⟩=X u->w'.cell? ⟨y,o,O⟩=X u:=λy o u hu=>(b0.cell (bh _ _ hu)).trans hu
      exact⟨rfl,⟨H _ _ _ U.o.1,H _ _ _ U.o.2.1,H _ _ _ U.o.2.2.1,H _ _ _ U.o.2.2.2⟩,cs,(C.o.below bq).below b0,by rw[Q.o,F],(bq.trans b0).mono d.o.2⟩
    clear f L l V N aL P av bq hm aC c0 c1 y1 S y3 T k1 k2 k3 s0 aM aE;rcases hk with rfl|rfl
    all_goals
     go_upto_region 10 with fail
     refine kJ (λw'=>w'.cell? ⟨D,j*2,O⟩=X (I J x0)/\w'.cell? ⟨D,j*2+1,O⟩=X (Y ga m gc)/\w'.cell? ⟨w.heap.size,2,O⟩=X (I J i)/\w'.cell? ⟨w.heap.size,4,O⟩=X (iT t)) (by kernel_rfl) U.o (λhHeld=>?_)
     simp only[aR,cU,Nat.reduceAdd];refine au 0 ?_;refine au 1 ?_;refine au 2 ?_;refine au 3 ?_;refine au 4 ?_;refine au 5 ?_;refine au 6 ?_;refine au 7 ?_;refine ch 8 rfl (by kernel_rfl) (λK hK=>?_)
     go_simp;refine CP.o.mono ?_;rintro e w4 ⟨rfl,kd,ss,Z,t4,b4⟩;refine hK.out _ _ kd (λhHeld2=>?_)
     clear hK K hHeld hHeld2 kd
     (try simp only[Act.put,bJ,bE,bp])
     refine jx (by kernel_rfl) ?_
     have SN:ah (ci w4 w.heap.size (Y (X ⟨D,0,O⟩) n n) ss):=Z.down d.o.1;have TN:=af t4;have BN:=af (D3.o.trans (b4.mono d.o.1));clear Z t4 b4 CP C;go_wp2;go_ret;exact⟨_,ss,rfl,SN.o,TN.o,BN.o⟩
   ·subst hk;have F:ah (R=M.take j++M.drop (j+1)):=by
     show _=_;rw[f.o,ai (by decide),ai (by decide),aj rfl,aj aA,aZ]
    obtain⟨m,hm⟩:∃m,m+1=n:=⟨n-1,by omega⟩
    obtain⟨j1,al⟩:=an (j+1);have ao:=af al;have CD:=af (Oy wa.heap.size D n m j j1 cs A (C.o.fK.rd E.o (ak _)) (by omega) aG al hm (by have:=C.o.1;rw[E.o]at this;exact this))
    have aI:(j:Int)+1=j1:=by omega
    clear f l V al hm k1 k2 k3;go_wp2_with fail;try rw[aI]
    refine CD.o.mono ?_;rintro e w4 ⟨rfl,Z,g4⟩;have SN:ah (ci w4 w.heap.size (Y (X ⟨D,0,O⟩) m n) (cs.take j++cs.drop j1)):=by
     have hl:(cs.take j++cs.drop j1).length=m:=by have:=Z.1;rw[kC]at this;omega
     have ac:(cs.take j++cs.drop j1).Sublist cs:=by
      conv=>rhs;rw[<-jP j cs]
      exact List.Sublist.append (List.Sublist.refl _) (by rw[<-ao.o,<-qo];exact List.drop_sublist _ _)
     obtain⟨-,-,qs,hq⟩:=fQ C.o.1 D rfl;refine ci.down (B:=wa.heap.size) ⟨by rw[hl];exact Z,λr l=>?_,zY ac C.o.2.2⟩ d.o.1
     obtain⟨h1,h2⟩:=C.o.2.1 r (ac.subset l);exact⟨(h1.grown g4 (λb hb e2=>by cases e2;exact DI h1 hq hb)).up g4.size,h2⟩
    have TN:ah ((cs.take j++cs.drop j1).map aW=R):=by
     show _=_;rw[F.o,dB,AP,zE,Q.o,ao.o]
    have BN:ah (iL w.heap.size w w4):=D3.o.grown g4 (by have:=D3.o.size;exact this) (λq hq=>by cases hq;have:=(fQ C.o.1 D rfl).1;have:=d.o.1;omega)
    clear Z g4 CD C F;go_wp2;go_ret;exact⟨_,_,rfl,SN.o,TN.o,BN.o⟩
   ·have F:ah (R=M):=by
     show _=_;rw[f.o];rcases hk with rfl|rfl|rfl
     ·rw[aj rfl,ai (by omega)]
     ·rw[ai (by decide),aj rfl,ai (by omega)]
     ·rw[ai (by decide),ai (by decide),ai (by decide),aj rfl]
    clear f l V k1 k2 k3;rcases hk with rfl|rfl|rfl
    all_goals
     go_wp2;go_ret;exact⟨_,cs,rfl,C.o.down d.o.1,by rw[F.o];exact Q.o,D3.o⟩
theorem JU(ad:Option Addr)(a cap:Nat)(w:iW):
 iK Tryz.prog 4 #[Y ad a cap] w λe w'=>e=G (iB (decide ((1048576:Int)<a)))/\w'=w:=by
 by_cases h:(1048576:Int)<a;all_goals
  go_enter Tryz.func4,Tryz.ntmps4;go_wp2;go_ret;exact⟨by simp[h],rfl⟩
open Sums
theorem Fw(w:iW)(a b:Nat):(w.drewN a).drewN b=w.drewN (a+b):=PM w a b
theorem Ik(a b:Option Addr)(n c d:Nat)(ls:List ByteArray)(w:iW)(f:mY w a n ls)(j:mY w b n ls):
 iK Tryz.prog 8 #[Y a n c,Y b n d] w λe w'=>e=G (iB iV)/\∃q,w'=w.drewN q:=by
 have m:=af f;have p:=af j;have l:=af f.1;have u:=f.2.1;unfold maxLen at u;clear f j;have v:((n:Int) !=n)=iF:=by simp
 go_enter Tryz.func8,Tryz.ntmps8;go_wp2;go_loopw [5] (λh wr=>∃k:Nat,k<=n/\h=I J k/\ah (∃q,wr=w.drewN q)) (λh _=>n-(intOf h).toNat)
 case atStart=>exact⟨0,aI _,rfl,⟨0,rfl⟩⟩
 case round=>
  obtain⟨k,C,rfl,i⟩:=hrel;obtain⟨q,y⟩:=i.o;subst y;clear i;by_cases t:(k:Int)<n
  ·obtain⟨x,g⟩:∃x,ls[k]?=X x:=⟨_,ay (by have:=l.o;omega)⟩
   obtain⟨z,E,r,-,c1⟩:=m.o.at g;obtain⟨A,F,s,-,c2⟩:=p.o.at g;subst r s;have D:(0:Int)<=k:=by omega
   have B:=NP (rfl:x=x);clear g;go_wp2;go_quiet (fail);go_wp2;go_roundw
   case rel=>exact⟨k+1,by omega,by go_num,⟨_,rfl⟩⟩
   case measure=>simp[intOf];omega
  ·go_wp2;go_ret;exact⟨rfl,_,rfl⟩
theorem rx{a bs:List Hw}{R:List Sh}(f:a.map aW=R)(g:bs.map aW=R)(c:k<R.length):∃x u u' ls,a[k]?=X (x,u,ls)/\bs[k]?=X (x,u',ls)/\R[k]?=X ⟨x,ls⟩:=by
 have h:k<a.length:=by rw[<-f,aS]at c;exact c
 have lb:k<bs.length:=by rw[<-g,aS]at c;exact c
 obtain⟨⟨x,u,ls⟩,h1⟩:∃r,a[k]?=X r:=⟨_,ay h⟩;obtain⟨⟨y,u',i⟩,e⟩:∃r,bs[k]?=X r:=⟨_,ay lb⟩;have d:R[k]?=X ⟨x,ls⟩:=by rw[<-f,bk,h1];rfl
 have b:R[k]?=X ⟨y,i⟩:=by rw[<-g,bk,e];rfl
 rw[d]at b;injection b with b
 injection b with e3 e4
 subst e3 e4;exact⟨x,u,u',ls,h1,e,d⟩
theorem Lc(h:oL n (rs.map aW)):(∀r∈rs,r.2.2.length<=1048576)/\∀r∈rs,∀t∈r.2.2,t.size<=281474976710656:=by
 refine⟨λr a=>?_,λr a t b=>?_⟩
 ·have:=(h.2 (aW r) (bF.2 ⟨r,a,rfl⟩)).1;have:r.2.2.length<=16:=this;omega
 ·have:=(h.2 (aW r) (bF.2 ⟨r,a,rfl⟩)).2 t b;omega
theorem TH(ad:Option Addr)(d cap:Nat)(w:iW)(hd:gQ w ad d w.heap.size):
 iK Tryz.prog 3 #[Y ad d cap] w λe w'=>e=G (iB iV)/\iL w.heap.size w w':=by
 have HD:=af hd;clear hd;by_cases h:(1048576:Int)<d
 ·go_enter Tryz.func3,Tryz.ntmps3;go_wp2_with fail;refine(JU ad d cap _).mono ?_;rintro e w1 ⟨rfl,rfl⟩;rw[aQ h];go_wp2;go_ret;exact⟨rfl,ax _ _⟩
 ·have aB:d<=1048576:=by omega
  have ai:decide ((1048576:Int)<d)=iF:=aV h;clear h;go_enter Tryz.func3,Tryz.ntmps3;go_wp2_with fail;refine(JU ad d cap _).mono ?_;rintro e w0 ⟨rfl,aE⟩;subst aE;rw[ai];clear ai;go_wp2_with fail;refine(YM ad d cap _ aB HD.o).mono ?_;rintro e w1 ⟨a,n,c,rs,q,rfl,x1,ap,F,ok,V,b1⟩;obtain⟨k,v,s,o,t⟩:=q;unfold dU;simp only at V⊢;have b2:=aO w1 (iC #[I J k,I J v,I J s,I J o,iT t] 26);have g2:bH (w1.alloc (iC #[I J k,I J v,I J s,I J o,iT t] 26)) w1.heap.size ⟨k,v,s,o,t⟩:=az _ _;have X2:=af (x1.below b2);have B2:=af (b1.trans (b2.mono b1.size));have HN:=af x1.1;obtain⟨M,S⟩:=an (rs.map aW);obtain⟨R,hR⟩:=an (fG M ⟨k,v,s,o,t⟩);obtain⟨au,y,av⟩:=ok;rw[S]at y;have SM:oL 3 M:=⟨by rw[<-S,aS];exact au,λs hs=>by rw[<-S]at hs;obtain⟨r,hr,rfl⟩:=bF.1 hs;exact av r hr⟩
  have SR:oL 4 R:=by rw[<-hR];exact Oq SM V
  have AR:hY R:=by rw[<-hR];exact Qr _ y
  have TW:fG R ⟨k,v,s,o,t⟩=R:=by rw[<-hR];exact Yl _ y
  obtain⟨w2,aq⟩:=an (w1.alloc (iC #[I J k,I J v,I J s,I J o,iT t] 26));rw[aq]at g2 X2 B2;have n3:n<=3:=by have:=x1.1;omega
  obtain⟨rl,rt⟩:=Lc (by rw[S];exact SM)
  have Q:=af (Iu a n c rs k v s o t w2 (by omega) rl rt (by omega) (by rw[S];exact y) X2.o)
  have CS:=af (λW (b:iL w2.heap.size w2 W)=>QC a n c rs k v s o t W (by omega) ap F rl (X2.o.below b))
  simp only[S,hR]at Q CS;have ag:=af SR;have ae:=af AR;have aA:=af TW;have HT:ah (t.size<=281474976710656):=by show _<=_;omega
  have G2:=af g2;obtain⟨K,L,N,O,P⟩:=g2.cells;simp only at K L N O P;clear au y av SM SR AR TW rl rt V b1 b2 g2 x1 S hR HD ap F n3;have ay:=af X2.o.1;go_wp2_with fail;clear aq K L N O P;refine Q.o.mono ?_;rintro e w3 ⟨uv,al,rfl,o3,t3,b3⟩;obtain⟨aa,ac,e3⟩:=o3.form;have D:al.length=R.length:=by rw[<-t3,aS]
  obtain⟨m,hm⟩:=an R.length;rw[hm]at D;rw[D]at e3;subst e3;have A3:=af (o3.fK.rd D (ak _));have Z:=af t3;have HM:=af hm;have aG:m<=4:=by have:=ag.o.1;omega
  have B3:=af (B2.o.trans (b3.mono B2.o.size));have ab:=af (CS.o w3 b3);have G3:=af (G2.o.below b3);obtain⟨K,L,N,O,P⟩:=G3.o.cells;simp only at K L N O P;clear Q CS o3 t3 b3 hm D G2 B2 X2 ay;go_wp2_with fail;clear K L N O P;refine ab.o.mono ?_;rintro e H ⟨vv,bs,rfl,o4,t4,b4⟩;obtain⟨ba,bc,e4⟩:=o4.form;have T:bs.length=m:=by rw[<-HM.o,<-t4,aS]
  rw[T]at e4;subst e4;have A4:=af (A3.o.below b4);have Q4:=af (o4.fK.rd T (ak _));have TB:=af t4;have B4:=af (B3.o.trans (b4.mono B3.o.size));have G4:=af (G3.o.below b4);have aC:((m:Int) !=m)=iF:=by simp
  clear ab o4 t4 b4 T A3 B3 G3;go_wp2;go_loopw [7] (λX wr=>∃k:Nat,k<=m/\X=I J k/\ah (∃q,wr=H.drewN q)) (λX _=>m-(intOf X).toNat)
  case atStart=>exact⟨0,aI _,rfl,⟨0,rfl⟩⟩
  case round=>
   rename iW=>wr
   obtain⟨i,hi,rfl,HQ⟩:=hrel;obtain⟨q,V⟩:=HQ.o;subst V;clear HQ;have bq:iL H.heap.size H (H.drewN q):=bI (ax _ _) _;by_cases am:(i:Int)<m
   ·obtain⟨x,u,u',ls,h1,E,h3⟩:=rx Z.o TB.o (k:=i) (by have:=HM.o;omega)
    obtain⟨ga,oa,ea,-,c0,c1⟩:=A4.o.at h1;obtain⟨gb,ob,eb,-,d0,d1⟩:=Q4.o.at E;obtain⟨za,zc,eu,-,B⟩:=A4.o.2.2.1 _ (aH h1);obtain⟨ya,yc,g,-,A⟩:=Q4.o.2.2.1 _ (aH E);simp only at c0 c1 d0 d1 eu g B A;subst ea eb eu g;have aL:(x !=x)=iF:=by simp
    have i0:(0:Int)<=i:=by omega
    obtain⟨l,hl⟩:=an ls.length;rw[hl]at c1 d1 B A;have C:ah (∀r,iK Tryz.prog 8 #[Y za l zc,Y ya l yc] (H.drewN (q+r)) λe w'=>e=G (iB iV)/\∃m,w'=H.drewN (q+m)):=by
     intro r;refine(Ik za ya l zc yc ls (H.drewN (q+r)) (B.below (bI (ax _ _) _)) (A.below (bI (ax _ _) _))).mono ?_;rintro e w' ⟨rfl,p,rfl⟩;exact⟨rfl,r+p,by rw[Fw,kH]⟩
    by_cases aj:i=0
    ·have e0:decide ((i:Int)>0)=iF:=aV (by omega)
     have e1:decide ((0:Int)<i)=iF:=aV (by omega)
     have e2:decide (0<i)=iF:=aV (by omega)
     clear h1 E h3 hl B A bq aj;go_wp2;go_quiet ((go_at_call 8;exact C.o _));go_wp2;go_roundw
     case rel=>exact⟨i+1,by omega,by go_num,⟨_,rfl⟩⟩
     case measure=>simp[intOf];omega
    ·obtain⟨j,hj⟩:∃j,i=j+1:=⟨i-1,by omega⟩
     obtain⟨z,v,v',ms,f1,-,f3⟩:=rx Z.o TB.o (k:=j) (by have:=HM.o;omega)
     obtain⟨gc,oc,ec,-,f0,-⟩:=A4.o.at f1;injection ec with ec
     injection ec with ec1 ec2
     subst ec1 ec2;simp only at f0;have ao:z<x:=by
      obtain⟨j1,j2⟩:=aD.1 f3;obtain⟨k1,k2⟩:=aD.1 h3;have:=mJ.1 ae.o j i j1 k1 (by omega)
      rw[j2,k2]at this;exact this
     have e0:decide ((i:Int)>0)=iV:=aQ (by omega)
     have e1:decide ((0:Int)<i)=iV:=aQ (by omega)
     have e2:decide (0<i)=iV:=aQ (by omega)
     have g0:decide (z≥x)=iF:=aV (by omega)
     have g1:decide (x<=z)=iF:=aV (by omega)
     have aK:IntKind.i64.wrap ((i:Int)-1)=j:=by rw[cL];omega
     have aF:(i:Int)-1=j:=by omega
     have j0:(0:Int)<=j:=by omega
     have jm:(j:Int)<m:=by omega
     clear h1 E h3 f1 f3 hl B A bq aj hj ao;go_wp2;go_quiet ((go_at_call 8;exact C.o _));go_wp2;go_roundw
     case rel=>exact⟨i+1,by omega,by go_num,⟨_,rfl⟩⟩
     case measure=>simp[intOf];omega
   ·have f:=af bq;obtain⟨w5,ar⟩:=an (H.drewN q);rw[ar]at f;have B5:=af (B4.o.trans (f.o.mono B4.o.size));have A5:=af (A4.o.below f.o);have G5:=af (G4.o.below f.o);obtain⟨K,L,N,O,P⟩:=G5.o.cells;simp only at K L N O P;obtain⟨sl,st⟩:=Lc (rs:=al) (by rw[Z.o];exact ag.o)
    have Q:=af (Iu aa m ac al k v s o t w5 (by omega) sl st HT.o (by rw[Z.o];exact ae.o) A5.o)
    rw[Z.o,aA.o]at Q;clear A4 G4 B4 bq f Q4 TB sl st;go_wp2_with fail;clear ar K L N O P aC;refine Q.o.mono ?_;rintro e w6 ⟨cv,cl,rfl,o6,t6,b6⟩;obtain⟨ca,cc,e6⟩:=o6.form;have U:cl.length=m:=by rw[<-HM.o,<-t6,aS]
    rw[U]at e6;subst e6;have A6:=af (A5.o.below b6);have Q6:=af (o6.fK.rd U (ak _));have TC:=af t6;have B6:=af (B5.o.trans (b6.mono B5.o.size));have aJ:((m:Int)==m)=iV:=by simp
    clear Q o6 t6 b6 U A5 B5 G5 am hi;go_wp2;go_loopw [9] (λX wr=>∃k:Nat,k<=m/\X=I J k/\ah (∃q,wr=w6.drewN q)) (λX _=>m-(intOf X).toNat)
    case atStart=>exact⟨0,aI _,rfl,⟨0,rfl⟩⟩
    case round=>
     rename iW=>wr
     obtain⟨i,hi,rfl,HQ⟩:=hrel;obtain⟨q,V⟩:=HQ.o;subst V;clear HQ;by_cases am:(i:Int)<m
     ·obtain⟨x,u,u',ls,h1,E,-⟩:=rx TC.o Z.o (k:=i) (by have:=HM.o;omega)
      obtain⟨ga,oa,ea,-,-,c1⟩:=Q6.o.at h1;obtain⟨gb,ob,eb,-,-,d1⟩:=A6.o.at E;obtain⟨za,zc,eu,-,B⟩:=Q6.o.2.2.1 _ (aH h1);obtain⟨ya,yc,g,-,A⟩:=A6.o.2.2.1 _ (aH E);simp only at c1 d1 eu g B A;subst ea eb eu g;have i0:(0:Int)<=i:=by omega
      obtain⟨l,hl⟩:=an ls.length;rw[hl]at c1 d1 B A;have C:ah (∀r,iK Tryz.prog 8 #[Y za l zc,Y ya l yc] (w6.drewN (q+r)) λe w'=>e=G (iB iV)/\∃m,w'=w6.drewN (q+m)):=by
       intro r;refine(Ik za ya l zc yc ls (w6.drewN (q+r)) (B.below (bI (ax _ _) _)) (A.below (bI (ax _ _) _))).mono ?_;rintro e w' ⟨rfl,p,rfl⟩;exact⟨rfl,r+p,by rw[Fw,kH]⟩
      clear h1 E hl B A;go_wp2;go_quiet ((go_at_call 8;exact C.o _));go_wp2;go_roundw
      case rel=>exact⟨i+1,by omega,by go_num,⟨_,rfl⟩⟩
      case measure=>simp[intOf];omega
     ·have aw:ah (iL w0.heap.size w0 (w6.drewN q)):=bI B6.o _;go_wp2;go_ret;exact⟨rfl,aw.o⟩
/-- A row of bytes that came in: nil, or cells that hold them. -/
def PB(w:iW)(a:Option Addr)(len cap:Nat)(zs:List Int):Prop:=
 (a=O/\len=0/\cap=0/\zs=[])∨
 ∃x,a=X x/\len<=cap/\cap<=maxLen/\zs.length=cap/\(∀i,i<zs.length->w.cell? (x.add i)=X (I .u8 (zs.getD i 0)))/\∀n∈zs,(Lit.int .u8 n).wf=iV
theorem Rz(b a j:Nat):(⟨b,a,O⟩:Addr).add j=⟨b,a+j,O⟩:=by
 simp only[Addr.add];split<;>simp_all
theorem Wc{w:iW}{a:Option Addr}{e:Nat}{d:List Int}(h:PB w a e cap d):gQ w a e w.heap.size:=by
 intro j o;rcases h with⟨_,l,_⟩|⟨x,rfl,l,_,h4,k,m⟩
 ·omega
 ·obtain⟨b,i,f⟩:=x;have g:=k j (by omega)
  have c:f=O:=by simpa[Addr.add]using World.cell?_spot (k 0 (by omega))
  subst c;rw[Rz]at g;have n:d.getD j 0∈d:=by
   rw[om,ay (by omega)]
   exact qy _
  have p:0<=d.getD j 0/\d.getD j 0<=255:=by simpa[Lit.wf,IntKind.min,IntKind.max,IntKind.signed,IntKind.bits]using m _ n
  refine⟨b,i,rfl,bh w _ g,(d.getD j 0).toNat,by omega,?_⟩
  rw[g];congr 2;omega
open Go.ChangeShapes
theorem OQ {enc:TypeId×iX->H} {t:TypeId} {k:IntKind} (i:P.underlying t=X (.array n e)) (g:P.underlying e=X (I k))
 (V d:iW) (b f:Nat) (sp c:Nat->Bool) (a:Bool) (fuel:Nat) (cs:List iX):
 DataW.trod enc P V b sp a fuel t cs=DataW.trod enc P d f c a fuel t cs:=by
 cases fuel with
 |zero=>rfl
 |succ fuel=>
  have h:∀x:List iX,DataW.trod enc P V b sp a fuel e x=DataW.trod enc P d f c a fuel e x:=by
   intro x;cases fuel with
   |zero=>rfl
   |succ fuel=>
    simp only[DataW.trod,g];rcases x with _|⟨v,_|⟨v2,r⟩⟩
    ·rfl
    ·cases v<;>rfl
    ·cases v<;>rfl
  simp only[DataW.trod,i,h]
theorem Lb{enc:TypeId×iX->H}{W:iW}:∀{ns:List String} {gs:List (DataW H)} {q:List MemPlace},DataW.TrodVars enc P W sp ns gs q->gs.length=ns.length
 | [],[],_,_=>rfl
 | [],_::_,_,h=>by simp[DataW.TrodVars]at h
 |_::_,[],_,h=>by simp[DataW.TrodVars]at h
 |_::_,_::_,_,h=>by
  obtain⟨_,_,_,_,_,_,_,_,_,_,hs,_⟩:=h;simp[Lb hs]
theorem PX{enc:TypeId×iX->H}{W W':iW}{a:Nat->Bool}(gs:List (DataW H))(q:List MemPlace)(h:DataW.TrodVars enc P W sp [] gs q):DataW.TrodVars enc P W' a [] gs q:=by
 cases gs with
 |nil=>exact h
 |cons=>simp[DataW.TrodVars]at h
theorem Fs {enc:TypeId×iX->H} {W W':iW} {a:Nat->Bool} {n:String} {ns:List String} {t:TypeId} {k:IntKind}
 (f:P.globalNamed n=X g) (j:(P.globals[g]?).map (·.type)=X t) (s:P.underlying t=X (.array m e)) (r:P.underlying e=X (I k)) (o:iL W.heap.size W W')
 (rest:∀gs q,DataW.TrodVars enc P W sp ns gs q->DataW.TrodVars enc P W' a ns gs q) (gs:List (DataW H)) (q:List MemPlace) (h:DataW.TrodVars enc P W sp (n::ns) gs q):DataW.TrodVars enc P W' a (n::ns) gs q:=by
 cases gs with
 |nil=>simp[DataW.TrodVars]at h
 |cons d u=>
  obtain⟨v,t',cs,fuel,p,q',h1,l,c,h4,hs,rfl⟩:=h;obtain rfl:=sN (f.symm.trans h1);obtain rfl:=sN (j.symm.trans l);have i:g<W.heap.size:=by
   rcases yN g W.heap.size with b|b
   ·exact b
   ·unfold World.var? at c;simp[f,Array.getElem?_eq_none b]at c
  refine⟨g,t,cs,fuel,p,q',h1,l,var?_below o f i c,?_,rest _ _ hs,rfl⟩;rw[OQ s r W' W 0 0 a sp];exact h4
end Go.Proofs.YtijmbohadndfmaaGreatDoor
