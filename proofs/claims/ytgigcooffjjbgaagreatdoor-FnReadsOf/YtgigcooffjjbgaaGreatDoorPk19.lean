/-
  SVol; SPutM; SwC; Tk2; SSweep
-/
import Derived.Test.YtgigcooffjjbgaaGreatDoorPk18
open Go.Value renaming int→I,slice→Y,bool→iB,pointer→iP,agg→iA,tuple→iU
open Go.IntKind renaming i64→J
open Option renaming none→O,some→X
open Go.Ending renaming returned→G
open Go.Obj renaming cells→iC
open Bool renaming true→iV,false→iF
open Go renaming World→iW,Value→iX,Calls→iK
open Go.RowKit renaming Below→iL
set_option maxHeartbeats 4000000
set_option maxRecDepth 100000
namespace Go.Proofs.YtgigcooffjjbgaaGreatDoor
open Go.RowKit Words
theorem aal(v:iX)(s:Sto)(r:Rc)(w:iW)(aE:dK w v s):iK Tryz.prog 88 #[v,iA #[I J r.kind,I J r.vol,I J r.arg,I J r.fC]] w (uZ w (fO s r)):=by
 have ac:=af aE;obtain⟨va,B,vc,ad,D,cap,rs,rfl,bf,bt,hl,bi,bm,h,hk⟩:=aE;have HV:=af h;have N:=af h.1;obtain⟨nx,am⟩:=aq s.next;have aa:=af am;obtain⟨i0,hi,aN,aP,aQ⟩:=bO zr;have I0:=af hi;have Y0:=af aN;have Y1:=af aP;have Y2:=af aQ;unfold eA at ac⊢;rw[am]at ac⊢;clear bf bi bm h hk am hi aN aP aQ;obtain⟨m,d,i,P⟩:=r;simp only;have T0:=af (Tk.three w #[Y va B vc,Y ad D cap,I J nx] #[I J m,I J d,I J i,I J P] #[Y O 0 0,Y O 0 0,I J 0] 32 110 32);go_enter Tryz.func88,Tryz.ntmps88;have Z:ah (jl w (((w.alloc (iC #[Y va B vc,Y ad D cap,I J nx] 32)).alloc (iC #[I J m,I J d,I J i,I J P] 110)).alloc (iC #[Y O 0 0,Y O 0 0,I J 0] 32)) w.heap.size (Y va B vc) (Y ad D cap) (I J nx) ⟨m,d,i,P⟩):=⟨rfl,T0.o.1,T0.o.get 2 rfl,T0.o.get 1 rfl,T0.o.get 0 rfl⟩;have SI:ah (∀W,iL w.heap.size w W->dK W (iA #[Y va B vc,Y ad D cap,I J nx]) s):=λW H=>ac.o.below H
 clear T0 ac;by_cases ha:(0:Int)<i
 case' pos=>
  rcases hat:bw s.fV i with _|j
  ·have HN:ah (fO s ⟨m,d,i,P⟩=(s,iF)):=by
    show _=_;rw[fO];simp only;rw[ak ha,lU,hat];rfl
   have aD:i>0:=by omega
   go_wp2_with fail;generalize((w.alloc (iC #[Y va B vc,Y ad D cap,I J nx] 32)).alloc (iC #[I J m,I J d,I J i,I J P] 110)).alloc (iC #[Y O 0 0,Y O 0 0,I J 0] 32)=w0 at Z⊢;obtain⟨z,hz⟩:=aq w.heap.size;have aA:=af hz;rw[hz]at Z⊢;have EW:=af Z.o;clear hz Z;have E:=af (sG va B vc ad D cap nx s.fV i _ (by omega) (HV.o.below EW.o.2.1))
   unfold eA at E;rw[hat]at E;refine E.o.mono ?_;rintro e wa ⟨rfl,ba⟩;have S:=af (EW.o.on ba);clear ba E;simp only[js];obtain⟨M,x1,x2⟩:=S.o.sc;go_wp2_with fail;refine(mF (SI.o _ S.o.2.1)).mono ?_;rintro e wc ⟨u,rfl,V,K⟩;obtain⟨ea,el,ec,eb,em,ed,rfl,ee,fr,L⟩:=S.o.fin HN.o V K;obtain⟨f0,f1,f2,f3,f4,f5⟩:=ee.rf;have FR:=af fr;have C:=af L;rw[aa.o]at FR C⊢;clear V ee fr L K M x1 x2;go_wp2;exact az (lz (p:=4) (q:=5) rfl _ _ (z+1+1) _ _ _ rfl FR.o) rfl C.o
  obtain⟨vj,ae,be⟩:=om hat;obtain⟨q,U⟩:=aq (vj.2:Int);have ar:ah (lU s.fV i=X q):=by
   show _=_;rw[lU,hat,<-U];simp[ae]
  have al:ah (((bw s.fV d).isSome||decide (s.fV.length=3))=iV->fO s ⟨m,d,i,P⟩=(s,iF)):=λhh=>by
   rw[fO];simp only;rw[ak ha,ar.o];simp only;rw[ak hh]
  have au:ah (((bw s.fV d).isSome||decide (s.fV.length=3))=iF->fO s ⟨m,d,i,P⟩=(⟨gS s.fV d q,s.fK,s.next⟩,iV)):=λhh=>by
   rw[fO];simp only;rw[ak ha,ar.o];simp only;rw[ai (by rw[hh];decide)]
  have aD:i>0:=by omega
  go_wp2_with fail;generalize((w.alloc (iC #[Y va B vc,Y ad D cap,I J nx] 32)).alloc (iC #[I J m,I J d,I J i,I J P] 110)).alloc (iC #[Y O 0 0,Y O 0 0,I J 0] 32)=w0 at Z⊢;obtain⟨z,hz⟩:=aq w.heap.size;have aA:=af hz;rw[hz]at Z⊢;have EW:=af Z.o;clear hz Z;have E:=af (sG va B vc ad D cap nx s.fV i _ (by omega) (HV.o.below EW.o.2.1))
  unfold eA at E;rw[hat]at E;refine E.o.mono ?_;rintro e bu ⟨rfl,ba⟩;have EV:=af (EW.o.on ba);obtain⟨M,x1,x2⟩:=EV.o.sc;obtain⟨bj,oj,e,-,bp,bb⟩:=(HV.o.below EV.o.2.1).at ae;subst e;rw[U]at bb;have bq:(0:Int)<=j:=by omega
  have br:¬((j:Int)<0):=by omega
  have bs:(j:Int)<B:=by have:=(aC.1 ae).1;have:=N.o;omega
  simp only[js];obtain⟨y0,y1,y2,y3⟩:=EV.o.rc;simp only at y0 y1 y2 y3;clear EW ba E ae be U hat;have EW:=af EV.o;clear EV
 case' neg=>
  have al:ah (((bw s.fV d).isSome||decide (s.fV.length=3))=iV->fO s ⟨m,d,i,P⟩=(s,iF)):=λhh=>by
   rw[fO];simp only;rw[ai ha];simp only;rw[ak hh]
  obtain⟨q,U⟩:=aq (-1:Int);have au:ah (((bw s.fV d).isSome||decide (s.fV.length=3))=iF->fO s ⟨m,d,i,P⟩=(⟨gS s.fV d q,s.fK,s.next⟩,iV)):=λhh=>by
   rw[fO];simp only;rw[ai ha];simp only;rw[ai (by rw[hh];decide),U]
  have aD:¬(i>0):=by omega
  have HQ:=af U;clear U;go_wp2_with fail;rw[HQ.o];generalize((w.alloc (iC #[Y va B vc,Y ad D cap,I J nx] 32)).alloc (iC #[I J m,I J d,I J i,I J P] 110)).alloc (iC #[Y O 0 0,Y O 0 0,I J 0] 32)=w0 at Z⊢;obtain⟨z,hz⟩:=aq w.heap.size;have aA:=af hz;rw[hz]at Z⊢;have EW:=af Z.o;clear hz Z;obtain⟨M,x1,x2⟩:=EW.o.sc;obtain⟨y0,y1,y2,y3⟩:=EW.o.rc;simp only at y0 y1 y2 y3
 all_goals
  have ag:=af (sG _ B vc ad D cap nx s.fV d _ (by omega) (HV.o.below EW.o.2.1))
  unfold eA at ag;go_wp2_with fail;refine ag.o.mono ?_;rintro e wa ⟨rfl,ba⟩;have S:=af (EW.o.on ba);clear M x1 x2 y0 y1 y2 y3 ba ag;by_cases aM:∃j,bw s.fV d=X j
  ·obtain⟨j,hj⟩:=aM;rw[hj];have HN:ah (fO s ⟨m,d,i,P⟩=(s,iF)):=al.o (by rw[hj];rfl)
   have j0:(0:Int)<=j:=by omega
   simp only[js];obtain⟨M,x1,x2⟩:=S.o.sc;go_wp2_with fail;refine(mF (SI.o _ S.o.2.1)).mono ?_;rintro e wc ⟨u,rfl,V,K⟩;obtain⟨ea,el,ec,eb,em,ed,rfl,ee,fr,L⟩:=S.o.fin HN.o V K;obtain⟨f0,f1,f2,f3,f4,f5⟩:=ee.rf;have FR:=af fr;have C:=af L;rw[aa.o]at FR C⊢;clear V ee fr L K M x1 x2;go_wp2;exact az (lz (p:=4) (q:=5) rfl _ _ (z+1+1) _ _ _ rfl FR.o) rfl C.o
  ·have ab:bw s.fV d=O:=by
    cases ha:bw s.fV d with
    |none=>rfl
    |some j=>exact absurd ⟨j,ha⟩ aM
   rw[ab];simp only[js];by_cases h3:(B:Int)=3
   ·have HN:ah (fO s ⟨m,d,i,P⟩=(s,iF)):=al.o (by rw[aS (show s.fV.length=3 by have:=N.o;omega)];simp)
    have bd:((B:Int)==3)=iV:=by simpa using h3
    obtain⟨M,x1,x2⟩:=S.o.sc;go_wp2_with fail;refine(mF (SI.o _ S.o.2.1)).mono ?_;rintro e wc ⟨u,rfl,V,K⟩;obtain⟨ea,el,ec,eb,em,ed,rfl,ee,fr,L⟩:=S.o.fin HN.o V K;obtain⟨f0,f1,f2,f3,f4,f5⟩:=ee.rf;have FR:=af fr;have C:=af L;rw[aa.o]at FR C⊢;clear V ee fr L K M x1 x2;go_wp2;exact az (lz (p:=4) (q:=5) rfl _ _ (z+1+1) _ _ _ rfl FR.o) rfl C.o
   ·have bd:((B:Int)==3)=iF:=by simpa using h3
    have HY:ah (fO s ⟨m,d,i,P⟩=(⟨gS s.fV d q,s.fK,s.next⟩,iV)):=au.o (by rw[ab,aV (show¬s.fV.length=3 by have:=N.o;omega)];rfl)
    obtain⟨M,x1,x2⟩:=S.o.sc;go_wp2_with fail;refine(mF (SI.o _ S.o.2.1)).mono ?_;rintro e wc ⟨u,rfl,V,-⟩;have EC:=af (S.o.on V.blw);have aR:ah (wa.heap.size<=wc.heap.size):=V.blw.size;obtain⟨ua,ul,uc,ub,um,ud,rfl⟩:=V.form;obtain⟨vv,kv,lo1,hi1,lo2,hi2,eu,-,aL,-,-,aH,aK,-,-⟩:=V;have bc:Y ub um ud=kv:=by
     injection eu with eu
     injection eu with eu
     simp only[gE,iy]at eu;exact eu.2
    subst bc;have aX:=af aL;have aU:=af aH;have aW:=af aK;rw[aa.o];clear M x1 x2 aL aH aK;have BO:=af (aT wc (iC #[Y ua ul uc,Y ub um ud,I J nx] 32));have RO:=af (aB wc (iC #[Y ua ul uc,Y ub um ud,I J nx] 32));have ZO:ah ((wc.alloc (iC #[Y ua ul uc,Y ub um ud,I J nx] 32)).heap.size=wc.heap.size+1):=by show _=_;simp
    have EO:=af (EC.o.on BO.o);go_wp2_with fail;generalize wc.alloc (iC #[Y ua ul uc,Y ub um ud,I J nx] 32)=n at BO RO ZO EO⊢;have O0:=af (RL n);have ao:=af (aT n (iC #[] 66));generalize n.alloc (iC #[] 66)=wl at O0 ao⊢;obtain⟨zb,an⟩:=aq wc.heap.size;rw[an]at RO ZO⊢;have aw:=af an;clear an;go_loopw [9,10] (λlv iv W=>∃(k:Nat) (l:List (Int×Int)),k<=B/\iv=I J k/\l.length<=0+k/\ah (l=(s.fV.take k).filter (λv=>decide (v.1<d)))/\ah (W.ownsRow n.heap.size 66 2 lv l.length (ct l)/\iL n.heap.size n W)) (λ_ iv _=>B-(intOf iv).toNat)
    case atStart=>exact⟨0,[],aJ _,rfl,aJ _,(by simp:[]=(s.fV.take 0).filter _),by rw[<-ZO.o];exact O0.o,ao.o⟩
    case round=>
     obtain⟨k,l,hk,rfl,bh,HL,t⟩:=hrel;have EK:=af (EO.o.on t.o.2);obtain⟨M,-,-⟩:=EK.o.sc;obtain⟨-,y1,-,-⟩:=EK.o.rc;simp only at y1;by_cases bl:(k:Int)<B
     ·obtain⟨v,hv⟩:∃v,s.fV[k]?=X v:=⟨_,ay (by have:=N.o;omega)⟩
      obtain⟨b,bn,e,hb,c0,c1⟩:=(HV.o.below EK.o.2.1).at hv
      first
       |subst e
       |(injection e with e;injection e with e1 e2;subst e1 e2)
      have k0:(0:Int)<=k:=by omega
      have HF:=af (Gm (f:=λv=>decide (v.1<d)) hv)
      obtain⟨y,F⟩:=v;simp only at c0 c1 HF;clear hv;by_cases ht:y<d
      ·have hd:decide (y<d)=iV:=aS ht;have x:ah (l++[(y,F)]=(s.fV.take (k+1)).filter (λv=>decide (v.1<d))):=by
        show _=_;rw[HF.o,HL.o,ak (by simpa using ht)]
        try rw[fW]
       go_wp2;go_quiet (fail);have T:=af (bY (ax wr.heap.size wr) nq);have R:ah (iL wr.heap.size wr ((wr.drewN nq).alloc (iC #[I J y,I J F] 66))):=T.o.alloc (by have:=T.o.size;omega) _
       have OW:=af (bC t.o.1 R.o);have d0:=(T.o.cell (bk wr _ M)).trans M;have d1:=(T.o.cell (bk wr _ c0)).trans c0;have d2:=(T.o.cell (bk wr _ c1)).trans c1;have CN:=af (zT (wr.drewN nq) y F);have A:ah (n.heap.size<=((wr.drewN nq).alloc (iC #[I J y,I J F] 66)).heap.size):=by have:=t.o.2.size;have:=R.o.size;show _<=_;omega
       go_wp2_with (at_builtin;refine cS _ rfl _ _ 27 rfl n.heap.size 66 i0 (iA #[I J 0,I J 0]) 2 16 Tryz.underlying27 I0.o Y0.o Y1.o Y2.o rfl (by decide) _ _ _ rfl OW.o ⟨(wr.drewN nq).heap.size,0,O⟩ 1 1 [I J y,I J F] rfl rfl CN.o (Ah _ _) ?c1 ?c2 ?c3 ?_)
       case c1=>unfold maxLen;omega
       case c2=>omega
       case c3=>first|exact A.o|(have:=t.o.2.size;omega)
       intro u' z2 ho hg _;rw[EE]at ho;have ON:ah (z2.ownsRow n.heap.size 66 2 u' (l++[(y,F)]).length (ct (l++[(y,F)]))/\iL n.heap.size n z2):=⟨by rw[aI];exact ho,(t.o.2.trans (R.o.mono t.o.2.size)).grown hg A.o (λq U=>(OW.o.lt q U).1)⟩
       have Q:(l++[(y,F)]).length<=0+(k+1):=by simp;omega
       generalize l++[(y,F)]=l2 at x ON Q;clear ho hg OW R T CN A t HL;go_wp2;go_roundw
       case rel=>exact⟨k+1,l2,by omega,by go_num,Q,x,ON⟩
       case measure=>simp[intOf];omega
      ·have hd:decide (y<d)=iF:=aV ht;have x:ah (l=(s.fV.take (k+1)).filter (λv=>decide (v.1<d))):=by
        show _=_;rw[HF.o,HL.o,ai (by simpa using ht),dS]
       go_wp2;go_quiet (fail);have ON:ah ((wr.drewN nq).ownsRow n.heap.size 66 2 u9 l.length (ct l)/\iL n.heap.size n (wr.drewN nq)):=⟨bC t.o.1 (bY (ax wr.heap.size wr) nq),bY t.o.2 nq⟩;go_wp2;go_roundw
       case rel=>exact⟨k+1,l,by omega,by go_num,by omega,x,ON⟩
       case measure=>simp[intOf];omega
     ·have x:ah (l++[(d,q)]=s.fV.filter (λv=>decide (v.1<d))++[(d,q)]):=by
       show _=_;rw[HL.o,ci (by have:=N.o;omega)]
      have R:=af (aT wr (iC #[I J d,I J q] 66));have OW:=af (bC t.o.1 R.o);have CN:=af (zT wr d q);have A:ah (n.heap.size<=(wr.alloc (iC #[I J d,I J q] 66)).heap.size):=by have:=t.o.2.size;have:=R.o.size;show _<=_;omega
      go_wp2_with (at_builtin;refine cS _ rfl _ _ 27 rfl n.heap.size 66 i0 (iA #[I J 0,I J 0]) 2 16 Tryz.underlying27 I0.o Y0.o Y1.o Y2.o rfl (by decide) _ _ _ rfl OW.o ⟨wr.heap.size,0,O⟩ 1 1 [I J d,I J q] rfl rfl CN.o (Ah _ _) ?c1 ?c2 ?c3 ?_)
      case c1=>unfold maxLen;omega
      case c2=>omega
      case c3=>first|exact A.o|(have:=t.o.2.size;omega)
      intro u' z2 ho hg _;rw[EE]at ho;have ON:ah (z2.ownsRow n.heap.size 66 2 u' (l++[(d,q)]).length (ct (l++[(d,q)]))/\iL n.heap.size n z2):=⟨by rw[aI];exact ho,(t.o.2.trans (R.o.mono t.o.2.size)).grown hg A.o (λq U=>(OW.o.lt q U).1)⟩
      have Q:(l++[(d,q)]).length<=B+1:=by simp;omega
      generalize l++[(d,q)]=l1 at x ON Q;clear ho hg OW R CN A t HL M y1 EK;go_wp2_with fail;go_loopw [9,11] (λlv iv W=>∃(k:Nat) (l:List (Int×Int)),k<=B/\iv=I J k/\l.length<=B+1+k/\ah (l=l1++(s.fV.take k).filter (λv=>decide (d<v.1)))/\ah (W.ownsRow n.heap.size 66 2 lv l.length (ct l)/\iL n.heap.size n W)) (λ_ iv _=>B-(intOf iv).toNat)
      case atStart=>exact⟨0,l1,aJ _,rfl,by omega,(by simp:l1=l1++(s.fV.take 0).filter _),ON⟩
      case round=>
       obtain⟨k,l,hk,rfl,bh,HL,t⟩:=hrel;have EK:=af (EO.o.on t.o.2);obtain⟨M,-,-⟩:=EK.o.sc;obtain⟨-,y1,-,-⟩:=EK.o.rc;simp only at y1;by_cases bl:(k:Int)<B
       ·obtain⟨v,hv⟩:∃v,s.fV[k]?=X v:=⟨_,ay (by have:=N.o;omega)⟩
        obtain⟨b,bn,e,hb,c0,c1⟩:=(HV.o.below EK.o.2.1).at hv
        first
         |subst e
         |(injection e with e;injection e with e1 e2;subst e1 e2)
        have k0:(0:Int)<=k:=by omega
        have HF:=af (Gm (f:=λv=>decide (d<v.1)) hv)
        obtain⟨y,F⟩:=v;simp only at c0 c1 HF;clear hv;by_cases ht:d<y
        ·have hd:decide (d<y)=iV:=aS ht;have x:ah (l++[(y,F)]=l1++(s.fV.take (k+1)).filter (λv=>decide (d<v.1))):=by
          show _=_;rw[HF.o,HL.o,ak (by simpa using ht)]
          try rw[fW]
         go_wp2;go_quiet (fail);have T:=af (bY (ax wr.heap.size wr) nq);have R:ah (iL wr.heap.size wr ((wr.drewN nq).alloc (iC #[I J y,I J F] 66))):=T.o.alloc (by have:=T.o.size;omega) _
         have OW:=af (bC t.o.1 R.o);have d0:=(T.o.cell (bk wr _ M)).trans M;have d1:=(T.o.cell (bk wr _ c0)).trans c0;have d2:=(T.o.cell (bk wr _ c1)).trans c1;have CN:=af (zT (wr.drewN nq) y F);have A:ah (n.heap.size<=((wr.drewN nq).alloc (iC #[I J y,I J F] 66)).heap.size):=by have:=t.o.2.size;have:=R.o.size;show _<=_;omega
         go_wp2_with (at_builtin;refine cS _ rfl _ _ 27 rfl n.heap.size 66 i0 (iA #[I J 0,I J 0]) 2 16 Tryz.underlying27 I0.o Y0.o Y1.o Y2.o rfl (by decide) _ _ _ rfl OW.o ⟨(wr.drewN nq).heap.size,0,O⟩ 1 1 [I J y,I J F] rfl rfl CN.o (Ah _ _) ?c1 ?c2 ?c3 ?_)
         case c1=>unfold maxLen;omega
         case c2=>omega
         case c3=>first|exact A.o|(have:=t.o.2.size;omega)
         intro u' z2 ho hg _;rw[EE]at ho;have ON:ah (z2.ownsRow n.heap.size 66 2 u' (l++[(y,F)]).length (ct (l++[(y,F)]))/\iL n.heap.size n z2):=⟨by rw[aI];exact ho,(t.o.2.trans (R.o.mono t.o.2.size)).grown hg A.o (λq U=>(OW.o.lt q U).1)⟩
         have Q:(l++[(y,F)]).length<=B+1+(k+1):=by simp;omega
         generalize l++[(y,F)]=l2 at x ON Q;clear ho hg OW R T CN A t HL;go_wp2;go_roundw
         case rel=>exact⟨k+1,l2,by omega,by go_num,Q,x,ON⟩
         case measure=>simp[intOf];omega
        ·have hd:decide (d<y)=iF:=aV ht;have x:ah (l=l1++(s.fV.take (k+1)).filter (λv=>decide (d<v.1))):=by
          show _=_;rw[HF.o,HL.o,ai (by simpa using ht),dS]
         go_wp2;go_quiet (fail);have ON:ah ((wr.drewN nq).ownsRow n.heap.size 66 2 u9 l.length (ct l)/\iL n.heap.size n (wr.drewN nq)):=⟨bC t.o.1 (bY (ax wr.heap.size wr) nq),bY t.o.2 nq⟩;go_wp2;go_roundw
         case rel=>exact⟨k+1,l,by omega,by go_num,by omega,x,ON⟩
         case measure=>simp[intOf];omega
       ·have HE:ah (l=gS s.fV d q):=by
         show _=_;rw[HL.o,x.o,ci (by have:=N.o;omega),gS,fW]
         rfl
        have hS:=aG.of t.o.1;obtain⟨la,lc,bg,-⟩:=hS.form;subst bg;have ap:=af (zM t.o.1);have RB:ah (wr.heap[zb]?=X (iC #[Y ua ul uc,Y ub um ud,I J nx] 32 (0,0))):=(t.o.2.block zb (by have:=ZO.o;omega)).trans RO.o
        have aZ:ah (iL w.heap.size w wr):=EK.o.2.1;have av:ah (z+1+1<zb):=by have:=EC.o.lt;rw[aw.o]at this;exact this
        have a0:ah (w.heap.size=z):=EK.o.1;have aY:ah (n.heap.size<=wr.heap.size):=t.o.2.size;have r0:wr.cell? ⟨zb,0,O⟩=X (Y ua ul uc):=aj _ _ 0 _ _ _ RB.o;have r1:wr.frozen? ⟨zb,0,O⟩=iF:=aF _ _ 0 _ _ RB.o;have RC:ah ((wr.setCell ⟨zb,0,O⟩ (Y la l.length lc)).heap[zb]?=X (iC #[Y la l.length lc,Y ub um ud,I J nx] 32 (0,0))):=bo _ _ 0 _ _ _ RB.o;have RD:ah ((wr.setCell ⟨zb,0,O⟩ (Y la l.length lc)).heap[z+1+1]?=X (iC #[Y O 0 0,Y O 0 0,I J 0] 32 (0,0))):=(aO _ _ _ _ (show z+1+1≠zb by have:=av.o;omega)).trans EK.o.2.2.2.2
        have FR:=af (oS (a:=Y la l.length lc) (b:=Y ub um ud) (c:=I J nx) RD.o);have C:ah (uZ w (fO s ⟨m,d,i,P⟩) (G (iU #[iA #[Y la l.length lc,Y ub um ud,I J nx],iB iV])) ((((wr.setCell ⟨zb,0,O⟩ (Y la l.length lc)).setCell ⟨z+1+1,0,O⟩ (Y la l.length lc)).setCell ⟨z+1+1,1,O⟩ (Y ub um ud)).setCell ⟨z+1+1,2,O⟩ (I J nx))):=by
         have a1:=av.o;have a2:=a0.o;have a3:=aY.o;have a4:=ZO.o;have a5:=aU.o;have a6:=aW.o;have a7:=aw.o;have a8:=aR.o;have a9:=S.o.lt;have b1:(wr.setCell ⟨zb,0,O⟩ (Y la l.length lc)).heap.size=wr.heap.size:=by simp[World.setCell]
         rw[HY.o];refine⟨_,rfl,?_,⟨_,_,_,_,_,rfl,ap.o⟩⟩;rw[HE.o]at hS b1⊢;rw[<-aa.o];refine yN (s:=⟨gS s.fV d q,s.fK,s.next⟩) (lo1:=n.heap.size) (hi1:=wr.heap.size) (lo2:=lo2) (hi2:=hi2) (by omega) ?_ ?_ ⟨by omega,.inr (by omega)⟩ ⟨by omega,.inr (by omega)⟩ (by omega) (by omega) (.inr (by omega)) (aZ.o.setCell (p:=⟨zb,0,O⟩) (show w.heap.size<=zb by omega) _)
         ·exact aG.loc _ _ _ _ _ _ wr _ (λg g1 g2=>aO _ _ _ _ (show g≠zb by omega)) hS
         ·exact dB.loc _ _ _ _ wc _ (λg g1 g2=>(aO _ _ _ _ (show g≠zb by omega)).trans ((t.o.2.block g (by omega)).trans (BO.o.block g (by omega)))) aX.o
        have s0:=aj _ _ 0 _ _ _ RC.o;have s1:=aj _ _ 1 _ _ _ RC.o;have s2:=aj _ _ 2 _ _ _ RC.o;have t0:=aj _ _ 0 _ _ _ RD.o;have t1:=aj _ _ 1 _ _ _ RD.o;have t2:=aj _ _ 2 _ _ _ RD.o;have t3:=aF _ _ 0 _ _ RD.o;have t4:=aF _ _ 1 _ _ RD.o;have t5:=aF _ _ 2 _ _ RD.o;go_wp2;exact az (lz (p:=4) (q:=5) rfl _ _ (z+1+1) _ _ _ rfl FR.o) rfl C.o
variable{α:Type}{a:Act}{ops:Array Oper}{lf:Bool}{fn:Func}{r:Int}{LK TK xs:List Int}{rest:List Oper}{b lo B g lb lc lk tb tc tk q z cap n k C i vb vc xb:Nat}{u:Nat -> Bool}
theorem pE {p q:Tmp} (h:fn.results= #[.cell p 30,.tmp q]) (a:Array iX) (w:iW) (g:Nat) (v:iX)
 (e:a.getD p undef=iP (X ⟨g,0,O⟩)) (c:w.heap[g]?=X (iC #[v] 30 (0,0))):
 (results fn a).run Tryz.prog w=.ok (iU #[iA #[v],a.getD q undef]) w:=by
 have b:a[p]?.getD undef=iP (X ⟨g,0,O⟩):=by simpa using e
 have d:=lL (P:=Tryz.prog) w g 30 30 #[v] (0,0) _ c Tryz.underlying30 rfl MY;simp[results,h,b,asAddr,d]
variable{hs hs':List nK}
theorem Tk.wcell{w a:iW}{hi:Nat}{cs:Array iX}{t:TypeId}(h:Tk w a hs)(n:Nat)(r:hs[n]?=X (lo,hi,bS b cs t))(o:w.heap.size<=b)(k:Nat)(u:iX)(q:∀x∈hs',x∈hs/\(x.2.1<=b∨b+1<=x.1)):
 Tk w (a.setCell ⟨b,k,O⟩ u) ((b,b+1,bS b (cs.setIfInBounds k u) t)::hs'):=by
 have j:a.heap[b]?=X (iC cs t (0,0)):=h.get n r;have c:=(aK.1 j).1;have l:(a.setCell ⟨b,k,O⟩ u).heap.size=a.heap.size:=by simp[World.setCell]
 refine⟨h.1.setCell (p:=⟨b,k,O⟩) o u,λx d=>?_⟩
 rcases be.1 d with rfl|d
 ·exact⟨by rw[l];exact c,bS.loc _ _ _,dz j k u⟩
 ·obtain⟨f,s⟩:=q x d;obtain⟨h1,i,m⟩:=h.2 x f;exact⟨by rw[l];exact h1,i,i a _ (λg g1 g2=>aO _ _ _ _ (λ(e:g=b)=>by omega)) m⟩
theorem Tk.wflt{w a:iW}{hi:Nat}{xs:List iX}{t:TypeId}(h:Tk w a hs)(n:Nat)(j:hs[n]?=X (lo,hi,aP t b xs))(o:w.heap.size<=b)(k:Nat)(u:iX)(s:∀x∈hs',x∈hs/\(x.2.1<=b∨b+1<=x.1)):
 Tk w (a.setCell ⟨b,k,O⟩ u) ((b,b+1,aP t b (xs.set k u))::hs'):=by
 have r:aP t b xs a:=h.get n j;obtain⟨cs,q,-⟩:=r;have c:=(aK.1 q).1;have l:(a.setCell ⟨b,k,O⟩ u).heap.size=a.heap.size:=by simp[World.setCell]
 refine⟨h.1.setCell (p:=⟨b,k,O⟩) o u,λx d=>?_⟩
 rcases be.1 d with rfl|d
 ·exact⟨by rw[l];exact c,aP.loc _ _ _,aP.set (h.get n j) k u⟩
 ·obtain⟨f,v⟩:=s x d;obtain⟨h1,i,m⟩:=h.2 x f;exact⟨by rw[l];exact h1,i,i a _ (λg g1 g2=>aO _ _ _ _ (λ(e:g=b)=>by omega)) m⟩
variable{l:List Kn}
theorem zC{s n:Int}(h:lW l r s n=iF):gN l r s n=l/\jM l r s n=r:=by simp[gN,jM,h]
theorem zn{w w':iW}{s n:Int}{v:iX}(E:gN l r s n=l/\jM l r s n=r)(h:pj w l v w'):Ai w (gN l r s n) (jM l r s n) (G (iU #[v,I J r])) w':=by
 rw[E.1,E.2];exact⟨_,rfl,h⟩
variable{rs:List Kw}
theorem cC.app2 {o W y:iW} {v u':iX} {i j:Kw} (h0:cC o B v rs) (D:iL o.heap.size o W) (w:B<=o.heap.size) (l:aG 3 o.heap.size W.heap.size i.2.1 i.2.2.length (aD i.2.2) W) (s:i.2.2.length<=maxLen)
 (m:aG 3 o.heap.size W.heap.size j.2.1 j.2.2.length (aD j.2.2) W) (u:j.2.2.length<=maxLen) (r:∀g,i.2.1.ownBlock=X g->j.2.1.ownBlock≠X g)
 (d:W.grownBy y v.ownBlock) (F:y.ownsRow B 189 2 u' (rs++[i,j]).length (d8 (rs++[i,j]))):cC y B u' (rs++[i,j]):=by
 have h:=h0.below D;have E:=nL h.1;have k:∀(t:iX) (g:Nat),v.ownBlock=X g->∀{lo hi n:Nat} {xs:List iX},aG 3 lo hi t n xs W->t.ownBlock≠X g:=by
  intro t g d lo hi n xs hs e;obtain⟨-,-,cs,q⟩:=E g d;obtain⟨-,-,z,q'⟩:=hs.lt g e;exact DU q' q
 refine⟨F,?_,?_⟩
 ·intro x f;rcases bJ.1 f with f|f
  ·exact⟨((h.2.1 x f).1.grown d (λg e c=>k _ g c (h.2.1 x f).1 e)).up d.size,(h.2.1 x f).2⟩
  ·simp only[be,eI,eX]at f;rcases f with rfl|rfl
   ·exact⟨((l.grown d (λg e c=>k _ g c l e)).dn w).up d.size,s⟩
   ·exact⟨((m.grown d (λg e c=>k _ g c m e)).dn w).up d.size,u⟩
 ·refine iE.2 ⟨h.2.2,?_,?_⟩
  ·simp only[gx,bU,forall_eq,eI,false_implies,implies_true,iy,List.Pairwise.nil];exact r
  ·intro a C b p g A c;have H:=((h0.2.1 a C).1.lt g A).2.1;simp only[be,eI,eX]at p;rcases p with rfl|rfl
   ·have G:=(l.lt g c).1;omega
   ·have G:=(m.lt g c).1;omega
abbrev mC(g lb tb lk tk lc tc:Nat)(a:iX)(LK TK:List Int):List nK:=
 [(tb,tb+1,bS tb #[iB iF,Y (X ⟨tk,0,O⟩) 4 tc] 189),(tk,tk+1,aP 3 tk (aD TK)),(lb,lb+1,bS lb #[iB iV,Y (X ⟨lk,0,O⟩) 4 lc] 189),(lk,lk+1,aP 3 lk (aD LK)),(g,g+1,bS g #[a] 30)]
structure pR (B g lb tb lk tk:Nat):Prop where
 g0:B<=g
 l0:g<lk
 t0:g<tk
 b0:g<lb
 c0:g<tb
 d1:lk≠tk
 d2:lk≠lb
 d3:lk≠tb
 d4:tk≠lb
 d5:tk≠tb
 d6:lb≠tb
theorem Sg{b x:iW}{t:Nat}{a:iX}(U:Tk b x (mC g lb tb lk tk lc tc a LK TK))(d:pR b.heap.size g lb tb lk tk)(n:Int):
 Tk b (x.setCell ⟨lk,t,O⟩ (I J n)) (mC g lb tb lk tk lc tc a (LK.set t n) TK):=by
 obtain⟨o,p,q,c,e,f,i,j,k,l,m⟩:=d;have V:=U.wflt (hs':=[(tb,tb+1,bS tb #[iB iF,Y (X ⟨tk,0,O⟩) 4 tc] 189),(tk,tk+1,aP 3 tk (aD TK)),(lb,lb+1,bS lb #[iB iV,Y (X ⟨lk,0,O⟩) 4 lc] 189),(g,g+1,bS g #[a] 30)]) 3 rfl (by omega) t (I J n) (λy hy=>by
  simp only[be,eI,eX]at hy;rcases hy with rfl|rfl|rfl|rfl
  ·exact⟨by simp,by show tb+1<=lk∨lk+1<=tb;omega⟩
  ·exact⟨by simp,by show tk+1<=lk∨lk+1<=tk;omega⟩
  ·exact⟨by simp,by show lb+1<=lk∨lk+1<=lb;omega⟩
  ·exact⟨by simp,by show g+1<=lk∨lk+1<=g;omega⟩)
 rw[GR]at V;exact V.drop (λy hy=>by
  simp only[be,eI,eX]at hy⊢;rcases hy with h|h|h|h|h<;>simp[h])
theorem NT{b x:iW}{t:Nat}{a:iX}(U:Tk b x (mC g lb tb lk tk lc tc a LK TK))(d:pR b.heap.size g lb tb lk tk)(n:Int):
 Tk b (x.setCell ⟨tk,t,O⟩ (I J n)) (mC g lb tb lk tk lc tc a LK (TK.set t n)):=by
 obtain⟨o,p,q,c,e,f,i,j,k,l,m⟩:=d;have V:=U.wflt (hs':=[(tb,tb+1,bS tb #[iB iF,Y (X ⟨tk,0,O⟩) 4 tc] 189),(lb,lb+1,bS lb #[iB iV,Y (X ⟨lk,0,O⟩) 4 lc] 189),(lk,lk+1,aP 3 lk (aD LK)),(g,g+1,bS g #[a] 30)]) 1 rfl (by omega) t (I J n) (λy hy=>by
  simp only[be,eI,eX]at hy;rcases hy with rfl|rfl|rfl|rfl
  ·exact⟨by simp,by show tb+1<=tk∨tk+1<=tb;omega⟩
  ·exact⟨by simp,by show lb+1<=tk∨tk+1<=lb;omega⟩
  ·exact⟨by simp,by show lk+1<=tk∨tk+1<=lk;omega⟩
  ·exact⟨by simp,by show g+1<=tk∨tk+1<=g;omega⟩)
 rw[GR]at V;exact V.drop (λy hy=>by
  simp only[be,eI,eX]at hy⊢;rcases hy with h|h|h|h|h<;>simp[h])
structure TE (x y y2:iW) (g lb tb lk tk lc tc t q:Nat) (uv:iX):Prop where
 a1:x.cell? ⟨lb,1,O⟩=X (Y (X ⟨lk,0,O⟩) 4 lc)
 a2:∃u:Int,x.cell? ⟨lk,t,O⟩=X (I J u)
 a3:x.frozen? ⟨lk,t,O⟩=iF
 a4:y.cell? ⟨tb,1,O⟩=X (Y (X ⟨tk,0,O⟩) 4 tc)
 a5:y.cell? ⟨g,0,O⟩=X uv
 a6:∃u:Int,y.cell? ⟨tk,q,O⟩=X (I J u)
 a7:y.frozen? ⟨tk,q,O⟩=iF
 a8:y2.cell? ⟨g,0,O⟩=X uv
 b1:y2.cell? ⟨lb,0,O⟩=X (iB iV)
 b2:y2.cell? ⟨lb,1,O⟩=X (Y (X ⟨lk,0,O⟩) 4 lc)
 b3:y2.cell? ⟨tb,0,O⟩=X (iB iF)
 b4:y2.cell? ⟨tb,1,O⟩=X (Y (X ⟨tk,0,O⟩) 4 tc)
theorem Bl{e x:iW}{t:Nat}{c:iX}(U:Tk e x (mC g lb tb lk tk lc tc c LK TK))(d:pR e.heap.size g lb tb lk tk)(h:LK.length=4)(i:TK.length=4)(k:t<4)(j:q<4)(n m:Int):
 TE x (x.setCell ⟨lk,t,O⟩ (I J n)) ((x.setCell ⟨lk,t,O⟩ (I J n)).setCell ⟨tk,q,O⟩ (I J m)) g lb tb lk tk lc tc t q c/\
 Tk e ((x.setCell ⟨lk,t,O⟩ (I J n)).setCell ⟨tk,q,O⟩ (I J m)) (mC g lb tb lk tk lc tc c (LK.set t n) (TK.set q m)):=by
 have V:=Sg (t:=t) U d n;have a:=NT (t:=q) V d m;have f:aP 3 lk (aD LK) x:=U.get 3 rfl;have b:aP 3 tk (aD TK) (x.setCell ⟨lk,t,O⟩ (I J n)):=V.get 1 rfl;exact⟨⟨U.at 2 1 rfl rfl,⟨_,f.cell (kB (ay (by omega)))⟩,f.frozen t,V.at 0 1 rfl rfl,V.at 4 0 rfl rfl,⟨_,b.cell (kB (ay (by omega)))⟩,b.frozen q,a.at 4 0 rfl rfl,a.at 2 0 rfl rfl,a.at 2 1 rfl rfl,a.at 0 0 rfl rfl,a.at 0 1 rfl rfl⟩,a⟩
theorem Do(W:iW){E:Nat}(b:W.heap.size=E)(v u:iX):∀(j:Nat) (x:iX),[iB iV,v,iB iF,u][j]?=X x->(W.alloc (iC #[iB iV,v,iB iF,u] 189)).cell? ((⟨E,0,O⟩:Addr).add j)=X x:=by
 subst b;intro j x a
 match j,a with
 |0,a|1,a|2,a|3,a=>
  simp at a;subst a;simp[Addr.add]
theorem El(a b:Option Addr)(n c m d:Nat):∀u∈ [iB iV,Y a n c,iB iF,Y b m d],u.oneCell'=iV:=by
 intro u e;simp at e;rcases e with h|h|h|h<;>subst h<;>rfl
structure abI (w:iW) (z g:Nat) (u2:iX) (L:List Kn) (y:iW):Prop where
 e1:∃v,y.cell? ⟨g,0,O⟩=X v
 e2:y.frozen? ⟨g,0,O⟩=iF
 e3:(y.setCell ⟨g,0,O⟩ u2).cell? ⟨z+1,0,O⟩=X (Y O 0 0)
 e4:(y.setCell ⟨g,0,O⟩ u2).frozen? ⟨z+1,0,O⟩=iF
 e5:(y.setCell ⟨g,0,O⟩ u2).cell? ⟨g,0,O⟩=X u2
 e8:((y.setCell ⟨g,0,O⟩ u2).setCell ⟨z+1,0,O⟩ u2).cell? ⟨g,0,O⟩=X u2
 e6:((y.setCell ⟨g,0,O⟩ u2).setCell ⟨z+1,0,O⟩ u2).drew.heap[z+1]?=X (iC #[u2] 30 (0,0))
 e7:pj w L (iA #[u2]) ((y.setCell ⟨g,0,O⟩ u2).setCell ⟨z+1,0,O⟩ u2).drew
theorem Dg {w l r y:iW} {q b:iX} {j:List Kw} {h i:List Int} {L:List Kn} (Q:w.heap.size=z) (T:Tk w l hs) (J:hs[0]?=X (z+1,z+1+1,bS (z+1) #[Y O 0 0] 30))
 (A:cC l B q j) (P:B=z+1+1) (s:B<=l.heap.size) (V:Tk l r (mC g lb tb lk tk lc tc q h i)) (d:pR l.heap.size g lb tb lk tk) (n:h.length=4) (o:i.length=4)
 (I:L=j.map aE++[⟨iV,h⟩,⟨iF,i⟩])
 (M:y.ownsRow B 189 2 b (j.length+2) (d8 j++[iB iV,Y (X ⟨lk,0,O⟩) 4 lc,iB iF,Y (X ⟨tk,0,O⟩) 4 tc]))
 (g2:(r.alloc (iC #[iB iV,Y (X ⟨lk,0,O⟩) 4 lc,iB iF,Y (X ⟨tk,0,O⟩) 4 tc] 189)).grownBy y q.ownBlock):abI w z g b L y:=by
 have BA:=aT r (iC #[iB iV,Y (X ⟨lk,0,O⟩) 4 lc,iB iF,Y (X ⟨tk,0,O⟩) 4 tc] 189);have a:=V.below BA;generalize r.alloc (iC #[iB iV,Y (X ⟨lk,0,O⟩) 4 lc,iB iF,Y (X ⟨tk,0,O⟩) 4 tc] 189)=f at BA a g2;have K:=d.g0;have t:g<f.heap.size:=by have:g+1<=f.heap.size:=a.hi 4 rfl;omega
 have x:∀k,q.ownBlock=X k->B<=k/\k<l.heap.size:=λk u=>iM A.1 k u
 have m:y.heap[g]?=X (iC #[q] 30 (0,0)):=(g2.block g t (λe=>by have:=(x g e.symm).2;omega)).trans (a.get 4 rfl)
 have D:y.heap[z+1]?=X (iC #[Y O 0 0] 30 (0,0)):=by
  refine(g2.block (z+1) (by omega) (λe=>by have:=(x (z+1) e.symm).1;omega)).trans ?_
  exact(a.1.block (z+1) (by omega)).trans (T.get 0 J)
 have c:(y.setCell ⟨g,0,O⟩ b).heap[z+1]?=X (iC #[Y O 0 0] 30 (0,0)):=cX D (by omega) _ _
 have H:cC y B b (j++[(iV,Y (X ⟨lk,0,O⟩) 4 lc,h),(iF,Y (X ⟨tk,0,O⟩) 4 tc,i)]):=by
  have E:aP 3 lk (aD h) f:=a.get 3 rfl;have F:aP 3 tk (aD i) f:=a.get 1 rfl;have R:lk+1<=f.heap.size:=a.hi 3 rfl;have S:tk+1<=f.heap.size:=a.hi 1 rfl;have U:=d.l0;have W:=d.t0;refine A.app2 a.1 s ?_ ?_ ?_ ?_ ?_ g2 ?_
  ·exact Or.inr ⟨lk,lc,by simp only[n],by omega,by omega,E⟩
  ·simp only[n];unfold maxLen;omega
  ·exact Or.inr ⟨tk,tc,by simp only[o],by omega,by omega,F⟩
  ·simp only[o];unfold maxLen;omega
  ·intro k h1 G;have N:=d.d1;simp[Value.ownBlock]at h1 G;omega
  ·rw[Ms,aI];exact M
 have v:w.heap.size<=f.heap.size:=bV T.1.size a.1.size;have C:iL w.heap.size w y:=(T.1.trans (a.1.mono T.1.size)).grown g2 v (λk u=>by have:=(x k u).1;omega)
 refine⟨⟨_,aj _ _ 0 _ _ _ m⟩,aF _ _ 0 _ _ m,aj _ _ 0 _ _ _ c,aF _ _ 0 _ _ c,aj _ _ 0 _ _ _ (dz m 0 b),aj _ _ 0 _ _ _ (cX (dz m 0 b) (by omega) 0 b),dz c 0 b,?_⟩
 refine⟨b,j++[(iV,Y (X ⟨lk,0,O⟩) 4 lc,h),(iF,Y (X ⟨tk,0,O⟩) 4 tc,i)],rfl,?_,?_,?_⟩
 ·exact(((H.cell m 0 b).cell c 0 b).below (ax _ _).drew).down (by omega)
 ·rw[I,gV];rfl
 ·exact((C.setCell (p:=⟨g,0,O⟩) (by show w.heap.size<=g;omega) _).setCell (p:=⟨z+1,0,O⟩) (by show w.heap.size<=z+1;omega) _).drew
theorem Es{w w':iW}{b:List Kn}{n m:Int}{a:Nat}{A B:Kn}{v:iX}(h:lW l r (a:Int) n=iV)(e:ir l r a n=A/\ib l r a=B)(d:m=(l.length:Int)+1)(c:b=l)(k:pj w (b++[A,B]) v w'):
 Ai w (gN l r (a:Int) n) (jM l r (a:Int) n) (G (iU #[v,I J m])) w':=by
 obtain⟨rfl,rfl⟩:=e;subst c d;rw[gN,jM,ak h,ak h,bi];exact⟨_,rfl,k⟩
theorem Ej(a:iW){E:Nat}(b:a.heap.size=E):(a.alloc (iC #[] 3)).ownsRow E 3 1 (Y (X ⟨E,0,O⟩) 0 0) 0 []:=by
 subst b;exact⟨rfl,.inr ⟨a.heap.size,0,#[],rfl,am _,aB a _,am _,by unfold maxLen;omega,rfl,rfl⟩⟩
theorem Lh{g a b:iW}{E:Nat}{v:iX}{ls:List Int}(U:Tk g a hs)(j:a.heap.size=E)(f:b.ownsRow E 3 1 v 4 (aD ls))(g1:(a.alloc (iC #[] 3)).grownBy b (X E)):
 ∃tk c,v=Y (X ⟨tk,0,O⟩) 4 c/\E<=tk/\Tk g b ((tk,tk+1,aP 3 tk (aD ls))::hs):=by
 obtain⟨l,vc,d,e⟩:=(aG.of f).form;obtain⟨tk,rfl,h1,h⟩:=e (by omega)
 subst d;have B:iL a.heap.size a b:=((ax a.heap.size a).alloc (am _) _).grown g1 ((ax a.heap.size a).alloc (am _) _).size (λk i=>by cases i;omega)
 exact⟨tk,vc,rfl,h1,(U.below B).put h (aP.loc _ _ _) (aG.of f).flt⟩
theorem Vg{f x:iW}{b a:Nat}{e:iX}{c:List Int}(U:Tk f x ((tk,tk+1,aP 3 tk (aD TK))::mC g lb tb lk b lc a e LK c))(d:pR f.heap.size g lb tb lk tk):
 x.cell? ⟨tb,1,O⟩=X (Y (X ⟨b,0,O⟩) 4 a)/\x.frozen? ⟨tb,1,O⟩=iF/\Tk f (x.setCell ⟨tb,1,O⟩ (Y (X ⟨tk,0,O⟩) 4 tc)) (mC g lb tb lk tk lc tc e LK TK):=by
 obtain⟨p,q,r,h,i,j,k,l,m,n,o⟩:=d;have V:=U.wcell (hs':=[(tk,tk+1,aP 3 tk (aD TK)),(lb,lb+1,bS lb #[iB iV,Y (X ⟨lk,0,O⟩) 4 lc] 189),(lk,lk+1,aP 3 lk (aD LK)),(g,g+1,bS g #[e] 30)]) 1 rfl (by omega) 1 (Y (X ⟨tk,0,O⟩) 4 tc) (λy hy=>by
  simp only[be,eI,eX]at hy;rcases hy with rfl|rfl|rfl|rfl
  ·exact⟨by simp,by show tk+1<=tb∨tb+1<=tk;omega⟩
  ·exact⟨by simp,by show lb+1<=tb∨tb+1<=lb;omega⟩
  ·exact⟨by simp,by show lk+1<=tb∨tb+1<=lk;omega⟩
  ·exact⟨by simp,by show g+1<=tb∨tb+1<=g;omega⟩)
 exact⟨U.at 1 1 rfl rfl,U.fr 1 1 rfl,V⟩
theorem QN{f x:iW}{b a:Nat}{e:iX}{c:List Int}(U:Tk f x ((lk,lk+1,aP 3 lk (aD LK))::mC g lb tb b tk a tc e c TK))(d:pR f.heap.size g lb tb lk tk):
 x.cell? ⟨lb,1,O⟩=X (Y (X ⟨b,0,O⟩) 4 a)/\x.frozen? ⟨lb,1,O⟩=iF/\Tk f (x.setCell ⟨lb,1,O⟩ (Y (X ⟨lk,0,O⟩) 4 lc)) (mC g lb tb lk tk lc tc e LK TK):=by
 obtain⟨q,r,s,i,j,k,l,m,n,o,p⟩:=d;have V:=U.wcell (hs':=[(tb,tb+1,bS tb #[iB iF,Y (X ⟨tk,0,O⟩) 4 tc] 189),(tk,tk+1,aP 3 tk (aD TK)),(lk,lk+1,aP 3 lk (aD LK)),(g,g+1,bS g #[e] 30)]) 3 rfl (by omega) 1 (Y (X ⟨lk,0,O⟩) 4 lc) (λy hy=>by
  simp only[be,eI,eX]at hy;rcases hy with rfl|rfl|rfl|rfl
  ·exact⟨by simp,by show tb+1<=lb∨lb+1<=tb;omega⟩
  ·exact⟨by simp,by show tk+1<=lb∨lb+1<=tk;omega⟩
  ·exact⟨by simp,by show lk+1<=lb∨lb+1<=lk;omega⟩
  ·exact⟨by simp,by show g+1<=lb∨lb+1<=g;omega⟩)
 exact⟨U.at 3 1 rfl rfl,U.fr 3 1 rfl,V.drop (λy hy=>by
  simp only[be,eI,eX]at hy⊢;rcases hy with h|h|h|h|h<;>simp[h])⟩
def tF(w:iW)(L:List Kn)(R:List Int)(e:Ending)(w':iW):Prop:=
 ∃b a lo1 hi1 lo2 hi2,e=G (iU #[iA #[b],a])/\dB lo1 hi1 b L w'/\aG 3 lo2 hi2 a R.length (aD R) w'/\w.heap.size<=lo1/\hi1<=w'.heap.size/\w.heap.size<=lo2/\hi2<=w'.heap.size/\(hi1<=lo2∨hi2<=lo1)/\iL w.heap.size w w'
def Zp(f:Nat):Prop:=∀(ad:Option Addr) (a cap:Nat) (rs:List Kw) (b:Option Addr) (m c:Nat) (qs:List Int) (w:iW),a<=1048578->m<=1048576->(∀r∈rs,r.2.2.length<=1048576)->dO w ad a rs->(b=O->c=0)->gP w b m qs->
 iK Tryz.prog f #[iA #[Y ad a cap],Y b m c] w (tF w (jV (rs.map aE) qs) (mp (rs.map aE) qs))
theorem Tk.fset{w b:iW}{t:TypeId}{xs:List iX}(T:Tk w b hs)(n:Nat)(a:hs[n]?=X (g,g+1,aP t g xs))(c:w.heap.size<=g)(k:Nat)(u:iX)(d:∀x∈hs',x∈hs/\(x.2.1<=g∨g+1<=x.1)):Tk w (b.setCell ⟨g,k,O⟩ u) ((g,g+1,aP t g (xs.set k u))::hs'):=by
 refine T.touch ⟨rfl,rfl,rfl,by simp[World.setCell],λi _ hi=>?_⟩ c (T.hi n a) (aP.loc _ _ _) ((T.get n a).set k u) d
 exact aO _ _ _ _ (show i≠g by unfold Bo at hi;omega)
theorem Tk.grownB{w b y:iW}{row:Option Nat}(T:Tk w b hs)(a:b.grownBy y row)(d:∀q,row=X q->B<=q)(h:w.heap.size<=B)(i:∀x∈hs,x.2.1<=B):Tk w y hs:=by
 refine⟨T.1.grown a T.1.size (λq j=>bV h (d q j)),λx f=>?_⟩
 obtain⟨h1,c,g⟩:=T.2 x f;have:=i x f;have:=a.size;exact⟨by omega,c,c b y (λq k l=>a.block q (by omega) (λe=>by have:=d q e.symm;omega)) g⟩
theorem aG.setAt{t:TypeId}{hi:Nat}{xs:List iX}{w:iW}(h:aG t lo hi (Y (X ⟨g,0,O⟩) n cap) n xs w)(k:Nat)(u:iX):aG t lo hi (Y (X ⟨g,0,O⟩) n cap) n (xs.set k u) (w.setCell ⟨g,k,O⟩ u):=by
 have a:=h.lt g rfl;exact .inr ⟨g,cap,rfl,a.1,a.2.1,h.flt.set k u⟩
theorem abH (w:iW) {o:Oper} {Q:Exit->Act->iW->Prop} (k:o.guard=O) (s x:Operand)
 (B:o.op=.call {callee:=.builtin .append,args:= #[s,x],argTypes:= #[36,36]})
 (base:Nat) (i:TypeInfo) (hi:Tryz.prog.info? 3=X i) (F:i.zero=X (I J 0)) (j:i.size=1) (t:i.bytes=8)
 (v:iX) (n:Nat) (xs:List iX) (hs:a.eval s=v) (f:w.ownsRow base 3 1 v n xs)
 (ls:List Int) (m:Nat) (G:ls.length=m) (u:iX) (z:a.eval x=u) (C:kM w u ls) (r:n+m<=maxLen) (d:(n+m)*8<=140737488355328) (g:base<=w.heap.size)
 (h:∀p w',w'.ownsRow base 3 1 p (n+m) (xs++aD ls)->w.grownBy w' v.ownBlock->wpList Tryz.prog ops Q rest (a.put o.dst p) w'):wpList Tryz.prog ops Q (o::rest) a w:=by
 subst G;obtain⟨ad,c,rfl,h0,E⟩:=C;cases ls with
 |nil=>
  cases ad with
  |none=>
   rw[h0 rfl]at z;exact IQ k s x 36 B base 3 i 1 Tryz.underlying36 hi v n xs hs f z (h v w (by simpa[aD]using f) (zk _ _))
  |some q=>exact cS w k s x 36 B base 3 i (I J 0) 1 8 Tryz.underlying36 hi F j t rfl (by decide) v n xs hs f q 0 c [] z rfl (λ_ _ e=>by simp at e) (λ_ e=>by cases e) r d g (λp w' h1 A _=>h p w' h1 A)
 |cons y l=>
  obtain⟨b,D,e,-,H⟩:=E.2.2 (by simp)
  subst e;exact cS w k s x 36 B base 3 i (I J 0) 1 8 Tryz.underlying36 hi F j t rfl (by decide) v n xs hs f ⟨b,D,O⟩ _ c (aD (y::l)) z (by simp[aD]) E.cells (rB _) r d g (λp w' h1 A _=>h p w' h1 A)
theorem Mk{f f':Nat->α}{b:α}(a:∀i,i≠k->f' i=f i)(c:f' k=b):((List.range n).map f).set k b=(List.range n).map f':=by
 apply lH;intro i;rw[th];by_cases e:k=i
 ·subst e;by_cases h:k<n
  ·simp[h,c]
  ·simp[h]
 ·rw[ai e,bh,bh];by_cases h:i<n
  ·simp[h,a i (Ne.symm e)]
  ·simp[h]
theorem rX(f:Nat->α)(h:k<n):((List.range n).map f)[k]?=X (f k):=by simp[h]
theorem cC.snoc2 {W y:iW} {v u':iX} {r:Kw} (h:cC W B v rs) (p:∀x∈rs,∀g,x.2.1.ownBlock=X g->g<C) (o:B<=C) (k:aG 3 C W.heap.size r.2.1 r.2.2.length (aD r.2.2) W) (w:r.2.2.length<=maxLen)
 (d:W.grownBy y v.ownBlock) (z:y.ownsRow B 189 2 u' (rs++[r]).length (d8 (rs++[r]))):cC y B u' (rs++[r]):=by
 have u:=nL h.1;have i:∀(t:iX) (g:Nat),v.ownBlock=X g->∀{lo hi n:Nat} {xs:List iX},aG 3 lo hi t n xs W->t.ownBlock≠X g:=by
  intro t g d lo hi n xs hs e;obtain⟨-,-,cs,q⟩:=u g d;obtain⟨-,-,l,q'⟩:=hs.lt g e;exact DU q' q
 refine⟨z,?_,?_⟩
 ·intro x c;rcases bJ.1 c with c|c
  ·exact⟨((h.2.1 x c).1.grown d (λg e f=>i _ g f (h.2.1 x c).1 e)).up d.size,(h.2.1 x c).2⟩
  ·simp only[bU]at c;subst c;exact⟨((k.grown d (λg e f=>i _ g f k e)).dn o).up d.size,w⟩
 ·refine iE.2 ⟨h.2.2,mQ _ _,?_⟩;intro a s b j g m f;simp only[bU]at j;subst j;have A:=p a s g m;have D:=(k.lt g f).1;omega
def fJ(u:Nat->Bool)(k i:Nat):Int:=if i<k/\u i=iV then(da u i:Int)else 0
theorem Om(u:Nat->Bool)(i:Nat):fJ u 0 i=0:=by rw[fJ,ai (by omega)]
theorem Pr(h:u k=iF)(i:Nat):fJ u (k+1) i=fJ u k i:=by
 unfold fJ;by_cases e:i=k
 ·subst e;rw[h];simp
 ·have:(i<k+1)↔(i<k):=by omega
  simp only[this]
theorem PM(i:Nat)(hi:i≠k):fJ u (k+1) i=fJ u k i:=by
 unfold fJ;have:(i<k+1)↔(i<k):=by omega
 simp only[this]
theorem EH(hi:i<k)(h:u i=iV):fJ u k i=da u i:=by rw[fJ,ak ⟨hi,h⟩]
def ke(z c m g a pb b:Nat)(d f e:iX)(qs:List Int)(u:Nat->Bool)(k:Nat):List nK:=
 (b,b+1,bS b #[e] 30)::(pb,pb+1,aP 3 pb (aD ((List.range a).map (fJ u k))))::(g,g+1,aP 4 g (bN ((List.range a).map u)))::[(z+2,c,aG 3 (z+2) c f m (aD qs)),(z+1,z+1+1,bS (z+1) #[Y O 0 0] 30),(z,z+1,bS z #[d] 30)]
def fM(wr W:iW)(xb vb vc:Nat)(lf:Bool)(xs:List Int):Prop:=W.heap[xb]?=X (iC #[iB lf,Y (X ⟨vb,0,O⟩) 4 vc] 189 (0,0))/\aP 3 vb (aD xs) W/\iL wr.heap.size wr W/\wr.heap.size<=xb/\wr.heap.size<=vb
theorem fM.ne{wr W:iW}(h:fM wr W xb vb vc lf xs):xb≠vb:=by
 intro e;obtain⟨h1,⟨cs,a,-⟩,-⟩:=h;rw[e,a]at h1;injection h1 with h1
 injection h1 with _ h1
 simp at h1
theorem fM.vlt{wr W:iW}(h:fM wr W xb vb vc lf xs):vb<W.heap.size:=by
 obtain⟨-,⟨cs,a,-⟩,-⟩:=h;exact(aK.1 a).1
theorem fM.set{wr W:iW}(h:fM wr W xb vb vc lf xs)(n:Int):fM wr (W.setCell ⟨vb,q,O⟩ (I J n)) xb vb vc lf (xs.set q n):=by
 refine⟨cX h.1 h.ne _ _,?_,h.2.2.1.setCell (p:=⟨vb,q,O⟩) h.2.2.2.2 _,h.2.2.2⟩;have:=h.2.1.set q (I J n);have e:(aD xs).set q (I J n)=aD (xs.set q n):=by simp[aD,List.map_set]
 rw[e]at this;exact this
theorem Dt{a:iW}(h:a.heap[q]?=X (iC #[] 3 (0,0)))(b:B<=q):a.ownsRow B 3 1 (Y (X ⟨q,0,O⟩) 0 0) 0 []:=⟨rfl,.inr ⟨q,0,#[],rfl,b,h,am _,by unfold maxLen;omega,rfl,rfl⟩⟩
theorem fM.late{wr W:iW}(a:iL wr.heap.size wr W)(b:aP 3 vb (aD xs) W)(c:wr.heap.size<=vb):fM wr (W.alloc (iC #[iB lf,Y (X ⟨vb,0,O⟩) 4 vc] 189)) W.heap.size vb vc lf xs:=
 ⟨aB W _,b.below (aZ),a.alloc a.size _,a.size,c⟩
theorem fM.early{wr W:iW}{a c:iX}(j:iL wr.heap.size wr W)(h:W.heap[xb]?=X (iC #[a,c] 189 (0,0)))(d:wr.heap.size<=xb)(g:aP 3 vb (aD xs) W)(k:wr.heap.size<=vb):fM wr ((W.setCell ⟨xb,0,O⟩ (iB lf)).setCell ⟨xb,1,O⟩ (Y (X ⟨vb,0,O⟩) 4 vc)) xb vb vc lf xs:=by
 have f:vb≠xb:=by
  intro e;obtain⟨cs,b,-⟩:=g;rw[e,h]at b;injection b with b
  injection b with _ b
  simp at b
 refine⟨dz (dz h 0 _) 1 _,?_,(j.setCell (p:=⟨xb,0,O⟩) d _).setCell (p:=⟨xb,1,O⟩) d _,d,k⟩;obtain⟨cs,b,i⟩:=g;exact⟨cs,cX (cX b f _ _) f _ _,i⟩
theorem Bp{W:iW}{v:iX}(h:W.ownsRow B 3 1 v 4 (aD xs)):∃vb vc,v=Y (X ⟨vb,0,O⟩) 4 vc/\aP 3 vb (aD xs) W/\B<=vb:=by
 obtain⟨ad,c,e,q⟩:=(aG.of h).form;obtain⟨g,rfl,h1,-⟩:=q (by omega)
 subst e;exact⟨g,c,rfl,(aG.of h).flt,h1⟩
def eD(u:Nat->Bool)(lf:Bool)(ls:List Int)(q:Nat):List Int:=if lf=iV then ls else(ls.map (fX u)).take q++ls.drop q
theorem J8(u:Nat->Bool)(lf:Bool)(ls:List Int):eD u lf ls 0=ls:=by unfold eD;split<;>simp
theorem Cm{ls:List Int}{n:Int}(h:ls[q]?=X n):(eD u iF ls q)[q]?=X n:=by
 have a:=(aC.1 h).1;rw[eD,ai (by decide),cu (by rw[cD];omega),cD,bm,qg (by omega),lh,ly]
 simpa using h
theorem Bd{ls:List Int}{n:Int}(h:ls[q]?=X n):(eD u iF ls q).set q (fX u n)=eD u iF ls (q+1):=by
 obtain⟨b,e⟩:=aC.1 h;have a:q<(ls.map (fX u)).length:=by rw[bm];exact b
 have c:(ls.map (fX u))[q]=fX u n:=by rw[Cs,e]
 rw[eD,eD,ai (by decide),ai (by decide),jz _ _ (by rw[cD];omega),cD,bm,qg (by omega),lh,jh b,cA,ft a,c,fW]
 rfl
theorem MW{ls:List Int}{n:Int}(h:ls[q]?=X n)(b:fX u n=n):eD u iF ls q=eD u iF ls (q+1):=by
 obtain⟨h1,a⟩:=aC.1 (Cm (u:=u) h);rw[<-Bd h,b];have:=Kr h1;rw[a]at this;exact this.symm
theorem Sc{ls:List Int}(h:ls.length=4)(a:lf=iV∨q=4):(⟨lf,eD u lf ls q⟩:Kn)=dT u ⟨lf,ls⟩:=by
 unfold eD dT;cases lf with
 |true=>rfl
 |false=>
  rcases a with a|rfl
  ·cases a
  ·rw[ai (show¬(iF=iV)by decide),ai (show¬(iF=iV)by decide),ci (by rw[bm];omega),mw (by omega),dS]
def m8(z a m:Nat)(b c:iX)(qs:List Int):List nK:=[(z+2,a,aG 3 (z+2) a c m (aD qs)),(z+1,z+1+1,bS (z+1) #[Y O 0 0] 30),(z,z+1,bS z #[b] 30)]
theorem Mt:Zp 130:=by
 intro ad c cap rs ra m rc qs w hl hm bW h b1 br;have T0:=af (Tk.two w #[Y ad c cap] #[Y O 0 0] 30 30);have Z0:ah (((w.alloc (iC #[Y ad c cap] 30)).alloc (iC #[Y O 0 0] 30)).heap.size=w.heap.size+2):=by show _=_;simp
 have H:=af h;have HQ:=af br;have R:=af br.1;have ck:=af b1;have ch:=af bW;have aT:=af (show(rs.map aE).length=c by rw[bm];exact h.1)
 clear h bW br b1;obtain⟨L,hL⟩:=aq (rs.map aE);have HL:=af hL;rw[hL]at aT⊢;clear hL;have BE:ah (iL ((w.alloc (iC #[Y ad c cap] 30)).alloc (iC #[Y O 0 0] 30)).heap.size ((w.alloc (iC #[Y ad c cap] 30)).alloc (iC #[Y O 0 0] 30)) (((w.alloc (iC #[Y ad c cap] 30)).alloc (iC #[Y O 0 0] 30)).alloc (iC #[] 3))):=aZ;have OE:ah ((((w.alloc (iC #[Y ad c cap] 30)).alloc (iC #[Y O 0 0] 30)).alloc (iC #[] 3)).ownsRow (w.heap.size+2) 3 1 (Y (X ⟨w.heap.size+1+1,0,O⟩) 0 0) 0 []):=Ej _ Z0.o;have SE:ah (kM (((w.alloc (iC #[Y ad c cap] 30)).alloc (iC #[Y O 0 0] 30)).alloc (iC #[] 3)) (Y ra m rc) qs):=by
  have:=R.o;rw[<-this];exact⟨ra,rc,rfl,ck.o,by rw[this];exact(HQ.o.below T0.o.1).below BE.o⟩
 obtain⟨i0,bL,ca,cb,aX⟩:=bO mr;have I0:=af bL;have Y0:=af ca;have Y1:=af cb;have Y2:=af aX;have bA:ah (w.heap.size+2<=(((w.alloc (iC #[Y ad c cap] 30)).alloc (iC #[Y O 0 0] 30)).alloc (iC #[] 3)).heap.size):=by show _<=_;simp
 clear bL ca cb aX;go_enter Tryz.func130,Tryz.ntmps130;go_wp2_with (at_builtin;refine abH _ rfl _ _ rfl (w.heap.size+2) i0 I0.o Y0.o Y1.o Y2.o _ 0 [] rfl OE.o qs m R.o _ rfl SE.o ?c1 ?c2 bA.o ?_)
 case c1=>unfold maxLen;omega
 case c2=>omega
 intro sv w1 o1 g1;have bI:=BE.o.grown g1 BE.o.size (λq hq=>by cases hq;rw[Z0.o];exact am _)
 have T1:ah (Tk w w1 (m8 w.heap.size w1.heap.size m (Y ad c cap) sv qs)):=by
  have:=T0.o.add bI (P:=aG 3 (w.heap.size+2) w1.heap.size sv m (aD qs)) (by rw[Z0.o];exact aG.loc _ _ _ _ _ _) (aG.of o1)
  rw[Z0.o]at this;exact this
 obtain⟨sa,N,rfl,-⟩:=(aG.of o1).form;clear o1 g1 bI SE OE BE T0 Z0 bA;obtain⟨z,hz⟩:=aq w.heap.size;have HZ:=af hz;rw[hz]at T1⊢;clear hz;have KR:ah (∀W hs,Tk w W hs->dO W ad c rs):=λW hs hW=>H.o.below hW.1
 have QR:ah (∀W hs,Tk w W hs->gP W ra m qs):=λW hs hW=>HQ.o.below hW.1
 have bx:w1.cell? ⟨z,0,O⟩=X (Y ad c cap):=T1.o.at 2 0 rfl rfl;go_wp2_with fail;refine(zG ad c cap rs w1 hl (KR.o _ _ T1.o)).mono ?_;rw[HL.o];rintro e w2 ⟨rfl,b2⟩;have T2:=af (T1.o.below b2);clear b2 T1 bx;obtain⟨A,aH⟩:=aq w1.heap.size;rw[aH]at T2;clear aH;obtain⟨b0,bk⟩:=aq (cj L);rw[bk];have E0:ah (b0=(cj L&&(qs.take 0).all (bB L))):=by show _=_;rw[<-bk];simp
 clear bk;go_wp2;go_loopw [7,8] (λov Z W=>∃(k:Nat) (b:Bool),k<=m/\Z=I J k/\ov=iB b/\ah (b=(cj L&&(qs.take k).all (bB L)))/\ah (Tk w W (m8 z A m (Y ad c cap) (Y sa m N) qs))) (λ_ Z _=>m-(intOf Z).toNat)
 case atStart=>exact⟨0,b0,aJ _,rfl,rfl,E0,T2⟩
 case round=>
  obtain⟨k,b,hk,rfl,rfl,HB,HT⟩:=hrel;clear T2 E0;have bx:wr.cell? ⟨z,0,O⟩=X (Y ad c cap):=HT.o.at 2 0 rfl rfl;by_cases ab:(k:Int)<m/\b=iV
  ·obtain⟨bX,rfl⟩:=ab;obtain⟨r,V⟩:∃r,qs[k]?=X r:=⟨_,ay (by have:=R.o;omega)⟩
   obtain⟨rb,ro,e,aV,aW⟩:=(QR.o _ _ HT.o).at V;subst e;have k0:(0:Int)<=k:=by omega
   have TD:=af HT.o.drew;have C:=af (yK ad c cap rs r wr.drew hl (KR.o _ _ TD.o));rw[HL.o]at C;have cf:ah (bB L r=(cj L&&(qs.take (k+1)).all (bB L))):=by
    show _=_;rw[fm,V,Ce];have:=HB.o;simp only[qR,List.all_cons,List.all_nil,Eg];rw[<-Bool.and_assoc,<-this,gU]
   have KP:ah (∀W,iL wr.drew.heap.size wr.drew W->W.cell? ⟨z,0,O⟩=X (Y ad c cap)/\W.cell? ⟨rb,ro+k,O⟩=X (I J r)):=λW hW=>
    ⟨(TD.o.below hW).at 2 0 rfl rfl,(hW.cell (show rb<wr.drew.heap.size from aV)).trans aW⟩
   clear V HB;go_wp2;go_region_held3 (λw'=>w'.cell? ⟨z,0,O⟩=X (Y ad c cap)/\w'.cell? ⟨rb,ro+k,O⟩=X (I J r)) (first|go_keep|exact KP.o _ BB.o) ((go_at_call 94;(with_reducible refine cn C.o ?_);rintro en w3 ⟨rfl,bb⟩;have BB:=af bb;clear bb))
   all_goals
    have T3:=af (TD.o.below BB.o);clear TD KP C HT BB;go_wp2;go_roundw
    case rel=>exact⟨k+1,bB L r,by omega,by go_num,rfl,cf,T3⟩
    case measure=>simp[intOf];omega
  ·have an:ah (b=qb L qs):=by
    show _=_;rw[qb,HB.o];by_cases bR:k<m
    ·have ct:b=iF:=by
      cases b with
      |false=>rfl
      |true=>exact absurd ⟨by omega,rfl⟩ ab
     have h1:=HB.o;rw[ct]at h1;rw[<-h1];cases hA:cj L with
     |false=>rfl
     |true=>
      rw[hA,gU]at h1;rw[gU]
      symm
      rw[sY]at*;have h2:=h1.symm;rw[sY]at h2;obtain⟨x,d,hn⟩:=h2;exact⟨x,wU d,hn⟩
    ·rw[ci (by have:=R.o;omega)]
   have bl:ah (¬((k:Int)<m/\b=iV)):=ab;clear HB ab;cases b with
   |false=>
    have E:ah (jV L qs=L/\mp L qs=qs):=⟨by rw[jV,<-an.o];rfl,by rw[mp,<-an.o];rfl⟩
    by_cases bR:(k:Int)<m;all_goals
     go_wp2_with fail;refine(Ab ad c cap rs wr hl ch.o (KR.o _ _ HT.o)).mono ?_;rw[HL.o];rintro e w3 ⟨v,rfl,uv,K,rfl,ko,b6,b3⟩;obtain⟨ua,uc,rfl⟩:=ko.form;have T3:=af (HT.o.below b3);have K3:ah (dB wr.heap.size w3.heap.size (Y ua K.length uc) L w3):=⟨K,b6,ko.fK⟩;have cR:=b3.size;have cw:A<=wr.heap.size:=HT.o.hi 0 rfl;have r0:w3.cell? ⟨z+1,0,O⟩=X (Y O 0 0):=T3.o.at 1 0 rfl rfl;have f0:w3.frozen? ⟨z+1,0,O⟩=iF:=T3.o.fr 1 0 rfl;obtain⟨un,b7⟩:=aq K.length;rw[b7]at K3⊢;clear ko b6 b3 b7 bx;have FR:ah ((w3.setCell ⟨z+1,0,O⟩ (Y ua un uc)).heap[z+1]?=X (iC #[Y ua un uc] 30 (0,0))):=dz (T3.o.get 1 rfl) 0 _;have a9:ah (tF w (jV L qs) (mp L qs) (G (iU #[iA #[Y ua un uc],Y sa m N])) (w3.setCell ⟨z+1,0,O⟩ (Y ua un uc))):=by
      rw[E.o.1,E.o.2];have cc:(w3.setCell ⟨z+1,0,O⟩ (Y ua un uc)).heap.size=w3.heap.size:=by simp[World.setCell]
      have ap:∀q,z+2<=q->(w3.setCell ⟨z+1,0,O⟩ (Y ua un uc)).heap[q]?=w3.heap[q]?:=λq hq=>aO _ _ _ _ (show q≠z+1 by omega)
      have cK:z+1+1<=wr.heap.size:=HT.o.hi 1 rfl;refine⟨_,_,wr.heap.size,w3.heap.size,z+2,A,rfl,?_,?_,by rw[HZ.o];omega,by rw[cc];exact am _,by rw[HZ.o];omega,by rw[cc];omega,.inr cw,?_⟩
      ·exact dB.loc _ _ _ _ _ _ (λq q1 q2=>ap q (by omega)) K3.o
      ·rw[R.o];exact aG.loc _ _ _ _ _ _ _ _ (λq q1 q2=>ap q q1) (T3.o.get 0 rfl)
      ·exact T3.o.1.setCell (p:=⟨z+1,0,O⟩) (by rw[HZ.o];show z<=z+1;omega) _
     go_wp2;exact az (pE (p:=4) (q:=5) rfl _ _ (z+1) _ rfl FR.o) rfl a9.o
   |true=>
    have bR:¬((k:Int)<m):=λq=>bl.o ⟨q,rfl⟩
    have TO:=af (To an.o.symm);have E:ah (jV L qs=kt L qs/\mp L qs=qs.map (fX (bE L qs))):=⟨by rw[jV,ak an.o.symm],by rw[mp,ak an.o.symm]⟩
    obtain⟨i1,hi1,aN,aQ,aR⟩:=bO Cf;have gz:wr.heap.size=wr.heap.size:=rfl;go_wp2_with (at_make;refine vJ _ rfl _ _ 98 rfl wr.heap.size 4 i1 (iB iF) 1 Tryz.underlying98 hi1 aN aQ J J _ _ c rfl rfl rfl rfl (by rw[aR];omega) (by unfold maxLen;omega) (am _) ?_)
    intro w3 D T;rw[uR]at D;clear hi1 aN aQ aR gz;have b3:iL wr.heap.size wr w3:=(ax _ _).grown T (am _) (λk hk=>by cases hk)
    have b9:w.heap.size<=wr.heap.size:=HT.o.1.size;have aH:A<=wr.heap.size:=HT.o.hi 0 rfl;have ce:z+1+1<=wr.heap.size:=HT.o.hi 1 rfl;have T3:ah (Tk w w3 ((wr.heap.size,wr.heap.size+1,aP 4 wr.heap.size (bN ((List.range c).map (bE L (qs.take 0)))))::m8 z A m (Y ad c cap) (Y sa m N) qs)):=by
     refine(HT.o.below b3).put (D.lt _ rfl).2 (aP.loc _ _ _) ?_;have e:List.replicate c (iB iF)=bN ((List.range c).map (bE L (qs.take 0))):=by
      apply lH;intro i;by_cases h:i<c
      ·simp[bN,h,bE]
      ·simp[bN,h]
     have:=(aG.of D).flt;rw[e]at this;exact this
    obtain⟨g,hg⟩:=aq wr.heap.size;rw[hg]at T3 aH ce b9⊢;clear D T b3 HT hg bx;go_wp2;go_loopw [10] (λZ W=>∃j:Nat,j<=m/\Z=I J j/\ah (Tk w W ((g,g+1,aP 4 g (bN ((List.range c).map (bE L (qs.take j)))))::m8 z A m (Y ad c cap) (Y sa m N) qs))) (λZ _=>m-(intOf Z).toNat)
    case atStart=>exact⟨0,aJ _,rfl,T3⟩
    case round=>
     obtain⟨j,hj,rfl,S⟩:=hrel;clear T3;have bx:wr.cell? ⟨z,0,O⟩=X (Y ad c cap):=S.o.at 3 0 rfl rfl;by_cases bX:(j:Int)<m
     ·obtain⟨r,V⟩:∃r,qs[j]?=X r:=⟨_,ay (by have:=R.o;omega)⟩
      obtain⟨rb,ro,e,aV,aW⟩:=(QR.o _ _ S.o).at V;have e':=e;subst e';have j0:(0:Int)<=j:=by omega
      have TD:=af S.o.drew;have C:=af (Wf ad c cap rs r wr.drew hl (KR.o _ _ TD.o) (by rw[HL.o];exact TO.o.1) (by rw[HL.o];exact TO.o.2 r (aL V)))
      rw[HL.o]at C;have cl:=af V;have KP:ah (∀W,iL wr.drew.heap.size wr.drew W->W.cell? ⟨z,0,O⟩=X (Y ad c cap)/\W.cell? ⟨rb,ro+j,O⟩=X (I J r)):=λW hW=>
       ⟨(TD.o.below hW).at 3 0 rfl rfl,(hW.cell (show rb<wr.drew.heap.size from aV)).trans aW⟩
      clear V S;go_wp2;go_region_held3 (λw'=>w'.cell? ⟨z,0,O⟩=X (Y ad c cap)/\w'.cell? ⟨rb,ro+j,O⟩=X (I J r)) (first|go_keep|exact KP.o _ BB.o) ((go_at_call 173;(with_reducible refine cn C.o ?_);rintro en w4 ⟨hg,rfl,h1,h2,h3,bb⟩;have BB:=af bb;have HF:=af h3;have bw:=af h1;have bz:=af h2;clear bb h1 h2 h3))
      all_goals
       have bJ:g+1<=wr.drew.heap.size:=TD.o.hi 0 rfl;have cv:g+1<=hg:=bV bJ bw.o;have T4:ah (Tk w w4 ((hg,hg+1,aP 4 hg (bN ((List.range c).map (dN L r))))::(g,g+1,aP 4 g (bN ((List.range c).map (λx=>bE L (qs.take j) x||(decide (x<0)&&dN L r x)))))::m8 z A m (Y ad c cap) (Y sa m N) qs)):=by
        have e:(λx=>bE L (qs.take j) x||(decide (x<0)&&dN L r x))=bE L (qs.take j):=by funext x;simp
        rw[e];exact(TD.o.below BB.o).put bz.o (aP.loc _ _ _) HF.o
       clear TD KP C BB HF bw bz aV aW bJ bx;go_wp2;go_loopw [12] (λZ W=>∃i:Nat,i<=c/\Z=I J i/\ah (Tk w W ((hg,hg+1,aP 4 hg (bN ((List.range c).map (dN L r))))::(g,g+1,aP 4 g (bN ((List.range c).map (λx=>bE L (qs.take j) x||(decide (x<i)&&dN L r x)))))::m8 z A m (Y ad c cap) (Y sa m N) qs))) (λZ _=>c-(intOf Z).toNat)
       case atStart=>exact⟨0,aJ _,rfl,T4⟩
       case round=>
        obtain⟨i,hi,rfl,TI⟩:=hrel;clear T4;by_cases a1:(i:Int)<c
        ·have bM:i<c:=by omega
         have cW:(0:Int)<=i:=by omega
         have bH:aP 4 hg (bN ((List.range c).map (dN L r))) wr:=TI.o.get 0 rfl;have bg:aP 4 g (bN ((List.range c).map (λx=>bE L (qs.take j) x||(decide (x<i)&&dN L r x)))) wr:=TI.o.get 1 rfl
         have c1:=bH.cell (pT (rX (dN L r) bM));have c2:=bg.cell (pT (rX (λx=>bE L (qs.take j) x||(decide (x<i)&&dN L r x)) bM))
         have f2:=bg.frozen i;simp only[Nat.lt_irrefl,oQ,lZ,yg]at c2;obtain⟨uu,bs⟩:=aq (bE L (qs.take j) i);obtain⟨hh,bo⟩:=aq (dN L r i);have NX:ah (Tk w (wr.setCell ⟨g,i,O⟩ (iB (uu||hh))) ((hg,hg+1,aP 4 hg (bN ((List.range c).map (dN L r))))::(g,g+1,aP 4 g (bN ((List.range c).map (λx=>bE L (qs.take j) x||(decide (x<i+1)&&dN L r x)))))::m8 z A m (Y ad c cap) (Y sa m N) qs)):=by
          have:=TI.o.fset 1 rfl b9 i (iB (uu||hh)) (hs':=(hg,hg+1,aP 4 hg (bN ((List.range c).map (dN L r))))::m8 z A m (Y ad c cap) (Y sa m N) qs) (by
           intro x d;simp only[m8,be,eI,eX]at d⊢;rcases d with rfl|rfl|rfl|rfl
           ·exact⟨.inl rfl,.inr cv⟩
           ·exact⟨.inr (.inr (.inl rfl)),.inl aH⟩
           ·exact⟨.inr (.inr (.inr (.inl rfl))),.inl ce⟩
           ·exact⟨.inr (.inr (.inr (.inr rfl))),.inl (by simp only;omega)⟩)
          rw[yr,Mk (f':=λx=>bE L (qs.take j) x||(decide (x<i+1)&&dN L r x)) (λx d=>by
           have:(x<i+1)↔(x<i):=by omega
           simp only[this]) (by simp[bs,bo])]at this
          refine this.drop (λx d=>?_)
          simp only[be]at d⊢;rcases d with d|d|d
          ·exact .inr (.inl d)
          ·exact .inl d
          ·exact .inr (.inr d)
         rw[bs]at c2;rw[bo]at c1;clear bH bg TI bs bo;cases uu with
         |true=>
          have ao:=NX;simp only[Bool.true_or]at ao;clear NX;go_wp2;go_roundw
          case rel=>exact⟨i+1,by omega,by go_num,ao⟩
          case measure=>simp[intOf];omega
         |false=>
          have ao:=NX;simp only[xp]at ao;clear NX;go_wp2;go_roundw
          case rel=>exact⟨i+1,by omega,by go_num,ao⟩
          case measure=>simp[intOf];omega
        ·have NX:ah (Tk w wr ((g,g+1,aP 4 g (bN ((List.range c).map (bE L (qs.take (j+1))))))::m8 z A m (Y ad c cap) (Y sa m N) qs)):=by
          have e:(List.range c).map (λx=>bE L (qs.take j) x||(decide (x<i)&&dN L r x))=(List.range c).map (bE L (qs.take (j+1))):=by
           refine oY (λx d=>?_)
           have:=jX.1 d;rw[aS (show x<i by omega),gU,bE,bE,fm,cl.o,List.any_append]
           simp
          have:=TI.o;rw[e]at this;exact this.drop (λx d=>ur _ d)
         clear TI;go_wp2;go_roundw
         case rel=>exact⟨j+1,by omega,by go_num,NX⟩
         case measure=>simp[intOf];omega
     ·have TU:ah (Tk w wr ((g,g+1,aP 4 g (bN ((List.range c).map (bE L qs))))::m8 z A m (Y ad c cap) (Y sa m N) qs)):=by
       have:=S.o;rw[ci (by have:=R.o;omega)]at this
       exact this
      clear S;obtain⟨U,hU⟩:=aq (bE L qs);have HU:=af hU;rw[hU]at TU E;clear hU;obtain⟨i1,hi1,aN,aQ,aR⟩:=bO mr;go_wp2_with (at_make;refine vJ _ rfl _ _ 36 rfl wr.heap.size 3 i1 (I J 0) 1 Tryz.underlying36 hi1 aN aQ J J _ _ c rfl rfl rfl rfl (by rw[aR];omega) (by unfold maxLen;omega) (am _) ?_)
      intro w4 D T;rw[uR]at D;clear hi1 aN aQ aR;have b4:iL wr.heap.size wr w4:=(ax _ _).grown T (am _) (λk hk=>by cases hk)
      have bK:g+1<=wr.heap.size:=TU.o.hi 0 rfl;have aU:wr.heap.size+1<=w4.heap.size:=(D.lt _ rfl).2;have T5:ah (Tk w (w4.alloc (iC #[Y O 0 0] 30)) (ke z A m g c wr.heap.size w4.heap.size (Y ad c cap) (Y sa m N) (Y O 0 0) qs U 0)):=by
       refine((TU.o.below b4).put aU (aP.loc _ _ _) ?_).cell _ _;have e:List.replicate c (I J 0)=aD ((List.range c).map (fJ U 0)):=by
        apply lH;intro i;by_cases h:i<c
        ·simp[aD,h,Om]
        ·simp[aD,h]
       have:=(aG.of D).flt;rw[e]at this;exact this
      have K5:ah (cC (w4.alloc (iC #[Y O 0 0] 30)) (w4.heap.size+1) (Y O 0 0) []):=cC.nil _ _;obtain⟨pb,a3⟩:=aq wr.heap.size;obtain⟨t,a2⟩:=aq w4.heap.size;rw[a3]at T5 bK aU⊢;rw[a2]at T5 K5 aU;clear D T b4 TU a3 bx;go_wp2;clear a2;generalize w4.alloc (iC #[Y O 0 0] 30)=w5 at T5 K5⊢;go_loopw [15] (λZ W=>∃(k:Nat) (ov:iX) (K:List Kw),k<=c/\Z=I J k/\ah (K.map aE=kK U L k)/\ah (Tk w W (ke z A m g c pb t (Y ad c cap) (Y sa m N) ov qs U k))/\ah (cC W (t+1) ov K)) (λZ _=>c-(intOf Z).toNat)
      case atStart=>exact⟨0,_,[],aJ _,rfl,rfl,T5,K5⟩
      case round=>
       obtain⟨k,ov,K,cM,rfl,ag,TK,KO⟩:=hrel;clear T5 K5;have bx:wr.cell? ⟨z,0,O⟩=X (Y ad c cap):=TK.o.at 5 0 rfl rfl;by_cases bX:(k:Int)<c
       ·have bT:k<c:=by omega
        have k0:(0:Int)<=k:=by omega
        have bu:wr.cell? ⟨g,k,O⟩=X (iB (U k)):=(show aP 4 g (bN ((List.range c).map U)) wr from TK.o.get 2 rfl).cell (pT (rX U bT));cases hu:U k with
        |false=>
         rw[hu]at bu;have TN:ah (Tk w wr (ke z A m g c pb t (Y ad c cap) (Y sa m N) ov qs U (k+1))):=by
          have e:(List.range c).map (fJ U (k+1))=(List.range c).map (fJ U k):=oY (λi _=>Pr hu i)
          unfold ke;rw[e];exact TK.o
         have cm:ah (K.map aE=kK U L (k+1)):=by show _=_;rw[Ay hu];exact ag.o
         clear hu TK ag;go_wp2;go_roundw
         case rel=>exact⟨k+1,ov,K,by omega,by go_num,cm,TN,KO⟩
         case measure=>simp[intOf];omega
        |true=>
         rw[hu]at bu;obtain⟨r,V⟩:∃r,rs[k]?=X r:=⟨_,ay (by have:=H.o.1;omega)⟩
         obtain⟨b,aa,e,hb⟩:=H.o.adr (by omega)
         have e':=e;subst e';have bf:=af (KR.o _ _ TK.o);obtain⟨c0,c1⟩:=bf.o.cell V;obtain⟨ka,kc,bU,cx,kr⟩:=bf.o.2.2.1 r (aL V);have d:L[k]?=X (aE r):=by rw[<-HL.o,bh,V];rfl
         have HX:=af d;obtain⟨lf,kv,ls⟩:=r;simp only at c0 c1 bU kr;subst bU;have h4:ls.length=4:=mR (lR TO.o.1 d);rw[h4]at c1 kr;obtain⟨kb,ko,e,cL,bQ⟩:=kr.2.2 (by omega)
         subst e;have cg:=af bQ;have bD:=af kr;have bd:=af hu;have H4:=af h4;have TD:=af TK.o;have cq:=bx;have wl:=af (show b<wr.heap.size by have:=TK.o.1.size;omega)
         clear kr V d bQ cx hu h4 TK hb;have KS:ah (∀W,iL wr.heap.size wr W->W.cell? ⟨z,0,O⟩=X (Y (X ⟨b,aa,O⟩) c cap)/\W.cell? ⟨b,aa+k*2,O⟩=X (iB lf)/\W.cell? ⟨b,aa+k*2+1,O⟩=X (Y (X ⟨kb,ko,O⟩) 4 kc)):=λW hW=>
          ⟨(TD.o.below hW).at 5 0 rfl rfl,(hW.cell (show b<wr.heap.size from wl.o)).trans c0,(hW.cell (show b<wr.heap.size from wl.o)).trans c1⟩
         have SR:ah (∀W,iL wr.heap.size wr W->∀(j:Nat) (u:iX),(aD ls)[j]?=X u->W.cell? ((⟨kb,ko,O⟩:Addr).add j)=X u):=λW hW j u hj=>(bD.o.below hW).cells j u hj
         have W1:ah (iL wr.heap.size wr (wr.alloc (iC #[] 3)).drew):=(aZ).drew;have WX:ah (iL wr.heap.size wr (wr.alloc (iC #[iB iF,Y O 0 0] 189)).drew):=(aZ).drew;have W2:ah (iL wr.heap.size wr ((wr.alloc (iC #[] 3)).alloc (iC #[iB iF,Y O 0 0] 189)).drew):=((aZ).alloc (by simp) _).drew
         have W3:ah (iL wr.heap.size wr ((wr.alloc (iC #[iB iF,Y O 0 0] 189)).alloc (iC #[] 3)).drew):=((aZ).alloc (by simp) _).drew
         have ze:(wr.alloc (iC #[] 3)).heap.size=wr.heap.size+1:=by simp
         have zx:(wr.alloc (iC #[iB iF,Y O 0 0] 189)).heap.size=wr.heap.size+1:=by simp
         have O1:ah ((wr.alloc (iC #[] 3)).drew.ownsRow wr.heap.size 3 1 (Y (X ⟨wr.heap.size,0,O⟩) 0 0) 0 []):=Dt (aB wr _) (am _);have O2:ah (((wr.alloc (iC #[] 3)).alloc (iC #[iB iF,Y O 0 0] 189)).drew.ownsRow wr.heap.size 3 1 (Y (X ⟨wr.heap.size,0,O⟩) 0 0) 0 []):=Dt ((gn _ _ _ (by simp)).trans (aB wr _)) (am _)
         have O3:ah (((wr.alloc (iC #[iB iF,Y O 0 0] 189)).alloc (iC #[] 3)).drew.ownsRow wr.heap.size 3 1 (Y (X ⟨wr.heap.size+1,0,O⟩) 0 0) 0 []):=Dt (by have:=aB (wr.alloc (iC #[iB iF,Y O 0 0] 189)) (iC #[] 3);rw[zx]at this;exact this) (by omega)
         have X2:ah (((wr.alloc (iC #[] 3)).alloc (iC #[iB iF,Y O 0 0] 189)).drew.heap[wr.heap.size+1]?=X (iC #[iB iF,Y O 0 0] 189 (0,0))):=by have:=aB (wr.alloc (iC #[] 3)) (iC #[iB iF,Y O 0 0] 189);rw[ze]at this;exact this
         have X3:ah (((wr.alloc (iC #[iB iF,Y O 0 0] 189)).alloc (iC #[] 3)).drew.heap[wr.heap.size]?=X (iC #[iB iF,Y O 0 0] 189 (0,0))):=(gn _ _ _ (by simp)).trans (aB wr _)
         have L4:ah ((aD ls).length=4*1):=by show _=_;simp[aD,H4.o]
         clear ze zx;go_upto_region 24 with fail
         go_cut [16] (λcD wc=>∃xb vb vc:Nat,cD=iP (X ⟨xb,0,O⟩)/\ah (fM wr wc xb vb vc lf ls))
         case first=>
          go_region_held3 (λw'=>w'.cell? ⟨z,0,O⟩=X (Y (X ⟨b,aa,O⟩) c cap)/\w'.cell? ⟨b,aa+k*2,O⟩=X (iB lf)/\w'.cell? ⟨b,aa+k*2+1,O⟩=X (Y (X ⟨kb,ko,O⟩) 4 kc)) (first|go_keep|exact KS.o _ W1.o|exact KS.o _ WX.o|exact KS.o _ W2.o|exact KS.o _ W3.o|exact KS.o _ BB.o|exact KS.o _ (BB.o.alloc BB.o.size _)|exact KS.o _ (XL.o.2.2.1)|exact KS.o _ (XE.o.2.2.1)) (first
           |(refine oO _ (by rfl) (.tmp 102) (.tmp 108) 36 (by rfl) wr.heap.size 3 i0 (I J 0) 1 8 Tryz.underlying36 I0.o Y0.o Y1.o Y2.o rfl (by decide) _ 0 [] (by simp[Act.eval]) O1.o ⟨kb,ko,O⟩ 4 kc (aD ls) (by simp[Act.eval]) L4.o (SR.o _ W1.o) (rB _) (by unfold maxLen;omega) (by omega) W1.o.size ?_;intro v6 w6 o6 g6;(have o7:w6.ownsRow wr.heap.size 3 1 v6 4 (aD ls):=o6);(obtain⟨vb,vc,aM,ac,ae⟩:=Bp o7);subst aM;have BB:ah (iL wr.heap.size wr w6):=W1.o.grown g6 W1.o.size (λq hq=>by cases hq;exact am _);have XL:ah (fM wr (w6.alloc (iC #[iB lf,Y (X ⟨vb,0,O⟩) 4 vc] 189)) w6.heap.size vb vc lf ls):=fM.late BB.o ac ae;clear o6 o7 g6 ac ae)
           |(refine oO _ (by rfl) (.tmp 102) (.tmp 108) 36 (by rfl) wr.heap.size 3 i0 (I J 0) 1 8 Tryz.underlying36 I0.o Y0.o Y1.o Y2.o rfl (by decide) _ 0 [] (by simp[Act.eval]) O2.o ⟨kb,ko,O⟩ 4 kc (aD ls) (by simp[Act.eval]) L4.o (SR.o _ W2.o) (rB _) (by unfold maxLen;omega) (by omega) W2.o.size ?_;intro v6 w6 o6 g6;(have o7:w6.ownsRow wr.heap.size 3 1 v6 4 (aD ls):=o6);(obtain⟨vb,vc,aM,ac,ae⟩:=Bp o7);subst aM;have BB:ah (iL wr.heap.size wr w6):=W2.o.grown g6 W2.o.size (λq hq=>by cases hq;exact am _);have F:w6.heap[wr.heap.size+1]?=X (iC #[iB iF,Y O 0 0] 189 (0,0)):=(g6.block (wr.heap.size+1) (aK.1 X2.o).1 (λe=>by simp[Value.ownBlock]at e)).trans X2.o;have d0:=aj _ _ 0 _ _ _ F;have d1:=aj _ _ 1 _ _ _ F;have e0:=aF _ _ 0 _ _ F;have e1:=aF _ _ 1 _ _ F;have XE:ah (fM wr ((w6.setCell ⟨wr.heap.size+1,0,O⟩ (iB lf)).setCell ⟨wr.heap.size+1,1,O⟩ (Y (X ⟨vb,0,O⟩) 4 vc)) (wr.heap.size+1) vb vc lf ls):=fM.early BB.o F (by omega) ac ae;clear o6 o7 g6 ac ae F)
           |(refine oO _ (by rfl) (.tmp 102) (.tmp 108) 36 (by rfl) wr.heap.size 3 i0 (I J 0) 1 8 Tryz.underlying36 I0.o Y0.o Y1.o Y2.o rfl (by decide) _ 0 [] (by simp[Act.eval]) O3.o ⟨kb,ko,O⟩ 4 kc (aD ls) (by simp[Act.eval]) L4.o (SR.o _ W3.o) (rB _) (by unfold maxLen;omega) (by omega) W3.o.size ?_;intro v6 w6 o6 g6;(have o7:w6.ownsRow wr.heap.size 3 1 v6 4 (aD ls):=o6);(obtain⟨vb,vc,aM,ac,ae⟩:=Bp o7);subst aM;have BB:ah (iL wr.heap.size wr w6):=W3.o.grown g6 W3.o.size (λq hq=>by cases hq;show wr.heap.size<=wr.heap.size+1;omega);have F:w6.heap[wr.heap.size]?=X (iC #[iB iF,Y O 0 0] 189 (0,0)):=(g6.block wr.heap.size (aK.1 X3.o).1 (λe=>by simp[Value.ownBlock]at e)).trans X3.o;have d0:=aj _ _ 0 _ _ _ F;have d1:=aj _ _ 1 _ _ _ F;have e0:=aF _ _ 0 _ _ F;have e1:=aF _ _ 1 _ _ F;have XE:ah (fM wr ((w6.setCell ⟨wr.heap.size,0,O⟩ (iB lf)).setCell ⟨wr.heap.size,1,O⟩ (Y (X ⟨vb,0,O⟩) 4 vc)) wr.heap.size vb vc lf ls):=fM.early BB.o F (am _) ac ae;clear o6 o7 g6 ac ae F))
          all_goals
           go_wp2_with fail;go_meet
           case rel=>first
            |exact⟨_,_,_,rfl,XL⟩
            |exact⟨_,_,_,rfl,XE⟩
         case rest=>
          obtain⟨wq,cA⟩:∃wq,wq=wc:=⟨_,rfl⟩;subst cA;obtain⟨xb,vb,vc,b5,XS⟩:=hcut;subst b5;have aw:t+1<=wr.heap.size:=TD.o.hi 0 rfl;have TQ:=af (TD.o.below XS.o.2.2.1);have KQ:=af (KO.o.below XS.o.2.2.1);have co:ah (∀x∈K,∀q,x.2.1.ownBlock=X q->q<wr.heap.size):=λx d q hq=>((KO.o.2.1 x d).1.lt q hq).2.1
          clear O1 O2 O3 X2 X3 W1 W2 W3 WX L4 SR KS bD cg c0 c1 bu cq bf bx;obtain⟨wo,cB⟩:∃wo,wo=wr:=⟨_,rfl⟩;subst cB;have X0:ah (fM wo wq xb vb vc lf (eD U lf ls 0)):=by rw[J8];exact XS
          clear XS TQ KQ;go_wp2;go_loopw [17] (λZ W=>∃q:Nat,q<=4/\Z=I J q/\ah (fM wo W xb vb vc lf (eD U lf ls q))) (λZ _=>4-(intOf Z).toNat)
          case atStart=>exact⟨0,by omega,rfl,X0⟩
          case round=>
           obtain⟨q,cO,rfl,M⟩:=hrel;clear X0;have xl:wr.cell? ⟨xb,0,O⟩=X (iB lf):=aj _ _ 0 _ _ _ M.o.1;by_cases ab:(q:Int)<4/\lf=iF
           ·obtain⟨cG,rfl⟩:=ab;obtain⟨n,hn⟩:∃n,ls[q]?=X n:=⟨_,ay (by have:=H4.o;omega)⟩
            have xk:wr.cell? ⟨xb,1,O⟩=X (Y (X ⟨vb,0,O⟩) 4 vc):=aj _ _ 1 _ _ _ M.o.1;have vq:wr.cell? ⟨vb,q,O⟩=X (I J n):=M.o.2.1.cell (kB (Cm hn));have vf:=M.o.2.1.frozen q;have q0:(0:Int)<=q:=by omega
            obtain⟨n',bp,hc⟩:=lO TO.o.1 (r:=(k:Int)) (by rw[bi];exact HX.o) rfl (show q<4 by omega)
            have bY:ls[q]?=X n':=bp;rw[hn]at bY;cases bY;by_cases av:n<0
            ·have NX:ah (fM wo wr xb vb vc iF (eD U iF ls (q+1))):=by rw[<-MW hn (sr U av)];exact M
             clear hc hn bp M;go_wp2;go_roundw
             case rel=>exact⟨q+1,by omega,by go_num,NX⟩
             case measure=>simp[intOf];omega
            ·obtain⟨a,rfl⟩:∃a:Nat,n=(a:Int):=⟨n.toNat,by omega⟩
             have au:a<k:=by
              rcases hc with hc|⟨-,hc,-⟩
              ·omega
              ·simp only[bi]at hc;omega
             have ar:U a=iV:=by
              have:=BU TO.o HX.o rfl (by rw[HU.o];exact bd.o) (show q<4 by omega) hn
              rw[HU.o]at this;exact this
             have pa:wr.cell? ⟨pb,a,O⟩=X (I J (da U a)):=by
              have hF:aP 3 pb (aD ((List.range c).map (fJ U k))) wr:=(TD.o.below M.o.2.2.1).get 1 rfl;have:=hF.cell (kB (rX (fJ U k) (show a<c by omega)))
              rw[EH au ar]at this;exact this
             have NX:ah (fM wo (wr.setCell ⟨vb,q,O⟩ (I J (da U a))) xb vb vc iF (eD U iF ls (q+1))):=by
              have:=M.o.set (q:=q) (fX U (a:Int));rw[Bd hn,qF]at this;exact this
             have a0:(0:Int)<=a:=by omega
             have al:(a:Int)<c:=by omega
             obtain⟨cE,a4⟩:=aq (da U a);rw[a4]at pa NX;have cV:xb≠vb:=M.o.ne;have cp:ah (fM wo (wr.setCell ⟨vb,q,O⟩ (I J cE)).drew xb vb vc iF (eD U iF ls (q+1))):=⟨NX.o.1,NX.o.2.1,NX.o.2.2.1.drew,NX.o.2.2.2⟩;clear hc hn bp M NX au ar a4;go_wp2;go_region;all_goals
              go_wp2;go_roundw
              case rel=>exact⟨q+1,by omega,by go_num,cp⟩
              case measure=>simp[intOf];omega
           ·have XF:ah (fM wo wr xb vb vc lf (dT U ⟨lf,ls⟩).fD):=by
             have e:=Sc (u:=U) (lf:=lf) (q:=q) H4.o (by
              cases lf with
              |true=>exact .inl rfl
              |false=>exact .inr (by have:¬(q:Int)<4:=λh=>ab ⟨h,rfl⟩
                                     omega))
             have:=M.o;have e2:eD U lf ls q=(dT U ⟨lf,ls⟩).fD:=by rw[<-e]
             rw[e2]at this;exact this
            have TW:=af (TD.o.below XF.o.2.2.1);have KW:=af (KO.o.below XF.o.2.2.1);have ba:ah (da U k=K.length):=by
             show _=_;have:=congrArg List.length ag.o;rw[bm,uL (by have:=aT.o;omega)]at this
             exact this.symm
            obtain⟨oa,oc,bq⟩:=KW.o.form;subst bq;obtain⟨s,aA⟩:=aq K.length;rw[aA]at ba TW KW;have bC:=af aA;have cI:s<=k:=by have:=BS U k;have:=ba.o;omega
            have cZ:wr.cell? ⟨t,0,O⟩=X (Y oa s oc):=TW.o.at 0 0 rfl rfl;have bj:aP 3 pb (aD ((List.range c).map (fJ U k))) wr:=TW.o.get 1 rfl;have pc:=bj.cell (kB (rX (fJ U k) bT));have pf:=bj.frozen k;have TP:ah (Tk w (wr.setCell ⟨pb,k,O⟩ (I J (s:Int))) (ke z A m g c pb t (Y (X ⟨b,aa,O⟩) c cap) (Y sa m N) (Y oa s oc) qs U (k+1))):=by
             have:=TW.o.fset 1 rfl (by omega) k (I J (s:Int)) (hs':=(t,t+1,bS t #[Y oa s oc] 30)::(g,g+1,aP 4 g (bN ((List.range c).map U)))::[(z+2,A,aG 3 (z+2) A (Y sa m N) m (aD qs)),(z+1,z+1+1,bS (z+1) #[Y O 0 0] 30),(z,z+1,bS z #[Y (X ⟨b,aa,O⟩) c cap] 30)]) (by
              intro x d;simp only[ke,be,eI,eX]at d⊢;rcases d with rfl|rfl|rfl|rfl|rfl
              ·exact⟨.inl rfl,.inr aU⟩
              ·exact⟨.inr (.inr (.inl rfl)),.inl bK⟩
              ·exact⟨.inr (.inr (.inr (.inl rfl))),.inl (by simp only;omega)⟩
              ·exact⟨.inr (.inr (.inr (.inr (.inl rfl)))),.inl (by simp only;omega)⟩
              ·exact⟨.inr (.inr (.inr (.inr (.inr rfl)))),.inl (by simp only;omega)⟩)
             have e1:(aD ((List.range c).map (fJ U k))).set k (I J (s:Int))=aD ((List.range c).map (fJ U (k+1))):=by
              rw[<-Mk (f:=fJ U k) (f':=fJ U (k+1)) (k:=k) (b:=(s:Int)) (λi hi=>PM i hi) (by rw[EH (by omega) bd.o,ba.o])]
              simp[aD,List.map_set]
             rw[e1]at this;refine this.drop (λx d=>?_)
             simp only[ke,be]at d⊢;rcases d with d|d|d
             ·exact .inr (.inl d)
             ·exact .inl d
             ·exact .inr (.inr d)
            have KP:ah (cC (wr.setCell ⟨pb,k,O⟩ (I J (s:Int))) (t+1) (Y oa s oc) K):=KW.o.cellB (by omega) _ _
            have XP:ah (fM wo wr xb vb vc lf (dT U ⟨lf,ls⟩).fD):=XF;have cU:t+1<=xb:=bV aw XF.o.2.2.2.1;have cT:t+1<=vb:=bV aw XF.o.2.2.2.2;have xr:(wr.setCell ⟨pb,k,O⟩ (I J (s:Int))).heap[xb]?=X (iC #[iB lf,Y (X ⟨vb,0,O⟩) 4 vc] 189 (0,0)):=cX XF.o.1 (by omega) _ _
            have x0:=aj _ _ 0 _ _ _ xr;have x1:=aj _ _ 1 _ _ _ xr;have c3:(wr.setCell ⟨pb,k,O⟩ (I J (s:Int))).cell? ⟨t,0,O⟩=X (Y oa s oc):=TP.o.at 0 0 rfl rfl;have vF:aP 3 vb (aD (dT U ⟨lf,ls⟩).fD) (wr.setCell ⟨pb,k,O⟩ (I J (s:Int))):=aP.loc _ _ _ _ _ (λq q1 q2=>aO _ _ _ _ (show q≠pb by omega)) XF.o.2.1
            have VF:=af vF;have bc:ah ((wr.setCell ⟨pb,k,O⟩ (I J (s:Int))).heap.size=wr.heap.size):=by show _=_;simp[World.setCell]
            have BA:ah (iL (wr.setCell ⟨pb,k,O⟩ (I J (s:Int))).heap.size (wr.setCell ⟨pb,k,O⟩ (I J (s:Int))) ((wr.setCell ⟨pb,k,O⟩ (I J (s:Int))).alloc (iC #[iB lf,Y (X ⟨vb,0,O⟩) 4 vc] 189))):=aZ;have KA:=af (KP.o.below BA.o);have TA:=af (TP.o.below BA.o);have OW:ah (((wr.setCell ⟨pb,k,O⟩ (I J (s:Int))).alloc (iC #[iB lf,Y (X ⟨vb,0,O⟩) 4 vc] 189)).ownsRow (t+1) 189 2 (Y oa s oc) s (d8 K)):=by have:=KA.o.1;rw[bC.o]at this;exact this
            have CN:ah (∀(j:Nat) (u:iX),[iB lf,Y (X ⟨vb,0,O⟩) 4 vc][j]?=X u->((wr.setCell ⟨pb,k,O⟩ (I J (s:Int))).alloc (iC #[iB lf,Y (X ⟨vb,0,O⟩) 4 vc] 189)).cell? ((⟨wr.heap.size,0,O⟩:Addr).add j)=X u):=by
             have:=GI (wr.setCell ⟨pb,k,O⟩ (I J (s:Int))) lf (Y (X ⟨vb,0,O⟩) 4 vc);rw[bc.o]at this;exact this
            have bv:ah (t+1<=((wr.setCell ⟨pb,k,O⟩ (I J (s:Int))).alloc (iC #[iB lf,Y (X ⟨vb,0,O⟩) 4 vc] 189)).heap.size):=TA.o.hi 0 rfl;obtain⟨j0,bP,b8,a6,a7⟩:=bO vU;have J0:=af bP;have V0:=af b8;have V1:=af a6;have V2:=af a7;have bF:ah (K.map aE++[dT U ⟨lf,ls⟩]=kK U L (k+1)):=by show _=_;rw[wL bd.o HX.o,ag.o];rfl
            have X4:ah ((dT U ⟨lf,ls⟩).fD.length=4):=by
             show _=_;unfold dT;split
             ·exact H4.o
             ·rw[bm];exact H4.o
            have bG:ah ((dT U ⟨lf,ls⟩).leaf=lf):=AW U ⟨lf,ls⟩;obtain⟨xs,bt⟩:=aq ((dT U ⟨lf,ls⟩).fD);have XE:ah (dT U ⟨lf,ls⟩=⟨lf,xs⟩):=by
             show _=_;rw[<-bt];have:=bG.o;cases hq:dT U ⟨lf,ls⟩;rw[hq]at this;simp only at this⊢;rw[this]
            rw[bt]at X4 VF;rw[XE.o]at bF;have a8:ah (wo.heap.size<=vb/\vb<wr.heap.size/\t+1<=wo.heap.size):=⟨XP.o.2.2.2.2,XP.o.vlt,aw⟩;have hw:((q:Int)<4/\(!lf)=iF)∨¬(q:Int)<4:=by
             by_cases h:(q:Int)<4
             ·exact .inl ⟨h,by cases lf with|true=>rfl|false=>exact absurd ⟨h,rfl⟩ ab⟩
             ·exact .inr h
            clear bP b8 a6 a7 ab TW KW bj vF aA XF M XP bG bt xr KO TD;rcases hw with⟨cu,hl⟩|cu
            all_goals
             go_wp2_with (at_builtin;refine cS _ rfl _ _ 28 rfl (t+1) 189 j0 (iA #[iB iF,Y O 0 0]) 2 32 Tryz.underlying28 J0.o V0.o V1.o V2.o rfl (by decide) _ s (d8 K) rfl OW.o ⟨wr.heap.size,0,O⟩ 1 1 [iB lf,Y (X ⟨vb,0,O⟩) 4 vc] rfl rfl CN.o (Jh _ _ _ _) ?c1 ?c2 bv.o ?_)
             case c1=>unfold maxLen;omega
             case c2=>omega
             intro u' y ho bn _;have TY:ah (Tk w y (ke z A m g c pb t (Y (X ⟨b,aa,O⟩) c cap) (Y sa m N) (Y oa s oc) qs U (k+1))):=TA.o.grownB (B:=t+1) bn (λq hq=>(nL OW.o q hq).1) (by omega) (by
              intro x d;simp only[ke,be,eI,eX]at d;rcases d with rfl|rfl|rfl|rfl|rfl|rfl<;>(simp only;omega))
             have bZ:y.ownsRow (t+1) 189 2 u' (K++[(lf,Y (X ⟨vb,0,O⟩) 4 vc,xs)]).length (d8 (K++[(lf,Y (X ⟨vb,0,O⟩) 4 vc,xs)])):=by
              rw[<-JW,aI,bC.o];exact ho
             have KY:ah (cC y (t+1) u' (K++[(lf,Y (X ⟨vb,0,O⟩) 4 vc,xs)])):=by
              refine cC.snoc2 (C:=wo.heap.size) KA.o co.o a8.o.2.2 ?_ (by rw[X4.o];unfold maxLen;omega) bn bZ
              have a1:vb<((wr.setCell ⟨pb,k,O⟩ (I J (s:Int))).alloc (iC #[iB lf,Y (X ⟨vb,0,O⟩) 4 vc] 189)).heap.size:=eW (by rw[bc.o];exact a8.o.2.1) BA.o.size
              show aG 3 _ _ (Y (X ⟨vb,0,O⟩) 4 vc) xs.length _ _;rw[X4.o];exact .inr ⟨vb,vc,rfl,a8.o.1,a1,VF.o.below BA.o⟩
             obtain⟨ua,uc,cz,-⟩:=(aG.of ho).form;subst cz;have oy:y.cell? ⟨t,0,O⟩=X (Y oa s oc):=TY.o.at 0 0 rfl rfl;have fy:y.frozen? ⟨t,0,O⟩=iF:=TY.o.fr 0 0 rfl;have TN:ah (Tk w (y.setCell ⟨t,0,O⟩ (Y ua (s+1) uc)) (ke z A m g c pb t (Y (X ⟨b,aa,O⟩) c cap) (Y sa m N) (Y ua (s+1) uc) qs U (k+1))):=by
              refine TY.o.write 0 rfl (by omega) _ (λx d=>⟨ur _ d,.inl ?_⟩)
              simp only[be,eI,eX]at d;rcases d with rfl|rfl|rfl|rfl|rfl<;>(simp only;omega)
             have KN:ah (cC (y.setCell ⟨t,0,O⟩ (Y ua (s+1) uc)) (t+1) (Y ua (s+1) uc) (K++[(lf,Y (X ⟨vb,0,O⟩) 4 vc,xs)])):=KY.o.cellB (by omega) _ _
             have aY:ah ((K++[(lf,Y (X ⟨vb,0,O⟩) 4 vc,xs)]).map aE=kK U L (k+1)):=by show _=_;rw[gV];exact bF.o
             generalize K++[(lf,Y (X ⟨vb,0,O⟩) 4 vc,xs)]=cF at KN aY;clear ho bn bZ TY KY TA KA TP KP OW CN bv BA VF bc;go_wp2;go_roundw
             case rel=>exact⟨k+1,_,cF,by omega,by go_num,aY,TN,KN⟩
             case measure=>simp[intOf];omega
       ·have cs:k=c:=by omega
        subst cs;have SW:ah (K.map aE=kt L qs):=by show _=_;rw[ag.o,kt,HU.o,aT.o]
        have T6:ah (Tk w wr (ke z A m g k pb t (Y ad k cap) (Y sa m N) ov (eD U iF qs 0) U k)):=by rw[J8];exact TK
        have UR:ah (∀(r:Int),r∈qs->0<=r->∃a:Nat,r=(a:Int)/\a<k/\U a=iV):=λr V h0=>by
         obtain⟨x,d,-⟩:=lj (TO.o.2 r V) h0;have h1:=(aC.1 d).1;have h2:=xM (l:=L) V h0;rw[HU.o]at h2;exact⟨r.toNat,by omega,by have:=aT.o;omega,h2⟩
        have K6:=KO;clear KO TK ag;go_wp2;clear bx;go_loopw [18] (λZ W=>∃j:Nat,j<=m/\Z=I J j/\ah (Tk w W (ke z A m g k pb t (Y ad k cap) (Y sa m N) ov (eD U iF qs j) U k))/\ah (cC W (t+1) ov K)) (λZ _=>m-(intOf Z).toNat)
        case atStart=>exact⟨0,aJ _,rfl,T6,K6⟩
        case round=>
         obtain⟨j,hj,rfl,S,KJ⟩:=hrel;clear T6 K6;by_cases cH:(j:Int)<m
         ·obtain⟨r,V⟩:∃r,qs[j]?=X r:=⟨_,ay (by have:=R.o;omega)⟩
          have hS:aG 3 (z+2) A (Y sa m N) m (aD (eD U iF qs j)) wr:=S.o.get 3 rfl;obtain⟨sb,cy,cP,cQ⟩:∃sb,sa=X ⟨sb,0,O⟩/\z+2<=sb/\sb<A:=by
           obtain⟨cJ,c',e,q⟩:=hS.form;injection e with e1 e2 e3
           subst e1;exact q (by omega)
          subst cy;have c4:wr.cell? ⟨sb,j,O⟩=X (I J r):=hS.flt.cell (kB (Cm V));have c5:=hS.flt.frozen j;have cY:(0:Int)<=j:=by omega
          by_cases av:r<0
          ·have TN:ah (Tk w wr (ke z A m g k pb t (Y ad k cap) (Y (X ⟨sb,0,O⟩) m N) ov (eD U iF qs (j+1)) U k)):=by rw[<-MW V (sr U av)];exact S
           clear V hS S;go_wp2;go_roundw
           case rel=>exact⟨j+1,by omega,by go_num,TN,KJ⟩
           case measure=>simp[intOf];omega
          ·obtain⟨a,rfl,au,ar⟩:=UR.o r (aL V) (by omega)
           have pa:wr.cell? ⟨pb,a,O⟩=X (I J (da U a)):=by
            have hF:aP 3 pb (aD ((List.range k).map (fJ U k))) wr:=S.o.get 1 rfl;have:=hF.cell (kB (rX (fJ U k) au));rw[EH au ar]at this;exact this
           have TN:ah (Tk w (wr.setCell ⟨sb,j,O⟩ (I J (da U a))) (ke z A m g k pb t (Y ad k cap) (Y (X ⟨sb,0,O⟩) m N) ov (eD U iF qs (j+1)) U k)):=by
            have e1:(aD (eD U iF qs j)).set j (I J (da U a))=aD (eD U iF qs (j+1)):=by
             rw[<-Bd V,qF];simp[aD,List.map_set]
            have hq:=hS.setAt j (I J (da U a:Int));rw[e1]at hq;have aX:=HZ.o;have:=S.o.touch (lo:=z+2) (hi:=A) (wj:=wr.setCell ⟨sb,j,O⟩ (I J (da U a:Int))) (Q:=aG 3 (z+2) A (Y (X ⟨sb,0,O⟩) m N) m (aD (eD U iF qs (j+1)))) ⟨rfl,rfl,rfl,by simp[World.setCell],λi _ hi=>aO _ _ _ _ (show i≠sb by unfold Bo at hi;omega)⟩ (by omega) (S.o.hi 3 rfl) (aG.loc _ _ _ _ _ _) hq (hs':=(t,t+1,bS t #[ov] 30)::(pb,pb+1,aP 3 pb (aD ((List.range k).map (fJ U k))))::(g,g+1,aP 4 g (bN ((List.range k).map U)))::[(z+1,z+1+1,bS (z+1) #[Y O 0 0] 30),(z,z+1,bS z #[Y ad k cap] 30)]) (by
             intro x d;simp only[ke,be,eI,eX]at d⊢;rcases d with rfl|rfl|rfl|rfl|rfl
             ·exact⟨.inl rfl,.inr (by simp only;omega)⟩
             ·exact⟨.inr (.inl rfl),.inr (by simp only;omega)⟩
             ·exact⟨.inr (.inr (.inl rfl)),.inr (by simp only;omega)⟩
             ·exact⟨.inr (.inr (.inr (.inr (.inl rfl)))),.inl (by simp only;omega)⟩
             ·exact⟨.inr (.inr (.inr (.inr (.inr rfl)))),.inl (by simp only;omega)⟩)
            refine this.drop (λx d=>?_)
            simp only[ke,be,eI,eX]at d⊢;rcases d with d|d|d|d|d|d
            ·exact .inr (.inl d)
            ·exact .inr (.inr (.inl d))
            ·exact .inr (.inr (.inr (.inl d)))
            ·exact .inl d
            ·exact .inr (.inr (.inr (.inr (.inl d))))
            ·exact .inr (.inr (.inr (.inr (.inr d))))
           have KN:ah (cC (wr.setCell ⟨sb,j,O⟩ (I J (da U a))) (t+1) ov K):=KJ.o.cellB (by omega) _ _
           have a0:(0:Int)<=a:=by omega
           have al:(a:Int)<k:=by omega
           obtain⟨c6,a5⟩:=aq (da U a);rw[a5]at pa TN KN;clear V hS S KJ a5 ar;go_wp2;go_roundw
           case rel=>exact⟨j+1,by omega,by go_num,TN,KN⟩
           case measure=>simp[intOf];omega
         ·have cr:j=m:=by omega
          subst cr;obtain⟨oa,oc,bq⟩:=KJ.o.form;subst bq;obtain⟨s,aA⟩:=aq K.length;rw[aA]at S KJ;have r0:wr.cell? ⟨z+1,0,O⟩=X (Y O 0 0):=S.o.at 4 0 rfl rfl;have f0:wr.frozen? ⟨z+1,0,O⟩=iF:=S.o.fr 4 0 rfl;have o0:wr.cell? ⟨t,0,O⟩=X (Y oa s oc):=S.o.at 0 0 rfl rfl;have FR:ah ((wr.setCell ⟨z+1,0,O⟩ (Y oa s oc)).heap[z+1]?=X (iC #[Y oa s oc] 30 (0,0))):=dz (S.o.get 4 rfl) 0 _;have a9:ah (tF w (jV L qs) (mp L qs) (G (iU #[iA #[Y oa s oc],Y sa j N])) (wr.setCell ⟨z+1,0,O⟩ (Y oa s oc))):=by
           rw[E.o.1,E.o.2];have aX:=HZ.o;have cd:(wr.setCell ⟨z+1,0,O⟩ (Y oa s oc)).heap.size=wr.heap.size:=by simp[World.setCell]
           have cN:t+1<=wr.heap.size:=S.o.hi 0 rfl;have ap:∀q,z+2<=q->(wr.setCell ⟨z+1,0,O⟩ (Y oa s oc)).heap[q]?=wr.heap[q]?:=λq hq=>aO _ _ _ _ (show q≠z+1 by omega)
           have hS:aG 3 (z+2) A (Y sa j N) j (aD (eD U iF qs j)) wr:=S.o.get 3 rfl;have ep:eD U iF qs j=qs.map (fX U):=by
            rw[eD,ai (show¬(iF=iV)by decide),ci (by rw[bm,R.o];exact am _),mw (by rw[R.o];exact am _),dS]
           rw[ep]at hS;refine⟨_,_,t+1,wr.heap.size,z+2,A,rfl,?_,?_,by omega,by rw[cd];exact am _,by omega,by rw[cd];omega,.inr (by omega),?_⟩
           ·exact dB.loc _ _ _ _ _ _ (λq q1 q2=>ap q (by omega)) ⟨K,SW.o,KJ.o.fK⟩
           ·rw[bm,R.o];exact aG.loc _ _ _ _ _ _ _ _ (λq q1 q2=>ap q q1) hS
           ·exact S.o.1.setCell (p:=⟨z+1,0,O⟩) (by show w.heap.size<=z+1;omega) _
          clear S KJ;go_wp2;exact az (pE (p:=4) (q:=5) rfl _ _ (z+1) _ rfl FR.o) rfl a9.o
end Go.Proofs.YtgigcooffjjbgaaGreatDoor
