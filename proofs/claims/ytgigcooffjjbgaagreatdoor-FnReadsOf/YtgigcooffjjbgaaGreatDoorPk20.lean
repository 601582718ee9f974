/-
  SStOk; RtK; SSwp
-/
import Derived.Test.YtgigcooffjjbgaaGreatDoorPk19
open Go.Value renaming int→I,slice→Y,bool→iB,pointer→iP,agg→iA,tuple→iU
open Go.IntKind renaming i64→J
open Option renaming none→O,some→X
open Go.Ending renaming returned→G
open Go.Obj renaming cells→iC
open Bool renaming true→iV,false→iF
open Go renaming World→iW,Value→iX,Calls→iK
open Go.RowKit renaming Below→iL
set_option maxHeartbeats 2000000
set_option maxRecDepth 100000
namespace Go.Proofs.YtgigcooffjjbgaaGreatDoor
open Go.RowKit Words
variable{r nx:Int}{v:Int × Int}{vs:List (Int × Int)}{R:List Int}{i k B n xb cap g:Nat}
variable{s:Sto}
theorem Pb(h:3<s.fV.length):dl s=iF:=by
 rw[dl,aV (by omega)]
 rfl
theorem aaO(h:cj s.fK=iF):dl s=iF:=by
 rw[dl,h,vW];rfl
theorem QZ(h:¬(1<=s.next/\s.next<=1000000000)):dl s=iF:=by
 cases e:dl s with
 |false=>rfl
 |true=>exact absurd ((kx s).1 e).nx h
theorem vE(hi:s.fV[i]?=X v)(a:lG s i v=iF):dl s=iF:=by
 rw[dl,UG hi a,lZ,vW]
theorem XX(h1:s.fV.length<=3)(b:cj s.fK=iV)(a:1<=s.next/\s.next<=1000000000)(h4:jP s s.fV.length=iV):dl s=decide ((jV s.fK (cH s.fV)).length=s.fK.length):=by
 rw[dl,aS h1,b,aS a.1,aS a.2,h4];rfl
theorem tT(h:¬((1<=v.1/\v.1<=9)/\nt s i v.1=iV/\bB s.fK v.2=iV/\kO s v.2 16=iV)):lG s i v=iF:=by
 cases e:lG s i v with
 |false=>rfl
 |true=>
  rw[lG]at e;simp only[bu,bM]at e;exact absurd ⟨e.1.1,e.1.2,e.2.1,e.2.2⟩ h
theorem Sf(h1:1<=v.1/\v.1<=9)(a:nt s i v.1=iV)(b:bB s.fK v.2=iV)(h4:kO s v.2 16=iV):lG s i v=iV:=by
 rw[lG,aS h1.1,aS h1.2,a,b,h4];rfl
theorem YY:kO s r (k+1)=(kO s r k&&decide (cG s.fK r k<s.next)):=by
 rw[kO,kO,qm,Ce];simp
theorem WK(a:k<16)(h:¬cG s.fK r k<s.next):¬kO s r 16=iV:=λe=>h (CJ.1 e k (by omega))
theorem K7(va:Option Addr)(f vc:Nat)(ad:Option Addr)(a cap:Nat)(nx:Int)(vs:List (Int×Int))(rs:List Kw)(w:iW)(aX:f<=1048578)(hl:a<=1048578)(aD:∀r∈rs,r.2.2.length<=1048576)(h:fN w va f vs)(hk:dO w ad a rs):
 iK Tryz.prog 86 #[iA (eA va f vc ad a cap nx)] w λe w'=>e=G (iB (dl ⟨vs,rs.map aE,nx⟩))/\iL w.heap.size w w':=by
 obtain⟨S,hS⟩:∃S:Sto,S=⟨vs,rs.map aE,nx⟩:=⟨_,rfl⟩;have T:ah (S.fV=vs):=by show _=_;rw[hS]
 have SK:ah (S.fK=rs.map aE):=by show _=_;rw[hS]
 have SN:ah (S.next=nx):=by show _=_;rw[hS]
 rw[<-hS];have HL:=af aD;have p:=af h.1;have B0:=af (aT w (iC #[Y va f vc,Y ad a cap,I J nx] 32));have T0:=af ((Tk.start w).cell #[Y va f vc,Y ad a cap,I J nx] 32);have HV:=af h;have HK:=af hk;clear h hk aD hS;unfold eA;by_cases a1:(3:Int)<f
 ·have E:ah (dl S=iF):=Pb (by rw[T.o,p.o];omega)
  go_enter Tryz.func86,Tryz.ntmps86;go_wp2;go_ret;exact⟨by rw[E.o];rfl,B0.o⟩
 ·go_enter Tryz.func86,Tryz.ntmps86;go_wp2_with fail;refine(zG ad a cap rs _ hl (HK.o.below B0.o)).mono ?_;rintro e w1 ⟨rfl,t⟩;have x:=af (T0.o.below t);clear t T0 B0;have x0:w1.cell? ⟨w.heap.size,0,O⟩=X (Y va f vc):=x.o.at 0 0 rfl rfl;have i:w1.cell? ⟨w.heap.size,1,O⟩=X (Y ad a cap):=x.o.at 0 1 rfl rfl;have x2:w1.cell? ⟨w.heap.size,2,O⟩=X (I J nx):=x.o.at 0 2 rfl rfl;cases ab:cj (rs.map aE)with
  |false=>
   have E:ah (dl S=iF):=aaO (by rw[SK.o];exact ab)
   clear ab;go_wp2;go_ret;exact⟨by rw[E.o];rfl,x.o.1⟩
  |true=>
   have an:=af ab;clear ab;by_cases a3:1<=nx/\nx<=1000000000
   ·go_wp2_with fail;refine(gO nx 1 1000000000 iV _ (.inl ⟨a3.1,a3.2,rfl⟩)).mono ?_;rintro e l ⟨rfl,rfl⟩;have A3:=af a3;have XB:=af (show w.heap.size<l.heap.size from by have:=x.o.hi 0 rfl;omega)
    obtain⟨z,hz⟩:=aq w.heap.size;rw[hz]at x0 i x2 x XB⊢;have a7:=af hz;clear a3 hz;go_wp2;go_loopw [3] (λiv W=>∃k:Nat,k<=f/\iv=I J k/\ah (jP S k=iV)/\ah (iL l.heap.size l W)) (λiv _=>f-(intOf iv).toNat)
    case atStart=>exact⟨0,aJ _,rfl,(rfl:jP S 0=iV),ax _ _⟩
    case round=>
     obtain⟨k,hk,rfl,av,L⟩:=hrel;have y0:=(L.o.cell (show z<l.heap.size from XB.o)).trans x0;have y1:=(L.o.cell (show z<l.heap.size from XB.o)).trans i;have y2:=(L.o.cell (show z<l.heap.size from XB.o)).trans x2;by_cases ba:(k:Int)<f
     ·have hv:=ay (show k<vs.length by have:=p.o;omega)
      generalize vs[k]'(by have:=p.o;omega)=v at hv
      obtain⟨b,aa,e,hb,c0,c1⟩:=(((HV.o.below x.o.1).below L.o)).at hv;subst e;have N:=af hv;have k0:(0:Int)<=k:=by omega
      clear hv;have ac:=L.o.size;have aY:=XB.o;have BV:=af (aT wr (iC #[I J v.1,I J v.2] 66));have R:=af (aB wr (iC #[I J v.1,I J v.2] 66));have VB:=af ((HV.o.below x.o.1).below L.o);have KB:=af ((HK.o.below x.o.1).below L.o);have BE:ah (∀W,iL wr.heap.size wr W->iL w.heap.size w W):=λW H=>x.o.1.trans ((L.o.trans (H.mono ac)).mono x.o.1.size)
      have D:ah (∀W,iL wr.heap.size wr W->W.cell? ⟨z,0,O⟩=X (Y (X ⟨b,aa,O⟩) f vc)/\W.cell? ⟨z,1,O⟩=X (Y ad a cap)/\W.cell? ⟨z,2,O⟩=X (I J nx)):=λW H=>⟨(H.cell (show z<wr.heap.size by omega)).trans y0,(H.cell (show z<wr.heap.size by omega)).trans y1,(H.cell (show z<wr.heap.size by omega)).trans y2⟩
      go_upto_region 7 with fail
      generalize wr.alloc (iC #[I J v.1,I J v.2] 66)=C at BV R⊢;obtain⟨g,hg⟩:=aq wr.heap.size;rw[hg]at R⊢;have HG:=af hg;have k1:=D.o _ BV.o;have q0:C.cell? ⟨z,0,O⟩=X (Y (X ⟨b,aa,O⟩) f vc):=k1.1;have q1:C.cell? ⟨z,1,O⟩=X (Y ad a cap):=k1.2.1;have q2:C.cell? ⟨z,2,O⟩=X (I J nx):=k1.2.2;have g0:C.cell? ⟨g,0,O⟩=X (I J v.1):=aj _ _ 0 _ _ _ R.o;have g1:C.cell? ⟨g,1,O⟩=X (I J v.2):=aj _ _ 1 _ _ _ R.o;have P:ah (iL wr.heap.size wr C.drew):=BV.o.drew;clear hg y0 y1 y2 c0 c1 k1;go_cut [63] (λa0 W=>∃bb:Bool,a0=iB bb/\ah ((bb=iV->dl S=iF)/\(bb=iF->(1<=v.1/\v.1<=9)/\nt S k v.1=iV/\bB (rs.map aE) v.2=iV))/\ah (iL wr.heap.size wr W)/\ah (W.heap[g]?=X (iC #[I J v.1,I J v.2] 66 (0,0))))
      case first=>
       by_cases a4:1<=v.1/\v.1<=9
       ·have A4:=af a4;have CI:ah (∀W,iK Tryz.prog 35 #[I J v.1,I J 1,I J 9] W λe w'=>e=G (iB iV)/\w'=W):=λW=>gO v.1 1 9 iV W (.inl ⟨a4.1,a4.2,rfl⟩)
        have CT:=af (yK ad a cap rs v.2 C.drew hl (KB.o.below P.o));clear a4;by_cases aR:k=0
        ·subst aR;have AS:ah (nt S 0 v.1=iV):=(rfl:_=_);refine qP (λw'=>w'.cell? ⟨z,0,O⟩=X (Y (X ⟨b,aa,O⟩) f vc)/\w'.cell? ⟨z,1,O⟩=X (Y ad a cap)/\w'.cell? ⟨g,0,O⟩=X (I J v.1)/\w'.cell? ⟨g,1,O⟩=X (I J v.2)) (by kernel_rfl) ⟨q0,q1,g0,g1⟩ (λhHeld=>?_)
         simp only[aW,dW,Nat.reduceAdd];refine aH 0 ?_;refine aH 1 ?_;refine dL 2 rfl (by kernel_rfl) (λK U=>?_)
         go_simp;refine(CI.o _).mono ?_;rintro en _ ⟨rfl,rfl⟩;refine U.out _ _ (by assumption) (λhHeld2=>?_)
         clear U K hHeld;have hHeld:=hHeld2;clear hHeld2
         (try simp only[Act.put,cT,cA,ce])
         refine aH 3 ?_;refine aH 4 ?_;refine aH 5 ?_;refine aH 6 ?_;refine aH 7 ?_;refine oe 8 ?_;refine oe 9 ?_;refine oe 10 ?_;refine oe 11 ?_;refine oe 12 ?_;refine oe 13 ?_;refine oe 14 ?_;refine oe 15 ?_;refine oe 16 ?_;refine oe 17 ?_;refine aH 18 ?_;refine aH 19 ?_;refine aH 20 ?_;refine aH 21 ?_;refine aH 22 ?_;refine aH 23 ?_;refine aH 24 ?_;refine dL 25 rfl (by kernel_rfl) (λK U=>?_)
         go_simp;refine CT.o.mono ?_;rintro en i ⟨rfl,t⟩;have NB:=af t;refine U.out _ _ (by exact⟨(t.cell (bk C _ q0)).trans q0,(t.cell (bk C _ q1)).trans q1,(t.cell (bk C _ g0)).trans g0,(t.cell (bk C _ g1)).trans g1⟩) (λhHeld2=>?_)
         clear U K hHeld;have hHeld:=hHeld2;clear hHeld2
         (try simp only[Act.put,cT,cA,ce])
         refine aH 26 ?_;refine aH 27 ?_;refine pz (by kernel_rfl) ?_
         clear hHeld;have d:ah (iL wr.heap.size wr i):=P.o.trans (t.mono P.o.size);go_wp2_with fail;go_meet
         case rel=>exact⟨!bB (rs.map aE) v.2,rfl,⟨λF=>(vE (by rw[T.o];exact N.o) (tT (λq=>by have:=q.2.2.1;rw[SK.o]at this;rw[this]at F;cases F)):dl S=iF),λF=>⟨A4.o,AS.o,by simpa using F⟩⟩,d,(NB.o.block g (aK.1 R.o).1).trans R.o⟩
        ·obtain⟨j,rfl⟩:∃j,k=j+1:=⟨k-1,by omega⟩
         have hu:=ay (show j<vs.length by have:=p.o;omega)
         generalize vs[j]'(by have:=p.o;omega)=u at hu
         obtain⟨b',a6,eb,-,p0,-⟩:=(VB.o.below BV.o).at hu;injection eb with eb
         injection eb with eb1 eb2
         subst eb1;subst eb2;have HU:ah (∀id,nt S (j+1) id=decide (u.1<id)):=λid=>by rw[nt,T.o,hu]
         have bc:IntKind.i64.wrap (((j+1:Nat):Int)-1)=(j:Int):=by rw[cm];omega
         have bd:IntKind.i64.wrap ((j:Int)+1-1)=(j:Int):=by rw[cm];omega
         have be:IntKind.i64.wrap (j:Int)=(j:Int):=by rw[cm];omega
         have j0:(0:Int)<=j:=by omega
         have j1:(j:Int)<f:=by omega
         have j2:(0:Int)<((j+1:Nat):Int):=by omega
         clear hu;by_cases a8:v.1<=u.1
         ·have E:ah (dl S=iF):=vE (by rw[T.o];exact N.o) (tT (λF=>by have:=F.2.1;rw[HU.o]at this;simp at this;omega))
          go_quiet ((go_at_call 35;exact Calls.quiet_of_same (CI.o _)));go_wp2_with fail;go_meet
          case rel=>exact⟨iV,rfl,⟨λ_=>E.o,λh=>by cases h⟩,bY BV.o _,R.o⟩
         ·have AS:ah (nt S (j+1) v.1=iV):=by show _=_;rw[HU.o];exact aS (by omega)
          refine qP (λw'=>w'.cell? ⟨z,0,O⟩=X (Y (X ⟨b,aa,O⟩) f vc)/\w'.cell? ⟨z,1,O⟩=X (Y ad a cap)/\w'.cell? ⟨g,0,O⟩=X (I J v.1)/\w'.cell? ⟨g,1,O⟩=X (I J v.2)/\w'.cell? ⟨b,aa+j*2,O⟩=X (I J u.1)) (by kernel_rfl) ⟨q0,q1,g0,g1,p0⟩ (λhHeld=>?_)
          simp only[aW,dW,Nat.reduceAdd];refine aH 0 ?_;refine aH 1 ?_;refine dL 2 rfl (by kernel_rfl) (λK U=>?_)
          go_simp;refine(CI.o _).mono ?_;rintro en _ ⟨rfl,rfl⟩;refine U.out _ _ (by assumption) (λhHeld2=>?_)
          clear U K hHeld;have hHeld:=hHeld2;clear hHeld2
          (try simp only[Act.put,cT,cA,ce])
          refine aH 3 ?_;refine aH 4 ?_;refine aH 5 ?_;refine yq 6 (v:=iB iV) rfl (by kernel_rfl) (by kernel_rfl) (by kernel_rfl) (λ_ _ _ h=>h) (by rfl) (by assumption) ?hy ?_
          case hy=>(intro w Z;(try dsimp only at Z);go_simp;(try(simp;omega)))
          simp only[Act.put,cT,cA,ce];refine aH 7 ?_;refine aH 8 ?_;refine aH 9 ?_;refine aH 10 ?_;refine yq 11 (v:=I J (j:Int)) rfl (by kernel_rfl) (by kernel_rfl) (by kernel_rfl) (λ_ _ _ h=>h) (by rfl) (by assumption) ?hy ?_
          case hy=>(intro w Z;(try dsimp only at Z);go_simp;(try(simp;omega)))
          simp only[Act.put,cT,cA,ce];refine aH 12 ?_;refine aH 13 ?_;refine aH 14 ?_;refine aH 15 ?_;refine aH 16 ?_;refine yq 17 (v:=iB iF) rfl (by kernel_rfl) (by kernel_rfl) (by kernel_rfl) (λ_ _ _ h=>h) (by rfl) (by assumption) ?hy ?_
          case hy=>(intro w Z;(try dsimp only at Z);go_simp;(try(simp;omega)))
          simp only[Act.put,cT,cA,ce];refine aH 18 ?_;refine aH 19 ?_;refine aH 20 ?_;refine aH 21 ?_;refine aH 22 ?_;refine aH 23 ?_;refine aH 24 ?_;refine dL 25 rfl (by kernel_rfl) (λK U=>?_)
          go_simp;refine CT.o.mono ?_;rintro en i ⟨rfl,t⟩;have NB:=af t;refine U.out _ _ (by exact⟨(t.cell (bk C _ q0)).trans q0,(t.cell (bk C _ q1)).trans q1,(t.cell (bk C _ g0)).trans g0,(t.cell (bk C _ g1)).trans g1,(t.cell (bk C _ p0)).trans p0⟩) (λhHeld2=>?_)
          clear U K hHeld;have hHeld:=hHeld2;clear hHeld2
          (try simp only[Act.put,cT,cA,ce])
          refine aH 26 ?_;refine aH 27 ?_;refine pz (by kernel_rfl) ?_
          clear hHeld p0;have d:ah (iL wr.heap.size wr i):=P.o.trans (t.mono P.o.size);go_wp2_with fail;go_meet
          case rel=>exact⟨!bB (rs.map aE) v.2,rfl,⟨λF=>(vE (by rw[T.o];exact N.o) (tT (λq=>by have:=q.2.2.1;rw[SK.o]at this;rw[this]at F;cases F)):dl S=iF),λF=>⟨A4.o,AS.o,by simpa using F⟩⟩,d,(NB.o.block g (aK.1 R.o).1).trans R.o⟩
       ·have E:ah (dl S=iF):=vE (by rw[T.o];exact N.o) (tT (λF=>a4 F.1))
        have CI:ah (∀W,iK Tryz.prog 35 #[I J v.1,I J 1,I J 9] W λe w'=>e=G (iB iF)/\w'=W):=λW=>gO v.1 1 9 iF W (.inr ⟨by omega,rfl⟩)
        clear a4;go_quiet ((go_at_call 35;exact Calls.quiet_of_same (CI.o _)));go_wp2_with fail;go_meet
        case rel=>exact⟨iV,rfl,⟨λ_=>E.o,λh=>by cases h⟩,bY BV.o _,R.o⟩
      case rest=>
       obtain⟨i,hV⟩:∃i,i=wc:=⟨_,rfl⟩;subst hV;obtain⟨bb,rfl,ae,d,GX⟩:=hcut;clear q0 q1 q2 g0 g1;cases bb with
       |true=>
        have E:ah (dl S=iF):=ae.o.1 rfl;go_wp2;go_ret;exact⟨by rw[E.o];rfl,BE.o _ d.o⟩
       |false=>
        obtain⟨a4,a5,aL⟩:=ae.o.2 rfl;have A4:=af a4;have AS:=af a5;have ar:=af aL;clear a4 a5 aL ae;have aM:ah (∀W,iL i.heap.size i W->iL w.heap.size w W):=λW H=>BE.o _ (d.o.trans (H.mono d.o.size))
        have aN:ah (∀W,iL i.heap.size i W->iL l.heap.size l W):=λW H=>L.o.trans ((d.o.trans (H.mono d.o.size)).mono ac)
        have aC:=af (D.o _ d.o);have aQ:=af (KB.o.below d.o);have aA:ah (z<i.heap.size):=by have:=d.o.size;show _<_;omega
        have aO:ah (g<i.heap.size):=(aK.1 GX.o).1;clear d R D KB VB BE BV P L HG;go_wp2;go_loopw [5] (λkv W=>∃m:Nat,m<=16/\kv=I J m/\ah (kO S v.2 m=iV)/\ah (iL i.heap.size i W)) (λkv _=>16-(intOf kv).toNat)
        case atStart=>exact⟨0,aJ _,rfl,(rfl:kO S v.2 0=iV),ax _ _⟩
        case round=>
         obtain⟨m,hm,rfl,ap,HY⟩:=hrel;by_cases a2:(m:Int)<16
         ·have n1:=(HY.o.cell (show z<i.heap.size from aA.o)).trans aC.o.2.1;have n2:=(HY.o.cell (show z<i.heap.size from aA.o)).trans aC.o.2.2;have n3:wr.cell? ⟨g,1,O⟩=X (I J v.2):=aj _ _ 1 _ _ _ ((HY.o.block g aO.o).trans GX.o);have l1:=bk wr _ n1;have l2:=bk wr _ n2;have l3:=bk wr _ n3;have ag:ah (iL i.heap.size i wr.drew):=HY.o.drew;have CG:=af (IU ad a cap rs v.2 m wr.drew hl (aQ.o.below ag.o) an.o ar.o (by omega))
          obtain⟨y,hy⟩:=aq (cG (rs.map aE) v.2 m);rw[hy]at CG;have az:=af hy;clear hy;go_wp2;go_region_held3 (λw'=>w'.cell? ⟨z,1,O⟩=X (Y ad a cap)/\w'.cell? ⟨z,2,O⟩=X (I J nx)/\w'.cell? ⟨g,1,O⟩=X (I J v.2)) (first|exact⟨n1,n2,n3⟩|exact KY.o) ((go_at_call 95;(with_reducible refine cn CG.o ?_);rintro en y1 ⟨rfl,b2⟩;have KY:ah (y1.cell? ⟨z,1,O⟩=X (Y ad a cap)/\y1.cell? ⟨z,2,O⟩=X (I J nx)/\y1.cell? ⟨g,1,O⟩=X (I J v.2)):=⟨(b2.cell l1).trans n1,(b2.cell l2).trans n2,(b2.cell l3).trans n3⟩))
          all_goals
           have aw:ah (iL i.heap.size i y1):=ag.o.trans (b2.mono ag.o.size);clear CG KY b2 n1 n2 n3 l1 l2 l3;by_cases a9:nx<=y
           ·have E:ah (dl S=iF):=vE (by rw[T.o];exact N.o) (tT (λF=>WK (show m<16 by omega) (by rw[SK.o,SN.o,az.o];omega) F.2.2.2))
            go_wp2;go_ret;exact⟨by rw[E.o];rfl,aM.o _ aw.o⟩
           ·have ao:ah (kO S v.2 (m+1)=iV):=by
             show _=_;rw[YY,ap.o,SK.o,SN.o,az.o];simp;omega
            go_wp2;go_roundw
            case rel=>first|exact⟨m+1,by omega,by go_num,ao,aw⟩|exact⟨m+1,by omega,by go_num,ao⟩
            case measure=>simp[intOf];omega
         ·have au:ah (jP S (k+1)=iV):=by
           have e:m=16:=by omega
           have aI:=ap.o;rw[e]at aI;show _=_;rw[DX (v:=v) (by rw[T.o];exact N.o),av.o,Sf A4.o AS.o (by rw[SK.o];exact ar.o) aI]
           rfl
          have aP:=af (aN.o _ HY.o);go_wp2;go_roundw
          case rel=>first|exact⟨k+1,by omega,by go_num,au,aP⟩|exact⟨k+1,by omega,by go_num,au⟩
          case measure=>simp[intOf];omega
     ·have aU:k=f:=by omega
      have HE:ah (dl S=decide ((jV (rs.map aE) (cH vs)).length=a)):=by
       have h1:=av.o;have h2:=HK.o.1;rw[aU,<-p.o,<-T.o]at h1;have:=XX (s:=S) (by rw[T.o,p.o];omega) (by rw[SK.o];exact an.o) (by rw[SN.o];exact A3.o) h1
       rw[SK.o,T.o,bm,h2]at this;exact this
      have ac:=L.o.size;have aY:=XB.o;have D:ah (∀W,iL wr.heap.size wr W->W.cell? ⟨z,0,O⟩=X (Y va f vc)/\W.cell? ⟨z,1,O⟩=X (Y ad a cap)/\W.cell? ⟨z,2,O⟩=X (I J nx)):=λW H=>⟨(H.cell (show z<wr.heap.size by omega)).trans y0,(H.cell (show z<wr.heap.size by omega)).trans y1,(H.cell (show z<wr.heap.size by omega)).trans y2⟩
      have VB:=af ((HV.o.below x.o.1).below L.o);have KB:=af ((HK.o.below x.o.1).below L.o);have CR:ah (∀W,iL wr.heap.size wr W->iK Tryz.prog 131 #[iA #[Y va f vc,Y ad a cap,I J nx]] W λe w'=>∃Q rc,e=G (Y Q f rc)/\ah ((Q=O->rc=0)/\gP w' Q f (cH vs))/\ah (iL wr.heap.size wr w')/\ah (iL W.heap.size W w')):=λW H=>by
       refine(Gu va f vc ad a cap nx vs W aX (VB.o.below H)).mono ?_;rintro e w' ⟨v,rfl,ho,hb⟩;have hn:(cH vs).length=f:=by rw[cH,bm];exact p.o
       obtain⟨Q,rc,e,h1,h2⟩:=kM.of (aG.of ho) (by rw[hn];unfold maxLen;omega) (am _)
       rw[hn]at e h2;subst e;exact⟨Q,rc,rfl,⟨h1,h2⟩,H.trans (hb.mono H.size),hb⟩
      have CS:ah (∀W Q rc,iL wr.heap.size wr W->(Q=O->rc=0)/\gP W Q f (cH vs)->iK Tryz.prog 130 #[iA #[Y ad a cap],Y Q f rc] W λe w'=>∃A n B iv,e=G (iU #[iA #[Y A n B],iv])/\ah ((jV (rs.map aE) (cH vs)).length=n)/\ah (iL wr.heap.size wr w')/\ah (iL W.heap.size W w')):=λW Q rc H HR=>by
       refine(Mt ad a cap rs Q f rc (cH vs) W hl (by omega) HL.o (KB.o.below H) HR.1 HR.2).mono ?_
       rintro e w' ⟨uv,iv,_,_,_,_,rfl,hu,-,-,-,-,-,-,hb⟩;obtain⟨A,B,rfl⟩:=hu.form;exact⟨A,_,B,iv,rfl,(rfl:_=_),H.trans (hb.mono H.size),hb⟩
      have ai:ah (iL wr.heap.size wr wr.drew):=(ax _ _).drew;have ak:ah (iL wr.heap.size wr (wr.alloc (iC #[Y O 0 0] 30)).drew):=(aZ).drew;have al:ah (iL wr.heap.size wr (wr.drew.alloc (iC #[Y O 0 0] 30))):=((ax _ _).drew).alloc (am _) _;go_wp2;go_region_held3 (λw'=>w'.cell? ⟨z,0,O⟩=X (Y va f vc)/\w'.cell? ⟨z,1,O⟩=X (Y ad a cap)/\w'.cell? ⟨z,2,O⟩=X (I J nx)) (first|exact D.o _ ai.o|exact D.o _ ak.o|exact D.o _ al.o|exact D.o _ S2.o|exact D.o _ (S2.o.alloc S2.o.size _)|exact D.o _ S3.o|exact D.o _ (S3.o.alloc S3.o.size _)|exact D.o _ (S3.o.setCell S2.o.size _)|exact D.o _ (S3.o.setCell (am _) _)) (first
       |(go_at_call 131;(with_reducible refine cn (CR.o _ (by first|exact ai.o|exact ak.o|exact al.o)) ?_);rintro en x2 ⟨Q,rc,rfl,R2,S2,N2⟩)
       |(go_at_call 130;(with_reducible refine cn (CS.o _ Q rc (by first|exact S2.o|exact S2.o.alloc S2.o.size _) (by first|exact R2.o|exact⟨R2.o.1,R2.o.2.below (aZ)⟩)) ?_);rintro en M ⟨A,n,B,iv,rfl,U3,S3,N3⟩;(try(have nc:ah (M.heap[x2.heap.size]?=X (iC #[Y O 0 0] 30 (0,0))):=(N3.o.block _ (by simp)).trans (aB x2 _);have kc:=aj _ _ 0 _ _ _ nc.o;have kf:=aF _ _ 0 _ _ nc.o));(try(have nc:ah (M.heap[wr.heap.size]?=X (iC #[Y O 0 0] 30 (0,0))):=(N3.o.block _ (by have:=N2.o.size;simp at this;omega)).trans ((N2.o.block _ (by simp)).trans (aB wr _));have kc:=aj _ _ 0 _ _ _ nc.o;have kf:=aF _ _ 0 _ _ nc.o))))
      all_goals
       first
        |(have NX:ah ((M.setCell ⟨x2.heap.size,0,O⟩ (Y A n B)).cell? ⟨x2.heap.size,0,O⟩=X (Y A n B)):=aj _ _ 0 _ _ _ (bo _ _ 0 _ _ _ nc.o);have NY:ah (iL wr.heap.size wr (M.setCell ⟨x2.heap.size,0,O⟩ (Y A n B))):=S3.o.setCell S2.o.size _;generalize M.setCell ⟨x2.heap.size,0,O⟩ (Y A n B)=V at NX NY⊢;generalize x2.heap.size=c at NX⊢)
        |(have NX:ah ((M.setCell ⟨wr.heap.size,0,O⟩ (Y A n B)).cell? ⟨wr.heap.size,0,O⟩=X (Y A n B)):=aj _ _ 0 _ _ _ (bo _ _ 0 _ _ _ nc.o);have NY:ah (iL wr.heap.size wr (M.setCell ⟨wr.heap.size,0,O⟩ (Y A n B))):=S3.o.setCell (am _) _;generalize M.setCell ⟨wr.heap.size,0,O⟩ (Y A n B)=V at NX NY⊢;generalize wr.heap.size=c at NX⊢)
        |(have NX:ah ((M.alloc (iC #[Y A n B] 30)).cell? ⟨M.heap.size,0,O⟩=X (Y A n B)):=aj _ _ 0 _ _ _ (aB M _);have NY:ah (iL wr.heap.size wr (M.alloc (iC #[Y A n B] 30))):=S3.o.alloc S3.o.size _;generalize M.alloc (iC #[Y A n B] 30)=V at NX NY⊢;generalize M.heap.size=c at NX⊢)
      all_goals
       have v1:=NX.o;have v2:V.cell? ⟨z,1,O⟩=X (Y ad a cap):=(D.o _ NY.o).2.1;have BE:ah (iL w.heap.size w V):=x.o.1.trans ((L.o.trans (NY.o.mono ac)).mono x.o.1.size);clear CR CS D R2 S2 N2 S3 N3 ai ak al VB KB;by_cases hq:((n:Int)==(a:Int))=iV
       ·have ET:ah (dl S=iV):=by
         show _=_;rw[HE.o,U3.o];have:(n:Int)=a:=by simpa using hq
         exact aS (by omega)
        go_wp2;go_ret;exact⟨by rw[ET.o];rfl,BE.o⟩
       ·have ET:ah (dl S=iF):=by
         show _=_;rw[HE.o,U3.o];have:¬(n:Int)=a:=by simpa using hq
         exact aV (by omega)
        go_wp2;go_ret;exact⟨by rw[ET.o];rfl,BE.o⟩
   ·have E:ah (dl S=iF):=QZ (by rw[SN.o];exact a3)
    go_wp2_with fail;refine(gO nx 1 1000000000 iF _ (.inr ⟨by omega,rfl⟩)).mono ?_
    rintro e l ⟨rfl,rfl⟩;clear a3;go_wp2;go_ret;exact⟨by rw[E.o];rfl,x.o.1⟩
def mg(vs:List (Int×Int))(R:List Int)(k:Nat):List (Int×Int):=(List.zipWith (λv r=>(v.1,r)) vs R).take k++vs.drop k
theorem aaM(h:vs.length=R.length)(a:k<vs.length):(mg vs R k)[k]?=vs[k]?:=by
 rw[mg,cu (by simp;omega),ly]
 congr 1;simp;all_goals omega
theorem Uk(h:vs.length=R.length)(a:vs[k]?=X v)(b:R[k]?=X r):(mg vs R k).set k (v.1,r)=mg vs R (k+1):=by
 have c:=(aC.1 a).1;refine yb ?_ (by simp;omega)
 rw[List.getElem?_zipWith,a,b]
theorem OI(vs:List (Int×Int))(R:List Int)(k:Nat)(h:vs.length=R.length)(a:k<=vs.length):(mg vs R k).length=vs.length:=by
 rw[mg];simp;omega
theorem Si(h:vs.length=R.length):mg vs R vs.length=List.zipWith (λv r=>(v.1,r)) vs R:=by
 rw[mg,ci (by simp;omega),mw (am _),dS]
def qw(wb V:iW)(c:Nat)(a b:iX)(L:List Kn)(R:List Int):Prop:=
 V.heap[c]?=X (iC #[a] 30 (0,0))/\iL wb.heap.size wb V/\∃lo1 hi1 lo2 hi2,dB lo1 hi1 a L V/\aG 3 lo2 hi2 b R.length (aD R) V/\wb.heap.size<=lo1/\hi1<=V.heap.size/\wb.heap.size<=lo2/\hi2<=V.heap.size/\wb.heap.size<=c
theorem qw.ahead{wb W V:iW}{c:Nat}{a d x:iX}{L:List Kn}(h:tF W L R (G (iU #[iA #[a],d])) V)(i:iL wb.heap.size wb V)(b:wb.heap.size<=c/\c<W.heap.size)(j:V.heap[c]?=X (iC #[x] 30 (0,0))):qw wb (V.setCell ⟨c,0,O⟩ a) c a d L R:=by
 obtain⟨l,k,lo1,hi1,lo2,hi2,e,h1,f,m,h4,n,o,-,-⟩:=h;cases e;have q:(V.setCell ⟨c,0,O⟩ a).heap.size=V.heap.size:=by simp[World.setCell]
 refine⟨bo _ _ 0 _ _ _ j,i.setCell (p:=⟨c,0,O⟩) b.1 _,lo1,hi1,lo2,hi2,?_,?_,by omega,by omega,by omega,by omega,b.1⟩
 ·exact dB.loc _ _ _ _ V _ (λg g1 g2=>aO _ _ _ _ (show g≠c by omega)) h1
 ·exact aG.loc _ _ _ _ _ _ V _ (λg g1 g2=>aO _ _ _ _ (show g≠c by omega)) f
theorem qw.behind{wb W V:iW}{a c:iX}{L:List Kn}(h:tF W L R (G (iU #[iA #[a],c])) V)(b:iL wb.heap.size wb V)(m:wb.heap.size<=W.heap.size):qw wb (V.alloc (iC #[a] 30)) V.heap.size a c L R:=by
 obtain⟨i,f,lo1,hi1,lo2,hi2,e,h1,d,j,h4,k,l,-,-⟩:=h;cases e;have n:(V.alloc (iC #[a] 30)).heap.size=V.heap.size+1:=by simp
 have hs:=b.size;refine⟨aB _ _,b.alloc hs _,lo1,hi1,lo2,hi2,?_,?_,by omega,by omega,by omega,by omega,hs⟩
 ·exact dB.loc _ _ _ _ V _ (λg g1 g2=>gn _ _ _ (by omega)) h1
 ·exact aG.loc _ _ _ _ _ _ V _ (λg g1 g2=>gn _ _ _ (by omega)) d
theorem GY{W:iW}{b:iX}{xs:List iX}{cs:Array iX}(h:W.ownsRow B 66 2 b n xs)(a:W.heap[xb]?=X (iC cs 32 (0,0)))(e:b.ownBlock=X xb):False:=by
 obtain⟨-,-,c,d⟩:=nL h xb e;rw[d]at a;injection a with a
 injection a with h1 h2
 exact absurd h2 (by decide)
def jf(V a:iW)(xb:Nat)(b c:iX)(nx:Int)(vs:List (Int×Int)):Prop:=
 a.heap[xb]?=X (iC #[b,c,I J nx] 32 (0,0))/\a.ownsRow V.heap.size 66 2 b vs.length (ct vs)/\b.ownBlock≠X xb/\iL V.heap.size V a/\V.heap.size<=xb
theorem jf.behind{V W:iW}{b c:iX}(d:W.ownsRow V.heap.size 66 2 b vs.length (ct vs))(a:iL V.heap.size V W):jf V (W.alloc (iC #[b,c,I J nx] 32)) W.heap.size b c nx vs:=
 ⟨aB _ _,bC d (aZ),λe=>by have:=(d.lt _ e).2;omega,a.alloc a.size _,a.size⟩
theorem jf.ahead{V W:iW}{b d j l m:iX}(g:W.ownsRow V.heap.size 66 2 b vs.length (ct vs))(f:iL V.heap.size V W)(i:W.heap[xb]?=X (iC #[j,l,m] 32 (0,0)))(c:V.heap.size<=xb)(e:b.ownBlock≠X xb):
 jf V (((W.setCell ⟨xb,0,O⟩ b).setCell ⟨xb,1,O⟩ d).setCell ⟨xb,2,O⟩ (I J nx)) xb b d nx vs:=by
 have hs:∀(W:iW) (k:Nat) (u:iX),W.ownsRow V.heap.size 66 2 b vs.length (ct vs)->(W.setCell ⟨xb,k,O⟩ u).ownsRow V.heap.size 66 2 b vs.length (ct vs):=λW k u h=>ownsRow_setCell_other h (a:=⟨xb,k,O⟩) e u
 exact⟨oS i,hs _ _ _ (hs _ _ _ (hs _ _ _ g)),e,((f.setCell (p:=⟨xb,0,O⟩) c _).setCell (p:=⟨xb,1,O⟩) c _).setCell (p:=⟨xb,2,O⟩) c _,c⟩
theorem jf.root{V c:iW}{d:iX}(i:vs.length=n)(h:jf V c xb (Y (X ⟨g,0,O⟩) n cap) d nx vs)(l:vs[k]?=X v)(r:Int):jf V (c.setCell ⟨g,k*2+1,O⟩ (I J r)) xb (Y (X ⟨g,0,O⟩) n cap) d nx (vs.set k (v.1,r)):=by
 obtain⟨h1,a,f,h4,j⟩:=h;rw[i]at a;have b:xb≠g:=λe=>f (by rw[e];rfl)
 have m:=(nL a g rfl).1;refine⟨cX h1 b _ _,?_,f,h4.setCell (p:=⟨g,k*2+1,O⟩) m _,j⟩;have:=sW a rfl (k*2+1) (I J r);rw[F9 l]at this;rw[gK,i];exact this
theorem jf.drew{V a:iW}{c b:iX}(h:jf V a xb c b nx vs):jf V a.drew xb c b nx vs:=⟨h.1,bC h.2.1 ((ax _ _).drew),h.2.2.1,h.2.2.2.1.drew,h.2.2.2.2⟩
theorem Aw(v:iX)(s:Sto)(w:iW)(aO:dK w v s):iK Tryz.prog 89 #[v] w λe w'=>∃u,e=G u/\fI w (hO s) u w'/\mX u:=by
 obtain⟨va,f,vc,ad,p,cap,rs,rfl,au,aY,hl,av,aw,h,hk⟩:=aO;have HV:=af h;have d:=af h.1;have HK:=af hk;have aH:=af au;have an:=af av;have ap:=af aw;obtain⟨nx,ak⟩:=aq s.next;have aI:=af ak;obtain⟨L,hL⟩:=aq (jV s.fK (cH s.fV));obtain⟨R,hR⟩:=aq (mp s.fK (cH s.fV));have HL:=af hL;have HR:=af hR;have Q:ah (R.length=f):=by show _=_;rw[<-hR,WG,cH,bm,d.o]
 unfold eA;rw[ak];have T0:=af (Tk.two w #[Y va f vc,Y ad p cap,I J nx] #[Y O 0 0,Y O 0 0,I J 0] 32 32);clear h hk au av aw ak hL hR;go_enter Tryz.func89,Tryz.ntmps89;go_wp2_with fail;generalize(w.alloc (iC #[Y va f vc,Y ad p cap,I J nx] 32)).alloc (iC #[Y O 0 0,Y O 0 0,I J 0] 32)=wb at T0⊢;have y0:wb.cell? ⟨w.heap.size,0,O⟩=X (Y va f vc):=T0.o.at 1 0 rfl rfl;have y1:wb.cell? ⟨w.heap.size,1,O⟩=X (Y ad p cap):=T0.o.at 1 1 rfl rfl;have y2:wb.cell? ⟨w.heap.size,2,O⟩=X (I J nx):=T0.o.at 1 2 rfl rfl;have BW:=af T0.o.1;have XR:=af (T0.o.get 0 rfl);have XB:ah (w.heap.size<wb.heap.size):=bk wb _ y0;obtain⟨z,hz⟩:=aq w.heap.size;have aM:=af hz;rw[hz]at y0 y1 y2 XR XB⊢;clear hz T0;have a0:=XB.o;have S:ah (∀W,iL wb.heap.size wb W->W.cell? ⟨z,0,O⟩=X (Y va f vc)/\W.cell? ⟨z,1,O⟩=X (Y ad p cap)/\W.cell? ⟨z,2,O⟩=X (I J nx)):=λW H=>⟨(H.cell (show z<wb.heap.size by omega)).trans y0,(H.cell (show z<wb.heap.size by omega)).trans y1,(H.cell (show z<wb.heap.size by omega)).trans y2⟩
 have VB:=af (HV.o.below BW.o);have KB:=af (HK.o.below BW.o);have CR:ah (∀W,iL wb.heap.size wb W->iK Tryz.prog 131 #[iA #[Y va f vc,Y ad p cap,I J nx]] W λe w'=>∃K rc,e=G (Y K f rc)/\ah ((K=O->rc=0)/\gP w' K f (cH s.fV))/\ah (iL wb.heap.size wb w')/\ah (iL W.heap.size W w')):=λW H=>by
  refine(Gu va f vc ad p cap nx s.fV W (by omega) (VB.o.below H)).mono ?_
  rintro e w' ⟨v,rfl,ho,hb⟩;have hn:(cH s.fV).length=f:=by rw[cH,bm];exact d.o
  obtain⟨K,rc,e,h1,h2⟩:=kM.of (aG.of ho) (by rw[hn];unfold maxLen;omega) (am _)
  rw[hn]at e h2;subst e;exact⟨K,rc,rfl,⟨h1,h2⟩,H.trans (hb.mono H.size),hb⟩
 have CS:ah (∀W K rc,iL wb.heap.size wb W->(K=O->rc=0)/\gP W K f (cH s.fV)->iK Tryz.prog 130 #[iA #[Y ad p cap],Y K f rc] W λe w'=>∃j m l E P,e=G (iU #[iA #[Y j m l],Y E f P])/\ah (tF W L R (G (iU #[iA #[Y j m l],Y E f P])) w')/\ah (iL wb.heap.size wb w')/\ah (iL W.heap.size W w')):=λW K rc H ao=>by
  refine(Mt ad p cap rs K f rc (cH s.fV) W (by omega) (by omega) an.o (KB.o.below H) ao.1 ao.2).mono ?_
  intro e w' hh;rw[<-aH.o,HL.o,HR.o]at hh;have ai:=hh;obtain⟨uv,iv,_,_,_,_,rfl,hu,hi,-,-,-,-,-,hb⟩:=hh;obtain⟨j,l,rfl⟩:=hu.form;rw[Q.o]at hi;obtain⟨E,P,rfl,-⟩:=hi.form;exact⟨j,_,l,E,P,rfl,ai,H.trans (hb.mono H.size),hb⟩
 have ac:ah (iL wb.heap.size wb wb.drew):=(ax _ _).drew;have ae:ah (iL wb.heap.size wb (wb.alloc (iC #[Y O 0 0] 30)).drew):=(aZ).drew;have ag:ah (iL wb.heap.size wb (wb.drew.alloc (iC #[Y O 0 0] 30))):=((ax _ _).drew).alloc (am _) _;go_cut [3,4] (λs3 s4 V=>∃(c:Nat) (j:Option Addr) (m l:Nat) (E:Option Addr) (P:Nat),s3=iP (X ⟨c,0,O⟩)/\s4=Y E f P/\ah (qw wb V c (Y j m l) (Y E f P) L R))
 case first=>
  go_region_held3 (λw'=>w'.cell? ⟨z,0,O⟩=X (Y va f vc)/\w'.cell? ⟨z,1,O⟩=X (Y ad p cap)/\w'.cell? ⟨z,2,O⟩=X (I J nx)) (first|exact S.o _ ac.o|exact S.o _ ae.o|exact S.o _ ag.o|exact S.o _ S2.o|exact S.o _ (S2.o.alloc S2.o.size _)|exact S.o _ S3.o|exact S.o _ (S3.o.alloc S3.o.size _)|exact S.o _ (S3.o.setCell S2.o.size _)|exact S.o _ (S3.o.setCell (am _) _)) (first
   |(go_at_call 131;(with_reducible refine cn (CR.o _ (by first|exact ac.o|exact ae.o|exact ag.o)) ?_);rintro en x2 ⟨K,rc,rfl,N,S2,N2⟩)
   |(go_at_call 130;(with_reducible refine cn (CS.o _ K rc (by first|exact S2.o|exact S2.o.alloc S2.o.size _) (by first|exact N.o|exact⟨N.o.1,N.o.2.below (aZ)⟩)) ?_);rintro en x3 ⟨j,m,l,E,P,rfl,U3,S3,N3⟩;(try(have nc:ah (x3.heap[x2.heap.size]?=X (iC #[Y O 0 0] 30 (0,0))):=(N3.o.block _ (by simp)).trans (aB x2 _);have kc:=aj _ _ 0 _ _ _ nc.o;have kf:=aF _ _ 0 _ _ nc.o));(try(have nc:ah (x3.heap[wb.heap.size]?=X (iC #[Y O 0 0] 30 (0,0))):=(N3.o.block _ (by have:=N2.o.size;simp at this;omega)).trans ((N2.o.block _ (by simp)).trans (aB wb _));have kc:=aj _ _ 0 _ _ _ nc.o;have kf:=aF _ _ 0 _ _ nc.o))))
  all_goals
   go_wp2_with fail;go_meet
   case rel=>first
    |exact⟨_,j,m,l,E,P,rfl,rfl,qw.behind U3.o S3.o S2.o.size⟩
    |exact⟨_,j,m,l,E,P,rfl,rfl,qw.ahead U3.o S3.o ⟨S2.o.size,by simp⟩ nc.o⟩
    |exact⟨_,j,m,l,E,P,rfl,rfl,qw.ahead U3.o S3.o ⟨am _,by have:=N2.o.size;simp at this;omega⟩ nc.o⟩
 case rest=>
  obtain⟨c,j,m,l,E,P,aR,aS,B⟩:=hcut;subst aR aS;clear CR CS ac ae ag;obtain⟨q,hq⟩:∃q,q=wc:=⟨_,rfl⟩;subst hq;have LC:ah (c<q.heap.size):=(aK.1 B.o.1).1;have c0:q.cell? ⟨c,0,O⟩=X (Y j m l):=aj _ _ 0 _ _ _ B.o.1;have aL:ah (wb.heap.size<=q.heap.size):=B.o.2.1.size;obtain⟨i0,hi,aA,ab,aC⟩:=bO zr;have I0:=af hi;have Y0:=af aA;have Y1:=af ab;have Y2:=af aC;clear hi aA ab aC;have KS:ah (∀W,iL q.heap.size q W->W.cell? ⟨z,0,O⟩=X (Y va f vc)/\W.cell? ⟨z,2,O⟩=X (I J nx)/\W.cell? ⟨c,0,O⟩=X (Y j m l)):=λW H=>by
   have hh:=S.o W (B.o.2.1.trans (H.mono B.o.2.1.size));exact⟨hh.1,hh.2.2,(H.cell (show c<q.heap.size from LC.o)).trans c0⟩
  have SL:ah (∀W,iL q.heap.size q W->qz W (Y va f vc) s.fV):=λW H=>⟨va,vc,by rw[d.o],ap.o,by rw[d.o];exact VB.o.below (B.o.2.1.trans (H.mono B.o.2.1.size))⟩
  have W1:ah (iL q.heap.size q (q.alloc (iC #[] 66)).drew):=(aZ).drew;have WX:ah (iL q.heap.size q (q.alloc (iC #[Y O 0 0,Y O 0 0,I J 0] 32)).drew):=(aZ).drew;have W2:ah (iL q.heap.size q ((q.alloc (iC #[] 66)).alloc (iC #[Y O 0 0,Y O 0 0,I J 0] 32)).drew):=((aZ).alloc (by simp) _).drew
  have W3:ah (iL q.heap.size q ((q.alloc (iC #[Y O 0 0,Y O 0 0,I J 0] 32)).alloc (iC #[] 66)).drew):=((aZ).alloc (by simp) _).drew
  have ze:(q.alloc (iC #[] 66)).heap.size=q.heap.size+1:=by simp
  have zx:(q.alloc (iC #[Y O 0 0,Y O 0 0,I J 0] 32)).heap.size=q.heap.size+1:=by simp
  have RN:∀(W:iW) (g:Nat),W.heap[g]?=X (iC #[] 66 (0,0))->q.heap.size<=g->W.ownsRow q.heap.size 66 2 (Y (X ⟨g,0,O⟩) 0 0) 0 []:=λW g h1 h2=>⟨rfl,.inr ⟨g,0,#[],rfl,h2,h1,am _,by unfold maxLen;omega,rfl,rfl⟩⟩
  have O1:ah ((q.alloc (iC #[] 66)).drew.ownsRow q.heap.size 66 2 (Y (X ⟨q.heap.size,0,O⟩) 0 0) 0 []):=RN _ _ (aB q _) (am _);have O2:ah (((q.alloc (iC #[] 66)).alloc (iC #[Y O 0 0,Y O 0 0,I J 0] 32)).drew.ownsRow q.heap.size 66 2 (Y (X ⟨q.heap.size,0,O⟩) 0 0) 0 []):=RN _ _ ((gn _ _ _ (by simp)).trans (aB q _)) (am _)
  have O3:ah (((q.alloc (iC #[Y O 0 0,Y O 0 0,I J 0] 32)).alloc (iC #[] 66)).drew.ownsRow q.heap.size 66 2 (Y (X ⟨q.heap.size+1,0,O⟩) 0 0) 0 []):=RN _ _ (by have:=aB (q.alloc (iC #[Y O 0 0,Y O 0 0,I J 0] 32)) (iC #[] 66);rw[zx]at this;exact this) (by omega)
  have X2:ah (((q.alloc (iC #[] 66)).alloc (iC #[Y O 0 0,Y O 0 0,I J 0] 32)).drew.heap[q.heap.size+1]?=X (iC #[Y O 0 0,Y O 0 0,I J 0] 32 (0,0))):=by have:=aB (q.alloc (iC #[] 66)) (iC #[Y O 0 0,Y O 0 0,I J 0] 32);rw[ze]at this;exact this
  have X3:ah (((q.alloc (iC #[Y O 0 0,Y O 0 0,I J 0] 32)).alloc (iC #[] 66)).drew.heap[q.heap.size]?=X (iC #[Y O 0 0,Y O 0 0,I J 0] 32 (0,0))):=(gn _ _ _ (by simp)).trans (aB q _)
  have WD:ah (iL q.heap.size q q.drew):=(ax _ _).drew;clear ze zx RN;go_wp2_with fail;go_cut [5] (λs5 V=>∃(xb:Nat) (n:Option Addr) (lc:Nat),s5=iP (X ⟨xb,0,O⟩)/\ah (jf q V xb (Y n f lc) (Y j m l) nx s.fV))
  case first=>
   go_region_held3 (λw'=>w'.cell? ⟨z,0,O⟩=X (Y va f vc)/\w'.cell? ⟨z,2,O⟩=X (I J nx)/\w'.cell? ⟨c,0,O⟩=X (Y j m l)) (first|exact KS.o _ WD.o|exact KS.o _ W1.o|exact KS.o _ WX.o|exact KS.o _ W2.o|exact KS.o _ W3.o|exact KS.o _ M.o|exact KS.o _ (M.o.alloc M.o.size _)|exact KS.o _ (XL.o.2.2.2.1)|exact KS.o _ (XE.o.2.2.2.1)|go_keep) (first
    |(refine sj _ (by rfl) (.tmp 15) (.tmp 17) (by rfl) q.heap.size i0 I0.o Y0.o Y1.o Y2.o _ 0 [] (by simp[Act.eval]) O1.o s.fV f d.o _ (by simp[Act.eval]) (SL.o _ W1.o) (by unfold maxLen;omega) (by omega) W1.o.size ?_;intro v6 A o6 g6;(rw[jT,eC]at o6);(have F:A.ownsRow q.heap.size 66 2 v6 s.fV.length (ct s.fV):=(by rw[d.o];exact o6));(have T:=(aG.of F).form);(rw[d.o]at T);(obtain⟨n,lc,Z,-⟩:=T);subst Z;have M:ah (iL q.heap.size q A):=W1.o.grown g6 W1.o.size (λx hx=>by cases hx;exact am _);have XL:ah (jf q (A.alloc (iC #[Y n f lc,Y j m l,I J nx] 32)) A.heap.size (Y n f lc) (Y j m l) nx s.fV):=jf.behind F M.o;clear o6 F g6)
    |(refine sj _ (by rfl) (.tmp 15) (.tmp 17) (by rfl) q.heap.size i0 I0.o Y0.o Y1.o Y2.o _ 0 [] (by simp[Act.eval]) O2.o s.fV f d.o _ (by simp[Act.eval]) (SL.o _ W2.o) (by unfold maxLen;omega) (by omega) W2.o.size ?_;intro v6 A o6 g6;(rw[jT,eC]at o6);(have F:A.ownsRow q.heap.size 66 2 v6 s.fV.length (ct s.fV):=(by rw[d.o];exact o6));(have T:=(aG.of F).form);(rw[d.o]at T);(obtain⟨n,lc,Z,-⟩:=T);subst Z;have M:ah (iL q.heap.size q A):=W2.o.grown g6 W2.o.size (λx hx=>by cases hx;exact am _);have i:A.heap[q.heap.size+1]?=X (iC #[Y O 0 0,Y O 0 0,I J 0] 32 (0,0)):=(g6.block _ (aK.1 X2.o).1 (λe=>by simp[Value.ownBlock]at e)).trans X2.o;have U:(Y n f lc).ownBlock≠X (q.heap.size+1):=(λe=>GY F i e);have e0:=aj _ _ 0 _ _ _ i;have e1:=aj _ _ 1 _ _ _ i;have e2:=aj _ _ 2 _ _ _ i;have e3:=aF _ _ 0 _ _ i;have e4:=aF _ _ 1 _ _ i;have e5:=aF _ _ 2 _ _ i;have XE:ah (jf q (((A.setCell ⟨q.heap.size+1,0,O⟩ (Y n f lc)).setCell ⟨q.heap.size+1,1,O⟩ (Y j m l)).setCell ⟨q.heap.size+1,2,O⟩ (I J nx)) (q.heap.size+1) (Y n f lc) (Y j m l) nx s.fV):=jf.ahead F M.o i (by omega) U;clear o6 F g6 i U)
    |(refine sj _ (by rfl) (.tmp 15) (.tmp 17) (by rfl) q.heap.size i0 I0.o Y0.o Y1.o Y2.o _ 0 [] (by simp[Act.eval]) O3.o s.fV f d.o _ (by simp[Act.eval]) (SL.o _ W3.o) (by unfold maxLen;omega) (by omega) W3.o.size ?_;intro v6 A o6 g6;(rw[jT,eC]at o6);(have F:A.ownsRow q.heap.size 66 2 v6 s.fV.length (ct s.fV):=(by rw[d.o];exact o6));(have T:=(aG.of F).form);(rw[d.o]at T);(obtain⟨n,lc,Z,-⟩:=T);subst Z;have M:ah (iL q.heap.size q A):=W3.o.grown g6 W3.o.size (λx hx=>by cases hx;show q.heap.size<=q.heap.size+1;omega);have i:A.heap[q.heap.size]?=X (iC #[Y O 0 0,Y O 0 0,I J 0] 32 (0,0)):=(g6.block _ (aK.1 X3.o).1 (λe=>by simp[Value.ownBlock]at e)).trans X3.o;have U:(Y n f lc).ownBlock≠X (q.heap.size):=(λe=>GY F i e);have e0:=aj _ _ 0 _ _ _ i;have e1:=aj _ _ 1 _ _ _ i;have e2:=aj _ _ 2 _ _ _ i;have e3:=aF _ _ 0 _ _ i;have e4:=aF _ _ 1 _ _ i;have e5:=aF _ _ 2 _ _ i;have XE:ah (jf q (((A.setCell ⟨q.heap.size,0,O⟩ (Y n f lc)).setCell ⟨q.heap.size,1,O⟩ (Y j m l)).setCell ⟨q.heap.size,2,O⟩ (I J nx)) (q.heap.size) (Y n f lc) (Y j m l) nx s.fV):=jf.ahead F M.o i (by omega) U;clear o6 F g6 i U))
   all_goals
    go_wp2_with fail;go_meet
    case rel=>first
     |exact⟨_,_,_,rfl,XL⟩
     |exact⟨_,_,_,rfl,XE⟩
  case rest=>
   obtain⟨xb,n,lc,aT,OV⟩:=hcut;subst aT;obtain⟨q2,aQ⟩:∃q2,q2=wc:=⟨_,rfl⟩;subst aQ;have ar:ah (jf q q2 xb (Y n f lc) (Y j m l) nx (mg s.fV R 0)):=by
    have e:mg s.fV R 0=s.fV:=by simp[mg]
    rw[e];exact OV.o
   clear OV W1 WX W2 W3 O1 O2 O3 X2 X3 WD SL KS I0 Y0 Y1 Y2 c0 S VB KB an ap;go_wp2_with fail;go_loopw [6] (λiv W=>∃k:Nat,k<=f/\iv=I J k/\ah (jf q W xb (Y n f lc) (Y j m l) nx (mg s.fV R k))) (λiv _=>f-(intOf iv).toNat)
   case atStart=>exact⟨0,aJ _,rfl,ar⟩
   case round=>
    obtain⟨k,hk,rfl,y⟩:=hrel;clear ar;have x0:wr.cell? ⟨xb,0,O⟩=X (Y n f lc):=aj _ _ 0 _ _ _ y.o.1;by_cases aX:(k:Int)<f
    ·obtain⟨v,hv⟩:∃v,s.fV[k]?=X v:=⟨_,ay (by have:=d.o;omega)⟩
     obtain⟨r,hr⟩:∃r,R[k]?=X r:=⟨_,ay (by have:=Q.o;omega)⟩
     have C:s.fV.length=R.length:=by rw[Q.o];exact d.o
     have aa:=aaM C (show k<s.fV.length by have:=d.o;omega)
     rw[hv]at aa;have t:=OI s.fV R k C (by have:=d.o;omega)
     rw[d.o]at t;obtain⟨g,aU,aV,aW⟩:∃g,n=X ⟨g,0,O⟩/\q.heap.size<=g/\g<wr.heap.size:=by
      obtain⟨ba,bb,e,hh⟩:=(aG.of y.o.2.1).form;injection e with e1 e2 e3
      obtain⟨g,e4,e5,e6⟩:=hh (by rw[t];omega)
      exact⟨g,by rw[e1,e4],e5,e6⟩
     subst aU;have NX:=af (y.o.root t aa r).drew;rw[Uk C hv hr]at NX;have HO:=af y.o.2.1;rw[t]at HO;have oc:wr.cell? ⟨g,k*2+1,O⟩=X (I J v.2):=by
      rw[<-fh];exact HO.o.cells (g:=g) rfl _ _ (uy _ k v aa 1 _ rfl)
     have of:wr.frozen? ⟨g,k*2+1,O⟩=iF:=by
      obtain⟨-,-,cs,q⟩:=nL HO.o g rfl;exact aF _ _ _ _ _ q
     obtain⟨-,-,lo1,hi1,lo2,hi2,-,D,-,-,-,ai,-⟩:=B.o
     replace D:=D.blw y.o.2.2.2.1
     rw[Q.o]at D;obtain⟨ig,aN⟩:∃ig,E=X ⟨ig,0,O⟩:=by
      obtain⟨a7,a8,e,hh⟩:=D.form;injection e with e1 e2 e3
      obtain⟨ig,e4,-⟩:=hh (by omega)
      exact⟨ig,by rw[e1,e4]⟩
     subst aN;have a9:wr.cell? ⟨ig,k,O⟩=X (I J r):=D.flt.cell (kB hr);have k0:(0:Int)<=k:=by omega
     clear hv hr C aa t D HO y ai B aL LC;go_wp2;go_region;go_wp2;go_roundw
     case rel=>exact⟨k+1,by omega,by go_num,NX⟩
     case measure=>simp[intOf];omega
    ·have ek:k=f:=by omega
     subst ek;have x1:wr.cell? ⟨xb,1,O⟩=X (Y j m l):=aj _ _ 1 _ _ _ y.o.1;have x2:wr.cell? ⟨xb,2,O⟩=X (I J nx):=aj _ _ 2 _ _ _ y.o.1;have aD:ah (z+1<wb.heap.size):=(aK.1 XR.o).1;have M:ah (iL wb.heap.size wb wr):=B.o.2.1.trans (y.o.2.2.2.1.mono B.o.2.1.size);have N:ah (wr.heap[z+1]?=X (iC #[Y O 0 0,Y O 0 0,I J 0] 32 (0,0))):=(M.o.block (z+1) aD.o).trans XR.o;have r0:=aj _ _ 0 _ _ _ N.o;have r1:=aj _ _ 1 _ _ _ N.o;have r2:=aj _ _ 2 _ _ _ N.o;have f0:=aF _ _ 0 _ _ N.o;have f1:=aF _ _ 1 _ _ N.o;have f2:=aF _ _ 2 _ _ N.o;have R3:=af (oS (a:=Y n k lc) (b:=Y j m l) (c:=I J nx) N.o);have aE:ah (fI w (hO s) (iA #[Y n k lc,Y j m l,I J nx]) (((wr.setCell ⟨z+1,0,O⟩ (Y n k lc)).setCell ⟨z+1,1,O⟩ (Y j m l)).setCell ⟨z+1,2,O⟩ (I J nx))):=by
      have C:s.fV.length=R.length:=by rw[Q.o];exact d.o
      have e:mg s.fV R k=(hO s).fV:=by
       show _=List.zipWith _ _ _;rw[HR.o,<-Si C,d.o]
      have hS:=aG.of y.o.2.1;rw[e]at hS;obtain⟨-,h5,lo1,hi1,lo2,hi2,aP,-,a1,a2,-,-,-⟩:=B.o;have a3:=y.o.2.2.2.1.size;have a4:=h5.size;have a5:=aD.o;have a6:=aM.o;have en:(hO s).next=nx:=aI.o;have ek:(hO s).fK=L:=HL.o;have T:=yN (w:=w) (W:=wr) (z:=z+1) (lo1:=q.heap.size) (hi1:=wr.heap.size) (lo2:=lo1) (hi2:=hi1) (vv:=Y n k lc) (kv:=Y j m l) (s:=hO s) (by omega) hS (by rw[ek];exact dB.loc _ _ _ _ q _ (λg g1 g2=>y.o.2.2.2.1.block g (by omega)) aP) ⟨by have:=BW.o.size;omega,.inr (by omega)⟩ ⟨by have:=BW.o.size;omega,.inr (by omega)⟩ (am _) (by omega) (.inr (by omega)) (BW.o.trans (M.o.mono BW.o.size))
      rw[en]at T;exact T
     have al:=af (zM y.o.2.1);clear y N M B;go_wp2;exact az (vY rfl _ _ (z+1) 32 _ (0,0) _ rfl R3.o Tryz.underlying32 rfl uf) rfl ⟨_,rfl,aE.o,⟨_,_,_,_,_,rfl,al.o⟩⟩
end Go.Proofs.YtgigcooffjjbgaaGreatDoor
