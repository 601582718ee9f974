/-
  SStOk; RtK; SSwp
-/
import Derived.Test.YtijmbohadndfmaaGreatDoorSSweep
open Go.Value renaming int→I,slice→Y,bool→iB,pointer→iP,agg→iA,tuple→iU
open Go.IntKind renaming i64→J
open Option renaming none→O,some→X
open Go.Ending renaming returned→G
open Go.Obj renaming cells→iC
open Bool renaming true→iV,false→iF
open Go renaming World→iW,Value→iX,Calls→iK
open Go.RowKit renaming Below→iL
set_option maxHeartbeats 2000000
set_option maxRecDepth 100000
namespace Go.Proofs.YtijmbohadndfmaaGreatDoor
open Go.RowKit Words
variable{r nx:Int}{v:Int × Int}{vs:List (Int × Int)}{R:List Int}{i k c B n xb cap g:Nat}
variable{s:Sto}
theorem Qx(h:3<s.fV.length):dc s=iF:=by
 rw[dc,aV (by omega)]
 rfl
theorem Py(h:cO s.fK=iF):dc s=iF:=by
 rw[dc,h,uq];rfl
theorem Wx(h:¬(1<=s.next/\s.next<=1000000000)):dc s=iF:=by
 cases e:dc s with
 |false=>rfl
 |true=>exact absurd ((jQ s).1 e).nx h
theorem tD(hi:s.fV[i]?=X v)(a:ly s i v=iF):dc s=iF:=by
 rw[dc,Qm hi a,mV,uq]
theorem Uc(h1:s.fV.length<=3)(b:cO s.fK=iV)(a:1<=s.next/\s.next<=1000000000)(h4:je s s.fV.length=iV):dc s=decide ((jp s.fK (cC s.fV)).length=s.fK.length):=by
 rw[dc,aQ h1,b,aQ a.1,aQ a.2,h4];rfl
theorem uJ(h:¬((1<=v.1/\v.1<=9)/\m7 s i v.1=iV/\bO s.fK v.2=iV/\kp s v.2 16=iV)):ly s i v=iF:=by
 cases e:ly s i v with
 |false=>rfl
 |true=>
  rw[ly]at e;simp only[bt,bW]at e;exact absurd ⟨e.1.1,e.1.2,e.2.1,e.2.2⟩ h
theorem NI(h1:1<=v.1/\v.1<=9)(a:m7 s i v.1=iV)(b:bO s.fK v.2=iV)(h4:kp s v.2 16=iV):ly s i v=iV:=by
 rw[ly,aQ h1.1,aQ h1.2,a,b,h4];rfl
theorem Rm:kp s r (k+1)=(kp s r k&&decide (cX s.fK r k<s.next)):=by
 rw[kp,kp,qb,BI];simp
theorem Mm(a:k<16)(h:¬cX s.fK r k<s.next):¬kp s r 16=iV:=λe=>h (Az.1 e k (by omega))
theorem JB(va:Option Addr)(f vc:Nat)(ad:Option Addr)(a cap:Nat)(nx:Int)(vs:List (Int×Int))(rs:List Kw)(w:iW)(aZ:f<=1048578)(hl:a<=1048578)(aF:∀r∈rs,r.2.2.length<=1048576)(h:gn w va f vs)(hk:eH w ad a rs):
 iK Tryz.prog 71 #[iA (eC va f vc ad a cap nx)] w λe w'=>e=G (iB (dc ⟨vs,rs.map aG,nx⟩))/\iL w.heap.size w w':=by
 obtain⟨S,hS⟩:∃S:Sto,S=⟨vs,rs.map aG,nx⟩:=⟨_,rfl⟩;have T:ah (S.fV=vs):=by show _=_;rw[hS]
 have SK:ah (S.fK=rs.map aG):=by show _=_;rw[hS]
 have SN:ah (S.next=nx):=by show _=_;rw[hS]
 rw[<-hS];have HL:=af aF;have p:=af h.1;have B0:=af (aO w (iC #[Y va f vc,Y ad a cap,I J nx] 44));have T0:=af ((Tk.start w).cell #[Y va f vc,Y ad a cap,I J nx] 44);have HV:=af h;have HK:=af hk;clear h hk aF hS;unfold eC;by_cases a1:(3:Int)<f
 ·have E:ah (dc S=iF):=Qx (by rw[T.o,p.o];omega)
  go_enter Tryz.func71,Tryz.ntmps71;go_wp2;go_ret;exact⟨by rw[E.o];rfl,B0.o⟩
 ·go_enter Tryz.func71,Tryz.ntmps71;go_wp2_with fail;refine(vU ad a cap rs _ hl (HK.o.below B0.o)).mono ?_;rintro e w1 ⟨rfl,t⟩;have x:=af (T0.o.below t);clear t T0 B0;have x0:w1.cell? ⟨w.heap.size,0,O⟩=X (Y va f vc):=x.o.at 0 0 rfl rfl;have i:w1.cell? ⟨w.heap.size,1,O⟩=X (Y ad a cap):=x.o.at 0 1 rfl rfl;have x2:w1.cell? ⟨w.heap.size,2,O⟩=X (I J nx):=x.o.at 0 2 rfl rfl;cases ab:cO (rs.map aG)with
  |false=>
   have E:ah (dc S=iF):=Py (by rw[SK.o];exact ab)
   clear ab;go_wp2;go_ret;exact⟨by rw[E.o];rfl,x.o.1⟩
  |true=>
   have ao:=af ab;clear ab;by_cases a3:1<=nx/\nx<=1000000000
   ·go_wp2_with fail;refine(gM nx 1 1000000000 iV _ (.inl ⟨a3.1,a3.2,rfl⟩)).mono ?_;rintro e l ⟨rfl,rfl⟩;have A3:=af a3;have XB:=af (show w.heap.size<l.heap.size from by have:=x.o.hi 0 rfl;omega)
    obtain⟨z,hz⟩:=an w.heap.size;rw[hz]at x0 i x2 x XB⊢;have a8:=af hz;clear a3 hz;go_wp2;go_loopw [3] (λiv W=>∃k:Nat,k<=f/\iv=I J k/\ah (je S k=iV)/\ah (iL l.heap.size l W)) (λiv _=>f-(intOf iv).toNat)
    case atStart=>exact⟨0,aI _,rfl,(rfl:je S 0=iV),ax _ _⟩
    case round=>
     obtain⟨k,hk,rfl,aw,L⟩:=hrel;have y0:=(L.o.cell (show z<l.heap.size from XB.o)).trans x0;have y1:=(L.o.cell (show z<l.heap.size from XB.o)).trans i;have y2:=(L.o.cell (show z<l.heap.size from XB.o)).trans x2;by_cases bc:(k:Int)<f
     ·have hv:=ay (show k<vs.length by have:=p.o;omega)
      generalize vs[k]'(by have:=p.o;omega)=v at hv
      obtain⟨b,aa,e,hb,c0,c1⟩:=(((HV.o.below x.o.1).below L.o)).at hv;subst e;have N:=af hv;have k0:(0:Int)<=k:=by omega
      clear hv;have ac:=L.o.size;have a0:=XB.o;have BV:=af (aO wr (iC #[I J v.1,I J v.2] 68));have R:=af (az wr (iC #[I J v.1,I J v.2] 68));have VB:=af ((HV.o.below x.o.1).below L.o);have KB:=af ((HK.o.below x.o.1).below L.o);have BE:ah (∀W,iL wr.heap.size wr W->iL w.heap.size w W):=λW H=>x.o.1.trans ((L.o.trans (H.mono ac)).mono x.o.1.size)
      have D:ah (∀W,iL wr.heap.size wr W->W.cell? ⟨z,0,O⟩=X (Y (X ⟨b,aa,O⟩) f vc)/\W.cell? ⟨z,1,O⟩=X (Y ad a cap)/\W.cell? ⟨z,2,O⟩=X (I J nx)):=λW H=>⟨(H.cell (show z<wr.heap.size by omega)).trans y0,(H.cell (show z<wr.heap.size by omega)).trans y1,(H.cell (show z<wr.heap.size by omega)).trans y2⟩
      go_upto_region 7 with fail
      generalize wr.alloc (iC #[I J v.1,I J v.2] 68)=C at BV R⊢;obtain⟨g,hg⟩:=an wr.heap.size;rw[hg]at R⊢;have HG:=af hg;have k1:=D.o _ BV.o;have q0:C.cell? ⟨z,0,O⟩=X (Y (X ⟨b,aa,O⟩) f vc):=k1.1;have q1:C.cell? ⟨z,1,O⟩=X (Y ad a cap):=k1.2.1;have q2:C.cell? ⟨z,2,O⟩=X (I J nx):=k1.2.2;have g0:C.cell? ⟨g,0,O⟩=X (I J v.1):=am _ _ 0 _ _ _ R.o;have g1:C.cell? ⟨g,1,O⟩=X (I J v.2):=am _ _ 1 _ _ _ R.o;have P:ah (iL wr.heap.size wr C.drew):=BV.o.drew;clear hg y0 y1 y2 c0 c1 k1;go_cut [63] (λa2 W=>∃bb:Bool,a2=iB bb/\ah ((bb=iV->dc S=iF)/\(bb=iF->(1<=v.1/\v.1<=9)/\m7 S k v.1=iV/\bO (rs.map aG) v.2=iV))/\ah (iL wr.heap.size wr W)/\ah (W.heap[g]?=X (iC #[I J v.1,I J v.2] 68 (0,0))))
      case first=>
       by_cases a4:1<=v.1/\v.1<=9
       ·have A4:=af a4;have CI:ah (∀W,iK Tryz.prog 40 #[I J v.1,I J 1,I J 9] W λe w'=>e=G (iB iV)/\w'=W):=λW=>gM v.1 1 9 iV W (.inl ⟨a4.1,a4.2,rfl⟩)
        have CT:=af (wN ad a cap rs v.2 C.drew hl (KB.o.below P.o));clear a4;by_cases aW:k=0
        ·subst aW;have AS:ah (m7 S 0 v.1=iV):=(rfl:_=_);refine kJ (λw'=>w'.cell? ⟨z,0,O⟩=X (Y (X ⟨b,aa,O⟩) f vc)/\w'.cell? ⟨z,1,O⟩=X (Y ad a cap)/\w'.cell? ⟨g,0,O⟩=X (I J v.1)/\w'.cell? ⟨g,1,O⟩=X (I J v.2)) (by kernel_rfl) ⟨q0,q1,g0,g1⟩ (λhHeld=>?_)
         simp only[aR,cU,Nat.reduceAdd];refine au 0 ?_;refine au 1 ?_;refine ch 2 rfl (by kernel_rfl) (λK U=>?_)
         go_simp;refine(CI.o _).mono ?_;rintro en _ ⟨rfl,rfl⟩;refine U.out _ _ (by assumption) (λhHeld2=>?_)
         clear U K hHeld;have hHeld:=hHeld2;clear hHeld2
         (try simp only[Act.put,bJ,bE,bp])
         refine au 3 ?_;refine au 4 ?_;refine au 5 ?_;refine au 6 ?_;refine au 7 ?_;refine nt 8 ?_;refine nt 9 ?_;refine nt 10 ?_;refine nt 11 ?_;refine nt 12 ?_;refine nt 13 ?_;refine nt 14 ?_;refine nt 15 ?_;refine nt 16 ?_;refine nt 17 ?_;refine au 18 ?_;refine au 19 ?_;refine au 20 ?_;refine au 21 ?_;refine au 22 ?_;refine au 23 ?_;refine au 24 ?_;refine ch 25 rfl (by kernel_rfl) (λK U=>?_)
         go_simp;refine CT.o.mono ?_;rintro en i ⟨rfl,t⟩;have NB:=af t;refine U.out _ _ (by exact⟨(t.cell (bh C _ q0)).trans q0,(t.cell (bh C _ q1)).trans q1,(t.cell (bh C _ g0)).trans g0,(t.cell (bh C _ g1)).trans g1⟩) (λhHeld2=>?_)
         clear U K hHeld;have hHeld:=hHeld2;clear hHeld2
         (try simp only[Act.put,bJ,bE,bp])
         refine au 26 ?_;refine au 27 ?_;refine jx (by kernel_rfl) ?_
         clear hHeld;have d:ah (iL wr.heap.size wr i):=P.o.trans (t.mono P.o.size);go_wp2_with fail;go_meet
         case rel=>exact⟨!bO (rs.map aG) v.2,rfl,⟨λF=>(tD (by rw[T.o];exact N.o) (uJ (λq=>by have:=q.2.2.1;rw[SK.o]at this;rw[this]at F;cases F)):dc S=iF),λF=>⟨A4.o,AS.o,by simpa using F⟩⟩,d,(NB.o.block g (aJ.1 R.o).1).trans R.o⟩
        ·obtain⟨j,rfl⟩:∃j,k=j+1:=⟨k-1,by omega⟩
         have hu:=ay (show j<vs.length by have:=p.o;omega)
         generalize vs[j]'(by have:=p.o;omega)=u at hu
         obtain⟨b',a7,eb,-,p0,-⟩:=(VB.o.below BV.o).at hu;injection eb with eb
         injection eb with eb1 eb2
         subst eb1;subst eb2;have HU:ah (∀id,m7 S (j+1) id=decide (u.1<id)):=λid=>by rw[m7,T.o,hu]
         have bd:IntKind.i64.wrap (((j+1:Nat):Int)-1)=(j:Int):=by rw[cL];omega
         have be:IntKind.i64.wrap ((j:Int)+1-1)=(j:Int):=by rw[cL];omega
         have bf:IntKind.i64.wrap (j:Int)=(j:Int):=by rw[cL];omega
         have j0:(0:Int)<=j:=by omega
         have j1:(j:Int)<f:=by omega
         have j2:(0:Int)<((j+1:Nat):Int):=by omega
         clear hu;by_cases a9:v.1<=u.1
         ·have E:ah (dc S=iF):=tD (by rw[T.o];exact N.o) (uJ (λF=>by have:=F.2.1;rw[HU.o]at this;simp at this;omega))
          go_quiet ((go_at_call 40;exact Calls.quiet_of_same (CI.o _)));go_wp2_with fail;go_meet
          case rel=>exact⟨iV,rfl,⟨λ_=>E.o,λh=>by cases h⟩,bI BV.o _,R.o⟩
         ·have AS:ah (m7 S (j+1) v.1=iV):=by show _=_;rw[HU.o];exact aQ (by omega)
          refine kJ (λw'=>w'.cell? ⟨z,0,O⟩=X (Y (X ⟨b,aa,O⟩) f vc)/\w'.cell? ⟨z,1,O⟩=X (Y ad a cap)/\w'.cell? ⟨g,0,O⟩=X (I J v.1)/\w'.cell? ⟨g,1,O⟩=X (I J v.2)/\w'.cell? ⟨b,aa+j*2,O⟩=X (I J u.1)) (by kernel_rfl) ⟨q0,q1,g0,g1,p0⟩ (λhHeld=>?_)
          simp only[aR,cU,Nat.reduceAdd];refine au 0 ?_;refine au 1 ?_;refine ch 2 rfl (by kernel_rfl) (λK U=>?_)
          go_simp;refine(CI.o _).mono ?_;rintro en _ ⟨rfl,rfl⟩;refine U.out _ _ (by assumption) (λhHeld2=>?_)
          clear U K hHeld;have hHeld:=hHeld2;clear hHeld2
          (try simp only[Act.put,bJ,bE,bp])
          refine au 3 ?_;refine au 4 ?_;refine au 5 ?_;refine xU 6 (v:=iB iV) rfl (by kernel_rfl) (by kernel_rfl) (by kernel_rfl) (λ_ _ _ h=>h) (by rfl) (by assumption) ?hy ?_
          case hy=>(intro w Z;(try dsimp only at Z);go_simp;(try(simp;omega)))
          simp only[Act.put,bJ,bE,bp];refine au 7 ?_;refine au 8 ?_;refine au 9 ?_;refine au 10 ?_;refine xU 11 (v:=I J (j:Int)) rfl (by kernel_rfl) (by kernel_rfl) (by kernel_rfl) (λ_ _ _ h=>h) (by rfl) (by assumption) ?hy ?_
          case hy=>(intro w Z;(try dsimp only at Z);go_simp;(try(simp;omega)))
          simp only[Act.put,bJ,bE,bp];refine au 12 ?_;refine au 13 ?_;refine au 14 ?_;refine au 15 ?_;refine au 16 ?_;refine xU 17 (v:=iB iF) rfl (by kernel_rfl) (by kernel_rfl) (by kernel_rfl) (λ_ _ _ h=>h) (by rfl) (by assumption) ?hy ?_
          case hy=>(intro w Z;(try dsimp only at Z);go_simp;(try(simp;omega)))
          simp only[Act.put,bJ,bE,bp];refine au 18 ?_;refine au 19 ?_;refine au 20 ?_;refine au 21 ?_;refine au 22 ?_;refine au 23 ?_;refine au 24 ?_;refine ch 25 rfl (by kernel_rfl) (λK U=>?_)
          go_simp;refine CT.o.mono ?_;rintro en i ⟨rfl,t⟩;have NB:=af t;refine U.out _ _ (by exact⟨(t.cell (bh C _ q0)).trans q0,(t.cell (bh C _ q1)).trans q1,(t.cell (bh C _ g0)).trans g0,(t.cell (bh C _ g1)).trans g1,(t.cell (bh C _ p0)).trans p0⟩) (λhHeld2=>?_)
          clear U K hHeld;have hHeld:=hHeld2;clear hHeld2
          (try simp only[Act.put,bJ,bE,bp])
          refine au 26 ?_;refine au 27 ?_;refine jx (by kernel_rfl) ?_
          clear hHeld p0;have d:ah (iL wr.heap.size wr i):=P.o.trans (t.mono P.o.size);go_wp2_with fail;go_meet
          case rel=>exact⟨!bO (rs.map aG) v.2,rfl,⟨λF=>(tD (by rw[T.o];exact N.o) (uJ (λq=>by have:=q.2.2.1;rw[SK.o]at this;rw[this]at F;cases F)):dc S=iF),λF=>⟨A4.o,AS.o,by simpa using F⟩⟩,d,(NB.o.block g (aJ.1 R.o).1).trans R.o⟩
       ·have E:ah (dc S=iF):=tD (by rw[T.o];exact N.o) (uJ (λF=>a4 F.1))
        have CI:ah (∀W,iK Tryz.prog 40 #[I J v.1,I J 1,I J 9] W λe w'=>e=G (iB iF)/\w'=W):=λW=>gM v.1 1 9 iF W (.inr ⟨by omega,rfl⟩)
        clear a4;go_quiet ((go_at_call 40;exact Calls.quiet_of_same (CI.o _)));go_wp2_with fail;go_meet
        case rel=>exact⟨iV,rfl,⟨λ_=>E.o,λh=>by cases h⟩,bI BV.o _,R.o⟩
      case rest=>
       obtain⟨i,hV⟩:∃i,i=wc:=⟨_,rfl⟩;subst hV;obtain⟨bb,rfl,ae,d,GX⟩:=hcut;clear q0 q1 q2 g0 g1;cases bb with
       |true=>
        have E:ah (dc S=iF):=ae.o.1 rfl;go_wp2;go_ret;exact⟨by rw[E.o];rfl,BE.o _ d.o⟩
       |false=>
        obtain⟨a4,a5,aK⟩:=ae.o.2 rfl;have A4:=af a4;have AS:=af a5;have ar:=af aK;clear a4 a5 aK ae;have aM:ah (∀W,iL i.heap.size i W->iL w.heap.size w W):=λW H=>BE.o _ (d.o.trans (H.mono d.o.size))
        have aN:ah (∀W,iL i.heap.size i W->iL l.heap.size l W):=λW H=>L.o.trans ((d.o.trans (H.mono d.o.size)).mono ac)
        have aE:=af (D.o _ d.o);have aU:=af (KB.o.below d.o);have aD:ah (z<i.heap.size):=by have:=d.o.size;show _<_;omega
        have aP:ah (g<i.heap.size):=(aJ.1 GX.o).1;clear d R D KB VB BE BV P L HG;go_wp2;go_loopw [5] (λkv W=>∃m:Nat,m<=16/\kv=I J m/\ah (kp S v.2 m=iV)/\ah (iL i.heap.size i W)) (λkv _=>16-(intOf kv).toNat)
        case atStart=>exact⟨0,aI _,rfl,(rfl:kp S v.2 0=iV),ax _ _⟩
        case round=>
         obtain⟨m,hm,rfl,aq,HY⟩:=hrel;by_cases a6:(m:Int)<16
         ·have n1:=(HY.o.cell (show z<i.heap.size from aD.o)).trans aE.o.2.1;have n2:=(HY.o.cell (show z<i.heap.size from aD.o)).trans aE.o.2.2;have n3:wr.cell? ⟨g,1,O⟩=X (I J v.2):=am _ _ 1 _ _ _ ((HY.o.block g aP.o).trans GX.o);have l1:=bh wr _ n1;have l2:=bh wr _ n2;have l3:=bh wr _ n3;have ag:ah (iL i.heap.size i wr.drew):=HY.o.drew;have CG:=af (Ed ad a cap rs v.2 m wr.drew hl (aU.o.below ag.o) ao.o ar.o (by omega))
          obtain⟨y,hy⟩:=an (cX (rs.map aG) v.2 m);rw[hy]at CG;have aC:=af hy;clear hy;go_wp2;go_region_held3 (λw'=>w'.cell? ⟨z,1,O⟩=X (Y ad a cap)/\w'.cell? ⟨z,2,O⟩=X (I J nx)/\w'.cell? ⟨g,1,O⟩=X (I J v.2)) (first|exact⟨n1,n2,n3⟩|exact KY.o) ((go_at_call 103;(with_reducible refine dq CG.o ?_);rintro en y1 ⟨rfl,b2⟩;have KY:ah (y1.cell? ⟨z,1,O⟩=X (Y ad a cap)/\y1.cell? ⟨z,2,O⟩=X (I J nx)/\y1.cell? ⟨g,1,O⟩=X (I J v.2)):=⟨(b2.cell l1).trans n1,(b2.cell l2).trans n2,(b2.cell l3).trans n3⟩))
          all_goals
           have aA:ah (iL i.heap.size i y1):=ag.o.trans (b2.mono ag.o.size);clear CG KY b2 n1 n2 n3 l1 l2 l3;by_cases ba:nx<=y
           ·have E:ah (dc S=iF):=tD (by rw[T.o];exact N.o) (uJ (λF=>Mm (show m<16 by omega) (by rw[SK.o,SN.o,aC.o];omega) F.2.2.2))
            go_wp2;go_ret;exact⟨by rw[E.o];rfl,aM.o _ aA.o⟩
           ·have ap:ah (kp S v.2 (m+1)=iV):=by
             show _=_;rw[Rm,aq.o,SK.o,SN.o,aC.o];simp;omega
            go_wp2;go_roundw
            case rel=>first|exact⟨m+1,by omega,by go_num,ap,aA⟩|exact⟨m+1,by omega,by go_num,ap⟩
            case measure=>simp[intOf];omega
         ·have av:ah (je S (k+1)=iV):=by
           have e:m=16:=by omega
           have aH:=aq.o;rw[e]at aH;show _=_;rw[Aa (v:=v) (by rw[T.o];exact N.o),aw.o,NI A4.o AS.o (by rw[SK.o];exact ar.o) aH]
           rfl
          have aT:=af (aN.o _ HY.o);go_wp2;go_roundw
          case rel=>first|exact⟨k+1,by omega,by go_num,av,aT⟩|exact⟨k+1,by omega,by go_num,av⟩
          case measure=>simp[intOf];omega
     ·have aX:k=f:=by omega
      have HE:ah (dc S=decide ((jp (rs.map aG) (cC vs)).length=a)):=by
       have h1:=aw.o;have h2:=HK.o.1;rw[aX,<-p.o,<-T.o]at h1;have:=Uc (s:=S) (by rw[T.o,p.o];omega) (by rw[SK.o];exact ao.o) (by rw[SN.o];exact A3.o) h1
       rw[SK.o,T.o,aS,h2]at this;exact this
      have ac:=L.o.size;have a0:=XB.o;have D:ah (∀W,iL wr.heap.size wr W->W.cell? ⟨z,0,O⟩=X (Y va f vc)/\W.cell? ⟨z,1,O⟩=X (Y ad a cap)/\W.cell? ⟨z,2,O⟩=X (I J nx)):=λW H=>⟨(H.cell (show z<wr.heap.size by omega)).trans y0,(H.cell (show z<wr.heap.size by omega)).trans y1,(H.cell (show z<wr.heap.size by omega)).trans y2⟩
      have VB:=af ((HV.o.below x.o.1).below L.o);have KB:=af ((HK.o.below x.o.1).below L.o);have CR:ah (∀W,iL wr.heap.size wr W->iK Tryz.prog 105 #[iA #[Y va f vc,Y ad a cap,I J nx]] W λe w'=>∃Q rc,e=G (Y Q f rc)/\ah ((Q=O->rc=0)/\gR w' Q f (cC vs))/\ah (iL wr.heap.size wr w')/\ah (iL W.heap.size W w')):=λW H=>by
       refine(Fo va f vc ad a cap nx vs W aZ (VB.o.below H)).mono ?_;rintro e w' ⟨v,rfl,ho,hb⟩;have hn:(cC vs).length=f:=by rw[cC,aS];exact p.o
       obtain⟨Q,rc,e,h1,h2⟩:=kh.of (aB.of ho) (by rw[hn];unfold maxLen;omega) (ak _)
       rw[hn]at e h2;subst e;exact⟨Q,rc,rfl,⟨h1,h2⟩,H.trans (hb.mono H.size),hb⟩
      have CS:ah (∀W Q rc,iL wr.heap.size wr W->(Q=O->rc=0)/\gR W Q f (cC vs)->iK Tryz.prog 104 #[iA #[Y ad a cap],Y Q f rc] W λe w'=>∃A n B iv,e=G (iU #[iA #[Y A n B],iv])/\ah ((jp (rs.map aG) (cC vs)).length=n)/\ah (iL wr.heap.size wr w')/\ah (iL W.heap.size W w')):=λW Q rc H HR=>by
       refine(I7 ad a cap rs Q f rc (cC vs) W hl (by omega) HL.o (KB.o.below H) HR.1 HR.2).mono ?_
       rintro e w' ⟨uv,iv,_,_,_,_,rfl,hu,-,-,-,-,-,-,hb⟩;obtain⟨A,B,rfl⟩:=hu.form;exact⟨A,_,B,iv,rfl,(rfl:_=_),H.trans (hb.mono H.size),hb⟩
      have ai:ah (iL wr.heap.size wr wr.drew):=(ax _ _).drew;have aj:ah (iL wr.heap.size wr (wr.alloc (iC #[Y O 0 0] 42)).drew):=(aY).drew;have al:ah (iL wr.heap.size wr (wr.drew.alloc (iC #[Y O 0 0] 42))):=((ax _ _).drew).alloc (ak _) _;go_wp2;go_region_held3 (λw'=>w'.cell? ⟨z,0,O⟩=X (Y va f vc)/\w'.cell? ⟨z,1,O⟩=X (Y ad a cap)/\w'.cell? ⟨z,2,O⟩=X (I J nx)) (first|exact D.o _ ai.o|exact D.o _ aj.o|exact D.o _ al.o|exact D.o _ S2.o|exact D.o _ (S2.o.alloc S2.o.size _)|exact D.o _ S3.o|exact D.o _ (S3.o.alloc S3.o.size _)|exact D.o _ (S3.o.setCell S2.o.size _)|exact D.o _ (S3.o.setCell (ak _) _)) (first
       |(go_at_call 105;(with_reducible refine dq (CR.o _ (by first|exact ai.o|exact aj.o|exact al.o)) ?_);rintro en x2 ⟨Q,rc,rfl,R2,S2,N2⟩)
       |(go_at_call 104;(with_reducible refine dq (CS.o _ Q rc (by first|exact S2.o|exact S2.o.alloc S2.o.size _) (by first|exact R2.o|exact⟨R2.o.1,R2.o.2.below (aY)⟩)) ?_);rintro en M ⟨A,n,B,iv,rfl,U3,S3,N3⟩;(try(have nc:ah (M.heap[x2.heap.size]?=X (iC #[Y O 0 0] 42 (0,0))):=(N3.o.block _ (by simp)).trans (az x2 _);have kc:=am _ _ 0 _ _ _ nc.o;have kf:=aL _ _ 0 _ _ nc.o));(try(have nc:ah (M.heap[wr.heap.size]?=X (iC #[Y O 0 0] 42 (0,0))):=(N3.o.block _ (by have:=N2.o.size;simp at this;omega)).trans ((N2.o.block _ (by simp)).trans (az wr _));have kc:=am _ _ 0 _ _ _ nc.o;have kf:=aL _ _ 0 _ _ nc.o))))
      all_goals
       first
        |(have NX:ah ((M.setCell ⟨x2.heap.size,0,O⟩ (Y A n B)).cell? ⟨x2.heap.size,0,O⟩=X (Y A n B)):=am _ _ 0 _ _ _ (bC _ _ 0 _ _ _ nc.o);have NY:ah (iL wr.heap.size wr (M.setCell ⟨x2.heap.size,0,O⟩ (Y A n B))):=S3.o.setCell S2.o.size _;generalize M.setCell ⟨x2.heap.size,0,O⟩ (Y A n B)=V at NX NY⊢;generalize x2.heap.size=c at NX⊢)
        |(have NX:ah ((M.setCell ⟨wr.heap.size,0,O⟩ (Y A n B)).cell? ⟨wr.heap.size,0,O⟩=X (Y A n B)):=am _ _ 0 _ _ _ (bC _ _ 0 _ _ _ nc.o);have NY:ah (iL wr.heap.size wr (M.setCell ⟨wr.heap.size,0,O⟩ (Y A n B))):=S3.o.setCell (ak _) _;generalize M.setCell ⟨wr.heap.size,0,O⟩ (Y A n B)=V at NX NY⊢;generalize wr.heap.size=c at NX⊢)
        |(have NX:ah ((M.alloc (iC #[Y A n B] 42)).cell? ⟨M.heap.size,0,O⟩=X (Y A n B)):=am _ _ 0 _ _ _ (az M _);have NY:ah (iL wr.heap.size wr (M.alloc (iC #[Y A n B] 42))):=S3.o.alloc S3.o.size _;generalize M.alloc (iC #[Y A n B] 42)=V at NX NY⊢;generalize M.heap.size=c at NX⊢)
      all_goals
       have v1:=NX.o;have v2:V.cell? ⟨z,1,O⟩=X (Y ad a cap):=(D.o _ NY.o).2.1;have BE:ah (iL w.heap.size w V):=x.o.1.trans ((L.o.trans (NY.o.mono ac)).mono x.o.1.size);clear CR CS D R2 S2 N2 S3 N3 ai aj al VB KB;by_cases hq:((n:Int)==(a:Int))=iV
       ·have ET:ah (dc S=iV):=by
         show _=_;rw[HE.o,U3.o];have:(n:Int)=a:=by simpa using hq
         exact aQ (by omega)
        go_wp2;go_ret;exact⟨by rw[ET.o];rfl,BE.o⟩
       ·have ET:ah (dc S=iF):=by
         show _=_;rw[HE.o,U3.o];have:¬(n:Int)=a:=by simpa using hq
         exact aV (by omega)
        go_wp2;go_ret;exact⟨by rw[ET.o];rfl,BE.o⟩
   ·have E:ah (dc S=iF):=Wx (by rw[SN.o];exact a3)
    go_wp2_with fail;refine(gM nx 1 1000000000 iF _ (.inr ⟨by omega,rfl⟩)).mono ?_
    rintro e l ⟨rfl,rfl⟩;clear a3;go_wp2;go_ret;exact⟨by rw[E.o];rfl,x.o.1⟩
def lL(vs:List (Int×Int))(R:List Int)(k:Nat):List (Int×Int):=(List.zipWith (λv r=>(v.1,r)) vs R).take k++vs.drop k
theorem Pd(h:vs.length=R.length)(a:k<vs.length):(lL vs R k)[k]?=vs[k]?:=by
 rw[lL,dz (by simp;omega),mQ]
 congr 1;simp;all_goals omega
theorem PW(h:vs.length=R.length)(a:vs[k]?=X v)(b:R[k]?=X r):(lL vs R k).set k (v.1,r)=lL vs R (k+1):=by
 have c:=(aD.1 a).1;refine OA ?_ (by simp;omega)
 rw[List.getElem?_zipWith,a,b]
theorem Sm(vs:List (Int×Int))(R:List Int)(k:Nat)(h:vs.length=R.length)(a:k<=vs.length):(lL vs R k).length=vs.length:=by
 rw[lL];simp;omega
theorem Q8(h:vs.length=R.length):lL vs R vs.length=List.zipWith (λv r=>(v.1,r)) vs R:=by
 rw[lL,cm (by simp;omega),kB (ak _),eM]
def qh(wb V:iW)(c:Nat)(a b:iX)(L:List Kn)(R:List Int):Prop:=
 V.heap[c]?=X (iC #[a] 42 (0,0))/\iL wb.heap.size wb V/\∃lo1 hi1 lo2 hi2,dt lo1 hi1 a L V/\aB 3 lo2 hi2 b R.length (aE R) V/\wb.heap.size<=lo1/\hi1<=V.heap.size/\wb.heap.size<=lo2/\hi2<=V.heap.size/\wb.heap.size<=c
theorem qh.ahead{wb W V:iW}{a d x:iX}{L:List Kn}(h:sw W L R (G (iU #[iA #[a],d])) V)(i:iL wb.heap.size wb V)(b:wb.heap.size<=c/\c<W.heap.size)(j:V.heap[c]?=X (iC #[x] 42 (0,0))):qh wb (V.setCell ⟨c,0,O⟩ a) c a d L R:=by
 obtain⟨l,k,lo1,hi1,lo2,hi2,e,h1,f,m,h4,n,o,-,-⟩:=h;cases e;have q:(V.setCell ⟨c,0,O⟩ a).heap.size=V.heap.size:=by simp[World.setCell]
 refine⟨bC _ _ 0 _ _ _ j,i.setCell (p:=⟨c,0,O⟩) b.1 _,lo1,hi1,lo2,hi2,?_,?_,by omega,by omega,by omega,by omega,b.1⟩
 ·exact dt.loc _ _ _ _ V _ (λg g1 g2=>aU _ _ _ _ (show g≠c by omega)) h1
 ·exact aB.loc _ _ _ _ _ _ V _ (λg g1 g2=>aU _ _ _ _ (show g≠c by omega)) f
theorem qh.behind{wb W V:iW}{a c:iX}{L:List Kn}(h:sw W L R (G (iU #[iA #[a],c])) V)(b:iL wb.heap.size wb V)(m:wb.heap.size<=W.heap.size):qh wb (V.alloc (iC #[a] 42)) V.heap.size a c L R:=by
 obtain⟨i,f,lo1,hi1,lo2,hi2,e,h1,d,j,h4,k,l,-,-⟩:=h;cases e;have n:(V.alloc (iC #[a] 42)).heap.size=V.heap.size+1:=by simp
 have hs:=b.size;refine⟨az _ _,b.alloc hs _,lo1,hi1,lo2,hi2,?_,?_,by omega,by omega,by omega,by omega,hs⟩
 ·exact dt.loc _ _ _ _ V _ (λg g1 g2=>gU _ _ _ (by omega)) h1
 ·exact aB.loc _ _ _ _ _ _ V _ (λg g1 g2=>gU _ _ _ (by omega)) d
theorem Kx{W:iW}{b:iX}{xs:List iX}{cs:Array iX}(h:W.ownsRow B 68 2 b n xs)(a:W.heap[xb]?=X (iC cs 44 (0,0)))(e:b.ownBlock=X xb):False:=by
 obtain⟨-,-,c,d⟩:=fQ h xb e;rw[d]at a;injection a with a
 injection a with h1 h2
 exact absurd h2 (by decide)
def iw(V a:iW)(xb:Nat)(b c:iX)(nx:Int)(vs:List (Int×Int)):Prop:=
 a.heap[xb]?=X (iC #[b,c,I J nx] 44 (0,0))/\a.ownsRow V.heap.size 68 2 b vs.length (cn vs)/\b.ownBlock≠X xb/\iL V.heap.size V a/\V.heap.size<=xb
theorem iw.behind{V W:iW}{b c:iX}(d:W.ownsRow V.heap.size 68 2 b vs.length (cn vs))(a:iL V.heap.size V W):iw V (W.alloc (iC #[b,c,I J nx] 44)) W.heap.size b c nx vs:=
 ⟨az _ _,bu d (aY),λe=>by have:=(d.lt _ e).2;omega,a.alloc a.size _,a.size⟩
theorem iw.ahead{V W:iW}{b d j l m:iX}(g:W.ownsRow V.heap.size 68 2 b vs.length (cn vs))(f:iL V.heap.size V W)(i:W.heap[xb]?=X (iC #[j,l,m] 44 (0,0)))(c:V.heap.size<=xb)(e:b.ownBlock≠X xb):
 iw V (((W.setCell ⟨xb,0,O⟩ b).setCell ⟨xb,1,O⟩ d).setCell ⟨xb,2,O⟩ (I J nx)) xb b d nx vs:=by
 have hs:∀(W:iW) (k:Nat) (u:iX),W.ownsRow V.heap.size 68 2 b vs.length (cn vs)->(W.setCell ⟨xb,k,O⟩ u).ownsRow V.heap.size 68 2 b vs.length (cn vs):=λW k u h=>ownsRow_setCell_other h (a:=⟨xb,k,O⟩) e u
 exact⟨n7 i,hs _ _ _ (hs _ _ _ (hs _ _ _ g)),e,((f.setCell (p:=⟨xb,0,O⟩) c _).setCell (p:=⟨xb,1,O⟩) c _).setCell (p:=⟨xb,2,O⟩) c _,c⟩
theorem iw.root{V c:iW}{d:iX}(i:vs.length=n)(h:iw V c xb (Y (X ⟨g,0,O⟩) n cap) d nx vs)(l:vs[k]?=X v)(r:Int):iw V (c.setCell ⟨g,k*2+1,O⟩ (I J r)) xb (Y (X ⟨g,0,O⟩) n cap) d nx (vs.set k (v.1,r)):=by
 obtain⟨h1,a,f,h4,j⟩:=h;rw[i]at a;have b:xb≠g:=λe=>f (by rw[e];rfl)
 have m:=(fQ a g rfl).1;refine⟨dC h1 b _ _,?_,f,h4.setCell (p:=⟨g,k*2+1,O⟩) m _,j⟩;have:=mi a rfl (k*2+1) (I J r);rw[DW l]at this;rw[iy,i];exact this
theorem iw.drew{V a:iW}{c b:iX}(h:iw V a xb c b nx vs):iw V a.drew xb c b nx vs:=⟨h.1,bu h.2.1 ((ax _ _).drew),h.2.2.1,h.2.2.2.1.drew,h.2.2.2.2⟩
theorem AV(v:iX)(s:Sto)(w:iW)(aO:dO w v s):iK Tryz.prog 134 #[v] w λe w'=>∃u,e=G u/\fh w (g9 s) u w'/\mM u:=by
 obtain⟨va,f,vc,ad,p,cap,rs,rfl,au,a0,hl,av,aw,h,hk⟩:=aO;have HV:=af h;have d:=af h.1;have HK:=af hk;have aG:=af au;have ao:=af av;have aq:=af aw;obtain⟨nx,aj⟩:=an s.next;have aH:=af aj;obtain⟨L,hL⟩:=an (jp s.fK (cC s.fV));obtain⟨R,hR⟩:=an (mr s.fK (cC s.fV));have HL:=af hL;have HR:=af hR;have Q:ah (R.length=f):=by show _=_;rw[<-hR,Nu,cC,aS,d.o]
 unfold eC;rw[aj];have T0:=af (Tk.two w #[Y va f vc,Y ad p cap,I J nx] #[Y O 0 0,Y O 0 0,I J 0] 44 44);clear h hk au av aw aj hL hR;go_enter Tryz.func134,Tryz.ntmps134;go_wp2_with fail;generalize(w.alloc (iC #[Y va f vc,Y ad p cap,I J nx] 44)).alloc (iC #[Y O 0 0,Y O 0 0,I J 0] 44)=wb at T0⊢;have y0:wb.cell? ⟨w.heap.size,0,O⟩=X (Y va f vc):=T0.o.at 1 0 rfl rfl;have y1:wb.cell? ⟨w.heap.size,1,O⟩=X (Y ad p cap):=T0.o.at 1 1 rfl rfl;have y2:wb.cell? ⟨w.heap.size,2,O⟩=X (I J nx):=T0.o.at 1 2 rfl rfl;have BW:=af T0.o.1;have XR:=af (T0.o.get 0 rfl);have XB:ah (w.heap.size<wb.heap.size):=bh wb _ y0;obtain⟨z,hz⟩:=an w.heap.size;have aM:=af hz;rw[hz]at y0 y1 y2 XR XB⊢;clear hz T0;have a7:=XB.o;have S:ah (∀W,iL wb.heap.size wb W->W.cell? ⟨z,0,O⟩=X (Y va f vc)/\W.cell? ⟨z,1,O⟩=X (Y ad p cap)/\W.cell? ⟨z,2,O⟩=X (I J nx)):=λW H=>⟨(H.cell (show z<wb.heap.size by omega)).trans y0,(H.cell (show z<wb.heap.size by omega)).trans y1,(H.cell (show z<wb.heap.size by omega)).trans y2⟩
 have VB:=af (HV.o.below BW.o);have KB:=af (HK.o.below BW.o);have CR:ah (∀W,iL wb.heap.size wb W->iK Tryz.prog 105 #[iA #[Y va f vc,Y ad p cap,I J nx]] W λe w'=>∃K rc,e=G (Y K f rc)/\ah ((K=O->rc=0)/\gR w' K f (cC s.fV))/\ah (iL wb.heap.size wb w')/\ah (iL W.heap.size W w')):=λW H=>by
  refine(Fo va f vc ad p cap nx s.fV W (by omega) (VB.o.below H)).mono ?_
  rintro e w' ⟨v,rfl,ho,hb⟩;have hn:(cC s.fV).length=f:=by rw[cC,aS];exact d.o
  obtain⟨K,rc,e,h1,h2⟩:=kh.of (aB.of ho) (by rw[hn];unfold maxLen;omega) (ak _)
  rw[hn]at e h2;subst e;exact⟨K,rc,rfl,⟨h1,h2⟩,H.trans (hb.mono H.size),hb⟩
 have CS:ah (∀W K rc,iL wb.heap.size wb W->(K=O->rc=0)/\gR W K f (cC s.fV)->iK Tryz.prog 104 #[iA #[Y ad p cap],Y K f rc] W λe w'=>∃j m l E P,e=G (iU #[iA #[Y j m l],Y E f P])/\ah (sw W L R (G (iU #[iA #[Y j m l],Y E f P])) w')/\ah (iL wb.heap.size wb w')/\ah (iL W.heap.size W w')):=λW K rc H ap=>by
  refine(I7 ad p cap rs K f rc (cC s.fV) W (by omega) (by omega) ao.o (KB.o.below H) ap.1 ap.2).mono ?_
  intro e w' hh;rw[<-aG.o,HL.o,HR.o]at hh;have ai:=hh;obtain⟨uv,iv,_,_,_,_,rfl,hu,hi,-,-,-,-,-,hb⟩:=hh;obtain⟨j,l,rfl⟩:=hu.form;rw[Q.o]at hi;obtain⟨E,P,rfl,-⟩:=hi.form;exact⟨j,_,l,E,P,rfl,ai,H.trans (hb.mono H.size),hb⟩
 have ac:ah (iL wb.heap.size wb wb.drew):=(ax _ _).drew;have ae:ah (iL wb.heap.size wb (wb.alloc (iC #[Y O 0 0] 42)).drew):=(aY).drew;have ag:ah (iL wb.heap.size wb (wb.drew.alloc (iC #[Y O 0 0] 42))):=((ax _ _).drew).alloc (ak _) _;go_cut [3,4] (λs3 s4 V=>∃(c:Nat) (j:Option Addr) (m l:Nat) (E:Option Addr) (P:Nat),s3=iP (X ⟨c,0,O⟩)/\s4=Y E f P/\ah (qh wb V c (Y j m l) (Y E f P) L R))
 case first=>
  go_region_held3 (λw'=>w'.cell? ⟨z,0,O⟩=X (Y va f vc)/\w'.cell? ⟨z,1,O⟩=X (Y ad p cap)/\w'.cell? ⟨z,2,O⟩=X (I J nx)) (first|exact S.o _ ac.o|exact S.o _ ae.o|exact S.o _ ag.o|exact S.o _ S2.o|exact S.o _ (S2.o.alloc S2.o.size _)|exact S.o _ S3.o|exact S.o _ (S3.o.alloc S3.o.size _)|exact S.o _ (S3.o.setCell S2.o.size _)|exact S.o _ (S3.o.setCell (ak _) _)) (first
   |(go_at_call 105;(with_reducible refine dq (CR.o _ (by first|exact ac.o|exact ae.o|exact ag.o)) ?_);rintro en x2 ⟨K,rc,rfl,N,S2,N2⟩)
   |(go_at_call 104;(with_reducible refine dq (CS.o _ K rc (by first|exact S2.o|exact S2.o.alloc S2.o.size _) (by first|exact N.o|exact⟨N.o.1,N.o.2.below (aY)⟩)) ?_);rintro en x3 ⟨j,m,l,E,P,rfl,U3,S3,N3⟩;(try(have nc:ah (x3.heap[x2.heap.size]?=X (iC #[Y O 0 0] 42 (0,0))):=(N3.o.block _ (by simp)).trans (az x2 _);have kc:=am _ _ 0 _ _ _ nc.o;have kf:=aL _ _ 0 _ _ nc.o));(try(have nc:ah (x3.heap[wb.heap.size]?=X (iC #[Y O 0 0] 42 (0,0))):=(N3.o.block _ (by have:=N2.o.size;simp at this;omega)).trans ((N2.o.block _ (by simp)).trans (az wb _));have kc:=am _ _ 0 _ _ _ nc.o;have kf:=aL _ _ 0 _ _ nc.o))))
  all_goals
   go_wp2_with fail;go_meet
   case rel=>first
    |exact⟨_,j,m,l,E,P,rfl,rfl,qh.behind U3.o S3.o S2.o.size⟩
    |exact⟨_,j,m,l,E,P,rfl,rfl,qh.ahead U3.o S3.o ⟨S2.o.size,by simp⟩ nc.o⟩
    |exact⟨_,j,m,l,E,P,rfl,rfl,qh.ahead U3.o S3.o ⟨ak _,by have:=N2.o.size;simp at this;omega⟩ nc.o⟩
 case rest=>
  obtain⟨c,j,m,l,E,P,aR,aT,B⟩:=hcut;subst aR aT;clear CR CS ac ae ag;obtain⟨q,hq⟩:∃q,q=wc:=⟨_,rfl⟩;subst hq;have LC:ah (c<q.heap.size):=(aJ.1 B.o.1).1;have c0:q.cell? ⟨c,0,O⟩=X (Y j m l):=am _ _ 0 _ _ _ B.o.1;have aK:ah (wb.heap.size<=q.heap.size):=B.o.2.1.size;obtain⟨i0,hi,aA,ab,aC⟩:=bK vE;have I0:=af hi;have Y0:=af aA;have Y1:=af ab;have Y2:=af aC;clear hi aA ab aC;have KS:ah (∀W,iL q.heap.size q W->W.cell? ⟨z,0,O⟩=X (Y va f vc)/\W.cell? ⟨z,2,O⟩=X (I J nx)/\W.cell? ⟨c,0,O⟩=X (Y j m l)):=λW H=>by
   have hh:=S.o W (B.o.2.1.trans (H.mono B.o.2.1.size));exact⟨hh.1,hh.2.2,(H.cell (show c<q.heap.size from LC.o)).trans c0⟩
  have SL:ah (∀W,iL q.heap.size q W->qk W (Y va f vc) s.fV):=λW H=>⟨va,vc,by rw[d.o],aq.o,by rw[d.o];exact VB.o.below (B.o.2.1.trans (H.mono B.o.2.1.size))⟩
  have W1:ah (iL q.heap.size q (q.alloc (iC #[] 68)).drew):=(aY).drew;have WX:ah (iL q.heap.size q (q.alloc (iC #[Y O 0 0,Y O 0 0,I J 0] 44)).drew):=(aY).drew;have W2:ah (iL q.heap.size q ((q.alloc (iC #[] 68)).alloc (iC #[Y O 0 0,Y O 0 0,I J 0] 44)).drew):=((aY).alloc (by simp) _).drew
  have W3:ah (iL q.heap.size q ((q.alloc (iC #[Y O 0 0,Y O 0 0,I J 0] 44)).alloc (iC #[] 68)).drew):=((aY).alloc (by simp) _).drew
  have ze:(q.alloc (iC #[] 68)).heap.size=q.heap.size+1:=by simp
  have zx:(q.alloc (iC #[Y O 0 0,Y O 0 0,I J 0] 44)).heap.size=q.heap.size+1:=by simp
  have RN:∀(W:iW) (g:Nat),W.heap[g]?=X (iC #[] 68 (0,0))->q.heap.size<=g->W.ownsRow q.heap.size 68 2 (Y (X ⟨g,0,O⟩) 0 0) 0 []:=λW g h1 h2=>⟨rfl,.inr ⟨g,0,#[],rfl,h2,h1,ak _,by unfold maxLen;omega,rfl,rfl⟩⟩
  have O1:ah ((q.alloc (iC #[] 68)).drew.ownsRow q.heap.size 68 2 (Y (X ⟨q.heap.size,0,O⟩) 0 0) 0 []):=RN _ _ (az q _) (ak _);have O2:ah (((q.alloc (iC #[] 68)).alloc (iC #[Y O 0 0,Y O 0 0,I J 0] 44)).drew.ownsRow q.heap.size 68 2 (Y (X ⟨q.heap.size,0,O⟩) 0 0) 0 []):=RN _ _ ((gU _ _ _ (by simp)).trans (az q _)) (ak _)
  have O3:ah (((q.alloc (iC #[Y O 0 0,Y O 0 0,I J 0] 44)).alloc (iC #[] 68)).drew.ownsRow q.heap.size 68 2 (Y (X ⟨q.heap.size+1,0,O⟩) 0 0) 0 []):=RN _ _ (by have:=az (q.alloc (iC #[Y O 0 0,Y O 0 0,I J 0] 44)) (iC #[] 68);rw[zx]at this;exact this) (by omega)
  have X2:ah (((q.alloc (iC #[] 68)).alloc (iC #[Y O 0 0,Y O 0 0,I J 0] 44)).drew.heap[q.heap.size+1]?=X (iC #[Y O 0 0,Y O 0 0,I J 0] 44 (0,0))):=by have:=az (q.alloc (iC #[] 68)) (iC #[Y O 0 0,Y O 0 0,I J 0] 44);rw[ze]at this;exact this
  have X3:ah (((q.alloc (iC #[Y O 0 0,Y O 0 0,I J 0] 44)).alloc (iC #[] 68)).drew.heap[q.heap.size]?=X (iC #[Y O 0 0,Y O 0 0,I J 0] 44 (0,0))):=(gU _ _ _ (by simp)).trans (az q _)
  have WD:ah (iL q.heap.size q q.drew):=(ax _ _).drew;clear ze zx RN;go_wp2_with fail;go_cut [5] (λs5 V=>∃(xb:Nat) (n:Option Addr) (lc:Nat),s5=iP (X ⟨xb,0,O⟩)/\ah (iw q V xb (Y n f lc) (Y j m l) nx s.fV))
  case first=>
   go_region_held3 (λw'=>w'.cell? ⟨z,0,O⟩=X (Y va f vc)/\w'.cell? ⟨z,2,O⟩=X (I J nx)/\w'.cell? ⟨c,0,O⟩=X (Y j m l)) (first|exact KS.o _ WD.o|exact KS.o _ W1.o|exact KS.o _ WX.o|exact KS.o _ W2.o|exact KS.o _ W3.o|exact KS.o _ M.o|exact KS.o _ (M.o.alloc M.o.size _)|exact KS.o _ (XL.o.2.2.2.1)|exact KS.o _ (XE.o.2.2.2.1)|go_keep) (first
    |(refine sZ _ (by rfl) (.tmp 15) (.tmp 17) (by rfl) q.heap.size i0 I0.o Y0.o Y1.o Y2.o _ 0 [] (by simp[Act.eval]) O1.o s.fV f d.o _ (by simp[Act.eval]) (SL.o _ W1.o) (by unfold maxLen;omega) (by omega) W1.o.size ?_;intro v6 A o6 g6;(rw[iN,dK]at o6);(have F:A.ownsRow q.heap.size 68 2 v6 s.fV.length (cn s.fV):=(by rw[d.o];exact o6));(have T:=(aB.of F).form);(rw[d.o]at T);(obtain⟨n,lc,Z,-⟩:=T);subst Z;have M:ah (iL q.heap.size q A):=W1.o.grown g6 W1.o.size (λx hx=>by cases hx;exact ak _);have XL:ah (iw q (A.alloc (iC #[Y n f lc,Y j m l,I J nx] 44)) A.heap.size (Y n f lc) (Y j m l) nx s.fV):=iw.behind F M.o;clear o6 F g6)
    |(refine sZ _ (by rfl) (.tmp 15) (.tmp 17) (by rfl) q.heap.size i0 I0.o Y0.o Y1.o Y2.o _ 0 [] (by simp[Act.eval]) O2.o s.fV f d.o _ (by simp[Act.eval]) (SL.o _ W2.o) (by unfold maxLen;omega) (by omega) W2.o.size ?_;intro v6 A o6 g6;(rw[iN,dK]at o6);(have F:A.ownsRow q.heap.size 68 2 v6 s.fV.length (cn s.fV):=(by rw[d.o];exact o6));(have T:=(aB.of F).form);(rw[d.o]at T);(obtain⟨n,lc,Z,-⟩:=T);subst Z;have M:ah (iL q.heap.size q A):=W2.o.grown g6 W2.o.size (λx hx=>by cases hx;exact ak _);have i:A.heap[q.heap.size+1]?=X (iC #[Y O 0 0,Y O 0 0,I J 0] 44 (0,0)):=(g6.block _ (aJ.1 X2.o).1 (λe=>by simp[Value.ownBlock]at e)).trans X2.o;have U:(Y n f lc).ownBlock≠X (q.heap.size+1):=(λe=>Kx F i e);have e0:=am _ _ 0 _ _ _ i;have e1:=am _ _ 1 _ _ _ i;have e2:=am _ _ 2 _ _ _ i;have e3:=aL _ _ 0 _ _ i;have e4:=aL _ _ 1 _ _ i;have e5:=aL _ _ 2 _ _ i;have XE:ah (iw q (((A.setCell ⟨q.heap.size+1,0,O⟩ (Y n f lc)).setCell ⟨q.heap.size+1,1,O⟩ (Y j m l)).setCell ⟨q.heap.size+1,2,O⟩ (I J nx)) (q.heap.size+1) (Y n f lc) (Y j m l) nx s.fV):=iw.ahead F M.o i (by omega) U;clear o6 F g6 i U)
    |(refine sZ _ (by rfl) (.tmp 15) (.tmp 17) (by rfl) q.heap.size i0 I0.o Y0.o Y1.o Y2.o _ 0 [] (by simp[Act.eval]) O3.o s.fV f d.o _ (by simp[Act.eval]) (SL.o _ W3.o) (by unfold maxLen;omega) (by omega) W3.o.size ?_;intro v6 A o6 g6;(rw[iN,dK]at o6);(have F:A.ownsRow q.heap.size 68 2 v6 s.fV.length (cn s.fV):=(by rw[d.o];exact o6));(have T:=(aB.of F).form);(rw[d.o]at T);(obtain⟨n,lc,Z,-⟩:=T);subst Z;have M:ah (iL q.heap.size q A):=W3.o.grown g6 W3.o.size (λx hx=>by cases hx;show q.heap.size<=q.heap.size+1;omega);have i:A.heap[q.heap.size]?=X (iC #[Y O 0 0,Y O 0 0,I J 0] 44 (0,0)):=(g6.block _ (aJ.1 X3.o).1 (λe=>by simp[Value.ownBlock]at e)).trans X3.o;have U:(Y n f lc).ownBlock≠X (q.heap.size):=(λe=>Kx F i e);have e0:=am _ _ 0 _ _ _ i;have e1:=am _ _ 1 _ _ _ i;have e2:=am _ _ 2 _ _ _ i;have e3:=aL _ _ 0 _ _ i;have e4:=aL _ _ 1 _ _ i;have e5:=aL _ _ 2 _ _ i;have XE:ah (iw q (((A.setCell ⟨q.heap.size,0,O⟩ (Y n f lc)).setCell ⟨q.heap.size,1,O⟩ (Y j m l)).setCell ⟨q.heap.size,2,O⟩ (I J nx)) (q.heap.size) (Y n f lc) (Y j m l) nx s.fV):=iw.ahead F M.o i (by omega) U;clear o6 F g6 i U))
   all_goals
    go_wp2_with fail;go_meet
    case rel=>first
     |exact⟨_,_,_,rfl,XL⟩
     |exact⟨_,_,_,rfl,XE⟩
  case rest=>
   obtain⟨xb,n,lc,aU,OV⟩:=hcut;subst aU;obtain⟨q2,aQ⟩:∃q2,q2=wc:=⟨_,rfl⟩;subst aQ;have ar:ah (iw q q2 xb (Y n f lc) (Y j m l) nx (lL s.fV R 0)):=by
    have e:lL s.fV R 0=s.fV:=by simp[lL]
    rw[e];exact OV.o
   clear OV W1 WX W2 W3 O1 O2 O3 X2 X3 WD SL KS I0 Y0 Y1 Y2 c0 S VB KB ao aq;go_wp2_with fail;go_loopw [6] (λiv W=>∃k:Nat,k<=f/\iv=I J k/\ah (iw q W xb (Y n f lc) (Y j m l) nx (lL s.fV R k))) (λiv _=>f-(intOf iv).toNat)
   case atStart=>exact⟨0,aI _,rfl,ar⟩
   case round=>
    obtain⟨k,hk,rfl,y⟩:=hrel;clear ar;have x0:wr.cell? ⟨xb,0,O⟩=X (Y n f lc):=am _ _ 0 _ _ _ y.o.1;by_cases aZ:(k:Int)<f
    ·obtain⟨v,hv⟩:∃v,s.fV[k]?=X v:=⟨_,ay (by have:=d.o;omega)⟩
     obtain⟨r,hr⟩:∃r,R[k]?=X r:=⟨_,ay (by have:=Q.o;omega)⟩
     have C:s.fV.length=R.length:=by rw[Q.o];exact d.o
     have aa:=Pd C (show k<s.fV.length by have:=d.o;omega)
     rw[hv]at aa;have t:=Sm s.fV R k C (by have:=d.o;omega)
     rw[d.o]at t;obtain⟨g,aV,aW,aX⟩:∃g,n=X ⟨g,0,O⟩/\q.heap.size<=g/\g<wr.heap.size:=by
      obtain⟨bb,bc,e,hh⟩:=(aB.of y.o.2.1).form;injection e with e1 e2 e3
      obtain⟨g,e4,e5,e6⟩:=hh (by rw[t];omega)
      exact⟨g,by rw[e1,e4],e5,e6⟩
     subst aV;have NX:=af (y.o.root t aa r).drew;rw[PW C hv hr]at NX;have HO:=af y.o.2.1;rw[t]at HO;have oc:wr.cell? ⟨g,k*2+1,O⟩=X (I J v.2):=by
      rw[<-eX];exact HO.o.cells (g:=g) rfl _ _ (uE _ k v aa 1 _ rfl)
     have of:wr.frozen? ⟨g,k*2+1,O⟩=iF:=by
      obtain⟨-,-,cs,q⟩:=fQ HO.o g rfl;exact aL _ _ _ _ _ q
     obtain⟨-,-,lo1,hi1,lo2,hi2,-,D,-,-,-,ai,-⟩:=B.o
     replace D:=D.blw y.o.2.2.2.1
     rw[Q.o]at D;obtain⟨ig,aN⟩:∃ig,E=X ⟨ig,0,O⟩:=by
      obtain⟨a8,a9,e,hh⟩:=D.form;injection e with e1 e2 e3
      obtain⟨ig,e4,-⟩:=hh (by omega)
      exact⟨ig,by rw[e1,e4]⟩
     subst aN;have ba:wr.cell? ⟨ig,k,O⟩=X (I J r):=D.flt.cell (lJ hr);have k0:(0:Int)<=k:=by omega
     clear hv hr C aa t D HO y ai B aK LC;go_wp2;go_region;go_wp2;go_roundw
     case rel=>exact⟨k+1,by omega,by go_num,NX⟩
     case measure=>simp[intOf];omega
    ·have ek:k=f:=by omega
     subst ek;have x1:wr.cell? ⟨xb,1,O⟩=X (Y j m l):=am _ _ 1 _ _ _ y.o.1;have x2:wr.cell? ⟨xb,2,O⟩=X (I J nx):=am _ _ 2 _ _ _ y.o.1;have aD:ah (z+1<wb.heap.size):=(aJ.1 XR.o).1;have M:ah (iL wb.heap.size wb wr):=B.o.2.1.trans (y.o.2.2.2.1.mono B.o.2.1.size);have N:ah (wr.heap[z+1]?=X (iC #[Y O 0 0,Y O 0 0,I J 0] 44 (0,0))):=(M.o.block (z+1) aD.o).trans XR.o;have r0:=am _ _ 0 _ _ _ N.o;have r1:=am _ _ 1 _ _ _ N.o;have r2:=am _ _ 2 _ _ _ N.o;have f0:=aL _ _ 0 _ _ N.o;have f1:=aL _ _ 1 _ _ N.o;have f2:=aL _ _ 2 _ _ N.o;have R3:=af (n7 (a:=Y n k lc) (b:=Y j m l) (c:=I J nx) N.o);have aE:ah (fh w (g9 s) (iA #[Y n k lc,Y j m l,I J nx]) (((wr.setCell ⟨z+1,0,O⟩ (Y n k lc)).setCell ⟨z+1,1,O⟩ (Y j m l)).setCell ⟨z+1,2,O⟩ (I J nx))):=by
      have C:s.fV.length=R.length:=by rw[Q.o];exact d.o
      have e:lL s.fV R k=(g9 s).fV:=by
       show _=List.zipWith _ _ _;rw[HR.o,<-Q8 C,d.o]
      have hS:=aB.of y.o.2.1;rw[e]at hS;obtain⟨-,h5,lo1,hi1,lo2,hi2,aP,-,a1,a2,-,-,-⟩:=B.o;have a3:=y.o.2.2.2.1.size;have a4:=h5.size;have a5:=aD.o;have a6:=aM.o;have en:(g9 s).next=nx:=aH.o;have ek:(g9 s).fK=L:=HL.o;have T:=xP (w:=w) (W:=wr) (z:=z+1) (lo1:=q.heap.size) (hi1:=wr.heap.size) (lo2:=lo1) (hi2:=hi1) (vv:=Y n k lc) (kv:=Y j m l) (s:=g9 s) (by omega) hS (by rw[ek];exact dt.loc _ _ _ _ q _ (λg g1 g2=>y.o.2.2.2.1.block g (by omega)) aP) ⟨by have:=BW.o.size;omega,.inr (by omega)⟩ ⟨by have:=BW.o.size;omega,.inr (by omega)⟩ (ak _) (by omega) (.inr (by omega)) (BW.o.trans (M.o.mono BW.o.size))
      rw[en]at T;exact T
     have al:=af (Dz y.o.2.1);clear y N M B;go_wp2;exact aF (tW rfl _ _ (z+1) 44 _ (0,0) _ rfl R3.o Tryz.underlying44 rfl uY) rfl ⟨_,rfl,aE.o,⟨_,_,_,_,_,rfl,al.o⟩⟩
end Go.Proofs.YtijmbohadndfmaaGreatDoor
