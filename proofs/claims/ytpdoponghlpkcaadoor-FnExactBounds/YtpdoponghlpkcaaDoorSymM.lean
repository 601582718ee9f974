/-
  SymM
-/
import Derived.Test.YtpdoponghlpkcaaDoorSymR
import Derived.Test.YtpdoponghlpkcaaDoorMMath
set_option maxHeartbeats 8000000
set_option maxRecDepth 100000
namespace Go.Proofs.YtpdoponghlpkcaaDoor
open Go.RowKit
open Words
def SymOk(k:Nat):Prop:=∀(g N cap a m b:Nat) (P L R Q:List Fnd) (w:World),N≤1000000000000000→(P++(L++(R++Q))).length=N→P.length=a→a+L.length=m→m+R.length=b→1≤L.length→1≤R.length→L.length+R.length≤k→Asc L→Asc R→SRow w g (P++(L++(R++Q)))→
 Calls Tryd.prog 68 #[.slice (some ⟨g,0,none⟩) N cap,.int .i64 a,.int .i64 m,.int .i64 b,.func (.func 32) #[] #[]] w fun e w'=>e=.returned (.tuple #[])∧∃M,Asc M∧Akin (L++R) M∧M.length=L.length+R.length∧Sorted w w' g (P++(M++Q))
theorem sym_step(k:Nat)(IH:SymOk k)(g N cap a m b:Nat)(P L R Q:List Fnd)(w:World)(hN:N≤1000000000000000)(hl:(P++(L++(R++Q))).length=N)(hP:P.length=a)(hm:a+L.length=m)(hb:m+R.length=b)(hL2:2≤L.length)(hR2:2≤R.length)(hk:L.length+R.length≤k+1)(hL:Asc L)(hR:Asc R)(hr:SRow w g (P++(L++(R++Q)))):
 Calls Tryd.prog 68 #[.slice (some ⟨g,0,none⟩) N cap,.int .i64 a,.int .i64 m,.int .i64 b,.func (.func 32) #[] #[]] w fun e w'=>e=.returned (.tuple #[])∧∃M,Asc M∧Akin (L++R) M∧M.length=L.length+R.length∧Sorted w w' g (P++(M++Q)):=by
 have hbN:b≤N:=by rw[←hl];simp;omega
 obtain⟨D,hD⟩:∃D,D=P++(L++(R++Q)):=⟨_,rfl⟩;rw[←hD]at hl hr;have hLt:∀t y,L[t]?=some y→D[a+t]?=some y:=by
  intro t y hy;have ht:=(List.getElem?_eq_some_iff.1 hy).1;rw[hD,List.getElem?_append_right (by omega),show a+t-P.length=t by omega,List.getElem?_append_left ht]
  exact hy
 have hRt:∀t y,R[t]?=some y→D[m+t]?=some y:=by
  intro t y hy;have ht:=(List.getElem?_eq_some_iff.1 hy).1;rw[hD,List.getElem?_append_right (by omega),List.getElem?_append_right (by omega),show m+t-P.length-L.length=t by omega,List.getElem?_append_left ht]
  exact hy
 have HI:=hide IH;have HD:=hide hD;have HL:=hide hl;have HLT:=hide hLt;have HRT:=hide hRt;have HA:=hide hL;have HB:=hide hR;have HS0:Hid (Sorted w w g D):=⟨Kept2.refl _ _,hr⟩;have HP:=hide hP;obtain⟨nl,hnl⟩:∃n,L.length=n:=⟨_,rfl⟩;obtain⟨nr,hnr⟩:∃n,R.length=n:=⟨_,rfl⟩;rw[hnl]at hm hL2 hk;rw[hnr]at hb hR2 hk;have HNL:=hide hnl;have HNR:=hide hnr;have hma:((m:Int)-a==1)=false:=by rw[beq_eq_false_iff_ne];omega
 have hmb:((b:Int)-m==1)=false:=by rw[beq_eq_false_iff_ne];omega
 obtain⟨mid,hmid⟩:∃mid:Nat,((a:Int)+b)/2=mid:=⟨(a+b)/2,by omega⟩
 obtain⟨nn,hnn⟩:∃nn:Nat,(mid:Int)+m=nn:=⟨mid+m,by omega⟩
 obtain⟨pp,hpp⟩:∃pp:Nat,(nn:Int)-1=pp:=⟨nn-1,by omega⟩
 have hmd:2*mid≤a+b∧a+b≤2*mid+1:=by omega
 have hmd2:a<mid∧mid<b:=by omega
 clear IH hD hl hP hr hLt hRt hL hR hnl hnr;obtain⟨lo,r0,hlr⟩:∃lo r0:Nat,((mid:Int)<m∧(nn:Int)-b=lo∧r0=mid)∨(¬(mid:Int)<m∧lo=a∧r0=m):=by
  by_cases h:(mid:Int)<m
  ·exact⟨nn-b,mid,Or.inl ⟨h,by omega,rfl⟩⟩
  ·exact⟨a,m,Or.inr ⟨h,rfl,rfl⟩⟩
 rcases hlr with⟨hcm,hlo,hr0⟩|⟨hcm,hlo,hr0⟩
 all_goals
  go_enter Tryd.func68,Tryd.ntmps68;go_wp2;go_loopw [20,21] (fun iv jv wr=>∃i j:Nat,iv=.int .i64 i∧jv=.int .i64 j∧lo≤i∧i≤j∧j≤r0∧Hid (Split L R a m pp lo r0 i j)∧Hid (Sorted w wr g D)) (fun iv jv _=>(intOf jv).toNat-(intOf iv).toNat)
  case atStart=>exact⟨lo,r0,by first|rfl|go_num|rw[hlo],by rw[hr0],Nat.le_refl _,by omega,Nat.le_refl _,(fun c u v h1 h2 _ _=>⟨fun h=>by omega,fun h=>by omega⟩),HS0⟩
  case round=>
   obtain⟨i,j,rfl,rfl,r1,r2,r3,HQ,HS⟩:=hrel;clear HS0;by_cases hlt:(i:Int)<j
   ·obtain⟨h,hhI⟩:∃h:Nat,((i:Int)+j)/2=h:=⟨(i+j)/2,by omega⟩
    have hh1:i≤h∧h<j:=by omega
    obtain⟨pc,hpcI⟩:∃pc:Nat,(pp:Int)-h=pc:=⟨pp-h,by omega⟩
    have hpcw:IntKind.i64.wrap ((pp:Int)-h)=pc:=by rw[IntKind.wrap_i64];omega
    have hpcw2:IntKind.i64.wrap (pc:Int)=pc:=by rw[IntKind.wrap_i64];omega
    have hpc2:m≤pc∧pc<b:=by omega
    obtain⟨u,hu⟩:∃u,L[h-a]?=some u:=by
     have hl:h-a<L.length:=by have:=HNL.out;omega
     exact⟨_,List.getElem?_eq_getElem hl⟩
    obtain⟨v,hv⟩:∃v,R[pc-m]?=some v:=by
     have hl:pc-m<R.length:=by have:=HNR.out;omega
     exact⟨_,List.getElem?_eq_getElem hl⟩
    have HUd:Hid (D[h]?=some u):=by have:=HLT.out _ _ hu;rwa [show a+(h-a)=h by omega]at this
    have HVd:Hid (D[pc]?=some v):=by have:=HRT.out _ _ hv;rwa [show m+(pc-m)=pc by omega]at this
    have HV1:Hid (R[pp-h-m]?=some v):=by show _=_;rw[show pp-h=pc by omega];exact hv
    have HU1:=hide hu;have h0:(0:Int)≤h:=by omega
    have hN2:(h:Int)<N:=by omega
    have pc0:(0:Int)≤pc:=by omega
    have pcN:(pc:Int)<N:=by omega
    clear hu hv;have KC:Hid (∀W,Sorted w W g D→C8 W g (pc*8) v∧C8 W g (h*8) u):=fun W h=>⟨h.2.c8 HVd.out,h.2.c8 HUd.out⟩
    have CC:Hid (Calls Tryd.prog 32 #[F8 v,F8 u] wr.drew fun e w'=>e=.returned (.int .i64 (cmpV v u))∧Sorted w w' g D):=fcmp_row v u HS.out.drew
    obtain⟨r,hrr⟩:∃r,r=cmpV v u:=⟨_,rfl⟩;obtain⟨q,hq⟩:∃q,decide (r<0)=q:=⟨_,rfl⟩;have HR0:Hid (q=true↔v.key<u.key):=by show _↔_;rw[←hq,hrr,decide_eq_true_eq];exact cmpV_lt _ _
    rw[←hrr]at CC;have K0:=hide (KC.out _ HS.out);have K0d:=hide (KC.out _ HS.out.drew);obtain⟨⟨c0,c1,c2,c3,c4,c5,c6,c7⟩,d0,d1,d2,d3,d4,d5,d6,d7⟩:=K0.out;clear hrr;go_wp2;go_region_held3 (fun w'=>C8 w' g (pc*8) v∧C8 w' g (h*8) u) (first|go_keep|exact K0d.out|exact K2.out) ((go_at_call 32;(with_reducible refine Calls.mono CC.out ?_);rintro e w2 ⟨rfl,s2⟩;have S2:=hide s2;have K2:=hide (KC.out _ s2);clear s2))
    all_goals
     cases q with
     |true=>
      have NQ:=hide (HQ.out.down HA.out HB.out HU1.out HV1.out (HR0.out.1 rfl));go_wp2;go_roundw
      case rel=>exact⟨i,h,rfl,rfl,r1,by omega,by omega,NQ,S2⟩
      case measure=>simp[intOf];omega
     |false=>
      have hc:¬v.key<u.key:=fun e=>Bool.false_ne_true (HR0.out.2 e)
      have NQ:=hide (HQ.out.up HA.out HB.out HU1.out HV1.out (by omega) (by omega))
      clear hc;go_wp2;go_roundw
      case rel=>exact⟨h+1,j,by go_num,rfl,by omega,by omega,r3,NQ,S2⟩
      case measure=>simp[intOf];omega
   ·have hij:i=j:=by omega
    subst hij;obtain⟨en,hen⟩:∃en:Nat,(nn:Int)-i=en:=⟨nn-i,by omega⟩
    obtain⟨L1,L2,R1,R2,eL,eR,n1,n2,n3,n4,F1,F2⟩:=Split.parts (b:=b) (mid:=mid) (s:=i) (by rw[show mid+m-1=pp by omega];exact HQ.out) HA.out HB.out (by have:=HNL.out;omega) (by have:=HNR.out;omega) (by omega) (by omega) (by omega) (by omega) r1 (by omega) (by omega) (by omega)
    have hHA:=HA.out;have hHB:=HB.out;rw[eL]at hHA;rw[eR]at hHB;have ED:Hid (D=(P++L1)++(L2++(R1++(R2++Q)))):=by show _=_;rw[HD.out,eL,eR];simp
    have LPL:Hid ((P++L1).length=i):=by show _=_;rw[List.length_append];have:=HP.out;omega
    have AL1:=hide hHA.left;have AL2:=hide hHA.right;have AR1:=hide hHB.left;have AR2:=hide hHB.right;have FIN:Hid (∀M1 M2,Asc M1∧Akin (L1++R1) M1∧M1.length=L1.length+R1.length→Asc M2∧Akin (L2++R2) M2∧M2.length=L2.length+R2.length→∀W,Sorted w W g (P++(M1++(M2++Q)))→∃M,Asc M∧Akin (L++R) M∧M.length=L.length+R.length∧Sorted w W g (P++(M++Q))):=by
     intro M1 M2 ⟨a1,k1,l1⟩ ⟨a2,k2,l2⟩ W hs;obtain⟨b1,b2⟩:=halves hHA hHB F1 F2 a1 a2 k1 k2;refine⟨M1++M2,b1,by rw[eL,eR];exact b2,?_,?_⟩
     ·rw[eL,eR,List.length_append,List.length_append,List.length_append];omega
     ·rw[List.append_assoc];exact hs
    have LD:Hid (((P++L1)++(R1++(L2++(R2++Q)))).length=N):=by
     have h1:=HL.out;rw[ED.out]at h1;show _=_;simp only[List.length_append]at h1⊢;omega
    have NN:Hid (a+L1.length=i∧i+L2.length=m∧m+R1.length=en∧en+R2.length=b):=by
     have:=HP.out;exact⟨by omega,by omega,by omega,by omega⟩
    have E0:∀X:List Fnd,X.length=0→X=[]:=fun X=>List.eq_nil_of_length_eq_zero
    have hE0:=hide E0;clear hHA hHB F1 F2 eL eR n1 n2 n3 n4 HQ HLT HRT HL E0;all_goals
     by_cases hro:i<m∧m<en
     case' pos=>
      obtain⟨t1,t2⟩:=hro;have q1:(i:Int)<m:=by omega
      have q2:(m:Int)<en:=by omega
      have C:Hid (Calls Tryd.prog 79 #[.slice (some ⟨g,0,none⟩) N cap,.int .i64 i,.int .i64 m,.int .i64 en,.func (.func 32) #[] #[]] wr fun e w'=>e=.returned (.tuple #[])∧Sorted wr w' g ((P++L1)++(R1++(L2++(R2++Q))))):=by
       refine rotate g N cap i m en _ D _ wr hN ?_ t1 t2 (by omega) ⟨P++L1,L2,R1,R2++Q,ED.out,by have:=NN.out;omega,by have:=NN.out;omega,by have:=LPL.out;omega,rfl⟩ HS.out.2
       have h1:=LD.out;rw[ED.out];simp only[List.length_append]at h1⊢;omega
      go_wp2_with fail;refine C.out.mono ?_;rintro e wr ⟨rfl,s2⟩;have S2:=hide (HS.out.trans s2);clear s2 C HS
     case' neg=>
      have S2:Hid (Sorted w wr g ((P++L1)++(R1++(L2++(R2++Q))))):=by
       have hsame:D=(P++L1)++(R1++(L2++(R2++Q))):=by
        rw[ED.out];by_cases hz:i<m
        ·rw[hE0.out R1 (by have:=NN.out;omega)];simp
        ·rw[hE0.out L2 (by have:=NN.out;omega)];simp
       show Sorted _ _ _ _;rw[←hsame];exact HS.out
      clear HS;rcases(show¬(i:Int)<m∨((i:Int)<m∧¬(m:Int)<en)by omega)with q1|⟨q1,q2⟩
    all_goals
     by_cases hlf:a<i∧i<mid
     case' pos=>
      obtain⟨x1,x2⟩:=hlf;have v1:(a:Int)<i:=by omega
      have v2:(i:Int)<mid:=by omega
      have CL:=hide (HI.out g N cap a i mid P L1 R1 (L2++(R2++Q)) wr hN (by have h1:=LD.out;simp only[List.length_append]at h1⊢;omega) HP.out (by have:=NN.out;omega) (by have:=NN.out;omega) (by have:=NN.out;omega) (by have:=NN.out;omega) (by have:=NN.out;omega) AL1.out AR1.out (by have h1:=S2.out.2;simpa using h1))
      go_wp2_with fail;all_goals
       refine CL.out.mono ?_;rintro e wr ⟨rfl,M1,c⟩;have S3:=hide (S2.out.trans c.2.2.2);have MF:=hide (show Asc M1∧Akin (L1++R1) M1∧M1.length=L1.length+R1.length from⟨c.1,c.2.1,c.2.2.1⟩);clear c CL S2
     case' neg=>
      obtain⟨M1,hM1⟩:∃M1,L1++R1=M1:=⟨_,rfl⟩;have MF:Hid (Asc M1∧Akin (L1++R1) M1∧M1.length=L1.length+R1.length):=by
       show _∧_;rw[←hM1];refine⟨?_,Akin.refl _,by simp⟩
       by_cases hz:a<i
       ·rw[hE0.out R1 (by have:=NN.out;omega)];simpa using AL1.out
       ·rw[hE0.out L1 (by have:=NN.out;omega)];simpa using AR1.out
      have S3:Hid (Sorted w wr g (P++(M1++(L2++(R2++Q))))):=by show Sorted _ _ _ _;have h1:=S2.out;rw[←hM1];simpa using h1
      clear S2 hM1;rcases(show¬(a:Int)<i∨((a:Int)<i∧¬(i:Int)<mid)by omega)with v1|⟨v1,v2⟩
    all_goals
     by_cases hrt:mid<en∧en<b
     case' pos=>
      obtain⟨y1,y2⟩:=hrt;have z1:(mid:Int)<en:=by omega
      have z2:(en:Int)<b:=by omega
      have CR:=hide (HI.out g N cap mid en b (P++M1) L2 R2 Q wr hN (by have h1:=LD.out;have h2:=MF.out.2.2;simp only[List.length_append]at h1 h2⊢;omega) (by have h1:=MF.out.2.2;have:=NN.out;have:=HP.out;simp only[List.length_append]at h1⊢;omega) (by have:=NN.out;omega) (by have:=NN.out;omega) (by have:=NN.out;omega) (by have:=NN.out;omega) (by have:=NN.out;omega) AL2.out AR2.out (by have h1:=S3.out.2;simpa using h1))
      go_wp2_with fail;all_goals
       refine CR.out.mono ?_;rintro e wr ⟨rfl,M2,c⟩;have PF:=hide (FIN.out M1 M2 MF.out ⟨c.1,c.2.1,c.2.2.1⟩ wr (by have h1:=S3.out.trans c.2.2.2;simpa using h1))
       clear c CR
     case' neg=>
      have PF:=hide (FIN.out M1 (L2++R2) MF.out ⟨by
       by_cases hz:mid<en
       ·rw[hE0.out R2 (by have:=NN.out;omega)];simpa using AL2.out
       ·rw[hE0.out L2 (by have:=NN.out;omega)];simpa using AR2.out,Akin.refl _,by simp⟩ wr (by have h1:=S3.out;simpa using h1))
      rcases(show¬(mid:Int)<en∨((mid:Int)<en∧¬(en:Int)<b)by omega)with z1|⟨z1,z2⟩
    all_goals
     go_wp2;all_goals
      first|go_end0|refine bodyPost_ret (results_none rfl _ _ _) rfl ?_
      exact⟨rfl,PF.out⟩
theorem symMerge_all:∀k,SymOk k:=by
 intro k
 induction k with
 |zero=>
  intro g N cap a m b P L R Q w _ _ _ _ _ h1 h2 h3;omega
 |succ k ih=>
  intro g N cap a m b P L R Q w hN hl hP hm hb h1 h2 h3 hL hR hr;by_cases e1:L.length=1
  ·obtain⟨x,rfl⟩:=List.length_eq_one_iff.1 e1;have:=sym_left g N cap a m b P R Q x w hN (by simpa using hl) hP (by simpa using hm) hb hR (by simpa using hr)
   refine this.mono ?_;rintro e w' ⟨rfl,M,c1,c2,c3,c4⟩;exact⟨rfl,M,c1,c2,by simp;omega,c4⟩
  ·by_cases e2:R.length=1
   ·obtain⟨x,rfl⟩:=List.length_eq_one_iff.1 e2;have:=sym_right g N cap a m b P L Q x w hN (by simpa using hl) hP hm (by simpa using hb) e1 hL (by simpa using hr)
    refine this.mono ?_;rintro e w' ⟨rfl,M,c1,c2,c3,c4⟩;exact⟨rfl,M,c1,c2,by simp;omega,c4⟩
   ·exact sym_step k ih g N cap a m b P L R Q w hN hl hP hm hb (by omega) (by omega) h3 hL hR hr
end Go.Proofs.YtpdoponghlpkcaaDoor
