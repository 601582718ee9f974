/-
  SymM; Ins
-/
import Derived.Test.YtiicghepilbgfaaGreatDoorPk22
import Derived.Deep.QuietTactic
import Derived.BigQuiet
set_option maxHeartbeats 8000000
set_option maxRecDepth 100000
namespace Go.Proofs.YtiicghepilbgfaaGreatDoor
open Go.RowKit
open Words
def SymOk(k:Nat):Prop:=∀(g N cap a m b:Nat) (P L R Q:List Fnd) (w:World),N≤1000000000000000→(P++(L++(R++Q))).length=N→P.length=a→a+L.length=m→m+R.length=b→1≤L.length→1≤R.length→L.length+R.length≤k→Asc L→Asc R→SRow w g (P++(L++(R++Q)))→
 Calls Tryz.prog 150 #[.slice (some ⟨g,0,none⟩) N cap,.int .i64 a,.int .i64 m,.int .i64 b,.func (.func 112) #[] #[]] w fun e w'=>e=.returned (.tuple #[])∧∃M,Asc M∧Akin (L++R) M∧M.length=L.length+R.length∧Sorted w w' g (P++(M++Q))
theorem sym_step(k:Nat)(IH:SymOk k)(g N cap a m b:Nat)(P L R Q:List Fnd)(w:World)(hN:N≤1000000000000000)(hl:(P++(L++(R++Q))).length=N)(hP:P.length=a)(hm:a+L.length=m)(hb:m+R.length=b)(hL2:2≤L.length)(hR2:2≤R.length)(hk:L.length+R.length≤k+1)(hL:Asc L)(hR:Asc R)(hr:SRow w g (P++(L++(R++Q)))):
 Calls Tryz.prog 150 #[.slice (some ⟨g,0,none⟩) N cap,.int .i64 a,.int .i64 m,.int .i64 b,.func (.func 112) #[] #[]] w fun e w'=>e=.returned (.tuple #[])∧∃M,Asc M∧Akin (L++R) M∧M.length=L.length+R.length∧Sorted w w' g (P++(M++Q)):=by
 have hbN:b≤N:=by rw[←hl];simp;omega
 obtain⟨D,hD⟩:∃D,D=P++(L++(R++Q)):=⟨_,rfl⟩;rw[←hD]at hl hr;have hLt:∀t y,L[t]?=some y→D[a+t]?=some y:=by
  intro t y hy;have ht:=(List.getElem?_eq_some_iff.1 hy).1;rw[hD,List.getElem?_append_right (by omega),show a+t-P.length=t by omega,List.getElem?_append_left ht]
  exact hy
 have hRt:∀t y,R[t]?=some y→D[m+t]?=some y:=by
  intro t y hy;have ht:=(List.getElem?_eq_some_iff.1 hy).1;rw[hD,List.getElem?_append_right (by omega),List.getElem?_append_right (by omega),show m+t-P.length-L.length=t by omega,List.getElem?_append_left ht]
  exact hy
 have HI:=hide IH;have HD:=hide hD;have HL:=hide hl;have HLT:=hide hLt;have HRT:=hide hRt;have HA:=hide hL;have HB:=hide hR;have HS0:Hid (Sorted w w g D):=⟨Kept2.refl _ _,hr⟩;have HP:=hide hP;obtain⟨nl,hnl⟩:∃n,L.length=n:=⟨_,rfl⟩;obtain⟨nr,hnr⟩:∃n,R.length=n:=⟨_,rfl⟩;rw[hnl]at hm hL2 hk;rw[hnr]at hb hR2 hk;have HNL:=hide hnl;have HNR:=hide hnr;have hma:((m:Int)-a==1)=false:=by rw[beq_eq_false_iff_ne];omega
 have hmb:((b:Int)-m==1)=false:=by rw[beq_eq_false_iff_ne];omega
 obtain⟨mid,hmid⟩:∃mid:Nat,((a:Int)+b)/2=mid:=⟨(a+b)/2,by omega⟩
 obtain⟨nn,hnn⟩:∃nn:Nat,(mid:Int)+m=nn:=⟨mid+m,by omega⟩
 obtain⟨pp,hpp⟩:∃pp:Nat,(nn:Int)-1=pp:=⟨nn-1,by omega⟩
 have hmd:2*mid≤a+b∧a+b≤2*mid+1:=by omega
 have hmd2:a<mid∧mid<b:=by omega
 clear IH hD hl hP hr hLt hRt hL hR hnl hnr;obtain⟨lo,r0,hlr⟩:∃lo r0:Nat,((mid:Int)<m∧(nn:Int)-b=lo∧r0=mid)∨(¬(mid:Int)<m∧lo=a∧r0=m):=by
  by_cases h:(mid:Int)<m
  ·exact⟨nn-b,mid,Or.inl ⟨h,by omega,rfl⟩⟩
  ·exact⟨a,m,Or.inr ⟨h,rfl,rfl⟩⟩
 rcases hlr with⟨hcm,hlo,hr0⟩|⟨hcm,hlo,hr0⟩
 all_goals
  go_enter Tryz.func150,Tryz.ntmps150;go_wp2;go_loopw [20,21] (fun iv jv wr=>∃i j:Nat,iv=.int .i64 i∧jv=.int .i64 j∧lo≤i∧i≤j∧j≤r0∧Hid (Split L R a m pp lo r0 i j)∧Hid (Sorted w wr g D)) (fun iv jv _=>(intOf jv).toNat-(intOf iv).toNat)
  case atStart=>exact⟨lo,r0,by first|rfl|go_num|rw[hlo],by rw[hr0],Nat.le_refl _,by omega,Nat.le_refl _,(fun c u v h1 h2 _ _=>⟨fun h=>by omega,fun h=>by omega⟩),HS0⟩
  case round=>
   obtain⟨i,j,rfl,rfl,r1,r2,r3,HQ,HS⟩:=hrel;clear HS0;by_cases hlt:(i:Int)<j
   ·obtain⟨h,hhI⟩:∃h:Nat,((i:Int)+j)/2=h:=⟨(i+j)/2,by omega⟩
    have hh1:i≤h∧h<j:=by omega
    obtain⟨pc,hpcI⟩:∃pc:Nat,(pp:Int)-h=pc:=⟨pp-h,by omega⟩
    have hpcw:IntKind.i64.wrap ((pp:Int)-h)=pc:=by rw[IntKind.wrap_i64];omega
    have hpcw2:IntKind.i64.wrap (pc:Int)=pc:=by rw[IntKind.wrap_i64];omega
    have hpc2:m≤pc∧pc<b:=by omega
    obtain⟨u,hu⟩:∃u,L[h-a]?=some u:=by
     have hl:h-a<L.length:=by have:=HNL.out;omega
     exact⟨_,List.getElem?_eq_getElem hl⟩
    obtain⟨v,hv⟩:∃v,R[pc-m]?=some v:=by
     have hl:pc-m<R.length:=by have:=HNR.out;omega
     exact⟨_,List.getElem?_eq_getElem hl⟩
    have HUd:Hid (D[h]?=some u):=by have:=HLT.out _ _ hu;rwa [show a+(h-a)=h by omega]at this
    have HVd:Hid (D[pc]?=some v):=by have:=HRT.out _ _ hv;rwa [show m+(pc-m)=pc by omega]at this
    have HV1:Hid (R[pp-h-m]?=some v):=by show _=_;rw[show pp-h=pc by omega];exact hv
    have HU1:=hide hu;have h0:(0:Int)≤h:=by omega
    have hN2:(h:Int)<N:=by omega
    have pc0:(0:Int)≤pc:=by omega
    have pcN:(pc:Int)<N:=by omega
    clear hu hv;have KC:Hid (∀W,Sorted w W g D→C8 W g (pc*8) v∧C8 W g (h*8) u):=fun W h=>⟨h.2.c8 HVd.out,h.2.c8 HUd.out⟩
    have CC:Hid (Calls Tryz.prog 112 #[F8 v,F8 u] wr.drew fun e w'=>e=.returned (.int .i64 (cmpV v u))∧Sorted w w' g D):=fcmp_row v u HS.out.drew
    obtain⟨r,hrr⟩:∃r,r=cmpV v u:=⟨_,rfl⟩;obtain⟨q,hq⟩:∃q,decide (r<0)=q:=⟨_,rfl⟩;have HR0:Hid (q=true↔v.key<u.key):=by show _↔_;rw[←hq,hrr,decide_eq_true_eq];exact cmpV_lt _ _
    rw[←hrr]at CC;have K0:=hide (KC.out _ HS.out);have K0d:=hide (KC.out _ HS.out.drew);obtain⟨⟨c0,c1,c2,c3,c4,c5,c6,c7⟩,d0,d1,d2,d3,d4,d5,d6,d7⟩:=K0.out;clear hrr;go_wp2;go_region_held3 (fun w'=>C8 w' g (pc*8) v∧C8 w' g (h*8) u) (first|go_keep|exact K0d.out|exact K2.out) ((go_at_call 112;(with_reducible refine Calls.mono CC.out ?_);rintro e w2 ⟨rfl,s2⟩;have S2:=hide s2;have K2:=hide (KC.out _ s2);clear s2))
    all_goals
     cases q with
     |true=>
      have NQ:=hide (HQ.out.down HA.out HB.out HU1.out HV1.out (HR0.out.1 rfl));go_wp2;go_roundw
      case rel=>exact⟨i,h,rfl,rfl,r1,by omega,by omega,NQ,S2⟩
      case measure=>simp[intOf];omega
     |false=>
      have hc:¬v.key<u.key:=fun e=>Bool.false_ne_true (HR0.out.2 e)
      have NQ:=hide (HQ.out.up HA.out HB.out HU1.out HV1.out (by omega) (by omega))
      clear hc;go_wp2;go_roundw
      case rel=>exact⟨h+1,j,by go_num,rfl,by omega,by omega,r3,NQ,S2⟩
      case measure=>simp[intOf];omega
   ·have hij:i=j:=by omega
    subst hij;obtain⟨en,hen⟩:∃en:Nat,(nn:Int)-i=en:=⟨nn-i,by omega⟩
    obtain⟨L1,L2,R1,R2,eL,eR,n1,n2,n3,n4,F1,F2⟩:=Split.parts (b:=b) (mid:=mid) (s:=i) (by rw[show mid+m-1=pp by omega];exact HQ.out) HA.out HB.out (by have:=HNL.out;omega) (by have:=HNR.out;omega) (by omega) (by omega) (by omega) (by omega) r1 (by omega) (by omega) (by omega)
    have hHA:=HA.out;have hHB:=HB.out;rw[eL]at hHA;rw[eR]at hHB;have ED:Hid (D=(P++L1)++(L2++(R1++(R2++Q)))):=by show _=_;rw[HD.out,eL,eR];simp
    have LPL:Hid ((P++L1).length=i):=by show _=_;rw[List.length_append];have:=HP.out;omega
    have AL1:=hide hHA.left;have AL2:=hide hHA.right;have AR1:=hide hHB.left;have AR2:=hide hHB.right;have FIN:Hid (∀M1 M2,Asc M1∧Akin (L1++R1) M1∧M1.length=L1.length+R1.length→Asc M2∧Akin (L2++R2) M2∧M2.length=L2.length+R2.length→∀W,Sorted w W g (P++(M1++(M2++Q)))→∃M,Asc M∧Akin (L++R) M∧M.length=L.length+R.length∧Sorted w W g (P++(M++Q))):=by
     intro M1 M2 ⟨a1,k1,l1⟩ ⟨a2,k2,l2⟩ W hs;obtain⟨b1,b2⟩:=halves hHA hHB F1 F2 a1 a2 k1 k2;refine⟨M1++M2,b1,by rw[eL,eR];exact b2,?_,?_⟩
     ·rw[eL,eR,List.length_append,List.length_append,List.length_append];omega
     ·rw[List.append_assoc];exact hs
    have LD:Hid (((P++L1)++(R1++(L2++(R2++Q)))).length=N):=by
     have h1:=HL.out;rw[ED.out]at h1;show _=_;simp only[List.length_append]at h1⊢;omega
    have NN:Hid (a+L1.length=i∧i+L2.length=m∧m+R1.length=en∧en+R2.length=b):=by
     have:=HP.out;exact⟨by omega,by omega,by omega,by omega⟩
    have E0:∀X:List Fnd,X.length=0→X=[]:=fun X=>List.eq_nil_of_length_eq_zero
    have hE0:=hide E0;clear hHA hHB F1 F2 eL eR n1 n2 n3 n4 HQ HLT HRT HL E0;all_goals
     by_cases hro:i<m∧m<en
     case' pos=>
      obtain⟨t1,t2⟩:=hro;have q1:(i:Int)<m:=by omega
      have q2:(m:Int)<en:=by omega
      have C:Hid (Calls Tryz.prog 166 #[.slice (some ⟨g,0,none⟩) N cap,.int .i64 i,.int .i64 m,.int .i64 en,.func (.func 112) #[] #[]] wr fun e w'=>e=.returned (.tuple #[])∧Sorted wr w' g ((P++L1)++(R1++(L2++(R2++Q))))):=by
       refine rotate g N cap i m en _ D _ wr hN ?_ t1 t2 (by omega) ⟨P++L1,L2,R1,R2++Q,ED.out,by have:=NN.out;omega,by have:=NN.out;omega,by have:=LPL.out;omega,rfl⟩ HS.out.2
       have h1:=LD.out;rw[ED.out];simp only[List.length_append]at h1⊢;omega
      go_wp2_with fail;refine C.out.mono ?_;rintro e wr ⟨rfl,s2⟩;have S2:=hide (HS.out.trans s2);clear s2 C HS
     case' neg=>
      have S2:Hid (Sorted w wr g ((P++L1)++(R1++(L2++(R2++Q))))):=by
       have hsame:D=(P++L1)++(R1++(L2++(R2++Q))):=by
        rw[ED.out];by_cases hz:i<m
        ·rw[hE0.out R1 (by have:=NN.out;omega)];simp
        ·rw[hE0.out L2 (by have:=NN.out;omega)];simp
       show Sorted _ _ _ _;rw[←hsame];exact HS.out
      clear HS;rcases(show¬(i:Int)<m∨((i:Int)<m∧¬(m:Int)<en)by omega)with q1|⟨q1,q2⟩
    all_goals
     by_cases hlf:a<i∧i<mid
     case' pos=>
      obtain⟨x1,x2⟩:=hlf;have v1:(a:Int)<i:=by omega
      have v2:(i:Int)<mid:=by omega
      have CL:=hide (HI.out g N cap a i mid P L1 R1 (L2++(R2++Q)) wr hN (by have h1:=LD.out;simp only[List.length_append]at h1⊢;omega) HP.out (by have:=NN.out;omega) (by have:=NN.out;omega) (by have:=NN.out;omega) (by have:=NN.out;omega) (by have:=NN.out;omega) AL1.out AR1.out (by have h1:=S2.out.2;simpa using h1))
      go_wp2_with fail;all_goals
       refine CL.out.mono ?_;rintro e wr ⟨rfl,M1,c⟩;have S3:=hide (S2.out.trans c.2.2.2);have MF:=hide (show Asc M1∧Akin (L1++R1) M1∧M1.length=L1.length+R1.length from⟨c.1,c.2.1,c.2.2.1⟩);clear c CL S2
     case' neg=>
      obtain⟨M1,hM1⟩:∃M1,L1++R1=M1:=⟨_,rfl⟩;have MF:Hid (Asc M1∧Akin (L1++R1) M1∧M1.length=L1.length+R1.length):=by
       show _∧_;rw[←hM1];refine⟨?_,Akin.refl _,by simp⟩
       by_cases hz:a<i
       ·rw[hE0.out R1 (by have:=NN.out;omega)];simpa using AL1.out
       ·rw[hE0.out L1 (by have:=NN.out;omega)];simpa using AR1.out
      have S3:Hid (Sorted w wr g (P++(M1++(L2++(R2++Q))))):=by show Sorted _ _ _ _;have h1:=S2.out;rw[←hM1];simpa using h1
      clear S2 hM1;rcases(show¬(a:Int)<i∨((a:Int)<i∧¬(i:Int)<mid)by omega)with v1|⟨v1,v2⟩
    all_goals
     by_cases hrt:mid<en∧en<b
     case' pos=>
      obtain⟨y1,y2⟩:=hrt;have z1:(mid:Int)<en:=by omega
      have z2:(en:Int)<b:=by omega
      have CR:=hide (HI.out g N cap mid en b (P++M1) L2 R2 Q wr hN (by have h1:=LD.out;have h2:=MF.out.2.2;simp only[List.length_append]at h1 h2⊢;omega) (by have h1:=MF.out.2.2;have:=NN.out;have:=HP.out;simp only[List.length_append]at h1⊢;omega) (by have:=NN.out;omega) (by have:=NN.out;omega) (by have:=NN.out;omega) (by have:=NN.out;omega) (by have:=NN.out;omega) AL2.out AR2.out (by have h1:=S3.out.2;simpa using h1))
      go_wp2_with fail;all_goals
       refine CR.out.mono ?_;rintro e wr ⟨rfl,M2,c⟩;have PF:=hide (FIN.out M1 M2 MF.out ⟨c.1,c.2.1,c.2.2.1⟩ wr (by have h1:=S3.out.trans c.2.2.2;simpa using h1))
       clear c CR
     case' neg=>
      have PF:=hide (FIN.out M1 (L2++R2) MF.out ⟨by
       by_cases hz:mid<en
       ·rw[hE0.out R2 (by have:=NN.out;omega)];simpa using AL2.out
       ·rw[hE0.out L2 (by have:=NN.out;omega)];simpa using AR2.out,Akin.refl _,by simp⟩ wr (by have h1:=S3.out;simpa using h1))
      rcases(show¬(mid:Int)<en∨((mid:Int)<en∧¬(en:Int)<b)by omega)with z1|⟨z1,z2⟩
    all_goals
     go_wp2;all_goals
      first|go_end0|refine bodyPost_ret (results_none rfl _ _ _) rfl ?_
      exact⟨rfl,PF.out⟩
theorem symMerge_all:∀k,SymOk k:=by
 intro k
 induction k with
 |zero=>
  intro g N cap a m b P L R Q w _ _ _ _ _ h1 h2 h3;omega
 |succ k ih=>
  intro g N cap a m b P L R Q w hN hl hP hm hb h1 h2 h3 hL hR hr;by_cases e1:L.length=1
  ·obtain⟨x,rfl⟩:=List.length_eq_one_iff.1 e1;have:=sym_left g N cap a m b P R Q x w hN (by simpa using hl) hP (by simpa using hm) hb hR (by simpa using hr)
   refine this.mono ?_;rintro e w' ⟨rfl,M,c1,c2,c3,c4⟩;exact⟨rfl,M,c1,c2,by simp;omega,c4⟩
  ·by_cases e2:R.length=1
   ·obtain⟨x,rfl⟩:=List.length_eq_one_iff.1 e2;have:=sym_right g N cap a m b P L Q x w hN (by simpa using hl) hP hm (by simpa using hb) e1 hL (by simpa using hr)
    refine this.mono ?_;rintro e w' ⟨rfl,M,c1,c2,c3,c4⟩;exact⟨rfl,M,c1,c2,by simp;omega,c4⟩
   ·exact sym_step k ih g N cap a m b P L R Q w hN hl hP hm hb (by omega) (by omega) h3 hL hR hr
theorem insertion(g N cap a b:Nat)(P L Q:List Fnd)(w:World)(hN:N≤1000000000000000)(hl:(P++(L++Q)).length=N)(hP:P.length=a)(hb:a+L.length=b)(hr:SRow w g (P++(L++Q))):
 Calls Tryz.prog 149 #[.slice (some ⟨g,0,none⟩) N cap,.int .i64 a,.int .i64 b,.func (.func 112) #[] #[]] w fun e w'=>e=.returned (.tuple #[])∧∃M,Asc M∧Akin L M∧M.length=L.length∧Sorted w w' g (P++(M++Q)):=by
 have hbN:b≤N:=by rw[←hl];simp;omega
 cases L with
 |nil=>
  have hab:b=a:=by simpa using hb.symm
  subst hab;have PF:Hid (∃M,Asc M∧Akin ([]:List Fnd) M∧M.length=([]:List Fnd).length∧Sorted w w g (P++(M++Q))):=⟨[],List.Pairwise.nil,Akin.refl _,rfl,Kept2.refl _ _,hr⟩;clear hr hl;go_enter Tryz.func149,Tryz.ntmps149;go_wp2;go_loopw [8] (fun iv wr=>iv=.int .i64 ((b:Int)+1)∧wr=w) (fun _ _=>0)
  case atStart=>exact⟨by first|rfl|go_num,rfl⟩
  case round=>
   obtain⟨rfl,rfl⟩:=hrel;have hnl:¬(b:Int)+1<b:=by omega
   go_wp2
   first|go_end0|refine bodyPost_ret (results_none rfl _ _ _) rfl ?_
   obtain⟨M,h1,h2,h3,h4⟩:=PF.out;exact⟨rfl,M,h1,h2,by simpa using h3,h4⟩
 |cons x0 L0=>
  obtain⟨D,hD⟩:∃D,D=P++((x0::L0)++Q):=⟨_,rfl⟩;rw[←hD]at hl hr;have HL:=hide hl;have HS0:Hid (Sorted w w g D):=⟨Kept2.refl _ _,hr⟩;have HP:=hide hP;obtain⟨nl,hnl⟩:∃n,(x0::L0).length=n:=⟨_,rfl⟩;rw[hnl]at hb;have HNL:=hide hnl;have hn1:1≤nl:=by rw[←hnl];simp
  have ST:Hid (∃S T,D=P++(S++(T++Q))∧Asc S∧Akin (x0::L0) (S++T)∧S.length=(a+1)-a∧S.length+T.length=nl):=⟨[x0],L0,by rw[hD];simp,List.pairwise_singleton _ _,Akin.refl _,by simp,by rw[←hnl];simp;omega⟩
  clear hD hl hP hr hnl;generalize x0::L0=L at HNL ST;obtain⟨i0,hi0⟩:∃i0:Nat,(a:Int)+1=i0:=⟨a+1,by omega⟩
  have hi1:Hid (i0=a+1):=by show _=_;omega
  go_enter Tryz.func149,Tryz.ntmps149;go_wp2;clear hi0;go_loopw [8] (fun iv wr=>∃(i:Nat) (E:List Fnd),iv=.int .i64 i∧a+1≤i∧i≤b∧Hid (E.length=N)∧Hid (∃S T,E=P++(S++(T++Q))∧Asc S∧Akin L (S++T)∧S.length=i-a∧S.length+T.length=nl)∧Hid (Sorted w wr g E)) (fun iv _=>b-(intOf iv).toNat)
  case atStart=>exact⟨i0,D,rfl,by have:=hi1.out;omega,by have:=hi1.out;omega,HL,by rw[hi1.out];exact ST,HS0⟩
  case round=>
   rename World=>wo
   obtain⟨i,E,rfl,r1,r2,HE,HJ,HS⟩:=hrel;clear HS0 ST HL;by_cases hlt:(i:Int)<b
   ·obtain⟨S,T0,e1,e2,e3,e4,e5⟩:=HJ.out
    match T0,e1,e3,e5 with
    | [],_,_,h5=>simp at h5;omega
    |x::T,e1,e3,e5=>
     have J0:Hid (E=P++(S++(x::([]++(T++Q))))∧S++[]=S∧S.length=i-a∧∀v∈([]:List Fnd),x.key<v.key):=⟨by rw[e1];simp,by simp,e4,fun v hv=>by cases hv⟩
     have AS:=hide e2;have AK:=hide e3;have E5:=hide e5;have HSo:=HS;have HEo:=HE;have E4:=hide e4;clear e1 e2 e3 e4 e5 HJ HS HE;go_wp2;go_loopw [9] (fun jv wr=>∃(j:Nat) (F U V:List Fnd),jv=.int .i64 j∧a≤j∧j≤i∧Hid (F.length=N)∧Hid (F=P++(U++(x::(V++(T++Q))))∧U++V=S∧U.length=j-a∧∀v∈V,x.key<v.key)∧Hid (Sorted w wr g F)) (fun jv _=>(intOf jv).toNat)
     case atStart=>exact⟨i,E,S,[],rfl,by omega,Nat.le_refl _,HEo,J0,HSo⟩
     case round=>
      obtain⟨j,G,U,V,rfl,s1,s2,HG,HK,HS⟩:=hrel;clear HSo HEo J0;have OUT:Hid ((∀u∈U,u.key≤x.key)→∃S2 T2,G=P++(S2++(T2++Q))∧Asc S2∧Akin L (S2++T2)∧S2.length=(i+1)-a∧S2.length+T2.length=nl):=by
       intro hu;obtain⟨k1,k2,k3,k4⟩:=HK.out;have hA:=AS.out;rw[←k2]at hA;refine⟨U++x::V,T,by rw[k1];simp,Asc.app hA.left (List.pairwise_cons.2 ⟨fun v hv=>Int.le_of_lt (k4 v hv),hA.right⟩) ?_,?_,?_,?_⟩
       ·intro p hp q hq;rcases List.mem_cons.1 hq with e|e
        ·subst e;exact hu p hp
        ·exact hA.across p hp q e
       ·refine AK.out.trans ?_;rw[←k2];have:=(Akin.refl U).app ((Akin.flip (a:=V) (b:=[x]) (fun p hp q hq=>by rw[List.mem_singleton]at hq;subst hq;have:=k4 p hp;omega)).app (Akin.refl T))
        simpa using this
       ·have h1:=congrArg List.length k2;have h2:=E4.out;simp only[List.length_append,List.length_cons]at h1⊢;omega
       ·have h1:=congrArg List.length k2;have h2:=E5.out;simp only[List.length_append,List.length_cons]at h1 h2⊢;omega
      by_cases hja:(a:Int)<j
      ·obtain⟨k1,k2,k3,k4⟩:=HK.out;obtain⟨U',u,eU⟩:∃U' u,U=U'++[u]:=by
        have hne:U≠ []:=fun e=>by subst e;simp at k3;omega
        exact⟨U.dropLast,U.getLast hne,(List.dropLast_concat_getLast hne).symm⟩
       subst eU;obtain⟨q,hqI⟩:∃q:Nat,(j:Int)-1=q:=⟨j-1,by omega⟩
       have hqw:IntKind.i64.wrap ((j:Int)-1)=q:=by rw[IntKind.wrap_i64];omega
       have hqw2:IntKind.i64.wrap (q:Int)=q:=by rw[IntKind.wrap_i64];omega
       have eE:G=(P++U')++u::([]++x::(V++(T++Q))):=by rw[k1];simp
       have lPU:(P++U').length=q:=by
        rw[List.length_append];rw[List.length_append]at k3;have:=HP.out;simp at k3;omega
       have hq:G[q]?=some u:=by rw[eE,←lPU];simp
       have hp:G[j]?=some x:=by
        rw[eE,List.getElem?_append_right (by omega)]
        have:j-(P++U').length=1:=by omega
        rw[this];rfl
       have hset:(G.set j u).set q x=P++(U'++(x::((u::V)++(T++Q)))):=by
        have:=set_two (P++U') [] (V++(T++Q)) u x;rw[lPU,←eE]at this;rw[List.set_comm _ _ (show j≠q by omega),show j=q+1+([]:List Fnd).length by simp;omega,this]
        simp
       have NL:Hid (((G.set j u).set q x).length=N):=by show _=_;rw[List.length_set,List.length_set];exact HG.out
       have k3':U'.length=q-a:=by simp at k3;omega
       have k2':U'++(u::V)=S:=by rw[←k2];simp
       have j0:(0:Int)≤j:=by omega
       have q0:(0:Int)≤q:=by omega
       have jN:(j:Int)<N:=by omega
       have qN:(q:Int)<N:=by omega
       have HPp:=hide hp;have HQq:=hide hq;have hjq:q+1=j:=by omega
       by_cases hc:x.key<u.key
       ·have NU:Hid ((G.set j u).set q x=P++(U'++(x::((u::V)++(T++Q))))∧U'++(u::V)=S∧U'.length=q-a∧∀v∈(u::V),x.key<v.key):=⟨hset,k2',k3',fun v hv=>by
         rcases List.mem_cons.1 hv with e|e
         ·subst e;exact hc
         ·exact k4 v e⟩
        clear hp hq eE lPU hset k1 k2 k3 k4 HK OUT k2' k3';have KC:Hid (∀W,Sorted w W g G→C8 W g (j*8) x∧C8 W g (q*8) u):=fun W h=>⟨h.2.c8 HPp.out,h.2.c8 HQq.out⟩
        have CC:Hid (Calls Tryz.prog 112 #[F8 x,F8 u] wr.drew fun e w'=>e=.returned (.int .i64 (cmpV x u))∧Sorted w w' g G):=fcmp_row x u HS.out.drew
        obtain⟨r,hrr⟩:∃r,r=cmpV x u:=⟨_,rfl⟩;have hr0:decide (r<0)=true:=by rw[hrr];exact decide_eq_true ((cmpV_lt _ _).2 hc)
        rw[←hrr]at CC;have K0:=hide (KC.out _ HS.out);have K0d:=hide (KC.out _ HS.out.drew);obtain⟨⟨c0,c1,c2,c3,c4,c5,c6,c7⟩,d0,d1,d2,d3,d4,d5,d6,d7⟩:=K0.out;clear hrr;go_wp2;go_region_held3 (fun w'=>C8 w' g (j*8) x∧C8 w' g (q*8) u) (first|go_keep|exact K0d.out|exact K2.out) ((go_at_call 112;(with_reducible refine Calls.mono CC.out ?_);rintro e w2 ⟨rfl,s2⟩;have S2:=hide s2;have K2:=hide (KC.out _ s2);clear s2))
        all_goals
         clear c0 c1 c2 c3 c4 c5 c6 c7 d0 d1 d2 d3 d4 d5 d6 d7 K0 K0d K2 CC KC;obtain⟨hs3,hk3⟩:=S2.out.2.swap HPp.out HQq.out;have NX:Hid (Sorted w (put8 (put8 w2 g (j*8) u) g (q*8) x) g ((G.set j u).set q x)):=⟨S2.out.1.trans hk3,hs3⟩;have x0:w2.cell? ⟨g,j*8,none⟩=some (.int .i64 x.block):=S2.out.2.cell HPp.out 0 rfl;have z0:w2.cell? ⟨g,q*8,none⟩=some (.int .i64 u.block):=S2.out.2.cell HQq.out 0 rfl;have k0:=S2.out.2.frozen (j*8);have l0:=S2.out.2.frozen (q*8);have x1:w2.cell? ⟨g,j*8+1,none⟩=some (.int .i64 x.leaf):=S2.out.2.cell HPp.out 1 rfl;have z1:w2.cell? ⟨g,q*8+1,none⟩=some (.int .i64 u.leaf):=S2.out.2.cell HQq.out 1 rfl;have k1:=S2.out.2.frozen (j*8+1);have l1:=S2.out.2.frozen (q*8+1);have x2:w2.cell? ⟨g,j*8+2,none⟩=some (.int .i64 x.page.kind):=S2.out.2.cell HPp.out 2 rfl;have z2:w2.cell? ⟨g,q*8+2,none⟩=some (.int .i64 u.page.kind):=S2.out.2.cell HQq.out 2 rfl;have k2:=S2.out.2.frozen (j*8+2);have l2:=S2.out.2.frozen (q*8+2);have x3:w2.cell? ⟨g,j*8+3,none⟩=some (.int .i64 x.page.seq):=S2.out.2.cell HPp.out 3 rfl;have z3:w2.cell? ⟨g,q*8+3,none⟩=some (.int .i64 u.page.seq):=S2.out.2.cell HQq.out 3 rfl;have k3:=S2.out.2.frozen (j*8+3);have l3:=S2.out.2.frozen (q*8+3);have x4:w2.cell? ⟨g,j*8+4,none⟩=some (.int .i64 x.page.tx):=S2.out.2.cell HPp.out 4 rfl;have z4:w2.cell? ⟨g,q*8+4,none⟩=some (.int .i64 u.page.tx):=S2.out.2.cell HQq.out 4 rfl;have k4:=S2.out.2.frozen (j*8+4);have l4:=S2.out.2.frozen (q*8+4);have x5:w2.cell? ⟨g,j*8+5,none⟩=some (.int .i64 x.page.part):=S2.out.2.cell HPp.out 5 rfl;have z5:w2.cell? ⟨g,q*8+5,none⟩=some (.int .i64 u.page.part):=S2.out.2.cell HQq.out 5 rfl;have k5:=S2.out.2.frozen (j*8+5);have l5:=S2.out.2.frozen (q*8+5);have x6:w2.cell? ⟨g,j*8+6,none⟩=some (.int .i64 x.page.count):=S2.out.2.cell HPp.out 6 rfl;have z6:w2.cell? ⟨g,q*8+6,none⟩=some (.int .i64 u.page.count):=S2.out.2.cell HQq.out 6 rfl;have k6:=S2.out.2.frozen (j*8+6);have l6:=S2.out.2.frozen (q*8+6);have x7:w2.cell? ⟨g,j*8+7,none⟩=some (.string x.page.text):=S2.out.2.cell HPp.out 7 rfl;have z7:w2.cell? ⟨g,q*8+7,none⟩=some (.string u.page.text):=S2.out.2.cell HQq.out 7 rfl;have k7:=S2.out.2.frozen (j*8+7);have l7:=S2.out.2.frozen (q*8+7);have y0:=(put8_far w2 g (j*8) (q*8) u (by omega)).trans z0
         have y1:=(put8_far w2 g (j*8) (q*8+1) u (by omega)).trans z1
         have y2:=(put8_far w2 g (j*8) (q*8+2) u (by omega)).trans z2
         have y3:=(put8_far w2 g (j*8) (q*8+3) u (by omega)).trans z3
         have y4:=(put8_far w2 g (j*8) (q*8+4) u (by omega)).trans z4
         have y5:=(put8_far w2 g (j*8) (q*8+5) u (by omega)).trans z5
         have y6:=(put8_far w2 g (j*8) (q*8+6) u (by omega)).trans z6
         have y7:=(put8_far w2 g (j*8) (q*8+7) u (by omega)).trans z7
         unfold put8 at y0 y1 y2 y3 y4 y5 y6 y7;clear hs3 hk3;go_wp2;go_region;have ND:=hide NX.out.drew;unfold put8 at ND;go_wp2;go_roundw
         case rel=>exact⟨q,_,U',u::V,by first|rfl|go_num,by omega,by omega,NL,NU,ND⟩
         case measure=>simp[intOf];omega
       ·have PO:=hide (OUT.out (fun p hp2=>by
         have hA:=AS.out;rw[←k2]at hA;have h1:=hA.left;rcases List.mem_append.1 hp2 with e|e
         ·have:=h1.across p e u (by simp);omega
         ·rw[List.mem_singleton]at e;subst e;omega))
        clear hp hq eE lPU hset k1 k2 k3 k4 HK OUT k2' k3' NL;have KC:Hid (∀W,Sorted w W g G→C8 W g (j*8) x∧C8 W g (q*8) u):=fun W h=>⟨h.2.c8 HPp.out,h.2.c8 HQq.out⟩
        have CC:Hid (Calls Tryz.prog 112 #[F8 x,F8 u] wr.drew fun e w'=>e=.returned (.int .i64 (cmpV x u))∧Sorted w w' g G):=fcmp_row x u HS.out.drew
        obtain⟨r,hrr⟩:∃r,r=cmpV x u:=⟨_,rfl⟩;have hr0:decide (r<0)=false:=by rw[hrr];exact decide_eq_false (fun e=>hc ((cmpV_lt _ _).1 e))
        rw[←hrr]at CC;have K0:=hide (KC.out _ HS.out);have K0d:=hide (KC.out _ HS.out.drew);obtain⟨⟨c0,c1,c2,c3,c4,c5,c6,c7⟩,d0,d1,d2,d3,d4,d5,d6,d7⟩:=K0.out;clear hrr;go_wp2;go_region_held3 (fun w'=>C8 w' g (j*8) x∧C8 w' g (q*8) u) (first|go_keep|exact K0d.out|exact K2.out) ((go_at_call 112;(with_reducible refine Calls.mono CC.out ?_);rintro e w2 ⟨rfl,s2⟩;have S2:=hide s2;have K2:=hide (KC.out _ s2);clear s2))
        all_goals
         go_wp2;go_roundw
         case rel=>exact⟨i+1,G,by go_num,by omega,by omega,HG,PO,S2⟩
         case measure=>simp[intOf];omega
      ·have hU:U=[]:=by
        obtain⟨k1,k2,k3,k4⟩:=HK.out;exact List.eq_nil_of_length_eq_zero (by omega)
       have PO:=hide (OUT.out (fun p hp2=>by rw[hU]at hp2;cases hp2))
       have hjd:decide ((a:Int)<j)=false:=decide_eq_false hja;have hjd2:decide (a<j)=false:=decide_eq_false (by omega)
       clear OUT HK hU;go_wp2;go_quiet (fail);go_wp2;go_roundw
       case rel=>exact⟨i+1,G,by go_num,by omega,by omega,HG,PO,HS.out.below (below_drewN (Below.refl _ _) _)⟩
       case measure=>simp[intOf];omega
   ·obtain⟨S,T,e1,e2,e3,e4,e5⟩:=HJ.out;have hT:T=[]:=List.eq_nil_of_length_eq_zero (by omega)
    subst hT;have PF:Hid (∃M,Asc M∧Akin L M∧M.length=L.length∧Sorted w wo g (P++(M++Q))):=⟨S,e2,by simpa using e3,by have:=HNL.out;simp at e5;omega,by have h1:=HS.out;rw[e1]at h1;simpa using h1⟩
    clear e1 e2 e3 e4 e5 HJ HS;go_wp2
    first|go_end0|refine bodyPost_ret (results_none rfl _ _ _) rfl ?_
    exact⟨rfl,PF.out⟩
end Go.Proofs.YtiicghepilbgfaaGreatDoor
