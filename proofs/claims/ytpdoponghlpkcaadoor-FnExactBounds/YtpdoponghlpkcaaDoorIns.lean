/-
  Ins
-/
import Derived.Test.YtpdoponghlpkcaaDoorSymL
import Derived.Deep.QuietTactic
import Derived.BigQuiet
set_option maxHeartbeats 4000000
set_option maxRecDepth 100000
namespace Go.Proofs.YtpdoponghlpkcaaDoor
open Go.RowKit
open Words
theorem insertion(g N cap a b:Nat)(P L Q:List Fnd)(w:World)(hN:N≤1000000000000000)(hl:(P++(L++Q)).length=N)(hP:P.length=a)(hb:a+L.length=b)(hr:SRow w g (P++(L++Q))):
 Calls Tryd.prog 67 #[.slice (some ⟨g,0,none⟩) N cap,.int .i64 a,.int .i64 b,.func (.func 32) #[] #[]] w fun e w'=>e=.returned (.tuple #[])∧∃M,Asc M∧Akin L M∧M.length=L.length∧Sorted w w' g (P++(M++Q)):=by
 have hbN:b≤N:=by rw[←hl];simp;omega
 cases L with
 |nil=>
  have hab:b=a:=by simpa using hb.symm
  subst hab;have PF:Hid (∃M,Asc M∧Akin ([]:List Fnd) M∧M.length=([]:List Fnd).length∧Sorted w w g (P++(M++Q))):=⟨[],List.Pairwise.nil,Akin.refl _,rfl,Kept2.refl _ _,hr⟩;clear hr hl;go_enter Tryd.func67,Tryd.ntmps67;go_wp2;go_loopw [8] (fun iv wr=>iv=.int .i64 ((b:Int)+1)∧wr=w) (fun _ _=>0)
  case atStart=>exact⟨by first|rfl|go_num,rfl⟩
  case round=>
   obtain⟨rfl,rfl⟩:=hrel;have hnl:¬(b:Int)+1<b:=by omega
   go_wp2
   first|go_end0|refine bodyPost_ret (results_none rfl _ _ _) rfl ?_
   obtain⟨M,h1,h2,h3,h4⟩:=PF.out;exact⟨rfl,M,h1,h2,by simpa using h3,h4⟩
 |cons x0 L0=>
  obtain⟨D,hD⟩:∃D,D=P++((x0::L0)++Q):=⟨_,rfl⟩;rw[←hD]at hl hr;have HL:=hide hl;have HS0:Hid (Sorted w w g D):=⟨Kept2.refl _ _,hr⟩;have HP:=hide hP;obtain⟨nl,hnl⟩:∃n,(x0::L0).length=n:=⟨_,rfl⟩;rw[hnl]at hb;have HNL:=hide hnl;have hn1:1≤nl:=by rw[←hnl];simp
  have ST:Hid (∃S T,D=P++(S++(T++Q))∧Asc S∧Akin (x0::L0) (S++T)∧S.length=(a+1)-a∧S.length+T.length=nl):=⟨[x0],L0,by rw[hD];simp,List.pairwise_singleton _ _,Akin.refl _,by simp,by rw[←hnl];simp;omega⟩
  clear hD hl hP hr hnl;generalize x0::L0=L at HNL ST;obtain⟨i0,hi0⟩:∃i0:Nat,(a:Int)+1=i0:=⟨a+1,by omega⟩
  have hi1:Hid (i0=a+1):=by show _=_;omega
  go_enter Tryd.func67,Tryd.ntmps67;go_wp2;clear hi0;go_loopw [8] (fun iv wr=>∃(i:Nat) (E:List Fnd),iv=.int .i64 i∧a+1≤i∧i≤b∧Hid (E.length=N)∧Hid (∃S T,E=P++(S++(T++Q))∧Asc S∧Akin L (S++T)∧S.length=i-a∧S.length+T.length=nl)∧Hid (Sorted w wr g E)) (fun iv _=>b-(intOf iv).toNat)
  case atStart=>exact⟨i0,D,rfl,by have:=hi1.out;omega,by have:=hi1.out;omega,HL,by rw[hi1.out];exact ST,HS0⟩
  case round=>
   rename World=>wo
   obtain⟨i,E,rfl,r1,r2,HE,HJ,HS⟩:=hrel;clear HS0 ST HL;by_cases hlt:(i:Int)<b
   ·obtain⟨S,T0,e1,e2,e3,e4,e5⟩:=HJ.out
    match T0,e1,e3,e5 with
    | [],_,_,h5=>simp at h5;omega
    |x::T,e1,e3,e5=>
     have J0:Hid (E=P++(S++(x::([]++(T++Q))))∧S++[]=S∧S.length=i-a∧∀v∈([]:List Fnd),x.key<v.key):=⟨by rw[e1];simp,by simp,e4,fun v hv=>by cases hv⟩
     have AS:=hide e2;have AK:=hide e3;have E5:=hide e5;have HSo:=HS;have HEo:=HE;have E4:=hide e4;clear e1 e2 e3 e4 e5 HJ HS HE;go_wp2;go_loopw [9] (fun jv wr=>∃(j:Nat) (F U V:List Fnd),jv=.int .i64 j∧a≤j∧j≤i∧Hid (F.length=N)∧Hid (F=P++(U++(x::(V++(T++Q))))∧U++V=S∧U.length=j-a∧∀v∈V,x.key<v.key)∧Hid (Sorted w wr g F)) (fun jv _=>(intOf jv).toNat)
     case atStart=>exact⟨i,E,S,[],rfl,by omega,Nat.le_refl _,HEo,J0,HSo⟩
     case round=>
      obtain⟨j,G,U,V,rfl,s1,s2,HG,HK,HS⟩:=hrel;clear HSo HEo J0;have OUT:Hid ((∀u∈U,u.key≤x.key)→∃S2 T2,G=P++(S2++(T2++Q))∧Asc S2∧Akin L (S2++T2)∧S2.length=(i+1)-a∧S2.length+T2.length=nl):=by
       intro hu;obtain⟨k1,k2,k3,k4⟩:=HK.out;have hA:=AS.out;rw[←k2]at hA;refine⟨U++x::V,T,by rw[k1];simp,Asc.app hA.left (List.pairwise_cons.2 ⟨fun v hv=>Int.le_of_lt (k4 v hv),hA.right⟩) ?_,?_,?_,?_⟩
       ·intro p hp q hq;rcases List.mem_cons.1 hq with e|e
        ·subst e;exact hu p hp
        ·exact hA.across p hp q e
       ·refine AK.out.trans ?_;rw[←k2];have:=(Akin.refl U).app ((Akin.flip (a:=V) (b:=[x]) (fun p hp q hq=>by rw[List.mem_singleton]at hq;subst hq;have:=k4 p hp;omega)).app (Akin.refl T))
        simpa using this
       ·have h1:=congrArg List.length k2;have h2:=E4.out;simp only[List.length_append,List.length_cons]at h1⊢;omega
       ·have h1:=congrArg List.length k2;have h2:=E5.out;simp only[List.length_append,List.length_cons]at h1 h2⊢;omega
      by_cases hja:(a:Int)<j
      ·obtain⟨k1,k2,k3,k4⟩:=HK.out;obtain⟨U',u,eU⟩:∃U' u,U=U'++[u]:=by
        have hne:U≠ []:=fun e=>by subst e;simp at k3;omega
        exact⟨U.dropLast,U.getLast hne,(List.dropLast_concat_getLast hne).symm⟩
       subst eU;obtain⟨q,hqI⟩:∃q:Nat,(j:Int)-1=q:=⟨j-1,by omega⟩
       have hqw:IntKind.i64.wrap ((j:Int)-1)=q:=by rw[IntKind.wrap_i64];omega
       have hqw2:IntKind.i64.wrap (q:Int)=q:=by rw[IntKind.wrap_i64];omega
       have eE:G=(P++U')++u::([]++x::(V++(T++Q))):=by rw[k1];simp
       have lPU:(P++U').length=q:=by
        rw[List.length_append];rw[List.length_append]at k3;have:=HP.out;simp at k3;omega
       have hq:G[q]?=some u:=by rw[eE,←lPU];simp
       have hp:G[j]?=some x:=by
        rw[eE,List.getElem?_append_right (by omega)]
        have:j-(P++U').length=1:=by omega
        rw[this];rfl
       have hset:(G.set j u).set q x=P++(U'++(x::((u::V)++(T++Q)))):=by
        have:=set_two (P++U') [] (V++(T++Q)) u x;rw[lPU,←eE]at this;rw[List.set_comm _ _ (show j≠q by omega),show j=q+1+([]:List Fnd).length by simp;omega,this]
        simp
       have NL:Hid (((G.set j u).set q x).length=N):=by show _=_;rw[List.length_set,List.length_set];exact HG.out
       have k3':U'.length=q-a:=by simp at k3;omega
       have k2':U'++(u::V)=S:=by rw[←k2];simp
       have j0:(0:Int)≤j:=by omega
       have q0:(0:Int)≤q:=by omega
       have jN:(j:Int)<N:=by omega
       have qN:(q:Int)<N:=by omega
       have HPp:=hide hp;have HQq:=hide hq;have hjq:q+1=j:=by omega
       by_cases hc:x.key<u.key
       ·have NU:Hid ((G.set j u).set q x=P++(U'++(x::((u::V)++(T++Q))))∧U'++(u::V)=S∧U'.length=q-a∧∀v∈(u::V),x.key<v.key):=⟨hset,k2',k3',fun v hv=>by
         rcases List.mem_cons.1 hv with e|e
         ·subst e;exact hc
         ·exact k4 v e⟩
        clear hp hq eE lPU hset k1 k2 k3 k4 HK OUT k2' k3';have KC:Hid (∀W,Sorted w W g G→C8 W g (j*8) x∧C8 W g (q*8) u):=fun W h=>⟨h.2.c8 HPp.out,h.2.c8 HQq.out⟩
        have CC:Hid (Calls Tryd.prog 32 #[F8 x,F8 u] wr.drew fun e w'=>e=.returned (.int .i64 (cmpV x u))∧Sorted w w' g G):=fcmp_row x u HS.out.drew
        obtain⟨r,hrr⟩:∃r,r=cmpV x u:=⟨_,rfl⟩;have hr0:decide (r<0)=true:=by rw[hrr];exact decide_eq_true ((cmpV_lt _ _).2 hc)
        rw[←hrr]at CC;have K0:=hide (KC.out _ HS.out);have K0d:=hide (KC.out _ HS.out.drew);obtain⟨⟨c0,c1,c2,c3,c4,c5,c6,c7⟩,d0,d1,d2,d3,d4,d5,d6,d7⟩:=K0.out;clear hrr;go_wp2;go_region_held3 (fun w'=>C8 w' g (j*8) x∧C8 w' g (q*8) u) (first|go_keep|exact K0d.out|exact K2.out) ((go_at_call 32;(with_reducible refine Calls.mono CC.out ?_);rintro e w2 ⟨rfl,s2⟩;have S2:=hide s2;have K2:=hide (KC.out _ s2);clear s2))
        all_goals
         clear c0 c1 c2 c3 c4 c5 c6 c7 d0 d1 d2 d3 d4 d5 d6 d7 K0 K0d K2 CC KC;obtain⟨hs3,hk3⟩:=S2.out.2.swap HPp.out HQq.out;have NX:Hid (Sorted w (put8 (put8 w2 g (j*8) u) g (q*8) x) g ((G.set j u).set q x)):=⟨S2.out.1.trans hk3,hs3⟩;have x0:w2.cell? ⟨g,j*8,none⟩=some (.int .i64 x.block):=S2.out.2.cell HPp.out 0 rfl;have z0:w2.cell? ⟨g,q*8,none⟩=some (.int .i64 u.block):=S2.out.2.cell HQq.out 0 rfl;have k0:=S2.out.2.frozen (j*8);have l0:=S2.out.2.frozen (q*8);have x1:w2.cell? ⟨g,j*8+1,none⟩=some (.int .i64 x.leaf):=S2.out.2.cell HPp.out 1 rfl;have z1:w2.cell? ⟨g,q*8+1,none⟩=some (.int .i64 u.leaf):=S2.out.2.cell HQq.out 1 rfl;have k1:=S2.out.2.frozen (j*8+1);have l1:=S2.out.2.frozen (q*8+1);have x2:w2.cell? ⟨g,j*8+2,none⟩=some (.int .i64 x.page.kind):=S2.out.2.cell HPp.out 2 rfl;have z2:w2.cell? ⟨g,q*8+2,none⟩=some (.int .i64 u.page.kind):=S2.out.2.cell HQq.out 2 rfl;have k2:=S2.out.2.frozen (j*8+2);have l2:=S2.out.2.frozen (q*8+2);have x3:w2.cell? ⟨g,j*8+3,none⟩=some (.int .i64 x.page.seq):=S2.out.2.cell HPp.out 3 rfl;have z3:w2.cell? ⟨g,q*8+3,none⟩=some (.int .i64 u.page.seq):=S2.out.2.cell HQq.out 3 rfl;have k3:=S2.out.2.frozen (j*8+3);have l3:=S2.out.2.frozen (q*8+3);have x4:w2.cell? ⟨g,j*8+4,none⟩=some (.int .i64 x.page.tx):=S2.out.2.cell HPp.out 4 rfl;have z4:w2.cell? ⟨g,q*8+4,none⟩=some (.int .i64 u.page.tx):=S2.out.2.cell HQq.out 4 rfl;have k4:=S2.out.2.frozen (j*8+4);have l4:=S2.out.2.frozen (q*8+4);have x5:w2.cell? ⟨g,j*8+5,none⟩=some (.int .i64 x.page.part):=S2.out.2.cell HPp.out 5 rfl;have z5:w2.cell? ⟨g,q*8+5,none⟩=some (.int .i64 u.page.part):=S2.out.2.cell HQq.out 5 rfl;have k5:=S2.out.2.frozen (j*8+5);have l5:=S2.out.2.frozen (q*8+5);have x6:w2.cell? ⟨g,j*8+6,none⟩=some (.int .i64 x.page.count):=S2.out.2.cell HPp.out 6 rfl;have z6:w2.cell? ⟨g,q*8+6,none⟩=some (.int .i64 u.page.count):=S2.out.2.cell HQq.out 6 rfl;have k6:=S2.out.2.frozen (j*8+6);have l6:=S2.out.2.frozen (q*8+6);have x7:w2.cell? ⟨g,j*8+7,none⟩=some (.string x.page.text):=S2.out.2.cell HPp.out 7 rfl;have z7:w2.cell? ⟨g,q*8+7,none⟩=some (.string u.page.text):=S2.out.2.cell HQq.out 7 rfl;have k7:=S2.out.2.frozen (j*8+7);have l7:=S2.out.2.frozen (q*8+7);have y0:=(put8_far w2 g (j*8) (q*8) u (by omega)).trans z0
         have y1:=(put8_far w2 g (j*8) (q*8+1) u (by omega)).trans z1
         have y2:=(put8_far w2 g (j*8) (q*8+2) u (by omega)).trans z2
         have y3:=(put8_far w2 g (j*8) (q*8+3) u (by omega)).trans z3
         have y4:=(put8_far w2 g (j*8) (q*8+4) u (by omega)).trans z4
         have y5:=(put8_far w2 g (j*8) (q*8+5) u (by omega)).trans z5
         have y6:=(put8_far w2 g (j*8) (q*8+6) u (by omega)).trans z6
         have y7:=(put8_far w2 g (j*8) (q*8+7) u (by omega)).trans z7
         unfold put8 at y0 y1 y2 y3 y4 y5 y6 y7;clear hs3 hk3;go_wp2;go_region;have ND:=hide NX.out.drew;unfold put8 at ND;go_wp2;go_roundw
         case rel=>exact⟨q,_,U',u::V,by first|rfl|go_num,by omega,by omega,NL,NU,ND⟩
         case measure=>simp[intOf];omega
       ·have PO:=hide (OUT.out (fun p hp2=>by
         have hA:=AS.out;rw[←k2]at hA;have h1:=hA.left;rcases List.mem_append.1 hp2 with e|e
         ·have:=h1.across p e u (by simp);omega
         ·rw[List.mem_singleton]at e;subst e;omega))
        clear hp hq eE lPU hset k1 k2 k3 k4 HK OUT k2' k3' NL;have KC:Hid (∀W,Sorted w W g G→C8 W g (j*8) x∧C8 W g (q*8) u):=fun W h=>⟨h.2.c8 HPp.out,h.2.c8 HQq.out⟩
        have CC:Hid (Calls Tryd.prog 32 #[F8 x,F8 u] wr.drew fun e w'=>e=.returned (.int .i64 (cmpV x u))∧Sorted w w' g G):=fcmp_row x u HS.out.drew
        obtain⟨r,hrr⟩:∃r,r=cmpV x u:=⟨_,rfl⟩;have hr0:decide (r<0)=false:=by rw[hrr];exact decide_eq_false (fun e=>hc ((cmpV_lt _ _).1 e))
        rw[←hrr]at CC;have K0:=hide (KC.out _ HS.out);have K0d:=hide (KC.out _ HS.out.drew);obtain⟨⟨c0,c1,c2,c3,c4,c5,c6,c7⟩,d0,d1,d2,d3,d4,d5,d6,d7⟩:=K0.out;clear hrr;go_wp2;go_region_held3 (fun w'=>C8 w' g (j*8) x∧C8 w' g (q*8) u) (first|go_keep|exact K0d.out|exact K2.out) ((go_at_call 32;(with_reducible refine Calls.mono CC.out ?_);rintro e w2 ⟨rfl,s2⟩;have S2:=hide s2;have K2:=hide (KC.out _ s2);clear s2))
        all_goals
         go_wp2;go_roundw
         case rel=>exact⟨i+1,G,by go_num,by omega,by omega,HG,PO,S2⟩
         case measure=>simp[intOf];omega
      ·have hU:U=[]:=by
        obtain⟨k1,k2,k3,k4⟩:=HK.out;exact List.eq_nil_of_length_eq_zero (by omega)
       have PO:=hide (OUT.out (fun p hp2=>by rw[hU]at hp2;cases hp2))
       have hjd:decide ((a:Int)<j)=false:=decide_eq_false hja;have hjd2:decide (a<j)=false:=decide_eq_false (by omega)
       clear OUT HK hU;go_wp2;go_quiet (fail);go_wp2;go_roundw
       case rel=>exact⟨i+1,G,by go_num,by omega,by omega,HG,PO,HS.out.below (below_drewN (Below.refl _ _) _)⟩
       case measure=>simp[intOf];omega
   ·obtain⟨S,T,e1,e2,e3,e4,e5⟩:=HJ.out;have hT:T=[]:=List.eq_nil_of_length_eq_zero (by omega)
    subst hT;have PF:Hid (∃M,Asc M∧Akin L M∧M.length=L.length∧Sorted w wo g (P++(M++Q))):=⟨S,e2,by simpa using e3,by have:=HNL.out;simp at e5;omega,by have h1:=HS.out;rw[e1]at h1;simpa using h1⟩
    clear e1 e2 e3 e4 e5 HJ HS;go_wp2
    first|go_end0|refine bodyPost_ret (results_none rfl _ _ _) rfl ?_
    exact⟨rfl,PF.out⟩
end Go.Proofs.YtpdoponghlpkcaaDoor
