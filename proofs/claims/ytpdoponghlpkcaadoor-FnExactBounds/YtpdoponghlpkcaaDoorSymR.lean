/-
  SymR
-/
import Derived.Test.YtpdoponghlpkcaaDoorSymL
set_option maxHeartbeats 2000000
set_option maxRecDepth 100000
namespace Go.Proofs.YtpdoponghlpkcaaDoor
open Go.RowKit
open Words
theorem sym_right(g N cap a m b:Nat)(P L Q:List Fnd)(x:Fnd)(w:World)(hN:N≤1000000000000000)(hl:(P++(L++(x::Q))).length=N)(hP:P.length=a)(hm:a+L.length=m)(hb:m+1=b)(hne:L.length≠1)(hL:Asc L)(hr:SRow w g (P++(L++(x::Q)))):
 Calls Tryd.prog 68 #[.slice (some ⟨g,0,none⟩) N cap,.int .i64 a,.int .i64 m,.int .i64 b,ordV] w fun e w'=>e=.returned (.tuple #[])∧∃M,Asc M∧Akin (L++[x]) M∧M.length=L.length+1∧Sorted w w' g (P++(M++Q)):=by
 have hbN:b≤N:=by rw[←hl];simp;omega
 obtain⟨D,hD⟩:∃D,D=P++(L++(x::Q)):=⟨_,rfl⟩;rw[←hD]at hl hr;have HD:=hide hD;have HL:=hide hl;have hXm:D[m]?=some x:=by
  rw[hD,List.getElem?_append_right (by omega),List.getElem?_append_right (by omega)]
  have:m-P.length-L.length=0:=by omega
  rw[this];rfl
 have hLt:∀t y,L[t]?=some y→D[a+t]?=some y:=by
  intro t y hy;have ht:=(List.getElem?_eq_some_iff.1 hy).1;rw[hD,List.getElem?_append_right (by omega)]
  have:a+t-P.length=t:=by omega
  rw[this,List.getElem?_append_left ht];exact hy
 have HX:=hide hXm;have HLT:=hide hLt;have HAS:=hide hL;have HS0:Hid (Sorted w w g D):=⟨Kept2.refl _ _,hr⟩;have HP:=hide hP;obtain⟨n,hn⟩:∃n,L.length=n:=⟨_,rfl⟩;rw[hn]at hm hne;have HNN:=hide hn;have hma:((m:Int)-a==1)=false:=by rw[beq_eq_false_iff_ne];omega
 have hmb:(b:Int)-m=1:=by omega
 have ham:a≤m:=by omega
 have m0:(0:Int)≤m:=by omega
 have mN:(m:Int)<N:=by omega
 clear hD hl hP hr hXm hLt hL hn;unfold ordV;go_enter Tryd.func68,Tryd.ntmps68;go_wp2;clear hma hmb;go_loopw [14,15] (fun iv jv wr=>∃i j:Nat,iv=.int .i64 i∧jv=.int .i64 j∧a≤i∧i≤j∧j≤m∧Hid (∀t y,L[t]?=some y→(a+t<i→y.key≤x.key)∧(j≤a+t→x.key<y.key))∧Hid (Sorted w wr g D)) (fun iv jv _=>(intOf jv).toNat-(intOf iv).toNat)
 case atStart=>exact⟨a,m,rfl,rfl,Nat.le_refl _,ham,Nat.le_refl _,(fun t y hy=>⟨fun h=>by omega,fun h=>by have:=(List.getElem?_eq_some_iff.1 hy).1;have:=HNN.out;omega⟩),HS0⟩
 case round=>
  obtain⟨i,j,rfl,rfl,r1,r2,r3,HQ,HS⟩:=hrel;clear HS0;by_cases hlt:(i:Int)<j
  ·obtain⟨h,hhI⟩:∃h:Nat,((i:Int)+j)/2=h:=⟨(i+j)/2,by omega⟩
   have hh1:i≤h∧h<j:=by omega
   obtain⟨y,hy⟩:∃y,L[h-a]?=some y:=by
    have hl:h-a<L.length:=by have:=HNN.out;omega
    exact⟨_,List.getElem?_eq_getElem hl⟩
   have hY:D[h]?=some y:=by have:=HLT.out _ _ hy;rwa [show a+(h-a)=h by omega]at this
   have HY:=hide hy;have HDY:=hide hY;have h0:(0:Int)≤h:=by omega
   have hN2:(h:Int)<N:=by omega
   clear hy hY;by_cases hc:x.key<y.key
   ·have NQ:Hid (∀t z,L[t]?=some z→(a+t<i→z.key≤x.key)∧(h≤a+t→x.key<z.key)):=fun t z hz=>⟨(HQ.out t z hz).1,fun ht=>by have:=HAS.out.le HY.out hz (by omega);omega⟩
    have KC:Hid (∀W,Sorted w W g D→C8 W g (m*8) x∧C8 W g (h*8) y):=fun W h=>⟨h.2.c8 HX.out,h.2.c8 HDY.out⟩
    have CC:Hid (Calls Tryd.prog 32 #[F8 x,F8 y] wr.drew fun e w'=>e=.returned (.int .i64 (cmpV x y))∧Sorted w w' g D):=fcmp_row x y HS.out.drew
    obtain⟨r,hrr⟩:∃r,r=cmpV x y:=⟨_,rfl⟩;have hr0:decide (r<0)=true:=by rw[hrr];exact decide_eq_true ((cmpV_lt _ _).2 hc)
    rw[←hrr]at CC;have K0:=hide (KC.out _ HS.out);have K0d:=hide (KC.out _ HS.out.drew);obtain⟨⟨c0,c1,c2,c3,c4,c5,c6,c7⟩,d0,d1,d2,d3,d4,d5,d6,d7⟩:=K0.out;clear hrr;go_wp2;go_region_held3 (fun w'=>C8 w' g (m*8) x∧C8 w' g (h*8) y) (first|go_keep|exact K0d.out|exact K2.out) ((go_at_call 32;(with_reducible refine Calls.mono CC.out ?_);rintro e w2 ⟨rfl,s2⟩;have S2:=hide s2;have K2:=hide (KC.out _ s2);clear s2))
    all_goals
     go_wp2;go_roundw
     case rel=>exact⟨i,h,rfl,rfl,r1,by omega,by omega,NQ,S2⟩
     case measure=>simp[intOf];omega
   ·have NQ:Hid (∀t z,L[t]?=some z→(a+t<h+1→z.key≤x.key)∧(j≤a+t→x.key<z.key)):=fun t z hz=>⟨fun ht=>by have:=HAS.out.le hz HY.out (by omega);omega,(HQ.out t z hz).2⟩
    have KC:Hid (∀W,Sorted w W g D→C8 W g (m*8) x∧C8 W g (h*8) y):=fun W h=>⟨h.2.c8 HX.out,h.2.c8 HDY.out⟩
    have CC:Hid (Calls Tryd.prog 32 #[F8 x,F8 y] wr.drew fun e w'=>e=.returned (.int .i64 (cmpV x y))∧Sorted w w' g D):=fcmp_row x y HS.out.drew
    obtain⟨r,hrr⟩:∃r,r=cmpV x y:=⟨_,rfl⟩;have hr0:decide (r<0)=false:=by rw[hrr];exact decide_eq_false (fun e=>hc ((cmpV_lt _ _).1 e))
    rw[←hrr]at CC;have K0:=hide (KC.out _ HS.out);have K0d:=hide (KC.out _ HS.out.drew);obtain⟨⟨c0,c1,c2,c3,c4,c5,c6,c7⟩,d0,d1,d2,d3,d4,d5,d6,d7⟩:=K0.out;clear hrr;go_wp2;go_region_held3 (fun w'=>C8 w' g (m*8) x∧C8 w' g (h*8) y) (first|go_keep|exact K0d.out|exact K2.out) ((go_at_call 32;(with_reducible refine Calls.mono CC.out ?_);rintro e w2 ⟨rfl,s2⟩;have S2:=hide s2;have K2:=hide (KC.out _ s2);clear s2))
    all_goals
     go_wp2;go_roundw
     case rel=>exact⟨h+1,j,by go_num,rfl,by omega,by omega,r3,NQ,S2⟩
     case measure=>simp[intOf];omega
  ·have hij:i=j:=by omega
   subst hij;obtain⟨L1,L2,eL,l1⟩:∃L1 L2,L=L1++L2∧L1.length=i-a:=⟨L.take (i-a),L.drop (i-a),(List.take_append_drop _ _).symm,by rw[List.length_take];have:=HNN.out;omega⟩
   have l2:L2.length=m-i:=by have h1:=congrArg List.length eL;rw[List.length_append]at h1;have:=HNN.out;omega
   have hlow:∀y∈L1,y.key≤x.key:=by
    intro y hy;obtain⟨t,ht⟩:=List.getElem?_of_mem hy;have ht2:=(List.getElem?_eq_some_iff.1 ht).1;exact(HQ.out t y (by rw[eL,List.getElem?_append_left ht2];exact ht)).1 (by omega)
   have hhigh:∀y∈L2,x.key<y.key:=by
    intro y hy;obtain⟨t,ht⟩:=List.getElem?_of_mem hy;exact(HQ.out (L1.length+t) y (by rw[eL,List.getElem?_append_right (by omega)];simpa using ht)).2 (by omega)
   have MA:Hid (Asc (L1++x::L2)):=by
    have h1:=HAS.out;rw[eL]at h1;refine Asc.app h1.left (List.pairwise_cons.2 ⟨fun y hy=>Int.le_of_lt (hhigh y hy),h1.right⟩) ?_
    intro u hu v hv;rcases List.mem_cons.1 hv with e|e
    ·subst e;exact hlow u hu
    ·exact h1.across u hu v e
   have MK:Hid (Akin (L++[x]) (L1++x::L2)):=by
    show Akin _ _;rw[eL];have:=(Akin.refl L1).app (Akin.flip (a:=L2) (b:=[x]) (fun u hu v hv=>by rw[List.mem_singleton]at hv;subst hv;have:=hhigh u hu;omega))
    simpa using this
   have ML:Hid ((L1++x::L2).length=L.length+1):=by show _=_;rw[eL];simp;omega
   have E0:Hid (D=P++(L1++(L2++(x::([]++Q))))):=by show _=_;rw[HD.out,eL];simp
   have L1H:=hide l1;have L2H:=hide l2;have S0:=HS;clear hlow hhigh eL HQ HLT HX HAS l1 l2;go_wp2;go_loopw [17] (fun kv wr=>∃(k:Nat) (E U V:List Fnd),kv=.int .i64 k∧i≤k∧k≤m∧Hid (U.length=k-i∧U++V=L2∧E=P++(L1++(U++(x::(V++Q)))))∧Hid (E.length=N)∧Hid (Sorted w wr g E)) (fun kv _=>(intOf kv).toNat)
   case atStart=>exact⟨m,D,L2,[],rfl,r3,Nat.le_refl _,⟨L2H.out,by simp,E0.out⟩,HL,S0⟩
   case round=>
    obtain⟨k,E,U,V,rfl,r4,r5,HU,HEL,HS⟩:=hrel;obtain⟨u1,u2,u3⟩:=HU.out;by_cases hk:(i:Int)<k
    ·obtain⟨U',u,eU⟩:∃U' u,U=U'++[u]:=by
      have hne:U≠ []:=fun e=>by subst e;simp at u1;omega
      exact⟨U.dropLast,U.getLast hne,(List.dropLast_concat_getLast hne).symm⟩
     subst eU;obtain⟨q,hqI⟩:∃q:Nat,(k:Int)-1=q:=⟨k-1,by omega⟩
     have hqw:IntKind.i64.wrap ((k:Int)-1)=q:=by rw[IntKind.wrap_i64];omega
     have eE:E=(P++L1++U')++u::([]++x::(V++Q)):=by rw[u3];simp
     have lPU:(P++L1++U').length=q:=by
      rw[List.length_append,List.length_append];rw[List.length_append]at u1;have:=HP.out;have:=L1H.out;simp at u1;omega
     have hq:E[q]?=some u:=by rw[eE,←lPU];simp
     have hp:E[k]?=some x:=by
      rw[eE,List.getElem?_append_right (by omega)]
      have:k-(P++L1++U').length=1:=by omega
      rw[this];rfl
     have hset:(E.set k u).set q x=P++(L1++(U'++(x::((u::V)++Q)))):=by
      have:=set_two (P++L1++U') [] (V++Q) u x;rw[lPU,←eE]at this;rw[List.set_comm _ _ (show k≠q by omega),show k=q+1+([]:List Fnd).length by simp;omega,this]
      simp
     have NU:Hid (U'.length=q-i∧U'++(u::V)=L2∧(E.set k u).set q x=P++(L1++(U'++(x::((u::V)++Q))))):=⟨by simp at u1;omega,by rw[←u2];simp,hset⟩
     have NL:Hid (((E.set k u).set q x).length=N):=by show _=_;rw[List.length_set,List.length_set];exact HEL.out
     have k0:(0:Int)≤k:=by omega
     have q0:(0:Int)≤q:=by omega
     have kN:(k:Int)<N:=by omega
     have qN:(q:Int)<N:=by omega
     have HPp:=hide hp;have HQq:=hide hq;have hkq:q+1=k:=by omega
     clear hp hq eE lPU hset u1 u2 u3 HU;obtain⟨hs3,hk3⟩:=HS.out.2.swap HPp.out HQq.out;have NX:Hid (Sorted w (put8 (put8 wr g (k*8) u) g (q*8) x) g ((E.set k u).set q x)):=⟨HS.out.1.trans hk3,hs3⟩;have x0:wr.cell? ⟨g,k*8,none⟩=some (.int .i64 x.block):=HS.out.2.cell HPp.out 0 rfl;have z0:wr.cell? ⟨g,q*8,none⟩=some (.int .i64 u.block):=HS.out.2.cell HQq.out 0 rfl;have k0:=HS.out.2.frozen (k*8);have l0:=HS.out.2.frozen (q*8);have x1:wr.cell? ⟨g,k*8+1,none⟩=some (.int .i64 x.leaf):=HS.out.2.cell HPp.out 1 rfl;have z1:wr.cell? ⟨g,q*8+1,none⟩=some (.int .i64 u.leaf):=HS.out.2.cell HQq.out 1 rfl;have k1:=HS.out.2.frozen (k*8+1);have l1:=HS.out.2.frozen (q*8+1);have x2:wr.cell? ⟨g,k*8+2,none⟩=some (.int .i64 x.page.kind):=HS.out.2.cell HPp.out 2 rfl;have z2:wr.cell? ⟨g,q*8+2,none⟩=some (.int .i64 u.page.kind):=HS.out.2.cell HQq.out 2 rfl;have k2:=HS.out.2.frozen (k*8+2);have l2:=HS.out.2.frozen (q*8+2);have x3:wr.cell? ⟨g,k*8+3,none⟩=some (.int .i64 x.page.seq):=HS.out.2.cell HPp.out 3 rfl;have z3:wr.cell? ⟨g,q*8+3,none⟩=some (.int .i64 u.page.seq):=HS.out.2.cell HQq.out 3 rfl;have k3:=HS.out.2.frozen (k*8+3);have l3:=HS.out.2.frozen (q*8+3);have x4:wr.cell? ⟨g,k*8+4,none⟩=some (.int .i64 x.page.tx):=HS.out.2.cell HPp.out 4 rfl;have z4:wr.cell? ⟨g,q*8+4,none⟩=some (.int .i64 u.page.tx):=HS.out.2.cell HQq.out 4 rfl;have k4:=HS.out.2.frozen (k*8+4);have l4:=HS.out.2.frozen (q*8+4);have x5:wr.cell? ⟨g,k*8+5,none⟩=some (.int .i64 x.page.part):=HS.out.2.cell HPp.out 5 rfl;have z5:wr.cell? ⟨g,q*8+5,none⟩=some (.int .i64 u.page.part):=HS.out.2.cell HQq.out 5 rfl;have k5:=HS.out.2.frozen (k*8+5);have l5:=HS.out.2.frozen (q*8+5);have x6:wr.cell? ⟨g,k*8+6,none⟩=some (.int .i64 x.page.count):=HS.out.2.cell HPp.out 6 rfl;have z6:wr.cell? ⟨g,q*8+6,none⟩=some (.int .i64 u.page.count):=HS.out.2.cell HQq.out 6 rfl;have k6:=HS.out.2.frozen (k*8+6);have l6:=HS.out.2.frozen (q*8+6);have x7:wr.cell? ⟨g,k*8+7,none⟩=some (.string x.page.text):=HS.out.2.cell HPp.out 7 rfl;have z7:wr.cell? ⟨g,q*8+7,none⟩=some (.string u.page.text):=HS.out.2.cell HQq.out 7 rfl;have k7:=HS.out.2.frozen (k*8+7);have l7:=HS.out.2.frozen (q*8+7);have y0:=(put8_far wr g (k*8) (q*8) u (by omega)).trans z0
     have y1:=(put8_far wr g (k*8) (q*8+1) u (by omega)).trans z1
     have y2:=(put8_far wr g (k*8) (q*8+2) u (by omega)).trans z2
     have y3:=(put8_far wr g (k*8) (q*8+3) u (by omega)).trans z3
     have y4:=(put8_far wr g (k*8) (q*8+4) u (by omega)).trans z4
     have y5:=(put8_far wr g (k*8) (q*8+5) u (by omega)).trans z5
     have y6:=(put8_far wr g (k*8) (q*8+6) u (by omega)).trans z6
     have y7:=(put8_far wr g (k*8) (q*8+7) u (by omega)).trans z7
     unfold put8 at y0 y1 y2 y3 y4 y5 y6 y7;clear hs3 hk3;go_wp2;go_region;have ND:=hide NX.out.drew;unfold put8 at ND;go_wp2;go_roundw
     case rel=>exact⟨q,_,U',u::V,by first|rfl|go_num,by omega,by omega,NU,NL,ND⟩
     case measure=>simp[intOf];omega
    ·have hU:U=[]:=List.eq_nil_of_length_eq_zero (by omega)
     subst hU;have hE:E=P++((L1++x::L2)++Q):=by rw[u3,←u2];simp
     subst hE;clear u1 u2 u3 HU;go_wp2
     first|go_end0|refine bodyPost_ret (results_none rfl _ _ _) rfl ?_
     exact⟨rfl,L1++x::L2,MA.out,MK.out,ML.out,HS.out⟩
end Go.Proofs.YtpdoponghlpkcaaDoor
