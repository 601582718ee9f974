/-
  SymL; SymR; MMath
-/
import Derived.Test.YtiicghepilbgfaaGreatDoorPk21
import Derived.Deep.RegionHeld3
import Derived.Test.YtiicghepilbgfaaGreatDoorPk7
set_option maxHeartbeats 2000000
set_option maxRecDepth 100000
namespace Go.Proofs.YtiicghepilbgfaaGreatDoor
open Go.RowKit
open Words
abbrev C8(w:World)(g o:Nat)(x:Fnd):Prop:=w.cell? ⟨g,o,none⟩=some (.int .i64 x.block)∧w.cell? ⟨g,o+1,none⟩=some (.int .i64 x.leaf)∧w.cell? ⟨g,o+2,none⟩=some (.int .i64 x.page.kind)∧w.cell? ⟨g,o+3,none⟩=some (.int .i64 x.page.seq)∧w.cell? ⟨g,o+4,none⟩=some (.int .i64 x.page.tx)∧w.cell? ⟨g,o+5,none⟩=some (.int .i64 x.page.part)∧w.cell? ⟨g,o+6,none⟩=some (.int .i64 x.page.count)∧w.cell? ⟨g,o+7,none⟩=some (.string x.page.text)
abbrev F8(x:Fnd):Value:=.agg #[.int .i64 x.block,.int .i64 x.leaf,.int .i64 x.page.kind,.int .i64 x.page.seq,.int .i64 x.page.tx,.int .i64 x.page.part,.int .i64 x.page.count,.string x.page.text]
theorem SRow.c8{w:World}{g:Nat}{D:List Fnd}(h:SRow w g D){i:Nat}{x:Fnd}(hi:D[i]?=some x):C8 w g (i*8) x:=⟨h.cell hi 0 rfl,h.cell hi 1 rfl,h.cell hi 2 rfl,h.cell hi 3 rfl,h.cell hi 4 rfl,h.cell hi 5 rfl,h.cell hi 6 rfl,h.cell hi 7 rfl⟩
theorem fcmp_row{w wr:World}{g:Nat}{D:List Fnd}(x y:Fnd)(h:Sorted w wr g D):Calls Tryz.prog 112 #[fdVal x,fdVal y] wr fun e w'=>e=.returned (.int .i64 (cmpV x y))∧Sorted w w' g D:=
 (fcmp x y wr).mono fun _ _ ⟨he,hb⟩=>⟨he,h.below hb⟩
theorem sym_left(g N cap a m b:Nat)(P R Q:List Fnd)(x:Fnd)(w:World)(hN:N≤1000000000000000)(hl:(P++(x::(R++Q))).length=N)(hP:P.length=a)(hm:a+1=m)(hb:m+R.length=b)(hR:Asc R)(hr:SRow w g (P++(x::(R++Q)))):
 Calls Tryz.prog 150 #[.slice (some ⟨g,0,none⟩) N cap,.int .i64 a,.int .i64 m,.int .i64 b,ordV] w fun e w'=>e=.returned (.tuple #[])∧∃M,Asc M∧Akin (x::R) M∧M.length=R.length+1∧Sorted w w' g (P++(M++Q)):=by
 have hbN:b≤N:=by rw[←hl];simp;omega
 obtain⟨D,hD⟩:∃D,D=P++(x::(R++Q)):=⟨_,rfl⟩;rw[←hD]at hl hr;have HD:=hide hD;have HL:=hide hl;have hXa:D[a]?=some x:=by rw[hD,←hP];simp
 have hRt:∀t y,R[t]?=some y→D[m+t]?=some y:=by
  intro t y hy;have ht:=(List.getElem?_eq_some_iff.1 hy).1;rw[hD,List.getElem?_append_right (by omega)]
  have:m+t-P.length=t+1:=by omega
  rw[this,List.getElem?_cons_succ,List.getElem?_append_left ht];exact hy
 have HX:=hide hXa;have HRT:=hide hRt;have HAS:=hide hR;have HS0:Hid (Sorted w w g D):=⟨Kept2.refl _ _,hr⟩;have HP:=hide hP;have hma:(m:Int)-a=1:=by omega
 obtain⟨n,hn⟩:∃n,R.length=n:=⟨_,rfl⟩;rw[hn]at hb;have HNN:=hide hn;have hmb:m≤b:=by omega
 have a0:(0:Int)≤a:=by omega
 have aN:(a:Int)<N:=by omega
 clear hD hl hP hr hXa hRt hR hn;unfold ordV;go_enter Tryz.func150,Tryz.ntmps150;go_wp2;clear hma;go_loopw [10,11] (fun iv jv wr=>∃i j:Nat,iv=.int .i64 i∧jv=.int .i64 j∧m≤i∧i≤j∧j≤b∧Hid (∀t y,R[t]?=some y→(m+t<i→y.key<x.key)∧(j≤m+t→x.key≤y.key))∧Hid (Sorted w wr g D)) (fun iv jv _=>(intOf jv).toNat-(intOf iv).toNat)
 case atStart=>exact⟨m,b,rfl,rfl,Nat.le_refl _,hmb,Nat.le_refl _,(fun t y hy=>⟨fun h=>by omega,fun h=>by have:=(List.getElem?_eq_some_iff.1 hy).1;have:=HNN.out;omega⟩),HS0⟩
 case round=>
  obtain⟨i,j,rfl,rfl,r1,r2,r3,HQ,HS⟩:=hrel;clear HS0;by_cases hlt:(i:Int)<j
  ·obtain⟨h,hhI⟩:∃h:Nat,((i:Int)+j)/2=h:=⟨(i+j)/2,by omega⟩
   have hh1:i≤h∧h<j:=by omega
   obtain⟨y,hy⟩:∃y,R[h-m]?=some y:=by
    have hl:h-m<R.length:=by have:=HNN.out;omega
    exact⟨_,List.getElem?_eq_getElem hl⟩
   have hY:D[h]?=some y:=by have:=HRT.out _ _ hy;rwa [show m+(h-m)=h by omega]at this
   have HY:=hide hy;have HDY:=hide hY;have h0:(0:Int)≤h:=by omega
   have hN2:(h:Int)<N:=by omega
   clear hy hY;by_cases hc:y.key<x.key
   ·have NQ:Hid (∀t z,R[t]?=some z→(m+t<h+1→z.key<x.key)∧(j≤m+t→x.key≤z.key)):=fun t z hz=>⟨fun ht=>by have:=HAS.out.le hz HY.out (by omega);omega,(HQ.out t z hz).2⟩
    have KC:Hid (∀W,Sorted w W g D→C8 W g (h*8) y∧C8 W g (a*8) x):=fun W h=>⟨h.2.c8 HDY.out,h.2.c8 HX.out⟩
    have CC:Hid (Calls Tryz.prog 112 #[F8 y,F8 x] wr.drew fun e w'=>e=.returned (.int .i64 (cmpV y x))∧Sorted w w' g D):=fcmp_row y x HS.out.drew
    obtain⟨r,hrr⟩:∃r,r=cmpV y x:=⟨_,rfl⟩;have hr0:decide (r<0)=true:=by rw[hrr];exact decide_eq_true ((cmpV_lt _ _).2 hc)
    rw[←hrr]at CC;have K0:=hide (KC.out _ HS.out);have K0d:=hide (KC.out _ HS.out.drew);obtain⟨⟨c0,c1,c2,c3,c4,c5,c6,c7⟩,d0,d1,d2,d3,d4,d5,d6,d7⟩:=K0.out;clear hrr;go_wp2;go_region_held3 (fun w'=>C8 w' g (h*8) y∧C8 w' g (a*8) x) (first|go_keep|exact K0d.out|exact K2.out) ((go_at_call 112;(with_reducible refine Calls.mono CC.out ?_);rintro e w2 ⟨rfl,s2⟩;have S2:=hide s2;have K2:=hide (KC.out _ s2);clear s2))
    all_goals
     go_wp2;go_roundw
     case rel=>exact⟨h+1,j,by go_num,rfl,by omega,by omega,r3,NQ,S2⟩
     case measure=>simp[intOf];omega
   ·have NQ:Hid (∀t z,R[t]?=some z→(m+t<i→z.key<x.key)∧(h≤m+t→x.key≤z.key)):=fun t z hz=>⟨(HQ.out t z hz).1,fun ht=>by have:=HAS.out.le HY.out hz (by omega);omega⟩
    have KC:Hid (∀W,Sorted w W g D→C8 W g (h*8) y∧C8 W g (a*8) x):=fun W h=>⟨h.2.c8 HDY.out,h.2.c8 HX.out⟩
    have CC:Hid (Calls Tryz.prog 112 #[F8 y,F8 x] wr.drew fun e w'=>e=.returned (.int .i64 (cmpV y x))∧Sorted w w' g D):=fcmp_row y x HS.out.drew
    obtain⟨r,hrr⟩:∃r,r=cmpV y x:=⟨_,rfl⟩;have hr0:decide (r<0)=false:=by rw[hrr];exact decide_eq_false (fun e=>hc ((cmpV_lt _ _).1 e))
    rw[←hrr]at CC;have K0:=hide (KC.out _ HS.out);have K0d:=hide (KC.out _ HS.out.drew);obtain⟨⟨c0,c1,c2,c3,c4,c5,c6,c7⟩,d0,d1,d2,d3,d4,d5,d6,d7⟩:=K0.out;clear hrr;go_wp2;go_region_held3 (fun w'=>C8 w' g (h*8) y∧C8 w' g (a*8) x) (first|go_keep|exact K0d.out|exact K2.out) ((go_at_call 112;(with_reducible refine Calls.mono CC.out ?_);rintro e w2 ⟨rfl,s2⟩;have S2:=hide s2;have K2:=hide (KC.out _ s2);clear s2))
    all_goals
     go_wp2;go_roundw
     case rel=>exact⟨i,h,rfl,rfl,r1,by omega,by omega,NQ,S2⟩
     case measure=>simp[intOf];omega
  ·have hij:i=j:=by omega
   subst hij;obtain⟨il,hil⟩:∃il:Nat,(i:Int)-1=il:=⟨i-1,by omega⟩
   obtain⟨R1,R2,eR,l1⟩:∃R1 R2,R=R1++R2∧R1.length=i-m:=⟨R.take (i-m),R.drop (i-m),(List.take_append_drop _ _).symm,by rw[List.length_take];have:=HNN.out;omega⟩
   have hlow:∀y∈R1,y.key<x.key:=by
    intro y hy;obtain⟨t,ht⟩:=List.getElem?_of_mem hy;have ht2:=(List.getElem?_eq_some_iff.1 ht).1;exact(HQ.out t y (by rw[eR,List.getElem?_append_left ht2];exact ht)).1 (by omega)
   have hhigh:∀y∈R2,x.key≤y.key:=by
    intro y hy;obtain⟨t,ht⟩:=List.getElem?_of_mem hy;exact(HQ.out (R1.length+t) y (by rw[eR,List.getElem?_append_right (by omega)];simpa using ht)).2 (by omega)
   have MA:Hid (Asc (R1++x::R2)):=by
    have h1:=HAS.out;rw[eR]at h1;refine Asc.app h1.left (List.pairwise_cons.2 ⟨hhigh,h1.right⟩) ?_;intro u hu v hv;rcases List.mem_cons.1 hv with e|e
    ·subst e;exact Int.le_of_lt (hlow u hu)
    ·exact h1.across u hu v e
   have MK:Hid (Akin (x::R) (R1++x::R2)):=by
    show Akin _ _;rw[eR];have:=(Akin.flip (a:=[x]) (b:=R1) (fun u hu v hv=>by rw[List.mem_singleton]at hu;subst hu;have:=hlow v hv;omega)).app (Akin.refl R2)
    simpa using this
   have ML:Hid ((R1++x::R2).length=R.length+1):=by show _=_;rw[eR];simp;omega
   have E0:Hid (D=P++([]++(x::(R1++(R2++Q))))):=by show _=_;rw[HD.out,eR];simp
   have S0:=HS;clear hlow hhigh eR HQ HRT HX HAS;go_wp2;go_loopw [13] (fun kv wr=>∃(k:Nat) (E U V:List Fnd),kv=.int .i64 k∧a≤k∧k≤il∧Hid (U.length=k-a∧U++V=R1∧E=P++(U++(x::(V++(R2++Q)))))∧Hid (E.length=N)∧Hid (Sorted w wr g E)) (fun kv _=>il-(intOf kv).toNat)
   case atStart=>exact⟨a,D,[],R1,rfl,Nat.le_refl _,by omega,⟨by simp,rfl,E0.out⟩,HL,S0⟩
   case round=>
    obtain⟨k,E,U,V,rfl,r4,r5,HU,HEL,HS⟩:=hrel;obtain⟨u1,u2,u3⟩:=HU.out;by_cases hk:(k:Int)<il
    ·match V,u2,u3 with
     | [],u2,_=>simp at u2;subst u2;omega
     |v::V',u2,u3=>
      obtain⟨q,hqI⟩:∃q:Nat,(k:Int)+1=q:=⟨k+1,by omega⟩
      have hqw:IntKind.i64.wrap ((k:Int)+1)=q:=by rw[IntKind.wrap_i64];omega
      have eE:E=(P++U)++x::([]++v::(V'++(R2++Q))):=by rw[u3];simp
      have lPU:(P++U).length=k:=by rw[List.length_append];have:=HP.out;omega
      have hp:E[k]?=some x:=by rw[eE,←lPU];simp
      have hq:E[q]?=some v:=by
       rw[eE,List.getElem?_append_right (by omega)]
       have:q-(P++U).length=1:=by omega
       rw[this];rfl
      have hset:(E.set k v).set q x=P++((U++[v])++(x::(V'++(R2++Q)))):=by
       have:=set_two (P++U) [] (V'++(R2++Q)) x v;rw[lPU,←eE]at this;rw[show q=k+1+([]:List Fnd).length by simp;omega,this]
       simp
      have NU:Hid ((U++[v]).length=(k+1)-a∧(U++[v])++V'=R1∧(E.set k v).set q x=P++((U++[v])++(x::(V'++(R2++Q))))):=⟨by simp;omega,by rw[←u2];simp,hset⟩
      have NL:Hid (((E.set k v).set q x).length=N):=by show _=_;rw[List.length_set,List.length_set];exact HEL.out
      have k0:(0:Int)≤k:=by omega
      have q0:(0:Int)≤q:=by omega
      have kN:(k:Int)<N:=by omega
      have qN:(q:Int)<N:=by omega
      have HPp:=hide hp;have HQq:=hide hq;have hkq:k+1=q:=by omega
      clear hp hq eE lPU hset u1 u2 u3 HU;obtain⟨hs3,hk3⟩:=HS.out.2.swap HPp.out HQq.out;have NX:Hid (Sorted w (put8 (put8 wr g (k*8) v) g (q*8) x) g ((E.set k v).set q x)):=⟨HS.out.1.trans hk3,hs3⟩;have x0:wr.cell? ⟨g,k*8,none⟩=some (.int .i64 x.block):=HS.out.2.cell HPp.out 0 rfl;have z0:wr.cell? ⟨g,q*8,none⟩=some (.int .i64 v.block):=HS.out.2.cell HQq.out 0 rfl;have k0:=HS.out.2.frozen (k*8);have l0:=HS.out.2.frozen (q*8);have x1:wr.cell? ⟨g,k*8+1,none⟩=some (.int .i64 x.leaf):=HS.out.2.cell HPp.out 1 rfl;have z1:wr.cell? ⟨g,q*8+1,none⟩=some (.int .i64 v.leaf):=HS.out.2.cell HQq.out 1 rfl;have k1:=HS.out.2.frozen (k*8+1);have l1:=HS.out.2.frozen (q*8+1);have x2:wr.cell? ⟨g,k*8+2,none⟩=some (.int .i64 x.page.kind):=HS.out.2.cell HPp.out 2 rfl;have z2:wr.cell? ⟨g,q*8+2,none⟩=some (.int .i64 v.page.kind):=HS.out.2.cell HQq.out 2 rfl;have k2:=HS.out.2.frozen (k*8+2);have l2:=HS.out.2.frozen (q*8+2);have x3:wr.cell? ⟨g,k*8+3,none⟩=some (.int .i64 x.page.seq):=HS.out.2.cell HPp.out 3 rfl;have z3:wr.cell? ⟨g,q*8+3,none⟩=some (.int .i64 v.page.seq):=HS.out.2.cell HQq.out 3 rfl;have k3:=HS.out.2.frozen (k*8+3);have l3:=HS.out.2.frozen (q*8+3);have x4:wr.cell? ⟨g,k*8+4,none⟩=some (.int .i64 x.page.tx):=HS.out.2.cell HPp.out 4 rfl;have z4:wr.cell? ⟨g,q*8+4,none⟩=some (.int .i64 v.page.tx):=HS.out.2.cell HQq.out 4 rfl;have k4:=HS.out.2.frozen (k*8+4);have l4:=HS.out.2.frozen (q*8+4);have x5:wr.cell? ⟨g,k*8+5,none⟩=some (.int .i64 x.page.part):=HS.out.2.cell HPp.out 5 rfl;have z5:wr.cell? ⟨g,q*8+5,none⟩=some (.int .i64 v.page.part):=HS.out.2.cell HQq.out 5 rfl;have k5:=HS.out.2.frozen (k*8+5);have l5:=HS.out.2.frozen (q*8+5);have x6:wr.cell? ⟨g,k*8+6,none⟩=some (.int .i64 x.page.count):=HS.out.2.cell HPp.out 6 rfl;have z6:wr.cell? ⟨g,q*8+6,none⟩=some (.int .i64 v.page.count):=HS.out.2.cell HQq.out 6 rfl;have k6:=HS.out.2.frozen (k*8+6);have l6:=HS.out.2.frozen (q*8+6);have x7:wr.cell? ⟨g,k*8+7,none⟩=some (.string x.page.text):=HS.out.2.cell HPp.out 7 rfl;have z7:wr.cell? ⟨g,q*8+7,none⟩=some (.string v.page.text):=HS.out.2.cell HQq.out 7 rfl;have k7:=HS.out.2.frozen (k*8+7);have l7:=HS.out.2.frozen (q*8+7);have y0:=(put8_far wr g (k*8) (q*8) v (by omega)).trans z0
      have y1:=(put8_far wr g (k*8) (q*8+1) v (by omega)).trans z1
      have y2:=(put8_far wr g (k*8) (q*8+2) v (by omega)).trans z2
      have y3:=(put8_far wr g (k*8) (q*8+3) v (by omega)).trans z3
      have y4:=(put8_far wr g (k*8) (q*8+4) v (by omega)).trans z4
      have y5:=(put8_far wr g (k*8) (q*8+5) v (by omega)).trans z5
      have y6:=(put8_far wr g (k*8) (q*8+6) v (by omega)).trans z6
      have y7:=(put8_far wr g (k*8) (q*8+7) v (by omega)).trans z7
      unfold put8 at y0 y1 y2 y3 y4 y5 y6 y7;clear hs3 hk3;go_wp2;go_region;have ND:=hide NX.out.drew;unfold put8 at ND;go_wp2;go_roundw
      case rel=>exact⟨k+1,_,U++[v],V',by go_num,by omega,by omega,NU,NL,ND⟩
      case measure=>simp[intOf];omega
    ·have hV:V=[]:=by
      have h1:=congrArg List.length u2;rw[List.length_append]at h1;exact List.eq_nil_of_length_eq_zero (by omega)
     subst hV;have hE:E=P++((R1++x::R2)++Q):=by rw[u3,←u2];simp
     subst hE;clear u1 u2 u3 HU;go_wp2
     first|go_end0|refine bodyPost_ret (results_none rfl _ _ _) rfl ?_
     exact⟨rfl,R1++x::R2,MA.out,MK.out,ML.out,HS.out⟩
theorem sym_right(g N cap a m b:Nat)(P L Q:List Fnd)(x:Fnd)(w:World)(hN:N≤1000000000000000)(hl:(P++(L++(x::Q))).length=N)(hP:P.length=a)(hm:a+L.length=m)(hb:m+1=b)(hne:L.length≠1)(hL:Asc L)(hr:SRow w g (P++(L++(x::Q)))):
 Calls Tryz.prog 150 #[.slice (some ⟨g,0,none⟩) N cap,.int .i64 a,.int .i64 m,.int .i64 b,ordV] w fun e w'=>e=.returned (.tuple #[])∧∃M,Asc M∧Akin (L++[x]) M∧M.length=L.length+1∧Sorted w w' g (P++(M++Q)):=by
 have hbN:b≤N:=by rw[←hl];simp;omega
 obtain⟨D,hD⟩:∃D,D=P++(L++(x::Q)):=⟨_,rfl⟩;rw[←hD]at hl hr;have HD:=hide hD;have HL:=hide hl;have hXm:D[m]?=some x:=by
  rw[hD,List.getElem?_append_right (by omega),List.getElem?_append_right (by omega)]
  have:m-P.length-L.length=0:=by omega
  rw[this];rfl
 have hLt:∀t y,L[t]?=some y→D[a+t]?=some y:=by
  intro t y hy;have ht:=(List.getElem?_eq_some_iff.1 hy).1;rw[hD,List.getElem?_append_right (by omega)]
  have:a+t-P.length=t:=by omega
  rw[this,List.getElem?_append_left ht];exact hy
 have HX:=hide hXm;have HLT:=hide hLt;have HAS:=hide hL;have HS0:Hid (Sorted w w g D):=⟨Kept2.refl _ _,hr⟩;have HP:=hide hP;obtain⟨n,hn⟩:∃n,L.length=n:=⟨_,rfl⟩;rw[hn]at hm hne;have HNN:=hide hn;have hma:((m:Int)-a==1)=false:=by rw[beq_eq_false_iff_ne];omega
 have hmb:(b:Int)-m=1:=by omega
 have ham:a≤m:=by omega
 have m0:(0:Int)≤m:=by omega
 have mN:(m:Int)<N:=by omega
 clear hD hl hP hr hXm hLt hL hn;unfold ordV;go_enter Tryz.func150,Tryz.ntmps150;go_wp2;clear hma hmb;go_loopw [14,15] (fun iv jv wr=>∃i j:Nat,iv=.int .i64 i∧jv=.int .i64 j∧a≤i∧i≤j∧j≤m∧Hid (∀t y,L[t]?=some y→(a+t<i→y.key≤x.key)∧(j≤a+t→x.key<y.key))∧Hid (Sorted w wr g D)) (fun iv jv _=>(intOf jv).toNat-(intOf iv).toNat)
 case atStart=>exact⟨a,m,rfl,rfl,Nat.le_refl _,ham,Nat.le_refl _,(fun t y hy=>⟨fun h=>by omega,fun h=>by have:=(List.getElem?_eq_some_iff.1 hy).1;have:=HNN.out;omega⟩),HS0⟩
 case round=>
  obtain⟨i,j,rfl,rfl,r1,r2,r3,HQ,HS⟩:=hrel;clear HS0;by_cases hlt:(i:Int)<j
  ·obtain⟨h,hhI⟩:∃h:Nat,((i:Int)+j)/2=h:=⟨(i+j)/2,by omega⟩
   have hh1:i≤h∧h<j:=by omega
   obtain⟨y,hy⟩:∃y,L[h-a]?=some y:=by
    have hl:h-a<L.length:=by have:=HNN.out;omega
    exact⟨_,List.getElem?_eq_getElem hl⟩
   have hY:D[h]?=some y:=by have:=HLT.out _ _ hy;rwa [show a+(h-a)=h by omega]at this
   have HY:=hide hy;have HDY:=hide hY;have h0:(0:Int)≤h:=by omega
   have hN2:(h:Int)<N:=by omega
   clear hy hY;by_cases hc:x.key<y.key
   ·have NQ:Hid (∀t z,L[t]?=some z→(a+t<i→z.key≤x.key)∧(h≤a+t→x.key<z.key)):=fun t z hz=>⟨(HQ.out t z hz).1,fun ht=>by have:=HAS.out.le HY.out hz (by omega);omega⟩
    have KC:Hid (∀W,Sorted w W g D→C8 W g (m*8) x∧C8 W g (h*8) y):=fun W h=>⟨h.2.c8 HX.out,h.2.c8 HDY.out⟩
    have CC:Hid (Calls Tryz.prog 112 #[F8 x,F8 y] wr.drew fun e w'=>e=.returned (.int .i64 (cmpV x y))∧Sorted w w' g D):=fcmp_row x y HS.out.drew
    obtain⟨r,hrr⟩:∃r,r=cmpV x y:=⟨_,rfl⟩;have hr0:decide (r<0)=true:=by rw[hrr];exact decide_eq_true ((cmpV_lt _ _).2 hc)
    rw[←hrr]at CC;have K0:=hide (KC.out _ HS.out);have K0d:=hide (KC.out _ HS.out.drew);obtain⟨⟨c0,c1,c2,c3,c4,c5,c6,c7⟩,d0,d1,d2,d3,d4,d5,d6,d7⟩:=K0.out;clear hrr;go_wp2;go_region_held3 (fun w'=>C8 w' g (m*8) x∧C8 w' g (h*8) y) (first|go_keep|exact K0d.out|exact K2.out) ((go_at_call 112;(with_reducible refine Calls.mono CC.out ?_);rintro e w2 ⟨rfl,s2⟩;have S2:=hide s2;have K2:=hide (KC.out _ s2);clear s2))
    all_goals
     go_wp2;go_roundw
     case rel=>exact⟨i,h,rfl,rfl,r1,by omega,by omega,NQ,S2⟩
     case measure=>simp[intOf];omega
   ·have NQ:Hid (∀t z,L[t]?=some z→(a+t<h+1→z.key≤x.key)∧(j≤a+t→x.key<z.key)):=fun t z hz=>⟨fun ht=>by have:=HAS.out.le hz HY.out (by omega);omega,(HQ.out t z hz).2⟩
    have KC:Hid (∀W,Sorted w W g D→C8 W g (m*8) x∧C8 W g (h*8) y):=fun W h=>⟨h.2.c8 HX.out,h.2.c8 HDY.out⟩
    have CC:Hid (Calls Tryz.prog 112 #[F8 x,F8 y] wr.drew fun e w'=>e=.returned (.int .i64 (cmpV x y))∧Sorted w w' g D):=fcmp_row x y HS.out.drew
    obtain⟨r,hrr⟩:∃r,r=cmpV x y:=⟨_,rfl⟩;have hr0:decide (r<0)=false:=by rw[hrr];exact decide_eq_false (fun e=>hc ((cmpV_lt _ _).1 e))
    rw[←hrr]at CC;have K0:=hide (KC.out _ HS.out);have K0d:=hide (KC.out _ HS.out.drew);obtain⟨⟨c0,c1,c2,c3,c4,c5,c6,c7⟩,d0,d1,d2,d3,d4,d5,d6,d7⟩:=K0.out;clear hrr;go_wp2;go_region_held3 (fun w'=>C8 w' g (m*8) x∧C8 w' g (h*8) y) (first|go_keep|exact K0d.out|exact K2.out) ((go_at_call 112;(with_reducible refine Calls.mono CC.out ?_);rintro e w2 ⟨rfl,s2⟩;have S2:=hide s2;have K2:=hide (KC.out _ s2);clear s2))
    all_goals
     go_wp2;go_roundw
     case rel=>exact⟨h+1,j,by go_num,rfl,by omega,by omega,r3,NQ,S2⟩
     case measure=>simp[intOf];omega
  ·have hij:i=j:=by omega
   subst hij;obtain⟨L1,L2,eL,l1⟩:∃L1 L2,L=L1++L2∧L1.length=i-a:=⟨L.take (i-a),L.drop (i-a),(List.take_append_drop _ _).symm,by rw[List.length_take];have:=HNN.out;omega⟩
   have l2:L2.length=m-i:=by have h1:=congrArg List.length eL;rw[List.length_append]at h1;have:=HNN.out;omega
   have hlow:∀y∈L1,y.key≤x.key:=by
    intro y hy;obtain⟨t,ht⟩:=List.getElem?_of_mem hy;have ht2:=(List.getElem?_eq_some_iff.1 ht).1;exact(HQ.out t y (by rw[eL,List.getElem?_append_left ht2];exact ht)).1 (by omega)
   have hhigh:∀y∈L2,x.key<y.key:=by
    intro y hy;obtain⟨t,ht⟩:=List.getElem?_of_mem hy;exact(HQ.out (L1.length+t) y (by rw[eL,List.getElem?_append_right (by omega)];simpa using ht)).2 (by omega)
   have MA:Hid (Asc (L1++x::L2)):=by
    have h1:=HAS.out;rw[eL]at h1;refine Asc.app h1.left (List.pairwise_cons.2 ⟨fun y hy=>Int.le_of_lt (hhigh y hy),h1.right⟩) ?_
    intro u hu v hv;rcases List.mem_cons.1 hv with e|e
    ·subst e;exact hlow u hu
    ·exact h1.across u hu v e
   have MK:Hid (Akin (L++[x]) (L1++x::L2)):=by
    show Akin _ _;rw[eL];have:=(Akin.refl L1).app (Akin.flip (a:=L2) (b:=[x]) (fun u hu v hv=>by rw[List.mem_singleton]at hv;subst hv;have:=hhigh u hu;omega))
    simpa using this
   have ML:Hid ((L1++x::L2).length=L.length+1):=by show _=_;rw[eL];simp;omega
   have E0:Hid (D=P++(L1++(L2++(x::([]++Q))))):=by show _=_;rw[HD.out,eL];simp
   have L1H:=hide l1;have L2H:=hide l2;have S0:=HS;clear hlow hhigh eL HQ HLT HX HAS l1 l2;go_wp2;go_loopw [17] (fun kv wr=>∃(k:Nat) (E U V:List Fnd),kv=.int .i64 k∧i≤k∧k≤m∧Hid (U.length=k-i∧U++V=L2∧E=P++(L1++(U++(x::(V++Q)))))∧Hid (E.length=N)∧Hid (Sorted w wr g E)) (fun kv _=>(intOf kv).toNat)
   case atStart=>exact⟨m,D,L2,[],rfl,r3,Nat.le_refl _,⟨L2H.out,by simp,E0.out⟩,HL,S0⟩
   case round=>
    obtain⟨k,E,U,V,rfl,r4,r5,HU,HEL,HS⟩:=hrel;obtain⟨u1,u2,u3⟩:=HU.out;by_cases hk:(i:Int)<k
    ·obtain⟨U',u,eU⟩:∃U' u,U=U'++[u]:=by
      have hne:U≠ []:=fun e=>by subst e;simp at u1;omega
      exact⟨U.dropLast,U.getLast hne,(List.dropLast_concat_getLast hne).symm⟩
     subst eU;obtain⟨q,hqI⟩:∃q:Nat,(k:Int)-1=q:=⟨k-1,by omega⟩
     have hqw:IntKind.i64.wrap ((k:Int)-1)=q:=by rw[IntKind.wrap_i64];omega
     have eE:E=(P++L1++U')++u::([]++x::(V++Q)):=by rw[u3];simp
     have lPU:(P++L1++U').length=q:=by
      rw[List.length_append,List.length_append];rw[List.length_append]at u1;have:=HP.out;have:=L1H.out;simp at u1;omega
     have hq:E[q]?=some u:=by rw[eE,←lPU];simp
     have hp:E[k]?=some x:=by
      rw[eE,List.getElem?_append_right (by omega)]
      have:k-(P++L1++U').length=1:=by omega
      rw[this];rfl
     have hset:(E.set k u).set q x=P++(L1++(U'++(x::((u::V)++Q)))):=by
      have:=set_two (P++L1++U') [] (V++Q) u x;rw[lPU,←eE]at this;rw[List.set_comm _ _ (show k≠q by omega),show k=q+1+([]:List Fnd).length by simp;omega,this]
      simp
     have NU:Hid (U'.length=q-i∧U'++(u::V)=L2∧(E.set k u).set q x=P++(L1++(U'++(x::((u::V)++Q))))):=⟨by simp at u1;omega,by rw[←u2];simp,hset⟩
     have NL:Hid (((E.set k u).set q x).length=N):=by show _=_;rw[List.length_set,List.length_set];exact HEL.out
     have k0:(0:Int)≤k:=by omega
     have q0:(0:Int)≤q:=by omega
     have kN:(k:Int)<N:=by omega
     have qN:(q:Int)<N:=by omega
     have HPp:=hide hp;have HQq:=hide hq;have hkq:q+1=k:=by omega
     clear hp hq eE lPU hset u1 u2 u3 HU;obtain⟨hs3,hk3⟩:=HS.out.2.swap HPp.out HQq.out;have NX:Hid (Sorted w (put8 (put8 wr g (k*8) u) g (q*8) x) g ((E.set k u).set q x)):=⟨HS.out.1.trans hk3,hs3⟩;have x0:wr.cell? ⟨g,k*8,none⟩=some (.int .i64 x.block):=HS.out.2.cell HPp.out 0 rfl;have z0:wr.cell? ⟨g,q*8,none⟩=some (.int .i64 u.block):=HS.out.2.cell HQq.out 0 rfl;have k0:=HS.out.2.frozen (k*8);have l0:=HS.out.2.frozen (q*8);have x1:wr.cell? ⟨g,k*8+1,none⟩=some (.int .i64 x.leaf):=HS.out.2.cell HPp.out 1 rfl;have z1:wr.cell? ⟨g,q*8+1,none⟩=some (.int .i64 u.leaf):=HS.out.2.cell HQq.out 1 rfl;have k1:=HS.out.2.frozen (k*8+1);have l1:=HS.out.2.frozen (q*8+1);have x2:wr.cell? ⟨g,k*8+2,none⟩=some (.int .i64 x.page.kind):=HS.out.2.cell HPp.out 2 rfl;have z2:wr.cell? ⟨g,q*8+2,none⟩=some (.int .i64 u.page.kind):=HS.out.2.cell HQq.out 2 rfl;have k2:=HS.out.2.frozen (k*8+2);have l2:=HS.out.2.frozen (q*8+2);have x3:wr.cell? ⟨g,k*8+3,none⟩=some (.int .i64 x.page.seq):=HS.out.2.cell HPp.out 3 rfl;have z3:wr.cell? ⟨g,q*8+3,none⟩=some (.int .i64 u.page.seq):=HS.out.2.cell HQq.out 3 rfl;have k3:=HS.out.2.frozen (k*8+3);have l3:=HS.out.2.frozen (q*8+3);have x4:wr.cell? ⟨g,k*8+4,none⟩=some (.int .i64 x.page.tx):=HS.out.2.cell HPp.out 4 rfl;have z4:wr.cell? ⟨g,q*8+4,none⟩=some (.int .i64 u.page.tx):=HS.out.2.cell HQq.out 4 rfl;have k4:=HS.out.2.frozen (k*8+4);have l4:=HS.out.2.frozen (q*8+4);have x5:wr.cell? ⟨g,k*8+5,none⟩=some (.int .i64 x.page.part):=HS.out.2.cell HPp.out 5 rfl;have z5:wr.cell? ⟨g,q*8+5,none⟩=some (.int .i64 u.page.part):=HS.out.2.cell HQq.out 5 rfl;have k5:=HS.out.2.frozen (k*8+5);have l5:=HS.out.2.frozen (q*8+5);have x6:wr.cell? ⟨g,k*8+6,none⟩=some (.int .i64 x.page.count):=HS.out.2.cell HPp.out 6 rfl;have z6:wr.cell? ⟨g,q*8+6,none⟩=some (.int .i64 u.page.count):=HS.out.2.cell HQq.out 6 rfl;have k6:=HS.out.2.frozen (k*8+6);have l6:=HS.out.2.frozen (q*8+6);have x7:wr.cell? ⟨g,k*8+7,none⟩=some (.string x.page.text):=HS.out.2.cell HPp.out 7 rfl;have z7:wr.cell? ⟨g,q*8+7,none⟩=some (.string u.page.text):=HS.out.2.cell HQq.out 7 rfl;have k7:=HS.out.2.frozen (k*8+7);have l7:=HS.out.2.frozen (q*8+7);have y0:=(put8_far wr g (k*8) (q*8) u (by omega)).trans z0
     have y1:=(put8_far wr g (k*8) (q*8+1) u (by omega)).trans z1
     have y2:=(put8_far wr g (k*8) (q*8+2) u (by omega)).trans z2
     have y3:=(put8_far wr g (k*8) (q*8+3) u (by omega)).trans z3
     have y4:=(put8_far wr g (k*8) (q*8+4) u (by omega)).trans z4
     have y5:=(put8_far wr g (k*8) (q*8+5) u (by omega)).trans z5
     have y6:=(put8_far wr g (k*8) (q*8+6) u (by omega)).trans z6
     have y7:=(put8_far wr g (k*8) (q*8+7) u (by omega)).trans z7
     unfold put8 at y0 y1 y2 y3 y4 y5 y6 y7;clear hs3 hk3;go_wp2;go_region;have ND:=hide NX.out.drew;unfold put8 at ND;go_wp2;go_roundw
     case rel=>exact⟨q,_,U',u::V,by first|rfl|go_num,by omega,by omega,NU,NL,ND⟩
     case measure=>simp[intOf];omega
    ·have hU:U=[]:=List.eq_nil_of_length_eq_zero (by omega)
     subst hU;have hE:E=P++((L1++x::L2)++Q):=by rw[u3,←u2];simp
     subst hE;clear u1 u2 u3 HU;go_wp2
     first|go_end0|refine bodyPost_ret (results_none rfl _ _ _) rfl ?_
     exact⟨rfl,L1++x::L2,MA.out,MK.out,ML.out,HS.out⟩
end Go.Proofs.YtiicghepilbgfaaGreatDoor
namespace Go.Proofs.YtiicghepilbgfaaGreatDoor.Words
def Split(L R:List Fnd)(a m p lo hi s r:Nat):Prop:=∀c u v,lo≤c→c<hi→L[c-a]?=some u→R[p-c-m]?=some v→(c<s→u.key≤v.key)∧(r≤c→v.key<u.key)
theorem Split.up{L R:List Fnd}{a m p lo hi s r c:Nat}{u v:Fnd}(h:Split L R a m p lo hi s r)(hL:Asc L)(hR:Asc R)(hu:L[c-a]?=some u)(hv:R[p-c-m]?=some v)(hac:a≤lo)(hle:u.key≤v.key):Split L R a m p lo hi (c+1) r:=by
 intro c' u' v' h1 h2 hu' hv';refine⟨fun h3=>?_,(h c' u' v' h1 h2 hu' hv').2⟩
 have k1:=hL.le hu' hu (by omega)
 have k2:=hR.le hv hv' (by omega)
 omega
theorem Split.down{L R:List Fnd}{a m p lo hi s r c:Nat}{u v:Fnd}(h:Split L R a m p lo hi s r)(hL:Asc L)(hR:Asc R)(hu:L[c-a]?=some u)(hv:R[p-c-m]?=some v)(hlt:v.key<u.key):Split L R a m p lo hi s c:=by
 intro c' u' v' h1 h2 hu' hv';refine⟨(h c' u' v' h1 h2 hu' hv').1,fun h3=>?_⟩
 have k1:=hL.le hu hu' (by omega)
 have k2:=hR.le hv' hv (by omega)
 omega
theorem Split.parts {L R:List Fnd} {a m b mid lo hi s:Nat} (h:Split L R a m (mid+m-1) lo hi s s) (hL:Asc L) (hR:Asc R) (hl:a+L.length=m) (hr:m+R.length=b) (has:a≤s) (hsm:s≤m) (hsd:s≤mid) (hmb:mid+m-s≤b)
 (hlo:lo≤s) (h1:s<m→s<mid→s<hi) (h2:a<s→mid+m-s<b→lo<s) (hhi:s≤hi):
 ∃L1 L2 R1 R2,L=L1++L2∧R=R1++R2∧L1.length=s-a∧L2.length=m-s∧R1.length=mid-s∧R2.length=b-(mid+m-s)∧(∀u∈L2,∀v∈R1,v.key<u.key)∧(∀u∈L1,∀v∈R2,u.key≤v.key):=by
 have e1:L=L.take (s-a)++L.drop (s-a):=(List.take_append_drop _ _).symm;have e2:R=R.take (mid-s)++R.drop (mid-s):=(List.take_append_drop _ _).symm;have n1:(L.take (s-a)).length=s-a:=by rw[List.length_take];omega
 have n2:(L.drop (s-a)).length=m-s:=by rw[List.length_drop];omega
 have n3:(R.take (mid-s)).length=mid-s:=by rw[List.length_take];omega
 have n4:(R.drop (mid-s)).length=b-(mid+m-s):=by rw[List.length_drop];omega
 refine⟨_,_,_,_,e1,e2,n1,n2,n3,n4,?_,?_⟩
 ·intro u hu v hv;have p1:0<(L.drop (s-a)).length:=List.length_pos_of_mem hu;have p2:0<(R.take (mid-s)).length:=List.length_pos_of_mem hv;have hsh:=h1 (by omega) (by omega)
  obtain⟨u0,hu0⟩:∃u0,L[s-a]?=some u0:=⟨_,List.getElem?_eq_getElem (by omega)⟩
  obtain⟨v0,hv0⟩:∃v0,R[mid-1-s]?=some v0:=⟨_,List.getElem?_eq_getElem (by omega)⟩
  have k:=(h s u0 v0 hlo hsh hu0 (by rw[show mid+m-1-s-m=mid-1-s by omega];exact hv0)).2 (Nat.le_refl _)
  have q1:u0.key≤u.key:=by
   obtain⟨t,ht⟩:=List.getElem?_of_mem hu;rw[List.getElem?_drop]at ht;exact hL.le hu0 ht (by omega)
  have q2:v.key≤v0.key:=by
   obtain⟨t,ht⟩:=List.getElem?_of_mem hv;have ht2:=(List.getElem?_eq_some_iff.1 ht).1;rw[List.getElem?_take_of_lt (by omega)]at ht
   exact hR.le ht hv0 (by omega)
  omega
 ·intro u hu v hv;have p1:0<(L.take (s-a)).length:=List.length_pos_of_mem hu;have p2:0<(R.drop (mid-s)).length:=List.length_pos_of_mem hv;have hls:=h2 (by omega) (by omega)
  obtain⟨u0,hu0⟩:∃u0,L[s-1-a]?=some u0:=⟨_,List.getElem?_eq_getElem (by omega)⟩
  obtain⟨v0,hv0⟩:∃v0,R[mid-s]?=some v0:=⟨_,List.getElem?_eq_getElem (by omega)⟩
  have k:=(h (s-1) u0 v0 (by omega) (by omega) hu0 (by rw[show mid+m-1-(s-1)-m=mid-s by omega];exact hv0)).1 (by omega)
  have q1:u.key≤u0.key:=by
   obtain⟨t,ht⟩:=List.getElem?_of_mem hu;have ht2:=(List.getElem?_eq_some_iff.1 ht).1;rw[List.getElem?_take_of_lt (by omega)]at ht
   exact hL.le ht hu0 (by omega)
  have q2:v0.key≤v.key:=by
   obtain⟨t,ht⟩:=List.getElem?_of_mem hv;rw[List.getElem?_drop]at ht;exact hR.le hv0 ht (by omega)
  omega
theorem halves{L1 L2 R1 R2 M1 M2:List Fnd}(hL:Asc (L1++L2))(hR:Asc (R1++R2))(h1:∀u∈L2,∀v∈R1,v.key<u.key)(h2:∀u∈L1,∀v∈R2,u.key≤v.key)(m1:Asc M1)(m2:Asc M2)(k1:Akin (L1++R1) M1)(k2:Akin (L2++R2) M2):
 Asc (M1++M2)∧Akin ((L1++L2)++(R1++R2)) (M1++M2):=by
 refine⟨Asc.app m1 m2 ?_,?_⟩
 ·intro x hx y hy;have hx':=(k1.mem x).2 hx;have hy':=(k2.mem y).2 hy;rcases List.mem_append.1 hx' with a|a<;>rcases List.mem_append.1 hy' with b|b
  ·exact hL.across x a y b
  ·exact h2 x a y b
  ·exact Int.le_of_lt (h1 y b x a)
  ·exact hR.across x a y b
 ·have f:=Akin.flip (a:=L2) (b:=R1) (fun x hx y hy=>by have:=h1 x hx y hy;omega)
  have g:=((Akin.refl L1).app (f.app (Akin.refl R2)));have e1:(L1++L2)++(R1++R2)=L1++(L2++R1++R2):=by simp
  have e2:L1++(R1++L2++R2)=(L1++R1)++(L2++R2):=by simp
  rw[e1];refine g.trans ?_;rw[e2];exact k1.app k2
end Go.Proofs.YtiicghepilbgfaaGreatDoor.Words
