/-
  SymL
-/
import Derived.Test.YtpdoponghlpkcaaDoorPk36
import Derived.Deep.RegionHeld3
set_option maxHeartbeats 2000000
set_option maxRecDepth 100000
namespace Go.Proofs.YtpdoponghlpkcaaDoor
open Go.RowKit
open Words
abbrev C8(w:World)(g o:Nat)(x:Fnd):Prop:=w.cell? ⟨g,o,none⟩=some (.int .i64 x.block)∧w.cell? ⟨g,o+1,none⟩=some (.int .i64 x.leaf)∧w.cell? ⟨g,o+2,none⟩=some (.int .i64 x.page.kind)∧w.cell? ⟨g,o+3,none⟩=some (.int .i64 x.page.seq)∧w.cell? ⟨g,o+4,none⟩=some (.int .i64 x.page.tx)∧w.cell? ⟨g,o+5,none⟩=some (.int .i64 x.page.part)∧w.cell? ⟨g,o+6,none⟩=some (.int .i64 x.page.count)∧w.cell? ⟨g,o+7,none⟩=some (.string x.page.text)
abbrev F8(x:Fnd):Value:=.agg #[.int .i64 x.block,.int .i64 x.leaf,.int .i64 x.page.kind,.int .i64 x.page.seq,.int .i64 x.page.tx,.int .i64 x.page.part,.int .i64 x.page.count,.string x.page.text]
theorem SRow.c8{w:World}{g:Nat}{D:List Fnd}(h:SRow w g D){i:Nat}{x:Fnd}(hi:D[i]?=some x):C8 w g (i*8) x:=⟨h.cell hi 0 rfl,h.cell hi 1 rfl,h.cell hi 2 rfl,h.cell hi 3 rfl,h.cell hi 4 rfl,h.cell hi 5 rfl,h.cell hi 6 rfl,h.cell hi 7 rfl⟩
theorem fcmp_row{w wr:World}{g:Nat}{D:List Fnd}(x y:Fnd)(h:Sorted w wr g D):Calls Tryd.prog 32 #[fdVal x,fdVal y] wr fun e w'=>e=.returned (.int .i64 (cmpV x y))∧Sorted w w' g D:=
 (fcmp x y wr).mono fun _ _ ⟨he,hb⟩=>⟨he,h.below hb⟩
theorem sym_left(g N cap a m b:Nat)(P R Q:List Fnd)(x:Fnd)(w:World)(hN:N≤1000000000000000)(hl:(P++(x::(R++Q))).length=N)(hP:P.length=a)(hm:a+1=m)(hb:m+R.length=b)(hR:Asc R)(hr:SRow w g (P++(x::(R++Q)))):
 Calls Tryd.prog 68 #[.slice (some ⟨g,0,none⟩) N cap,.int .i64 a,.int .i64 m,.int .i64 b,ordV] w fun e w'=>e=.returned (.tuple #[])∧∃M,Asc M∧Akin (x::R) M∧M.length=R.length+1∧Sorted w w' g (P++(M++Q)):=by
 have hbN:b≤N:=by rw[←hl];simp;omega
 obtain⟨D,hD⟩:∃D,D=P++(x::(R++Q)):=⟨_,rfl⟩;rw[←hD]at hl hr;have HD:=hide hD;have HL:=hide hl;have hXa:D[a]?=some x:=by rw[hD,←hP];simp
 have hRt:∀t y,R[t]?=some y→D[m+t]?=some y:=by
  intro t y hy;have ht:=(List.getElem?_eq_some_iff.1 hy).1;rw[hD,List.getElem?_append_right (by omega)]
  have:m+t-P.length=t+1:=by omega
  rw[this,List.getElem?_cons_succ,List.getElem?_append_left ht];exact hy
 have HX:=hide hXa;have HRT:=hide hRt;have HAS:=hide hR;have HS0:Hid (Sorted w w g D):=⟨Kept2.refl _ _,hr⟩;have HP:=hide hP;have hma:(m:Int)-a=1:=by omega
 obtain⟨n,hn⟩:∃n,R.length=n:=⟨_,rfl⟩;rw[hn]at hb;have HNN:=hide hn;have hmb:m≤b:=by omega
 have a0:(0:Int)≤a:=by omega
 have aN:(a:Int)<N:=by omega
 clear hD hl hP hr hXa hRt hR hn;unfold ordV;go_enter Tryd.func68,Tryd.ntmps68;go_wp2;clear hma;go_loopw [10,11] (fun iv jv wr=>∃i j:Nat,iv=.int .i64 i∧jv=.int .i64 j∧m≤i∧i≤j∧j≤b∧Hid (∀t y,R[t]?=some y→(m+t<i→y.key<x.key)∧(j≤m+t→x.key≤y.key))∧Hid (Sorted w wr g D)) (fun iv jv _=>(intOf jv).toNat-(intOf iv).toNat)
 case atStart=>exact⟨m,b,rfl,rfl,Nat.le_refl _,hmb,Nat.le_refl _,(fun t y hy=>⟨fun h=>by omega,fun h=>by have:=(List.getElem?_eq_some_iff.1 hy).1;have:=HNN.out;omega⟩),HS0⟩
 case round=>
  obtain⟨i,j,rfl,rfl,r1,r2,r3,HQ,HS⟩:=hrel;clear HS0;by_cases hlt:(i:Int)<j
  ·obtain⟨h,hhI⟩:∃h:Nat,((i:Int)+j)/2=h:=⟨(i+j)/2,by omega⟩
   have hh1:i≤h∧h<j:=by omega
   obtain⟨y,hy⟩:∃y,R[h-m]?=some y:=by
    have hl:h-m<R.length:=by have:=HNN.out;omega
    exact⟨_,List.getElem?_eq_getElem hl⟩
   have hY:D[h]?=some y:=by have:=HRT.out _ _ hy;rwa [show m+(h-m)=h by omega]at this
   have HY:=hide hy;have HDY:=hide hY;have h0:(0:Int)≤h:=by omega
   have hN2:(h:Int)<N:=by omega
   clear hy hY;by_cases hc:y.key<x.key
   ·have NQ:Hid (∀t z,R[t]?=some z→(m+t<h+1→z.key<x.key)∧(j≤m+t→x.key≤z.key)):=fun t z hz=>⟨fun ht=>by have:=HAS.out.le hz HY.out (by omega);omega,(HQ.out t z hz).2⟩
    have KC:Hid (∀W,Sorted w W g D→C8 W g (h*8) y∧C8 W g (a*8) x):=fun W h=>⟨h.2.c8 HDY.out,h.2.c8 HX.out⟩
    have CC:Hid (Calls Tryd.prog 32 #[F8 y,F8 x] wr.drew fun e w'=>e=.returned (.int .i64 (cmpV y x))∧Sorted w w' g D):=fcmp_row y x HS.out.drew
    obtain⟨r,hrr⟩:∃r,r=cmpV y x:=⟨_,rfl⟩;have hr0:decide (r<0)=true:=by rw[hrr];exact decide_eq_true ((cmpV_lt _ _).2 hc)
    rw[←hrr]at CC;have K0:=hide (KC.out _ HS.out);have K0d:=hide (KC.out _ HS.out.drew);obtain⟨⟨c0,c1,c2,c3,c4,c5,c6,c7⟩,d0,d1,d2,d3,d4,d5,d6,d7⟩:=K0.out;clear hrr;go_wp2;go_region_held3 (fun w'=>C8 w' g (h*8) y∧C8 w' g (a*8) x) (first|go_keep|exact K0d.out|exact K2.out) ((go_at_call 32;(with_reducible refine Calls.mono CC.out ?_);rintro e w2 ⟨rfl,s2⟩;have S2:=hide s2;have K2:=hide (KC.out _ s2);clear s2))
    all_goals
     go_wp2;go_roundw
     case rel=>exact⟨h+1,j,by go_num,rfl,by omega,by omega,r3,NQ,S2⟩
     case measure=>simp[intOf];omega
   ·have NQ:Hid (∀t z,R[t]?=some z→(m+t<i→z.key<x.key)∧(h≤m+t→x.key≤z.key)):=fun t z hz=>⟨(HQ.out t z hz).1,fun ht=>by have:=HAS.out.le HY.out hz (by omega);omega⟩
    have KC:Hid (∀W,Sorted w W g D→C8 W g (h*8) y∧C8 W g (a*8) x):=fun W h=>⟨h.2.c8 HDY.out,h.2.c8 HX.out⟩
    have CC:Hid (Calls Tryd.prog 32 #[F8 y,F8 x] wr.drew fun e w'=>e=.returned (.int .i64 (cmpV y x))∧Sorted w w' g D):=fcmp_row y x HS.out.drew
    obtain⟨r,hrr⟩:∃r,r=cmpV y x:=⟨_,rfl⟩;have hr0:decide (r<0)=false:=by rw[hrr];exact decide_eq_false (fun e=>hc ((cmpV_lt _ _).1 e))
    rw[←hrr]at CC;have K0:=hide (KC.out _ HS.out);have K0d:=hide (KC.out _ HS.out.drew);obtain⟨⟨c0,c1,c2,c3,c4,c5,c6,c7⟩,d0,d1,d2,d3,d4,d5,d6,d7⟩:=K0.out;clear hrr;go_wp2;go_region_held3 (fun w'=>C8 w' g (h*8) y∧C8 w' g (a*8) x) (first|go_keep|exact K0d.out|exact K2.out) ((go_at_call 32;(with_reducible refine Calls.mono CC.out ?_);rintro e w2 ⟨rfl,s2⟩;have S2:=hide s2;have K2:=hide (KC.out _ s2);clear s2))
    all_goals
     go_wp2;go_roundw
     case rel=>exact⟨i,h,rfl,rfl,r1,by omega,by omega,NQ,S2⟩
     case measure=>simp[intOf];omega
  ·have hij:i=j:=by omega
   subst hij;obtain⟨il,hil⟩:∃il:Nat,(i:Int)-1=il:=⟨i-1,by omega⟩
   obtain⟨R1,R2,eR,l1⟩:∃R1 R2,R=R1++R2∧R1.length=i-m:=⟨R.take (i-m),R.drop (i-m),(List.take_append_drop _ _).symm,by rw[List.length_take];have:=HNN.out;omega⟩
   have hlow:∀y∈R1,y.key<x.key:=by
    intro y hy;obtain⟨t,ht⟩:=List.getElem?_of_mem hy;have ht2:=(List.getElem?_eq_some_iff.1 ht).1;exact(HQ.out t y (by rw[eR,List.getElem?_append_left ht2];exact ht)).1 (by omega)
   have hhigh:∀y∈R2,x.key≤y.key:=by
    intro y hy;obtain⟨t,ht⟩:=List.getElem?_of_mem hy;exact(HQ.out (R1.length+t) y (by rw[eR,List.getElem?_append_right (by omega)];simpa using ht)).2 (by omega)
   have MA:Hid (Asc (R1++x::R2)):=by
    have h1:=HAS.out;rw[eR]at h1;refine Asc.app h1.left (List.pairwise_cons.2 ⟨hhigh,h1.right⟩) ?_;intro u hu v hv;rcases List.mem_cons.1 hv with e|e
    ·subst e;exact Int.le_of_lt (hlow u hu)
    ·exact h1.across u hu v e
   have MK:Hid (Akin (x::R) (R1++x::R2)):=by
    show Akin _ _;rw[eR];have:=(Akin.flip (a:=[x]) (b:=R1) (fun u hu v hv=>by rw[List.mem_singleton]at hu;subst hu;have:=hlow v hv;omega)).app (Akin.refl R2)
    simpa using this
   have ML:Hid ((R1++x::R2).length=R.length+1):=by show _=_;rw[eR];simp;omega
   have E0:Hid (D=P++([]++(x::(R1++(R2++Q))))):=by show _=_;rw[HD.out,eR];simp
   have S0:=HS;clear hlow hhigh eR HQ HRT HX HAS;go_wp2;go_loopw [13] (fun kv wr=>∃(k:Nat) (E U V:List Fnd),kv=.int .i64 k∧a≤k∧k≤il∧Hid (U.length=k-a∧U++V=R1∧E=P++(U++(x::(V++(R2++Q)))))∧Hid (E.length=N)∧Hid (Sorted w wr g E)) (fun kv _=>il-(intOf kv).toNat)
   case atStart=>exact⟨a,D,[],R1,rfl,Nat.le_refl _,by omega,⟨by simp,rfl,E0.out⟩,HL,S0⟩
   case round=>
    obtain⟨k,E,U,V,rfl,r4,r5,HU,HEL,HS⟩:=hrel;obtain⟨u1,u2,u3⟩:=HU.out;by_cases hk:(k:Int)<il
    ·match V,u2,u3 with
     | [],u2,_=>simp at u2;subst u2;omega
     |v::V',u2,u3=>
      obtain⟨q,hqI⟩:∃q:Nat,(k:Int)+1=q:=⟨k+1,by omega⟩
      have hqw:IntKind.i64.wrap ((k:Int)+1)=q:=by rw[IntKind.wrap_i64];omega
      have eE:E=(P++U)++x::([]++v::(V'++(R2++Q))):=by rw[u3];simp
      have lPU:(P++U).length=k:=by rw[List.length_append];have:=HP.out;omega
      have hp:E[k]?=some x:=by rw[eE,←lPU];simp
      have hq:E[q]?=some v:=by
       rw[eE,List.getElem?_append_right (by omega)]
       have:q-(P++U).length=1:=by omega
       rw[this];rfl
      have hset:(E.set k v).set q x=P++((U++[v])++(x::(V'++(R2++Q)))):=by
       have:=set_two (P++U) [] (V'++(R2++Q)) x v;rw[lPU,←eE]at this;rw[show q=k+1+([]:List Fnd).length by simp;omega,this]
       simp
      have NU:Hid ((U++[v]).length=(k+1)-a∧(U++[v])++V'=R1∧(E.set k v).set q x=P++((U++[v])++(x::(V'++(R2++Q))))):=⟨by simp;omega,by rw[←u2];simp,hset⟩
      have NL:Hid (((E.set k v).set q x).length=N):=by show _=_;rw[List.length_set,List.length_set];exact HEL.out
      have k0:(0:Int)≤k:=by omega
      have q0:(0:Int)≤q:=by omega
      have kN:(k:Int)<N:=by omega
      have qN:(q:Int)<N:=by omega
      have HPp:=hide hp;have HQq:=hide hq;have hkq:k+1=q:=by omega
      clear hp hq eE lPU hset u1 u2 u3 HU;obtain⟨hs3,hk3⟩:=HS.out.2.swap HPp.out HQq.out;have NX:Hid (Sorted w (put8 (put8 wr g (k*8) v) g (q*8) x) g ((E.set k v).set q x)):=⟨HS.out.1.trans hk3,hs3⟩;have x0:wr.cell? ⟨g,k*8,none⟩=some (.int .i64 x.block):=HS.out.2.cell HPp.out 0 rfl;have z0:wr.cell? ⟨g,q*8,none⟩=some (.int .i64 v.block):=HS.out.2.cell HQq.out 0 rfl;have k0:=HS.out.2.frozen (k*8);have l0:=HS.out.2.frozen (q*8);have x1:wr.cell? ⟨g,k*8+1,none⟩=some (.int .i64 x.leaf):=HS.out.2.cell HPp.out 1 rfl;have z1:wr.cell? ⟨g,q*8+1,none⟩=some (.int .i64 v.leaf):=HS.out.2.cell HQq.out 1 rfl;have k1:=HS.out.2.frozen (k*8+1);have l1:=HS.out.2.frozen (q*8+1);have x2:wr.cell? ⟨g,k*8+2,none⟩=some (.int .i64 x.page.kind):=HS.out.2.cell HPp.out 2 rfl;have z2:wr.cell? ⟨g,q*8+2,none⟩=some (.int .i64 v.page.kind):=HS.out.2.cell HQq.out 2 rfl;have k2:=HS.out.2.frozen (k*8+2);have l2:=HS.out.2.frozen (q*8+2);have x3:wr.cell? ⟨g,k*8+3,none⟩=some (.int .i64 x.page.seq):=HS.out.2.cell HPp.out 3 rfl;have z3:wr.cell? ⟨g,q*8+3,none⟩=some (.int .i64 v.page.seq):=HS.out.2.cell HQq.out 3 rfl;have k3:=HS.out.2.frozen (k*8+3);have l3:=HS.out.2.frozen (q*8+3);have x4:wr.cell? ⟨g,k*8+4,none⟩=some (.int .i64 x.page.tx):=HS.out.2.cell HPp.out 4 rfl;have z4:wr.cell? ⟨g,q*8+4,none⟩=some (.int .i64 v.page.tx):=HS.out.2.cell HQq.out 4 rfl;have k4:=HS.out.2.frozen (k*8+4);have l4:=HS.out.2.frozen (q*8+4);have x5:wr.cell? ⟨g,k*8+5,none⟩=some (.int .i64 x.page.part):=HS.out.2.cell HPp.out 5 rfl;have z5:wr.cell? ⟨g,q*8+5,none⟩=some (.int .i64 v.page.part):=HS.out.2.cell HQq.out 5 rfl;have k5:=HS.out.2.frozen (k*8+5);have l5:=HS.out.2.frozen (q*8+5);have x6:wr.cell? ⟨g,k*8+6,none⟩=some (.int .i64 x.page.count):=HS.out.2.cell HPp.out 6 rfl;have z6:wr.cell? ⟨g,q*8+6,none⟩=some (.int .i64 v.page.count):=HS.out.2.cell HQq.out 6 rfl;have k6:=HS.out.2.frozen (k*8+6);have l6:=HS.out.2.frozen (q*8+6);have x7:wr.cell? ⟨g,k*8+7,none⟩=some (.string x.page.text):=HS.out.2.cell HPp.out 7 rfl;have z7:wr.cell? ⟨g,q*8+7,none⟩=some (.string v.page.text):=HS.out.2.cell HQq.out 7 rfl;have k7:=HS.out.2.frozen (k*8+7);have l7:=HS.out.2.frozen (q*8+7);have y0:=(put8_far wr g (k*8) (q*8) v (by omega)).trans z0
      have y1:=(put8_far wr g (k*8) (q*8+1) v (by omega)).trans z1
      have y2:=(put8_far wr g (k*8) (q*8+2) v (by omega)).trans z2
      have y3:=(put8_far wr g (k*8) (q*8+3) v (by omega)).trans z3
      have y4:=(put8_far wr g (k*8) (q*8+4) v (by omega)).trans z4
      have y5:=(put8_far wr g (k*8) (q*8+5) v (by omega)).trans z5
      have y6:=(put8_far wr g (k*8) (q*8+6) v (by omega)).trans z6
      have y7:=(put8_far wr g (k*8) (q*8+7) v (by omega)).trans z7
      unfold put8 at y0 y1 y2 y3 y4 y5 y6 y7;clear hs3 hk3;go_wp2;go_region;have ND:=hide NX.out.drew;unfold put8 at ND;go_wp2;go_roundw
      case rel=>exact⟨k+1,_,U++[v],V',by go_num,by omega,by omega,NU,NL,ND⟩
      case measure=>simp[intOf];omega
    ·have hV:V=[]:=by
      have h1:=congrArg List.length u2;rw[List.length_append]at h1;exact List.eq_nil_of_length_eq_zero (by omega)
     subst hV;have hE:E=P++((R1++x::R2)++Q):=by rw[u3,←u2];simp
     subst hE;clear u1 u2 u3 HU;go_wp2
     first|go_end0|refine bodyPost_ret (results_none rfl _ _ _) rfl ?_
     exact⟨rfl,R1++x::R2,MA.out,MK.out,ML.out,HS.out⟩
end Go.Proofs.YtpdoponghlpkcaaDoor
