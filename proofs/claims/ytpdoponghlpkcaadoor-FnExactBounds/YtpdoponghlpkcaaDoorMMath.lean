/-
  MMath
-/
import Derived.Test.YtpdoponghlpkcaaDoorPk2
namespace Go.Proofs.YtpdoponghlpkcaaDoor.Words
def Split(L R:List Fnd)(a m p lo hi s r:Nat):Prop:=∀c u v,lo≤c→c<hi→L[c-a]?=some u→R[p-c-m]?=some v→(c<s→u.key≤v.key)∧(r≤c→v.key<u.key)
theorem Split.up{L R:List Fnd}{a m p lo hi s r c:Nat}{u v:Fnd}(h:Split L R a m p lo hi s r)(hL:Asc L)(hR:Asc R)(hu:L[c-a]?=some u)(hv:R[p-c-m]?=some v)(hac:a≤lo)(hle:u.key≤v.key):Split L R a m p lo hi (c+1) r:=by
 intro c' u' v' h1 h2 hu' hv';refine⟨fun h3=>?_,(h c' u' v' h1 h2 hu' hv').2⟩
 have k1:=hL.le hu' hu (by omega)
 have k2:=hR.le hv hv' (by omega)
 omega
theorem Split.down{L R:List Fnd}{a m p lo hi s r c:Nat}{u v:Fnd}(h:Split L R a m p lo hi s r)(hL:Asc L)(hR:Asc R)(hu:L[c-a]?=some u)(hv:R[p-c-m]?=some v)(hlt:v.key<u.key):Split L R a m p lo hi s c:=by
 intro c' u' v' h1 h2 hu' hv';refine⟨(h c' u' v' h1 h2 hu' hv').1,fun h3=>?_⟩
 have k1:=hL.le hu hu' (by omega)
 have k2:=hR.le hv' hv (by omega)
 omega
theorem Split.parts {L R:List Fnd} {a m b mid lo hi s:Nat} (h:Split L R a m (mid+m-1) lo hi s s) (hL:Asc L) (hR:Asc R) (hl:a+L.length=m) (hr:m+R.length=b) (has:a≤s) (hsm:s≤m) (hsd:s≤mid) (hmb:mid+m-s≤b)
 (hlo:lo≤s) (h1:s<m→s<mid→s<hi) (h2:a<s→mid+m-s<b→lo<s) (hhi:s≤hi):
 ∃L1 L2 R1 R2,L=L1++L2∧R=R1++R2∧L1.length=s-a∧L2.length=m-s∧R1.length=mid-s∧R2.length=b-(mid+m-s)∧(∀u∈L2,∀v∈R1,v.key<u.key)∧(∀u∈L1,∀v∈R2,u.key≤v.key):=by
 have e1:L=L.take (s-a)++L.drop (s-a):=(List.take_append_drop _ _).symm;have e2:R=R.take (mid-s)++R.drop (mid-s):=(List.take_append_drop _ _).symm;have n1:(L.take (s-a)).length=s-a:=by rw[List.length_take];omega
 have n2:(L.drop (s-a)).length=m-s:=by rw[List.length_drop];omega
 have n3:(R.take (mid-s)).length=mid-s:=by rw[List.length_take];omega
 have n4:(R.drop (mid-s)).length=b-(mid+m-s):=by rw[List.length_drop];omega
 refine⟨_,_,_,_,e1,e2,n1,n2,n3,n4,?_,?_⟩
 ·intro u hu v hv;have p1:0<(L.drop (s-a)).length:=List.length_pos_of_mem hu;have p2:0<(R.take (mid-s)).length:=List.length_pos_of_mem hv;have hsh:=h1 (by omega) (by omega)
  obtain⟨u0,hu0⟩:∃u0,L[s-a]?=some u0:=⟨_,List.getElem?_eq_getElem (by omega)⟩
  obtain⟨v0,hv0⟩:∃v0,R[mid-1-s]?=some v0:=⟨_,List.getElem?_eq_getElem (by omega)⟩
  have k:=(h s u0 v0 hlo hsh hu0 (by rw[show mid+m-1-s-m=mid-1-s by omega];exact hv0)).2 (Nat.le_refl _)
  have q1:u0.key≤u.key:=by
   obtain⟨t,ht⟩:=List.getElem?_of_mem hu;rw[List.getElem?_drop]at ht;exact hL.le hu0 ht (by omega)
  have q2:v.key≤v0.key:=by
   obtain⟨t,ht⟩:=List.getElem?_of_mem hv;have ht2:=(List.getElem?_eq_some_iff.1 ht).1;rw[List.getElem?_take_of_lt (by omega)]at ht
   exact hR.le ht hv0 (by omega)
  omega
 ·intro u hu v hv;have p1:0<(L.take (s-a)).length:=List.length_pos_of_mem hu;have p2:0<(R.drop (mid-s)).length:=List.length_pos_of_mem hv;have hls:=h2 (by omega) (by omega)
  obtain⟨u0,hu0⟩:∃u0,L[s-1-a]?=some u0:=⟨_,List.getElem?_eq_getElem (by omega)⟩
  obtain⟨v0,hv0⟩:∃v0,R[mid-s]?=some v0:=⟨_,List.getElem?_eq_getElem (by omega)⟩
  have k:=(h (s-1) u0 v0 (by omega) (by omega) hu0 (by rw[show mid+m-1-(s-1)-m=mid-s by omega];exact hv0)).1 (by omega)
  have q1:u.key≤u0.key:=by
   obtain⟨t,ht⟩:=List.getElem?_of_mem hu;have ht2:=(List.getElem?_eq_some_iff.1 ht).1;rw[List.getElem?_take_of_lt (by omega)]at ht
   exact hL.le ht hu0 (by omega)
  have q2:v0.key≤v.key:=by
   obtain⟨t,ht⟩:=List.getElem?_of_mem hv;rw[List.getElem?_drop]at ht;exact hR.le hv0 ht (by omega)
  omega
theorem halves{L1 L2 R1 R2 M1 M2:List Fnd}(hL:Asc (L1++L2))(hR:Asc (R1++R2))(h1:∀u∈L2,∀v∈R1,v.key<u.key)(h2:∀u∈L1,∀v∈R2,u.key≤v.key)(m1:Asc M1)(m2:Asc M2)(k1:Akin (L1++R1) M1)(k2:Akin (L2++R2) M2):
 Asc (M1++M2)∧Akin ((L1++L2)++(R1++R2)) (M1++M2):=by
 refine⟨Asc.app m1 m2 ?_,?_⟩
 ·intro x hx y hy;have hx':=(k1.mem x).2 hx;have hy':=(k2.mem y).2 hy;rcases List.mem_append.1 hx' with a|a<;>rcases List.mem_append.1 hy' with b|b
  ·exact hL.across x a y b
  ·exact h2 x a y b
  ·exact Int.le_of_lt (h1 y b x a)
  ·exact hR.across x a y b
 ·have f:=Akin.flip (a:=L2) (b:=R1) (fun x hx y hy=>by have:=h1 x hx y hy;omega)
  have g:=((Akin.refl L1).app (f.app (Akin.refl R2)));have e1:(L1++L2)++(R1++R2)=L1++(L2++R1++R2):=by simp
  have e2:L1++(R1++L2++R2)=(L1++R1)++(L2++R2):=by simp
  rw[e1];refine g.trans ?_;rw[e2];exact k1.app k2
end Go.Proofs.YtpdoponghlpkcaaDoor.Words
