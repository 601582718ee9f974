/-
  KnEq; KnMk; IntL
-/
import Derived.Test.YtpdoponghlpkcaaDoorKnN
import Derived.Deep.RegionHeld3
import Derived.Test.YtpdoponghlpkcaaDoorPk5
import Derived.Test.YtpdoponghlpkcaaDoorPk4
set_option maxHeartbeats 1000000
set_option maxRecDepth 100000
namespace Go.Proofs.YtpdoponghlpkcaaDoor
open Go.RowKit
open Words
theorem eqIs_same(a b:Value)(M:List Int)(n:Nat)(B1 C1 B2 C2:Nat)(w:World)(hn:M.length=n)(hM:n≤1000000000000000000)(ha:Sli 3 B1 C1 a n (icells M) w)(hb:Sli 3 B2 C2 b n (icells M) w):
 Calls Tryd.prog 81 #[a,b] w fun e w'=>e=.returned (.bool true)∧Below w.heap.size w w':=by
 obtain⟨ad,capa,rfl,a3⟩:=ha.form;obtain⟨bd,capb,rfl,b3⟩:=hb.form;have HSA:=hide ha;have HSB:=hide hb;have A3:=hide a3;have B3:=hide b3;have HN:=hide hn;clear ha hb a3 b3 hn;go_enter Tryd.func81,Tryd.ntmps81;go_wp2;go_loopw [5] (fun iv wr=>∃k:Nat,k≤n∧iv=.int .i64 k∧Hid (∃q,wr=w.drewN q)) (fun iv _=>n-(intOf iv).toNat)
 case atStart=>exact⟨0,Nat.zero_le _,rfl,⟨0,rfl⟩⟩
 case round=>
  obtain⟨k,hk,rfl,HQ⟩:=hrel;obtain⟨q,hq⟩:=HQ.out;subst hq;clear HQ;by_cases hlt:(k:Int)<n
  ·obtain⟨ga,e,-,-⟩:=A3.out (by omega)
   subst e;obtain⟨gb,e,-,-⟩:=B3.out (by omega)
   subst e;obtain⟨x,hx⟩:∃x,M[k]?=some x:=⟨_,List.getElem?_eq_getElem (by have:=HN.out;omega)⟩
   have c1:=HSA.out.flt.cell (icells_get hx);have c2:=HSB.out.flt.cell (icells_get hx);have hxx:(x !=x)=false:=by simp
   have k0:(0:Int)≤k:=by omega
   clear hx;go_wp2;go_quiet (fail);go_wp2;go_roundw
   case rel=>exact⟨k+1,by omega,by go_num,⟨_,rfl⟩⟩
   case measure=>simp[intOf];omega
  ·go_wp2;go_ret;exact⟨rfl,below_drewN (Below.refl _ _) _⟩
theorem eqKn_same(x:Bool)(n:Nat)(a1 a2:Option Addr)(c1 c2:Nat)(ls:List Int)(B1 C1 B2 C2:Nat)(w:World)(hn:ls.length=n)(hM:n≤1000000000000000000)(h1:Sli 3 B1 C1 (.slice a1 n c1) n (icells ls) w)(h2:Sli 3 B2 C2 (.slice a2 n c2) n (icells ls) w):
 Calls Tryd.prog 70 #[.agg #[.bool x,.slice a1 n c1],.agg #[.bool x,.slice a2 n c2]] w fun e w'=>e=.returned (.bool true)∧Below w.heap.size w w':=by
 have e0:(x !=x)=false:=by simp
 have HB:Hid (Below w.heap.size w ((w.alloc (.cells #[.bool x,.slice a1 n c1] 122)).alloc (.cells #[.bool x,.slice a2 n c2] 122))):=((Below.refl _ _).alloc (Nat.le_refl _) _).alloc (by simp) _
 have C:=hide (eqIs_same _ _ ls n B1 C1 B2 C2 _ hn hM (h1.blw HB.out) (h2.blw HB.out));clear h1 h2;go_enter Tryd.func70,Tryd.ntmps70;go_wp2_with fail;refine C.out.mono ?_;rintro e w1 ⟨rfl,b1⟩;have HW:=hide (HB.out.trans (b1.mono HB.out.size));clear b1 C HB;go_wp2;go_ret;exact⟨rfl,HW.out⟩
theorem eqKns_same(a b:Value)(rs ss:List Kw)(B1 C1 B2 C2:Nat)(w:World)(hM:rs.length≤1000000000000000000)(hll:∀r∈rs,r.2.2.length≤1000000000000000000)(ha:KIn B1 C1 a rs w)(hb:KIn B2 C2 b ss w)(he:rs.map ktell=ss.map ktell):
 Calls Tryd.prog 51 #[a,b] w fun e w'=>e=.returned (.bool true)∧Below w.heap.size w w':=by
 have hls:rs.length=ss.length:=by have:=congrArg List.length he;simpa using this
 obtain⟨ad,capa,rfl,a3⟩:=ha.1.form;obtain⟨bd,capb,rfl,b3⟩:=hb.1.form;obtain⟨n,hn⟩:∃n,rs.length=n:=⟨_,rfl⟩;have HN:=hide hn;have HSA:=hide ha;have HSB:=hide hb;have HE:=hide he;have HLL:=hide hll;rw[hn]at hls;rw[←hls]at b3 HSB⊢;rw[hn]at hM a3 HSA⊢;have A3:=hide a3;have B3:=hide b3;have HLS:=hide hls;clear a3 b3 ha hb hn he hll hls;go_enter Tryd.func51,Tryd.ntmps51;go_wp2;go_loopw [5] (fun iv wr=>∃k:Nat,k≤n∧iv=.int .i64 k∧Hid (Below w.heap.size w wr)) (fun iv _=>n-(intOf iv).toNat)
 case atStart=>exact⟨0,Nat.zero_le _,rfl,Below.refl _ _⟩
 case round=>
  obtain⟨k,hk,rfl,HW⟩:=hrel;by_cases hlt:(k:Int)<n
  ·obtain⟨ga,e,_,_⟩:=A3.out (by omega)
   subst e;obtain⟨gb,e,_,_⟩:=B3.out (by omega)
   subst e;have hkl:k<rs.length:=by have:=HN.out;omega
   have hkl2:k<ss.length:=by have:=HLS.out;omega
   obtain⟨r,hr⟩:∃r,rs[k]?=some r:=⟨_,List.getElem?_eq_getElem hkl⟩;obtain⟨s,hs⟩:∃s,ss[k]?=some s:=⟨_,List.getElem?_eq_getElem hkl2⟩;have hrs:ktell r=ktell s:=by
    have e:=congrArg (fun l=>l[k]?) HE.out
    simp only[List.getElem?_map,hr,hs,Option.map_some,Option.some.injEq]at e;exact e
   have SA:=(HSA.out.2.1 r (List.mem_of_getElem? hr)).1.blw HW.out;have SB:=(HSB.out.2.1 s (List.mem_of_getElem? hs)).1.blw HW.out;have hlr:=HLL.out r (List.mem_of_getElem? hr);have ha1:=HSA.out.1;have hb1:=HSB.out.1;rw[HN.out]at ha1;rw[←HLS.out]at hb1;have GA:=ha1.flt.below HW.out;have GB:=hb1.flt.below HW.out;clear ha1 hb1;have c0:=GA.cell (kncells_at rs k _ hr 0 _ rfl);have c1:=GA.cell (kncells_at rs k _ hr 1 _ rfl);have d0:=GB.cell (kncells_at ss k _ hs 0 _ rfl);have d1:=GB.cell (kncells_at ss k _ hs 1 _ rfl);obtain⟨rn,rv,rl⟩:=r;obtain⟨sn,sv,sl⟩:=s;simp only[ktell,Kn.mk.injEq]at hrs;obtain⟨rfl,rfl⟩:=hrs;simp only[Nat.add_zero]at SA SB c0 c1 d0 d1 hlr;obtain⟨m,hm⟩:∃m,rl.length=m:=⟨_,rfl⟩;rw[hm]at SA SB hlr;obtain⟨va,vc,rfl,-⟩:=SA.form;obtain⟨ua,uc,rfl,-⟩:=SB.form;have CE:=hide (eqKn_same rn m va ua vc uc rl _ _ _ _ wr.drew hm hlr (SA.blw (Below.refl _ _).drew) (SB.blw (Below.refl _ _).drew));have hsz:=HW.out.size;have k0:(0:Int)≤k:=by omega
   have gaw:ga<wr.heap.size:=World.block_lt_of_cell? wr _ c0;have gbw:gb<wr.heap.size:=World.block_lt_of_cell? wr _ d0;clear hr hs hkl hkl2 GA GB SA SB hm;go_wp2;go_region_held3 (fun w'=>w'.cell? ⟨ga,k*2,none⟩=some (.bool rn)∧w'.cell? ⟨ga,k*2+1,none⟩=some (.slice va m vc)∧w'.cell? ⟨gb,k*2,none⟩=some (.bool rn)∧w'.cell? ⟨gb,k*2+1,none⟩=some (.slice ua m uc)) (first|go_keep|exact⟨(b1.cell (show ga<wr.drew.heap.size from gaw)).trans c0,(b1.cell (show ga<wr.drew.heap.size from gaw)).trans c1,(b1.cell (show gb<wr.drew.heap.size from gbw)).trans d0,(b1.cell (show gb<wr.drew.heap.size from gbw)).trans d1⟩) ((go_at_call 70;(with_reducible refine Calls.mono CE.out ?_);rintro en w1 ⟨rfl,b1⟩))
   all_goals
    have HW1:=hide (HW.out.drew.trans (b1.mono (show w.heap.size≤wr.drew.heap.size from hsz)));clear b1 CE HW c0 c1 d0 d1;go_wp2;go_roundw
    case rel=>exact⟨k+1,by omega,by go_num,HW1⟩
    case measure=>simp[intOf];omega
  ·go_wp2;go_ret;exact⟨rfl,HW.out⟩
theorem eqAr_same(a b:Value)(rs ss:List Kw)(B1 C1 B2 C2:Nat)(w:World)(hM:rs.length≤1000000000000000000)(hll:∀r∈rs,r.2.2.length≤1000000000000000000)(ha:KIn B1 C1 a rs w)(hb:KIn B2 C2 b ss w)(he:rs.map ktell=ss.map ktell)(hC1:C1≤w.heap.size)(hC2:C2≤w.heap.size):
 Calls Tryd.prog 36 #[.agg #[a],.agg #[b]] w fun e w'=>e=.returned (.bool true)∧Below w.heap.size w w':=by
 obtain⟨ad,capa,rfl,a3⟩:=ha.1.form;obtain⟨bd,capb,rfl,b3⟩:=hb.1.form;have HB:Hid (Below w.heap.size w ((w.alloc (.cells #[.slice ad rs.length capa] 41)).alloc (.cells #[.slice bd ss.length capb] 41))):=((Below.refl _ _).alloc (Nat.le_refl _) _).alloc (by simp) _
 have C:=hide (eqKns_same _ _ rs ss B1 C1 B2 C2 _ hM hll (KIn.loc _ _ _ _ _ _ (fun i _ hi=>HB.out.block i (by omega)) ha) (KIn.loc _ _ _ _ _ _ (fun i _ hi=>HB.out.block i (by omega)) hb) he)
 obtain⟨n,hn⟩:∃n,rs.length=n:=⟨_,rfl⟩;obtain⟨m,hm⟩:∃m,ss.length=m:=⟨_,rfl⟩;rw[hn,hm]at C HB;rw[hn,hm];clear ha hb a3 b3 hll hn hm he hM;go_enter Tryd.func36,Tryd.ntmps36;go_wp2_with fail;refine C.out.mono ?_;rintro e w1 ⟨rfl,b1⟩;have HW:=hide (HB.out.trans (b1.mono HB.out.size));clear b1 C HB;go_wp2;go_ret;exact⟨rfl,HW.out⟩
end Go.Proofs.YtpdoponghlpkcaaDoor
