/-
  FEq; LawB; LawT
-/
import Derived.Test.YtpdoponghlpkcaaDoorPk5
import Derived.Test.YtpdoponghlpkcaaDoorFSz
import Derived.Test.YtpdoponghlpkcaaDoorFTo2
import Derived.Test.YtpdoponghlpkcaaDoorPk16
set_option maxHeartbeats 400000
set_option maxRecDepth 100000
namespace Go.Proofs.YtpdoponghlpkcaaDoor
open Go.RowKit
theorem eqLeaf_any(a:Int)(t:ByteArray)(w:World):
 Calls Tryd.prog 80 #[.agg #[.int .i64 a,.string t],.agg #[.int .i64 a,.string t]] w fun e w'=>e=.returned (.bool true)∧Below w.heap.size w w':=by
 have e1:(a !=a)=false:=by simp
 go_enter Tryd.func80,Tryd.ntmps80;go_wp2;go_ret;exact⟨rfl,((Below.refl _ _).alloc (Nat.le_refl _) _).alloc (by simp) _⟩
theorem eqLeafS_any(a b:Value)(ls:List (Int×ByteArray))(B1 B2:Nat)(w:World)(hl:ls.length≤1048576)(ha:w.ownsRow B1 66 2 a ls.length (lcells ls))(hb:w.ownsRow B2 66 2 b ls.length (lcells ls)):
 Calls Tryd.prog 69 #[a,b] w fun e w'=>e=.returned (.bool true)∧Below w.heap.size w w':=by
 obtain⟨ad,capa,rfl,a1,a2,a3⟩:=frow_form ha;obtain⟨bd,capb,rfl,b1,b2,b3⟩:=frow_form hb;unfold maxLen at a2 b2;have A3:=hide a3;have B3:=hide b3;have HA:=hide ha;have HB:=hide hb;clear a3 b3 ha hb;go_enter Tryd.func69,Tryd.ntmps69;go_wp2;go_loopw [5] (fun iv wr=>∃k:Nat,k≤ls.length∧iv=.int .i64 k∧Hid (Below w.heap.size w wr)) (fun iv _=>ls.length-(intOf iv).toNat)
 case atStart=>exact⟨0,Nat.zero_le _,rfl,Below.refl _ _⟩
 case round=>
  obtain⟨k,hk,rfl,HW⟩:=hrel;by_cases hlt:(k:Int)<ls.length
  ·obtain⟨ga,rfl,_,hga⟩:=A3.out (by omega)
   obtain⟨gb,rfl,_,hgb⟩:=B3.out (by omega)
   have hkl:k<ls.length:=by omega
   obtain⟨x,t,ht⟩:∃x t,ls[k]?=some (x,t):=⟨ls[k].1,ls[k].2,List.getElem?_eq_getElem hkl⟩;obtain⟨c1,c2⟩:=lown_cells (own_below HA.out HW.out) ht;obtain⟨d1,d2⟩:=lown_cells (own_below HB.out HW.out) ht;simp only at c1 c2 d1 d2;have k0:(0:Int)≤k:=by omega
   have hga2:ga<wr.heap.size:=Nat.lt_of_lt_of_le hga HW.out.size;have hgb2:gb<wr.heap.size:=Nat.lt_of_lt_of_le hgb HW.out.size;clear ht;go_wp2;go_region_held3 (fun w'=>w'.cell? ⟨ga,k*2,none⟩=some (.int .i64 x)∧w'.cell? ⟨ga,k*2+1,none⟩=some (.string t)∧w'.cell? ⟨gb,k*2,none⟩=some (.int .i64 x)∧w'.cell? ⟨gb,k*2+1,none⟩=some (.string t)) (first|go_keep|exact⟨(hb1.cell (show ga<wr.heap.size from hga2)).trans c1,(hb1.cell (show ga<wr.heap.size from hga2)).trans c2,(hb1.cell (show gb<wr.heap.size from hgb2)).trans d1,(hb1.cell (show gb<wr.heap.size from hgb2)).trans d2⟩) ((go_at_call 80;refine(eqLeaf_any x t _).mono ?_;rintro e w1 ⟨rfl,hb1⟩))
   have HW2:=hide (HW.out.drew.trans (hb1.mono (by have:=HW.out.size;exact this)))
   clear hb1 HW c1 c2 d1 d2;go_wp2;go_roundw
   case rel=>exact⟨k+1,by omega,by go_num,HW2⟩
   case measure=>simp[intOf];omega
  ·go_wp2;go_ret;exact⟨rfl,HW.out⟩
theorem eqBlock_any(x:Bool)(y:Int)(a b:Value)(ls:List (Int×ByteArray))(B1 B2:Nat)(w:World)(hl:ls.length≤1048576)(ha:w.ownsRow B1 66 2 a ls.length (lcells ls))(hb:w.ownsRow B2 66 2 b ls.length (lcells ls)):
 Calls Tryd.prog 49 #[.agg #[.bool x,.int .i64 y,a],.agg #[.bool x,.int .i64 y,b]] w fun e w'=>e=.returned (.bool true)∧Below w.heap.size w w':=by
 have e1:(y !=y)=false:=by simp
 have e2:(x !=x)=false:=by simp
 obtain⟨ad,capa,rfl,-⟩:=frow_form ha;obtain⟨bd,capb,rfl,-⟩:=frow_form hb;have HA:=hide ((ha.alloc (.cells #[.bool x,.int .i64 y,.slice ad ls.length capa] 54)).alloc (.cells #[.bool x,.int .i64 y,.slice bd ls.length capb] 54));have HB:=hide ((hb.alloc (.cells #[.bool x,.int .i64 y,.slice ad ls.length capa] 54)).alloc (.cells #[.bool x,.int .i64 y,.slice bd ls.length capb] 54));have HW:=hide (((Below.refl w.heap.size w).alloc (Nat.le_refl _) (.cells #[.bool x,.int .i64 y,.slice ad ls.length capa] 54)).alloc (by simp) (.cells #[.bool x,.int .i64 y,.slice bd ls.length capb] 54))
 clear ha hb;go_enter Tryd.func49,Tryd.ntmps49;go_wp2_with fail;refine(eqLeafS_any _ _ ls _ _ _ hl HA.out HB.out).mono ?_;rintro e w1 ⟨rfl,hb1⟩;have HW1:=hide (HW.out.trans (hb1.mono HW.out.size));clear hb1;go_wp2;go_ret;exact⟨rfl,HW1.out⟩
theorem tell_at{rs ss:List Rw}(h:rs.map tellOf=ss.map tellOf)(k:Nat)(r:Rw)(hr:rs[k]?=some r):∃s,ss[k]?=some s∧tellOf r=tellOf s:=by
 have h1:=congrArg (fun l:List Bk=>l[k]?) h
 simp only[List.getElem?_map,hr,Option.map_some]at h1;cases hs:ss[k]? with
 |none=>rw[hs]at h1;cases h1
 |some s=>
  rw[hs]at h1;exact⟨s,rfl,by simpa using h1⟩
theorem eqBlockS_any(a b:Value)(rs ss:List Rw)(l1 h1 l2 h2:Nat)(w:World)(hl:rs.length≤1048576)(hll:∀r∈rs,r.2.2.2.length≤1048576)(ha:FlashIn w l1 h1 a rs)(hb:FlashIn w l2 h2 b ss)(hh1:h1≤w.heap.size)(hh2:h2≤w.heap.size)(he:rs.map tellOf=ss.map tellOf):
 Calls Tryd.prog 34 #[a,b] w fun e w'=>e=.returned (.bool true)∧Below w.heap.size w w':=by
 have hlen:ss.length=rs.length:=by have:=congrArg List.length he;simpa using this.symm
 have ha1:=ha.1;have hb1:=hb.1;rw[hlen]at hb1;obtain⟨ad,capa,rfl,a1,a2,a3⟩:=frow_form ha1;obtain⟨bd,capb,rfl,b1,b2,b3⟩:=frow_form hb1;unfold maxLen at a2 b2;have A3:=hide a3;have B3:=hide b3;have HA:=hide ha;have HB:=hide hb;have HE:=hide he;have HLL:=hide hll;have HLEN:=hide hlen;clear a3 b3 ha hb ha1 hb1 he hll hlen;go_enter Tryd.func34,Tryd.ntmps34;go_wp2;go_loopw [5] (fun iv wr=>∃k:Nat,k≤rs.length∧iv=.int .i64 k∧Hid (Below w.heap.size w wr)) (fun iv _=>rs.length-(intOf iv).toNat)
 case atStart=>exact⟨0,Nat.zero_le _,rfl,Below.refl _ _⟩
 case round=>
  obtain⟨k,hk,rfl,HW⟩:=hrel;by_cases hlt:(k:Int)<rs.length
  ·obtain⟨ga,rfl,_,hga⟩:=A3.out (by omega)
   obtain⟨gb,rfl,_,hgb⟩:=B3.out (by omega)
   have hkl:k<rs.length:=by omega
   obtain⟨x,y,u,ls,hr⟩:∃x y u ls,rs[k]?=some (x,y,u,ls):=⟨rs[k].1,rs[k].2.1,rs[k].2.2.1,rs[k].2.2.2,List.getElem?_eq_getElem hkl⟩;obtain⟨⟨x',y',u',ls'⟩,hs,hts⟩:=tell_at HE.out k _ hr;simp only[tellOf,Prod.mk.injEq]at hts;obtain⟨rfl,rfl,rfl⟩:=hts;have FA:=HA.out.below HW.out hh1;have FB:=HB.out.below HW.out hh2;have FB1:=FB.1;rw[HLEN.out]at FB1;obtain⟨c1,c2,c3⟩:=kown_cells (t:=(x,y,u)) FA.1 (by rw[List.getElem?_map,hr];rfl)
   obtain⟨d1,d2,d3⟩:=kown_cells (t:=(x,y,u')) FB1 (by rw[List.getElem?_map,hs];rfl)
   simp only at c1 c2 c3 d1 d2 d3;have LA:=(FA.2.2.1 _ (List.mem_of_getElem? hr)).1;have LB:=(FB.2.2.1 _ (List.mem_of_getElem? hs)).1;have hlk:=HLL.out _ (List.mem_of_getElem? hr);simp only at LA LB hlk;have CE:Hid (Calls Tryd.prog 49 #[.agg #[.bool x,.int .i64 y,u],.agg #[.bool x,.int .i64 y,u']] wr.drew fun e w'=>e=.returned (.bool true)∧Below wr.drew.heap.size wr.drew w'):=eqBlock_any x y u u' ls l1 l2 wr.drew hlk (own_below LA (Below.refl _ _).drew) (own_below LB (Below.refl _ _).drew)
   obtain⟨ua,uc,rfl,-⟩:=frow_form LA;obtain⟨va,vc,rfl,-⟩:=frow_form LB;have k0:(0:Int)≤k:=by omega
   have hga2:ga<wr.heap.size:=Nat.lt_of_lt_of_le hga HW.out.size;have hgb2:gb<wr.heap.size:=Nat.lt_of_lt_of_le hgb HW.out.size;clear hr hs FA FB FB1 LA LB;go_wp2;go_region_held3 (fun w'=>w'.cell? ⟨ga,k*3,none⟩=some (.bool x)∧w'.cell? ⟨ga,k*3+1,none⟩=some (.int .i64 y)∧w'.cell? ⟨ga,k*3+2,none⟩=some (.slice ua ls.length uc)∧w'.cell? ⟨gb,k*3,none⟩=some (.bool x)∧w'.cell? ⟨gb,k*3+1,none⟩=some (.int .i64 y)∧w'.cell? ⟨gb,k*3+2,none⟩=some (.slice va ls.length vc)) (first|go_keep|exact⟨(hb1.cell (show ga<wr.heap.size from hga2)).trans c1,(hb1.cell (show ga<wr.heap.size from hga2)).trans c2,(hb1.cell (show ga<wr.heap.size from hga2)).trans c3,(hb1.cell (show gb<wr.heap.size from hgb2)).trans d1,(hb1.cell (show gb<wr.heap.size from hgb2)).trans d2,(hb1.cell (show gb<wr.heap.size from hgb2)).trans d3⟩) ((go_at_call 49;(with_reducible refine Calls.mono CE.out ?_);rintro e w1 ⟨rfl,hb1⟩))
   have HW2:=hide (HW.out.drew.trans (hb1.mono (by have:=HW.out.size;exact this)))
   clear hb1 HW c1 c2 c3 d1 d2 d3 CE;go_wp2;go_roundw
   case rel=>exact⟨k+1,by omega,by go_num,HW2⟩
   case measure=>simp[intOf];omega
  ·go_wp2;go_ret;exact⟨rfl,HW.out⟩
theorem eqFlash_any(a b:Value)(rs ss:List Rw)(l1 h1 l2 h2:Nat)(w:World)(hl:rs.length≤1048576)(hll:∀r∈rs,r.2.2.2.length≤1048576)(ha:FlashIn w l1 h1 a rs)(hb:FlashIn w l2 h2 b ss)(hh1:h1≤w.heap.size)(hh2:h2≤w.heap.size)(he:rs.map tellOf=ss.map tellOf):
 Calls Tryd.prog 19 #[.agg #[a],.agg #[b]] w fun e w'=>e=.returned (.bool true)∧Below w.heap.size w w':=by
 have ha1:=ha.1;have hb1:=hb.1;obtain⟨ad,capa,rfl,-⟩:=frow_form ha1;obtain⟨bd,capb,rfl,-⟩:=frow_form hb1;have HW:=hide (((Below.refl w.heap.size w).alloc (Nat.le_refl _) (.cells #[.slice ad rs.length capa] 37)).alloc (by simp) (.cells #[.slice bd ss.length capb] 37))
 have HA:=hide (ha.below HW.out hh1);have HB:=hide (hb.below HW.out hh2);have HE:=hide he;have HLL:=hide hll;clear ha hb ha1 hb1 he hll;go_enter Tryd.func19,Tryd.ntmps19;go_wp2_with fail;refine(eqBlockS_any _ _ rs ss l1 h1 l2 h2 _ hl HLL.out HA.out HB.out (by simp;omega) (by simp;omega) HE.out).mono ?_
 rintro e w1 ⟨rfl,hb1⟩;have HW1:=hide (HW.out.trans (hb1.mono HW.out.size));clear hb1;go_wp2;go_ret;exact⟨rfl,HW1.out⟩
def endK:Nat→List Bk→Nat
 |k,[]=>k
 |k,r::rs=>endK (k+2+2*r.2.2.length) rs
theorem endK_tell(k:Nat)(rs:List Rw):endK k (rs.map tellOf)=endB k rs:=by
 induction rs generalizing k with
 |nil=>rfl
 |cons r rs ih=>simp only[List.map_cons,endK,endB,tellOf];exact ih _
def Okk(bs:List Bk):Prop:=bs.length≤1048576∧(∀r∈bs,r.2.2.length≤1048576)∧endK 1 bs≤1000000000
def TxK(bs:List Bk):Prop:=∀r∈bs,∀t∈r.2.2,t.2.size≤1048576
theorem meas{rs:List Rw}{r:Int}(h0:0≤r)(h:2*r+endB 1 rs≤2*(1048576:Nat)+1):rs.length≤1048576∧(∀q∈rs,q.2.2.2.length≤1048576)∧Okk (rs.map tellOf):=by
 have h1:=endB_len 1 rs;have h2:∀q∈rs,q.2.2.2.length≤1048576:=fun q hq=>by
  have:=endB_one 1 rs q hq;omega
 refine⟨by omega,h2,by rw[List.length_map];omega,fun r hr=>?_,by rw[endK_tell];omega⟩
 obtain⟨q,hq,rfl⟩:=List.mem_map.1 hr;exact h2 q hq
theorem tx_tell{rs:List Rw}(h:TxB rs):TxK (rs.map tellOf):=by
 intro r hr;obtain⟨q,hq,rfl⟩:=List.mem_map.1 hr;exact h q hq
def Inn(w:World)(lo hi:Nat)(v:Value)(bs:List Bk):Prop:=∃ss,ss.map tellOf=bs∧FlashIn w lo hi v ss
theorem Inn.lens{w:World}{lo hi:Nat}{v:Value}{bs:List Bk}(h:Inn w lo hi v bs)(ho:Okk bs):∃ss,ss.map tellOf=bs∧FlashIn w lo hi v ss∧ss.length≤1048576∧(∀q∈ss,q.2.2.2.length≤1048576)∧endB 1 ss=endK 1 bs:=by
 obtain⟨ss,rfl,hs⟩:=h;refine⟨ss,rfl,hs,by simpa using ho.1,fun q hq=>ho.2.1 _ (List.mem_map_of_mem (f:=tellOf) hq),(endK_tell 1 ss).symm⟩
theorem eq_of(a b:Value)(bs:List Bk)(l1 h1 l2 h2:Nat)(w:World)(ho:Okk bs)(ha:h1≤w.heap.size∧Inn w l1 h1 a bs)(hb:h2≤w.heap.size∧Inn w l2 h2 b bs):
 Calls Tryd.prog 19 #[.agg #[a],.agg #[b]] w fun e w'=>e=.returned (.bool true)∧Below w.heap.size w w':=by
 obtain⟨rs,e1,i1,l,ll,-⟩:=ha.2.lens ho;obtain⟨ss,e3,i2⟩:=hb.2;exact eqFlash_any a b rs ss _ _ _ _ w l ll i1 i2 ha.1 hb.1 (e1.trans e3.symm)
end Go.Proofs.YtpdoponghlpkcaaDoor
