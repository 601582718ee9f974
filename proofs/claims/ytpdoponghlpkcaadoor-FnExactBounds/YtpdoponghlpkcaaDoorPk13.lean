/-
  TkKn; StsM; KnMkF; ArMkF; MkVl; MkSto; EqVl
-/
import Derived.Test.YtpdoponghlpkcaaDoorPk11
import Derived.Test.YtpdoponghlpkcaaDoorKnTo
import Derived.Test.YtpdoponghlpkcaaDoorPk10
import Derived.Deep.DeepCutAuto
import Derived.Deep.RegionHeld3
import Derived.Test.YtpdoponghlpkcaaDoorPk8
set_option maxHeartbeats 1000000
set_option maxRecDepth 100000
namespace Go.Proofs.YtpdoponghlpkcaaDoor
open Go.RowKit
open Words
def kend:Nat→List Kn→Nat
 |k,[]=>k
 |k,t::l=>kend (k+1+t.kids.length) l
def kkids(l:List Kn):Nat:=(l.map (fun t=>t.kids.length)).sum
theorem kend_eq:∀(l:List Kn) (k:Nat),kend k l=k+l.length+kkids l:=by
 intro l
 induction l with
 |nil=>intro k;simp[kend,kkids]
 |cons t l ih=>intro k;rw[kend,ih,List.length_cons];unfold kkids;rw[List.map_cons,List.sum_cons];omega
def OkK(M:List Kn):Prop:=M.length≤1048580∧(∀t∈M,t.kids.length≤1048576)∧kend 1 M≤1000000000
theorem kmem_sum{l:List Kn}{x:Kn}(h:x∈l):x.kids.length≤kkids l:=by
 unfold kkids
 induction l with
 |nil=>cases h
 |cons q l ih=>
  rw[List.map_cons,List.sum_cons];rcases List.mem_cons.1 h with e|e
  ·subst e;omega
  ·have:=ih e;omega
theorem OkK.of{M:List Kn}(h1:M.length≤1048576)(h2:kkids M≤1048576):OkK M:=
 ⟨by omega,fun t ht=>Nat.le_trans (kmem_sum ht) h2,by rw[kend_eq];omega⟩
theorem ksum_kids(rs:List Kw):kkids (rs.map ktell)=ksum rs:=by unfold kkids ksum;rw[List.map_map];rfl
theorem OkK.row{M:List Kn}{rs:List Kw}(ho:OkK M)(hr:rs.map ktell=M):rs.length≤1048580∧∀r∈rs,r.2.2.length≤1048576:=by
 refine⟨by have:=congrArg List.length hr;simp only[List.length_map]at this;rw[this];exact ho.1,fun r hr2=>?_⟩
 exact ho.2.1 (ktell r) (by rw[←hr];exact List.mem_map.2 ⟨r,hr2,rfl⟩)
theorem eqar_tk{w wi:World}{hs:List Hold}{a b:Value}{M:List Kn}{l1 h1 l2 h2:Nat}(T:Tk w wi hs)(n1 n2:Nat)(ho:OkK M)(e1:hs[n1]?=some (l1,h1,Kns l1 h1 a M))(e2:hs[n2]?=some (l2,h2,Kns l2 h2 b M)):
 Calls Tryd.prog 36 #[.agg #[a],.agg #[b]] wi fun e w'=>e=.returned (.bool true)∧Tk w w' hs∧wi.heap.size≤w'.heap.size:=by
 obtain⟨rs,hr,hx⟩:=T.get n1 e1;obtain⟨ss,hs',hy⟩:=T.get n2 e2;obtain⟨q1,q2⟩:=ho.row hr;refine(eqAr_same a b rs ss l1 h1 l2 h2 wi (by omega) (fun r hr=>by have:=q2 r hr;omega) hx hy (by rw[hr,hs']) (T.hi n1 e1) (T.hi n2 e2)).mono ?_
 rintro e w' ⟨rfl,hb⟩;exact⟨rfl,T.below hb,hb.size⟩
def Sts(lo hi:Nat)(v:Value)(s:Sto):World→Prop:=fun W=>
 ∃vv kv lo1 hi1 lo2 hi2,v=.agg #[vv,kv,.int .i64 s.next]∧Sli 100 lo1 hi1 vv s.vols.length (vlcells s.vols) W∧Kns lo2 hi2 kv s.kns W∧lo≤lo1∧hi1≤hi∧lo≤lo2∧hi2≤hi∧(hi1≤lo2∨hi2≤lo1)
theorem Sts.loc(lo hi:Nat)(v:Value)(s:Sto):Loc lo hi (Sts lo hi v s):=by
 rintro w w' hk ⟨vv,kv,lo1,hi1,lo2,hi2,e,h1,h2,h3,h4,h5,h6,h7⟩;exact⟨vv,kv,lo1,hi1,lo2,hi2,e,Sli.loc _ _ _ _ _ _ w w' (fun g g1 g2=>hk g (by omega) (by omega)) h1,Kns.loc _ _ _ _ w w' (fun g g1 g2=>hk g (by omega) (by omega)) h2,h3,h4,h5,h6,h7⟩
theorem StOut.sts{w w':World}{v:Value}{s:Sto}(h:StOut w s v w'):Sts w.heap.size w'.heap.size v s w':=by
 obtain⟨vv,kv,lo1,hi1,lo2,hi2,e,h1,h2,h3,h4,h5,h6,h7,-⟩:=h;exact⟨vv,kv,lo1,hi1,lo2,hi2,e,h1,h2,h3,h4,h5,h6,h7⟩
theorem Sts.rd{lo hi:Nat}{W:World}{v:Value}{s:Sto}(h:Sts lo hi v s W)(hf:s.Fit)(hh:hi≤W.heap.size):StIn W v s:=by
 obtain⟨vv,kv,lo1,hi1,lo2,hi2,rfl,h1,h2,h3,h4,h5,h6,h7⟩:=h;obtain⟨va,vc,rfl,h9,h10⟩:=VlSl.of h1 (by have:=hf.1;unfold maxLen;omega) (by omega)
 obtain⟨ad,cap,rfl⟩:=h2.form;obtain⟨rs,e,hr⟩:=h2.rd rfl (by omega)
 refine⟨va,s.vols.length,vc,ad,s.kns.length,cap,rs,rfl,e.symm,hf.1,hf.2.1,fun r hr=>?_,h9,h10,hr⟩
 exact hf.2.2 (ktell r) (by rw[←e];exact List.mem_map.2 ⟨r,hr,rfl⟩)
theorem Sts.form{lo hi:Nat}{W:World}{v:Value}{s:Sto}(h:Sts lo hi v s W):∃va vc ad cap,v=.agg #[.slice va s.vols.length vc,.slice ad s.kns.length cap,.int .i64 s.next]:=by
 obtain⟨vv,kv,lo1,hi1,lo2,hi2,rfl,h1,h2,-⟩:=h;obtain⟨va,vc,rfl,-⟩:=h1.form;obtain⟨ad,cap,rfl⟩:=h2.form;exact⟨_,_,_,_,rfl⟩
end Go.Proofs.YtpdoponghlpkcaaDoor
namespace Go.Proofs.YtpdoponghlpkcaaDoor
open Go.RowKit
theorem toVl_any(x0:Int)(x1:Int)(w:World):
 Calls Tryd.prog 43 #[.agg #[.int .i64 x0,.int .i64 x1]] w fun e w'=>e=.returned (.agg #[.int .i64 x0,.int .i64 x1])∧Below w.heap.size w w':=by
 go_enter Tryd.func43,Tryd.ntmps43;go_wp2;have h1:=heap_alloc_new (w.alloc (.cells #[.int .i64 x0,.int .i64 x1] 102)) (.cells #[.int .i64 x0,.int .i64 x1] 100);have hs:(w.alloc (.cells #[.int .i64 x0,.int .i64 x1] 102)).heap.size=w.heap.size+1:=by simp
 rw[hs]at h1;have h2:=(Below.heap_alloc ((w.alloc (.cells #[.int .i64 x0,.int .i64 x1] 102)).alloc (.cells #[.int .i64 x0,.int .i64 x1] 100)) (.cells #[.int .i64 x0,.int .i64 x1] 100) (w.heap.size+1) (by simp)).trans h1
 exact bodyPost_ret (results_cell_row rfl _ _ (w.heap.size+1) 100 _ (0,0) _ rfl h2 Tryd.underlying100 rfl infoVlz) rfl ⟨rfl,(((Below.refl _ _).alloc (Nat.le_refl _) _).alloc (by simp) _).alloc (by simp;omega) _⟩
theorem eqVl_same(x0:Int)(x1:Int)(w:World):
 Calls Tryd.prog 50 #[.agg #[.int .i64 x0,.int .i64 x1],.agg #[.int .i64 x0,.int .i64 x1]] w fun e w'=>e=.returned (.bool true)∧Below w.heap.size w w':=by
 have e0:(x0 !=x0)=false:=by simp
 have e1:(x1 !=x1)=false:=by simp
 go_enter Tryd.func50,Tryd.ntmps50;go_wp2;go_ret;exact⟨rfl,((Below.refl _ _).alloc (Nat.le_refl _) _).alloc (by simp) _⟩
theorem eqVls_same(a b:Value)(M:List (Int×Int))(B1 C1 B2 C2:Nat)(w:World)(hM:M.length≤1000000000000000000)(ha:Sli 100 B1 C1 a M.length (vlcells M) w)(hb:Sli 100 B2 C2 b M.length (vlcells M) w):
 Calls Tryd.prog 35 #[a,b] w fun e w'=>e=.returned (.bool true)∧Below w.heap.size w w':=by
 obtain⟨ad,capa,rfl,a3⟩:=ha.form;obtain⟨bd,capb,rfl,b3⟩:=hb.form;obtain⟨n,hn⟩:∃n,M.length=n:=⟨_,rfl⟩;have HN:=hide hn;have HSA:=hide ha;have HSB:=hide hb;rw[hn]at hM a3 b3 HSA HSB⊢;have A3:=hide a3;have B3:=hide b3;clear a3 b3 ha hb hn;go_enter Tryd.func35,Tryd.ntmps35;go_wp2;go_loopw [5] (fun iv wr=>∃k:Nat,k≤n∧iv=.int .i64 k∧Hid (Below w.heap.size w wr)) (fun iv _=>n-(intOf iv).toNat)
 case atStart=>exact⟨0,Nat.zero_le _,rfl,Below.refl _ _⟩
 case round=>
  obtain⟨k,hk,rfl,HW⟩:=hrel;by_cases hlt:(k:Int)<n
  ·obtain⟨ga,e,_,_⟩:=A3.out (by omega)
   subst e;obtain⟨gb,e,_,_⟩:=B3.out (by omega)
   subst e;have hkl:k<M.length:=by have:=HN.out;omega
   obtain⟨x0,x1,hx⟩:∃x0 x1,M[k]?=some (x0,x1):=⟨M[k].1,M[k].2,List.getElem?_eq_getElem hkl⟩;have GA:=HSA.out.flt.below HW.out;have GB:=HSB.out.flt.below HW.out;have c0:wr.cell? ⟨ga,k*2,none⟩=some (.int .i64 x0):=GA.cell (vlcells_at M k _ hx 0 _ rfl);have d0:wr.cell? ⟨gb,k*2,none⟩=some (.int .i64 x0):=GB.cell (vlcells_at M k _ hx 0 _ rfl);have c1:wr.cell? ⟨ga,k*2+1,none⟩=some (.int .i64 x1):=GA.cell (vlcells_at M k _ hx 1 _ rfl);have d1:wr.cell? ⟨gb,k*2+1,none⟩=some (.int .i64 x1):=GB.cell (vlcells_at M k _ hx 1 _ rfl);have k0:(0:Int)≤k:=by omega
   have CE:=hide (eqVl_same x0 x1 wr.drew);have CF:=hide (eqVl_same x0 x1 wr);have hsz:=HW.out.size;have gaw:ga<wr.heap.size:=World.block_lt_of_cell? wr _ c0;have gbw:gb<wr.heap.size:=World.block_lt_of_cell? wr _ d0;clear hx hkl GA GB
   first
    |(go_wp2_with fail
      refine CF.out.mono ?_;rintro e w1 ⟨rfl,b1⟩;have HW1:=hide (HW.out.trans (b1.mono hsz)))
    |(go_wp2
      go_region_held3 (fun w'=>w'.cell? ⟨ga,k*2,none⟩=some (.int .i64 x0)∧w'.cell? ⟨ga,k*2+1,none⟩=some (.int .i64 x1)∧w'.cell? ⟨gb,k*2,none⟩=some (.int .i64 x0)∧w'.cell? ⟨gb,k*2+1,none⟩=some (.int .i64 x1)) (first|go_keep|exact⟨(b1.cell (show ga<wr.drew.heap.size from gaw)).trans c0,(b1.cell (show ga<wr.drew.heap.size from gaw)).trans c1,(b1.cell (show gb<wr.drew.heap.size from gbw)).trans d0,(b1.cell (show gb<wr.drew.heap.size from gbw)).trans d1⟩) ((go_at_call 50;(with_reducible refine Calls.mono CE.out ?_);rintro en w1 ⟨rfl,b1⟩))
      have HW1:=hide (HW.out.drew.trans (b1.mono (show w.heap.size≤wr.drew.heap.size from hsz))))
   all_goals
    clear b1 CE CF HW c0 c1 d0 d1;go_wp2;go_roundw
    case rel=>exact⟨k+1,by omega,by go_num,HW1⟩
    case measure=>simp[intOf];omega
  ·go_wp2;go_ret;exact⟨rfl,HW.out⟩
end Go.Proofs.YtpdoponghlpkcaaDoor
