/-
  TkKn; StsM; KnMkF; ArMkF; MkVl; MkSto; EqVl; ToVlS
-/
import Derived.Test.YtiicghepilbgfaaGreatDoorPk40
import Derived.Test.YtiicghepilbgfaaGreatDoorKnTo
import Derived.Test.YtiicghepilbgfaaGreatDoorPk12
import Derived.Deep.DeepCutAuto
import Derived.Deep.RegionHeld3
import Derived.Test.YtiicghepilbgfaaGreatDoorPk1
import Derived.Test.YtiicghepilbgfaaGreatDoorPk0
import Derived.Test.YtiicghepilbgfaaGreatDoorPk11
set_option maxHeartbeats 2000000
set_option maxRecDepth 100000
namespace Go.Proofs.YtiicghepilbgfaaGreatDoor
open Go.RowKit
open Words
def kend:Nat→List Kn→Nat
 |k,[]=>k
 |k,t::l=>kend (k+1+t.kids.length) l
def kkids(l:List Kn):Nat:=(l.map (fun t=>t.kids.length)).sum
theorem kend_eq:∀(l:List Kn) (k:Nat),kend k l=k+l.length+kkids l:=by
 intro l
 induction l with
 |nil=>intro k;simp[kend,kkids]
 |cons t l ih=>intro k;rw[kend,ih,List.length_cons];unfold kkids;rw[List.map_cons,List.sum_cons];omega
theorem vend_kend:∀(rs:List Kw) (k:Nat),vend k (rs.map vOf)=kend k (rs.map ktell):=by
 intro rs
 induction rs with
 |nil=>intro k;rfl
 |cons r rs ih=>intro k;simp only[List.map_cons,vend,kend,ih];rfl
def OkK(M:List Kn):Prop:=M.length≤1048580∧(∀t∈M,t.kids.length≤1048576)∧kend 1 M≤1000000000
theorem kmem_sum{l:List Kn}{x:Kn}(h:x∈l):x.kids.length≤kkids l:=by
 unfold kkids
 induction l with
 |nil=>cases h
 |cons q l ih=>
  rw[List.map_cons,List.sum_cons];rcases List.mem_cons.1 h with e|e
  ·subst e;omega
  ·have:=ih e;omega
theorem OkK.of{M:List Kn}(h1:M.length≤1048576)(h2:kkids M≤1048576):OkK M:=
 ⟨by omega,fun t ht=>Nat.le_trans (kmem_sum ht) h2,by rw[kend_eq];omega⟩
theorem ksum_kids(rs:List Kw):kkids (rs.map ktell)=ksum rs:=by unfold kkids ksum;rw[List.map_map];rfl
theorem OkK.row{M:List Kn}{rs:List Kw}(ho:OkK M)(hr:rs.map ktell=M):rs.length≤1048580∧∀r∈rs,r.2.2.length≤1048576:=by
 refine⟨by have:=congrArg List.length hr;simp only[List.length_map]at this;rw[this];exact ho.1,fun r hr2=>?_⟩
 exact ho.2.1 (ktell r) (by rw[←hr];exact List.mem_map.2 ⟨r,hr2,rfl⟩)
theorem eqar_tk{w wi:World}{hs:List Hold}{a b:Value}{M:List Kn}{l1 h1 l2 h2:Nat}(T:Tk w wi hs)(n1 n2:Nat)(ho:OkK M)(e1:hs[n1]?=some (l1,h1,Kns l1 h1 a M))(e2:hs[n2]?=some (l2,h2,Kns l2 h2 b M)):
 Calls Tryz.prog 55 #[.agg #[a],.agg #[b]] wi fun e w'=>e=.returned (.bool true)∧Tk w w' hs∧wi.heap.size≤w'.heap.size:=by
 obtain⟨rs,hr,hx⟩:=T.get n1 e1;obtain⟨ss,hs',hy⟩:=T.get n2 e2;obtain⟨q1,q2⟩:=ho.row hr;refine(eqAr_same a b rs ss l1 h1 l2 h2 wi (by omega) (fun r hr=>by have:=q2 r hr;omega) hx hy (by rw[hr,hs']) (T.hi n1 e1) (T.hi n2 e2)).mono ?_
 rintro e w' ⟨rfl,hb⟩;exact⟨rfl,T.below hb,hb.size⟩
def Sts(lo hi:Nat)(v:Value)(s:Sto):World→Prop:=fun W=>
 ∃vv kv lo1 hi1 lo2 hi2,v=.agg #[vv,kv,.int .i64 s.next]∧Sli 72 lo1 hi1 vv s.vols.length (vlcells s.vols) W∧Kns lo2 hi2 kv s.kns W∧lo≤lo1∧hi1≤hi∧lo≤lo2∧hi2≤hi∧(hi1≤lo2∨hi2≤lo1)
theorem Sts.loc(lo hi:Nat)(v:Value)(s:Sto):Loc lo hi (Sts lo hi v s):=by
 rintro w w' hk ⟨vv,kv,lo1,hi1,lo2,hi2,e,h1,h2,h3,h4,h5,h6,h7⟩;exact⟨vv,kv,lo1,hi1,lo2,hi2,e,Sli.loc _ _ _ _ _ _ w w' (fun g g1 g2=>hk g (by omega) (by omega)) h1,Kns.loc _ _ _ _ w w' (fun g g1 g2=>hk g (by omega) (by omega)) h2,h3,h4,h5,h6,h7⟩
theorem StOut.sts{w w':World}{v:Value}{s:Sto}(h:StOut w s v w'):Sts w.heap.size w'.heap.size v s w':=by
 obtain⟨vv,kv,lo1,hi1,lo2,hi2,e,h1,h2,h3,h4,h5,h6,h7,-⟩:=h;exact⟨vv,kv,lo1,hi1,lo2,hi2,e,h1,h2,h3,h4,h5,h6,h7⟩
theorem Sts.rd{lo hi:Nat}{W:World}{v:Value}{s:Sto}(h:Sts lo hi v s W)(hf:s.Fit)(hh:hi≤W.heap.size):StIn W v s:=by
 obtain⟨vv,kv,lo1,hi1,lo2,hi2,rfl,h1,h2,h3,h4,h5,h6,h7⟩:=h;obtain⟨va,vc,rfl,h9,h10⟩:=VlSl.of h1 (by have:=hf.1;unfold maxLen;omega) (by omega)
 obtain⟨ad,cap,rfl⟩:=h2.form;obtain⟨rs,e,hr⟩:=h2.rd rfl (by omega)
 refine⟨va,s.vols.length,vc,ad,s.kns.length,cap,rs,rfl,e.symm,hf.1,hf.2.1,fun r hr=>?_,h9,h10,hr⟩
 exact hf.2.2 (ktell r) (by rw[←e];exact List.mem_map.2 ⟨r,hr,rfl⟩)
theorem Sts.form{lo hi:Nat}{W:World}{v:Value}{s:Sto}(h:Sts lo hi v s W):∃va vc ad cap,v=.agg #[.slice va s.vols.length vc,.slice ad s.kns.length cap,.int .i64 s.next]:=by
 obtain⟨vv,kv,lo1,hi1,lo2,hi2,rfl,h1,h2,-⟩:=h;obtain⟨va,vc,rfl,-⟩:=h1.form;obtain⟨ad,cap,rfl⟩:=h2.form;exact⟨_,_,_,_,rfl⟩
theorem markKns_from(k0:Nat)(h0:0<k0)(lo hi:Nat)(a:Value)(ys:List Vw)(w:World)(hl:ys.length≤1048580)(hll:∀y∈ys,y.2.2.1≤1048576∧y.2.2.2.length=y.2.2.1)(he:vend k0 ys≤1000000000)(ha:VIn lo hi a ys w):
 Calls Tryz.prog 82 #[a,.int .i64 (k0:Int)] w fun e w'=>e=.returned (.int .i64 ((vend k0 ys:Nat):Int))∧Hid (VIn lo hi a (vmk k0 ys) w')∧Hid (Kept2 w w' (Apt lo hi)):=by
 obtain⟨ad,ca,rfl,a3⟩:=ha.1.form;have A3:=hide a3;have HA:=hide ha;have HLL:=hide hll;have HE:=hide he;clear a3 ha hll he;obtain⟨n,hn⟩:∃n,ys.length=n:=⟨_,rfl⟩;have HN:=hide hn;rw[hn]at hl A3 HA⊢;clear hn;go_enter Tryz.func82,Tryz.ntmps82;go_wp2;go_loopw [1,5] (fun kv iv wr=>∃j p:Nat,j≤n∧iv=.int .i64 j∧kv=.int .i64 (p:Int)∧Hid (p=vend k0 (ys.take j))∧Hid (VIn lo hi (.slice ad n ca) (vmk k0 (ys.take j)++ys.drop j) wr)∧Hid (Kept2 w wr (Apt lo hi))) (fun _ iv _=>n-(intOf iv).toNat)
 case atStart=>exact⟨0,k0,Nat.zero_le _,rfl,rfl,rfl,HA,Kept2.refl _ _⟩
 case round=>
  obtain⟨j,p,hj,rfl,rfl,HP,HO,HW⟩:=hrel;have hp0:0<p:=by have:=vend_le (ys.take j) k0;have:=HP.out;omega
  have hp1:p≤1000000000:=by have:=vend_take ys k0 j;have:=HP.out;have:=HE.out;omega
  by_cases hlt:(j:Int)<n
  ·obtain⟨ga,e,g1,g2⟩:=A3.out (by omega)
   subst e;have hjl:j<ys.length:=by have:=HN.out;omega
   obtain⟨y,hy⟩:∃y,ys[j]?=some y:=⟨_,List.getElem?_eq_getElem hjl⟩;have hlm:(vmk k0 (ys.take j)).length=j:=by rw[vmk_len,List.length_take];omega
   have hms:=vmk_set (k:=k0) hy;have hend:=vend_succ (k:=k0) hy;rw[←HP.out]at hms hend;obtain⟨cur,hcur⟩:∃cur,vmk k0 (ys.take j)++ys.drop j=cur:=⟨_,rfl⟩;have hcl:cur.length=n:=by rw[←hcur,List.length_append,hlm,List.length_drop,HN.out];omega
   have hcj:cur[j]?=some y:=by
    rw[←hcur,List.getElem?_append_right (by omega),hlm,Nat.sub_self,List.getElem?_drop,Nat.add_zero,hy]
   rw[hcur]at hms HO;obtain⟨hy1,hy2⟩:=HLL.out y (List.mem_of_getElem? hy);obtain⟨x0,sv,m,xs⟩:=y;simp only at hms hend hy1 hy2;have HO1:=HO.out.1;rw[hcl]at HO1;have c0:wr.cell? ⟨ga,j*2,none⟩=some (.bool x0):=HO1.flt.cell (vcells_at cur j _ hcj 0 _ rfl);have c1:wr.cell? ⟨ga,j*2+1,none⟩=some sv:=HO1.flt.cell (vcells_at cur j _ hcj 1 _ rfl);have f0:=HO1.flt.frozen (j*2);have F2:=HO.out.flag hcl hcj (lfm p);simp only at F2;have hc2:(cur.set j (lfm p,sv,m,xs))[j]?=some (lfm p,sv,m,xs):=by rw[List.getElem?_set_self (by omega)]
   have LL:=F2.2.1 _ (List.mem_of_getElem? hc2);simp only at LL;obtain⟨sa,sc,rfl,-⟩:=LL.form;have K2:Kept2 w (wr.setCell ⟨ga,j*2,none⟩ (.bool (lfm p))) (Apt lo hi):=HW.out.trans (Kept2.grown (ok:=Apt lo hi) (grown_cell wr ga (j*2) (.bool (lfm p))) (fun i hi' hok=>by cases hi';exact hok ⟨g1,g2⟩))
   obtain⟨W2,hW2⟩:∃W2,wr.setCell ⟨ga,j*2,none⟩ (.bool (lfm p))=W2:=⟨_,rfl⟩;rw[hW2]at F2 LL K2;have CM:Hid (Calls Tryz.prog 117 #[.slice sa m sc,.int .i64 ((p+1:Nat):Int)] W2 fun e w'=>e=.returned (.int .i64 ((p+1+m:Nat):Int))∧Hid (VIn lo hi (.slice (some ⟨ga,0,none⟩) n ca) (vmk k0 (ys.take (j+1))++ys.drop (j+1)) w')∧Hid (Kept2 w w' (Apt lo hi))):=by
    refine(markIs_any lo hi (.slice sa m sc) m (p+1) xs W2 (by omega) hy2 (by omega) (by omega) LL).mono ?_
    rintro e w' ⟨rfl,hs,hk⟩;refine⟨rfl,?_,?_⟩
    ·have F3:=F2.inner hc2 (mkFlat patI (p+1) m) hk.out hs.out;rw[List.set_set]at F3;simp only at F3;rw[hms]at F3;exact F3
    ·refine K2.trans ⟨hk.out.1,hk.out.2.1,hk.out.2.2.1,hk.out.2.2.2.1,fun i hi' hok=>hk.out.2.2.2.2 i hi' (fun e=>?_)⟩
     have:=LL.lt i e;exact hok ⟨this.1,this.2.1⟩
   have HP2:Hid (p+1+m=vend k0 (ys.take (j+1))):=hend.symm;have e1:(p:Int)+1=((p+1:Nat):Int):=by omega
   have j0:(0:Int)≤j:=by omega
   have HW2:=hide hW2;clear hy hlm hms hend hcur hcl hcj hy1 hy2 HO1 F2 hc2 LL K2 HO HW HP hW2;obtain⟨p1,hp1'⟩:∃p1,p+1=p1:=⟨_,rfl⟩;rw[hp1']at e1 CM HP2;have hb1:p1≤1000000001:=by omega
   clear hp1';unfold lfm at HW2;go_wp2_with fail;rw[HW2.out];refine CM.out.mono ?_;rintro e w5 ⟨rfl,HF5,HK5⟩;clear CM HW2;obtain⟨p3,hp3⟩:∃p3,p1+m=p3:=⟨_,rfl⟩;rw[hp3]at HP2⊢;clear hp3 c0 c1 f0;go_wp2;go_roundw
   case rel=>exact⟨j+1,p3,by omega,by go_num,by first|rfl|go_num,HP2,HF5,HK5⟩
   case measure=>simp[intOf];omega
  ·have hje:j=ys.length:=by have:=HN.out;omega
   have hO:=HO.out;rw[hje,List.drop_length,List.append_nil,List.take_length]at hO;have hP:=HP.out;rw[hje,List.take_length]at hP;have HO2:=hide hO;have E:Hid ((p:Int)=((vend k0 ys:Nat):Int)):=by show _=_;rw[hP]
   clear hO hje HO hP HP;go_wp2;go_ret;exact⟨congrArg (fun x=>Ending.returned (.int .i64 x)) E.out,HO2,HW⟩
theorem markAr_from(k0:Nat)(h0:0<k0)(lo hi:Nat)(a:Value)(ys:List Vw)(w:World)(hl:ys.length≤1048580)(hll:∀y∈ys,y.2.2.1≤1048576∧y.2.2.2.length=y.2.2.1)(he:vend k0 ys≤1000000000)(hh:hi≤w.heap.size)(ha:VIn lo hi a ys w):
 Calls Tryz.prog 58 #[.agg #[a],.int .i64 (k0:Int)] w fun e w'=>e=.returned (.int .i64 ((vend k0 ys:Nat):Int))∧Hid (VIn lo hi a (vmk k0 ys) w')∧Hid (Kept2 w w' (Apt lo hi)):=by
 obtain⟨ad,ca,rfl,a3⟩:=ha.1.form;have bA:=(Below.refl w.heap.size w).alloc (Nat.le_refl _) (.cells #[.slice ad ys.length ca] 53);have C:=hide (markKns_from k0 h0 lo hi _ ys _ hl hll he (VIn.loc _ _ _ _ _ _ (fun i _ hi=>bA.block i (by omega)) ha))
 have HK:=hide (Kept2.below (ok:=Apt lo hi) bA);obtain⟨n,hn⟩:∃n,ys.length=n:=⟨_,rfl⟩;obtain⟨m,hm⟩:∃m,vend k0 ys=m:=⟨_,rfl⟩;rw[hn,hm]at C;rw[hn]at HK;rw[hn,hm];clear ha hll a3 bA he hm hn hl;go_enter Tryz.func58,Tryz.ntmps58;go_wp2_with fail;refine C.out.mono ?_;rintro e w1 ⟨rfl,hv,hk⟩;have K2:=hide (HK.out.trans hk.out);clear C hk HK;go_wp2;go_ret;exact⟨rfl,hv,K2⟩
end Go.Proofs.YtiicghepilbgfaaGreatDoor
namespace Go.Proofs.YtiicghepilbgfaaGreatDoor
open Go.RowKit
def patVl:List Bool:=[false,false]
theorem markVl_any(lo hi:Nat)(a:Value)(n k0:Nat)(xs:List Value)(w:World)(hn:n≤1000000000)(hxs:xs.length=n*2)(hk0:0<k0)(hk1:k0≤100000000000)(hh:hi≤w.heap.size)(ha:Sli 72 lo hi a n xs w):
 Calls Tryz.prog 57 #[a,.int .i64 (k0:Int)] w fun e w'=>e=.returned (.int .i64 ((k0+n*2:Nat):Int))∧Hid (Sli 72 lo hi a n (mkFlat patVl k0 n) w')∧Hid (Kept2 w w' (Apt lo hi)):=by
 obtain⟨ad,ca,rfl,a3⟩:=ha.form;have A3:=hide a3;obtain⟨M,hM⟩:∃M,mkFlat patVl k0 n=M:=⟨_,rfl⟩;have HML:Hid (M.length=xs.length):=by show _=_;rw[←hM,mkFlat_len,hxs];rfl
 have HMA:Hid (∀(i j:Nat) (s:Bool),i<n→patVl[j]?=some s→M[i*2+j]?=some (mkv s (k0+(i*2+j)))):=by
  intro i j s h1 h2;rw[←hM];exact mkFlat_at patVl k0 n i j s h1 h2
 have HXS:=hide hxs;have HA:=hide ha;have F00:Hid (∀g,ad=some ⟨g,0,none⟩→Flt 72 g (M.take (0*2)++xs.drop (0*2)) w):=by
  rintro g rfl;have:=ha.flt
  simpa using this
 rw[hM];clear ha a3 hxs hM;go_enter Tryz.func57,Tryz.ntmps57;go_wp2;go_loopw [1,5] (fun mv iv wr=>∃i m:Nat,i≤n∧iv=.int .i64 i∧mv=.int .i64 m∧m≤200000000000∧Hid (m=k0+i*2)∧Hid (∀g,ad=some ⟨g,0,none⟩→Flt 72 g (M.take (i*2)++xs.drop (i*2)) wr)∧Hid (Kept2 w wr (Apt lo hi))) (fun _ iv _=>n-(intOf iv).toNat)
 case atStart=>exact⟨0,k0,Nat.zero_le _,rfl,rfl,by omega,(by show _=_;omega),F00,Kept2.refl _ _⟩
 case round=>
  obtain⟨i,m,hin,rfl,rfl,hm,HM,HF,HK⟩:=hrel;clear F00;by_cases hlt:(i:Int)<n
  ·obtain⟨g,e,g1,g2⟩:=A3.out (by omega)
   subst e;have i0:(0:Int)≤i:=by omega
   have F0:=hide (HF.out g rfl);have K0:=hide HK.out;have hwz:=HK.out.2.2.2.1;have hm2:m+2≤200000000000:=by have:=HM.out;omega
   have hm1:0<m:=by have:=HM.out;omega
   have Q0:Hid (hi≤wr.heap.size):=(by show _≤_;omega)
   obtain⟨m1,e1⟩:∃m1:Nat,m1=m+1:=⟨_,rfl⟩;have ei1:(m:Int)+1=m1:=by omega
   have E1:=hide e1;clear e1;obtain⟨m2,e2⟩:∃m2:Nat,m2=m+2:=⟨_,rfl⟩;have ei2:(m1:Int)+1=m2:=by omega
   have E2:=hide e2;clear e2;clear HF HK hwz;obtain⟨u0,hu0⟩:∃u,xs[i*2]?=some u:=⟨_,List.getElem?_eq_getElem (by have:=HXS.out;omega)⟩
   have c0:wr.cell? ⟨g,i*2,none⟩=some u0:=F0.out.old hu0 HML.out;have f0:=F0.out.frozen (i*2);have F1:Hid (Flt 72 g (M.take (i*2+1)++xs.drop (i*2+1)) (wr.setCell ⟨g,i*2,none⟩ (.int .i64 (m:Int)))):=by
    refine F0.out.step ?_ HML.out;have h1:=HMA.out i 0 false (by omega) rfl
    rw[show k0+(i*2+0)=m by have:=HM.out;omega]at h1
    exact h1
   have K1:Hid (Kept2 w (wr.setCell ⟨g,i*2,none⟩ (.int .i64 (m:Int))) (Apt lo hi)):=K0.out.trans ⟨rfl,rfl,rfl,by simp,fun q _ hne=>Below.heap_setCell _ _ _ _ (fun(e:q=g)=>hne ⟨by omega,by omega⟩)⟩
   have Q1:Hid (hi≤(wr.setCell ⟨g,i*2,none⟩ (.int .i64 (m:Int))).heap.size):=(by show _≤_;simp only[World.setCell,Array.size_modify];exact Q0.out)
   clear F0 K0 Q0 hu0;go_upto_region 6 with fail
   clear c0 f0;generalize wr.setCell ⟨g,i*2,none⟩ (.int .i64 (m:Int))=x0 at F1 K1 Q1⊢;obtain⟨u1,hu1⟩:∃u,xs[i*2+1]?=some u:=⟨_,List.getElem?_eq_getElem (by have:=HXS.out;omega)⟩
   have c1:x0.cell? ⟨g,i*2+1,none⟩=some u1:=F1.out.old hu1 HML.out;have f1:=F1.out.frozen (i*2+1);have F2:Hid (Flt 72 g (M.take (i*2+1+1)++xs.drop (i*2+1+1)) (x0.setCell ⟨g,i*2+1,none⟩ (.int .i64 (m1:Int)))):=by
    refine F1.out.step ?_ HML.out;have h1:=HMA.out i 1 false (by omega) rfl
    rw[show k0+(i*2+1)=m1 by have:=HM.out;have:=E1.out;omega]at h1
    exact h1
   have K2:Hid (Kept2 w (x0.setCell ⟨g,i*2+1,none⟩ (.int .i64 (m1:Int))) (Apt lo hi)):=K1.out.trans ⟨rfl,rfl,rfl,by simp,fun q _ hne=>Below.heap_setCell _ _ _ _ (fun(e:q=g)=>hne ⟨by omega,by omega⟩)⟩
   have Q2:Hid (hi≤(x0.setCell ⟨g,i*2+1,none⟩ (.int .i64 (m1:Int))).heap.size):=(by show _≤_;simp only[World.setCell,Array.size_modify];exact Q1.out)
   clear F1 K1 Q1 hu1;have FE:Hid (∀g',some (⟨g,0,none⟩:Addr)=some ⟨g',0,none⟩→Flt 72 g' (M.take ((i+1)*2)++xs.drop ((i+1)*2)) (x0.setCell ⟨g,i*2+1,none⟩ (.int .i64 (m1:Int)))):=by
    intro g' e;injection e with e
    injection e with e
    subst e;have:=F2.out;rw[show i*2+1+1=(i+1)*2 by omega]at this
    exact this
   clear F2 Q2;go_wp2;clear c1 f1;go_roundw
   case rel=>exact⟨i+1,m2,by omega,by go_num,rfl,(by have:=E2.out;omega),(by show _=_;have:=E2.out;have:=HM.out;omega),FE,K2⟩
   case measure=>simp[intOf];omega
  ·have hi2:i=n:=by omega
   subst hi2;have R:Hid (Sli 72 lo hi (.slice ad i ca) i M wr):=by
    rcases HA.out with⟨h1,h2⟩|⟨g,cap,h1,h2,h3,-⟩
    ·exact Or.inl ⟨h1,h2⟩
    ·injection h1 with e1 e2 e3
     subst e1 e3;have h4:=HF.out g rfl;rw[List.take_of_length_le (by have:=HML.out;have:=HXS.out;omega),List.drop_of_length_le (by have:=HXS.out;omega),List.append_nil]at h4
     exact Or.inr ⟨g,ca,rfl,h2,h3,h4⟩
   have HE:Hid ((m:Int)=((k0+i*2:Nat):Int)):=(by show _=_;rw[HM.out])
   clear HF;go_wp2;go_ret;exact⟨congrArg (fun x=>Ending.returned (.int .i64 x)) HE.out,R,HK⟩
theorem toVl_any(x0:Int)(x1:Int)(w:World):
 Calls Tryz.prog 71 #[.agg #[.int .i64 x0,.int .i64 x1]] w fun e w'=>e=.returned (.agg #[.int .i64 x0,.int .i64 x1])∧Below w.heap.size w w':=by
 go_enter Tryz.func71,Tryz.ntmps71;go_wp2;have h1:=heap_alloc_new (w.alloc (.cells #[.int .i64 x0,.int .i64 x1] 142)) (.cells #[.int .i64 x0,.int .i64 x1] 72);have hs:(w.alloc (.cells #[.int .i64 x0,.int .i64 x1] 142)).heap.size=w.heap.size+1:=by simp
 rw[hs]at h1;have h2:=(Below.heap_alloc ((w.alloc (.cells #[.int .i64 x0,.int .i64 x1] 142)).alloc (.cells #[.int .i64 x0,.int .i64 x1] 72)) (.cells #[.int .i64 x0,.int .i64 x1] 72) (w.heap.size+1) (by simp)).trans h1
 exact bodyPost_ret (results_cell_row rfl _ _ (w.heap.size+1) 72 _ (0,0) _ rfl h2 Tryz.underlying72 rfl infoVlz) rfl ⟨rfl,(((Below.refl _ _).alloc (Nat.le_refl _) _).alloc (by simp) _).alloc (by simp;omega) _⟩
theorem eqVl_same(x0:Int)(x1:Int)(w:World):
 Calls Tryz.prog 79 #[.agg #[.int .i64 x0,.int .i64 x1],.agg #[.int .i64 x0,.int .i64 x1]] w fun e w'=>e=.returned (.bool true)∧Below w.heap.size w w':=by
 have e0:(x0 !=x0)=false:=by simp
 have e1:(x1 !=x1)=false:=by simp
 go_enter Tryz.func79,Tryz.ntmps79;go_wp2;go_ret;exact⟨rfl,((Below.refl _ _).alloc (Nat.le_refl _) _).alloc (by simp) _⟩
theorem eqVls_same(a b:Value)(M:List (Int×Int))(B1 C1 B2 C2:Nat)(w:World)(hM:M.length≤1000000000000000000)(ha:Sli 72 B1 C1 a M.length (vlcells M) w)(hb:Sli 72 B2 C2 b M.length (vlcells M) w):
 Calls Tryz.prog 54 #[a,b] w fun e w'=>e=.returned (.bool true)∧Below w.heap.size w w':=by
 obtain⟨ad,capa,rfl,a3⟩:=ha.form;obtain⟨bd,capb,rfl,b3⟩:=hb.form;obtain⟨n,hn⟩:∃n,M.length=n:=⟨_,rfl⟩;have HN:=hide hn;have HSA:=hide ha;have HSB:=hide hb;rw[hn]at hM a3 b3 HSA HSB⊢;have A3:=hide a3;have B3:=hide b3;clear a3 b3 ha hb hn;go_enter Tryz.func54,Tryz.ntmps54;go_wp2;go_loopw [5] (fun iv wr=>∃k:Nat,k≤n∧iv=.int .i64 k∧Hid (Below w.heap.size w wr)) (fun iv _=>n-(intOf iv).toNat)
 case atStart=>exact⟨0,Nat.zero_le _,rfl,Below.refl _ _⟩
 case round=>
  obtain⟨k,hk,rfl,HW⟩:=hrel;by_cases hlt:(k:Int)<n
  ·obtain⟨ga,e,_,_⟩:=A3.out (by omega)
   subst e;obtain⟨gb,e,_,_⟩:=B3.out (by omega)
   subst e;have hkl:k<M.length:=by have:=HN.out;omega
   obtain⟨x0,x1,hx⟩:∃x0 x1,M[k]?=some (x0,x1):=⟨M[k].1,M[k].2,List.getElem?_eq_getElem hkl⟩;have GA:=HSA.out.flt.below HW.out;have GB:=HSB.out.flt.below HW.out;have c0:wr.cell? ⟨ga,k*2,none⟩=some (.int .i64 x0):=GA.cell (vlcells_at M k _ hx 0 _ rfl);have d0:wr.cell? ⟨gb,k*2,none⟩=some (.int .i64 x0):=GB.cell (vlcells_at M k _ hx 0 _ rfl);have c1:wr.cell? ⟨ga,k*2+1,none⟩=some (.int .i64 x1):=GA.cell (vlcells_at M k _ hx 1 _ rfl);have d1:wr.cell? ⟨gb,k*2+1,none⟩=some (.int .i64 x1):=GB.cell (vlcells_at M k _ hx 1 _ rfl);have k0:(0:Int)≤k:=by omega
   have CE:=hide (eqVl_same x0 x1 wr.drew);have CF:=hide (eqVl_same x0 x1 wr);have hsz:=HW.out.size;have gaw:ga<wr.heap.size:=World.block_lt_of_cell? wr _ c0;have gbw:gb<wr.heap.size:=World.block_lt_of_cell? wr _ d0;clear hx hkl GA GB
   first
    |(go_wp2_with fail
      refine CF.out.mono ?_;rintro e w1 ⟨rfl,b1⟩;have HW1:=hide (HW.out.trans (b1.mono hsz)))
    |(go_wp2
      go_region_held3 (fun w'=>w'.cell? ⟨ga,k*2,none⟩=some (.int .i64 x0)∧w'.cell? ⟨ga,k*2+1,none⟩=some (.int .i64 x1)∧w'.cell? ⟨gb,k*2,none⟩=some (.int .i64 x0)∧w'.cell? ⟨gb,k*2+1,none⟩=some (.int .i64 x1)) (first|go_keep|exact⟨(b1.cell (show ga<wr.drew.heap.size from gaw)).trans c0,(b1.cell (show ga<wr.drew.heap.size from gaw)).trans c1,(b1.cell (show gb<wr.drew.heap.size from gbw)).trans d0,(b1.cell (show gb<wr.drew.heap.size from gbw)).trans d1⟩) ((go_at_call 79;(with_reducible refine Calls.mono CE.out ?_);rintro en w1 ⟨rfl,b1⟩))
      have HW1:=hide (HW.out.drew.trans (b1.mono (show w.heap.size≤wr.drew.heap.size from hsz))))
   all_goals
    clear b1 CE CF HW c0 c1 d0 d1;go_wp2;go_roundw
    case rel=>exact⟨k+1,by omega,by go_num,HW1⟩
    case measure=>simp[intOf];omega
  ·go_wp2;go_ret;exact⟨rfl,HW.out⟩
theorem szVls_any(a:Option Addr)(len cap:Nat)(z0:Nat)(w:World)(hz0:z0≤1048576)(hl:len≤maxLen):
 Calls Tryz.prog 39 #[.slice a len cap,.int .i64 z0] w fun e w'=>(∃r:Int,e=.returned (.int .i64 r)∧-1≤r∧r≤z0∧(0≤r→r+len≤z0))∧w'=w:=by
 unfold maxLen at hl;have hw:IntKind.i64.wrap ((z0:Int)-len)=(z0:Int)-len:=by rw[IntKind.wrap_i64];omega
 by_cases hlt:(z0:Int)-len<0
 ·go_enter Tryz.func39,Tryz.ntmps39;go_wp2;go_ret;exact⟨⟨_,rfl,by omega,by omega,fun h=>by omega⟩,rfl⟩
 ·go_enter Tryz.func39,Tryz.ntmps39;go_wp2;go_ret;exact⟨⟨_,rfl,by omega,by omega,fun h=>by omega⟩,rfl⟩
theorem vlcells_put(ls:List (Int×Int))(R:List Value)(j:Nat)(x0:Int)(x1:Int)(hj:ls[j]?=some (x0,x1))(hR:R.length=ls.length*2):
 ((vlcells (ls.take j)++R.drop (j*2)).set (j*2) (.int .i64 x0)).set (j*2+1) (.int .i64 x1)=vlcells (ls.take (j+1))++R.drop ((j+1)*2):=by
 obtain⟨hj1,hj2⟩:=List.getElem?_eq_some_iff.1 hj;have hm:(vlcells (ls.take j)).length=j*2:=by rw[vlcells_len,List.length_take];congr 1;omega
 have e2:vlcells [(x0,x1)]=[.int .i64 x0,.int .i64 x1]:=rfl;have e3:ls.take (j+1)=ls.take j++[(x0,x1)]:=by rw[List.take_succ_eq_append_getElem hj1,hj2]
 rw[e3,vlcells_app,e2,List.set_append_right _ _ (by omega),List.set_append_right _ _ (by omega),hm,Nat.sub_self,Nat.add_sub_cancel_left,List.append_assoc]
 rw[List.drop_eq_getElem_cons (show j*2<R.length by omega),List.drop_eq_getElem_cons (show j*2+1<R.length by omega),show(j+1)*2=j*2+1+1 by omega]
 rfl
theorem toVls_any(a:Option Addr)(len cap:Nat)(ls:List (Int×Int))(w:World)(hl:len≤1048576)(h:VlRow w a len ls):
 Calls Tryz.prog 47 #[.slice a len cap] w fun e w'=>∃g:Nat,e=.returned (.slice (some ⟨g,0,none⟩) len len)∧w'.ownsRow w.heap.size 72 2 (.slice (some ⟨g,0,none⟩) len len) ls.length (vlcells ls)∧Below w.heap.size w w':=by
 obtain⟨i0,hi,hz0,hz1,hz2⟩:=info_parts infoVl;obtain⟨h1,-,-,h4⟩:=h;have H4:=hide h4;have H1:=hide h1;clear h4 h1;go_enter Tryz.func47,Tryz.ntmps47;go_wp2_with (at_make;refine wpList_make_full _ rfl _ _ 50 rfl w.heap.size 72 i0 (.agg #[.int .i64 0,.int .i64 0]) 2 Tryz.underlying50 hi hz0 hz1 .i64 .i64 _ _ len rfl rfl rfl rfl (by rw[hz2];omega) (by unfold maxLen;omega) (Nat.le_refl _) ?_)
 intro w1 hown hgrow;generalize(madeCells #[Value.int .i64 0,Value.int .i64 0] (len*2)).toList=R at hown;have HR:Hid (R.length=ls.length*2):=by show _=_;rw[H1.out];exact hown.1
 have HO:=hide hown;have HB1:=hide ((Below.refl w.heap.size w).grown hgrow (Nat.le_refl _) (fun k hk=>by cases hk))
 have hg1:=(hown.lt w.heap.size rfl).2;clear hown hgrow;go_wp2;go_loopw [4] (fun iv wr=>∃k:Nat,k≤len∧iv=.int .i64 k∧Hid (wr.ownsRow w.heap.size 72 2 (.slice (some ⟨w.heap.size,0,none⟩) len len) len (vlcells (ls.take k)++R.drop (k*2)))∧Hid (Below w.heap.size w wr)) (fun iv _=>len-(intOf iv).toNat)
 case atStart=>exact⟨0,Nat.zero_le _,rfl,HO,HB1⟩
 case round=>
  obtain⟨k,hk,rfl,HO2,HW⟩:=hrel;have hsz:=HW.out.size;by_cases hkl:(k:Int)<len
  ·obtain⟨b,off,rfl,hb,hc⟩:=H4.out (by omega)
   have hl1:=H1.out;have hkl2:k<ls.length:=by omega
   obtain⟨x0,x1,ht⟩:∃x0 x1,ls[k]?=some (x0,x1):=⟨ls[k].1,ls[k].2,List.getElem?_eq_getElem hkl2⟩;obtain⟨c0,c1⟩:=hc k (x0,x1) ht;rw[←HW.out.cell (show b<w.heap.size from hb)]at c0 c1;simp only at c0 c1;have k0:(0:Int)≤k:=by omega
   clear hc hl1;go_wp2_with fail;refine(toVl_any x0 x1 _).mono ?_;rintro e w3 ⟨rfl,hb3⟩;have o3:=own_below HO2.out hb3;have hlen3:(vlcells (ls.take k)++R.drop (k*2)).length=len*2:=HO2.out.1;have e3:∀d,d<2→∃u,w3.cell? ⟨w.heap.size,k*2+d,none⟩=some u:=by
    intro d hd;have:=o3.cells (g:=w.heap.size) rfl (k*2+d) _ (List.getElem?_eq_getElem (by rw[hlen3];omega))
    rw[addr_at]at this;exact⟨_,this⟩
   obtain⟨u0,d0⟩:=e3 0 (by omega)
   obtain⟨u1,d1⟩:=e3 1 (by omega)
   rw[Nat.add_zero]at d0;have f0:=o3.frozenAt (k*2);have f1:=o3.frozenAt (k*2+1);have o6:=fown_set (fown_set o3 rfl (k*2) (.int .i64 x0)) rfl (k*2+1) (.int .i64 x1);rw[vlcells_put ls R k x0 x1 ht HR.out]at o6;have b6:=(((HW.out.trans (hb3.mono hsz)).setCell (p:=⟨w.heap.size,k*2,none⟩) (Nat.le_refl _) (.int .i64 x0)).setCell (p:=⟨w.heap.size,k*2+1,none⟩) (Nat.le_refl _) (.int .i64 x1));have O6:=hide o6;have B6:=hide b6;clear o3 o6 b6 hlen3 e3 hb3 HW HO2 c0 c1 ht hkl2;go_wp2;go_roundw
   case rel=>exact⟨k+1,by omega,by go_num,O6,B6⟩
   case measure=>simp[intOf];omega
  ·have hke:k=len:=by omega
   have hO:=HO2.out;have hl1:=H1.out;have hr1:=HR.out;rw[hke,List.take_of_length_le (by omega),List.drop_eq_nil_of_le (by omega),List.append_nil]at hO
   have HO3:=hide hO;clear hO hke hl1 hr1;go_wp2;go_ret;exact⟨_,rfl,(by rw[H1.out];exact HO3.out),HW.out⟩
end Go.Proofs.YtiicghepilbgfaaGreatDoor
