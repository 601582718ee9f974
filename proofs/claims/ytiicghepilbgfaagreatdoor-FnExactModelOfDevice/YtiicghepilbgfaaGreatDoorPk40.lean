/-
  KnEq; KnMk; IntL
-/
import Derived.Test.YtiicghepilbgfaaGreatDoorPk2
import Derived.Deep.RegionHeld3
import Derived.Test.YtiicghepilbgfaaGreatDoorPk0
set_option maxHeartbeats 1000000
set_option maxRecDepth 100000
namespace Go.Proofs.YtiicghepilbgfaaGreatDoor
open Go.RowKit
open Words
theorem eqIs_same(a b:Value)(M:List Int)(n:Nat)(B1 C1 B2 C2:Nat)(w:World)(hn:M.length=n)(hM:n≤1000000000000000000)(ha:Sli 3 B1 C1 a n (icells M) w)(hb:Sli 3 B2 C2 b n (icells M) w):
 Calls Tryz.prog 135 #[a,b] w fun e w'=>e=.returned (.bool true)∧Below w.heap.size w w':=by
 obtain⟨ad,capa,rfl,a3⟩:=ha.form;obtain⟨bd,capb,rfl,b3⟩:=hb.form;have HSA:=hide ha;have HSB:=hide hb;have A3:=hide a3;have B3:=hide b3;have HN:=hide hn;clear ha hb a3 b3 hn;go_enter Tryz.func135,Tryz.ntmps135;go_wp2;go_loopw [5] (fun iv wr=>∃k:Nat,k≤n∧iv=.int .i64 k∧Hid (∃q,wr=w.drewN q)) (fun iv _=>n-(intOf iv).toNat)
 case atStart=>exact⟨0,Nat.zero_le _,rfl,⟨0,rfl⟩⟩
 case round=>
  obtain⟨k,hk,rfl,HQ⟩:=hrel;obtain⟨q,hq⟩:=HQ.out;subst hq;clear HQ;by_cases hlt:(k:Int)<n
  ·obtain⟨ga,e,-,-⟩:=A3.out (by omega)
   subst e;obtain⟨gb,e,-,-⟩:=B3.out (by omega)
   subst e;obtain⟨x,hx⟩:∃x,M[k]?=some x:=⟨_,List.getElem?_eq_getElem (by have:=HN.out;omega)⟩
   have c1:=HSA.out.flt.cell (icells_get hx);have c2:=HSB.out.flt.cell (icells_get hx);have hxx:(x !=x)=false:=by simp
   have k0:(0:Int)≤k:=by omega
   clear hx;go_wp2;go_quiet (fail);go_wp2;go_roundw
   case rel=>exact⟨k+1,by omega,by go_num,⟨_,rfl⟩⟩
   case measure=>simp[intOf];omega
  ·go_wp2;go_ret;exact⟨rfl,below_drewN (Below.refl _ _) _⟩
theorem eqKn_same(x:Bool)(n:Nat)(a1 a2:Option Addr)(c1 c2:Nat)(ls:List Int)(B1 C1 B2 C2:Nat)(w:World)(hn:ls.length=n)(hM:n≤1000000000000000000)(h1:Sli 3 B1 C1 (.slice a1 n c1) n (icells ls) w)(h2:Sli 3 B2 C2 (.slice a2 n c2) n (icells ls) w):
 Calls Tryz.prog 116 #[.agg #[.bool x,.slice a1 n c1],.agg #[.bool x,.slice a2 n c2]] w fun e w'=>e=.returned (.bool true)∧Below w.heap.size w w':=by
 have e0:(x !=x)=false:=by simp
 have HB:Hid (Below w.heap.size w ((w.alloc (.cells #[.bool x,.slice a1 n c1] 176)).alloc (.cells #[.bool x,.slice a2 n c2] 176))):=((Below.refl _ _).alloc (Nat.le_refl _) _).alloc (by simp) _
 have C:=hide (eqIs_same _ _ ls n B1 C1 B2 C2 _ hn hM (h1.blw HB.out) (h2.blw HB.out));clear h1 h2;go_enter Tryz.func116,Tryz.ntmps116;go_wp2_with fail;refine C.out.mono ?_;rintro e w1 ⟨rfl,b1⟩;have HW:=hide (HB.out.trans (b1.mono HB.out.size));clear b1 C HB;go_wp2;go_ret;exact⟨rfl,HW.out⟩
theorem eqKns_same(a b:Value)(rs ss:List Kw)(B1 C1 B2 C2:Nat)(w:World)(hM:rs.length≤1000000000000000000)(hll:∀r∈rs,r.2.2.length≤1000000000000000000)(ha:KIn B1 C1 a rs w)(hb:KIn B2 C2 b ss w)(he:rs.map ktell=ss.map ktell):
 Calls Tryz.prog 80 #[a,b] w fun e w'=>e=.returned (.bool true)∧Below w.heap.size w w':=by
 have hls:rs.length=ss.length:=by have:=congrArg List.length he;simpa using this
 obtain⟨ad,capa,rfl,a3⟩:=ha.1.form;obtain⟨bd,capb,rfl,b3⟩:=hb.1.form;obtain⟨n,hn⟩:∃n,rs.length=n:=⟨_,rfl⟩;have HN:=hide hn;have HSA:=hide ha;have HSB:=hide hb;have HE:=hide he;have HLL:=hide hll;rw[hn]at hls;rw[←hls]at b3 HSB⊢;rw[hn]at hM a3 HSA⊢;have A3:=hide a3;have B3:=hide b3;have HLS:=hide hls;clear a3 b3 ha hb hn he hll hls;go_enter Tryz.func80,Tryz.ntmps80;go_wp2;go_loopw [5] (fun iv wr=>∃k:Nat,k≤n∧iv=.int .i64 k∧Hid (Below w.heap.size w wr)) (fun iv _=>n-(intOf iv).toNat)
 case atStart=>exact⟨0,Nat.zero_le _,rfl,Below.refl _ _⟩
 case round=>
  obtain⟨k,hk,rfl,HW⟩:=hrel;by_cases hlt:(k:Int)<n
  ·obtain⟨ga,e,_,_⟩:=A3.out (by omega)
   subst e;obtain⟨gb,e,_,_⟩:=B3.out (by omega)
   subst e;have hkl:k<rs.length:=by have:=HN.out;omega
   have hkl2:k<ss.length:=by have:=HLS.out;omega
   obtain⟨r,hr⟩:∃r,rs[k]?=some r:=⟨_,List.getElem?_eq_getElem hkl⟩;obtain⟨s,hs⟩:∃s,ss[k]?=some s:=⟨_,List.getElem?_eq_getElem hkl2⟩;have hrs:ktell r=ktell s:=by
    have e:=congrArg (fun l=>l[k]?) HE.out
    simp only[List.getElem?_map,hr,hs,Option.map_some,Option.some.injEq]at e;exact e
   have SA:=(HSA.out.2.1 r (List.mem_of_getElem? hr)).1.blw HW.out;have SB:=(HSB.out.2.1 s (List.mem_of_getElem? hs)).1.blw HW.out;have hlr:=HLL.out r (List.mem_of_getElem? hr);have ha1:=HSA.out.1;have hb1:=HSB.out.1;rw[HN.out]at ha1;rw[←HLS.out]at hb1;have GA:=ha1.flt.below HW.out;have GB:=hb1.flt.below HW.out;clear ha1 hb1;have c0:=GA.cell (kncells_at rs k _ hr 0 _ rfl);have c1:=GA.cell (kncells_at rs k _ hr 1 _ rfl);have d0:=GB.cell (kncells_at ss k _ hs 0 _ rfl);have d1:=GB.cell (kncells_at ss k _ hs 1 _ rfl);obtain⟨rn,rv,rl⟩:=r;obtain⟨sn,sv,sl⟩:=s;simp only[ktell,Kn.mk.injEq]at hrs;obtain⟨rfl,rfl⟩:=hrs;simp only[Nat.add_zero]at SA SB c0 c1 d0 d1 hlr;obtain⟨m,hm⟩:∃m,rl.length=m:=⟨_,rfl⟩;rw[hm]at SA SB hlr;obtain⟨va,vc,rfl,-⟩:=SA.form;obtain⟨ua,uc,rfl,-⟩:=SB.form;have CE:=hide (eqKn_same rn m va ua vc uc rl _ _ _ _ wr.drew hm hlr (SA.blw (Below.refl _ _).drew) (SB.blw (Below.refl _ _).drew));have hsz:=HW.out.size;have k0:(0:Int)≤k:=by omega
   have gaw:ga<wr.heap.size:=World.block_lt_of_cell? wr _ c0;have gbw:gb<wr.heap.size:=World.block_lt_of_cell? wr _ d0;clear hr hs hkl hkl2 GA GB SA SB hm;go_wp2;go_region_held3 (fun w'=>w'.cell? ⟨ga,k*2,none⟩=some (.bool rn)∧w'.cell? ⟨ga,k*2+1,none⟩=some (.slice va m vc)∧w'.cell? ⟨gb,k*2,none⟩=some (.bool rn)∧w'.cell? ⟨gb,k*2+1,none⟩=some (.slice ua m uc)) (first|go_keep|exact⟨(b1.cell (show ga<wr.drew.heap.size from gaw)).trans c0,(b1.cell (show ga<wr.drew.heap.size from gaw)).trans c1,(b1.cell (show gb<wr.drew.heap.size from gbw)).trans d0,(b1.cell (show gb<wr.drew.heap.size from gbw)).trans d1⟩) ((go_at_call 116;(with_reducible refine Calls.mono CE.out ?_);rintro en w1 ⟨rfl,b1⟩))
   all_goals
    have HW1:=hide (HW.out.drew.trans (b1.mono (show w.heap.size≤wr.drew.heap.size from hsz)));clear b1 CE HW c0 c1 d0 d1;go_wp2;go_roundw
    case rel=>exact⟨k+1,by omega,by go_num,HW1⟩
    case measure=>simp[intOf];omega
  ·go_wp2;go_ret;exact⟨rfl,HW.out⟩
theorem eqAr_same(a b:Value)(rs ss:List Kw)(B1 C1 B2 C2:Nat)(w:World)(hM:rs.length≤1000000000000000000)(hll:∀r∈rs,r.2.2.length≤1000000000000000000)(ha:KIn B1 C1 a rs w)(hb:KIn B2 C2 b ss w)(he:rs.map ktell=ss.map ktell)(hC1:C1≤w.heap.size)(hC2:C2≤w.heap.size):
 Calls Tryz.prog 55 #[.agg #[a],.agg #[b]] w fun e w'=>e=.returned (.bool true)∧Below w.heap.size w w':=by
 obtain⟨ad,capa,rfl,a3⟩:=ha.1.form;obtain⟨bd,capb,rfl,b3⟩:=hb.1.form;have HB:Hid (Below w.heap.size w ((w.alloc (.cells #[.slice ad rs.length capa] 53)).alloc (.cells #[.slice bd ss.length capb] 53))):=((Below.refl _ _).alloc (Nat.le_refl _) _).alloc (by simp) _
 have C:=hide (eqKns_same _ _ rs ss B1 C1 B2 C2 _ hM hll (KIn.loc _ _ _ _ _ _ (fun i _ hi=>HB.out.block i (by omega)) ha) (KIn.loc _ _ _ _ _ _ (fun i _ hi=>HB.out.block i (by omega)) hb) he)
 obtain⟨n,hn⟩:∃n,rs.length=n:=⟨_,rfl⟩;obtain⟨m,hm⟩:∃m,ss.length=m:=⟨_,rfl⟩;rw[hn,hm]at C HB;rw[hn,hm];clear ha hb a3 b3 hll hn hm he hM;go_enter Tryz.func55,Tryz.ntmps55;go_wp2_with fail;refine C.out.mono ?_;rintro e w1 ⟨rfl,b1⟩;have HW:=hide (HB.out.trans (b1.mono HB.out.size));clear b1 C HB;go_wp2;go_ret;exact⟨rfl,HW.out⟩
def patI:List Bool:=[false]
theorem mkI_at(k0 n i:Nat)(h:i<n):(mkFlat patI k0 n)[i]?=some (.int .i64 ((k0+i:Nat):Int)):=by
 have:=mkFlat_at patI k0 n i 0 false h rfl
 simpa[patI,mkv]using this
theorem markIs_any(lo hi:Nat)(a:Value)(n k0:Nat)(xs:List Value)(w:World)(hn:n≤1000000000)(hxs:xs.length=n)(hk0:0<k0)(hk1:k0≤100000000000)(ha:Sli 3 lo hi a n xs w):
 Calls Tryz.prog 117 #[a,.int .i64 (k0:Int)] w fun e w'=>e=.returned (.int .i64 ((k0+n:Nat):Int))∧Hid (Sli 3 lo hi a n (mkFlat patI k0 n) w')∧Hid (Kept2 w w' (fun i=>a.ownBlock≠some i)):=by
 obtain⟨ad,ca,rfl,a3⟩:=ha.form;have A3:=hide a3;obtain⟨M,hM⟩:∃M,mkFlat patI k0 n=M:=⟨_,rfl⟩;have HML:Hid (M.length=xs.length):=by show _=_;rw[←hM,mkFlat_len,hxs];simp[patI]
 have HMA:Hid (∀i:Nat,i<n→M[i]?=some (.int .i64 ((k0+i:Nat):Int))):=by
  intro i h1;rw[←hM];exact mkI_at k0 n i h1
 have HXS:=hide hxs;have HA:=hide ha;have F00:Hid (∀g,ad=some ⟨g,0,none⟩→Flt 3 g (M.take 0++xs.drop 0) w):=by
  rintro g rfl;have:=ha.flt
  simpa using this
 rw[hM];clear ha a3 hxs hM;go_enter Tryz.func117,Tryz.ntmps117;go_wp2;go_loopw [1,5] (fun mv iv wr=>∃i m:Nat,i≤n∧iv=.int .i64 i∧mv=.int .i64 m∧m≤200000000000∧Hid (m=k0+i)∧Hid (∀g,ad=some ⟨g,0,none⟩→Flt 3 g (M.take i++xs.drop i) wr)∧Hid (Kept2 w wr (fun i=>(Value.slice ad n ca).ownBlock≠some i))) (fun _ iv _=>n-(intOf iv).toNat)
 case atStart=>exact⟨0,k0,Nat.zero_le _,rfl,rfl,by omega,(by show _=_;omega),F00,Kept2.refl _ _⟩
 case round=>
  obtain⟨i,m,hin,rfl,rfl,hm,HM,HF,HK⟩:=hrel;clear F00;by_cases hlt:(i:Int)<n
  ·obtain⟨g,e,g1,g2⟩:=A3.out (by omega)
   subst e;have i0:(0:Int)≤i:=by omega
   have F0:=hide (HF.out g rfl);obtain⟨m1,e1⟩:∃m1:Nat,m1=m+1:=⟨_,rfl⟩;have ei1:(m:Int)+1=m1:=by omega
   have hm2:m1≤200000000000:=by have:=HM.out;omega
   have E1:=hide e1;clear e1;obtain⟨u0,hu0⟩:∃u,xs[i]?=some u:=⟨_,List.getElem?_eq_getElem (by have:=HXS.out;omega)⟩
   have c0:wr.cell? ⟨g,i,none⟩=some u0:=F0.out.old hu0 HML.out;have f0:=F0.out.frozen i;have F1:Hid (∀g',some (⟨g,0,none⟩:Addr)=some ⟨g',0,none⟩→Flt 3 g' (M.take (i+1)++xs.drop (i+1)) (wr.setCell ⟨g,i,none⟩ (.int .i64 (m:Int)))):=by
    intro g' e;injection e with e
    injection e with e
    subst e;refine F0.out.step ?_ HML.out;have h1:=HMA.out i (by omega)
    rw[show k0+i=m by have:=HM.out;omega]at h1
    exact h1
   have K1:Hid (Kept2 w (wr.setCell ⟨g,i,none⟩ (.int .i64 (m:Int))) (fun i=>(Value.slice (some ⟨g,0,none⟩) n ca).ownBlock≠some i)):=HK.out.trans ⟨rfl,rfl,rfl,by simp,fun q _ hne=>Below.heap_setCell _ _ _ _ (fun(e:q=g)=>hne (by rw[e];rfl))⟩
   clear F0 HF HK hu0;go_wp2;go_roundw
   case rel=>exact⟨i+1,m1,by omega,by go_num,by first|rfl|go_num,hm2,(by show _=_;have:=E1.out;have:=HM.out;omega),F1,K1⟩
   case measure=>simp[intOf];omega
  ·have hi2:i=n:=by omega
   subst hi2;have R:Hid (Sli 3 lo hi (.slice ad i ca) i M wr):=by
    rcases HA.out with⟨h1,h2⟩|⟨g,cap,h1,h2,h3,-⟩
    ·exact Or.inl ⟨h1,h2⟩
    ·injection h1 with e1 e2 e3
     subst e1 e3;have h4:=HF.out g rfl;rw[List.take_of_length_le (by have:=HML.out;have:=HXS.out;omega),List.drop_of_length_le (by have:=HXS.out;omega),List.append_nil]at h4
     exact Or.inr ⟨g,ca,rfl,h2,h3,h4⟩
   have HE:Hid ((m:Int)=((k0+i:Nat):Int)):=(by show _=_;rw[HM.out])
   clear HF;go_wp2;go_ret;exact⟨congrArg (fun x=>Ending.returned (.int .i64 x)) HE.out,R,HK⟩
abbrev Vw:=Bool×Value×Nat×List Value
def vcell(t:Vw):List Value:=[.bool t.1,t.2.1]
def vcells(l:List Vw):List Value:=l.flatMap vcell
theorem vcells_cons(t:Vw)(l:List Vw):vcells (t::l)=vcell t++vcells l:=by simp[vcells]
theorem vcells_at(l:List Vw)(k:Nat)(t:Vw)(h:l[k]?=some t)(j:Nat)(v:Value)(hj:(vcell t)[j]?=some v):(vcells l)[k*2+j]?=some v:=by
 have hlt:j<2:=(List.getElem?_eq_some_iff.1 hj).1
 induction l generalizing k with
 |nil=>simp at h
 |cons a l ih=>
  rw[vcells_cons];cases k with
  |zero=>
   simp at h;subst h;rw[List.getElem?_append_left (by show _<2;omega),Nat.zero_mul,Nat.zero_add]
   exact hj
  |succ k=>
   rw[List.getElem?_append_right (by show 2≤_;omega),show(k+1)*2+j-(vcell a).length=k*2+j by show _-2=_;omega]
   exact ih k (by simpa using h)
theorem vcells_set(l:List Vw)(k:Nat)(t:Vw)(h:l[k]?=some t)(a:Bool)(n:Nat)(xs:List Value):(vcells l).set (k*2) (.bool a)=vcells (l.set k (a,t.2.1,n,xs)):=by
 induction l generalizing k with
 |nil=>simp at h
 |cons c l ih=>
  cases k with
  |zero=>
   simp at h;subst h;simp[vcells_cons,vcell]
  |succ k=>
   have:=ih k (by simpa using h)
   rw[List.set_cons_succ,vcells_cons,vcells_cons,←this,List.set_append_right _ _ (by show 2≤_;omega)]
   congr 2;show(k+1)*2-2=_;omega
def VLone(ys:List Vw):Prop:=ys.Pairwise (fun a b=>∀g,a.2.1.ownBlock=some g→b.2.1.ownBlock≠some g)
def VIn(lo hi:Nat)(v:Value)(ys:List Vw)(W:World):Prop:=
 Sli 176 lo hi v ys.length (vcells ys) W∧(∀y∈ys,Sli 3 lo hi y.2.1 y.2.2.1 y.2.2.2 W)∧VLone ys
theorem VIn.loc(lo hi:Nat)(v:Value)(ys:List Vw):Loc lo hi (VIn lo hi v ys):=by
 intro w w' hk h;exact⟨Sli.loc _ _ _ _ _ _ w w' hk h.1,fun r hr=>Sli.loc _ _ _ _ _ _ w w' hk (h.2.1 r hr),h.2.2⟩
def vOf(t:Kw):Vw:=(t.1,t.2.1,t.2.2.length,icells t.2.2)
theorem KIn.v{lo hi:Nat}{v:Value}{rs:List Kw}{W:World}(h:KIn lo hi v rs W):VIn lo hi v (rs.map vOf) W:=by
 obtain⟨h1,h2,h3,-⟩:=h;have ec:vcells (rs.map vOf)=kncells rs:=by unfold vcells kncells;rw[List.flatMap_map];rfl
 refine⟨by rw[List.length_map,ec];exact h1,?_,?_⟩
 ·intro y hy;obtain⟨r,hr,rfl⟩:=List.mem_map.1 hy;exact(h2 r hr).1
 ·unfold VLone;rw[List.pairwise_map];exact h3
theorem vlone_get{ys:List Vw}(h:VLone ys){i j:Nat}{a b:Vw}(hij:i≠j)(ha:ys[i]?=some a)(hb:ys[j]?=some b):∀g,a.2.1.ownBlock=some g→b.2.1.ownBlock≠some g:=by
 intro g e1 e2;have h':=List.pairwise_iff_getElem.1 h;obtain⟨ia,ea⟩:=List.getElem?_eq_some_iff.1 ha;obtain⟨jb,eb⟩:=List.getElem?_eq_some_iff.1 hb;rcases Nat.lt_or_gt_of_ne hij with q|q
 ·exact h' i j ia jb q g (by rw[ea];exact e1) (by rw[eb];exact e2)
 ·exact h' j i jb ia q g (by rw[eb];exact e2) (by rw[ea];exact e1)
theorem vlone_set{ys:List Vw}(h:VLone ys){j:Nat}{y y':Vw}(hj:ys[j]?=some y)(hv:y'.2.1=y.2.1):VLone (ys.set j y'):=by
 unfold VLone at*;have:(ys.set j y').map (fun t=>t.2.1)=ys.map (fun t=>t.2.1):=by
  rw[List.map_set,hv];apply List.ext_getElem?;intro i;rw[List.getElem?_set];split
  ·rename_i e
   subst e;obtain⟨hl,he⟩:=List.getElem?_eq_some_iff.1 hj;simp[hl,he]
  ·rfl
 have e:∀l:List Vw,l.Pairwise (fun a b=>∀g,a.2.1.ownBlock=some g→b.2.1.ownBlock≠some g)↔(l.map (fun t=>t.2.1)).Pairwise (fun a b=>∀g,a.ownBlock=some g→b.ownBlock≠some g):=fun l=>by rw[List.pairwise_map]
 rw[e,this,←e];exact h
theorem int_kn_ne{lo hi lo' hi' n m:Nat}{v u:Value}{xs zs:List Value}{W:World}(h1:Sli 176 lo hi v n xs W)(h2:Sli 3 lo' hi' u m zs W):∀g,v.ownBlock=some g→u.ownBlock≠some g:=by
 intro g e1 e2;obtain⟨-,-,cs,q⟩:=h1.lt g e1;obtain⟨-,-,cs',q'⟩:=h2.lt g e2;exact int_ne_kn q' q
theorem VIn.flag{lo hi g n cap:Nat}{ys:List Vw}{W:World}(h:VIn lo hi (.slice (some ⟨g,0,none⟩) n cap) ys W)(hn:ys.length=n){j:Nat}{y:Vw}(hj:ys[j]?=some y)(a:Bool):
 VIn lo hi (.slice (some ⟨g,0,none⟩) n cap) (ys.set j (a,y.2.1,y.2.2.1,y.2.2.2)) (W.setCell ⟨g,j*2,none⟩ (.bool a)):=by
 obtain⟨h1,h2,h3⟩:=h;rw[hn]at h1;refine⟨?_,?_,vlone_set h3 hj rfl⟩
 ·rcases h1 with⟨e,-⟩|⟨g',cap',e,q1,q2,q3⟩
  ·cases e
  ·injection e with e1 e2 e3
   injection e1 with e1
   injection e1 with e1
   subst e1;subst e3;refine .inr ⟨g,cap,by rw[List.length_set,hn],q1,q2,?_⟩
   have:=q3.set (j*2) (.bool a);rw[vcells_set ys j y hj a y.2.2.1 y.2.2.2]at this;exact this
 ·intro z hz;have hz2:Sli 3 lo hi z.2.1 z.2.2.1 z.2.2.2 W:=by
   rcases List.mem_or_eq_of_mem_set hz with e|e
   ·exact h2 z e
   ·subst e;exact h2 y (List.mem_of_getElem? hj)
  have hne:=int_kn_ne h1 hz2 g rfl;exact hz2.grown (grown_cell W g (j*2) (.bool a)) (fun g' e e2=>hne (by cases e2;exact e))
theorem Sli.kept3{t:TypeId}{lo hi n:Nat}{v:Value}{xs:List Value}{w w':World}{ok:Nat→Prop}(h:Sli t lo hi v n xs w)(hk:Kept2 w w' ok)(ho:∀g,v.ownBlock=some g→ok g):Sli t lo hi v n xs w':=by
 rcases h with h|⟨g,cap,rfl,h1,h2,cs,h3,h4⟩
 ·exact .inl h
 ·exact .inr ⟨g,cap,rfl,h1,h2,cs,(hk.2.2.2.2 g (Array.getElem?_eq_some_iff.1 h3).1 (ho g rfl)).trans h3,h4⟩
theorem VIn.inner{lo hi n cap:Nat}{ad:Option Addr}{ys:List Vw}{W W':World}(h:VIn lo hi (.slice ad n cap) ys W){j:Nat}{y:Vw}(hj:ys[j]?=some y)(xs:List Value)(hk:Kept2 W W' (fun i=>y.2.1.ownBlock≠some i))(hs:Sli 3 lo hi y.2.1 y.2.2.1 xs W'):
 VIn lo hi (.slice ad n cap) (ys.set j (y.1,y.2.1,y.2.2.1,xs)) W':=by
 obtain⟨h1,h2,h3⟩:=h;have hy:=h2 y (List.mem_of_getElem? hj);refine⟨?_,?_,vlone_set h3 hj rfl⟩
 ·have e:vcells (ys.set j (y.1,y.2.1,y.2.2.1,xs))=vcells ys:=by
   unfold vcells;rw[List.flatMap_def,List.flatMap_def,List.map_set];congr 1;apply List.ext_getElem?;intro i;rw[List.getElem?_set];split
   ·rename_i e
    subst e;obtain⟨hl,he⟩:=List.getElem?_eq_some_iff.1 hj;simp[hl,he,vcell]
   ·rfl
  rw[e,List.length_set];exact h1.kept3 hk (fun g e1 e2=>int_kn_ne h1 hy g e1 e2)
 ·intro z hz;obtain⟨i,hi⟩:=List.mem_iff_getElem?.1 hz;rw[List.getElem?_set]at hi;split at hi
  ·rename_i e
   subst e;rw[if_pos (List.getElem?_eq_some_iff.1 hj).1]at hi;cases hi;exact hs
  ·rename_i e
   exact(h2 z (List.mem_of_getElem? hi)).kept3 hk (fun g e1 e2=>vlone_get h3 (fun q=>e q.symm) hi hj g e1 e2)
def lfm(k:Nat):Bool:=((k:Int) % 3==0)
def vmk:Nat→List Vw→List Vw
 |_,[]=> []
 |k,y::ys=>(lfm k,y.2.1,y.2.2.1,mkFlat patI (k+1) y.2.2.1)::vmk (k+1+y.2.2.1) ys
def vend:Nat→List Vw→Nat
 |k,[]=>k
 |k,y::ys=>vend (k+1+y.2.2.1) ys
theorem vmk_len:∀(ys:List Vw) (k:Nat),(vmk k ys).length=ys.length:=by
 intro ys
 induction ys with
 |nil=>intro k;rfl
 |cons y ys ih=>intro k;simp[vmk,ih]
theorem vend_app:∀(a:List Vw) (b:List Vw) (k:Nat),vend k (a++b)=vend (vend k a) b:=by
 intro a
 induction a with
 |nil=>intro b k;rfl
 |cons y a ih=>intro b k;simp only[List.cons_append,vend,ih]
theorem vmk_app:∀(a:List Vw) (b:List Vw) (k:Nat),vmk k (a++b)=vmk k a++vmk (vend k a) b:=by
 intro a
 induction a with
 |nil=>intro b k;rfl
 |cons y a ih=>intro b k;simp only[List.cons_append,vmk,vend,ih]
theorem vend_le:∀(ys:List Vw) (k:Nat),k≤vend k ys:=by
 intro ys
 induction ys with
 |nil=>intro k;exact Nat.le_refl _
 |cons y ys ih=>intro k;have:=ih (k+1+y.2.2.1);simp only[vend];omega
theorem vend_take(ys:List Vw)(k j:Nat):vend k (ys.take j)≤vend k ys:=by
 have:vend k ys=vend (vend k (ys.take j)) (ys.drop j):=by rw[←vend_app,List.take_append_drop]
 rw[this];exact vend_le _ _
theorem vend_succ{ys:List Vw}{k j:Nat}{y:Vw}(h:ys[j]?=some y):vend k (ys.take (j+1))=vend k (ys.take j)+1+y.2.2.1:=by
 rw[List.take_add_one,h,vend_app];rfl
theorem vmk_set{ys:List Vw}{k j:Nat}{y:Vw}(h:ys[j]?=some y):
 (vmk k (ys.take j)++ys.drop j).set j (lfm (vend k (ys.take j)),y.2.1,y.2.2.1,mkFlat patI (vend k (ys.take j)+1) y.2.2.1)=vmk k (ys.take (j+1))++ys.drop (j+1):=by
 have hl:=(List.getElem?_eq_some_iff.1 h).1;have hlm:(vmk k (ys.take j)).length=j:=by rw[vmk_len,List.length_take];omega
 rw[List.set_append_right _ _ (by omega),hlm,Nat.sub_self,List.drop_eq_getElem_cons hl,List.set_cons_zero,List.take_add_one,h,vmk_app]
 simp[vmk]
end Go.Proofs.YtiicghepilbgfaaGreatDoor
