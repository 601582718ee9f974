/-
  EqDv; MkDv
-/
import Derived.Test.YtiicghepilbgfaaGreatDoorDvTk
import Derived.Test.YtiicghepilbgfaaGreatDoorPk42
set_option maxHeartbeats 2000000
set_option maxRecDepth 100000
namespace Go.Proofs.YtiicghepilbgfaaGreatDoor
open Go.RowKit
open Words
theorem Dvs.form2{lo hi:Nat}{v:Value}{d:Dv}{W:World}(h:Dvs lo hi v d W):∃fd fc va vc ad cap,v=.agg #[.slice fd d.flash.length fc,.slice va d.store.vols.length vc,.slice ad d.store.kns.length cap,.int .i64 d.store.next,.int .i64 d.seq,.int .i64 d.tx,.int .i64 d.base]∧∃lo1 hi1 lo2 hi2,Fla lo1 hi1 (.slice fd d.flash.length fc) d.flash W∧Sts lo2 hi2 (.agg #[.slice va d.store.vols.length vc,.slice ad d.store.kns.length cap,.int .i64 d.store.next]) d.store W∧lo≤lo1∧hi1≤hi∧lo≤lo2∧hi2≤hi∧(hi1≤lo2∨hi2≤lo1):=by
 obtain⟨fv,vv,kv,lo1,hi1,lo2,hi2,e,h1,h2,h3⟩:=h;obtain⟨fd,fc,rfl,-⟩:=h1.form;obtain⟨va,vc,ad,cap,e2⟩:=h2.form;injection e2 with e2
 injection e2 with e2
 simp only[List.cons.injEq,and_true]at e2;obtain⟨rfl,rfl⟩:=e2;exact⟨_,_,_,_,_,_,e,lo1,hi1,lo2,hi2,h1,h2,h3⟩
theorem eqd_any{v u:Value}{d:Dv}{l1 h1 l2 h2:Nat}(W:World)(ho:OkD d)(hv:Dvs l1 h1 v d W)(hu:Dvs l2 h2 u d W)(z1:h1≤W.heap.size)(z2:h2≤W.heap.size):
 Calls Tryz.prog 14 #[v,u] W fun e w'=>e=.returned (.bool true)∧Below W.heap.size W w':=by
 obtain⟨f1,c1,v1,k1,a1,p1,rfl,lo1,hi1,lo2,hi2,x1,x2,-,x4,-,x6,-⟩:=hv.form2;obtain⟨f2,c2,v2,k2,a2,p2,rfl,lo3,hi3,lo4,hi4,y1,y2,-,y4,-,y6,-⟩:=hu.form2;have s0:(W.alloc (.cells #[.slice f1 d.flash.length c1,.slice v1 d.store.vols.length k1,.slice a1 d.store.kns.length p1,.int .i64 d.store.next,.int .i64 d.seq,.int .i64 d.tx,.int .i64 d.base] 57)).heap.size=W.heap.size+1:=by simp
 have b0:Below W.heap.size W (W.alloc (.cells #[.slice f1 d.flash.length c1,.slice v1 d.store.vols.length k1,.slice a1 d.store.kns.length p1,.int .i64 d.store.next,.int .i64 d.seq,.int .i64 d.tx,.int .i64 d.base] 57)):=(Below.refl _ _).alloc (Nat.le_refl _) _;have b1:Below (W.alloc (.cells #[.slice f1 d.flash.length c1,.slice v1 d.store.vols.length k1,.slice a1 d.store.kns.length p1,.int .i64 d.store.next,.int .i64 d.seq,.int .i64 d.tx,.int .i64 d.base] 57)).heap.size (W.alloc (.cells #[.slice f1 d.flash.length c1,.slice v1 d.store.vols.length k1,.slice a1 d.store.kns.length p1,.int .i64 d.store.next,.int .i64 d.seq,.int .i64 d.tx,.int .i64 d.base] 57)) ((W.alloc (.cells #[.slice f1 d.flash.length c1,.slice v1 d.store.vols.length k1,.slice a1 d.store.kns.length p1,.int .i64 d.store.next,.int .i64 d.seq,.int .i64 d.tx,.int .i64 d.base] 57)).alloc (.cells #[.slice f2 d.flash.length c2,.slice v2 d.store.vols.length k2,.slice a2 d.store.kns.length p2,.int .i64 d.store.next,.int .i64 d.seq,.int .i64 d.tx,.int .i64 d.base] 57)):=(Below.refl _ _).alloc (Nat.le_refl _) _;have g0:DAt (W.alloc (.cells #[.slice f1 d.flash.length c1,.slice v1 d.store.vols.length k1,.slice a1 d.store.kns.length p1,.int .i64 d.store.next,.int .i64 d.seq,.int .i64 d.tx,.int .i64 d.base] 57)) W.heap.size (.slice f1 d.flash.length c1) (.slice v1 d.store.vols.length k1) (.slice a1 d.store.kns.length p1) d.store.next d.seq d.tx d.base:=heap_alloc_new _ _;have gA:=g0.below b1;have gB:DAt ((W.alloc (.cells #[.slice f1 d.flash.length c1,.slice v1 d.store.vols.length k1,.slice a1 d.store.kns.length p1,.int .i64 d.store.next,.int .i64 d.seq,.int .i64 d.tx,.int .i64 d.base] 57)).alloc (.cells #[.slice f2 d.flash.length c2,.slice v2 d.store.vols.length k2,.slice a2 d.store.kns.length p2,.int .i64 d.store.next,.int .i64 d.seq,.int .i64 d.tx,.int .i64 d.base] 57)) (W.heap.size+1) (.slice f2 d.flash.length c2) (.slice v2 d.store.vols.length k2) (.slice a2 d.store.kns.length p2) d.store.next d.seq d.tx d.base:=by
  rw[←s0];exact heap_alloc_new _ _
 have bA:=b0.trans (b1.mono b0.size);generalize hwa:((W.alloc (.cells #[.slice f1 d.flash.length c1,.slice v1 d.store.vols.length k1,.slice a1 d.store.kns.length p1,.int .i64 d.store.next,.int .i64 d.seq,.int .i64 d.tx,.int .i64 d.base] 57)).alloc (.cells #[.slice f2 d.flash.length c2,.slice v2 d.store.vols.length k2,.slice a2 d.store.kns.length p2,.int .i64 d.store.next,.int .i64 d.seq,.int .i64 d.tx,.int .i64 d.base] 57))=wa at gA gB bA;have kp:∀y,y<W.heap.size→wa.heap[y]?=W.heap[y]?:=fun y hy=>bA.block y hy
 have X1:=hide (Fla.loc _ _ _ _ W wa (fun y y1 y2=>kp y (by omega)) x1)
 have X2:=hide (Sts.loc _ _ _ _ W wa (fun y y1 y2=>kp y (by omega)) x2)
 have Y1:=hide (Fla.loc _ _ _ _ W wa (fun y y1 y2=>kp y (by omega)) y1)
 have Y2:=hide (Sts.loc _ _ _ _ W wa (fun y y1 y2=>kp y (by omega)) y2)
 have hwz:=bA.size;have CE:=hide (eq_of (.slice f1 d.flash.length c1) (.slice f2 d.flash.length c2) d.flash lo1 hi1 lo3 hi3 wa ho.1 ⟨by omega,X1.out⟩ ⟨by omega,Y1.out⟩)
 have HO:=hide ho;have BA:=hide bA;have GA:=hide gA;have GB:=hide gB;have i0:=gA.cells.1;have j0:=gB.cells.1;clear hv hu x1 x2 y1 y2 s0 b0 b1 g0 gA gB bA kp ho;go_enter Tryz.func14,Tryz.ntmps14;go_wp2_with fail;clear hwa;refine CE.out.mono ?_;rintro e w1 ⟨rfl,b1⟩;have hw1:=b1.size;have tk:Tk wa w1 [(lo2,hi2,Sts lo2 hi2 (.agg #[.slice v1 d.store.vols.length k1,.slice a1 d.store.kns.length p1,.int .i64 d.store.next]) d.store),(lo4,hi4,Sts lo4 hi4 (.agg #[.slice v2 d.store.vols.length k2,.slice a2 d.store.kns.length p2,.int .i64 d.store.next]) d.store)]:=by
  refine⟨b1,fun x hx=>?_⟩
  simp only[List.mem_cons,List.not_mem_nil,or_false]at hx;rcases hx with rfl|rfl
  ·exact⟨by show hi2≤_;omega,Sts.loc _ _ _ _,Sts.loc _ _ _ _ wa w1 (fun y y1 y2=>b1.block y (by omega)) X2.out⟩
  ·exact⟨by show hi4≤_;omega,Sts.loc _ _ _ _,Sts.loc _ _ _ _ wa w1 (fun y y1 y2=>b1.block y (by omega)) Y2.out⟩
 have CT:=hide (eqsto_tk tk 0 1 HO.out.2.1 rfl rfl);have G1:=hide (GA.out.below b1);have J1:=hide (GB.out.below b1);have HB1:=hide b1;obtain⟨-,m1,m2,m3,-,-,-⟩:=G1.out.cells;obtain⟨-,n1,n2,n3,-,-,-⟩:=J1.out.cells;clear CE X1 X2 Y1 Y2 i0 j0 tk b1 G1 J1;go_wp2_with fail;refine CT.out.mono ?_;rintro e w2 ⟨rfl,t2,z3⟩;have B2:=t2.1;have FB:=hide (BA.out.trans (B2.mono BA.out.size));obtain⟨-,-,-,-,m4,m5,m6⟩:=(GA.out.below B2).cells;obtain⟨-,-,-,-,n4,n5,n6⟩:=(GB.out.below B2).cells;have e4:(d.seq !=d.seq)=false:=by simp
 have e5:(d.tx !=d.tx)=false:=by simp
 have e6:(d.base !=d.base)=false:=by simp
 clear CT t2 z3 B2 m1 m2 m3 n1 n2 n3 GA GB;go_wp2;go_ret;exact⟨rfl,FB.out⟩
theorem tod_tk{w wi:World}{hs:List Hold}{fa:Option Addr}{n fc:Nat}{rs:List Rw}{va:Option Addr}{vl vc:Nat}{vs:List (Int×Int)}{ad:Option Addr}{len cap:Nat}{kr:List Kw}{nx sq tx bs:Int}{d:Dv}(T:Tk w wi hs)(ho:OkA rs vl len vs kr nx)(hn:n≤1048576)(hb:BkRow w fa n rs)(hv:VlRow w va vl vs)(hk:KnRd w ad len kr)(hd:d=⟨rs.map tellOf,⟨vs,kr.map ktell,nx⟩,sq,tx,bs⟩):
 Calls Tryz.prog 11 #[.agg #[.slice fa n fc,.slice va vl vc,.slice ad len cap,.int .i64 nx,.int .i64 sq,.int .i64 tx,.int .i64 bs]] wi fun e w'=>∃fd fc va vc ad cap,e=.returned (.agg #[.slice fd d.flash.length fc,.slice va d.store.vols.length vc,.slice ad d.store.kns.length cap,.int .i64 d.store.next,.int .i64 d.seq,.int .i64 d.tx,.int .i64 d.base])∧Tk w w' ((wi.heap.size,w'.heap.size,Dvs wi.heap.size w'.heap.size (.agg #[.slice fd d.flash.length fc,.slice va d.store.vols.length vc,.slice ad d.store.kns.length cap,.int .i64 d.store.next,.int .i64 d.seq,.int .i64 d.tx,.int .i64 d.base]) d)::hs)∧wi.heap.size≤w'.heap.size:=by
 refine(tod_any fa n fc rs va vl vc vs ad len cap kr nx sq tx bs wi ho hn (hb.below T.1) (hv.below T.1) (hk.below T.1)).mono ?_;rintro e w' ⟨v,rfl,h,b⟩;rw[←hd]at h;obtain⟨fd,fc,va,vc,ad,cap,rfl,-⟩:=h.form2;exact⟨_,_,_,_,_,_,rfl,T.add b (Dvs.loc _ _ _ _) h,b.size⟩
theorem eqd_tk{w wi:World}{hs:List Hold}{v u:Value}{d:Dv}{l1 h1 l2 h2:Nat}(T:Tk w wi hs)(n1 n2:Nat)(ho:OkD d)(e1:hs[n1]?=some (l1,h1,Dvs l1 h1 v d))(e2:hs[n2]?=some (l2,h2,Dvs l2 h2 u d)):
 Calls Tryz.prog 14 #[v,u] wi fun e w'=>e=.returned (.bool true)∧Tk w w' hs∧wi.heap.size≤w'.heap.size:=by
 refine(eqd_any wi ho (T.get n1 e1) (T.get n2 e2) (T.hi n1 e1) (T.hi n2 e2)).mono ?_;rintro e w' ⟨rfl,b⟩;exact⟨rfl,T.below b,b.size⟩
theorem endK_ge:∀(bs:List Bk) (k:Nat),k≤endK k bs
 | [],k=>Nat.le_refl _
 |r::rs,k=>by
  have:=endK_ge rs (k+2+2*r.2.2.length);simp only[endK];omega
theorem markSto_from(k0:Nat)(h0:0<k0)(hk0:k0≤10000000)(l1 h1 l2 h2:Nat)(va:Option Addr)(n vc:Nat)(kv:Value)(nx:Int)(xs:List Value)(ys:List Vw)(w:World)(hn:n≤1048576)(hxs:xs.length=n*2)(hl:ys.length≤1048580)(hll:∀y∈ys,y.2.2.1≤1048576∧y.2.2.2.length=y.2.2.1)(he:vend (k0+n*2) ys≤1000000000)(hh1:h1≤w.heap.size)(hh2:h2≤w.heap.size)(hap:h1≤l2∨h2≤l1)(ha:Sli 72 l1 h1 (.slice va n vc) n xs w)(hk:VIn l2 h2 kv ys w):
 Calls Tryz.prog 33 #[.agg #[.slice va n vc,kv,.int .i64 nx],.int .i64 (k0:Int)] w fun e w'=>e=.returned (.int .i64 ((vend (k0+n*2) ys:Nat):Int))∧Hid (Sli 72 l1 h1 (.slice va n vc) n (mkFlat patVl k0 n) w')∧Hid (VIn l2 h2 kv (vmk (k0+n*2) ys) w')∧Hid (Kept2 w w' (fun i=>Apt l1 h1 i∧Apt l2 h2 i)):=by
 obtain⟨ad,ca,rfl,-⟩:=hk.1.form;have bA:=(Below.refl w.heap.size w).alloc (Nat.le_refl _) (.cells #[.slice va n vc,.slice ad ys.length ca,.int .i64 nx] 55);have hz:=bA.size;have C1:=hide (markVl_any l1 h1 (.slice va n vc) n k0 xs _ (by omega) hxs (by omega) (by omega) (by omega) (Sli.loc _ _ _ _ _ _ _ _ (fun i _ hi=>bA.block i (by omega)) ha))
 have K1:=hide (VIn.loc _ _ _ _ _ _ (fun i _ hi=>bA.block i (by omega)) hk)
 have HB:=hide bA;have GB:=hide (heap_alloc_new w (.cells #[.slice va n vc,.slice ad ys.length ca,.int .i64 nx] 55));have HLL:=hide hll;obtain⟨yn,hyn⟩:∃yn,ys.length=yn:=⟨_,rfl⟩;obtain⟨m,hm⟩:∃m,k0+n*2=m:=⟨_,rfl⟩;have HM:=hide hm;rw[hyn]at C1 K1 HB GB;rw[hm]at C1 he;rw[hyn,hm];obtain⟨t,ht⟩:∃t,vend m ys=t:=⟨_,rfl⟩;rw[ht];have HT:=hide ht;clear ht;clear ha hk bA hz hll hyn hm;go_enter Tryz.func33,Tryz.ntmps33;go_wp2_with fail;generalize w.alloc (.cells #[.slice va n vc,.slice ad yn ca,.int .i64 nx] 55)=wb at C1 K1 HB GB⊢;refine C1.out.mono ?_;rintro e w1 ⟨rfl,s1,k1⟩;have hwb:Hid (w.heap.size<wb.heap.size):=(Array.getElem?_eq_some_iff.1 GB.out).1;have G1:Hid (w1.heap[w.heap.size]?=some (.cells #[.slice va n vc,.slice ad yn ca,.int .i64 nx] 55 (0,0))):=(k1.out.2.2.2.2 _ hwb.out (show Apt l1 h1 w.heap.size by unfold Apt;omega)).trans GB.out
 have q1:=cell_of_row _ _ 1 _ _ _ G1.out;have hs1:Hid (wb.heap.size≤w1.heap.size):=k1.out.2.2.2.1;have V1:Hid (VIn l2 h2 (.slice ad yn ca) ys w1):=VIn.loc _ _ _ _ wb w1 (fun i i1 i2=>k1.out.2.2.2.2 i (by have:=hwb.out;omega) (show Apt l1 h1 i by unfold Apt;omega)) K1.out
 have m0:Hid (0<m):=by have:=HM.out;show _<_;omega
 have C2:=hide (markAr_from m m0.out l2 h2 (.slice ad yn ca) ys w1 hl HLL.out he (by have:=hwb.out;have:=hs1.out;omega) V1.out)
 have KW:Hid (Kept2 w w1 (fun i=>Apt l1 h1 i∧Apt l2 h2 i)):=(Kept2.below HB.out).trans ⟨k1.out.1,k1.out.2.1,k1.out.2.2.1,k1.out.2.2.2.1,fun i hi ho=>k1.out.2.2.2.2 i hi ho.1⟩
 rw[HT.out]at C2;clear k1 C1 GB G1 V1 K1 he;go_wp2_with fail;refine C2.out.mono ?_;rintro e w2 ⟨rfl,s2,k2⟩;have hs2:Hid (h1≤w1.heap.size):=by have:=hwb.out;have:=hs1.out;show _≤_;omega
 have S2:Hid (Sli 72 l1 h1 (.slice va n vc) n (mkFlat patVl k0 n) w2):=Sli.loc _ _ _ _ _ _ w1 w2 (fun i i1 i2=>k2.out.2.2.2.2 i (by have:=hs2.out;omega) (show Apt l2 h2 i by unfold Apt;omega)) s1.out
 have KW2:Hid (Kept2 w w2 (fun i=>Apt l1 h1 i∧Apt l2 h2 i)):=KW.out.trans ⟨k2.out.1,k2.out.2.1,k2.out.2.2.1,k2.out.2.2.2.1,fun i hi ho=>k2.out.2.2.2.2 i hi ho.2⟩
 clear C2 k2 KW s1;go_wp2;go_ret;exact⟨rfl,S2,s2,KW2⟩
theorem markd_sp{w wi:World}{hs hs':List Hold}{v:Value}{d:Dv}{lo hi:Nat}(T:Tk w wi hs)(n1:Nat)(ho:OkD d)(hz:endK 1 d.flash≤10000000)(he0:endK 1 d.flash+d.store.vols.length*2+d.store.kns.length+kkids d.store.kns≤1000000000)(hlo:w.heap.size≤lo)(e1:hs[n1]?=some (lo,hi,Dvs lo hi v d))(hh:∀x∈hs',x∈hs∧(x.2.1≤lo∨hi≤x.1)):
 Calls Tryz.prog 15 #[v,.int .i64 1] wi fun e w'=>(∃r:Nat,e=.returned (.int .i64 (r:Int))∧0<r∧r≤1000000000)∧Tk w w' hs'∧wi.heap.size≤w'.heap.size:=by
 have hz1:=T.hi n1 e1;obtain⟨fd,fc,va,vc,ad,cap,rfl,lo1,hi1,lo2,hi2,x1,x2,p1,p2,p3,p4,p5⟩:=(T.get n1 e1).form2;have T0:Tk w wi hs':=T.drop (fun x hx=>(hh x hx).1)
 have T1:=((T0.put (show hi1≤wi.heap.size by omega) (Fla.loc _ _ _ _) x1).put (show hi2≤wi.heap.size by omega) (Sts.loc _ _ _ _) x2).cell #[.slice fd d.flash.length fc,.slice va d.store.vols.length vc,.slice ad d.store.kns.length cap,.int .i64 d.store.next,.int .i64 d.seq,.int .i64 d.tx,.int .i64 d.base] 57
 have HH:Hid (∀x∈hs',x.2.1≤lo∨hi≤x.1):=fun x hx=>(hh x hx).2
 have HZ:Hid (∀x∈hs',x.2.1≤wi.heap.size):=fun x hx=>(T0.2 x hx).1
 have sb:(wi.alloc (.cells #[.slice fd d.flash.length fc,.slice va d.store.vols.length vc,.slice ad d.store.kns.length cap,.int .i64 d.store.next,.int .i64 d.seq,.int .i64 d.tx,.int .i64 d.base] 57)).heap.size=wi.heap.size+1:=by simp
 have T2:=hide T1;have HO:=hide ho;have c0:(wi.alloc (.cells #[.slice fd d.flash.length fc,.slice va d.store.vols.length vc,.slice ad d.store.kns.length cap,.int .i64 d.store.next,.int .i64 d.seq,.int .i64 d.tx,.int .i64 d.base] 57)).cell? ⟨wi.heap.size,0,none⟩=some (.slice fd d.flash.length fc):=T1.at 0 0 rfl rfl;clear T T0 T1 x1 x2 e1 hh;generalize hwa:wi.alloc (.cells #[.slice fd d.flash.length fc,.slice va d.store.vols.length vc,.slice ad d.store.kns.length cap,.int .i64 d.store.next,.int .i64 d.seq,.int .i64 d.tx,.int .i64 d.base] 57)=wa at T2 c0 sb;have CM:=hide (mark_tk (hs':=(wi.heap.size,wi.heap.size+1,Cel wi.heap.size #[.slice fd d.flash.length fc,.slice va d.store.vols.length vc,.slice ad d.store.kns.length cap,.int .i64 d.store.next,.int .i64 d.seq,.int .i64 d.tx,.int .i64 d.base] 57)::(lo2,hi2,Sts lo2 hi2 (.agg #[.slice va d.store.vols.length vc,.slice ad d.store.kns.length cap,.int .i64 d.store.next]) d.store)::hs') T2.out 2 ho.1 rfl (by omega) (by
  intro x hx;rcases List.mem_cons.1 hx with rfl|hx
  ·exact⟨by simp,.inr (by show hi1≤wi.heap.size;omega)⟩
  ·rcases List.mem_cons.1 hx with rfl|hx
   ·exact⟨by simp,by show hi2≤lo1∨hi1≤lo2;omega⟩
   ·exact⟨by simp[hx],by have:=HH.out x hx;omega⟩))
 clear ho;go_enter Tryz.func15,Tryz.ntmps15;go_wp2_with fail;clear hwa;refine CM.out.mono ?_;rintro e w1 ⟨rfl,t1,s1⟩;have T3:=hide t1;have c1:w1.cell? ⟨wi.heap.size,1,none⟩=some (.slice va d.store.vols.length vc):=t1.at 0 1 rfl rfl;have c2:w1.cell? ⟨wi.heap.size,2,none⟩=some (.slice ad d.store.kns.length cap):=t1.at 0 2 rfl rfl;have c3:w1.cell? ⟨wi.heap.size,3,none⟩=some (.int .i64 d.store.next):=t1.at 0 3 rfl rfl;have hz2:=t1.hi 1 rfl;obtain⟨vv,kv,a1,b1,a2,b2,ee,y1,y2,r1,r2,r3,r4,r5⟩:=t1.get 1 rfl;obtain⟨vx,vy,rfl,-⟩:=y1.form;injection ee with ee
 injection ee with ee
 simp only[List.cons.injEq,and_true,Value.slice.injEq,true_and]at ee;obtain⟨⟨rfl,rfl⟩,rfl⟩:=ee;obtain⟨kr,hr,hx⟩:=y2;obtain⟨q1,q2⟩:=HO.out.2.1.2.1.row hr;have hll:∀y∈kr.map vOf,y.2.2.1≤1048576∧y.2.2.2.length=y.2.2.1:=by
  intro y hy;obtain⟨r,hr2,rfl⟩:=List.mem_map.1 hy;exact⟨q2 r hr2,by simp[vOf,icells]⟩
 obtain⟨k0,hk0⟩:∃k0,endK 1 d.flash=k0:=⟨_,rfl⟩;have hk1:0<k0:=by rw[←hk0];have:=endK_ge d.flash 1;omega
 rw[hk0]at hz he0⊢;have he:vend (k0+d.store.vols.length*2) (kr.map vOf)≤1000000000:=by
  rw[vend_kend,hr,kend_eq];omega
 have HVE:Hid (0<vend (k0+d.store.vols.length*2) (kr.map vOf)∧vend (k0+d.store.vols.length*2) (kr.map vOf)≤1000000000):=by
  refine⟨?_,he⟩;rw[vend_kend,hr,kend_eq];omega
 have CS:=hide (markSto_from k0 hk1 hz a1 b1 a2 b2 va d.store.vols.length vc (.slice ad d.store.kns.length cap) d.store.next (vlcells d.store.vols) (kr.map vOf) w1 HO.out.2.1.1 (vlcells_len _) (by rw[List.length_map];exact q1) hll he (by omega) (by omega) r5 y1 hx.v)
 clear CM t1 y1 hx hr q1 q2 hll hk0 T2 c0;go_wp2_with fail;refine CS.out.mono ?_;rintro e w2 ⟨rfl,-,-,hk⟩;have hk2:Kept2 w1 w2 (Apt lo2 hi2):=⟨hk.out.1,hk.out.2.1,hk.out.2.2.1,hk.out.2.2.2.1,fun i hi ho=>hk.out.2.2.2.2 i hi ⟨by unfold Apt at ho⊢;omega,by unfold Apt at ho⊢;omega⟩⟩
 have FT:=hide (T3.out.spoil (hs':=hs') hk2 (by omega) hz2 (fun x hx=>⟨by simp[hx],by have:=HH.out x hx;omega⟩))
 have FSz:=hide (show wi.heap.size≤w2.heap.size by have:=hk2.2.2.2.1;omega)
 clear CS hk hk2 T3 c1 c2 c3;go_wp2;go_ret;exact⟨⟨_,rfl,HVE.out⟩,FT.out,FSz.out⟩
end Go.Proofs.YtiicghepilbgfaaGreatDoor
