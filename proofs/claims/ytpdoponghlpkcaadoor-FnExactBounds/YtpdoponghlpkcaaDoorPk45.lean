/-
  ScC; EqDv
-/
import Derived.Test.YtpdoponghlpkcaaDoorPk43
import Derived.Test.YtpdoponghlpkcaaDoorSScan
import Derived.Test.YtpdoponghlpkcaaDoorDvTk
set_option maxHeartbeats 2000000
set_option maxRecDepth 100000
namespace Go.Proofs.YtpdoponghlpkcaaDoor
open Go.RowKit
open Words Sums
def ScOut(w:World)(bs:List Bk)(e:Ending)(w':World):Prop:=
 ∃(ad:Option Addr) (cap:Nat),e=.returned (.slice ad (scanF bs).length cap)∧FdRd w' ad (scanF bs).length (scanF bs)∧(scanF bs).length≤1099511627776∧Below w.heap.size w w'
theorem scOut{w w':World}{rs:List Rw}{e:Ending}(hl:rs.length≤1048576)(hll:∀r∈rs,r.2.2.2.length≤1048576)(h:∃u M,e=.returned u∧Asc M∧Akin (founds (rs.map tellOf) rs.length) M∧FRes w' w.heap.size u M∧Below w.heap.size w w'):ScOut w (rs.map tellOf) e w':=by
 obtain⟨u,M,rfl,h1,h2,h3,h4⟩:=h;have e1:M=scanF (rs.map tellOf):=scanF_is h1 (by rw[List.length_map];exact h2)
 obtain⟨ad,cap,rfl,h5,-⟩:=h3.rd;subst e1;refine⟨ad,cap,rfl,h5,?_,h4⟩;refine Nat.le_trans (scan_count (rs.map tellOf) 1048576 (fun b hb=>?_)) ?_
 ·obtain⟨r,hr,rfl⟩:=List.mem_map.1 hb;exact hll r hr
 ·rw[List.length_map];exact Nat.le_trans (Nat.mul_le_mul_right _ hl) (by decide)
theorem sscanO(v:Value)(rs:List Rw)(w:World)(hl:rs.length≤1048576)(hll:∀r∈rs,r.2.2.2.length≤1048576)(htx:TxB rs)(ha:FlashRd w v rs):Calls Tryd.prog 13 #[.agg #[v]] w (ScOut w (rs.map tellOf)):=
 (sscan_rd v rs w hl hll htx ha).mono (fun _ _ h=>scOut hl hll h)
theorem iscanO(v:Value)(rs:List Rw)(w:World)(hl:rs.length≤1048576)(hll:∀r∈rs,r.2.2.2.length≤1048576)(htx:TxB rs)(ha:FlashRd w v rs)(ht:HalvIn w):Calls Tryd.prog 18 #[.agg #[v]] w (ScOut w (rs.map tellOf)):=
 (iscan_rd v rs w hl hll htx ha ht).mono (fun _ _ h=>scOut hl hll h)
end Go.Proofs.YtpdoponghlpkcaaDoor
namespace Go.Proofs.YtpdoponghlpkcaaDoor
open Go.RowKit
open Words
theorem Dvs.form2{lo hi:Nat}{v:Value}{d:Dv}{W:World}(h:Dvs lo hi v d W):∃fd fc va vc ad cap,v=.agg #[.slice fd d.flash.length fc,.slice va d.store.vols.length vc,.slice ad d.store.kns.length cap,.int .i64 d.store.next,.int .i64 d.seq,.int .i64 d.tx,.int .i64 d.base]∧∃lo1 hi1 lo2 hi2,Fla lo1 hi1 (.slice fd d.flash.length fc) d.flash W∧Sts lo2 hi2 (.agg #[.slice va d.store.vols.length vc,.slice ad d.store.kns.length cap,.int .i64 d.store.next]) d.store W∧lo≤lo1∧hi1≤hi∧lo≤lo2∧hi2≤hi∧(hi1≤lo2∨hi2≤lo1):=by
 obtain⟨fv,vv,kv,lo1,hi1,lo2,hi2,e,h1,h2,h3⟩:=h;obtain⟨fd,fc,rfl,-⟩:=h1.form;obtain⟨va,vc,ad,cap,e2⟩:=h2.form;injection e2 with e2
 injection e2 with e2
 simp only[List.cons.injEq,and_true]at e2;obtain⟨rfl,rfl⟩:=e2;exact⟨_,_,_,_,_,_,e,lo1,hi1,lo2,hi2,h1,h2,h3⟩
theorem eqd_any{v u:Value}{d:Dv}{l1 h1 l2 h2:Nat}(W:World)(ho:OkD d)(hv:Dvs l1 h1 v d W)(hu:Dvs l2 h2 u d W)(z1:h1≤W.heap.size)(z2:h2≤W.heap.size):
 Calls Tryd.prog 8 #[v,u] W fun e w'=>e=.returned (.bool true)∧Below W.heap.size W w':=by
 obtain⟨f1,c1,v1,k1,a1,p1,rfl,lo1,hi1,lo2,hi2,x1,x2,-,x4,-,x6,-⟩:=hv.form2;obtain⟨f2,c2,v2,k2,a2,p2,rfl,lo3,hi3,lo4,hi4,y1,y2,-,y4,-,y6,-⟩:=hu.form2;have s0:(W.alloc (.cells #[.slice f1 d.flash.length c1,.slice v1 d.store.vols.length k1,.slice a1 d.store.kns.length p1,.int .i64 d.store.next,.int .i64 d.seq,.int .i64 d.tx,.int .i64 d.base] 45)).heap.size=W.heap.size+1:=by simp
 have b0:Below W.heap.size W (W.alloc (.cells #[.slice f1 d.flash.length c1,.slice v1 d.store.vols.length k1,.slice a1 d.store.kns.length p1,.int .i64 d.store.next,.int .i64 d.seq,.int .i64 d.tx,.int .i64 d.base] 45)):=(Below.refl _ _).alloc (Nat.le_refl _) _;have b1:Below (W.alloc (.cells #[.slice f1 d.flash.length c1,.slice v1 d.store.vols.length k1,.slice a1 d.store.kns.length p1,.int .i64 d.store.next,.int .i64 d.seq,.int .i64 d.tx,.int .i64 d.base] 45)).heap.size (W.alloc (.cells #[.slice f1 d.flash.length c1,.slice v1 d.store.vols.length k1,.slice a1 d.store.kns.length p1,.int .i64 d.store.next,.int .i64 d.seq,.int .i64 d.tx,.int .i64 d.base] 45)) ((W.alloc (.cells #[.slice f1 d.flash.length c1,.slice v1 d.store.vols.length k1,.slice a1 d.store.kns.length p1,.int .i64 d.store.next,.int .i64 d.seq,.int .i64 d.tx,.int .i64 d.base] 45)).alloc (.cells #[.slice f2 d.flash.length c2,.slice v2 d.store.vols.length k2,.slice a2 d.store.kns.length p2,.int .i64 d.store.next,.int .i64 d.seq,.int .i64 d.tx,.int .i64 d.base] 45)):=(Below.refl _ _).alloc (Nat.le_refl _) _;have g0:DAt (W.alloc (.cells #[.slice f1 d.flash.length c1,.slice v1 d.store.vols.length k1,.slice a1 d.store.kns.length p1,.int .i64 d.store.next,.int .i64 d.seq,.int .i64 d.tx,.int .i64 d.base] 45)) W.heap.size (.slice f1 d.flash.length c1) (.slice v1 d.store.vols.length k1) (.slice a1 d.store.kns.length p1) d.store.next d.seq d.tx d.base:=heap_alloc_new _ _;have gA:=g0.below b1;have gB:DAt ((W.alloc (.cells #[.slice f1 d.flash.length c1,.slice v1 d.store.vols.length k1,.slice a1 d.store.kns.length p1,.int .i64 d.store.next,.int .i64 d.seq,.int .i64 d.tx,.int .i64 d.base] 45)).alloc (.cells #[.slice f2 d.flash.length c2,.slice v2 d.store.vols.length k2,.slice a2 d.store.kns.length p2,.int .i64 d.store.next,.int .i64 d.seq,.int .i64 d.tx,.int .i64 d.base] 45)) (W.heap.size+1) (.slice f2 d.flash.length c2) (.slice v2 d.store.vols.length k2) (.slice a2 d.store.kns.length p2) d.store.next d.seq d.tx d.base:=by
  rw[←s0];exact heap_alloc_new _ _
 have bA:=b0.trans (b1.mono b0.size);generalize hwa:((W.alloc (.cells #[.slice f1 d.flash.length c1,.slice v1 d.store.vols.length k1,.slice a1 d.store.kns.length p1,.int .i64 d.store.next,.int .i64 d.seq,.int .i64 d.tx,.int .i64 d.base] 45)).alloc (.cells #[.slice f2 d.flash.length c2,.slice v2 d.store.vols.length k2,.slice a2 d.store.kns.length p2,.int .i64 d.store.next,.int .i64 d.seq,.int .i64 d.tx,.int .i64 d.base] 45))=wa at gA gB bA;have kp:∀y,y<W.heap.size→wa.heap[y]?=W.heap[y]?:=fun y hy=>bA.block y hy
 have X1:=hide (Fla.loc _ _ _ _ W wa (fun y y1 y2=>kp y (by omega)) x1)
 have X2:=hide (Sts.loc _ _ _ _ W wa (fun y y1 y2=>kp y (by omega)) x2)
 have Y1:=hide (Fla.loc _ _ _ _ W wa (fun y y1 y2=>kp y (by omega)) y1)
 have Y2:=hide (Sts.loc _ _ _ _ W wa (fun y y1 y2=>kp y (by omega)) y2)
 have hwz:=bA.size;have CE:=hide (eq_of (.slice f1 d.flash.length c1) (.slice f2 d.flash.length c2) d.flash lo1 hi1 lo3 hi3 wa ho.1 ⟨by omega,X1.out⟩ ⟨by omega,Y1.out⟩)
 have HO:=hide ho;have BA:=hide bA;have GA:=hide gA;have GB:=hide gB;have i0:=gA.cells.1;have j0:=gB.cells.1;clear hv hu x1 x2 y1 y2 s0 b0 b1 g0 gA gB bA kp ho;go_enter Tryd.func8,Tryd.ntmps8;go_wp2_with fail;clear hwa;refine CE.out.mono ?_;rintro e w1 ⟨rfl,b1⟩;have hw1:=b1.size;have tk:Tk wa w1 [(lo2,hi2,Sts lo2 hi2 (.agg #[.slice v1 d.store.vols.length k1,.slice a1 d.store.kns.length p1,.int .i64 d.store.next]) d.store),(lo4,hi4,Sts lo4 hi4 (.agg #[.slice v2 d.store.vols.length k2,.slice a2 d.store.kns.length p2,.int .i64 d.store.next]) d.store)]:=by
  refine⟨b1,fun x hx=>?_⟩
  simp only[List.mem_cons,List.not_mem_nil,or_false]at hx;rcases hx with rfl|rfl
  ·exact⟨by show hi2≤_;omega,Sts.loc _ _ _ _,Sts.loc _ _ _ _ wa w1 (fun y y1 y2=>b1.block y (by omega)) X2.out⟩
  ·exact⟨by show hi4≤_;omega,Sts.loc _ _ _ _,Sts.loc _ _ _ _ wa w1 (fun y y1 y2=>b1.block y (by omega)) Y2.out⟩
 have CT:=hide (eqsto_tk tk 0 1 HO.out.2.1 rfl rfl);have G1:=hide (GA.out.below b1);have J1:=hide (GB.out.below b1);have HB1:=hide b1;obtain⟨-,m1,m2,m3,-,-,-⟩:=G1.out.cells;obtain⟨-,n1,n2,n3,-,-,-⟩:=J1.out.cells;clear CE X1 X2 Y1 Y2 i0 j0 tk b1 G1 J1;go_wp2_with fail;refine CT.out.mono ?_;rintro e w2 ⟨rfl,t2,z3⟩;have B2:=t2.1;have FB:=hide (BA.out.trans (B2.mono BA.out.size));obtain⟨-,-,-,-,m4,m5,m6⟩:=(GA.out.below B2).cells;obtain⟨-,-,-,-,n4,n5,n6⟩:=(GB.out.below B2).cells;have e4:(d.seq !=d.seq)=false:=by simp
 have e5:(d.tx !=d.tx)=false:=by simp
 have e6:(d.base !=d.base)=false:=by simp
 clear CT t2 z3 B2 m1 m2 m3 n1 n2 n3 GA GB;go_wp2;go_ret;exact⟨rfl,FB.out⟩
theorem tod_tk{w wi:World}{hs:List Hold}{fa:Option Addr}{n fc:Nat}{rs:List Rw}{va:Option Addr}{vl vc:Nat}{vs:List (Int×Int)}{ad:Option Addr}{len cap:Nat}{kr:List Kw}{nx sq tx bs:Int}{d:Dv}(T:Tk w wi hs)(ho:OkA rs vl len vs kr nx)(hn:n≤1048576)(hb:BkRow w fa n rs)(hv:VlRow w va vl vs)(hk:KnRd w ad len kr)(hd:d=⟨rs.map tellOf,⟨vs,kr.map ktell,nx⟩,sq,tx,bs⟩):
 Calls Tryd.prog 6 #[.agg #[.slice fa n fc,.slice va vl vc,.slice ad len cap,.int .i64 nx,.int .i64 sq,.int .i64 tx,.int .i64 bs]] wi fun e w'=>∃fd fc va vc ad cap,e=.returned (.agg #[.slice fd d.flash.length fc,.slice va d.store.vols.length vc,.slice ad d.store.kns.length cap,.int .i64 d.store.next,.int .i64 d.seq,.int .i64 d.tx,.int .i64 d.base])∧Tk w w' ((wi.heap.size,w'.heap.size,Dvs wi.heap.size w'.heap.size (.agg #[.slice fd d.flash.length fc,.slice va d.store.vols.length vc,.slice ad d.store.kns.length cap,.int .i64 d.store.next,.int .i64 d.seq,.int .i64 d.tx,.int .i64 d.base]) d)::hs)∧wi.heap.size≤w'.heap.size:=by
 refine(tod_any fa n fc rs va vl vc vs ad len cap kr nx sq tx bs wi ho hn (hb.below T.1) (hv.below T.1) (hk.below T.1)).mono ?_;rintro e w' ⟨v,rfl,h,b⟩;rw[←hd]at h;obtain⟨fd,fc,va,vc,ad,cap,rfl,-⟩:=h.form2;exact⟨_,_,_,_,_,_,rfl,T.add b (Dvs.loc _ _ _ _) h,b.size⟩
theorem eqd_tk{w wi:World}{hs:List Hold}{v u:Value}{d:Dv}{l1 h1 l2 h2:Nat}(T:Tk w wi hs)(n1 n2:Nat)(ho:OkD d)(e1:hs[n1]?=some (l1,h1,Dvs l1 h1 v d))(e2:hs[n2]?=some (l2,h2,Dvs l2 h2 u d)):
 Calls Tryd.prog 8 #[v,u] wi fun e w'=>e=.returned (.bool true)∧Tk w w' hs∧wi.heap.size≤w'.heap.size:=by
 refine(eqd_any wi ho (T.get n1 e1) (T.get n2 e2) (T.hi n1 e1) (T.hi n2 e2)).mono ?_;rintro e w' ⟨rfl,b⟩;exact⟨rfl,T.below b,b.size⟩
end Go.Proofs.YtpdoponghlpkcaaDoor
