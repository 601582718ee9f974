/-
  SArOk; SGet; SAll; SRoots; VlApp; StApp; LastOp; KnCp; Gate; SCopyS; CeRc; RcRow; TreeC; StoC; StH; DvC
-/
import Derived.Test.YtpdoponghlpkcaaDoorKnN
import Derived.Test.YtpdoponghlpkcaaDoorPk6
import Derived.Test.YtpdoponghlpkcaaDoorPk8
import Derived.Test.YtpdoponghlpkcaaDoorPk4
import Derived.Deep.AppendLies
import Derived.Maps.AppendAt
import Derived.Test.YtpdoponghlpkcaaDoorPk0
import Derived.Orders
import Derived.OrdersHeld
import Derived.Tactics
import Derived.Deep.RegionHeld
import Derived.Deep.RegionHeld3
import Derived.Deep.DeepCutAuto
import Derived.Laws.AppendOwnNone
import Derived.Test.YtpdoponghlpkcaaDoorPk5
set_option maxRecDepth 100000
namespace Go.Proofs.YtpdoponghlpkcaaDoor
open Go.RowKit
open Words
theorem infoSto:(Tryd.prog.info? 43).map (·.size)=some 3:=by kernel_rfl
abbrev SBox(va:Option Addr)(vl vc:Nat)(ad:Option Addr)(len cap:Nat)(nx:Int):Array Value:= #[.slice va vl vc,.slice ad len cap,.int .i64 nx]
def VlSl(W:World)(v:Value)(ls:List (Int×Int)):Prop:=∃a c,v=.slice a ls.length c∧(a=none→c=0)∧VlRow W a ls.length ls
theorem VlSl.of{lo hi:Nat}{v:Value}{ls:List (Int×Int)}{W:World}(h:Sli 100 lo hi v ls.length (vlcells ls) W)(hm:ls.length≤maxLen)(hh:hi≤W.heap.size):VlSl W v ls:=by
 rcases h with⟨rfl,h0⟩|⟨g,cap,rfl,h1,h2,h3⟩
 ·exact⟨none,0,by rw[h0],fun _=>rfl,rfl,hm,by simp,fun h=>by omega⟩
 ·refine⟨_,_,rfl,(fun e=>by cases e),rfl,hm,by simp,fun _=>⟨g,0,rfl,by omega,fun i t hi=>?_⟩⟩
  have hc:=fun j v hj=>h3.cell (vlcells_at ls i t hi j v hj)
  refine⟨?_,?_⟩
  ·simpa using hc 0 _ rfl
  ·simpa using hc 1 _ rfl
def StOut(w:World)(s:Sto)(v:Value)(w':World):Prop:=
 ∃vv kv lo1 hi1 lo2 hi2,v=.agg #[vv,kv,.int .i64 s.next]∧Sli 100 lo1 hi1 vv s.vols.length (vlcells s.vols) w'∧Kns lo2 hi2 kv s.kns w'∧w.heap.size≤lo1∧hi1≤w'.heap.size∧w.heap.size≤lo2∧hi2≤w'.heap.size∧(hi1≤lo2∨hi2≤lo1)∧Below w.heap.size w w'
theorem Kns.rd{W:World}{lo hi n c:Nat}{ad:Option Addr}{M:List Kn}(h:Kns lo hi (.slice ad n c) M W)(hn:M.length=n)(hh:hi≤W.heap.size):∃rs,rs.map ktell=M∧KnRd W ad n rs:=by
 obtain⟨rs,e,hx⟩:=h;exact⟨rs,e,hx.rd (by rw[←hn,←e,List.length_map]) hh⟩
def StIn(w:World)(v:Value)(s:Sto):Prop:=
 ∃va vl vc ad len cap rs,v=.agg (SBox va vl vc ad len cap s.next)∧s.kns=rs.map ktell∧vl≤1048576∧len≤1048576∧(∀r∈rs,r.2.2.length≤1048576)∧(va=none→vc=0)∧VlRow w va vl s.vols∧KnRd w ad len rs
def Words.Sto.Fit(s:Sto):Prop:=s.vols.length≤1048576∧s.kns.length≤1048576∧∀k∈s.kns,k.kids.length≤1048576
theorem StOut.blw{w w':World}{v:Value}{s:Sto}(h:StOut w s v w'):Below w.heap.size w w':=by
 obtain⟨vv,kv,lo1,hi1,lo2,hi2,-,-,-,-,-,-,-,-,h⟩:=h;exact h
theorem sto_row3{w:World}{g:Nat}{x0 x1 x2 a b c:Value}(h:w.heap[g]?=some (.cells #[x0,x1,x2] 43 (0,0))):(((w.setCell ⟨g,0,none⟩ a).setCell ⟨g,1,none⟩ b).setCell ⟨g,2,none⟩ c).heap[g]?=some (.cells #[a,b,c] 43 (0,0)):=heap_setCell_same _ _ 2 _ _ _ (heap_setCell_same _ _ 1 _ _ _ (heap_setCell_same _ _ 0 _ _ _ h))
theorem st_fin{w W:World}{z lo1 hi1 lo2 hi2:Nat}{vv kv:Value}{s:Sto}(hz:w.heap.size≤z)(h1:Sli 100 lo1 hi1 vv s.vols.length (vlcells s.vols) W)(h2:Kns lo2 hi2 kv s.kns W)(a1:w.heap.size≤lo1∧(hi1≤z∨z<lo1))(a2:w.heap.size≤lo2∧(hi2≤z∨z<lo2))(a3:hi1≤W.heap.size)(a4:hi2≤W.heap.size)(a5:hi1≤lo2∨hi2≤lo1)(hb:Below w.heap.size w W):
 StOut w s (.agg #[vv,kv,.int .i64 s.next]) (((W.setCell ⟨z,0,none⟩ vv).setCell ⟨z,1,none⟩ kv).setCell ⟨z,2,none⟩ (.int .i64 s.next)):=by
 have hz2:(((W.setCell ⟨z,0,none⟩ vv).setCell ⟨z,1,none⟩ kv).setCell ⟨z,2,none⟩ (.int .i64 s.next)).heap.size=W.heap.size:=by simp[World.setCell]
 have hq:∀q,q≠z→(((W.setCell ⟨z,0,none⟩ vv).setCell ⟨z,1,none⟩ kv).setCell ⟨z,2,none⟩ (.int .i64 s.next)).heap[q]?=W.heap[q]?:=fun q q1=>(Below.heap_setCell _ _ _ _ q1).trans ((Below.heap_setCell _ _ _ _ q1).trans (Below.heap_setCell _ _ _ _ q1))
 refine⟨vv,kv,lo1,hi1,lo2,hi2,rfl,?_,?_,a1.1,by omega,a2.1,by omega,a5,?_⟩
 ·exact Sli.loc _ _ _ _ _ _ W _ (fun g g1 g2=>hq g (by omega)) h1
 ·exact Kns.loc _ _ _ _ W _ (fun g g1 g2=>hq g (by omega)) h2
 ·exact((hb.setCell (p:=⟨z,0,none⟩) hz _).setCell (p:=⟨z,1,none⟩) hz _).setCell (p:=⟨z,2,none⟩) hz _
def DvIn(W:World)(v:Value)(d:Dv):Prop:=∃fv vv kv,v=.agg #[fv,vv,kv,.int .i64 d.store.next,.int .i64 d.seq,.int .i64 d.tx,.int .i64 d.base]∧RdB W fv d.flash∧Sml d.flash∧StIn W (.agg #[vv,kv,.int .i64 d.store.next]) d.store
theorem stin_slices{W:World}{vv kv:Value}{n:Int}{s:Sto}(h:StIn W (.agg #[vv,kv,.int .i64 n]) s):∃va vl vc ad len cap,vv=.slice va vl vc∧kv=.slice ad len cap∧n=s.next:=by
 obtain⟨va,vl,vc,ad,len,cap,rs,h1,-⟩:=h;unfold SBox at h1;injection h1 with h1
 injection h1 with h1
 simp only[List.cons.injEq,and_true,Value.int.injEq,true_and]at h1;exact⟨va,vl,vc,ad,len,cap,h1.1,h1.2.1,h1.2.2⟩
theorem DvIn.form{W:World}{v:Value}{d:Dv}(h:DvIn W v d):∃fd fc va vl vc ad len cap,v=.agg #[.slice fd d.flash.length fc,.slice va vl vc,.slice ad len cap,.int .i64 d.store.next,.int .i64 d.seq,.int .i64 d.tx,.int .i64 d.base]∧RdB W (.slice fd d.flash.length fc) d.flash∧Sml d.flash∧StIn W (.agg #[.slice va vl vc,.slice ad len cap,.int .i64 d.store.next]) d.store:=by
 obtain⟨fv,vv,kv,e,h1,h2,h3⟩:=h;obtain⟨fd,fc,rfl⟩:=h1.form;obtain⟨va,vl,vc,ad,len,cap,rfl,rfl,-⟩:=stin_slices h3;exact⟨fd,fc,va,vl,vc,ad,len,cap,e,h1,h2,h3⟩
def DAt(W:World)(g:Nat)(a b c:Value)(n q t s:Int):Prop:=W.heap[g]?=some (.cells #[a,b,c,.int .i64 n,.int .i64 q,.int .i64 t,.int .i64 s] 45 (0,0))
theorem DAt.below{w w':World}{g:Nat}{a b c:Value}{n q t s:Int}(h:DAt w g a b c n q t s)(hb:Below w.heap.size w w'):DAt w' g a b c n q t s:=(hb.block _ (Array.getElem?_eq_some_iff.1 h).1).trans h
theorem DAt.lt{w:World}{g:Nat}{a b c:Value}{n q t s:Int}(h:DAt w g a b c n q t s):g<w.heap.size:=(Array.getElem?_eq_some_iff.1 h).1
theorem DAt.cells{W:World}{g:Nat}{a b c:Value}{n q t s:Int}(h:DAt W g a b c n q t s):W.cell? ⟨g,0,none⟩=some a∧W.cell? ⟨g,1,none⟩=some b∧W.cell? ⟨g,2,none⟩=some c∧W.cell? ⟨g,3,none⟩=some (.int .i64 n)∧W.cell? ⟨g,4,none⟩=some (.int .i64 q)∧W.cell? ⟨g,5,none⟩=some (.int .i64 t)∧W.cell? ⟨g,6,none⟩=some (.int .i64 s):=
 ⟨cell_of_row _ _ 0 _ _ _ h,cell_of_row _ _ 1 _ _ _ h,cell_of_row _ _ 2 _ _ _ h,cell_of_row _ _ 3 _ _ _ h,cell_of_row _ _ 4 _ _ _ h,cell_of_row _ _ 5 _ _ _ h,cell_of_row _ _ 6 _ _ _ h⟩
theorem DAt.fr{W:World}{g:Nat}{a b c:Value}{n q t s:Int}(h:DAt W g a b c n q t s)(k:Nat):W.frozen? ⟨g,k,none⟩=false:=frozen_of_row _ _ k _ _ h
theorem DAt.seq{W:World}{g:Nat}{a b c:Value}{n q t s:Int}(h:DAt W g a b c n q t s)(x:Int):DAt (W.setCell ⟨g,4,none⟩ (.int .i64 x)) g a b c n x t s:=heap_setCell_same _ _ 4 _ _ _ h
theorem DAt.tx{W:World}{g:Nat}{a b c:Value}{n q t s:Int}(h:DAt W g a b c n q t s)(x:Int):DAt (W.setCell ⟨g,5,none⟩ (.int .i64 x)) g a b c n q x s:=heap_setCell_same _ _ 5 _ _ _ h
theorem DAt.base{W:World}{g:Nat}{a b c:Value}{n q t s:Int}(h:DAt W g a b c n q t s)(x:Int):DAt (W.setCell ⟨g,6,none⟩ (.int .i64 x)) g a b c n q t x:=heap_setCell_same _ _ 6 _ _ _ h
theorem DAt.store{W:World}{g:Nat}{a b c:Value}{n q t s:Int}(h:DAt W g a b c n q t s)(x y:Value)(m:Int):DAt (((W.setCell ⟨g,1,none⟩ x).setCell ⟨g,2,none⟩ y).setCell ⟨g,3,none⟩ (.int .i64 m)) g a x y m q t s:=by
 have h1:(W.setCell ⟨g,1,none⟩ x).heap[g]?=some (.cells #[a,x,c,.int .i64 n,.int .i64 q,.int .i64 t,.int .i64 s] 45 (0,0)):=heap_setCell_same _ _ 1 _ _ _ h;generalize W.setCell ⟨g,1,none⟩ x=W1 at h1⊢;have h2:(W1.setCell ⟨g,2,none⟩ y).heap[g]?=some (.cells #[a,x,y,.int .i64 n,.int .i64 q,.int .i64 t,.int .i64 s] 45 (0,0)):=heap_setCell_same _ _ 2 _ _ _ h1;generalize W1.setCell ⟨g,2,none⟩ y=W2 at h2⊢;exact heap_setCell_same _ _ 3 _ _ _ h2
theorem DAt.far{W:World}{g h k:Nat}{a b c u:Value}{n q t s:Int}(e:DAt W g a b c n q t s)(hne:g≠h):DAt (W.setCell ⟨h,k,none⟩ u) g a b c n q t s:=(Below.heap_setCell _ _ _ _ hne).trans e
def put7(W:World)(g:Nat)(a b c:Value)(n q t s:Int):World:=((((((W.setCell ⟨g,0,none⟩ a).setCell ⟨g,1,none⟩ b).setCell ⟨g,2,none⟩ c).setCell ⟨g,3,none⟩ (.int .i64 n)).setCell ⟨g,4,none⟩ (.int .i64 q)).setCell ⟨g,5,none⟩ (.int .i64 t)).setCell ⟨g,6,none⟩ (.int .i64 s)
theorem put7_other(W:World)(g:Nat)(a b c:Value)(n q t s:Int){i:Nat}(h:i≠g):(put7 W g a b c n q t s).heap[i]?=W.heap[i]?:=by
 unfold put7;rw[Below.heap_setCell _ ⟨g,6,none⟩ _ _ h,Below.heap_setCell _ ⟨g,5,none⟩ _ _ h,Below.heap_setCell _ ⟨g,4,none⟩ _ _ h,Below.heap_setCell _ ⟨g,3,none⟩ _ _ h,Below.heap_setCell _ ⟨g,2,none⟩ _ _ h,Below.heap_setCell _ ⟨g,1,none⟩ _ _ h,Below.heap_setCell _ ⟨g,0,none⟩ _ _ h]
theorem put7_size(W:World)(g:Nat)(a b c:Value)(n q t s:Int):(put7 W g a b c n q t s).heap.size=W.heap.size:=by simp[put7,World.setCell]
theorem put7_below{B g:Nat}{w W:World}(a b c:Value)(n q t s:Int)(h:Below B w W)(hg:B≤g):Below B w (put7 W g a b c n q t s):=
 ((((((h.setCell (p:=⟨g,0,none⟩) hg _).setCell (p:=⟨g,1,none⟩) hg _).setCell (p:=⟨g,2,none⟩) hg _).setCell (p:=⟨g,3,none⟩) hg _).setCell (p:=⟨g,4,none⟩) hg _).setCell (p:=⟨g,5,none⟩) hg _).setCell (p:=⟨g,6,none⟩) hg _
theorem put7_at{W:World}{g:Nat}{a0 b0 c0:Value}{n0 q0 t0 s0:Int}(h:DAt W g a0 b0 c0 n0 q0 t0 s0)(a b c:Value)(n q t s:Int):DAt (put7 W g a b c n q t s) g a b c n q t s:=by
 unfold put7;have h0:(W.setCell ⟨g,0,none⟩ a).heap[g]?=some (.cells #[a,b0,c0,.int .i64 n0,.int .i64 q0,.int .i64 t0,.int .i64 s0] 45 (0,0)):=heap_setCell_same _ _ 0 _ _ _ h;generalize W.setCell ⟨g,0,none⟩ a=W0 at h0⊢;have h1:DAt (((W0.setCell ⟨g,1,none⟩ b).setCell ⟨g,2,none⟩ c).setCell ⟨g,3,none⟩ (.int .i64 n)) g a b c n q0 t0 s0:=DAt.store h0 b c n;exact((h1.seq q).tx t).base s
theorem infoDvS:(Tryd.prog.info? 45).map (·.size)=some 7:=by kernel_rfl
theorem results_dv1 {fn:Func} {p:Tmp} (h:fn.results= #[.cell p 45]) (tmps:Array Value) (w:World) (g:Nat) (a b c:Value) (n x t s:Int)
 (hp:tmps.getD p undef=.pointer (some ⟨g,0,none⟩)) (hc:DAt w g a b c n x t s):
 (results fn tmps).run Tryd.prog w=.ok (.agg #[a,b,c,.int .i64 n,.int .i64 x,.int .i64 t,.int .i64 s]) w:=by
 have hp':tmps[p]?.getD undef=.pointer (some ⟨g,0,none⟩):=by simpa using hp
 have hl:=run_loadVar_row (P:=Tryd.prog) w g 45 45 _ _ _ hc Tryd.underlying45 rfl infoDvS;simp[results,h,hp',asAddr,hl]
def Dv.Fit(d:Dv):Prop:=Sml d.flash∧d.store.Fit
end Go.Proofs.YtpdoponghlpkcaaDoor
