/-
  DvC; SChunk; FdC; FdR; ReadM
-/
import Derived.Test.YtiicghepilbgfaaGreatDoorPk8
import Derived.Test.YtiicghepilbgfaaGreatDoorPk11
import Derived.Test.YtiicghepilbgfaaGreatDoorPk12
import Derived.Test.YtiicghepilbgfaaGreatDoorPk9
import Derived.Deep.RegionHeld3
import Derived.Test.YtiicghepilbgfaaGreatDoorPk0
import Derived.Test.YtiicghepilbgfaaGreatDoorPk7
import Derived.Test.YtiicghepilbgfaaGreatDoorPk1
set_option maxHeartbeats 1000000
set_option maxRecDepth 100000
namespace Go.Proofs.YtiicghepilbgfaaGreatDoor
open Go.RowKit
open Words
def DvIn(W:World)(v:Value)(d:Dv):Prop:=∃fv vv kv,v=.agg #[fv,vv,kv,.int .i64 d.store.next,.int .i64 d.seq,.int .i64 d.tx,.int .i64 d.base]∧RdB W fv d.flash∧Sml d.flash∧StIn W (.agg #[vv,kv,.int .i64 d.store.next]) d.store
theorem DvIn.below{W W':World}{v:Value}{d:Dv}(h:DvIn W v d)(hb:Below W.heap.size W W'):DvIn W' v d:=by
 obtain⟨fv,vv,kv,e,h1,h2,h3⟩:=h;exact⟨fv,vv,kv,e,h1.below hb,h2,h3.below hb⟩
theorem stin_slices{W:World}{vv kv:Value}{n:Int}{s:Sto}(h:StIn W (.agg #[vv,kv,.int .i64 n]) s):∃va vl vc ad len cap,vv=.slice va vl vc∧kv=.slice ad len cap∧n=s.next:=by
 obtain⟨va,vl,vc,ad,len,cap,rs,h1,-⟩:=h;unfold SBox at h1;injection h1 with h1
 injection h1 with h1
 simp only[List.cons.injEq,and_true,Value.int.injEq,true_and]at h1;exact⟨va,vl,vc,ad,len,cap,h1.1,h1.2.1,h1.2.2⟩
theorem DvIn.form{W:World}{v:Value}{d:Dv}(h:DvIn W v d):∃fd fc va vl vc ad len cap,v=.agg #[.slice fd d.flash.length fc,.slice va vl vc,.slice ad len cap,.int .i64 d.store.next,.int .i64 d.seq,.int .i64 d.tx,.int .i64 d.base]∧RdB W (.slice fd d.flash.length fc) d.flash∧Sml d.flash∧StIn W (.agg #[.slice va vl vc,.slice ad len cap,.int .i64 d.store.next]) d.store:=by
 obtain⟨fv,vv,kv,e,h1,h2,h3⟩:=h;obtain⟨fd,fc,rfl⟩:=h1.form;obtain⟨va,vl,vc,ad,len,cap,rfl,rfl,-⟩:=stin_slices h3;exact⟨fd,fc,va,vl,vc,ad,len,cap,e,h1,h2,h3⟩
def DAt(W:World)(g:Nat)(a b c:Value)(n q t s:Int):Prop:=W.heap[g]?=some (.cells #[a,b,c,.int .i64 n,.int .i64 q,.int .i64 t,.int .i64 s] 57 (0,0))
theorem DAt.below{w w':World}{g:Nat}{a b c:Value}{n q t s:Int}(h:DAt w g a b c n q t s)(hb:Below w.heap.size w w'):DAt w' g a b c n q t s:=(hb.block _ (Array.getElem?_eq_some_iff.1 h).1).trans h
theorem DAt.cells{W:World}{g:Nat}{a b c:Value}{n q t s:Int}(h:DAt W g a b c n q t s):W.cell? ⟨g,0,none⟩=some a∧W.cell? ⟨g,1,none⟩=some b∧W.cell? ⟨g,2,none⟩=some c∧W.cell? ⟨g,3,none⟩=some (.int .i64 n)∧W.cell? ⟨g,4,none⟩=some (.int .i64 q)∧W.cell? ⟨g,5,none⟩=some (.int .i64 t)∧W.cell? ⟨g,6,none⟩=some (.int .i64 s):=
 ⟨cell_of_row _ _ 0 _ _ _ h,cell_of_row _ _ 1 _ _ _ h,cell_of_row _ _ 2 _ _ _ h,cell_of_row _ _ 3 _ _ _ h,cell_of_row _ _ 4 _ _ _ h,cell_of_row _ _ 5 _ _ _ h,cell_of_row _ _ 6 _ _ _ h⟩
theorem DAt.fr{W:World}{g:Nat}{a b c:Value}{n q t s:Int}(h:DAt W g a b c n q t s)(k:Nat):W.frozen? ⟨g,k,none⟩=false:=frozen_of_row _ _ k _ _ h
theorem DAt.seq{W:World}{g:Nat}{a b c:Value}{n q t s:Int}(h:DAt W g a b c n q t s)(x:Int):DAt (W.setCell ⟨g,4,none⟩ (.int .i64 x)) g a b c n x t s:=heap_setCell_same _ _ 4 _ _ _ h
theorem DAt.tx{W:World}{g:Nat}{a b c:Value}{n q t s:Int}(h:DAt W g a b c n q t s)(x:Int):DAt (W.setCell ⟨g,5,none⟩ (.int .i64 x)) g a b c n q x s:=heap_setCell_same _ _ 5 _ _ _ h
theorem DAt.base{W:World}{g:Nat}{a b c:Value}{n q t s:Int}(h:DAt W g a b c n q t s)(x:Int):DAt (W.setCell ⟨g,6,none⟩ (.int .i64 x)) g a b c n q t x:=heap_setCell_same _ _ 6 _ _ _ h
theorem DAt.store{W:World}{g:Nat}{a b c:Value}{n q t s:Int}(h:DAt W g a b c n q t s)(x y:Value)(m:Int):DAt (((W.setCell ⟨g,1,none⟩ x).setCell ⟨g,2,none⟩ y).setCell ⟨g,3,none⟩ (.int .i64 m)) g a x y m q t s:=by
 have h1:(W.setCell ⟨g,1,none⟩ x).heap[g]?=some (.cells #[a,x,c,.int .i64 n,.int .i64 q,.int .i64 t,.int .i64 s] 57 (0,0)):=heap_setCell_same _ _ 1 _ _ _ h;generalize W.setCell ⟨g,1,none⟩ x=W1 at h1⊢;have h2:(W1.setCell ⟨g,2,none⟩ y).heap[g]?=some (.cells #[a,x,y,.int .i64 n,.int .i64 q,.int .i64 t,.int .i64 s] 57 (0,0)):=heap_setCell_same _ _ 2 _ _ _ h1;generalize W1.setCell ⟨g,2,none⟩ y=W2 at h2⊢;exact heap_setCell_same _ _ 3 _ _ _ h2
theorem DAt.far{W:World}{g h k:Nat}{a b c u:Value}{n q t s:Int}(e:DAt W g a b c n q t s)(hne:g≠h):DAt (W.setCell ⟨h,k,none⟩ u) g a b c n q t s:=(Below.heap_setCell _ _ _ _ hne).trans e
def put7(W:World)(g:Nat)(a b c:Value)(n q t s:Int):World:=((((((W.setCell ⟨g,0,none⟩ a).setCell ⟨g,1,none⟩ b).setCell ⟨g,2,none⟩ c).setCell ⟨g,3,none⟩ (.int .i64 n)).setCell ⟨g,4,none⟩ (.int .i64 q)).setCell ⟨g,5,none⟩ (.int .i64 t)).setCell ⟨g,6,none⟩ (.int .i64 s)
theorem put7_other(W:World)(g:Nat)(a b c:Value)(n q t s:Int){i:Nat}(h:i≠g):(put7 W g a b c n q t s).heap[i]?=W.heap[i]?:=by
 unfold put7;rw[Below.heap_setCell _ ⟨g,6,none⟩ _ _ h,Below.heap_setCell _ ⟨g,5,none⟩ _ _ h,Below.heap_setCell _ ⟨g,4,none⟩ _ _ h,Below.heap_setCell _ ⟨g,3,none⟩ _ _ h,Below.heap_setCell _ ⟨g,2,none⟩ _ _ h,Below.heap_setCell _ ⟨g,1,none⟩ _ _ h,Below.heap_setCell _ ⟨g,0,none⟩ _ _ h]
theorem put7_size(W:World)(g:Nat)(a b c:Value)(n q t s:Int):(put7 W g a b c n q t s).heap.size=W.heap.size:=by simp[put7,World.setCell]
theorem put7_below{B g:Nat}{w W:World}(a b c:Value)(n q t s:Int)(h:Below B w W)(hg:B≤g):Below B w (put7 W g a b c n q t s):=
 ((((((h.setCell (p:=⟨g,0,none⟩) hg _).setCell (p:=⟨g,1,none⟩) hg _).setCell (p:=⟨g,2,none⟩) hg _).setCell (p:=⟨g,3,none⟩) hg _).setCell (p:=⟨g,4,none⟩) hg _).setCell (p:=⟨g,5,none⟩) hg _).setCell (p:=⟨g,6,none⟩) hg _
theorem put7_at{W:World}{g:Nat}{a0 b0 c0:Value}{n0 q0 t0 s0:Int}(h:DAt W g a0 b0 c0 n0 q0 t0 s0)(a b c:Value)(n q t s:Int):DAt (put7 W g a b c n q t s) g a b c n q t s:=by
 unfold put7;have h0:(W.setCell ⟨g,0,none⟩ a).heap[g]?=some (.cells #[a,b0,c0,.int .i64 n0,.int .i64 q0,.int .i64 t0,.int .i64 s0] 57 (0,0)):=heap_setCell_same _ _ 0 _ _ _ h;generalize W.setCell ⟨g,0,none⟩ a=W0 at h0⊢;have h1:DAt (((W0.setCell ⟨g,1,none⟩ b).setCell ⟨g,2,none⟩ c).setCell ⟨g,3,none⟩ (.int .i64 n)) g a b c n q0 t0 s0:=DAt.store h0 b c n;exact((h1.seq q).tx t).base s
theorem infoDvS:(Tryz.prog.info? 57).map (·.size)=some 7:=by kernel_rfl
theorem results_dv1 {fn:Func} {p:Tmp} (h:fn.results= #[.cell p 57]) (tmps:Array Value) (w:World) (g:Nat) (a b c:Value) (n x t s:Int)
 (hp:tmps.getD p undef=.pointer (some ⟨g,0,none⟩)) (hc:DAt w g a b c n x t s):
 (results fn tmps).run Tryz.prog w=.ok (.agg #[a,b,c,.int .i64 n,.int .i64 x,.int .i64 t,.int .i64 s]) w:=by
 have hp':tmps[p]?.getD undef=.pointer (some ⟨g,0,none⟩):=by simpa using hp
 have hl:=run_loadVar_row (P:=Tryz.prog) w g 57 57 _ _ _ hc Tryz.underlying57 rfl infoDvS;simp[results,h,hp',asAddr,hl]
def Dv.Fit(d:Dv):Prop:=Sml d.flash∧d.store.Fit
theorem schunk(va:Option Addr)(vl vc:Nat)(ad:Option Addr)(len cap:Nat)(nx:Int)(vs:List (Int×Int))(rs:List Kw)(vol sec:Int)(w:World)(hvl:vl≤1048578)(hl:len≤1048578)(h:VlRow w va vl vs)(hk:KnRd w ad len rs):
 Calls Tryz.prog 44 #[.agg (SBox va vl vc ad len cap nx),.int .i64 vol,.int .i64 sec] w fun e w'=>e=.returned (.int .i64 (chunkS ⟨vs,rs.map ktell,nx⟩ vol sec))∧Below w.heap.size w w':=by
 have T0:=hide ((Tk.start w).cell #[.slice va vl vc,.slice ad len cap,.int .i64 nx] 55);have HVL:=hide h.1;have HV:=hide h;have HK:=hide hk;clear h hk;obtain⟨C,hC⟩:∃C,chunkS ⟨vs,rs.map ktell,nx⟩ vol sec=C:=⟨_,rfl⟩;have HC:=hide hC;rw[hC];clear hC;unfold SBox;go_enter Tryz.func44,Tryz.ntmps44;go_wp2_with fail;refine(satV va vl vc ad len cap nx vs vol _ hvl (HV.out.below T0.out.1)).mono ?_;rintro e w1 ⟨rfl,b1⟩;have T1:=hide (T0.out.below b1);clear b1 T0;have x0:w1.cell? ⟨w.heap.size,0,none⟩=some (.slice va vl vc):=T1.out.at 0 0 rfl rfl;have x1:w1.cell? ⟨w.heap.size,1,none⟩=some (.slice ad len cap):=T1.out.at 0 1 rfl rfl;cases ha:atV vs vol with
 |none=>
  have E:Hid (C=0):=by
   show _=_;rw[←HC.out];simp only[chunkS,rootV,ha,Option.bind_none]
  have e1:atI none= -1:=rfl;rw[e1];clear ha;go_wp2;go_ret;exact⟨by rw[E.out];rfl,T1.out.1⟩
 |some k=>
  obtain⟨v,hv,hid⟩:=atV_some ha;have hkl:=(List.getElem?_eq_some_iff.1 hv).1;have hkv:(k:Int)<vl:=by have:=HVL.out;omega
  have k0:(0:Int)≤k:=by omega
  have k1:¬((k:Int)<0):=by omega
  have E:Hid (getT (rs.map ktell) v.2 sec=C):=by
   show _=_;rw[←HC.out];simp only[chunkS,rootV,ha,Option.bind_some,hv,Option.map_some]
  obtain⟨b,off,e,hb,c0,c1⟩:=(HV.out.below T1.out.1).at hv;subst e;have e1:atI (some k)=(k:Int):=rfl;rw[e1];have CG:=hide (sgetAt ad len cap rs v.2 sec w1.drew hl (HK.out.below T1.out.1.drew));have CF:=hide (sgetAt ad len cap rs v.2 sec w1 hl (HK.out.below T1.out.1));rw[E.out]at CG CF;have T1d:=hide T1.out.1.drew;have l0:=World.block_lt_of_cell? w1 _ x0;have l1:=World.block_lt_of_cell? w1 _ x1;have l2:=World.block_lt_of_cell? w1 _ c1;clear ha hv hid hkl E
  first
   |(go_wp2_with fail
     refine CF.out.mono ?_;rintro e w2 ⟨rfl,b2⟩;have B2:=hide (T1.out.1.trans (b2.mono T1.out.1.size)))
   |(go_wp2
     go_region_held3 (fun w'=>w'.cell? ⟨w.heap.size,0,none⟩=some (.slice (some ⟨b,off,none⟩) vl vc)∧w'.cell? ⟨w.heap.size,1,none⟩=some (.slice ad len cap)∧w'.cell? ⟨b,off+k*2+1,none⟩=some (.int .i64 v.2)) (first|exact⟨x0,x1,c1⟩|exact KY.out) ((go_at_call 67;(with_reducible refine Calls.mono CG.out ?_);rintro en w2 ⟨rfl,b2⟩;have KY:Hid (w2.cell? ⟨w.heap.size,0,none⟩=some (.slice (some ⟨b,off,none⟩) vl vc)∧w2.cell? ⟨w.heap.size,1,none⟩=some (.slice ad len cap)∧w2.cell? ⟨b,off+k*2+1,none⟩=some (.int .i64 v.2)):=⟨(b2.cell l0).trans x0,(b2.cell l1).trans x1,(b2.cell l2).trans c1⟩))
     have B2:=hide (T1d.out.trans (b2.mono T1d.out.size)))
  all_goals
   clear CG CF;go_wp2;go_ret;exact⟨rfl,B2.out⟩
def fdVal(x:Fnd):Value:=.agg #[.int .i64 x.block,.int .i64 x.leaf,.int .i64 x.page.kind,.int .i64 x.page.seq,.int .i64 x.page.tx,.int .i64 x.page.part,.int .i64 x.page.count,.string x.page.text]
def fdCells(x:Fnd):List Value:=[.int .i64 x.block,.int .i64 x.leaf,.int .i64 x.page.kind,.int .i64 x.page.seq,.int .i64 x.page.tx,.int .i64 x.page.part,.int .i64 x.page.count,.string x.page.text]
theorem infoFound:(Tryz.prog.info? 106).map (fun i=>(i.zero,i.size,i.bytes))=some (some (.agg #[.int .i64 0,.int .i64 0,.int .i64 0,.int .i64 0,.int .i64 0,.int .i64 0,.int .i64 0,.string ⟨#[]⟩]),8,72):=by kernel_rfl
def fcells(l:List Fnd):List Value:=l.flatMap fdCells
theorem fcells_snoc(l:List Fnd)(x:Fnd):fcells l++fdCells x=fcells (l++[x]):=by simp[fcells]
theorem fd_one(x:Fnd):∀u∈fdCells x,u.oneCell'=true:=by
 intro u hu;simp[fdCells]at hu;rcases hu with h|h|h|h|h|h|h|h<;>subst h<;>rfl
theorem fcells_at:∀(l:List Fnd) (i:Nat) (x:Fnd),l[i]?=some x→∀j v,(fdCells x)[j]?=some v→(fcells l)[i*8+j]?=some v:=by
 intro l
 induction l with
 |nil=>intro i x h;simp at h
 |cons y l ih=>
  intro i x h j v hv;have hj:j<8:=(List.getElem?_eq_some_iff.1 hv).1;have e:fcells (y::l)=fdCells y++fcells l:=by simp[fcells]
  rw[e];cases i with
  |zero=>
   simp at h;subst h;rw[List.getElem?_append_left (by show 0*8+j<8;omega)]
   simpa using hv
  |succ i=>
   rw[List.getElem?_cons_succ]at h;rw[List.getElem?_append_right (by show 8≤(i+1)*8+j;omega)]
   have:(i+1)*8+j-(fdCells y).length=i*8+j:=by show(i+1)*8+j-8=_;omega
   rw[this];exact ih i x h j v hv
def FdRd(w:World)(a:Option Addr)(len:Nat)(ls:List Fnd):Prop:=
 ls.length=len∧len≤maxLen∧(0<len→∃b off,a=some ⟨b,off,none⟩∧b<w.heap.size∧∀i t,ls[i]?=some t→∀j v,(fdCells t)[j]?=some v→w.cell? ⟨b,off+(i*8+j),none⟩=some v)
theorem FdRd.below{w w':World}{a:Option Addr}{len:Nat}{ls:List Fnd}(h:FdRd w a len ls)(hb:Below w.heap.size w w'):FdRd w' a len ls:=by
 obtain⟨h1,h2,h4⟩:=h;refine⟨h1,h2,fun h0=>?_⟩
 obtain⟨b,off,e,hl,hc⟩:=h4 h0;have hs:=hb.size;exact⟨b,off,e,by omega,fun i t ht j v hv=>(hb.cell (show b<w.heap.size from hl)).trans (hc i t ht j v hv)⟩
theorem FdRd.at{w:World}{a:Option Addr}{len:Nat}{ls:List Fnd}(h:FdRd w a len ls){k:Nat}{t:Fnd}(hk:ls[k]?=some t):
 ∃b off,a=some ⟨b,off,none⟩∧b<w.heap.size∧w.cell? ⟨b,off+k*8,none⟩=some (.int .i64 t.block)∧w.cell? ⟨b,off+k*8+1,none⟩=some (.int .i64 t.leaf)∧
  w.cell? ⟨b,off+k*8+2,none⟩=some (.int .i64 t.page.kind)∧w.cell? ⟨b,off+k*8+2+1,none⟩=some (.int .i64 t.page.seq)∧w.cell? ⟨b,off+k*8+2+2,none⟩=some (.int .i64 t.page.tx)∧
  w.cell? ⟨b,off+k*8+2+3,none⟩=some (.int .i64 t.page.part)∧w.cell? ⟨b,off+k*8+2+4,none⟩=some (.int .i64 t.page.count)∧w.cell? ⟨b,off+k*8+2+5,none⟩=some (.string t.page.text):=by
 obtain⟨h1,-,h4⟩:=h;have hl:=(List.getElem?_eq_some_iff.1 hk).1;obtain⟨b,off,e,hb,hc⟩:=h4 (by omega)
 have hc:=hc k t hk;refine⟨b,off,e,hb,hc 0 _ rfl,?_,?_,?_,?_,?_,?_,?_⟩
 ·have:=hc 1 _ rfl;rwa [←Nat.add_assoc]at this
 ·have:=hc 2 _ rfl;rwa [←Nat.add_assoc]at this
 ·have:=hc 3 _ rfl;rwa [←Nat.add_assoc]at this
 ·have:=hc 4 _ rfl;rwa [←Nat.add_assoc]at this
 ·have:=hc 5 _ rfl;rwa [←Nat.add_assoc]at this
 ·have:=hc 6 _ rfl;rwa [←Nat.add_assoc]at this
 ·have:=hc 7 _ rfl;rwa [←Nat.add_assoc]at this
end Go.Proofs.YtiicghepilbgfaaGreatDoor
namespace Go.Proofs.YtiicghepilbgfaaGreatDoor
theorem read_out{bs:List Bk}{b leaf:Int}(h:¬(0≤b∧b≤(bs.length:Int)-1)):readF bs b leaf=(⟨#[]⟩,false):=by
 unfold readF;cases hb:bs[b.toNat]? with
 |none=>rfl
 |some r=>
  have:=(List.getElem?_eq_some_iff.1 hb).1;simp only;cases hl:r.2.2[leaf.toNat]? with
  |none=>rfl
  |some t=>exact if_neg (fun hh=>h ⟨hh.1,by omega⟩)
theorem read_leaf_out{bs:List Bk}{k:Nat}{r:Bk}{leaf:Int}(hr:bs[k]?=some r)(h:¬(0≤leaf∧leaf≤(r.2.2.length:Int)-1)):readF bs (k:Int) leaf=(⟨#[]⟩,false):=by
 unfold readF;rw[Int.toNat_natCast,hr];simp only;cases hl:r.2.2[leaf.toNat]? with
 |none=>rfl
 |some t=>
  have:=(List.getElem?_eq_some_iff.1 hl).1;exact if_neg (fun hh=>h ⟨hh.2.1,by omega⟩)
theorem read_in{bs:List Bk}{k j:Nat}{r:Bk}{t:Int×ByteArray}(hr:bs[k]?=some r)(ht:r.2.2[j]?=some t):(t.1=1→readF bs (k:Int) (j:Int)=(t.2,true))∧(t.1≠1→readF bs (k:Int) (j:Int)=(⟨#[]⟩,false)):=by
 unfold readF;rw[Int.toNat_natCast,hr];simp only;rw[Int.toNat_natCast,ht];exact⟨fun h=>if_pos ⟨by omega,by omega,h⟩,fun h=>if_neg (fun hh=>h hh.2.2)⟩
end Go.Proofs.YtiicghepilbgfaaGreatDoor
