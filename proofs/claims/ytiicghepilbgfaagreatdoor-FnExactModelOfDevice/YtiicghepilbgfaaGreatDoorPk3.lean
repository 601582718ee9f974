/-
  IKids; PartL; EqArr; ILink
-/
import Derived.Test.YtiicghepilbgfaaGreatDoorPk2
import Derived.Deep.MidRow
import Derived.Test.YtiicghepilbgfaaGreatDoorPk0
import Derived.Laws.StructEq
import Derived.LaidEqlPtr
import Derived.Deep.RegionHeld3
set_option maxHeartbeats 1000000
set_option maxRecDepth 100000
namespace Go.Proofs.YtiicghepilbgfaaGreatDoor
open Go.RowKit
open Words
theorem infoK4:(Tryz.prog.info? 207).map (·.size)=some 4:=by kernel_rfl
theorem infoPt:(Tryz.prog.info? 178).map (fun i=>(i.zero,i.size,i.bytes))=some (some (.pointer none),1,8):=by kernel_rfl
theorem range_row{w:World}{g:Nat}{l:List Value}{t:TypeId}(h:w.heap[g]?=some (.cells l.toArray t (0,0))):w.rangeAt g 0 l:=by
 intro j v hv;rw[Nat.zero_add,cell_of_row _ _ j _ _ _ h]
 simpa using hv
theorem results_arr {fn:Func} {p:Tmp} {ty t:TypeId} (h:fn.results= #[.cell p ty]) (tmps:Array Value) (w:World) (g:Nat) (l:List Value) (d:TypeDesc)
 (hp:tmps.getD p undef=.pointer (some ⟨g,0,none⟩)) (hc:w.heap[g]?=some (.cells l.toArray t (0,0))) (hu:Tryz.prog.underlying ty=some d) (hd:d.isRow=true) (hi:(Tryz.prog.info? ty).map (·.size)=some l.length):
 (results fn tmps).run Tryz.prog w=.ok (.agg l.toArray) w:=by
 have hp':tmps[p]?.getD undef=.pointer (some ⟨g,0,none⟩):=by simpa using hp
 have hl:=run_loadVar_mid (P:=Tryz.prog) w g 0 ty l d (range_row hc) hu hd hi;simp[results,h,hp',asAddr,hl]
theorem four_set{w:World}{g:Nat}{a0 a1 a2 a3:Value}{t:TypeId}(h:w.heap[g]?=some (.cells #[a0,a1,a2,a3] t (0,0)))(b0 b1 b2 b3:Value):
 ((((w.setCell ⟨g,0,none⟩ b0).setCell ⟨g,1,none⟩ b1).setCell ⟨g,2,none⟩ b2).setCell ⟨g,3,none⟩ b3).heap[g]?=some (.cells #[b0,b1,b2,b3] t (0,0)):=
 row_set (row_set (row_set (row_set h 0 b0) 1 b1) 2 b2) 3 b3
theorem four_below{B g:Nat}{a w:World}(h:Below B a w)(hg:B≤g)(b0 b1 b2 b3:Value):Below B a ((((w.setCell ⟨g,0,none⟩ b0).setCell ⟨g,1,none⟩ b1).setCell ⟨g,2,none⟩ b2).setCell ⟨g,3,none⟩ b3):=
 (((h.setCell (p:=⟨g,0,none⟩) hg b0).setCell (p:=⟨g,1,none⟩) hg b1).setCell (p:=⟨g,2,none⟩) hg b2).setCell (p:=⟨g,3,none⟩) hg b3
theorem list4{α:Type}{l:List α}(h:l.length=4):∃a b c d,l=[a,b,c,d]:=by
 match l,h with
 | [a,b,c,d],_=>exact⟨a,b,c,d,rfl⟩
def KidsR(W:World)(x:Lk)(ks:List Int):Prop:=if x.leaf=true then ks=x.nums else ks.length=4∧∀(k:Nat) (o:Option Nat),x.tos[k]?=some o→∃p,ks[k]?=some p∧(o=none∧p= -1∨∃c,o=some c∧W.cell? ⟨c,0,none⟩=some (.int .i64 p)∧c<W.heap.size)
theorem idxP(l:List (Option Nat))(k:Nat)(o:Option Nat)(hl:l.length=4)(hx:l[k]?=some o)(W:World):(Instr.index 208 (.agg (pcells l).toArray) (.int .i64 (k:Int))).run Tryz.prog W=.ok (pval o) W:=by
 have hk:k<4:=by rw[←hl];exact(List.getElem?_eq_some_iff.1 hx).1
 have hc:(pcells l)[k]?=some (pval o):=by rw[pcells,List.getElem?_map,hx];rfl
 obtain⟨i0,hi,hz0,hz1,hz2⟩:=info_parts infoPt;simp[Instr.index,run_underlying Tryz.underlying208,asIntOf,part,sizeOf,typeInfo,hi,hz1,isAgg,run_underlying Tryz.underlying178,hk,hc]
theorem ikids_leaf(b:Nat)(x:Lk)(w:World)(h:LkAt w b x)(hl:x.leaf=true):
 Calls Tryz.prog 162 #[ptr b] w fun e w'=>e=.returned (.agg (icells x.nums).toArray)∧Below w.heap.size w w':=by
 obtain⟨n0,n1,n2,n3,hn⟩:=list4 h.2.1;have hx:=h.blw ((Below.refl w.heap.size w).alloc (Nat.le_refl _) (.cells #[.int .i64 0,.int .i64 0,.int .i64 0,.int .i64 0] 207));have c1:=hx.leaf;rw[hl]at c1;have d0:=hx.num (k:=0) (n:=n0) (by rw[hn];rfl)
 have d1:=hx.num (k:=1) (n:=n1) (by rw[hn];rfl)
 have d2:=hx.num (k:=2) (n:=n2) (by rw[hn];rfl)
 have d3:=hx.num (k:=3) (n:=n3) (by rw[hn];rfl)
 have HN:=hide hn;have R0:=hide (heap_alloc_new w (.cells #[.int .i64 0,.int .i64 0,.int .i64 0,.int .i64 0] 207));have B0:Hid (Below w.heap.size w (w.alloc (.cells #[.int .i64 0,.int .i64 0,.int .i64 0,.int .i64 0] 207))):=(Below.refl w.heap.size w).alloc (Nat.le_refl _) _;simp only[Nat.reduceAdd]at d0 d1 d2 d3;clear h hx hn hl;unfold ptr;go_enter Tryz.func162,Tryz.ntmps162;go_wp2;rw[HN.out];exact bodyPost_ret (results_arr rfl _ _ _ (icells [n0,n1,n2,n3]) _ rfl (heap_alloc_new w _) Tryz.underlying207 rfl infoK4) rfl ⟨rfl,(Below.refl w.heap.size w).alloc (Nat.le_refl _) _⟩
def KSt(w W:World)(z:Nat)(xs:List Int):Prop:=W.heap[z]?=some (.cells #[.int .i64 0,.int .i64 0,.int .i64 0,.int .i64 0] 207 (0,0))∧W.heap[z+1]?=some (.cells (icells xs).toArray 207 (0,0))∧Below z w W
theorem KSt.set{w W:World}{z k:Nat}{xs:List Int}(h:KSt w W z xs)(n:Int):KSt w (W.setCell ⟨z+1,k,none⟩ (.int .i64 n)) z (xs.set k n):=by
 refine⟨row_set_ne h.1 (by omega) _ _,?_,h.2.2.setCell (p:=⟨z+1,k,none⟩) (by show z≤z+1;omega) _⟩
 rw[row_set h.2.1];simp[icells,List.map_set]
theorem KSt.cell{w W:World}{z k:Nat}{xs:List Int}{n:Int}(h:KSt w W z xs)(hk:xs[k]?=some n):W.cell? ⟨z+1,k,none⟩=some (.int .i64 n):=by
 rw[cell_of_row _ _ k _ _ _ h.2.1]
 simpa using icells_get hk
theorem KSt.fr{w W:World}{z:Nat}{xs:List Int}(h:KSt w W z xs)(k:Nat):W.frozen? ⟨z+1,k,none⟩=false:=frozen_of_row _ _ k _ _ h.2.1
theorem ikids(b:Nat)(x:Lk)(ks:List Int)(w:World)(h:LkAt w b x)(hk:KidsR w x ks):
 Calls Tryz.prog 162 #[ptr b] w fun e w'=>e=.returned (.agg (icells ks).toArray)∧Below w.heap.size w w':=by
 cases hl:x.leaf with
 |true=>
  rw[KidsR,if_pos hl]at hk;rw[hk];exact ikids_leaf b x w h hl
 |false=>
  rw[KidsR,if_neg (by rw[hl];decide)]at hk
  obtain⟨hk4,hkk⟩:=hk;obtain⟨t0,t1,t2,t3,ht⟩:=list4 h.2.2;have hb1:Below w.heap.size w ((w.alloc (.cells #[.int .i64 0,.int .i64 0,.int .i64 0,.int .i64 0] 207)).alloc (.cells #[.int .i64 0,.int .i64 0,.int .i64 0,.int .i64 0] 207)):=((Below.refl w.heap.size w).alloc (Nat.le_refl _) _).alloc (by simp) _
  have hx1:=h.blw ((Below.refl w.heap.size w).alloc (Nat.le_refl _) (.cells #[.int .i64 0,.int .i64 0,.int .i64 0,.int .i64 0] 207));have c1:=hx1.leaf;rw[hl]at c1;have hx:=h.blw hb1;have d0:=hx.to (k:=0) (o:=t0) (by rw[ht];rfl)
  have d1:=hx.to (k:=1) (o:=t1) (by rw[ht];rfl)
  have d2:=hx.to (k:=2) (o:=t2) (by rw[ht];rfl)
  have d3:=hx.to (k:=3) (o:=t3) (by rw[ht];rfl)
  have S0:Hid (KSt w ((w.alloc (.cells #[.int .i64 0,.int .i64 0,.int .i64 0,.int .i64 0] 207)).alloc (.cells #[.int .i64 0,.int .i64 0,.int .i64 0,.int .i64 0] 207)) w.heap.size [0,0,0,0]):=by
   refine⟨(Below.heap_alloc _ _ _ (by simp)).trans (heap_alloc_new w _),?_,hb1⟩
   have:=heap_alloc_new (w.alloc (.cells #[.int .i64 0,.int .i64 0,.int .i64 0,.int .i64 0] 207)) (.cells #[.int .i64 0,.int .i64 0,.int .i64 0,.int .i64 0] 207);rw[show(w.alloc (.cells #[.int .i64 0,.int .i64 0,.int .i64 0,.int .i64 0] 207)).heap.size=w.heap.size+1 by simp]at this
   exact this
  have e0:∀o:Option Nat,∃a,pval o=.pointer a:=fun o=>by cases o<;>exact⟨_,rfl⟩
  have HT:=hide ht;have H4:Hid (x.tos.length=4):=h.2.2;have HK:=hide hkk;have HK4:=hide hk4;have AG:Hid (Value.agg (pcells x.tos).toArray=.agg #[pval t0,pval t1,pval t2,pval t3]):=by show _=_;rw[ht];rfl
  obtain⟨a0,ha0⟩:=e0 t0;obtain⟨a1,ha1⟩:=e0 t1;obtain⟨a2,ha2⟩:=e0 t2;obtain⟨a3,ha3⟩:=e0 t3;rw[ha0]at d0 AG;rw[ha1]at d1 AG;rw[ha2]at d2 AG;rw[ha3]at d3 AG;simp only[Nat.reduceAdd]at d0 d1 d2 d3;clear h hx hx1 ht hl hb1 e0 hkk hk4 ha0 ha1 ha2 ha3;unfold ptr;go_enter Tryz.func162,Tryz.ntmps162;go_wp2;rw[←AG.out];obtain⟨z,hz⟩:∃z,w.heap.size=z:=⟨_,rfl⟩;have HZ:=hide hz;rw[hz]at S0⊢;clear d0 d1 d2 d3 c1 hz AG;generalize(w.alloc (.cells #[.int .i64 0,.int .i64 0,.int .i64 0,.int .i64 0] 207)).alloc (.cells #[.int .i64 0,.int .i64 0,.int .i64 0,.int .i64 0] 207)=wa at S0⊢;go_loopw [18] (fun iv W=>∃k:Nat,k≤4∧iv=.int .i64 k∧Hid (KSt w W z (ks.take k++[0,0,0,0].drop k))) (fun iv _=>4-(intOf iv).toNat)
  case atStart=>exact⟨0,by omega,rfl,S0⟩
  case round=>
   obtain⟨k,hk,rfl,HS⟩:=hrel;clear S0;by_cases hlt:(k:Int)<4
   ·obtain⟨o,ho⟩:∃o,x.tos[k]?=some o:=⟨_,List.getElem?_eq_getElem (by have:=H4.out;omega)⟩
    have hix:=idxP x.tos k o H4.out ho;obtain⟨p,hp,hc⟩:=HK.out k o ho;have k0:(0:Int)≤k:=by omega
    have oc:wr.cell? ⟨z+1,k,none⟩=some (.int .i64 0):=HS.out.cell (by
     rw[List.getElem?_append_right (by simp;omega),List.length_take,Nat.min_eq_left (by have:=HK4.out;omega),Nat.sub_self,List.getElem?_drop]
     have:k=0∨k=1∨k=2∨k=3:=by omega
     rcases this with rfl|rfl|rfl|rfl<;>rfl)
    have of:=HS.out.fr k;have ST:∀m:Int,Hid (KSt w (wr.setCell ⟨z+1,k,none⟩ (.int .i64 m)) z ((ks.take k++[0,0,0,0].drop k).set k m)):=fun m=>HS.out.set m
    have EN:Hid ((ks.take k++[0,0,0,0].drop k).set k p=ks.take (k+1)++[0,0,0,0].drop (k+1)):=by
     show _=_;have hkl:=(List.getElem?_eq_some_iff.1 hp).1;rw[List.set_append_right _ _ (by simp;omega),List.length_take,Nat.min_eq_left (by omega),Nat.sub_self,List.take_succ_eq_append_getElem hkl,(List.getElem?_eq_some_iff.1 hp).2,List.append_assoc]
     have:k=0∨k=1∨k=2∨k=3:=by omega
     rcases this with rfl|rfl|rfl|rfl<;>rfl
    rcases hc with⟨rfl,rfl⟩|⟨c,rfl,hc,hcl⟩
    ·have S1:=ST (-1);rw[EN.out]at S1;have hix2:∀W:World,(Instr.index 208 (.agg (pcells x.tos).toArray) (.int .i64 (k:Int))).run Tryz.prog W=.ok (.pointer none) W:=hix;clear ST HS EN hix ho hp HK;go_wp2;go_roundw
     case rel=>exact⟨k+1,by omega,by go_num,S1⟩
     case measure=>simp[intOf];omega
    ·have S1:Hid (KSt w ((wr.setCell ⟨z+1,k,none⟩ (.int .i64 (-1))).setCell ⟨z+1,k,none⟩ (.int .i64 p)) z ((ks.take k++[0,0,0,0].drop k).set k p)):=by
      have:=(HS.out.set (k:=k) (-1)).set (k:=k) p;rw[List.set_set]at this;exact this
     have hwr:w.heap.size=z:=HZ.out;have cc:(wr.setCell ⟨z+1,k,none⟩ (.int .i64 (-1))).cell? ⟨c,0,none⟩=some (.int .i64 p):=by
      rw[World.cell?_setCell_other _ _ _ _ (fun e=>by injection e;omega),HS.out.2.2.cell (show c<z by omega)]
      exact hc
     have hix2:∀W:World,(Instr.index 208 (.agg (pcells x.tos).toArray) (.int .i64 (k:Int))).run Tryz.prog W=.ok (.pointer (some ⟨c,0,none⟩)) W:=hix;rw[EN.out]at S1;clear ST HS EN hix ho hp HK hwr;go_wp2;go_roundw
     case rel=>exact⟨k+1,by omega,by go_num,S1⟩
     case measure=>simp[intOf];omega
   ·have e4:k=4:=by omega
    subst e4;have S1:Hid (KSt w wr z ks):=by
     have:=HS.out;rw[List.take_of_length_le (by have:=HK4.out;omega)]at this
     show KSt w wr z ks
     simpa using this
    obtain⟨k0,k1,k2,k3,hks⟩:=list4 HK4.out;have HKS:=hide hks;rw[hks]at S1;have q0:=S1.out.cell (k:=0) rfl;have q1:=S1.out.cell (k:=1) rfl;have q2:=S1.out.cell (k:=2) rfl;have q3:=S1.out.cell (k:=3) rfl;have p0:=cell_of_row _ _ 0 _ _ _ S1.out.1;have p1:=cell_of_row _ _ 1 _ _ _ S1.out.1;have p2:=cell_of_row _ _ 2 _ _ _ S1.out.1;have p3:=cell_of_row _ _ 3 _ _ _ S1.out.1;have f0:=fun o=>frozen_of_row _ _ o _ _ S1.out.1
    clear HS HK hks HK4;go_wp2;exact bodyPost_ret (results_arr rfl _ _ _ (icells [k0,k1,k2,k3]) _ rfl (four_set S1.out.1 _ _ _ _) Tryz.underlying207 rfl infoK4) rfl ⟨congrArg (fun l=>Ending.returned (.agg (icells l).toArray)) HKS.out.symm,by rw[HZ.out];exact four_below S1.out.2.2 (Nat.le_refl _) _ _ _ _⟩
end Go.Proofs.YtiicghepilbgfaaGreatDoor
namespace Go.Proofs.YtiicghepilbgfaaGreatDoor
open Go.RowKit
theorem part_set{α:Type}{l r:List α}{k:Nat}{v:α}(hl:l[k]?=some v)(hr:r.length=l.length):(l.take k++r.drop k).set k v=l.take (k+1)++r.drop (k+1):=by
 obtain⟨hk,e⟩:=List.getElem?_eq_some_iff.1 hl;rw[List.set_append_right _ _ (by rw[List.length_take];omega),List.length_take,Nat.min_eq_left (by omega),Nat.sub_self,List.drop_eq_getElem_cons (by omega),List.set_cons_zero,List.take_succ_eq_append_getElem hk,e,List.append_assoc]
 rfl
theorem part_at{α:Type}{l r:List α}{k:Nat}(hk:k<l.length):(l.take k++r.drop k)[k]?=r[k]?:=by
 rw[List.getElem?_append_right (by rw[List.length_take];omega),List.length_take,Nat.min_eq_left (by omega),Nat.sub_self,List.getElem?_drop]
 simp
end Go.Proofs.YtiicghepilbgfaaGreatDoor
namespace Go.Proofs.YtiicghepilbgfaaGreatDoor
open Go.RowKit
open Words
theorem eq_int(d:Nat)(a b:Int)(W:World):(Op.equalIn (d+1) 3 (.int .i64 a) (.int .i64 b)).run Tryz.prog W=.ok (a==b) W:=run_equalIn_int W d 3 .i64 .i64 a b Tryz.underlying3
theorem eq4(a0 a1 a2 a3 b0 b1 b2 b3:Int)(W:World):(binOp .eql 207 (.agg (icells [a0,a1,a2,a3]).toArray) (.agg (icells [b0,b1,b2,b3]).toArray)).run Tryz.prog W=.ok (.bool ([a0,a1,a2,a3]==[b0,b1,b2,b3])) W:=by
 rw[run_eql_struct];have e:(Op.equalIn 10000 207 (.agg (icells [a0,a1,a2,a3]).toArray) (.agg (icells [b0,b1,b2,b3]).toArray)).run Tryz.prog W=.ok ([a0,a1,a2,a3]==[b0,b1,b2,b3]) W:=by
  show(Op.equalIn (9999+1) _ _ _).run _ _=_;obtain⟨i0,hi,hz0,hz1,hz2⟩:=info_parts infoInt;rw[Op.equalIn];simp only[Sem.run_bind,run_underlying Tryz.underlying207,Result.andThen_ok,sizeOf,typeInfo];have eqi:∀(a b:Int) (W:World),(Op.equalIn 9999 3 (.int .i64 a) (.int .i64 b)).run Tryz.prog W=.ok (a==b) W:=fun a b W=>eq_int 9998 a b W
  simp[icells,hi,hz1,List.range',part,isAgg,sizeOf,typeInfo,run_underlying Tryz.underlying3,eqi];cases h0:a0==b0<;>simp at h0<;>simp[h0]
  cases h1:a1==b1<;>simp at h1<;>simp[h1]
  cases h2:a2==b2<;>simp at h2<;>simp[h2]
  cases h3:a3==b3<;>simp at h3<;>simp[h3]
 rw[e];rfl
def nn(k:Int):Int:=if k<0 then 0 else k
def lkMade(bs:List Nat)(xs:List Lk)(n:Nat)(lf:Bool)(ks:List Int):Lk:=if lf=true then⟨n,true,ks.map nn,[none,none,none,none],false⟩else⟨n,false,[0,0,0,0],ks.map (leafP bs xs),false⟩
def kidsMade(bs:List Nat)(xs:List Lk)(lf:Bool)(ks:List Int):List Int:=if lf=true then ks.map nn else ks.map (fun k=>if (leafP bs xs k).isSome=true then k else-1)
def linkOk(bs:List Nat)(xs:List Lk)(lf:Bool)(ks:List Int):Bool:=decide (ks.length=4)&&(kidsMade bs xs lf ks==ks)
theorem leafP_some{bs:List Nat}{xs:List Lk}{k:Int}{b:Nat}(h:leafP bs xs k=some b):0≤k∧bs[k.toNat]?=some b∧∃x,xs[k.toNat]?=some x∧x.leaf=true:=by
 unfold leafP at h;split at h
 ·cases h
 ·cases hx:xs[k.toNat]? with
  |none=>rw[hx]at h;cases h
  |some x=>
   rw[hx,Option.bind_some]at h;split at h
   ·rename_i hl
    exact⟨by omega,h,x,rfl,hl⟩
   ·cases h
def LinkOut(w:World)(ok:Bool)(x:Lk)(e:Ending)(w':World):Prop:=∃v,e=.returned (.tuple #[v,.bool ok])∧Below w.heap.size w w'∧(ok=true→∃b,v=ptr b∧LkAt w' b x∧w.heap.size≤b)
def LSt(w W:World)(z:Nat)(lf:Bool)(kv:Value)(gs:List Int)(x:Lk):Prop:=W.heap[z]?=some (.cells #[.bool lf,kv] 176 (0,0))∧W.heap[z+1]?=some (.cells (icells gs).toArray 207 (0,0))∧LkAt W (z+1+1) x∧Below z w W
theorem LSt.drew{w W:World}{z:Nat}{lf:Bool}{kv:Value}{gs:List Int}{x:Lk}(h:LSt w W z lf kv gs x):LSt w W.drew z lf kv gs x:=⟨h.1,h.2.1,h.2.2.1,h.2.2.2.drew⟩
theorem LSt.given{w W:World}{z k:Nat}{lf:Bool}{kv:Value}{gs:List Int}{x:Lk}(h:LSt w W z lf kv gs x)(n:Int):LSt w (W.setCell ⟨z+1,k,none⟩ (.int .i64 n)) z lf kv (gs.set k n) x:=by
 refine⟨row_set_ne h.1 (by omega) _ _,?_,h.2.2.1.other (by omega) _,h.2.2.2.setCell (p:=⟨z+1,k,none⟩) (by show z≤z+1;omega) _⟩
 rw[row_set h.2.1];simp[icells,List.map_set]
theorem LSt.num{w W:World}{z k:Nat}{lf:Bool}{kv:Value}{gs:List Int}{x:Lk}(h:LSt w W z lf kv gs x)(hk:k<4)(n:Int):LSt w (W.setCell ⟨z+1+1,2+k,none⟩ (.int .i64 n)) z lf kv gs {x with nums:=x.nums.set k n}:=
 ⟨row_set_ne h.1 (by omega) _ _,row_set_ne h.2.1 (by omega) _ _,h.2.2.1.setNum hk n,h.2.2.2.setCell (p:=⟨z+1+1,2+k,none⟩) (by show z≤z+1+1;omega) _⟩
theorem LSt.to{w W:World}{z k:Nat}{lf:Bool}{kv:Value}{gs:List Int}{x:Lk}(h:LSt w W z lf kv gs x)(hk:k<4)(o:Option Nat):LSt w (W.setCell ⟨z+1+1,6+k,none⟩ (pval o)) z lf kv gs {x with tos:=x.tos.set k o}:=
 ⟨row_set_ne h.1 (by omega) _ _,row_set_ne h.2.1 (by omega) _ _,h.2.2.1.setTo hk o,h.2.2.2.setCell (p:=⟨z+1+1,6+k,none⟩) (by show z≤z+1+1;omega) _⟩
theorem LSt.cell{w W:World}{z k:Nat}{lf:Bool}{kv:Value}{gs:List Int}{x:Lk}(h:LSt w W z lf kv gs x){n:Int}(hk:gs[k]?=some n):W.cell? ⟨z+1,k,none⟩=some (.int .i64 n):=by
 rw[cell_of_row _ _ k _ _ _ h.2.1]
 simpa using icells_get hk
theorem LSt.fr{w W:World}{z:Nat}{lf:Bool}{kv:Value}{gs:List Int}{x:Lk}(h:LSt w W z lf kv gs x)(k:Nat):W.frozen? ⟨z+1,k,none⟩=false:=frozen_of_row _ _ k _ _ h.2.1
def lkPart(bs:List Nat)(xs:List Lk)(n:Nat)(lf:Bool)(ks:List Int)(k:Nat):Lk:=if lf=true then⟨n,true,(ks.map nn).take k++[0,0,0,0].drop k,[none,none,none,none],false⟩else⟨n,false,[0,0,0,0],(ks.map (leafP bs xs)).take k++[none,none,none,none].drop k,false⟩
theorem lkPart_all{bs:List Nat}{xs:List Lk}{n:Nat}{lf:Bool}{ks:List Int}(h:ks.length=4):lkPart bs xs n lf ks 4=lkMade bs xs n lf ks:=by
 have e1:(ks.map nn).take 4=ks.map nn:=List.take_of_length_le (by simp;omega)
 have e2:(ks.map (leafP bs xs)).take 4=ks.map (leafP bs xs):=List.take_of_length_le (by simp;omega)
 unfold lkPart lkMade;rw[e1,e2];simp
theorem ilink(fa:Option Addr)(n c:Nat)(bs:List Nat)(xs:List Lk)(lf:Bool)(ka:Option Addr)(kl kc:Nat)(ks:List Int)(w:World)(hr:PRow w fa n bs)(hf:FAt w bs xs)(hpl:∀(i:Nat) (x:Lk),xs[i]?=some x→x.place=i)(hk:IRow w ka kl ks):
 Calls Tryz.prog 144 #[.slice fa n c,.agg #[.bool lf,.slice ka kl kc]] w (LinkOut w (linkOk bs xs lf ks) (lkMade bs xs n lf ks)):=by
 have hkl:=hk.1;by_cases h4:¬(kl:Int)=4
 ·have E:Hid (linkOk bs xs lf ks=false):=by show _=_;rw[linkOk,decide_eq_false (by omega),Bool.false_and]
  rw[E.out];clear hr hf hpl hk hkl E;go_enter Tryz.func144,Tryz.ntmps144;go_wp2;go_ret2;exact⟨_,rfl,(Below.refl _ _).alloc (Nat.le_refl _) _,fun h=>by cases h⟩
 ·have h4':kl=4:=by omega
  subst h4';obtain⟨z,hz⟩:∃z,w.heap.size=z:=⟨_,rfl⟩;have HZ:=hide hz;have H:=hide hk;have HL:=hide hkl;have HR:=hide hr;have HF:=hide hf;have HP:=hide hpl;have LX:Hid (LSt w (((w.alloc (.cells #[.bool lf,.slice ka 4 kc] 176)).alloc (.cells #[.int .i64 0,.int .i64 0,.int .i64 0,.int .i64 0] 207)).alloc (.cells #[.int .i64 n,.bool lf,.int .i64 0,.int .i64 0,.int .i64 0,.int .i64 0,.pointer none,.pointer none,.pointer none,.pointer none,.bool false] 210)) w.heap.size lf (.slice ka 4 kc) [0,0,0,0] (lkPart bs xs n lf ks 0)):=by
   have za:(w.alloc (.cells #[.bool lf,.slice ka 4 kc] 176)).heap.size=w.heap.size+1:=by simp
   have zb:((w.alloc (.cells #[.bool lf,.slice ka 4 kc] 176)).alloc (.cells #[.int .i64 0,.int .i64 0,.int .i64 0,.int .i64 0] 207)).heap.size=w.heap.size+1+1:=by simp
   have R0:=heap_alloc_new w (.cells #[.bool lf,.slice ka 4 kc] 176);have R1:=heap_alloc_new (w.alloc (.cells #[.bool lf,.slice ka 4 kc] 176)) (.cells #[.int .i64 0,.int .i64 0,.int .i64 0,.int .i64 0] 207);have R2:=heap_alloc_new ((w.alloc (.cells #[.bool lf,.slice ka 4 kc] 176)).alloc (.cells #[.int .i64 0,.int .i64 0,.int .i64 0,.int .i64 0] 207)) (.cells #[.int .i64 n,.bool lf,.int .i64 0,.int .i64 0,.int .i64 0,.int .i64 0,.pointer none,.pointer none,.pointer none,.pointer none,.bool false] 210);rw[za]at R1;rw[zb]at R2;refine⟨(Below.heap_alloc _ _ _ (by simp;omega)).trans ((Below.heap_alloc _ _ _ (by simp)).trans R0),(Below.heap_alloc _ _ _ (by simp)).trans R1,⟨?_,?_⟩,(((Below.refl _ _).alloc (Nat.le_refl _) _).alloc (by simp) _).alloc (by simp;omega) _⟩
   ·rw[R2];cases lf<;>rfl
   ·cases lf<;>exact⟨rfl,rfl⟩
  clear hr hf hpl hk hkl h4 hz;go_enter Tryz.func144,Tryz.ntmps144;go_wp2;have hz:=HZ.out;rw[hz]at LX⊢;clear hz;generalize((w.alloc (.cells #[.bool lf,.slice ka 4 kc] 176)).alloc (.cells #[.int .i64 0,.int .i64 0,.int .i64 0,.int .i64 0] 207)).alloc (.cells #[.int .i64 n,.bool lf,.int .i64 0,.int .i64 0,.int .i64 0,.int .i64 0,.pointer none,.pointer none,.pointer none,.pointer none,.bool false] 210)=wa at LX⊢;go_loopw [23] (fun iv W=>∃k:Nat,k≤4∧iv=.int .i64 k∧Hid (LSt w W z lf (.slice ka 4 kc) (ks.take k++[0,0,0,0].drop k) (lkPart bs xs n lf ks k))) (fun iv _=>4-(intOf iv).toNat)
  case atStart=>exact⟨0,by omega,rfl,LX⟩
  case round=>
   obtain⟨k,hk,rfl,HS⟩:=hrel;clear LX;by_cases hlt:(k:Int)<4
   ·have hk4:k<4:=by omega
    obtain⟨m,hm⟩:∃m,ks[k]?=some m:=⟨_,List.getElem?_eq_getElem (by have:=HL.out;omega)⟩
    obtain⟨kb,ko,e,-,hc⟩:=(H.out.below (by rw[HZ.out];exact HS.out.2.2.2)).at hm
    subst e;have k0:(0:Int)≤k:=by omega
    have oc:wr.cell? ⟨z+1,k,none⟩=some (.int .i64 0):=HS.out.cell (by
     rw[part_at (by have:=HL.out;omega)]
     exact lf_nought k hk4)
    have of:=HS.out.fr k;have ol:wr.cell? ⟨z,0,none⟩=some (.bool lf):=cell_of_row _ _ 0 _ _ _ HS.out.1;have S1:=hide (HS.out.given (k:=k) m);rw[part_set hm (by have:=HL.out;simp;omega)]at S1
    have HM:=hide hm;clear HS hm;cases lf with
    |true=>
     have x1:Hid ({lkPart bs xs n true ks k with nums:=(lkPart bs xs n true ks k).nums.set k (if m<0 then 0 else m)}=lkPart bs xs n true ks (k+1)):=by
      show Lk.mk _ _ _ _ _=Lk.mk _ _ _ _ _;congr 1;show((ks.map nn).take k++[0,0,0,0].drop k).set k (if m<0 then 0 else m)=_
      exact part_set (by rw[List.getElem?_map,HM.out];rfl) (by have:=HL.out;simp;omega)
     have S2:=hide (S1.out.num hk4 (if m<0 then 0 else m))
     rw[x1.out]at S2;have oc2:(wr.setCell ⟨z+1,k,none⟩ (.int .i64 m)).cell? ⟨z+1+1,2+k,none⟩=some (.int .i64 0):=S1.out.2.2.1.num (by
      show((ks.map nn).take k++[0,0,0,0].drop k)[k]?=_;rw[part_at (by have:=HL.out;simp;omega)]
      exact lf_nought k hk4)
     have of2:=S1.out.2.2.1.frozen (2+k);clear x1 S1 HM;go_wp2;go_roundw
     case rel=>exact⟨k+1,by omega,by go_num,S2⟩
     case measure=>simp[intOf];omega
    |false=>
     have hw:Hid (Below w.heap.size w (wr.setCell ⟨z+1,k,none⟩ (.int .i64 m)).drew):=by rw[hide HZ.out];exact S1.out.drew.2.2.2
     have C:=hide (ileafAt fa n c bs xs m (wr.setCell ⟨z+1,k,none⟩ (.int .i64 m)).drew (HR.out.below hw.out) (HF.out.below hw.out));obtain⟨o,ho⟩:∃o,leafP bs xs m=o:=⟨_,rfl⟩;rw[ho]at C;have x1:Hid ({lkPart bs xs n false ks k with tos:=(lkPart bs xs n false ks k).tos.set k o}=lkPart bs xs n false ks (k+1)):=by
      show Lk.mk _ _ _ _ _=Lk.mk _ _ _ _ _;congr 1;show((ks.map (leafP bs xs)).take k++[none,none,none,none].drop k).set k o=_;exact part_set (by rw[List.getElem?_map,HM.out,←ho];rfl) (by have:=HL.out;simp;omega)
     have S2:=hide (S1.out.to hk4 o);rw[x1.out]at S2;have oc2:(wr.setCell ⟨z+1,k,none⟩ (.int .i64 m)).cell? ⟨z+1+1,6+k,none⟩=some (.pointer none):=S1.out.2.2.1.to (o:=none) (by
      show((ks.map (leafP bs xs)).take k++[none,none,none,none].drop k)[k]?=_;rw[part_at (by have:=HL.out;simp;omega)]
      match k,hk4 with
      |0,_|1,_|2,_|3,_=>rfl)
     have of2:=S1.out.2.2.1.frozen (6+k);have hpo:∃q,pval o=.pointer q:=by cases o<;>exact⟨_,rfl⟩
     obtain⟨q,hq⟩:=hpo;rw[hq]at C S2;clear x1 S1 HM ho hw hq;go_wp2;go_region_held3 (fun _=>True) (trivial) ((go_at_call 161;(with_reducible refine Calls.mono C.out ?_);rintro e w1 ⟨rfl,rfl⟩))
     go_wp2;go_roundw
     case rel=>exact⟨k+1,by omega,by go_num,hide S2.out.drew⟩
     case measure=>simp[intOf];omega
   ·have e4:k=4:=by omega
    subst e4;have S1:Hid (LSt w wr z lf (.slice ka 4 kc) ks (lkMade bs xs n lf ks)):=by
     have:=HS.out;rw[List.take_of_length_le (by have:=HL.out;omega),lkPart_all HL.out]at this
     show LSt w wr z lf (.slice ka 4 kc) ks (lkMade bs xs n lf ks)
     simpa using this
    have hw:Hid (Below w.heap.size w wr.drew):=by rw[hide HZ.out];exact S1.out.drew.2.2.2
    have KR:Hid (KidsR wr.drew (lkMade bs xs n lf ks) (kidsMade bs xs lf ks)):=by
     show KidsR _ _ _;unfold KidsR;cases lf with
     |true=>rfl
     |false=>
      refine⟨by rw[kidsMade,if_neg (by decide),List.length_map];exact HL.out,fun j o ho=>?_⟩
      have ho2:(ks.map (leafP bs xs))[j]?=some o:=ho;rw[List.getElem?_map,Option.map_eq_some_iff]at ho2;obtain⟨m,hm,rfl⟩:=ho2;refine⟨if (leafP bs xs m).isSome=true then m else-1,by rw[kidsMade,if_neg (by decide),List.getElem?_map,hm];rfl,?_⟩
      cases hq:leafP bs xs m with
      |none=>exact .inl ⟨rfl,rfl⟩
      |some b=>
       obtain⟨h0,hb,x,hx,-⟩:=leafP_some hq;have hA:=(HF.out.below hw.out).2 _ b x hb hx;refine .inr ⟨b,rfl,?_,hA.lt⟩;rw[hA.place,HP.out _ x hx];show some (Value.int .i64 ((m.toNat:Nat):Int))=some (.int .i64 m);rw[Int.toNat_of_nonneg h0]
    have C:=hide (ikids (z+1+1) (lkMade bs xs n lf ks) (kidsMade bs xs lf ks) wr.drew S1.out.drew.2.2.1 KR.out);obtain⟨k0,k1,k2,k3,hks⟩:=list4 HL.out;obtain⟨a0,a1,a2,a3,has⟩:=list4 (show(kidsMade bs xs lf ks).length=4 by rw[kidsMade];split<;>rw[List.length_map]<;>exact HL.out)
    have OK:Hid (linkOk bs xs lf ks=([a0,a1,a2,a3]==[k0,k1,k2,k3])):=by
     show _=_;rw[linkOk,decide_eq_true HL.out,Bool.true_and,has,hks]
    obtain⟨ok,hok⟩:∃ok,([a0,a1,a2,a3]==[k0,k1,k2,k3])=ok:=⟨_,rfl⟩;have eqv:=fun W=>eq4 a0 a1 a2 a3 k0 k1 k2 k3 W
    rw[hok]at OK eqv;rw[has]at C;have q0:=S1.out.cell (k:=0) (n:=k0) (by rw[hks];rfl)
    have q1:=S1.out.cell (k:=1) (n:=k1) (by rw[hks];rfl)
    have q2:=S1.out.cell (k:=2) (n:=k2) (by rw[hks];rfl)
    have q3:=S1.out.cell (k:=3) (n:=k3) (by rw[hks];rfl)
    have KP:Hid (∀W,Below wr.drew.heap.size wr.drew W→W.cell? ⟨z+1,0,none⟩=some (.int .i64 k0)∧W.cell? ⟨z+1,1,none⟩=some (.int .i64 k1)∧W.cell? ⟨z+1,2,none⟩=some (.int .i64 k2)∧W.cell? ⟨z+1,3,none⟩=some (.int .i64 k3)):=fun W hW=>by
     have hl:z+1<wr.drew.heap.size:=(Array.getElem?_eq_some_iff.1 S1.out.2.1).1;exact⟨(hW.cell (show z+1<wr.drew.heap.size from hl)).trans q0,(hW.cell (show z+1<wr.drew.heap.size from hl)).trans q1,(hW.cell (show z+1<wr.drew.heap.size from hl)).trans q2,(hW.cell (show z+1<wr.drew.heap.size from hl)).trans q3⟩
    simp only[icells,List.map_cons,List.map_nil]at C eqv;unfold ptr at C;clear HS KR hks has hok;go_wp2;go_region_held3 (fun w'=>w'.cell? ⟨z+1,0,none⟩=some (.int .i64 k0)∧w'.cell? ⟨z+1,1,none⟩=some (.int .i64 k1)∧w'.cell? ⟨z+1,2,none⟩=some (.int .i64 k2)∧w'.cell? ⟨z+1,3,none⟩=some (.int .i64 k3)) (first|go_keep|exact KP.out _ BB.out) ((go_at_call 162;(with_reducible refine Calls.mono C.out ?_);rintro e w1 ⟨rfl,bb⟩;have BB:=hide bb;clear bb))
    all_goals
     go_wp2;go_ret2;refine⟨_,congrArg (fun q=>Ending.returned (.tuple #[ptr (z+1+1),.bool q])) OK.out.symm,hw.out.trans (BB.out.mono hw.out.size),fun _=>⟨z+1+1,rfl,S1.out.drew.2.2.1.blw BB.out,by have:=HZ.out;omega⟩⟩
end Go.Proofs.YtiicghepilbgfaaGreatDoor
