/-
  ICatch
-/
import Derived.Test.YtiicghepilbgfaaGreatDoorPk16
import Derived.Recover
import Derived.Tactics2
import Derived.Laws.Pointers
set_option maxHeartbeats 1000000
set_option maxRecDepth 100000
namespace Go.Proofs.YtiicghepilbgfaaGreatDoor
open Go.RowKit
open Words Sums
theorem assert_yes(w:World):(Instr.typeAssert (.iface 245 (.agg #[])) 20 245 true).run Tryz.prog w=.ok (.tuple #[.agg #[],.bool true]) w:=by kernel_rfl
theorem assert_nil(w:World):(Instr.typeAssert .nilIface 20 245 true).run Tryz.prog w=.ok (.tuple #[.agg #[],.bool false]) w:=by kernel_rfl
theorem frame11(a b:Value):(#[a,b]++Array.replicate (Tryz.f164.ntmps-(#[a,b]:Array Value).size) undef:Array Value)= #[a,b,undef,undef,undef,undef,undef,undef,undef,undef,undef]:=by kernel_rfl
theorem catch_panic(p q:Nat)(y0 y1 y2 y3 y4 y5 z:Value)(w:World)(hp:w.heap[p]?=some (.cells #[y0,y1,y2,y3,y4,y5] 102 (0,0)))(hq:w.heap[q]?=some (.cells #[z] 4 (0,0)))(hne:p≠q):
 CallsD Tryz.prog 164 #[.pointer (some ⟨p,0,none⟩),.pointer (some ⟨q,0,none⟩)] (.panicking noPg) w fun e u' w'=>
  e=.returned (.tuple #[])∧u'=.panicking [{v:=.iface 245 (.agg #[]),recovered:=true}]∧
  w'=(((((((w.alloc (.cells #[] 245)).setCell ⟨p,0,none⟩ (.int .i64 0)).setCell ⟨p,1,none⟩ (.int .i64 0)).setCell ⟨p,2,none⟩ (.int .i64 0)).setCell ⟨p,3,none⟩ (.int .i64 0)).setCell ⟨p,4,none⟩ (.int .i64 0)).setCell ⟨p,5,none⟩ (.string ⟨#[]⟩)).setCell ⟨q,0,none⟩ (.bool false):=by
 unfold noPg;refine callsD_of_wpS Tryz.func164 rfl fun c₀ cs hu=>?_
 rw[frame11];apply wpS_seq;apply wpS_region;simp[wpOpsS,go_sem,recoverD,hu,Exit.thenS,assert_yes];apply wpS_seq;apply wpS_region;simp[wpOpsS,go_sem,Exit.thenS];refine wpS_cond (t:=true) (by simp[Act.eval]) ?_
 simp only[if_true];apply wpS_region;have kp:(w.alloc (.cells #[] 245)).heap[p]?=some (.cells #[y0,y1,y2,y3,y4,y5] 102 (0,0)):=(heap_alloc_old _ _ (Array.getElem?_eq_some_iff.1 hp).1).trans hp;have kq:(w.alloc (.cells #[] 245)).heap[q]?=some (.cells #[z] 4 (0,0)):=(heap_alloc_old _ _ (Array.getElem?_eq_some_iff.1 hq).1).trans hq;have c0:(w.alloc (.cells #[] 245)).cell? ⟨p,0,none⟩=some y0:=cell_of_row _ _ 0 _ _ _ kp;have f0:(w.alloc (.cells #[] 245)).frozen? ⟨p,0,none⟩=false:=frozen_of_row _ _ 0 _ _ kp;have c1:(w.alloc (.cells #[] 245)).cell? ⟨p,1,none⟩=some y1:=cell_of_row _ _ 1 _ _ _ kp;have f1:(w.alloc (.cells #[] 245)).frozen? ⟨p,1,none⟩=false:=frozen_of_row _ _ 1 _ _ kp;have c2:(w.alloc (.cells #[] 245)).cell? ⟨p,2,none⟩=some y2:=cell_of_row _ _ 2 _ _ _ kp;have f2:(w.alloc (.cells #[] 245)).frozen? ⟨p,2,none⟩=false:=frozen_of_row _ _ 2 _ _ kp;have c3:(w.alloc (.cells #[] 245)).cell? ⟨p,3,none⟩=some y3:=cell_of_row _ _ 3 _ _ _ kp;have f3:(w.alloc (.cells #[] 245)).frozen? ⟨p,3,none⟩=false:=frozen_of_row _ _ 3 _ _ kp;have c4:(w.alloc (.cells #[] 245)).cell? ⟨p,4,none⟩=some y4:=cell_of_row _ _ 4 _ _ _ kp;have f4:(w.alloc (.cells #[] 245)).frozen? ⟨p,4,none⟩=false:=frozen_of_row _ _ 4 _ _ kp;have c5:(w.alloc (.cells #[] 245)).cell? ⟨p,5,none⟩=some y5:=cell_of_row _ _ 5 _ _ _ kp;have f5:(w.alloc (.cells #[] 245)).frozen? ⟨p,5,none⟩=false:=frozen_of_row _ _ 5 _ _ kp;have d0:(w.alloc (.cells #[] 245)).cell? ⟨q,0,none⟩=some z:=cell_of_row _ _ 0 _ _ _ kq;have g0:(w.alloc (.cells #[] 245)).frozen? ⟨q,0,none⟩=false:=frozen_of_row _ _ 0 _ _ kq;generalize w.alloc (.cells #[] 245)=W at*;have e0:(W.setCell ⟨p,0,none⟩ (.int .i64 0)).cell? ⟨q,0,none⟩=some z:=by
  rw[World.cell?_setCell_other _ _ _ _ (fun e=>hne (by injection e))]
  exact d0
 simp[wpOpsS,go_sem,c0,c1,c2,c3,c4,c5,f0,f1,f2,f3,f4,f5,e0,g0,bodyPostS,results,Tryz.results164]
theorem catch_idle(p q:Nat)(w:World):
 CallsD Tryz.prog 164 #[.pointer (some ⟨p,0,none⟩),.pointer (some ⟨q,0,none⟩)] .returning w fun e u' w'=>
  e=.returned (.tuple #[])∧u'=.returning∧w'=w.alloc (.cells #[] 245):=by
 refine callsD_of_wpS Tryz.func164 rfl fun c₀ cs hu=>?_
 rw[frame11];apply wpS_seq;apply wpS_region;simp[wpOpsS,go_sem,recoverD,hu,Exit.thenS,assert_nil];apply wpS_seq;apply wpS_region;simp[wpOpsS,go_sem,Exit.thenS];refine wpS_cond (t:=false) (by simp[Act.eval]) ?_
 simp only[Bool.false_eq_true,if_false];refine wpS_of_wp (wp_skip ?_);cases c₀
 simp_all [bodyPostS,results,Tryz.results164]
theorem rpage_any(t s0:ByteArray)(i0:Int)(g:Nat)(w:World)(hm:t.size≤maxLen)(hr:RAt w g s0 i0)(ht:HalvIn w):
 (∃p,readPg t=some p∧Calls Tryz.prog 165 #[.pointer (some ⟨g,0,none⟩),.string t] w fun e w'=>e=.returned (pgVal p)∧Kept2 w w' (·≠g))∨
 (readPg t=none∧Calls Tryz.prog 165 #[.pointer (some ⟨g,0,none⟩),.string t] w fun e w'=>e=.panicked noPg∧Kept2 w w' (·≠g)):=by
 have h:=rpage t s0 i0 g w hm hr ht;cases hp:readPg t with
 |none=>rw[hp]at h;exact .inr ⟨rfl,h⟩
 |some p=>rw[hp]at h;exact .inl ⟨p,rfl,h⟩
theorem six_other{w:World}{g i:Nat}{a b c d e f:Value}(h:i≠g):
 ((((((w.setCell ⟨g,0,none⟩ a).setCell ⟨g,1,none⟩ b).setCell ⟨g,2,none⟩ c).setCell ⟨g,3,none⟩ d).setCell ⟨g,4,none⟩ e).setCell ⟨g,5,none⟩ f).heap[i]?=w.heap[i]?:=by
 rw[Below.heap_setCell _ ⟨g,5,none⟩ _ _ h,Below.heap_setCell _ ⟨g,4,none⟩ _ _ h,Below.heap_setCell _ ⟨g,3,none⟩ _ _ h,Below.heap_setCell _ ⟨g,2,none⟩ _ _ h,Below.heap_setCell _ ⟨g,1,none⟩ _ _ h,Below.heap_setCell _ ⟨g,0,none⟩ _ _ h]
theorem start_page(w:World):RAt (((w.alloc (.cells #[.int .i64 0,.int .i64 0,.int .i64 0,.int .i64 0,.int .i64 0,.string ⟨#[]⟩] 102)).alloc (.cells #[.bool false] 4)).alloc (.cells #[.string ⟨#[]⟩,.int .i64 0] 248)) (w.heap.size+1+1) ⟨#[]⟩ 0∧Below w.heap.size w (((w.alloc (.cells #[.int .i64 0,.int .i64 0,.int .i64 0,.int .i64 0,.int .i64 0,.string ⟨#[]⟩] 102)).alloc (.cells #[.bool false] 4)).alloc (.cells #[.string ⟨#[]⟩,.int .i64 0] 248))∧
 (((w.alloc (.cells #[.int .i64 0,.int .i64 0,.int .i64 0,.int .i64 0,.int .i64 0,.string ⟨#[]⟩] 102)).alloc (.cells #[.bool false] 4)).alloc (.cells #[.string ⟨#[]⟩,.int .i64 0] 248)).heap[w.heap.size]?=some (.cells #[.int .i64 0,.int .i64 0,.int .i64 0,.int .i64 0,.int .i64 0,.string ⟨#[]⟩] 102 (0,0))∧(((w.alloc (.cells #[.int .i64 0,.int .i64 0,.int .i64 0,.int .i64 0,.int .i64 0,.string ⟨#[]⟩] 102)).alloc (.cells #[.bool false] 4)).alloc (.cells #[.string ⟨#[]⟩,.int .i64 0] 248)).heap[w.heap.size+1]?=some (.cells #[.bool false] 4 (0,0))∧(((w.alloc (.cells #[.int .i64 0,.int .i64 0,.int .i64 0,.int .i64 0,.int .i64 0,.string ⟨#[]⟩] 102)).alloc (.cells #[.bool false] 4)).alloc (.cells #[.string ⟨#[]⟩,.int .i64 0] 248)).heap.size=w.heap.size+3:=by
 have h0:=heap_alloc_new w (.cells #[.int .i64 0,.int .i64 0,.int .i64 0,.int .i64 0,.int .i64 0,.string ⟨#[]⟩] 102);have h1:=heap_alloc_new (w.alloc (.cells #[.int .i64 0,.int .i64 0,.int .i64 0,.int .i64 0,.int .i64 0,.string ⟨#[]⟩] 102)) (.cells #[.bool false] 4);have e1:(w.alloc (.cells #[.int .i64 0,.int .i64 0,.int .i64 0,.int .i64 0,.int .i64 0,.string ⟨#[]⟩] 102)).heap.size=w.heap.size+1:=by simp
 rw[e1]at h1;have h2:=heap_alloc_new ((w.alloc (.cells #[.int .i64 0,.int .i64 0,.int .i64 0,.int .i64 0,.int .i64 0,.string ⟨#[]⟩] 102)).alloc (.cells #[.bool false] 4)) (.cells #[.string ⟨#[]⟩,.int .i64 0] 248);have e2:((w.alloc (.cells #[.int .i64 0,.int .i64 0,.int .i64 0,.int .i64 0,.int .i64 0,.string ⟨#[]⟩] 102)).alloc (.cells #[.bool false] 4)).heap.size=w.heap.size+1+1:=by simp
 rw[e2]at h2;refine⟨⟨by simp,cell_of_row _ _ 0 _ _ _ h2,cell_of_row _ _ 1 _ _ _ h2,frozen_of_row _ _ 0 _ _ h2,frozen_of_row _ _ 1 _ _ h2⟩,?_,?_,?_,by simp⟩
 ·exact(((Below.refl _ _).alloc (Nat.le_refl _) _).alloc (by simp) _).alloc (by simp;omega) _
 ·rw[heap_alloc_old _ _ (by simp;omega),heap_alloc_old _ _ (by simp)]
  exact h0
 ·rw[heap_alloc_old _ _ (by simp)]
  exact h1
theorem icaught(t:ByteArray)(w:World)(hm:t.size≤maxLen)(ht:HalvIn w):
 Calls Tryz.prog 148 #[.string t] w fun e w'=>e=.returned (pgRes (readPg t))∧Below w.heap.size w w':=by
 have hmf:∀(fn:Fn) (first cap:Array Value) (w:World),(Instr.makeFunc fn first cap).run Tryz.prog w=.ok (.func fn first cap) w:=fun _ _ _ _=>rfl
 obtain⟨st,b3,H0,H1,hz⟩:=start_page w;rcases rpage_any t _ _ _ _ hm st (ht.on b3)with⟨p,hp,C⟩|⟨hp,C⟩
 ·have E:Hid (pgRes (readPg t)=.tuple #[pgVal p,.bool true]):=by rw[hp];rfl
  have C:=hide C;have B3:=hide b3;have S0:=hide H0;have S1:=hide H1;have HZ:=hide hz;clear hp ht st b3 H0 H1 hz;obtain⟨k,s,x,q,c,u⟩:=p;unfold pgVal at C E;simp only at C E;go_enter_defers Tryz.func148,Tryz.ntmps148;go_wp2_with fail;refine C.out.mono ?_;rintro e w5 ⟨rfl,k5⟩;have Z0:=(k5.2.2.2.2 w.heap.size (by rw[HZ.out];omega) (by omega)).trans S0.out
  have Z1:=(k5.2.2.2.2 (w.heap.size+1) (by rw[HZ.out];omega) (by omega)).trans S1.out
  have BB:=hide (B3.out.trans (Kept2.down (B:=w.heap.size) k5 B3.out.size (fun i hi=>by omega)))
  have l5:w.heap.size+1<w5.heap.size:=Nat.lt_of_lt_of_le (by rw[HZ.out];omega) k5.2.2.2.1
  clear k5 S0 S1 HZ B3 C;have c0:=cell_of_row _ _ 0 _ _ _ Z0;have f0:=frozen_of_row _ _ 0 _ _ Z0;have c1:=cell_of_row _ _ 1 _ _ _ Z0;have f1:=frozen_of_row _ _ 1 _ _ Z0;have c2:=cell_of_row _ _ 2 _ _ _ Z0;have f2:=frozen_of_row _ _ 2 _ _ Z0;have c3:=cell_of_row _ _ 3 _ _ _ Z0;have f3:=frozen_of_row _ _ 3 _ _ Z0;have c4:=cell_of_row _ _ 4 _ _ _ Z0;have f4:=frozen_of_row _ _ 4 _ _ Z0;have c5:=cell_of_row _ _ 5 _ _ _ Z0;have f5:=frozen_of_row _ _ 5 _ _ Z0;have y0:=cell_of_row _ _ 0 _ _ _ Z1;have v0:=frozen_of_row _ _ 0 _ _ Z1;have Z6:=six_set (a:=.int .i64 k) (b:=.int .i64 s) (c:=.int .i64 x) (d:=.int .i64 q) (e:=.int .i64 c) (f:=.string u) Z0;obtain⟨W6,hW6⟩:∃W6,W6=((((((w5.setCell ⟨w.heap.size,0,none⟩ (.int .i64 k)).setCell ⟨w.heap.size,1,none⟩ (.int .i64 s)).setCell ⟨w.heap.size,2,none⟩ (.int .i64 x)).setCell ⟨w.heap.size,3,none⟩ (.int .i64 q)).setCell ⟨w.heap.size,4,none⟩ (.int .i64 c)).setCell ⟨w.heap.size,5,none⟩ (.string u)):=⟨_,rfl⟩;rw[←hW6]at Z6;have Y6:W6.heap[w.heap.size+1]?=some (.cells #[.bool false] 4 (0,0)):=by
   rw[hW6];exact(six_other (by omega)).trans Z1
  have Z7:(W6.setCell ⟨w.heap.size+1,0,none⟩ (.bool true)).heap[w.heap.size]?=_:=(Below.heap_setCell _ _ _ _ (by simp)).trans Z6
  have Y7:=heap_setCell_same _ _ 0 _ _ (.bool true) Y6;have B7:Hid (Below w.heap.size w (W6.setCell ⟨w.heap.size+1,0,none⟩ (.bool true))):=by
   rw[hW6];exact((((((BB.out.setCell (Nat.le_refl _) _).setCell (Nat.le_refl _) _).setCell (Nat.le_refl _) _).setCell (Nat.le_refl _) _).setCell (Nat.le_refl _) _).setCell (Nat.le_refl _) _).setCell (by simp) _
  go_wp2;rw[←hW6];clear hW6;refine leaves_cons (f:=164) (args:= #[.pointer (some ⟨w.heap.size,0,none⟩),.pointer (some ⟨w.heap.size+1,0,none⟩)]) (by simp) (by simp[go_sem]) ?_
  refine(catch_idle w.heap.size (w.heap.size+1) _).mono ?_;rintro e u' w'' ⟨rfl,rfl,rfl⟩;have Z8:=(heap_alloc_old _ (.cells #[] 245) (Array.getElem?_eq_some_iff.1 Z7).1).trans Z7;have Y8:=(heap_alloc_old _ (.cells #[] 245) (Array.getElem?_eq_some_iff.1 Y7).1).trans Y7;have B8:=hide (B7.out.alloc B7.out.size (.cells #[] 245));have r0:=cell_of_row _ _ 0 _ _ _ Z8;have r1:=cell_of_row _ _ 1 _ _ _ Z8;have r2:=cell_of_row _ _ 2 _ _ _ Z8;have r3:=cell_of_row _ _ 3 _ _ _ Z8;have r4:=cell_of_row _ _ 4 _ _ _ Z8;have r5:=cell_of_row _ _ 5 _ _ _ Z8;have o0:=cell_of_row _ _ 0 _ _ _ Y8;generalize(W6.setCell ⟨w.heap.size+1,0,none⟩ (.bool true)).alloc (.cells #[] 245)=W8 at*;clear Z0 Z1 Z6 Y6 Z7 Y7 Z8 Y8;simp[Leaves,settle,results,Tryz.results148,go_sem,r0,r1,r2,r3,r4,r5,o0];exact⟨by rw[E.out],B8.out⟩
 ·have E:Hid (pgRes (readPg t)=.tuple #[pgVal ⟨0,0,0,0,0,⟨#[]⟩⟩,.bool false]):=by rw[hp];rfl
  have C:=hide C;have B3:=hide b3;have S0:=hide H0;have S1:=hide H1;have HZ:=hide hz;clear hp ht st b3 H0 H1 hz;unfold pgVal at E;simp only at E;go_enter_defers Tryz.func148,Tryz.ntmps148;go_wp2_with fail;refine C.out.mono ?_;rintro e w5 ⟨rfl,k5⟩;have Z0:=(k5.2.2.2.2 w.heap.size (by rw[HZ.out];omega) (by omega)).trans S0.out
  have Z1:=(k5.2.2.2.2 (w.heap.size+1) (by rw[HZ.out];omega) (by omega)).trans S1.out
  have BB:=hide (B3.out.trans (Kept2.down (B:=w.heap.size) k5 B3.out.size (fun i hi=>by omega)))
  clear k5 S0 S1 HZ B3 C;go_wp2;refine leaves_cons (f:=164) (args:= #[.pointer (some ⟨w.heap.size,0,none⟩),.pointer (some ⟨w.heap.size+1,0,none⟩)]) (by simp[noPg]) (by simp[go_sem]) ?_
  refine(catch_panic w.heap.size (w.heap.size+1) _ _ _ _ _ _ _ _ Z0 Z1 (by omega)).mono ?_
  rintro e u' w'' ⟨rfl,rfl,rfl⟩;have K0:=(heap_alloc_old _ (.cells #[] 245) (Array.getElem?_eq_some_iff.1 Z0).1).trans Z0;have K1:=(heap_alloc_old _ (.cells #[] 245) (Array.getElem?_eq_some_iff.1 Z1).1).trans Z1;have B6:=hide (BB.out.alloc BB.out.size (.cells #[] 245));generalize w5.alloc (.cells #[] 245)=W5 at*;have Z6:=six_set (a:=.int .i64 0) (b:=.int .i64 0) (c:=.int .i64 0) (d:=.int .i64 0) (e:=.int .i64 0) (f:=.string ⟨#[]⟩) K0;have Y6:=(six_other (w:=W5) (g:=w.heap.size) (i:=w.heap.size+1) (a:=.int .i64 0) (b:=.int .i64 0) (c:=.int .i64 0) (d:=.int .i64 0) (e:=.int .i64 0) (f:=.string ⟨#[]⟩) (by omega)).trans K1
  have B7:=hide ((((((B6.out.setCell (p:=⟨w.heap.size,0,none⟩) (Nat.le_refl _) (.int .i64 0)).setCell (p:=⟨w.heap.size,1,none⟩) (Nat.le_refl _) (.int .i64 0)).setCell (p:=⟨w.heap.size,2,none⟩) (Nat.le_refl _) (.int .i64 0)).setCell (p:=⟨w.heap.size,3,none⟩) (Nat.le_refl _) (.int .i64 0)).setCell (p:=⟨w.heap.size,4,none⟩) (Nat.le_refl _) (.int .i64 0)).setCell (p:=⟨w.heap.size,5,none⟩) (Nat.le_refl _) (.string ⟨#[]⟩));generalize((((((W5.setCell ⟨w.heap.size,0,none⟩ (.int .i64 0)).setCell ⟨w.heap.size,1,none⟩ (.int .i64 0)).setCell ⟨w.heap.size,2,none⟩ (.int .i64 0)).setCell ⟨w.heap.size,3,none⟩ (.int .i64 0)).setCell ⟨w.heap.size,4,none⟩ (.int .i64 0)).setCell ⟨w.heap.size,5,none⟩ (.string ⟨#[]⟩))=W6 at*;have Z8:=(Below.heap_setCell W6 ⟨w.heap.size+1,0,none⟩ (.bool false) _ (by simp)).trans Z6
  have Y8:=heap_setCell_same _ _ 0 _ _ (.bool false) Y6;have B8:=hide (B7.out.setCell (p:=⟨w.heap.size+1,0,none⟩) (by simp) (.bool false))
  have r0:=cell_of_row _ _ 0 _ _ _ Z8;have r1:=cell_of_row _ _ 1 _ _ _ Z8;have r2:=cell_of_row _ _ 2 _ _ _ Z8;have r3:=cell_of_row _ _ 3 _ _ _ Z8;have r4:=cell_of_row _ _ 4 _ _ _ Z8;have r5:=cell_of_row _ _ 5 _ _ _ Z8;have o0:=cell_of_row _ _ 0 _ _ _ Y8;generalize W6.setCell ⟨w.heap.size+1,0,none⟩ (.bool false)=W8 at*;clear Z0 Z1 K0 K1 Z6 Y6 Z8 Y8;simp[Leaves,settle,results,Tryz.results148,go_sem,r0,r1,r2,r3,r4,r5,o0];exact⟨by rw[E.out],B8.out⟩
theorem pgRes_tuple(o:Option Pg):∃(p:Pg) (b:Bool),pgRes o=.tuple #[pgVal p,.bool b]:=by
 cases o with
 |none=>exact⟨_,_,rfl⟩
 |some p=>exact⟨_,_,rfl⟩
theorem ireadPage(t:ByteArray)(w:World)(hm:t.size≤maxLen)(ht:HalvIn w):
 Calls Tryz.prog 130 #[.string t] w fun e w'=>e=.returned (pgRes (readPg t))∧Below w.heap.size w w':=by
 have b0:Below w.heap.size w (w.alloc (.cells #[.int .i64 0,.int .i64 0,.int .i64 0,.int .i64 0,.int .i64 0,.string ⟨#[]⟩] 102)):=(Below.refl _ _).alloc (Nat.le_refl _) _;have C:=hide (icaught t (w.alloc (.cells #[.int .i64 0,.int .i64 0,.int .i64 0,.int .i64 0,.int .i64 0,.string ⟨#[]⟩] 102)) hm (ht.on b0));have B0:=hide b0;have H0:=hide (heap_alloc_new w (.cells #[.int .i64 0,.int .i64 0,.int .i64 0,.int .i64 0,.int .i64 0,.string ⟨#[]⟩] 102));obtain⟨p,ok,hp⟩:=pgRes_tuple (readPg t);rw[hp]at C⊢;obtain⟨k,s,x,q,c,u⟩:=p;unfold pgVal at*;simp only at*;clear ht b0 hp;go_enter Tryz.func130,Tryz.ntmps130;go_wp2_with fail;refine C.out.mono ?_;rintro e w1 ⟨rfl,b1⟩;have Z0:=(b1.block w.heap.size (by simp)).trans H0.out
 have B1:=hide (B0.out.trans (b1.mono (by simp)))
 clear H0 b1 B0 C;have c0:=cell_of_row _ _ 0 _ _ _ Z0;have f0:=frozen_of_row _ _ 0 _ _ Z0;have c1:=cell_of_row _ _ 1 _ _ _ Z0;have f1:=frozen_of_row _ _ 1 _ _ Z0;have c2:=cell_of_row _ _ 2 _ _ _ Z0;have f2:=frozen_of_row _ _ 2 _ _ Z0;have c3:=cell_of_row _ _ 3 _ _ _ Z0;have f3:=frozen_of_row _ _ 3 _ _ Z0;have c4:=cell_of_row _ _ 4 _ _ _ Z0;have f4:=frozen_of_row _ _ 4 _ _ Z0;have c5:=cell_of_row _ _ 5 _ _ _ Z0;have f5:=frozen_of_row _ _ 5 _ _ Z0;have Z6:=six_set (a:=.int .i64 k) (b:=.int .i64 s) (c:=.int .i64 x) (d:=.int .i64 q) (e:=.int .i64 c) (f:=.string u) Z0;have B6:=hide ((((((B1.out.setCell (p:=⟨w.heap.size,0,none⟩) (Nat.le_refl _) (.int .i64 k)).setCell (p:=⟨w.heap.size,1,none⟩) (Nat.le_refl _) (.int .i64 s)).setCell (p:=⟨w.heap.size,2,none⟩) (Nat.le_refl _) (.int .i64 x)).setCell (p:=⟨w.heap.size,3,none⟩) (Nat.le_refl _) (.int .i64 q)).setCell (p:=⟨w.heap.size,4,none⟩) (Nat.le_refl _) (.int .i64 c)).setCell (p:=⟨w.heap.size,5,none⟩) (Nat.le_refl _) (.string u));have r0:=cell_of_row _ _ 0 _ _ _ Z6;have r1:=cell_of_row _ _ 1 _ _ _ Z6;have r2:=cell_of_row _ _ 2 _ _ _ Z6;have r3:=cell_of_row _ _ 3 _ _ _ Z6;have r4:=cell_of_row _ _ 4 _ _ _ Z6;have r5:=cell_of_row _ _ 5 _ _ _ Z6;clear Z0 Z6;go_wp2;exact bodyPost_ret (v:=.tuple #[.agg #[.int .i64 k,.int .i64 s,.int .i64 x,.int .i64 q,.int .i64 c,.string u],.bool ok]) (by simp[results,Tryz.results130,go_sem,r0,r1,r2,r3,r4,r5]) rfl ⟨rfl,B6.out⟩
end Go.Proofs.YtiicghepilbgfaaGreatDoor
