/-
  PAt; SRow; IScan
-/
import Derived.Test.YtpdoponghlpkcaaDoorPk23
import Derived.Test.YtpdoponghlpkcaaDoorICatch
import Derived.Test.YtpdoponghlpkcaaDoorSRPage
import Derived.Test.YtpdoponghlpkcaaDoorPk2
import Derived.Test.YtpdoponghlpkcaaDoorPk3
import Derived.Test.YtpdoponghlpkcaaDoorPk4
import Derived.Laws.Rows
import Derived.Test.YtpdoponghlpkcaaDoorPk6
set_option maxHeartbeats 1000000
set_option maxRecDepth 100000
namespace Go.Proofs.YtpdoponghlpkcaaDoor
open Go.RowKit
open Words Sums
theorem readF_size{rs:List Rw}(h:TxB rs)(b k:Int):(readF (rs.map tellOf) b k).1.size≤1048576:=by
 unfold readF;split
 ·decide
 ·rename_i r hr
  split
  ·decide
  ·rename_i t ht
   split
   ·obtain⟨s,hs,e⟩:=List.mem_map.1 (List.mem_of_getElem? hr);subst e;exact h s hs t (List.mem_of_getElem? ht)
   ·decide
theorem pageAt_rd(v:Value)(rs:List Rw)(b k:Int)(w:World)(hl:rs.length≤1048576)(hll:∀r∈rs,r.2.2.2.length≤1048576)(htx:TxB rs)(ha:FlashRd w v rs)(ht:HalvIn w):
 Calls Tryd.prog 30 #[.agg #[v],.int .i64 b,.int .i64 k] w fun e w'=>e=.returned (pgRes (leafPg (rs.map tellOf) b k))∧Below w.heap.size w w':=by
 have b0:Below w.heap.size w ((w.alloc (.cells #[v] 37)).alloc (.cells #[.int .i64 0,.int .i64 0,.int .i64 0,.int .i64 0,.int .i64 0,.string ⟨#[]⟩] 70)):=((Below.refl _ _).alloc (Nat.le_refl _) _).alloc (by simp) _
 have C:=hide (iread_rd v rs b k ((w.alloc (.cells #[v] 37)).alloc (.cells #[.int .i64 0,.int .i64 0,.int .i64 0,.int .i64 0,.int .i64 0,.string ⟨#[]⟩] 70)) hl hll htx (ha.below b0));have hsz:=readF_size htx b k;obtain⟨T,ok,hT⟩:∃T ok,readF (rs.map tellOf) b k=(T,ok):=⟨_,_,rfl⟩;rw[hT]at C hsz;simp only at C hsz;have h0:=heap_alloc_new (w.alloc (.cells #[v] 37)) (.cells #[.int .i64 0,.int .i64 0,.int .i64 0,.int .i64 0,.int .i64 0,.string ⟨#[]⟩] 70);rw[show(w.alloc (.cells #[v] 37)).heap.size=w.heap.size+1 by simp]at h0
 have H0:=hide h0;have HT:=hide ht;have B0:=hide b0;have hz:((w.alloc (.cells #[v] 37)).alloc (.cells #[.int .i64 0,.int .i64 0,.int .i64 0,.int .i64 0,.int .i64 0,.string ⟨#[]⟩] 70)).heap.size=w.heap.size+2:=by simp
 have HZ:=hide hz;cases ok with
 |false=>
  have EV:Hid (pgRes (leafPg (rs.map tellOf) b k)=.tuple #[.agg #[.int .i64 0,.int .i64 0,.int .i64 0,.int .i64 0,.int .i64 0,.string ⟨#[]⟩],.bool false]):=by show _=_;unfold leafPg;rw[hT];rfl
  clear ha ht b0 h0 hT hz;go_enter Tryd.func30,Tryd.ntmps30;go_wp2_with fail;refine C.out.mono ?_;rintro e w1 ⟨rfl,b1⟩;have Z:=(b1.block (w.heap.size+1) (by rw[HZ.out];omega)).trans H0.out
  have B1:=hide (B0.out.trans (b1.mono B0.out.size));clear b1 C H0 HZ B0;have c0:=cell_of_row _ _ 0 _ _ _ Z;have f0:=frozen_of_row _ _ 0 _ _ Z;have c1:=cell_of_row _ _ 1 _ _ _ Z;have f1:=frozen_of_row _ _ 1 _ _ Z;have c2:=cell_of_row _ _ 2 _ _ _ Z;have f2:=frozen_of_row _ _ 2 _ _ Z;have c3:=cell_of_row _ _ 3 _ _ _ Z;have f3:=frozen_of_row _ _ 3 _ _ Z;have c4:=cell_of_row _ _ 4 _ _ _ Z;have f4:=frozen_of_row _ _ 4 _ _ Z;have c5:=cell_of_row _ _ 5 _ _ _ Z;have f5:=frozen_of_row _ _ 5 _ _ Z;have Z6:=six_set (a:=.int .i64 0) (b:=.int .i64 0) (c:=.int .i64 0) (d:=.int .i64 0) (e:=.int .i64 0) (f:=.string ⟨#[]⟩) Z;have B6:=hide (six_below (a:=.int .i64 0) (b:=.int .i64 0) (c:=.int .i64 0) (d:=.int .i64 0) (e:=.int .i64 0) (f:=.string ⟨#[]⟩) B1.out (show w.heap.size≤w.heap.size+1 by omega))
  have r0:=cell_of_row _ _ 0 _ _ _ Z6;have r1:=cell_of_row _ _ 1 _ _ _ Z6;have r2:=cell_of_row _ _ 2 _ _ _ Z6;have r3:=cell_of_row _ _ 3 _ _ _ Z6;have r4:=cell_of_row _ _ 4 _ _ _ Z6;have r5:=cell_of_row _ _ 5 _ _ _ Z6;clear Z Z6;go_wp2;exact bodyPost_ret (v:=.tuple #[.agg #[.int .i64 0,.int .i64 0,.int .i64 0,.int .i64 0,.int .i64 0,.string ⟨#[]⟩],.bool false]) (by simp[results,Tryd.results30,go_sem,r0,r1,r2,r3,r4,r5]) rfl ⟨by rw[EV.out],B6.out⟩
 |true=>
  obtain⟨p,ok2,hp⟩:=pgRes_tuple (readPg T);have EV0:pgRes (leafPg (rs.map tellOf) b k)=.tuple #[pgVal p,.bool ok2]:=by unfold leafPg;rw[hT];exact hp
  have C2:=hide (fun W h=>ireadPage T W (by unfold maxLen;omega) h)
  rw[hp]at C2;obtain⟨k1,s,x,q,c,u⟩:=p;unfold pgVal at C2 EV0;simp only at C2 EV0;have EV:=hide EV0;clear ha ht b0 h0 hT hz hp EV0;go_enter Tryd.func30,Tryd.ntmps30;go_wp2_with fail;refine C.out.mono ?_;rintro e w1 ⟨rfl,b1⟩;have Z1:=hide ((b1.block (w.heap.size+1) (by rw[HZ.out];omega)).trans H0.out)
  have l1:w.heap.size+1<w1.heap.size:=Nat.lt_of_lt_of_le (by rw[HZ.out];omega) b1.size
  have B1:=hide (B0.out.trans (b1.mono B0.out.size));clear b1 C H0 HZ B0;go_wp2_with fail;refine(C2.out _ (HT.out.on B1.out)).mono ?_;rintro e w2 ⟨rfl,b2⟩;have Z:=(b2.block (w.heap.size+1) l1).trans Z1.out;have B2:=hide (B1.out.trans (b2.mono B1.out.size));clear b2 Z1 B1 C2;have c0:=cell_of_row _ _ 0 _ _ _ Z;have f0:=frozen_of_row _ _ 0 _ _ Z;have c1:=cell_of_row _ _ 1 _ _ _ Z;have f1:=frozen_of_row _ _ 1 _ _ Z;have c2:=cell_of_row _ _ 2 _ _ _ Z;have f2:=frozen_of_row _ _ 2 _ _ Z;have c3:=cell_of_row _ _ 3 _ _ _ Z;have f3:=frozen_of_row _ _ 3 _ _ Z;have c4:=cell_of_row _ _ 4 _ _ _ Z;have f4:=frozen_of_row _ _ 4 _ _ Z;have c5:=cell_of_row _ _ 5 _ _ _ Z;have f5:=frozen_of_row _ _ 5 _ _ Z;have Z6:=six_set (a:=.int .i64 k1) (b:=.int .i64 s) (c:=.int .i64 x) (d:=.int .i64 q) (e:=.int .i64 c) (f:=.string u) Z;have B6:=hide (six_below (a:=.int .i64 k1) (b:=.int .i64 s) (c:=.int .i64 x) (d:=.int .i64 q) (e:=.int .i64 c) (f:=.string u) B2.out (show w.heap.size≤w.heap.size+1 by omega))
  have r0:=cell_of_row _ _ 0 _ _ _ Z6;have r1:=cell_of_row _ _ 1 _ _ _ Z6;have r2:=cell_of_row _ _ 2 _ _ _ Z6;have r3:=cell_of_row _ _ 3 _ _ _ Z6;have r4:=cell_of_row _ _ 4 _ _ _ Z6;have r5:=cell_of_row _ _ 5 _ _ _ Z6;clear Z Z6;go_wp2;exact bodyPost_ret (v:=.tuple #[.agg #[.int .i64 k1,.int .i64 s,.int .i64 x,.int .i64 q,.int .i64 c,.string u],.bool ok2]) (by simp[results,Tryd.results30,go_sem,r0,r1,r2,r3,r4,r5]) rfl ⟨by rw[EV.out],B6.out⟩
end Go.Proofs.YtpdoponghlpkcaaDoor
namespace Go.Proofs.YtpdoponghlpkcaaDoor
open Go.RowKit
open Words
def SRow(w:World)(g:Nat)(D:List Fnd):Prop:=∃cs:Array Value,w.heap[g]?=some (.cells cs 74 (0,0))∧∀i x,D[i]?=some x→∀j v,(fdCells x)[j]?=some v→cs[i*8+j]?=some v
def Sorted(w w':World)(g:Nat)(D:List Fnd):Prop:=Kept2 w w' (·≠g)∧SRow w' g D
theorem SRow.lt{w:World}{g:Nat}{D:List Fnd}(h:SRow w g D):g<w.heap.size:=by
 obtain⟨cs,h1,-⟩:=h;exact(Array.getElem?_eq_some_iff.1 h1).1
theorem SRow.frozen{w:World}{g:Nat}{D:List Fnd}(h:SRow w g D)(o:Nat):w.frozen? ⟨g,o,none⟩=false:=by
 obtain⟨cs,h1,-⟩:=h;exact frozen_of_row _ _ o _ _ h1
theorem SRow.cell{w:World}{g:Nat}{D:List Fnd}(h:SRow w g D){i:Nat}{x:Fnd}(hi:D[i]?=some x)(j:Nat){v:Value}(hj:(fdCells x)[j]?=some v):w.cell? ⟨g,i*8+j,none⟩=some v:=by
 obtain⟨cs,h1,h2⟩:=h;rw[cell_of_row _ _ (i*8+j) _ _ _ h1];exact h2 i x hi j v hj
theorem SRow.below{w w':World}{g:Nat}{D:List Fnd}(h:SRow w g D)(hb:Below w.heap.size w w'):SRow w' g D:=by
 have hl:=h.lt;obtain⟨cs,h1,h2⟩:=h;exact⟨cs,(hb.block _ hl).trans h1,h2⟩
def put8(w:World)(g o:Nat)(x:Fnd):World:=
 (((((((w.setCell ⟨g,o,none⟩ (.int .i64 x.block)).setCell ⟨g,o+1,none⟩ (.int .i64 x.leaf)).setCell ⟨g,o+2,none⟩ (.int .i64 x.page.kind)).setCell ⟨g,o+3,none⟩ (.int .i64 x.page.seq)).setCell ⟨g,o+4,none⟩ (.int .i64 x.page.tx)).setCell ⟨g,o+5,none⟩ (.int .i64 x.page.part)).setCell ⟨g,o+6,none⟩ (.int .i64 x.page.count)).setCell ⟨g,o+7,none⟩ (.string x.page.text)
theorem put8_heap(w:World)(g o:Nat)(x:Fnd)(i:Nat)(h:i≠g):(put8 w g o x).heap[i]?=w.heap[i]?:=by
 unfold put8;rw[Below.heap_setCell _ ⟨g,o+7,none⟩ _ _ h,Below.heap_setCell _ ⟨g,o+6,none⟩ _ _ h,Below.heap_setCell _ ⟨g,o+5,none⟩ _ _ h,Below.heap_setCell _ ⟨g,o+4,none⟩ _ _ h,Below.heap_setCell _ ⟨g,o+3,none⟩ _ _ h,Below.heap_setCell _ ⟨g,o+2,none⟩ _ _ h,Below.heap_setCell _ ⟨g,o+1,none⟩ _ _ h,Below.heap_setCell _ ⟨g,o,none⟩ _ _ h]
theorem kset(w:World)(g j:Nat)(v:Value):Kept2 w (w.setCell ⟨g,j,none⟩ v) (·≠g):=by
 refine⟨rfl,rfl,rfl,by simp,fun i _ hne=>?_⟩
 exact Below.heap_setCell _ _ _ _ hne
theorem put8_kept(w:World)(g o:Nat)(x:Fnd):Kept2 w (put8 w g o x) (·≠g):=
 (((((((kset _ _ _ _).trans (kset _ _ _ _)).trans (kset _ _ _ _)).trans (kset _ _ _ _)).trans (kset _ _ _ _)).trans (kset _ _ _ _)).trans (kset _ _ _ _)).trans (kset _ _ _ _)
theorem SRow.put{w:World}{g:Nat}{D:List Fnd}(h:SRow w g D){i:Nat}(hi:i<D.length)(x:Fnd):SRow (put8 w g (i*8) x) g (D.set i x):=by
 obtain⟨cs,h1,h2⟩:=h;have hd:D[i]?=some D[i]:=List.getElem?_eq_getElem hi;have hsz:∀j,j<8→i*8+j<cs.size:=fun j hj=>by
  have:∃v,(fdCells D[i])[j]?=some v:=by
   have hl:j<(fdCells D[i]).length:=hj;exact⟨_,List.getElem?_eq_getElem hl⟩
  obtain⟨v,hv⟩:=this;exact(Array.getElem?_eq_some_iff.1 (h2 i _ hd j v hv)).1
 have s7:=hsz 7 (by omega)
 refine⟨_,heap_setCell_same _ _ _ _ _ _ (heap_setCell_same _ _ _ _ _ _ (heap_setCell_same _ _ _ _ _ _ (heap_setCell_same _ _ _ _ _ _ (heap_setCell_same _ _ _ _ _ _ (heap_setCell_same _ _ _ _ _ _ (heap_setCell_same _ _ _ _ _ _ (heap_setCell_same _ _ _ _ _ _ h1))))))),?_⟩;intro i' y hy j v hv;have hj:j<8:=(List.getElem?_eq_some_iff.1 hv).1;by_cases e:i'=i
 ·subst e;rw[List.getElem?_set_self hi]at hy;cases hy;simp only[Array.getElem?_setIfInBounds,Array.size_setIfInBounds]
  match j,hj with
  |0,_=>rw[if_neg (by omega),if_neg (by omega),if_neg (by omega),if_neg (by omega),if_neg (by omega),if_neg (by omega),if_neg (by omega),if_pos (by omega),if_pos (by omega)];exact hv
  |1,_=>rw[if_neg (by omega),if_neg (by omega),if_neg (by omega),if_neg (by omega),if_neg (by omega),if_neg (by omega),if_pos (by omega),if_pos (by omega)];exact hv
  |2,_=>rw[if_neg (by omega),if_neg (by omega),if_neg (by omega),if_neg (by omega),if_neg (by omega),if_pos (by omega),if_pos (by omega)];exact hv
  |3,_=>rw[if_neg (by omega),if_neg (by omega),if_neg (by omega),if_neg (by omega),if_pos (by omega),if_pos (by omega)];exact hv
  |4,_=>rw[if_neg (by omega),if_neg (by omega),if_neg (by omega),if_pos (by omega),if_pos (by omega)];exact hv
  |5,_=>rw[if_neg (by omega),if_neg (by omega),if_pos (by omega),if_pos (by omega)];exact hv
  |6,_=>rw[if_neg (by omega),if_pos (by omega),if_pos (by omega)];exact hv
  |7,_=>rw[if_pos (by omega),if_pos (by omega)];exact hv
 ·rw[List.getElem?_set_ne (fun q=>e q.symm)]at hy
  simp only[Array.getElem?_setIfInBounds,Array.size_setIfInBounds];rw[if_neg (by omega),if_neg (by omega),if_neg (by omega),if_neg (by omega),if_neg (by omega),if_neg (by omega),if_neg (by omega),if_neg (by omega)]
  exact h2 i' y hy j v hv
end Go.Proofs.YtpdoponghlpkcaaDoor
namespace Go.Proofs.YtpdoponghlpkcaaDoor
open Go.RowKit
open Words Sums
def Scn(w wr:World)(v out:Value)(l:List Fnd):Prop:=Below w.heap.size w wr∧wr.heap[w.heap.size]?=some (.cells #[v] 37 (0,0))∧wr.ownsRow (w.heap.size+1) 74 8 out l.length (fcells l)
theorem Scn.below{w wr w':World}{v out:Value}{l:List Fnd}(h:Scn w wr v out l)(hb:Below wr.heap.size wr w'):Scn w w' v out l:=
 ⟨h.1.trans (hb.mono h.1.size),(hb.block _ (Array.getElem?_eq_some_iff.1 h.2.1).1).trans h.2.1,own_below h.2.2 hb⟩
end Go.Proofs.YtpdoponghlpkcaaDoor
