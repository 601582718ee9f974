/-
  PAt; SRow; IScan; Swap; Rotate; Cmp
-/
import Derived.Test.YtiicghepilbgfaaGreatDoorPk14
import Derived.Test.YtiicghepilbgfaaGreatDoorICatch
import Derived.Test.YtiicghepilbgfaaGreatDoorSRPage
import Derived.Test.YtiicghepilbgfaaGreatDoorPk7
import Derived.Test.YtiicghepilbgfaaGreatDoorPk13
import Derived.Test.YtiicghepilbgfaaGreatDoorPk0
import Derived.Laws.Rows
import Derived.Test.YtiicghepilbgfaaGreatDoorPk9
import Derived.Test.YtiicghepilbgfaaGreatDoorShelf
set_option maxHeartbeats 1000000
set_option maxRecDepth 100000
namespace Go.Proofs.YtiicghepilbgfaaGreatDoor
open Go.RowKit
open Words Sums
theorem readF_size{rs:List Rw}(h:TxB rs)(b k:Int):(readF (rs.map tellOf) b k).1.size≤1048576:=by
 unfold readF;split
 ·decide
 ·rename_i r hr
  split
  ·decide
  ·rename_i t ht
   split
   ·obtain⟨s,hs,e⟩:=List.mem_map.1 (List.mem_of_getElem? hr);subst e;exact h s hs t (List.mem_of_getElem? ht)
   ·decide
theorem pageAt_rd(v:Value)(rs:List Rw)(b k:Int)(w:World)(hl:rs.length≤1048576)(hll:∀r∈rs,r.2.2.2.length≤1048576)(htx:TxB rs)(ha:FlashRd w v rs)(ht:HalvIn w):
 Calls Tryz.prog 110 #[.agg #[v],.int .i64 b,.int .i64 k] w fun e w'=>e=.returned (pgRes (leafPg (rs.map tellOf) b k))∧Below w.heap.size w w':=by
 have b0:Below w.heap.size w ((w.alloc (.cells #[v] 49)).alloc (.cells #[.int .i64 0,.int .i64 0,.int .i64 0,.int .i64 0,.int .i64 0,.string ⟨#[]⟩] 102)):=((Below.refl _ _).alloc (Nat.le_refl _) _).alloc (by simp) _
 have C:=hide (iread_rd v rs b k ((w.alloc (.cells #[v] 49)).alloc (.cells #[.int .i64 0,.int .i64 0,.int .i64 0,.int .i64 0,.int .i64 0,.string ⟨#[]⟩] 102)) hl hll htx (ha.below b0));have hsz:=readF_size htx b k;obtain⟨T,ok,hT⟩:∃T ok,readF (rs.map tellOf) b k=(T,ok):=⟨_,_,rfl⟩;rw[hT]at C hsz;simp only at C hsz;have h0:=heap_alloc_new (w.alloc (.cells #[v] 49)) (.cells #[.int .i64 0,.int .i64 0,.int .i64 0,.int .i64 0,.int .i64 0,.string ⟨#[]⟩] 102);rw[show(w.alloc (.cells #[v] 49)).heap.size=w.heap.size+1 by simp]at h0
 have H0:=hide h0;have HT:=hide ht;have B0:=hide b0;have hz:((w.alloc (.cells #[v] 49)).alloc (.cells #[.int .i64 0,.int .i64 0,.int .i64 0,.int .i64 0,.int .i64 0,.string ⟨#[]⟩] 102)).heap.size=w.heap.size+2:=by simp
 have HZ:=hide hz;cases ok with
 |false=>
  have EV:Hid (pgRes (leafPg (rs.map tellOf) b k)=.tuple #[.agg #[.int .i64 0,.int .i64 0,.int .i64 0,.int .i64 0,.int .i64 0,.string ⟨#[]⟩],.bool false]):=by show _=_;unfold leafPg;rw[hT];rfl
  clear ha ht b0 h0 hT hz;go_enter Tryz.func110,Tryz.ntmps110;go_wp2_with fail;refine C.out.mono ?_;rintro e w1 ⟨rfl,b1⟩;have Z:=(b1.block (w.heap.size+1) (by rw[HZ.out];omega)).trans H0.out
  have B1:=hide (B0.out.trans (b1.mono B0.out.size));clear b1 C H0 HZ B0;have c0:=cell_of_row _ _ 0 _ _ _ Z;have f0:=frozen_of_row _ _ 0 _ _ Z;have c1:=cell_of_row _ _ 1 _ _ _ Z;have f1:=frozen_of_row _ _ 1 _ _ Z;have c2:=cell_of_row _ _ 2 _ _ _ Z;have f2:=frozen_of_row _ _ 2 _ _ Z;have c3:=cell_of_row _ _ 3 _ _ _ Z;have f3:=frozen_of_row _ _ 3 _ _ Z;have c4:=cell_of_row _ _ 4 _ _ _ Z;have f4:=frozen_of_row _ _ 4 _ _ Z;have c5:=cell_of_row _ _ 5 _ _ _ Z;have f5:=frozen_of_row _ _ 5 _ _ Z;have Z6:=six_set (a:=.int .i64 0) (b:=.int .i64 0) (c:=.int .i64 0) (d:=.int .i64 0) (e:=.int .i64 0) (f:=.string ⟨#[]⟩) Z;have B6:=hide (six_below (a:=.int .i64 0) (b:=.int .i64 0) (c:=.int .i64 0) (d:=.int .i64 0) (e:=.int .i64 0) (f:=.string ⟨#[]⟩) B1.out (show w.heap.size≤w.heap.size+1 by omega))
  have r0:=cell_of_row _ _ 0 _ _ _ Z6;have r1:=cell_of_row _ _ 1 _ _ _ Z6;have r2:=cell_of_row _ _ 2 _ _ _ Z6;have r3:=cell_of_row _ _ 3 _ _ _ Z6;have r4:=cell_of_row _ _ 4 _ _ _ Z6;have r5:=cell_of_row _ _ 5 _ _ _ Z6;clear Z Z6;go_wp2;exact bodyPost_ret (v:=.tuple #[.agg #[.int .i64 0,.int .i64 0,.int .i64 0,.int .i64 0,.int .i64 0,.string ⟨#[]⟩],.bool false]) (by simp[results,Tryz.results110,go_sem,r0,r1,r2,r3,r4,r5]) rfl ⟨by rw[EV.out],B6.out⟩
 |true=>
  obtain⟨p,ok2,hp⟩:=pgRes_tuple (readPg T);have EV0:pgRes (leafPg (rs.map tellOf) b k)=.tuple #[pgVal p,.bool ok2]:=by unfold leafPg;rw[hT];exact hp
  have C2:=hide (fun W h=>ireadPage T W (by unfold maxLen;omega) h)
  rw[hp]at C2;obtain⟨k1,s,x,q,c,u⟩:=p;unfold pgVal at C2 EV0;simp only at C2 EV0;have EV:=hide EV0;clear ha ht b0 h0 hT hz hp EV0;go_enter Tryz.func110,Tryz.ntmps110;go_wp2_with fail;refine C.out.mono ?_;rintro e w1 ⟨rfl,b1⟩;have Z1:=hide ((b1.block (w.heap.size+1) (by rw[HZ.out];omega)).trans H0.out)
  have l1:w.heap.size+1<w1.heap.size:=Nat.lt_of_lt_of_le (by rw[HZ.out];omega) b1.size
  have B1:=hide (B0.out.trans (b1.mono B0.out.size));clear b1 C H0 HZ B0;go_wp2_with fail;refine(C2.out _ (HT.out.on B1.out)).mono ?_;rintro e w2 ⟨rfl,b2⟩;have Z:=(b2.block (w.heap.size+1) l1).trans Z1.out;have B2:=hide (B1.out.trans (b2.mono B1.out.size));clear b2 Z1 B1 C2;have c0:=cell_of_row _ _ 0 _ _ _ Z;have f0:=frozen_of_row _ _ 0 _ _ Z;have c1:=cell_of_row _ _ 1 _ _ _ Z;have f1:=frozen_of_row _ _ 1 _ _ Z;have c2:=cell_of_row _ _ 2 _ _ _ Z;have f2:=frozen_of_row _ _ 2 _ _ Z;have c3:=cell_of_row _ _ 3 _ _ _ Z;have f3:=frozen_of_row _ _ 3 _ _ Z;have c4:=cell_of_row _ _ 4 _ _ _ Z;have f4:=frozen_of_row _ _ 4 _ _ Z;have c5:=cell_of_row _ _ 5 _ _ _ Z;have f5:=frozen_of_row _ _ 5 _ _ Z;have Z6:=six_set (a:=.int .i64 k1) (b:=.int .i64 s) (c:=.int .i64 x) (d:=.int .i64 q) (e:=.int .i64 c) (f:=.string u) Z;have B6:=hide (six_below (a:=.int .i64 k1) (b:=.int .i64 s) (c:=.int .i64 x) (d:=.int .i64 q) (e:=.int .i64 c) (f:=.string u) B2.out (show w.heap.size≤w.heap.size+1 by omega))
  have r0:=cell_of_row _ _ 0 _ _ _ Z6;have r1:=cell_of_row _ _ 1 _ _ _ Z6;have r2:=cell_of_row _ _ 2 _ _ _ Z6;have r3:=cell_of_row _ _ 3 _ _ _ Z6;have r4:=cell_of_row _ _ 4 _ _ _ Z6;have r5:=cell_of_row _ _ 5 _ _ _ Z6;clear Z Z6;go_wp2;exact bodyPost_ret (v:=.tuple #[.agg #[.int .i64 k1,.int .i64 s,.int .i64 x,.int .i64 q,.int .i64 c,.string u],.bool ok2]) (by simp[results,Tryz.results110,go_sem,r0,r1,r2,r3,r4,r5]) rfl ⟨by rw[EV.out],B6.out⟩
end Go.Proofs.YtiicghepilbgfaaGreatDoor
namespace Go.Proofs.YtiicghepilbgfaaGreatDoor
open Go.RowKit
open Words
def SRow(w:World)(g:Nat)(D:List Fnd):Prop:=∃cs:Array Value,w.heap[g]?=some (.cells cs 106 (0,0))∧∀i x,D[i]?=some x→∀j v,(fdCells x)[j]?=some v→cs[i*8+j]?=some v
def Sorted(w w':World)(g:Nat)(D:List Fnd):Prop:=Kept2 w w' (·≠g)∧SRow w' g D
theorem SRow.lt{w:World}{g:Nat}{D:List Fnd}(h:SRow w g D):g<w.heap.size:=by
 obtain⟨cs,h1,-⟩:=h;exact(Array.getElem?_eq_some_iff.1 h1).1
theorem SRow.frozen{w:World}{g:Nat}{D:List Fnd}(h:SRow w g D)(o:Nat):w.frozen? ⟨g,o,none⟩=false:=by
 obtain⟨cs,h1,-⟩:=h;exact frozen_of_row _ _ o _ _ h1
theorem SRow.cell{w:World}{g:Nat}{D:List Fnd}(h:SRow w g D){i:Nat}{x:Fnd}(hi:D[i]?=some x)(j:Nat){v:Value}(hj:(fdCells x)[j]?=some v):w.cell? ⟨g,i*8+j,none⟩=some v:=by
 obtain⟨cs,h1,h2⟩:=h;rw[cell_of_row _ _ (i*8+j) _ _ _ h1];exact h2 i x hi j v hj
theorem SRow.below{w w':World}{g:Nat}{D:List Fnd}(h:SRow w g D)(hb:Below w.heap.size w w'):SRow w' g D:=by
 have hl:=h.lt;obtain⟨cs,h1,h2⟩:=h;exact⟨cs,(hb.block _ hl).trans h1,h2⟩
def put8(w:World)(g o:Nat)(x:Fnd):World:=
 (((((((w.setCell ⟨g,o,none⟩ (.int .i64 x.block)).setCell ⟨g,o+1,none⟩ (.int .i64 x.leaf)).setCell ⟨g,o+2,none⟩ (.int .i64 x.page.kind)).setCell ⟨g,o+3,none⟩ (.int .i64 x.page.seq)).setCell ⟨g,o+4,none⟩ (.int .i64 x.page.tx)).setCell ⟨g,o+5,none⟩ (.int .i64 x.page.part)).setCell ⟨g,o+6,none⟩ (.int .i64 x.page.count)).setCell ⟨g,o+7,none⟩ (.string x.page.text)
theorem put8_heap(w:World)(g o:Nat)(x:Fnd)(i:Nat)(h:i≠g):(put8 w g o x).heap[i]?=w.heap[i]?:=by
 unfold put8;rw[Below.heap_setCell _ ⟨g,o+7,none⟩ _ _ h,Below.heap_setCell _ ⟨g,o+6,none⟩ _ _ h,Below.heap_setCell _ ⟨g,o+5,none⟩ _ _ h,Below.heap_setCell _ ⟨g,o+4,none⟩ _ _ h,Below.heap_setCell _ ⟨g,o+3,none⟩ _ _ h,Below.heap_setCell _ ⟨g,o+2,none⟩ _ _ h,Below.heap_setCell _ ⟨g,o+1,none⟩ _ _ h,Below.heap_setCell _ ⟨g,o,none⟩ _ _ h]
theorem kset(w:World)(g j:Nat)(v:Value):Kept2 w (w.setCell ⟨g,j,none⟩ v) (·≠g):=by
 refine⟨rfl,rfl,rfl,by simp,fun i _ hne=>?_⟩
 exact Below.heap_setCell _ _ _ _ hne
theorem put8_kept(w:World)(g o:Nat)(x:Fnd):Kept2 w (put8 w g o x) (·≠g):=
 (((((((kset _ _ _ _).trans (kset _ _ _ _)).trans (kset _ _ _ _)).trans (kset _ _ _ _)).trans (kset _ _ _ _)).trans (kset _ _ _ _)).trans (kset _ _ _ _)).trans (kset _ _ _ _)
theorem SRow.put{w:World}{g:Nat}{D:List Fnd}(h:SRow w g D){i:Nat}(hi:i<D.length)(x:Fnd):SRow (put8 w g (i*8) x) g (D.set i x):=by
 obtain⟨cs,h1,h2⟩:=h;have hd:D[i]?=some D[i]:=List.getElem?_eq_getElem hi;have hsz:∀j,j<8→i*8+j<cs.size:=fun j hj=>by
  have:∃v,(fdCells D[i])[j]?=some v:=by
   have hl:j<(fdCells D[i]).length:=hj;exact⟨_,List.getElem?_eq_getElem hl⟩
  obtain⟨v,hv⟩:=this;exact(Array.getElem?_eq_some_iff.1 (h2 i _ hd j v hv)).1
 have s7:=hsz 7 (by omega)
 refine⟨_,heap_setCell_same _ _ _ _ _ _ (heap_setCell_same _ _ _ _ _ _ (heap_setCell_same _ _ _ _ _ _ (heap_setCell_same _ _ _ _ _ _ (heap_setCell_same _ _ _ _ _ _ (heap_setCell_same _ _ _ _ _ _ (heap_setCell_same _ _ _ _ _ _ (heap_setCell_same _ _ _ _ _ _ h1))))))),?_⟩;intro i' y hy j v hv;have hj:j<8:=(List.getElem?_eq_some_iff.1 hv).1;by_cases e:i'=i
 ·subst e;rw[List.getElem?_set_self hi]at hy;cases hy;simp only[Array.getElem?_setIfInBounds,Array.size_setIfInBounds]
  match j,hj with
  |0,_=>rw[if_neg (by omega),if_neg (by omega),if_neg (by omega),if_neg (by omega),if_neg (by omega),if_neg (by omega),if_neg (by omega),if_pos (by omega),if_pos (by omega)];exact hv
  |1,_=>rw[if_neg (by omega),if_neg (by omega),if_neg (by omega),if_neg (by omega),if_neg (by omega),if_neg (by omega),if_pos (by omega),if_pos (by omega)];exact hv
  |2,_=>rw[if_neg (by omega),if_neg (by omega),if_neg (by omega),if_neg (by omega),if_neg (by omega),if_pos (by omega),if_pos (by omega)];exact hv
  |3,_=>rw[if_neg (by omega),if_neg (by omega),if_neg (by omega),if_neg (by omega),if_pos (by omega),if_pos (by omega)];exact hv
  |4,_=>rw[if_neg (by omega),if_neg (by omega),if_neg (by omega),if_pos (by omega),if_pos (by omega)];exact hv
  |5,_=>rw[if_neg (by omega),if_neg (by omega),if_pos (by omega),if_pos (by omega)];exact hv
  |6,_=>rw[if_neg (by omega),if_pos (by omega),if_pos (by omega)];exact hv
  |7,_=>rw[if_pos (by omega),if_pos (by omega)];exact hv
 ·rw[List.getElem?_set_ne (fun q=>e q.symm)]at hy
  simp only[Array.getElem?_setIfInBounds,Array.size_setIfInBounds];rw[if_neg (by omega),if_neg (by omega),if_neg (by omega),if_neg (by omega),if_neg (by omega),if_neg (by omega),if_neg (by omega),if_neg (by omega)]
  exact h2 i' y hy j v hv
end Go.Proofs.YtiicghepilbgfaaGreatDoor
namespace Go.Proofs.YtiicghepilbgfaaGreatDoor
open Go.RowKit
open Words Sums
def Scn(w wr:World)(v out:Value)(l:List Fnd):Prop:=Below w.heap.size w wr∧wr.heap[w.heap.size]?=some (.cells #[v] 49 (0,0))∧wr.ownsRow (w.heap.size+1) 106 8 out l.length (fcells l)
theorem Scn.below{w wr w':World}{v out:Value}{l:List Fnd}(h:Scn w wr v out l)(hb:Below wr.heap.size wr w'):Scn w w' v out l:=
 ⟨h.1.trans (hb.mono h.1.size),(hb.block _ (Array.getElem?_eq_some_iff.1 h.2.1).1).trans h.2.1,own_below h.2.2 hb⟩
end Go.Proofs.YtiicghepilbgfaaGreatDoor
namespace Go.Proofs.YtiicghepilbgfaaGreatDoor
open Go.RowKit
open Words
theorem put8_far(w:World)(g o o':Nat)(x:Fnd)(h:o'<o∨o+8≤o'):(put8 w g o x).cell? ⟨g,o',none⟩=w.cell? ⟨g,o',none⟩:=by
 have far:∀(W:World) (i:Nat) (v:Value),i≠o'→(W.setCell ⟨g,i,none⟩ v).cell? ⟨g,o',none⟩=W.cell? ⟨g,o',none⟩:=fun W i v hne=>World.cell?_setCell_other _ _ _ _ (fun e=>hne (by injection e))
 unfold put8;rw[far _ _ _ (by omega),far _ _ _ (by omega),far _ _ _ (by omega),far _ _ _ (by omega),far _ _ _ (by omega),far _ _ _ (by omega),far _ _ _ (by omega),far _ _ _ (by omega)]
theorem set_two(U V W:List Fnd)(x z:Fnd):((U++x::(V++z::W)).set U.length z).set (U.length+1+V.length) x=U++z::(V++x::W):=by
 rw[List.set_append_right _ _ (Nat.le_refl _)];simp only[Nat.sub_self,List.set_cons_zero];rw[List.set_append_right _ _ (by omega)]
 have:U.length+1+V.length-U.length=V.length+1:=by omega
 rw[this,List.set_cons_succ,List.set_append_right _ _ (Nat.le_refl _)];simp
theorem Sorted.drew{w w':World}{g:Nat}{D:List Fnd}(h:Sorted w w' g D):Sorted w w'.drew g D:=⟨h.1.trans (Kept2.below (Below.refl _ _).drew),h.2.below (Below.refl _ _).drew⟩
theorem Sorted.below{w w' w'':World}{g:Nat}{D:List Fnd}(h:Sorted w w' g D)(hb:Below w'.heap.size w' w''):Sorted w w'' g D:=⟨h.1.trans (Kept2.below hb),h.2.below hb⟩
theorem Sorted.trans{w w' w'':World}{g:Nat}{D E:List Fnd}(h:Sorted w w' g D)(k:Sorted w' w'' g E):Sorted w w'' g E:=⟨h.1.trans k.1,k.2⟩
theorem SRow.swap{w:World}{g p q:Nat}{D:List Fnd}{x z:Fnd}(h:SRow w g D)(hp:D[p]?=some x)(hq:D[q]?=some z):
 SRow (put8 (put8 w g (p*8) z) g (q*8) x) g ((D.set p z).set q x)∧Kept2 w (put8 (put8 w g (p*8) z) g (q*8) x) (·≠g):=by
 have l1:=(List.getElem?_eq_some_iff.1 hp).1;have l2:=(List.getElem?_eq_some_iff.1 hq).1;exact⟨(h.put l1 z).put (by rw[List.length_set];exact l2) x,(put8_kept _ _ _ _).trans (put8_kept _ _ _ _)⟩
theorem swapRange(g N cap a b n:Nat)(T:List Fnd)(A X Y Z B:List Fnd)(c:Value)(w:World)(hN:N≤4611686018427387903)(hl:(A++X++Y++Z++B).length=N)(hA:A.length=a)(hX:X.length=n)(hZ:Z.length=n)(hY:A.length+X.length+Y.length=b)(hT:A++Z++Y++X++B=T)(hr:SRow w g (A++X++Y++Z++B)):
 Calls Tryz.prog 192 #[.slice (some ⟨g,0,none⟩) N cap,.int .i64 a,.int .i64 b,.int .i64 n,c] w fun e w'=>e=.returned (.tuple #[])∧Sorted w w' g T:=by
 have HI:Hid (∃(U X2 V Z2 W:List Fnd),A++X++Y++Z++B=U++(X2++(V++(Z2++W)))∧U.length=a+0∧X2.length+0=n∧Z2.length+0=n∧U.length+X2.length+V.length=b+0∧U++(Z2++(V++(X2++W)))=T):=⟨A,X,Y,Z,B,by simp,by omega,by omega,by omega,by omega,by rw[←hT];simp⟩
 have HR:=hide hr;have HL:=hide hl;have hbn:b+n≤N:=by rw[←hl];simp;omega
 have han:a+n≤b:=by omega
 clear hl hA hX hZ hY hT hr;generalize A++X++Y++Z++B=D at HI HR HL;go_enter Tryz.func192,Tryz.ntmps192;go_wp2;go_loopw [10] (fun iv wr=>∃(i:Nat) (E:List Fnd),iv=.int .i64 i∧i≤n∧Hid (E.length=N)∧Hid (∃(U X2 V Z2 W:List Fnd),E=U++(X2++(V++(Z2++W)))∧U.length=a+i∧X2.length+i=n∧Z2.length+i=n∧U.length+X2.length+V.length=b+i∧U++(Z2++(V++(X2++W)))=T)∧Hid (Sorted w wr g E)) (fun iv _=>n-(intOf iv).toNat)
 case atStart=>exact⟨0,D,rfl,Nat.zero_le _,HL,by simpa using HI,⟨Kept2.refl _ _,HR.out⟩⟩
 case round=>
  obtain⟨i,E,rfl,hi,HE,HJ,HS⟩:=hrel;by_cases hlt:(i:Int)<n
  ·obtain⟨U,X2,V,Z2,W,e0,e1,e2,e3,e4,e5⟩:=HJ.out
   match X2,Z2,e0,e2,e3,e4,e5 with
   | [],_,_,h2,_,_,_=>simp at h2;omega
   |_::_,[],_,_,h3,_,_=>simp at h3;omega
   |x::X3,z::Z3,e0,e2,e3,e4,e5=>
    simp only[List.length_cons]at e2 e3 e4;obtain⟨p,ep⟩:∃p,p=U.length:=⟨_,rfl⟩;obtain⟨q,eq⟩:∃q,q=U.length+1+(X3++V).length:=⟨_,rfl⟩;have eE:E=U++x::((X3++V)++z::(Z3++W)):=by rw[e0];simp
    have hp:E[p]?=some x:=by rw[eE,ep];simp
    have hq:E[q]?=some z:=by
     rw[eE,eq,List.getElem?_append_right (by omega)]
     have:U.length+1+(X3++V).length-U.length=(X3++V).length+1:=by omega
     rw[this,List.getElem?_cons_succ];simp
    have hs2:(E.set p z).set q x=(U++[z])++(X3++((V++[x])++(Z3++W))):=by
     rw[eE,ep,eq,set_two];simp
    have hpI:(a:Int)+i=p:=by omega
    have hqI:(b:Int)+i=q:=by simp only[List.length_append]at eq;omega
    have hpw:IntKind.i64.wrap ((a:Int)+i)=p:=by rw[IntKind.wrap_i64];omega
    have hqw:IntKind.i64.wrap ((b:Int)+i)=q:=by rw[IntKind.wrap_i64];omega
    have p0:(0:Int)≤p:=by omega
    have q0:(0:Int)≤q:=by omega
    have pN:(p:Int)<N:=by have:=(List.getElem?_eq_some_iff.1 hp).1;have:=HE.out;omega
    have qN:(q:Int)<N:=by have:=(List.getElem?_eq_some_iff.1 hq).1;have:=HE.out;omega
    have hpq:p+1≤q:=by omega
    obtain⟨hs3,hk3⟩:=HS.out.2.swap hp hq;rw[hs2]at hs3;have NX:Hid (Sorted w (put8 (put8 wr g (p*8) z) g (q*8) x) g ((U++[z])++(X3++((V++[x])++(Z3++W))))):=⟨HS.out.1.trans hk3,hs3⟩;have LX:Hid (((U++[z])++(X3++((V++[x])++(Z3++W)))).length=N):=by
     show _=_;rw[←hs2,List.length_set,List.length_set];exact HE.out
    have TX:Hid ((U++[z])++(Z3++((V++[x])++(X3++W)))=T):=by show _=_;rw[←e5];simp
    have QX:Hid ((U++[z]).length=a+(i+1)∧X3.length+(i+1)=n∧Z3.length+(i+1)=n∧(U++[z]).length+X3.length+(V++[x]).length=b+(i+1)):=by
     have hU:(U++[z]).length=U.length+1:=by simp
     have hV:(V++[x]).length=V.length+1:=by simp
     exact⟨by omega,by omega,by omega,by omega⟩
    have x0:wr.cell? ⟨g,p*8,none⟩=some (.int .i64 x.block):=HS.out.2.cell hp 0 rfl;have z0:wr.cell? ⟨g,q*8,none⟩=some (.int .i64 z.block):=HS.out.2.cell hq 0 rfl;have k0:=HS.out.2.frozen (p*8);have l0:=HS.out.2.frozen (q*8);have x1:wr.cell? ⟨g,p*8+1,none⟩=some (.int .i64 x.leaf):=HS.out.2.cell hp 1 rfl;have z1:wr.cell? ⟨g,q*8+1,none⟩=some (.int .i64 z.leaf):=HS.out.2.cell hq 1 rfl;have k1:=HS.out.2.frozen (p*8+1);have l1:=HS.out.2.frozen (q*8+1);have x2:wr.cell? ⟨g,p*8+2,none⟩=some (.int .i64 x.page.kind):=HS.out.2.cell hp 2 rfl;have z2:wr.cell? ⟨g,q*8+2,none⟩=some (.int .i64 z.page.kind):=HS.out.2.cell hq 2 rfl;have k2:=HS.out.2.frozen (p*8+2);have l2:=HS.out.2.frozen (q*8+2);have x3:wr.cell? ⟨g,p*8+3,none⟩=some (.int .i64 x.page.seq):=HS.out.2.cell hp 3 rfl;have z3:wr.cell? ⟨g,q*8+3,none⟩=some (.int .i64 z.page.seq):=HS.out.2.cell hq 3 rfl;have k3:=HS.out.2.frozen (p*8+3);have l3:=HS.out.2.frozen (q*8+3);have x4:wr.cell? ⟨g,p*8+4,none⟩=some (.int .i64 x.page.tx):=HS.out.2.cell hp 4 rfl;have z4:wr.cell? ⟨g,q*8+4,none⟩=some (.int .i64 z.page.tx):=HS.out.2.cell hq 4 rfl;have k4:=HS.out.2.frozen (p*8+4);have l4:=HS.out.2.frozen (q*8+4);have x5:wr.cell? ⟨g,p*8+5,none⟩=some (.int .i64 x.page.part):=HS.out.2.cell hp 5 rfl;have z5:wr.cell? ⟨g,q*8+5,none⟩=some (.int .i64 z.page.part):=HS.out.2.cell hq 5 rfl;have k5:=HS.out.2.frozen (p*8+5);have l5:=HS.out.2.frozen (q*8+5);have x6:wr.cell? ⟨g,p*8+6,none⟩=some (.int .i64 x.page.count):=HS.out.2.cell hp 6 rfl;have z6:wr.cell? ⟨g,q*8+6,none⟩=some (.int .i64 z.page.count):=HS.out.2.cell hq 6 rfl;have k6:=HS.out.2.frozen (p*8+6);have l6:=HS.out.2.frozen (q*8+6);have x7:wr.cell? ⟨g,p*8+7,none⟩=some (.string x.page.text):=HS.out.2.cell hp 7 rfl;have z7:wr.cell? ⟨g,q*8+7,none⟩=some (.string z.page.text):=HS.out.2.cell hq 7 rfl;have k7:=HS.out.2.frozen (p*8+7);have l7:=HS.out.2.frozen (q*8+7);have y0:=(put8_far wr g (p*8) (q*8) z (by omega)).trans z0
    have y1:=(put8_far wr g (p*8) (q*8+1) z (by omega)).trans z1
    have y2:=(put8_far wr g (p*8) (q*8+2) z (by omega)).trans z2
    have y3:=(put8_far wr g (p*8) (q*8+3) z (by omega)).trans z3
    have y4:=(put8_far wr g (p*8) (q*8+4) z (by omega)).trans z4
    have y5:=(put8_far wr g (p*8) (q*8+5) z (by omega)).trans z5
    have y6:=(put8_far wr g (p*8) (q*8+6) z (by omega)).trans z6
    have y7:=(put8_far wr g (p*8) (q*8+7) z (by omega)).trans z7
    unfold put8 at y0 y1 y2 y3 y4 y5 y6 y7;clear hs3 hk3 hs2 hp hq eE e0 e1 e2 e3 e4 e5 ep eq hpq;go_wp2;go_region;have ND:=hide NX.out.drew;unfold put8 at ND;go_wp2;go_roundw
    case rel=>exact⟨i+1,_,by go_num,by omega,LX,⟨_,_,_,_,_,rfl,QX.out.1,QX.out.2.1,QX.out.2.2.1,QX.out.2.2.2,TX.out⟩,ND⟩
    case measure=>simp[intOf];omega
  ·obtain⟨U,X2,V,Z2,W,e0,e1,e2,e3,e4,e5⟩:=HJ.out;have x0:X2=[]:=List.eq_nil_of_length_eq_zero (by omega)
   have z0:Z2=[]:=List.eq_nil_of_length_eq_zero (by omega)
   subst x0 z0;have eT:E=T:=by rw[e0,←e5]
   subst eT;clear e0 e1 e2 e3 e4 e5 HJ;go_wp2
   first|go_end0|refine bodyPost_ret (results_none rfl _ _ _) rfl ?_
   exact⟨rfl,HS.out⟩
def RotAt(E T:List Fnd)(m i j:Nat):Prop:=∃A L R B:List Fnd,E=A++(L++(R++B))∧L.length=i∧R.length=j∧A.length+i=m∧A++(R++(L++B))=T
theorem rotate(g N cap a m b:Nat)(T D:List Fnd)(c:Value)(w:World)(hN:N≤1000000000000000)(hl:D.length=N)(ham:a<m)(hmb:m<b)(hb:b≤N)(h0:RotAt D T m (m-a) (b-m))(hr:SRow w g D):
 Calls Tryz.prog 166 #[.slice (some ⟨g,0,none⟩) N cap,.int .i64 a,.int .i64 m,.int .i64 b,c] w fun e w'=>e=.returned (.tuple #[])∧Sorted w w' g T:=by
 have HR:=hide hr;have HL:=hide hl;have H0:=hide h0;obtain⟨i0,ei⟩:∃i0,m-a=i0:=⟨_,rfl⟩;obtain⟨j0,ej⟩:∃j0,b-m=j0:=⟨_,rfl⟩;rw[ei,ej]at H0;have ei':(m:Int)-a=i0:=by omega
 have ej':(b:Int)-m=j0:=by omega
 have hij0:i0+j0≤N∧1≤i0∧1≤j0∧m+j0≤N∧i0≤m:=by omega
 obtain⟨q1,q2,q3,q4,q5⟩:=hij0;have HA:=hide ham;clear hl h0 hr ei ej hmb hb ham;go_enter Tryz.func166,Tryz.ntmps166;go_wp2;clear ei' ej';go_loopw [10,11] (fun iv jv wr=>∃(i j:Nat) (E:List Fnd),iv=.int .i64 i∧jv=.int .i64 j∧1≤i∧1≤j∧i≤m∧m+j≤N∧Hid (E.length=N)∧Hid (RotAt E T m i j)∧Hid (Sorted w wr g E)) (fun iv jv _=>(intOf iv).toNat+(intOf jv).toNat)
 case atStart=>exact⟨i0,j0,D,rfl,rfl,q2,q3,q5,q4,HL,H0,⟨Kept2.refl _ _,HR.out⟩⟩
 case round=>
  obtain⟨i,j,E,rfl,rfl,r1,r2,r3,r4,HE,HJ,HS⟩:=hrel;obtain⟨pa,hpa⟩:∃pa:Nat,(m:Int)-i=pa:=⟨m-i,by omega⟩
  clear q1 q2 q3 q4 q5 H0 HL HR;by_cases hne:i=j
  ·subst hne;have hb1:((i:Int) !=i)=false:=by simp
   have C:Hid (Calls Tryz.prog 192 #[.slice (some ⟨g,0,none⟩) N cap,.int .i64 pa,.int .i64 m,.int .i64 i,c] wr fun e w'=>e=.returned (.tuple #[])∧Sorted wr w' g T):=by
    obtain⟨A,L,R,B,e1,e2,e3,e4,e5⟩:=HJ.out;refine swapRange g N cap pa m i T A L [] R B c wr (by omega) ?_ (by omega) e2 e3 (by simp;omega) (by rw[←e5];simp) ?_
    ·have:=HE.out;rw[e1]at this
     simpa using this
    ·have:=HS.out.2;rw[e1]at this
     simpa using this
   go_wp2_with fail;refine C.out.mono ?_;rintro e w1 ⟨rfl,s1⟩;have S1:=hide (HS.out.trans s1);clear s1 HS C;go_wp2
   first|go_end0|refine bodyPost_ret (results_none rfl _ _ _) rfl ?_
   exact⟨rfl,S1.out⟩
  ·have hb1:((i:Int) !=j)=true:=by rw[bne_iff_ne];omega
   by_cases hgt:(j:Int)<i
   ·have C:Hid (∃E',E'.length=N∧RotAt E' T m (i-j) j∧Calls Tryz.prog 192 #[.slice (some ⟨g,0,none⟩) N cap,.int .i64 pa,.int .i64 m,.int .i64 j,c] wr fun e w'=>e=.returned (.tuple #[])∧Sorted wr w' g E'):=by
     obtain⟨A,L,R,B,e1,e2,e3,e4,e5⟩:=HJ.out;have hL:L=L.take j++L.drop j:=(List.take_append_drop j L).symm;have l1:(L.take j).length=j:=by rw[List.length_take];omega
     have l2:(L.drop j).length=i-j:=by rw[List.length_drop];omega
     generalize L.take j=L1 at hL l1;generalize L.drop j=L2 at hL l2;subst hL;refine⟨A++R++L2++L1++B,?_,⟨A++R,L2,L1,B,by simp,l2,l1,?_,by rw[←e5];simp⟩,swapRange g N cap pa m j _ A L1 L2 R B c wr (by omega) ?_ (by omega) l1 e3 (by omega) rfl ?_⟩
     ·have:=HE.out;rw[e1]at this;simp at this⊢;omega
     ·rw[List.length_append];omega
     ·have:=HE.out;rw[e1]at this
      simpa using this
     ·have:=HS.out.2;rw[e1]at this
      simpa using this
    obtain⟨E',x1,x2,x3⟩:=C.out;have X1:=hide x1;have X2:=hide x2;have X3:=hide x3;clear x1 x2 x3 C HJ HE;go_wp2_with fail;refine X3.out.mono ?_;rintro e w1 ⟨rfl,s1⟩;have S1:=hide (HS.out.trans s1);clear s1 HS X3;go_wp2;go_roundw
    case rel=>exact⟨i-j,j,E',by go_num,rfl,by omega,r2,by omega,r4,X1,X2,S1⟩
    case measure=>simp[intOf];omega
   ·obtain⟨q,hq⟩:∃q:Nat,(m:Int)+j-i=q:=⟨m+j-i,by omega⟩
    have C:Hid (∃E',E'.length=N∧RotAt E' T m i (j-i)∧Calls Tryz.prog 192 #[.slice (some ⟨g,0,none⟩) N cap,.int .i64 pa,.int .i64 q,.int .i64 i,c] wr fun e w'=>e=.returned (.tuple #[])∧Sorted wr w' g E'):=by
     obtain⟨A,L,R,B,e1,e2,e3,e4,e5⟩:=HJ.out;have hR:R=R.take (j-i)++R.drop (j-i):=(List.take_append_drop (j-i) R).symm;have l1:(R.take (j-i)).length=j-i:=by rw[List.length_take];omega
     have l2:(R.drop (j-i)).length=i:=by rw[List.length_drop];omega
     generalize R.take (j-i)=R1 at hR l1;generalize R.drop (j-i)=R2 at hR l2;subst hR;refine⟨A++R2++R1++L++B,?_,⟨A,R2,R1,L++B,by simp,l2,l1,e4,by rw[←e5];simp⟩,swapRange g N cap pa q i _ A L R1 R2 B c wr (by omega) ?_ (by omega) e2 l2 (by omega) rfl ?_⟩
     ·have:=HE.out;rw[e1]at this;simp at this⊢;omega
     ·have:=HE.out;rw[e1]at this
      simpa using this
     ·have:=HS.out.2;rw[e1]at this
      simpa using this
    obtain⟨E',x1,x2,x3⟩:=C.out;have X1:=hide x1;have X2:=hide x2;have X3:=hide x3;clear x1 x2 x3 C HJ HE;go_wp2_with fail;refine X3.out.mono ?_;rintro e w1 ⟨rfl,s1⟩;have S1:=hide (HS.out.trans s1);clear s1 HS X3;go_wp2;go_roundw
    case rel=>exact⟨i,j-i,E',rfl,by go_num,r1,by omega,r3,by omega,X1,X2,S1⟩
    case measure=>simp[intOf];omega
def cmpV(x y:Fnd):Int:=Lib.compareInt x.key y.key
theorem cmpV_lt(x y:Fnd):(cmpV x y<0)↔x.key<y.key:=by
 unfold cmpV Lib.compareInt;split<;>(try split)<;>omega
theorem fcmp(x y:Fnd)(w:World):
 Calls Tryz.prog 112 #[fdVal x,fdVal y] w fun e w'=>e=.returned (.int .i64 (cmpV x y))∧Below w.heap.size w w':=by
 have b0:=((Below.refl w.heap.size w).alloc (Nat.le_refl _) (.cells (fdCells x).toArray 106)).alloc (by simp) (.cells (fdCells y).toArray 106)
 have B0:=hide b0;have HC:=hide (fun W=>Tryz.cmp_Compare_int x.key y.key W)
 unfold fdVal;unfold cmpV;unfold Fnd.key at*;unfold fdCells at*;generalize Lib.compareInt x.page.seq y.page.seq=r at HC;clear b0;go_enter Tryz.func112,Tryz.ntmps112;go_wp2_with fail;refine(HC.out _).mono ?_;rintro e w1 ⟨rfl,rfl⟩;go_wp2;go_ret;exact⟨rfl,B0.out⟩
def ordV:Value:=.func (.func 112) #[] #[]
end Go.Proofs.YtiicghepilbgfaaGreatDoor
