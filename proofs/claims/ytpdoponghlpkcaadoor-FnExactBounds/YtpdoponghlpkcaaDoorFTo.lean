/-
  FTo
-/
import Derived.Test.YtpdoponghlpkcaaDoorPk16
import Derived.Test.YtpdoponghlpkcaaDoorPk5
set_option maxHeartbeats 400000
set_option maxRecDepth 100000
namespace Go.Proofs.YtpdoponghlpkcaaDoor
open Go.RowKit
theorem toLeaf_any(x:Int)(t:ByteArray)(w:World):
 Calls Tryd.prog 74 #[.agg #[.int .i64 x,.string t]] w fun e w'=>e=.returned (.agg #[.int .i64 x,.string t])∧Below w.heap.size w w':=by
 go_enter Tryd.func74,Tryd.ntmps74;go_wp2;have h1:=heap_alloc_new (w.alloc (.cells #[.int .i64 x,.string t] 133)) (.cells #[.int .i64 x,.string t] 66);have hs:(w.alloc (.cells #[.int .i64 x,.string t] 133)).heap.size=w.heap.size+1:=by simp
 rw[hs]at h1;have h2:=(Below.heap_alloc ((w.alloc (.cells #[.int .i64 x,.string t] 133)).alloc (.cells #[.int .i64 x,.string t] 66)) (.cells #[.int .i64 x,.string t] 66) (w.heap.size+1) (by simp)).trans h1
 exact bodyPost_ret (results_cell_row rfl _ _ (w.heap.size+1) 66 _ (0,0) _ rfl h2 Tryd.underlying66 rfl infoLeaf2) rfl ⟨rfl,(((Below.refl _ _).alloc (Nat.le_refl _) _).alloc (by simp) _).alloc (by simp;omega) _⟩
theorem lcells_put(ls:List (Int×ByteArray))(R:List Value)(j:Nat)(x:Int)(t:ByteArray)(hj:ls[j]?=some (x,t))(hR:R.length=ls.length*2):
 ((lcells (ls.take j)++R.drop (j*2)).set (j*2) (.int .i64 x)).set (j*2+1) (.string t)=lcells (ls.take (j+1))++R.drop ((j+1)*2):=by
 obtain⟨hj1,hj2⟩:=List.getElem?_eq_some_iff.1 hj;have hm:(lcells (ls.take j)).length=j*2:=by rw[lcells_len,List.length_take];congr 1;omega
 have e2:lcells [(x,t)]=[.int .i64 x,.string t]:=rfl;have e3:ls.take (j+1)=ls.take j++[(x,t)]:=by rw[List.take_succ_eq_append_getElem hj1,hj2]
 rw[e3,lcells_app,e2,List.set_append_right _ _ (by omega),List.set_append_right _ _ (by omega),hm,Nat.sub_self,Nat.add_sub_cancel_left,List.append_assoc]
 rw[List.drop_eq_getElem_cons (show j*2<R.length by omega),List.drop_eq_getElem_cons (show j*2+1<R.length by omega),show(j+1)*2=j*2+1+1 by omega]
 rfl
theorem toLeafS_any(a:Option Addr)(len cap:Nat)(ls:List (Int×ByteArray))(w:World)(hl:len≤1048576)(h:LfRow w a len ls):
 Calls Tryd.prog 61 #[.slice a len cap] w fun e w'=>∃v:Value,e=.returned v∧w'.ownsRow w.heap.size 66 2 v ls.length (lcells ls)∧Below w.heap.size w w':=by
 obtain⟨i0,hi,hz0,hz1,hz2⟩:=info_parts infoLeaf;obtain⟨h1,-,-,h4⟩:=h;have H4:=hide h4;have H1:=hide h1;clear h4 h1;go_enter Tryd.func61,Tryd.ntmps61;go_wp2_with (at_make;refine wpList_make_full _ rfl _ _ 52 rfl w.heap.size 66 i0 (.agg #[.int .i64 0,.string ⟨#[]⟩]) 2 Tryd.underlying52 hi hz0 hz1 .i64 .i64 _ _ len rfl rfl rfl rfl (by rw[hz2];omega) (by unfold maxLen;omega) (Nat.le_refl _) ?_)
 intro w1 hown hgrow;generalize(madeCells #[Value.int .i64 0,Value.string ⟨#[]⟩] (len*2)).toList=R at hown;have HR:Hid (R.length=ls.length*2):=by show _=_;rw[H1.out];exact hown.1
 have HO:=hide hown;have HB1:=hide ((Below.refl w.heap.size w).grown hgrow (Nat.le_refl _) (fun k hk=>by cases hk))
 have hg1:=(hown.lt w.heap.size rfl).2;clear hown hgrow;go_wp2;go_loopw [4] (fun iv wr=>∃k:Nat,k≤len∧iv=.int .i64 k∧Hid (wr.ownsRow w.heap.size 66 2 (.slice (some ⟨w.heap.size,0,none⟩) len len) len (lcells (ls.take k)++R.drop (k*2)))∧Hid (Below w.heap.size w wr)) (fun iv _=>len-(intOf iv).toNat)
 case atStart=>exact⟨0,Nat.zero_le _,rfl,HO,HB1⟩
 case round=>
  obtain⟨k,hk,rfl,HO2,HW⟩:=hrel;have hsz:=HW.out.size;by_cases hkl:(k:Int)<len
  ·obtain⟨b,off,rfl,hb,hc⟩:=H4.out (by omega)
   have hl1:=H1.out;have hkl2:k<ls.length:=by omega
   obtain⟨x,t,ht⟩:∃x t,ls[k]?=some (x,t):=⟨ls[k].1,ls[k].2,List.getElem?_eq_getElem hkl2⟩;obtain⟨c1,c2⟩:=hc k (x,t) ht;rw[←HW.out.cell (show b<w.heap.size from hb)]at c1 c2;simp only at c1 c2;have k0:(0:Int)≤k:=by omega
   clear hc hl1;go_wp2_with fail;refine(toLeaf_any x t _).mono ?_;rintro e w3 ⟨rfl,hb3⟩;have o3:=own_below HO2.out hb3;have hlen3:(lcells (ls.take k)++R.drop (k*2)).length=len*2:=HO2.out.1;have e3:∀d,d<2→∃u,w3.cell? ⟨w.heap.size,k*2+d,none⟩=some u:=by
    intro d hd;have:=o3.cells (g:=w.heap.size) rfl (k*2+d) _ (List.getElem?_eq_getElem (by rw[hlen3];omega))
    rw[addr_at]at this;exact⟨_,this⟩
   obtain⟨u0,d0⟩:=e3 0 (by omega)
   obtain⟨u1,d1⟩:=e3 1 (by omega)
   rw[Nat.add_zero]at d0;have f0:=o3.frozenAt (k*2);have f1:=o3.frozenAt (k*2+1);have o6:=fown_set (fown_set o3 rfl (k*2) (.int .i64 x)) rfl (k*2+1) (.string t);rw[lcells_put ls R k x t ht HR.out]at o6;have b6:=((HW.out.trans (hb3.mono hsz)).setCell (p:=⟨w.heap.size,k*2,none⟩) (Nat.le_refl _) (.int .i64 x)).setCell (p:=⟨w.heap.size,k*2+1,none⟩) (Nat.le_refl _) (.string t);have O6:=hide o6;have B6:=hide b6;clear o3 o6 b6 hlen3 e3 hb3 HW HO2 c1 c2 ht hkl2;go_wp2;go_roundw
   case rel=>exact⟨k+1,by omega,by go_num,O6,B6⟩
   case measure=>simp[intOf];omega
  ·have hke:k=len:=by omega
   have hO:=HO2.out;have hl1:=H1.out;have hr1:=HR.out;rw[hke,List.take_of_length_le (by omega),List.drop_eq_nil_of_le (by omega),List.append_nil]at hO
   have HO3:=hide hO;clear hO hke hl1 hr1;go_wp2;go_ret;exact⟨_,rfl,(by rw[H1.out];exact HO3.out),HW.out⟩
theorem toBlock_any(r:Rw)(w:World)(hl:r.2.2.2.length≤1048576)(h:BkOne w r):
 Calls Tryd.prog 42 #[.agg #[.bool r.1,.int .i64 r.2.1,r.2.2.1]] w fun e w'=>∃v:Value,e=.returned (.agg #[.bool r.1,.int .i64 r.2.1,v])∧w'.ownsRow w.heap.size 66 2 v r.2.2.2.length (lcells r.2.2.2)∧Below w.heap.size w w':=by
 obtain⟨x,y,v,ls⟩:=r;obtain⟨a,n,cap,e,hr⟩:=h;simp only at e hr hl⊢;subst e;have hn:=hr.1;subst hn;have HB:=hide ((((Below.refl w.heap.size w).alloc (Nat.le_refl _) (.cells #[.bool x,.int .i64 y,.slice a ls.length cap] 90)).alloc (by simp) (.cells #[.bool false,.int .i64 0,.slice none 0 0] 54)).alloc (by simp;omega) (.cells #[.bool x,.int .i64 y,.slice none 0 0] 54))
 have HL:=hide (hr.below HB.out);have g2:=heap_alloc_new ((w.alloc (.cells #[.bool x,.int .i64 y,.slice a ls.length cap] 90)).alloc (.cells #[.bool false,.int .i64 0,.slice none 0 0] 54)) (.cells #[.bool x,.int .i64 y,.slice none 0 0] 54);have g1:=heap_alloc_new (w.alloc (.cells #[.bool x,.int .i64 y,.slice a ls.length cap] 90)) (.cells #[.bool false,.int .i64 0,.slice none 0 0] 54);have g1:=(Below.heap_alloc ((w.alloc (.cells #[.bool x,.int .i64 y,.slice a ls.length cap] 90)).alloc (.cells #[.bool false,.int .i64 0,.slice none 0 0] 54)) (.cells #[.bool x,.int .i64 y,.slice none 0 0] 54) _ (by simp)).trans g1
 rw[show((w.alloc (.cells #[.bool x,.int .i64 y,.slice a ls.length cap] 90)).alloc (.cells #[.bool false,.int .i64 0,.slice none 0 0] 54)).heap.size=w.heap.size+1+1 by simp]at g2
 rw[show(w.alloc (.cells #[.bool x,.int .i64 y,.slice a ls.length cap] 90)).heap.size=w.heap.size+1 by simp]at g1
 have G1:=hide g1;have G2:=hide g2;clear hr g1 g2;go_enter Tryd.func42,Tryd.ntmps42;go_wp2_with fail;refine(toLeafS_any a ls.length cap ls _ (by omega) HL.out).mono ?_
 rintro e w1 ⟨v,rfl,o1,b1⟩;have HB1:=hide (HB.out.trans (b1.mono HB.out.size));have g1:=(b1.block _ (by simp)).trans G1.out
 have g2:=(b1.block _ (by simp)).trans G2.out
 have o1:=own_down o1 (show w.heap.size+1+1+1≤_ by simp)
 have o2:=own_cell (own_cell (own_cell (own_cell o1 (show w.heap.size+1+1<_ by omega) 2 v) (show w.heap.size+1<_ by omega) 0 (.bool x)) (show w.heap.size+1<_ by omega) 1 (.int .i64 y)) (show w.heap.size+1<_ by omega) 2 v
 obtain⟨ad,capv,rfl,-,-,-⟩:=frow_form o1;have c20:=cell_of_row _ _ 0 _ _ _ g2;have c21:=cell_of_row _ _ 1 _ _ _ g2;have c22:=cell_of_row _ _ 2 _ _ _ g2;have c10:=cell_of_row _ _ 0 _ _ _ g1;have c11:=cell_of_row _ _ 1 _ _ _ g1;have c12:=cell_of_row _ _ 2 _ _ _ g1;have f20:=frozen_of_row _ _ 2 _ _ g2;have f10:=frozen_of_row _ _ 0 _ _ g1;have f11:=frozen_of_row _ _ 1 _ _ g1;have f12:=frozen_of_row _ _ 2 _ _ g1;simp at c20 c21 c22 c10 c11 c12;have q1:=row_set_ne g1 (show w.heap.size+1≠w.heap.size+1+1 by omega) 2 (.slice ad ls.length capv)
 have Q2:=hide (row_set (row_set (row_set q1 0 (.bool x)) 1 (.int .i64 y)) 2 (.slice ad ls.length capv));have HO:=hide o2;clear g1 g2 q1 o1 o2 b1;go_wp2;exact bodyPost_ret (results_cell_row rfl _ _ (w.heap.size+1) 54 _ (0,0) _ rfl Q2.out Tryd.underlying54 rfl infoBlock3) rfl ⟨_,rfl,own_down HO.out (by omega),((((HB1.out).setCell (p:=⟨w.heap.size+1+1,2,none⟩) (by show _≤_+1+1;omega) _).setCell (p:=⟨w.heap.size+1,0,none⟩) (by show _≤_+1;omega) _).setCell (p:=⟨w.heap.size+1,1,none⟩) (by show _≤_+1;omega) _).setCell (p:=⟨w.heap.size+1,2,none⟩) (by show _≤_+1;omega) _⟩
end Go.Proofs.YtpdoponghlpkcaaDoor
