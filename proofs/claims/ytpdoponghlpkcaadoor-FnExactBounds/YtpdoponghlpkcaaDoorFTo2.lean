/-
  FTo2
-/
import Derived.Test.YtpdoponghlpkcaaDoorFTo
set_option maxHeartbeats 400000
set_option maxRecDepth 100000
namespace Go.Proofs.YtpdoponghlpkcaaDoor
open Go.RowKit
theorem kcells_put(d:List (Bool×Int×Value))(R:List Value)(j n:Nat)(x:Bool)(y:Int)(v:Value)(hj:d.length=j)(hn:j<n)(hR:R.length=n*3):
 (((kcells d++R.drop (j*3)).set (j*3) (.bool x)).set (j*3+1) (.int .i64 y)).set (j*3+2) v=kcells (d++[(x,y,v)])++R.drop ((j+1)*3):=by
 have hm:(kcells d).length=j*3:=by rw[kcells_len,hj]
 have e2:kcells [(x,y,v)]=[.bool x,.int .i64 y,v]:=rfl;rw[kcells_app,e2,List.set_append_right _ _ (by omega),List.set_append_right _ _ (by omega),List.set_append_right _ _ (by omega),hm,Nat.sub_self,Nat.add_sub_cancel_left,Nat.add_sub_cancel_left,List.append_assoc]
 rw[List.drop_eq_getElem_cons (show j*3<R.length by omega),List.drop_eq_getElem_cons (show j*3+1<R.length by omega),List.drop_eq_getElem_cons (show j*3+1+1<R.length by omega),show(j+1)*3=j*3+1+1+1 by omega]
 rfl
def Grow(B:Nat)(w:World)(n:Nat)(R:List Value)(d:List Rw):Prop:=
 w.ownsRow B 54 3 (.slice (some ⟨B,0,none⟩) n n) n (kcells (d.map cellOf)++R.drop (d.length*3))∧(∀r∈d,LeafIn w B w.heap.size r.2.2.1 r.2.2.2)∧
  (d.map fun r=>r.2.2.1).Pairwise (fun a b=>a.ownBlock=none∨a.ownBlock≠b.ownBlock)∧B<w.heap.size
theorem Grow.step{B:Nat}{w w3:World}{n:Nat}{R:List Value}{d:List Rw}{x:Bool}{y:Int}{v:Value}{ls:List (Int×ByteArray)}(h:Grow B w n R d)(hb:Below w.heap.size w w3)(hv:w3.ownsRow w.heap.size 66 2 v ls.length (lcells ls))(hn:d.length<n)(hR:R.length=n*3):
 Grow B (((w3.setCell ⟨B,d.length*3,none⟩ (.bool x)).setCell ⟨B,d.length*3+1,none⟩ (.int .i64 y)).setCell ⟨B,d.length*3+2,none⟩ v) n R (d++[(x,y,v,ls)]):=by
 obtain⟨h1,h2,h3,h4⟩:=h;have o3:=own_below h1 hb;have o4:=fown_set o3 rfl (d.length*3) (.bool x);have o5:=fown_set o4 rfl (d.length*3+1) (.int .i64 y);have o6:=fown_set o5 rfl (d.length*3+2) v;rw[kcells_put (d.map cellOf) R d.length n x y v (by simp) hn hR]at o6
 have hs:=hb.size;refine⟨?_,fun r hr=>?_,?_,?_⟩
 ·rw[List.map_append,List.length_append];exact o6
 ·have hl:LeafIn w3 B w3.heap.size r.2.2.1 r.2.2.2:=by
   rcases List.mem_append.1 hr with hr|hr
   ·exact((h2 r hr).below hb (Nat.le_refl _)).up hs
   ·rw[List.mem_singleton]at hr;subst hr;exact⟨own_down hv (by omega),fun g hg=>(own_block_lt hv g hg).2⟩
  have:=leaf_cell o5 (leaf_cell o4 (leaf_cell o3 hl (d.length*3) (.bool x)) (d.length*3+1) (.int .i64 y)) (d.length*3+2) v
  simpa[World.setCell]using this
 ·rw[List.map_append,List.pairwise_append];refine⟨h3,by simp,fun a ha b hb2=>?_⟩
  obtain⟨r,hr,rfl⟩:=List.mem_map.1 ha;simp at hb2;subst hb2;cases hq:r.2.2.1.ownBlock with
  |none=>exact Or.inl rfl
  |some g=>
   refine Or.inr (fun e=>?_)
   have k1:=(h2 r hr).2 g hq;have k2:=(own_block_lt hv g e.symm).1;omega
 ·simp[World.setCell];omega
theorem Grow.done{B:Nat}{w:World}{n:Nat}{R:List Value}{d:List Rw}(h:Grow B w n R d)(hd:d.length=n)(hR:R.length=n*3):FlashIn w B w.heap.size (.slice (some ⟨B,0,none⟩) n n) d:=by
 obtain⟨h1,h2,h3,h4⟩:=h;rw[List.drop_eq_nil_of_le (by omega),List.append_nil]at h1
 refine⟨by rw[hd];exact h1,fun g hg=>?_,h2,h3⟩
 simp[Value.ownBlock]at hg;omega
theorem toBlockS_any(a:Option Addr)(len cap:Nat)(rs:List Rw)(w:World)(hl:len≤1048576)(hll:∀r∈rs,r.2.2.2.length≤1048576)(h:BkRow w a len rs):
 Calls Tryd.prog 26 #[.slice a len cap] w fun e w'=>∃v:Value,e=.returned v∧FlashOf w' w.heap.size v (rs.map tellOf)∧Below w.heap.size w w':=by
 obtain⟨i0,hi,hz0,hz1,hz2⟩:=info_parts infoBlock;obtain⟨h1,-,h3,h4⟩:=h;have H4:=hide h4;have H3:=hide h3;have H1:=hide h1;have HLL:=hide hll;clear h4 h1 h3 hll;go_enter Tryd.func26,Tryd.ntmps26;go_wp2_with (at_make;refine wpList_make_full _ rfl _ _ 35 rfl w.heap.size 54 i0 (.agg #[.bool false,.int .i64 0,.slice none 0 0]) 3 Tryd.underlying35 hi hz0 hz1 .i64 .i64 _ _ len rfl rfl rfl rfl (by rw[hz2];omega) (by unfold maxLen;omega) (Nat.le_refl _) ?_)
 intro w1 hown hgrow;generalize(madeCells #[Value.bool false,Value.int .i64 0,Value.slice none 0 0] (len*3)).toList=R at hown;have HR:Hid (R.length=len*3):=hown.1;have hg1:=(hown.lt w.heap.size rfl).2;have HO:Hid (Grow w.heap.size w1 len R []):=by exact⟨hown,by simp,List.Pairwise.nil,hg1⟩
 have HB1:=hide ((Below.refl w.heap.size w).grown hgrow (Nat.le_refl _) (fun k hk=>by cases hk))
 clear hown hgrow;go_wp2;go_loopw [4] (fun iv wr=>∃(k:Nat) (d:List Rw),k≤len∧iv=.int .i64 k∧Hid (d.length=k)∧Hid (d.map tellOf=(rs.take k).map tellOf)∧Hid (Grow w.heap.size wr len R d)∧Hid (Below w.heap.size w wr)) (fun iv _=>len-(intOf iv).toNat)
 case atStart=>exact⟨0,[],Nat.zero_le _,rfl,rfl,rfl,HO,HB1⟩
 case round=>
  obtain⟨k,d,hk,rfl,HD,HT,HO2,HW⟩:=hrel;have hsz:=HW.out.size;by_cases hkl:(k:Int)<len
  ·obtain⟨b,off,rfl,hb,hc⟩:=H4.out (by omega)
   have hl1:=H1.out;have hkl2:k<rs.length:=by omega
   have hr:rs[k]?=some rs[k]:=List.getElem?_eq_getElem hkl2;have htk:rs.take (k+1)=rs.take k++[rs[k]]:=List.take_succ_eq_append_getElem hkl2;generalize rs[k]=r at hr htk;have hone:=(H3.out r (List.mem_of_getElem? hr)).below HW.out;have hrl:=HLL.out r (List.mem_of_getElem? hr);obtain⟨x,y,v,ls⟩:=r;obtain⟨a1,n1,cap1,e1,hlf⟩:=hone;simp only at e1 hlf hrl;subst e1;obtain⟨c1,c2,c3⟩:=hc k _ hr;rw[←HW.out.cell (show b<w.heap.size from hb)]at c1 c2 c3;simp only at c1 c2 c3;have k0:(0:Int)≤k:=by omega
   have HONE:=hide (show BkOne wr (x,y,.slice a1 n1 cap1,ls)from⟨a1,n1,cap1,rfl,hlf⟩);have HTK:=hide htk;clear hc hl1 hkl2 hr hlf htk;go_wp2_with fail;refine(toBlock_any (x,y,.slice a1 n1 cap1,ls) _ hrl HONE.out).mono ?_;rintro e w3 ⟨v3,rfl,ov,hb3⟩;simp only at ov⊢;obtain⟨ad3,cap3,rfl,-,-,-⟩:=frow_form ov;have hd:=HD.out;have o3:=own_below HO2.out.1 hb3;have hlen3:(kcells (d.map cellOf)++R.drop (d.length*3)).length=len*3:=HO2.out.1.1;have e3:∀j,j<3→∃u,w3.cell? ⟨w.heap.size,k*3+j,none⟩=some u:=by
    intro j hj;have:=o3.cells (g:=w.heap.size) rfl (k*3+j) _ (List.getElem?_eq_getElem (by rw[hlen3];omega))
    rw[addr_at]at this;exact⟨_,this⟩
   obtain⟨u0,d0⟩:=e3 0 (by omega)
   obtain⟨u1,d1⟩:=e3 1 (by omega)
   obtain⟨u2,d2⟩:=e3 2 (by omega)
   rw[Nat.add_zero]at d0;have f0:=o3.frozenAt (k*3);have f1:=o3.frozenAt (k*3+1);have f2:=o3.frozenAt (k*3+2);have o6:=Grow.step (x:=x) (y:=y) HO2.out hb3 ov (by omega) HR.out
   rw[hd]at o6;have b6:=(((HW.out.trans (hb3.mono hsz)).setCell (p:=⟨w.heap.size,k*3,none⟩) (Nat.le_refl _) (.bool x)).setCell (p:=⟨w.heap.size,k*3+1,none⟩) (Nat.le_refl _) (.int .i64 y)).setCell (p:=⟨w.heap.size,k*3+2,none⟩) (Nat.le_refl _) (.slice ad3 ls.length cap3);have O6:=hide o6;have B6:=hide b6;clear o3 o6 b6 hlen3 e3 hb3 HW HO2 c1 c2 c3 hd ov;go_wp2;go_roundw
   case rel=>exact⟨k+1,_,by omega,by go_num,(by show _=_;rw[List.length_append,HD.out];rfl),(by show _=_;rw[List.map_append,HT.out,HTK.out,List.map_append];rfl),O6,B6⟩
   case measure=>simp[intOf];omega
  ·have hke:k=len:=by omega
   have hl1:=H1.out;have hd:=HD.out;have ht:=HT.out;rw[hke,List.take_of_length_le (by omega)]at ht
   have HF:=hide (Grow.done HO2.out (by omega) HR.out)
   have HT2:=hide ht;clear hke hl1 hd ht;go_wp2;go_ret;exact⟨_,rfl,⟨d,HT2.out,HF.out⟩,HW.out⟩
theorem toFlash_any(a:Option Addr)(len cap:Nat)(rs:List Rw)(w:World)(hl:len≤1048576)(hll:∀r∈rs,r.2.2.2.length≤1048576)(h:BkRow w a len rs):
 Calls Tryd.prog 14 #[.agg #[.slice a len cap]] w fun e w'=>∃v:Value,e=.returned (.agg #[v])∧FlashOf w' w.heap.size v (rs.map tellOf)∧Below w.heap.size w w':=by
 have HB:=hide ((((Below.refl w.heap.size w).alloc (Nat.le_refl _) (.cells #[.slice a len cap] 24)).alloc (by simp) (.cells #[.slice none 0 0] 37)).alloc (by simp;omega) (.cells #[.slice none 0 0] 37))
 have HL:=hide (h.below HB.out);have g2:=heap_alloc_new ((w.alloc (.cells #[.slice a len cap] 24)).alloc (.cells #[.slice none 0 0] 37)) (.cells #[.slice none 0 0] 37);have g1:=heap_alloc_new (w.alloc (.cells #[.slice a len cap] 24)) (.cells #[.slice none 0 0] 37);have g1:=(Below.heap_alloc ((w.alloc (.cells #[.slice a len cap] 24)).alloc (.cells #[.slice none 0 0] 37)) (.cells #[.slice none 0 0] 37) _ (by simp)).trans g1
 rw[show((w.alloc (.cells #[.slice a len cap] 24)).alloc (.cells #[.slice none 0 0] 37)).heap.size=w.heap.size+1+1 by simp]at g2
 rw[show(w.alloc (.cells #[.slice a len cap] 24)).heap.size=w.heap.size+1 by simp]at g1
 have G1:=hide g1;have G2:=hide g2;have HLL:=hide hll;clear h g1 g2 hll;go_enter Tryd.func14,Tryd.ntmps14;go_wp2_with fail;refine(toBlockS_any a len cap rs _ hl HLL.out HL.out).mono ?_;rintro e w1 ⟨v,rfl,o1,b1⟩;have HB1:=hide (HB.out.trans (b1.mono HB.out.size));have g1:=(b1.block _ (by simp)).trans G1.out
 have g2:=(b1.block _ (by simp)).trans G2.out
 have o1:=o1.down (show w.heap.size+1+1+1≤_ by simp)
 have o2:=(o1.cell (show w.heap.size+1+1<_ by omega) 0 v).cell (show w.heap.size+1<_ by omega) 0 v
 obtain⟨ad,capv,rfl⟩:=o1.form;generalize(rs.map tellOf).length=m at o1 o2;have c20:=cell_of_row _ _ 0 _ _ _ g2;have c10:=cell_of_row _ _ 0 _ _ _ g1;have f20:=frozen_of_row _ _ 0 _ _ g2;have f10:=frozen_of_row _ _ 0 _ _ g1;simp at c20 c10;have q1:=row_set_ne g1 (show w.heap.size+1≠w.heap.size+1+1 by omega) 0 (.slice ad m capv)
 have Q2:=hide (row_set q1 0 (.slice ad m capv));have HO:=hide o2;clear g1 g2 q1 o1 o2 b1;go_wp2;exact bodyPost_ret (results_cell_row rfl _ _ (w.heap.size+1) 37 _ (0,0) _ rfl Q2.out Tryd.underlying37 rfl infoFlash1) rfl ⟨_,rfl,HO.out.down (by omega),((HB1.out).setCell (p:=⟨w.heap.size+1+1,0,none⟩) (by show _≤_+1+1;omega) _).setCell (p:=⟨w.heap.size+1,0,none⟩) (by show _≤_+1;omega) _⟩
end Go.Proofs.YtpdoponghlpkcaaDoor
