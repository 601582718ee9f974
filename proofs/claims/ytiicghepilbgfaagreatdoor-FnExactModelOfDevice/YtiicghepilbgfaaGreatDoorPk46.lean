/-
  FTo2; FEq; LawB; LawT
-/
import Derived.Test.YtiicghepilbgfaaGreatDoorPk45
import Derived.Test.YtiicghepilbgfaaGreatDoorPk9
import Derived.Test.YtiicghepilbgfaaGreatDoorPk44
set_option maxHeartbeats 400000
set_option maxRecDepth 100000
namespace Go.Proofs.YtiicghepilbgfaaGreatDoor
open Go.RowKit
theorem kcells_put(d:List (Bool×Int×Value))(R:List Value)(j n:Nat)(x:Bool)(y:Int)(v:Value)(hj:d.length=j)(hn:j<n)(hR:R.length=n*3):
 (((kcells d++R.drop (j*3)).set (j*3) (.bool x)).set (j*3+1) (.int .i64 y)).set (j*3+2) v=kcells (d++[(x,y,v)])++R.drop ((j+1)*3):=by
 have hm:(kcells d).length=j*3:=by rw[kcells_len,hj]
 have e2:kcells [(x,y,v)]=[.bool x,.int .i64 y,v]:=rfl;rw[kcells_app,e2,List.set_append_right _ _ (by omega),List.set_append_right _ _ (by omega),List.set_append_right _ _ (by omega),hm,Nat.sub_self,Nat.add_sub_cancel_left,Nat.add_sub_cancel_left,List.append_assoc]
 rw[List.drop_eq_getElem_cons (show j*3<R.length by omega),List.drop_eq_getElem_cons (show j*3+1<R.length by omega),List.drop_eq_getElem_cons (show j*3+1+1<R.length by omega),show(j+1)*3=j*3+1+1+1 by omega]
 rfl
def Grow(B:Nat)(w:World)(n:Nat)(R:List Value)(d:List Rw):Prop:=
 w.ownsRow B 99 3 (.slice (some ⟨B,0,none⟩) n n) n (kcells (d.map cellOf)++R.drop (d.length*3))∧(∀r∈d,LeafIn w B w.heap.size r.2.2.1 r.2.2.2)∧
  (d.map fun r=>r.2.2.1).Pairwise (fun a b=>a.ownBlock=none∨a.ownBlock≠b.ownBlock)∧B<w.heap.size
theorem Grow.step{B:Nat}{w w3:World}{n:Nat}{R:List Value}{d:List Rw}{x:Bool}{y:Int}{v:Value}{ls:List (Int×ByteArray)}(h:Grow B w n R d)(hb:Below w.heap.size w w3)(hv:w3.ownsRow w.heap.size 130 2 v ls.length (lcells ls))(hn:d.length<n)(hR:R.length=n*3):
 Grow B (((w3.setCell ⟨B,d.length*3,none⟩ (.bool x)).setCell ⟨B,d.length*3+1,none⟩ (.int .i64 y)).setCell ⟨B,d.length*3+2,none⟩ v) n R (d++[(x,y,v,ls)]):=by
 obtain⟨h1,h2,h3,h4⟩:=h;have o3:=own_below h1 hb;have o4:=fown_set o3 rfl (d.length*3) (.bool x);have o5:=fown_set o4 rfl (d.length*3+1) (.int .i64 y);have o6:=fown_set o5 rfl (d.length*3+2) v;rw[kcells_put (d.map cellOf) R d.length n x y v (by simp) hn hR]at o6
 have hs:=hb.size;refine⟨?_,fun r hr=>?_,?_,?_⟩
 ·rw[List.map_append,List.length_append];exact o6
 ·have hl:LeafIn w3 B w3.heap.size r.2.2.1 r.2.2.2:=by
   rcases List.mem_append.1 hr with hr|hr
   ·exact((h2 r hr).below hb (Nat.le_refl _)).up hs
   ·rw[List.mem_singleton]at hr;subst hr;exact⟨own_down hv (by omega),fun g hg=>(own_block_lt hv g hg).2⟩
  have:=leaf_cell o5 (leaf_cell o4 (leaf_cell o3 hl (d.length*3) (.bool x)) (d.length*3+1) (.int .i64 y)) (d.length*3+2) v
  simpa[World.setCell]using this
 ·rw[List.map_append,List.pairwise_append];refine⟨h3,by simp,fun a ha b hb2=>?_⟩
  obtain⟨r,hr,rfl⟩:=List.mem_map.1 ha;simp at hb2;subst hb2;cases hq:r.2.2.1.ownBlock with
  |none=>exact Or.inl rfl
  |some g=>
   refine Or.inr (fun e=>?_)
   have k1:=(h2 r hr).2 g hq;have k2:=(own_block_lt hv g e.symm).1;omega
 ·simp[World.setCell];omega
theorem Grow.done{B:Nat}{w:World}{n:Nat}{R:List Value}{d:List Rw}(h:Grow B w n R d)(hd:d.length=n)(hR:R.length=n*3):FlashIn w B w.heap.size (.slice (some ⟨B,0,none⟩) n n) d:=by
 obtain⟨h1,h2,h3,h4⟩:=h;rw[List.drop_eq_nil_of_le (by omega),List.append_nil]at h1
 refine⟨by rw[hd];exact h1,fun g hg=>?_,h2,h3⟩
 simp[Value.ownBlock]at hg;omega
theorem toBlockS_any(a:Option Addr)(len cap:Nat)(rs:List Rw)(w:World)(hl:len≤1048576)(hll:∀r∈rs,r.2.2.2.length≤1048576)(h:BkRow w a len rs):
 Calls Tryz.prog 46 #[.slice a len cap] w fun e w'=>∃v:Value,e=.returned v∧FlashOf w' w.heap.size v (rs.map tellOf)∧Below w.heap.size w w':=by
 obtain⟨i0,hi,hz0,hz1,hz2⟩:=info_parts infoBlock;obtain⟨h1,-,h3,h4⟩:=h;have H4:=hide h4;have H3:=hide h3;have H1:=hide h1;have HLL:=hide hll;clear h4 h1 h3 hll;go_enter Tryz.func46,Tryz.ntmps46;go_wp2_with (at_make;refine wpList_make_full _ rfl _ _ 47 rfl w.heap.size 99 i0 (.agg #[.bool false,.int .i64 0,.slice none 0 0]) 3 Tryz.underlying47 hi hz0 hz1 .i64 .i64 _ _ len rfl rfl rfl rfl (by rw[hz2];omega) (by unfold maxLen;omega) (Nat.le_refl _) ?_)
 intro w1 hown hgrow;generalize(madeCells #[Value.bool false,Value.int .i64 0,Value.slice none 0 0] (len*3)).toList=R at hown;have HR:Hid (R.length=len*3):=hown.1;have hg1:=(hown.lt w.heap.size rfl).2;have HO:Hid (Grow w.heap.size w1 len R []):=by exact⟨hown,by simp,List.Pairwise.nil,hg1⟩
 have HB1:=hide ((Below.refl w.heap.size w).grown hgrow (Nat.le_refl _) (fun k hk=>by cases hk))
 clear hown hgrow;go_wp2;go_loopw [4] (fun iv wr=>∃(k:Nat) (d:List Rw),k≤len∧iv=.int .i64 k∧Hid (d.length=k)∧Hid (d.map tellOf=(rs.take k).map tellOf)∧Hid (Grow w.heap.size wr len R d)∧Hid (Below w.heap.size w wr)) (fun iv _=>len-(intOf iv).toNat)
 case atStart=>exact⟨0,[],Nat.zero_le _,rfl,rfl,rfl,HO,HB1⟩
 case round=>
  obtain⟨k,d,hk,rfl,HD,HT,HO2,HW⟩:=hrel;have hsz:=HW.out.size;by_cases hkl:(k:Int)<len
  ·obtain⟨b,off,rfl,hb,hc⟩:=H4.out (by omega)
   have hl1:=H1.out;have hkl2:k<rs.length:=by omega
   have hr:rs[k]?=some rs[k]:=List.getElem?_eq_getElem hkl2;have htk:rs.take (k+1)=rs.take k++[rs[k]]:=List.take_succ_eq_append_getElem hkl2;generalize rs[k]=r at hr htk;have hone:=(H3.out r (List.mem_of_getElem? hr)).below HW.out;have hrl:=HLL.out r (List.mem_of_getElem? hr);obtain⟨x,y,v,ls⟩:=r;obtain⟨a1,n1,cap1,e1,hlf⟩:=hone;simp only at e1 hlf hrl;subst e1;obtain⟨c1,c2,c3⟩:=hc k _ hr;rw[←HW.out.cell (show b<w.heap.size from hb)]at c1 c2 c3;simp only at c1 c2 c3;have k0:(0:Int)≤k:=by omega
   have HONE:=hide (show BkOne wr (x,y,.slice a1 n1 cap1,ls)from⟨a1,n1,cap1,rfl,hlf⟩);have HTK:=hide htk;clear hc hl1 hkl2 hr hlf htk;go_wp2_with fail;refine(toBlock_any (x,y,.slice a1 n1 cap1,ls) _ hrl HONE.out).mono ?_;rintro e w3 ⟨v3,rfl,ov,hb3⟩;simp only at ov⊢;obtain⟨ad3,cap3,rfl,-,-,-⟩:=frow_form ov;have hd:=HD.out;have o3:=own_below HO2.out.1 hb3;have hlen3:(kcells (d.map cellOf)++R.drop (d.length*3)).length=len*3:=HO2.out.1.1;have e3:∀j,j<3→∃u,w3.cell? ⟨w.heap.size,k*3+j,none⟩=some u:=by
    intro j hj;have:=o3.cells (g:=w.heap.size) rfl (k*3+j) _ (List.getElem?_eq_getElem (by rw[hlen3];omega))
    rw[addr_at]at this;exact⟨_,this⟩
   obtain⟨u0,d0⟩:=e3 0 (by omega)
   obtain⟨u1,d1⟩:=e3 1 (by omega)
   obtain⟨u2,d2⟩:=e3 2 (by omega)
   rw[Nat.add_zero]at d0;have f0:=o3.frozenAt (k*3);have f1:=o3.frozenAt (k*3+1);have f2:=o3.frozenAt (k*3+2);have o6:=Grow.step (x:=x) (y:=y) HO2.out hb3 ov (by omega) HR.out
   rw[hd]at o6;have b6:=(((HW.out.trans (hb3.mono hsz)).setCell (p:=⟨w.heap.size,k*3,none⟩) (Nat.le_refl _) (.bool x)).setCell (p:=⟨w.heap.size,k*3+1,none⟩) (Nat.le_refl _) (.int .i64 y)).setCell (p:=⟨w.heap.size,k*3+2,none⟩) (Nat.le_refl _) (.slice ad3 ls.length cap3);have O6:=hide o6;have B6:=hide b6;clear o3 o6 b6 hlen3 e3 hb3 HW HO2 c1 c2 c3 hd ov;go_wp2;go_roundw
   case rel=>exact⟨k+1,_,by omega,by go_num,(by show _=_;rw[List.length_append,HD.out];rfl),(by show _=_;rw[List.map_append,HT.out,HTK.out,List.map_append];rfl),O6,B6⟩
   case measure=>simp[intOf];omega
  ·have hke:k=len:=by omega
   have hl1:=H1.out;have hd:=HD.out;have ht:=HT.out;rw[hke,List.take_of_length_le (by omega)]at ht
   have HF:=hide (Grow.done HO2.out (by omega) HR.out)
   have HT2:=hide ht;clear hke hl1 hd ht;go_wp2;go_ret;exact⟨_,rfl,⟨d,HT2.out,HF.out⟩,HW.out⟩
theorem toFlash_any(a:Option Addr)(len cap:Nat)(rs:List Rw)(w:World)(hl:len≤1048576)(hll:∀r∈rs,r.2.2.2.length≤1048576)(h:BkRow w a len rs):
 Calls Tryz.prog 26 #[.agg #[.slice a len cap]] w fun e w'=>∃v:Value,e=.returned (.agg #[v])∧FlashOf w' w.heap.size v (rs.map tellOf)∧Below w.heap.size w w':=by
 have HB:=hide ((((Below.refl w.heap.size w).alloc (Nat.le_refl _) (.cells #[.slice a len cap] 35)).alloc (by simp) (.cells #[.slice none 0 0] 49)).alloc (by simp;omega) (.cells #[.slice none 0 0] 49))
 have HL:=hide (h.below HB.out);have g2:=heap_alloc_new ((w.alloc (.cells #[.slice a len cap] 35)).alloc (.cells #[.slice none 0 0] 49)) (.cells #[.slice none 0 0] 49);have g1:=heap_alloc_new (w.alloc (.cells #[.slice a len cap] 35)) (.cells #[.slice none 0 0] 49);have g1:=(Below.heap_alloc ((w.alloc (.cells #[.slice a len cap] 35)).alloc (.cells #[.slice none 0 0] 49)) (.cells #[.slice none 0 0] 49) _ (by simp)).trans g1
 rw[show((w.alloc (.cells #[.slice a len cap] 35)).alloc (.cells #[.slice none 0 0] 49)).heap.size=w.heap.size+1+1 by simp]at g2
 rw[show(w.alloc (.cells #[.slice a len cap] 35)).heap.size=w.heap.size+1 by simp]at g1
 have G1:=hide g1;have G2:=hide g2;have HLL:=hide hll;clear h g1 g2 hll;go_enter Tryz.func26,Tryz.ntmps26;go_wp2_with fail;refine(toBlockS_any a len cap rs _ hl HLL.out HL.out).mono ?_;rintro e w1 ⟨v,rfl,o1,b1⟩;have HB1:=hide (HB.out.trans (b1.mono HB.out.size));have g1:=(b1.block _ (by simp)).trans G1.out
 have g2:=(b1.block _ (by simp)).trans G2.out
 have o1:=o1.down (show w.heap.size+1+1+1≤_ by simp)
 have o2:=(o1.cell (show w.heap.size+1+1<_ by omega) 0 v).cell (show w.heap.size+1<_ by omega) 0 v
 obtain⟨ad,capv,rfl⟩:=o1.form;generalize(rs.map tellOf).length=m at o1 o2;have c20:=cell_of_row _ _ 0 _ _ _ g2;have c10:=cell_of_row _ _ 0 _ _ _ g1;have f20:=frozen_of_row _ _ 0 _ _ g2;have f10:=frozen_of_row _ _ 0 _ _ g1;simp at c20 c10;have q1:=row_set_ne g1 (show w.heap.size+1≠w.heap.size+1+1 by omega) 0 (.slice ad m capv)
 have Q2:=hide (row_set q1 0 (.slice ad m capv));have HO:=hide o2;clear g1 g2 q1 o1 o2 b1;go_wp2;exact bodyPost_ret (results_cell_row rfl _ _ (w.heap.size+1) 49 _ (0,0) _ rfl Q2.out Tryz.underlying49 rfl infoFlash1) rfl ⟨_,rfl,HO.out.down (by omega),((HB1.out).setCell (p:=⟨w.heap.size+1+1,0,none⟩) (by show _≤_+1+1;omega) _).setCell (p:=⟨w.heap.size+1,0,none⟩) (by show _≤_+1;omega) _⟩
theorem eqLeaf_any(a:Int)(t:ByteArray)(w:World):
 Calls Tryz.prog 134 #[.agg #[.int .i64 a,.string t],.agg #[.int .i64 a,.string t]] w fun e w'=>e=.returned (.bool true)∧Below w.heap.size w w':=by
 have e1:(a !=a)=false:=by simp
 go_enter Tryz.func134,Tryz.ntmps134;go_wp2;go_ret;exact⟨rfl,((Below.refl _ _).alloc (Nat.le_refl _) _).alloc (by simp) _⟩
theorem eqLeafS_any(a b:Value)(ls:List (Int×ByteArray))(B1 B2:Nat)(w:World)(hl:ls.length≤1048576)(ha:w.ownsRow B1 130 2 a ls.length (lcells ls))(hb:w.ownsRow B2 130 2 b ls.length (lcells ls)):
 Calls Tryz.prog 115 #[a,b] w fun e w'=>e=.returned (.bool true)∧Below w.heap.size w w':=by
 obtain⟨ad,capa,rfl,a1,a2,a3⟩:=frow_form ha;obtain⟨bd,capb,rfl,b1,b2,b3⟩:=frow_form hb;unfold maxLen at a2 b2;have A3:=hide a3;have B3:=hide b3;have HA:=hide ha;have HB:=hide hb;clear a3 b3 ha hb;go_enter Tryz.func115,Tryz.ntmps115;go_wp2;go_loopw [5] (fun iv wr=>∃k:Nat,k≤ls.length∧iv=.int .i64 k∧Hid (Below w.heap.size w wr)) (fun iv _=>ls.length-(intOf iv).toNat)
 case atStart=>exact⟨0,Nat.zero_le _,rfl,Below.refl _ _⟩
 case round=>
  obtain⟨k,hk,rfl,HW⟩:=hrel;by_cases hlt:(k:Int)<ls.length
  ·obtain⟨ga,rfl,_,hga⟩:=A3.out (by omega)
   obtain⟨gb,rfl,_,hgb⟩:=B3.out (by omega)
   have hkl:k<ls.length:=by omega
   obtain⟨x,t,ht⟩:∃x t,ls[k]?=some (x,t):=⟨ls[k].1,ls[k].2,List.getElem?_eq_getElem hkl⟩;obtain⟨c1,c2⟩:=lown_cells (own_below HA.out HW.out) ht;obtain⟨d1,d2⟩:=lown_cells (own_below HB.out HW.out) ht;simp only at c1 c2 d1 d2;have k0:(0:Int)≤k:=by omega
   have hga2:ga<wr.heap.size:=Nat.lt_of_lt_of_le hga HW.out.size;have hgb2:gb<wr.heap.size:=Nat.lt_of_lt_of_le hgb HW.out.size;clear ht;go_wp2;go_region_held3 (fun w'=>w'.cell? ⟨ga,k*2,none⟩=some (.int .i64 x)∧w'.cell? ⟨ga,k*2+1,none⟩=some (.string t)∧w'.cell? ⟨gb,k*2,none⟩=some (.int .i64 x)∧w'.cell? ⟨gb,k*2+1,none⟩=some (.string t)) (first|go_keep|exact⟨(hb1.cell (show ga<wr.heap.size from hga2)).trans c1,(hb1.cell (show ga<wr.heap.size from hga2)).trans c2,(hb1.cell (show gb<wr.heap.size from hgb2)).trans d1,(hb1.cell (show gb<wr.heap.size from hgb2)).trans d2⟩) ((go_at_call 134;refine(eqLeaf_any x t _).mono ?_;rintro e w1 ⟨rfl,hb1⟩))
   have HW2:=hide (HW.out.drew.trans (hb1.mono (by have:=HW.out.size;exact this)))
   clear hb1 HW c1 c2 d1 d2;go_wp2;go_roundw
   case rel=>exact⟨k+1,by omega,by go_num,HW2⟩
   case measure=>simp[intOf];omega
  ·go_wp2;go_ret;exact⟨rfl,HW.out⟩
theorem eqBlock_any(x:Bool)(y:Int)(a b:Value)(ls:List (Int×ByteArray))(B1 B2:Nat)(w:World)(hl:ls.length≤1048576)(ha:w.ownsRow B1 130 2 a ls.length (lcells ls))(hb:w.ownsRow B2 130 2 b ls.length (lcells ls)):
 Calls Tryz.prog 78 #[.agg #[.bool x,.int .i64 y,a],.agg #[.bool x,.int .i64 y,b]] w fun e w'=>e=.returned (.bool true)∧Below w.heap.size w w':=by
 have e1:(y !=y)=false:=by simp
 have e2:(x !=x)=false:=by simp
 obtain⟨ad,capa,rfl,-⟩:=frow_form ha;obtain⟨bd,capb,rfl,-⟩:=frow_form hb;have HA:=hide ((ha.alloc (.cells #[.bool x,.int .i64 y,.slice ad ls.length capa] 99)).alloc (.cells #[.bool x,.int .i64 y,.slice bd ls.length capb] 99));have HB:=hide ((hb.alloc (.cells #[.bool x,.int .i64 y,.slice ad ls.length capa] 99)).alloc (.cells #[.bool x,.int .i64 y,.slice bd ls.length capb] 99));have HW:=hide (((Below.refl w.heap.size w).alloc (Nat.le_refl _) (.cells #[.bool x,.int .i64 y,.slice ad ls.length capa] 99)).alloc (by simp) (.cells #[.bool x,.int .i64 y,.slice bd ls.length capb] 99))
 clear ha hb;go_enter Tryz.func78,Tryz.ntmps78;go_wp2_with fail;refine(eqLeafS_any _ _ ls _ _ _ hl HA.out HB.out).mono ?_;rintro e w1 ⟨rfl,hb1⟩;have HW1:=hide (HW.out.trans (hb1.mono HW.out.size));clear hb1;go_wp2;go_ret;exact⟨rfl,HW1.out⟩
theorem tell_at{rs ss:List Rw}(h:rs.map tellOf=ss.map tellOf)(k:Nat)(r:Rw)(hr:rs[k]?=some r):∃s,ss[k]?=some s∧tellOf r=tellOf s:=by
 have h1:=congrArg (fun l:List Bk=>l[k]?) h
 simp only[List.getElem?_map,hr,Option.map_some]at h1;cases hs:ss[k]? with
 |none=>rw[hs]at h1;cases h1
 |some s=>
  rw[hs]at h1;exact⟨s,rfl,by simpa using h1⟩
theorem eqBlockS_any(a b:Value)(rs ss:List Rw)(l1 h1 l2 h2:Nat)(w:World)(hl:rs.length≤1048576)(hll:∀r∈rs,r.2.2.2.length≤1048576)(ha:FlashIn w l1 h1 a rs)(hb:FlashIn w l2 h2 b ss)(hh1:h1≤w.heap.size)(hh2:h2≤w.heap.size)(he:rs.map tellOf=ss.map tellOf):
 Calls Tryz.prog 53 #[a,b] w fun e w'=>e=.returned (.bool true)∧Below w.heap.size w w':=by
 have hlen:ss.length=rs.length:=by have:=congrArg List.length he;simpa using this.symm
 have ha1:=ha.1;have hb1:=hb.1;rw[hlen]at hb1;obtain⟨ad,capa,rfl,a1,a2,a3⟩:=frow_form ha1;obtain⟨bd,capb,rfl,b1,b2,b3⟩:=frow_form hb1;unfold maxLen at a2 b2;have A3:=hide a3;have B3:=hide b3;have HA:=hide ha;have HB:=hide hb;have HE:=hide he;have HLL:=hide hll;have HLEN:=hide hlen;clear a3 b3 ha hb ha1 hb1 he hll hlen;go_enter Tryz.func53,Tryz.ntmps53;go_wp2;go_loopw [5] (fun iv wr=>∃k:Nat,k≤rs.length∧iv=.int .i64 k∧Hid (Below w.heap.size w wr)) (fun iv _=>rs.length-(intOf iv).toNat)
 case atStart=>exact⟨0,Nat.zero_le _,rfl,Below.refl _ _⟩
 case round=>
  obtain⟨k,hk,rfl,HW⟩:=hrel;by_cases hlt:(k:Int)<rs.length
  ·obtain⟨ga,rfl,_,hga⟩:=A3.out (by omega)
   obtain⟨gb,rfl,_,hgb⟩:=B3.out (by omega)
   have hkl:k<rs.length:=by omega
   obtain⟨x,y,u,ls,hr⟩:∃x y u ls,rs[k]?=some (x,y,u,ls):=⟨rs[k].1,rs[k].2.1,rs[k].2.2.1,rs[k].2.2.2,List.getElem?_eq_getElem hkl⟩;obtain⟨⟨x',y',u',ls'⟩,hs,hts⟩:=tell_at HE.out k _ hr;simp only[tellOf,Prod.mk.injEq]at hts;obtain⟨rfl,rfl,rfl⟩:=hts;have FA:=HA.out.below HW.out hh1;have FB:=HB.out.below HW.out hh2;have FB1:=FB.1;rw[HLEN.out]at FB1;obtain⟨c1,c2,c3⟩:=kown_cells (t:=(x,y,u)) FA.1 (by rw[List.getElem?_map,hr];rfl)
   obtain⟨d1,d2,d3⟩:=kown_cells (t:=(x,y,u')) FB1 (by rw[List.getElem?_map,hs];rfl)
   simp only at c1 c2 c3 d1 d2 d3;have LA:=(FA.2.2.1 _ (List.mem_of_getElem? hr)).1;have LB:=(FB.2.2.1 _ (List.mem_of_getElem? hs)).1;have hlk:=HLL.out _ (List.mem_of_getElem? hr);simp only at LA LB hlk;have CE:Hid (Calls Tryz.prog 78 #[.agg #[.bool x,.int .i64 y,u],.agg #[.bool x,.int .i64 y,u']] wr.drew fun e w'=>e=.returned (.bool true)∧Below wr.drew.heap.size wr.drew w'):=eqBlock_any x y u u' ls l1 l2 wr.drew hlk (own_below LA (Below.refl _ _).drew) (own_below LB (Below.refl _ _).drew)
   obtain⟨ua,uc,rfl,-⟩:=frow_form LA;obtain⟨va,vc,rfl,-⟩:=frow_form LB;have k0:(0:Int)≤k:=by omega
   have hga2:ga<wr.heap.size:=Nat.lt_of_lt_of_le hga HW.out.size;have hgb2:gb<wr.heap.size:=Nat.lt_of_lt_of_le hgb HW.out.size;clear hr hs FA FB FB1 LA LB;go_wp2;go_region_held3 (fun w'=>w'.cell? ⟨ga,k*3,none⟩=some (.bool x)∧w'.cell? ⟨ga,k*3+1,none⟩=some (.int .i64 y)∧w'.cell? ⟨ga,k*3+2,none⟩=some (.slice ua ls.length uc)∧w'.cell? ⟨gb,k*3,none⟩=some (.bool x)∧w'.cell? ⟨gb,k*3+1,none⟩=some (.int .i64 y)∧w'.cell? ⟨gb,k*3+2,none⟩=some (.slice va ls.length vc)) (first|go_keep|exact⟨(hb1.cell (show ga<wr.heap.size from hga2)).trans c1,(hb1.cell (show ga<wr.heap.size from hga2)).trans c2,(hb1.cell (show ga<wr.heap.size from hga2)).trans c3,(hb1.cell (show gb<wr.heap.size from hgb2)).trans d1,(hb1.cell (show gb<wr.heap.size from hgb2)).trans d2,(hb1.cell (show gb<wr.heap.size from hgb2)).trans d3⟩) ((go_at_call 78;(with_reducible refine Calls.mono CE.out ?_);rintro e w1 ⟨rfl,hb1⟩))
   have HW2:=hide (HW.out.drew.trans (hb1.mono (by have:=HW.out.size;exact this)))
   clear hb1 HW c1 c2 c3 d1 d2 d3 CE;go_wp2;go_roundw
   case rel=>exact⟨k+1,by omega,by go_num,HW2⟩
   case measure=>simp[intOf];omega
  ·go_wp2;go_ret;exact⟨rfl,HW.out⟩
theorem eqFlash_any(a b:Value)(rs ss:List Rw)(l1 h1 l2 h2:Nat)(w:World)(hl:rs.length≤1048576)(hll:∀r∈rs,r.2.2.2.length≤1048576)(ha:FlashIn w l1 h1 a rs)(hb:FlashIn w l2 h2 b ss)(hh1:h1≤w.heap.size)(hh2:h2≤w.heap.size)(he:rs.map tellOf=ss.map tellOf):
 Calls Tryz.prog 30 #[.agg #[a],.agg #[b]] w fun e w'=>e=.returned (.bool true)∧Below w.heap.size w w':=by
 have ha1:=ha.1;have hb1:=hb.1;obtain⟨ad,capa,rfl,-⟩:=frow_form ha1;obtain⟨bd,capb,rfl,-⟩:=frow_form hb1;have HW:=hide (((Below.refl w.heap.size w).alloc (Nat.le_refl _) (.cells #[.slice ad rs.length capa] 49)).alloc (by simp) (.cells #[.slice bd ss.length capb] 49))
 have HA:=hide (ha.below HW.out hh1);have HB:=hide (hb.below HW.out hh2);have HE:=hide he;have HLL:=hide hll;clear ha hb ha1 hb1 he hll;go_enter Tryz.func30,Tryz.ntmps30;go_wp2_with fail;refine(eqBlockS_any _ _ rs ss l1 h1 l2 h2 _ hl HLL.out HA.out HB.out (by simp;omega) (by simp;omega) HE.out).mono ?_
 rintro e w1 ⟨rfl,hb1⟩;have HW1:=hide (HW.out.trans (hb1.mono HW.out.size));clear hb1;go_wp2;go_ret;exact⟨rfl,HW1.out⟩
def endK:Nat→List Bk→Nat
 |k,[]=>k
 |k,r::rs=>endK (k+2+2*r.2.2.length) rs
theorem endK_tell(k:Nat)(rs:List Rw):endK k (rs.map tellOf)=endB k rs:=by
 induction rs generalizing k with
 |nil=>rfl
 |cons r rs ih=>simp only[List.map_cons,endK,endB,tellOf];exact ih _
def Okk(bs:List Bk):Prop:=bs.length≤1048576∧(∀r∈bs,r.2.2.length≤1048576)∧endK 1 bs≤1000000000
def TxK(bs:List Bk):Prop:=∀r∈bs,∀t∈r.2.2,t.2.size≤1048576
theorem meas{rs:List Rw}{r:Int}(h0:0≤r)(h:2*r+endB 1 rs≤2*(1048576:Nat)+1):rs.length≤1048576∧(∀q∈rs,q.2.2.2.length≤1048576)∧Okk (rs.map tellOf):=by
 have h1:=endB_len 1 rs;have h2:∀q∈rs,q.2.2.2.length≤1048576:=fun q hq=>by
  have:=endB_one 1 rs q hq;omega
 refine⟨by omega,h2,by rw[List.length_map];omega,fun r hr=>?_,by rw[endK_tell];omega⟩
 obtain⟨q,hq,rfl⟩:=List.mem_map.1 hr;exact h2 q hq
theorem tx_tell{rs:List Rw}(h:TxB rs):TxK (rs.map tellOf):=by
 intro r hr;obtain⟨q,hq,rfl⟩:=List.mem_map.1 hr;exact h q hq
def Inn(w:World)(lo hi:Nat)(v:Value)(bs:List Bk):Prop:=∃ss,ss.map tellOf=bs∧FlashIn w lo hi v ss
theorem Inn.lens{w:World}{lo hi:Nat}{v:Value}{bs:List Bk}(h:Inn w lo hi v bs)(ho:Okk bs):∃ss,ss.map tellOf=bs∧FlashIn w lo hi v ss∧ss.length≤1048576∧(∀q∈ss,q.2.2.2.length≤1048576)∧endB 1 ss=endK 1 bs:=by
 obtain⟨ss,rfl,hs⟩:=h;refine⟨ss,rfl,hs,by simpa using ho.1,fun q hq=>ho.2.1 _ (List.mem_map_of_mem (f:=tellOf) hq),(endK_tell 1 ss).symm⟩
theorem eq_of(a b:Value)(bs:List Bk)(l1 h1 l2 h2:Nat)(w:World)(ho:Okk bs)(ha:h1≤w.heap.size∧Inn w l1 h1 a bs)(hb:h2≤w.heap.size∧Inn w l2 h2 b bs):
 Calls Tryz.prog 30 #[.agg #[a],.agg #[b]] w fun e w'=>e=.returned (.bool true)∧Below w.heap.size w w':=by
 obtain⟨rs,e1,i1,l,ll,-⟩:=ha.2.lens ho;obtain⟨ss,e3,i2⟩:=hb.2;exact eqFlash_any a b rs ss _ _ _ _ w l ll i1 i2 ha.1 hb.1 (e1.trans e3.symm)
theorem Fla.lens{w:World}{lo hi:Nat}{v:Value}{bs:List Bk}(h:Fla lo hi v bs w)(ho:Okk bs):∃ss,ss.map tellOf=bs∧FlashIn w lo hi v ss∧ss.length≤1048576∧(∀q∈ss,q.2.2.2.length≤1048576)∧endB 1 ss=endK 1 bs:=Inn.lens h ho
theorem mark_tk{w wi:World}{hs hs':List Hold}{u:Value}{l1 h1:Nat}{bs:List Bk}(T:Tk w wi hs)(n1:Nat)(ho:Okk bs)(e1:hs[n1]?=some (l1,h1,Fla l1 h1 u bs))(hlo:w.heap.size≤l1)(hh:∀x∈hs',x∈hs∧(x.2.1≤l1∨h1≤x.1)):
 Calls Tryz.prog 32 #[.agg #[u],.int .i64 1] wi fun e w'=>e=.returned (.int .i64 ((endK 1 bs:Nat):Int))∧Tk w w' hs'∧wi.heap.size≤w'.heap.size:=by
 obtain⟨rs,e3,i1,l,ll,e2⟩:=(T.get n1 e1).lens ho;refine(markFlash_any u rs l1 h1 wi l ll (by rw[e2];exact ho.2.2) (T.hi n1 e1) i1).mono ?_
 rintro e w2 ⟨rfl,h2,h3⟩;rw[e2];exact⟨rfl,T.spoil (show Kept2 wi w2 (Apt l1 h1)from h3.out) hlo (T.hi n1 e1) hh,h3.out.2.2.2.1⟩
end Go.Proofs.YtiicghepilbgfaaGreatDoor
