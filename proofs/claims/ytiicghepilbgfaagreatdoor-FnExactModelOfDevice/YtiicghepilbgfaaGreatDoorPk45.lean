/-
  FSz; FTo
-/
import Derived.Test.YtiicghepilbgfaaGreatDoorPk44
import Derived.Test.YtiicghepilbgfaaGreatDoorPk9
set_option maxHeartbeats 400000
set_option maxRecDepth 100000
namespace Go.Proofs.YtiicghepilbgfaaGreatDoor
open Go.RowKit
theorem szLeaf_any(x:Int)(t:ByteArray)(z:Nat)(w:World)(ht:t.size≤maxLen)(hz:z≤1048576):
 Calls Tryz.prog 121 #[.agg #[.int .i64 x,.string t],.int .i64 z] w fun e w'=>(∃r:Int,e=.returned (.int .i64 r)∧-1≤r∧r≤z∧(0≤r→t.size≤1048576))∧Below w.heap.size w w':=by
 unfold maxLen at ht;have hw:IntKind.i64.wrap ((z:Int)-t.size)=(z:Int)-t.size:=by rw[IntKind.wrap_i64];omega
 by_cases h:(z:Int)-t.size<0
 ·go_enter Tryz.func121,Tryz.ntmps121;go_wp2;go_ret;exact⟨⟨_,rfl,by omega,by omega,by omega⟩,(Below.refl _ _).alloc (Nat.le_refl _) _⟩
 ·go_enter Tryz.func121,Tryz.ntmps121;go_wp2;go_ret;exact⟨⟨_,rfl,by omega,by omega,by omega⟩,(Below.refl _ _).alloc (Nat.le_refl _) _⟩
theorem szLeafS_any(a:Option Addr)(len cap:Nat)(ls:List (Int×ByteArray))(z0:Nat)(w:World)(hz0:z0≤1048576)(h:LfRow w a len ls):
 Calls Tryz.prog 90 #[.slice a len cap,.int .i64 z0] w fun e w'=>(∃r:Int,e=.returned (.int .i64 r)∧-1≤r∧(0≤r→r+len≤z0)∧(0≤r→Tx ls))∧Below w.heap.size w w':=by
 obtain⟨h1,h2,h3,h4⟩:=h;unfold maxLen at h2;have H3:=hide h3;have H4:=hide h4;have H1:=hide h1;clear h3 h4 h1;have hw:IntKind.i64.wrap ((z0:Int)-len)=(z0:Int)-len:=by rw[IntKind.wrap_i64];omega
 by_cases hlt:(z0:Int)-len<0
 ·go_enter Tryz.func90,Tryz.ntmps90;go_wp2;go_ret;exact⟨⟨_,rfl,by omega,by omega,fun h=>by omega⟩,Below.refl _ _⟩
 ·go_enter Tryz.func90,Tryz.ntmps90;go_wp2;go_loopw [1,5] (fun lv iv wr=>∃(k z:Nat),k≤len∧z+len≤z0∧iv=.int .i64 k∧lv=.int .i64 z∧Hid (Tx (ls.take k))∧Hid (Below w.heap.size w wr)) (fun _ iv _=>len-(intOf iv).toNat)
  case atStart=>exact⟨0,z0-len,Nat.zero_le _,by omega,rfl,by congr 1;omega,(show Tx (ls.take 0)from fun t ht=>by simp at ht),Below.refl _ _⟩
  case round=>
   obtain⟨k,z,hk,hz,rfl,rfl,HX,HW⟩:=hrel;have hsz:=HW.out.size;by_cases hkl:(k:Int)<len
   ·obtain⟨b,off,rfl,hb,hc⟩:=H4.out (by omega)
    have hl1:=H1.out;have hkl2:k<ls.length:=by omega
    obtain⟨x,t,ht⟩:∃x t,ls[k]?=some (x,t):=⟨ls[k].1,ls[k].2,List.getElem?_eq_getElem hkl2⟩;have hts:=H3.out (x,t) (List.mem_of_getElem? ht);obtain⟨c1,c2⟩:=hc k (x,t) ht;rw[←HW.out.cell (show b<w.heap.size from hb)]at c1 c2;simp only at c1 c2 hts;have k0:(0:Int)≤k:=by omega
    have HT:=hide ht;clear ht hc hl1 hkl2;go_wp2_with fail;refine(szLeaf_any x t z _ hts (by omega)).mono ?_
    rintro e w1 ⟨⟨r,rfl,r1,r2,r3⟩,hb1⟩;have HW1:=hide (HW.out.trans (hb1.mono hsz));clear hb1 HW c1 c2;by_cases hr:r<0
    ·go_wp2;go_ret;exact⟨⟨_,rfl,by omega,by omega,fun h=>by omega⟩,HW1.out⟩
    ·have HX1:=hide (HX.out.succ HT.out (r3 (by omega)))
     clear r3;go_wp2;go_roundw
     case rel=>exact⟨k+1,r.toNat,by omega,by omega,by go_num,by congr 1;omega,HX1,HW1⟩
     case measure=>simp[intOf];omega
   ·have hke:k=len:=by omega
    have hx:=HX.out;rw[hke,List.take_of_length_le (by have:=H1.out;omega)]at hx
    have HX2:=hide hx;clear hx hke;go_wp2;go_ret;exact⟨⟨_,rfl,by omega,by omega,fun _=>HX2.out⟩,HW.out⟩
theorem szBlock_any(r:Rw)(z:Nat)(w:World)(hz:z≤1048576)(h:BkOne w r):
 Calls Tryz.prog 62 #[.agg #[.bool r.1,.int .i64 r.2.1,r.2.2.1],.int .i64 z] w fun e w'=>(∃q:Int,e=.returned (.int .i64 q)∧-1≤q∧(0≤q→q+r.2.2.2.length≤z)∧(0≤q→Tx r.2.2.2))∧Below w.heap.size w w':=by
 obtain⟨x,y,v,ls⟩:=r;obtain⟨a,n,cap,e,hl⟩:=h;simp only at e hl⊢;subst e;have HB:=hide ((Below.refl w.heap.size w).alloc (Nat.le_refl _) (.cells #[.bool x,.int .i64 y,.slice a n cap] 127));have HL:=hide (hl.below HB.out);have hn:=hl.1;clear hl;go_enter Tryz.func62,Tryz.ntmps62;go_wp2_with fail;refine(szLeafS_any a n cap ls z _ hz HL.out).mono ?_;rintro e w1 ⟨⟨q,rfl,q1,q2,q3⟩,b1⟩;have HB1:=hide (HB.out.trans (b1.mono HB.out.size));have HQ3:=hide q3;clear b1 q3;by_cases hq:q<0
 ·go_wp2;go_ret;exact⟨⟨_,rfl,by omega,by omega,fun h=>by omega⟩,HB1.out⟩
 ·go_wp2;go_ret;exact⟨⟨_,rfl,by omega,by omega,HQ3.out⟩,HB1.out⟩
theorem endB_succ(rs:List Rw)(k:Nat)(r:Rw)(h:rs[k]?=some r):endB 1 (rs.take (k+1))=endB 1 (rs.take k)+2+2*r.2.2.2.length:=by
 obtain⟨h1,h2⟩:=List.getElem?_eq_some_iff.1 h;rw[List.take_succ_eq_append_getElem h1,endB_snoc,h2]
theorem szBlockS_any(a:Option Addr)(len cap:Nat)(rs:List Rw)(z0:Nat)(w:World)(hz0:z0≤1048576)(h:BkRow w a len rs):
 Calls Tryz.prog 38 #[.slice a len cap,.int .i64 z0] w fun e w'=>(∃r:Int,e=.returned (.int .i64 r)∧-1≤r∧(0≤r→2*r+endB 1 rs≤2*z0+1)∧(0≤r→TxB rs))∧Below w.heap.size w w':=by
 have H:=hide h;obtain⟨h1,h2,h3,h4⟩:=h;unfold maxLen at h2;have H3:=hide h3;have H4:=hide h4;have H1:=hide h1;clear h3 h4 h1;have hw:IntKind.i64.wrap ((z0:Int)-len)=(z0:Int)-len:=by rw[IntKind.wrap_i64];omega
 by_cases hlt:(z0:Int)-len<0
 ·go_enter Tryz.func38,Tryz.ntmps38;go_wp2;go_ret;exact⟨⟨_,rfl,by omega,by omega,fun h=>by omega⟩,Below.refl _ _⟩
 ·go_enter Tryz.func38,Tryz.ntmps38;go_wp2;go_loopw [1,5] (fun lv iv wr=>∃(k z:Nat),k≤len∧z≤z0∧2*z+2*(len-k)+endB 1 (rs.take k)≤2*z0+1∧iv=.int .i64 k∧lv=.int .i64 z∧Hid (TxB (rs.take k))∧Hid (Below w.heap.size w wr)) (fun _ iv _=>len-(intOf iv).toNat)
  case atStart=>exact⟨0,z0-len,Nat.zero_le _,by omega,(by show _+1≤_;omega),rfl,by congr 1;omega,(show TxB (rs.take 0)from fun t ht=>by simp at ht),Below.refl _ _⟩
  case round=>
   obtain⟨k,z,hk,hzz,hz,rfl,rfl,HX,HW⟩:=hrel;have hsz:=HW.out.size;by_cases hkl:(k:Int)<len
   ·obtain⟨b,off,rfl,hb,hc⟩:=H4.out (by omega)
    have hl1:=H1.out;have hkl2:k<rs.length:=by omega
    have hr:rs[k]?=some rs[k]:=List.getElem?_eq_getElem hkl2;generalize rs[k]=r at hr;have hone:=(H3.out r (List.mem_of_getElem? hr)).below HW.out;obtain⟨x,y,v,ls⟩:=r;obtain⟨a1,n1,cap1,e1,hlf⟩:=hone;simp only at e1 hlf;subst e1;obtain⟨c1,c2,c3⟩:=hc k _ hr;rw[←HW.out.cell (show b<w.heap.size from hb)]at c1 c2 c3;simp only at c1 c2 c3;have k0:(0:Int)≤k:=by omega
    have HS:=hide (endB_succ rs k _ hr);have HONE:=hide (show BkOne wr (x,y,.slice a1 n1 cap1,ls)from⟨a1,n1,cap1,rfl,hlf⟩);have HR:=hide hr;clear hc hl1 hkl2 hr hlf;go_wp2_with fail;refine(szBlock_any (x,y,.slice a1 n1 cap1,ls) z _ (by omega) HONE.out).mono ?_
    rintro e w1 ⟨⟨r,rfl,r1,r2,r3⟩,hb1⟩;have HW1:=hide (HW.out.trans (hb1.mono hsz));clear hb1 HW c1 c2 c3;simp only at r2 r3;by_cases hr:r<0
    ·go_wp2;go_ret;exact⟨⟨_,rfl,by omega,by omega,fun h=>by omega⟩,HW1.out⟩
    ·have HX1:=hide (HX.out.succ HR.out (r3 (by omega)))
     clear r3;go_wp2;go_roundw
     case rel=>exact⟨k+1,r.toNat,by omega,by omega,(by have:=HS.out;omega),by go_num,by congr 1;omega,HX1,HW1⟩
     case measure=>simp[intOf];omega
   ·have hke:k=len:=by omega
    have hl1:=H1.out;rw[hke,List.take_of_length_le (by omega)]at hz
    have hx:=HX.out;rw[hke,List.take_of_length_le (by omega)]at hx
    have HX2:=hide hx;clear hx hl1;go_wp2;go_ret;exact⟨⟨_,rfl,by omega,by omega,fun _=>HX2.out⟩,HW.out⟩
theorem szFlash_any(a:Option Addr)(len cap:Nat)(rs:List Rw)(z0:Nat)(w:World)(hz0:z0≤1048576)(h:BkRow w a len rs):
 Calls Tryz.prog 22 #[.agg #[.slice a len cap],.int .i64 z0] w fun e w'=>(∃r:Int,e=.returned (.int .i64 r)∧-1≤r∧(0≤r→2*r+endB 1 rs≤2*z0+1)∧(0≤r→TxB rs))∧Below w.heap.size w w':=by
 have HB:=hide ((Below.refl w.heap.size w).alloc (Nat.le_refl _) (.cells #[.slice a len cap] 35));have HL:=hide (h.below HB.out);clear h;go_enter Tryz.func22,Tryz.ntmps22;go_wp2_with fail;refine(szBlockS_any a len cap rs z0 _ hz0 HL.out).mono ?_;rintro e w1 ⟨⟨q,rfl,q1,q2,q3⟩,b1⟩;have HB1:=hide (HB.out.trans (b1.mono HB.out.size));have HQ3:=hide q3;clear b1 q3;by_cases hq:q<0
 ·go_wp2;go_ret;exact⟨⟨_,rfl,by omega,by omega,fun h=>by omega⟩,HB1.out⟩
 ·go_wp2;go_ret;exact⟨⟨_,rfl,by omega,by omega,HQ3.out⟩,HB1.out⟩
theorem endB_len(k:Nat)(rs:List Rw):k+2*rs.length≤endB k rs:=by
 induction rs generalizing k with
 |nil=>exact Nat.le_refl _
 |cons r rs ih=>
  have:=ih (k+2+2*r.2.2.2.length);simp only[endB,List.length_cons];omega
theorem endB_one(k:Nat)(rs:List Rw)(r:Rw)(h:r∈rs):2*r.2.2.2.length≤endB k rs:=by
 induction rs generalizing k with
 |nil=>cases h
 |cons q rs ih=>
  rcases List.mem_cons.1 h with rfl|h
  ·have:=endB_le (k+2+2*r.2.2.2.length) rs;simp only[endB];omega
  ·exact ih _ h
theorem toLeaf_any(x:Int)(t:ByteArray)(w:World):
 Calls Tryz.prog 125 #[.agg #[.int .i64 x,.string t]] w fun e w'=>e=.returned (.agg #[.int .i64 x,.string t])∧Below w.heap.size w w':=by
 go_enter Tryz.func125,Tryz.ntmps125;go_wp2;have h1:=heap_alloc_new (w.alloc (.cells #[.int .i64 x,.string t] 194)) (.cells #[.int .i64 x,.string t] 130);have hs:(w.alloc (.cells #[.int .i64 x,.string t] 194)).heap.size=w.heap.size+1:=by simp
 rw[hs]at h1;have h2:=(Below.heap_alloc ((w.alloc (.cells #[.int .i64 x,.string t] 194)).alloc (.cells #[.int .i64 x,.string t] 130)) (.cells #[.int .i64 x,.string t] 130) (w.heap.size+1) (by simp)).trans h1
 exact bodyPost_ret (results_cell_row rfl _ _ (w.heap.size+1) 130 _ (0,0) _ rfl h2 Tryz.underlying130 rfl infoLeaf2) rfl ⟨rfl,(((Below.refl _ _).alloc (Nat.le_refl _) _).alloc (by simp) _).alloc (by simp;omega) _⟩
theorem lcells_put(ls:List (Int×ByteArray))(R:List Value)(j:Nat)(x:Int)(t:ByteArray)(hj:ls[j]?=some (x,t))(hR:R.length=ls.length*2):
 ((lcells (ls.take j)++R.drop (j*2)).set (j*2) (.int .i64 x)).set (j*2+1) (.string t)=lcells (ls.take (j+1))++R.drop ((j+1)*2):=by
 obtain⟨hj1,hj2⟩:=List.getElem?_eq_some_iff.1 hj;have hm:(lcells (ls.take j)).length=j*2:=by rw[lcells_len,List.length_take];congr 1;omega
 have e2:lcells [(x,t)]=[.int .i64 x,.string t]:=rfl;have e3:ls.take (j+1)=ls.take j++[(x,t)]:=by rw[List.take_succ_eq_append_getElem hj1,hj2]
 rw[e3,lcells_app,e2,List.set_append_right _ _ (by omega),List.set_append_right _ _ (by omega),hm,Nat.sub_self,Nat.add_sub_cancel_left,List.append_assoc]
 rw[List.drop_eq_getElem_cons (show j*2<R.length by omega),List.drop_eq_getElem_cons (show j*2+1<R.length by omega),show(j+1)*2=j*2+1+1 by omega]
 rfl
theorem toLeafS_any(a:Option Addr)(len cap:Nat)(ls:List (Int×ByteArray))(w:World)(hl:len≤1048576)(h:LfRow w a len ls):
 Calls Tryz.prog 105 #[.slice a len cap] w fun e w'=>∃v:Value,e=.returned v∧w'.ownsRow w.heap.size 130 2 v ls.length (lcells ls)∧Below w.heap.size w w':=by
 obtain⟨i0,hi,hz0,hz1,hz2⟩:=info_parts infoLeaf;obtain⟨h1,-,-,h4⟩:=h;have H4:=hide h4;have H1:=hide h1;clear h4 h1;go_enter Tryz.func105,Tryz.ntmps105;go_wp2_with (at_make;refine wpList_make_full _ rfl _ _ 97 rfl w.heap.size 130 i0 (.agg #[.int .i64 0,.string ⟨#[]⟩]) 2 Tryz.underlying97 hi hz0 hz1 .i64 .i64 _ _ len rfl rfl rfl rfl (by rw[hz2];omega) (by unfold maxLen;omega) (Nat.le_refl _) ?_)
 intro w1 hown hgrow;generalize(madeCells #[Value.int .i64 0,Value.string ⟨#[]⟩] (len*2)).toList=R at hown;have HR:Hid (R.length=ls.length*2):=by show _=_;rw[H1.out];exact hown.1
 have HO:=hide hown;have HB1:=hide ((Below.refl w.heap.size w).grown hgrow (Nat.le_refl _) (fun k hk=>by cases hk))
 have hg1:=(hown.lt w.heap.size rfl).2;clear hown hgrow;go_wp2;go_loopw [4] (fun iv wr=>∃k:Nat,k≤len∧iv=.int .i64 k∧Hid (wr.ownsRow w.heap.size 130 2 (.slice (some ⟨w.heap.size,0,none⟩) len len) len (lcells (ls.take k)++R.drop (k*2)))∧Hid (Below w.heap.size w wr)) (fun iv _=>len-(intOf iv).toNat)
 case atStart=>exact⟨0,Nat.zero_le _,rfl,HO,HB1⟩
 case round=>
  obtain⟨k,hk,rfl,HO2,HW⟩:=hrel;have hsz:=HW.out.size;by_cases hkl:(k:Int)<len
  ·obtain⟨b,off,rfl,hb,hc⟩:=H4.out (by omega)
   have hl1:=H1.out;have hkl2:k<ls.length:=by omega
   obtain⟨x,t,ht⟩:∃x t,ls[k]?=some (x,t):=⟨ls[k].1,ls[k].2,List.getElem?_eq_getElem hkl2⟩;obtain⟨c1,c2⟩:=hc k (x,t) ht;rw[←HW.out.cell (show b<w.heap.size from hb)]at c1 c2;simp only at c1 c2;have k0:(0:Int)≤k:=by omega
   clear hc hl1;go_wp2_with fail;refine(toLeaf_any x t _).mono ?_;rintro e w3 ⟨rfl,hb3⟩;have o3:=own_below HO2.out hb3;have hlen3:(lcells (ls.take k)++R.drop (k*2)).length=len*2:=HO2.out.1;have e3:∀d,d<2→∃u,w3.cell? ⟨w.heap.size,k*2+d,none⟩=some u:=by
    intro d hd;have:=o3.cells (g:=w.heap.size) rfl (k*2+d) _ (List.getElem?_eq_getElem (by rw[hlen3];omega))
    rw[addr_at]at this;exact⟨_,this⟩
   obtain⟨u0,d0⟩:=e3 0 (by omega)
   obtain⟨u1,d1⟩:=e3 1 (by omega)
   rw[Nat.add_zero]at d0;have f0:=o3.frozenAt (k*2);have f1:=o3.frozenAt (k*2+1);have o6:=fown_set (fown_set o3 rfl (k*2) (.int .i64 x)) rfl (k*2+1) (.string t);rw[lcells_put ls R k x t ht HR.out]at o6;have b6:=((HW.out.trans (hb3.mono hsz)).setCell (p:=⟨w.heap.size,k*2,none⟩) (Nat.le_refl _) (.int .i64 x)).setCell (p:=⟨w.heap.size,k*2+1,none⟩) (Nat.le_refl _) (.string t);have O6:=hide o6;have B6:=hide b6;clear o3 o6 b6 hlen3 e3 hb3 HW HO2 c1 c2 ht hkl2;go_wp2;go_roundw
   case rel=>exact⟨k+1,by omega,by go_num,O6,B6⟩
   case measure=>simp[intOf];omega
  ·have hke:k=len:=by omega
   have hO:=HO2.out;have hl1:=H1.out;have hr1:=HR.out;rw[hke,List.take_of_length_le (by omega),List.drop_eq_nil_of_le (by omega),List.append_nil]at hO
   have HO3:=hide hO;clear hO hke hl1 hr1;go_wp2;go_ret;exact⟨_,rfl,(by rw[H1.out];exact HO3.out),HW.out⟩
theorem toBlock_any(r:Rw)(w:World)(hl:r.2.2.2.length≤1048576)(h:BkOne w r):
 Calls Tryz.prog 70 #[.agg #[.bool r.1,.int .i64 r.2.1,r.2.2.1]] w fun e w'=>∃v:Value,e=.returned (.agg #[.bool r.1,.int .i64 r.2.1,v])∧w'.ownsRow w.heap.size 130 2 v r.2.2.2.length (lcells r.2.2.2)∧Below w.heap.size w w':=by
 obtain⟨x,y,v,ls⟩:=r;obtain⟨a,n,cap,e,hr⟩:=h;simp only at e hr hl⊢;subst e;have hn:=hr.1;subst hn;have HB:=hide ((((Below.refl w.heap.size w).alloc (Nat.le_refl _) (.cells #[.bool x,.int .i64 y,.slice a ls.length cap] 127)).alloc (by simp) (.cells #[.bool false,.int .i64 0,.slice none 0 0] 99)).alloc (by simp;omega) (.cells #[.bool x,.int .i64 y,.slice none 0 0] 99))
 have HL:=hide (hr.below HB.out);have g2:=heap_alloc_new ((w.alloc (.cells #[.bool x,.int .i64 y,.slice a ls.length cap] 127)).alloc (.cells #[.bool false,.int .i64 0,.slice none 0 0] 99)) (.cells #[.bool x,.int .i64 y,.slice none 0 0] 99);have g1:=heap_alloc_new (w.alloc (.cells #[.bool x,.int .i64 y,.slice a ls.length cap] 127)) (.cells #[.bool false,.int .i64 0,.slice none 0 0] 99);have g1:=(Below.heap_alloc ((w.alloc (.cells #[.bool x,.int .i64 y,.slice a ls.length cap] 127)).alloc (.cells #[.bool false,.int .i64 0,.slice none 0 0] 99)) (.cells #[.bool x,.int .i64 y,.slice none 0 0] 99) _ (by simp)).trans g1
 rw[show((w.alloc (.cells #[.bool x,.int .i64 y,.slice a ls.length cap] 127)).alloc (.cells #[.bool false,.int .i64 0,.slice none 0 0] 99)).heap.size=w.heap.size+1+1 by simp]at g2
 rw[show(w.alloc (.cells #[.bool x,.int .i64 y,.slice a ls.length cap] 127)).heap.size=w.heap.size+1 by simp]at g1
 have G1:=hide g1;have G2:=hide g2;clear hr g1 g2;go_enter Tryz.func70,Tryz.ntmps70;go_wp2_with fail;refine(toLeafS_any a ls.length cap ls _ (by omega) HL.out).mono ?_
 rintro e w1 ⟨v,rfl,o1,b1⟩;have HB1:=hide (HB.out.trans (b1.mono HB.out.size));have g1:=(b1.block _ (by simp)).trans G1.out
 have g2:=(b1.block _ (by simp)).trans G2.out
 have o1:=own_down o1 (show w.heap.size+1+1+1≤_ by simp)
 have o2:=own_cell (own_cell (own_cell (own_cell o1 (show w.heap.size+1+1<_ by omega) 2 v) (show w.heap.size+1<_ by omega) 0 (.bool x)) (show w.heap.size+1<_ by omega) 1 (.int .i64 y)) (show w.heap.size+1<_ by omega) 2 v
 obtain⟨ad,capv,rfl,-,-,-⟩:=frow_form o1;have c20:=cell_of_row _ _ 0 _ _ _ g2;have c21:=cell_of_row _ _ 1 _ _ _ g2;have c22:=cell_of_row _ _ 2 _ _ _ g2;have c10:=cell_of_row _ _ 0 _ _ _ g1;have c11:=cell_of_row _ _ 1 _ _ _ g1;have c12:=cell_of_row _ _ 2 _ _ _ g1;have f20:=frozen_of_row _ _ 2 _ _ g2;have f10:=frozen_of_row _ _ 0 _ _ g1;have f11:=frozen_of_row _ _ 1 _ _ g1;have f12:=frozen_of_row _ _ 2 _ _ g1;simp at c20 c21 c22 c10 c11 c12;have q1:=row_set_ne g1 (show w.heap.size+1≠w.heap.size+1+1 by omega) 2 (.slice ad ls.length capv)
 have Q2:=hide (row_set (row_set (row_set q1 0 (.bool x)) 1 (.int .i64 y)) 2 (.slice ad ls.length capv));have HO:=hide o2;clear g1 g2 q1 o1 o2 b1;go_wp2;exact bodyPost_ret (results_cell_row rfl _ _ (w.heap.size+1) 99 _ (0,0) _ rfl Q2.out Tryz.underlying99 rfl infoBlock3) rfl ⟨_,rfl,own_down HO.out (by omega),((((HB1.out).setCell (p:=⟨w.heap.size+1+1,2,none⟩) (by show _≤_+1+1;omega) _).setCell (p:=⟨w.heap.size+1,0,none⟩) (by show _≤_+1;omega) _).setCell (p:=⟨w.heap.size+1,1,none⟩) (by show _≤_+1;omega) _).setCell (p:=⟨w.heap.size+1,2,none⟩) (by show _≤_+1;omega) _⟩
end Go.Proofs.YtiicghepilbgfaaGreatDoor
