/-
  FSz
-/
import Derived.Test.YtpdoponghlpkcaaDoorPk16
import Derived.Test.YtpdoponghlpkcaaDoorPk5
set_option maxHeartbeats 400000
set_option maxRecDepth 100000
namespace Go.Proofs.YtpdoponghlpkcaaDoor
open Go.RowKit
theorem szLeaf_any(x:Int)(t:ByteArray)(z:Nat)(w:World)(ht:t.size≤maxLen)(hz:z≤1048576):
 Calls Tryd.prog 71 #[.agg #[.int .i64 x,.string t],.int .i64 z] w fun e w'=>(∃r:Int,e=.returned (.int .i64 r)∧-1≤r∧r≤z∧(0≤r→t.size≤1048576))∧Below w.heap.size w w':=by
 unfold maxLen at ht;have hw:IntKind.i64.wrap ((z:Int)-t.size)=(z:Int)-t.size:=by rw[IntKind.wrap_i64];omega
 by_cases h:(z:Int)-t.size<0
 ·go_enter Tryd.func71,Tryd.ntmps71;go_wp2;go_ret;exact⟨⟨_,rfl,by omega,by omega,by omega⟩,(Below.refl _ _).alloc (Nat.le_refl _) _⟩
 ·go_enter Tryd.func71,Tryd.ntmps71;go_wp2;go_ret;exact⟨⟨_,rfl,by omega,by omega,by omega⟩,(Below.refl _ _).alloc (Nat.le_refl _) _⟩
theorem szLeafS_any(a:Option Addr)(len cap:Nat)(ls:List (Int×ByteArray))(z0:Nat)(w:World)(hz0:z0≤1048576)(h:LfRow w a len ls):
 Calls Tryd.prog 52 #[.slice a len cap,.int .i64 z0] w fun e w'=>(∃r:Int,e=.returned (.int .i64 r)∧-1≤r∧(0≤r→r+len≤z0)∧(0≤r→Tx ls))∧Below w.heap.size w w':=by
 obtain⟨h1,h2,h3,h4⟩:=h;unfold maxLen at h2;have H3:=hide h3;have H4:=hide h4;have H1:=hide h1;clear h3 h4 h1;have hw:IntKind.i64.wrap ((z0:Int)-len)=(z0:Int)-len:=by rw[IntKind.wrap_i64];omega
 by_cases hlt:(z0:Int)-len<0
 ·go_enter Tryd.func52,Tryd.ntmps52;go_wp2;go_ret;exact⟨⟨_,rfl,by omega,by omega,fun h=>by omega⟩,Below.refl _ _⟩
 ·go_enter Tryd.func52,Tryd.ntmps52;go_wp2;go_loopw [1,5] (fun lv iv wr=>∃(k z:Nat),k≤len∧z+len≤z0∧iv=.int .i64 k∧lv=.int .i64 z∧Hid (Tx (ls.take k))∧Hid (Below w.heap.size w wr)) (fun _ iv _=>len-(intOf iv).toNat)
  case atStart=>exact⟨0,z0-len,Nat.zero_le _,by omega,rfl,by congr 1;omega,(show Tx (ls.take 0)from fun t ht=>by simp at ht),Below.refl _ _⟩
  case round=>
   obtain⟨k,z,hk,hz,rfl,rfl,HX,HW⟩:=hrel;have hsz:=HW.out.size;by_cases hkl:(k:Int)<len
   ·obtain⟨b,off,rfl,hb,hc⟩:=H4.out (by omega)
    have hl1:=H1.out;have hkl2:k<ls.length:=by omega
    obtain⟨x,t,ht⟩:∃x t,ls[k]?=some (x,t):=⟨ls[k].1,ls[k].2,List.getElem?_eq_getElem hkl2⟩;have hts:=H3.out (x,t) (List.mem_of_getElem? ht);obtain⟨c1,c2⟩:=hc k (x,t) ht;rw[←HW.out.cell (show b<w.heap.size from hb)]at c1 c2;simp only at c1 c2 hts;have k0:(0:Int)≤k:=by omega
    have HT:=hide ht;clear ht hc hl1 hkl2;go_wp2_with fail;refine(szLeaf_any x t z _ hts (by omega)).mono ?_
    rintro e w1 ⟨⟨r,rfl,r1,r2,r3⟩,hb1⟩;have HW1:=hide (HW.out.trans (hb1.mono hsz));clear hb1 HW c1 c2;by_cases hr:r<0
    ·go_wp2;go_ret;exact⟨⟨_,rfl,by omega,by omega,fun h=>by omega⟩,HW1.out⟩
    ·have HX1:=hide (HX.out.succ HT.out (r3 (by omega)))
     clear r3;go_wp2;go_roundw
     case rel=>exact⟨k+1,r.toNat,by omega,by omega,by go_num,by congr 1;omega,HX1,HW1⟩
     case measure=>simp[intOf];omega
   ·have hke:k=len:=by omega
    have hx:=HX.out;rw[hke,List.take_of_length_le (by have:=H1.out;omega)]at hx
    have HX2:=hide hx;clear hx hke;go_wp2;go_ret;exact⟨⟨_,rfl,by omega,by omega,fun _=>HX2.out⟩,HW.out⟩
theorem szBlock_any(r:Rw)(z:Nat)(w:World)(hz:z≤1048576)(h:BkOne w r):
 Calls Tryd.prog 37 #[.agg #[.bool r.1,.int .i64 r.2.1,r.2.2.1],.int .i64 z] w fun e w'=>(∃q:Int,e=.returned (.int .i64 q)∧-1≤q∧(0≤q→q+r.2.2.2.length≤z)∧(0≤q→Tx r.2.2.2))∧Below w.heap.size w w':=by
 obtain⟨x,y,v,ls⟩:=r;obtain⟨a,n,cap,e,hl⟩:=h;simp only at e hl⊢;subst e;have HB:=hide ((Below.refl w.heap.size w).alloc (Nat.le_refl _) (.cells #[.bool x,.int .i64 y,.slice a n cap] 90));have HL:=hide (hl.below HB.out);have hn:=hl.1;clear hl;go_enter Tryd.func37,Tryd.ntmps37;go_wp2_with fail;refine(szLeafS_any a n cap ls z _ hz HL.out).mono ?_;rintro e w1 ⟨⟨q,rfl,q1,q2,q3⟩,b1⟩;have HB1:=hide (HB.out.trans (b1.mono HB.out.size));have HQ3:=hide q3;clear b1 q3;by_cases hq:q<0
 ·go_wp2;go_ret;exact⟨⟨_,rfl,by omega,by omega,fun h=>by omega⟩,HB1.out⟩
 ·go_wp2;go_ret;exact⟨⟨_,rfl,by omega,by omega,HQ3.out⟩,HB1.out⟩
theorem endB_succ(rs:List Rw)(k:Nat)(r:Rw)(h:rs[k]?=some r):endB 1 (rs.take (k+1))=endB 1 (rs.take k)+2+2*r.2.2.2.length:=by
 obtain⟨h1,h2⟩:=List.getElem?_eq_some_iff.1 h;rw[List.take_succ_eq_append_getElem h1,endB_snoc,h2]
theorem szBlockS_any(a:Option Addr)(len cap:Nat)(rs:List Rw)(z0:Nat)(w:World)(hz0:z0≤1048576)(h:BkRow w a len rs):
 Calls Tryd.prog 21 #[.slice a len cap,.int .i64 z0] w fun e w'=>(∃r:Int,e=.returned (.int .i64 r)∧-1≤r∧(0≤r→2*r+endB 1 rs≤2*z0+1)∧(0≤r→TxB rs))∧Below w.heap.size w w':=by
 have H:=hide h;obtain⟨h1,h2,h3,h4⟩:=h;unfold maxLen at h2;have H3:=hide h3;have H4:=hide h4;have H1:=hide h1;clear h3 h4 h1;have hw:IntKind.i64.wrap ((z0:Int)-len)=(z0:Int)-len:=by rw[IntKind.wrap_i64];omega
 by_cases hlt:(z0:Int)-len<0
 ·go_enter Tryd.func21,Tryd.ntmps21;go_wp2;go_ret;exact⟨⟨_,rfl,by omega,by omega,fun h=>by omega⟩,Below.refl _ _⟩
 ·go_enter Tryd.func21,Tryd.ntmps21;go_wp2;go_loopw [1,5] (fun lv iv wr=>∃(k z:Nat),k≤len∧z≤z0∧2*z+2*(len-k)+endB 1 (rs.take k)≤2*z0+1∧iv=.int .i64 k∧lv=.int .i64 z∧Hid (TxB (rs.take k))∧Hid (Below w.heap.size w wr)) (fun _ iv _=>len-(intOf iv).toNat)
  case atStart=>exact⟨0,z0-len,Nat.zero_le _,by omega,(by show _+1≤_;omega),rfl,by congr 1;omega,(show TxB (rs.take 0)from fun t ht=>by simp at ht),Below.refl _ _⟩
  case round=>
   obtain⟨k,z,hk,hzz,hz,rfl,rfl,HX,HW⟩:=hrel;have hsz:=HW.out.size;by_cases hkl:(k:Int)<len
   ·obtain⟨b,off,rfl,hb,hc⟩:=H4.out (by omega)
    have hl1:=H1.out;have hkl2:k<rs.length:=by omega
    have hr:rs[k]?=some rs[k]:=List.getElem?_eq_getElem hkl2;generalize rs[k]=r at hr;have hone:=(H3.out r (List.mem_of_getElem? hr)).below HW.out;obtain⟨x,y,v,ls⟩:=r;obtain⟨a1,n1,cap1,e1,hlf⟩:=hone;simp only at e1 hlf;subst e1;obtain⟨c1,c2,c3⟩:=hc k _ hr;rw[←HW.out.cell (show b<w.heap.size from hb)]at c1 c2 c3;simp only at c1 c2 c3;have k0:(0:Int)≤k:=by omega
    have HS:=hide (endB_succ rs k _ hr);have HONE:=hide (show BkOne wr (x,y,.slice a1 n1 cap1,ls)from⟨a1,n1,cap1,rfl,hlf⟩);have HR:=hide hr;clear hc hl1 hkl2 hr hlf;go_wp2_with fail;refine(szBlock_any (x,y,.slice a1 n1 cap1,ls) z _ (by omega) HONE.out).mono ?_
    rintro e w1 ⟨⟨r,rfl,r1,r2,r3⟩,hb1⟩;have HW1:=hide (HW.out.trans (hb1.mono hsz));clear hb1 HW c1 c2 c3;simp only at r2 r3;by_cases hr:r<0
    ·go_wp2;go_ret;exact⟨⟨_,rfl,by omega,by omega,fun h=>by omega⟩,HW1.out⟩
    ·have HX1:=hide (HX.out.succ HR.out (r3 (by omega)))
     clear r3;go_wp2;go_roundw
     case rel=>exact⟨k+1,r.toNat,by omega,by omega,(by have:=HS.out;omega),by go_num,by congr 1;omega,HX1,HW1⟩
     case measure=>simp[intOf];omega
   ·have hke:k=len:=by omega
    have hl1:=H1.out;rw[hke,List.take_of_length_le (by omega)]at hz
    have hx:=HX.out;rw[hke,List.take_of_length_le (by omega)]at hx
    have HX2:=hide hx;clear hx hl1;go_wp2;go_ret;exact⟨⟨_,rfl,by omega,by omega,fun _=>HX2.out⟩,HW.out⟩
theorem szFlash_any(a:Option Addr)(len cap:Nat)(rs:List Rw)(z0:Nat)(w:World)(hz0:z0≤1048576)(h:BkRow w a len rs):
 Calls Tryd.prog 9 #[.agg #[.slice a len cap],.int .i64 z0] w fun e w'=>(∃r:Int,e=.returned (.int .i64 r)∧-1≤r∧(0≤r→2*r+endB 1 rs≤2*z0+1)∧(0≤r→TxB rs))∧Below w.heap.size w w':=by
 have HB:=hide ((Below.refl w.heap.size w).alloc (Nat.le_refl _) (.cells #[.slice a len cap] 24));have HL:=hide (h.below HB.out);clear h;go_enter Tryd.func9,Tryd.ntmps9;go_wp2_with fail;refine(szBlockS_any a len cap rs z0 _ hz0 HL.out).mono ?_;rintro e w1 ⟨⟨q,rfl,q1,q2,q3⟩,b1⟩;have HB1:=hide (HB.out.trans (b1.mono HB.out.size));have HQ3:=hide q3;clear b1 q3;by_cases hq:q<0
 ·go_wp2;go_ret;exact⟨⟨_,rfl,by omega,by omega,fun h=>by omega⟩,HB1.out⟩
 ·go_wp2;go_ret;exact⟨⟨_,rfl,by omega,by omega,HQ3.out⟩,HB1.out⟩
theorem endB_len(k:Nat)(rs:List Rw):k+2*rs.length≤endB k rs:=by
 induction rs generalizing k with
 |nil=>exact Nat.le_refl _
 |cons r rs ih=>
  have:=ih (k+2+2*r.2.2.2.length);simp only[endB,List.length_cons];omega
theorem endB_one(k:Nat)(rs:List Rw)(r:Rw)(h:r∈rs):2*r.2.2.2.length≤endB k rs:=by
 induction rs generalizing k with
 |nil=>cases h
 |cons q rs ih=>
  rcases List.mem_cons.1 h with rfl|h
  ·have:=endB_le (k+2+2*r.2.2.2.length) rs;simp only[endB];omega
  ·exact ih _ h
end Go.Proofs.YtpdoponghlpkcaaDoor
