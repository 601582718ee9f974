/-
  KnTo
-/
import Derived.Test.YtiicghepilbgfaaGreatDoorPk2
import Derived.Test.YtiicghepilbgfaaGreatDoorPk40
set_option maxHeartbeats 1000000
set_option maxRecDepth 100000
namespace Go.Proofs.YtiicghepilbgfaaGreatDoor
open Go.RowKit
open Words
theorem szIs_any(a:Option Addr)(n c z:Nat)(w:World)(hz:z≤1048576)(hn:n≤maxLen):
 Calls Tryz.prog 122 #[.slice a n c,.int .i64 z] w fun e w'=>(∃r:Int,e=.returned (.int .i64 r)∧-1≤r∧r≤z∧(0≤r→r+n≤z))∧w'=w:=by
 unfold maxLen at hn;have hw:IntKind.i64.wrap ((z:Int)-n)=(z:Int)-n:=by rw[IntKind.wrap_i64];omega
 by_cases h:(z:Int)-n<0
 ·go_enter Tryz.func122,Tryz.ntmps122;go_wp2;go_ret;exact⟨⟨_,rfl,by omega,by omega,by omega⟩,rfl⟩
 ·go_enter Tryz.func122,Tryz.ntmps122;go_wp2;go_ret;exact⟨⟨_,rfl,by omega,by omega,by omega⟩,rfl⟩
theorem szKn_any(x:Bool)(a:Option Addr)(n c z:Nat)(w:World)(hn:n≤maxLen)(hz:z≤1048576):
 Calls Tryz.prog 91 #[.agg #[.bool x,.slice a n c],.int .i64 z] w fun e w'=>(∃r:Int,e=.returned (.int .i64 r)∧-1≤r∧r≤z∧(0≤r→r+n≤z))∧Below w.heap.size w w':=by
 have HB:=hide ((Below.refl w.heap.size w).alloc (Nat.le_refl _) (.cells #[.bool x,.slice a n c] 162));go_enter Tryz.func91,Tryz.ntmps91;go_wp2_with fail;refine(szIs_any a n c z _ hz hn).mono ?_;rintro e w1 ⟨⟨r,rfl,r1,r2,r3⟩,rfl⟩;have R3:=hide r3;clear r3;by_cases hr:r<0
 ·go_wp2;go_ret;exact⟨⟨_,rfl,by omega,by omega,by omega⟩,HB.out⟩
 ·go_wp2;go_ret;exact⟨⟨_,rfl,by omega,by omega,R3.out⟩,HB.out⟩
def ksum(l:List Kw):Nat:=(l.map (fun t=>t.2.2.length)).sum
theorem ksum_succ{l:List Kw}{k:Nat}{t:Kw}(h:l[k]?=some t):ksum (l.take (k+1))=ksum (l.take k)+t.2.2.length:=by
 rw[List.take_add_one,h];simp[ksum]
theorem ksum_mem{l:List Kw}{t:Kw}(h:t∈l):t.2.2.length≤ksum l:=by
 unfold ksum
 induction l with
 |nil=>cases h
 |cons q l ih=>
  rw[List.map_cons,List.sum_cons];rcases List.mem_cons.1 h with e|e
  ·subst e;omega
  ·have:=ih e;omega
theorem szKns_any(a:Option Addr)(len cap:Nat)(rs:List Kw)(z0:Nat)(w:World)(hz0:z0≤1048576)(h:KnRd w a len rs):
 Calls Tryz.prog 63 #[.slice a len cap,.int .i64 z0] w fun e w'=>(∃r:Int,e=.returned (.int .i64 r)∧-1≤r∧r≤z0∧(0≤r→r+len+ksum rs≤z0))∧Below w.heap.size w w':=by
 have H:=hide h;have h2:=h.2.1;have H1:=hide h.1;unfold maxLen at h2;clear h;have hw:IntKind.i64.wrap ((z0:Int)-len)=(z0:Int)-len:=by rw[IntKind.wrap_i64];omega
 by_cases hlt:(z0:Int)-len<0
 ·go_enter Tryz.func63,Tryz.ntmps63;go_wp2;go_ret;exact⟨⟨_,rfl,by omega,by omega,fun h=>by omega⟩,Below.refl _ _⟩
 ·go_enter Tryz.func63,Tryz.ntmps63;go_wp2;go_loopw [1,5] (fun lv iv wr=>∃(k z:Nat),k≤len∧z+len≤z0∧iv=.int .i64 k∧lv=.int .i64 z∧Hid (z+len+ksum (rs.take k)≤z0)∧Hid (Below w.heap.size w wr)) (fun _ iv _=>len-(intOf iv).toNat)
  case atStart=>exact⟨0,z0-len,Nat.zero_le _,by omega,rfl,by congr 1;omega,(by show _≤_;simp only[List.take_zero,ksum,List.map_nil,List.sum_nil];omega),Below.refl _ _⟩
  case round=>
   obtain⟨k,z,hk,hz,rfl,rfl,HX,HW⟩:=hrel;have hsz:=HW.out.size;by_cases hkl:(k:Int)<len
   ·have hkl2:k<rs.length:=by have:=H1.out;omega
    obtain⟨r0,hr0⟩:∃r,rs[k]?=some r:=⟨_,List.getElem?_eq_getElem hkl2⟩;obtain⟨b,off,rfl,-,c0,c1⟩:=(H.out.below HW.out).at hr0;obtain⟨sa,sc,hsv,-,hrow⟩:=H.out.2.2.1 r0 (List.mem_of_getElem? hr0);have HS:=hide (ksum_succ hr0);have hnl:=hrow.2.1;obtain⟨x0,sv,ls⟩:=r0;simp only at c0 c1 hsv HS hnl;subst hsv;have k0:(0:Int)≤k:=by omega
    obtain⟨n,hn⟩:∃n,ls.length=n:=⟨_,rfl⟩;rw[hn]at c1 HS hnl;clear hr0 hkl2 hrow hn;go_wp2_with fail;refine(szKn_any x0 sa n sc z _ hnl (by omega)).mono ?_
    rintro e w1 ⟨⟨r,rfl,r1,r2,r3⟩,hb1⟩;have HW1:=hide (HW.out.trans (hb1.mono hsz));clear hb1 HW c0 c1;by_cases hr:r<0
    ·go_wp2;go_ret;exact⟨⟨_,rfl,by omega,by omega,fun h=>by omega⟩,HW1.out⟩
    ·have HX1:Hid (r.toNat+len+ksum (rs.take (k+1))≤z0):=by
      have h5:=HX.out;have h6:=r3 (by omega)
      show _≤_;rw[HS.out];omega
     clear r3;go_wp2;go_roundw
     case rel=>exact⟨k+1,r.toNat,by omega,by omega,by go_num,by congr 1;omega,HX1,HW1⟩
     case measure=>simp[intOf];omega
   ·have hke:k=rs.length:=by have:=H1.out;omega
    have HX1:Hid (z+len+ksum rs≤z0):=by have:=HX.out;rw[hke,List.take_length]at this;exact this
    clear hke HX;go_wp2;go_ret;exact⟨⟨_,rfl,by omega,by omega,fun _=>by have:=HX1.out;omega⟩,HW.out⟩
theorem szAr_any(a:Option Addr)(len cap:Nat)(rs:List Kw)(z0:Nat)(w:World)(hz0:z0≤1048576)(h:KnRd w a len rs):
 Calls Tryz.prog 40 #[.agg #[.slice a len cap],.int .i64 z0] w fun e w'=>(∃r:Int,e=.returned (.int .i64 r)∧-1≤r∧r≤z0∧(0≤r→r+len+ksum rs≤z0))∧Below w.heap.size w w':=by
 have bA:=(Below.refl w.heap.size w).alloc (Nat.le_refl _) (.cells #[.slice a len cap] 39);have HB:=hide bA;have C:=hide (szKns_any a len cap rs z0 _ hz0 (h.below bA));clear bA h;go_enter Tryz.func40,Tryz.ntmps40;go_wp2_with fail;refine C.out.mono ?_;rintro e w1 ⟨⟨r,rfl,r1,r2,r3⟩,b1⟩;have R3:=hide r3;have B1:=hide (HB.out.trans (b1.mono HB.out.size));clear r3 b1 C HB;by_cases hr:r<0
 ·go_wp2;go_ret;exact⟨⟨_,rfl,by omega,by omega,by omega⟩,B1.out⟩
 ·go_wp2;go_ret;exact⟨⟨_,rfl,by omega,by omega,R3.out⟩,B1.out⟩
theorem icells_put(ls:List Int)(R:List Value)(j:Nat)(x:Int)(hj:ls[j]?=some x)(hR:R.length=ls.length):(icells (ls.take j)++R.drop j).set j (.int .i64 x)=icells (ls.take (j+1))++R.drop (j+1):=by
 obtain⟨hj1,hj2⟩:=List.getElem?_eq_some_iff.1 hj;have hm:(icells (ls.take j)).length=j:=by simp[icells];omega
 have e3:ls.take (j+1)=ls.take j++[x]:=by rw[List.take_succ_eq_append_getElem hj1,hj2]
 rw[e3,List.set_append_right _ _ (by omega),hm,Nat.sub_self,List.drop_eq_getElem_cons (show j<R.length by omega),List.set_cons_zero]
 unfold icells;rw[List.map_append,List.append_assoc];rfl
theorem toIs_any(a:Option Addr)(len cap:Nat)(ls:List Int)(w:World)(hl:len≤1048576)(h:IRow w a len ls):
 Calls Tryz.prog 126 #[.slice a len cap] w fun e w'=>∃g:Nat,e=.returned (.slice (some ⟨g,0,none⟩) len len)∧w'.ownsRow w.heap.size 3 1 (.slice (some ⟨g,0,none⟩) len len) ls.length (icells ls)∧Below w.heap.size w w':=by
 obtain⟨i0,hi,hz0,hz1,hz2⟩:=info_parts infoInt;have H:=hide h;have H1:=hide h.1;clear h;go_enter Tryz.func126,Tryz.ntmps126;go_wp2_with (at_make;refine wpList_make_full _ rfl _ _ 160 rfl w.heap.size 3 i0 (.int .i64 0) 1 Tryz.underlying160 hi hz0 hz1 .i64 .i64 _ _ len rfl rfl rfl rfl (by rw[hz2];omega) (by unfold maxLen;omega) (Nat.le_refl _) ?_)
 intro w1 hown hgrow;generalize(madeCells #[Value.int .i64 0] len).toList=R at hown;have HR:Hid (R.length=ls.length):=by show _=_;rw[H1.out];have:=hown.1;omega
 have HO:=hide hown;have HB1:=hide ((Below.refl w.heap.size w).grown hgrow (Nat.le_refl _) (fun k hk=>by cases hk))
 clear hown hgrow hi hz0 hz1 hz2;go_wp2;go_loopw [4] (fun iv wr=>∃k:Nat,k≤len∧iv=.int .i64 k∧Hid (wr.ownsRow w.heap.size 3 1 (.slice (some ⟨w.heap.size,0,none⟩) len len) len (icells (ls.take k)++R.drop k))∧Hid (Below w.heap.size w wr)) (fun iv _=>len-(intOf iv).toNat)
 case atStart=>exact⟨0,Nat.zero_le _,rfl,HO,HB1⟩
 case round=>
  obtain⟨k,hk,rfl,HO2,HW⟩:=hrel;by_cases hkl:(k:Int)<len
  ·have hkl2:k<ls.length:=by have:=H1.out;omega
   obtain⟨x,hx⟩:∃x,ls[k]?=some x:=⟨_,List.getElem?_eq_getElem hkl2⟩;obtain⟨b,off,rfl,-,c0⟩:=(H.out.below HW.out).at hx;have k0:(0:Int)≤k:=by omega
   have hlen3:(icells (ls.take k)++R.drop k).length=len*1:=HO2.out.1;obtain⟨u0,d0⟩:∃u,wr.cell? ⟨w.heap.size,k,none⟩=some u:=by
    have:=HO2.out.cells (g:=w.heap.size) rfl k _ (List.getElem?_eq_getElem (by rw[hlen3];omega))
    rw[addr_at]at this;exact⟨_,this⟩
   have f0:=HO2.out.frozenAt k;have o6:=fown_set HO2.out rfl k (.int .i64 x);rw[icells_put ls R k x hx HR.out]at o6;have O6:=hide o6;have B6:=hide (HW.out.setCell (p:=⟨w.heap.size,k,none⟩) (Nat.le_refl _) (.int .i64 x));clear o6 hlen3 HW HO2 hx hkl2;go_wp2;go_roundw
   case rel=>exact⟨k+1,by omega,by go_num,O6,B6⟩
   case measure=>simp[intOf];omega
  ·have hke:k=ls.length:=by have:=H1.out;omega
   have hO:=HO2.out;have hr1:=HR.out;rw[hke,List.take_length,List.drop_eq_nil_of_le (by omega),List.append_nil]at hO
   have HO3:=hide hO;clear hO hke hr1;go_wp2;go_ret;exact⟨_,rfl,(by rw[H1.out];exact HO3.out),HW.out⟩
theorem kn_set2{w:World}{g:Nat}{cs:Array Value}{x y:Value}(h:w.heap[g]?=some (.cells cs 176 (0,0))):((w.setCell ⟨g,0,none⟩ x).setCell ⟨g,1,none⟩ y).heap[g]?=some (.cells ((cs.setIfInBounds 0 x).setIfInBounds 1 y) 176 (0,0)):=
 row_set (row_set h 0 x) 1 y
theorem below_kn2k{B g k:Nat}{a w:World}{x y:Value}(h:Below B a w)(hg:B≤g):Below B a ((w.setCell ⟨g,k*2,none⟩ x).setCell ⟨g,k*2+1,none⟩ y):=
 (h.setCell (p:=⟨g,k*2,none⟩) hg x).setCell (p:=⟨g,k*2+1,none⟩) hg y
theorem toKn_any(x:Bool)(a:Option Addr)(n c:Nat)(ls:List Int)(w:World)(hn:ls.length=n)(hl:n≤1048576)(h:IRow w a n ls):
 Calls Tryz.prog 106 #[.agg #[.bool x,.slice a n c]] w fun e w'=>∃g:Nat,e=.returned (.agg #[.bool x,.slice (some ⟨g,0,none⟩) n n])∧Sli 3 w.heap.size w'.heap.size (.slice (some ⟨g,0,none⟩) n n) n (icells ls) w'∧Below w.heap.size w w':=by
 have za:(w.alloc (.cells #[.bool x,.slice a n c] 162)).heap.size=w.heap.size+1:=by simp
 have zb:((w.alloc (.cells #[.bool x,.slice a n c] 162)).alloc (.cells #[.bool false,.slice none 0 0] 176)).heap.size=w.heap.size+1+1:=by simp
 have R0:=hide (heap_alloc_new (w.alloc (.cells #[.bool x,.slice a n c] 162)) (.cells #[.bool false,.slice none 0 0] 176));have O0:=hide (heap_alloc_new ((w.alloc (.cells #[.bool x,.slice a n c] 162)).alloc (.cells #[.bool false,.slice none 0 0] 176)) (.cells #[.bool x,.slice none 0 0] 176));rw[za]at R0;rw[zb]at O0;have R1:=hide ((Below.heap_alloc ((w.alloc (.cells #[.bool x,.slice a n c] 162)).alloc (.cells #[.bool false,.slice none 0 0] 176)) (.cells #[.bool x,.slice none 0 0] 176) (w.heap.size+1) (by simp)).trans R0.out)
 have B0:Hid (Below w.heap.size w (((w.alloc (.cells #[.bool x,.slice a n c] 162)).alloc (.cells #[.bool false,.slice none 0 0] 176)).alloc (.cells #[.bool x,.slice none 0 0] 176))):=(((Below.refl _ _).alloc (Nat.le_refl _) _).alloc (by simp) _).alloc (by simp;omega) _
 have C:=hide (toIs_any a n c ls _ hl (h.below B0.out));have HN:=hide hn;clear za zb R0 h hn;go_enter Tryz.func106,Tryz.ntmps106;go_wp2_with fail;generalize((w.alloc (.cells #[.bool x,.slice a n c] 162)).alloc (.cells #[.bool false,.slice none 0 0] 176)).alloc (.cells #[.bool x,.slice none 0 0] 176)=wx at R1 O0 B0 C⊢;refine C.out.mono ?_;rintro e w1 ⟨g,rfl,ho,b1⟩;have R:=hide ((b1.block _ (Array.getElem?_eq_some_iff.1 R1.out).1).trans R1.out);have O:=hide ((b1.block _ (Array.getElem?_eq_some_iff.1 O0.out).1).trans O0.out);have B1:=hide (B0.out.trans (b1.mono B0.out.size));rw[HN.out]at ho;have S1:Hid (Sli 3 w.heap.size w1.heap.size (.slice (some ⟨g,0,none⟩) n n) n (icells ls) w1):=(Sli.of ho).dn B0.out.size;have far:Hid (∀i cs,w1.heap[i]?=some (.cells cs 176 (0,0))→(Value.slice (some ⟨g,0,none⟩) n n).ownBlock≠some i):=by
  intro i cs q e;obtain⟨-,-,cs',q'⟩:=S1.out.lt i e;exact int_ne_kn q' q
 clear b1 R1 O0 B0 C ho;have r0:=cell_of_row _ _ 0 _ _ _ R.out;have r1:=cell_of_row _ _ 1 _ _ _ R.out;have o0:=cell_of_row _ _ 0 _ _ _ O.out;have o1:=cell_of_row _ _ 1 _ _ _ O.out;have f0:=frozen_of_row _ _ 0 _ _ R.out;have f1:=frozen_of_row _ _ 1 _ _ R.out;have g1:=frozen_of_row _ _ 1 _ _ O.out;go_wp2;refine bodyPost_ret (results_cell_row rfl _ _ (w.heap.size+1) 176 _ (0,0) _ rfl (kn_set2 (row_set_ne R.out (by omega) 1 (.slice (some ⟨g,0,none⟩) n n))) Tryz.underlying176 rfl infoKnz) rfl ⟨g,rfl,?_,((B1.out.setCell (p:=⟨w.heap.size+1+1,1,none⟩) (by show w.heap.size≤w.heap.size+1+1;omega) _).setCell (p:=⟨w.heap.size+1,0,none⟩) (by show w.heap.size≤w.heap.size+1;omega) _).setCell (p:=⟨w.heap.size+1,1,none⟩) (by show w.heap.size≤w.heap.size+1;omega) _⟩
 have fr:=far.out _ _ R.out;have fo:=far.out _ _ O.out;have hz:(((w1.setCell ⟨w.heap.size+1+1,1,none⟩ (.slice (some ⟨g,0,none⟩) n n)).setCell ⟨w.heap.size+1,0,none⟩ (.bool x)).setCell ⟨w.heap.size+1,1,none⟩ (.slice (some ⟨g,0,none⟩) n n)).heap.size=w1.heap.size:=by simp[World.setCell]
 rw[hz];exact((S1.out.grown (grown_cell _ (w.heap.size+1+1) 1 _) (fun i e e2=>fo (by cases e2;exact e))).grown (grown_cell _ (w.heap.size+1) 0 _) (fun i e e2=>fr (by cases e2;exact e))).grown (grown_cell _ (w.heap.size+1) 1 _) (fun i e e2=>fr (by cases e2;exact e))
theorem kncells_put(ss:List Kw)(R:List Value)(j N:Nat)(r:Kw)(hj:ss.length=j)(hR:R.length=N*2)(hN:j<N):
 ((kncells ss++R.drop (j*2)).set (j*2) (.bool r.1)).set (j*2+1) r.2.1=kncells (ss++[r])++R.drop ((j+1)*2):=by
 have hm:(kncells ss).length=j*2:=by rw[kncells_len,hj]
 have e2:kncells [r]=[.bool r.1,r.2.1]:=rfl;rw[kncells_app,e2,List.set_append_right _ _ (by omega),List.set_append_right _ _ (by omega),hm,Nat.sub_self,Nat.add_sub_cancel_left,List.append_assoc]
 rw[List.drop_eq_getElem_cons (show j*2<R.length by omega),List.drop_eq_getElem_cons (show j*2+1<R.length by omega),show(j+1)*2=j*2+1+1 by omega]
 rfl
def KPart(W:World)(B:Nat)(v:Value)(len:Nat)(ss:List Kw)(R:List Value):Prop:=
 W.ownsRow B 176 2 v len (kncells ss++R.drop (ss.length*2))∧(∀r∈ss,Sli 3 B W.heap.size r.2.1 r.2.2.length (icells r.2.2) W∧r.2.2.length≤maxLen)∧KLone ss
theorem KPart.put{W0 W:World}{B g len cap:Nat}{ss:List Kw}{R:List Value}{r:Kw}(h0:KPart W0 B (.slice (some ⟨g,0,none⟩) len cap) len ss R)(hb:Below W0.heap.size W0 W)(hB:B≤W0.heap.size)(hR:R.length=len*2)(hs:ss.length<len)(hr:Sli 3 W0.heap.size W.heap.size r.2.1 r.2.2.length (icells r.2.2) W)(hm:r.2.2.length≤maxLen)(hcap:cap=len):
 KPart ((W.setCell ⟨g,ss.length*2,none⟩ (.bool r.1)).setCell ⟨g,ss.length*2+1,none⟩ r.2.1) B (.slice (some ⟨g,0,none⟩) len cap) len (ss++[r]) R:=by
 subst hcap;obtain⟨h1,h2,h3⟩:=h0;have o1:=own_below h1 hb;have hk:=own_kind o1 g rfl;have far:∀{t:Value} {lo hi n:Nat} {xs:List Value},Sli 3 lo hi t n xs W→t.ownBlock≠some g:=by
  intro t lo hi n xs hs e;obtain⟨-,-,cs,q⟩:=hk;obtain⟨-,-,cs',q'⟩:=hs.lt g e;exact int_ne_kn q' q
 have keep:∀{t:Value} {lo hi n:Nat} {xs:List Value},Sli 3 lo hi t n xs W→hi≤W.heap.size→Sli 3 lo ((W.setCell ⟨g,ss.length*2,none⟩ (.bool r.1)).setCell ⟨g,ss.length*2+1,none⟩ r.2.1).heap.size t n xs ((W.setCell ⟨g,ss.length*2,none⟩ (.bool r.1)).setCell ⟨g,ss.length*2+1,none⟩ r.2.1):=by
  intro t lo hi n xs hs hh;have f:=far hs;have e:((W.setCell ⟨g,ss.length*2,none⟩ (.bool r.1)).setCell ⟨g,ss.length*2+1,none⟩ r.2.1).heap.size=W.heap.size:=by simp[World.setCell]
  rw[e];exact((hs.grown (grown_cell _ g (ss.length*2) _) (fun i e e2=>f (by cases e2;exact e))).grown (grown_cell _ g (ss.length*2+1) _) (fun i e e2=>f (by cases e2;exact e))).up hh
 refine⟨?_,?_,?_⟩
 ·have o6:=fown_set (fown_set o1 rfl (ss.length*2) (.bool r.1)) rfl (ss.length*2+1) r.2.1;rw[kncells_put ss R ss.length cap r rfl hR hs]at o6;rw[show(ss++[r]).length=ss.length+1 by simp]
  exact o6
 ·intro x hx;rcases List.mem_append.1 hx with hx|hx
  ·exact⟨keep ((h2 x hx).1.blw hb) hb.size,(h2 x hx).2⟩
  ·simp only[List.mem_singleton]at hx;subst hx;exact⟨(keep hr (Nat.le_refl _)).dn hB,hm⟩
 ·refine List.pairwise_append.2 ⟨h3,List.pairwise_singleton _ _,?_⟩;intro a ha b hb2 g e1 e2;simp only[List.mem_singleton]at hb2;subst hb2;have q1:=((h2 a ha).1.lt g e1).2.1;have q2:=(hr.lt g e2).1;omega
def KtOut(w:World)(len:Nat)(rs:List Kw)(e:Ending)(w':World):Prop:=
 ∃g ss,e=.returned (.slice (some ⟨g,0,none⟩) len len)∧KOwn w' w.heap.size (.slice (some ⟨g,0,none⟩) len len) ss∧ss.map ktell=rs.map ktell∧Below w.heap.size w w'
theorem toKns_any(a:Option Addr)(len cap:Nat)(rs:List Kw)(w:World)(hl:len≤1048576)(hll:∀r∈rs,r.2.2.length≤1048576)(h:KnRd w a len rs):
 Calls Tryz.prog 72 #[.slice a len cap] w (KtOut w len rs):=by
 obtain⟨i0,hi,hz0,hz1,hz2⟩:=info_parts infoKn;have H:=hide h;have H1:=hide h.1;have HLL:=hide hll;clear h hll;go_enter Tryz.func72,Tryz.ntmps72;go_wp2_with (at_make;refine wpList_make_full _ rfl _ _ 51 rfl w.heap.size 176 i0 (.agg #[.bool false,.slice none 0 0]) 2 Tryz.underlying51 hi hz0 hz1 .i64 .i64 _ _ len rfl rfl rfl rfl (by rw[hz2];omega) (by unfold maxLen;omega) (Nat.le_refl _) ?_)
 intro w1 hown hgrow;generalize(madeCells #[Value.bool false,Value.slice none 0 0] (len*2)).toList=R at hown;have HR:Hid (R.length=len*2):=hown.1;have HO:Hid (KPart w1 w.heap.size (.slice (some ⟨w.heap.size,0,none⟩) len len) len [] R):=⟨by simpa[kncells]using hown,(fun _ h=>by cases h),List.Pairwise.nil⟩
 have HB1:=hide ((Below.refl w.heap.size w).grown hgrow (Nat.le_refl _) (fun k hk=>by cases hk))
 clear hown hgrow;clear hi hz0 hz1 hz2;go_wp2;go_loopw [4] (fun iv wr=>∃(k:Nat) (ss:List Kw),k≤len∧iv=.int .i64 k∧Hid (ss.length=k∧ss.map ktell=(rs.map ktell).take k)∧Hid (KPart wr w.heap.size (.slice (some ⟨w.heap.size,0,none⟩) len len) len ss R)∧Hid (Below w.heap.size w wr)) (fun iv _=>len-(intOf iv).toNat)
 case atStart=>exact⟨0,[],Nat.zero_le _,rfl,⟨rfl,rfl⟩,HO,HB1⟩
 case round=>
  obtain⟨k,ss,hk,rfl,E,HO2,HW⟩:=hrel;have hsz:=HW.out.size;by_cases hkl:(k:Int)<len
  ·have hkl2:k<rs.length:=by have:=H1.out;omega
   obtain⟨r0,hr0⟩:∃r,rs[k]?=some r:=⟨_,List.getElem?_eq_getElem hkl2⟩;obtain⟨b,off,rfl,-,c0,c1⟩:=(H.out.below HW.out).at hr0;obtain⟨sa,sc,hsv,-,hrow⟩:=(H.out.below HW.out).2.2.1 r0 (List.mem_of_getElem? hr0);have hlr:=HLL.out r0 (List.mem_of_getElem? hr0);obtain⟨x0,sv,ls⟩:=r0;simp only at c0 c1 hsv hlr hrow;subst hsv;have E':Hid (ss.map ktell++[⟨x0,ls⟩]=(rs.map ktell).take (k+1)):=by
    show _=_;rw[List.take_add_one,List.getElem?_map,hr0,E.out.2];rfl
   have k0:(0:Int)≤k:=by omega
   have C:=hide (toKn_any x0 sa ls.length sc ls wr rfl hlr hrow);obtain⟨n,hn⟩:∃n,ls.length=n:=⟨_,rfl⟩;have HN:=hide hn;rw[hn]at c1 C hlr;clear hr0 hkl2 hrow hn;go_wp2_with fail;refine C.out.mono ?_;rintro e w3 ⟨g,rfl,hs3,hb3⟩;obtain⟨r,hr⟩:∃r:Kw,r=(x0,.slice (some ⟨g,0,none⟩) n n,ls):=⟨_,rfl⟩;have P6:=HO2.out.put (r:=r) hb3 hsz HR.out (by have:=E.out.1;omega) (by rw[hr];show Sli _ _ _ _ ls.length _ _;rw[HN.out];exact hs3) (by rw[hr];show ls.length≤maxLen;rw[HN.out];unfold maxLen;omega) rfl
   rw[E.out.1,hr]at P6;simp only at P6;have o3:=own_below HO2.out.1 hb3;have hlen3:(kncells ss++R.drop (ss.length*2)).length=len*2:=HO2.out.1.1;have e3:∀d,d<2→∃u,w3.cell? ⟨w.heap.size,k*2+d,none⟩=some u:=by
    intro d hd;have:=o3.cells (g:=w.heap.size) rfl (k*2+d) _ (List.getElem?_eq_getElem (by rw[hlen3];omega))
    rw[addr_at]at this;exact⟨_,this⟩
   obtain⟨u0,d0⟩:=e3 0 (by omega)
   obtain⟨u1,d1⟩:=e3 1 (by omega)
   rw[Nat.add_zero]at d0;have f0:=o3.frozenAt (k*2);have f1:=o3.frozenAt (k*2+1);have B6:=hide (below_kn2k (k:=k) (x:=.bool x0) (y:=.slice (some ⟨g,0,none⟩) n n) (HW.out.trans (hb3.mono hsz)) (Nat.le_refl _));have O6:=hide P6;have E6:Hid ((ss++[((x0,.slice (some ⟨g,0,none⟩) n n,ls):Kw)]).length=k+1∧(ss++[((x0,.slice (some ⟨g,0,none⟩) n n,ls):Kw)]).map ktell=(rs.map ktell).take (k+1)):=⟨by simp[E.out.1],by rw[←E'.out,List.map_append];rfl⟩
   clear o3 P6 hlen3 e3 hb3 HW HO2 c0 c1 hs3 hr E E' C;generalize ss++[((x0,.slice (some ⟨g,0,none⟩) n n,ls):Kw)]=ss2 at O6 E6;go_wp2;go_roundw
   case rel=>exact⟨k+1,ss2,by omega,by go_num,E6,O6,B6⟩
   case measure=>simp[intOf];omega
  ·have hke:k=rs.length:=by have:=H1.out;omega
   have hO:=HO2.out;have EF:Hid (ss.map ktell=rs.map ktell):=by show _=_;rw[E.out.2,hke,←List.length_map (f:=ktell),List.take_length]
   have hsl:ss.length=len:=by have:=E.out.1;have:=H1.out;omega
   have XF:Hid (KOwn wr w.heap.size (.slice (some ⟨w.heap.size,0,none⟩) len len) ss):=by
    refine⟨?_,hO.2.1,hO.2.2⟩;have:=hO.1;rw[List.drop_eq_nil_of_le (by rw[HR.out,hsl];exact Nat.le_refl _),List.append_nil]at this
    rw[hsl];exact this
   clear hke hO hsl HO2 E;go_wp2;go_ret;exact⟨_,ss,rfl,XF.out,EF.out,HW.out⟩
def AtOut(w:World)(len:Nat)(rs:List Kw)(e:Ending)(w':World):Prop:=
 ∃g ss,e=.returned (.agg #[.slice (some ⟨g,0,none⟩) len len])∧KOwn w' w.heap.size (.slice (some ⟨g,0,none⟩) len len) ss∧ss.map ktell=rs.map ktell∧Below w.heap.size w w'
theorem infoArz:(Tryz.prog.info? 53).map (·.size)=some 1:=by kernel_rfl
theorem toAr_any(a:Option Addr)(len cap:Nat)(rs:List Kw)(w:World)(hl:len≤1048576)(hll:∀r∈rs,r.2.2.length≤1048576)(h:KnRd w a len rs):
 Calls Tryz.prog 48 #[.agg #[.slice a len cap]] w (AtOut w len rs):=by
 have za:(w.alloc (.cells #[.slice a len cap] 39)).heap.size=w.heap.size+1:=by simp
 have zb:((w.alloc (.cells #[.slice a len cap] 39)).alloc (.cells #[.slice none 0 0] 53)).heap.size=w.heap.size+1+1:=by simp
 have R0:=hide (heap_alloc_new (w.alloc (.cells #[.slice a len cap] 39)) (.cells #[.slice none 0 0] 53));have O0:=hide (heap_alloc_new ((w.alloc (.cells #[.slice a len cap] 39)).alloc (.cells #[.slice none 0 0] 53)) (.cells #[.slice none 0 0] 53));rw[za]at R0;rw[zb]at O0;have R1:=hide ((Below.heap_alloc ((w.alloc (.cells #[.slice a len cap] 39)).alloc (.cells #[.slice none 0 0] 53)) (.cells #[.slice none 0 0] 53) (w.heap.size+1) (by simp)).trans R0.out)
 have B0:Hid (Below w.heap.size w (((w.alloc (.cells #[.slice a len cap] 39)).alloc (.cells #[.slice none 0 0] 53)).alloc (.cells #[.slice none 0 0] 53))):=(((Below.refl _ _).alloc (Nat.le_refl _) _).alloc (by simp) _).alloc (by simp;omega) _
 have C:=hide (toKns_any a len cap rs _ hl hll (h.below B0.out));clear za zb R0 h hll;go_enter Tryz.func48,Tryz.ntmps48;go_wp2_with fail;generalize((w.alloc (.cells #[.slice a len cap] 39)).alloc (.cells #[.slice none 0 0] 53)).alloc (.cells #[.slice none 0 0] 53)=wx at R1 O0 B0 C⊢;refine C.out.mono ?_;rintro e w1 ⟨g,ss,rfl,ho,ht,b1⟩;have R:=hide ((b1.block _ (Array.getElem?_eq_some_iff.1 R1.out).1).trans R1.out);have O:=hide ((b1.block _ (Array.getElem?_eq_some_iff.1 O0.out).1).trans O0.out);have B1:=hide (B0.out.trans (b1.mono B0.out.size));have K1:=hide (ho.down B0.out.size);have HT:=hide ht;clear b1 R1 O0 B0 C ho ht;have r0:=cell_of_row _ _ 0 _ _ _ R.out;have o0:=cell_of_row _ _ 0 _ _ _ O.out;have f0:=frozen_of_row _ _ 0 _ _ R.out;have g0:=frozen_of_row _ _ 0 _ _ O.out;have R2:=hide (row_set_ne R.out (show w.heap.size+1≠w.heap.size+1+1 by omega) 0 (.slice (some ⟨g,0,none⟩) len len))
 have K2:=hide ((K1.out.cell O.out 0 (.slice (some ⟨g,0,none⟩) len len)).cell R2.out 0 (.slice (some ⟨g,0,none⟩) len len));have B2:=hide ((B1.out.setCell (p:=⟨w.heap.size+1+1,0,none⟩) (by show w.heap.size≤w.heap.size+1+1;omega) (.slice (some ⟨g,0,none⟩) len len)).setCell (p:=⟨w.heap.size+1,0,none⟩) (by show w.heap.size≤w.heap.size+1;omega) (.slice (some ⟨g,0,none⟩) len len))
 go_wp2;exact bodyPost_ret (results_cell_row rfl _ _ (w.heap.size+1) 53 _ (0,0) _ rfl (row_set R2.out 0 (.slice (some ⟨g,0,none⟩) len len)) Tryz.underlying53 rfl infoArz) rfl ⟨g,ss,rfl,K2.out,HT.out,B2.out⟩
end Go.Proofs.YtiicghepilbgfaaGreatDoor
