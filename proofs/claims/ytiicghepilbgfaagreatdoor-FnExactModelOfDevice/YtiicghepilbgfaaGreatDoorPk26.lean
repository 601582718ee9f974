/-
  GMath; Fits; IPlain
-/
import Derived.Test.YtiicghepilbgfaaGreatDoorPk25
import Derived.Test.YtiicghepilbgfaaGreatDoorPk8
import Derived.Lib.AppendStr
set_option maxHeartbeats 1000000
set_option maxRecDepth 100000
namespace Go.Proofs.YtiicghepilbgfaaGreatDoor
open Go.RowKit
open Pack
def GOk(len:Nat)(t:Int×Int×ByteArray):Prop:=(t.1=0∧1≤t.2.2.size∧t.2.2.size≤31∧t.2.1=0)∨(1≤t.1∧t.1≤len∧1≤t.2.1∧t.2.1≤31∧t.2.2.size=0)
abbrev decGOk(len:Nat)(t:Int×Int×ByteArray):Decidable (GOk len t):=by unfold GOk;exact inferInstance
def gtell(out:List UInt8)(t:Int×Int×ByteArray):List UInt8:=again t.2.1.toNat t.1.toNat (out++t.2.2.data.toList)
def gplainFrom(out:List UInt8):List (Int×Int×ByteArray)→Option (List UInt8)
 | []=>some out
 |t::r=>letI:=decGOk out.length t;if GOk out.length t∧out.length+t.2.2.size+t.2.1.toNat≤64 then gplainFrom (gtell out t) r else none
def gplain(l:List (Int×Int×ByteArray)):Option (List UInt8):=gplainFrom [] l
theorem gtell_len(out:List UInt8)(t:Int×Int×ByteArray):(gtell out t).length=out.length+t.2.2.size+t.2.1.toNat:=by
 unfold gtell;rw[again_len,List.length_append];simp
theorem gok_tok(len:Nat)(t:Nat×Nat×List UInt8):GOk len (gtok t)↔TokOk len t:=by
 obtain⟨b,z,x⟩:=t;have hx:(⟨x.toArray⟩:ByteArray).size=x.length:=by show x.toArray.size=_;simp
 unfold GOk TokOk gtok;simp only[hx];have h0:x.length=0↔x=[]:=List.length_eq_zero_iff;rw[←h0];split<;>omega
theorem gtell_tok(out:List UInt8)(t:Nat×Nat×List UInt8)(h:TokOk out.length t):gtell out (gtok t)=tell out t:=by
 obtain⟨b,z,x⟩:=t;unfold TokOk at h;unfold gtell tell gtok;simp only[Int.toNat_natCast]at*;split at h
 ·rename_i hb
  rw[if_pos hb,h.2.2];rfl
 ·rename_i hb
  rw[if_neg hb,h.2.2.2];simp
theorem gplain_tok(l:List (Nat×Nat×List UInt8))(out:List UInt8):gplainFrom out (l.map gtok)=plainFrom out l:=by
 induction l generalizing out with
 |nil=>rfl
 |cons t r ih=>
  rw[List.map_cons,gplainFrom,plainFrom];by_cases h:TokOk out.length t
  ·have e:=gtell_tok out t h;have hl:=gtell_len out (gtok t);rw[e]at hl;rw[if_pos h,e,ih];by_cases h2:(tell out t).length≤64
   ·rw[if_pos ⟨(gok_tok _ _).2 h,by omega⟩,if_pos h2]
   ·rw[if_neg (fun h3=>h2 (by omega)),if_neg h2]
  ·rw[if_neg (fun h3=>h ((gok_tok _ _).1 h3.1)),if_neg h]
def plainV(r:Option (List UInt8)):Value:=match r with
 |some o=> .tuple #[.string ⟨o.toArray⟩,.bool true]
 |none=> .tuple #[.string ⟨#[]⟩,.bool false]
theorem gplain_step(out:List UInt8)(ls:List (Int×Int×ByteArray))(k:Nat)(t:Int×Int×ByteArray)(h:ls[k]?=some t):
 gplainFrom out (ls.drop k)=letI:=decGOk out.length t;if GOk out.length t∧out.length+t.2.2.size+t.2.1.toNat≤64 then gplainFrom (gtell out t) (ls.drop (k+1))else none:=by
 obtain⟨h1,h2⟩:=List.getElem?_eq_some_iff.1 h;rw[List.drop_eq_getElem_cons h1,h2];rfl
theorem again_next(n back:Nat)(o:List UInt8):again (n+1) back o=again n back (o++[o.getD (o.length-back) 0]):=rfl
theorem bcells_getD(o:List UInt8)(j:Nat)(hj:j<o.length):(bcells o)[j]?=some (.int .u8 ((o.getD j 0).toNat:Int)):=by
 rw[bcells_at o j hj,List.getD_eq_getElem?_getD,List.getElem?_eq_getElem hj];rfl
def GFit(n:Nat)(a b:Int)(t:ByteArray):Prop:=GOk n (a,b,t)∧n+t.size+b.toNat≤64
abbrev decGFit(n:Nat)(a b:Int)(t:ByteArray):Decidable (GFit n a b t):=by unfold GFit;exact @instDecidableAnd _ _ (decGOk _ _) _
theorem fits_any(a b:Int)(t:ByteArray)(n:Nat)(w:World)(hn:n≤64):
 Calls Tryz.prog 169 #[.agg #[.int .i64 a,.int .i64 b,.string t],.int .i64 n] w fun e w'=>e=.returned (.bool (@decide (GFit n a b t) (decGFit n a b t)))∧Below w.heap.size w w':=by
 have fin:∀(v:Bool) (w':World),@decide (GFit n a b t) (decGFit n a b t)=v→Hid (Below w.heap.size w w')→(Ending.returned (.bool v)=.returned (.bool (@decide (GFit n a b t) (decGFit n a b t)))∧Below w.heap.size w w'):=fun v w' h hb=>⟨by rw[h],hb.out⟩
 have HF:=hide fin;have HB:=hide ((Below.refl w.heap.size w).alloc (Nat.le_refl _) (.cells #[.int .i64 a,.int .i64 b,.string t] 198));clear fin;have G:Hid (GFit n a b t↔(a=0∧1≤t.size∧t.size≤31∧b=0∧n+t.size≤64)∨(1≤a∧a≤n∧1≤b∧b≤31∧t.size=0∧n+b≤64)):=by
  show _↔_;unfold GFit GOk;simp only;omega
 go_enter Tryz.func169,Tryz.ntmps169;by_cases h1:a<0
 ·have HX:=hide (dcN (fun h=>by have:=G.out.1 h;omega): @decide (GFit n a b t) (decGFit n a b t)=false)
  go_wp2;go_ret;exact HF.out _ _ HX.out HB
 ·by_cases h2:(n:Int)<a
  ·have HX:=hide (dcN (fun h=>by have:=G.out.1 h;omega): @decide (GFit n a b t) (decGFit n a b t)=false)
   go_wp2;go_ret;exact HF.out _ _ HX.out HB
  ·by_cases h3:0<a
   ·have HX:Hid (@decide (GFit n a b t) (decGFit n a b t)=decide (1≤b∧b≤31∧t.size=0∧n+b≤64)):=by
     show _=_;refine dcE ?_;constructor
     ·intro h;have:=G.out.1 h;omega
     ·intro h;exact G.out.2 (by omega)
    by_cases k1:((t.size:Int)==0)=true
    ·have k1':t.size=0:=by rw[beq_iff_eq]at k1;omega
     by_cases k2:1≤b
     ·by_cases k3:b≤31
      ·by_cases k4:(n:Int)+b≤64
       ·have HY:Hid (@decide (GFit n a b t) (decGFit n a b t)=true):=by show _=_;rw[HX.out];exact dcY (by omega)
        clear HX k1';go_wp2;go_quiet (fail);go_wp2;go_ret;exact HF.out _ _ HY.out (below_drewN HB.out _)
       ·have HY:Hid (@decide (GFit n a b t) (decGFit n a b t)=false):=by show _=_;rw[HX.out];exact dcN (by omega)
        clear HX k1';go_wp2;go_quiet (fail);go_wp2;go_ret;exact HF.out _ _ (HY.out.trans (dcN (by omega)).symm) (below_drewN HB.out _)
      ·have HY:Hid (@decide (GFit n a b t) (decGFit n a b t)=false):=by show _=_;rw[HX.out];exact dcN (by omega)
       clear HX k1';go_wp2;go_quiet (fail);go_wp2;go_ret;exact HF.out _ _ HY.out (below_drewN HB.out _)
     ·have HY:Hid (@decide (GFit n a b t) (decGFit n a b t)=false):=by show _=_;rw[HX.out];exact dcN (by omega)
      clear HX k1';go_wp2;go_quiet (fail);go_wp2;go_ret;exact HF.out _ _ HY.out (below_drewN HB.out _)
    ·have k1':¬t.size=0:=fun h=>k1 (by rw[beq_iff_eq];omega)
     have k1f:((t.size:Int)==0)=false:=by simpa using k1
     have HY:Hid (@decide (GFit n a b t) (decGFit n a b t)=false):=by show _=_;rw[HX.out];exact dcN (by omega)
     clear HX k1' k1;go_wp2;go_quiet (fail);go_wp2;go_ret;exact HF.out _ _ HY.out (below_drewN HB.out _)
   ·have h4:a=0:=by omega
    have HX:Hid (@decide (GFit n a b t) (decGFit n a b t)=decide (1≤t.size∧t.size≤31∧b=0∧n+t.size≤64)):=by
     show _=_;refine dcE ?_;constructor
     ·intro h;have:=G.out.1 h;omega
     ·intro h;exact G.out.2 (by omega)
    clear h4;by_cases k1:(b==0)=true
    ·have k1':b=0:=by rw[beq_iff_eq]at k1;omega
     by_cases k2:1≤(t.size:Int)
     ·by_cases k3:(t.size:Int)≤31
      ·by_cases k4:(n:Int)+t.size≤64
       ·have HY:Hid (@decide (GFit n a b t) (decGFit n a b t)=true):=by show _=_;rw[HX.out];exact dcY (by omega)
        clear HX k1';go_wp2;go_quiet (fail);go_wp2;go_ret;exact HF.out _ _ HY.out (below_drewN HB.out _)
       ·have HY:Hid (@decide (GFit n a b t) (decGFit n a b t)=false):=by show _=_;rw[HX.out];exact dcN (by omega)
        clear HX k1';go_wp2;go_quiet (fail);go_wp2;go_ret;exact HF.out _ _ (HY.out.trans (dcN (by omega)).symm) (below_drewN HB.out _)
      ·have HY:Hid (@decide (GFit n a b t) (decGFit n a b t)=false):=by show _=_;rw[HX.out];exact dcN (by omega)
       clear HX k1';go_wp2;go_quiet (fail);go_wp2;go_ret;exact HF.out _ _ HY.out (below_drewN HB.out _)
     ·have HY:Hid (@decide (GFit n a b t) (decGFit n a b t)=false):=by show _=_;rw[HX.out];exact dcN (by omega)
      clear HX k1';go_wp2;go_quiet (fail);go_wp2;go_ret;exact HF.out _ _ HY.out (below_drewN HB.out _)
    ·have k1':¬b=0:=fun h=>k1 (by rw[beq_iff_eq];omega)
     have k1f:(b==0)=false:=by simpa using k1
     have HY:Hid (@decide (GFit n a b t) (decGFit n a b t)=false):=by show _=_;rw[HX.out];exact dcN (by omega)
     clear HX k1' k1;go_wp2;go_quiet (fail);go_wp2;go_ret;exact HF.out _ _ HY.out (below_drewN HB.out _)
theorem strCells_b(t:ByteArray):Lib.strCells t=bcells t.data.toList:=by
 simp[Lib.strCells,bcells]
def TokAt(w:World)(g:Nat)(a b:Int)(t:ByteArray):Prop:=w.heap[g]?=some (.cells #[.int .i64 a,.int .i64 b,.string t] 198 (0,0))
theorem TokAt.lt{w:World}{g:Nat}{a b:Int}{t:ByteArray}(h:TokAt w g a b t):g<w.heap.size:=(Array.getElem?_eq_some_iff.1 h).1
theorem TokAt.cells{w:World}{g:Nat}{a b:Int}{t:ByteArray}(h:TokAt w g a b t):w.cell? ⟨g,0,none⟩=some (.int .i64 a)∧w.cell? ⟨g,1,none⟩=some (.int .i64 b)∧w.cell? ⟨g,2,none⟩=some (.string t):=by
 have h1:=cell_of_row w g 0 _ _ _ h;have h2:=cell_of_row w g 1 _ _ _ h;have h3:=cell_of_row w g 2 _ _ _ h;exact⟨h1,h2,h3⟩
theorem TokAt.grown{w w':World}{g:Nat}{a b:Int}{t:ByteArray}{B:Nat}{v:Value}{n:Nat}{xs:List Value}(h:TokAt w g a b t)(ho:w.ownsRow B 5 1 v n xs)(hg:w.grownBy w' v.ownBlock):TokAt w' g a b t:=by
 refine(hg.block g h.lt (fun e=>?_)).trans h
 rcases ho.2 with⟨rfl,-⟩|⟨g',cap,cur,rfl,-,hh,-⟩
 ·cases e
 ·have:g=g':=by simpa[Value.ownBlock]using e
  subst this;unfold TokAt at h;rw[h]at hh;simp at hh
theorem TokAt.below{w w':World}{g:Nat}{a b:Int}{t:ByteArray}(h:TokAt w g a b t)(hb:Below w.heap.size w w'):TokAt w' g a b t:=(hb.block g h.lt).trans h
theorem TokAt.alloc{w:World}{g:Nat}{a b:Int}{t:ByteArray}(h:TokAt w g a b t)(o:Obj):TokAt (w.alloc o) g a b t:=h.below ((Below.refl _ _).alloc (Nat.le_refl _) o)
theorem tok_new(w:World)(a b:Int)(t:ByteArray):TokAt (w.alloc (.cells #[.int .i64 a,.int .i64 b,.string t] 198)) w.heap.size a b t:=heap_alloc_new w _
theorem iplain_any(v:Value)(ls:List (Int×Int×ByteArray))(B:Nat)(w:World)(hl:ls.length≤1048576)(ha:w.ownsRow B 198 3 v ls.length (gcells ls)):
 Calls Tryz.prog 153 #[v] w fun e w'=>e=.returned (plainV (gplain ls))∧Below w.heap.size w w':=by
 obtain⟨i0,hi,hz0,hz1,hz2⟩:=info_parts infoByte;obtain⟨ad,capa,rfl,a1,a2,a3⟩:=row_form3 ha;unfold maxLen at a2;have A3:=hide a3;have HA:=hide ha;clear a3 ha;go_enter Tryz.func153,Tryz.ntmps153;go_wp2;go_loopw [4,9] (fun pv iv wr=>∃(k:Nat) (o:List UInt8),k≤ls.length∧o.length≤64∧iv=.int .i64 k∧Hid (wr.ownsRow w.heap.size 5 1 pv o.length (bcells o))∧Hid (gplain ls=gplainFrom o (ls.drop k))∧Hid (Below w.heap.size w wr)) (fun _ iv _=>ls.length-(intOf iv).toNat)
 case atStart=>exact⟨0,[],Nat.zero_le _,by simp,rfl,World.ownsRow_nil _ _ _ _,rfl,Below.refl _ _⟩
 case round=>
  obtain⟨k,o,hk,ho,rfl,HO,HG,HW⟩:=hrel;have hsz:=HW.out.size;by_cases hlt:(k:Int)<ls.length
  ·obtain⟨ga,rfl,_,hga⟩:=A3.out (by omega)
   have hkl:k<ls.length:=by omega
   obtain⟨x,y,t,ht⟩:∃x y t,ls[k]?=some (x,y,t):=⟨ls[k].1,ls[k].2.1,ls[k].2.2,List.getElem?_eq_getElem hkl⟩;obtain⟨c1,c2,c3⟩:=gown_cells (own_below HA.out HW.out) ht;simp only at c1 c2 c3;have hst:=gplain_step o ls k _ ht;simp only at hst;have k0:(0:Int)≤k:=by omega
   obtain⟨ap,capp,rfl,-⟩:=row_form3 HO.out;have CT:=hide (tok_new wr x y t);clear ht;go_wp2_with fail;refine(fits_any x y t o.length _ ho).mono ?_;rintro e w5 ⟨rfl,hb5⟩;have HT5:=hide (CT.out.below hb5);have HO5:=hide (own_below (HO.out.alloc (.cells #[.int .i64 x,.int .i64 y,.string t] 198)) hb5);have HW5:=hide ((HW.out.alloc hsz _).trans (hb5.mono (by simp;omega)))
   have hg5:wr.heap.size<w5.heap.size:=HT5.out.lt;generalize wr.heap.size=g at HT5 hg5 hsz⊢;clear CT hb5 c1 c2 c3 HO HW;by_cases hf:GFit o.length x y t
   ·rw[dcY hf];have HG2:Hid (gplain ls=gplainFrom (gtell o (x,y,t)) (ls.drop (k+1))):=by
     show _=_;rw[HG.out,hst,if_pos ⟨hf.1,hf.2⟩]
    have hf2:=hf.2;have hf1:=hf.1;unfold GOk at hf1;simp only at hf1;obtain⟨A,rfl⟩:∃A:Nat,x=A:=⟨x.toNat,by omega⟩
    obtain⟨N,rfl⟩:∃N:Nat,y=N:=⟨y.toNat,by omega⟩
    rw[Int.toNat_natCast]at hf2;have hAN:0<N→1≤A∧A≤o.length:=fun h=>by omega
    have HAN:=hide hAN;have hNb:N≤31:=by omega
    obtain⟨q0,q1,q2⟩:=HT5.out.cells;clear hst HG hf1 hAN hf;go_wp2_with (at_builtin;refine Lib.wpList_append_own_string _ rfl _ _ 155 9 rfl w.heap.size 5 i0 Tryz.underlying155 Tryz.underlying9 hi hz0 hz1 hz2 _ _ _ rfl HO5.out t rfl (by unfold maxLen;omega) (by omega) (by omega) ?_)
    intro v6 w6 ho6 hg6 _;have HT6:=hide (HT5.out.grown HO5.out hg6);have HW6:=hide (HW5.out.grown hg6 (by omega) (fun j hj=>(HO5.out.lt j hj).1))
    have HO6:Hid (w6.ownsRow w.heap.size 5 1 v6 (o++t.data.toList).length (bcells (o++t.data.toList))):=by
     show World.ownsRow _ _ _ _ _ _ _;have e1:(o++t.data.toList).length=o.length+t.size:=by simp
     have e2:bcells (o++t.data.toList)=bcells o++bcells t.data.toList:=by simp[bcells]
     rw[e1,e2,←strCells_b];exact ho6
    have hg6':=hg6.size;obtain⟨q0,q1,q2⟩:=HT6.out.cells;have hol:(o++t.data.toList).length=o.length+t.size:=by simp
    clear ho6 hg6 HT5 HO5 HW5;go_wp2;go_loopw [4,24] (fun pv jv w8=>∃(j:Nat) (q:List UInt8),j≤N∧jv=.int .i64 j∧o.length≤q.length∧q.length+N≤64+j∧Hid (w8.ownsRow w.heap.size 5 1 pv q.length (bcells q))∧Hid (gtell o ((A:Int),(N:Int),t)=again (N-j) A q)∧Hid (TokAt w8 g A N t)∧Hid (Below w.heap.size w w8)) (fun _ jv _=>N-(intOf jv).toNat)
    case atStart=>exact⟨0,o++t.data.toList,Nat.zero_le _,rfl,by omega,by omega,HO6,(by show _=_;unfold gtell;simp),HT6,HW6⟩
    case round=>
     obtain⟨j,q,hj,rfl,hq1,hq2,HO8,HG8,HT8,HW8⟩:=hrel;have hql:q.length≤64:=by omega
     by_cases hjn:(j:Int)<N
     ·obtain⟨hA1,hA2⟩:=HAN.out (by omega)
      obtain⟨ap8,cp8,rfl,-,hcp8,h8⟩:=row_form3 HO8.out;obtain⟨gp,rfl,_,_⟩:=h8 (by omega)
      obtain⟨d,hd⟩:∃d:Nat,d=q.length-A:=⟨_,rfl⟩;have hd2:(q.length:Int)-A=(d:Int):=by omega
      have hdl:d<q.length:=by omega
      have cb:_:=HO8.out.cells (g:=gp) rfl d _ (bcells_getD q d hdl);rw[addr_at]at cb;obtain⟨q0,q1,q2⟩:=HT8.out.cells;have HG9:Hid (gtell o ((A:Int),(N:Int),t)=again (N-(j+1)) A (q++[q.getD d 0])):=by
       show _=_;rw[HG8.out,show N-j=(N-(j+1))+1 by omega,again_next,←hd]
      have hs8:=HW8.out.size;obtain⟨c,hc⟩:∃c:UInt8,q.getD d 0=c:=⟨_,rfl⟩;rw[hc]at cb HG9;obtain⟨z,hz⟩:∃z:Int,(c.toNat:Int)=z:=⟨_,rfl⟩;rw[hz]at cb;have HZ:=hide hz;clear hc hd HG8 hz;have d0:(0:Int)≤d:=by omega
      go_wp2_with (at_builtin;refine wpList_append_own _ rfl _ _ 155 rfl w.heap.size 5 i0 (.int .u8 0) 1 1 Tryz.underlying155 hi hz0 hz1 hz2 rfl (by decide) _ _ _ rfl (by exact HO8.out.alloc _) ⟨_,0,none⟩ 1 1 [Value.int .u8 z] rfl rfl (by exact one_cell _ _ _) (one_u8 _) (by unfold maxLen;omega) (by omega) (by simp;omega) ?_)
      intro v9 w9 ho9 hg9 _;rw[bcells_snoc q c z HZ.out]at ho9;have hql9:(q++[c]).length=q.length+1:=by simp
      have HO9:Hid (w9.ownsRow w.heap.size 5 1 v9 (q++[c]).length (bcells (q++[c]))):=by
       show World.ownsRow _ _ _ _ _ _ _;rw[hql9];exact ho9
      have HT9:=hide ((HT8.out.alloc _).grown (HO8.out.alloc _) hg9);have HW9:=hide (own_grown HW8.out (by omega) HO8.out hg9)
      clear ho9 hg9 HO8 HT8 HW8 cb q0 q1 q2;go_wp2;go_roundw
      case rel=>exact⟨j+1,q++[c],by omega,by go_num,by omega,by omega,HO9,HG9,HT9,HW9⟩
      case measure=>simp[intOf];omega
     ·have hje:j=N:=by omega
      have HX:Hid (gtell o ((A:Int),(N:Int),t)=q):=by show _=_;rw[HG8.out,hje,Nat.sub_self];rfl
      rw[HX.out]at HG2;clear hje HG8 HX;go_wp2;go_roundw
      case rel=>exact⟨k+1,q,by omega,hql,by go_num,HO8,HG2,HW8⟩
      case measure=>simp[intOf];omega
   ·rw[dcN hf];have HX:Hid (gplain ls=none):=by
     show _=_;rw[HG.out,hst,if_neg (fun h=>hf ⟨h.1,h.2⟩)]
    clear HG hst hf;go_wp2;exact bodyPost_ret (results_tmp2 rfl _ _ _) rfl ⟨by rw[HX.out];rfl,HW5.out⟩
  ·have hke:k=ls.length:=by omega
   have HX:Hid (gplain ls=some o):=by show _=_;rw[HG.out,hke,List.drop_length];rfl
   have hcv:=conv_own wr _ o HO.out;clear HG hke;go_wp2;exact bodyPost_ret (results_tmp2 rfl _ _ _) rfl ⟨by rw[HX.out];rfl,HW.out⟩
end Go.Proofs.YtiicghepilbgfaaGreatDoor
