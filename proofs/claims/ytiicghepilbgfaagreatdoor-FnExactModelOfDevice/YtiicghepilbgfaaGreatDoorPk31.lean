/-
  IPack; IUnp
-/
import Derived.Test.YtiicghepilbgfaaGreatDoorPk30
import Derived.Test.YtiicghepilbgfaaGreatDoorPk26
import Derived.Test.YtiicghepilbgfaaGreatDoorPk29
set_option maxHeartbeats 1000000
set_option maxRecDepth 100000
namespace Go.Proofs.YtiicghepilbgfaaGreatDoor
open Go.RowKit
open Pack
theorem two_cell(w:World)(x y:Value)(t:TypeId):∀(j:Nat) (u:Value),[x,y][j]?=some u→(w.alloc (.cells #[x,y] t)).cell? ((⟨w.heap.size,0,none⟩:Addr).add j)=some u:=by
 intro j u hj
 match j,hj with
 |0,hj=>simp at hj;subst hj;simp[Addr.add]
 |1,hj=>simp at hj;subst hj;simp[Addr.add]
theorem two_u8(x y:Int):∀u∈ [Value.int .u8 x,Value.int .u8 y],u.oneCell'=true:=by
 intro u hu;simp at hu;rcases hu with rfl|rfl<;>rfl
theorem zTok_le(t:Nat×Nat×List UInt8)(h:Fit t):(zTok t).length≤32:=by
 unfold zTok;rcases h with⟨h1,h2,h3,_⟩|⟨h1,_⟩
 ·rw[if_pos h1];simp;omega
 ·rw[if_neg (by omega)];simp
theorem ibytes_any(v:Value)(l:List (Nat×Nat×List UInt8))(B:Nat)(w:World)(hl:l.length≤64)(hf:∀t∈l,Fit t)(ha:w.ownsRow B 198 3 v l.length (tcells l)):
 Calls Tryz.prog 141 #[v] w fun e w'=>e=.returned (.string ⟨(l.flatMap zTok).toArray⟩)∧Below w.heap.size w w':=by
 obtain⟨i0,hi,hz0,hz1,hz2⟩:=info_parts infoByte;rw[tcells_g]at ha;obtain⟨ad,capa,rfl,a1,a2,a3⟩:=row_form3 ha;unfold maxLen at a2;have A3:=hide a3;have HA:=hide ha;have HF:=hide hf;clear a3 ha hf;go_enter Tryz.func141,Tryz.ntmps141;go_wp2;go_loopw [3,8] (fun pv iv wr=>∃(k:Nat) (o:List UInt8),k≤l.length∧o.length≤32*k∧iv=.int .i64 k∧Hid (wr.ownsRow w.heap.size 5 1 pv o.length (bcells o))∧Hid (o=(l.take k).flatMap zTok)∧Hid (Below w.heap.size w wr)) (fun _ iv _=>l.length-(intOf iv).toNat)
 case atStart=>exact⟨0,[],Nat.zero_le _,by simp,rfl,World.ownsRow_nil _ _ _ _,rfl,Below.refl _ _⟩
 case round=>
  obtain⟨k,o,hk,ho,rfl,HO,HG,HW⟩:=hrel;have hsz:=HW.out.size;by_cases hlt:(k:Int)<l.length
  ·obtain⟨ga,rfl,_,hga⟩:=A3.out (by omega)
   have hkl:k<l.length:=by omega
   obtain⟨b,z,x,ht⟩:∃b z x,l[k]?=some (b,z,x):=⟨l[k].1,l[k].2.1,l[k].2.2,List.getElem?_eq_getElem hkl⟩;have htg:(l.map gtok)[k]?=some (gtok (b,z,x)):=by rw[List.getElem?_map,ht];rfl
   obtain⟨c1,c2,c3⟩:=gown_cells (own_below HA.out HW.out) htg;simp only[gtok]at c1 c2 c3;have hfit:=HF.out _ (List.mem_of_getElem? ht);have hstep:(l.take (k+1)).flatMap zTok=o++zTok (b,z,x):=by
    obtain⟨e1,e2⟩:=List.getElem?_eq_some_iff.1 ht;rw[List.take_succ_eq_append_getElem e1,e2,List.flatMap_append,←HG.out];simp
   have k0:(0:Int)≤k:=by omega
   obtain⟨ap,capp,rfl,-⟩:=row_form3 HO.out;have CT:=hide (tok_new wr (b:Int) (z:Int) ⟨x.toArray⟩);obtain⟨t,hxt⟩:∃t:ByteArray,t=⟨x.toArray⟩:=⟨_,rfl⟩;have hts:t.size=x.length:=by rw[hxt];show x.toArray.size=_;simp
   have htl:t.data.toList=x:=by rw[hxt]
   rw[←hxt]at c3 CT;have HST:=hide hstep;have HO5:=hide (HO.out.alloc (.cells #[.int .i64 (b:Int),.int .i64 (z:Int),.string t] 198));have HW5:=hide (HW.out.alloc hsz (.cells #[.int .i64 (b:Int),.int .i64 (z:Int),.string t] 198));have HTL:=hide htl;clear ht htg hstep HG hxt htl;by_cases hb:(0:Int)<b
   ·have hz31:z≤31:=by rcases hfit with⟨h1,_⟩|⟨_,_,_,h,_⟩<;>simp only at* <;>omega
    have hb64:b≤64:=by rcases hfit with⟨h1,_⟩|⟨_,h,_⟩<;>simp only at* <;>omega
    have HZ:Hid (zTok (b,z,x)=[UInt8.ofNat (128+z),UInt8.ofNat b]):=by show _=_;unfold zTok;rw[if_neg (by simp only;omega)]
    clear hfit;obtain⟨w5,hw5⟩:∃w5,w5=wr.alloc (.cells #[.int .i64 (b:Int),.int .i64 (z:Int),.string t] 198):=⟨_,rfl⟩;have hs5:w5.heap.size=wr.heap.size+1:=by rw[hw5];simp
    have h2c:=hide (two_cell w5 (.int .u8 (128+(z:Int))) (.int .u8 (b:Int)) 5);rw[hs5,hw5]at h2c;clear hw5 hs5 w5;go_wp2_with (at_builtin;refine wpList_append_own _ rfl _ _ 155 rfl w.heap.size 5 i0 (.int .u8 0) 1 1 Tryz.underlying155 hi hz0 hz1 hz2 rfl (by decide) _ _ _ rfl (by exact HO5.out.alloc _) ⟨wr.heap.size+1,0,none⟩ 2 2 [Value.int .u8 (128+(z:Int)),Value.int .u8 (b:Int)] rfl rfl (by exact h2c.out) (two_u8 _ _) (by unfold maxLen;omega) (by omega) (by simp;omega) ?_)
    intro v6 w6 ho6 hg6 _;have HW6:=hide (own_grown HW5.out (by simp;omega) HO5.out hg6)
    have e2:bcells o++[Value.int .u8 (128+(z:Int)),Value.int .u8 (b:Int)]=bcells (o++zTok (b,z,x)):=by
     rw[HZ.out];simp[bcells];omega
    rw[e2]at ho6;have hl6:(o++zTok (b,z,x)).length=o.length+2:=by rw[HZ.out];simp
    have HO6:Hid (w6.ownsRow w.heap.size 5 1 v6 (o++zTok (b,z,x)).length (bcells (o++zTok (b,z,x)))):=by
     show World.ownsRow _ _ _ _ _ _ _;rw[hl6];exact ho6
    have hle:(o++zTok (b,z,x)).length≤32*(k+1):=by omega
    clear ho6 hg6 HO5 HW5 CT c1 c2 c3 h2c e2 hl6 HZ;go_wp2;go_roundw
    case rel=>exact⟨k+1,o++zTok (b,z,x),by omega,hle,by go_num,HO6,(by show _=_;rw[HST.out]),HW6⟩
    case measure=>simp[intOf];omega
   ·have hb0:b=0:=by omega
    subst hb0;have hx31:t.size≤31:=by rcases hfit with⟨_,_,h,_⟩|⟨h,_⟩<;>simp only at* <;>omega
    have HZ:Hid (zTok (0,z,x)=UInt8.ofNat t.size::x):=by show _=_;unfold zTok;rw[if_pos rfl,hts]
    have HTS:=hide hts;clear hfit hts;obtain⟨w5,hw5⟩:∃w5,w5=wr.alloc (.cells #[.int .i64 ((0:Nat):Int),.int .i64 (z:Int),.string t] 198):=⟨_,rfl⟩;have hs5:w5.heap.size=wr.heap.size+1:=by rw[hw5];simp
    have h2c:=hide (one_cell w5 (.int .u8 (t.size:Int)) 5);rw[hs5,hw5]at h2c;clear hw5 hs5 w5;have hbs:Hid (((UInt8.ofNat t.size).toNat:Int)=(t.size:Int)):=by show _=_;rw[small_byte _ (by omega)]
    simp only[Int.natCast_zero]at CT HO5 HW5 c1 h2c⊢;go_wp2_with (first
     |(at_builtin;refine wpList_append_own _ rfl _ _ 155 rfl w.heap.size 5 i0 (.int .u8 0) 1 1 Tryz.underlying155 hi hz0 hz1 hz2 rfl (by decide) _ _ _ rfl (by exact HO5.out.alloc _) ⟨wr.heap.size+1,0,none⟩ 1 1 [Value.int .u8 (t.size:Int)] rfl rfl (by exact h2c.out) (one_u8 _) (by unfold maxLen;omega) (by omega) (by simp;omega) ?_
       intro v6 w6 ho6 hg6 _;have HW6:=hide (own_grown HW5.out (by simp;omega) HO5.out hg6)
       have HT6:=hide ((CT.out.alloc _).grown (HO5.out.alloc _) hg6);rw[bcells_snoc o _ _ hbs.out]at ho6;have HO6:=hide ho6;have hs6:=HW6.out.size;obtain⟨q0,q1,q2⟩:=HT6.out.cells;clear ho6 hg6 HO5 HW5 CT c1 c2 c3 h2c)
     |(at_builtin;refine Lib.wpList_append_own_string _ rfl _ _ 155 9 rfl w.heap.size 5 i0 Tryz.underlying155 Tryz.underlying9 hi hz0 hz1 hz2 _ _ _ rfl HO6.out t rfl (by unfold maxLen;omega) (by omega) (by omega) ?_
       intro v7 w7 ho7 hg7 _;have HW7:=hide (HW6.out.grown hg7 (by omega) (fun j hj=>(HO6.out.lt j hj).1))
       have HO7:Hid (w7.ownsRow w.heap.size 5 1 v7 (o++zTok (0,z,x)).length (bcells (o++zTok (0,z,x)))):=by
        show World.ownsRow _ _ _ _ _ _ _;have e1:(o++zTok (0,z,x)).length=o.length+1+t.size:=by rw[HZ.out];simp[HTS.out];omega
        have e3:bcells (o++zTok (0,z,x))=bcells (o++[UInt8.ofNat t.size])++bcells t.data.toList:=by rw[HZ.out,HTL.out];simp[bcells]
        rw[e1,e3,←strCells_b];exact ho7
       clear ho7 hg7 HO6 HW6)
     |go_in)
    have hle:(o++zTok (0,z,x)).length≤32*(k+1):=by rw[HZ.out];have:=HTS.out;simp;omega
    go_roundw
    case rel=>exact⟨k+1,o++zTok (0,z,x),by omega,hle,by go_num,HO7,(by show _=_;rw[HST.out]),HW7⟩
    case measure=>simp[intOf];omega
  ·have hke:k=l.length:=by omega
   have HX:Hid (l.flatMap zTok=o):=by show _=_;rw[HG.out,hke,List.take_length]
   have hcv:=conv_own wr _ o HO.out;clear HG hke;go_wp2;go_ret;exact⟨by rw[HX.out];rfl,HW.out⟩
theorem cons_str(c:UInt8)(s:ByteArray):(⟨#[c]⟩++s:ByteArray)=⟨(c::s.data.toList).toArray⟩:=by
 apply ByteArray.ext;rw[ByteArray.data_append];apply Array.ext';simp
theorem toks_fit(s:List UInt8)(hs:s.length≤64):∀t∈toks s,Fit t:=fit_of [] s (toks s) (by simp) (plain_toks s hs).1
theorem itoks_len(s:List UInt8):(toks s).length≤s.length:=by
 have h1:∀m,(stepsT m s).2.length≤m:=by
  intro m
  induction m with
  |zero=>exact Nat.le_refl _
  |succ m ih=>
   by_cases hk:(stepsT m s).1<s.length
   ·obtain⟨k,l,h⟩:∃k l,stepsT m s=(k,l):=⟨_,_,rfl⟩;rw[h]at ih hk;rw[steps_one s m k l h hk];simp only at ih hk;have hd:l.dropLast.length≤l.length:=by rw[List.length_dropLast];omega
    unfold Pack.stepT;simp only;split
    ·rw[List.length_append];exact Nat.add_le_add ih (Nat.le_refl 1)
    ·split
     ·split
      ·rw[List.length_append];exact Nat.add_le_add (Nat.le_trans hd ih) (Nat.le_refl 1)
      ·rw[List.length_append];exact Nat.add_le_add ih (Nat.le_refl 1)
     ·rw[List.length_append];exact Nat.add_le_add ih (Nat.le_refl 1)
   ·rw[steps_stay s m 1 (by omega)]
    omega
 exact h1 s.length
theorem flat_le(l:List (Nat×Nat×List UInt8))(hf:∀t∈l,Fit t):(l.flatMap zTok).length≤32*l.length:=by
 induction l with
 |nil=>simp
 |cons t r ih=>
  have h1:=zTok_le t (hf t (by simp))
  have h2:=ih (fun u hu=>hf u (by simp[hu]))
  simp only[List.flatMap_cons,List.length_append,List.length_cons];omega
theorem ipack_any(s:ByteArray)(w:World):
 Calls Tryz.prog 120 #[.string s] w fun e w'=>e=.returned (plainV (packL s.data.toList))∧Below w.heap.size w w':=by
 have hl:s.data.toList.length=s.size:=by simp
 by_cases hs:(64:Int)<s.size
 ·have HX:Hid (packL s.data.toList=none):=by show _=_;unfold packL;rw[if_pos (by omega)]
  go_enter Tryz.func120,Tryz.ntmps120;go_wp2;exact bodyPost_ret (results_tmp2 rfl _ _ _) rfl ⟨by rw[HX.out];rfl,Below.refl _ _⟩
 ·have hfit:=toks_fit s.data.toList (by omega)
  have hlen:=itoks_len s.data.toList;have hfl:=flat_le (toks s.data.toList) hfit;obtain⟨z,hz⟩:∃z:ByteArray,z=⟨((toks s.data.toList).flatMap zTok).toArray⟩:=⟨_,rfl⟩;have hzs:z.size=((toks s.data.toList).flatMap zTok).length:=by rw[hz];show Array.size _=_;simp
  have HP:Hid (packL s.data.toList=some (if s.size≤z.size then 114::s.data.toList else 122::z.data.toList)):=by
   show _=_;have hzl:z.data.toList=(toks s.data.toList).flatMap zTok:=by rw[hz]
   unfold packL zOf;by_cases hc:s.size≤z.size
   ·rw[if_neg (by omega),if_pos hc,if_pos (by rw[List.length_cons];omega)]
   ·rw[if_neg (by omega),if_neg hc,if_neg (by rw[List.length_cons];omega),hzl]
  have hz64:z.size≤2048:=by omega
  have HF:=hide hfit;have HL:Hid ((toks s.data.toList).length≤64):=by show _≤_;omega
  have HZ:=hide hz;clear hfit hlen hfl hzs hz;go_enter Tryz.func120,Tryz.ntmps120;go_wp2_with fail;refine(itoks_any s _ (by omega)).mono ?_
  rintro e w1 ⟨v,rfl,ho,hb⟩;have HO:=hide ho;have HB:=hide hb;clear ho hb;go_wp2_with fail;refine(ibytes_any v _ _ _ HL.out HF.out HO.out).mono ?_;rintro e w2 ⟨rfl,hb⟩;rw[←HZ.out];have HB2:=hide (HB.out.trans (hb.mono HB.out.size));clear hb HO HB HZ;by_cases hle:(s.size:Int)≤z.size
  ·have HX:Hid (packL s.data.toList=some (114::s.data.toList)):=by show _=_;rw[HP.out,if_pos (by omega)]
   clear HP;go_wp2;exact bodyPost_ret (results_tmp2 rfl _ _ _) rfl ⟨by rw[HX.out];show _=Ending.returned (.tuple #[.string _,.bool true]);rw[←cons_str];rfl,HB2.out⟩
  ·have HX:Hid (packL s.data.toList=some (122::z.data.toList)):=by show _=_;rw[HP.out,if_neg (by omega)]
   clear HP;go_wp2;exact bodyPost_ret (results_tmp2 rfl _ _ _) rfl ⟨by rw[HX.out];show _=Ending.returned (.tuple #[.string _,.bool true]);rw[←cons_str];rfl,HB2.out⟩
def strLen:Value→Nat
 | .string s=>s.size
 |_=>0
def TRead(lim:Nat)(w:World)(r:List UInt8)(e:Ending)(w':World):Prop:=
 ∃(v:Value) (l:List (Nat×Nat×List UInt8)) (ok:Bool),e=.returned (.tuple #[v,.bool ok])∧l.length≤r.length∧w'.ownsRow w.heap.size 198 3 v l.length (tcells l)∧(ok=true→RG lim r=some l)∧(ok=false→RG lim r=none)∧Below w.heap.size w w'
theorem map_more(o:Option (List (Nat×Nat×List UInt8)))(l:List (Nat×Nat×List UInt8))(t:Nat×Nat×List UInt8):(o.map fun x=>t::x).map (fun x=>l++x)=o.map fun x=>(l++[t])++x:=by
 cases o<;>simp
theorem iread_anyU(r:List UInt8)(w:World)(hr:r.length≤1000):
 Calls Tryz.prog 152 #[.string (BA r)] w fun e w'=>TRead 128 w r e w':=by
 obtain⟨i0,hi,hz0,hz1,hz2⟩:=info_parts infoTok;go_enter Tryz.func152,Tryz.ntmps152;go_wp2;go_loopw [0,4] (fun sv tv wr=>∃(s:List UInt8) (l:List (Nat×Nat×List UInt8)),l.length+s.length≤r.length∧sv=.string (BA s)∧Hid (RG 128 r=(RG 128 s).map fun x=>l++x)∧Hid (wr.ownsRow w.heap.size 198 3 tv l.length (tcells l))∧Hid (Below w.heap.size w wr)) (fun sv _ _=>strLen sv)
 case atStart=>exact⟨r,[],by simp,rfl,(by show _=_;simp),World.ownsRow_nil _ _ _ _,Below.refl _ _⟩
 case round=>
  obtain⟨s,l,hls,rfl,HG,HO,HW⟩:=hrel;have hsz:=HW.out.size;cases s with
  |nil=>
   have he:=BA_emp;have HX:Hid (RG 128 r=some l):=by show _=_;rw[HG.out,RG_nil];simp
   have hll:l.length≤r.length:=by simp at hls;omega
   clear HG;go_wp2;exact bodyPost_ret (results_tmp2 rfl _ _ _) rfl ⟨_,l,true,rfl,hll,HO.out,(fun _=>HX.out),(fun h=>by cases h),HW.out⟩
  |cons n s=>
   have he:=BA_ful n s;have hls2:l.length+1+s.length≤r.length:=by simp at hls;omega
   go_wp2_with fail;refine(cut_any n s _ (by omega)).mono ?_
   rintro e w5 ⟨⟨a,b,t,s',ok,rfl,hs',h1,h2⟩,hb5⟩;have HO5:=hide (own_below HO.out hb5);have HW5:=hide (HW.out.trans (hb5.mono hsz));have hs5:=HW5.out.size;have H1:=hide h1;have H2:=hide h2;clear h1 h2 hb5 HO HW;cases ok with
   |true=>
    have HG2:Hid (RG 128 r=(RG 128 s').map fun x=>(l++[(a,b,t)])++x):=by
     show _=_;rw[HG.out,H1.out rfl,map_more]
    have HO6:=hide (HO5.out.alloc (.cells #[.int .i64 (a:Int),.int .i64 (b:Int),.string (BA t)] 198));have HW6:=hide (HW5.out.alloc hs5 (.cells #[.int .i64 (a:Int),.int .i64 (b:Int),.string (BA t)] 198));obtain⟨w6,hw6⟩:∃w6,w6=w5.alloc (.cells #[.int .i64 (a:Int),.int .i64 (b:Int),.string (BA t)] 198):=⟨_,rfl⟩;have hs6:w6.heap.size=w5.heap.size+1:=by rw[hw6];simp
    have h3c:=hide (three_new w6 (.int .i64 (a:Int)) (.int .i64 (b:Int)) (.string (BA t)) 198);rw[hs6,hw6]at h3c;clear HG H1 H2 hw6 hs6 w6;go_wp2_with (at_builtin;refine wpList_append_own _ rfl _ _ 171 rfl w.heap.size 198 i0 (.agg #[.int .i64 0,.int .i64 0,.string ⟨#[]⟩]) 3 32 Tryz.underlying171 hi hz0 hz1 hz2 rfl (by decide) _ _ _ rfl (by exact HO6.out.alloc _) ⟨w5.heap.size+1,0,none⟩ 1 1 [Value.int .i64 (a:Int),Value.int .i64 (b:Int),Value.string (BA t)] rfl rfl (by exact h3c.out) (tok3_one _ _ _) (by unfold maxLen;omega) (by omega) (by simp;omega) ?_)
    intro v7 w7 ho7 hg7 _;have HW7:=hide (own_grown3 HW6.out (by simp;omega) HO6.out hg7)
    have HO7:Hid (w7.ownsRow w.heap.size 198 3 v7 (l++[(a,b,t)]).length (tcells (l++[(a,b,t)]))):=by
     show World.ownsRow _ _ _ _ _ _ _;rw[←tcells_snoc,List.length_append];exact ho7
    have hl7:(l++[(a,b,t)]).length+s'.length≤r.length:=by simp;omega
    have hbs:=BA_size s';have hbn:=BA_size (n::s);clear ho7 hg7 HO5 HO6 HW5 HW6 h3c;go_wp2;go_roundw
    case rel=>exact⟨s',l++[(a,b,t)],hl7,rfl,HG2,HO7,HW7⟩
    case measure=>simp only[strLen]at*;simp[hbs,hbn];omega
   |false=>
    have HX:Hid (RG 128 r=none):=by show _=_;rw[HG.out,H2.out rfl];rfl
    have HW6:=hide (HW5.out.alloc hs5 (.cells #[.int .i64 (a:Int),.int .i64 (b:Int),.string (BA t)] 198));clear HG H1 H2;go_wp2;exact bodyPost_ret (results_tmp2 rfl _ _ _) rfl ⟨_,[],false,rfl,by simp,World.ownsRow_nil _ _ _ _,(fun h=>by cases h),(fun _=>HX.out),HW6.out⟩
theorem cutp_yes(c:UInt8)(r:List UInt8)(w:World):
 Calls Tryz.prog 151 #[.string (BA (c::r)),.string ⟨#[c]⟩] w fun e w'=>e=.returned (.tuple #[.string (BA r),.bool true])∧w'=w:=by
 refine(Tryz.strings_CutPrefix (BA (c::r)) ⟨#[c]⟩ w).mono ?_;rintro e w' ⟨rfl,rfl⟩;have h1:Lib.hasPrefix (BA (c::r)).data.toList (⟨#[c]⟩:ByteArray).data.toList=true:=by
  rw[BA_list];show List.isPrefixOf [c] (c::r)=true;simp[List.isPrefixOf]
 have h2:Lib.trimPrefix (BA (c::r)).data.toList (⟨#[c]⟩:ByteArray).data.toList=r:=by
  unfold Lib.trimPrefix;rw[if_pos h1];rfl
 rw[h1,h2];exact⟨rfl,rfl⟩
theorem cutp_no(t:List UInt8)(c:UInt8)(h:∀r,t≠c::r)(w:World):
 Calls Tryz.prog 151 #[.string (BA t),.string ⟨#[c]⟩] w fun e w'=>e=.returned (.tuple #[.string (BA t),.bool false])∧w'=w:=by
 refine(Tryz.strings_CutPrefix (BA t) ⟨#[c]⟩ w).mono ?_;rintro e w' ⟨rfl,rfl⟩;have h1:Lib.hasPrefix (BA t).data.toList (⟨#[c]⟩:ByteArray).data.toList=false:=by
  rw[BA_list];show List.isPrefixOf [c] t=false;cases t with
  |nil=>rfl
  |cons d r=>
   have hd:c≠d:=fun e=>h r (by rw[e])
   simp[List.isPrefixOf,hd]
 have h2:Lib.trimPrefix (BA t).data.toList (⟨#[c]⟩:ByteArray).data.toList=t:=by
  unfold Lib.trimPrefix;rw[if_neg (by rw[h1];simp)]
  rfl
 rw[h1,h2];exact⟨rfl,rfl⟩
theorem plainV_some(o:List UInt8):plainV (some o)=.tuple #[.string (BA o),.bool true]:=rfl
theorem plainV_none:plainV none=.tuple #[.string ⟨#[]⟩,.bool false]:=rfl
theorem iplainOf_any(t:List UInt8)(w:World)(ht:t.length≤65):
 Calls Tryz.prog 133 #[.string (BA t)] w fun e w'=>e=.returned (plainV (plainI t))∧Below w.heap.size w w':=by
 by_cases h1:∃r,t=114::r
 ·obtain⟨r,rfl⟩:=h1;have HX:Hid (plainI (114::r)=some r):=by show _=_;unfold plainI;simp
  have hbs:=BA_size r;simp at ht;go_enter Tryz.func133,Tryz.ntmps133;go_wp2_with fail;refine(cutp_yes 114 r _).mono ?_;rintro e w1 ⟨rfl,rfl⟩;go_wp2_with fail;refine(clone_anyW (BA r) _ (by omega)).mono ?_
  rintro e w2 ⟨rfl,hb⟩;go_wp2;exact bodyPost_ret (results_tmp2 rfl _ _ _) rfl ⟨by rw[HX.out];rfl,hb⟩
 ·have hn1:∀r,t≠114::r:=fun r e=>h1 ⟨r,e⟩
  by_cases h2:∃r,t=122::r
  ·obtain⟨r,rfl⟩:=h2;have HX:Hid (plainI (122::r)=(RG 128 r).bind plain):=by show _=_;unfold plainI;simp
   simp at ht;go_enter Tryz.func133,Tryz.ntmps133;go_wp2_with fail;refine(cutp_no _ 114 hn1 _).mono ?_;rintro e w1 ⟨rfl,rfl⟩;go_wp2_with fail;refine(cutp_yes 122 r _).mono ?_;rintro e w1 ⟨rfl,rfl⟩;go_wp2_with fail;refine(iread_anyU r _ (by omega)).mono ?_
   rintro e w2 ⟨v,l,ok,rfl,hl,ho,k1,k2,hb⟩;have HB:=hide hb;have K1:=hide k1;have K2:=hide k2;have HO:=hide ho;clear hb k1 k2 ho;cases ok with
   |true=>
    have HY:Hid (plainI (122::r)=gplain (l.map gtok)):=by
     show _=_;rw[HX.out,K1.out rfl];exact(gplain_tok l []).symm
    have hlm:(l.map gtok).length=l.length:=by simp
    have HO2:Hid (w2.ownsRow w1.heap.size 198 3 v (l.map gtok).length (gcells (l.map gtok))):=by
     show World.ownsRow _ _ _ _ _ _ _;rw[hlm,←tcells_g];exact HO.out
    obtain⟨p,q,hpq⟩:∃p q,plainV (gplain (l.map gtok))=.tuple #[.string p,.bool q]:=by
     cases gplain (l.map gtok)with
     |none=>exact⟨_,_,rfl⟩
     |some o=>exact⟨_,_,rfl⟩
    have HPQ:=hide hpq;have hl5:(l.map gtok).length≤1048576:=by omega
    clear HX K1 K2 HO hpq hlm;go_wp2_with fail;refine(iplain_any v _ _ _ hl5 HO2.out).mono ?_;rintro e w3 ⟨rfl,hb⟩;have HB3:=hide (HB.out.trans (hb.mono HB.out.size));rw[HPQ.out];clear hb HB;go_wp2;exact bodyPost_ret (results_tmp2 rfl _ _ _) rfl ⟨by rw[HY.out,HPQ.out];rfl,HB3.out⟩
   |false=>
    have HY:Hid (plainI (122::r)=none):=by
     show _=_;rw[HX.out,K2.out rfl];rfl
    clear HX K1 K2 HO;go_wp2;exact bodyPost_ret (results_tmp2 rfl _ _ _) rfl ⟨by rw[HY.out];rfl,HB.out⟩
  ·have hn2:∀r,t≠122::r:=fun r e=>h2 ⟨r,e⟩
   have HX:Hid (plainI t=none):=by
    show _=_;unfold plainI;cases t with
    |nil=>rfl
    |cons c r=>
     simp only;rw[if_neg (fun e=>hn1 r (by rw[e])),if_neg (fun e=>hn2 r (by rw[e]))]
   go_enter Tryz.func133,Tryz.ntmps133;go_wp2_with fail;refine(cutp_no _ 114 hn1 _).mono ?_;rintro e w1 ⟨rfl,rfl⟩;go_wp2_with fail;refine(cutp_no _ 122 hn2 _).mono ?_;rintro e w1 ⟨rfl,rfl⟩;go_wp2;exact bodyPost_ret (results_tmp2 rfl _ _ _) rfl ⟨by rw[HX.out];rfl,Below.refl _ _⟩
theorem BA_ne(a b:List UInt8)(h:a≠b):((BA a).toList==(BA b).toList)=false:=by
 rw[Lib.toList_data,Lib.toList_data,BA_list,BA_list,beq_eq_false_iff_ne];exact h
theorem iunp_any(t:List UInt8)(w:World)(ht0:t.length≤9223372036854775807):
 Calls Tryz.prog 114 #[.string (BA t)] w fun e w'=>e=.returned (plainV (unpackL t))∧Below w.heap.size w w':=by
 have hbs:=BA_size t;by_cases h65:(65:Int)<t.length
 ·have HX:Hid (unpackL t=none):=by show _=_;rw[←unpackI_eq];unfold unpackI;rw[if_pos (by omega)]
  go_enter Tryz.func114,Tryz.ntmps114;go_wp2;exact bodyPost_ret (results_tmp2 rfl _ _ _) rfl ⟨by rw[HX.out];rfl,Below.refl _ _⟩
 ·have HU:Hid (unpackL t=(plainI t).bind fun s=>if packL s=some t then some s else none):=by show _=_;rw[←unpackI_eq];unfold unpackI;rw[if_neg (by omega)]
  have HC:=hide (iplainOf_any t);obtain⟨o,ho⟩:∃o,plainI t=o:=⟨_,rfl⟩;rw[ho]at HU HC;clear ho;go_enter Tryz.func114,Tryz.ntmps114;go_wp2_with fail;refine(HC.out _ (by omega)).mono ?_
  rintro e w1 ⟨rfl,hb⟩;have HB1:=hide hb;clear hb HC;cases o with
  |none=>
   have HX:Hid (unpackL t=none):=HU;rw[plainV_none];clear HU;go_wp2;exact bodyPost_ret (results_tmp2 rfl _ _ _) rfl ⟨by rw[HX.out];rfl,HB1.out⟩
  |some s=>
   have HU2:Hid (unpackL t=if packL s=some t then some s else none):=HU
   have HC:=hide (ipack_any (BA s));rw[BA_list]at HC;obtain⟨o,ho⟩:∃o,packL s=o:=⟨_,rfl⟩;rw[ho]at HU2 HC;rw[plainV_some];clear ho HU;go_wp2_with fail;refine(HC.out _).mono ?_;rintro e w2 ⟨rfl,hb⟩;have HB2:=hide (HB1.out.trans (hb.mono HB1.out.size));clear hb HC HB1;cases o with
   |none=>
    have HX:Hid (unpackL t=none):=by show _=_;rw[HU2.out,if_neg (by simp)]
    rw[plainV_none];clear HU2;go_wp2;exact bodyPost_ret (results_tmp2 rfl _ _ _) rfl ⟨by rw[HX.out];rfl,HB2.out⟩
   |some p=>
    rw[plainV_some];by_cases hpt:p=t
    ·subst hpt;have HX:Hid (unpackL p=some s):=by show _=_;rw[HU2.out,if_pos rfl]
     have hne:((BA p).toList !=(BA p).toList)=false:=by simp
     clear HU2;go_wp2;exact bodyPost_ret (results_tmp2 rfl _ _ _) rfl ⟨by rw[HX.out];rfl,HB2.out⟩
    ·have HX:Hid (unpackL t=none):=by show _=_;rw[HU2.out,if_neg (fun e=>hpt (by simpa using e))]
     have hne:=BA_ne p t hpt;clear HU2;go_wp2;exact bodyPost_ret (results_tmp2 rfl _ _ _) rfl ⟨by rw[HX.out];rfl,HB2.out⟩
end Go.Proofs.YtiicghepilbgfaaGreatDoor
