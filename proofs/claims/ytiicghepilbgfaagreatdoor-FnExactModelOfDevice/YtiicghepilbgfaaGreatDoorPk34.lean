/-
  SPack; SUnp; SNewest; SRead
-/
import Derived.Test.YtiicghepilbgfaaGreatDoorPk31
import Derived.Test.YtiicghepilbgfaaGreatDoorSTok
import Derived.Test.YtiicghepilbgfaaGreatDoorPk32
import Derived.Test.YtiicghepilbgfaaGreatDoorPk25
import Derived.Test.YtiicghepilbgfaaGreatDoorPk9
import Derived.Test.YtiicghepilbgfaaGreatDoorPk13
import Derived.Deep.RegionHeld3
set_option maxHeartbeats 2000000
set_option maxRecDepth 100000
namespace Go.Proofs.YtiicghepilbgfaaGreatDoor
open Go.RowKit
open Pack
theorem two_conv(w:World)(c d:UInt8)(x y:Int)(hc:(c.toNat:Int)=x)(hd:(d.toNat:Int)=y):
 (convert 155 9 (.slice (some ⟨w.heap.size,0,none⟩) 2 2)).run Tryz.prog (w.alloc (.cells #[.int .u8 x,.int .u8 y] 5))=.ok (.string ⟨#[c,d]⟩) (w.alloc (.cells #[.int .u8 x,.int .u8 y] 5)):=by
 subst hc hd;exact run_convert_bytes_back (P:=Tryz.prog) (w.alloc (.cells #[.int .u8 c.toNat,.int .u8 d.toNat] 5)) 155 9 5 ⟨w.heap.size,0,none⟩ 2 [c,d] Tryz.underlying155 Tryz.underlying5 Tryz.underlying9
  (fun j hj=>two_cell w _ _ 5 j _ (by
   match j,hj with
   |0,_=>rfl
   |1,_=>rfl))
theorem str_two(o:List UInt8)(c d:UInt8):Value.string (⟨o.toArray⟩++⟨#[c,d]⟩)=.string ⟨(o++[c,d]).toArray⟩:=by
 rw[show(#[c,d]:Array UInt8)=[c,d].toArray from rfl,ByteArray.mk_append_mk]
theorem str_more(o:List UInt8)(c:UInt8)(t:ByteArray):Value.string (⟨o.toArray⟩++⟨#[c]⟩++t)=.string ⟨(o++c::t.data.toList).toArray⟩:=by
 congr 1;apply ByteArray.ext;rw[ByteArray.data_append,ByteArray.data_append];apply Array.ext';simp
theorem spack_any(s:ByteArray)(w:World):
 Calls Tryz.prog 104 #[.string s] w fun e w'=>e=.returned (plainV (packL s.data.toList))∧Below w.heap.size w w':=by
 have hl:s.data.toList.length=s.size:=by simp
 by_cases hs:(64:Int)<s.size
 ·have HX:Hid (packL s.data.toList=none):=by show _=_;unfold packL;rw[if_pos (by omega)]
  go_enter Tryz.func104,Tryz.ntmps104;go_wp2;exact bodyPost_ret (results_tmp2 rfl _ _ _) rfl ⟨by rw[HX.out];rfl,Below.refl _ _⟩
 ·have HF:=hide (toks_fit s.data.toList (by omega))
  have hlen:=itoks_len s.data.toList;obtain⟨l,hll⟩:∃l,toks s.data.toList=l:=⟨_,rfl⟩;have HP:Hid (packL s.data.toList=some (if s.size+1≤(122::l.flatMap zTok).length then 114::s.data.toList else 122::l.flatMap zTok)):=by
   show _=_;unfold packL zOf;rw[if_neg (by omega),hll,hl]
  have HT:=hide (toks_any s);rw[hll]at HF hlen;have HT2:Hid (∀w,Calls Tryz.prog 124 #[.string s] w fun e w'=>TRow w e w' l):=fun w=>by
   have:=HT.out w (by omega)
   rw[hll]at this;exact this
  have hl64:l.length≤64:=by omega
  clear hlen hll HT;go_enter Tryz.func104,Tryz.ntmps104;go_wp2_with fail;refine(HT2.out _).mono ?_;rintro e w1 ⟨v,rfl,ho,hb⟩;rw[tcells_g]at ho;obtain⟨ad,capa,rfl,a1,a2,a3⟩:=row_form3 ho;unfold maxLen at a2;have A3:=hide a3;have HA:=hide ho;have HB:=hide hb;have hsz1:=hb.size;clear a3 ho hb HT2;go_wp2;go_loopw [5,6] (fun zv iv wr=>∃(k:Nat) (o:List UInt8),k≤l.length∧o.length≤32*k+1∧iv=.int .i64 k∧zv=.string ⟨o.toArray⟩∧Hid (o=122::(l.take k).flatMap zTok)∧Hid (Below w1.heap.size w1 wr)) (fun _ iv _=>l.length-(intOf iv).toNat)
  case atStart=>exact⟨0,[122],Nat.zero_le _,by simp,rfl,rfl,rfl,Below.refl _ _⟩
  case round=>
   obtain⟨k,o,hk,hol,rfl,rfl,HG,HW⟩:=hrel;have hsz:=HW.out.size;by_cases hlt:(k:Int)<l.length
   ·obtain⟨ga,rfl,_,hga⟩:=A3.out (by omega)
    have hkl:k<l.length:=by omega
    obtain⟨b,z,x,ht⟩:∃b z x,l[k]?=some (b,z,x):=⟨l[k].1,l[k].2.1,l[k].2.2,List.getElem?_eq_getElem hkl⟩;have htg:(l.map gtok)[k]?=some (gtok (b,z,x)):=by rw[List.getElem?_map,ht];rfl
    obtain⟨c1,c2,c3⟩:=gown_cells (own_below HA.out HW.out) htg;simp only[gtok]at c1 c2 c3;have hfit:=HF.out _ (List.mem_of_getElem? ht);have hstep:122::(l.take (k+1)).flatMap zTok=o++zTok (b,z,x):=by
     obtain⟨e1,e2⟩:=List.getElem?_eq_some_iff.1 ht;rw[List.take_succ_eq_append_getElem e1,e2,List.flatMap_append,HG.out];simp
    have k0:(0:Int)≤k:=by omega
    obtain⟨t,hxt⟩:∃t:ByteArray,t=⟨x.toArray⟩:=⟨_,rfl⟩;have hts:t.size=x.length:=by rw[hxt];show x.toArray.size=_;simp
    have htl:t.data.toList=x:=by rw[hxt]
    rw[←hxt]at c3;have HST:=hide hstep;have HTL:=hide htl;clear ht htg hstep HG hxt htl;obtain⟨w5,hw5⟩:∃w5,w5=wr.alloc (.cells #[.int .i64 (b:Int),.int .i64 (z:Int),.string t] 198):=⟨_,rfl⟩;have hs5:w5.heap.size=wr.heap.size+1:=by rw[hw5];simp
    have HW6:Hid (∀o,Below w1.heap.size w1 (w5.alloc o)):=fun o=>by rw[hw5];exact(HW.out.alloc hsz _).alloc (by simp;omega) _
    by_cases hb:b=0
    ·have hx31:t.size≤31:=by rcases hfit with⟨_,_,h,_⟩|⟨h,_⟩<;>simp only at* <;>omega
     have HZ:Hid (zTok (b,z,x)=UInt8.ofNat t.size::t.data.toList):=by show _=_;unfold zTok;rw[if_pos hb,hts,HTL.out]
     have hcv:=mt_conv w5 (UInt8.ofNat t.size) (t.size:Int) (by rw[small_byte _ (by omega)])
     have tb:((b:Int)==0)=true:=by rw[beq_iff_eq];omega
     have hlz:(o++zTok (b,z,x)).length≤32*(k+1)+1:=by rw[List.length_append,HZ.out,List.length_cons];simp;omega
     rw[hs5,hw5]at hcv;rw[hw5]at HW6;clear hfit hts hw5 hs5 hb w5;go_wp2;go_roundw
     case rel=>exact⟨k+1,o++zTok (b,z,x),by omega,hlz,by go_num,(by rw[HZ.out];exact str_more _ _ _),(by show _=_;rw[HST.out]),HW6.out _⟩
     case measure=>simp[intOf];omega
    ·have hz31:z≤31:=by rcases hfit with⟨h1,_⟩|⟨_,_,_,h,_⟩<;>simp only at* <;>omega
     have hb64:b≤64:=by rcases hfit with⟨h1,_⟩|⟨_,h,_⟩<;>simp only at* <;>omega
     have HZ:Hid (zTok (b,z,x)=[UInt8.ofNat (128+z),UInt8.ofNat b]):=by show _=_;unfold zTok;rw[if_neg hb]
     have hcv:=two_conv w5 (UInt8.ofNat (128+z)) (UInt8.ofNat b) (128+(z:Int)) (b:Int) (by rw[small_byte _ (by omega)];omega) (by rw[small_byte _ (by omega)])
     have tb:((b:Int)==0)=false:=by rw[beq_eq_false_iff_ne];omega
     obtain⟨c,hc⟩:∃c:UInt8,c=UInt8.ofNat (128+z):=⟨_,rfl⟩;rw[←hc]at hcv HZ;clear hc;have hlz:(o++zTok (b,z,x)).length≤32*(k+1)+1:=by rw[List.length_append,HZ.out];simp;omega
     rw[hs5,hw5]at hcv;rw[hw5]at HW6;clear hfit hts hw5 hs5 w5;go_wp2;go_roundw
     case rel=>exact⟨k+1,o++zTok (b,z,x),by omega,hlz,by go_num,(by rw[HZ.out];exact str_two _ _ _),(by show _=_;rw[HST.out]),HW6.out _⟩
     case measure=>simp[intOf];omega
   ·have hke:k=l.length:=by omega
    have HX:Hid (o=122::l.flatMap zTok):=by show _=_;rw[HG.out,hke,List.take_length]
    rw[←HX.out]at HP;have HWW:=hide (HB.out.trans (HW.out.mono hsz1));clear HG hke HX;by_cases hle:(s.size:Int)+1≤o.length
    ·have HX:Hid (packL s.data.toList=some (114::s.data.toList)):=by show _=_;rw[HP.out,if_pos (by omega)]
     clear HP;go_wp2;exact bodyPost_ret (results_tmp2 rfl _ _ _) rfl ⟨by rw[HX.out];show _=Ending.returned (.tuple #[.string _,.bool true]);rw[←cons_str];rfl,HWW.out⟩
    ·have HX:Hid (packL s.data.toList=some o):=by show _=_;rw[HP.out,if_neg (by omega)]
     clear HP;go_wp2;exact bodyPost_ret (results_tmp2 rfl _ _ _) rfl ⟨by rw[HX.out];rfl,HWW.out⟩
theorem plainV_open(r:Option (List UInt8)):∃p q,plainV r=.tuple #[.string p,.bool q]:=by
 cases r with
 |none=>exact⟨_,_,rfl⟩
 |some o=>exact⟨_,_,rfl⟩
theorem cut_mid(l:List UInt8)(j k:Nat)(x y:Int)(hx:x=j)(hy:y=k)(hjk:j≤k)(hk:k≤l.length)(W:World):(Instr.slice 9 (.string (BA l)) (some (.int .i64 x)) (some (.int .i64 y)) none).run Tryz.prog W=.ok (.string (BA ((l.drop j).take (k-j)))) W:=by
 subst hx hy;rw[run_slice_string_if W 9 (BA l) .i64 .i64 _ _ Tryz.underlying9,if_pos (by rw[BA_size];omega),if_pos (by omega),←BA_ext]
 rfl
theorem sread_anyU(r:List UInt8)(w:World)(hr:r.length≤1048576):
 Calls Tryz.prog 102 #[.string (BA r)] w fun e w'=>TRead 129 w r e w':=by
 obtain⟨i0,hi,hz0,hz1,hz2⟩:=info_parts infoTok;have hbs:=BA_size r;go_enter Tryz.func102,Tryz.ntmps102;go_wp2;go_loopw [4,5] (fun tv av wr=>∃(k:Nat) (l:List (Nat×Nat×List UInt8)),k≤r.length∧l.length≤k∧av=.int .i64 k∧Hid (RG 129 r=(RG 129 (r.drop k)).map fun x=>l++x)∧Hid (wr.ownsRow w.heap.size 198 3 tv l.length (tcells l))∧Hid (Below w.heap.size w wr)) (fun _ av _=>r.length-(intOf av).toNat)
 case atStart=>exact⟨0,[],by omega,by simp,rfl,(by show _=_;simp),World.ownsRow_made w #[] 0 (Nat.le_refl _) (by unfold maxLen;omega) (by simp),(Below.refl _ _).alloc (Nat.le_refl _) _⟩
 case round=>
  obtain⟨k,l,hk,hlk,rfl,HG,HO,HW⟩:=hrel;have hsz:=HW.out.size;by_cases hlt:(k:Int)<r.length
  ·have hkl:k<r.length:=by omega
   obtain⟨n,hn⟩:∃n,r[k]?=some n:=⟨_,List.getElem?_eq_getElem hkl⟩;have hnl:=n.toNat_lt;have i1:=idx_of r k n (k:Int) rfl hn;have hdr:r.drop k=n::r.drop (k+1):=by
    obtain⟨h1,h2⟩:=List.getElem?_eq_some_iff.1 hn;rw[List.drop_eq_getElem_cons h1,h2]
   have hdl:(r.drop (k+1)).length=r.length-(k+1):=List.length_drop;have k0:(0:Int)≤k:=by omega
   rw[hdr]at HG;clear hdr hn;by_cases h128:(128:Int)<n.toNat
   ·by_cases h2:(r.length:Int)<(k:Int)+2
    ·have HX:Hid (RG 129 r=none):=by
      show _=_;have e0:r.drop (k+1)=[]:=List.eq_nil_of_length_eq_zero (by omega)
      rw[HG.out,e0,RG_cut 129 n (by omega)]
      rfl
     clear HG hdl;go_wp2;exact bodyPost_ret (results_tmp2 rfl _ _ _) rfl ⟨_,l,false,rfl,by omega,HO.out,(fun h=>by cases h),(fun _=>HX.out),HW.out⟩
    ·have hkl2:k+1<r.length:=by omega
     obtain⟨b,hb⟩:∃b,r[k+1]?=some b:=⟨_,List.getElem?_eq_getElem hkl2⟩;have hbl:=b.toNat_lt;have i2:=idx_of r (k+1) b ((k:Int)+1) (by omega) hb
     have hdr:r.drop (k+1)=b::r.drop (k+2):=by
      obtain⟨h1,h2⟩:=List.getElem?_eq_some_iff.1 hb;rw[List.drop_eq_getElem_cons h1,h2]
     have HG2:Hid (RG 129 r=(RG 129 (r.drop (k+2))).map fun x=>(l++[(b.toNat,n.toNat-128,[])])++x):=by
      show _=_;rw[HG.out,hdr,RG_match 129 n b _ (by omega),map_more]
     obtain⟨z,hz⟩:∃z:Nat,n.toNat-128=z:=⟨_,rfl⟩;have hzi:(n.toNat:Int)-128=(z:Int):=by omega
     rw[hz]at HG2;clear HG hdl hdr hb hz;go_wp2_with (at_builtin;refine wpList_append_own _ rfl _ _ 171 rfl w.heap.size 198 i0 (.agg #[.int .i64 0,.int .i64 0,.string ⟨#[]⟩]) 3 32 Tryz.underlying171 hi hz0 hz1 hz2 rfl (by decide) _ _ _ rfl (by exact HO.out.alloc _) ⟨wr.heap.size,0,none⟩ 1 1 [Value.int .i64 _,Value.int .i64 _,Value.string _] rfl rfl (by exact three_new _ _ _ _ _) (tok3_one _ _ _) (by unfold maxLen;omega) (by omega) (by simp;omega) ?_)
     intro v7 w7 ho7 hg7 _;have HW7:=hide (own_grown3 HW.out (by omega) HO.out hg7)
     have HO7:Hid (w7.ownsRow w.heap.size 198 3 v7 (l++[(b.toNat,z,[])]).length (tcells (l++[(b.toNat,z,[])]))):=by
      show World.ownsRow _ _ _ _ _ _ _;rw[←tcells_snoc,List.length_append];exact ho7
     have hl7:(l++[(b.toNat,z,([]:List UInt8))]).length≤k+2:=by simp;omega
     clear ho7 hg7 HO HW;go_wp2;go_roundw
     case rel=>exact⟨k+2,l++[(b.toNat,z,[])],by omega,hl7,by go_num,HG2,HO7,HW7⟩
     case measure=>simp[intOf];omega
   ·by_cases h2:(r.length:Int)<(k:Int)+1+n.toNat
    ·have HX:Hid (RG 129 r=none):=by
      show _=_;rw[HG.out,RG_short 129 n _ (by omega) (by omega)]
      rfl
     clear HG hdl;go_wp2;exact bodyPost_ret (results_tmp2 rfl _ _ _) rfl ⟨_,l,false,rfl,by omega,HO.out,(fun h=>by cases h),(fun _=>HX.out),HW.out⟩
    ·have c2:=cut_mid r (k+1) (k+1+n.toNat) ((k:Int)+1) ((k:Int)+1+n.toNat) (by omega) (by omega) (by omega) (by omega)
     rw[Nat.add_sub_cancel_left]at c2;have HG2:Hid (RG 129 r=(RG 129 (r.drop (k+1+n.toNat))).map fun x=>(l++[(0,0,(r.drop (k+1)).take n.toNat)])++x):=by
      show _=_;rw[HG.out,RG_text 129 n _ (by omega) (by omega),map_more,List.drop_drop]
     obtain⟨t,ht⟩:∃t,(r.drop (k+1)).take n.toNat=t:=⟨_,rfl⟩;rw[ht]at HG2 c2;clear HG hdl ht;go_wp2_with (at_builtin;refine wpList_append_own _ rfl _ _ 171 rfl w.heap.size 198 i0 (.agg #[.int .i64 0,.int .i64 0,.string ⟨#[]⟩]) 3 32 Tryz.underlying171 hi hz0 hz1 hz2 rfl (by decide) _ _ _ rfl (by exact HO.out.alloc _) ⟨wr.heap.size,0,none⟩ 1 1 [Value.int .i64 _,Value.int .i64 _,Value.string _] rfl rfl (by exact three_new _ _ _ _ _) (tok3_one _ _ _) (by unfold maxLen;omega) (by omega) (by simp;omega) ?_)
     intro v7 w7 ho7 hg7 _;have HW7:=hide (own_grown3 HW.out (by omega) HO.out hg7)
     have HO7:Hid (w7.ownsRow w.heap.size 198 3 v7 (l++[(0,0,t)]).length (tcells (l++[(0,0,t)]))):=by
      show World.ownsRow _ _ _ _ _ _ _;rw[←tcells_snoc,List.length_append];exact ho7
     have hl7:(l++[(0,0,t)]).length≤k+1+n.toNat:=by simp;omega
     clear ho7 hg7 HO HW;go_wp2;go_roundw
     case rel=>exact⟨k+1+n.toNat,l++[(0,0,t)],by omega,hl7,by go_num,HG2,HO7,HW7⟩
     case measure=>simp[intOf];omega
  ·have hke:k=r.length:=by omega
   have HX:Hid (RG 129 r=some l):=by show _=_;rw[HG.out,hke,List.drop_length,RG_nil];simp
   clear HG;go_wp2;exact bodyPost_ret (results_tmp2 rfl _ _ _) rfl ⟨_,l,true,rfl,by omega,HO.out,(fun _=>HX.out),(fun h=>by cases h),HW.out⟩
theorem sunp_any(t:List UInt8)(w:World)(ht:t.length≤1048576):
 Calls Tryz.prog 69 #[.string (BA t)] w fun e w'=>e=.returned (plainV (unpackL t))∧Below w.heap.size w w':=by
 have hbs:=BA_size t;cases t with
 |nil=>
  have HX:Hid (unpackL []=none):=rfl;have h0:((([]:List UInt8).length:Int)==0)=true:=rfl;go_enter Tryz.func69,Tryz.ntmps69;go_wp2;exact bodyPost_ret (results_tmp2 rfl _ _ _) rfl ⟨by rw[HX.out];rfl,Below.refl _ _⟩
 |cons c r=>
  have hcl:=c.toNat_lt;rw[List.length_cons]at ht hbs;have h0:(((r.length+1:Nat):Int)==0)=false:=by rw[beq_eq_false_iff_ne];omega
  have h0':((r.length:Int)+1==0)=false:=by rw[beq_eq_false_iff_ne];omega
  have i1:=idx_of (c::r) 0 c 0 rfl rfl;have c1:=cut_from (c::r) 1 1 rfl (by simp)
  rw[List.drop_one,List.tail_cons]at c1;have HU:=hide (unpackL_eq c r)
  -- the end: what is packed again is held against the text
  have fin:∀(s:List UInt8) (w1:World),Below w.heap.size w w1→unpackL (c::r)=(if packL s=some (c::r)then some s else none)→
   Calls Tryz.prog 104 #[.string (BA s)] w1 fun e w'=>∃(p:ByteArray) (q:Bool),e=.returned (.tuple #[.string p,.bool q])∧Hid (Below w.heap.size w w')∧
    ((q=false∧Hid (unpackL (c::r)=none))∨(q=true∧(p.toList==(BA (c::r)).toList)=false∧Hid (unpackL (c::r)=none))∨(q=true∧(p.toList==(BA (c::r)).toList)=true∧Hid (unpackL (c::r)=some s))):=by
   intro s w1 hb hu;refine(spack_any (BA s) w1).mono ?_;rintro e w2 ⟨rfl,hb2⟩;rw[BA_list];have hbb:=hb.trans (hb2.mono hb.size);cases hp:packL s with
   |none=>
    rw[hp,if_neg (by simp)]at hu
    exact⟨_,_,by rw[plainV_none],hbb,Or.inl ⟨rfl,hu⟩⟩
   |some p=>
    rw[hp]at hu;by_cases hpt:p=c::r
    ·subst hpt;rw[if_pos rfl]at hu;exact⟨_,_,by rw[plainV_some],hbb,Or.inr (Or.inr ⟨rfl,by simp,hu⟩)⟩
    ·rw[if_neg (fun e=>hpt (by simpa using e))]at hu
     exact⟨_,_,by rw[plainV_some],hbb,Or.inr (Or.inl ⟨rfl,BA_ne _ _ hpt,hu⟩)⟩
  have HFIN:=hide fin;clear fin;by_cases h122:((c.toNat:Int)==122)=true
  ·have hc:c=122:=by
    rw[beq_iff_eq]at h122;exact UInt8.toNat_inj.1 (by show c.toNat=122;omega)
   have HU2:Hid (unpackL (c::r)=((RG 129 r).bind plain).bind fun s=>if packL s=some (c::r)then some s else none):=by show _=_;rw[HU.out,if_pos hc]
   clear HU hc;go_enter Tryz.func69,Tryz.ntmps69;go_wp2_with fail;refine(sread_anyU r _ (by omega)).mono ?_
   rintro e w2 ⟨v,l,ok,rfl,hl,ho,k1,k2,hb⟩;have HB:=hide hb;have K1:=hide k1;have K2:=hide k2;have hlm:(l.map gtok).length=l.length:=by simp
   have HO2:Hid (w2.ownsRow w.heap.size 198 3 v (l.map gtok).length (gcells (l.map gtok))):=by
    show World.ownsRow _ _ _ _ _ _ _;rw[hlm,←tcells_g];exact ho
   have hl5:(l.map gtok).length≤1048576:=by omega
   have HGP:Hid (gplain (l.map gtok)=plain l):=gplain_tok l [];clear hb k1 k2 ho hlm;go_wp2_with fail;refine(splain_any v _ _ _ hl5 HO2.out).mono ?_;rintro e w3 ⟨rfl,hb⟩;have HB3:=hide (HB.out.trans (hb.mono HB.out.size));rw[HGP.out];clear hb HB HO2 HGP hl5;cases ok with
   |false=>
    obtain⟨p,q,hpq⟩:=plainV_open (plain l);rw[hpq];have HX:Hid (unpackL (c::r)=none):=by show _=_;rw[HU2.out,K2.out rfl];rfl
    clear HU2 K1 K2 hpq HFIN;go_wp2;exact bodyPost_ret (results_tmp2 rfl _ _ _) rfl ⟨by rw[HX.out];rfl,HB3.out⟩
   |true=>
    have hk:=K1.out rfl;cases hp:plain l with
    |none=>
     have HX:Hid (unpackL (c::r)=none):=by show _=_;rw[HU2.out,hk];simp[hp]
     rw[plainV_none];clear HU2 K1 K2 hp hk HFIN;go_wp2;exact bodyPost_ret (results_tmp2 rfl _ _ _) rfl ⟨by rw[HX.out];rfl,HB3.out⟩
    |some s=>
     have HX:Hid (unpackL (c::r)=if packL s=some (c::r)then some s else none):=by show _=_;rw[HU2.out,hk];simp[hp]
     rw[plainV_some];clear HU2 K1 K2 hp hk;go_wp2_with fail;refine(HFIN.out s _ HB3.out HX.out).mono ?_;rintro e w4 ⟨p,q,rfl,HB4,⟨rfl,HY⟩|⟨rfl,hne,HY⟩|⟨rfl,hne,HY⟩⟩
     ·clear HFIN HX;go_wp2;exact bodyPost_ret (results_tmp2 rfl _ _ _) rfl ⟨by rw[HY.out];rfl,HB4.out⟩
     ·clear HFIN HX;go_wp2;exact bodyPost_ret (results_tmp2 rfl _ _ _) rfl ⟨by rw[HY.out];rfl,HB4.out⟩
     ·clear HFIN HX;go_wp2;exact bodyPost_ret (results_tmp2 rfl _ _ _) rfl ⟨by rw[HY.out];rfl,HB4.out⟩
  ·have h122':((c.toNat:Int)==122)=false:=by simpa using h122
   have hc:c≠122:=fun e=>h122 (by rw[e];rfl)
   have HX:Hid (unpackL (c::r)=if packL r=some (c::r)then some r else none):=by show _=_;rw[HU.out,if_neg hc];rfl
   clear HU hc h122;go_enter Tryz.func69,Tryz.ntmps69;go_wp2_with fail;refine(HFIN.out r _ (Below.refl _ _) HX.out).mono ?_;rintro e w4 ⟨p,q,rfl,HB4,⟨rfl,HY⟩|⟨rfl,hne,HY⟩|⟨rfl,hne,HY⟩⟩
   ·clear HFIN HX;go_wp2;exact bodyPost_ret (results_tmp2 rfl _ _ _) rfl ⟨by rw[HY.out];rfl,HB4.out⟩
   ·clear HFIN HX;go_wp2;exact bodyPost_ret (results_tmp2 rfl _ _ _) rfl ⟨by rw[HY.out];rfl,HB4.out⟩
   ·clear HFIN HX;go_wp2;exact bodyPost_ret (results_tmp2 rfl _ _ _) rfl ⟨by rw[HY.out];rfl,HB4.out⟩
end Go.Proofs.YtiicghepilbgfaaGreatDoor
namespace Go.Proofs.YtiicghepilbgfaaGreatDoor
open Go.RowKit
open Words Pack
theorem snewest(ad:Option Addr)(len cap:Nat)(M:List Fnd)(c:Int)(w:World)(hl:len≤1000000000000000000)(h:FdRd w ad len M):
 Calls Tryz.prog 68 #[.slice ad len cap,.int .i64 c] w fun e w'=>e=.returned (.tuple #[fdVal (fdOr (newP M c)),.bool (newP M c).isSome])∧Below w.heap.size w w':=by
 have HN:=hide (show M.length=len from h.1);have b0:Below w.heap.size w (w.alloc (.cells #[.int .i64 0,.int .i64 0,.int .i64 0,.int .i64 0,.int .i64 0,.int .i64 0,.int .i64 0,.string ⟨#[]⟩] 106)):=(Below.refl _ _).alloc (Nat.le_refl _) _;have HZ:Hid (FdAt (w.alloc (.cells #[.int .i64 0,.int .i64 0,.int .i64 0,.int .i64 0,.int .i64 0,.int .i64 0,.int .i64 0,.string ⟨#[]⟩] 106)) w.heap.size fd0):=heap_alloc_new _ _;have HR:=hide (h.below b0);have B0:=hide b0;clear h b0;go_enter Tryz.func68,Tryz.ntmps68;go_wp2;generalize w.alloc (.cells #[.int .i64 0,.int .i64 0,.int .i64 0,.int .i64 0,.int .i64 0,.int .i64 0,.int .i64 0,.string ⟨#[]⟩] 106)=wa at HZ B0 HR⊢;go_loopw [6] (fun iv wr=>∃(z:Int) (k:Nat),iv=.int .i64 z∧-1≤z∧z<len∧Hid (z+1=(k:Int))∧Hid (newP M c=newP (M.take k) c)∧wr=wa) (fun iv _=>(intOf iv+1).toNat)
 case atStart=>exact⟨(len:Int)-1,len,by go_num,by omega,by omega,(by show _=_;omega),(by show _=_;rw[List.take_of_length_le (by have:=HN.out;omega)]),rfl⟩
 case round=>
  obtain⟨z,k,rfl,h1,h2,hzk,HP,rfl⟩:=hrel;by_cases hz:0≤z
  ·obtain⟨j,rfl⟩:∃j:Nat,z=(j:Int):=⟨z.toNat,by omega⟩
   have hkj:k=j+1:=by have:=hzk.out;omega
   subst hkj;have hjl:j<M.length:=by have:=HN.out;omega
   obtain⟨x,hx⟩:∃x,M[j]?=some x:=⟨_,List.getElem?_eq_getElem hjl⟩;obtain⟨rb,ro,rfl,-,c0,c1,c2,c3,c4,c5,c6,c7,d4⟩:=HR.out.all hx;have HS:=hide (newP_succ hx c);have HPn:=HP;rw[HS.out]at HPn;obtain⟨xb,xl,pk,pq,px,pp,pc,pt⟩:=x;simp only at c0 c1 c2 c3 c4 c5 c6 c7 d4 HPn;clear hx hjl HP HS hzk;unfold isData at HPn;simp only at HPn;by_cases q1:(pk==1)=true
   ·by_cases q2:(px==c)=true
    ·have HO:Hid (newP M c=some ⟨xb,xl,pk,pq,px,pp,pc,pt⟩):=by show _=_;rw[HPn.out,q1,q2];rfl
     obtain⟨k0,k1,k2,k3,k4,k5,k6,k7⟩:=HZ.out.cells;have f0:=HZ.out.fr 0;have f1:=HZ.out.fr 1;have f2:=HZ.out.fr 2;have f3:=HZ.out.fr 3;have f4:=HZ.out.fr 4;have f5:=HZ.out.fr 5;have f6:=HZ.out.fr 6;have f7:=HZ.out.fr 7;have FD:=hide (HZ.out.set ⟨xb,xl,pk,pq,px,pp,pc,pt⟩);have BD:=hide (below_fd (v0:=.int .i64 xb) (v1:=.int .i64 xl) (v2:=.int .i64 pk) (v3:=.int .i64 pq) (v4:=.int .i64 px) (v5:=.int .i64 pp) (v6:=.int .i64 pc) (v7:=.string pt) B0.out (Nat.le_refl _));simp only[fd0]at k0 k1 k2 k3 k4 k5 k6 k7;clear HPn;go_wp2;refine bodyPost_ret (results_fd2 rfl _ _ w.heap.size ⟨xb,xl,pk,pq,px,pp,pc,pt⟩ rfl FD.out) rfl ?_;rw[HO.out];exact⟨rfl,BD.out⟩
    ·have q2:(px==c)=false:=by simpa using q2
     have HO:Hid (newP M c=newP (M.take j) c):=by show _=_;rw[HPn.out,q1,q2];rfl
     clear HPn;go_wp2;go_roundw
     case rel=>exact⟨(j:Int)-1,j,by go_num,by omega,by omega,(by show _=_;omega),HO,trivial⟩
     case measure=>simp[intOf]
   ·have q1:(pk==1)=false:=by simpa using q1
    have HO:Hid (newP M c=newP (M.take j) c):=by show _=_;rw[HPn.out,q1];rfl
    clear HPn;go_wp2;go_roundw
    case rel=>exact⟨(j:Int)-1,j,by go_num,by omega,by omega,(by show _=_;omega),HO,trivial⟩
    case measure=>simp[intOf]
  ·have hk0:k=0:=by have:=hzk.out;omega
   have HO:Hid (newP M c=none):=by show _=_;rw[HP.out,hk0];rfl
   obtain⟨k0,k1,k2,k3,k4,k5,k6,k7⟩:=HZ.out.cells;have f0:=HZ.out.fr 0;have f1:=HZ.out.fr 1;have f2:=HZ.out.fr 2;have f3:=HZ.out.fr 3;have f4:=HZ.out.fr 4;have f5:=HZ.out.fr 5;have f6:=HZ.out.fr 6;have f7:=HZ.out.fr 7;have FD:=hide (HZ.out.set fd0);have BD:=hide (below_fd (v0:=.int .i64 0) (v1:=.int .i64 0) (v2:=.int .i64 0) (v3:=.int .i64 0) (v4:=.int .i64 0) (v5:=.int .i64 0) (v6:=.int .i64 0) (v7:=.string ⟨#[]⟩) B0.out (Nat.le_refl _));simp only[fd0]at k0 k1 k2 k3 k4 k5 k6 k7;clear HP hzk hk0;go_wp2;refine bodyPost_ret (results_fd2 rfl _ _ w.heap.size fd0 rfl FD.out) rfl ?_;rw[HO.out];exact⟨rfl,BD.out⟩
theorem stextL(ad:Option Addr)(len cap:Nat)(M:List Fnd)(c:Int)(w:World)(hl:len≤1000000000000000000)(ht:∀x∈M,x.page.text.size≤1048576)(h:FdRd w ad len M):
 Calls Tryz.prog 45 #[.slice ad len cap,.int .i64 c] w fun e w'=>e=.returned (plainV (textP M c))∧Below w.heap.size w w':=by
 have C:=hide (snewest ad len cap M c w hl h);cases hn:newP M c with
 |none=>
  have HO:Hid (textP M c=none):=by show _=_;unfold textP;rw[hn];rfl
  rw[hn]at C;unfold fdOr fd0 fdVal at C;simp only[Option.getD_none,Option.isSome_none]at C;clear h ht hn;go_enter Tryz.func45,Tryz.ntmps45;go_wp2_with fail;refine C.out.mono ?_;rintro e w1 ⟨rfl,b1⟩;have B1:=hide (b1.trans (((Below.refl _ _).alloc (Nat.le_refl _) (.cells #[.int .i64 0,.int .i64 0,.int .i64 0,.int .i64 0,.int .i64 0,.int .i64 0,.int .i64 0,.string ⟨#[]⟩] 106)).mono b1.size));clear b1 C;go_wp2;refine bodyPost_ret (results_tmp2 rfl _ _ _) rfl ?_;rw[HO.out];exact⟨rfl,B1.out⟩
 |some x=>
  have HO:Hid (textP M c=unpackL x.page.text.data.toList):=by show _=_;unfold textP;rw[hn];rfl
  have hsz:=ht x (newP_mem hn).1;rw[hn]at C;obtain⟨xb,xl,pk,pq,px,pp,pc,pt⟩:=x;unfold fdOr fdVal at C;simp only[Option.getD_some,Option.isSome_some]at C;have CU:=hide (fun W=>sunp_any pt.data.toList W hsz)
  rw[show BA pt.data.toList=pt from by unfold BA;simp]at CU
  simp only at HO;obtain⟨p,q,hpq⟩:=plainV_open (unpackL pt.data.toList);rw[hpq]at CU;have HPQ:=hide hpq;clear h ht hn hpq;go_enter Tryz.func45,Tryz.ntmps45;go_wp2_with fail;refine C.out.mono ?_;rintro e w1 ⟨rfl,b1⟩;have b2:Below w1.heap.size w1 (w1.alloc (.cells #[.int .i64 xb,.int .i64 xl,.int .i64 pk,.int .i64 pq,.int .i64 px,.int .i64 pp,.int .i64 pc,.string pt] 106)):=(Below.refl _ _).alloc (Nat.le_refl _) _;have B1:=hide (b1.trans (b2.mono b1.size));have FA:Hid (FdAt (w1.alloc (.cells #[.int .i64 xb,.int .i64 xl,.int .i64 pk,.int .i64 pq,.int .i64 px,.int .i64 pp,.int .i64 pc,.string pt] 106)) w1.heap.size ⟨xb,xl,pk,pq,px,pp,pc,pt⟩):=heap_alloc_new _ _;obtain⟨-,-,-,-,-,-,-,k7⟩:=FA.out.cells;simp only at k7;clear b1 b2 C FA;go_wp2_with fail;refine(CU.out _).mono ?_;rintro e w2 ⟨rfl,b3⟩;have B2:=hide (B1.out.trans (b3.mono B1.out.size));clear b3 B1;go_wp2;refine bodyPost_ret (results_tmp2 rfl _ _ _) rfl ?_;rw[HO.out,HPQ.out];exact⟨rfl,B2.out⟩
end Go.Proofs.YtiicghepilbgfaaGreatDoor
namespace Go.Proofs.YtiicghepilbgfaaGreatDoor
open Go.RowKit
theorem sread_rd(v:Value)(rs:List Rw)(b leaf:Int)(w:World)(hl:rs.length≤1048576)(hll:∀r∈rs,r.2.2.2.length≤1048576)(ha:FlashRd w v rs):
 Calls Tryz.prog 41 #[.agg #[v],.int .i64 b,.int .i64 leaf] w fun e w'=>e=.returned (.tuple #[.string (readF (rs.map tellOf) b leaf).1,.bool (readF (rs.map tellOf) b leaf).2])∧Below w.heap.size w w':=by
 have h1:=ha;obtain⟨vd,vcap,rfl,-⟩:=h1;have HLL:=hide hll;have HB0:=hide ((Below.refl w.heap.size w).alloc (Nat.le_refl _) (.cells #[.slice vd rs.length vcap] 49));have HA:=hide (ha.below HB0.out);have r0:=heap_alloc_new w (.cells #[.slice vd rs.length vcap] 49);have k0:(w.alloc (.cells #[.slice vd rs.length vcap] 49)).cell? ⟨w.heap.size,0,none⟩=some (.slice vd rs.length vcap):=cell_of_row _ _ 0 _ _ _ r0;have K0:=hide k0;have hw1:IntKind.i64.wrap ((rs.length:Int)-1)=(rs.length:Int)-1:=by rw[IntKind.wrap_i64];omega
 clear ha hll r0 k0;go_enter Tryz.func41,Tryz.ntmps41;go_wp2_with fail;refine(sin_any b 0 ((rs.length:Int)-1) _).mono ?_;rintro e w2 ⟨rfl,rfl⟩;generalize w.alloc (.cells #[.slice vd rs.length vcap] 49)=w2 at HB0 HA K0⊢;have k0:=K0.out;by_cases hb:0≤b∧b≤(rs.length:Int)-1
 ·rw[decide_eq_true hb];obtain⟨k,rfl⟩:∃k:Nat,b=k:=⟨b.toNat,by omega⟩
  have hkl:k<rs.length:=by omega
  have hr:rs[k]?=some rs[k]:=List.getElem?_eq_getElem hkl;generalize rs[k]=r at hr;have hmem:=List.mem_of_getElem? hr;have hrl:=HLL.out r hmem;obtain⟨g,eg,⟨c1,c2,c3⟩,hlf⟩:=HA.out.at hr;subst eg;have HBR:Hid ((rs.map tellOf)[k]?=some (tellOf r)):=by show _=_;rw[List.getElem?_map,hr];rfl
  obtain⟨x,y,u,ls⟩:=r;simp only at c1 c2 c3;simp only at hlf hrl;obtain⟨ld,capl,rfl,-,l3⟩:=hlf;have L3:=hide l3;have kk0:(0:Int)≤k:=by omega
  have kk1:(k:Int)<rs.length:=by omega
  have hw2:IntKind.i64.wrap ((ls.length:Int)-1)=(ls.length:Int)-1:=by rw[IntKind.wrap_i64];omega
  clear hr hmem l3 c1 c2 hb;go_wp2_with fail;refine(sin_any leaf 0 ((ls.length:Int)-1) _).mono ?_;rintro e w3 ⟨rfl,rfl⟩;by_cases hf:0≤leaf∧leaf≤(ls.length:Int)-1
  ·rw[decide_eq_true hf];obtain⟨j,rfl⟩:∃j:Nat,leaf=j:=⟨leaf.toNat,by omega⟩
   have hjl:j<ls.length:=by omega
   obtain⟨z,t,ht⟩:∃z t,ls[j]?=some (z,t):=⟨ls[j].1,ls[j].2,List.getElem?_eq_getElem hjl⟩;obtain⟨gl,lo,el,d1,d2⟩:=L3.out j (z,t) ht;subst el;simp only at d1 d2;have RI:=hide (read_in (t:=(z,t)) HBR.out ht);have j0:(0:Int)≤j:=by omega
   have j1:(j:Int)<ls.length:=by omega
   clear ht hf;by_cases hz:z=1
   ·have HP:Hid (readF (rs.map tellOf) (k:Int) (j:Int)=(t,true)):=RI.out.1 hz;have e1:(z !=1)=false:=by simp[hz]
    clear hz;go_wp2;go_ret2;exact⟨by rw[HP.out];rfl,HB0.out⟩
   ·have HP:Hid (readF (rs.map tellOf) (k:Int) (j:Int)=(⟨#[]⟩,false)):=RI.out.2 hz;have e1:(z !=1)=true:=by simp[hz]
    clear hz;go_wp2;go_ret2;exact⟨by rw[HP.out];rfl,HB0.out⟩
  ·rw[decide_eq_false hf];have HP:Hid (readF (rs.map tellOf) (k:Int) leaf=(⟨#[]⟩,false)):=read_leaf_out HBR.out hf;clear hf;go_wp2;go_ret2;exact⟨by rw[HP.out];rfl,HB0.out⟩
 ·rw[decide_eq_false hb];have HP:Hid (readF (rs.map tellOf) b leaf=(⟨#[]⟩,false)):=read_out (by rw[List.length_map];exact hb)
  clear hb;go_wp2;go_ret2;exact⟨by rw[HP.out];rfl,HB0.out⟩
end Go.Proofs.YtiicghepilbgfaaGreatDoor
