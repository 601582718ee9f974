/-
  STok
-/
import Derived.Test.YtiicghepilbgfaaGreatDoorPk32
set_option maxHeartbeats 1000000
set_option maxRecDepth 100000
namespace Go.Proofs.YtiicghepilbgfaaGreatDoor
open Go.RowKit
open Pack
theorem match_int(s:ByteArray)(z:Int)(i j:Nat)(hz:z=i)(w:World)(hs:s.size≤64)(hij:i<j)(hj:j≤s.size):
 Calls Tryz.prog 143 #[.string s,.int .i64 z,.int .i64 j] w fun e w'=>e=.returned (.int .i64 (mlen 31 (s.data.toList.drop i) (s.data.toList.drop j):Nat))∧Below w.heap.size w w':=by
 subst hz;exact match_any s i j w hs hij hj
theorem toks_any(s:ByteArray)(w:World)(hs:s.size≤64):
 Calls Tryz.prog 124 #[.string s] w fun e w'=>TRow w e w' (toks s.data.toList):=by
 obtain⟨i0,hi,hz0,hz1,hz2⟩:=info_parts infoTok;have hl:s.data.toList.length=s.size:=by simp
 go_enter Tryz.func124,Tryz.ntmps124;go_wp2;go_loopw [3,4] (fun out av wr=>∃(m k:Nat) (l:List (Nat×Nat×List UInt8)),k≤s.size∧l.length≤m∧m≤k∧av=.int .i64 k∧Hid (stepsT m s.data.toList=(k,l))∧Hid (wr.ownsRow w.heap.size 198 3 out l.length (tcells l))∧Below w.heap.size w wr) (fun _ av _=>64-(intOf av).toNat)
 case atStart=>exact⟨0,0,[],by omega,by simp,by omega,rfl,rfl,World.ownsRow_made w #[] 0 (Nat.le_refl _) (by unfold maxLen;omega) (by simp),(Below.refl _ _).alloc (Nat.le_refl _) _⟩
 case round=>
  obtain⟨m,k,l,hk,hll,hmk,rfl,HS,HO,hbel⟩:=hrel;have hsz:=hbel.size;by_cases hlt:(k:Int)<s.size
  ·obtain⟨wz,hwz⟩:∃wz,wz=wr:=⟨_,rfl⟩;subst hwz;go_wp2;go_loopw [5,6,7] (fun bv kv fv w6=>∃(c b1 b2:Nat),c≤k∧fv=.int .i64 ((k:Int)-1-c)∧bv=.int .i64 b1∧kv=.int .i64 b2∧b1≤31∧b2≤64∧Hid (best s.data.toList k c=(b1,b2))∧Below wz.heap.size wz w6) (fun _ _ fv _=>(intOf fv+1).toNat)
   case atStart=>exact⟨0,0,0,by omega,by go_num,rfl,rfl,by omega,by omega,rfl,Below.refl _ _⟩
   case round=>
    obtain⟨c,b1,b2,hc,rfl,rfl,rfl,hb1,hb2,HB,hb6⟩:=hrel;have hs6:=hb6.size;by_cases hck:c<k
    ·have hge:(0:Int)≤(k:Int)-1-c:=by omega
     have hm31:=(mlen_le 31 (s.data.toList.drop (k-(c+1))) (s.data.toList.drop k)).1;go_wp2_with fail;refine(match_int s _ (k-(c+1)) k (by omega) _ hs (by omega) (by omega)).mono ?_
     rintro e w7 ⟨rfl,hb7⟩;have hbb:Below wz.heap.size wz w7:=hb6.trans (hb7.mono hs6);have HB2:Hid (∀n,mlen 31 (s.data.toList.drop (k-(c+1))) (s.data.toList.drop k)=n→(4≤n∧b1<n→best s.data.toList k (c+1)=(n,c+1))∧(¬(4≤n∧b1<n)→best s.data.toList k (c+1)=(b1,b2))):=by
      intro n hn;subst hn;have e1:(best s.data.toList k c).1=b1:=by rw[HB.out]
      refine⟨fun h=>best_yes _ _ _ h.1 (by rw[e1];exact h.2),fun h=>?_⟩
      rw[best_no _ _ _ (by rw[e1];exact h),HB.out]
     obtain⟨n,hn⟩:∃n,mlen 31 (s.data.toList.drop (k-(c+1))) (s.data.toList.drop k)=n:=⟨_,rfl⟩;have HB3:=hide (HB2.out n hn);rw[hn]at hm31⊢;clear hn HB2 HB hb6 hb7;by_cases h4:(4:Int)≤n
     ·by_cases hbn:(b1:Int)<n
      ·have HB4:Hid (best s.data.toList k (c+1)=(n,c+1)):=HB3.out.1 ⟨by omega,by omega⟩
       clear HB3;go_wp2;go_roundw
       case rel=>exact⟨c+1,n,c+1,by omega,by go_num,rfl,by go_num,by omega,by omega,HB4,hbb⟩
       case measure=>simp[intOf];omega
      ·have HB4:Hid (best s.data.toList k (c+1)=(b1,b2)):=HB3.out.2 (by omega)
       clear HB3;go_wp2;go_roundw
       case rel=>exact⟨c+1,b1,b2,by omega,by go_num,rfl,rfl,hb1,hb2,HB4,hbb⟩
       case measure=>simp[intOf];omega
     ·have HB4:Hid (best s.data.toList k (c+1)=(b1,b2)):=HB3.out.2 (by omega)
      clear HB3;go_wp2;go_roundw
      case rel=>exact⟨c+1,b1,b2,by omega,by go_num,rfl,rfl,hb1,hb2,HB4,hbb⟩
      case measure=>simp[intOf];omega
    ·have eck:c=k:=by omega
     subst eck;have hge:¬(0:Int)≤(c:Int)-1-c:=by omega
     have HO6:=hide (own_below HO.out hb6);have hB6:Below w.heap.size w wr:=hbel.trans (hb6.mono hsz);by_cases h0:(0:Int)<b1
     ·obtain⟨hst,hle⟩:=steps_match s.data.toList m c b1 b2 l (by omega) HS.out (by omega) HB.out (by omega)
      have HS2:=hide hst;clear HS HB hst hbel hb6 HO;go_wp2_with (at_builtin;refine wpList_append_own _ rfl _ _ 171 rfl w.heap.size 198 i0 (.agg #[.int .i64 0,.int .i64 0,.string ⟨#[]⟩]) 3 32 Tryz.underlying171 hi hz0 hz1 hz2 rfl (by decide) _ _ _ rfl (by exact HO6.out.alloc _) ⟨wr.heap.size,0,none⟩ 1 1 [Value.int .i64 _,Value.int .i64 _,Value.string _] rfl rfl (by exact three_new _ _ _ _ _) (tok3_one _ _ _) (by unfold maxLen;omega) (by omega) (by simp;omega) ?_)
      intro v' w2 hown2 hgrow _;have hb2:Below w.heap.size w w2:=own_grown3 hB6 (by omega) HO6.out hgrow
      have HO2:Hid (w2.ownsRow w.heap.size 198 3 v' (l++[(b2,b1,[])]).length (tcells (l++[(b2,b1,[])]))):=by
       show World.ownsRow _ _ _ _ _ _ _;rw[←tcells_snoc,List.length_append];exact hown2
      clear hown2 hgrow HO6 hB6;go_wp2;go_roundw
      case rel=>exact⟨m+1,c+b1,l++[(b2,b1,[])],by omega,(by simp only[List.length_append,List.length_cons,List.length_nil]at*;omega),by omega,by go_num,HS2,HO2,hb2⟩
      case measure=>simp[intOf];omega
     ·have hb0:(best s.data.toList c c).1=0:=by rw[HB.out];show b1=0;omega
      have hbyte:s.data.toList.getD c 0=s[c]:=by
       rw[List.getD_eq_getElem?_getD,List.getElem?_eq_getElem (by omega)]
       rfl
      obtain⟨u,hu⟩:∃u:ByteArray,u=s.extract c (c+1):=⟨_,rfl⟩;have hu1:u=⟨[s.data.toList.getD c 0].toArray⟩:=by
       rw[hu];apply ByteArray.ext;apply Array.ext';rw[Lib.extract_data];simp only[Nat.add_sub_cancel_left];rw[List.drop_eq_getElem_cons (by omega)]
       simp[List.getD_eq_getElem?_getD,List.getElem?_eq_getElem (show c<s.data.toList.length by omega)]
      have hsl:∀W,(Instr.slice 9 (.string s) (some (.int .i64 (c:Int))) (some (.int .i64 ((c:Int)+1))) none).run Tryz.prog W=.ok (.string u) W:=by
       intro W;rw[run_slice_string_if W 9 s .i64 .i64 _ _ Tryz.underlying9,if_pos (by omega),if_pos (by omega),hu]
       rfl
      have HU:=hide hu1;clear hu hu1 hbyte;by_cases hn:∃(l':List (Nat×Nat×List UInt8)) (z:Nat) (t:List UInt8),l=l'++[(0,z,t)]∧t.length<31
      ·obtain⟨l',z,t,rfl,ht⟩:=hn;have HS2:=hide (steps_more s.data.toList m c z l' t HS.out (by omega) hb0 ht)
       have hlen:(l'++[((0:Nat),z,t)]).length=l'.length+1:=by simp
       obtain⟨gq,capq,rfl⟩:=own_slice3 HO6.out (by omega)
       have hat:(l'++[((0:Nat),z,t)])[l'.length]?=some (0,z,t):=by simp
       obtain⟨k1,k2,k3⟩:=tcells_at _ l'.length (0,z,t) hat;have c1:=HO6.out.cells (g:=gq) rfl _ _ k1;have c3:=HO6.out.cells (g:=gq) rfl _ _ k3;rw[addr_at,Nat.mul_comm]at c1 c3;have f3:=HO6.out.frozenAt (l'.length*3+2);have hgq:=(HO6.out.lt gq rfl).1;obtain⟨x,hx⟩:∃x:ByteArray,x=⟨(t++[s.data.toList.getD c 0]).toArray⟩:=⟨_,rfl⟩;have HO8:=own_set HO6.out rfl (l'.length*3+2) (.string x);rw[hx,show l'.length*3+2=3*l'.length+2 by omega,tcells_text,←hx]at HO8
       rw[show 3*l'.length+2=l'.length*3+2 by omega]at HO8
       obtain⟨tt,htt⟩:∃tt:ByteArray,tt=⟨t.toArray⟩:=⟨_,rfl⟩;have hts:(tt.size:Int)<31:=by rw[htt];show((t.toArray.size:Nat):Int)<31;simp;omega
       rw[←htt]at c3;have hxx:tt++u=x:=by
        rw[htt,HU.out,hx];apply ByteArray.ext;simp[ByteArray.data_append]
       have hus:u.size=1:=by rw[HU.out];rfl
       have hadd:∀W,(Go.Op.stringOp .add tt u).run Tryz.prog W=.ok (.string x) W:=by
        intro W;unfold Go.Op.stringOp;simp only[];rw[if_neg (by show¬_>(9223372036854775807:Int);omega),hxx]
        rfl
       rw[hlen]at HO8 hll⊢;have hB8:=hB6.setCell (p:=⟨gq,l'.length*3+2,none⟩) hgq (.string x);have H8:=hide HO8;have HB8:=hide hB8;obtain⟨N,hN⟩:∃N,N=l'.length:=⟨_,rfl⟩;rw[←hN]at c1 c3 f3 H8 HB8 hll⊢;simp only at c1;have HN:=hide hN;have n0:(0:Int)≤N:=by omega
       clear hat k1 k2 k3 HO6 hlen HO8 hB8 hx htt hxx hN HS HB hbel hb6 HO hB6 hgq;go_wp2;go_region;have H9:Hid ((wr.setCell ⟨gq,N*3+2,none⟩ (.string x)).drew.ownsRow w.heap.size 198 3 (.slice (some ⟨gq,0,none⟩) (N+1) capq) (N+1) (tcells (l'++[(0,z,t++[s.data.toList.getD c 0])]))):=H8;have HB9:=hide HB8.out.drew;generalize(wr.setCell ⟨gq,N*3+2,none⟩ (.string x)).drew=w9 at H9 HB9⊢;have hl9:(l'++[((0:Nat),z,t++[s.data.toList.getD c 0])]).length=N+1:=by rw[List.length_append,HN.out];rfl
       have H10:Hid (w9.ownsRow w.heap.size 198 3 (.slice (some ⟨gq,0,none⟩) (N+1) capq) (l'++[((0:Nat),z,t++[s.data.toList.getD c 0])]).length (tcells (l'++[(0,z,t++[s.data.toList.getD c 0])]))):=by
        show World.ownsRow _ _ _ _ _ _ _;rw[hl9];exact H9.out
       have hl10:(l'++[((0:Nat),z,t++[s.data.toList.getD c 0])]).length≤m+1:=by omega
       clear H8 HB8 H9 c1 c3 f3 hadd hsl hl9;go_wp2;go_roundw
       case rel=>exact⟨m+1,c+1,l'++[(0,z,t++[s.data.toList.getD c 0])],by omega,hl10,by omega,by go_num,HS2,H10,HB9.out⟩
       case measure=>simp[intOf];omega
      ·have HS2:=hide (steps_new s.data.toList m c l HS.out (by omega) hb0 (fun a z t e h=>hn ⟨a,z,t,e,h⟩))
       clear HS HB hbel hb6 HO;rcases List.eq_nil_or_concat l with hl0|⟨l',⟨b,z,t⟩,hl0⟩
       ·subst hl0;rcases HO6.out.2 with⟨rfl,-⟩|⟨gq,capq,curq,rfl,-⟩
        ·clear hn;go_wp2_with (at_builtin;refine wpList_append_own _ rfl _ _ 171 rfl w.heap.size 198 i0 (.agg #[.int .i64 0,.int .i64 0,.string ⟨#[]⟩]) 3 32 Tryz.underlying171 hi hz0 hz1 hz2 rfl (by decide) _ _ _ rfl (by exact HO6.out.alloc _) ⟨wr.heap.size,0,none⟩ 1 1 [Value.int .i64 _,Value.int .i64 _,Value.string _] rfl rfl (by exact three_new _ _ _ _ _) (tok3_one _ _ _) (by unfold maxLen;omega) (by omega) (by simp;omega) ?_)
         intro v' w2 hown2 hgrow _;have hb2:Below w.heap.size w w2:=own_grown3 hB6 (by omega) HO6.out hgrow
         have HO2:Hid (w2.ownsRow w.heap.size 198 3 v' (([]:List (Nat×Nat×List UInt8))++[(0,0,[s.data.toList.getD c 0])]).length (tcells (([]:List (Nat×Nat×List UInt8))++[(0,0,[s.data.toList.getD c 0])]))):=by
          show World.ownsRow _ _ _ _ _ _ _;rw[←tcells_snoc,List.length_append];have:=hown2;rw[HU.out]at this;exact this
         clear hown2 hgrow HO6 hB6;go_wp2;go_roundw
         case rel=>exact⟨m+1,c+1,([]:List (Nat×Nat×List UInt8))++[(0,0,[s.data.toList.getD c 0])],by omega,(by simp only[List.length_append,List.length_cons,List.length_nil]at*;omega),by omega,by go_num,HS2,HO2,hb2⟩
         case measure=>simp[intOf];omega
        ·clear hn;go_wp2_with (at_builtin;refine wpList_append_own _ rfl _ _ 171 rfl w.heap.size 198 i0 (.agg #[.int .i64 0,.int .i64 0,.string ⟨#[]⟩]) 3 32 Tryz.underlying171 hi hz0 hz1 hz2 rfl (by decide) _ _ _ rfl (by exact HO6.out.alloc _) ⟨wr.heap.size,0,none⟩ 1 1 [Value.int .i64 _,Value.int .i64 _,Value.string _] rfl rfl (by exact three_new _ _ _ _ _) (tok3_one _ _ _) (by unfold maxLen;omega) (by omega) (by simp;omega) ?_)
         intro v' w2 hown2 hgrow _;have hb2:Below w.heap.size w w2:=own_grown3 hB6 (by omega) HO6.out hgrow
         have HO2:Hid (w2.ownsRow w.heap.size 198 3 v' (([]:List (Nat×Nat×List UInt8))++[(0,0,[s.data.toList.getD c 0])]).length (tcells (([]:List (Nat×Nat×List UInt8))++[(0,0,[s.data.toList.getD c 0])]))):=by
          show World.ownsRow _ _ _ _ _ _ _;rw[←tcells_snoc,List.length_append];have:=hown2;rw[HU.out]at this;exact this
         clear hown2 hgrow HO6 hB6;go_wp2;go_roundw
         case rel=>exact⟨m+1,c+1,([]:List (Nat×Nat×List UInt8))++[(0,0,[s.data.toList.getD c 0])],by omega,(by simp only[List.length_append,List.length_cons,List.length_nil]at*;omega),by omega,by go_num,HS2,HO2,hb2⟩
         case measure=>simp[intOf];omega
       ·have hl0':l=l'++[(b,z,t)]:=by rw[hl0];simp
        have hlen:l.length=l'.length+1:=by rw[hl0'];simp
        obtain⟨gq,capq,rfl⟩:=own_slice3 HO6.out (by omega)
        have hat:l[l'.length]?=some (b,z,t):=by rw[hl0'];simp
        obtain⟨k1,k2,k3⟩:=tcells_at l l'.length (b,z,t) hat;have c1:=HO6.out.cells (g:=gq) rfl _ _ k1;have c3:=HO6.out.cells (g:=gq) rfl _ _ k3;rw[addr_at,Nat.mul_comm]at c1 c3;obtain⟨N,hN⟩:∃N,N=l'.length:=⟨_,rfl⟩;rw[←hN]at c1 c3 hlen;have HN:=hide hlen;have hNm:N+1≤m:=by omega
        have HO7:Hid (wr.ownsRow w.heap.size 198 3 (.slice (some ⟨gq,0,none⟩) (N+1) capq) (N+1) (tcells l)):=by
         show World.ownsRow _ _ _ _ _ _ _;have:=HO6.out;rw[hlen]at this;exact this
        rw[hlen];obtain⟨tt,htt⟩:∃tt:ByteArray,tt=⟨t.toArray⟩:=⟨_,rfl⟩;have hts:tt.size=t.length:=by rw[htt];show t.toArray.size=_;simp
        rw[←htt]at c3;simp only at c1;clear hat k1 k2 k3 HO6 hll;by_cases hb:b=0
        ·have ht31:¬(tt.size:Int)<31:=fun h=>hn ⟨l',z,t,by rw[hl0',hb],by omega⟩
         subst hb;clear hn hN hl0 hl0' hlen htt hts;go_wp2_with (at_builtin;refine wpList_append_own _ rfl _ _ 171 rfl w.heap.size 198 i0 (.agg #[.int .i64 0,.int .i64 0,.string ⟨#[]⟩]) 3 32 Tryz.underlying171 hi hz0 hz1 hz2 rfl (by decide) _ (N+1) (tcells l) rfl (by exact HO7.out.alloc _) ⟨wr.heap.size,0,none⟩ 1 1 [Value.int .i64 _,Value.int .i64 _,Value.string _] rfl rfl (by exact three_new _ _ _ _ _) (tok3_one _ _ _) (by unfold maxLen;omega) (by omega) (by simp;omega) ?_)
         intro v' w2 hown2 hgrow _;have hb2:Below w.heap.size w w2:=own_grown3 hB6 (by omega) HO7.out hgrow
         have HO2:Hid (w2.ownsRow w.heap.size 198 3 v' (l++[(0,0,[s.data.toList.getD c 0])]).length (tcells (l++[(0,0,[s.data.toList.getD c 0])]))):=by
          show World.ownsRow _ _ _ _ _ _ _;rw[←tcells_snoc,List.length_append,HN.out];have:=hown2;rw[HU.out]at this;exact this
         have hl2:(l++[(0,0,[s.data.toList.getD c 0])]).length≤m+1:=by rw[List.length_append,HN.out];simp only[List.length_cons,List.length_nil];omega
         clear hown2 hgrow HO7 hB6;go_wp2;go_roundw
         case rel=>exact⟨m+1,c+1,l++[(0,0,[s.data.toList.getD c 0])],by omega,hl2,by omega,by go_num,HS2,HO2,hb2⟩
         case measure=>simp[intOf];omega
        ·have tb:((b:Int)==0)=false:=by rw[beq_eq_false_iff_ne];omega
         clear hn hN hl0 hl0' hlen htt hts c3;go_wp2_with (at_builtin;refine wpList_append_own _ rfl _ _ 171 rfl w.heap.size 198 i0 (.agg #[.int .i64 0,.int .i64 0,.string ⟨#[]⟩]) 3 32 Tryz.underlying171 hi hz0 hz1 hz2 rfl (by decide) _ (N+1) (tcells l) rfl (by exact HO7.out.alloc _) ⟨wr.heap.size,0,none⟩ 1 1 [Value.int .i64 _,Value.int .i64 _,Value.string _] rfl rfl (by exact three_new _ _ _ _ _) (tok3_one _ _ _) (by unfold maxLen;omega) (by omega) (by simp;omega) ?_)
         intro v' w2 hown2 hgrow _;have hb2:Below w.heap.size w w2:=own_grown3 hB6 (by omega) HO7.out hgrow
         have HO2:Hid (w2.ownsRow w.heap.size 198 3 v' (l++[(0,0,[s.data.toList.getD c 0])]).length (tcells (l++[(0,0,[s.data.toList.getD c 0])]))):=by
          show World.ownsRow _ _ _ _ _ _ _;rw[←tcells_snoc,List.length_append,HN.out];have:=hown2;rw[HU.out]at this;exact this
         have hl2:(l++[(0,0,[s.data.toList.getD c 0])]).length≤m+1:=by rw[List.length_append,HN.out];simp only[List.length_cons,List.length_nil];omega
         clear hown2 hgrow HO7 hB6;go_wp2;go_roundw
         case rel=>exact⟨m+1,c+1,l++[(0,0,[s.data.toList.getD c 0])],by omega,hl2,by omega,by go_num,HS2,HO2,hb2⟩
         case measure=>simp[intOf];omega
  ·have ek:k=s.size:=by omega
   have ET:Hid (toks s.data.toList=l):=steps_end _ m l (by rw[HS.out,ek,hl]) (by omega)
   go_wp2;go_ret;rw[ET.out];exact⟨_,rfl,HO.out,hbel⟩
end Go.Proofs.YtiicghepilbgfaaGreatDoor
