/-
  ImplVar; SVar; SRd
-/
import Derived.Test.YtpdoponghlpkcaaDoorPk0
import Derived.Test.YtpdoponghlpkcaaDoorPk1
import Derived.Lib.Hide
import Derived.Test.YtpdoponghlpkcaaDoorPk27
import Derived.Test.YtpdoponghlpkcaaDoorPk6
import Derived.Deep.RegionWith
import Derived.Deep.RegionHeld3
import Derived.Laws.DeepStrings4
import Derived.Deep.QuietTactic
import Derived.BigQuiet
import Derived.Lib.Strings
import Derived.WalkSmall
set_option maxHeartbeats 400000
set_option maxRecDepth 100000
namespace Go.Proofs.YtpdoponghlpkcaaDoor
open Go.RowKit
open Words
theorem acc_len{acc:List UInt8}{m n:Nat}(h:acc++varL m=varL n)(hn:n<9223372036854775808):acc.length≤9:=by
 have h1:=congrArg List.length h;have h2:=varL_len n hn;simp at h1;omega
theorem acc_step{acc:List UInt8}{m n:Nat}(h:acc++varL m=varL n)(hm:128≤m):(acc++[UInt8.ofNat (m % 128+128)])++varL (m/128)=varL n:=by
 rw[←h,varL_high m hm];simp
theorem byte_of(m:Nat):((UInt8.ofNat (m % 128+128)).toNat:Int)=(m:Int) % 128+128:=by
 simp;omega
theorem byte_of'(m:Nat)(h:m<128):((UInt8.ofNat m).toNat:Int)=(m:Int):=by
 simp;omega
theorem l01Var_any(n:Nat)(w:World)(hn:n<9223372036854775808):
 Calls Tryd.prog 60 #[.int .i64 n] w fun e w'=>e=.returned (.string ⟨(varL n).toArray⟩)∧Below w.heap.size w w':=by
 obtain⟨i0,hi,hz0,hz1,hz2⟩:=info_parts infoByte;have hlen:=varL_len n hn;go_enter Tryd.func60,Tryd.ntmps60;go_wp2;go_loopw [0,3] (fun nv out wr=>∃(m:Nat) (acc:List UInt8),nv=.int .i64 m∧m≤n∧Hid (acc++varL m=varL n)∧wr.ownsRow w.heap.size 5 1 out acc.length (bcells acc)∧Below w.heap.size w wr) (fun nv _ _=>(intOf nv).toNat)
 case atStart=>exact⟨n,[],rfl,Nat.le_refl _,rfl,World.ownsRow_made w #[] 0 (Nat.le_refl _) (by unfold maxLen;omega) (by simp),(Below.refl _ _).alloc (Nat.le_refl _) _⟩
 case round=>
  obtain⟨m,acc,rfl,hm,hacc,hown,hbel⟩:=hrel;have hsz:=hbel.size;have hal:=acc_len hacc hn;by_cases hlt:127<(m:Int)
  ·go_wp2_with (at_builtin;refine wpList_append_own _ rfl _ _ 136 rfl w.heap.size 5 i0 (.int .u8 0) 1 1 Tryd.underlying136 hi hz0 hz1 hz2 rfl (by decide) _ _ _ rfl (hown.alloc _) ⟨wr.heap.size,0,none⟩ 1 1 [Value.int .u8 _] rfl rfl (one_cell _ _ _) (one_u8 _) ?c1 ?c2 ?c3 ?_)
   case c1=>unfold maxLen;omega
   case c2=>omega
   case c3=>first|omega|(simp;omega)
   intro v' w1 hown' hgrow _;have hb1:=own_grown hbel (by omega) hown hgrow
   rw[bcells_snoc acc _ _ (byte_of m)]at hown';have hacc':=acc_step hacc (by omega)
   clear hown hgrow hacc;go_wp2;go_roundw
   case rel=>exact⟨m/128,_,by go_num,by omega,hacc',by simpa using hown',hb1⟩
   case measure=>simp[intOf];omega
  ·go_wp2_with (at_builtin;refine wpList_append_own _ rfl _ _ 136 rfl w.heap.size 5 i0 (.int .u8 0) 1 1 Tryd.underlying136 hi hz0 hz1 hz2 rfl (by decide) _ _ _ rfl (hown.alloc _) ⟨wr.heap.size,0,none⟩ 1 1 [Value.int .u8 _] rfl rfl (one_cell _ _ _) (one_u8 _) ?c1 ?c2 ?c3 ?_)
   case c1=>unfold maxLen;omega
   case c2=>omega
   case c3=>first|omega|(simp;omega)
   intro v' w1 hown' hgrow _;have hb1:=own_grown hbel (by omega) hown hgrow
   rw[bcells_snoc acc _ _ (byte_of' m (by omega))]at hown'
   have e:acc++[UInt8.ofNat m]=varL n:=by rw[←hacc.out,varL_low m (by omega)]
   have eN:acc.length+1=(acc++[UInt8.ofNat m]).length:=by simp
   rw[eN,e]at hown';have E:=Lib.hid e;clear hown hgrow hacc e eN;obtain⟨l,hl⟩:∃l,l=varL n:=⟨_,rfl⟩;rw[←hl]at hown' hlen;have HL:=Lib.hid hl;clear hl E;rcases hown'.2 with⟨-,h0⟩|⟨g,cap,cur,rfl,-,-,-,-,-,-⟩
   ·omega
   ·have hcv:=run_convert_bytes_back (P:=Tryd.prog) w1 136 9 5 ⟨g,0,none⟩ cap l Tryd.underlying136 Tryd.underlying5 Tryd.underlying9 (fun j hj=>hown'.cells (g:=g) rfl j _ (bcells_at l j hj))
    go_wp2;go_ret;exact⟨by rw[HL.out];rfl,hb1⟩
theorem l01Var_int(x:Int)(w:World)(h0:0≤x)(h1:x≤1000000000):
 Calls Tryd.prog 60 #[.int .i64 x] w fun e w'=>e=.returned (.string ⟨(varL x.toNat).toArray⟩)∧Below w.heap.size w w':=by
 obtain⟨n,rfl⟩:=Int.eq_ofNat_of_zero_le h0
 simpa using l01Var_any n w (by omega)
theorem specRead(s:ByteArray)(q:Nat)(w:World)(hs:s.size≤1048576)(hq:q≤s.size):
 Calls Tryd.prog 56 #[.string s,.int .i64 q] w fun e w'=>e=.returned (rvRes (readV s.data.toList q))∧Below w.heap.size w w':=by
 have g:decide ((0:Int)≤q∧(q:Int)≤s.size)=true:=by simp;omega
 go_enter Tryd.func56,Tryd.ntmps56;go_wp2_with fail;refine(sin_any _ _ _ _).mono ?_;rintro e w' ⟨rfl,rfl⟩;rw[g];go_wp2;go_loop [7,8,9] (fun nv uv iv=>∃k n u:Nat,nv=.int .i64 n∧uv=.int .i64 u∧iv=.int .i64 (q+k:Nat)∧Hid (St s.data.toList q k n u)) (fun _ _ iv=>s.size-(intOf iv).toNat)
 case atStart=>exact⟨0,0,1,rfl,rfl,rfl,St.zero (by simpa using hq)⟩
 case round=>
  obtain⟨k,n,u,rfl,rfl,rfl,hst⟩:=hrel;obtain⟨b1,b2,b3,b4,b5⟩:=hst.out.bounds;by_cases hlt:q+k<s.size∧k<5
  ·obtain⟨h1,h2⟩:=hlt;have b6:=b4 h2;have c1:((q+k:Nat):Int)<s.size:=by omega
   have c2:((q+k:Nat):Int)<(q:Int)+5:=by omega
   clear b3 b4 b5;obtain⟨c,hcc⟩:∃c:Nat,s[q+k].toNat=c:=⟨_,rfl⟩;have hc8:c<256:=by rw[←hcc];exact UInt8.toNat_lt _
   have p2:=prod_le_int c u b6;have p3:=prod_nn c u;have H:Hid (At s.data.toList (q+k) c):=⟨by simpa using h1,by rw[←hcc];rfl⟩
   by_cases hc:(c:Int)<128
   ·by_cases hN:(n:Int)+(c:Int) % 128*u≤1000000000
    ·have hN':n+c % 128*u≤1000000000:=by rw[←prod_cast]at hN;omega
     have hd:decide ((1000000000:Int)<(n:Int)+(c:Int) % 128*u)=false:=by simpa using hN
     obtain⟨t,ht⟩:∃t,t=s.extract q (q+k+1):=⟨_,rfl⟩;have hsl:∀W,(Instr.slice 9 (.string s) (some (.int .i64 (q:Int))) (some (.int .i64 ((q:Int)+k+1))) none).run Tryd.prog W=.ok (.string t) W:=by
      intro W;rw[run_slice_string_if W 9 s .i64 .i64 q ((q:Int)+k+1) Tryd.underlying9,if_pos (by omega),if_pos (by omega),ht]
      rfl
     have htl:t.toList=(s.data.toList.drop q).take (k+1):=by
      rw[ht,Lib.toList_data,Lib.extract_data];congr 1;omega
     have hx:((n:Int)+(c:Int) % 128*u).toNat=n+c % 128*u:=by rw[←prod_cast];exact Int.toNat_natCast _
     have hv:=hst.out.var' H.out (show c<128 by omega)
     rw[←htl,←hx]at hv;have hwr:IntKind.i64.wrap ((q:Int)+k+1)=(q:Int)+k+1:=by
      rw[IntKind.wrap_i64];omega
     clear ht htl;by_cases h0:c=0∧k≠0
     ·have F:Hid (readV s.data.toList q=none):=hst.out.no' h2 H.out (by omega) (.inr h0)
      have hcmp:(varL ((n:Int)+(c:Int) % 128*u).toNat==t.toList)=false:=by
       rw[beq_eq_false_iff_ne];intro h;exact hv.1 h h0
      clear hx hv h0 hN';go_wp2;go_region_held3 (fun _=>True) (trivial) ((go_at_call 60;refine(l01Var_int _ _ (by omega) (by omega)).mono ?_;rintro e w1 ⟨rfl,hb⟩))
      go_wp2;go_ret3;exact⟨by rw[F.out];rfl,(Below.refl _ _).drew.trans hb⟩
     ·have F:Hid (readV s.data.toList q=some (n+c % 128*u,q+k+1)):=hst.out.yes' h2 H.out (by omega) hN' h0
      have hcmp:(varL ((n:Int)+(c:Int) % 128*u).toNat==t.toList)=true:=by
       rw[beq_iff_eq];exact hv.2 h0
      clear hx hv h0 hN';go_wp2;go_region_held3 (fun _=>True) (trivial) ((go_at_call 60;refine(l01Var_int _ _ (by omega) (by omega)).mono ?_;rintro e w1 ⟨rfl,hb⟩))
      go_wp2;go_ret3;exact⟨by rw[F.out,rvRes,prod_cast];rfl,(Below.refl _ _).drew.trans hb⟩
    ·have hN':1000000000<n+c % 128*u:=by rw[←prod_cast]at hN;omega
     have F:Hid (readV s.data.toList q=none):=hst.out.no' h2 H.out (by omega) (.inl hN')
     clear hN';have hd:decide ((1000000000:Int)<(n:Int)+(c:Int) % 128*u)=true:=by simpa using hN
     go_wp2;go_quiet (fail);go_wp2;go_ret3;exact⟨by rw[F.out];rfl,below_drewN (Below.refl _ _) _⟩
   ·go_wp2;go_round
    case rel=>exact⟨k+1,n+c % 128*u,u*128,by rw[prod_cast],by go_num,by go_num,hst.out.step' h2 H.out (by omega)⟩
    case measure=>simp[intOf];omega
  ·have F:Hid (readV s.data.toList q=none):=hst.out.stop (by simpa using hlt)
   by_cases h1:q+k<s.size
   ·have c1:((q+k:Nat):Int)<s.size:=by omega
    have c2:¬((q+k:Nat):Int)<(q:Int)+5:=by have:=hst.out.1;omega
    clear hlt b5;go_wp2;go_ret3;exact⟨by rw[F.out];rfl,Below.refl _ _⟩
   ·have c1:¬((q+k:Nat):Int)<s.size:=by omega
    clear hlt;go_wp2;go_ret3;exact⟨by rw[F.out];rfl,Below.refl _ _⟩
theorem specRead_out(s:ByteArray)(q:Int)(w:World)(hq:q<0∨s.size<q):
 Calls Tryd.prog 56 #[.string s,.int .i64 q] w fun e w'=>e=.returned (rvRes none)∧w'=w:=by
 have g:decide ((0:Int)≤q∧(q:Int)≤s.size)=false:=by simp only[decide_eq_false_iff_not];omega
 go_enter Tryd.func56,Tryd.ntmps56;go_wp2_with fail;refine(sin_any _ _ _ _).mono ?_;rintro e w' ⟨rfl,rfl⟩;rw[g];go_wp2;go_ret3;exact⟨rfl,rfl⟩
end Go.Proofs.YtpdoponghlpkcaaDoor
