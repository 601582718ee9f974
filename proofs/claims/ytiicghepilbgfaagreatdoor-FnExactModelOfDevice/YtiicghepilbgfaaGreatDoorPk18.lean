/-
  ImplVar; SVar; SRd; SCur
-/
import Derived.Test.YtiicghepilbgfaaGreatDoorPk0
import Derived.Test.YtiicghepilbgfaaGreatDoorPk6
import Derived.Lib.Hide
import Derived.Test.YtiicghepilbgfaaGreatDoorPk16
import Derived.Test.YtiicghepilbgfaaGreatDoorPk9
import Derived.Deep.RegionWith
import Derived.Deep.RegionHeld3
import Derived.Laws.DeepStrings4
import Derived.Deep.QuietTactic
import Derived.BigQuiet
import Derived.Lib.Strings
import Derived.WalkSmall
import Derived.Laws.Rows
set_option maxHeartbeats 400000
set_option maxRecDepth 100000
namespace Go.Proofs.YtiicghepilbgfaaGreatDoor
open Go.RowKit
open Words
theorem acc_len{acc:List UInt8}{m n:Nat}(h:acc++varL m=varL n)(hn:n<9223372036854775808):acc.length≤9:=by
 have h1:=congrArg List.length h;have h2:=varL_len n hn;simp at h1;omega
theorem acc_step{acc:List UInt8}{m n:Nat}(h:acc++varL m=varL n)(hm:128≤m):(acc++[UInt8.ofNat (m % 128+128)])++varL (m/128)=varL n:=by
 rw[←h,varL_high m hm];simp
theorem byte_of(m:Nat):((UInt8.ofNat (m % 128+128)).toNat:Int)=(m:Int) % 128+128:=by
 simp;omega
theorem byte_of'(m:Nat)(h:m<128):((UInt8.ofNat m).toNat:Int)=(m:Int):=by
 simp;omega
theorem l01Var_any(n:Nat)(w:World)(hn:n<9223372036854775808):
 Calls Tryz.prog 98 #[.int .i64 n] w fun e w'=>e=.returned (.string ⟨(varL n).toArray⟩)∧Below w.heap.size w w':=by
 obtain⟨i0,hi,hz0,hz1,hz2⟩:=info_parts infoByte;have hlen:=varL_len n hn;go_enter Tryz.func98,Tryz.ntmps98;go_wp2;go_loopw [0,3] (fun nv out wr=>∃(m:Nat) (acc:List UInt8),nv=.int .i64 m∧m≤n∧Hid (acc++varL m=varL n)∧wr.ownsRow w.heap.size 5 1 out acc.length (bcells acc)∧Below w.heap.size w wr) (fun nv _ _=>(intOf nv).toNat)
 case atStart=>exact⟨n,[],rfl,Nat.le_refl _,rfl,World.ownsRow_made w #[] 0 (Nat.le_refl _) (by unfold maxLen;omega) (by simp),(Below.refl _ _).alloc (Nat.le_refl _) _⟩
 case round=>
  obtain⟨m,acc,rfl,hm,hacc,hown,hbel⟩:=hrel;have hsz:=hbel.size;have hal:=acc_len hacc hn;by_cases hlt:127<(m:Int)
  ·go_wp2_with (at_builtin;refine wpList_append_own _ rfl _ _ 155 rfl w.heap.size 5 i0 (.int .u8 0) 1 1 Tryz.underlying155 hi hz0 hz1 hz2 rfl (by decide) _ _ _ rfl (hown.alloc _) ⟨wr.heap.size,0,none⟩ 1 1 [Value.int .u8 _] rfl rfl (one_cell _ _ _) (one_u8 _) ?c1 ?c2 ?c3 ?_)
   case c1=>unfold maxLen;omega
   case c2=>omega
   case c3=>first|omega|(simp;omega)
   intro v' w1 hown' hgrow _;have hb1:=own_grown hbel (by omega) hown hgrow
   rw[bcells_snoc acc _ _ (byte_of m)]at hown';have hacc':=acc_step hacc (by omega)
   clear hown hgrow hacc;go_wp2;go_roundw
   case rel=>exact⟨m/128,_,by go_num,by omega,hacc',by simpa using hown',hb1⟩
   case measure=>simp[intOf];omega
  ·go_wp2_with (at_builtin;refine wpList_append_own _ rfl _ _ 155 rfl w.heap.size 5 i0 (.int .u8 0) 1 1 Tryz.underlying155 hi hz0 hz1 hz2 rfl (by decide) _ _ _ rfl (hown.alloc _) ⟨wr.heap.size,0,none⟩ 1 1 [Value.int .u8 _] rfl rfl (one_cell _ _ _) (one_u8 _) ?c1 ?c2 ?c3 ?_)
   case c1=>unfold maxLen;omega
   case c2=>omega
   case c3=>first|omega|(simp;omega)
   intro v' w1 hown' hgrow _;have hb1:=own_grown hbel (by omega) hown hgrow
   rw[bcells_snoc acc _ _ (byte_of' m (by omega))]at hown'
   have e:acc++[UInt8.ofNat m]=varL n:=by rw[←hacc.out,varL_low m (by omega)]
   have eN:acc.length+1=(acc++[UInt8.ofNat m]).length:=by simp
   rw[eN,e]at hown';have E:=Lib.hid e;clear hown hgrow hacc e eN;obtain⟨l,hl⟩:∃l,l=varL n:=⟨_,rfl⟩;rw[←hl]at hown' hlen;have HL:=Lib.hid hl;clear hl E;rcases hown'.2 with⟨-,h0⟩|⟨g,cap,cur,rfl,-,-,-,-,-,-⟩
   ·omega
   ·have hcv:=run_convert_bytes_back (P:=Tryz.prog) w1 155 9 5 ⟨g,0,none⟩ cap l Tryz.underlying155 Tryz.underlying5 Tryz.underlying9 (fun j hj=>hown'.cells (g:=g) rfl j _ (bcells_at l j hj))
    go_wp2;go_ret;exact⟨by rw[HL.out];rfl,hb1⟩
theorem l01Var_int(x:Int)(w:World)(h0:0≤x)(h1:x≤1000000000):
 Calls Tryz.prog 98 #[.int .i64 x] w fun e w'=>e=.returned (.string ⟨(varL x.toNat).toArray⟩)∧Below w.heap.size w w':=by
 obtain⟨n,rfl⟩:=Int.eq_ofNat_of_zero_le h0
 simpa using l01Var_any n w (by omega)
theorem specRead(s:ByteArray)(q:Nat)(w:World)(hs:s.size≤1048576)(hq:q≤s.size):
 Calls Tryz.prog 94 #[.string s,.int .i64 q] w fun e w'=>e=.returned (rvRes (readV s.data.toList q))∧Below w.heap.size w w':=by
 have g:decide ((0:Int)≤q∧(q:Int)≤s.size)=true:=by simp;omega
 go_enter Tryz.func94,Tryz.ntmps94;go_wp2_with fail;refine(sin_any _ _ _ _).mono ?_;rintro e w' ⟨rfl,rfl⟩;rw[g];go_wp2;go_loop [7,8,9] (fun nv uv iv=>∃k n u:Nat,nv=.int .i64 n∧uv=.int .i64 u∧iv=.int .i64 (q+k:Nat)∧Hid (St s.data.toList q k n u)) (fun _ _ iv=>s.size-(intOf iv).toNat)
 case atStart=>exact⟨0,0,1,rfl,rfl,rfl,St.zero (by simpa using hq)⟩
 case round=>
  obtain⟨k,n,u,rfl,rfl,rfl,hst⟩:=hrel;obtain⟨b1,b2,b3,b4,b5⟩:=hst.out.bounds;by_cases hlt:q+k<s.size∧k<5
  ·obtain⟨h1,h2⟩:=hlt;have b6:=b4 h2;have c1:((q+k:Nat):Int)<s.size:=by omega
   have c2:((q+k:Nat):Int)<(q:Int)+5:=by omega
   clear b3 b4 b5;obtain⟨c,hcc⟩:∃c:Nat,s[q+k].toNat=c:=⟨_,rfl⟩;have hc8:c<256:=by rw[←hcc];exact UInt8.toNat_lt _
   have p2:=prod_le_int c u b6;have p3:=prod_nn c u;have H:Hid (At s.data.toList (q+k) c):=⟨by simpa using h1,by rw[←hcc];rfl⟩
   by_cases hc:(c:Int)<128
   ·by_cases hN:(n:Int)+(c:Int) % 128*u≤1000000000
    ·have hN':n+c % 128*u≤1000000000:=by rw[←prod_cast]at hN;omega
     have hd:decide ((1000000000:Int)<(n:Int)+(c:Int) % 128*u)=false:=by simpa using hN
     obtain⟨t,ht⟩:∃t,t=s.extract q (q+k+1):=⟨_,rfl⟩;have hsl:∀W,(Instr.slice 9 (.string s) (some (.int .i64 (q:Int))) (some (.int .i64 ((q:Int)+k+1))) none).run Tryz.prog W=.ok (.string t) W:=by
      intro W;rw[run_slice_string_if W 9 s .i64 .i64 q ((q:Int)+k+1) Tryz.underlying9,if_pos (by omega),if_pos (by omega),ht]
      rfl
     have htl:t.toList=(s.data.toList.drop q).take (k+1):=by
      rw[ht,Lib.toList_data,Lib.extract_data];congr 1;omega
     have hx:((n:Int)+(c:Int) % 128*u).toNat=n+c % 128*u:=by rw[←prod_cast];exact Int.toNat_natCast _
     have hv:=hst.out.var' H.out (show c<128 by omega)
     rw[←htl,←hx]at hv;have hwr:IntKind.i64.wrap ((q:Int)+k+1)=(q:Int)+k+1:=by
      rw[IntKind.wrap_i64];omega
     clear ht htl;by_cases h0:c=0∧k≠0
     ·have F:Hid (readV s.data.toList q=none):=hst.out.no' h2 H.out (by omega) (.inr h0)
      have hcmp:(varL ((n:Int)+(c:Int) % 128*u).toNat==t.toList)=false:=by
       rw[beq_eq_false_iff_ne];intro h;exact hv.1 h h0
      clear hx hv h0 hN';go_wp2;go_region_held3 (fun _=>True) (trivial) ((go_at_call 98;refine(l01Var_int _ _ (by omega) (by omega)).mono ?_;rintro e w1 ⟨rfl,hb⟩))
      go_wp2;go_ret3;exact⟨by rw[F.out];rfl,(Below.refl _ _).drew.trans hb⟩
     ·have F:Hid (readV s.data.toList q=some (n+c % 128*u,q+k+1)):=hst.out.yes' h2 H.out (by omega) hN' h0
      have hcmp:(varL ((n:Int)+(c:Int) % 128*u).toNat==t.toList)=true:=by
       rw[beq_iff_eq];exact hv.2 h0
      clear hx hv h0 hN';go_wp2;go_region_held3 (fun _=>True) (trivial) ((go_at_call 98;refine(l01Var_int _ _ (by omega) (by omega)).mono ?_;rintro e w1 ⟨rfl,hb⟩))
      go_wp2;go_ret3;exact⟨by rw[F.out,rvRes,prod_cast];rfl,(Below.refl _ _).drew.trans hb⟩
    ·have hN':1000000000<n+c % 128*u:=by rw[←prod_cast]at hN;omega
     have F:Hid (readV s.data.toList q=none):=hst.out.no' h2 H.out (by omega) (.inl hN')
     clear hN';have hd:decide ((1000000000:Int)<(n:Int)+(c:Int) % 128*u)=true:=by simpa using hN
     go_wp2;go_quiet (fail);go_wp2;go_ret3;exact⟨by rw[F.out];rfl,below_drewN (Below.refl _ _) _⟩
   ·go_wp2;go_round
    case rel=>exact⟨k+1,n+c % 128*u,u*128,by rw[prod_cast],by go_num,by go_num,hst.out.step' h2 H.out (by omega)⟩
    case measure=>simp[intOf];omega
  ·have F:Hid (readV s.data.toList q=none):=hst.out.stop (by simpa using hlt)
   by_cases h1:q+k<s.size
   ·have c1:((q+k:Nat):Int)<s.size:=by omega
    have c2:¬((q+k:Nat):Int)<(q:Int)+5:=by have:=hst.out.1;omega
    clear hlt b5;go_wp2;go_ret3;exact⟨by rw[F.out];rfl,Below.refl _ _⟩
   ·have c1:¬((q+k:Nat):Int)<s.size:=by omega
    clear hlt;go_wp2;go_ret3;exact⟨by rw[F.out];rfl,Below.refl _ _⟩
theorem specRead_out(s:ByteArray)(q:Int)(w:World)(hq:q<0∨s.size<q):
 Calls Tryz.prog 94 #[.string s,.int .i64 q] w fun e w'=>e=.returned (rvRes none)∧w'=w:=by
 have g:decide ((0:Int)≤q∧(q:Int)≤s.size)=false:=by simp only[decide_eq_false_iff_not];omega
 go_enter Tryz.func94,Tryz.ntmps94;go_wp2_with fail;refine(sin_any _ _ _ _).mono ?_;rintro e w' ⟨rfl,rfl⟩;rw[g];go_wp2;go_ret3;exact⟨rfl,rfl⟩
theorem readV_far(l:List UInt8)(q:Nat)(h:l.length<q):readV l q=none:=by
 unfold readV;rw[List.drop_eq_nil_of_le (by omega)]
 rfl
theorem svread_any(s:ByteArray)(q:Nat)(w:World)(hs:s.size≤1048576):
 Calls Tryz.prog 94 #[.string s,.int .i64 q] w fun e w'=>e=.returned (rvRes (readV s.data.toList q))∧Below w.heap.size w w':=by
 by_cases h:q≤s.size
 ·exact specRead s q w hs h
 ·rw[readV_far _ _ (show s.size<q by omega)]
  refine(specRead_out s q w (by omega)).mono ?_
  rintro e w' ⟨rfl,rfl⟩;exact⟨rfl,Below.refl _ _⟩
def CAt(w:World)(g:Nat)(t:ByteArray)(i:Int)(bad:Bool):Prop:=g<w.heap.size∧w.cell? ⟨g,0,none⟩=some (.string t)∧w.cell? ⟨g,1,none⟩=some (.int .i64 i)∧w.cell? ⟨g,2,none⟩=some (.bool bad)∧w.frozen? ⟨g,1,none⟩=false∧w.frozen? ⟨g,2,none⟩=false
def MovedC(w w':World)(g:Nat)(t:ByteArray)(i:Int)(bad:Bool):Prop:=Kept2 w w' (·≠g)∧CAt w' g t i bad
theorem CAt.below{w w':World}{g:Nat}{t:ByteArray}{i:Int}{bad:Bool}(h:CAt w g t i bad)(hb:Below w.heap.size w w'):CAt w' g t i bad:=by
 obtain⟨h1,h2,h3,h4,h5,h6⟩:=h;have e:∀j,w'.cell? ⟨g,j,none⟩=w.cell? ⟨g,j,none⟩:=fun j=>hb.cell (show g<w.heap.size from h1)
 have f:∀j,w'.frozen? ⟨g,j,none⟩=w.frozen? ⟨g,j,none⟩:=fun j=>hb.frozen (show g<w.heap.size from h1)
 exact⟨Nat.lt_of_lt_of_le h1 hb.size,by rw[e];exact h2,by rw[e];exact h3,by rw[e];exact h4,by rw[f];exact h5,by rw[f];exact h6⟩
theorem CAt.set1{w:World}{g:Nat}{t:ByteArray}{i i':Int}{bad:Bool}(h:CAt w g t i bad):CAt (w.setCell ⟨g,1,none⟩ (.int .i64 i')) g t i' bad:=by
 obtain⟨h1,h2,h3,h4,h5,h6⟩:=h;have o:∀(i j:Nat) (u:Value),i≠j→(w.setCell ⟨g,i,none⟩ u).cell? ⟨g,j,none⟩=w.cell? ⟨g,j,none⟩:=fun i j u hij=>World.cell?_setCell_other _ _ _ _ (fun e=>hij (by injection e))
 exact⟨by simpa using h1,by rw[o 1 0 _ (by omega)];exact h2,World.cell?_setCell_same _ _ _ h3,by rw[o 1 2 _ (by omega)];exact h4,by simpa using h5,by simpa using h6⟩
theorem CAt.set2{w:World}{g:Nat}{t:ByteArray}{i:Int}{bad bad':Bool}(h:CAt w g t i bad):CAt (w.setCell ⟨g,2,none⟩ (.bool bad')) g t i bad':=by
 obtain⟨h1,h2,h3,h4,h5,h6⟩:=h;have o:∀(i j:Nat) (u:Value),i≠j→(w.setCell ⟨g,i,none⟩ u).cell? ⟨g,j,none⟩=w.cell? ⟨g,j,none⟩:=fun i j u hij=>World.cell?_setCell_other _ _ _ _ (fun e=>hij (by injection e))
 exact⟨by simpa using h1,by rw[o 2 0 _ (by omega)];exact h2,by rw[o 2 1 _ (by omega)];exact h3,World.cell?_setCell_same _ _ _ h4,by simpa using h5,by simpa using h6⟩
theorem ckept_set(w:World)(g j:Nat)(v:Value):Kept2 w (w.setCell ⟨g,j,none⟩ v) (·≠g):=by
 refine⟨rfl,rfl,rfl,by simp,fun i _ hne=>?_⟩
 exact Below.heap_setCell _ _ _ _ hne
theorem MovedC.set1{w w':World}{g:Nat}{t:ByteArray}{i i':Int}{bad:Bool}(h:CAt w g t i bad)(hb:Below w.heap.size w w'):MovedC w (w'.setCell ⟨g,1,none⟩ (.int .i64 i')) g t i' bad:=
 ⟨(Kept2.below hb).trans (ckept_set _ _ _ _),(h.below hb).set1⟩
theorem MovedC.set2{w w':World}{g:Nat}{t:ByteArray}{i:Int}{bad bad':Bool}(h:CAt w g t i bad)(hb:Below w.heap.size w w'):MovedC w (w'.setCell ⟨g,2,none⟩ (.bool bad')) g t i bad':=
 ⟨(Kept2.below hb).trans (ckept_set _ _ _ _),(h.below hb).set2⟩
def stepV(l:List UInt8)(i:Nat):Bool→Nat×Nat×Bool
 |true=>(0,i,true)
 |false=>match readV l i with
  |some (n,j)=>(n,j,false)
  |none=>(0,i,true)
theorem svar_go(s:ByteArray)(i n j:Nat)(g:Nat)(w:World)(hs:s.size≤1048576)(hr:CAt w g s i false)(hv:readV s.data.toList i=some (n,j)):
 Calls Tryz.prog 65 #[.pointer (some ⟨g,0,none⟩)] w fun e w'=>e=.returned (.int .i64 n)∧MovedC w w' g s j false:=by
 obtain⟨h1,h2,h3,h4,h5,h6⟩:=id hr;have R:=hide hr;have C:=hide (fun w=>svread_any s i w hs)
 rw[hv]at C;clear hr hv;go_enter Tryz.func65,Tryz.ntmps65;go_wp2;go_region_held3 (fun w'=>w'.cell? ⟨g,0,none⟩=some (.string s)∧w'.cell? ⟨g,1,none⟩=some (.int .i64 i)) (first|go_keep|exact⟨K1.out.2.1,K1.out.2.2.1⟩) ((go_at_call 94;(with_reducible refine Calls.mono (C.out _) ?_);rintro e w1 ⟨rfl,b1⟩;have B1:Hid (Below w.heap.size w w1):=Below.trans (Below.drew (Below.refl w.heap.size w)) b1;have K1:Hid (CAt w1 g s i false):=R.out.below B1.out;clear b1;simp only[rvRes]))
 all_goals
  obtain⟨k1,k2,k3,k4,k5,k6⟩:=K1.out;have M:=hide (MovedC.set1 (i':=(j:Int)) R.out B1.out);go_wp2;go_ret;exact⟨rfl,M.out⟩
theorem svar_none(s:ByteArray)(i:Nat)(g:Nat)(w:World)(hs:s.size≤1048576)(hr:CAt w g s i false)(hv:readV s.data.toList i=none):
 Calls Tryz.prog 65 #[.pointer (some ⟨g,0,none⟩)] w fun e w'=>e=.returned (.int .i64 0)∧MovedC w w' g s i true:=by
 obtain⟨h1,h2,h3,h4,h5,h6⟩:=id hr;have R:=hide hr;have C:=hide (fun w=>svread_any s i w hs)
 rw[hv]at C;clear hr hv;go_enter Tryz.func65,Tryz.ntmps65;go_wp2;go_region_held3 (fun w'=>w'.cell? ⟨g,0,none⟩=some (.string s)∧w'.cell? ⟨g,1,none⟩=some (.int .i64 i)) (first|go_keep|exact⟨K1.out.2.1,K1.out.2.2.1⟩) ((go_at_call 94;(with_reducible refine Calls.mono (C.out _) ?_);rintro e w1 ⟨rfl,b1⟩;have B1:Hid (Below w.heap.size w w1):=Below.trans (Below.drew (Below.refl w.heap.size w)) b1;have K1:Hid (CAt w1 g s i false):=R.out.below B1.out;clear b1;simp only[rvRes]))
 all_goals
  obtain⟨k1,k2,k3,k4,k5,k6⟩:=K1.out;have M:=hide (MovedC.set2 (bad':=true) R.out B1.out);go_wp2;go_ret;exact⟨rfl,M.out⟩
theorem svar_bad(s:ByteArray)(i:Nat)(g:Nat)(w:World)(hs:s.size≤1048576)(hr:CAt w g s i true)(hv:readV s.data.toList i=none):
 Calls Tryz.prog 65 #[.pointer (some ⟨g,0,none⟩)] w fun e w'=>e=.returned (.int .i64 0)∧MovedC w w' g s i true:=by
 obtain⟨h1,h2,h3,h4,h5,h6⟩:=id hr;have R:=hide hr;have C:=hide (fun w=>svread_any s i w hs)
 rw[hv]at C;clear hr hv;go_enter Tryz.func65,Tryz.ntmps65;go_wp2;go_region_held3 (fun w'=>w'.cell? ⟨g,0,none⟩=some (.string s)∧w'.cell? ⟨g,1,none⟩=some (.int .i64 i)) (first|go_keep|exact⟨K1.out.2.1,K1.out.2.2.1⟩) ((go_at_call 94;(with_reducible refine Calls.mono (C.out _) ?_);rintro e w1 ⟨rfl,b1⟩;have B1:Hid (Below w.heap.size w w1):=Below.trans (Below.drew (Below.refl w.heap.size w)) b1;have K1:Hid (CAt w1 g s i true):=R.out.below B1.out;clear b1;simp only[rvRes]))
 all_goals
  obtain⟨k1,k2,k3,k4,k5,k6⟩:=K1.out;have M:=hide (MovedC.set2 (bad':=true) R.out B1.out);go_wp2;go_ret;exact⟨rfl,M.out⟩
theorem svar_bad2(s:ByteArray)(i:Nat)(n j:Nat)(g:Nat)(w:World)(hs:s.size≤1048576)(hr:CAt w g s i true)(hv:readV s.data.toList i=some (n,j)):
 Calls Tryz.prog 65 #[.pointer (some ⟨g,0,none⟩)] w fun e w'=>e=.returned (.int .i64 0)∧MovedC w w' g s i true:=by
 obtain⟨h1,h2,h3,h4,h5,h6⟩:=id hr;have R:=hide hr;have C:=hide (fun w=>svread_any s i w hs)
 rw[hv]at C;clear hr hv;go_enter Tryz.func65,Tryz.ntmps65;go_wp2;go_region_held3 (fun w'=>w'.cell? ⟨g,0,none⟩=some (.string s)∧w'.cell? ⟨g,1,none⟩=some (.int .i64 i)) (first|go_keep|exact⟨K1.out.2.1,K1.out.2.2.1⟩) ((go_at_call 94;(with_reducible refine Calls.mono (C.out _) ?_);rintro e w1 ⟨rfl,b1⟩;have B1:Hid (Below w.heap.size w w1):=Below.trans (Below.drew (Below.refl w.heap.size w)) b1;have K1:Hid (CAt w1 g s i true):=R.out.below B1.out;clear b1;simp only[rvRes]))
 all_goals
  obtain⟨k1,k2,k3,k4,k5,k6⟩:=K1.out;have M:=hide (MovedC.set2 (bad':=true) R.out B1.out);go_wp2;go_ret;exact⟨rfl,M.out⟩
theorem svar_any(s:ByteArray)(i:Nat)(bad:Bool)(g:Nat)(w:World)(hs:s.size≤1048576)(hr:CAt w g s i bad)(n j:Nat)(b':Bool)(he:stepV s.data.toList i bad=(n,j,b')):
 Calls Tryz.prog 65 #[.pointer (some ⟨g,0,none⟩)] w fun e w'=>e=.returned (.int .i64 n)∧MovedC w w' g s j b':=by
 cases hv:readV s.data.toList i with
 |none=>
  cases bad with
  |false=>
   simp only[stepV,hv]at he;cases he;exact svar_none s i g w hs hr hv
  |true=>
   simp only[stepV]at he;cases he;exact svar_bad s i g w hs hr hv
 |some x=>
  obtain⟨a,b⟩:=x;cases bad with
  |false=>
   simp only[stepV,hv]at he;cases he;exact svar_go s i _ _ g w hs hr hv
  |true=>
   simp only[stepV]at he;cases he;exact svar_bad2 s i a b g w hs hr hv
theorem stepV_ok{l:List UInt8}{i n j:Nat}{b:Bool}(h:stepV l i b=(n,j,false)):b=false∧readV l i=some (n,j):=by
 cases b with
 |true=>simp[stepV]at h
 |false=>
  cases hv:readV l i with
  |none=>simp[stepV,hv]at h
  |some x=>
   obtain⟨a,c⟩:=x;simp only[stepV,hv]at h;cases h;exact⟨rfl,rfl⟩
theorem stepV_bad{l:List UInt8}{i n j:Nat}{b:Bool}(h:stepV l i b=(n,j,true)):b=true∨readV l i=none:=by
 cases b with
 |true=>exact .inl rfl
 |false=>
  cases hv:readV l i with
  |none=>exact .inr rfl
  |some x=>
   obtain⟨a,c⟩:=x;simp only[stepV,hv]at h;cases h
end Go.Proofs.YtiicghepilbgfaaGreatDoor
