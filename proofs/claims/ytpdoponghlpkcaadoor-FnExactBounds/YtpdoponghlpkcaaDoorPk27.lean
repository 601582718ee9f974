/-
  ImplRead; IReader; IRead1; IRead0
-/
import Derived.Test.YtpdoponghlpkcaaDoorPk0
import Derived.Test.YtpdoponghlpkcaaDoorPk1
import Derived.Test.YtpdoponghlpkcaaDoorPk24
import Derived.Test.YtpdoponghlpkcaaDoorSUnseal
import Derived.Deep.RegionHeld3
import Derived.Deep.RegionWith
import Derived.Deep.QuietTactic
import Derived.BigQuiet
import Derived.Laws.DeepStrings4
import Derived.Lib.Strings
import Derived.Deep.RegionHeld
set_option maxHeartbeats 400000
set_option maxRecDepth 100000
namespace Go.Proofs.YtpdoponghlpkcaaDoor
open Go.RowKit
open Words
def rvRes:Option (Nat×Nat)→Value
 |some (n,j)=> .tuple #[.int .i64 n,.int .i64 j,.bool true]
 |none=> .tuple #[.int .i64 0,.int .i64 0,.bool false]
theorem implRead(s:ByteArray)(q:Nat)(w:World)(hs:s.size≤1048576)(hq:q≤s.size):
 Calls Tryd.prog 90 #[.string s,.int .i64 q] w fun e w'=>e=.returned (rvRes (readV s.data.toList q))∧w'=w:=by
 have g1:¬(q:Int)<0:=by omega
 have g2:¬(s.size:Int)<q:=by omega
 go_enter Tryd.func90,Tryd.ntmps90;go_wp2;go_loop [7,8,9,10,11] (fun nv uv iv _ _=>∃k n u:Nat,nv=.int .i64 n∧uv=.int .i64 u∧iv=.int .i64 (q+k:Nat)∧Hid (St s.data.toList q k n u)) (fun _ _ iv _ _=>s.size-(intOf iv).toNat)
 case atStart=>exact⟨0,0,1,rfl,rfl,rfl,St.zero (by simpa using hq)⟩
 case round=>
  obtain⟨k,n,u,rfl,rfl,rfl,hst⟩:=hrel;obtain⟨b1,b2,b3,b4,b5⟩:=hst.out.bounds;by_cases hlt:q+k<s.size∧k<5
  ·obtain⟨h1,h2⟩:=hlt;have b6:=b4 h2;have c1:((q+k:Nat):Int)<s.size:=by omega
   have c2:(u:Int)≤1000000000:=by omega
   clear b3 b4 b5;obtain⟨c,hcc⟩:∃c:Nat,s[q+k].toNat=c:=⟨_,rfl⟩;have hc8:c<256:=by rw[←hcc];exact UInt8.toNat_lt _
   have p2:=prod_le_int c u b6;have p3:=prod_nn c u;have H:Hid (At s.data.toList (q+k) c):=⟨by simpa using h1,by rw[←hcc];rfl⟩
   by_cases hc:128≤(c:Int)
   ·go_wp2;go_round
    case rel=>exact⟨k+1,n+c % 128*u,u*128,by rw[prod_cast],by go_num,by go_num,hst.out.step' h2 H.out (by omega)⟩
    case measure=>simp[intOf];omega
   ·by_cases h0:c=0∧k≠0
    ·have F:Hid (readV s.data.toList q=none):=hst.out.no' h2 H.out (by omega) (.inr h0)
     have f1:((c:Int)==0)=true:=by rw[beq_iff_eq];omega
     have f2:(q:Int)<(q:Int)+k:=by omega
     clear h0;go_wp2;go_ret3;exact⟨by rw[F.out];rfl,rfl⟩
    ·have hw:¬(c=0∧k≠0):=h0;by_cases hN:(n:Int)+(c:Int) % 128*u≤1000000000
     ·have hN':n+c % 128*u≤1000000000:=by rw[←prod_cast]at hN;omega
      have F:Hid (readV s.data.toList q=some (n+c % 128*u,q+k+1)):=hst.out.yes' h2 H.out (by omega) hN' hw
      clear hN';by_cases hc0:c=0
      ·have f1:((c:Int)==0)=true:=by rw[beq_iff_eq];omega
       have f2:¬(q:Int)<(q:Int)+k:=by omega
       clear h0 hw hc0;go_wp2;go_ret3;exact⟨by rw[F.out,rvRes,prod_cast];rfl,rfl⟩
      ·have f1:((c:Int)==0)=false:=by rw[beq_eq_false_iff_ne];omega
       clear h0 hw hc0;go_wp2;go_ret3;exact⟨by rw[F.out,rvRes,prod_cast];rfl,rfl⟩
     ·have hN':1000000000<n+c % 128*u:=by rw[←prod_cast]at hN;omega
      have F:Hid (readV s.data.toList q=none):=hst.out.no' h2 H.out (by omega) (.inl hN')
      clear hN';by_cases hc0:c=0
      ·exfalso
       subst hc0;simp at hN;omega
      ·have f1:((c:Int)==0)=false:=by rw[beq_eq_false_iff_ne];omega
       clear h0 hw hc0;go_wp2;go_ret3;exact⟨by rw[F.out];rfl,rfl⟩
  ·have F:Hid (readV s.data.toList q=none):=hst.out.stop (by simpa using hlt)
   by_cases h1:q+k<s.size
   ·have c1:((q+k:Nat):Int)<s.size:=by omega
    have b6:=b5 (by have:=hst.out.1;omega)
    have c2:¬(u:Int)≤1000000000:=by omega
    clear hlt b5;go_wp2;go_ret3;exact⟨by rw[F.out];rfl,rfl⟩
   ·have c1:¬((q+k:Nat):Int)<s.size:=by omega
    clear hlt;go_wp2;go_ret3;exact⟨by rw[F.out];rfl,rfl⟩
end Go.Proofs.YtpdoponghlpkcaaDoor
namespace Go.Proofs.YtpdoponghlpkcaaDoor
open Go.RowKit
open Words Sums
theorem runseal_yes(t s0 s:ByteArray)(i:Int)(g:Nat)(w:World)(hm:t.size≤maxLen)(hu:unA t=some s)(hr:RAt w g s0 i)(ht:HalvIn w):
 Calls Tryd.prog 82 #[.pointer (some ⟨g,0,none⟩),.string t] w fun e w'=>e=.returned (.tuple #[])∧Moved w w' g s 0:=by
 have C:=hide (iunseal t hm w ht);rw[hu]at C;have R:=hide hr;clear hu hr ht;go_enter Tryd.func82,Tryd.ntmps82;go_wp2_with fail;refine C.out.mono ?_;rintro e w1 ⟨rfl,b1⟩;unfold unR;go_wp2_with fail;refine(must_yes _ _).mono ?_;rintro e w2 ⟨rfl,rfl⟩;obtain⟨h1,h2,h3,h4,h5⟩:=R.out.below b1;have M:=hide (Moved.both (t':=s) (i':=0) R.out b1);go_wp2
 first|go_end0|refine bodyPost_ret (results_none rfl _ _ _) rfl ?_
 exact⟨rfl,M.out⟩
theorem runseal_no(t:ByteArray)(g:Nat)(w:World)(hm:t.size≤maxLen)(hu:unA t=none)(ht:HalvIn w):
 Calls Tryd.prog 82 #[.pointer (some ⟨g,0,none⟩),.string t] w fun e w'=>e=.panicked noPg∧Kept2 w w' (·≠g):=by
 have C:=hide (iunseal t hm w ht);rw[hu]at C;clear hu ht;go_enter Tryd.func82,Tryd.ntmps82;go_wp2_with fail;refine C.out.mono ?_;rintro e w1 ⟨rfl,b1⟩;unfold unR;go_wp2_with fail;refine(must_no _ _).mono ?_;rintro e w2 ⟨rfl,rfl⟩;go_wp2;exact⟨rfl,rfl,Kept2.below b1⟩
theorem rrest(s:ByteArray)(i:Nat)(g:Nat)(w:World)(hi:i≤s.size)(hr:RAt w g s i):
 Calls Tryd.prog 85 #[.pointer (some ⟨g,0,none⟩)] w fun e w'=>e=.returned (.string (s.extract i s.size))∧Moved w w' g s i:=by
 obtain⟨h1,h2,h3,h4,h5⟩:=id hr;have R:=hide hr;have s1:∀W,(Instr.slice 9 (.string s) (some (.int .i64 (i:Int))) none none).run Tryd.prog W=.ok (.string (s.extract i s.size)) W:=fun W=>by
  rw[run_slice_string_l W 9 s Tryd.underlying9 .i64 _ (by omega) (by omega)]
  simp
 generalize s.extract i s.size=u at s1;clear hr h1 h4 h5;go_enter Tryd.func85,Tryd.ntmps85;go_wp2;go_region_held3 (fun w'=>w'.cell? ⟨g,0,none⟩=some (.string s)∧w'.cell? ⟨g,1,none⟩=some (.int .i64 i)) (go_keep) (fail)
 go_wp2;go_ret;have b1:Below w.heap.size w w.drew:=(Below.refl _ _).drew;exact⟨rfl,Kept2.below b1,R.out.below b1⟩
theorem rbyte_yes(s:ByteArray)(i:Nat)(b:UInt8)(g:Nat)(w:World)(hs:s.size≤1048576)(hb:s.data.toList[i]?=some b)(hr:RAt w g s i):
 Calls Tryd.prog 83 #[.pointer (some ⟨g,0,none⟩)] w fun e w'=>e=.returned (.int .i64 b.toNat)∧Moved w w' g s (i+1:Nat):=by
 obtain⟨h1,h2,h3,h4,h5⟩:=id hr;have R:=hide hr;obtain⟨hi,hbe⟩:=List.getElem?_eq_some_iff.1 hb;have hi':i<s.size:=hi;have hc:s[i].toNat=b.toNat:=by rw[←hbe];rfl
 have hlt:decide ((i:Int)<s.size)=true:=by simp;omega
 have k0:(0:Int)≤i:=by omega
 have k1:(i:Int)<s.size:=by omega
 have ew:IntKind.i64.wrap ((i:Int)+1)=i+1:=by rw[IntKind.wrap_i64];omega
 have hb8:b.toNat<256:=b.toNat_lt;generalize b.toNat=c at hc hb8;have ec:IntKind.i64.wrap (c:Int)=c:=by rw[IntKind.wrap_i64];omega
 clear hr hb hbe hi;go_enter Tryd.func83,Tryd.ntmps83;go_wp2;go_region_held3 (fun w'=>w'.cell? ⟨g,0,none⟩=some (.string s)∧w'.cell? ⟨g,1,none⟩=some (.int .i64 i)) (go_keep) ((go_at_call 86;refine(must_yes _ _).mono ?_;rintro e w1 ⟨rfl,rfl⟩))
 go_wp2;go_region_held3 (fun w'=>w'.cell? ⟨g,0,none⟩=some (.string s)∧w'.cell? ⟨g,1,none⟩=some (.int .i64 i)) (go_keep) (fail)
 go_wp2;go_ret;have e1:((i+1:Nat):Int)=i+1:=by omega
 exact⟨by rw[←ec];rfl,by rw[e1];exact(Moved.at_ (i':=(i:Int)+1) R.out (Below.refl _ _)).below ((Below.refl _ _).drew.drew)⟩
theorem rnum_yes(s:ByteArray)(i n j:Nat)(g:Nat)(w:World)(hs:s.size≤1048576)(hi:i≤s.size)(hv:readV s.data.toList i=some (n,j))(hr:RAt w g s i):
 Calls Tryd.prog 84 #[.pointer (some ⟨g,0,none⟩)] w fun e w'=>e=.returned (.int .i64 n)∧Moved w w' g s j:=by
 obtain⟨h1,h2,h3,h4,h5⟩:=id hr;have R:=hide hr;have C:=hide (fun w=>implRead s i w hs hi)
 rw[hv]at C;clear hr hv;go_enter Tryd.func84,Tryd.ntmps84;go_wp2;go_region_held3 (fun w'=>w'.cell? ⟨g,0,none⟩=some (.string s)∧w'.cell? ⟨g,1,none⟩=some (.int .i64 i)) (go_keep) ((go_at_call 90;with_reducible refine Calls.mono (C.out _) ?_;rintro e w1 ⟨rfl,rfl⟩;unfold rvRes;try simp only))
 all_goals
  go_wp2_with fail;refine(must_yes _ _).mono ?_;rintro e w2 ⟨rfl,rfl⟩;go_wp2;go_ret;exact⟨rfl,(Moved.at_ (i':=(j:Int)) R.out (Below.refl _ _)).below ((Below.refl _ _).drew)⟩
theorem rnum_no(s:ByteArray)(i:Nat)(g:Nat)(w:World)(hs:s.size≤1048576)(hi:i≤s.size)(hv:readV s.data.toList i=none)(hr:RAt w g s i):
 Calls Tryd.prog 84 #[.pointer (some ⟨g,0,none⟩)] w fun e w'=>e=.panicked noPg∧Kept2 w w' (·≠g):=by
 obtain⟨h1,h2,h3,h4,h5⟩:=id hr;have C:=hide (fun w=>implRead s i w hs hi)
 rw[hv]at C;clear hr hv;go_enter Tryd.func84,Tryd.ntmps84;go_wp2;go_region_held3 (fun w'=>w'.cell? ⟨g,0,none⟩=some (.string s)∧w'.cell? ⟨g,1,none⟩=some (.int .i64 i)) (go_keep) ((go_at_call 90;with_reducible refine Calls.mono (C.out _) ?_;rintro e w1 ⟨rfl,rfl⟩;unfold rvRes;try simp only))
 all_goals
  go_wp2_with fail;refine(must_no _ _).mono ?_;rintro e w2 ⟨rfl,rfl⟩;go_wp2;exact⟨rfl,rfl,Kept2.below ((Below.refl _ _).drew)⟩
theorem rbyte_no(s:ByteArray)(i:Nat)(g:Nat)(w:World)(hb:s.data.toList[i]?=none)(hr:RAt w g s i):
 Calls Tryd.prog 83 #[.pointer (some ⟨g,0,none⟩)] w fun e w'=>e=.panicked noPg∧Kept2 w w' (·≠g):=by
 obtain⟨h1,h2,h3,h4,h5⟩:=id hr;have hi':s.size≤i:=List.getElem?_eq_none_iff.1 hb;have hlt:decide ((i:Int)<s.size)=false:=by simp;omega
 clear hr hb;go_enter Tryd.func83,Tryd.ntmps83;go_wp2;refine wp_region_held_drew (S:=fun w'=>w'.cell? ⟨g,0,none⟩=some (.string s)∧w'.cell? ⟨g,1,none⟩=some (.int .i64 i)) (by kernel_rfl) (by go_keep) (fun hHeld=>?_)
 refine wpAnyH_take (i:=0) (v:= ?_) rfl (by kernel_rfl) (by kernel_rfl) (by kernel_rfl) (fun _ _ _ h=>h) (Or.inl ⟨by rfl,?yld0⟩) (by assumption) ?_
 case yld0=>
  intro w hSw;try dsimp only at hSw
  go_simp;try with_reducible rfl
 simp only[Act.put,List.setIfInBounds_toArray];refine wpAnyH_take (i:=1) (v:= ?_) rfl (by kernel_rfl) (by kernel_rfl) (by kernel_rfl) (fun _ _ _ h=>h) (Or.inl ⟨by rfl,?yld1⟩) (by assumption) ?_
 case yld1=>
  intro w hSw;try dsimp only at hSw
  go_simp;try with_reducible rfl
 simp only[Act.put];refine wpAnyH_take (i:=2) (v:= ?_) rfl (by kernel_rfl) (by kernel_rfl) (by kernel_rfl) (fun _ _ _ h=>h) (Or.inl ⟨by rfl,?yld2⟩) (by assumption) ?_
 case yld2=>
  intro w hSw;try dsimp only at hSw
  go_simp;try with_reducible rfl
 simp only[Act.put];refine wpAnyH_take (i:=3) (v:= ?_) rfl (by kernel_rfl) (by kernel_rfl) (by kernel_rfl) (fun _ _ _ h=>h) (Or.inl ⟨by rfl,?yld3⟩) (by assumption) ?_
 case yld3=>
  intro w hSw;try dsimp only at hSw
  go_simp;try with_reducible rfl
 simp only[Act.put];refine wpAnyH_take (i:=4) (v:= ?_) rfl (by kernel_rfl) (by kernel_rfl) (by kernel_rfl) (fun _ _ _ h=>h) (Or.inl ⟨by rfl,?yld4⟩) (by assumption) ?_
 case yld4=>
  intro w hSw;try dsimp only at hSw
  go_simp;try with_reducible rfl
 simp only[Act.put];refine wpAnyH_take (i:=5) (v:= ?_) rfl (by kernel_rfl) (by kernel_rfl) (by kernel_rfl) (fun _ _ _ h=>h) (Or.inl ⟨by rfl,?yld5⟩) (by assumption) ?_
 case yld5=>
  intro w hSw;try dsimp only at hSw
  go_simp;try with_reducible rfl
 simp only[Act.put];refine wpAnyH_take (i:=6) (v:= ?_) rfl (by kernel_rfl) (by kernel_rfl) (by kernel_rfl) (fun _ _ _ h=>h) (Or.inl ⟨by rfl,?yld6⟩) (by assumption) ?_
 case yld6=>
  intro w hSw;try dsimp only at hSw
  go_simp;try with_reducible rfl
 simp only[Act.put];refine wpAnyH_take (i:=7) (v:= ?_) rfl (by kernel_rfl) (by kernel_rfl) (by kernel_rfl) (fun _ _ _ h=>h) (Or.inl ⟨by rfl,?yld7⟩) (by assumption) ?_
 case yld7=>
  intro w hSw;try dsimp only at hSw
  go_simp;try with_reducible rfl
 simp only[Act.put];refine wpAnyH_take (i:=8) (v:= ?_) rfl (by kernel_rfl) (by kernel_rfl) (by kernel_rfl) (fun _ _ _ h=>h) (Or.inl ⟨by rfl,?yld8⟩) (by assumption) ?_
 case yld8=>
  intro w hSw;try dsimp only at hSw
  go_simp;try with_reducible rfl
 simp only[Act.put];refine wpAnyH_take (i:=9) (v:= ?_) rfl (by kernel_rfl) (by kernel_rfl) (by kernel_rfl) (fun _ _ _ h=>h) (Or.inl ⟨by rfl,?yld9⟩) (by assumption) ?_
 case yld9=>
  intro w hSw;try dsimp only at hSw
  go_simp;try with_reducible rfl
 simp only[Act.put];refine wpAnyH_take (i:=10) (v:= ?_) rfl (by kernel_rfl) (by kernel_rfl) (by kernel_rfl) (fun _ _ _ h=>h) (Or.inl ⟨by rfl,?yld10⟩) (by assumption) ?_
 case yld10=>
  intro w hSw;try dsimp only at hSw
  go_simp;try with_reducible rfl
 simp only[Act.put];refine wpAnyH_ready (rs:=[11]) (by kernel_rfl) (by simp) ?_
 refine AllReadyH.cons rfl (fun K hK=>?_) ?_
 ·go_simp;rw[decide_eq_false (show¬i<s.size by omega)]
  with_reducible refine Calls.mono (must_no _ _) ?_
  rintro e w1 ⟨rfl,rfl⟩;go_wp2;exact⟨rfl,rfl,Kept2.below ((Below.refl _ _).drew)⟩
 ·exact AllReadyH.nil
end Go.Proofs.YtpdoponghlpkcaaDoor
