/-
  ImplRead; IReader; IRead1; IRead0; IRPage; RdPg
-/
import Derived.Test.YtiicghepilbgfaaGreatDoorPk0
import Derived.Test.YtiicghepilbgfaaGreatDoorPk6
import Derived.Test.YtiicghepilbgfaaGreatDoorPk14
import Derived.Test.YtiicghepilbgfaaGreatDoorPk15
import Derived.Deep.RegionHeld3
import Derived.Deep.RegionWith
import Derived.Deep.QuietTactic
import Derived.BigQuiet
import Derived.Laws.DeepStrings4
import Derived.Lib.Strings
import Derived.Deep.RegionHeld
import Derived.Test.YtiicghepilbgfaaGreatDoorPk7
set_option maxHeartbeats 4000000
set_option maxRecDepth 100000
namespace Go.Proofs.YtiicghepilbgfaaGreatDoor
open Go.RowKit
open Words
def rvRes:Option (Nat×Nat)→Value
 |some (n,j)=> .tuple #[.int .i64 n,.int .i64 j,.bool true]
 |none=> .tuple #[.int .i64 0,.int .i64 0,.bool false]
theorem implRead(s:ByteArray)(q:Nat)(w:World)(hs:s.size≤1048576)(hq:q≤s.size):
 Calls Tryz.prog 203 #[.string s,.int .i64 q] w fun e w'=>e=.returned (rvRes (readV s.data.toList q))∧w'=w:=by
 have g1:¬(q:Int)<0:=by omega
 have g2:¬(s.size:Int)<q:=by omega
 go_enter Tryz.func203,Tryz.ntmps203;go_wp2;go_loop [7,8,9,10,11] (fun nv uv iv _ _=>∃k n u:Nat,nv=.int .i64 n∧uv=.int .i64 u∧iv=.int .i64 (q+k:Nat)∧Hid (St s.data.toList q k n u)) (fun _ _ iv _ _=>s.size-(intOf iv).toNat)
 case atStart=>exact⟨0,0,1,rfl,rfl,rfl,St.zero (by simpa using hq)⟩
 case round=>
  obtain⟨k,n,u,rfl,rfl,rfl,hst⟩:=hrel;obtain⟨b1,b2,b3,b4,b5⟩:=hst.out.bounds;by_cases hlt:q+k<s.size∧k<5
  ·obtain⟨h1,h2⟩:=hlt;have b6:=b4 h2;have c1:((q+k:Nat):Int)<s.size:=by omega
   have c2:(u:Int)≤1000000000:=by omega
   clear b3 b4 b5;obtain⟨c,hcc⟩:∃c:Nat,s[q+k].toNat=c:=⟨_,rfl⟩;have hc8:c<256:=by rw[←hcc];exact UInt8.toNat_lt _
   have p2:=prod_le_int c u b6;have p3:=prod_nn c u;have H:Hid (At s.data.toList (q+k) c):=⟨by simpa using h1,by rw[←hcc];rfl⟩
   by_cases hc:128≤(c:Int)
   ·go_wp2;go_round
    case rel=>exact⟨k+1,n+c % 128*u,u*128,by rw[prod_cast],by go_num,by go_num,hst.out.step' h2 H.out (by omega)⟩
    case measure=>simp[intOf];omega
   ·by_cases h0:c=0∧k≠0
    ·have F:Hid (readV s.data.toList q=none):=hst.out.no' h2 H.out (by omega) (.inr h0)
     have f1:((c:Int)==0)=true:=by rw[beq_iff_eq];omega
     have f2:(q:Int)<(q:Int)+k:=by omega
     clear h0;go_wp2;go_ret3;exact⟨by rw[F.out];rfl,rfl⟩
    ·have hw:¬(c=0∧k≠0):=h0;by_cases hN:(n:Int)+(c:Int) % 128*u≤1000000000
     ·have hN':n+c % 128*u≤1000000000:=by rw[←prod_cast]at hN;omega
      have F:Hid (readV s.data.toList q=some (n+c % 128*u,q+k+1)):=hst.out.yes' h2 H.out (by omega) hN' hw
      clear hN';by_cases hc0:c=0
      ·have f1:((c:Int)==0)=true:=by rw[beq_iff_eq];omega
       have f2:¬(q:Int)<(q:Int)+k:=by omega
       clear h0 hw hc0;go_wp2;go_ret3;exact⟨by rw[F.out,rvRes,prod_cast];rfl,rfl⟩
      ·have f1:((c:Int)==0)=false:=by rw[beq_eq_false_iff_ne];omega
       clear h0 hw hc0;go_wp2;go_ret3;exact⟨by rw[F.out,rvRes,prod_cast];rfl,rfl⟩
     ·have hN':1000000000<n+c % 128*u:=by rw[←prod_cast]at hN;omega
      have F:Hid (readV s.data.toList q=none):=hst.out.no' h2 H.out (by omega) (.inl hN')
      clear hN';by_cases hc0:c=0
      ·exfalso
       subst hc0;simp at hN;omega
      ·have f1:((c:Int)==0)=false:=by rw[beq_eq_false_iff_ne];omega
       clear h0 hw hc0;go_wp2;go_ret3;exact⟨by rw[F.out];rfl,rfl⟩
  ·have F:Hid (readV s.data.toList q=none):=hst.out.stop (by simpa using hlt)
   by_cases h1:q+k<s.size
   ·have c1:((q+k:Nat):Int)<s.size:=by omega
    have b6:=b5 (by have:=hst.out.1;omega)
    have c2:¬(u:Int)≤1000000000:=by omega
    clear hlt b5;go_wp2;go_ret3;exact⟨by rw[F.out];rfl,rfl⟩
   ·have c1:¬((q+k:Nat):Int)<s.size:=by omega
    clear hlt;go_wp2;go_ret3;exact⟨by rw[F.out];rfl,rfl⟩
end Go.Proofs.YtiicghepilbgfaaGreatDoor
namespace Go.Proofs.YtiicghepilbgfaaGreatDoor
open Go.RowKit
open Words Sums
theorem runseal_yes(t s0 s:ByteArray)(i:Int)(g:Nat)(w:World)(hm:t.size≤maxLen)(hu:unA t=some s)(hr:RAt w g s0 i)(ht:HalvIn w):
 Calls Tryz.prog 186 #[.pointer (some ⟨g,0,none⟩),.string t] w fun e w'=>e=.returned (.tuple #[])∧Moved w w' g s 0:=by
 have C:=hide (iunseal t hm w ht);rw[hu]at C;have R:=hide hr;clear hu hr ht;go_enter Tryz.func186,Tryz.ntmps186;go_wp2_with fail;refine C.out.mono ?_;rintro e w1 ⟨rfl,b1⟩;unfold unR;go_wp2_with fail;refine(must_yes _ _).mono ?_;rintro e w2 ⟨rfl,rfl⟩;obtain⟨h1,h2,h3,h4,h5⟩:=R.out.below b1;have M:=hide (Moved.both (t':=s) (i':=0) R.out b1);go_wp2
 first|go_end0|refine bodyPost_ret (results_none rfl _ _ _) rfl ?_
 exact⟨rfl,M.out⟩
theorem runseal_no(t:ByteArray)(g:Nat)(w:World)(hm:t.size≤maxLen)(hu:unA t=none)(ht:HalvIn w):
 Calls Tryz.prog 186 #[.pointer (some ⟨g,0,none⟩),.string t] w fun e w'=>e=.panicked noPg∧Kept2 w w' (·≠g):=by
 have C:=hide (iunseal t hm w ht);rw[hu]at C;clear hu ht;go_enter Tryz.func186,Tryz.ntmps186;go_wp2_with fail;refine C.out.mono ?_;rintro e w1 ⟨rfl,b1⟩;unfold unR;go_wp2_with fail;refine(must_no _ _).mono ?_;rintro e w2 ⟨rfl,rfl⟩;go_wp2;exact⟨rfl,rfl,Kept2.below b1⟩
theorem rrest(s:ByteArray)(i:Nat)(g:Nat)(w:World)(hi:i≤s.size)(hr:RAt w g s i):
 Calls Tryz.prog 189 #[.pointer (some ⟨g,0,none⟩)] w fun e w'=>e=.returned (.string (s.extract i s.size))∧Moved w w' g s i:=by
 obtain⟨h1,h2,h3,h4,h5⟩:=id hr;have R:=hide hr;have s1:∀W,(Instr.slice 9 (.string s) (some (.int .i64 (i:Int))) none none).run Tryz.prog W=.ok (.string (s.extract i s.size)) W:=fun W=>by
  rw[run_slice_string_l W 9 s Tryz.underlying9 .i64 _ (by omega) (by omega)]
  simp
 generalize s.extract i s.size=u at s1;clear hr h1 h4 h5;go_enter Tryz.func189,Tryz.ntmps189;go_wp2;go_region_held3 (fun w'=>w'.cell? ⟨g,0,none⟩=some (.string s)∧w'.cell? ⟨g,1,none⟩=some (.int .i64 i)) (go_keep) (fail)
 go_wp2;go_ret;have b1:Below w.heap.size w w.drew:=(Below.refl _ _).drew;exact⟨rfl,Kept2.below b1,R.out.below b1⟩
theorem rbyte_yes(s:ByteArray)(i:Nat)(b:UInt8)(g:Nat)(w:World)(hs:s.size≤1048576)(hb:s.data.toList[i]?=some b)(hr:RAt w g s i):
 Calls Tryz.prog 187 #[.pointer (some ⟨g,0,none⟩)] w fun e w'=>e=.returned (.int .i64 b.toNat)∧Moved w w' g s (i+1:Nat):=by
 obtain⟨h1,h2,h3,h4,h5⟩:=id hr;have R:=hide hr;obtain⟨hi,hbe⟩:=List.getElem?_eq_some_iff.1 hb;have hi':i<s.size:=hi;have hc:s[i].toNat=b.toNat:=by rw[←hbe];rfl
 have hlt:decide ((i:Int)<s.size)=true:=by simp;omega
 have k0:(0:Int)≤i:=by omega
 have k1:(i:Int)<s.size:=by omega
 have ew:IntKind.i64.wrap ((i:Int)+1)=i+1:=by rw[IntKind.wrap_i64];omega
 have hb8:b.toNat<256:=b.toNat_lt;generalize b.toNat=c at hc hb8;have ec:IntKind.i64.wrap (c:Int)=c:=by rw[IntKind.wrap_i64];omega
 clear hr hb hbe hi;go_enter Tryz.func187,Tryz.ntmps187;go_wp2;go_region_held3 (fun w'=>w'.cell? ⟨g,0,none⟩=some (.string s)∧w'.cell? ⟨g,1,none⟩=some (.int .i64 i)) (go_keep) ((go_at_call 190;refine(must_yes _ _).mono ?_;rintro e w1 ⟨rfl,rfl⟩))
 go_wp2;go_region_held3 (fun w'=>w'.cell? ⟨g,0,none⟩=some (.string s)∧w'.cell? ⟨g,1,none⟩=some (.int .i64 i)) (go_keep) (fail)
 go_wp2;go_ret;have e1:((i+1:Nat):Int)=i+1:=by omega
 exact⟨by rw[←ec];rfl,by rw[e1];exact(Moved.at_ (i':=(i:Int)+1) R.out (Below.refl _ _)).below ((Below.refl _ _).drew.drew)⟩
theorem rnum_yes(s:ByteArray)(i n j:Nat)(g:Nat)(w:World)(hs:s.size≤1048576)(hi:i≤s.size)(hv:readV s.data.toList i=some (n,j))(hr:RAt w g s i):
 Calls Tryz.prog 188 #[.pointer (some ⟨g,0,none⟩)] w fun e w'=>e=.returned (.int .i64 n)∧Moved w w' g s j:=by
 obtain⟨h1,h2,h3,h4,h5⟩:=id hr;have R:=hide hr;have C:=hide (fun w=>implRead s i w hs hi)
 rw[hv]at C;clear hr hv;go_enter Tryz.func188,Tryz.ntmps188;go_wp2;go_region_held3 (fun w'=>w'.cell? ⟨g,0,none⟩=some (.string s)∧w'.cell? ⟨g,1,none⟩=some (.int .i64 i)) (go_keep) ((go_at_call 203;with_reducible refine Calls.mono (C.out _) ?_;rintro e w1 ⟨rfl,rfl⟩;unfold rvRes;try simp only))
 all_goals
  go_wp2_with fail;refine(must_yes _ _).mono ?_;rintro e w2 ⟨rfl,rfl⟩;go_wp2;go_ret;exact⟨rfl,(Moved.at_ (i':=(j:Int)) R.out (Below.refl _ _)).below ((Below.refl _ _).drew)⟩
theorem rnum_no(s:ByteArray)(i:Nat)(g:Nat)(w:World)(hs:s.size≤1048576)(hi:i≤s.size)(hv:readV s.data.toList i=none)(hr:RAt w g s i):
 Calls Tryz.prog 188 #[.pointer (some ⟨g,0,none⟩)] w fun e w'=>e=.panicked noPg∧Kept2 w w' (·≠g):=by
 obtain⟨h1,h2,h3,h4,h5⟩:=id hr;have C:=hide (fun w=>implRead s i w hs hi)
 rw[hv]at C;clear hr hv;go_enter Tryz.func188,Tryz.ntmps188;go_wp2;go_region_held3 (fun w'=>w'.cell? ⟨g,0,none⟩=some (.string s)∧w'.cell? ⟨g,1,none⟩=some (.int .i64 i)) (go_keep) ((go_at_call 203;with_reducible refine Calls.mono (C.out _) ?_;rintro e w1 ⟨rfl,rfl⟩;unfold rvRes;try simp only))
 all_goals
  go_wp2_with fail;refine(must_no _ _).mono ?_;rintro e w2 ⟨rfl,rfl⟩;go_wp2;exact⟨rfl,rfl,Kept2.below ((Below.refl _ _).drew)⟩
theorem rbyte_no(s:ByteArray)(i:Nat)(g:Nat)(w:World)(hb:s.data.toList[i]?=none)(hr:RAt w g s i):
 Calls Tryz.prog 187 #[.pointer (some ⟨g,0,none⟩)] w fun e w'=>e=.panicked noPg∧Kept2 w w' (·≠g):=by
 obtain⟨h1,h2,h3,h4,h5⟩:=id hr;have hi':s.size≤i:=List.getElem?_eq_none_iff.1 hb;have hlt:decide ((i:Int)<s.size)=false:=by simp;omega
 clear hr hb;go_enter Tryz.func187,Tryz.ntmps187;go_wp2;refine wp_region_held_drew (S:=fun w'=>w'.cell? ⟨g,0,none⟩=some (.string s)∧w'.cell? ⟨g,1,none⟩=some (.int .i64 i)) (by kernel_rfl) (by go_keep) (fun hHeld=>?_)
 refine wpAnyH_take (i:=0) (v:= ?_) rfl (by kernel_rfl) (by kernel_rfl) (by kernel_rfl) (fun _ _ _ h=>h) (Or.inl ⟨by rfl,?yld0⟩) (by assumption) ?_
 case yld0=>
  intro w hSw;try dsimp only at hSw
  go_simp;try with_reducible rfl
 simp only[Act.put,List.setIfInBounds_toArray];refine wpAnyH_take (i:=1) (v:= ?_) rfl (by kernel_rfl) (by kernel_rfl) (by kernel_rfl) (fun _ _ _ h=>h) (Or.inl ⟨by rfl,?yld1⟩) (by assumption) ?_
 case yld1=>
  intro w hSw;try dsimp only at hSw
  go_simp;try with_reducible rfl
 simp only[Act.put];refine wpAnyH_take (i:=2) (v:= ?_) rfl (by kernel_rfl) (by kernel_rfl) (by kernel_rfl) (fun _ _ _ h=>h) (Or.inl ⟨by rfl,?yld2⟩) (by assumption) ?_
 case yld2=>
  intro w hSw;try dsimp only at hSw
  go_simp;try with_reducible rfl
 simp only[Act.put];refine wpAnyH_take (i:=3) (v:= ?_) rfl (by kernel_rfl) (by kernel_rfl) (by kernel_rfl) (fun _ _ _ h=>h) (Or.inl ⟨by rfl,?yld3⟩) (by assumption) ?_
 case yld3=>
  intro w hSw;try dsimp only at hSw
  go_simp;try with_reducible rfl
 simp only[Act.put];refine wpAnyH_take (i:=4) (v:= ?_) rfl (by kernel_rfl) (by kernel_rfl) (by kernel_rfl) (fun _ _ _ h=>h) (Or.inl ⟨by rfl,?yld4⟩) (by assumption) ?_
 case yld4=>
  intro w hSw;try dsimp only at hSw
  go_simp;try with_reducible rfl
 simp only[Act.put];refine wpAnyH_take (i:=5) (v:= ?_) rfl (by kernel_rfl) (by kernel_rfl) (by kernel_rfl) (fun _ _ _ h=>h) (Or.inl ⟨by rfl,?yld5⟩) (by assumption) ?_
 case yld5=>
  intro w hSw;try dsimp only at hSw
  go_simp;try with_reducible rfl
 simp only[Act.put];refine wpAnyH_take (i:=6) (v:= ?_) rfl (by kernel_rfl) (by kernel_rfl) (by kernel_rfl) (fun _ _ _ h=>h) (Or.inl ⟨by rfl,?yld6⟩) (by assumption) ?_
 case yld6=>
  intro w hSw;try dsimp only at hSw
  go_simp;try with_reducible rfl
 simp only[Act.put];refine wpAnyH_take (i:=7) (v:= ?_) rfl (by kernel_rfl) (by kernel_rfl) (by kernel_rfl) (fun _ _ _ h=>h) (Or.inl ⟨by rfl,?yld7⟩) (by assumption) ?_
 case yld7=>
  intro w hSw;try dsimp only at hSw
  go_simp;try with_reducible rfl
 simp only[Act.put];refine wpAnyH_take (i:=8) (v:= ?_) rfl (by kernel_rfl) (by kernel_rfl) (by kernel_rfl) (fun _ _ _ h=>h) (Or.inl ⟨by rfl,?yld8⟩) (by assumption) ?_
 case yld8=>
  intro w hSw;try dsimp only at hSw
  go_simp;try with_reducible rfl
 simp only[Act.put];refine wpAnyH_take (i:=9) (v:= ?_) rfl (by kernel_rfl) (by kernel_rfl) (by kernel_rfl) (fun _ _ _ h=>h) (Or.inl ⟨by rfl,?yld9⟩) (by assumption) ?_
 case yld9=>
  intro w hSw;try dsimp only at hSw
  go_simp;try with_reducible rfl
 simp only[Act.put];refine wpAnyH_take (i:=10) (v:= ?_) rfl (by kernel_rfl) (by kernel_rfl) (by kernel_rfl) (fun _ _ _ h=>h) (Or.inl ⟨by rfl,?yld10⟩) (by assumption) ?_
 case yld10=>
  intro w hSw;try dsimp only at hSw
  go_simp;try with_reducible rfl
 simp only[Act.put];refine wpAnyH_ready (rs:=[11]) (by kernel_rfl) (by simp) ?_
 refine AllReadyH.cons rfl (fun K hK=>?_) ?_
 ·go_simp;rw[decide_eq_false (show¬i<s.size by omega)]
  with_reducible refine Calls.mono (must_no _ _) ?_
  rintro e w1 ⟨rfl,rfl⟩;go_wp2;exact⟨rfl,rfl,Kept2.below ((Below.refl _ _).drew)⟩
 ·exact AllReadyH.nil
def zero6:Array Value:= #[.int .i64 0,.int .i64 0,.int .i64 0,.int .i64 0,.int .i64 0,.string ⟨#[]⟩]
def PS(w W:World)(g gr gp:Nat)(s:ByteArray)(i:Int)(cs:Array Value):Prop:=
 Kept2 w W (·≠g)∧RAt W g s i∧w.heap.size≤gr∧gr<gp∧g<w.heap.size∧W.heap[gr]?=some (.cells zero6 102 (0,0))∧W.heap[gp]?=some (.cells cs 102 (0,0))
theorem PS.moved{w W W':World}{g gr gp:Nat}{s s':ByteArray}{i i':Int}{cs:Array Value}(h:PS w W g gr gp s i cs)(m:Moved W W' g s' i'):PS w W' g gr gp s' i' cs:=by
 obtain⟨h1,h2,h3,h4,h5,h6,h7⟩:=h;have l6:=(Array.getElem?_eq_some_iff.1 h6).1;have l7:=(Array.getElem?_eq_some_iff.1 h7).1;exact⟨h1.trans m.1,m.2,h3,h4,h5,(m.1.2.2.2.2 gr l6 (by omega)).trans h6,(m.1.2.2.2.2 gp l7 (by omega)).trans h7⟩
theorem PS.below{w W W':World}{g gr gp:Nat}{s:ByteArray}{i:Int}{cs:Array Value}(h:PS w W g gr gp s i cs)(b:Below W.heap.size W W'):PS w W' g gr gp s i cs:=
 h.moved ⟨Kept2.below b,h.2.1.below b⟩
theorem kept_far{w W:World}{g:Nat}{p k:Nat}{v:Value}(h:Kept2 w W (·≠g))(hp:w.heap.size≤p):Kept2 w (W.setCell ⟨p,k,none⟩ v) (·≠g):=
 ⟨h.1,h.2.1,h.2.2.1,by simpa using h.2.2.2.1,fun i hi hne=>(Below.heap_setCell W ⟨p,k,none⟩ v i (by simp;omega)).trans (h.2.2.2.2 i hi hne)⟩
theorem RAt.far{w:World}{g p k:Nat}{t:ByteArray}{i:Int}{v:Value}(h:RAt w g t i)(hp:p≠g):RAt (w.setCell ⟨p,k,none⟩ v) g t i:=by
 obtain⟨h1,h2,h3,h4,h5⟩:=h;have e:∀j,(w.setCell ⟨p,k,none⟩ v).cell? ⟨g,j,none⟩=w.cell? ⟨g,j,none⟩:=fun j=>World.cell?_setCell_other _ _ _ _ (fun e=>hp (by injection e))
 exact⟨by simpa using h1,by rw[e];exact h2,by rw[e];exact h3,by simpa using h4,by simpa using h5⟩
theorem PS.set{w W:World}{g gr gp:Nat}{s:ByteArray}{i:Int}{cs:Array Value}(h:PS w W g gr gp s i cs)(k:Nat)(v:Value):PS w (W.setCell ⟨gp,k,none⟩ v) g gr gp s i (cs.setIfInBounds k v):=by
 obtain⟨h1,h2,h3,h4,h5,h6,h7⟩:=h;exact⟨kept_far h1 (by omega),h2.far (by omega),h3,h4,h5,(Below.heap_setCell _ _ _ _ (by simp;omega)).trans h6,heap_setCell_same _ _ _ _ _ _ h7⟩
theorem six_set{w:World}{g:Nat}{t:TypeId}{y0 y1 y2 y3 y4 y5 a b c d e f:Value}(h:w.heap[g]?=some (.cells #[y0,y1,y2,y3,y4,y5] t (0,0))):
 ((((((w.setCell ⟨g,0,none⟩ a).setCell ⟨g,1,none⟩ b).setCell ⟨g,2,none⟩ c).setCell ⟨g,3,none⟩ d).setCell ⟨g,4,none⟩ e).setCell ⟨g,5,none⟩ f).heap[g]?=some (.cells #[a,b,c,d,e,f] t (0,0)):=
 heap_setCell_same _ _ 5 _ _ _ (heap_setCell_same _ _ 4 _ _ _ (heap_setCell_same _ _ 3 _ _ _ (heap_setCell_same _ _ 2 _ _ _ (heap_setCell_same _ _ 1 _ _ _ (heap_setCell_same _ _ 0 _ _ _ h)))))
theorem six_kept{w W:World}{g p:Nat}{a b c d e f:Value}(h:Kept2 w W (·≠g))(hp:w.heap.size≤p):
 Kept2 w ((((((W.setCell ⟨p,0,none⟩ a).setCell ⟨p,1,none⟩ b).setCell ⟨p,2,none⟩ c).setCell ⟨p,3,none⟩ d).setCell ⟨p,4,none⟩ e).setCell ⟨p,5,none⟩ f) (·≠g):=
 kept_far (kept_far (kept_far (kept_far (kept_far (kept_far h hp) hp) hp) hp) hp) hp
theorem PS.at_{w W:World}{g gr gp:Nat}{s:ByteArray}{i:Int}{cs:Array Value}(h:PS w W g gr gp s i cs)(k:Nat)(v:Value)(hv:cs[k]?=some v):W.cell? ⟨gp,k,none⟩=some v∧W.frozen? ⟨gp,k,none⟩=false:=
 ⟨cell_of_row _ _ k _ _ _ h.2.2.2.2.2.2▸hv,frozen_of_row _ _ k _ _ h.2.2.2.2.2.2⟩
def rpE:Option Pg→Ending
 |some p=> .returned (pgVal p)
 |none=> .panicked noPg
theorem page6{w:World}{g:Nat}{t:TypeId}{a b c d e f:Value}(h:w.heap[g]?=some (.cells #[a,b,c,d,e,f] t (0,0))):
 w.cell? ⟨g,0,none⟩=some a∧w.frozen? ⟨g,0,none⟩=false∧w.cell? ⟨g,1,none⟩=some b∧w.frozen? ⟨g,1,none⟩=false∧w.cell? ⟨g,2,none⟩=some c∧w.frozen? ⟨g,2,none⟩=false∧w.cell? ⟨g,3,none⟩=some d∧w.frozen? ⟨g,3,none⟩=false∧w.cell? ⟨g,4,none⟩=some e∧w.frozen? ⟨g,4,none⟩=false∧w.cell? ⟨g,5,none⟩=some f∧w.frozen? ⟨g,5,none⟩=false:=
 ⟨cell_of_row _ _ 0 _ _ _ h,frozen_of_row _ _ 0 _ _ h,cell_of_row _ _ 1 _ _ _ h,frozen_of_row _ _ 1 _ _ h,cell_of_row _ _ 2 _ _ _ h,frozen_of_row _ _ 2 _ _ h,cell_of_row _ _ 3 _ _ _ h,frozen_of_row _ _ 3 _ _ h,cell_of_row _ _ 4 _ _ _ h,frozen_of_row _ _ 4 _ _ h,cell_of_row _ _ 5 _ _ _ h,frozen_of_row _ _ 5 _ _ h⟩
theorem rpage(t:ByteArray)(s0:ByteArray)(i0:Int)(g:Nat)(w:World)(hm:t.size≤maxLen)(hr:RAt w g s0 i0)(ht:HalvIn w):
 Calls Tryz.prog 165 #[.pointer (some ⟨g,0,none⟩),.string t] w fun e w'=>e=rpE (readPg t)∧Kept2 w w' (·≠g):=by
 obtain⟨E,hE⟩:∃E,rpE (readPg t)=E:=⟨_,rfl⟩;have HE:=hide hE;rw[hE];have R:=hide hr;have HT:=hide ht;have B0:=hide ((Below.refl w.heap.size w).alloc (Nat.le_refl _) (.cells zero6 102));have Z0:=hide (heap_alloc_new w (.cells zero6 102));have hg:=hr.1;unfold zero6 at B0 Z0;clear hr ht hE;go_enter Tryz.func165,Tryz.ntmps165;go_wp2_with fail;cases hu:unA t with
 |none=>
  have HX:Hid (.panicked noPg=E):=by show _=_;rw[←HE.out];unfold readPg;rw[hu];rfl
  refine(runseal_no t g _ hm hu (HT.out.on B0.out)).mono ?_;rintro e w1 ⟨rfl,k1⟩;have KK:=hide ((Kept2.below B0.out).trans k1);clear hu;go_wp2;exact⟨rfl,HX.out,KK.out⟩
 |some s=>
 have HU:=hide hu;have hs:=(unA_some hu).2;refine(runseal_yes t s0 s i0 g _ hm hu (R.out.below B0.out) (HT.out.on B0.out)).mono ?_;rintro e w1 ⟨rfl,m1⟩;clear hu;have lw1:w.heap.size<w1.heap.size:=Nat.lt_of_lt_of_le (by simp) m1.1.2.2.2.1
 have P1:Hid (PS w (w1.alloc (.cells zero6 102)) g w.heap.size w1.heap.size s 0 zero6):=by
  have b1:=(Below.refl w1.heap.size w1).alloc (Nat.le_refl _) (.cells zero6 102);exact⟨(Kept2.below B0.out).trans (m1.1.trans (Kept2.below b1)),m1.2.below b1,Nat.le_refl _,lw1,hg,(b1.block _ lw1).trans ((m1.1.2.2.2.2 _ (by simp) (by omega)).trans Z0.out),heap_alloc_new _ _⟩
 clear m1 B0 Z0 R HT;unfold zero6 at P1;go_wp2_with fail;cases hb:s.data.toList[0]? with
 |none=>
  have HX:Hid (.panicked noPg=E):=by show _=_;rw[←HE.out];simp only[readPg,pgOf,HU.out,hb];rfl
  refine(rbyte_no s 0 g _ hb P1.out.2.1).mono ?_;rintro e w2 ⟨rfl,k2⟩;have KK:=hide (P1.out.1.trans k2);clear hb;go_wp2;exact⟨rfl,HX.out,KK.out⟩
 |some b=>
 have HB:=hide hb;have hl0:1≤s.size:=by have:=(List.getElem?_eq_some_iff.1 hb).1;exact this
 obtain⟨kb,hkb⟩:∃k:Nat,k=b.toNat:=⟨_,rfl⟩;have HK:=hide hkb;have C0:=rbyte_yes s 0 b g _ (by omega) hb P1.out.2.1
 rw[←hkb]at C0;refine C0.mono ?_;clear C0 hkb hb;rintro e w2 ⟨rfl,m2⟩;have P2:=hide (P1.out.moved m2);clear m2 P1;obtain⟨x0,y0⟩:=P2.out.at_ 0 _ rfl;have P1:=hide (P2.out.set 0 (.int .i64 kb));change Hid (PS w _ g w.heap.size w1.heap.size s _ #[.int .i64 kb,.int .i64 0,.int .i64 0,.int .i64 0,.int .i64 0,.string ⟨#[]⟩])at P1;clear P2;go_wp2_with fail;cases h0:readV s.data.toList 1 with
 |none=>
  have HX:Hid (.panicked noPg=E):=by show _=_;rw[←HE.out];simp only[readPg,pgOf,HU.out,HB.out,h0];rfl
  refine(rnum_no s 1 g _ (by omega) hl0 h0 P1.out.2.1).mono ?_
  rintro e w2 ⟨rfl,k2⟩;have KK:=hide (P1.out.1.trans k2);clear h0;go_wp2;exact⟨rfl,HX.out,KK.out⟩
 |some x=>
 obtain⟨a,i1⟩:=x;have HV0:=hide h0;have hl1:i1≤s.size:=(readV_le _ _ _ _ hl0 h0).1;refine(rnum_yes s 1 a i1 g _ (by omega) hl0 h0 P1.out.2.1).mono ?_
 clear h0;rintro e w3 ⟨rfl,m2⟩;have P2:=hide (P1.out.moved m2);clear m2 P1;obtain⟨x1,y1⟩:=P2.out.at_ 1 _ rfl;have P1:=hide (P2.out.set 1 (.int .i64 a));change Hid (PS w _ g w.heap.size w1.heap.size s _ #[.int .i64 kb,.int .i64 a,.int .i64 0,.int .i64 0,.int .i64 0,.string ⟨#[]⟩])at P1;clear P2;go_wp2_with fail;cases h1:readV s.data.toList i1 with
 |none=>
  have HX:Hid (.panicked noPg=E):=by show _=_;rw[←HE.out];simp only[readPg,pgOf,HU.out,HB.out,HV0.out,h1];rfl
  refine(rnum_no s i1 g _ (by omega) hl1 h1 P1.out.2.1).mono ?_
  rintro e w2 ⟨rfl,k2⟩;have KK:=hide (P1.out.1.trans k2);clear h1;go_wp2;exact⟨rfl,HX.out,KK.out⟩
 |some x=>
 obtain⟨b1,i2⟩:=x;have HV1:=hide h1;have hl2:i2≤s.size:=(readV_le _ _ _ _ hl1 h1).1;refine(rnum_yes s i1 b1 i2 g _ (by omega) hl1 h1 P1.out.2.1).mono ?_
 clear h1;rintro e w4 ⟨rfl,m2⟩;have P2:=hide (P1.out.moved m2);clear m2 P1;obtain⟨x2,y2⟩:=P2.out.at_ 2 _ rfl;have P1:=hide (P2.out.set 2 (.int .i64 b1));change Hid (PS w _ g w.heap.size w1.heap.size s _ #[.int .i64 kb,.int .i64 a,.int .i64 b1,.int .i64 0,.int .i64 0,.string ⟨#[]⟩])at P1;clear P2;go_wp2_with fail;cases h2:readV s.data.toList i2 with
 |none=>
  have HX:Hid (.panicked noPg=E):=by show _=_;rw[←HE.out];simp only[readPg,pgOf,HU.out,HB.out,HV0.out,HV1.out,h2];rfl
  refine(rnum_no s i2 g _ (by omega) hl2 h2 P1.out.2.1).mono ?_
  rintro e w2 ⟨rfl,k2⟩;have KK:=hide (P1.out.1.trans k2);clear h2;go_wp2;exact⟨rfl,HX.out,KK.out⟩
 |some x=>
 obtain⟨c,i3⟩:=x;have HV2:=hide h2;have hl3:i3≤s.size:=(readV_le _ _ _ _ hl2 h2).1;refine(rnum_yes s i2 c i3 g _ (by omega) hl2 h2 P1.out.2.1).mono ?_
 clear h2;rintro e w5 ⟨rfl,m2⟩;have P2:=hide (P1.out.moved m2);clear m2 P1;obtain⟨x3,y3⟩:=P2.out.at_ 3 _ rfl;have P1:=hide (P2.out.set 3 (.int .i64 c));change Hid (PS w _ g w.heap.size w1.heap.size s _ #[.int .i64 kb,.int .i64 a,.int .i64 b1,.int .i64 c,.int .i64 0,.string ⟨#[]⟩])at P1;clear P2;go_wp2_with fail;cases h3:readV s.data.toList i3 with
 |none=>
  have HX:Hid (.panicked noPg=E):=by show _=_;rw[←HE.out];simp only[readPg,pgOf,HU.out,HB.out,HV0.out,HV1.out,HV2.out,h3];rfl
  refine(rnum_no s i3 g _ (by omega) hl3 h3 P1.out.2.1).mono ?_
  rintro e w2 ⟨rfl,k2⟩;have KK:=hide (P1.out.1.trans k2);clear h3;go_wp2;exact⟨rfl,HX.out,KK.out⟩
 |some x=>
 obtain⟨d,i4⟩:=x;have HV3:=hide h3;have hl4:i4≤s.size:=(readV_le _ _ _ _ hl3 h3).1;refine(rnum_yes s i3 d i4 g _ (by omega) hl3 h3 P1.out.2.1).mono ?_
 clear h3;rintro e w6 ⟨rfl,m2⟩;have P2:=hide (P1.out.moved m2);clear m2 P1;obtain⟨x4,y4⟩:=P2.out.at_ 4 _ rfl;have P1:=hide (P2.out.set 4 (.int .i64 d));change Hid (PS w _ g w.heap.size w1.heap.size s _ #[.int .i64 kb,.int .i64 a,.int .i64 b1,.int .i64 c,.int .i64 d,.string ⟨#[]⟩])at P1;clear P2;go_wp2_with fail;obtain⟨u,hu5⟩:∃u,u=s.extract i4 s.size:=⟨_,rfl⟩;have HU5:=hide hu5;have C5:=rrest s i4 g _ hl4 P1.out.2.1;rw[←hu5]at C5;refine C5.mono ?_;clear C5 hu5;rintro e w7 ⟨rfl,m2⟩;have P2:=hide (P1.out.moved m2);clear m2 P1;obtain⟨x5,y5⟩:=P2.out.at_ 5 _ rfl;have P1:=hide (P2.out.set 5 (.string u));change Hid (PS w _ g w.heap.size w1.heap.size s _ #[.int .i64 kb,.int .i64 a,.int .i64 b1,.int .i64 c,.int .i64 d,.string u])at P1;clear P2;obtain⟨q0,-,q1,-,q2,-,q3,-,q4,-,q5,-⟩:=page6 P1.out.2.2.2.2.2.2;go_wp2_with fail;have C6:=hide (fun W=>ipageOk (Pg.mk kb a b1 c d u) W)
 by_cases hq:(Pg.mk kb a b1 c d u).Right
 ·have HX:Hid (.returned (pgVal (Pg.mk kb a b1 c d u))=E):=by show _=_;have hq2:=hq;rw[HK.out,HU5.out]at hq2;rw[HK.out,HU5.out,←HE.out];simp only[readPg,pgOf,HU.out,HB.out,HV0.out,HV1.out,HV2.out,HV3.out];rw[if_pos hq2];rfl
  rw[dcY hq]at C6;refine(C6.out _).mono ?_;rintro e w8 ⟨rfl,b8⟩;have P2:=hide (P1.out.below b8);clear P1 b8 C6 hq;go_wp2_with fail;refine(must_yes _ _).mono ?_;rintro e w9 ⟨rfl,rfl⟩;obtain⟨p0,-,p1,-,p2,-,p3,-,p4,-,p5,-⟩:=page6 P2.out.2.2.2.2.2.2;have Z:=P2.out.2.2.2.2.2.1;unfold zero6 at Z;obtain⟨z0,f0,z1,f1,z2,f2,z3,f3,z4,f4,z5,f5⟩:=page6 Z;obtain⟨s0,-,s1,-,s2,-,s3,-,s4,-,s5,-⟩:=page6 (six_set (a:=.int .i64 kb) (b:=.int .i64 a) (c:=.int .i64 b1) (d:=.int .i64 c) (e:=.int .i64 d) (f:=.string u) Z);have KK:=hide (six_kept (a:=.int .i64 kb) (b:=.int .i64 a) (c:=.int .i64 b1) (d:=.int .i64 c) (e:=.int .i64 d) (f:=.string u) P2.out.1 (Nat.le_refl _));go_wp2;exact bodyPost_ret (v:=.agg #[.int .i64 kb,.int .i64 a,.int .i64 b1,.int .i64 c,.int .i64 d,.string u]) (by simp[results,Tryz.results165,go_sem,s0,s1,s2,s3,s4,s5]) rfl ⟨HX.out,KK.out⟩
 ·have HX:Hid (.panicked noPg=E):=by show _=_;have hq2:=hq;rw[HK.out,HU5.out]at hq2;rw[←HE.out];simp only[readPg,pgOf,HU.out,HB.out,HV0.out,HV1.out,HV2.out,HV3.out];rw[if_neg hq2];rfl
  rw[dcN hq]at C6;refine(C6.out _).mono ?_;rintro e w8 ⟨rfl,b8⟩;have P2:=hide (P1.out.below b8);clear P1 b8 C6 hq;go_wp2_with fail;refine(must_no _ _).mono ?_;rintro e w9 ⟨rfl,rfl⟩;have KK:=hide P2.out.1;go_wp2;exact⟨rfl,HX.out,KK.out⟩
def pgRes:Option Pg→Value
 |some p=> .tuple #[pgVal p,.bool true]
 |none=> .tuple #[pgVal ⟨0,0,0,0,0,⟨#[]⟩⟩,.bool false]
end Go.Proofs.YtiicghepilbgfaaGreatDoor
