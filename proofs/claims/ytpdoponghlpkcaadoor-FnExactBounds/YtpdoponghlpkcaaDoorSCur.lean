/-
  SCur
-/
import Derived.Test.YtpdoponghlpkcaaDoorPk31
import Derived.Test.YtpdoponghlpkcaaDoorPk4
import Derived.Laws.Rows
import Derived.Deep.RegionHeld3
set_option maxHeartbeats 400000
set_option maxRecDepth 100000
namespace Go.Proofs.YtpdoponghlpkcaaDoor
open Go.RowKit
open Words
theorem readV_far(l:List UInt8)(q:Nat)(h:l.length<q):readV l q=none:=by
 unfold readV;rw[List.drop_eq_nil_of_le (by omega)]
 rfl
theorem svread_any(s:ByteArray)(q:Nat)(w:World)(hs:s.size≤1048576):
 Calls Tryd.prog 56 #[.string s,.int .i64 q] w fun e w'=>e=.returned (rvRes (readV s.data.toList q))∧Below w.heap.size w w':=by
 by_cases h:q≤s.size
 ·exact specRead s q w hs h
 ·rw[readV_far _ _ (show s.size<q by omega)]
  refine(specRead_out s q w (by omega)).mono ?_
  rintro e w' ⟨rfl,rfl⟩;exact⟨rfl,Below.refl _ _⟩
def CAt(w:World)(g:Nat)(t:ByteArray)(i:Int)(bad:Bool):Prop:=g<w.heap.size∧w.cell? ⟨g,0,none⟩=some (.string t)∧w.cell? ⟨g,1,none⟩=some (.int .i64 i)∧w.cell? ⟨g,2,none⟩=some (.bool bad)∧w.frozen? ⟨g,1,none⟩=false∧w.frozen? ⟨g,2,none⟩=false
def MovedC(w w':World)(g:Nat)(t:ByteArray)(i:Int)(bad:Bool):Prop:=Kept2 w w' (·≠g)∧CAt w' g t i bad
theorem CAt.below{w w':World}{g:Nat}{t:ByteArray}{i:Int}{bad:Bool}(h:CAt w g t i bad)(hb:Below w.heap.size w w'):CAt w' g t i bad:=by
 obtain⟨h1,h2,h3,h4,h5,h6⟩:=h;have e:∀j,w'.cell? ⟨g,j,none⟩=w.cell? ⟨g,j,none⟩:=fun j=>hb.cell (show g<w.heap.size from h1)
 have f:∀j,w'.frozen? ⟨g,j,none⟩=w.frozen? ⟨g,j,none⟩:=fun j=>hb.frozen (show g<w.heap.size from h1)
 exact⟨Nat.lt_of_lt_of_le h1 hb.size,by rw[e];exact h2,by rw[e];exact h3,by rw[e];exact h4,by rw[f];exact h5,by rw[f];exact h6⟩
theorem CAt.set1{w:World}{g:Nat}{t:ByteArray}{i i':Int}{bad:Bool}(h:CAt w g t i bad):CAt (w.setCell ⟨g,1,none⟩ (.int .i64 i')) g t i' bad:=by
 obtain⟨h1,h2,h3,h4,h5,h6⟩:=h;have o:∀(i j:Nat) (u:Value),i≠j→(w.setCell ⟨g,i,none⟩ u).cell? ⟨g,j,none⟩=w.cell? ⟨g,j,none⟩:=fun i j u hij=>World.cell?_setCell_other _ _ _ _ (fun e=>hij (by injection e))
 exact⟨by simpa using h1,by rw[o 1 0 _ (by omega)];exact h2,World.cell?_setCell_same _ _ _ h3,by rw[o 1 2 _ (by omega)];exact h4,by simpa using h5,by simpa using h6⟩
theorem CAt.set2{w:World}{g:Nat}{t:ByteArray}{i:Int}{bad bad':Bool}(h:CAt w g t i bad):CAt (w.setCell ⟨g,2,none⟩ (.bool bad')) g t i bad':=by
 obtain⟨h1,h2,h3,h4,h5,h6⟩:=h;have o:∀(i j:Nat) (u:Value),i≠j→(w.setCell ⟨g,i,none⟩ u).cell? ⟨g,j,none⟩=w.cell? ⟨g,j,none⟩:=fun i j u hij=>World.cell?_setCell_other _ _ _ _ (fun e=>hij (by injection e))
 exact⟨by simpa using h1,by rw[o 2 0 _ (by omega)];exact h2,by rw[o 2 1 _ (by omega)];exact h3,World.cell?_setCell_same _ _ _ h4,by simpa using h5,by simpa using h6⟩
theorem ckept_set(w:World)(g j:Nat)(v:Value):Kept2 w (w.setCell ⟨g,j,none⟩ v) (·≠g):=by
 refine⟨rfl,rfl,rfl,by simp,fun i _ hne=>?_⟩
 exact Below.heap_setCell _ _ _ _ hne
theorem MovedC.set1{w w':World}{g:Nat}{t:ByteArray}{i i':Int}{bad:Bool}(h:CAt w g t i bad)(hb:Below w.heap.size w w'):MovedC w (w'.setCell ⟨g,1,none⟩ (.int .i64 i')) g t i' bad:=
 ⟨(Kept2.below hb).trans (ckept_set _ _ _ _),(h.below hb).set1⟩
theorem MovedC.set2{w w':World}{g:Nat}{t:ByteArray}{i:Int}{bad bad':Bool}(h:CAt w g t i bad)(hb:Below w.heap.size w w'):MovedC w (w'.setCell ⟨g,2,none⟩ (.bool bad')) g t i bad':=
 ⟨(Kept2.below hb).trans (ckept_set _ _ _ _),(h.below hb).set2⟩
def stepV(l:List UInt8)(i:Nat):Bool→Nat×Nat×Bool
 |true=>(0,i,true)
 |false=>match readV l i with
  |some (n,j)=>(n,j,false)
  |none=>(0,i,true)
theorem svar_go(s:ByteArray)(i n j:Nat)(g:Nat)(w:World)(hs:s.size≤1048576)(hr:CAt w g s i false)(hv:readV s.data.toList i=some (n,j)):
 Calls Tryd.prog 40 #[.pointer (some ⟨g,0,none⟩)] w fun e w'=>e=.returned (.int .i64 n)∧MovedC w w' g s j false:=by
 obtain⟨h1,h2,h3,h4,h5,h6⟩:=id hr;have R:=hide hr;have C:=hide (fun w=>svread_any s i w hs)
 rw[hv]at C;clear hr hv;go_enter Tryd.func40,Tryd.ntmps40;go_wp2;go_region_held3 (fun w'=>w'.cell? ⟨g,0,none⟩=some (.string s)∧w'.cell? ⟨g,1,none⟩=some (.int .i64 i)) (first|go_keep|exact⟨K1.out.2.1,K1.out.2.2.1⟩) ((go_at_call 56;(with_reducible refine Calls.mono (C.out _) ?_);rintro e w1 ⟨rfl,b1⟩;have B1:Hid (Below w.heap.size w w1):=Below.trans (Below.drew (Below.refl w.heap.size w)) b1;have K1:Hid (CAt w1 g s i false):=R.out.below B1.out;clear b1;simp only[rvRes]))
 all_goals
  obtain⟨k1,k2,k3,k4,k5,k6⟩:=K1.out;have M:=hide (MovedC.set1 (i':=(j:Int)) R.out B1.out);go_wp2;go_ret;exact⟨rfl,M.out⟩
theorem svar_none(s:ByteArray)(i:Nat)(g:Nat)(w:World)(hs:s.size≤1048576)(hr:CAt w g s i false)(hv:readV s.data.toList i=none):
 Calls Tryd.prog 40 #[.pointer (some ⟨g,0,none⟩)] w fun e w'=>e=.returned (.int .i64 0)∧MovedC w w' g s i true:=by
 obtain⟨h1,h2,h3,h4,h5,h6⟩:=id hr;have R:=hide hr;have C:=hide (fun w=>svread_any s i w hs)
 rw[hv]at C;clear hr hv;go_enter Tryd.func40,Tryd.ntmps40;go_wp2;go_region_held3 (fun w'=>w'.cell? ⟨g,0,none⟩=some (.string s)∧w'.cell? ⟨g,1,none⟩=some (.int .i64 i)) (first|go_keep|exact⟨K1.out.2.1,K1.out.2.2.1⟩) ((go_at_call 56;(with_reducible refine Calls.mono (C.out _) ?_);rintro e w1 ⟨rfl,b1⟩;have B1:Hid (Below w.heap.size w w1):=Below.trans (Below.drew (Below.refl w.heap.size w)) b1;have K1:Hid (CAt w1 g s i false):=R.out.below B1.out;clear b1;simp only[rvRes]))
 all_goals
  obtain⟨k1,k2,k3,k4,k5,k6⟩:=K1.out;have M:=hide (MovedC.set2 (bad':=true) R.out B1.out);go_wp2;go_ret;exact⟨rfl,M.out⟩
theorem svar_bad(s:ByteArray)(i:Nat)(g:Nat)(w:World)(hs:s.size≤1048576)(hr:CAt w g s i true)(hv:readV s.data.toList i=none):
 Calls Tryd.prog 40 #[.pointer (some ⟨g,0,none⟩)] w fun e w'=>e=.returned (.int .i64 0)∧MovedC w w' g s i true:=by
 obtain⟨h1,h2,h3,h4,h5,h6⟩:=id hr;have R:=hide hr;have C:=hide (fun w=>svread_any s i w hs)
 rw[hv]at C;clear hr hv;go_enter Tryd.func40,Tryd.ntmps40;go_wp2;go_region_held3 (fun w'=>w'.cell? ⟨g,0,none⟩=some (.string s)∧w'.cell? ⟨g,1,none⟩=some (.int .i64 i)) (first|go_keep|exact⟨K1.out.2.1,K1.out.2.2.1⟩) ((go_at_call 56;(with_reducible refine Calls.mono (C.out _) ?_);rintro e w1 ⟨rfl,b1⟩;have B1:Hid (Below w.heap.size w w1):=Below.trans (Below.drew (Below.refl w.heap.size w)) b1;have K1:Hid (CAt w1 g s i true):=R.out.below B1.out;clear b1;simp only[rvRes]))
 all_goals
  obtain⟨k1,k2,k3,k4,k5,k6⟩:=K1.out;have M:=hide (MovedC.set2 (bad':=true) R.out B1.out);go_wp2;go_ret;exact⟨rfl,M.out⟩
theorem svar_bad2(s:ByteArray)(i:Nat)(n j:Nat)(g:Nat)(w:World)(hs:s.size≤1048576)(hr:CAt w g s i true)(hv:readV s.data.toList i=some (n,j)):
 Calls Tryd.prog 40 #[.pointer (some ⟨g,0,none⟩)] w fun e w'=>e=.returned (.int .i64 0)∧MovedC w w' g s i true:=by
 obtain⟨h1,h2,h3,h4,h5,h6⟩:=id hr;have R:=hide hr;have C:=hide (fun w=>svread_any s i w hs)
 rw[hv]at C;clear hr hv;go_enter Tryd.func40,Tryd.ntmps40;go_wp2;go_region_held3 (fun w'=>w'.cell? ⟨g,0,none⟩=some (.string s)∧w'.cell? ⟨g,1,none⟩=some (.int .i64 i)) (first|go_keep|exact⟨K1.out.2.1,K1.out.2.2.1⟩) ((go_at_call 56;(with_reducible refine Calls.mono (C.out _) ?_);rintro e w1 ⟨rfl,b1⟩;have B1:Hid (Below w.heap.size w w1):=Below.trans (Below.drew (Below.refl w.heap.size w)) b1;have K1:Hid (CAt w1 g s i true):=R.out.below B1.out;clear b1;simp only[rvRes]))
 all_goals
  obtain⟨k1,k2,k3,k4,k5,k6⟩:=K1.out;have M:=hide (MovedC.set2 (bad':=true) R.out B1.out);go_wp2;go_ret;exact⟨rfl,M.out⟩
theorem svar_any(s:ByteArray)(i:Nat)(bad:Bool)(g:Nat)(w:World)(hs:s.size≤1048576)(hr:CAt w g s i bad)(n j:Nat)(b':Bool)(he:stepV s.data.toList i bad=(n,j,b')):
 Calls Tryd.prog 40 #[.pointer (some ⟨g,0,none⟩)] w fun e w'=>e=.returned (.int .i64 n)∧MovedC w w' g s j b':=by
 cases hv:readV s.data.toList i with
 |none=>
  cases bad with
  |false=>
   simp only[stepV,hv]at he;cases he;exact svar_none s i g w hs hr hv
  |true=>
   simp only[stepV]at he;cases he;exact svar_bad s i g w hs hr hv
 |some x=>
  obtain⟨a,b⟩:=x;cases bad with
  |false=>
   simp only[stepV,hv]at he;cases he;exact svar_go s i _ _ g w hs hr hv
  |true=>
   simp only[stepV]at he;cases he;exact svar_bad2 s i a b g w hs hr hv
theorem stepV_ok{l:List UInt8}{i n j:Nat}{b:Bool}(h:stepV l i b=(n,j,false)):b=false∧readV l i=some (n,j):=by
 cases b with
 |true=>simp[stepV]at h
 |false=>
  cases hv:readV l i with
  |none=>simp[stepV,hv]at h
  |some x=>
   obtain⟨a,c⟩:=x;simp only[stepV,hv]at h;cases h;exact⟨rfl,rfl⟩
theorem stepV_bad{l:List UInt8}{i n j:Nat}{b:Bool}(h:stepV l i b=(n,j,true)):b=true∨readV l i=none:=by
 cases b with
 |true=>exact .inl rfl
 |false=>
  cases hv:readV l i with
  |none=>exact .inr rfl
  |some x=>
   obtain⟨a,c⟩:=x;simp only[stepV,hv]at h;cases h
end Go.Proofs.YtpdoponghlpkcaaDoor
