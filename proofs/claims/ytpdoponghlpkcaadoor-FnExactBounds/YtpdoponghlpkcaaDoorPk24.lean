/-
  RAt; Sum
-/
import Derived.Test.YtpdoponghlpkcaaDoorPk23
import Derived.Test.YtpdoponghlpkcaaDoorPk4
import Derived.Laws.Rows
import Derived.Test.YtpdoponghlpkcaaDoorPk0
import Derived.Lib.LaidTab
import Derived.Lib.AppendIntMem
import Derived.Laws.BitsAllLaws
set_option maxHeartbeats 400000
set_option maxRecDepth 100000
namespace Go.Proofs.YtpdoponghlpkcaaDoor
open Go.RowKit
open Words
def RAt(w:World)(g:Nat)(t:ByteArray)(i:Int):Prop:=g<w.heap.size∧w.cell? ⟨g,0,none⟩=some (.string t)∧w.cell? ⟨g,1,none⟩=some (.int .i64 i)∧w.frozen? ⟨g,0,none⟩=false∧w.frozen? ⟨g,1,none⟩=false
def Moved(w w':World)(g:Nat)(t:ByteArray)(i:Int):Prop:=Kept2 w w' (·≠g)∧RAt w' g t i
theorem RAt.below{w w':World}{g:Nat}{t:ByteArray}{i:Int}(h:RAt w g t i)(hb:Below w.heap.size w w'):RAt w' g t i:=by
 obtain⟨h1,h2,h3,h4,h5⟩:=h;have e:∀j,w'.cell? ⟨g,j,none⟩=w.cell? ⟨g,j,none⟩:=fun j=>hb.cell (show g<w.heap.size from h1)
 have f:∀j,w'.frozen? ⟨g,j,none⟩=w.frozen? ⟨g,j,none⟩:=fun j=>hb.frozen (show g<w.heap.size from h1)
 exact⟨Nat.lt_of_lt_of_le h1 hb.size,by rw[e];exact h2,by rw[e];exact h3,by rw[f];exact h4,by rw[f];exact h5⟩
theorem RAt.both{w:World}{g:Nat}{t t':ByteArray}{i i':Int}(h:RAt w g t i):RAt ((w.setCell ⟨g,0,none⟩ (.string t')).setCell ⟨g,1,none⟩ (.int .i64 i')) g t' i':=by
 obtain⟨h1,h2,h3,h4,h5⟩:=h;have o:∀(w:World) (i j:Nat) (u:Value),i≠j→(w.setCell ⟨g,i,none⟩ u).cell? ⟨g,j,none⟩=w.cell? ⟨g,j,none⟩:=fun w i j u hij=>World.cell?_setCell_other _ _ _ _ (fun e=>hij (by injection e))
 refine⟨by simpa using h1,?_,?_,by simpa using h4,by simpa using h5⟩
 ·rw[o _ 1 0 _ (by omega)]
  exact World.cell?_setCell_same _ _ _ h2
 ·exact World.cell?_setCell_same _ _ _ ((o w 0 1 (.string t') (by omega)).trans h3)
theorem RAt.at_{w:World}{g:Nat}{t:ByteArray}{i i':Int}(h:RAt w g t i):RAt (w.setCell ⟨g,1,none⟩ (.int .i64 i')) g t i':=by
 obtain⟨h1,h2,h3,h4,h5⟩:=h;have o:∀(w:World) (i j:Nat) (u:Value),i≠j→(w.setCell ⟨g,i,none⟩ u).cell? ⟨g,j,none⟩=w.cell? ⟨g,j,none⟩:=fun w i j u hij=>World.cell?_setCell_other _ _ _ _ (fun e=>hij (by injection e))
 refine⟨by simpa using h1,?_,?_,by simpa using h4,by simpa using h5⟩
 ·rw[o _ 1 0 _ (by omega)]
  exact h2
 ·exact World.cell?_setCell_same _ _ _ h3
theorem kept_set(w:World)(g j:Nat)(v:Value):Kept2 w (w.setCell ⟨g,j,none⟩ v) (·≠g):=by
 refine⟨rfl,rfl,rfl,by simp,fun i _ hne=>?_⟩
 exact Below.heap_setCell _ _ _ _ hne
theorem Moved.both{w w':World}{g:Nat}{t t':ByteArray}{i i':Int}(h:RAt w g t i)(hb:Below w.heap.size w w'):Moved w ((w'.setCell ⟨g,0,none⟩ (.string t')).setCell ⟨g,1,none⟩ (.int .i64 i')) g t' i':=
 ⟨((Kept2.below hb).trans (kept_set _ _ _ _)).trans (kept_set _ _ _ _),(h.below hb).both⟩
theorem Moved.at_{w w':World}{g:Nat}{t:ByteArray}{i i':Int}(h:RAt w g t i)(hb:Below w.heap.size w w'):Moved w (w'.setCell ⟨g,1,none⟩ (.int .i64 i')) g t i':=
 ⟨(Kept2.below hb).trans (kept_set _ _ _ _),(h.below hb).at_⟩
theorem Moved.below{a b c:World}{g:Nat}{t:ByteArray}{i:Int}(h:Moved a b g t i)(k:Below b.heap.size b c):Moved a c g t i:=⟨h.1.trans (Kept2.below k),h.2.below k⟩
def noPg:List PanicEntry:=[{v:=.iface 141 (.agg #[]),recovered:=false}]
theorem must_yes(v:Value)(w:World):
 Calls Tryd.prog 86 #[v,.bool true] w fun e w'=>e=.returned (.tuple #[])∧w'=w:=by
 go_enter Tryd.func86,Tryd.ntmps86;go_wp2
 first|go_end0|refine bodyPost_ret (results_none rfl _ _ _) rfl ?_
 exact⟨rfl,rfl⟩
theorem must_no(v:Value)(w:World):
 Calls Tryd.prog 86 #[v,.bool false] w fun e w'=>e=.panicked noPg∧w'=w:=by
 go_enter Tryd.func86,Tryd.ntmps86;go_wp2;exact⟨rfl,rfl,rfl⟩
end Go.Proofs.YtpdoponghlpkcaaDoor
namespace Go.Proofs.YtpdoponghlpkcaaDoor
open Go.RowKit
open Sums
def HalvIn(w:World):Prop:=Lib.TabIs Tryd.prog w "loop.example/g00195/impl.fourHalvings" .u32 (tab.map Int.ofNat)
theorem HalvIn.on{w w':World}(h:HalvIn w)(hb:Below w.heap.size w w'):HalvIn w':=Lib.tabBelow_of_tabIs h w' hb
theorem HalvIn.cell{w:World}(h:HalvIn w)(i:Nat)(hi:i<tab.length):w.cell? ⟨0,i,none⟩=some (.int .u32 (tab[i]:Nat)):=by
 have:=Lib.TabIs.cell h (g:=0) (by kernel_rfl) i (by simpa using hi)
 rw[this];simp[List.getD,hi]
theorem tab_lt:∀r:Fin 16,tab[r.val]'(by simp[tab])<4294967296:=by decide
theorem halved_any(s:Nat)(w:World)(hs:s<4294967296)(ht:HalvIn w):
 Calls Tryd.prog 97 #[.int .u32 s] w fun e w'=>e=.returned (.int .u32 (h4 s:Nat))∧w'=w:=by
 have hm:s % 16<tab.length:=by rw[tab_len];omega
 have E:=h4_tab s hm;have hc:=ht.cell (s % 16) hm;have hx:tab[s % 16]<4294967296:=tab_lt ⟨s % 16,by omega⟩
 generalize tab[s % 16]=x at E hc hx;have hy:=u32_xor ((s:Int)/16) (x:Int) (by omega) (by omega) (by omega) (by omega)
 rw[show((s:Int)/16).toNat=s/16 by omega,Int.toNat_natCast,←E]at hy
 clear ht hm E;go_enter Tryd.func97,Tryd.ntmps97;go_wp2;go_ret;exact⟨rfl,rfl⟩
theorem withByte_any(s c:Nat)(w:World)(hs:s<4294967296)(hb:c<256)(ht:HalvIn w):
 Calls Tryd.prog 96 #[.int .u32 s,.int .u8 c] w fun e w'=>e=.returned (.int .u32 (h4 (h4 (s^^^c)):Nat))∧w'=w:=by
 have hl:=xor_lt32 s c hs (by omega)
 have hl2:=h4_lt _ hl;have hy:=u32_xor (s:Int) (c:Int) (by omega) (by omega) (by omega) (by omega)
 rw[Int.toNat_natCast,Int.toNat_natCast]at hy;have HT:=hide ht;clear ht;generalize s^^^c=y at hy hl hl2;go_enter Tryd.func96,Tryd.ntmps96;go_wp2_with fail;refine(halved_any y _ hl HT.out).mono ?_;rintro e w1 ⟨rfl,rfl⟩;go_wp2_with fail;refine(halved_any (h4 y) _ hl2 HT.out).mono ?_;rintro e w1 ⟨rfl,rfl⟩;go_wp2;go_ret;exact⟨rfl,rfl⟩
theorem sum_step(s:Nat)(t:ByteArray)(k c m:Nat)(h:k<t.size)(hc:t[k].toNat=c)(hm:m=sumL s (t.data.toList.take k)):h4 (h4 (m^^^c))=sumL s (t.data.toList.take (k+1)):=by
 have hl:k<t.data.toList.length:=by simpa using h
 have hcl:t.data.toList[k].toNat=c:=by rw[←hc];rfl
 rw[sumL_take _ _ _ hl,←hm,sumB,hcl]
theorem all_take(t:ByteArray):t.data.toList.take t.size=t.data.toList:=by
 apply List.take_of_length_le;simp
theorem sumMore_any(s:Nat)(t:ByteArray)(w:World)(hs:s<4294967296)(hl:t.size≤maxLen)(ht:HalvIn w):
 Calls Tryd.prog 95 #[.int .u32 s,.string t] w fun e w'=>e=.returned (.int .u32 (sumL s t.data.toList:Nat))∧w'=w:=by
 unfold maxLen at hl;have HT:=hide ht;clear ht;go_enter Tryd.func95,Tryd.ntmps95;go_wp2;go_loopw [5,10] (fun sv iv wr=>∃k m:Nat,k≤t.size∧iv=.int .i64 k∧sv=.int .u32 m∧m<4294967296∧Hid (m=sumL s (t.data.toList.take k))∧wr=w) (fun _ iv _=>t.size-(intOf iv).toNat)
 case atStart=>exact⟨0,s,Nat.zero_le _,rfl,rfl,hs,rfl,rfl⟩
 case round=>
  obtain⟨k,m,hk,rfl,rfl,hm,hrel,rfl⟩:=hrel;by_cases hlt:(k:Int)<t.size
  ·obtain⟨c,hcc⟩:∃c:Nat,t[k].toNat=c:=⟨_,rfl⟩;have hc8:c<256:=by rw[←hcc];exact UInt8.toNat_lt _
   have F:=hide (sum_step s t k c m (by omega) hcc hrel.out)
   clear hrel;go_wp2_with fail;refine(withByte_any m c _ hm hc8 HT.out).mono ?_;rintro e w1 ⟨rfl,rfl⟩;have hb:=h4_lt _ (h4_lt _ (xor_lt32 m c hm (by omega)))
   generalize h4 (h4 (m^^^c))=m' at F hb;go_wp2;go_roundw
   case rel=>exact⟨k+1,m',by omega,by go_num,rfl,hb,F,trivial⟩
   case measure=>simp[intOf];omega
  ·have e:k=t.size:=by omega
   subst e;have F:=hide (hrel.out.trans (by rw[all_take]))
   clear hrel;go_wp2;go_ret;exact⟨by rw[F.out];rfl,rfl⟩
theorem sumOf_any(t:ByteArray)(w:World)(hl:t.size≤maxLen)(ht:HalvIn w):
 Calls Tryd.prog 93 #[.string t] w fun e w'=>e=.returned (.int .u32 (sumOf t.data.toList:Nat))∧w'=w:=by
 have HT:=hide ht;clear ht;go_enter Tryd.func93,Tryd.ntmps93;go_wp2_with fail;refine(sumMore_any 4294967295 t _ (by omega) hl HT.out).mono ?_
 rintro e w1 ⟨rfl,rfl⟩;go_wp2;go_ret;exact⟨rfl,rfl⟩
end Go.Proofs.YtpdoponghlpkcaaDoor
