/-
  IRead; PgV; IPageOk; RAt; Sum
-/
import Derived.Test.YtiicghepilbgfaaGreatDoorPk13
import Derived.Test.YtiicghepilbgfaaGreatDoorPk9
import Derived.Test.YtiicghepilbgfaaGreatDoorPk11
import Derived.Test.YtiicghepilbgfaaGreatDoorPk0
import Derived.Test.YtiicghepilbgfaaGreatDoorPk7
import Derived.Laws.Rows
import Derived.Test.YtiicghepilbgfaaGreatDoorPk6
import Derived.Lib.LaidTab
import Derived.Lib.AppendIntMem
import Derived.Laws.BitsAllLaws
set_option maxHeartbeats 400000
set_option maxRecDepth 100000
namespace Go.Proofs.YtiicghepilbgfaaGreatDoor
open Go.RowKit
theorem iread_rd(v:Value)(rs:List Rw)(b leaf:Int)(w:World)(hl:rs.length≤1048576)(hll:∀r∈rs,r.2.2.2.length≤1048576)(htx:TxB rs)(ha:FlashRd w v rs):
 Calls Tryz.prog 129 #[.agg #[v],.int .i64 b,.int .i64 leaf] w fun e w'=>e=.returned (.tuple #[.string (readF (rs.map tellOf) b leaf).1,.bool (readF (rs.map tellOf) b leaf).2])∧Below w.heap.size w w':=by
 have h1:=ha;obtain⟨vd,vcap,rfl,-⟩:=h1;have HLL:=hide hll;have HTX:=hide htx;have HB0:=hide ((Below.refl w.heap.size w).alloc (Nat.le_refl _) (.cells #[.slice vd rs.length vcap] 49));have HA:=hide (ha.below HB0.out);clear ha hll htx;go_enter Tryz.func129,Tryz.ntmps129;go_wp2_with fail;generalize w.alloc (.cells #[.slice vd rs.length vcap] 49)=w2 at HB0 HA⊢;by_cases hb:0≤b∧b≤(rs.length:Int)-1
 ·obtain⟨k,rfl⟩:∃k:Nat,b=k:=⟨b.toNat,by omega⟩
  have hkl:k<rs.length:=by omega
  have hr:rs[k]?=some rs[k]:=List.getElem?_eq_getElem hkl;generalize rs[k]=r at hr;obtain⟨g,eg,-,-⟩:=HA.out.at hr;subst eg;refine(iat_in g rs.length vcap k _ hl hkl).mono ?_;rintro e w3 ⟨rfl,b3⟩;have HA3:=hide (HA.out.below b3);have HB3:=hide (HB0.out.trans (b3.mono HB0.out.size));have hmem:=List.mem_of_getElem? hr;have hrl:=HLL.out r hmem;have htx:=HTX.out r hmem;obtain⟨g',eg,⟨-,-,c3⟩,hlf⟩:=HA3.out.at hr;injection eg with eg
  injection eg with eg
  subst eg;have HBR:Hid ((rs.map tellOf)[k]?=some (tellOf r)):=by show _=_;rw[List.getElem?_map,hr];rfl
  obtain⟨x,y,u,ls⟩:=r;simp only at c3;simp only at hlf hrl htx;obtain⟨ld,capl,rfl,-,l3⟩:=hlf;have L3:=hide l3;have HTX2:=hide htx;clear hr hmem l3 hb b3 htx;by_cases hf:0≤leaf∧leaf≤(ls.length:Int)-1
  ·obtain⟨j,rfl⟩:∃j:Nat,leaf=j:=⟨leaf.toNat,by omega⟩
   have hjl:j<ls.length:=by omega
   obtain⟨z,t,ht⟩:∃z t,ls[j]?=some (z,t):=⟨ls[j].1,ls[j].2,List.getElem?_eq_getElem hjl⟩;obtain⟨gl,lo,el,d1,d2⟩:=L3.out j (z,t) ht;subst el;simp only at d1 d2;have hts:=HTX2.out _ (List.mem_of_getElem? ht);simp only at hts;have RI:=hide (read_in (t:=(z,t)) HBR.out ht);clear ht hf;go_wp2_with fail;refine(ilat_off g (k*3) gl lo ls.length capl j _ hrl hjl c3).mono ?_;rintro e w4 ⟨rfl,rfl⟩;by_cases hz:z=1
   ·have HP:Hid (readF (rs.map tellOf) (k:Int) (j:Int)=(t,true)):=RI.out.1 hz;have e1:(z !=1)=false:=by simp[hz]
    clear hz;go_wp2_with fail;refine(fclone_any t _ hts).mono ?_;rintro e w5 ⟨rfl,b5⟩;have HB5:=hide (HB3.out.trans (b5.mono HB3.out.size));clear b5;go_wp2;go_ret2;exact⟨by rw[HP.out];rfl,HB5.out⟩
   ·have HP:Hid (readF (rs.map tellOf) (k:Int) (j:Int)=(⟨#[]⟩,false)):=RI.out.2 hz;have e1:(z !=1)=true:=by simp[hz]
    clear hz;go_wp2;go_ret2;exact⟨by rw[HP.out];rfl,HB3.out⟩
  ·have HP:Hid (readF (rs.map tellOf) (k:Int) leaf=(⟨#[]⟩,false)):=read_leaf_out HBR.out hf;go_wp2_with fail;refine(ilat_out g (k*3) ls.length capl ld leaf _ hrl hf c3).mono ?_;rintro e w4 ⟨rfl,rfl⟩;clear hf;go_wp2;go_ret2;exact⟨by rw[HP.out];rfl,HB3.out⟩
 ·have HP:Hid (readF (rs.map tellOf) b leaf=(⟨#[]⟩,false)):=read_out (by rw[List.length_map];exact hb)
  refine(iat_out vd rs.length vcap b _ hl hb).mono ?_;rintro e w3 ⟨rfl,b3⟩;have HB3:=hide (HB0.out.trans (b3.mono HB0.out.size));clear hb b3;go_wp2;go_ret2;exact⟨by rw[HP.out];rfl,HB3.out⟩
end Go.Proofs.YtiicghepilbgfaaGreatDoor
namespace Go.Proofs.YtiicghepilbgfaaGreatDoor
open Go.RowKit
open Words
def pgVal(p:Pg):Value:=.agg #[.int .i64 p.kind,.int .i64 p.seq,.int .i64 p.tx,.int .i64 p.part,.int .i64 p.count,.string p.text]
def partP(k q c:Int):Prop:=k=1∧c=1∧q=0∨k=2∧1≤c∧c≤9∧0≤q∧q<c
def partB(k q c:Int):Bool:=decide (k=1∧c=1∧q=0∨k=2∧1≤c∧c≤9∧0≤q∧q<c)
theorem partB_yes{k q c:Int}(h:partP k q c):partB k q c=true:=dcY h
theorem partB_no{k q c:Int}(h:¬partP k q c):partB k q c=false:=dcN h
theorem ipart_any(k s x q c:Int)(t:ByteArray)(w:World):
 Calls Tryz.prog 204 #[.agg #[.int .i64 k,.int .i64 s,.int .i64 x,.int .i64 q,.int .i64 c,.string t]] w fun e w'=>e=.returned (.bool (partB k q c))∧Below w.heap.size w w':=by
 have HB:=hide ((Below.refl w.heap.size w).alloc (Nat.le_refl _) (.cells #[.int .i64 k,.int .i64 s,.int .i64 x,.int .i64 q,.int .i64 c,.string t] 102));by_cases h1:k=1
 ·subst h1;have HE:Hid (partB 1 q c=(decide (c=1)&&decide (q=0))):=by
   show _=_;by_cases a:c=1<;>by_cases b:q=0<;>simp[partB,a,b]
  by_cases a:(c==1)=true
  ·go_enter Tryz.func204,Tryz.ntmps204;go_wp2;go_ret;exact⟨by rw[HE.out];simp at a;by_cases b:q=0<;>simp[a,b],HB.out⟩
  ·have a:(c==1)=false:=by simpa using a
   go_enter Tryz.func204,Tryz.ntmps204;go_wp2;go_ret;exact⟨by rw[HE.out];simp at a;by_cases b:q=0<;>simp[a,b],HB.out⟩
 ·have h1':(k==1)=false:=by simpa using h1
  by_cases h2:k=2
  ·subst h2;have HE:Hid (partB 2 q c=decide (1≤c∧c≤9∧0≤q∧q<c)):=by
    show _=_;simp[partB]
   clear h1 h1';by_cases a1:1≤c
   ·by_cases a2:c≤9
    ·by_cases a3:0≤q
     ·go_enter Tryz.func204,Tryz.ntmps204;go_wp2;go_ret;exact⟨by rw[HE.out];simp[a1,a2,a3],HB.out⟩
     ·go_enter Tryz.func204,Tryz.ntmps204;go_wp2;go_ret;exact⟨by rw[HE.out];simp;omega,HB.out⟩
    ·go_enter Tryz.func204,Tryz.ntmps204;go_wp2;go_ret;exact⟨by rw[HE.out];simp;omega,HB.out⟩
   ·go_enter Tryz.func204,Tryz.ntmps204;go_wp2;go_ret;exact⟨by rw[HE.out];simp;omega,HB.out⟩
  ·have h2':(k==2)=false:=by simpa using h2
   have HE:Hid (partB k q c=false):=by
    show _=_;simp[partB,h1,h2]
   clear h1 h2;go_enter Tryz.func204,Tryz.ntmps204;go_wp2;go_ret;exact⟨by rw[HE.out];rfl,HB.out⟩
theorem right_eq(k s x q c:Int)(t:ByteArray):(Pg.mk k s x q c t).Right↔(1≤s∧s≤1000000000∧1≤x∧x≤1000000000)∧partP k q c∧(t.size:Int)≤90:=by
 unfold Pg.Right partP;simp only;constructor
 ·rintro⟨h,h1,h2,h3,h4,h5⟩;exact⟨⟨h1,h2,h3,h4⟩,h,h5⟩
 ·rintro⟨⟨h1,h2,h3,h4⟩,h,h5⟩;exact⟨h,h1,h2,h3,h4,h5⟩
theorem ipageOk(p:Pg)(w:World):
 Calls Tryz.prog 191 #[pgVal p] w fun e w'=>e=.returned (.bool (@decide p.Right p.decR))∧Below w.heap.size w w':=by
 obtain⟨k,s,x,q,c,t⟩:=p;have HE:=hide (right_eq k s x q c t);have HB:=hide ((Below.refl w.heap.size w).alloc (Nat.le_refl _) (.cells #[.int .i64 k,.int .i64 s,.int .i64 x,.int .i64 q,.int .i64 c,.string t] 102));unfold pgVal;simp only;by_cases a1:s<1
 ·go_enter Tryz.func191,Tryz.ntmps191;go_wp2;go_ret;exact⟨by rw[dcN (fun h=>by have:=(HE.out.1 h).1;omega)];rfl,HB.out⟩
 by_cases a2:1000000000<s
 ·go_enter Tryz.func191,Tryz.ntmps191;go_wp2;go_ret;exact⟨by rw[dcN (fun h=>by have:=(HE.out.1 h).1;omega)];rfl,HB.out⟩
 by_cases a3:x<1
 ·go_enter Tryz.func191,Tryz.ntmps191;go_wp2;go_ret;exact⟨by rw[dcN (fun h=>by have:=(HE.out.1 h).1;omega)];rfl,HB.out⟩
 by_cases a4:1000000000<x
 ·go_enter Tryz.func191,Tryz.ntmps191;go_wp2;go_ret;exact⟨by rw[dcN (fun h=>by have:=(HE.out.1 h).1;omega)];rfl,HB.out⟩
 by_cases a5:partP k q c
 ·go_enter Tryz.func191,Tryz.ntmps191;go_wp2_with fail;refine(ipart_any k s x q c t _).mono ?_;rintro e w1 ⟨rfl,hb⟩;rw[partB_yes a5];have A5:=hide a5;clear a5;have hs:=HB.out.size;have kp:∀i,i<6→w1.cell? ⟨w.heap.size,i,none⟩=(w.alloc (.cells #[.int .i64 k,.int .i64 s,.int .i64 x,.int .i64 q,.int .i64 c,.string t] 102)).cell? ⟨w.heap.size,i,none⟩:=fun i _=>hb.cell (by simp)
  have k5:=kp 5 (by omega)
  simp at k5;clear kp;go_wp2;go_ret;have e: @decide (Pg.mk k s x q c t).Right (Pg.mk k s x q c t).decR=decide ((t.size:Int)≤90):=dcE (HE.out.trans ⟨fun h=>h.2.2,fun h=>⟨by omega,A5.out,h⟩⟩)
  exact⟨by rw[e];rfl,HB.out.trans (hb.mono hs)⟩
 ·go_enter Tryz.func191,Tryz.ntmps191;go_wp2_with fail;refine(ipart_any k s x q c t _).mono ?_;rintro e w1 ⟨rfl,hb⟩;rw[partB_no a5];have A5:=hide a5;clear a5;have hs:=HB.out.size;go_wp2;go_ret;exact⟨by rw[dcN (fun h=>A5.out (HE.out.1 h).2.1)];rfl,HB.out.trans (hb.mono hs)⟩
def RAt(w:World)(g:Nat)(t:ByteArray)(i:Int):Prop:=g<w.heap.size∧w.cell? ⟨g,0,none⟩=some (.string t)∧w.cell? ⟨g,1,none⟩=some (.int .i64 i)∧w.frozen? ⟨g,0,none⟩=false∧w.frozen? ⟨g,1,none⟩=false
def Moved(w w':World)(g:Nat)(t:ByteArray)(i:Int):Prop:=Kept2 w w' (·≠g)∧RAt w' g t i
theorem RAt.below{w w':World}{g:Nat}{t:ByteArray}{i:Int}(h:RAt w g t i)(hb:Below w.heap.size w w'):RAt w' g t i:=by
 obtain⟨h1,h2,h3,h4,h5⟩:=h;have e:∀j,w'.cell? ⟨g,j,none⟩=w.cell? ⟨g,j,none⟩:=fun j=>hb.cell (show g<w.heap.size from h1)
 have f:∀j,w'.frozen? ⟨g,j,none⟩=w.frozen? ⟨g,j,none⟩:=fun j=>hb.frozen (show g<w.heap.size from h1)
 exact⟨Nat.lt_of_lt_of_le h1 hb.size,by rw[e];exact h2,by rw[e];exact h3,by rw[f];exact h4,by rw[f];exact h5⟩
theorem RAt.both{w:World}{g:Nat}{t t':ByteArray}{i i':Int}(h:RAt w g t i):RAt ((w.setCell ⟨g,0,none⟩ (.string t')).setCell ⟨g,1,none⟩ (.int .i64 i')) g t' i':=by
 obtain⟨h1,h2,h3,h4,h5⟩:=h;have o:∀(w:World) (i j:Nat) (u:Value),i≠j→(w.setCell ⟨g,i,none⟩ u).cell? ⟨g,j,none⟩=w.cell? ⟨g,j,none⟩:=fun w i j u hij=>World.cell?_setCell_other _ _ _ _ (fun e=>hij (by injection e))
 refine⟨by simpa using h1,?_,?_,by simpa using h4,by simpa using h5⟩
 ·rw[o _ 1 0 _ (by omega)]
  exact World.cell?_setCell_same _ _ _ h2
 ·exact World.cell?_setCell_same _ _ _ ((o w 0 1 (.string t') (by omega)).trans h3)
theorem RAt.at_{w:World}{g:Nat}{t:ByteArray}{i i':Int}(h:RAt w g t i):RAt (w.setCell ⟨g,1,none⟩ (.int .i64 i')) g t i':=by
 obtain⟨h1,h2,h3,h4,h5⟩:=h;have o:∀(w:World) (i j:Nat) (u:Value),i≠j→(w.setCell ⟨g,i,none⟩ u).cell? ⟨g,j,none⟩=w.cell? ⟨g,j,none⟩:=fun w i j u hij=>World.cell?_setCell_other _ _ _ _ (fun e=>hij (by injection e))
 refine⟨by simpa using h1,?_,?_,by simpa using h4,by simpa using h5⟩
 ·rw[o _ 1 0 _ (by omega)]
  exact h2
 ·exact World.cell?_setCell_same _ _ _ h3
theorem kept_set(w:World)(g j:Nat)(v:Value):Kept2 w (w.setCell ⟨g,j,none⟩ v) (·≠g):=by
 refine⟨rfl,rfl,rfl,by simp,fun i _ hne=>?_⟩
 exact Below.heap_setCell _ _ _ _ hne
theorem Moved.both{w w':World}{g:Nat}{t t':ByteArray}{i i':Int}(h:RAt w g t i)(hb:Below w.heap.size w w'):Moved w ((w'.setCell ⟨g,0,none⟩ (.string t')).setCell ⟨g,1,none⟩ (.int .i64 i')) g t' i':=
 ⟨((Kept2.below hb).trans (kept_set _ _ _ _)).trans (kept_set _ _ _ _),(h.below hb).both⟩
theorem Moved.at_{w w':World}{g:Nat}{t:ByteArray}{i i':Int}(h:RAt w g t i)(hb:Below w.heap.size w w'):Moved w (w'.setCell ⟨g,1,none⟩ (.int .i64 i')) g t i':=
 ⟨(Kept2.below hb).trans (kept_set _ _ _ _),(h.below hb).at_⟩
theorem Moved.below{a b c:World}{g:Nat}{t:ByteArray}{i:Int}(h:Moved a b g t i)(k:Below b.heap.size b c):Moved a c g t i:=⟨h.1.trans (Kept2.below k),h.2.below k⟩
def noPg:List PanicEntry:=[{v:=.iface 245 (.agg #[]),recovered:=false}]
theorem must_yes(v:Value)(w:World):
 Calls Tryz.prog 190 #[v,.bool true] w fun e w'=>e=.returned (.tuple #[])∧w'=w:=by
 go_enter Tryz.func190,Tryz.ntmps190;go_wp2
 first|go_end0|refine bodyPost_ret (results_none rfl _ _ _) rfl ?_
 exact⟨rfl,rfl⟩
theorem must_no(v:Value)(w:World):
 Calls Tryz.prog 190 #[v,.bool false] w fun e w'=>e=.panicked noPg∧w'=w:=by
 go_enter Tryz.func190,Tryz.ntmps190;go_wp2;exact⟨rfl,rfl,rfl⟩
end Go.Proofs.YtiicghepilbgfaaGreatDoor
namespace Go.Proofs.YtiicghepilbgfaaGreatDoor
open Go.RowKit
open Sums
def HalvIn(w:World):Prop:=Lib.TabIs Tryz.prog w "loop.example/g00195/impl.fourHalvings" .u32 (tab.map Int.ofNat)
theorem HalvIn.on{w w':World}(h:HalvIn w)(hb:Below w.heap.size w w'):HalvIn w':=Lib.tabBelow_of_tabIs h w' hb
theorem HalvIn.cell{w:World}(h:HalvIn w)(i:Nat)(hi:i<tab.length):w.cell? ⟨1,i,none⟩=some (.int .u32 (tab[i]:Nat)):=by
 have:=Lib.TabIs.cell h (g:=1) (by kernel_rfl) i (by simpa using hi)
 rw[this];simp[List.getD,hi]
theorem tab_lt:∀r:Fin 16,tab[r.val]'(by simp[tab])<4294967296:=by decide
theorem halved_any(s:Nat)(w:World)(hs:s<4294967296)(ht:HalvIn w):
 Calls Tryz.prog 220 #[.int .u32 s] w fun e w'=>e=.returned (.int .u32 (h4 s:Nat))∧w'=w:=by
 have hm:s % 16<tab.length:=by rw[tab_len];omega
 have E:=h4_tab s hm;have hc:=ht.cell (s % 16) hm;have hx:tab[s % 16]<4294967296:=tab_lt ⟨s % 16,by omega⟩
 generalize tab[s % 16]=x at E hc hx;have hy:=u32_xor ((s:Int)/16) (x:Int) (by omega) (by omega) (by omega) (by omega)
 rw[show((s:Int)/16).toNat=s/16 by omega,Int.toNat_natCast,←E]at hy
 clear ht hm E;go_enter Tryz.func220,Tryz.ntmps220;go_wp2;go_ret;exact⟨rfl,rfl⟩
theorem withByte_any(s c:Nat)(w:World)(hs:s<4294967296)(hb:c<256)(ht:HalvIn w):
 Calls Tryz.prog 219 #[.int .u32 s,.int .u8 c] w fun e w'=>e=.returned (.int .u32 (h4 (h4 (s^^^c)):Nat))∧w'=w:=by
 have hl:=xor_lt32 s c hs (by omega)
 have hl2:=h4_lt _ hl;have hy:=u32_xor (s:Int) (c:Int) (by omega) (by omega) (by omega) (by omega)
 rw[Int.toNat_natCast,Int.toNat_natCast]at hy;have HT:=hide ht;clear ht;generalize s^^^c=y at hy hl hl2;go_enter Tryz.func219,Tryz.ntmps219;go_wp2_with fail;refine(halved_any y _ hl HT.out).mono ?_;rintro e w1 ⟨rfl,rfl⟩;go_wp2_with fail;refine(halved_any (h4 y) _ hl2 HT.out).mono ?_;rintro e w1 ⟨rfl,rfl⟩;go_wp2;go_ret;exact⟨rfl,rfl⟩
theorem sum_step(s:Nat)(t:ByteArray)(k c m:Nat)(h:k<t.size)(hc:t[k].toNat=c)(hm:m=sumL s (t.data.toList.take k)):h4 (h4 (m^^^c))=sumL s (t.data.toList.take (k+1)):=by
 have hl:k<t.data.toList.length:=by simpa using h
 have hcl:t.data.toList[k].toNat=c:=by rw[←hc];rfl
 rw[sumL_take _ _ _ hl,←hm,sumB,hcl]
theorem all_take(t:ByteArray):t.data.toList.take t.size=t.data.toList:=by
 apply List.take_of_length_le;simp
theorem sumMore_any(s:Nat)(t:ByteArray)(w:World)(hs:s<4294967296)(hl:t.size≤maxLen)(ht:HalvIn w):
 Calls Tryz.prog 218 #[.int .u32 s,.string t] w fun e w'=>e=.returned (.int .u32 (sumL s t.data.toList:Nat))∧w'=w:=by
 unfold maxLen at hl;have HT:=hide ht;clear ht;go_enter Tryz.func218,Tryz.ntmps218;go_wp2;go_loopw [5,10] (fun sv iv wr=>∃k m:Nat,k≤t.size∧iv=.int .i64 k∧sv=.int .u32 m∧m<4294967296∧Hid (m=sumL s (t.data.toList.take k))∧wr=w) (fun _ iv _=>t.size-(intOf iv).toNat)
 case atStart=>exact⟨0,s,Nat.zero_le _,rfl,rfl,hs,rfl,rfl⟩
 case round=>
  obtain⟨k,m,hk,rfl,rfl,hm,hrel,rfl⟩:=hrel;by_cases hlt:(k:Int)<t.size
  ·obtain⟨c,hcc⟩:∃c:Nat,t[k].toNat=c:=⟨_,rfl⟩;have hc8:c<256:=by rw[←hcc];exact UInt8.toNat_lt _
   have F:=hide (sum_step s t k c m (by omega) hcc hrel.out)
   clear hrel;go_wp2_with fail;refine(withByte_any m c _ hm hc8 HT.out).mono ?_;rintro e w1 ⟨rfl,rfl⟩;have hb:=h4_lt _ (h4_lt _ (xor_lt32 m c hm (by omega)))
   generalize h4 (h4 (m^^^c))=m' at F hb;go_wp2;go_roundw
   case rel=>exact⟨k+1,m',by omega,by go_num,rfl,hb,F,trivial⟩
   case measure=>simp[intOf];omega
  ·have e:k=t.size:=by omega
   subst e;have F:=hide (hrel.out.trans (by rw[all_take]))
   clear hrel;go_wp2;go_ret;exact⟨by rw[F.out];rfl,rfl⟩
theorem sumOf_any(t:ByteArray)(w:World)(hl:t.size≤maxLen)(ht:HalvIn w):
 Calls Tryz.prog 216 #[.string t] w fun e w'=>e=.returned (.int .u32 (sumOf t.data.toList:Nat))∧w'=w:=by
 have HT:=hide ht;clear ht;go_enter Tryz.func216,Tryz.ntmps216;go_wp2_with fail;refine(sumMore_any 4294967295 t _ (by omega) hl HT.out).mono ?_
 rintro e w1 ⟨rfl,rfl⟩;go_wp2;go_ret;exact⟨rfl,rfl⟩
end Go.Proofs.YtiicghepilbgfaaGreatDoor
