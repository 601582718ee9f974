/-
  Rd; SNext; SIn; SMay; SLeaf; SOk; FSnoc; SCopy; FPut; SProg; SBad; FBlk; Make4; SWipe; Cells; Same; CopyM; ISlices
-/
import Derived.Test.YtpdoponghlpkcaaDoorPk5
import Derived.Test.YtpdoponghlpkcaaDoorPk0
import Derived.Lib.SliceRun
set_option maxHeartbeats 400000
set_option maxRecDepth 100000
namespace Go.Proofs.YtpdoponghlpkcaaDoor
open Go.RowKit
def LeafRd(w:World)(u:Value)(ls:List (Int×ByteArray)):Prop:=
 ∃ld lc,u=.slice ld ls.length lc∧(ld=none→lc=0)∧∀j t,ls[j]?=some t→∃gl o,ld=some ⟨gl,o,none⟩∧w.cell? ⟨gl,o+j*2,none⟩=some (.int .i64 t.1)∧w.cell? ⟨gl,o+j*2+1,none⟩=some (.string t.2)
def FlashRd(w:World)(v:Value)(rs:List Rw):Prop:=
 ∃vd vcap,v=.slice vd rs.length vcap∧(vd=none→vcap=0)∧∀k r,rs[k]?=some r→∃g,vd=some ⟨g,0,none⟩∧(w.cell? ⟨g,k*3,none⟩=some (.bool r.1)∧w.cell? ⟨g,k*3+1,none⟩=some (.int .i64 r.2.1)∧w.cell? ⟨g,k*3+2,none⟩=some r.2.2.1)∧LeafRd w r.2.2.1 r.2.2.2
theorem LeafRd.below{w w':World}{u:Value}{ls:List (Int×ByteArray)}(h:LeafRd w u ls)(hb:Below w.heap.size w w'):LeafRd w' u ls:=by
 obtain⟨ld,lc,e,en,h⟩:=h;refine⟨ld,lc,e,en,fun j t ht=>?_⟩
 obtain⟨gl,o,e2,c1,c2⟩:=h j t ht;exact⟨gl,o,e2,(hb.cell (World.block_lt_of_cell? w _ c1)).trans c1,(hb.cell (World.block_lt_of_cell? w _ c2)).trans c2⟩
theorem FlashRd.below{w w':World}{v:Value}{rs:List Rw}(h:FlashRd w v rs)(hb:Below w.heap.size w w'):FlashRd w' v rs:=by
 obtain⟨vd,vcap,e,en,h⟩:=h;refine⟨vd,vcap,e,en,fun k r hr=>?_⟩
 obtain⟨g,e2,⟨c1,c2,c3⟩,hl⟩:=h k r hr;exact⟨g,e2,⟨(hb.cell (World.block_lt_of_cell? w _ c1)).trans c1,(hb.cell (World.block_lt_of_cell? w _ c2)).trans c2,(hb.cell (World.block_lt_of_cell? w _ c3)).trans c3⟩,hl.below hb⟩
theorem FlashRd.at{w:World}{vd:Option Addr}{n vcap k:Nat}{rs:List Rw}{r:Rw}(h:FlashRd w (.slice vd n vcap) rs)(hr:rs[k]?=some r):∃g,vd=some ⟨g,0,none⟩∧(w.cell? ⟨g,k*3,none⟩=some (.bool r.1)∧w.cell? ⟨g,k*3+1,none⟩=some (.int .i64 r.2.1)∧w.cell? ⟨g,k*3+2,none⟩=some r.2.2.1)∧LeafRd w r.2.2.1 r.2.2.2:=by
 obtain⟨vd',vcap',e,-,h⟩:=h;injection e with e1 e2 e3
 subst e1;exact h k r hr
theorem own_nil{w:World}{B:Nat}{e:TypeId}{size n cap m:Nat}{a:Option Addr}{xs:List Value}(h:w.ownsRow B e size (.slice a m cap) n xs):a=none→cap=0:=by
 rintro rfl;rcases h.2 with⟨h,-⟩|⟨g,cap',cur,h,-⟩
 ·injection h
 ·cases h
theorem LeafIn.rd{w:World}{lo hi:Nat}{u:Value}{ls:List (Int×ByteArray)}(h:LeafIn w lo hi u ls):LeafRd w u ls:=by
 obtain⟨ld,lc,rfl,-,-,l3⟩:=frow_form h.1;refine⟨ld,lc,rfl,own_nil h.1,fun j t ht=>?_⟩
 obtain⟨gl,rfl,-,-⟩:=l3 (by have:=(List.getElem?_eq_some_iff.1 ht).1;omega)
 obtain⟨d1,d2⟩:=lown_cells h.1 ht;exact⟨gl,0,rfl,by rw[Nat.zero_add];exact d1,by rw[Nat.zero_add];exact d2⟩
theorem FlashIn.rd{w:World}{lo hi:Nat}{v:Value}{rs:List Rw}(h:FlashIn w lo hi v rs):FlashRd w v rs:=by
 obtain⟨vd,vcap,rfl,-,-,a3⟩:=frow_form h.1;refine⟨vd,vcap,rfl,own_nil h.1,fun k r hr=>?_⟩
 obtain⟨g,rfl,-,-⟩:=a3 (by have:=(List.getElem?_eq_some_iff.1 hr).1;omega)
 exact⟨g,rfl,kown_cells (k:=k) (t:=cellOf r) h.1 (by rw[List.getElem?_map,hr];rfl),(h.2.2.1 r (List.mem_of_getElem? hr)).rd⟩
theorem LeafRd.cells{w:World}{gl o n lc:Nat}{ls:List (Int×ByteArray)}(h:LeafRd w (.slice (some ⟨gl,o,none⟩) n lc) ls)(j:Nat)(u:Value)(hj:(lcells ls)[j]?=some u):w.cell? ⟨gl,o+j,none⟩=some u:=by
 obtain⟨ld,lc',e,-,h⟩:=h;injection e with e1 e2 e3
 subst e1;have hlt:=(List.getElem?_eq_some_iff.1 hj).1;rw[lcells_len]at hlt;obtain⟨t,ht⟩:∃t,ls[j/2]?=some t:=⟨_,List.getElem?_eq_getElem (by omega)⟩
 obtain⟨gl',o',e4,c1,c2⟩:=h _ t ht;injection e4 with e4
 injection e4 with e5 e6
 subst e5 e6;obtain⟨k1,k2⟩:=lcells_at ls (j/2) t ht;rcases Nat.mod_two_eq_zero_or_one j with hm|hm
 ·have e:j/2*2=j:=by omega
  rw[e]at k1 c1;rw[hj]at k1;cases k1;exact c1
 ·have e:j/2*2+1=j:=by omega
  rw[e,hj]at k2;cases k2;rw[Nat.add_assoc,e]at c2;exact c2
theorem LeafRd.head{w:World}{ld:Option Addr}{n lc:Nat}{ls:List (Int×ByteArray)}(h:LeafRd w (.slice ld n lc) ls)(hn:0<ls.length):∃gl o,ld=some ⟨gl,o,none⟩:=by
 obtain⟨ld',lc',e,-,h⟩:=h;injection e with e1 e2 e3
 subst e1;obtain⟨gl,o,e,-⟩:=h 0 _ (List.getElem?_eq_getElem hn);exact⟨gl,o,e⟩
theorem LeafRd.two{w:World}{gl o n lc j:Nat}{ls:List (Int×ByteArray)}{t:Int×ByteArray}(h:LeafRd w (.slice (some ⟨gl,o,none⟩) n lc) ls)(ht:ls[j]?=some t):w.cell? ⟨gl,o+j*2,none⟩=some (.int .i64 t.1)∧w.cell? ⟨gl,o+j*2+1,none⟩=some (.string t.2):=by
 obtain⟨k1,k2⟩:=lcells_at ls j t ht;exact⟨h.cells _ _ k1,h.cells _ _ k2⟩
theorem sin_b(x lo hi:Int)(b:Bool)(w:World)(h:(lo≤x∧x≤hi∧b=true)∨((x<lo∨lo≤x∧¬x≤hi)∧b=false)):
 Calls Tryd.prog 11 #[.int .i64 x,.int .i64 lo,.int .i64 hi] w fun e w'=>e=.returned (.bool b)∧w'=w:=by
 rcases h with⟨h1,h2,rfl⟩|⟨h1|⟨h1,h2⟩,rfl⟩
 all_goals
  go_enter Tryd.func11,Tryd.ntmps11;go_wp2;go_ret;exact⟨rfl,rfl⟩
theorem sin_any(x lo hi:Int)(w:World):
 Calls Tryd.prog 11 #[.int .i64 x,.int .i64 lo,.int .i64 hi] w fun e w'=>e=.returned (.bool (decide (lo≤x∧x≤hi)))∧w'=w:=by
 apply sin_b;by_cases h:lo≤x∧x≤hi
 ·exact .inl ⟨h.1,h.2,decide_eq_true h⟩
 ·exact .inr ⟨by omega,decide_eq_false h⟩
theorem cells_new(w:World)(cs:Array Value)(t:TypeId)(g:Nat)(hg:w.heap.size=g):∀(j:Nat) (u:Value),cs.toList[j]?=some u→(w.alloc (.cells cs t)).cell? ((⟨g,0,none⟩:Addr).add j)=some u:=by
 intro j u hj;subst hg;rw[addr_at,cell_of_row _ _ j _ _ _ (heap_alloc_new w (.cells cs t))]
 simpa using hj
end Go.Proofs.YtpdoponghlpkcaaDoor
