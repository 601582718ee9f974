/-
  OpenF; FMark
-/
import Derived.Test.YtpdoponghlpkcaaDoorPk5
import Derived.ProofKit
import Derived.OpenShut
import Derived.ShutString
import Derived.Deep.Strs
import Derived.Deep.Slices
import Derived.Test.YtpdoponghlpkcaaDoorPk8
set_option maxRecDepth 100000
namespace Go.Proofs.YtpdoponghlpkcaaDoor
open Go.ChangeShapes Go.WideShapes Go.ChangeAt Go.RowKit Go.Deep
def LfRow(w:World)(a:Option Addr)(len:Nat)(ls:List (Int×ByteArray)):Prop:=
 ls.length=len∧len≤maxLen∧(∀t∈ls,t.2.size≤maxLen)∧(0<len→∃b off,a=some ⟨b,off,none⟩∧b<w.heap.size∧∀i t,ls[i]?=some t→
  w.cell? ⟨b,off+i*2,none⟩=some (.int .i64 t.1)∧w.cell? ⟨b,off+i*2+1,none⟩=some (.string t.2))
def BkOne(w:World)(r:Rw):Prop:=∃a n cap,r.2.2.1=.slice a n cap∧LfRow w a n r.2.2.2
def BkRow(w:World)(a:Option Addr)(len:Nat)(rs:List Rw):Prop:=
 rs.length=len∧len≤maxLen∧(∀r∈rs,BkOne w r)∧(0<len→∃b off,a=some ⟨b,off,none⟩∧b<w.heap.size∧∀i r,rs[i]?=some r→
  w.cell? ⟨b,off+i*3,none⟩=some (.bool r.1)∧w.cell? ⟨b,off+i*3+1,none⟩=some (.int .i64 r.2.1)∧w.cell? ⟨b,off+i*3+2,none⟩=some r.2.2.1)
theorem LfRow.below{w w':World}{a:Option Addr}{len:Nat}{ls:List (Int×ByteArray)}(h:LfRow w a len ls)(hb:Below w.heap.size w w'):LfRow w' a len ls:=by
 refine⟨h.1,h.2.1,h.2.2.1,fun h0=>?_⟩
 obtain⟨b,off,e,hlt,hc⟩:=h.2.2.2 h0;refine⟨b,off,e,Nat.lt_of_lt_of_le hlt hb.size,fun i t ht=>?_⟩
 have:=hc i t ht;rw[hb.cell (p:=⟨b,_,none⟩) hlt,hb.cell (p:=⟨b,_,none⟩) hlt];exact this
theorem BkOne.below{w w':World}{r:Rw}(h:BkOne w r)(hb:Below w.heap.size w w'):BkOne w' r:=by
 obtain⟨a,n,cap,e,hl⟩:=h;exact⟨a,n,cap,e,hl.below hb⟩
theorem BkRow.below{w w':World}{a:Option Addr}{len:Nat}{rs:List Rw}(h:BkRow w a len rs)(hb:Below w.heap.size w w'):BkRow w' a len rs:=by
 refine⟨h.1,h.2.1,fun r hr=>(h.2.2.1 r hr).below hb,fun h0=>?_⟩
 obtain⟨b,off,e,hlt,hc⟩:=h.2.2.2 h0;refine⟨b,off,e,Nat.lt_of_lt_of_le hlt hb.size,fun i t ht=>?_⟩
 have:=hc i t ht;rw[hb.cell (p:=⟨b,_,none⟩) hlt,hb.cell (p:=⟨b,_,none⟩) hlt,hb.cell (p:=⟨b,_,none⟩) hlt];exact this
section
variable {H : Type} {enc : TypeId × Value → H} {w : World} {base : Nat} {sp : Nat → Bool} {held : Bool}
theorem fcells9:Tryd.prog.cellsOf 9=1:=by kernel_rfl
theorem fcells3:Tryd.prog.cellsOf 3=1:=by kernel_rfl
theorem fcells4:Tryd.prog.cellsOf 4=1:=by kernel_rfl
theorem fcellsLs:Tryd.prog.cellsOf 88=1:=by kernel_rfl
theorem fcellsLf:Tryd.prog.cellsOf 133=2:=by kernel_rfl
theorem fcellsBk:Tryd.prog.cellsOf 90=3:=by kernel_rfl
theorem faddr_off(b off j:Nat):(⟨b,off,none⟩:Addr).add j=⟨b,off+j,none⟩:=by
 simp only[Addr.add];split<;>simp_all
theorem open_leaves{fuel:Nat}{cs:List Value}{x:DataW H×List MemPlace}(hf:DataW.trod enc Tryd.prog w base sp held fuel 88 cs=some x):∃a len cap ls,cs=[.slice a len cap]∧LfRow w a len ls:=by
 rcases open_slice Tryd.underlying88 hf with⟨hcs,_⟩|⟨x,len,c,m,n,D,Pl,hcs,_,hl,hm,hmm,_,hx⟩
 ·exact⟨none,0,0,[],hcs,rfl,by omega,by simp,fun h=>by omega⟩
 ·have hlm:len≤m:=by rw[hmm];split<;>omega
  have each:∀i,i<len→∃t:Int×ByteArray,w.cell? (x.add (i*2))=some (.int .i64 t.1)∧w.cell? (x.add (i*2+1))=some (.string t.2)∧t.2.size≤maxLen:=by
   intro i hi;obtain⟨cs,h1,h2⟩:=hx i (by omega)
   rw[fcellsLf]at h1;obtain⟨_,hlen,hcell⟩:=World.cells?_some h1;obtain⟨y0,y1,k,_,_,g0,g1⟩:=trod_struct2 Tryd.underlying133 h2;simp only[fcells9,fcells3]at g0 g1
   match cs,hlen with
   | [u,v],_=>
    obtain⟨p,e0,_,_⟩:=DataW.trod_int Tryd.underlying3 g0;obtain⟨s,e1,_,hs⟩:=DataW.trod_string Tryd.underlying9 g1;simp at e0 e1;subst e0 e1;have f0:=hcell 0 (by simp)
    have f1:=hcell 1 (by simp)
    rw[add_add]at f0 f1;exact⟨(p,s),by simpa using f0,by simpa using f1,hs⟩
  obtain⟨f,hq⟩:=choose_lt each;refine⟨some x,len,c,(List.range len).map f,hcs,by simp,by omega,?_,fun h0=>?_⟩
  ·intro t ht;obtain⟨i,hi,rfl⟩:=List.mem_map.1 ht;exact(hq i (List.mem_range.1 hi)).2.2
  ·obtain⟨b,off,spot⟩:=x;have hspot:spot=none:=by simpa[Addr.add]using World.cell?_spot (hq 0 h0).1
   subst hspot;refine⟨b,off,rfl,?_,fun i t hi=>?_⟩
   ·have:=World.block_lt_of_cell? w _ (hq 0 h0).1;rw[faddr_off]at this;exact this
   ·obtain⟨hi1,hi2⟩:=List.getElem?_eq_some_iff.1 hi;have hil:i<len:=by simpa using hi1
    have ht:t=f i:=by rw[←hi2];simp
    subst ht;have:=hq i hil;rw[faddr_off,faddr_off]at this;exact⟨this.1,this.2.1⟩
theorem open_block{fuel:Nat}{cs:List Value}{x:DataW H×List MemPlace}(hf:DataW.trod enc Tryd.prog w base sp held fuel 90 cs=some x):∃r:Rw,cs=[.bool r.1,.int .i64 r.2.1,r.2.2.1]∧BkOne w r:=by
 obtain⟨y0,y1,y2,k,_,hlen,g0,g1,g2⟩:=trod_struct3 Tryd.underlying90 hf;simp only[fcells4,fcells3,fcellsLs]at g0 g1 g2;rw[fcellsBk]at hlen
 match cs,hlen with
 | [u,v,z],_=>
  obtain⟨p,e0,_⟩:=DataW.trod_bool Tryd.underlying4 g0;obtain⟨q,e1,_,_⟩:=DataW.trod_int Tryd.underlying3 g1;obtain⟨a,n,cap,ls,e2,hl⟩:=open_leaves g2;simp at e0 e1 e2;subst e0 e1 e2;exact⟨(p,q,.slice a n cap,ls),rfl,a,n,cap,rfl,hl⟩
theorem open_blocks{fuel:Nat}{cs:List Value}{x:DataW H×List MemPlace}(hf:DataW.trod enc Tryd.prog w base sp held fuel 22 cs=some x):∃a len cap rs,cs=[.slice a len cap]∧BkRow w a len rs:=by
 rcases open_slice Tryd.underlying22 hf with⟨hcs,_⟩|⟨x,len,c,m,n,D,Pl,hcs,_,hl,hm,hmm,_,hx⟩
 ·exact⟨none,0,0,[],hcs,rfl,by omega,by simp,fun h=>by omega⟩
 ·have hlm:len≤m:=by rw[hmm];split<;>omega
  have each:∀i,i<len→∃r:Rw,w.cell? (x.add (i*3))=some (.bool r.1)∧w.cell? (x.add (i*3+1))=some (.int .i64 r.2.1)∧w.cell? (x.add (i*3+2))=some r.2.2.1∧BkOne w r:=by
   intro i hi;obtain⟨cs,h1,h2⟩:=hx i (by omega)
   rw[fcellsBk]at h1;obtain⟨_,hlen,hcell⟩:=World.cells?_some h1;obtain⟨r,rfl,hr⟩:=open_block h2;have f0:=hcell 0 (by simp)
   have f1:=hcell 1 (by simp)
   have f2:=hcell 2 (by simp)
   rw[add_add]at f0 f1 f2;exact⟨r,by simpa using f0,by simpa using f1,by simpa using f2,hr⟩
  haveI:Inhabited Rw:=⟨(false,0,.slice none 0 0,[])⟩
  obtain⟨f,hq⟩:=choose_lt each;refine⟨some x,len,c,(List.range len).map f,hcs,by simp,by omega,?_,fun h0=>?_⟩
  ·intro t ht;obtain⟨i,hi,rfl⟩:=List.mem_map.1 ht;exact(hq i (List.mem_range.1 hi)).2.2.2
  ·obtain⟨b,off,spot⟩:=x;have hspot:spot=none:=by simpa[Addr.add]using World.cell?_spot (hq 0 h0).1
   subst hspot;refine⟨b,off,rfl,?_,fun i t hi=>?_⟩
   ·have:=World.block_lt_of_cell? w _ (hq 0 h0).1;rw[faddr_off]at this;exact this
   ·obtain⟨hi1,hi2⟩:=List.getElem?_eq_some_iff.1 hi;have hil:i<len:=by simpa using hi1
    have ht:t=f i:=by rw[←hi2];simp
    subst ht;have:=hq i hil;rw[faddr_off,faddr_off,faddr_off]at this;exact⟨this.1,this.2.1,this.2.2.1⟩
end
end Go.Proofs.YtpdoponghlpkcaaDoor
namespace Go.Proofs.YtpdoponghlpkcaaDoor
open Go.RowKit
def endB:Nat→List Rw→Nat
 |k,[]=>k
 |k,r::rs=>endB (k+2+2*r.2.2.2.length) rs
theorem endB_le(k:Nat)(rs:List Rw):k≤endB k rs:=by
 induction rs generalizing k with
 |nil=>exact Nat.le_refl _
 |cons r rs ih=>have:=ih (k+2+2*r.2.2.2.length);unfold endB;omega
theorem endB_snoc(k:Nat)(rs:List Rw)(r:Rw):endB k (rs++[r])=endB k rs+2+2*r.2.2.2.length:=by
 induction rs generalizing k with
 |nil=>rfl
 |cons a rs ih=>exact ih _
end Go.Proofs.YtpdoponghlpkcaaDoor
