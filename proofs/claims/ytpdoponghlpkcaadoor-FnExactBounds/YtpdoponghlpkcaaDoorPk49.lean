/-
  LawBnF; OpVl; OpKn
-/
import Derived.Test.YtpdoponghlpkcaaDoorIBnd
import Derived.Test.YtpdoponghlpkcaaDoorPk8
import Derived.ProofKit
import Derived.OpenShut
import Derived.ShutString
import Derived.Deep.Strs
import Derived.Deep.Slices
import Derived.Test.YtpdoponghlpkcaaDoorKnN
set_option maxRecDepth 100000
namespace Go.Proofs.YtpdoponghlpkcaaDoor
open Go.RowKit
open Words Sums Pack
theorem lawBn_card(fa:Option Addr)(n fc:Nat)(va:Option Addr)(vl vc:Nat)(ad:Option Addr)(len cap:Nat)(nx sq tx bs:Int)(rs:List Rw)(vs:List (Int×Int))(kr:List Kw){w:World}(hb:BkRow w fa n rs)(hvl:VlRow w va vl vs)(hk:KnRd w ad len kr)(_:World)(hv:HalvIn w):
 Calls Tryd.prog 3 #[.agg #[.slice fa n fc,.slice va vl vc,.slice ad len cap,.int .i64 nx,.int .i64 sq,.int .i64 tx,.int .i64 bs]] w fun e w'=>e=.returned (.bool true)∧Below w.heap.size w w':=
 lawBn_of fa n fc rs va vl vc vs ad len cap kr nx sq tx bs w hv hb hvl hk ibndC
end Go.Proofs.YtpdoponghlpkcaaDoor
namespace Go.Proofs.YtpdoponghlpkcaaDoor
open Go.ChangeShapes Go.WideShapes Go.ChangeAt Go.RowKit Go.Deep
section
variable {H : Type} {enc : TypeId × Value → H} {w : World} {base : Nat} {sp : Nat → Bool} {held : Bool}
theorem cells3Vl:Tryd.prog.cellsOf 3=1:=by kernel_rfl
theorem cellsVl:Tryd.prog.cellsOf 102=2:=by kernel_rfl
theorem addrVl(b off j:Nat):(⟨b,off,none⟩:Addr).add j=⟨b,off+j,none⟩:=by
 simp only[Addr.add];split<;>simp_all
theorem trodVl{P:Program}{t:TypeId}{f0 f1:Field}{fuel:Nat}{cs:List Value}{x:DataW H×List MemPlace}(ht:P.underlying t=some (.struct #[f0,f1]))(h:DataW.trod enc P w base sp held fuel t cs=some x):
 ∃y0 y1 n,DataW.trod enc P w base sp held n f0.type ((cs.drop f0.offset).take (P.cellsOf f0.type))=some y0∧DataW.trod enc P w base sp held n f1.type ((cs.drop f1.offset).take (P.cellsOf f1.type))=some y1:=by
 obtain⟨xs,n,_,rfl,hl,hlen,hf⟩:=DataW.trod_struct ht h
 match xs,hlen with
 | [y0,y1],_=>exact⟨y0,y1,n,by simpa using hf 0 f0 rfl,by simpa using hf 1 f1 rfl⟩
theorem open_vls{a:Option Addr}{len cap:Nat}{d:DataW H}{ps:List MemPlace}(hd:DataW.Trod enc Tryd.prog w base sp held 25 (.slice a len cap) d ps):∃ls,VlRow w a len ls:=by
 obtain⟨fuel,hf⟩:=hd;rcases open_slice Tryd.underlying25 hf with⟨hcs,_⟩|⟨x,l,c,m,n,D,Pl,hcs,_,hl,hm,hmm,_,hx⟩
 ·simp[Value.cells]at hcs;obtain⟨rfl,rfl,rfl⟩:=hcs;exact⟨[],rfl,by omega,by simp,fun h=>by omega⟩
 ·simp[Value.cells]at hcs;obtain⟨rfl,rfl,rfl⟩:=hcs;have hlm:len≤m:=by rw[hmm];split<;>omega
  have each:∀i,i<len→∃t:Int×Int,w.cell? (x.add (i*2))=some (.int .i64 t.1)∧w.cell? (x.add (i*2+1))=some (.int .i64 t.2)∧True:=by
   intro i hi;obtain⟨cs,h1,h2⟩:=hx i (by omega)
   rw[cellsVl]at h1;obtain⟨_,hlen,hcell⟩:=World.cells?_some h1;obtain⟨y0,y1,k,g0,g1⟩:=trodVl Tryd.underlying102 h2;simp only[cells3Vl]at g0 g1
   match cs,hlen with
   | [u0,u1],_=>
    obtain⟨k0,e0,-,-⟩:=DataW.trod_int Tryd.underlying3 g0;obtain⟨k1,e1,-,-⟩:=DataW.trod_int Tryd.underlying3 g1;simp at e0 e1;subst e0 e1;have f0:=hcell 0 (by simp)
    have f1:=hcell 1 (by simp)
    rw[add_add]at f0 f1;exact⟨(k0,k1),by simpa using f0,by simpa using f1,trivial⟩
  obtain⟨f,hq⟩:=choose_lt each;refine⟨(List.range len).map f,by simp,by omega,?_,fun h0=>?_⟩
  ·intro t ht;obtain⟨i,hi,rfl⟩:=List.mem_map.1 ht;exact(hq i (List.mem_range.1 hi)).2.2
  ·obtain⟨b,off,spot⟩:=x;have hspot:spot=none:=by simpa[Addr.add]using World.cell?_spot (hq 0 h0).1
   subst hspot;refine⟨b,off,rfl,?_,fun i t hi=>?_⟩
   ·have:=World.block_lt_of_cell? w _ (hq 0 h0).1;rw[addrVl]at this;exact this
   ·obtain⟨hi1,hi2⟩:=List.getElem?_eq_some_iff.1 hi;have hil:i<len:=by simpa using hi1
    have ht:t=f i:=by rw[←hi2];simp
    subst ht;have:=hq i hil;rw[addrVl,addrVl]at this;exact⟨this.1,this.2.1⟩
end
section
variable {H : Type} {enc : TypeId × Value → H} {w : World} {base : Nat} {sp : Nat → Bool} {held : Bool}
theorem kcells3:Tryd.prog.cellsOf 3=1:=by kernel_rfl
theorem kcells4:Tryd.prog.cellsOf 4=1:=by kernel_rfl
theorem kcellsIs:Tryd.prog.cellsOf 111=1:=by kernel_rfl
theorem kcellsKn:Tryd.prog.cellsOf 113=2:=by kernel_rfl
theorem kaddr(b off j:Nat):(⟨b,off,none⟩:Addr).add j=⟨b,off+j,none⟩:=by
 simp only[Addr.add];split<;>simp_all
theorem trodKn2{P:Program}{t:TypeId}{f0 f1:Field}{fuel:Nat}{cs:List Value}{x:DataW H×List MemPlace}(ht:P.underlying t=some (.struct #[f0,f1]))(h:DataW.trod enc P w base sp held fuel t cs=some x):
 ∃y0 y1 n,DataW.trod enc P w base sp held n f0.type ((cs.drop f0.offset).take (P.cellsOf f0.type))=some y0∧DataW.trod enc P w base sp held n f1.type ((cs.drop f1.offset).take (P.cellsOf f1.type))=some y1:=by
 obtain⟨xs,n,_,rfl,hl,hlen,hf⟩:=DataW.trod_struct ht h
 match xs,hlen with
 | [y0,y1],_=>exact⟨y0,y1,n,by simpa using hf 0 f0 rfl,by simpa using hf 1 f1 rfl⟩
theorem trodAr1{P:Program}{t:TypeId}{f0:Field}{fuel:Nat}{cs:List Value}{x:DataW H×List MemPlace}(ht:P.underlying t=some (.struct #[f0]))(h:DataW.trod enc P w base sp held fuel t cs=some x):
 ∃y0 n,DataW.trod enc P w base sp held n f0.type ((cs.drop f0.offset).take (P.cellsOf f0.type))=some y0:=by
 obtain⟨xs,n,_,rfl,hl,hlen,hf⟩:=DataW.trod_struct ht h
 match xs,hlen with
 | [y0],_=>exact⟨y0,n,by simpa using hf 0 f0 rfl⟩
theorem open_isl{v:Value}{fuel:Nat}{y:DataW H×List MemPlace}(hf:DataW.trod enc Tryd.prog w base sp held fuel 111 [v]=some y):∃ls,ISl w v ls:=by
 rcases open_slice Tryd.underlying111 hf with⟨hcs,_⟩|⟨x,len,c,m,n,D,Pl,hcs,h1,hl,hm,hmm,h2,hx⟩
 ·simp at hcs;subst hcs;exact⟨[],none,0,rfl,fun _=>rfl,rfl,by unfold maxLen;simp,fun h=>by simp at h⟩
 ·simp at hcs;subst hcs;have hlm:len≤m:=by rw[hmm];split<;>omega
  have each:∀i,i<len→∃t:Int,w.cell? (x.add i)=some (.int .i64 t):=by
   intro i hi;obtain⟨cs,h1,h2⟩:=hx i (by omega)
   rw[kcells3]at h1;obtain⟨_,hlen,hcell⟩:=World.cells?_some h1;obtain⟨k0,e0,-,-⟩:=DataW.trod_int Tryd.underlying3 h2;subst e0;have f0:=hcell 0 (by simp)
   rw[add_add]at f0;exact⟨k0,by simpa using f0⟩
  obtain⟨f,hq⟩:=choose_lt each;refine⟨(List.range len).map f,some x,c,by simp,(fun e=>by cases e),by simp,by simpa using by omega,fun h0=>?_⟩
  rw[List.length_map,List.length_range]at h0;obtain⟨b,off,spot⟩:=x;have hspot:spot=none:=by simpa[Addr.add]using World.cell?_spot (hq 0 h0)
  subst hspot;refine⟨b,off,rfl,?_,fun i t hi=>?_⟩
  ·have:=World.block_lt_of_cell? w _ (hq 0 h0);rw[kaddr]at this;exact this
  ·obtain⟨hi1,hi2⟩:=List.getElem?_eq_some_iff.1 hi;have hil:i<len:=by simpa using hi1
   have ht:t=f i:=by rw[←hi2];simp
   subst ht;have:=hq i hil;rw[kaddr]at this;exact this
theorem open_kns{v:Value}{fuel:Nat}{y:DataW H×List MemPlace}(hf:DataW.trod enc Tryd.prog w base sp held fuel 26 [v]=some y):∃a len cap rs,v=.slice a len cap∧KnRd w a len rs:=by
 rcases open_slice Tryd.underlying26 hf with⟨hcs,_⟩|⟨x,len,c,m,n,D,Pl,hcs,_,hl,hm,hmm,_,hx⟩
 ·simp at hcs;subst hcs;exact⟨none,0,0,[],rfl,rfl,by omega,(fun _ h=>by cases h),fun h=>by omega⟩
 ·simp at hcs;subst hcs;have hlm:len≤m:=by rw[hmm];split<;>omega
  have each:∀i,i<len→∃t:Kw,w.cell? (x.add (i*2))=some (.bool t.1)∧w.cell? (x.add (i*2+1))=some t.2.1∧ISl w t.2.1 t.2.2:=by
   intro i hi;obtain⟨cs,h1,h2⟩:=hx i (by omega)
   rw[kcellsKn]at h1;obtain⟨_,hlen,hcell⟩:=World.cells?_some h1;obtain⟨y0,y1,k,g0,g1⟩:=trodKn2 Tryd.underlying113 h2;simp only[kcells4,kcellsIs]at g0 g1
   match cs,hlen with
   | [u0,u1],_=>
    obtain⟨k0,e0,_⟩:=DataW.trod_bool Tryd.underlying4 g0;simp at e0;subst e0;obtain⟨ls,hls⟩:=open_isl (v:=u1) (by simpa using g1)
    have f0:=hcell 0 (by simp)
    have f1:=hcell 1 (by simp)
    rw[add_add]at f0 f1;exact⟨(k0,u1,ls),by simpa using f0,by simpa using f1,hls⟩
  haveI:Inhabited Kw:=⟨(false,.slice none 0 0,[])⟩
  obtain⟨f,hq⟩:=choose_lt each;refine⟨some x,len,c,(List.range len).map f,rfl,by simp,by omega,?_,fun h0=>?_⟩
  ·intro t ht;obtain⟨i,hi,rfl⟩:=List.mem_map.1 ht;exact(hq i (List.mem_range.1 hi)).2.2
  ·obtain⟨b,off,spot⟩:=x;have hspot:spot=none:=by simpa[Addr.add]using World.cell?_spot (hq 0 h0).1
   subst hspot;refine⟨b,off,rfl,?_,fun i t hi=>?_⟩
   ·have:=World.block_lt_of_cell? w _ (hq 0 h0).1;rw[kaddr]at this;exact this
   ·obtain⟨hi1,hi2⟩:=List.getElem?_eq_some_iff.1 hi;have hil:i<len:=by simpa using hi1
    have ht:t=f i:=by rw[←hi2];simp
    subst ht;have:=hq i hil;rw[kaddr,kaddr]at this;exact⟨this.1,this.2.1⟩
end
end Go.Proofs.YtpdoponghlpkcaaDoor
