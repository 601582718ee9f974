/-
  ISmall; INext; BkP; IBlk; IOk; IUse; After; IProg; AfterW; IWipe; StRd; CeVl; VlRow; MtConv; HexMath; DecMath; MarkTx; Flt; SliL
-/
import Derived.Test.YtpdoponghlpkcaaDoorPk5
import Derived.Test.YtpdoponghlpkcaaDoorPk2
import Derived.Test.YtpdoponghlpkcaaDoorPk7
import Derived.Test.YtpdoponghlpkcaaDoorPk6
import Derived.Deep.AppendLies
import Derived.Test.YtpdoponghlpkcaaDoorPk3
import Derived.Test.YtpdoponghlpkcaaDoorPk0
import Derived.Test.YtpdoponghlpkcaaDoorPk4
import Derived.Lib.ItoaNum
import Derived.Lib.ItoaMem
import Derived.Lib.ItoaLen
set_option maxRecDepth 100000
namespace Go.Proofs.YtpdoponghlpkcaaDoor
open Go.RowKit
def RdB(w:World)(v:Value)(bs:List Bk):Prop:=∃rs:List Rw,rs.map tellOf=bs∧FlashRd w v rs
def Sml(bs:List Bk):Prop:=bs.length≤1048576∧∀r∈bs,r.2.2.length≤1048576∧∀t∈r.2.2,t.2.size≤1048576
theorem RdB.below{w w':World}{v:Value}{bs:List Bk}(h:RdB w v bs)(hb:Below w.heap.size w w'):RdB w' v bs:=by
 obtain⟨rs,e,h⟩:=h;exact⟨rs,e,h.below hb⟩
theorem RdB.form{w:World}{v:Value}{bs:List Bk}(h:RdB w v bs):∃ad cap,v=.slice ad bs.length cap:=by
 obtain⟨rs,rfl,vd,vc,e,-⟩:=h;exact⟨vd,vc,by rw[e,List.length_map]⟩
theorem Fla.rdb{w:World}{lo hi:Nat}{v:Value}{bs:List Bk}(h:Fla lo hi v bs w):RdB w v bs:=by
 obtain⟨ss,e,h⟩:=h;exact⟨ss,e,h.rd⟩
theorem RdB.lens{w:World}{v:Value}{bs:List Bk}(h:RdB w v bs)(hs:Sml bs):∃rs:List Rw,rs.map tellOf=bs∧FlashRd w v rs∧rs.length≤1048576∧(∀r∈rs,r.2.2.2.length≤1048576)∧TxB rs:=by
 obtain⟨rs,rfl,h⟩:=h;refine⟨rs,rfl,h,by have:=hs.1;rwa [List.length_map]at this,fun r hr=>(hs.2 _ (List.mem_map_of_mem (f:=tellOf) hr)).1,fun r hr t ht=>(hs.2 _ (List.mem_map_of_mem (f:=tellOf) hr)).2 t ht⟩
def vlcell(t:Int×Int):List Value:=[.int .i64 t.1,.int .i64 t.2]
def vlcells(l:List (Int×Int)):List Value:=l.flatMap vlcell
theorem vlcells_len(l:List (Int×Int)):(vlcells l).length=l.length*2:=by
 induction l with
 |nil=>rfl
 |cons t l ih=>simp[vlcells,vlcell]at ih⊢;omega
theorem vlcells_app(a b:List (Int×Int)):vlcells (a++b)=vlcells a++vlcells b:=by simp[vlcells]
theorem vlcells_cons(t:Int×Int)(l:List (Int×Int)):vlcells (t::l)=vlcell t++vlcells l:=by simp[vlcells]
theorem vlcells_at(l:List (Int×Int))(k:Nat)(t:Int×Int)(h:l[k]?=some t)(j:Nat)(v:Value)(hj:(vlcell t)[j]?=some v):(vlcells l)[k*2+j]?=some v:=by
 have hlt:j<2:=(List.getElem?_eq_some_iff.1 hj).1
 induction l generalizing k with
 |nil=>simp at h
 |cons a l ih=>
  rw[vlcells_cons];cases k with
  |zero=>
   simp at h;subst h;rw[List.getElem?_append_left (by show _<2;omega),Nat.zero_mul,Nat.zero_add]
   exact hj
  |succ k=>
   rw[List.getElem?_append_right (by show 2≤_;omega),show(k+1)*2+j-(vlcell a).length=k*2+j by show _-2=_;omega]
   exact ih k (by simpa using h)
theorem infoVl:(Tryd.prog.info? 100).map (fun i=>(i.zero,i.size,i.bytes))=some (some (.agg #[.int .i64 0,.int .i64 0]),2,16):=by kernel_rfl
theorem infoVlz:(Tryd.prog.info? 100).map (·.size)=some 2:=by kernel_rfl
def VlRow(w:World)(a:Option Addr)(len:Nat)(ls:List (Int×Int)):Prop:=
 ls.length=len∧len≤maxLen∧(∀t∈ls,True)∧(0<len→∃b off,a=some ⟨b,off,none⟩∧b<w.heap.size∧∀i t,ls[i]?=some t→w.cell? ⟨b,off+i*2,none⟩=some (.int .i64 t.1)∧w.cell? ⟨b,off+i*2+1,none⟩=some (.int .i64 t.2))
theorem VlRow.below{w w':World}{a:Option Addr}{len:Nat}{ls:List (Int×Int)}(h:VlRow w a len ls)(hb:Below w.heap.size w w'):VlRow w' a len ls:=by
 obtain⟨h1,h2,h3,h4⟩:=h;refine⟨h1,h2,h3,fun h0=>?_⟩
 obtain⟨b,off,e,hl,hc⟩:=h4 h0;have hs:=hb.size;refine⟨b,off,e,by omega,fun i t ht=>?_⟩
 obtain⟨c0,c1⟩:=hc i t ht;exact⟨(hb.cell (show b<w.heap.size from hl)).trans c0,(hb.cell (show b<w.heap.size from hl)).trans c1⟩
def Flt(t:TypeId)(g:Nat)(xs:List Value):World→Prop:=fun W=>∃cs:Array Value,W.heap[g]?=some (.cells cs t (0,0))∧∀(i:Nat) (v:Value),xs[i]?=some v→cs[i]?=some v
theorem Flt.loc(t:TypeId)(g:Nat)(xs:List Value):Loc g (g+1) (Flt t g xs):=by
 rintro w w' hk ⟨cs,h1,h2⟩;exact⟨cs,(hk g (Nat.le_refl _) (by omega)).trans h1,h2⟩
theorem Flt.cell{t:TypeId}{g:Nat}{xs:List Value}{w:World}(h:Flt t g xs w){k:Nat}{v:Value}(hk:xs[k]?=some v):w.cell? ⟨g,k,none⟩=some v:=by
 obtain⟨cs,h1,h2⟩:=h;rw[cell_of_row _ _ k _ _ _ h1];exact h2 k v hk
theorem Flt.below{t:TypeId}{g:Nat}{xs:List Value}{w w':World}(h:Flt t g xs w)(hb:Below w.heap.size w w'):Flt t g xs w':=by
 have hlt:g<w.heap.size:=by obtain⟨cs,h1,-⟩:=h;exact(Array.getElem?_eq_some_iff.1 h1).1
 exact Flt.loc t g xs w w' (fun q q1 q2=>hb.block q (by omega)) h
def Sli(t:TypeId)(lo hi:Nat)(v:Value)(n:Nat)(xs:List Value):World→Prop:=fun W=>(v=.slice none 0 0∧n=0)∨∃g cap,v=.slice (some ⟨g,0,none⟩) n cap∧lo≤g∧g<hi∧Flt t g xs W
theorem Sli.loc(t:TypeId)(lo hi:Nat)(v:Value)(n:Nat)(xs:List Value):Loc lo hi (Sli t lo hi v n xs):=by
 rintro w w' hk (h|⟨g,cap,h1,h2,h3,h4⟩)
 ·exact Or.inl h
 ·exact Or.inr ⟨g,cap,h1,h2,h3,Flt.loc t g xs w w' (fun q q1 q2=>hk q (by omega) (by omega)) h4⟩
theorem Sli.form{t:TypeId}{lo hi n:Nat}{v:Value}{xs:List Value}{w:World}(h:Sli t lo hi v n xs w):∃ad cap,v=.slice ad n cap∧(0<n→∃g,ad=some ⟨g,0,none⟩∧lo≤g∧g<hi):=by
 rcases h with⟨h1,h2⟩|⟨g,cap,h1,h2,h3,-⟩
 ·exact⟨none,0,by rw[h1,h2],fun h=>by omega⟩
 ·exact⟨_,cap,h1,fun _=>⟨g,rfl,h2,h3⟩⟩
theorem Sli.flt{t:TypeId}{lo hi n g cap:Nat}{xs:List Value}{w:World}(h:Sli t lo hi (.slice (some ⟨g,0,none⟩) n cap) n xs w):Flt t g xs w:=by
 rcases h with⟨h1,-⟩|⟨g',cap',h1,-,-,h4⟩
 ·cases h1
 ·injection h1 with a
  injection a with a
  injection a with a
  subst a;exact h4
theorem Sli.of{t:TypeId}{size lo n:Nat}{v:Value}{xs:List Value}{w:World}(h:w.ownsRow lo t size v n xs):Sli t lo w.heap.size v n xs w:=by
 have hlt:=h.lt;rcases h.2 with⟨h1,h2⟩|⟨g,cap,cur,rfl,h2,h3,h4,h5,h6,h7⟩
 ·exact Or.inl ⟨h1,h2⟩
 ·refine Or.inr ⟨g,cap,rfl,h2,(hlt g rfl).2,cur,h3,fun i x hx=>?_⟩
  rw[←h7]at hx;obtain⟨h8,h9⟩:=List.getElem?_eq_some_iff.1 hx;rw[List.getElem_take]at h9;rw[List.length_take]at h8;rw[←Array.getElem?_toList,List.getElem?_eq_some_iff];exact⟨by omega,h9⟩
theorem Sli.up{t:TypeId}{lo hi hi' n:Nat}{v:Value}{xs:List Value}{w:World}(h:Sli t lo hi v n xs w)(hh:hi≤hi'):Sli t lo hi' v n xs w:=by
 rcases h with h|⟨g,cap,e,h1,h2,h3⟩
 ·exact .inl h
 ·exact .inr ⟨g,cap,e,h1,by omega,h3⟩
theorem Sli.dn{t:TypeId}{lo lo' hi n:Nat}{v:Value}{xs:List Value}{w:World}(h:Sli t lo hi v n xs w)(hh:lo'≤lo):Sli t lo' hi v n xs w:=by
 rcases h with h|⟨g,cap,e,h1,h2,h3⟩
 ·exact .inl h
 ·exact .inr ⟨g,cap,e,by omega,h2,h3⟩
theorem Sli.blw{t:TypeId}{lo hi n:Nat}{v:Value}{xs:List Value}{w w':World}(h:Sli t lo hi v n xs w)(hb:Below w.heap.size w w'):Sli t lo hi v n xs w':=by
 rcases h with h|⟨g,cap,e,h1,h2,h3⟩
 ·exact .inl h
 ·exact .inr ⟨g,cap,e,h1,h2,h3.below hb⟩
theorem Sli.lt{t:TypeId}{lo hi n:Nat}{v:Value}{xs:List Value}{w:World}(h:Sli t lo hi v n xs w):∀g,v.ownBlock=some g→lo≤g∧g<hi∧∃cs,w.heap[g]?=some (.cells cs t (0,0)):=by
 intro g hg;rcases h with⟨rfl,-⟩|⟨g',cap,rfl,h1,h2,cs,h3,-⟩
 ·cases hg
 ·simp only[Value.ownBlock,Option.some.injEq]at hg;subst hg;exact⟨h1,h2,cs,h3⟩
theorem Sli.grown{t:TypeId}{lo hi n:Nat}{v:Value}{xs:List Value}{w y:World}{row:Option Nat}(h:Sli t lo hi v n xs w)(hg:w.grownBy y row)(hr:∀g,v.ownBlock=some g→row≠some g):Sli t lo hi v n xs y:=by
 rcases h with h|⟨g,cap,rfl,h1,h2,cs,h3,h4⟩
 ·exact .inl h
 ·exact .inr ⟨g,cap,rfl,h1,h2,cs,(hg.block g (Array.getElem?_eq_some_iff.1 h3).1 (fun e=>hr g rfl e.symm)).trans h3,h4⟩
theorem own_kind{w:World}{B:Nat}{e:TypeId}{size n:Nat}{v:Value}{xs:List Value}(h:w.ownsRow B e size v n xs):∀g,v.ownBlock=some g→B≤g∧g<w.heap.size∧∃cs,w.heap[g]?=some (.cells cs e (0,0)):=by
 intro g hg;obtain⟨h1,h2⟩:=h.lt g hg;rcases h.2 with⟨rfl,-⟩|⟨g',cap,cur,rfl,-,q,-⟩
 ·cases hg
 ·simp only[Value.ownBlock,Option.some.injEq]at hg;subst hg;exact⟨h1,h2,_,q⟩
end Go.Proofs.YtpdoponghlpkcaaDoor
