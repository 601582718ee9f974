/-
  KnN; TrMath2; LkN; ILeaf
-/
import Derived.Test.YtiicghepilbgfaaGreatDoorPk1
import Derived.Test.YtiicghepilbgfaaGreatDoorPk0
set_option maxHeartbeats 400000
set_option maxRecDepth 100000
namespace Go.Proofs.YtiicghepilbgfaaGreatDoor
open Go.RowKit
open Words
theorem infoKn:(Tryz.prog.info? 176).map (fun i=>(i.zero,i.size,i.bytes))=some (some (.agg #[.bool false,.slice none 0 0]),2,32):=by kernel_rfl
theorem infoKnz:(Tryz.prog.info? 176).map (·.size)=some 2:=by kernel_rfl
abbrev Kw:=Bool×Value×List Int
def kncell(t:Kw):List Value:=[.bool t.1,t.2.1]
def kncells(l:List Kw):List Value:=l.flatMap kncell
def ktell(t:Kw):Kn:=⟨t.1,t.2.2⟩
theorem kncells_len(l:List Kw):(kncells l).length=l.length*2:=by
 induction l with
 |nil=>rfl
 |cons t l ih=>simp[kncells,kncell]at ih⊢;omega
theorem kncells_app(a b:List Kw):kncells (a++b)=kncells a++kncells b:=by simp[kncells]
theorem kncells_cons(t:Kw)(l:List Kw):kncells (t::l)=kncell t++kncells l:=by simp[kncells]
theorem kncells_at(l:List Kw)(k:Nat)(t:Kw)(h:l[k]?=some t)(j:Nat)(v:Value)(hj:(kncell t)[j]?=some v):(kncells l)[k*2+j]?=some v:=by
 have hlt:j<2:=(List.getElem?_eq_some_iff.1 hj).1
 induction l generalizing k with
 |nil=>simp at h
 |cons a l ih=>
  rw[kncells_cons];cases k with
  |zero=>
   simp at h;subst h;rw[List.getElem?_append_left (by show _<2;omega),Nat.zero_mul,Nat.zero_add]
   exact hj
  |succ k=>
   rw[List.getElem?_append_right (by show 2≤_;omega),show(k+1)*2+j-(kncell a).length=k*2+j by show _-2=_;omega]
   exact ih k (by simpa using h)
def IRow(w:World)(a:Option Addr)(len:Nat)(ls:List Int):Prop:=
 ls.length=len∧len≤maxLen∧(0<len→∃b off,a=some ⟨b,off,none⟩∧b<w.heap.size∧∀i t,ls[i]?=some t→w.cell? ⟨b,off+i,none⟩=some (.int .i64 t))
theorem IRow.below{w w':World}{a:Option Addr}{len:Nat}{ls:List Int}(h:IRow w a len ls)(hb:Below w.heap.size w w'):IRow w' a len ls:=by
 obtain⟨h1,h2,h4⟩:=h;refine⟨h1,h2,fun h0=>?_⟩
 obtain⟨b,off,e,hl,hc⟩:=h4 h0;have hs:=hb.size;exact⟨b,off,e,by omega,fun i t ht=>(hb.cell (show b<w.heap.size from hl)).trans (hc i t ht)⟩
theorem IRow.at{w:World}{a:Option Addr}{len:Nat}{ls:List Int}(h:IRow w a len ls){k:Nat}{t:Int}(hk:ls[k]?=some t):
 ∃b off,a=some ⟨b,off,none⟩∧b<w.heap.size∧w.cell? ⟨b,off+k,none⟩=some (.int .i64 t):=by
 obtain⟨h1,-,h4⟩:=h;have hl:=(List.getElem?_eq_some_iff.1 hk).1;obtain⟨b,off,e,hb,hc⟩:=h4 (by omega)
 exact⟨b,off,e,hb,hc k t hk⟩
theorem icells_get{l:List Int}{k:Nat}{x:Int}(h:l[k]?=some x):(icells l)[k]?=some (.int .i64 x):=by
 obtain⟨h1,h2⟩:=List.getElem?_eq_some_iff.1 h;rw[icells_at l k h1,h2]
def ISl(W:World)(v:Value)(ls:List Int):Prop:=∃a c,v=.slice a ls.length c∧(a=none→c=0)∧IRow W a ls.length ls
theorem ISl.below{W W':World}{v:Value}{ls:List Int}(h:ISl W v ls)(b:Below W.heap.size W W'):ISl W' v ls:=by
 obtain⟨a,c,e,h1,h2⟩:=h;exact⟨a,c,e,h1,h2.below b⟩
theorem ISl.of{lo hi:Nat}{v:Value}{ls:List Int}{W:World}(h:Sli 3 lo hi v ls.length (icells ls) W)(hm:ls.length≤maxLen)(hh:hi≤W.heap.size):ISl W v ls:=by
 rcases h with⟨rfl,h0⟩|⟨g,cap,rfl,h1,h2,h3⟩
 ·exact⟨none,0,by rw[h0],fun _=>rfl,rfl,hm,fun h=>by omega⟩
 ·refine⟨_,_,rfl,(fun e=>by cases e),rfl,hm,fun _=>⟨g,0,rfl,by omega,fun i t hi=>?_⟩⟩
  simpa using h3.cell (icells_get hi)
def KnRd(W:World)(ad:Option Addr)(len:Nat)(rs:List Kw):Prop:=
 rs.length=len∧len≤maxLen∧(∀r∈rs,ISl W r.2.1 r.2.2)∧(0<len→∃b off,ad=some ⟨b,off,none⟩∧b<W.heap.size∧∀i r,rs[i]?=some r→W.cell? ⟨b,off+i*2,none⟩=some (.bool r.1)∧W.cell? ⟨b,off+i*2+1,none⟩=some r.2.1)
theorem KnRd.below{W W':World}{ad:Option Addr}{len:Nat}{rs:List Kw}(h:KnRd W ad len rs)(hb:Below W.heap.size W W'):KnRd W' ad len rs:=by
 obtain⟨h1,h2,h3,h4⟩:=h;refine⟨h1,h2,fun r hr=>(h3 r hr).below hb,fun h0=>?_⟩
 obtain⟨b,off,e,hl,hc⟩:=h4 h0;have hs:=hb.size;refine⟨b,off,e,by omega,fun i t ht=>?_⟩
 obtain⟨c0,c1⟩:=hc i t ht;exact⟨(hb.cell (show b<W.heap.size from hl)).trans c0,(hb.cell (show b<W.heap.size from hl)).trans c1⟩
theorem KnRd.at{W:World}{ad:Option Addr}{len:Nat}{rs:List Kw}(h:KnRd W ad len rs){k:Nat}{r:Kw}(hk:rs[k]?=some r):
 ∃b off,ad=some ⟨b,off,none⟩∧b<W.heap.size∧W.cell? ⟨b,off+k*2,none⟩=some (.bool r.1)∧W.cell? ⟨b,off+k*2+1,none⟩=some r.2.1:=by
 obtain⟨h1,-,-,h4⟩:=h;have hl:=(List.getElem?_eq_some_iff.1 hk).1;obtain⟨b,off,e,hb,hc⟩:=h4 (by omega)
 obtain⟨c0,c1⟩:=hc k r hk;exact⟨b,off,e,hb,c0,c1⟩
theorem KnRd.cell{W:World}{b off len:Nat}{rs:List Kw}(h:KnRd W (some ⟨b,off,none⟩) len rs){k:Nat}{r:Kw}(hk:rs[k]?=some r):
 W.cell? ⟨b,off+k*2,none⟩=some (.bool r.1)∧W.cell? ⟨b,off+k*2+1,none⟩=some r.2.1:=by
 obtain⟨b',off',e,-,c0,c1⟩:=h.at hk;injection e with e
 injection e with e1 e2
 subst e1 e2;exact⟨c0,c1⟩
theorem KnRd.adr{W:World}{ad:Option Addr}{len:Nat}{rs:List Kw}(h:KnRd W ad len rs)(h0:0<len):∃b off,ad=some ⟨b,off,none⟩∧b<W.heap.size:=by
 obtain⟨b,off,e,hb,-⟩:=h.2.2.2 h0;exact⟨b,off,e,hb⟩
def KLone(rs:List Kw):Prop:=rs.Pairwise (fun a b=>∀g,a.2.1.ownBlock=some g→b.2.1.ownBlock≠some g)
def KOwn(W:World)(B:Nat)(v:Value)(rs:List Kw):Prop:=
 W.ownsRow B 176 2 v rs.length (kncells rs)∧(∀r∈rs,Sli 3 B W.heap.size r.2.1 r.2.2.length (icells r.2.2) W∧r.2.2.length≤maxLen)∧KLone rs
def KIn(lo hi:Nat)(v:Value)(rs:List Kw)(W:World):Prop:=
 Sli 176 lo hi v rs.length (kncells rs) W∧(∀r∈rs,Sli 3 lo hi r.2.1 r.2.2.length (icells r.2.2) W∧r.2.2.length≤maxLen)∧KLone rs∧rs.length≤maxLen
def Kns(lo hi:Nat)(v:Value)(M:List Kn):World→Prop:=fun W=>∃rs:List Kw,rs.map ktell=M∧KIn lo hi v rs W
theorem int_ne_kn{w:World}{g:Nat}{cs cs':Array Value}(h:w.heap[g]?=some (.cells cs 3 (0,0)))(h':w.heap[g]?=some (.cells cs' 176 (0,0))):False:=by
 rw[h]at h';injection h' with h'
 injection h' with _ h'
 simp at h'
theorem KOwn.down{W:World}{B B':Nat}{v:Value}{rs:List Kw}(h:KOwn W B v rs)(hB:B'≤B):KOwn W B' v rs:=
 ⟨own_lower h.1 hB,fun r hr=>⟨(h.2.1 r hr).1.dn hB,(h.2.1 r hr).2⟩,h.2.2⟩
theorem KOwn.len{W:World}{B:Nat}{v:Value}{rs:List Kw}(h:KOwn W B v rs):rs.length≤maxLen:=by
 rcases h.1.2 with⟨rfl,h0⟩|⟨g,cap,cur,rfl,-,-,h1,h2,-⟩
 ·rw[h0];unfold maxLen;omega
 ·omega
theorem KOwn.kns{W:World}{B:Nat}{v:Value}{rs:List Kw}(h:KOwn W B v rs):KIn B W.heap.size v rs W:=⟨Sli.of h.1,h.2.1,h.2.2,h.len⟩
theorem KIn.rd{W:World}{lo hi c:Nat}{ad:Option Addr}{n:Nat}{rs:List Kw}(h:KIn lo hi (.slice ad n c) rs W)(hn:rs.length=n)(hh:hi≤W.heap.size):KnRd W ad n rs:=by
 obtain⟨h1,h2,h3,h4⟩:=h;refine⟨hn,by omega,fun r hr=>ISl.of (h2 r hr).1 (h2 r hr).2 hh,fun h0=>?_⟩
 rcases h1 with⟨e,q⟩|⟨g,cap,e,q1,q2,q3⟩
 ·omega
 ·injection e with e1 e2 e3
  refine⟨g,0,e1,by omega,fun i r hi=>?_⟩
  have hc:=fun j v hj=>q3.cell (kncells_at rs i r hi j v hj)
  refine⟨?_,?_⟩
  ·simpa using hc 0 _ rfl
  ·simpa using hc 1 _ rfl
theorem KIn.loc(lo hi:Nat)(v:Value)(rs:List Kw):Loc lo hi (KIn lo hi v rs):=by
 intro w w' hk h;exact⟨Sli.loc _ _ _ _ _ _ w w' hk h.1,fun r hr=>⟨Sli.loc _ _ _ _ _ _ w w' hk (h.2.1 r hr).1,(h.2.1 r hr).2⟩,h.2.2⟩
theorem Kns.loc(lo hi:Nat)(v:Value)(M:List Kn):Loc lo hi (Kns lo hi v M):=by
 rintro w w' hk ⟨rs,h1,h2⟩;exact⟨rs,h1,KIn.loc _ _ _ _ w w' hk h2⟩
theorem Kns.form{W:World}{lo hi:Nat}{v:Value}{M:List Kn}(h:Kns lo hi v M W):∃ad c,v=.slice ad M.length c:=by
 obtain⟨rs,rfl,h1,-⟩:=h;obtain⟨ad,c,e,-⟩:=h1.form;exact⟨ad,c,by rw[e];simp⟩
theorem ar_ne{lo hi n:Nat}{v:Value}{xs:List Value}{t:TypeId}{W:World}{i:Nat}{cs:Array Value}(h:Sli t lo hi v n xs W)(q:W.heap[i]?=some (.cells cs 53 (0,0)))(ht:t≠53):v.ownBlock≠some i:=by
 intro e;obtain⟨-,-,cs',q'⟩:=h.lt i e;rw[q]at q';injection q' with q'
 injection q' with _ q'
 exact ht q'.symm
theorem KOwn.cell{W:World}{B i:Nat}{v:Value}{rs:List Kw}{cs:Array Value}(h:KOwn W B v rs)(q:W.heap[i]?=some (.cells cs 53 (0,0)))(j:Nat)(u:Value):KOwn (W.setCell ⟨i,j,none⟩ u) B v rs:=by
 have hg:=grown_cell W i j u;refine⟨h.1.kept hg (.inr ?_),fun r hr=>⟨((h.2.1 r hr).1.grown hg (fun g e e2=>?_)).up hg.size,(h.2.1 r hr).2⟩,h.2.2⟩
 ·exact ar_ne (Sli.of h.1) q (by decide)
 ·cases e2;exact ar_ne (h.2.1 r hr).1 q (by decide) e
end Go.Proofs.YtiicghepilbgfaaGreatDoor
namespace Go.Proofs.YtiicghepilbgfaaGreatDoor
namespace Words
theorem lf_nought(k:Nat)(hk:k<4):([0,0,0,0]:List Int)[k]?=some 0:=by
 match k,hk with
 |0,_|1,_|2,_|3,_=>rfl
section
variable {l : List Kn} {r : Int} {s : Nat} {n : Int}
end
end Words
end Go.Proofs.YtiicghepilbgfaaGreatDoor
namespace Go.Proofs.YtiicghepilbgfaaGreatDoor
open Go.RowKit
open Words
structure Lk where
 place:Int
 leaf:Bool
 nums:List Int
 tos:List (Option Nat)
 need:Bool
def ptr(b:Nat):Value:=.pointer (some ⟨b,0,none⟩)
def pval:Option Nat→Value
 |none=> .pointer none
 |some b=>ptr b
def pcells(l:List (Option Nat)):List Value:=l.map pval
def bcellsP(l:List Nat):List Value:=l.map ptr
def lkcells(x:Lk):List Value:=[.int .i64 x.place,.bool x.leaf]++(icells x.nums++(pcells x.tos++[.bool x.need]))
def Lk.Four(x:Lk):Prop:=x.nums.length=4∧x.tos.length=4
def LkAt(W:World)(b:Nat)(x:Lk):Prop:=W.heap[b]?=some (.cells (lkcells x).toArray 210 (0,0))∧x.Four
theorem LkAt.lt{W:World}{b:Nat}{x:Lk}(h:LkAt W b x):b<W.heap.size:=(Array.getElem?_eq_some_iff.1 h.1).1
theorem LkAt.below{W W':World}{b C:Nat}{x:Lk}(h:LkAt W b x)(hb:Below C W W')(hC:b<C):LkAt W' b x:=⟨(hb.block b hC).trans h.1,h.2⟩
theorem LkAt.blw{W W':World}{b:Nat}{x:Lk}(h:LkAt W b x)(hb:Below W.heap.size W W'):LkAt W' b x:=h.below hb h.lt
theorem LkAt.frozen{W:World}{b:Nat}{x:Lk}(h:LkAt W b x)(o:Nat):W.frozen? ⟨b,o,none⟩=false:=frozen_of_row _ _ o _ _ h.1
theorem LkAt.cell{W:World}{b k:Nat}{x:Lk}{v:Value}(h:LkAt W b x)(hk:(lkcells x)[k]?=some v):W.cell? ⟨b,k,none⟩=some v:=by
 rw[cell_of_row _ _ k _ _ _ h.1]
 simpa using hk
theorem LkAt.place{W:World}{b:Nat}{x:Lk}(h:LkAt W b x):W.cell? ⟨b,0,none⟩=some (.int .i64 x.place):=h.cell rfl
theorem LkAt.leaf{W:World}{b:Nat}{x:Lk}(h:LkAt W b x):W.cell? ⟨b,1,none⟩=some (.bool x.leaf):=h.cell rfl
theorem lk_num{x:Lk}{k:Nat}{n:Int}(hk:x.nums[k]?=some n):(lkcells x)[2+k]?=some (.int .i64 n):=by
 have hl:=(List.getElem?_eq_some_iff.1 hk).1;rw[lkcells,List.getElem?_append_right (by simp),List.getElem?_append_left (by simp[icells];omega)]
 simpa using icells_get hk
theorem lk_to{x:Lk}(h4:x.Four){k:Nat}{o:Option Nat}(hk:x.tos[k]?=some o):(lkcells x)[6+k]?=some (pval o):=by
 have hl:=(List.getElem?_eq_some_iff.1 hk).1;have h1:(icells x.nums).length=4:=by simp[icells,h4.1]
 rw[lkcells,List.getElem?_append_right (by simp;omega),List.getElem?_append_right (by rw[h1];simp;omega),List.getElem?_append_left (by rw[h1];simp[pcells];omega),h1]
 have e:6+k- [Value.int .i64 x.place,Value.bool x.leaf].length-4=k:=by simp;omega
 rw[e,pcells,List.getElem?_map,hk];rfl
theorem LkAt.num{W:World}{b k:Nat}{x:Lk}{n:Int}(h:LkAt W b x)(hk:x.nums[k]?=some n):W.cell? ⟨b,2+k,none⟩=some (.int .i64 n):=h.cell (lk_num hk)
theorem LkAt.to{W:World}{b k:Nat}{x:Lk}{o:Option Nat}(h:LkAt W b x)(hk:x.tos[k]?=some o):W.cell? ⟨b,6+k,none⟩=some (pval o):=h.cell (lk_to h.2 hk)
theorem LkAt.set{W:World}{b k:Nat}{x x':Lk}{u:Value}(h:LkAt W b x)(h4:x'.Four)(e:lkcells x'=(lkcells x).set k u):LkAt (W.setCell ⟨b,k,none⟩ u) b x':=by
 refine⟨?_,h4⟩;rw[row_set h.1,e];simp
theorem LkAt.other{W:World}{b g k:Nat}{x:Lk}(h:LkAt W b x)(hne:b≠g)(u:Value):LkAt (W.setCell ⟨g,k,none⟩ u) b x:=⟨row_set_ne h.1 hne _ _,h.2⟩
theorem LkAt.setNum{W:World}{b k:Nat}{x:Lk}(h:LkAt W b x)(hk:k<4)(n:Int):LkAt (W.setCell ⟨b,2+k,none⟩ (.int .i64 n)) b {x with nums:=x.nums.set k n}:=by
 refine h.set ⟨by simp[h.2.1],h.2.2⟩ ?_
 have h1:(icells x.nums).length=4:=by simp[icells,h.2.1]
 rw[lkcells,lkcells,List.set_append_right _ _ (by simp),List.set_append_left _ _ (by rw[h1];simp;omega)]
 have e:2+k- [Value.int .i64 x.place,Value.bool x.leaf].length=k:=by simp
 rw[e];simp[icells,List.map_set]
theorem LkAt.setTo{W:World}{b k:Nat}{x:Lk}(h:LkAt W b x)(hk:k<4)(o:Option Nat):LkAt (W.setCell ⟨b,6+k,none⟩ (pval o)) b {x with tos:=x.tos.set k o}:=by
 refine h.set ⟨h.2.1,by simp[h.2.2]⟩ ?_
 have h1:(icells x.nums).length=4:=by simp[icells,h.2.1]
 have h2:(pcells x.tos).length=4:=by simp[pcells,h.2.2]
 rw[lkcells,lkcells,List.set_append_right _ _ (by simp;omega),List.set_append_right _ _ (by rw[h1];simp;omega),List.set_append_left _ _ (by rw[h1,h2];simp;omega),h1]
 have e:6+k- [Value.int .i64 x.place,Value.bool x.leaf].length-4=k:=by simp;omega
 rw[e];simp[pcells,List.map_set]
theorem inumAt(b:Nat)(x:Lk)(s:Nat)(v:Int)(w:World)(hs:s≤15)(h:LkAt w b x)(hv:(∃k,k=s/4∧x.tos[k]?=some none∧v=0)∨∃c y,x.tos[s/4]?=some (some c)∧LkAt w c y∧y.nums[s % 4]?=some v):
 Calls Tryz.prog 109 #[ptr b,.int .i64 s] w fun e w'=>e=.returned (.int .i64 v)∧w'=w:=by
 obtain⟨q,hq⟩:∃q,s/4=q:=⟨_,rfl⟩;obtain⟨t,ht⟩:∃t,s % 4=t:=⟨_,rfl⟩;rw[hq]at hv;rw[ht]at hv;have tq:(s:Int).tdiv 4=(q:Int):=by rw[Int.tdiv_eq_ediv_of_nonneg (by omega)];omega
 have tt:(s:Int).tmod 4=(t:Int):=by rw[Int.tmod_eq_emod_of_nonneg (by omega)];omega
 have tq2:(s:Int)/4=(q:Int):=by omega
 have tt2:(s:Int) % 4=(t:Int):=by omega
 have q0:(0:Int)≤q:=by omega
 have q4:(q:Int)<4:=by omega
 have t0:(0:Int)≤t:=by omega
 have t4:(t:Int)<4:=by omega
 rcases hv with⟨k,rfl,hk,rfl⟩|⟨c,y,hk,hy,hn⟩
 ·have c1:w.cell? ⟨b,6+k,none⟩=some (.pointer none):=h.to hk;clear h hk hq ht;unfold ptr;go_enter Tryz.func109,Tryz.ntmps109;go_wp2;go_ret;exact⟨rfl,rfl⟩
 ·have c1:w.cell? ⟨b,6+q,none⟩=some (.pointer (some ⟨c,0,none⟩)):=h.to hk;have c2:w.cell? ⟨c,2+t,none⟩=some (.int .i64 v):=hy.num hn;clear h hk hq ht hy hn;unfold ptr;go_enter Tryz.func109,Tryz.ntmps109;go_wp2;go_ret;exact⟨rfl,rfl⟩
def PRow(W:World)(fa:Option Addr)(n:Nat)(bs:List Nat):Prop:=bs.length=n∧n≤maxLen∧(0<n→∃g,fa=some ⟨g,0,none⟩∧g<W.heap.size∧∀(i b:Nat),bs[i]?=some b→W.cell? ⟨g,i,none⟩=some (ptr b))
theorem PRow.below{W W':World}{fa:Option Addr}{n:Nat}{bs:List Nat}(h:PRow W fa n bs)(hb:Below W.heap.size W W'):PRow W' fa n bs:=by
 obtain⟨h1,h2,h3⟩:=h;refine⟨h1,h2,fun h0=>?_⟩
 obtain⟨g,e,hg,hc⟩:=h3 h0;have:=hb.size;exact⟨g,e,by omega,fun i b hi=>(hb.cell (show g<W.heap.size from hg)).trans (hc i b hi)⟩
theorem PRow.at{W:World}{fa:Option Addr}{n:Nat}{bs:List Nat}(h:PRow W fa n bs){i b:Nat}(hi:bs[i]?=some b):∃g,fa=some ⟨g,0,none⟩∧g<W.heap.size∧W.cell? ⟨g,i,none⟩=some (ptr b):=by
 have:=(List.getElem?_eq_some_iff.1 hi).1;obtain⟨g,e,hg,hc⟩:=h.2.2 (by have:=h.1;omega)
 exact⟨g,e,hg,hc i b hi⟩
theorem bcellsP_get{l:List Nat}{k b:Nat}(h:l[k]?=some b):(bcellsP l)[k]?=some (ptr b):=by rw[bcellsP,List.getElem?_map,h];rfl
theorem bcellsP_snoc(l:List Nat)(b:Nat):bcellsP l++[ptr b]=bcellsP (l++[b]):=by simp[bcellsP]
theorem PRow.of{W:World}{B:Nat}{v:Value}{bs:List Nat}(h:W.ownsRow B 178 1 v bs.length (bcellsP bs)):∃fa c,v=.slice fa bs.length c∧PRow W fa bs.length bs:=by
 rcases h.2 with⟨rfl,h0⟩|⟨g,cap,cur,rfl,h1,h2,h3,h4,h5,h6⟩
 ·exact⟨none,0,by rw[h0],rfl,by rw[h0];unfold maxLen;omega,fun h=>by omega⟩
 ·refine⟨_,_,rfl,rfl,by omega,fun _=>⟨g,rfl,(Array.getElem?_eq_some_iff.1 h2).1,fun i b hi=>?_⟩⟩
  rw[←addr_at];exact h.cells (g:=g) rfl i _ (bcellsP_get hi)
def FAt(W:World)(bs:List Nat)(xs:List Lk):Prop:=bs.length=xs.length∧∀(i b:Nat) (x:Lk),bs[i]?=some b→xs[i]?=some x→LkAt W b x
theorem FAt.below{W W':World}{bs:List Nat}{xs:List Lk}(h:FAt W bs xs)(hb:Below W.heap.size W W'):FAt W' bs xs:=⟨h.1,fun i b x h1 h2=>(h.2 i b x h1 h2).blw hb⟩
theorem FAt.get{W:World}{bs:List Nat}{xs:List Lk}(h:FAt W bs xs){i:Nat}{x:Lk}(hx:xs[i]?=some x):∃b,bs[i]?=some b∧LkAt W b x:=by
 have:=(List.getElem?_eq_some_iff.1 hx).1;exact⟨_,List.getElem?_eq_getElem (by rw[h.1];exact this),h.2 i _ x (List.getElem?_eq_getElem (by rw[h.1];exact this)) hx⟩
theorem FAt.nil(W:World):FAt W [] []:=⟨rfl,fun _ _ _ h=>by simp at h⟩
def leafP(bs:List Nat)(xs:List Lk)(p:Int):Option Nat:=if p<0 then none else(xs[p.toNat]?).bind (fun x=>if x.leaf=true then bs[p.toNat]? else none)
theorem ileafAt(fa:Option Addr)(n c:Nat)(bs:List Nat)(xs:List Lk)(p:Int)(w:World)(hr:PRow w fa n bs)(hf:FAt w bs xs):
 Calls Tryz.prog 161 #[.slice fa n c,.int .i64 p] w fun e w'=>e=.returned (pval (leafP bs xs p))∧w'=w:=by
 have hl:xs.length=n:=by rw[←hf.1];exact hr.1
 by_cases h0:p<0
 ·have E:Hid (leafP bs xs p=none):=if_pos h0;rw[E.out];clear hr hf hl E;go_enter Tryz.func161,Tryz.ntmps161;go_wp2;go_ret;exact⟨rfl,rfl⟩
 ·obtain⟨m,rfl⟩:∃m:Nat,p=(m:Int):=⟨p.toNat,by omega⟩
  by_cases h1:(n:Int)≤m
  ·have E:Hid (leafP bs xs (m:Int)=none):=by
    show _=_;rw[leafP,if_neg h0,Int.toNat_natCast,List.getElem?_eq_none (by omega)]
    rfl
   rw[E.out];clear hr hf hl E;go_enter Tryz.func161,Tryz.ntmps161;go_wp2;go_ret;exact⟨rfl,rfl⟩
  ·obtain⟨x,hx⟩:∃x,xs[m]?=some x:=⟨_,List.getElem?_eq_getElem (by omega)⟩
   obtain⟨b,hb,ha⟩:=hf.get hx;obtain⟨g,rfl,-,hc⟩:=hr.at hb;have c1:=ha.leaf;unfold ptr at hc;have m0:(0:Int)≤m:=by omega
   have mn:(m:Int)<n:=by omega
   have E:Hid (leafP bs xs (m:Int)=if x.leaf=true then some b else none):=by
    show _=_;rw[leafP,if_neg h0,Int.toNat_natCast,hx,hb];rfl
   rw[E.out];clear hr hf hl E ha hb hx h0 h1;cases hxl:x.leaf with
   |true=>
    rw[hxl]at c1;clear hxl;go_enter Tryz.func161,Tryz.ntmps161;go_wp2;go_ret;exact⟨rfl,rfl⟩
   |false=>
    rw[hxl]at c1;clear hxl;go_enter Tryz.func161,Tryz.ntmps161;go_wp2;go_ret;exact⟨rfl,rfl⟩
def lkNone:Lk:=⟨-1,false,[0,0,0,0],[none,none,none,none],false⟩
theorem itree_new(fv:Value)(w:World):
 Calls Tryz.prog 128 #[fv,.int .i64 (-1)] w fun e w'=>e=.returned (ptr w.heap.size)∧LkAt w' w.heap.size lkNone∧Below w.heap.size w w':=by
 go_enter Tryz.func128,Tryz.ntmps128;go_wp2;go_ret;exact⟨rfl,⟨heap_alloc_new w _,rfl,rfl⟩,(Below.refl _ _).alloc (Nat.le_refl _) _⟩
theorem itree_at(fa:Option Addr)(n c:Nat)(bs:List Nat)(xs:List Lk)(m b:Nat)(x:Lk)(w:World)(hr:PRow w fa n bs)(hf:FAt w bs xs)(hx:xs[m]?=some x)(hb:bs[m]?=some b)(hl:x.leaf=false):
 Calls Tryz.prog 128 #[.slice fa n c,.int .i64 m] w fun e w'=>e=.returned (ptr b)∧w'=w:=by
 have hlt:=(List.getElem?_eq_some_iff.1 hb).1;rw[hr.1]at hlt;obtain⟨g,rfl,-,hc⟩:=hr.at hb;have c1:=(hf.2 m b x hb hx).leaf;rw[hl]at c1;unfold ptr at hc⊢;have m0:(0:Int)≤m:=by omega
 have mn:(m:Int)<n:=by omega
 have m1:((m:Int)== -1)=false:=by rw[beq_eq_false_iff_ne];omega
 clear hr hf hx hb hl hlt;go_enter Tryz.func128,Tryz.ntmps128;go_wp2;go_ret;exact⟨rfl,rfl⟩
theorem itree_no(fa:Option Addr)(n c:Nat)(bs:List Nat)(xs:List Lk)(r:Int)(w:World)(hr:PRow w fa n bs)(hf:FAt w bs xs)(h1:r≠-1)(h2:r<0∨(n:Int)≤r∨∃x,xs[r.toNat]?=some x∧x.leaf=true):
 Calls Tryz.prog 128 #[.slice fa n c,.int .i64 r] w fun e w'=>e=.returned (.pointer none)∧w'=w:=by
 have m1:(r== -1)=false:=by rw[beq_eq_false_iff_ne];exact h1
 by_cases h0:r<0
 ·clear hr hf h2 h1;go_enter Tryz.func128,Tryz.ntmps128;go_wp2;go_ret;exact⟨rfl,rfl⟩
 ·by_cases h3:(n:Int)≤r
  ·clear hr hf h2 h1;go_enter Tryz.func128,Tryz.ntmps128;go_wp2;go_ret;exact⟨rfl,rfl⟩
  ·obtain⟨x,hx,hl⟩:∃x,xs[r.toNat]?=some x∧x.leaf=true:=by
    rcases h2 with h|h|h
    ·omega
    ·omega
    ·exact h
   obtain⟨m,rfl⟩:∃m:Nat,r=(m:Int):=⟨r.toNat,by omega⟩
   rw[Int.toNat_natCast]at hx;obtain⟨b,hb,ha⟩:=hf.get hx;obtain⟨g,rfl,-,hc⟩:=hr.at hb;have c1:=ha.leaf;rw[hl]at c1;unfold ptr at hc;have m0:(0:Int)≤m:=by omega
   have mn:(m:Int)<n:=by omega
   clear hr hf hx hb hl ha h2 h1 h0 h3;go_enter Tryz.func128,Tryz.ntmps128;go_wp2;go_ret;exact⟨rfl,rfl⟩
end Go.Proofs.YtiicghepilbgfaaGreatDoor
