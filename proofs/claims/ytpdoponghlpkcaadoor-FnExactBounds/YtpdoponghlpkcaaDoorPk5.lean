/-
  FRow; FOf; Tk; Fla; FMath
-/
import Derived.Test.YtpdoponghlpkcaaDoorPk0
import Derived.Test.YtpdoponghlpkcaaDoorPk4
import Derived.Test.YtpdoponghlpkcaaDoorPk2
import Derived.Deep.MidRow
namespace Go.Proofs.YtpdoponghlpkcaaDoor
open Go.RowKit
theorem infoLeaf:(Tryd.prog.info? 66).map (fun i=>(i.zero,i.size,i.bytes))=some (some (.agg #[.int .i64 0,.string ⟨#[]⟩]),2,24):=by kernel_rfl
theorem infoBlock:(Tryd.prog.info? 54).map (fun i=>(i.zero,i.size,i.bytes))=some (some (.agg #[.bool false,.int .i64 0,.slice none 0 0]),3,40):=by kernel_rfl
def lcell(t:Int×ByteArray):List Value:=[.int .i64 t.1,.string t.2]
def lcells(l:List (Int×ByteArray)):List Value:=l.flatMap lcell
theorem lcells_len(l:List (Int×ByteArray)):(lcells l).length=l.length*2:=by
 induction l with
 |nil=>rfl
 |cons t l ih=>simp[lcells,lcell]at ih⊢;omega
theorem lcells_app(a b:List (Int×ByteArray)):lcells (a++b)=lcells a++lcells b:=by simp[lcells]
theorem lcells_cons(t:Int×ByteArray)(l:List (Int×ByteArray)):lcells (t::l)=[.int .i64 t.1,.string t.2]++lcells l:=by simp[lcells,lcell]
theorem lcells_at(l:List (Int×ByteArray))(k:Nat)(t:Int×ByteArray)(h:l[k]?=some t):(lcells l)[k*2]?=some (.int .i64 t.1)∧(lcells l)[k*2+1]?=some (.string t.2):=by
 induction l generalizing k with
 |nil=>simp at h
 |cons a l ih=>
  cases k with
  |zero=>
   simp at h;subst h;exact⟨rfl,rfl⟩
  |succ k=>
   have:=ih k (by simpa using h)
   rw[lcells_cons,List.getElem?_append_right (by simp;omega),List.getElem?_append_right (by simp;omega)]
   simp only[List.length_cons,List.length_nil];rw[show(k+1)*2-(0+1+1)=k*2 by omega,show(k+1)*2+1-(0+1+1)=k*2+1 by omega]
   exact this
theorem lown_cells{w:World}{B n cap g k:Nat}{l:List (Int×ByteArray)}{t:Int×ByteArray}(h:w.ownsRow B 66 2 (.slice (some ⟨g,0,none⟩) n cap) n (lcells l))(ht:l[k]?=some t):
 w.cell? ⟨g,k*2,none⟩=some (.int .i64 t.1)∧w.cell? ⟨g,k*2+1,none⟩=some (.string t.2):=by
 obtain⟨h1,h2⟩:=lcells_at l k t ht;have c1:=h.cells (g:=g) rfl _ _ h1;have c2:=h.cells (g:=g) rfl _ _ h2;rw[addr_at]at c1 c2;exact⟨c1,c2⟩
def kcell(t:Bool×Int×Value):List Value:=[.bool t.1,.int .i64 t.2.1,t.2.2]
def kcells(l:List (Bool×Int×Value)):List Value:=l.flatMap kcell
theorem kcells_len(l:List (Bool×Int×Value)):(kcells l).length=l.length*3:=by
 induction l with
 |nil=>rfl
 |cons t l ih=>simp[kcells,kcell]at ih⊢;omega
theorem kcells_app(a b:List (Bool×Int×Value)):kcells (a++b)=kcells a++kcells b:=by simp[kcells]
theorem kcells_cons(t:Bool×Int×Value)(l:List (Bool×Int×Value)):kcells (t::l)=[.bool t.1,.int .i64 t.2.1,t.2.2]++kcells l:=by simp[kcells,kcell]
theorem kcells_at(l:List (Bool×Int×Value))(k:Nat)(t:Bool×Int×Value)(h:l[k]?=some t):(kcells l)[k*3]?=some (.bool t.1)∧(kcells l)[k*3+1]?=some (.int .i64 t.2.1)∧(kcells l)[k*3+2]?=some t.2.2:=by
 induction l generalizing k with
 |nil=>simp at h
 |cons a l ih=>
  cases k with
  |zero=>
   simp at h;subst h;exact⟨rfl,rfl,rfl⟩
  |succ k=>
   have:=ih k (by simpa using h)
   rw[kcells_cons,List.getElem?_append_right (by simp;omega),List.getElem?_append_right (by simp;omega),List.getElem?_append_right (by simp;omega)]
   simp only[List.length_cons,List.length_nil];rw[show(k+1)*3-(0+1+1+1)=k*3 by omega,show(k+1)*3+1-(0+1+1+1)=k*3+1 by omega,show(k+1)*3+2-(0+1+1+1)=k*3+2 by omega]
   exact this
theorem kown_cells{w:World}{B n cap g k:Nat}{l:List (Bool×Int×Value)}{t:Bool×Int×Value}(h:w.ownsRow B 54 3 (.slice (some ⟨g,0,none⟩) n cap) n (kcells l))(ht:l[k]?=some t):
 w.cell? ⟨g,k*3,none⟩=some (.bool t.1)∧w.cell? ⟨g,k*3+1,none⟩=some (.int .i64 t.2.1)∧w.cell? ⟨g,k*3+2,none⟩=some t.2.2:=by
 obtain⟨h1,h2,h3⟩:=kcells_at l k t ht;have c1:=h.cells (g:=g) rfl _ _ h1;have c2:=h.cells (g:=g) rfl _ _ h2;have c3:=h.cells (g:=g) rfl _ _ h3;rw[addr_at]at c1 c2 c3;exact⟨c1,c2,c3⟩
theorem frow_form{w:World}{B:Nat}{e:TypeId}{z:Nat}{v:Value}{n:Nat}{xs:List Value}(h:w.ownsRow B e z v n xs):
 ∃ad cap,v=.slice ad n cap∧n≤cap∧cap≤maxLen∧(0<n→∃g,ad=some ⟨g,0,none⟩∧B≤g∧g<w.heap.size):=by
 have hlt:=h.lt;rcases h.2 with⟨h1,h2⟩|⟨g,cap,cur,h1,-,-,h3,h4,-⟩
 ·exact⟨none,0,by rw[h1,h2],by omega,by unfold maxLen;omega,fun h=>by omega⟩
 ·subst h1;exact⟨_,cap,rfl,h3,h4,fun _=>⟨g,rfl,hlt g rfl⟩⟩
abbrev Rw:=Bool×Int×Value×List (Int×ByteArray)
def cellOf(r:Rw):Bool×Int×Value:=(r.1,r.2.1,r.2.2.1)
def tellOf(r:Rw):Bk:=(r.1,r.2.1,r.2.2.2)
def LeafIn(w:World)(lo hi:Nat)(v:Value)(ls:List (Int×ByteArray)):Prop:=
 w.ownsRow lo 66 2 v ls.length (lcells ls)∧∀g,v.ownBlock=some g→g<hi
def FlashIn(w:World)(lo hi:Nat)(v:Value)(rs:List Rw):Prop:=
 w.ownsRow lo 54 3 v rs.length (kcells (rs.map cellOf))∧(∀g,v.ownBlock=some g→g<hi)∧(∀r∈rs,LeafIn w lo hi r.2.2.1 r.2.2.2)∧
  (rs.map fun r=>r.2.2.1).Pairwise (fun a b=>a.ownBlock=none∨a.ownBlock≠b.ownBlock)
theorem own_blocks{w w':World}{lo hi:Nat}{e:TypeId}{size:Nat}{v:Value}{n:Nat}{xs:List Value}(h:w.ownsRow lo e size v n xs)(hh:∀g,v.ownBlock=some g→g<hi)(hk:∀g,lo≤g→g<hi→w'.heap[g]?=w.heap[g]?):w'.ownsRow lo e size v n xs:=by
 have hlt:=h.lt;obtain⟨h1,h2⟩:=h;refine⟨h1,?_⟩;rcases h2 with h|⟨g,cap,cur,rfl,a2,a3,a4⟩
 ·exact .inl h
 ·exact .inr ⟨g,cap,cur,rfl,a2,by rw[hk g a2 (hh g rfl)];exact a3,a4⟩
theorem LeafIn.kept{w w':World}{lo hi:Nat}{v:Value}{ls:List (Int×ByteArray)}(h:LeafIn w lo hi v ls)(hk:∀g,lo≤g→g<hi→w'.heap[g]?=w.heap[g]?):LeafIn w' lo hi v ls:=⟨own_blocks h.1 h.2 hk,h.2⟩
theorem FlashIn.kept{w w':World}{lo hi:Nat}{v:Value}{rs:List Rw}(h:FlashIn w lo hi v rs)(hk:∀g,lo≤g→g<hi→w'.heap[g]?=w.heap[g]?):FlashIn w' lo hi v rs:=
 ⟨own_blocks h.1 h.2.1 hk,h.2.1,fun r hr=>(h.2.2.1 r hr).kept hk,h.2.2.2⟩
theorem FlashIn.below{w w':World}{lo hi:Nat}{v:Value}{rs:List Rw}(h:FlashIn w lo hi v rs)(hb:Below w.heap.size w w')(hh:hi≤w.heap.size):FlashIn w' lo hi v rs:=h.kept (fun g _ hg=>hb.block g (by omega))
theorem LeafIn.below{w w':World}{lo hi:Nat}{v:Value}{ls:List (Int×ByteArray)}(h:LeafIn w lo hi v ls)(hb:Below w.heap.size w w')(hh:hi≤w.heap.size):LeafIn w' lo hi v ls:=h.kept (fun g _ hg=>hb.block g (by omega))
theorem LeafIn.up{w:World}{lo hi hi':Nat}{v:Value}{ls:List (Int×ByteArray)}(h:LeafIn w lo hi v ls)(hh:hi≤hi'):LeafIn w lo hi' v ls:=⟨h.1,fun g hg=>Nat.lt_of_lt_of_le (h.2 g hg) hh⟩
theorem leaf_not_block{w:World}{B B':Nat}{u v:Value}{n m:Nat}{xs ys:List Value}(hu:w.ownsRow B 54 3 u n xs)(hv:w.ownsRow B' 66 2 v m ys):∀g,u.ownBlock=some g→v.ownBlock≠some g:=by
 intro g h1 h2;rcases hu.2 with⟨rfl,-⟩|⟨g1,cap,cur,rfl,-,e1,-⟩
 ·cases h1
 ·rcases hv.2 with⟨rfl,-⟩|⟨g2,cap2,cur2,rfl,-,e2,-⟩
  ·cases h2
  ·simp[Value.ownBlock]at h1 h2;subst h1 h2;rw[e1]at e2;simp at e2
theorem leaf_ne{w:World}{B B':Nat}{g n cq m:Nat}{v:Value}{xs ys:List Value}(hu:w.ownsRow B 54 3 (.slice (some ⟨g,0,none⟩) n cq) n xs)(hv:w.ownsRow B' 66 2 v m ys):v.ownBlock=none∨v.ownBlock≠some g:=Or.inr (leaf_not_block hu hv g rfl)
theorem infoLeaf2:(Tryd.prog.info? 66).map (·.size)=some 2:=by kernel_rfl
theorem infoBlock3:(Tryd.prog.info? 54).map (·.size)=some 3:=by kernel_rfl
theorem infoFlash1:(Tryd.prog.info? 37).map (·.size)=some 1:=by kernel_rfl
theorem leaf_cell{w:World}{B g:Nat}{n hi:Nat}{xs:List Value}{v:Value}{ls:List (Int×ByteArray)}(hu:w.ownsRow B 54 3 (.slice (some ⟨g,0,none⟩) n n) n xs)(h:LeafIn w B hi v ls)(j:Nat)(u:Value):LeafIn (w.setCell ⟨g,j,none⟩ u) B hi v ls:=
 ⟨h.1.kept (grown_cell w g j u) (leaf_ne hu h.1),h.2⟩
def FlashOf(w:World)(B:Nat)(v:Value)(bs:List Bk):Prop:=∃ss:List Rw,ss.map tellOf=bs∧FlashIn w B w.heap.size v ss
theorem FlashOf.form{w:World}{B:Nat}{v:Value}{bs:List Bk}(h:FlashOf w B v bs):∃ad cap,v=.slice ad bs.length cap:=by
 obtain⟨ss,rfl,hs⟩:=h;obtain⟨ad,cap,rfl,-⟩:=frow_form hs.1;exact⟨ad,cap,by simp⟩
theorem FlashIn.down{w:World}{lo lo' hi:Nat}{v:Value}{rs:List Rw}(h:FlashIn w lo hi v rs)(hh:lo'≤lo):FlashIn w lo' hi v rs:=⟨own_down h.1 hh,h.2.1,fun r hr=>⟨own_down (h.2.2.1 r hr).1 hh,(h.2.2.1 r hr).2⟩,h.2.2.2⟩
theorem FlashOf.down{w:World}{B B':Nat}{v:Value}{bs:List Bk}(h:FlashOf w B v bs)(hh:B'≤B):FlashOf w B' v bs:=by
 obtain⟨ss,e,hs⟩:=h;exact⟨ss,e,hs.down hh⟩
theorem FlashOf.cell{w:World}{B:Nat}{v:Value}{bs:List Bk}(h:FlashOf w B v bs){g:Nat}(hg:g<B)(i:Nat)(u:Value):FlashOf (w.setCell ⟨g,i,none⟩ u) B v bs:=by
 obtain⟨ss,e,hs⟩:=h;refine⟨ss,e,?_⟩;have:=hs.kept (w':=w.setCell ⟨g,i,none⟩ u) (fun k h1 _=>Below.heap_setCell _ _ _ _ (by show k≠g;omega))
 simpa[World.setCell]using this
def Loc(lo hi:Nat)(P:World→Prop):Prop:=∀w w':World,(∀g,lo≤g→g<hi→w'.heap[g]?=w.heap[g]?)→P w→P w'
abbrev Hold:=Nat×Nat×(World→Prop)
def Tk(w wi:World)(hs:List Hold):Prop:=Below w.heap.size w wi∧∀h∈hs,h.2.1≤wi.heap.size∧Loc h.1 h.2.1 h.2.2∧h.2.2 wi
theorem Tk.start(w:World):Tk w w []:=⟨Below.refl _ _,fun _ h=>by cases h⟩
theorem Tk.below{w wi wj:World}{hs:List Hold}(h:Tk w wi hs)(hb:Below wi.heap.size wi wj):Tk w wj hs:=by
 refine⟨h.1.trans (hb.mono h.1.size),fun x hx=>?_⟩
 obtain⟨h1,h2,h3⟩:=h.2 x hx;have:=hb.size;exact⟨by omega,h2,h2 wi wj (fun g _ hg=>hb.block g (by omega)) h3⟩
theorem Tk.drew{w wi:World}{hs:List Hold}(h:Tk w wi hs):Tk w wi.drew hs:=h.below (Below.refl _ _).drew
theorem Tk.get{w wi:World}{hs:List Hold}(h:Tk w wi hs)(n:Nat){lo hi:Nat}{P:World→Prop}(hn:hs[n]?=some (lo,hi,P)):P wi:=(h.2 _ (List.mem_of_getElem? hn)).2.2
theorem Tk.hi{w wi:World}{hs:List Hold}(h:Tk w wi hs)(n:Nat){lo hi:Nat}{P:World→Prop}(hn:hs[n]?=some (lo,hi,P)):hi≤wi.heap.size:=(h.2 _ (List.mem_of_getElem? hn)).1
theorem Tk.add{w wi wj:World}{hs:List Hold}(h:Tk w wi hs)(hb:Below wi.heap.size wi wj){P:World→Prop}(hl:Loc wi.heap.size wj.heap.size P)(hp:P wj):Tk w wj ((wi.heap.size,wj.heap.size,P)::hs):=by
 obtain⟨h1,h2⟩:=h.below hb;refine⟨h1,fun x hx=>?_⟩
 rcases List.mem_cons.1 hx with rfl|hx
 ·exact⟨Nat.le_refl _,hl,hp⟩
 ·exact h2 x hx
theorem Tk.put{w wi:World}{hs:List Hold}(h:Tk w wi hs){lo hi:Nat}{P:World→Prop}(hh:hi≤wi.heap.size)(hl:Loc lo hi P)(hp:P wi):Tk w wi ((lo,hi,P)::hs):=by
 refine⟨h.1,fun x hx=>?_⟩
 rcases List.mem_cons.1 hx with rfl|hx
 ·exact⟨hh,hl,hp⟩
 ·exact h.2 x hx
def Cel(b:Nat)(cs:Array Value)(t:TypeId):World→Prop:=fun W=>W.heap[b]?=some (.cells cs t (0,0))
theorem Cel.loc(b:Nat)(cs:Array Value)(t:TypeId):Loc b (b+1) (Cel b cs t):=fun _ _ hk h=>(hk b (Nat.le_refl _) (by omega)).trans h
theorem Tk.cell{w wi:World}{hs:List Hold}(h:Tk w wi hs)(cs:Array Value)(t:TypeId):Tk w (wi.alloc (.cells cs t)) ((wi.heap.size,wi.heap.size+1,Cel wi.heap.size cs t)::hs):=by
 have hz:(wi.alloc (.cells cs t)).heap.size=wi.heap.size+1:=by simp
 have:=h.add ((Below.refl _ _).alloc (Nat.le_refl _) (.cells cs t)) (P:=Cel wi.heap.size cs t) (by rw[hz];exact Cel.loc _ _ _) (heap_alloc_new wi _)
 rw[hz]at this;exact this
theorem Tk.at{w wi:World}{hs:List Hold}(h:Tk w wi hs)(n:Nat){lo hi b:Nat}{cs:Array Value}{t:TypeId}(k:Nat){v:Value}(hn:hs[n]?=some (lo,hi,Cel b cs t))(hk:cs[k]?=some v):wi.cell? ⟨b,k,none⟩=some v:=by
 rw[cell_of_row _ _ k _ _ _ (h.get n hn)];exact hk
theorem Tk.fr{w wi:World}{hs:List Hold}(h:Tk w wi hs)(n:Nat){lo hi b:Nat}{cs:Array Value}{t:TypeId}(k:Nat)(hn:hs[n]?=some (lo,hi,Cel b cs t)):wi.frozen? ⟨b,k,none⟩=false:=frozen_of_row _ _ k _ _ (h.get n hn)
theorem Tk.drop{w wi:World}{hs hs':List Hold}(h:Tk w wi hs)(hh:∀x∈hs',x∈hs):Tk w wi hs':=⟨h.1,fun x hx=>h.2 x (hh x hx)⟩
theorem Tk.celln{w wi:World}{hs:List Hold}(h:Tk w wi hs){n:Nat}(hn:wi.heap.size=n)(cs:Array Value)(t:TypeId):Tk w (wi.alloc (.cells cs t)) ((n,n+1,Cel n cs t)::hs):=by
 subst hn;exact h.cell cs t
theorem alloc_size{w:World}{n:Nat}(hn:w.heap.size=n)(o:Obj):(w.alloc o).heap.size=n+1:=by simp[hn]
theorem Tk.two(w:World)(c1 c2:Array Value)(t1 t2:TypeId):Tk w ((w.alloc (.cells c1 t1)).alloc (.cells c2 t2)) [(w.heap.size+1,w.heap.size+1+1,Cel (w.heap.size+1) c2 t2),(w.heap.size,w.heap.size+1,Cel w.heap.size c1 t1)]:=
 ((Tk.start w).celln rfl c1 t1).celln (alloc_size rfl _) c2 t2
theorem Tk.three(w:World)(c1 c2 c3:Array Value)(t1 t2 t3:TypeId):Tk w (((w.alloc (.cells c1 t1)).alloc (.cells c2 t2)).alloc (.cells c3 t3)) [(w.heap.size+1+1,w.heap.size+1+1+1,Cel (w.heap.size+1+1) c3 t3),(w.heap.size+1,w.heap.size+1+1,Cel (w.heap.size+1) c2 t2),(w.heap.size,w.heap.size+1,Cel w.heap.size c1 t1)]:=
 (Tk.two w c1 c2 t1 t2).celln (alloc_size (alloc_size rfl _) _) c3 t3
def Fla(lo hi:Nat)(v:Value)(bs:List Bk):World→Prop:=fun W=>∃ss:List Rw,ss.map tellOf=bs∧FlashIn W lo hi v ss
theorem Fla.loc(lo hi:Nat)(v:Value)(bs:List Bk):Loc lo hi (Fla lo hi v bs):=by
 rintro w w' hk ⟨ss,e,h⟩;exact⟨ss,e,h.kept hk⟩
theorem Fla.form{w:World}{lo hi:Nat}{v:Value}{bs:List Bk}(h:Fla lo hi v bs w):∃ad cap,v=.slice ad bs.length cap∧(0<bs.length→∃g,ad=some ⟨g,0,none⟩∧lo≤g∧g<hi):=by
 obtain⟨ss,rfl,h⟩:=h;obtain⟨ad,cap,rfl,-,-,h3⟩:=frow_form h.1;refine⟨ad,cap,by simp,fun hp=>?_⟩
 obtain⟨g,e,h4,-⟩:=h3 (by simpa using hp)
 subst e;exact⟨g,rfl,h4,h.2.1 g rfl⟩
end Go.Proofs.YtpdoponghlpkcaaDoor
namespace Go.Proofs.YtpdoponghlpkcaaDoor
def Tx(ls:List (Int×ByteArray)):Prop:=∀t∈ls,t.2.size≤1048576
def TxB(rs:List Rw):Prop:=∀r∈rs,Tx r.2.2.2
theorem Tx.succ{ls:List (Int×ByteArray)}{k:Nat}{t:Int×ByteArray}(h:Tx (ls.take k))(ht:ls[k]?=some t)(hs:t.2.size≤1048576):Tx (ls.take (k+1)):=by
 obtain⟨h1,h2⟩:=List.getElem?_eq_some_iff.1 ht;rw[List.take_succ_eq_append_getElem h1,h2];intro u hu;rcases List.mem_append.1 hu with hu|hu
 ·exact h u hu
 ·rw[List.mem_singleton]at hu;subst hu;exact hs
theorem TxB.succ{rs:List Rw}{k:Nat}{r:Rw}(h:TxB (rs.take k))(hr:rs[k]?=some r)(hs:Tx r.2.2.2):TxB (rs.take (k+1)):=by
 obtain⟨h1,h2⟩:=List.getElem?_eq_some_iff.1 hr;rw[List.take_succ_eq_append_getElem h1,h2];intro u hu;rcases List.mem_append.1 hu with hu|hu
 ·exact h u hu
 ·rw[List.mem_singleton]at hu;subst hu;exact hs
end Go.Proofs.YtpdoponghlpkcaaDoor
