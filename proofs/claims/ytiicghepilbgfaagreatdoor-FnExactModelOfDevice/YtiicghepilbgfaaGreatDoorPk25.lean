/-
  FdOr; PkRM; Rows3; GRow
-/
import Derived.Test.YtiicghepilbgfaaGreatDoorPk13
import Derived.Test.YtiicghepilbgfaaGreatDoorPk8
import Derived.Test.YtiicghepilbgfaaGreatDoorPk24
import Derived.Test.YtiicghepilbgfaaGreatDoorPk0
set_option maxHeartbeats 1000000
namespace Go.Proofs.YtiicghepilbgfaaGreatDoor
open Go.RowKit
open Words
def fd0:Fnd:=⟨0,0,⟨0,0,0,0,0,⟨#[]⟩⟩⟩
def fdOr(o:Option Fnd):Fnd:=o.getD fd0
def FdAt(W:World)(g:Nat)(x:Fnd):Prop:=W.heap[g]?=some (.cells #[.int .i64 x.block,.int .i64 x.leaf,.int .i64 x.page.kind,.int .i64 x.page.seq,.int .i64 x.page.tx,.int .i64 x.page.part,.int .i64 x.page.count,.string x.page.text] 106 (0,0))
theorem FdAt.cells{W:World}{g:Nat}{x:Fnd}(h:FdAt W g x):W.cell? ⟨g,0,none⟩=some (.int .i64 x.block)∧W.cell? ⟨g,1,none⟩=some (.int .i64 x.leaf)∧W.cell? ⟨g,2,none⟩=some (.int .i64 x.page.kind)∧W.cell? ⟨g,3,none⟩=some (.int .i64 x.page.seq)∧W.cell? ⟨g,4,none⟩=some (.int .i64 x.page.tx)∧W.cell? ⟨g,5,none⟩=some (.int .i64 x.page.part)∧W.cell? ⟨g,6,none⟩=some (.int .i64 x.page.count)∧W.cell? ⟨g,7,none⟩=some (.string x.page.text):=
 ⟨cell_of_row _ _ 0 _ _ _ h,cell_of_row _ _ 1 _ _ _ h,cell_of_row _ _ 2 _ _ _ h,cell_of_row _ _ 3 _ _ _ h,cell_of_row _ _ 4 _ _ _ h,cell_of_row _ _ 5 _ _ _ h,cell_of_row _ _ 6 _ _ _ h,cell_of_row _ _ 7 _ _ _ h⟩
theorem FdAt.fr{W:World}{g:Nat}{x:Fnd}(h:FdAt W g x)(k:Nat):W.frozen? ⟨g,k,none⟩=false:=frozen_of_row _ _ k _ _ h
theorem eight_cs{w:World}{g:Nat}{t:TypeId}{y0 y1 y2 y3 y4 y5 y6 y7 a b c d e f k l:Value}(h:w.heap[g]?=some (.cells #[y0,y1,y2,y3,y4,y5,y6,y7] t (0,0))):
 ((((((((w.setCell ⟨g,0,none⟩ a).setCell ⟨g,1,none⟩ b).setCell ⟨g,2,none⟩ c).setCell ⟨g,3,none⟩ d).setCell ⟨g,4,none⟩ e).setCell ⟨g,5,none⟩ f).setCell ⟨g,6,none⟩ k).setCell ⟨g,7,none⟩ l).heap[g]?=some (.cells #[a,b,c,d,e,f,k,l] t (0,0)):=by
 have h0:(w.setCell ⟨g,0,none⟩ a).heap[g]?=some (.cells #[a,y1,y2,y3,y4,y5,y6,y7] t (0,0)):=heap_setCell_same _ _ 0 _ _ _ h;generalize w.setCell ⟨g,0,none⟩ a=w0 at h0⊢;have h1:(w0.setCell ⟨g,1,none⟩ b).heap[g]?=some (.cells #[a,b,y2,y3,y4,y5,y6,y7] t (0,0)):=heap_setCell_same _ _ 1 _ _ _ h0;generalize w0.setCell ⟨g,1,none⟩ b=w1 at h1⊢;have h2:(w1.setCell ⟨g,2,none⟩ c).heap[g]?=some (.cells #[a,b,c,y3,y4,y5,y6,y7] t (0,0)):=heap_setCell_same _ _ 2 _ _ _ h1;generalize w1.setCell ⟨g,2,none⟩ c=w2 at h2⊢;have h3:(w2.setCell ⟨g,3,none⟩ d).heap[g]?=some (.cells #[a,b,c,d,y4,y5,y6,y7] t (0,0)):=heap_setCell_same _ _ 3 _ _ _ h2;generalize w2.setCell ⟨g,3,none⟩ d=w3 at h3⊢;have h4:(w3.setCell ⟨g,4,none⟩ e).heap[g]?=some (.cells #[a,b,c,d,e,y5,y6,y7] t (0,0)):=heap_setCell_same _ _ 4 _ _ _ h3;generalize w3.setCell ⟨g,4,none⟩ e=w4 at h4⊢;have h5:(w4.setCell ⟨g,5,none⟩ f).heap[g]?=some (.cells #[a,b,c,d,e,f,y6,y7] t (0,0)):=heap_setCell_same _ _ 5 _ _ _ h4;generalize w4.setCell ⟨g,5,none⟩ f=w5 at h5⊢;have h6:(w5.setCell ⟨g,6,none⟩ k).heap[g]?=some (.cells #[a,b,c,d,e,f,k,y7] t (0,0)):=heap_setCell_same _ _ 6 _ _ _ h5;generalize w5.setCell ⟨g,6,none⟩ k=w6 at h6⊢;exact heap_setCell_same _ _ 7 _ _ _ h6
theorem FdAt.set{W:World}{g:Nat}{x:Fnd}(h:FdAt W g x)(y:Fnd):
 FdAt ((((((((W.setCell ⟨g,0,none⟩ (.int .i64 y.block)).setCell ⟨g,1,none⟩ (.int .i64 y.leaf)).setCell ⟨g,2,none⟩ (.int .i64 y.page.kind)).setCell ⟨g,3,none⟩ (.int .i64 y.page.seq)).setCell ⟨g,4,none⟩ (.int .i64 y.page.tx)).setCell ⟨g,5,none⟩ (.int .i64 y.page.part)).setCell ⟨g,6,none⟩ (.int .i64 y.page.count)).setCell ⟨g,7,none⟩ (.string y.page.text)) g y:=eight_cs h
theorem below_fd{B g:Nat}{a w:World}{v0 v1 v2 v3 v4 v5 v6 v7:Value}(h:Below B a w)(hg:B≤g):
 Below B a ((((((((w.setCell ⟨g,0,none⟩ v0).setCell ⟨g,1,none⟩ v1).setCell ⟨g,2,none⟩ v2).setCell ⟨g,3,none⟩ v3).setCell ⟨g,4,none⟩ v4).setCell ⟨g,5,none⟩ v5).setCell ⟨g,6,none⟩ v6).setCell ⟨g,7,none⟩ v7):=
 (((((((h.setCell (p:=⟨g,0,none⟩) hg _).setCell (p:=⟨g,1,none⟩) hg _).setCell (p:=⟨g,2,none⟩) hg _).setCell (p:=⟨g,3,none⟩) hg _).setCell (p:=⟨g,4,none⟩) hg _).setCell (p:=⟨g,5,none⟩) hg _).setCell (p:=⟨g,6,none⟩) hg _).setCell (p:=⟨g,7,none⟩) hg _
theorem infoFdS:(Tryz.prog.info? 106).map (·.size)=some 8:=by kernel_rfl
theorem results_fd2 {fn:Func} {p q:Tmp} (h:fn.results= #[.cell p 106,.tmp q]) (tmps:Array Value) (w:World) (g:Nat) (x:Fnd)
 (hp:tmps.getD p undef=.pointer (some ⟨g,0,none⟩)) (hc:FdAt w g x):
 (results fn tmps).run Tryz.prog w=.ok (.tuple #[fdVal x,tmps.getD q undef]) w:=by
 have hp':tmps[p]?.getD undef=.pointer (some ⟨g,0,none⟩):=by simpa using hp
 have hl:=run_loadVar_row (P:=Tryz.prog) w g 106 106 _ _ _ hc Tryz.underlying106 rfl infoFdS;simp[results,h,hp',asAddr,hl,fdVal]
theorem FdRd.all{w:World}{a:Option Addr}{len:Nat}{ls:List Fnd}(h:FdRd w a len ls){k:Nat}{t:Fnd}(hk:ls[k]?=some t):
 ∃b off,a=some ⟨b,off,none⟩∧b<w.heap.size∧w.cell? ⟨b,off+k*8,none⟩=some (.int .i64 t.block)∧w.cell? ⟨b,off+k*8+1,none⟩=some (.int .i64 t.leaf)∧
  w.cell? ⟨b,off+k*8+2,none⟩=some (.int .i64 t.page.kind)∧w.cell? ⟨b,off+k*8+3,none⟩=some (.int .i64 t.page.seq)∧w.cell? ⟨b,off+k*8+4,none⟩=some (.int .i64 t.page.tx)∧
  w.cell? ⟨b,off+k*8+5,none⟩=some (.int .i64 t.page.part)∧w.cell? ⟨b,off+k*8+6,none⟩=some (.int .i64 t.page.count)∧w.cell? ⟨b,off+k*8+7,none⟩=some (.string t.page.text)∧w.cell? ⟨b,off+k*8+2+2,none⟩=some (.int .i64 t.page.tx):=by
 obtain⟨b,off,e,h0,h1,h2,h3,h4,h5,h6,h7,h8⟩:=h.at hk;exact⟨b,off,e,h0,h1,h2,h3,h4,h5,h6,h7,h8,h5⟩
theorem FRes.rd{W:World}{B:Nat}{u:Value}{M:List Fnd}(h:FRes W B u M):∃ad cap,u=.slice ad M.length cap∧FdRd W ad M.length M∧M.length≤1000000000000000000:=by
 rcases h with⟨rfl,rfl⟩|⟨g,cap,rfl,hB,hr,hl⟩
 ·exact⟨none,0,rfl,⟨rfl,by unfold maxLen;simp,fun h=>by simp at h⟩,by simp⟩
 ·refine⟨_,_,rfl,⟨rfl,by unfold maxLen;omega,fun _=>⟨g,0,rfl,hr.lt,fun i t hi j v hv=>?_⟩⟩,hl⟩
  rw[Nat.zero_add];exact hr.cell hi j hv
end Go.Proofs.YtiicghepilbgfaaGreatDoor
namespace Go.Proofs.YtiicghepilbgfaaGreatDoor.Pack
def readG(lim:Nat):Nat→List UInt8→Option (List (Nat×Nat×List UInt8))
 |_,[]=>some []
 |0,_::_=>none
 |f+1,n::r=>
  if lim≤n.toNat then(match r with
   |b::r'=>(readG lim f r').map fun l=>(b.toNat,n.toNat-128,[])::l
   | []=>none)
  else if n.toNat≤r.length then(readG lim f (r.drop n.toNat)).map fun l=>(0,0,r.take n.toNat)::l else none
theorem readG_T(f:Nat)(r:List UInt8):readG 129 f r=readT f r:=by
 induction f generalizing r with
 |zero=>cases r<;>rfl
 |succ f ih=>
  cases r with
  |nil=>rfl
  |cons n r=>
   unfold readG readT;by_cases h:128<n.toNat
   ·rw[if_pos h,if_pos (by omega)]
    cases r with
    |nil=>rfl
    |cons b r=>simp only[ih]
   ·rw[if_neg h,if_neg (by omega),ih]
theorem readG_fuel(lim f:Nat)(r:List UInt8)(h:r.length≤f):readG lim f r=readG lim r.length r:=by
 induction f using Nat.strongRecOn generalizing r with
 |ind f ih=>
  cases r with
  |nil=>cases f<;>rfl
  |cons n r=>
   rw[List.length_cons]at h;obtain⟨g,rfl⟩:∃g,f=g+1:=⟨f-1,by omega⟩
   rw[List.length_cons];unfold readG;by_cases hn:lim≤n.toNat
   ·rw[if_pos hn,if_pos hn];cases r with
    |nil=>rfl
    |cons b r=>
     rw[List.length_cons]at h;simp only;rw[ih g (by omega) r (by omega)]
     by_cases hg:r.length+1<g+1
     ·rw[List.length_cons,ih (r.length+1) hg r (by omega)]
     ·omega
   ·rw[if_neg hn,if_neg hn];have hd:(r.drop n.toNat).length≤r.length:=by rw[List.length_drop];omega
    rw[ih g (by omega) (r.drop n.toNat) (by omega)]
    by_cases hg:r.length<g+1
    ·rw[ih r.length hg (r.drop n.toNat) hd]
    ·omega
def RG(lim:Nat)(r:List UInt8):Option (List (Nat×Nat×List UInt8)):=readG lim r.length r
theorem RG_nil(lim:Nat):RG lim []=some []:=rfl
theorem RG_match(lim:Nat)(n b:UInt8)(r:List UInt8)(h:lim≤n.toNat):RG lim (n::b::r)=(RG lim r).map fun l=>(b.toNat,n.toNat-128,[])::l:=by
 unfold RG;rw[List.length_cons]
 conv=>lhs;unfold readG
 rw[if_pos h];simp only;rw[readG_fuel lim _ r (by simp)]
theorem RG_cut(lim:Nat)(n:UInt8)(h:lim≤n.toNat):RG lim [n]=none:=by
 unfold RG;rw[List.length_cons]
 conv=>lhs;unfold readG
 rw[if_pos h]
theorem RG_text(lim:Nat)(n:UInt8)(r:List UInt8)(h:¬lim≤n.toNat)(h2:n.toNat≤r.length):RG lim (n::r)=(RG lim (r.drop n.toNat)).map fun l=>(0,0,r.take n.toNat)::l:=by
 unfold RG;rw[List.length_cons]
 conv=>lhs;unfold readG
 rw[if_neg h,if_pos h2,readG_fuel lim _ (r.drop n.toNat) (by rw[List.length_drop];omega)]
theorem RG_short(lim:Nat)(n:UInt8)(r:List UInt8)(h:¬lim≤n.toNat)(h2:¬n.toNat≤r.length):RG lim (n::r)=none:=by
 unfold RG;rw[List.length_cons]
 conv=>lhs;unfold readG
 rw[if_neg h,if_neg h2]
theorem RG_of(lim:Nat)(hl1:128≤lim)(hl2:lim≤129)(l:List (Nat×Nat×List UInt8))(h:∀t∈l,Fit t):RG lim (l.flatMap zTok)=some l:=by
 induction l with
 |nil=>rfl
 |cons t l ih=>
  have ht:=h t (by simp)
  have hl:=ih (fun t ht=>h t (by simp[ht]))
  rw[List.flatMap_cons];obtain⟨b,n,x⟩:=t;rcases ht with⟨e0,e1,e2,e3⟩|⟨e0,e1,e2,e3,e4⟩
  ·simp only at e0 e1 e2 e3;subst e0 e3;have hz:zTok (0,0,x)=UInt8.ofNat x.length::x:=rfl;have hb:=small_byte x.length (by omega)
   rw[hz,List.cons_append,RG_text _ _ _ (by rw[hb];omega) (by rw[hb];simp),hb,List.drop_left,List.take_left,hl]
   rfl
  ·simp only at e0 e1 e2 e3 e4;subst e4;have hz:zTok (b,n,[])=[UInt8.ofNat (128+n),UInt8.ofNat b]:=by
    unfold zTok;rw[if_neg (by simp only;omega)]
   have hb:=small_byte (128+n) (by omega)
   have hc:=small_byte b (by omega)
   rw[hz,List.cons_append,List.cons_append,List.nil_append,RG_match _ _ _ _ (by rw[hb];omega),hb,hc,hl]
   simp
def plainI(t:List UInt8):Option (List UInt8):=
 match t with
 | []=>none
 |c::r=>if c=114 then some r else if c=122 then(RG 128 r).bind plain else none
def unpackI(t:List UInt8):Option (List UInt8):=if 65<t.length then none else(plainI t).bind fun s=>if packL s=some t then some s else none
theorem unpackI_eq(t:List UInt8):unpackI t=unpackL t:=by
 apply Option.ext;intro s;constructor
 ·intro h;refine unpack_pack s t ?_;unfold unpackI at h;split at h
  ·cases h
  ·cases hp:plainI t with
   |none=>rw[hp]at h;cases h
   |some x=>
    rw[hp]at h;simp only[Option.bind_some]at h;split at h
    ·rename_i e;cases h;exact e
    ·cases h
 ·intro h;have hp:=pack_unpack s t h;have hlen:=pack_len s t hp;have hs:s.length≤64:=by
   unfold packL at hp;split at hp
   ·cases hp
   ·omega
  unfold unpackI;rw[if_neg (by omega)]
  have hi:plainI t=some s:=by
   have hp':=hp;unfold packL at hp';rw[if_neg (by omega)]at hp'
   split at hp'
   ·cases hp';rfl
   ·cases hp';unfold zOf plainI;simp only;rw[if_neg (by decide),if_pos trivial,RG_of 128 (by omega) (by omega) _ (fit_of [] s _ (by simp) (plain_toks s hs).1)]
    exact(plain_toks s hs).1
  rw[hi];simp only[Option.bind_some];rw[if_pos hp]
theorem unpackL_eq(c:UInt8)(r:List UInt8):unpackL (c::r)=(if c=122 then(RG 129 r).bind plain else some r).bind fun s=>if packL s=some (c::r)then some s else none:=by
 unfold unpackL RG;simp only[readG_T]
end Go.Proofs.YtiicghepilbgfaaGreatDoor.Pack
namespace Go.Proofs.YtiicghepilbgfaaGreatDoor
open Go.RowKit
open Pack
theorem infoTok:(Tryz.prog.info? 198).map (fun i=>(i.zero,i.size,i.bytes))=some (some (.agg #[.int .i64 0,.int .i64 0,.string ⟨#[]⟩]),3,32):=by kernel_rfl
def tcell(t:Nat×Nat×List UInt8):List Value:=[.int .i64 (t.1:Nat),.int .i64 (t.2.1:Nat),.string ⟨t.2.2.toArray⟩]
def tcells(l:List (Nat×Nat×List UInt8)):List Value:=l.flatMap tcell
theorem tcells_len(l:List (Nat×Nat×List UInt8)):(tcells l).length=l.length*3:=by
 induction l with
 |nil=>rfl
 |cons t l ih=>simp[tcells,tcell]at ih⊢;omega
theorem tcells_snoc(l:List (Nat×Nat×List UInt8))(t:Nat×Nat×List UInt8):tcells l++tcell t=tcells (l++[t]):=by simp[tcells]
theorem tcells_at(l:List (Nat×Nat×List UInt8))(k:Nat)(t:Nat×Nat×List UInt8)(h:l[k]?=some t):(tcells l)[3*k]?=some (.int .i64 (t.1:Nat))∧(tcells l)[3*k+1]?=some (.int .i64 (t.2.1:Nat))∧(tcells l)[3*k+2]?=some (.string ⟨t.2.2.toArray⟩):=by
 induction l generalizing k with
 |nil=>simp at h
 |cons a l ih=>
  cases k with
  |zero=>
   simp at h;subst h;exact⟨rfl,rfl,rfl⟩
  |succ k=>
   have:=ih k (by simpa using h)
   have e:tcells (a::l)=tcell a++tcells l:=by simp[tcells]
   have hl:(tcell a).length=3:=rfl;rw[e,List.getElem?_append_right (by rw[hl];omega),List.getElem?_append_right (by rw[hl];omega),List.getElem?_append_right (by rw[hl];omega),hl,show 3*(k+1)-3=3*k by omega,show 3*(k+1)+1-3=3*k+1 by omega,show 3*(k+1)+2-3=3*k+2 by omega]
   exact this
theorem tcells_text(l:List (Nat×Nat×List UInt8))(b z:Nat)(x y:List UInt8):(tcells (l++[(b,z,x)])).set (3*l.length+2) (.string ⟨y.toArray⟩)=tcells (l++[(b,z,y)]):=by
 rw[←tcells_snoc,←tcells_snoc,List.set_append_right _ _ (by rw[tcells_len];omega),tcells_len,show 3*l.length+2-l.length*3=2 by omega]
 rfl
theorem own_set{w:World}{base:Nat}{e:TypeId}{size n:Nat}{v:Value}{xs:List Value}{g cap:Nat}(h:w.ownsRow base e size v n xs)(hv:v=.slice (some ⟨g,0,none⟩) n cap)(k:Nat)(u:Value):
 (w.setCell ⟨g,k,none⟩ u).ownsRow base e size v n (xs.set k u):=by
 obtain⟨h1,h2⟩:=h;refine⟨by simpa using h1,?_⟩
 rcases h2 with⟨h3,-⟩|⟨g',cap',cur,h3,h4,h5,h6,h7,h8,h9⟩
 ·rw[hv]at h3;cases h3
 ·right;have hg:g'=g:=by rw[hv]at h3;injection h3 with a;simp at a;exact a.symm
  subst hg;refine⟨g',cap',cur.setIfInBounds k u,h3,h4,?_,h6,h7,by simpa using h8,?_⟩
  ·rw[setCell_eq_setRow w g' k cur e (0,0) u h5];exact setRow_heap w g' cur _ e _ h5
  ·rw[Array.toList_setIfInBounds,List.take_set,h9]
end Go.Proofs.YtiicghepilbgfaaGreatDoor
namespace Go.Proofs.YtiicghepilbgfaaGreatDoor
open Go.RowKit
def gcell(t:Int×Int×ByteArray):List Value:=[.int .i64 t.1,.int .i64 t.2.1,.string t.2.2]
def gcells(l:List (Int×Int×ByteArray)):List Value:=l.flatMap gcell
def gtok(t:Nat×Nat×List UInt8):Int×Int×ByteArray:=((t.1:Int),(t.2.1:Int),⟨t.2.2.toArray⟩)
theorem tcells_g(l:List (Nat×Nat×List UInt8)):tcells l=gcells (l.map gtok):=by
 simp[tcells,gcells,List.flatMap_map,gtok,gcell];rfl
theorem gcells_at(l:List (Int×Int×ByteArray))(k:Nat)(t:Int×Int×ByteArray)(h:l[k]?=some t):(gcells l)[k*3]?=some (.int .i64 t.1)∧(gcells l)[k*3+1]?=some (.int .i64 t.2.1)∧(gcells l)[k*3+2]?=some (.string t.2.2):=by
 induction l generalizing k with
 |nil=>simp at h
 |cons a l ih=>
  cases k with
  |zero=>
   simp at h;subst h;exact⟨rfl,rfl,rfl⟩
  |succ k=>
   have:=ih k (by simpa using h)
   have e:gcells (a::l)=gcell a++gcells l:=by simp[gcells]
   have hl:(gcell a).length=3:=rfl;rw[e,List.getElem?_append_right (by rw[hl];omega),List.getElem?_append_right (by rw[hl];omega),List.getElem?_append_right (by rw[hl];omega),hl,show(k+1)*3-3=k*3 by omega,show(k+1)*3+1-3=k*3+1 by omega,show(k+1)*3+2-3=k*3+2 by omega]
   exact this
theorem gown_cells{w:World}{B n cap g k:Nat}{l:List (Int×Int×ByteArray)}{t:Int×Int×ByteArray}(h:w.ownsRow B 198 3 (.slice (some ⟨g,0,none⟩) n cap) n (gcells l))(ht:l[k]?=some t):
 w.cell? ⟨g,k*3,none⟩=some (.int .i64 t.1)∧w.cell? ⟨g,k*3+1,none⟩=some (.int .i64 t.2.1)∧w.cell? ⟨g,k*3+2,none⟩=some (.string t.2.2):=by
 obtain⟨h1,h2,h3⟩:=gcells_at l k t ht;have c1:=h.cells (g:=g) rfl _ _ h1;have c2:=h.cells (g:=g) rfl _ _ h2;have c3:=h.cells (g:=g) rfl _ _ h3;rw[addr_at]at c1 c2 c3;exact⟨c1,c2,c3⟩
theorem row_form3{w:World}{B:Nat}{e:TypeId}{z:Nat}{v:Value}{n:Nat}{xs:List Value}(h:w.ownsRow B e z v n xs):
 ∃ad cap,v=.slice ad n cap∧n≤cap∧cap≤maxLen∧(0<n→∃g,ad=some ⟨g,0,none⟩∧B≤g∧g<w.heap.size):=by
 have hlt:=h.lt;rcases h.2 with⟨h1,h2⟩|⟨g,cap,cur,h1,-,-,h3,h4,-⟩
 ·exact⟨none,0,by rw[h1,h2],by omega,by unfold maxLen;omega,fun h=>by omega⟩
 ·subst h1;exact⟨_,cap,rfl,h3,h4,fun _=>⟨g,rfl,hlt g rfl⟩⟩
end Go.Proofs.YtiicghepilbgfaaGreatDoor
