/-
  RoMath; HpMath; PlMath; PoMath; RcMath; TxMath; TxMath2; TrMath; TrMath2; TrMath3; TrMath4; SwMath; StoM; StoM2; StoM3; StoM4; StoM5; StoM6; StoM7; DvM; Own; Kept2; OwnC
-/
import Derived.Test.YtpdoponghlpkcaaDoorPk2
import Derived.Test.YtpdoponghlpkcaaDoorPk0
import Derived.Test.YtpdoponghlpkcaaDoorPk3
import Derived.Deep.MidRow
namespace Go.Proofs.YtpdoponghlpkcaaDoor
def blanks(ls:List (Int×ByteArray)):Nat:=ls.countP (fun t=>t.1==0)
theorem blanks_le(ls:List (Int×ByteArray)):blanks ls≤ls.length:=List.countP_le_length
theorem blanks_take{ls:List (Int×ByteArray)}{k:Nat}{t:Int×ByteArray}(ht:ls[k]?=some t):blanks (ls.take (k+1))=blanks (ls.take k)+if t.1=0 then 1 else 0:=by
 obtain⟨h1,h2⟩:=List.getElem?_eq_some_iff.1 ht;rw[List.take_succ_eq_append_getElem h1,h2];unfold blanks;rw[List.countP_append];by_cases h:t.1=0<;>simp[h]
def roomTo(bs:List Bk):Nat→Nat
 |0=>0
 |k+1=>roomTo bs k+(match bs[k]? with|some b=>if b.1=true then 0 else blanks b.2.2|none=>0)
def roomF(bs:List Bk):Nat:=roomTo bs bs.length
theorem roomTo_yes{bs:List Bk}{k:Nat}{b:Bk}(hb:bs[k]?=some b)(h:b.1=false):roomTo bs (k+1)=roomTo bs k+blanks b.2.2:=by simp[roomTo,hb,h]
theorem roomTo_no{bs:List Bk}{k:Nat}{b:Bk}(hb:bs[k]?=some b)(h:b.1=true):roomTo bs (k+1)=roomTo bs k:=by simp[roomTo,hb,h]
theorem roomTo_le{bs:List Bk}{m:Nat}(hll:∀b∈bs,b.2.2.length≤m)(k:Nat):roomTo bs k≤k*m:=by
 induction k with
 |zero=>exact Nat.zero_le _
 |succ k ih=>
  rw[Nat.succ_mul];simp only[roomTo];cases hb:bs[k]? with
  |none=>simp only;omega
  |some b=>
   have h1:=hll b (List.mem_of_getElem? hb);have h2:=blanks_le b.2.2;simp only;split<;>omega
namespace Words
structure Kn where
 leaf:Bool
 kids:List Int
def knLeaf(l:List Kn)(n:Int):Bool:=match l[n.toNat]? with
 |some y=>y.leaf
 |none=>false
def kidB(l:List Kn)(i:Nat)(lf:Bool)(n:Int):Bool:=if lf then decide (0≤n)else(decide (n= -1)||(decide (0≤n)&&decide (n<i)&&knLeaf l n))
def knB(l:List Kn)(i:Nat)(x:Kn):Bool:=decide (x.kids.length=4)&&x.kids.all (kidB l i x.leaf)
def arK(l:List Kn):Nat→Bool
 |0=>true
 |k+1=>arK l k&&(match l[k]? with|some x=>knB l k x|none=>true)
def arB(l:List Kn):Bool:=arK l l.length
def rootB(l:List Kn)(r:Int):Bool:=decide (r= -1)||(decide (0≤r)&&decide (r<l.length)&& !knLeaf l r)
def kidAt(l:List Kn)(r:Int)(k:Nat):Int:=((l[r.toNat]?).bind (fun x=>x.kids[k]?)).getD 0
def getP(l:List Kn)(r:Int)(s:Nat):Int:=if r<0 then 0 else if kidAt l r (s/4)<0 then 0 else kidAt l (kidAt l r (s/4)) (s % 4)
def askB(l:List Kn)(r s:Int):Bool:=arB l&&rootB l r&&(decide (0≤s)&&decide (s≤15))
def getT(l:List Kn)(r s:Int):Int:=if askB l r s then getP l r s.toNat else 0
def allT(l:List Kn)(r:Int):List Int:=(List.range 16).map (fun s:Nat=>getT l r s)
end Words
namespace Words
structure Sto where
 vols:List (Int×Int)
 kns:List Kn
 next:Int
def tellS(s:Sto):List (Int×List Int):=s.vols.map (fun v=>(v.1,allT s.kns v.2))
end Words
namespace Words
theorem tell_at{s:Sto}{k:Nat}{v:Int×Int}(h:s.vols[k]?=some v):(tellS s)[k]?=some (v.1,allT s.kns v.2):=by
 rw[tellS,List.getElem?_map,h];rfl
end Words
end Go.Proofs.YtpdoponghlpkcaaDoor
namespace Go.Proofs.YtpdoponghlpkcaaDoor
open Words Sums Pack
structure Dv where
 flash:List Bk
 store:Sto
 seq:Int
 tx:Int
 base:Int
end Go.Proofs.YtpdoponghlpkcaaDoor
namespace Go.Proofs.YtpdoponghlpkcaaDoor
open Go.RowKit
theorem own_below{w w':World}{base:Nat}{e:TypeId}{size:Nat}{v:Value}{n:Nat}{xs:List Value}(h:w.ownsRow base e size v n xs)(hb:Below w.heap.size w w'):w'.ownsRow base e size v n xs:=by
 obtain⟨h1,h2⟩:=h;refine⟨h1,?_⟩;rcases h2 with h|⟨g,cap,cur,a1,a2,a3,a4⟩
 ·exact .inl h
 ·have hg:g<w.heap.size:=(Array.getElem?_eq_some_iff.1 a3).1;exact .inr ⟨g,cap,cur,a1,a2,by rw[hb.block g hg];exact a3,a4⟩
theorem own_lower{w:World}{base C:Nat}{e:TypeId}{size:Nat}{v:Value}{n:Nat}{xs:List Value}(h:w.ownsRow base e size v n xs)(hC:C≤base):w.ownsRow C e size v n xs:=by
 obtain⟨h1,h2⟩:=h;refine⟨h1,?_⟩;rcases h2 with h|⟨g,cap,cur,a1,a2,a3⟩
 ·exact .inl h
 ·exact .inr ⟨g,cap,cur,a1,by omega,a3⟩
def Kept2(w w':World)(ok:Nat→Prop):Prop:=w'.os=w.os∧w'.tape=w.tape∧w'.output=w.output∧w.heap.size≤w'.heap.size∧∀i,i<w.heap.size→ok i→w'.heap[i]?=w.heap[i]?
theorem Kept2.refl(w:World)(ok:Nat→Prop):Kept2 w w ok:=⟨rfl,rfl,rfl,Nat.le_refl _,fun _ _ _=>rfl⟩
theorem Kept2.trans{a b c:World}{ok:Nat→Prop}(h:Kept2 a b ok)(k:Kept2 b c ok):Kept2 a c ok:=
 ⟨k.1.trans h.1,k.2.1.trans h.2.1,k.2.2.1.trans h.2.2.1,Nat.le_trans h.2.2.2.1 k.2.2.2.1,fun i hi ho=>(k.2.2.2.2 i (Nat.lt_of_lt_of_le hi h.2.2.2.1) ho).trans (h.2.2.2.2 i hi ho)⟩
theorem Kept2.below{a b:World}{ok:Nat→Prop}(h:Below a.heap.size a b):Kept2 a b ok:=⟨h.os,h.tape,h.output,h.size,fun i hi _=>h.block i hi⟩
theorem Kept2.down{a b:World}{ok:Nat→Prop}{B:Nat}(h:Kept2 a b ok)(hB:B≤a.heap.size)(ho:∀i,i<B→ok i):Below B a b:=⟨h.1,h.2.1,h.2.2.1,h.2.2.2.1,fun i hi=>h.2.2.2.2 i (Nat.lt_of_lt_of_le hi hB) (ho i hi)⟩
theorem row_set{w:World}{g:Nat}{cs:Array Value}{t:TypeId}(h:w.heap[g]?=some (.cells cs t (0,0)))(i:Nat)(u:Value):(w.setCell ⟨g,i,none⟩ u).heap[g]?=some (.cells (cs.setIfInBounds i u) t (0,0)):=by
 rw[setCell_eq_setRow w g i cs t (0,0) u h];exact setRow_heap w g cs _ t _ h
theorem row_set_ne{w:World}{g g':Nat}{o:Obj}(h:w.heap[g]?=some o)(hn:g≠g')(i:Nat)(u:Value):(w.setCell ⟨g',i,none⟩ u).heap[g]?=some o:=(Below.heap_setCell _ _ _ _ hn).trans h
theorem own_down{w:World}{B B':Nat}{e:TypeId}{size n:Nat}{v:Value}{xs:List Value}(h:w.ownsRow B e size v n xs)(hb:B'≤B):w.ownsRow B' e size v n xs:=by
 obtain⟨h1,h2⟩:=h;refine⟨h1,?_⟩;rcases h2 with h|⟨g,cap,cur,rfl,a2,a3⟩
 ·exact .inl h
 ·exact .inr ⟨g,cap,cur,rfl,by omega,a3⟩
theorem own_cell{w:World}{B:Nat}{e:TypeId}{size n:Nat}{v:Value}{xs:List Value}(h:w.ownsRow B e size v n xs){g:Nat}(hg:g<B)(i:Nat)(u:Value):(w.setCell ⟨g,i,none⟩ u).ownsRow B e size v n xs:=by
 obtain⟨h1,h2⟩:=h;refine⟨h1,?_⟩;rcases h2 with h|⟨g',cap,cur,rfl,a2,a3,a4⟩
 ·exact .inl h
 ·exact .inr ⟨g',cap,cur,rfl,a2,row_set_ne a3 (by omega) _ _,a4⟩
theorem own_block_lt{w:World}{B:Nat}{e:TypeId}{size n:Nat}{v:Value}{xs:List Value}(h:w.ownsRow B e size v n xs):∀g,v.ownBlock=some g→B≤g∧g<w.heap.size:=by
 intro g hg;exact h.lt g hg
theorem fown_set{w:World}{base:Nat}{e:TypeId}{size n:Nat}{v:Value}{xs:List Value}{g cap:Nat}(h:w.ownsRow base e size v n xs)(hv:v=.slice (some ⟨g,0,none⟩) n cap)(k:Nat)(u:Value):
 (w.setCell ⟨g,k,none⟩ u).ownsRow base e size v n (xs.set k u):=by
 obtain⟨h1,h2⟩:=h;refine⟨by simpa using h1,?_⟩
 rcases h2 with⟨h3,-⟩|⟨g',cap',cur,h3,h4,h5,h6,h7,h8,h9⟩
 ·rw[hv]at h3;cases h3
 ·right;have hg:g'=g:=by rw[hv]at h3;injection h3 with a;simp at a;exact a.symm
  subst hg;refine⟨g',cap',cur.setIfInBounds k u,h3,h4,?_,h6,h7,by simpa using h8,?_⟩
  ·rw[setCell_eq_setRow w g' k cur e (0,0) u h5];exact setRow_heap w g' cur _ e _ h5
  ·rw[Array.toList_setIfInBounds,List.take_set,h9]
theorem grown_cell(w:World)(g k:Nat)(u:Value):w.grownBy (w.setCell ⟨g,k,none⟩ u) (some g):=
 ⟨rfl,rfl,rfl,by simp[World.setCell],fun i _ hi=>Below.heap_setCell _ _ _ _ (fun e=>hi (by rw[e]))⟩
end Go.Proofs.YtpdoponghlpkcaaDoor
