/-
  PgMath; RdP; FlP; SoMath
-/
import Derived.Test.YtpdoponghlpkcaaDoorPk0
import Derived.Test.YtpdoponghlpkcaaDoorPk1
namespace Go.Proofs.YtpdoponghlpkcaaDoor.Words
structure Pg where
 kind:Int
 seq:Int
 tx:Int
 part:Int
 count:Int
 text:ByteArray
def Pg.Right(p:Pg):Prop:=
 (p.kind=1∧p.count=1∧p.part=0∨p.kind=2∧1≤p.count∧p.count≤9∧0≤p.part∧p.part<p.count)∧1≤p.seq∧p.seq≤1000000000∧1≤p.tx∧p.tx≤1000000000∧(p.text.size:Int)≤90
abbrev Pg.decR(p:Pg):Decidable p.Right:=by unfold Pg.Right;exact inferInstance
def varA(n:Nat):ByteArray:=⟨(varL n).toArray⟩
def byteA(n:Nat):ByteArray:=⟨#[UInt8.ofNat n]⟩
def pageA(p:Pg):ByteArray:=((((byteA p.kind.toNat++varA p.seq.toNat)++varA p.tx.toNat)++varA p.part.toNat)++varA p.count.toNat)++p.text
theorem pageA_list(p:Pg):(pageA p).data.toList=UInt8.ofNat p.kind.toNat::(varL p.seq.toNat++(varL p.tx.toNat++(varL p.part.toNat++(varL p.count.toNat++p.text.data.toList)))):=by
 simp[pageA,byteA,varA,ByteArray.data_append]
theorem pageA_size(p:Pg)(h:p.Right):(pageA p).size≤127:=by
 obtain⟨h1,h2,h3,h4,h5,h6⟩:=h;have a:=(varL_len p.seq.toNat (by omega)).2
 have b:=(varL_len p.tx.toNat (by omega)).2
 have c:=(varL_len p.part.toNat (by omega)).2
 have d:=(varL_len p.count.toNat (by omega)).2
 have e:(pageA p).size=(pageA p).data.toList.length:=rfl;have f:p.text.size=p.text.data.toList.length:=rfl;rw[e,pageA_list];simp only[List.length_cons,List.length_append];omega
theorem scan_cut:∀(f:Nat) (l r:List UInt8),scan f l=some r→l=r++l.drop r.length:=by
 intro f
 induction f with
 |zero=>intro l r h;simp[scan]at h
 |succ f ih=>
  intro l r h;cases l with
  |nil=>simp[scan]at h
  |cons c l=>
   simp only[scan]at h;split at h
   ·cases h;simp
   ·cases e:scan f l with
    |none=>simp[e]at h
    |some r'=>
     simp[e]at h;subst h;have:=ih l r' e;simp only[List.cons_append,List.length_cons,List.drop_succ_cons];rw[←this]
theorem readV_cut(l:List UInt8)(q n j:Nat)(h:readV l q=some (n,j)):l.drop q=varL n++l.drop j:=by
 unfold readV at h;cases e:scan 5 (l.drop q)with
 |none=>simp[e]at h
 |some r=>
  have h3:=scan_cut 5 _ _ e;simp only[e]at h;split at h
  ·rename_i h1
   cases h;rw[h1.2];rw[List.drop_drop]at h3;exact h3
  ·cases h
def pgOf(s:ByteArray):Option Pg:=
 match s.data.toList[0]? with
 |none=>none
 |some k=>
  match readV s.data.toList 1 with
  |none=>none
  |some (a,i1)=>
   match readV s.data.toList i1 with
   |none=>none
   |some (b,i2)=>
    match readV s.data.toList i2 with
    |none=>none
    |some (c,i3)=>
     match readV s.data.toList i3 with
     |none=>none
     |some (d,i4)=>letI:=(Pg.mk k.toNat a b c d (s.extract i4 s.size)).decR;if (Pg.mk k.toNat a b c d (s.extract i4 s.size)).Right then some (Pg.mk k.toNat a b c d (s.extract i4 s.size))else none
theorem cut_list(s:ByteArray)(i:Nat):(s.extract i s.size).data.toList=s.data.toList.drop i:=by
 simp[ByteArray.data_extract];exact List.take_of_length_le (by rw[List.length_drop];exact Nat.le_refl _)
theorem ba_ext{a b:ByteArray}(h:a.data.toList=b.data.toList):a=b:=ByteArray.ext (Array.toList_inj.1 h)
theorem pg_back{s:ByteArray}{k:UInt8}{a b c d i1 i2 i3 i4:Nat}(h0:s.data.toList[0]?=some k)(h1:readV s.data.toList 1=some (a,i1))(h2:readV s.data.toList i1=some (b,i2))(h3:readV s.data.toList i2=some (c,i3))(h4:readV s.data.toList i3=some (d,i4)):
 pageA (Pg.mk k.toNat a b c d (s.extract i4 s.size))=s:=by
 apply ba_ext;rw[pageA_list,cut_list];have e1:=readV_cut _ _ _ _ h1;have e2:=readV_cut _ _ _ _ h2;have e3:=readV_cut _ _ _ _ h3;have e4:=readV_cut _ _ _ _ h4;simp only[Int.toNat_natCast,ofNat_toNat];rw[←e4,←e3,←e2,←e1];cases hl:s.data.toList with
 |nil=>rw[hl]at h0;cases h0
 |cons x l=>rw[hl]at h0;cases h0;simp
end Go.Proofs.YtpdoponghlpkcaaDoor.Words
namespace Go.Proofs.YtpdoponghlpkcaaDoor
open Words Sums
def readPg(t:ByteArray):Option Pg:=match unA t with|none=>none|some s=>pgOf s
end Go.Proofs.YtpdoponghlpkcaaDoor
namespace Go.Proofs.YtpdoponghlpkcaaDoor
abbrev Bk:=Bool×Int×List (Int×ByteArray)
def readF(bs:List Bk)(b leaf:Int):ByteArray×Bool:=match bs[b.toNat]? with
 |none=>(⟨#[]⟩,false)
 |some r=>match r.2.2[leaf.toNat]? with
  |none=>(⟨#[]⟩,false)
  |some t=>if 0≤b∧0≤leaf∧t.1=1 then(t.2,true)else(⟨#[]⟩,false)
end Go.Proofs.YtpdoponghlpkcaaDoor
namespace Go.Proofs.YtpdoponghlpkcaaDoor.Words
structure Fnd where
 block:Int
 leaf:Int
 page:Pg
def Fnd.key(x:Fnd):Int:=x.page.seq
def Asc(l:List Fnd):Prop:=l.Pairwise (fun a b=>a.key≤b.key)
def Akin(l k:List Fnd):Prop:=∀c:Int,l.filter (fun x=>x.key==c)=k.filter (fun x=>x.key==c)
theorem Akin.refl(l:List Fnd):Akin l l:=fun _=>rfl
theorem Akin.symm{l k:List Fnd}(h:Akin l k):Akin k l:=fun c=>(h c).symm
theorem Akin.trans{l k m:List Fnd}(h:Akin l k)(h2:Akin k m):Akin l m:=fun c=>(h c).trans (h2 c)
theorem Akin.app{a b c d:List Fnd}(h:Akin a b)(h2:Akin c d):Akin (a++c) (b++d):=fun z=>by
 rw[List.filter_append,List.filter_append,h z,h2 z]
theorem Akin.flip{a b:List Fnd}(h:∀x∈a,∀y∈b,x.key≠y.key):Akin (a++b) (b++a):=fun c=>by
 rw[List.filter_append,List.filter_append];by_cases hc:∃x∈a,x.key=c
 ·obtain⟨x,hx,rfl⟩:=hc;have:b.filter (fun y=>y.key==x.key)=[]:=by
   rw[List.filter_eq_nil_iff];intro y hy;have:=h x hx y hy
   simpa using fun e=>this e.symm
  rw[this];simp
 ·have:a.filter (fun y=>y.key==c)=[]:=by
   rw[List.filter_eq_nil_iff];intro y hy
   simpa using fun e=>hc ⟨y,hy,e⟩
  rw[this];simp
theorem Akin.mem{l k:List Fnd}(h:Akin l k)(x:Fnd):x∈l↔x∈k:=by
 have:=h x.key;have e:∀m:List Fnd,x∈m↔x∈m.filter (fun y=>y.key==x.key):=fun m=>by simp
 rw[e l,e k,this]
theorem Akin.eq:∀{l k:List Fnd},Akin l k→Asc l→Asc k→l=k:=by
 intro l
 induction l with
 |nil=>
  intro k h _ _;cases k with
  |nil=>rfl
  |cons b k=>
   have:=h b.key;simp at this
 |cons a l ih=>
  intro k h ha hk;cases k with
  |nil=>
   have:=h a.key;simp at this
  |cons b k=>
   have hab:a.key=b.key:=by
    have h1:b∈a::l:=(h.mem b).2 List.mem_cons_self;have h2:a∈b::k:=(h.mem a).1 List.mem_cons_self;have c1:a.key≤b.key:=by
     rcases List.mem_cons.1 h1 with e|e
     ·rw[e];exact Int.le_refl _
     ·exact(List.pairwise_cons.1 ha).1 b e
    have c2:b.key≤a.key:=by
     rcases List.mem_cons.1 h2 with e|e
     ·rw[e];exact Int.le_refl _
     ·exact(List.pairwise_cons.1 hk).1 a e
    omega
   have h0:=h a.key;rw[List.filter_cons_of_pos (by simp),List.filter_cons_of_pos (by simp[hab])]at h0
   injection h0 with e1 _
   subst e1;congr 1;refine ih (fun c=>?_) (List.pairwise_cons.1 ha).2 (List.pairwise_cons.1 hk).2
   have hc:=h c;by_cases e:a.key=c
   ·rw[List.filter_cons_of_pos (by simp[e]),List.filter_cons_of_pos (by simp[e])]at hc
    injection hc
   ·rw[List.filter_cons_of_neg (by simpa using e),List.filter_cons_of_neg (by simpa using e)]at hc
    exact hc
theorem Asc.app{a b:List Fnd}(ha:Asc a)(hb:Asc b)(h:∀x∈a,∀y∈b,x.key≤y.key):Asc (a++b):=List.pairwise_append.2 ⟨ha,hb,h⟩
theorem Asc.left{a b:List Fnd}(h:Asc (a++b)):Asc a:=(List.pairwise_append.1 h).1
theorem Asc.right{a b:List Fnd}(h:Asc (a++b)):Asc b:=(List.pairwise_append.1 h).2.1
theorem Asc.across{a b:List Fnd}(h:Asc (a++b)):∀x∈a,∀y∈b,x.key≤y.key:=(List.pairwise_append.1 h).2.2
theorem Asc.le{l:List Fnd}(h:Asc l){i j:Nat}{x y:Fnd}(hi:l[i]?=some x)(hj:l[j]?=some y)(hij:i≤j):x.key≤y.key:=by
 by_cases e:i=j
 ·subst e;rw[hi]at hj;cases hj;exact Int.le_refl _
 ·obtain⟨h1,e1⟩:=List.getElem?_eq_some_iff.1 hi;obtain⟨h2,e2⟩:=List.getElem?_eq_some_iff.1 hj;rw[←e1,←e2];exact List.pairwise_iff_getElem.1 h i j h1 h2 (by omega)
end Go.Proofs.YtpdoponghlpkcaaDoor.Words
