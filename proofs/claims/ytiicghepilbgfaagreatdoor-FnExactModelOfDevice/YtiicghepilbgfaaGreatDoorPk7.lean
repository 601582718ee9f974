/-
  PgMath; RdP; FlP; SoMath; FoP; StMath; ScM; ScM2
-/
import Derived.Test.YtiicghepilbgfaaGreatDoorPk6
import Derived.Test.YtiicghepilbgfaaGreatDoorPk0
namespace Go.Proofs.YtiicghepilbgfaaGreatDoor.Words
structure Pg where
 kind:Int
 seq:Int
 tx:Int
 part:Int
 count:Int
 text:ByteArray
def Pg.Right(p:Pg):Prop:=
 (p.kind=1∧p.count=1∧p.part=0∨p.kind=2∧1≤p.count∧p.count≤9∧0≤p.part∧p.part<p.count)∧1≤p.seq∧p.seq≤1000000000∧1≤p.tx∧p.tx≤1000000000∧(p.text.size:Int)≤90
abbrev Pg.decR(p:Pg):Decidable p.Right:=by unfold Pg.Right;exact inferInstance
def varA(n:Nat):ByteArray:=⟨(varL n).toArray⟩
def byteA(n:Nat):ByteArray:=⟨#[UInt8.ofNat n]⟩
def pageA(p:Pg):ByteArray:=((((byteA p.kind.toNat++varA p.seq.toNat)++varA p.tx.toNat)++varA p.part.toNat)++varA p.count.toNat)++p.text
theorem pageA_list(p:Pg):(pageA p).data.toList=UInt8.ofNat p.kind.toNat::(varL p.seq.toNat++(varL p.tx.toNat++(varL p.part.toNat++(varL p.count.toNat++p.text.data.toList)))):=by
 simp[pageA,byteA,varA,ByteArray.data_append]
theorem pageA_size(p:Pg)(h:p.Right):(pageA p).size≤127:=by
 obtain⟨h1,h2,h3,h4,h5,h6⟩:=h;have a:=(varL_len p.seq.toNat (by omega)).2
 have b:=(varL_len p.tx.toNat (by omega)).2
 have c:=(varL_len p.part.toNat (by omega)).2
 have d:=(varL_len p.count.toNat (by omega)).2
 have e:(pageA p).size=(pageA p).data.toList.length:=rfl;have f:p.text.size=p.text.data.toList.length:=rfl;rw[e,pageA_list];simp only[List.length_cons,List.length_append];omega
theorem scan_cut:∀(f:Nat) (l r:List UInt8),scan f l=some r→l=r++l.drop r.length:=by
 intro f
 induction f with
 |zero=>intro l r h;simp[scan]at h
 |succ f ih=>
  intro l r h;cases l with
  |nil=>simp[scan]at h
  |cons c l=>
   simp only[scan]at h;split at h
   ·cases h;simp
   ·cases e:scan f l with
    |none=>simp[e]at h
    |some r'=>
     simp[e]at h;subst h;have:=ih l r' e;simp only[List.cons_append,List.length_cons,List.drop_succ_cons];rw[←this]
theorem readV_cut(l:List UInt8)(q n j:Nat)(h:readV l q=some (n,j)):l.drop q=varL n++l.drop j:=by
 unfold readV at h;cases e:scan 5 (l.drop q)with
 |none=>simp[e]at h
 |some r=>
  have h3:=scan_cut 5 _ _ e;simp only[e]at h;split at h
  ·rename_i h1
   cases h;rw[h1.2];rw[List.drop_drop]at h3;exact h3
  ·cases h
def pgOf(s:ByteArray):Option Pg:=
 match s.data.toList[0]? with
 |none=>none
 |some k=>
  match readV s.data.toList 1 with
  |none=>none
  |some (a,i1)=>
   match readV s.data.toList i1 with
   |none=>none
   |some (b,i2)=>
    match readV s.data.toList i2 with
    |none=>none
    |some (c,i3)=>
     match readV s.data.toList i3 with
     |none=>none
     |some (d,i4)=>letI:=(Pg.mk k.toNat a b c d (s.extract i4 s.size)).decR;if (Pg.mk k.toNat a b c d (s.extract i4 s.size)).Right then some (Pg.mk k.toNat a b c d (s.extract i4 s.size))else none
theorem cut_list(s:ByteArray)(i:Nat):(s.extract i s.size).data.toList=s.data.toList.drop i:=by
 simp[ByteArray.data_extract];exact List.take_of_length_le (by rw[List.length_drop];exact Nat.le_refl _)
theorem ba_ext{a b:ByteArray}(h:a.data.toList=b.data.toList):a=b:=ByteArray.ext (Array.toList_inj.1 h)
theorem pg_back{s:ByteArray}{k:UInt8}{a b c d i1 i2 i3 i4:Nat}(h0:s.data.toList[0]?=some k)(h1:readV s.data.toList 1=some (a,i1))(h2:readV s.data.toList i1=some (b,i2))(h3:readV s.data.toList i2=some (c,i3))(h4:readV s.data.toList i3=some (d,i4)):
 pageA (Pg.mk k.toNat a b c d (s.extract i4 s.size))=s:=by
 apply ba_ext;rw[pageA_list,cut_list];have e1:=readV_cut _ _ _ _ h1;have e2:=readV_cut _ _ _ _ h2;have e3:=readV_cut _ _ _ _ h3;have e4:=readV_cut _ _ _ _ h4;simp only[Int.toNat_natCast,ofNat_toNat];rw[←e4,←e3,←e2,←e1];cases hl:s.data.toList with
 |nil=>rw[hl]at h0;cases h0
 |cons x l=>rw[hl]at h0;cases h0;simp
end Go.Proofs.YtiicghepilbgfaaGreatDoor.Words
namespace Go.Proofs.YtiicghepilbgfaaGreatDoor
open Words Sums
def readPg(t:ByteArray):Option Pg:=match unA t with|none=>none|some s=>pgOf s
theorem readPg_right{t:ByteArray}{p:Pg}(h:readPg t=some p):p.Right∧sealA (pageA p)=t:=by
 unfold readPg at h;cases hu:unA t with
 |none=>rw[hu]at h;cases h
 |some s=>
  rw[hu]at h;simp only at h;unfold pgOf at h;split at h
  ·cases h
  ·rename_i k0 h0
   split at h
   ·cases h
   ·rename_i a i1 h1
    split at h
    ·cases h
    ·rename_i b i2 h2
     split at h
     ·cases h
     ·rename_i c i3 h3
      split at h
      ·cases h
      ·rename_i d i4 h4
       split at h
       ·rename_i hq
        cases h;refine⟨hq,?_⟩;rw[pg_back h0 h1 h2 h3 h4];exact(unA_some hu).1
       ·cases h
end Go.Proofs.YtiicghepilbgfaaGreatDoor
namespace Go.Proofs.YtiicghepilbgfaaGreatDoor
abbrev Bk:=Bool×Int×List (Int×ByteArray)
def leafOk(t:Int×ByteArray):Bool:=decide (t.1=0∧t.2.size=0∨t.1=1∧1≤t.2.size∧t.2.size≤120∨t.1=2∧t.2.size≤120)
def leafAt(ls:List (Int×ByteArray))(k:Nat):Bool:=match ls[k]? with
 |none=>true
 |some t=>leafOk t&& !(decide (0<k∧t.1≠0∧∃u,ls[k-1]?=some u∧u.1=0))
def blkOk(b:Bk):Bool:=decide (b.2.2.length=4∧0≤b.2.1∧b.2.1≤1000000000)&&(List.range b.2.2.length).all (leafAt b.2.2)
def flOk(bs:List Bk):Bool:=decide (3≤bs.length∧bs.length≤10)&&bs.all blkOk
def readF(bs:List Bk)(b leaf:Int):ByteArray×Bool:=match bs[b.toNat]? with
 |none=>(⟨#[]⟩,false)
 |some r=>match r.2.2[leaf.toNat]? with
  |none=>(⟨#[]⟩,false)
  |some t=>if 0≤b∧0≤leaf∧t.1=1 then(t.2,true)else(⟨#[]⟩,false)
end Go.Proofs.YtiicghepilbgfaaGreatDoor
namespace Go.Proofs.YtiicghepilbgfaaGreatDoor.Words
structure Fnd where
 block:Int
 leaf:Int
 page:Pg
def Fnd.key(x:Fnd):Int:=x.page.seq
def Asc(l:List Fnd):Prop:=l.Pairwise (fun a b=>a.key≤b.key)
def Akin(l k:List Fnd):Prop:=∀c:Int,l.filter (fun x=>x.key==c)=k.filter (fun x=>x.key==c)
theorem Akin.refl(l:List Fnd):Akin l l:=fun _=>rfl
theorem Akin.symm{l k:List Fnd}(h:Akin l k):Akin k l:=fun c=>(h c).symm
theorem Akin.trans{l k m:List Fnd}(h:Akin l k)(h2:Akin k m):Akin l m:=fun c=>(h c).trans (h2 c)
theorem Akin.app{a b c d:List Fnd}(h:Akin a b)(h2:Akin c d):Akin (a++c) (b++d):=fun z=>by
 rw[List.filter_append,List.filter_append,h z,h2 z]
theorem Akin.flip{a b:List Fnd}(h:∀x∈a,∀y∈b,x.key≠y.key):Akin (a++b) (b++a):=fun c=>by
 rw[List.filter_append,List.filter_append];by_cases hc:∃x∈a,x.key=c
 ·obtain⟨x,hx,rfl⟩:=hc;have:b.filter (fun y=>y.key==x.key)=[]:=by
   rw[List.filter_eq_nil_iff];intro y hy;have:=h x hx y hy
   simpa using fun e=>this e.symm
  rw[this];simp
 ·have:a.filter (fun y=>y.key==c)=[]:=by
   rw[List.filter_eq_nil_iff];intro y hy
   simpa using fun e=>hc ⟨y,hy,e⟩
  rw[this];simp
theorem Akin.mem{l k:List Fnd}(h:Akin l k)(x:Fnd):x∈l↔x∈k:=by
 have:=h x.key;have e:∀m:List Fnd,x∈m↔x∈m.filter (fun y=>y.key==x.key):=fun m=>by simp
 rw[e l,e k,this]
theorem Akin.eq:∀{l k:List Fnd},Akin l k→Asc l→Asc k→l=k:=by
 intro l
 induction l with
 |nil=>
  intro k h _ _;cases k with
  |nil=>rfl
  |cons b k=>
   have:=h b.key;simp at this
 |cons a l ih=>
  intro k h ha hk;cases k with
  |nil=>
   have:=h a.key;simp at this
  |cons b k=>
   have hab:a.key=b.key:=by
    have h1:b∈a::l:=(h.mem b).2 List.mem_cons_self;have h2:a∈b::k:=(h.mem a).1 List.mem_cons_self;have c1:a.key≤b.key:=by
     rcases List.mem_cons.1 h1 with e|e
     ·rw[e];exact Int.le_refl _
     ·exact(List.pairwise_cons.1 ha).1 b e
    have c2:b.key≤a.key:=by
     rcases List.mem_cons.1 h2 with e|e
     ·rw[e];exact Int.le_refl _
     ·exact(List.pairwise_cons.1 hk).1 a e
    omega
   have h0:=h a.key;rw[List.filter_cons_of_pos (by simp),List.filter_cons_of_pos (by simp[hab])]at h0
   injection h0 with e1 _
   subst e1;congr 1;refine ih (fun c=>?_) (List.pairwise_cons.1 ha).2 (List.pairwise_cons.1 hk).2
   have hc:=h c;by_cases e:a.key=c
   ·rw[List.filter_cons_of_pos (by simp[e]),List.filter_cons_of_pos (by simp[e])]at hc
    injection hc
   ·rw[List.filter_cons_of_neg (by simpa using e),List.filter_cons_of_neg (by simpa using e)]at hc
    exact hc
theorem Asc.app{a b:List Fnd}(ha:Asc a)(hb:Asc b)(h:∀x∈a,∀y∈b,x.key≤y.key):Asc (a++b):=List.pairwise_append.2 ⟨ha,hb,h⟩
theorem Asc.left{a b:List Fnd}(h:Asc (a++b)):Asc a:=(List.pairwise_append.1 h).1
theorem Asc.right{a b:List Fnd}(h:Asc (a++b)):Asc b:=(List.pairwise_append.1 h).2.1
theorem Asc.across{a b:List Fnd}(h:Asc (a++b)):∀x∈a,∀y∈b,x.key≤y.key:=(List.pairwise_append.1 h).2.2
theorem Asc.le{l:List Fnd}(h:Asc l){i j:Nat}{x y:Fnd}(hi:l[i]?=some x)(hj:l[j]?=some y)(hij:i≤j):x.key≤y.key:=by
 by_cases e:i=j
 ·subst e;rw[hi]at hj;cases hj;exact Int.le_refl _
 ·obtain⟨h1,e1⟩:=List.getElem?_eq_some_iff.1 hi;obtain⟨h2,e2⟩:=List.getElem?_eq_some_iff.1 hj;rw[←e1,←e2];exact List.pairwise_iff_getElem.1 h i j h1 h2 (by omega)
end Go.Proofs.YtiicghepilbgfaaGreatDoor.Words
namespace Go.Proofs.YtiicghepilbgfaaGreatDoor
open Words Sums
def leafPg(bs:List Bk)(b k:Int):Option Pg:=if (readF bs b k).2 then readPg (readF bs b k).1 else none
def foundsAt(bs:List Bk)(b:Nat):Nat→List Fnd
 |0=> []
 |k+1=>foundsAt bs b k++(match leafPg bs b k with|some p=> [⟨b,k,p⟩]|none=> [])
def founds(bs:List Bk):Nat→List Fnd
 |0=> []
 |b+1=>founds bs b++foundsAt bs b ((bs[b]?).map (fun r=>r.2.2.length)|>.getD 0)
theorem foundsAt_len(bs:List Bk)(b k:Nat):(foundsAt bs b k).length≤k:=by
 induction k with
 |zero=>exact Nat.le_refl _
 |succ k ih=>
  simp only[foundsAt,List.length_append];split<;>simp<;>omega
def inSq(x:Fnd):List Fnd→List Fnd
 | []=> [x]
 |y::l=>if x.key<y.key then x::y::l else y::inSq x l
def sortS(l:List Fnd):List Fnd:=l.foldl (fun m x=>inSq x m) []
theorem inSq_mem{x y:Fnd}{l:List Fnd}:y∈inSq x l↔y=x∨y∈l:=by
 induction l with
 |nil=>simp[inSq]
 |cons z l ih=>
  unfold inSq;split
  ·simp
  ·simp only[List.mem_cons,ih];constructor
   ·rintro(h|h|h)
    ·exact .inr (.inl h)
    ·exact .inl h
    ·exact .inr (.inr h)
   ·rintro(h|h|h)
    ·exact .inr (.inl h)
    ·exact .inl h
    ·exact .inr (.inr h)
theorem inSq_asc{x:Fnd}{l:List Fnd}(h:Asc l):Asc (inSq x l):=by
 induction l with
 |nil=>exact List.pairwise_singleton _ _
 |cons z l ih=>
  have h1:=List.pairwise_cons.1 h;unfold inSq;split
  ·rename_i hx
   refine List.pairwise_cons.2 ⟨?_,h⟩;intro y hy;rcases List.mem_cons.1 hy with e|e
   ·subst e;omega
   ·have:=h1.1 y e;omega
  ·rename_i hx
   refine List.pairwise_cons.2 ⟨?_,ih h1.2⟩;intro y hy;rcases inSq_mem.1 hy with e|e
   ·subst e;omega
   ·exact h1.1 y e
theorem inSq_akin{x:Fnd}{l:List Fnd}(h:Asc l):Akin (inSq x l) (l++[x]):=by
 intro c
 induction l with
 |nil=>rfl
 |cons z l ih=>
  have h1:=List.pairwise_cons.1 h;unfold inSq;split
  ·rename_i hx
   rw[List.filter_append];by_cases e:x.key=c
   ·have hn:(z::l).filter (fun y=>y.key==c)=[]:=by
     rw[List.filter_eq_nil_iff];intro y hy;rcases List.mem_cons.1 hy with q|q
     ·subst q;simp;omega
     ·have:=h1.1 y q;simp;omega
    rw[hn,List.filter_cons_of_pos (by simpa using e),hn,List.filter_cons_of_pos (by simpa using e)]
    rfl
   ·rw[List.filter_cons_of_neg (a:=x) (by simpa using e),List.filter_cons_of_neg (a:=x) (l:=[]) (by simpa using e)]
    simp
  ·rw[List.cons_append];by_cases e:z.key=c
   ·rw[List.filter_cons_of_pos (by simpa using e),List.filter_cons_of_pos (by simpa using e),ih h1.2]
   ·rw[List.filter_cons_of_neg (by simpa using e),List.filter_cons_of_neg (by simpa using e),ih h1.2]
theorem sortS_snoc(l:List Fnd)(x:Fnd):sortS (l++[x])=inSq x (sortS l):=by simp[sortS,List.foldl_append]
theorem snocS_ind{α:Type}{P:List α→Prop}(h0:P [])(h1:∀l r,P l→P (l++[r])):∀l,P l:=by
 intro l;have:∀m:List α,P m.reverse:=by
  intro m
  induction m with
  |nil=>simpa using h0
  |cons a m ih=>rw[List.reverse_cons];exact h1 _ _ ih
 simpa using this l.reverse
theorem sortS_asc(l:List Fnd):Asc (sortS l):=by
 induction l using snocS_ind with
 |h0=>exact List.Pairwise.nil
 |h1 l x ih=>rw[sortS_snoc];exact inSq_asc ih
theorem sortS_akin(l:List Fnd):Akin l (sortS l):=by
 induction l using snocS_ind with
 |h0=>exact Akin.refl _
 |h1 l x ih=>
  rw[sortS_snoc];exact(ih.app (Akin.refl [x])).trans (inSq_akin (sortS_asc l)).symm
theorem sortS_eq{l m:List Fnd}(h:Akin l m)(ha:Asc m):m=sortS l:=(h.symm.trans (sortS_akin l)).eq ha (sortS_asc l)
theorem sortS_mem(l:List Fnd)(x:Fnd):x∈sortS l↔x∈l:=((sortS_akin l).mem x).symm
def scanF(bs:List Bk):List Fnd:=sortS (founds bs bs.length)
theorem scanF_is{bs:List Bk}{M:List Fnd}(ha:Asc M)(hk:Akin (founds bs bs.length) M):M=scanF bs:=sortS_eq hk ha
def lenAt(bs:List Bk)(b:Nat):Nat:=(bs[b]?).map (fun r=>r.2.2.length)|>.getD 0
def posAt(b k:Nat):List (Nat×Nat):=(List.range k).map (fun j=>(b,j))
def posN(bs:List Bk)(n:Nat):List (Nat×Nat):=(List.range n).flatMap (fun b=>posAt b (lenAt bs b))
def atQ(bs:List Bk)(q:Nat×Nat):Option Fnd:=(leafPg bs q.1 q.2).map (fun p=>⟨q.1,q.2,p⟩)
theorem posAt_succ(b k:Nat):posAt b (k+1)=posAt b k++[(b,k)]:=by simp[posAt,List.range_succ]
theorem posN_succ(bs:List Bk)(n:Nat):posN bs (n+1)=posN bs n++posAt n (lenAt bs n):=by simp[posN,List.range_succ,List.flatMap_append]
theorem foundsAt_pos(bs:List Bk)(b k:Nat):foundsAt bs b k=(posAt b k).filterMap (atQ bs):=by
 induction k with
 |zero=>rfl
 |succ k ih=>
  rw[posAt_succ,List.filterMap_append,foundsAt,ih];congr 1;cases h:leafPg bs (b:Int) (k:Int)with
  |none=>simp[atQ,h]
  |some p=>simp[atQ,h]
theorem founds_pos(bs:List Bk)(n:Nat):founds bs n=(posN bs n).filterMap (atQ bs):=by
 induction n with
 |zero=>rfl
 |succ n ih=>
  rw[posN_succ,List.filterMap_append,founds,ih,foundsAt_pos];rfl
theorem posAt_mem{b k:Nat}{q:Nat×Nat}:q∈posAt b k↔q.1=b∧q.2<k:=by
 simp only[posAt,List.mem_map,List.mem_range];constructor
 ·rintro⟨j,hj,rfl⟩;exact⟨rfl,hj⟩
 ·rintro⟨rfl,h⟩;exact⟨q.2,h,rfl⟩
theorem posN_mem{bs:List Bk}{n:Nat}{q:Nat×Nat}:q∈posN bs n↔q.1<n∧q.2<lenAt bs q.1:=by
 simp only[posN,List.mem_flatMap,List.mem_range];constructor
 ·rintro⟨b,hb,hq⟩;obtain⟨rfl,h⟩:=posAt_mem.1 hq;exact⟨hb,h⟩
 ·rintro⟨h1,h2⟩;exact⟨q.1,h1,posAt_mem.2 ⟨rfl,h2⟩⟩
theorem scan_mem{bs:List Bk}{x:Fnd}(h:x∈scanF bs):∃b l:Nat,x.block=b∧x.leaf=l∧b<bs.length∧l<lenAt bs b∧leafPg bs b l=some x.page:=by
 unfold scanF at h;rw[sortS_mem,founds_pos,List.mem_filterMap]at h;obtain⟨q,hq,e⟩:=h;have hm:=posN_mem.1 hq;simp only[atQ]at e;cases hp:leafPg bs (q.1:Int) (q.2:Int)with
 |none=>rw[hp]at e;cases e
 |some p=>
  rw[hp]at e;simp only[Option.map_some,Option.some.injEq]at e;subst e;exact⟨q.1,q.2,rfl,rfl,hm.1,hm.2,hp⟩
end Go.Proofs.YtiicghepilbgfaaGreatDoor
