/-
  FoP; StMath; ScM; BnM; ScM2; TMath; ZMath; ChM
-/
import Derived.Test.YtpdoponghlpkcaaDoorPk2
import Derived.Test.YtpdoponghlpkcaaDoorPk0
namespace Go.Proofs.YtpdoponghlpkcaaDoor
open Words Sums
def leafPg(bs:List Bk)(b k:Int):Option Pg:=if (readF bs b k).2 then readPg (readF bs b k).1 else none
def foundsAt(bs:List Bk)(b:Nat):Nat→List Fnd
 |0=> []
 |k+1=>foundsAt bs b k++(match leafPg bs b k with|some p=> [⟨b,k,p⟩]|none=> [])
def founds(bs:List Bk):Nat→List Fnd
 |0=> []
 |b+1=>founds bs b++foundsAt bs b ((bs[b]?).map (fun r=>r.2.2.length)|>.getD 0)
theorem foundsAt_len(bs:List Bk)(b k:Nat):(foundsAt bs b k).length≤k:=by
 induction k with
 |zero=>exact Nat.le_refl _
 |succ k ih=>
  simp only[foundsAt,List.length_append];split<;>simp<;>omega
def inSq(x:Fnd):List Fnd→List Fnd
 | []=> [x]
 |y::l=>if x.key<y.key then x::y::l else y::inSq x l
def sortS(l:List Fnd):List Fnd:=l.foldl (fun m x=>inSq x m) []
theorem inSq_mem{x y:Fnd}{l:List Fnd}:y∈inSq x l↔y=x∨y∈l:=by
 induction l with
 |nil=>simp[inSq]
 |cons z l ih=>
  unfold inSq;split
  ·simp
  ·simp only[List.mem_cons,ih];constructor
   ·rintro(h|h|h)
    ·exact .inr (.inl h)
    ·exact .inl h
    ·exact .inr (.inr h)
   ·rintro(h|h|h)
    ·exact .inr (.inl h)
    ·exact .inl h
    ·exact .inr (.inr h)
theorem inSq_asc{x:Fnd}{l:List Fnd}(h:Asc l):Asc (inSq x l):=by
 induction l with
 |nil=>exact List.pairwise_singleton _ _
 |cons z l ih=>
  have h1:=List.pairwise_cons.1 h;unfold inSq;split
  ·rename_i hx
   refine List.pairwise_cons.2 ⟨?_,h⟩;intro y hy;rcases List.mem_cons.1 hy with e|e
   ·subst e;omega
   ·have:=h1.1 y e;omega
  ·rename_i hx
   refine List.pairwise_cons.2 ⟨?_,ih h1.2⟩;intro y hy;rcases inSq_mem.1 hy with e|e
   ·subst e;omega
   ·exact h1.1 y e
theorem inSq_akin{x:Fnd}{l:List Fnd}(h:Asc l):Akin (inSq x l) (l++[x]):=by
 intro c
 induction l with
 |nil=>rfl
 |cons z l ih=>
  have h1:=List.pairwise_cons.1 h;unfold inSq;split
  ·rename_i hx
   rw[List.filter_append];by_cases e:x.key=c
   ·have hn:(z::l).filter (fun y=>y.key==c)=[]:=by
     rw[List.filter_eq_nil_iff];intro y hy;rcases List.mem_cons.1 hy with q|q
     ·subst q;simp;omega
     ·have:=h1.1 y q;simp;omega
    rw[hn,List.filter_cons_of_pos (by simpa using e),hn,List.filter_cons_of_pos (by simpa using e)]
    rfl
   ·rw[List.filter_cons_of_neg (a:=x) (by simpa using e),List.filter_cons_of_neg (a:=x) (l:=[]) (by simpa using e)]
    simp
  ·rw[List.cons_append];by_cases e:z.key=c
   ·rw[List.filter_cons_of_pos (by simpa using e),List.filter_cons_of_pos (by simpa using e),ih h1.2]
   ·rw[List.filter_cons_of_neg (by simpa using e),List.filter_cons_of_neg (by simpa using e),ih h1.2]
theorem sortS_snoc(l:List Fnd)(x:Fnd):sortS (l++[x])=inSq x (sortS l):=by simp[sortS,List.foldl_append]
theorem snocS_ind{α:Type}{P:List α→Prop}(h0:P [])(h1:∀l r,P l→P (l++[r])):∀l,P l:=by
 intro l;have:∀m:List α,P m.reverse:=by
  intro m
  induction m with
  |nil=>simpa using h0
  |cons a m ih=>rw[List.reverse_cons];exact h1 _ _ ih
 simpa using this l.reverse
theorem sortS_asc(l:List Fnd):Asc (sortS l):=by
 induction l using snocS_ind with
 |h0=>exact List.Pairwise.nil
 |h1 l x ih=>rw[sortS_snoc];exact inSq_asc ih
theorem sortS_akin(l:List Fnd):Akin l (sortS l):=by
 induction l using snocS_ind with
 |h0=>exact Akin.refl _
 |h1 l x ih=>
  rw[sortS_snoc];exact(ih.app (Akin.refl [x])).trans (inSq_akin (sortS_asc l)).symm
theorem sortS_eq{l m:List Fnd}(h:Akin l m)(ha:Asc m):m=sortS l:=(h.symm.trans (sortS_akin l)).eq ha (sortS_asc l)
def scanF(bs:List Bk):List Fnd:=sortS (founds bs bs.length)
theorem scanF_is{bs:List Bk}{M:List Fnd}(ha:Asc M)(hk:Akin (founds bs bs.length) M):M=scanF bs:=sortS_eq hk ha
end Go.Proofs.YtpdoponghlpkcaaDoor
namespace Go.Proofs.YtpdoponghlpkcaaDoor
open Words
def pagesF:List Bk→Nat
 | []=>0
 |b::bs=>b.2.2.length+pagesF bs
theorem pagesF_snoc(l:List Bk)(b:Bk):pagesF (l++[b])=pagesF l+b.2.2.length:=by
 induction l with
 |nil=>simp[pagesF]
 |cons a l ih=>simp only[List.cons_append,pagesF,ih];omega
theorem pagesF_take{bs:List Bk}{k:Nat}{b:Bk}(h:bs[k]?=some b):pagesF (bs.take (k+1))=pagesF (bs.take k)+b.2.2.length:=by
 obtain⟨h1,h2⟩:=List.getElem?_eq_some_iff.1 h;rw[List.take_succ_eq_append_getElem h1,h2,pagesF_snoc]
def wearB(b:Bk):Bool:=decide (0≤b.2.1∧b.2.1≤1000000000)
def bndB(bs:List Bk):Bool:=bs.all wearB&&decide ((scanF bs).length≤pagesF bs)
theorem bnd_no{bs:List Bk}{k:Nat}{b:Bk}(h:bs[k]?=some b)(hw:wearB b=false):bndB bs=false:=by
 have:bs.all wearB=false:=by
  rw[List.all_eq_false];exact⟨b,List.mem_of_getElem? h,by rw[hw];decide⟩
 unfold bndB;rw[this,Bool.false_and]
theorem bnd_all_take{bs:List Bk}{k:Nat}{b:Bk}(h:bs[k]?=some b)(ha:(bs.take k).all wearB=true)(hw:wearB b=true):(bs.take (k+1)).all wearB=true:=by
 obtain⟨h1,h2⟩:=List.getElem?_eq_some_iff.1 h;rw[List.take_succ_eq_append_getElem h1,h2,List.all_append,ha];simp[hw]
end Go.Proofs.YtpdoponghlpkcaaDoor
namespace Go.Proofs.YtpdoponghlpkcaaDoor.Pack
def again:Nat→Nat→List UInt8→List UInt8
 |0,_,out=>out
 |n+1,back,out=>again n back (out++[out.getD (out.length-back) 0])
def tell(out:List UInt8)(t:Nat×Nat×List UInt8):List UInt8:=if t.1=0 then out++t.2.2 else again t.2.1 t.1 out
end Go.Proofs.YtpdoponghlpkcaaDoor.Pack
namespace Go.Proofs.YtpdoponghlpkcaaDoor
open Words Sums Pack
theorem inSq_perm(x:Fnd)(l:List Fnd):(inSq x l).Perm (x::l):=by
 induction l with
 |nil=>exact List.Perm.refl _
 |cons y l ih=>
  unfold inSq;split
  ·exact List.Perm.refl _
  ·exact(List.Perm.cons y ih).trans (List.Perm.swap x y l)
theorem sortS_perm(l:List Fnd):(sortS l).Perm l:=by
 induction l using snocS_ind with
 |h0=>exact List.Perm.refl _
 |h1 l x ih=>
  rw[sortS_snoc];exact(inSq_perm x _).trans ((List.Perm.cons x ih).trans (List.perm_append_singleton x l).symm)
theorem scan_count(bs:List Bk)(m:Nat)(h:∀b∈bs,b.2.2.length≤m):(scanF bs).length≤bs.length*m:=by
 have hf:∀n,(founds bs n).length≤n*m:=by
  intro n
  induction n with
  |zero=>simp[founds]
  |succ n ih=>
   rw[founds,List.length_append,Nat.succ_mul];have h1:=foundsAt_len bs n ((bs[n]?).map (fun r=>r.2.2.length)|>.getD 0)
   have h2:((bs[n]?).map (fun r=>r.2.2.length)|>.getD 0)≤m:=by
    cases e:bs[n]? with
    |none=>simp
    |some r=>simpa using h r (List.mem_of_getElem? e)
   omega
 unfold scanF;rw[(sortS_perm _).length_eq];exact hf bs.length
end Go.Proofs.YtpdoponghlpkcaaDoor
