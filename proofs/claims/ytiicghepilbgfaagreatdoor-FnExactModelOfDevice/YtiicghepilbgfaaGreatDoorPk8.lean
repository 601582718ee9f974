/-
  TMath; ZMath; ChM; RoMath; HpMath; PlMath; PoMath; RcMath; TxMath; TxMath2; TrMath3; TrMath4; SwMath; StoM; StoM2; StoM3; StoM4; StoM5; StoM6; StoM7; DvM; BkP; FRP; DvM2; DvM3; DvM4; DvM5; DvM6; DvM7; DvM8
-/
import Derived.Test.YtiicghepilbgfaaGreatDoorPk6
import Derived.Test.YtiicghepilbgfaaGreatDoorPk7
import Derived.Test.YtiicghepilbgfaaGreatDoorPk2
namespace Go.Proofs.YtiicghepilbgfaaGreatDoor.Pack
def mlen:Nat→List UInt8→List UInt8→Nat
 |0,_,_=>0
 |f+1,a::al,b::bs=>if a=b then mlen f al bs+1 else 0
 |_+1,_,_=>0
theorem mlen_le(f:Nat)(a b:List UInt8):mlen f a b≤f∧mlen f a b≤b.length:=by
 induction f generalizing a b with
 |zero=>simp[mlen]
 |succ f ih=>
  cases a with
  |nil=>simp[mlen]
  |cons x al=>
   cases b with
   |nil=>simp[mlen]
   |cons y bs=>
    unfold mlen;split
    ·have:=ih al bs;simp only[List.length_cons];omega
    ·simp
theorem mlen_same(f:Nat)(a b:List UInt8)(i:Nat)(h:i<mlen f a b):a[i]?=b[i]?∧i<b.length:=by
 induction f generalizing a b i with
 |zero=>simp[mlen]at h
 |succ f ih=>
  cases a with
  |nil=>simp[mlen]at h
  |cons x al=>
   cases b with
   |nil=>simp[mlen]at h
   |cons y bs=>
    unfold mlen at h;split at h
    ·rename_i e
     subst e;cases i with
     |zero=>simp
     |succ i=>
      have:=ih al bs i (by omega)
      simp only[List.getElem?_cons_succ,List.length_cons];exact⟨this.1,by omega⟩
    ·omega
def best(s:List UInt8)(at_:Nat):Nat→Nat×Nat
 |0=>(0,0)
 |k+1=>if 4≤mlen 31 (s.drop (at_-(k+1))) (s.drop at_)∧(best s at_ k).1<mlen 31 (s.drop (at_-(k+1))) (s.drop at_)then(mlen 31 (s.drop (at_-(k+1))) (s.drop at_),k+1)else best s at_ k
theorem best_of(s:List UInt8)(at_ k:Nat):best s at_ k=(0,0)∨(4≤(best s at_ k).1∧(best s at_ k).1≤31∧0<(best s at_ k).2∧(best s at_ k).2≤k∧(best s at_ k).1=mlen 31 (s.drop (at_-(best s at_ k).2)) (s.drop at_)):=by
 induction k with
 |zero=>left;rfl
 |succ k ih=>
  unfold best;split
  ·rename_i h
   right;have:=(mlen_le 31 (s.drop (at_-(k+1))) (s.drop at_)).1;exact⟨h.1,this,Nat.succ_pos k,Nat.le_refl _,rfl⟩
  ·rcases ih with h|h
   ·left;exact h
   ·right;exact⟨h.1,h.2.1,h.2.2.1,by omega,h.2.2.2.2⟩
def stepT(s:List UInt8)(st:Nat×List (Nat×Nat×List UInt8)):Nat×List (Nat×Nat×List UInt8):=
 if 0<(best s st.1 st.1).1 then(st.1+(best s st.1 st.1).1,st.2++[((best s st.1 st.1).2,(best s st.1 st.1).1,[])])
 else match st.2.getLast? with
  |some (0,z,t)=>if t.length<31 then(st.1+1,st.2.dropLast++[(0,z,t++[s.getD st.1 0])])else(st.1+1,st.2++[(0,0,[s.getD st.1 0])])
  |_=>(st.1+1,st.2++[(0,0,[s.getD st.1 0])])
def stepsT:Nat→List UInt8→Nat×List (Nat×Nat×List UInt8)
 |0,_=>(0,[])
 |n+1,s=>if (stepsT n s).1<s.length then stepT s (stepsT n s)else stepsT n s
def toks(s:List UInt8):List (Nat×Nat×List UInt8):=(stepsT s.length s).2
def again:Nat→Nat→List UInt8→List UInt8
 |0,_,out=>out
 |n+1,back,out=>again n back (out++[out.getD (out.length-back) 0])
def TokOk(len:Nat)(t:Nat×Nat×List UInt8):Prop:=if t.1=0 then(1≤t.2.2.length∧t.2.2.length≤31∧t.2.1=0)else(t.1≤len∧1≤t.2.1∧t.2.1≤31∧t.2.2=[])
abbrev decTok(len:Nat)(t:Nat×Nat×List UInt8):Decidable (TokOk len t):=by unfold TokOk;exact inferInstance
def tell(out:List UInt8)(t:Nat×Nat×List UInt8):List UInt8:=if t.1=0 then out++t.2.2 else again t.2.1 t.1 out
def plainFrom(out:List UInt8):List (Nat×Nat×List UInt8)→Option (List UInt8)
 | []=>some out
 |t::r=>letI:=decTok out.length t;if TokOk out.length t then(if (tell out t).length≤64 then plainFrom (tell out t) r else none)else none
def plain(l:List (Nat×Nat×List UInt8)):Option (List UInt8):=plainFrom [] l
theorem plainFrom_append(out:List UInt8)(a b:List (Nat×Nat×List UInt8)):plainFrom out (a++b)=(plainFrom out a).bind fun o=>plainFrom o b:=by
 induction a generalizing out with
 |nil=>rfl
 |cons t a ih=>
  simp only[List.cons_append,plainFrom];split
  ·split
   ·exact ih _
   ·rfl
  ·rfl
theorem plainFrom_snoc(a:List (Nat×Nat×List UInt8))(t:Nat×Nat×List UInt8)(o:List UInt8)(h:plain a=some o)(h1:TokOk o.length t)(h2:(tell o t).length≤64):plain (a++[t])=some (tell o t):=by
 unfold plain at*;rw[plainFrom_append,h];simp only[Option.bind_some,plainFrom];rw[if_pos h1,if_pos h2]
theorem again_take(s:List UInt8)(at_ back n:Nat)(hb:0<back)(hk:back≤at_)(h:∀i,i<n→s[at_-back+i]?=s[at_+i]?∧at_+i<s.length):again n back (s.take at_)=s.take (at_+n):=by
 induction n generalizing at_ with
 |zero=>rfl
 |succ n ih=>
  have h0:=h 0 (by omega)
  have hl:at_<s.length:=by have:=h0.2;omega
  have hlen:(s.take at_).length=at_:=by rw[List.length_take];omega
  have e:s.take at_++[(s.take at_).getD ((s.take at_).length-back) 0]=s.take (at_+1):=by
   rw[List.take_succ_eq_append_getElem hl,hlen];congr 2;rw[List.getD_eq_getElem?_getD,List.getElem?_take_of_lt (by omega)]
   have:=h0.1;simp only[Nat.add_zero]at this;rw[this,List.getElem?_eq_getElem hl];rfl
  unfold again;rw[e,ih (at_+1) (by omega) (fun i hi=>by
   have:=h (i+1) (by omega)
   rw[show at_+1-back+i=at_-back+(i+1)by omega,show at_+1+i=at_+(i+1)by omega]
   exact this),show at_+1+n=at_+(n+1)by omega]
def Kept(s:List UInt8)(st:Nat×List (Nat×Nat×List UInt8)):Prop:=st.1≤s.length∧plain st.2=some (s.take st.1)∧∀t∈st.2,t.1=0∨4≤t.2.1
theorem plain_last(a:List (Nat×Nat×List UInt8))(t:Nat×Nat×List UInt8)(o:List UInt8)(h:plain (a++[t])=some o):∃o',plain a=some o'∧TokOk o'.length t∧tell o' t=o:=by
 unfold plain at*;rw[plainFrom_append]at h;cases hp:plainFrom [] a with
 |none=>rw[hp]at h;cases h
 |some o'=>
  rw[hp]at h;simp only[Option.bind_some,plainFrom]at h;split at h
  ·split at h
   ·rename_i h1 h2
    cases h;exact⟨o',rfl,h1,rfl⟩
   ·cases h
  ·cases h
theorem take_next(s:List UInt8)(k:Nat)(h:k<s.length):s.take k++[s.getD k 0]=s.take (k+1):=by
 rw[List.take_succ_eq_append_getElem h,List.getD_eq_getElem?_getD,List.getElem?_eq_getElem h];rfl
theorem kept_new(s:List UInt8)(k:Nat)(out:List (Nat×Nat×List UInt8))(hs:s.length≤64)(hk:k<s.length)(h:Kept s (k,out)):Kept s (k+1,out++[(0,0,[s.getD k 0])]):=by
 refine⟨hk,?_,?_⟩
 ·have hp:=plainFrom_snoc out (0,0,[s.getD k 0]) _ h.2.1 (by simp[TokOk]) (by simp[tell];omega)
  rw[hp];simp only[tell,if_true];exact congrArg some (take_next s k hk)
 ·intro t ht;rcases List.mem_append.1 ht with h'|h'
  ·exact h.2.2 t h'
  ·simp at h';subst h';left;rfl
theorem kept_step(s:List UInt8)(st:Nat×List (Nat×Nat×List UInt8))(hs:s.length≤64)(hk:st.1<s.length)(h:Kept s st):Kept s (stepT s st)∧st.1<(stepT s st).1:=by
 obtain⟨k,out⟩:=st;unfold stepT;simp only;split
 ·rename_i hb
  rcases best_of s k k with h0|⟨h4,h31,hb0,hbk,hm⟩
  ·rw[h0]at hb;simp at hb
  ·have hsame:∀i,i<(best s k k).1→s[k-(best s k k).2+i]?=s[k+i]?∧k+i<s.length:=by
    intro i hi;rw[hm]at hi;obtain⟨e1,e2⟩:=mlen_same _ _ _ i hi;rw[List.getElem?_drop,List.getElem?_drop]at e1;rw[List.length_drop]at e2;exact⟨e1,by omega⟩
   have hle:k+(best s k k).1≤s.length:=by
    have:=(hsame ((best s k k).1-1) (by omega)).2
    omega
   have ht:=again_take s k (best s k k).2 (best s k k).1 hb0 hbk hsame;refine⟨⟨hle,?_,?_⟩,by omega⟩
   ·have hl:(s.take k).length=k:=by simp at hk⊢;omega
    have hok:TokOk (s.take k).length ((best s k k).2,(best s k k).1,[]):=by
     unfold TokOk;rw[if_neg (by simp only;omega),hl]
     exact⟨hbk,by simp only;omega,h31,rfl⟩
    have htell:tell (s.take k) ((best s k k).2,(best s k k).1,[])=s.take (k+(best s k k).1):=by
     unfold tell;rw[if_neg (by simp only;omega)]
     exact ht
    have:=plainFrom_snoc out _ _ h.2.1 hok (by rw[htell,List.length_take];omega)
    rw[this,htell]
   ·intro t ht;rcases List.mem_append.1 ht with h'|h'
    ·exact h.2.2 t h'
    ·simp at h';subst h';right;exact h4
 ·split
  ·rename_i z t hlast
   split
   ·rename_i ht
    obtain⟨ini,hini⟩:∃ini,out=ini++[(0,z,t)]:=by
     obtain⟨ini,hi⟩:=List.getLast?_eq_some_iff.1 hlast;exact⟨ini,hi⟩
    subst hini;obtain⟨o',h1,h2,h3⟩:=plain_last ini _ _ h.2.1;simp only[List.dropLast_concat];have h2':=h2;unfold TokOk at h2';rw[if_pos rfl]at h2';have htl:tell o' (0,z,t++[s.getD k 0])=s.take (k+1):=by
     unfold tell at h3⊢;rw[if_pos rfl]at h3⊢;rw[←take_next s k hk,←h3,List.append_assoc]
    refine⟨⟨hk,?_,?_⟩,Nat.lt_succ_self k⟩
    ·have:=plainFrom_snoc ini (0,z,t++[s.getD k 0]) o' h1 (by
      unfold TokOk;rw[if_pos rfl];simp only[List.length_append,List.length_singleton];exact⟨by omega,by omega,h2'.2.2⟩) (by rw[htl,List.length_take];omega)
     rw[this,htl]
    ·intro t' ht';rcases List.mem_append.1 ht' with h'|h'
     ·exact h.2.2 t' (List.mem_append_left _ h')
     ·simp at h';subst h';left;rfl
   ·exact⟨kept_new s k out hs hk h,Nat.lt_succ_self k⟩
  ·exact⟨kept_new s k out hs hk h,Nat.lt_succ_self k⟩
theorem kept_steps(s:List UInt8)(hs:s.length≤64)(n:Nat):Kept s (stepsT n s)∧min n s.length≤(stepsT n s).1:=by
 induction n with
 |zero=>exact⟨⟨Nat.zero_le _,rfl,fun t ht=>by cases ht⟩,by simp⟩
 |succ n ih=>
  unfold stepsT;split
  ·rename_i h
   have:=kept_step s _ hs h ih.1;exact⟨this.1,by omega⟩
  ·exact⟨ih.1,by omega⟩
theorem plain_toks(s:List UInt8)(hs:s.length≤64):plain (toks s)=some s∧∀t∈toks s,t.1=0∨4≤t.2.1:=by
 obtain⟨⟨h1,h2,h3⟩,h4⟩:=kept_steps s hs s.length;refine⟨?_,h3⟩;unfold toks;rw[h2,List.take_of_length_le (by omega)]
end Go.Proofs.YtiicghepilbgfaaGreatDoor.Pack
namespace Go.Proofs.YtiicghepilbgfaaGreatDoor.Pack
def zTok(t:Nat×Nat×List UInt8):List UInt8:=if t.1=0 then UInt8.ofNat t.2.2.length::t.2.2 else[UInt8.ofNat (128+t.2.1),UInt8.ofNat t.1]
def zOf(s:List UInt8):List UInt8:=122::(toks s).flatMap zTok
def packL(s:List UInt8):Option (List UInt8):=if 64<s.length then none else some (if s.length+1≤(zOf s).length then 114::s else zOf s)
def readT:Nat→List UInt8→Option (List (Nat×Nat×List UInt8))
 |_,[]=>some []
 |0,_::_=>none
 |f+1,n::r=>
  if 128<n.toNat then(match r with
   |b::r'=>(readT f r').map fun l=>(b.toNat,n.toNat-128,[])::l
   | []=>none)
  else if n.toNat≤r.length then(readT f (r.drop n.toNat)).map fun l=>(0,0,r.take n.toNat)::l else none
def unpackL(t:List UInt8):Option (List UInt8):=
 match t with
 | []=>none
 |c::r=>(if c=122 then(readT r.length r).bind plain else some r).bind fun s=>if packL s=some t then some s else none
theorem pack_len(s t:List UInt8)(h:packL s=some t):t.length≤s.length+1:=by
 unfold packL at h;split at h
 ·cases h
 ·cases h;split
  ·simp
  ·omega
def Fit(t:Nat×Nat×List UInt8):Prop:=(t.1=0∧1≤t.2.2.length∧t.2.2.length≤31∧t.2.1=0)∨(0<t.1∧t.1≤64∧1≤t.2.1∧t.2.1≤31∧t.2.2=[])
theorem fit_of(out o:List UInt8)(l:List (Nat×Nat×List UInt8))(ho:out.length≤64)(h:plainFrom out l=some o):∀t∈l,Fit t:=by
 induction l generalizing out with
 |nil=>intro t ht;cases ht
 |cons a l ih=>
  unfold plainFrom at h;split at h
  ·rename_i hok
   split at h
   ·rename_i hlen
    intro t ht;rcases List.mem_cons.1 ht with e|e
    ·subst e;unfold TokOk at hok;split at hok
     ·rename_i h0
      exact .inl ⟨h0,hok⟩
     ·rename_i h0
      exact .inr ⟨by omega,by omega,hok.2⟩
    ·exact ih _ hlen h t e
   ·cases h
  ·cases h
theorem small_byte(n:Nat)(h:n<256):(UInt8.ofNat n).toNat=n:=by rw[UInt8.toNat_ofNat'];omega
theorem zTok_len(t:Nat×Nat×List UInt8):1≤(zTok t).length:=by
 unfold zTok;split<;>simp
theorem readT_of(l:List (Nat×Nat×List UInt8))(h:∀t∈l,Fit t)(f:Nat)(hf:(l.flatMap zTok).length≤f):readT f (l.flatMap zTok)=some l:=by
 induction l generalizing f with
 |nil=>
  simp only[List.flatMap_nil];cases f<;>rfl
 |cons t l ih=>
  have ht:=h t (by simp)
  have hl:=ih (fun t ht=>h t (by simp[ht]))
  rw[List.flatMap_cons]at hf⊢;rw[List.length_append]at hf;have h1:=zTok_len t;obtain⟨g,rfl⟩:∃g,f=g+1:=⟨f-1,by omega⟩
  obtain⟨b,n,x⟩:=t;rcases ht with⟨e0,e1,e2,e3⟩|⟨e0,e1,e2,e3,e4⟩
  ·simp only at e0 e1 e2 e3;subst e0 e3;have hz:zTok (0,0,x)=UInt8.ofNat x.length::x:=rfl;rw[hz]at hf⊢;rw[List.cons_append];unfold readT;rw[small_byte x.length (by omega),if_neg (by omega),if_pos (by simp)]
   rw[List.drop_left,List.take_left,hl g (by simp only[List.length_cons]at hf;omega)]
   rfl
  ·simp only at e0 e1 e2 e3 e4;subst e4;have hz:zTok (b,n,[])=[UInt8.ofNat (128+n),UInt8.ofNat b]:=by
    unfold zTok;rw[if_neg (by simp only;omega)]
   rw[hz]at hf⊢;rw[List.cons_append];unfold readT;rw[small_byte (128+n) (by omega),if_pos (by omega)]
   simp only[List.cons_append,List.nil_append];rw[hl g (by simp only[List.length_cons,List.length_nil]at hf;omega),small_byte b (by omega)]
   simp
theorem unpack_pack(s t:List UInt8)(h:packL s=some t):unpackL t=some s:=by
 have hs:s.length≤64:=by
  unfold packL at h;split at h
  ·cases h
  ·omega
 obtain⟨hp,-⟩:=plain_toks s hs;have h':=h;unfold packL at h';rw[if_neg (by omega)]at h'
 split at h'
 ·cases h';unfold unpackL;simp only;rw[if_neg (by decide)]
  simp only[Option.bind_some];rw[if_pos h]
 ·cases h';show(if (122:UInt8)=122 then(readT ((toks s).flatMap zTok).length ((toks s).flatMap zTok)).bind plain else some _).bind _=_
  rw[if_pos rfl,readT_of _ (fit_of [] s _ (by simp) hp) _ (Nat.le_refl _)]
  simp only[Option.bind_some,hp];rw[if_pos h]
theorem pack_unpack(s t:List UInt8)(h:unpackL t=some s):packL s=some t:=by
 unfold unpackL at h;split at h
 ·cases h
 ·rename_i c r
  cases hx:(if c=122 then(readT r.length r).bind plain else some r)with
  |none=>rw[hx]at h;cases h
  |some x=>
   rw[hx]at h;simp only[Option.bind_some]at h;split at h
   ·rename_i e
    cases h;exact e
   ·cases h
theorem again_len(n back:Nat)(out:List UInt8):(again n back out).length=out.length+n:=by
 induction n generalizing out with
 |zero=>rfl
 |succ n ih=>unfold again;rw[ih];simp;omega
end Go.Proofs.YtiicghepilbgfaaGreatDoor.Pack
namespace Go.Proofs.YtiicghepilbgfaaGreatDoor
open Words Sums Pack
def isData(c:Int)(x:Fnd):Bool:=x.page.kind==1&&x.page.tx==c
def newP(M:List Fnd)(c:Int):Option Fnd:=(M.filter (isData c)).getLast?
def textP(M:List Fnd)(c:Int):Option (List UInt8):=(newP M c).bind fun x=>unpackL x.page.text.data.toList
theorem newP_snoc(l:List Fnd)(x:Fnd)(c:Int):newP (l++[x]) c=if isData c x then some x else newP l c:=by
 unfold newP;rw[List.filter_append];by_cases h:isData c x=true
 ·rw[List.filter_cons_of_pos h,List.filter_nil,List.getLast?_concat,if_pos h]
 ·rw[List.filter_cons_of_neg h,List.filter_nil,List.append_nil,if_neg h]
theorem newP_mem{l:List Fnd}{c:Int}{x:Fnd}(h:newP l c=some x):x∈l∧isData c x=true:=by
 unfold newP at h;have:=List.mem_of_getLast? h;rw[List.mem_filter]at this;exact this
theorem newP_succ{M:List Fnd}{k:Nat}{x:Fnd}(h:M[k]?=some x)(c:Int):newP (M.take (k+1)) c=if isData c x then some x else newP (M.take k) c:=by
 rw[List.take_add_one,h];exact newP_snoc _ _ _
theorem inSq_perm(x:Fnd)(l:List Fnd):(inSq x l).Perm (x::l):=by
 induction l with
 |nil=>exact List.Perm.refl _
 |cons y l ih=>
  unfold inSq;split
  ·exact List.Perm.refl _
  ·exact(List.Perm.cons y ih).trans (List.Perm.swap x y l)
theorem sortS_perm(l:List Fnd):(sortS l).Perm l:=by
 induction l using snocS_ind with
 |h0=>exact List.Perm.refl _
 |h1 l x ih=>
  rw[sortS_snoc];exact(inSq_perm x _).trans ((List.Perm.cons x ih).trans (List.perm_append_singleton x l).symm)
theorem scan_count(bs:List Bk)(m:Nat)(h:∀b∈bs,b.2.2.length≤m):(scanF bs).length≤bs.length*m:=by
 have hf:∀n,(founds bs n).length≤n*m:=by
  intro n
  induction n with
  |zero=>simp[founds]
  |succ n ih=>
   rw[founds,List.length_append,Nat.succ_mul];have h1:=foundsAt_len bs n ((bs[n]?).map (fun r=>r.2.2.length)|>.getD 0)
   have h2:((bs[n]?).map (fun r=>r.2.2.length)|>.getD 0)≤m:=by
    cases e:bs[n]? with
    |none=>simp
    |some r=>simpa using h r (List.mem_of_getElem? e)
   omega
 unfold scanF;rw[(sortS_perm _).length_eq];exact hf bs.length
theorem scan_right{bs:List Bk}{x:Fnd}(h:x∈scanF bs):x.page.Right:=by
 obtain⟨b,l,-,-,-,-,hp⟩:=scan_mem h;unfold leafPg at hp;split at hp
 ·exact(readPg_right hp).1
 ·cases hp
end Go.Proofs.YtiicghepilbgfaaGreatDoor
namespace Go.Proofs.YtiicghepilbgfaaGreatDoor.Words
structure Rc where
 kind:Int
 vol:Int
 arg:Int
 chunk:Int
def recL(r:Rc):List UInt8:=UInt8.ofNat (16*r.kind+r.vol).toNat::(varL r.arg.toNat++varL r.chunk.toNat)
def recsL:List Rc→List UInt8
 | []=> []
 |r::l=>recL r++recsL l
end Go.Proofs.YtiicghepilbgfaaGreatDoor.Words
namespace Go.Proofs.YtiicghepilbgfaaGreatDoor.Words
def pkStep(s:List (List Rc)×List Rc)(r:Rc):List (List Rc)×List Rc:=
 if 90<(recsL s.2).length+(recL r).length then(s.1++[s.2],[r])else(s.1,s.2++[r])
def pk(l:List Rc):List (List Rc)×List Rc:=l.foldl pkStep ([],[])
end Go.Proofs.YtiicghepilbgfaaGreatDoor.Words
namespace Go.Proofs.YtiicghepilbgfaaGreatDoor
namespace Words
def pt(l:List Kn)(r:Int)(s:Nat)(n:Int):List Kn:=l++[putLf l r s n,putTop l r s]
end Words
namespace Words
structure Sto where
 vols:List (Int×Int)
 kns:List Kn
 next:Int
def atK(l:List (Int×Int))(id:Int):Nat→Option Nat
 |0=>none
 |k+1=>match atK l id k with
  |some j=>some j
  |none=>match l[k]? with
   |some v=>if v.1=id then some k else none
   |none=>none
def atV(l:List (Int×Int))(id:Int):Option Nat:=atK l id l.length
theorem atK_some{l:List (Int×Int)}{id:Int}{k j:Nat}(h:atK l id k=some j):j<k∧∃v,l[j]?=some v∧v.1=id:=by
 induction k with
 |zero=>cases h
 |succ k ih=>
  rw[atK]at h;cases e:atK l id k with
  |some i=>
   rw[e]at h;injection h with h
   subst h;obtain⟨h1,h2⟩:=ih e;exact⟨by omega,h2⟩
  |none=>
   rw[e]at h;simp only at h;split at h
   ·rename_i v hv
    split at h
    ·rename_i hid
     injection h with h
     subst h;exact⟨by omega,v,hv,hid⟩
    ·cases h
   ·cases h
theorem atK_no{l:List (Int×Int)}{id:Int}{k:Nat}{v:Int×Int}(h:atK l id k=none)(hv:l[k]?=some v)(hn:v.1≠id):atK l id (k+1)=none:=by
 rw[atK,h,hv];exact if_neg hn
theorem atK_yes{l:List (Int×Int)}{id:Int}{k:Nat}{v:Int×Int}(h:atK l id k=none)(hv:l[k]?=some v)(hn:v.1=id):∀m,k<m→atK l id m=some k:=by
 intro m
 induction m with
 |zero=>intro h;omega
 |succ m ih=>
  intro hm;by_cases e:m=k
  ·subst e;rw[atK,h,hv];exact if_pos hn
  ·rw[atK,ih (by omega)]
theorem atV_some{l:List (Int×Int)}{id:Int}{j:Nat}(h:atV l id=some j):∃v,l[j]?=some v∧v.1=id:=(atK_some h).2
def rootV(l:List (Int×Int))(id:Int):Option Int:=(atV l id).bind (fun k=>(l[k]?).map (·.2))
def chunkS(s:Sto)(vol sector:Int):Int:=match rootV s.vols vol with
 |some r=>getT s.kns r sector
 |none=>0
def tellS(s:Sto):List (Int×List Int):=s.vols.map (fun v=>(v.1,allT s.kns v.2))
end Words
namespace Words
theorem tell_at{s:Sto}{k:Nat}{v:Int×Int}(h:s.vols[k]?=some v):(tellS s)[k]?=some (v.1,allT s.kns v.2):=by
 rw[tellS,List.getElem?_map,h];rfl
end Words
end Go.Proofs.YtiicghepilbgfaaGreatDoor
namespace Go.Proofs.YtiicghepilbgfaaGreatDoor
open Words Sums Pack
structure Dv where
 flash:List Bk
 store:Sto
 seq:Int
 tx:Int
 base:Int
end Go.Proofs.YtiicghepilbgfaaGreatDoor
namespace Go.Proofs.YtiicghepilbgfaaGreatDoor
def Right(n:Int)(bs:List Bk):Prop:=flOk bs=true∧∀r∈bs,r.2.1≤n
end Go.Proofs.YtiicghepilbgfaaGreatDoor
namespace Go.Proofs.YtiicghepilbgfaaGreatDoor
open Words Sums Pack
def noT:ByteArray:=⟨#[]⟩
def BAt(l:List UInt8):ByteArray:=⟨l.toArray⟩
def readP(d:Dv)(vol sector:Int):ByteArray×Bool:=
 if (atV d.store.vols vol).isSome then
  if chunkS d.store vol sector=0 then(noT,true)
  else match textP (scanF d.flash) (chunkS d.store vol sector)with
   |some t=>(BAt t,true)
   |none=>(noT,false)
 else(noT,false)
end Go.Proofs.YtiicghepilbgfaaGreatDoor
