/-
  SMath; SeP; DecI; Math; Math2
-/
import Derived.Test.YtiicghepilbgfaaGreatDoorPk0
namespace Go.Proofs.YtiicghepilbgfaaGreatDoor.Sums
def poly:Nat:=3558460437
def half(x:Nat):Nat:=x/2^^^(if x % 2=1 then poly else 0)
def h4(x:Nat):Nat:=half (half (half (half x)))
def sumB(s:Nat)(b:UInt8):Nat:=h4 (h4 (s^^^b.toNat))
def sumL(s:Nat)(l:List UInt8):Nat:=l.foldl sumB s
def tab:List Nat:=[0,1166650509,2333301018,3466261911,3189058079,4221339282,889615109,1888477064,3558460437,2442158232,1594529039,444807554,1779230218,797264519,3776954128,2761298845]
theorem mod2_lt(x:Nat):x % 2=0∨x % 2=1:=by omega
theorem half_lt(x:Nat)(h:x<4294967296):half x<4294967296:=by
 unfold half;refine Nat.xor_lt_two_pow (n:=32) (by omega) ?_
 split<;>simp[poly]
theorem h4_lt(x:Nat)(h:x<4294967296):h4 x<4294967296:=half_lt _ (half_lt _ (half_lt _ (half_lt _ h)))
theorem byte_lt(b:UInt8):b.toNat<256:=by have:=b.toNat_lt;omega
theorem xor_lt32(x y:Nat)(h:x<4294967296)(k:y<4294967296):x^^^y<4294967296:=Nat.xor_lt_two_pow (n:=32) h k
theorem xb_lt(s:Nat)(b:UInt8)(h:s<4294967296):s^^^b.toNat<4294967296:=xor_lt32 _ _ h (by have:=byte_lt b;omega)
theorem sumB_lt(s:Nat)(b:UInt8)(h:s<4294967296):sumB s b<4294967296:=h4_lt _ (h4_lt _ (xb_lt s b h))
theorem sumL_lt(l:List UInt8):∀s,s<4294967296→sumL s l<4294967296:=by
 induction l with
 |nil=>intro s h;exact h
 |cons a l ih=>intro s h;exact ih _ (sumB_lt s a h)
theorem sumL_app(s:Nat)(l k:List UInt8):sumL s (l++k)=sumL (sumL s l) k:=by simp[sumL]
theorem sumL_take(s:Nat)(l:List UInt8)(k:Nat)(h:k<l.length):sumL s (l.take (k+1))=sumB (sumL s (l.take k)) l[k]:=by
 rw[List.take_succ_eq_append_getElem h,sumL_app];rfl
theorem xor_half(x y:Nat):half (x^^^y)=half x^^^half y:=by
 unfold half;have e1:(x^^^y)/2=x/2^^^y/2:=by
  have:=Nat.shiftRight_xor_distrib (a:=x) (b:=y) (i:=1)
  simpa[Nat.shiftRight_eq_div_pow]using this
 have e2:(x^^^y) % 2=(x % 2)^^^(y % 2):=by
  have:=Nat.xor_mod_two_pow (a:=x) (b:=y) (n:=1)
  simpa using this
 rw[e1,e2];rcases mod2_lt x with hx|hx<;>rcases mod2_lt y with hy|hy<;>simp[hx,hy]
 ·rw[Nat.xor_assoc]
 ·rw[Nat.xor_assoc,Nat.xor_assoc];congr 1;exact Nat.xor_comm _ _
 ·rw[Nat.xor_assoc,←Nat.xor_assoc poly,Nat.xor_comm poly,Nat.xor_assoc (y/2),Nat.xor_self,Nat.xor_zero]
theorem xor_h4(x y:Nat):h4 (x^^^y)=h4 x^^^h4 y:=by simp only[h4,xor_half]
theorem half_two(x:Nat):half (2*x)=x:=by
 unfold half;have e1:2*x/2=x:=by omega
 have e2:2*x % 2=0:=by omega
 rw[e1,e2];simp
theorem h4_16(q:Nat):h4 (16*q)=q:=by
 unfold h4;rw[show 16*q=2*(2*(2*(2*q)))by omega,half_two,half_two,half_two,half_two]
theorem h4_low:∀r:Fin 16,h4 r.val=tab[r.val]'(by simp[tab]):=by decide
theorem split16(x:Nat):x=(16*(x/16))^^^(x % 16):=by
 have h:=Nat.two_pow_add_eq_or_of_lt (i:=4) (b:=x % 16) (by omega) (x/16)
 have e:16*(x/16)^^^(x % 16)=16*(x/16)|||(x % 16):=by
  apply Nat.eq_of_testBit_eq;intro i;rw[Nat.testBit_xor,Nat.testBit_or];have e16:(16:Nat)=2^4:=rfl;by_cases hi:i<4
  ·have:(16*(x/16)).testBit i=false:=by rw[e16,Nat.testBit_two_pow_mul];simp;omega
   simp[this]
  ·have:(x % 16).testBit i=false:=by rw[e16,Nat.testBit_mod_two_pow];simp;omega
   simp[this]
 rw[e];simp at h;omega
theorem tab_len:tab.length=16:=rfl
theorem h4_tab(x:Nat)(h:x % 16<tab.length):h4 x=x/16^^^tab[x % 16]:=by
 have e:=h4_low ⟨x % 16,by omega⟩
 simp only at e;rw[←e]
 conv=>lhs;rw[split16 x,xor_h4,h4_16]
def four(x:Nat):List UInt8:=[UInt8.ofNat (x/16777216 % 256),UInt8.ofNat (x/65536 % 256),UInt8.ofNat (x/256 % 256),UInt8.ofNat (x % 256)]
theorem four_len(x:Nat):(four x).length=4:=rfl
def start:Nat:=4294967295
def sumOf(l:List UInt8):Nat:=sumL start l
theorem sumOf_lt(l:List UInt8):sumOf l<4294967296:=sumL_lt l _ (by decide)
end Go.Proofs.YtiicghepilbgfaaGreatDoor.Sums
namespace Go.Proofs.YtiicghepilbgfaaGreatDoor
open Sums
def sealA(t:ByteArray):ByteArray:=t++⟨(four (sumOf t.data.toList)).toArray⟩
def body(t:ByteArray):ByteArray:=t.extract 0 (t.size-4)
theorem body_size(t:ByteArray):(body t).size=t.size-4:=by simp[body]
def unA(t:ByteArray):Option ByteArray:=
 if 4≤t.size∧t.size≤20004∧(sealA (body t)).data.toList=t.data.toList then some (body t)else none
theorem unA_some{t s:ByteArray}(h:unA t=some s):sealA s=t∧s.size≤20000:=by
 unfold unA at h;split at h
 ·rename_i hc
  cases h;exact⟨ByteArray.ext (Array.toList_inj.1 hc.2.2),by rw[body_size];omega⟩
 ·cases h
theorem unA_none{t:ByteArray}(h:¬(4≤t.size∧t.size≤20004∧sealA (body t)=t)):unA t=none:=by
 unfold unA;rw[if_neg];rintro⟨a,b,c⟩;exact h ⟨a,b,ByteArray.ext (Array.toList_inj.1 c)⟩
theorem unA_yes{t:ByteArray}(h1:4≤t.size)(h2:t.size≤20004)(h3:sealA (body t)=t):unA t=some (body t):=by
 unfold unA;rw[if_pos ⟨h1,h2,by rw[h3]⟩]
end Go.Proofs.YtiicghepilbgfaaGreatDoor
namespace Go.Proofs.YtiicghepilbgfaaGreatDoor
theorem dcY{p:Prop}{d:Decidable p}(h:p): @decide p d=true:=decide_eq_true h
theorem dcN{p:Prop}{d:Decidable p}(h:¬p): @decide p d=false:=decide_eq_false h
theorem dcE{p q:Prop}{d:Decidable p}{e:Decidable q}(h:p↔q): @decide p d= @decide q e:=decide_eq_decide.2 h
end Go.Proofs.YtiicghepilbgfaaGreatDoor
namespace Go.Proofs.YtiicghepilbgfaaGreatDoor.Words
def varF:Nat→Nat→List UInt8
 |0,n=> [UInt8.ofNat n]
 |f+1,n=>if n<128 then[UInt8.ofNat n]else UInt8.ofNat (n % 128+128)::varF f (n/128)
def varL(n:Nat):List UInt8:=varF n n
theorem varF_fuel:∀(f g n:Nat),n≤f→n≤g→varF f n=varF g n:=by
 intro f
 induction f with
 |zero=>
  intro g n hf hg;have:n=0:=by omega
  subst this;cases g<;>simp[varF]
 |succ f ih=>
  intro g n hf hg;cases g with
  |zero=>
   have:n=0:=by omega
   subst this;simp[varF]
  |succ g=>
   simp only[varF];split
   ·rfl
   ·rw[ih g (n/128) (by omega) (by omega)]
theorem varL_low(n:Nat)(h:n<128):varL n=[UInt8.ofNat n]:=by
 unfold varL;cases n with
 |zero=>rfl
 |succ n=>simp[varF,h]
theorem varL_high(n:Nat)(h:128≤n):varL n=UInt8.ofNat (n % 128+128)::varL (n/128):=by
 unfold varL;cases n with
 |zero=>omega
 |succ n=>
  rw[varF,if_neg (by omega)]
  rw[varF_fuel n ((n+1)/128) ((n+1)/128) (by omega) (Nat.le_refl _)]
theorem varL_len(n:Nat)(h:n<9223372036854775808):0<(varL n).length∧(varL n).length≤9:=by
 have low:∀n,n<128→(varL n).length=1:=fun n h=>by rw[varL_low n h];rfl
 have step:∀(k:Nat) (b:Nat),(∀n,n<b→0<(varL n).length∧(varL n).length≤k)→128≤128*b→∀n,n<128*b→0<(varL n).length∧(varL n).length≤k+1:=by
  intro k b ih _ n hn;by_cases h1:n<128
  ·rw[low n h1];omega
  ·rw[varL_high n (by omega),List.length_cons]
   have:=ih (n/128) (by omega)
   omega
 have h1:∀n,n<128→0<(varL n).length∧(varL n).length≤1:=fun n h=>by rw[low n h];omega
 have h2:=step 1 128 h1 (by omega)
 have h3:=step 2 (128*128) h2 (by omega)
 have h4:=step 3 (128*(128*128)) h3 (by omega)
 have h5:=step 4 (128*(128*(128*128))) h4 (by omega)
 have h6:=step 5 (128*(128*(128*(128*128)))) h5 (by omega)
 have h7:=step 6 (128*(128*(128*(128*(128*128))))) h6 (by omega)
 have h8:=step 7 (128*(128*(128*(128*(128*(128*128)))))) h7 (by omega)
 have h9:=step 8 (128*(128*(128*(128*(128*(128*(128*128))))))) h8 (by omega)
 exact h9 n (by omega)
def valL:List UInt8→Nat
 | []=>0
 |c::r=>c.toNat % 128+128*valL r
theorem valL_snoc(l:List UInt8)(c:UInt8):valL (l++[c])=valL l+c.toNat % 128*128^l.length:=by
 induction l with
 |nil=>simp[valL]
 |cons a l ih=>
  simp only[List.cons_append,valL,ih,List.length_cons,Nat.pow_succ];rw[Nat.mul_add,←Nat.add_assoc];congr 1;rw[Nat.mul_left_comm,Nat.mul_comm 128]
theorem valL_lt(l:List UInt8):valL l<128^l.length:=by
 induction l with
 |nil=>simp[valL]
 |cons a l ih=>
  simp only[valL,List.length_cons,Nat.pow_succ];omega
def scan:Nat→List UInt8→Option (List UInt8)
 |0,_=>none
 |_+1,[]=>none
 |f+1,c::r=>if c.toNat<128 then some [c]else(scan f r).map (c::·)
theorem ofNat_toNat(c:UInt8):UInt8.ofNat c.toNat=c:=by simp
theorem var_val:∀(p:List UInt8) (c:UInt8),c.toNat<128→(∀x∈p,128≤x.toNat)→
 (varL (valL (p++[c]))=p++[c]↔¬(c.toNat=0∧p≠ []))∧(valL (p++[c])=0→c.toNat=0):=by
 intro p
 induction p with
 |nil=>
  intro c hc _;have e:valL ([]++[c])=c.toNat:=by simp[valL];omega
  rw[e,varL_low _ hc];simp
 |cons a p ih=>
  intro c hc hp;have ha:128≤a.toNat:=hp a (by simp)
  have ha2:a.toNat<256:=a.toNat_lt;obtain⟨i1,i2⟩:=ih c hc (fun x hx=>hp x (by simp[hx]))
  have e:valL (a::p++[c])=a.toNat % 128+128*valL (p++[c]):=rfl;rw[e];refine⟨?_,fun h=>i2 (by omega)⟩
  by_cases hv:valL (p++[c])=0
  ·have hc0:=i2 hv;rw[hv,varL_low _ (by omega)]
   constructor
   ·intro h;have:=congrArg List.length h;simp at this
   ·intro h;exact absurd ⟨hc0,by simp⟩ h
  ·rw[varL_high _ (by omega)]
   have e1:(a.toNat % 128+128*valL (p++[c])) % 128+128=a.toNat:=by omega
   have e2:(a.toNat % 128+128*valL (p++[c]))/128=valL (p++[c]):=by omega
   rw[e1,e2,ofNat_toNat];constructor
   ·intro h hn;have h':varL (valL (p++[c]))=p++[c]:=by simpa using h
    have:=i1.1 h';by_cases hp0:p=[]
    ·subst hp0;have:valL [c]=0:=by simp[valL,hn.1]
     exact hv this
    ·exact this ⟨hn.1,hp0⟩
   ·intro h;have hc0:¬c.toNat=0:=fun h0=>h ⟨h0,by simp⟩
    have:=i1.2 (fun hh=>hc0 hh.1)
    rw[this];rfl
def readV(text:List UInt8)(at_:Nat):Option (Nat×Nat):=
 match scan 5 (text.drop at_)with
 |none=>none
 |some l=>if valL l≤1000000000∧varL (valL l)=l then some (valL l,at_+l.length)else none
theorem scan_pre:∀(p r:List UInt8) (f:Nat),(∀x∈p,128≤x.toNat)→scan (p.length+f) (p++r)=(scan f r).map (p++·):=by
 intro p
 induction p with
 |nil=>intro r f _;simp
 |cons a p ih=>
  intro r f hp;have ha:=hp a (by simp)
  have e:(a::p).length+f=(p.length+f)+1:=by simp;omega
  rw[e,List.cons_append,scan,if_neg (by omega),ih r f (fun x hx=>hp x (by simp[hx]))]
  cases scan f r<;>simp
end Go.Proofs.YtiicghepilbgfaaGreatDoor.Words
namespace Go.Proofs.YtiicghepilbgfaaGreatDoor.Words
def St(l:List UInt8)(q k n u:Nat):Prop:=
 k≤5∧q+k≤l.length∧(∀x∈(l.drop q).take k,128≤x.toNat)∧n=valL ((l.drop q).take k)∧u=128^k
theorem St.zero{l:List UInt8}{q:Nat}(h:q≤l.length):St l q 0 0 1:=⟨by omega,by omega,by simp,by simp[valL],by simp⟩
theorem take_step{l:List UInt8}{q k:Nat}(h:q+k<l.length):(l.drop q).take (k+1)=(l.drop q).take k++[l[q+k]]:=by
 rw[List.take_succ_eq_append_getElem (by simp;omega)]
 simp
theorem pre_len{l:List UInt8}{q k:Nat}(h:q+k≤l.length):((l.drop q).take k).length=k:=by simp;omega
theorem St.step{l:List UInt8}{q k n u:Nat}(h:St l q k n u)(hk:k<5)(hq:q+k<l.length)(hc:128≤l[q+k].toNat):
 St l q (k+1) (n+l[q+k].toNat % 128*u) (u*128):=by
 obtain⟨h1,h2,h3,h4,h5⟩:=h;refine⟨by omega,by omega,?_,?_,?_⟩
 ·rw[take_step hq];intro x hx;rcases List.mem_append.1 hx with hx|hx
  ·exact h3 x hx
  ·simp at hx;subst hx;exact hc
 ·rw[take_step hq,valL_snoc,pre_len h2,←h4,←h5]
 ·rw[h5,Nat.pow_succ]
theorem St.bounds{l:List UInt8}{q k n u:Nat}(h:St l q k n u):0<u∧n<u∧u≤34359738368∧(k<5→u≤268435456)∧(k=5→u=34359738368):=by
 obtain⟨h1,h2,h3,h4,h5⟩:=h;have hv:=valL_lt ((l.drop q).take k);rw[pre_len h2,←h4,←h5]at hv;have e:u=1∧k=0∨u=128∧k=1∨u=16384∧k=2∨u=2097152∧k=3∨u=268435456∧k=4∨u=34359738368∧k=5:=by
  match k,h1,h5 with
  |0,_,h=>left;exact⟨h,rfl⟩
  |1,_,h=>right;left;exact⟨h,rfl⟩
  |2,_,h=>right;right;left;exact⟨h,rfl⟩
  |3,_,h=>right;right;right;left;exact⟨h,rfl⟩
  |4,_,h=>right;right;right;right;left;exact⟨h,rfl⟩
  |5,_,h=>right;right;right;right;right;exact⟨h,rfl⟩
  |k+6,h,_=>omega
 omega
theorem drop_split{l:List UInt8}{q k:Nat}:l.drop q=(l.drop q).take k++l.drop (q+k):=by
 have:=List.take_append_drop k (l.drop q);rw[List.drop_drop]at this;exact this.symm
theorem St.scan{l:List UInt8}{q k n u:Nat}(h:St l q k n u):scan 5 (l.drop q)=(scan (5-k) (l.drop (q+k))).map ((l.drop q).take k++·):=by
 obtain⟨h1,h2,h3,_,_⟩:=h;have e:=scan_pre ((l.drop q).take k) (l.drop (q+k)) (5-k) h3;rw[pre_len h2,←drop_split]at e;rw[←e];congr 1;omega
theorem St.stop{l:List UInt8}{q k n u:Nat}(h:St l q k n u)(hs:¬(q+k<l.length∧k<5)):readV l q=none:=by
 have e:=h.scan;obtain⟨h1,h2,_,_,_⟩:=h;have:Words.scan (5-k) (l.drop (q+k))=none:=by
  by_cases hk:k=5
  ·subst hk;rfl
  ·have:l.drop (q+k)=[]:=List.drop_eq_nil_of_le (by omega)
   rw[this];obtain⟨f,hf⟩:∃f,5-k=f+1:=⟨4-k,by omega⟩
   rw[hf];rfl
 rw[this]at e;simp[readV,e]
theorem St.hit{l:List UInt8}{q k n u:Nat}(h:St l q k n u)(hk:k<5)(hq:q+k<l.length)(hc:l[q+k].toNat<128):
 readV l q=if n+l[q+k].toNat % 128*u≤1000000000∧¬(l[q+k].toNat=0∧k≠0)then some (n+l[q+k].toNat % 128*u,q+k+1)else none:=by
 have e:=h.scan;obtain⟨h1,h2,h3,h4,h5⟩:=h;have e2:l.drop (q+k)=l[q+k]::l.drop (q+k+1):=List.drop_eq_getElem_cons hq;obtain⟨f,hf⟩:∃f,5-k=f+1:=⟨4-k,by omega⟩
 rw[e2,hf,Words.scan,if_pos hc,Option.map_some]at e;have hv:=(var_val ((l.drop q).take k) l[q+k] hc h3).1;have e3:valL ((l.drop q).take k++[l[q+k]])=n+l[q+k].toNat % 128*u:=by rw[valL_snoc,pre_len h2,←h4,←h5]
 have e4:(l.drop q).take k≠ []↔k≠0:=by
  rw[←List.length_pos_iff,pre_len h2];omega
 rw[e3,e4]at hv;unfold readV;rw[e];simp only[e3,hv];have e5:((l.drop q).take k++[l[q+k]]).length=k+1:=by rw[List.length_append,pre_len h2];rfl
 rw[e5,Nat.add_assoc]
theorem St.hit_yes {l:List UInt8} {q k n u:Nat} (h:St l q k n u) (hk:k<5) (hq:q+k<l.length) (hc:l[q+k].toNat<128)
 (h1:n+l[q+k].toNat % 128*u≤1000000000) (h2:¬(l[q+k].toNat=0∧k≠0)):readV l q=some (n+l[q+k].toNat % 128*u,q+k+1):=by
 rw[h.hit hk hq hc,if_pos ⟨h1,h2⟩]
theorem St.hit_no {l:List UInt8} {q k n u:Nat} (h:St l q k n u) (hk:k<5) (hq:q+k<l.length) (hc:l[q+k].toNat<128)
 (h1:1000000000<n+l[q+k].toNat % 128*u∨l[q+k].toNat=0∧k≠0):readV l q=none:=by
 rw[h.hit hk hq hc,if_neg (by omega)]
theorem St.hit_var{l:List UInt8}{q k n u:Nat}(h:St l q k n u)(hq:q+k<l.length)(hc:l[q+k].toNat<128):
 varL (n+l[q+k].toNat % 128*u)=(l.drop q).take (k+1)↔¬(l[q+k].toNat=0∧k≠0):=by
 obtain⟨h1,h2,h3,h4,h5⟩:=h;have hv:=(var_val ((l.drop q).take k) l[q+k] hc h3).1;have e3:valL ((l.drop q).take k++[l[q+k]])=n+l[q+k].toNat % 128*u:=by rw[valL_snoc,pre_len h2,←h4,←h5]
 have e4:(l.drop q).take k≠ []↔k≠0:=by
  rw[←List.length_pos_iff,pre_len h2];omega
 rw[e3,e4]at hv;rw[take_step hq];exact hv
def At(l:List UInt8)(i c:Nat):Prop:=∃h:i<l.length,l[i].toNat=c
theorem St.step'{l:List UInt8}{q k n u c:Nat}(h:St l q k n u)(hk:k<5)(ha:At l (q+k) c)(hc:128≤c):St l q (k+1) (n+c % 128*u) (u*128):=by
 obtain⟨hq,rfl⟩:=ha;exact h.step hk hq hc
theorem St.yes'{l:List UInt8}{q k n u c:Nat}(h:St l q k n u)(hk:k<5)(ha:At l (q+k) c)(hc:c<128)(h1:n+c % 128*u≤1000000000)(h2:¬(c=0∧k≠0)):
 readV l q=some (n+c % 128*u,q+k+1):=by
 obtain⟨hq,rfl⟩:=ha;exact h.hit_yes hk hq hc h1 h2
theorem St.no'{l:List UInt8}{q k n u c:Nat}(h:St l q k n u)(hk:k<5)(ha:At l (q+k) c)(hc:c<128)(h1:1000000000<n+c % 128*u∨c=0∧k≠0):
 readV l q=none:=by
 obtain⟨hq,rfl⟩:=ha;exact h.hit_no hk hq hc h1
theorem St.var'{l:List UInt8}{q k n u c:Nat}(h:St l q k n u)(ha:At l (q+k) c)(hc:c<128):
 varL (n+c % 128*u)=(l.drop q).take (k+1)↔¬(c=0∧k≠0):=by
 obtain⟨hq,rfl⟩:=ha;exact h.hit_var hq hc
theorem prod_le(c u:Nat)(hu:u≤268435456):c % 128*u≤34091302912:=by
 have h1:c % 128≤127:=by omega
 have:=Nat.mul_le_mul h1 hu;omega
theorem scan_len:∀(f:Nat) (l r:List UInt8),scan f l=some r→r.length≤l.length:=by
 intro f
 induction f with
 |zero=>intro l r h;simp[scan]at h
 |succ f ih=>
  intro l r h;cases l with
  |nil=>simp[scan]at h
  |cons c l=>
   rw[scan]at h;split at h
   ·cases h;simp
   ·cases e:scan f l with
    |none=>simp[e]at h
    |some r'=>
     simp[e]at h;subst h;have:=ih l r' e;simp;omega
theorem readV_le(l:List UInt8)(q n j:Nat)(hq:q≤l.length)(h:readV l q=some (n,j)):j≤l.length∧n≤1000000000:=by
 unfold readV at h;cases e:scan 5 (l.drop q)with
 |none=>simp[e]at h
 |some r=>
  have:=scan_len 5 _ _ e;simp only[List.length_drop]at this;simp only[e]at h;split at h
  ·rename_i h1
   cases h;exact⟨by omega,h1.1⟩
  ·cases h
theorem prod_le_int(c u:Nat)(hu:u≤268435456):(c:Int) % 128*u≤34091302912:=by
 have:=prod_le c u hu;have h:((c % 128*u:Nat):Int)≤(34091302912:Nat):=Int.ofNat_le.2 this
 simpa using h
theorem prod_nn(c u:Nat):0≤(c:Int) % 128*u:=by
 have h:(0:Int)≤((c % 128*u:Nat):Int):=Int.natCast_nonneg _
 simpa using h
theorem prod_cast(n c u:Nat):((n+c % 128*u:Nat):Int)=n+(c:Int) % 128*u:=by simp
end Go.Proofs.YtiicghepilbgfaaGreatDoor.Words
