/-
  Base; SMath; SeP; DecI
-/
import Derived.Test.YtpdoponghlpkcaaDoorRows
import Derived.WalkKit
import Derived.WalkSpells
import Derived.WalkLawsBesides
import Derived.WalkSmall
import Derived.OwnWalk
import Derived.OneCell
import Derived.Lib.Slices
import Derived.Lib.Strings
import Derived.Laws.IdiomStrings
import Derived.Laws.DeepStrings4
import Derived.Deep.RegionWith
import Derived.Deep.RegionHeld3
import Derived.Deep.QuietTactic
import Derived.Deep.AppendLies
import Derived.BigQuiet
import Derived.WalkMore
namespace Go.Proofs.YtpdoponghlpkcaaDoor
open Go.RowKit
theorem infoByte:(Tryd.prog.info? 5).map (fun i=>(i.zero,i.size,i.bytes))=some (some (.int .u8 0),1,1):=by kernel_rfl
theorem hide{p:Prop}(h:p):Hid p:=h
def bcells(l:List UInt8):List Value:=l.map fun b=>Value.int .u8 b.toNat
theorem bcells_snoc(l:List UInt8)(c:UInt8)(x:Int)(h:(c.toNat:Int)=x):bcells l++[Value.int .u8 x]=bcells (l++[c]):=by
 subst h;simp[bcells]
theorem bcells_at(l:List UInt8)(j:Nat)(hj:j<l.length):(bcells l)[j]?=some (.int .u8 (l[j].toNat:Int)):=by
 simp[bcells,hj]
theorem one_cell(w:World)(x:Value)(t:TypeId):∀(j:Nat) (u:Value),[x][j]?=some u→(w.alloc (.cells #[x] t)).cell? ((⟨w.heap.size,0,none⟩:Addr).add j)=some u:=by
 intro j u hj
 match j,hj with
 |0,hj=>simp at hj;subst hj;simp[Addr.add]
theorem one_u8(x:Int):∀u∈ [Value.int .u8 x],u.oneCell'=true:=by
 intro u hu;simp at hu;subst hu;rfl
theorem own_grown {B:Nat} {w wr w2:World} {v:Value} {n:Nat} {xs:List Value} {e:TypeId} {o:Obj} (hb:Below B w wr) (hB:B≤wr.heap.size)
 (hown:wr.ownsRow B e 1 v n xs) (hg:(wr.alloc o).grownBy w2 v.ownBlock):Below B w w2:=
 (hb.alloc hB _).grown hg (by simp;omega) (fun k hk=>(hown.lt k hk).1)
theorem infoInt:(Tryd.prog.info? 3).map (fun i=>(i.zero,i.size,i.bytes))=some (some (.int .i64 0),1,8):=by kernel_rfl
def icells(l:List Int):List Value:=l.map fun n=>Value.int .i64 n
theorem icells_at(l:List Int)(j:Nat)(hj:j<l.length):(icells l)[j]?=some (.int .i64 l[j]):=by simp[icells,hj]
theorem addr_at(g j:Nat):(⟨g,0,none⟩:Addr).add j=⟨g,j,none⟩:=by
 simp only[Addr.add];split<;>simp_all
end Go.Proofs.YtpdoponghlpkcaaDoor
namespace Go.Proofs.YtpdoponghlpkcaaDoor.Sums
def poly:Nat:=3558460437
def half(x:Nat):Nat:=x/2^^^(if x % 2=1 then poly else 0)
def h4(x:Nat):Nat:=half (half (half (half x)))
def sumB(s:Nat)(b:UInt8):Nat:=h4 (h4 (s^^^b.toNat))
def sumL(s:Nat)(l:List UInt8):Nat:=l.foldl sumB s
def tab:List Nat:=[0,1166650509,2333301018,3466261911,3189058079,4221339282,889615109,1888477064,3558460437,2442158232,1594529039,444807554,1779230218,797264519,3776954128,2761298845]
theorem mod2_lt(x:Nat):x % 2=0∨x % 2=1:=by omega
theorem half_lt(x:Nat)(h:x<4294967296):half x<4294967296:=by
 unfold half;refine Nat.xor_lt_two_pow (n:=32) (by omega) ?_
 split<;>simp[poly]
theorem h4_lt(x:Nat)(h:x<4294967296):h4 x<4294967296:=half_lt _ (half_lt _ (half_lt _ (half_lt _ h)))
theorem byte_lt(b:UInt8):b.toNat<256:=by have:=b.toNat_lt;omega
theorem xor_lt32(x y:Nat)(h:x<4294967296)(k:y<4294967296):x^^^y<4294967296:=Nat.xor_lt_two_pow (n:=32) h k
theorem xb_lt(s:Nat)(b:UInt8)(h:s<4294967296):s^^^b.toNat<4294967296:=xor_lt32 _ _ h (by have:=byte_lt b;omega)
theorem sumB_lt(s:Nat)(b:UInt8)(h:s<4294967296):sumB s b<4294967296:=h4_lt _ (h4_lt _ (xb_lt s b h))
theorem sumL_lt(l:List UInt8):∀s,s<4294967296→sumL s l<4294967296:=by
 induction l with
 |nil=>intro s h;exact h
 |cons a l ih=>intro s h;exact ih _ (sumB_lt s a h)
theorem sumL_app(s:Nat)(l k:List UInt8):sumL s (l++k)=sumL (sumL s l) k:=by simp[sumL]
theorem sumL_take(s:Nat)(l:List UInt8)(k:Nat)(h:k<l.length):sumL s (l.take (k+1))=sumB (sumL s (l.take k)) l[k]:=by
 rw[List.take_succ_eq_append_getElem h,sumL_app];rfl
theorem xor_half(x y:Nat):half (x^^^y)=half x^^^half y:=by
 unfold half;have e1:(x^^^y)/2=x/2^^^y/2:=by
  have:=Nat.shiftRight_xor_distrib (a:=x) (b:=y) (i:=1)
  simpa[Nat.shiftRight_eq_div_pow]using this
 have e2:(x^^^y) % 2=(x % 2)^^^(y % 2):=by
  have:=Nat.xor_mod_two_pow (a:=x) (b:=y) (n:=1)
  simpa using this
 rw[e1,e2];rcases mod2_lt x with hx|hx<;>rcases mod2_lt y with hy|hy<;>simp[hx,hy]
 ·rw[Nat.xor_assoc]
 ·rw[Nat.xor_assoc,Nat.xor_assoc];congr 1;exact Nat.xor_comm _ _
 ·rw[Nat.xor_assoc,←Nat.xor_assoc poly,Nat.xor_comm poly,Nat.xor_assoc (y/2),Nat.xor_self,Nat.xor_zero]
theorem xor_h4(x y:Nat):h4 (x^^^y)=h4 x^^^h4 y:=by simp only[h4,xor_half]
theorem half_two(x:Nat):half (2*x)=x:=by
 unfold half;have e1:2*x/2=x:=by omega
 have e2:2*x % 2=0:=by omega
 rw[e1,e2];simp
theorem h4_16(q:Nat):h4 (16*q)=q:=by
 unfold h4;rw[show 16*q=2*(2*(2*(2*q)))by omega,half_two,half_two,half_two,half_two]
theorem h4_low:∀r:Fin 16,h4 r.val=tab[r.val]'(by simp[tab]):=by decide
theorem split16(x:Nat):x=(16*(x/16))^^^(x % 16):=by
 have h:=Nat.two_pow_add_eq_or_of_lt (i:=4) (b:=x % 16) (by omega) (x/16)
 have e:16*(x/16)^^^(x % 16)=16*(x/16)|||(x % 16):=by
  apply Nat.eq_of_testBit_eq;intro i;rw[Nat.testBit_xor,Nat.testBit_or];have e16:(16:Nat)=2^4:=rfl;by_cases hi:i<4
  ·have:(16*(x/16)).testBit i=false:=by rw[e16,Nat.testBit_two_pow_mul];simp;omega
   simp[this]
  ·have:(x % 16).testBit i=false:=by rw[e16,Nat.testBit_mod_two_pow];simp;omega
   simp[this]
 rw[e];simp at h;omega
theorem tab_len:tab.length=16:=rfl
theorem h4_tab(x:Nat)(h:x % 16<tab.length):h4 x=x/16^^^tab[x % 16]:=by
 have e:=h4_low ⟨x % 16,by omega⟩
 simp only at e;rw[←e]
 conv=>lhs;rw[split16 x,xor_h4,h4_16]
def four(x:Nat):List UInt8:=[UInt8.ofNat (x/16777216 % 256),UInt8.ofNat (x/65536 % 256),UInt8.ofNat (x/256 % 256),UInt8.ofNat (x % 256)]
theorem four_len(x:Nat):(four x).length=4:=rfl
def start:Nat:=4294967295
def sumOf(l:List UInt8):Nat:=sumL start l
theorem sumOf_lt(l:List UInt8):sumOf l<4294967296:=sumL_lt l _ (by decide)
end Go.Proofs.YtpdoponghlpkcaaDoor.Sums
namespace Go.Proofs.YtpdoponghlpkcaaDoor
open Sums
def sealA(t:ByteArray):ByteArray:=t++⟨(four (sumOf t.data.toList)).toArray⟩
def body(t:ByteArray):ByteArray:=t.extract 0 (t.size-4)
theorem body_size(t:ByteArray):(body t).size=t.size-4:=by simp[body]
def unA(t:ByteArray):Option ByteArray:=
 if 4≤t.size∧t.size≤20004∧(sealA (body t)).data.toList=t.data.toList then some (body t)else none
theorem unA_some{t s:ByteArray}(h:unA t=some s):sealA s=t∧s.size≤20000:=by
 unfold unA at h;split at h
 ·rename_i hc
  cases h;exact⟨ByteArray.ext (Array.toList_inj.1 hc.2.2),by rw[body_size];omega⟩
 ·cases h
theorem unA_none{t:ByteArray}(h:¬(4≤t.size∧t.size≤20004∧sealA (body t)=t)):unA t=none:=by
 unfold unA;rw[if_neg];rintro⟨a,b,c⟩;exact h ⟨a,b,ByteArray.ext (Array.toList_inj.1 c)⟩
theorem unA_yes{t:ByteArray}(h1:4≤t.size)(h2:t.size≤20004)(h3:sealA (body t)=t):unA t=some (body t):=by
 unfold unA;rw[if_pos ⟨h1,h2,by rw[h3]⟩]
end Go.Proofs.YtpdoponghlpkcaaDoor
namespace Go.Proofs.YtpdoponghlpkcaaDoor
theorem dcY{p:Prop}{d:Decidable p}(h:p): @decide p d=true:=decide_eq_true h
theorem dcN{p:Prop}{d:Decidable p}(h:¬p): @decide p d=false:=decide_eq_false h
theorem dcE{p q:Prop}{d:Decidable p}{e:Decidable q}(h:p↔q): @decide p d= @decide q e:=decide_eq_decide.2 h
end Go.Proofs.YtpdoponghlpkcaaDoor
