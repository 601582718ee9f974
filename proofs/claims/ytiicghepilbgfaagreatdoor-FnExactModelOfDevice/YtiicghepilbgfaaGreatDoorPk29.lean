/-
  PkCut; IMatch; LMath
-/
import Derived.Test.YtiicghepilbgfaaGreatDoorPk25
import Derived.Test.YtiicghepilbgfaaGreatDoorPk26
import Derived.Test.YtiicghepilbgfaaGreatDoorPk28
import Derived.Test.YtiicghepilbgfaaGreatDoorPk0
import Derived.Test.YtiicghepilbgfaaGreatDoorPk27
set_option maxHeartbeats 400000
set_option maxRecDepth 100000
namespace Go.Proofs.YtiicghepilbgfaaGreatDoor
open Go.RowKit
open Pack
theorem infoTokS:(Tryz.prog.info? 198).map (·.size)=some 3:=by kernel_rfl
theorem results_tok3 {fn:Func} {p q r:Tmp} (h:fn.results= #[.cell p 198,.tmp q,.tmp r]) (tmps:Array Value) (w:World) (g:Nat) (a b:Int) (t:ByteArray)
 (hp:tmps.getD p undef=.pointer (some ⟨g,0,none⟩)) (hc:TokAt w g a b t):
 (results fn tmps).run Tryz.prog w=.ok (.tuple #[.agg #[.int .i64 a,.int .i64 b,.string t],tmps.getD q undef,tmps.getD r undef]) w:=by
 have hp':tmps[p]?.getD undef=.pointer (some ⟨g,0,none⟩):=by simpa using hp
 have hl:=run_loadVar_row (P:=Tryz.prog) w g 198 198 _ _ _ hc Tryz.underlying198 rfl infoTokS;simp[results,h,hp',asAddr,hl]
def BA(l:List UInt8):ByteArray:=⟨l.toArray⟩
theorem BA_size(l:List UInt8):(BA l).size=l.length:=by show l.toArray.size=_;simp
theorem BA_list(l:List UInt8):(BA l).data.toList=l:=rfl
theorem BA_ext(l:List UInt8)(a b:Nat):(BA l).extract a b=BA ((l.drop a).take (b-a)):=by
 apply ByteArray.ext;apply Array.ext';rw[Lib.extract_data];rfl
theorem cut_from(l:List UInt8)(k:Nat)(x:Int)(hx:x=k)(hk:k≤l.length)(W:World):(Instr.slice 9 (.string (BA l)) (some (.int .i64 x)) none none).run Tryz.prog W=.ok (.string (BA (l.drop k))) W:=by
 subst hx;rw[run_slice_string_from_if W 9 (BA l) .i64 _ Tryz.underlying9,if_pos (by rw[BA_size];omega),BA_ext,BA_size]
 rw[List.take_of_length_le (by rw[List.length_drop];simp)]
 rfl
theorem cut_to(l:List UInt8)(k:Nat)(x:Int)(hx:x=k)(hk:k≤l.length)(W:World):(Instr.slice 9 (.string (BA l)) none (some (.int .i64 x)) none).run Tryz.prog W=.ok (.string (BA (l.take k))) W:=by
 subst hx;rw[run_slice_string_to_if W 9 (BA l) .i64 _ Tryz.underlying9,if_pos (by rw[BA_size];omega),BA_ext]
 rfl
theorem idx_of(l:List UInt8)(k:Nat)(c:UInt8)(x:Int)(hx:x=k)(hk:l[k]?=some c)(W:World):(Instr.index 9 (.string (BA l)) (.int .i64 x)).run Tryz.prog W=.ok (.int .u8 ((c.toNat:Nat):Int)) W:=by
 have hl:=(List.getElem?_eq_some_iff.1 hk).1;have:=byte_ofT (BA l) k x hx (by rw[BA_size];exact hl) W
 rw[BA_list,List.getD_eq_getElem?_getD,hk]at this;exact this
theorem TokAt.set0{w:World}{g:Nat}{a b:Int}{t:ByteArray}(h:TokAt w g a b t)(a':Int):TokAt (w.setCell ⟨g,0,none⟩ (.int .i64 a')) g a' b t:=by
 unfold TokAt at*;rw[setCell_eq_setRow w g 0 _ _ (0,0) _ h];exact setRow_heap w g _ _ _ _ h
theorem TokAt.set1{w:World}{g:Nat}{a b:Int}{t:ByteArray}(h:TokAt w g a b t)(b':Int):TokAt (w.setCell ⟨g,1,none⟩ (.int .i64 b')) g a b' t:=by
 unfold TokAt at*;rw[setCell_eq_setRow w g 1 _ _ (0,0) _ h];exact setRow_heap w g _ _ _ _ h
theorem TokAt.set2{w:World}{g:Nat}{a b:Int}{t:ByteArray}(h:TokAt w g a b t)(t':ByteArray):TokAt (w.setCell ⟨g,2,none⟩ (.string t')) g a b t':=by
 unfold TokAt at*;rw[setCell_eq_setRow w g 2 _ _ (0,0) _ h];exact setRow_heap w g _ _ _ _ h
theorem TokAt.drewN{w:World}{g:Nat}{a b:Int}{t:ByteArray}(h:TokAt w g a b t)(k:Nat):TokAt (w.drewN k) g a b t:=h.below (below_drewN (Below.refl _ _) k)
theorem below_tok{B g:Nat}{a w:World}{x y z:Value}(h:Below B a w)(hg:B≤g):Below B a (((w.setCell ⟨g,0,none⟩ x).setCell ⟨g,1,none⟩ y).setCell ⟨g,2,none⟩ z):=
 ((h.setCell (p:=⟨g,0,none⟩) hg x).setCell (p:=⟨g,1,none⟩) hg y).setCell (p:=⟨g,2,none⟩) hg z
theorem BA_emp:(BA []).toList.isEmpty=true:=by rw[Lib.toList_data];rfl
theorem BA_ful(c:UInt8)(r:List UInt8):(BA (c::r)).toList.isEmpty=false:=by rw[Lib.toList_data];rfl
theorem cut_any(n:UInt8)(r:List UInt8)(w:World)(hr:r.length≤1000):
 Calls Tryz.prog 168 #[.string (BA (n::r))] w fun e w'=>(∃(a b:Nat) (t s:List UInt8) (ok:Bool),e=.returned (.tuple #[.agg #[.int .i64 (a:Int),.int .i64 (b:Int),.string (BA t)],.string (BA s),.bool ok])∧
  s.length≤r.length∧(ok=true→RG 128 (n::r)=(RG 128 s).map fun l=>(a,b,t)::l)∧(ok=false→RG 128 (n::r)=none))∧Below w.heap.size w w':=by
 have hn:=n.toNat_lt;have i1:=idx_of (n::r) 0 n 0 rfl rfl;have c1:=cut_from (n::r) 1 1 rfl (by simp)
 rw[List.drop_one,List.tail_cons]at c1;by_cases h128:(128:Int)≤n.toNat
 ·cases r with
  |nil=>
   have HX:=hide (RG_cut 128 n (by omega))
   have he:=BA_emp;have HT:=hide (tok_new w 0 0 ⟨#[]⟩);have HB:=hide ((Below.refl w.heap.size w).alloc (Nat.le_refl _) (.cells #[.int .i64 0,.int .i64 0,.string ⟨#[]⟩] 198));go_enter Tryz.func168,Tryz.ntmps168;go_wp2;go_quiet (fail);go_wp2;exact bodyPost_ret (results_tok3 rfl _ _ w.heap.size _ _ _ rfl ((((HT.out.drewN _).set0 _).set1 _).set2 _)) rfl ⟨⟨0,0,[],[],false,rfl,Nat.le_refl _,(fun h=>by cases h),fun _=>HX.out⟩,below_tok (below_drewN HB.out _) (Nat.le_refl _)⟩
  |cons b r=>
   have hbl:=b.toNat_lt;have he:=BA_ful b r;have i2:=idx_of (b::r) 0 b 0 rfl rfl;have c2:=cut_from (b::r) 1 1 rfl (by simp)
   rw[List.drop_one,List.tail_cons]at c2;have HX:=hide (RG_match 128 n b r (by omega))
   have HT:=hide (tok_new w 0 0 ⟨#[]⟩);have HB:=hide ((Below.refl w.heap.size w).alloc (Nat.le_refl _) (.cells #[.int .i64 0,.int .i64 0,.string ⟨#[]⟩] 198));go_enter Tryz.func168,Tryz.ntmps168;go_wp2;go_quiet (fail);go_wp2;go_region;go_wp2;exact bodyPost_ret (results_tok3 rfl _ _ w.heap.size _ _ _ rfl ((((HT.out.drewN _).set0 _).set1 _).set2 _)) rfl ⟨⟨b.toNat,n.toNat-128,[],r,true,(by rw[show((n.toNat-128:Nat):Int)=(n.toNat:Int)-128 by omega];rfl),Nat.le_succ _,(fun _=>HX.out),fun h=>by cases h⟩,below_tok (below_drewN HB.out _) (Nat.le_refl _)⟩
 ·have HT:=hide (tok_new w 0 0 ⟨#[]⟩);have HB:=hide ((Below.refl w.heap.size w).alloc (Nat.le_refl _) (.cells #[.int .i64 0,.int .i64 0,.string ⟨#[]⟩] 198));have hbs:=BA_size r;by_cases hgt:(r.length:Int)<n.toNat
  ·have HX:=hide (RG_short 128 n r (by omega) (by omega))
   go_enter Tryz.func168,Tryz.ntmps168;go_wp2;go_quiet (fail);go_wp2;exact bodyPost_ret (results_tok3 rfl _ _ w.heap.size _ _ _ rfl ((((HT.out.drewN _).set0 _).set1 _).set2 _)) rfl ⟨⟨0,0,[],[],false,rfl,Nat.zero_le _,(fun h=>by cases h),fun _=>HX.out⟩,below_tok (below_drewN HB.out _) (Nat.le_refl _)⟩
  ·have HX:=hide (RG_text 128 n r (by omega) (by omega))
   have c2:=cut_to r n.toNat (n.toNat:Int) rfl (by omega)
   have c3:=cut_from r n.toNat (n.toNat:Int) rfl (by omega)
   go_enter Tryz.func168,Tryz.ntmps168;go_wp2;go_quiet (fail);go_wp2;go_region;go_wp2;exact bodyPost_ret (results_tok3 rfl _ _ w.heap.size _ _ _ rfl ((((HT.out.drewN _).set0 _).set1 _).set2 _)) rfl ⟨⟨0,0,r.take n.toNat,r.drop n.toNat,true,rfl,(by rw[List.length_drop];omega),(fun _=>HX.out),fun h=>by cases h⟩,below_tok (below_drewN HB.out _) (Nat.le_refl _)⟩
theorem imatch_any(s:ByteArray)(i j:Nat)(w:World)(hs:s.size≤64)(hij:i<j)(hj:j≤s.size):
 Calls Tryz.prog 185 #[.string s,.int .i64 i,.int .i64 j] w fun e w'=>e=.returned (.int .i64 (mlen 31 (s.data.toList.drop i) (s.data.toList.drop j):Nat))∧Below w.heap.size w w':=by
 have hl:s.data.toList.length=s.size:=by simp
 go_enter Tryz.func185,Tryz.ntmps185;go_wp2;go_loopw [7] (fun nv wr=>∃n:Nat,n≤31∧j+n≤s.size∧nv=.int .i64 n∧Hid (mlen 31 (s.data.toList.drop i) (s.data.toList.drop j)=n+mlen (31-n) (s.data.toList.drop (i+n)) (s.data.toList.drop (j+n)))∧Below w.heap.size w wr) (fun nv _=>31-(intOf nv).toNat)
 case atStart=>exact⟨0,by omega,by omega,rfl,(by show _=0+_;simp),Below.refl _ _⟩
 case round=>
  obtain⟨n,hn,hjn,rfl,HM,hbel⟩:=hrel;have w1:IntKind.i64.wrap ((j:Int)+n)=(j:Int)+n:=by rw[IntKind.wrap_i64];omega
  have w2:IntKind.i64.wrap ((i:Int)+n)=(i:Int)+n:=by rw[IntKind.wrap_i64];omega
  have HB:=hide hbel;clear hbel;by_cases h31:n<31
  ·have d1:decide ((n:Int)<31)=true:=decide_eq_true (by omega)
   by_cases hlt:j+n<s.size
   ·have d2:decide ((j:Int)+n<s.size)=true:=decide_eq_true (by omega)
    have f1:=byte_ofT s (i+n) ((i:Int)+n) (by omega) (by omega)
    have f2:=byte_ofT s (j+n) ((j:Int)+n) (by omega) (by omega)
    by_cases heq:s.data.toList.getD (i+n) 0=s.data.toList.getD (j+n) 0
    ·have HM2:Hid (mlen 31 (s.data.toList.drop i) (s.data.toList.drop j)=(n+1)+mlen (31-(n+1)) (s.data.toList.drop (i+(n+1))) (s.data.toList.drop (j+(n+1)))):=by
      show _=_;rw[HM.out,show 31-n=(31-(n+1))+1 by omega,mlen_yes _ _ _ _ (by omega) (by omega) heq,show i+n+1=i+(n+1)by omega,show j+n+1=j+(n+1)by omega]
      omega
     rw[heq]at f1;generalize(s.data.toList.getD (j+n) 0).toNat=c at f1 f2;have e1:((c:Int)==(c:Int))=true:=by simp
     clear HM heq hl;go_wp2;go_quiet (fail);go_wp2;go_roundw
     case rel=>exact⟨n+1,by omega,by omega,by go_num,HM2,below_drewN HB.out _⟩
     case measure=>simp[intOf];omega
    ·have HM2:Hid (mlen 31 (s.data.toList.drop i) (s.data.toList.drop j)=n):=by
      show _=_;rw[HM.out,mlen_no _ _ _ _ (by omega) (by omega) heq];rfl
     have hne:((((s.data.toList.getD (i+n) 0).toNat:Nat):Int)==(((s.data.toList.getD (j+n) 0).toNat:Nat):Int))=false:=by
      rw[beq_eq_false_iff_ne];intro h;exact heq (UInt8.toNat_inj.1 (by omega))
     generalize(s.data.toList.getD (i+n) 0).toNat=c1 at f1 hne;generalize(s.data.toList.getD (j+n) 0).toNat=c2 at f2 hne;clear HM heq hl;go_wp2;go_quiet (fail);go_wp2;go_ret;exact⟨by rw[HM2.out];rfl,below_drewN HB.out _⟩
   ·have d2:decide ((j:Int)+n<s.size)=false:=decide_eq_false (by omega)
    have HM2:Hid (mlen 31 (s.data.toList.drop i) (s.data.toList.drop j)=n):=by
     show _=_;rw[HM.out,mlen_end _ _ _ _ (by omega)];rfl
    clear HM hl;go_wp2;go_quiet (fail);go_wp2;go_ret;exact⟨by rw[HM2.out];rfl,below_drewN HB.out _⟩
  ·have d1:decide ((n:Int)<31)=false:=decide_eq_false (by omega)
   have e31:n=31:=by omega
   have HM2:Hid (mlen 31 (s.data.toList.drop i) (s.data.toList.drop j)=n):=by
    show _=_;rw[HM.out,e31];rfl
   clear HM hl e31;go_wp2;go_quiet (fail);go_wp2;go_ret;exact⟨by rw[HM2.out];rfl,below_drewN HB.out _⟩
end Go.Proofs.YtiicghepilbgfaaGreatDoor
namespace Go.Proofs.YtiicghepilbgfaaGreatDoor.Pack
open Go.Proofs.YtiicghepilbgfaaGreatDoor
theorem filter_snoc(f:Nat→Bool)(n p:Nat)(L:List Nat)(h:(List.range n).filter f=L++[p]):p<n∧f p=true∧(List.range p).filter f=L∧∀x,p<x→x<n→f x=false:=by
 induction n with
 |zero=>simp at h
 |succ n ih=>
  rw[List.range_succ,List.filter_append]at h;by_cases hn:f n=true
  ·have e1:List.filter f [n]=[n]:=by simp[hn]
   rw[e1]at h;obtain⟨h1,h2⟩:=List.append_inj' h rfl;have hp:n=p:=by simpa using h2
   subst hp;exact⟨by omega,hn,h1,fun x a b=>by omega⟩
  ·have e1:List.filter f [n]=[]:=by simp[hn]
   rw[e1,List.append_nil]at h;obtain⟨a,b,c,d⟩:=ih h;refine⟨by omega,b,c,fun x hx hx2=>?_⟩
   by_cases he:x=n
   ·subst he;simpa using hn
   ·exact d x hx (by omega)
theorem filter_none(f:Nat→Bool)(n:Nat)(h:(List.range n).filter f=[]):∀x,x<n→f x=false:=by
 intro x hx;have:=List.filter_eq_nil_iff.1 h x (List.mem_range.2 hx)
 simpa using this
theorem four_eq(s:List UInt8)(k:Nat)(h:k+4≤s.length):fourAt s k=[s.getD k 0,s.getD (k+1) 0,s.getD (k+2) 0,s.getD (k+3) 0]:=by
 unfold fourAt;rw[if_pos h,drop_cons s k (by omega),drop_cons s (k+1) (by omega),drop_cons s (k+1+1) (by omega),drop_cons s (k+1+1+1) (by omega)]
 rfl
theorem mlen_four(s:List UInt8)(x k:Nat)(hx:x<k)(h:k+4≤s.length):4≤mlen 31 (s.drop x) (s.drop k)↔fourAt s x=fourAt s k:=by
 rw[four_eq s x (by omega),four_eq s k h]
 by_cases h0:s.getD x 0=s.getD k 0
 ·rw[mlen_yes 30 s x k (by omega) (by omega) h0]
  by_cases h1:s.getD (x+1) 0=s.getD (k+1) 0
  ·rw[mlen_yes 29 s (x+1) (k+1) (by omega) (by omega) h1]
   by_cases h2:s.getD (x+2) 0=s.getD (k+2) 0
   ·rw[mlen_yes 28 s (x+2) (k+2) (by omega) (by omega) h2]
    by_cases h3:s.getD (x+3) 0=s.getD (k+3) 0
    ·rw[mlen_yes 27 s (x+3) (k+3) (by omega) (by omega) h3,h0,h1,h2,h3]
     simp
    ·rw[mlen_no 28 s (x+3) (k+3) (by omega) (by omega) h3]
     simp only[List.cons.injEq,h3,and_true,and_false,iff_false];omega
   ·rw[mlen_no 29 s (x+2) (k+2) (by omega) (by omega) h2]
    simp only[List.cons.injEq,h2,and_true,false_and,and_false,iff_false];omega
  ·rw[mlen_no 30 s (x+1) (k+1) (by omega) (by omega) h1]
   simp only[List.cons.injEq,h1,and_true,false_and,and_false,iff_false];omega
 ·rw[mlen_no 31 s x k (by omega) (by omega) h0]
  simp only[List.cons.injEq,h0,and_true,false_and,iff_false];omega
theorem best_skip(s:List UInt8)(k c d:Nat)(h:∀x,x<k→k-(c+d)≤x→x<k-c→¬4≤mlen 31 (s.drop x) (s.drop k))(hc:c+d≤k):best s k (c+d)=best s k c:=by
 induction d with
 |zero=>rfl
 |succ d ih=>
  rw[←Nat.add_assoc,best_no,ih (fun x a b e=>h x a (by omega) e) (by omega)]
  intro hh;exact h (k-(c+d+1)) (by omega) (by omega) (by omega) hh.1
theorem best_short(s:List UInt8)(k:Nat)(h:¬k+4≤s.length):best s k k=(0,0):=by
 have:=best_skip s k 0 k (fun x _ _ _ h4=>by
  have:=(mlen_le 31 (s.drop x) (s.drop k)).2;rw[List.length_drop]at this;omega) (by omega)
 rw[Nat.zero_add]at this;exact this
theorem best_place(s:List UInt8)(k c p:Nat)(L:List Nat)(hc:c≤k)(h4:k+4≤s.length)(h:placesN s (fourAt s k) (k-c)=L++[p]):
 p<k-c∧placesN s (fourAt s k) p=L∧4≤mlen 31 (s.drop p) (s.drop k)∧
  ((best s k c).1<mlen 31 (s.drop p) (s.drop k)→best s k (k-p)=(mlen 31 (s.drop p) (s.drop k),k-p))∧(¬(best s k c).1<mlen 31 (s.drop p) (s.drop k)→best s k (k-p)=best s k c):=by
 obtain⟨h1,h2,h3,h5⟩:=filter_snoc _ _ _ _ h;have hp4:fourAt s p=fourAt s k:=by simp at h2;exact h2.2
 have hm:=(mlen_four s p k (by omega) h4).2 hp4
 have hsk:=best_skip s k c (k-p-1-c) (fun x a b d hh=>by
  have e1:=(mlen_four s x k a h4).1 hh;have:=h5 x (by omega) d
  simp[e1]at this;omega) (by omega)
 rw[show c+(k-p-1-c)=k-p-1 by omega]at hsk
 have e2:k-(k-p-1+1)=p:=by omega
 have e3:k-p-1+1=k-p:=by omega
 refine⟨h1,h3,hm,fun hb=>?_,fun hb=>?_⟩
 ·have:=best_yes s k (k-p-1) (by rw[e2];exact hm) (by rw[e2,hsk];exact hb)
  rw[e2,e3]at this;exact this
 ·have:=best_no s k (k-p-1) (by rw[e2,hsk];exact fun hh=>hb hh.2)
  rw[e3,hsk]at this;exact this
theorem best_last(s:List UInt8)(k c:Nat)(hc:c≤k)(h4:k+4≤s.length)(h:placesN s (fourAt s k) (k-c)=[]):best s k k=best s k c:=by
 have:=best_skip s k c (k-c) (fun x a b d hh=>by
  have e1:=(mlen_four s x k a h4).1 hh;have:=filter_none _ _ h x d;simp[e1]at this;omega) (by omega)
 rwa [show c+(k-c)=k by omega]at this
end Go.Proofs.YtiicghepilbgfaaGreatDoor.Pack
