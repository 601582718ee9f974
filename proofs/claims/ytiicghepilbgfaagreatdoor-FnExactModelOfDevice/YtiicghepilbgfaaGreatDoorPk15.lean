/-
  Seal; SpecSum; SpecSeal; Unseal; SUnseal
-/
import Derived.Test.YtiicghepilbgfaaGreatDoorPk14
import Derived.Test.YtiicghepilbgfaaGreatDoorPk6
import Derived.Test.YtiicghepilbgfaaGreatDoorShelf
import Derived.Test.YtiicghepilbgfaaGreatDoorPk0
import Derived.Laws.BitsAllLaws
set_option maxHeartbeats 400000
set_option maxRecDepth 100000
namespace Go.Proofs.YtiicghepilbgfaaGreatDoor
open Go.RowKit
open Sums
theorem four_at(x:Nat)(hx:x<4294967296)(w:World)(j:Nat)(hj:j<(four x).length):
 (w.alloc (.cells #[Value.int .u8 ((x:Int)/16777216),Value.int .u8 ((x:Int)/65536 % 256),Value.int .u8 ((x:Int)/256 % 256),Value.int .u8 ((x:Int) % 256)] 5)).cell? ((⟨w.heap.size,0,none⟩:Addr).add j)=some (.int .u8 ((four x)[j].toNat:Int)):=by
 rw[four_len]at hj
 match j,hj with
 |0,_=>simp[Addr.add,four];omega
 |1,_=>simp[Addr.add,four]
 |2,_=>simp[Addr.add,four]
 |3,_=>simp[Addr.add,four]
theorem asBytes_any(x:Nat)(w:World)(hx:x<4294967296):
 Calls Tryz.prog 217 #[.int .u32 x] w fun e w'=>e=.returned (.string ⟨(four x).toArray⟩)∧Below w.heap.size w w':=by
 have hcv:=run_convert_bytes_back (P:=Tryz.prog) _ 155 9 5 ⟨w.heap.size,0,none⟩ 4 (four x) Tryz.underlying155 Tryz.underlying5 Tryz.underlying9 (four_at x hx w);rw[four_len]at hcv;generalize(ByteArray.mk (four x).toArray)=r at hcv;go_enter Tryz.func217,Tryz.ntmps217;go_wp2;go_ret;exact⟨rfl,(Below.refl _ _).alloc (Nat.le_refl _) _⟩
theorem sealed_any(t:ByteArray)(w:World)(hl:t.size≤20000)(ht:HalvIn w):
 Calls Tryz.prog 212 #[.string t] w fun e w'=>e=.returned (.tuple #[.string (sealA t),.bool true])∧Below w.heap.size w w':=by
 have g:¬(20000:Int)<t.size:=by omega
 have HT:=hide ht;clear ht;go_enter Tryz.func212,Tryz.ntmps212;go_wp2_with fail;refine(sumOf_any t _ (by unfold maxLen;omega) HT.out).mono ?_
 rintro e w1 ⟨rfl,rfl⟩;have hx:=sumOf_lt t.data.toList;have E:Hid (sealA t=t++⟨(four (sumOf t.data.toList)).toArray⟩):=rfl;have hfl:=four_len (sumOf t.data.toList);generalize sumOf t.data.toList=x at hx E hfl;go_wp2_with fail;refine(asBytes_any x _ hx).mono ?_;rintro e w2 ⟨rfl,hb⟩;generalize four x=f at E hfl;go_wp2;go_ret2;exact⟨by rw[E.out];rfl,hb⟩
theorem sealed_no(t:ByteArray)(w:World)(hl:(20000:Int)<t.size):
 Calls Tryz.prog 212 #[.string t] w fun e w'=>e=.returned (.tuple #[.string ⟨#[]⟩,.bool false])∧w'=w:=by
 go_enter Tryz.func212,Tryz.ntmps212;go_wp2;go_ret2;exact⟨rfl,rfl⟩
def halfN:Nat→Nat→Nat
 |0,x=>x
 |k+1,x=>half (halfN k x)
theorem half_odd(m:Nat)(hm:m<4294967296)(h:((m:Int) % 2==1)=true):bits .xor .u32 ((m:Int)/2) 3558460437=(half m:Nat):=by
 have h1:m % 2=1:=by rw[beq_iff_eq]at h;omega
 have hy:=u32_xor ((m:Int)/2) 3558460437 (by omega) (by omega) (by omega) (by omega)
 rw[hy,half,if_pos h1,show((m:Int)/2).toNat=m/2 by omega]
 rfl
theorem half_even(m:Nat)(h:((m:Int) % 2==1)=false):half m=m/2:=by
 have h1:¬m % 2=1:=by rw[beq_eq_false_iff_ne]at h;omega
 rw[half,if_neg h1,Nat.xor_zero]
theorem sum_step'(s:Nat)(t:ByteArray)(k c m:Nat)(h:k<t.size)(hc:t[k].toNat=c)(hm:m=sumL s (t.data.toList.take k)):h4 (h4 (m^^^c))=sumL s (t.data.toList.take (k+1)):=by
 have hl:k<t.data.toList.length:=by simpa using h
 have hcl:t.data.toList[k].toNat=c:=by rw[←hc];rfl
 rw[sumL_take _ _ _ hl,←hm,sumB,hcl]
theorem all_take'(t:ByteArray):t.data.toList.take t.size=t.data.toList:=by
 apply List.take_of_length_le;simp
theorem specMore(s:Nat)(t:ByteArray)(w:World)(hs:s<4294967296)(hl:t.size≤maxLen):
 Calls Tryz.prog 123 #[.int .u32 s,.string t] w fun e w'=>e=.returned (.int .u32 (sumL s t.data.toList:Nat))∧w'=w:=by
 unfold maxLen at hl;go_enter Tryz.func123,Tryz.ntmps123;go_wp2;go_loopw [0,5] (fun sv iv wr=>∃k m:Nat,k≤t.size∧iv=.int .i64 k∧sv=.int .u32 m∧m<4294967296∧Hid (m=sumL s (t.data.toList.take k))∧wr=w) (fun _ iv _=>t.size-(intOf iv).toNat)
 case atStart=>exact⟨0,s,Nat.zero_le _,rfl,rfl,hs,rfl,rfl⟩
 case round=>
  obtain⟨k,m,hk,rfl,rfl,hm,hrel,rfl⟩:=hrel;by_cases hlt:(k:Int)<t.size
  ·obtain⟨c,hcc⟩:∃c:Nat,t[k].toNat=c:=⟨_,rfl⟩;have hc8:c<256:=by rw[←hcc];exact UInt8.toNat_lt _
   have F:=hide (sum_step' s t k c m (by omega) hcc hrel.out)
   have hl1:=xor_lt32 m c hm (by omega)
   have hb:=h4_lt _ (h4_lt _ hl1);have hy:=u32_xor (m:Int) (c:Int) (by omega) (by omega) (by omega) (by omega)
   rw[Int.toNat_natCast,Int.toNat_natCast]at hy;generalize m^^^c=x at F hb hl1 hy;clear hrel;go_wp2;clear hy hcc;go_loopw [0,6] (fun sv iv w2=>∃j n:Nat,j≤8∧iv=.int .i64 j∧sv=.int .u32 n∧n<4294967296∧Hid (n=halfN j x)∧w2=wr) (fun _ iv _=>8-(intOf iv).toNat)
   case atStart=>exact⟨0,x,by omega,rfl,rfl,hl1,rfl,rfl⟩
   case round=>
    obtain⟨j,n,hj,rfl,rfl,hn,hrel,rfl⟩:=hrel;by_cases hj8:(j:Int)<8
    ·have hh:=half_lt n hn;have G:Hid (half n=halfN (j+1) x):=by show half n=half (halfN j x);rw[←hrel.out]
     clear hrel;cases ho:((n:Int) % 2==1)
     ·have he:=half_even n ho;rw[he]at G hh;clear he;go_wp2;go_roundw
      case rel=>exact⟨j+1,n/2,by omega,by go_num,by go_num,hh,G,trivial⟩
      case measure=>simp[intOf];omega
     ·have he:=half_odd n hn ho;generalize half n=n' at he G hh;go_wp2;go_roundw
      case rel=>exact⟨j+1,n',by omega,by go_num,rfl,hh,G,trivial⟩
      case measure=>simp[intOf];omega
    ·have e:j=8:=by omega
     subst e;have G:Hid (n=sumL s (t.data.toList.take (k+1))):=hrel.out.trans F.out;clear hrel F;go_wp2;go_roundw
     case rel=>exact⟨k+1,n,by omega,by go_num,rfl,hn,G,trivial⟩
     case measure=>simp[intOf];omega
  ·have e:k=t.size:=by omega
   subst e;have F:=hide (hrel.out.trans (by rw[all_take']))
   clear hrel;go_wp2;go_ret;exact⟨by rw[F.out];rfl,rfl⟩
theorem specOf(t:ByteArray)(w:World)(hl:t.size≤maxLen):
 Calls Tryz.prog 93 #[.string t] w fun e w'=>e=.returned (.int .u32 (sumOf t.data.toList:Nat))∧w'=w:=by
 go_enter Tryz.func93,Tryz.ntmps93;go_wp2_with fail;refine(specMore 4294967295 t _ (by omega) hl).mono ?_
 rintro e w1 ⟨rfl,rfl⟩;go_wp2;go_ret;exact⟨rfl,rfl⟩
theorem specFour(x:Nat)(w:World)(hx:x<4294967296):
 Calls Tryz.prog 92 #[.int .u32 x] w fun e w'=>e=.returned (.string ⟨(four x).toArray⟩)∧Below w.heap.size w w':=by
 have hcv:=run_convert_bytes_back (P:=Tryz.prog) _ 155 9 5 ⟨w.heap.size,0,none⟩ 4 (four x) Tryz.underlying155 Tryz.underlying5 Tryz.underlying9 (four_at x hx w);rw[four_len]at hcv;generalize(ByteArray.mk (four x).toArray)=r at hcv;go_enter Tryz.func92,Tryz.ntmps92;go_wp2;go_ret;exact⟨rfl,(Below.refl _ _).alloc (Nat.le_refl _) _⟩
theorem clone_anyU(s:ByteArray)(w:World)(hs:s.size≤281474976710656):
 Calls Tryz.prog 147 #[.string s] w fun e w'=>e=.returned (.string s)∧Below w.heap.size w w':=by
 go_enter Tryz.func147,Tryz.ntmps147;go_wp2_with fail;refine(Tryz.stringslite_Clone _ _ hs).mono ?_;rintro e w' ⟨rfl,hb⟩;go_wp2;go_ret;exact⟨rfl,hb⟩
theorem unsealed_short(t:ByteArray)(w:World)(hl:(t.size:Int)<4):
 Calls Tryz.prog 202 #[.string t] w fun e w'=>e=.returned (.tuple #[.string ⟨#[]⟩,.bool false])∧w'=w:=by
 go_enter Tryz.func202,Tryz.ntmps202;go_wp2;go_ret2;exact⟨rfl,rfl⟩
theorem toList_inj(a b:ByteArray)(h:a.toList=b.toList):a=b:=by
 rw[ByteArray.toList_eq,ByteArray.toList_eq]at h;exact ByteArray.ext (Array.toList_inj.1 h)
theorem ne_toList(a b:ByteArray)(h:a≠b):(a.toList==b.toList)=false:=by
 rw[beq_eq_false_iff_ne];exact fun e=>h (toList_inj a b e)
theorem eq_toList(a b:ByteArray)(h:a=b):(a.toList==b.toList)=true:=by subst h;simp
theorem unsealed_long(t:ByteArray)(w:World)(hl:(20004:Int)<t.size)(hm:t.size≤maxLen):
 Calls Tryz.prog 202 #[.string t] w fun e w'=>e=.returned (.tuple #[.string ⟨#[]⟩,.bool false])∧w'=w:=by
 unfold maxLen at hm;have hbs:=body_size t;have E:Hid (body t=t.extract 0 (t.size-4)):=rfl;generalize body t=b at hbs E;go_enter Tryz.func202,Tryz.ntmps202;go_wp2_with fail;rw[←E.out];refine(sealed_no b _ (by omega)).mono ?_
 rintro e w1 ⟨rfl,rfl⟩;go_wp2;go_ret2;exact⟨rfl,rfl⟩
theorem unsealed_yes'(t b:ByteArray)(w:World)(hl:4≤(t.size:Int))(hl2:(t.size:Int)≤20004)(E:Hid (b=t.extract 0 (t.size-4)))(hbs:b.size=t.size-4)(hq:((sealA b).toList==t.toList)=true)(HT:Hid (HalvIn w)):
 Calls Tryz.prog 202 #[.string t] w fun e w'=>e=.returned (.tuple #[.string b,.bool true])∧Below w.heap.size w w':=by
 go_enter Tryz.func202,Tryz.ntmps202;go_wp2_with fail;rw[←E.out];refine(sealed_any b _ (by omega) HT.out).mono ?_
 rintro e w1 ⟨rfl,hb⟩;have hs:=hb.size;clear HT;generalize sealA b=r at hq;go_wp2_with fail;rw[←E.out];refine(clone_anyU b _ (by omega)).mono ?_
 rintro e w2 ⟨rfl,hb2⟩;go_wp2;go_ret2;exact⟨rfl,hb.trans (hb2.mono hs)⟩
theorem unsealed_yes(t:ByteArray)(w:World)(hl:4≤(t.size:Int))(hl2:(t.size:Int)≤20004)(he:sealA (body t)=t)(ht:HalvIn w):
 Calls Tryz.prog 202 #[.string t] w fun e w'=>e=.returned (.tuple #[.string (body t),.bool true])∧Below w.heap.size w w':=
 unsealed_yes' t (body t) w hl hl2 rfl (body_size t) (eq_toList _ _ he) ht
theorem unsealed_no'(t b:ByteArray)(w:World)(hl:4≤(t.size:Int))(hl2:(t.size:Int)≤20004)(E:Hid (b=t.extract 0 (t.size-4)))(hbs:b.size=t.size-4)(hq:((sealA b).toList==t.toList)=false)(HT:Hid (HalvIn w)):
 Calls Tryz.prog 202 #[.string t] w fun e w'=>e=.returned (.tuple #[.string ⟨#[]⟩,.bool false])∧Below w.heap.size w w':=by
 go_enter Tryz.func202,Tryz.ntmps202;go_wp2_with fail;rw[←E.out];refine(sealed_any b _ (by omega) HT.out).mono ?_
 rintro e w1 ⟨rfl,hb⟩;clear HT;generalize sealA b=r at hq;go_wp2;go_ret2;exact⟨rfl,hb⟩
theorem unsealed_no(t:ByteArray)(w:World)(hl:4≤(t.size:Int))(hl2:(t.size:Int)≤20004)(he:sealA (body t)≠t)(ht:HalvIn w):
 Calls Tryz.prog 202 #[.string t] w fun e w'=>e=.returned (.tuple #[.string ⟨#[]⟩,.bool false])∧Below w.heap.size w w':=
 unsealed_no' t (body t) w hl hl2 rfl (body_size t) (ne_toList _ _ he) ht
theorem specUnsealed_short(t:ByteArray)(w:World)(hl:(t.size:Int)<4):
 Calls Tryz.prog 64 #[.string t] w fun e w'=>e=.returned (.tuple #[.string ⟨#[]⟩,.bool false])∧Below w.heap.size w w':=by
 have hd:decide ((t.size:Int)-4<0)=true:=by simp;omega
 go_enter Tryz.func64,Tryz.ntmps64;go_wp2;go_quiet (fail);go_wp2;go_ret2;exact⟨rfl,below_drewN (Below.refl _ _) _⟩
theorem specUnsealed_long(t:ByteArray)(w:World)(hl:(20004:Int)<t.size)(hm:t.size≤maxLen):
 Calls Tryz.prog 64 #[.string t] w fun e w'=>e=.returned (.tuple #[.string ⟨#[]⟩,.bool false])∧Below w.heap.size w w':=by
 unfold maxLen at hm;have hd:decide ((t.size:Int)-4<0)=false:=by simp;omega
 have hd2:decide ((20000:Int)<(t.size:Int)-4)=true:=by simp;omega
 go_enter Tryz.func64,Tryz.ntmps64;go_wp2;go_quiet (fail);go_wp2;go_ret2;exact⟨rfl,below_drewN (Below.refl _ _) _⟩
def tail4(t:ByteArray):ByteArray:=t.extract (t.size-4) t.size
theorem seal_cut(t:ByteArray):sealA (body t)=t↔tail4 t=⟨(four (sumOf (body t).data.toList)).toArray⟩:=by
 have h1:body t++tail4 t=t:=by
  apply ByteArray.ext;simp[body,tail4]
 constructor
 ·intro h;have h2:body t++tail4 t=sealA (body t):=h1.trans h.symm;unfold sealA at h2;have:=congrArg (fun z:ByteArray=>z.data.toList) h2
  simp only[ByteArray.data_append,Array.toList_append,List.append_cancel_left_eq]at this;exact ByteArray.ext (Array.toList_inj.1 this)
 ·intro h;unfold sealA;rw[←h,h1]
theorem cut_hi(t:ByteArray)(hl:4≤t.size)(W:World):(Instr.slice 9 (.string t) none (some (.int .i64 ((t.size:Int)-4))) none).run Tryz.prog W=.ok (.string (body t)) W:=by
 rw[run_slice_string_h W 9 t Tryz.underlying9 .i64 _ (by omega) (by omega)]
 have:((t.size:Int)-4).toNat=t.size-4:=by omega
 rw[this];rfl
theorem cut_lo(t:ByteArray)(hl:4≤t.size)(W:World):(Instr.slice 9 (.string t) (some (.int .i64 ((t.size:Int)-4))) none none).run Tryz.prog W=.ok (.string (tail4 t)) W:=by
 rw[run_slice_string_l W 9 t Tryz.underlying9 .i64 _ (by omega) (by omega)]
 have:((t.size:Int)-4).toNat=t.size-4:=by omega
 rw[this];rfl
theorem specUnsealed_yes (t b c:ByteArray) (w:World) (hl:4≤(t.size:Int)) (hl2:(t.size:Int)≤20004)
 (s1:∀W,(Instr.slice 9 (.string t) none (some (.int .i64 ((t.size:Int)-4))) none).run Tryz.prog W=.ok (.string b) W)
 (s2:∀W,(Instr.slice 9 (.string t) (some (.int .i64 ((t.size:Int)-4))) none none).run Tryz.prog W=.ok (.string c) W)
 (hbs:b.size=t.size-4) (hq:(c.toList==four (sumOf b.data.toList))=true):
 Calls Tryz.prog 64 #[.string t] w fun e w'=>e=.returned (.tuple #[.string b,.bool true])∧Below w.heap.size w w':=by
 have hx:=sumOf_lt b.data.toList;have hd:decide ((t.size:Int)-4<0)=false:=by simp;omega
 have hd2:decide ((20000:Int)<(t.size:Int)-4)=false:=by simp;omega
 obtain⟨x,ex⟩:∃x,x=sumOf b.data.toList:=⟨_,rfl⟩;rw[←ex]at hq hx;have EX:=hide ex;clear ex;go_enter Tryz.func64,Tryz.ntmps64;go_wp2;go_region_held3 (fun _=>True) (trivial) (first
  |(go_at_call 93;refine(specOf b _ (by unfold maxLen;omega)).mono ?_;rintro e w1 ⟨rfl,rfl⟩;rw[←EX.out])
  |(go_at_call 92;refine(specFour x _ hx).mono ?_;rintro e w1 ⟨rfl,hb⟩))
 all_goals
  have hb1:=(Below.refl w.heap.size w).drew.trans hb;clear EX hb;go_wp2;go_ret2;exact⟨rfl,hb1⟩
theorem specUnsealed_no (t b c:ByteArray) (w:World) (hl:4≤(t.size:Int)) (hl2:(t.size:Int)≤20004)
 (s1:∀W,(Instr.slice 9 (.string t) none (some (.int .i64 ((t.size:Int)-4))) none).run Tryz.prog W=.ok (.string b) W)
 (s2:∀W,(Instr.slice 9 (.string t) (some (.int .i64 ((t.size:Int)-4))) none none).run Tryz.prog W=.ok (.string c) W)
 (hbs:b.size=t.size-4) (hq:(c.toList==four (sumOf b.data.toList))=false):
 Calls Tryz.prog 64 #[.string t] w fun e w'=>e=.returned (.tuple #[.string ⟨#[]⟩,.bool false])∧Below w.heap.size w w':=by
 have hx:=sumOf_lt b.data.toList;have hd:decide ((t.size:Int)-4<0)=false:=by simp;omega
 have hd2:decide ((20000:Int)<(t.size:Int)-4)=false:=by simp;omega
 obtain⟨x,ex⟩:∃x,x=sumOf b.data.toList:=⟨_,rfl⟩;rw[←ex]at hq hx;have EX:=hide ex;clear ex;go_enter Tryz.func64,Tryz.ntmps64;go_wp2;go_region_held3 (fun _=>True) (trivial) (first
  |(go_at_call 93;refine(specOf b _ (by unfold maxLen;omega)).mono ?_;rintro e w1 ⟨rfl,rfl⟩;rw[←EX.out])
  |(go_at_call 92;refine(specFour x _ hx).mono ?_;rintro e w1 ⟨rfl,hb⟩))
 all_goals
  have hb1:=(Below.refl w.heap.size w).drew.trans hb;clear EX hb;go_wp2;go_ret2;exact⟨rfl,hb1⟩
theorem four_beq(c:ByteArray)(l:List UInt8):(c=⟨l.toArray⟩→(c.toList==l)=true)∧(c≠⟨l.toArray⟩→(c.toList==l)=false):=by
 constructor
 ·intro h;subst h;simp
 ·intro h;rw[beq_eq_false_iff_ne];intro e;apply h;apply toList_inj;simp[e]
def unR:Option ByteArray→Value
 |some s=> .tuple #[.string s,.bool true]
 |none=> .tuple #[.string ⟨#[]⟩,.bool false]
theorem sunseal(t:ByteArray)(hm:t.size≤maxLen)(w:World):
 Calls Tryz.prog 64 #[.string t] w fun e w'=>e=.returned (unR (unA t))∧Below w.heap.size w w':=by
 by_cases h1:(t.size:Int)<4
 ·rw[unA_none (by omega)]
  exact specUnsealed_short t w h1
 ·by_cases h2:(20004:Int)<t.size
  ·rw[unA_none (by omega)]
   exact specUnsealed_long t w h2 hm
  ·by_cases h3:sealA (body t)=t
   ·rw[unA_yes (by omega) (by omega) h3]
    exact specUnsealed_yes t (body t) (tail4 t) w (by omega) (by omega) (cut_hi t (by omega)) (cut_lo t (by omega)) (body_size t) ((four_beq _ _).1 ((seal_cut t).1 h3))
   ·rw[unA_none (fun h=>h3 h.2.2)]
    exact specUnsealed_no t (body t) (tail4 t) w (by omega) (by omega) (cut_hi t (by omega)) (cut_lo t (by omega)) (body_size t) ((four_beq _ _).2 fun h=>h3 ((seal_cut t).2 h))
theorem iunseal(t:ByteArray)(hm:t.size≤maxLen)(w:World)(ht:HalvIn w):
 Calls Tryz.prog 202 #[.string t] w fun e w'=>e=.returned (unR (unA t))∧Below w.heap.size w w':=by
 by_cases h1:(t.size:Int)<4
 ·rw[unA_none (by omega)]
  refine(unsealed_short t w h1).mono ?_;rintro e w' ⟨rfl,rfl⟩;exact⟨rfl,Below.refl _ _⟩
 ·by_cases h2:(20004:Int)<t.size
  ·rw[unA_none (by omega)]
   refine(unsealed_long t w h2 hm).mono ?_;rintro e w' ⟨rfl,rfl⟩;exact⟨rfl,Below.refl _ _⟩
  ·by_cases h3:sealA (body t)=t
   ·rw[unA_yes (by omega) (by omega) h3]
    exact unsealed_yes t w (by omega) (by omega) h3 ht
   ·rw[unA_none (fun h=>h3 h.2.2)]
    exact unsealed_no t w (by omega) (by omega) h3 ht
end Go.Proofs.YtiicghepilbgfaaGreatDoor
