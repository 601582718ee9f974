/-
  SUnseal
-/
import Derived.Test.YtpdoponghlpkcaaDoorPk25
set_option maxHeartbeats 400000
set_option maxRecDepth 100000
namespace Go.Proofs.YtpdoponghlpkcaaDoor
open Go.RowKit
open Sums
theorem specUnsealed_short(t:ByteArray)(w:World)(hl:(t.size:Int)<4):
 Calls Tryd.prog 39 #[.string t] w fun e w'=>e=.returned (.tuple #[.string ⟨#[]⟩,.bool false])∧Below w.heap.size w w':=by
 have hd:decide ((t.size:Int)-4<0)=true:=by simp;omega
 go_enter Tryd.func39,Tryd.ntmps39;go_wp2;go_quiet (fail);go_wp2;go_ret2;exact⟨rfl,below_drewN (Below.refl _ _) _⟩
theorem specUnsealed_long(t:ByteArray)(w:World)(hl:(20004:Int)<t.size)(hm:t.size≤maxLen):
 Calls Tryd.prog 39 #[.string t] w fun e w'=>e=.returned (.tuple #[.string ⟨#[]⟩,.bool false])∧Below w.heap.size w w':=by
 unfold maxLen at hm;have hd:decide ((t.size:Int)-4<0)=false:=by simp;omega
 have hd2:decide ((20000:Int)<(t.size:Int)-4)=true:=by simp;omega
 go_enter Tryd.func39,Tryd.ntmps39;go_wp2;go_quiet (fail);go_wp2;go_ret2;exact⟨rfl,below_drewN (Below.refl _ _) _⟩
def tail4(t:ByteArray):ByteArray:=t.extract (t.size-4) t.size
theorem seal_cut(t:ByteArray):sealA (body t)=t↔tail4 t=⟨(four (sumOf (body t).data.toList)).toArray⟩:=by
 have h1:body t++tail4 t=t:=by
  apply ByteArray.ext;simp[body,tail4]
 constructor
 ·intro h;have h2:body t++tail4 t=sealA (body t):=h1.trans h.symm;unfold sealA at h2;have:=congrArg (fun z:ByteArray=>z.data.toList) h2
  simp only[ByteArray.data_append,Array.toList_append,List.append_cancel_left_eq]at this;exact ByteArray.ext (Array.toList_inj.1 this)
 ·intro h;unfold sealA;rw[←h,h1]
theorem cut_hi(t:ByteArray)(hl:4≤t.size)(W:World):(Instr.slice 9 (.string t) none (some (.int .i64 ((t.size:Int)-4))) none).run Tryd.prog W=.ok (.string (body t)) W:=by
 rw[run_slice_string_h W 9 t Tryd.underlying9 .i64 _ (by omega) (by omega)]
 have:((t.size:Int)-4).toNat=t.size-4:=by omega
 rw[this];rfl
theorem cut_lo(t:ByteArray)(hl:4≤t.size)(W:World):(Instr.slice 9 (.string t) (some (.int .i64 ((t.size:Int)-4))) none none).run Tryd.prog W=.ok (.string (tail4 t)) W:=by
 rw[run_slice_string_l W 9 t Tryd.underlying9 .i64 _ (by omega) (by omega)]
 have:((t.size:Int)-4).toNat=t.size-4:=by omega
 rw[this];rfl
theorem specUnsealed_yes (t b c:ByteArray) (w:World) (hl:4≤(t.size:Int)) (hl2:(t.size:Int)≤20004)
 (s1:∀W,(Instr.slice 9 (.string t) none (some (.int .i64 ((t.size:Int)-4))) none).run Tryd.prog W=.ok (.string b) W)
 (s2:∀W,(Instr.slice 9 (.string t) (some (.int .i64 ((t.size:Int)-4))) none none).run Tryd.prog W=.ok (.string c) W)
 (hbs:b.size=t.size-4) (hq:(c.toList==four (sumOf b.data.toList))=true):
 Calls Tryd.prog 39 #[.string t] w fun e w'=>e=.returned (.tuple #[.string b,.bool true])∧Below w.heap.size w w':=by
 have hx:=sumOf_lt b.data.toList;have hd:decide ((t.size:Int)-4<0)=false:=by simp;omega
 have hd2:decide ((20000:Int)<(t.size:Int)-4)=false:=by simp;omega
 obtain⟨x,ex⟩:∃x,x=sumOf b.data.toList:=⟨_,rfl⟩;rw[←ex]at hq hx;have EX:=hide ex;clear ex;go_enter Tryd.func39,Tryd.ntmps39;go_wp2;go_region_held3 (fun _=>True) (trivial) (first
  |(go_at_call 55;refine(specOf b _ (by unfold maxLen;omega)).mono ?_;rintro e w1 ⟨rfl,rfl⟩;rw[←EX.out])
  |(go_at_call 54;refine(specFour x _ hx).mono ?_;rintro e w1 ⟨rfl,hb⟩))
 all_goals
  have hb1:=(Below.refl w.heap.size w).drew.trans hb;clear EX hb;go_wp2;go_ret2;exact⟨rfl,hb1⟩
theorem specUnsealed_no (t b c:ByteArray) (w:World) (hl:4≤(t.size:Int)) (hl2:(t.size:Int)≤20004)
 (s1:∀W,(Instr.slice 9 (.string t) none (some (.int .i64 ((t.size:Int)-4))) none).run Tryd.prog W=.ok (.string b) W)
 (s2:∀W,(Instr.slice 9 (.string t) (some (.int .i64 ((t.size:Int)-4))) none none).run Tryd.prog W=.ok (.string c) W)
 (hbs:b.size=t.size-4) (hq:(c.toList==four (sumOf b.data.toList))=false):
 Calls Tryd.prog 39 #[.string t] w fun e w'=>e=.returned (.tuple #[.string ⟨#[]⟩,.bool false])∧Below w.heap.size w w':=by
 have hx:=sumOf_lt b.data.toList;have hd:decide ((t.size:Int)-4<0)=false:=by simp;omega
 have hd2:decide ((20000:Int)<(t.size:Int)-4)=false:=by simp;omega
 obtain⟨x,ex⟩:∃x,x=sumOf b.data.toList:=⟨_,rfl⟩;rw[←ex]at hq hx;have EX:=hide ex;clear ex;go_enter Tryd.func39,Tryd.ntmps39;go_wp2;go_region_held3 (fun _=>True) (trivial) (first
  |(go_at_call 55;refine(specOf b _ (by unfold maxLen;omega)).mono ?_;rintro e w1 ⟨rfl,rfl⟩;rw[←EX.out])
  |(go_at_call 54;refine(specFour x _ hx).mono ?_;rintro e w1 ⟨rfl,hb⟩))
 all_goals
  have hb1:=(Below.refl w.heap.size w).drew.trans hb;clear EX hb;go_wp2;go_ret2;exact⟨rfl,hb1⟩
theorem four_beq(c:ByteArray)(l:List UInt8):(c=⟨l.toArray⟩→(c.toList==l)=true)∧(c≠⟨l.toArray⟩→(c.toList==l)=false):=by
 constructor
 ·intro h;subst h;simp
 ·intro h;rw[beq_eq_false_iff_ne];intro e;apply h;apply toList_inj;simp[e]
def unR:Option ByteArray→Value
 |some s=> .tuple #[.string s,.bool true]
 |none=> .tuple #[.string ⟨#[]⟩,.bool false]
theorem sunseal(t:ByteArray)(hm:t.size≤maxLen)(w:World):
 Calls Tryd.prog 39 #[.string t] w fun e w'=>e=.returned (unR (unA t))∧Below w.heap.size w w':=by
 by_cases h1:(t.size:Int)<4
 ·rw[unA_none (by omega)]
  exact specUnsealed_short t w h1
 ·by_cases h2:(20004:Int)<t.size
  ·rw[unA_none (by omega)]
   exact specUnsealed_long t w h2 hm
  ·by_cases h3:sealA (body t)=t
   ·rw[unA_yes (by omega) (by omega) h3]
    exact specUnsealed_yes t (body t) (tail4 t) w (by omega) (by omega) (cut_hi t (by omega)) (cut_lo t (by omega)) (body_size t) ((four_beq _ _).1 ((seal_cut t).1 h3))
   ·rw[unA_none (fun h=>h3 h.2.2)]
    exact specUnsealed_no t (body t) (tail4 t) w (by omega) (by omega) (cut_hi t (by omega)) (cut_lo t (by omega)) (body_size t) ((four_beq _ _).2 fun h=>h3 ((seal_cut t).2 h))
theorem iunseal(t:ByteArray)(hm:t.size≤maxLen)(w:World)(ht:HalvIn w):
 Calls Tryd.prog 89 #[.string t] w fun e w'=>e=.returned (unR (unA t))∧Below w.heap.size w w':=by
 by_cases h1:(t.size:Int)<4
 ·rw[unA_none (by omega)]
  refine(unsealed_short t w h1).mono ?_;rintro e w' ⟨rfl,rfl⟩;exact⟨rfl,Below.refl _ _⟩
 ·by_cases h2:(20004:Int)<t.size
  ·rw[unA_none (by omega)]
   refine(unsealed_long t w h2 hm).mono ?_;rintro e w' ⟨rfl,rfl⟩;exact⟨rfl,Below.refl _ _⟩
  ·by_cases h3:sealA (body t)=t
   ·rw[unA_yes (by omega) (by omega) h3]
    exact unsealed_yes t w (by omega) (by omega) h3 ht
   ·rw[unA_none (fun h=>h3 h.2.2)]
    exact unsealed_no t w (by omega) (by omega) h3 ht
end Go.Proofs.YtpdoponghlpkcaaDoor
