/-
  Al; Base; Own; Kept2; Tk; MtConv; HexMath; DecMath; MarkTx; Flt; OwnC; SliL; TrMath
-/
import Derived.Test.YtgigcooffjjbgaaGreatDoorProg
import Derived.Below
import Derived.Calls
import Derived.Deep.MidRow
import Derived.Deep.RegionHeld
import Derived.Laws.AppendOwn
import Derived.Laws.AppendOwnNone
import Derived.Laws.BitsLemmas
import Derived.Laws.DeepStrings4
import Derived.Laws.Entries
import Derived.Laws.IdiomStrings
import Derived.Laws.NewBlocks
import Derived.Laws.OwnMore
import Derived.Laws.Rows
import Derived.Laws.Sem
import Derived.Laws.Slices
import Derived.Laws.Strings
import Derived.Laws.Tables
import Derived.Laws.World
import Derived.Lib.AppendStr
import Derived.Lib.Strings
import Derived.MapKept
import Derived.Maps.AppendAt
import Derived.Maps.Keyed
import Derived.Orders
import Derived.OrdersHeld
import Derived.OwnWalk
import Derived.Recover
import Derived.Tactics
import Derived.WalkSmall
import GoSem.Core.Value
import Derived.Test.YtgigcooffjjbgaaGreatDoorRows
import Derived.WalkKit
import Derived.WalkSpells
import Derived.WalkLawsBesides
import Derived.OneCell
import Derived.Lib.Slices
import Derived.Deep.RegionWith
import Derived.Deep.RegionHeld3
import Derived.Deep.QuietTactic
import Derived.Deep.AppendLies
import Derived.BigQuiet
import Derived.WalkMore
import Derived.Lib.ItoaNum
import Derived.Lib.ItoaMem
import Derived.Lib.ItoaLen
open Go.Value renaming int→I,slice→Y,string→iT
open Go.IntKind renaming i64→J
open Option renaming none→O,some→X
open Go.Obj renaming cells→iC
open Bool renaming true→iV,false→iF
open Go renaming World→iW,Value→iX
open Go.RowKit renaming Below→iL
namespace Go.Proofs.YtgigcooffjjbgaaGreatDoor
open Go.RowKit
theorem aT(w:World)(o:Obj):Below w.heap.size w (w.alloc o):=(Below.refl _ _).alloc (Nat.le_refl _) _
theorem aZ{w:World}{o:Obj}:Below w.heap.size w (w.alloc o):=(Below.refl _ _).alloc (Nat.le_refl _) _
theorem aq{α:Type}(a:α):∃x,a=x:=⟨a,rfl⟩
def ah(p:Prop):Prop:=p
theorem ah.o{p:Prop}(h:ah p):p:=h
theorem I4{p:Prop}(h:p):ah p:=h
abbrev ay:= @List.getElem?_eq_getElem
abbrev aC:= @List.getElem?_eq_some_iff
abbrev aj:= @Go.cell_of_row
abbrev am:= @Nat.le_refl
abbrev aK:= @Array.getElem?_eq_some_iff
abbrev aB:= @Go.heap_alloc_new
abbrev ai:= @if_neg
abbrev az:= @Go.bodyPost_ret
abbrev ak:= @if_pos
abbrev aI:= @List.length_append
abbrev aL:= @List.mem_of_getElem?
abbrev ax:= @Go.RowKit.Below.refl
abbrev aF:= @Go.frozen_of_row
abbrev aO:= @Go.RowKit.Below.heap_setCell
abbrev bk:= @Go.World.block_lt_of_cell?
abbrev aW:= @List.length_cons
abbrev bh:= @List.getElem?_map
abbrev aV:= @decide_eq_false
abbrev bi:= @Int.toNat_natCast
abbrev aS:= @decide_eq_true
abbrev aJ:= @Nat.zero_le
abbrev bo:= @Go.heap_setCell_same
abbrev cu:= @List.getElem?_append_right
abbrev bm:= @List.length_map
abbrev bu:= @Bool.and_eq_true
abbrev ci:= @List.take_of_length_le
abbrev cT:= @List.setIfInBounds_toArray
abbrev be:= @List.mem_cons
abbrev bU:= @List.mem_singleton
abbrev bM:= @decide_eq_true_eq
abbrev ce:= @List.set_cons_succ
abbrev bJ:= @List.mem_append
abbrev ft:= @List.take_succ_eq_append_getElem
abbrev bt:= @Go.results_tmp2
abbrev cA:= @List.set_cons_zero
abbrev cm:= @Go.IntKind.wrap_i64
abbrev dk:= @beq_eq_false_iff_ne
abbrev cD:= @List.length_take
abbrev cS:= @Go.wpList_append_own
abbrev bV:= @Nat.le_trans
abbrev bZ:= @List.mem_map
abbrev iJ:= @List.eq_nil_of_length_eq_zero
abbrev cB:= @List.map_cons
abbrev bY:= @Go.below_drewN
abbrev bO:= @Go.info_parts
abbrev ip:= @List.getElem?_append_left
abbrev eW:= @Nat.lt_of_lt_of_le
abbrev iN:= @Go.World.cell?_setCell_other
abbrev jh:= @List.drop_eq_getElem_cons
abbrev cn:= @Go.Calls.mono
abbrev fm:= @List.take_add_one
abbrev dW:= @List.length_nil
abbrev dS:= @List.append_nil
abbrev eI:= @List.not_mem_nil
abbrev fq:= @Option.some.injEq
abbrev ge:= @Bool.false_eq_true
abbrev fW:= @List.append_assoc
abbrev gx:= @List.pairwise_cons
abbrev iE:= @List.pairwise_append
abbrev iG:= @List.getElem?_of_mem
abbrev jz:= @List.set_append_right
abbrev gn:= @Go.RowKit.Below.heap_alloc
abbrev jk:= @List.take_append_drop
abbrev fE:= @Option.map_some
abbrev jF:= @List.filter_append
abbrev gY:= @List.all_eq_true
abbrev eC:= @Nat.zero_add
abbrev gK:= @List.length_set
abbrev gE:= @List.cons.injEq
abbrev ii:= @List.cons_append
abbrev gQ:= @List.mem_filter
abbrev gV:= @List.map_append
abbrev iz:= @List.length_drop
abbrev jd:= @Option.bind_some
abbrev gB:= @List.sum_cons
abbrev gU:= @Bool.true_and
abbrev pL:= @List.getD_eq_getElem?_getD
abbrev mQ:= @List.pairwise_singleton
abbrev kC:= @List.filter_cons
abbrev iS:= @Go.heap_alloc_old
abbrev mq:= @List.getElem?_set_self
abbrev mw:= @List.drop_eq_nil_of_le
abbrev mI:= @List.filter_eq_nil_iff
abbrev jT:= @List.nil_append
abbrev ly:= @List.getElem?_drop
abbrev nG:= @List.mem_or_eq_of_mem_set
abbrev ky:= @Bool.or_eq_true
abbrev jX:= @List.mem_range
abbrev tB:= @ByteArray.data_append
abbrev dF:= @if_true
abbrev nZ:= @List.filter_cons_of_pos
abbrev oE:= @List.getElem?_cons_succ
abbrev pP:= @List.pairwise_iff_getElem
abbrev lH:= @List.ext_getElem?
abbrev eX:= @or_false
abbrev qm:= @List.range_succ
abbrev nY:= @List.filterMap_append
abbrev nJ:= @List.getElem?_toArray
abbrev PK:= @Go.run_underlying
abbrev mf:= @Nat.add_assoc
abbrev mi:= @List.mem_flatMap
abbrev sQ:= @List.foldl_append
abbrev p7:= @Array.getElem?_eq_getElem
abbrev fQ:= @if_false
abbrev ix:= @beq_iff_eq
abbrev lg:= @ByteArray.ext
abbrev lL:= @Go.run_loadVar_row
abbrev mD:= @List.take_length
abbrev nA:= @Bool.not_eq_true'
abbrev lZ:= @Bool.false_and
abbrev oZ:= @List.getElem?_set_ne
abbrev sU:= @List.map_set
abbrev lh:= @Nat.sub_self
abbrev oH:= @Go.World.ownsRow_made
abbrev kG:= @Go.results_none
abbrev aca:= @Go.MapKept.run_getObj_map
abbrev pw:= @List.getElem_of_mem
abbrev oY:= @List.map_congr_left
abbrev oP:= @List.mem_map_of_mem
abbrev nT:= @List.flatMap_cons
abbrev qX:= @Go.World.cell?_setCell_same
abbrev kI:= @Int.le_refl
abbrev mU:= @Go.Lib.toList_data
abbrev pO:= @List.mem_cons_self
abbrev rF:= @List.filter_cons_of_neg
abbrev rA:= @decide_eq_false_iff_not
abbrev oo:= @Option.getD_some
abbrev iy:= @and_true
abbrev lT:= @Go.results_tmp3
abbrev rL:= @Go.run_convert_bytes_back
abbrev lA:= @Go.wpAnyH_take
abbrev pW:= @Go.World.ownsRow_nil
abbrev qD:= @List.filterMap_cons
abbrev tm:= @List.mem_of_find?_eq_some
abbrev nN:= @List.foldl_cons
abbrev qp:= @UInt8.toNat_ofNat'
abbrev nf:= @Prod.mk.injEq
abbrev rp:= @List.getElem?_modify
abbrev rg:= @List.mem_iff_getElem
abbrev rS:= @Go.wpList_append_own_at
abbrev sf:= @List.getElem?_cons_zero
abbrev qB:= @Go.setCell_eq_setRow
abbrev tj:= @List.flatMap_append
abbrev nj:= @Nat.zero_mul
abbrev sk:= @Option.map_eq_some_iff
abbrev ab8:= @Go.MapKept.run_setObj_map
abbrev tZ:= @ByteArray.size_append
abbrev qR:= @Option.toList_some
abbrev vr:= @List.getElem?_zip_eq_some
abbrev qg:= @Nat.min_eq_left
abbrev sy:= @List.mem_append_left
abbrev ri:= @of_decide_eq_true
abbrev yS:= @List.drop_append_of_le_length
abbrev wh:= @Go.World.ownsRow.cells
abbrev rl:= @List.getElem_mem
abbrev re:= @List.any_eq_true
abbrev oU:= @List.map_nil
abbrev oQ:= @decide_false
abbrev xE:= @Array.toList_setIfInBounds
abbrev th:= @List.getElem?_set
abbrev sY:= @List.all_eq_false
abbrev ur:= @List.mem_cons_of_mem
abbrev xt:= @Option.isNone_iff_eq_none
abbrev uR:= @Go.toList_madeCells_one
abbrev sO:= @Array.toList_inj
abbrev xj:= @List.getElem?_take_of_lt
abbrev yw:= @List.length_filterMap_le
abbrev vp:= @Go.run_slice_string_if
abbrev xA:= @List.getElem?_modify_eq
abbrev vS:= @List.filter_filter
abbrev tU:= @List.mem_filterMap
abbrev sR:= @Option.some.inj
abbrev ut:= @Option.isSome_none
abbrev wF:= @Array.getElem?_push_lt
abbrev xY:= @List.length_pos_of_mem
abbrev qt:= @Go.setRow_heap
abbrev uJ:= @Go.Result.andThen_ok
abbrev uQ:= @Nat.le_of_succ_le
abbrev Bn:= @Array.getElem?_setIfInBounds
abbrev yI:= @Array.getElem?_toList
abbrev yo:= @List.singleton_append
abbrev wK:= @List.mem_append_right
abbrev qT:= @Nat.add_zero
abbrev Ef:= @List.dropLast_concat_getLast
abbrev zD:= @Go.World.cell?_of_block
abbrev wU:= @List.mem_of_mem_take
abbrev uA:= @List.drop_length
abbrev vP:= @Go.Lib.extract_data
abbrev vY:= @Go.results_cell_row
abbrev vJ:= @Go.wpList_make_full
abbrev DY:= @Int.tdiv_eq_ediv_of_nonneg
abbrev Ap:= @Int.tmod_eq_emod_of_nonneg
abbrev sg:= @Nat.xor_assoc
abbrev rK:= @decide_true
abbrev wV:= @List.filter_sublist
abbrev zI:= @Go.World.grownBy_alloc
abbrev BL:= @List.getLast?_eq_some_iff
abbrev Dc:= @List.getElem?_eq_none_iff
abbrev vH:= @List.find?_some
abbrev zq:= @List.countP_append
abbrev wD:= @List.length_modify
abbrev wE:= @List.filterMap_nil
abbrev Ev:= @Go.World.setCell_alloc_past
abbrev zk:= @Go.World.grownBy.refl
abbrev zh:= @List.getElem?_take
abbrev xw:= @Option.isSome_some
abbrev wg:= @List.drop_drop
abbrev vW:= @Bool.and_false
abbrev uj:= @UInt8.toNat_lt
abbrev AY:= @Int.eq_ofNat_of_zero_le
abbrev Fa:= @List.dropLast_cons_cons
abbrev As:= @List.dropLast_singleton
abbrev Cy:= @Nat.add_sub_cancel_left
abbrev zi:= @List.flatten_cons
abbrev yu:= @Classical.not_not
abbrev A6:= @List.findIdx_eq_length
abbrev Ar:= @Go.World.cell?_alloc_mark
abbrev uD:= @Bool.and_comm
abbrev qE:= @Prod.ext
abbrev wZ:= @List.map_toArray
abbrev Jx:= @Array.all_eq_true_iff_forall_mem
abbrev yJ:= @decide_eq_decide
abbrev D8:= @List.mem_iff_getElem?
abbrev CZ:= @List.countP_singleton
abbrev Ew:= @List.length_replicate
abbrev Dw:= @List.eq_nil_or_concat
abbrev rJ:= @Go.mem_ready
abbrev Cn:= @List.set_append_left
abbrev vI:= @Go.Sem.run_bind
abbrev we:= @Nat.mul_comm
abbrev Cd:= @List.findIdx_getElem
abbrev Fb:= @List.getElem?_mapIdx
abbrev DK:= @List.mem_of_mem_drop
abbrev GM:= @List.eq_nil_iff_forall_not_mem
abbrev sD:= @Array.ext'
abbrev tW:= @Int.le_of_lt
abbrev t7:= @Nat.mul_succ
abbrev zR:= @Nat.mul_le_mul_right
abbrev zt:= @UInt8.toNat_inj
abbrev Dp:= @Array.toList_append
abbrev Ek:= @List.getElem?_range
abbrev Cv:= @Go.ByteArray.toList_eq
abbrev zl:= @Go.AllReadyH.cons
abbrev xz:= @List.take_zero
abbrev Iz:= @Go.Lib.wpList_append_own_string
abbrev ya:= @Nat.add_le_add
abbrev Ea:= @List.find?_eq_none
abbrev Fk:= @List.mem_replicate
abbrev Mq:= @Go.World.rangeAt_setCells_same
abbrev Da:= @Go.run_slice_string_l
abbrev xp:= @Bool.false_or
abbrev Kf:= @Option.isSome_eq_false_iff
abbrev yg:= @Bool.or_false
abbrev AJ:= @List.getElem_take
abbrev Bq:= @List.nodup_append
abbrev BP:= @List.pairwise_map
abbrev Bc:= @Decidable.not_not
abbrev E8:= @Go.Value.slice.injEq
abbrev Aj:= @List.size_toArray
abbrev vV:= @Go.wpS_region
abbrev xX:= @List.set_set
abbrev wM:= @Nat.pow_succ
abbrev zZ:= @Nat.lt_succ_self
abbrev Cs:= @List.getElem_map
abbrev wX:= @Go.Sem.run_pure
abbrev KV:= @Array.getElem?_push_size
abbrev Lc:= @Array.size_setIfInBounds
abbrev Dr:= @beq_self_eq_true
abbrev Ip:= @List.length_eq_zero_iff
abbrev Gc:= @List.getElem?_replicate
abbrev Dy:= @List.filter_nil
abbrev z8:= @Bool.eq_iff_iff
abbrev AQ:= @List.length_zip
abbrev Ce:= @List.all_append
abbrev AU:= @Go.run_loadVar_mid
abbrev ab9:= @ByteArray.data_extract
abbrev Lp:= @List.not_of_lt_findIdx
abbrev G9:= @List.length_eq_one_iff
abbrev IA:= @Go.wpList_append_fits_any
abbrev IQ:= @Go.wpList_append_own_none
abbrev H7:= @List.getElem?_eq_none
abbrev Af:= @List.drop_left
abbrev Km:= @List.filter_filterMap
abbrev IX:= @List.length_singleton
abbrev DQ:= @List.Perm.refl
abbrev Cu:= @List.drop_zero
abbrev Kr:= @List.set_getElem_self
abbrev I6:= @List.filterMap_filter
abbrev Ka:= @Bool.and_eq_false_iff
abbrev BM:= @List.tail_cons
abbrev FJ:= @List.concat_eq_append
abbrev Hh:= @Go.run_append_owned_none
abbrev vD:= @true_and
abbrev Eg:= @Bool.and_true
abbrev Ez:= @Go.AllReadyH.nil
abbrev Ed:= @List.set_comm
abbrev Eb:= @List.drop_one
abbrev BJ:= @List.map_map
abbrev Au:= @Decidable.em
abbrev AD:= @Go.Maps.Keyed.of_law
abbrev tL:= @not_or
abbrev A7:= @Go.wpAnyH_ready
abbrev yO:= @iff_false
abbrev xC:= @false_and
theorem zK:(Tryz.prog.info? 5).map (λi=>(i.zero,i.size,i.bytes))=X (X (I .u8 0),1,1):=by kernel_rfl
theorem af{p:Prop}(h:p):ah p:=h
def bF(l:List UInt8):List iX:=l.map λb=>I .u8 b.toNat
theorem sM(l:List UInt8):(bF l).length=l.length:=by simp[bF]
theorem uV(l:List UInt8)(c:UInt8)(x:Int)(h:(c.toNat:Int)=x):bF l++[I .u8 x]=bF (l++[c]):=by
 subst h;simp[bF]
theorem sJ(l:List UInt8)(j:Nat)(a:j<l.length):(bF l)[j]?=X (I .u8 (l[j].toNat:Int)):=by
 simp[bF,a]
theorem lS(w:iW)(x:iX)(t:TypeId):∀(j:Nat) (u:iX),[x][j]?=X u->(w.alloc (iC #[x] t)).cell? ((⟨w.heap.size,0,O⟩:Addr).add j)=X u:=by
 intro j u a
 match j,a with
 |0,a=>simp at a;subst a;simp[Addr.add]
theorem vT(x:Int):∀u∈ [I .u8 x],u.oneCell'=iV:=by
 intro u a;simp at a;subst a;rfl
variable{B n size C lo b:Nat}{ok:Nat -> Prop}{e:TypeId}
theorem tz {w wr b:iW} {v:iX} {xs:List iX} {o:Obj} (d:iL B w wr) (c:B<=wr.heap.size)
 (a:wr.ownsRow B e 1 v n xs) (f:(wr.alloc o).grownBy b v.ownBlock):iL B w b:=
 (d.alloc c _).grown f (by simp;omega) (λk g=>(a.lt k g).1)
theorem D6(wr:iW)(v:iX)(l:List UInt8)(h:wr.ownsRow B 5 1 v l.length (bF l)):(convert 22 9 v).run Tryz.prog wr=.ok (iT ⟨l.toArray⟩) wr:=by
 have a:=h;rcases h.2 with⟨rfl,h0⟩|⟨g,cap,b,rfl,-,-,-,-,-,-⟩
 ·have:l=[]:=Ip.1 h0;subst this;rw[run_convert_bytes_string wr 22 9 5 O 0 0 Tryz.underlying22 Tryz.underlying5 Tryz.underlying9];rfl
 ·exact rL (P:=Tryz.prog) wr 22 9 5 ⟨g,0,O⟩ cap l Tryz.underlying22 Tryz.underlying5 Tryz.underlying9 (λj c=>a.cells (g:=g) rfl j _ (sJ l j c))
theorem mr:(Tryz.prog.info? 3).map (λi=>(i.zero,i.size,i.bytes))=X (X (I J 0),1,8):=by kernel_rfl
def aD(l:List Int):List iX:=l.map λn=>I J n
theorem ue(l:List Int)(x:Int):aD l++[I J x]=aD (l++[x]):=by simp[aD]
theorem yP(l:List Int)(j:Nat)(a:j<l.length):(aD l)[j]?=X (I J l[j]):=by simp[aD,a]
theorem tD(x:Int):∀u∈ [I J x],u.oneCell'=iV:=by
 intro u a;simp at a;subst a;rfl
theorem fh(g j:Nat):(⟨g,0,O⟩:Addr).add j=⟨g,j,O⟩:=by
 simp only[Addr.add];split<;>simp_all
theorem bC{w w':iW}{base:Nat}{v:iX}{xs:List iX}(h:w.ownsRow base e size v n xs)(j:iL w.heap.size w w'):w'.ownsRow base e size v n xs:=by
 obtain⟨h1,i⟩:=h;refine⟨h1,?_⟩;rcases i with h|⟨g,cap,a,c,d,b,f⟩
 ·exact .inl h
 ·have k:g<w.heap.size:=(aK.1 b).1;exact .inr ⟨g,cap,a,c,d,by rw[j.block g k];exact b,f⟩
theorem oJ{w:iW}{base:Nat}{v:iX}{xs:List iX}(h:w.ownsRow base e size v n xs)(i:C<=base):w.ownsRow C e size v n xs:=by
 obtain⟨h1,d⟩:=h;refine⟨h1,?_⟩;rcases d with h|⟨g,cap,a,b,f,c⟩
 ·exact .inl h
 ·exact .inr ⟨g,cap,a,b,by omega,c⟩
def aR(w w':iW)(ok:Nat->Prop):Prop:=w'.os=w.os/\w'.tape=w.tape/\w'.output=w.output/\w.heap.size<=w'.heap.size/\∀i,i<w.heap.size->ok i->w'.heap[i]?=w.heap[i]?
theorem aR.refl(w:iW)(ok:Nat->Prop):aR w w ok:=⟨rfl,rfl,rfl,am _,λ_ _ _=>rfl⟩
theorem aR.trans{a b c:iW}(h:aR a b ok)(k:aR b c ok):aR a c ok:=
 ⟨k.1.trans h.1,k.2.1.trans h.2.1,k.2.2.1.trans h.2.2.1,bV h.2.2.2.1 k.2.2.2.1,λi hi d=>(k.2.2.2.2 i (eW hi h.2.2.2.1) d).trans (h.2.2.2.2 i hi d)⟩
theorem aR.grown{a b:iW}{row:Option Nat}(h:a.grownBy b row)(d:∀j,row=X j->¬ok j):aR a b ok:=
 ⟨h.os,h.tape,h.output,h.size,λi hi c=>h.block i hi (λe=>d i e.symm c)⟩
theorem aR.below{a b:iW}(h:iL a.heap.size a b):aR a b ok:=⟨h.os,h.tape,h.output,h.size,λi hi _=>h.block i hi⟩
theorem aR.down{a b:iW}(h:aR a b ok)(c:B<=a.heap.size)(d:∀i,i<B->ok i):iL B a b:=⟨h.1,h.2.1,h.2.2.1,h.2.2.2.1,λi hi=>h.2.2.2.2 i (eW hi c) (d i hi)⟩
theorem vh{a b:iW}(h:iL a.heap.size a b)(row:Option Nat):a.grownBy b row:=⟨h.os,h.tape,h.output,h.size,λi hi _=>h.block i hi⟩
def mm(lo hi:Nat)(P:iW->Prop):Prop:=∀w w':iW,(∀g,lo<=g->g<hi->w'.heap[g]?=w.heap[g]?)->P w->P w'
abbrev nK:=Nat×Nat×(iW->Prop)
def Tk(w a:iW)(hs:List nK):Prop:=iL w.heap.size w a/\∀h∈hs,h.2.1<=a.heap.size/\mm h.1 h.2.1 h.2.2/\h.2.2 a
theorem Tk.start(w:iW):Tk w w []:=⟨ax _ _,λ_ h=>by cases h⟩
variable{hs:List nK}
theorem Tk.below{w a wj:iW}(h:Tk w a hs)(b:iL a.heap.size a wj):Tk w wj hs:=by
 refine⟨h.1.trans (b.mono h.1.size),λx e=>?_⟩
 obtain⟨h1,c,d⟩:=h.2 x e;have:=b.size;exact⟨by omega,c,c a wj (λg _ f=>b.block g (by omega)) d⟩
theorem Tk.drew{w a:iW}(h:Tk w a hs):Tk w a.drew hs:=h.below (ax _ _).drew
theorem Tk.get{w a:iW}(h:Tk w a hs)(n:Nat){hi:Nat}{P:iW->Prop}(b:hs[n]?=X (lo,hi,P)):P a:=(h.2 _ (aL b)).2.2
theorem Tk.hi{w a:iW}(h:Tk w a hs)(n:Nat){hi:Nat}{P:iW->Prop}(b:hs[n]?=X (lo,hi,P)):hi<=a.heap.size:=(h.2 _ (aL b)).1
theorem Tk.add{w a wj:iW}(h:Tk w a hs)(d:iL a.heap.size a wj){P:iW->Prop}(e:mm a.heap.size wj.heap.size P)(f:P wj):Tk w wj ((a.heap.size,wj.heap.size,P)::hs):=by
 obtain⟨h1,c⟩:=h.below d;refine⟨h1,λx b=>?_⟩
 rcases be.1 b with rfl|b
 ·exact⟨am _,e,f⟩
 ·exact c x b
theorem Tk.put{w a:iW}(h:Tk w a hs){hi:Nat}{P:iW->Prop}(c:hi<=a.heap.size)(d:mm lo hi P)(e:P a):Tk w a ((lo,hi,P)::hs):=by
 refine⟨h.1,λx b=>?_⟩
 rcases be.1 b with rfl|b
 ·exact⟨c,d,e⟩
 ·exact h.2 x b
def bS(b:Nat)(cs:Array iX)(t:TypeId):iW->Prop:=λW=>W.heap[b]?=X (iC cs t (0,0))
theorem bS.loc(b:Nat)(cs:Array iX)(t:TypeId):mm b (b+1) (bS b cs t):=λ_ _ a h=>(a b (am _) (by omega)).trans h
theorem Tk.cell{w a:iW}{hs:List nK}(h:Tk w a hs)(cs:Array iX)(t:TypeId):Tk w (a.alloc (iC cs t)) ((a.heap.size,a.heap.size+1,bS a.heap.size cs t)::hs):=by
 have b:(a.alloc (iC cs t)).heap.size=a.heap.size+1:=by simp
 have:=h.add ((ax _ _).alloc (am _) (iC cs t)) (P:=bS a.heap.size cs t) (by rw[b];exact bS.loc _ _ _) (aB a _)
 rw[b]at this;exact this
theorem Tk.at{w a:iW}(h:Tk w a hs)(n:Nat){hi:Nat}{cs:Array iX}{t:TypeId}(k:Nat){v:iX}(d:hs[n]?=X (lo,hi,bS b cs t))(c:cs[k]?=X v):a.cell? ⟨b,k,O⟩=X v:=by
 rw[aj _ _ k _ _ _ (h.get n d)];exact c
theorem Tk.fr{w a:iW}(h:Tk w a hs)(n:Nat){hi:Nat}{cs:Array iX}{t:TypeId}(k:Nat)(c:hs[n]?=X (lo,hi,bS b cs t)):a.frozen? ⟨b,k,O⟩=iF:=aF _ _ k _ _ (h.get n c)
variable{hs':List nK}
theorem Tk.drop{w a:iW}(h:Tk w a hs)(b:∀x∈hs',x∈hs):Tk w a hs':=⟨h.1,λx c=>h.2 x (b x c)⟩
theorem Tk.write{w a:iW}{hi:Nat}{v:iX}{t:TypeId}(h:Tk w a hs)(n:Nat)(q:hs[n]?=X (lo,hi,bS b #[v] t))(m:w.heap.size<=b)(u:iX)(o:∀x∈hs',x∈hs/\(x.2.1<=b∨b+1<=x.1)):
 Tk w (a.setCell ⟨b,0,O⟩ u) ((b,b+1,bS b #[u] t)::hs'):=by
 have c:=h.get n q;have d:=(aK.1 c).1;have r:bS b #[u] t (a.setCell ⟨b,0,O⟩ u):=by
  show(a.setCell ⟨b,0,O⟩ u).heap[b]?=_;rw[qB a b 0 #[v] t (0,0) u c];exact qt a b #[v] _ t _ c
 have hs:=h.1.size;have k:(a.setCell ⟨b,0,O⟩ u).heap.size=a.heap.size:=by simp[World.setCell]
 refine⟨h.1.setCell (p:=⟨b,0,O⟩) m u,λx f=>?_⟩
 rcases be.1 f with rfl|f
 ·exact⟨by rw[k];exact d,bS.loc _ _ _,r⟩
 ·obtain⟨i,s⟩:=o x f;obtain⟨h1,j,l⟩:=h.2 x i;exact⟨by rw[k];exact h1,j,j a _ (λg g1 g2=>aO _ _ _ _ (λ(e:g=b)=>by omega)) l⟩
theorem Tk.as{w b:iW}(h:Tk w b hs)(n:Nat){hi:Nat}{P Q:iW->Prop}(d:hs[n]?=X (lo,hi,P))(c:mm lo hi Q)(e:Q b):Tk w b ((lo,hi,Q)::hs):=by
 refine⟨h.1,λx a=>?_⟩
 rcases be.1 a with rfl|a
 ·exact⟨h.hi n d,c,e⟩
 ·exact h.2 x a
def Bo(lo hi i:Nat):Prop:=¬(lo<=i/\i<hi)
theorem Tk.touch {w a wj:iW} {hi:Nat} {Q:iW->Prop} (h:Tk w a hs) (b:aR a wj (Bo lo hi)) (n:w.heap.size<=lo) (l:hi<=a.heap.size) (m:mm lo hi Q) (f:Q wj)
 (k:∀x∈hs',x∈hs/\(x.2.1<=lo∨hi<=x.1)):Tk w wj ((lo,hi,Q)::hs'):=by
 have hs:=b.2.2.2.1;have o:=h.1.size;refine⟨h.1.trans (b.down h.1.size (λi hi' f=>by omega)),λx c=>?_⟩
 rcases be.1 c with rfl|c
 ·exact⟨by show hi<=_;omega,m,f⟩
 ·obtain⟨d,p⟩:=k x c;obtain⟨h1,e,j⟩:=h.2 x d;exact⟨by omega,e,e a wj (λg g1 g2=>b.2.2.2.2 g (by omega) (λq=>by omega)) j⟩
theorem Tk.celln{w a:iW}(h:Tk w a hs)(b:a.heap.size=n)(cs:Array iX)(t:TypeId):Tk w (a.alloc (iC cs t)) ((n,n+1,bS n cs t)::hs):=by
 subst b;exact h.cell cs t
theorem kT{w:iW}(a:w.heap.size=n)(o:Obj):(w.alloc o).heap.size=n+1:=by simp[a]
theorem Tk.two(w:iW)(c1 c2:Array iX)(a b:TypeId):Tk w ((w.alloc (iC c1 a)).alloc (iC c2 b)) [(w.heap.size+1,w.heap.size+1+1,bS (w.heap.size+1) c2 b),(w.heap.size,w.heap.size+1,bS w.heap.size c1 a)]:=
 ((Tk.start w).celln rfl c1 a).celln (kT rfl _) c2 b
theorem Tk.three(w:iW)(c1 c2 c3:Array iX)(a b c:TypeId):Tk w (((w.alloc (iC c1 a)).alloc (iC c2 b)).alloc (iC c3 c)) [(w.heap.size+1+1,w.heap.size+1+1+1,bS (w.heap.size+1+1) c3 c),(w.heap.size+1,w.heap.size+1+1,bS (w.heap.size+1) c2 b),(w.heap.size,w.heap.size+1,bS w.heap.size c1 a)]:=
 (Tk.two w c1 c2 a b).celln (kT (kT rfl _) _) c3 c
theorem Z9(w:iW)(c:UInt8)(x:Int)(h:(c.toNat:Int)=x):
 (convert 22 9 (Y (X ⟨w.heap.size,0,O⟩) 1 1)).run Tryz.prog (w.alloc (iC #[I .u8 x] 5))=.ok (iT ⟨#[c]⟩) (w.alloc (iC #[I .u8 x] 5)):=by
 subst h;exact rL (P:=Tryz.prog) (w.alloc (iC #[I .u8 c.toNat] 5)) 22 9 5 ⟨w.heap.size,0,O⟩ 1 [c] Tryz.underlying22 Tryz.underlying5 Tryz.underlying9
  (λj a=>by
   have:j=0:=by simpa using a
   subst this;exact lS w _ 5 0 _ rfl)
end Go.Proofs.YtgigcooffjjbgaaGreatDoor
namespace Go.Proofs.YtgigcooffjjbgaaGreatDoor.Words
open Go.Lib (decDigits itoa)
def pU(m:Nat):List UInt8:=if m=0 then[]else decDigits m
end Go.Proofs.YtgigcooffjjbgaaGreatDoor.Words
namespace Go.Proofs.YtgigcooffjjbgaaGreatDoor
open Go.RowKit
def aP(t:TypeId)(g:Nat)(xs:List iX):iW->Prop:=λW=>∃cs:Array iX,W.heap[g]?=X (iC cs t (0,0))/\∀(i:Nat) (v:iX),xs[i]?=X v->cs[i]?=X v
theorem aP.loc(t:TypeId)(g:Nat)(xs:List iX):mm g (g+1) (aP t g xs):=by
 rintro w w' b ⟨cs,h1,a⟩;exact⟨cs,(b g (am _) (by omega)).trans h1,a⟩
theorem aP.cell{t:TypeId}{g:Nat}{xs:List iX}{w:iW}(h:aP t g xs w){k:Nat}{v:iX}(b:xs[k]?=X v):w.cell? ⟨g,k,O⟩=X v:=by
 obtain⟨cs,h1,a⟩:=h;rw[aj _ _ k _ _ _ h1];exact a k v b
variable{g lo n cap size B B' hi':Nat}{e:TypeId}
theorem aP.frozen{t:TypeId}{xs:List iX}{w:iW}(h:aP t g xs w)(o:Nat):w.frozen? ⟨g,o,O⟩=iF:=by
 obtain⟨cs,h1,-⟩:=h;exact aF _ _ o _ _ h1
theorem aP.below{t:TypeId}{xs:List iX}{w w':iW}(h:aP t g xs w)(a:iL w.heap.size w w'):aP t g xs w':=by
 have b:g<w.heap.size:=by obtain⟨cs,h1,-⟩:=h;exact(aK.1 h1).1
 exact aP.loc t g xs w w' (λq c d=>a.block q (by omega)) h
theorem aP.set{t:TypeId}{xs:List iX}{w:iW}(h:aP t g xs w)(k:Nat)(u:iX):aP t g (xs.set k u) (w.setCell ⟨g,k,O⟩ u):=by
 obtain⟨cs,h1,c⟩:=h;refine⟨cs.setIfInBounds k u,?_,λi v a=>?_⟩
 ·rw[qB w g k cs t (0,0) u h1];exact qt w g cs _ t _ h1
 ·rw[th]at a;rw[Bn];by_cases e:k=i
  ·rw[ak e]at a⊢;by_cases b:k<xs.length
   ·rw[ak b]at a;obtain⟨x,d⟩:∃x,xs[k]?=X x:=⟨_,ay b⟩;have:=(aK.1 (c k x d)).1;rw[ak this];exact a
   ·rw[ai b]at a;cases a
  ·rw[ai e]at a⊢;exact c i v a
def aG(t:TypeId)(lo hi:Nat)(v:iX)(n:Nat)(xs:List iX):iW->Prop:=λW=>(v=Y O 0 0/\n=0)∨∃g cap,v=Y (X ⟨g,0,O⟩) n cap/\lo<=g/\g<hi/\aP t g xs W
theorem aG.loc(t:TypeId)(lo hi:Nat)(v:iX)(n:Nat)(xs:List iX):mm lo hi (aG t lo hi v n xs):=by
 rintro w w' c (h|⟨g,cap,h1,a,b,h4⟩)
 ·exact Or.inl h
 ·exact Or.inr ⟨g,cap,h1,a,b,aP.loc t g xs w w' (λq d e=>c q (by omega) (by omega)) h4⟩
theorem aG.form{t:TypeId}{hi:Nat}{v:iX}{xs:List iX}{w:iW}(h:aG t lo hi v n xs w):∃ad cap,v=Y ad n cap/\(0<n->∃g,ad=X ⟨g,0,O⟩/\lo<=g/\g<hi):=by
 rcases h with⟨h1,a⟩|⟨g,cap,h1,a,b,-⟩
 ·exact⟨O,0,by rw[h1,a],λh=>by omega⟩
 ·exact⟨_,cap,h1,λ_=>⟨g,rfl,a,b⟩⟩
theorem aG.flt{t:TypeId}{hi:Nat}{xs:List iX}{w:iW}(h:aG t lo hi (Y (X ⟨g,0,O⟩) n cap) n xs w):aP t g xs w:=by
 rcases h with⟨h1,-⟩|⟨c,b,h1,-,-,h4⟩
 ·cases h1
 ·injection h1 with a
  injection a with a
  injection a with a
  subst a;exact h4
theorem aG.of{t:TypeId}{v:iX}{xs:List iX}{w:iW}(h:w.ownsRow lo t size v n xs):aG t lo w.heap.size v n xs w:=by
 have c:=h.lt;rcases h.2 with⟨h1,b⟩|⟨g,cap,a,rfl,b,f,h4,l,m,j⟩
 ·exact Or.inl ⟨h1,b⟩
 ·refine Or.inr ⟨g,cap,rfl,b,(c g rfl).2,a,f,λi x e=>?_⟩
  rw[<-j]at e;obtain⟨k,d⟩:=aC.1 e;rw[AJ]at d;rw[cD]at k;rw[<-yI,aC];exact⟨by omega,d⟩
theorem dz{w:iW}{cs:Array iX}{t:TypeId}(h:w.heap[g]?=X (iC cs t (0,0)))(i:Nat)(u:iX):(w.setCell ⟨g,i,O⟩ u).heap[g]?=X (iC (cs.setIfInBounds i u) t (0,0)):=by
 rw[qB w g i cs t (0,0) u h];exact qt w g cs _ t _ h
theorem cX{w:iW}{a:Nat}{o:Obj}(h:w.heap[g]?=X o)(b:g≠a)(i:Nat)(u:iX):(w.setCell ⟨a,i,O⟩ u).heap[g]?=X o:=(aO _ _ _ _ b).trans h
theorem vM{w:iW}{v:iX}{xs:List iX}(h:w.ownsRow B e size v n xs)(f:B'<=B):w.ownsRow B' e size v n xs:=by
 obtain⟨h1,c⟩:=h;refine⟨h1,?_⟩;rcases c with h|⟨g,cap,a,rfl,d,b⟩
 ·exact .inl h
 ·exact .inr ⟨g,cap,a,rfl,by omega,b⟩
theorem JH{w:iW}{v:iX}{xs:List iX}(h:w.ownsRow B e size v n xs)(k:g<B)(i:Nat)(u:iX):(w.setCell ⟨g,i,O⟩ u).ownsRow B e size v n xs:=by
 obtain⟨h1,j⟩:=h;refine⟨h1,?_⟩;rcases j with h|⟨f,cap,a,rfl,b,c,d⟩
 ·exact .inl h
 ·exact .inr ⟨f,cap,a,rfl,b,cX c (by omega) _ _,d⟩
theorem iM{w:iW}{v:iX}{xs:List iX}(h:w.ownsRow B e size v n xs):∀g,v.ownBlock=X g->B<=g/\g<w.heap.size:=by
 intro g a;exact h.lt g a
theorem sW{w:iW}{base:Nat}{v:iX}{xs:List iX}(h:w.ownsRow base e size v n xs)(j:v=Y (X ⟨g,0,O⟩) n cap)(k:Nat)(u:iX):
 (w.setCell ⟨g,k,O⟩ u).ownsRow base e size v n (xs.set k u):=by
 obtain⟨h1,l⟩:=h;refine⟨by simpa using h1,?_⟩
 rcases l with⟨c,-⟩|⟨f,d,b,c,h4,i,m,o,p,q⟩
 ·rw[j]at c;cases c
 ·right;have r:f=g:=by rw[j]at c;injection c with a;simp at a;exact a.symm
  subst r;refine⟨f,d,b.setIfInBounds k u,c,h4,?_,m,o,by simpa using p,?_⟩
  ·rw[qB w f k b e (0,0) u i];exact qt w f b _ e _ i
  ·rw[xE,List.take_set,q]
theorem mB(w:iW)(g k:Nat)(u:iX):w.grownBy (w.setCell ⟨g,k,O⟩ u) (X g):=
 ⟨rfl,rfl,rfl,by simp[World.setCell],λi _ hi=>aO _ _ _ _ (λe=>hi (by rw[e]))⟩
theorem aG.up{t:TypeId}{hi:Nat}{v:iX}{xs:List iX}{w:iW}(h:aG t lo hi v n xs w)(c:hi<=hi'):aG t lo hi' v n xs w:=by
 rcases h with h|⟨g,cap,e,h1,b,a⟩
 ·exact .inl h
 ·exact .inr ⟨g,cap,e,h1,by omega,a⟩
theorem aG.dn{t:TypeId}{a hi:Nat}{v:iX}{xs:List iX}{w:iW}(h:aG t lo hi v n xs w)(d:a<=lo):aG t a hi v n xs w:=by
 rcases h with h|⟨g,cap,e,h1,b,c⟩
 ·exact .inl h
 ·exact .inr ⟨g,cap,e,by omega,b,c⟩
theorem aG.blw{t:TypeId}{hi:Nat}{v:iX}{xs:List iX}{w w':iW}(h:aG t lo hi v n xs w)(c:iL w.heap.size w w'):aG t lo hi v n xs w':=by
 rcases h with h|⟨g,cap,e,h1,a,b⟩
 ·exact .inl h
 ·exact .inr ⟨g,cap,e,h1,a,b.below c⟩
theorem aG.lt{t:TypeId}{hi:Nat}{v:iX}{xs:List iX}{w:iW}(h:aG t lo hi v n xs w):∀g,v.ownBlock=X g->lo<=g/\g<hi/\∃cs,w.heap[g]?=X (iC cs t (0,0)):=by
 intro g a;rcases h with⟨rfl,-⟩|⟨d,cap,rfl,h1,b,cs,c,-⟩
 ·cases a
 ·simp only[Value.ownBlock,fq]at a;subst a;exact⟨h1,b,cs,c⟩
theorem aG.grown{t:TypeId}{hi:Nat}{v:iX}{xs:List iX}{w y:iW}{row:Option Nat}(h:aG t lo hi v n xs w)(c:w.grownBy y row)(d:∀g,v.ownBlock=X g->row≠X g):aG t lo hi v n xs y:=by
 rcases h with h|⟨g,cap,rfl,h1,b,cs,a,h4⟩
 ·exact .inl h
 ·exact .inr ⟨g,cap,rfl,h1,b,cs,(c.block g (aK.1 a).1 (λe=>d g rfl e.symm)).trans a,h4⟩
theorem nL{w:iW}{v:iX}{xs:List iX}(h:w.ownsRow B e size v n xs):∀g,v.ownBlock=X g->B<=g/\g<w.heap.size/\∃cs,w.heap[g]?=X (iC cs e (0,0)):=by
 intro g a;obtain⟨h1,c⟩:=h.lt g a;rcases h.2 with⟨rfl,-⟩|⟨d,cap,b,rfl,-,q,-⟩
 ·cases a
 ·simp only[Value.ownBlock,fq]at a;subst a;exact⟨h1,c,_,q⟩
namespace Words
structure Kn where
 leaf:Bool
 fD:List Int
def jw(l:List Kn)(n:Int):Bool:=match l[n.toNat]? with
 |some y=>y.leaf
 |none=>iF
def fb(l:List Kn)(i:Nat)(lf:Bool)(n:Int):Bool:=if lf then decide (0<=n)else(decide (n= -1)||(decide (0<=n)&&decide (n<i)&&jw l n))
def gW(l:List Kn)(i:Nat)(x:Kn):Bool:=decide (x.fD.length=4)&&x.fD.all (fb l i x.leaf)
def ji(l:List Kn):Nat->Bool
 |0=>iV
 |k+1=>ji l k&&(match l[k]? with|some x=>gW l k x|none=>iV)
def cj(l:List Kn):Bool:=ji l l.length
variable{r:Int}{k j i:Nat}
variable{l:List Kn}
theorem tH{x:Kn}(h:l[k]?=X x):ji l (k+1)=(ji l k&&gW l k x):=by rw[ji,h]
theorem Nb(h:j<=k)(a:ji l k=iV):ji l j=iV:=by
 induction k with
 |zero=>have:j=0:=by omega
        subst this;exact a
 |succ k b=>
  rw[ji,bu]at a;by_cases e:j=k+1
  ·subst e;rw[ji,bu];exact a
  ·exact b (by omega) a.1
theorem lR(h:cj l=iV){x:Kn}(hi:l[i]?=X x):gW l i x=iV:=by
 have a:=(aC.1 hi).1;have:=Nb (show i+1<=l.length by omega) h
 rw[tH hi,bu]at this;exact this.2
theorem Aa{x:Kn}(hi:l[i]?=X x)(a:gW l i x=iF):cj l=iF:=by
 cases h:cj l with
 |false=>rfl
 |true=>rw[lR h hi]at a;cases a
theorem aby{x:Kn}{n:Int}(b:x.fD[k]?=X n)(a:fb l i x.leaf n=iF):gW l i x=iF:=by
 cases h:gW l i x with
 |false=>rfl
 |true=>
  rw[gW,bu,gY]at h;rw[h.2 n (aL b)]at a;cases a
theorem mR{x:Kn}(h:gW l i x=iV):x.fD.length=4:=by
 rw[gW,bu]at h
 simpa using h.1
theorem uU{x:Kn}{n:Int}(h:gW l i x=iV)(a:x.fD[k]?=X n):fb l i x.leaf n=iV:=by
 rw[gW,bu,gY]at h;exact h.2 n (aL a)
theorem pK{n:Int}{y:Kn}(h:l[n.toNat]?=X y):jw l n=y.leaf:=by rw[jw,h]
theorem DW{n:Int}(h:jw l n=iV):∃y,l[n.toNat]?=X y/\y.leaf=iV:=by
 rw[jw]at h;split at h
 ·rename_i y hy;exact⟨y,hy,h⟩
 ·cases h
def bB(l:List Kn)(r:Int):Bool:=decide (r= -1)||(decide (0<=r)&&decide (r<l.length)&& !jw l r)
theorem lj(h:bB l r=iV)(h0:0<=r):∃x,l[r.toNat]?=X x/\x.leaf=iF:=by
 unfold bB at h;simp only[ky,bu,bM,nA]at h;rcases h with h|⟨⟨h1,b⟩,a⟩
 ·omega
 ·refine⟨_,ay (show r.toNat<l.length by omega),?_⟩
  rw[pK (ay (show r.toNat<l.length by omega))]at a
  exact a
def dQ(l:List Kn)(r:Int)(k:Nat):Int:=((l[r.toNat]?).bind (λx=>x.fD[k]?)).getD 0
theorem ie{x:Kn}{n:Int}(h:l[r.toNat]?=X x)(a:x.fD[k]?=X n):dQ l r k=n:=by
 rw[dQ,h,jd,a,oo]
def cG(l:List Kn)(r:Int)(s:Nat):Int:=if r<0 then 0 else if dQ l r (s/4)<0 then 0 else dQ l (dQ l r (s/4)) (s % 4)
def jJ(l:List Kn)(r s:Int):Bool:=cj l&&bB l r&&(decide (0<=s)&&decide (s<=15))
def dZ(l:List Kn)(r s:Int):Int:=if jJ l r s then cG l r s.toNat else 0
def bW(l:List Kn)(r:Int):List Int:=(List.range 16).map (λs:Nat=>dZ l r s)
theorem lO(h:cj l=iV){x:Kn}(g:l[r.toNat]?=X x)(f:x.leaf=iF)(i:k<4):∃n,x.fD[k]?=X n/\(n= -1∨0<=n/\n<r.toNat/\∃y,l[n.toNat]?=X y/\y.leaf=iV/\y.fD.length=4):=by
 have c:=lR h g;have h4:=mR c;refine⟨_,ay (by omega),?_⟩
 have a:=uU c (ay (show k<x.fD.length by omega))
 rw[fb,f]at a;simp only[ge,fQ,ky,bu,bM]at a;rcases a with a|⟨⟨h1,d⟩,e⟩
 ·exact .inl a
 ·obtain⟨y,hy,b⟩:=DW e;exact .inr ⟨h1,d,y,hy,b,mR (lR h hy)⟩
theorem xL(h:cj l=iV){x:Kn}(d:l[i]?=X x)(c:x.leaf=iV)(e:k<4):∃n,x.fD[k]?=X n/\0<=n:=by
 have a:=lR h d;have h4:=mR a;refine⟨_,ay (by omega),?_⟩
 have b:=uU a (ay (show k<x.fD.length by omega))
 rw[fb,c]at b
 simpa using b
def ir(l:List Kn)(r:Int)(s:Nat)(n:Int):Kn:=⟨iV,((if r<0 then[0,0,0,0]else if dQ l r (s/4)<0 then[0,0,0,0]else((l[(dQ l r (s/4)).toNat]?).map Kn.fD).getD [])).set (s % 4) n⟩
def ib(l:List Kn)(r:Int)(s:Nat):Kn:=⟨iF,(if r<0 then[-1,-1,-1,-1]else((l[r.toNat]?).map Kn.fD).getD []).set (s/4) (l.length:Int)⟩
def lW(l:List Kn)(r s n:Int):Bool:=jJ l r s&&decide (0<=n)
def gN(l:List Kn)(r s n:Int):List Kn:=if lW l r s n then l++[ir l r s.toNat n,ib l r s.toNat]else l
def jM(l:List Kn)(r s n:Int):Int:=if lW l r s n then(l.length:Int)+1 else r
def dN(l:List Kn)(r:Int)(i:Nat):Bool:=decide (0<=r)&&(decide (r=i)||(List.range 4).any (λk=>decide (dQ l r k=i)))
end Words
end Go.Proofs.YtgigcooffjjbgaaGreatDoor
