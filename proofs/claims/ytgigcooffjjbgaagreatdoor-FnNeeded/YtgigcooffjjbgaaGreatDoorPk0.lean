/-
  Al; Base; Own; Kept2; Tk; MtConv; HexMath; DecMath; MarkTx; Flt; OwnC; SliL; TrMath
-/
import Derived.Test.YtgigcooffjjbgaaGreatDoorProg
import Derived.Below
import Derived.Calls
import Derived.Deep.RegionHeld
import Derived.Laws.AppendOwn
import Derived.Laws.AppendOwnNone
import Derived.Laws.BitsLemmas
import Derived.Laws.DeepStrings4
import Derived.Laws.Entries
import Derived.Laws.IdiomStrings
import Derived.Laws.NewBlocks
import Derived.Laws.OwnMore
import Derived.Laws.Rows
import Derived.Laws.Sem
import Derived.Laws.Slices
import Derived.Laws.Strings
import Derived.Laws.Tables
import Derived.Laws.World
import Derived.Lib.Strings
import Derived.MapKept
import Derived.Maps.AppendAt
import Derived.Orders
import Derived.OrdersHeld
import Derived.OwnWalk
import Derived.Recover
import Derived.Tactics
import Derived.WalkSmall
import Derived.Test.YtgigcooffjjbgaaGreatDoorRows
import Derived.WalkKit
import Derived.WalkSpells
import Derived.WalkLawsBesides
import Derived.OneCell
import Derived.Lib.Slices
import Derived.Deep.RegionWith
import Derived.Deep.RegionHeld3
import Derived.Deep.QuietTactic
import Derived.Deep.AppendLies
import Derived.BigQuiet
import Derived.WalkMore
import Derived.Lib.ItoaNum
import Derived.Lib.ItoaMem
import Derived.Lib.ItoaLen
import Derived.Deep.MidRow
open Go.Value renaming int→I,slice→Y,string→iT
open Go.IntKind renaming i64→J
open Option renaming none→O,some→X
open Go.Obj renaming cells→iC
open Bool renaming true→iV,false→iF
open Go renaming World→iW,Value→iX
open Go.RowKit renaming Below→iL
namespace Go.Proofs.YtgigcooffjjbgaaGreatDoor
open Go.RowKit
theorem aR(w:World)(o:Obj):Below w.heap.size w (w.alloc o):=(Below.refl _ _).alloc (Nat.le_refl _) _
theorem bh{w:World}{o:Obj}:Below w.heap.size w (w.alloc o):=(Below.refl _ _).alloc (Nat.le_refl _) _
theorem aq{α:Type}(a:α):∃x,a=x:=⟨a,rfl⟩
def ah(p:Prop):Prop:=p
theorem ah.o{p:Prop}(h:ah p):p:=h
theorem JN{p:Prop}(h:p):ah p:=h
abbrev ay:= @List.getElem?_eq_getElem
abbrev aB:= @List.getElem?_eq_some_iff
abbrev ai:= @Go.cell_of_row
abbrev am:= @Nat.le_refl
abbrev aL:= @Array.getElem?_eq_some_iff
abbrev aC:= @Go.heap_alloc_new
abbrev aj:= @if_neg
abbrev aJ:= @List.length_append
abbrev ak:= @if_pos
abbrev aT:= @Go.World.block_lt_of_cell?
abbrev aO:= @List.mem_of_getElem?
abbrev az:= @Go.RowKit.Below.refl
abbrev aE:= @Go.bodyPost_ret
abbrev aF:= @Go.frozen_of_row
abbrev aS:= @Go.RowKit.Below.heap_setCell
abbrev aV:= @List.length_cons
abbrev bi:= @List.getElem?_map
abbrev bk:= @Int.toNat_natCast
abbrev aK:= @Nat.zero_le
abbrev bL:= @List.take_of_length_le
abbrev aW:= @decide_eq_true
abbrev ct:= @List.getElem?_append_right
abbrev bf:= @decide_eq_false
abbrev bn:= @Bool.and_eq_true
abbrev bm:= @List.length_map
abbrev aX:= @List.mem_cons
abbrev bw:= @Go.heap_setCell_same
abbrev cN:= @List.setIfInBounds_toArray
abbrev bH:= @decide_eq_true_eq
abbrev bR:= @List.mem_singleton
abbrev eY:= @List.take_succ_eq_append_getElem
abbrev bZ:= @List.set_cons_succ
abbrev bG:= @List.mem_append
abbrev cu:= @List.set_cons_zero
abbrev cm:= @Go.IntKind.wrap_i64
abbrev cG:= @List.length_take
abbrev gK:= @List.eq_nil_of_length_eq_zero
abbrev bJ:= @List.mem_map
abbrev du:= @beq_eq_false_iff_ne
abbrev cZ:= @Go.wpList_append_own
abbrev bT:= @Nat.le_trans
abbrev cn:= @List.map_cons
abbrev hI:= @List.getElem?_append_left
abbrev cH:= @Go.results_tmp2
abbrev bV:= @Go.info_parts
abbrev eS:= @Bool.false_eq_true
abbrev eG:= @List.take_add_one
abbrev iQ:= @Go.World.cell?_setCell_other
abbrev cj:= @Go.Calls.mono
abbrev fE:= @Nat.lt_of_lt_of_le
abbrev dU:= @List.length_nil
abbrev i8:= @List.drop_eq_getElem_cons
abbrev dS:= @List.append_nil
abbrev eI:= @List.not_mem_nil
abbrev fu:= @Option.some.injEq
abbrev fs:= @List.append_assoc
abbrev eh:= @List.mem_filter
abbrev fQ:= @List.pairwise_cons
abbrev io:= @List.getElem?_of_mem
abbrev iu:= @List.pairwise_append
abbrev jm:= @List.set_append_right
abbrev fm:= @List.map_append
abbrev gt:= @Go.RowKit.Below.heap_alloc
abbrev jo:= @List.take_append_drop
abbrev gP:= @List.filter_cons
abbrev ir:= @List.filter_append
abbrev gV:= @List.all_eq_true
abbrev gI:= @List.length_set
abbrev dL:= @Go.below_drewN
abbrev eV:= @Nat.zero_add
abbrev g9:= @Option.map_some
abbrev gk:= @Bool.true_and
abbrev fU:= @List.sum_cons
abbrev jl:= @List.cons_append
abbrev nJ:= @List.getD_eq_getElem?_getD
abbrev iw:= @List.mem_range
abbrev mA:= @List.pairwise_singleton
abbrev nh:= @List.pairwise_iff_getElem
abbrev ju:= @List.length_drop
abbrev jk:= @List.cons.injEq
abbrev iZ:= @Go.heap_alloc_old
abbrev lZ:= @List.getElem?_set_self
abbrev me:= @List.drop_eq_nil_of_le
abbrev lh:= @List.getElem?_drop
abbrev nK:= @List.mem_or_eq_of_mem_set
abbrev mV:= @List.filter_eq_nil_iff
abbrev jS:= @Bool.or_eq_true
abbrev kw:= @Option.bind_some
abbrev jT:= @List.nil_append
abbrev kO:= @List.ext_getElem?
abbrev lD:= @List.mem_cons_self
abbrev dw:= @if_true
abbrev oq:= @List.filter_cons_of_pos
abbrev nH:= @List.getElem?_cons_succ
abbrev og:= @Option.map_eq_some_iff
abbrev fb:= @if_false
abbrev rX:= @ByteArray.data_append
abbrev nD:= @List.filterMap_append
abbrev nM:= @List.getElem?_toArray
abbrev fp:= @or_false
abbrev tj:= @List.foldl_append
abbrev pX:= @Array.getElem?_eq_getElem
abbrev m9:= @Go.World.ownsRow_made
abbrev kL:= @Bool.false_and
abbrev ma:= @Nat.add_assoc
abbrev md:= @List.mem_flatMap
abbrev nY:= @List.map_congr_left
abbrev ng:= @Bool.not_eq_true'
abbrev oE:= @List.getElem?_set_ne
abbrev sJ:= @List.map_set
abbrev oe:= @List.range_succ
abbrev jg:= @beq_iff_eq
abbrev oH:= @List.getElem_of_mem
abbrev pj:= @List.mem_map_of_mem
abbrev lO:= @ByteArray.ext
abbrev kM:= @Nat.sub_self
abbrev qA:= @Go.World.cell?_setCell_same
abbrev aao:= @Go.run_underlying
abbrev kT:= @Go.results_none
abbrev kK:= @Int.le_refl
abbrev m7:= @Go.Lib.toList_data
abbrev nj:= @Go.run_loadVar_row
abbrev q9:= @List.filter_cons_of_neg
abbrev qO:= @decide_eq_false_iff_not
abbrev nF:= @List.take_length
abbrev lP:= @Go.results_tmp3
abbrev rB:= @Go.run_convert_bytes_back
abbrev lg:= @Go.wpAnyH_take
abbrev oL:= @List.flatMap_cons
abbrev qn:= @List.filterMap_cons
abbrev tD:= @List.mem_of_find?_eq_some
abbrev nA:= @List.foldl_cons
abbrev pK:= @Option.getD_some
abbrev qj:= @UInt8.toNat_ofNat'
abbrev mQ:= @Prod.mk.injEq
abbrev rz:= @List.getElem?_modify
abbrev rp:= @List.mem_cons_of_mem
abbrev qz:= @List.mem_iff_getElem
abbrev sw:= @List.getElem?_cons_zero
abbrev rK:= @List.flatMap_append
abbrev mW:= @Nat.zero_mul
abbrev qh:= @List.getElem_mem
abbrev rO:= @Array.getElem?_toList
abbrev ve:= @ByteArray.size_append
abbrev qD:= @Option.toList_some
abbrev t8:= @List.getElem?_zip_eq_some
abbrev qt:= @Nat.min_eq_left
abbrev oh:= @List.map_nil
abbrev tX:= @List.getElem?_take_of_lt
abbrev sC:= @List.mem_append_left
abbrev kx:= @and_true
abbrev sy:= @Go.toList_madeCells_one
abbrev wF:= @List.drop_append_of_le_length
abbrev tP:= @Go.World.ownsRow.cells
abbrev rJ:= @List.any_eq_true
abbrev vJ:= @List.length_pos_of_mem
abbrev pe:= @decide_false
abbrev yr:= @Array.toList_setIfInBounds
abbrev sZ:= @List.getElem?_set
abbrev sX:= @List.all_eq_false
abbrev sF:= @of_decide_eq_true
abbrev wH:= @Option.isNone_iff_eq_none
abbrev sx:= @Array.toList_inj
abbrev pP:= @Nat.add_zero
abbrev yJ:= @List.length_filterMap_le
abbrev tm:= @Go.wpList_make_full
abbrev tZ:= @List.filter_sublist
abbrev wO:= @List.getElem?_modify_eq
abbrev tH:= @List.filter_filter
abbrev tS:= @List.mem_filterMap
abbrev sV:= @Option.some.inj
abbrev xn:= @Array.getElem?_push_lt
abbrev aaG:= @Go.MapKept.run_getObj_map
abbrev uK:= @Go.World.ownsRow_nil
abbrev ur:= @Go.Result.andThen_ok
abbrev uH:= @List.pairwise_map
abbrev uT:= @Nat.le_of_succ_le
abbrev vE:= @Go.setCell_eq_setRow
abbrev Ai:= @Array.getElem?_setIfInBounds
abbrev wV:= @List.getElem?_eq_none
abbrev xw:= @List.singleton_append
abbrev xY:= @List.mem_append_right
abbrev zj:= @List.dropLast_concat_getLast
abbrev wN:= @Go.World.cell?_of_block
abbrev wg:= @List.mem_of_mem_take
abbrev uD:= @Go.results_cell_row
abbrev AX:= @Int.tdiv_eq_ediv_of_nonneg
abbrev zw:= @Int.tmod_eq_emod_of_nonneg
abbrev sY:= @Nat.xor_assoc
abbrev rE:= @decide_true
abbrev xZ:= @List.getElem?_range
abbrev zm:= @List.getLast?_eq_some_iff
abbrev vG:= @List.filter_nil
abbrev zI:= @List.getElem?_eq_none_iff
abbrev vk:= @List.find?_some
abbrev ym:= @List.countP_append
abbrev wR:= @List.length_modify
abbrev yO:= @Option.isSome_none
abbrev xF:= @List.filterMap_nil
abbrev Aq:= @Go.World.setCell_alloc_past
abbrev wM:= @Go.World.grownBy.refl
abbrev yU:= @List.getElem?_take
abbrev tV:= @List.drop_drop
abbrev vH:= @Bool.and_false
abbrev vB:= @UInt8.toNat_lt
abbrev zF:= @Int.eq_ofNat_of_zero_le
abbrev zU:= @List.dropLast_cons_cons
abbrev Ab:= @List.dropLast_singleton
abbrev Dr:= @List.getElem?_replicate
abbrev vU:= @List.flatten_cons
abbrev y8:= @List.findIdx_eq_length
abbrev tN:= @Bool.and_comm
abbrev qc:= @Prod.ext
abbrev yS:= @List.drop_length
abbrev xV:= @List.map_toArray
abbrev Gf:= @Array.all_eq_true_iff_forall_mem
abbrev AY:= @List.mem_iff_getElem?
abbrev zh:= @List.countP_singleton
abbrev zJ:= @List.length_replicate
abbrev qP:= @Go.mem_ready
abbrev Dk:= @List.set_append_left
abbrev tW:= @Go.Sem.run_bind
abbrev yL:= @List.length_zip
abbrev CZ:= @List.findIdx_getElem
abbrev DS:= @List.getElem?_mapIdx
abbrev DI:= @List.mem_of_mem_drop
abbrev H5:= @List.eq_nil_iff_forall_not_mem
abbrev xN:= @Bool.eq_iff_iff
abbrev vt:= @Int.le_of_lt
abbrev tQ:= @Nat.mul_succ
abbrev DK:= @Nat.mul_le_mul_right
abbrev yN:= @List.sum_append
abbrev zM:= @Go.wpList_append_own_at
abbrev DM:= @Array.toList_append
abbrev Cv:= @Go.ByteArray.toList_eq
abbrev Cl:= @Go.run_slice_string_if
abbrev yF:= @Go.AllReadyH.cons
abbrev yj:= @List.take_zero
abbrev wJ:= @Nat.add_le_add
abbrev tT:= @Go.setRow_heap
abbrev Ad:= @List.find?_eq_none
abbrev zP:= @List.mem_replicate
abbrev BJ:= @Option.isSome_some
abbrev A7:= @Go.run_slice_string_l
abbrev xu:= @Bool.false_or
abbrev Ks:= @Option.isSome_eq_false_iff
abbrev xm:= @Bool.or_false
abbrev AA:= @List.getElem_take
abbrev Df:= @List.nodup_append
abbrev DL:= @Nat.lt_trichotomy
abbrev AB:= @Decidable.not_not
abbrev Cy:= @Classical.not_not
abbrev uJ:= @Array.ext'
abbrev tR:= @Go.wpS_region
abbrev wh:= @List.set_set
abbrev yo:= @Nat.pow_succ
abbrev zZ:= @Nat.lt_succ_self
abbrev BT:= @List.getElem_map
abbrev xQ:= @Go.Sem.run_pure
abbrev Hn:= @Array.getElem?_push_size
abbrev Cp:= @Go.Lib.extract_data
abbrev Gc:= @Array.size_setIfInBounds
abbrev Ha:= @List.Pairwise.imp_of_mem
abbrev zk:= @beq_self_eq_true
abbrev Ey:= @List.length_eq_zero_iff
abbrev GE:= @Nat.add_sub_cancel_left
abbrev z8:= @List.nodup_cons
abbrev Ba:= @List.all_append
abbrev aaD:= @ByteArray.data_extract
abbrev Fb:= @List.not_of_lt_findIdx
abbrev J7:= @List.length_eq_one_iff
abbrev aaE:= @Go.MapKept.run_setObj_map
abbrev xy:= @Nat.mul_one
abbrev Ho:= @Go.wpList_append_fits_any
abbrev Hi:= @Go.wpList_append_own_none
abbrev JK:= @List.Pairwise.sublist
abbrev Hw:= @List.filter_filterMap
abbrev Iy:= @List.length_singleton
abbrev BM:= @List.Perm.refl
abbrev Ko:= @List.length_filter_le
abbrev AW:= @List.drop_zero
abbrev I9:= @List.set_getElem_self
abbrev Fc:= @List.filterMap_filter
abbrev Em:= @List.contains_iff_mem
abbrev FM:= @Bool.and_eq_false_iff
abbrev aaB:= @Array.getElem?_modify
abbrev IF:= @List.length_mergeSort
abbrev Jd:= @Go.run_append_owned_none
abbrev vL:= @true_and
abbrev Be:= @Bool.and_true
abbrev Bv:= @Go.AllReadyH.nil
abbrev Dn:= @List.set_comm
abbrev Do:= @Nat.mul_comm
abbrev Bh:= @List.map_map
abbrev DP:= @Decidable.em
abbrev sH:= @not_or
abbrev BH:= @Go.wpAnyH_ready
theorem Gd:(Tryz.prog.info? 5).map (λi=>(i.zero,i.size,i.bytes))=X (X (I .u8 0),1,1):=by kernel_rfl
theorem af{p:Prop}(h:p):ah p:=h
def fZ(l:List UInt8):List iX:=l.map λb=>I .u8 b.toNat
theorem Pv(l:List UInt8):(fZ l).length=l.length:=by simp[fZ]
theorem A6(l:List UInt8)(c:UInt8)(x:Int)(h:(c.toNat:Int)=x):fZ l++[I .u8 x]=fZ (l++[c]):=by
 subst h;simp[fZ]
theorem yf(l:List UInt8)(j:Nat)(a:j<l.length):(fZ l)[j]?=X (I .u8 (l[j].toNat:Int)):=by
 simp[fZ,a]
theorem lz(w:iW)(x:iX)(t:TypeId):∀(j:Nat) (u:iX),[x][j]?=X u->(w.alloc (iC #[x] t)).cell? ((⟨w.heap.size,0,O⟩:Addr).add j)=X u:=by
 intro j u a
 match j,a with
 |0,a=>simp at a;subst a;simp[Addr.add]
theorem Ap(x:Int):∀u∈ [I .u8 x],u.oneCell'=iV:=by
 intro u a;simp at a;subst a;rfl
variable{B n size C lo b:Nat}{ok:Nat -> Prop}{e:TypeId}
theorem yP {w wr b:iW} {v:iX} {xs:List iX} {o:Obj} (d:iL B w wr) (c:B<=wr.heap.size)
 (a:wr.ownsRow B e 1 v n xs) (f:(wr.alloc o).grownBy b v.ownBlock):iL B w b:=
 (d.alloc c _).grown f (by simp;omega) (λk g=>(a.lt k g).1)
theorem Qh(wr:iW)(v:iX)(l:List UInt8)(h:wr.ownsRow B 5 1 v l.length (fZ l)):(convert 22 9 v).run Tryz.prog wr=.ok (iT ⟨l.toArray⟩) wr:=by
 have a:=h;rcases h.2 with⟨rfl,h0⟩|⟨g,cap,b,rfl,-,-,-,-,-,-⟩
 ·have:l=[]:=Ey.1 h0;subst this;rw[run_convert_bytes_string wr 22 9 5 O 0 0 Tryz.underlying22 Tryz.underlying5 Tryz.underlying9];rfl
 ·exact rB (P:=Tryz.prog) wr 22 9 5 ⟨g,0,O⟩ cap l Tryz.underlying22 Tryz.underlying5 Tryz.underlying9 (λj c=>a.cells (g:=g) rfl j _ (yf l j c))
theorem lp:(Tryz.prog.info? 3).map (λi=>(i.zero,i.size,i.bytes))=X (X (I J 0),1,8):=by kernel_rfl
def ax(l:List Int):List iX:=l.map λn=>I J n
theorem qB(l:List Int)(x:Int):ax l++[I J x]=ax (l++[x]):=by simp[ax]
theorem sE(l:List Int)(j:Nat)(a:j<l.length):(ax l)[j]?=X (I J l[j]):=by simp[ax,a]
theorem qJ(x:Int):∀u∈ [I J x],u.oneCell'=iV:=by
 intro u a;simp at a;subst a;rfl
theorem fw(g j:Nat):(⟨g,0,O⟩:Addr).add j=⟨g,j,O⟩:=by
 simp only[Addr.add];split<;>simp_all
theorem bE{w w':iW}{base:Nat}{v:iX}{xs:List iX}(h:w.ownsRow base e size v n xs)(j:iL w.heap.size w w'):w'.ownsRow base e size v n xs:=by
 obtain⟨h1,i⟩:=h;refine⟨h1,?_⟩;rcases i with h|⟨g,cap,a,c,d,b,f⟩
 ·exact .inl h
 ·have k:g<w.heap.size:=(aL.1 b).1;exact .inr ⟨g,cap,a,c,d,by rw[j.block g k];exact b,f⟩
theorem lJ{w:iW}{base:Nat}{v:iX}{xs:List iX}(h:w.ownsRow base e size v n xs)(i:C<=base):w.ownsRow C e size v n xs:=by
 obtain⟨h1,d⟩:=h;refine⟨h1,?_⟩;rcases d with h|⟨g,cap,a,b,f,c⟩
 ·exact .inl h
 ·exact .inr ⟨g,cap,a,b,by omega,c⟩
def be(w w':iW)(ok:Nat->Prop):Prop:=w'.os=w.os/\w'.tape=w.tape/\w'.output=w.output/\w.heap.size<=w'.heap.size/\∀i,i<w.heap.size->ok i->w'.heap[i]?=w.heap[i]?
theorem be.refl(w:iW)(ok:Nat->Prop):be w w ok:=⟨rfl,rfl,rfl,am _,λ_ _ _=>rfl⟩
theorem be.trans{a b c:iW}(h:be a b ok)(k:be b c ok):be a c ok:=
 ⟨k.1.trans h.1,k.2.1.trans h.2.1,k.2.2.1.trans h.2.2.1,bT h.2.2.2.1 k.2.2.2.1,λi hi d=>(k.2.2.2.2 i (fE hi h.2.2.2.1) d).trans (h.2.2.2.2 i hi d)⟩
theorem be.grown{a b:iW}{row:Option Nat}(h:a.grownBy b row)(d:∀j,row=X j->¬ok j):be a b ok:=
 ⟨h.os,h.tape,h.output,h.size,λi hi c=>h.block i hi (λe=>d i e.symm c)⟩
theorem be.below{a b:iW}(h:iL a.heap.size a b):be a b ok:=⟨h.os,h.tape,h.output,h.size,λi hi _=>h.block i hi⟩
theorem be.down{a b:iW}(h:be a b ok)(c:B<=a.heap.size)(d:∀i,i<B->ok i):iL B a b:=⟨h.1,h.2.1,h.2.2.1,h.2.2.2.1,λi hi=>h.2.2.2.2 i (fE hi c) (d i hi)⟩
def mt(lo hi:Nat)(P:iW->Prop):Prop:=∀w w':iW,(∀g,lo<=g->g<hi->w'.heap[g]?=w.heap[g]?)->P w->P w'
abbrev nZ:=Nat×Nat×(iW->Prop)
def Tk(w a:iW)(hs:List nZ):Prop:=iL w.heap.size w a/\∀h∈hs,h.2.1<=a.heap.size/\mt h.1 h.2.1 h.2.2/\h.2.2 a
theorem Tk.start(w:iW):Tk w w []:=⟨az _ _,λ_ h=>by cases h⟩
variable{hs:List nZ}
theorem Tk.below{w a wj:iW}(h:Tk w a hs)(b:iL a.heap.size a wj):Tk w wj hs:=by
 refine⟨h.1.trans (b.mono h.1.size),λx e=>?_⟩
 obtain⟨h1,c,d⟩:=h.2 x e;have:=b.size;exact⟨by omega,c,c a wj (λg _ f=>b.block g (by omega)) d⟩
theorem Tk.drew{w a:iW}(h:Tk w a hs):Tk w a.drew hs:=h.below (az _ _).drew
theorem Tk.get{w a:iW}(h:Tk w a hs)(n:Nat){hi:Nat}{P:iW->Prop}(b:hs[n]?=X (lo,hi,P)):P a:=(h.2 _ (aO b)).2.2
theorem Tk.hi{w a:iW}(h:Tk w a hs)(n:Nat){hi:Nat}{P:iW->Prop}(b:hs[n]?=X (lo,hi,P)):hi<=a.heap.size:=(h.2 _ (aO b)).1
theorem Tk.add{w a wj:iW}(h:Tk w a hs)(d:iL a.heap.size a wj){P:iW->Prop}(e:mt a.heap.size wj.heap.size P)(f:P wj):Tk w wj ((a.heap.size,wj.heap.size,P)::hs):=by
 obtain⟨h1,c⟩:=h.below d;refine⟨h1,λx b=>?_⟩
 rcases aX.1 b with rfl|b
 ·exact⟨am _,e,f⟩
 ·exact c x b
theorem Tk.put{w a:iW}(h:Tk w a hs){hi:Nat}{P:iW->Prop}(c:hi<=a.heap.size)(d:mt lo hi P)(e:P a):Tk w a ((lo,hi,P)::hs):=by
 refine⟨h.1,λx b=>?_⟩
 rcases aX.1 b with rfl|b
 ·exact⟨c,d,e⟩
 ·exact h.2 x b
def bS(b:Nat)(cs:Array iX)(t:TypeId):iW->Prop:=λW=>W.heap[b]?=X (iC cs t (0,0))
theorem bS.loc(b:Nat)(cs:Array iX)(t:TypeId):mt b (b+1) (bS b cs t):=λ_ _ a h=>(a b (am _) (by omega)).trans h
theorem Tk.cell{w a:iW}{hs:List nZ}(h:Tk w a hs)(cs:Array iX)(t:TypeId):Tk w (a.alloc (iC cs t)) ((a.heap.size,a.heap.size+1,bS a.heap.size cs t)::hs):=by
 have b:(a.alloc (iC cs t)).heap.size=a.heap.size+1:=by simp
 have:=h.add ((az _ _).alloc (am _) (iC cs t)) (P:=bS a.heap.size cs t) (by rw[b];exact bS.loc _ _ _) (aC a _)
 rw[b]at this;exact this
theorem Tk.at{w a:iW}(h:Tk w a hs)(n:Nat){hi:Nat}{cs:Array iX}{t:TypeId}(k:Nat){v:iX}(d:hs[n]?=X (lo,hi,bS b cs t))(c:cs[k]?=X v):a.cell? ⟨b,k,O⟩=X v:=by
 rw[ai _ _ k _ _ _ (h.get n d)];exact c
theorem Tk.fr{w a:iW}(h:Tk w a hs)(n:Nat){hi:Nat}{cs:Array iX}{t:TypeId}(k:Nat)(c:hs[n]?=X (lo,hi,bS b cs t)):a.frozen? ⟨b,k,O⟩=iF:=aF _ _ k _ _ (h.get n c)
variable{hs':List nZ}
theorem Tk.drop{w a:iW}(h:Tk w a hs)(b:∀x∈hs',x∈hs):Tk w a hs':=⟨h.1,λx c=>h.2 x (b x c)⟩
theorem Tk.write{w a:iW}{hi:Nat}{v:iX}{t:TypeId}(h:Tk w a hs)(n:Nat)(q:hs[n]?=X (lo,hi,bS b #[v] t))(m:w.heap.size<=b)(u:iX)(o:∀x∈hs',x∈hs/\(x.2.1<=b∨b+1<=x.1)):
 Tk w (a.setCell ⟨b,0,O⟩ u) ((b,b+1,bS b #[u] t)::hs'):=by
 have c:=h.get n q;have d:=(aL.1 c).1;have r:bS b #[u] t (a.setCell ⟨b,0,O⟩ u):=by
  show(a.setCell ⟨b,0,O⟩ u).heap[b]?=_;rw[vE a b 0 #[v] t (0,0) u c];exact tT a b #[v] _ t _ c
 have hs:=h.1.size;have k:(a.setCell ⟨b,0,O⟩ u).heap.size=a.heap.size:=by simp[World.setCell]
 refine⟨h.1.setCell (p:=⟨b,0,O⟩) m u,λx f=>?_⟩
 rcases aX.1 f with rfl|f
 ·exact⟨by rw[k];exact d,bS.loc _ _ _,r⟩
 ·obtain⟨i,s⟩:=o x f;obtain⟨h1,j,l⟩:=h.2 x i;exact⟨by rw[k];exact h1,j,j a _ (λg g1 g2=>aS _ _ _ _ (λ(e:g=b)=>by omega)) l⟩
theorem Tk.as{w b:iW}(h:Tk w b hs)(n:Nat){hi:Nat}{P Q:iW->Prop}(d:hs[n]?=X (lo,hi,P))(c:mt lo hi Q)(e:Q b):Tk w b ((lo,hi,Q)::hs):=by
 refine⟨h.1,λx a=>?_⟩
 rcases aX.1 a with rfl|a
 ·exact⟨h.hi n d,c,e⟩
 ·exact h.2 x a
def Da(lo hi i:Nat):Prop:=¬(lo<=i/\i<hi)
theorem Tk.touch {w a wj:iW} {hi:Nat} {Q:iW->Prop} (h:Tk w a hs) (b:be a wj (Da lo hi)) (n:w.heap.size<=lo) (l:hi<=a.heap.size) (m:mt lo hi Q) (f:Q wj)
 (k:∀x∈hs',x∈hs/\(x.2.1<=lo∨hi<=x.1)):Tk w wj ((lo,hi,Q)::hs'):=by
 have hs:=b.2.2.2.1;have o:=h.1.size;refine⟨h.1.trans (b.down h.1.size (λi hi' f=>by omega)),λx c=>?_⟩
 rcases aX.1 c with rfl|c
 ·exact⟨by show hi<=_;omega,m,f⟩
 ·obtain⟨d,p⟩:=k x c;obtain⟨h1,e,j⟩:=h.2 x d;exact⟨by omega,e,e a wj (λg g1 g2=>b.2.2.2.2 g (by omega) (λq=>by omega)) j⟩
theorem Tk.celln{w a:iW}(h:Tk w a hs)(b:a.heap.size=n)(cs:Array iX)(t:TypeId):Tk w (a.alloc (iC cs t)) ((n,n+1,bS n cs t)::hs):=by
 subst b;exact h.cell cs t
theorem kg{w:iW}(a:w.heap.size=n)(o:Obj):(w.alloc o).heap.size=n+1:=by simp[a]
theorem Tk.two(w:iW)(c1 c2:Array iX)(a b:TypeId):Tk w ((w.alloc (iC c1 a)).alloc (iC c2 b)) [(w.heap.size+1,w.heap.size+1+1,bS (w.heap.size+1) c2 b),(w.heap.size,w.heap.size+1,bS w.heap.size c1 a)]:=
 ((Tk.start w).celln rfl c1 a).celln (kg rfl _) c2 b
theorem Tk.three(w:iW)(c1 c2 c3:Array iX)(a b c:TypeId):Tk w (((w.alloc (iC c1 a)).alloc (iC c2 b)).alloc (iC c3 c)) [(w.heap.size+1+1,w.heap.size+1+1+1,bS (w.heap.size+1+1) c3 c),(w.heap.size+1,w.heap.size+1+1,bS (w.heap.size+1) c2 b),(w.heap.size,w.heap.size+1,bS w.heap.size c1 a)]:=
 (Tk.two w c1 c2 a b).celln (kg (kg rfl _) _) c3 c
theorem M4(w:iW)(c:UInt8)(x:Int)(h:(c.toNat:Int)=x):
 (convert 22 9 (Y (X ⟨w.heap.size,0,O⟩) 1 1)).run Tryz.prog (w.alloc (iC #[I .u8 x] 5))=.ok (iT ⟨#[c]⟩) (w.alloc (iC #[I .u8 x] 5)):=by
 subst h;exact rB (P:=Tryz.prog) (w.alloc (iC #[I .u8 c.toNat] 5)) 22 9 5 ⟨w.heap.size,0,O⟩ 1 [c] Tryz.underlying22 Tryz.underlying5 Tryz.underlying9
  (λj a=>by
   have:j=0:=by simpa using a
   subst this;exact lz w _ 5 0 _ rfl)
end Go.Proofs.YtgigcooffjjbgaaGreatDoor
namespace Go.Proofs.YtgigcooffjjbgaaGreatDoor.Words
open Go.Lib (decDigits itoa)
def oX(m:Nat):List UInt8:=if m=0 then[]else decDigits m
end Go.Proofs.YtgigcooffjjbgaaGreatDoor.Words
namespace Go.Proofs.YtgigcooffjjbgaaGreatDoor
open Go.RowKit
def aP(t:TypeId)(g:Nat)(xs:List iX):iW->Prop:=λW=>∃cs:Array iX,W.heap[g]?=X (iC cs t (0,0))/\∀(i:Nat) (v:iX),xs[i]?=X v->cs[i]?=X v
theorem aP.loc(t:TypeId)(g:Nat)(xs:List iX):mt g (g+1) (aP t g xs):=by
 rintro w w' b ⟨cs,h1,a⟩;exact⟨cs,(b g (am _) (by omega)).trans h1,a⟩
theorem aP.cell{t:TypeId}{g:Nat}{xs:List iX}{w:iW}(h:aP t g xs w){k:Nat}{v:iX}(b:xs[k]?=X v):w.cell? ⟨g,k,O⟩=X v:=by
 obtain⟨cs,h1,a⟩:=h;rw[ai _ _ k _ _ _ h1];exact a k v b
variable{g lo n cap size B B' hi':Nat}{e:TypeId}
theorem aP.frozen{t:TypeId}{xs:List iX}{w:iW}(h:aP t g xs w)(o:Nat):w.frozen? ⟨g,o,O⟩=iF:=by
 obtain⟨cs,h1,-⟩:=h;exact aF _ _ o _ _ h1
theorem aP.below{t:TypeId}{xs:List iX}{w w':iW}(h:aP t g xs w)(a:iL w.heap.size w w'):aP t g xs w':=by
 have b:g<w.heap.size:=by obtain⟨cs,h1,-⟩:=h;exact(aL.1 h1).1
 exact aP.loc t g xs w w' (λq c d=>a.block q (by omega)) h
theorem aP.set{t:TypeId}{xs:List iX}{w:iW}(h:aP t g xs w)(k:Nat)(u:iX):aP t g (xs.set k u) (w.setCell ⟨g,k,O⟩ u):=by
 obtain⟨cs,h1,c⟩:=h;refine⟨cs.setIfInBounds k u,?_,λi v a=>?_⟩
 ·rw[vE w g k cs t (0,0) u h1];exact tT w g cs _ t _ h1
 ·rw[sZ]at a;rw[Ai];by_cases e:k=i
  ·rw[ak e]at a⊢;by_cases b:k<xs.length
   ·rw[ak b]at a;obtain⟨x,d⟩:∃x,xs[k]?=X x:=⟨_,ay b⟩;have:=(aL.1 (c k x d)).1;rw[ak this];exact a
   ·rw[aj b]at a;cases a
  ·rw[aj e]at a⊢;exact c i v a
def aG(t:TypeId)(lo hi:Nat)(v:iX)(n:Nat)(xs:List iX):iW->Prop:=λW=>(v=Y O 0 0/\n=0)∨∃g cap,v=Y (X ⟨g,0,O⟩) n cap/\lo<=g/\g<hi/\aP t g xs W
theorem aG.loc(t:TypeId)(lo hi:Nat)(v:iX)(n:Nat)(xs:List iX):mt lo hi (aG t lo hi v n xs):=by
 rintro w w' c (h|⟨g,cap,h1,a,b,h4⟩)
 ·exact Or.inl h
 ·exact Or.inr ⟨g,cap,h1,a,b,aP.loc t g xs w w' (λq d e=>c q (by omega) (by omega)) h4⟩
theorem aG.form{t:TypeId}{hi:Nat}{v:iX}{xs:List iX}{w:iW}(h:aG t lo hi v n xs w):∃ad cap,v=Y ad n cap/\(0<n->∃g,ad=X ⟨g,0,O⟩/\lo<=g/\g<hi):=by
 rcases h with⟨h1,a⟩|⟨g,cap,h1,a,b,-⟩
 ·exact⟨O,0,by rw[h1,a],λh=>by omega⟩
 ·exact⟨_,cap,h1,λ_=>⟨g,rfl,a,b⟩⟩
theorem aG.flt{t:TypeId}{hi:Nat}{xs:List iX}{w:iW}(h:aG t lo hi (Y (X ⟨g,0,O⟩) n cap) n xs w):aP t g xs w:=by
 rcases h with⟨h1,-⟩|⟨c,b,h1,-,-,h4⟩
 ·cases h1
 ·injection h1 with a
  injection a with a
  injection a with a
  subst a;exact h4
theorem aG.of{t:TypeId}{v:iX}{xs:List iX}{w:iW}(h:w.ownsRow lo t size v n xs):aG t lo w.heap.size v n xs w:=by
 have c:=h.lt;rcases h.2 with⟨h1,b⟩|⟨g,cap,a,rfl,b,f,h4,l,m,j⟩
 ·exact Or.inl ⟨h1,b⟩
 ·refine Or.inr ⟨g,cap,rfl,b,(c g rfl).2,a,f,λi x e=>?_⟩
  rw[<-j]at e;obtain⟨k,d⟩:=aB.1 e;rw[AA]at d;rw[cG]at k;rw[<-rO,aB];exact⟨by omega,d⟩
theorem dq{w:iW}{cs:Array iX}{t:TypeId}(h:w.heap[g]?=X (iC cs t (0,0)))(i:Nat)(u:iX):(w.setCell ⟨g,i,O⟩ u).heap[g]?=X (iC (cs.setIfInBounds i u) t (0,0)):=by
 rw[vE w g i cs t (0,0) u h];exact tT w g cs _ t _ h
theorem cU{w:iW}{a:Nat}{o:Obj}(h:w.heap[g]?=X o)(b:g≠a)(i:Nat)(u:iX):(w.setCell ⟨a,i,O⟩ u).heap[g]?=X o:=(aS _ _ _ _ b).trans h
theorem tL{w:iW}{v:iX}{xs:List iX}(h:w.ownsRow B e size v n xs)(f:B'<=B):w.ownsRow B' e size v n xs:=by
 obtain⟨h1,c⟩:=h;refine⟨h1,?_⟩;rcases c with h|⟨g,cap,a,rfl,d,b⟩
 ·exact .inl h
 ·exact .inr ⟨g,cap,a,rfl,by omega,b⟩
theorem J4{w:iW}{v:iX}{xs:List iX}(h:w.ownsRow B e size v n xs)(k:g<B)(i:Nat)(u:iX):(w.setCell ⟨g,i,O⟩ u).ownsRow B e size v n xs:=by
 obtain⟨h1,j⟩:=h;refine⟨h1,?_⟩;rcases j with h|⟨f,cap,a,rfl,b,c,d⟩
 ·exact .inl h
 ·exact .inr ⟨f,cap,a,rfl,b,cU c (by omega) _ _,d⟩
theorem iS{w:iW}{v:iX}{xs:List iX}(h:w.ownsRow B e size v n xs):∀g,v.ownBlock=X g->B<=g/\g<w.heap.size:=by
 intro g a;exact h.lt g a
theorem rh{w:iW}{base:Nat}{v:iX}{xs:List iX}(h:w.ownsRow base e size v n xs)(j:v=Y (X ⟨g,0,O⟩) n cap)(k:Nat)(u:iX):
 (w.setCell ⟨g,k,O⟩ u).ownsRow base e size v n (xs.set k u):=by
 obtain⟨h1,l⟩:=h;refine⟨by simpa using h1,?_⟩
 rcases l with⟨c,-⟩|⟨f,d,b,c,h4,i,m,o,p,q⟩
 ·rw[j]at c;cases c
 ·right;have r:f=g:=by rw[j]at c;injection c with a;simp at a;exact a.symm
  subst r;refine⟨f,d,b.setIfInBounds k u,c,h4,?_,m,o,by simpa using p,?_⟩
  ·rw[vE w f k b e (0,0) u i];exact tT w f b _ e _ i
  ·rw[yr,List.take_set,q]
theorem mg(w:iW)(g k:Nat)(u:iX):w.grownBy (w.setCell ⟨g,k,O⟩ u) (X g):=
 ⟨rfl,rfl,rfl,by simp[World.setCell],λi _ hi=>aS _ _ _ _ (λe=>hi (by rw[e]))⟩
theorem aG.up{t:TypeId}{hi:Nat}{v:iX}{xs:List iX}{w:iW}(h:aG t lo hi v n xs w)(c:hi<=hi'):aG t lo hi' v n xs w:=by
 rcases h with h|⟨g,cap,e,h1,b,a⟩
 ·exact .inl h
 ·exact .inr ⟨g,cap,e,h1,by omega,a⟩
theorem aG.dn{t:TypeId}{a hi:Nat}{v:iX}{xs:List iX}{w:iW}(h:aG t lo hi v n xs w)(d:a<=lo):aG t a hi v n xs w:=by
 rcases h with h|⟨g,cap,e,h1,b,c⟩
 ·exact .inl h
 ·exact .inr ⟨g,cap,e,by omega,b,c⟩
theorem aG.blw{t:TypeId}{hi:Nat}{v:iX}{xs:List iX}{w w':iW}(h:aG t lo hi v n xs w)(c:iL w.heap.size w w'):aG t lo hi v n xs w':=by
 rcases h with h|⟨g,cap,e,h1,a,b⟩
 ·exact .inl h
 ·exact .inr ⟨g,cap,e,h1,a,b.below c⟩
theorem aG.lt{t:TypeId}{hi:Nat}{v:iX}{xs:List iX}{w:iW}(h:aG t lo hi v n xs w):∀g,v.ownBlock=X g->lo<=g/\g<hi/\∃cs,w.heap[g]?=X (iC cs t (0,0)):=by
 intro g a;rcases h with⟨rfl,-⟩|⟨d,cap,rfl,h1,b,cs,c,-⟩
 ·cases a
 ·simp only[Value.ownBlock,fu]at a;subst a;exact⟨h1,b,cs,c⟩
theorem aG.grown{t:TypeId}{hi:Nat}{v:iX}{xs:List iX}{w y:iW}{row:Option Nat}(h:aG t lo hi v n xs w)(c:w.grownBy y row)(d:∀g,v.ownBlock=X g->row≠X g):aG t lo hi v n xs y:=by
 rcases h with h|⟨g,cap,rfl,h1,b,cs,a,h4⟩
 ·exact .inl h
 ·exact .inr ⟨g,cap,rfl,h1,b,cs,(c.block g (aL.1 a).1 (λe=>d g rfl e.symm)).trans a,h4⟩
theorem mD{w:iW}{v:iX}{xs:List iX}(h:w.ownsRow B e size v n xs):∀g,v.ownBlock=X g->B<=g/\g<w.heap.size/\∃cs,w.heap[g]?=X (iC cs e (0,0)):=by
 intro g a;obtain⟨h1,c⟩:=h.lt g a;rcases h.2 with⟨rfl,-⟩|⟨d,cap,b,rfl,-,q,-⟩
 ·cases a
 ·simp only[Value.ownBlock,fu]at a;subst a;exact⟨h1,c,_,q⟩
namespace Words
structure Kn where
 leaf:Bool
 fD:List Int
def i7(l:List Kn)(n:Int):Bool:=match l[n.toNat]? with
 |some y=>y.leaf
 |none=>iF
def eQ(l:List Kn)(i:Nat)(lf:Bool)(n:Int):Bool:=if lf then decide (0<=n)else(decide (n= -1)||(decide (0<=n)&&decide (n<i)&&i7 l n))
def gT(l:List Kn)(i:Nat)(x:Kn):Bool:=decide (x.fD.length=4)&&x.fD.all (eQ l i x.leaf)
def jp(l:List Kn):Nat->Bool
 |0=>iV
 |k+1=>jp l k&&(match l[k]? with|some x=>gT l k x|none=>iV)
def bU(l:List Kn):Bool:=jp l l.length
variable{r:Int}{k j i:Nat}
variable{l:List Kn}
theorem su{x:Kn}(h:l[k]?=X x):jp l (k+1)=(jp l k&&gT l k x):=by rw[jp,h]
theorem Fl(h:j<=k)(a:jp l k=iV):jp l j=iV:=by
 induction k with
 |zero=>have:j=0:=by omega
        subst this;exact a
 |succ k b=>
  rw[jp,bn]at a;by_cases e:j=k+1
  ·subst e;rw[jp,bn];exact a
  ·exact b (by omega) a.1
theorem lN(h:bU l=iV){x:Kn}(hi:l[i]?=X x):gT l i x=iV:=by
 have a:=(aB.1 hi).1;have:=Fl (show i+1<=l.length by omega) h
 rw[su hi,bn]at this;exact this.2
theorem yV{x:Kn}(hi:l[i]?=X x)(a:gT l i x=iF):bU l=iF:=by
 cases h:bU l with
 |false=>rfl
 |true=>rw[lN h hi]at a;cases a
theorem Me{x:Kn}{n:Int}(b:x.fD[k]?=X n)(a:eQ l i x.leaf n=iF):gT l i x=iF:=by
 cases h:gT l i x with
 |false=>rfl
 |true=>
  rw[gT,bn,gV]at h;rw[h.2 n (aO b)]at a;cases a
theorem mf{x:Kn}(h:gT l i x=iV):x.fD.length=4:=by
 rw[gT,bn]at h
 simpa using h.1
theorem ui{x:Kn}{n:Int}(h:gT l i x=iV)(a:x.fD[k]?=X n):eQ l i x.leaf n=iV:=by
 rw[gT,bn,gV]at h;exact h.2 n (aO a)
theorem oJ{n:Int}{y:Kn}(h:l[n.toNat]?=X y):i7 l n=y.leaf:=by rw[i7,h]
theorem zO{n:Int}(h:i7 l n=iV):∃y,l[n.toNat]?=X y/\y.leaf=iV:=by
 rw[i7]at h;split at h
 ·rename_i y hy;exact⟨y,hy,h⟩
 ·cases h
def bt(l:List Kn)(r:Int):Bool:=decide (r= -1)||(decide (0<=r)&&decide (r<l.length)&& !i7 l r)
theorem lu(h:bt l r=iV)(h0:0<=r):∃x,l[r.toNat]?=X x/\x.leaf=iF:=by
 unfold bt at h;simp only[jS,bn,bH,ng]at h;rcases h with h|⟨⟨h1,b⟩,a⟩
 ·omega
 ·refine⟨_,ay (show r.toNat<l.length by omega),?_⟩
  rw[oJ (ay (show r.toNat<l.length by omega))]at a
  exact a
def dI(l:List Kn)(r:Int)(k:Nat):Int:=((l[r.toNat]?).bind (λx=>x.fD[k]?)).getD 0
theorem hO{x:Kn}{n:Int}(h:l[r.toNat]?=X x)(a:x.fD[k]?=X n):dI l r k=n:=by
 rw[dI,h,kw,a,pK]
def ce(l:List Kn)(r:Int)(s:Nat):Int:=if r<0 then 0 else if dI l r (s/4)<0 then 0 else dI l (dI l r (s/4)) (s % 4)
def jX(l:List Kn)(r s:Int):Bool:=bU l&&bt l r&&(decide (0<=s)&&decide (s<=15))
def gj(l:List Kn)(r s:Int):Int:=if jX l r s then ce l r s.toNat else 0
def bu(l:List Kn)(r:Int):List Int:=(List.range 16).map (λs:Nat=>gj l r s)
theorem lM(h:bU l=iV){x:Kn}(g:l[r.toNat]?=X x)(f:x.leaf=iF)(i:k<4):∃n,x.fD[k]?=X n/\(n= -1∨0<=n/\n<r.toNat/\∃y,l[n.toNat]?=X y/\y.leaf=iV/\y.fD.length=4):=by
 have c:=lN h g;have h4:=mf c;refine⟨_,ay (by omega),?_⟩
 have a:=ui c (ay (show k<x.fD.length by omega))
 rw[eQ,f]at a;simp only[eS,fb,jS,bn,bH]at a;rcases a with a|⟨⟨h1,d⟩,e⟩
 ·exact .inl a
 ·obtain⟨y,hy,b⟩:=zO e;exact .inr ⟨h1,d,y,hy,b,mf (lN h hy)⟩
theorem vN(h:bU l=iV){x:Kn}(d:l[i]?=X x)(c:x.leaf=iV)(e:k<4):∃n,x.fD[k]?=X n/\0<=n:=by
 have a:=lN h d;have h4:=mf a;refine⟨_,ay (by omega),?_⟩
 have b:=ui a (ay (show k<x.fD.length by omega))
 rw[eQ,c]at b
 simpa using b
def ij(l:List Kn)(r:Int)(s:Nat)(n:Int):Kn:=⟨iV,((if r<0 then[0,0,0,0]else if dI l r (s/4)<0 then[0,0,0,0]else((l[(dI l r (s/4)).toNat]?).map Kn.fD).getD [])).set (s % 4) n⟩
def ik(l:List Kn)(r:Int)(s:Nat):Kn:=⟨iF,(if r<0 then[-1,-1,-1,-1]else((l[r.toNat]?).map Kn.fD).getD []).set (s/4) (l.length:Int)⟩
def lL(l:List Kn)(r s n:Int):Bool:=jX l r s&&decide (0<=n)
def gS(l:List Kn)(r s n:Int):List Kn:=if lL l r s n then l++[ij l r s.toNat n,ik l r s.toNat]else l
def jw(l:List Kn)(r s n:Int):Int:=if lL l r s n then(l.length:Int)+1 else r
def dM(l:List Kn)(r:Int)(i:Nat):Bool:=decide (0<=r)&&(decide (r=i)||(List.range 4).any (λk=>decide (dI l r k=i)))
end Words
end Go.Proofs.YtgigcooffjjbgaaGreatDoor
