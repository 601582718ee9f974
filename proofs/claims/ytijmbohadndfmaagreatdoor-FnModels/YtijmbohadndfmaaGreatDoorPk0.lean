/-
  Al; Base; Own; Kept2; Tk; MtConv; HexMath; DecMath; MarkTx; Flt; OwnC; SliL; TrMath
-/
import Derived.Test.YtijmbohadndfmaaGreatDoorProg
import Derived.Below
import Derived.Calls
import Derived.Deep.RegionHeld
import Derived.Laws.AppendOwn
import Derived.Laws.AppendOwnNone
import Derived.Laws.BitsLemmas
import Derived.Laws.DeepStrings4
import Derived.Laws.Entries
import Derived.Laws.IdiomStrings
import Derived.Laws.NewBlocks
import Derived.Laws.OwnMore
import Derived.Laws.Rows
import Derived.Laws.Sem
import Derived.Laws.Strings
import Derived.Laws.Tables
import Derived.Laws.World
import Derived.Lib.Strings
import Derived.Orders
import Derived.OrdersHeld
import Derived.OwnWalk
import Derived.Tactics
import Derived.WalkSmall
import GoSem.Core.Value
import Derived.Test.YtijmbohadndfmaaGreatDoorRows
import Derived.WalkKit
import Derived.WalkSpells
import Derived.WalkLawsBesides
import Derived.OneCell
import Derived.Lib.Slices
import Derived.Deep.RegionWith
import Derived.Deep.RegionHeld3
import Derived.Deep.QuietTactic
import Derived.Deep.AppendLies
import Derived.BigQuiet
import Derived.WalkMore
import Derived.Lib.ItoaNum
import Derived.Lib.ItoaMem
import Derived.Lib.ItoaLen
import Derived.Deep.MidRow
open Go.Value renaming int→I,slice→Y,string→iT
open Go.IntKind renaming i64→J
open Option renaming none→O,some→X
open Go.Obj renaming cells→iC
open Bool renaming true→iV,false→iF
open Go renaming World→iW,Value→iX
open Go.RowKit renaming Below→iL
namespace Go.Proofs.YtijmbohadndfmaaGreatDoor
open Go.RowKit
theorem aO(w:World)(o:Obj):Below w.heap.size w (w.alloc o):=(Below.refl _ _).alloc (Nat.le_refl _) _
theorem aY{w:World}{o:Obj}:Below w.heap.size w (w.alloc o):=(Below.refl _ _).alloc (Nat.le_refl _) _
theorem an{α:Type}(a:α):∃x,a=x:=⟨a,rfl⟩
def ah(p:Prop):Prop:=p
theorem ah.o{p:Prop}(h:ah p):p:=h
theorem Ft{p:Prop}(h:p):ah p:=h
abbrev ay:= @List.getElem?_eq_getElem
abbrev aD:= @List.getElem?_eq_some_iff
abbrev ak:= @Nat.le_refl
abbrev am:= @Go.cell_of_row
abbrev aJ:= @Array.getElem?_eq_some_iff
abbrev az:= @Go.heap_alloc_new
abbrev aH:= @List.mem_of_getElem?
abbrev ai:= @if_neg
abbrev aj:= @if_pos
abbrev bh:= @Go.World.block_lt_of_cell?
abbrev ax:= @Go.RowKit.Below.refl
abbrev aF:= @Go.bodyPost_ret
abbrev aU:= @Go.RowKit.Below.heap_setCell
abbrev aT:= @List.length_append
abbrev bJ:= @List.setIfInBounds_toArray
abbrev aR:= @List.length_cons
abbrev aZ:= @Int.toNat_natCast
abbrev aS:= @List.length_map
abbrev aI:= @Nat.zero_le
abbrev aL:= @Go.frozen_of_row
abbrev aV:= @decide_eq_false
abbrev aQ:= @decide_eq_true
abbrev bk:= @List.getElem?_map
abbrev bp:= @List.set_cons_succ
abbrev bE:= @List.set_cons_zero
abbrev cm:= @List.take_of_length_le
abbrev bf:= @List.mem_cons
abbrev bt:= @Bool.and_eq_true
abbrev bC:= @Go.heap_setCell_same
abbrev br:= @List.mem_append
abbrev bT:= @List.mem_singleton
abbrev bW:= @decide_eq_true_eq
abbrev dz:= @List.getElem?_append_right
abbrev ge:= @List.take_succ_eq_append_getElem
abbrev bF:= @List.mem_map
abbrev cN:= @Go.wpList_append_own
abbrev bR:= @Nat.le_trans
abbrev cL:= @Go.IntKind.wrap_i64
abbrev bI:= @Go.below_drewN
abbrev cU:= @List.length_nil
abbrev gj:= @List.drop_eq_getElem_cons
abbrev dk:= @List.length_take
abbrev bK:= @Go.info_parts
abbrev cD:= @List.map_cons
abbrev dZ:= @beq_eq_false_iff_ne
abbrev dF:= @List.take_add_one
abbrev gP:= @Go.World.cell?_setCell_other
abbrev eW:= @List.pairwise_append
abbrev cE:= @Go.results_tmp2
abbrev dB:= @List.map_append
abbrev dV:= @List.not_mem_nil
abbrev ii:= @List.set_append_right
abbrev dR:= @List.mem_filter
abbrev fu:= @Option.some.injEq
abbrev fJ:= @List.append_assoc
abbrev eM:= @List.append_nil
abbrev gK:= @List.pairwise_cons
abbrev gX:= @Nat.lt_of_lt_of_le
abbrev lF:= @List.eq_nil_of_length_eq_zero
abbrev gy:= @List.all_eq_true
abbrev hI:= @Bool.false_eq_true
abbrev dK:= @Nat.zero_add
abbrev iD:= @List.filter_append
abbrev dq:= @Go.Calls.mono
abbrev jP:= @List.take_append_drop
abbrev gU:= @Go.RowKit.Below.heap_alloc
abbrev ku:= @List.getElem?_set_self
abbrev kB:= @List.drop_eq_nil_of_le
abbrev lz:= @List.getElem?_append_left
abbrev iH:= @List.filter_cons
abbrev mp:= @Array.getElem?_eq_getElem
abbrev gt:= @List.sum_cons
abbrev iy:= @List.length_set
abbrev mA:= @List.pairwise_singleton
abbrev mF:= @List.mem_or_eq_of_mem_set
abbrev mJ:= @List.pairwise_iff_getElem
abbrev jf:= @List.cons_append
abbrev iN:= @List.nil_append
abbrev iQ:= @List.cons.injEq
abbrev cW:= @if_true
abbrev mt:= @List.filter_eq_nil_iff
abbrev om:= @List.getD_eq_getElem?_getD
abbrev jz:= @List.length_drop
abbrev jd:= @Bool.or_eq_true
abbrev ml:= @List.getElem?_of_mem
abbrev lZ:= @List.getElem?_set_ne
abbrev ju:= @List.mem_range
abbrev kM:= @List.ext_getElem?
abbrev mH:= @List.getElem?_toArray
abbrev nN:= @List.filter_cons_of_pos
abbrev kg:= @Option.map_some
abbrev kV:= @Option.bind_some
abbrev ez:= @or_false
abbrev lC:= @Bool.not_eq_true'
abbrev jr:= @Bool.true_and
abbrev kH:= @Nat.add_assoc
abbrev ja:= @Nat.sub_self
abbrev rV:= @ByteArray.data_append
abbrev nh:= @List.filterMap_append
abbrev lE:= @List.mem_flatMap
abbrev eT:= @if_false
abbrev rG:= @List.foldl_append
abbrev mT:= @List.mem_cons_self
abbrev mQ:= @List.getElem?_drop
abbrev lx:= @Go.run_loadVar_row
abbrev nJ:= @List.getElem_of_mem
abbrev nE:= @Go.World.ownsRow_made
abbrev pU:= @Array.getElem?_push_lt
abbrev ou:= @List.mem_map_of_mem
abbrev lP:= @ByteArray.ext
abbrev og:= @UInt8.toNat_ofNat'
abbrev qR:= @List.filter_cons_of_neg
abbrev qY:= @List.getElem?_cons_succ
abbrev qj:= @List.mem_of_mem_take
abbrev rF:= @Array.toList_setIfInBounds
abbrev lq:= @Nat.zero_mul
abbrev p8:= @List.map_set
abbrev kZ:= @Go.results_tmp3
abbrev mV:= @Bool.false_and
abbrev kN:= @Int.le_refl
abbrev pW:= @List.filterMap_cons
abbrev qb:= @List.range_succ
abbrev rL:= @List.mem_of_find?_eq_some
abbrev nT:= @List.foldl_cons
abbrev ky:= @beq_iff_eq
abbrev oU:= @List.take_length
abbrev rj:= @List.mem_append_left
abbrev qz:= @List.mem_cons_of_mem
abbrev qI:= @List.mem_iff_getElem
abbrev qZ:= @List.mem_of_mem_drop
abbrev nM:= @Go.heap_alloc_old
abbrev rU:= @decide_eq_false_iff_not
abbrev qn:= @List.flatMap_cons
abbrev qi:= @List.pairwise_map
abbrev qc:= @of_decide_eq_true
abbrev pj:= @Go.Lib.toList_data
abbrev sW:= @Option.map_eq_some_iff
abbrev sx:= @Go.run_convert_bytes_back
abbrev mK:= @decide_false
abbrev pL:= @Option.getD_some
abbrev pO:= @List.any_eq_true
abbrev xJ:= @Array.all_eq_true_iff_forall_mem
abbrev pZ:= @Go.wpList_make_full
abbrev uB:= @ByteArray.size_append
abbrev rh:= @Option.toList_some
abbrev kW:= @Go.mem_ready
abbrev tJ:= @Option.isNone_iff_eq_none
abbrev ut:= @List.getElem?_zip_eq_some
abbrev rA:= @List.getElem?_modify
abbrev vG:= @List.eq_nil_iff_forall_not_mem
abbrev jY:= @and_true
abbrev sI:= @Go.toList_madeCells_one
abbrev AY:= @Array.getElem?_setIfInBounds_self_of_lt
abbrev oJ:= @Prod.mk.injEq
abbrev vY:= @List.drop_append_of_le_length
abbrev tP:= @List.getElem?_cons_zero
abbrev vp:= @List.dropLast_cons_cons
abbrev tU:= @List.dropLast_singleton
abbrev sS:= @List.filter_sublist
abbrev tR:= @List.flatMap_append
abbrev sJ:= @List.map_congr_left
abbrev ve:= @Go.World.ownsRow.cells
abbrev qy:= @List.getElem_mem
abbrev qO:= @Array.toList_inj
abbrev oh:= @Nat.add_zero
abbrev nZ:= @List.map_nil
abbrev wC:= @Array.getD_eq_getD_getElem?
abbrev rK:= @Go.World.grownBy.refl
abbrev vk:= @List.length_replicate
abbrev sj:= @List.all_eq_false
abbrev qo:= @List.drop_drop
abbrev wT:= @Go.World.cell?_setCell_same
abbrev yb:= @Array.getElem?_push_size
abbrev xQ:= @List.length_filterMap_le
abbrev xN:= @List.getElem?_modify_eq
abbrev sR:= @Nat.min_eq_left
abbrev vh:= @List.filter_filter
abbrev uk:= @List.mem_filterMap
abbrev sN:= @Option.some.inj
abbrev pC:= @decide_true
abbrev uw:= @List.getElem?_set
abbrev uy:= @Go.Result.andThen_ok
abbrev vA:= @Go.setCell_eq_setRow
abbrev Bo:= @Array.getElem?_setIfInBounds
abbrev xZ:= @List.singleton_append
abbrev xI:= @List.mem_append_right
abbrev vQ:= @Go.World.cell?_of_block
abbrev vz:= @List.map_toArray
abbrev tW:= @Go.results_cell_row
abbrev DF:= @List.getLast?_eq_some_iff
abbrev tK:= @List.find?_some
abbrev xe:= @List.countP_append
abbrev ye:= @List.length_modify
abbrev vM:= @List.filterMap_nil
abbrev wL:= @List.mem_replicate
abbrev AO:= @Go.World.setCell_alloc_past
abbrev uq:= @Bool.and_false
abbrev Ah:= @Int.eq_ofNat_of_zero_le
abbrev DK:= @List.getElem?_replicate
abbrev ww:= @List.getElem_take
abbrev xz:= @Go.World.ownsRow_nil
abbrev wW:= @Array.toList_push
abbrev xu:= @Classical.not_not
abbrev wm:= @Nat.le_of_succ_le
abbrev Cw:= @List.findIdx_eq_length
abbrev GQ:= @Array.getElem?_eq_none
abbrev rN:= @Go.setRow_heap
abbrev uF:= @Bool.and_comm
abbrev pV:= @Prod.ext
abbrev vK:= @List.drop_length
abbrev wD:= @List.append_inj'
abbrev zY:= @List.Pairwise.sublist
abbrev zL:= @List.mem_iff_getElem?
abbrev zF:= @List.countP_singleton
abbrev AF:= @Go.run_append_owned_none
abbrev AL:= @List.dropLast_concat
abbrev yF:= @List.findIdx_getElem
abbrev tI:= @Go.Sem.run_bind
abbrev uQ:= @Go.Sem.run_pure
abbrev yh:= @Array.size_push
abbrev rC:= @Array.ext'
abbrev zh:= @Nat.mul_le_mul_right
abbrev uC:= @Go.results_none
abbrev BT:= @Array.toList_append
abbrev AJ:= @List.getElem?_range
abbrev zR:= @List.filter_eq_self
abbrev BU:= @Array.length_toList
abbrev zt:= @Go.ByteArray.toList_eq
abbrev Dg:= @Go.run_slice_string_if
abbrev xE:= @List.drop_zero
abbrev Jn:= @List.dropLast_concat_getLast
abbrev wh:= @List.take_zero
abbrev wX:= @Nat.add_le_add
abbrev Bf:= @List.find?_eq_none
abbrev xK:= @Bool.false_or
abbrev Ij:= @List.perm_append_singleton
abbrev Lh:= @Option.isSome_eq_false_iff
abbrev Jt:= @Int.tdiv_eq_ediv_of_nonneg
abbrev Ia:= @Int.tmod_eq_emod_of_nonneg
abbrev Cc:= @List.nodup_append
abbrev Db:= @List.flatten_cons
abbrev Cg:= @Decidable.not_not
abbrev Al:= @Go.Value.slice.injEq
abbrev KV:= @List.getElem?_eq_none_iff
abbrev xm:= @Nat.pow_succ
abbrev Cl:= @Nat.lt_succ_self
abbrev Bw:= @List.getElem_map
abbrev DM:= @Go.Lib.extract_data
abbrev Kb:= @Array.size_setIfInBounds
abbrev Bs:= @beq_self_eq_true
abbrev zi:= @decide_eq_decide
abbrev Gn:= @List.length_eq_zero_iff
abbrev Ey:= @Nat.add_sub_cancel_left
abbrev Bg:= @List.filter_nil
abbrev Av:= @Bool.eq_iff_iff
abbrev yI:= @List.length_zip
abbrev BI:= @List.all_append
abbrev Zs:= @ByteArray.data_extract
abbrev IQ:= @List.not_of_lt_findIdx
abbrev Hd:= @Go.World.cell?_alloc_mark
abbrev G9:= @Go.wpList_append_fits_any
abbrev xW:= @Go.getD_set_ne
abbrev FQ:= @Go.wpList_append_own_none
abbrev IE:= @Array.getElem?_toList
abbrev K7:= @List.filter_filterMap
abbrev Jd:= @List.length_singleton
abbrev Dq:= @List.Perm.refl
abbrev Jm:= @List.set_getElem_self
abbrev E8:= @List.filterMap_filter
abbrev Df:= @Go.AllReadyH.cons
abbrev Ay:= @UInt8.toNat_lt
abbrev Zv:= @Go.run_underlying
abbrev tY:= @true_and
abbrev Cx:= @Bool.and_true
abbrev AA:= @Bool.or_false
abbrev zE:= @List.map_drop
abbrev AP:= @List.map_take
abbrev Dp:= @Go.wp_region_any
abbrev A8:= @Go.wpAny_of_held
abbrev Bj:= @Nat.mul_comm
abbrev yN:= @Nat.lt_or_ge
abbrev Cp:= @List.map_map
abbrev yJ:= @Decidable.em
abbrev zG:= @List.set_set
abbrev rD:= @not_or
theorem zB:(Tryz.prog.info? 5).map (λi=>(i.zero,i.size,i.bytes))=X (X (I .u8 0),1,1):=by kernel_rfl
theorem af{p:Prop}(h:p):ah p:=h
def eO(l:List UInt8):List iX:=l.map λb=>I .u8 b.toNat
theorem MC(l:List UInt8):(eO l).length=l.length:=by simp[eO]
theorem zm(l:List UInt8)(c:UInt8)(x:Int)(h:(c.toNat:Int)=x):eO l++[I .u8 x]=eO (l++[c]):=by
 subst h;simp[eO]
theorem yC(l:List UInt8)(j:Nat)(a:j<l.length):(eO l)[j]?=X (I .u8 (l[j].toNat:Int)):=by
 simp[eO,a]
theorem nw(w:iW)(x:iX)(t:TypeId):∀(j:Nat) (u:iX),[x][j]?=X u->(w.alloc (iC #[x] t)).cell? ((⟨w.heap.size,0,O⟩:Addr).add j)=X u:=by
 intro j u a
 match j,a with
 |0,a=>simp at a;subst a;simp[Addr.add]
theorem Ai(x:Int):∀u∈ [I .u8 x],u.oneCell'=iV:=by
 intro u a;simp at a;subst a;rfl
variable{B n size C lo:Nat}{ok:Nat -> Prop}{e:TypeId}
theorem AX {w wr b:iW} {v:iX} {xs:List iX} {o:Obj} (d:iL B w wr) (c:B<=wr.heap.size)
 (a:wr.ownsRow B e 1 v n xs) (f:(wr.alloc o).grownBy b v.ownBlock):iL B w b:=
 (d.alloc c _).grown f (by simp;omega) (λk g=>(a.lt k g).1)
theorem Ko(wr:iW)(v:iX)(l:List UInt8)(h:wr.ownsRow B 5 1 v l.length (eO l)):(convert 22 9 v).run Tryz.prog wr=.ok (iT ⟨l.toArray⟩) wr:=by
 have a:=h;rcases h.2 with⟨rfl,h0⟩|⟨g,cap,b,rfl,-,-,-,-,-,-⟩
 ·have:l=[]:=Gn.1 h0;subst this;rw[run_convert_bytes_string wr 22 9 5 O 0 0 Tryz.underlying22 Tryz.underlying5 Tryz.underlying9];rfl
 ·exact sx (P:=Tryz.prog) wr 22 9 5 ⟨g,0,O⟩ cap l Tryz.underlying22 Tryz.underlying5 Tryz.underlying9 (λj c=>a.cells (g:=g) rfl j _ (yC l j c))
theorem nG:(Tryz.prog.info? 3).map (λi=>(i.zero,i.size,i.bytes))=X (X (I J 0),1,8):=by kernel_rfl
def aE(l:List Int):List iX:=l.map λn=>I J n
theorem tA(l:List Int)(x:Int):aE l++[I J x]=aE (l++[x]):=by simp[aE]
theorem yB(l:List Int)(j:Nat)(a:j<l.length):(aE l)[j]?=X (I J l[j]):=by simp[aE,a]
theorem vg(x:Int):∀u∈ [I J x],u.oneCell'=iV:=by
 intro u a;simp at a;subst a;rfl
theorem eX(g j:Nat):(⟨g,0,O⟩:Addr).add j=⟨g,j,O⟩:=by
 simp only[Addr.add];split<;>simp_all
theorem YP(A:List iX)(z u:iX)(n k:Nat)(b:A.length=k)(e:k<n):
 (A++List.replicate (n-k) z).set k u=(A++[u])++List.replicate (n-(k+1)) z:=by
 obtain⟨d,c⟩:∃d,n-k=d+1:=⟨n-k-1,by omega⟩
 have a:n-(k+1)=d:=by omega
 rw[c,a,ii _ _ (by omega),b,ja,List.replicate_succ]
 simp
theorem bu{w w':iW}{base:Nat}{v:iX}{xs:List iX}(h:w.ownsRow base e size v n xs)(j:iL w.heap.size w w'):w'.ownsRow base e size v n xs:=by
 obtain⟨h1,i⟩:=h;refine⟨h1,?_⟩;rcases i with h|⟨g,cap,a,c,d,b,f⟩
 ·exact .inl h
 ·have k:g<w.heap.size:=(aJ.1 b).1;exact .inr ⟨g,cap,a,c,d,by rw[j.block g k];exact b,f⟩
theorem nO{w:iW}{base:Nat}{v:iX}{xs:List iX}(h:w.ownsRow base e size v n xs)(i:C<=base):w.ownsRow C e size v n xs:=by
 obtain⟨h1,d⟩:=h;refine⟨h1,?_⟩;rcases d with h|⟨g,cap,a,b,f,c⟩
 ·exact .inl h
 ·exact .inr ⟨g,cap,a,b,by omega,c⟩
def cG(w w':iW)(ok:Nat->Prop):Prop:=w'.os=w.os/\w'.tape=w.tape/\w'.output=w.output/\w.heap.size<=w'.heap.size/\∀i,i<w.heap.size->ok i->w'.heap[i]?=w.heap[i]?
theorem cG.refl(w:iW)(ok:Nat->Prop):cG w w ok:=⟨rfl,rfl,rfl,ak _,λ_ _ _=>rfl⟩
theorem cG.trans{a b c:iW}(h:cG a b ok)(k:cG b c ok):cG a c ok:=
 ⟨k.1.trans h.1,k.2.1.trans h.2.1,k.2.2.1.trans h.2.2.1,bR h.2.2.2.1 k.2.2.2.1,λi hi d=>(k.2.2.2.2 i (gX hi h.2.2.2.1) d).trans (h.2.2.2.2 i hi d)⟩
theorem cG.grown{a b:iW}{row:Option Nat}(h:a.grownBy b row)(d:∀j,row=X j->¬ok j):cG a b ok:=
 ⟨h.os,h.tape,h.output,h.size,λi hi c=>h.block i hi (λe=>d i e.symm c)⟩
theorem cG.below{a b:iW}(h:iL a.heap.size a b):cG a b ok:=⟨h.os,h.tape,h.output,h.size,λi hi _=>h.block i hi⟩
theorem cG.down{a b:iW}(h:cG a b ok)(c:B<=a.heap.size)(d:∀i,i<B->ok i):iL B a b:=⟨h.1,h.2.1,h.2.2.1,h.2.2.2.1,λi hi=>h.2.2.2.2 i (gX hi c) (d i hi)⟩
def lM(lo hi:Nat)(P:iW->Prop):Prop:=∀w w':iW,(∀g,lo<=g->g<hi->w'.heap[g]?=w.heap[g]?)->P w->P w'
abbrev nU:=Nat×Nat×(iW->Prop)
def Tk(w a:iW)(hs:List nU):Prop:=iL w.heap.size w a/\∀h∈hs,h.2.1<=a.heap.size/\lM h.1 h.2.1 h.2.2/\h.2.2 a
theorem Tk.start(w:iW):Tk w w []:=⟨ax _ _,λ_ h=>by cases h⟩
variable{hs:List nU}
theorem Tk.below{w a wj:iW}(h:Tk w a hs)(b:iL a.heap.size a wj):Tk w wj hs:=by
 refine⟨h.1.trans (b.mono h.1.size),λx e=>?_⟩
 obtain⟨h1,c,d⟩:=h.2 x e;have:=b.size;exact⟨by omega,c,c a wj (λg _ f=>b.block g (by omega)) d⟩
theorem Tk.drew{w a:iW}(h:Tk w a hs):Tk w a.drew hs:=h.below (ax _ _).drew
theorem Tk.get{w a:iW}(h:Tk w a hs)(n:Nat){hi:Nat}{P:iW->Prop}(b:hs[n]?=X (lo,hi,P)):P a:=(h.2 _ (aH b)).2.2
theorem Tk.hi{w a:iW}(h:Tk w a hs)(n:Nat){hi:Nat}{P:iW->Prop}(b:hs[n]?=X (lo,hi,P)):hi<=a.heap.size:=(h.2 _ (aH b)).1
theorem Tk.add{w a wj:iW}(h:Tk w a hs)(d:iL a.heap.size a wj){P:iW->Prop}(e:lM a.heap.size wj.heap.size P)(f:P wj):Tk w wj ((a.heap.size,wj.heap.size,P)::hs):=by
 obtain⟨h1,c⟩:=h.below d;refine⟨h1,λx b=>?_⟩
 rcases bf.1 b with rfl|b
 ·exact⟨ak _,e,f⟩
 ·exact c x b
theorem Tk.put{w a:iW}(h:Tk w a hs){hi:Nat}{P:iW->Prop}(c:hi<=a.heap.size)(d:lM lo hi P)(e:P a):Tk w a ((lo,hi,P)::hs):=by
 refine⟨h.1,λx b=>?_⟩
 rcases bf.1 b with rfl|b
 ·exact⟨c,d,e⟩
 ·exact h.2 x b
def bZ(b:Nat)(cs:Array iX)(t:TypeId):iW->Prop:=λW=>W.heap[b]?=X (iC cs t (0,0))
theorem bZ.loc(b:Nat)(cs:Array iX)(t:TypeId):lM b (b+1) (bZ b cs t):=λ_ _ a h=>(a b (ak _) (by omega)).trans h
theorem Tk.cell{w a:iW}{hs:List nU}(h:Tk w a hs)(cs:Array iX)(t:TypeId):Tk w (a.alloc (iC cs t)) ((a.heap.size,a.heap.size+1,bZ a.heap.size cs t)::hs):=by
 have b:(a.alloc (iC cs t)).heap.size=a.heap.size+1:=by simp
 have:=h.add ((ax _ _).alloc (ak _) (iC cs t)) (P:=bZ a.heap.size cs t) (by rw[b];exact bZ.loc _ _ _) (az a _)
 rw[b]at this;exact this
theorem Tk.at{w a:iW}(h:Tk w a hs)(n:Nat){hi b:Nat}{cs:Array iX}{t:TypeId}(k:Nat){v:iX}(d:hs[n]?=X (lo,hi,bZ b cs t))(c:cs[k]?=X v):a.cell? ⟨b,k,O⟩=X v:=by
 rw[am _ _ k _ _ _ (h.get n d)];exact c
theorem Tk.fr{w a:iW}(h:Tk w a hs)(n:Nat){hi b:Nat}{cs:Array iX}{t:TypeId}(k:Nat)(c:hs[n]?=X (lo,hi,bZ b cs t)):a.frozen? ⟨b,k,O⟩=iF:=aL _ _ k _ _ (h.get n c)
variable{hs':List nU}
theorem Tk.drop{w a:iW}(h:Tk w a hs)(b:∀x∈hs',x∈hs):Tk w a hs':=⟨h.1,λx c=>h.2 x (b x c)⟩
theorem Tk.write{w a:iW}{hi b:Nat}{v:iX}{t:TypeId}(h:Tk w a hs)(n:Nat)(q:hs[n]?=X (lo,hi,bZ b #[v] t))(m:w.heap.size<=b)(u:iX)(o:∀x∈hs',x∈hs/\(x.2.1<=b∨b+1<=x.1)):
 Tk w (a.setCell ⟨b,0,O⟩ u) ((b,b+1,bZ b #[u] t)::hs'):=by
 have c:=h.get n q;have d:=(aJ.1 c).1;have r:bZ b #[u] t (a.setCell ⟨b,0,O⟩ u):=by
  show(a.setCell ⟨b,0,O⟩ u).heap[b]?=_;rw[vA a b 0 #[v] t (0,0) u c];exact rN a b #[v] _ t _ c
 have hs:=h.1.size;have k:(a.setCell ⟨b,0,O⟩ u).heap.size=a.heap.size:=by simp[World.setCell]
 refine⟨h.1.setCell (p:=⟨b,0,O⟩) m u,λx f=>?_⟩
 rcases bf.1 f with rfl|f
 ·exact⟨by rw[k];exact d,bZ.loc _ _ _,r⟩
 ·obtain⟨i,s⟩:=o x f;obtain⟨h1,j,l⟩:=h.2 x i;exact⟨by rw[k];exact h1,j,j a _ (λg g1 g2=>aU _ _ _ _ (λ(e:g=b)=>by omega)) l⟩
theorem Tk.as{w b:iW}(h:Tk w b hs)(n:Nat){hi:Nat}{P Q:iW->Prop}(d:hs[n]?=X (lo,hi,P))(c:lM lo hi Q)(e:Q b):Tk w b ((lo,hi,Q)::hs):=by
 refine⟨h.1,λx a=>?_⟩
 rcases bf.1 a with rfl|a
 ·exact⟨h.hi n d,c,e⟩
 ·exact h.2 x a
def zP(lo hi i:Nat):Prop:=¬(lo<=i/\i<hi)
theorem Tk.touch {w a wj:iW} {hi:Nat} {Q:iW->Prop} (h:Tk w a hs) (b:cG a wj (zP lo hi)) (n:w.heap.size<=lo) (l:hi<=a.heap.size) (m:lM lo hi Q) (f:Q wj)
 (k:∀x∈hs',x∈hs/\(x.2.1<=lo∨hi<=x.1)):Tk w wj ((lo,hi,Q)::hs'):=by
 have hs:=b.2.2.2.1;have o:=h.1.size;refine⟨h.1.trans (b.down h.1.size (λi hi' f=>by omega)),λx c=>?_⟩
 rcases bf.1 c with rfl|c
 ·exact⟨by show hi<=_;omega,m,f⟩
 ·obtain⟨d,p⟩:=k x c;obtain⟨h1,e,j⟩:=h.2 x d;exact⟨by omega,e,e a wj (λg g1 g2=>b.2.2.2.2 g (by omega) (λq=>by omega)) j⟩
theorem Tk.celln{w a:iW}(h:Tk w a hs)(b:a.heap.size=n)(cs:Array iX)(t:TypeId):Tk w (a.alloc (iC cs t)) ((n,n+1,bZ n cs t)::hs):=by
 subst b;exact h.cell cs t
theorem kq{w:iW}(a:w.heap.size=n)(o:Obj):(w.alloc o).heap.size=n+1:=by simp[a]
theorem Tk.two(w:iW)(c1 c2:Array iX)(a b:TypeId):Tk w ((w.alloc (iC c1 a)).alloc (iC c2 b)) [(w.heap.size+1,w.heap.size+1+1,bZ (w.heap.size+1) c2 b),(w.heap.size,w.heap.size+1,bZ w.heap.size c1 a)]:=
 ((Tk.start w).celln rfl c1 a).celln (kq rfl _) c2 b
theorem Tk.three(w:iW)(c1 c2 c3:Array iX)(a b c:TypeId):Tk w (((w.alloc (iC c1 a)).alloc (iC c2 b)).alloc (iC c3 c)) [(w.heap.size+1+1,w.heap.size+1+1+1,bZ (w.heap.size+1+1) c3 c),(w.heap.size+1,w.heap.size+1+1,bZ (w.heap.size+1) c2 b),(w.heap.size,w.heap.size+1,bZ w.heap.size c1 a)]:=
 (Tk.two w c1 c2 a b).celln (kq (kq rfl _) _) c3 c
theorem YQ(w:iW)(c:UInt8)(x:Int)(h:(c.toNat:Int)=x):
 (convert 22 9 (Y (X ⟨w.heap.size,0,O⟩) 1 1)).run Tryz.prog (w.alloc (iC #[I .u8 x] 5))=.ok (iT ⟨#[c]⟩) (w.alloc (iC #[I .u8 x] 5)):=by
 subst h;exact sx (P:=Tryz.prog) (w.alloc (iC #[I .u8 c.toNat] 5)) 22 9 5 ⟨w.heap.size,0,O⟩ 1 [c] Tryz.underlying22 Tryz.underlying5 Tryz.underlying9
  (λj a=>by
   have:j=0:=by simpa using a
   subst this;exact nw w _ 5 0 _ rfl)
end Go.Proofs.YtijmbohadndfmaaGreatDoor
namespace Go.Proofs.YtijmbohadndfmaaGreatDoor.Words
open Go.Lib (decDigits itoa)
def oO(m:Nat):List UInt8:=if m=0 then[]else decDigits m
end Go.Proofs.YtijmbohadndfmaaGreatDoor.Words
namespace Go.Proofs.YtijmbohadndfmaaGreatDoor
open Go.RowKit
def aN(t:TypeId)(g:Nat)(xs:List iX):iW->Prop:=λW=>∃cs:Array iX,W.heap[g]?=X (iC cs t (0,0))/\∀(i:Nat) (v:iX),xs[i]?=X v->cs[i]?=X v
theorem aN.loc(t:TypeId)(g:Nat)(xs:List iX):lM g (g+1) (aN t g xs):=by
 rintro w w' b ⟨cs,h1,a⟩;exact⟨cs,(b g (ak _) (by omega)).trans h1,a⟩
theorem aN.cell{t:TypeId}{g:Nat}{xs:List iX}{w:iW}(h:aN t g xs w){k:Nat}{v:iX}(b:xs[k]?=X v):w.cell? ⟨g,k,O⟩=X v:=by
 obtain⟨cs,h1,a⟩:=h;rw[am _ _ k _ _ _ h1];exact a k v b
variable{g lo n cap size B B' hi':Nat}{e:TypeId}
theorem aN.frozen{t:TypeId}{xs:List iX}{w:iW}(h:aN t g xs w)(o:Nat):w.frozen? ⟨g,o,O⟩=iF:=by
 obtain⟨cs,h1,-⟩:=h;exact aL _ _ o _ _ h1
theorem aN.below{t:TypeId}{xs:List iX}{w w':iW}(h:aN t g xs w)(a:iL w.heap.size w w'):aN t g xs w':=by
 have b:g<w.heap.size:=by obtain⟨cs,h1,-⟩:=h;exact(aJ.1 h1).1
 exact aN.loc t g xs w w' (λq c d=>a.block q (by omega)) h
theorem aN.set{t:TypeId}{xs:List iX}{w:iW}(h:aN t g xs w)(k:Nat)(u:iX):aN t g (xs.set k u) (w.setCell ⟨g,k,O⟩ u):=by
 obtain⟨cs,h1,c⟩:=h;refine⟨cs.setIfInBounds k u,?_,λi v a=>?_⟩
 ·rw[vA w g k cs t (0,0) u h1];exact rN w g cs _ t _ h1
 ·rw[uw]at a;rw[Bo];by_cases e:k=i
  ·rw[aj e]at a⊢;by_cases b:k<xs.length
   ·rw[aj b]at a;obtain⟨x,d⟩:∃x,xs[k]?=X x:=⟨_,ay b⟩;have:=(aJ.1 (c k x d)).1;rw[aj this];exact a
   ·rw[ai b]at a;cases a
  ·rw[ai e]at a⊢;exact c i v a
def aB(t:TypeId)(lo hi:Nat)(v:iX)(n:Nat)(xs:List iX):iW->Prop:=λW=>(v=Y O 0 0/\n=0)∨∃g cap,v=Y (X ⟨g,0,O⟩) n cap/\lo<=g/\g<hi/\aN t g xs W
theorem aB.loc(t:TypeId)(lo hi:Nat)(v:iX)(n:Nat)(xs:List iX):lM lo hi (aB t lo hi v n xs):=by
 rintro w w' c (h|⟨g,cap,h1,a,b,h4⟩)
 ·exact Or.inl h
 ·exact Or.inr ⟨g,cap,h1,a,b,aN.loc t g xs w w' (λq d e=>c q (by omega) (by omega)) h4⟩
theorem aB.form{t:TypeId}{hi:Nat}{v:iX}{xs:List iX}{w:iW}(h:aB t lo hi v n xs w):∃ad cap,v=Y ad n cap/\(0<n->∃g,ad=X ⟨g,0,O⟩/\lo<=g/\g<hi):=by
 rcases h with⟨h1,a⟩|⟨g,cap,h1,a,b,-⟩
 ·exact⟨O,0,by rw[h1,a],λh=>by omega⟩
 ·exact⟨_,cap,h1,λ_=>⟨g,rfl,a,b⟩⟩
theorem aB.flt{t:TypeId}{hi:Nat}{xs:List iX}{w:iW}(h:aB t lo hi (Y (X ⟨g,0,O⟩) n cap) n xs w):aN t g xs w:=by
 rcases h with⟨h1,-⟩|⟨c,b,h1,-,-,h4⟩
 ·cases h1
 ·injection h1 with a
  injection a with a
  injection a with a
  subst a;exact h4
theorem aB.of{t:TypeId}{v:iX}{xs:List iX}{w:iW}(h:w.ownsRow lo t size v n xs):aB t lo w.heap.size v n xs w:=by
 have c:=h.lt;rcases h.2 with⟨h1,b⟩|⟨g,cap,a,rfl,b,f,h4,l,m,j⟩
 ·exact Or.inl ⟨h1,b⟩
 ·refine Or.inr ⟨g,cap,rfl,b,(c g rfl).2,a,f,λi x e=>?_⟩
  rw[<-j]at e;obtain⟨k,d⟩:=aD.1 e;rw[ww]at d;rw[dk]at k;rw[<-IE,aD];exact⟨by omega,d⟩
theorem eo{w:iW}{cs:Array iX}{t:TypeId}(h:w.heap[g]?=X (iC cs t (0,0)))(i:Nat)(u:iX):(w.setCell ⟨g,i,O⟩ u).heap[g]?=X (iC (cs.setIfInBounds i u) t (0,0)):=by
 rw[vA w g i cs t (0,0) u h];exact rN w g cs _ t _ h
theorem dC{w:iW}{a:Nat}{o:Obj}(h:w.heap[g]?=X o)(b:g≠a)(i:Nat)(u:iX):(w.setCell ⟨a,i,O⟩ u).heap[g]?=X o:=(aU _ _ _ _ b).trans h
theorem uz{w:iW}{v:iX}{xs:List iX}(h:w.ownsRow B e size v n xs)(f:B'<=B):w.ownsRow B' e size v n xs:=by
 obtain⟨h1,c⟩:=h;refine⟨h1,?_⟩;rcases c with h|⟨g,cap,a,rfl,d,b⟩
 ·exact .inl h
 ·exact .inr ⟨g,cap,a,rfl,by omega,b⟩
theorem Cf{w:iW}{v:iX}{xs:List iX}(h:w.ownsRow B e size v n xs)(k:g<B)(i:Nat)(u:iX):(w.setCell ⟨g,i,O⟩ u).ownsRow B e size v n xs:=by
 obtain⟨h1,j⟩:=h;refine⟨h1,?_⟩;rcases j with h|⟨f,cap,a,rfl,b,c,d⟩
 ·exact .inl h
 ·exact .inr ⟨f,cap,a,rfl,b,dC c (by omega) _ _,d⟩
theorem iq{w:iW}{v:iX}{xs:List iX}(h:w.ownsRow B e size v n xs):∀g,v.ownBlock=X g->B<=g/\g<w.heap.size:=by
 intro g a;exact h.lt g a
theorem mi{w:iW}{base:Nat}{v:iX}{xs:List iX}(h:w.ownsRow base e size v n xs)(j:v=Y (X ⟨g,0,O⟩) n cap)(k:Nat)(u:iX):
 (w.setCell ⟨g,k,O⟩ u).ownsRow base e size v n (xs.set k u):=by
 obtain⟨h1,l⟩:=h;refine⟨by simpa using h1,?_⟩
 rcases l with⟨c,-⟩|⟨f,d,b,c,h4,i,m,o,p,q⟩
 ·rw[j]at c;cases c
 ·right;have r:f=g:=by rw[j]at c;injection c with a;simp at a;exact a.symm
  subst r;refine⟨f,d,b.setIfInBounds k u,c,h4,?_,m,o,by simpa using p,?_⟩
  ·rw[vA w f k b e (0,0) u i];exact rN w f b _ e _ i
  ·rw[rF,List.take_set,q]
theorem ik(w:iW)(g k:Nat)(u:iX):w.grownBy (w.setCell ⟨g,k,O⟩ u) (X g):=
 ⟨rfl,rfl,rfl,by simp[World.setCell],λi _ hi=>aU _ _ _ _ (λe=>hi (by rw[e]))⟩
theorem aB.up{t:TypeId}{hi:Nat}{v:iX}{xs:List iX}{w:iW}(h:aB t lo hi v n xs w)(c:hi<=hi'):aB t lo hi' v n xs w:=by
 rcases h with h|⟨g,cap,e,h1,b,a⟩
 ·exact .inl h
 ·exact .inr ⟨g,cap,e,h1,by omega,a⟩
theorem aB.dn{t:TypeId}{a hi:Nat}{v:iX}{xs:List iX}{w:iW}(h:aB t lo hi v n xs w)(d:a<=lo):aB t a hi v n xs w:=by
 rcases h with h|⟨g,cap,e,h1,b,c⟩
 ·exact .inl h
 ·exact .inr ⟨g,cap,e,by omega,b,c⟩
theorem aB.blw{t:TypeId}{hi:Nat}{v:iX}{xs:List iX}{w w':iW}(h:aB t lo hi v n xs w)(c:iL w.heap.size w w'):aB t lo hi v n xs w':=by
 rcases h with h|⟨g,cap,e,h1,a,b⟩
 ·exact .inl h
 ·exact .inr ⟨g,cap,e,h1,a,b.below c⟩
theorem aB.lt{t:TypeId}{hi:Nat}{v:iX}{xs:List iX}{w:iW}(h:aB t lo hi v n xs w):∀g,v.ownBlock=X g->lo<=g/\g<hi/\∃cs,w.heap[g]?=X (iC cs t (0,0)):=by
 intro g a;rcases h with⟨rfl,-⟩|⟨d,cap,rfl,h1,b,cs,c,-⟩
 ·cases a
 ·simp only[Value.ownBlock,fu]at a;subst a;exact⟨h1,b,cs,c⟩
theorem aB.grown{t:TypeId}{hi:Nat}{v:iX}{xs:List iX}{w y:iW}{row:Option Nat}(h:aB t lo hi v n xs w)(c:w.grownBy y row)(d:∀g,v.ownBlock=X g->row≠X g):aB t lo hi v n xs y:=by
 rcases h with h|⟨g,cap,rfl,h1,b,cs,a,h4⟩
 ·exact .inl h
 ·exact .inr ⟨g,cap,rfl,h1,b,cs,(c.block g (aJ.1 a).1 (λe=>d g rfl e.symm)).trans a,h4⟩
theorem fQ{w:iW}{v:iX}{xs:List iX}(h:w.ownsRow B e size v n xs):∀g,v.ownBlock=X g->B<=g/\g<w.heap.size/\∃cs,w.heap[g]?=X (iC cs e (0,0)):=by
 intro g a;obtain⟨h1,c⟩:=h.lt g a;rcases h.2 with⟨rfl,-⟩|⟨d,cap,b,rfl,-,q,-⟩
 ·cases a
 ·simp only[Value.ownBlock,fu]at a;subst a;exact⟨h1,c,_,q⟩
namespace Words
structure Kn where
 leaf:Bool
 fD:List Int
def jJ(l:List Kn)(n:Int):Bool:=match l[n.toNat]? with
 |some y=>y.leaf
 |none=>iF
def fN(l:List Kn)(i:Nat)(lf:Bool)(n:Int):Bool:=if lf then decide (0<=n)else(decide (n= -1)||(decide (0<=n)&&decide (n<i)&&jJ l n))
def iS(l:List Kn)(i:Nat)(x:Kn):Bool:=decide (x.fD.length=4)&&x.fD.all (fN l i x.leaf)
def lI(l:List Kn):Nat->Bool
 |0=>iV
 |k+1=>lI l k&&(match l[k]? with|some x=>iS l k x|none=>iV)
def cO(l:List Kn):Bool:=lI l l.length
variable{r:Int}{k j i:Nat}
variable{l:List Kn}
theorem Jv{x:Kn}(h:l[k]?=X x):lI l (k+1)=(lI l k&&iS l k x):=by rw[lI,h]
theorem Qz(h:j<=k)(a:lI l k=iV):lI l j=iV:=by
 induction k with
 |zero=>have:j=0:=by omega
        subst this;exact a
 |succ k b=>
  rw[lI,bt]at a;by_cases e:j=k+1
  ·subst e;rw[lI,bt];exact a
  ·exact b (by omega) a.1
theorem lA(h:cO l=iV){x:Kn}(hi:l[i]?=X x):iS l i x=iV:=by
 have a:=(aD.1 hi).1;have:=Qz (show i+1<=l.length by omega) h
 rw[Jv hi,bt]at this;exact this.2
theorem FH{x:Kn}(hi:l[i]?=X x)(a:iS l i x=iF):cO l=iF:=by
 cases h:cO l with
 |false=>rfl
 |true=>rw[lA h hi]at a;cases a
theorem OU{x:Kn}{n:Int}(b:x.fD[k]?=X n)(a:fN l i x.leaf n=iF):iS l i x=iF:=by
 cases h:iS l i x with
 |false=>rfl
 |true=>
  rw[iS,bt,gy]at h;rw[h.2 n (aH b)]at a;cases a
theorem lY{x:Kn}(h:iS l i x=iV):x.fD.length=4:=by
 rw[iS,bt]at h
 simpa using h.1
theorem wR{x:Kn}{n:Int}(h:iS l i x=iV)(a:x.fD[k]?=X n):fN l i x.leaf n=iV:=by
 rw[iS,bt,gy]at h;exact h.2 n (aH a)
theorem pD{n:Int}{y:Kn}(h:l[n.toNat]?=X y):jJ l n=y.leaf:=by rw[jJ,h]
theorem GE{n:Int}(h:jJ l n=iV):∃y,l[n.toNat]?=X y/\y.leaf=iV:=by
 rw[jJ]at h;split at h
 ·rename_i y hy;exact⟨y,hy,h⟩
 ·cases h
def bO(l:List Kn)(r:Int):Bool:=decide (r= -1)||(decide (0<=r)&&decide (r<l.length)&& !jJ l r)
theorem lQ(h:bO l r=iV)(h0:0<=r):∃x,l[r.toNat]?=X x/\x.leaf=iF:=by
 unfold bO at h;simp only[jd,bt,bW,lC]at h;rcases h with h|⟨⟨h1,b⟩,a⟩
 ·omega
 ·refine⟨_,ay (show r.toNat<l.length by omega),?_⟩
  rw[pD (ay (show r.toNat<l.length by omega))]at a
  exact a
def dH(l:List Kn)(r:Int)(k:Nat):Int:=((l[r.toNat]?).bind (λx=>x.fD[k]?)).getD 0
theorem ix{x:Kn}{n:Int}(h:l[r.toNat]?=X x)(a:x.fD[k]?=X n):dH l r k=n:=by
 rw[dH,h,kV,a,pL]
def cX(l:List Kn)(r:Int)(s:Nat):Int:=if r<0 then 0 else if dH l r (s/4)<0 then 0 else dH l (dH l r (s/4)) (s % 4)
def kL(l:List Kn)(r s:Int):Bool:=cO l&&bO l r&&(decide (0<=s)&&decide (s<=15))
def gF(l:List Kn)(r s:Int):Int:=if kL l r s then cX l r s.toNat else 0
def ce(l:List Kn)(r:Int):List Int:=(List.range 16).map (λs:Nat=>gF l r s)
theorem md(h:cO l=iV){x:Kn}(g:l[r.toNat]?=X x)(f:x.leaf=iF)(i:k<4):∃n,x.fD[k]?=X n/\(n= -1∨0<=n/\n<r.toNat/\∃y,l[n.toNat]?=X y/\y.leaf=iV/\y.fD.length=4):=by
 have c:=lA h g;have h4:=lY c;refine⟨_,ay (by omega),?_⟩
 have a:=wR c (ay (show k<x.fD.length by omega))
 rw[fN,f]at a;simp only[hI,eT,jd,bt,bW]at a;rcases a with a|⟨⟨h1,d⟩,e⟩
 ·exact .inl a
 ·obtain⟨y,hy,b⟩:=GE e;exact .inr ⟨h1,d,y,hy,b,lY (lA h hy)⟩
theorem Cn(h:cO l=iV){x:Kn}(d:l[i]?=X x)(c:x.leaf=iV)(e:k<4):∃n,x.fD[k]?=X n/\0<=n:=by
 have a:=lA h d;have h4:=lY a;refine⟨_,ay (by omega),?_⟩
 have b:=wR a (ay (show k<x.fD.length by omega))
 rw[fN,c]at b
 simpa using b
def gS(l:List Kn)(r:Int)(s:Nat)(n:Int):Kn:=⟨iV,((if r<0 then[0,0,0,0]else if dH l r (s/4)<0 then[0,0,0,0]else((l[(dH l r (s/4)).toNat]?).map Kn.fD).getD [])).set (s % 4) n⟩
def gY(l:List Kn)(r:Int)(s:Nat):Kn:=⟨iF,(if r<0 then[-1,-1,-1,-1]else((l[r.toNat]?).map Kn.fD).getD []).set (s/4) (l.length:Int)⟩
def lO(l:List Kn)(r s n:Int):Bool:=kL l r s&&decide (0<=n)
def gN(l:List Kn)(r s n:Int):List Kn:=if lO l r s n then l++[gS l r s.toNat n,gY l r s.toNat]else l
def jo(l:List Kn)(r s n:Int):Int:=if lO l r s n then(l.length:Int)+1 else r
def dE(l:List Kn)(r:Int)(i:Nat):Bool:=decide (0<=r)&&(decide (r=i)||(List.range 4).any (λk=>decide (dH l r k=i)))
end Words
end Go.Proofs.YtijmbohadndfmaaGreatDoor
