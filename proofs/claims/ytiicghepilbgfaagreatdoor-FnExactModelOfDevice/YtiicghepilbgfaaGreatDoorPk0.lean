/-
  Base; Own; Kept2; Tk; MtConv; HexMath; DecMath; MarkTx
-/
import Derived.Test.YtiicghepilbgfaaGreatDoorRows
import Derived.WalkKit
import Derived.WalkSpells
import Derived.WalkLawsBesides
import Derived.WalkSmall
import Derived.OwnWalk
import Derived.OneCell
import Derived.Lib.Slices
import Derived.Lib.Strings
import Derived.Laws.IdiomStrings
import Derived.Laws.DeepStrings4
import Derived.Deep.RegionWith
import Derived.Deep.RegionHeld3
import Derived.Deep.QuietTactic
import Derived.Deep.AppendLies
import Derived.BigQuiet
import Derived.WalkMore
import Derived.Lib.ItoaNum
import Derived.Lib.ItoaMem
import Derived.Lib.ItoaLen
set_option maxHeartbeats 400000
set_option maxRecDepth 100000
namespace Go.Proofs.YtiicghepilbgfaaGreatDoor
open Go.RowKit
theorem infoByte:(Tryz.prog.info? 5).map (fun i=>(i.zero,i.size,i.bytes))=some (some (.int .u8 0),1,1):=by kernel_rfl
theorem hide{p:Prop}(h:p):Hid p:=h
def bcells(l:List UInt8):List Value:=l.map fun b=>Value.int .u8 b.toNat
theorem bcells_len(l:List UInt8):(bcells l).length=l.length:=by simp[bcells]
theorem bcells_snoc(l:List UInt8)(c:UInt8)(x:Int)(h:(c.toNat:Int)=x):bcells l++[Value.int .u8 x]=bcells (l++[c]):=by
 subst h;simp[bcells]
theorem bcells_at(l:List UInt8)(j:Nat)(hj:j<l.length):(bcells l)[j]?=some (.int .u8 (l[j].toNat:Int)):=by
 simp[bcells,hj]
theorem one_cell(w:World)(x:Value)(t:TypeId):∀(j:Nat) (u:Value),[x][j]?=some u→(w.alloc (.cells #[x] t)).cell? ((⟨w.heap.size,0,none⟩:Addr).add j)=some u:=by
 intro j u hj
 match j,hj with
 |0,hj=>simp at hj;subst hj;simp[Addr.add]
theorem one_u8(x:Int):∀u∈ [Value.int .u8 x],u.oneCell'=true:=by
 intro u hu;simp at hu;subst hu;rfl
theorem own_grown {B:Nat} {w wr w2:World} {v:Value} {n:Nat} {xs:List Value} {e:TypeId} {o:Obj} (hb:Below B w wr) (hB:B≤wr.heap.size)
 (hown:wr.ownsRow B e 1 v n xs) (hg:(wr.alloc o).grownBy w2 v.ownBlock):Below B w w2:=
 (hb.alloc hB _).grown hg (by simp;omega) (fun k hk=>(hown.lt k hk).1)
theorem conv_own{B:Nat}(wr:World)(v:Value)(l:List UInt8)(h:wr.ownsRow B 5 1 v l.length (bcells l)):(convert 155 9 v).run Tryz.prog wr=.ok (.string ⟨l.toArray⟩) wr:=by
 have hown:=h;rcases h.2 with⟨rfl,h0⟩|⟨g,cap,cur,rfl,-,-,-,-,-,-⟩
 ·have:l=[]:=List.length_eq_zero_iff.1 h0;subst this;rw[run_convert_bytes_string wr 155 9 5 none 0 0 Tryz.underlying155 Tryz.underlying5 Tryz.underlying9];rfl
 ·exact run_convert_bytes_back (P:=Tryz.prog) wr 155 9 5 ⟨g,0,none⟩ cap l Tryz.underlying155 Tryz.underlying5 Tryz.underlying9 (fun j hj=>hown.cells (g:=g) rfl j _ (bcells_at l j hj))
theorem infoInt:(Tryz.prog.info? 3).map (fun i=>(i.zero,i.size,i.bytes))=some (some (.int .i64 0),1,8):=by kernel_rfl
def icells(l:List Int):List Value:=l.map fun n=>Value.int .i64 n
theorem icells_at(l:List Int)(j:Nat)(hj:j<l.length):(icells l)[j]?=some (.int .i64 l[j]):=by simp[icells,hj]
theorem one_i64(x:Int):∀u∈ [Value.int .i64 x],u.oneCell'=true:=by
 intro u hu;simp at hu;subst hu;rfl
theorem addr_at(g j:Nat):(⟨g,0,none⟩:Addr).add j=⟨g,j,none⟩:=by
 simp only[Addr.add];split<;>simp_all
theorem own_below{w w':World}{base:Nat}{e:TypeId}{size:Nat}{v:Value}{n:Nat}{xs:List Value}(h:w.ownsRow base e size v n xs)(hb:Below w.heap.size w w'):w'.ownsRow base e size v n xs:=by
 obtain⟨h1,h2⟩:=h;refine⟨h1,?_⟩;rcases h2 with h|⟨g,cap,cur,a1,a2,a3,a4⟩
 ·exact .inl h
 ·have hg:g<w.heap.size:=(Array.getElem?_eq_some_iff.1 a3).1;exact .inr ⟨g,cap,cur,a1,a2,by rw[hb.block g hg];exact a3,a4⟩
theorem own_lower{w:World}{base C:Nat}{e:TypeId}{size:Nat}{v:Value}{n:Nat}{xs:List Value}(h:w.ownsRow base e size v n xs)(hC:C≤base):w.ownsRow C e size v n xs:=by
 obtain⟨h1,h2⟩:=h;refine⟨h1,?_⟩;rcases h2 with h|⟨g,cap,cur,a1,a2,a3⟩
 ·exact .inl h
 ·exact .inr ⟨g,cap,cur,a1,by omega,a3⟩
def Kept2(w w':World)(ok:Nat→Prop):Prop:=w'.os=w.os∧w'.tape=w.tape∧w'.output=w.output∧w.heap.size≤w'.heap.size∧∀i,i<w.heap.size→ok i→w'.heap[i]?=w.heap[i]?
theorem Kept2.refl(w:World)(ok:Nat→Prop):Kept2 w w ok:=⟨rfl,rfl,rfl,Nat.le_refl _,fun _ _ _=>rfl⟩
theorem Kept2.trans{a b c:World}{ok:Nat→Prop}(h:Kept2 a b ok)(k:Kept2 b c ok):Kept2 a c ok:=
 ⟨k.1.trans h.1,k.2.1.trans h.2.1,k.2.2.1.trans h.2.2.1,Nat.le_trans h.2.2.2.1 k.2.2.2.1,fun i hi ho=>(k.2.2.2.2 i (Nat.lt_of_lt_of_le hi h.2.2.2.1) ho).trans (h.2.2.2.2 i hi ho)⟩
theorem Kept2.grown{a b:World}{ok:Nat→Prop}{row:Option Nat}(h:a.grownBy b row)(hr:∀j,row=some j→¬ok j):Kept2 a b ok:=
 ⟨h.os,h.tape,h.output,h.size,fun i hi ho=>h.block i hi (fun e=>hr i e.symm ho)⟩
theorem Kept2.below{a b:World}{ok:Nat→Prop}(h:Below a.heap.size a b):Kept2 a b ok:=⟨h.os,h.tape,h.output,h.size,fun i hi _=>h.block i hi⟩
theorem Kept2.down{a b:World}{ok:Nat→Prop}{B:Nat}(h:Kept2 a b ok)(hB:B≤a.heap.size)(ho:∀i,i<B→ok i):Below B a b:=⟨h.1,h.2.1,h.2.2.1,h.2.2.2.1,fun i hi=>h.2.2.2.2 i (Nat.lt_of_lt_of_le hi hB) (ho i hi)⟩
theorem grown_old{a b:World}(h:Below a.heap.size a b)(row:Option Nat):a.grownBy b row:=⟨h.os,h.tape,h.output,h.size,fun i hi _=>h.block i hi⟩
def Loc(lo hi:Nat)(P:World→Prop):Prop:=∀w w':World,(∀g,lo≤g→g<hi→w'.heap[g]?=w.heap[g]?)→P w→P w'
abbrev Hold:=Nat×Nat×(World→Prop)
def Tk(w wi:World)(hs:List Hold):Prop:=Below w.heap.size w wi∧∀h∈hs,h.2.1≤wi.heap.size∧Loc h.1 h.2.1 h.2.2∧h.2.2 wi
theorem Tk.start(w:World):Tk w w []:=⟨Below.refl _ _,fun _ h=>by cases h⟩
theorem Tk.below{w wi wj:World}{hs:List Hold}(h:Tk w wi hs)(hb:Below wi.heap.size wi wj):Tk w wj hs:=by
 refine⟨h.1.trans (hb.mono h.1.size),fun x hx=>?_⟩
 obtain⟨h1,h2,h3⟩:=h.2 x hx;have:=hb.size;exact⟨by omega,h2,h2 wi wj (fun g _ hg=>hb.block g (by omega)) h3⟩
theorem Tk.drew{w wi:World}{hs:List Hold}(h:Tk w wi hs):Tk w wi.drew hs:=h.below (Below.refl _ _).drew
theorem Tk.get{w wi:World}{hs:List Hold}(h:Tk w wi hs)(n:Nat){lo hi:Nat}{P:World→Prop}(hn:hs[n]?=some (lo,hi,P)):P wi:=(h.2 _ (List.mem_of_getElem? hn)).2.2
theorem Tk.hi{w wi:World}{hs:List Hold}(h:Tk w wi hs)(n:Nat){lo hi:Nat}{P:World→Prop}(hn:hs[n]?=some (lo,hi,P)):hi≤wi.heap.size:=(h.2 _ (List.mem_of_getElem? hn)).1
theorem Tk.add{w wi wj:World}{hs:List Hold}(h:Tk w wi hs)(hb:Below wi.heap.size wi wj){P:World→Prop}(hl:Loc wi.heap.size wj.heap.size P)(hp:P wj):Tk w wj ((wi.heap.size,wj.heap.size,P)::hs):=by
 obtain⟨h1,h2⟩:=h.below hb;refine⟨h1,fun x hx=>?_⟩
 rcases List.mem_cons.1 hx with rfl|hx
 ·exact⟨Nat.le_refl _,hl,hp⟩
 ·exact h2 x hx
theorem Tk.put{w wi:World}{hs:List Hold}(h:Tk w wi hs){lo hi:Nat}{P:World→Prop}(hh:hi≤wi.heap.size)(hl:Loc lo hi P)(hp:P wi):Tk w wi ((lo,hi,P)::hs):=by
 refine⟨h.1,fun x hx=>?_⟩
 rcases List.mem_cons.1 hx with rfl|hx
 ·exact⟨hh,hl,hp⟩
 ·exact h.2 x hx
def Cel(b:Nat)(cs:Array Value)(t:TypeId):World→Prop:=fun W=>W.heap[b]?=some (.cells cs t (0,0))
theorem Cel.loc(b:Nat)(cs:Array Value)(t:TypeId):Loc b (b+1) (Cel b cs t):=fun _ _ hk h=>(hk b (Nat.le_refl _) (by omega)).trans h
theorem Tk.cell{w wi:World}{hs:List Hold}(h:Tk w wi hs)(cs:Array Value)(t:TypeId):Tk w (wi.alloc (.cells cs t)) ((wi.heap.size,wi.heap.size+1,Cel wi.heap.size cs t)::hs):=by
 have hz:(wi.alloc (.cells cs t)).heap.size=wi.heap.size+1:=by simp
 have:=h.add ((Below.refl _ _).alloc (Nat.le_refl _) (.cells cs t)) (P:=Cel wi.heap.size cs t) (by rw[hz];exact Cel.loc _ _ _) (heap_alloc_new wi _)
 rw[hz]at this;exact this
theorem Tk.at{w wi:World}{hs:List Hold}(h:Tk w wi hs)(n:Nat){lo hi b:Nat}{cs:Array Value}{t:TypeId}(k:Nat){v:Value}(hn:hs[n]?=some (lo,hi,Cel b cs t))(hk:cs[k]?=some v):wi.cell? ⟨b,k,none⟩=some v:=by
 rw[cell_of_row _ _ k _ _ _ (h.get n hn)];exact hk
theorem Tk.fr{w wi:World}{hs:List Hold}(h:Tk w wi hs)(n:Nat){lo hi b:Nat}{cs:Array Value}{t:TypeId}(k:Nat)(hn:hs[n]?=some (lo,hi,Cel b cs t)):wi.frozen? ⟨b,k,none⟩=false:=frozen_of_row _ _ k _ _ (h.get n hn)
theorem Tk.drop{w wi:World}{hs hs':List Hold}(h:Tk w wi hs)(hh:∀x∈hs',x∈hs):Tk w wi hs':=⟨h.1,fun x hx=>h.2 x (hh x hx)⟩
def Apt(lo hi i:Nat):Prop:=¬(lo≤i∧i<hi)
theorem Tk.touch {w wi wj:World} {hs hs':List Hold} {lo hi:Nat} {Q:World→Prop} (h:Tk w wi hs) (hk:Kept2 wi wj (Apt lo hi)) (hlo:w.heap.size≤lo) (hhi:hi≤wi.heap.size) (hl:Loc lo hi Q) (hq:Q wj)
 (hh:∀x∈hs',x∈hs∧(x.2.1≤lo∨hi≤x.1)):Tk w wj ((lo,hi,Q)::hs'):=by
 have hs:=hk.2.2.2.1;have hs1:=h.1.size;refine⟨h.1.trans (hk.down h.1.size (fun i hi' hq=>by omega)),fun x hx=>?_⟩
 rcases List.mem_cons.1 hx with rfl|hx
 ·exact⟨by show hi≤_;omega,hl,hq⟩
 ·obtain⟨hx1,hx2⟩:=hh x hx;obtain⟨h1,h2,h3⟩:=h.2 x hx1;exact⟨by omega,h2,h2 wi wj (fun g g1 g2=>hk.2.2.2.2 g (by omega) (fun hz=>by omega)) h3⟩
theorem Tk.spoil{w wi wj:World}{hs hs':List Hold}{lo hi:Nat}(h:Tk w wi hs)(hk:Kept2 wi wj (Apt lo hi))(hlo:w.heap.size≤lo)(hhi:hi≤wi.heap.size)(hh:∀x∈hs',x∈hs∧(x.2.1≤lo∨hi≤x.1)):Tk w wj hs':=
 (h.touch hk hlo hhi (Q:=fun _=>True) (fun _ _ _ _=>trivial) trivial hh).drop (fun _ hx=>List.mem_cons_of_mem _ hx)
theorem Tk.celln{w wi:World}{hs:List Hold}(h:Tk w wi hs){n:Nat}(hn:wi.heap.size=n)(cs:Array Value)(t:TypeId):Tk w (wi.alloc (.cells cs t)) ((n,n+1,Cel n cs t)::hs):=by
 subst hn;exact h.cell cs t
theorem alloc_size{w:World}{n:Nat}(hn:w.heap.size=n)(o:Obj):(w.alloc o).heap.size=n+1:=by simp[hn]
theorem Tk.two(w:World)(c1 c2:Array Value)(t1 t2:TypeId):Tk w ((w.alloc (.cells c1 t1)).alloc (.cells c2 t2)) [(w.heap.size+1,w.heap.size+1+1,Cel (w.heap.size+1) c2 t2),(w.heap.size,w.heap.size+1,Cel w.heap.size c1 t1)]:=
 ((Tk.start w).celln rfl c1 t1).celln (alloc_size rfl _) c2 t2
theorem Tk.three(w:World)(c1 c2 c3:Array Value)(t1 t2 t3:TypeId):Tk w (((w.alloc (.cells c1 t1)).alloc (.cells c2 t2)).alloc (.cells c3 t3)) [(w.heap.size+1+1,w.heap.size+1+1+1,Cel (w.heap.size+1+1) c3 t3),(w.heap.size+1,w.heap.size+1+1,Cel (w.heap.size+1) c2 t2),(w.heap.size,w.heap.size+1,Cel w.heap.size c1 t1)]:=
 (Tk.two w c1 c2 t1 t2).celln (alloc_size (alloc_size rfl _) _) c3 t3
theorem mt_conv(w:World)(c:UInt8)(x:Int)(h:(c.toNat:Int)=x):
 (convert 155 9 (.slice (some ⟨w.heap.size,0,none⟩) 1 1)).run Tryz.prog (w.alloc (.cells #[.int .u8 x] 5))=.ok (.string ⟨#[c]⟩) (w.alloc (.cells #[.int .u8 x] 5)):=by
 subst h;exact run_convert_bytes_back (P:=Tryz.prog) (w.alloc (.cells #[.int .u8 c.toNat] 5)) 155 9 5 ⟨w.heap.size,0,none⟩ 1 [c] Tryz.underlying155 Tryz.underlying5 Tryz.underlying9
  (fun j hj=>by
   have:j=0:=by simpa using hj
   subst this;exact one_cell w _ 5 0 _ rfl)
theorem mt_cons(c:UInt8)(l:List UInt8):Value.string (⟨#[c]⟩++⟨l.toArray⟩)=.string ⟨(c::l).toArray⟩:=by
 rw[show(#[c]:Array UInt8)=[c].toArray from rfl,ByteArray.mk_append_mk];rfl
end Go.Proofs.YtiicghepilbgfaaGreatDoor
namespace Go.Proofs.YtiicghepilbgfaaGreatDoor.Words
def figZ(x:Int):Int:=if x<10 then 48+x else 97+x-10
def fig(x:Nat):UInt8:=UInt8.ofNat (figZ x).toNat
theorem figZ_bd(x:Int)(h0:0≤x)(h1:x<16):48≤figZ x∧figZ x≤102:=by unfold figZ;split<;>omega
theorem fig_nat(x:Nat)(h1:x<16):((fig x).toNat:Int)=figZ x:=by
 have:=figZ_bd x (by omega) (by omega)
 unfold fig;rw[UInt8.toNat_ofNat'];omega
end Go.Proofs.YtiicghepilbgfaaGreatDoor.Words
namespace Go.Proofs.YtiicghepilbgfaaGreatDoor.Words
open Go.Lib (decDigits itoa)
def pre(m:Nat):List UInt8:=if m=0 then[]else decDigits m
theorem pre_zero:pre 0=[]:=rfl
theorem pre_pos(m:Nat)(h:0<m):pre m=decDigits m:=by rw[pre,if_neg (by omega)]
theorem pre_step(m:Nat)(h:0<m):pre m=pre (m/10)++[fig (m % 10)]:=by
 have hf:fig (m % 10)=UInt8.ofNat (48+m % 10):=by
  unfold fig figZ;rw[if_pos (by omega)]
  congr 1
 rw[pre_pos m h,decDigits];by_cases h10:m<10
 ·rw[dif_pos h10,show m/10=0 by omega,pre_zero,hf,Nat.mod_eq_of_lt h10];rfl
 ·rw[dif_neg h10,pre_pos (m/10) (by omega),hf]
theorem dacc_step{m u:Nat}{acc:List UInt8}(h:pre m++acc=decDigits u)(hm:0<m):pre (m/10)++(fig (m % 10)::acc)=decDigits u:=by
 rw[←h,pre_step m hm];simp
theorem dacc_len{m u:Nat}{acc:List UInt8}(h:pre m++acc=decDigits u)(hu:u≤9223372036854775808):acc.length≤21:=by
 have h1:=congrArg List.length h;have h2:(decDigits u).length≤21:=by
  by_cases h0:u=0
  ·subst h0;have:=Go.Lib.itoa_length_le 0 (by omega) (by omega)
   rw[show(0:Int)=((0:Nat):Int)from rfl,Go.Lib.itoa_nonneg]at this;exact this
  ·have:=Go.Lib.itoa_length_le (-(u:Int)) (by omega) (by omega)
   rw[Go.Lib.itoa_neg u (by omega)]at this
   simp at this;omega
 simp at h1;omega
end Go.Proofs.YtiicghepilbgfaaGreatDoor.Words
namespace Go.Proofs.YtiicghepilbgfaaGreatDoor
open Go.RowKit
open Words
open Go.Lib (decDigits)
def markL(k:Nat):List UInt8:=109::decDigits k
theorem fig48(m:Nat):((fig (m % 10)).toNat:Int)=48+(m:Int) % 10:=by
 rw[fig_nat (m % 10) (by omega)]
 unfold figZ;rw[if_pos (by omega)]
 omega
theorem markText_any(k:Nat)(w:World)(hk:0<k)(hk2:k≤1000000000000):
 Calls Tryz.prog 59 #[.int .i64 k] w fun e w'=>e=.returned (.string ⟨(markL k).toArray⟩)∧Below w.heap.size w w':=by
 have g1:¬(k:Int)≤0:=by omega
 go_enter Tryz.func59,Tryz.ntmps59;go_wp2;go_loopw [0,3] (fun nv sv wr=>∃(m:Nat) (acc:List UInt8),nv=.int .i64 m∧m≤k∧Hid (pre m++acc=decDigits k)∧sv=.string ⟨acc.toArray⟩∧Below w.heap.size w wr) (fun nv _ _=>(intOf nv).toNat)
 case atStart=>exact⟨k,[],rfl,Nat.le_refl _,by show _=_;rw[pre_pos k hk,List.append_nil],rfl,Below.refl _ _⟩
 case round=>
  obtain⟨m,acc,rfl,hm,hacc,rfl,hbel⟩:=hrel;have hsz:=hbel.size;have hal:=dacc_len hacc.out (by omega)
  by_cases hm0:m=0
  ·subst hm0;have E:Hid (acc=decDigits k):=hacc;go_wp2;go_ret;exact⟨by rw[markL,←E.out];exact congrArg Ending.returned (mt_cons 109 acc),hbel⟩
  ·have t1:(0:Int)<m:=by omega
   have A2:Hid (pre (m/10)++(fig (m % 10)::acc)=decDigits k):=dacc_step hacc.out (by omega)
   have hcv:=mt_conv wr (fig (m % 10)) _ (fig48 m);clear hacc hm0;go_wp2;go_roundw
   case rel=>exact⟨m/10,fig (m % 10)::acc,by go_num,by omega,A2,mt_cons _ _,hbel.alloc (by omega) _⟩
   case measure=>simp[intOf];omega
theorem markText_int(x:Int)(n:Nat)(hx:x=n)(w:World)(h0:0<n)(h1:n≤1000000000000):
 Calls Tryz.prog 59 #[.int .i64 x] w fun e w'=>e=.returned (.string ⟨(markL n).toArray⟩)∧Below w.heap.size w w':=by
 subst hx;exact markText_any n w h0 h1
end Go.Proofs.YtiicghepilbgfaaGreatDoor
