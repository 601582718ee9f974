/-
  ShMk; TkSh; ShFil; StApp; LastOp; ShCp; SSameM; ShAdd
-/
import Derived.Test.YtiicghepilbgfaaGreatDoorPk4
import Derived.Test.YtiicghepilbgfaaGreatDoorPk0
import Derived.Deep.AppendLies
import Derived.Maps.AppendAt
import Derived.Orders
import Derived.OrdersHeld
import Derived.Tactics
import Derived.Deep.RegionHeld
import Derived.Deep.RegionHeld3
import Derived.Deep.DeepCutAuto
import Derived.Deep.QuietTactic
import Derived.Laws.AppendOwnNone
import Derived.BigQuiet
set_option maxHeartbeats 1000000
set_option maxRecDepth 100000
namespace Go.Proofs.YtiicghepilbgfaaGreatDoor
open Go.RowKit
open Words
abbrev Uw:=Int×Value×Nat×List Value
def ucell(t:Uw):List Value:=[.int .i64 t.1,t.2.1]
def ucells(l:List Uw):List Value:=l.flatMap ucell
theorem ucells_cons(t:Uw)(l:List Uw):ucells (t::l)=ucell t++ucells l:=by simp[ucells]
theorem ucells_at(l:List Uw)(k:Nat)(t:Uw)(h:l[k]?=some t)(j:Nat)(v:Value)(hj:(ucell t)[j]?=some v):(ucells l)[k*2+j]?=some v:=by
 have hlt:j<2:=(List.getElem?_eq_some_iff.1 hj).1
 induction l generalizing k with
 |nil=>simp at h
 |cons a l ih=>
  rw[ucells_cons];cases k with
  |zero=>
   simp at h;subst h;rw[List.getElem?_append_left (by show _<2;omega),Nat.zero_mul,Nat.zero_add]
   exact hj
  |succ k=>
   rw[List.getElem?_append_right (by show 2≤_;omega),show(k+1)*2+j-(ucell a).length=k*2+j by show _-2=_;omega]
   exact ih k (by simpa using h)
theorem ucells_set(l:List Uw)(k:Nat)(t:Uw)(h:l[k]?=some t)(a:Int)(n:Nat)(xs:List Value):(ucells l).set (k*2) (.int .i64 a)=ucells (l.set k (a,t.2.1,n,xs)):=by
 induction l generalizing k with
 |nil=>simp at h
 |cons c l ih=>
  cases k with
  |zero=>
   simp at h;subst h;simp[ucells_cons,ucell]
  |succ k=>
   have:=ih k (by simpa using h)
   rw[List.set_cons_succ,ucells_cons,ucells_cons,←this,List.set_append_right _ _ (by show 2≤_;omega)]
   congr 2;show(k+1)*2-2=_;omega
def ULone(ys:List Uw):Prop:=ys.Pairwise (fun a b=>∀g,a.2.1.ownBlock=some g→b.2.1.ownBlock≠some g)
def UIn(lo hi:Nat)(v:Value)(ys:List Uw)(W:World):Prop:=
 Sli 75 lo hi v ys.length (ucells ys) W∧(∀y∈ys,Sli 9 lo hi y.2.1 y.2.2.1 y.2.2.2 W)∧ULone ys
theorem UIn.loc(lo hi:Nat)(v:Value)(ys:List Uw):Loc lo hi (UIn lo hi v ys):=by
 intro w w' hk h;exact⟨Sli.loc _ _ _ _ _ _ w w' hk h.1,fun r hr=>Sli.loc _ _ _ _ _ _ w w' hk (h.2.1 r hr),h.2.2⟩
def uOf(t:Hw):Uw:=(t.1,t.2.1,t.2.2.length,zcells t.2.2)
theorem HIn.v{lo hi:Nat}{v:Value}{rs:List Hw}{W:World}(h:HIn lo hi v rs W):UIn lo hi v (rs.map uOf) W:=by
 obtain⟨h1,h2,h3,-⟩:=h;have ec:ucells (rs.map uOf)=shcells rs:=by unfold ucells shcells;rw[List.flatMap_map];rfl
 refine⟨by rw[List.length_map,ec];exact h1,?_,?_⟩
 ·intro y hy;obtain⟨r,hr,rfl⟩:=List.mem_map.1 hy;exact(h2 r hr).1
 ·unfold ULone;rw[List.pairwise_map];exact h3
theorem ulone_get{ys:List Uw}(h:ULone ys){i j:Nat}{a b:Uw}(hij:i≠j)(ha:ys[i]?=some a)(hb:ys[j]?=some b):∀g,a.2.1.ownBlock=some g→b.2.1.ownBlock≠some g:=by
 intro g e1 e2;have h':=List.pairwise_iff_getElem.1 h;obtain⟨ia,ea⟩:=List.getElem?_eq_some_iff.1 ha;obtain⟨jb,eb⟩:=List.getElem?_eq_some_iff.1 hb;rcases Nat.lt_or_gt_of_ne hij with q|q
 ·exact h' i j ia jb q g (by rw[ea];exact e1) (by rw[eb];exact e2)
 ·exact h' j i jb ia q g (by rw[eb];exact e2) (by rw[ea];exact e1)
theorem ulone_set{ys:List Uw}(h:ULone ys){j:Nat}{y y':Uw}(hj:ys[j]?=some y)(hv:y'.2.1=y.2.1):ULone (ys.set j y'):=by
 unfold ULone at*;have:(ys.set j y').map (fun t=>t.2.1)=ys.map (fun t=>t.2.1):=by
  rw[List.map_set,hv];apply List.ext_getElem?;intro i;rw[List.getElem?_set];split
  ·rename_i e
   subst e;obtain⟨hl,he⟩:=List.getElem?_eq_some_iff.1 hj;simp[hl,he]
  ·rfl
 have e:∀l:List Uw,l.Pairwise (fun a b=>∀g,a.2.1.ownBlock=some g→b.2.1.ownBlock≠some g)↔(l.map (fun t=>t.2.1)).Pairwise (fun a b=>∀g,a.ownBlock=some g→b.ownBlock≠some g):=fun l=>by rw[List.pairwise_map]
 rw[e,this,←e];exact h
theorem str_sh_ne{lo hi lo' hi' n m:Nat}{v u:Value}{xs zs:List Value}{W:World}(h1:Sli 75 lo hi v n xs W)(h2:Sli 9 lo' hi' u m zs W):∀g,v.ownBlock=some g→u.ownBlock≠some g:=by
 intro g e1 e2;obtain⟨-,-,cs,q⟩:=h1.lt g e1;obtain⟨-,-,cs',q'⟩:=h2.lt g e2;exact str_ne_sh q' q
theorem UIn.flag{lo hi g n cap:Nat}{ys:List Uw}{W:World}(h:UIn lo hi (.slice (some ⟨g,0,none⟩) n cap) ys W)(hn:ys.length=n){j:Nat}{y:Uw}(hj:ys[j]?=some y)(a:Int):
 UIn lo hi (.slice (some ⟨g,0,none⟩) n cap) (ys.set j (a,y.2.1,y.2.2.1,y.2.2.2)) (W.setCell ⟨g,j*2,none⟩ (.int .i64 a)):=by
 obtain⟨h1,h2,h3⟩:=h;rw[hn]at h1;refine⟨?_,?_,ulone_set h3 hj rfl⟩
 ·rcases h1 with⟨e,-⟩|⟨g',cap',e,q1,q2,q3⟩
  ·cases e
  ·injection e with e1 e2 e3
   injection e1 with e1
   injection e1 with e1
   subst e1;subst e3;refine .inr ⟨g,cap,by rw[List.length_set,hn],q1,q2,?_⟩
   have:=q3.set (j*2) (.int .i64 a);rw[ucells_set ys j y hj a y.2.2.1 y.2.2.2]at this;exact this
 ·intro z hz;have hz2:Sli 9 lo hi z.2.1 z.2.2.1 z.2.2.2 W:=by
   rcases List.mem_or_eq_of_mem_set hz with e|e
   ·exact h2 z e
   ·subst e;exact h2 y (List.mem_of_getElem? hj)
  have hne:=str_sh_ne h1 hz2 g rfl;exact hz2.grown (grown_cell W g (j*2) (.int .i64 a)) (fun g' e e2=>hne (by cases e2;exact e))
theorem Sli.kept3s{t:TypeId}{lo hi n:Nat}{v:Value}{xs:List Value}{w w':World}{ok:Nat→Prop}(h:Sli t lo hi v n xs w)(hk:Kept2 w w' ok)(ho:∀g,v.ownBlock=some g→ok g):Sli t lo hi v n xs w':=by
 rcases h with h|⟨g,cap,rfl,h1,h2,cs,h3,h4⟩
 ·exact .inl h
 ·exact .inr ⟨g,cap,rfl,h1,h2,cs,(hk.2.2.2.2 g (Array.getElem?_eq_some_iff.1 h3).1 (ho g rfl)).trans h3,h4⟩
theorem UIn.inner{lo hi n cap:Nat}{ad:Option Addr}{ys:List Uw}{W W':World}(h:UIn lo hi (.slice ad n cap) ys W){j:Nat}{y:Uw}(hj:ys[j]?=some y)(xs:List Value)(hk:Kept2 W W' (fun i=>y.2.1.ownBlock≠some i))(hs:Sli 9 lo hi y.2.1 y.2.2.1 xs W'):
 UIn lo hi (.slice ad n cap) (ys.set j (y.1,y.2.1,y.2.2.1,xs)) W':=by
 obtain⟨h1,h2,h3⟩:=h;have hy:=h2 y (List.mem_of_getElem? hj);refine⟨?_,?_,ulone_set h3 hj rfl⟩
 ·have e:ucells (ys.set j (y.1,y.2.1,y.2.2.1,xs))=ucells ys:=by
   unfold ucells;rw[List.flatMap_def,List.flatMap_def,List.map_set];congr 1;apply List.ext_getElem?;intro i;rw[List.getElem?_set];split
   ·rename_i e
    subst e;obtain⟨hl,he⟩:=List.getElem?_eq_some_iff.1 hj;simp[hl,he,ucell]
   ·rfl
  rw[e,List.length_set];exact h1.kept3s hk (fun g e1 e2=>str_sh_ne h1 hy g e1 e2)
 ·intro z hz;obtain⟨i,hi⟩:=List.mem_iff_getElem?.1 hz;rw[List.getElem?_set]at hi;split at hi
  ·rename_i e
   subst e;rw[if_pos (List.getElem?_eq_some_iff.1 hj).1]at hi;cases hi;exact hs
  ·rename_i e
   exact(h2 z (List.mem_of_getElem? hi)).kept3s hk (fun g e1 e2=>ulone_get h3 (fun q=>e q.symm) hi hj g e1 e2)
def hfm(k:Nat):Int:=(k:Int)
def umk:Nat→List Uw→List Uw
 |_,[]=> []
 |k,y::ys=>(hfm k,y.2.1,y.2.2.1,mkFlat patZs (k+1) y.2.2.1)::umk (k+1+y.2.2.1) ys
def uend:Nat→List Uw→Nat
 |k,[]=>k
 |k,y::ys=>uend (k+1+y.2.2.1) ys
theorem umk_len:∀(ys:List Uw) (k:Nat),(umk k ys).length=ys.length:=by
 intro ys
 induction ys with
 |nil=>intro k;rfl
 |cons y ys ih=>intro k;simp[umk,ih]
theorem uend_app:∀(a:List Uw) (b:List Uw) (k:Nat),uend k (a++b)=uend (uend k a) b:=by
 intro a
 induction a with
 |nil=>intro b k;rfl
 |cons y a ih=>intro b k;simp only[List.cons_append,uend,ih]
theorem umk_app:∀(a:List Uw) (b:List Uw) (k:Nat),umk k (a++b)=umk k a++umk (uend k a) b:=by
 intro a
 induction a with
 |nil=>intro b k;rfl
 |cons y a ih=>intro b k;simp only[List.cons_append,umk,uend,ih]
theorem uend_le:∀(ys:List Uw) (k:Nat),k≤uend k ys:=by
 intro ys
 induction ys with
 |nil=>intro k;exact Nat.le_refl _
 |cons y ys ih=>intro k;have:=ih (k+1+y.2.2.1);simp only[uend];omega
theorem uend_take(ys:List Uw)(k j:Nat):uend k (ys.take j)≤uend k ys:=by
 have:uend k ys=uend (uend k (ys.take j)) (ys.drop j):=by rw[←uend_app,List.take_append_drop]
 rw[this];exact uend_le _ _
theorem uend_succ{ys:List Uw}{k j:Nat}{y:Uw}(h:ys[j]?=some y):uend k (ys.take (j+1))=uend k (ys.take j)+1+y.2.2.1:=by
 rw[List.take_add_one,h,uend_app];rfl
theorem umk_at{ys:List Uw}{k j:Nat}{y:Uw}(h:ys[j]?=some y):(umk k ys)[j]?=some (hfm (uend k (ys.take j)),y.2.1,y.2.2.1,mkFlat patZs (uend k (ys.take j)+1) y.2.2.1):=by
 have hl:=(List.getElem?_eq_some_iff.1 h).1;have e:ys=ys.take j++(y::ys.drop (j+1)):=by
  have:=List.take_append_drop j ys;rw[List.drop_eq_getElem_cons hl,(List.getElem?_eq_some_iff.1 h).2]at this;exact this.symm
 have hlm:(umk k (ys.take j)).length=j:=by rw[umk_len,List.length_take];omega
 conv=>lhs;rw[e,umk_app]
 rw[List.getElem?_append_right (by omega),hlm,Nat.sub_self]
 rfl
theorem umk_set{ys:List Uw}{k j:Nat}{y:Uw}(h:ys[j]?=some y):
 (umk k (ys.take j)++ys.drop j).set j (hfm (uend k (ys.take j)),y.2.1,y.2.2.1,mkFlat patZs (uend k (ys.take j)+1) y.2.2.1)=umk k (ys.take (j+1))++ys.drop (j+1):=by
 have hl:=(List.getElem?_eq_some_iff.1 h).1;have hlm:(umk k (ys.take j)).length=j:=by rw[umk_len,List.length_take];omega
 rw[List.set_append_right _ _ (by omega),hlm,Nat.sub_self,List.drop_eq_getElem_cons hl,List.set_cons_zero,List.take_add_one,h,umk_app]
 simp[umk]
theorem markShs_any(lo hi:Nat)(a:Value)(ys:List Uw)(w:World)(hl:ys.length≤1048580)(hll:∀y∈ys,y.2.2.1≤1048576∧y.2.2.2.length=y.2.2.1)(he:uend 1 ys≤1000000000)(hh:hi≤w.heap.size)(ha:UIn lo hi a ys w):
 Calls Tryz.prog 16 #[a,.int .i64 1] w fun e w'=>e=.returned (.int .i64 ((uend 1 ys:Nat):Int))∧Hid (UIn lo hi a (umk 1 ys) w')∧Hid (Kept2 w w' (Apt lo hi)):=by
 obtain⟨ad,ca,rfl,a3⟩:=ha.1.form;have A3:=hide a3;have HA:=hide ha;have HLL:=hide hll;have HE:=hide he;clear a3 ha hll he;obtain⟨n,hn⟩:∃n,ys.length=n:=⟨_,rfl⟩;have HN:=hide hn;rw[hn]at hl A3 HA⊢;clear hn;go_enter Tryz.func16,Tryz.ntmps16;go_wp2;go_loopw [1,5] (fun kv iv wr=>∃j p:Nat,j≤n∧iv=.int .i64 j∧kv=.int .i64 (p:Int)∧Hid (p=uend 1 (ys.take j))∧Hid (UIn lo hi (.slice ad n ca) (umk 1 (ys.take j)++ys.drop j) wr)∧Hid (Kept2 w wr (Apt lo hi))) (fun _ iv _=>n-(intOf iv).toNat)
 case atStart=>exact⟨0,1,Nat.zero_le _,rfl,rfl,rfl,HA,Kept2.refl _ _⟩
 case round=>
  obtain⟨j,p,hj,rfl,rfl,HP,HO,HW⟩:=hrel;have hp0:0<p:=by have:=uend_le (ys.take j) 1;have:=HP.out;omega
  have hp1:p≤1000000000:=by have:=uend_take ys 1 j;have:=HP.out;have:=HE.out;omega
  by_cases hlt:(j:Int)<n
  ·obtain⟨ga,e,g1,g2⟩:=A3.out (by omega)
   subst e;have hjl:j<ys.length:=by have:=HN.out;omega
   obtain⟨y,hy⟩:∃y,ys[j]?=some y:=⟨_,List.getElem?_eq_getElem hjl⟩;have hlm:(umk 1 (ys.take j)).length=j:=by rw[umk_len,List.length_take];omega
   have hms:=umk_set (k:=1) hy;have hend:=uend_succ (k:=1) hy;rw[←HP.out]at hms hend;obtain⟨cur,hcur⟩:∃cur,umk 1 (ys.take j)++ys.drop j=cur:=⟨_,rfl⟩;have hcl:cur.length=n:=by rw[←hcur,List.length_append,hlm,List.length_drop,HN.out];omega
   have hcj:cur[j]?=some y:=by
    rw[←hcur,List.getElem?_append_right (by omega),hlm,Nat.sub_self,List.getElem?_drop,Nat.add_zero,hy]
   rw[hcur]at hms HO;obtain⟨hy1,hy2⟩:=HLL.out y (List.mem_of_getElem? hy);obtain⟨x0,sv,m,xs⟩:=y;simp only at hms hend hy1 hy2;have HO1:=HO.out.1;rw[hcl]at HO1;have c0:wr.cell? ⟨ga,j*2,none⟩=some (.int .i64 x0):=HO1.flt.cell (ucells_at cur j _ hcj 0 _ rfl);have c1:wr.cell? ⟨ga,j*2+1,none⟩=some sv:=HO1.flt.cell (ucells_at cur j _ hcj 1 _ rfl);have f0:=HO1.flt.frozen (j*2);have F2:=HO.out.flag hcl hcj (hfm p);simp only at F2;have hc2:(cur.set j (hfm p,sv,m,xs))[j]?=some (hfm p,sv,m,xs):=by rw[List.getElem?_set_self (by omega)]
   have LL:=F2.2.1 _ (List.mem_of_getElem? hc2);simp only at LL;obtain⟨sa,sc,rfl,-⟩:=LL.form;have K2:Kept2 w (wr.setCell ⟨ga,j*2,none⟩ (.int .i64 (hfm p))) (Apt lo hi):=HW.out.trans (Kept2.grown (ok:=Apt lo hi) (grown_cell wr ga (j*2) (.int .i64 (hfm p))) (fun i hi' hok=>by cases hi';exact hok ⟨g1,g2⟩))
   obtain⟨W2,hW2⟩:∃W2,wr.setCell ⟨ga,j*2,none⟩ (.int .i64 (hfm p))=W2:=⟨_,rfl⟩;rw[hW2]at F2 LL K2;have CM:Hid (Calls Tryz.prog 34 #[.slice sa m sc,.int .i64 ((p+1:Nat):Int)] W2 fun e w'=>e=.returned (.int .i64 ((p+1+m:Nat):Int))∧Hid (UIn lo hi (.slice (some ⟨ga,0,none⟩) n ca) (umk 1 (ys.take (j+1))++ys.drop (j+1)) w')∧Hid (Kept2 w w' (Apt lo hi))):=by
    refine(markZt_any lo hi (.slice sa m sc) m (p+1) xs W2 (by omega) hy2 (by omega) (by omega) (Nat.le_trans hh K2.2.2.2.1) LL).mono ?_
    rintro e w' ⟨rfl,hs,hk⟩;refine⟨rfl,?_,?_⟩
    ·have F3:=F2.inner hc2 (mkFlat patZs (p+1) m) hk.out hs.out;rw[List.set_set]at F3;simp only at F3;rw[hms]at F3;exact F3
    ·refine K2.trans ⟨hk.out.1,hk.out.2.1,hk.out.2.2.1,hk.out.2.2.2.1,fun i hi' hok=>hk.out.2.2.2.2 i hi' (fun e=>?_)⟩
     have:=LL.lt i e;exact hok ⟨this.1,this.2.1⟩
   have HP2:Hid (p+1+m=uend 1 (ys.take (j+1))):=hend.symm;have e1:(p:Int)+1=((p+1:Nat):Int):=by omega
   have j0:(0:Int)≤j:=by omega
   have HW2:=hide hW2;clear hy hlm hms hend hcur hcl hcj hy1 hy2 HO1 F2 hc2 LL K2 HO HW HP hW2;obtain⟨p1,hp1'⟩:∃p1,p+1=p1:=⟨_,rfl⟩;rw[hp1']at e1 CM HP2;have hb1:p1≤1000000001:=by omega
   clear hp1';unfold hfm at HW2;go_wp2_with fail;rw[HW2.out];refine CM.out.mono ?_;rintro e w5 ⟨rfl,HF5,HK5⟩;clear CM HW2;obtain⟨p3,hp3⟩:∃p3,p1+m=p3:=⟨_,rfl⟩;rw[hp3]at HP2⊢;clear hp3 c0 c1 f0;go_wp2;go_roundw
   case rel=>exact⟨j+1,p3,by omega,by go_num,by first|rfl|go_num,HP2,HF5,HK5⟩
   case measure=>simp[intOf];omega
  ·have hje:j=ys.length:=by have:=HN.out;omega
   have hO:=HO.out;rw[hje,List.drop_length,List.append_nil,List.take_length]at hO;have hP:=HP.out;rw[hje,List.take_length]at hP;have HO2:=hide hO;have E:Hid ((p:Int)=((uend 1 ys:Nat):Int)):=by show _=_;rw[hP]
   clear hO hje HO hP HP;go_wp2;go_ret;exact⟨congrArg (fun x=>Ending.returned (.int .i64 x)) E.out,HO2,HW⟩
theorem heldShs_any(lo hi:Nat)(a:Value)(ys:List Uw)(w:World)(hl:ys.length≤1048580)(hll:∀y∈ys,y.2.2.1≤1048576)(he:uend 1 ys≤1000000000)(hh:hi≤w.heap.size)(ha:UIn lo hi a (umk 1 ys) w):
 Calls Tryz.prog 17 #[a,.int .i64 1] w fun e w'=>e=.returned (.int .i64 ((uend 1 ys:Nat):Int))∧Below w.heap.size w w':=by
 obtain⟨ad,ca,rfl,a3⟩:=ha.1.form;have A3:=hide a3;have HA:=hide ha;have HLL:=hide hll;have HE:=hide he;clear a3 ha hll he;obtain⟨n,hn⟩:∃n,ys.length=n:=⟨_,rfl⟩;have HN:=hide hn;rw[umk_len,hn]at A3 HA⊢;rw[hn]at hl;clear hn;go_enter Tryz.func17,Tryz.ntmps17;go_wp2;go_loopw [1,5] (fun kv iv wr=>∃j p:Nat,j≤n∧iv=.int .i64 j∧kv=.int .i64 (p:Int)∧Hid (p=uend 1 (ys.take j))∧Hid (Below w.heap.size w wr)) (fun _ iv _=>n-(intOf iv).toNat)
 case atStart=>exact⟨0,1,Nat.zero_le _,rfl,rfl,rfl,Below.refl _ _⟩
 case round=>
  obtain⟨j,p,hj,rfl,rfl,HP,HW⟩:=hrel;have hp0:0<p:=by have:=uend_le (ys.take j) 1;have:=HP.out;omega
  have hp1:p≤1000000000:=by have:=uend_take ys 1 j;have:=HP.out;have:=HE.out;omega
  by_cases hlt:(j:Int)<n
  ·obtain⟨ga,e,g1,g2⟩:=A3.out (by omega)
   subst e;have hjl:j<ys.length:=by have:=HN.out;omega
   obtain⟨y,hy⟩:∃y,ys[j]?=some y:=⟨_,List.getElem?_eq_getElem hjl⟩;have hmj:=umk_at (k:=1) hy;have hend:=uend_succ (k:=1) hy;rw[←HP.out]at hmj hend;have hy1:=HLL.out y (List.mem_of_getElem? hy);obtain⟨x0,sv,m,xs⟩:=y;simp only at hmj hend hy1;have HO1:=HA.out.1;rw[umk_len,HN.out]at HO1;have GA:=HO1.flt.below HW.out;have c0:wr.cell? ⟨ga,j*2,none⟩=some (.int .i64 (hfm p)):=GA.cell (ucells_at _ j _ hmj 0 _ rfl);have c1:wr.cell? ⟨ga,j*2+1,none⟩=some sv:=GA.cell (ucells_at _ j _ hmj 1 _ rfl);have LL:=HA.out.2.1 _ (List.mem_of_getElem? hmj);simp only at LL;obtain⟨sa,sc,rfl,-⟩:=LL.form;have CM:=hide (heldZt_any lo hi (.slice sa m sc) m (p+1) wr (by omega) (by omega) (by omega) (Nat.le_trans hh HW.out.size) (LL.blw HW.out))
   have HP2:Hid (p+1+m=uend 1 (ys.take (j+1))):=hend.symm;have e1:(p:Int)+1=((p+1:Nat):Int):=by omega
   have j0:(0:Int)≤j:=by omega
   clear hy hmj hend HO1 GA LL HP;obtain⟨p1,hp1'⟩:∃p1,p+1=p1:=⟨_,rfl⟩;rw[hp1']at e1 CM HP2;have hb1:p1≤1000000001:=by omega
   clear hp1';unfold hfm at c0;have n0:((p:Int) !=(p:Int))=false:=by simp
   go_wp2_with fail;refine CM.out.mono ?_;rintro e w5 ⟨rfl,b5⟩;have HW5:=hide (HW.out.trans (b5.mono HW.out.size));clear CM b5 HW;obtain⟨p3,hp3⟩:∃p3,p1+m=p3:=⟨_,rfl⟩;have m0:¬((p3:Int)<0):=by omega
   rw[hp3]at HP2⊢;clear hp3 c0 c1;go_wp2;go_roundw
   case rel=>exact⟨j+1,p3,by omega,by go_num,by first|rfl|go_num,HP2,HW5⟩
   case measure=>simp[intOf];omega
  ·have hje:j=ys.length:=by have:=HN.out;omega
   have hP:=HP.out;rw[hje,List.take_length]at hP;have E:Hid ((p:Int)=((uend 1 ys:Nat):Int)):=by show _=_;rw[hP]
   clear hje hP HP;go_wp2;go_ret;exact⟨congrArg (fun x=>Ending.returned (.int .i64 x)) E.out,HW.out⟩
def hend:Nat→List Sh→Nat
 |k,[]=>k
 |k,t::l=>hend (k+1+t.texts.length) l
def htexts(l:List Sh):Nat:=(l.map (fun t=>t.texts.length)).sum
theorem hend_eq:∀(l:List Sh) (k:Nat),hend k l=k+l.length+htexts l:=by
 intro l
 induction l with
 |nil=>intro k;simp[hend,htexts]
 |cons t l ih=>intro k;rw[hend,ih,List.length_cons];unfold htexts;rw[List.map_cons,List.sum_cons];omega
theorem uend_hend:∀(rs:List Hw) (k:Nat),uend k (rs.map uOf)=hend k (rs.map htell):=by
 intro rs
 induction rs with
 |nil=>intro k;rfl
 |cons r rs ih=>intro k;simp only[List.map_cons,uend,hend,ih];rfl
def OkH(M:List Sh):Prop:=M.length≤1048580∧(∀t∈M,t.texts.length≤1048576)∧hend 1 M≤1000000000
theorem OkH.of{M:List Sh}(h1:M.length≤1048580)(h2:htexts M≤100000000)(h3:∀t∈M,t.texts.length≤1048576):OkH M:=
 ⟨h1,h3,by rw[hend_eq];omega⟩
def MSh(lo hi:Nat)(v:Value)(m:Nat):World→Prop:=fun W=>∃ys:List Uw,ys.length≤1048580∧(∀y∈ys,y.2.2.1≤1048576)∧uend 1 ys=m∧UIn lo hi v (umk 1 ys) W
theorem MSh.loc(lo hi:Nat)(v:Value)(m:Nat):Loc lo hi (MSh lo hi v m):=by
 rintro w w' hk ⟨ys,h1,h2,h3,h4⟩;exact⟨ys,h1,h2,h3,UIn.loc _ _ _ _ w w' hk h4⟩
theorem OkH.row{M:List Sh}{rs:List Hw}(ho:OkH M)(hr:rs.map htell=M):rs.length≤1048580∧∀r∈rs,r.2.2.length≤1048576:=by
 refine⟨by have:=congrArg List.length hr;simp only[List.length_map]at this;rw[this];exact ho.1,fun r hr2=>?_⟩
 exact ho.2.1 (htell r) (by rw[←hr];exact List.mem_map.2 ⟨r,hr2,rfl⟩)
def ShOut(w:World)(M:List Sh)(e:Ending)(w':World):Prop:=
 ∃uv rs,e=.returned uv∧HOwn w' w.heap.size uv rs∧rs.map htell=M∧Below w.heap.size w w'
theorem ShOut.tk{w wi w':World}{hs:List Hold}{M:List Sh}{n:Nat}{e:Ending}(h:ShOut wi M e w')(T:Tk w wi hs)(hn:M.length=n):
 ∃ad c,e=.returned (.slice ad n c)∧Tk w w' ((wi.heap.size,w'.heap.size,Shs wi.heap.size w'.heap.size (.slice ad n c) M)::hs)∧wi.heap.size≤w'.heap.size:=by
 obtain⟨uv,rs,rfl,ho,ht,hb⟩:=h;obtain⟨ad,c,rfl⟩:=ho.form;have hl:rs.length=n:=by have:=congrArg List.length ht;rw[List.length_map,hn]at this;exact this
 rw[hl]at ho⊢;have hk:=ho.kns;exact⟨ad,c,rfl,T.add hb (Shs.loc _ _ _ _) ⟨rs,ht,hk⟩,hb.size⟩
theorem eqsh_tk{w wi:World}{hs:List Hold}{a b:Value}{M:List Sh}{l1 h1 l2 h2:Nat}(T:Tk w wi hs)(n1 n2:Nat)(ho:OkH M)(e1:hs[n1]?=some (l1,h1,Shs l1 h1 a M))(e2:hs[n2]?=some (l2,h2,Shs l2 h2 b M)):
 Calls Tryz.prog 13 #[a,b] wi fun e w'=>e=.returned (.bool true)∧Tk w w' hs∧wi.heap.size≤w'.heap.size:=by
 obtain⟨rs,hr,hx⟩:=T.get n1 e1;obtain⟨ss,hs',hy⟩:=T.get n2 e2;obtain⟨q1,q2⟩:=ho.row hr;refine(eqShs_same a b rs ss l1 h1 l2 h2 wi (by omega) (fun r hr=>by have:=q2 r hr;omega) hx hy (by rw[hr,hs'])).mono ?_
 rintro e w' ⟨rfl,hb⟩;exact⟨rfl,T.below hb,hb.size⟩
theorem marksh_tk{w wi:World}{hs hs':List Hold}{a:Value}{M:List Sh}{m l1 h1:Nat}(T:Tk w wi hs)(n1:Nat)(ho:OkH M)(hm:hend 1 M=m)(hlo:w.heap.size≤l1)(e1:hs[n1]?=some (l1,h1,Shs l1 h1 a M))(hh:∀x∈hs',x∈hs∧(x.2.1≤l1∨h1≤x.1)):
 Calls Tryz.prog 16 #[a,.int .i64 1] wi fun e w'=>e=.returned (.int .i64 (m:Int))∧Tk w w' ((l1,h1,MSh l1 h1 a m)::hs')∧wi.heap.size≤w'.heap.size:=by
 obtain⟨rs,hr,hx⟩:=T.get n1 e1;obtain⟨q1,q2⟩:=ho.row hr;have hll:∀y∈rs.map uOf,y.2.2.1≤1048576∧y.2.2.2.length=y.2.2.1:=by
  intro y hy;obtain⟨r,hr2,rfl⟩:=List.mem_map.1 hy;exact⟨q2 r hr2,by simp[uOf,zcells]⟩
 have he:uend 1 (rs.map uOf)=m:=by rw[uend_hend,hr,hm]
 refine(markShs_any l1 h1 a (rs.map uOf) wi (by rw[List.length_map];exact q1) hll (by rw[he,←hm];exact ho.2.2) (T.hi n1 e1) hx.v).mono ?_
 rintro e w' ⟨rfl,hy,hk⟩;rw[he];exact⟨rfl,T.touch hk.out hlo (T.hi n1 e1) (MSh.loc _ _ _ _) ⟨rs.map uOf,by rw[List.length_map];exact q1,fun y hy=>(hll y hy).1,he,hy.out⟩ hh,hk.out.2.2.2.1⟩
theorem heldsh_tk{w wi:World}{hs:List Hold}{a:Value}{m l1 h1:Nat}(T:Tk w wi hs)(n1:Nat)(hm:m≤1000000000)(e1:hs[n1]?=some (l1,h1,MSh l1 h1 a m)):
 Calls Tryz.prog 17 #[a,.int .i64 1] wi fun e w'=>e=.returned (.int .i64 (m:Int))∧Tk w w' hs∧wi.heap.size≤w'.heap.size:=by
 obtain⟨ys,h2,h3,h4,h5⟩:=T.get n1 e1;have:=heldShs_any l1 h1 a ys wi h2 h3 (by omega) (T.hi n1 e1) h5
 rw[h4]at this;refine this.mono ?_;rintro e w' ⟨rfl,hb⟩;exact⟨rfl,T.below hb,hb.size⟩
def ShFil(W:World)(B:Nat)(v:Value)(n:Nat)(ss:List Hw)(zs:List Value):Prop:=
 W.ownsRow B 75 2 v n (shcells ss++zs)∧(∀r∈ss,Sli 9 B W.heap.size r.2.1 r.2.2.length (zcells r.2.2) W∧r.2.2.length≤maxLen)∧HLone ss
theorem ShFil.below{W W':World}{B n:Nat}{v:Value}{ss:List Hw}{zs:List Value}(h:ShFil W B v n ss zs)(b:Below W.heap.size W W'):ShFil W' B v n ss zs:=
 ⟨own_below h.1 b,fun r hr=>⟨((h.2.1 r hr).1.blw b).up b.size,(h.2.1 r hr).2⟩,h.2.2⟩
theorem ShFil.own{W:World}{B:Nat}{v:Value}{ss:List Hw}(h:ShFil W B v ss.length ss []):HOwn W B v ss:=⟨by have:=h.1;rwa [List.append_nil]at this,h.2⟩
theorem sh_far{w:World}{g lo hi n:Nat}{v:Value}{xs:List Value}{cs:Array Value}(h:Sli 9 lo hi v n xs w)(q:w.heap[g]?=some (.cells cs 75 (0,0))):v.ownBlock≠some g:=by
 intro e;obtain⟨-,-,cs',q'⟩:=h.lt g e;exact str_ne_sh q' q
theorem Sli.setH{w:World}{g lo hi n j:Nat}{v u:Value}{xs:List Value}{cs:Array Value}(h:Sli 9 lo hi v n xs w)(q:w.heap[g]?=some (.cells cs 75 (0,0))):Sli 9 lo hi v n xs (w.setCell ⟨g,j,none⟩ u):=
 h.grown (grown_cell w g j u) (fun k hk e=>by cases e;exact sh_far h q hk)
theorem ShFil.set{W:World}{B n g cap j:Nat}{ss:List Hw}{zs:List Value}{u:Value}{ys:List Value}(h:ShFil W B (.slice (some ⟨g,0,none⟩) n cap) n ss zs)(e:(shcells ss++zs).set j u=shcells ss++ys):ShFil (W.setCell ⟨g,j,none⟩ u) B (.slice (some ⟨g,0,none⟩) n cap) n ss ys:=by
 obtain⟨-,-,cs,q⟩:=own_kind h.1 g rfl;refine⟨by rw[←e];exact fown_set h.1 rfl j u,fun r hr=>⟨?_,(h.2.1 r hr).2⟩,h.2.2⟩
 have hz:(W.setCell ⟨g,j,none⟩ u).heap.size=W.heap.size:=by simp[World.setCell]
 rw[hz];exact(h.2.1 r hr).1.setH q
theorem ShFil.take{W0 W:World}{B n g cap:Nat}{ss:List Hw}{zs:List Value}{lf:Int}{kv:Value}{ls:List ByteArray}(h0:∀r∈ss,∀q,r.2.1.ownBlock=some q→q<W0.heap.size)(hB:B≤W0.heap.size)(h:ShFil W B (.slice (some ⟨g,0,none⟩) n cap) n ss (.int .i64 lf::kv::zs))(hr:Sli 9 W0.heap.size W.heap.size kv ls.length (zcells ls) W)(hm:ls.length≤maxLen):ShFil W B (.slice (some ⟨g,0,none⟩) n cap) n (ss++[(lf,kv,ls)]) zs:=by
 refine⟨?_,?_,?_⟩
 ·have:=h.1;rw[←shcells_snoc,List.append_assoc];exact this
 ·intro r hr2;rcases List.mem_append.1 hr2 with hr2|hr2
  ·exact h.2.1 r hr2
  ·simp only[List.mem_singleton]at hr2;subst hr2;exact⟨hr.dn hB,hm⟩
 ·refine List.pairwise_append.2 ⟨h.2.2,List.pairwise_singleton _ _,?_⟩;intro a ha b hb q e1 e2;simp only[List.mem_singleton]at hb;subst hb;have q1:=h0 a ha q e1;have q2:=(hr.lt q e2).1;omega
theorem ShFil.lt{W:World}{B n:Nat}{v:Value}{ss:List Hw}{zs:List Value}(h:ShFil W B v n ss zs):∀r∈ss,∀q,r.2.1.ownBlock=some q→q<W.heap.size:=fun r hr q hq=>((h.2.1 r hr).1.lt q hq).2.1
theorem sh_even{ss:List Hw}{k:Nat}(hk:ss.length=k)(a b u:Value)(zs:List Value):(shcells ss++a::b::zs).set (k*2) u=shcells ss++u::b::zs:=by
 rw[List.set_append_right _ _ (by rw[shcells_len,hk];exact Nat.le_refl _),shcells_len,hk,Nat.sub_self]
 rfl
theorem sh_odd{ss:List Hw}{k:Nat}(hk:ss.length=k)(a b u:Value)(zs:List Value):(shcells ss++a::b::zs).set (k*2+1) u=shcells ss++a::u::zs:=by
 rw[List.set_append_right _ _ (by rw[shcells_len,hk];omega),shcells_len,hk,show k*2+1-k*2=1 by omega]
 rfl
theorem ShFil.cell0{W:World}{B n g cap k:Nat}{ss:List Hw}{a b:Value}{zs:List Value}(h:ShFil W B (.slice (some ⟨g,0,none⟩) n cap) n ss (a::b::zs))(hk:ss.length=k):W.cell? ⟨g,k*2,none⟩=some a:=by
 rw[←addr_at];refine h.1.cells (g:=g) rfl (k*2) a ?_;rw[List.getElem?_append_right (by rw[shcells_len,hk];exact Nat.le_refl _),shcells_len,hk,Nat.sub_self]
 rfl
theorem ShFil.cell1{W:World}{B n g cap k:Nat}{ss:List Hw}{a b:Value}{zs:List Value}(h:ShFil W B (.slice (some ⟨g,0,none⟩) n cap) n ss (a::b::zs))(hk:ss.length=k):W.cell? ⟨g,k*2+1,none⟩=some b:=by
 rw[←addr_at];refine h.1.cells (g:=g) rfl (k*2+1) b ?_;rw[List.getElem?_append_right (by rw[shcells_len,hk];omega),shcells_len,hk,show k*2+1-k*2=1 by omega]
 rfl
theorem ShFil.fr{W:World}{B n g cap:Nat}{ss:List Hw}{zs:List Value}(h:ShFil W B (.slice (some ⟨g,0,none⟩) n cap) n ss zs)(j:Nat):W.frozen? ⟨g,j,none⟩=false:=by
 obtain⟨-,-,cs,q⟩:=own_kind h.1 g rfl;exact frozen_of_row _ _ j _ _ q
theorem sh_new(W:World)(x:Int)(v:Value):∀(j:Nat) (u:Value),[Value.int .i64 x,v][j]?=some u→(W.alloc (.cells #[.int .i64 x,v] 75)).cell? ((⟨W.heap.size,0,none⟩:Addr).add j)=some u:=by
 intro j u hj
 match j,hj with
 |0,hj|1,hj=>
  simp at hj;subst hj;simp[Addr.add]
theorem sh_one(x:Int)(va:Option Addr)(n c:Nat):∀u∈ [Value.int .i64 x,Value.slice va n c],u.oneCell'=true:=by
 intro u hu;simp at hu;rcases hu with h|h<;>subst h<;>rfl
def HcSt(w W:World)(ov:Value)(ss:List Hw):Prop:=HOwn W w.heap.size ov ss∧Below w.heap.size w W
theorem new_shelf(W:World)(x:Int)(v:Value)(n:Nat)(hn:W.heap.size=n):∀(j:Nat) (u:Value),[Value.int .i64 x,v][j]?=some u→(W.alloc (.cells #[.int .i64 x,v] 75)).cell? ((⟨n,0,none⟩:Addr).add j)=some u:=by
 subst hn;exact sh_new W x v
end Go.Proofs.YtiicghepilbgfaaGreatDoor
