/-
  OpenF; FMark
-/
import Derived.Test.YtiicghepilbgfaaGreatDoorPk9
import Derived.ProofKit
import Derived.OpenShut
import Derived.ShutString
import Derived.Deep.Strs
import Derived.Deep.Slices
import Derived.Test.YtiicghepilbgfaaGreatDoorPk0
set_option maxHeartbeats 1000000
set_option maxRecDepth 100000
namespace Go.Proofs.YtiicghepilbgfaaGreatDoor
open Go.ChangeShapes Go.WideShapes Go.ChangeAt Go.RowKit Go.Deep
def LfRow(w:World)(a:Option Addr)(len:Nat)(ls:List (Int×ByteArray)):Prop:=
 ls.length=len∧len≤maxLen∧(∀t∈ls,t.2.size≤maxLen)∧(0<len→∃b off,a=some ⟨b,off,none⟩∧b<w.heap.size∧∀i t,ls[i]?=some t→
  w.cell? ⟨b,off+i*2,none⟩=some (.int .i64 t.1)∧w.cell? ⟨b,off+i*2+1,none⟩=some (.string t.2))
def BkOne(w:World)(r:Rw):Prop:=∃a n cap,r.2.2.1=.slice a n cap∧LfRow w a n r.2.2.2
def BkRow(w:World)(a:Option Addr)(len:Nat)(rs:List Rw):Prop:=
 rs.length=len∧len≤maxLen∧(∀r∈rs,BkOne w r)∧(0<len→∃b off,a=some ⟨b,off,none⟩∧b<w.heap.size∧∀i r,rs[i]?=some r→
  w.cell? ⟨b,off+i*3,none⟩=some (.bool r.1)∧w.cell? ⟨b,off+i*3+1,none⟩=some (.int .i64 r.2.1)∧w.cell? ⟨b,off+i*3+2,none⟩=some r.2.2.1)
theorem LfRow.below{w w':World}{a:Option Addr}{len:Nat}{ls:List (Int×ByteArray)}(h:LfRow w a len ls)(hb:Below w.heap.size w w'):LfRow w' a len ls:=by
 refine⟨h.1,h.2.1,h.2.2.1,fun h0=>?_⟩
 obtain⟨b,off,e,hlt,hc⟩:=h.2.2.2 h0;refine⟨b,off,e,Nat.lt_of_lt_of_le hlt hb.size,fun i t ht=>?_⟩
 have:=hc i t ht;rw[hb.cell (p:=⟨b,_,none⟩) hlt,hb.cell (p:=⟨b,_,none⟩) hlt];exact this
theorem BkOne.below{w w':World}{r:Rw}(h:BkOne w r)(hb:Below w.heap.size w w'):BkOne w' r:=by
 obtain⟨a,n,cap,e,hl⟩:=h;exact⟨a,n,cap,e,hl.below hb⟩
theorem BkRow.below{w w':World}{a:Option Addr}{len:Nat}{rs:List Rw}(h:BkRow w a len rs)(hb:Below w.heap.size w w'):BkRow w' a len rs:=by
 refine⟨h.1,h.2.1,fun r hr=>(h.2.2.1 r hr).below hb,fun h0=>?_⟩
 obtain⟨b,off,e,hlt,hc⟩:=h.2.2.2 h0;refine⟨b,off,e,Nat.lt_of_lt_of_le hlt hb.size,fun i t ht=>?_⟩
 have:=hc i t ht;rw[hb.cell (p:=⟨b,_,none⟩) hlt,hb.cell (p:=⟨b,_,none⟩) hlt,hb.cell (p:=⟨b,_,none⟩) hlt];exact this
section
variable {H : Type} {enc : TypeId × Value → H} {w : World} {base : Nat} {sp : Nat → Bool} {held : Bool}
theorem fcells9:Tryz.prog.cellsOf 9=1:=by kernel_rfl
theorem fcells3:Tryz.prog.cellsOf 3=1:=by kernel_rfl
theorem fcells4:Tryz.prog.cellsOf 4=1:=by kernel_rfl
theorem fcellsLs:Tryz.prog.cellsOf 125=1:=by kernel_rfl
theorem fcellsLf:Tryz.prog.cellsOf 194=2:=by kernel_rfl
theorem fcellsBk:Tryz.prog.cellsOf 127=3:=by kernel_rfl
theorem faddr_off(b off j:Nat):(⟨b,off,none⟩:Addr).add j=⟨b,off+j,none⟩:=by
 simp only[Addr.add];split<;>simp_all
theorem open_leaves{fuel:Nat}{cs:List Value}{x:DataW H×List MemPlace}(hf:DataW.trod enc Tryz.prog w base sp held fuel 125 cs=some x):∃a len cap ls,cs=[.slice a len cap]∧LfRow w a len ls:=by
 rcases open_slice Tryz.underlying125 hf with⟨hcs,_⟩|⟨x,len,c,m,n,D,Pl,hcs,_,hl,hm,hmm,_,hx⟩
 ·exact⟨none,0,0,[],hcs,rfl,by omega,by simp,fun h=>by omega⟩
 ·have hlm:len≤m:=by rw[hmm];split<;>omega
  have each:∀i,i<len→∃t:Int×ByteArray,w.cell? (x.add (i*2))=some (.int .i64 t.1)∧w.cell? (x.add (i*2+1))=some (.string t.2)∧t.2.size≤maxLen:=by
   intro i hi;obtain⟨cs,h1,h2⟩:=hx i (by omega)
   rw[fcellsLf]at h1;obtain⟨_,hlen,hcell⟩:=World.cells?_some h1;obtain⟨y0,y1,k,_,_,g0,g1⟩:=trod_struct2 Tryz.underlying194 h2;simp only[fcells9,fcells3]at g0 g1
   match cs,hlen with
   | [u,v],_=>
    obtain⟨p,e0,_,_⟩:=DataW.trod_int Tryz.underlying3 g0;obtain⟨s,e1,_,hs⟩:=DataW.trod_string Tryz.underlying9 g1;simp at e0 e1;subst e0 e1;have f0:=hcell 0 (by simp)
    have f1:=hcell 1 (by simp)
    rw[add_add]at f0 f1;exact⟨(p,s),by simpa using f0,by simpa using f1,hs⟩
  obtain⟨f,hq⟩:=choose_lt each;refine⟨some x,len,c,(List.range len).map f,hcs,by simp,by omega,?_,fun h0=>?_⟩
  ·intro t ht;obtain⟨i,hi,rfl⟩:=List.mem_map.1 ht;exact(hq i (List.mem_range.1 hi)).2.2
  ·obtain⟨b,off,spot⟩:=x;have hspot:spot=none:=by simpa[Addr.add]using World.cell?_spot (hq 0 h0).1
   subst hspot;refine⟨b,off,rfl,?_,fun i t hi=>?_⟩
   ·have:=World.block_lt_of_cell? w _ (hq 0 h0).1;rw[faddr_off]at this;exact this
   ·obtain⟨hi1,hi2⟩:=List.getElem?_eq_some_iff.1 hi;have hil:i<len:=by simpa using hi1
    have ht:t=f i:=by rw[←hi2];simp
    subst ht;have:=hq i hil;rw[faddr_off,faddr_off]at this;exact⟨this.1,this.2.1⟩
theorem open_block{fuel:Nat}{cs:List Value}{x:DataW H×List MemPlace}(hf:DataW.trod enc Tryz.prog w base sp held fuel 127 cs=some x):∃r:Rw,cs=[.bool r.1,.int .i64 r.2.1,r.2.2.1]∧BkOne w r:=by
 obtain⟨y0,y1,y2,k,_,hlen,g0,g1,g2⟩:=trod_struct3 Tryz.underlying127 hf;simp only[fcells4,fcells3,fcellsLs]at g0 g1 g2;rw[fcellsBk]at hlen
 match cs,hlen with
 | [u,v,z],_=>
  obtain⟨p,e0,_⟩:=DataW.trod_bool Tryz.underlying4 g0;obtain⟨q,e1,_,_⟩:=DataW.trod_int Tryz.underlying3 g1;obtain⟨a,n,cap,ls,e2,hl⟩:=open_leaves g2;simp at e0 e1 e2;subst e0 e1 e2;exact⟨(p,q,.slice a n cap,ls),rfl,a,n,cap,rfl,hl⟩
theorem open_blocks{fuel:Nat}{cs:List Value}{x:DataW H×List MemPlace}(hf:DataW.trod enc Tryz.prog w base sp held fuel 33 cs=some x):∃a len cap rs,cs=[.slice a len cap]∧BkRow w a len rs:=by
 rcases open_slice Tryz.underlying33 hf with⟨hcs,_⟩|⟨x,len,c,m,n,D,Pl,hcs,_,hl,hm,hmm,_,hx⟩
 ·exact⟨none,0,0,[],hcs,rfl,by omega,by simp,fun h=>by omega⟩
 ·have hlm:len≤m:=by rw[hmm];split<;>omega
  have each:∀i,i<len→∃r:Rw,w.cell? (x.add (i*3))=some (.bool r.1)∧w.cell? (x.add (i*3+1))=some (.int .i64 r.2.1)∧w.cell? (x.add (i*3+2))=some r.2.2.1∧BkOne w r:=by
   intro i hi;obtain⟨cs,h1,h2⟩:=hx i (by omega)
   rw[fcellsBk]at h1;obtain⟨_,hlen,hcell⟩:=World.cells?_some h1;obtain⟨r,rfl,hr⟩:=open_block h2;have f0:=hcell 0 (by simp)
   have f1:=hcell 1 (by simp)
   have f2:=hcell 2 (by simp)
   rw[add_add]at f0 f1 f2;exact⟨r,by simpa using f0,by simpa using f1,by simpa using f2,hr⟩
  haveI:Inhabited Rw:=⟨(false,0,.slice none 0 0,[])⟩
  obtain⟨f,hq⟩:=choose_lt each;refine⟨some x,len,c,(List.range len).map f,hcs,by simp,by omega,?_,fun h0=>?_⟩
  ·intro t ht;obtain⟨i,hi,rfl⟩:=List.mem_map.1 ht;exact(hq i (List.mem_range.1 hi)).2.2.2
  ·obtain⟨b,off,spot⟩:=x;have hspot:spot=none:=by simpa[Addr.add]using World.cell?_spot (hq 0 h0).1
   subst hspot;refine⟨b,off,rfl,?_,fun i t hi=>?_⟩
   ·have:=World.block_lt_of_cell? w _ (hq 0 h0).1;rw[faddr_off]at this;exact this
   ·obtain⟨hi1,hi2⟩:=List.getElem?_eq_some_iff.1 hi;have hil:i<len:=by simpa using hi1
    have ht:t=f i:=by rw[←hi2];simp
    subst ht;have:=hq i hil;rw[faddr_off,faddr_off,faddr_off]at this;exact⟨this.1,this.2.1,this.2.2.1⟩
end
end Go.Proofs.YtiicghepilbgfaaGreatDoor
namespace Go.Proofs.YtiicghepilbgfaaGreatDoor
open Go.RowKit
def markLf(k i:Nat):Int×ByteArray:=(((k+2*i:Nat):Int),⟨(markL (k+2*i+1)).toArray⟩)
def marksL(k n:Nat):List (Int×ByteArray):=(List.range n).map (markLf k)
theorem marksL_len(k n:Nat):(marksL k n).length=n:=by simp[marksL]
theorem marksL_succ(k n:Nat):marksL k (n+1)=marksL k n++[markLf k n]:=by simp[marksL,List.range_succ]
def marksB:Nat→List Rw→List Rw
 |_,[]=> []
 |k,r::rs=>(decide (k % 3=0),((k+1:Nat):Int),r.2.2.1,marksL (k+2) r.2.2.2.length)::marksB (k+2+2*r.2.2.2.length) rs
def endB:Nat→List Rw→Nat
 |k,[]=>k
 |k,r::rs=>endB (k+2+2*r.2.2.2.length) rs
theorem marksB_len(k:Nat)(rs:List Rw):(marksB k rs).length=rs.length:=by
 induction rs generalizing k with
 |nil=>rfl
 |cons r rs ih=>simp[marksB,ih]
theorem endB_le(k:Nat)(rs:List Rw):k≤endB k rs:=by
 induction rs generalizing k with
 |nil=>exact Nat.le_refl _
 |cons r rs ih=>have:=ih (k+2+2*r.2.2.2.length);unfold endB;omega
theorem endB_snoc(k:Nat)(rs:List Rw)(r:Rw):endB k (rs++[r])=endB k rs+2+2*r.2.2.2.length:=by
 induction rs generalizing k with
 |nil=>rfl
 |cons a rs ih=>exact ih _
theorem marksB_snoc(k:Nat)(rs:List Rw)(r:Rw):marksB k (rs++[r])=marksB k rs++[(decide (endB k rs % 3=0),((endB k rs+1:Nat):Int),r.2.2.1,marksL (endB k rs+2) r.2.2.2.length)]:=by
 induction rs generalizing k with
 |nil=>rfl
 |cons a rs ih=>
  show _::marksB _ (rs++[r])=_::marksB _ rs++_;rw[ih];rfl
theorem endB_take(k:Nat)(rs:List Rw)(j:Nat):endB k (rs.take j)≤endB k rs:=by
 induction rs generalizing k j with
 |nil=>simp
 |cons r rs ih=>
  cases j with
  |zero=>exact endB_le k (r::rs)
  |succ j=>exact ih _ j
theorem marksB_set(k:Nat)(rs:List Rw)(j:Nat)(r:Rw)(h:rs[j]?=some r):(marksB k (rs.take j)++rs.drop j).set j (decide (endB k (rs.take j) % 3=0),((endB k (rs.take j)+1:Nat):Int),r.2.2.1,marksL (endB k (rs.take j)+2) r.2.2.2.length)=marksB k (rs.take (j+1))++rs.drop (j+1):=by
 obtain⟨h1,h2⟩:=List.getElem?_eq_some_iff.1 h;have hl:(marksB k (rs.take j)).length=j:=by rw[marksB_len,List.length_take];omega
 rw[List.take_succ_eq_append_getElem h1,h2,marksB_snoc,List.set_append_right _ _ (by omega),hl,Nat.sub_self,List.drop_eq_getElem_cons h1,List.set_cons_zero]
 simp
theorem lcells_set2(ls:List (Int×ByteArray))(k j:Nat)(hj:j<ls.length):
 ((lcells (marksL k j++ls.drop j)).set (j*2) (.int .i64 ((k+2*j:Nat):Int))).set (j*2+1) (.string ⟨(markL (k+2*j+1)).toArray⟩)=lcells (marksL k (j+1)++ls.drop (j+1)):=by
 have hm:(lcells (marksL k j)).length=j*2:=by rw[lcells_len,marksL_len]
 have e1:∀r,lcells (ls[j]::r)=[.int .i64 ls[j].1,.string ls[j].2]++lcells r:=fun r=>lcells_cons _ _
 have e2:lcells [markLf k j]=[.int .i64 ((k+2*j:Nat):Int),.string ⟨(markL (k+2*j+1)).toArray⟩]:=rfl;rw[marksL_succ,List.drop_eq_getElem_cons hj,lcells_app,lcells_app,lcells_app,e1,e2,List.set_append_right _ _ (by omega),List.set_append_right _ _ (by omega),hm,Nat.sub_self,Nat.add_sub_cancel_left,List.append_assoc]
 rfl
theorem markLeafS_any(a:Value)(ls:List (Int×ByteArray))(B k:Nat)(z:Int)(w:World)(hz:z=k)(hl:ls.length≤1048576)(hk0:0<k)(hk:k≤1000000010)(ha:w.ownsRow B 130 2 a ls.length (lcells ls)):
 Calls Tryz.prog 81 #[a,.int .i64 z] w fun e w'=>e=.returned (.int .i64 ((k+2*ls.length:Nat):Int))∧w'.ownsRow B 130 2 a ls.length (lcells (marksL k ls.length))∧w.grownBy w' a.ownBlock:=by
 subst hz;obtain⟨ad,capa,rfl,a1,a2,a3⟩:=frow_form ha;unfold maxLen at a2;have A3:=hide a3;have HA:=hide ha;clear a3 ha;go_enter Tryz.func81,Tryz.ntmps81;go_wp2;go_loopw [1,5] (fun kv iv wr=>∃j:Nat,j≤ls.length∧iv=.int .i64 j∧kv=.int .i64 ((k+2*j:Nat):Int)∧Hid (wr.ownsRow B 130 2 (.slice ad ls.length capa) ls.length (lcells (marksL k j++ls.drop j)))∧Hid (w.grownBy wr (Value.slice ad ls.length capa).ownBlock)) (fun _ iv _=>ls.length-(intOf iv).toNat)
 case atStart=>exact⟨0,Nat.zero_le _,rfl,rfl,HA,⟨rfl,rfl,rfl,Nat.le_refl _,fun _ _ _=>rfl⟩⟩
 case round=>
  obtain⟨j,hj,rfl,rfl,HO,HW⟩:=hrel;have hsz:=HW.out.size;by_cases hlt:(j:Int)<ls.length
  ·obtain⟨ga,rfl,g1,g2⟩:=A3.out (by omega)
   have hjl:j<ls.length:=by omega
   have hlj:(marksL k j++ls.drop j)[j]?=some ls[j]:=by
    rw[List.getElem?_append_right (by rw[marksL_len];omega),marksL_len,Nat.sub_self,List.getElem?_drop,Nat.add_zero,List.getElem?_eq_getElem hjl]
   obtain⟨c1,c2⟩:=lown_cells HO.out hlj;have f1:=HO.out.frozenAt (j*2);have o1:=fown_set HO.out rfl (j*2) (.int .i64 ((k+2*j:Nat):Int));have b1:=HW.out.trans (grown_cell wr ga (j*2) (.int .i64 ((k+2*j:Nat):Int)));obtain⟨p,hp⟩:∃p:Nat,p=k+2*j:=⟨_,rfl⟩;rw[←hp]at o1 b1⊢;have O1:=hide o1;have B1:=hide b1;have HP:=hide hp;have hp0:0<p:=by omega
   have hp1:p≤1002097162:=by omega
   have j0:(0:Int)≤j:=by omega
   clear hlj o1 b1 hp HO HW;go_wp2_with fail;refine(markText_int ((p:Int)+1) (p+1) (by omega) _ (by omega) (by omega)).mono ?_
   rintro e w1 ⟨rfl,hb⟩;have o3:=own_below O1.out hb;have hz:∃u,w1.cell? ⟨ga,j*2+1,none⟩=some u:=by
    have hz1:j*2+1<((lcells (marksL k j++ls.drop j)).set (j*2) (Value.int .i64 (p:Int))).length:=by
     rw[List.length_set,lcells_len,List.length_append,marksL_len,List.length_drop];omega
    have:=o3.cells (g:=ga) rfl (j*2+1) _ (List.getElem?_eq_getElem hz1);rw[addr_at]at this;exact⟨_,this⟩
   obtain⟨u,hu⟩:=hz;have f3:=o3.frozenAt (j*2+1);have o4:=fown_set o3 rfl (j*2+1) (.string ⟨(markL (p+1)).toArray⟩);have b4:=(B1.out.trans (grown_old hb _)).trans (grown_cell w1 ga (j*2+1) (.string ⟨(markL (p+1)).toArray⟩));rw[HP.out,lcells_set2 ls k j hjl]at o4;rw[←HP.out]at o4;obtain⟨t,ht⟩:∃t,markL (p+1)=t:=⟨_,rfl⟩;rw[ht]at o4 b4;rw[ht];have O4:=hide o4;have B4:=hide b4;have hq2:Hid ((p:Int)+1+1=((k+2*(j+1):Nat):Int)):=by have:=HP.out;show _=_;omega
   clear ht o3 o4 b4 hb O1 B1 c1 c2 f1 HP;go_wp2;go_roundw
   case rel=>exact⟨j+1,by omega,by go_num,(by rw[←hq2.out]),O4,B4⟩
   case measure=>simp[intOf];omega
  ·have hje:j=ls.length:=by omega
   have hO:=HO.out;rw[hje,List.drop_length,List.append_nil]at hO;have HO2:=hide hO;have E:Hid (((k+2*j:Nat):Int)=((k+2*ls.length:Nat):Int)):=by show _=_;rw[hje]
   clear hO hje HO;go_wp2;go_ret;exact⟨congrArg (fun x=>Ending.returned (.int .i64 x)) E.out,HO2.out,HW.out⟩
def Apart(lo hi i:Nat):Prop:=¬(lo≤i∧i<hi)
theorem markBlockS_any(a:Value)(rs:List Rw)(lo hi:Nat)(w:World)(hl:rs.length≤1048576)(hll:∀r∈rs,r.2.2.2.length≤1048576)(he:endB 1 rs≤1000000000)(ha:FlashIn w lo hi a rs):
 Calls Tryz.prog 56 #[a,.int .i64 1] w fun e w'=>e=.returned (.int .i64 ((endB 1 rs:Nat):Int))∧Hid (FlashIn w' lo hi a (marksB 1 rs))∧Hid (Kept2 w w' (Apart lo hi)):=by
 have hown:=ha.1;obtain⟨ad,capa,rfl,a1,a2,a3⟩:=frow_form hown;unfold maxLen at a2;have A3:=hide a3;have HA:=hide ha;have HLL:=hide hll;have HE:=hide he;clear a3 ha hll hown;go_enter Tryz.func56,Tryz.ntmps56;go_wp2;go_loopw [1,5] (fun kv iv wr=>∃j p:Nat,j≤rs.length∧iv=.int .i64 j∧kv=.int .i64 (p:Int)∧Hid (p=endB 1 (rs.take j))∧Hid (FlashIn wr lo hi (.slice ad rs.length capa) (marksB 1 (rs.take j)++rs.drop j))∧Hid (Kept2 w wr (Apart lo hi))) (fun _ iv _=>rs.length-(intOf iv).toNat)
 case atStart=>exact⟨0,1,Nat.zero_le _,rfl,rfl,rfl,HA,Kept2.refl _ _⟩
 case round=>
  obtain⟨j,p,hj,rfl,rfl,HP,HO,HW⟩:=hrel;have hp0:0<p:=by have:=endB_le 1 (rs.take j);have:=HP.out;omega
  have hp1:p≤1000000000:=by have:=endB_take 1 rs j;have:=HP.out;omega
  by_cases hlt:(j:Int)<rs.length
  ·obtain⟨ga,rfl,g1,g2⟩:=A3.out (by omega)
   have hjl:j<rs.length:=by omega
   obtain⟨x,y,u,ls,hr⟩:∃x y u ls,rs[j]?=some (x,y,u,ls):=⟨rs[j].1,rs[j].2.1,rs[j].2.2.1,rs[j].2.2.2,List.getElem?_eq_getElem hjl⟩;have hlm:(marksB 1 (rs.take j)).length=j:=by rw[marksB_len,List.length_take];omega
   obtain⟨cur,hcur⟩:∃cur,marksB 1 (rs.take j)++rs.drop j=cur:=⟨_,rfl⟩;have hcl:cur.length=rs.length:=by rw[←hcur,List.length_append,hlm,List.length_drop];omega
   have hcj:cur[j]?=some (x,y,u,ls):=by
    rw[←hcur,List.getElem?_append_right (by omega),hlm,Nat.sub_self,List.getElem?_drop,Nat.add_zero,hr]
   have hms:=marksB_set 1 rs j _ hr;rw[hcur,←HP.out]at hms;simp only at hms;rw[hcur]at HO;have hg2:ga<hi:=HO.out.2.1 ga rfl;obtain⟨z,hz⟩:∃z:Bool,((p:Int) % 3==0)=z:=⟨_,rfl⟩;have hz2:z=decide (p % 3=0):=by
    rw[←hz];by_cases h3:p % 3=0
    ·rw[decide_eq_true h3,beq_iff_eq];omega
    ·rw[decide_eq_false h3,beq_eq_false_iff_ne];omega
   have HO0:=HO.out.1;rw[hcl]at HO0;obtain⟨c1,c2,c3⟩:=kown_cells (t:=(x,y,u)) HO0 (by rw[List.getElem?_map,hcj];rfl)
   simp only at c1 c2 c3;have f1:=HO0.frozenAt (j*3);have f2:=HO0.frozenAt (j*3+1)
   -- Bad
   have F1:=HO.out.bad hcl.symm hcj z;have hc1:(cur.set j (z,y,u,ls))[j]?=some (z,y,u,ls):=by rw[List.getElem?_set_self (by omega)]
   -- Wear
   have F2:=F1.wear (k:=j) (r:=(z,y,u,ls)) (by rw[List.length_set];exact hcl.symm) hc1 ((p:Int)+1)
   rw[List.set_set]at F2;simp only at F2;have hc2:(cur.set j (z,(p:Int)+1,u,ls))[j]?=some (z,(p:Int)+1,u,ls):=by rw[List.getElem?_set_self (by omega)]
   have LL:=F2.2.2.1 (z,(p:Int)+1,u,ls) (List.mem_of_getElem? hc2);simp only at LL;have hlsz:=HLL.out _ (List.mem_of_getElem? hr);simp only at hlsz;have K2:=HW.out.trans ((Kept2.grown (ok:=Apart lo hi) (grown_cell wr ga (j*3) (.bool z)) (fun i hi' hok=>by cases hi';exact hok ⟨g1,hg2⟩)).trans (Kept2.grown (grown_cell (wr.setCell ⟨ga,j*3,none⟩ (.bool z)) ga (j*3+1) (.int .i64 ((p:Int)+1))) (fun i hi' hok=>by cases hi';exact hok ⟨g1,hg2⟩)))
   obtain⟨W2,hW2⟩:∃W2,W2=(wr.setCell ⟨ga,j*3,none⟩ (.bool z)).setCell ⟨ga,j*3+1,none⟩ (.int .i64 ((p:Int)+1)):=⟨_,rfl⟩;have CM:Hid (Calls Tryz.prog 81 #[u,.int .i64 ((p:Int)+1+1)] W2 fun e w'=>e=.returned (.int .i64 (((p+2)+2*ls.length:Nat):Int))∧Hid (FlashIn w' lo hi (.slice (some ⟨ga,0,none⟩) rs.length capa) (marksB 1 (rs.take (j+1))++rs.drop (j+1)))∧Hid (Kept2 w w' (Apart lo hi))):=by
    rw[←hW2]at LL F2 K2;refine(markLeafS_any u ls lo (p+2) _ W2 (by omega) hlsz (by omega) (by omega) LL.1).mono ?_
    rintro e w' ⟨rfl,ho',hg'⟩;refine⟨rfl,?_,?_⟩
    ·have hLI:LeafIn w' lo hi u (marksL (p+2) ls.length):=⟨by rw[marksL_len];exact ho',LL.2⟩
     have F3:=F2.leaves (k:=j) hc2 hg' hLI;rw[List.set_set]at F3;simp only at F3;rw[hz2,show(p:Int)+1=((p+1:Nat):Int)by omega,hms]at F3
     exact F3
    ·exact K2.trans (Kept2.grown hg' (fun i hi' hok=>hok ⟨(LL.1.lt i hi').1,LL.2 i hi'⟩))
   rw[hW2]at CM;have HP2:Hid (p+2+2*ls.length=endB 1 (rs.take (j+1))):=by
    show _=_;obtain⟨e1,e2⟩:=List.getElem?_eq_some_iff.1 hr;rw[List.take_succ_eq_append_getElem e1,e2,endB_snoc,←HP.out]
   obtain⟨ua,uc,rfl,-⟩:=frow_form LL.1;have j0:(0:Int)≤j:=by omega
   clear hr hlm hcur hcl hcj hms hz2 HO0 F1 F2 hc1 hc2 LL K2 hW2 HO HW HP;go_wp2_with fail;refine CM.out.mono ?_;rintro e w5 ⟨rfl,HF5,HK5⟩;clear CM;go_wp2;go_roundw
   case rel=>exact⟨j+1,p+2+2*ls.length,by omega,by go_num,by first|rfl|go_num,HP2,HF5,HK5⟩
   case measure=>simp[intOf];omega
  ·have hje:j=rs.length:=by omega
   have hO:=HO.out;rw[hje,List.drop_length,List.append_nil,List.take_length]at hO;have hP:=HP.out;rw[hje,List.take_length]at hP;have HO2:=hide hO;have E:Hid ((p:Int)=((endB 1 rs:Nat):Int)):=by show _=_;rw[hP]
   clear hO hje HO hP HP;go_wp2;go_ret;exact⟨congrArg (fun x=>Ending.returned (.int .i64 x)) E.out,HO2,HW⟩
theorem markFlash_any(a:Value)(rs:List Rw)(lo hi:Nat)(w:World)(hl:rs.length≤1048576)(hll:∀r∈rs,r.2.2.2.length≤1048576)(he:endB 1 rs≤1000000000)(hh:hi≤w.heap.size)(ha:FlashIn w lo hi a rs):
 Calls Tryz.prog 32 #[.agg #[a],.int .i64 1] w fun e w'=>e=.returned (.int .i64 ((endB 1 rs:Nat):Int))∧Hid (FlashIn w' lo hi a (marksB 1 rs))∧Hid (Kept2 w w' (Apart lo hi)):=by
 have hown:=ha.1;obtain⟨ad,capa,rfl,-⟩:=frow_form hown;have HB:=hide ((Below.refl w.heap.size w).alloc (Nat.le_refl _) (.cells #[.slice ad rs.length capa] 49));have HA:=hide (ha.below HB.out hh);have HLL:=hide hll;clear ha hll hown;go_enter Tryz.func32,Tryz.ntmps32;go_wp2_with fail;refine(markBlockS_any _ rs lo hi _ hl HLL.out he HA.out).mono ?_;rintro e w1 ⟨rfl,HF,HK⟩;have HK2:=hide ((Kept2.below HB.out).trans HK.out);clear HK;go_wp2;go_ret;exact⟨rfl,HF,HK2⟩
end Go.Proofs.YtiicghepilbgfaaGreatDoor
