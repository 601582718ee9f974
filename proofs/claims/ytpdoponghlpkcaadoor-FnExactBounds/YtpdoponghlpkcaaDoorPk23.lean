/-
  FdC; FdR; ReadM; IRead; PgV; IPageOk
-/
import Derived.Test.YtpdoponghlpkcaaDoorPk0
import Derived.Test.YtpdoponghlpkcaaDoorPk2
import Derived.Test.YtpdoponghlpkcaaDoorPk8
import Derived.Test.YtpdoponghlpkcaaDoorPk5
import Derived.Test.YtpdoponghlpkcaaDoorPk7
import Derived.Test.YtpdoponghlpkcaaDoorPk6
set_option maxHeartbeats 400000
set_option maxRecDepth 100000
namespace Go.Proofs.YtpdoponghlpkcaaDoor
open Go.RowKit
open Words
def fdVal(x:Fnd):Value:=.agg #[.int .i64 x.block,.int .i64 x.leaf,.int .i64 x.page.kind,.int .i64 x.page.seq,.int .i64 x.page.tx,.int .i64 x.page.part,.int .i64 x.page.count,.string x.page.text]
def fdCells(x:Fnd):List Value:=[.int .i64 x.block,.int .i64 x.leaf,.int .i64 x.page.kind,.int .i64 x.page.seq,.int .i64 x.page.tx,.int .i64 x.page.part,.int .i64 x.page.count,.string x.page.text]
theorem infoFound:(Tryd.prog.info? 74).map (fun i=>(i.zero,i.size,i.bytes))=some (some (.agg #[.int .i64 0,.int .i64 0,.int .i64 0,.int .i64 0,.int .i64 0,.int .i64 0,.int .i64 0,.string ⟨#[]⟩]),8,72):=by kernel_rfl
def fcells(l:List Fnd):List Value:=l.flatMap fdCells
theorem fcells_snoc(l:List Fnd)(x:Fnd):fcells l++fdCells x=fcells (l++[x]):=by simp[fcells]
theorem fd_one(x:Fnd):∀u∈fdCells x,u.oneCell'=true:=by
 intro u hu;simp[fdCells]at hu;rcases hu with h|h|h|h|h|h|h|h<;>subst h<;>rfl
theorem fcells_at:∀(l:List Fnd) (i:Nat) (x:Fnd),l[i]?=some x→∀j v,(fdCells x)[j]?=some v→(fcells l)[i*8+j]?=some v:=by
 intro l
 induction l with
 |nil=>intro i x h;simp at h
 |cons y l ih=>
  intro i x h j v hv;have hj:j<8:=(List.getElem?_eq_some_iff.1 hv).1;have e:fcells (y::l)=fdCells y++fcells l:=by simp[fcells]
  rw[e];cases i with
  |zero=>
   simp at h;subst h;rw[List.getElem?_append_left (by show 0*8+j<8;omega)]
   simpa using hv
  |succ i=>
   rw[List.getElem?_cons_succ]at h;rw[List.getElem?_append_right (by show 8≤(i+1)*8+j;omega)]
   have:(i+1)*8+j-(fdCells y).length=i*8+j:=by show(i+1)*8+j-8=_;omega
   rw[this];exact ih i x h j v hv
def FdRd(w:World)(a:Option Addr)(len:Nat)(ls:List Fnd):Prop:=
 ls.length=len∧len≤maxLen∧(0<len→∃b off,a=some ⟨b,off,none⟩∧b<w.heap.size∧∀i t,ls[i]?=some t→∀j v,(fdCells t)[j]?=some v→w.cell? ⟨b,off+(i*8+j),none⟩=some v)
end Go.Proofs.YtpdoponghlpkcaaDoor
namespace Go.Proofs.YtpdoponghlpkcaaDoor
theorem read_out{bs:List Bk}{b leaf:Int}(h:¬(0≤b∧b≤(bs.length:Int)-1)):readF bs b leaf=(⟨#[]⟩,false):=by
 unfold readF;cases hb:bs[b.toNat]? with
 |none=>rfl
 |some r=>
  have:=(List.getElem?_eq_some_iff.1 hb).1;simp only;cases hl:r.2.2[leaf.toNat]? with
  |none=>rfl
  |some t=>exact if_neg (fun hh=>h ⟨hh.1,by omega⟩)
theorem read_leaf_out{bs:List Bk}{k:Nat}{r:Bk}{leaf:Int}(hr:bs[k]?=some r)(h:¬(0≤leaf∧leaf≤(r.2.2.length:Int)-1)):readF bs (k:Int) leaf=(⟨#[]⟩,false):=by
 unfold readF;rw[Int.toNat_natCast,hr];simp only;cases hl:r.2.2[leaf.toNat]? with
 |none=>rfl
 |some t=>
  have:=(List.getElem?_eq_some_iff.1 hl).1;exact if_neg (fun hh=>h ⟨hh.2.1,by omega⟩)
theorem read_in{bs:List Bk}{k j:Nat}{r:Bk}{t:Int×ByteArray}(hr:bs[k]?=some r)(ht:r.2.2[j]?=some t):(t.1=1→readF bs (k:Int) (j:Int)=(t.2,true))∧(t.1≠1→readF bs (k:Int) (j:Int)=(⟨#[]⟩,false)):=by
 unfold readF;rw[Int.toNat_natCast,hr];simp only;rw[Int.toNat_natCast,ht];exact⟨fun h=>if_pos ⟨by omega,by omega,h⟩,fun h=>if_neg (fun hh=>h hh.2.2)⟩
end Go.Proofs.YtpdoponghlpkcaaDoor
namespace Go.Proofs.YtpdoponghlpkcaaDoor
open Go.RowKit
theorem iread_rd(v:Value)(rs:List Rw)(b leaf:Int)(w:World)(hl:rs.length≤1048576)(hll:∀r∈rs,r.2.2.2.length≤1048576)(htx:TxB rs)(ha:FlashRd w v rs):
 Calls Tryd.prog 45 #[.agg #[v],.int .i64 b,.int .i64 leaf] w fun e w'=>e=.returned (.tuple #[.string (readF (rs.map tellOf) b leaf).1,.bool (readF (rs.map tellOf) b leaf).2])∧Below w.heap.size w w':=by
 have h1:=ha;obtain⟨vd,vcap,rfl,-⟩:=h1;have HLL:=hide hll;have HTX:=hide htx;have HB0:=hide ((Below.refl w.heap.size w).alloc (Nat.le_refl _) (.cells #[.slice vd rs.length vcap] 37));have HA:=hide (ha.below HB0.out);clear ha hll htx;go_enter Tryd.func45,Tryd.ntmps45;go_wp2_with fail;generalize w.alloc (.cells #[.slice vd rs.length vcap] 37)=w2 at HB0 HA⊢;by_cases hb:0≤b∧b≤(rs.length:Int)-1
 ·obtain⟨k,rfl⟩:∃k:Nat,b=k:=⟨b.toNat,by omega⟩
  have hkl:k<rs.length:=by omega
  have hr:rs[k]?=some rs[k]:=List.getElem?_eq_getElem hkl;generalize rs[k]=r at hr;obtain⟨g,eg,-,-⟩:=HA.out.at hr;subst eg;refine(iat_in g rs.length vcap k _ hl hkl).mono ?_;rintro e w3 ⟨rfl,b3⟩;have HA3:=hide (HA.out.below b3);have HB3:=hide (HB0.out.trans (b3.mono HB0.out.size));have hmem:=List.mem_of_getElem? hr;have hrl:=HLL.out r hmem;have htx:=HTX.out r hmem;obtain⟨g',eg,⟨-,-,c3⟩,hlf⟩:=HA3.out.at hr;injection eg with eg
  injection eg with eg
  subst eg;have HBR:Hid ((rs.map tellOf)[k]?=some (tellOf r)):=by show _=_;rw[List.getElem?_map,hr];rfl
  obtain⟨x,y,u,ls⟩:=r;simp only at c3;simp only at hlf hrl htx;obtain⟨ld,capl,rfl,-,l3⟩:=hlf;have L3:=hide l3;have HTX2:=hide htx;clear hr hmem l3 hb b3 htx;by_cases hf:0≤leaf∧leaf≤(ls.length:Int)-1
  ·obtain⟨j,rfl⟩:∃j:Nat,leaf=j:=⟨leaf.toNat,by omega⟩
   have hjl:j<ls.length:=by omega
   obtain⟨z,t,ht⟩:∃z t,ls[j]?=some (z,t):=⟨ls[j].1,ls[j].2,List.getElem?_eq_getElem hjl⟩;obtain⟨gl,lo,el,d1,d2⟩:=L3.out j (z,t) ht;subst el;simp only at d1 d2;have hts:=HTX2.out _ (List.mem_of_getElem? ht);simp only at hts;have RI:=hide (read_in (t:=(z,t)) HBR.out ht);clear ht hf;go_wp2_with fail;refine(ilat_off g (k*3) gl lo ls.length capl j _ hrl hjl c3).mono ?_;rintro e w4 ⟨rfl,rfl⟩;by_cases hz:z=1
   ·have HP:Hid (readF (rs.map tellOf) (k:Int) (j:Int)=(t,true)):=RI.out.1 hz;have e1:(z !=1)=false:=by simp[hz]
    clear hz;go_wp2_with fail;refine(fclone_any t _ hts).mono ?_;rintro e w5 ⟨rfl,b5⟩;have HB5:=hide (HB3.out.trans (b5.mono HB3.out.size));clear b5;go_wp2;go_ret2;exact⟨by rw[HP.out];rfl,HB5.out⟩
   ·have HP:Hid (readF (rs.map tellOf) (k:Int) (j:Int)=(⟨#[]⟩,false)):=RI.out.2 hz;have e1:(z !=1)=true:=by simp[hz]
    clear hz;go_wp2;go_ret2;exact⟨by rw[HP.out];rfl,HB3.out⟩
  ·have HP:Hid (readF (rs.map tellOf) (k:Int) leaf=(⟨#[]⟩,false)):=read_leaf_out HBR.out hf;go_wp2_with fail;refine(ilat_out g (k*3) ls.length capl ld leaf _ hrl hf c3).mono ?_;rintro e w4 ⟨rfl,rfl⟩;clear hf;go_wp2;go_ret2;exact⟨by rw[HP.out];rfl,HB3.out⟩
 ·have HP:Hid (readF (rs.map tellOf) b leaf=(⟨#[]⟩,false)):=read_out (by rw[List.length_map];exact hb)
  refine(iat_out vd rs.length vcap b _ hl hb).mono ?_;rintro e w3 ⟨rfl,b3⟩;have HB3:=hide (HB0.out.trans (b3.mono HB0.out.size));clear hb b3;go_wp2;go_ret2;exact⟨by rw[HP.out];rfl,HB3.out⟩
end Go.Proofs.YtpdoponghlpkcaaDoor
namespace Go.Proofs.YtpdoponghlpkcaaDoor
open Go.RowKit
open Words
def pgVal(p:Pg):Value:=.agg #[.int .i64 p.kind,.int .i64 p.seq,.int .i64 p.tx,.int .i64 p.part,.int .i64 p.count,.string p.text]
def partP(k q c:Int):Prop:=k=1∧c=1∧q=0∨k=2∧1≤c∧c≤9∧0≤q∧q<c
def partB(k q c:Int):Bool:=decide (k=1∧c=1∧q=0∨k=2∧1≤c∧c≤9∧0≤q∧q<c)
theorem partB_yes{k q c:Int}(h:partP k q c):partB k q c=true:=dcY h
theorem partB_no{k q c:Int}(h:¬partP k q c):partB k q c=false:=dcN h
theorem ipart_any(k s x q c:Int)(t:ByteArray)(w:World):
 Calls Tryd.prog 91 #[.agg #[.int .i64 k,.int .i64 s,.int .i64 x,.int .i64 q,.int .i64 c,.string t]] w fun e w'=>e=.returned (.bool (partB k q c))∧Below w.heap.size w w':=by
 have HB:=hide ((Below.refl w.heap.size w).alloc (Nat.le_refl _) (.cells #[.int .i64 k,.int .i64 s,.int .i64 x,.int .i64 q,.int .i64 c,.string t] 70));by_cases h1:k=1
 ·subst h1;have HE:Hid (partB 1 q c=(decide (c=1)&&decide (q=0))):=by
   show _=_;by_cases a:c=1<;>by_cases b:q=0<;>simp[partB,a,b]
  by_cases a:(c==1)=true
  ·go_enter Tryd.func91,Tryd.ntmps91;go_wp2;go_ret;exact⟨by rw[HE.out];simp at a;by_cases b:q=0<;>simp[a,b],HB.out⟩
  ·have a:(c==1)=false:=by simpa using a
   go_enter Tryd.func91,Tryd.ntmps91;go_wp2;go_ret;exact⟨by rw[HE.out];simp at a;by_cases b:q=0<;>simp[a,b],HB.out⟩
 ·have h1':(k==1)=false:=by simpa using h1
  by_cases h2:k=2
  ·subst h2;have HE:Hid (partB 2 q c=decide (1≤c∧c≤9∧0≤q∧q<c)):=by
    show _=_;simp[partB]
   clear h1 h1';by_cases a1:1≤c
   ·by_cases a2:c≤9
    ·by_cases a3:0≤q
     ·go_enter Tryd.func91,Tryd.ntmps91;go_wp2;go_ret;exact⟨by rw[HE.out];simp[a1,a2,a3],HB.out⟩
     ·go_enter Tryd.func91,Tryd.ntmps91;go_wp2;go_ret;exact⟨by rw[HE.out];simp;omega,HB.out⟩
    ·go_enter Tryd.func91,Tryd.ntmps91;go_wp2;go_ret;exact⟨by rw[HE.out];simp;omega,HB.out⟩
   ·go_enter Tryd.func91,Tryd.ntmps91;go_wp2;go_ret;exact⟨by rw[HE.out];simp;omega,HB.out⟩
  ·have h2':(k==2)=false:=by simpa using h2
   have HE:Hid (partB k q c=false):=by
    show _=_;simp[partB,h1,h2]
   clear h1 h2;go_enter Tryd.func91,Tryd.ntmps91;go_wp2;go_ret;exact⟨by rw[HE.out];rfl,HB.out⟩
theorem right_eq(k s x q c:Int)(t:ByteArray):(Pg.mk k s x q c t).Right↔(1≤s∧s≤1000000000∧1≤x∧x≤1000000000)∧partP k q c∧(t.size:Int)≤90:=by
 unfold Pg.Right partP;simp only;constructor
 ·rintro⟨h,h1,h2,h3,h4,h5⟩;exact⟨⟨h1,h2,h3,h4⟩,h,h5⟩
 ·rintro⟨⟨h1,h2,h3,h4⟩,h,h5⟩;exact⟨h,h1,h2,h3,h4,h5⟩
theorem ipageOk(p:Pg)(w:World):
 Calls Tryd.prog 87 #[pgVal p] w fun e w'=>e=.returned (.bool (@decide p.Right p.decR))∧Below w.heap.size w w':=by
 obtain⟨k,s,x,q,c,t⟩:=p;have HE:=hide (right_eq k s x q c t);have HB:=hide ((Below.refl w.heap.size w).alloc (Nat.le_refl _) (.cells #[.int .i64 k,.int .i64 s,.int .i64 x,.int .i64 q,.int .i64 c,.string t] 70));unfold pgVal;simp only;by_cases a1:s<1
 ·go_enter Tryd.func87,Tryd.ntmps87;go_wp2;go_ret;exact⟨by rw[dcN (fun h=>by have:=(HE.out.1 h).1;omega)];rfl,HB.out⟩
 by_cases a2:1000000000<s
 ·go_enter Tryd.func87,Tryd.ntmps87;go_wp2;go_ret;exact⟨by rw[dcN (fun h=>by have:=(HE.out.1 h).1;omega)];rfl,HB.out⟩
 by_cases a3:x<1
 ·go_enter Tryd.func87,Tryd.ntmps87;go_wp2;go_ret;exact⟨by rw[dcN (fun h=>by have:=(HE.out.1 h).1;omega)];rfl,HB.out⟩
 by_cases a4:1000000000<x
 ·go_enter Tryd.func87,Tryd.ntmps87;go_wp2;go_ret;exact⟨by rw[dcN (fun h=>by have:=(HE.out.1 h).1;omega)];rfl,HB.out⟩
 by_cases a5:partP k q c
 ·go_enter Tryd.func87,Tryd.ntmps87;go_wp2_with fail;refine(ipart_any k s x q c t _).mono ?_;rintro e w1 ⟨rfl,hb⟩;rw[partB_yes a5];have A5:=hide a5;clear a5;have hs:=HB.out.size;have kp:∀i,i<6→w1.cell? ⟨w.heap.size,i,none⟩=(w.alloc (.cells #[.int .i64 k,.int .i64 s,.int .i64 x,.int .i64 q,.int .i64 c,.string t] 70)).cell? ⟨w.heap.size,i,none⟩:=fun i _=>hb.cell (by simp)
  have k5:=kp 5 (by omega)
  simp at k5;clear kp;go_wp2;go_ret;have e: @decide (Pg.mk k s x q c t).Right (Pg.mk k s x q c t).decR=decide ((t.size:Int)≤90):=dcE (HE.out.trans ⟨fun h=>h.2.2,fun h=>⟨by omega,A5.out,h⟩⟩)
  exact⟨by rw[e];rfl,HB.out.trans (hb.mono hs)⟩
 ·go_enter Tryd.func87,Tryd.ntmps87;go_wp2_with fail;refine(ipart_any k s x q c t _).mono ?_;rintro e w1 ⟨rfl,hb⟩;rw[partB_no a5];have A5:=hide a5;clear a5;have hs:=HB.out.size;go_wp2;go_ret;exact⟨by rw[dcN (fun h=>A5.out (HE.out.1 h).2.1)];rfl,HB.out.trans (hb.mono hs)⟩
end Go.Proofs.YtpdoponghlpkcaaDoor
