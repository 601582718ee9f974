/-
  IScan2; FdOr; SRead
-/
import Derived.Test.YtpdoponghlpkcaaDoorPk35
import Derived.Test.YtpdoponghlpkcaaDoorStable
import Derived.Test.YtpdoponghlpkcaaDoorPk23
import Derived.Test.YtpdoponghlpkcaaDoorPk3
import Derived.Test.YtpdoponghlpkcaaDoorPk6
import Derived.Test.YtpdoponghlpkcaaDoorPk5
import Derived.Deep.RegionHeld3
set_option maxHeartbeats 2000000
set_option maxRecDepth 100000
namespace Go.Proofs.YtpdoponghlpkcaaDoor
open Go.RowKit
open Words Sums
def FRes(w:World)(B:Nat)(u:Value)(M:List Fnd):Prop:=(u=.slice none 0 0∧M=[])∨∃g cap,u=.slice (some ⟨g,0,none⟩) M.length cap∧B≤g∧SRow w g M∧M.length≤1000000000000000000
theorem own_fres{w:World}{B:Nat}{u:Value}{l:List Fnd}(h:w.ownsRow B 74 8 u l.length (fcells l))(hl:l.length≤1000000000000000000):FRes w B u l:=by
 obtain⟨h1,h2⟩:=h;rcases h2 with⟨rfl,h3⟩|⟨g,cap,cur,rfl,h3,h4,h5,h6,h7,h8⟩
 ·exact .inl ⟨rfl,List.eq_nil_of_length_eq_zero h3⟩
 ·refine .inr ⟨g,cap,rfl,h3,⟨cur,h4,fun i x hx j v hv=>?_⟩,hl⟩
  have:=fcells_at l i x hx j v hv;rw[←h8]at this;obtain⟨h9,h10⟩:=List.getElem?_eq_some_iff.1 this;rw[List.getElem_take]at h10;rw[List.length_take]at h9;rw[←Array.getElem?_toList,List.getElem?_eq_some_iff];exact⟨by omega,h10⟩
theorem sort_nil(w:World):
 Calls Tryd.prog 31 #[.slice none 0 0,.func (.func 32) #[] #[]] w fun e w'=>e=.returned (.tuple #[])∧Below w.heap.size w w':=by
 have CI:Hid (∀W,Calls Tryd.prog 67 #[.slice none 0 0,.int .i64 0,.int .i64 0,.func (.func 32) #[] #[]] W fun e w'=>e=.returned (.tuple #[])∧w'=W):=by
  intro W;go_enter Tryd.func67,Tryd.ntmps67;go_wp2;go_loopw [8] (fun iv wr=>iv=.int .i64 1∧wr=W) (fun _ _=>0)
  case atStart=>exact⟨rfl,rfl⟩
  case round=>
   obtain⟨rfl,rfl⟩:=hrel;go_wp2
   first|go_end0|refine bodyPost_ret (results_none rfl _ _ _) rfl ?_
   exact⟨rfl,rfl⟩
 have CS:Hid (∀W,Calls Tryd.prog 47 #[.slice none 0 0,.int .i64 0,.func (.func 32) #[] #[]] W fun e w'=>e=.returned (.tuple #[])∧w'=W):=by
  intro W;go_enter Tryd.func47,Tryd.ntmps47;go_wp2;go_loopw [7,8] (fun av bv wr=>av=.int .i64 0∧bv=.int .i64 20∧wr=W) (fun _ _ _=>0)
  case atStart=>exact⟨rfl,rfl,rfl⟩
  case round=>
   obtain⟨rfl,rfl,rfl⟩:=hrel;go_wp2_with fail;refine(CI.out _).mono ?_;rintro e w1 ⟨rfl,rfl⟩;go_wp2;go_loopw [6] (fun sv wr=>sv=.int .i64 20∧wr=w1) (fun _ _=>0)
   case atStart=>exact⟨rfl,rfl⟩
   case round=>
    obtain⟨rfl,rfl⟩:=hrel;go_wp2
    first|go_end0|refine bodyPost_ret (results_none rfl _ _ _) rfl ?_
    exact⟨rfl,rfl⟩
 go_enter Tryd.func31,Tryd.ntmps31;go_wp2_with fail;refine(CS.out _).mono ?_;rintro e w1 ⟨rfl,rfl⟩;go_wp2
 first|go_end0|refine bodyPost_ret (results_none rfl _ _ _) rfl ?_
 exact⟨rfl,Below.refl _ _⟩
theorem iscan_rd(v:Value)(rs:List Rw)(w:World)(hl:rs.length≤1048576)(hll:∀r∈rs,r.2.2.2.length≤1048576)(htx:TxB rs)(ha:FlashRd w v rs)(ht:HalvIn w):
 Calls Tryd.prog 18 #[.agg #[v]] w fun e w'=>∃u M,e=.returned u∧Asc M∧Akin (founds (rs.map tellOf) rs.length) M∧FRes w' w.heap.size u M∧Below w.heap.size w w':=by
 obtain⟨i0,hi0,hz0,hz1,hz2⟩:=info_parts infoFound;have h1:=ha;obtain⟨vd,vcap,rfl,-⟩:=h1;have HT:=hide ht;have HTX:=hide htx;have HLL:=hide hll;obtain⟨n,hn⟩:∃n,rs.length=n:=⟨_,rfl⟩;have HN:=hide hn;have HF2:=hide ha;rw[hn]at hl HF2⊢;have b0:Below w.heap.size w (w.alloc (.cells #[.slice vd n vcap] 37)):=(Below.refl _ _).alloc (Nat.le_refl _) _;have S0:Hid (Scn w (w.alloc (.cells #[.slice vd n vcap] 37)) (.slice vd n vcap) (.slice none 0 0) []):=⟨b0,heap_alloc_new _ _,World.ownsRow_nil _ _ _ _⟩;clear ha ht htx hll hn b0;go_enter Tryd.func18,Tryd.ntmps18;go_wp2;go_loopw [3,11] (fun out bv wr=>∃(b:Nat) (l:List Fnd),bv=.int .i64 b∧b≤n∧l.length≤b*1048576∧Hid (l=founds (rs.map tellOf) b)∧Hid (Scn w wr (.slice vd n vcap) out l)) (fun _ bv _=>n-(intOf bv).toNat)
 case atStart=>exact⟨0,[],rfl,Nat.zero_le _,by simp,rfl,S0⟩
 case round=>
  rename World=>wo
  obtain⟨b,l,rfl,r1,rlen,HLd,HS⟩:=hrel;clear S0;have cf:wo.cell? ⟨w.heap.size,0,none⟩=some (.slice vd n vcap):=cell_of_row _ _ 0 _ _ _ HS.out.2.1;by_cases hlt:(b:Int)<n
  ·have hbl:b<rs.length:=by have:=HN.out;omega
   obtain⟨r,hr⟩:∃r,rs[b]?=some r:=⟨_,List.getElem?_eq_getElem hbl⟩;obtain⟨gv,e,⟨-,-,c3⟩,hlf⟩:=(HF2.out.below HS.out.1).at hr;subst e;obtain⟨ld,lc,e2,-⟩:=hlf;have hml:=HLL.out r (List.mem_of_getElem? hr);obtain⟨m,hm⟩:∃m,r.2.2.2.length=m:=⟨_,rfl⟩;have c3':wo.cell? ⟨gv,b*3+2,none⟩=some (.slice ld m lc):=by rw[c3,e2,hm]
   rw[hm]at hml;have HM:Hid (founds (rs.map tellOf) (b+1)=founds (rs.map tellOf) b++foundsAt (rs.map tellOf) b m):=by
    show _=_;simp only[founds,List.getElem?_map,hr,Option.map_some,Option.getD_some];show founds _ b++foundsAt _ b (tellOf r).2.2.length=_;rw[show(tellOf r).2.2.length=m from hm]
   have b0:(0:Int)≤b:=by omega
   have L0:Hid (l=founds (rs.map tellOf) b++foundsAt (rs.map tellOf) b 0):=by show _=_;rw[HLd.out];simp[foundsAt]
   clear c3 e2 hr hbl hm;go_wp2;go_loopw [3,21] (fun out kv wr=>∃(k:Nat) (l2:List Fnd),kv=.int .i64 k∧k≤m∧l2.length≤b*1048576+k∧Hid (l2=founds (rs.map tellOf) b++foundsAt (rs.map tellOf) b k)∧Hid (Scn w wr (.slice (some ⟨gv,0,none⟩) n vcap) out l2)) (fun _ kv _=>m-(intOf kv).toNat)
   case atStart=>exact⟨0,l,rfl,Nat.zero_le _,Nat.le_trans rlen (Nat.le_add_right _ _),L0,HS⟩
   case round=>
    rename Value=>vout
    obtain⟨k,l2,rfl,t1,tlen,HL2,HS2⟩:=hrel;clear HS L0 cf c3';have cf:wr.cell? ⟨w.heap.size,0,none⟩=some (.slice (some ⟨gv,0,none⟩) n vcap):=cell_of_row _ _ 0 _ _ _ HS2.out.2.1;by_cases hk:(k:Int)<m
    ·have C:=hide (pageAt_rd (.slice (some ⟨gv,0,none⟩) n vcap) rs (b:Int) (k:Int) wr (by have:=HN.out;omega) HLL.out HTX.out (HF2.out.below HS2.out.1) (HT.out.on HS2.out.1))
     cases ho:leafPg (rs.map tellOf) (b:Int) (k:Int)with
     |none=>
      rw[ho]at C;unfold pgRes pgVal at C;simp only at C;have NL:Hid (l2=founds (rs.map tellOf) b++foundsAt (rs.map tellOf) b (k+1)):=by show _=_;rw[HL2.out];simp[foundsAt,ho]
      clear ho HL2;go_wp2_with fail;refine C.out.mono ?_;rintro e w2 ⟨rfl,b2⟩;have S3:=hide ((HS2.out.below b2).below ((Below.refl _ _).alloc (Nat.le_refl _) (.cells #[.int .i64 0,.int .i64 0,.int .i64 0,.int .i64 0,.int .i64 0,.string ⟨#[]⟩] 70)));clear b2 HS2 C;go_wp2;go_roundw
      case rel=>exact⟨k+1,l2,by go_num,by omega,by omega,NL,S3⟩
      case measure=>simp[intOf];omega
     |some pg=>
      rw[ho]at C;obtain⟨q1,q2,q3,q4,q5,q6⟩:=pg;unfold pgRes pgVal at C;simp only at C;have NL:Hid (l2++[⟨b,k,⟨q1,q2,q3,q4,q5,q6⟩⟩]=founds (rs.map tellOf) b++foundsAt (rs.map tellOf) b (k+1)):=by show _=_;rw[HL2.out];simp[foundsAt,ho]
      clear ho HL2;go_wp2_with fail;refine C.out.mono ?_;rintro e w2 ⟨rfl,b2⟩;have ba:=(Below.refl w2.heap.size w2).alloc (Nat.le_refl _) (.cells #[.int .i64 q1,.int .i64 q2,.int .i64 q3,.int .i64 q4,.int .i64 q5,.string q6] 70);have S3:=hide ((HS2.out.below b2).below ba);have z3:(w2.alloc (.cells #[.int .i64 q1,.int .i64 q2,.int .i64 q3,.int .i64 q4,.int .i64 q5,.string q6] 70)).heap.size=w2.heap.size+1:=by simp
      have HN5:=hide (cells_new (w2.alloc (.cells #[.int .i64 q1,.int .i64 q2,.int .i64 q3,.int .i64 q4,.int .i64 q5,.string q6] 70)) ([Value.int .i64 (b:Int),Value.int .i64 (k:Int),Value.int .i64 q1,Value.int .i64 q2,Value.int .i64 q3,Value.int .i64 q4,Value.int .i64 q5,Value.string q6]:List Value).toArray 74 (w2.heap.size+1) z3);clear b2 HS2 C ba;go_wp2_with (at_builtin;refine wpList_append_own _ rfl _ _ 56 rfl (w.heap.size+1) 74 i0 (.agg #[.int .i64 0,.int .i64 0,.int .i64 0,.int .i64 0,.int .i64 0,.int .i64 0,.int .i64 0,.string ⟨#[]⟩]) 8 72 Tryd.underlying56 hi0 hz0 hz1 hz2 rfl (by decide) _ l2.length (fcells l2) rfl (S3.out.2.2.alloc _) ⟨w2.heap.size+1,0,none⟩ 1 1 [Value.int .i64 (b:Int),Value.int .i64 (k:Int),Value.int .i64 q1,Value.int .i64 q2,Value.int .i64 q3,Value.int .i64 q4,Value.int .i64 q5,Value.string q6] rfl rfl HN5.out (fd_one ⟨b,k,⟨q1,q2,q3,q4,q5,q6⟩⟩) ?g1 ?g2 ?g3 ?_)
      case g1=>unfold maxLen;omega
      case g2=>omega
      case g3=>have:=S3.out.1.size;simp;omega
      intro v' w4 hown hgrow _;have NS:Hid (Scn w w4 (.slice (some ⟨gv,0,none⟩) n vcap) v' (l2++[⟨b,k,⟨q1,q2,q3,q4,q5,q6⟩⟩])):=by
       have bz:=S3.out.below ((Below.refl _ _).alloc (Nat.le_refl _) (.cells (fdCells ⟨b,k,⟨q1,q2,q3,q4,q5,q6⟩⟩).toArray 74));have lt0:=(Array.getElem?_eq_some_iff.1 bz.2.1).1;refine⟨bz.1.grown hgrow bz.1.size (fun x hx=>Nat.le_of_succ_le (S3.out.2.2.lt x hx).1),(hgrow.block w.heap.size lt0 (fun e=>?_)).trans bz.2.1,?_⟩
       ·have:=(S3.out.2.2.lt _ e.symm).1;omega
       ·rw[List.length_append,←fcells_snoc];exact hown
      have NN:(l2++[(⟨b,k,⟨q1,q2,q3,q4,q5,q6⟩⟩:Fnd)]).length=l2.length+1:=by simp
      generalize l2++[(⟨b,k,⟨q1,q2,q3,q4,q5,q6⟩⟩:Fnd)]=l3 at NL NS NN;clear hown hgrow S3 HN5;go_wp2;go_roundw
      case rel=>exact⟨k+1,l3,by go_num,by omega,by omega,NL,NS⟩
      case measure=>simp[intOf];omega
    ·have hkm:k=m:=by omega
     have NL:Hid (l2=founds (rs.map tellOf) (b+1)):=by show _=_;rw[HL2.out,HM.out,hkm]
     clear HL2 hkm;go_wp2;go_roundw
     case rel=>exact⟨b+1,l2,by go_num,by omega,by omega,NL,HS2⟩
     case measure=>simp[intOf];omega
  ·have hbn:b=n:=by omega
   have HLn:Hid (l=founds (rs.map tellOf) n):=by show _=_;rw[HLd.out,hbn]
   have hres:=own_fres HS.out.2.2 (by omega)
   rcases hres with⟨e1,e2⟩|⟨g,cap,e1,hg,hsr,-⟩
   ·subst e1 e2;have B1:=hide HS.out.1;clear HS cf HLd hbn;go_wp2_with fail;refine(sort_nil _).mono ?_;rintro e w2 ⟨rfl,b2⟩;have B2:=hide (B1.out.trans (b2.mono B1.out.size));clear b2 B1;go_wp2;go_ret;exact⟨_,[],rfl,List.Pairwise.nil,by rw[←HLn.out];exact Akin.refl _,.inl ⟨rfl,rfl⟩,B2.out⟩
   ·subst e1;obtain⟨nl,hnl⟩:∃nl,l.length=nl:=⟨_,rfl⟩;rw[hnl]at rlen;have C:=hide (sortStable g nl cap l wo (by omega) hnl hsr)
    have B1:=hide HS.out.1;rw[hnl];have HNL:=hide hnl;have hg2:w.heap.size≤g:=by omega
    clear HS cf HLd hbn hsr hnl;go_wp2_with fail;refine C.out.mono ?_;rintro e w2 ⟨rfl,M,m1,m2,m3,m4⟩;have B2:=hide (B1.out.trans (Kept2.down (B:=w.heap.size) m4.1 B1.out.size (fun i hi=>by omega)))
    have PF:Hid (Asc M∧Akin (founds (rs.map tellOf) n) M∧FRes w2 w.heap.size (.slice (some ⟨g,0,none⟩) nl cap) M):=⟨m1,by rw[←HLn.out];exact m2,.inr ⟨g,cap,by rw[m3,HNL.out],hg2,m4.2,by rw[m3,HNL.out];omega⟩⟩
    clear m1 m2 m3 m4 B1 C;go_wp2;go_ret;exact⟨_,M,rfl,PF.out.1,PF.out.2.1,PF.out.2.2,B2.out⟩
end Go.Proofs.YtpdoponghlpkcaaDoor
namespace Go.Proofs.YtpdoponghlpkcaaDoor
open Go.RowKit
open Words
theorem FRes.rd{W:World}{B:Nat}{u:Value}{M:List Fnd}(h:FRes W B u M):∃ad cap,u=.slice ad M.length cap∧FdRd W ad M.length M∧M.length≤1000000000000000000:=by
 rcases h with⟨rfl,rfl⟩|⟨g,cap,rfl,hB,hr,hl⟩
 ·exact⟨none,0,rfl,⟨rfl,by unfold maxLen;simp,fun h=>by simp at h⟩,by simp⟩
 ·refine⟨_,_,rfl,⟨rfl,by unfold maxLen;omega,fun _=>⟨g,0,rfl,hr.lt,fun i t hi j v hv=>?_⟩⟩,hl⟩
  rw[Nat.zero_add];exact hr.cell hi j hv
end Go.Proofs.YtpdoponghlpkcaaDoor
namespace Go.Proofs.YtpdoponghlpkcaaDoor
open Go.RowKit
theorem sread_rd(v:Value)(rs:List Rw)(b leaf:Int)(w:World)(hl:rs.length≤1048576)(hll:∀r∈rs,r.2.2.2.length≤1048576)(ha:FlashRd w v rs):
 Calls Tryd.prog 24 #[.agg #[v],.int .i64 b,.int .i64 leaf] w fun e w'=>e=.returned (.tuple #[.string (readF (rs.map tellOf) b leaf).1,.bool (readF (rs.map tellOf) b leaf).2])∧Below w.heap.size w w':=by
 have h1:=ha;obtain⟨vd,vcap,rfl,-⟩:=h1;have HLL:=hide hll;have HB0:=hide ((Below.refl w.heap.size w).alloc (Nat.le_refl _) (.cells #[.slice vd rs.length vcap] 37));have HA:=hide (ha.below HB0.out);have r0:=heap_alloc_new w (.cells #[.slice vd rs.length vcap] 37);have k0:(w.alloc (.cells #[.slice vd rs.length vcap] 37)).cell? ⟨w.heap.size,0,none⟩=some (.slice vd rs.length vcap):=cell_of_row _ _ 0 _ _ _ r0;have K0:=hide k0;have hw1:IntKind.i64.wrap ((rs.length:Int)-1)=(rs.length:Int)-1:=by rw[IntKind.wrap_i64];omega
 clear ha hll r0 k0;go_enter Tryd.func24,Tryd.ntmps24;go_wp2_with fail;refine(sin_any b 0 ((rs.length:Int)-1) _).mono ?_;rintro e w2 ⟨rfl,rfl⟩;generalize w.alloc (.cells #[.slice vd rs.length vcap] 37)=w2 at HB0 HA K0⊢;have k0:=K0.out;by_cases hb:0≤b∧b≤(rs.length:Int)-1
 ·rw[decide_eq_true hb];obtain⟨k,rfl⟩:∃k:Nat,b=k:=⟨b.toNat,by omega⟩
  have hkl:k<rs.length:=by omega
  have hr:rs[k]?=some rs[k]:=List.getElem?_eq_getElem hkl;generalize rs[k]=r at hr;have hmem:=List.mem_of_getElem? hr;have hrl:=HLL.out r hmem;obtain⟨g,eg,⟨c1,c2,c3⟩,hlf⟩:=HA.out.at hr;subst eg;have HBR:Hid ((rs.map tellOf)[k]?=some (tellOf r)):=by show _=_;rw[List.getElem?_map,hr];rfl
  obtain⟨x,y,u,ls⟩:=r;simp only at c1 c2 c3;simp only at hlf hrl;obtain⟨ld,capl,rfl,-,l3⟩:=hlf;have L3:=hide l3;have kk0:(0:Int)≤k:=by omega
  have kk1:(k:Int)<rs.length:=by omega
  have hw2:IntKind.i64.wrap ((ls.length:Int)-1)=(ls.length:Int)-1:=by rw[IntKind.wrap_i64];omega
  clear hr hmem l3 c1 c2 hb;go_wp2_with fail;refine(sin_any leaf 0 ((ls.length:Int)-1) _).mono ?_;rintro e w3 ⟨rfl,rfl⟩;by_cases hf:0≤leaf∧leaf≤(ls.length:Int)-1
  ·rw[decide_eq_true hf];obtain⟨j,rfl⟩:∃j:Nat,leaf=j:=⟨leaf.toNat,by omega⟩
   have hjl:j<ls.length:=by omega
   obtain⟨z,t,ht⟩:∃z t,ls[j]?=some (z,t):=⟨ls[j].1,ls[j].2,List.getElem?_eq_getElem hjl⟩;obtain⟨gl,lo,el,d1,d2⟩:=L3.out j (z,t) ht;subst el;simp only at d1 d2;have RI:=hide (read_in (t:=(z,t)) HBR.out ht);have j0:(0:Int)≤j:=by omega
   have j1:(j:Int)<ls.length:=by omega
   clear ht hf;by_cases hz:z=1
   ·have HP:Hid (readF (rs.map tellOf) (k:Int) (j:Int)=(t,true)):=RI.out.1 hz;have e1:(z !=1)=false:=by simp[hz]
    clear hz;go_wp2;go_ret2;exact⟨by rw[HP.out];rfl,HB0.out⟩
   ·have HP:Hid (readF (rs.map tellOf) (k:Int) (j:Int)=(⟨#[]⟩,false)):=RI.out.2 hz;have e1:(z !=1)=true:=by simp[hz]
    clear hz;go_wp2;go_ret2;exact⟨by rw[HP.out];rfl,HB0.out⟩
  ·rw[decide_eq_false hf];have HP:Hid (readF (rs.map tellOf) (k:Int) leaf=(⟨#[]⟩,false)):=read_leaf_out HBR.out hf;clear hf;go_wp2;go_ret2;exact⟨by rw[HP.out];rfl,HB0.out⟩
 ·rw[decide_eq_false hb];have HP:Hid (readF (rs.map tellOf) b leaf=(⟨#[]⟩,false)):=read_out (by rw[List.length_map];exact hb)
  clear hb;go_wp2;go_ret2;exact⟨by rw[HP.out];rfl,HB0.out⟩
end Go.Proofs.YtpdoponghlpkcaaDoor
