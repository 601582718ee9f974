/-
  SRoom; SBnd
-/
import Derived.Test.YtpdoponghlpkcaaDoorPk4
import Derived.Test.YtpdoponghlpkcaaDoorPk5
import Derived.Test.YtpdoponghlpkcaaDoorPk6
import Derived.Test.YtpdoponghlpkcaaDoorPk3
import Derived.Test.YtpdoponghlpkcaaDoorPk10
import Derived.Test.YtpdoponghlpkcaaDoorPk45
set_option maxHeartbeats 2000000
set_option maxRecDepth 100000
namespace Go.Proofs.YtpdoponghlpkcaaDoor
open Go.RowKit
theorem sroom_rd(v:Value)(rs:List Rw)(w:World)(hl:rs.length≤1048576)(hll:∀r∈rs,r.2.2.2.length≤1048576)(ha:FlashRd w v rs):
 Calls Tryd.prog 12 #[.agg #[v]] w fun e w'=>e=.returned (.int .i64 (roomF (rs.map tellOf):Nat))∧Below w.heap.size w w':=by
 have ha1:=ha;obtain⟨vd,vcap,rfl,-,-⟩:=ha1;have HLL:=hide hll;obtain⟨n,hn⟩:∃n,rs.length=n:=⟨_,rfl⟩;have HN:=hide hn;have HB:=hide ((Below.refl w.heap.size w).alloc (Nat.le_refl _) (.cells #[.slice vd n vcap] 37));have HF2:=hide ha;rw[hn]at hl HF2⊢;have R0:=hide (heap_alloc_new w (.cells #[.slice vd n vcap] 37));have HRm:=hide (fun k=>roomTo_le (bs:=rs.map tellOf) (m:=1048576) (fun q hq=>by obtain⟨r,hr,rfl⟩:=List.mem_map.1 hq;exact hll r hr) k)
 clear ha hll hn;go_enter Tryd.func12,Tryd.ntmps12;go_wp2;have HF:=hide (HF2.out.below HB.out);clear HF2;generalize w.alloc (.cells #[.slice vd n vcap] 37)=wA at HB HF R0⊢;have cf:wA.cell? ⟨w.heap.size,0,none⟩=some (.slice vd n vcap):=cell_of_row _ _ 0 _ _ _ R0.out;go_loop [3,4] (fun mv bv=>∃b m:Nat,bv=.int .i64 b∧mv=.int .i64 m∧b≤n∧Hid (roomTo (rs.map tellOf) b=m)) (fun _ bv=>n-(intOf bv).toNat)
 case atStart=>exact⟨0,0,rfl,rfl,Nat.zero_le _,rfl⟩
 case round=>
  obtain⟨b,m,rfl,rfl,r1,HM⟩:=hrel;by_cases hlt:(b:Int)<n
  ·have hbl:b<rs.length:=by have:=HN.out;omega
   obtain⟨r,hr⟩:∃r,rs[b]?=some r:=⟨_,List.getElem?_eq_getElem hbl⟩;have hrt:(rs.map tellOf)[b]?=some (tellOf r):=by rw[List.getElem?_map,hr];rfl
   obtain⟨gv,e,⟨c1,c2,c3⟩,hlf⟩:=HF.out.at hr;subst e;have hml:=HLL.out r (List.mem_of_getElem? hr);obtain⟨x,y,u,ls⟩:=r;simp only at c1 c2 c3;simp only at hlf hml;have b0:(0:Int)≤b:=by omega
   have hlf2:=hlf;obtain⟨ld,lc,rfl,-,-⟩:=hlf2;have HLf:=hide hlf;have HRT:=hide hrt;have hm:m≤1048576*1048576:=by have h1:=HRm.out b;rw[HM.out]at h1;exact Nat.le_trans h1 (Nat.mul_le_mul_right _ (by omega))
   obtain⟨t,hq⟩:∃t,ls.length=t:=⟨_,rfl⟩;have HQ:=hide hq;rw[hq]at c3 hml;clear hrt hlf hr hbl hq;go_wp2;go_loop [3,5] (fun nv kv=>∃(k p:Nat),kv=.int .i64 k∧k≤t∧nv=.int .i64 p∧p≤m+k∧Hid (p=m+if x=true then 0 else blanks (ls.take k))) (fun _ kv=>t-(intOf kv).toNat)
   case atStart=>exact⟨0,m,rfl,Nat.zero_le _,rfl,Nat.le_refl _,(show m=m+if x=true then 0 else blanks (ls.take 0)by simp[blanks])⟩
   case round=>
    obtain⟨k,p,rfl,hk,rfl,hp,HA⟩:=hrel;by_cases hlk:(k:Int)<t
    ·have hkl:k<ls.length:=by have:=HQ.out;omega
     obtain⟨z,s,ht⟩:∃z t,ls[k]?=some (z,t):=⟨ls[k].1,ls[k].2,List.getElem?_eq_getElem hkl⟩;obtain⟨gl,lo,e⟩:=HLf.out.head (by have:=HQ.out;omega)
     subst e;obtain⟨d1,-⟩:=HLf.out.two ht;simp only at d1;have k0:(0:Int)≤k:=by omega
     have hbt:=blanks_take ht;simp only at hbt;cases x with
     |true=>
      have AN:Hid (p=m+if true=true then 0 else blanks (ls.take (k+1))):=HA.out
      clear ht hkl HA hbt;go_wp2;go_round
      case rel=>exact⟨k+1,p,by go_num,by omega,rfl,by omega,AN⟩
      case measure=>simp[intOf];omega
     |false=>
      by_cases hz:z=0
      ·have AN:Hid (p+1=m+if false=true then 0 else blanks (ls.take (k+1))):=by
        have:=HA.out;rw[if_pos hz]at hbt;show _=_;simp at this⊢;omega
       subst hz;clear ht hkl HA hbt;go_wp2;go_round
       case rel=>exact⟨k+1,p+1,by go_num,by omega,by go_num,by omega,AN⟩
       case measure=>simp[intOf];omega
      ·have AN:Hid (p=m+if false=true then 0 else blanks (ls.take (k+1))):=by
        have:=HA.out;rw[if_neg hz]at hbt;show _=_;simp at this⊢;omega
       have hz2:(z==0)=false:=by simpa using hz
       clear ht hkl HA hbt;go_wp2;go_round
       case rel=>exact⟨k+1,p,by go_num,by omega,rfl,by omega,AN⟩
       case measure=>simp[intOf];omega
    ·have NL:Hid (roomTo (rs.map tellOf) (b+1)=p):=by
      show _=_;have:=HA.out;rw[show ls.take k=ls from List.take_of_length_le (by have:=HQ.out;omega)]at this
      cases x with
      |true=>rw[roomTo_no HRT.out rfl,HM.out,this];rfl
      |false=>rw[roomTo_yes HRT.out rfl,HM.out,this];rfl
     clear HA;go_wp2;go_round
     case rel=>exact⟨b+1,p,by go_num,rfl,by omega,NL⟩
     case measure=>simp[intOf];omega
  ·have PF:Hid (roomF (rs.map tellOf)=m):=by
    show _=_;unfold roomF;rw[List.length_map,←HM.out];congr 1;have:=HN.out;omega
   clear HM;go_wp2;go_ret;exact⟨by rw[PF.out];rfl,HB.out⟩
end Go.Proofs.YtpdoponghlpkcaaDoor
namespace Go.Proofs.YtpdoponghlpkcaaDoor
open Go.RowKit
open Words Sums Pack
theorem sbnd(x:Value)(d:Dv)(w:World)(h:DvIn w x d):Calls Tryd.prog 5 #[x] w fun e w'=>e=.returned (.bool (bndB d.flash))∧Below w.heap.size w w':=by
 obtain⟨fd,fc,va,vl,vc,ad,ln,cap,rfl,h1,h2,-⟩:=h.form;have bA:Below w.heap.size w (w.alloc (.cells #[.slice fd d.flash.length fc,.slice va vl vc,.slice ad ln cap,.int .i64 d.store.next,.int .i64 d.seq,.int .i64 d.tx,.int .i64 d.base] 45)):=(Below.refl _ _).alloc (Nat.le_refl _) _;have gA:DAt (w.alloc (.cells #[.slice fd d.flash.length fc,.slice va vl vc,.slice ad ln cap,.int .i64 d.store.next,.int .i64 d.seq,.int .i64 d.tx,.int .i64 d.base] 45)) w.heap.size (.slice fd d.flash.length fc) (.slice va vl vc) (.slice ad ln cap) d.store.next d.seq d.tx d.base:=heap_alloc_new w _;generalize hwa:w.alloc (.cells #[.slice fd d.flash.length fc,.slice va vl vc,.slice ad ln cap,.int .i64 d.store.next,.int .i64 d.seq,.int .i64 d.tx,.int .i64 d.base] 45)=wa at bA gA;obtain⟨rs,e1,i1,l1,ll1,tb1⟩:=(h1.below bA).lens h2;obtain⟨n,hn⟩:∃n,d.flash.length=n:=⟨_,rfl⟩;have hn6:n≤1048576:=by rw[←hn];exact h2.1
 have hrn:rs.length=n:=by rw[←hn,←e1,List.length_map]
 have CR:=hide (sroom_rd (.slice fd n fc) rs wa l1 ll1 (by rw[←hn];exact i1))
 have CS:=hide (fun(W:World) (b:Below wa.heap.size wa W)=>sscanO (.slice fd n fc) rs W l1 ll1 tb1 (by rw[←hn];exact i1.below b))
 rw[e1]at CR;simp only[e1]at CS;have HF:=hide i1;rw[hn]at HF gA;have HE1:=hide e1;have HRN:=hide hrn;have HLL:=hide ll1;have HN:=hide hn;have HB:=hide bA;have HG:=hide gA;obtain⟨R,hR⟩:∃R,bndB d.flash=R:=⟨_,rfl⟩;have HR:=hide hR;rw[hR];obtain⟨m,hm⟩:∃m,roomF d.flash=m:=⟨_,rfl⟩;rw[hm]at CR;have y0:=gA.cells.1;clear h h1 h2 bA gA e1 i1 l1 ll1 tb1 hR hm hrn;rw[hn]at hwa⊢;clear hn;go_enter Tryd.func5,Tryd.ntmps5;go_wp2;try rw[hwa]
 clear hwa;go_loopw [3,4] (fun pv bv wr=>∃(k p:Nat),pv=.int .i64 p∧bv=.int .i64 k∧k≤n∧p≤k*1048576∧Hid (p=pagesF (d.flash.take k))∧Hid ((d.flash.take k).all wearB=true)∧wr=wa) (fun _ bv _=>n-(intOf bv).toNat)
 case atStart=>exact⟨0,0,rfl,rfl,Nat.zero_le _,Nat.zero_le _,rfl,rfl,rfl⟩
 case round=>
  obtain⟨k,p,rfl,rfl,hk,hp,HP,HA,hwr⟩:=hrel;subst hwr;have hk0:(0:Int)≤k:=by omega
  have hp2:p≤1099511627776:=by have:=Nat.mul_le_mul_right 1048576 (Nat.le_trans hk hn6);omega
  by_cases hlt:(k:Int)<n
  ·obtain⟨r,hr⟩:∃r,rs[k]?=some r:=⟨_,List.getElem?_eq_getElem (by have:=HRN.out;omega)⟩
   have hrt:d.flash[k]?=some (tellOf r):=by rw[←HE1.out,List.getElem?_map,hr];rfl
   obtain⟨gv,e,⟨c1,c2,c3⟩,hlf⟩:=HF.out.at hr;subst e;have hml:=HLL.out r (List.mem_of_getElem? hr);obtain⟨ld,lcp,hu,-,-⟩:=hlf;have C:=hide (sin_any r.2.1 0 1000000000 wr);have HW:Hid (wearB (tellOf r)=decide (0≤r.2.1∧r.2.1≤1000000000)):=rfl;obtain⟨q,hq⟩:∃q,decide (0≤r.2.1∧r.2.1≤1000000000)=q:=⟨_,rfl⟩;rw[hq]at C HW;rw[hu]at c3;have HPT:Hid (pagesF (d.flash.take (k+1))=p+r.2.2.2.length):=by show _=_;rw[pagesF_take hrt,HP.out];rfl
   obtain⟨l,hl⟩:∃l,r.2.2.2.length=l:=⟨_,rfl⟩;rw[hl]at c3 HPT hml;have HRT:=hide hrt;clear hr hrt hq hu hl;cases q with
   |false=>
    have HE:Hid (R=false):=by show _=_;rw[←HR.out];exact bnd_no HRT.out HW.out
    go_wp2_with fail;refine C.out.mono ?_;rintro e w1 ⟨rfl,hw1⟩;have hw2:=hw1.symm;clear hw1;subst hw2;clear C;go_wp2;go_ret;rw[HE.out];exact⟨rfl,HB.out⟩
   |true=>
    have HA2:Hid ((d.flash.take (k+1)).all wearB=true):=bnd_all_take HRT.out HA.out HW.out;have hwr:IntKind.i64.wrap ((p:Int)+(l:Int))=((p+l:Nat):Int):=by rw[IntKind.wrap_i64];omega
    go_wp2_with fail;refine C.out.mono ?_;rintro e w1 ⟨rfl,hw1⟩;have hw2:=hw1.symm;clear hw1;subst hw2;clear C;go_wp2;go_roundw
    case rel=>exact⟨k+1,p+l,by go_num,by go_num,by omega,by rw[Nat.add_mul];omega,HPT.out.symm,HA2,trivial⟩
    case measure=>simp[intOf];omega
  ·have hkn:k=n:=by omega
   subst hkn;have hd:decide ((m:Int)≥0)=true:=decide_eq_true (by omega)
   have HE:Hid (R=decide ((scanF d.flash).length≤p)):=by
    have e1:=HP.out;have e2:=HA.out;rw[List.take_of_length_le (by have:=HN.out;omega)]at e1 e2
    show _=_;rw[←HR.out];unfold bndB;rw[e2,Bool.true_and,e1]
   clear HP HA HR;go_wp2_with fail;refine CR.out.mono ?_;rintro e w1 ⟨rfl,b1⟩;have y1:=(b1.cell (World.block_lt_of_cell? wr _ y0)).trans y0;have CT:=hide (CS.out w1 b1);have B1:=hide (HB.out.trans (b1.mono HB.out.size));clear CR CS b1 y0;go_wp2_with fail;unfold ScOut at CT;refine CT.out.mono ?_;rintro e w2 ⟨sa,sc,rfl,-,-,b2⟩;have B2:=hide (B1.out.trans (b2.mono B1.out.size));obtain⟨L,hL⟩:∃L,(scanF d.flash).length=L:=⟨_,rfl⟩;rw[hL]at HE;try rw[hL]
   clear CT b2 B1 hL y1;go_wp2;go_ret;rw[HE.out];exact⟨rfl,B2.out⟩
end Go.Proofs.YtpdoponghlpkcaaDoor
