/-
  IBnd
-/
import Derived.Test.YtpdoponghlpkcaaDoorPk3
import Derived.Test.YtpdoponghlpkcaaDoorDvTk
import Derived.Test.YtpdoponghlpkcaaDoorPk22
import Derived.Test.YtpdoponghlpkcaaDoorPk45
import Derived.Test.YtpdoponghlpkcaaDoorLawBn
set_option maxHeartbeats 2000000
set_option maxRecDepth 100000
namespace Go.Proofs.YtpdoponghlpkcaaDoor
open Go.RowKit
open Words Sums Pack
theorem iwithinB(x lo hi:Int)(b:Bool)(w:World)(h:(lo≤x∧x≤hi∧b=true)∨((x<lo∨lo≤x∧¬x≤hi)∧b=false)):
 Calls Tryd.prog 16 #[.int .i64 x,.int .i64 lo,.int .i64 hi] w fun e w'=>e=.returned (.bool b)∧w'=w:=by
 rcases h with⟨h1,h2,rfl⟩|⟨h1|⟨h1,h2⟩,rfl⟩
 all_goals
  go_enter Tryd.func16,Tryd.ntmps16;go_wp2;go_ret;exact⟨rfl,rfl⟩
theorem iwithin_any(x lo hi:Int)(w:World):
 Calls Tryd.prog 16 #[.int .i64 x,.int .i64 lo,.int .i64 hi] w fun e w'=>e=.returned (.bool (decide (lo≤x∧x≤hi)))∧w'=w:=by
 apply iwithinB;by_cases h:lo≤x∧x≤hi
 ·exact .inl ⟨h.1,h.2,decide_eq_true h⟩
 ·exact .inr ⟨by omega,decide_eq_false h⟩
theorem ibnd(x:Value)(d:Dv)(lo hi:Nat)(w:World)(hd:Dvs lo hi x d w)(hh:hi≤w.heap.size)(ho:OkD d)(hv:HalvIn w):Calls Tryd.prog 7 #[x] w fun e w'=>e=.returned (.bool (bndB d.flash))∧Below w.heap.size w w':=by
 have hsm:Sml d.flash:=ho.fit.1;obtain⟨fd,fc,va,vl,vc,ad,ln,cap,ex⟩:=hd.form;obtain⟨fv,vv,kv,lo1,hi1,lo2,hi2,rfl,⟨rs,e1,fi⟩,-,h3,h4,-⟩:=hd;injection ex with ex
 injection ex with ex
 simp only[List.cons.injEq,and_true]at ex;obtain⟨rfl,rfl,rfl⟩:=ex;have bA:Below w.heap.size w (w.alloc (.cells #[.slice fd d.flash.length fc,.slice va vl vc,.slice ad ln cap,.int .i64 d.store.next,.int .i64 d.seq,.int .i64 d.tx,.int .i64 d.base] 45)):=(Below.refl _ _).alloc (Nat.le_refl _) _;have gA:DAt (w.alloc (.cells #[.slice fd d.flash.length fc,.slice va vl vc,.slice ad ln cap,.int .i64 d.store.next,.int .i64 d.seq,.int .i64 d.tx,.int .i64 d.base] 45)) w.heap.size (.slice fd d.flash.length fc) (.slice va vl vc) (.slice ad ln cap) d.store.next d.seq d.tx d.base:=heap_alloc_new w _;generalize hwa:w.alloc (.cells #[.slice fd d.flash.length fc,.slice va vl vc,.slice ad ln cap,.int .i64 d.store.next,.int .i64 d.seq,.int .i64 d.tx,.int .i64 d.base] 45)=wa at bA gA;obtain⟨n,hn⟩:∃n,d.flash.length=n:=⟨_,rfl⟩;have hn6:n≤1048576:=by rw[←hn];exact hsm.1
 have hrn:rs.length=n:=by rw[←hn,←e1,List.length_map]
 have l1:rs.length≤1048576:=by omega
 have ll1:∀r∈rs,r.2.2.2.length≤1048576:=fun r hr=>(hsm.2 (tellOf r) (by rw[←e1];exact List.mem_map_of_mem hr)).1
 have tb1:TxB rs:=fun r hr=>(hsm.2 (tellOf r) (by rw[←e1];exact List.mem_map_of_mem hr)).2
 rw[hn]at fi gA;have hhi:hi1≤wa.heap.size:=by have:=bA.size;omega
 have fi2:FlashIn wa lo1 hi1 (.slice fd n fc) rs:=fi.below bA (by omega)
 have CR:=hide (fun(W:World) (b:Below wa.heap.size wa W)=>iroom_any (.slice fd n fc) rs lo1 hi1 W l1 ll1 (by have:=b.size;omega) (fi2.below b hhi))
 have CS:=hide (fun(W:World) (b:Below wa.heap.size wa W)=>iscanO (.slice fd n fc) rs W l1 ll1 tb1 (fi2.rd.below b) ((hv.on bA).on b))
 simp only[e1]at CS CR;have HF:=hide fi2.rd;have HE1:=hide e1;have HRN:=hide hrn;have HLL:=hide ll1;have HN:=hide hn;have HB:=hide bA;have HG:=hide gA;obtain⟨R,hR⟩:∃R,bndB d.flash=R:=⟨_,rfl⟩;have HR:=hide hR;rw[hR];obtain⟨m,hm⟩:∃m,roomF d.flash=m:=⟨_,rfl⟩;rw[hm]at CR;have y0:=gA.cells.1;have HW0:Hid (w.heap.size<wa.heap.size):=gA.lt;clear ho hh hv h3 h4 fi fi2 hhi bA gA e1 l1 ll1 tb1 hR hm hrn hsm;rw[hn]at hwa⊢;clear hn;go_enter Tryd.func7,Tryd.ntmps7;go_wp2;try rw[hwa]
 clear hwa;go_loopw [3,10] (fun pv bv wr=>∃(k p:Nat),pv=.int .i64 p∧bv=.int .i64 k∧k≤n∧p≤k*1048576∧Hid (p=pagesF (d.flash.take k))∧Hid ((d.flash.take k).all wearB=true)∧Hid (Below wa.heap.size wa wr)) (fun _ bv _=>n-(intOf bv).toNat)
 case atStart=>exact⟨0,0,rfl,rfl,Nat.zero_le _,Nat.zero_le _,rfl,rfl,Below.refl _ _⟩
 case round=>
  obtain⟨k,p,rfl,rfl,hk,hp,HP,HA,HWR⟩:=hrel;have y1:=(HWR.out.cell HW0.out).trans y0;clear y0;have hk0:(0:Int)≤k:=by omega
  have hp2:p≤1099511627776:=by have:=Nat.mul_le_mul_right 1048576 (Nat.le_trans hk hn6);omega
  by_cases hlt:(k:Int)<n
  ·obtain⟨r,hr⟩:∃r,rs[k]?=some r:=⟨_,List.getElem?_eq_getElem (by have:=HRN.out;omega)⟩
   have hrt:d.flash[k]?=some (tellOf r):=by rw[←HE1.out,List.getElem?_map,hr];rfl
   obtain⟨gv,e,⟨c1,c2,c3⟩,hlf⟩:=(HF.out.below HWR.out).at hr;subst e;have hml:=HLL.out r (List.mem_of_getElem? hr);obtain⟨ld,lcp,hu,-,-⟩:=hlf;have C:=hide (fun(W:World)=>iwithin_any r.2.1 0 1000000000 W)
   have HW:Hid (wearB (tellOf r)=decide (0≤r.2.1∧r.2.1≤1000000000)):=rfl;obtain⟨q,hq⟩:∃q,decide (0≤r.2.1∧r.2.1≤1000000000)=q:=⟨_,rfl⟩;rw[hq]at C HW;rw[hu]at c3;have HPT:Hid (pagesF (d.flash.take (k+1))=p+r.2.2.2.length):=by show _=_;rw[pagesF_take hrt,HP.out];rfl
   obtain⟨l,hl⟩:∃l,r.2.2.2.length=l:=⟨_,rfl⟩;rw[hl]at c3 HPT hml;have HRT:=hide hrt;generalize r.1=rb at c1;generalize hrw:r.2.1=rx at c2 C;clear hr hrt hq hu hl hrw;cases q with
   |false=>
    have HE:Hid (R=false):=by show _=_;rw[←HR.out];exact bnd_no HRT.out HW.out
    have B2:=hide (HB.out.trans ((HWR.out.alloc HWR.out.size (.cells #[.bool rb,.int .i64 rx,.slice ld l lcp] 54)).mono HB.out.size));go_wp2_with fail;refine(C.out _).mono ?_;rintro e w1 ⟨rfl,rfl⟩;clear C;go_wp2;go_ret;rw[HE.out];exact⟨rfl,B2.out⟩
   |true=>
    have HA2:Hid ((d.flash.take (k+1)).all wearB=true):=bnd_all_take HRT.out HA.out HW.out;have hwr:IntKind.i64.wrap ((p:Int)+(l:Int))=((p+l:Nat):Int):=by rw[IntKind.wrap_i64];omega
    have B2:=hide (HWR.out.alloc HWR.out.size (.cells #[.bool rb,.int .i64 rx,.slice ld l lcp] 54));go_wp2_with fail;refine(C.out _).mono ?_;rintro e w1 ⟨rfl,rfl⟩;clear C;go_wp2;go_roundw
    case rel=>exact⟨k+1,p+l,by go_num,by go_num,by omega,by rw[Nat.add_mul];omega,HPT.out.symm,HA2,B2⟩
    case measure=>simp[intOf];omega
  ·have hkn:k=n:=by omega
   subst hkn;have hd:decide ((m:Int)≥0)=true:=decide_eq_true (by omega)
   have HE:Hid (R=decide ((scanF d.flash).length≤p)):=by
    have e1:=HP.out;have e2:=HA.out;rw[List.take_of_length_le (by have:=HN.out;omega)]at e1 e2
    show _=_;rw[←HR.out];unfold bndB;rw[e2,Bool.true_and,e1]
   clear HP HA HR;have CR1:=hide (CR.out wr HWR.out);go_wp2_with fail;refine CR1.out.mono ?_;rintro e w1 ⟨rfl,b1⟩;have y2:=(b1.cell (World.block_lt_of_cell? wr _ y1)).trans y1;have BW1:=hide (HWR.out.trans (b1.mono HWR.out.size));have CT:=hide (CS.out w1 BW1.out);clear CR CS CR1 b1 y1;go_wp2_with fail;unfold ScOut at CT;refine CT.out.mono ?_;rintro e w2 ⟨sa,sc,rfl,-,-,b2⟩;have B2:=hide (HB.out.trans ((BW1.out.trans (b2.mono BW1.out.size)).mono HB.out.size));obtain⟨L,hL⟩:∃L,(scanF d.flash).length=L:=⟨_,rfl⟩;rw[hL]at HE;try rw[hL]
   clear CT b2 BW1 hL y2;go_wp2;go_ret;rw[HE.out];exact⟨rfl,B2.out⟩
theorem ibndC:lawBnC 7:=fun x d lo hi w h hh ho hv=>ibnd x d lo hi w h hh ho hv
end Go.Proofs.YtpdoponghlpkcaaDoor
