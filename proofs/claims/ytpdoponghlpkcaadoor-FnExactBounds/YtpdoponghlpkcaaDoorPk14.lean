/-
  ToVlS; EqSto; StoTk
-/
import Derived.Test.YtpdoponghlpkcaaDoorPk8
import Derived.Test.YtpdoponghlpkcaaDoorPk13
import Derived.Test.YtpdoponghlpkcaaDoorPk4
import Derived.Deep.RegionHeld3
import Derived.Test.YtpdoponghlpkcaaDoorKnTo
import Derived.Test.YtpdoponghlpkcaaDoorPk11
set_option maxHeartbeats 800000
set_option maxRecDepth 100000
namespace Go.Proofs.YtpdoponghlpkcaaDoor
open Go.RowKit
theorem szVls_any(a:Option Addr)(len cap:Nat)(z0:Nat)(w:World)(hz0:z0≤1048576)(hl:len≤maxLen):
 Calls Tryd.prog 22 #[.slice a len cap,.int .i64 z0] w fun e w'=>(∃r:Int,e=.returned (.int .i64 r)∧-1≤r∧r≤z0∧(0≤r→r+len≤z0))∧w'=w:=by
 unfold maxLen at hl;have hw:IntKind.i64.wrap ((z0:Int)-len)=(z0:Int)-len:=by rw[IntKind.wrap_i64];omega
 by_cases hlt:(z0:Int)-len<0
 ·go_enter Tryd.func22,Tryd.ntmps22;go_wp2;go_ret;exact⟨⟨_,rfl,by omega,by omega,fun h=>by omega⟩,rfl⟩
 ·go_enter Tryd.func22,Tryd.ntmps22;go_wp2;go_ret;exact⟨⟨_,rfl,by omega,by omega,fun h=>by omega⟩,rfl⟩
theorem vlcells_put(ls:List (Int×Int))(R:List Value)(j:Nat)(x0:Int)(x1:Int)(hj:ls[j]?=some (x0,x1))(hR:R.length=ls.length*2):
 ((vlcells (ls.take j)++R.drop (j*2)).set (j*2) (.int .i64 x0)).set (j*2+1) (.int .i64 x1)=vlcells (ls.take (j+1))++R.drop ((j+1)*2):=by
 obtain⟨hj1,hj2⟩:=List.getElem?_eq_some_iff.1 hj;have hm:(vlcells (ls.take j)).length=j*2:=by rw[vlcells_len,List.length_take];congr 1;omega
 have e2:vlcells [(x0,x1)]=[.int .i64 x0,.int .i64 x1]:=rfl;have e3:ls.take (j+1)=ls.take j++[(x0,x1)]:=by rw[List.take_succ_eq_append_getElem hj1,hj2]
 rw[e3,vlcells_app,e2,List.set_append_right _ _ (by omega),List.set_append_right _ _ (by omega),hm,Nat.sub_self,Nat.add_sub_cancel_left,List.append_assoc]
 rw[List.drop_eq_getElem_cons (show j*2<R.length by omega),List.drop_eq_getElem_cons (show j*2+1<R.length by omega),show(j+1)*2=j*2+1+1 by omega]
 rfl
theorem toVls_any(a:Option Addr)(len cap:Nat)(ls:List (Int×Int))(w:World)(hl:len≤1048576)(h:VlRow w a len ls):
 Calls Tryd.prog 27 #[.slice a len cap] w fun e w'=>∃g:Nat,e=.returned (.slice (some ⟨g,0,none⟩) len len)∧w'.ownsRow w.heap.size 100 2 (.slice (some ⟨g,0,none⟩) len len) ls.length (vlcells ls)∧Below w.heap.size w w':=by
 obtain⟨i0,hi,hz0,hz1,hz2⟩:=info_parts infoVl;obtain⟨h1,-,-,h4⟩:=h;have H4:=hide h4;have H1:=hide h1;clear h4 h1;go_enter Tryd.func27,Tryd.ntmps27;go_wp2_with (at_make;refine wpList_make_full _ rfl _ _ 38 rfl w.heap.size 100 i0 (.agg #[.int .i64 0,.int .i64 0]) 2 Tryd.underlying38 hi hz0 hz1 .i64 .i64 _ _ len rfl rfl rfl rfl (by rw[hz2];omega) (by unfold maxLen;omega) (Nat.le_refl _) ?_)
 intro w1 hown hgrow;generalize(madeCells #[Value.int .i64 0,Value.int .i64 0] (len*2)).toList=R at hown;have HR:Hid (R.length=ls.length*2):=by show _=_;rw[H1.out];exact hown.1
 have HO:=hide hown;have HB1:=hide ((Below.refl w.heap.size w).grown hgrow (Nat.le_refl _) (fun k hk=>by cases hk))
 have hg1:=(hown.lt w.heap.size rfl).2;clear hown hgrow;go_wp2;go_loopw [4] (fun iv wr=>∃k:Nat,k≤len∧iv=.int .i64 k∧Hid (wr.ownsRow w.heap.size 100 2 (.slice (some ⟨w.heap.size,0,none⟩) len len) len (vlcells (ls.take k)++R.drop (k*2)))∧Hid (Below w.heap.size w wr)) (fun iv _=>len-(intOf iv).toNat)
 case atStart=>exact⟨0,Nat.zero_le _,rfl,HO,HB1⟩
 case round=>
  obtain⟨k,hk,rfl,HO2,HW⟩:=hrel;have hsz:=HW.out.size;by_cases hkl:(k:Int)<len
  ·obtain⟨b,off,rfl,hb,hc⟩:=H4.out (by omega)
   have hl1:=H1.out;have hkl2:k<ls.length:=by omega
   obtain⟨x0,x1,ht⟩:∃x0 x1,ls[k]?=some (x0,x1):=⟨ls[k].1,ls[k].2,List.getElem?_eq_getElem hkl2⟩;obtain⟨c0,c1⟩:=hc k (x0,x1) ht;rw[←HW.out.cell (show b<w.heap.size from hb)]at c0 c1;simp only at c0 c1;have k0:(0:Int)≤k:=by omega
   clear hc hl1;go_wp2_with fail;refine(toVl_any x0 x1 _).mono ?_;rintro e w3 ⟨rfl,hb3⟩;have o3:=own_below HO2.out hb3;have hlen3:(vlcells (ls.take k)++R.drop (k*2)).length=len*2:=HO2.out.1;have e3:∀d,d<2→∃u,w3.cell? ⟨w.heap.size,k*2+d,none⟩=some u:=by
    intro d hd;have:=o3.cells (g:=w.heap.size) rfl (k*2+d) _ (List.getElem?_eq_getElem (by rw[hlen3];omega))
    rw[addr_at]at this;exact⟨_,this⟩
   obtain⟨u0,d0⟩:=e3 0 (by omega)
   obtain⟨u1,d1⟩:=e3 1 (by omega)
   rw[Nat.add_zero]at d0;have f0:=o3.frozenAt (k*2);have f1:=o3.frozenAt (k*2+1);have o6:=fown_set (fown_set o3 rfl (k*2) (.int .i64 x0)) rfl (k*2+1) (.int .i64 x1);rw[vlcells_put ls R k x0 x1 ht HR.out]at o6;have b6:=(((HW.out.trans (hb3.mono hsz)).setCell (p:=⟨w.heap.size,k*2,none⟩) (Nat.le_refl _) (.int .i64 x0)).setCell (p:=⟨w.heap.size,k*2+1,none⟩) (Nat.le_refl _) (.int .i64 x1));have O6:=hide o6;have B6:=hide b6;clear o3 o6 b6 hlen3 e3 hb3 HW HO2 c0 c1 ht hkl2;go_wp2;go_roundw
   case rel=>exact⟨k+1,by omega,by go_num,O6,B6⟩
   case measure=>simp[intOf];omega
  ·have hke:k=len:=by omega
   have hO:=HO2.out;have hl1:=H1.out;have hr1:=HR.out;rw[hke,List.take_of_length_le (by omega),List.drop_eq_nil_of_le (by omega),List.append_nil]at hO
   have HO3:=hide hO;clear hO hke hl1 hr1;go_wp2;go_ret;exact⟨_,rfl,(by rw[H1.out];exact HO3.out),HW.out⟩
end Go.Proofs.YtpdoponghlpkcaaDoor
namespace Go.Proofs.YtpdoponghlpkcaaDoor
open Go.RowKit
open Words
theorem szSto_any(va:Option Addr)(vl vc:Nat)(a:Option Addr)(len cap:Nat)(nx:Int)(rs:List Kw)(z0:Nat)(w:World)(hz0:z0≤1048576)(hvl:vl≤maxLen)(h:KnRd w a len rs):
 Calls Tryd.prog 10 #[.agg #[.slice va vl vc,.slice a len cap,.int .i64 nx],.int .i64 z0] w fun e w'=>(∃r:Int,e=.returned (.int .i64 r)∧-1≤r∧r≤z0∧(0≤r→r+vl+len+ksum rs≤z0))∧Below w.heap.size w w':=by
 have bA:=(Below.refl w.heap.size w).alloc (Nat.le_refl _) (.cells #[.slice va vl vc,.slice a len cap,.int .i64 nx] 30);have HB:=hide bA;have H:=hide (h.below bA);have GB:=hide (heap_alloc_new w (.cells #[.slice va vl vc,.slice a len cap,.int .i64 nx] 30));clear bA h;go_enter Tryd.func10,Tryd.ntmps10;go_wp2_with fail;generalize w.alloc (.cells #[.slice va vl vc,.slice a len cap,.int .i64 nx] 30)=wb at HB H GB⊢;have q1:=cell_of_row _ _ 1 _ _ _ GB.out;refine(szVls_any va vl vc z0 wb hz0 hvl).mono ?_;rintro e w1 ⟨⟨r0,rfl,r1,r2,r3⟩,rfl⟩;by_cases hr:r0<0
 ·go_wp2;go_ret;exact⟨⟨_,rfl,by omega,by omega,fun h=>by omega⟩,HB.out⟩
 ·obtain⟨y,rfl⟩:∃y:Nat,r0=y:=⟨r0.toNat,by omega⟩
  have h3:=r3 (by omega)
  have C:=hide (szAr_any a len cap rs y w1 (by omega) H.out)
  clear r3;go_wp2_with fail;refine C.out.mono ?_;rintro e w2 ⟨⟨s0,rfl,s1,s2,s3⟩,b2⟩;have B2:=hide (HB.out.trans (b2.mono HB.out.size));clear C b2;by_cases hs:s0<0
  ·go_wp2;go_ret;exact⟨⟨_,rfl,by omega,by omega,fun h=>by omega⟩,B2.out⟩
  ·have h4:=s3 (by omega)
   clear s3;go_wp2;go_ret;exact⟨⟨_,rfl,by omega,by omega,fun h=>by omega⟩,B2.out⟩
def OkS(s:Sto):Prop:=s.vols.length≤1048576∧OkK s.kns∧s.kns.length≤1048576∧kend (1+s.vols.length*2) s.kns≤1000000000
theorem OkS.fit{s:Sto}(h:OkS s):s.Fit:=⟨h.1,h.2.2.1,h.2.1.2.1⟩
theorem OkS.of{s:Sto}(h1:s.vols.length≤1048576)(h2:s.kns.length≤1048576)(h3:kkids s.kns≤1048576):OkS s:=
 ⟨h1,OkK.of h2 h3,h2,by rw[kend_eq];omega⟩
theorem eqvl_tk{w wi:World}{hs:List Hold}{a b:Value}{M:List (Int×Int)}{n l1 h1 l2 h2:Nat}(T:Tk w wi hs)(n1 n2:Nat)(hn:M.length=n)(hM:n≤1048576)(e1:hs[n1]?=some (l1,h1,Sli 100 l1 h1 a n (vlcells M)))(e2:hs[n2]?=some (l2,h2,Sli 100 l2 h2 b n (vlcells M))):
 Calls Tryd.prog 35 #[a,b] wi fun e w'=>e=.returned (.bool true)∧Tk w w' hs∧wi.heap.size≤w'.heap.size:=by
 have x1:=T.get n1 e1;have x2:=T.get n2 e2;rw[←hn]at x1 x2;refine(eqVls_same a b M l1 h1 l2 h2 wi (by omega) x1 x2).mono ?_
 rintro e w' ⟨rfl,hb⟩;exact⟨rfl,T.below hb,hb.size⟩
theorem eqsto_tk{w wi:World}{hs:List Hold}{v u:Value}{s:Sto}{l1 h1 l2 h2:Nat}(T:Tk w wi hs)(n1 n2:Nat)(ho:OkS s)(e1:hs[n1]?=some (l1,h1,Sts l1 h1 v s))(e2:hs[n2]?=some (l2,h2,Sts l2 h2 u s)):
 Calls Tryd.prog 20 #[v,u] wi fun e w'=>e=.returned (.bool true)∧Tk w w' hs∧wi.heap.size≤w'.heap.size:=by
 have k1:=T.hi n1 e1;have k2:=T.hi n2 e2;obtain⟨vv,kv,a1,b1,a2,b2,rfl,x1,x2,-,p2,-,p4,-⟩:=T.get n1 e1;obtain⟨uu,lv,c1,d1,c2,d2,rfl,y1,y2,-,q2,-,q4,-⟩:=T.get n2 e2;have T1:=(((T.put (show b1≤wi.heap.size by omega) (Sli.loc _ _ _ _ _ _) x1).put (show d1≤wi.heap.size by omega) (Sli.loc _ _ _ _ _ _) y1).put (show b2≤wi.heap.size by omega) (Kns.loc _ _ _ _) x2).put (show d2≤wi.heap.size by omega) (Kns.loc _ _ _ _) y2
 obtain⟨va,vc,rfl,-⟩:=x1.form;obtain⟨ua,uc,rfl,-⟩:=y1.form;obtain⟨ad,cap,rfl⟩:=x2.form;obtain⟨bd,cbp,rfl⟩:=y2.form;obtain⟨vs,kns,nx⟩:=s;obtain⟨o1,o2,-,-⟩:=ho;simp only at T1 o1 o2⊢;obtain⟨vl,hvl⟩:∃n,vs.length=n:=⟨_,rfl⟩;obtain⟨len,hlen⟩:∃n,kns.length=n:=⟨_,rfl⟩;rw[hvl,hlen]at T1⊢;have T2:=hide ((T1.cell #[.slice va vl vc,.slice ad len cap,.int .i64 nx] 43).celln (alloc_size rfl _) #[.slice ua vl uc,.slice bd len cbp,.int .i64 nx] 43);have HV:=hide hvl;have HO2:=hide o2;rw[hvl]at o1;have HO1:=hide o1;have hnn:(nx !=nx)=false:=by simp
 clear T T1 x1 x2 y1 y2 k1 k2 p2 p4 q2 q4 hvl hlen o1 o2 e1 e2;go_enter Tryd.func20,Tryd.ntmps20;go_wp2_with fail;generalize(wi.alloc (.cells #[.slice va vl vc,.slice ad len cap,.int .i64 nx] 43)).alloc (.cells #[.slice ua vl uc,.slice bd len cbp,.int .i64 nx] 43)=wb at T2⊢;refine(eqvl_tk T2.out 5 4 HV.out HO1.out rfl rfl).mono ?_;rintro e w1 ⟨rfl,t1,s1⟩;have T3:=hide t1;have m1:w1.cell? ⟨wi.heap.size,1,none⟩=some (.slice ad len cap):=T3.out.at 1 1 rfl rfl;have m2:w1.cell? ⟨wi.heap.size+1,1,none⟩=some (.slice bd len cbp):=T3.out.at 0 1 rfl rfl;clear t1 T2;go_wp2_with fail;refine(eqar_tk T3.out 3 2 HO2.out rfl rfl).mono ?_;rintro e w2 ⟨rfl,t2,s2⟩;have T4:=hide t2;have m3:w2.cell? ⟨wi.heap.size,2,none⟩=some (.int .i64 nx):=T4.out.at 1 2 rfl rfl;have m4:w2.cell? ⟨wi.heap.size+1,2,none⟩=some (.int .i64 nx):=T4.out.at 0 2 rfl rfl;clear t2 T3 m1 m2;go_wp2;go_ret;exact⟨rfl,T4.out.drop (fun x hx=>by simp only[List.mem_cons];exact .inr (.inr (.inr (.inr (.inr (.inr hx)))))),by have:=T4.out.hi 0 rfl;omega⟩
end Go.Proofs.YtpdoponghlpkcaaDoor
