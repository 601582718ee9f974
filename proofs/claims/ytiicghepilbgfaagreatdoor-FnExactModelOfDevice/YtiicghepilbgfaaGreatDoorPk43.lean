/-
  EqSto; StoTk; ToSto
-/
import Derived.Test.YtiicghepilbgfaaGreatDoorPk42
import Derived.Test.YtiicghepilbgfaaGreatDoorKnTo
import Derived.Test.YtiicghepilbgfaaGreatDoorPk40
import Derived.Test.YtiicghepilbgfaaGreatDoorPk1
set_option maxHeartbeats 1000000
set_option maxRecDepth 100000
namespace Go.Proofs.YtiicghepilbgfaaGreatDoor
open Go.RowKit
open Words
theorem szSto_any(va:Option Addr)(vl vc:Nat)(a:Option Addr)(len cap:Nat)(nx:Int)(rs:List Kw)(z0:Nat)(w:World)(hz0:z0≤1048576)(hvl:vl≤maxLen)(h:KnRd w a len rs):
 Calls Tryz.prog 23 #[.agg #[.slice va vl vc,.slice a len cap,.int .i64 nx],.int .i64 z0] w fun e w'=>(∃r:Int,e=.returned (.int .i64 r)∧-1≤r∧r≤z0∧(0≤r→r+vl+len+ksum rs≤z0))∧Below w.heap.size w w':=by
 have bA:=(Below.refl w.heap.size w).alloc (Nat.le_refl _) (.cells #[.slice va vl vc,.slice a len cap,.int .i64 nx] 41);have HB:=hide bA;have H:=hide (h.below bA);have GB:=hide (heap_alloc_new w (.cells #[.slice va vl vc,.slice a len cap,.int .i64 nx] 41));clear bA h;go_enter Tryz.func23,Tryz.ntmps23;go_wp2_with fail;generalize w.alloc (.cells #[.slice va vl vc,.slice a len cap,.int .i64 nx] 41)=wb at HB H GB⊢;have q1:=cell_of_row _ _ 1 _ _ _ GB.out;refine(szVls_any va vl vc z0 wb hz0 hvl).mono ?_;rintro e w1 ⟨⟨r0,rfl,r1,r2,r3⟩,rfl⟩;by_cases hr:r0<0
 ·go_wp2;go_ret;exact⟨⟨_,rfl,by omega,by omega,fun h=>by omega⟩,HB.out⟩
 ·obtain⟨y,rfl⟩:∃y:Nat,r0=y:=⟨r0.toNat,by omega⟩
  have h3:=r3 (by omega)
  have C:=hide (szAr_any a len cap rs y w1 (by omega) H.out)
  clear r3;go_wp2_with fail;refine C.out.mono ?_;rintro e w2 ⟨⟨s0,rfl,s1,s2,s3⟩,b2⟩;have B2:=hide (HB.out.trans (b2.mono HB.out.size));clear C b2;by_cases hs:s0<0
  ·go_wp2;go_ret;exact⟨⟨_,rfl,by omega,by omega,fun h=>by omega⟩,B2.out⟩
  ·have h4:=s3 (by omega)
   clear s3;go_wp2;go_ret;exact⟨⟨_,rfl,by omega,by omega,fun h=>by omega⟩,B2.out⟩
def OkS(s:Sto):Prop:=s.vols.length≤1048576∧OkK s.kns∧s.kns.length≤1048576∧kend (1+s.vols.length*2) s.kns≤1000000000
theorem OkS.fit{s:Sto}(h:OkS s):s.Fit:=⟨h.1,h.2.2.1,h.2.1.2.1⟩
theorem OkS.of{s:Sto}(h1:s.vols.length≤1048576)(h2:s.kns.length≤1048576)(h3:kkids s.kns≤1048576):OkS s:=
 ⟨h1,OkK.of h2 h3,h2,by rw[kend_eq];omega⟩
theorem eqvl_tk{w wi:World}{hs:List Hold}{a b:Value}{M:List (Int×Int)}{n l1 h1 l2 h2:Nat}(T:Tk w wi hs)(n1 n2:Nat)(hn:M.length=n)(hM:n≤1048576)(e1:hs[n1]?=some (l1,h1,Sli 72 l1 h1 a n (vlcells M)))(e2:hs[n2]?=some (l2,h2,Sli 72 l2 h2 b n (vlcells M))):
 Calls Tryz.prog 54 #[a,b] wi fun e w'=>e=.returned (.bool true)∧Tk w w' hs∧wi.heap.size≤w'.heap.size:=by
 have x1:=T.get n1 e1;have x2:=T.get n2 e2;rw[←hn]at x1 x2;refine(eqVls_same a b M l1 h1 l2 h2 wi (by omega) x1 x2).mono ?_
 rintro e w' ⟨rfl,hb⟩;exact⟨rfl,T.below hb,hb.size⟩
theorem eqsto_tk{w wi:World}{hs:List Hold}{v u:Value}{s:Sto}{l1 h1 l2 h2:Nat}(T:Tk w wi hs)(n1 n2:Nat)(ho:OkS s)(e1:hs[n1]?=some (l1,h1,Sts l1 h1 v s))(e2:hs[n2]?=some (l2,h2,Sts l2 h2 u s)):
 Calls Tryz.prog 31 #[v,u] wi fun e w'=>e=.returned (.bool true)∧Tk w w' hs∧wi.heap.size≤w'.heap.size:=by
 have k1:=T.hi n1 e1;have k2:=T.hi n2 e2;obtain⟨vv,kv,a1,b1,a2,b2,rfl,x1,x2,-,p2,-,p4,-⟩:=T.get n1 e1;obtain⟨uu,lv,c1,d1,c2,d2,rfl,y1,y2,-,q2,-,q4,-⟩:=T.get n2 e2;have T1:=(((T.put (show b1≤wi.heap.size by omega) (Sli.loc _ _ _ _ _ _) x1).put (show d1≤wi.heap.size by omega) (Sli.loc _ _ _ _ _ _) y1).put (show b2≤wi.heap.size by omega) (Kns.loc _ _ _ _) x2).put (show d2≤wi.heap.size by omega) (Kns.loc _ _ _ _) y2
 obtain⟨va,vc,rfl,-⟩:=x1.form;obtain⟨ua,uc,rfl,-⟩:=y1.form;obtain⟨ad,cap,rfl⟩:=x2.form;obtain⟨bd,cbp,rfl⟩:=y2.form;obtain⟨vs,kns,nx⟩:=s;obtain⟨o1,o2,-,-⟩:=ho;simp only at T1 o1 o2⊢;obtain⟨vl,hvl⟩:∃n,vs.length=n:=⟨_,rfl⟩;obtain⟨len,hlen⟩:∃n,kns.length=n:=⟨_,rfl⟩;rw[hvl,hlen]at T1⊢;have T2:=hide ((T1.cell #[.slice va vl vc,.slice ad len cap,.int .i64 nx] 55).celln (alloc_size rfl _) #[.slice ua vl uc,.slice bd len cbp,.int .i64 nx] 55);have HV:=hide hvl;have HO2:=hide o2;rw[hvl]at o1;have HO1:=hide o1;have hnn:(nx !=nx)=false:=by simp
 clear T T1 x1 x2 y1 y2 k1 k2 p2 p4 q2 q4 hvl hlen o1 o2 e1 e2;go_enter Tryz.func31,Tryz.ntmps31;go_wp2_with fail;generalize(wi.alloc (.cells #[.slice va vl vc,.slice ad len cap,.int .i64 nx] 55)).alloc (.cells #[.slice ua vl uc,.slice bd len cbp,.int .i64 nx] 55)=wb at T2⊢;refine(eqvl_tk T2.out 5 4 HV.out HO1.out rfl rfl).mono ?_;rintro e w1 ⟨rfl,t1,s1⟩;have T3:=hide t1;have m1:w1.cell? ⟨wi.heap.size,1,none⟩=some (.slice ad len cap):=T3.out.at 1 1 rfl rfl;have m2:w1.cell? ⟨wi.heap.size+1,1,none⟩=some (.slice bd len cbp):=T3.out.at 0 1 rfl rfl;clear t1 T2;go_wp2_with fail;refine(eqar_tk T3.out 3 2 HO2.out rfl rfl).mono ?_;rintro e w2 ⟨rfl,t2,s2⟩;have T4:=hide t2;have m3:w2.cell? ⟨wi.heap.size,2,none⟩=some (.int .i64 nx):=T4.out.at 1 2 rfl rfl;have m4:w2.cell? ⟨wi.heap.size+1,2,none⟩=some (.int .i64 nx):=T4.out.at 0 2 rfl rfl;clear t2 T3 m1 m2;go_wp2;go_ret;exact⟨rfl,T4.out.drop (fun x hx=>by simp only[List.mem_cons];exact .inr (.inr (.inr (.inr (.inr (.inr hx)))))),by have:=T4.out.hi 0 rfl;omega⟩
theorem Tk.setC{w wi:World}{hs hs':List Hold}{lo hi b:Nat}{cs cs':Array Value}{t:TypeId}(h:Tk w wi hs)(n:Nat)(hn:hs[n]?=some (lo,hi,Cel b cs t))(hb:w.heap.size≤b)(k:Nat)(u:Value)(hc:cs.setIfInBounds k u=cs')(hh:∀x∈hs',x∈hs∧(x.2.1≤b∨b+1≤x.1)):
 Tk w (wi.setCell ⟨b,k,none⟩ u) ((b,b+1,Cel b cs' t)::hs'):=by
 have hz:(wi.setCell ⟨b,k,none⟩ u).heap.size=wi.heap.size:=by simp[World.setCell]
 have h0:wi.heap[b]?=some (.cells cs t (0,0)):=h.get n hn;refine⟨h.1.setCell (p:=⟨b,k,none⟩) hb u,fun x hx=>?_⟩
 rcases List.mem_cons.1 hx with rfl|hx
 ·refine⟨?_,Cel.loc _ _ _,?_⟩
  ·have:=(Array.getElem?_eq_some_iff.1 h0).1;show b+1≤_;omega
  ·subst hc;exact heap_setCell_same _ _ k _ _ _ h0
 ·obtain⟨x1,x2⟩:=hh x hx;obtain⟨y1,y2,y3⟩:=h.2 x x1;exact⟨by omega,y2,y2 _ _ (fun g g1 g2=>Below.heap_setCell _ _ _ _ (show g≠b by omega)) y3⟩
theorem toSto_any(va:Option Addr)(vl vc:Nat)(ad:Option Addr)(len cap:Nat)(nx:Int)(vs:List (Int×Int))(rs:List Kw)(w:World)(hvl:vl≤1048576)(hl:len≤1048576)(hll:∀r∈rs,r.2.2.length≤1048576)(h:VlRow w va vl vs)(hk:KnRd w ad len rs):
 Calls Tryz.prog 27 #[.agg #[.slice va vl vc,.slice ad len cap,.int .i64 nx]] w fun e w'=>∃g1 g2:Nat,e=.returned (.agg #[.slice (some ⟨g1,0,none⟩) vl vl,.slice (some ⟨g2,0,none⟩) len len,.int .i64 nx])∧StOut w ⟨vs,rs.map ktell,nx⟩ (.agg #[.slice (some ⟨g1,0,none⟩) vl vl,.slice (some ⟨g2,0,none⟩) len len,.int .i64 nx]) w':=by
 have HVL:=hide h.1;have HL:=hide hll;have T0:=hide (Tk.three w #[.slice va vl vc,.slice ad len cap,.int .i64 nx] #[.slice none 0 0,.slice none 0 0,.int .i64 0] #[.slice none 0 0,.slice none 0 0,.int .i64 0] 41 55 55);have VB0:=hide h;have KB0:=hide hk;clear h hk hll;go_enter Tryz.func27,Tryz.ntmps27;go_wp2_with fail;generalize((w.alloc (.cells #[.slice va vl vc,.slice ad len cap,.int .i64 nx] 41)).alloc (.cells #[.slice none 0 0,.slice none 0 0,.int .i64 0] 55)).alloc (.cells #[.slice none 0 0,.slice none 0 0,.int .i64 0] 55)=wb at T0⊢;refine(toVls_any va vl vc vs wb hvl (VB0.out.below T0.out.1)).mono ?_;rintro e w1 ⟨g1,rfl,o1,b1⟩;have hz0:=T0.out.hi 0 rfl;have t1:=T0.out.add b1 (Sli.loc 72 wb.heap.size w1.heap.size (.slice (some ⟨g1,0,none⟩) vl vl) vs.length (vlcells vs)) (Sli.of o1);have f1:w1.frozen? ⟨w.heap.size+1+1,0,none⟩=false:=t1.fr 1 0 rfl;have c1:w1.cell? ⟨w.heap.size+1+1,0,none⟩=some (.slice none 0 0):=t1.at 1 0 rfl rfl;have T1:=hide (t1.setC 1 rfl (by omega) 0 (.slice (some ⟨g1,0,none⟩) vl vl) (cs':= #[.slice (some ⟨g1,0,none⟩) vl vl,.slice none 0 0,.int .i64 0]) rfl (hs':=[(wb.heap.size,w1.heap.size,Sli 72 wb.heap.size w1.heap.size (.slice (some ⟨g1,0,none⟩) vl vl) vs.length (vlcells vs)),(w.heap.size+1,w.heap.size+1+1,Cel (w.heap.size+1) #[.slice none 0 0,.slice none 0 0,.int .i64 0] 55),(w.heap.size,w.heap.size+1,Cel w.heap.size #[.slice va vl vc,.slice ad len cap,.int .i64 nx] 41)]) (by
  intro x hx;simp only[List.mem_cons,List.not_mem_nil,or_false]at hx;rcases hx with rfl|rfl|rfl
  ·exact⟨by simp,.inr (by show _≤_;omega)⟩
  ·exact⟨by simp,.inl (show w.heap.size+1+1≤w.heap.size+1+1 from Nat.le_refl _)⟩
  ·exact⟨by simp,.inl (show w.heap.size+1≤w.heap.size+1+1 by omega)⟩))
 have BB:=hide b1;have HZ0:=hide hz0;clear t1 o1 b1 hz0;have c2:(w1.setCell ⟨w.heap.size+1+1,0,none⟩ (.slice (some ⟨g1,0,none⟩) vl vl)).cell? ⟨w.heap.size,1,none⟩=some (.slice ad len cap):=T1.out.at 3 1 rfl rfl;go_wp2_with fail;generalize w1.setCell ⟨w.heap.size+1+1,0,none⟩ (.slice (some ⟨g1,0,none⟩) vl vl)=w2 at T1 c2⊢;clear f1 c1 c2;refine(toAr_any ad len cap rs w2 hl HL.out (KB0.out.below T1.out.1)).mono ?_;rintro e w3 ⟨g2,ss,rfl,hx,ht,b3⟩;have t3:=T1.out.add b3 (Kns.loc w2.heap.size w3.heap.size (.slice (some ⟨g2,0,none⟩) len len) (rs.map ktell)) ⟨ss,ht,hx.kns⟩;have hz2:Hid (w1.heap.size≤w2.heap.size):=T1.out.hi 1 rfl;have hz1:Hid (wb.heap.size≤w1.heap.size):=BB.out.size;have f3:w3.frozen? ⟨w.heap.size+1+1,1,none⟩=false:=t3.fr 1 1 rfl;have c3:w3.cell? ⟨w.heap.size+1+1,1,none⟩=some (.slice none 0 0):=t3.at 1 1 rfl rfl;have t4:=t3.setC 1 rfl (by omega) 1 (.slice (some ⟨g2,0,none⟩) len len) (cs':= #[.slice (some ⟨g1,0,none⟩) vl vl,.slice (some ⟨g2,0,none⟩) len len,.int .i64 0]) rfl (hs':=[(w2.heap.size,w3.heap.size,Kns w2.heap.size w3.heap.size (.slice (some ⟨g2,0,none⟩) len len) (rs.map ktell)),(wb.heap.size,w1.heap.size,Sli 72 wb.heap.size w1.heap.size (.slice (some ⟨g1,0,none⟩) vl vl) vs.length (vlcells vs)),(w.heap.size+1,w.heap.size+1+1,Cel (w.heap.size+1) #[.slice none 0 0,.slice none 0 0,.int .i64 0] 55),(w.heap.size,w.heap.size+1,Cel w.heap.size #[.slice va vl vc,.slice ad len cap,.int .i64 nx] 41)]) (by
  intro x hx;have h0:=HZ0.out;have h1:=hz1.out;have h2:=hz2.out;simp only[List.mem_cons,List.not_mem_nil,or_false]at hx;rcases hx with rfl|rfl|rfl|rfl
  ·exact⟨by simp,.inr (by show _≤_;omega)⟩
  ·exact⟨by simp,.inr (by show _≤_;omega)⟩
  ·exact⟨by simp,.inl (show w.heap.size+1+1≤w.heap.size+1+1 from Nat.le_refl _)⟩
  ·exact⟨by simp,.inl (show w.heap.size+1≤w.heap.size+1+1 by omega)⟩)
 have T4:=hide t4;clear t3 t4 T1;generalize HW4:w3.setCell ⟨w.heap.size+1+1,1,none⟩ (.slice (some ⟨g2,0,none⟩) len len)=w4 at T4;have c4:w4.cell? ⟨w.heap.size,2,none⟩=some (.int .i64 nx):=T4.out.at 4 2 rfl rfl;have f4:w4.frozen? ⟨w.heap.size+1+1,2,none⟩=false:=T4.out.fr 0 2 rfl;have d4:w4.cell? ⟨w.heap.size+1+1,2,none⟩=some (.int .i64 0):=T4.out.at 0 2 rfl rfl;have t5:=T4.out.setC 0 rfl (by omega) 2 (.int .i64 nx) (cs':= #[.slice (some ⟨g1,0,none⟩) vl vl,.slice (some ⟨g2,0,none⟩) len len,.int .i64 nx]) rfl (hs':=[(w2.heap.size,w3.heap.size,Kns w2.heap.size w3.heap.size (.slice (some ⟨g2,0,none⟩) len len) (rs.map ktell)),(wb.heap.size,w1.heap.size,Sli 72 wb.heap.size w1.heap.size (.slice (some ⟨g1,0,none⟩) vl vl) vs.length (vlcells vs)),(w.heap.size+1,w.heap.size+1+1,Cel (w.heap.size+1) #[.slice none 0 0,.slice none 0 0,.int .i64 0] 55)]) (by
  intro x hx;have h0:=HZ0.out;have h1:=hz1.out;have h2:=hz2.out;simp only[List.mem_cons,List.not_mem_nil,or_false]at hx;rcases hx with rfl|rfl|rfl
  ·exact⟨by simp,.inr (by show _≤_;omega)⟩
  ·exact⟨by simp,.inr (by show _≤_;omega)⟩
  ·exact⟨by simp,.inl (show w.heap.size+1+1≤w.heap.size+1+1 from Nat.le_refl _)⟩)
 have T5:=hide t5;clear t5 T4;generalize HW5:w4.setCell ⟨w.heap.size+1+1,2,none⟩ (.int .i64 nx)=w5 at T5;have e0:w5.cell? ⟨w.heap.size+1+1,0,none⟩=some (.slice (some ⟨g1,0,none⟩) vl vl):=T5.out.at 0 0 rfl rfl;have e1:w5.cell? ⟨w.heap.size+1+1,1,none⟩=some (.slice (some ⟨g2,0,none⟩) len len):=T5.out.at 0 1 rfl rfl;have e2:w5.cell? ⟨w.heap.size+1+1,2,none⟩=some (.int .i64 nx):=T5.out.at 0 2 rfl rfl;have k0:w5.cell? ⟨w.heap.size+1,0,none⟩=some (.slice none 0 0):=T5.out.at 3 0 rfl rfl;have k1:w5.cell? ⟨w.heap.size+1,1,none⟩=some (.slice none 0 0):=T5.out.at 3 1 rfl rfl;have k2:w5.cell? ⟨w.heap.size+1,2,none⟩=some (.int .i64 0):=T5.out.at 3 2 rfl rfl;have j0:w5.frozen? ⟨w.heap.size+1,0,none⟩=false:=T5.out.fr 3 0 rfl;have j1:w5.frozen? ⟨w.heap.size+1,1,none⟩=false:=T5.out.fr 3 1 rfl;have j2:w5.frozen? ⟨w.heap.size+1,2,none⟩=false:=T5.out.fr 3 2 rfl;have R5:=hide (sto_row3 (a:=.slice (some ⟨g1,0,none⟩) vl vl) (b:=.slice (some ⟨g2,0,none⟩) len len) (c:=.int .i64 nx) (T5.out.get 3 rfl));have FIN:Hid (StOut w ⟨vs,rs.map ktell,nx⟩ (.agg #[.slice (some ⟨g1,0,none⟩) vl vl,.slice (some ⟨g2,0,none⟩) len len,.int .i64 nx]) (((w5.setCell ⟨w.heap.size+1,0,none⟩ (.slice (some ⟨g1,0,none⟩) vl vl)).setCell ⟨w.heap.size+1,1,none⟩ (.slice (some ⟨g2,0,none⟩) len len)).setCell ⟨w.heap.size+1,2,none⟩ (.int .i64 nx))):=by
  have h0:=HZ0.out;have h1:=hz1.out;have h2:=hz2.out;have h3:=T5.out.hi 1 rfl;have h4:=T5.out.hi 2 rfl;exact st_fin (s:=⟨vs,rs.map ktell,nx⟩) (by omega) (T5.out.get 2 rfl) (T5.out.get 1 rfl) ⟨by omega,.inr (by omega)⟩ ⟨by omega,.inr (by omega)⟩ h4 h3 (.inl (by omega)) T5.out.1
 subst HW5;subst HW4;clear T5 T0;go_wp2;exact bodyPost_ret (results_cell_row rfl _ _ (w.heap.size+1) 55 _ (0,0) _ rfl R5.out Tryz.underlying55 rfl infoSto) rfl ⟨_,_,rfl,FIN.out⟩
end Go.Proofs.YtiicghepilbgfaaGreatDoor
