/-
  SGet; SAll; SRoots; VlApp; KnCp; Gate; SCopyS; CeRc; RcRow; TreeC; StoC; StH
-/
import Derived.Test.YtiicghepilbgfaaGreatDoorPk11
import Derived.Test.YtiicghepilbgfaaGreatDoorPk8
import Derived.Test.YtiicghepilbgfaaGreatDoorPk1
import Derived.Test.YtiicghepilbgfaaGreatDoorPk5
import Derived.Deep.RegionHeld3
import Derived.Deep.DeepCutAuto
import Derived.Laws.AppendOwnNone
import Derived.Test.YtiicghepilbgfaaGreatDoorPk0
import Derived.Test.YtiicghepilbgfaaGreatDoorPk2
set_option maxHeartbeats 400000
set_option maxRecDepth 100000
namespace Go.Proofs.YtiicghepilbgfaaGreatDoor
open Go.RowKit
open Words
theorem KnRd.kids{W:World}{b off len:Nat}{rs:List Kw}(h:KnRd W (some ⟨b,off,none⟩) len rs){k:Nat}{x:Kn}(hk:(rs.map ktell)[k]?=some x):
 ∃ka kc,W.cell? ⟨b,off+k*2,none⟩=some (.bool x.leaf)∧W.cell? ⟨b,off+k*2+1,none⟩=some (.slice ka x.kids.length kc)∧IRow W ka x.kids.length x.kids:=by
 rw[List.getElem?_map]at hk;obtain⟨r,hr,rfl⟩:=Option.map_eq_some_iff.1 hk;obtain⟨c0,c1⟩:=h.cell hr;obtain⟨ka,kc,e,-,kr⟩:=h.2.2.1 r (List.mem_of_getElem? hr);exact⟨ka,kc,c0,by rw[c1,e];rfl,kr⟩
theorem sget(ad:Option Addr)(len cap:Nat)(rs:List Kw)(r:Int)(s:Nat)(w:World)(hl:len≤1048578)(h:KnRd w ad len rs)(ha:arB (rs.map ktell)=true)(hr:rootB (rs.map ktell) r=true)(hs:s≤15):
 Calls Tryz.prog 101 #[.agg #[.slice ad len cap],.int .i64 r,.int .i64 s] w fun e w'=>e=.returned (.int .i64 (getP (rs.map ktell) r s))∧Below w.heap.size w w':=by
 have bx:=box_at w (.slice ad len cap);have B0:Hid (Below w.heap.size w (w.alloc (.cells #[.slice ad len cap] 53))):=(Below.refl _ _).alloc (Nat.le_refl _) _;have H:=hide (h.below B0.out);have hlL:(rs.map ktell).length=len:=by rw[List.length_map];exact h.1
 clear h;by_cases hneg:r<0
 ·have E:Hid (getP (rs.map ktell) r s=0):=if_pos hneg;rw[E.out];clear E ha hr hlL;go_enter Tryz.func101,Tryz.ntmps101;go_wp2;go_ret;exact⟨rfl,B0.out⟩
 ·obtain⟨m,rfl⟩:∃m:Nat,r=(m:Int):=⟨r.toNat,by omega⟩
  obtain⟨x,hx,hxl⟩:=rootB_pos hr (by omega)
  have hml:m<len:=by have:=(List.getElem?_eq_some_iff.1 hx).1;rw[hlL]at this;simpa using this
  obtain⟨b,off,e,-⟩:=H.out.adr (by omega)
  subst e;obtain⟨q,hq⟩:∃q,s/4=q:=⟨_,rfl⟩;obtain⟨t,ht⟩:∃t,s % 4=t:=⟨_,rfl⟩;have hq4:q<4:=by omega
  have ht4:t<4:=by omega
  have tq:(s:Int).tdiv 4=(q:Int):=by rw[Int.tdiv_eq_ediv_of_nonneg (by omega)];omega
  have tt:(s:Int).tmod 4=(t:Int):=by rw[Int.tmod_eq_emod_of_nonneg (by omega)];omega
  have tq2:(s:Int)/4=(q:Int):=by omega
  have tt2:(s:Int) % 4=(t:Int):=by omega
  have x4:=knB_len (arB_at ha hx);obtain⟨n,hn,hcase⟩:=inner_kid ha hx hxl hq4;have hka:kidAt (rs.map ktell) (m:Int) q=n:=kidAt_some hx hn;obtain⟨ka,kc,-,c1,kr⟩:=H.out.kids hx;rw[x4]at c1 kr;simp only[Int.toNat_natCast]at c1;obtain⟨kb,ko,e,-,kncell⟩:=kr.at hn;subst e;have m0:(0:Int)≤m:=by omega
  have mL:(m:Int)<len:=by omega
  have q0:(0:Int)≤q:=by omega
  have q4:(q:Int)<4:=by omega
  rcases hcase with rfl|⟨n0,nm,y,hy,hyl,hy4⟩
  ·have E:Hid (getP (rs.map ktell) (m:Int) s=0):=by show _=_;rw[getP,if_neg hneg,hq,hka,if_pos (by omega)]
   rw[E.out];clear E ha hr hlL hq ht hka hn hx kr hneg H x4;go_enter Tryz.func101,Tryz.ntmps101;go_wp2;go_ret;exact⟨rfl,B0.out⟩
  ·obtain⟨j,rfl⟩:∃j:Nat,n=(j:Int):=⟨n.toNat,by omega⟩
   obtain⟨v,hv,-⟩:=leaf_kid ha hy hyl ht4;have hkb:kidAt (rs.map ktell) (j:Int) t=v:=kidAt_some hy hv;obtain⟨la,lc,-,d1,lr⟩:=H.out.kids hy;rw[hy4]at d1 lr;simp only[Int.toNat_natCast]at d1;obtain⟨lb,lo,e,-,lcell⟩:=lr.at hv;subst e;have j0:(0:Int)≤j:=by omega
   have jL:(j:Int)<len:=by simp only[Int.toNat_natCast]at nm;omega
   have t0:(0:Int)≤t:=by omega
   have t4:(t:Int)<4:=by omega
   have E:Hid (getP (rs.map ktell) (m:Int) s=v):=by show _=_;rw[getP,if_neg hneg,hq,ht,hka,if_neg (by omega),hkb]
   rw[E.out];clear E ha hr hlL hq ht hka hkb hn hx kr lr hneg H x4 hy hv hy4 nm n0;go_enter Tryz.func101,Tryz.ntmps101;go_wp2;go_ret;exact⟨rfl,B0.out⟩
theorem sgetAt(ad:Option Addr)(len cap:Nat)(rs:List Kw)(r s:Int)(w:World)(hl:len≤1048578)(h:KnRd w ad len rs):
 Calls Tryz.prog 67 #[.agg #[.slice ad len cap],.int .i64 r,.int .i64 s] w fun e w'=>e=.returned (.int .i64 (getT (rs.map ktell) r s))∧Below w.heap.size w w':=by
 have BX:=hide (box_at w (.slice ad len cap));have B0:Hid (Below w.heap.size w (w.alloc (.cells #[.slice ad len cap] 53))):=(Below.refl _ _).alloc (Nat.le_refl _) _;have H:=hide (h.below B0.out);have HZ:=hide (show w.heap.size<(w.alloc (.cells #[.slice ad len cap] 53)).heap.size by simp)
 clear h;have bx:=BX.out;go_enter Tryz.func67,Tryz.ntmps67;go_wp2_with fail;generalize w.alloc (.cells #[.slice ad len cap] 53)=wb at BX bx B0 H HZ⊢;obtain⟨z,hz⟩:∃z,w.heap.size=z:=⟨_,rfl⟩;rw[hz]at BX bx HZ⊢;refine(sarOk ad len cap rs wb hl H.out).mono ?_;rintro e w1 ⟨rfl,b1⟩;have BX1:=hide ((b1.cell (show z<wb.heap.size from HZ.out)).trans BX.out);have B1:=hide b1;clear bx b1;have bx:=BX1.out;have HF1:Hid (Below w.heap.size w w1):=B0.out.trans (B1.out.mono B0.out.size);cases hA:arB (rs.map ktell)with
 |false=>
  have E:Hid (getT (rs.map ktell) r s=0):=if_neg (by rw[askB,hA];simp)
  clear hA;go_wp2;go_ret;exact⟨congrArg (fun q=>Ending.returned (.int .i64 q)) E.out.symm,HF1.out⟩
 |true=>
  have HA:=hide hA;go_wp2_with fail;refine(sroot ad len cap rs r w1 hl (H.out.below B1.out)).mono ?_;rintro e w2 ⟨rfl,b2⟩;have BX2:=hide ((b2.cell (show z<w1.heap.size from Nat.lt_of_lt_of_le HZ.out B1.out.size)).trans BX1.out);have B2:=hide (B1.out.trans (b2.mono B1.out.size));clear bx b2 hA;have bx:=BX2.out;have HF2:Hid (Below w.heap.size w w2):=B0.out.trans (B2.out.mono B0.out.size);cases hR:rootB (rs.map ktell) r with
  |false=>
   have E:Hid (getT (rs.map ktell) r s=0):=if_neg (by rw[askB,hR];simp)
   clear hR;go_wp2;go_ret;exact⟨congrArg (fun q=>Ending.returned (.int .i64 q)) E.out.symm,HF2.out⟩
  |true=>
   have HR:=hide hR;clear hR;go_wp2_with fail;refine(sin_any s 0 15 _).mono ?_;rintro e w3 ⟨rfl,rfl⟩;by_cases hin:0≤s∧s≤15
   ·have hask:askB (rs.map ktell) r s=true:=by rw[askB,HA.out,HR.out,decide_eq_true hin.1,decide_eq_true hin.2];rfl
    have E:Hid (getT (rs.map ktell) r s=getP (rs.map ktell) r s.toNat):=if_pos hask;rw[decide_eq_true hin];obtain⟨t,rfl⟩:∃t:Nat,s=(t:Int):=⟨s.toNat,by omega⟩
    simp only[Int.toNat_natCast]at E;have ht:t≤15:=by omega
    clear hask hin;go_wp2_with fail;refine(sget ad len cap rs r t _ hl (H.out.below B2.out) HA.out HR.out ht).mono ?_;rintro e w4 ⟨rfl,b4⟩;have HF:=hide (HF2.out.trans (b4.mono HF2.out.size));clear b4;go_wp2;go_ret;exact⟨congrArg (fun q=>Ending.returned (.int .i64 q)) E.out.symm,HF.out⟩
   ·have E:Hid (getT (rs.map ktell) r s=0):=if_neg (by
     rw[askB];simp only[Bool.and_eq_true,decide_eq_true_eq];rintro⟨-,h1,h2⟩;exact hin ⟨h1,h2⟩)
    rw[decide_eq_false hin];clear hin;go_wp2;go_ret;exact⟨congrArg (fun q=>Ending.returned (.int .i64 q)) E.out.symm,HF2.out⟩
theorem infoSto:(Tryz.prog.info? 55).map (·.size)=some 3:=by kernel_rfl
abbrev SBox(va:Option Addr)(vl vc:Nat)(ad:Option Addr)(len cap:Nat)(nx:Int):Array Value:= #[.slice va vl vc,.slice ad len cap,.int .i64 nx]
theorem sbox_at(w:World)(a b c:Value):(w.alloc (.cells #[a,b,c] 55)).cell? ⟨w.heap.size,0,none⟩=some a∧(w.alloc (.cells #[a,b,c] 55)).cell? ⟨w.heap.size,1,none⟩=some b∧(w.alloc (.cells #[a,b,c] 55)).cell? ⟨w.heap.size,2,none⟩=some c:=by
 have h:=heap_alloc_new w (.cells #[a,b,c] 55);exact⟨cell_of_row _ _ 0 _ _ _ h,cell_of_row _ _ 1 _ _ _ h,cell_of_row _ _ 2 _ _ _ h⟩
def atI:Option Nat→Int
 |some k=>k
 |none=> -1
theorem satV(va:Option Addr)(vl vc:Nat)(ad:Option Addr)(len cap:Nat)(nx:Int)(vs:List (Int×Int))(id:Int)(w:World)(hl:vl≤1048578)(h:VlRow w va vl vs):
 Calls Tryz.prog 43 #[.agg (SBox va vl vc ad len cap nx),.int .i64 id] w fun e w'=>e=.returned (.int .i64 (atI (atV vs id)))∧Below w.heap.size w w':=by
 have BX:=hide (sbox_at w (.slice va vl vc) (.slice ad len cap) (.int .i64 nx)).1;have B0:Hid (Below w.heap.size w (w.alloc (.cells #[.slice va vl vc,.slice ad len cap,.int .i64 nx] 55))):=(Below.refl _ _).alloc (Nat.le_refl _) _;have H:=hide (h.below B0.out);have HVL:=hide h.1;have HZ:=hide (show w.heap.size<(w.alloc (.cells #[.slice va vl vc,.slice ad len cap,.int .i64 nx] 55)).heap.size by simp)
 clear h;unfold SBox;go_enter Tryz.func43,Tryz.ntmps43;go_wp2_with fail;generalize w.alloc (.cells #[.slice va vl vc,.slice ad len cap,.int .i64 nx] 55)=wb at BX B0 H HZ⊢;obtain⟨z,hz⟩:∃z,w.heap.size=z:=⟨_,rfl⟩;rw[hz]at BX HZ⊢;have HZW:=hide hz;clear hz;go_loopw [5] (fun kv W=>∃k:Nat,k≤vl∧kv=.int .i64 k∧Hid (atK vs id k=none)∧Hid (Below wb.heap.size wb W)) (fun kv _=>vl-(intOf kv).toNat)
 case atStart=>exact⟨0,Nat.zero_le _,rfl,(rfl:atK vs id 0=none),Below.refl _ _⟩
 case round=>
  obtain⟨k,hk,rfl,HN,HW⟩:=hrel;have bx:=(HW.out.cell (show z<wb.heap.size from HZ.out)).trans BX.out;have HF:Hid (Below w.heap.size w wr):=B0.out.trans (HW.out.mono B0.out.size);rw[HZW.out]at HF;by_cases hlt:(k:Int)<vl
  ·have hv:=List.getElem?_eq_getElem (show k<vs.length by have:=HVL.out;omega)
   generalize vs[k]'(by have:=HVL.out;omega)=v at hv
   obtain⟨b,off,e,hb,c0,c1⟩:=(H.out.below HW.out).at hv;subst e;have k0:(0:Int)≤k:=by omega
   by_cases hid:(v.1==id)=true
   ·have HE:Hid (atV vs id=some k):=atK_yes HN.out hv (by simpa using hid) _ (by have:=HVL.out;omega)
    clear hv;go_wp2;go_ret;exact⟨by rw[HE.out];rfl,by rw[HZW.out];exact HF.out⟩
   ·have HE:Hid (atK vs id (k+1)=none):=atK_no HN.out hv (by simpa using hid)
    clear hv;go_wp2;go_roundw
    case rel=>exact⟨k+1,by omega,by go_num,HE,HW⟩
    case measure=>simp[intOf];omega
  ·have HE:Hid (atV vs id=none):=by
    have e:k=vs.length:=by have:=HVL.out;omega
    have:=HN.out;rw[e]at this;exact this
   go_wp2;go_ret;exact⟨by rw[HE.out];rfl,by rw[HZW.out];exact HF.out⟩
def VlSl(W:World)(v:Value)(ls:List (Int×Int)):Prop:=∃a c,v=.slice a ls.length c∧(a=none→c=0)∧VlRow W a ls.length ls
theorem VlSl.of{lo hi:Nat}{v:Value}{ls:List (Int×Int)}{W:World}(h:Sli 72 lo hi v ls.length (vlcells ls) W)(hm:ls.length≤maxLen)(hh:hi≤W.heap.size):VlSl W v ls:=by
 rcases h with⟨rfl,h0⟩|⟨g,cap,rfl,h1,h2,h3⟩
 ·exact⟨none,0,by rw[h0],fun _=>rfl,rfl,hm,by simp,fun h=>by omega⟩
 ·refine⟨_,_,rfl,(fun e=>by cases e),rfl,hm,by simp,fun _=>⟨g,0,rfl,by omega,fun i t hi=>?_⟩⟩
  have hc:=fun j v hj=>h3.cell (vlcells_at ls i t hi j v hj)
  refine⟨?_,?_⟩
  ·simpa using hc 0 _ rfl
  ·simpa using hc 1 _ rfl
def StOut(w:World)(s:Sto)(v:Value)(w':World):Prop:=
 ∃vv kv lo1 hi1 lo2 hi2,v=.agg #[vv,kv,.int .i64 s.next]∧Sli 72 lo1 hi1 vv s.vols.length (vlcells s.vols) w'∧Kns lo2 hi2 kv s.kns w'∧w.heap.size≤lo1∧hi1≤w'.heap.size∧w.heap.size≤lo2∧hi2≤w'.heap.size∧(hi1≤lo2∨hi2≤lo1)∧Below w.heap.size w w'
def GetC(f:Nat):Prop:=∀(ad:Option Addr) (len cap:Nat) (rs:List Kw) (r s:Int) (w:World),len≤1048578→KnRd w ad len rs→Calls Tryz.prog f #[.agg #[.slice ad len cap],.int .i64 r,.int .i64 s] w fun e w'=>e=.returned (.int .i64 (getT (rs.map ktell) r s))∧Below w.heap.size w w'
theorem Kns.rd{W:World}{lo hi n c:Nat}{ad:Option Addr}{M:List Kn}(h:Kns lo hi (.slice ad n c) M W)(hn:M.length=n)(hh:hi≤W.heap.size):∃rs,rs.map ktell=M∧KnRd W ad n rs:=by
 obtain⟨rs,e,hx⟩:=h;exact⟨rs,e,hx.rd (by rw[←hn,←e,List.length_map]) hh⟩
def StIn(w:World)(v:Value)(s:Sto):Prop:=
 ∃va vl vc ad len cap rs,v=.agg (SBox va vl vc ad len cap s.next)∧s.kns=rs.map ktell∧vl≤1048576∧len≤1048576∧(∀r∈rs,r.2.2.length≤1048576)∧(va=none→vc=0)∧VlRow w va vl s.vols∧KnRd w ad len rs
theorem StIn.below{w w':World}{v:Value}{s:Sto}(h:StIn w v s)(hb:Below w.heap.size w w'):StIn w' v s:=by
 obtain⟨va,vl,vc,ad,len,cap,rs,h1,h2,h3,h4,h5,h6,h7,h8⟩:=h;exact⟨va,vl,vc,ad,len,cap,rs,h1,h2,h3,h4,h5,h6,h7.below hb,h8.below hb⟩
def Words.Sto.Fit(s:Sto):Prop:=s.vols.length≤1048576∧s.kns.length≤1048576∧∀k∈s.kns,k.kids.length≤1048576
theorem StOut.blw{w w':World}{v:Value}{s:Sto}(h:StOut w s v w'):Below w.heap.size w w':=by
 obtain⟨vv,kv,lo1,hi1,lo2,hi2,-,-,-,-,-,-,-,-,h⟩:=h;exact h
theorem sto_row3{w:World}{g:Nat}{x0 x1 x2 a b c:Value}(h:w.heap[g]?=some (.cells #[x0,x1,x2] 55 (0,0))):(((w.setCell ⟨g,0,none⟩ a).setCell ⟨g,1,none⟩ b).setCell ⟨g,2,none⟩ c).heap[g]?=some (.cells #[a,b,c] 55 (0,0)):=heap_setCell_same _ _ 2 _ _ _ (heap_setCell_same _ _ 1 _ _ _ (heap_setCell_same _ _ 0 _ _ _ h))
theorem st_fin{w W:World}{z lo1 hi1 lo2 hi2:Nat}{vv kv:Value}{s:Sto}(hz:w.heap.size≤z)(h1:Sli 72 lo1 hi1 vv s.vols.length (vlcells s.vols) W)(h2:Kns lo2 hi2 kv s.kns W)(a1:w.heap.size≤lo1∧(hi1≤z∨z<lo1))(a2:w.heap.size≤lo2∧(hi2≤z∨z<lo2))(a3:hi1≤W.heap.size)(a4:hi2≤W.heap.size)(a5:hi1≤lo2∨hi2≤lo1)(hb:Below w.heap.size w W):
 StOut w s (.agg #[vv,kv,.int .i64 s.next]) (((W.setCell ⟨z,0,none⟩ vv).setCell ⟨z,1,none⟩ kv).setCell ⟨z,2,none⟩ (.int .i64 s.next)):=by
 have hz2:(((W.setCell ⟨z,0,none⟩ vv).setCell ⟨z,1,none⟩ kv).setCell ⟨z,2,none⟩ (.int .i64 s.next)).heap.size=W.heap.size:=by simp[World.setCell]
 have hq:∀q,q≠z→(((W.setCell ⟨z,0,none⟩ vv).setCell ⟨z,1,none⟩ kv).setCell ⟨z,2,none⟩ (.int .i64 s.next)).heap[q]?=W.heap[q]?:=fun q q1=>(Below.heap_setCell _ _ _ _ q1).trans ((Below.heap_setCell _ _ _ _ q1).trans (Below.heap_setCell _ _ _ _ q1))
 refine⟨vv,kv,lo1,hi1,lo2,hi2,rfl,?_,?_,a1.1,by omega,a2.1,by omega,a5,?_⟩
 ·exact Sli.loc _ _ _ _ _ _ W _ (fun g g1 g2=>hq g (by omega)) h1
 ·exact Kns.loc _ _ _ _ W _ (fun g g1 g2=>hq g (by omega)) h2
 ·exact((hb.setCell (p:=⟨z,0,none⟩) hz _).setCell (p:=⟨z,1,none⟩) hz _).setCell (p:=⟨z,2,none⟩) hz _
def ChunkC(f:Nat):Prop:=∀(v:Value) (s:Sto) (vol sec:Int) (w:World),StIn w v s→Calls Tryz.prog f #[v,.int .i64 vol,.int .i64 sec] w fun e w'=>e=.returned (.int .i64 (chunkS s vol sec))∧Below w.heap.size w w'
end Go.Proofs.YtiicghepilbgfaaGreatDoor
