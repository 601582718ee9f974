/-
  IClone; ICopy; IAt; ISmall; INext; IBlk; IOk; IUse; After; IProg; AfterW; IWipe; StRd; CeVl; VlRow; SArOk
-/
import Derived.Test.YtiicghepilbgfaaGreatDoorPk9
import Derived.Test.YtiicghepilbgfaaGreatDoorShelf
import Derived.Test.YtiicghepilbgfaaGreatDoorPk8
import Derived.Deep.AppendLies
import Derived.Test.YtiicghepilbgfaaGreatDoorPk7
import Derived.Test.YtiicghepilbgfaaGreatDoorPk0
import Derived.Test.YtiicghepilbgfaaGreatDoorPk2
set_option maxHeartbeats 2000000
set_option maxRecDepth 100000
namespace Go.Proofs.YtiicghepilbgfaaGreatDoor
open Go.RowKit
theorem fclone_any(s:ByteArray)(w:World)(hs:s.size≤1048576):
 Calls Tryz.prog 147 #[.string s] w fun e w'=>e=.returned (.string s)∧Below w.heap.size w w':=by
 go_enter Tryz.func147,Tryz.ntmps147;go_wp2_with fail;refine(Tryz.stringslite_Clone s _ (by omega)).mono ?_
 rintro e w' ⟨rfl,hb⟩;go_wp2;go_ret;exact⟨rfl,hb⟩
theorem iat_in(g n cap k:Nat)(w:World)(_hn:n≤1048576)(hk:k<n):
 Calls Tryz.prog 145 #[.agg #[.slice (some ⟨g,0,none⟩) n cap],.int .i64 k] w fun e w'=>e=.returned (.pointer (some ⟨g,k*3,none⟩))∧Below w.heap.size w w':=by
 have HB:=hide ((Below.refl w.heap.size w).alloc (Nat.le_refl _) (.cells #[.slice (some ⟨g,0,none⟩) n cap] 49));have h1:(0:Int)≤k:=by omega
 have h2:(k:Int)<n:=by omega
 go_enter Tryz.func145,Tryz.ntmps145;go_wp2;go_ret;exact⟨rfl,HB.out⟩
theorem iat_out(ad:Option Addr)(n cap:Nat)(b:Int)(w:World)(_hn:n≤1048576)(hb:¬(0≤b∧b≤(n:Int)-1)):
 Calls Tryz.prog 145 #[.agg #[.slice ad n cap],.int .i64 b] w fun e w'=>e=.returned (.pointer none)∧Below w.heap.size w w':=by
 have HB:=hide ((Below.refl w.heap.size w).alloc (Nat.le_refl _) (.cells #[.slice ad n cap] 49));by_cases h0:b<0
 ·go_enter Tryz.func145,Tryz.ntmps145;go_wp2;go_ret;exact⟨rfl,HB.out⟩
 ·have h1:(n:Int)≤b:=by omega
  clear hb;go_enter Tryz.func145,Tryz.ntmps145;go_wp2;go_ret;exact⟨rfl,HB.out⟩
theorem ilat_off(g o gl lo n cap k:Nat)(w:World)(_hn:n≤1048576)(hk:k<n)(hc:w.cell? ⟨g,o+2,none⟩=some (.slice (some ⟨gl,lo,none⟩) n cap)):
 Calls Tryz.prog 146 #[.pointer (some ⟨g,o,none⟩),.int .i64 k] w fun e w'=>e=.returned (.pointer (some ⟨gl,lo+k*2,none⟩))∧w'=w:=by
 have h1:(0:Int)≤k:=by omega
 have h2:(k:Int)<n:=by omega
 go_enter Tryz.func146,Tryz.ntmps146;go_wp2;go_ret;exact⟨rfl,rfl⟩
theorem ilat_out(g o n cap:Nat)(ad:Option Addr)(b:Int)(w:World)(_hn:n≤1048576)(hb:¬(0≤b∧b≤(n:Int)-1))(hc:w.cell? ⟨g,o+2,none⟩=some (.slice ad n cap)):
 Calls Tryz.prog 146 #[.pointer (some ⟨g,o,none⟩),.int .i64 b] w fun e w'=>e=.returned (.pointer none)∧w'=w:=by
 by_cases h0:b<0
 ·go_enter Tryz.func146,Tryz.ntmps146;go_wp2;go_ret;exact⟨rfl,rfl⟩
 ·have h1:(n:Int)≤b:=by omega
  clear hb;go_enter Tryz.func146,Tryz.ntmps146;go_wp2;go_ret;exact⟨rfl,rfl⟩
def RdB(w:World)(v:Value)(bs:List Bk):Prop:=∃rs:List Rw,rs.map tellOf=bs∧FlashRd w v rs
def Sml(bs:List Bk):Prop:=bs.length≤1048576∧∀r∈bs,r.2.2.length≤1048576∧∀t∈r.2.2,t.2.size≤1048576
theorem RdB.below{w w':World}{v:Value}{bs:List Bk}(h:RdB w v bs)(hb:Below w.heap.size w w'):RdB w' v bs:=by
 obtain⟨rs,e,h⟩:=h;exact⟨rs,e,h.below hb⟩
theorem RdB.form{w:World}{v:Value}{bs:List Bk}(h:RdB w v bs):∃ad cap,v=.slice ad bs.length cap:=by
 obtain⟨rs,rfl,vd,vc,e,-⟩:=h;exact⟨vd,vc,by rw[e,List.length_map]⟩
theorem Fla.rdb{w:World}{lo hi:Nat}{v:Value}{bs:List Bk}(h:Fla lo hi v bs w):RdB w v bs:=by
 obtain⟨ss,e,h⟩:=h;exact⟨ss,e,h.rd⟩
theorem RdB.lens{w:World}{v:Value}{bs:List Bk}(h:RdB w v bs)(hs:Sml bs):∃rs:List Rw,rs.map tellOf=bs∧FlashRd w v rs∧rs.length≤1048576∧(∀r∈rs,r.2.2.2.length≤1048576)∧TxB rs:=by
 obtain⟨rs,rfl,h⟩:=h;refine⟨rs,rfl,h,by have:=hs.1;rwa [List.length_map]at this,fun r hr=>(hs.2 _ (List.mem_map_of_mem (f:=tellOf) hr)).1,fun r hr t ht=>(hs.2 _ (List.mem_map_of_mem (f:=tellOf) hr)).2 t ht⟩
def vlcell(t:Int×Int):List Value:=[.int .i64 t.1,.int .i64 t.2]
def vlcells(l:List (Int×Int)):List Value:=l.flatMap vlcell
theorem vlcells_len(l:List (Int×Int)):(vlcells l).length=l.length*2:=by
 induction l with
 |nil=>rfl
 |cons t l ih=>simp[vlcells,vlcell]at ih⊢;omega
theorem vlcells_app(a b:List (Int×Int)):vlcells (a++b)=vlcells a++vlcells b:=by simp[vlcells]
theorem vlcells_cons(t:Int×Int)(l:List (Int×Int)):vlcells (t::l)=vlcell t++vlcells l:=by simp[vlcells]
theorem vlcells_at(l:List (Int×Int))(k:Nat)(t:Int×Int)(h:l[k]?=some t)(j:Nat)(v:Value)(hj:(vlcell t)[j]?=some v):(vlcells l)[k*2+j]?=some v:=by
 have hlt:j<2:=(List.getElem?_eq_some_iff.1 hj).1
 induction l generalizing k with
 |nil=>simp at h
 |cons a l ih=>
  rw[vlcells_cons];cases k with
  |zero=>
   simp at h;subst h;rw[List.getElem?_append_left (by show _<2;omega),Nat.zero_mul,Nat.zero_add]
   exact hj
  |succ k=>
   rw[List.getElem?_append_right (by show 2≤_;omega),show(k+1)*2+j-(vlcell a).length=k*2+j by show _-2=_;omega]
   exact ih k (by simpa using h)
theorem infoVl:(Tryz.prog.info? 72).map (fun i=>(i.zero,i.size,i.bytes))=some (some (.agg #[.int .i64 0,.int .i64 0]),2,16):=by kernel_rfl
theorem infoVlz:(Tryz.prog.info? 72).map (·.size)=some 2:=by kernel_rfl
def VlRow(w:World)(a:Option Addr)(len:Nat)(ls:List (Int×Int)):Prop:=
 ls.length=len∧len≤maxLen∧(∀t∈ls,True)∧(0<len→∃b off,a=some ⟨b,off,none⟩∧b<w.heap.size∧∀i t,ls[i]?=some t→w.cell? ⟨b,off+i*2,none⟩=some (.int .i64 t.1)∧w.cell? ⟨b,off+i*2+1,none⟩=some (.int .i64 t.2))
theorem VlRow.below{w w':World}{a:Option Addr}{len:Nat}{ls:List (Int×Int)}(h:VlRow w a len ls)(hb:Below w.heap.size w w'):VlRow w' a len ls:=by
 obtain⟨h1,h2,h3,h4⟩:=h;refine⟨h1,h2,h3,fun h0=>?_⟩
 obtain⟨b,off,e,hl,hc⟩:=h4 h0;have hs:=hb.size;refine⟨b,off,e,by omega,fun i t ht=>?_⟩
 obtain⟨c0,c1⟩:=hc i t ht;exact⟨(hb.cell (show b<w.heap.size from hl)).trans c0,(hb.cell (show b<w.heap.size from hl)).trans c1⟩
theorem VlRow.at{w:World}{a:Option Addr}{len:Nat}{ls:List (Int×Int)}(h:VlRow w a len ls){k:Nat}{t:Int×Int}(hk:ls[k]?=some t):
 ∃b off,a=some ⟨b,off,none⟩∧b<w.heap.size∧w.cell? ⟨b,off+k*2,none⟩=some (.int .i64 t.1)∧w.cell? ⟨b,off+k*2+1,none⟩=some (.int .i64 t.2):=by
 obtain⟨h1,-,-,h4⟩:=h;have hl:=(List.getElem?_eq_some_iff.1 hk).1;obtain⟨b,off,e,hb,hc⟩:=h4 (by omega)
 obtain⟨c0,c1⟩:=hc k t hk;exact⟨b,off,e,hb,c0,c1⟩
end Go.Proofs.YtiicghepilbgfaaGreatDoor
namespace Go.Proofs.YtiicghepilbgfaaGreatDoor
open Go.RowKit
open Words
theorem box_at(w:World)(v:Value):(w.alloc (.cells #[v] 53)).cell? ⟨w.heap.size,0,none⟩=some v:=(cell_of_row _ _ 0 _ _ _ (heap_alloc_new w _)).trans rfl
theorem kw_at{rs:List Kw}{i:Nat}{r:Kw}(h:rs[i]?=some r):(rs.map ktell)[i]?=some (ktell r):=by rw[List.getElem?_map,h];rfl
theorem sarOk(ad:Option Addr)(len cap:Nat)(rs:List Kw)(w:World)(hl:len≤1048578)(h:KnRd w ad len rs):
 Calls Tryz.prog 99 #[.agg #[.slice ad len cap]] w fun e w'=>e=.returned (.bool (arB (rs.map ktell)))∧Below w.heap.size w w':=by
 have H1:=hide h.1;have BX:=hide (box_at w (.slice ad len cap));have B0:Hid (Below w.heap.size w (w.alloc (.cells #[.slice ad len cap] 53))):=(Below.refl _ _).alloc (Nat.le_refl _) _;have H:=hide (h.below B0.out);have hzz:w.heap.size<(w.alloc (.cells #[.slice ad len cap] 53)).heap.size:=by simp
 have HZ:=hide hzz;clear h hzz;obtain⟨L,hL⟩:∃L,rs.map ktell=L:=⟨_,rfl⟩;have HL:=hide hL;rw[hL];clear hL;go_enter Tryz.func99,Tryz.ntmps99;go_wp2;generalize w.alloc (.cells #[.slice ad len cap] 53)=wb at BX B0 H HZ⊢;obtain⟨z,hz⟩:∃z,w.heap.size=z:=⟨_,rfl⟩;rw[hz]at BX HZ⊢;have HZW:=hide hz;clear hz;go_loopw [3] (fun iv W=>∃i:Nat,i≤len∧iv=.int .i64 i∧Hid (arK L i=true)∧Hid (Below wb.heap.size wb W)) (fun iv _=>len-(intOf iv).toNat)
 case atStart=>exact⟨0,Nat.zero_le _,rfl,rfl,Below.refl _ _⟩
 case round=>
  obtain⟨i,hi,rfl,HA,HW⟩:=hrel;have bx:=(HW.out.cell (show z<wb.heap.size from HZ.out)).trans BX.out;by_cases hlt:(i:Int)<len
  ·obtain⟨r,hr⟩:∃r,rs[i]?=some r:=⟨_,List.getElem?_eq_getElem (by have:=H1.out;omega)⟩
   obtain⟨b,off,e,hb⟩:=H.out.adr (by omega)
   subst e;have KR:=hide (H.out.below HW.out);obtain⟨c0,c1⟩:=KR.out.cell hr;have KI:=KR.out.2.2.1 r (List.mem_of_getElem? hr);have hLr:L[i]?=some (ktell r):=by rw[←HL.out];exact kw_at hr
   obtain⟨lf,kv,ks⟩:=r;simp only at c0 c1 KI;simp only[ktell]at hLr;obtain⟨ka,kc,e,-,kr⟩:=KI;subst e;have KROW:=hide kr;have HLR:=hide hLr;obtain⟨kl,hkl⟩:∃kl,ks.length=kl:=⟨_,rfl⟩;have HKL:=hide hkl;rw[hkl]at c1 KROW;have klm:kl≤maxLen:=KROW.out.2.1;unfold maxLen at klm;clear kr hLr hkl hr hb;have i0:(0:Int)≤i:=by omega
   have BA:Hid (Below wr.heap.size wr (wr.alloc (.cells #[.bool lf,.slice ka kl kc] 176))):=(Below.refl _ _).alloc (Nat.le_refl _) _;have X0:Hid ((wr.alloc (.cells #[.bool lf,.slice ka kl kc] 176)).cell? ⟨wr.heap.size,0,none⟩=some (.bool lf)∧(wr.alloc (.cells #[.bool lf,.slice ka kl kc] 176)).cell? ⟨wr.heap.size,1,none⟩=some (.slice ka kl kc)):=⟨(cell_of_row _ _ 0 _ _ _ (heap_alloc_new wr _)).trans rfl,(cell_of_row _ _ 1 _ _ _ (heap_alloc_new wr _)).trans rfl⟩;by_cases hk4:kl=4
   ·subst hk4;have n4:((4:Int) !=4)=false:=by simp
    go_wp2;clear n4;have WX:Hid (Below wb.heap.size wb (wr.alloc (.cells #[.bool lf,.slice ka 4 kc] 176))):=HW.out.trans (BA.out.mono HW.out.size);have KX:=hide (KR.out.below BA.out);have KRX:=hide (KROW.out.below BA.out);have bx2:=(WX.out.cell (show z<wb.heap.size from HZ.out)).trans BX.out;have x0:=X0.out.1;have x1:=X0.out.2;clear X0 BA KR KROW c0 c1 bx;obtain⟨y,hy⟩:∃y,wr.heap.size=y:=⟨_,rfl⟩;rw[hy]at x0 x1⊢;clear hy;generalize wr.alloc (.cells #[.bool lf,.slice ka 4 kc] 176)=wx at x0 x1 bx2 WX KX KRX⊢;go_loopw [5] (fun kv W=>∃k:Nat,k≤4∧kv=.int .i64 k∧Hid (∀j n,j<k→ks[j]?=some n→kidB L i lf n=true)∧W=wx) (fun kv _=>4-(intOf kv).toNat)
    case atStart=>exact⟨0,Nat.zero_le _,rfl,(fun j n hj=>by omega),rfl⟩
    case round=>
     obtain⟨k,hk,rfl,HKS,rfl⟩:=hrel;by_cases hk4:(k:Int)<4
     ·obtain⟨n,hn⟩:∃n,ks[k]?=some n:=⟨_,List.getElem?_eq_getElem (by have:=HKL.out;omega)⟩
      obtain⟨kb,ko,e,-,kcell⟩:=KRX.out.at hn;subst e;have k0:(0:Int)≤k:=by omega
      have BAD:Hid (kidB L i lf n=false→arB L=false):=fun hb=>arB_bad HLR.out (knB_bad (x:=⟨lf,ks⟩) hn hb)
      have GOOD:Hid (kidB L i lf n=true→∀j n',j<k+1→ks[j]?=some n'→kidB L i lf n'=true):=by
       intro hg j n' hj hn';by_cases e:j=k
       ·subst e;rw[hn]at hn';injection hn' with e2;rw[←e2];exact hg
       ·exact HKS.out j n' (by omega) hn'
      clear hn HKS;cases lf with
      |true=>
       by_cases hneg:n<0
       ·have E:=hide (BAD.out (by simp only[kidB,if_true];exact decide_eq_false (by omega)))
        go_wp2;go_ret;exact⟨congrArg (fun q=>Ending.returned (.bool q)) E.out.symm,B0.out.trans (WX.out.mono B0.out.size)⟩
       ·have E:=hide (GOOD.out (by simp only[kidB,if_true];exact decide_eq_true (by omega)))
        go_wp2;go_roundw
        case rel=>exact⟨k+1,by omega,by go_num,E,by trivial⟩
        case measure=>simp[intOf];omega
      |false=>
       by_cases hm1:n= -1
       ·subst hm1;have E:=hide (GOOD.out (by simp[kidB]))
        go_wp2;go_roundw
        case rel=>exact⟨k+1,by omega,by go_num,E,by trivial⟩
        case measure=>simp[intOf];omega
       ·have nm1:(n != -1)=true:=by simpa using hm1
        have hwi:IntKind.i64.wrap ((i:Int)-1)=(i:Int)-1:=by rw[IntKind.wrap_i64];omega
        go_wp2_with fail;refine(sin_any n 0 ((i:Int)-1) _).mono ?_;rintro e w1 ⟨rfl,rfl⟩;by_cases hin:0≤n∧n≤(i:Int)-1
        ·rw[decide_eq_true hin];obtain⟨m,rfl⟩:∃m:Nat,n=(m:Int):=⟨n.toNat,by omega⟩
         obtain⟨y2,hy2⟩:∃y2,rs[m]?=some y2:=⟨_,List.getElem?_eq_getElem (by have:=H1.out;omega)⟩
         have m0:(0:Int)≤m:=by omega
         have mL:(m:Int)<len:=by omega
         have lc:=(KX.out.cell hy2).1;have hlm:knLeaf L (m:Int)=y2.1:=knLeaf_some (y:=ktell y2) (by rw[←HL.out];exact kw_at hy2)
         obtain⟨lf2,hlf2⟩:∃lf2,y2.1=lf2:=⟨_,rfl⟩;rw[hlf2]at lc hlm;clear hy2 hlf2;cases lf2 with
         |true=>
          have E:=hide (GOOD.out (by simp only[kidB,hlm];simp;omega))
          clear hlm;go_wp2;go_roundw
          case rel=>exact⟨k+1,by omega,by go_num,E,by trivial⟩
          case measure=>simp[intOf];omega
         |false=>
          have E:=hide (BAD.out (by simp[kidB,hlm]))
          clear hlm;go_wp2;go_ret;exact⟨congrArg (fun q=>Ending.returned (.bool q)) E.out.symm,B0.out.trans (WX.out.mono B0.out.size)⟩
        ·rw[decide_eq_false hin];have E:=hide (BAD.out (by simp only[kidB];simp;omega))
         go_wp2;go_ret;exact⟨congrArg (fun q=>Ending.returned (.bool q)) E.out.symm,B0.out.trans (WX.out.mono B0.out.size)⟩
     ·have E:Hid (arK L (i+1)=true):=by
       show _=_;rw[arK_succ HLR.out,HA.out,Bool.true_and,knB,Bool.and_eq_true,List.all_eq_true];refine⟨decide_eq_true HKL.out,fun n hn=>?_⟩
       obtain⟨j,hj⟩:=List.getElem?_of_mem hn;exact HKS.out j n (by have:=(List.getElem?_eq_some_iff.1 hj).1;have:=HKL.out;simp only at*;omega) hj
      go_wp2;go_roundw
      case rel=>exact⟨i+1,by omega,by go_num,E,WX⟩
      case measure=>simp[intOf];omega
   ·have E:Hid (arB L=false):=arB_bad HLR.out (by
     rw[knB];have:decide ((⟨lf,ks⟩:Kn).kids.length=4)=false:=decide_eq_false (by have:=HKL.out;simp only;omega)
     rw[this,Bool.false_and])
    have n4:((kl:Int) !=4)=true:=by simp;omega
    have WX:Hid (Below wb.heap.size wb (wr.alloc (.cells #[.bool lf,.slice ka kl kc] 176))):=HW.out.trans (BA.out.mono HW.out.size);have x1:=X0.out.2;go_wp2;go_ret;exact⟨congrArg (fun q=>Ending.returned (.bool q)) E.out.symm,B0.out.trans (WX.out.mono B0.out.size)⟩
  ·have E:Hid (arB L=true):=by
    have hLl:L.length=len:=by rw[←HL.out,List.length_map];exact H1.out
    show _=_;rw[arB,hLl,show len=i by omega]
    exact HA.out
   go_wp2;go_ret;exact⟨congrArg (fun q=>Ending.returned (.bool q)) E.out.symm,B0.out.trans (HW.out.mono B0.out.size)⟩
theorem sroot(ad:Option Addr)(len cap:Nat)(rs:List Kw)(r:Int)(w:World)(hl:len≤1048578)(h:KnRd w ad len rs):
 Calls Tryz.prog 100 #[.agg #[.slice ad len cap],.int .i64 r] w fun e w'=>e=.returned (.bool (rootB (rs.map ktell) r))∧Below w.heap.size w w':=by
 have bx:=box_at w (.slice ad len cap);have B0:Hid (Below w.heap.size w (w.alloc (.cells #[.slice ad len cap] 53))):=(Below.refl _ _).alloc (Nat.le_refl _) _;have H:=hide (h.below B0.out);have H1:=hide h.1;clear h;by_cases hr:r= -1
 ·subst hr;have E:Hid (rootB (rs.map ktell) (-1)=true):=by show _=_;simp[rootB]
  rw[E.out];go_enter Tryz.func100,Tryz.ntmps100;go_wp2;go_ret;exact⟨rfl,B0.out⟩
 ·have hr1:(r== -1)=false:=by simpa using hr
  have hwl:IntKind.i64.wrap ((len:Int)-1)=(len:Int)-1:=by rw[IntKind.wrap_i64];omega
  have hlL:(rs.map ktell).length=len:=by rw[List.length_map];exact H1.out
  by_cases hin:0≤r∧r≤(len:Int)-1
  ·obtain⟨m,rfl⟩:∃m:Nat,r=(m:Int):=⟨r.toNat,by omega⟩
   obtain⟨b,off,e,-⟩:=H.out.adr (by omega)
   subst e;obtain⟨y,hy⟩:∃y,rs[m]?=some y:=⟨_,List.getElem?_eq_getElem (by have:=H1.out;omega)⟩
   have lc:=(H.out.cell hy).1;have hlm:knLeaf (rs.map ktell) (m:Int)=y.1:=knLeaf_some (y:=ktell y) (kw_at hy);have E:Hid (rootB (rs.map ktell) (m:Int)= !y.1):=by
    show _=_;rw[rootB,hlm,hlL,decide_eq_false hr,decide_eq_true hin.1,decide_eq_true (show(m:Int)<len by omega)]
    simp
   rw[E.out];obtain⟨lf,hlf⟩:∃lf,y.1=lf:=⟨_,rfl⟩;rw[hlf]at lc⊢;have m0:(0:Int)≤m:=by omega
   have mL:(m:Int)<len:=by omega
   have D:=hide (decide_eq_true hin);clear hy hlm hlf E hlL hin H;go_enter Tryz.func100,Tryz.ntmps100;go_wp2_with fail;refine(sin_any (m:Int) 0 ((len:Int)-1) _).mono ?_;rintro e w1 ⟨rfl,rfl⟩;rw[D.out];go_wp2;go_ret;exact⟨rfl,B0.out⟩
  ·have E:Hid (rootB (rs.map ktell) r=false):=by
    show _=_;rw[rootB,hlL,decide_eq_false hr];by_cases h0:0≤r
    ·rw[decide_eq_false (show¬r<(len:Int)by omega)];simp
    ·rw[decide_eq_false h0];simp
   rw[E.out];have D:=hide (decide_eq_false hin);clear E hlL hin H;go_enter Tryz.func100,Tryz.ntmps100;go_wp2_with fail;refine(sin_any r 0 ((len:Int)-1) _).mono ?_;rintro e w1 ⟨rfl,rfl⟩;rw[D.out];go_wp2;go_ret;exact⟨rfl,B0.out⟩
end Go.Proofs.YtiicghepilbgfaaGreatDoor
