/-
  SRPage
-/
import Derived.Test.YtiicghepilbgfaaGreatDoorPk18
import Derived.Test.YtiicghepilbgfaaGreatDoorPk19
import Derived.Test.YtiicghepilbgfaaGreatDoorPk16
set_option maxHeartbeats 4000000
set_option maxRecDepth 100000
namespace Go.Proofs.YtiicghepilbgfaaGreatDoor
open Go.RowKit
open Words Sums
def CS(w W:World)(g gr gp:Nat)(s:ByteArray)(i:Int)(bad:Bool)(cs:Array Value):Prop:=
 Below w.heap.size w W∧CAt W g s i bad∧w.heap.size≤gr∧gr<g∧g<gp∧W.heap[gr]?=some (.cells #[.int .i64 0,.int .i64 0,.int .i64 0,.int .i64 0,.int .i64 0,.string ⟨#[]⟩] 102 (0,0))∧W.heap[gp]?=some (.cells cs 102 (0,0))
theorem CS.moved{w W W':World}{g gr gp:Nat}{s s':ByteArray}{i i':Int}{bad bad':Bool}{cs:Array Value}(h:CS w W g gr gp s i bad cs)(m:MovedC W W' g s' i' bad'):CS w W' g gr gp s' i' bad' cs:=by
 obtain⟨h1,h2,h3,h4,h5,h6,h7⟩:=h;have l6:=(Array.getElem?_eq_some_iff.1 h6).1;have l7:=(Array.getElem?_eq_some_iff.1 h7).1;have l2:=h2.1;exact⟨h1.trans (Kept2.down (B:=w.heap.size) m.1 h1.size (fun i hi=>by omega)),m.2,h3,h4,h5,(m.1.2.2.2.2 gr l6 (by omega)).trans h6,(m.1.2.2.2.2 gp l7 (by omega)).trans h7⟩
theorem CS.below{w W W':World}{g gr gp:Nat}{s:ByteArray}{i:Int}{bad:Bool}{cs:Array Value}(h:CS w W g gr gp s i bad cs)(b:Below W.heap.size W W'):CS w W' g gr gp s i bad cs:=
 h.moved ⟨Kept2.below b,h.2.1.below b⟩
theorem CAt.far{w:World}{g p k:Nat}{t:ByteArray}{i:Int}{bad:Bool}{v:Value}(h:CAt w g t i bad)(hp:p≠g):CAt (w.setCell ⟨p,k,none⟩ v) g t i bad:=by
 obtain⟨h1,h2,h3,h4,h5,h6⟩:=h;have e:∀j,(w.setCell ⟨p,k,none⟩ v).cell? ⟨g,j,none⟩=w.cell? ⟨g,j,none⟩:=fun j=>World.cell?_setCell_other _ _ _ _ (fun e=>hp (by injection e))
 exact⟨by simpa using h1,by rw[e];exact h2,by rw[e];exact h3,by rw[e];exact h4,by simpa using h5,by simpa using h6⟩
theorem CS.set{w W:World}{g gr gp:Nat}{s:ByteArray}{i:Int}{bad:Bool}{cs:Array Value}(h:CS w W g gr gp s i bad cs)(k:Nat)(v:Value):CS w (W.setCell ⟨gp,k,none⟩ v) g gr gp s i bad (cs.setIfInBounds k v):=by
 obtain⟨h1,h2,h3,h4,h5,h6,h7⟩:=h;exact⟨h1.setCell (by simp;omega) _,h2.far (by omega),h3,h4,h5,(Below.heap_setCell _ _ _ _ (by simp;omega)).trans h6,heap_setCell_same _ _ _ _ _ _ h7⟩
theorem CS.at_{w W:World}{g gr gp:Nat}{s:ByteArray}{i:Int}{bad:Bool}{cs:Array Value}(h:CS w W g gr gp s i bad cs)(k:Nat)(v:Value)(hv:cs[k]?=some v):W.cell? ⟨gp,k,none⟩=some v∧W.frozen? ⟨gp,k,none⟩=false:=
 ⟨cell_of_row _ _ k _ _ _ h.2.2.2.2.2.2▸hv,frozen_of_row _ _ k _ _ h.2.2.2.2.2.2⟩
theorem six_cs{w:World}{g:Nat}{t:TypeId}{y0 y1 y2 y3 y4 y5 a b c d e f:Value}(h:w.heap[g]?=some (.cells #[y0,y1,y2,y3,y4,y5] t (0,0))):
 ((((((w.setCell ⟨g,0,none⟩ a).setCell ⟨g,1,none⟩ b).setCell ⟨g,2,none⟩ c).setCell ⟨g,3,none⟩ d).setCell ⟨g,4,none⟩ e).setCell ⟨g,5,none⟩ f).heap[g]?=some (.cells #[a,b,c,d,e,f] t (0,0)):=
 heap_setCell_same _ _ 5 _ _ _ (heap_setCell_same _ _ 4 _ _ _ (heap_setCell_same _ _ 3 _ _ _ (heap_setCell_same _ _ 2 _ _ _ (heap_setCell_same _ _ 1 _ _ _ (heap_setCell_same _ _ 0 _ _ _ h)))))
theorem six_below{B:Nat}{w W:World}{p:Nat}{a b c d e f:Value}(h:Below B w W)(hp:B≤p):
 Below B w ((((((W.setCell ⟨p,0,none⟩ a).setCell ⟨p,1,none⟩ b).setCell ⟨p,2,none⟩ c).setCell ⟨p,3,none⟩ d).setCell ⟨p,4,none⟩ e).setCell ⟨p,5,none⟩ f):=
 (((((h.setCell hp _).setCell hp _).setCell hp _).setCell hp _).setCell hp _).setCell hp _
theorem row6{w:World}{g:Nat}{t:TypeId}{a b c d e f:Value}(h:w.heap[g]?=some (.cells #[a,b,c,d,e,f] t (0,0))):
 w.cell? ⟨g,0,none⟩=some a∧w.frozen? ⟨g,0,none⟩=false∧w.cell? ⟨g,1,none⟩=some b∧w.frozen? ⟨g,1,none⟩=false∧w.cell? ⟨g,2,none⟩=some c∧w.frozen? ⟨g,2,none⟩=false∧w.cell? ⟨g,3,none⟩=some d∧w.frozen? ⟨g,3,none⟩=false∧w.cell? ⟨g,4,none⟩=some e∧w.frozen? ⟨g,4,none⟩=false∧w.cell? ⟨g,5,none⟩=some f∧w.frozen? ⟨g,5,none⟩=false:=
 ⟨cell_of_row _ _ 0 _ _ _ h,frozen_of_row _ _ 0 _ _ h,cell_of_row _ _ 1 _ _ _ h,frozen_of_row _ _ 1 _ _ h,cell_of_row _ _ 2 _ _ _ h,frozen_of_row _ _ 2 _ _ h,cell_of_row _ _ 3 _ _ _ h,frozen_of_row _ _ 3 _ _ h,cell_of_row _ _ 4 _ _ _ h,frozen_of_row _ _ 4 _ _ h,cell_of_row _ _ 5 _ _ _ h,frozen_of_row _ _ 5 _ _ h⟩
theorem cur_new{w1:World}{s:ByteArray}{bd:Bool}:CAt (w1.alloc (.cells #[.string s,.int .i64 1,.bool bd] 134)) w1.heap.size s (1:Nat) bd:=by
 have X0:=heap_alloc_new w1 (.cells #[.string s,.int .i64 1,.bool bd] 134);exact⟨by simp,cell_of_row _ _ 0 _ _ _ X0,cell_of_row _ _ 1 _ _ _ X0,cell_of_row _ _ 2 _ _ _ X0,frozen_of_row _ _ 1 _ _ X0,frozen_of_row _ _ 2 _ _ X0⟩
theorem srp (t s:ByteArray) (w:World) (hm:t.size≤maxLen) (ok bd d4:Bool) (hr:unR (unA t)=.tuple #[.string s,.bool ok]) (hs:s.size≤20000) (h0:ok=false∧bd=true∧d4=true∨ok=true∧(s.size:Int)<1∧bd=true∧d4=true∨ok=true∧¬(s.size:Int)<1∧bd=false) (j1 j2 j3 j4 n1 n2 n3 n4:Nat) (d1 d2 d3:Bool) (e1:stepV s.data.toList 1 bd=(n1,j1,d1)) (e2:stepV s.data.toList j1 d1=(n2,j2,d2)) (e3:stepV s.data.toList j2 d2=(n3,j3,d3)) (e4:stepV s.data.toList j3 d3=(n4,j4,d4)) (R:Option Pg) (hA:d4=true→R=none)
 (hB:d4=false→∃(b:UInt8) (q:Bool),s.data.toList[0]?=some b∧j4≤s.size∧ptRes (Pg.mk b.toNat n1 n2 n3 n4 (s.extract j4 s.size))=.tuple #[.string (if q then t else⟨#[]⟩),.bool q]∧R=if q then some (Pg.mk b.toNat n1 n2 n3 n4 (s.extract j4 s.size))else none):
 Calls Tryz.prog 42 #[.string t] w fun e w'=>e=.returned (pgRes R)∧Below w.heap.size w w':=by
 have B0:=hide ((Below.refl w.heap.size w).alloc (Nat.le_refl _) (.cells #[.int .i64 0,.int .i64 0,.int .i64 0,.int .i64 0,.int .i64 0,.string ⟨#[]⟩] 102));have C:=hide (sunseal t hm (w.alloc (.cells #[.int .i64 0,.int .i64 0,.int .i64 0,.int .i64 0,.int .i64 0,.string ⟨#[]⟩] 102)));rw[hr]at C;have Z0:=hide (heap_alloc_new w (.cells #[.int .i64 0,.int .i64 0,.int .i64 0,.int .i64 0,.int .i64 0,.string ⟨#[]⟩] 102));have V1:=hide (fun W g (h:CAt W g s (1:Nat) bd)=>svar_any s 1 bd g W (by omega) h n1 j1 d1 e1)
 have V2:=hide (fun W g (h:CAt W g s (j1:Nat) d1)=>svar_any s j1 d1 g W (by omega) h n2 j2 d2 e2)
 have V3:=hide (fun W g (h:CAt W g s (j2:Nat) d2)=>svar_any s j2 d2 g W (by omega) h n3 j3 d3 e3)
 have V4:=hide (fun W g (h:CAt W g s (j3:Nat) d3)=>svar_any s j3 d3 g W (by omega) h n4 j4 d4 e4)
 have HA:=hide hA;have HB:=hide hB;clear e1 e2 e3 e4 hr hA hB;rcases h0 with⟨rfl,rfl,rfl⟩|⟨rfl,hz,rfl,rfl⟩|⟨rfl,hz,rfl⟩
 all_goals
  try have hdz:=decide_eq_false hz
  go_enter Tryz.func42,Tryz.ntmps42;go_wp2_with fail;refine C.out.mono ?_;rintro e w1 ⟨rfl,b1⟩;have lw1:w.heap.size<w1.heap.size:=Nat.lt_of_lt_of_le (by simp) b1.size
  have BX:=hide (fun o=>(B0.out.trans (b1.mono (by simp))).trans (((Below.refl w1.heap.size w1).alloc (Nat.le_refl _) o).mono (Nat.le_of_lt lw1)))
  have ZX:=hide (fun o=>(((Below.refl w1.heap.size w1).alloc (Nat.le_refl _) o).block w.heap.size lw1).trans ((b1.block w.heap.size (by simp)).trans Z0.out))
  clear b1 B0 Z0 C;go_wp2_with fail;refine(V1.out _ _ cur_new).mono ?_;rintro e w2 ⟨rfl,m2⟩;have lw2:w1.heap.size<w2.heap.size:=Nat.lt_of_lt_of_le (by simp) m2.1.2.2.2.1
  have P1:Hid (CS w (w2.alloc (.cells #[.int .i64 0,.int .i64 n1,.int .i64 0,.int .i64 0,.int .i64 0,.string ⟨#[]⟩] 102)) w1.heap.size w.heap.size w2.heap.size s j1 d1 #[.int .i64 0,.int .i64 n1,.int .i64 0,.int .i64 0,.int .i64 0,.string ⟨#[]⟩]):=by
   have ba:=(Below.refl w2.heap.size w2).alloc (Nat.le_refl _) (.cells #[.int .i64 0,.int .i64 n1,.int .i64 0,.int .i64 0,.int .i64 0,.string ⟨#[]⟩] 102);have bz:Below w.heap.size w w2:=(BX.out _).trans (Kept2.down (B:=w.heap.size) m2.1 (BX.out _).size (fun i hi=>by omega))
   exact⟨bz.trans (ba.mono bz.size),m2.2.below ba,Nat.le_refl _,lw1,lw2,(ba.block _ (by omega)).trans ((m2.1.2.2.2.2 _ (by simp;omega) (by omega)).trans (ZX.out _)),heap_alloc_new _ _⟩
  clear m2 BX ZX V1;go_wp2_with fail;refine(V2.out _ _ P1.out.2.1).mono ?_;rintro e w3 ⟨rfl,m2⟩;have P2:=hide (P1.out.moved m2);clear m2 P1 V2;obtain⟨x2,y2⟩:=P2.out.at_ 2 _ rfl;have P1:=hide (P2.out.set 2 (.int .i64 n2));change Hid (CS w _ w1.heap.size w.heap.size w2.heap.size s j2 d2 #[.int .i64 0,.int .i64 n1,.int .i64 n2,.int .i64 0,.int .i64 0,.string ⟨#[]⟩])at P1;clear P2;go_wp2_with fail;refine(V3.out _ _ P1.out.2.1).mono ?_;rintro e w4 ⟨rfl,m2⟩;have P2:=hide (P1.out.moved m2);clear m2 P1 V3;obtain⟨x3,y3⟩:=P2.out.at_ 3 _ rfl;have P1:=hide (P2.out.set 3 (.int .i64 n3));change Hid (CS w _ w1.heap.size w.heap.size w2.heap.size s j3 d3 #[.int .i64 0,.int .i64 n1,.int .i64 n2,.int .i64 n3,.int .i64 0,.string ⟨#[]⟩])at P1;clear P2;go_wp2_with fail;refine(V4.out _ _ P1.out.2.1).mono ?_;rintro e w5 ⟨rfl,m2⟩;have P2:=hide (P1.out.moved m2);clear m2 P1 V4;obtain⟨x4,y4⟩:=P2.out.at_ 4 _ rfl;have P1:=hide (P2.out.set 4 (.int .i64 n4));change Hid (CS w _ w1.heap.size w.heap.size w2.heap.size s j4 _ #[.int .i64 0,.int .i64 n1,.int .i64 n2,.int .i64 n3,.int .i64 n4,.string ⟨#[]⟩])at P1;clear P2;obtain⟨-,-,-,q2,-,-⟩:=P1.out.2.1
 rotate_left 2
 cases d4
 case' false=>
  obtain⟨b,q,hb,hj,ep,hR⟩:=HB.out rfl;obtain⟨hi,hbe⟩:=List.getElem?_eq_some_iff.1 hb;have k1:(0:Int)<s.size:=by have hi':0<s.size:=hi;omega
  have hc:s[0].toNat=b.toNat:=by rw[←hbe];rfl
  have hb8:b.toNat<256:=b.toNat_lt;have s1:∀W,(Instr.slice 9 (.string s) (some (.int .i64 (j4:Int))) none none).run Tryz.prog W=.ok (.string (s.extract j4 s.size)) W:=fun W=>by
   rw[run_slice_string_l W 9 s Tryz.underlying9 .i64 _ (by omega) (by omega)]
   simp
  have CP:=hide (fun W=>spageText (Pg.mk b.toNat n1 n2 n3 n4 (s.extract j4 s.size)) W)
  rw[ep]at CP;clear ep hb hbe HA HB;unfold pgVal at CP;simp only at CP;generalize s.extract j4 s.size=u at*;generalize b.toNat=kb at*;have HR:=hide hR;clear hR;have ec:IntKind.i64.wrap (kb:Int)=kb:=by rw[IntKind.wrap_i64];omega
  obtain⟨x0,y0⟩:=P1.out.at_ 0 _ rfl;have P3:=hide (P1.out.set 0 (.int .i64 kb));change Hid (CS w _ w1.heap.size w.heap.size w2.heap.size s j4 false #[.int .i64 kb,.int .i64 n1,.int .i64 n2,.int .i64 n3,.int .i64 n4,.string ⟨#[]⟩])at P3;clear P1;obtain⟨-,-,q1,-,-,-⟩:=P3.out.2.1;obtain⟨x5,y5⟩:=P3.out.at_ 5 _ rfl;have P4:=hide (P3.out.set 5 (.string u));change Hid (CS w _ w1.heap.size w.heap.size w2.heap.size s j4 false #[.int .i64 kb,.int .i64 n1,.int .i64 n2,.int .i64 n3,.int .i64 n4,.string u])at P4;clear P3;obtain⟨z0,-,z1,-,z2,-,z3,-,z4,-,z5,-⟩:=row6 P4.out.2.2.2.2.2.2;go_wp2_with fail;refine(CP.out _).mono ?_;rintro e w8 ⟨rfl,b8⟩;have P1:=hide (P4.out.below b8);clear P4 b8 CP;cases q
 case' true=>
  obtain⟨t0,-,t1,-,t2,-,t3,-,t4,-,t5,-⟩:=row6 P1.out.2.2.2.2.2.2;have Z:=P1.out.2.2.2.2.2.1;obtain⟨c0,f0,c1,f1,c2,f2,c3,f3,c4,f4,c5,f5⟩:=row6 Z;have Z6:=six_cs (a:=.int .i64 kb) (b:=.int .i64 n1) (c:=.int .i64 n2) (d:=.int .i64 n3) (e:=.int .i64 n4) (f:=.string u) Z;have B6:=hide (six_below (a:=.int .i64 kb) (b:=.int .i64 n1) (c:=.int .i64 n2) (d:=.int .i64 n3) (e:=.int .i64 n4) (f:=.string u) P1.out.1 (Nat.le_refl _));obtain⟨r0,-,r1,-,r2,-,r3,-,r4,-,r5,-⟩:=row6 Z6;clear Z Z6;go_wp2;exact bodyPost_ret (v:=.tuple #[.agg #[.int .i64 kb,.int .i64 n1,.int .i64 n2,.int .i64 n3,.int .i64 n4,.string u],.bool true]) (by simp[results,Tryz.results42,go_sem,r0,r1,r2,r3,r4,r5]) rfl ⟨by rw[HR.out];rfl,B6.out⟩
 all_goals
  first|have HR:Hid (R=none):=HA.out rfl|have HR:Hid (R=none):=HA.out trivial|have HR:Hid (R=none):=HA|skip
  have Z:=P1.out.2.2.2.2.2.1;obtain⟨c0,f0,c1,f1,c2,f2,c3,f3,c4,f4,c5,f5⟩:=row6 Z;have Z6:=six_cs (a:=.int .i64 0) (b:=.int .i64 0) (c:=.int .i64 0) (d:=.int .i64 0) (e:=.int .i64 0) (f:=.string ⟨#[]⟩) Z;have B6:=hide (six_below (a:=.int .i64 0) (b:=.int .i64 0) (c:=.int .i64 0) (d:=.int .i64 0) (e:=.int .i64 0) (f:=.string ⟨#[]⟩) P1.out.1 (Nat.le_refl _));obtain⟨r0,-,r1,-,r2,-,r3,-,r4,-,r5,-⟩:=row6 Z6;clear Z Z6;go_wp2;exact bodyPost_ret (v:=.tuple #[.agg #[.int .i64 0,.int .i64 0,.int .i64 0,.int .i64 0,.int .i64 0,.string ⟨#[]⟩],.bool false]) (by simp[results,Tryz.results42,go_sem,r0,r1,r2,r3,r4,r5]) rfl ⟨by rw[HR.out];rfl,B6.out⟩
theorem sreadPage(t:ByteArray)(w:World)(hm:t.size≤maxLen):
 Calls Tryz.prog 42 #[.string t] w fun e w'=>e=.returned (pgRes (readPg t))∧Below w.heap.size w w':=by
 unfold readPg;cases hu:unA t with
 |none=>exact srp t ⟨#[]⟩ w hm false true true (by rw[hu];rfl) (by simp[ByteArray.size]) (.inl ⟨rfl,rfl,rfl⟩) 1 1 1 1 0 0 0 0 true true true rfl rfl rfl rfl none (fun _=>rfl) (fun h=>nomatch h)
 |some s=>
  simp only;have hs:=(unA_some hu).2;by_cases hz:(s.size:Int)<1
  ·have hn:s.data.toList[0]?=none:=List.getElem?_eq_none_iff.2 (show s.size≤0 by omega)
   unfold pgOf;rw[hn];exact srp t s w hm true true true (by rw[hu];rfl) hs (.inr (.inl ⟨rfl,hz,rfl,rfl⟩)) 1 1 1 1 0 0 0 0 true true true rfl rfl rfl rfl none (fun _=>rfl) (fun h=>nomatch h)
  ·obtain⟨b,hb⟩:∃b,s.data.toList[0]?=some b:=by
    have hl:0<s.data.toList.length:=show 0<s.size by omega
    exact⟨s.data.toList[0],List.getElem?_eq_getElem hl⟩
   obtain⟨⟨n1,j1,d1⟩,e1⟩:∃x,stepV s.data.toList 1 false=x:=⟨_,rfl⟩;obtain⟨⟨n2,j2,d2⟩,e2⟩:∃x,stepV s.data.toList j1 d1=x:=⟨_,rfl⟩;obtain⟨⟨n3,j3,d3⟩,e3⟩:∃x,stepV s.data.toList j2 d2=x:=⟨_,rfl⟩;obtain⟨⟨n4,j4,d4⟩,e4⟩:∃x,stepV s.data.toList j3 d3=x:=⟨_,rfl⟩;cases d4 with
   |true=>
    have hno:pgOf s=none:=by
     unfold pgOf;rw[hb];simp only;rcases stepV_bad e4 with r|r
     ·subst r;rcases stepV_bad e3 with r|r
      ·subst r;rcases stepV_bad e2 with r|r
       ·subst r;rcases stepV_bad e1 with r|r
        ·cases r
        ·rw[r]
       ·cases d1 with
        |true=>
         rcases stepV_bad e1 with r'|r'
         ·cases r'
         ·rw[r']
        |false=>
         rw[(stepV_ok e1).2];simp only;rw[r]
      ·cases d2 with
       |true=>
        rcases stepV_bad e2 with r'|r'
        ·subst r';rcases stepV_bad e1 with r''|r''
         ·cases r''
         ·rw[r'']
        ·cases d1 with
         |true=>
          rcases stepV_bad e1 with r''|r''
          ·cases r''
          ·rw[r'']
         |false=>
          rw[(stepV_ok e1).2];simp only;rw[r']
       |false=>
        obtain⟨rfl,f2⟩:=stepV_ok e2;rw[(stepV_ok e1).2];simp only;rw[f2];simp only;rw[r]
     ·cases d3 with
      |true=>
       rcases stepV_bad e3 with r'|r'
       ·subst r';rcases stepV_bad e2 with q|q
        ·subst q;rcases stepV_bad e1 with q'|q'
         ·cases q'
         ·rw[q']
        ·cases d1 with
         |true=>
          rcases stepV_bad e1 with q'|q'
          ·cases q'
          ·rw[q']
         |false=>
          rw[(stepV_ok e1).2];simp only;rw[q]
       ·cases d2 with
        |true=>
         rcases stepV_bad e2 with q|q
         ·subst q;rcases stepV_bad e1 with q'|q'
          ·cases q'
          ·rw[q']
         ·cases d1 with
          |true=>
           rcases stepV_bad e1 with q'|q'
           ·cases q'
           ·rw[q']
          |false=>
           rw[(stepV_ok e1).2];simp only;rw[q]
        |false=>
         obtain⟨rfl,f2⟩:=stepV_ok e2;rw[(stepV_ok e1).2];simp only;rw[f2];simp only;rw[r']
      |false=>
       obtain⟨rfl,f3⟩:=stepV_ok e3;obtain⟨rfl,f2⟩:=stepV_ok e2;rw[(stepV_ok e1).2];simp only;rw[f2];simp only;rw[f3];simp only;rw[r]
    rw[hno];exact srp t s w hm true false true (by rw[hu];rfl) hs (.inr (.inr ⟨rfl,hz,rfl⟩)) j1 j2 j3 j4 n1 n2 n3 n4 d1 d2 d3 e1 e2 e3 e4 none (fun _=>rfl) (fun h=>nomatch h)
   |false=>
    obtain⟨rfl,f4⟩:=stepV_ok e4;obtain⟨rfl,f3⟩:=stepV_ok e3;obtain⟨rfl,f2⟩:=stepV_ok e2;obtain⟨-,f1⟩:=stepV_ok e1;have l1:=(readV_le _ _ _ _ (show 1≤s.size by omega) f1).1
    have l2:=(readV_le _ _ _ _ l1 f2).1;have l3:=(readV_le _ _ _ _ l2 f3).1;have l4:=(readV_le _ _ _ _ l3 f4).1;have hback:=pg_back hb f1 f2 f3 f4;unfold pgOf;rw[hb];simp only;rw[f1];simp only;rw[f2];simp only;rw[f3];simp only;rw[f4];simp only;by_cases hq:(Pg.mk b.toNat n1 n2 n3 n4 (s.extract j4 s.size)).Right
    ·rw[if_pos hq];exact srp t s w hm true false false (by rw[hu];rfl) hs (.inr (.inr ⟨rfl,hz,rfl⟩)) j1 j2 j3 j4 n1 n2 n3 n4 _ _ _ e1 e2 e3 e4 (some _) (fun h=>nomatch h) (fun _=>⟨b,true,hb,l4,by unfold ptRes;rw[if_pos hq,hback,(unA_some hu).1];rfl,rfl⟩)
    ·rw[if_neg hq];exact srp t s w hm true false false (by rw[hu];rfl) hs (.inr (.inr ⟨rfl,hz,rfl⟩)) j1 j2 j3 j4 n1 n2 n3 n4 _ _ _ e1 e2 e3 e4 none (fun h=>nomatch h) (fun _=>⟨b,false,hb,l4,by unfold ptRes;rw[if_neg hq];rfl,rfl⟩)
end Go.Proofs.YtiicghepilbgfaaGreatDoor
