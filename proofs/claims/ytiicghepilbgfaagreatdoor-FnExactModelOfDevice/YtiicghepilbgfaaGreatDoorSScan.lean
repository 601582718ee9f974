/-
  SScan
-/
import Derived.Test.YtiicghepilbgfaaGreatDoorPk24
import Derived.Test.YtiicghepilbgfaaGreatDoorPk34
import Derived.Deep.QuietTactic
import Derived.BigQuiet
import Derived.Deep.DeepCutAuto
set_option maxHeartbeats 4000000
set_option maxRecDepth 100000
namespace Go.Proofs.YtiicghepilbgfaaGreatDoor
open Go.RowKit
open Words Sums
theorem sscan_rd(v:Value)(rs:List Rw)(w:World)(hl:rs.length≤1048576)(hll:∀r∈rs,r.2.2.2.length≤1048576)(htx:TxB rs)(ha:FlashRd w v rs):
 Calls Tryz.prog 24 #[.agg #[v]] w fun e w'=>∃u M,e=.returned u∧Asc M∧Akin (founds (rs.map tellOf) rs.length) M∧FRes w' w.heap.size u M∧Below w.heap.size w w':=by
 obtain⟨i0,hi0,hz0,hz1,hz2⟩:=info_parts infoFound;have h1:=ha;obtain⟨vd,vcap,rfl,-⟩:=h1;have HTX:=hide htx;have HLL:=hide hll;obtain⟨n,hn⟩:∃n,rs.length=n:=⟨_,rfl⟩;have HN:=hide hn;have HF2:=hide ha;rw[hn]at hl HF2⊢;have b0:Below w.heap.size w ((w.alloc (.cells #[.slice vd n vcap] 49)).alloc (.cells #[] 106)):=((Below.refl _ _).alloc (Nat.le_refl _) _).alloc (by simp) _
 have S0:Hid (Scn w ((w.alloc (.cells #[.slice vd n vcap] 49)).alloc (.cells #[] 106)) (.slice vd n vcap) (.slice (some ⟨w.heap.size+1,0,none⟩) 0 0) []):=by
  refine⟨b0,(heap_alloc_old _ _ (by simp)).trans (heap_alloc_new _ _),?_⟩
  have:=World.ownsRow_made (w.alloc (.cells #[.slice vd n vcap] 49)) (e:=106) (size:=8) (base:=w.heap.size+1) #[] 0 (by simp) (by unfold maxLen;omega) (by simp)
  rwa [show(w.alloc (.cells #[.slice vd n vcap] 49)).heap.size=w.heap.size+1 by simp]at this
 clear ha htx hll hn b0;go_enter Tryz.func24,Tryz.ntmps24;go_wp2;go_loopw [3,4] (fun out bv wr=>∃(b:Nat) (l:List Fnd),bv=.int .i64 b∧b≤n∧l.length≤b*1048576∧Hid (l=founds (rs.map tellOf) b)∧Hid (∃g c,out=.slice (some ⟨g,0,none⟩) l.length c)∧Hid (Scn w wr (.slice vd n vcap) out l)) (fun _ bv _=>n-(intOf bv).toNat)
 case atStart=>exact⟨0,[],rfl,Nat.zero_le _,by simp,rfl,⟨_,_,rfl⟩,S0⟩
 case round=>
  rename World=>wo
  obtain⟨b,l,rfl,r1,rlen,HLd,HSO,HS⟩:=hrel;clear S0;have cf:wo.cell? ⟨w.heap.size,0,none⟩=some (.slice vd n vcap):=cell_of_row _ _ 0 _ _ _ HS.out.2.1;by_cases hlt:(b:Int)<n
  ·have hbl:b<rs.length:=by have:=HN.out;omega
   obtain⟨r,hr⟩:∃r,rs[b]?=some r:=⟨_,List.getElem?_eq_getElem hbl⟩;obtain⟨gv,e,-,hlf⟩:=HF2.out.at hr;subst e;have hml:=HLL.out r (List.mem_of_getElem? hr);obtain⟨m,hm⟩:∃m,r.2.2.2.length=m:=⟨_,rfl⟩;obtain⟨ld,lc,e2,-⟩:=hlf;have HC3:Hid (∀W,Below w.heap.size w W→W.cell? ⟨gv,b*3+2,none⟩=some (.slice ld m lc)):=by
    intro W hW;obtain⟨g',e3,⟨-,-,c3⟩,-⟩:=(HF2.out.below hW).at hr;injection e3 with e3
    injection e3 with e3
    subst e3;rw[c3,e2,hm]
   rw[hm]at hml;have HM:Hid (founds (rs.map tellOf) (b+1)=founds (rs.map tellOf) b++foundsAt (rs.map tellOf) b m):=by
    show _=_;simp only[founds,List.getElem?_map,hr,Option.map_some,Option.getD_some];show founds _ b++foundsAt _ b (tellOf r).2.2.length=_;rw[show(tellOf r).2.2.length=m from hm]
   have b0:(0:Int)≤b:=by omega
   have L0:Hid (l=founds (rs.map tellOf) b++foundsAt (rs.map tellOf) b 0):=by show _=_;rw[HLd.out];simp[foundsAt]
   clear e2 hr hbl hm;go_wp2;go_loopw [3,5] (fun out kv wr=>∃(k:Nat) (l2:List Fnd),kv=.int .i64 k∧k≤m∧l2.length≤b*1048576+k∧Hid (l2=founds (rs.map tellOf) b++foundsAt (rs.map tellOf) b k)∧Hid (∃g c,out=.slice (some ⟨g,0,none⟩) l2.length c)∧Hid (Scn w wr (.slice (some ⟨gv,0,none⟩) n vcap) out l2)) (fun _ kv _=>m-(intOf kv).toNat)
   case atStart=>exact⟨0,l,rfl,Nat.zero_le _,Nat.le_trans rlen (Nat.le_add_right _ _),L0,HSO,HS⟩
   case round=>
    rename Value=>vout
    obtain⟨k,l2,rfl,t1,tlen,HL2,HSO2,HS2⟩:=hrel;clear HS L0 cf HSO;have cf:wr.cell? ⟨w.heap.size,0,none⟩=some (.slice (some ⟨gv,0,none⟩) n vcap):=cell_of_row _ _ 0 _ _ _ HS2.out.2.1;have c3:=HC3.out _ HS2.out.1;by_cases hk:(k:Int)<m
    ·have C:=hide (sread_rd (.slice (some ⟨gv,0,none⟩) n vcap) rs (b:Int) (k:Int) wr (by have:=HN.out;omega) HLL.out (HF2.out.below HS2.out.1))
     have hsz:=readF_size HTX.out (b:Int) (k:Int);obtain⟨T,ok,hT⟩:∃T ok,readF (rs.map tellOf) (b:Int) (k:Int)=(T,ok):=⟨_,_,rfl⟩;rw[hT]at C hsz;simp only at C hsz;have C2:=hide (fun W=>sreadPage T W (by unfold maxLen;omega))
     have hlp:leafPg (rs.map tellOf) (b:Int) (k:Int)=if ok then readPg T else none:=by unfold leafPg;rw[hT]
     by_cases hok:ok=true∧∃pg,readPg T=some pg
     ·obtain⟨rfl,pg,hpg⟩:=hok;rw[hpg]at C2;obtain⟨q1,q2,q3,q4,q5,q6⟩:=pg;unfold pgRes pgVal at C2;simp only at C2;have NL:Hid (l2++[⟨b,k,⟨q1,q2,q3,q4,q5,q6⟩⟩]=founds (rs.map tellOf) b++foundsAt (rs.map tellOf) b (k+1)):=by show _=_;rw[HL2.out];simp[foundsAt,hlp,hpg]
      clear hlp HL2 hT hpg;go_wp2_with fail;refine C.out.mono ?_;rintro e w1 ⟨rfl,b1⟩;have S1:=hide (HS2.out.below b1);clear b1 HS2 C;go_wp2_with fail;refine(C2.out _).mono ?_;rintro e w2 ⟨rfl,b2⟩;have ba:=(Below.refl w2.heap.size w2).alloc (Nat.le_refl _) (.cells #[.int .i64 q1,.int .i64 q2,.int .i64 q3,.int .i64 q4,.int .i64 q5,.string q6] 102);have S3:=hide ((S1.out.below b2).below ba);have z3:(w2.alloc (.cells #[.int .i64 q1,.int .i64 q2,.int .i64 q3,.int .i64 q4,.int .i64 q5,.string q6] 102)).heap.size=w2.heap.size+1:=by simp
      have HN5:=hide (cells_new (w2.alloc (.cells #[.int .i64 q1,.int .i64 q2,.int .i64 q3,.int .i64 q4,.int .i64 q5,.string q6] 102)) ([Value.int .i64 (b:Int),Value.int .i64 (k:Int),Value.int .i64 q1,Value.int .i64 q2,Value.int .i64 q3,Value.int .i64 q4,Value.int .i64 q5,Value.string q6]:List Value).toArray 106 (w2.heap.size+1) z3);clear b2 S1 C2 ba;go_wp2_with (at_builtin;refine wpList_append_own _ rfl _ _ 69 rfl (w.heap.size+1) 106 i0 (.agg #[.int .i64 0,.int .i64 0,.int .i64 0,.int .i64 0,.int .i64 0,.int .i64 0,.int .i64 0,.string ⟨#[]⟩]) 8 72 Tryz.underlying69 hi0 hz0 hz1 hz2 rfl (by decide) _ l2.length (fcells l2) rfl (S3.out.2.2.alloc _) ⟨w2.heap.size+1,0,none⟩ 1 1 [Value.int .i64 (b:Int),Value.int .i64 (k:Int),Value.int .i64 q1,Value.int .i64 q2,Value.int .i64 q3,Value.int .i64 q4,Value.int .i64 q5,Value.string q6] rfl rfl HN5.out (fd_one ⟨b,k,⟨q1,q2,q3,q4,q5,q6⟩⟩) ?g1 ?g2 ?g3 ?_)
      case g1=>unfold maxLen;omega
      case g2=>omega
      case g3=>have:=S3.out.1.size;simp;omega
      intro v' w4 hown hgrow _;have NS:Hid (Scn w w4 (.slice (some ⟨gv,0,none⟩) n vcap) v' (l2++[⟨b,k,⟨q1,q2,q3,q4,q5,q6⟩⟩])):=by
       have bz:=S3.out.below ((Below.refl _ _).alloc (Nat.le_refl _) (.cells (fdCells ⟨b,k,⟨q1,q2,q3,q4,q5,q6⟩⟩).toArray 106));have lt0:=(Array.getElem?_eq_some_iff.1 bz.2.1).1;refine⟨bz.1.grown hgrow bz.1.size (fun x hx=>Nat.le_of_succ_le (S3.out.2.2.lt x hx).1),(hgrow.block w.heap.size lt0 (fun e=>?_)).trans bz.2.1,?_⟩
       ·have:=(S3.out.2.2.lt _ e.symm).1;omega
       ·rw[List.length_append,←fcells_snoc];exact hown
      have NN:(l2++[(⟨b,k,⟨q1,q2,q3,q4,q5,q6⟩⟩:Fnd)]).length=l2.length+1:=by simp
      have NO:Hid (∃g c,v'=.slice (some ⟨g,0,none⟩) (l2++[(⟨b,k,⟨q1,q2,q3,q4,q5,q6⟩⟩:Fnd)]).length c):=by
       rcases hown.2 with⟨-,h0⟩|⟨g,cap,cur,e,-,-,-,-,-,-⟩
       ·omega
       ·exact⟨g,cap,by rw[NN];exact e⟩
      generalize l2++[(⟨b,k,⟨q1,q2,q3,q4,q5,q6⟩⟩:Fnd)]=l3 at NL NS NN NO;clear hown hgrow S3 HN5;go_wp2;go_roundw
      case rel=>exact⟨k+1,l3,by go_num,by omega,by omega,NL,NO,NS⟩
      case measure=>simp[intOf];omega
     ·have hno:leafPg (rs.map tellOf) (b:Int) (k:Int)=none:=by
       rw[hlp];cases ok with
       |false=>rfl
       |true=>
        cases hq:readPg T with
        |none=>rfl
        |some pg=>exact absurd ⟨rfl,pg,hq⟩ hok
      obtain⟨pg,ok2,hp⟩:=pgRes_tuple (readPg T);have hno2:ok=true→ok2=false:=by
       intro e;subst e;cases hq:readPg T with
       |none=>
        rw[hq]at hp;have h3:Value.tuple #[pgVal ⟨0,0,0,0,0,⟨#[]⟩⟩,.bool false]=.tuple #[pgVal pg,.bool ok2]:=hp;simp at h3;exact h3.2.symm▸rfl
       |some pg=>exact absurd ⟨rfl,pg,hq⟩ hok
      rw[hp]at C2;obtain⟨q1,q2,q3,q4,q5,q6⟩:=pg;unfold pgVal at C2;simp only at C2;have NL:Hid (l2=founds (rs.map tellOf) b++foundsAt (rs.map tellOf) b (k+1)):=by show _=_;rw[HL2.out];simp[foundsAt,hno]
      have HNO:=hide hno2;clear hlp HL2 hT hp hno hok hno2;go_wp2_with fail;refine C.out.mono ?_;rintro e w1 ⟨rfl,b1⟩;have S1:=hide (HS2.out.below b1);clear b1 HS2 C;go_wp2_with fail;refine(C2.out _).mono ?_;rintro e w2 ⟨rfl,b2⟩;have S3:=hide ((S1.out.below b2).below ((Below.refl w2.heap.size w2).alloc (Nat.le_refl _) (.cells #[.int .i64 q1,.int .i64 q2,.int .i64 q3,.int .i64 q4,.int .i64 q5,.string q6] 102)));clear b2 S1 C2;cases ok with
      |false=>
       go_wp2;go_roundw
       case rel=>exact⟨k+1,l2,by go_num,by omega,by omega,NL,HSO2,S3⟩
       case measure=>simp[intOf];omega
      |true=>
       obtain rfl:=HNO.out (by first|rfl|trivial)
       go_wp2;go_roundw
       case rel=>exact⟨k+1,l2,by go_num,by omega,by omega,NL,HSO2,S3⟩
       case measure=>simp[intOf];omega
    ·have hkm:k=m:=by omega
     have NL:Hid (l2=founds (rs.map tellOf) (b+1)):=by show _=_;rw[HL2.out,HM.out,hkm]
     clear HL2 hkm;go_wp2;go_roundw
     case rel=>exact⟨b+1,l2,by go_num,by omega,by omega,NL,HSO2,HS2⟩
     case measure=>simp[intOf];omega
  ·have hbn:b=n:=by omega
   have HLn:Hid (l=founds (rs.map tellOf) n):=by show _=_;rw[HLd.out,hbn]
   obtain⟨g,cap,e1⟩:=HSO.out;subst e1;have hsr:SRow wo g l∧w.heap.size≤g:=by
    rcases own_fres HS.out.2.2 (by omega)with⟨e,-⟩|⟨g',cap',e,hg,h,-⟩
    ·cases e
    ·injection e with e1 e2 e3
     injection e1 with e1
     injection e1 with e1
     subst e1;exact⟨h,by omega⟩
   obtain⟨hsr,hg2⟩:=hsr;obtain⟨nl,hnl⟩:∃nl,l.length=nl:=⟨_,rfl⟩;rw[hnl]at rlen;rw[hnl];have B1:=hide HS.out.1;have HNL:=hide hnl;have SS:Hid (Sorted wo wo g l):=⟨Kept2.refl _ _,hsr⟩;clear HS HLd hbn hsr hnl HSO;obtain⟨D0,hD0⟩:∃D0,founds (rs.map tellOf) n=D0:=⟨_,rfl⟩;rw[hD0]at HLn;have HD0:=hide hD0;clear hD0;have st:∃S T,l=S++T∧Asc S∧Akin D0 (S++T)∧S.length=min 1 nl∧S.length+T.length=nl:=by
    have e:=HLn.out;have e2:=HNL.out;clear SS HNL HLn
    match l,e,e2 with
    | [],e,e2=>exact⟨[],[],rfl,List.Pairwise.nil,by rw[←e];exact Akin.refl _,by simp at e2⊢;omega,by simpa using e2⟩
    |y::l',e,e2=>exact⟨[y],l',rfl,List.pairwise_singleton _ _,by rw[←e];exact Akin.refl _,by simp at e2⊢;omega,by simp at e2⊢;omega⟩
   have ST:=hide st;clear st;go_wp2;clear cf;go_loopw [10] (fun iv wr=>∃(i:Nat) (E:List Fnd),iv=.int .i64 i∧1≤i∧i≤nl+1∧Hid (E.length=nl)∧Hid (∃S T,E=S++T∧Asc S∧Akin D0 (S++T)∧S.length=min i nl∧S.length+T.length=nl)∧Hid (Sorted wo wr g E)) (fun iv _=>nl+1-(intOf iv).toNat)
   case atStart=>exact⟨1,l,rfl,by omega,by omega,HNL,ST,SS⟩
   case round=>
    rename World=>wx
    obtain⟨i,E,rfl,r1,r2,HE,HJ,HS⟩:=hrel;clear ST SS HNL HLn;by_cases hlt:(i:Int)<nl
    ·obtain⟨S,T0,e1,e2,e3,e4,e5⟩:=HJ.out
     match T0,e1,e3,e5 with
     | [],_,_,h5=>simp at h5;omega
     |x::T,e1,e3,e5=>
      have e4':S.length=i:=by omega
      have J0:Hid (E=S++(x::([]++T))∧S++[]=S∧S.length=i∧∀v∈([]:List Fnd),x.key<v.key):=⟨by rw[e1];simp,by simp,e4',fun v hv=>by cases hv⟩
      have AS:=hide e2;have AK:=hide e3;have E5:=hide e5;have HSo:=HS;have HEo:=HE;have E4:=hide e4';clear e1 e2 e3 e4 e4' e5 HJ HS HE;go_wp2;go_loopw [11] (fun jv wr=>∃(j:Nat) (F U V:List Fnd),jv=.int .i64 j∧j≤i∧Hid (F.length=nl)∧Hid (F=U++(x::(V++T))∧U++V=S∧U.length=j∧∀v∈V,x.key<v.key)∧Hid (Sorted wo wr g F)) (fun jv _=>(intOf jv).toNat)
      case atStart=>exact⟨i,E,S,[],rfl,Nat.le_refl _,HEo,J0,HSo⟩
      case round=>
       obtain⟨j,G,U,V,rfl,s2,HG,HK,HS⟩:=hrel;clear HSo HEo J0;have OUT:Hid ((∀u∈U,u.key≤x.key)→∃S2 T2,G=S2++T2∧Asc S2∧Akin D0 (S2++T2)∧S2.length=min (i+1) nl∧S2.length+T2.length=nl):=by
        intro hu;obtain⟨k1,k2,k3,k4⟩:=HK.out;have hA:=AS.out;rw[←k2]at hA;refine⟨U++x::V,T,by rw[k1];simp,Asc.app hA.left (List.pairwise_cons.2 ⟨fun v hv=>Int.le_of_lt (k4 v hv),hA.right⟩) ?_,?_,?_,?_⟩
        ·intro p hp q hq;rcases List.mem_cons.1 hq with e|e
         ·subst e;exact hu p hp
         ·exact hA.across p hp q e
        ·refine AK.out.trans ?_;rw[←k2];have:=(Akin.refl U).app ((Akin.flip (a:=V) (b:=[x]) (fun p hp q hq=>by rw[List.mem_singleton]at hq;subst hq;have:=k4 p hp;omega)).app (Akin.refl T))
         simpa using this
        ·have h1:=congrArg List.length k2;have h2:=E4.out;simp only[List.length_append,List.length_cons]at h1⊢;omega
        ·have h1:=congrArg List.length k2;have h2:=E5.out;simp only[List.length_append,List.length_cons]at h1 h2⊢;omega
       by_cases hja:(0:Int)<j
       ·obtain⟨k1,k2,k3,k4⟩:=HK.out;obtain⟨U',u,eU⟩:∃U' u,U=U'++[u]:=by
         have hne:U≠ []:=fun e=>by subst e;simp at k3;omega
         exact⟨U.dropLast,U.getLast hne,(List.dropLast_concat_getLast hne).symm⟩
        subst eU;obtain⟨q,hqI⟩:∃q:Nat,(j:Int)-1=q:=⟨j-1,by omega⟩
        have hqw:IntKind.i64.wrap ((j:Int)-1)=q:=by rw[IntKind.wrap_i64];omega
        have hqw2:IntKind.i64.wrap (q:Int)=q:=by rw[IntKind.wrap_i64];omega
        have eE:G=U'++u::([]++x::(V++T)):=by rw[k1];simp
        have lPU:U'.length=q:=by
         rw[List.length_append]at k3;simp at k3;omega
        have hq:G[q]?=some u:=by rw[eE,←lPU];simp
        have hp:G[j]?=some x:=by
         rw[eE,List.getElem?_append_right (by omega)]
         have:j-U'.length=1:=by omega
         rw[this];rfl
        have hset:(G.set j u).set q x=U'++(x::((u::V)++T)):=by
         have:=set_two U' [] (V++T) u x;rw[lPU,←eE]at this;rw[List.set_comm _ _ (show j≠q by omega),show j=q+1+([]:List Fnd).length by simp;omega,this]
         simp
        have NL:Hid (((G.set j u).set q x).length=nl):=by show _=_;rw[List.length_set,List.length_set];exact HG.out
        have k2':U'++(u::V)=S:=by rw[←k2];simp
        have j0:(0:Int)≤j:=by omega
        have q0:(0:Int)≤q:=by omega
        have jN:(j:Int)<nl:=by omega
        have qN:(q:Int)<nl:=by omega
        have HPp:=hide hp;have HQq:=hide hq;have hjq:q+1=j:=by omega
        have hjn:0<j:=by omega
        have c3:wr.cell? ⟨g,j*8+3,none⟩=some (.int .i64 x.page.seq):=HS.out.2.cell HPp.out 3 rfl;have d3:wr.cell? ⟨g,q*8+3,none⟩=some (.int .i64 u.page.seq):=HS.out.2.cell HQq.out 3 rfl;have HSd:=hide (fun k=>HS.out.below (below_drewN (Below.refl _ _) k))
        by_cases hc:x.key<u.key
        ·have NU:Hid ((G.set j u).set q x=U'++(x::((u::V)++T))∧U'++(u::V)=S∧U'.length=q∧∀v∈(u::V),x.key<v.key):=⟨hset,k2',lPU,fun v hv=>by
          rcases List.mem_cons.1 hv with e|e
          ·subst e;exact hc
          ·exact k4 v e⟩
         have LPU:=hide lPU;have hc2:x.page.seq<u.page.seq:=hc;have hcd:decide (u.page.seq>x.page.seq)=true:=decide_eq_true hc;clear hp hq eE lPU hset k1 k2 k3 k4 HK OUT k2' hc;go_wp2;go_quiet (fail);have S2:=hide (HSd.out nq);clear c3 d3 HSd HS;generalize wr.drewN nq=w2 at S2⊢;have x0:w2.cell? ⟨g,j*8,none⟩=some (.int .i64 x.block):=S2.out.2.cell HPp.out 0 rfl;have x1:w2.cell? ⟨g,j*8+1,none⟩=some (.int .i64 x.leaf):=S2.out.2.cell HPp.out 1 rfl;have x2:w2.cell? ⟨g,j*8+2,none⟩=some (.int .i64 x.page.kind):=S2.out.2.cell HPp.out 2 rfl;have x3:w2.cell? ⟨g,j*8+3,none⟩=some (.int .i64 x.page.seq):=S2.out.2.cell HPp.out 3 rfl;have x4:w2.cell? ⟨g,j*8+4,none⟩=some (.int .i64 x.page.tx):=S2.out.2.cell HPp.out 4 rfl;have x5:w2.cell? ⟨g,j*8+5,none⟩=some (.int .i64 x.page.part):=S2.out.2.cell HPp.out 5 rfl;have x6:w2.cell? ⟨g,j*8+6,none⟩=some (.int .i64 x.page.count):=S2.out.2.cell HPp.out 6 rfl;have x7:w2.cell? ⟨g,j*8+7,none⟩=some (.string x.page.text):=S2.out.2.cell HPp.out 7 rfl;go_upto_region 19 with fail
         clear x0 x1 x2 x3 x4 x5 x6 x7;have H3:Hid ((w2.alloc (.cells #[.int .i64 x.block,.int .i64 x.leaf,.int .i64 x.page.kind,.int .i64 x.page.seq,.int .i64 x.page.tx,.int .i64 x.page.part,.int .i64 x.page.count,.string x.page.text] 106)).heap[w2.heap.size]?=some (.cells #[.int .i64 x.block,.int .i64 x.leaf,.int .i64 x.page.kind,.int .i64 x.page.seq,.int .i64 x.page.tx,.int .i64 x.page.part,.int .i64 x.page.count,.string x.page.text] 106)):=heap_alloc_new _ _;have S3:=hide (S2.out.below ((Below.refl _ _).alloc (Nat.le_refl _) (.cells #[.int .i64 x.block,.int .i64 x.leaf,.int .i64 x.page.kind,.int .i64 x.page.seq,.int .i64 x.page.tx,.int .i64 x.page.part,.int .i64 x.page.count,.string x.page.text] 106)));have hxg:Hid (w2.heap.size≠g):=by show _≠_;have:=S2.out.2.lt;omega
         clear S2;generalize w2.alloc (.cells #[.int .i64 x.block,.int .i64 x.leaf,.int .i64 x.page.kind,.int .i64 x.page.seq,.int .i64 x.page.tx,.int .i64 x.page.part,.int .i64 x.page.count,.string x.page.text] 106)=w3 at H3 S3⊢;generalize w2.heap.size=hx at H3 hxg⊢;have z0:w3.cell? ⟨g,q*8,none⟩=some (.int .i64 u.block):=S3.out.2.cell HQq.out 0 rfl;have x0:w3.cell? ⟨g,j*8,none⟩=some (.int .i64 x.block):=S3.out.2.cell HPp.out 0 rfl;have k0:=S3.out.2.frozen (j*8);have z1:w3.cell? ⟨g,q*8+1,none⟩=some (.int .i64 u.leaf):=S3.out.2.cell HQq.out 1 rfl;have x1:w3.cell? ⟨g,j*8+1,none⟩=some (.int .i64 x.leaf):=S3.out.2.cell HPp.out 1 rfl;have k1:=S3.out.2.frozen (j*8+1);have z2:w3.cell? ⟨g,q*8+2,none⟩=some (.int .i64 u.page.kind):=S3.out.2.cell HQq.out 2 rfl;have x2:w3.cell? ⟨g,j*8+2,none⟩=some (.int .i64 x.page.kind):=S3.out.2.cell HPp.out 2 rfl;have k2:=S3.out.2.frozen (j*8+2);have z3:w3.cell? ⟨g,q*8+3,none⟩=some (.int .i64 u.page.seq):=S3.out.2.cell HQq.out 3 rfl;have x3:w3.cell? ⟨g,j*8+3,none⟩=some (.int .i64 x.page.seq):=S3.out.2.cell HPp.out 3 rfl;have k3:=S3.out.2.frozen (j*8+3);have z4:w3.cell? ⟨g,q*8+4,none⟩=some (.int .i64 u.page.tx):=S3.out.2.cell HQq.out 4 rfl;have x4:w3.cell? ⟨g,j*8+4,none⟩=some (.int .i64 x.page.tx):=S3.out.2.cell HPp.out 4 rfl;have k4:=S3.out.2.frozen (j*8+4);have z5:w3.cell? ⟨g,q*8+5,none⟩=some (.int .i64 u.page.part):=S3.out.2.cell HQq.out 5 rfl;have x5:w3.cell? ⟨g,j*8+5,none⟩=some (.int .i64 x.page.part):=S3.out.2.cell HPp.out 5 rfl;have k5:=S3.out.2.frozen (j*8+5);have z6:w3.cell? ⟨g,q*8+6,none⟩=some (.int .i64 u.page.count):=S3.out.2.cell HQq.out 6 rfl;have x6:w3.cell? ⟨g,j*8+6,none⟩=some (.int .i64 x.page.count):=S3.out.2.cell HPp.out 6 rfl;have k6:=S3.out.2.frozen (j*8+6);have z7:w3.cell? ⟨g,q*8+7,none⟩=some (.string u.page.text):=S3.out.2.cell HQq.out 7 rfl;have x7:w3.cell? ⟨g,j*8+7,none⟩=some (.string x.page.text):=S3.out.2.cell HPp.out 7 rfl;have k7:=S3.out.2.frozen (j*8+7);go_upto_region 20 with fail
         clear z0 k0 x0 z1 k1 x1 z2 k2 x2 z3 k3 x3 z4 k4 x4 z5 k5 x5 z6 k6 x6 z7 k7 x7;obtain⟨w4,e4⟩:∃w4,w4=put8 w3 g (j*8) u:=⟨_,rfl⟩;have S4:Hid (Sorted wo w4 g (G.set j u)):=by show Sorted _ _ _ _;rw[e4];exact⟨S3.out.1.trans (put8_kept _ _ _ _),S3.out.2.put (List.getElem?_eq_some_iff.1 HPp.out).1 u⟩
         have H4:Hid (w4.heap[hx]?=some (.cells #[.int .i64 x.block,.int .i64 x.leaf,.int .i64 x.page.kind,.int .i64 x.page.seq,.int .i64 x.page.tx,.int .i64 x.page.part,.int .i64 x.page.count,.string x.page.text] 106)):=by show _=_;rw[e4];exact(put8_heap _ _ _ _ _ hxg.out).trans H3.out
         unfold put8 at e4;rw[←e4];clear e4 S3 H3;have HQ4:Hid ((G.set j u)[q]?=some u):=by show _=_;rw[List.getElem?_set_ne (by omega)];exact HQq.out
         have z0:w4.cell? ⟨g,q*8,none⟩=some (.int .i64 u.block):=S4.out.2.cell HQ4.out 0 rfl;have a0:w4.cell? ⟨hx,0,none⟩=some (.int .i64 x.block):=cell_of_row _ _ 0 _ _ _ H4.out;have l0:=S4.out.2.frozen (q*8);have z1:w4.cell? ⟨g,q*8+1,none⟩=some (.int .i64 u.leaf):=S4.out.2.cell HQ4.out 1 rfl;have a1:w4.cell? ⟨hx,1,none⟩=some (.int .i64 x.leaf):=cell_of_row _ _ 1 _ _ _ H4.out;have l1:=S4.out.2.frozen (q*8+1);have z2:w4.cell? ⟨g,q*8+2,none⟩=some (.int .i64 u.page.kind):=S4.out.2.cell HQ4.out 2 rfl;have a2:w4.cell? ⟨hx,2,none⟩=some (.int .i64 x.page.kind):=cell_of_row _ _ 2 _ _ _ H4.out;have l2:=S4.out.2.frozen (q*8+2);have z3:w4.cell? ⟨g,q*8+3,none⟩=some (.int .i64 u.page.seq):=S4.out.2.cell HQ4.out 3 rfl;have a3:w4.cell? ⟨hx,3,none⟩=some (.int .i64 x.page.seq):=cell_of_row _ _ 3 _ _ _ H4.out;have l3:=S4.out.2.frozen (q*8+3);have z4:w4.cell? ⟨g,q*8+4,none⟩=some (.int .i64 u.page.tx):=S4.out.2.cell HQ4.out 4 rfl;have a4:w4.cell? ⟨hx,4,none⟩=some (.int .i64 x.page.tx):=cell_of_row _ _ 4 _ _ _ H4.out;have l4:=S4.out.2.frozen (q*8+4);have z5:w4.cell? ⟨g,q*8+5,none⟩=some (.int .i64 u.page.part):=S4.out.2.cell HQ4.out 5 rfl;have a5:w4.cell? ⟨hx,5,none⟩=some (.int .i64 x.page.part):=cell_of_row _ _ 5 _ _ _ H4.out;have l5:=S4.out.2.frozen (q*8+5);have z6:w4.cell? ⟨g,q*8+6,none⟩=some (.int .i64 u.page.count):=S4.out.2.cell HQ4.out 6 rfl;have a6:w4.cell? ⟨hx,6,none⟩=some (.int .i64 x.page.count):=cell_of_row _ _ 6 _ _ _ H4.out;have l6:=S4.out.2.frozen (q*8+6);have z7:w4.cell? ⟨g,q*8+7,none⟩=some (.string u.page.text):=S4.out.2.cell HQ4.out 7 rfl;have a7:w4.cell? ⟨hx,7,none⟩=some (.string x.page.text):=cell_of_row _ _ 7 _ _ _ H4.out;have l7:=S4.out.2.frozen (q*8+7);go_upto_region 17 with fail
         clear a0 l0 z0 a1 l1 z1 a2 l2 z2 a3 l3 z3 a4 l4 z4 a5 l5 z5 a6 l6 z6 a7 l7 z7;have S5:Hid (Sorted wo (put8 w4 g (q*8) x) g ((G.set j u).set q x)):=⟨S4.out.1.trans (put8_kept _ _ _ _),S4.out.2.put (by rw[List.length_set];exact(List.getElem?_eq_some_iff.1 HQq.out).1) x⟩
         unfold put8 at S5;clear S4 H4;go_wp2;go_roundw
         case rel=>exact⟨q,_,U',u::V,by first|rfl|go_num,by omega,NL,NU,S5⟩
         case measure=>simp[intOf];omega
        ·have PO:=hide (OUT.out (fun p hp2=>by
          have hA:=AS.out;rw[←k2]at hA;have h1:=hA.left;rcases List.mem_append.1 hp2 with e|e
          ·have:=h1.across p e u (by simp);omega
          ·rw[List.mem_singleton]at e;subst e;omega))
         have hc2:¬x.page.seq<u.page.seq:=hc;have hcd:decide (u.page.seq>x.page.seq)=false:=decide_eq_false hc;clear hp hq eE lPU hset k1 k2 k3 k4 HK OUT k2' NL hc;go_wp2;go_quiet (fail);go_wp2;go_roundw
         case rel=>exact⟨i+1,G,by go_num,by omega,by omega,HG,PO,HSd.out _⟩
         case measure=>simp[intOf];omega
       ·have hU:U=[]:=by
         obtain⟨k1,k2,k3,k4⟩:=HK.out;exact List.eq_nil_of_length_eq_zero (by omega)
        have PO:=hide (OUT.out (fun p hp2=>by rw[hU]at hp2;cases hp2))
        have hjz:j=0:=by omega
        subst hjz;clear OUT HK hU;go_wp2;go_quiet (fail);go_wp2;go_roundw
        case rel=>exact⟨i+1,G,by go_num,by omega,by omega,HG,PO,HS.out.below (below_drewN (Below.refl _ _) _)⟩
        case measure=>simp[intOf];omega
    ·obtain⟨S,T,e1,e2,e3,e4,e5⟩:=HJ.out;have hT:T=[]:=List.eq_nil_of_length_eq_zero (by omega)
     subst hT;have PF:Hid (∃M,Asc M∧Akin D0 M∧FRes wx w.heap.size (.slice (some ⟨g,0,none⟩) nl cap) M):=⟨S,e2,by simpa using e3,.inr ⟨g,cap,by simp at e5;rw[e5],hg2,by have h1:=HS.out.2;rw[e1]at h1;simpa using h1,by simp at e5;omega⟩⟩
     have B2:=hide (B1.out.trans (Kept2.down (B:=w.heap.size) HS.out.1 B1.out.size (fun i hi=>by omega)))
     clear e1 e2 e3 e4 e5 HJ HS B1;go_wp2;go_ret;obtain⟨M,m1,m2,m3⟩:=PF.out;rw[←HD0.out]at m2
     first|exact⟨_,rfl,M,m1,m2,m3,B2.out⟩|exact⟨_,rfl,⟨M,m1,m2,m3⟩,B2.out⟩|exact⟨_,M,rfl,m1,m2,m3,B2.out⟩
end Go.Proofs.YtiicghepilbgfaaGreatDoor
