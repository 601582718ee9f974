/-
  ScC; SRdOf; SModD
-/
import Derived.Test.YtiicghepilbgfaaGreatDoorPk25
import Derived.Test.YtiicghepilbgfaaGreatDoorSScan
import Derived.Test.YtiicghepilbgfaaGreatDoorPk8
import Derived.Test.YtiicghepilbgfaaGreatDoorPk13
import Derived.Test.YtiicghepilbgfaaGreatDoorPk34
import Derived.Deep.RegionHeld3
import Derived.Deep.QuietTactic
import Derived.BigQuiet
import Derived.Test.YtiicghepilbgfaaGreatDoorPk5
set_option maxHeartbeats 2000000
set_option maxRecDepth 100000
namespace Go.Proofs.YtiicghepilbgfaaGreatDoor
open Go.RowKit
open Words Sums
def ScOut(w:World)(bs:List Bk)(e:Ending)(w':World):Prop:=
 ∃(ad:Option Addr) (cap:Nat),e=.returned (.slice ad (scanF bs).length cap)∧FdRd w' ad (scanF bs).length (scanF bs)∧(scanF bs).length≤1099511627776∧Below w.heap.size w w'
theorem scOut{w w':World}{rs:List Rw}{e:Ending}(hl:rs.length≤1048576)(hll:∀r∈rs,r.2.2.2.length≤1048576)(h:∃u M,e=.returned u∧Asc M∧Akin (founds (rs.map tellOf) rs.length) M∧FRes w' w.heap.size u M∧Below w.heap.size w w'):ScOut w (rs.map tellOf) e w':=by
 obtain⟨u,M,rfl,h1,h2,h3,h4⟩:=h;have e1:M=scanF (rs.map tellOf):=scanF_is h1 (by rw[List.length_map];exact h2)
 obtain⟨ad,cap,rfl,h5,-⟩:=h3.rd;subst e1;refine⟨ad,cap,rfl,h5,?_,h4⟩;refine Nat.le_trans (scan_count (rs.map tellOf) 1048576 (fun b hb=>?_)) ?_
 ·obtain⟨r,hr,rfl⟩:=List.mem_map.1 hb;exact hll r hr
 ·rw[List.length_map];exact Nat.le_trans (Nat.mul_le_mul_right _ hl) (by decide)
theorem sscanO(v:Value)(rs:List Rw)(w:World)(hl:rs.length≤1048576)(hll:∀r∈rs,r.2.2.2.length≤1048576)(htx:TxB rs)(ha:FlashRd w v rs):Calls Tryz.prog 24 #[.agg #[v]] w (ScOut w (rs.map tellOf)):=
 (sscan_rd v rs w hl hll htx ha).mono (fun _ _ h=>scOut hl hll h)
theorem iscanO(v:Value)(rs:List Rw)(w:World)(hl:rs.length≤1048576)(hll:∀r∈rs,r.2.2.2.length≤1048576)(htx:TxB rs)(ha:FlashRd w v rs)(ht:HalvIn w):Calls Tryz.prog 76 #[.agg #[v]] w (ScOut w (rs.map tellOf)):=
 (iscan_rd v rs w hl hll htx ha ht).mono (fun _ _ h=>scOut hl hll h)
theorem scan_text{bs:List Bk}:∀x∈scanF bs,x.page.text.size≤1048576:=fun x hx=>by
 have:=(scan_right hx).2.2.2.2.2;omega
end Go.Proofs.YtiicghepilbgfaaGreatDoor
namespace Go.Proofs.YtiicghepilbgfaaGreatDoor
open Go.RowKit
open Words Sums Pack
theorem sat_in{v:Value}{s:Sto}{w:World}(id:Int)(h:StIn w v s):Calls Tryz.prog 43 #[v,.int .i64 id] w fun e w'=>e=.returned (.int .i64 (atI (atV s.vols id)))∧Below w.heap.size w w':=by
 obtain⟨va,vl,vc,ad,len,cap,rs,rfl,hks,hvl,hl,hll,hvc,h,hk⟩:=h;exact satV va vl vc ad len cap s.next s.vols id w (by omega) h
theorem schunk_in{v:Value}{s:Sto}{w:World}(vol sec:Int)(h:StIn w v s):Calls Tryz.prog 44 #[v,.int .i64 vol,.int .i64 sec] w fun e w'=>e=.returned (.int .i64 (chunkS s vol sec))∧Below w.heap.size w w':=by
 obtain⟨va,vl,vc,ad,len,cap,rs,rfl,hks,hvl,hl,hll,hvc,h,hk⟩:=h;have:=schunk va vl vc ad len cap s.next s.vols rs vol sec w (by omega) (by omega) h hk
 rw[←hks]at this;exact this
def readL(M:List Fnd)(s:Sto)(vol sector:Int):Value:=
 if (atV s.vols vol).isSome then
  if chunkS s vol sector=0 then .tuple #[.string ⟨#[]⟩,.bool true]
  else plainV (textP M (chunkS s vol sector))
 else .tuple #[.string ⟨#[]⟩,.bool false]
theorem readL_is(d:Dv)(vol sec:Int):readL (scanF d.flash) d.store vol sec=.tuple #[.string (readP d vol sec).1,.bool (readP d vol sec).2]:=by
 unfold readL readP;split
 ·split
  ·rfl
  ·cases textP (scanF d.flash) (chunkS d.store vol sec)<;>rfl
 ·rfl
theorem sl15Read(fa:Option Addr)(fl fc:Nat)(M:List Fnd)(v:Value)(s:Sto)(vol sec:Int)(w:World)(hl:fl≤1000000000000000000)(ht:∀x∈M,x.page.text.size≤1048576)(hM:FdRd w fa fl M)(h:StIn w v s):
 Calls Tryz.prog 25 #[.slice fa fl fc,v,.int .i64 vol,.int .i64 sec] w fun e w'=>e=.returned (readL M s vol sec)∧Below w.heap.size w w':=by
 have h0:=h;obtain⟨va,vl,vc,ad,ln,cap,-,hv,-⟩:=h0;subst hv;unfold SBox at*;have bA:Below w.heap.size w (w.alloc (.cells #[.slice va vl vc,.slice ad ln cap,.int .i64 s.next] 55)):=(Below.refl _ _).alloc (Nat.le_refl _) _;have kA:(w.alloc (.cells #[.slice va vl vc,.slice ad ln cap,.int .i64 s.next] 55)).heap[w.heap.size]?=some (.cells #[.slice va vl vc,.slice ad ln cap,.int .i64 s.next] 55 (0,0)):=heap_alloc_new _ _;generalize hwa:w.alloc (.cells #[.slice va vl vc,.slice ad ln cap,.int .i64 s.next] 55)=wa at bA kA;have CA:=hide (sat_in vol (h.below bA));have HI:=hide (h.below bA);have HM:=hide (hM.below bA);have HT:=hide ht;have HB:=hide bA;have KA:=hide kA;have c0:=cell_of_row _ _ 0 _ _ _ kA;have c1:=cell_of_row _ _ 1 _ _ _ kA;have c2:=cell_of_row _ _ 2 _ _ _ kA;obtain⟨R,hR⟩:∃R,readL M s vol sec=R:=⟨_,rfl⟩;have HR:Hid (R=if (atV s.vols vol).isSome then if chunkS s vol sec=0 then .tuple #[.string ⟨#[]⟩,.bool true]else plainV (textP M (chunkS s vol sec))else .tuple #[.string ⟨#[]⟩,.bool false]):=hR.symm
 rw[hR];clear hR bA kA ht hM h;go_enter Tryz.func25,Tryz.ntmps25;go_wp2_with fail;clear hwa;refine CA.out.mono ?_;rintro e w1 ⟨rfl,b1⟩;have B1:=hide (HB.out.trans (b1.mono HB.out.size));have I1:=hide (HI.out.below b1);have M1:=hide (HM.out.below b1);have k1:=(b1.block _ (Array.getElem?_eq_some_iff.1 KA.out).1).trans KA.out;have K1:=hide k1;clear CA HB HI HM KA b1 c0 c1 c2;cases ha:atV s.vols vol with
 |none=>
  have HE:Hid (R=.tuple #[.string ⟨#[]⟩,.bool false]):=by show _=_;rw[HR.out,ha];rfl
  have ea:(atI none:Int)= -1:=rfl;clear HR;go_wp2;refine bodyPost_ret (results_tmp2 rfl _ _ _) rfl ?_;rw[HE.out];exact⟨rfl,B1.out⟩
 |some k=>
  have ea:atI (some k)=(k:Int):=rfl;have hk0:¬((k:Int)<0):=by omega
  have HR2:Hid (R=if chunkS s vol sec=0 then .tuple #[.string ⟨#[]⟩,.bool true]else plainV (textP M (chunkS s vol sec))):=by show _=_;rw[HR.out,ha];rfl
  have CC:=hide (schunk_in vol sec I1.out);have c0:=cell_of_row _ _ 0 _ _ _ k1;have c1:=cell_of_row _ _ 1 _ _ _ k1;have c2:=cell_of_row _ _ 2 _ _ _ k1;obtain⟨c,hc⟩:∃c,chunkS s vol sec=c:=⟨_,rfl⟩;rw[hc]at CC HR2;rw[ea];clear HR ha k1 hc ea;go_wp2_with fail;refine CC.out.mono ?_;rintro e w2 ⟨rfl,b2⟩;have B2:=hide (B1.out.trans (b2.mono B1.out.size));have M2:=hide (M1.out.below b2);clear CC b2 B1 M1 I1 K1 c0 c1 c2;by_cases c0:(c==0)=true
  ·have HE:Hid (R=.tuple #[.string ⟨#[]⟩,.bool true]):=by show _=_;rw[HR2.out,if_pos (by simpa using c0)]
   clear HR2;go_wp2;refine bodyPost_ret (results_tmp2 rfl _ _ _) rfl ?_;rw[HE.out];exact⟨rfl,B2.out⟩
  ·have HE:Hid (R=plainV (textP M c)):=by show _=_;rw[HR2.out,if_neg (by simpa using c0)]
   have c0:(c==0)=false:=by simpa using c0
   have CT:=hide (stextL fa fl fc M c w2 hl HT.out M2.out);obtain⟨p,q,hpq⟩:=plainV_open (textP M c);rw[hpq]at CT HE;clear HR2 hpq;go_wp2_with fail;refine CT.out.mono ?_;rintro e w3 ⟨rfl,b3⟩;have B3:=hide (B2.out.trans (b3.mono B2.out.size));clear b3 CT;go_wp2;refine bodyPost_ret (results_tmp2 rfl _ _ _) rfl ?_;rw[HE.out];exact⟨rfl,B3.out⟩
def textsD(d:Dv)(v:Int)(n:Nat):List ByteArray:=(List.range n).map (fun k:Nat=>(readP d v k).1)
def modelP(d:Dv):List Sh:=d.store.vols.map (fun v=>⟨v.1,textsD d v.1 16⟩)
theorem textsD_succ(d:Dv)(v:Int)(n:Nat):textsD d v (n+1)=textsD d v n++[(readP d v n).1]:=by
 unfold textsD;rw[List.range_succ,List.map_append];rfl
theorem textsD_len(d:Dv)(v:Int)(n:Nat):(textsD d v n).length=n:=by simp[textsD]
def XdSt(wr W:World)(id:Int)(tv:Value)(ts:List ByteArray):Prop:=W.heap[wr.heap.size]?=some (.cells #[.int .i64 id,tv] 75 (0,0))∧W.ownsRow (wr.heap.size+1) 9 1 tv ts.length (zcells ts)∧Below wr.heap.size wr W
theorem XdSt.below{w W W':World}{x:Int}{tv:Value}{ss:List ByteArray}(h:XdSt w W x tv ss)(b:Below W.heap.size W W'):XdSt w W' x tv ss:=
 ⟨(b.block _ (Array.getElem?_eq_some_iff.1 h.1).1).trans h.1,own_below h.2.1 b,h.2.2.trans (b.mono h.2.2.size)⟩
theorem XdSt.form{w W:World}{x:Int}{ov:Value}{ss:List ByteArray}(h:XdSt w W x ov ss):∃ad c,ov=.slice ad ss.length c:=by
 rcases h.2.1.2 with⟨rfl,h0⟩|⟨g,cap,cur,rfl,-⟩
 ·exact⟨_,_,by rw[h0]⟩
 ·exact⟨_,_,rfl⟩
theorem XdSt.blk{wr W y:World}{x:Int}{tv:Value}{ts:List ByteArray}(h:XdSt wr W x tv ts)(hg:W.grownBy y tv.ownBlock):y.heap[wr.heap.size]?=some (.cells #[.int .i64 x,tv] 75 (0,0)):=by
 refine(hg.block _ (Array.getElem?_eq_some_iff.1 h.1).1 (fun e=>?_)).trans h.1
 have:=(h.2.1.lt _ e.symm).1;omega
theorem XdSt.snoc{wr W y:World}{x:Int}{tv u:Value}{ts:List ByteArray}{s:ByteArray}(h:XdSt wr W x tv ts)(hg:W.grownBy y tv.ownBlock)(ho:y.ownsRow (wr.heap.size+1) 9 1 u (ts.length+1) (zcells ts++[.string s])):XdSt wr (y.setCell ⟨wr.heap.size,1,none⟩ u) x u (ts++[s]):=by
 have hz:wr.heap.size+1≤W.heap.size:=(Array.getElem?_eq_some_iff.1 h.1).1;have hb:=fun q hq=>(h.2.1.lt q hq).1
 refine⟨row_set (h.blk hg) 1 u,?_,(h.2.2.grown hg (by omega) (fun q hq=>by have:=hb q hq;omega)).setCell (p:=⟨wr.heap.size,1,none⟩) (Nat.le_refl _) _⟩
 have e:zcells (ts++[s])=zcells ts++[.string s]:=by simp[zcells]
 rw[e,List.length_append];exact own_cell ho (by omega) 1 u
theorem new_text(W:World)(s:ByteArray)(n:Nat)(hn:W.heap.size=n):∀(j:Nat) (u:Value),[Value.string s][j]?=some u→(W.alloc (.cells #[.string s] 9)).cell? ((⟨n,0,none⟩:Addr).add j)=some u:=by
 subst hn;intro j u hj
 match j,hj with
 |0,hj=>
  simp at hj;subst hj;simp[Addr.add]
theorem one_text(s:ByteArray):∀u∈ [Value.string s],u.oneCell'=true:=by
 intro u hu;simp at hu;subst hu;rfl
theorem smodelD(v:Value)(d:Dv)(w:World)(h:DvIn w v d):Calls Tryz.prog 10 #[v] w (ShOut w (modelP d)):=by
 obtain⟨fd,fc,va,vl,vc,ad,ln,cap,rfl,h1,h2,h3⟩:=h.form;have bA:Below w.heap.size w (w.alloc (.cells #[.slice fd d.flash.length fc,.slice va vl vc,.slice ad ln cap,.int .i64 d.store.next,.int .i64 d.seq,.int .i64 d.tx,.int .i64 d.base] 57)):=(Below.refl _ _).alloc (Nat.le_refl _) _;have gA:DAt (w.alloc (.cells #[.slice fd d.flash.length fc,.slice va vl vc,.slice ad ln cap,.int .i64 d.store.next,.int .i64 d.seq,.int .i64 d.tx,.int .i64 d.base] 57)) w.heap.size (.slice fd d.flash.length fc) (.slice va vl vc) (.slice ad ln cap) d.store.next d.seq d.tx d.base:=heap_alloc_new _ _;generalize hwa:w.alloc (.cells #[.slice fd d.flash.length fc,.slice va vl vc,.slice ad ln cap,.int .i64 d.store.next,.int .i64 d.seq,.int .i64 d.tx,.int .i64 d.base] 57)=wa at bA gA;obtain⟨rs,e1,i1,l1,ll1,tb1⟩:=(h1.below bA).lens h2;have CS:=hide (sscanO (.slice fd d.flash.length fc) rs wa l1 ll1 tb1 i1);rw[e1]at CS;unfold ScOut at CS;have HR:Hid (∀vol sec,readL (scanF d.flash) d.store vol sec=.tuple #[.string (readP d vol sec).1,.bool (readP d vol sec).2]):=fun vol sec=>readL_is d vol sec
 have HT:Hid (∀x∈scanF d.flash,x.page.text.size≤1048576):=scan_text;obtain⟨M,hM⟩:∃M,scanF d.flash=M:=⟨_,rfl⟩;rw[hM]at CS HR HT;have HI:=hide (h3.below bA);obtain⟨va',vl',vc',ad',ln',cap',rs',hv,-,hvl,-,-,-,hvr,-⟩:=h3.below bA;unfold SBox at hv;injection hv with hv
 simp only[Array.mk.injEq,List.cons.injEq,Value.slice.injEq,and_true]at hv;obtain⟨⟨rfl,rfl,rfl⟩,-⟩:=hv;have HVR:=hide hvr;have HV1:=hide hvr.1;have c0:=gA.cells.1;have HG:=hide gA;have HD:=hide bA;obtain⟨J,hJ⟩:∃J,d.store.next=J:=⟨_,rfl⟩;rw[hJ]at HI HG hwa;rw[hJ];clear hJ bA gA h1 h2 h3 h rs e1 i1 l1 ll1 tb1 hM hvr;obtain⟨i0,hi0,hz0,hz1,hz2⟩:=info_parts infoZs;have I0:=hide hi0;have Y0:=hide hz0;have Y1:=hide hz1;have Y2:=hide hz2;clear hi0 hz0 hz1 hz2;obtain⟨j0,hi0,hz0,hz1,hz2⟩:=info_parts infoSh;have J0:=hide hi0;have Z0:=hide hz0;have Z1:=hide hz1;have Z2:=hide hz2;clear hi0 hz0 hz1 hz2;go_enter Tryz.func10,Tryz.ntmps10;go_wp2_with fail;clear hwa;refine CS.out.mono ?_;rintro e w1 ⟨la,lc,rfl,f1,f2,f3⟩;have S0:Hid (HcSt w1 (w1.alloc (.cells #[] 75)) (.slice (some ⟨w1.heap.size,0,none⟩) 0 0) []):=⟨HOwn.empty _ _ (Nat.le_refl _),(Below.refl _ _).alloc (Nat.le_refl _) _⟩;have F1:=hide f1;have HML:=hide f2;have D1:=hide (HD.out.trans (f3.mono HD.out.size));have G1:=hide (HG.out.below f3);have I1:=hide (HI.out.below f3);have V1:=hide (HVR.out.below f3);clear f1 f2 f3 CS HG HI HD HVR c0;go_wp2;generalize w1.alloc (.cells #[] 75)=wb at S0⊢;go_loopw [4,5] (fun ov iv W=>∃(k:Nat) (ss:List Hw),k≤vl∧iv=.int .i64 k∧ss.length≤k∧Hid (ss.map htell=(modelP d).take k)∧Hid (HcSt w1 W ov ss)) (fun _ iv _=>vl-(intOf iv).toNat)
 case atStart=>exact⟨0,[],Nat.zero_le _,rfl,Nat.zero_le _,by show _=_;simp,S0⟩
 case round=>
  obtain⟨k,ss,hk,rfl,hsk,HS1,HS⟩:=hrel
  rename World=>wq
  clear S0;obtain⟨oa,oc,hov⟩:=HS.out.1.form;subst hov;have GR:=hide (G1.out.below HS.out.2);have a1:=GR.out.cells.2.1;by_cases hlt:(k:Int)<vl
  ·obtain⟨r,hr⟩:∃r,d.store.vols[k]?=some r:=⟨_,List.getElem?_eq_getElem (by have:=HV1.out;omega)⟩
   obtain⟨b,off,e,hb,hc⟩:=(V1.out.below HS.out.2).2.2.2 (by omega)
   subst e;obtain⟨b0,-⟩:=hc k r hr;have HT2:Hid (ss.map htell++[⟨r.1,textsD d r.1 16⟩]=(modelP d).take (k+1)):=by
    show _=_;rw[HS1.out,List.take_add_one];unfold modelP;rw[List.getElem?_map,hr];rfl
   obtain⟨id,rt⟩:=r;simp only at b0 HT2;have k0:(0:Int)≤k:=by omega
   clear hr hb hc HS1;obtain⟨sn,hsn⟩:∃sn,ss.length=sn:=⟨_,rfl⟩;rw[hsn]at HS hsk⊢;have HSN:=hide hsn;clear hsn;have hzr:Hid (w1.heap.size≤wq.heap.size):=HS.out.2.size;have X0:Hid (XdSt wq (wq.alloc (.cells #[.int .i64 id,.slice none 0 0] 75)) id (.slice none 0 0) (textsD d id 0)):=
    ⟨heap_alloc_new wq _,World.ownsRow_nil _ _ _ _,(Below.refl _ _).alloc (Nat.le_refl _) _⟩
   go_wp2;generalize wq.alloc (.cells #[.int .i64 id,.slice none 0 0] 75)=wx at X0⊢;go_loopw [7] (fun jv W=>∃(j:Nat) (tv:Value),j≤16∧jv=.int .i64 j∧Hid (XdSt wq W id tv (textsD d id j))) (fun jv _=>16-(intOf jv).toNat)
   case atStart=>exact⟨0,_,Nat.zero_le _,rfl,X0⟩
   case round=>
    obtain⟨j,tv,hj,rfl,HX⟩:=hrel;clear X0;obtain⟨ta,tc,htv⟩:=HX.out.form;rw[textsD_len]at htv;subst htv;have x0:=cell_of_row _ _ 0 _ _ _ HX.out.1;have x1:=cell_of_row _ _ 1 _ _ _ HX.out.1;have BQ:=hide (HS.out.2.trans (HX.out.2.2.mono hzr.out));by_cases hjl:(j:Int)<16
    ·have G2:=hide (G1.out.below BQ.out);have y1:=G2.out.cells.2.1;have y2:=G2.out.cells.2.2.1;have y3:=G2.out.cells.2.2.2.1;have CR:=hide (sl15Read la M.length lc M (.agg #[.slice (some ⟨b,off,none⟩) vl vc,.slice ad ln cap,.int .i64 J]) d.store id j wr (by have:=HML.out;omega) HT.out (F1.out.below BQ.out) (I1.out.below BQ.out))
     rw[HR.out]at CR;have HTX:=hide (textsD_succ d id j);have HTL:=hide (textsD_len d id j);obtain⟨P,hP⟩:∃P,readP d id j=P:=⟨_,rfl⟩;rw[hP]at CR HTX;obtain⟨TT,hTT⟩:∃TT,textsD d id j=TT:=⟨_,rfl⟩;rw[hTT]at HX HTX HTL;obtain⟨ps,pb⟩:=P;simp only at CR HTX;clear hP hTT;go_wp2_with fail;refine CR.out.mono ?_;rintro e w2 ⟨rfl,g2⟩;have X2:=hide (HX.out.below g2);have z1:=cell_of_row _ _ 1 _ _ _ X2.out.1;have X3:=hide (X2.out.below ((Below.refl _ _).alloc (Nat.le_refl _) (.cells #[.string ps] 9)));have OW:Hid ((w2.alloc (.cells #[.string ps] 9)).ownsRow (wq.heap.size+1) 9 1 (.slice ta j tc) j (zcells TT)):=by have:=X3.out.2.1;rw[HTL.out]at this;exact this
     have HZ3:Hid (wq.heap.size+1≤(w2.alloc (.cells #[.string ps] 9)).heap.size):=(Array.getElem?_eq_some_iff.1 X3.out.1).1;clear g2 CR HX x0 x1;go_wp2_with (at_builtin;refine wpList_append_own _ rfl _ _ 73 rfl (wq.heap.size+1) 9 i0 (.string ⟨#[]⟩) 1 16 Tryz.underlying73 I0.out Y0.out Y1.out Y2.out rfl (by decide) _ j (zcells TT) rfl OW.out ⟨w2.heap.size,0,none⟩ 1 1 [Value.string ps] rfl rfl (new_text _ _ _ rfl) (one_text _) (by unfold maxLen;omega) (by omega) HZ3.out ?_)
     intro u4 w4 o4 g4 _;obtain⟨ua,uc,hu4,-⟩:=(Sli.of o4).form;subst hu4;have r4:=X3.out.blk g4;have t1:=cell_of_row _ _ 1 _ _ _ r4;have t2:=frozen_of_row _ _ 1 _ _ r4;have SN:Hid (XdSt wq (w4.setCell ⟨wq.heap.size,1,none⟩ (.slice ua (j+1) uc)) id (.slice ua (j+1) uc) (textsD d id (j+1))):=by
      rw[HTX.out];exact X3.out.snoc g4 (by rw[HTL.out];exact o4)
     clear o4 g4 r4 OW HZ3 X2 X3 HTX HTL z1;go_wp2;go_roundw
     case rel=>first|exact⟨j+1,_,by omega,by go_num,SN⟩|exact⟨_,j+1,_,by omega,by go_num,SN⟩
     case measure=>simp[intOf];omega
    ·have hj16:j=16:=by omega
     subst hj16;have OWR:Hid (wq.ownsRow w1.heap.size 75 2 (.slice oa sn oc) sn (shcells ss)):=by have:=HS.out.1.1;rw[HSN.out]at this;exact this
     have BC:Hid (Below wr.heap.size wr (wr.alloc (.cells #[.int .i64 id,.slice ta 16 tc] 75))):=(Below.refl _ _).alloc (Nat.le_refl _) _;have BX:Hid (Below wq.heap.size wq (wr.alloc (.cells #[.int .i64 id,.slice ta 16 tc] 75))):=HX.out.2.2.trans (BC.out.mono HX.out.2.2.size);have OW2:=hide (own_below OWR.out BX.out);have HS2:Hid (w1.heap.size≤(wr.alloc (.cells #[.int .i64 id,.slice ta 16 tc] 75)).heap.size):=Nat.le_trans hzr.out BX.out.size;go_wp2_with (at_builtin;refine wpList_append_own _ rfl _ _ 45 rfl w1.heap.size 75 j0 (.agg #[.int .i64 0,.slice none 0 0]) 2 32 Tryz.underlying45 J0.out Z0.out Z1.out Z2.out rfl (by decide) _ sn (shcells ss) rfl OW2.out ⟨wr.heap.size,0,none⟩ 1 1 [.int .i64 id,.slice ta 16 tc] rfl rfl (new_shelf _ _ _ _ rfl) (sh_one _ _ _ _) (by unfold maxLen;omega) (by omega) HS2.out ?_)
     intro u4 w4 o4 g4 _;obtain⟨ua,uc,hu4,-⟩:=(Sli.of o4).form;subst hu4;have SN:Hid (HcSt w1 w4 (.slice ua (sn+1) uc) (ss++[(id,.slice ta 16 tc,textsD d id 16)])):=by
      have hr2:Sli 9 wq.heap.size (wr.alloc (.cells #[.int .i64 id,.slice ta 16 tc] 75)).heap.size (.slice ta 16 tc) (textsD d id 16).length (zcells (textsD d id 16)) (wr.alloc (.cells #[.int .i64 id,.slice ta 16 tc] 75)):=(((Sli.of HX.out.2.1).blw BC.out).up BC.out.size).dn (by omega)
      have ho:w4.ownsRow w1.heap.size 75 2 (.slice ua (sn+1) uc) (ss++[(id,Value.slice ta 16 tc,textsD d id 16)]).length (shcells (ss++[(id,Value.slice ta 16 tc,textsD d id 16)])):=by
       rw[←shcells_snoc,List.length_append,HSN.out];exact o4
      exact⟨HOwn.snoc (r:=(id,Value.slice ta 16 tc,textsD d id 16)) HS.out.1 BX.out hzr.out hr2 (by simp only[textsD_len];unfold maxLen;omega) g4 ho,(HS.out.2.trans (BX.out.mono hzr.out)).grown g4 HS2.out (fun q hq=>(OW2.out.lt q hq).1)⟩
     have HT3:Hid ((ss++[(id,Value.slice ta 16 tc,textsD d id 16)]).map htell=(modelP d).take (k+1)):=by
      show _=_;rw[List.map_append];exact HT2.out
     have hs3:(ss++[(id,Value.slice ta 16 tc,textsD d id 16)]).length≤k+1:=by rw[List.length_append,HSN.out];simp;omega
     generalize ss++[(id,Value.slice ta 16 tc,textsD d id 16)]=ss2 at SN HT3 hs3;clear o4 g4 OWR BC BX OW2 HS2 HX HS HT2 BQ x0 x1;go_wp2;go_roundw
     case rel=>first|exact⟨k+1,ss2,by omega,by go_num,hs3,HT3,SN⟩|exact⟨_,_,k+1,ss2,by omega,by go_num,hs3,HT3,SN⟩
     case measure=>simp[intOf];omega
  ·have ET:Hid (ss.map htell=modelP d):=by
    show _=_;rw[HS1.out,List.take_of_length_le (by unfold modelP;rw[List.length_map];have:=HV1.out;omega)]
   go_wp2;go_ret;exact⟨_,ss,rfl,HS.out.1.down D1.out.size,ET.out,D1.out.trans (HS.out.2.mono D1.out.size)⟩
end Go.Proofs.YtiicghepilbgfaaGreatDoor
