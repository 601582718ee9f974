/-
  INewest; ISpot; IRdOf; IModD
-/
import Derived.Test.YtiicghepilbgfaaGreatDoorPk25
import Derived.Test.YtiicghepilbgfaaGreatDoorPk38
import Derived.Test.YtiicghepilbgfaaGreatDoorPk31
import Derived.Test.YtiicghepilbgfaaGreatDoorPk34
import Derived.WalkLawsBesides
import Derived.Test.YtiicghepilbgfaaGreatDoorPk36
import Derived.Deep.QuietTactic
import Derived.BigQuiet
import Derived.Test.YtiicghepilbgfaaGreatDoorPk5
set_option maxHeartbeats 2000000
set_option maxRecDepth 100000
namespace Go.Proofs.YtiicghepilbgfaaGreatDoor
open Go.RowKit
open Words Pack
def NewL(M:List Fnd)(l:List (Int×Value)):Prop:=∀c,atG l c=(newP M c).map fdVal
theorem tyNP:Tryz.prog.underlying 147=some (.map 3 106):=Tryz.underlying147
theorem zeroFd(w:World):(zeroValue 106).run Tryz.prog w=.ok (.agg #[.int .i64 0,.int .i64 0,.int .i64 0,.int .i64 0,.int .i64 0,.int .i64 0,.int .i64 0,.string ⟨#[]⟩]) w:=by kernel_rfl
def NM(W:World)(B:Nat)(M:List Fnd):Prop:=∃l,MapG enI W B l∧NewL M l
theorem NM.below{W W':World}{B:Nat}{M:List Fnd}(h:NM W B M)(b:Below W.heap.size W W'):NM W' B M:=by
 obtain⟨l,h1,h2⟩:=h;exact⟨l,h1.below b,h2⟩
theorem NM.look{W:World}{B:Nat}{M:List Fnd}(h:NM W B M)(x:Int)(c:Bool):
 (Instr.lookup 147 (.map (some B)) (.int .i64 x) c).run Tryz.prog W=.ok (if c then .tuple #[fdVal (fdOr (newP M x)),.bool (newP M x).isSome]else fdVal (fdOr (newP M x))) W:=by
 obtain⟨l,h1,h2⟩:=h;have:=h1.look tyNP keysI (zeroFd W) x c;rw[h2 x]at this;rw[show(Value.int .i64 x)=enI x from rfl,this];cases newP M x<;>rfl
theorem NM.put{W:World}{B:Nat}{M:List Fnd}(h:NM W B M){x:Fnd}(hx:x.page.kind=1):
 ∃W',(Instr.mapUpdate 147 (.map (some B)) (.int .i64 x.page.tx) (fdVal x)).run Tryz.prog W=.ok () W'∧NM W' B (M++[x])∧W.grownBy W' (some B):=by
 obtain⟨l,h1,h2⟩:=h;obtain⟨W',e1,e2,e3,-⟩:=h1.new tyNP keysI x.page.tx (fdVal x);refine⟨W',e1,⟨_,e2,fun c=>?_⟩,e3⟩
 rw[atG_new,newP_snoc,h2 c];unfold isData;rw[hx];by_cases e:c=x.page.tx
 ·subst e;simp
 ·have:¬x.page.tx=c:=fun q=>e q.symm
  simp[e,this]
theorem NM.skip{W:World}{B:Nat}{M:List Fnd}(h:NM W B M){x:Fnd}(hx:x.page.kind≠1):NM W B (M++[x]):=by
 obtain⟨l,h1,h2⟩:=h;refine⟨l,h1,fun c=>?_⟩
 rw[newP_snoc,h2 c];unfold isData;simp[hx]
theorem take_snoc{M:List Fnd}{k:Nat}{x:Fnd}(h:M[k]?=some x):M.take (k+1)=M.take k++[x]:=by rw[List.take_add_one,h];rfl
theorem inewestOf(ad:Option Addr)(len cap:Nat)(M:List Fnd)(w:World)(hl:len≤1099511627776)(h:FdRd w ad len M):
 Calls Tryz.prog 75 #[.slice ad len cap] w fun e w'=>∃B,e=.returned (.map (some B))∧w.heap.size≤B∧NM w' B M∧Below w.heap.size w w':=by
 have HN:=hide (show M.length=len from h.1);have HR:=hide h;have hmm:= @run_makeMap Tryz.prog;have b0:Below w.heap.size w (w.alloc (.map #[] 0)):=(Below.refl _ _).alloc (Nat.le_refl _) _;have N0:Hid (NM (w.alloc (.map #[] 0)) w.heap.size (M.take 0)):=⟨[],MapG.made w,fun c=>rfl⟩
 have B0:=hide b0;clear h b0;go_enter Tryz.func75,Tryz.ntmps75;go_wp2;go_loopw [9] (fun iv wr=>∃k:Nat,iv=.int .i64 k∧k≤len∧Hid (NM wr w.heap.size (M.take k))∧Hid (Below w.heap.size w wr)) (fun iv _=>len-(intOf iv).toNat)
 case atStart=>exact⟨0,rfl,Nat.zero_le _,N0,B0⟩
 case round=>
  rename World=>wr
  obtain⟨k,rfl,hk,N1,B1⟩:=hrel;clear N0 B0;have hk0:(0:Int)≤k:=by omega
  by_cases hlt:(k:Int)<len
  ·obtain⟨x,hx⟩:∃x,M[k]?=some x:=⟨_,List.getElem?_eq_getElem (by have:=HN.out;omega)⟩
   obtain⟨rb,ro,rfl,-,c0,c1,c2,c3,c4,c5,c6,c7,d4⟩:=(HR.out.below B1.out).all hx;have hT:=take_snoc hx;obtain⟨xb,xl,pk,pq,px,pp,pc,pt⟩:=x;simp only at c0 c1 c2 c3 c4 c5 c6 c7 d4;have ba:Below wr.heap.size wr (wr.alloc (.cells #[.int .i64 xb,.int .i64 xl,.int .i64 pk,.int .i64 pq,.int .i64 px,.int .i64 pp,.int .i64 pc,.string pt] 106)):=(Below.refl _ _).alloc (Nat.le_refl _) _;have N2:=hide (N1.out.below ba);have B2:=hide (B1.out.trans (ba.mono B1.out.size));have FA:Hid (FdAt (wr.alloc (.cells #[.int .i64 xb,.int .i64 xl,.int .i64 pk,.int .i64 pq,.int .i64 px,.int .i64 pp,.int .i64 pc,.string pt] 106)) wr.heap.size ⟨xb,xl,pk,pq,px,pp,pc,pt⟩):=heap_alloc_new _ _;obtain⟨y0,y1,y2,y3,y4,y5,y6,y7⟩:=FA.out.cells;simp only at y0 y1 y2 y3 y4 y5 y6 y7;by_cases q1:(pk==1)=true
   ·obtain⟨W3,e3,n3,g3⟩:=N2.out.put (x:=⟨xb,xl,pk,pq,px,pp,pc,pt⟩) (by simpa using q1)
    unfold fdVal at e3;simp only at e3;have N3:Hid (NM W3 w.heap.size (M.take (k+1))):=by rw[hT];exact n3
    have B3:=hide (B2.out.grown g3 B2.out.size (fun j hj=>by cases hj;exact Nat.le_refl _))
    clear hx hT n3 g3 N1 B1 N2 B2 ba FA;go_wp2;go_roundw
    case rel=>exact⟨k+1,by go_num,by omega,N3,B3⟩
    case measure=>simp[intOf];omega
   ·have N3:Hid (NM (wr.alloc (.cells #[.int .i64 xb,.int .i64 xl,.int .i64 pk,.int .i64 pq,.int .i64 px,.int .i64 pp,.int .i64 pc,.string pt] 106)) w.heap.size (M.take (k+1))):=by rw[hT];exact N2.out.skip (by simpa using q1)
    have q1:(pk==1)=false:=by simpa using q1
    clear hx hT N1 B1 N2 ba FA;go_wp2;go_roundw
    case rel=>exact⟨k+1,by go_num,by omega,N3,B2⟩
    case measure=>simp[intOf];omega
  ·have N2:Hid (NM wr w.heap.size M):=by
    have:=N1.out;rw[List.take_of_length_le (by have:=HN.out;omega)]at this
    exact this
   clear N1;go_wp2;go_ret;exact⟨w.heap.size,rfl,Nat.le_refl _,N2.out,B1.out⟩
theorem itextOf(B:Nat)(M:List Fnd)(c:Int)(w:World)(ht:∀x∈M,x.page.text.size≤1048576)(h:NM w B M):
 Calls Tryz.prog 77 #[.map (some B),.int .i64 c] w fun e w'=>e=.returned (plainV (textP M c))∧Below w.heap.size w w':=by
 have hlk:=h.look c true;simp only[if_true]at hlk;cases hn:newP M c with
 |none=>
  have HO:Hid (textP M c=none):=by show _=_;unfold textP;rw[hn];rfl
  rw[hn]at hlk;unfold fdOr fd0 fdVal at hlk;simp only[Option.getD_none,Option.isSome_none]at hlk;have B1:=hide ((Below.refl w.heap.size w).alloc (Nat.le_refl _) (.cells #[.int .i64 0,.int .i64 0,.int .i64 0,.int .i64 0,.int .i64 0,.int .i64 0,.int .i64 0,.string ⟨#[]⟩] 106));clear h ht hn;go_enter Tryz.func77,Tryz.ntmps77;go_wp2;refine bodyPost_ret (results_tmp2 rfl _ _ _) rfl ?_;rw[HO.out];exact⟨rfl,B1.out⟩
 |some x=>
  have HO:Hid (textP M c=unpackL x.page.text.data.toList):=by show _=_;unfold textP;rw[hn];rfl
  have hsz:=ht x (newP_mem hn).1;rw[hn]at hlk;obtain⟨xb,xl,pk,pq,px,pp,pc,pt⟩:=x;unfold fdOr fdVal at hlk;simp only[Option.getD_some,Option.isSome_some]at hlk;have CU:=hide (fun W=>iunp_any pt.data.toList W (Nat.le_trans hsz (by decide)))
  rw[show BA pt.data.toList=pt from by unfold BA;simp]at CU
  simp only at HO;obtain⟨p,q,hpq⟩:=plainV_open (unpackL pt.data.toList);rw[hpq]at CU;have HPQ:=hide hpq;have b2:Below w.heap.size w (w.alloc (.cells #[.int .i64 xb,.int .i64 xl,.int .i64 pk,.int .i64 pq,.int .i64 px,.int .i64 pp,.int .i64 pc,.string pt] 106)):=(Below.refl _ _).alloc (Nat.le_refl _) _;have B1:=hide b2;have FA:Hid (FdAt (w.alloc (.cells #[.int .i64 xb,.int .i64 xl,.int .i64 pk,.int .i64 pq,.int .i64 px,.int .i64 pp,.int .i64 pc,.string pt] 106)) w.heap.size ⟨xb,xl,pk,pq,px,pp,pc,pt⟩):=heap_alloc_new _ _;obtain⟨-,-,-,-,-,-,-,k7⟩:=FA.out.cells;simp only at k7;clear h ht hn hpq b2 FA;go_enter Tryz.func77,Tryz.ntmps77;go_wp2_with fail;refine(CU.out _).mono ?_;rintro e w2 ⟨rfl,b3⟩;have B2:=hide (B1.out.trans (b3.mono B1.out.size));clear b3 B1;go_wp2;refine bodyPost_ret (results_tmp2 rfl _ _ _) rfl ?_;rw[HO.out,HPQ.out];exact⟨rfl,B2.out⟩
end Go.Proofs.YtiicghepilbgfaaGreatDoor
namespace Go.Proofs.YtiicghepilbgfaaGreatDoor
open Go.RowKit
open Words Sums Pack
theorem ichunkText(v:Value)(rs:List Rw)(c:Int)(w:World)(hl:rs.length≤1048576)(hll:∀r∈rs,r.2.2.2.length≤1048576)(htx:TxB rs)(ha:FlashRd w v rs)(hH:HalvIn w):
 Calls Tryz.prog 51 #[.agg #[v],.int .i64 c] w fun e w'=>e=.returned (plainV (textP (scanF (rs.map tellOf)) c))∧Below w.heap.size w w':=by
 have b0:Below w.heap.size w (w.alloc (.cells #[v] 49)):=(Below.refl _ _).alloc (Nat.le_refl _) _;have k0:(w.alloc (.cells #[v] 49)).cell? ⟨w.heap.size,0,none⟩=some v:=cell_of_row _ _ 0 _ _ _ (heap_alloc_new w (.cells #[v] 49));have C:=hide (iscanO v rs _ hl hll htx (ha.below b0) (hH.on b0));have B0:=hide b0;obtain⟨M,hM⟩:∃M,scanF (rs.map tellOf)=M:=⟨_,rfl⟩;have HT:Hid (∀x∈M,x.page.text.size≤1048576):=by rw[←hM];exact scan_text
 unfold ScOut at C;rw[hM]at C⊢;obtain⟨p,q,hpq⟩:=plainV_open (textP M c);have HPQ:=hide hpq;clear hl hll htx ha b0 hM hpq hH;go_enter Tryz.func51,Tryz.ntmps51;go_wp2_with fail;refine C.out.mono ?_;rintro e w1 ⟨ad,cap,rfl,h1,h2,h3⟩;have CN:=hide (inewestOf ad M.length cap M w1 h2 h1);have B1:=hide (B0.out.trans (h3.mono B0.out.size));clear C h1 h2 h3 B0 k0;go_wp2_with fail;refine CN.out.mono ?_;rintro e w2 ⟨BN,rfl,-,hN,b2⟩;have CT:=hide (itextOf BN M c w2 HT.out hN);have B2:=hide (B1.out.trans (b2.mono B1.out.size));rw[HPQ.out]at CT;clear CN b2 hN B1;go_wp2_with fail;refine CT.out.mono ?_;rintro e w3 ⟨rfl,b3⟩;have B3:=hide (B2.out.trans (b3.mono B2.out.size));clear b3 CT;go_wp2;refine bodyPost_ret (results_tmp2 rfl _ _ _) rfl ?_;rw[HPQ.out];exact⟨rfl,B3.out⟩
theorem stin_vols{W:World}{va:Option Addr}{vl vc:Nat}{ad:Option Addr}{ln cap:Nat}{n:Int}{s:Sto}(h:StIn W (.agg #[.slice va vl vc,.slice ad ln cap,.int .i64 n]) s):vl≤1048576∧VlRow W va vl s.vols:=by
 obtain⟨va',vl',vc',ad',ln',cap',rs',e,-,e3,-,-,-,e4,-⟩:=h;unfold SBox at e;injection e with e
 injection e with e
 simp only[List.cons.injEq,Value.slice.injEq,and_true]at e;obtain⟨⟨e0,e1,-⟩,-⟩:=e;subst e0 e1;exact⟨e3,e4⟩
theorem ihasVol(x:Value)(d:Dv)(id:Int)(w:World)(h:DvIn w x d):Calls Tryz.prog 49 #[x,.int .i64 id] w fun e w'=>e=.returned (.bool (atV d.store.vols id).isSome)∧Below w.heap.size w w':=by
 obtain⟨fd,fc,va,vl,vc,ad,ln,cap,rfl,h1,h2,h3⟩:=h.form;have bA:Below w.heap.size w (w.alloc (.cells #[.slice fd d.flash.length fc,.slice va vl vc,.slice ad ln cap,.int .i64 d.store.next,.int .i64 d.seq,.int .i64 d.tx,.int .i64 d.base] 57)):=(Below.refl _ _).alloc (Nat.le_refl _) _;have gA:DAt (w.alloc (.cells #[.slice fd d.flash.length fc,.slice va vl vc,.slice ad ln cap,.int .i64 d.store.next,.int .i64 d.seq,.int .i64 d.tx,.int .i64 d.base] 57)) w.heap.size (.slice fd d.flash.length fc) (.slice va vl vc) (.slice ad ln cap) d.store.next d.seq d.tx d.base:=heap_alloc_new _ _;generalize hwa:w.alloc (.cells #[.slice fd d.flash.length fc,.slice va vl vc,.slice ad ln cap,.int .i64 d.store.next,.int .i64 d.seq,.int .i64 d.tx,.int .i64 d.base] 57)=wa at bA gA;obtain⟨hvl,hv⟩:=stin_vols (h3.below bA);have c1:=gA.cells.2.1;have HV:=hide hv;have CV:=hide (ivolAt va vl vc d.store.vols id wa hvl hv);have HB:=hide bA;clear bA gA h h1 h2 h3 hv;go_enter Tryz.func49,Tryz.ntmps49;go_wp2_with fail;clear hwa;refine CV.out.mono ?_;rintro e w1 ⟨rfl,rfl⟩;cases ha:atV d.store.vols id with
 |none=>
  have ev:volP va none=.pointer none:=rfl;have HE:Hid ((atV d.store.vols id).isSome=false):=by show _=_;rw[ha];rfl
  rw[ev];clear ev ha CV;go_wp2;go_ret;exact⟨by rw[HE.out];rfl,HB.out⟩
 |some k=>
  obtain⟨v,hv,-⟩:=atV_some ha;obtain⟨b,off,e,-⟩:=HV.out.at hv;subst e;have ev:volP (some ⟨b,off,none⟩) (some k)=.pointer (some ⟨b,off+k*2,none⟩):=rfl;have HE:Hid ((atV d.store.vols id).isSome=true):=by show _=_;rw[ha];rfl
  rw[ev];clear ev ha CV hv;go_wp2;go_ret;exact⟨by rw[HE.out];rfl,HB.out⟩
theorem ireadOf(x:Value)(d:Dv)(vol sec:Int)(w:World)(h:DvIn w x d)(hH:HalvIn w):Calls Tryz.prog 28 #[x,.int .i64 vol,.int .i64 sec] w fun e w'=>e=.returned (.tuple #[.string (readP d vol sec).1,.bool (readP d vol sec).2])∧Below w.heap.size w w':=by
 have h0:=h;obtain⟨fd,fc,va,vl,vc,ad,ln,cap,rfl,h1,h2,h3⟩:=h.form;have bA:Below w.heap.size w (w.alloc (.cells #[.slice fd d.flash.length fc,.slice va vl vc,.slice ad ln cap,.int .i64 d.store.next,.int .i64 d.seq,.int .i64 d.tx,.int .i64 d.base] 57)):=(Below.refl _ _).alloc (Nat.le_refl _) _;have gA:DAt (w.alloc (.cells #[.slice fd d.flash.length fc,.slice va vl vc,.slice ad ln cap,.int .i64 d.store.next,.int .i64 d.seq,.int .i64 d.tx,.int .i64 d.base] 57)) w.heap.size (.slice fd d.flash.length fc) (.slice va vl vc) (.slice ad ln cap) d.store.next d.seq d.tx d.base:=heap_alloc_new _ _;generalize hwa:w.alloc (.cells #[.slice fd d.flash.length fc,.slice va vl vc,.slice ad ln cap,.int .i64 d.store.next,.int .i64 d.seq,.int .i64 d.tx,.int .i64 d.base] 57)=wa at bA gA;have CV:=hide (ihasVol _ d vol wa (h0.below bA));have HR:=hide (readL_is d vol sec);unfold readL at HR;obtain⟨P,hP⟩:∃P,readP d vol sec=P:=⟨_,rfl⟩;rw[hP]at HR⊢;have HB:=hide bA;have HG:=hide gA;have H1:=hide h1;have H2:=hide h2;have H3:=hide h3;have HH:=hide hH;obtain⟨c0,c1,c2,c3,c4,c5,c6⟩:=gA.cells;clear bA gA h h0 h1 h2 h3 hH hP;go_enter Tryz.func28,Tryz.ntmps28;go_wp2_with fail;clear hwa;refine CV.out.mono ?_;rintro e w1 ⟨rfl,b1⟩;have B1:=hide (HB.out.trans (b1.mono HB.out.size));have G1:=hide (HG.out.below b1);clear CV b1 HB HG c0 c1 c2 c3 c4 c5 c6;by_cases ha:(atV d.store.vols vol).isSome=true
 ·have HR2:Hid ((if chunkS d.store vol sec=0 then .tuple #[.string ⟨#[]⟩,.bool true]else plainV (textP (scanF d.flash) (chunkS d.store vol sec)))=Value.tuple #[.string P.1,.bool P.2]):=by show _=_;rw[←HR.out,if_pos ha]
  have CC:=hide (ichunk _ d.store vol sec w1 (H3.out.below B1.out));obtain⟨c,hc⟩:∃c,chunkS d.store vol sec=c:=⟨_,rfl⟩;rw[hc]at CC HR2;obtain⟨-,c1,c2,c3,-⟩:=G1.out.cells;rw[ha];clear HR hc;go_wp2_with fail;refine CC.out.mono ?_;rintro e w2 ⟨rfl,b2⟩;have B2:=hide (B1.out.trans (b2.mono B1.out.size));have G2:=hide (G1.out.below b2);clear CC b2 B1 G1 c1 c2 c3;by_cases c0:(c==0)=true
  ·have HE:Hid (Value.tuple #[.string ⟨#[]⟩,.bool true]=Value.tuple #[.string P.1,.bool P.2]):=by show _=_;rw[←HR2.out,if_pos (by simpa using c0)]
   clear HR2;go_wp2;refine bodyPost_ret (results_tmp2 rfl _ _ _) rfl ?_;rw[←HE.out];exact⟨rfl,B2.out⟩
  ·have HE:Hid (plainV (textP (scanF d.flash) c)=Value.tuple #[.string P.1,.bool P.2]):=by show _=_;rw[←HR2.out,if_neg (by simpa using c0)]
   have c0:(c==0)=false:=by simpa using c0
   obtain⟨rs,e1,i1,l1,ll1,tb1⟩:=(H1.out.below B2.out).lens H2.out;have CT:=hide (ichunkText (.slice fd d.flash.length fc) rs c w2 l1 ll1 tb1 i1 (HH.out.on B2.out));rw[e1,HE.out]at CT;have k0:=G2.out.cells.1;clear HR2 HE e1 i1 l1 ll1 tb1;go_wp2_with fail;refine CT.out.mono ?_;rintro e w3 ⟨rfl,b3⟩;have B3:=hide (B2.out.trans (b3.mono B2.out.size));clear b3 CT;go_wp2;refine bodyPost_ret (results_tmp2 rfl _ _ _) rfl ?_;exact⟨rfl,B3.out⟩
 ·have HE:Hid (Value.tuple #[.string ⟨#[]⟩,.bool false]=Value.tuple #[.string P.1,.bool P.2]):=by show _=_;rw[←HR.out,if_neg ha]
  have ha:(atV d.store.vols vol).isSome=false:=by simpa using ha
  rw[ha];clear HR;go_wp2;refine bodyPost_ret (results_tmp2 rfl _ _ _) rfl ?_;rw[←HE.out];exact⟨rfl,B1.out⟩
def MdSt(w W:World)(z n:Nat)(fv vv kv:Value)(nx sq tx bs:Int)(ss:List Hw)(zs:List Value):Prop:=DAt W z fv vv kv nx sq tx bs∧ShFil W (z+1) (.slice (some ⟨z+1,0,none⟩) n n) n ss zs∧Below z w W
def TxFil(w W:World)(g n:Nat)(ls:List ByteArray)(zs:List Value):Prop:=W.ownsRow g 9 1 (.slice (some ⟨g,0,none⟩) n n) n (zcells ls++zs)∧Below g w W
theorem TxFil.put{w W:World}{g n j:Nat}{ls:List ByteArray}{a:Value}{zs:List Value}(h:TxFil w W g n ls (a::zs))(hj:ls.length=j)(s:ByteArray):TxFil w (W.setCell ⟨g,j,none⟩ (.string s)) g n (ls++[s]) zs:=by
 refine⟨?_,h.2.setCell (p:=⟨g,j,none⟩) (Nat.le_refl _) _⟩;have e:(zcells ls++a::zs).set j (.string s)=zcells (ls++[s])++zs:=by
  rw[List.set_append_right _ _ (by rw[zcells_len,hj];exact Nat.le_refl _),zcells_len,hj,Nat.sub_self]
  simp[zcells]
 rw[←e];exact fown_set h.1 rfl j _
theorem TxFil.fr{w W:World}{g n:Nat}{ls:List ByteArray}{zs:List Value}(h:TxFil w W g n ls zs)(j:Nat):W.frozen? ⟨g,j,none⟩=false:=by
 obtain⟨-,-,cs,q⟩:=own_kind h.1 g rfl;exact frozen_of_row _ _ j _ _ q
theorem TxFil.cell{w W:World}{g n j:Nat}{ls:List ByteArray}{a:Value}{zs:List Value}(h:TxFil w W g n ls (a::zs))(hj:ls.length=j):W.cell? ⟨g,j,none⟩=some a:=by
 rw[←addr_at];refine h.1.cells (g:=g) rfl j a ?_;rw[List.getElem?_append_right (by rw[zcells_len,hj];exact Nat.le_refl _),zcells_len,hj,Nat.sub_self]
 rfl
theorem TxFil.below{w W W':World}{g n:Nat}{ls:List ByteArray}{zs:List Value}(h:TxFil w W g n ls zs)(hg:g≤w.heap.size)(b:Below W.heap.size W W'):TxFil w W' g n ls zs:=
 ⟨own_below h.1 b,h.2.trans (b.mono (by have:=h.2.size;omega))⟩
theorem drop_1h{R:List Value}{k n:Nat}(h:R.length=n)(hk:k<n):∃a,R.drop k=a::R.drop (k+1):=⟨R[k],List.drop_eq_getElem_cons (by omega)⟩
theorem dropH2{R:List Value}{k n:Nat}(h:R.length=n*2)(hk:k<n):∃a b,R.drop (k*2)=a::b::R.drop ((k+1)*2):=by
 refine⟨R[k*2],R[k*2+1],?_⟩;rw[List.drop_eq_getElem_cons (by omega),List.drop_eq_getElem_cons (by omega)]
 rw[show k*2+1+1=(k+1)*2 by omega]
theorem imodelD(x:Value)(d:Dv)(w:World)(h:DvIn w x d)(hH:HalvIn w):Calls Tryz.prog 12 #[x] w (ShOut w (modelP d)):=by
 have h0:=h;obtain⟨fd,fc,va,vl,vc,ad,ln,cap,rfl,h1,h2,h3⟩:=h.form;have CR:=hide (fun(vol sec:Int) (W:World) (b:Below w.heap.size w W)=>ireadOf _ d vol sec W (h0.below b) (hH.on b))
 obtain⟨hvl,hv⟩:=stin_vols h3;have bA:Below w.heap.size w (w.alloc (.cells #[.slice fd d.flash.length fc,.slice va vl vc,.slice ad ln cap,.int .i64 d.store.next,.int .i64 d.seq,.int .i64 d.tx,.int .i64 d.base] 57)):=(Below.refl _ _).alloc (Nat.le_refl _) _;have gA:DAt (w.alloc (.cells #[.slice fd d.flash.length fc,.slice va vl vc,.slice ad ln cap,.int .i64 d.store.next,.int .i64 d.seq,.int .i64 d.tx,.int .i64 d.base] 57)) w.heap.size (.slice fd d.flash.length fc) (.slice va vl vc) (.slice ad ln cap) d.store.next d.seq d.tx d.base:=heap_alloc_new _ _;have hsz:(w.alloc (.cells #[.slice fd d.flash.length fc,.slice va vl vc,.slice ad ln cap,.int .i64 d.store.next,.int .i64 d.seq,.int .i64 d.tx,.int .i64 d.base] 57)).heap.size=w.heap.size+1:=by simp
 generalize hwa:w.alloc (.cells #[.slice fd d.flash.length fc,.slice va vl vc,.slice ad ln cap,.int .i64 d.store.next,.int .i64 d.seq,.int .i64 d.tx,.int .i64 d.base] 57)=wa at bA gA hsz;have HV:=hide hv;have HVL:Hid (d.store.vols.length=vl):=hv.1;have c1:=gA.cells.2.1;have HG:=hide gA;have HB:=hide bA;obtain⟨nx,hnx⟩:∃nx,d.store.next=nx:=⟨_,rfl⟩;obtain⟨sq,hsq⟩:∃sq,d.seq=sq:=⟨_,rfl⟩;obtain⟨tx,htx⟩:∃tx,d.tx=tx:=⟨_,rfl⟩;obtain⟨bs,hbs⟩:∃bs,d.base=bs:=⟨_,rfl⟩;obtain⟨fl,hfl⟩:∃fl,d.flash.length=fl:=⟨_,rfl⟩;rw[hnx,hsq,htx,hbs,hfl]at CR HG hwa;rw[hnx,hsq,htx,hbs,hfl];obtain⟨i0,hi,hz0,hz1,hz2⟩:=info_parts infoSh;obtain⟨j0,hj,hy0,hy1,hy2⟩:=info_parts infoZs;have J0:=hide hj;have Y0:=hide hy0;have Y1:=hide hy1;have Y2:=hide hy2;have HSZ:=hide hsz;clear bA gA h h0 h1 h2 h3 hv hH hnx hsq htx hbs hfl hj hy0 hy1 hy2;go_enter Tryz.func12,Tryz.ntmps12;go_wp2_with (at_make;refine wpList_make_full _ rfl _ _ 45 rfl (w.heap.size+1) 75 i0 (.agg #[.int .i64 0,.slice none 0 0]) 2 Tryz.underlying45 hi hz0 hz1 .i64 .i64 _ _ vl rfl rfl rfl rfl (by rw[hz2];omega) (by unfold maxLen;omega) (by omega) ?_)
 intro w1 hown hgrow;try rw[hsz]at hown
 try rw[hsz]
 clear hwa hsz c1;generalize(madeCells #[Value.int .i64 0,Value.slice none 0 0] (vl*2)).toList=R at hown;have HRL:Hid (R.length=vl*2):=hown.1;have BG:Below wa.heap.size wa w1:=(Below.refl _ _).grown hgrow (Nat.le_refl _) (fun k hk=>by cases hk)
 have S0:Hid (MdSt w w1 w.heap.size vl (.slice fd fl fc) (.slice va vl vc) (.slice ad ln cap) nx sq tx bs [] R):=
  ⟨HG.out.below BG,⟨by simpa[shcells]using hown,(fun _ h=>by cases h),List.Pairwise.nil⟩,HB.out.trans (BG.mono HB.out.size)⟩
 obtain⟨z,hz⟩:∃z,w.heap.size=z:=⟨_,rfl⟩;have HZ:=hide hz;rw[hz]at S0⊢;have c1:=S0.out.1.cells.2.1;clear hz hown hgrow BG HG HB HSZ hi hz0 hz1 hz2;go_wp2;go_loopw [17] (fun iv W=>∃(k:Nat) (ss:List Hw),k≤vl∧iv=.int .i64 k∧Hid (ss.length=k∧ss.map htell=(modelP d).take k∧MdSt w W z vl (.slice fd fl fc) (.slice va vl vc) (.slice ad ln cap) nx sq tx bs ss (R.drop (k*2)))) (fun iv _=>vl-(intOf iv).toNat)
 case atStart=>exact⟨0,[],Nat.zero_le _,rfl,rfl,by simp,by simpa using S0.out⟩
 case round=>
  obtain⟨k,ss,hk,rfl,HS⟩:=hrel
  rename World=>wq
  clear S0 c1;obtain⟨hsl,hst,hca⟩:=HS.out;have HSL:=hide hsl;have HST:=hide hst;have HC:=hide hca;clear HS hsl hst hca;have HW:Hid (Below w.heap.size w wq):=by show Below _ _ _;rw[HZ.out];exact HC.out.2.2
  by_cases hlt:(k:Int)<vl
  ·obtain⟨r,hr⟩:∃r,d.store.vols[k]?=some r:=⟨_,List.getElem?_eq_getElem (by have:=HVL.out;omega)⟩
   obtain⟨b,off,e,hb,hc⟩:=(HV.out.below HW.out).2.2.2 (by omega)
   subst e;obtain⟨b0,b1⟩:=hc k r hr;obtain⟨id,rt⟩:=r;have HT2:Hid ((modelP d)[k]?=some ⟨id,textsD d id 16⟩):=by
    show _=_;unfold modelP;rw[List.getElem?_map,hr];rfl
   have k0:(0:Int)≤k:=by omega
   simp only at b0 b1;have hzw:z+1<wq.heap.size:=(own_kind HC.out.2.1.1 (z+1) rfl).2.1;obtain⟨oa,ob,hd⟩:=dropH2 HRL.out (show k<vl by omega)
   have HF1:Hid (ShFil wq (z+1) (.slice (some ⟨z+1,0,none⟩) vl vl) vl ss (oa::ob::R.drop ((k+1)*2))):=by have:=HC.out.2.1;rw[hd]at this;exact this
   have BV:Below wq.heap.size wq (wq.alloc (.cells #[.int .i64 id,.int .i64 rt] 72)):=(Below.refl _ _).alloc (Nat.le_refl _) _;have gV:(wq.alloc (.cells #[.int .i64 id,.int .i64 rt] 72)).heap[wq.heap.size]?=some (.cells #[.int .i64 id,.int .i64 rt] 72 (0,0)):=heap_alloc_new _ _;have hsv:(wq.alloc (.cells #[.int .i64 id,.int .i64 rt] 72)).heap.size=wq.heap.size+1:=by simp
   clear hr hb hc hd;go_upto_region 5 with fail
   generalize wq.alloc (.cells #[.int .i64 id,.int .i64 rt] 72)=wv at BV gV hsv⊢;go_wp2_with (at_make;refine wpList_make_full _ rfl _ _ 73 rfl (wq.heap.size+1) 9 j0 (.string ⟨#[]⟩) 1 Tryz.underlying73 J0.out Y0.out Y1.out .i64 .i64 _ _ 16 rfl rfl rfl rfl (by rw[Y2.out];omega) (by unfold maxLen;omega) (by omega) ?_)
   intro w2 hown hgrow;try rw[hsv]at hown
   try rw[hsv]
   generalize(madeCells #[Value.string ⟨#[]⟩] (16*1)).toList=Q at hown;have HQ:Hid (Q.length=16):=by have:=hown.1;show _=_;simpa using this
   have BG:Below wv.heap.size wv w2:=(Below.refl _ _).grown hgrow (Nat.le_refl _) (fun k hk=>by cases hk)
   have HVC:Hid (w2.heap[wq.heap.size]?=some (.cells #[.int .i64 id,.int .i64 rt] 72 (0,0))):=(BG.block _ (by omega)).trans gV
   have HB2:Hid (Below wq.heap.size wq w2):=BV.trans (BG.mono (by omega))
   have HGS:Hid (wq.heap.size+1<w2.heap.size):=by have:=hown.lt (wq.heap.size+1) rfl;exact this.2
   have S1:Hid (TxFil w2 w2 (wq.heap.size+1) 16 (textsD d id 0) Q):=⟨by simpa[textsD,zcells]using hown,Below.refl _ _⟩
   obtain⟨g,hg⟩:∃g,wq.heap.size+1=g:=⟨_,rfl⟩;have HGE:=hide hg;rw[hg]at S1 HGS⊢;clear BV gV hsv hown hgrow BG hg J0 Y0 Y1 Y2;go_wp2;go_loopw [25] (fun jv W=>∃j:Nat,j≤16∧jv=.int .i64 j∧Hid (TxFil w2 W g 16 (textsD d id j) (Q.drop j))) (fun jv _=>16-(intOf jv).toNat)
   case atStart=>exact⟨0,Nat.zero_le _,rfl,S1.out⟩
   case round=>
    obtain⟨j,hj,rfl,HX⟩:=hrel;clear S1;have hgw:=HGE.out;have BQ:Hid (Below wq.heap.size wq wr):=HB2.out.trans (HX.out.2.mono (by omega))
    have HWW:Hid (Below w.heap.size w wr):=HW.out.trans (BQ.out.mono HW.out.size);have GD:=hide (HC.out.1.below BQ.out);have v0:=cell_of_row _ _ 0 _ _ _ ((HX.out.2.block wq.heap.size (by omega)).trans HVC.out)
    have HXL:=hide (textsD_len d id j);by_cases hlj:(j:Int)<16
    ·obtain⟨oc,hd⟩:=drop_1h HQ.out (show j<16 by omega)
     have HX1:Hid (TxFil w2 wr g 16 (textsD d id j) (oc::Q.drop (j+1))):=by have:=HX.out;rw[hd]at this;exact this
     have C:=hide (CR.out id j wr HWW.out);have HTX:=hide (textsD_succ d id j);obtain⟨P,hP⟩:∃P,readP d id j=P:=⟨_,rfl⟩;rw[hP]at C HTX;obtain⟨ps,pb⟩:=P;simp only at C HTX;obtain⟨d0,d1,d2,d3,d4,d5,d6⟩:=GD.out.cells;have j0:(0:Int)≤j:=by omega
     clear hP hd HX;go_wp2_with fail;refine C.out.mono ?_;rintro e w3 ⟨rfl,b3⟩;have X3:=hide (HX1.out.below (Nat.le_of_lt HGS.out) b3);have q0:=X3.out.cell HXL.out;have f0:=X3.out.fr j;have X4:Hid (TxFil w2 (w3.setCell ⟨g,j,none⟩ (.string ps)) g 16 (textsD d id (j+1)) (Q.drop (j+1))):=by have:=X3.out.put HXL.out ps;rw[←HTX.out]at this;exact this
     clear b3 C HX1 X3 HTX d0 d1 d2 d3 d4 d5 d6 v0;go_wp2;go_roundw
     case rel=>exact⟨j+1,by omega,by go_num,X4⟩
     case measure=>simp[intOf];omega
    ·have hj16:j=16:=by omega
     subst hj16;have OW:Hid (wr.ownsRow g 9 1 (.slice (some ⟨g,0,none⟩) 16 16) 16 (zcells (textsD d id 16))):=by
      have:=HX.out.1;rw[List.drop_eq_nil_of_le (by have:=HQ.out;omega),List.append_nil]at this
      exact this
     have HF4:=hide (HF1.out.below BQ.out);have q0:=HF4.out.cell0 HSL.out;have q1:=HF4.out.cell1 HSL.out;have f0:=HF4.out.fr (k*2);have f1:=HF4.out.fr (k*2+1);have hz4:((wr.setCell ⟨z+1,k*2,none⟩ (.int .i64 id)).setCell ⟨z+1,k*2+1,none⟩ (.slice (some ⟨g,0,none⟩) 16 16)).heap.size=wr.heap.size:=by simp[World.setCell]
     have NX:Hid (MdSt w ((wr.setCell ⟨z+1,k*2,none⟩ (.int .i64 id)).setCell ⟨z+1,k*2+1,none⟩ (.slice (some ⟨g,0,none⟩) 16 16)) z vl (.slice fd fl fc) (.slice (some ⟨b,off,none⟩) vl vc) (.slice ad ln cap) nx sq tx bs (ss++[(id,.slice (some ⟨g,0,none⟩) 16 16,textsD d id 16)]) (R.drop ((k+1)*2))):=by
      obtain⟨-,-,cs,q⟩:=own_kind HF4.out.1 (z+1) rfl;obtain⟨-,-,cs2,q2⟩:=own_kind (HF4.out.set (sh_even HSL.out oa ob (.int .i64 id) _)).1 (z+1) rfl;have hzq:z≤wq.heap.size:=by omega
      refine⟨row_set_ne (row_set_ne GD.out (by omega) _ _) (by omega) _ _,?_,?_⟩
      ·refine ShFil.take (W0:=wq) HF1.out.lt (by omega) ((HF4.out.set (sh_even HSL.out oa ob (.int .i64 id) _)).set (sh_odd HSL.out _ _ _ _)) ?_ (by rw[HXL.out];unfold maxLen;omega)
       rw[hz4,HXL.out];exact(((Sli.of OW.out).dn (show wq.heap.size≤g by omega)).setH q).setH q2
      ·exact((HC.out.2.2.trans (BQ.out.mono hzq)).setCell (p:=⟨z+1,k*2,none⟩) (by show z≤z+1;omega) _).setCell (p:=⟨z+1,k*2+1,none⟩) (by show z≤z+1;omega) _
     have NT:Hid ((ss++[(id,Value.slice (some ⟨g,0,none⟩) 16 16,textsD d id 16)]).map htell=(modelP d).take (k+1)):=by
      show _=_;rw[List.map_append,HST.out,List.take_add_one,HT2.out];rfl
     have NL:Hid ((ss++[(id,Value.slice (some ⟨g,0,none⟩) 16 16,textsD d id 16)]).length=k+1):=by show _=_;rw[List.length_append,HSL.out];rfl
     generalize ss++[(id,Value.slice (some ⟨g,0,none⟩) 16 16,textsD d id 16)]=ss2 at NX NT NL;clear hz4 HX OW HF1 HF4 HC HST HSL HT2 BQ HWW GD HXL CR HB2 HVC HV;go_wp2;go_roundw
     case rel=>exact⟨k+1,ss2,by omega,by go_num,NL.out,NT.out,NX.out⟩
     case measure=>simp[intOf];omega
  ·have ek:k=vl:=by omega
   subst ek;have KO:Hid (HOwn wq (z+1) (.slice (some ⟨z+1,0,none⟩) k k) ss):=by
    have:=HC.out.2.1;rw[List.drop_eq_nil_of_le (by have:=HRL.out;omega)]at this
    have e:=HSL.out;exact ShFil.own (by rw[e];exact this)
   have ET:Hid (ss.map htell=modelP d):=by
    show _=_;rw[HST.out,List.take_of_length_le (by unfold modelP;rw[List.length_map];have:=HVL.out;omega)]
   clear HV CR;go_wp2;go_ret;refine⟨_,ss,rfl,KO.out.down (by have:=HZ.out;omega),ET.out,HW.out⟩
end Go.Proofs.YtiicghepilbgfaaGreatDoor
