/-
  SRecOk; IRecOk; IVol; LkMath; ILinked
-/
import Derived.Test.YtiicghepilbgfaaGreatDoorPk0
import Derived.Test.YtiicghepilbgfaaGreatDoorPk8
import Derived.Test.YtiicghepilbgfaaGreatDoorPk9
import Derived.Test.YtiicghepilbgfaaGreatDoorPk12
import Derived.Lib.SliceRun
import Derived.Test.YtiicghepilbgfaaGreatDoorPk3
import Derived.Test.YtiicghepilbgfaaGreatDoorPk11
set_option maxHeartbeats 1000000
set_option maxRecDepth 100000
namespace Go.Proofs.YtiicghepilbgfaaGreatDoor
open Go.RowKit
open Words
def volP(va:Option Addr):Option Nat→Value
 |none=> .pointer none
 |some k=> .pointer (va.map (fun a=>⟨a.block,a.off+k*2,none⟩))
theorem ivolAt(va:Option Addr)(vl vc:Nat)(vs:List (Int×Int))(id:Int)(w:World)(hl:vl≤1048576)(h:VlRow w va vl vs):
 Calls Tryz.prog 73 #[.slice va vl vc,.int .i64 id] w fun e w'=>e=.returned (volP va (atV vs id))∧w'=w:=by
 have HVL:=hide h.1;have H:=hide h;clear h;go_enter Tryz.func73,Tryz.ntmps73;go_wp2_with fail;go_loop [8] (fun kv=>∃k:Nat,k≤vl∧kv=.int .i64 k∧Hid (atK vs id k=none)) (fun kv=>vl-(intOf kv).toNat)
 case atStart=>exact⟨0,Nat.zero_le _,rfl,(rfl:atK vs id 0=none)⟩
 case round=>
  obtain⟨k,hk,rfl,HN⟩:=hrel;by_cases hlt:(k:Int)<vl
  ·have hv:=List.getElem?_eq_getElem (show k<vs.length by have:=HVL.out;omega)
   generalize vs[k]'(by have:=HVL.out;omega)=v at hv
   obtain⟨b,off,e,hb,c0,c1⟩:=H.out.at hv;subst e;have k0:(0:Int)≤k:=by omega
   by_cases hid:(v.1==id)=true
   ·have HE:Hid (atV vs id=some k):=atK_yes HN.out hv (by simpa using hid) _ (by have:=HVL.out;omega)
    clear hv;go_wp2;go_ret;exact⟨by rw[HE.out];rfl,rfl⟩
   ·have HE:Hid (atK vs id (k+1)=none):=atK_no HN.out hv (by simpa using hid)
    clear hv;go_wp2;go_round
    case rel=>exact⟨k+1,by omega,by go_num,HE⟩
    case measure=>simp[intOf];omega
  ·have HE:Hid (atV vs id=none):=by
    have e:k=vs.length:=by have:=HVL.out;omega
    have:=HN.out;rw[e]at this;exact this
   go_wp2;go_ret;exact⟨by rw[HE.out];rfl,rfl⟩
def kidP(bs:List Nat)(n:Int):Option Nat:=if n<0 then none else bs[n.toNat]?
def lkOf(bs:List Nat)(i:Nat)(x:Kn):Lk:=if x.leaf=true then⟨i,true,x.kids,[none,none,none,none],false⟩else⟨i,false,[0,0,0,0],x.kids.map (kidP bs),false⟩
theorem lkOf_place(bs:List Nat)(i:Nat)(x:Kn):(lkOf bs i x).place=i:=by unfold lkOf;split<;>rfl
theorem lkOf_leaf(bs:List Nat)(i:Nat)(x:Kn):(lkOf bs i x).leaf=x.leaf:=by
 unfold lkOf;cases h:x.leaf with
 |true=>rfl
 |false=>rfl
def lksOf(bs:List Nat)(l:List Kn):List Lk:=l.mapIdx (lkOf bs)
theorem lksOf_len(bs:List Nat)(l:List Kn):(lksOf bs l).length=l.length:=by simp[lksOf]
theorem lksOf_at(bs:List Nat)(l:List Kn)(i:Nat):(lksOf bs l)[i]?=(l[i]?).map (lkOf bs i):=by rw[lksOf,List.getElem?_mapIdx]
theorem lksOf_some{bs:List Nat}{l:List Kn}{i:Nat}{x:Kn}(h:l[i]?=some x):(lksOf bs l)[i]?=some (lkOf bs i x):=by rw[lksOf_at,h];rfl
theorem lksOf_back{bs:List Nat}{l:List Kn}{i:Nat}{y:Lk}(h:(lksOf bs l)[i]?=some y):∃x,l[i]?=some x∧y=lkOf bs i x:=by
 rw[lksOf_at,Option.map_eq_some_iff]at h;obtain⟨x,h1,h2⟩:=h;exact⟨x,h1,h2.symm⟩
theorem lksOf_place{bs:List Nat}{l:List Kn}:∀(i:Nat) (y:Lk),(lksOf bs l)[i]?=some y→y.place=i:=by
 intro i y h;obtain⟨x,-,rfl⟩:=lksOf_back h;exact lkOf_place _ _ _
theorem map_beq(f:Int→Int):∀l:List Int,(l.map f==l)=l.all (fun n=>f n==n)
 | []=>rfl
 |a::l=>by
  have:=map_beq f l;simp only[List.map_cons,List.all_cons,←this];rfl
theorem leafP_is{bs:List Nat}{l:List Kn}{k:Nat}(hb:bs.length=k)(hk:k≤l.length)(n:Int):(leafP bs (lksOf bs (l.take k)) n).isSome=(decide (0≤n)&&decide (n<k)&&knLeaf l n):=by
 unfold leafP;by_cases h0:n<0
 ·rw[if_pos h0,decide_eq_false (by omega)];rfl
 ·rw[if_neg h0,decide_eq_true (by omega:0≤n),Bool.true_and,lksOf_at]
  by_cases h1:n<k
  ·have hl:n.toNat<l.length:=by omega
   rw[decide_eq_true h1,Bool.true_and,List.getElem?_take,if_pos (by omega),List.getElem?_eq_getElem hl,knLeaf_some (List.getElem?_eq_getElem hl)]
   simp only[Option.map_some,Option.bind_some,lkOf_leaf];cases hq:l[n.toNat].leaf with
   |true=>rw[if_pos rfl,List.getElem?_eq_getElem (by omega)];rfl
   |false=>rfl
  ·rw[decide_eq_false h1,Bool.false_and,List.getElem?_take,if_neg (by omega)]
   rfl
theorem linkOk_is{bs:List Nat}{l:List Kn}{k:Nat}(hb:bs.length=k)(hk:k≤l.length)(x:Kn):linkOk bs (lksOf bs (l.take k)) x.leaf x.kids=knB l k x:=by
 rw[linkOk,knB];congr 1;rw[kidsMade];cases hl:x.leaf with
 |true=>
  rw[if_pos rfl,map_beq];refine List.all_congr rfl (fun n=>?_)
  simp only[kidB,nn,if_true];by_cases h:n<0
  ·rw[if_pos h,decide_eq_false (by omega)]
   simp;omega
  ·rw[if_neg h,decide_eq_true (by omega)]
   simp
 |false=>
  rw[if_neg (by decide),map_beq]
  refine List.all_congr rfl (fun n=>?_)
  simp only[kidB,Bool.false_eq_true,if_false,leafP_is hb hk];cases hq:(decide (0≤n)&&decide (n<k)&&knLeaf l n)with
  |true=>simp
  |false=>
   simp only[Bool.false_eq_true,if_false,Bool.or_false];by_cases e:n= -1
   ·simp[e]
   ·rw[decide_eq_false e,beq_eq_false_iff_ne];exact fun q=>e q.symm
theorem lkMade_is{bs:List Nat}{l:List Kn}{k:Nat}(x:Kn)(h:linkOk bs (lksOf bs (l.take k)) x.leaf x.kids=true):lkMade bs (lksOf bs (l.take k)) k x.leaf x.kids=lkOf bs k x:=by
 rw[linkOk,Bool.and_eq_true]at h;have h2:=h.2;unfold kidsMade at h2;unfold lkMade lkOf;cases hl:x.leaf with
 |true=>
  rw[hl,if_pos rfl]at h2;rw[if_pos rfl,if_pos rfl];rw[eq_of_beq h2]
 |false=>
  rw[hl,if_neg (by decide),map_beq,List.all_eq_true]at h2
  rw[if_neg (by decide),if_neg (by decide)]
  congr 1;refine List.map_congr_left (fun n hn=>?_)
  have:=h2 n hn;unfold kidP;cases hq:leafP bs (lksOf bs (l.take k)) n with
  |none=>
   rw[hq]at this;have e: -1=n:=by simpa using this
   rw[if_pos (by omega)]
  |some b=>
   obtain⟨h0,h1,-⟩:=leafP_some hq;rw[if_neg (by omega),h1]
theorem kidP_ext{bs cs:List Nat}{n:Int}(h:n<bs.length):kidP (bs++cs) n=kidP bs n:=by
 unfold kidP;split
 ·rfl
 ·rw[List.getElem?_append_left (by omega)]
theorem lkOf_ext{bs cs:List Nat}{l:List Kn}{i:Nat}{x:Kn}(hi:i≤bs.length)(h:knB l i x=true):lkOf (bs++cs) i x=lkOf bs i x:=by
 unfold lkOf;cases hl:x.leaf with
 |true=>rfl
 |false=>
  rw[if_neg (by decide),if_neg (by decide)]
  congr 1;refine List.map_congr_left (fun n hn=>?_)
  obtain⟨k,hk⟩:=List.getElem?_of_mem hn;have:=knB_kid h hk;rw[kidB,hl]at this;simp only[Bool.false_eq_true,if_false,Bool.or_eq_true,Bool.and_eq_true,decide_eq_true_eq]at this;exact kidP_ext (by omega)
theorem lksOf_ext{bs cs:List Nat}{l:List Kn}{k:Nat}(hb:bs.length=k)(h:arK l k=true):lksOf (bs++cs) (l.take k)=lksOf bs (l.take k):=by
 apply List.ext_getElem?;intro i;rw[lksOf_at,lksOf_at];cases hx:(l.take k)[i]? with
 |none=>rfl
 |some x=>
  have hi:=(List.getElem?_eq_some_iff.1 hx).1;rw[List.length_take]at hi;rw[List.getElem?_take,if_pos (by omega)]at hx
  have:=arK_le (show i+1≤k by omega) h
  rw[arK_succ hx,Bool.and_eq_true]at this;rw[Option.map_some,Option.map_some,lkOf_ext (by omega) this.2]
theorem lksOf_snoc{bs:List Nat}{b:Nat}{l:List Kn}{k:Nat}{x:Kn}(hb:bs.length=k)(hx:l[k]?=some x)(h:arK l (k+1)=true):lksOf (bs++[b]) (l.take (k+1))=lksOf bs (l.take k)++[lkOf bs k x]:=by
 have hk:=(List.getElem?_eq_some_iff.1 hx).1;have h':=h;rw[arK_succ hx,Bool.and_eq_true]at h';have e:l.take (k+1)=l.take k++[x]:=by rw[List.take_succ_eq_append_getElem hk,(List.getElem?_eq_some_iff.1 hx).2]
 have e2:(l.take k).length=k:=by rw[List.length_take];omega
 have:=lksOf_ext (cs:=[b]) hb h'.1;rw[e];show(l.take k++[x]).mapIdx _=_;rw[List.mapIdx_append,e2];show lksOf (bs++[b]) (l.take k)++_=_;rw[this];simp only[List.mapIdx_cons,List.mapIdx_nil,Nat.zero_add];rw[lkOf_ext (by omega) h'.2]
theorem asc_snoc{bs:List Nat}{b:Nat}(h:bs.Pairwise (·<·))(hb:∀c∈bs,c<b):(bs++[b]).Pairwise (·<·):=
 List.pairwise_append.2 ⟨h,List.pairwise_singleton _ _,fun a ha c hc=>by simp only[List.mem_singleton]at hc;rw[hc];exact hb a ha⟩
def Forest(W:World)(lo:Nat)(v:Value)(bs:List Nat)(L:List Kn):Prop:=
 W.ownsRow lo 178 1 v L.length (bcellsP bs)∧bs.length=L.length∧FAt W bs (lksOf bs L)∧bs.Pairwise (·<·)∧∀b∈bs,lo≤b
theorem FAt.grown{W y:World}{bs:List Nat}{xs:List Lk}{row:Option Nat}(h:FAt W bs xs)(hg:W.grownBy y row)(hr:∀g,row=some g→∃cs,W.heap[g]?=some (.cells cs 178 (0,0))):FAt y bs xs:=by
 refine⟨h.1,fun i b x h1 h2=>?_⟩
 have hx:=h.2 i b x h1 h2;refine⟨(hg.block b hx.lt (fun e=>?_)).trans hx.1,hx.2⟩
 obtain⟨cs,q⟩:=hr b e.symm;rw[hx.1]at q;injection q with q
 injection q with _ q
 simp at q
theorem FAt.snoc{W:World}{bs:List Nat}{xs:List Lk}{b:Nat}{x:Lk}(h:FAt W bs xs)(hx:LkAt W b x):FAt W (bs++[b]) (xs++[x]):=by
 refine⟨by rw[List.length_append,List.length_append,h.1];rfl,fun i c y h1 h2=>?_⟩
 by_cases hi:i<bs.length
 ·rw[List.getElem?_append_left hi]at h1;rw[List.getElem?_append_left (by rw[←h.1];exact hi)]at h2
  exact h.2 i c y h1 h2
 ·have hl:=(List.getElem?_eq_some_iff.1 h1).1;rw[List.length_append]at hl;simp only[List.length_cons,List.length_nil]at hl;have e:i=bs.length:=by omega
  subst e;simp at h1;rw[h.1]at h2;simp at h2;subst h1 h2;exact hx
theorem FAt.all_lt{W:World}{bs:List Nat}{xs:List Lk}(h:FAt W bs xs):∀b∈bs,b<W.heap.size:=by
 intro b hb;obtain⟨i,hi⟩:=List.getElem?_of_mem hb;have hl:=(List.getElem?_eq_some_iff.1 hi).1;exact(h.2 i b _ hi (List.getElem?_eq_getElem (by rw[←h.1];exact hl))).lt
def LkdOut(w:World)(L:List Kn)(e:Ending)(w':World):Prop:=
 Below w.heap.size w w'∧((arB L=true∧∃v bs,e=.returned (.tuple #[v,.bool true])∧Forest w' w.heap.size v bs L)∨(arB L=false∧e=.returned (.tuple #[.slice none 0 0,.bool false])))
def LdSt(w W:World)(z:Nat)(av fv:Value)(L:List Kn)(k:Nat)(bs:List Nat):Prop:=
 W.heap[z]?=some (.cells #[av] 53 (0,0))∧W.ownsRow z 178 1 fv k (bcellsP bs)∧bs.length=k∧FAt W bs (lksOf bs (L.take k))∧bs.Pairwise (·<·)∧(∀b∈bs,z≤b)∧arK L k=true∧Below z w W
theorem ptr_one(b:Nat):∀u∈ [ptr b],u.oneCell'=true:=by
 intro u hu;simp at hu;subst hu;rfl
theorem ilinked(ad:Option Addr)(len cap:Nat)(rs:List Kw)(w:World)(hl:len≤1048578)(h:KnRd w ad len rs):
 Calls Tryz.prog 127 #[.agg #[.slice ad len cap]] w (LkdOut w (rs.map ktell)):=by
 have S0:Hid (LdSt w (w.alloc (.cells #[.slice ad len cap] 53)) w.heap.size (.slice ad len cap) (.slice none 0 0) (rs.map ktell) 0 []):=
  ⟨heap_alloc_new w _,⟨rfl,.inl ⟨rfl,rfl⟩⟩,rfl,FAt.nil _,List.Pairwise.nil,(fun _ h=>by cases h),rfl,(Below.refl _ _).alloc (Nat.le_refl _) _⟩
 have H:=hide h;have H1:=hide h.1;have HLL:=hide (show(rs.map ktell).length=len by rw[List.length_map];exact h.1)
 have bx:=box_at w (.slice ad len cap);clear h;obtain⟨L,hL⟩:∃L,rs.map ktell=L:=⟨_,rfl⟩;have HL:=hide hL;rw[hL]at S0 HLL⊢;clear hL;go_enter Tryz.func127,Tryz.ntmps127;go_wp2;obtain⟨z,hz⟩:∃z,w.heap.size=z:=⟨_,rfl⟩;have HZ:=hide hz;rw[hz]at S0⊢;clear hz bx;generalize w.alloc (.cells #[.slice ad len cap] 53)=wa at S0⊢;go_loopw [4,12] (fun fv iv W=>∃(k:Nat) (bs:List Nat),k≤len∧iv=.int .i64 k∧Hid (LdSt w W z (.slice ad len cap) fv L k bs)) (fun _ iv _=>len-(intOf iv).toNat)
 case atStart=>exact⟨0,[],Nat.zero_le _,rfl,S0⟩
 case round=>
  obtain⟨k,bs,hk,rfl,HS⟩:=hrel;clear S0;by_cases hlt:(k:Int)<len
  ·obtain⟨r,hr⟩:∃r,rs[k]?=some r:=⟨_,List.getElem?_eq_getElem (by have:=H1.out;omega)⟩
   obtain⟨b,off,e,hb⟩:=H.out.adr (by omega)
   subst e;have KR:=hide (H.out.below (by rw[HZ.out];exact HS.out.2.2.2.2.2.2.2))
   obtain⟨c0,c1⟩:=KR.out.cell hr;obtain⟨ka,kc,hkv,-,kr⟩:=KR.out.2.2.1 r (List.mem_of_getElem? hr);have hx:L[k]?=some (ktell r):=by rw[←HL.out,List.getElem?_map,hr];rfl
   have HX:=hide hx;obtain⟨lf,kv,ls⟩:=r;simp only at c0 c1 hkv kr;subst hkv;obtain⟨kl,hkl⟩:∃kl,ls.length=kl:=⟨_,rfl⟩;rw[hkl]at c1 kr;have KI:=hide kr;have k0:(0:Int)≤k:=by omega
   obtain⟨fa,fc,hfv,hpr⟩:=PRow.of (bs:=bs) (by rw[HS.out.2.2.1];exact HS.out.2.1)
   rw[HS.out.2.2.1]at hfv hpr;subst hfv;have BN:Hid (Below wr.heap.size wr (wr.alloc (.cells #[.bool lf,.slice ka kl kc] 176))):=(Below.refl _ _).alloc (Nat.le_refl _) _;have C:=hide (ilink fa k fc bs (lksOf bs (L.take k)) lf ka kl kc ls (wr.alloc (.cells #[.bool lf,.slice ka kl kc] 176)) (hpr.below BN.out) (HS.out.2.2.2.1.below BN.out) lksOf_place (KI.out.below BN.out));have hkL:k≤L.length:=by have:=HLL.out;omega
   have EQ:Hid (linkOk bs (lksOf bs (L.take k)) lf ls=knB L k ⟨lf,ls⟩):=linkOk_is HS.out.2.2.1 hkL ⟨lf,ls⟩;obtain⟨mk,hmk⟩:∃mk,lkMade bs (lksOf bs (L.take k)) k lf ls=mk:=⟨_,rfl⟩;have EM:=hide hmk;obtain⟨ok,hok⟩:∃ok,linkOk bs (lksOf bs (L.take k)) lf ls=ok:=⟨_,rfl⟩;rw[hmk,hok]at C;rw[hok]at EQ;have HOK:=hide hok;clear kr hr hb hpr hkl hx hmk hok;go_wp2_with fail;refine C.out.mono ?_;rintro e w1 ⟨v,rfl,b1,hv⟩;cases ok with
   |false=>
    have HB:Hid (Below z w w1):=HS.out.2.2.2.2.2.2.2.trans ((BN.out.trans (b1.mono BN.out.size)).mono (by rw[←HZ.out];exact HS.out.2.2.2.2.2.2.2.size))
    have HA:Hid (arB L=false):=arB_bad HX.out EQ.out.symm;clear hv b1 C;go_wp2;go_ret2;exact⟨by rw[HZ.out];exact HB.out,.inr ⟨HA.out,rfl⟩⟩
   |true=>
    obtain⟨bb,rfl,hat,hlo⟩:=hv rfl;have hzr:z≤wr.heap.size:=by rw[←HZ.out];exact HS.out.2.2.2.2.2.2.2.size
    have hlt1:=hat.lt;have hB1:Below wr.heap.size wr w1:=BN.out.trans (b1.mono BN.out.size);have hs1:=hB1.size;have hbn:wr.heap.size≤bb:=by have:=BN.out.size;omega
    have BA:Hid (Below w1.heap.size w1 (w1.alloc (.cells #[ptr bb] 178))):=(Below.refl _ _).alloc (Nat.le_refl _) _;have OWN:=hide (own_below (own_below HS.out.2.1 hB1) BA.out);have FA:Hid (FAt (w1.alloc (.cells #[ptr bb] 178)) (bs++[bb]) (lksOf (bs++[bb]) (L.take (k+1)))):=by
     have hK:arK L (k+1)=true:=by rw[arK_succ HX.out,HS.out.2.2.2.2.2.2.1,Bool.true_and];exact EQ.out.symm
     have:=((HS.out.2.2.2.1.below hB1).snoc hat).below BA.out;rw[←EM.out,lkMade_is ⟨lf,ls⟩ HOK.out]at this;show FAt _ _ _;rw[lksOf_snoc HS.out.2.2.1 HX.out hK];exact this
    have HK1:Hid (arK L (k+1)=true):=by show _=_;rw[arK_succ HX.out,HS.out.2.2.2.2.2.2.1,Bool.true_and];exact EQ.out.symm
    have PW:Hid ((bs++[bb]).Pairwise (·<·)):=asc_snoc HS.out.2.2.2.2.1 (fun c hc=>by have:=HS.out.2.2.2.1.all_lt c hc;omega)
    have LOW:Hid (∀b∈bs++[bb],z≤b):=fun c hc=>by
     rcases List.mem_append.1 hc with hc|hc
     ·exact HS.out.2.2.2.2.2.1 c hc
     ·simp only[List.mem_singleton]at hc;omega
    have HB:Hid (Below z w (w1.alloc (.cells #[ptr bb] 178))):=(HS.out.2.2.2.2.2.2.2.trans (hB1.mono hzr)).trans (BA.out.mono (by omega))
    have AV:Hid ((w1.alloc (.cells #[ptr bb] 178)).heap[z]?=some (.cells #[.slice (some ⟨b,off,none⟩) len cap] 53 (0,0))):=by
     have hz1:=(Array.getElem?_eq_some_iff.1 HS.out.1).1;exact(BA.out.block z (by omega)).trans ((hB1.block z hz1).trans HS.out.1)
    have HBL:Hid (bs.length=k):=HS.out.2.2.1;have hza:z≤(w1.alloc (.cells #[ptr bb] 178)).heap.size:=by simp;omega
    obtain⟨i0,hi0,hz0,hz1,hz2⟩:=info_parts infoPt;have I0:=hide hi0;have Y0:=hide hz0;have Y1:=hide hz1;have Y2:=hide hz2;clear hi0 hz0 hz1 hz2 hat hB1 b1 hv C HS BN KI EM EQ HOK c0 c1;unfold ptr at*;go_wp2_with (at_builtin;refine wpList_append_own _ rfl _ _ 203 rfl z 178 i0 (.pointer none) 1 8 Tryz.underlying203 I0.out Y0.out Y1.out Y2.out rfl (by decide) _ _ _ rfl OWN.out ⟨w1.heap.size,0,none⟩ 1 1 [Value.pointer (some ⟨bb,0,none⟩)] rfl rfl (one_cell _ _ _) (ptr_one _) ?c1 ?c2 ?c3 ?_)
    case c1=>unfold maxLen;omega
    case c2=>omega
    case c3=>exact hza
    intro u' y ho hg _;have ho2:y.ownsRow z 178 1 u' (k+1) (bcellsP (bs++[bb])):=by rw[←bcellsP_snoc];exact ho
    have hrow:∀g,(Value.slice fa k fc).ownBlock=some g→z≤g∧∃cs,(w1.alloc (.cells #[.pointer (some ⟨bb,0,none⟩)] 178)).heap[g]?=some (.cells cs 178 (0,0)):=fun g hg2=>by
     obtain⟨q1,-,q2⟩:=own_kind OWN.out g hg2;exact⟨q1,q2⟩
    have ST:Hid (LdSt w y z (.slice (some ⟨b,off,none⟩) len cap) u' L (k+1) (bs++[bb])):=by
     refine⟨?_,ho2,by rw[List.length_append,HBL.out];rfl,FA.out.grown hg (fun g e=>(hrow g e).2),PW.out,LOW.out,HK1.out,HB.out.grown hg hza (fun g e=>(hrow g e).1)⟩
     refine(hg.block z (Array.getElem?_eq_some_iff.1 AV.out).1 (fun e=>?_)).trans AV.out
     obtain⟨-,cs,q⟩:=hrow z e.symm;rw[AV.out]at q;injection q with q
     injection q with _ q
     simp at q
    obtain⟨ua,uc,hu,-⟩:=(Sli.of ho2).form;subst hu;clear ho ho2 hg hrow OWN FA HB AV;go_wp2;go_roundw
    case rel=>exact⟨k+1,bs++[bb],by omega,by go_num,ST⟩
    case measure=>simp[intOf];omega
  ·have ek:k=len:=by omega
   subst ek;have HF:Hid (LkdOut w L (.returned (.tuple #[u4,.bool true])) wr):=by
    obtain⟨-,h2,h3,h4,h5,h6,h7,h8⟩:=HS.out;rw[List.take_of_length_le (by have:=HLL.out;omega)]at h4
    have e:arB L=true:=by rw[arB,HLL.out];exact h7
    exact⟨by rw[HZ.out];exact h8,.inl ⟨e,u4,bs,rfl,by rw[HLL.out,HZ.out];exact h2,by rw[HLL.out];exact h3,h4,h5,fun b hb=>by rw[HZ.out];exact h6 b hb⟩⟩
   obtain⟨fa,fc,hfv,-⟩:=PRow.of (bs:=bs) (by rw[HS.out.2.2.1];exact HS.out.2.1)
   clear HS;subst hfv;go_wp2;go_ret2;exact HF.out
end Go.Proofs.YtiicghepilbgfaaGreatDoor
