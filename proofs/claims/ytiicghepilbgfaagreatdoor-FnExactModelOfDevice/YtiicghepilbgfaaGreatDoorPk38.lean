/-
  ITree; IAll; SRefs; IChunk; MapG
-/
import Derived.Test.YtiicghepilbgfaaGreatDoorPk3
import Derived.Test.YtiicghepilbgfaaGreatDoorPk37
import Derived.Test.YtiicghepilbgfaaGreatDoorPk12
import Derived.Test.YtiicghepilbgfaaGreatDoorPk8
import Derived.Deep.RegionHeld3
import Derived.Test.YtiicghepilbgfaaGreatDoorPk0
import Derived.Maps.OwnSet
set_option maxHeartbeats 1000000
set_option maxRecDepth 100000
namespace Go.Proofs.YtiicghepilbgfaaGreatDoor
open Go.RowKit
open Words
def TreeAt(W:World)(b:Nat)(bs:List Nat)(L:List Kn)(r:Int):Prop:=
 FAt W bs (lksOf bs L)∧((r= -1∧LkAt W b lkNone)∨∃(m:Nat) (x:Kn),r=(m:Int)∧bs[m]?=some b∧L[m]?=some x∧x.leaf=false)
theorem rootB_neg{L:List Kn}{r:Int}(h:rootB L r=false):r≠-1∧(r<0∨(L.length:Int)≤r∨∃x,L[r.toNat]?=some x∧x.leaf=true):=by
 unfold rootB at h;simp only[Bool.or_eq_false_iff,decide_eq_false_iff_not,Bool.and_eq_false_iff,Bool.not_eq_false']at h;refine⟨h.1,?_⟩;rcases h.2 with(h|h)|h
 ·exact .inl (by omega)
 ·exact .inr (.inl (by omega))
 ·obtain⟨y,hy,hl⟩:=knLeaf_lt h;exact .inr (.inr ⟨y,hy,hl⟩)
theorem rootB_yes{L:List Kn}{r:Int}(h:rootB L r=true):r= -1∨∃(m:Nat) (x:Kn),r=(m:Int)∧L[m]?=some x∧x.leaf=false:=by
 by_cases h0:r= -1
 ·exact .inl h0
 ·have h1:0≤r:=by
   unfold rootB at h;simp only[Bool.or_eq_true,Bool.and_eq_true,decide_eq_true_eq]at h;omega
  obtain⟨x,hx,hl⟩:=rootB_pos h h1;exact .inr ⟨r.toNat,x,by omega,hx,hl⟩
def FTOut(w:World)(bs:List Nat)(L:List Kn)(r:Int)(e:Ending)(w':World):Prop:=
 Below w.heap.size w w'∧((rootB L r=true∧∃b,e=.returned (ptr b)∧TreeAt w' b bs L r∧(r= -1→w.heap.size≤b))∨(rootB L r=false∧e=.returned (.pointer none)))
theorem ftree(fa:Option Addr)(n c:Nat)(bs:List Nat)(L:List Kn)(r:Int)(w:World)(hr:PRow w fa n bs)(hf:FAt w bs (lksOf bs L)):
 Calls Tryz.prog 128 #[.slice fa n c,.int .i64 r] w (FTOut w bs L r):=by
 cases hR:rootB L r with
 |true=>
  rcases rootB_yes hR with rfl|⟨m,x,rfl,hx,hl⟩
  ·refine(itree_new (.slice fa n c) w).mono ?_;rintro e w' ⟨rfl,hat,hb⟩;exact⟨hb,.inl ⟨hR,_,rfl,⟨hf.below hb,.inl ⟨rfl,hat⟩⟩,fun _=>Nat.le_refl _⟩⟩
  ·have hm:m<bs.length:=by rw[hf.1,lksOf_len];exact(List.getElem?_eq_some_iff.1 hx).1
   refine(itree_at fa n c bs (lksOf bs L) m _ (lkOf bs m x) w hr hf (lksOf_some hx) (List.getElem?_eq_getElem hm) (by rw[lkOf_leaf];exact hl)).mono ?_
   rintro e w' ⟨rfl,rfl⟩;exact⟨Below.refl _ _,.inl ⟨hR,_,rfl,⟨hf,.inr ⟨m,x,rfl,List.getElem?_eq_getElem hm,hx,hl⟩⟩,fun h=>by omega⟩⟩
 |false=>
  obtain⟨h1,h2⟩:=rootB_neg hR;have hl:(L.length:Int)=n:=by have:=hr.1;have:=hf.1;rw[lksOf_len]at this;omega
  refine(itree_no fa n c bs (lksOf bs L) r w hr hf h1 ?_).mono ?_
  ·rcases h2 with h|h|⟨x,hx,hl⟩
   ·exact .inl h
   ·exact .inr (.inl (by omega))
   ·exact .inr (.inr ⟨_,lksOf_some hx,by rw[lkOf_leaf];exact hl⟩)
  ·rintro e w' ⟨rfl,rfl⟩;exact⟨Below.refl _ _,.inr ⟨hR,rfl⟩⟩
theorem inum(b:Nat)(bs:List Nat)(L:List Kn)(r:Int)(s:Nat)(w:World)(hs:s≤15)(ha:arB L=true)(h:TreeAt w b bs L r):
 Calls Tryz.prog 109 #[ptr b,.int .i64 s] w fun e w'=>e=.returned (.int .i64 (getP L r s))∧w'=w:=by
 have q4:s/4<4:=by omega
 have t4:s % 4<4:=by omega
 obtain⟨hf,⟨rfl,hat⟩|⟨m,x,rfl,hb,hx,hl⟩⟩:=h
 ·refine inumAt b lkNone s _ w hs hat (.inl ⟨s/4,rfl,?_,?_⟩)
  ·match s/4,q4 with
   |0,_|1,_|2,_|3,_=>rfl
  ·exact if_pos (by omega)
 ·have hat:=hf.2 m b _ hb (lksOf_some hx);have hlk:lkOf bs m x=⟨m,false,[0,0,0,0],x.kids.map (kidP bs),false⟩:=by unfold lkOf;rw[if_neg (by rw[hl];decide)]
  obtain⟨n,hn,hc⟩:=inner_kid ha (r:=(m:Int)) (by rw[Int.toNat_natCast];exact hx) hl q4
  have hka:kidAt L (m:Int) (s/4)=n:=kidAt_some (by rw[Int.toNat_natCast];exact hx) hn
  have hto:(lkOf bs m x).tos[s/4]?=some (kidP bs n):=by
   rw[hlk];show(x.kids.map (kidP bs))[s/4]?=_;rw[List.getElem?_map,hn];rfl
  rcases hc with rfl|⟨h0,h1,y,hy,hyl,-⟩
  ·refine inumAt b _ s _ w hs hat (.inl ⟨s/4,rfl,hto,?_⟩);rw[getP,if_neg (by omega),hka,if_pos (by omega)]
  ·obtain⟨v,hv,-⟩:=leaf_kid ha hy hyl t4;have hcl:n.toNat<bs.length:=by rw[hf.1,lksOf_len];exact(List.getElem?_eq_some_iff.1 hy).1
   have hkp:kidP bs n=some bs[n.toNat]:=by rw[kidP,if_neg (by omega),List.getElem?_eq_getElem hcl]
   rw[hkp]at hto;have hat2:=hf.2 n.toNat _ _ (List.getElem?_eq_getElem hcl) (lksOf_some hy);have e:getP L (m:Int) s=v:=by rw[getP,if_neg (by omega),hka,if_neg (by omega),kidAt_some hy hv]
   rw[e];refine inumAt b _ s v w hs hat (.inr ⟨_,_,hto,hat2,?_⟩);unfold lkOf;rw[if_pos hyl];exact hv
def ATOut(w:World)(L:List Kn)(r:Int)(e:Ending)(w':World):Prop:=
 Below w.heap.size w w'∧((arB L=true∧rootB L r=true∧∃b bs,e=.returned (ptr b)∧TreeAt w' b bs L r)∨((arB L&&rootB L r)=false∧e=.returned (.pointer none)))
theorem iatree(ad:Option Addr)(len cap:Nat)(rs:List Kw)(r:Int)(w:World)(hl:len≤1048578)(h:KnRd w ad len rs):
 Calls Tryz.prog 107 #[.agg #[.slice ad len cap],.int .i64 r] w (ATOut w (rs.map ktell) r):=by
 have bx:=box_at w (.slice ad len cap);have B0:Hid (Below w.heap.size w (w.alloc (.cells #[.slice ad len cap] 53))):=(Below.refl _ _).alloc (Nat.le_refl _) _;have H:=hide (h.below B0.out);clear h;go_enter Tryz.func107,Tryz.ntmps107;go_wp2_with fail;refine(ilinked ad len cap rs _ hl H.out).mono ?_;rintro e w1 ⟨b1,h1⟩;have HB:Hid (Below w.heap.size w w1):=B0.out.trans (b1.mono B0.out.size);clear b1;rcases h1 with⟨hA,v,bs,rfl,hF⟩|⟨hA,rfl⟩
 ·have HA:=hide hA;have HF:=hide hF;obtain⟨fa,fc,rfl,hpr⟩:=PRow.of (bs:=bs) (by rw[hF.2.1];exact hF.1)
  have HP:=hide hpr;clear hA hF hpr bx;go_wp2_with fail;refine(ftree fa _ fc bs (rs.map ktell) r w1 HP.out HF.out.2.2.1).mono ?_;rintro e w2 ⟨b2,h2⟩;have HB2:Hid (Below w.heap.size w w2):=HB.out.trans (b2.mono HB.out.size);clear b2;rcases h2 with⟨hR,b,rfl,hT,-⟩|⟨hR,rfl⟩
  ·have HR:=hide hR;have HT:=hide hT;clear hR hT;unfold ptr;go_wp2;go_ret;exact⟨HB2.out,.inl ⟨HA.out,HR.out,b,bs,rfl,HT.out⟩⟩
  ·have HR:=hide hR;clear hR;go_wp2;go_ret;exact⟨HB2.out,.inr ⟨by rw[HA.out,HR.out];rfl,rfl⟩⟩
 ·have HA:=hide hA;clear hA;go_wp2;go_ret;exact⟨HB.out,.inr ⟨by rw[HA.out];rfl,rfl⟩⟩
theorem isect(s:Int)(w:World):Calls Tryz.prog 108 #[.int .i64 s] w fun e w'=>e=.returned (.bool (decide (0≤s∧s≤15)))∧w'=w:=by
 by_cases h0:0≤s
 ·by_cases h1:s≤15
  ·rw[decide_eq_true ⟨h0,h1⟩];go_enter Tryz.func108,Tryz.ntmps108;go_wp2;go_ret;exact⟨rfl,rfl⟩
  ·rw[decide_eq_false (fun h=>h1 h.2)]
   go_enter Tryz.func108,Tryz.ntmps108;go_wp2;go_ret;exact⟨rfl,rfl⟩
 ·rw[decide_eq_false (fun h=>h0 h.1)]
  go_enter Tryz.func108,Tryz.ntmps108;go_wp2;go_ret;exact⟨rfl,rfl⟩
theorem igetAt:GetC 74:=by
 intro ad len cap rs r s w hl h;have bx:=box_at w (.slice ad len cap);have B0:Hid (Below w.heap.size w (w.alloc (.cells #[.slice ad len cap] 53))):=(Below.refl _ _).alloc (Nat.le_refl _) _;have H:=hide (h.below B0.out);clear h;obtain⟨L,hL⟩:∃L,rs.map ktell=L:=⟨_,rfl⟩;have HL:=hide hL;rw[hL];clear hL;go_enter Tryz.func74,Tryz.ntmps74;go_wp2_with fail;refine(iatree ad len cap rs r _ hl H.out).mono ?_;rw[HL.out];rintro e w1 ⟨b1,h1⟩;have HB:Hid (Below w.heap.size w w1):=B0.out.trans (b1.mono B0.out.size);clear b1;rcases h1 with⟨hA,hR,b,bs,rfl,hT⟩|⟨hA,rfl⟩
 ·have HA:=hide hA;have HR:=hide hR;have HT:=hide hT;clear hA hR hT bx;unfold ptr;go_wp2_with fail;refine(isect s w1).mono ?_;rintro e w2 ⟨rfl,rfl⟩;by_cases hin:0≤s∧s≤15
  ·have E:Hid (getT L r s=getP L r s.toNat):=if_pos (by rw[askB,HA.out,HR.out,decide_eq_true hin.1,decide_eq_true hin.2];rfl)
   rw[decide_eq_true hin];obtain⟨t,rfl⟩:∃t:Nat,s=(t:Int):=⟨s.toNat,by omega⟩
   simp only[Int.toNat_natCast]at E;have ht:t≤15:=by omega
   clear hin;go_wp2_with fail;refine(inum b bs L r t w2 ht HA.out HT.out).mono ?_;rintro e w3 ⟨rfl,rfl⟩;go_wp2;go_ret;exact⟨congrArg (fun q=>Ending.returned (.int .i64 q)) E.out.symm,HB.out⟩
  ·have E:Hid (getT L r s=0):=if_neg (by
    rw[askB];simp only[Bool.and_eq_true,decide_eq_true_eq];rintro⟨-,h1,h2⟩;exact hin ⟨h1,h2⟩)
   rw[decide_eq_false hin];clear hin;go_wp2;go_ret;exact⟨congrArg (fun q=>Ending.returned (.int .i64 q)) E.out.symm,HB.out⟩
 ·have E:Hid (getT L r s=0):=if_neg (by rw[askB,hA];simp)
  clear hA;go_wp2;go_ret;exact⟨congrArg (fun q=>Ending.returned (.int .i64 q)) E.out.symm,HB.out⟩
theorem ichunk:ChunkC 50:=by
 rintro v s vol sec w ⟨va,vl,vc,ad,len,cap,rs,rfl,hks,hvl,hl,hll,hvc,h,hk⟩;obtain⟨vs,kns,nx⟩:=s;simp only at hks h⊢;subst hks;have BX:=hide (sbox_at w (.slice va vl vc) (.slice ad len cap) (.int .i64 nx));have B0:Hid (Below w.heap.size w (w.alloc (.cells #[.slice va vl vc,.slice ad len cap,.int .i64 nx] 55))):=(Below.refl _ _).alloc (Nat.le_refl _) _;have HV:=hide h;have HVL:=hide h.1;have HK:=hide hk;have HZ:=hide (show w.heap.size<(w.alloc (.cells #[.slice va vl vc,.slice ad len cap,.int .i64 nx] 55)).heap.size by simp)
 obtain⟨C,hC⟩:∃C,chunkS ⟨vs,rs.map ktell,nx⟩ vol sec=C:=⟨_,rfl⟩;have HC:=hide hC;rw[hC];clear h hk hll hvc hC;unfold SBox;go_enter Tryz.func50,Tryz.ntmps50;go_wp2_with fail;generalize w.alloc (.cells #[.slice va vl vc,.slice ad len cap,.int .i64 nx] 55)=wb at BX B0 HZ⊢;obtain⟨z,hz⟩:∃z,w.heap.size=z:=⟨_,rfl⟩;rw[hz]at BX HZ⊢;have HZW:=hide hz;clear hz;obtain⟨x0,x1,x2⟩:=BX.out;have HVB:=hide (HV.out.below B0.out);refine(ivolAt va vl vc vs vol wb hvl HVB.out).mono ?_;rintro e w1 ⟨rfl,rfl⟩;cases ha:atV vs vol with
 |none=>
  have E:Hid (C=0):=by
   show _=_;rw[←HC.out];simp only[chunkS,rootV,ha,Option.bind_none]
  clear ha;unfold volP;go_wp2;go_ret;exact⟨by rw[E.out];rfl,by have:=B0.out;rw[HZW.out]at this⊢;exact this⟩
 |some k=>
  obtain⟨v,hv,hid⟩:=atV_some ha;have E:Hid (getT (rs.map ktell) v.2 sec=C):=by
   show _=_;rw[←HC.out];simp only[chunkS,rootV,ha,Option.bind_some,hv,Option.map_some]
  obtain⟨b,off,e,hb,c0,c1⟩:=HVB.out.at hv;subst e;have BD:Hid (Below w1.heap.size w1 w1.drew):=(Below.refl _ _).drew;have CG:=hide (igetAt ad len cap rs v.2 sec w1.drew (by omega) (HK.out.below (B0.out.trans (BD.out.mono B0.out.size))))
  rw[E.out]at CG;have l1:=World.block_lt_of_cell? w1 _ x1;have l2:=World.block_lt_of_cell? w1 _ c1;have KP:=hide (show w1.drew.cell? ⟨z,1,none⟩=some (.slice ad len cap)∧w1.drew.cell? ⟨b,off+k*2+1,none⟩=some (.int .i64 v.2)from⟨(BD.out.cell l1).trans x1,(BD.out.cell l2).trans c1⟩);clear ha hv hid E;have ev:volP (some ⟨b,off,none⟩) (some k)=.pointer (some ⟨b,off+k*2,none⟩):=rfl;rw[ev];clear ev;go_wp2_with fail;go_region_held3 (fun w'=>w'.cell? ⟨z,1,none⟩=some (.slice ad len cap)∧w'.cell? ⟨b,off+k*2+1,none⟩=some (.int .i64 v.2)) (first|exact KP.out|go_keep) ((go_at_call 74;(with_reducible refine Calls.mono CG.out ?_);rintro en w2 ⟨rfl,b2⟩;clear KP;have KP:=hide (show w2.cell? ⟨z,1,none⟩=some (.slice ad len cap)∧w2.cell? ⟨b,off+k*2+1,none⟩=some (.int .i64 v.2)from⟨(b2.cell (show z<w1.drew.heap.size from l1)).trans ((BD.out.cell l1).trans x1),(b2.cell (show b<w1.drew.heap.size from l2)).trans ((BD.out.cell l2).trans c1)⟩);have B2:=hide (B0.out.trans ((BD.out.trans (b2.mono BD.out.size)).mono B0.out.size))))
  go_wp2;go_ret;exact⟨rfl,by have:=B2.out;rw[HZW.out]at this⊢;exact this⟩
end Go.Proofs.YtiicghepilbgfaaGreatDoor
namespace Go.Proofs.YtiicghepilbgfaaGreatDoor
open Go.RowKit
open Go.ChangeMaps (setBlock heap_setBlock_same heap_setBlock_other)
section
variable {K α : Type} [DecidableEq K]
def atG(l:List (K×α))(k:K):Option α:=(l.find? (fun p=>decide (p.1=k))).map (·.2)
def KeydG(l:List (K×α)):Prop:=l.Pairwise (fun a b=>a.1≠b.1)
def newG(l:List (K×α))(k:K)(v:α):List (K×α):=if (atG l k).isSome then l.map (fun p=>if p.1=k then(k,v)else p)else l++[(k,v)]
theorem atG_cons(p:K×α)(l:List (K×α))(k:K):atG (p::l) k=if p.1=k then some p.2 else atG l k:=by
 unfold atG;rw[List.find?_cons];by_cases h:p.1=k<;>simp[h]
theorem atG_none{l:List (K×α)}{k:K}:atG l k=none↔∀p∈l,p.1≠k:=by
 induction l with
 |nil=>simp[atG]
 |cons a l ih=>
  rw[atG_cons];by_cases h:a.1=k
  ·simp[h]
  ·simp[h,ih]
theorem mem_atG{l:List (K×α)}{k:K}{v:α}(hk:KeydG l)(h:(k,v)∈l):atG l k=some v:=by
 induction l with
 |nil=>cases h
 |cons a l ih=>
  obtain⟨q1,q2⟩:=List.pairwise_cons.1 hk;rw[atG_cons];rcases List.mem_cons.1 h with e|e
  ·subst e;simp
  ·rw[if_neg (q1 _ e)];exact ih q2 e
theorem atG_snoc(l:List (K×α))(k:K)(v:α)(x:K):atG (l++[(k,v)]) x=(atG l x).or (if k=x then some v else none):=by
 induction l with
 |nil=>rw[List.nil_append,atG_cons];simp[atG]
 |cons a l ih=>
  rw[List.cons_append,atG_cons,atG_cons,ih];by_cases h:a.1=x<;>simp[h]
theorem KeydG.snoc{l:List (K×α)}{k:K}{v:α}(h:KeydG l)(hn:atG l k=none):KeydG (l++[(k,v)]):=by
 refine List.pairwise_append.2 ⟨h,List.pairwise_singleton _ _,?_⟩;intro a ha b hb;rw[List.mem_singleton]at hb;subst hb;exact atG_none.1 hn a ha
theorem atG_set(l:List (K×α))(k:K)(v:α)(x:K):atG (l.map (fun p=>if p.1=k then(k,v)else p)) x=if x=k then(atG l k).map (fun _=>v)else atG l x:=by
 induction l with
 |nil=>simp[atG]
 |cons a l ih=>
  rw[List.map_cons,atG_cons,ih,atG_cons,atG_cons];by_cases h:a.1=k
  ·by_cases hx:x=k
   ·subst hx;simp[h]
   ·have:¬k=x:=fun e=>hx e.symm
    simp[h,hx,this]
  ·by_cases hx:x=k
   ·subst hx;simp[h]
   ·simp[h,hx]
theorem atG_new(l:List (K×α))(k:K)(v:α)(x:K):atG (newG l k v) x=if x=k then some v else atG l x:=by
 unfold newG;cases h:atG l k with
 |none=>
  simp only[Option.isSome_none,Bool.false_eq_true,if_false];rw[atG_snoc];by_cases e:x=k
  ·subst e;simp[h]
  ·rw[if_neg e,if_neg (fun q=>e q.symm)];simp
 |some u=>
  simp only[Option.isSome_some,if_true];rw[atG_set,h];rfl
theorem KeydG.new{l:List (K×α)}{k:K}{v:α}(h:KeydG l):KeydG (newG l k v):=by
 unfold newG;cases e:atG l k with
 |none=>simp only[Option.isSome_none,Bool.false_eq_true,if_false];exact h.snoc e
 |some u=>
  simp only[Option.isSome_some,if_true];unfold KeydG;rw[List.pairwise_map];refine h.imp ?_;intro a b hab;by_cases e1:a.1=k<;>by_cases e2:b.1=k
  ·exact absurd (e1.trans e2.symm) hab
  ·rw[if_pos e1,if_neg e2];exact fun q=>e2 q.symm
  ·rw[if_neg e1,if_pos e2];exact e1
  ·rw[if_neg e1,if_neg e2];exact hab
theorem setG_is{l:List (K×α)}{x:K}{j:Nat}{u:α}(v:α)(h:KeydG l)(hj:l[j]?=some (x,u)):l.map (fun p=>if p.1=x then(x,v)else p)=l.set j (x,v):=by
 induction l generalizing j with
 |nil=>simp at hj
 |cons a l ih=>
  obtain⟨q1,q2⟩:=List.pairwise_cons.1 h;rw[List.map_cons];cases j with
  |zero=>
   simp only[List.getElem?_cons_zero,Option.some.injEq]at hj;subst hj;rw[if_pos rfl,List.set_cons_zero];congr 1;rw[List.map_congr_left (g:=id)]
   ·simp
   ·intro p hp;rw[if_neg (fun e=>q1 p hp e.symm)]
    rfl
  |succ j=>
   rw[List.getElem?_cons_succ]at hj;rw[if_neg (q1 _ (List.mem_of_getElem? hj)),List.set_cons_succ,ih q2 hj]
end
def MapG{K:Type}(en:K→Value)(w:World)(b:Nat)(l:List (K×Value)):Prop:=KeydG l∧∃es clock,w.heap[b]?=some (.map es clock)∧es.toList.map (fun e=>(e.key,e.val))=l.map (fun p=>(en p.1,p.2))
structure KeysG {K:Type} (P:Program) (k:TypeId) (en:K→Value) (d:TypeDesc):Prop where
 ty:P.underlying k=some d
 is:∀a,MapKept.IsKey d (en a)
 inj:∀a b,en a=en b→a=b
section
variable {K : Type} {P : Program} {t k e : TypeId} {en : K → Value} {d : TypeDesc} {w w' : World} {b : Nat} {l : List (K × Value)}
theorem MapG.lt(h:MapG en w b l):b<w.heap.size:=by
 obtain⟨-,es,clock,h1,-⟩:=h;exact(Array.getElem?_eq_some_iff.1 h1).1
theorem MapG.same(h:MapG en w b l)(e:w'.heap[b]?=w.heap[b]?):MapG en w' b l:=by
 obtain⟨h0,es,clock,h1,h2⟩:=h;exact⟨h0,es,clock,e.trans h1,h2⟩
theorem MapG.below(h:MapG en w b l)(hb:Below w.heap.size w w'):MapG en w' b l:=h.same (hb.block _ h.lt)
theorem MapG.made(w:World):MapG en (w.alloc (.map #[] 0)) w.heap.size []:=⟨List.Pairwise.nil,#[],0,heap_alloc_new w _,rfl⟩
end
section
variable {K : Type} [DecidableEq K] {P : Program} {t k e : TypeId} {en : K → Value} {d : TypeDesc} {w w' : World} {b : Nat} {l : List (K × Value)}
theorem findG{es:Array MapEntry}(hk:KeysG P k en d)(hd:KeydG l)(h:es.toList.map (fun e=>(e.key,e.val))=l.map (fun p=>(en p.1,p.2)))(x:K)(w:World):
 ((Instr.findKey k (en x) es.toList).run P w=.ok none w∧atG l x=none)∨∃j v,(Instr.findKey k (en x) es.toList).run P w=.ok (some (j,v)) w∧l[j]?=some (x,v)∧atG l x=some v:=by
 have hks:∀y∈es.toList,MapKept.IsKey d y.key:=by
  intro y hy;have:(y.key,y.val)∈es.toList.map (fun e=>(e.key,e.val)):=List.mem_map.2 ⟨y,hy,rfl⟩
  rw[h]at this;obtain⟨p,-,hp⟩:=List.mem_map.1 this;have:y.key=en p.1:=(congrArg Prod.fst hp).symm;rw[this];exact hk.is _
 rcases MapKept.findNow_spec (d:=d) (k:=en x) (hk.is x) es.toList 0 hks with⟨h1,h2⟩|⟨j,e0,h1,h2,h3⟩
 ·refine .inl ⟨MapKept.run_findKey hk.ty h1,atG_none.2 fun p hp e=>?_⟩
  have:(en p.1,p.2)∈l.map (fun p=>(en p.1,p.2)):=List.mem_map.2 ⟨p,hp,rfl⟩
  rw[←h]at this;obtain⟨y,hy,ey⟩:=List.mem_map.1 this;refine h2 y hy ?_;have:=congrArg Prod.fst ey;simp only at this;rw[this,e]
 ·have e1:(l.map (fun p=>(en p.1,p.2)))[j]?=some (e0.key,e0.val):=by rw[←h,List.getElem?_map,h2];rfl
  rw[List.getElem?_map]at e1;cases hl:l[j]? with
  |none=>rw[hl]at e1;cases e1
  |some p=>
   rw[hl]at e1;simp only[Option.map_some,Option.some.injEq,Prod.mk.injEq]at e1;obtain⟨e1,e2⟩:=e1;rw[h3]at e1;have e1:=hk.inj _ _ e1;have ep:p=(x,e0.val):=by rw[←e1,←e2]
   refine .inr ⟨j,e0.val,by simpa using MapKept.run_findKey hk.ty h1,by rw[hl,ep],mem_atG hd ?_⟩
   rw[←ep];exact List.mem_of_getElem? hl
theorem MapG.look(h:MapG en w b l)(ht:P.underlying t=some (.map k e))(hk:KeysG P k en d){z:Value}(hz:(zeroValue e).run P w=.ok z w)(x:K)(c:Bool):
 (Instr.lookup t (.map (some b)) (en x) c).run P w=.ok (if c then .tuple #[(atG l x).getD z,.bool (atG l x).isSome]else(atG l x).getD z) w:=by
 obtain⟨h0,es,clock,hb,h2⟩:=h;have hc:∀em,(Instr.checkKey em 10000 k (en x)).run P w=.ok () w:=fun em=>MapKept.run_checkKey hk.ty (hk.is x) em 9999
 rcases findG hk h0 h2 x w with⟨h1,h3⟩|⟨j,v,h1,-,h3⟩
 ·simp[Instr.lookup,run_underlying ht,MapKept.run_getObj_map hb,hc,h1,hz,h3,Result.andThen]
 ·simp[Instr.lookup,run_underlying ht,MapKept.run_getObj_map hb,hc,h1,h3,Result.andThen]
theorem MapG.new(h:MapG en w b l)(ht:P.underlying t=some (.map k e))(hk:KeysG P k en d)(x:K)(v:Value):
 ∃w',(Instr.mapUpdate t (.map (some b)) (en x) v).run P w=.ok () w'∧MapG en w' b (newG l x v)∧w.grownBy w' (some b)∧w'.heap.size=w.heap.size:=by
 obtain⟨h0,es,clock,hb,h2⟩:=h;have hc:∀em,(Instr.checkKey em 10000 k (en x)).run P w=.ok () w:=fun em=>MapKept.run_checkKey hk.ty (hk.is x) em 9999
 rcases findG hk h0 h2 x w with⟨h1,h3⟩|⟨j,u,h1,hj,h3⟩
 ·refine⟨setBlock w b (.map (es.push ⟨en x,v,clock⟩) (clock+1)),?_,⟨h0.new,_,_,heap_setBlock_same hb _,?_⟩,?_,by simp[setBlock]⟩
  ·simp[Instr.mapUpdate,run_underlying ht,MapKept.run_getObj_map hb,hc,h1,MapKept.run_setObj_map _ hb,Result.andThen,setBlock]
  ·unfold newG;rw[h3];simp[h2]
  ·exact⟨rfl,rfl,rfl,by simp[setBlock],fun i _ hi=>heap_setBlock_other hb _ (fun e1=>hi (by rw[e1]))⟩
 ·have e1:newG l x v=l.set j (x,v):=by unfold newG;rw[h3];exact setG_is v h0 hj
  have hjs:j<es.size:=by
   have:=congrArg List.length h2;have q:=(List.getElem?_eq_some_iff.1 hj).1;simp only[List.length_map,Array.length_toList]at this;omega
  obtain⟨ej,hej⟩:∃ej,es[j]?=some ej:=⟨_,Array.getElem?_eq_getElem hjs⟩;have hkey:ej.key=en x:=by
   have q:(es.toList.map (fun e=>(e.key,e.val)))[j]?=some (ej.key,ej.val):=by rw[List.getElem?_map,Array.getElem?_toList,hej];rfl
   rw[h2,List.getElem?_map,hj]at q;simp only[Option.map_some,Option.some.injEq,Prod.mk.injEq]at q;exact q.1.symm
  refine⟨setBlock w b (.map (es.modify j fun e=>{e with key:=en x,val:=v}) clock),?_,⟨h0.new,_,clock,heap_setBlock_same hb _,?_⟩,?_,by simp[setBlock]⟩
  ·have hst:(Instr.keyThatStays (en x) (en x)).run P w=.ok (en x) w:=MapKept.run_keyThatStays (hk.is x);simp[Instr.mapUpdate,run_underlying ht,MapKept.run_getObj_map hb,hc,h1,hej,hkey,hst,MapKept.run_setObj_map _ hb,Result.andThen,setBlock]
  ·rw[e1,Array.toList_modify];apply List.ext_getElem?;intro i;have hi:(es.toList.map (fun e=>(e.key,e.val)))[i]?=(l.map (fun p=>(en p.1,p.2)))[i]?:=by rw[h2]
   rw[List.getElem?_map,List.getElem?_map]at hi;rw[List.getElem?_map,List.getElem?_map,List.getElem?_modify,List.getElem?_set];by_cases hij:j=i
   ·subst hij;rw[if_pos rfl,if_pos (List.getElem?_eq_some_iff.1 hj).1,Array.getElem?_toList,hej];simp
   ·rw[if_neg hij];cases hq:es.toList[i]? with
    |none=>rw[hq]at hi;simpa[hij]using hi
    |some y=>rw[hq]at hi;simpa[hij]using hi
  ·exact⟨rfl,rfl,rfl,by simp[setBlock],fun i _ hi=>heap_setBlock_other hb _ (fun e1=>hi (by rw[e1]))⟩
end
def enI(a:Int):Value:=.int .i64 a
theorem keysI:KeysG Tryz.prog 3 enI (.int .i64):=⟨Tryz.underlying3,fun _=>rfl,fun a b h=>by unfold enI at h;injection h⟩
end Go.Proofs.YtiicghepilbgfaaGreatDoor
