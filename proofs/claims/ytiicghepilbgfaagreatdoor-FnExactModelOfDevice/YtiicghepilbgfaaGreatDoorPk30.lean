/-
  Longest; ITok
-/
import Derived.Test.YtiicghepilbgfaaGreatDoorPk29
import Derived.Test.YtiicghepilbgfaaGreatDoorPk28
import Derived.Test.YtiicghepilbgfaaGreatDoorPk8
set_option maxHeartbeats 1000000
set_option maxRecDepth 100000
namespace Go.Proofs.YtiicghepilbgfaaGreatDoor
open Go.RowKit
open Pack
theorem placesI_at(s q:List UInt8)(m j p:Nat)(L:List Nat)(h:(placesN s q m).take (j+1)=L++[p])(hL:L.length=j):(placesI s q m)[j]?=some (p:Int):=by
 have h1:(placesN s q m)[j]?=some p:=by
  have e1:((placesN s q m).take (j+1))[j]?=some p:=by rw[h,←hL];simp
  rwa [List.getElem?_take_of_lt (by omega)]at e1
 simp[placesI,h1]
theorem ints_slice{w:World}{base:Nat}{v:Value}{zs:List Int}(h:w.ownsInts base 3 .i64 v zs):∃(ao:Option Addr) (n cap:Nat),v=.slice ao n cap∧n=zs.length∧
 (0<n→∃g,ao=some ⟨g,0,none⟩∧g<w.heap.size∧∀(j:Nat) (p:Int),zs[j]?=some p→w.cell? ⟨g,j,none⟩=some (.int .i64 p)):=by
 have hlt:=h.1.lt;have hc:=h.1;rcases h.1.2 with⟨rfl,h0⟩|⟨g,cap,cur,rfl,hb,hg,hn,hcap,hcs,htake⟩
 ·exact⟨none,0,0,rfl,h0.symm,fun h=>by omega⟩
 ·refine⟨_,_,_,rfl,rfl,fun _=>⟨g,rfl,(hlt g rfl).2,fun j p hj=>?_⟩⟩
  have:=hc.cells (g:=g) rfl j (.int .i64 p) (by simp[hj])
  rwa [addr_at]at this
theorem longest_any(s:ByteArray)(b base k:Nat)(w:World)(No:Nat→Prop)(hs:s.size≤64)(hk:k≤s.size)(hp:PMapAt w base b k s.data.toList No):
 Calls Tryz.prog 158 #[.map (some b),.string s,.int .i64 k] w fun e w'=>e=.returned (.tuple #[.int .i64 ((best s.data.toList k k).2:Nat),.int .i64 ((best s.data.toList k k).1:Nat)])∧Below w.heap.size w w':=by
 have hl:s.data.toList.length=s.size:=by simp
 have HP:=hide hp;clear hp;go_enter Tryz.func158,Tryz.ntmps158;go_wp2_with fail;refine(start_any s k _ hs (by omega)).mono ?_
 rintro e w5 ⟨rfl,hb5⟩;have HM5:=hide (pmap_kept HP.out (grown_old hb5 none) (fun j hj=>by cases hj))
 have HB5:=hide hb5;have hsz5:=hb5.size;clear hb5 HP;have hv:=hide (bytes_made w5 [0,0,0,0] #[Value.int .u8 0,Value.int .u8 0,Value.int .u8 0,Value.int .u8 0] 272 rfl);by_cases h4:k+4≤s.size
 ·rw[decide_eq_true h4];go_wp2_with (first
   |(refine wpList_store_key rfl _ _ rfl w5.heap.size _ [0,0,0,0] rfl rfl hv.out (fourAt_len _ _) rfl ?_
     intro w6 hw6;obtain⟨hy6,hm6,hb6,hsz6⟩:=note_prep (fourAt_len _ _) HM5.out hw6;have HY:=hide hy6;have HM6:=hide hm6;have HB6:=hide (HB5.out.trans (hb6.mono hsz5));obtain⟨v,hlook,hoi⟩:=pmap_look hm6 (by omega) (fourAt s.data.toList k) (fourAt_len _ _)
     have HOI:=hide hoi;have hlk:=hlook false rfl;obtain⟨ao,n,cap,rfl,hn,hao⟩:=ints_slice hoi;have hn64:n≤64:=by have:=places_len s.data.toList (fourAt s.data.toList k) k;omega
     have HN:=hide hn;have HA:=hide hao;clear hn hao;have hge:w.heap.size≤w6.heap.size:=by omega
     clear hw6 hy6 hm6 hb6 hsz6 hoi hlook HM5 HB5)
   |refine wpList_load_key rfl _ rfl _ rfl _ HY.out (fourAt_len _ _) ?_
   |go_in)
  have hN2:n=(placesN s.data.toList (fourAt s.data.toList k) k).length:=by rw[HN.out];simp[placesI]
  have HN2:=hide hN2;clear hN2 HN hlk HM6 HY hv;go_loopw [10,11,13] (fun bv zv iv wr=>∃(c j b1 b2:Nat),c≤k∧j≤n∧iv=.int .i64 ((j:Int)-1)∧bv=.int .i64 b2∧zv=.int .i64 b1∧b1≤31∧b2≤64∧Hid (best s.data.toList k c=(b1,b2))∧Hid (placesN s.data.toList (fourAt s.data.toList k) (k-c)=(placesN s.data.toList (fourAt s.data.toList k) k).take j)∧Hid (Below w6.heap.size w6 wr)) (fun _ _ iv _=>(intOf iv+1).toNat)
  case atStart=>exact⟨0,n,0,0,by omega,Nat.le_refl _,by go_num,rfl,rfl,by omega,by omega,rfl,(by show _=_;rw[Nat.sub_zero,HN2.out,List.take_length]),Below.refl _ _⟩
  case round=>
   obtain⟨c,j,b1,b2,hc,hj,rfl,rfl,rfl,hb1,hb2,HB,HL,HW⟩:=hrel;cases j with
   |zero=>
    have hlast:=best_last s.data.toList k c hc (by rw[hl];exact h4) (by rw[HL.out];rfl)
    have HX:Hid (best s.data.toList k k=(b1,b2)):=by show _=_;rw[hlast,HB.out]
    have hneg:¬(0:Int)≤((0:Nat):Int)-1:=by omega
    clear hlast HB HL;go_wp2;exact bodyPost_ret (results_tmp2 rfl _ _ _) rfl ⟨by rw[HX.out];rfl,HB6.out.trans (HW.out.mono hge)⟩
   |succ j=>
    have ej:(((j+1:Nat):Int)-1)=(j:Int):=by omega
    rw[ej];rcases List.eq_nil_or_concat (placesN s.data.toList (fourAt s.data.toList k) (k-c))with h0|⟨L,p,h0⟩
    ·exfalso
     have:=congrArg List.length HL.out;rw[h0,List.length_take]at this;have:=HN2.out;simp at*;omega
    ·rw[List.concat_eq_append]at h0;have hLl:L.length=j:=by
      have e1:=congrArg List.length HL.out;rw[h0,List.length_take,List.length_append]at e1;have:=HN2.out;simp at e1;omega
     obtain⟨q1,q2,q3,q4,q5⟩:=best_place s.data.toList k c p L hc (by rw[hl];exact h4) h0
     have hat:=placesI_at s.data.toList (fourAt s.data.toList k) k j p L (by rw[←HL.out,h0]) hLl
     obtain⟨g,rfl,hgl,hcell⟩:=HA.out (by omega)
     have hc1:wr.cell? ⟨g,j,none⟩=some (.int .i64 (p:Int)):=by
      rw[HW.out.cell (show g<w6.heap.size from hgl)];exact hcell j _ hat
     have HL2:Hid (placesN s.data.toList (fourAt s.data.toList k) (k-(k-p))=(placesN s.data.toList (fourAt s.data.toList k) k).take j):=by
      show _=_;rw[show k-(k-p)=p by omega,q2]
      have e1:=HL.out;rw[h0]at e1;have e2:=congrArg (List.take j) e1;rw[List.take_take,List.take_append_of_le_length (by omega),←hLl,List.take_length]at e2
      rw[e2,hLl];congr 1;omega
     have hpk:p<k:=by omega
     have hb1e:(best s.data.toList k c).1=b1:=by rw[HB.out]
     rw[hb1e]at q4 q5;have HQ:=hide (⟨q4,q5⟩:_∧_);have HBc:=hide HB.out;have hj0:(0:Int)≤j:=by omega
     have hjn:(j:Int)<n:=by omega
     have hm31:=(mlen_le 31 (s.data.toList.drop p) (s.data.toList.drop k)).1;clear h0 q2 q3 q4 q5 hat hcell HL hLl hb1e q1 ej;go_wp2_with fail;refine(imatch_any s p k _ hs hpk hk).mono ?_;rintro e w7 ⟨rfl,hb7⟩;have hc7:w7.cell? ⟨g,j,none⟩=some (.int .i64 (p:Int)):=by
      rw[hb7.cell (show g<wr.heap.size from Nat.lt_of_lt_of_le hgl HW.out.size)];exact hc1
     have HW7:=hide (HW.out.trans (hb7.mono HW.out.size));obtain⟨m,hm⟩:∃m,mlen 31 (s.data.toList.drop p) (s.data.toList.drop k)=m:=⟨_,rfl⟩;rw[hm]at hm31 HQ⊢;clear hm hb7 HW hc1;by_cases hgt:(b1:Int)<m
     ·have HB2:=hide (HQ.out.1 (by omega))
      clear HQ HBc HB;go_wp2;go_roundw
      case rel=>exact⟨k-p,j,m,k-p,by omega,by omega,by go_num,by go_num,rfl,by omega,by omega,HB2,HL2,HW7⟩
      case measure=>simp[intOf]
     ·have HB2:Hid (best s.data.toList k (k-p)=(b1,b2)):=by
       show _=_;rw[HQ.out.2 (by omega),HBc.out]
      clear HQ HBc HB;go_wp2;go_roundw
      case rel=>exact⟨k-p,j,b1,b2,by omega,by omega,by go_num,rfl,rfl,hb1,hb2,HB2,HL2,HW7⟩
      case measure=>simp[intOf]
 ·rw[decide_eq_false h4];have HX:=hide (best_short s.data.toList k (by rw[hl];exact h4))
  go_wp2_with (first
   |(refine wpList_store_key rfl _ _ rfl w5.heap.size _ [0,0,0,0] rfl rfl hv.out (fourAt_len _ _) rfl ?_
     intro w6 hw6;obtain⟨-,-,hb6,hsz6⟩:=note_prep (fourAt_len _ _) HM5.out hw6;have HB6:=hide (HB5.out.trans (hb6.mono hsz5));clear hw6 hb6 HM5)
   |go_in)
  exact bodyPost_ret (results_tmp2 rfl _ _ _) rfl ⟨by rw[HX.out];rfl,HB6.out⟩
theorem pmap_step {w5 w6:World} {base b k:Nat} {s:List UInt8} {v v':Value} (h:PMapAt w5 base b k s (fun g=>v.ownBlock=some g)) (hg:w5.grownBy w6 v.ownBlock)
 (hloc:v'.ownBlock=v.ownBlock∨∃g,v'.ownBlock=some g∧w5.heap.size≤g) (hlt:∀g,v.ownBlock=some g→base≤g):PMapAt w6 base b k s (fun g=>v'.ownBlock=some g):=by
 have hb:=(pmap_lt h).2;have h1:=pmap_reno (No':=fun g=>v.ownBlock=some g∨w5.heap.size≤g) h (fun g hg=>hg)
 have h2:=pmap_kept h1 hg (fun j hj=>⟨Or.inl hj,fun e=>by have:=hlt j hj;omega⟩)
 refine pmap_reno h2 (fun g hg'=>Or.inl ?_)
 rcases hloc with e|⟨g',e,hge⟩
 ·exact Or.inl (e▸hg')
 ·rw[e]at hg';cases hg';exact Or.inr hge
theorem own_kept2{w w':World}{ok:Nat→Prop}{base:Nat}{e:TypeId}{size n:Nat}{v:Value}{xs:List Value}(h:w.ownsRow base e size v n xs)(hk:Kept2 w w' ok)(ho:∀g,v.ownBlock=some g→ok g):w'.ownsRow base e size v n xs:=by
 have hlt:=h.lt;obtain⟨h1,h2⟩:=h;refine⟨h1,?_⟩;rcases h2 with h|⟨g,cap,cur,rfl,a2,a3,a4⟩
 ·exact .inl h
 ·exact .inr ⟨g,cap,cur,rfl,a2,by rw[hk.2.2.2.2 g (hlt g rfl).2 (ho g rfl)];exact a3,a4⟩
def TState(w wr:World)(out:Value)(s:List UInt8)(k:Nat)(l:List (Nat×Nat×List UInt8)):Prop:=
 wr.ownsRow (w.heap.size+1) 198 3 out l.length (tcells l)∧PMapAt wr (w.heap.size+1) w.heap.size k s (fun g=>out.ownBlock=some g)∧Below w.heap.size w wr∧w.heap.size+1≤wr.heap.size
theorem tstate_below{w wr w5:World}{out:Value}{s:List UInt8}{k:Nat}{l:List (Nat×Nat×List UInt8)}(h:TState w wr out s k l)(hb:Below wr.heap.size wr w5):TState w w5 out s k l:=
 ⟨own_below h.1 hb,pmap_kept h.2.1 (grown_old hb none) (fun j hj=>by cases hj),h.2.2.1.trans (hb.mono h.2.2.1.size),Nat.le_trans h.2.2.2 hb.size⟩
theorem tstate_grown {w w5 w6:World} {v v':Value} {s:List UInt8} {k:Nat} {l l':List (Nat×Nat×List UInt8)} (h:TState w w5 v s k l) (ho:w6.ownsRow (w.heap.size+1) 198 3 v' l'.length (tcells l')) (hg:w5.grownBy w6 v.ownBlock)
 (hloc:v'.ownBlock=v.ownBlock∨∃g,v'.ownBlock=some g∧w5.heap.size≤g):TState w w6 v' s k l':=
 ⟨ho,pmap_step h.2.1 hg hloc (fun g hg=>(h.1.lt g hg).1),h.2.2.1.grown hg (by have:=h.2.2.2;omega) (fun j hj=>by have:=(h.1.lt j hj).1;omega),Nat.le_trans h.2.2.2 hg.size⟩
theorem note_tstate{w w6:World}{v:Value}{s:ByteArray}{k k2:Nat}{l:List (Nat×Nat×List UInt8)}(h:TState w w6 v s.data.toList k l)(hs:s.size≤64)(h12:k≤k2)(h2:k2≤s.size):
 Calls Tryz.prog 160 #[.map (some w.heap.size),.string s,.int .i64 k,.int .i64 k2] w6 fun e w'=>e=.returned (.tuple #[])∧Hid (TState w w' v s.data.toList k2 l):=by
 refine(note_any s w.heap.size (w.heap.size+1) k k2 w6 (fun g=>v.ownBlock=some g) hs h12 h2 (fun g hg=>(h.1.lt g hg).2) h.2.2.2 h.2.1).mono ?_
 rintro e w' ⟨rfl,hp,hk⟩;refine⟨rfl,own_kept2 h.1 hk (fun g hg=>⟨by have:=(h.1.lt g hg).1;omega,Or.inr hg⟩),hp,h.2.2.1.trans (hk.down ?_ (fun i hi=>⟨by omega,Or.inl (by omega)⟩)),Nat.le_trans h.2.2.2 hk.2.2.2.1⟩
 have:=h.2.2.2;omega
theorem itoks_any(s:ByteArray)(w:World)(hs:s.size≤64):
 Calls Tryz.prog 142 #[.string s] w fun e w'=>TRow w e w' (toks s.data.toList):=by
 obtain⟨i0,hi,hz0,hz1,hz2⟩:=info_parts infoTok;have hl:s.data.toList.length=s.size:=by simp
 have hmm:= @run_makeMap Tryz.prog;go_enter Tryz.func142,Tryz.ntmps142;go_wp2;go_loopw [3,5] (fun out av wr=>∃(m k:Nat) (l:List (Nat×Nat×List UInt8)),k≤s.size∧l.length≤m∧m≤k∧av=.int .i64 k∧Hid (stepsT m s.data.toList=(k,l))∧Hid (TState w wr out s.data.toList k l)) (fun _ av _=>64-(intOf av).toNat)
 case atStart=>exact⟨0,0,[],by omega,by simp,by omega,rfl,rfl,World.ownsRow_nil _ _ _ _,pmap_made _ _ _,(Below.refl _ _).alloc (Nat.le_refl _) _,by simp⟩
 case round=>
  obtain⟨m,k,l,hk,hll,hmk,rfl,HS,HT⟩:=hrel;by_cases hlt:(k:Int)<s.size
  ·go_wp2_with fail;refine(longest_any s w.heap.size (w.heap.size+1) k _ _ hs hk HT.out.2.1).mono ?_;rintro e w5 ⟨rfl,hb5⟩;have HT5:=hide (tstate_below HT.out hb5);have hw5:=HT5.out.2.2.2;have hbo:=best_of s.data.toList k k;obtain⟨b1,b2,hb⟩:∃b1 b2,best s.data.toList k k=(b1,b2):=⟨_,_,rfl⟩;rw[hb]at hbo⊢;have HB:=hide hb;clear hb hb5 HT;simp only at hbo⊢;by_cases h0:(0:Int)<b2
   ·have h1:0<b1:=by
     rcases hbo with e|⟨h,_⟩
     ·simp at e;omega
     ·omega
    have hb31:b1≤31:=by
     rcases hbo with e|⟨_,h,_⟩
     ·simp at e;omega
     ·exact h
    have hb64:b2≤64:=by
     rcases hbo with e|⟨_,_,_,h,_⟩
     ·simp at e;omega
     ·omega
    obtain⟨hst,hle⟩:=steps_match s.data.toList m k b1 b2 l (by omega) HS.out (by omega) HB.out h1
    have HS2:=hide hst;have hle2:k+b1≤s.size:=by omega
    clear HS HB hst hbo hle;go_wp2_with (first
     |(at_builtin;refine wpList_append_own_at _ rfl _ _ 171 rfl (w.heap.size+1) 198 i0 (.agg #[.int .i64 0,.int .i64 0,.string ⟨#[]⟩]) 3 32 Tryz.underlying171 hi hz0 hz1 hz2 rfl (by decide) _ _ _ rfl (by exact HT5.out.1.alloc _) ⟨w5.heap.size,0,none⟩ 1 1 [Value.int .i64 _,Value.int .i64 _,Value.string _] rfl rfl (by exact three_new _ _ _ _ _) (tok3_one _ _ _) (by unfold maxLen;omega) (by omega) (by simp;omega) ?_
       intro v' w6 hown2 hgrow _ hloc;have HT6:Hid (TState w w6 v' s.data.toList k (l++[(b2,b1,[])])):=by
        refine tstate_grown HT5.out (by rw[←tcells_snoc,List.length_append];exact hown2) ((World.grownBy_alloc w5 _ _).trans hgrow) (hloc.imp id (fun h=>⟨_,h,by simp⟩))
       clear hown2 hgrow hloc HT5)
     |fail)
    refine(note_tstate HT6.out hs (by omega) hle2).mono ?_
    rintro e w7 ⟨rfl,HT7⟩;clear HT6;go_wp2;go_roundw
    case rel=>exact⟨m+1,k+b1,l++[(b2,b1,[])],hle2,(by simp only[List.length_append,List.length_cons,List.length_nil]at*;omega),by omega,by go_num,HS2,HT7⟩
    case measure=>simp[intOf];omega
   ·have hb0:(best s.data.toList k k).1=0:=by
     rw[HB.out];rcases hbo with e|⟨_,_,h,_⟩
     ·simp at e;exact e.1
     ·omega
    obtain⟨u,hu⟩:∃u:ByteArray,u=s.extract k (k+1):=⟨_,rfl⟩;have hu1:u=⟨[s.data.toList.getD k 0].toArray⟩:=by
     rw[hu];apply ByteArray.ext;apply Array.ext';rw[Lib.extract_data];simp only[Nat.add_sub_cancel_left];rw[List.drop_eq_getElem_cons (by omega)]
     simp[List.getD_eq_getElem?_getD,List.getElem?_eq_getElem (show k<s.data.toList.length by omega)]
    have hsl:∀W,(Instr.slice 9 (.string s) (some (.int .i64 (k:Int))) (some (.int .i64 ((k:Int)+1))) none).run Tryz.prog W=.ok (.string u) W:=by
     intro W;rw[run_slice_string_if W 9 s .i64 .i64 _ _ Tryz.underlying9,if_pos (by omega),if_pos (by omega),hu]
     rfl
    have hK:=(kept_steps s.data.toList (by omega) m).1.2.1
    rw[HS.out]at hK;have hfit:=fit_of [] _ l (by simp) hK
    have hnext:∃l2,l2.length≤l.length+1∧stepsT (m+1) s.data.toList=(k+1,l2)∧∀out,w5.ownsRow (w.heap.size+1) 198 3 out l.length (tcells l)→Calls Tryz.prog 159 #[out,.string u] w5 fun e w'=>WRow w5 (w.heap.size+1) out e w' l2:=by
     by_cases hn:∃(l':List (Nat×Nat×List UInt8)) (z:Nat) (t:List UInt8),l=l'++[(0,z,t)]∧t.length<31
     ·obtain⟨l',z,t,rfl,ht⟩:=hn;refine⟨_,?_,steps_more s.data.toList m k z l' t HS.out (by omega) hb0 ht,fun out ho=>with_more out l' z t _ u _ w5 hu1 ?_ ht ho⟩
      ·simp
      ·simp at hll;omega
     ·refine⟨_,?_,steps_new s.data.toList m k l HS.out (by omega) hb0 (fun a z t e h=>hn ⟨a,z,t,e,h⟩),fun out ho=>with_new out l _ u _ w5 hu1 (by omega) hw5 ho ?_⟩
      ·simp
      ·rcases List.eq_nil_or_concat l with hl0|⟨l',⟨b,z,t⟩,hl0⟩
       ·exact Or.inl hl0
       ·rw[List.concat_eq_append]at hl0;refine Or.inr ⟨l',b,z,t,hl0,?_⟩;have hft:=hfit (b,z,t) (by rw[hl0];simp)
        rcases hft with⟨e1,_,e2,_⟩|⟨e1,_⟩
        ·refine Or.inr ⟨e1,?_⟩;simp only at e1 e2;have:¬t.length<31:=fun h=>hn ⟨l',z,t,by rw[hl0,e1],h⟩
         omega
        ·exact Or.inl e1
    obtain⟨l2,hl2,hst,hcall⟩:=hnext;have HS2:=hide hst;have HC:=hide hcall;have hl2m:l2.length≤m+1:=by omega
    clear HS HB hst hcall hbo hfit hK hu hu1 hb0 hl2;go_wp2_with fail;refine(HC.out _ HT5.out.1).mono ?_;rintro e w6 ⟨v',rfl,ho6,hg6,hloc6⟩;have HT6:=hide (tstate_grown HT5.out ho6 hg6 hloc6);clear ho6 hg6 hloc6 HT5 HC;go_wp2_with fail;refine(note_tstate HT6.out hs (by omega) (show k+1≤s.size by omega)).mono ?_
    rintro e w7 ⟨rfl,HT7⟩;clear HT6;go_wp2;go_roundw
    case rel=>exact⟨m+1,k+1,l2,by omega,hl2m,by omega,by go_num,HS2,HT7⟩
    case measure=>simp[intOf];omega
  ·have ek:k=s.size:=by omega
   have ET:Hid (toks s.data.toList=l):=steps_end _ m l (by rw[HS.out,ek,hl]) (by omega)
   go_wp2;go_ret;rw[ET.out];exact⟨_,rfl,own_lower HT.out.1 (by omega),HT.out.2.2.1⟩
end Go.Proofs.YtiicghepilbgfaaGreatDoor
