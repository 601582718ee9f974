/-
  PKey; Note; WithB
-/
import Derived.Test.YtiicghepilbgfaaGreatDoorPk27
import Derived.Test.YtiicghepilbgfaaGreatDoorPk0
import Derived.Test.YtiicghepilbgfaaGreatDoorShelf
set_option maxHeartbeats 400000
set_option maxRecDepth 100000
namespace Go.Proofs.YtiicghepilbgfaaGreatDoor
open Go.RowKit Go.Maps Go.WideElems Go.MapKept
open Go.WideMaps (KeyLaw)
open Go.ChangeShapes (lits)
theorem Tryz.laidOutAll:laidOutB Tryz.prog=true:=by kernel_rfl
theorem row4:(272:TypeId)<Tryz.prog.types.size:=of_decide_eq_true (by kernel_rfl)
theorem wide4:(match Tryz.prog.underlying 272 with|some (.array _ _)|some (.struct _)=>true|_=>false)=true:=by kernel_rfl
theorem law4:KeyLaw Tryz.prog 272:=deep_law_laid Tryz.laidOutAll (m:=2) (by omega) row4 (by kernel_rfl) wide4
theorem keyT4:Tryz.prog.keyType 272=true:=by kernel_rfl
theorem cells4:Tryz.prog.cellsOf 272=4:=by kernel_rfl
theorem cells5:Tryz.prog.cellsOf 5=1:=by kernel_rfl
theorem zeroS(w:World):(zeroValue 160).run Tryz.prog w=.ok (.slice none 0 0) w:=by kernel_rfl
theorem wf8(c:UInt8):(Lit.int .u8 (c.toNat:Int)).wf=true:=by
 have:=c.toNat_lt;have e1:IntKind.u8.min=0:=by decide
 have e2:IntKind.u8.max=255:=by decide
 simp[Lit.wf,e1,e2];omega
theorem key_some(q:List UInt8)(hq:q.length=4):∃kl,keyOf Tryz.prog 272 (keyV q)=some kl:=by
 match q,hq with
 | [a,b,c,d],_=>
  have hf:(keyV [a,b,c,d]).formed Tryz.prog 272=true:=by
   simp[keyV,Value.formed,Tryz.underlying272,cells4,bcells]
  obtain⟨n,hn⟩:∃n,Tryz.prog.types.size=n+1:=⟨Tryz.prog.types.size-1,(Nat.succ_pred_eq_of_pos (Nat.lt_of_le_of_lt (Nat.zero_le _) row4)).symm⟩;have hk:Tryz.prog.keyLits (Tryz.prog.types.size+1) 272 (keyV [a,b,c,d]).cells.toList=some [.int .u8 (a.toNat:Int),.int .u8 (b.toNat:Int),.int .u8 (c.toNat:Int),.int .u8 (d.toNat:Int)]:=by
   rw[hn];have e:(keyV [a,b,c,d]).cells.toList=[.int .u8 (a.toNat:Int),.int .u8 (b.toNat:Int),.int .u8 (c.toNat:Int),.int .u8 (d.toNat:Int)]:=rfl;rw[e];simp[Program.keyLits,Tryz.underlying272,Tryz.underlying5,cells4,cells5,List.range_succ,wf8]
  exact⟨_,by unfold keyOf;simp only[Tryz.underlying272,keyT4,hf,hk];rfl⟩
theorem keyV_inj{q q':List UInt8}(h:keyV q=keyV q'):q=q':=by
 unfold keyV at h;injection h with h
 have h2:bcells q=bcells q':=by simpa using h
 unfold bcells at h2;refine(List.map_inj_right (fun a b hab=>?_)).1 h2
 injection hab with _ hab
 exact UInt8.toNat_inj.1 (by omega)
theorem key_inj{q q':List UInt8}{kl:Lit}(h:keyOf Tryz.prog 272 (keyV q)=some kl)(h':keyOf Tryz.prog 272 (keyV q')=some kl):q=q':=keyV_inj (law4.inj h h')
def placesN(s:List UInt8)(q:List UInt8)(m:Nat):List Nat:=(List.range m).filter fun p=>decide (p+4≤s.length)&&decide (fourAt s p=q)
def placesI(s:List UInt8)(q:List UInt8)(m:Nat):List Int:=(placesN s q m).map Int.ofNat
def rowOf(zs:List Int):DataW Unit:=if zs=[]then .nil else .slice (lits .i64 zs) []
theorem places_yes(s:List UInt8)(m:Nat)(h:m+4≤s.length):placesI s (fourAt s m) (m+1)=placesI s (fourAt s m) m++[(m:Int)]:=by
 simp[placesI,placesN,List.range_succ,List.filter_append,h]
theorem places_other(s q:List UInt8)(m:Nat)(h:m+4≤s.length→fourAt s m≠q):placesI s q (m+1)=placesI s q m:=by
 by_cases h4:m+4≤s.length
 ·simp[placesI,placesN,List.range_succ,List.filter_append,h h4]
 ·simp[placesI,placesN,List.range_succ,List.filter_append,h4]
theorem places_len(s q:List UInt8)(m:Nat):(placesI s q m).length≤m:=by
 have:=List.length_filter_le (fun p=>decide (p+4≤s.length)&&decide (fourAt s p=q)) (List.range m)
 simpa[placesI,placesN]using this
def PMapAt(w:World)(base b m:Nat)(s:List UInt8)(No:Nat→Prop):Prop:=
 ∃(n:Nat) (D:DataW Unit),n≤m∧w.ownsGroups Tryz.prog 272 base 3 .i64 b n D∧w.Shuns b No∧
  ∀q kl,keyOf Tryz.prog 272 (keyV q)=some kl→D.atKey kl .nil=rowOf (placesI s q m)
theorem rowOf_inv{w:World}{base:Nat}{v:Value}{zs ys:List Int}(ho:w.ownsInts base 3 .i64 v zs)(h:rowOf ys=rowDatum .i64 v zs):zs=ys:=by
 unfold rowOf at h;rcases ho.datum (H:=Unit)with⟨h1,h2⟩|h1
 ·rw[h1]at h;split at h
  ·rename_i h0;rw[h0,h2]
  ·cases h
 ·rw[h1]at h;split at h
  ·cases h
  ·simp only[DataW.slice.injEq]at h;have:=h.1;unfold lits at this;refine((List.map_inj_right (fun a b hab=>?_)).1 this).symm
   simpa using hab
theorem pmap_made(w:World)(s:List UInt8)(No:Nat→Prop):PMapAt (w.alloc (.map #[] 0)) (w.heap.size+1) w.heap.size 0 s No:=by
 refine⟨0,_,Nat.le_refl _,World.ownsGroups_made _ _ _ _ _,World.Shuns_made _ _,fun q kl _=>?_⟩
 simp[rowOf,placesI,placesN,DataW.atKey]
theorem pmap_lt{w:World}{base b m:Nat}{s:List UInt8}{No:Nat→Prop}(h:PMapAt w base b m s No):b<w.heap.size∧b<base:=by
 obtain⟨n,D,_,⟨es,clock,hb,_,_,_,hbb,_⟩,_⟩:=h;exact⟨(Array.getElem?_eq_some_iff.1 hb).1,hbb⟩
theorem pmap_kept{w w':World}{base b m:Nat}{s:List UInt8}{No:Nat→Prop}{row:Option Nat}(h:PMapAt w base b m s No)(hg:w.grownBy w' row)(hr:∀j,row=some j→No j∧j≠b):PMapAt w' base b m s No:=by
 have hlt:=(pmap_lt h).1;obtain⟨n,D,hn,ho,hs,hd⟩:=h;have hb':some b≠row:=fun e=>(hr b e.symm).2 rfl
 exact⟨n,D,hn,ho.kept hg hb' (hs.rowsOff fun j hj=>(hr j hj).1),hs.kept hg hlt hb',hd⟩
theorem pmap_reno{w:World}{base b m:Nat}{s:List UInt8}{No No':Nat→Prop}(h:PMapAt w base b m s No)(hn:∀g,No' g→No g∨w.heap.size≤g):PMapAt w base b m s No':=by
 obtain⟨n,D,hnm,ho,hs,hd⟩:=h;exact⟨n,D,hnm,ho,hs.reno ho hn,hd⟩
theorem pmap_skip{w:World}{base b m:Nat}{s:List UInt8}{No:Nat→Prop}(h:PMapAt w base b m s No)(h4:¬m+4≤s.length):PMapAt w base b (m+1) s No:=by
 obtain⟨n,D,hn,ho,hs,hd⟩:=h;refine⟨n,D,by omega,ho,hs,fun q kl hk=>?_⟩
 rw[places_other s q m (fun h=>absurd h h4)]
 exact hd q kl hk
theorem pmap_look{w:World}{base b m:Nat}{s:List UInt8}{No:Nat→Prop}(h:PMapAt w base b m s No)(hm:m≤64)(q:List UInt8)(hq:q.length=4):
 ∃v:Value,(∀tt:Bool,tt=false→(Instr.lookup 238 (.map (some b)) (keyV q) tt).run Tryz.prog w=.ok v w)∧w.ownsInts base 3 .i64 v (placesI s q m):=by
 obtain⟨n,D,hn,ho,hs,hd⟩:=h;obtain⟨kl,hkl⟩:=key_some q hq;obtain⟨v,zs,hrun,hat,hoi,hzl,_⟩:=ho.at (Keyed.of_law law4) Tryz.underlying238 (zeroS w) (by unfold maxLen;omega) hkl
 rw[hd q kl hkl]at hat;have:=rowOf_inv hoi hat;subst this;exact⟨v,fun tt htt=>by subst htt;exact hrun,hoi⟩
theorem pmap_note{w:World}{base b m:Nat}{s:List UInt8}{No:Nat→Prop}(h:PMapAt w base b m s No)(hm:m<64)(h4:m+4≤s.length):
 ∃(v:Value) (st:Nat) (w1:World),(Instr.mapEntry 238 (.map (some b)) (keyV (fourAt s m))).run Tryz.prog w=.ok (.tuple #[v,.int .i64 st]) w1∧w.grownBy w1 (some b)∧w1.heap.size=w.heap.size∧
  w1.ownsInts base 3 .i64 v (placesI s (fourAt s m) m)∧(∀g,v.ownBlock=some g→¬No g)∧
  ∀(w2:World) (v':Value),w1.grownBy w2 v.ownBlock→w2.ownsInts base 3 .i64 v' (placesI s (fourAt s m) m++[(m:Int)])→(v'.ownBlock=v.ownBlock∨∃g,v'.ownBlock=some g∧w1.heap.size≤g∧¬No g)→
   ∃w3,(Instr.entryStore 238 (.map (some b)) (.int .i64 st) v').run Tryz.prog w2=.ok () w3∧PMapAt w3 base b (m+1) s No∧w2.grownBy w3 (some b):=by
 obtain⟨n,D,hn,ho,hs,hd⟩:=h;obtain⟨kl,hkl⟩:=key_some (fourAt s m) (fourAt_len _ _);have hIs:IsMap D:=by
  obtain⟨es,clock,_,_,_,rfl,_⟩:=ho;exact⟨_,rfl⟩
 obtain⟨v,zs,st,w1,hrun,hat,hoi,hzl,hg,hsz,hvn,hback⟩:=entry_groups ho law4 Tryz.underlying238 zeroS (by unfold maxLen;omega) hkl hs
 rw[hd _ kl hkl]at hat;have:=rowOf_inv hoi hat;subst this;refine⟨v,st,w1,hrun,hg,hsz,hoi,hvn,fun w2 v' hg2 ho2 hloc=>?_⟩
 obtain⟨w3,hst,ho3,hg3,hs3⟩:=hback w2 v' _ hg2 ho2 (by have:=hzl;simp;omega) (hloc.imp id (fun⟨g,a,b,_⟩=>⟨g,a,b⟩)) (fun g hg4=>by
  rcases hloc with e1|⟨g',e1,_,e2⟩
  ·exact hvn g (e1▸hg4)
  ·rw[e1]at hg4;cases hg4;exact e2)
 refine⟨w3,hst,⟨n+1,_,by omega,ho3,hs3,fun q kl' hk'=>?_⟩,hg3⟩
 by_cases hqq:fourAt s m=q
 ·subst hqq;have:kl'=kl:=by rw[hkl]at hk';simpa using hk'.symm
  subst this;rw[atKey_put_same hIs ((Keyed.of_law law4).key hk'),places_yes s m h4,ho2.datum_pos (by simp)]
  unfold rowOf;rw[if_neg (by simp)]
 ·have hne:kl'≠kl:=fun e=>hqq (key_inj hkl (e▸hk'))
  rw[atKey_put_other hne,places_other s q m (fun _=>hqq)]
  exact hd q kl' hk'
end Go.Proofs.YtiicghepilbgfaaGreatDoor
namespace Go.Proofs.YtiicghepilbgfaaGreatDoor
open Go.RowKit
theorem note_prep {w5 w6:World} {base b k:Nat} {s q:List UInt8} {No:Nat→Prop} (hq:q.length=4) (h:PMapAt w5 base b k s No)
 (e:w6=(w5.alloc (.cells #[Value.int .u8 0,Value.int .u8 0,Value.int .u8 0,Value.int .u8 0] 272)).setCells w5.heap.size 0 (bcells q)):
 BytesAt w6 w5.heap.size q∧PMapAt w6 base b k s No∧Below w5.heap.size w5 w6∧w6.heap.size=w5.heap.size+1:=by
 have hv:=bytes_made w5 [0,0,0,0] #[Value.int .u8 0,Value.int .u8 0,Value.int .u8 0,Value.int .u8 0] 272 rfl;have h1:=hv.store q (by rw[hq];rfl)
 have h2:Below w5.heap.size w5 w6:=by
  rw[e];exact below_cells (Nat.le_refl _) _ _ _ ((Below.refl _ _).alloc (Nat.le_refl _) _)
 rw[←e]at h1;exact⟨h1,pmap_kept h (grown_old h2 none) (fun j hj=>by cases hj),h2,by rw[e,setCells_size];simp⟩
theorem note_entry {w w5 w6:World} {base b k:Nat} {s:List UInt8} {No:Nat→Prop} (hk:k<64) (h4:k+4≤s.length) (h:PMapAt w5 base b k s No) (hsz:w.heap.size≤w5.heap.size)
 (hK5:Kept2 w w5 (fun i=>i≠b∧(i<base∨No i))) (hN:∀g,No g→g<w.heap.size)
 (e:w6=(w5.alloc (.cells #[Value.int .u8 0,Value.int .u8 0,Value.int .u8 0,Value.int .u8 0] 272)).setCells w5.heap.size 0 (bcells (fourAt s k))):
 Hid (BytesAt w6 w5.heap.size (fourAt s k))∧w.heap.size≤w6.heap.size∧∃(v:Value) (st:Nat) (w8:World),(Instr.mapEntry 238 (.map (some b)) (keyV (fourAt s k))).run Tryz.prog (w6.alloc (.cells #[Value.int .i64 (k:Int)] 3))=.ok (.tuple #[v,.int .i64 st]) w8∧
  w.heap.size≤w8.heap.size∧Hid (∀j u,[Value.int .i64 (k:Int)][j]?=some u→w8.cell? ((⟨w6.heap.size,0,none⟩:Addr).add j)=some u)∧Hid (w8.ownsInts base 3 .i64 v (placesI s (fourAt s k) k))∧
  Hid (∀(w9:World) (v':Value),w8.grownBy w9 v.ownBlock→w9.ownsInts base 3 .i64 v' (placesI s (fourAt s k) k++[(k:Int)])→(v'.ownBlock=v.ownBlock∨v'.ownBlock=some w8.heap.size)→
   ∃w10,(Instr.entryStore 238 (.map (some b)) (.int .i64 st) v').run Tryz.prog w9=.ok () w10∧Hid (PMapAt w10 base b (k+1) s No)∧Hid (Kept2 w w10 (fun i=>i≠b∧(i<base∨No i)))):=by
 obtain⟨hy6,hm6,hb6,hsz6⟩:=note_prep (fourAt_len _ _) h e;have hm7:=pmap_kept (w':=w6.alloc (.cells #[Value.int .i64 (k:Int)] 3)) hm6 (World.grownBy_alloc _ _ none) (fun j hj=>by cases hj)
 obtain⟨v,st,w8,hent,hg8,hsz8,hoi,hvn,hback⟩:=pmap_note hm7 hk h4;have hsz7:(w6.alloc (.cells #[Value.int .i64 (k:Int)] 3)).heap.size=w6.heap.size+1:=by simp
 have hblt:=(pmap_lt hm6).1;refine⟨hy6,by omega,v,st,w8,hent,by omega,fun j u hj=>hg8.cell (cell_one_new _ _ _ j u hj) (by rw[addr_at];intro e1;have e2:w6.heap.size=b:=(by simpa using e1);omega),hoi,fun w9 v' hgrow ho9 hloc=>?_⟩
 obtain⟨w10,hst,hm10,hg10⟩:=hback w9 v' hgrow ho9 (hloc.imp id (fun h=>⟨_,h,Nat.le_refl _,fun hno=>by have:=hN _ hno;omega⟩))
 refine⟨w10,hst,hm10,?_⟩;refine hK5.trans ((Kept2.below hb6).trans ((Kept2.grown (World.grownBy_alloc w6 (.cells #[Value.int .i64 (k:Int)] 3) none) (fun j hj=>by cases hj)).trans ((Kept2.grown hg8 (fun j hj hok=>by cases hj;exact hok.1 rfl)).trans ((Kept2.grown hgrow (fun j hj hok=>?_)).trans (Kept2.grown hg10 (fun j hj hok=>by cases hj;exact hok.1 rfl))))))
 have h1:=(hoi.1.lt j hj).1;rcases hok.2 with h2|h2
 ·omega
 ·exact hvn j hj h2
theorem note_any(s:ByteArray)(b base k1 k2:Nat)(w:World)(No:Nat→Prop)(hs:s.size≤64)(h12:k1≤k2)(h2:k2≤s.size)(hN:∀g,No g→g<w.heap.size)(hB:base≤w.heap.size)(hp:PMapAt w base b k1 s.data.toList No):
 Calls Tryz.prog 160 #[.map (some b),.string s,.int .i64 k1,.int .i64 k2] w fun e w'=>e=.returned (.tuple #[])∧PMapAt w' base b k2 s.data.toList No∧Kept2 w w' (fun i=>i≠b∧(i<base∨No i)):=by
 have hl:s.data.toList.length=s.size:=by simp
 obtain⟨i0,hi,hz0,hz1,hz2⟩:=info_parts infoInt;have HP:=hide hp;have HN:=hide hN;clear hp hN;go_enter Tryz.func160,Tryz.ntmps160;go_wp2;go_loopw [8] (fun iv wr=>∃k:Nat,k1≤k∧k≤k2∧iv=.int .i64 k∧Hid (PMapAt wr base b k s.data.toList No)∧Hid (Kept2 w wr (fun i=>i≠b∧(i<base∨No i)))) (fun iv _=>k2-(intOf iv).toNat)
 case atStart=>exact⟨k1,Nat.le_refl _,h12,rfl,HP,Kept2.refl _ _⟩
 case round=>
  obtain⟨k,hk1,hk2,rfl,HM,HK⟩:=hrel;have hsz:=HK.out.2.2.2.1;by_cases hlt:(k:Int)<k2
  ·go_wp2_with fail;refine(start_any s k _ hs (by omega)).mono ?_
   rintro e w5 ⟨rfl,hb5⟩;have HM5:=hide (pmap_kept HM.out (grown_old hb5 none) (fun j hj=>by cases hj))
   have HK5:=hide (HK.out.trans (Kept2.below hb5));have hsz5:=hb5.size;clear HM HK hb5;have hv:=hide (bytes_made w5 [0,0,0,0] #[Value.int .u8 0,Value.int .u8 0,Value.int .u8 0,Value.int .u8 0] 272 rfl);by_cases h4:k+4≤s.size
   ·rw[decide_eq_true h4];go_wp2_with (first
     |(refine wpList_store_key rfl _ _ rfl w5.heap.size _ [0,0,0,0] rfl rfl hv.out (fourAt_len _ _) rfl ?_
       intro w6 hw6;obtain⟨HY,hsz6,v,st,w8,hent,hge,HC,HOI,HBK⟩:=note_entry (w:=w) (by omega) (by rw[hl];exact h4) HM5.out (by omega) HK5.out HN.out hw6
       clear hw6 HM5 HK5)
     |refine wpList_load_key rfl _ rfl _ rfl _ HY.out (fourAt_len _ _) ?_
     |(at_builtin
       refine wpList_append_own_at _ rfl _ _ 160 rfl base 3 i0 (.int .i64 0) 1 8 Tryz.underlying160 hi hz0 hz1 hz2 rfl (by decide) _ _ _ rfl HOI.out.1 ⟨w6.heap.size,0,none⟩ 1 1 [.int .i64 (k:Int)] rfl rfl HC.out (one_i64 _) (by have:=places_len s.data.toList (fourAt s.data.toList k) k;unfold maxLen;omega) (by have:=places_len s.data.toList (fourAt s.data.toList k) k;omega) (by omega) ?_
       intro v' w9 hown' hgrow hnil hloc;obtain⟨w10,hst,HM10,HK10⟩:=HBK.out w9 v' hgrow (HOI.out.appended hown' (WalkArith.wf_i64 (by omega))) hloc
       clear hown' hgrow hnil hloc HBK HOI)
     |go_in)
    go_roundw
    case rel=>exact⟨k+1,by omega,by omega,by go_num,HM10,HK10⟩
    case measure=>simp[intOf];omega
   ·rw[decide_eq_false h4];go_wp2_with (first
     |(refine wpList_store_key rfl _ _ rfl w5.heap.size _ [0,0,0,0] rfl rfl hv.out (fourAt_len _ _) rfl ?_
       intro w6 hw6;obtain⟨-,hm6,hb6,hsz6⟩:=note_prep (fourAt_len _ _) HM5.out hw6;have HM6:=hide hm6;have HK6:=hide (HK5.out.trans (Kept2.below hb6));clear hw6 hm6 hb6 HM5 HK5)
     |go_in)
    go_roundw
    case rel=>exact⟨k+1,by omega,by omega,by go_num,pmap_skip HM6.out (by rw[hl];exact h4),HK6⟩
    case measure=>simp[intOf];omega
  ·have:k=k2:=by omega
   subst this;go_wp2;exact bodyPost_end (results_none rfl _ _ _) rfl ⟨rfl,HM.out,HK.out⟩
end Go.Proofs.YtiicghepilbgfaaGreatDoor
namespace Go.Proofs.YtiicghepilbgfaaGreatDoor
open Go.RowKit
open Pack
theorem clone_anyW(s:ByteArray)(w:World)(hs:s.size≤281474976710656):
 Calls Tryz.prog 147 #[.string s] w fun e w'=>e=.returned (.string s)∧Below w.heap.size w w':=by
 go_enter Tryz.func147,Tryz.ntmps147;go_wp2_with fail;refine(Tryz.stringslite_Clone _ _ hs).mono ?_;rintro e w' ⟨rfl,hb⟩;go_wp2;go_ret;exact⟨rfl,hb⟩
def WRow(w:World)(base:Nat)(v:Value)(e:Ending)(w':World)(l:List (Nat×Nat×List UInt8)):Prop:=
 ∃v':Value,e=.returned v'∧w'.ownsRow base 198 3 v' l.length (tcells l)∧w.grownBy w' v.ownBlock∧(v'.ownBlock=v.ownBlock∨∃g,v'.ownBlock=some g∧w.heap.size≤g)
theorem own_slice0{w:World}{base n:Nat}{e:TypeId}{size:Nat}{v:Value}{xs:List Value}(h:w.ownsRow base e size v n xs):∃(ao:Option Addr) (cap:Nat),v=.slice ao n cap:=by
 rcases h.2 with⟨rfl,rfl⟩|⟨g,cap,cur,rfl,-⟩
 ·exact⟨_,_,rfl⟩
 ·exact⟨_,_,rfl⟩
theorem with_new (v:Value) (l:List (Nat×Nat×List UInt8)) (c:UInt8) (u:ByteArray) (base:Nat) (w:World) (hu:u=⟨[c].toArray⟩) (hl:l.length≤100) (hB:base≤w.heap.size) (hown:w.ownsRow base 198 3 v l.length (tcells l))
 (hn:l=[]∨∃l' b z t,l=l'++[(b,z,t)]∧(0<b∨(b=0∧t.length=31))):
 Calls Tryz.prog 159 #[v,.string u] w fun e w'=>WRow w base v e w' (l++[(0,0,[c])]):=by
 obtain⟨i0,hi,hz0,hz1,hz2⟩:=info_parts infoTok;have hus:u.size≤281474976710656:=by rw[hu];show 1≤_;omega
 have HU:=hide hu;have HO:=hide hown;obtain⟨ao,cap,rfl⟩:=own_slice0 hown;clear hu hown;have fin:∀w1,Below w.heap.size w w1→Hid (w1.ownsRow base 198 3 (.slice ao l.length cap) l.length (tcells l)):=fun w1 hb=>own_below HO.out hb
 have HF:=hide fin;clear fin;have hres:∀(w1 w2:World) (v':Value),Below w.heap.size w w1→w2.ownsRow base 198 3 v' (l.length+1) (tcells l++[.int .i64 0,.int .i64 0,.string u])→(w1.alloc (.cells #[.int .i64 0,.int .i64 0,.string u] 198)).grownBy w2 (Value.slice ao l.length cap).ownBlock→
  (v'.ownBlock=(Value.slice ao l.length cap).ownBlock∨v'.ownBlock=some (w1.heap.size+1))→Hid (WRow w base (.slice ao l.length cap) (.returned v') w2 (l++[(0,0,[c])])):=by
  intro w1 w2 v' hb ho hg hloc;have hs:=hb.size;refine⟨v',rfl,?_,(grown_old hb _).trans ((World.grownBy_alloc w1 _ _).trans hg),hloc.imp id (fun h=>⟨_,h,by omega⟩)⟩
  rw[←tcells_snoc,List.length_append];rw[HU.out]at ho;exact ho
 have HR:=hide hres;clear hres;go_enter Tryz.func159,Tryz.ntmps159;rcases hn with rfl|⟨l',b,z,t,hl',hbt⟩
 ·go_wp2_with fail;refine(clone_anyW u _ hus).mono ?_;rintro e w1 ⟨rfl,hb1⟩;have HO1:=hide (HF.out w1 hb1).out;have HB1:=hide hb1;have hs1:=hb1.size;clear hb1;go_wp2_with (at_builtin;refine wpList_append_own_at _ rfl _ _ 171 rfl base 198 i0 (.agg #[.int .i64 0,.int .i64 0,.string ⟨#[]⟩]) 3 32 Tryz.underlying171 hi hz0 hz1 hz2 rfl (by decide) _ _ _ rfl (by exact HO1.out.alloc _) ⟨w1.heap.size,0,none⟩ 1 1 [Value.int .i64 0,Value.int .i64 0,Value.string u] rfl rfl (by exact three_new _ _ _ _ _) (tok3_one _ _ _) (by unfold maxLen;omega) (by omega) (by simp;omega) ?_)
  intro v' w2 hown2 hgrow _ hloc;have HX:=HR.out w1 w2 v' HB1.out hown2 hgrow hloc;clear hown2 hgrow hloc HO1 HB1;go_wp2;go_ret;exact HX.out
 ·have hlen:l.length=l'.length+1:=by rw[hl'];simp
  obtain⟨gq,capq,hv⟩:=own_slice3 HO.out (by omega)
  obtain⟨rfl,rfl⟩:ao=some ⟨gq,0,none⟩∧cap=capq:=by
   injection hv with a b c
   exact⟨a,c⟩
  have hat:l[l'.length]?=some (b,z,t):=by rw[hl'];simp
  obtain⟨k1,k2,k3⟩:=tcells_at l l'.length (b,z,t) hat;have c1:=HO.out.cells (g:=gq) rfl _ _ k1;have c3:=HO.out.cells (g:=gq) rfl _ _ k3;rw[addr_at,Nat.mul_comm]at c1 c3;obtain⟨N,hN⟩:∃N,N=l'.length:=⟨_,rfl⟩;rw[←hN]at c1 c3 hlen;obtain⟨tt,htt⟩:∃tt:ByteArray,tt=⟨t.toArray⟩:=⟨_,rfl⟩;have hts:tt.size=t.length:=by rw[htt];show t.toArray.size=_;simp
  rw[←htt]at c3;simp only at c1;rw[hlen]at HF HR HO⊢;have hN100:N+1≤100:=by omega
  have n0:(0:Int)≤N:=by omega
  clear hat k1 k2 k3 hv hl hlen hN hl' htt;rcases hbt with hb|⟨rfl,ht⟩
  ·have hb0:(0:Int)<b:=by omega
   clear c3 hts;go_wp2_with fail;refine(clone_anyW u _ hus).mono ?_;rintro e w1 ⟨rfl,hb1⟩;have HO1:=hide (HF.out w1 hb1).out;have HB1:=hide hb1;have hs1:=hb1.size;clear hb1;go_wp2_with (at_builtin;refine wpList_append_own_at _ rfl _ _ 171 rfl base 198 i0 (.agg #[.int .i64 0,.int .i64 0,.string ⟨#[]⟩]) 3 32 Tryz.underlying171 hi hz0 hz1 hz2 rfl (by decide) _ (N+1) (tcells l) rfl (by exact HO1.out.alloc _) ⟨w1.heap.size,0,none⟩ 1 1 [Value.int .i64 0,Value.int .i64 0,Value.string u] rfl rfl (by exact three_new _ _ _ _ _) (tok3_one _ _ _) (by unfold maxLen;omega) (by omega) (by simp;omega) ?_)
   intro v' w2 hown2 hgrow _ hloc;have HX:=HR.out w1 w2 v' HB1.out hown2 hgrow hloc;clear hown2 hgrow hloc HO1 HB1;go_wp2;go_ret;exact HX.out
  ·have e31:((tt.size:Int)==31)=true:=by rw[hts,ht];rfl
   clear hts;go_wp2_with fail;refine(clone_anyW u _ hus).mono ?_;rintro e w1 ⟨rfl,hb1⟩;have HO1:=hide (HF.out w1 hb1).out;have HB1:=hide hb1;have hs1:=hb1.size;clear hb1;go_wp2_with (at_builtin;refine wpList_append_own_at _ rfl _ _ 171 rfl base 198 i0 (.agg #[.int .i64 0,.int .i64 0,.string ⟨#[]⟩]) 3 32 Tryz.underlying171 hi hz0 hz1 hz2 rfl (by decide) _ (N+1) (tcells l) rfl (by exact HO1.out.alloc _) ⟨w1.heap.size,0,none⟩ 1 1 [Value.int .i64 0,Value.int .i64 0,Value.string u] rfl rfl (by exact three_new _ _ _ _ _) (tok3_one _ _ _) (by unfold maxLen;omega) (by omega) (by simp;omega) ?_)
   intro v' w2 hown2 hgrow _ hloc;have HX:=HR.out w1 w2 v' HB1.out hown2 hgrow hloc;clear hown2 hgrow hloc HO1 HB1;go_wp2;go_ret;exact HX.out
theorem with_more (v:Value) (l':List (Nat×Nat×List UInt8)) (z:Nat) (t:List UInt8) (c:UInt8) (u:ByteArray) (base:Nat) (w:World) (hu:u=⟨[c].toArray⟩) (hl:l'.length≤100) (ht:t.length<31)
 (hown:w.ownsRow base 198 3 v (l'++[(0,z,t)]).length (tcells (l'++[(0,z,t)]))):
 Calls Tryz.prog 159 #[v,.string u] w fun e w'=>WRow w base v e w' (l'++[(0,z,t++[c])]):=by
 have HU:=hide hu;have HO:=hide hown;have hlen:(l'++[((0:Nat),z,t)]).length=l'.length+1:=by simp
 obtain⟨gq,capq,rfl⟩:=own_slice3 hown (by omega)
 clear hu hown;have hat:(l'++[((0:Nat),z,t)])[l'.length]?=some (0,z,t):=by simp
 obtain⟨k1,k2,k3⟩:=tcells_at _ l'.length (0,z,t) hat;have c1:=HO.out.cells (g:=gq) rfl _ _ k1;have c3:=HO.out.cells (g:=gq) rfl _ _ k3;rw[addr_at,Nat.mul_comm]at c1 c3;have f3:=HO.out.frozenAt (l'.length*3+2);obtain⟨x,hx⟩:∃x:ByteArray,x=⟨(t++[c]).toArray⟩:=⟨_,rfl⟩;have HO8:=own_set HO.out rfl (l'.length*3+2) (.string x);rw[hx,show l'.length*3+2=3*l'.length+2 by omega,tcells_text,←hx]at HO8
 rw[show 3*l'.length+2=l'.length*3+2 by omega]at HO8
 obtain⟨tt,htt⟩:∃tt:ByteArray,tt=⟨t.toArray⟩:=⟨_,rfl⟩;have hts:tt.size=t.length:=by rw[htt];show t.toArray.size=_;simp
 have h31:((tt.size:Int)==31)=false:=by rw[beq_eq_false_iff_ne,hts];omega
 have hts2:tt.size<31:=by omega
 rw[←htt]at c3;have hxx:tt++u=x:=by
  rw[htt,HU.out,hx];apply ByteArray.ext;simp[ByteArray.data_append]
 have hus:u.size=1:=by rw[HU.out];rfl
 have hadd:∀W,(Go.Op.stringOp .add tt u).run Tryz.prog W=.ok (.string x) W:=by
  intro W;unfold Go.Op.stringOp;simp only[];rw[if_neg (by show¬_>(9223372036854775807:Int);omega),hxx]
  rfl
 have hgb:w.grownBy (w.setCell ⟨gq,l'.length*3+2,none⟩ (.string x)) (some gq):=⟨rfl,rfl,rfl,by simp[World.setCell],fun k _ hk=>Below.heap_setCell _ _ _ _ (fun e=>hk (by rw[e]))⟩
 have HX:Hid (WRow w base (.slice (some ⟨gq,0,none⟩) (l'.length+1) capq) (.returned (.slice (some ⟨gq,0,none⟩) (l'.length+1) capq)) (w.setCell ⟨gq,l'.length*3+2,none⟩ (.string x)) (l'++[(0,z,t++[c])])):=by
  refine⟨_,rfl,?_,hgb,Or.inl rfl⟩;rw[hlen]at HO8;have:(l'++[((0:Nat),z,t++[c])]).length=l'.length+1:=by simp
  rw[this];exact HO8
 rw[hlen];obtain⟨N,hN⟩:∃N,N=l'.length:=⟨_,rfl⟩;rw[←hN]at c1 c3 f3 HX hl⊢;simp only at c1;have n0:(0:Int)≤N:=by omega
 clear hat k1 k2 k3 hlen HO8 hx htt hxx hN HO hgb hts hts2 hus ht;go_enter Tryz.func159,Tryz.ntmps159;go_wp2;go_ret;exact HX.out
end Go.Proofs.YtiicghepilbgfaaGreatDoor
