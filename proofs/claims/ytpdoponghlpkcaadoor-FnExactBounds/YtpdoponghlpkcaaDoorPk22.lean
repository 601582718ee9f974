/-
  IBlank; IRoom
-/
import Derived.Test.YtpdoponghlpkcaaDoorPk4
import Derived.Test.YtpdoponghlpkcaaDoorPk5
set_option maxHeartbeats 400000
set_option maxRecDepth 100000
namespace Go.Proofs.YtpdoponghlpkcaaDoor
open Go.RowKit
theorem iblank_any(g o:Nat)(v:Value)(ls:List (Int×ByteArray))(B:Nat)(w:World)(hl:ls.length≤1048576)(hc:w.cell? ⟨g,o+2,none⟩=some v)(ha:w.ownsRow B 66 2 v ls.length (lcells ls)):
 Calls Tryd.prog 29 #[.pointer (some ⟨g,o,none⟩)] w fun e w'=>e=.returned (.int .i64 (blanks ls:Nat))∧w'=w:=by
 obtain⟨ad,capa,rfl,a1,a2,a3⟩:=frow_form ha;unfold maxLen at a2;have A3:=hide a3;have HA:=hide ha;clear a3 ha;go_enter Tryd.func29,Tryd.ntmps29;go_wp2;go_loop [3,10] (fun cv iv=>∃k m:Nat,k≤ls.length∧m≤k∧iv=.int .i64 k∧cv=.int .i64 m∧Hid (blanks (ls.take k)=m)) (fun _ iv=>ls.length-(intOf iv).toNat)
 case atStart=>exact⟨0,0,Nat.zero_le _,Nat.zero_le _,rfl,rfl,rfl⟩
 case round=>
  obtain⟨k,m,hk,hm,rfl,rfl,HM⟩:=hrel;by_cases hlt:(k:Int)<ls.length
  ·obtain⟨gl,rfl,_,hg⟩:=A3.out (by omega)
   have hkl:k<ls.length:=by omega
   obtain⟨z,t,ht⟩:∃z t,ls[k]?=some (z,t):=⟨ls[k].1,ls[k].2,List.getElem?_eq_getElem hkl⟩;obtain⟨c1,-⟩:=lown_cells HA.out ht;simp only at c1;have HT:=hide (blanks_take ht);have k0:(0:Int)≤k:=by omega
   clear ht;by_cases hz:z=0
   ·subst hz;go_wp2;go_round
    case rel=>exact⟨k+1,m+1,by omega,by omega,by go_num,by go_num,(by have:=HT.out;have:=HM.out;simp at*;omega:blanks (ls.take (k+1))=m+1)⟩
    case measure=>simp[intOf];omega
   ·have hz2:(z==0)=false:=by simpa using hz
    have HM2:Hid (blanks (ls.take (k+1))=m):=by
     show _=_;rw[HT.out,HM.out,if_neg hz];rfl
    go_wp2;go_round
    case rel=>exact⟨k+1,m,by omega,by omega,by go_num,rfl,HM2⟩
    case measure=>simp[intOf];omega
  ·have HE:Hid (blanks ls=m):=by
    show _=_;rw[←HM.out,List.take_of_length_le (by omega)]
   go_wp2;go_ret;exact⟨by rw[HE.out];rfl,rfl⟩
theorem iroom_any(v:Value)(rs:List Rw)(lo hi:Nat)(w:World)(hl:rs.length≤1048576)(hll:∀r∈rs,r.2.2.2.length≤1048576)(hh:hi≤w.heap.size)(ha:FlashIn w lo hi v rs):
 Calls Tryd.prog 17 #[.agg #[v]] w fun e w'=>e=.returned (.int .i64 (roomF (rs.map tellOf):Nat))∧Below w.heap.size w w':=by
 obtain⟨vd,vcap,rfl,-,-,a3⟩:=frow_form ha.1;have HLL:=hide hll;have A3:=hide a3;obtain⟨n,hn⟩:∃n,rs.length=n:=⟨_,rfl⟩;have HN:=hide hn;have HB:=hide ((Below.refl w.heap.size w).alloc (Nat.le_refl _) (.cells #[.slice vd n vcap] 37));have HF2:=hide ha;rw[hn]at hl HF2⊢;have R0:=hide (heap_alloc_new w (.cells #[.slice vd n vcap] 37));have HH:=hide hh;have HRm:=hide (fun k=>roomTo_le (bs:=rs.map tellOf) (m:=1048576) (fun q hq=>by obtain⟨r,hr,rfl⟩:=List.mem_map.1 hq;exact hll r hr) k)
 clear ha hll a3 hn;go_enter Tryd.func17,Tryd.ntmps17;go_wp2;have HF:=hide (HF2.out.below HB.out HH.out);clear HF2;generalize w.alloc (.cells #[.slice vd n vcap] 37)=wA at HB HF R0⊢;have cf:wA.cell? ⟨w.heap.size,0,none⟩=some (.slice vd n vcap):=cell_of_row _ _ 0 _ _ _ R0.out;go_loop [3,9] (fun mv bv=>∃b m:Nat,bv=.int .i64 b∧mv=.int .i64 m∧b≤n∧Hid (roomTo (rs.map tellOf) b=m)) (fun _ bv=>n-(intOf bv).toNat)
 case atStart=>exact⟨0,0,rfl,rfl,Nat.zero_le _,rfl⟩
 case round=>
  obtain⟨b,m,rfl,rfl,r1,HM⟩:=hrel;by_cases hlt:(b:Int)<n
  ·have hbl:b<rs.length:=by have:=HN.out;omega
   obtain⟨r,hr⟩:∃r,rs[b]?=some r:=⟨_,List.getElem?_eq_getElem hbl⟩;obtain⟨gv,e,-,-⟩:=A3.out (by omega)
   subst e;have hrow:=HF.out.1;rw[HN.out]at hrow;have hrc:(rs.map cellOf)[b]?=some (cellOf r):=by rw[List.getElem?_map,hr];rfl
   have hrt:(rs.map tellOf)[b]?=some (tellOf r):=by rw[List.getElem?_map,hr];rfl
   obtain⟨c1,c2,c3⟩:=kown_cells hrow hrc;have hlf:=(HF.out.2.2.1 r (List.mem_of_getElem? hr)).1;have hml:=HLL.out r (List.mem_of_getElem? hr);obtain⟨x,y,u,ls⟩:=r;simp only[cellOf]at c1 c2 c3;simp only at hlf hml;have b0:(0:Int)≤b:=by omega
   cases x with
   |true=>
    have NL:Hid (roomTo (rs.map tellOf) (b+1)=m):=by show _=_;rw[roomTo_no hrt rfl];exact HM.out
    clear hrow hrc hrt hlf hml hr hbl c2 c3;go_wp2;go_round
    case rel=>exact⟨b+1,m,by go_num,rfl,by omega,NL⟩
    case measure=>simp[intOf];omega
   |false=>
    have C:=hide (iblank_any gv (b*3) u ls lo wA hml c3 hlf);have NL:Hid (roomTo (rs.map tellOf) (b+1)=m+blanks ls):=by show _=_;rw[roomTo_yes hrt rfl,HM.out];rfl
    have hm:m≤1048576*1048576:=by have h1:=HRm.out b;rw[HM.out]at h1;exact Nat.le_trans h1 (Nat.mul_le_mul_right _ (by omega))
    have hbk:blanks ls≤1048576:=Nat.le_trans (blanks_le ls) hml;generalize blanks ls=q at C NL hbk;clear hrow hrc hrt hlf hml hr hbl c2 c3;go_wp2_with fail;refine C.out.mono ?_;rintro e w2 ⟨rfl,rfl⟩;clear C;go_wp2;go_round
    case rel=>exact⟨b+1,m+q,by go_num,by go_num,by omega,NL⟩
    case measure=>simp[intOf];omega
  ·have PF:Hid (roomF (rs.map tellOf)=m):=by
    show _=_;unfold roomF;rw[List.length_map,←HM.out];congr 1;have:=HN.out;omega
   clear HM;go_wp2;go_ret;exact⟨by rw[PF.out];rfl,HB.out⟩
end Go.Proofs.YtpdoponghlpkcaaDoor
