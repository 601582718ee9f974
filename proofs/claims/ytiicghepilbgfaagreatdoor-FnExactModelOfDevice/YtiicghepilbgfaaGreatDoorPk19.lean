/-
  SPageOk; SSeal; SByte; SPText
-/
import Derived.Test.YtiicghepilbgfaaGreatDoorPk14
import Derived.Test.YtiicghepilbgfaaGreatDoorPk9
import Derived.Test.YtiicghepilbgfaaGreatDoorPk15
import Derived.Test.YtiicghepilbgfaaGreatDoorPk0
import Derived.Test.YtiicghepilbgfaaGreatDoorPk7
import Derived.Test.YtiicghepilbgfaaGreatDoorPk18
import Derived.Deep.RegionHeld3
set_option maxHeartbeats 1000000
set_option maxRecDepth 100000
namespace Go.Proofs.YtiicghepilbgfaaGreatDoor
open Go.RowKit
open Words
theorem right_spec(k s x q c:Int)(t:ByteArray):(Pg.mk k s x q c t).Right↔(1≤k∧k≤2)∧(1≤s∧s≤1000000000)∧(1≤x∧x≤1000000000)∧(1≤c∧c≤9)∧(0≤q∧q≤c-1)∧(t.size:Int)≤90∧(k=2∨c=1):=by
 unfold Pg.Right;simp only;omega
theorem cell_new6(w w1:World)(a b c d e f:Value)(ty:TypeId)(hb:Below (w.alloc (.cells #[a,b,c,d,e,f] ty)).heap.size (w.alloc (.cells #[a,b,c,d,e,f] ty)) w1):
 w1.cell? ⟨w.heap.size,0,none⟩=some a∧w1.cell? ⟨w.heap.size,1,none⟩=some b∧w1.cell? ⟨w.heap.size,2,none⟩=some c∧w1.cell? ⟨w.heap.size,3,none⟩=some d∧w1.cell? ⟨w.heap.size,4,none⟩=some e∧w1.cell? ⟨w.heap.size,5,none⟩=some f:=by
 refine⟨?_,?_,?_,?_,?_,?_⟩<;>(rw[hb.cell (by simp)];simp)
theorem spageOk(p:Pg)(w:World):
 Calls Tryz.prog 95 #[pgVal p] w fun e w'=>e=.returned (.bool (@decide p.Right p.decR))∧Below w.heap.size w w':=by
 obtain⟨k,s,x,q,c,t⟩:=p;have HE:=hide (right_spec k s x q c t);have HB:=hide ((Below.refl w.heap.size w).alloc (Nat.le_refl _) (.cells #[.int .i64 k,.int .i64 s,.int .i64 x,.int .i64 q,.int .i64 c,.string t] 102));unfold pgVal;simp only;by_cases a1:1≤k∧k≤2
 ·by_cases a2:1≤s∧s≤1000000000
  ·by_cases a3:1≤x∧x≤1000000000
   ·by_cases a4:1≤c∧c≤9
    ·have ew:IntKind.i64.wrap (c-1)=c-1:=by rw[IntKind.wrap_i64];omega
     by_cases a5:0≤q∧q≤c-1
     ·by_cases a6:90<(t.size:Int)
      ·go_enter Tryz.func95,Tryz.ntmps95;go_wp2_with fail;refine(sin_b k 1 2 true _ (.inl ⟨a1.1,a1.2,rfl⟩)).mono ?_;rintro e w1 ⟨rfl,rfl⟩;go_wp2_with fail;refine(sin_b s 1 1000000000 true _ (.inl ⟨a2.1,a2.2,rfl⟩)).mono ?_;rintro e w1 ⟨rfl,rfl⟩;go_wp2_with fail;refine(sin_b x 1 1000000000 true _ (.inl ⟨a3.1,a3.2,rfl⟩)).mono ?_;rintro e w1 ⟨rfl,rfl⟩;go_wp2_with fail;refine(sin_b c 1 9 true _ (.inl ⟨a4.1,a4.2,rfl⟩)).mono ?_;rintro e w1 ⟨rfl,rfl⟩;go_wp2_with fail;refine(sin_b q 0 (c-1) true _ (.inl ⟨a5.1,a5.2,rfl⟩)).mono ?_;rintro e w1 ⟨rfl,rfl⟩;go_wp2;go_ret;exact⟨by rw[dcN (fun h=>by have:=HE.out.1 h;omega)];rfl,HB.out⟩
      ·by_cases a7:(k==2)=true
       ·go_enter Tryz.func95,Tryz.ntmps95;go_wp2_with fail;refine(sin_b k 1 2 true _ (.inl ⟨a1.1,a1.2,rfl⟩)).mono ?_;rintro e w1 ⟨rfl,rfl⟩;go_wp2_with fail;refine(sin_b s 1 1000000000 true _ (.inl ⟨a2.1,a2.2,rfl⟩)).mono ?_;rintro e w1 ⟨rfl,rfl⟩;go_wp2_with fail;refine(sin_b x 1 1000000000 true _ (.inl ⟨a3.1,a3.2,rfl⟩)).mono ?_;rintro e w1 ⟨rfl,rfl⟩;go_wp2_with fail;refine(sin_b c 1 9 true _ (.inl ⟨a4.1,a4.2,rfl⟩)).mono ?_;rintro e w1 ⟨rfl,rfl⟩;go_wp2_with fail;refine(sin_b q 0 (c-1) true _ (.inl ⟨a5.1,a5.2,rfl⟩)).mono ?_;rintro e w1 ⟨rfl,rfl⟩;go_wp2;go_ret;exact⟨by simp at a7;rw[dcY (HE.out.2 (by omega))];rfl,HB.out⟩
       ·have a7:(k==2)=false:=by simpa using a7
        go_enter Tryz.func95,Tryz.ntmps95;go_wp2_with fail;refine(sin_b k 1 2 true _ (.inl ⟨a1.1,a1.2,rfl⟩)).mono ?_;rintro e w1 ⟨rfl,rfl⟩;go_wp2_with fail;refine(sin_b s 1 1000000000 true _ (.inl ⟨a2.1,a2.2,rfl⟩)).mono ?_;rintro e w1 ⟨rfl,rfl⟩;go_wp2_with fail;refine(sin_b x 1 1000000000 true _ (.inl ⟨a3.1,a3.2,rfl⟩)).mono ?_;rintro e w1 ⟨rfl,rfl⟩;go_wp2_with fail;refine(sin_b c 1 9 true _ (.inl ⟨a4.1,a4.2,rfl⟩)).mono ?_;rintro e w1 ⟨rfl,rfl⟩;go_wp2_with fail;refine(sin_b q 0 (c-1) true _ (.inl ⟨a5.1,a5.2,rfl⟩)).mono ?_;rintro e w1 ⟨rfl,rfl⟩;go_wp2;go_ret;refine⟨?_,HB.out⟩;simp at a7;have e: @decide (Pg.mk k s x q c t).Right (Pg.mk k s x q c t).decR=(c==1):=by
         by_cases b:c=1
         ·rw[dcY (HE.out.2 (by omega))];simp[b]
         ·rw[dcN (fun h=>by have:=HE.out.1 h;omega)];simp[b]
        rw[e];rfl
     ·go_enter Tryz.func95,Tryz.ntmps95;go_wp2_with fail;refine(sin_b k 1 2 true _ (.inl ⟨a1.1,a1.2,rfl⟩)).mono ?_;rintro e w1 ⟨rfl,rfl⟩;go_wp2_with fail;refine(sin_b s 1 1000000000 true _ (.inl ⟨a2.1,a2.2,rfl⟩)).mono ?_;rintro e w1 ⟨rfl,rfl⟩;go_wp2_with fail;refine(sin_b x 1 1000000000 true _ (.inl ⟨a3.1,a3.2,rfl⟩)).mono ?_;rintro e w1 ⟨rfl,rfl⟩;go_wp2_with fail;refine(sin_b c 1 9 true _ (.inl ⟨a4.1,a4.2,rfl⟩)).mono ?_;rintro e w1 ⟨rfl,rfl⟩;go_wp2_with fail;refine(sin_b q 0 (c-1) false _ (.inr ⟨by omega,rfl⟩)).mono ?_
      rintro e w1 ⟨rfl,rfl⟩;go_wp2;go_ret;exact⟨by rw[dcN (fun h=>by have:=HE.out.1 h;omega)];rfl,HB.out⟩
    ·go_enter Tryz.func95,Tryz.ntmps95;go_wp2_with fail;refine(sin_b k 1 2 true _ (.inl ⟨a1.1,a1.2,rfl⟩)).mono ?_;rintro e w1 ⟨rfl,rfl⟩;go_wp2_with fail;refine(sin_b s 1 1000000000 true _ (.inl ⟨a2.1,a2.2,rfl⟩)).mono ?_;rintro e w1 ⟨rfl,rfl⟩;go_wp2_with fail;refine(sin_b x 1 1000000000 true _ (.inl ⟨a3.1,a3.2,rfl⟩)).mono ?_;rintro e w1 ⟨rfl,rfl⟩;go_wp2_with fail;refine(sin_b c 1 9 false _ (.inr ⟨by omega,rfl⟩)).mono ?_
     rintro e w1 ⟨rfl,rfl⟩;go_wp2;go_ret;exact⟨by rw[dcN (fun h=>by have:=HE.out.1 h;omega)];rfl,HB.out⟩
   ·go_enter Tryz.func95,Tryz.ntmps95;go_wp2_with fail;refine(sin_b k 1 2 true _ (.inl ⟨a1.1,a1.2,rfl⟩)).mono ?_;rintro e w1 ⟨rfl,rfl⟩;go_wp2_with fail;refine(sin_b s 1 1000000000 true _ (.inl ⟨a2.1,a2.2,rfl⟩)).mono ?_;rintro e w1 ⟨rfl,rfl⟩;go_wp2_with fail;refine(sin_b x 1 1000000000 false _ (.inr ⟨by omega,rfl⟩)).mono ?_
    rintro e w1 ⟨rfl,rfl⟩;go_wp2;go_ret;exact⟨by rw[dcN (fun h=>by have:=HE.out.1 h;omega)];rfl,HB.out⟩
  ·go_enter Tryz.func95,Tryz.ntmps95;go_wp2_with fail;refine(sin_b k 1 2 true _ (.inl ⟨a1.1,a1.2,rfl⟩)).mono ?_;rintro e w1 ⟨rfl,rfl⟩;go_wp2_with fail;refine(sin_b s 1 1000000000 false _ (.inr ⟨by omega,rfl⟩)).mono ?_
   rintro e w1 ⟨rfl,rfl⟩;go_wp2;go_ret;exact⟨by rw[dcN (fun h=>by have:=HE.out.1 h;omega)];rfl,HB.out⟩
 ·go_enter Tryz.func95,Tryz.ntmps95;go_wp2_with fail;refine(sin_b k 1 2 false _ (.inr ⟨by omega,rfl⟩)).mono ?_
  rintro e w1 ⟨rfl,rfl⟩;go_wp2;go_ret;exact⟨by rw[dcN (fun h=>by have:=HE.out.1 h;omega)];rfl,HB.out⟩
end Go.Proofs.YtiicghepilbgfaaGreatDoor
namespace Go.Proofs.YtiicghepilbgfaaGreatDoor
open Go.RowKit
open Sums
theorem specSealed(t:ByteArray)(w:World)(hl:t.size≤20000):
 Calls Tryz.prog 96 #[.string t] w fun e w'=>e=.returned (.tuple #[.string (sealA t),.bool true])∧Below w.heap.size w w':=by
 have g:¬(20000:Int)<t.size:=by omega
 go_enter Tryz.func96,Tryz.ntmps96;go_wp2_with fail;refine(specOf t _ (by unfold maxLen;omega)).mono ?_
 rintro e w1 ⟨rfl,rfl⟩;have hx:=sumOf_lt t.data.toList;have E:Hid (sealA t=t++⟨(four (sumOf t.data.toList)).toArray⟩):=rfl;have hfl:=four_len (sumOf t.data.toList);generalize sumOf t.data.toList=x at hx E hfl;go_wp2_with fail;refine(specFour x _ hx).mono ?_;rintro e w2 ⟨rfl,hb⟩;generalize four x=f at E hfl;go_wp2;go_ret2;exact⟨by rw[E.out];rfl,hb⟩
end Go.Proofs.YtiicghepilbgfaaGreatDoor
namespace Go.Proofs.YtiicghepilbgfaaGreatDoor
open Go.RowKit
open Words
theorem i_nat{x:Int}(h:0≤x):∃n:Nat,x=n∧x.toNat=n:=⟨x.toNat,by omega,rfl⟩
theorem sbyte(n:Nat)(hn:n<256)(w:World):
 Calls Tryz.prog 97 #[.int .i64 n] w fun e w'=>e=.returned (.string (byteA n))∧Below w.heap.size w w':=by
 have hcv:=run_convert_bytes_back (P:=Tryz.prog) (w.alloc (.cells #[Value.int .u8 n] 5)) 155 9 5 ⟨w.heap.size,0,none⟩ 1 [UInt8.ofNat n] Tryz.underlying155 Tryz.underlying5 Tryz.underlying9 (fun j hj=>by
  match j,hj with
  |0,_=>simp[Addr.add];omega)
 rw[show[UInt8.ofNat n].length=1 from rfl]at hcv;have E:Hid (byteA n=ByteArray.mk [UInt8.ofNat n].toArray):=rfl;generalize ByteArray.mk [UInt8.ofNat n].toArray=r at hcv E;have ew:IntKind.u8.wrap (n:Int)=n:=by rw[IntKind.wrap_u8];omega
 go_enter Tryz.func97,Tryz.ntmps97;go_wp2;go_ret;exact⟨by rw[E.out];rfl,(Below.refl _ _).alloc (Nat.le_refl _) _⟩
end Go.Proofs.YtiicghepilbgfaaGreatDoor
namespace Go.Proofs.YtiicghepilbgfaaGreatDoor
open Go.RowKit
open Words Sums
def ptRes(p:Pg):Value:=letI:=p.decR;if p.Right then .tuple #[.string (sealA (pageA p)),.bool true]else .tuple #[.string ⟨#[]⟩,.bool false]
def PIn(w a:World)(k s x q c:Int)(t:ByteArray):Prop:=Below w.heap.size w a∧w.heap.size<a.heap.size∧
 (a.cell? ⟨w.heap.size,0,none⟩=some (.int .i64 k)∧a.cell? ⟨w.heap.size,1,none⟩=some (.int .i64 s)∧a.cell? ⟨w.heap.size,2,none⟩=some (.int .i64 x)∧a.cell? ⟨w.heap.size,3,none⟩=some (.int .i64 q)∧a.cell? ⟨w.heap.size,4,none⟩=some (.int .i64 c)∧a.cell? ⟨w.heap.size,5,none⟩=some (.string t))
theorem PIn.next{w a b:World}{k s x q c:Int}{t:ByteArray}(h:PIn w a k s x q c t)(hb:Below a.heap.size a b):PIn w b k s x q c t:=
 ⟨h.1.trans (hb.mono h.1.size),Nat.lt_of_lt_of_le h.2.1 hb.size,by rw[hb.cell h.2.1,hb.cell h.2.1,hb.cell h.2.1,hb.cell h.2.1,hb.cell h.2.1,hb.cell h.2.1];exact h.2.2⟩
theorem PIn.drew{w a:World}{k s x q c:Int}{t:ByteArray}(h:PIn w a k s x q c t):PIn w a.drew k s x q c t:=⟨h.1.drew,h.2.1,h.2.2⟩
theorem spageText(p:Pg)(w:World):
 Calls Tryz.prog 66 #[pgVal p] w fun e w'=>e=.returned (ptRes p)∧Below w.heap.size w w':=by
 have HB:=hide ((Below.refl w.heap.size w).alloc (Nat.le_refl _) (.cells #[.int .i64 p.kind,.int .i64 p.seq,.int .i64 p.tx,.int .i64 p.part,.int .i64 p.count,.string p.text] 102));by_cases hr:p.Right
 ·have HE:Hid (ptRes p=.tuple #[.string (sealA (pageA p)),.bool true]):=if_pos hr;have hz:=pageA_size p hr;have HS:=hide (spageOk p);have hr':=hr;obtain⟨r1,r2,r3,r4,r5,r6⟩:=hr';have HP:Hid (pageA p=((((byteA p.kind.toNat++varA p.seq.toNat)++varA p.tx.toNat)++varA p.part.toNat)++varA p.count.toNat)++p.text):=rfl;have hd:=dcY (d:=p.decR) hr;obtain⟨k,s,x,q,c,t⟩:=p;unfold pgVal at*;simp only at*;obtain⟨k,rfl,ek⟩:=i_nat (show 0≤k by omega)
  obtain⟨s,rfl,es⟩:=i_nat (show 0≤s by omega)
  obtain⟨x,rfl,ex⟩:=i_nat (show 0≤x by omega)
  obtain⟨q,rfl,eq⟩:=i_nat (show 0≤q by omega)
  obtain⟨c,rfl,ec⟩:=i_nat (show 0≤c by omega)
  rw[ek,es,ex,eq,ec]at HP;clear ek es ex eq ec;obtain⟨b0,B0⟩:∃b,b=byteA k:=⟨_,rfl⟩;obtain⟨v1,V1⟩:∃b,b=varA s:=⟨_,rfl⟩;obtain⟨v2,V2⟩:∃b,b=varA x:=⟨_,rfl⟩;obtain⟨v3,V3⟩:∃b,b=varA q:=⟨_,rfl⟩;obtain⟨v4,V4⟩:∃b,b=varA c:=⟨_,rfl⟩;have C0:=hide (fun w=>sbyte k (by omega) w)
  have C1:=hide (fun w=>l01Var_any s w (by omega))
  have C2:=hide (fun w=>l01Var_any x w (by omega))
  have C3:=hide (fun w=>l01Var_any q w (by omega))
  have C4:=hide (fun w=>l01Var_any c w (by omega))
  change Hid (∀w,Calls Tryz.prog 98 #[.int .i64 s] w fun e w'=>e=.returned (.string (varA s))∧Below w.heap.size w w')at C1
  change Hid (∀w,Calls Tryz.prog 98 #[.int .i64 x] w fun e w'=>e=.returned (.string (varA x))∧Below w.heap.size w w')at C2
  change Hid (∀w,Calls Tryz.prog 98 #[.int .i64 q] w fun e w'=>e=.returned (.string (varA q))∧Below w.heap.size w w')at C3
  change Hid (∀w,Calls Tryz.prog 98 #[.int .i64 c] w fun e w'=>e=.returned (.string (varA c))∧Below w.heap.size w w')at C4
  rw[←B0]at C0 HP;rw[←V1]at C1 HP;rw[←V2]at C2 HP;rw[←V3]at C3 HP;rw[←V4]at C4 HP;clear B0 V1 V2 V3 V4;obtain⟨pa,hpa⟩:∃b,b=pageA ⟨k,s,x,q,c,t⟩:=⟨_,rfl⟩;rw[←hpa]at hz HP HE;clear hpa hr r1 r2 r3 r4 r5 r6;obtain⟨u1,U1⟩:∃u,b0++v1=u:=⟨_,rfl⟩;rw[U1]at HP;obtain⟨u2,U2⟩:∃u,u1++v2=u:=⟨_,rfl⟩;rw[U2]at HP;obtain⟨u3,U3⟩:∃u,u2++v3=u:=⟨_,rfl⟩;rw[U3]at HP;obtain⟨u4,U4⟩:∃u,u3++v4=u:=⟨_,rfl⟩;rw[U4]at HP;have U5:u4++t=pa:=HP.out.symm;have z1:=congrArg ByteArray.size U1;have z2:=congrArg ByteArray.size U2;have z3:=congrArg ByteArray.size U3;have z4:=congrArg ByteArray.size U4;have z5:=congrArg ByteArray.size U5;rw[ByteArray.size_append]at z1 z2 z3 z4 z5;have Y1:Hid (¬(9223372036854775807<b0.size+v1.size)):=by show¬_;omega
  have Y2:Hid (¬(9223372036854775807<u1.size+v2.size)):=by show¬_;omega
  have Y3:Hid (¬(9223372036854775807<u2.size+v3.size)):=by show¬_;omega
  have Y4:Hid (¬(9223372036854775807<u3.size+v4.size)):=by show¬_;omega
  have Y5:Hid (¬(9223372036854775807<u4.size+t.size)):=by show¬_;omega
  clear z1 z2 z3 z4 z5 HP;go_enter Tryz.func66,Tryz.ntmps66;go_wp2_with fail;refine(HS.out _).mono ?_;rintro e w1 ⟨rfl,hb1⟩;rw[hd];obtain⟨c0,c1,c2,c3,c4,c5⟩:=cell_new6 _ _ _ _ _ _ _ _ _ hb1;have P1:Hid (PIn w w1 k s x q c t):=⟨HB.out.trans (hb1.mono HB.out.size),Nat.lt_of_lt_of_le (by simp) hb1.size,c0,c1,c2,c3,c4,c5⟩
  clear hb1 HB hd HS;go_wp2_with fail;have y1:=Y1.out;have y2:=Y2.out;have y3:=Y3.out;have y4:=Y4.out;have y5:=Y5.out;go_region_held3 (fun w'=>w'.cell? ⟨w.heap.size,0,none⟩=some (.int .i64 k)∧w'.cell? ⟨w.heap.size,1,none⟩=some (.int .i64 s)∧w'.cell? ⟨w.heap.size,2,none⟩=some (.int .i64 x)∧w'.cell? ⟨w.heap.size,3,none⟩=some (.int .i64 q)∧w'.cell? ⟨w.heap.size,4,none⟩=some (.int .i64 c)∧w'.cell? ⟨w.heap.size,5,none⟩=some (.string t)) (first|go_keep|exact P1.out.2.2|exact P1.out.drew.2.2) (first
   |(go_at_call 97;with_reducible refine Calls.mono (C0.out _) ?_;rintro e w2 ⟨rfl,b2⟩;have P1:=hide (PIn.next (by first|exact P1.out|exact P1.out.drew) b2);clear b2)
   |(go_at_call 98;(with_reducible first|refine Calls.mono (C1.out _) ?_|refine Calls.mono (C2.out _) ?_|refine Calls.mono (C3.out _) ?_|refine Calls.mono (C4.out _) ?_);rintro e w3 ⟨rfl,b3⟩;have P1:=hide (PIn.next (by first|exact P1.out|exact P1.out.drew) b3);clear b3)
   |(go_at_call 96;refine Calls.mono (specSealed pa _ (by omega)) ?_;rintro e w4 ⟨rfl,b4⟩;have P1:=hide (PIn.next (by first|exact P1.out|exact P1.out.drew) b4);clear b4))
  all_goals
   go_wp2;go_ret2;exact⟨by rw[HE.out];rfl,P1.out.1⟩
 ·have HE:Hid (ptRes p=.tuple #[.string ⟨#[]⟩,.bool false]):=if_neg hr;have HS:=hide (spageOk p);have hd:=dcN (d:=p.decR) hr;obtain⟨k,s,x,q,c,t⟩:=p;unfold pgVal at*;simp only at*;clear hr;go_enter Tryz.func66,Tryz.ntmps66;go_wp2_with fail;refine(HS.out _).mono ?_;rintro e w1 ⟨rfl,hb1⟩;rw[hd];go_wp2;go_ret2;exact⟨by rw[HE.out];rfl,HB.out.trans (hb1.mono HB.out.size)⟩
end Go.Proofs.YtiicghepilbgfaaGreatDoor
