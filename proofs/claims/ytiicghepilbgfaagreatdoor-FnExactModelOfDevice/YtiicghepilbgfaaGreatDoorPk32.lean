/-
  SPlain; SMatch
-/
import Derived.Test.YtiicghepilbgfaaGreatDoorPk26
import Derived.Test.YtiicghepilbgfaaGreatDoorPk27
set_option maxHeartbeats 2000000
set_option maxRecDepth 100000
namespace Go.Proofs.YtiicghepilbgfaaGreatDoor
open Go.RowKit
open Pack
theorem in_b(x lo hi:Int)(b:Bool)(w:World)(h:(lo≤x∧x≤hi∧b=true)∨((x<lo∨lo≤x∧¬x≤hi)∧b=false)):
 Calls Tryz.prog 36 #[.int .i64 x,.int .i64 lo,.int .i64 hi] w fun e w'=>e=.returned (.bool b)∧w'=w:=by
 rcases h with⟨h1,h2,rfl⟩|⟨h1|⟨h1,h2⟩,rfl⟩
 all_goals
  go_enter Tryz.func36,Tryz.ntmps36;go_wp2;go_ret;exact⟨rfl,rfl⟩
theorem in_any(x lo hi:Int)(w:World):
 Calls Tryz.prog 36 #[.int .i64 x,.int .i64 lo,.int .i64 hi] w fun e w'=>e=.returned (.bool (decide (lo≤x∧x≤hi)))∧w'=w:=by
 apply in_b;by_cases h:lo≤x∧x≤hi
 ·exact .inl ⟨h.1,h.2,decide_eq_true h⟩
 ·exact .inr ⟨by omega,decide_eq_false h⟩
theorem bytes_news{w:World}{g:Nat}{l:List UInt8}(h:BytesAt w g l):∀(j:Nat) (u:Value),(bcells l)[j]?=some u→w.cell? ((⟨g,0,none⟩:Addr).add j)=some u:=by
 intro j u hj;rw[addr_at];have:=bytes_range h j u hj
 rwa [Nat.zero_add]at this
theorem splain_any(v:Value)(ls:List (Int×Int×ByteArray))(B:Nat)(w:World)(hl:ls.length≤1048576)(ha:w.ownsRow B 198 3 v ls.length (gcells ls)):
 Calls Tryz.prog 103 #[v] w fun e w'=>e=.returned (plainV (gplain ls))∧Below w.heap.size w w':=by
 obtain⟨i0,hi,hz0,hz1,hz2⟩:=info_parts infoByte;obtain⟨ad,capa,rfl,a1,a2,a3⟩:=row_form3 ha;unfold maxLen at a2;have A3:=hide a3;have HA:=hide ha;clear a3 ha;have EI:=hide in_any;go_enter Tryz.func103,Tryz.ntmps103;go_wp2;go_loopw [4,5] (fun pv iv wr=>∃(k:Nat) (o:List UInt8),k≤ls.length∧o.length≤64∧iv=.int .i64 k∧Hid (wr.ownsRow w.heap.size 5 1 pv o.length (bcells o))∧Hid (gplain ls=gplainFrom o (ls.drop k))∧Hid (Below w.heap.size w wr)) (fun _ iv _=>ls.length-(intOf iv).toNat)
 case atStart=>exact⟨0,[],Nat.zero_le _,by simp,rfl,World.ownsRow_made w #[] 0 (Nat.le_refl _) (by unfold maxLen;omega) (by simp),rfl,(Below.refl _ _).alloc (Nat.le_refl _) _⟩
 case round=>
  obtain⟨k,o,hk,ho,rfl,HO,HG,HW⟩:=hrel;have hsz:=HW.out.size;by_cases hlt:(k:Int)<ls.length
  ·obtain⟨ga,rfl,_,hga⟩:=A3.out (by omega)
   have hkl:k<ls.length:=by omega
   obtain⟨x,y,t,ht⟩:∃x y t,ls[k]?=some (x,y,t):=⟨ls[k].1,ls[k].2.1,ls[k].2.2,List.getElem?_eq_getElem hkl⟩;obtain⟨c1,c2,c3⟩:=gown_cells (own_below HA.out HW.out) ht;simp only at c1 c2 c3;have hst:=gplain_step o ls k _ ht;simp only at hst;rw[←HG.out]at hst;have HST:=hide hst;have k0:(0:Int)≤k:=by omega
   obtain⟨ap,capp,rfl,-⟩:=row_form3 HO.out;have CT:=hide (tok_new wr x y t);have HO5:=hide (HO.out.alloc (.cells #[.int .i64 x,.int .i64 y,.string t] 198));have HW5:=hide (HW.out.alloc hsz (.cells #[.int .i64 x,.int .i64 y,.string t] 198));have HBad:Hid (¬(GOk o.length (x,y,t)∧o.length+t.size+y.toNat≤64)→gplain ls=none):=fun h=>by rw[HST.out,if_neg h]
   clear ht hst HG;by_cases hx0:(x==0)=true
   ·obtain rfl:x=0:=by simpa using hx0
    by_cases hin:1≤(t.size:Int)∧(t.size:Int)≤31
    ·by_cases hy0:(y !=0)=false
     ·obtain rfl:y=0:=by simpa using hy0
      obtain⟨w5,hw5⟩:∃w5,w5=wr.alloc (.cells #[.int .i64 0,.int .i64 0,.string t] 198):=⟨_,rfl⟩;obtain⟨C,w6,hcv,hb6,hby⟩:=bytes_new w5 t;have hs5:w5.heap.size=wr.heap.size+1:=by rw[hw5];simp
      rw[hs5]at hcv hby hb6;rw[←hw5]at HO5 HW5;have HO6:=hide (own_below HO5.out (by rw[hs5];exact hb6))
      have HW6:=hide (HW5.out.trans (hb6.mono (by omega)))
      have HNW:=hide (bytes_news hby);have hs6:w.heap.size≤w6.heap.size:=by have:=hb6.size;omega
      rw[hw5]at hcv;have hbl:(bcells t.data.toList).length=t.size*1:=by simp[bcells]
      have hgt:Hid (gtell o (0,0,t)=o++t.data.toList):=rfl;have HOK:Hid (o.length+t.size≤64→gplain ls=gplainFrom (o++t.data.toList) (ls.drop (k+1))):=fun h=>by
       rw[HST.out,if_pos ⟨Or.inl ⟨rfl,(by show 1≤t.size;omega),(by show t.size≤31;omega),rfl⟩,by simpa using h⟩,hgt.out]
      have hbad2:Hid (¬o.length+t.size≤64→gplain ls=none):=fun h=>HBad.out (fun h2=>h (by omega))
      clear hb6 hby hw5 hs5 HST HBad hgt;go_wp2_with fail;refine(EI.out _ _ _ _).mono ?_;rintro e w7 ⟨rfl,rfl⟩;rw[decide_eq_true hin];go_wp2_with (at_builtin;refine wpList_append_own _ rfl _ _ 155 rfl w.heap.size 5 i0 (.int .u8 0) 1 1 Tryz.underlying155 hi hz0 hz1 hz2 rfl (by decide) _ _ _ rfl (by exact HO6.out) ⟨wr.heap.size+1,0,none⟩ t.size C (bcells t.data.toList) rfl hbl (by exact HNW.out) (bcells_one _) (by unfold maxLen;omega) (by omega) (by omega) ?_)
      intro v8 w8 ho8 hg8 _;have HW8:=hide (HW6.out.grown hg8 (by omega) (fun j hj=>(HO6.out.lt j hj).1))
      have HO8:Hid (w8.ownsRow w.heap.size 5 1 v8 (o++t.data.toList).length (bcells (o++t.data.toList))):=by
       show World.ownsRow _ _ _ _ _ _ _;have e1:(o++t.data.toList).length=o.length+t.size:=by simp
       have e2:bcells (o++t.data.toList)=bcells o++bcells t.data.toList:=by simp[bcells]
       rw[e1,e2];exact ho8
      obtain⟨ap8,cp8,rfl,-⟩:=row_form3 HO8.out;have hlen8:(o++t.data.toList).length=o.length+t.size:=by simp
      obtain⟨q,hq⟩:∃q,o++t.data.toList=q:=⟨_,rfl⟩;rw[hq]at HO8 HOK hlen8⊢;have HL:=hide hlen8;clear ho8 hg8 HO6 HW6 hq hlen8 HNW;by_cases h64:(64:Int)<q.length
      ·have HX:=hide (hbad2.out (by have:=HL.out;omega))
       go_wp2;exact bodyPost_ret (results_tmp2 rfl _ _ _) rfl ⟨by rw[HX.out];rfl,HW8.out⟩
      ·have HG2:=hide (HOK.out (by have:=HL.out;omega))
       have hq64:q.length≤64:=by omega
       clear HOK hbad2 HL;go_wp2;go_roundw
       case rel=>exact⟨k+1,q,by omega,hq64,by go_num,HO8,HG2,HW8⟩
       case measure=>simp[intOf];omega
     ·have hy1:(y !=0)=true:=by simpa using hy0
      have HX:=hide (HBad.out (fun h=>by have:=h.1;unfold GOk at this;simp at this hy1;omega))
      go_wp2_with fail;refine(EI.out _ _ _ _).mono ?_;rintro e w7 ⟨rfl,rfl⟩;rw[decide_eq_true hin];go_wp2;exact bodyPost_ret (results_tmp2 rfl _ _ _) rfl ⟨by rw[HX.out];rfl,HW5.out⟩
    ·have HX:=hide (HBad.out (fun h=>by have:=h.1;unfold GOk at this;simp only at this;omega))
     go_wp2_with fail;refine(EI.out _ _ _ _).mono ?_;rintro e w7 ⟨rfl,rfl⟩;rw[decide_eq_false hin];go_wp2;exact bodyPost_ret (results_tmp2 rfl _ _ _) rfl ⟨by rw[HX.out];rfl,HW5.out⟩
   ·have hx1:(x==0)=false:=by simpa using hx0
    have ex:¬x=0:=by simpa using hx0
    by_cases hin:1≤x∧x≤(o.length:Int)
    ·by_cases hin2:1≤y∧y≤31
     ·by_cases ht0:t=⟨#[]⟩
      ·subst ht0;obtain⟨A,rfl⟩:∃A:Nat,x=A:=⟨x.toNat,by omega⟩
       obtain⟨N,rfl⟩:∃N:Nat,y=N:=⟨y.toNat,by omega⟩
       have hA1:1≤A:=by omega
       have hA2:A≤o.length:=by omega
       have hN1:N≤31:=by omega
       have hN2:1≤N:=by omega
       have HOK:Hid (o.length+N≤64→gplain ls=gplainFrom (gtell o ((A:Int),(N:Int),⟨#[]⟩)) (ls.drop (k+1))):=fun h=>by
        rw[HST.out,if_pos ⟨Or.inr ⟨by show(1:Int)≤A;omega,by show(A:Int)≤o.length;omega,by show(1:Int)≤N;omega,by show(N:Int)≤31;omega,rfl⟩,by rw[Int.toNat_natCast];exact h⟩]
       have hbad2:Hid (¬o.length+N≤64→gplain ls=none):=fun h=>HBad.out (fun h2=>h (by have:=h2.2;rw[Int.toNat_natCast]at this;exact this))
       have hg5:wr.heap.size<(wr.alloc (.cells #[.int .i64 (A:Int),.int .i64 (N:Int),.string ⟨#[]⟩] 198)).heap.size:=CT.out.lt;obtain⟨q0,q1,q2⟩:=CT.out.cells;clear HST HBad ex;go_wp2_with fail;refine(EI.out _ _ _ _).mono ?_;rintro e w7 ⟨rfl,rfl⟩;rw[decide_eq_true hin];go_wp2_with fail;refine(EI.out _ _ _ _).mono ?_;rintro e w7 ⟨rfl,rfl⟩;rw[decide_eq_true hin2];clear hin hin2;generalize hw5:wr.alloc (.cells #[.int .i64 (A:Int),.int .i64 (N:Int),.string ⟨#[]⟩] 198)=w5 at CT HO5 HW5 q0 q1 q2 hg5⊢;generalize wr.heap.size=g at CT q0 q1 q2 hg5 hsz hw5⊢;clear hw5 c1 c2 c3;go_wp2;go_loopw [4,7] (fun pv jv w8=>∃(j:Nat) (q:List UInt8),j≤N∧jv=.int .i64 j∧o.length≤q.length∧q.length≤95∧Hid (q.length=o.length+j)∧Hid (w8.ownsRow w.heap.size 5 1 pv q.length (bcells q))∧Hid (gtell o ((A:Int),(N:Int),⟨#[]⟩)=again (N-j) A q)∧Hid (TokAt w8 g A N ⟨#[]⟩)∧Hid (Below w.heap.size w w8)) (fun _ jv _=>N-(intOf jv).toNat)
       case atStart=>exact⟨0,o,Nat.zero_le _,rfl,Nat.le_refl _,by omega,rfl,HO5,(by show _=_;unfold gtell;simp),CT,HW5⟩
       case round=>
        obtain⟨j,q,hj,rfl,hq1,hq2,HQL,HO8,HG8,HT8,HW8⟩:=hrel;obtain⟨q0,q1,q2⟩:=HT8.out.cells;by_cases hjn:(j:Int)<N
        ·obtain⟨ap8,cp8,rfl,-,hcp8,h8⟩:=row_form3 HO8.out;obtain⟨gp,rfl,_,_⟩:=h8 (by omega)
         obtain⟨d,hd⟩:∃d:Nat,d=q.length-A:=⟨_,rfl⟩;have hd2:(q.length:Int)-A=(d:Int):=by omega
         have hdl:d<q.length:=by omega
         have cb:_:=HO8.out.cells (g:=gp) rfl d _ (bcells_getD q d hdl);rw[addr_at]at cb;have HG9:Hid (gtell o ((A:Int),(N:Int),⟨#[]⟩)=again (N-(j+1)) A (q++[q.getD d 0])):=by
          show _=_;rw[HG8.out,show N-j=(N-(j+1))+1 by omega,again_next,←hd]
         have hs8:=HW8.out.size;have hq95:q.length+1≤95:=by have:=HQL.out;omega
         obtain⟨c,hc⟩:∃c:UInt8,q.getD d 0=c:=⟨_,rfl⟩;rw[hc]at cb HG9;obtain⟨z,hz⟩:∃z:Int,(c.toNat:Int)=z:=⟨_,rfl⟩;rw[hz]at cb;have HZ:=hide hz;clear hc hd HG8 hz;have d0:(0:Int)≤d:=by omega
         go_wp2_with (at_builtin;refine wpList_append_own _ rfl _ _ 155 rfl w.heap.size 5 i0 (.int .u8 0) 1 1 Tryz.underlying155 hi hz0 hz1 hz2 rfl (by decide) _ _ _ rfl (by exact HO8.out.alloc _) ⟨_,0,none⟩ 1 1 [Value.int .u8 z] rfl rfl (by exact one_cell _ _ _) (one_u8 _) (by unfold maxLen;omega) (by omega) (by simp;omega) ?_)
         intro v9 w9 ho9 hg9 _;rw[bcells_snoc q c z HZ.out]at ho9;have hql9:(q++[c]).length=q.length+1:=by simp
         have HO9:Hid (w9.ownsRow w.heap.size 5 1 v9 (q++[c]).length (bcells (q++[c]))):=by
          show World.ownsRow _ _ _ _ _ _ _;rw[hql9];exact ho9
         have HT9:=hide ((HT8.out.alloc _).grown (HO8.out.alloc _) hg9);have HW9:=hide (own_grown HW8.out (by omega) HO8.out hg9)
         clear ho9 hg9 HO8 HT8 HW8 cb q0 q1 q2;go_wp2;go_roundw
         case rel=>exact⟨j+1,q++[c],by omega,by go_num,by omega,by omega,(by show _=_;have:=HQL.out;omega),HO9,HG9,HT9,HW9⟩
         case measure=>simp[intOf];omega
        ·have hje:j=N:=by omega
         have HX:Hid (gtell o ((A:Int),(N:Int),⟨#[]⟩)=q):=by show _=_;rw[HG8.out,hje,Nat.sub_self];rfl
         rw[HX.out]at HOK;have HQ2:Hid (q.length=o.length+N):=by show _=_;rw[HQL.out,hje]
         obtain⟨ap8,cp8,rfl,-⟩:=row_form3 HO8.out;clear hje HG8 HX HQL;by_cases h64:(64:Int)<q.length
         ·have HX:=hide (hbad2.out (by have:=HQ2.out;omega))
          go_wp2;exact bodyPost_ret (results_tmp2 rfl _ _ _) rfl ⟨by rw[HX.out];rfl,HW8.out⟩
         ·have HG2:=hide (HOK.out (by have:=HQ2.out;omega))
          have hq64:q.length≤64:=by omega
          clear HOK hbad2 HQ2;go_wp2;go_roundw
          case rel=>exact⟨k+1,q,by omega,hq64,by go_num,HO8,HG2,HW8⟩
          case measure=>simp[intOf];omega
      ·have hsz0:¬t.size=0:=fun h=>ht0 (by
        apply ByteArray.ext;exact Array.eq_empty_of_size_eq_zero h)
       have HX:=hide (HBad.out (fun h=>by have:=h.1;unfold GOk at this;simp only at this;omega))
       have hne:t.toList.isEmpty=false:=by
        rw[Lib.toList_data,List.isEmpty_eq_false_iff];intro h;exact hsz0 (by have e:t.data.toList.length=t.size:=by simp
                                                                             rw[←e,h];rfl)
       go_wp2_with fail;refine(EI.out _ _ _ _).mono ?_;rintro e w7 ⟨rfl,rfl⟩;rw[decide_eq_true hin];go_wp2_with fail;refine(EI.out _ _ _ _).mono ?_;rintro e w7 ⟨rfl,rfl⟩;rw[decide_eq_true hin2];go_wp2;exact bodyPost_ret (results_tmp2 rfl _ _ _) rfl ⟨by rw[HX.out];rfl,HW5.out⟩
     ·have HX:=hide (HBad.out (fun h=>by have:=h.1;unfold GOk at this;simp only at this;omega))
      go_wp2_with fail;refine(EI.out _ _ _ _).mono ?_;rintro e w7 ⟨rfl,rfl⟩;rw[decide_eq_true hin];go_wp2_with fail;refine(EI.out _ _ _ _).mono ?_;rintro e w7 ⟨rfl,rfl⟩;rw[decide_eq_false hin2];go_wp2;exact bodyPost_ret (results_tmp2 rfl _ _ _) rfl ⟨by rw[HX.out];rfl,HW5.out⟩
    ·have HX:=hide (HBad.out (fun h=>by have:=h.1;unfold GOk at this;simp only at this;omega))
     go_wp2_with fail;refine(EI.out _ _ _ _).mono ?_;rintro e w7 ⟨rfl,rfl⟩;rw[decide_eq_false hin];go_wp2;exact bodyPost_ret (results_tmp2 rfl _ _ _) rfl ⟨by rw[HX.out];rfl,HW5.out⟩
  ·have hke:k=ls.length:=by omega
   have HX:Hid (gplain ls=some o):=by show _=_;rw[HG.out,hke,List.drop_length];rfl
   have hcv:=conv_own wr _ o HO.out;clear HG hke;go_wp2;exact bodyPost_ret (results_tmp2 rfl _ _ _) rfl ⟨by rw[HX.out];rfl,HW.out⟩
theorem match_any(s:ByteArray)(i j:Nat)(w:World)(hs:s.size≤64)(hij:i<j)(hj:j≤s.size):
 Calls Tryz.prog 143 #[.string s,.int .i64 i,.int .i64 j] w fun e w'=>e=.returned (.int .i64 (mlen 31 (s.data.toList.drop i) (s.data.toList.drop j):Nat))∧Below w.heap.size w w':=by
 have hl:s.data.toList.length=s.size:=by simp
 go_enter Tryz.func143,Tryz.ntmps143;go_wp2;go_loopw [7] (fun nv wr=>∃n:Nat,n≤31∧j+n≤s.size∧nv=.int .i64 n∧Hid (mlen 31 (s.data.toList.drop i) (s.data.toList.drop j)=n+mlen (31-n) (s.data.toList.drop (i+n)) (s.data.toList.drop (j+n)))∧Below w.heap.size w wr) (fun nv _=>31-(intOf nv).toNat)
 case atStart=>exact⟨0,by omega,by omega,rfl,(by show _=0+_;simp),Below.refl _ _⟩
 case round=>
  obtain⟨n,hn,hjn,rfl,HM,hbel⟩:=hrel;have w1:IntKind.i64.wrap ((j:Int)+n)=(j:Int)+n:=by rw[IntKind.wrap_i64];omega
  have w2:IntKind.i64.wrap ((i:Int)+n)=(i:Int)+n:=by rw[IntKind.wrap_i64];omega
  have HB:=hide hbel;clear hbel;by_cases h31:n<31
  ·have d1:decide ((n:Int)<31)=true:=decide_eq_true (by omega)
   by_cases hlt:j+n<s.size
   ·have d2:decide ((j:Int)+n<s.size)=true:=decide_eq_true (by omega)
    have f1:=byte_ofT s (i+n) ((i:Int)+n) (by omega) (by omega)
    have f2:=byte_ofT s (j+n) ((j:Int)+n) (by omega) (by omega)
    by_cases heq:s.data.toList.getD (i+n) 0=s.data.toList.getD (j+n) 0
    ·have HM2:Hid (mlen 31 (s.data.toList.drop i) (s.data.toList.drop j)=(n+1)+mlen (31-(n+1)) (s.data.toList.drop (i+(n+1))) (s.data.toList.drop (j+(n+1)))):=by
      show _=_;rw[HM.out,show 31-n=(31-(n+1))+1 by omega,mlen_yes _ _ _ _ (by omega) (by omega) heq,show i+n+1=i+(n+1)by omega,show j+n+1=j+(n+1)by omega]
      omega
     rw[heq]at f1;generalize(s.data.toList.getD (j+n) 0).toNat=c at f1 f2;have e1:((c:Int)==(c:Int))=true:=by simp
     clear HM heq hl;go_wp2;go_quiet (fail);go_wp2;go_roundw
     case rel=>exact⟨n+1,by omega,by omega,by go_num,HM2,below_drewN HB.out _⟩
     case measure=>simp[intOf];omega
    ·have HM2:Hid (mlen 31 (s.data.toList.drop i) (s.data.toList.drop j)=n):=by
      show _=_;rw[HM.out,mlen_no _ _ _ _ (by omega) (by omega) heq];rfl
     have hne:((((s.data.toList.getD (i+n) 0).toNat:Nat):Int)==(((s.data.toList.getD (j+n) 0).toNat:Nat):Int))=false:=by
      rw[beq_eq_false_iff_ne];intro h;exact heq (UInt8.toNat_inj.1 (by omega))
     generalize(s.data.toList.getD (i+n) 0).toNat=c1 at f1 hne;generalize(s.data.toList.getD (j+n) 0).toNat=c2 at f2 hne;clear HM heq hl;go_wp2;go_quiet (fail);go_wp2;go_ret;exact⟨by rw[HM2.out];rfl,below_drewN HB.out _⟩
   ·have d2:decide ((j:Int)+n<s.size)=false:=decide_eq_false (by omega)
    have HM2:Hid (mlen 31 (s.data.toList.drop i) (s.data.toList.drop j)=n):=by
     show _=_;rw[HM.out,mlen_end _ _ _ _ (by omega)];rfl
    clear HM hl;go_wp2;go_quiet (fail);go_wp2;go_ret;exact⟨by rw[HM2.out];rfl,below_drewN HB.out _⟩
  ·have d1:decide ((n:Int)<31)=false:=decide_eq_false (by omega)
   have e31:n=31:=by omega
   have HM2:Hid (mlen 31 (s.data.toList.drop i) (s.data.toList.drop j)=n):=by
    show _=_;rw[HM.out,e31];rfl
   clear HM hl e31;go_wp2;go_quiet (fail);go_wp2;go_ret;exact⟨by rw[HM2.out];rfl,below_drewN HB.out _⟩
end Go.Proofs.YtiicghepilbgfaaGreatDoor
