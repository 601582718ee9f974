/-
  Stable; IScan2
-/
import Derived.Test.YtiicghepilbgfaaGreatDoorPk23
import Derived.Test.YtiicghepilbgfaaGreatDoorPk21
set_option maxHeartbeats 4000000
set_option maxRecDepth 100000
namespace Go.Proofs.YtiicghepilbgfaaGreatDoor
open Go.RowKit
open Words
theorem flat_len(k:Nat):∀(Ls:List (List Fnd)),(∀l∈Ls,l.length=k)→Ls.flatten.length=k*Ls.length:=by
 intro Ls
 induction Ls with
 |nil=>intro _;simp
 |cons l Ls ih=>
  intro h;rw[List.flatten_cons,List.length_append,h l List.mem_cons_self,ih (fun x hx=>h x (List.mem_cons_of_mem _ hx)),List.length_cons,Nat.mul_succ]
  omega
def Runs(bs:Nat)(E:List Fnd):Prop:=∃(Ls:List (List Fnd)) (Z:List Fnd),E=Ls.flatten++Z∧(∀l∈Ls,Asc l∧l.length=bs)∧Asc Z∧Z.length<bs
def Ahead(bs a:Nat)(A:List Fnd):Prop:=A.length=a∧∃Ls:List (List Fnd),A=Ls.flatten∧∀l∈Ls,Asc l∧l.length=bs
theorem Ahead.add{bs a:Nat}{A M:List Fnd}(h:Ahead bs a A)(hM:Asc M)(hl:M.length=bs):Ahead bs (a+bs) (A++M):=by
 obtain⟨h1,Ls,h2,h3⟩:=h;refine⟨by rw[List.length_append];omega,Ls++[M],by rw[h2];simp,fun l hl2=>?_⟩
 rcases List.mem_append.1 hl2 with e|e
 ·exact h3 l e
 ·rw[List.mem_singleton]at e;subst e;exact⟨hM,hl⟩
theorem Ahead.nil(bs:Nat):Ahead bs 0 []:=⟨rfl,[],rfl,fun l hl=>by cases hl⟩
theorem Ahead.runs{bs a:Nat}{A Z:List Fnd}(h:Ahead bs a A)(hZ:Asc Z)(hl:Z.length<bs):Runs bs (A++Z):=by
 obtain⟨-,Ls,h2,h3⟩:=h;exact⟨Ls,Z,by rw[h2],h3,hZ,hl⟩
theorem Runs.done{bs:Nat}{E:List Fnd}(h:Runs bs E)(hl:E.length≤bs):Asc E:=by
 obtain⟨Ls,Z,rfl,h1,h2,h3⟩:=h;have e:=flat_len bs Ls (fun l hl=>(h1 l hl).2)
 rw[List.length_append,e]at hl
 match Ls,e,hl,h1 with
 | [],_,_,_=>simpa using h2
 | [l],_,hl,h1=>
  simp at hl;have:Z=[]:=List.eq_nil_of_length_eq_zero (by omega)
  subst this
  simpa using(h1 l (by simp)).1
 |l::l2::Ls,_,hl,h1=>
  exfalso
  simp only[List.length_cons]at hl;have hb:bs*(Ls.length+1+1)=bs*Ls.length+bs+bs:=by rw[Nat.mul_succ,Nat.mul_succ]
  omega
theorem Runs.two{bs:Nat}{E:List Fnd}(h:Runs bs E)(hl:2*bs≤E.length):∃L R Y,E=L++(R++Y)∧Asc L∧Asc R∧L.length=bs∧R.length=bs∧Runs bs Y:=by
 obtain⟨Ls,Z,rfl,h1,h2,h3⟩:=h;have e:=flat_len bs Ls (fun l hl=>(h1 l hl).2)
 rw[List.length_append,e]at hl
 match Ls,e,hl,h1 with
 | [],_,hl,_=>simp at hl;omega
 | [l],_,hl,_=>simp at hl;omega
 |l::r::Ls,_,_,h1=>
  exact⟨l,r,Ls.flatten++Z,by simp,(h1 l (by simp)).1,(h1 r (by simp)).1,(h1 l (by simp)).2,(h1 r (by simp)).2,Ls,Z,rfl,fun x hx=>h1 x (by simp[hx]),h2,h3⟩
theorem Runs.one{bs:Nat}{E:List Fnd}(h:Runs bs E)(hl:bs<E.length)(hu:E.length<2*bs):∃L Z,E=L++Z∧Asc L∧Asc Z∧L.length=bs∧Z.length=E.length-bs:=by
 obtain⟨Ls,Z,rfl,h1,h2,h3⟩:=h;have e:=flat_len bs Ls (fun l hl=>(h1 l hl).2)
 rw[List.length_append,e]at hl hu
 match Ls,e,hl,hu,h1 with
 | [],_,hl,_,_=>simp at hl;omega
 | [l],_,_,_,h1=>
  have h4:=(h1 l (by simp)).2
  exact⟨l,Z,by simp,(h1 l (by simp)).1,h2,h4,by simp;omega⟩
 |l::r::Ls,_,_,hu,_=>
  exfalso
  simp only[List.length_cons]at hu;have hb:bs*(Ls.length+1+1)=bs*Ls.length+bs+bs:=by rw[Nat.mul_succ,Nat.mul_succ]
  omega
theorem stable(g N cap:Nat)(D:List Fnd)(w:World)(hN:N≤100000000000000)(hl:D.length=N)(hr:SRow w g D):
 Calls Tryz.prog 131 #[.slice (some ⟨g,0,none⟩) N cap,.int .i64 N,.func (.func 112) #[] #[]] w fun e w'=>e=.returned (.tuple #[])∧∃M,Asc M∧Akin D M∧M.length=D.length∧Sorted w w' g M:=by
 have HL:=hide hl;have HS0:Hid (Sorted w w g D):=⟨Kept2.refl _ _,hr⟩;clear hl hr;go_enter Tryz.func131,Tryz.ntmps131;go_wp2;go_loopw [7,8] (fun av bv wr=>∃(a:Nat) (A X:List Fnd),av=.int .i64 a∧bv=.int .i64 ((a:Int)+20)∧a≤N∧Hid (Ahead 20 a A)∧Hid (a+X.length=N)∧Hid (Akin D (A++X))∧Hid (Sorted w wr g (A++X))) (fun av _ _=>N-(intOf av).toNat)
 case atStart=>exact⟨0,[],D,rfl,by first|rfl|go_num,Nat.zero_le _,Ahead.nil _,by show _=_;rw[HL.out];omega,Akin.refl _,HS0⟩
 case round=>
  obtain⟨a,A,X,rfl,rfl,r1,HA,HX,HK,HS⟩:=hrel;clear HS0;obtain⟨b,hb⟩:∃b:Nat,(a:Int)+20=b:=⟨a+20,by omega⟩
  have hb':Hid (b=a+20):=by show _=_;omega
  by_cases hle:(b:Int)≤N
  ·have C:=hide (insertion g N cap a b A (X.take 20) (X.drop 20) wr (by omega) (by rw[List.take_append_drop,List.length_append];have:=HA.out.1;have:=HX.out;omega) HA.out.1 (by rw[List.length_take];have:=HX.out;omega) (by rw[List.take_append_drop];exact HS.out.2))
   go_wp2_with fail;refine C.out.mono ?_;rintro e w2 ⟨rfl,M,m1,m2,m3,m4⟩;have l20:M.length=20:=by rw[m3,List.length_take];have:=HX.out;omega
   have NA:=hide (HA.out.add m1 l20);have NX:Hid ((a+20)+(X.drop 20).length=N):=by show _=_;rw[List.length_drop];have:=HX.out;omega
   have NK:Hid (Akin D ((A++M)++X.drop 20)):=by
    refine HK.out.trans ?_;have:=(Akin.refl A).app (m2.app (Akin.refl (X.drop 20)));rw[List.take_append_drop]at this
    simpa using this
   have NS:Hid (Sorted w w2 g ((A++M)++X.drop 20)):=by
    have:=HS.out.trans m4;rw[List.append_assoc];exact this
   clear m1 m2 m3 m4 l20 C HA HX HK HS;go_wp2;go_roundw
   case rel=>exact⟨a+20,A++M,X.drop 20,by have:=hb'.out;simp;omega,by have:=hb'.out;simp;omega,by have:=hb'.out;omega,NA,NX,NK,NS⟩
   case measure=>have:=hb'.out;simp[intOf];omega
  ·have C:=hide (insertion g N cap a N A X [] wr (by omega) (by rw[List.append_nil,List.length_append];have:=HA.out.1;have:=HX.out;omega) HA.out.1 HX.out (by rw[List.append_nil];exact HS.out.2))
   go_wp2_with fail;refine C.out.mono ?_;rintro e w2 ⟨rfl,M,m1,m2,m3,m4⟩;have E0:Hid (Runs 20 (A++M)∧Akin D (A++M)∧(A++M).length=N):=by
    refine⟨HA.out.runs m1 (by rw[m3];have:=HX.out;have:=hb'.out;omega),HK.out.trans ((Akin.refl A).app m2),?_⟩
    rw[List.length_append,m3];have:=HA.out.1;have:=HX.out;omega
   have NS:Hid (Sorted w w2 g (A++M)):=by
    have:=HS.out.trans m4;rw[List.append_nil]at this;exact this
   generalize A++M=E at E0 NS;clear m1 m2 m3 m4 C HA HX HK HS hle hb;go_wp2;go_loopw [6] (fun sv wr=>∃(s:Nat) (E:List Fnd),sv=.int .i64 s∧20≤s∧s≤2*N+20∧Hid (Runs s E∧Akin D E∧E.length=N)∧Hid (Sorted w wr g E)) (fun sv _=>2*N+40-(intOf sv).toNat)
   case atStart=>exact⟨20,E,rfl,Nat.le_refl _,by omega,E0,NS⟩
   case round=>
    rename World=>wo
    obtain⟨s,E,rfl,s1,s2,HE,HS⟩:=hrel;clear E0 NS;by_cases hlt:(s:Int)<N
    ·obtain⟨d,hd⟩:∃d:Nat,2*(s:Int)=d:=⟨2*s,by omega⟩
     have hd':Hid (d=2*s):=by show _=_;omega
     have hsd:(s:Int)*2=d:=by omega
     go_wp2;go_loopw [7,8] (fun av bv wr=>∃(a:Nat) (A X:List Fnd),av=.int .i64 a∧bv=.int .i64 ((a:Int)+d)∧a≤N∧Hid (Ahead d a A)∧Hid (Runs s X)∧Hid (a+X.length=N)∧Hid (Akin D (A++X))∧Hid (Sorted w wr g (A++X))) (fun av _ _=>N-(intOf av).toNat)
     case atStart=>exact⟨0,[],E,rfl,by first|rfl|(simp;done)|go_num,Nat.zero_le _,Ahead.nil _,HE.out.1,by show _=_;have:=HE.out.2.2;omega,HE.out.2.1,HS⟩
     case round=>
      obtain⟨a,A,X,rfl,rfl,q1,HA,HR,HX,HK,HS⟩:=hrel;obtain⟨b,hb⟩:∃b:Nat,(a:Int)+d=b:=⟨a+d,by omega⟩
      obtain⟨m,hm⟩:∃m:Nat,(a:Int)+s=m:=⟨a+s,by omega⟩
      have hb':Hid (b=a+2*s):=by show _=_;have:=hd'.out;omega
      have hm':Hid (m=a+s):=by show _=_;omega
      by_cases hle:(b:Int)≤N
      ·obtain⟨L,R,Y,e1,e2,e3,e4,e5,e6⟩:=HR.out.two (by have:=HX.out;have:=hb'.out;omega)
       have C:=hide (symMerge_all (L.length+R.length) g N cap a m b A L R Y wr (by omega) (by rw[←e1,List.length_append];have:=HA.out.1;have:=HX.out;omega) HA.out.1 (by have:=hm'.out;omega) (by have:=hm'.out;have:=hb'.out;omega) (by omega) (by omega) (Nat.le_refl _) e2 e3 (by rw[←e1];exact HS.out.2))
       go_wp2_with fail;refine C.out.mono ?_;rintro e w2 ⟨rfl,M,m1,m2,m3,m4⟩;have NA:Hid (Ahead d (a+d) (A++M)):=HA.out.add m1 (by have:=hd'.out;omega)
       have NX:Hid ((a+d)+Y.length=N):=by
        show _=_;have h1:=HX.out;have:=hd'.out;rw[e1,List.length_append,List.length_append]at h1;omega
       have NK:Hid (Akin D ((A++M)++Y)):=by
        refine HK.out.trans ?_;rw[e1];have:=(Akin.refl A).app (m2.app (Akin.refl Y))
        simpa using this
       have NS:Hid (Sorted w w2 g ((A++M)++Y)):=by
        have:=HS.out.trans m4;rw[List.append_assoc];exact this
       have NR:=hide e6;clear m1 m2 m3 m4 C HA HX HK HS HR e1 e2 e3 e4 e5 e6;go_wp2;go_roundw
       case rel=>exact⟨a+d,A++M,Y,by have:=hb'.out;have:=hd'.out;simp;omega,by have:=hb'.out;have:=hd'.out;simp;omega,by have:=hb'.out;have:=hd'.out;omega,NA,NR,NX,NK,NS⟩
       case measure=>have:=hb'.out;simp[intOf];omega
      ·by_cases hmn:(m:Int)<N
       ·obtain⟨L,Z,e1,e2,e3,e4,e5⟩:=HR.out.one (by have:=HX.out;have:=hm'.out;omega) (by have:=HX.out;have:=hb'.out;omega)
        have C:=hide (symMerge_all (L.length+Z.length) g N cap a m N A L Z [] wr (by omega) (by rw[List.append_nil,←e1,List.length_append];have:=HA.out.1;have:=HX.out;omega) HA.out.1 (by have:=hm'.out;omega) (by have:=hm'.out;have:=HX.out;omega) (by omega) (by have:=hm'.out;have:=HX.out;omega) (Nat.le_refl _) e2 e3 (by rw[List.append_nil,←e1];exact HS.out.2))
        go_wp2_with fail;refine C.out.mono ?_;rintro e w2 ⟨rfl,M,m1,m2,m3,m4⟩;have NE:Hid (Runs d (A++M)∧Akin D (A++M)∧(A++M).length=N):=by
         refine⟨HA.out.runs m1 (by have:=hd'.out;have:=HX.out;have:=hb'.out;omega),HK.out.trans (by rw[e1];exact(Akin.refl A).app m2),?_⟩
         rw[List.length_append];have:=HA.out.1;have:=HX.out;omega
        have NS:Hid (Sorted w w2 g (A++M)):=by
         have:=HS.out.trans m4;rw[List.append_nil]at this;exact this
        clear m1 m2 m3 m4 C HA HX HK HS HR e1 e2 e3 e4 e5;go_wp2;go_roundw
        case rel=>exact⟨d,A++M,by first|rfl|go_num,by have:=hd'.out;omega,by have:=hd'.out;omega,NE,NS⟩
        case measure=>have:=hd'.out;simp[intOf];omega
       ·have NE:Hid (Runs d (A++X)∧Akin D (A++X)∧(A++X).length=N):=by
         refine⟨HA.out.runs (HR.out.done (by have:=HX.out;have:=hm'.out;omega)) (by have:=hd'.out;have:=HX.out;have:=hm'.out;omega),HK.out,?_⟩
         rw[List.length_append];have:=HA.out.1;have:=HX.out;omega
        have NS:=HS;clear HA HX HK HS HR;go_wp2;go_roundw
        case rel=>exact⟨d,A++X,by first|rfl|go_num,by have:=hd'.out;omega,by have:=hd'.out;omega,NE,NS⟩
        case measure=>have:=hd'.out;simp[intOf];omega
    ·have PF:Hid (∃M,Asc M∧Akin D M∧M.length=D.length∧Sorted w wo g M):=⟨E,HE.out.1.done (by have:=HE.out.2.2;omega),HE.out.2.1,by rw[HE.out.2.2,HL.out],HS.out⟩
     clear HE HS;go_wp2
     first|go_end0|refine bodyPost_ret (results_none rfl _ _ _) rfl ?_
     exact⟨rfl,PF.out⟩
theorem sortStable(g N cap:Nat)(D:List Fnd)(w:World)(hN:N≤100000000000000)(hl:D.length=N)(hr:SRow w g D):
 Calls Tryz.prog 111 #[.slice (some ⟨g,0,none⟩) N cap,.func (.func 112) #[] #[]] w fun e w'=>e=.returned (.tuple #[])∧∃M,Asc M∧Akin D M∧M.length=D.length∧Sorted w w' g M:=by
 have C:=hide (stable g N cap D w hN hl hr);clear hl hr;go_enter Tryz.func111,Tryz.ntmps111;go_wp2_with fail;refine C.out.mono ?_;rintro e w2 ⟨rfl,hp⟩;have PF:=hide hp;clear hp;go_wp2
 first|go_end0|refine bodyPost_ret (results_none rfl _ _ _) rfl ?_
 exact⟨rfl,PF.out⟩
end Go.Proofs.YtiicghepilbgfaaGreatDoor
namespace Go.Proofs.YtiicghepilbgfaaGreatDoor
open Go.RowKit
open Words Sums
def FRes(w:World)(B:Nat)(u:Value)(M:List Fnd):Prop:=(u=.slice none 0 0∧M=[])∨∃g cap,u=.slice (some ⟨g,0,none⟩) M.length cap∧B≤g∧SRow w g M∧M.length≤1000000000000000000
theorem own_fres{w:World}{B:Nat}{u:Value}{l:List Fnd}(h:w.ownsRow B 106 8 u l.length (fcells l))(hl:l.length≤1000000000000000000):FRes w B u l:=by
 obtain⟨h1,h2⟩:=h;rcases h2 with⟨rfl,h3⟩|⟨g,cap,cur,rfl,h3,h4,h5,h6,h7,h8⟩
 ·exact .inl ⟨rfl,List.eq_nil_of_length_eq_zero h3⟩
 ·refine .inr ⟨g,cap,rfl,h3,⟨cur,h4,fun i x hx j v hv=>?_⟩,hl⟩
  have:=fcells_at l i x hx j v hv;rw[←h8]at this;obtain⟨h9,h10⟩:=List.getElem?_eq_some_iff.1 this;rw[List.getElem_take]at h10;rw[List.length_take]at h9;rw[←Array.getElem?_toList,List.getElem?_eq_some_iff];exact⟨by omega,h10⟩
theorem sort_nil(w:World):
 Calls Tryz.prog 111 #[.slice none 0 0,.func (.func 112) #[] #[]] w fun e w'=>e=.returned (.tuple #[])∧Below w.heap.size w w':=by
 have CI:Hid (∀W,Calls Tryz.prog 149 #[.slice none 0 0,.int .i64 0,.int .i64 0,.func (.func 112) #[] #[]] W fun e w'=>e=.returned (.tuple #[])∧w'=W):=by
  intro W;go_enter Tryz.func149,Tryz.ntmps149;go_wp2;go_loopw [8] (fun iv wr=>iv=.int .i64 1∧wr=W) (fun _ _=>0)
  case atStart=>exact⟨rfl,rfl⟩
  case round=>
   obtain⟨rfl,rfl⟩:=hrel;go_wp2
   first|go_end0|refine bodyPost_ret (results_none rfl _ _ _) rfl ?_
   exact⟨rfl,rfl⟩
 have CS:Hid (∀W,Calls Tryz.prog 131 #[.slice none 0 0,.int .i64 0,.func (.func 112) #[] #[]] W fun e w'=>e=.returned (.tuple #[])∧w'=W):=by
  intro W;go_enter Tryz.func131,Tryz.ntmps131;go_wp2;go_loopw [7,8] (fun av bv wr=>av=.int .i64 0∧bv=.int .i64 20∧wr=W) (fun _ _ _=>0)
  case atStart=>exact⟨rfl,rfl,rfl⟩
  case round=>
   obtain⟨rfl,rfl,rfl⟩:=hrel;go_wp2_with fail;refine(CI.out _).mono ?_;rintro e w1 ⟨rfl,rfl⟩;go_wp2;go_loopw [6] (fun sv wr=>sv=.int .i64 20∧wr=w1) (fun _ _=>0)
   case atStart=>exact⟨rfl,rfl⟩
   case round=>
    obtain⟨rfl,rfl⟩:=hrel;go_wp2
    first|go_end0|refine bodyPost_ret (results_none rfl _ _ _) rfl ?_
    exact⟨rfl,rfl⟩
 go_enter Tryz.func111,Tryz.ntmps111;go_wp2_with fail;refine(CS.out _).mono ?_;rintro e w1 ⟨rfl,rfl⟩;go_wp2
 first|go_end0|refine bodyPost_ret (results_none rfl _ _ _) rfl ?_
 exact⟨rfl,Below.refl _ _⟩
theorem iscan_rd(v:Value)(rs:List Rw)(w:World)(hl:rs.length≤1048576)(hll:∀r∈rs,r.2.2.2.length≤1048576)(htx:TxB rs)(ha:FlashRd w v rs)(ht:HalvIn w):
 Calls Tryz.prog 76 #[.agg #[v]] w fun e w'=>∃u M,e=.returned u∧Asc M∧Akin (founds (rs.map tellOf) rs.length) M∧FRes w' w.heap.size u M∧Below w.heap.size w w':=by
 obtain⟨i0,hi0,hz0,hz1,hz2⟩:=info_parts infoFound;have h1:=ha;obtain⟨vd,vcap,rfl,-⟩:=h1;have HT:=hide ht;have HTX:=hide htx;have HLL:=hide hll;obtain⟨n,hn⟩:∃n,rs.length=n:=⟨_,rfl⟩;have HN:=hide hn;have HF2:=hide ha;rw[hn]at hl HF2⊢;have b0:Below w.heap.size w (w.alloc (.cells #[.slice vd n vcap] 49)):=(Below.refl _ _).alloc (Nat.le_refl _) _;have S0:Hid (Scn w (w.alloc (.cells #[.slice vd n vcap] 49)) (.slice vd n vcap) (.slice none 0 0) []):=⟨b0,heap_alloc_new _ _,World.ownsRow_nil _ _ _ _⟩;clear ha ht htx hll hn b0;go_enter Tryz.func76,Tryz.ntmps76;go_wp2;go_loopw [3,11] (fun out bv wr=>∃(b:Nat) (l:List Fnd),bv=.int .i64 b∧b≤n∧l.length≤b*1048576∧Hid (l=founds (rs.map tellOf) b)∧Hid (Scn w wr (.slice vd n vcap) out l)) (fun _ bv _=>n-(intOf bv).toNat)
 case atStart=>exact⟨0,[],rfl,Nat.zero_le _,by simp,rfl,S0⟩
 case round=>
  rename World=>wo
  obtain⟨b,l,rfl,r1,rlen,HLd,HS⟩:=hrel;clear S0;have cf:wo.cell? ⟨w.heap.size,0,none⟩=some (.slice vd n vcap):=cell_of_row _ _ 0 _ _ _ HS.out.2.1;by_cases hlt:(b:Int)<n
  ·have hbl:b<rs.length:=by have:=HN.out;omega
   obtain⟨r,hr⟩:∃r,rs[b]?=some r:=⟨_,List.getElem?_eq_getElem hbl⟩;obtain⟨gv,e,⟨-,-,c3⟩,hlf⟩:=(HF2.out.below HS.out.1).at hr;subst e;obtain⟨ld,lc,e2,-⟩:=hlf;have hml:=HLL.out r (List.mem_of_getElem? hr);obtain⟨m,hm⟩:∃m,r.2.2.2.length=m:=⟨_,rfl⟩;have c3':wo.cell? ⟨gv,b*3+2,none⟩=some (.slice ld m lc):=by rw[c3,e2,hm]
   rw[hm]at hml;have HM:Hid (founds (rs.map tellOf) (b+1)=founds (rs.map tellOf) b++foundsAt (rs.map tellOf) b m):=by
    show _=_;simp only[founds,List.getElem?_map,hr,Option.map_some,Option.getD_some];show founds _ b++foundsAt _ b (tellOf r).2.2.length=_;rw[show(tellOf r).2.2.length=m from hm]
   have b0:(0:Int)≤b:=by omega
   have L0:Hid (l=founds (rs.map tellOf) b++foundsAt (rs.map tellOf) b 0):=by show _=_;rw[HLd.out];simp[foundsAt]
   clear c3 e2 hr hbl hm;go_wp2;go_loopw [3,21] (fun out kv wr=>∃(k:Nat) (l2:List Fnd),kv=.int .i64 k∧k≤m∧l2.length≤b*1048576+k∧Hid (l2=founds (rs.map tellOf) b++foundsAt (rs.map tellOf) b k)∧Hid (Scn w wr (.slice (some ⟨gv,0,none⟩) n vcap) out l2)) (fun _ kv _=>m-(intOf kv).toNat)
   case atStart=>exact⟨0,l,rfl,Nat.zero_le _,Nat.le_trans rlen (Nat.le_add_right _ _),L0,HS⟩
   case round=>
    rename Value=>vout
    obtain⟨k,l2,rfl,t1,tlen,HL2,HS2⟩:=hrel;clear HS L0 cf c3';have cf:wr.cell? ⟨w.heap.size,0,none⟩=some (.slice (some ⟨gv,0,none⟩) n vcap):=cell_of_row _ _ 0 _ _ _ HS2.out.2.1;by_cases hk:(k:Int)<m
    ·have C:=hide (pageAt_rd (.slice (some ⟨gv,0,none⟩) n vcap) rs (b:Int) (k:Int) wr (by have:=HN.out;omega) HLL.out HTX.out (HF2.out.below HS2.out.1) (HT.out.on HS2.out.1))
     cases ho:leafPg (rs.map tellOf) (b:Int) (k:Int)with
     |none=>
      rw[ho]at C;unfold pgRes pgVal at C;simp only at C;have NL:Hid (l2=founds (rs.map tellOf) b++foundsAt (rs.map tellOf) b (k+1)):=by show _=_;rw[HL2.out];simp[foundsAt,ho]
      clear ho HL2;go_wp2_with fail;refine C.out.mono ?_;rintro e w2 ⟨rfl,b2⟩;have S3:=hide ((HS2.out.below b2).below ((Below.refl _ _).alloc (Nat.le_refl _) (.cells #[.int .i64 0,.int .i64 0,.int .i64 0,.int .i64 0,.int .i64 0,.string ⟨#[]⟩] 102)));clear b2 HS2 C;go_wp2;go_roundw
      case rel=>exact⟨k+1,l2,by go_num,by omega,by omega,NL,S3⟩
      case measure=>simp[intOf];omega
     |some pg=>
      rw[ho]at C;obtain⟨q1,q2,q3,q4,q5,q6⟩:=pg;unfold pgRes pgVal at C;simp only at C;have NL:Hid (l2++[⟨b,k,⟨q1,q2,q3,q4,q5,q6⟩⟩]=founds (rs.map tellOf) b++foundsAt (rs.map tellOf) b (k+1)):=by show _=_;rw[HL2.out];simp[foundsAt,ho]
      clear ho HL2;go_wp2_with fail;refine C.out.mono ?_;rintro e w2 ⟨rfl,b2⟩;have ba:=(Below.refl w2.heap.size w2).alloc (Nat.le_refl _) (.cells #[.int .i64 q1,.int .i64 q2,.int .i64 q3,.int .i64 q4,.int .i64 q5,.string q6] 102);have S3:=hide ((HS2.out.below b2).below ba);have z3:(w2.alloc (.cells #[.int .i64 q1,.int .i64 q2,.int .i64 q3,.int .i64 q4,.int .i64 q5,.string q6] 102)).heap.size=w2.heap.size+1:=by simp
      have HN5:=hide (cells_new (w2.alloc (.cells #[.int .i64 q1,.int .i64 q2,.int .i64 q3,.int .i64 q4,.int .i64 q5,.string q6] 102)) ([Value.int .i64 (b:Int),Value.int .i64 (k:Int),Value.int .i64 q1,Value.int .i64 q2,Value.int .i64 q3,Value.int .i64 q4,Value.int .i64 q5,Value.string q6]:List Value).toArray 106 (w2.heap.size+1) z3);clear b2 HS2 C ba;go_wp2_with (at_builtin;refine wpList_append_own _ rfl _ _ 69 rfl (w.heap.size+1) 106 i0 (.agg #[.int .i64 0,.int .i64 0,.int .i64 0,.int .i64 0,.int .i64 0,.int .i64 0,.int .i64 0,.string ⟨#[]⟩]) 8 72 Tryz.underlying69 hi0 hz0 hz1 hz2 rfl (by decide) _ l2.length (fcells l2) rfl (S3.out.2.2.alloc _) ⟨w2.heap.size+1,0,none⟩ 1 1 [Value.int .i64 (b:Int),Value.int .i64 (k:Int),Value.int .i64 q1,Value.int .i64 q2,Value.int .i64 q3,Value.int .i64 q4,Value.int .i64 q5,Value.string q6] rfl rfl HN5.out (fd_one ⟨b,k,⟨q1,q2,q3,q4,q5,q6⟩⟩) ?g1 ?g2 ?g3 ?_)
      case g1=>unfold maxLen;omega
      case g2=>omega
      case g3=>have:=S3.out.1.size;simp;omega
      intro v' w4 hown hgrow _;have NS:Hid (Scn w w4 (.slice (some ⟨gv,0,none⟩) n vcap) v' (l2++[⟨b,k,⟨q1,q2,q3,q4,q5,q6⟩⟩])):=by
       have bz:=S3.out.below ((Below.refl _ _).alloc (Nat.le_refl _) (.cells (fdCells ⟨b,k,⟨q1,q2,q3,q4,q5,q6⟩⟩).toArray 106));have lt0:=(Array.getElem?_eq_some_iff.1 bz.2.1).1;refine⟨bz.1.grown hgrow bz.1.size (fun x hx=>Nat.le_of_succ_le (S3.out.2.2.lt x hx).1),(hgrow.block w.heap.size lt0 (fun e=>?_)).trans bz.2.1,?_⟩
       ·have:=(S3.out.2.2.lt _ e.symm).1;omega
       ·rw[List.length_append,←fcells_snoc];exact hown
      have NN:(l2++[(⟨b,k,⟨q1,q2,q3,q4,q5,q6⟩⟩:Fnd)]).length=l2.length+1:=by simp
      generalize l2++[(⟨b,k,⟨q1,q2,q3,q4,q5,q6⟩⟩:Fnd)]=l3 at NL NS NN;clear hown hgrow S3 HN5;go_wp2;go_roundw
      case rel=>exact⟨k+1,l3,by go_num,by omega,by omega,NL,NS⟩
      case measure=>simp[intOf];omega
    ·have hkm:k=m:=by omega
     have NL:Hid (l2=founds (rs.map tellOf) (b+1)):=by show _=_;rw[HL2.out,HM.out,hkm]
     clear HL2 hkm;go_wp2;go_roundw
     case rel=>exact⟨b+1,l2,by go_num,by omega,by omega,NL,HS2⟩
     case measure=>simp[intOf];omega
  ·have hbn:b=n:=by omega
   have HLn:Hid (l=founds (rs.map tellOf) n):=by show _=_;rw[HLd.out,hbn]
   have hres:=own_fres HS.out.2.2 (by omega)
   rcases hres with⟨e1,e2⟩|⟨g,cap,e1,hg,hsr,-⟩
   ·subst e1 e2;have B1:=hide HS.out.1;clear HS cf HLd hbn;go_wp2_with fail;refine(sort_nil _).mono ?_;rintro e w2 ⟨rfl,b2⟩;have B2:=hide (B1.out.trans (b2.mono B1.out.size));clear b2 B1;go_wp2;go_ret;exact⟨_,[],rfl,List.Pairwise.nil,by rw[←HLn.out];exact Akin.refl _,.inl ⟨rfl,rfl⟩,B2.out⟩
   ·subst e1;obtain⟨nl,hnl⟩:∃nl,l.length=nl:=⟨_,rfl⟩;rw[hnl]at rlen;have C:=hide (sortStable g nl cap l wo (by omega) hnl hsr)
    have B1:=hide HS.out.1;rw[hnl];have HNL:=hide hnl;have hg2:w.heap.size≤g:=by omega
    clear HS cf HLd hbn hsr hnl;go_wp2_with fail;refine C.out.mono ?_;rintro e w2 ⟨rfl,M,m1,m2,m3,m4⟩;have B2:=hide (B1.out.trans (Kept2.down (B:=w.heap.size) m4.1 B1.out.size (fun i hi=>by omega)))
    have PF:Hid (Asc M∧Akin (founds (rs.map tellOf) n) M∧FRes w2 w.heap.size (.slice (some ⟨g,0,none⟩) nl cap) M):=⟨m1,by rw[←HLn.out];exact m2,.inr ⟨g,cap,by rw[m3,HNL.out],hg2,m4.2,by rw[m3,HNL.out];omega⟩⟩
    clear m1 m2 m3 m4 B1 C;go_wp2;go_ret;exact⟨_,M,rfl,PF.out.1,PF.out.2.1,PF.out.2.2,B2.out⟩
end Go.Proofs.YtiicghepilbgfaaGreatDoor
