/-
  Stable
-/
import Derived.Test.YtpdoponghlpkcaaDoorSymM
import Derived.Test.YtpdoponghlpkcaaDoorIns
set_option maxHeartbeats 4000000
set_option maxRecDepth 100000
namespace Go.Proofs.YtpdoponghlpkcaaDoor
open Go.RowKit
open Words
theorem flat_len(k:Nat):∀(Ls:List (List Fnd)),(∀l∈Ls,l.length=k)→Ls.flatten.length=k*Ls.length:=by
 intro Ls
 induction Ls with
 |nil=>intro _;simp
 |cons l Ls ih=>
  intro h;rw[List.flatten_cons,List.length_append,h l List.mem_cons_self,ih (fun x hx=>h x (List.mem_cons_of_mem _ hx)),List.length_cons,Nat.mul_succ]
  omega
def Runs(bs:Nat)(E:List Fnd):Prop:=∃(Ls:List (List Fnd)) (Z:List Fnd),E=Ls.flatten++Z∧(∀l∈Ls,Asc l∧l.length=bs)∧Asc Z∧Z.length<bs
def Ahead(bs a:Nat)(A:List Fnd):Prop:=A.length=a∧∃Ls:List (List Fnd),A=Ls.flatten∧∀l∈Ls,Asc l∧l.length=bs
theorem Ahead.add{bs a:Nat}{A M:List Fnd}(h:Ahead bs a A)(hM:Asc M)(hl:M.length=bs):Ahead bs (a+bs) (A++M):=by
 obtain⟨h1,Ls,h2,h3⟩:=h;refine⟨by rw[List.length_append];omega,Ls++[M],by rw[h2];simp,fun l hl2=>?_⟩
 rcases List.mem_append.1 hl2 with e|e
 ·exact h3 l e
 ·rw[List.mem_singleton]at e;subst e;exact⟨hM,hl⟩
theorem Ahead.nil(bs:Nat):Ahead bs 0 []:=⟨rfl,[],rfl,fun l hl=>by cases hl⟩
theorem Ahead.runs{bs a:Nat}{A Z:List Fnd}(h:Ahead bs a A)(hZ:Asc Z)(hl:Z.length<bs):Runs bs (A++Z):=by
 obtain⟨-,Ls,h2,h3⟩:=h;exact⟨Ls,Z,by rw[h2],h3,hZ,hl⟩
theorem Runs.done{bs:Nat}{E:List Fnd}(h:Runs bs E)(hl:E.length≤bs):Asc E:=by
 obtain⟨Ls,Z,rfl,h1,h2,h3⟩:=h;have e:=flat_len bs Ls (fun l hl=>(h1 l hl).2)
 rw[List.length_append,e]at hl
 match Ls,e,hl,h1 with
 | [],_,_,_=>simpa using h2
 | [l],_,hl,h1=>
  simp at hl;have:Z=[]:=List.eq_nil_of_length_eq_zero (by omega)
  subst this
  simpa using(h1 l (by simp)).1
 |l::l2::Ls,_,hl,h1=>
  exfalso
  simp only[List.length_cons]at hl;have hb:bs*(Ls.length+1+1)=bs*Ls.length+bs+bs:=by rw[Nat.mul_succ,Nat.mul_succ]
  omega
theorem Runs.two{bs:Nat}{E:List Fnd}(h:Runs bs E)(hl:2*bs≤E.length):∃L R Y,E=L++(R++Y)∧Asc L∧Asc R∧L.length=bs∧R.length=bs∧Runs bs Y:=by
 obtain⟨Ls,Z,rfl,h1,h2,h3⟩:=h;have e:=flat_len bs Ls (fun l hl=>(h1 l hl).2)
 rw[List.length_append,e]at hl
 match Ls,e,hl,h1 with
 | [],_,hl,_=>simp at hl;omega
 | [l],_,hl,_=>simp at hl;omega
 |l::r::Ls,_,_,h1=>
  exact⟨l,r,Ls.flatten++Z,by simp,(h1 l (by simp)).1,(h1 r (by simp)).1,(h1 l (by simp)).2,(h1 r (by simp)).2,Ls,Z,rfl,fun x hx=>h1 x (by simp[hx]),h2,h3⟩
theorem Runs.one{bs:Nat}{E:List Fnd}(h:Runs bs E)(hl:bs<E.length)(hu:E.length<2*bs):∃L Z,E=L++Z∧Asc L∧Asc Z∧L.length=bs∧Z.length=E.length-bs:=by
 obtain⟨Ls,Z,rfl,h1,h2,h3⟩:=h;have e:=flat_len bs Ls (fun l hl=>(h1 l hl).2)
 rw[List.length_append,e]at hl hu
 match Ls,e,hl,hu,h1 with
 | [],_,hl,_,_=>simp at hl;omega
 | [l],_,_,_,h1=>
  have h4:=(h1 l (by simp)).2
  exact⟨l,Z,by simp,(h1 l (by simp)).1,h2,h4,by simp;omega⟩
 |l::r::Ls,_,_,hu,_=>
  exfalso
  simp only[List.length_cons]at hu;have hb:bs*(Ls.length+1+1)=bs*Ls.length+bs+bs:=by rw[Nat.mul_succ,Nat.mul_succ]
  omega
theorem stable(g N cap:Nat)(D:List Fnd)(w:World)(hN:N≤100000000000000)(hl:D.length=N)(hr:SRow w g D):
 Calls Tryd.prog 47 #[.slice (some ⟨g,0,none⟩) N cap,.int .i64 N,.func (.func 32) #[] #[]] w fun e w'=>e=.returned (.tuple #[])∧∃M,Asc M∧Akin D M∧M.length=D.length∧Sorted w w' g M:=by
 have HL:=hide hl;have HS0:Hid (Sorted w w g D):=⟨Kept2.refl _ _,hr⟩;clear hl hr;go_enter Tryd.func47,Tryd.ntmps47;go_wp2;go_loopw [7,8] (fun av bv wr=>∃(a:Nat) (A X:List Fnd),av=.int .i64 a∧bv=.int .i64 ((a:Int)+20)∧a≤N∧Hid (Ahead 20 a A)∧Hid (a+X.length=N)∧Hid (Akin D (A++X))∧Hid (Sorted w wr g (A++X))) (fun av _ _=>N-(intOf av).toNat)
 case atStart=>exact⟨0,[],D,rfl,by first|rfl|go_num,Nat.zero_le _,Ahead.nil _,by show _=_;rw[HL.out];omega,Akin.refl _,HS0⟩
 case round=>
  obtain⟨a,A,X,rfl,rfl,r1,HA,HX,HK,HS⟩:=hrel;clear HS0;obtain⟨b,hb⟩:∃b:Nat,(a:Int)+20=b:=⟨a+20,by omega⟩
  have hb':Hid (b=a+20):=by show _=_;omega
  by_cases hle:(b:Int)≤N
  ·have C:=hide (insertion g N cap a b A (X.take 20) (X.drop 20) wr (by omega) (by rw[List.take_append_drop,List.length_append];have:=HA.out.1;have:=HX.out;omega) HA.out.1 (by rw[List.length_take];have:=HX.out;omega) (by rw[List.take_append_drop];exact HS.out.2))
   go_wp2_with fail;refine C.out.mono ?_;rintro e w2 ⟨rfl,M,m1,m2,m3,m4⟩;have l20:M.length=20:=by rw[m3,List.length_take];have:=HX.out;omega
   have NA:=hide (HA.out.add m1 l20);have NX:Hid ((a+20)+(X.drop 20).length=N):=by show _=_;rw[List.length_drop];have:=HX.out;omega
   have NK:Hid (Akin D ((A++M)++X.drop 20)):=by
    refine HK.out.trans ?_;have:=(Akin.refl A).app (m2.app (Akin.refl (X.drop 20)));rw[List.take_append_drop]at this
    simpa using this
   have NS:Hid (Sorted w w2 g ((A++M)++X.drop 20)):=by
    have:=HS.out.trans m4;rw[List.append_assoc];exact this
   clear m1 m2 m3 m4 l20 C HA HX HK HS;go_wp2;go_roundw
   case rel=>exact⟨a+20,A++M,X.drop 20,by have:=hb'.out;simp;omega,by have:=hb'.out;simp;omega,by have:=hb'.out;omega,NA,NX,NK,NS⟩
   case measure=>have:=hb'.out;simp[intOf];omega
  ·have C:=hide (insertion g N cap a N A X [] wr (by omega) (by rw[List.append_nil,List.length_append];have:=HA.out.1;have:=HX.out;omega) HA.out.1 HX.out (by rw[List.append_nil];exact HS.out.2))
   go_wp2_with fail;refine C.out.mono ?_;rintro e w2 ⟨rfl,M,m1,m2,m3,m4⟩;have E0:Hid (Runs 20 (A++M)∧Akin D (A++M)∧(A++M).length=N):=by
    refine⟨HA.out.runs m1 (by rw[m3];have:=HX.out;have:=hb'.out;omega),HK.out.trans ((Akin.refl A).app m2),?_⟩
    rw[List.length_append,m3];have:=HA.out.1;have:=HX.out;omega
   have NS:Hid (Sorted w w2 g (A++M)):=by
    have:=HS.out.trans m4;rw[List.append_nil]at this;exact this
   generalize A++M=E at E0 NS;clear m1 m2 m3 m4 C HA HX HK HS hle hb;go_wp2;go_loopw [6] (fun sv wr=>∃(s:Nat) (E:List Fnd),sv=.int .i64 s∧20≤s∧s≤2*N+20∧Hid (Runs s E∧Akin D E∧E.length=N)∧Hid (Sorted w wr g E)) (fun sv _=>2*N+40-(intOf sv).toNat)
   case atStart=>exact⟨20,E,rfl,Nat.le_refl _,by omega,E0,NS⟩
   case round=>
    rename World=>wo
    obtain⟨s,E,rfl,s1,s2,HE,HS⟩:=hrel;clear E0 NS;by_cases hlt:(s:Int)<N
    ·obtain⟨d,hd⟩:∃d:Nat,2*(s:Int)=d:=⟨2*s,by omega⟩
     have hd':Hid (d=2*s):=by show _=_;omega
     have hsd:(s:Int)*2=d:=by omega
     go_wp2;go_loopw [7,8] (fun av bv wr=>∃(a:Nat) (A X:List Fnd),av=.int .i64 a∧bv=.int .i64 ((a:Int)+d)∧a≤N∧Hid (Ahead d a A)∧Hid (Runs s X)∧Hid (a+X.length=N)∧Hid (Akin D (A++X))∧Hid (Sorted w wr g (A++X))) (fun av _ _=>N-(intOf av).toNat)
     case atStart=>exact⟨0,[],E,rfl,by first|rfl|(simp;done)|go_num,Nat.zero_le _,Ahead.nil _,HE.out.1,by show _=_;have:=HE.out.2.2;omega,HE.out.2.1,HS⟩
     case round=>
      obtain⟨a,A,X,rfl,rfl,q1,HA,HR,HX,HK,HS⟩:=hrel;obtain⟨b,hb⟩:∃b:Nat,(a:Int)+d=b:=⟨a+d,by omega⟩
      obtain⟨m,hm⟩:∃m:Nat,(a:Int)+s=m:=⟨a+s,by omega⟩
      have hb':Hid (b=a+2*s):=by show _=_;have:=hd'.out;omega
      have hm':Hid (m=a+s):=by show _=_;omega
      by_cases hle:(b:Int)≤N
      ·obtain⟨L,R,Y,e1,e2,e3,e4,e5,e6⟩:=HR.out.two (by have:=HX.out;have:=hb'.out;omega)
       have C:=hide (symMerge_all (L.length+R.length) g N cap a m b A L R Y wr (by omega) (by rw[←e1,List.length_append];have:=HA.out.1;have:=HX.out;omega) HA.out.1 (by have:=hm'.out;omega) (by have:=hm'.out;have:=hb'.out;omega) (by omega) (by omega) (Nat.le_refl _) e2 e3 (by rw[←e1];exact HS.out.2))
       go_wp2_with fail;refine C.out.mono ?_;rintro e w2 ⟨rfl,M,m1,m2,m3,m4⟩;have NA:Hid (Ahead d (a+d) (A++M)):=HA.out.add m1 (by have:=hd'.out;omega)
       have NX:Hid ((a+d)+Y.length=N):=by
        show _=_;have h1:=HX.out;have:=hd'.out;rw[e1,List.length_append,List.length_append]at h1;omega
       have NK:Hid (Akin D ((A++M)++Y)):=by
        refine HK.out.trans ?_;rw[e1];have:=(Akin.refl A).app (m2.app (Akin.refl Y))
        simpa using this
       have NS:Hid (Sorted w w2 g ((A++M)++Y)):=by
        have:=HS.out.trans m4;rw[List.append_assoc];exact this
       have NR:=hide e6;clear m1 m2 m3 m4 C HA HX HK HS HR e1 e2 e3 e4 e5 e6;go_wp2;go_roundw
       case rel=>exact⟨a+d,A++M,Y,by have:=hb'.out;have:=hd'.out;simp;omega,by have:=hb'.out;have:=hd'.out;simp;omega,by have:=hb'.out;have:=hd'.out;omega,NA,NR,NX,NK,NS⟩
       case measure=>have:=hb'.out;simp[intOf];omega
      ·by_cases hmn:(m:Int)<N
       ·obtain⟨L,Z,e1,e2,e3,e4,e5⟩:=HR.out.one (by have:=HX.out;have:=hm'.out;omega) (by have:=HX.out;have:=hb'.out;omega)
        have C:=hide (symMerge_all (L.length+Z.length) g N cap a m N A L Z [] wr (by omega) (by rw[List.append_nil,←e1,List.length_append];have:=HA.out.1;have:=HX.out;omega) HA.out.1 (by have:=hm'.out;omega) (by have:=hm'.out;have:=HX.out;omega) (by omega) (by have:=hm'.out;have:=HX.out;omega) (Nat.le_refl _) e2 e3 (by rw[List.append_nil,←e1];exact HS.out.2))
        go_wp2_with fail;refine C.out.mono ?_;rintro e w2 ⟨rfl,M,m1,m2,m3,m4⟩;have NE:Hid (Runs d (A++M)∧Akin D (A++M)∧(A++M).length=N):=by
         refine⟨HA.out.runs m1 (by have:=hd'.out;have:=HX.out;have:=hb'.out;omega),HK.out.trans (by rw[e1];exact(Akin.refl A).app m2),?_⟩
         rw[List.length_append];have:=HA.out.1;have:=HX.out;omega
        have NS:Hid (Sorted w w2 g (A++M)):=by
         have:=HS.out.trans m4;rw[List.append_nil]at this;exact this
        clear m1 m2 m3 m4 C HA HX HK HS HR e1 e2 e3 e4 e5;go_wp2;go_roundw
        case rel=>exact⟨d,A++M,by first|rfl|go_num,by have:=hd'.out;omega,by have:=hd'.out;omega,NE,NS⟩
        case measure=>have:=hd'.out;simp[intOf];omega
       ·have NE:Hid (Runs d (A++X)∧Akin D (A++X)∧(A++X).length=N):=by
         refine⟨HA.out.runs (HR.out.done (by have:=HX.out;have:=hm'.out;omega)) (by have:=hd'.out;have:=HX.out;have:=hm'.out;omega),HK.out,?_⟩
         rw[List.length_append];have:=HA.out.1;have:=HX.out;omega
        have NS:=HS;clear HA HX HK HS HR;go_wp2;go_roundw
        case rel=>exact⟨d,A++X,by first|rfl|go_num,by have:=hd'.out;omega,by have:=hd'.out;omega,NE,NS⟩
        case measure=>have:=hd'.out;simp[intOf];omega
    ·have PF:Hid (∃M,Asc M∧Akin D M∧M.length=D.length∧Sorted w wo g M):=⟨E,HE.out.1.done (by have:=HE.out.2.2;omega),HE.out.2.1,by rw[HE.out.2.2,HL.out],HS.out⟩
     clear HE HS;go_wp2
     first|go_end0|refine bodyPost_ret (results_none rfl _ _ _) rfl ?_
     exact⟨rfl,PF.out⟩
theorem sortStable(g N cap:Nat)(D:List Fnd)(w:World)(hN:N≤100000000000000)(hl:D.length=N)(hr:SRow w g D):
 Calls Tryd.prog 31 #[.slice (some ⟨g,0,none⟩) N cap,.func (.func 32) #[] #[]] w fun e w'=>e=.returned (.tuple #[])∧∃M,Asc M∧Akin D M∧M.length=D.length∧Sorted w w' g M:=by
 have C:=hide (stable g N cap D w hN hl hr);clear hl hr;go_enter Tryd.func31,Tryd.ntmps31;go_wp2_with fail;refine C.out.mono ?_;rintro e w2 ⟨rfl,hp⟩;have PF:=hide hp;clear hp;go_wp2
 first|go_end0|refine bodyPost_ret (results_none rfl _ _ _) rfl ?_
 exact⟨rfl,PF.out⟩
end Go.Proofs.YtpdoponghlpkcaaDoor
