/-
  ImplRead; IReader; IRead1; IRead0; IRPage; RdPg; ICatch; ImplVar; SVar; SRd; SCur
-/
import Derived.Test.YtgigcooffjjbgaaGreatDoorPk9
import Derived.Tactics2
import Derived.Laws.Pointers
import Derived.Lib.Hide
open Go.Value renaming int→I,slice→Y,string→iT,bool→iB,pointer→iP,agg→iA,tuple→iU
open Go.IntKind renaming i64→J
open Option renaming none→O,some→X
open Go.Ending renaming returned→G
open Go.Obj renaming cells→iC
open Bool renaming true→iV,false→iF
open Go renaming World→iW,Value→iX,Calls→iK
open Go.RowKit renaming Below→iL
set_option maxHeartbeats 4000000
set_option maxRecDepth 100000
namespace Go.Proofs.YtgigcooffjjbgaaGreatDoor
open Go.RowKit Words
def mZ:Option (Nat×Nat)->iX
 |some (n,j)=>iU #[I J n,I J j,iB iV]
 |none=>iU #[I J 0,I J 0,iB iF]
theorem Gf(s:ByteArray)(q:Nat)(w:iW)(hs:s.size<=1048576)(z:q<=s.size):
 iK Tryz.prog 235 #[iT s,I J q] w λe w'=>e=G (mZ (bR s.data.toList q))/\w'=w:=by
 have g1:¬(q:Int)<0:=by omega
 have g2:¬(s.size:Int)<q:=by omega
 go_enter Tryz.func235,Tryz.ntmps235;go_wp2;go_loop [7,8,9,10,11] (λA B p _ _=>∃k n u:Nat,A=I J n/\B=I J u/\p=I J (q+k:Nat)/\ah (St s.data.toList q k n u)) (λ_ _ p _ _=>s.size-(intOf p).toNat)
 case atStart=>exact⟨0,0,1,rfl,rfl,rfl,St.zero (by simpa using z)⟩
 case round=>
  obtain⟨k,n,u,rfl,rfl,rfl,a⟩:=hrel;obtain⟨C,D,v,r,j⟩:=a.o.bounds;by_cases f:q+k<s.size/\k<5
  ·obtain⟨h1,g⟩:=f;have t:=r g;have c1:((q+k:Nat):Int)<s.size:=by omega
   have c2:(u:Int)<=1000000000:=by omega
   clear v r j;obtain⟨c,h⟩:=aq (s[q+k].toNat:Nat);have y:c<256:=by rw[<-h];exact uj _
   have K:=M3 c u t;have L:=Jm c u;have H:ah (At s.data.toList (q+k) c):=⟨by simpa using h1,by rw[<-h];rfl⟩
   by_cases E:128<=(c:Int)
   ·go_wp2;go_round
    case rel=>exact⟨k+1,n+c % 128*u,u*128,by rw[nH],by go_num,by go_num,a.o.step' g H.o (by omega)⟩
    case measure=>simp[intOf];omega
   ·by_cases h0:c=0/\k≠0
    ·have F:ah (bR s.data.toList q=O):=a.o.no' g H.o (by omega) (.inr h0)
     have l:((c:Int)==0)=iV:=by rw[ix];omega
     have x:(q:Int)<(q:Int)+k:=by omega
     clear h0;go_wp2;go_ret3;exact⟨by rw[F.o];rfl,rfl⟩
    ·have i:¬(c=0/\k≠0):=h0;by_cases m:(n:Int)+(c:Int) % 128*u<=1000000000
     ·have b:n+c % 128*u<=1000000000:=by rw[<-nH]at m;omega
      have F:ah (bR s.data.toList q=X (n+c % 128*u,q+k+1)):=a.o.yes' g H.o (by omega) b i
      clear b;by_cases d:c=0
      ·have l:((c:Int)==0)=iV:=by rw[ix];omega
       have x:¬(q:Int)<(q:Int)+k:=by omega
       clear h0 i d;go_wp2;go_ret3;exact⟨by rw[F.o,mZ,nH];rfl,rfl⟩
      ·have l:((c:Int)==0)=iF:=by rw[dk];omega
       clear h0 i d;go_wp2;go_ret3;exact⟨by rw[F.o,mZ,nH];rfl,rfl⟩
     ·have b:1000000000<n+c % 128*u:=by rw[<-nH]at m;omega
      have F:ah (bR s.data.toList q=O):=a.o.no' g H.o (by omega) (.inl b)
      clear b;by_cases d:c=0
      ·exfalso
       subst d;simp at m;omega
      ·have l:((c:Int)==0)=iF:=by rw[dk];omega
       clear h0 i d;go_wp2;go_ret3;exact⟨by rw[F.o];rfl,rfl⟩
  ·have F:ah (bR s.data.toList q=O):=a.o.stop (by simpa using f)
   by_cases h1:q+k<s.size
   ·have c1:((q+k:Nat):Int)<s.size:=by omega
    have t:=j (by have:=a.o.1;omega)
    have c2:¬(u:Int)<=1000000000:=by omega
    clear f j;go_wp2;go_ret3;exact⟨by rw[F.o];rfl,rfl⟩
   ·have c1:¬((q+k:Nat):Int)<s.size:=by omega
    clear f;go_wp2;go_ret3;exact⟨by rw[F.o];rfl,rfl⟩
open Sums
theorem abL(t h s:ByteArray)(i:Int)(g:Nat)(w:iW)(f:t.size<=maxLen)(d:jW t=X s)(b:fU w g h i)(c:eQ w):
 iK Tryz.prog 217 #[iP (X ⟨g,0,O⟩),iT t] w λe w'=>e=G (iU #[])/\kV w w' g s 0:=by
 have C:=af (GP t f w c);rw[d]at C;have R:=af b;clear d b c;go_enter Tryz.func217,Tryz.ntmps217;go_wp2_with fail;refine C.o.mono ?_;rintro e m ⟨rfl,a⟩;unfold wm;go_wp2_with fail;refine(yT _ _).mono ?_;rintro e n ⟨rfl,rfl⟩;obtain⟨h1,j,k,h4,l⟩:=R.o.below a;have M:=af (kV.both (t':=s) (i':=0) R.o a);go_wp2
 first|go_end0|refine az (kG rfl _ _ _) rfl ?_
 exact⟨rfl,M.o⟩
theorem Ua(t:ByteArray)(g:Nat)(w:iW)(d:t.size<=maxLen)(b:jW t=O)(a:eQ w):
 iK Tryz.prog 217 #[iP (X ⟨g,0,O⟩),iT t] w λe w'=>e=.panicked j7/\aR w w' (·≠g):=by
 have C:=af (GP t d w a);rw[b]at C;clear b a;go_enter Tryz.func217,Tryz.ntmps217;go_wp2_with fail;refine C.o.mono ?_;rintro e f ⟨rfl,c⟩;unfold wm;go_wp2_with fail;refine(wG _ _).mono ?_;rintro e h ⟨rfl,rfl⟩;go_wp2;exact⟨rfl,rfl,aR.below c⟩
theorem aa0(s:ByteArray)(i:Nat)(g:Nat)(w:iW)(hi:i<=s.size)(a:fU w g s i):
 iK Tryz.prog 220 #[iP (X ⟨g,0,O⟩)] w λe w'=>e=G (iT (s.extract i s.size))/\kV w w' g s i:=by
 obtain⟨h1,f,h,h4,c⟩:=id a;have R:=af a;have d:∀W,(Instr.slice 9 (iT s) (X (I J (i:Int))) O O).run Tryz.prog W=.ok (iT (s.extract i s.size)) W:=λW=>by
  rw[Da W 9 s Tryz.underlying9 J _ (by omega) (by omega)]
  simp
 generalize s.extract i s.size=u at d;clear a h1 h4 c;go_enter Tryz.func220,Tryz.ntmps220;go_wp2;go_region_held3 (λw'=>w'.cell? ⟨g,0,O⟩=X (iT s)/\w'.cell? ⟨g,1,O⟩=X (I J i)) (go_keep) (fail)
 go_wp2;go_ret;have b:iL w.heap.size w w.drew:=(ax _ _).drew;exact⟨rfl,aR.below b,R.o.below b⟩
theorem aaE(s:ByteArray)(i:Nat)(b:UInt8)(g:Nat)(w:iW)(hs:s.size<=1048576)(h:s.data.toList[i]?=X b)(f:fU w g s i):
 iK Tryz.prog 218 #[iP (X ⟨g,0,O⟩)] w λe w'=>e=G (I J b.toNat)/\kV w w' g s (i+1:Nat):=by
 obtain⟨h1,p,q,h4,r⟩:=id f;have R:=af f;obtain⟨hi,a⟩:=aC.1 h;have hi':i<s.size:=hi;have l:s[i].toNat=b.toNat:=by rw[<-a];rfl
 have m:decide ((i:Int)<s.size)=iV:=by simp;omega
 have t:(0:Int)<=i:=by omega
 have u:(i:Int)<s.size:=by omega
 have n:IntKind.i64.wrap ((i:Int)+1)=i+1:=by rw[cm];omega
 have d:b.toNat<256:=b.toNat_lt;generalize b.toNat=c at l d;have k:IntKind.i64.wrap (c:Int)=c:=by rw[cm];omega
 clear f h a hi;go_enter Tryz.func218,Tryz.ntmps218;go_wp2;go_region_held3 (λw'=>w'.cell? ⟨g,0,O⟩=X (iT s)/\w'.cell? ⟨g,1,O⟩=X (I J i)) (go_keep) ((go_at_call 221;refine(yT _ _).mono ?_;rintro e v ⟨rfl,rfl⟩))
 go_wp2;go_region_held3 (λw'=>w'.cell? ⟨g,0,O⟩=X (iT s)/\w'.cell? ⟨g,1,O⟩=X (I J i)) (go_keep) (fail)
 go_wp2;go_ret;have j:((i+1:Nat):Int)=i+1:=by omega
 exact⟨by rw[<-k];rfl,by rw[j];exact(kV.at_ (i':=(i:Int)+1) R.o (ax _ _)).below ((ax _ _).drew.drew)⟩
theorem xT(s:ByteArray)(i n j:Nat)(g:Nat)(w:iW)(hs:s.size<=1048576)(hi:i<=s.size)(b:bR s.data.toList i=X (n,j))(a:fU w g s i):
 iK Tryz.prog 219 #[iP (X ⟨g,0,O⟩)] w λe w'=>e=G (I J n)/\kV w w' g s j:=by
 obtain⟨h1,c,d,h4,f⟩:=id a;have R:=af a;have C:=af (λw=>Gf s i w hs hi)
 rw[b]at C;clear a b;go_enter Tryz.func219,Tryz.ntmps219;go_wp2;go_region_held3 (λw'=>w'.cell? ⟨g,0,O⟩=X (iT s)/\w'.cell? ⟨g,1,O⟩=X (I J i)) (go_keep) ((go_at_call 235;with_reducible refine cn (C.o _) ?_;rintro e h ⟨rfl,rfl⟩;unfold mZ;try simp only))
 all_goals
  go_wp2_with fail;refine(yT _ _).mono ?_;rintro e k ⟨rfl,rfl⟩;go_wp2;go_ret;exact⟨rfl,(kV.at_ (i':=(j:Int)) R.o (ax _ _)).below ((ax _ _).drew)⟩
theorem yV(s:ByteArray)(i:Nat)(g:Nat)(w:iW)(hs:s.size<=1048576)(hi:i<=s.size)(b:bR s.data.toList i=O)(a:fU w g s i):
 iK Tryz.prog 219 #[iP (X ⟨g,0,O⟩)] w λe w'=>e=.panicked j7/\aR w w' (·≠g):=by
 obtain⟨h1,c,d,h4,f⟩:=id a;have C:=af (λw=>Gf s i w hs hi)
 rw[b]at C;clear a b;go_enter Tryz.func219,Tryz.ntmps219;go_wp2;go_region_held3 (λw'=>w'.cell? ⟨g,0,O⟩=X (iT s)/\w'.cell? ⟨g,1,O⟩=X (I J i)) (go_keep) ((go_at_call 235;with_reducible refine cn (C.o _) ?_;rintro e h ⟨rfl,rfl⟩;unfold mZ;try simp only))
 all_goals
  go_wp2_with fail;refine(wG _ _).mono ?_;rintro e j ⟨rfl,rfl⟩;go_wp2;exact⟨rfl,rfl,aR.below ((ax _ _).drew)⟩
theorem Ur(s:ByteArray)(i:Nat)(g:Nat)(w:iW)(b:s.data.toList[i]?=O)(c:fU w g s i):
 iK Tryz.prog 218 #[iP (X ⟨g,0,O⟩)] w λe w'=>e=.panicked j7/\aR w w' (·≠g):=by
 obtain⟨h1,f,j,h4,k⟩:=id c;have hi':s.size<=i:=Dc.1 b;have d:decide ((i:Int)<s.size)=iF:=by simp;omega
 clear c b;go_enter Tryz.func218,Tryz.ntmps218;go_wp2;refine wp_region_held_drew (S:=λw'=>w'.cell? ⟨g,0,O⟩=X (iT s)/\w'.cell? ⟨g,1,O⟩=X (I J i)) (by kernel_rfl) (by go_keep) (λhHeld=>?_)
 refine lA (i:=0) (v:= ?_) rfl (by kernel_rfl) (by kernel_rfl) (by kernel_rfl) (λ_ _ _ h=>h) (Or.inl ⟨by rfl,?yld0⟩) (by assumption) ?_
 case yld0=>
  intro w a;try dsimp only at a
  go_simp;try with_reducible rfl
 simp only[Act.put,cT];refine lA (i:=1) (v:= ?_) rfl (by kernel_rfl) (by kernel_rfl) (by kernel_rfl) (λ_ _ _ h=>h) (Or.inl ⟨by rfl,?yld1⟩) (by assumption) ?_
 case yld1=>
  intro w a;try dsimp only at a
  go_simp;try with_reducible rfl
 simp only[Act.put];refine lA (i:=2) (v:= ?_) rfl (by kernel_rfl) (by kernel_rfl) (by kernel_rfl) (λ_ _ _ h=>h) (Or.inl ⟨by rfl,?yld2⟩) (by assumption) ?_
 case yld2=>
  intro w a;try dsimp only at a
  go_simp;try with_reducible rfl
 simp only[Act.put];refine lA (i:=3) (v:= ?_) rfl (by kernel_rfl) (by kernel_rfl) (by kernel_rfl) (λ_ _ _ h=>h) (Or.inl ⟨by rfl,?yld3⟩) (by assumption) ?_
 case yld3=>
  intro w a;try dsimp only at a
  go_simp;try with_reducible rfl
 simp only[Act.put];refine lA (i:=4) (v:= ?_) rfl (by kernel_rfl) (by kernel_rfl) (by kernel_rfl) (λ_ _ _ h=>h) (Or.inl ⟨by rfl,?yld4⟩) (by assumption) ?_
 case yld4=>
  intro w a;try dsimp only at a
  go_simp;try with_reducible rfl
 simp only[Act.put];refine lA (i:=5) (v:= ?_) rfl (by kernel_rfl) (by kernel_rfl) (by kernel_rfl) (λ_ _ _ h=>h) (Or.inl ⟨by rfl,?yld5⟩) (by assumption) ?_
 case yld5=>
  intro w a;try dsimp only at a
  go_simp;try with_reducible rfl
 simp only[Act.put];refine lA (i:=6) (v:= ?_) rfl (by kernel_rfl) (by kernel_rfl) (by kernel_rfl) (λ_ _ _ h=>h) (Or.inl ⟨by rfl,?yld6⟩) (by assumption) ?_
 case yld6=>
  intro w a;try dsimp only at a
  go_simp;try with_reducible rfl
 simp only[Act.put];refine lA (i:=7) (v:= ?_) rfl (by kernel_rfl) (by kernel_rfl) (by kernel_rfl) (λ_ _ _ h=>h) (Or.inl ⟨by rfl,?yld7⟩) (by assumption) ?_
 case yld7=>
  intro w a;try dsimp only at a
  go_simp;try with_reducible rfl
 simp only[Act.put];refine lA (i:=8) (v:= ?_) rfl (by kernel_rfl) (by kernel_rfl) (by kernel_rfl) (λ_ _ _ h=>h) (Or.inl ⟨by rfl,?yld8⟩) (by assumption) ?_
 case yld8=>
  intro w a;try dsimp only at a
  go_simp;try with_reducible rfl
 simp only[Act.put];refine lA (i:=9) (v:= ?_) rfl (by kernel_rfl) (by kernel_rfl) (by kernel_rfl) (λ_ _ _ h=>h) (Or.inl ⟨by rfl,?yld9⟩) (by assumption) ?_
 case yld9=>
  intro w a;try dsimp only at a
  go_simp;try with_reducible rfl
 simp only[Act.put];refine lA (i:=10) (v:= ?_) rfl (by kernel_rfl) (by kernel_rfl) (by kernel_rfl) (λ_ _ _ h=>h) (Or.inl ⟨by rfl,?yld10⟩) (by assumption) ?_
 case yld10=>
  intro w a;try dsimp only at a
  go_simp;try with_reducible rfl
 simp only[Act.put];refine A7 (rs:=[11]) (by kernel_rfl) (by simp) ?_
 refine zl rfl (λK l=>?_) ?_
 ·go_simp;rw[aV (show¬i<s.size by omega)]
  with_reducible refine cn (wG _ _) ?_
  rintro e m ⟨rfl,rfl⟩;go_wp2;exact⟨rfl,rfl,aR.below ((ax _ _).drew)⟩
 ·exact Ez
def pr:Array iX:= #[I J 0,I J 0,I J 0,I J 0,I J 0,iT ⟨#[]⟩]
def PS(w W:iW)(g gr gp:Nat)(s:ByteArray)(i:Int)(cs:Array iX):Prop:=
 aR w W (·≠g)/\fU W g s i/\w.heap.size<=gr/\gr<gp/\g<w.heap.size/\W.heap[gr]?=X (iC pr 44 (0,0))/\W.heap[gp]?=X (iC cs 44 (0,0))
variable{bad bad':Bool}{t:ByteArray}{i':Int}{g gp gr k i m n j:Nat}
theorem PS.moved{w W W':iW}{s c:ByteArray}{i:Int}{cs:Array iX}(h:PS w W g gr gp s i cs)(m:kV W W' g c i'):PS w W' g gr gp c i' cs:=by
 obtain⟨h1,k,d,h4,e,a,b⟩:=h;have f:=(aK.1 a).1;have j:=(aK.1 b).1;exact⟨h1.trans m.1,m.2,d,h4,e,(m.1.2.2.2.2 gr f (by omega)).trans a,(m.1.2.2.2.2 gp j (by omega)).trans b⟩
theorem PS.below{w W W':iW}{s:ByteArray}{i:Int}{cs:Array iX}(h:PS w W g gr gp s i cs)(b:iL W.heap.size W W'):PS w W' g gr gp s i cs:=
 h.moved ⟨aR.below b,h.2.1.below b⟩
theorem rQ{w W:iW}{p:Nat}{v:iX}(h:aR w W (·≠g))(b:w.heap.size<=p):aR w (W.setCell ⟨p,k,O⟩ v) (·≠g):=
 ⟨h.1,h.2.1,h.2.2.1,by simpa using h.2.2.2.1,λi hi a=>(aO W ⟨p,k,O⟩ v i (by simp;omega)).trans (h.2.2.2.2 i hi a)⟩
theorem fU.far{w:iW}{p:Nat}{i:Int}{v:iX}(h:fU w g t i)(d:p≠g):fU (w.setCell ⟨p,k,O⟩ v) g t i:=by
 obtain⟨h1,a,b,h4,c⟩:=h;have e:∀j,(w.setCell ⟨p,k,O⟩ v).cell? ⟨g,j,O⟩=w.cell? ⟨g,j,O⟩:=λj=>iN _ _ _ _ (λe=>d (by injection e))
 exact⟨by simpa using h1,by rw[e];exact a,by rw[e];exact b,by simpa using h4,by simpa using c⟩
theorem PS.set{w W:iW}{s:ByteArray}{i:Int}{cs:Array iX}(h:PS w W g gr gp s i cs)(k:Nat)(v:iX):PS w (W.setCell ⟨gp,k,O⟩ v) g gr gp s i (cs.setIfInBounds k v):=by
 obtain⟨h1,a,b,h4,c,d,e⟩:=h;exact⟨rQ h1 (by omega),a.far (by omega),b,h4,c,(aO _ _ _ _ (by simp;omega)).trans d,bo _ _ _ _ _ _ e⟩
theorem sw{w:iW}{t:TypeId}{i j k l m n a b c d e f:iX}(h:w.heap[g]?=X (iC #[i,j,k,l,m,n] t (0,0))):
 ((((((w.setCell ⟨g,0,O⟩ a).setCell ⟨g,1,O⟩ b).setCell ⟨g,2,O⟩ c).setCell ⟨g,3,O⟩ d).setCell ⟨g,4,O⟩ e).setCell ⟨g,5,O⟩ f).heap[g]?=X (iC #[a,b,c,d,e,f] t (0,0)):=
 bo _ _ 5 _ _ _ (bo _ _ 4 _ _ _ (bo _ _ 3 _ _ _ (bo _ _ 2 _ _ _ (bo _ _ 1 _ _ _ (bo _ _ 0 _ _ _ h)))))
theorem QO{w W:iW}{p:Nat}{a b c d e f:iX}(h:aR w W (·≠g))(i:w.heap.size<=p):
 aR w ((((((W.setCell ⟨p,0,O⟩ a).setCell ⟨p,1,O⟩ b).setCell ⟨p,2,O⟩ c).setCell ⟨p,3,O⟩ d).setCell ⟨p,4,O⟩ e).setCell ⟨p,5,O⟩ f) (·≠g):=
 rQ (rQ (rQ (rQ (rQ (rQ h i) i) i) i) i) i
theorem PS.at_{w W:iW}{s:ByteArray}{i:Int}{cs:Array iX}(h:PS w W g gr gp s i cs)(k:Nat)(v:iX)(a:cs[k]?=X v):W.cell? ⟨gp,k,O⟩=X v/\W.frozen? ⟨gp,k,O⟩=iF:=
 ⟨aj _ _ k _ _ _ h.2.2.2.2.2.2▸a,aF _ _ k _ _ h.2.2.2.2.2.2⟩
def Lr:Option Pg->Ending
 |some p=>G (dJ p)
 |none=> .panicked j7
theorem xq{w:iW}{t:TypeId}{a b c d e f:iX}(h:w.heap[g]?=X (iC #[a,b,c,d,e,f] t (0,0))):
 w.cell? ⟨g,0,O⟩=X a/\w.frozen? ⟨g,0,O⟩=iF/\w.cell? ⟨g,1,O⟩=X b/\w.frozen? ⟨g,1,O⟩=iF/\w.cell? ⟨g,2,O⟩=X c/\w.frozen? ⟨g,2,O⟩=iF/\w.cell? ⟨g,3,O⟩=X d/\w.frozen? ⟨g,3,O⟩=iF/\w.cell? ⟨g,4,O⟩=X e/\w.frozen? ⟨g,4,O⟩=iF/\w.cell? ⟨g,5,O⟩=X f/\w.frozen? ⟨g,5,O⟩=iF:=
 ⟨aj _ _ 0 _ _ _ h,aF _ _ 0 _ _ h,aj _ _ 1 _ _ _ h,aF _ _ 1 _ _ h,aj _ _ 2 _ _ _ h,aF _ _ 2 _ _ h,aj _ _ 3 _ _ _ h,aF _ _ 3 _ _ h,aj _ _ 4 _ _ _ h,aF _ _ 4 _ _ h,aj _ _ 5 _ _ _ h,aF _ _ 5 _ _ h⟩
theorem abO(t:ByteArray)(s0:ByteArray)(i0:Int)(g:Nat)(w:iW)(hm:t.size<=maxLen)(hr:fU w g s0 i0)(ht:eQ w):
 iK Tryz.prog 189 #[iP (X ⟨g,0,O⟩),iT t] w λe w'=>e=Lr (dE t)/\aR w w' (·≠g):=by
 obtain⟨E,hE⟩:=aq (Lr (dE t));have A:=af hE;rw[hE];have R:=af hr;have HT:=af ht;have B:=af ((ax w.heap.size w).alloc (am _) (iC pr 44));have Z0:=af (aB w (iC pr 44));have hg:=hr.1;unfold pr at B Z0;clear hr ht hE;go_enter Tryz.func189,Tryz.ntmps189;go_wp2_with fail;cases T:jW t with
 |none=>
  have l:ah (.panicked j7=E):=by show _=_;rw[<-A.o];unfold dE;rw[T];rfl
  refine(Ua t g _ hm T (HT.o.on B.o)).mono ?_;rintro e p ⟨rfl,k1⟩;have m:=af ((aR.below B.o).trans k1);clear T;go_wp2;exact⟨rfl,l.o,m.o⟩
 |some s=>
 have C:=af T;have hs:=(yF T).2;refine(abL t s0 s i0 g _ hm T (R.o.below B.o) (HT.o.on B.o)).mono ?_;rintro e p ⟨rfl,m1⟩;clear T;have ab:w.heap.size<p.heap.size:=eW (by simp) m1.1.2.2.2.1
 have h:ah (PS w (p.alloc (iC pr 44)) g w.heap.size p.heap.size s 0 pr):=by
  have j:=(ax p.heap.size p).alloc (am _) (iC pr 44);exact⟨(aR.below B.o).trans (m1.1.trans (aR.below j)),m1.2.below j,am _,ab,hg,(j.block _ ab).trans ((m1.1.2.2.2.2 _ (by simp) (by omega)).trans Z0.o),aB _ _⟩
 clear m1 B Z0 R HT;unfold pr at h;go_wp2_with fail;cases L:s.data.toList[0]? with
 |none=>
  have l:ah (.panicked j7=E):=by show _=_;rw[<-A.o];simp only[dE,kY,C.o,L];rfl
  refine(Ur s 0 g _ L h.o.2.1).mono ?_;rintro e w2 ⟨rfl,z⟩;have m:=af (h.o.1.trans z);clear L;go_wp2;exact⟨rfl,l.o,m.o⟩
 |some b=>
 have Y:=af L;have N:1<=s.size:=by have:=(aC.1 L).1;exact this
 obtain⟨n,M⟩:∃k:Nat,k=b.toNat:=⟨_,rfl⟩;have HK:=af M;have C0:=aaE s 0 b g _ (by omega) L h.o.2.1
 rw[<-M]at C0;refine C0.mono ?_;clear C0 M L;rintro e w2 ⟨rfl,m2⟩;have i:=af (h.o.moved m2);clear m2 h;obtain⟨x0,y0⟩:=i.o.at_ 0 _ rfl;have h:=af (i.o.set 0 (I J n));change ah (PS w _ g w.heap.size p.heap.size s _ #[I J n,I J 0,I J 0,I J 0,I J 0,iT ⟨#[]⟩])at h;clear i;go_wp2_with fail;cases h0:bR s.data.toList 1 with
 |none=>
  have l:ah (.panicked j7=E):=by show _=_;rw[<-A.o];simp only[dE,kY,C.o,Y.o,h0];rfl
  refine(yV s 1 g _ (by omega) N h0 h.o.2.1).mono ?_
  rintro e w2 ⟨rfl,z⟩;have m:=af (h.o.1.trans z);clear h0;go_wp2;exact⟨rfl,l.o,m.o⟩
 |some x=>
 obtain⟨a,i1⟩:=x;have q:=af h0;have P:i1<=s.size:=(nQ _ _ _ _ N h0).1;refine(xT s 1 a i1 g _ (by omega) N h0 h.o.2.1).mono ?_
 clear h0;rintro e w3 ⟨rfl,m2⟩;have i:=af (h.o.moved m2);clear m2 h;obtain⟨x1,y1⟩:=i.o.at_ 1 _ rfl;have h:=af (i.o.set 1 (I J a));change ah (PS w _ g w.heap.size p.heap.size s _ #[I J n,I J a,I J 0,I J 0,I J 0,iT ⟨#[]⟩])at h;clear i;go_wp2_with fail;cases h1:bR s.data.toList i1 with
 |none=>
  have l:ah (.panicked j7=E):=by show _=_;rw[<-A.o];simp only[dE,kY,C.o,Y.o,q.o,h1];rfl
  refine(yV s i1 g _ (by omega) P h1 h.o.2.1).mono ?_
  rintro e w2 ⟨rfl,z⟩;have m:=af (h.o.1.trans z);clear h1;go_wp2;exact⟨rfl,l.o,m.o⟩
 |some x=>
 obtain⟨j,i2⟩:=x;have y:=af h1;have Q:i2<=s.size:=(nQ _ _ _ _ P h1).1;refine(xT s i1 j i2 g _ (by omega) P h1 h.o.2.1).mono ?_
 clear h1;rintro e w4 ⟨rfl,m2⟩;have i:=af (h.o.moved m2);clear m2 h;obtain⟨x2,y2⟩:=i.o.at_ 2 _ rfl;have h:=af (i.o.set 2 (I J j));change ah (PS w _ g w.heap.size p.heap.size s _ #[I J n,I J a,I J j,I J 0,I J 0,iT ⟨#[]⟩])at h;clear i;go_wp2_with fail;cases H:bR s.data.toList i2 with
 |none=>
  have l:ah (.panicked j7=E):=by show _=_;rw[<-A.o];simp only[dE,kY,C.o,Y.o,q.o,y.o,H];rfl
  refine(yV s i2 g _ (by omega) Q H h.o.2.1).mono ?_
  rintro e w2 ⟨rfl,z⟩;have m:=af (h.o.1.trans z);clear H;go_wp2;exact⟨rfl,l.o,m.o⟩
 |some x=>
 obtain⟨c,i3⟩:=x;have F:=af H;have S:i3<=s.size:=(nQ _ _ _ _ Q H).1;refine(xT s i2 c i3 g _ (by omega) Q H h.o.2.1).mono ?_
 clear H;rintro e w5 ⟨rfl,m2⟩;have i:=af (h.o.moved m2);clear m2 h;obtain⟨x3,y3⟩:=i.o.at_ 3 _ rfl;have h:=af (i.o.set 3 (I J c));change ah (PS w _ g w.heap.size p.heap.size s _ #[I J n,I J a,I J j,I J c,I J 0,iT ⟨#[]⟩])at h;clear i;go_wp2_with fail;cases K:bR s.data.toList i3 with
 |none=>
  have l:ah (.panicked j7=E):=by show _=_;rw[<-A.o];simp only[dE,kY,C.o,Y.o,q.o,y.o,F.o,K];rfl
  refine(yV s i3 g _ (by omega) S K h.o.2.1).mono ?_
  rintro e w2 ⟨rfl,z⟩;have m:=af (h.o.1.trans z);clear K;go_wp2;exact⟨rfl,l.o,m.o⟩
 |some x=>
 obtain⟨d,i4⟩:=x;have aa:=af K;have ac:i4<=s.size:=(nQ _ _ _ _ S K).1;refine(xT s i3 d i4 g _ (by omega) S K h.o.2.1).mono ?_
 clear K;rintro e w6 ⟨rfl,m2⟩;have i:=af (h.o.moved m2);clear m2 h;obtain⟨x4,y4⟩:=i.o.at_ 4 _ rfl;have h:=af (i.o.set 4 (I J d));change ah (PS w _ g w.heap.size p.heap.size s _ #[I J n,I J a,I J j,I J c,I J d,iT ⟨#[]⟩])at h;clear i;go_wp2_with fail;obtain⟨u,U⟩:∃u,u=s.extract i4 s.size:=⟨_,rfl⟩;have D:=af U;have C5:=aa0 s i4 g _ ac h.o.2.1;rw[<-U]at C5;refine C5.mono ?_;clear C5 U;rintro e w7 ⟨rfl,m2⟩;have i:=af (h.o.moved m2);clear m2 h;obtain⟨x5,y5⟩:=i.o.at_ 5 _ rfl;have h:=af (i.o.set 5 (iT u));change ah (PS w _ g w.heap.size p.heap.size s _ #[I J n,I J a,I J j,I J c,I J d,iT u])at h;clear i;obtain⟨q0,-,q1,-,q2,-,q3,-,q4,-,q5,-⟩:=xq h.o.2.2.2.2.2.2;go_wp2_with fail;have V:=af (λW=>aas (Pg.mk n a j c d u) W)
 by_cases hq:(Pg.mk n a j c d u).Right
 ·have l:ah (G (dJ (Pg.mk n a j c d u))=E):=by show _=_;have r:=hq;rw[HK.o,D.o]at r;rw[HK.o,D.o,<-A.o];simp only[dE,kY,C.o,Y.o,q.o,y.o,F.o,aa.o];rw[ak r];rfl
  rw[n8 hq]at V;refine(V.o _).mono ?_;rintro e w8 ⟨rfl,b8⟩;have i:=af (h.o.below b8);clear h b8 V hq;go_wp2_with fail;refine(yT _ _).mono ?_;rintro e w9 ⟨rfl,rfl⟩;obtain⟨p0,-,p1,-,p2,-,p3,-,p4,-,p5,-⟩:=xq i.o.2.2.2.2.2.2;have Z:=i.o.2.2.2.2.2.1;unfold pr at Z;obtain⟨z0,f0,z1,f1,z2,f2,z3,f3,z4,f4,z5,f5⟩:=xq Z;obtain⟨s0,-,s1,-,s2,-,s3,-,s4,-,s5,-⟩:=xq (sw (a:=I J n) (b:=I J a) (c:=I J j) (d:=I J c) (e:=I J d) (f:=iT u) Z);have m:=af (QO (a:=I J n) (b:=I J a) (c:=I J j) (d:=I J c) (e:=I J d) (f:=iT u) i.o.1 (am _));go_wp2;exact az (v:=iA #[I J n,I J a,I J j,I J c,I J d,iT u]) (by simp[results,Tryz.results189,go_sem,s0,s1,s2,s3,s4,s5]) rfl ⟨l.o,m.o⟩
 ·have l:ah (.panicked j7=E):=by show _=_;have r:=hq;rw[HK.o,D.o]at r;rw[<-A.o];simp only[dE,kY,C.o,Y.o,q.o,y.o,F.o,aa.o];rw[ai r];rfl
  rw[eM hq]at V;refine(V.o _).mono ?_;rintro e w8 ⟨rfl,b8⟩;have i:=af (h.o.below b8);clear h b8 V hq;go_wp2_with fail;refine(wG _ _).mono ?_;rintro e w9 ⟨rfl,rfl⟩;have m:=af i.o.1;go_wp2;exact⟨rfl,l.o,m.o⟩
def lP:Option Pg->iX
 |some p=>iU #[dJ p,iB iV]
 |none=>iU #[dJ ⟨0,0,0,0,0,⟨#[]⟩⟩,iB iF]
theorem VJ(w:iW):(Instr.typeAssert (.iface 260 (iA #[])) 20 260 iV).run Tryz.prog w=.ok (iU #[iA #[],iB iV]) w:=by kernel_rfl
theorem XU(w:iW):(Instr.typeAssert .nilIface 20 260 iV).run Tryz.prog w=.ok (iU #[iA #[],iB iF]) w:=by kernel_rfl
theorem GO(a b:iX):(#[a,b]++Array.replicate (Tryz.f188.ntmps-(#[a,b]:Array iX).size) undef:Array iX)= #[a,b,undef,undef,undef,undef,undef,undef,undef,undef,undef]:=by kernel_rfl
theorem Ym(p q:Nat)(c d f g h i z:iX)(w:iW)(j:w.heap[p]?=X (iC #[c,d,f,g,h,i] 44 (0,0)))(k:w.heap[q]?=X (iC #[z] 4 (0,0)))(b:p≠q):
 CallsD Tryz.prog 188 #[iP (X ⟨p,0,O⟩),iP (X ⟨q,0,O⟩)] (.panicking j7) w λe u' w'=>
  e=G (iU #[])/\u'=.panicking [{v:=.iface 260 (iA #[]),recovered:=iV}]/\
  w'=(((((((w.alloc (iC #[] 260)).setCell ⟨p,0,O⟩ (I J 0)).setCell ⟨p,1,O⟩ (I J 0)).setCell ⟨p,2,O⟩ (I J 0)).setCell ⟨p,3,O⟩ (I J 0)).setCell ⟨p,4,O⟩ (I J 0)).setCell ⟨p,5,O⟩ (iT ⟨#[]⟩)).setCell ⟨q,0,O⟩ (iB iF):=by
 unfold j7;refine callsD_of_wpS Tryz.func188 rfl λF cs E=>?_
 rw[GO];apply wpS_seq;apply vV;simp[wpOpsS,go_sem,recoverD,E,Exit.thenS,VJ];apply wpS_seq;apply vV;simp[wpOpsS,go_sem,Exit.thenS];refine wpS_cond (t:=iV) (by simp[Act.eval]) ?_
 simp only[dF];apply vV;have a:(w.alloc (iC #[] 260)).heap[p]?=X (iC #[c,d,f,g,h,i] 44 (0,0)):=(iS _ _ (aK.1 j).1).trans j;have l:(w.alloc (iC #[] 260)).heap[q]?=X (iC #[z] 4 (0,0)):=(iS _ _ (aK.1 k).1).trans k;have m:(w.alloc (iC #[] 260)).cell? ⟨p,0,O⟩=X c:=aj _ _ 0 _ _ _ a;have u:(w.alloc (iC #[] 260)).frozen? ⟨p,0,O⟩=iF:=aF _ _ 0 _ _ a;have c1:(w.alloc (iC #[] 260)).cell? ⟨p,1,O⟩=X d:=aj _ _ 1 _ _ _ a;have x:(w.alloc (iC #[] 260)).frozen? ⟨p,1,O⟩=iF:=aF _ _ 1 _ _ a;have c2:(w.alloc (iC #[] 260)).cell? ⟨p,2,O⟩=X f:=aj _ _ 2 _ _ _ a;have y:(w.alloc (iC #[] 260)).frozen? ⟨p,2,O⟩=iF:=aF _ _ 2 _ _ a;have c3:(w.alloc (iC #[] 260)).cell? ⟨p,3,O⟩=X g:=aj _ _ 3 _ _ _ a;have A:(w.alloc (iC #[] 260)).frozen? ⟨p,3,O⟩=iF:=aF _ _ 3 _ _ a;have n:(w.alloc (iC #[] 260)).cell? ⟨p,4,O⟩=X h:=aj _ _ 4 _ _ _ a;have B:(w.alloc (iC #[] 260)).frozen? ⟨p,4,O⟩=iF:=aF _ _ 4 _ _ a;have o:(w.alloc (iC #[] 260)).cell? ⟨p,5,O⟩=X i:=aj _ _ 5 _ _ _ a;have C:(w.alloc (iC #[] 260)).frozen? ⟨p,5,O⟩=iF:=aF _ _ 5 _ _ a;have r:(w.alloc (iC #[] 260)).cell? ⟨q,0,O⟩=X z:=aj _ _ 0 _ _ _ l;have D:(w.alloc (iC #[] 260)).frozen? ⟨q,0,O⟩=iF:=aF _ _ 0 _ _ l;generalize w.alloc (iC #[] 260)=W at*;have s:(W.setCell ⟨p,0,O⟩ (I J 0)).cell? ⟨q,0,O⟩=X z:=by
  rw[iN _ _ _ _ (λe=>b (by injection e))]
  exact r
 simp[wpOpsS,go_sem,m,c1,c2,c3,n,o,u,x,y,A,B,C,s,D,bodyPostS,results,Tryz.results188]
theorem aa6(p q:Nat)(w:iW):
 CallsD Tryz.prog 188 #[iP (X ⟨p,0,O⟩),iP (X ⟨q,0,O⟩)] .returning w λe u' w'=>
  e=G (iU #[])/\u'=.returning/\w'=w.alloc (iC #[] 260):=by
 refine callsD_of_wpS Tryz.func188 rfl λa cs b=>?_
 rw[GO];apply wpS_seq;apply vV;simp[wpOpsS,go_sem,recoverD,b,Exit.thenS,XU];apply wpS_seq;apply vV;simp[wpOpsS,go_sem,Exit.thenS];refine wpS_cond (t:=iF) (by simp[Act.eval]) ?_
 simp only[ge,fQ];refine wpS_of_wp (wp_skip ?_);cases a
 simp_all [bodyPostS,results,Tryz.results188]
theorem Oh(t c:ByteArray)(b:Int)(g:Nat)(w:iW)(d:t.size<=maxLen)(f:fU w g c b)(i:eQ w):
 (∃p,dE t=X p/\iK Tryz.prog 189 #[iP (X ⟨g,0,O⟩),iT t] w λe w'=>e=G (dJ p)/\aR w w' (·≠g))∨
 (dE t=O/\iK Tryz.prog 189 #[iP (X ⟨g,0,O⟩),iT t] w λe w'=>e=.panicked j7/\aR w w' (·≠g)):=by
 have h:=abO t c b g w d f i;cases a:dE t with
 |none=>rw[a]at h;exact .inr ⟨rfl,h⟩
 |some p=>rw[a]at h;exact .inl ⟨p,rfl,h⟩
theorem GQ{w:iW}{a b c d e f:iX}(h:i≠g):
 ((((((w.setCell ⟨g,0,O⟩ a).setCell ⟨g,1,O⟩ b).setCell ⟨g,2,O⟩ c).setCell ⟨g,3,O⟩ d).setCell ⟨g,4,O⟩ e).setCell ⟨g,5,O⟩ f).heap[i]?=w.heap[i]?:=by
 rw[aO _ ⟨g,5,O⟩ _ _ h,aO _ ⟨g,4,O⟩ _ _ h,aO _ ⟨g,3,O⟩ _ _ h,aO _ ⟨g,2,O⟩ _ _ h,aO _ ⟨g,1,O⟩ _ _ h,aO _ ⟨g,0,O⟩ _ _ h]
theorem Wq(w:iW):fU (((w.alloc (iC #[I J 0,I J 0,I J 0,I J 0,I J 0,iT ⟨#[]⟩] 44)).alloc (iC #[iB iF] 4)).alloc (iC #[iT ⟨#[]⟩,I J 0] 263)) (w.heap.size+1+1) ⟨#[]⟩ 0/\iL w.heap.size w (((w.alloc (iC #[I J 0,I J 0,I J 0,I J 0,I J 0,iT ⟨#[]⟩] 44)).alloc (iC #[iB iF] 4)).alloc (iC #[iT ⟨#[]⟩,I J 0] 263))/\
 (((w.alloc (iC #[I J 0,I J 0,I J 0,I J 0,I J 0,iT ⟨#[]⟩] 44)).alloc (iC #[iB iF] 4)).alloc (iC #[iT ⟨#[]⟩,I J 0] 263)).heap[w.heap.size]?=X (iC #[I J 0,I J 0,I J 0,I J 0,I J 0,iT ⟨#[]⟩] 44 (0,0))/\(((w.alloc (iC #[I J 0,I J 0,I J 0,I J 0,I J 0,iT ⟨#[]⟩] 44)).alloc (iC #[iB iF] 4)).alloc (iC #[iT ⟨#[]⟩,I J 0] 263)).heap[w.heap.size+1]?=X (iC #[iB iF] 4 (0,0))/\(((w.alloc (iC #[I J 0,I J 0,I J 0,I J 0,I J 0,iT ⟨#[]⟩] 44)).alloc (iC #[iB iF] 4)).alloc (iC #[iT ⟨#[]⟩,I J 0] 263)).heap.size=w.heap.size+3:=by
 have h0:=aB w (iC #[I J 0,I J 0,I J 0,I J 0,I J 0,iT ⟨#[]⟩] 44);have h1:=aB (w.alloc (iC #[I J 0,I J 0,I J 0,I J 0,I J 0,iT ⟨#[]⟩] 44)) (iC #[iB iF] 4);have b:(w.alloc (iC #[I J 0,I J 0,I J 0,I J 0,I J 0,iT ⟨#[]⟩] 44)).heap.size=w.heap.size+1:=by simp
 rw[b]at h1;have a:=aB ((w.alloc (iC #[I J 0,I J 0,I J 0,I J 0,I J 0,iT ⟨#[]⟩] 44)).alloc (iC #[iB iF] 4)) (iC #[iT ⟨#[]⟩,I J 0] 263);have c:((w.alloc (iC #[I J 0,I J 0,I J 0,I J 0,I J 0,iT ⟨#[]⟩] 44)).alloc (iC #[iB iF] 4)).heap.size=w.heap.size+1+1:=by simp
 rw[c]at a;refine⟨⟨by simp,aj _ _ 0 _ _ _ a,aj _ _ 1 _ _ _ a,aF _ _ 0 _ _ a,aF _ _ 1 _ _ a⟩,?_,?_,?_,by simp⟩
 ·exact((aZ).alloc (by simp) _).alloc (by simp;omega) _
 ·rw[iS _ _ (by simp;omega),iS _ _ (by simp)]
  exact h0
 ·rw[iS _ _ (by simp)]
  exact h1
theorem Xx(t:ByteArray)(w:iW)(hm:t.size<=maxLen)(W:eQ w):
 iK Tryz.prog 151 #[iT t] w λe w'=>e=G (lP (dE t))/\iL w.heap.size w w':=by
 have ab:∀(fn:Fn) (first cap:Array iX) (w:iW),(Instr.makeFunc fn first cap).run Tryz.prog w=.ok (.func fn first cap) w:=λ_ _ _ _=>rfl
 obtain⟨st,K,P,Q,R⟩:=Wq w;rcases Oh t _ _ _ _ hm st (W.on K)with⟨p,L,C⟩|⟨L,C⟩
 ·have E:ah (lP (dE t)=iU #[dJ p,iB iV]):=by rw[L];rfl
  have C:=af C;have y:=af K;have A:=af P;have D:=af Q;have v:=af R;clear L W st K P Q R;obtain⟨k,s,x,q,c,u⟩:=p;unfold dJ at C E;simp only at C E;go_enter_defers Tryz.func151,Tryz.ntmps151;go_wp2_with fail;refine C.o.mono ?_;rintro e S ⟨rfl,m⟩;have h:=(m.2.2.2.2 w.heap.size (by rw[v.o];omega) (by omega)).trans A.o
  have r:=(m.2.2.2.2 (w.heap.size+1) (by rw[v.o];omega) (by omega)).trans D.o
  have N:=af (y.o.trans (aR.down (B:=w.heap.size) m y.o.size (λi hi=>by omega)))
  have l5:w.heap.size+1<S.heap.size:=eW (by rw[v.o];omega) m.2.2.2.1
  clear m A D v y C;have c0:=aj _ _ 0 _ _ _ h;have f0:=aF _ _ 0 _ _ h;have c1:=aj _ _ 1 _ _ _ h;have f1:=aF _ _ 1 _ _ h;have c2:=aj _ _ 2 _ _ _ h;have f2:=aF _ _ 2 _ _ h;have c3:=aj _ _ 3 _ _ _ h;have f3:=aF _ _ 3 _ _ h;have c4:=aj _ _ 4 _ _ _ h;have f4:=aF _ _ 4 _ _ h;have c5:=aj _ _ 5 _ _ _ h;have f5:=aF _ _ 5 _ _ h;have y0:=aj _ _ 0 _ _ _ r;have v0:=aF _ _ 0 _ _ r;have z:=sw (a:=I J k) (b:=I J s) (c:=I J x) (d:=I J q) (e:=I J c) (f:=iT u) h;obtain⟨n,l⟩:∃n,n=((((((S.setCell ⟨w.heap.size,0,O⟩ (I J k)).setCell ⟨w.heap.size,1,O⟩ (I J s)).setCell ⟨w.heap.size,2,O⟩ (I J x)).setCell ⟨w.heap.size,3,O⟩ (I J q)).setCell ⟨w.heap.size,4,O⟩ (I J c)).setCell ⟨w.heap.size,5,O⟩ (iT u)):=⟨_,rfl⟩;rw[<-l]at z;have F:n.heap[w.heap.size+1]?=X (iC #[iB iF] 4 (0,0)):=by
   rw[l];exact(GQ (by omega)).trans r
  have V:(n.setCell ⟨w.heap.size+1,0,O⟩ (iB iV)).heap[w.heap.size]?=_:=(aO _ _ _ _ (by simp)).trans z
  have U:=bo _ _ 0 _ _ (iB iV) F;have M:ah (iL w.heap.size w (n.setCell ⟨w.heap.size+1,0,O⟩ (iB iV))):=by
   rw[l];exact((((((N.o.setCell (am _) _).setCell (am _) _).setCell (am _) _).setCell (am _) _).setCell (am _) _).setCell (am _) _).setCell (by simp) _
  go_wp2;rw[<-l];clear l;refine leaves_cons (f:=188) (args:= #[iP (X ⟨w.heap.size,0,O⟩),iP (X ⟨w.heap.size+1,0,O⟩)]) (by simp) (by simp[go_sem]) ?_
  refine(aa6 w.heap.size (w.heap.size+1) _).mono ?_;rintro e u' aa ⟨rfl,rfl,rfl⟩;have j:=(iS _ (iC #[] 260) (aK.1 V).1).trans V;have H:=(iS _ (iC #[] 260) (aK.1 U).1).trans U;have T:=af (M.o.alloc M.o.size (iC #[] 260));have Z:=aj _ _ 0 _ _ _ j;have r1:=aj _ _ 1 _ _ _ j;have r2:=aj _ _ 2 _ _ _ j;have r3:=aj _ _ 3 _ _ _ j;have r4:=aj _ _ 4 _ _ _ j;have r5:=aj _ _ 5 _ _ _ j;have Y:=aj _ _ 0 _ _ _ H;generalize(n.setCell ⟨w.heap.size+1,0,O⟩ (iB iV)).alloc (iC #[] 260)=W8 at*;clear h r z F V U j H;simp[Leaves,settle,results,Tryz.results151,go_sem,Z,r1,r2,r3,r4,r5,Y];exact⟨by rw[E.o],T.o⟩
 ·have E:ah (lP (dE t)=iU #[dJ ⟨0,0,0,0,0,⟨#[]⟩⟩,iB iF]):=by rw[L];rfl
  have C:=af C;have y:=af K;have A:=af P;have D:=af Q;have v:=af R;clear L W st K P Q R;unfold dJ at E;simp only at E;go_enter_defers Tryz.func151,Tryz.ntmps151;go_wp2_with fail;refine C.o.mono ?_;rintro e S ⟨rfl,m⟩;have h:=(m.2.2.2.2 w.heap.size (by rw[v.o];omega) (by omega)).trans A.o
  have r:=(m.2.2.2.2 (w.heap.size+1) (by rw[v.o];omega) (by omega)).trans D.o
  have N:=af (y.o.trans (aR.down (B:=w.heap.size) m y.o.size (λi hi=>by omega)))
  clear m A D v y C;go_wp2;refine leaves_cons (f:=188) (args:= #[iP (X ⟨w.heap.size,0,O⟩),iP (X ⟨w.heap.size+1,0,O⟩)]) (by simp[j7]) (by simp[go_sem]) ?_
  refine(Ym w.heap.size (w.heap.size+1) _ _ _ _ _ _ _ _ h r (by omega)).mono ?_
  rintro e u' aa ⟨rfl,rfl,rfl⟩;have K0:=(iS _ (iC #[] 260) (aK.1 h).1).trans h;have K1:=(iS _ (iC #[] 260) (aK.1 r).1).trans r;have B6:=af (N.o.alloc N.o.size (iC #[] 260));generalize S.alloc (iC #[] 260)=W5 at*;have z:=sw (a:=I J 0) (b:=I J 0) (c:=I J 0) (d:=I J 0) (e:=I J 0) (f:=iT ⟨#[]⟩) K0;have F:=(GQ (w:=W5) (g:=w.heap.size) (i:=w.heap.size+1) (a:=I J 0) (b:=I J 0) (c:=I J 0) (d:=I J 0) (e:=I J 0) (f:=iT ⟨#[]⟩) (by omega)).trans K1
  have M:=af ((((((B6.o.setCell (p:=⟨w.heap.size,0,O⟩) (am _) (I J 0)).setCell (p:=⟨w.heap.size,1,O⟩) (am _) (I J 0)).setCell (p:=⟨w.heap.size,2,O⟩) (am _) (I J 0)).setCell (p:=⟨w.heap.size,3,O⟩) (am _) (I J 0)).setCell (p:=⟨w.heap.size,4,O⟩) (am _) (I J 0)).setCell (p:=⟨w.heap.size,5,O⟩) (am _) (iT ⟨#[]⟩));generalize((((((W5.setCell ⟨w.heap.size,0,O⟩ (I J 0)).setCell ⟨w.heap.size,1,O⟩ (I J 0)).setCell ⟨w.heap.size,2,O⟩ (I J 0)).setCell ⟨w.heap.size,3,O⟩ (I J 0)).setCell ⟨w.heap.size,4,O⟩ (I J 0)).setCell ⟨w.heap.size,5,O⟩ (iT ⟨#[]⟩))=n at*;have j:=(aO n ⟨w.heap.size+1,0,O⟩ (iB iF) _ (by simp)).trans z
  have H:=bo _ _ 0 _ _ (iB iF) F;have T:=af (M.o.setCell (p:=⟨w.heap.size+1,0,O⟩) (by simp) (iB iF))
  have Z:=aj _ _ 0 _ _ _ j;have r1:=aj _ _ 1 _ _ _ j;have r2:=aj _ _ 2 _ _ _ j;have r3:=aj _ _ 3 _ _ _ j;have r4:=aj _ _ 4 _ _ _ j;have r5:=aj _ _ 5 _ _ _ j;have Y:=aj _ _ 0 _ _ _ H;generalize n.setCell ⟨w.heap.size+1,0,O⟩ (iB iF)=W8 at*;clear h r K0 K1 z F j H;simp[Leaves,settle,results,Tryz.results151,go_sem,Z,r1,r2,r3,r4,r5,Y];exact⟨by rw[E.o],T.o⟩
theorem AM(o:Option Pg):∃(p:Pg) (b:Bool),lP o=iU #[dJ p,iB b]:=by
 cases o with
 |none=>exact⟨_,_,rfl⟩
 |some p=>exact⟨_,_,rfl⟩
theorem abc(t:ByteArray)(w:iW)(A:t.size<=maxLen)(r:eQ w):
 iK Tryz.prog 108 #[iT t] w λe w'=>e=G (lP (dE t))/\iL w.heap.size w w':=by
 have i:=aT w (iC #[I J 0,I J 0,I J 0,I J 0,I J 0,iT ⟨#[]⟩] 44);have C:=af (Xx t (w.alloc (iC #[I J 0,I J 0,I J 0,I J 0,I J 0,iT ⟨#[]⟩] 44)) A (r.on i));have l:=af i;have m:=af (aB w (iC #[I J 0,I J 0,I J 0,I J 0,I J 0,iT ⟨#[]⟩] 44));obtain⟨p,ok,n⟩:=AM (dE t);rw[n]at C⊢;obtain⟨k,s,x,q,c,u⟩:=p;unfold dJ at*;simp only at*;clear r i n;go_enter Tryz.func108,Tryz.ntmps108;go_wp2_with fail;refine C.o.mono ?_;rintro e V ⟨rfl,j⟩;have g:=(j.block w.heap.size (by simp)).trans m.o
 have y:=af (l.o.trans (j.mono (by simp)))
 clear m j l C;have L:=aj _ _ 0 _ _ _ g;have P:=aF _ _ 0 _ _ g;have c1:=aj _ _ 1 _ _ _ g;have Q:=aF _ _ 1 _ _ g;have c2:=aj _ _ 2 _ _ _ g;have R:=aF _ _ 2 _ _ g;have c3:=aj _ _ 3 _ _ _ g;have S:=aF _ _ 3 _ _ g;have M:=aj _ _ 4 _ _ _ g;have T:=aF _ _ 4 _ _ g;have N:=aj _ _ 5 _ _ _ g;have U:=aF _ _ 5 _ _ g;have h:=sw (a:=I J k) (b:=I J s) (c:=I J x) (d:=I J q) (e:=I J c) (f:=iT u) g;have z:=af ((((((y.o.setCell (p:=⟨w.heap.size,0,O⟩) (am _) (I J k)).setCell (p:=⟨w.heap.size,1,O⟩) (am _) (I J s)).setCell (p:=⟨w.heap.size,2,O⟩) (am _) (I J x)).setCell (p:=⟨w.heap.size,3,O⟩) (am _) (I J q)).setCell (p:=⟨w.heap.size,4,O⟩) (am _) (I J c)).setCell (p:=⟨w.heap.size,5,O⟩) (am _) (iT u));have B:=aj _ _ 0 _ _ _ h;have D:=aj _ _ 1 _ _ _ h;have E:=aj _ _ 2 _ _ _ h;have F:=aj _ _ 3 _ _ _ h;have H:=aj _ _ 4 _ _ _ h;have K:=aj _ _ 5 _ _ _ h;clear g h;go_wp2;exact az (v:=iU #[iA #[I J k,I J s,I J x,I J q,I J c,iT u],iB ok]) (by simp[results,Tryz.results108,go_sem,B,D,E,F,H,K]) rfl ⟨rfl,z.o⟩
theorem X8{acc:List UInt8}(h:acc++bK m=bK n)(a:n<9223372036854775808):acc.length<=9:=by
 have h1:=congrArg List.length h;have b:=p8 n a;simp at h1;omega
theorem Tr{acc:List UInt8}(h:acc++bK m=bK n)(a:128<=m):(acc++[UInt8.ofNat (m % 128+128)])++bK (m/128)=bK n:=by
 rw[<-h,vO m a];simp
theorem Vk(m:Nat):((UInt8.ofNat (m % 128+128)).toNat:Int)=(m:Int) % 128+128:=by
 simp;omega
theorem Yi(m:Nat)(h:m<128):((UInt8.ofNat m).toNat:Int)=(m:Int):=by
 simp;omega
theorem rz(n:Nat)(w:iW)(x:n<9223372036854775808):
 iK Tryz.prog 72 #[I J n] w λe w'=>e=G (iT ⟨(bK n).toArray⟩)/\iL w.heap.size w w':=by
 obtain⟨y,hi,p,q,r⟩:=bO zK;have k:=p8 n x;go_enter Tryz.func72,Tryz.ntmps72;go_wp2;go_loopw [0,3] (λt u wr=>∃(m:Nat) (acc:List UInt8),t=I J m/\m<=n/\ah (acc++bK m=bK n)/\wr.ownsRow w.heap.size 5 1 u acc.length (bF acc)/\iL w.heap.size w wr) (λt _ _=>(intOf t).toNat)
 case atStart=>exact⟨n,[],rfl,am _,rfl,oH w #[] 0 (am _) (by unfold maxLen;omega) (by simp),aZ⟩
 case round=>
  obtain⟨m,acc,rfl,M,d,c,f⟩:=hrel;have K:=f.size;have C:=X8 d x;by_cases H:127<(m:Int)
  ·go_wp2_with (at_builtin;refine cS _ rfl _ _ 22 rfl w.heap.size 5 y (I .u8 0) 1 1 Tryz.underlying22 hi p q r rfl (by decide) _ _ _ rfl (c.alloc _) ⟨wr.heap.size,0,O⟩ 1 1 [I .u8 _] rfl rfl (lS _ _ _) (vT _) ?c1 ?c2 ?c3 ?_)
   case c1=>unfold maxLen;omega
   case c2=>omega
   case c3=>first|omega|(simp;omega)
   intro L z a b _;have i:=tz f (by omega) c b
   rw[uV acc _ _ (Vk m)]at a;have h:=Tr d (by omega)
   clear c b d;go_wp2;go_roundw
   case rel=>exact⟨m/128,_,by go_num,by omega,h,by simpa using a,i⟩
   case measure=>simp[intOf];omega
  ·go_wp2_with (at_builtin;refine cS _ rfl _ _ 22 rfl w.heap.size 5 y (I .u8 0) 1 1 Tryz.underlying22 hi p q r rfl (by decide) _ _ _ rfl (c.alloc _) ⟨wr.heap.size,0,O⟩ 1 1 [I .u8 _] rfl rfl (lS _ _ _) (vT _) ?c1 ?c2 ?c3 ?_)
   case c1=>unfold maxLen;omega
   case c2=>omega
   case c3=>first|omega|(simp;omega)
   intro L z a b _;have i:=tz f (by omega) c b
   rw[uV acc _ _ (Yi m (by omega))]at a
   have e:acc++[UInt8.ofNat m]=bK n:=by rw[<-d.o,ru m (by omega)]
   have v:acc.length+1=(acc++[UInt8.ofNat m]).length:=by simp
   rw[v,e]at a;have E:=I4 e;clear c b d e v;obtain⟨l,s⟩:∃l,l=bK n:=⟨_,rfl⟩;rw[<-s]at a k;have A:=I4 s;clear s E;rcases a.2 with⟨-,h0⟩|⟨g,cap,B,rfl,-,-,-,-,-,-⟩
   ·omega
   ·have D:=rL (P:=Tryz.prog) z 22 9 5 ⟨g,0,O⟩ cap l Tryz.underlying22 Tryz.underlying5 Tryz.underlying9 (λj F=>a.cells (g:=g) rfl j _ (sJ l j F))
    go_wp2;go_ret;exact⟨by rw[A.o];rfl,i⟩
theorem Jz(x:Int)(w:iW)(h0:0<=x)(h1:x<=1000000000):
 iK Tryz.prog 72 #[I J x] w λe w'=>e=G (iT ⟨(bK x.toNat).toArray⟩)/\iL w.heap.size w w':=by
 obtain⟨n,rfl⟩:=AY h0
 simpa using rz n w (by omega)
theorem WB(s:ByteArray)(q:Nat)(w:iW)(hs:s.size<=1048576)(K:q<=s.size):
 iK Tryz.prog 68 #[iT s,I J q] w λe w'=>e=G (mZ (bR s.data.toList q))/\iL w.heap.size w w':=by
 have g:decide ((0:Int)<=q/\(q:Int)<=s.size)=iV:=by simp;omega
 go_enter Tryz.func68,Tryz.ntmps68;go_wp2_with fail;refine(ij _ _ _ _).mono ?_;rintro e w' ⟨rfl,rfl⟩;rw[g];go_wp2;go_loop [7,8,9] (λN P y=>∃k n u:Nat,N=I J n/\P=I J u/\y=I J (q+k:Nat)/\ah (St s.data.toList q k n u)) (λ_ _ y=>s.size-(intOf y).toNat)
 case atStart=>exact⟨0,0,1,rfl,rfl,rfl,St.zero (by simpa using K)⟩
 case round=>
  obtain⟨k,n,u,rfl,rfl,rfl,a⟩:=hrel;obtain⟨R,S,B,z,A⟩:=a.o.bounds;by_cases d:q+k<s.size/\k<5
  ·obtain⟨h1,f⟩:=d;have C:=z f;have c1:((q+k:Nat):Int)<s.size:=by omega
   have c2:((q+k:Nat):Int)<(q:Int)+5:=by omega
   clear B z A;obtain⟨c,i⟩:=aq (s[q+k].toNat:Nat);have D:c<256:=by rw[<-i];exact uj _
   have U:=M3 c u C;have V:=Jm c u;have H:ah (At s.data.toList (q+k) c):=⟨by simpa using h1,by rw[<-i];rfl⟩
   by_cases T:(c:Int)<128
   ·by_cases p:(n:Int)+(c:Int) % 128*u<=1000000000
    ·have b:n+c % 128*u<=1000000000:=by rw[<-nH]at p;omega
     have E:decide ((1000000000:Int)<(n:Int)+(c:Int) % 128*u)=iF:=by simpa using p
     obtain⟨t,v⟩:∃t,t=s.extract q (q+k+1):=⟨_,rfl⟩;have L:∀W,(Instr.slice 9 (iT s) (X (I J (q:Int))) (X (I J ((q:Int)+k+1))) O).run Tryz.prog W=.ok (iT t) W:=by
      intro W;rw[vp W 9 s J J q ((q:Int)+k+1) Tryz.underlying9,ak (by omega),ak (by omega),v]
      rfl
     have l:t.toList=(s.data.toList.drop q).take (k+1):=by
      rw[v,mU,vP];congr 1;omega
     have x:((n:Int)+(c:Int) % 128*u).toNat=n+c % 128*u:=by rw[<-nH];exact bi _
     have m:=a.o.var' H.o (show c<128 by omega)
     rw[<-l,<-x]at m;have M:IntKind.i64.wrap ((q:Int)+k+1)=(q:Int)+k+1:=by
      rw[cm];omega
     clear v l;by_cases h0:c=0/\k≠0
     ·have F:ah (bR s.data.toList q=O):=a.o.no' f H.o (by omega) (.inr h0)
      have j:(bK ((n:Int)+(c:Int) % 128*u).toNat==t.toList)=iF:=by
       rw[dk];intro h;exact m.1 h h0
      clear x m h0 b;go_wp2;go_region_held3 (λ_=>True) (trivial) ((go_at_call 72;refine(Jz _ _ (by omega) (by omega)).mono ?_;rintro e Q ⟨rfl,r⟩))
      go_wp2;go_ret3;exact⟨by rw[F.o];rfl,(ax _ _).drew.trans r⟩
     ·have F:ah (bR s.data.toList q=X (n+c % 128*u,q+k+1)):=a.o.yes' f H.o (by omega) b h0
      have j:(bK ((n:Int)+(c:Int) % 128*u).toNat==t.toList)=iV:=by
       rw[ix];exact m.2 h0
      clear x m h0 b;go_wp2;go_region_held3 (λ_=>True) (trivial) ((go_at_call 72;refine(Jz _ _ (by omega) (by omega)).mono ?_;rintro e Q ⟨rfl,r⟩))
      go_wp2;go_ret3;exact⟨by rw[F.o,mZ,nH];rfl,(ax _ _).drew.trans r⟩
    ·have b:1000000000<n+c % 128*u:=by rw[<-nH]at p;omega
     have F:ah (bR s.data.toList q=O):=a.o.no' f H.o (by omega) (.inl b)
     clear b;have E:decide ((1000000000:Int)<(n:Int)+(c:Int) % 128*u)=iV:=by simpa using p
     go_wp2;go_quiet (fail);go_wp2;go_ret3;exact⟨by rw[F.o];rfl,bY (ax _ _) _⟩
   ·go_wp2;go_round
    case rel=>exact⟨k+1,n+c % 128*u,u*128,by rw[nH],by go_num,by go_num,a.o.step' f H.o (by omega)⟩
    case measure=>simp[intOf];omega
  ·have F:ah (bR s.data.toList q=O):=a.o.stop (by simpa using d)
   by_cases h1:q+k<s.size
   ·have c1:((q+k:Nat):Int)<s.size:=by omega
    have c2:¬((q+k:Nat):Int)<(q:Int)+5:=by have:=a.o.1;omega
    clear d A;go_wp2;go_ret3;exact⟨by rw[F.o];rfl,ax _ _⟩
   ·have c1:¬((q+k:Nat):Int)<s.size:=by omega
    clear d;go_wp2;go_ret3;exact⟨by rw[F.o];rfl,ax _ _⟩
theorem OB(s:ByteArray)(q:Int)(w:iW)(a:q<0∨s.size<q):
 iK Tryz.prog 68 #[iT s,I J q] w λe w'=>e=G (mZ O)/\w'=w:=by
 have g:decide ((0:Int)<=q/\(q:Int)<=s.size)=iF:=by simp only[rA];omega
 go_enter Tryz.func68,Tryz.ntmps68;go_wp2_with fail;refine(ij _ _ _ _).mono ?_;rintro e w' ⟨rfl,rfl⟩;rw[g];go_wp2;go_ret3;exact⟨rfl,rfl⟩
theorem Uy(l:List UInt8)(q:Nat)(h:l.length<q):bR l q=O:=by
 unfold bR;rw[mw (by omega)]
 rfl
theorem K4(s:ByteArray)(q:Nat)(w:iW)(hs:s.size<=1048576):
 iK Tryz.prog 68 #[iT s,I J q] w λe w'=>e=G (mZ (bR s.data.toList q))/\iL w.heap.size w w':=by
 by_cases h:q<=s.size
 ·exact WB s q w hs h
 ·rw[Uy _ _ (show s.size<q by omega)]
  refine(OB s q w (by omega)).mono ?_
  rintro e w' ⟨rfl,rfl⟩;exact⟨rfl,ax _ _⟩
def dH(w:iW)(g:Nat)(t:ByteArray)(i:Int)(bad:Bool):Prop:=g<w.heap.size/\w.cell? ⟨g,0,O⟩=X (iT t)/\w.cell? ⟨g,1,O⟩=X (I J i)/\w.cell? ⟨g,2,O⟩=X (iB bad)/\w.frozen? ⟨g,1,O⟩=iF/\w.frozen? ⟨g,2,O⟩=iF
def lK(w w':iW)(g:Nat)(t:ByteArray)(i:Int)(bad:Bool):Prop:=aR w w' (·≠g)/\dH w' g t i bad
theorem dH.below{w w':iW}{i:Int}(h:dH w g t i bad)(a:iL w.heap.size w w'):dH w' g t i bad:=by
 obtain⟨h1,b,c,h4,d,k⟩:=h;have e:∀j,w'.cell? ⟨g,j,O⟩=w.cell? ⟨g,j,O⟩:=λj=>a.cell (show g<w.heap.size from h1)
 have f:∀j,w'.frozen? ⟨g,j,O⟩=w.frozen? ⟨g,j,O⟩:=λj=>a.frozen (show g<w.heap.size from h1)
 exact⟨eW h1 a.size,by rw[e];exact b,by rw[e];exact c,by rw[e];exact h4,by rw[f];exact d,by rw[f];exact k⟩
theorem dH.set1{w:iW}{i:Int}(h:dH w g t i bad):dH (w.setCell ⟨g,1,O⟩ (I J i')) g t i' bad:=by
 obtain⟨h1,b,c,h4,d,f⟩:=h;have o:∀(i j:Nat) (u:iX),i≠j->(w.setCell ⟨g,i,O⟩ u).cell? ⟨g,j,O⟩=w.cell? ⟨g,j,O⟩:=λi j u a=>iN _ _ _ _ (λe=>a (by injection e))
 exact⟨by simpa using h1,by rw[o 1 0 _ (by omega)];exact b,qX _ _ _ c,by rw[o 1 2 _ (by omega)];exact h4,by simpa using d,by simpa using f⟩
theorem dH.set2{w:iW}{i:Int}(h:dH w g t i bad):dH (w.setCell ⟨g,2,O⟩ (iB bad')) g t i bad':=by
 obtain⟨h1,b,c,h4,d,f⟩:=h;have o:∀(i j:Nat) (u:iX),i≠j->(w.setCell ⟨g,i,O⟩ u).cell? ⟨g,j,O⟩=w.cell? ⟨g,j,O⟩:=λi j u a=>iN _ _ _ _ (λe=>a (by injection e))
 exact⟨by simpa using h1,by rw[o 2 0 _ (by omega)];exact b,by rw[o 2 1 _ (by omega)];exact c,qX _ _ _ h4,by simpa using d,by simpa using f⟩
theorem H6(w:iW)(g j:Nat)(v:iX):aR w (w.setCell ⟨g,j,O⟩ v) (·≠g):=by
 refine⟨rfl,rfl,rfl,by simp,λi _ a=>?_⟩
 exact aO _ _ _ _ a
theorem lK.set1{w w':iW}{i:Int}(h:dH w g t i bad)(a:iL w.heap.size w w'):lK w (w'.setCell ⟨g,1,O⟩ (I J i')) g t i' bad:=
 ⟨(aR.below a).trans (H6 _ _ _ _),(h.below a).set1⟩
theorem lK.set2{w w':iW}{i:Int}(h:dH w g t i bad)(a:iL w.heap.size w w'):lK w (w'.setCell ⟨g,2,O⟩ (iB bad')) g t i bad':=
 ⟨(aR.below a).trans (H6 _ _ _ _),(h.below a).set2⟩
def gF(l:List UInt8)(i:Nat):Bool->Nat×Nat×Bool
 |true=>(0,i,iV)
 |false=>match bR l i with
  |some (n,j)=>(n,j,iF)
  |none=>(0,i,iV)
theorem Te(s:ByteArray)(i n j:Nat)(g:Nat)(w:iW)(hs:s.size<=1048576)(b:dH w g s i iF)(f:bR s.data.toList i=X (n,j)):
 iK Tryz.prog 37 #[iP (X ⟨g,0,O⟩)] w λe w'=>e=G (I J n)/\lK w w' g s j iF:=by
 obtain⟨h1,k,l,h4,m,p⟩:=id b;have R:=af b;have C:=af (λw=>K4 s i w hs)
 rw[f]at C;clear b f;go_enter Tryz.func37,Tryz.ntmps37;go_wp2;go_region_held3 (λw'=>w'.cell? ⟨g,0,O⟩=X (iT s)/\w'.cell? ⟨g,1,O⟩=X (I J i)) (first|go_keep|exact⟨a.o.2.1,a.o.2.2.1⟩) ((go_at_call 68;(with_reducible refine cn (C.o _) ?_);rintro e h ⟨rfl,d⟩;have c:ah (iL w.heap.size w h):=Below.trans (Below.drew (ax w.heap.size w)) d;have a:ah (dH h g s i iF):=R.o.below c.o;clear d;simp only[mZ]))
 all_goals
  obtain⟨q,r,t,u,v,x⟩:=a.o;have M:=af (lK.set1 (i':=(j:Int)) R.o c.o);go_wp2;go_ret;exact⟨rfl,M.o⟩
theorem Bm(s:ByteArray)(i:Nat)(bad:Bool)(g:Nat)(w:iW)(hs:s.size<=1048576)(b:dH w g s i bad)(x:Option (Nat×Nat))(f:bR s.data.toList i=x)(k:(bad=iV/\x=O)∨(bad=iV/\∃n j,x=X (n,j))∨(bad=iF/\x=O)):
 iK Tryz.prog 37 #[iP (X ⟨g,0,O⟩)] w λe w'=>e=G (I J 0)/\lK w w' g s i iV:=by
 obtain⟨h1,l,m,h4,p,q⟩:=id b;have R:=af b;have C:=af (λw=>K4 s i w hs)
 rw[f]at C;clear b f;rcases k with⟨rfl,rfl⟩|⟨rfl,n,j,rfl⟩|⟨rfl,rfl⟩
 all_goals
  go_enter Tryz.func37,Tryz.ntmps37;go_wp2;go_region_held3 (λw'=>w'.cell? ⟨g,0,O⟩=X (iT s)/\w'.cell? ⟨g,1,O⟩=X (I J i)) (first|go_keep|exact⟨a.o.2.1,a.o.2.2.1⟩) ((go_at_call 68;(with_reducible refine cn (C.o _) ?_);rintro e h ⟨rfl,d⟩;have c:ah (iL w.heap.size w h):=Below.trans (Below.drew (ax w.heap.size w)) d;have a:ah (dH h g s i _):=R.o.below c.o;clear d;simp only[mZ]))
  all_goals
   obtain⟨r,t,u,v,y,z⟩:=a.o;have M:=af (lK.set2 (bad':=iV) R.o c.o);go_wp2;go_ret;exact⟨rfl,M.o⟩
theorem sE(s:ByteArray)(i:Nat)(bad:Bool)(g:Nat)(w:iW)(hs:s.size<=1048576)(f:dH w g s i bad)(n j:Nat)(h:Bool)(c:gF s.data.toList i bad=(n,j,h)):
 iK Tryz.prog 37 #[iP (X ⟨g,0,O⟩)] w λe w'=>e=G (I J n)/\lK w w' g s j h:=by
 cases d:bR s.data.toList i with
 |none=>
  cases bad with
  |false=>
   simp only[gF,d]at c;cases c;exact Bm s i _ g w hs f _ d (.inr (.inr ⟨rfl,rfl⟩))
  |true=>
   simp only[gF]at c;cases c;exact Bm s i _ g w hs f _ d (.inl ⟨rfl,rfl⟩)
 |some x=>
  obtain⟨a,b⟩:=x;cases bad with
  |false=>
   simp only[gF,d]at c;cases c;exact Te s i _ _ g w hs f d
  |true=>
   simp only[gF]at c;cases c;exact Bm s i _ g w hs f _ d (.inr (.inl ⟨rfl,a,b,rfl⟩))
theorem jG{l:List UInt8}{b:Bool}(h:gF l i b=(n,j,iF)):b=iF/\bR l i=X (n,j):=by
 cases b with
 |true=>simp[gF]at h
 |false=>
  cases d:bR l i with
  |none=>simp[gF,d]at h
  |some x=>
   obtain⟨a,c⟩:=x;simp only[gF,d]at h;cases h;exact⟨rfl,rfl⟩
theorem kJ{l:List UInt8}{b:Bool}(h:gF l i b=(n,j,iV)):b=iV∨bR l i=O:=by
 cases b with
 |true=>exact .inl rfl
 |false=>
  cases d:bR l i with
  |none=>exact .inr rfl
  |some x=>
   obtain⟨a,c⟩:=x;simp only[gF,d]at h;cases h
end Go.Proofs.YtgigcooffjjbgaaGreatDoor
