/-
  SPlain; SMatch; STok; SPack; SUnp; SNewest; SRdOf; SSameL; SPlan
-/
import Derived.Test.YtijmbohadndfmaaGreatDoorPk22
open Go.Value renaming int→I,slice→Y,string→iT,bool→iB,agg→iA,tuple→iU
open Go.IntKind renaming i64→J
open Option renaming none→O,some→X
open Go.Ending renaming returned→G
open Go.Obj renaming cells→iC
open Bool renaming true→iV,false→iF
open Go renaming World→iW,Value→iX,Calls→iK
open Go.RowKit renaming Below→iL
set_option maxHeartbeats 4000000
set_option maxRecDepth 100000
namespace Go.Proofs.YtijmbohadndfmaaGreatDoor
open Go.RowKit Pack
theorem Ux(x lo hi:Int)(b:Bool)(w:iW)(h:(lo<=x/\x<=hi/\b=iV)∨((x<lo∨lo<=x/\¬x<=hi)/\b=iF)):
 iK Tryz.prog 40 #[I J x,I J lo,I J hi] w λe w'=>e=G (iB b)/\w'=w:=by
 rcases h with⟨h1,a,rfl⟩|⟨h1|⟨h1,a⟩,rfl⟩
 all_goals
  go_enter Tryz.func40,Tryz.ntmps40;go_wp2;go_ret;exact⟨rfl,rfl⟩
theorem Yy(x lo hi:Int)(w:iW):
 iK Tryz.prog 40 #[I J x,I J lo,I J hi] w λe w'=>e=G (iB (decide (lo<=x/\x<=hi)))/\w'=w:=by
 apply Ux;by_cases h:lo<=x/\x<=hi
 ·exact .inl ⟨h.1,h.2,aQ h⟩
 ·exact .inr ⟨by omega,aV h⟩
variable{t:ByteArray}{g B:Nat}
theorem Uj{w:iW}{l:List UInt8}(h:Dh w g l):∀(j:Nat) (u:iX),(eO l)[j]?=X u->w.cell? ((⟨g,0,O⟩:Addr).add j)=X u:=by
 intro j u a;rw[eX];have:=Mj h j u a
 rwa [dK]at this
theorem Wf(v:Value)(ls:List (Int×Int×ByteArray))(B:Nat)(w:World)(hl:ls.length<=1048576)(ha:w.ownsRow B 181 3 v ls.length (mU ls)):
 Calls Tryz.prog 125 #[v] w λe w'=>e=.returned (mm (oF ls))/\Below w.heap.size w w':=by
 obtain⟨i0,hi,az,aA,aB⟩:=bK zB;obtain⟨ad,aM,rfl,a1,a2,a3⟩:=sE ha;unfold maxLen at a2;have A3:=af a3;have HA:=af ha;clear a3 ha;have G:=af Yy;go_enter Tryz.func125,Tryz.ntmps125;go_wp2;go_loopw [4,5] (λpv iv wr=>∃(k:Nat) (o:List UInt8),k<=ls.length/\o.length<=64/\iv=.int .i64 k/\ah (wr.ownsRow w.heap.size 5 1 pv o.length (eO o))/\ah (oF ls=oQ o (ls.drop k))/\ah (Below w.heap.size w wr)) (λ_ iv _=>ls.length-(intOf iv).toNat)
 case atStart=>exact⟨0,[],aI _,by simp,rfl,nE w #[] 0 (ak _) (by unfold maxLen;omega) (by simp),rfl,aY⟩
 case round=>
  obtain⟨k,o,hk,ho,rfl,HO,HG,HW⟩:=hrel;have au:=HW.o.size;by_cases a4:(k:Int)<ls.length
  ·obtain⟨ga,rfl,_,aX⟩:=A3.o (by omega)
   have aK:k<ls.length:=by omega
   obtain⟨x,y,t,ht⟩:∃x y t,ls[k]?=some (x,y,t):=⟨ls[k].1,ls[k].2.1,ls[k].2.2,ay aK⟩;obtain⟨c1,c2,c3⟩:=Hs (bu HA.o HW.o) ht;simp only at c1 c2 c3;have K:=OR o ls k _ ht;simp only at K;rw[<-HG.o]at K;have D:=af K;have k0:(0:Int)<=k:=by omega
   obtain⟨ap,aN,rfl,-⟩:=sE HO.o;have Y:=af (Zq wr x y t);have I:=af (HO.o.alloc (.cells #[.int .i64 x,.int .i64 y,.string t] 181));have i:=af (HW.o.alloc au (.cells #[.int .i64 x,.int .i64 y,.string t] 181));have a:ah (¬(mo o.length (x,y,t)/\o.length+t.size+y.toNat<=64)->oF ls=none):=λh=>by rw[D.o,ai h]
   clear ht K HG;by_cases X:(x==0)=true
   ·obtain rfl:x=0:=by simpa using X
    by_cases l:1<=(t.size:Int)/\(t.size:Int)<=31
    ·by_cases ax:(y !=0)=false
     ·obtain rfl:y=0:=by simpa using ax
      obtain⟨w5,s⟩:∃w5,w5=wr.alloc (.cells #[.int .i64 0,.int .i64 0,.string t] 181):=⟨_,rfl⟩;obtain⟨C,w6,S,E,R⟩:=Pf w5 t;have W:w5.heap.size=wr.heap.size+1:=by rw[s];simp
      rw[W]at S R E;rw[<-s]at I i;have O:=af (bu I.o (by rw[W];exact E))
      have ab:=af (i.o.trans (E.mono (by omega)))
      have aa:=af (Uj R);have a8:w.heap.size<=w6.heap.size:=by have:=E.size;omega
      rw[s]at S;have aH:(eO t.data.toList).length=t.size*1:=by simp[eO]
      have am:ah (mg o (0,0,t)=o++t.data.toList):=rfl;have p:ah (o.length+t.size<=64->oF ls=oQ (o++t.data.toList) (ls.drop (k+1))):=λh=>by
       rw[D.o,aj ⟨Or.inl ⟨rfl,(by show 1<=t.size;omega),(by show t.size<=31;omega),rfl⟩,by simpa using h⟩,am.o]
      have f:ah (¬o.length+t.size<=64->oF ls=none):=λh=>a.o (λh2=>h (by omega))
      clear E R s W D a am;go_wp2_with fail;refine(G.o _ _ _ _).mono ?_;rintro e L ⟨rfl,rfl⟩;rw[aQ l];go_wp2_with (at_builtin;refine cN _ rfl _ _ 22 rfl w.heap.size 5 i0 (.int .u8 0) 1 1 Tryz.underlying22 hi az aA aB rfl (by decide) _ _ _ rfl (by exact O.o) ⟨wr.heap.size+1,0,none⟩ t.size C (eO t.data.toList) rfl aH (by exact aa.o) (Mk _) (by unfold maxLen;omega) (by omega) (by omega) ?_)
      intro v8 w8 aq al _;have n:=af (ab.o.grown al (by omega) (λj hj=>(O.o.lt j hj).1))
      have b:ah (w8.ownsRow w.heap.size 5 1 v8 (o++t.data.toList).length (eO (o++t.data.toList))):=by
       show World.ownsRow _ _ _ _ _ _ _;have e1:(o++t.data.toList).length=o.length+t.size:=by simp
       have e2:eO (o++t.data.toList)=eO o++eO t.data.toList:=by simp[eO]
       rw[e1,e2];exact aq
      obtain⟨ac,ae,rfl,-⟩:=sE b.o;have r:(o++t.data.toList).length=o.length+t.size:=by simp
      obtain⟨q,hq⟩:=an (o++t.data.toList);rw[hq]at b p r⊢;have HL:=af r;clear aq al O ab hq r aa;by_cases aG:(64:Int)<q.length
      ·have m:=af (f.o (by have:=HL.o;omega))
       go_wp2;exact aF (cE rfl _ _ _) rfl ⟨by rw[m.o];rfl,n.o⟩
      ·have M:=af (p.o (by have:=HL.o;omega))
       have F:q.length<=64:=by omega
       clear p f HL;go_wp2;go_roundw
       case rel=>exact⟨k+1,q,by omega,F,by go_num,b,M,n⟩
       case measure=>simp[intOf];omega
     ·have aL:(y !=0)=true:=by simpa using ax
      have m:=af (a.o (λh=>by have:=h.1;unfold mo at this;simp at this aL;omega))
      go_wp2_with fail;refine(G.o _ _ _ _).mono ?_;rintro e L ⟨rfl,rfl⟩;rw[aQ l];go_wp2;exact aF (cE rfl _ _ _) rfl ⟨by rw[m.o];rfl,i.o⟩
    ·have m:=af (a.o (λh=>by have:=h.1;unfold mo at this;simp only at this;omega))
     go_wp2_with fail;refine(G.o _ _ _ _).mono ?_;rintro e L ⟨rfl,rfl⟩;rw[aV l];go_wp2;exact aF (cE rfl _ _ _) rfl ⟨by rw[m.o];rfl,i.o⟩
   ·have ba:(x==0)=false:=by simpa using X
    have ex:¬x=0:=by simpa using X
    by_cases l:1<=x/\x<=(o.length:Int)
    ·by_cases u:1<=y/\y<=31
     ·by_cases aw:t=⟨#[]⟩
      ·subst aw;obtain⟨A,rfl⟩:∃A:Nat,x=A:=⟨x.toNat,by omega⟩
       obtain⟨N,rfl⟩:∃N:Nat,y=N:=⟨y.toNat,by omega⟩
       have aR:1<=A:=by omega
       have aS:A<=o.length:=by omega
       have aT:N<=31:=by omega
       have aU:1<=N:=by omega
       have p:ah (o.length+N<=64->oF ls=oQ (mg o ((A:Int),(N:Int),⟨#[]⟩)) (ls.drop (k+1))):=λh=>by
        rw[D.o,aj ⟨Or.inr ⟨by show(1:Int)<=A;omega,by show(A:Int)<=o.length;omega,by show(1:Int)<=N;omega,by show(N:Int)<=31;omega,rfl⟩,by rw[aZ];exact h⟩]
       have f:ah (¬o.length+N<=64->oF ls=none):=λh=>a.o (λh2=>h (by have:=h2.2;rw[aZ]at this;exact this))
       have ag:wr.heap.size<(wr.alloc (.cells #[.int .i64 (A:Int),.int .i64 (N:Int),.string ⟨#[]⟩] 181)).heap.size:=Y.o.lt;obtain⟨q0,q1,q2⟩:=Y.o.cells;clear D a ex;go_wp2_with fail;refine(G.o _ _ _ _).mono ?_;rintro e L ⟨rfl,rfl⟩;rw[aQ l];go_wp2_with fail;refine(G.o _ _ _ _).mono ?_;rintro e L ⟨rfl,rfl⟩;rw[aQ u];clear l u;generalize s:wr.alloc (.cells #[.int .i64 (A:Int),.int .i64 (N:Int),.string ⟨#[]⟩] 181)=w5 at Y I i q0 q1 q2 ag⊢;generalize wr.heap.size=g at Y q0 q1 q2 ag au s⊢;clear s c1 c2 c3;go_wp2;go_loopw [4,7] (λpv jv w8=>∃(j:Nat) (q:List UInt8),j<=N/\jv=.int .i64 j/\o.length<=q.length/\q.length<=95/\ah (q.length=o.length+j)/\ah (w8.ownsRow w.heap.size 5 1 pv q.length (eO q))/\ah (mg o ((A:Int),(N:Int),⟨#[]⟩)=mu (N-j) A q)/\ah (jH w8 g A N ⟨#[]⟩)/\ah (Below w.heap.size w w8)) (λ_ jv _=>N-(intOf jv).toNat)
       case atStart=>exact⟨0,o,aI _,rfl,ak _,by omega,rfl,I,(by show _=_;unfold mg;simp),Y,i⟩
       case round=>
        obtain⟨j,q,hj,rfl,a6,a7,J,b,H,Q,n⟩:=hrel;obtain⟨q0,q1,q2⟩:=Q.o.cells;by_cases a0:(j:Int)<N
        ·obtain⟨ac,ae,rfl,-,aO,h8⟩:=sE b.o;obtain⟨gp,rfl,_,_⟩:=h8 (by omega)
         obtain⟨d,hd⟩:∃d:Nat,d=q.length-A:=⟨_,rfl⟩;have aW:(q.length:Int)-A=(d:Int):=by omega
         have aJ:d<q.length:=by omega
         have cb:_:=b.o.cells (g:=gp) rfl d _ (Nn q d aJ);rw[eX]at cb;have Z:ah (mg o ((A:Int),(N:Int),⟨#[]⟩)=mu (N-(j+1)) A (q++[q.getD d 0])):=by
          show _=_;rw[H.o,show N-j=(N-(j+1))+1 by omega,YH,<-hd]
         have a9:=n.o.size;have aP:q.length+1<=95:=by have:=J.o;omega
         obtain⟨c,hc⟩:=an (q.getD d 0:UInt8);rw[hc]at cb Z;obtain⟨z,hz⟩:=an ((c.toNat:Int):Int);rw[hz]at cb;have HZ:=af hz;clear hc hd H hz;have d0:(0:Int)<=d:=by omega
         go_wp2_with (at_builtin;refine cN _ rfl _ _ 22 rfl w.heap.size 5 i0 (.int .u8 0) 1 1 Tryz.underlying22 hi az aA aB rfl (by decide) _ _ _ rfl (by exact b.o.alloc _) ⟨_,0,none⟩ 1 1 [Value.int .u8 z] rfl rfl (by exact nw _ _ _) (Ai _) (by unfold maxLen;omega) (by omega) (by simp;omega) ?_)
         intro v9 w9 V T _;rw[zm q c z HZ.o]at V;have ar:(q++[c]).length=q.length+1:=by simp
         have aC:ah (w9.ownsRow w.heap.size 5 1 v9 (q++[c]).length (eO (q++[c]))):=by
          show World.ownsRow _ _ _ _ _ _ _;rw[ar];exact V
         have aD:=af ((Q.o.alloc _).grown (b.o.alloc _) T);have aE:=af (AX n.o (by omega) b.o T)
         clear V T b Q n cb q0 q1 q2;go_wp2;go_roundw
         case rel=>exact⟨j+1,q++[c],by omega,by go_num,by omega,by omega,(by show _=_;have:=J.o;omega),aC,Z,aD,aE⟩
         case measure=>simp[intOf];omega
        ·have U:j=N:=by omega
         have m:ah (mg o ((A:Int),(N:Int),⟨#[]⟩)=q):=by show _=_;rw[H.o,U,ja];rfl
         rw[m.o]at p;have P:ah (q.length=o.length+N):=by show _=_;rw[J.o,U]
         obtain⟨ac,ae,rfl,-⟩:=sE b.o;clear U H m J;by_cases aG:(64:Int)<q.length
         ·have m:=af (f.o (by have:=P.o;omega))
          go_wp2;exact aF (cE rfl _ _ _) rfl ⟨by rw[m.o];rfl,n.o⟩
         ·have M:=af (p.o (by have:=P.o;omega))
          have F:q.length<=64:=by omega
          clear p f P;go_wp2;go_roundw
          case rel=>exact⟨k+1,q,by omega,F,by go_num,b,M,n⟩
          case measure=>simp[intOf];omega
      ·have av:¬t.size=0:=λh=>aw (by
        apply lP;exact Array.eq_empty_of_size_eq_zero h)
       have m:=af (a.o (λh=>by have:=h.1;unfold mo at this;simp only at this;omega))
       have a5:t.toList.isEmpty=false:=by
        rw[pj,List.isEmpty_eq_false_iff];intro h;exact av (by rw[<-(show t.data.toList.length=t.size by simp),h];rfl)
       go_wp2_with fail;refine(G.o _ _ _ _).mono ?_;rintro e L ⟨rfl,rfl⟩;rw[aQ l];go_wp2_with fail;refine(G.o _ _ _ _).mono ?_;rintro e L ⟨rfl,rfl⟩;rw[aQ u];go_wp2;exact aF (cE rfl _ _ _) rfl ⟨by rw[m.o];rfl,i.o⟩
     ·have m:=af (a.o (λh=>by have:=h.1;unfold mo at this;simp only at this;omega))
      go_wp2_with fail;refine(G.o _ _ _ _).mono ?_;rintro e L ⟨rfl,rfl⟩;rw[aQ l];go_wp2_with fail;refine(G.o _ _ _ _).mono ?_;rintro e L ⟨rfl,rfl⟩;rw[aV u];go_wp2;exact aF (cE rfl _ _ _) rfl ⟨by rw[m.o];rfl,i.o⟩
    ·have m:=af (a.o (λh=>by have:=h.1;unfold mo at this;simp only at this;omega))
     go_wp2_with fail;refine(G.o _ _ _ _).mono ?_;rintro e L ⟨rfl,rfl⟩;rw[aV l];go_wp2;exact aF (cE rfl _ _ _) rfl ⟨by rw[m.o];rfl,i.o⟩
  ·have ao:k=ls.length:=by omega
   have m:ah (oF ls=some o):=by show _=_;rw[HG.o,ao,vK];rfl
   have S:=Ko wr _ o HO.o;clear HG ao;go_wp2;exact aF (cE rfl _ _ _) rfl ⟨by rw[m.o];rfl,HW.o⟩
theorem XC(s:ByteArray)(i j:Nat)(w:iW)(hs:s.size<=64)(x:i<j)(B:j<=s.size):
 iK Tryz.prog 137 #[iT s,I J i,I J j] w λe w'=>e=G (I J (dh 31 (s.data.toList.drop i) (s.data.toList.drop j):Nat))/\iL w.heap.size w w':=by
 have m:s.data.toList.length=s.size:=by simp
 go_enter Tryz.func137,Tryz.ntmps137;go_wp2;go_loopw [7] (λq wr=>∃n:Nat,n<=31/\j+n<=s.size/\q=I J n/\ah (dh 31 (s.data.toList.drop i) (s.data.toList.drop j)=n+dh (31-n) (s.data.toList.drop (i+n)) (s.data.toList.drop (j+n)))/\iL w.heap.size w wr) (λq _=>31-(intOf q).toNat)
 case atStart=>exact⟨0,by omega,by omega,rfl,(by show _=0+_;simp),ax _ _⟩
 case round=>
  obtain⟨n,C,y,rfl,d,f⟩:=hrel;have D:IntKind.i64.wrap ((j:Int)+n)=(j:Int)+n:=by rw[cL];omega
  have E:IntKind.i64.wrap ((i:Int)+n)=(i:Int)+n:=by rw[cL];omega
  have l:=af f;clear f;by_cases v:n<31
  ·have t:decide ((n:Int)<31)=iV:=aQ (by omega)
   by_cases z:j+n<s.size
   ·have u:decide ((j:Int)+n<s.size)=iV:=aQ (by omega)
    have p:=yG s (i+n) ((i:Int)+n) (by omega) (by omega)
    have r:=yG s (j+n) ((j:Int)+n) (by omega) (by omega)
    by_cases b:s.data.toList.getD (i+n) 0=s.data.toList.getD (j+n) 0
    ·have a:ah (dh 31 (s.data.toList.drop i) (s.data.toList.drop j)=(n+1)+dh (31-(n+1)) (s.data.toList.drop (i+(n+1))) (s.data.toList.drop (j+(n+1)))):=by
      show _=_;rw[d.o,show 31-n=(31-(n+1))+1 by omega,T8 _ _ _ _ (by omega) (by omega) b,show i+n+1=i+(n+1)by omega,show j+n+1=j+(n+1)by omega]
      omega
     rw[b]at p;generalize(s.data.toList.getD (j+n) 0).toNat=c at p r;have A:((c:Int)==(c:Int))=iV:=by simp
     clear d b m;go_wp2;go_quiet (fail);go_wp2;go_roundw
     case rel=>exact⟨n+1,by omega,by omega,by go_num,a,bI l.o _⟩
     case measure=>simp[intOf];omega
    ·have a:ah (dh 31 (s.data.toList.drop i) (s.data.toList.drop j)=n):=by
      show _=_;rw[d.o,Tl _ _ _ _ (by omega) (by omega) b];rfl
     have k:((((s.data.toList.getD (i+n) 0).toNat:Nat):Int)==(((s.data.toList.getD (j+n) 0).toNat:Nat):Int))=iF:=by
      rw[dZ];intro h;exact b (UInt8.toNat_inj.1 (by omega))
     generalize(s.data.toList.getD (i+n) 0).toNat=c1 at p k;generalize(s.data.toList.getD (j+n) 0).toNat=c2 at r k;clear d b m;go_wp2;go_quiet (fail);go_wp2;go_ret;exact⟨by rw[a.o];rfl,bI l.o _⟩
   ·have u:decide ((j:Int)+n<s.size)=iF:=aV (by omega)
    have a:ah (dh 31 (s.data.toList.drop i) (s.data.toList.drop j)=n):=by
     show _=_;rw[d.o,MH _ _ _ _ (by omega)];rfl
    clear d m;go_wp2;go_quiet (fail);go_wp2;go_ret;exact⟨by rw[a.o];rfl,bI l.o _⟩
  ·have t:decide ((n:Int)<31)=iF:=aV (by omega)
   have g:n=31:=by omega
   have a:ah (dh 31 (s.data.toList.drop i) (s.data.toList.drop j)=n):=by
    show _=_;rw[d.o,g];rfl
   clear d m g;go_wp2;go_quiet (fail);go_wp2;go_ret;exact⟨by rw[a.o];rfl,bI l.o _⟩
theorem UD(s:ByteArray)(z:Int)(i j:Nat)(c:z=i)(w:iW)(hs:s.size<=64)(a:i<j)(b:j<=s.size):
 iK Tryz.prog 137 #[iT s,I J z,I J j] w λe w'=>e=G (I J (dh 31 (s.data.toList.drop i) (s.data.toList.drop j):Nat))/\iL w.heap.size w w':=by
 subst c;exact XC s i j w hs a b
theorem Yg(s:ByteArray)(w:iW)(hs:s.size<=64):
 iK Tryz.prog 108 #[iT s] w λe w'=>Jf w e w' (kU s.data.toList):=by
 obtain⟨i0,hi,ad,ae,ag⟩:=bK Je;have hl:s.data.toList.length=s.size:=by simp
 go_enter Tryz.func108,Tryz.ntmps108;go_wp2;go_loopw [3,4] (λaQ av wr=>∃(m k:Nat) (l:List (Nat×Nat×List UInt8)),k<=s.size/\l.length<=m/\m<=k/\av=I J k/\ah (dQ m s.data.toList=(k,l))/\ah (wr.ownsRow w.heap.size 181 3 aQ l.length (dW l))/\iL w.heap.size w wr) (λ_ av _=>64-(intOf av).toNat)
 case atStart=>exact⟨0,0,[],by omega,by simp,by omega,rfl,rfl,nE w #[] 0 (ak _) (by unfold maxLen;omega) (by simp),aY⟩
 case round=>
  obtain⟨m,k,l,hk,ac,a0,rfl,HS,HO,r⟩:=hrel;have aO:=r.size;by_cases aZ:(k:Int)<s.size
  ·obtain⟨wz,aP⟩:∃wz,wz=wr:=⟨_,rfl⟩;subst aP;go_wp2;go_loopw [5,6,7] (λbv kv fv w6=>∃(c v L:Nat),c<=k/\fv=I J ((k:Int)-1-c)/\bv=I J v/\kv=I J L/\v<=31/\L<=64/\ah (cB s.data.toList k c=(v,L))/\iL wz.heap.size wz w6) (λ_ _ fv _=>(intOf fv+1).toNat)
   case atStart=>exact⟨0,0,0,by omega,by go_num,rfl,rfl,by omega,by omega,rfl,ax _ _⟩
   case round=>
    obtain⟨c,v,L,hc,rfl,rfl,rfl,aI,D,T,B⟩:=hrel;have aM:=B.size;by_cases aW:c<k
    ·have aK:(0:Int)<=(k:Int)-1-c:=by omega
     have aB:=(Ir 31 (s.data.toList.drop (k-(c+1))) (s.data.toList.drop k)).1;go_wp2_with fail;refine(UD s _ (k-(c+1)) k (by omega) _ hs (by omega) (by omega)).mono ?_
     rintro e w7 ⟨rfl,ar⟩;have au:iL wz.heap.size wz w7:=B.trans (ar.mono aM);have al:ah (∀n,dh 31 (s.data.toList.drop (k-(c+1))) (s.data.toList.drop k)=n->(4<=n/\v<n->cB s.data.toList k (c+1)=(n,c+1))/\(¬(4<=n/\v<n)->cB s.data.toList k (c+1)=(v,L))):=by
      intro n P;subst P;have e1:(cB s.data.toList k c).1=v:=by rw[T.o]
      refine⟨λh=>Zj _ _ _ h.1 (by rw[e1];exact h.2),λh=>?_⟩
      rw[Om _ _ _ (by rw[e1];exact h),T.o]
     obtain⟨n,P⟩:=an (dh 31 (s.data.toList.drop (k-(c+1))) (s.data.toList.drop k));have R:=af (al.o n P);rw[P]at aB⊢;clear P al T B ar;have hw:((4:Int)<=n/\(v:Int)<n)∨¬(4:Int)<=n∨(4:Int)<=n/\¬(v:Int)<n:=by omega
     rcases hw with⟨h4,aJ⟩|hw
     ·have V:ah (cB s.data.toList k (c+1)=(n,c+1)):=R.o.1 ⟨by omega,by omega⟩
      clear R;go_wp2;go_roundw
      case rel=>exact⟨c+1,n,c+1,by omega,by go_num,rfl,by go_num,by omega,by omega,V,au⟩
      case measure=>simp[intOf];omega
     ·have V:ah (cB s.data.toList k (c+1)=(v,L)):=R.o.2 (by omega)
      clear R;rcases hw with h4|⟨h4,aJ⟩
      all_goals
       go_wp2;go_roundw
       case rel=>exact⟨c+1,v,L,by omega,by go_num,rfl,rfl,aI,D,V,au⟩
       case measure=>simp[intOf];omega
    ·have aH:c=k:=by omega
     subst aH;have aK:¬(0:Int)<=(c:Int)-1-c:=by omega
     have d:=af (bu HO.o B);have A:iL w.heap.size w wr:=r.trans (B.mono aO);by_cases h0:(0:Int)<v
     ·obtain⟨aC,aX⟩:=UI s.data.toList m c v L l (by omega) HS.o (by omega) T.o (by omega)
      have F:=af aC;clear HS T aC r B HO;go_wp2_with (at_builtin;refine cN _ rfl _ _ 178 rfl w.heap.size 181 i0 (iA #[I J 0,I J 0,iT ⟨#[]⟩]) 3 32 Tryz.underlying178 hi ad ae ag rfl (by decide) _ _ _ rfl (by exact d.o.alloc _) ⟨wr.heap.size,0,O⟩ 1 1 [I J _,I J _,iT _] rfl rfl (by exact uK _ _ _ _ _) (uG _ _ _) (by unfold maxLen;omega) (by omega) (by simp;omega) ?_)
      intro v' U i f _;have D:iL w.heap.size w U:=uI A (by omega) d.o f
      have H:ah (U.ownsRow w.heap.size 181 3 v' (l++[(L,v,[])]).length (dW (l++[(L,v,[])]))):=by
       show World.ownsRow _ _ _ _ _ _ _;rw[<-qF,aT];exact i
      clear i f d A;go_wp2;go_roundw
      case rel=>exact⟨m+1,c+v,l++[(L,v,[])],by omega,(by simp only[aT,aR,cU]at*;omega),by omega,by go_num,F,H,D⟩
      case measure=>simp[intOf];omega
     ·have aq:(cB s.data.toList c c).1=0:=by rw[T.o];show v=0;omega
      have ab:s.data.toList.getD c 0=s[c]:=by
       rw[om,ay (by omega)]
       rfl
      obtain⟨u,hu⟩:∃u:ByteArray,u=s.extract c (c+1):=⟨_,rfl⟩;have aE:u=⟨[s.data.toList.getD c 0].toArray⟩:=by
       rw[hu];apply lP;apply rC;rw[DM];simp only[Ey];rw[gj (by omega)]
       simp[List.getD_eq_getElem?_getD,List.getElem?_eq_getElem (show c<s.data.toList.length by omega)]
      have aN:∀W,(Instr.slice 9 (iT s) (X (I J (c:Int))) (X (I J ((c:Int)+1))) O).run Tryz.prog W=.ok (iT u) W:=by
       intro W;rw[Dg W 9 s J J _ _ Tryz.underlying9,aj (by omega),aj (by omega),hu]
       rfl
      have HU:=af aE;clear hu aE ab;by_cases P:∃(j:List (Nat×Nat×List UInt8)) (z:Nat) (t:List UInt8),l=j++[(0,z,t)]/\t.length<31
      ·obtain⟨j,z,t,rfl,ht⟩:=P;have F:=af (Wl s.data.toList m c z j t HS.o (by omega) aq ht)
       have q:(j++[((0:Nat),z,t)]).length=j.length+1:=by simp
       obtain⟨G,y,rfl⟩:=Is d.o (by omega)
       have M:(j++[((0:Nat),z,t)])[j.length]?=X (0,z,t):=by simp
       obtain⟨k1,k2,k3⟩:=GZ _ j.length (0,z,t) M;have c1:=d.o.cells (g:=G) rfl _ _ k1;have c3:=d.o.cells (g:=G) rfl _ _ k3;rw[eX,Bj]at c1 c3;have f3:=d.o.frozenAt (j.length*3+2);have aw:=(d.o.lt G rfl).1;obtain⟨x,hx⟩:∃x:ByteArray,x=⟨(t++[s.data.toList.getD c 0]).toArray⟩:=⟨_,rfl⟩;have K:=QP d.o rfl (j.length*3+2) (iT x);rw[hx,show j.length*3+2=3*j.length+2 by omega,PY,<-hx]at K
       rw[show 3*j.length+2=j.length*3+2 by omega]at K
       obtain⟨Q,C⟩:∃Q:ByteArray,Q=⟨t.toArray⟩:=⟨_,rfl⟩;have aD:(Q.size:Int)<31:=by rw[C];show((t.toArray.size:Nat):Int)<31;simp;omega
       rw[<-C]at c3;have aF:Q++u=x:=by
        rw[C,HU.o,hx];apply lP;simp[ByteArray.data_append]
       have a1:u.size=1:=by rw[HU.o];rfl
       have ap:∀W,(Go.Op.stringOp .add Q u).run Tryz.prog W=.ok (iT x) W:=by
        intro W;unfold Go.Op.stringOp;simp only[];rw[ai (by show¬_>(9223372036854775807:Int);omega),aF]
        rfl
       rw[q]at K ac⊢;have ao:=A.setCell (p:=⟨G,j.length*3+2,O⟩) aw (iT x);have H8:=af K;have Z:=af ao;obtain⟨N,hN⟩:∃N,N=j.length:=⟨_,rfl⟩;rw[<-hN]at c1 c3 f3 H8 Z ac⊢;simp only at c1;have HN:=af hN;have n0:(0:Int)<=N:=by omega
       clear M k1 k2 k3 d q K ao hx C aF hN HS T r B HO A aw;go_wp2;go_region;have H9:ah ((wr.setCell ⟨G,N*3+2,O⟩ (iT x)).drew.ownsRow w.heap.size 181 3 (Y (X ⟨G,0,O⟩) (N+1) y) (N+1) (dW (j++[(0,z,t++[s.data.toList.getD c 0])]))):=H8;have am:=af Z.o.drew;generalize(wr.setCell ⟨G,N*3+2,O⟩ (iT x)).drew=w9 at H9 am⊢;have aA:(j++[((0:Nat),z,t++[s.data.toList.getD c 0])]).length=N+1:=by rw[aT,HN.o];rfl
       have aG:ah (w9.ownsRow w.heap.size 181 3 (Y (X ⟨G,0,O⟩) (N+1) y) (j++[((0:Nat),z,t++[s.data.toList.getD c 0])]).length (dW (j++[(0,z,t++[s.data.toList.getD c 0])]))):=by
        show World.ownsRow _ _ _ _ _ _ _;rw[aA];exact H9.o
       have az:(j++[((0:Nat),z,t++[s.data.toList.getD c 0])]).length<=m+1:=by omega
       clear H8 Z H9 c1 c3 f3 ap aN aA;go_wp2;go_roundw
       case rel=>exact⟨m+1,c+1,j++[(0,z,t++[s.data.toList.getD c 0])],by omega,az,by omega,by go_num,F,aG,am.o⟩
       case measure=>simp[intOf];omega
      ·have F:=af (TR s.data.toList m c l HS.o (by omega) aq (λa z t e h=>P ⟨a,z,t,e,h⟩))
       clear HS T r B HO;rcases List.eq_nil_or_concat l with S|⟨j,⟨b,z,t⟩,S⟩
       ·subst S;rcases d.o.2 with⟨rfl,-⟩|⟨G,y,aS,rfl,-⟩
        all_goals
         clear P;go_wp2_with (at_builtin;refine cN _ rfl _ _ 178 rfl w.heap.size 181 i0 (iA #[I J 0,I J 0,iT ⟨#[]⟩]) 3 32 Tryz.underlying178 hi ad ae ag rfl (by decide) _ _ _ rfl (by exact d.o.alloc _) ⟨wr.heap.size,0,O⟩ 1 1 [I J _,I J _,iT _] rfl rfl (by exact uK _ _ _ _ _) (uG _ _ _) (by unfold maxLen;omega) (by omega) (by simp;omega) ?_)
         intro v' U i f _;have D:iL w.heap.size w U:=uI A (by omega) d.o f
         have H:ah (U.ownsRow w.heap.size 181 3 v' (([]:List (Nat×Nat×List UInt8))++[(0,0,[s.data.toList.getD c 0])]).length (dW (([]:List (Nat×Nat×List UInt8))++[(0,0,[s.data.toList.getD c 0])]))):=by
          show World.ownsRow _ _ _ _ _ _ _;rw[<-qF,aT];have:=i;rw[HU.o]at this;exact this
         clear i f d A;go_wp2;go_roundw
         case rel=>exact⟨m+1,c+1,([]:List (Nat×Nat×List UInt8))++[(0,0,[s.data.toList.getD c 0])],by omega,(by simp only[aT,aR,cU]at*;omega),by omega,by go_num,F,H,D⟩
         case measure=>simp[intOf];omega
       ·have E:l=j++[(b,z,t)]:=by rw[S];simp
        have q:l.length=j.length+1:=by rw[E];simp
        obtain⟨G,y,rfl⟩:=Is d.o (by omega)
        have M:l[j.length]?=X (b,z,t):=by rw[E];simp
        obtain⟨k1,k2,k3⟩:=GZ l j.length (b,z,t) M;have c1:=d.o.cells (g:=G) rfl _ _ k1;have c3:=d.o.cells (g:=G) rfl _ _ k3;rw[eX,Bj]at c1 c3;obtain⟨N,hN⟩:∃N,N=j.length:=⟨_,rfl⟩;rw[<-hN]at c1 c3 q;have HN:=af q;have aV:N+1<=m:=by omega
        have aa:ah (wr.ownsRow w.heap.size 181 3 (Y (X ⟨G,0,O⟩) (N+1) y) (N+1) (dW l)):=by
         show World.ownsRow _ _ _ _ _ _ _;have:=d.o;rw[q]at this;exact this
        rw[q];obtain⟨Q,C⟩:∃Q:ByteArray,Q=⟨t.toArray⟩:=⟨_,rfl⟩;have aD:Q.size=t.length:=by rw[C];show t.toArray.size=_;simp
        rw[<-C]at c3;simp only at c1;clear M k1 k2 k3 d ac;have hw:(((b:Int)==0)=iV/\¬(Q.size:Int)<31)∨((b:Int)==0)=iF:=by
         by_cases hb:b=0
         ·exact .inl ⟨by simp[hb],λh=>P ⟨j,z,t,by rw[E,hb],by omega⟩⟩
         ·exact .inr (by rw[dZ];omega)
        clear P hN S E q C aD;rcases hw with⟨tb,aU⟩|tb
        all_goals
         go_wp2_with (at_builtin;refine cN _ rfl _ _ 178 rfl w.heap.size 181 i0 (iA #[I J 0,I J 0,iT ⟨#[]⟩]) 3 32 Tryz.underlying178 hi ad ae ag rfl (by decide) _ (N+1) (dW l) rfl (by exact aa.o.alloc _) ⟨wr.heap.size,0,O⟩ 1 1 [I J _,I J _,iT _] rfl rfl (by exact uK _ _ _ _ _) (uG _ _ _) (by unfold maxLen;omega) (by omega) (by simp;omega) ?_)
         intro v' U i f _;have D:iL w.heap.size w U:=uI A (by omega) aa.o f
         have H:ah (U.ownsRow w.heap.size 181 3 v' (l++[(0,0,[s.data.toList.getD c 0])]).length (dW (l++[(0,0,[s.data.toList.getD c 0])]))):=by
          show World.ownsRow _ _ _ _ _ _ _;rw[<-qF,aT,HN.o];have:=i;rw[HU.o]at this;exact this
         have aL:(l++[(0,0,[s.data.toList.getD c 0])]).length<=m+1:=by rw[aT,HN.o];simp only[aR,cU];omega
         clear i f aa A;go_wp2;go_roundw
         case rel=>exact⟨m+1,c+1,l++[(0,0,[s.data.toList.getD c 0])],by omega,aL,by omega,by go_num,F,H,D⟩
         case measure=>simp[intOf];omega
  ·have ek:k=s.size:=by omega
   have ET:ah (kU s.data.toList=l):=Rk _ m l (by rw[HS.o,ek,hl]) (by omega)
   go_wp2;go_ret;rw[ET.o];exact⟨_,rfl,HO.o,r⟩
theorem NE(w:iW)(c d:UInt8)(x y:Int)(a:(c.toNat:Int)=x)(b:(d.toNat:Int)=y):
 (convert 22 9 (Y (X ⟨w.heap.size,0,O⟩) 2 2)).run Tryz.prog (w.alloc (iC #[I .u8 x,I .u8 y] 5))=.ok (iT ⟨#[c,d]⟩) (w.alloc (iC #[I .u8 x,I .u8 y] 5)):=by
 subst a b;exact sx (P:=Tryz.prog) (w.alloc (iC #[I .u8 c.toNat,I .u8 d.toNat] 5)) 22 9 5 ⟨w.heap.size,0,O⟩ 2 [c,d] Tryz.underlying22 Tryz.underlying5 Tryz.underlying9
  (λj e=>PS w _ _ 5 j _ (by
   match j,e with
   |0,_=>rfl
   |1,_=>rfl))
theorem QL(o:List UInt8)(c d:UInt8):iT (⟨o.toArray⟩++⟨#[c,d]⟩)=iT ⟨(o++[c,d]).toArray⟩:=by
 rw[show(#[c,d]:Array UInt8)=[c,d].toArray from rfl,ByteArray.mk_append_mk]
theorem Mu(o:List UInt8)(c:UInt8)(t:ByteArray):iT (⟨o.toArray⟩++⟨#[c]⟩++t)=iT ⟨(o++c::t.data.toList).toArray⟩:=by
 congr 1;apply lP;rw[rV,rV];apply rC;simp
theorem H5(s:ByteArray)(w:iW):
 iK Tryz.prog 74 #[iT s] w λe w'=>e=G (mm (fx s.data.toList))/\iL w.heap.size w w':=by
 have hl:s.data.toList.length=s.size:=by simp
 by_cases hs:(64:Int)<s.size
 ·have p:ah (fx s.data.toList=O):=by show _=_;unfold fx;rw[aj (by omega)]
  go_enter Tryz.func74,Tryz.ntmps74;go_wp2;exact aF (cE rfl _ _ _) rfl ⟨by rw[p.o];rfl,ax _ _⟩
 ·have Y:=af (W4 s.data.toList (by omega))
  have q:=Wr s.data.toList;obtain⟨l,j⟩:=an (kU s.data.toList);have C:ah (fx s.data.toList=X (if s.size+1<=(122::l.flatMap fM).length then 114::s.data.toList else 122::l.flatMap fM)):=by
   show _=_;unfold fx xj;rw[ai (by omega),j,hl]
  have Z:=af (Yg s);rw[j]at Y q;have E:ah (∀w,iK Tryz.prog 108 #[iT s] w λe w'=>Jf w e w' l):=λw=>by
   have:=Z.o w (by omega)
   rw[j]at this;exact this
  have ac:l.length<=64:=by omega
  clear q j Z;go_enter Tryz.func74,Tryz.ntmps74;go_wp2_with fail;refine(E.o _).mono ?_;rintro e S ⟨v,rfl,Q,u⟩;rw[Ei]at Q;obtain⟨ad,aa,rfl,a1,a2,a3⟩:=sE Q;unfold maxLen at a2;have A3:=af a3;have HA:=af Q;have HB:=af u;have K:=u.size;clear a3 Q u E;go_wp2;go_loopw [5,6] (λzv W wr=>∃(k:Nat) (o:List UInt8),k<=l.length/\o.length<=32*k+1/\W=I J k/\zv=iT ⟨o.toArray⟩/\ah (o=122::(l.take k).flatMap fM)/\ah (iL S.heap.size S wr)) (λ_ W _=>l.length-(intOf W).toNat)
  case atStart=>exact⟨0,[122],aI _,by simp,rfl,rfl,rfl,ax _ _⟩
  case round=>
   obtain⟨k,o,hk,ao,rfl,rfl,N,P⟩:=hrel;have V:=P.o.size;by_cases am:(k:Int)<l.length
   ·obtain⟨ga,rfl,_,ak⟩:=A3.o (by omega)
    have U:k<l.length:=by omega
    obtain⟨b,z,x,R⟩:∃b z x,l[k]?=X (b,z,x):=⟨l[k].1,l[k].2.1,l[k].2.2,ay U⟩;have L:(l.map jT)[k]?=X (jT (b,z,x)):=by rw[bk,R];rfl
    obtain⟨c1,c2,c3⟩:=Hs (bu HA.o P.o) L;simp only[jT]at c1 c2 c3;have a:=Y.o _ (aH R);have f:122::(l.take (k+1)).flatMap fM=o++fM (b,z,x):=by
     obtain⟨e1,e2⟩:=aD.1 R;rw[ge e1,e2,tR,N.o];simp
    have k0:(0:Int)<=k:=by omega
    obtain⟨t,n⟩:∃t:ByteArray,t=⟨x.toArray⟩:=⟨_,rfl⟩;have A:t.size=x.length:=by rw[n];show x.toArray.size=_;simp
    have M:t.data.toList=x:=by rw[n]
    rw[<-n]at c3;have D:=af f;have T:=af M;clear R L f N n M;obtain⟨r,d⟩:∃r,r=wr.alloc (iC #[I J (b:Int),I J (z:Int),iT t] 181):=⟨_,rfl⟩;have m:r.heap.size=wr.heap.size+1:=by rw[d];simp
    have g:ah (∀o,iL S.heap.size S (r.alloc o)):=λo=>by rw[d];exact(P.o.alloc V _).alloc (by simp;omega) _
    by_cases u:b=0
    ·have ae:t.size<=31:=by rcases a with⟨_,_,h,_⟩|⟨h,_⟩<;>simp only at* <;>omega
     have B:ah (fM (b,z,x)=UInt8.ofNat t.size::t.data.toList):=by show _=_;unfold fM;rw[aj u,A,T.o]
     have i:=YQ r (UInt8.ofNat t.size) (t.size:Int) (by rw[rW _ (by omega)])
     have tb:((b:Int)==0)=iV:=by rw[ky];omega
     have y:(o++fM (b,z,x)).length<=32*(k+1)+1:=by rw[aT,B.o,aR];simp;omega
     rw[m,d]at i;rw[d]at g;clear a A d m u r;go_wp2;go_roundw
     case rel=>exact⟨k+1,o++fM (b,z,x),by omega,y,by go_num,(by rw[B.o];exact Mu _ _ _),(by show _=_;rw[D.o]),g.o _⟩
     case measure=>simp[intOf];omega
    ·have ag:z<=31:=by rcases a with⟨h1,_⟩|⟨_,_,_,h,_⟩<;>simp only at* <;>omega
     have ab:b<=64:=by rcases a with⟨h1,_⟩|⟨_,h,_⟩<;>simp only at* <;>omega
     have B:ah (fM (b,z,x)=[UInt8.ofNat (128+z),UInt8.ofNat b]):=by show _=_;unfold fM;rw[ai u]
     have i:=NE r (UInt8.ofNat (128+z)) (UInt8.ofNat b) (128+(z:Int)) (b:Int) (by rw[rW _ (by omega)];omega) (by rw[rW _ (by omega)])
     have tb:((b:Int)==0)=iF:=by rw[dZ];omega
     obtain⟨c,hc⟩:∃c:UInt8,c=UInt8.ofNat (128+z):=⟨_,rfl⟩;rw[<-hc]at i B;clear hc;have y:(o++fM (b,z,x)).length<=32*(k+1)+1:=by rw[aT,B.o];simp;omega
     rw[m,d]at i;rw[d]at g;clear a A d m r;go_wp2;go_roundw
     case rel=>exact⟨k+1,o++fM (b,z,x),by omega,y,by go_num,(by rw[B.o];exact QL _ _ _),(by show _=_;rw[D.o]),g.o _⟩
     case measure=>simp[intOf];omega
   ·have H:k=l.length:=by omega
    have p:ah (o=122::l.flatMap fM):=by show _=_;rw[N.o,H,oU]
    rw[<-p.o]at C;have F:=af (HB.o.trans (P.o.mono K));clear N H p;by_cases al:(s.size:Int)+1<=o.length
    ·have p:ah (fx s.data.toList=X (114::s.data.toList)):=by show _=_;rw[C.o,aj (by omega)]
     clear C;go_wp2;exact aF (cE rfl _ _ _) rfl ⟨by rw[p.o];show _=Ending.returned (iU #[iT _,iB iV]);rw[<-Nv];rfl,F.o⟩
    ·have p:ah (fx s.data.toList=X o):=by show _=_;rw[C.o,ai (by omega)]
     clear C;go_wp2;exact aF (cE rfl _ _ _) rfl ⟨by rw[p.o];rfl,F.o⟩
theorem yX(r:Option (List UInt8)):∃p q,mm r=iU #[iT p,iB q]:=by
 cases r with
 |none=>exact⟨_,_,rfl⟩
 |some o=>exact⟨_,_,rfl⟩
theorem WV(l:List UInt8)(j k:Nat)(x y:Int)(b:x=j)(hy:y=k)(a:j<=k)(c:k<=l.length)(W:iW):(Instr.slice 9 (iT (BA l)) (X (I J x)) (X (I J y)) O).run Tryz.prog W=.ok (iT (BA ((l.drop j).take (k-j)))) W:=by
 subst b hy;rw[Dg W 9 (BA l) J J _ _ Tryz.underlying9,aj (by rw[su];omega),aj (by omega),<-Jo]
 rfl
theorem UZ(r:List UInt8)(w:iW)(hr:r.length<=1048576):
 iK Tryz.prog 124 #[iT (BA r)] w λe w'=>Vx 129 w r e w':=by
 obtain⟨P,hi,A,B,C⟩:=bK Je;have S:=su r;go_enter Tryz.func124,Tryz.ntmps124;go_wp2;go_loopw [4,5] (λZ D wr=>∃(k:Nat) (l:List (Nat×Nat×List UInt8)),k<=r.length/\l.length<=k/\D=I J k/\ah (RG 129 r=(RG 129 (r.drop k)).map λx=>l++x)/\ah (wr.ownsRow w.heap.size 181 3 Z l.length (dW l))/\ah (iL w.heap.size w wr)) (λ_ D _=>r.length-(intOf D).toNat)
 case atStart=>exact⟨0,[],by omega,by simp,rfl,(by show _=_;simp),nE w #[] 0 (ak _) (by unfold maxLen;omega) (by simp),aY⟩
 case round=>
  obtain⟨k,l,hk,T,rfl,a,i,m⟩:=hrel;have W:=m.o.size;by_cases U:(k:Int)<r.length
  ·have G:k<r.length:=by omega
   obtain⟨n,H⟩:∃n,r[k]?=X n:=⟨_,ay G⟩;have V:=n.toNat_lt;have i1:=BJ r k n (k:Int) rfl H;have d:r.drop k=n::r.drop (k+1):=by
    obtain⟨h1,v⟩:=aD.1 H;rw[gj h1,v]
   have j:(r.drop (k+1)).length=r.length-(k+1):=jz;have k0:(0:Int)<=k:=by omega
   rw[d]at a;clear d H;by_cases L:(128:Int)<n.toNat
   ·by_cases v:(r.length:Int)<(k:Int)+2
    ·have u:ah (RG 129 r=O):=by
      show _=_;have Q:r.drop (k+1)=[]:=lF (by omega)
      rw[a.o,Q,My 129 n (by omega)]
      rfl
     clear a j;go_wp2;exact aF (cE rfl _ _ _) rfl ⟨_,l,iF,rfl,by omega,i.o,(λh=>by cases h),(λ_=>u.o),m.o⟩
    ·have y:k+1<r.length:=by omega
     obtain⟨b,E⟩:∃b,r[k+1]?=X b:=⟨_,ay y⟩;have R:=b.toNat_lt;have i2:=BJ r (k+1) b ((k:Int)+1) (by omega) E
     have d:r.drop (k+1)=b::r.drop (k+2):=by
      obtain⟨h1,v⟩:=aD.1 E;rw[gj h1,v]
     have c:ah (RG 129 r=(RG 129 (r.drop (k+2))).map λx=>(l++[(b.toNat,n.toNat-128,[])])++x):=by
      show _=_;rw[a.o,d,UH 129 n b _ (by omega),Hz]
     obtain⟨z,N⟩:=an (n.toNat-128:Nat);have Y:(n.toNat:Int)-128=(z:Int):=by omega
     rw[N]at c;clear a j d E N;go_wp2_with (at_builtin;refine cN _ rfl _ _ 178 rfl w.heap.size 181 P (iA #[I J 0,I J 0,iT ⟨#[]⟩]) 3 32 Tryz.underlying178 hi A B C rfl (by decide) _ _ _ rfl (by exact i.o.alloc _) ⟨wr.heap.size,0,O⟩ 1 1 [I J _,I J _,iT _] rfl rfl (by exact uK _ _ _ _ _) (uG _ _ _) (by unfold maxLen;omega) (by omega) (by simp;omega) ?_)
     intro v7 K g f _;have q:=af (uI m.o (by omega) i.o f)
     have p:ah (K.ownsRow w.heap.size 181 3 v7 (l++[(b.toNat,z,[])]).length (dW (l++[(b.toNat,z,[])]))):=by
      show World.ownsRow _ _ _ _ _ _ _;rw[<-qF,aT];exact g
     have s:(l++[(b.toNat,z,([]:List UInt8))]).length<=k+2:=by simp;omega
     clear g f i m;go_wp2;go_roundw
     case rel=>exact⟨k+2,l++[(b.toNat,z,[])],by omega,s,by go_num,c,p,q⟩
     case measure=>simp[intOf];omega
   ·by_cases v:(r.length:Int)<(k:Int)+1+n.toNat
    ·have u:ah (RG 129 r=O):=by
      show _=_;rw[a.o,Ml 129 n _ (by omega) (by omega)]
      rfl
     clear a j;go_wp2;exact aF (cE rfl _ _ _) rfl ⟨_,l,iF,rfl,by omega,i.o,(λh=>by cases h),(λ_=>u.o),m.o⟩
    ·have c2:=WV r (k+1) (k+1+n.toNat) ((k:Int)+1) ((k:Int)+1+n.toNat) (by omega) (by omega) (by omega) (by omega)
     rw[Ey]at c2;have c:ah (RG 129 r=(RG 129 (r.drop (k+1+n.toNat))).map λx=>(l++[(0,0,(r.drop (k+1)).take n.toNat)])++x):=by
      show _=_;rw[a.o,Xv 129 n _ (by omega) (by omega),Hz,qo]
     obtain⟨t,M⟩:=an ((r.drop (k+1)).take n.toNat);rw[M]at c c2;clear a j M;go_wp2_with (at_builtin;refine cN _ rfl _ _ 178 rfl w.heap.size 181 P (iA #[I J 0,I J 0,iT ⟨#[]⟩]) 3 32 Tryz.underlying178 hi A B C rfl (by decide) _ _ _ rfl (by exact i.o.alloc _) ⟨wr.heap.size,0,O⟩ 1 1 [I J _,I J _,iT _] rfl rfl (by exact uK _ _ _ _ _) (uG _ _ _) (by unfold maxLen;omega) (by omega) (by simp;omega) ?_)
     intro v7 K g f _;have q:=af (uI m.o (by omega) i.o f)
     have p:ah (K.ownsRow w.heap.size 181 3 v7 (l++[(0,0,t)]).length (dW (l++[(0,0,t)]))):=by
      show World.ownsRow _ _ _ _ _ _ _;rw[<-qF,aT];exact g
     have s:(l++[(0,0,t)]).length<=k+1+n.toNat:=by simp;omega
     clear g f i m;go_wp2;go_roundw
     case rel=>exact⟨k+1+n.toNat,l++[(0,0,t)],by omega,s,by go_num,c,p,q⟩
     case measure=>simp[intOf];omega
  ·have F:k=r.length:=by omega
   have u:ah (RG 129 r=X l):=by show _=_;rw[a.o,F,vK,Xx];simp
   clear a;go_wp2;exact aF (cE rfl _ _ _) rfl ⟨_,l,iV,rfl,by omega,i.o,(λ_=>u.o),(λh=>by cases h),m.o⟩
theorem Lx(t:List UInt8)(w:iW)(W:t.length<=1048576):
 iK Tryz.prog 85 #[iT (BA t)] w λe w'=>e=G (mm (fp t))/\iL w.heap.size w w':=by
 have P:=su t;cases t with
 |nil=>
  have d:ah (fp []=O):=rfl;have h0:((([]:List UInt8).length:Int)==0)=iV:=rfl;go_enter Tryz.func85,Tryz.ntmps85;go_wp2;exact aF (cE rfl _ _ _) rfl ⟨by rw[d.o];rfl,ax _ _⟩
 |cons c r=>
  have V:=c.toNat_lt;rw[aR]at W P;have h0:(((r.length+1:Nat):Int)==0)=iF:=by rw[dZ];omega
  have U:((r.length:Int)+1==0)=iF:=by rw[dZ];omega
  have i1:=BJ (c::r) 0 c 0 rfl rfl;have c1:=Tn (c::r) 1 1 rfl (by simp)
  rw[List.drop_one,List.tail_cons]at c1;have F:=af (MW c r)
  -- the end: what is packed again is held against the text
  have A:∀(s:List UInt8) (K:iW),iL w.heap.size w K->fp (c::r)=(if fx s=X (c::r)then X s else O)->
   iK Tryz.prog 74 #[iT (BA s)] K λe w'=>∃(p:ByteArray) (q:Bool),e=G (iU #[iT p,iB q])/\ah (iL w.heap.size w w')/\
    ((q=iF/\ah (fp (c::r)=O))∨(q=iV/\(p.toList==(BA (c::r)).toList)=iF/\ah (fp (c::r)=O))∨(q=iV/\(p.toList==(BA (c::r)).toList)=iV/\ah (fp (c::r)=X s))):=by
   intro s K i x;refine(H5 (BA s) K).mono ?_;rintro e T ⟨rfl,N⟩;rw[rS];have k:=i.trans (N.mono i.size);cases n:fx s with
   |none=>
    rw[n,ai (by simp)]at x
    exact⟨_,_,by rw[Do],k,Or.inl ⟨rfl,x⟩⟩
   |some p=>
    rw[n]at x;by_cases u:p=c::r
    ·subst u;rw[aj rfl]at x;exact⟨_,_,by rw[wO],k,Or.inr (Or.inr ⟨rfl,by simp,x⟩)⟩
    ·rw[ai (λe=>u (by simpa using e))]at x
     exact⟨_,_,by rw[wO],k,Or.inr (Or.inl ⟨rfl,Mz _ _ u,x⟩)⟩
  have a:=af A;clear A;by_cases f:((c.toNat:Int)==122)=iV
  ·have B:c=122:=by
    rw[ky]at f;exact UInt8.toNat_inj.1 (by show c.toNat=122;omega)
   have g:ah (fp (c::r)=((RG 129 r).bind plain).bind λs=>if fx s=X (c::r)then X s else O):=by show _=_;rw[F.o,aj B]
   clear F B;go_enter Tryz.func85,Tryz.ntmps85;go_wp2_with fail;refine(UZ r _ (by omega)).mono ?_
   rintro e T ⟨v,l,ok,rfl,Z,Q,R,S,i⟩;have L:=af i;have H:=af R;have I:=af S;have D:(l.map jT).length=l.length:=by simp
   have z:ah (T.ownsRow w.heap.size 181 3 v (l.map jT).length (mU (l.map jT))):=by
    show World.ownsRow _ _ _ _ _ _ _;rw[D,<-Ei];exact Q
   have C:(l.map jT).length<=1048576:=by omega
   have y:ah (oF (l.map jT)=plain l):=VH l [];clear i R S Q D;go_wp2_with fail;refine(Wf v _ _ _ C z.o).mono ?_;rintro e w3 ⟨rfl,i⟩;have j:=af (L.o.trans (i.mono L.o.size));rw[y.o];clear i L z y C;cases ok with
   |false=>
    obtain⟨p,q,E⟩:=yX (plain l);rw[E];have d:ah (fp (c::r)=O):=by show _=_;rw[g.o,I.o rfl];rfl
    clear g H I E a;go_wp2;exact aF (cE rfl _ _ _) rfl ⟨by rw[d.o];rfl,j.o⟩
   |true=>
    have J:=H.o rfl;cases n:plain l with
    |none=>
     have d:ah (fp (c::r)=O):=by show _=_;rw[g.o,J];simp[n]
     rw[Do];clear g H I n J a;go_wp2;exact aF (cE rfl _ _ _) rfl ⟨by rw[d.o];rfl,j.o⟩
    |some s=>
     have d:ah (fp (c::r)=if fx s=X (c::r)then X s else O):=by show _=_;rw[g.o,J];simp[n]
     rw[wO];clear g H I n J;go_wp2_with fail;refine(a.o s _ j.o d.o).mono ?_;rintro e Y ⟨p,q,rfl,b,⟨rfl,h⟩|⟨rfl,m,h⟩|⟨rfl,m,h⟩⟩
     ·clear a d;go_wp2;exact aF (cE rfl _ _ _) rfl ⟨by rw[h.o];rfl,b.o⟩
     ·clear a d;go_wp2;exact aF (cE rfl _ _ _) rfl ⟨by rw[h.o];rfl,b.o⟩
     ·clear a d;go_wp2;exact aF (cE rfl _ _ _) rfl ⟨by rw[h.o];rfl,b.o⟩
  ·have M:((c.toNat:Int)==122)=iF:=by simpa using f
   have B:c≠122:=λe=>f (by rw[e];rfl)
   have d:ah (fp (c::r)=if fx r=X (c::r)then X r else O):=by show _=_;rw[F.o,ai B];rfl
   clear F B f;go_enter Tryz.func85,Tryz.ntmps85;go_wp2_with fail;refine(a.o r _ (ax _ _) d.o).mono ?_;rintro e Y ⟨p,q,rfl,b,⟨rfl,h⟩|⟨rfl,m,h⟩|⟨rfl,m,h⟩⟩
   ·clear a d;go_wp2;exact aF (cE rfl _ _ _) rfl ⟨by rw[h.o];rfl,b.o⟩
   ·clear a d;go_wp2;exact aF (cE rfl _ _ _) rfl ⟨by rw[h.o];rfl,b.o⟩
   ·clear a d;go_wp2;exact aF (cE rfl _ _ _) rfl ⟨by rw[h.o];rfl,b.o⟩
open Words
theorem Wp(ad:Option Addr)(d cap:Nat)(M:List aq)(c:Int)(w:iW)(hl:d<=1000000000000000000)(h:jc w ad d M):
 iK Tryz.prog 84 #[Y ad d cap,I J c] w λe w'=>e=G (iU #[vx (zw (bS M c)),iB (bS M c).isSome])/\iL w.heap.size w w':=by
 have S:=af (show M.length=d from h.1);have B:=aO w (iC #[I J 0,I J 0,I J 0,I J 0,I J 0,I J 0,I J 0,iT ⟨#[]⟩] 114);have b:ah (nB (w.alloc (iC #[I J 0,I J 0,I J 0,I J 0,I J 0,I J 0,I J 0,iT ⟨#[]⟩] 114)) w.heap.size qL):=az _ _;have T:=af (h.below B);have v:=af B;clear h B;go_enter Tryz.func84,Tryz.ntmps84;go_wp2;generalize w.alloc (iC #[I J 0,I J 0,I J 0,I J 0,I J 0,I J 0,I J 0,iT ⟨#[]⟩] 114)=wa at b v T⊢;go_loopw [6] (λE wr=>∃(z:Int) (k:Nat),E=I J z/\-1<=z/\z<d/\ah (z+1=(k:Int))/\ah (bS M c=bS (M.take k) c)/\wr=wa) (λE _=>(intOf E+1).toNat)
 case atStart=>exact⟨(d:Int)-1,d,by go_num,by omega,by omega,(by show _=_;omega),(by show _=_;rw[cm (by have:=S.o;omega)]),rfl⟩
 case round=>
  obtain⟨z,k,rfl,h1,h2,f,p,rfl⟩:=hrel;by_cases hz:0<=z
  ·obtain⟨j,rfl⟩:∃j:Nat,z=(j:Int):=⟨z.toNat,by omega⟩
   have C:k=j+1:=by have:=f.o;omega
   subst C;have l:j<M.length:=by have:=S.o;omega
   obtain⟨x,D⟩:∃x,M[j]?=X x:=⟨_,ay l⟩;obtain⟨rb,ro,rfl,-,V,c1,c2,c3,W,Z,c6,c7,d4⟩:=T.o.all D;have U:=af (CH D c);have a:=p;rw[U.o]at a;obtain⟨xb,u,pk,s,i,r,q,pt⟩:=x;simp only at V c1 c2 c3 W Z c6 c7 d4 a;clear D l p U f;unfold dj at a;simp only at a;by_cases n:(pk==1)=iV
   ·by_cases t:(i==c)=iV
    ·have g:ah (bS M c=X ⟨xb,u,pk,s,i,r,q,pt⟩):=by show _=_;rw[a.o,n,t];rfl
     obtain⟨F,H,K,L,N,P,Q,R⟩:=b.o.cells;have f0:=b.o.fr 0;have f1:=b.o.fr 1;have f2:=b.o.fr 2;have f3:=b.o.fr 3;have f4:=b.o.fr 4;have f5:=b.o.fr 5;have f6:=b.o.fr 6;have f7:=b.o.fr 7;have A:=af (b.o.set ⟨xb,u,pk,s,i,r,q,pt⟩);have y:=af (I6 (v0:=I J xb) (v1:=I J u) (v2:=I J pk) (v3:=I J s) (v4:=I J i) (v5:=I J r) (v6:=I J q) (v7:=iT pt) v.o (ak _));simp only[qL]at F H K L N P Q R;clear a;go_wp2;refine aF (K9 rfl _ _ w.heap.size ⟨xb,u,pk,s,i,r,q,pt⟩ rfl A.o) rfl ?_;rw[g.o];exact⟨rfl,y.o⟩
    ·have t:(i==c)=iF:=by simpa using t
     have g:ah (bS M c=bS (M.take j) c):=by show _=_;rw[a.o,n,t];rfl
     clear a;go_wp2;go_roundw
     case rel=>exact⟨(j:Int)-1,j,by go_num,by omega,by omega,(by show _=_;omega),g,trivial⟩
     case measure=>simp[intOf]
   ·have n:(pk==1)=iF:=by simpa using n
    have g:ah (bS M c=bS (M.take j) c):=by show _=_;rw[a.o,n];rfl
    clear a;go_wp2;go_roundw
    case rel=>exact⟨(j:Int)-1,j,by go_num,by omega,by omega,(by show _=_;omega),g,trivial⟩
    case measure=>simp[intOf]
  ·have m:k=0:=by have:=f.o;omega
   have g:ah (bS M c=O):=by show _=_;rw[p.o,m];rfl
   obtain⟨F,H,K,L,N,P,Q,R⟩:=b.o.cells;have f0:=b.o.fr 0;have f1:=b.o.fr 1;have f2:=b.o.fr 2;have f3:=b.o.fr 3;have f4:=b.o.fr 4;have f5:=b.o.fr 5;have f6:=b.o.fr 6;have f7:=b.o.fr 7;have A:=af (b.o.set qL);have y:=af (I6 (v0:=I J 0) (v1:=I J 0) (v2:=I J 0) (v3:=I J 0) (v4:=I J 0) (v5:=I J 0) (v6:=I J 0) (v7:=iT ⟨#[]⟩) v.o (ak _));simp only[qL]at F H K L N P Q R;clear p f m;go_wp2;refine aF (K9 rfl _ _ w.heap.size qL rfl A.o) rfl ?_;rw[g.o];exact⟨rfl,y.o⟩
theorem IC(ad:Option Addr)(a cap:Nat)(M:List aq)(c:Int)(w:iW)(D:a<=1000000000000000000)(n:∀x∈M,x.fP.text.size<=1048576)(h:jc w ad a M):
 iK Tryz.prog 57 #[Y ad a cap,I J c] w λe w'=>e=G (mm (bG M c))/\iL w.heap.size w w':=by
 have C:=af (Wp ad a cap M c w D h);cases d:bS M c with
 |none=>
  have i:ah (bG M c=O):=by show _=_;unfold bG;rw[d];rfl
  rw[d]at C;unfold zw qL vx at C;simp only[Option.getD_none,Option.isSome_none]at C;clear h n d;go_enter Tryz.func57,Tryz.ntmps57;go_wp2_with fail;refine C.o.mono ?_;rintro e j ⟨rfl,b⟩;have g:=af (b.trans (((ax _ _).alloc (ak _) (iC #[I J 0,I J 0,I J 0,I J 0,I J 0,I J 0,I J 0,iT ⟨#[]⟩] 114)).mono b.size));clear b C;go_wp2;refine aF (cE rfl _ _ _) rfl ?_;rw[i.o];exact⟨rfl,g.o⟩
 |some x=>
  have i:ah (bG M c=fp x.fP.text.data.toList):=by show _=_;unfold bG;rw[d];rfl
  have m:=n x (pP d).1;rw[d]at C;obtain⟨xb,v,pk,t,u,s,r,pt⟩:=x;unfold zw vx at C;simp only[pL,Option.isSome_some]at C;have k:=af (λW=>Lx pt.data.toList W m)
  rw[show BA pt.data.toList=pt from by unfold BA;simp]at k
  simp only at i;obtain⟨p,q,f⟩:=yX (fp pt.data.toList);rw[f]at k;have l:=af f;clear h n d f;go_enter Tryz.func57,Tryz.ntmps57;go_wp2_with fail;refine C.o.mono ?_;rintro e j ⟨rfl,b⟩;have z:=aO j (iC #[I J xb,I J v,I J pk,I J t,I J u,I J s,I J r,iT pt] 114);have g:=af (b.trans (z.mono b.size));have y:ah (nB (j.alloc (iC #[I J xb,I J v,I J pk,I J t,I J u,I J s,I J r,iT pt] 114)) j.heap.size ⟨xb,v,pk,t,u,s,r,pt⟩):=az _ _;obtain⟨-,-,-,-,-,-,-,E⟩:=y.o.cells;simp only at E;clear b z C y;go_wp2_with fail;refine(k.o _).mono ?_;rintro e F ⟨rfl,A⟩;have B:=af (g.o.trans (A.mono g.o.size));clear A g;go_wp2;refine aF (cE rfl _ _ _) rfl ?_;rw[i.o,l.o];exact⟨rfl,B.o⟩
open Sums
variable{s:Sto}
theorem B7{v:iX}{w:iW}(id:Int)(h:dO w v s):iK Tryz.prog 55 #[v,I J id] w λe w'=>e=G (I J (iI (bY s.fV id)))/\iL w.heap.size w w':=by
 obtain⟨g,i,vc,ad,a,cap,rs,rfl,b,f,k,c,d,h,j⟩:=h;exact rJ g i vc ad a cap s.next s.fV id w (by omega) h
theorem Ss{v:iX}{w:iW}(b a:Int)(h:dO w v s):iK Tryz.prog 56 #[v,I J b,I J a] w λe w'=>e=G (I J (iE s b a))/\iL w.heap.size w w':=by
 obtain⟨k,l,vc,ad,d,cap,rs,rfl,c,j,m,g,i,h,f⟩:=h;have:=PE k l vc ad d cap s.next s.fV rs b a w (by omega) (by omega) h f
 rw[<-c]at this;exact this
def vu(M:List aq)(s:Sto)(b a:Int):iX:=
 if (bY s.fV b).isSome then
  if iE s b a=0 then iU #[iT ⟨#[]⟩,iB iV]
  else mm (bG M (iE s b a))
 else iU #[iT ⟨#[]⟩,iB iF]
theorem IY(d:Dv)(b a:Int):vu (aw d.fH) d.fS b a=iU #[iT (js d b a).1,iB (js d b a).2]:=by
 unfold vu js;split
 ·split
  ·rfl
  ·cases bG (aw d.fH) (iE d.fS b a)<;>rfl
 ·rfl
theorem Io(L:Option Addr)(u fc:Nat)(M:List aq)(v:iX)(s:Sto)(a b:Int)(w:iW)(hl:u<=1000000000000000000)(ht:∀x∈M,x.fP.text.size<=1048576)(hM:jc w L u M)(h:dO w v s):
 iK Tryz.prog 29 #[Y L u fc,v,I J a,I J b] w λe w'=>e=G (vu M s a b)/\iL w.heap.size w w':=by
 have h0:=h;obtain⟨z,A,vc,ad,y,cap,-,hv,-⟩:=h0;subst hv;unfold eC at*;have i:=aO w (iC #[Y z A vc,Y ad y cap,I J s.next] 44);have j:(w.alloc (iC #[Y z A vc,Y ad y cap,I J s.next] 44)).heap[w.heap.size]?=X (iC #[Y z A vc,Y ad y cap,I J s.next] 44 (0,0)):=az _ _;generalize Q:w.alloc (iC #[Y z A vc,Y ad y cap,I J s.next] 44)=wa at i j;have S:=af (B7 a (h.below i));have T:=af (h.below i);have U:=af (hM.below i);have HT:=af ht;have E:=af i;have F:=af j;have f:=am _ _ 0 _ _ _ j;have c1:=am _ _ 1 _ _ _ j;have c2:=am _ _ 2 _ _ _ j;obtain⟨R,N⟩:=an (vu M s a b);have t:ah (R=if (bY s.fV a).isSome then if iE s a b=0 then iU #[iT ⟨#[]⟩,iB iV]else mm (bG M (iE s a b))else iU #[iT ⟨#[]⟩,iB iF]):=N.symm
 rw[N];clear N i j ht hM h;go_enter Tryz.func29,Tryz.ntmps29;go_wp2_with fail;clear Q;refine S.o.mono ?_;rintro e w1 ⟨rfl,l⟩;have r:=af (E.o.trans (l.mono E.o.size));have V:=af (T.o.below l);have W:=af (U.o.below l);have n:=(l.block _ (aJ.1 F.o).1).trans F.o;have K1:=af n;clear S E T U F l f c1 c2;cases P:bY s.fV a with
 |none=>
  have g:ah (R=iU #[iT ⟨#[]⟩,iB iF]):=by show _=_;rw[t.o,P];rfl
  have K:(iI O:Int)= -1:=rfl;clear t;go_wp2;refine aF (cE rfl _ _ _) rfl ?_;rw[g.o];exact⟨rfl,r.o⟩
 |some k=>
  have K:iI (X k)=(k:Int):=rfl;have aa:¬((k:Int)<0):=by omega
  have d:ah (R=if iE s a b=0 then iU #[iT ⟨#[]⟩,iB iV]else mm (bG M (iE s a b))):=by show _=_;rw[t.o,P];rfl
  have C:=af (Ss a b V.o);have f:=am _ _ 0 _ _ _ n;have c1:=am _ _ 1 _ _ _ n;have c2:=am _ _ 2 _ _ _ n;obtain⟨c,hc⟩:=an (iE s a b);rw[hc]at C d;rw[K];clear t P n hc K;go_wp2_with fail;refine C.o.mono ?_;rintro e w2 ⟨rfl,H⟩;have B:=af (r.o.trans (H.mono r.o.size));have M2:=af (W.o.below H);clear C H r W V K1 f c1 c2;by_cases f:(c==0)=iV
  ·have g:ah (R=iU #[iT ⟨#[]⟩,iB iV]):=by show _=_;rw[d.o,aj (by simpa using f)]
   clear d;go_wp2;refine aF (cE rfl _ _ _) rfl ?_;rw[g.o];exact⟨rfl,B.o⟩
  ·have g:ah (R=mm (bG M c)):=by show _=_;rw[d.o,ai (by simpa using f)]
   have f:(c==0)=iF:=by simpa using f
   have D:=af (IC L u fc M c w2 hl HT.o M2.o);obtain⟨p,q,m⟩:=yX (bG M c);rw[m]at D g;clear d m;go_wp2_with fail;refine D.o.mono ?_;rintro e w3 ⟨rfl,Z⟩;have B3:=af (B.o.trans (Z.mono B.o.size));clear Z D;go_wp2;refine aF (cE rfl _ _ _) rfl ?_;rw[g.o];exact⟨rfl,B3.o⟩
theorem P8(v:iX)(d:Dv)(b a:Int)(w:iW)(h:fU w v d):iK Tryz.prog 47 #[v,I J b,I J a] w λe w'=>e=G (iU #[iT (js d b a).1,iB (js d b a).2])/\iL w.heap.size w w':=by
 obtain⟨i,g,k,l,vc,ad,j,cap,rfl,h1,H,K⟩:=h.form;have y:=aO w (iC #[Y i d.fH.length g,Y k l vc,Y ad j cap,I J d.fS.next,I J d.seq,I J d.tx,I J d.base] 46);have A:aP (w.alloc (iC #[Y i d.fH.length g,Y k l vc,Y ad j cap,I J d.fS.next,I J d.seq,I J d.tx,I J d.base] 46)) w.heap.size (Y i d.fH.length g) (Y k l vc) (Y ad j cap) d.fS.next d.seq d.tx d.base:=az _ _;generalize W:w.alloc (iC #[Y i d.fH.length g,Y k l vc,Y ad j cap,I J d.fS.next,I J d.seq,I J d.tx,I J d.base] 46)=wa at y A;have z:iL w.heap.size w wa.drew:=y.drew;have n:=A.below (w':=wa.drew) (ax _ _).drew;obtain⟨rs,E,Q,R,p,q⟩:=(h1.below z).lens H;have CS:=af (pR (Y i d.fH.length g) rs wa.drew R p q Q);rw[E]at CS;unfold nH at CS;have u:=af (IY d b a);have D:ah (∀x∈aw d.fH,x.fP.text.size<=1048576):=AU;obtain⟨M,L⟩:=an (aw d.fH);rw[L]at CS u D;obtain⟨P,N⟩:=an (js d b a);rw[N]at u⊢;have C:=af z;have HG:=af n;have T:=af K;have c:wa.drew.cell? ⟨w.heap.size,0,O⟩=X (Y i d.fH.length g)/\wa.drew.cell? ⟨w.heap.size,1,O⟩=X (Y k l vc)/\wa.drew.cell? ⟨w.heap.size,2,O⟩=X (Y ad j cap)/\wa.drew.cell? ⟨w.heap.size,3,O⟩=X (I J d.fS.next):=⟨n.cells.1,n.cells.2.1,n.cells.2.2.1,n.cells.2.2.2.1⟩;clear y A z n h1 H K h rs E Q R p q L N;go_enter Tryz.func47,Tryz.ntmps47;go_wp2_with fail;go_region_held3 (λw'=>w'.cell? ⟨w.heap.size,0,O⟩=X (Y i d.fH.length g)/\w'.cell? ⟨w.heap.size,1,O⟩=X (Y k l vc)/\w'.cell? ⟨w.heap.size,2,O⟩=X (Y ad j cap)/\w'.cell? ⟨w.heap.size,3,O⟩=X (I J d.fS.next)) (first|(with_reducible exact c)|(with_reducible exact f)|(with_reducible exact U)|go_keep) (first
  |(go_at_call 28;refine CS.o.mono ?_;rintro e r ⟨Z,lc,rfl,F,V,m⟩;have f:=(⟨(m.cell (bh _ _ c.1)).trans c.1,(m.cell (bh _ _ c.2.1)).trans c.2.1,(m.cell (bh _ _ c.2.2.1)).trans c.2.2.1,(m.cell (bh _ _ c.2.2.2)).trans c.2.2.2⟩:r.cell? ⟨w.heap.size,0,O⟩=X (Y i d.fH.length g)/\r.cell? ⟨w.heap.size,1,O⟩=X (Y k l vc)/\r.cell? ⟨w.heap.size,2,O⟩=X (Y ad j cap)/\r.cell? ⟨w.heap.size,3,O⟩=X (I J d.fS.next));have t:=af (C.o.trans (m.mono C.o.size));have B:=af (Io Z M.length lc M (iA #[Y k l vc,Y ad j cap,I J d.fS.next]) d.fS b a r (by omega) D.o F (T.o.below t.o));rw[u.o]at B;clear F V m)
  |(go_at_call 29;refine B.o.mono ?_;rintro e s ⟨rfl,g3⟩;have S:=af (t.o.trans (g3.mono t.o.size));have U:=(⟨(g3.cell (bh _ _ f.1)).trans f.1,(g3.cell (bh _ _ f.2.1)).trans f.2.1,(g3.cell (bh _ _ f.2.2.1)).trans f.2.2.1,(g3.cell (bh _ _ f.2.2.2)).trans f.2.2.2⟩:s.cell? ⟨w.heap.size,0,O⟩=X (Y i d.fH.length g)/\s.cell? ⟨w.heap.size,1,O⟩=X (Y k l vc)/\s.cell? ⟨w.heap.size,2,O⟩=X (Y ad j cap)/\s.cell? ⟨w.heap.size,3,O⟩=X (I J d.fS.next));clear g3))
 all_goals
  go_wp2;refine aF (cE rfl _ _ _) rfl ?_;exact⟨rfl,S.o⟩
theorem VV{o:List UInt8}(h:o=t.data.toList):((BA o).toList==t.toList)=iV:=by
 subst h;rw[pj,pj,rS];exact Bs _
theorem YE{o:List UInt8}(h:o≠t.data.toList):((BA o).toList==t.toList)=iF:=by
 rw[pj,pj,rS,dZ];exact h
theorem Uk(ad:Option Addr)(b cap:Nat)(M:List aq)(u:Option Addr)(l lc:Nat)(live:List Int)(t:ByteArray)(w:iW)(H:b<=1000000000000000000)(K:l<=1000000000000000000)(s:∀x∈M,x.fP.text.size<=1048576)(h:jc w ad b M)(hi:gR w u l live):
 iK Tryz.prog 106 #[Y ad b cap,Y u l lc,iT t] w λe w'=>e=G (I J (eR M live t.data.toList))/\iL w.heap.size w w':=by
 have z:=af h;have A:=af s;have y:=af hi;have r:=af hi.1;clear h s hi;go_enter Tryz.func106,Tryz.ntmps106;go_wp2;go_loopw [7] (λq wr=>∃k:Nat,q=I J k/\k<=l/\ah (eR M live t.data.toList=eR M (live.drop k) t.data.toList)/\ah (iL w.heap.size w wr)) (λq _=>l-(intOf q).toNat)
 case atStart=>exact⟨0,rfl,aI _,rfl,ax _ _⟩
 case round=>
  rename iW=>wr
  obtain⟨k,rfl,N,d,B⟩:=hrel;have F:(0:Int)<=k:=by omega
  by_cases L:(k:Int)<l
  ·obtain⟨c,p⟩:∃c,live[k]?=X c:=⟨_,ay (by have:=r.o;omega)⟩
   obtain⟨lb,lo,rfl,-,n⟩:=(y.o.below B.o).at p;have i:=af (Rx (M:=M) t.data.toList p);have C:=af (IC ad b cap M c wr H A.o (z.o.below B.o));clear p;cases f:bG M c with
   |none=>
    rw[f]at C;rw[Do]at C;have g:ah (eR M live t.data.toList=eR M (live.drop (k+1)) t.data.toList):=by show _=_;rw[d.o,i.o,f,ai (by simp)]
    clear f i d;go_wp2_with fail;refine C.o.mono ?_;rintro e v ⟨rfl,a⟩;have m:=af (B.o.trans (a.mono B.o.size));clear a C;go_wp2;go_roundw
    case rel=>exact⟨k+1,by go_num,by omega,g,m⟩
    case measure=>simp[intOf];omega
   |some o=>
    rw[f]at C;rw[wO]at C;by_cases j:o=t.data.toList
    ·have g:ah (eR M live t.data.toList=c):=by show _=_;rw[d.o,i.o,f,aj (by rw[j])]
     have E:=VV j;clear f i d j;go_wp2_with fail;refine C.o.mono ?_;rintro e v ⟨rfl,a⟩;have m:=af (B.o.trans (a.mono B.o.size));have D:=(a.cell (bh wr _ n)).trans n;clear a C n;go_wp2;go_ret;rw[g.o];exact⟨rfl,m.o⟩
    ·have g:ah (eR M live t.data.toList=eR M (live.drop (k+1)) t.data.toList):=by show _=_;rw[d.o,i.o,f,ai (by simpa using j)]
     have E:=YE j;clear f i d j;go_wp2_with fail;refine C.o.mono ?_;rintro e v ⟨rfl,a⟩;have m:=af (B.o.trans (a.mono B.o.size));clear a C;go_wp2;go_roundw
     case rel=>exact⟨k+1,by go_num,by omega,g,m⟩
     case measure=>simp[intOf];omega
  ·have g:ah (eR M live t.data.toList=0):=by show _=_;rw[d.o,kB (by have:=r.o;omega)];rfl
   clear d;go_wp2;go_ret;rw[g.o];exact⟨rfl,B.o⟩
theorem RF(v:iX)(rs:List Rw)(j:Option Addr)(d lc:Nat)(live:List Int)(t:ByteArray)(w:iW)(p:rs.length<=1048576)(a:∀r∈rs,r.2.2.2.length<=1048576)(b:uP rs)(n:fO w v rs)(i:d<=1000000000000000000)(hi:gR w j d live):
 iK Tryz.prog 72 #[iA #[v],Y j d lc,iT t] w λe w'=>e=G (I J (eR (aw (rs.map aC)) live t.data.toList))/\iL w.heap.size w w':=by
 have c:=aO w (iC #[v] 38);have z:(w.alloc (iC #[v] 38)).cell? ⟨w.heap.size,0,O⟩=X v:=am _ _ 0 _ _ _ (az w (iC #[v] 38));have C:=af (pR v rs _ p a b (n.below c));have l:=af (hi.below c);have f:=af c;obtain⟨M,h⟩:=an (aw (rs.map aC));have s:ah (∀x∈M,x.fP.text.size<=1048576):=by rw[<-h];exact AU
 unfold nH at C;rw[h]at C⊢;clear p a b n hi c h;go_enter Tryz.func72,Tryz.ntmps72;go_wp2_with fail;refine C.o.mono ?_;rintro e y ⟨ad,cap,rfl,h1,u,g⟩;have CS:=af (Uk ad M.length cap M j d lc live t y (by omega) i s.o h1 (l.o.below g))
 have k:=af (f.o.trans (g.mono f.o.size));clear C h1 u g l f;go_wp2_with fail;refine CS.o.mono ?_;rintro e A ⟨rfl,m⟩;have q:=af (k.o.trans (m.mono k.o.size));clear m CS;go_wp2;go_ret;exact⟨rfl,q.o⟩
def uR(w:iW)(p:List Rc×ByteArray×Int)(e:Ending)(w':iW):Prop:=∃x,e=G (iU #[x,iT p.2.1,I J p.2.2])/\w'.ownsRow w.heap.size 137 4 x p.1.length (cj (p.1.map Rc.tu))/\iL w.heap.size w w'
def si(w W:iW)(a vv kv:iX)(d:Dv)(q:Ak):Prop:=iL w.heap.size w W/\aP W w.heap.size a vv kv d.fS.next d.seq d.tx d.base/\bH W (w.heap.size+1) q/\W.ownsRow w.heap.size 137 4 (Y (X ⟨w.heap.size+1+1,0,O⟩) 0 0) ([]:List Rc).length (cj (([]:List Rc).map Rc.tu))
variable{d:Dv}
theorem si.below{w W W':iW}{b vv kv:iX}{q:Ak}(h:si w W b vv kv d q)(a:iL W.heap.size W W'):si w W' b vv kv d q:=by
 obtain⟨h1,c,e,h4⟩:=h;exact⟨h1.trans (a.mono h1.size),c.below a,e.below a,bu h4 a⟩
theorem si.o{w W:iW}{a vv kv:iX}{q:Ak}(h:si w W a vv kv d q)(c:Int):uR w ([],aK,c) (G (iU #[Y (X ⟨w.heap.size+1+1,0,O⟩) 0 0,iT ⟨#[]⟩,I J c])) W:=⟨_,rfl,h.2.2.2,h.1⟩
theorem rI{w W:iW}(b:iL w.heap.size w W)(r:Rc)(t:ByteArray):uR w ([r],t,0) (G (iU #[Y (X ⟨W.heap.size,0,O⟩) 1 1,iT t,I J 0])) (W.alloc (iC #[I J r.kind,I J r.vol,I J r.arg,I J r.fC] 137)):=
 ⟨_,rfl,⟨rfl,.inr ⟨W.heap.size,1,_,rfl,b.size,az W _,ak _,by unfold maxLen;omega,rfl,rfl⟩⟩,b.alloc b.size _⟩
theorem Qs{w W:iW}(b:iL w.heap.size w W)(n:Nat)(a:W.heap.size=n):(W.alloc (iC #[] 137)).ownsRow w.heap.size 137 4 (Y (X ⟨n,0,O⟩) 0 0) ([]:List Rc).length (cj (([]:List Rc).map Rc.tu))/\iL w.heap.size w (W.alloc (iC #[] 137)):=by
 subst a;exact⟨⟨rfl,.inr ⟨W.heap.size,0,#[],rfl,b.size,az W _,ak _,by unfold maxLen;omega,rfl,rfl⟩⟩,b.alloc b.size _⟩
theorem LP{W:iW}{x:iX}{l:List Int}(h:W.ownsRow B 3 1 x l.length (aE l))(a:l.length<=maxLen):∃b lc,x=Y b l.length lc/\gR W b l.length l:=by
 rcases h.2 with⟨rfl,h0⟩|⟨g,cap,c,rfl,h1,d,e,h4,f,j⟩
 ·exact⟨O,0,by rw[h0],rfl,a,λk=>by omega⟩
 ·refine⟨_,cap,rfl,rfl,a,λ_=>⟨g,0,rfl,(aJ.1 d).1,λi y hi=>?_⟩⟩
  have:=ve h (g:=g) rfl i (I J y) (lJ hi);rw[eX]at this;rw[dK];exact this
theorem Si(t:ByteArray):∃b,mm (fx t.data.toList)=iU #[iT (lu t),iB b]:=by
 unfold lu;cases fx t.data.toList with
 |none=>exact⟨_,rfl⟩
 |some p=>exact⟨_,rfl⟩
theorem IJ(x:Value)(d:Dv)(q:Ak)(w:World)(h:fU w x d):Calls Tryz.prog 46 #[x,dU q] w (uR w (dX d q)):=by
 obtain⟨fd,fc,va,vl,vc,ad,ln,cap,rfl,h1,h2,h3⟩:=h.form;obtain⟨k,v,s,o,t⟩:=q;have hvl:d.fS.fV.length=vl/\vl<=1048576:=by
  obtain⟨va',vl',vc',ad',ln',cap',rs',e,-,e3,-,-,-,e4,-⟩:=h3;unfold eC at e;injection e with e
  injection e with e
  simp only[List.cons.injEq,Value.slice.injEq,and_true]at e;obtain⟨⟨-,e1,-⟩,-⟩:=e;subst e1;exact⟨e4.1,e3⟩
 obtain⟨R,hR⟩:∃R,dX d ⟨k,v,s,o,t⟩=R:=⟨_,rfl⟩;have HR:ah (R=if iO ⟨k,v,s,o,t⟩=false then([],aK,3)else if k=3∨k=4 then(if (bY d.fS.fV v).isSome then([],aK,2)else if k=4/\(bY d.fS.fV o).isSome=false then([],aK,1)else if 3<=d.fS.fV.length then([],aK,4)else([⟨2,v,o,0⟩],aK,0))else if (bY d.fS.fV v).isSome=false then([],aK,1)else if k=1 then(if eR (aw d.fH) (be d.fS) t.data.toList=0 then([⟨4,v,s,d.fS.next⟩],lu t,0)else([⟨4,v,s,eR (aw d.fH) (be d.fS) t.data.toList⟩],aK,0))else if k=2 then([⟨5,v,s,0⟩],aK,0)else if k=5 then([⟨3,v,0,0⟩],aK,0)else([],aK,0)):=by show _=_;rw[<-hR];rfl
 rw[hR];have HVL:=af hvl.1;have hvm:=hvl.2;unfold dU;simp only;have s0:(w.alloc (.cells #[.slice fd d.fH.length fc,.slice va vl vc,.slice ad ln cap,.int .i64 d.fS.next,.int .i64 d.seq,.int .i64 d.tx,.int .i64 d.base] 46)).heap.size=w.heap.size+1:=by simp
 have s1:((w.alloc (.cells #[.slice fd d.fH.length fc,.slice va vl vc,.slice ad ln cap,.int .i64 d.fS.next,.int .i64 d.seq,.int .i64 d.tx,.int .i64 d.base] 46)).alloc (.cells #[.int .i64 k,.int .i64 v,.int .i64 s,.int .i64 o,.string t] 26)).heap.size=w.heap.size+1+1:=by simp
 have b0:Below w.heap.size w (w.alloc (.cells #[.slice fd d.fH.length fc,.slice va vl vc,.slice ad ln cap,.int .i64 d.fS.next,.int .i64 d.seq,.int .i64 d.tx,.int .i64 d.base] 46)):=(Below.refl _ _).alloc (Nat.le_refl _) _;have b1:Below w.heap.size w ((w.alloc (.cells #[.slice fd d.fH.length fc,.slice va vl vc,.slice ad ln cap,.int .i64 d.fS.next,.int .i64 d.seq,.int .i64 d.tx,.int .i64 d.base] 46)).alloc (.cells #[.int .i64 k,.int .i64 v,.int .i64 s,.int .i64 o,.string t] 26)):=b0.alloc (by omega) _
 have g0:aP (w.alloc (.cells #[.slice fd d.fH.length fc,.slice va vl vc,.slice ad ln cap,.int .i64 d.fS.next,.int .i64 d.seq,.int .i64 d.tx,.int .i64 d.base] 46)) w.heap.size (.slice fd d.fH.length fc) (.slice va vl vc) (.slice ad ln cap) d.fS.next d.seq d.tx d.base:=heap_alloc_new _ _;have g1:bH ((w.alloc (.cells #[.slice fd d.fH.length fc,.slice va vl vc,.slice ad ln cap,.int .i64 d.fS.next,.int .i64 d.seq,.int .i64 d.tx,.int .i64 d.base] 46)).alloc (.cells #[.int .i64 k,.int .i64 v,.int .i64 s,.int .i64 o,.string t] 26)) (w.heap.size+1) ⟨k,v,s,o,t⟩:=by rw[<-s0];exact heap_alloc_new _ _
 have n1:=Qs b1 (w.heap.size+1+1) s1;have PA:ah (si w (((w.alloc (.cells #[.slice fd d.fH.length fc,.slice va vl vc,.slice ad ln cap,.int .i64 d.fS.next,.int .i64 d.seq,.int .i64 d.tx,.int .i64 d.base] 46)).alloc (.cells #[.int .i64 k,.int .i64 v,.int .i64 s,.int .i64 o,.string t] 26)).alloc (.cells #[] 137)) (.slice fd d.fH.length fc) (.slice va vl vc) (.slice ad ln cap) d ⟨k,v,s,o,t⟩):=
  ⟨n1.2,(g0.below ((Below.refl _ _).alloc (Nat.le_refl _) _)).below ((Below.refl _ _).alloc (Nat.le_refl _) _),g1.below ((Below.refl _ _).alloc (Nat.le_refl _) _),n1.1⟩
 generalize hwa:((w.alloc (.cells #[.slice fd d.fH.length fc,.slice va vl vc,.slice ad ln cap,.int .i64 d.fS.next,.int .i64 d.seq,.int .i64 d.tx,.int .i64 d.base] 46)).alloc (.cells #[.int .i64 k,.int .i64 v,.int .i64 s,.int .i64 o,.string t] 26)).alloc (.cells #[] 137)=wa at PA;have HI:=af h3;have HF:=af h1;have HS:=af h2;have CA:=af (J9 ⟨k,v,s,o,t⟩ wa);unfold dU at CA;obtain⟨ab,hab⟩:∃ab,iO ⟨k,v,s,o,t⟩=ab:=⟨_,rfl⟩;rw[hab]at CA HR;obtain⟨a0,a1,a2,a3,a4⟩:=PA.o.2.2.1.cells;simp only at a0 a1 a2 a3 a4 CA;clear s0 s1 b0 b1 g0 g1 n1 h h1 h2 h3 hR hab hvl;go_enter Tryz.func46,Tryz.ntmps46;go_wp2_with fail;clear hwa;refine CA.o.mono ?_;rintro e w1 ⟨rfl,b1⟩;have P1:=af (PA.o.below b1);clear CA PA b1 a0 a1 a2 a3 a4;cases ab with
 |false=>
  have HE:ah (R=([],aK,3)):=by show _=_;rw[HR.o];exact if_pos rfl
  have FN:=af (P1.o.o 3);clear HR;go_wp2;refine bodyPost_ret (results_tmp3 rfl _ _ _) rfl ?_;rw[HE.o];exact FN.o
 |true=>
  rw[if_neg (by decide)]at HR
  obtain⟨a0,a1,a2,a3,a4⟩:=P1.o.2.2.1.cells;obtain⟨y0,y1,y2,y3,-,-,-⟩:=P1.o.2.1.cells;simp only at a0 a1 a2 a3 a4;have CV:=af (B7 v (HI.o.below P1.o.1));go_wp2_with fail;refine CV.o.mono ?_;rintro e w2 ⟨rfl,bq⟩;have P2:=af (P1.o.below bq);clear CV bq a0 a1 a2 a3 a4 y0 y1 y2 y3;obtain⟨a0,a1,a2,a3,a4⟩:=P2.o.2.2.1.cells;obtain⟨y0,y1,y2,y3,-,-,-⟩:=P2.o.2.1.cells;simp only at a0 a1 a2 a3 a4;clear P1;by_cases hk:(k==3)=true∨((k==3)=false/\(k==4)=true)
  ·have hk':k=3∨k=4:=by rcases hk with h|h;exact .inl (by simpa using h);exact .inr (by simpa using h.2)
   rw[if_pos hk']at HR;clear hk';cases hv:bY d.fS.fV v with
   |some i=>
    have hi0:(i:Int)≥0:=by omega
    rw[hv]at HR;have ea:iI (some i)=(i:Int):=rfl;rw[ea];clear ea hv;rcases hk with hk|⟨hk,hk2⟩
    all_goals
     have HE:ah (R=([],aK,2)):=by show _=_;exact HR.o
     have FN:=af (P2.o.o 2);clear HR;go_wp2;refine bodyPost_ret (results_tmp3 rfl _ _ _) rfl ?_;rw[HE.o];exact FN.o
   |none=>
    rw[hv]at HR;have ea:iI none= -1:=rfl;rw[ea];rw[if_neg (by decide)]at HR
    clear ea hv;rcases hk with hk|⟨hk,hk2⟩
    ·have hk4:(k==4)=false:=by have:k=3:=by simpa using hk
                               simp[this]
     rw[if_neg (λhh=>by simp[hh.1]at hk4)]at HR
     by_cases h3:3<=vl
     ·have h3':(vl:Int)≥3:=by omega
      rw[if_pos (by rw[HVL.o];exact h3)]at HR
      have HE:ah (R=([],aK,4)):=by show _=_;exact HR.o
      have FN:=af (P2.o.o 4);clear HR;go_wp2;refine bodyPost_ret (results_tmp3 rfl _ _ _) rfl ?_;rw[HE.o];exact FN.o
     ·have h3':¬((vl:Int)≥3):=by omega
      rw[if_neg (by rw[HVL.o];exact h3)]at HR
      have HE:ah (R=([⟨2,v,o,0⟩],aK,0)):=by show _=_;exact HR.o
      have FN:=af (rI P2.o.1 ⟨2,v,o,0⟩ aK);simp only at FN;clear HR;go_wp2;refine bodyPost_ret (results_tmp3 rfl _ _ _) rfl ?_;rw[HE.o];exact FN.o
    ·have hk4:k=4:=by simpa using hk2
     have CV:=af (B7 o (HI.o.below P2.o.1));go_wp2_with fail;refine CV.o.mono ?_;rintro e w3 ⟨rfl,bq⟩;have P3:=af (P2.o.below bq);clear CV bq a0 a1 a2 a3 a4 y0 y1 y2 y3;obtain⟨a0,a1,a2,a3,a4⟩:=P3.o.2.2.1.cells;obtain⟨y0,y1,y2,y3,-,-,-⟩:=P3.o.2.1.cells;simp only at a0 a1 a2 a3 a4;clear P2;cases ho:bY d.fS.fV o with
     |none=>
      have ea:iI none= -1:=rfl;rw[ea];rw[if_pos ⟨hk4,by rw[ho];rfl⟩]at HR
      clear ea ho hk4;have HE:ah (R=([],aK,1)):=by show _=_;exact HR.o
      have FN:=af (P3.o.o 1);clear HR;go_wp2;refine bodyPost_ret (results_tmp3 rfl _ _ _) rfl ?_;rw[HE.o];exact FN.o
     |some i=>
      have hi0:¬((i:Int)<0):=by omega
      have ea:iI (some i)=(i:Int):=rfl;rw[ea];rw[if_neg (λhh=>by rw[ho]at hh;simp at hh)]at HR
      clear ea ho hk4;by_cases h3:3<=vl
      ·have h3':(vl:Int)≥3:=by omega
       rw[if_pos (by rw[HVL.o];exact h3)]at HR
       have HE:ah (R=([],aK,4)):=by show _=_;exact HR.o
       have FN:=af (P3.o.o 4);clear HR;go_wp2;refine bodyPost_ret (results_tmp3 rfl _ _ _) rfl ?_;rw[HE.o];exact FN.o
      ·have h3':¬((vl:Int)≥3):=by omega
       rw[if_neg (by rw[HVL.o];exact h3)]at HR
       have HE:ah (R=([⟨2,v,o,0⟩],aK,0)):=by show _=_;exact HR.o
       have FN:=af (rI P3.o.1 ⟨2,v,o,0⟩ aK);simp only at FN;clear HR;go_wp2;refine bodyPost_ret (results_tmp3 rfl _ _ _) rfl ?_;rw[HE.o];exact FN.o
  have hk3:(k==3)=false:=by
   cases h:k==3 with
   |false=>rfl
   |true=>exact absurd (.inl h) hk
  have hk4:(k==4)=false:=by
   cases h:k==4 with
   |false=>rfl
   |true=>exact absurd (.inr ⟨hk3,h⟩) hk
  rw[if_neg (by rintro(h|h);simp[h]at hk3;simp[h]at hk4)]at HR
  clear hk;cases hv:bY d.fS.fV v with
  |none=>
   rw[hv]at HR;have ea:iI none= -1:=rfl;rw[ea];rw[if_pos (show(none:Option Nat).isSome=false from rfl)]at HR;clear ea hv;have HE:ah (R=([],aK,1)):=by show _=_;exact HR.o
   have FN:=af (P2.o.o 1);clear HR;go_wp2;refine bodyPost_ret (results_tmp3 rfl _ _ _) rfl ?_;rw[HE.o];exact FN.o
  |some i=>
   have hi0:(i:Int)≥0:=by omega
   rw[hv]at HR;have ea:iI (some i)=(i:Int):=rfl;rw[ea];rw[if_neg (by simp)]at HR
   clear ea hv;by_cases k1:(k==1)=true
   ·have k1':k=1:=by simpa using k1
    rw[if_pos k1']at HR;clear k1';have P3:=af (P2.o.below (Below.refl w2.heap.size w2).drew);have SD:(w2.drew.cell? ⟨w.heap.size,0,none⟩=some (.slice fd d.fH.length fc)/\w2.drew.cell? ⟨w.heap.size,1,none⟩=some (.slice va vl vc)/\w2.drew.cell? ⟨w.heap.size,2,none⟩=some (.slice ad ln cap)/\w2.drew.cell? ⟨w.heap.size,3,none⟩=some (.int .i64 d.fS.next))/\w2.drew.cell? ⟨w.heap.size+1,4,none⟩=some (.string t):=⟨⟨P3.o.2.1.cells.1,P3.o.2.1.cells.2.1,P3.o.2.1.cells.2.2.1,P3.o.2.1.cells.2.2.2.1⟩,P3.o.2.2.1.cells.2.2.2.2⟩;have CL:=af (xD _ d.fS w2.drew (HI.o.below P3.o.1));have HLB:ah ((be d.fS).length<=16777216):=by
     have h1:=wP d.fS;rw[HVL.o]at h1;show _<=_;omega
    obtain⟨L,hL⟩:∃L,be d.fS=L:=⟨_,rfl⟩;rw[hL]at CL HLB HR;obtain⟨c,hc⟩:∃c,eR (aw d.fH) L t.data.toList=c:=⟨_,rfl⟩;rw[hc]at HR;have HC:=af hc;clear hL hc;go_upto_region 17 with fail
    clear a0 a1 a2 a3 a4 y0 y1 y2 y3;go_region_held3 (λw'=>(w'.cell? ⟨w.heap.size,0,none⟩=some (.slice fd d.fH.length fc)/\w'.cell? ⟨w.heap.size,1,none⟩=some (.slice va vl vc)/\w'.cell? ⟨w.heap.size,2,none⟩=some (.slice ad ln cap)/\w'.cell? ⟨w.heap.size,3,none⟩=some (.int .i64 d.fS.next))/\w'.cell? ⟨w.heap.size+1,4,none⟩=some (.string t)) (first|(with_reducible exact SD)|(with_reducible exact SE)|(with_reducible exact SF)|go_keep) (first
     |(go_at_call 73;refine CL.o.mono ?_;rintro e w3 ⟨lv,rfl,lo,b3⟩;obtain⟨la,lc,rfl,li⟩:=LP lo (by have:=HLB.o;unfold maxLen;omega);have P4:=af (P3.o.below b3);obtain⟨rs,e1,i1,l1,ll1,tb1⟩:=(HF.o.below P4.o.1).lens HS.o;have CF:=af (RF (.slice fd d.fH.length fc) rs la L.length lc L t w3 l1 ll1 tb1 i1 (by have:=HLB.o;omega) li);rw[e1,HC.o]at CF;have SE:(w3.cell? ⟨w.heap.size,0,none⟩=some (.slice fd d.fH.length fc)/\w3.cell? ⟨w.heap.size,1,none⟩=some (.slice va vl vc)/\w3.cell? ⟨w.heap.size,2,none⟩=some (.slice ad ln cap)/\w3.cell? ⟨w.heap.size,3,none⟩=some (.int .i64 d.fS.next))/\w3.cell? ⟨w.heap.size+1,4,none⟩=some (.string t):=⟨⟨P4.o.2.1.cells.1,P4.o.2.1.cells.2.1,P4.o.2.1.cells.2.2.1,P4.o.2.1.cells.2.2.2.1⟩,P4.o.2.2.1.cells.2.2.2.2⟩;clear lo b3 li rs e1 i1 l1 ll1 tb1)
     |(go_at_call 72;refine CF.o.mono ?_;rintro e w4 ⟨rfl,b4⟩;have P5:=af (P4.o.below b4);have SF:(w4.cell? ⟨w.heap.size,0,none⟩=some (.slice fd d.fH.length fc)/\w4.cell? ⟨w.heap.size,1,none⟩=some (.slice va vl vc)/\w4.cell? ⟨w.heap.size,2,none⟩=some (.slice ad ln cap)/\w4.cell? ⟨w.heap.size,3,none⟩=some (.int .i64 d.fS.next))/\w4.cell? ⟨w.heap.size+1,4,none⟩=some (.string t):=⟨⟨P5.o.2.1.cells.1,P5.o.2.1.cells.2.1,P5.o.2.1.cells.2.2.1,P5.o.2.1.cells.2.2.2.1⟩,P5.o.2.2.1.cells.2.2.2.2⟩;clear b4))
    all_goals
     clear SD SE SF CL CF P2 P3 P4 HC;go_upto_region 19 with fail
     obtain⟨a0,a1,a2,a3,a4⟩:=P5.o.2.2.1.cells;obtain⟨y0,y1,y2,y3,-,-,-⟩:=P5.o.2.1.cells;simp only at a0 a1 a2 a3 a4;by_cases c0:(c==0)=true
     ·have c0':c=0:=by simpa using c0
      rw[if_pos c0']at HR;clear c0';obtain⟨pb,hpb⟩:=Si t;have CP:=af (H5 t w4);rw[hpb]at CP;clear hpb;go_wp2_with fail;refine CP.o.mono ?_;rintro e w5 ⟨rfl,b5⟩;have P6:=af (P5.o.below b5);clear CP b5 a0 a1 a2 a3 a4 y0 y1 y2 y3;obtain⟨a0,a1,a2,a3,a4⟩:=P6.o.2.2.1.cells;obtain⟨y0,y1,y2,y3,-,-,-⟩:=P6.o.2.1.cells;simp only at a0 a1 a2 a3 a4;have HE:ah (R=([⟨4,v,s,d.fS.next⟩],(lu t),0)):=by show _=_;exact HR.o
      have FN:=af (rI P6.o.1 ⟨4,v,s,d.fS.next⟩ (lu t));simp only at FN;clear HR;go_wp2;refine bodyPost_ret (results_tmp3 rfl _ _ _) rfl ?_;rw[HE.o];exact FN.o
     ·have c0':¬c=0:=by simpa using c0
      have c0:(c==0)=false:=by simpa using c0
      rw[if_neg c0']at HR;clear c0';have HE:ah (R=([⟨4,v,s,c⟩],aK,0)):=by show _=_;exact HR.o
      have FN:=af (rI P5.o.1 ⟨4,v,s,c⟩ aK);simp only at FN;clear HR;go_wp2;refine bodyPost_ret (results_tmp3 rfl _ _ _) rfl ?_;rw[HE.o];exact FN.o
   have k1':¬k=1:=by simpa using k1
   have k1:(k==1)=false:=by simpa using k1
   rw[if_neg k1']at HR;clear k1';by_cases k2:(k==2)=true
   ·have HE:ah (R=([⟨5,v,s,0⟩],aK,0)):=by show _=_;rw[HR.o];exact if_pos (by simpa using k2)
    have FN:=af (rI P2.o.1 ⟨5,v,s,0⟩ aK);simp only at FN;clear HR;go_wp2;refine bodyPost_ret (results_tmp3 rfl _ _ _) rfl ?_;rw[HE.o];exact FN.o
   have k2':¬k=2:=by simpa using k2
   have k2:(k==2)=false:=by simpa using k2
   rw[if_neg k2']at HR;clear k2';by_cases k5:(k==5)=true
   ·have HE:ah (R=([⟨3,v,0,0⟩],aK,0)):=by show _=_;rw[HR.o];exact if_pos (by simpa using k5)
    have FN:=af (rI P2.o.1 ⟨3,v,0,0⟩ aK);simp only at FN;clear HR;go_wp2;refine bodyPost_ret (results_tmp3 rfl _ _ _) rfl ?_;rw[HE.o];exact FN.o
   have k5':¬k=5:=by simpa using k5
   have k5:(k==5)=false:=by simpa using k5
   rw[if_neg k5']at HR;clear k5';have HE:ah (R=([],aK,0)):=by show _=_;exact HR.o
   have FN:=af (P2.o.o 0);clear HR;go_wp2;refine bodyPost_ret (results_tmp3 rfl _ _ _) rfl ?_;rw[HE.o];exact FN.o
end Go.Proofs.YtijmbohadndfmaaGreatDoor
