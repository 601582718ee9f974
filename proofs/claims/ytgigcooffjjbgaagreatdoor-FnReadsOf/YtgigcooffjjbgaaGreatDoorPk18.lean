/-
  SL10; RcApp; SSince; SGath; TxPC; TxC; TxMath3; TxSee; SnewS; SEnv
-/
import Derived.Test.YtgigcooffjjbgaaGreatDoorPk17
open Go.Value renaming int→I,slice→Y,string→iT,bool→iB,pointer→iP,agg→iA,tuple→iU
open Go.IntKind renaming i64→J
open Option renaming none→O,some→X
open Go.Ending renaming returned→G
open Go.Obj renaming cells→iC
open Bool renaming true→iV,false→iF
open Go renaming World→iW,Value→iX,Calls→iK
open Go.RowKit renaming Below→iL
set_option maxHeartbeats 4000000
set_option maxRecDepth 100000
namespace Go.Proofs.YtgigcooffjjbgaaGreatDoor
open Go.RowKit Words
theorem Oc(ad:Option Addr)(a cap:Nat)(M:List an)(tx:Int)(w:iW)(hl:a<=1048576)(hs:dm (λp=>p.text.size) (M.map an.fP)<=1048576)(h:jm w ad a M):
 iK Tryz.prog 177 #[Y ad a cap,I J tx] w (MO w (M.map an.fP) tx):=by
 have HR:=af h;have HN:=af (show M.length=a from h.1);have HS:=af hs;clear h hs;obtain⟨ps,r⟩:=aq (M.map an.fP);rw[r]at HS⊢;have HP:=af r;have ac:ps.length=a:=by rw[<-r,bm];exact HN.o
 have W:=af ac;clear r ac;obtain⟨S,hS⟩:=aq (dm (λp=>p.count.toNat) ps)
 have al:=af hS;clear hS;have T0:=af (LT.start w tx);go_enter Tryz.func177,Tryz.ntmps177;go_wp2;generalize(w.alloc (iC #[I J 0,I J 0,Y O 0 0] 205)).alloc (iC #[I J tx,I J 0,Y O 0 0] 205)=wa at T0⊢;go_loopw [7,8,9] (λcv tv pv wr=>∃(k:Nat) (c sq:Int) (t:ByteArray) (A:List Pg),cv=I J c/\tv=iT t/\pv=I J k/\k<=a/\t.size<=1048576/\ah (LT w wr tx sq)/\ah (xR ps tx k c sq t A)) (λcv _ pv _=>if (intOf pv).toNat=0 then S+1 else(intOf cv).toNat-(intOf pv).toNat)
 case atStart=>exact⟨0,0,0,⟨#[]⟩,[],rfl,rfl,rfl,aJ _,aJ _,T0,rfl,.inl ⟨rfl,rfl,rfl,rfl⟩,aJ _,aJ _⟩
 case round=>
  obtain⟨k,c,sq,t,A,rfl,rfl,rfl,hk,ht,T,K⟩:=hrel;clear T0;have aB:(0:Int)<=k:=by omega
  by_cases l:k=0∨(k:Int)<c
  ·have R:=af l;have eg:(((k:Int)==0)=iV/\¬(0:Int)<k)∨(((k:Int)==0)=iF/\(k:Int)<c/\(0:Int)<k):=by
    simp only[ix,dk,ne_eq];omega
   clear l;rcases eg with⟨eg,au⟩|⟨eg,ap,au⟩
   all_goals
    go_wp2;go_loopw [7,8,10,11] (λcv tv fv iv wr=>∃(m:Nat) (c':Int) (t':ByteArray) (f:Bool) (sq':Int),m<=a/\cv=I J c'/\tv=iT t'/\fv=iB f/\iv=I J m/\t'.size<=1048576/\ah (LT w wr tx sq')/\ah (ng ps tx k c t sq m c' t' f sq')) (λ_ _ _ iv _=>a-(intOf iv).toNat)
    case atStart=>exact⟨0,c,t,iF,sq,aJ _,rfl,rfl,rfl,rfl,ht,T,.inl ⟨rfl,rfl,rfl,rfl,rfl⟩⟩
    case round=>
     obtain⟨m,c',t',f,sq',hm,rfl,rfl,rfl,rfl,aw,T',F⟩:=hrel;clear T;cases f with
     |true=>
      obtain⟨⟨G,G'⟩,n1,n2,n3⟩:=ZZ K.o R.o HS.o W.o al.o F.o;have ag:=af G';have N3:=af n3;clear G' n3;by_cases av:(m:Int)<a;all_goals
       go_wp2;go_roundw
       case rel=>exact⟨k+1,c',sq',t',G,rfl,rfl,by go_num,n2,n1,T',ag⟩
       case measure=>have:=N3.o;by_cases ar:k=0<;>simp[intOf,ar]at this⊢<;>omega
     |false=>
      by_cases av:(m:Int)<a
      ·have aa:m<M.length:=by have:=HN.o;omega
       obtain⟨x,N⟩:∃x,M[m]?=X x:=⟨_,ay aa⟩;have ae:ps[m]?=X x.fP:=by rw[<-HP.o,bh,N];rfl
       obtain⟨rb,ro,rfl,-,-,-,c0,c1,c2,c3,c4,c5⟩:=(HR.o.below T'.o.1).at N;have L:=af ae;clear N ae aa;obtain⟨xb,xl,pk,v,Q,P,s,pt⟩:=x;simp only at c0 c1 c2 c3 c4 c5 L;have m0:(0:Int)<=m:=by omega
       have TA:=af (T'.o.below ((ax _ _).alloc (am _) (iC #[I J pk,I J v,I J Q,I J P,I J s,iT pt] 44)));by_cases hy:sx tx k c ⟨pk,v,Q,P,s,pt⟩=iV
       ·obtain⟨rfl,rfl,rfl,n⟩:=F.o.take L.o hy;obtain⟨-,y1,y2,y3,y4⟩:=xo n;simp only at y1 y2 y3 y4;have hz:=(MI K.o HS.o n).2;simp only at hz;have q1:(pk !=2)=iF:=by rw[y1];rfl
        have q2:(Q !=tx)=iF:=by rw[y2];simp
        have q3:(P !=(k:Int))=iF:=by rw[y3];simp
        try have q4:(s !=c')=iF:=by rw[y4 (by omega)];simp
        have V:=af n;clear y1 y2 y3 y4 n hy;obtain⟨-,l1,-⟩:=TA.o.at;have lf:=TA.o.fr 1;obtain⟨u,U⟩:=aq (t'++pt);have hu:u.size<=1048576:=by rw[<-U,tZ];exact hz
        have Yq:¬(9223372036854775807<t'.size+pt.size):=by omega
        by_cases hs:k=0∨v<sq'
        ·try have hq:v<sq':=by omega
         have TB:=af (TA.o.set v);have Z:ah (ng ps tx k c' t' sq' (m+1) s u iV v):=.inr ⟨rfl,_,V.o,rfl,U.symm,by rw[ak (by simp only;omega)]⟩
         go_wp2;go_roundw
         case rel=>exact⟨m+1,s,u,iV,v,by omega,rfl,by first|rfl|rw[<-U],rfl,by go_num,hu,TB,Z⟩
         case measure=>simp[intOf];omega
        ·have hq:¬v<sq':=by omega
         have Z:ah (ng ps tx k c' t' sq' (m+1) s u iV sq'):=.inr ⟨rfl,_,V.o,rfl,U.symm,by rw[ai (by simp only;omega)]⟩
         first
          |omega
          |(go_wp2
            go_roundw
            case rel=>exact⟨m+1,s,u,iV,sq',by omega,rfl,by first|rfl|rw[<-U],rfl,by go_num,hu,TA,Z⟩
            case measure=>simp[intOf];omega)
       ·have hy:sx tx k c ⟨pk,v,Q,P,s,pt⟩=iF:=by simpa using hy
        have Z:=af (F.o.skip L.o hy);have hc:c'=c:=by rcases F.o with⟨-,h,-⟩|⟨h,-⟩<;>first|exact h|cases h
        subst hc;unfold sx at hy;simp only[rA]at hy;clear F;have hn:(pk !=2)=iV∨(pk !=2)=iF/\((Q !=tx)=iV∨(Q !=tx)=iF/\((P !=(k:Int))=iV∨(P !=(k:Int))=iF/\(0:Int)<k/\(s !=c')=iV)):=by
         simp only[bne_iff_ne,bne_eq_false_iff_eq,ne_eq];omega
        clear hy;rcases hn with r1|⟨r1,r2|⟨r2,r3|⟨r3,r5,r4⟩⟩⟩
        all_goals
         first
          |omega
          |(go_wp2
            go_roundw
            case rel=>exact⟨m+1,c',t',iF,sq',by omega,rfl,rfl,rfl,by go_num,aw,TA,Z⟩
            case measure=>simp[intOf];omega)
      ·have ab:=F.o.none (m:=m) (by have:=W.o;omega)
       have HO:ah (dx ps tx=O):=Ys (K.o.2.1.no R.o ab);clear ab;obtain⟨a0,a1,a2⟩:=T'.o.at;obtain⟨b0,b1,b2⟩:=T'.o.at0;have f0:=T'.o.fr0 0;have f1:=T'.o.fr0 1;have f2:=T'.o.fr0 2;go_wp2;exact az (Hp rfl _ _ w.heap.size tx sq' (Y O 0 0) rfl (IM T'.o.2.1)) rfl ⟨sq',O,0,0,iF,rfl,Ii T'.o.1 (am _),.inl ⟨HO.o,rfl⟩⟩
  ·have E:=K.o.2.1.end_ l;have eg:((k:Int)==0)=iF:=by rw[dk];omega
   have ap:¬(k:Int)<c:=by omega
   have HE:=af E;have D:=K.o.1;have HC:=af D;clear l E D K;go_wp2_with fail;refine(abf t wr ht).mono ?_;rintro e i ⟨uv,acc,ok,rfl,ho,hb,N⟩;have j:=af (T.o.below hb);have S1:=af (aG.of ho);have L:=af N;obtain⟨b,d,rfl,-⟩:=S1.o.form;have S2:ah (aG 110 w.heap.size i.heap.size (Y b acc.length d) acc.length (ch (acc.map Rc.tu)) i):=S1.o.dn T.o.1.size;have H:ah (∀g cs,(Y b acc.length d).ownBlock=X g->i.heap[g]?=X (iC cs 205 (0,0))->False):=by
    intro g cs e q;obtain⟨-,-,aA,q'⟩:=S1.o.lt g e;exact Ec q' q
   have aj:=af (Zg ho);clear ho hb N S1 T;obtain⟨a0,a1,a2⟩:=j.o.at;have g2:=j.o.fr 2;obtain⟨b0,b1,b2⟩:=j.o.at0;have f0:=j.o.fr0 0;have f1:=j.o.fr0 1;have f2:=j.o.fr0 2;have C:ah ((Y b acc.length d).ownBlock≠X (w.heap.size+1)):=λe=>H.o _ _ e j.o.2.2
   have B:ah ((Y b acc.length d).ownBlock≠X w.heap.size):=λe=>H.o _ _ e j.o.2.1
   have HZ:ah (aG 110 w.heap.size i.heap.size (Y b acc.length d) acc.length (ch (acc.map Rc.tu)) (i.setCell ⟨w.heap.size+1,2,O⟩ (Y b acc.length d))):=S2.o.grown (mB i (w.heap.size+1) 2 _) (λg e e2=>C.o (by rw[e,<-e2]))
   have ao:ah (∀x y z:iX,aG 110 w.heap.size ((((i.setCell ⟨w.heap.size+1,2,O⟩ (Y b acc.length d)).setCell ⟨w.heap.size,0,O⟩ x).setCell ⟨w.heap.size,1,O⟩ y).setCell ⟨w.heap.size,2,O⟩ z).heap.size (Y b acc.length d) acc.length (ch (acc.map Rc.tu)) ((((i.setCell ⟨w.heap.size+1,2,O⟩ (Y b acc.length d)).setCell ⟨w.heap.size,0,O⟩ x).setCell ⟨w.heap.size,1,O⟩ y).setCell ⟨w.heap.size,2,O⟩ z)):=by
    intro x y z;have e:((((i.setCell ⟨w.heap.size+1,2,O⟩ (Y b acc.length d)).setCell ⟨w.heap.size,0,O⟩ x).setCell ⟨w.heap.size,1,O⟩ y).setCell ⟨w.heap.size,2,O⟩ z).heap.size=i.heap.size:=by simp[World.setCell]
    rw[e];have f:=λg (e:(Y b acc.length d).ownBlock=X g) (e2:X w.heap.size=X g)=>B.o (by rw[e,<-e2])
    exact((HZ.o.grown (mB _ w.heap.size 0 x) f).grown (mB _ w.heap.size 1 y) f).grown (mB _ w.heap.size 2 z) f
   have R0:ah ((i.setCell ⟨w.heap.size+1,2,O⟩ (Y b acc.length d)).heap[w.heap.size]?=X (iC #[I J 0,I J 0,Y O 0 0] 205 (0,0))):=cX j.o.2.1 (by omega) _ _
   have BB:ah (iL w.heap.size w (i.setCell ⟨w.heap.size+1,2,O⟩ (Y b acc.length d))):=j.o.1.setCell (by simp) _
   clear HZ H C B S2;have OO:ah (dx ps tx=O/\ok=iF∨∃x:TxR,dx ps tx=X x/\ok=iV/\x.num=tx/\x.seq=sq/\acc.length=x.fR.length/\x.fR=acc):=by
    have e1:=Np HE.o.1;rw[<-HC.o]at e1;rcases L.o with⟨q,q2,-⟩|⟨q,q2⟩
    ·rw[q]at e1;exact .inl ⟨e1,q2⟩
    ·rw[q]at e1;exact .inr ⟨_,e1,q2,rfl,HE.o.2.symm,rfl,rfl⟩
   clear L HE HC;go_wp2;refine az (Hp rfl _ _ w.heap.size tx sq (Y b acc.length d) rfl (IM R0.o)) rfl ⟨sq,b,acc.length,d,ok,rfl,Ii BB.o (am _),?_⟩;rcases OO.o with h|⟨x,h1,h2,h3,h4,h5,h6⟩
   ·exact .inl h
   ·exact .inr ⟨x,h1,h2,h3,h4,h5,aj.o,by rw[h6];exact ao.o _ _ _⟩
theorem Rl(b a j:Nat):(⟨b,a,O⟩:Addr).add j=⟨b,a+j,O⟩:=by
 simp only[Addr.add];split<;>simp_all
theorem PJ(w:iW):(w.alloc (iC #[] 110)).ownsRow w.heap.size 110 4 (Y (X ⟨w.heap.size,0,O⟩) 0 0) 0 (ch []):=
 ⟨rfl,.inr ⟨w.heap.size,0,#[],rfl,am _,aB w _,am _,by unfold maxLen;omega,rfl,rfl⟩⟩
theorem UQ(M:List (Int×Int×Int×Int))(i:Nat)(v:iX)(h:(ch M)[i]?=X v):∃x,M[i/4]?=X x/\(mo x)[i % 4]?=X v:=by
 have c:=(aC.1 h).1;rw[FW]at c;obtain⟨x,b⟩:∃x,M[i/4]?=X x:=⟨_,ay (by omega)⟩
 obtain⟨u,a⟩:∃u,(mo x)[i % 4]?=X u:=⟨_,ay (by show i % 4<4;omega)⟩
 have:=EY M (i/4) x b (i % 4) u a;rw[show i/4*4+i % 4=i by omega,h]at this
 cases this;exact⟨x,b,a⟩
theorem kU.cells{w:iW}{b c d:Nat}{ls:List (Int×Int×Int×Int)}(h:kU w (X ⟨b,c,O⟩) d ls)(j:Nat)(u:iX)(k:(ch ls)[j]?=X u):w.cell? ⟨b,c+j,O⟩=X u:=by
 obtain⟨x,l,a⟩:=UQ ls j u k;obtain⟨n,g,e,-,i,c1,c2,c3⟩:=h.at l;injection e with e
 injection e with e1 e2
 subst e1;subst e2;have f:j=j/4*4+j % 4:=by omega
 have h4:j % 4<4:=by omega
 generalize j % 4=m at f h4 a;rw[f,<-mf]
 match m,h4,a with
 |0,_,a=>simp only[mo]at a;simp at a;subst a;simpa using i
 |1,_,a=>simp only[mo]at a;simp at a;subst a;exact c1
 |2,_,a=>simp only[mo]at a;simp at a;subst a;exact c2
 |3,_,a=>simp only[mo]at a;simp at a;subst a;exact c3
variable{a:Act}{ops:Array Oper}{rest:List Oper}{k g n:Nat}
theorem OA (w:iW) {o:Oper} {Q:Exit->Act->iW->Prop} (y:o.guard=O) (s x:Operand)
 (f:o.op=Op.call {callee:=Callee.builtin Builtin.append,args:= #[s,x],argTypes:= #[57,57]}) (g:Nat) (hs:a.eval s=Y (X ⟨g,0,O⟩) 0 0)
 (d:w.ownsRow g 110 4 (Y (X ⟨g,0,O⟩) 0 0) 0 (ch [])) (v:iX) (ls:List (Int×Int×Int×Int)) (z:a.eval x=v) (F:ls.length<=1048576)
 (h:pu w v ls)
 (t:∀k w',w'.ownsRow g 110 4 k ls.length (ch ls)->w.grownBy w' (X g)->wpList Tryz.prog ops Q rest (a.put o.dst k) w'):wpList Tryz.prog ops Q (o::rest) a w:=by
 obtain⟨A,hi,p,i,q⟩:=bO zN;obtain⟨B,c,rfl,m,e⟩:=h;have C:=(iM d g rfl).2;by_cases h0:ls.length=0
 ·have n:ls=[]:=iJ h0;subst n;refine IA w y s x _ f g _ A 4 Tryz.underlying57 hi i g 0 0 [] hs d B 0 c [] z rfl ?_ (by simp) (by simp) (am _) (λw' h1 l=>t _ w' h1 l)
  exact λE=>⟨rfl,m E⟩
 ·obtain⟨b,r,rfl,-,-⟩:=e.2.2.2 (by omega)
  refine cS w y s x _ f g _ A (iA #[I J 0,I J 0,I J 0,I J 0]) 4 32 Tryz.underlying57 hi p i q rfl (by decide) _ 0 [] hs d ⟨b,r,O⟩ ls.length c (ch ls) z (FW ls) (λj u D=>by rw[Rl];exact e.cells j u D) (Po ls) (by unfold maxLen;omega) (by omega) (by omega) ?_
  intro k w' h1 l _;rw[eC]at h1;exact t k w' h1 l
theorem Xb{rs:List Xw}{L:List TxR}(h:rs.map dD=L.map TxR.tu){r:Xw}(b:rs[k]?=X r):∃x,L[k]?=X x/\dD r=x.tu:=by
 have e:=congrArg (λl=>l[k]?) h
 simp only[bh,b]at e;cases a:L[k]? with
 |none=>rw[a]at e;simp at e
 |some x=>rw[a]at e;simp at e;exact⟨x,rfl,e⟩
theorem UA{rs:List Xw}{L:List TxR}(h:rs.map dD=L.map TxR.tu):rs.length=L.length:=by
 have:=congrArg List.length h
 simpa using this
theorem Ps{r:Xw}{x:TxR}(h:dD r=x.tu):x.base=match r.2.2.2 with| []=>iF|t::_=>t.1==1:=by
 have e:r.2.2.2=x.fR.map Rc.tu:=congrArg (λz=>z.2.2) h
 unfold TxR.base;rw[e];cases x.fR<;>rfl
theorem Rm{w y:iW}{a:Nat}{cs:Array iX}(h:w.heap[a]?=X (iC cs 205 (0,0)))(b:w.grownBy y (X g))(c:a≠g):y.heap[a]?=X (iC cs 205 (0,0)):=
 (b.block a (aK.1 h).1 (λe=>c (sR e))).trans h
theorem KT(W:iW)(a b:Int)(v:iX)(g:Nat)(d:W.heap.size=g):∀(j:Nat) (u:iX),[I J a,I J b,v][j]?=X u->(W.alloc (iC #[I J a,I J b,v] 205)).cell? ((⟨g,0,O⟩:Addr).add j)=X u:=by
 intro j u c;subst d
 match j,c with
 |0,c|1,c|2,c=>
  simp at c;subst c;simp[Addr.add]
theorem Jv(a b:Int)(e:Option Addr)(n c:Nat):∀u∈ [I J a,I J b,Y e n c],u.oneCell'=iV:=by
 intro u d;simp at d;rcases d with h|h|h<;>subst h<;>rfl
theorem Sd(ad:Option Addr)(f cap:Nat)(rs:List Xw)(L:List TxR)(w:iW)(hl:f<=1048576)(an:∀r∈rs,r.2.2.2.length<=1048576)(hL:rs.map dD=L.map TxR.tu)(h:qY w ad f rs):
 iK Tryz.prog 140 #[Y ad f cap] w (yh w (kg L)):=by
 have HR:=af h;have HT:=af hL;have aa:=af an;have HN:=af (show rs.length=f from h.1);clear h hL an;go_enter Tryz.func140,Tryz.ntmps140;go_wp2;go_loopw [3,4] (λav V wr=>∃(k b:Nat),k<=f/\V=I J k/\av=I J b/\b<=k/\ah (b=gk L k)/\wr=w) (λ_ V _=>f-(intOf V).toNat)
 case atStart=>exact⟨0,0,aJ _,rfl,rfl,am _,rfl,rfl⟩
 case round=>
  obtain⟨k,b,hk,rfl,rfl,aN,P,au⟩:=hrel;have aw:=au.symm;subst aw;clear au;by_cases aO:(k:Int)<f
  ·have H:k<rs.length:=by have:=HN.o;omega
   obtain⟨r,v⟩:∃r,rs[k]?=X r:=⟨_,ay H⟩;obtain⟨x,K,M⟩:=Xb HT.o v;obtain⟨rb,ro,rfl,-,-,-,c2⟩:=HR.o.at v;obtain⟨ra,rc,s,-,d⟩:=HR.o.2.2.1 r (aL v);rw[s]at c2;have u:=aa.o r (aL v);have a:=Ps M;have c:gk L (k+1)=if x.base then k else gk L k:=by simp only[gk,K]
   have k0:(0:Int)<=k:=by omega
   cases D:r.2.2.2 with
   |nil=>
    rw[D]at a c2;have B:ah (b=gk L (k+1)):=by show _=_;rw[c,a];exact P.o
    clear v K M s d a c u D H P;simp only[dW]at c2;go_wp2;go_roundw
    case rel=>exact⟨k+1,b,by omega,by go_num,rfl,by omega,B,by first|trivial|rfl⟩
    case measure=>simp[intOf];omega
   |cons t ts=>
    rw[D]at a c2 d u;obtain⟨b2,o2,rfl,-,d0,-,-,-⟩:=d.at (k:=0) (t:=t) rfl;simp only[nj,qT]at d0;simp only at a;have ar:(0:Int)<(((t::ts).length:Nat):Int):=by simp only[aW];omega
    generalize(t::ts).length=n2 at c2 ar u;obtain⟨t1,U⟩:=aq t.1;rw[U]at d0 a;cases ht:(t1==1)with
    |true=>
     rw[ht]at a;have B:ah (k=gk L (k+1)):=by show _=_;rw[c,a];rfl
     clear v K M s d a c D H P U;go_wp2;go_roundw
     case rel=>exact⟨k+1,k,by omega,by go_num,rfl,by omega,B,by first|trivial|rfl⟩
     case measure=>simp[intOf];omega
    |false=>
     rw[ht]at a;have B:ah (b=gk L (k+1)):=by show _=_;rw[c,a];exact P.o
     clear v K M s d a c D H P U;go_wp2;go_roundw
     case rel=>exact⟨k+1,b,by omega,by go_num,rfl,by omega,B,by first|trivial|rfl⟩
     case measure=>simp[intOf];omega
  ·have aE:k=L.length:=by have:=HN.o;have:=UA HT.o;omega
   have aD:ah (b=gk L L.length):=by show _=_;rw[P.o,aE]
   have X0:=af (fF.empty w w.heap.size (am _));have B0:=af ((ax w.heap.size w).alloc (am _) (iC #[] 205));clear P;go_wp2;generalize w.alloc (iC #[] 205)=wa at X0 B0⊢;go_loopw [5,6] (λov V W=>∃(j:Nat) (A:List Xw),b<=j/\j<=f/\V=I J j/\A.length<=j/\ah (fF W w.heap.size ov A)/\ah (iL w.heap.size w W)/\ah (A.map dD=((rs.map dD).take j).drop b)) (λ_ V _=>f-(intOf V).toNat)
   case atStart=>exact⟨b,[],am _,by omega,rfl,aJ _,X0,B0,by show _=_;rw[mw (by simp;omega)];rfl⟩
   case round=>
    obtain⟨j,A,aM,hj,rfl,aP,Xq,G,E⟩:=hrel;clear X0 B0;by_cases aK:(j:Int)<f
    ·have ai:j<rs.length:=by have:=HN.o;omega
     obtain⟨r,v⟩:∃r,rs[j]?=X r:=⟨_,ay ai⟩;obtain⟨rb,ro,rfl,-,c0,c1,c2⟩:=(HR.o.below G.o).at v;have s:=(HR.o.below G.o).2.2.1 r (aL v);have u:=aa.o r (aL v);obtain⟨i,l,sv,ls⟩:=r;simp only at c0 c1 c2 s u;obtain⟨N,n,rfl,ao,d⟩:=s;have SV:ah (pu wr (Y N ls.length n) ls):=⟨N,n,rfl,ao,d⟩;have E':ah (A.map dD++[(i,l,ls)]=((rs.map dD).take (j+1)).drop b):=by
      show _=_;rw[E.o,fm,bh,v];simp only[fE,qR];rw[yS (by simp;omega)]
      rfl
     have j0:(0:Int)<=j:=by omega
     clear v d ao E ai
     -- the local transaction, and the empty row of records
     have BA:ah (iL wr.heap.size wr ((wr.alloc (iC #[I J i,I J l,Y N ls.length n] 205)).alloc (iC #[] 110))):=(aZ).alloc (by simp) _
     have R:=af (SV.o.below BA.o);have OE:ah (((wr.alloc (iC #[I J i,I J l,Y N ls.length n] 205)).alloc (iC #[] 110)).ownsRow (wr.heap.size+1) 110 4 (Y (X ⟨wr.heap.size+1,0,O⟩) 0 0) 0 (ch [])):=by
      have:=PJ (wr.alloc (iC #[I J i,I J l,Y N ls.length n] 205));rw[kT rfl]at this;exact this
     have LC:ah (((wr.alloc (iC #[I J i,I J l,Y N ls.length n] 205)).alloc (iC #[] 110)).heap[wr.heap.size]?=X (iC #[I J i,I J l,Y N ls.length n] 205 (0,0))):=
      (gn _ _ wr.heap.size (by simp)).trans (aB wr _)
     obtain⟨m,T⟩:=aq ls.length;have C:=af T;rw[T]at c2 u R OE LC BA SV;clear T;go_wp2_with (at_builtin;refine OA _ rfl _ _ rfl (wr.heap.size+1) rfl OE.o _ ls rfl (by have:=C.o;omega) R.o ?_)
     intro F y ho S;have Q:=af (Rm LC.o S (by omega))
     have BY:ah (iL wr.heap.size wr y):=BA.o.grown S BA.o.size (λk hk=>by simp only[fq]at hk;omega)
     have SY:ah (aG 110 wr.heap.size y.heap.size F ls.length (ch ls) y):=(aG.of ho).dn (by omega)
     have VY:ah (F.ownBlock≠X wr.heap.size):=by
      intro e;obtain⟨-,-,cs,q⟩:=nL ho _ e;exact Ec q Q.o
     clear ho S OE LC BA R SV c0 c1 c2;obtain⟨x0,x1⟩:y.cell? ⟨wr.heap.size,0,O⟩=X (I J i)/\y.cell? ⟨wr.heap.size,1,O⟩=X (I J l):=⟨aj _ _ 0 _ _ _ Q.o,aj _ _ 1 _ _ _ Q.o⟩;have x2:y.cell? ⟨wr.heap.size,2,O⟩=X (Y N m n):=aj _ _ 2 _ _ _ Q.o;have f2:y.frozen? ⟨wr.heap.size,2,O⟩=iF:=aF _ _ 2 _ _ Q.o;have LZ:ah ((y.setCell ⟨wr.heap.size,2,O⟩ F).heap[wr.heap.size]?=X (iC #[I J i,I J l,F] 205 (0,0))):=dz Q.o 2 F;have BZ:ah (iL wr.heap.size wr (y.setCell ⟨wr.heap.size,2,O⟩ F)):=BY.o.setCell (am _) _;have SZ:ah (aG 110 wr.heap.size (y.setCell ⟨wr.heap.size,2,O⟩ F).heap.size F ls.length (ch ls) (y.setCell ⟨wr.heap.size,2,O⟩ F)):=by
      have h2:=SY.o.grown (mB y wr.heap.size 2 F) (λg e e2=>VY.o (by rw[e,<-e2]))
      have e:(y.setCell ⟨wr.heap.size,2,O⟩ F).heap.size=y.heap.size:=by simp[World.setCell]
      show aG _ _ _ _ _ _ _;rw[e];exact h2
     clear Q BY SY VY;obtain⟨p,vc,rfl,-⟩:=SZ.o.form;rw[C.o]at SZ BZ LZ;rw[C.o];have XZ:=af (Xq.o.below BZ.o);have ab:=af (KT (y.setCell ⟨wr.heap.size,2,O⟩ (Y p m vc)) i l (Y p m vc) y.heap.size (by simp[World.setCell]))
     have ac:=af (Jv i l p m vc);have Z:ah (iL (y.setCell ⟨wr.heap.size,2,O⟩ (Y p m vc)).heap.size (y.setCell ⟨wr.heap.size,2,O⟩ (Y p m vc)) ((y.setCell ⟨wr.heap.size,2,O⟩ (Y p m vc)).alloc (iC #[I J i,I J l,Y p m vc] 205))):=aZ;have XN:=af (XZ.o.below Z.o);have OW:=af XN.o.1;have ae:=af (show w.heap.size<=((y.setCell ⟨wr.heap.size,2,O⟩ (Y p m vc)).alloc (iC #[I J i,I J l,Y p m vc] 205)).heap.size by have:=G.o.size;have:=BZ.o.size;have:=Z.o.size;omega)
     obtain⟨i0,ag,az,aA,aC⟩:=bO KH;have I0:=af ag;have Z0:=af az;have Z1:=af aA;have Z2:=af aC;clear ag az aA aC;go_wp2_with (at_builtin;refine cS _ rfl _ _ 201 rfl w.heap.size 205 i0 (iA #[I J 0,I J 0,Y O 0 0]) 3 40 Tryz.underlying201 I0.o Z0.o Z1.o Z2.o rfl (by decide) _ _ _ rfl OW.o ⟨y.heap.size,0,O⟩ 1 1 [I J i,I J l,Y p m vc] rfl rfl ab.o ac.o ?c1 ?c2 ae.o ?_)
     case c1=>unfold maxLen;omega
     case c2=>omega
     intro u' z ho S _;have ap:z.ownsRow w.heap.size 205 3 u' (A++[((i,l,Y p m vc,ls):Xw)]).length (j9 (A++[((i,l,Y p m vc,ls):Xw)])):=by
      rw[<-Fu,aI];exact ho
     have BB:=af (BZ.o.trans (Z.o.mono BZ.o.size));have XF:=af (fF.snoc (r:=((i,l,Y p m vc,ls):Xw)) Xq.o BB.o G.o.size (by
      show aG _ _ _ _ ls.length _ _;rw[C.o];exact(SZ.o.blw Z.o).up Z.o.size) (by show ls.length<=maxLen;rw[C.o];unfold maxLen;omega) S ap)
     have BF:ah (iL w.heap.size w z):=(G.o.trans (BB.o.mono G.o.size)).grown S (by have:=G.o.size;have:=BB.o.size;omega) (λk hk=>(XN.o.1.lt k hk).1)
     have E2:ah ((A++[((i,l,Y p m vc,ls):Xw)]).map dD=((rs.map dD).take (j+1)).drop b):=by
      show _=_;rw[<-E'.o,gV];rfl
     clear ho S ap BB XN OW ae ab ac Z XZ SZ BZ LZ I0 Z0 Z1 Z2 E' Xq G x0 x1 x2 f2;have al:(A++[((i,l,Y p m vc,ls):Xw)]).length<=j+1:=by simp;omega
     generalize A++[((i,l,Y p m vc,ls):Xw)]=aH at XF E2 al;go_wp2;go_roundw
     case rel=>exact⟨j+1,aH,by omega,by omega,by go_num,al,XF,BF,E2⟩
     case measure=>simp[intOf];omega
    ·have ak:j=(rs.map dD).length:=by have:=HN.o;simp;omega
     have EF:ah (A.map dD=(kg L).map TxR.tu):=by
      show _=_;rw[E.o,ak,mD,HT.o,aD.o,kg,List.map_drop]
     clear ak;go_wp2;go_ret;exact⟨_,A,rfl,Xq.o,EF.o,G.o⟩
theorem Fy{l:List Int}{f:Int->Bool}{x:Int}(h:l[k]?=X x):(l.take (k+1)).filter f=(l.take k).filter f++if f x then[x]else[]:=by
 rw[fm,h,jF];cases a:f x<;>simp[a]
theorem NP{l:List Int}{f:Int->Option TxR}{x:Int}(h:l[k]?=X x):(l.take (k+1)).filterMap f=(l.take k).filterMap f++(f x).toList:=by
 rw[fm,h,nY];cases a:f x<;>simp[a]
theorem Jc(ad:Option Addr)(s cap:Nat)(M:List an)(w:iW)(hl:s<=1048576)(hs:dm (λp=>p.text.size) (M.map an.fP)<=1048576)(h:jm w ad s M):
 iK Tryz.prog 141 #[Y ad s cap] w (yh w (dM (M.map an.fP))):=by
 have HR:=af h;have HN:=af (show M.length=s from h.1);have HL:=af hl;have HS:=af hs;clear h hs;obtain⟨ps,ae⟩:=aq (M.map an.fP);have CX:ah (∀W tx,iL w.heap.size w W->iK Tryz.prog 177 #[Y ad s cap,I J tx] W (MO W ps tx)):=by
  intro W tx hb;rw[<-ae];exact Oc ad s cap M tx W hl HS.o (HR.o.below hb)
 rw[ae]at HS⊢;have HP:=af ae;have aX:ah (ps.length=s):=by show _=_;rw[<-ae,bm];exact HN.o
 clear ae;have N0:ah (iL w.heap.size w (w.alloc (iC #[] 3))/\aG 3 w.heap.size (w.alloc (iC #[] 3)).heap.size (Y (X ⟨w.heap.size,0,O⟩) 0 0) 0 (aD []) (w.alloc (iC #[] 3))):=
  ⟨aZ,.inr ⟨w.heap.size,0,rfl,am _,by simp,#[],aB w _,by intro i v hv;simp[aD]at hv⟩⟩
 go_enter Tryz.func141,Tryz.ntmps141;go_wp2;generalize w.alloc (iC #[] 3)=wa at N0⊢;go_loopw [3,4] (λnv iv wr=>∃(k n nc:Nat) (na:Option Addr) (ns:List Int),nv=Y na n nc/\iv=I J k/\k<=s/\n<=k/\ah (ns.length=n/\ns=dA (ps.take k))/\ah (iL w.heap.size w wr/\aG 3 w.heap.size wr.heap.size (Y na n nc) n (aD ns) wr)) (λ_ iv _=>s-(intOf iv).toNat)
 case atStart=>exact⟨0,0,0,_,[],rfl,rfl,aJ _,am _,⟨rfl,rfl⟩,N0⟩
 case round=>
  obtain⟨k,n,nc,na,ns,rfl,rfl,hk,a5,E,Q⟩:=hrel;clear N0;by_cases a4:(k:Int)<s
  ·have aN:k<M.length:=by have:=HN.o;omega
   obtain⟨x,hx⟩:∃x,M[k]?=X x:=⟨_,ay aN⟩;have aP:ps[k]?=X x.fP:=by rw[<-HP.o,bh,hx];rfl
   obtain⟨rb,ro,rfl,-,-,-,c0,c1,c2,c3,c4,c5⟩:=(HR.o.below Q.o.1).at hx;have E1:ah (dA (ps.take (k+1))=pB ns x.fP):=by show _=_;rw[RJ aP,E.o.2]
   have L1:ah ((dA (ps.take (k+1))).length<=k+1):=bV (Fz _) (by rw[cD];omega)
   clear hx aP aN;obtain⟨xb,xl,pk,L,l,K,H,pt⟩:=x;simp only at c0 c1 c2 c3 c4 c5 E1;have k0:(0:Int)<=k:=by omega
   have BA:=af (aT wr (iC #[I J pk,I J L,I J l,I J K,I J H,iT pt] 44));by_cases q1:pk=2
   ·have r1:(pk !=2)=iF:=by rw[q1];rfl
    rw[pB,ak (show(Pg.mk pk L l K H pt).kind=2 from q1)]at E1;simp only at E1;rw[E1.o]at L1;have WA:ah (iL w.heap.size w (wr.alloc (iC #[I J pk,I J L,I J l,I J K,I J H,iT pt] 44))/\aG 3 w.heap.size (wr.alloc (iC #[I J pk,I J L,I J l,I J K,I J H,iT pt] 44)).heap.size (Y na n nc) n (aD ns) (wr.alloc (iC #[I J pk,I J L,I J l,I J K,I J H,iT pt] 44))/\(wr.alloc (iC #[I J pk,I J L,I J l,I J K,I J H,iT pt] 44)).cell? ⟨wr.heap.size,2,O⟩=X (I J l)):=
     ⟨Q.o.1.trans (BA.o.mono Q.o.1.size),(Q.o.2.blw BA.o).up BA.o.size,by simp⟩
    obtain⟨d,Z⟩:=aq wr.heap.size;have aj:(wr.alloc (iC #[I J pk,I J L,I J l,I J K,I J H,iT pt] 44)).heap.size=d+1:=by rw[<-Z];simp
    rw[aj,Z]at WA;have O1:ah (iL (d+1) (wr.alloc (iC #[I J pk,I J L,I J l,I J K,I J H,iT pt] 44)) ((wr.alloc (iC #[I J pk,I J L,I J l,I J K,I J H,iT pt] 44)).alloc (iC #[] 3))/\((wr.alloc (iC #[I J pk,I J L,I J l,I J K,I J H,iT pt] 44)).alloc (iC #[] 3)).ownsRow (d+1) 3 1 (Y (X ⟨d+1,0,O⟩) 0 0) 0 (aD [])):=by
     refine⟨by rw[<-aj];exact aZ,rfl,.inr ⟨d+1,0,#[],rfl,am _,?_,am _,by unfold maxLen;omega,rfl,rfl⟩⟩
     have:=aB (wr.alloc (iC #[I J pk,I J L,I J l,I J K,I J H,iT pt] 44)) (iC #[] 3);rw[aj]at this;exact this
    have a3:=af Z;have m:=af aj;clear Q BA aj q1;go_wp2_with fail;try rw[Z]
    clear Z c0 c1 c2 c3 c4 c5;generalize wr.alloc (iC #[I J pk,I J L,I J l,I J K,I J H,iT pt] 44)=T at WA O1 m⊢;generalize T.alloc (iC #[] 3)=w2 at O1⊢;obtain⟨a0,a1,ab,ac⟩:=WA.o.2.1.form;have ap:=af (show 0<n->∃g,na=X ⟨g,0,O⟩/\w.heap.size<=g/\g<d+1 by injection ab with h1 h2 h3;rw[h1];exact ac)
    clear ab ac;go_loopw [6,7] (λov jv W=>∃(j:Nat) (zs:List Int),jv=I J j/\j<=n/\zs.length<=j/\ah (zs=(ns.take j).filter (λy=>decide (y<l)))/\ah (iL (d+1) T W/\W.ownsRow (d+1) 3 1 ov zs.length (aD zs))) (λ_ jv _=>n-(intOf jv).toNat)
    case atStart=>exact⟨0,[],rfl,aJ _,am _,rfl,O1⟩
    case round=>
     obtain⟨j,zs,rfl,hj,aY,U,q⟩:=hrel;have ar:wr.cell? ⟨d,2,O⟩=X (I J l):=(q.o.1.cell (by show d<d+1;omega)).trans WA.o.2.2
     by_cases au:(j:Int)<n
     ·obtain⟨g,rfl,-,hg⟩:=ap.o (by omega)
      obtain⟨y,hy⟩:∃y,ns[j]?=X y:=⟨_,ay (by have:=E.o.1;omega)⟩
      have CY:ah (∀W,iL (d+1) T W->W.cell? ⟨g,j,O⟩=X (I J y)):=by
       intro W hW;have b:=aC.1 hy;exact(hW.cell (show g<d+1 from hg)).trans (WA.o.2.1.flt.cell (by rw[yP ns j b.1,b.2]))
      have cy:=CY.o _ q.o.1;have j0:(0:Int)<=j:=by omega
      have V:=af (Fy (f:=(λy=>decide (y<l))) hy)
      clear hy;by_cases ag:y<l
      ·have F2:ah (zs++[y]=(ns.take (j+1)).filter (λy=>decide (y<l))):=by
        show _=_;rw[V.o,U.o];simp[ag]
       go_wp2;go_quiet (fail);have P:=bY (ax wr.heap.size wr) nq;have D:ah (iL (d+1) T (wr.drewN nq)/\(wr.drewN nq).ownsRow (d+1) 3 1 u6 zs.length (aD zs)):=⟨q.o.1.trans (P.mono (by have:=q.o.1.size;have:=m.o;omega)),bC q.o.2 P⟩
       clear q ar cy P V U;generalize wr.drewN nq=N at D⊢;have cy:=CY.o _ D.o.1;have G:d+1<=N.heap.size:=by have:=D.o.1.size;have:=m.o;omega
       go_wp2_with (at_builtin;refine tM _ y rfl _ _ rfl (d+1) _ zs rfl rfl D.o.2 (by omega) G ?_)
       intro u' z B b ho hb;have ON:ah (iL (d+1) T z/\z.ownsRow (d+1) 3 1 u' B.length (aD B)):=⟨D.o.1.trans hb,ho⟩;have aa:B.length<=(j+1):=by rw[b.o];simp;omega
       rw[<-b.o]at F2;clear ho hb G b D cy;go_wp2;go_roundw
       case rel=>exact⟨j+1,B,by go_num,by omega,aa,F2,ON⟩
       case measure=>simp[intOf];omega
      ·have F2:ah (zs=(ns.take (j+1)).filter (λy=>decide (y<l))):=by
        show _=_;rw[V.o,U.o];simp[ag]
       go_wp2;go_quiet (fail);have P:=bY (ax wr.heap.size wr) nq;have D:ah (iL (d+1) T (wr.drewN nq)/\(wr.drewN nq).ownsRow (d+1) 3 1 u6 zs.length (aD zs)):=⟨q.o.1.trans (P.mono (by have:=q.o.1.size;have:=m.o;omega)),bC q.o.2 P⟩
       clear P;go_wp2;go_roundw
       case rel=>exact⟨j+1,zs,by go_num,by omega,by omega,F2,D⟩
       case measure=>simp[intOf];omega
     ·have F:j=ns.length:=by have:=E.o.1;omega
      have EF:ah (zs=ns.filter (λy=>decide (y<l))):=by show _=_;rw[U.o,F,mD]
      clear F U
      -- and the number itself
      have G:d+1<=wr.heap.size:=by have:=q.o.1.size;have:=m.o;omega
      go_wp2_with (at_builtin;refine tM _ l rfl _ _ rfl (d+1) _ zs rfl rfl q.o.2 (by omega) G ?_)
      intro u' z pU b ho hb;have ON:ah (iL (d+1) T z/\z.ownsRow (d+1) 3 1 u' pU.length (aD pU)):=⟨q.o.1.trans hb,ho⟩;have aa:pU.length<=n+1:=by rw[b.o];simp;omega
      have PZ:ah (zs++[l]=ns.filter (λy=>decide (y<l))++[l]):=by show _=_;rw[EF.o]
      rw[<-b.o]at PZ;clear ho hb G b q ar EF;go_wp2;go_loopw [6,8] (λov jv W=>∃(j:Nat) (zs:List Int),jv=I J j/\j<=n/\zs.length<=n+1+j/\ah (zs=pU++(ns.take j).filter (λy=>decide (l<y)))/\ah (iL (d+1) T W/\W.ownsRow (d+1) 3 1 ov zs.length (aD zs))) (λ_ jv _=>n-(intOf jv).toNat)
      case atStart=>exact⟨0,pU,rfl,aJ _,aa,by show _=_;simp,ON⟩
      case round=>
       obtain⟨j,zs,rfl,hj,aY,U,q⟩:=hrel;have ar:wr.cell? ⟨d,2,O⟩=X (I J l):=(q.o.1.cell (by show d<d+1;omega)).trans WA.o.2.2
       by_cases au:(j:Int)<n
       ·obtain⟨g,rfl,-,hg⟩:=ap.o (by omega)
        obtain⟨y,hy⟩:∃y,ns[j]?=X y:=⟨_,ay (by have:=E.o.1;omega)⟩
        have CY:ah (∀W,iL (d+1) T W->W.cell? ⟨g,j,O⟩=X (I J y)):=by
         intro W hW;have b:=aC.1 hy;exact(hW.cell (show g<d+1 from hg)).trans (WA.o.2.1.flt.cell (by rw[yP ns j b.1,b.2]))
        have cy:=CY.o _ q.o.1;have j0:(0:Int)<=j:=by omega
        have V:=af (Fy (f:=(λy=>decide (l<y))) hy)
        clear hy;by_cases ag:l<y
        ·have F2:ah (zs++[y]=pU++(ns.take (j+1)).filter (λy=>decide (l<y))):=by
          show _=_;rw[V.o,U.o];simp[ag]
         go_wp2;go_quiet (fail);have P:=bY (ax wr.heap.size wr) nq;have D:ah (iL (d+1) T (wr.drewN nq)/\(wr.drewN nq).ownsRow (d+1) 3 1 u6 zs.length (aD zs)):=⟨q.o.1.trans (P.mono (by have:=q.o.1.size;have:=m.o;omega)),bC q.o.2 P⟩
         clear q ar cy P V U;generalize wr.drewN nq=N at D⊢;have cy:=CY.o _ D.o.1;have G:d+1<=N.heap.size:=by have:=D.o.1.size;have:=m.o;omega
         go_wp2_with (at_builtin;refine tM _ y rfl _ _ rfl (d+1) _ zs rfl rfl D.o.2 (by omega) G ?_)
         intro u' z B b ho hb;have ON:ah (iL (d+1) T z/\z.ownsRow (d+1) 3 1 u' B.length (aD B)):=⟨D.o.1.trans hb,ho⟩;have aa:B.length<=n+1+(j+1):=by rw[b.o];simp;omega
         rw[<-b.o]at F2;clear ho hb G b D cy;go_wp2;go_roundw
         case rel=>exact⟨j+1,B,by go_num,by omega,aa,F2,ON⟩
         case measure=>simp[intOf];omega
        ·have F2:ah (zs=pU++(ns.take (j+1)).filter (λy=>decide (l<y))):=by
          show _=_;rw[V.o,U.o];simp[ag]
         go_wp2;go_quiet (fail);have P:=bY (ax wr.heap.size wr) nq;have D:ah (iL (d+1) T (wr.drewN nq)/\(wr.drewN nq).ownsRow (d+1) 3 1 u6 zs.length (aD zs)):=⟨q.o.1.trans (P.mono (by have:=q.o.1.size;have:=m.o;omega)),bC q.o.2 P⟩
         clear P;go_wp2;go_roundw
         case rel=>exact⟨j+1,zs,by go_num,by omega,by omega,F2,D⟩
         case measure=>simp[intOf];omega
       ·have F:j=ns.length:=by have:=E.o.1;omega
        have EF:ah (zs=pU++ns.filter (λy=>decide (l<y))):=by show _=_;rw[U.o,F,mD]
        clear F U;obtain⟨oa,oc,rfl⟩:∃oa oc,u6=Y oa zs.length oc:=by
         obtain⟨a,c,e,-⟩:=(aG.of q.o.2).form;exact⟨a,c,e⟩
        have EN:ah (zs.length=zs.length/\zs=dA (ps.take (k+1))):=by
         refine⟨rfl,?_⟩;rw[E1.o,EF.o,PZ.o];rfl
        have LZ:zs.length<=k+1:=by have:=L1.o;rw[EN.o.2,E1.o];exact this
        have WN:ah (iL w.heap.size w wr/\aG 3 w.heap.size wr.heap.size (Y oa zs.length oc) zs.length (aD zs) wr):=⟨WA.o.1.trans (q.o.1.mono (by have:=WA.o.1.size;have:=m.o;omega)),(aG.of q.o.2).dn (by have:=WA.o.1.size;have:=m.o;omega)⟩
        obtain⟨n2,aF⟩:=aq zs.length;rw[aF]at LZ WN⊢;have aW:=af aF;clear aF;go_wp2;go_roundw
        case rel=>exact⟨k+1,n2,oc,oa,zs,rfl,by go_num,by omega,LZ,⟨aW.o,EN.o.2⟩,WN⟩
        case measure=>simp[intOf];omega
   ·have r1:(pk !=2)=iV:=by simpa using q1
    rw[pB,ai (show¬(Pg.mk pk L l K H pt).kind=2 from q1)]at E1;have W1:ah (iL w.heap.size w (wr.alloc (iC #[I J pk,I J L,I J l,I J K,I J H,iT pt] 44))/\aG 3 w.heap.size (wr.alloc (iC #[I J pk,I J L,I J l,I J K,I J H,iT pt] 44)).heap.size (Y na n nc) n (aD ns) (wr.alloc (iC #[I J pk,I J L,I J l,I J K,I J H,iT pt] 44))):=
     ⟨Q.o.1.trans (BA.o.mono Q.o.1.size),(Q.o.2.blw BA.o).up BA.o.size⟩
    have E2:ah (ns.length=n/\ns=dA (ps.take (k+1))):=⟨E.o.1,E1.o.symm⟩;clear Q BA q1;go_wp2;go_roundw
    case rel=>exact⟨k+1,n,nc,na,ns,rfl,by go_num,by omega,by omega,E2,W1⟩
    case measure=>simp[intOf];omega
  ·have aM:k=ps.length:=by have:=aX.o;omega
   have EF:ah (ns.length=n/\dM ps=ns.filterMap (dx ps)):=⟨E.o.1,by rw[E.o.2,aM,mD];rfl⟩
   clear aM E;obtain⟨a0,a1,ab,ac⟩:=Q.o.2.form;obtain⟨R,S⟩:=aq wr.heap.size;have ap:=af (show 0<n->∃g,na=X ⟨g,0,O⟩/\w.heap.size<=g/\g<R by injection ab with h1 h2 h3;rw[h1,<-S];exact ac)
   clear ab ac;have X0:=af (fF.empty wr R (by omega))
   have B0:=af (show iL R wr (wr.alloc (iC #[] 205))by rw[<-S];exact aZ)
   rw[S]at X0;have m:=af S;have az:w.heap.size<=R:=by have:=Q.o.1.size;omega
   go_wp2_with fail;try rw[S]
   clear S;generalize wr.alloc (iC #[] 205)=wb at X0 B0⊢;have WW:=Q;clear Q;obtain⟨ws,aQ⟩:=aq wr;rw[aQ]at B0 WW m;clear aQ;go_loopw [9,10] (λov iv W=>∃(j:Nat) (rs:List Xw),iv=I J j/\j<=n/\rs.length<=j/\ah (fF W R ov rs)/\ah (iL R ws W)/\ah (rs.map dD=((ns.take j).filterMap (dx ps)).map TxR.tu)) (λ_ iv _=>n-(intOf iv).toNat)
   case atStart=>exact⟨0,[],rfl,aJ _,am _,X0,B0,rfl⟩
   case round=>
    obtain⟨j,rs,rfl,hj,a6,Xq,BW,ER⟩:=hrel;clear X0 B0;by_cases au:(j:Int)<n
    ·obtain⟨g,rfl,-,hg⟩:=ap.o (by omega)
     obtain⟨y,hy⟩:∃y,ns[j]?=X y:=⟨_,ay (by have:=EF.o.1;omega)⟩
     have cy:wr.cell? ⟨g,j,O⟩=X (I J y):=(BW.o.cell (show g<R from hg)).trans (by
      have b:=aC.1 hy;exact WW.o.2.flt.cell (by rw[yP ns j b.1,b.2]))
     have j0:(0:Int)<=j:=by omega
     have V:=af (NP (f:=dx ps) hy);have aV:ah (iL w.heap.size w wr):=WW.o.1.trans (BW.o.mono az);have C:=af (CX.o wr y aV.o);clear hy;go_wp2_with fail;refine C.o.mono ?_;rintro e N ⟨sq,u,t,A,ok,rfl,b3,h3⟩;have B3:=af b3;clear b3 C cy;have BA:=af (aT N (iC #[I J y,I J sq,Y u t A] 205));have aA:R<=wr.heap.size:=by have:=BW.o.size;have:=m.o;omega
     rcases h3 with⟨h3,rfl⟩|⟨x,h3,rfl,x1,x2,x3,x5,x4⟩
     ·have ao:ah (rs.map dD=((ns.take (j+1)).filterMap (dx ps)).map TxR.tu):=by show _=_;rw[V.o,h3,ER.o];simp
      have XN:=af ((Xq.o.below B3.o).below BA.o);have BN:ah (iL R ws (N.alloc (iC #[I J y,I J sq,Y u t A] 205))):=(BW.o.trans (B3.o.mono aA)).trans (BA.o.mono (by have:=B3.o.size;omega))
      clear h3 Xq BW ER V;go_wp2;go_roundw
      case rel=>exact⟨j+1,rs,by go_num,by omega,by omega,XN,BN,ao⟩
      case measure=>simp[intOf];omega
     ·have H3:=af h3;have X3:=af x3;have X4:=af x4;have X5:=af x5;have aw:=af (show x.num=y/\x.seq=sq from⟨x1,x2⟩);clear h3 x3 x4 x1 x2 x5;have aH:=af (KT (N.alloc (iC #[I J y,I J sq,Y u t A] 205)) y sq (Y u t A) (N.heap.size+1) (by simp))
      have aK:=af (Jv y sq u t A);have al:ah (iL (N.alloc (iC #[I J y,I J sq,Y u t A] 205)).heap.size (N.alloc (iC #[I J y,I J sq,Y u t A] 205)) ((N.alloc (iC #[I J y,I J sq,Y u t A] 205)).alloc (iC #[I J y,I J sq,Y u t A] 205))):=aZ;have BB:ah (iL wr.heap.size wr ((N.alloc (iC #[I J y,I J sq,Y u t A] 205)).alloc (iC #[I J y,I J sq,Y u t A] 205))):=(B3.o.trans (BA.o.mono B3.o.size)).trans (al.o.mono (bV B3.o.size BA.o.size));have XN:=af (Xq.o.below BB.o);have OW:=af XN.o.1;have av:=af (show R<=((N.alloc (iC #[I J y,I J sq,Y u t A] 205)).alloc (iC #[I J y,I J sq,Y u t A] 205)).heap.size by have:=BB.o.size;omega)
      have SX:ah (aG 110 wr.heap.size ((N.alloc (iC #[I J y,I J sq,Y u t A] 205)).alloc (iC #[I J y,I J sq,Y u t A] 205)).heap.size (Y u t A) t (ch (x.fR.map Rc.tu)) ((N.alloc (iC #[I J y,I J sq,Y u t A] 205)).alloc (iC #[I J y,I J sq,Y u t A] 205))):=((X4.o.blw BA.o).blw al.o).up (bV BA.o.size al.o.size);obtain⟨i0,aL,aR,aS,aU⟩:=bO KH;have I0:=af aL;have Z0:=af aR;have Z1:=af aS;have Z2:=af aU;clear aL aR aS aU;go_wp2_with (at_builtin;refine cS _ rfl _ _ 201 rfl R 205 i0 (iA #[I J 0,I J 0,Y O 0 0]) 3 40 Tryz.underlying201 I0.o Z0.o Z1.o Z2.o rfl (by decide) _ _ _ rfl OW.o ⟨N.heap.size+1,0,O⟩ 1 1 [I J y,I J sq,Y u t A] rfl rfl aH.o aK.o ?c1 ?c2 av.o ?_)
      case c1=>unfold maxLen;omega
      case c2=>omega
      intro u' z ho aE _;obtain⟨r,hr⟩:∃r:Xw,r=(y,sq,Y u t A,x.fR.map Rc.tu):=⟨_,rfl⟩;have aO:z.ownsRow R 205 3 u' (rs++[r]).length (j9 (rs++[r])):=by
       rw[<-Fu,aI,hr];exact ho
      have XF:=af (fF.snoc (r:=r) Xq.o BB.o aA (by
       rw[hr];show aG _ _ _ _ (x.fR.map Rc.tu).length _ _;rw[bm,<-X3.o];exact SX.o) (by rw[hr];show(x.fR.map Rc.tu).length<=maxLen;rw[bm,<-X3.o];exact X5.o) aE aO)
      have BF:ah (iL R ws z):=(BW.o.trans (BB.o.mono aA)).grown aE (by have:=av.o;have:=m.o;omega) (λk hk=>(OW.o.lt k hk).1)
      have ao:ah ((rs++[r]).map dD=((ns.take (j+1)).filterMap (dx ps)).map TxR.tu):=by
       show _=_;rw[V.o,H3.o,gV,gV,ER.o,hr];simp[dD,TxR.tu,aw.o.1,aw.o.2]
      have b:(rs++[r]).length<=j+1:=by simp;omega
      clear ho aE aO BB XN OW av aH aK BA al SX I0 Z0 Z1 Z2 ER Xq BW H3 X3 X4 aw hr;generalize rs++[r]=a2 at XF ao b;go_wp2;go_roundw
      case rel=>exact⟨j+1,a2,by go_num,by omega,b,XF,BF,ao⟩
      case measure=>simp[intOf];omega
    ·have F:j=ns.length:=by have:=EF.o.1;omega
     have EN:ah (rs.map dD=(dM ps).map TxR.tu):=by show _=_;rw[ER.o,F,mD,EF.o.2]
     clear F;go_wp2;go_ret;exact⟨_,rs,rfl,Xq.o.down az,EN.o,WW.o.1.trans (BW.o.mono az)⟩
theorem yh.rows{w w':iW}{L:List TxR}{e:Ending}(h:yh w L e w')(g:L.length=n):∃(ad:Option Addr) (c:Nat) (rs:List Xw),e=G (Y ad n c)/\rs.length=n/\rs.map dD=L.map TxR.tu/\fF w' w.heap.size (Y ad n c) rs/\iL w.heap.size w w':=by
 obtain⟨i,rs,rfl,a,d,f⟩:=h;have b:rs.length=n:=by have:=congrArg List.length d;simp only[bm]at this;omega
 obtain⟨ad,c,rfl⟩:=a.form;rw[b]at a⊢;exact⟨ad,c,rs,rfl,b,d,a,f⟩
end Go.Proofs.YtgigcooffjjbgaaGreatDoor
namespace Go.Proofs.YtgigcooffjjbgaaGreatDoor.Words
def gC(tx:Int)(p:Pg):Nat:=if p.tx=tx then p.text.size else 0
def tC(l:List Pg):Nat:=(l.map (λp=>p.text.size)).sum
theorem Oo(l:List Pg):(lD l).size=tC l:=by
 show(l.flatMap (λp=>p.text.data.toList)).toArray.size=_
 rw[Aj,List.length_flatMap];rfl
variable{c:Int}
variable{ps:List Pg}
theorem aah{tx:Int}:∀(n k:Nat) (l:List Pg),jH ps tx c n k=X l->lI (gC tx) ps k+tC l<=lI (gC tx) ps ((k+n:Nat):Int):=by
 intro n
 induction n with
 |zero=>intro k l h;simp only[jH,fq]at h;subst h;simp[tC]
 |succ n g=>
  intro k l h;simp only[jH]at h;cases a:rC ps tx k c with
  |none=>rw[a]at h;simp at h
  |some p=>
   rw[a]at h;simp only at h;cases d:jH ps tx c n (k+1)with
   |none=>rw[d]at h;simp at h
   |some i=>
    rw[d]at h;simp only[fE,fq]at h;subst h;have h1:=g (k+1) i d;have f:=tm a;have b:=vH a;simp only[bM]at b;have h4:=yn (gC tx) f b.2.2.1;have j:gC tx p=p.text.size:=ak b.2.1;have e:((k+1:Nat):Int)=(k:Int)+1:=by omega
    rw[e]at h1;rw[show k+(n+1)=k+1+n by omega]
    simp only[tC,cB,gB]at h1⊢;omega
theorem Tw{tx:Int}{l:List Pg}(h:kH ps tx=X l):tC l<=dm (gC tx) ps:=by
 unfold kH at h;cases a:qI ps tx with
 |none=>rw[a]at h;cases h
 |some p=>
  rw[a]at h;simp only at h;cases c:jH ps tx p.count (p.count.toNat-1) 1 with
  |none=>rw[c]at h;simp at h
  |some i=>
   rw[c]at h;simp only[fE,fq]at h;subst h;have h1:=aah _ _ _ c;have e:=tm a;have b:=vH a;simp only[bM]at b;have h4:=yn (gC tx) e b.2.2;have g:=DH (gC tx) ps ((1+(p.count.toNat-1):Nat):Int);have f:gC tx p=p.text.size:=ak b.2.1;have d:((1:Nat):Int)=0+1:=rfl;rw[d]at h1;simp only[tC,cB,gB]at h1⊢;omega
theorem Rf{tx:Int}{x:TxR}(h:dx ps tx=X x):3*x.fR.length<=dm (gC tx) ps:=by
 unfold dx at h;cases a:kH ps tx with
 |none=>rw[a]at h;cases h
 |some l=>
  rw[a]at h;simp only at h;cases b:fR (lD l).data.toList 0 with
  |none=>rw[b]at h;cases h
  |some rs=>
   rw[b]at h;simp only[fE,fq]at h;subst h;obtain⟨h1,d⟩:=VQ rs _ 0 b;have c:=(WQ rs h1).1;rw[<-d]at c;have h4:=Tw a;rw[<-Oo]at h4;have e:(lD l).data.toList.length=(lD l).size:=rfl;simp only[Cu]at c;simp only;omega
theorem Rn(ps:List Pg):∀ns:List Int,ns.Nodup->(ns.map (λn=>dm (gC n) ps)).sum<=dm (λp=>p.text.size) ps:=by
 induction ps with
 |nil=>
  intro ns _;have:∀m:List Int,(m.map (λn=>dm (gC n) [])).sum=0:=by
   intro m
   induction m with
   |nil=>rfl
   |cons a m b=>rw[cB,gB,b];rfl
  rw[this];exact aJ _
 |cons p ps b=>
  intro ns d;have h1:=b ns d;have f:∀m:List Int,(m.map (λn=>dm (gC n) (p::ps))).sum=(m.map (λn=>gC n p)).sum+(m.map (λn=>dm (gC n) ps)).sum:=by
   intro m
   induction m with
   |nil=>rfl
   |cons a m b=>
    rw[cB,gB,cB,gB,cB,gB,b];have:dm (gC a) (p::ps)=gC a p+dm (gC a) ps:=by simp[dm]
    rw[this];omega
  have g:∀m:List Int,p.tx∉m->(m.map (λn=>gC n p)).sum=0:=by
   intro m
   induction m with
   |nil=>intro _;rfl
   |cons a m b=>
    intro c;rw[be,tL]at c;rw[cB,gB,b c.2,gC,ai c.1]
  have h4:∀m:List Int,m.Nodup->(m.map (λn=>gC n p)).sum<=p.text.size:=by
   intro m
   induction m with
   |nil=>intro _;simp
   |cons a m b=>
    intro c;rw[List.nodup_cons]at c;rw[cB,gB];by_cases e:p.tx=a
    ·rw[g m (by rw[e];exact c.1),gC,ak e]
     exact am _
    ·rw[gC,ai e,eC];exact b c.2
  have i:=h4 ns d;have h:dm (λp=>p.text.size) (p::ps)=p.text.size+dm (λp=>p.text.size) ps:=by simp[dm]
  rw[f,h];omega
theorem JV(ps:List Pg):3*((dM ps).map (λx=>x.fR.length)).sum<=dm (λp=>p.text.size) ps/\(dM ps).length<=ps.length:=by
 have b:(dA ps).Nodup:=(rG ps).imp (λh=>by omega)
 have h1:=Rn ps (dA ps) b;have a:∀ns:List Int,3*((ns.filterMap (dx ps)).map (λx=>x.fR.length)).sum<=(ns.map (λn=>dm (gC n) ps)).sum:=by
  intro ns
  induction ns with
  |nil=>simp
  |cons n ns c=>
   rw[cB,gB,qD];split
   ·omega
   ·rename_i x hx
    rw[cB,gB];have:=Rf hx;omega
 refine⟨bV (a _) h1,bV (yw _ _) (Fz ps)⟩
end Go.Proofs.YtgigcooffjjbgaaGreatDoor.Words
namespace Go.Proofs.YtgigcooffjjbgaaGreatDoor
open Go.RowKit Words
theorem Zq:Yc 139:=by
 intro w;have a:ah (fI w ik (iA #[Y O 0 0,Y O 0 0,I J 1]) (w.alloc (iC #[Y O 0 0,Y O 0 0,I J 1] 32))):=by
  have b:=aT w (iC #[Y O 0 0,Y O 0 0,I J 1] 32);have c:=b.size;refine⟨_,_,w.heap.size,w.heap.size,w.heap.size,w.heap.size,rfl,.inl ⟨rfl,rfl⟩,⟨[],rfl,.inl ⟨rfl,rfl⟩,(λ_ h=>by cases h),List.Pairwise.nil,by show(0:Nat)<=_;omega⟩,am _,c,am _,c,.inl (am _),b⟩
 have R:=af (aB w (iC #[Y O 0 0,Y O 0 0,I J 1] 32));go_enter Tryz.func139,Tryz.ntmps139;go_wp2;exact az (vY rfl _ _ w.heap.size 32 _ (0,0) _ rfl R.o Tryz.underlying32 rfl uf) rfl ⟨_,rfl,a.o⟩
def jl(w w0:iW)(z:Nat)(a b c:iX)(r:Rc):Prop:=
 w.heap.size=z/\iL w.heap.size w w0/\w0.heap[z]?=X (iC #[a,b,c] 32 (0,0))/\w0.heap[z+1]?=X (iC #[I J r.kind,I J r.vol,I J r.arg,I J r.fC] 110 (0,0))/\w0.heap[z+1+1]?=X (iC #[Y O 0 0,Y O 0 0,I J 0] 32 (0,0))
variable{fn:Func}{v:Int × Int}{z k:Nat}
theorem jl.lt{w w0:iW}{a b c:iX}{r:Rc}(h:jl w w0 z a b c r):z+1+1<w0.heap.size:=(aK.1 h.2.2.2.2).1
theorem jl.on{w w0 W:iW}{a b c:iX}{r:Rc}(h:jl w w0 z a b c r)(H:iL w0.heap.size w0 W):jl w W z a b c r:=by
 have:=h.lt;obtain⟨h1,d,e,h4,f⟩:=h;exact⟨h1,d.trans (H.mono d.size),(H.block z (by omega)).trans e,(H.block (z+1) (by omega)).trans h4,(H.block (z+1+1) this).trans f⟩
theorem jl.sc{w W:iW}{a b c:iX}{r:Rc}(h:jl w W z a b c r):W.cell? ⟨z,0,O⟩=X a/\W.cell? ⟨z,1,O⟩=X b/\W.cell? ⟨z,2,O⟩=X c:=
 ⟨aj _ _ 0 _ _ _ h.2.2.1,aj _ _ 1 _ _ _ h.2.2.1,aj _ _ 2 _ _ _ h.2.2.1⟩
theorem jl.rc{w W:iW}{a b c:iX}{r:Rc}(h:jl w W z a b c r):W.cell? ⟨z+1,0,O⟩=X (I J r.kind)/\W.cell? ⟨z+1,1,O⟩=X (I J r.vol)/\W.cell? ⟨z+1,2,O⟩=X (I J r.arg)/\W.cell? ⟨z+1,3,O⟩=X (I J r.fC):=
 ⟨aj _ _ 0 _ _ _ h.2.2.2.1,aj _ _ 1 _ _ _ h.2.2.2.1,aj _ _ 2 _ _ _ h.2.2.2.1,aj _ _ 3 _ _ _ h.2.2.2.1⟩
theorem jl.rf{w W:iW}{a b c:iX}{r:Rc}(h:jl w W z a b c r):W.cell? ⟨z+1+1,0,O⟩=X (Y O 0 0)/\W.cell? ⟨z+1+1,1,O⟩=X (Y O 0 0)/\W.cell? ⟨z+1+1,2,O⟩=X (I J 0)/\W.frozen? ⟨z+1+1,0,O⟩=iF/\W.frozen? ⟨z+1+1,1,O⟩=iF/\W.frozen? ⟨z+1+1,2,O⟩=iF:=
 ⟨aj _ _ 0 _ _ _ h.2.2.2.2,aj _ _ 1 _ _ _ h.2.2.2.2,aj _ _ 2 _ _ _ h.2.2.2.2,aF _ _ 0 _ _ h.2.2.2.2,aF _ _ 1 _ _ h.2.2.2.2,aF _ _ 2 _ _ h.2.2.2.2⟩
def uZ(w:iW)(p:Sto×Bool)(e:Ending)(w':iW):Prop:=∃u,e=G (iU #[u,iB p.2])/\fI w p.1 u w'/\mX u
variable{s:Sto}
theorem jl.fin{w W w':iW}{a b c u:iX}{r:Rc}{p:Sto×Bool}{ok:Bool}(h:jl w W z a b c r)(q:p=(s,ok))(l:fI W s u w')(o:mX u):∃d j f e k i,u=iA #[Y d j f,Y e k i,I J s.next]/\jl w w' z a b c r/\(((w'.setCell ⟨z+1+1,0,O⟩ (Y d j f)).setCell ⟨z+1+1,1,O⟩ (Y e k i)).setCell ⟨z+1+1,2,O⟩ (I J s.next)).heap[z+1+1]?=X (iC #[Y d j f,Y e k i,I J s.next] 32 (0,0))/\uZ w p (G (iU #[iA #[Y d j f,Y e k i,I J s.next],iB ok])) (((w'.setCell ⟨z+1+1,0,O⟩ (Y d j f)).setCell ⟨z+1+1,1,O⟩ (Y e k i)).setCell ⟨z+1+1,2,O⟩ (I J s.next)):=by
 obtain⟨d,j,f,e,k,i,rfl⟩:=l.form;have m:=h.on l.blw;refine⟨d,j,f,e,k,i,rfl,m,oS m.2.2.2.2,?_⟩;rw[q];have n:=h.lt;have h4:=h.1;exact⟨_,rfl,l.set3 (w0:=w) h.2.1 (g:=z+1+1) n (by omega),o⟩
theorem lz {p q:Tmp} (h:fn.results= #[.cell p 32,.tmp q]) (d:Array iX) (w:iW) (g:Nat) (a b c:iX)
 (j:d.getD p undef=iP (X ⟨g,0,O⟩)) (f:w.heap[g]?=X (iC #[a,b,c] 32 (0,0))):
 (results fn d).run Tryz.prog w=.ok (iU #[iA #[a,b,c],d.getD q undef]) w:=by
 have e:d[p]?.getD undef=iP (X ⟨g,0,O⟩):=by simpa using j
 have i:=lL (P:=Tryz.prog) w g 32 32 #[a,b,c] (0,0) _ f Tryz.underlying32 rfl uf;simp[results,h,e,asAddr,i]
theorem mF{v:iX}{w:iW}(h:dK w v s):iK Tryz.prog 53 #[v] w λe w'=>∃u,e=G u/\fI w s u w'/\mX u:=by
 obtain⟨i,j,vc,ad,f,cap,rs,rfl,a,d,k,b,c,h,g⟩:=h;have:=YM i j vc ad f cap s.next s.fV rs w d (by omega) b c h g
 rw[<-a]at this;exact this
theorem Gm{l:List (Int×Int)}{f:Int×Int->Bool}(h:l[k]?=X v):(l.take (k+1)).filter f=(l.take k).filter f++(if f v=iV then[v]else[]):=by
 rw[fm,h,jF];simp[List.filter_cons]
theorem EE(l:List (Int×Int))(a b:Int):ct l++[I J a,I J b]=ct (l++[(a,b)]):=by
 rw[Mw];rfl
theorem zT(W:iW)(a b:Int):∀(j:Nat) (u:iX),[I J a,I J b][j]?=X u->(W.alloc (iC #[I J a,I J b] 66)).cell? ((⟨W.heap.size,0,O⟩:Addr).add j)=X u:=by
 intro j u c;rw[fh,aj _ _ j _ _ _ (aB W (iC #[I J a,I J b] 66))]
 match j,c with
 |0,c|1,c=>simpa using c
theorem Ah(a b:Int):∀u∈ [I J a,I J b],u.oneCell'=iV:=by
 intro u c;simp at c;rcases c with h|h<;>subst h<;>rfl
end Go.Proofs.YtgigcooffjjbgaaGreatDoor
