/-
  DvM7; SBl17; FdC; FdR; ReadM; IRead; PgV; IPageOk; RAt; Sum; Seal; SpecSum; SpecSeal; Unseal; SUnseal; ImplRead; IReader; IRead1; IRead0; IRPage; RdPg; ICatch; ImplVar; SVar; SRd
-/
import Derived.Test.YtijmbohadndfmaaGreatDoorPk7
import Derived.Lib.LaidTab
import Derived.Lib.AppendIntMem
import Derived.Laws.BitsAllLaws
import Derived.Recover
import Derived.Tactics2
import Derived.Laws.Pointers
import Derived.Lib.Hide
open Go.Value renaming int→I,slice→Y,string→iT,bool→iB,agg→iA,tuple→iU
open Go.IntKind renaming i64→J
open Option renaming none→O,some→X
open Go.Ending renaming returned→G
open Go.Obj renaming cells→iC
open Bool renaming true→iV,false→iF
open Go renaming World→iW,Value→iX,Calls→iK
open Go.RowKit renaming Below→iL
set_option maxHeartbeats 800000
set_option maxRecDepth 100000
namespace Go.Proofs.YtijmbohadndfmaaGreatDoor
open Words Sums Pack
variable{α:Type}{b leaf:Int}{T:List UInt8 -> Prop}{n k j m:Nat}
variable{d:Dv}{L:List aM}
theorem QF(h:cQ T n d)(I:dY d (gZ d.fS) aK=(L,iV)):cQ T n (fF d L):=by
 have H:gZ d.fS≠ []:=by unfold gZ;simp
 obtain⟨cs,D,J,C,h1,E,-,h4,q,w,y,F,-,-,g⟩:=Ji h.up H I;have l:d.tx=fZ (aw d.fH):=congrArg Dv.tx h.up.is;have r:D=[]:=by
  rcases F with⟨-,e⟩|⟨e,-⟩
  ·exact e
  ·exact absurd rfl e
 subst r;have G:C.base=iV:=by
  unfold TxR.base;rw[y];rfl
 obtain⟨m,m1,m2,A,B⟩:=Ru h.st Ac;have a:(jk cs).fS=m:=by
  show eQ (cI (aw cs))=_;rw[g,G];simp only[cW];show(i8 gO C.fR).1=m;unfold i8;rw[y,m1]
 have t:∀c,bS (aw cs) c=bS (aw d.fH) c:=λc=>by
  rw[h4,eM,qu,Gj (λx b=>(q x b).1)]
  rfl
 have o:∀c,bG (aw cs) c=bG (aw d.fH) c:=λc=>by unfold bG;rw[t]
 have f:be m=be d.fS:=Xm A;rw[h1];have u:∀v∈m.fV,v.1<=3:=Ap h.vi (λp z=>by rw[A]at z;exact JR z)
 refine⟨⟨E,rfl⟩,by rw[a];exact m2,?_,?_,?_,?_,?_,?_,by rw[a];exact u⟩
 ·show jt (aw cs);rw[h4];exact Eg h.hd (λx b k=>by rw[w,l];exact Cv _ x b k) (λx b=>by cases b) (λx b=>by rw[w];exact q x b) (by rw[<-h4];exact g)
 ·intro c i;rw[a,f]at i;show∃x∈aw cs,_;rw[h4];exact DQ _ _ (h.lv c i)
 ·intro x b k;change x∈aw cs at b;rw[h4,eM]at b;rcases br.1 b with b|b
  ·exact h.tx x b k
  ·have:=(q x b).1;omega
 ·intro c i c' j s;rw[a,f]at i j;change bG (aw cs) c=bG (aw cs) c' at s;rw[o,o]at s;exact h.df c i c' j s
 ·intro x b k;change x∈aw cs at b;rw[a,B];rw[h4,eM]at b;rcases br.1 b with b|b
  ·exact h.dn x b k
  ·have:=(q x b).1;omega
 ·rw[a,B];exact h.nx
theorem JG(b:Int):∀{L:List TxR},(L.map (·.num)).Pairwise (·<·)->L=L.filter (λt=> !decide (b<=t.num))++L.filter (λt=>decide (b<=t.num))
 | [],_=>rfl
 |t::L,h=>by
  rw[cD,gK]at h;have c:=JG b h.2;rw[iH,iH];by_cases d:b<=t.num
  ·have a:L.filter (λt=> !decide (b<=t.num))=[]:=by
    rw[mt];intro u e;have:=h.1 u.num (ou e);simp;omega
   rw[a]at c;simp only[d,pC,Bool.not_true,hI,eT,cW,a,iN]at c⊢;rw[<-c]
  ·simp only[d,mK,Bool.not_false,cW,hI,eT,jf];rw[<-c]
variable{M:List aq}
theorem ME{t:TxR}{L:List TxR}(h:cI M=t::L):(dA (M.map aq.fP)).filter (λu=>decide (t.num<=u.num))=t::L:=by
 obtain⟨A,c⟩:=Ii (dA (M.map aq.fP));change dA (M.map aq.fP)=A++cI M at c;have b:=IH (M.map aq.fP);rw[c,h]at b⊢;rw[dB,cD,eW,gK]at b;rw[iD,mt.2 (λu a=>?_),iN,zR.2 (λu a=>?_)]
 ·rcases bf.1 a with rfl|a
  ·simp
  ·have:=b.2.1.1 u.num (ou a);simp;omega
 ·have:=b.2.2 u.num (ou a) t.num (by simp)
  simp;omega
theorem V7{p:aq->Bool}(f:jt M)(h:∀x∈M,p x=iF->x.fP.kind=2->x.fP.tx<lV (cI M)):cI (M.filter p)=cI M/\jt (M.filter p):=by
 have b:∀x∈M.filter p,x∈M:=λx c=>(dR.1 c).1
 cases g:cI M with
 |nil=>
  unfold jt at f;rw[g]at f;simp only at f;have k:dA ((M.filter p).map aq.fP)=[]:=by
   cases k:dA ((M.filter p).map aq.fP)with
   |nil=>rfl
   |cons u L=>
    obtain⟨q,l,i,-⟩:=yH (ps:=(M.filter p).map aq.fP) (t:=u) (by rw[k];simp)
    obtain⟨x,c,rfl⟩:=bF.1 l;exact absurd i (f x (b x c))
  have e:cI (M.filter p)=[]:=by unfold cI;rw[k];rfl
  refine⟨e,?_⟩;unfold jt;rw[e];exact λx c=>f x (b x c)
 |cons t L=>
  have m:lV (cI M)=t.num:=by rw[g];rfl
  rw[m]at h;have hcut:(dA ((M.filter p).map aq.fP)).filter (λu=>decide (t.num<=u.num))=t::L:=by
   rw[<-ME g];refine Vo t.num (λx c=>?_)
   rw[List.filter_map,List.filter_map,vh];congr 1;apply List.filter_congr;intro y hy;cases n:p y with
   |true=>simp
   |false=>
    simp only[uq,Function.comp_apply]
    symm
    cases hi:kF x y.fP with
    |false=>rfl
    |true=>
     simp only[kF,bW]at hi;have:=h y hy n hi.1;omega
  have d:=JG t.num (IH ((M.filter p).map aq.fP));rw[hcut]at d;have a:=f;unfold jt at a;rw[g]at a;simp only at a;have e:cI (M.filter p)=t::L:=by
   unfold cI;rw[d];refine Td ?_ ?_ (by simp)
   ·have:=M9 (dA (M.map aq.fP));change∀u∈(cI M).tail,u.base=iF at this;rw[g]at this;exact this
   ·intro u j;simp only[List.head?_cons,fu]at j;subst j;rcases a with a|a
    ·exact .inl a
    ·right;rw[mt];intro u j;obtain⟨q,l,i,o⟩:=yH j;obtain⟨x,c,rfl⟩:=bF.1 l;have:=a x (b x c) i;simp;omega
  refine⟨e,?_⟩;unfold jt;rw[e];rcases a with a|a
  ·exact .inl a
  ·exact .inr (λx c i=>a x (b x c) i)
theorem SJ{l:List α}{p:α->Bool}{x:α}(h:l.getLast?=X x)(a:p x=iV):(l.filter p).getLast?=X x:=by
 obtain⟨m,e⟩:=DF.1 h;rw[e,iD,nN a];simp
theorem We{c:Int}{x:aq}{p:aq->Bool}(h:bS M c=X x)(b:p x=iV):bS (M.filter p) c=X x:=by
 unfold bS at h⊢;rw[vh,show(λa=>dj c a&&p a)=(λa=>p a&&dj c a)from funext λa=>uF _ _,<-vh]
 exact SJ h b
variable{cs:List Bk}
theorem Ly {p:aq->Bool} (h:cQ T n d) (o:bn cs=iV) (hs:aw cs=(aw d.fH).filter p) (v:∀x∈aw d.fH,p x=iF->x.fP.kind=2->x.fP.tx<d.base)
 (u:∀c∈be d.fS,∀x,bS (aw d.fH) c=X x->p x=iV):cQ T n (jk cs)/\(jk cs).fS=d.fS:=by
 have g:d.base=lV (cI (aw d.fH)):=congrArg Dv.base h.up.is;have q:d.fS=eQ (cI (aw d.fH)):=congrArg Dv.fS h.up.is;obtain⟨r,s⟩:=V7 h.hd (p:=p) (by rw[<-g];exact v)
 rw[<-hs]at r s;have a:(jk cs).fS=d.fS:=by
  show eQ (cI (aw cs))=_;rw[r,<-q]
 have f:∀x∈aw cs,x∈aw d.fH:=λx e=>by rw[hs]at e;exact(dR.1 e).1
 have j:∀c∈be d.fS,bS (aw cs) c=bS (aw d.fH) c:=λc b=>by
  obtain⟨x,t,e,-,-⟩:=h.has b;rw[hs,e];exact We e (u c b x e)
 have k:∀c∈be d.fS,bG (aw cs) c=bG (aw d.fH) c:=λc b=>by unfold bG;rw[j c b]
 refine⟨⟨⟨o,rfl⟩,by rw[a];exact h.st,s,?_,λx e m=>h.tx x (f x e) m,?_,?_,(by rw[a];exact h.nx),by rw[a];exact h.vi⟩,a⟩
 ·intro c b;rw[a]at b;obtain⟨x,t,e,-,-⟩:=h.has b;have:=j c b;rw[e]at this;exact⟨x,(pP this).1,(pP this).2⟩
 ·intro c b c' i l;rw[a]at b i;change bG (aw cs) c=bG (aw cs) c' at l;rw[k c b,k c' i]at l;exact h.df c b c' i l
 ·intro x e m;rw[a];exact h.dn x (f x e) m
def pw(b:Bk):Bool:=b.2.2.all (λt=>t.1==0)
def oN(d:Dv):List Int:=(List.range d.fH.length).filterMap λ(b:Nat)=>match d.fH[b]? with
 |none=>O
 |some x=>if !x.1&& !pw x&&decide (nV (aw d.fH) (be d.fS) d.base (b:Int)=0)then X (b:Int)else O
theorem Ub(h:b∈oN d):∃(k:Nat) (x:Bk),b=k/\d.fH[k]?=X x/\x.1=iF/\nV (aw d.fH) (be d.fS) d.base b=0:=by
 obtain⟨k,-,e⟩:=uk.1 h;cases a:d.fH[k]? with
 |none=>rw[a]at e;cases e
 |some x=>
  rw[a]at e;simp only at e;split at e
  ·rename_i hc
   injection e with e
   simp only[bt,lC,bW]at hc;subst e;exact⟨k,x,rfl,a,hc.1.1,hc.2⟩
  ·cases e
theorem Ro(h:cQ T n d)(z:b∈oN d):cQ T n (fF d [(2,b,0,aK)]):=by
 obtain⟨k,x,rfl,e,v,l⟩:=Ub z;unfold fF;rw[JS];by_cases a:(cP d.fH (2,(k:Int),0,aK)).2=iV
 ·rw[aj a];have m:cP d.fH (2,(k:Int),0,aK)=gx d.fH (k:Int):=by unfold cP;simp
  rw[m]at a⊢;have B:gx d.fH (k:Int)=(d.fH.modify k (λr=>(iF,r.2.1+1,eK)),iV):=by
   unfold gx at a⊢;split at a
   ·rename_i f
    rw[aj f,aZ]
   ·cases a
  have s:x.2.1+1<=1000000000/\0<=x.2.1:=by
   have h1:=(vH ((yo h.up.ok).2 x (aH e))).2.1;unfold gx at a;split at a
   ·rename_i f
    rw[bt]at f;have o:=f.2;unfold qw at o;rw[aZ,e]at o;simp only[bW]at o;omega
   ·cases a
  rw[B];simp only;have g:bn (d.fH.modify k (λr=>(iF,r.2.1+1,eK)))=iV:=by
   refine GP h.up.ok (λq w=>?_)
   rw[e]at w;cases w;exact IU _ _ (by omega)
  unfold eV;rw[aj g];have p:=US e (vB h.up.ok x (aH e));refine(Ly h g p ?_ ?_).1
  ·intro y hy j A;simp only[Bool.not_eq_false',bW]at j;have i:rz (aw d.fH) (be d.fS) d.base y=iF:=by
    rw[GM _ _ _ (Fl _) (λx e=>Jg e)]at l
    have:=lF l;rw[mt]at this;have:=this y hy
    simpa[j]using this
   unfold rz at i;rw[aj A]at i;simp at i;exact i
  ·intro c f y hy;obtain⟨t,u⟩:=pP hy;obtain⟨D,C⟩:=ui u;simp only[lC,rU];intro j;rw[GM _ _ _ (Fl _) (λx e=>Jg e)]at l
   have:=lF l;rw[mt]at this;have:=this y t;unfold rz at this;rw[ai (by omega),C,hy]at this
   simp[j,JZ,f]at this
 ·rw[ai a];unfold eV;rw[aj h.up.ok];have:=h.up.is;simp only;rw[<-this];exact h
open Go.RowKit
theorem Vg(x:Bool)(y:Int)(v:iX)(ls:List (Int×ByteArray))(w:iW)(T:ls.length<=1048576)(A:iJ w v ls):
 iK Tryz.prog 139 #[iA #[iB x,I J y,v]] w λe w'=>e=G (iB (pw (x,y,ls)))/\iL w.heap.size w w':=by
 have B:=A;obtain⟨ad,a,rfl,-,-⟩:=B;have m:=af ((ax w.heap.size w).alloc (ak _) (iC #[iB x,I J y,Y ad ls.length a] 107));have q:=af (A.below m.o);have s:ah (pw (x,y,ls)=ls.all (λt=>t.1==0)):=rfl
 obtain⟨R,M⟩:=an (pw (x,y,ls));rw[M]at s⊢;clear A M;go_enter Tryz.func139,Tryz.ntmps139;go_wp2;have b:=am _ _ 2 _ _ _ (az w (iC #[iB x,I J y,Y ad ls.length a] 107));have d:ah ((w.alloc (iC #[iB x,I J y,Y ad ls.length a] 107)).cell? ⟨w.heap.size,2,O⟩=X (Y ad ls.length a)):=b;have f:=af (show(w.alloc (iC #[iB x,I J y,Y ad ls.length a] 107)).heap.size=w.heap.size+1 by simp)
 clear b;generalize w.alloc (iC #[iB x,I J y,Y ad ls.length a] 107)=K at m q d f⊢;go_loopw [3] (λH wr=>∃k:Nat,k<=ls.length/\H=I J k/\ah (∀(j:Nat) (u:Int×ByteArray),j<k->ls[j]?=X u->u.1=0)/\ah (iL K.heap.size K wr)) (λH _=>ls.length-(intOf H).toNat)
 case atStart=>exact⟨0,aI _,rfl,(show∀(j:Nat) (u:Int×ByteArray),j<0->ls[j]?=X u->u.1=0 from λj u p=>by omega),ax _ _⟩
 case round=>
  obtain⟨k,S,rfl,L,n⟩:=hrel;have b:wr.cell? ⟨w.heap.size,2,O⟩=X (Y ad ls.length a):=(n.o.cell (show w.heap.size<K.heap.size by have:=f.o;omega)).trans d.o
  have c:=af (m.o.trans (n.o.mono m.o.size));by_cases Q:(k:Int)<ls.length
  ·obtain⟨g,lo,P⟩:=q.o.head (by omega)
   subst P;have D:k<ls.length:=by omega
   obtain⟨z,t,E⟩:∃z t,ls[k]?=X (z,t):=⟨ls[k].1,ls[k].2,ay D⟩;obtain⟨c1,-⟩:=(q.o.below n.o).two E;simp only at c1;have h:=af E;have U:(0:Int)<=k:=by omega
   clear E;by_cases l:z=0
   ·have F:(z !=0)=iF:=by simp[l]
    have N:=af l;clear l;go_wp2;go_roundw
    case rel=>
     refine⟨k+1,by omega,by go_num,af (λj u p i=>?_),n⟩
     by_cases C:j=k
     ·subst C;rw[h.o]at i;cases i;exact N.o
     ·exact L.o j u (by omega) i
    case measure=>simp[intOf];omega
   ·have F:(z !=0)=iV:=by simpa using l
    have r:ah (R=iF):=by
     show _=_;rw[s.o,sj];exact⟨_,aH h.o,by simpa using l⟩
    go_wp2;go_ret;exact⟨by rw[r.o];rfl,c.o⟩
  ·have r:ah (R=iV):=by
    show _=_;rw[s.o,gy];intro u i;obtain⟨j,p⟩:=ml i;have:=L.o j u (by have:=(aD.1 p).1;omega) p
    simp[this]
   go_wp2;go_ret;exact⟨by rw[r.o];rfl,c.o⟩
def vx(x:aq):iX:=iA #[I J x.block,I J x.leaf,I J x.fP.kind,I J x.fP.seq,I J x.fP.tx,I J x.fP.part,I J x.fP.count,iT x.fP.text]
def lG(x:aq):List iX:=[I J x.block,I J x.leaf,I J x.fP.kind,I J x.fP.seq,I J x.fP.tx,I J x.fP.part,I J x.fP.count,iT x.fP.text]
theorem MU:(Tryz.prog.info? 114).map (λi=>(i.zero,i.size,i.bytes))=X (X (iA #[I J 0,I J 0,I J 0,I J 0,I J 0,I J 0,I J 0,iT ⟨#[]⟩]),8,72):=by kernel_rfl
def ng(l:List aq):List iX:=l.flatMap lG
theorem LI(l:List aq)(x:aq):ng l++lG x=ng (l++[x]):=by simp[ng]
theorem Ve(x:aq):∀u∈lG x,u.oneCell'=iV:=by
 intro u a;simp[lG]at a;rcases a with h|h|h|h|h|h|h|h<;>subst h<;>rfl
theorem QQ:∀(l:List aq) (i:Nat) (x:aq),l[i]?=X x->∀j v,(lG x)[j]?=X v->(ng l)[i*8+j]?=X v:=by
 intro l
 induction l with
 |nil=>intro i x h;simp at h
 |cons y l b=>
  intro i x h j v a;have c:j<8:=(aD.1 a).1;have e:ng (y::l)=lG y++ng l:=by simp[ng]
  rw[e];cases i with
  |zero=>
   simp at h;subst h;rw[lz (by show 0*8+j<8;omega)]
   simpa using a
  |succ i=>
   rw[qY]at h;rw[dz (by show 8<=(i+1)*8+j;omega)]
   have:(i+1)*8+j-(lG y).length=i*8+j:=by show(i+1)*8+j-8=_;omega
   rw[this];exact b i x h j v a
def jc(w:iW)(a:Option Addr)(c:Nat)(ls:List aq):Prop:=
 ls.length=c/\c<=maxLen/\(0<c->∃b d,a=X ⟨b,d,O⟩/\b<w.heap.size/\∀i t,ls[i]?=X t->∀j v,(lG t)[j]?=X v->w.cell? ⟨b,d+(i*8+j),O⟩=X v)
theorem jc.below{w w':iW}{a:Option Addr}{c:Nat}{ls:List aq}(h:jc w a c ls)(f:iL w.heap.size w w'):jc w' a c ls:=by
 obtain⟨h1,g,h4⟩:=h;refine⟨h1,g,λh0=>?_⟩
 obtain⟨b,d,e,l,k⟩:=h4 h0;have hs:=f.size;exact⟨b,d,e,by omega,λi t m j v n=>(f.cell (show b<w.heap.size from l)).trans (k i t m j v n)⟩
theorem jc.at{w:iW}{a:Option Addr}{f:Nat}{ls:List aq}(h:jc w a f ls){t:aq}(g:ls[k]?=X t):
 ∃b c,a=X ⟨b,c,O⟩/\b<w.heap.size/\w.cell? ⟨b,c+k*8,O⟩=X (I J t.block)/\w.cell? ⟨b,c+k*8+1,O⟩=X (I J t.leaf)/\
  w.cell? ⟨b,c+k*8+2,O⟩=X (I J t.fP.kind)/\w.cell? ⟨b,c+k*8+2+1,O⟩=X (I J t.fP.seq)/\w.cell? ⟨b,c+k*8+2+2,O⟩=X (I J t.fP.tx)/\
  w.cell? ⟨b,c+k*8+2+3,O⟩=X (I J t.fP.part)/\w.cell? ⟨b,c+k*8+2+4,O⟩=X (I J t.fP.count)/\w.cell? ⟨b,c+k*8+2+5,O⟩=X (iT t.fP.text):=by
 obtain⟨h1,-,h4⟩:=h;have j:=(aD.1 g).1;obtain⟨b,c,e,i,d⟩:=h4 (by omega)
 have d:=d k t g;refine⟨b,c,e,i,d 0 _ rfl,?_,?_,?_,?_,?_,?_,?_⟩
 ·have:=d 1 _ rfl;rwa [<-kH]at this
 ·have:=d 2 _ rfl;rwa [<-kH]at this
 ·have:=d 3 _ rfl;rwa [<-kH]at this
 ·have:=d 4 _ rfl;rwa [<-kH]at this
 ·have:=d 5 _ rfl;rwa [<-kH]at this
 ·have:=d 6 _ rfl;rwa [<-kH]at this
 ·have:=d 7 _ rfl;rwa [<-kH]at this
variable{bs:List Bk}
theorem Lv(h:¬(0<=b/\b<=(bs.length:Int)-1)):eh bs b leaf=(⟨#[]⟩,iF):=by
 unfold eh;cases a:bs[b.toNat]? with
 |none=>rfl
 |some r=>
  have:=(aD.1 a).1;simp only;cases d:r.2.2[leaf.toNat]? with
  |none=>rfl
  |some t=>exact ai (λc=>h ⟨c.1,by omega⟩)
theorem MP{r:Bk}(c:bs[k]?=X r)(h:¬(0<=leaf/\leaf<=(r.2.2.length:Int)-1)):eh bs (k:Int) leaf=(⟨#[]⟩,iF):=by
 unfold eh;rw[aZ,c];simp only;cases b:r.2.2[leaf.toNat]? with
 |none=>rfl
 |some t=>
  have:=(aD.1 b).1;exact ai (λa=>h ⟨a.2.1,by omega⟩)
theorem NW{r:Bk}{t:Int×ByteArray}(b:bs[k]?=X r)(c:r.2.2[j]?=X t):(t.1=1->eh bs (k:Int) (j:Int)=(t.2,iV))/\(t.1≠1->eh bs (k:Int) (j:Int)=(⟨#[]⟩,iF)):=by
 unfold eh;rw[aZ,b];simp only;rw[aZ,c];exact⟨λh=>aj ⟨by omega,by omega,h⟩,λh=>ai (λa=>h a.2.2)⟩
def i7(p:Pg):iX:=iA #[I J p.kind,I J p.seq,I J p.tx,I J p.part,I J p.count,iT p.text]
theorem Zc(x:Nat)(b:x<4294967296)(w:iW)(j:Nat)(a:j<(gJ x).length):
 (w.alloc (iC #[I .u8 ((x:Int)/16777216),I .u8 ((x:Int)/65536 % 256),I .u8 ((x:Int)/256 % 256),I .u8 ((x:Int) % 256)] 5)).cell? ((⟨w.heap.size,0,O⟩:Addr).add j)=X (I .u8 ((gJ x)[j].toNat:Int)):=by
 rw[Ax]at a
 match j,a with
 |0,_=>simp[Addr.add,gJ];omega
 |1,_=>simp[Addr.add,gJ]
 |2,_=>simp[Addr.add,gJ]
 |3,_=>simp[Addr.add,gJ]
def vL:Nat->Nat->Nat
 |0,x=>x
 |k+1,x=>kx (vL k x)
theorem Nj(m:Nat)(a:m<4294967296)(h:((m:Int) % 2==1)=iV):bits .xor .u32 ((m:Int)/2) 3558460437=(kx m:Nat):=by
 have h1:m % 2=1:=by rw[ky]at h;omega
 have hy:=u32_xor ((m:Int)/2) 3558460437 (by omega) (by omega) (by omega) (by omega)
 rw[hy,kx,aj h1,show((m:Int)/2).toNat=m/2 by omega]
 rfl
theorem Sy(m:Nat)(h:((m:Int) % 2==1)=iF):kx m=m/2:=by
 have h1:¬m % 2=1:=by rw[dZ]at h;omega
 rw[kx,ai h1,Nat.xor_zero]
theorem MY(s:Nat)(t:ByteArray)(k c m:Nat)(h:k<t.size)(b:t[k].toNat=c)(e:m=lK s (t.data.toList.take k)):h4 (h4 (m^^^c))=lK s (t.data.toList.take (k+1)):=by
 have d:k<t.data.toList.length:=by simpa using h
 have a:t.data.toList[k].toNat=c:=by rw[<-b];rfl
 rw[UJ _ _ _ d,<-e,xx,a]
theorem Oc(t:ByteArray):t.data.toList.take t.size=t.data.toList:=by
 apply cm;simp
theorem XD(s:Nat)(t:ByteArray)(w:iW)(hs:s<4294967296)(v:t.size<=maxLen):
 iK Tryz.prog 147 #[I .u32 s,iT t] w λe w'=>e=G (I .u32 (lK s t.data.toList:Nat))/\w'=w:=by
 unfold maxLen at v;go_enter Tryz.func147,Tryz.ntmps147;go_wp2;go_loopw [0,5] (λl d wr=>∃k m:Nat,k<=t.size/\d=I J k/\l=I .u32 m/\m<4294967296/\ah (m=lK s (t.data.toList.take k))/\wr=w) (λ_ d _=>t.size-(intOf d).toNat)
 case atStart=>exact⟨0,s,aI _,rfl,rfl,hs,rfl,rfl⟩
 case round=>
  obtain⟨k,m,D,rfl,rfl,z,hrel,rfl⟩:=hrel;by_cases y:(k:Int)<t.size
  ·obtain⟨c,a⟩:=an (t[k].toNat:Nat);have r:c<256:=by rw[<-a];exact Ay _
   have F:=af (MY s t k c m (by omega) a hrel.o)
   have b:=EB m c z (by omega)
   have q:=wg _ (wg _ b);have hy:=u32_xor (m:Int) (c:Int) (by omega) (by omega) (by omega) (by omega)
   rw[aZ,aZ]at hy;generalize m^^^c=x at F q b hy;clear hrel;go_wp2;clear hy a;go_loopw [0,6] (λl d B=>∃j n:Nat,j<=8/\d=I J j/\l=I .u32 n/\n<4294967296/\ah (n=vL j x)/\B=wr) (λ_ d _=>8-(intOf d).toNat)
   case atStart=>exact⟨0,x,by omega,rfl,rfl,b,rfl,rfl⟩
   case round=>
    obtain⟨j,n,C,rfl,rfl,i,hrel,rfl⟩:=hrel;by_cases u:(j:Int)<8
    ·have h:=tC n i;have f:ah (kx n=vL (j+1) x):=by show kx n=kx (vL j x);rw[<-hrel.o]
     clear hrel;cases p:((n:Int) % 2==1)
     ·have g:=Sy n p;rw[g]at f h;clear g;go_wp2;go_roundw
      case rel=>exact⟨j+1,n/2,by omega,by go_num,by go_num,h,f,trivial⟩
      case measure=>simp[intOf];omega
     ·have g:=Nj n i p;generalize kx n=A at g f h;go_wp2;go_roundw
      case rel=>exact⟨j+1,A,by omega,by go_num,rfl,h,f,trivial⟩
      case measure=>simp[intOf];omega
    ·have e:j=8:=by omega
     subst e;have f:ah (n=lK s (t.data.toList.take (k+1))):=hrel.o.trans F.o;clear hrel F;go_wp2;go_roundw
     case rel=>exact⟨k+1,n,by omega,by go_num,rfl,i,f,trivial⟩
     case measure=>simp[intOf];omega
  ·have e:k=t.size:=by omega
   subst e;have F:=af (hrel.o.trans (by rw[Oc]))
   clear hrel;go_wp2;go_ret;exact⟨by rw[F.o];rfl,rfl⟩
theorem yR(t:ByteArray)(w:iW)(a:t.size<=maxLen):
 iK Tryz.prog 118 #[iT t] w λe w'=>e=G (I .u32 (m8 t.data.toList:Nat))/\w'=w:=by
 go_enter Tryz.func118,Tryz.ntmps118;go_wp2_with fail;refine(XD 4294967295 t _ (by omega) a).mono ?_
 rintro e b ⟨rfl,rfl⟩;go_wp2;go_ret;exact⟨rfl,rfl⟩
theorem Cd(x:Nat)(w:iW)(b:x<4294967296):
 iK Tryz.prog 117 #[I .u32 x] w λe w'=>e=G (iT ⟨(gJ x).toArray⟩)/\iL w.heap.size w w':=by
 have a:=sx (P:=Tryz.prog) _ 22 9 5 ⟨w.heap.size,0,O⟩ 4 (gJ x) Tryz.underlying22 Tryz.underlying5 Tryz.underlying9 (Zc x b w);rw[Ax]at a;generalize(ByteArray.mk (gJ x).toArray)=r at a;go_enter Tryz.func117,Tryz.ntmps117;go_wp2;go_ret;exact⟨rfl,aY⟩
theorem toList_inj(a b:ByteArray)(h:a.toList=b.toList):a=b:=by
 rw[zt,zt]at h;exact lP (qO.1 h)
theorem Wt(t:ByteArray)(w:iW)(b:(t.size:Int)<4):
 iK Tryz.prog 80 #[iT t] w λe w'=>e=G (iU #[iT ⟨#[]⟩,iB iF])/\iL w.heap.size w w':=by
 have a:decide ((t.size:Int)-4<0)=iV:=by simp;omega
 go_enter Tryz.func80,Tryz.ntmps80;go_wp2;go_quiet (fail);go_wp2;go_ret2;exact⟨rfl,bI (ax _ _) _⟩
theorem Mq(t:ByteArray)(w:iW)(d:(20004:Int)<t.size)(b:t.size<=maxLen):
 iK Tryz.prog 80 #[iT t] w λe w'=>e=G (iU #[iT ⟨#[]⟩,iB iF])/\iL w.heap.size w w':=by
 unfold maxLen at b;have c:decide ((t.size:Int)-4<0)=iF:=by simp;omega
 have a:decide ((20000:Int)<(t.size:Int)-4)=iV:=by simp;omega
 go_enter Tryz.func80,Tryz.ntmps80;go_wp2;go_quiet (fail);go_wp2;go_ret2;exact⟨rfl,bI (ax _ _) _⟩
def qx(t:ByteArray):ByteArray:=t.extract (t.size-4) t.size
theorem HH(t:ByteArray):dJ (ip t)=t↔qx t=⟨(gJ (m8 (ip t).data.toList)).toArray⟩:=by
 have h1:ip t++qx t=t:=by
  apply lP;simp[ip,qx]
 constructor
 ·intro h;have a:ip t++qx t=dJ (ip t):=h1.trans h.symm;unfold dJ at a;have:=congrArg (λz:ByteArray=>z.data.toList) a
  simp only[rV,BT,List.append_cancel_left_eq]at this;exact lP (qO.1 this)
 ·intro h;unfold dJ;rw[<-h,h1]
theorem GT(t:ByteArray)(a:4<=t.size)(W:iW):(Instr.slice 9 (iT t) O (X (I J ((t.size:Int)-4))) O).run Tryz.prog W=.ok (iT (ip t)) W:=by
 rw[run_slice_string_h W 9 t Tryz.underlying9 J _ (by omega) (by omega)]
 have:((t.size:Int)-4).toNat=t.size-4:=by omega
 rw[this];rfl
theorem Ej(t:ByteArray)(a:4<=t.size)(W:iW):(Instr.slice 9 (iT t) (X (I J ((t.size:Int)-4))) O O).run Tryz.prog W=.ok (iT (qx t)) W:=by
 rw[run_slice_string_l W 9 t Tryz.underlying9 J _ (by omega) (by omega)]
 have:((t.size:Int)-4).toNat=t.size-4:=by omega
 rw[this];rfl
theorem Q9 (t b c:ByteArray) (w:iW) (p:4<=(t.size:Int)) (k:(t.size:Int)<=20004)
 (q:∀W,(Instr.slice 9 (iT t) O (X (I J ((t.size:Int)-4))) O).run Tryz.prog W=.ok (iT b) W)
 (r:∀W,(Instr.slice 9 (iT t) (X (I J ((t.size:Int)-4))) O O).run Tryz.prog W=.ok (iT c) W)
 (i:b.size=t.size-4) (l:(c.toList==gJ (m8 b.data.toList))=iV):
 iK Tryz.prog 80 #[iT t] w λe w'=>e=G (iU #[iT b,iB iV])/\iL w.heap.size w w':=by
 have h:=yM b.data.toList;have n:decide ((t.size:Int)-4<0)=iF:=by simp;omega
 have j:decide ((20000:Int)<(t.size:Int)-4)=iF:=by simp;omega
 obtain⟨x,a⟩:∃x,x=m8 b.data.toList:=⟨_,rfl⟩;rw[<-a]at l h;have f:=af a;clear a;go_enter Tryz.func80,Tryz.ntmps80;go_wp2;go_region_held3 (λ_=>True) (trivial) (first
  |(go_at_call 118;refine(yR b _ (by unfold maxLen;omega)).mono ?_;rintro e m ⟨rfl,rfl⟩;rw[<-f.o])
  |(go_at_call 117;refine(Cd x _ h).mono ?_;rintro e m ⟨rfl,g⟩))
 all_goals
  have d:=(ax w.heap.size w).drew.trans g;clear f g;go_wp2;go_ret2;exact⟨rfl,d⟩
theorem YD (t b c:ByteArray) (w:iW) (p:4<=(t.size:Int)) (k:(t.size:Int)<=20004)
 (q:∀W,(Instr.slice 9 (iT t) O (X (I J ((t.size:Int)-4))) O).run Tryz.prog W=.ok (iT b) W)
 (r:∀W,(Instr.slice 9 (iT t) (X (I J ((t.size:Int)-4))) O O).run Tryz.prog W=.ok (iT c) W)
 (i:b.size=t.size-4) (l:(c.toList==gJ (m8 b.data.toList))=iF):
 iK Tryz.prog 80 #[iT t] w λe w'=>e=G (iU #[iT ⟨#[]⟩,iB iF])/\iL w.heap.size w w':=by
 have h:=yM b.data.toList;have n:decide ((t.size:Int)-4<0)=iF:=by simp;omega
 have j:decide ((20000:Int)<(t.size:Int)-4)=iF:=by simp;omega
 obtain⟨x,a⟩:∃x,x=m8 b.data.toList:=⟨_,rfl⟩;rw[<-a]at l h;have f:=af a;clear a;go_enter Tryz.func80,Tryz.ntmps80;go_wp2;go_region_held3 (λ_=>True) (trivial) (first
  |(go_at_call 118;refine(yR b _ (by unfold maxLen;omega)).mono ?_;rintro e m ⟨rfl,rfl⟩;rw[<-f.o])
  |(go_at_call 117;refine(Cd x _ h).mono ?_;rintro e m ⟨rfl,g⟩))
 all_goals
  have d:=(ax w.heap.size w).drew.trans g;clear f g;go_wp2;go_ret2;exact⟨rfl,d⟩
theorem F8(c:ByteArray)(l:List UInt8):(c=⟨l.toArray⟩->(c.toList==l)=iV)/\(c≠⟨l.toArray⟩->(c.toList==l)=iF):=by
 constructor
 ·intro h;subst h;simp
 ·intro h;rw[dZ];intro e;apply h;apply toList_inj;simp[e]
def Jp:Option ByteArray->iX
 |some s=>iU #[iT s,iB iV]
 |none=>iU #[iT ⟨#[]⟩,iB iF]
theorem Yx(t:ByteArray)(c:t.size<=maxLen)(w:iW):
 iK Tryz.prog 80 #[iT t] w λe w'=>e=G (Jp (lD t))/\iL w.heap.size w w':=by
 by_cases h1:(t.size:Int)<4
 ·rw[zn (by omega)]
  exact Wt t w h1
 ·by_cases b:(20004:Int)<t.size
  ·rw[zn (by omega)]
   exact Mq t w b c
  ·by_cases a:dJ (ip t)=t
   ·rw[L7 (by omega) (by omega) a]
    exact Q9 t (ip t) (qx t) w (by omega) (by omega) (GT t (by omega)) (Ej t (by omega)) (Cm t) ((F8 _ _).1 ((HH t).1 a))
   ·rw[zn (λh=>a h.2.2)]
    exact YD t (ip t) (qx t) w (by omega) (by omega) (GT t (by omega)) (Ej t (by omega)) (Cm t) ((F8 _ _).2 λh=>a ((HH t).2 h))
def sL:Option (Nat×Nat)->iX
 |some (n,j)=>iU #[I J n,I J j,iB iV]
 |none=>iU #[I J 0,I J 0,iB iF]
def xh:Option Pg->iX
 |some p=>iU #[i7 p,iB iV]
 |none=>iU #[i7 ⟨0,0,0,0,0,⟨#[]⟩⟩,iB iF]
theorem OY(o:Option Pg):∃(p:Pg) (b:Bool),xh o=iU #[i7 p,iB b]:=by
 cases o with
 |none=>exact⟨_,_,rfl⟩
 |some p=>exact⟨_,_,rfl⟩
theorem Pq{acc:List UInt8}(h:acc++bL m=bL n)(a:n<9223372036854775808):acc.length<=9:=by
 have h1:=congrArg List.length h;have b:=pQ n a;simp at h1;omega
theorem Ls{acc:List UInt8}(h:acc++bL m=bL n)(a:128<=m):(acc++[UInt8.ofNat (m % 128+128)])++bL (m/128)=bL n:=by
 rw[<-h,vt m a];simp
theorem Vi(m:Nat):((UInt8.ofNat (m % 128+128)).toNat:Int)=(m:Int) % 128+128:=by
 simp;omega
theorem UQ(m:Nat)(h:m<128):((UInt8.ofNat m).toNat:Int)=(m:Int):=by
 simp;omega
theorem qE(n:Nat)(w:iW)(x:n<9223372036854775808):
 iK Tryz.prog 123 #[I J n] w λe w'=>e=G (iT ⟨(bL n).toArray⟩)/\iL w.heap.size w w':=by
 obtain⟨y,hi,p,q,r⟩:=bK zB;have k:=pQ n x;go_enter Tryz.func123,Tryz.ntmps123;go_wp2;go_loopw [0,3] (λt u wr=>∃(m:Nat) (acc:List UInt8),t=I J m/\m<=n/\ah (acc++bL m=bL n)/\wr.ownsRow w.heap.size 5 1 u acc.length (eO acc)/\iL w.heap.size w wr) (λt _ _=>(intOf t).toNat)
 case atStart=>exact⟨n,[],rfl,ak _,rfl,nE w #[] 0 (ak _) (by unfold maxLen;omega) (by simp),aY⟩
 case round=>
  obtain⟨m,acc,rfl,M,d,c,f⟩:=hrel;have K:=f.size;have C:=Pq d x;by_cases H:127<(m:Int)
  ·go_wp2_with (at_builtin;refine cN _ rfl _ _ 22 rfl w.heap.size 5 y (I .u8 0) 1 1 Tryz.underlying22 hi p q r rfl (by decide) _ _ _ rfl (c.alloc _) ⟨wr.heap.size,0,O⟩ 1 1 [I .u8 _] rfl rfl (nw _ _ _) (Ai _) ?c1 ?c2 ?c3 ?_)
   case c1=>unfold maxLen;omega
   case c2=>omega
   case c3=>first|omega|(simp;omega)
   intro L z a b _;have i:=AX f (by omega) c b
   rw[zm acc _ _ (Vi m)]at a;have h:=Ls d (by omega)
   clear c b d;go_wp2;go_roundw
   case rel=>exact⟨m/128,_,by go_num,by omega,h,by simpa using a,i⟩
   case measure=>simp[intOf];omega
  ·go_wp2_with (at_builtin;refine cN _ rfl _ _ 22 rfl w.heap.size 5 y (I .u8 0) 1 1 Tryz.underlying22 hi p q r rfl (by decide) _ _ _ rfl (c.alloc _) ⟨wr.heap.size,0,O⟩ 1 1 [I .u8 _] rfl rfl (nw _ _ _) (Ai _) ?c1 ?c2 ?c3 ?_)
   case c1=>unfold maxLen;omega
   case c2=>omega
   case c3=>first|omega|(simp;omega)
   intro L z a b _;have i:=AX f (by omega) c b
   rw[zm acc _ _ (UQ m (by omega))]at a
   have e:acc++[UInt8.ofNat m]=bL n:=by rw[<-d.o,qr m (by omega)]
   have v:acc.length+1=(acc++[UInt8.ofNat m]).length:=by simp
   rw[v,e]at a;have E:=Ft e;clear c b d e v;obtain⟨l,s⟩:∃l,l=bL n:=⟨_,rfl⟩;rw[<-s]at a k;have A:=Ft s;clear s E;rcases a.2 with⟨-,h0⟩|⟨g,cap,B,rfl,-,-,-,-,-,-⟩
   ·omega
   ·have D:=sx (P:=Tryz.prog) z 22 9 5 ⟨g,0,O⟩ cap l Tryz.underlying22 Tryz.underlying5 Tryz.underlying9 (λj F=>a.cells (g:=g) rfl j _ (yC l j F))
    go_wp2;go_ret;exact⟨by rw[A.o];rfl,i⟩
theorem Gh(x:Int)(w:iW)(h0:0<=x)(h1:x<=1000000000):
 iK Tryz.prog 123 #[I J x] w λe w'=>e=G (iT ⟨(bL x.toNat).toArray⟩)/\iL w.heap.size w w':=by
 obtain⟨n,rfl⟩:=Ah h0
 simpa using qE n w (by omega)
theorem Oa(s:ByteArray)(q:Nat)(w:iW)(hs:s.size<=1048576)(K:q<=s.size):
 iK Tryz.prog 119 #[iT s,I J q] w λe w'=>e=G (sL (cF s.data.toList q))/\iL w.heap.size w w':=by
 have g:decide ((0:Int)<=q/\(q:Int)<=s.size)=iV:=by simp;omega
 go_enter Tryz.func119,Tryz.ntmps119;go_wp2_with fail;refine(gT _ _ _ _).mono ?_;rintro e w' ⟨rfl,rfl⟩;rw[g];go_wp2;go_loop [7,8,9] (λN P y=>∃k n u:Nat,N=I J n/\P=I J u/\y=I J (q+k:Nat)/\ah (St s.data.toList q k n u)) (λ_ _ y=>s.size-(intOf y).toNat)
 case atStart=>exact⟨0,0,1,rfl,rfl,rfl,St.zero (by simpa using K)⟩
 case round=>
  obtain⟨k,n,u,rfl,rfl,rfl,a⟩:=hrel;obtain⟨R,S,B,z,A⟩:=a.o.bounds;by_cases d:q+k<s.size/\k<5
  ·obtain⟨h1,f⟩:=d;have C:=z f;have c1:((q+k:Nat):Int)<s.size:=by omega
   have c2:((q+k:Nat):Int)<(q:Int)+5:=by omega
   clear B z A;obtain⟨c,i⟩:=an (s[q+k].toNat:Nat);have D:c<256:=by rw[<-i];exact Ay _
   have U:=Us c u C;have V:=Zn c u;have H:ah (At s.data.toList (q+k) c):=⟨by simpa using h1,by rw[<-i];rfl⟩
   by_cases T:(c:Int)<128
   ·by_cases p:(n:Int)+(c:Int) % 128*u<=1000000000
    ·have b:n+c % 128*u<=1000000000:=by rw[<-t8]at p;omega
     have E:decide ((1000000000:Int)<(n:Int)+(c:Int) % 128*u)=iF:=by simpa using p
     obtain⟨t,v⟩:∃t,t=s.extract q (q+k+1):=⟨_,rfl⟩;have L:∀W,(Instr.slice 9 (iT s) (X (I J (q:Int))) (X (I J ((q:Int)+k+1))) O).run Tryz.prog W=.ok (iT t) W:=by
      intro W;rw[Dg W 9 s J J q ((q:Int)+k+1) Tryz.underlying9,aj (by omega),aj (by omega),v]
      rfl
     have l:t.toList=(s.data.toList.drop q).take (k+1):=by
      rw[v,pj,DM];congr 1;omega
     have x:((n:Int)+(c:Int) % 128*u).toNat=n+c % 128*u:=by rw[<-t8];exact aZ _
     have m:=a.o.var' H.o (show c<128 by omega)
     rw[<-l,<-x]at m;have M:IntKind.i64.wrap ((q:Int)+k+1)=(q:Int)+k+1:=by
      rw[cL];omega
     clear v l;by_cases h0:c=0/\k≠0
     ·have F:ah (cF s.data.toList q=O):=a.o.no' f H.o (by omega) (.inr h0)
      have j:(bL ((n:Int)+(c:Int) % 128*u).toNat==t.toList)=iF:=by
       rw[dZ];intro h;exact m.1 h h0
      clear x m h0 b;go_wp2;go_region_held3 (λ_=>True) (trivial) ((go_at_call 123;refine(Gh _ _ (by omega) (by omega)).mono ?_;rintro e Q ⟨rfl,r⟩))
      go_wp2;go_ret3;exact⟨by rw[F.o];rfl,(ax _ _).drew.trans r⟩
     ·have F:ah (cF s.data.toList q=X (n+c % 128*u,q+k+1)):=a.o.yes' f H.o (by omega) b h0
      have j:(bL ((n:Int)+(c:Int) % 128*u).toNat==t.toList)=iV:=by
       rw[ky];exact m.2 h0
      clear x m h0 b;go_wp2;go_region_held3 (λ_=>True) (trivial) ((go_at_call 123;refine(Gh _ _ (by omega) (by omega)).mono ?_;rintro e Q ⟨rfl,r⟩))
      go_wp2;go_ret3;exact⟨by rw[F.o,sL,t8];rfl,(ax _ _).drew.trans r⟩
    ·have b:1000000000<n+c % 128*u:=by rw[<-t8]at p;omega
     have F:ah (cF s.data.toList q=O):=a.o.no' f H.o (by omega) (.inl b)
     clear b;have E:decide ((1000000000:Int)<(n:Int)+(c:Int) % 128*u)=iV:=by simpa using p
     go_wp2;go_quiet (fail);go_wp2;go_ret3;exact⟨by rw[F.o];rfl,bI (ax _ _) _⟩
   ·go_wp2;go_round
    case rel=>exact⟨k+1,n+c % 128*u,u*128,by rw[t8],by go_num,by go_num,a.o.step' f H.o (by omega)⟩
    case measure=>simp[intOf];omega
  ·have F:ah (cF s.data.toList q=O):=a.o.stop (by simpa using d)
   by_cases h1:q+k<s.size
   ·have c1:((q+k:Nat):Int)<s.size:=by omega
    have c2:¬((q+k:Nat):Int)<(q:Int)+5:=by have:=a.o.1;omega
    clear d A;go_wp2;go_ret3;exact⟨by rw[F.o];rfl,ax _ _⟩
   ·have c1:¬((q+k:Nat):Int)<s.size:=by omega
    clear d;go_wp2;go_ret3;exact⟨by rw[F.o];rfl,ax _ _⟩
theorem YW(s:ByteArray)(q:Int)(w:iW)(a:q<0∨s.size<q):
 iK Tryz.prog 119 #[iT s,I J q] w λe w'=>e=G (sL O)/\w'=w:=by
 have g:decide ((0:Int)<=q/\(q:Int)<=s.size)=iF:=by simp only[rU];omega
 go_enter Tryz.func119,Tryz.ntmps119;go_wp2_with fail;refine(gT _ _ _ _).mono ?_;rintro e w' ⟨rfl,rfl⟩;rw[g];go_wp2;go_ret3;exact⟨rfl,rfl⟩
end Go.Proofs.YtijmbohadndfmaaGreatDoor
