/-
  SRecOk; SRecText; CePg; SReadRecs; TxRow; STxP
-/
import Derived.Test.YtgigcooffjjbgaaGreatDoorPk11
open Go.Value renaming int→I,slice→Y,string→iT,bool→iB,agg→iA,tuple→iU
open Go.IntKind renaming i64→J
open Option renaming none→O,some→X
open Go.Ending renaming returned→G
open Go.Obj renaming cells→iC
open Bool renaming true→iV,false→iF
open Go renaming World→iW,Value→iX,Calls→iK
open Go.RowKit renaming Below→iL
set_option maxHeartbeats 2000000
set_option maxRecDepth 100000
namespace Go.Proofs.YtgigcooffjjbgaaGreatDoor
open Go.RowKit Words
def rH(r:Rc):iX:=iA #[I J r.kind,I J r.vol,I J r.arg,I J r.fC]
theorem FX(k v a c:Int):(Rc.mk k v a c).Right↔(0<=a/\a<=1000000000)/\(k=1/\v=0/\c=0∨(1<=v/\v<=9)/\(k=2/\a<=9/\c=0∨k=3/\a=0/\c=0∨k=4/\a<16/\1<=c/\c<=1000000000∨k=5/\a<16/\c=0)):=Iff.rfl
theorem wY(r:Rc)(w:iW):
 iK Tryz.prog 87 #[rH r] w λe w'=>e=G (iB (@decide r.Right r.decR))/\iL w.heap.size w w':=by
 obtain⟨k,v,a,c⟩:=r;have h:=af (FX k v a c);have g:=af ((az w.heap.size w).alloc (am _) (iC #[I J k,I J v,I J a,I J c] 110));unfold rH;simp only;have f:¬(0<=a/\a<=1000000000)∨(0<=a/\a<=1000000000)/\(k=1/\((v==0)=iV∨(v==0)=iF)∨(k==1)=iF/\(¬(2<=k/\k<=5)∨(2<=k/\k<=5)/\(¬(1<=v/\v<=9)∨(1<=v/\v<=9)/\(k=4/\(¬a<16∨a<16/\(¬(1<=c/\c<=1000000000)∨1<=c/\c<=1000000000))∨(k=2∨k=3∨k=5)/\((c==0)=iV∨(c==0)=iF))))):=by
  simp only[jg,du,ne_eq];omega
 rcases f with j|⟨j,⟨rfl,i|i⟩|⟨i,l|⟨l,m|⟨m,⟨rfl,d|⟨d,n|n⟩⟩|⟨rfl|rfl|rfl,d|d⟩⟩⟩⟩⟩
 all_goals
  go_enter Tryz.func87,Tryz.ntmps87
  repeat
   go_wp2_with fail
   first
    |refine(gO _ _ _ iV _ (.inl ⟨by omega,by omega,rfl⟩)).mono ?_
    |refine(gO _ _ _ iF _ (.inr ⟨by omega,rfl⟩)).mono ?_
   rintro e p ⟨rfl,rfl⟩
  go_wp2;go_ret;refine⟨congrArg (λb=>Ending.returned (iB b)) (xN.2 (Iff.trans ?_ (Iff.symm (Iff.trans (@decide_eq_true_iff _ (Rc.decR _)) h.o)))),g.o⟩
  clear h g
  (try simp only[jg,du,ne_eq,bH,eS,eq_self,vL,false_iff,true_iff]at*)
  omega
def uL(r:Rc):iX:=letI:=r.decR;if r.Right then iU #[iT (mo r),iB iV]else iU #[iT ⟨#[]⟩,iB iF]
theorem FY(r:Rc)(h:r.Right):(mo r).size<=19:=by
 have e:(mo r).size=(mo r).data.toList.length:=rfl;rw[e,CH];exact(vO r h).2
theorem Vn(w e:iW)(a b c d:iX)(f:TypeId)(g:iL (w.alloc (iC #[a,b,c,d] f)).heap.size (w.alloc (iC #[a,b,c,d] f)) e):
 e.cell? ⟨w.heap.size,0,O⟩=X a/\e.cell? ⟨w.heap.size,1,O⟩=X b/\e.cell? ⟨w.heap.size,2,O⟩=X c/\e.cell? ⟨w.heap.size,3,O⟩=X d:=by
 refine⟨?_,?_,?_,?_⟩<;>(rw[g.cell (by simp)];simp)
def pF(w a:iW)(k v x c:Int):Prop:=iL w.heap.size w a/\w.heap.size<a.heap.size/\
 (a.cell? ⟨w.heap.size,0,O⟩=X (I J k)/\a.cell? ⟨w.heap.size,1,O⟩=X (I J v)/\a.cell? ⟨w.heap.size,2,O⟩=X (I J x)/\a.cell? ⟨w.heap.size,3,O⟩=X (I J c))
variable{bad bad':Bool}{t:ByteArray}{c:Int}{n size g k q q' m:Nat}{e:TypeId}
theorem pF.next{w a b:iW}{k v x:Int}(h:pF w a k v x c)(d:iL a.heap.size a b):pF w b k v x c:=
 ⟨h.1.trans (d.mono h.1.size),fE h.2.1 d.size,by rw[d.cell h.2.1,d.cell h.2.1,d.cell h.2.1,d.cell h.2.1];exact h.2.2⟩
theorem pF.drew{w a:iW}{k v x:Int}(h:pF w a k v x c):pF w a.drew k v x c:=⟨h.1.drew,h.2.1,h.2.2⟩
theorem QJ(r:Rc)(w:iW):
 iK Tryz.prog 186 #[rH r] w λe w'=>e=G (uL r)/\iL w.heap.size w w':=by
 have i:=af ((az w.heap.size w).alloc (am _) (iC #[I J r.kind,I J r.vol,I J r.arg,I J r.fC] 110));by_cases h:r.Right
 ·have l:ah (uL r=iU #[iT (mo r),iB iV]):=ak h;have Z:=FY r h;have m:=af (wY r);have y:=h;obtain⟨r1,r2⟩:=y;have g:ah (mo r=(nG (16*r.kind+r.vol).toNat++fh r.arg.toNat)++fh r.fC.toNat):=rfl;have n:=rl (d:=r.decR) h;obtain⟨k,v,x,c⟩:=r;unfold rH at*;simp only at*;obtain⟨k,rfl,-⟩:=oQ (show 0<=k by omega)
  obtain⟨v,rfl,-⟩:=oQ (show 0<=v by omega)
  obtain⟨x,rfl,M⟩:=oQ (show 0<=x by omega)
  obtain⟨c,rfl,L⟩:=oQ (show 0<=c by omega)
  have N:(16*(k:Int)+(v:Int)).toNat=16*k+v:=by omega
  have kb:k<=5:=by omega
  have vb:v<=9:=by omega
  have Y:IntKind.i64.wrap (16*(k:Int))=16*(k:Int):=by rw[cm];omega
  have s:IntKind.i64.wrap (16*(k:Int)+(v:Int))=((16*k+v:Nat):Int):=by rw[cm];omega
  obtain⟨b,t⟩:∃b,b=16*k+v:=⟨_,rfl⟩;rw[N,M,L,<-t]at g;rw[<-t]at s;clear M L N;obtain⟨F,A⟩:∃z,z=nG b:=⟨_,rfl⟩;obtain⟨v1,D⟩:∃z,z=fh x:=⟨_,rfl⟩;obtain⟨v2,E⟩:∃z,z=fh c:=⟨_,rfl⟩;have B:=af (λw=>Gh b (by omega) w)
  have p:=af (λw=>qy x w (by omega))
  have q:=af (λw=>qy c w (by omega))
  change ah (∀w,iK Tryz.prog 72 #[I J x] w λe w'=>e=G (iT (fh x))/\iL w.heap.size w w')at p
  change ah (∀w,iK Tryz.prog 72 #[I J c] w λe w'=>e=G (iT (fh c))/\iL w.heap.size w w')at q
  rw[<-A]at B g;rw[<-D]at p g;rw[<-E]at q g;clear A D E t;obtain⟨pa,j⟩:∃z,z=mo ⟨k,v,x,c⟩:=⟨_,rfl⟩;rw[<-j]at Z g l;clear j h r1 r2 kb vb;obtain⟨P,C⟩:∃u,F++v1=u:=⟨_,rfl⟩;rw[C]at g;have T:P++v2=pa:=g.o.symm;have R:=congrArg ByteArray.size C;have S:=congrArg ByteArray.size T;rw[ve]at R S;have U:ah (¬(9223372036854775807<F.size+v1.size)):=by show¬_;omega
  have V:ah (¬(9223372036854775807<P.size+v2.size)):=by show¬_;omega
  clear R S g;go_enter Tryz.func186,Tryz.ntmps186;go_wp2_with fail;refine(m.o _).mono ?_;rintro e Q ⟨rfl,a⟩;rw[n];obtain⟨W,c1,c2,c3⟩:=Vn _ _ _ _ _ _ _ a;have f:ah (pF w Q k v x c):=⟨i.o.trans (a.mono i.o.size),fE (by simp) a.size,W,c1,c2,c3⟩
  clear a i n m;go_wp2_with fail;have y1:=U.o;have y2:=V.o;go_region_held3 (λw'=>w'.cell? ⟨w.heap.size,0,O⟩=X (I J k)/\w'.cell? ⟨w.heap.size,1,O⟩=X (I J v)/\w'.cell? ⟨w.heap.size,2,O⟩=X (I J x)/\w'.cell? ⟨w.heap.size,3,O⟩=X (I J c)) (first|go_keep|exact f.o.2.2|exact f.o.drew.2.2) (first
   |(go_at_call 71;with_reducible refine cj (B.o _) ?_;rintro e w2 ⟨rfl,H⟩;have f:=af (pF.next (by first|exact f.o|exact f.o.drew) H);clear H)
   |(go_at_call 72;(with_reducible first|refine cj (p.o _) ?_|refine cj (q.o _) ?_);rintro e w3 ⟨rfl,K⟩;have f:=af (pF.next (by first|exact f.o|exact f.o.drew) K);clear K))
  all_goals
   go_wp2;go_ret2;exact⟨by rw[l.o];rfl,f.o.1⟩
 ·have l:ah (uL r=iU #[iT ⟨#[]⟩,iB iF]):=aj h;have m:=af (wY r);have n:=kh (d:=r.decR) h;obtain⟨k,v,x,c⟩:=r;unfold rH at*;simp only at*;clear h;go_enter Tryz.func186,Tryz.ntmps186;go_wp2_with fail;refine(m.o _).mono ?_;rintro e Q ⟨rfl,a⟩;rw[n];go_wp2;go_ret2;exact⟨by rw[l.o];rfl,i.o.trans (a.mono i.o.size)⟩
def mS(t:Int×Int×Int×Int×Int×ByteArray):List iX:=[I J t.1,I J t.2.1,I J t.2.2.1,I J t.2.2.2.1,I J t.2.2.2.2.1,iT t.2.2.2.2.2]
def jE(l:List (Int×Int×Int×Int×Int×ByteArray)):List iX:=l.flatMap mS
theorem WR(a b:List (Int×Int×Int×Int×Int×ByteArray)):jE (a++b)=jE a++jE b:=by simp[jE]
theorem Qk(t:Int×Int×Int×Int×Int×ByteArray)(l:List (Int×Int×Int×Int×Int×ByteArray)):jE (t::l)=mS t++jE l:=by simp[jE]
theorem WH(l:List (Int×Int×Int×Int×Int×ByteArray))(k:Nat)(t:Int×Int×Int×Int×Int×ByteArray)(h:l[k]?=X t)(j:Nat)(v:iX)(b:(mS t)[j]?=X v):(jE l)[k*6+j]?=X v:=by
 have c:j<6:=(aB.1 b).1
 induction l generalizing k with
 |nil=>simp at h
 |cons a l d=>
  rw[Qk];cases k with
  |zero=>
   simp at h;subst h;rw[hI (by show _<6;omega),mW,eV]
   exact b
  |succ k=>
   rw[ct (by show 6<=_;omega),show(k+1)*6+j-(mS a).length=k*6+j by show _-6=_;omega]
   exact d k (by simpa using h)
theorem aad:(Tryz.prog.info? 44).map (λi=>(i.zero,i.size,i.bytes))=X (X (iA #[I J 0,I J 0,I J 0,I J 0,I J 0,iT ⟨#[]⟩]),6,56):=by kernel_rfl
def JE:iX->Nat
 |Y _ n _=>n
 |_=>0
theorem Gi{W b:iW}{base:Nat}{v:iX}{xs:List iX}(h:W.ownsRow base e size v n xs)(k:∀i,i<W.heap.size->v.ownBlock=X i->b.heap[i]?=W.heap[i]?):b.ownsRow base e size v n xs:=by
 obtain⟨h1,j⟩:=h;refine⟨h1,?_⟩;rcases j with h|⟨g,cap,a,rfl,d,c,f⟩
 ·exact .inl h
 ·exact .inr ⟨g,cap,a,rfl,d,by rw[k g (aL.1 c).1 rfl];exact c,f⟩
theorem dD.off{w:iW}{p:Nat}{i:Int}{v:iX}(h:dD w g t i bad)(f:p≠g):dD (w.setCell ⟨p,k,O⟩ v) g t i bad:=by
 obtain⟨h1,a,b,h4,c,d⟩:=h;have e:∀j,(w.setCell ⟨p,k,O⟩ v).cell? ⟨g,j,O⟩=w.cell? ⟨g,j,O⟩:=λj=>iQ _ _ _ _ (λe=>f (by injection e))
 exact⟨by simpa using h1,by rw[e];exact a,by rw[e];exact b,by rw[e];exact h4,by simpa using c,by simpa using d⟩
def RS(w W:iW)(g:Nat)(t:ByteArray)(q:Nat)(bad:Bool)(a:iX)(acc:List Rc):Prop:=
 iL w.heap.size w W/\w.heap.size<=g/\dD W g t q bad/\W.ownsRow w.heap.size 110 4 a acc.length (bY (acc.map Rc.tu))/\a.ownBlock≠X g
variable{acc:List Rc}
theorem RS.moved{w W a:iW}{c:iX}(h:RS w W g t q bad c acc)(m:lW W a g t q' bad'):RS w a g t q' bad' c acc:=by
 obtain⟨h1,f,j,h4,b⟩:=h;exact⟨h1.trans (be.down m.1 h1.size (λi hi=>by omega)),f,m.2,Gi h4 (λi hi e=>m.1.2.2.2.2 i hi (λd=>b (d▸e))),b⟩
theorem RS.below{w W a:iW}{c:iX}(h:RS w W g t q bad c acc)(b:iL W.heap.size W a):RS w a g t q bad c acc:=
 h.moved ⟨be.below b,h.2.2.1.below b⟩
theorem RS.set1{w W:iW}{a:iX}(h:RS w W g t q bad a acc):RS w (W.setCell ⟨g,1,O⟩ (I J (q':Nat))) g t q' bad a acc:=
 h.moved (lW.set1 h.2.2.1 (az _ _))
def RT(w W:iW)(g:Nat)(t:ByteArray)(q:Nat)(bad:Bool)(b:iX)(acc:List Rc)(a:Nat)(cs:Array iX):Prop:=
 RS w W g t q bad b acc/\w.heap.size<=a/\a≠g/\b.ownBlock≠X a/\W.heap[a]?=X (iC cs 110 (0,0))
theorem RT.new{w W:iW}{a:iX}(h:RS w W g t q bad a acc)(cs:Array iX):RT w (W.alloc (iC cs 110)) g t q bad a acc W.heap.size cs:=by
 have b:=h.2.2.2.1.lt;have c:=h.2.2.1.1;refine⟨h.below (bh),h.1.size,by omega,λe=>?_,aC W _⟩
 have:=(b _ e).2;omega
theorem RT.moved{w W b:iW}{e:iX}{a:Nat}{cs:Array iX}(h:RT w W g t q bad e acc a cs)(m:lW W b g t q' bad'):RT w b g t q' bad' e acc a cs:=by
 obtain⟨h1,f,c,h4,d⟩:=h;exact⟨h1.moved m,f,c,h4,(m.1.2.2.2.2 a (aL.1 d).1 c).trans d⟩
theorem RT.below{w W a:iW}{d:iX}{c:Nat}{cs:Array iX}(h:RT w W g t q bad d acc c cs)(b:iL W.heap.size W a):RT w a g t q bad d acc c cs:=
 h.moved ⟨be.below b,h.1.2.2.1.below b⟩
theorem RT.set{w W:iW}{d:iX}{a:Nat}{cs:Array iX}(h:RT w W g t q bad d acc a cs)(k:Nat)(v:iX):RT w (W.setCell ⟨a,k,O⟩ v) g t q bad d acc a (cs.setIfInBounds k v):=by
 obtain⟨⟨f,j,l,m,n⟩,b,c,h4,p⟩:=h;exact⟨⟨f.setCell b _,j,l.off c,Gi m (λi _ e=>aS _ _ _ _ (λo=>h4 (by subst o;exact e))),n⟩,b,c,h4,bw _ _ _ _ _ _ p⟩
theorem RT.at_{w W:iW}{c:iX}{a:Nat}{cs:Array iX}(h:RT w W g t q bad c acc a cs)(k:Nat)(v:iX)(b:cs[k]?=X v):W.cell? ⟨a,k,O⟩=X v/\W.frozen? ⟨a,k,O⟩=iF:=
 ⟨ai _ _ k _ _ _ h.2.2.2.2▸b,aF _ _ k _ _ h.2.2.2.2⟩
theorem RS.grown{w W y:iW}{l u':iX}{a:List Rc}(h:RS w W g t q bad l acc)(c:W.grownBy y l.ownBlock)(r:y.ownsRow w.heap.size 110 4 u' a.length (bY (a.map Rc.tu)))(b:u'.ownBlock=l.ownBlock∨u'.ownBlock=X W.heap.size):RS w y g t q bad u' a:=by
 obtain⟨h1,o,⟨d,c1,c2,c3,m,n⟩,h4,i⟩:=h;have e:∀j,y.cell? ⟨g,j,O⟩=W.cell? ⟨g,j,O⟩:=λj=>c.cell_far _ d (λe=>i e.symm)
 have f:∀j,y.frozen? ⟨g,j,O⟩=W.frozen? ⟨g,j,O⟩:=λj=>c.frozen_far _ d (λe=>i e.symm)
 refine⟨h1.grown c h1.size (λk p=>(h4.lt k p).1),o,⟨fE d c.size,by rw[e];exact c1,by rw[e];exact c2,by rw[e];exact c3,by rw[f];exact m,by rw[f];exact n⟩,r,λe=>?_⟩
 rcases b with b|b
 ·exact i (b▸e)
 ·rw[b]at e;have:W.heap.size=g:=by injection e
  omega
theorem Eg{w W:iW}(b:iL w.heap.size w W)(n:Nat)(a:W.heap.size=n):(W.alloc (iC #[] 110)).ownsRow w.heap.size 110 4 (Y (X ⟨n,0,O⟩) 0 0) ([]:List Rc).length (bY (([]:List Rc).map Rc.tu))/\iL w.heap.size w (W.alloc (iC #[] 110)):=by
 subst a;exact⟨⟨rfl,.inr ⟨W.heap.size,0,#[],rfl,b.size,aC W _,am _,by unfold maxLen;omega,rfl,rfl⟩⟩,b.alloc b.size _⟩
theorem QZ(W:iW)(r:Rc)(g:Nat)(b:W.heap.size=g):∀(j:Nat) (u:iX),[I J r.kind,I J r.vol,I J r.arg,I J r.fC][j]?=X u->(W.alloc (iC #[I J r.kind,I J r.vol,I J r.arg,I J r.fC] 110)).cell? ((⟨g,0,O⟩:Addr).add j)=X u:=by
 intro j u a;subst b
 match j,a with
 |0,a|1,a|2,a|3,a=>
  simp at a;subst a;simp[Addr.add]
theorem VQ(r:Rc):∀u∈ [I J r.kind,I J r.vol,I J r.arg,I J r.fC],u.oneCell'=iV:=by
 intro u a;simp at a;rcases a with h|h|h|h<;>subst h<;>rfl
theorem Rq(acc:List Rc)(r:Rc):bY (acc.map Rc.tu)++[I J r.kind,I J r.vol,I J r.arg,I J r.fC]=bY ((acc++[r]).map Rc.tu):=by
 rw[fm,Fo];rfl
def Qz(w:iW)(t:ByteArray)(e:Ending)(w':iW):Prop:=
 ∃a acc ok,e=G (iU #[a,iB ok])/\w'.ownsRow w.heap.size 110 4 a acc.length (bY (acc.map Rc.tu))/\iL w.heap.size w w'/\(fR t.data.toList 0=O/\ok=iF/\acc=[]∨fR t.data.toList 0=X acc/\ok=iV)
theorem T8(t:ByteArray)(w:iW)(hs:t.size<=1048576):
 iK Tryz.prog 209 #[iT t] w (Qz w t):=by
 have R0:ah (RS w ((w.alloc (iC #[] 110)).alloc (iC #[iT t,I J 0,iB iF] 87)) (w.heap.size+1) t 0 iF (Y (X ⟨w.heap.size,0,O⟩) 0 0) []):=by
  have hz:(w.alloc (iC #[] 110)).heap.size=w.heap.size+1:=by simp
  have h1:=aC (w.alloc (iC #[] 110)) (iC #[iT t,I J 0,iB iF] 87);have h0:=(gt (w.alloc (iC #[] 110)) (iC #[iT t,I J 0,iB iF] 87) w.heap.size (by simp)).trans (aC w (iC #[] 110))
  rw[hz]at h1;refine⟨(bh).alloc (by simp) _,by omega,⟨by simp,ai _ _ 0 _ _ _ h1,ai _ _ 1 _ _ _ h1,ai _ _ 2 _ _ _ h1,aF _ _ 1 _ _ h1,aF _ _ 2 _ _ h1⟩,⟨rfl,.inr ⟨w.heap.size,0,#[],rfl,am _,h0,am _,by unfold maxLen;omega,rfl,rfl⟩⟩,?_⟩
  intro e;have e2:w.heap.size=w.heap.size+1:=by injection e
  omega
 go_enter Tryz.func209,Tryz.ntmps209;go_wp2;generalize(w.alloc (iC #[] 110)).alloc (iC #[iT t,I J 0,iB iF] 87)=wa at R0⊢;go_loopw [4] (λuv wr=>∃(q ug uc:Nat) (acc:List Rc),uv=Y (X ⟨ug,0,O⟩) acc.length uc/\acc.length<=q/\q<=t.size/\ah (RS w wr (w.heap.size+1) t q iF (Y (X ⟨ug,0,O⟩) acc.length uc) acc)/\ah (fR t.data.toList 0=(fR t.data.toList q).map (acc++·))) (λuv _=>t.size+1-JE uv)
 case atStart=>exact⟨0,w.heap.size,0,[],rfl,am _,aK _,R0,by show _=Option.map _ _;cases fR t.data.toList 0<;>simp⟩
 case round=>
  obtain⟨q,ug,uc,acc,rfl,ha,hq,R,E⟩:=hrel;clear R0;obtain⟨-,c0,c1,c2,f1,f2⟩:=R.o.2.2.1;by_cases ap:(q:Int)<t.size
  ·obtain⟨c,r⟩:=aq (t[q].toNat:Nat);have ae:c<256:=by rw[<-r];exact vB _
   have n:t.data.toList[q]?=X t[q]:=aB.2 ⟨by simpa using(show q<t.size by omega),rfl⟩
   obtain⟨k,hk⟩:∃k,k=c/16:=⟨_,rfl⟩;obtain⟨v,hv⟩:∃v,v=c % 16:=⟨_,rfl⟩;have ek:(c:Int).tdiv 16=(k:Int):=by rw[hk];rfl
   have ev:(c:Int).tmod 16=(v:Int):=by rw[hv];rfl
   have aa:(c:Int)/16=(k:Int):=by omega
   have ab:(c:Int) % 16=(v:Int):=by omega
   have av:k<16:=by omega
   have aw:v<16:=by omega
   have HK:ah (k=c/16):=hk;have HV:ah (v=c % 16):=hv;have G:ah (∃b:UInt8,t.data.toList[q]?=X b/\b.toNat=c):=⟨_,n,r⟩;clear hk hv n;obtain⟨B,j⟩:=aq (q+1);obtain⟨f,A,x,e1⟩:∃f A x,gC t.data.toList B iF=(f,A,x):=⟨_,_,_,rfl⟩;obtain⟨d,l,L,e2⟩:∃d l L,gC t.data.toList A x=(d,l,L):=⟨_,_,_,rfl⟩;have R1:=af (R.o.set1 (q':=B));have V1:=af (λW g (h:dD W g t (B:Nat) iF)=>rV t B iF g W hs h f A x e1)
   have V2:=af (λW g (h:dD W g t (A:Nat) x)=>rV t A x g W hs h d l L e2)
   have E1:=af e1;have E2:=af e2;clear e1 e2;go_wp2_with fail;have cr:((q:Int)+1)=(B:Int):=by omega
   rw[cr];have HQ:=af j;clear j c0 c1 c2 f1 f2 r ae ek ev aa ab cr;generalize wr.setCell ⟨w.heap.size+1,1,O⟩ (I J (B:Int))=C at R1⊢;refine(V1.o _ _ R1.o.2.2.1).mono ?_;rintro e D ⟨rfl,m2⟩;have R2:=af (R1.o.moved m2);have H:=af (RT.new R2.o #[I J k,I J v,I J f,I J 0]);obtain⟨sc,s⟩:=aq D.heap.size;rw[s]at H;clear m2 R1;go_wp2_with fail;try rw[s]
   generalize D.alloc (iC #[I J k,I J v,I J f,I J 0] 110)=x3 at H⊢;refine(V2.o _ _ H.o.1.2.2.1).mono ?_;rintro e x4 ⟨rfl,m4⟩;have T4:=af (H.o.moved m4);have i:=af (T4.o.set 3 (I J d));change ah (RT w _ _ t l L _ acc sc #[I J k,I J v,I J f,I J d])at i;clear m4 H R2 s V1 V2;obtain⟨a3,b3⟩:=T4.o.at_ 3 _ rfl;obtain⟨-,-,-,p2,-,-⟩:=i.o.1.2.2.1;obtain⟨r0,-⟩:=i.o.at_ 0 _ rfl;obtain⟨r1,-⟩:=i.o.at_ 1 _ rfl;obtain⟨r2,-⟩:=i.o.at_ 2 _ rfl;obtain⟨r3,-⟩:=i.o.at_ 3 _ rfl;cases L with
   |true=>
    have m:ah (fR t.data.toList q=O):=by
     obtain⟨b,n,-⟩:=G.o;refine xz (aB.1 n).1 ?_;cases a:lx t.data.toList q with
     |none=>rfl
     |some y=>
      obtain⟨rr,jj⟩:=y;obtain⟨b',a',i',c',-,h1,h2,-,-⟩:=Kf a;have C:=E1.o;rw[<-HQ.o]at C;simp only[gC,h1]at C;injection C with C D
      injection D with D x3
      subst C D x3;have x4:=E2.o;simp[gC,h2]at x4
    have F:=af (Eg i.o.1.1 x4.heap.size (by simp[World.setCell]))
    go_wp2_with fail;go_ret2;exact⟨_,[],iF,rfl,F.o.1,F.o.2,.inl ⟨by rw[E.o,m.o];rfl,rfl,rfl⟩⟩
   |false=>
    obtain⟨ac,N⟩:=js E2.o;subst ac;obtain⟨-,M⟩:=js E1.o;have HR:ah (lx t.data.toList q=letI:=(Rc.mk k v f d).decR;if (Rc.mk k v f d).Right then X (Rc.mk k v f d,l)else O):=by
     obtain⟨b,n,ad⟩:=G.o;show _=_;have j:=HQ.o;subst j;unfold lx;simp only[n,M,N];rw[ad,<-HK.o,<-HV.o]
    have HL:ah (q<t.data.toList.length):=by
     obtain⟨b,n,-⟩:=G.o;exact(aB.1 n).1
    clear N M E1 E2;have p:=af (wY (Rc.mk k v f d));unfold rH at p;simp only at p;by_cases z:(Rc.mk k v f d).Right
    ·have a:=HR.o;rw[ak z]at a;obtain⟨-,-,au,Q,-⟩:=xX a;have S:l<=t.size:=Q;have E':ah (fR t.data.toList 0=(fR t.data.toList l).map ((acc++[Rc.mk k v f d])++·)):=by
      show _=_;rw[E.o,yE a];cases fR t.data.toList l<;>simp
     rw[rl z]at p;clear z a HR E Q HK HV G;go_wp2_with fail;clear a3 b3;generalize x4.setCell ⟨sc,3,O⟩ (I J (d:Int))=x5 at i p2 r0 r1 r2 r3⊢;refine(p.o _).mono ?_;rintro e x6 ⟨rfl,b6⟩;have u:=af (i.o.below b6);clear b6 i T4 p2 r0 r1 r2 r3 p;obtain⟨r0,-⟩:=u.o.at_ 0 _ rfl;obtain⟨r1,-⟩:=u.o.at_ 1 _ rfl;obtain⟨r2,-⟩:=u.o.at_ 2 _ rfl;obtain⟨r3,-⟩:=u.o.at_ 3 _ rfl;have R6:=af (u.o.1.below ((az _ _).alloc (am _) (iC #[I J k,I J v,I J f,I J d] 110)));have m:=af (QZ x6 (Rc.mk k v f d) x6.heap.size rfl);have HO:=af (VQ (Rc.mk k v f d));have HZ:=af R6.o.1.size;have OW:=af R6.o.2.2.2.1;clear u;obtain⟨i0,P,U,V,Z⟩:=bV Bz;have I0:=af P;have Z0:=af U;have Z1:=af V;have Z2:=af Z;clear P U V Z;go_wp2_with (at_builtin;refine zM _ rfl _ _ 57 rfl w.heap.size 110 i0 (iA #[I J 0,I J 0,I J 0,I J 0]) 4 32 Tryz.underlying57 I0.o Z0.o Z1.o Z2.o rfl (by decide) _ acc.length (bY (acc.map Rc.tu)) rfl OW.o ⟨x6.heap.size,0,O⟩ 1 1 [I J k,I J v,I J f,I J d] rfl rfl m.o HO.o ?m1 ?m2 HZ.o ?_)
     case m1=>unfold maxLen;omega
     case m2=>omega
     intro u' y T hg _ hw;have es:=Rq acc (Rc.mk k v f d);simp only at es;rw[es,show acc.length+1=(acc++[Rc.mk k v f d]).length by simp]at T
     have RN:=af (R6.o.grown hg T (by simpa using hw))
     have ag:(acc++[Rc.mk k v f d]).length=acc.length+1:=by simp
     generalize acc++[Rc.mk k v f d]=K at RN ag T E';rcases T.2 with⟨-,h0⟩|⟨an,al,ao,rfl,-,-,-,-,-,-⟩
     ·omega
     clear T hg hw m HO HZ OW r0 r1 r2 r3 es I0 Z0 Z1 Z2 R6 HL;go_wp2;go_roundw
     case rel=>exact⟨l,an,al,K,rfl,by omega,S,RN,E'⟩
     case measure=>simp[JE];omega
    ·have a:=HR.o;rw[aj z]at a;have m:ah (fR t.data.toList q=O):=xz HL.o a;rw[kh z]at p;clear z a HR HL HK HV G;go_wp2_with fail;clear a3 b3;generalize x4.setCell ⟨sc,3,O⟩ (I J (d:Int))=x5 at i p2 r0 r1 r2 r3⊢;refine(p.o _).mono ?_;rintro e x6 ⟨rfl,b6⟩;have F:=af (Eg (i.o.below b6).1.1 x6.heap.size rfl);go_wp2_with fail;go_ret2;exact⟨_,[],iF,rfl,F.o.1,F.o.2,.inl ⟨by rw[E.o,m.o];rfl,rfl,rfl⟩⟩
  ·have ar:q=t.size:=by omega
   have m:ah (fR t.data.toList q=X []):=Bb (show t.size<=q by omega)
   go_wp2_with fail;go_ret2;exact⟨_,acc,iV,rfl,R.o.2.2.2.1,R.o.1,.inr ⟨by rw[E.o,m.o];simp,rfl⟩⟩
def Words.Pg.tu(p:Pg):Int×Int×Int×Int×Int×ByteArray:=(p.kind,p.seq,p.tx,p.part,p.count,p.text)
def Sj(w:iW)(Q:List Pg)(ok:Bool)(e:Ending)(w':iW):Prop:=
 ∃a,e=G (iU #[a,iB ok])/\w'.ownsRow w.heap.size 44 6 a Q.length (jE (Q.map Pg.tu))/\iL w.heap.size w w'
def nI(gs:List (List Rc)):List iX:=gs.map (λg=>iT (eM g))
theorem Q0(gs:List (List Rc))(g:List Rc):nI gs++[iT (eM g)]=nI (gs++[g]):=by simp[nI]
theorem RP(gs:List (List Rc))(g a:List Rc)(m:Nat)(b:gs.length=m):(nI (gs++[g])).set m (iT (eM a))=nI (gs++[a]):=by
 subst b;simp[nI,List.set_append_right]
def TS(w W:iW)(a:iX)(gs:List (List Rc)):Prop:=
 iL w.heap.size w W/\W.heap[w.heap.size]?=X (iC #[] 44 (0,0))/\W.ownsRow (w.heap.size+1) 9 1 a gs.length (nI gs)
variable{gs:List (List Rc)}
theorem TS.below{w W a:iW}{c:iX}(h:TS w W c gs)(b:iL W.heap.size W a):TS w a c gs:=
 ⟨h.1.trans (b.mono h.1.size),(b.block _ (aL.1 h.2.1).1).trans h.2.1,bE h.2.2 b⟩
theorem TS.start(w:iW):TS w ((w.alloc (iC #[] 44)).alloc (iC #[iT ⟨#[]⟩] 9)) (Y (X ⟨w.heap.size+1,0,O⟩) 1 1) [[]]:=by
 have a:(w.alloc (iC #[] 44)).heap.size=w.heap.size+1:=by simp
 have h1:=aC (w.alloc (iC #[] 44)) (iC #[iT ⟨#[]⟩] 9);rw[a]at h1;refine⟨(bh).alloc (by simp) _,?_,rfl,.inr ⟨w.heap.size+1,1,#[iT ⟨#[]⟩],rfl,am _,h1,am _,by unfold maxLen;omega,rfl,rfl⟩⟩
 exact(gt (w.alloc (iC #[] 44)) (iC #[iT ⟨#[]⟩] 9) w.heap.size (by simp)).trans (aC w (iC #[] 44))
theorem TS.grown{w W y:iW}{g u':iX}{a:List (List Rc)}(h:TS w W g gs)(f:W.grownBy y g.ownBlock)(j:y.ownsRow (w.heap.size+1) 9 1 u' a.length (nI a)):TS w y u' a:=by
 obtain⟨h1,c,d⟩:=h;have b:=(aL.1 c).1;refine⟨h1.grown f h1.size (λk i=>uT (d.lt k i).1),?_,j⟩
 refine(f.block _ b (λe=>?_)).trans c
 have:=(d.lt _ e.symm).1;omega
theorem TS.none{w W:iW}{a:iX}(h:TS w W a gs):W.ownsRow w.heap.size 44 6 (Y (X ⟨w.heap.size,0,Option.none⟩) 0 0) ([]:List Pg).length (jE (([]:List Pg).map Pg.tu)):=
 ⟨rfl,.inr ⟨w.heap.size,0,#[],rfl,am _,h.2.1,am _,by unfold maxLen;omega,rfl,rfl⟩⟩
theorem TS.len{w W:iW}{c:Nat}(h:TS w W (Y (X ⟨g,0,Option.none⟩) n c) gs):gs.length=n:=by
 rcases h.2.2.2 with⟨e,-⟩|⟨_,_,_,e,-⟩
 ·simp at e
 ·simp at e;exact e.2.1.symm
theorem TS.at_{w W:iW}{c:Nat}(h:TS w W (Y (X ⟨g,0,Option.none⟩) n c) gs){x:List Rc}(a:gs[m]?=X x):W.cell? ⟨g,m,Option.none⟩=X (iT (eM x)):=by
 have:=h.2.2.cells (g:=g) rfl m (iT (eM x)) (by simp[nI,a])
 rwa [fw]at this
theorem TS.stored{w W:iW}{c:Nat}{x y:List Rc}(h:TS w W (Y (X ⟨g,0,Option.none⟩) n c) (gs++[x]))(e:gs.length=m):TS w (W.setCell ⟨g,m,Option.none⟩ (iT (eM y))) (Y (X ⟨g,0,Option.none⟩) n c) (gs++[y]):=by
 have b:=h.len;have a:=h.2.2;rw[b]at a;obtain⟨h4,d⟩:=a.stored m (iT (eM y));rw[RP gs x y m e]at h4;refine TS.grown h d ?_;rw[show(gs++[y]).length=n by simpa using b]
 exact h4
theorem Ym:(Tryz.prog.info? 9).map (λi=>(i.zero,i.size,i.bytes))=X (X (iT ⟨#[]⟩),1,16):=by kernel_rfl
theorem ZB(x:ByteArray):∀u∈ [iT x],u.oneCell'=iV:=by
 intro u a;simp at a;subst a;rfl
def nL(w W:iW)(b:iX)(gs:List (List Rc))(a:iX)(Q:List Pg):Prop:=
 TS w W b gs/\W.ownsRow (w.heap.size+1) 44 6 a Q.length (jE (Q.map Pg.tu))
variable{Q:List Pg}
theorem nL.below{w W a:iW}{d c:iX}(h:nL w W d gs c Q)(b:iL W.heap.size W a):nL w a d gs c Q:=
 ⟨h.1.below b,bE h.2 b⟩
theorem nL.grown{w W y:iW}{i n m:iX}{c:List Pg}(h:nL w W i gs n Q)(d:W.grownBy y n.ownBlock)(r:y.ownsRow (w.heap.size+1) 44 6 m c.length (jE (c.map Pg.tu))):nL w y i gs m c:=by
 obtain⟨⟨h1,j,l⟩,h4⟩:=h;have f:=(aL.1 j).1;refine⟨⟨h1.grown d h1.size (λk q=>uT (h4.lt k q).1),?_,?_⟩,r⟩
 ·refine(d.block _ f (λe=>?_)).trans j
  have:=(h4.lt _ e.symm).1;omega
 ·refine l.kept d ?_;cases g:i.ownBlock with
  |none=>exact .inl rfl
  |some a=>
   refine .inr λe=>?_
   rcases l.2 with⟨rfl,-⟩|⟨g3,c3,o,rfl,-,s,-⟩
   ·cases g
   ·rcases h4.2 with⟨rfl,-⟩|⟨u,t,p,rfl,-,b,-⟩
    ·cases e
    ·simp only[Value.ownBlock,fu]at g e;subst g;subst e;rw[s]at b;injection b with b
     injection b with _ b
     simp at b
theorem nL.start{w W:iW}{a:iX}(h:TS w W a gs):nL w (W.alloc (iC #[] 44)) a gs (Y (X ⟨W.heap.size,0,Option.none⟩) 0 0) []:=
 ⟨h.below (bh),rfl,.inr ⟨W.heap.size,0,#[],rfl,(aL.1 h.2.1).1,aC W _,am _,by unfold maxLen;omega,rfl,rfl⟩⟩
theorem P9(W:iW)(p:Pg)(g:Nat)(b:W.heap.size=g):∀(j:Nat) (u:iX),(mS p.tu)[j]?=X u->(W.alloc (iC #[I J p.kind,I J p.seq,I J p.tx,I J p.part,I J p.count,iT p.text] 44)).cell? ((⟨g,0,Option.none⟩:Addr).add j)=X u:=by
 intro j u a;subst b
 match j,a with
 |0,a|1,a|2,a|3,a|4,a|5,a=>
  simp[mS,Pg.tu]at a;subst a;simp[Addr.add]
theorem Si(p:Pg):∀u∈mS p.tu,u.oneCell'=iV:=by
 intro u a;simp[mS]at a;rcases a with h|h|h|h|h|h<;>subst h<;>rfl
theorem Q9(Q:List Pg)(p:Pg):jE (Q.map Pg.tu)++mS p.tu=jE ((Q++[p]).map Pg.tu):=by
 rw[fm,WR];simp[jE]
theorem Ta(seq tx:Int)(ad:Option Addr)(a cap:Nat)(l:List Rc)(w:iW)(hl:a<=33554432)(h:kC w ad a (l.map Rc.tu)):
 iK Tryz.prog 146 #[I J seq,I J tx,Y ad a cap] w (Sj w (jV seq tx l) (@decide (iY seq tx l) (mO seq tx l))):=by
 have HR:=af h;have hn:l.length=a:=by have:=h.1;simpa using this
 have HN:=af hn;clear h hn;have T0:ah (TS w ((w.alloc (iC #[] 44)).alloc (iC #[iT ⟨#[]⟩] 9)) (Y (X ⟨w.heap.size+1,0,O⟩) 1 1) (cP (l.take 0))):=TS.start w;go_enter Tryz.func146,Tryz.ntmps146;go_wp2;generalize(w.alloc (iC #[] 44)).alloc (iC #[iT ⟨#[]⟩] 9)=wa at T0⊢;go_loopw [9,10] (λuv S wr=>∃k:Nat,k<=a/\S=I J k/\(∃V m tc:Nat,uv=Y (X ⟨V,0,O⟩) (m+1) tc/\m<=k/\ah (TS w wr (Y (X ⟨V,0,O⟩) (m+1) tc) (cP (l.take k))))/\ah (∀r∈l.take k,r.Right)) (λ_ S _=>a-(intOf S).toNat)
 case atStart=>exact⟨0,aK _,rfl,⟨_,0,_,rfl,am _,T0⟩,λr R=>by simp at R⟩
 case round=>
  obtain⟨k,hk,rfl,⟨V,m,tc,rfl,aC,T⟩,RR⟩:=hrel;clear T0;by_cases aB:(k:Int)<a
  ·have ar:k<l.length:=by have:=HN.o;omega
   obtain⟨r,hx⟩:∃r,l[k]?=X r:=⟨l[k],ay ar⟩;obtain⟨rb,ro,rfl,-,c0,c1,c2,c3⟩:=(HR.o.below T.o.1).at (k:=k) (t:=r.tu) (by rw[bi,hx];rfl)
   simp only[Rc.tu]at c0 c1 c2 c3;have C:=af (QJ r wr);unfold rH at C;have k0:(0:Int)<=k:=by omega
   obtain⟨B,gl,F⟩:∃B gl,pk (l.take k)=(B,gl):=⟨_,_,rfl⟩;have hG:cP (l.take k)=B++[gl]:=by unfold cP;rw[F]
   have hS:pk (l.take (k+1))=qk (B,gl) r:=by rw[Zm hx,F]
   rw[hG]at T;have M:B.length=m:=by have:=T.o.len;simpa using this
   by_cases R:r.Right
   ·have hz:=FY r R;rw[uL,ak R]at C;have ac:ah (∀x∈l.take (k+1),x.Right):=by
     intro x an;rw[eG,hx,bG]at an;rcases an with e|e
     ·exact RR.o x e
     ·simp at e;subst e;exact R
    have ag:(eM gl).size<=90:=by
     rw[Gx];exact aaq _ RR.o gl (by rw[hG];simp)
    obtain⟨t,G⟩:=aq (mo r);rw[G]at C hz;go_wp2_with fail;refine C.o.mono ?_;rintro e c ⟨rfl,b1⟩;have d:=af (T.o.below b1);clear b1 T C c0 c1 c2 c3;have d0:c.cell? ⟨V,m,O⟩=X (iT (eM gl)):=d.o.at_ (by subst M;simp)
    have em:((m+1:Nat):Int)-1=(m:Int):=by omega
    have m0:(0:Int)<=m:=by omega
    have ae:(dR gl).length+(iy r).length=(eM gl).size+t.size:=by
     rw[Gx,<-G];congr 1
    by_cases ai:(90:Int)<(eM gl).size+t.size
    ·have n:cP (l.take (k+1))=(B++[gl])++[[r]]:=by
      unfold cP;rw[hS,qk];simp only;rw[ak (by omega)]
     have et:t=eM [r]:=by rw[Rm,G]
     obtain⟨i0,p,v,z,A⟩:=bV Ym;have I0:=af p;have Z0:=af v;have Z1:=af z;have Z2:=af A;have D:=af (d.o.2.2.alloc (iC #[iT t] 9));have W:=af (show w.heap.size+1<=(c.alloc (iC #[iT t] 9)).heap.size by have:=(aL.1 d.o.2.1).1;simp;omega)
     rw[d.o.len]at D;have H1:=af (lz c (iT t) 9);have H2:=af (ZB t);have TA:=af (d.o.below ((az _ _).alloc (am _) (iC #[iT t] 9)));have ab:=af n;have aa:=af et;clear p v z A n et hG hS F hx ae;generalize eM gl=tl at d0 ai ag⊢;go_wp2_with (at_builtin;refine cZ _ rfl _ _ 184 rfl (w.heap.size+1) 9 i0 (iT ⟨#[]⟩) 1 16 Tryz.underlying184 I0.o Z0.o Z1.o Z2.o rfl (by decide) _ _ _ rfl D.o ⟨c.heap.size,0,O⟩ 1 1 [iT t] rfl rfl H1.o H2.o ?c1 ?c2 W.o ?_)
     case c1=>unfold maxLen;omega
     case c2=>omega
     intro u' y ho hg _;have s:y.ownsRow (w.heap.size+1) 9 1 u' ((B++[gl])++[[r]]).length (nI ((B++[gl])++[[r]])):=by
      rw[<-Q0,<-aa.o];have:((B++[gl])++[[r]]).length=m+1+1:=by simp[M]
      rw[this];exact ho
     have K:=af (TA.o.grown hg s);rw[<-ab.o]at K;rcases ho.2 with⟨-,h0⟩|⟨aw,av,aA,rfl,-,-,-,-,-,-⟩
     ·omega
     clear ho hg s D W H1 H2 TA I0 Z0 Z1 Z2 ab aa d;go_wp2;go_roundw
     case rel=>exact⟨k+1,by omega,by go_num,⟨aw,m+1,av,rfl,by omega,K⟩,ac⟩
     case measure=>simp[intOf];omega
    ·have n:cP (l.take (k+1))=B++[gl++[r]]:=by
      unfold cP;rw[hS,qk];simp only;rw[aj (by omega)]
     have et:eM gl++t=eM (gl++[r]):=by rw[<-Sc,G]
     have K:=af (d.o.stored (y:=gl++[r]) M);rw[<-n,<-et]at K;have f0:c.frozen? ⟨V,m,O⟩=iF:=by
      have h3:=d.o.2.2;rw[d.o.len]at h3;exact h3.frozenAt m
     have Yq:¬(9223372036854775807<(eM gl).size+t.size):=by omega
     clear n et hG hS F hx ae;generalize eM gl=tl at d0 ai ag K Yq⊢;obtain⟨u,U⟩:=aq (tl++t);rw[U]at K;go_wp2;go_roundw
     case rel=>exact⟨k+1,by omega,by go_num,⟨V,m,tc,rfl,by omega,K⟩,ac⟩
     case measure=>simp[intOf];omega
   ·rw[uL,aj R]at C;have b:ah (jV seq tx l=[]/\ @decide (iY seq tx l) (mO seq tx l)=iF):=by
     have:¬iY seq tx l:=λh=>R (h.1 r (aO hx))
     exact⟨aj this,kh this⟩
    go_wp2_with fail;refine C.o.mono ?_;rintro e c ⟨rfl,b1⟩;have d:=af (T.o.below b1);clear b1 T C c0 c1 c2 c3;go_wp2;go_ret2;rw[b.o.1,b.o.2];exact⟨_,rfl,d.o.none,d.o.1⟩
  ·have au:k=l.length:=by have:=HN.o;omega
   rw[au,nF]at T RR;have N:=T.o.len;by_cases h9:(9:Int)<((m+1:Nat):Int)
   ·have b:ah (jV seq tx l=[]/\ @decide (iY seq tx l) (mO seq tx l)=iF):=by
     have:¬iY seq tx l:=λh=>by have:=h.2.1;omega
     exact⟨aj this,kh this⟩
    clear N;go_wp2;go_ret2;rw[b.o.1,b.o.2];exact⟨_,rfl,T.o.none,T.o.1⟩
   ·by_cases hq:1<=seq/\seq<=1000000000-((m+1:Nat):Int)+1
    ·by_cases G:1<=tx/\tx<=1000000000
     ·have Q:iY seq tx l:=⟨RR.o,by omega,hq.1,by rw[N];exact hq.2,G.1,G.2⟩
      have b:ah (jV seq tx l=ci seq tx l/\ @decide (iY seq tx l) (mO seq tx l)=iV):=⟨ak Q,rl Q⟩;have HM:=af N;clear N Q;go_wp2_with fail;refine(gO seq 1 _ iV _ (.inl ⟨by omega,by omega,rfl⟩)).mono ?_
      rintro e c ⟨rfl,rfl⟩;go_wp2_with fail;refine(gO tx 1 1000000000 iV _ (.inl ⟨by omega,by omega,rfl⟩)).mono ?_
      rintro e c ⟨rfl,rfl⟩;have P0:=af (nL.start T.o);obtain⟨x0,al⟩:=aq c.heap.size;rw[al]at P0;go_wp2_with fail;try rw[al]
      generalize c.alloc (iC #[] 44)=wb at P0⊢;go_loopw [14,15] (λov S wr=>∃j:Nat,j<=m+1/\S=I J j/\ah (nL w wr (Y (X ⟨V,0,O⟩) (m+1) tc) (cP l) ov ((ci seq tx l).take j))) (λ_ S _=>m+1-(intOf S).toNat)
      case atStart=>exact⟨0,aK _,rfl,P0⟩
      case round=>
       obtain⟨j,hj,rfl,P⟩:=hrel;clear P0;by_cases ax:(j:Int)<((m+1:Nat):Int)
       ·have ao:j<(cP l).length:=by have:=HM.o;omega
        obtain⟨g,L⟩:∃g,(cP l)[j]?=X g:=⟨_,ay ao⟩;have d0:=P.o.1.at_ L;obtain⟨pg,E⟩:∃pg:Pg,pg=⟨2,seq+j,tx,j,((m+1:Nat):Int),eM g⟩:=⟨_,rfl⟩;have hT:ah ((ci seq tx l).take j++[pg]=(ci seq tx l).take (j+1)):=by
         show _=_;rw[eG,Ez L,E];simp[ri,HM.o]
        have q:((ci seq tx l).take j).length=j:=by rw[cG,xf];omega
        have Z:=af (P.o.below ((az _ _).alloc (am _) (iC #[I J 2,I J (seq+j),I J tx,I J j,I J ((m+1:Nat):Int),iT (eM g)] 44)));have f:=af (P9 wr pg wr.heap.size rfl);have i:=af (Si pg);have H:=af (Q9 ((ci seq tx l).take j) pg);rw[E]at f i;simp only[Pg.tu,mS]at f i;have D:=af Z.o.2;have W:=af (show w.heap.size+1<=(wr.alloc (iC #[I J 2,I J (seq+j),I J tx,I J j,I J ((m+1:Nat):Int),iT (eM g)] 44)).heap.size by have:=(aL.1 Z.o.1.2.1).1;omega)
        rw[q]at D;have HL:=af q;have HP:=af E;obtain⟨i0,p,v,z,A⟩:=bV aad;have I0:=af p;have Z0:=af v;have Z1:=af z;have Z2:=af A;clear p v z A q E L P;generalize(ci seq tx l).take j=Qj at Z H D hT HL;generalize eM g=tt at d0 Z f i D W HP⊢;have j0:(0:Int)<=j:=by omega
        go_wp2_with (at_builtin;refine cZ _ rfl _ _ 211 rfl (w.heap.size+1) 44 i0 (iA #[I J 0,I J 0,I J 0,I J 0,I J 0,iT ⟨#[]⟩]) 6 56 Tryz.underlying211 I0.o Z0.o Z1.o Z2.o rfl (by decide) _ _ _ rfl D.o ⟨wr.heap.size,0,O⟩ 1 1 [I J 2,I J (seq+j),I J tx,I J j,I J ((m+1:Nat):Int),iT tt] rfl rfl f.o i.o ?c1 ?c2 W.o ?_)
        case c1=>unfold maxLen;omega
        case c2=>omega
        intro u' y ho hg _;have s:y.ownsRow (w.heap.size+1) 44 6 u' ((ci seq tx l).take (j+1)).length (jE (((ci seq tx l).take (j+1)).map Pg.tu)):=by
         rw[<-hT.o,<-H.o,aJ,HL.o,HP.o];exact ho
        have PN:=af (Z.o.grown hg s);clear ho hg s D W f i H Z I0 Z0 Z1 Z2 hT HP HL d0;go_wp2;go_roundw
        case rel=>exact⟨j+1,by omega,by go_num,PN⟩
        case measure=>simp[intOf];omega
       ·have ap:j=(ci seq tx l).length:=by rw[xf];have:=HM.o;omega
        rw[ap,nF]at P;go_wp2;go_ret2;rw[b.o.1,b.o.2];exact⟨_,rfl,lJ P.o.2 (Nat.le_succ _),P.o.1.1⟩
     ·have b:ah (jV seq tx l=[]/\ @decide (iY seq tx l) (mO seq tx l)=iF):=by
       have:¬iY seq tx l:=λh=>G h.2.2.2.2
       exact⟨aj this,kh this⟩
      clear N;go_wp2_with fail;refine(gO seq 1 _ iV _ (.inl ⟨by omega,by omega,rfl⟩)).mono ?_
      rintro e c ⟨rfl,rfl⟩;go_wp2_with fail;refine(gO tx 1 1000000000 iF _ (.inr ⟨by omega,rfl⟩)).mono ?_
      rintro e c ⟨rfl,rfl⟩;go_wp2;go_ret2;rw[b.o.1,b.o.2];exact⟨_,rfl,T.o.none,T.o.1⟩
    ·have b:ah (jV seq tx l=[]/\ @decide (iY seq tx l) (mO seq tx l)=iF):=by
      have:¬iY seq tx l:=λh=>hq ⟨h.2.2.1,by have:=h.2.2.2.1;rw[N]at this;exact this⟩
      exact⟨aj this,kh this⟩
     clear N;go_wp2_with fail;refine(gO seq 1 _ iF _ (.inr ⟨by omega,rfl⟩)).mono ?_
     rintro e c ⟨rfl,rfl⟩;go_wp2;go_ret2;rw[b.o.1,b.o.2];exact⟨_,rfl,T.o.none,T.o.1⟩
end Go.Proofs.YtgigcooffjjbgaaGreatDoor
