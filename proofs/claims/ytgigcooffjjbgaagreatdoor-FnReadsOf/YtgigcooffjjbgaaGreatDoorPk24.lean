/-
  PkMM; TRows; Bytes; Start; PMap; PKey; Note; WithB
-/
import Derived.Test.YtgigcooffjjbgaaGreatDoorPk23
import Derived.Maps.GroupsBeside
import Derived.WideKeyEntry
import Derived.DeepKeys4
open Go.Value renaming int→I,slice→Y,string→iT,bool→iB,pointer→iP,agg→iA,tuple→iU
open Go.IntKind renaming i64→J
open Option renaming none→O,some→X
open Go.Ending renaming returned→G
open Go.Obj renaming cells→iC
open Bool renaming true→iV,false→iF
open Go renaming World→iW,Value→iX,Calls→iK
open Go.RowKit renaming Below→iL
set_option maxHeartbeats 400000
set_option maxRecDepth 100000
namespace Go.Proofs.YtgigcooffjjbgaaGreatDoor.Pack
theorem qo(s:List UInt8)(k:Nat)(h:k<s.length):s.drop k=s.getD k 0::s.drop (k+1):=by
 rw[jh h,pL,ay h];rfl
theorem sB(f:Nat)(s:List UInt8)(i j:Nat)(hi:i<s.length)(a:j<s.length)(h:s.getD i 0=s.getD j 0):bT (f+1) (s.drop i) (s.drop j)=bT f (s.drop (i+1)) (s.drop (j+1))+1:=by
 rw[qo s i hi,qo s j a];exact ak h
theorem ti(f:Nat)(s:List UInt8)(i j:Nat)(hi:i<s.length)(a:j<s.length)(h:s.getD i 0≠s.getD j 0):bT f (s.drop i) (s.drop j)=0:=by
 cases f with
 |zero=>rfl
 |succ f=>
  rw[qo s i hi,qo s j a];exact ai h
theorem LP(f:Nat)(s a:List UInt8)(j:Nat)(b:s.length<=j):bT f a (s.drop j)=0:=by
 rw[mw b];cases f with
 |zero=>rfl
 |succ f=>cases a<;>rfl
theorem L5(s:List UInt8)(k m:Nat)(h:4<=bT 31 (s.drop (k-(m+1))) (s.drop k))(a:(bG s k m).1<bT 31 (s.drop (k-(m+1))) (s.drop k)):bG s k (m+1)=(bT 31 (s.drop (k-(m+1))) (s.drop k),m+1):=by
 unfold bG;rw[ak ⟨h,a⟩]
theorem Bz(s:List UInt8)(k m:Nat)(h:¬(4<=bT 31 (s.drop (k-(m+1))) (s.drop k)/\(bG s k m).1<bT 31 (s.drop (k-(m+1))) (s.drop k))):bG s k (m+1)=bG s k m:=by
 conv=>lhs;unfold bG
 rw[ai h]
theorem xm(s:List UInt8)(m k:Nat)(l:List (Nat×Nat×List UInt8))(h:dR m s=(k,l))(a:k<s.length):dR (m+1) s=stepT s (k,l):=by
 conv=>lhs;unfold dR
 rw[h,ak a]
theorem Ng(s:List UInt8)(m k a b:Nat)(l:List (Nat×Nat×List UInt8))(hs:s.length<=64)(h:dR m s=(k,l))(d:k<s.length)(c:bG s k k=(a,b))(h0:0<a):dR (m+1) s=(k+a,l++[(b,a,[])])/\k+a<=s.length:=by
 have e:dR (m+1) s=(k+a,l++[(b,a,[])]):=by
  rw[xm s m k l h d];unfold stepT;simp only[c];rw[ak h0]
 refine⟨e,?_⟩;have:=(DI s hs (m+1)).1.1;rw[e]at this;exact this
theorem IE(s:List UInt8)(m k z:Nat)(l:List (Nat×Nat×List UInt8))(t:List UInt8)(h:dR m s=(k,l++[(0,z,t)]))(b:k<s.length)(a:(bG s k k).1=0)(c:t.length<31):dR (m+1) s=(k+1,l++[(0,z,t++[s.getD k 0])]):=by
 rw[xm s m k _ h b];unfold stepT;simp only[a];rw[ai (by omega)]
 simp[c]
theorem IB(s:List UInt8)(m k:Nat)(l:List (Nat×Nat×List UInt8))(h:dR m s=(k,l))(d:k<s.length)(c:(bG s k k).1=0)(e:∀a z t,l=a++[(0,z,t)]->¬t.length<31):dR (m+1) s=(k+1,l++[(0,0,[s.getD k 0])]):=by
 rw[xm s m k _ h d];unfold stepT;simp only[c];rw[ai (by omega)]
 split
 ·rename_i z t hlast
  obtain⟨a,b⟩:=BL.1 hlast;rw[ai (e a z t b)]
 ·rfl
theorem Jn(s:List UInt8)(m d:Nat)(h:s.length<=(dR m s).1):dR (m+d) s=dR m s:=by
 induction d with
 |zero=>rfl
 |succ d a=>
  have e:dR (m+(d+1)) s=if (dR (m+d) s).1<s.length then stepT s (dR (m+d) s)else dR (m+d) s:=rfl
  rw[e,a,ai (by omega)]
theorem GW(s:List UInt8)(m:Nat)(l:List (Nat×Nat×List UInt8))(h:dR m s=(s.length,l))(a:m<=s.length):iq s=l:=by
 have:=Jn s m (s.length-m) (by rw[h];exact am _)
 rw[show m+(s.length-m)=s.length by omega]at this
 unfold iq;rw[this,h]
end Go.Proofs.YtgigcooffjjbgaaGreatDoor.Pack
namespace Go.Proofs.YtgigcooffjjbgaaGreatDoor
open Go.RowKit Pack
theorem uC(s:ByteArray)(j:Nat)(a:Int)(b:a=j)(c:j<s.size)(W:iW):(Instr.index 9 (iT s) (I J a)).run Tryz.prog W=.ok (I .u8 (((s.data.toList.getD j 0).toNat:Nat):Int)) W:=by
 subst b;rw[run_index_string W 9 s J j Tryz.underlying9,dif_pos (by omega)]
 have:s.data.toList.getD j 0=s[j]:=by
  rw[pL,ay (by simpa using c)]
  rfl
 rw[this];rfl
def Fm(w:iW)(e:Ending)(w':iW)(l:List (Nat×Nat×List UInt8)):Prop:=∃v:iX,e=G v/\w'.ownsRow w.heap.size 150 3 v l.length (cK l)/\iL w.heap.size w w'
theorem yx{w:iW}{base:Nat}{v:iX}{l:List (Nat×Nat×List UInt8)}(h:w.ownsRow base 150 3 v l.length (cK l))(h0:0<l.length):∃g cap,v=Y (X ⟨g,0,O⟩) l.length cap:=by
 rcases h.2 with⟨-,b⟩|⟨g,cap,a,rfl,-⟩
 ·omega
 ·exact⟨g,cap,rfl⟩
theorem oq(w:iW)(a b c:iX)(t:TypeId):∀(j:Nat) (u:iX),[a,b,c][j]?=X u->(w.alloc (iC #[a,b,c] t)).cell? ((⟨w.heap.size,0,O⟩:Addr).add j)=X u:=by
 intro j u d
 match j,d with
 |0,d=>simp at d;subst d;simp[Addr.add]
 |1,d=>simp at d;subst d;simp[Addr.add]
 |2,d=>simp at d;subst d;simp[Addr.add]
theorem nW(a b:Int)(u:ByteArray):∀v∈ [I J a,I J b,iT u],v.oneCell'=iV:=by
 intro v c;rcases be.1 c with h|h
 ·subst h;rfl
 ·rcases be.1 h with h|h
  ·subst h;rfl
  ·rcases be.1 h with h|h
   ·subst h;rfl
   ·cases h
variable{H:Type}{a:Act}{es:Array MapEntry}{ops:Array Oper}{D:DataW H}{fn:Func}{q:IntKind}{rest:List Oper}{kl:Lit}{B n C g b base:Nat}{No:Nat -> Prop}{P:Program}{e k t E:TypeId}{w w0:iW}
theorem si {w wr b:iW} {v:iX} {xs:List iX} {o:Obj} (d:iL B w wr) (c:B<=wr.heap.size)
 (a:wr.ownsRow B e 3 v n xs) (f:(wr.alloc o).grownBy b v.ownBlock):iL B w b:=
 (d.alloc c _).grown f (by simp;omega) (λk g=>(a.lt k g).1)
def kw(w:iW)(g:Nat)(l:List UInt8):Prop:=
 g<w.heap.size/\∀j (a:j<l.length),w.cell? ⟨g,j,O⟩=X (I .u8 (l[j].toNat:Int))/\w.frozen? ⟨g,j,O⟩=iF
theorem kw.below{w w':iW}{l:List UInt8}(h:kw w g l)(a:iL C w w')(b:g<C):kw w' g l:=
 ⟨eW h.1 a.size,λj c=>⟨by rw[a.cell (show g<C from b)];exact(h.2 j c).1,by rw[a.frozen (show g<C from b)];exact(h.2 j c).2⟩⟩
theorem JS(w:iW)(s:ByteArray):∃(C:Nat) (w':iW),(convert 9 22 (iT s)).run Tryz.prog w=.ok (Y (X ⟨w.heap.size,0,O⟩) s.size C) w'/\iL w.heap.size w w'/\kw w' w.heap.size s.data.toList:=by
 have h:=run_bytes_of_string (P:=Tryz.prog) w 9 22 5 s Tryz.underlying9 Tryz.underlying22 Tryz.underlying5;generalize grownCap w s.size 0 5=C at h;refine⟨C,_,h,((ax _ _).drew).alloc (am _) _,by simp,?_⟩
 intro j b;have a:j<s.data.size:=by simpa using b
 have c:j<s.size:=a;have e:=bytesRow_at s C j a;have f:j<(bytesRow s C).size:=by
  unfold bytesRow;rw[Array.size_append,Array.size_map];omega
 have d:w.drew.heap.size=w.heap.size:=rfl;constructor
 ·have:=Ar w.drew (bytesRow s C) 5 ((bytesRow s C).size,(bytesRow s C).size+1) j;rw[d]at this;rw[this,e];simp
 ·have:=World.frozen?_alloc_mark w.drew (bytesRow s C) 5 (bytesRow s C).size ((bytesRow s C).size+1) j;rw[d]at this;rw[this];simp;omega
theorem DC:(Tryz.prog.info? 303).map (·.size)=X 4:=by kernel_rfl
def iO(q:List UInt8):iX:=iA (bF q).toArray
theorem IW(l:List UInt8):∀v∈bF l,v.oneCell'=iV:=by
 intro u a;obtain⟨x,-,rfl⟩:=bZ.1 a;rfl
theorem aab(l:List UInt8):(bF l).toArray.all (·.oneCell')=iV:=all_oneCell_toArray (IW l)
theorem Ba{w:iW}{l:List UInt8}(h:kw w g l):w.rangeAt g 0 (bF l):=by
 intro j v a;have b:j<l.length:=by
  have:=(aC.1 a).1
  rwa [sM]at this
 rw[sJ l j b]at a;cases a;rw[eC];exact(h.2 j b).1
theorem GB{w:iW}{l:List UInt8}(h:kw w g l):w.there g 0 l.length:=by
 intro j a;rw[eC,(h.2 j a).1];exact⟨rfl,(h.2 j a).2⟩
theorem AZ(b:Nat):∀(vs:List iX) (o:Nat) (w:iW),(w.setCells b o vs).heap.size=w.heap.size
 | [],_,_=>rfl
 |v::r,o,w=>by rw[World.setCells,AZ b r];simp
theorem A8{a:iW}(c:B<=b):∀(vs:List iX) (o:Nat) (w:iW),iL B a w->iL B a (w.setCells b o vs)
 | [],_,_,h=>h
 |v::r,o,w,h=>by
  rw[World.setCells];exact A8 c r _ _ (h.setCell (p:=⟨b,o,O⟩) c v)
theorem kw.fS{w:iW}{l:List UInt8}(h:kw w g l)(a:List UInt8)(c:a.length=l.length):kw (w.setCells g 0 (bF a)) g a:=by
 have e:w.there g 0 (bF a).length:=by rw[sM,c];exact GB h
 have d:=Mq w g 0 (bF a) e;refine⟨by rw[AZ];exact h.1,λj b=>⟨?_,by rw[World.frozen?_setCells];exact(h.2 j (by omega)).2⟩⟩
 have:=d j _ (sJ a j b)
 rwa [eC]at this
theorem ww(w:iW)(l:List UInt8)(C:Array iX)(t:TypeId)(a:C.toList=bF l):kw (w.alloc (iC C t)) w.heap.size l:=by
 refine⟨by simp,λj b=>⟨?_,by simp⟩⟩
 rw[Ar];have:C[j]?=(bF l)[j]?:=by rw[<-a];simp
 rw[this,sJ l j b]
theorem LG {p q:Tmp} (h:fn.results= #[.cell p 303,.tmp q]) (a:Array iX) (w:iW) (g:Nat) (l:List UInt8)
 (e:a.getD p undef=iP (X ⟨g,0,O⟩)) (d:kw w g l) (b:l.length=4):
 (results fn a).run Tryz.prog w=.ok (iU #[iO l,a.getD q undef]) w:=by
 have c:a[p]?.getD undef=iP (X ⟨g,0,O⟩):=by simpa using e
 have b:=AU (P:=Tryz.prog) w g 0 303 (bF l) _ (Ba d) Tryz.underlying303 rfl (by rw[sM,b];exact DC)
 simp[results,h,c,asAddr,b,iO]
theorem Dz {b:Oper} {w:iW} {Q:Exit->Act->iW->Prop} (c:b.guard=O) (x:Operand) (f:b.op=.load 303 x)
 (g:Nat) (i:a.eval x=iP (X ⟨g,0,O⟩)) (l:List UInt8) (d:kw w g l) (e:l.length=4)
 (h:wpList Tryz.prog ops Q rest (a.put b.dst (iO l)) w):wpList Tryz.prog ops Q (b::rest) a w:=
 wpList_load_mid c 303 x f g 0 i (bF l) _ (Ba d) Tryz.underlying303 rfl (by rw[sM,e];exact DC) h
theorem vA {c:Oper} {w:iW} {Q:Exit->Act->iW->Prop} (d:c.guard=O) (x y:Operand) (j:c.op=Op.store 303 x y)
 (g:Nat) (l b:List UInt8) (k:a.eval x=iP (X ⟨g,0,O⟩)) (hy:a.eval y=iO l)
 (i:kw w g b) (f:l.length=4) (e:b.length=4)
 (h:∀w',w'=w.setCells g 0 (bF l)->wpList Tryz.prog ops Q rest (a.put c.dst undef) w'):wpList Tryz.prog ops Q (c::rest) a w:=
 wpList_store_mid d 303 x y j g 0 (bF l).toArray k hy (by rw[Aj,sM,f,<-e];exact GB i) (by rw[Aj,sM,f];exact DC) (aab l) (by have:=h _ rfl;simpa using this)
def cI(s:List UInt8)(k:Nat):List UInt8:=if k+4<=s.length then(s.drop k).take 4 else[0,0,0,0]
theorem jQ(s:List UInt8)(k:Nat):(cI s k).length=4:=by
 unfold cI;split
 ·rw[cD,iz];omega
 ·rfl
theorem SC(g n C:Nat)(a:4<=n)(W:iW):(Instr.arrayAt 303 (Y (X ⟨g,0,O⟩) n C)).run Tryz.prog W=.ok (iP (X ⟨g,0,O⟩)) W:=by
 have:¬n<4:=by omega
 simp[Instr.arrayAt,run_underlying Tryz.underlying303,this]
theorem Hw(s:ByteArray)(k:Nat)(w:iW)(hs:s.size<=64)(E:k<=s.size):
 iK Tryz.prog 225 #[iT s,I J k] w λe w'=>e=G (iU #[iO (cI s.data.toList k),iB (decide (k+4<=s.size))])/\iL w.heap.size w w':=by
 have z:s.data.toList.length=s.size:=by simp
 go_enter Tryz.func225,Tryz.ntmps225;by_cases A:(s.size:Int)-k<4
 ·have x:cI s.data.toList k=[0,0,0,0]:=by unfold cI;rw[ai (by omega)]
  have i:decide (k+4<=s.size)=iF:=aV (by omega)
  rw[x,i];clear x i;have l:=ww w [0,0,0,0] #[I .u8 0,I .u8 0,I .u8 0,I .u8 0] 303 rfl;go_wp2;exact az (LG rfl _ _ _ _ rfl l rfl) rfl ⟨rfl,aZ⟩
 ·have i:decide (k+4<=s.size)=iV:=aS (by omega)
  rw[i];have l:=af (ww w [0,0,0,0] #[I .u8 0,I .u8 0,I .u8 0,I .u8 0] 303 rfl);obtain⟨u,q⟩:∃u:ByteArray,u=s.extract k (k+4):=⟨_,rfl⟩;have g:u.data.toList=cI s.data.toList k:=by
   rw[q,vP];unfold cI;rw[ak (by omega)]
   simp
  have B:∀W,(Instr.slice 9 (iT s) (X (I J (k:Int))) (X (I J ((k:Int)+4))) O).run Tryz.prog W=.ok (iT u) W:=by
   intro W;rw[vp W 9 s J J _ _ Tryz.underlying9,ak (by omega),ak (by omega),q]
   congr 3
  have r:u.size=4:=by
   have:u.data.toList.length=u.size:=by simp
   rw[<-this,g,jQ]
  obtain⟨w0,a⟩:∃w0,w0=w.alloc (iC #[I .u8 0,I .u8 0,I .u8 0,I .u8 0] 303):=⟨_,rfl⟩;obtain⟨C,F,h,b,c⟩:=JS w0 u;rw[a,r]at h;rw[g]at c;have p:=SC w0.heap.size 4 C (by omega)
  have f:w0.heap.size=w.heap.size+1:=by rw[a];simp
  rw[f]at p c b;rw[a]at b;have d:(w.alloc (iC #[I .u8 0,I .u8 0,I .u8 0,I .u8 0] 303)).heap.size=w.heap.size+1:=by rw[<-a,f]
  rw[d]at h;have m:=af b;have y:=af c;clear b c g q i z a f d w0;go_wp2_with (first
   |refine Dz rfl _ rfl _ rfl _ y.o (jQ _ _) ?_
   |(refine vA rfl _ _ rfl w.heap.size _ [0,0,0,0] rfl rfl (l.o.below m.o (by simp)) (jQ _ _) rfl ?_;intro D j;have t:=af j;clear j)
   |go_in)
  have v:=(l.o.below m.o (by simp)).fS (cI s.data.toList k) (jQ _ _)
  have n:iL w.heap.size w D:=by
   rw[t.o];exact A8 (am _) _ _ _ ((aZ).trans (m.o.mono (by omega)))
  rw[<-t.o]at v;exact az (LG rfl _ _ _ _ rfl v (jQ _ _)) rfl ⟨rfl,n⟩
open Go.Maps Go.WideElems Go.MapKept
open Go.WideMaps (KeyLaw)
open Go.ChangeMaps (setBlock heap_setBlock_same heap_setBlock_other)
section
theorem Jd{w:iW}{o c d:Obj}(e:w.heap[b]?=X o)(h:setBlock w b c=setBlock w b d):c=d:=by
 have a:b<w.heap.size:=(aK.1 e).1;have:=congrArg (λx:iW=>x.heap[b]?) h
 simpa[setBlock,a]using this
theorem Xo (K:KeyLaw P k) (n:P.underlying t=X (.map k E)) {c:Nat} (f:w.heap[b]?=X (.map es c)) (d:w0.heap[b]?=X (.map es c))
 {R:iX->Option (DataW H×List MemPlace)} (F:Fit P k R es c) {key val:iX} (a:keyOf P k key=X kl) {o:Obj}
 (h:(Instr.mapUpdate t (.map (X b)) key val).run P w=.ok () (setBlock w b o)):(Instr.mapUpdate t (.map (X b)) key val).run P w0=.ok () (setBlock w0 b o):=by
 obtain⟨C,D,y⟩:=F.stamped;rcases K.find w a es.toList F.keys with⟨h1,e⟩|⟨j,s,h1,e,m⟩
 ·rcases K.find w0 a es.toList F.keys with⟨g1,g2⟩|⟨r,g,g1,g2,g3⟩
  ·have l:(Instr.mapUpdate t (.map (X b)) key val).run P w=.ok () (setBlock w b (.map (es.push ⟨key,val,c⟩) (c+1))):=by
    simp[Instr.mapUpdate,run_underlying n,MapKept.run_getObj_map f,K.check w iF a,h1,MapKept.run_setObj_map _ f,Result.andThen,setBlock]
   rw[h]at l;obtain rfl:=Jd f (by simpa using l)
   simp[Instr.mapUpdate,run_underlying n,MapKept.run_getObj_map d,K.check w0 iF a,g1,MapKept.run_setObj_map _ d,Result.andThen,setBlock]
  ·exact absurd g3 (e _ (aL g2))
 ·rcases K.find w0 a es.toList F.keys with⟨g1,g2⟩|⟨r,g,g1,g2,g3⟩
  ·exact absurd m (g2 _ (aL e))
  ·have q:j=r:=by
    obtain⟨v,z⟩:=aC.1 e;obtain⟨A,B⟩:=aC.1 g2;have:=(List.getElem?_inj (i:=j) (j:=r) (by simpa using v) y).1 (by rw[bh,bh,e,g2,fE,fE,m,g3])
    exact this
   subst q;have u:es[j]?=X s:=by simpa using e
   have l:(Instr.mapUpdate t (.map (X b)) key val).run P w=.ok () (setBlock w b (.map (es.modify j (λx=>{x with key:=key,val:=val})) c)):=by
    simp[Instr.mapUpdate,run_underlying n,MapKept.run_getObj_map f,K.check w iF a,h1,u,m,K.stays w a,MapKept.run_setObj_map _ f,Result.andThen,setBlock]
   rw[h]at l;obtain rfl:=Jd f (by simpa using l)
   have p:g=s:=by rw[e]at g2;simpa using g2.symm
   subst p;simp[Instr.mapUpdate,run_underlying n,MapKept.run_getObj_map d,K.check w0 iF a,g1,u,m,K.stays w0 a,MapKept.run_setObj_map _ d,Result.andThen,setBlock]
theorem Bu{w:iW}{a:Nat}(e:Obj)(d:w.heap[b]?=X (.map es a)):w.grownBy (setBlock w b e) (X b):=
 ⟨rfl,rfl,rfl,by simp[setBlock],λi _ hi=>heap_setBlock_other d _ (λc=>hi (by rw[c]))⟩
def US(h:iW)(P:Program)(t k:TypeId)(base:Nat)(e:TypeId)(q:IntKind)(b n:Nat)(D:DataW H)(kl:Lit)(v:iX)(i:Nat)(No:Nat->Prop):Prop:=
 ∀(d:iW) (c:iX) (a:List Int),h.grownBy d v.ownBlock->d.ownsInts base e q c a->a.length<=n+1->(c.ownBlock=v.ownBlock∨∃g,c.ownBlock=X g/\h.heap.size<=g)->(∀g,c.ownBlock=X g->¬No g)->
  ∃f,(Instr.entryStore t (.map (X b)) (goInt i) c).run P d=.ok () f/\f.ownsGroups P k base e q b (n+1) (D.put kl (rowDatum q c a))/\d.grownBy f (X b)/\f.Shuns b No
theorem Pt{ap:iX}(h:w.ownsGroups P k base e q b n D)(K:KeyLaw P k)(ht:P.underlying t=X (.map k E))(hz:∀u:iW,(zeroValue E).run P u=.ok (Y O 0 0) u)(hn:n<maxLen)(j:keyOf P k ap=X kl)(ag:w.Shuns b No):
 ∃(v:iX) (zs:List Int) (st:Nat) (w1:iW),(Instr.mapEntry t (.map (X b)) ap).run P w=.ok (iU #[v,goInt st]) w1/\D.atKey kl .nil=rowDatum q v zs/\w1.ownsInts base e q v zs/\zs.length<=n/\w.grownBy w1 (X b)/\w1.heap.size=w.heap.size/\
  (∀g,v.ownBlock=X g->¬No g)/\US w1 P t k base e q b n D kl v st No:=by
 have K':=AD K;have aG:=h;obtain⟨v,zs,Q,au,af,aD,T⟩:=h.at K' ht (hz w) hn j;obtain⟨es,a,C,F,hs,hD,aI,aF,aH⟩:=h;obtain⟨v0,st,J,d,ac,W,aA⟩:=entry_then_store K ht hz C F j;have ab:b<w.heap.size:=(aK.1 C).1;have aB:v0=v:=by
  rcases Maps.fit_look iF K' ht (hz w) C F j with⟨f,r,_⟩|⟨e0,y,ae,h3,f,_,_,_⟩
  ·rw[Q]at f;obtain rfl:v=Y O 0 0:=by simpa using f
   rcases W with⟨B,p,V,rfl⟩|⟨_,rfl⟩
   ·exact absurd V (r B p)
   ·rfl
  ·rw[Q]at f;obtain rfl:v=e0.val:=by simpa using f
   rcases W with⟨B,p,V,rfl⟩|⟨r,rfl⟩
   ·obtain⟨_,_,s3⟩:=F.stamped;obtain⟨i,hi,rfl⟩:=pw p;obtain⟨i',hi',rfl⟩:=pw ae;have:i=i':=(List.getElem?_inj (by simpa using hi) s3).1 (by rw[bh,bh,ay hi,ay hi',fE,fE,V,h3])
    subst this;rfl
   ·exact absurd h3 (r e0 ae)
 subst aB;have am:v0.ownBlock≠X b:=λB=>by have:=(af.1.lt b B).1;omega
 have ad:w.grownBy (setBlock w b (.map J d)) (X b):=Bu _ C;refine⟨v0,zs,st,setBlock w b (.map J d),ac,au,af.kept ad (Or.inr am),aD,ad,by simp[setBlock],?_,?_⟩
 ·intro g L;rcases W with⟨B,p,_,rfl⟩|⟨_,rfl⟩
  ·exact ag es a C B p g L
  ·cases L
 ·intro A v' aE L s ax N r;have m:(setBlock w b (.map J d)).heap.size=w.heap.size:=by simp[setBlock]
  have l:A.heap[b]?=X (.map J d):=(L.block b (by rw[m];exact ab) (λB=>am B.symm)).trans (heap_setBlock_same C _)
  obtain⟨o,c,M,aj⟩:=aA A v' l;have ak:v'.ownBlock≠X b:=λB=>by have:=(s.1.lt b B).1;omega
  -- the world with the map as it was
  have av:A.grownBy (setBlock A b (.map es a)) (X b):=Bu _ l;have S:(setBlock A b (.map es a)).heap[b]?=X (.map es a):=heap_setBlock_same l _;have aw:w.grownBy (setBlock A b (.map es a)) v0.ownBlock:=by
   refine⟨L.os,L.tape,L.output,?_,λi hi az=>?_⟩
   ·have:=L.size;rw[m]at this
    simpa[setBlock]using this
   ·by_cases U:i=b
    ·subst U;rw[S,C]
    ·rw[heap_setBlock_other l _ U,L.block i (by rw[m];exact hi) az,heap_setBlock_other C _ U]
  obtain⟨w3,z,x,aJ⟩:=T (setBlock A b (.map es a)) v' aE aw (s.kept av (Or.inr ak)) ax (by rw[m]at N;exact N)
  have ai:=Xo (w0:=setBlock A b (.map es a)) K ht C S F j aj;rw[z]at ai;obtain rfl:w3=setBlock (setBlock A b (.map es a)) b (.map o c):=by simpa using ai
  have ah:setBlock (setBlock A b (.map es a)) b (.map o c)=setBlock A b (.map o c):=by
   unfold setBlock;simp
  rw[ah]at x;refine⟨_,M,x,Bu _ l,?_⟩;obtain⟨aq,G,Z,an⟩:=stored_who (R:=rowElem (H:=H) w base e q) K' ht S F (Nat.lt_of_le_of_lt hs hn) j z;rw[ah,heap_setBlock_same l]at Z;intro ar I aa y hy g ao;rw[heap_setBlock_same l]at aa;obtain⟨rfl,rfl⟩:o=ar/\c=I:=by simpa using aa
  obtain⟨rfl,rfl⟩:o=aq/\c=G:=by simpa using Z
  rcases an y hy with⟨aC,_⟩|⟨_,al⟩
  ·exact ag es a C y aC g ao
  ·exact r g (al▸ao)
end
open Go.ChangeShapes (lits)
theorem Tryz.laidOutAll:laidOutB Tryz.prog=iV:=by kernel_rfl
theorem FU:(303:TypeId)<Tryz.prog.types.size:=ri (by kernel_rfl)
theorem OC:(match Tryz.prog.underlying 303 with|some (.array _ _)|some (.struct _)=>iV|_=>iF)=iV:=by kernel_rfl
theorem wP:KeyLaw Tryz.prog 303:=deep_law_laid Tryz.laidOutAll (m:=2) (by omega) FU (by kernel_rfl) OC
theorem Xc:Tryz.prog.keyType 303=iV:=by kernel_rfl
theorem MC:Tryz.prog.cellsOf 303=4:=by kernel_rfl
theorem ZK:Tryz.prog.cellsOf 5=1:=by kernel_rfl
theorem JF(w:iW):(zeroValue 36).run Tryz.prog w=.ok (Y O 0 0) w:=by kernel_rfl
theorem Us(c:UInt8):(Lit.int .u8 (c.toNat:Int)).wf=iV:=by
 have:=c.toNat_lt;have a:IntKind.u8.min=0:=by decide
 have b:IntKind.u8.max=255:=by decide
 simp[Lit.wf,a,b];omega
theorem J4(q:List UInt8)(i:q.length=4):∃kl,keyOf Tryz.prog 303 (iO q)=some kl:=by
 match q,i with
 | [a,b,c,d],_=>
  have f:(iO [a,b,c,d]).formed Tryz.prog 303=true:=by
   simp[iO,Value.formed,Tryz.underlying303,MC,bF]
  obtain⟨n,h⟩:∃n,Tryz.prog.types.size=n+1:=⟨Tryz.prog.types.size-1,(Nat.succ_pred_eq_of_pos (Nat.lt_of_le_of_lt (aJ _) FU)).symm⟩;have g:Tryz.prog.keyLits (Tryz.prog.types.size+1) 303 (iO [a,b,c,d]).cells.toList=some [.int .u8 (a.toNat:Int),.int .u8 (b.toNat:Int),.int .u8 (c.toNat:Int),.int .u8 (d.toNat:Int)]:=by
   rw[h];have e:(iO [a,b,c,d]).cells.toList=[.int .u8 (a.toNat:Int),.int .u8 (b.toNat:Int),.int .u8 (c.toNat:Int),.int .u8 (d.toNat:Int)]:=rfl;rw[e];simp[Program.keyLits,Tryz.underlying303,Tryz.underlying5,MC,ZK,List.range_succ,Us]
  exact⟨_,by unfold keyOf;simp only[Tryz.underlying303,Xc,f,g];rfl⟩
theorem Su{q q':List UInt8}(h:iO q=iO q'):q=q':=by
 unfold iO at h;injection h with h
 have d:bF q=bF q':=by simpa using h
 unfold bF at d;refine(List.map_inj_right (λa b c=>?_)).1 d
 injection c with _ c
 exact zt.1 (by omega)
variable{zs:List Int}{kl:Lit}{b m k n size:Nat}{No:Nat -> Prop}{e:TypeId}
theorem YW{q q':List UInt8}(h:keyOf Tryz.prog 303 (iO q)=X kl)(a:keyOf Tryz.prog 303 (iO q')=X kl):q=q':=Su (wP.inj h a)
def jq(s:List UInt8)(q:List UInt8)(m:Nat):List Nat:=(List.range m).filter λp=>decide (p+4<=s.length)&&decide (cI s p=q)
def iR(s:List UInt8)(q:List UInt8)(m:Nat):List Int:=(jq s q m).map Int.ofNat
def tS(zs:List Int):DataW Unit:=if zs=[]then .nil else .slice (lits .i64 zs) []
theorem Nh(s:List UInt8)(m:Nat)(h:m+4<=s.length):iR s (cI s m) (m+1)=iR s (cI s m) m++[(m:Int)]:=by
 simp[iR,jq,List.range_succ,List.filter_append,h]
theorem JT(s q:List UInt8)(m:Nat)(h:m+4<=s.length->cI s m≠q):iR s q (m+1)=iR s q m:=by
 by_cases h4:m+4<=s.length
 ·simp[iR,jq,List.range_succ,List.filter_append,h h4]
 ·simp[iR,jq,List.range_succ,List.filter_append,h4]
theorem AH(s q:List UInt8)(m:Nat):(iR s q m).length<=m:=by
 have:=List.length_filter_le (λp=>decide (p+4<=s.length)&&decide (cI s p=q)) (List.range m)
 simpa[iR,jq]using this
def hI(w:iW)(base b m:Nat)(s:List UInt8)(No:Nat->Prop):Prop:=
 ∃(n:Nat) (D:DataW Unit),n<=m/\w.ownsGroups Tryz.prog 303 base 3 J b n D/\w.Shuns b No/\
  ∀q kl,keyOf Tryz.prog 303 (iO q)=X kl->D.atKey kl .nil=tS (iR s q m)
theorem qqq{w:World}{base:Nat}{v:Value}{d:List Int}(f:w.ownsInts base 3 .i64 v zs)(h:tS d=rowDatum .i64 v zs):zs=d:=by
 unfold tS at h;rcases f.datum (H:=Unit)with⟨h1,e⟩|h1
 ·rw[h1]at h;split at h
  ·rename_i h0;rw[h0,e]
  ·cases h
 ·rw[h1]at h;split at h
  ·cases h
  ·simp only[DataW.slice.injEq]at h;have:=h.1;unfold lits at this;refine((List.map_inj_right (λa b c=>?_)).1 this).symm
   simpa using c
theorem abF(w:World)(s:List UInt8)(No:Nat->Prop):hI (w.alloc (.map #[] 0)) (w.heap.size+1) w.heap.size 0 s No:=by
 refine⟨0,_,am _,World.ownsGroups_made _ _ _ _ _,World.Shuns_made _ _,λq kl _=>?_⟩
 simp[tS,iR,jq,DataW.atKey]
theorem Cw{w:iW}{base:Nat}{s:List UInt8}(h:hI w base b m s No):b<w.heap.size/\b<base:=by
 obtain⟨n,D,_,⟨es,a,d,_,_,_,c,_⟩,_⟩:=h;exact⟨(aK.1 d).1,c⟩
theorem sS{w w':iW}{base:Nat}{s:List UInt8}{row:Option Nat}(h:hI w base b m s No)(d:w.grownBy w' row)(f:∀j,row=X j->No j/\j≠b):hI w' base b m s No:=by
 have c:=(Cw h).1;obtain⟨n,D,k,l,hs,g⟩:=h;have a:X b≠row:=λe=>(f b e.symm).2 rfl
 exact⟨n,D,k,l.kept d a (hs.rowsOff λj i=>(f j i).1),hs.kept d c a,g⟩
theorem F7{w:iW}{base:Nat}{s:List UInt8}{No':Nat->Prop}(h:hI w base b m s No)(e:∀g,No' g->No g∨w.heap.size<=g):hI w base b m s No':=by
 obtain⟨n,D,a,c,hs,d⟩:=h;exact⟨n,D,a,c,hs.reno c e,d⟩
theorem PD{w:iW}{base:Nat}{s:List UInt8}(h:hI w base b m s No)(h4:¬m+4<=s.length):hI w base b (m+1) s No:=by
 obtain⟨n,D,e,d,hs,a⟩:=h;refine⟨n,D,by omega,d,hs,λq kl c=>?_⟩
 rw[JT s q m (λh=>absurd h h4)]
 exact a q kl c
theorem NF{w:iW}{base:Nat}{s:List UInt8}(h:hI w base b m s No)(o:m<=64)(q:List UInt8)(k:q.length=4):
 ∃v:iX,(∀g:Bool,g=iF->(Instr.lookup 269 (.map (X b)) (iO q) g).run Tryz.prog w=.ok v w)/\w.ownsInts base 3 J v (iR s q m):=by
 obtain⟨n,D,p,j,hs,i⟩:=h;obtain⟨kl,c⟩:=J4 q k;obtain⟨v,zs,e,a,d,l,_⟩:=j.at (AD wP) Tryz.underlying269 (JF w) (by unfold maxLen;omega) c
 rw[i q kl c]at a;have:=qqq d a;subst this;exact⟨v,λg f=>by subst f;exact e,d⟩
theorem Qx{w:World}{base:Nat}{s:List UInt8}(h:hI w base b m s No)(T:m<64)(h4:m+4<=s.length):
 ∃(v:Value) (B:Nat) (i:World),(Instr.mapEntry 269 (.map (some b)) (iO (cI s m))).run Tryz.prog w=.ok (.tuple #[v,.int .i64 B]) i/\w.grownBy i (some b)/\i.heap.size=w.heap.size/\
  i.ownsInts base 3 .i64 v (iR s (cI s m) m)/\(∀g,v.ownBlock=some g->¬No g)/\
  ∀(r:World) (p:Value),i.grownBy r v.ownBlock->r.ownsInts base 3 .i64 p (iR s (cI s m) m++[(m:Int)])->(p.ownBlock=v.ownBlock∨∃g,p.ownBlock=some g/\i.heap.size<=g/\¬No g)->
   ∃A,(Instr.entryStore 269 (.map (some b)) (.int .i64 B) p).run Tryz.prog r=.ok () A/\hI A base b (m+1) s No/\r.grownBy A (some b):=by
 obtain⟨n,D,U,P,hs,O⟩:=h;obtain⟨kl,d⟩:=J4 (cI s m) (jQ _ _);have F:IsMap D:=by
  obtain⟨es,C,_,_,_,rfl,_⟩:=P;exact⟨_,rfl⟩
 obtain⟨v,zs,B,i,y,t,x,N,R,M,z,j⟩:=Pt P wP Tryz.underlying269 JF (by unfold maxLen;omega) d hs
 rw[O _ kl d]at t;have:=qqq x t;subst this;refine⟨v,B,i,y,R,M,x,z,λr p G u f=>?_⟩
 obtain⟨A,L,J,H,K⟩:=j r p _ G u (by have:=N;simp;omega) (f.imp id (λ⟨g,a,b,_⟩=>⟨g,a,b⟩)) (λg k=>by
  rcases f with E|⟨S,E,_,Q⟩
  ·exact z g (E▸k)
  ·rw[E]at k;cases k;exact Q)
 refine⟨A,L,⟨n+1,_,by omega,J,K,λq o c=>?_⟩,H⟩
 by_cases l:cI s m=q
 ·subst l;have:o=kl:=by rw[d]at c;simpa using c.symm
  subst this;rw[atKey_put_same F ((AD wP).key c),Nh s m h4,u.datum_pos (by simp)]
  unfold tS;rw[ai (by simp)]
 ·have I:o≠kl:=λe=>l (YW d (e▸c))
  rw[atKey_put_other I,JT s q m (λ_=>l)]
  exact O q o c
theorem zj {a c:iW} {base:Nat} {s q:List UInt8} (g:q.length=4) (h:hI a base b k s No)
 (e:c=(a.alloc (iC #[I .u8 0,I .u8 0,I .u8 0,I .u8 0] 303)).setCells a.heap.size 0 (bF q)):
 kw c a.heap.size q/\hI c base b k s No/\iL a.heap.size a c/\c.heap.size=a.heap.size+1:=by
 have i:=ww a [0,0,0,0] #[I .u8 0,I .u8 0,I .u8 0,I .u8 0] 303 rfl;have h1:=i.fS q (by rw[g];rfl)
 have d:iL a.heap.size a c:=by
  rw[e];exact A8 (am _) _ _ _ (aZ)
 rw[<-e]at h1;exact⟨h1,sS h (vh d O) (λj f=>by cases f),d,by rw[e,AZ];simp⟩
theorem QI {w p l:iW} {base:Nat} {s:List UInt8} (V:k<64) (h4:k+4<=s.length) (h:hI p base b k s No) (W:w.heap.size<=p.heap.size)
 (D:aR w p (λi=>i≠b/\(i<base∨No i))) (U:∀g,No g->g<w.heap.size)
 (e:l=(p.alloc (iC #[I .u8 0,I .u8 0,I .u8 0,I .u8 0] 303)).setCells p.heap.size 0 (bF (cI s k))):
 ah (kw l p.heap.size (cI s k))/\w.heap.size<=l.heap.size/\∃(v:iX) (C:Nat) (m:iW),(Instr.mapEntry 269 (.map (X b)) (iO (cI s k))).run Tryz.prog (l.alloc (iC #[I J (k:Int)] 3))=.ok (iU #[v,I J C]) m/\
  w.heap.size<=m.heap.size/\ah (∀j u,[I J (k:Int)][j]?=X u->m.cell? ((⟨l.heap.size,0,O⟩:Addr).add j)=X u)/\ah (m.ownsInts base 3 J v (iR s (cI s k) k))/\
  ah (∀(B:iW) (o:iX),m.grownBy B v.ownBlock->B.ownsInts base 3 J o (iR s (cI s k) k++[(k:Int)])->(o.ownBlock=v.ownBlock∨o.ownBlock=X m.heap.size)->
   ∃f,(Instr.entryStore 269 (.map (X b)) (I J C) o).run Tryz.prog B=.ok () f/\ah (hI f base b (k+1) s No)/\ah (aR w f (λi=>i≠b/\(i<base∨No i)))):=by
 obtain⟨M,z,E,Q⟩:=zj (jQ _ _) h e;have F:=sS (w':=l.alloc (iC #[I J (k:Int)] 3)) z (zI _ _ O) (λj a=>by cases a)
 obtain⟨v,C,m,q,t,S,A,L,n⟩:=Qx F V h4;have R:(l.alloc (iC #[I J (k:Int)] 3)).heap.size=l.heap.size+1:=by simp
 have P:=(Cw z).1;refine⟨M,by omega,v,C,m,q,by omega,λj u a=>t.cell (cell_one_new _ _ _ j u a) (by rw[fh];intro T;have Y:l.heap.size=b:=(by simpa using T);omega),A,λB o c H x=>?_⟩
 obtain⟨f,K,y,r⟩:=n B o c H (x.imp id (λh=>⟨_,h,am _,λG=>by have:=U _ G;omega⟩))
 refine⟨f,K,y,?_⟩;refine D.trans ((aR.below E).trans ((aR.grown (zI l (iC #[I J (k:Int)] 3) O) (λj a=>by cases a)).trans ((aR.grown t (λj a d=>by cases a;exact d.1 rfl)).trans ((aR.grown c (λj a d=>?_)).trans (aR.grown r (λj a d=>by cases a;exact d.1 rfl))))))
 have h1:=(A.1.lt j a).1;rcases d.2 with N|N
 ·omega
 ·exact L j a N
theorem UY(s:ByteArray)(b base A n:Nat)(w:iW)(No:Nat->Prop)(hs:s.size<=64)(F:A<=n)(h2:n<=s.size)(P:∀g,No g->g<w.heap.size)(hB:base<=w.heap.size)(S:hI w base b A s.data.toList No):
 iK Tryz.prog 196 #[.map (X b),iT s,I J A,I J n] w λe w'=>e=G (iU #[])/\hI w' base b n s.data.toList No/\aR w w' (λi=>i≠b/\(i<base∨No i)):=by
 have R:s.data.toList.length=s.size:=by simp
 obtain⟨i0,hi,H,K,L⟩:=bO mr;have Z:=af S;have Y:=af P;clear S P;go_enter Tryz.func196,Tryz.ntmps196;go_wp2;go_loopw [8] (λM wr=>∃k:Nat,A<=k/\k<=n/\M=I J k/\ah (hI wr base b k s.data.toList No)/\ah (aR w wr (λi=>i≠b/\(i<base∨No i)))) (λM _=>n-(intOf M).toNat)
 case atStart=>exact⟨A,am _,F,rfl,Z,aR.refl _ _⟩
 case round=>
  obtain⟨k,ab,ac,rfl,D,B⟩:=hrel;have ag:=B.o.2.2.2.1;by_cases ad:(k:Int)<n
  ·go_wp2_with fail;refine(Hw s k _ hs (by omega)).mono ?_
   rintro e N ⟨rfl,l⟩;have h:=af (sS D.o (vh l O) (λj hj=>by cases hj))
   have f:=af (B.o.trans (aR.below l));have T:=l.size;clear D B l;have U:=af (ww N [0,0,0,0] #[I .u8 0,I .u8 0,I .u8 0,I .u8 0] 303 rfl);by_cases h4:k+4<=s.size
   ·rw[aS h4];go_wp2_with (first
     |(refine vA rfl _ _ rfl N.heap.size _ [0,0,0,0] rfl rfl U.o (jQ _ _) rfl ?_
       intro V d;obtain⟨HY,z,v,st,w8,Q,aa,W,p,q⟩:=QI (w:=w) (by omega) (by rw[R];exact h4) h.o (by omega) f.o Y.o d
       clear d h f)
     |refine Dz rfl _ rfl _ rfl _ HY.o (jQ _ _) ?_
     |(at_builtin
       refine rS _ rfl _ _ 36 rfl base 3 i0 (I J 0) 1 8 Tryz.underlying36 hi H K L rfl (by decide) _ _ _ rfl p.o.1 ⟨V.heap.size,0,O⟩ 1 1 [I J (k:Int)] rfl rfl W.o (tD _) (by have:=AH s.data.toList (cI s.data.toList k) k;unfold maxLen;omega) (by have:=AH s.data.toList (cI s.data.toList k) k;omega) (by omega) ?_
       intro v' w9 c a y m;obtain⟨ai,ae,t,r⟩:=q.o w9 v' a (p.o.appended c (WalkArith.wf_i64 (by omega))) m
       clear c a y m q p)
     |go_in)
    go_roundw
    case rel=>exact⟨k+1,by omega,by omega,by go_num,t,r⟩
    case measure=>simp[intOf];omega
   ·rw[aV h4];go_wp2_with (first
     |(refine vA rfl _ _ rfl N.heap.size _ [0,0,0,0] rfl rfl U.o (jQ _ _) rfl ?_
       intro V d;obtain⟨-,x,u,z⟩:=zj (jQ _ _) h.o d;have E:=af x;have C:=af (f.o.trans (aR.below u));clear d x u h f)
     |go_in)
    go_roundw
    case rel=>exact⟨k+1,by omega,by omega,by go_num,PD E.o (by rw[R];exact h4),C⟩
    case measure=>simp[intOf];omega
  ·have:k=n:=by omega
   subst this;go_wp2;exact bodyPost_end (kG rfl _ _ _) rfl ⟨rfl,D.o,B.o⟩
theorem xW(s:ByteArray)(w:iW)(hs:s.size<=281474976710656):
 iK Tryz.prog 150 #[iT s] w λe w'=>e=G (iT s)/\iL w.heap.size w w':=by
 go_enter Tryz.func150,Tryz.ntmps150;go_wp2_with fail;refine(Tryz.stringslite_Clone _ _ hs).mono ?_;rintro e w' ⟨rfl,a⟩;go_wp2;go_ret;exact⟨rfl,a⟩
def ux(w:iW)(base:Nat)(v:iX)(e:Ending)(w':iW)(l:List (Nat×Nat×List UInt8)):Prop:=
 ∃a:iX,e=G a/\w'.ownsRow base 150 3 a l.length (cK l)/\w.grownBy w' v.ownBlock/\(a.ownBlock=v.ownBlock∨∃g,a.ownBlock=X g/\w.heap.size<=g)
theorem Rt{w:iW}{base:Nat}{v:iX}{xs:List iX}(h:w.ownsRow base e size v n xs):∃(a:Option Addr) (cap:Nat),v=Y a n cap:=by
 rcases h.2 with⟨rfl,rfl⟩|⟨g,cap,b,rfl,-⟩
 ·exact⟨_,_,rfl⟩
 ·exact⟨_,_,rfl⟩
theorem XM (v:iX) (l:List (Nat×Nat×List UInt8)) (c:UInt8) (u:ByteArray) (base:Nat) (w:iW) (hu:u=⟨[c].toArray⟩) (hl:l.length<=100) (hB:base<=w.heap.size) (r:w.ownsRow base 150 3 v l.length (cK l))
 (hn:l=[]∨∃H b z t,l=H++[(b,z,t)]/\(0<b∨(b=0/\t.length=31))):
 iK Tryz.prog 195 #[v,iT u] w λe w'=>ux w base v e w' (l++[(0,0,[c])]):=by
 obtain⟨i0,hi,D,E,F⟩:=bO uO;have C:u.size<=281474976710656:=by rw[hu];show 1<=_;omega
 have HU:=af hu;have K:=af r;obtain⟨M,cap,rfl⟩:=Rt r;clear hu r;have Q:∀k,iL w.heap.size w k->ah (k.ownsRow base 150 3 (Y M l.length cap) l.length (cK l)):=λk S=>bC K.o S
 have U:=af Q;clear Q;have x:∀(k s:iW) (p:iX),iL w.heap.size w k->s.ownsRow base 150 3 p (l.length+1) (cK l++[I J 0,I J 0,iT u])->(k.alloc (iC #[I J 0,I J 0,iT u] 150)).grownBy s (Y M l.length cap).ownBlock->
  (p.ownBlock=(Y M l.length cap).ownBlock∨p.ownBlock=X (k.heap.size+1))->ah (ux w base (Y M l.length cap) (G p) s (l++[(0,0,[c])])):=by
  intro k s p S ho hg i;have hs:=S.size;refine⟨p,rfl,?_,(vh S _).trans ((zI k _ _).trans hg),i.imp id (λh=>⟨_,h,by omega⟩)⟩
  rw[<-og,aI];rw[HU.o]at ho;exact ho
 have V:=af x;clear x;go_enter Tryz.func195,Tryz.ntmps195;rcases hn with rfl|⟨H,b,z,t,y,ab⟩
 ·go_wp2_with fail;refine(xW u _ C).mono ?_;rintro e k ⟨rfl,j⟩;have n:=af (U.o k j).o;have m:=af j;have T:=j.size;clear j;go_wp2_with (at_builtin;refine rS _ rfl _ _ 147 rfl base 150 i0 (iA #[I J 0,I J 0,iT ⟨#[]⟩]) 3 32 Tryz.underlying147 hi D E F rfl (by decide) _ _ _ rfl (by exact n.o.alloc _) ⟨k.heap.size,0,O⟩ 1 1 [I J 0,I J 0,iT u] rfl rfl (by exact oq _ _ _ _ _) (nW _ _ _) (by unfold maxLen;omega) (by omega) (by simp;omega) ?_)
  intro p s f d _ i;have L:=V.o k s p m.o f d i;clear f d i n m;go_wp2;go_ret;exact L.o
 ·have q:l.length=H.length+1:=by rw[y];simp
  obtain⟨Z,P,hv⟩:=yx K.o (by omega)
  obtain⟨rfl,rfl⟩:M=X ⟨Z,0,O⟩/\cap=P:=by
   injection hv with a b c
   exact⟨a,c⟩
  have R:l[H.length]?=X (b,z,t):=by rw[y];simp
  obtain⟨k1,k2,k3⟩:=yj l H.length (b,z,t) R;have c1:=K.o.cells (g:=Z) rfl _ _ k1;have c3:=K.o.cells (g:=Z) rfl _ _ k3;rw[fh,we]at c1 c3;obtain⟨N,hN⟩:∃N,N=H.length:=⟨_,rfl⟩;rw[<-hN]at c1 c3 q;obtain⟨W,B⟩:∃W:ByteArray,W=⟨t.toArray⟩:=⟨_,rfl⟩;have A:W.size=t.length:=by rw[B];show t.toArray.size=_;simp
  rw[<-B]at c3;simp only at c1;rw[q]at U V K⊢;have aa:N+1<=100:=by omega
  have n0:(0:Int)<=N:=by omega
  clear R k1 k2 k3 hv hl q hN y B;rcases ab with S|⟨rfl,ht⟩
  ·have ad:(0:Int)<b:=by omega
   clear c3 A;go_wp2_with fail;refine(xW u _ C).mono ?_;rintro e k ⟨rfl,j⟩;have n:=af (U.o k j).o;have m:=af j;have T:=j.size;clear j;go_wp2_with (at_builtin;refine rS _ rfl _ _ 147 rfl base 150 i0 (iA #[I J 0,I J 0,iT ⟨#[]⟩]) 3 32 Tryz.underlying147 hi D E F rfl (by decide) _ (N+1) (cK l) rfl (by exact n.o.alloc _) ⟨k.heap.size,0,O⟩ 1 1 [I J 0,I J 0,iT u] rfl rfl (by exact oq _ _ _ _ _) (nW _ _ _) (by unfold maxLen;omega) (by omega) (by simp;omega) ?_)
   intro p s f d _ i;have L:=V.o k s p m.o f d i;clear f d i n m;go_wp2;go_ret;exact L.o
  ·have ac:((W.size:Int)==31)=iV:=by rw[A,ht];rfl
   clear A;go_wp2_with fail;refine(xW u _ C).mono ?_;rintro e k ⟨rfl,j⟩;have n:=af (U.o k j).o;have m:=af j;have T:=j.size;clear j;go_wp2_with (at_builtin;refine rS _ rfl _ _ 147 rfl base 150 i0 (iA #[I J 0,I J 0,iT ⟨#[]⟩]) 3 32 Tryz.underlying147 hi D E F rfl (by decide) _ (N+1) (cK l) rfl (by exact n.o.alloc _) ⟨k.heap.size,0,O⟩ 1 1 [I J 0,I J 0,iT u] rfl rfl (by exact oq _ _ _ _ _) (nW _ _ _) (by unfold maxLen;omega) (by omega) (by simp;omega) ?_)
   intro p s f d _ i;have L:=V.o k s p m.o f d i;clear f d i n m;go_wp2;go_ret;exact L.o
theorem Yg (v:iX) (a:List (Nat×Nat×List UInt8)) (z:Nat) (t:List UInt8) (c:UInt8) (u:ByteArray) (base:Nat) (w:iW) (F:u=⟨[c].toArray⟩) (M:a.length<=100) (P:t.length<31)
 (f:w.ownsRow base 150 3 v (a++[(0,z,t)]).length (cK (a++[(0,z,t)]))):
 iK Tryz.prog 195 #[v,iT u] w λe w'=>ux w base v e w' (a++[(0,z,t++[c])]):=by
 have B:=af F;have m:=af f;have d:(a++[((0:Nat),z,t)]).length=a.length+1:=by simp
 obtain⟨j,i,rfl⟩:=yx f (by omega)
 clear F f;have n:(a++[((0:Nat),z,t)])[a.length]?=X (0,z,t):=by simp
 obtain⟨H,Q,I⟩:=yj _ a.length (0,z,t) n;have c1:=m.o.cells (g:=j) rfl _ _ H;have c3:=m.o.cells (g:=j) rfl _ _ I;rw[fh,we]at c1 c3;have J:=m.o.frozenAt (a.length*3+2);obtain⟨x,y⟩:∃x:ByteArray,x=⟨(t++[c]).toArray⟩:=⟨_,rfl⟩;have b:=Ji m.o rfl (a.length*3+2) (iT x);rw[y,show a.length*3+2=3*a.length+2 by omega,Ik,<-y]at b
 rw[show 3*a.length+2=a.length*3+2 by omega]at b
 obtain⟨l,h⟩:∃l:ByteArray,l=⟨t.toArray⟩:=⟨_,rfl⟩;have q:l.size=t.length:=by rw[h];show t.toArray.size=_;simp
 have K:((l.size:Int)==31)=iF:=by rw[dk,q];omega
 have r:l.size<31:=by omega
 rw[<-h]at c3;have s:l++u=x:=by
  rw[h,B.o,y];apply lg;simp[ByteArray.data_append]
 have A:u.size=1:=by rw[B.o];rfl
 have E:∀W,(Go.Op.stringOp .add l u).run Tryz.prog W=.ok (iT x) W:=by
  intro W;unfold Go.Op.stringOp;simp only[];rw[ai (by show¬_>(9223372036854775807:Int);omega),s]
  rfl
 have p:w.grownBy (w.setCell ⟨j,a.length*3+2,O⟩ (iT x)) (X j):=⟨rfl,rfl,rfl,by simp[World.setCell],λk _ L=>aO _ _ _ _ (λe=>L (by rw[e]))⟩
 have C:ah (ux w base (Y (X ⟨j,0,O⟩) (a.length+1) i) (G (Y (X ⟨j,0,O⟩) (a.length+1) i)) (w.setCell ⟨j,a.length*3+2,O⟩ (iT x)) (a++[(0,z,t++[c])])):=by
  refine⟨_,rfl,?_,p,Or.inl rfl⟩;rw[d]at b;have:(a++[((0:Nat),z,t++[c])]).length=a.length+1:=by simp
  rw[this];exact b
 rw[d];obtain⟨N,D⟩:∃N,N=a.length:=⟨_,rfl⟩;rw[<-D]at c1 c3 J C M⊢;simp only at c1;have R:(0:Int)<=N:=by omega
 clear n H Q I d b y h s D m p q r A P;go_enter Tryz.func195,Tryz.ntmps195;go_wp2;go_ret;exact C.o
end Go.Proofs.YtgigcooffjjbgaaGreatDoor
