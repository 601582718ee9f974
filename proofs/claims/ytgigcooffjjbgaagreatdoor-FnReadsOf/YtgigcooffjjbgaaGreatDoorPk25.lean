/-
  PkCut; IMatch; LMath; Longest; ITok; IPack; IUnp
-/
import Derived.Test.YtgigcooffjjbgaaGreatDoorPk24
open Go.Value renaming int→I,slice→Y,string→iT,bool→iB,pointer→iP,agg→iA,tuple→iU
open Go.IntKind renaming i64→J
open Option renaming none→O,some→X
open Go.Ending renaming returned→G
open Go.Obj renaming cells→iC
open Bool renaming true→iV,false→iF
open Go renaming World→iW,Value→iX,Calls→iK
open Go.RowKit renaming Below→iL
set_option maxHeartbeats 1000000
set_option maxRecDepth 100000
namespace Go.Proofs.YtgigcooffjjbgaaGreatDoor
open Go.RowKit Pack
theorem Rd:(Tryz.prog.info? 150).map (·.size)=X 3:=by kernel_rfl
variable{t:ByteArray}{fn:Func}{g B:Nat}
theorem wT {p q r:Tmp} (h:fn.results= #[.cell p 150,.tmp q,.tmp r]) (c:Array iX) (w:iW) (g:Nat) (a b:Int) (t:ByteArray)
 (i:c.getD p undef=iP (X ⟨g,0,O⟩)) (e:dC w g a b t):
 (results fn c).run Tryz.prog w=.ok (iU #[iA #[I J a,I J b,iT t],c.getD q undef,c.getD r undef]) w:=by
 have d:c[p]?.getD undef=iP (X ⟨g,0,O⟩):=by simpa using i
 have f:=lL (P:=Tryz.prog) w g 150 150 _ _ _ e Tryz.underlying150 rfl Rd;simp[results,h,d,asAddr,f]
def BA(l:List UInt8):ByteArray:=⟨l.toArray⟩
theorem mA(l:List UInt8):(BA l).size=l.length:=by show l.toArray.size=_;simp
theorem oN(l:List UInt8):(BA l).data.toList=l:=rfl
theorem A9(l:List UInt8)(a b:Nat):(BA l).extract a b=BA ((l.drop a).take (b-a)):=by
 apply lg;apply sD;rw[vP];rfl
theorem yW(l:List UInt8)(k:Nat)(x:Int)(a:x=k)(b:k<=l.length)(W:iW):(Instr.slice 9 (iT (BA l)) (X (I J x)) O O).run Tryz.prog W=.ok (iT (BA (l.drop k))) W:=by
 subst a;rw[run_slice_string_from_if W 9 (BA l) J _ Tryz.underlying9,ak (by rw[mA];omega),A9,mA]
 rw[ci (by rw[iz];simp)]
 rfl
theorem abJ(l:List UInt8)(k:Nat)(x:Int)(a:x=k)(b:k<=l.length)(W:iW):(Instr.slice 9 (iT (BA l)) O (X (I J x)) O).run Tryz.prog W=.ok (iT (BA (l.take k))) W:=by
 subst a;rw[run_slice_string_to_if W 9 (BA l) J _ Tryz.underlying9,ak (by rw[mA];omega),A9]
 rfl
theorem uX(l:List UInt8)(k:Nat)(c:UInt8)(x:Int)(d:x=k)(a:l[k]?=X c)(W:iW):(Instr.index 9 (iT (BA l)) (I J x)).run Tryz.prog W=.ok (I .u8 ((c.toNat:Nat):Int)) W:=by
 have b:=(aC.1 a).1;have:=uC (BA l) k x d (by rw[mA];exact b) W
 rw[oN,pL,a]at this;exact this
theorem dC.set0{w:iW}{a b:Int}(h:dC w g a b t)(c:Int):dC (w.setCell ⟨g,0,O⟩ (I J c)) g c b t:=by
 unfold dC at*;rw[qB w g 0 _ _ (0,0) _ h];exact qt w g _ _ _ _ h
theorem dC.set1{w:iW}{a b:Int}(h:dC w g a b t)(c:Int):dC (w.setCell ⟨g,1,O⟩ (I J c)) g a c t:=by
 unfold dC at*;rw[qB w g 1 _ _ (0,0) _ h];exact qt w g _ _ _ _ h
theorem dC.set2{w:iW}{a b:Int}(h:dC w g a b t)(t':ByteArray):dC (w.setCell ⟨g,2,O⟩ (iT t')) g a b t':=by
 unfold dC at*;rw[qB w g 2 _ _ (0,0) _ h];exact qt w g _ _ _ _ h
theorem dC.drewN{w:iW}{a b:Int}(h:dC w g a b t)(k:Nat):dC (w.drewN k) g a b t:=h.below (bY (ax _ _) k)
theorem zf{a w:iW}{x y z:iX}(h:iL B a w)(b:B<=g):iL B a (((w.setCell ⟨g,0,O⟩ x).setCell ⟨g,1,O⟩ y).setCell ⟨g,2,O⟩ z):=
 ((h.setCell (p:=⟨g,0,O⟩) b x).setCell (p:=⟨g,1,O⟩) b y).setCell (p:=⟨g,2,O⟩) b z
theorem L7:(BA []).toList.isEmpty=iV:=by rw[mU];rfl
theorem Mu(c:UInt8)(r:List UInt8):(BA (c::r)).toList.isEmpty=iF:=by rw[mU];rfl
theorem NJ(n:UInt8)(r:List UInt8)(w:iW)(q:r.length<=1000):
 iK Tryz.prog 192 #[iT (BA (n::r))] w λe w'=>(∃(a b:Nat) (t s:List UInt8) (ok:Bool),e=G (iU #[iA #[I J (a:Int),I J (b:Int),iT (BA t)],iT (BA s),iB ok])/\
  s.length<=r.length/\(ok=iV->RG 128 (n::r)=(RG 128 s).map λl=>(a,b,t)::l)/\(ok=iF->RG 128 (n::r)=O))/\iL w.heap.size w w':=by
 have p:=n.toNat_lt;have u:=uX (n::r) 0 n 0 rfl rfl;have c1:=yW (n::r) 1 1 rfl (by simp)
 rw[Eb,BM]at c1;by_cases g:(128:Int)<=n.toNat
 ·cases r with
  |nil=>
   have c:=af (Fv 128 n (by omega))
   have k:=L7;have f:=af (su w 0 0 ⟨#[]⟩);have d:=af ((ax w.heap.size w).alloc (am _) (iC #[I J 0,I J 0,iT ⟨#[]⟩] 150));go_enter Tryz.func192,Tryz.ntmps192;go_wp2;go_quiet (fail);go_wp2;exact az (wT rfl _ _ w.heap.size _ _ _ rfl ((((f.o.drewN _).set0 _).set1 _).set2 _)) rfl ⟨⟨0,0,[],[],iF,rfl,am _,(λh=>by cases h),λ_=>c.o⟩,zf (bY d.o _) (am _)⟩
  |cons b r=>
   have i:=b.toNat_lt;have k:=Mu b r;have v:=uX (b::r) 0 b 0 rfl rfl;have c2:=yW (b::r) 1 1 rfl (by simp)
   rw[Eb,BM]at c2;have c:=af (Fe 128 n b r (by omega))
   have f:=af (su w 0 0 ⟨#[]⟩);have d:=af ((ax w.heap.size w).alloc (am _) (iC #[I J 0,I J 0,iT ⟨#[]⟩] 150));go_enter Tryz.func192,Tryz.ntmps192;go_wp2;go_quiet (fail);go_wp2;go_region;go_wp2;exact az (wT rfl _ _ w.heap.size _ _ _ rfl ((((f.o.drewN _).set0 _).set1 _).set2 _)) rfl ⟨⟨b.toNat,n.toNat-128,[],r,iV,(by rw[show((n.toNat-128:Nat):Int)=(n.toNat:Int)-128 by omega];rfl),Nat.le_succ _,(λ_=>c.o),λh=>by cases h⟩,zf (bY d.o _) (am _)⟩
 ·have f:=af (su w 0 0 ⟨#[]⟩);have d:=af ((ax w.heap.size w).alloc (am _) (iC #[I J 0,I J 0,iT ⟨#[]⟩] 150));have j:=mA r;by_cases m:(r.length:Int)<n.toNat
  ·have c:=af (Mr 128 n r (by omega) (by omega))
   go_enter Tryz.func192,Tryz.ntmps192;go_wp2;go_quiet (fail);go_wp2;exact az (wT rfl _ _ w.heap.size _ _ _ rfl ((((f.o.drewN _).set0 _).set1 _).set2 _)) rfl ⟨⟨0,0,[],[],iF,rfl,aJ _,(λh=>by cases h),λ_=>c.o⟩,zf (bY d.o _) (am _)⟩
  ·have c:=af (AL 128 n r (by omega) (by omega))
   have c2:=abJ r n.toNat (n.toNat:Int) rfl (by omega)
   have c3:=yW r n.toNat (n.toNat:Int) rfl (by omega)
   go_enter Tryz.func192,Tryz.ntmps192;go_wp2;go_quiet (fail);go_wp2;go_region;go_wp2;exact az (wT rfl _ _ w.heap.size _ _ _ rfl ((((f.o.drewN _).set0 _).set1 _).set2 _)) rfl ⟨⟨0,0,r.take n.toNat,r.drop n.toNat,iV,rfl,(by rw[iz];omega),(λ_=>c.o),λh=>by cases h⟩,zf (bY d.o _) (am _)⟩
theorem Nn(s:ByteArray)(i j:Nat)(w:iW)(hs:s.size<=64)(x:i<j)(B:j<=s.size):
 iK Tryz.prog 226 #[iT s,I J i,I J j] w λe w'=>e=G (I J (bT 31 (s.data.toList.drop i) (s.data.toList.drop j):Nat))/\iL w.heap.size w w':=by
 have m:s.data.toList.length=s.size:=by simp
 go_enter Tryz.func226,Tryz.ntmps226;go_wp2;go_loopw [7] (λq wr=>∃n:Nat,n<=31/\j+n<=s.size/\q=I J n/\ah (bT 31 (s.data.toList.drop i) (s.data.toList.drop j)=n+bT (31-n) (s.data.toList.drop (i+n)) (s.data.toList.drop (j+n)))/\iL w.heap.size w wr) (λq _=>31-(intOf q).toNat)
 case atStart=>exact⟨0,by omega,by omega,rfl,(by show _=0+_;simp),ax _ _⟩
 case round=>
  obtain⟨n,C,y,rfl,d,f⟩:=hrel;have D:IntKind.i64.wrap ((j:Int)+n)=(j:Int)+n:=by rw[cm];omega
  have E:IntKind.i64.wrap ((i:Int)+n)=(i:Int)+n:=by rw[cm];omega
  have l:=af f;clear f;by_cases v:n<31
  ·have t:decide ((n:Int)<31)=iV:=aS (by omega)
   by_cases z:j+n<s.size
   ·have u:decide ((j:Int)+n<s.size)=iV:=aS (by omega)
    have p:=uC s (i+n) ((i:Int)+n) (by omega) (by omega)
    have r:=uC s (j+n) ((j:Int)+n) (by omega) (by omega)
    by_cases b:s.data.toList.getD (i+n) 0=s.data.toList.getD (j+n) 0
    ·have a:ah (bT 31 (s.data.toList.drop i) (s.data.toList.drop j)=(n+1)+bT (31-(n+1)) (s.data.toList.drop (i+(n+1))) (s.data.toList.drop (j+(n+1)))):=by
      show _=_;rw[d.o,show 31-n=(31-(n+1))+1 by omega,sB _ _ _ _ (by omega) (by omega) b,show i+n+1=i+(n+1)by omega,show j+n+1=j+(n+1)by omega]
      omega
     rw[b]at p;generalize(s.data.toList.getD (j+n) 0).toNat=c at p r;have A:((c:Int)==(c:Int))=iV:=by simp
     clear d b m;go_wp2;go_quiet (fail);go_wp2;go_roundw
     case rel=>exact⟨n+1,by omega,by omega,by go_num,a,bY l.o _⟩
     case measure=>simp[intOf];omega
    ·have a:ah (bT 31 (s.data.toList.drop i) (s.data.toList.drop j)=n):=by
      show _=_;rw[d.o,ti _ _ _ _ (by omega) (by omega) b];rfl
     have k:((((s.data.toList.getD (i+n) 0).toNat:Nat):Int)==(((s.data.toList.getD (j+n) 0).toNat:Nat):Int))=iF:=by
      rw[dk];intro h;exact b (zt.1 (by omega))
     generalize(s.data.toList.getD (i+n) 0).toNat=c1 at p k;generalize(s.data.toList.getD (j+n) 0).toNat=c2 at r k;clear d b m;go_wp2;go_quiet (fail);go_wp2;go_ret;exact⟨by rw[a.o];rfl,bY l.o _⟩
   ·have u:decide ((j:Int)+n<s.size)=iF:=aV (by omega)
    have a:ah (bT 31 (s.data.toList.drop i) (s.data.toList.drop j)=n):=by
     show _=_;rw[d.o,LP _ _ _ _ (by omega)];rfl
    clear d m;go_wp2;go_quiet (fail);go_wp2;go_ret;exact⟨by rw[a.o];rfl,bY l.o _⟩
  ·have t:decide ((n:Int)<31)=iF:=aV (by omega)
   have g:n=31:=by omega
   have a:ah (bT 31 (s.data.toList.drop i) (s.data.toList.drop j)=n):=by
    show _=_;rw[d.o,g];rfl
   clear d m g;go_wp2;go_quiet (fail);go_wp2;go_ret;exact⟨by rw[a.o];rfl,bY l.o _⟩
end Go.Proofs.YtgigcooffjjbgaaGreatDoor
namespace Go.Proofs.YtgigcooffjjbgaaGreatDoor.Pack
open Go.Proofs.YtgigcooffjjbgaaGreatDoor
theorem XD(f:Nat->Bool)(n p:Nat)(L:List Nat)(h:(List.range n).filter f=L++[p]):p<n/\f p=iV/\(List.range p).filter f=L/\∀x,p<x->x<n->f x=iF:=by
 induction n with
 |zero=>simp at h
 |succ n o=>
  rw[qm,jF]at h;by_cases e:f n=iV
  ·have g:List.filter f [n]=[n]:=by simp[e]
   rw[g]at h;obtain⟨h1,i⟩:=List.append_inj' h rfl;have k:n=p:=by simpa using i
   subst k;exact⟨by omega,e,h1,λx a b=>by omega⟩
  ·have g:List.filter f [n]=[]:=by simp[e]
   rw[g,dS]at h;obtain⟨a,b,c,d⟩:=o h;refine⟨by omega,b,c,λx l m=>?_⟩
   by_cases j:x=n
   ·subst j;simpa using e
   ·exact d x l (by omega)
theorem Ye(f:Nat->Bool)(n:Nat)(h:(List.range n).filter f=[]):∀x,x<n->f x=iF:=by
 intro x a;have:=mI.1 h x (jX.2 a)
 simpa using this
theorem Md(s:List UInt8)(k:Nat)(h:k+4<=s.length):cI s k=[s.getD k 0,s.getD (k+1) 0,s.getD (k+2) 0,s.getD (k+3) 0]:=by
 unfold cI;rw[ak h,qo s k (by omega),qo s (k+1) (by omega),qo s (k+1+1) (by omega),qo s (k+1+1+1) (by omega)]
 rfl
theorem Cl(s:List UInt8)(x k:Nat)(c:x<k)(h:k+4<=s.length):4<=bT 31 (s.drop x) (s.drop k)↔cI s x=cI s k:=by
 rw[Md s x (by omega),Md s k h]
 by_cases h0:s.getD x 0=s.getD k 0
 ·rw[sB 30 s x k (by omega) (by omega) h0]
  by_cases h1:s.getD (x+1) 0=s.getD (k+1) 0
  ·rw[sB 29 s (x+1) (k+1) (by omega) (by omega) h1]
   by_cases a:s.getD (x+2) 0=s.getD (k+2) 0
   ·rw[sB 28 s (x+2) (k+2) (by omega) (by omega) a]
    by_cases b:s.getD (x+3) 0=s.getD (k+3) 0
    ·rw[sB 27 s (x+3) (k+3) (by omega) (by omega) b,h0,h1,a,b]
     simp
    ·rw[ti 28 s (x+3) (k+3) (by omega) (by omega) b]
     simp only[gE,b,iy,and_false,yO];omega
   ·rw[ti 29 s (x+2) (k+2) (by omega) (by omega) a]
    simp only[gE,a,iy,xC,and_false,yO];omega
  ·rw[ti 30 s (x+1) (k+1) (by omega) (by omega) h1]
   simp only[gE,h1,iy,xC,and_false,yO];omega
 ·rw[ti 31 s x k (by omega) (by omega) h0]
  simp only[gE,h0,iy,xC,yO];omega
theorem zP(s:List UInt8)(k c d:Nat)(h:∀x,x<k->k-(c+d)<=x->x<k-c->¬4<=bT 31 (s.drop x) (s.drop k))(i:c+d<=k):bG s k (c+d)=bG s k c:=by
 induction d with
 |zero=>rfl
 |succ d g=>
  rw[<-mf,Bz,g (λx a b e=>h x a (by omega) e) (by omega)]
  intro f;exact h (k-(c+d+1)) (by omega) (by omega) (by omega) f.1
theorem aaC(s:List UInt8)(k:Nat)(h:¬k+4<=s.length):bG s k k=(0,0):=by
 have:=zP s k 0 k (λx _ _ _ h4=>by
  have:=(zu 31 (s.drop x) (s.drop k)).2;rw[iz]at this;omega) (by omega)
 rw[eC]at this;exact this
theorem Zb(s:List UInt8)(k c p:Nat)(L:List Nat)(t:c<=k)(h4:k+4<=s.length)(h:jq s (cI s k) (k-c)=L++[p]):
 p<k-c/\jq s (cI s k) p=L/\4<=bT 31 (s.drop p) (s.drop k)/\
  ((bG s k c).1<bT 31 (s.drop p) (s.drop k)->bG s k (k-p)=(bT 31 (s.drop p) (s.drop k),k-p))/\(¬(bG s k c).1<bT 31 (s.drop p) (s.drop k)->bG s k (k-p)=bG s k c):=by
 obtain⟨h1,m,q,r⟩:=XD _ _ _ _ h;have j:cI s p=cI s k:=by simp at m;exact m.2
 have n:=(Cl s p k (by omega) h4).2 j
 have e:=zP s k c (k-p-1-c) (λx a b d i=>by
  have o:=(Cl s x k a h4).1 i;have:=r x (by omega) d
  simp[o]at this;omega) (by omega)
 rw[show c+(k-p-1-c)=k-p-1 by omega]at e
 have f:k-(k-p-1+1)=p:=by omega
 have l:k-p-1+1=k-p:=by omega
 refine⟨h1,q,n,λg=>?_,λg=>?_⟩
 ·have:=L5 s k (k-p-1) (by rw[f];exact n) (by rw[f,e];exact g)
  rw[f,l]at this;exact this
 ·have:=Bz s k (k-p-1) (by rw[f,e];exact λi=>g i.2)
  rw[l,e]at this;exact this
theorem TH(s:List UInt8)(k c:Nat)(g:c<=k)(h4:k+4<=s.length)(h:jq s (cI s k) (k-c)=[]):bG s k k=bG s k c:=by
 have:=zP s k c (k-c) (λx a b d f=>by
  have e:=(Cl s x k a h4).1 f;have:=Ye _ _ h x d;simp[e]at this;omega) (by omega)
 rwa [show c+(k-c)=k by omega]at this
end Go.Proofs.YtgigcooffjjbgaaGreatDoor.Pack
namespace Go.Proofs.YtgigcooffjjbgaaGreatDoor
open Go.RowKit Pack
theorem Yl(s q:List UInt8)(m j p:Nat)(L:List Nat)(h:(jq s q m).take (j+1)=L++[p])(b:L.length=j):(iR s q m)[j]?=X (p:Int):=by
 have h1:(jq s q m)[j]?=X p:=by
  have a:((jq s q m).take (j+1))[j]?=X p:=by rw[h,<-b];simp
  rwa [xj (by omega)]at a
 simp[iR,h1]
variable{zs:List Int}{b k n size:Nat}{ok:Nat -> Prop}{e:TypeId}
theorem Wa{w:iW}{base:Nat}{v:iX}(h:w.ownsInts base 3 J v zs):∃(c:Option Addr) (n cap:Nat),v=Y c n cap/\n=zs.length/\
 (0<n->∃g,c=X ⟨g,0,O⟩/\g<w.heap.size/\∀(j:Nat) (p:Int),zs[j]?=X p->w.cell? ⟨g,j,O⟩=X (I J p)):=by
 have a:=h.1.lt;have f:=h.1;rcases h.1.2 with⟨rfl,h0⟩|⟨g,cap,e,rfl,l,m,o,d,i,b⟩
 ·exact⟨O,0,0,rfl,h0.symm,λh=>by omega⟩
 ·refine⟨_,_,_,rfl,rfl,λ_=>⟨g,rfl,(a g rfl).2,λj p k=>?_⟩⟩
  have:=f.cells (g:=g) rfl j (I J p) (by simp[k])
  rwa [fh]at this
theorem ZP(s:ByteArray)(b base k:Nat)(w:iW)(No:Nat->Prop)(hs:s.size<=64)(hk:k<=s.size)(hp:hI w base b k s.data.toList No):
 iK Tryz.prog 194 #[.map (X b),iT s,I J k] w λe w'=>e=G (iU #[I J ((bG s.data.toList k k).2:Nat),I J ((bG s.data.toList k k).1:Nat)])/\iL w.heap.size w w':=by
 have hl:s.data.toList.length=s.size:=by simp
 have HP:=af hp;clear hp;go_enter Tryz.func194,Tryz.ntmps194;go_wp2_with fail;refine(Hw s k _ hs (by omega)).mono ?_
 rintro e w5 ⟨rfl,t⟩;have l:=af (sS HP.o (vh t O) (λj hj=>by cases hj))
 have A:=af t;have x:=t.size;clear t HP;have hv:=af (ww w5 [0,0,0,0] #[I .u8 0,I .u8 0,I .u8 0,I .u8 0] 303 rfl);by_cases h4:k+4<=s.size
 ·rw[aS h4];go_wp2_with (first
   |(refine vA rfl _ _ rfl w5.heap.size _ [0,0,0,0] rfl rfl hv.o (jQ _ _) rfl ?_
     intro w6 i;obtain⟨ab,K,a,y⟩:=zj (jQ _ _) l.o i;have HY:=af ab;have ac:=af K;have B:=af (A.o.trans (a.mono x));obtain⟨v,h,M⟩:=NF K (by omega) (cI s.data.toList k) (jQ _ _)
     have an:=af M;have ai:=h iF rfl;obtain⟨ao,n,cap,rfl,hn,V⟩:=Wa M;have ak:n<=64:=by have:=AH s.data.toList (cI s.data.toList k) k;omega
     have HN:=af hn;have HA:=af V;clear hn V;have ag:w.heap.size<=w6.heap.size:=by omega
     clear i ab K a y M h l A)
   |refine Dz rfl _ rfl _ rfl _ HY.o (jQ _ _) ?_
   |go_in)
  have U:n=(jq s.data.toList (cI s.data.toList k) k).length:=by rw[HN.o];simp[iR]
  have E:=af U;clear U HN ai ac HY hv;go_loopw [10,11,13] (λbv zv iv wr=>∃(c j q F:Nat),c<=k/\j<=n/\iv=I J ((j:Int)-1)/\bv=I J F/\zv=I J q/\q<=31/\F<=64/\ah (bG s.data.toList k c=(q,F))/\ah (jq s.data.toList (cI s.data.toList k) (k-c)=(jq s.data.toList (cI s.data.toList k) k).take j)/\ah (iL w6.heap.size w6 wr)) (λ_ _ iv _=>(intOf iv+1).toNat)
  case atStart=>exact⟨0,n,0,0,by omega,am _,by go_num,rfl,rfl,by omega,by omega,rfl,(by show _=_;rw[Nat.sub_zero,E.o,mD]),ax _ _⟩
  case round=>
   obtain⟨c,j,q,F,hc,hj,rfl,rfl,rfl,ad,ae,N,D,P⟩:=hrel;cases j with
   |zero=>
    have f:=TH s.data.toList k c hc (by rw[hl];exact h4) (by rw[D.o];rfl)
    have HX:ah (bG s.data.toList k k=(q,F)):=by show _=_;rw[f,N.o]
    have al:¬(0:Int)<=((0:Nat):Int)-1:=by omega
    clear f N D;go_wp2;exact az (bt rfl _ _ _) rfl ⟨by rw[HX.o];rfl,B.o.trans (P.o.mono ag)⟩
   |succ j=>
    have ej:(((j+1:Nat):Int)-1)=(j:Int):=by omega
    rw[ej];rcases Dw (jq s.data.toList (cI s.data.toList k) (k-c))with h0|⟨L,p,h0⟩
    ·exfalso
     have:=congrArg List.length D.o;rw[h0,cD]at this;have:=E.o;simp at*;omega
    ·rw[FJ]at h0;have r:L.length=j:=by
      have T:=congrArg List.length D.o;rw[h0,cD,aI]at T;have:=E.o;simp at T;omega
     obtain⟨q1,q2,q3,q4,q5⟩:=Zb s.data.toList k c p L hc (by rw[hl];exact h4) h0
     have W:=Yl s.data.toList (cI s.data.toList k) k j p L (by rw[<-D.o,h0]) r
     obtain⟨g,rfl,Z,d⟩:=HA.o (by omega)
     have Y:wr.cell? ⟨g,j,O⟩=X (I J (p:Int)):=by
      rw[P.o.cell (show g<w6.heap.size from Z)];exact d j _ W
     have Q:ah (jq s.data.toList (cI s.data.toList k) (k-(k-p))=(jq s.data.toList (cI s.data.toList k) k).take j):=by
      show _=_;rw[show k-(k-p)=p by omega,q2]
      have T:=D.o;rw[h0]at T;have e2:=congrArg (List.take j) T;rw[List.take_take,List.take_append_of_le_length (by omega),<-r,mD]at e2
      rw[e2,r];congr 1;omega
     have aj:p<k:=by omega
     have u:(bG s.data.toList k c).1=q:=by rw[N.o]
     rw[u]at q4 q5;have R:=af (⟨q4,q5⟩:_/\_);have C:=af N.o;have au:(0:Int)<=j:=by omega
     have av:(j:Int)<n:=by omega
     have aa:=(zu 31 (s.data.toList.drop p) (s.data.toList.drop k)).1;clear h0 q2 q3 q4 q5 W d D r u q1 ej;go_wp2_with fail;refine(Nn s p k _ hs aj hk).mono ?_;rintro e w7 ⟨rfl,H⟩;have ap:w7.cell? ⟨g,j,O⟩=X (I J (p:Int)):=by
      rw[H.cell (show g<wr.heap.size from eW Z P.o.size)];exact Y
     have S:=af (P.o.trans (H.mono P.o.size));obtain⟨m,hm⟩:=aq (bT 31 (s.data.toList.drop p) (s.data.toList.drop k));rw[hm]at aa R⊢;clear hm H P Y;by_cases ar:(q:Int)<m
     ·have z:=af (R.o.1 (by omega))
      clear R C N;go_wp2;go_roundw
      case rel=>exact⟨k-p,j,m,k-p,by omega,by omega,by go_num,by go_num,rfl,by omega,by omega,z,Q,S⟩
      case measure=>simp[intOf]
     ·have z:ah (bG s.data.toList k (k-p)=(q,F)):=by
       show _=_;rw[R.o.2 (by omega),C.o]
      clear R C N;go_wp2;go_roundw
      case rel=>exact⟨k-p,j,q,F,by omega,by omega,by go_num,rfl,rfl,ad,ae,z,Q,S⟩
      case measure=>simp[intOf]
 ·rw[aV h4];have HX:=af (aaC s.data.toList k (by rw[hl];exact h4))
  go_wp2_with (first
   |(refine vA rfl _ _ rfl w5.heap.size _ [0,0,0,0] rfl rfl hv.o (jQ _ _) rfl ?_
     intro w6 i;obtain⟨-,-,a,y⟩:=zj (jQ _ _) l.o i;have B:=af (A.o.trans (a.mono x));clear i a l)
   |go_in)
  exact az (bt rfl _ _ _) rfl ⟨by rw[HX.o];rfl,B.o⟩
theorem Vt {d o:iW} {base:Nat} {s:List UInt8} {v m:iX} (h:hI d base b k s (λg=>v.ownBlock=X g)) (f:d.grownBy o v.ownBlock)
 (c:m.ownBlock=v.ownBlock∨∃g,m.ownBlock=X g/\d.heap.size<=g) (l:∀g,v.ownBlock=X g->base<=g):hI o base b k s (λg=>m.ownBlock=X g):=by
 have r:=(Cw h).2;have h1:=F7 (No':=λg=>v.ownBlock=X g∨d.heap.size<=g) h (λg f=>f)
 have p:=sS h1 f (λj n=>⟨Or.inl n,λe=>by have:=l j n;omega⟩)
 refine F7 p (λg a=>Or.inl ?_)
 rcases c with e|⟨q,e,i⟩
 ·exact Or.inl (e▸a)
 ·rw[e]at a;cases a;exact Or.inr i
theorem YX{w w':iW}{base:Nat}{v:iX}{xs:List iX}(h:w.ownsRow base e size v n xs)(j:aR w w' ok)(k:∀g,v.ownBlock=X g->ok g):w'.ownsRow base e size v n xs:=by
 have b:=h.lt;obtain⟨h1,i⟩:=h;refine⟨h1,?_⟩;rcases i with h|⟨g,cap,a,rfl,c,d,f⟩
 ·exact .inl h
 ·exact .inr ⟨g,cap,a,rfl,c,by rw[j.2.2.2.2 g (b g rfl).2 (k g rfl)];exact d,f⟩
def ql(w wr:iW)(a:iX)(s:List UInt8)(k:Nat)(l:List (Nat×Nat×List UInt8)):Prop:=
 wr.ownsRow (w.heap.size+1) 150 3 a l.length (cK l)/\hI wr (w.heap.size+1) w.heap.size k s (λg=>a.ownBlock=X g)/\iL w.heap.size w wr/\w.heap.size+1<=wr.heap.size
theorem Tg{w wr c:iW}{a:iX}{s:List UInt8}{l:List (Nat×Nat×List UInt8)}(h:ql w wr a s k l)(b:iL wr.heap.size wr c):ql w c a s k l:=
 ⟨bC h.1 b,sS h.2.1 (vh b O) (λj d=>by cases d),h.2.2.1.trans (b.mono h.2.2.1.size),bV h.2.2.2 b.size⟩
theorem JL {w e f:iW} {v c:iX} {s:List UInt8} {l d:List (Nat×Nat×List UInt8)} (h:ql w e v s k l) (m:f.ownsRow (w.heap.size+1) 150 3 c d.length (cK d)) (a:e.grownBy f v.ownBlock)
 (b:c.ownBlock=v.ownBlock∨∃g,c.ownBlock=X g/\e.heap.size<=g):ql w f c s k d:=
 ⟨m,Vt h.2.1 a b (λg a=>(h.1.lt g a).1),h.2.2.1.grown a (by have:=h.2.2.2;omega) (λj i=>by have:=(h.1.lt j i).1;omega),bV h.2.2.2 a.size⟩
theorem Hq{w f:iW}{v:iX}{s:ByteArray}{a:Nat}{l:List (Nat×Nat×List UInt8)}(h:ql w f v s.data.toList k l)(hs:s.size<=64)(c:k<=a)(j:a<=s.size):
 iK Tryz.prog 196 #[.map (X w.heap.size),iT s,I J k,I J a] f λe w'=>e=G (iU #[])/\ah (ql w w' v s.data.toList a l):=by
 refine(UY s w.heap.size (w.heap.size+1) k a f (λg=>v.ownBlock=X g) hs c j (λg b=>(h.1.lt g b).2) h.2.2.2 h.2.1).mono ?_
 rintro e w' ⟨rfl,m,d⟩;refine⟨rfl,YX h.1 d (λg b=>⟨by have:=(h.1.lt g b).1;omega,Or.inr b⟩),m,h.2.2.1.trans (d.down ?_ (λi hi=>⟨by omega,Or.inl (by omega)⟩)),bV h.2.2.2 d.2.2.2.1⟩
 have:=h.2.2.2;omega
theorem Ss(s:ByteArray)(w:iW)(hs:s.size<=64):
 iK Tryz.prog 158 #[iT s] w λe w'=>Fm w e w' (iq s.data.toList):=by
 obtain⟨i0,hi,ag,ai,aj⟩:=bO uO;have hl:s.data.toList.length=s.size:=by simp
 have ap:= @run_makeMap Tryz.prog;go_enter Tryz.func158,Tryz.ntmps158;go_wp2;go_loopw [3,5] (λc V wr=>∃(m k:Nat) (l:List (Nat×Nat×List UInt8)),k<=s.size/\l.length<=m/\m<=k/\V=I J k/\ah (dR m s.data.toList=(k,l))/\ah (ql w wr c s.data.toList k l)) (λ_ V _=>64-(intOf V).toNat)
 case atStart=>exact⟨0,0,[],by omega,by simp,by omega,rfl,rfl,pW _ _ _ _,abF _ _ _,aZ,by simp⟩
 case round=>
  obtain⟨m,k,l,hk,ad,ao,rfl,B,N⟩:=hrel;by_cases an:(k:Int)<s.size
  ·go_wp2_with fail;refine(ZP s w.heap.size (w.heap.size+1) k _ _ hs hk N.o.2.1).mono ?_;rintro e L ⟨rfl,Q⟩;have f:=af (Tg N.o Q);have ae:=f.o.2.2.2;have d:=Js s.data.toList k k;obtain⟨v,E,Z⟩:∃v E,bG s.data.toList k k=(v,E):=⟨_,_,rfl⟩;rw[Z]at d⊢;have U:=af Z;clear Z Q N;simp only at d⊢;by_cases h0:(0:Int)<E
   ·have h1:0<v:=by
     rcases d with e|⟨h,_⟩
     ·simp at e;omega
     ·omega
    have al:v<=31:=by
     rcases d with e|⟨_,h,_⟩
     ·simp at e;omega
     ·exact h
    have am:E<=64:=by
     rcases d with e|⟨_,_,_,h,_⟩
     ·simp at e;omega
     ·omega
    obtain⟨r,ac⟩:=Ng s.data.toList m k v E l (by omega) B.o (by omega) U.o h1
    have C:=af r;have y:k+v<=s.size:=by omega
    clear B U r d ac;go_wp2_with (first
     |(at_builtin;refine rS _ rfl _ _ 147 rfl (w.heap.size+1) 150 i0 (iA #[I J 0,I J 0,iT ⟨#[]⟩]) 3 32 Tryz.underlying147 hi ag ai aj rfl (by decide) _ _ _ rfl (by exact f.o.1.alloc _) ⟨L.heap.size,0,O⟩ 1 1 [I J _,I J _,iT _] rfl rfl (by exact oq _ _ _ _ _) (nW _ _ _) (by unfold maxLen;omega) (by omega) (by simp;omega) ?_
       intro v' w6 q n _ A;have i:ah (ql w w6 v' s.data.toList k (l++[(E,v,[])])):=by
        refine JL f.o (by rw[<-og,aI];exact q) ((zI L _ _).trans n) (A.imp id (λh=>⟨_,h,by simp⟩))
       clear q n A f)
     |fail)
    refine(Hq i.o hs (by omega) y).mono ?_
    rintro e w7 ⟨rfl,D⟩;clear i;go_wp2;go_roundw
    case rel=>exact⟨m+1,k+v,l++[(E,v,[])],y,(by simp only[aI,aW,dW]at*;omega),by omega,by go_num,C,D⟩
    case measure=>simp[intOf];omega
   ·have F:(bG s.data.toList k k).1=0:=by
     rw[U.o];rcases d with e|⟨_,_,h,_⟩
     ·simp at e;exact e.1
     ·omega
    obtain⟨u,hu⟩:∃u:ByteArray,u=s.extract k (k+1):=⟨_,rfl⟩;have H:u=⟨[s.data.toList.getD k 0].toArray⟩:=by
     rw[hu];apply lg;apply sD;rw[vP];simp only[Cy];rw[jh (by omega)]
     simp[List.getD_eq_getElem?_getD,List.getElem?_eq_getElem (show k<s.data.toList.length by omega)]
    have aq:∀W,(Instr.slice 9 (iT s) (X (I J (k:Int))) (X (I J ((k:Int)+1))) O).run Tryz.prog W=.ok (iT u) W:=by
     intro W;rw[vp W 9 s J J _ _ Tryz.underlying9,ak (by omega),ak (by omega),hu]
     rfl
    have Y:=(DI s.data.toList (by omega) m).1.2.1
    rw[B.o]at Y;have x:=wI [] _ l (by simp) Y
    have G:∃M,M.length<=l.length+1/\dR (m+1) s.data.toList=(k+1,M)/\∀c,L.ownsRow (w.heap.size+1) 150 3 c l.length (cK l)->iK Tryz.prog 195 #[c,iT u] L λe w'=>ux L (w.heap.size+1) c e w' M:=by
     by_cases hn:∃(K:List (Nat×Nat×List UInt8)) (z:Nat) (t:List UInt8),l=K++[(0,z,t)]/\t.length<31
     ·obtain⟨K,z,t,rfl,ht⟩:=hn;refine⟨_,?_,IE s.data.toList m k z K t B.o (by omega) F ht,λc ho=>Yg c K z t _ u _ L H ?_ ht ho⟩
      ·simp
      ·simp at ad;omega
     ·refine⟨_,?_,IB s.data.toList m k l B.o (by omega) F (λa z t e h=>hn ⟨a,z,t,e,h⟩),λc ho=>XM c l _ u _ L H (by omega) ae ho ?_⟩
      ·simp
      ·rcases Dw l with g|⟨K,⟨b,z,t⟩,g⟩
       ·exact Or.inl g
       ·rw[FJ]at g;refine Or.inr ⟨K,b,z,t,g,?_⟩;have aa:=x (b,z,t) (by rw[g];simp)
        rcases aa with⟨P,_,e2,_⟩|⟨P,_⟩
        ·refine Or.inr ⟨P,?_⟩;simp only at P e2;have:¬t.length<31:=λh=>hn ⟨K,z,t,by rw[g,P],h⟩
         omega
        ·exact Or.inl P
    obtain⟨M,ab,r,j⟩:=G;have C:=af r;have HC:=af j;have S:M.length<=m+1:=by omega
    clear B U r j d x Y hu H F ab;go_wp2_with fail;refine(HC.o _ f.o.1).mono ?_;rintro e w6 ⟨v',rfl,T,R,p⟩;have i:=af (JL f.o T R p);clear T R p f HC;go_wp2_with fail;refine(Hq i.o hs (by omega) (show k+1<=s.size by omega)).mono ?_
    rintro e w7 ⟨rfl,D⟩;clear i;go_wp2;go_roundw
    case rel=>exact⟨m+1,k+1,M,by omega,S,by omega,by go_num,C,D⟩
    case measure=>simp[intOf];omega
  ·have ek:k=s.size:=by omega
   have ET:ah (iq s.data.toList=l):=GW _ m l (by rw[B.o,ek,hl]) (by omega)
   go_wp2;go_ret;rw[ET.o];exact⟨_,rfl,oJ N.o.1 (by omega),N.o.2.2.1⟩
theorem Hz(w:iW)(x y:iX)(t:TypeId):∀(j:Nat) (u:iX),[x,y][j]?=X u->(w.alloc (iC #[x,y] t)).cell? ((⟨w.heap.size,0,O⟩:Addr).add j)=X u:=by
 intro j u a
 match j,a with
 |0,a=>simp at a;subst a;simp[Addr.add]
 |1,a=>simp at a;subst a;simp[Addr.add]
theorem aac(x y:Int):∀u∈ [I .u8 x,I .u8 y],u.oneCell'=iV:=by
 intro u a;simp at a;rcases a with rfl|rfl<;>rfl
theorem Yf(t:Nat×Nat×List UInt8)(h:Fit t):(bL t).length<=32:=by
 unfold bL;rcases h with⟨h1,a,b,_⟩|⟨h1,_⟩
 ·rw[ak h1];simp;omega
 ·rw[ai (by omega)];simp
theorem aba(v:iX)(l:List (Nat×Nat×List UInt8))(B:Nat)(w:iW)(hl:l.length<=64)(hf:∀t∈l,Fit t)(W:w.ownsRow B 150 3 v l.length (cK l)):
 iK Tryz.prog 157 #[v] w λe w'=>e=G (iT ⟨(l.flatMap bL).toArray⟩)/\iL w.heap.size w w':=by
 obtain⟨i0,hi,D,E,F⟩:=bO zK;rw[yt]at W;obtain⟨ad,an,rfl,a1,a2,a3⟩:=mV W;unfold maxLen at a2;have A3:=af a3;have HA:=af W;have HF:=af hf;clear a3 W hf;go_enter Tryz.func157,Tryz.ntmps157;go_wp2;go_loopw [3,8] (λpv iv wr=>∃(k:Nat) (o:List UInt8),k<=l.length/\o.length<=32*k/\iv=I J k/\ah (wr.ownsRow w.heap.size 5 1 pv o.length (bF o))/\ah (o=(l.take k).flatMap bL)/\ah (iL w.heap.size w wr)) (λ_ iv _=>l.length-(intOf iv).toNat)
 case atStart=>exact⟨0,[],aJ _,by simp,rfl,pW _ _ _ _,rfl,ax _ _⟩
 case round=>
  obtain⟨k,o,hk,ho,rfl,Z,T,U⟩:=hrel;have am:=U.o.size;by_cases az:(k:Int)<l.length
  ·obtain⟨ga,rfl,_,aw⟩:=A3.o (by omega)
   have al:k<l.length:=by omega
   obtain⟨b,z,x,Y⟩:∃b z x,l[k]?=X (b,z,x):=⟨l[k].1,l[k].2.1,l[k].2.2,ay al⟩;have R:(l.map fp)[k]?=X (fp (b,z,x)):=by rw[bh,Y];rfl
   obtain⟨c1,c2,c3⟩:=yR (bC HA.o U.o) R;simp only[fp]at c1 c2 c3;have d:=HF.o _ (aL Y);have r:(l.take (k+1)).flatMap bL=o++bL (b,z,x):=by
    obtain⟨e1,V⟩:=aC.1 Y;rw[ft e1,V,tj,<-T.o];simp
   have k0:(0:Int)<=k:=by omega
   obtain⟨ap,ao,rfl,-⟩:=mV Z.o;have H:=af (su wr (b:Int) (z:Int) ⟨x.toArray⟩);obtain⟨t,u⟩:∃t:ByteArray,t=⟨x.toArray⟩:=⟨_,rfl⟩;have C:t.size=x.length:=by rw[u];show x.toArray.size=_;simp
   have S:t.data.toList=x:=by rw[u]
   rw[<-u]at c3 H;have K:=af r;have a:=af (Z.o.alloc (iC #[I J (b:Int),I J (z:Int),iT t] 150));have n:=af (U.o.alloc am (iC #[I J (b:Int),I J (z:Int),iT t] 150));have ac:=af S;clear Y R r T u S;by_cases hb:(0:Int)<b
   ·have au:z<=31:=by rcases d with⟨h1,_⟩|⟨_,_,_,h,_⟩<;>simp only at* <;>omega
    have aq:b<=64:=by rcases d with⟨h1,_⟩|⟨_,h,_⟩<;>simp only at* <;>omega
    have y:ah (bL (b,z,x)=[UInt8.ofNat (128+z),UInt8.ofNat b]):=by show _=_;unfold bL;rw[ai (by simp only;omega)]
    clear d;obtain⟨s,g⟩:∃s,s=wr.alloc (iC #[I J (b:Int),I J (z:Int),iT t] 150):=⟨_,rfl⟩;have q:s.heap.size=wr.heap.size+1:=by rw[g];simp
    have c:=af (Hz s (I .u8 (128+(z:Int))) (I .u8 (b:Int)) 5);rw[q,g]at c;clear g q s;go_wp2_with (at_builtin;refine cS _ rfl _ _ 22 rfl w.heap.size 5 i0 (I .u8 0) 1 1 Tryz.underlying22 hi D E F rfl (by decide) _ _ _ rfl (by exact a.o.alloc _) ⟨wr.heap.size+1,0,O⟩ 2 2 [I .u8 (128+(z:Int)),I .u8 (b:Int)] rfl rfl (by exact c.o) (aac _ _) (by unfold maxLen;omega) (by omega) (by simp;omega) ?_)
    intro v6 w6 f i _;have p:=af (tz n.o (by simp;omega) a.o i)
    have V:bF o++[I .u8 (128+(z:Int)),I .u8 (b:Int)]=bF (o++bL (b,z,x)):=by
     rw[y.o];simp[bF];omega
    rw[V]at f;have P:(o++bL (b,z,x)).length=o.length+2:=by rw[y.o];simp
    have m:ah (w6.ownsRow w.heap.size 5 1 v6 (o++bL (b,z,x)).length (bF (o++bL (b,z,x)))):=by
     show World.ownsRow _ _ _ _ _ _ _;rw[P];exact f
    have A:(o++bL (b,z,x)).length<=32*(k+1):=by omega
    clear f i a n H c1 c2 c3 c V P y;go_wp2;go_roundw
    case rel=>exact⟨k+1,o++bL (b,z,x),by omega,A,by go_num,m,(by show _=_;rw[K.o]),p⟩
    case measure=>simp[intOf];omega
   ·have ag:b=0:=by omega
    subst ag;have ar:t.size<=31:=by rcases d with⟨_,_,h,_⟩|⟨h,_⟩<;>simp only at* <;>omega
    have y:ah (bL (0,z,x)=UInt8.ofNat t.size::x):=by show _=_;unfold bL;rw[ak rfl,C]
    have L:=af C;clear d C;obtain⟨s,g⟩:∃s,s=wr.alloc (iC #[I J ((0:Nat):Int),I J (z:Int),iT t] 150):=⟨_,rfl⟩;have q:s.heap.size=wr.heap.size+1:=by rw[g];simp
    have c:=af (lS s (I .u8 (t.size:Int)) 5);rw[q,g]at c;clear g q s;have aj:ah (((UInt8.ofNat t.size).toNat:Int)=(t.size:Int)):=by show _=_;rw[ou _ (by omega)]
    simp only[Int.natCast_zero]at H a n c1 c⊢;go_wp2_with (first
     |(at_builtin;refine cS _ rfl _ _ 22 rfl w.heap.size 5 i0 (I .u8 0) 1 1 Tryz.underlying22 hi D E F rfl (by decide) _ _ _ rfl (by exact a.o.alloc _) ⟨wr.heap.size+1,0,O⟩ 1 1 [I .u8 (t.size:Int)] rfl rfl (by exact c.o) (vT _) (by unfold maxLen;omega) (by omega) (by simp;omega) ?_
       intro v6 w6 f i _;have p:=af (tz n.o (by simp;omega) a.o i)
       have ab:=af ((H.o.alloc _).grown (a.o.alloc _) i);rw[uV o _ _ aj.o]at f;have m:=af f;have aA:=p.o.size;obtain⟨q0,q1,q2⟩:=ab.o.cells;clear f i a n H c1 c2 c3 c)
     |(at_builtin;refine Iz _ rfl _ _ 22 9 rfl w.heap.size 5 i0 Tryz.underlying22 Tryz.underlying9 hi D E F _ _ _ rfl m.o t rfl (by unfold maxLen;omega) (by omega) (by omega) ?_
       intro v7 w7 Q M _;have ae:=af (p.o.grown M (by omega) (λj hj=>(m.o.lt j hj).1))
       have aa:ah (w7.ownsRow w.heap.size 5 1 v7 (o++bL (0,z,x)).length (bF (o++bL (0,z,x)))):=by
        show World.ownsRow _ _ _ _ _ _ _;have e1:(o++bL (0,z,x)).length=o.length+1+t.size:=by rw[y.o];simp[L.o];omega
        have e3:bF (o++bL (0,z,x))=bF (o++[UInt8.ofNat t.size])++bF t.data.toList:=by rw[y.o,ac.o];simp[bF]
        rw[e1,e3,<-LN];exact Q
       clear Q M m p)
     |go_in)
    have A:(o++bL (0,z,x)).length<=32*(k+1):=by rw[y.o];have:=L.o;simp;omega
    go_roundw
    case rel=>exact⟨k+1,o++bL (0,z,x),by omega,A,by go_num,aa,(by show _=_;rw[K.o]),ae⟩
    case measure=>simp[intOf];omega
  ·have N:k=l.length:=by omega
   have HX:ah (l.flatMap bL=o):=by show _=_;rw[T.o,N,mD]
   have av:=D6 wr _ o Z.o;clear T N;go_wp2;go_ret;exact⟨by rw[HX.o];rfl,U.o⟩
theorem AC(c:UInt8)(s:ByteArray):(⟨#[c]⟩++s:ByteArray)=⟨(c::s.data.toList).toArray⟩:=by
 apply lg;rw[tB];apply sD;simp
theorem KL(s:List UInt8)(hs:s.length<=64):∀t∈iq s,Fit t:=wI [] s (iq s) (by simp) (zo s hs).1
theorem Mn(s:List UInt8):(iq s).length<=s.length:=by
 have h1:∀m,(dR m s).2.length<=m:=by
  intro m
  induction m with
  |zero=>exact am _
  |succ m a=>
   by_cases b:(dR m s).1<s.length
   ·obtain⟨k,l,h⟩:∃k l,dR m s=(k,l):=⟨_,_,rfl⟩;rw[h]at a b;rw[xm s m k l h b];simp only at a b;have c:l.dropLast.length<=l.length:=by rw[List.length_dropLast];omega
    unfold Pack.stepT;simp only;split
    ·rw[aI];exact ya a (am 1)
    ·split
     ·split
      ·rw[aI];exact ya (bV c a) (am 1)
      ·rw[aI];exact ya a (am 1)
     ·rw[aI];exact ya a (am 1)
   ·rw[Jn s m 1 (by omega)]
    omega
 exact h1 s.length
theorem Pv(l:List (Nat×Nat×List UInt8))(a:∀t∈l,Fit t):(l.flatMap bL).length<=32*l.length:=by
 induction l with
 |nil=>simp
 |cons t r c=>
  have h1:=Yf t (a t (by simp))
  have d:=c (λu b=>a u (by simp[b]))
  simp only[nT,aI,aW];omega
theorem Wp(s:ByteArray)(w:iW):
 iK Tryz.prog 112 #[iT s] w λe w'=>e=G (fG (cR s.data.toList))/\iL w.heap.size w w':=by
 have y:s.data.toList.length=s.size:=by simp
 by_cases hs:(64:Int)<s.size
 ·have c:ah (cR s.data.toList=O):=by show _=_;unfold cR;rw[ak (by omega)]
  go_enter Tryz.func112,Tryz.ntmps112;go_wp2;exact az (bt rfl _ _ _) rfl ⟨by rw[c.o];rfl,ax _ _⟩
 ·have a:=KL s.data.toList (by omega)
  have f:=Mn s.data.toList;have j:=Pv (iq s.data.toList) a;obtain⟨z,h⟩:∃z:ByteArray,z=⟨((iq s.data.toList).flatMap bL).toArray⟩:=⟨_,rfl⟩;have l:z.size=((iq s.data.toList).flatMap bL).length:=by rw[h];show Array.size _=_;simp
  have g:ah (cR s.data.toList=X (if s.size<=z.size then 114::s.data.toList else 122::z.data.toList)):=by
   show _=_;have k:z.data.toList=(iq s.data.toList).flatMap bL:=by rw[h]
   unfold cR sl;by_cases p:s.size<=z.size
   ·rw[ai (by omega),ak p,ak (by rw[aW];omega)]
   ·rw[ai (by omega),ai p,ai (by rw[aW];omega),k]
  have r:z.size<=2048:=by omega
  have t:=af a;have u:ah ((iq s.data.toList).length<=64):=by show _<=_;omega
  have n:=af h;clear a f j l h;go_enter Tryz.func112,Tryz.ntmps112;go_wp2_with fail;refine(Ss s _ (by omega)).mono ?_
  rintro e A ⟨v,rfl,q,d⟩;have m:=af q;have i:=af d;clear q d;go_wp2_with fail;refine(aba v _ _ _ u.o t.o m.o).mono ?_;rintro e B ⟨rfl,d⟩;rw[<-n.o];have b:=af (i.o.trans (d.mono i.o.size));clear d m i n;by_cases x:(s.size:Int)<=z.size
  ·have c:ah (cR s.data.toList=X (114::s.data.toList)):=by show _=_;rw[g.o,ak (by omega)]
   clear g;go_wp2;exact az (bt rfl _ _ _) rfl ⟨by rw[c.o];show _=Ending.returned (iU #[iT _,iB iV]);rw[<-AC];rfl,b.o⟩
  ·have c:ah (cR s.data.toList=X (122::z.data.toList)):=by show _=_;rw[g.o,ai (by omega)]
   clear g;go_wp2;exact az (bt rfl _ _ _) rfl ⟨by rw[c.o];show _=Ending.returned (iU #[iT _,iB iV]);rw[<-AC];rfl,b.o⟩
def Ie:iX->Nat
 |iT s=>s.size
 |_=>0
def LM(a:Nat)(w:iW)(r:List UInt8)(e:Ending)(w':iW):Prop:=
 ∃(v:iX) (l:List (Nat×Nat×List UInt8)) (ok:Bool),e=G (iU #[v,iB ok])/\l.length<=r.length/\w'.ownsRow w.heap.size 150 3 v l.length (cK l)/\(ok=iV->RG a r=X l)/\(ok=iF->RG a r=O)/\iL w.heap.size w w'
theorem Db(o:Option (List (Nat×Nat×List UInt8)))(l:List (Nat×Nat×List UInt8))(t:Nat×Nat×List UInt8):(o.map λx=>t::x).map (λx=>l++x)=o.map λx=>(l++[t])++x:=by
 cases o<;>simp
theorem Rs(r:List UInt8)(w:iW)(hr:r.length<=1000):
 iK Tryz.prog 155 #[iT (BA r)] w λe w'=>LM 128 w r e w':=by
 obtain⟨i0,hi,R,S,T⟩:=bO uO;go_enter Tryz.func155,Tryz.ntmps155;go_wp2;go_loopw [0,4] (λU tv wr=>∃(s:List UInt8) (l:List (Nat×Nat×List UInt8)),l.length+s.length<=r.length/\U=iT (BA s)/\ah (RG 128 r=(RG 128 s).map λx=>l++x)/\ah (wr.ownsRow w.heap.size 150 3 tv l.length (cK l))/\ah (iL w.heap.size w wr)) (λU _ _=>Ie U)
 case atStart=>exact⟨r,[],by simp,rfl,(by show _=_;simp),pW _ _ _ _,ax _ _⟩
 case round=>
  obtain⟨s,l,q,rfl,k,F,A⟩:=hrel;have Q:=A.o.size;cases s with
  |nil=>
   have Z:=L7;have K:ah (RG 128 r=X l):=by show _=_;rw[k.o,Hn];simp
   have P:l.length<=r.length:=by simp at q;omega
   clear k;go_wp2;exact az (bt rfl _ _ _) rfl ⟨_,l,iV,rfl,P,F.o,(λ_=>K.o),(λh=>by cases h),A.o⟩
  |cons n s=>
   have Z:=Mu n s;have Y:l.length+1+s.length<=r.length:=by simp at q;omega
   go_wp2_with fail;refine(NJ n s _ (by omega)).mono ?_
   rintro e V ⟨⟨a,b,t,B,ok,rfl,hs',h1,W⟩,i⟩;have m:=af (bC F.o i);have c:=af (A.o.trans (i.mono Q));have v:=c.o.size;have C:=af h1;have D:=af W;clear h1 W i F A;cases ok with
   |true=>
    have E:ah (RG 128 r=(RG 128 B).map λx=>(l++[(a,b,t)])++x):=by
     show _=_;rw[k.o,C.o rfl,Db]
    have f:=af (m.o.alloc (iC #[I J (a:Int),I J (b:Int),iT (BA t)] 150));have d:=af (c.o.alloc v (iC #[I J (a:Int),I J (b:Int),iT (BA t)] 150));obtain⟨z,j⟩:∃z,z=V.alloc (iC #[I J (a:Int),I J (b:Int),iT (BA t)] 150):=⟨_,rfl⟩;have y:z.heap.size=V.heap.size+1:=by rw[j];simp
    have g:=af (oq z (I J (a:Int)) (I J (b:Int)) (iT (BA t)) 150);rw[y,j]at g;clear k C D j y z;go_wp2_with (at_builtin;refine cS _ rfl _ _ 147 rfl w.heap.size 150 i0 (iA #[I J 0,I J 0,iT ⟨#[]⟩]) 3 32 Tryz.underlying147 hi R S T rfl (by decide) _ _ _ rfl (by exact f.o.alloc _) ⟨V.heap.size+1,0,O⟩ 1 1 [I J (a:Int),I J (b:Int),iT (BA t)] rfl rfl (by exact g.o) (nW _ _ _) (by unfold maxLen;omega) (by omega) (by simp;omega) ?_)
    intro v7 w7 u p _;have H:=af (si d.o (by simp;omega) f.o p)
    have G:ah (w7.ownsRow w.heap.size 150 3 v7 (l++[(a,b,t)]).length (cK (l++[(a,b,t)]))):=by
     show World.ownsRow _ _ _ _ _ _ _;rw[<-og,aI];exact u
    have N:(l++[(a,b,t)]).length+B.length<=r.length:=by simp;omega
    have M:=mA B;have L:=mA (n::s);clear u p m f c d g;go_wp2;go_roundw
    case rel=>exact⟨B,l++[(a,b,t)],N,rfl,E,G,H⟩
    case measure=>simp only[Ie]at*;simp[M,L];omega
   |false=>
    have K:ah (RG 128 r=O):=by show _=_;rw[k.o,D.o rfl];rfl
    have d:=af (c.o.alloc v (iC #[I J (a:Int),I J (b:Int),iT (BA t)] 150));clear k C D;go_wp2;exact az (bt rfl _ _ _) rfl ⟨_,[],iF,rfl,by simp,pW _ _ _ _,(λh=>by cases h),(λ_=>K.o),d.o⟩
theorem MP(c:UInt8)(r:List UInt8)(w:iW):
 iK Tryz.prog 154 #[iT (BA (c::r)),iT ⟨#[c]⟩] w λe w'=>e=G (iU #[iT (BA r),iB iV])/\w'=w:=by
 refine(Tryz.strings_CutPrefix (BA (c::r)) ⟨#[c]⟩ w).mono ?_;rintro e w' ⟨rfl,rfl⟩;have h1:Lib.hasPrefix (BA (c::r)).data.toList (⟨#[c]⟩:ByteArray).data.toList=iV:=by
  rw[oN];show List.isPrefixOf [c] (c::r)=iV;simp[List.isPrefixOf]
 have a:Lib.trimPrefix (BA (c::r)).data.toList (⟨#[c]⟩:ByteArray).data.toList=r:=by
  unfold Lib.trimPrefix;rw[ak h1];rfl
 rw[h1,a];exact⟨rfl,rfl⟩
theorem Be(t:List UInt8)(c:UInt8)(h:∀r,t≠c::r)(w:iW):
 iK Tryz.prog 154 #[iT (BA t),iT ⟨#[c]⟩] w λe w'=>e=G (iU #[iT (BA t),iB iF])/\w'=w:=by
 refine(Tryz.strings_CutPrefix (BA t) ⟨#[c]⟩ w).mono ?_;rintro e w' ⟨rfl,rfl⟩;have h1:Lib.hasPrefix (BA t).data.toList (⟨#[c]⟩:ByteArray).data.toList=iF:=by
  rw[oN];show List.isPrefixOf [c] t=iF;cases t with
  |nil=>rfl
  |cons d r=>
   have b:c≠d:=λe=>h r (by rw[e])
   simp[List.isPrefixOf,b]
 have a:Lib.trimPrefix (BA t).data.toList (⟨#[c]⟩:ByteArray).data.toList=t:=by
  unfold Lib.trimPrefix;rw[ai (by rw[h1];simp)]
  rfl
 rw[h1,a];exact⟨rfl,rfl⟩
theorem tQ(o:List UInt8):fG (X o)=iU #[iT (BA o),iB iV]:=rfl
theorem tV:fG O=iU #[iT ⟨#[]⟩,iB iF]:=rfl
theorem aaN(t:List UInt8)(w:iW)(C:t.length<=65):
 iK Tryz.prog 111 #[iT (BA t)] w λe w'=>e=G (fG (kL t))/\iL w.heap.size w w':=by
 by_cases h1:∃r,t=114::r
 ·obtain⟨r,rfl⟩:=h1;have a:ah (kL (114::r)=X r):=by show _=_;unfold kL;simp
  have H:=mA r;simp at C;go_enter Tryz.func111,Tryz.ntmps111;go_wp2_with fail;refine(MP 114 r _).mono ?_;rintro e j ⟨rfl,rfl⟩;go_wp2_with fail;refine(xW (BA r) _ (by omega)).mono ?_
  rintro e F ⟨rfl,b⟩;go_wp2;exact az (bt rfl _ _ _) rfl ⟨by rw[a.o];rfl,b⟩
 ·have d:∀r,t≠114::r:=λr e=>h1 ⟨r,e⟩
  by_cases A:∃r,t=122::r
  ·obtain⟨r,rfl⟩:=A;have a:ah (kL (122::r)=(RG 128 r).bind plain):=by show _=_;unfold kL;simp
   simp at C;go_enter Tryz.func111,Tryz.ntmps111;go_wp2_with fail;refine(Be _ 114 d _).mono ?_;rintro e j ⟨rfl,rfl⟩;go_wp2_with fail;refine(MP 122 r _).mono ?_;rintro e j ⟨rfl,rfl⟩;go_wp2_with fail;refine(Rs r _ (by omega)).mono ?_
   rintro e F ⟨v,l,ok,rfl,I,B,D,E,b⟩;have k:=af b;have x:=af D;have y:=af E;have n:=af B;clear b D E B;cases ok with
   |true=>
    have u:ah (kL (122::r)=jI (l.map fp)):=by
     show _=_;rw[a.o,x.o rfl];exact(LO l []).symm
    have g:(l.map fp).length=l.length:=by simp
    have s:ah (F.ownsRow j.heap.size 150 3 v (l.map fp).length (me (l.map fp))):=by
     show World.ownsRow _ _ _ _ _ _ _;rw[g,<-yt];exact n.o
    obtain⟨p,q,i⟩:∃p q,fG (jI (l.map fp))=iU #[iT p,iB q]:=by
     cases jI (l.map fp)with
     |none=>exact⟨_,_,rfl⟩
     |some o=>exact⟨_,_,rfl⟩
    have f:=af i;have z:(l.map fp).length<=1048576:=by omega
    clear a x y n i g;go_wp2_with fail;refine(Uh v _ _ _ z s.o).mono ?_;rintro e J ⟨rfl,b⟩;have m:=af (k.o.trans (b.mono k.o.size));rw[f.o];clear b k;go_wp2;exact az (bt rfl _ _ _) rfl ⟨by rw[u.o,f.o];rfl,m.o⟩
   |false=>
    have u:ah (kL (122::r)=O):=by
     show _=_;rw[a.o,y.o rfl];rfl
    clear a x y n;go_wp2;exact az (bt rfl _ _ _) rfl ⟨by rw[u.o];rfl,k.o⟩
  ·have h:∀r,t≠122::r:=λr e=>A ⟨r,e⟩
   have a:ah (kL t=O):=by
    show _=_;unfold kL;cases t with
    |nil=>rfl
    |cons c r=>
     simp only;rw[ai (λe=>d r (by rw[e])),ai (λe=>h r (by rw[e]))]
   go_enter Tryz.func111,Tryz.ntmps111;go_wp2_with fail;refine(Be _ 114 d _).mono ?_;rintro e j ⟨rfl,rfl⟩;go_wp2_with fail;refine(Be _ 122 h _).mono ?_;rintro e j ⟨rfl,rfl⟩;go_wp2;exact az (bt rfl _ _ _) rfl ⟨by rw[a.o];rfl,ax _ _⟩
theorem LQ(a b:List UInt8)(h:a≠b):((BA a).toList==(BA b).toList)=iF:=by
 rw[mU,mU,oN,oN,dk];exact h
theorem Q4(t:List UInt8)(w:iW)(n:t.length<=9223372036854775807):
 iK Tryz.prog 65 #[iT (BA t)] w λe w'=>e=G (fG (dc t))/\iL w.heap.size w w':=by
 have m:=mA t;by_cases l:(65:Int)<t.length
 ·have c:ah (dc t=O):=by show _=_;rw[<-L9];unfold uk;rw[ak (by omega)]
  go_enter Tryz.func65,Tryz.ntmps65;go_wp2;exact az (bt rfl _ _ _) rfl ⟨by rw[c.o];rfl,ax _ _⟩
 ·have h:ah (dc t=(kL t).bind λs=>if cR s=X t then X s else O):=by show _=_;rw[<-L9];unfold uk;rw[ai (by omega)]
  have d:=af (aaN t);obtain⟨o,j⟩:=aq (kL t);rw[j]at h d;clear j;go_enter Tryz.func65,Tryz.ntmps65;go_wp2_with fail;refine(d.o _ (by omega)).mono ?_
  rintro e q ⟨rfl,i⟩;have b:=af i;clear i d;cases o with
  |none=>
   have c:ah (dc t=O):=h;rw[tV];clear h;go_wp2;exact az (bt rfl _ _ _) rfl ⟨by rw[c.o];rfl,b.o⟩
  |some s=>
   have a:ah (dc t=if cR s=X t then X s else O):=h
   have d:=af (Wp (BA s));rw[oN]at d;obtain⟨o,j⟩:=aq (cR s);rw[j]at a d;rw[tQ];clear j h;go_wp2_with fail;refine(d.o _).mono ?_;rintro e r ⟨rfl,i⟩;have f:=af (b.o.trans (i.mono b.o.size));clear i d b;cases o with
   |none=>
    have c:ah (dc t=O):=by show _=_;rw[a.o,ai (by simp)]
    rw[tV];clear a;go_wp2;exact az (bt rfl _ _ _) rfl ⟨by rw[c.o];rfl,f.o⟩
   |some p=>
    rw[tQ];by_cases g:p=t
    ·subst g;have c:ah (dc p=X s):=by show _=_;rw[a.o,ak rfl]
     have k:((BA p).toList !=(BA p).toList)=iF:=by simp
     clear a;go_wp2;exact az (bt rfl _ _ _) rfl ⟨by rw[c.o];rfl,f.o⟩
    ·have c:ah (dc t=O):=by show _=_;rw[a.o,ai (λe=>g (by simpa using e))]
     have k:=LQ p t g;clear a;go_wp2;exact az (bt rfl _ _ _) rfl ⟨by rw[c.o];rfl,f.o⟩
end Go.Proofs.YtgigcooffjjbgaaGreatDoor
