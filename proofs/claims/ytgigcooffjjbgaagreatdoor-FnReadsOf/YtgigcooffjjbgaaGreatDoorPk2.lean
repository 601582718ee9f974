/-
  Draw; D2; DText; D2o; D3p; SMath; SeP; DecI; Math; Math2; PgMath; RdP; FlP; SoMath; FoP
-/
import Derived.Test.YtgigcooffjjbgaaGreatDoorPk0
import Derived.Laws.Bits128
open Go.Value renaming int→I,slice→Y,string→iT,bool→iB,pointer→iP
open Go.IntKind renaming i64→J
open Option renaming none→O,some→X
open Go.Ending renaming returned→G
open Go.Obj renaming cells→iC
open Bool renaming true→iV,false→iF
open Go renaming World→iW,Value→iX,Calls→iK
open Go.RowKit renaming Below→iL
set_option maxHeartbeats 1000000
set_option maxRecDepth 100000
namespace Go.Proofs.YtgigcooffjjbgaaGreatDoor
open Go.RowKit
theorem Qd(n:Int):bits .and J n 255=n % 256:=by
 have a:(BitVec.ofInt 64 255).toNat=2^8-1:=by decide
 have b:(BitVec.ofInt 64 n&&&BitVec.ofInt 64 255).toNat=(n % ((2^64:Nat):Int)).toNat % 2^8:=by
  rw[BitVec.toNat_and,BitVec.toNat_ofInt,a,Nat.and_two_pow_sub_one_eq_mod]
 show IntKind.i64.wrap ((BitVec.ofInt 64 n&&&BitVec.ofInt 64 255).toNat:Nat)=n % 256;rw[b,cm];omega
def iY(w:iW)(ad:Option Addr)(d B:Nat):Prop:=
 ∀j,j<d->∃b a,ad=X ⟨b,a,O⟩/\b<B/\∃c:Nat,c<256/\w.cell? ⟨b,a+j,O⟩=X (I .u8 c)
variable{B C cap:Nat}{ad:Option Addr}
theorem iY.on{w w':iW}{a:Nat}(h:iY w ad a B)(g:iL C w w')(k:B<=C):iY w' ad a B:=by
 intro j i;obtain⟨b,d,h1,e,c,f,h4⟩:=h j i;exact⟨b,d,h1,e,c,f,by rw[g.cell (show b<C by omega)];exact h4⟩
def kR(w:iW)(p:Nat)(ad:Option Addr)(a cap:Nat):Prop:=
 w.cell? ⟨p,0,O⟩=X (Y ad a cap)/\(∃i:Nat,i<=a/\w.cell? ⟨p,1,O⟩=X (I J i))/\(∃h:Int,w.cell? ⟨p,2,O⟩=X (I J h))/\
 w.frozen? ⟨p,1,O⟩=iF/\w.frozen? ⟨p,2,O⟩=iF/\p<w.heap.size
theorem kR.below{w w':iW}{p:Nat}{b:Nat}(h:kR w p ad b cap)(a:iL C w w')(g:p<C):kR w' p ad b cap:=by
 obtain⟨h1,⟨i,hi,c⟩,⟨x,d⟩,h4,e,f⟩:=h;exact⟨by rw[a.cell (show p<C by omega)];exact h1,⟨i,hi,by rw[a.cell (show p<C by omega)];exact c⟩,⟨x,by rw[a.cell (show p<C by omega)];exact d⟩,
  by rw[a.frozen (show p<C by omega)];exact h4,by rw[a.frozen (show p<C by omega)];exact e,eW f a.size⟩
theorem Dx{c d e:iW}{r:Option Nat}(h:c.grownBy d r)(k:d.grownBy e r):c.grownBy e r:=
 ⟨k.os.trans h.os,k.tape.trans h.tape,k.output.trans h.output,bV h.size k.size,λj a b=>(k.block j (eW a h.size) b).trans (h.block j a b)⟩
theorem Sr(w:iW)(r:Option Nat):w.grownBy w r:=⟨rfl,rfl,rfl,am _,λ_ _ _=>rfl⟩
theorem Iw(w:iW)(p:Nat)(o:Nat)(v:iX):w.grownBy (w.setCell ⟨p,o,O⟩ v) (X p):=
 ⟨rfl,rfl,rfl,by simp,λk _ a=>heap_setCell_other w ⟨p,o,O⟩ k v (λe=>a (by simp[e]))⟩
theorem VV(w:iW)(n:Nat)(r:Option Nat):w.grownBy (w.drewN n) r:=⟨rfl,rfl,rfl,am _,λ_ _ _=>rfl⟩
theorem PU{p:Nat}{w w':iW}(h:w.grownBy w' (X p))(c:B<=p)(a:B<=w.heap.size):iL B w w':=
 (ax _ _).grown h a (λk b=>by cases b;exact c)
theorem uh(p:Nat)(ad:Option Addr)(a cap B:Nat)(w:iW)(hl:a<=1048576)(H:kR w p ad a cap)(A:iY w ad a B)(Z:B<=p):
 iK Tryz.prog 43 #[iP (X ⟨p,0,O⟩)] w λe w'=>∃x:Int,e=G (I J x)/\0<=x/\x<256/\w.grownBy w' (X p)/\kR w' p ad a cap:=by
 obtain⟨h1,⟨i,hi,r⟩,⟨x,s⟩,h4,t,V⟩:=H;have C:=af A;clear A;go_enter Tryz.func43,Tryz.ntmps43;go_wp2;have v:=Qd;have g:(w.setCell ⟨p,2,O⟩ (I J (wrap64 (wrap64 (x*6364136223846793005)+1442695040888963407)))).cell? ⟨p,0,O⟩=X (Y ad a cap):=by
  rw[iN _ _ _ _ (by simp)];exact h1
 have h:(w.setCell ⟨p,2,O⟩ (I J (wrap64 (wrap64 (x*6364136223846793005)+1442695040888963407)))).cell? ⟨p,1,O⟩=X (I J i):=by
  rw[iN _ _ _ _ (by simp)];exact r
 have j:=qX w ⟨p,2,O⟩ (I J (wrap64 (wrap64 (x*6364136223846793005)+1442695040888963407))) s;have l:(w.setCell ⟨p,2,O⟩ (I J (wrap64 (wrap64 (x*6364136223846793005)+1442695040888963407)))).frozen? ⟨p,1,O⟩=iF:=by simpa using h4
 have m:(w.setCell ⟨p,2,O⟩ (I J (wrap64 (wrap64 (x*6364136223846793005)+1442695040888963407)))).frozen? ⟨p,2,O⟩=iF:=by simpa using t
 have q:=Iw w p 2 (I J (wrap64 (wrap64 (x*6364136223846793005)+1442695040888963407)));generalize w.setCell ⟨p,2,O⟩ (I J (wrap64 (wrap64 (x*6364136223846793005)+1442695040888963407)))=W at*;generalize wrap64 (wrap64 (x*6364136223846793005)+1442695040888963407)=y at*;go_region_held3 (λw'=>w'.cell? ⟨p,2,O⟩=X (I J y)) (go_keep) (fail)
 obtain⟨z,u⟩:=aq (bits BinOp.xor IntKind.i64 (y/8589934592) (y/35184372088832) % 256);have T:0<=z:=by omega
 have U:z<256:=by omega
 rw[u];have M:=q.size;have n:p<W.heap.size:=by omega
 by_cases N:(i:Int)<a
 ·obtain⟨b,f,rfl,F,c,K,d⟩:=C.o i (by omega)
  have L:W.cell? ⟨b,f+i,O⟩=X (I .u8 c):=by
   rw[zD (w:=w) (q.block b (by omega) (by simp;omega))];exact d
  have i0:(0:Int)<=i:=by omega
  have r1:IntKind.i64.wrap (c:Int)=c:=by rw[cm];omega
  have r2:IntKind.i64.wrap (z+c)=z+c:=by rw[cm];omega
  clear u d h1 r s h4 t;go_wp2;go_region_held3 (λw'=>w'.cell? ⟨p,0,O⟩=X (Y (X ⟨b,f,O⟩) a cap)/\w'.cell? ⟨p,1,O⟩=X (I J i)) (go_keep) (fail)
  go_wp2;go_region_held3 (λw'=>w'.cell? ⟨p,0,O⟩=X (Y (X ⟨b,f,O⟩) a cap)/\w'.cell? ⟨p,1,O⟩=X (I J i)/\w'.cell? ⟨b,f+i,O⟩=X (I .u8 c)) (go_keep) (fail)
  go_wp2;go_ret;have k:=Iw W p 1 (I J ((i:Int)+1));have Q:(W.setCell ⟨p,1,O⟩ (I J ((i:Int)+1))).cell? ⟨p,0,O⟩=X (Y (X ⟨b,f,O⟩) a cap):=by
   rw[iN _ _ _ _ (by simp)];exact g
  have R:=qX W ⟨p,1,O⟩ (I J ((i:Int)+1)) h;have S:(W.setCell ⟨p,1,O⟩ (I J ((i:Int)+1))).cell? ⟨p,2,O⟩=X (I J y):=by
   rw[iN _ _ _ _ (by simp)];exact j
  have D:(W.setCell ⟨p,1,O⟩ (I J ((i:Int)+1))).frozen? ⟨p,1,O⟩=iF:=by simpa using l
  have E:(W.setCell ⟨p,1,O⟩ (I J ((i:Int)+1))).frozen? ⟨p,2,O⟩=iF:=by simpa using m
  have P:=k.size;exact⟨(z+c) % 256,rfl,by omega,by omega,Dx q ⟨k.os,k.tape,k.output,k.size,k.block⟩,Q,⟨i+1,by omega,R⟩,⟨y,S⟩,D,E,eW n P⟩
 ·clear u h1 r s h4 t;go_wp2;go_region_held3 (λw'=>w'.cell? ⟨p,0,O⟩=X (Y ad a cap)/\w'.cell? ⟨p,1,O⟩=X (I J i)) (go_keep) (fail)
  go_wp2;go_ret;exact⟨z,rfl,T,U,Dx q (VV W 2 _),g,⟨i,hi,h⟩,⟨y,j⟩,l,m,n⟩
def dq(w w':iW)(p:Nat)(ad:Option Addr)(a cap:Nat):Prop:=w.grownBy w' (X p)/\kR w' p ad a cap
theorem dq.code{w w':iW}{p:Nat}{a:Nat}(h:dq w w' p ad a cap)(c:iY w ad a B)(b:B<=p)(d:p<w.heap.size):iY w' ad a B:=
 c.on (PU h.1 b (by omega)) (am _)
theorem dq.trans{b c d:iW}{p:Nat}{a:Nat}(h:dq b c p ad a cap)(k:dq c d p ad a cap):dq b d p ad a cap:=⟨Dx h.1 k.1,k.2⟩
theorem dq.refl{w:iW}{p:Nat}{ad:Option Addr}{a cap:Nat}(h:kR w p ad a cap):dq w w p ad a cap:=⟨Sr _ _,h⟩
theorem dq.below{w d e:iW}{p:Nat}{b:Nat}(h:dq w d p ad b cap)(a:iL w.heap.size d e)(f:p<w.heap.size):dq w e p ad b cap:=
 ⟨⟨a.os.trans h.1.os,a.tape.trans h.1.tape,a.output.trans h.1.output,bV h.1.size a.size,λj c g=>(a.block j c).trans (h.1.block j c g)⟩,h.2.below a f⟩
theorem oG(n:Int)(p:Nat)(ad:Option Addr)(a cap B:Nat)(w:iW)(Q:n<=1000000000000)(i:a<=1048576)(r:kR w p ad a cap)(D:iY w ad a B)(b:B<=p):
 iK Tryz.prog 44 #[iP (X ⟨p,0,O⟩),I J n] w λe w'=>∃x:Int,e=G (I J x)/\0<=x/\(0<n->x<n)/\(n<=0->x=0)/\dq w w' p ad a cap:=by
 have v:=r.2.2.2.2.2;have l:=af r;have m:=af D;clear r D;by_cases h1:n<=0
 ·go_enter Tryz.func44,Tryz.ntmps44;go_wp2;go_ret;exact⟨0,rfl,by omega,λh=>by omega,λ_=>rfl,dq.refl l.o⟩
 ·by_cases P:n<=256
  ·go_enter Tryz.func44,Tryz.ntmps44;go_wp2_with fail;refine(uh p ad a cap B _ i l.o m.o b).mono ?_;rintro e q ⟨x,rfl,M,N,g1,c1⟩;have f:ah (dq w q p ad a cap):=⟨g1,c1⟩;clear g1 c1;have A:=Int.emod_nonneg x (show n≠0 by omega)
   have m1:=Int.emod_lt_of_pos x (show 0<n by omega)
   have K:(n==0)=iF:=by rw[dk];omega
   go_wp2;go_ret;exact⟨x % n,rfl,A,λ_=>m1,λh=>by omega,f.o⟩
  ·go_enter Tryz.func44,Tryz.ntmps44;go_wp2_with fail;refine(uh p ad a cap B _ i l.o m.o b).mono ?_;rintro e q ⟨x,rfl,M,N,g1,c1⟩;have f:ah (dq w q p ad a cap):=⟨g1,c1⟩;have c:=af (f.o.code m.o b v);have s:=c1.2.2.2.2.2;clear g1 c1 m l;go_wp2_with fail;refine(uh p ad a cap B _ i f.o.2 c.o b).mono ?_;rintro e E ⟨y,rfl,T,U,g1,c1⟩;have j:ah (dq q E p ad a cap):=⟨g1,c1⟩;have d:=af (j.o.code c.o b s);have t:=c1.2.2.2.2.2;clear g1 c1 c;go_wp2_with fail;refine(uh p ad a cap B _ i j.o.2 d.o b).mono ?_;rintro e F ⟨z,rfl,V,W,g1,c1⟩;have k:ah (dq E F p ad a cap):=⟨g1,c1⟩;have g:=af (k.o.code d.o b t);clear g1 c1 d;go_wp2_with fail;refine(uh p ad a cap B _ i k.o.2 g.o b).mono ?_;rintro e L ⟨u,rfl,R,S,g1,c1⟩;have C:ah (dq F L p ad a cap):=⟨g1,c1⟩;have H:=af (((f.o.trans j.o).trans k.o).trans C.o);clear g1 c1 g f j k C;have A:=Int.emod_nonneg (x*16777216+y*65536+z*256+u) (show n≠0 by omega)
   have m1:=Int.emod_lt_of_pos (x*16777216+y*65536+z*256+u) (show 0<n by omega)
   have K:(n==0)=iF:=by rw[dk];omega
   go_wp2;go_ret;exact⟨(x*16777216+y*65536+z*256+u) % n,rfl,A,λ_=>m1,λh=>by omega,H.o⟩
theorem Vp (g:Nat) (ls:List ByteArray) (p:Nat) (ad:Option Addr) (b cap B:Nat) (w:iW) (h0:0<ls.length) (h1:ls.length<=1000) (v:g≠p)
 (a:∀j,j<ls.length->w.cell? ⟨g,j,O⟩=X (iT (ls.getD j ⟨#[]⟩))) (z:b<=1048576) (l:kR w p ad b cap) (m:iY w ad b B) (u:B<=p):
 iK Tryz.prog 121 #[iP (X ⟨p,0,O⟩),Y (X ⟨g,0,O⟩) ls.length ls.length] w λe w'=>∃t:ByteArray,e=G (iT t)/\ah (t∈ls)/\dq w w' p ad b cap:=by
 have q:=af l;have r:=af m;have s:=af a;clear l m a;go_enter Tryz.func121,Tryz.ntmps121;go_wp2_with fail;refine(oG (ls.length:Int) p ad b cap B _ (by omega) z q.o r.o u).mono ?_
 rintro e A ⟨x,rfl,C,n,_,f⟩;have D:=n (by omega)
 obtain⟨j,rfl⟩:=AY C;have d:=s.o j (by omega)
 have k:g<w.heap.size:=bk w _ d;have i:A.cell? ⟨g,j,O⟩=X (iT (ls.getD j ⟨#[]⟩)):=by
  rw[zD (w:=w) (f.1.block g k (by simpa using v))];exact d
 have c:ah (ls.getD j ⟨#[]⟩∈ls):=by
  show _∈_;rw[pL,ay (by omega)]
  exact rl _
 obtain⟨y,hy⟩:=aq (ls.getD j ⟨#[]⟩);rw[hy]at i c;have h:=af f;clear f d hy n;go_wp2;go_ret;exact⟨y,rfl,c,h.o⟩
def sK:List ByteArray:=[⟨#[]⟩,⟨#[97]⟩,⟨#[98,98]⟩,⟨#[97,98,99,100,97,98,99,100,97,98,99,100]⟩,⟨#[104,101,108,108,111]⟩,⟨#[104,101,108,108,111,32,104,101,108,108,111,32,104,101,108,108,111]⟩,⟨#[122,122,122,122,122,122,122,122,122,122,122,122]⟩,⟨#[113,49]⟩,⟨#[113,50]⟩,⟨#[113,51]⟩]
theorem K8(w:iW)(cs:Array iX)(t:TypeId)(j:Nat)(v:iX)(h:cs[j]?=X v):(w.alloc (iC cs t)).cell? ⟨w.heap.size,j,O⟩=X v:=(aj _ _ j _ _ _ (aB w (iC cs t))).trans h
theorem YJ(w:iW):∀j,j<sK.length->(w.alloc (iC #[iT ⟨#[]⟩,iT ⟨#[97]⟩,iT ⟨#[98,98]⟩,iT ⟨#[97,98,99,100,97,98,99,100,97,98,99,100]⟩,iT ⟨#[104,101,108,108,111]⟩,iT ⟨#[104,101,108,108,111,32,104,101,108,108,111,32,104,101,108,108,111]⟩,iT ⟨#[122,122,122,122,122,122,122,122,122,122,122,122]⟩,iT ⟨#[113,49]⟩,iT ⟨#[113,50]⟩,iT ⟨#[113,51]⟩] 9)).cell? ⟨w.heap.size,j,O⟩=X (iT (sK.getD j ⟨#[]⟩)):=by
 intro j a;have a:j<10:=a;refine K8 w _ _ j _ ?_;have:j=0∨j=1∨j=2∨j=3∨j=4∨j=5∨j=6∨j=7∨j=8∨j=9:=by omega
 rcases this with rfl|rfl|rfl|rfl|rfl|rfl|rfl|rfl|rfl|rfl<;>rfl
theorem Xd(p:Nat)(ad:Option Addr)(a cap B:Nat)(w:iW)(q:a<=1048576)(f:kR w p ad a cap)(l:iY w ad a B)(m:B<=p):
 iK Tryz.prog 80 #[iP (X ⟨p,0,O⟩)] w λe w'=>∃t:ByteArray,e=G (iT t)/\ah (t∈sK)/\dq w w' p ad a cap:=by
 have r:=f.2.2.2.2.2;have b:=aT w (iC #[iT ⟨#[]⟩,iT ⟨#[97]⟩,iT ⟨#[98,98]⟩,iT ⟨#[97,98,99,100,97,98,99,100,97,98,99,100]⟩,iT ⟨#[104,101,108,108,111]⟩,iT ⟨#[104,101,108,108,111,32,104,101,108,108,111,32,104,101,108,108,111]⟩,iT ⟨#[122,122,122,122,122,122,122,122,122,122,122,122]⟩,iT ⟨#[113,49]⟩,iT ⟨#[113,50]⟩,iT ⟨#[113,51]⟩] 9);have c:=af (f.below b r);have i:=af (l.on b (by omega))
 have k:=af (YJ w);have h:ah (dq w (w.alloc (iC #[iT ⟨#[]⟩,iT ⟨#[97]⟩,iT ⟨#[98,98]⟩,iT ⟨#[97,98,99,100,97,98,99,100,97,98,99,100]⟩,iT ⟨#[104,101,108,108,111]⟩,iT ⟨#[104,101,108,108,111,32,104,101,108,108,111,32,104,101,108,108,111]⟩,iT ⟨#[122,122,122,122,122,122,122,122,122,122,122,122]⟩,iT ⟨#[113,49]⟩,iT ⟨#[113,50]⟩,iT ⟨#[113,51]⟩] 9)) p ad a cap):=⟨⟨rfl,rfl,rfl,by simp,λj n _=>b.block j n⟩,c.o⟩
 clear f l b;go_enter Tryz.func80,Tryz.ntmps80;go_wp2_with fail;generalize w.alloc (iC #[iT ⟨#[]⟩,iT ⟨#[97]⟩,iT ⟨#[98,98]⟩,iT ⟨#[97,98,99,100,97,98,99,100,97,98,99,100]⟩,iT ⟨#[104,101,108,108,111]⟩,iT ⟨#[104,101,108,108,111,32,104,101,108,108,111,32,104,101,108,108,111]⟩,iT ⟨#[122,122,122,122,122,122,122,122,122,122,122,122]⟩,iT ⟨#[113,49]⟩,iT ⟨#[113,50]⟩,iT ⟨#[113,51]⟩] 9)=wa at c i k h⊢;refine(Vp w.heap.size sK p ad a cap B wa (by decide) (by decide) (by omega) k.o q c.o i.o m).mono ?_
 rintro e u ⟨t,rfl,s,g⟩;have d:=af (h.o.trans g);clear g;go_wp2;go_ret;exact⟨t,rfl,s,d.o⟩
theorem Hm(n:Int)(p:Nat)(ad:Option Addr)(a cap B:Nat)(w:iW)(l:n<=1000000000000)(k:a<=1048576)(f:kR w p ad a cap)(g:iY w ad a B)(j:B<=p):
 iK Tryz.prog 79 #[iP (X ⟨p,0,O⟩),I J n] w λe w'=>∃b:Bool,e=G (iB b)/\dq w w' p ad a cap:=by
 have h:=af f;have i:=af g;clear f g;go_enter Tryz.func79,Tryz.ntmps79;go_wp2_with fail;refine(oG n p ad a cap B _ l k h.o i.o j).mono ?_;rintro e m ⟨x,rfl,q,_,_,d⟩;have c:=af d;clear d;go_wp2;all_goals
  go_ret;exact⟨_,rfl,c.o⟩
theorem ZU (g:Nat) (ls:List Int) (p:Nat) (ad:Option Addr) (b cap B:Nat) (w:iW) (h0:0<ls.length) (h1:ls.length<=1000) (t:g≠p)
 (a:∀j,j<ls.length->w.cell? ⟨g,j,O⟩=X (I J (ls.getD j 0))) (u:b<=1048576) (k:kR w p ad b cap) (l:iY w ad b B) (s:B<=p):
 iK Tryz.prog 78 #[iP (X ⟨p,0,O⟩),Y (X ⟨g,0,O⟩) ls.length ls.length] w λe w'=>∃x:Int,e=G (I J x)/\dq w w' p ad b cap:=by
 have n:=af k;have q:=af l;have r:=af a;clear k l a;go_enter Tryz.func78,Tryz.ntmps78;go_wp2_with fail;refine(oG (ls.length:Int) p ad b cap B _ (by omega) u n.o q.o s).mono ?_
 rintro e v ⟨x,rfl,z,m,_,d⟩;have A:=m (by omega)
 obtain⟨j,rfl⟩:=AY z;have c:=r.o j (by omega)
 have i:g<w.heap.size:=bk w _ c;have h:v.cell? ⟨g,j,O⟩=X (I J (ls.getD j 0)):=by
  rw[zD (w:=w) (d.1.block g i (by simpa using t))];exact c
 obtain⟨y,hy⟩:=aq (ls.getD j 0);rw[hy]at h;have f:=af d;clear d c hy m;go_wp2;go_ret;exact⟨y,rfl,f.o⟩
end Go.Proofs.YtgigcooffjjbgaaGreatDoor
namespace Go.Proofs.YtgigcooffjjbgaaGreatDoor.Sums
def xy:Nat:=3558460437
def io(x:Nat):Nat:=x/2^^^(if x % 2=1 then xy else 0)
def h4(x:Nat):Nat:=io (io (io (io x)))
def vw(s:Nat)(b:UInt8):Nat:=h4 (h4 (s^^^b.toNat))
def jK(s:Nat)(l:List UInt8):Nat:=l.foldl vw s
def lN:List Nat:=[0,1166650509,2333301018,3466261911,3189058079,4221339282,889615109,1888477064,3558460437,2442158232,1594529039,444807554,1779230218,797264519,3776954128,2761298845]
theorem Jo(x:Nat):x % 2=0∨x % 2=1:=by omega
theorem wu(x:Nat)(h:x<4294967296):io x<4294967296:=by
 unfold io;refine Nat.xor_lt_two_pow (n:=32) (by omega) ?_
 split<;>simp[xy]
theorem qM(x:Nat)(h:x<4294967296):h4 x<4294967296:=wu _ (wu _ (wu _ (wu _ h)))
theorem RW(b:UInt8):b.toNat<256:=by have:=b.toNat_lt;omega
theorem yX(x y:Nat)(h:x<4294967296)(k:y<4294967296):x^^^y<4294967296:=Nat.xor_lt_two_pow (n:=32) h k
theorem Xn(s:Nat)(b:UInt8)(h:s<4294967296):s^^^b.toNat<4294967296:=yX _ _ h (by have:=RW b;omega)
theorem Xf(s:Nat)(b:UInt8)(h:s<4294967296):vw s b<4294967296:=qM _ (qM _ (Xn s b h))
theorem Ro(l:List UInt8):∀s,s<4294967296->jK s l<4294967296:=by
 induction l with
 |nil=>intro s h;exact h
 |cons a l b=>intro s h;exact b _ (Xf s a h)
theorem RZ(s:Nat)(l k:List UInt8):jK s (l++k)=jK (jK s l) k:=by simp[jK]
theorem JA(s:Nat)(l:List UInt8)(k:Nat)(h:k<l.length):jK s (l.take (k+1))=vw (jK s (l.take k)) l[k]:=by
 rw[ft h,RZ];rfl
theorem VO(x y:Nat):io (x^^^y)=io x^^^io y:=by
 unfold io;have d:(x^^^y)/2=x/2^^^y/2:=by
  have:=Nat.shiftRight_xor_distrib (a:=x) (b:=y) (i:=1)
  simpa[Nat.shiftRight_eq_div_pow]using this
 have e:(x^^^y) % 2=(x % 2)^^^(y % 2):=by
  have:=Nat.xor_mod_two_pow (a:=x) (b:=y) (n:=1)
  simpa using this
 rw[d,e];rcases Jo x with c|c<;>rcases Jo y with hy|hy<;>simp[c,hy]
 ·rw[sg]
 ·rw[sg,sg];congr 1;exact Nat.xor_comm _ _
 ·rw[sg,<-sg xy,Nat.xor_comm xy,sg (y/2),Nat.xor_self,Nat.xor_zero]
theorem Sk(x y:Nat):h4 (x^^^y)=h4 x^^^h4 y:=by simp only[h4,VO]
theorem yQ(x:Nat):io (2*x)=x:=by
 unfold io;have a:2*x/2=x:=by omega
 have b:2*x % 2=0:=by omega
 rw[a,b];simp
theorem Rz(q:Nat):h4 (16*q)=q:=by
 unfold h4;rw[show 16*q=2*(2*(2*(2*q)))by omega,yQ,yQ,yQ,yQ]
theorem P7:∀r:Fin 16,h4 r.val=lN[r.val]'(by simp[lN]):=by decide
theorem PR(x:Nat):x=(16*(x/16))^^^(x % 16):=by
 have h:=Nat.two_pow_add_eq_or_of_lt (i:=4) (b:=x % 16) (by omega) (x/16)
 have e:16*(x/16)^^^(x % 16)=16*(x/16)|||(x % 16):=by
  apply Nat.eq_of_testBit_eq;intro i;rw[Nat.testBit_xor,Nat.testBit_or];have a:(16:Nat)=2^4:=rfl;by_cases hi:i<4
  ·have:(16*(x/16)).testBit i=iF:=by rw[a,Nat.testBit_two_pow_mul];simp;omega
   simp[this]
  ·have:(x % 16).testBit i=iF:=by rw[a,Nat.testBit_mod_two_pow];simp;omega
   simp[this]
 rw[e];simp at h;omega
theorem SG:lN.length=16:=rfl
theorem Zc(x:Nat)(h:x % 16<lN.length):h4 x=x/16^^^lN[x % 16]:=by
 have e:=P7 ⟨x % 16,by omega⟩
 simp only at e;rw[<-e]
 conv=>lhs;rw[PR x,Sk,Rz]
def fi(x:Nat):List UInt8:=[UInt8.ofNat (x/16777216 % 256),UInt8.ofNat (x/65536 % 256),UInt8.ofNat (x/256 % 256),UInt8.ofNat (x % 256)]
theorem wt(x:Nat):(fi x).length=4:=rfl
def start:Nat:=4294967295
def kX(l:List UInt8):Nat:=jK start l
theorem wO(l:List UInt8):kX l<4294967296:=Ro l _ (by decide)
end Go.Proofs.YtgigcooffjjbgaaGreatDoor.Sums
namespace Go.Proofs.YtgigcooffjjbgaaGreatDoor
open Sums
def cY(t:ByteArray):ByteArray:=t++⟨(fi (kX t.data.toList)).toArray⟩
theorem Br(t:ByteArray):(cY t).size=t.size+4:=by
 simp[cY,ByteArray.size_append];rfl
def fj(t:ByteArray):ByteArray:=t.extract 0 (t.size-4)
theorem sZ(t:ByteArray):(fj t).size=t.size-4:=by simp[fj]
def jW(t:ByteArray):Option ByteArray:=
 if 4<=t.size/\t.size<=20004/\(cY (fj t)).data.toList=t.data.toList then X (fj t)else O
variable{t:ByteArray}
theorem yF{s:ByteArray}(h:jW t=X s):cY s=t/\s.size<=20000:=by
 unfold jW at h;split at h
 ·rename_i hc
  cases h;exact⟨lg (sO.1 hc.2.2),by rw[sZ];omega⟩
 ·cases h
theorem Vz(s:ByteArray):fj (cY s)=s:=by
 unfold fj;rw[Br];apply lg;unfold cY;have e:s.size+4-4=s.data.size:=by simp
 rw[e];simp[ByteArray.data_append,ByteArray.data_extract]
theorem Ve(s:ByteArray)(h:s.size<=20000):jW (cY s)=X s:=by
 unfold jW;rw[Vz,ak ⟨by rw[Br];omega,by rw[Br];omega,rfl⟩]
theorem tI(h:¬(4<=t.size/\t.size<=20004/\cY (fj t)=t)):jW t=O:=by
 unfold jW;rw[ai];rintro⟨a,b,c⟩;exact h ⟨a,b,lg (sO.1 c)⟩
theorem Jt(h1:4<=t.size)(a:t.size<=20004)(b:cY (fj t)=t):jW t=X (fj t):=by
 unfold jW;rw[ak ⟨h1,a,by rw[b]⟩]
theorem n8{p:Prop}{d:Decidable p}(h:p): @decide p d=iV:=aS h
theorem eM{p:Prop}{d:Decidable p}(h:¬p): @decide p d=iF:=aV h
theorem Fi{p q:Prop}{d:Decidable p}{e:Decidable q}(h:p↔q): @decide p d= @decide q e:=yJ.2 h
theorem tw{p:Prop}{d:Decidable p}:(@decide p d=iV)=p:=bM
end Go.Proofs.YtgigcooffjjbgaaGreatDoor
namespace Go.Proofs.YtgigcooffjjbgaaGreatDoor.Words
def pi:Nat->Nat->List UInt8
 |0,n=> [UInt8.ofNat n]
 |f+1,n=>if n<128 then[UInt8.ofNat n]else UInt8.ofNat (n % 128+128)::pi f (n/128)
def bK(n:Nat):List UInt8:=pi n n
theorem Tj:∀(f g n:Nat),n<=f->n<=g->pi f n=pi g n:=by
 intro f
 induction f with
 |zero=>
  intro g n a b;have:n=0:=by omega
  subst this;cases g<;>simp[pi]
 |succ f c=>
  intro g n a b;cases g with
  |zero=>
   have:n=0:=by omega
   subst this;simp[pi]
  |succ g=>
   simp only[pi];split
   ·rfl
   ·rw[c g (n/128) (by omega) (by omega)]
theorem ru(n:Nat)(h:n<128):bK n=[UInt8.ofNat n]:=by
 unfold bK;cases n with
 |zero=>rfl
 |succ n=>simp[pi,h]
theorem vO(n:Nat)(h:128<=n):bK n=UInt8.ofNat (n % 128+128)::bK (n/128):=by
 unfold bK;cases n with
 |zero=>omega
 |succ n=>
  rw[pi,ai (by omega)]
  rw[Tj n ((n+1)/128) ((n+1)/128) (by omega) (am _)]
theorem p8(n:Nat)(h:n<9223372036854775808):0<(bK n).length/\(bK n).length<=9:=by
 have c:∀n,n<128->(bK n).length=1:=λn h=>by rw[ru n h];rfl
 have a:∀(k:Nat) (b:Nat),(∀n,n<b->0<(bK n).length/\(bK n).length<=k)->128<=128*b->∀n,n<128*b->0<(bK n).length/\(bK n).length<=k+1:=by
  intro k b m _ n o;by_cases h1:n<128
  ·rw[c n h1];omega
  ·rw[vO n (by omega),aW]
   have:=m (n/128) (by omega)
   omega
 have h1:∀n,n<128->0<(bK n).length/\(bK n).length<=1:=λn h=>by rw[c n h];omega
 have d:=a 1 128 h1 (by omega)
 have e:=a 2 (128*128) d (by omega)
 have h4:=a 3 (128*(128*128)) e (by omega)
 have f:=a 4 (128*(128*(128*128))) h4 (by omega)
 have g:=a 5 (128*(128*(128*(128*128)))) f (by omega)
 have i:=a 6 (128*(128*(128*(128*(128*128))))) g (by omega)
 have j:=a 7 (128*(128*(128*(128*(128*(128*128)))))) i (by omega)
 have l:=a 8 (128*(128*(128*(128*(128*(128*(128*128))))))) j (by omega)
 exact l n (by omega)
def dG:List UInt8->Nat
 | []=>0
 |c::r=>c.toNat % 128+128*dG r
theorem E9(l:List UInt8)(c:UInt8):dG (l++[c])=dG l+c.toNat % 128*128^l.length:=by
 induction l with
 |nil=>simp[dG]
 |cons a l b=>
  simp only[ii,dG,b,aW,wM];rw[Nat.mul_add,<-mf];congr 1;rw[Nat.mul_left_comm,we 128]
theorem Oi(l:List UInt8):dG l<128^l.length:=by
 induction l with
 |nil=>simp[dG]
 |cons a l b=>
  simp only[dG,aW,wM];omega
def scan:Nat->List UInt8->Option (List UInt8)
 |0,_=>O
 |_+1,[]=>O
 |f+1,c::r=>if c.toNat<128 then X [c]else(scan f r).map (c::·)
theorem ofNat_toNat(c:UInt8):UInt8.ofNat c.toNat=c:=by simp
theorem GF:∀(p:List UInt8) (c:UInt8),c.toNat<128->(∀x∈p,128<=x.toNat)->
 (bK (dG (p++[c]))=p++[c]↔¬(c.toNat=0/\p≠ []))/\(dG (p++[c])=0->c.toNat=0):=by
 intro p
 induction p with
 |nil=>
  intro c f _;have e:dG ([]++[c])=c.toNat:=by simp[dG];omega
  rw[e,ru _ f];simp
 |cons a p t=>
  intro c f j;have u:128<=a.toNat:=j a (by simp)
  have q:a.toNat<256:=a.toNat_lt;obtain⟨k,l⟩:=t c f (λx s=>j x (by simp[s]))
  have e:dG (a::p++[c])=a.toNat % 128+128*dG (p++[c]):=rfl;rw[e];refine⟨?_,λh=>l (by omega)⟩
  by_cases g:dG (p++[c])=0
  ·have b:=l g;rw[g,ru _ (by omega)]
   constructor
   ·intro h;have:=congrArg List.length h;simp at this
   ·intro h;exact absurd ⟨b,by simp⟩ h
  ·rw[vO _ (by omega)]
   have m:(a.toNat % 128+128*dG (p++[c])) % 128+128=a.toNat:=by omega
   have n:(a.toNat % 128+128*dG (p++[c]))/128=dG (p++[c]):=by omega
   rw[m,n,ofNat_toNat];constructor
   ·intro h i;have o:bK (dG (p++[c]))=p++[c]:=by simpa using h
    have:=k.1 o;by_cases d:p=[]
    ·subst d;have:dG [c]=0:=by simp[dG,i.1]
     exact g this
    ·exact this ⟨i.1,d⟩
   ·intro h;have b:¬c.toNat=0:=λh0=>h ⟨h0,by simp⟩
    have:=k.2 (λr=>b r.1)
    rw[this];rfl
def bR(b:List UInt8)(a:Nat):Option (Nat×Nat):=
 match scan 5 (b.drop a)with
 |none=>O
 |some l=>if dG l<=1000000000/\bK (dG l)=l then X (dG l,a+l.length)else O
theorem Ui:∀(p r:List UInt8) (f:Nat),(∀x∈p,128<=x.toNat)->scan (p.length+f) (p++r)=(scan f r).map (p++·):=by
 intro p
 induction p with
 |nil=>intro r f _;simp
 |cons a p d=>
  intro r f b;have g:=b a (by simp)
  have e:(a::p).length+f=(p.length+f)+1:=by simp;omega
  rw[e,ii,scan,ai (by omega),d r f (λx c=>b x (by simp[c]))]
  cases scan f r<;>simp
end Go.Proofs.YtgigcooffjjbgaaGreatDoor.Words
namespace Go.Proofs.YtgigcooffjjbgaaGreatDoor.Words
def St(l:List UInt8)(q k n u:Nat):Prop:=
 k<=5/\q+k<=l.length/\(∀x∈(l.drop q).take k,128<=x.toNat)/\n=dG ((l.drop q).take k)/\u=128^k
variable{q k n:Nat}
theorem St.zero{l:List UInt8}(h:q<=l.length):St l q 0 0 1:=⟨by omega,by omega,by simp,by simp[dG],by simp⟩
theorem Dl{l:List UInt8}(h:q+k<l.length):(l.drop q).take (k+1)=(l.drop q).take k++[l[q+k]]:=by
 rw[ft (by simp;omega)]
 simp
theorem qn{l:List UInt8}(h:q+k<=l.length):((l.drop q).take k).length=k:=by simp;omega
theorem St.step{l:List UInt8}{u:Nat}(h:St l q k n u)(g:k<5)(c:q+k<l.length)(f:128<=l[q+k].toNat):
 St l q (k+1) (n+l[q+k].toNat % 128*u) (u*128):=by
 obtain⟨h1,d,e,h4,b⟩:=h;refine⟨by omega,by omega,?_,?_,?_⟩
 ·rw[Dl c];intro x a;rcases bJ.1 a with a|a
  ·exact e x a
  ·simp at a;subst a;exact f
 ·rw[Dl c,E9,qn d,<-h4,<-b]
 ·rw[b,wM]
theorem St.bounds{l:List UInt8}{u:Nat}(h:St l q k n u):0<u/\n<u/\u<=34359738368/\(k<5->u<=268435456)/\(k=5->u=34359738368):=by
 obtain⟨h1,b,d,h4,a⟩:=h;have c:=Oi ((l.drop q).take k);rw[qn b,<-h4,<-a]at c;have e:u=1/\k=0∨u=128/\k=1∨u=16384/\k=2∨u=2097152/\k=3∨u=268435456/\k=4∨u=34359738368/\k=5:=by
  match k,h1,a with
  |0,_,h=>left;exact⟨h,rfl⟩
  |1,_,h=>right;left;exact⟨h,rfl⟩
  |2,_,h=>right;right;left;exact⟨h,rfl⟩
  |3,_,h=>right;right;right;left;exact⟨h,rfl⟩
  |4,_,h=>right;right;right;right;left;exact⟨h,rfl⟩
  |5,_,h=>right;right;right;right;right;exact⟨h,rfl⟩
  |k+6,h,_=>omega
 omega
theorem abr{l:List UInt8}:l.drop q=(l.drop q).take k++l.drop (q+k):=by
 have:=jk k (l.drop q);rw[wg]at this;exact this.symm
theorem St.scan{l:List UInt8}{u:Nat}(h:St l q k n u):scan 5 (l.drop q)=(scan (5-k) (l.drop (q+k))).map ((l.drop q).take k++·):=by
 obtain⟨h1,a,b,_,_⟩:=h;have e:=Ui ((l.drop q).take k) (l.drop (q+k)) (5-k) b;rw[qn a,<-abr]at e;rw[<-e];congr 1;omega
theorem St.stop{l:List UInt8}{u:Nat}(h:St l q k n u)(hs:¬(q+k<l.length/\k<5)):bR l q=O:=by
 have e:=h.scan;obtain⟨h1,c,_,_,_⟩:=h;have:Words.scan (5-k) (l.drop (q+k))=O:=by
  by_cases b:k=5
  ·subst b;rfl
  ·have:l.drop (q+k)=[]:=mw (by omega)
   rw[this];obtain⟨f,a⟩:∃f,5-k=f+1:=⟨4-k,by omega⟩
   rw[a];rfl
 rw[this]at e;simp[bR,e]
theorem St.hit{l:List UInt8}{u:Nat}(h:St l q k n u)(s:k<5)(r:q+k<l.length)(c:l[q+k].toNat<128):
 bR l q=if n+l[q+k].toNat % 128*u<=1000000000/\¬(l[q+k].toNat=0/\k≠0)then X (n+l[q+k].toNat % 128*u,q+k+1)else O:=by
 have e:=h.scan;obtain⟨h1,a,m,h4,o⟩:=h;have g:l.drop (q+k)=l[q+k]::l.drop (q+k+1):=jh r;obtain⟨f,p⟩:∃f,5-k=f+1:=⟨4-k,by omega⟩
 rw[g,p,Words.scan,ak c,fE]at e;have d:=(GF ((l.drop q).take k) l[q+k] c m).1;have b:dG ((l.drop q).take k++[l[q+k]])=n+l[q+k].toNat % 128*u:=by rw[E9,qn a,<-h4,<-o]
 have i:(l.drop q).take k≠ []↔k≠0:=by
  rw[<-List.length_pos_iff,qn a];omega
 rw[b,i]at d;unfold bR;rw[e];simp only[b,d];have j:((l.drop q).take k++[l[q+k]]).length=k+1:=by rw[aI,qn a];rfl
 rw[j,mf]
theorem St.hit_yes {l:List UInt8} {u:Nat} (h:St l q k n u) (c:k<5) (d:q+k<l.length) (b:l[q+k].toNat<128)
 (h1:n+l[q+k].toNat % 128*u<=1000000000) (a:¬(l[q+k].toNat=0/\k≠0)):bR l q=X (n+l[q+k].toNat % 128*u,q+k+1):=by
 rw[h.hit c d b,ak ⟨h1,a⟩]
theorem St.hit_no {l:List UInt8} {u:Nat} (h:St l q k n u) (b:k<5) (c:q+k<l.length) (a:l[q+k].toNat<128)
 (h1:1000000000<n+l[q+k].toNat % 128*u∨l[q+k].toNat=0/\k≠0):bR l q=O:=by
 rw[h.hit b c a,ai (by omega)]
theorem St.hit_var{l:List UInt8}{u:Nat}(h:St l q k n u)(i:q+k<l.length)(g:l[q+k].toNat<128):
 bK (n+l[q+k].toNat % 128*u)=(l.drop q).take (k+1)↔¬(l[q+k].toNat=0/\k≠0):=by
 obtain⟨h1,a,e,h4,f⟩:=h;have b:=(GF ((l.drop q).take k) l[q+k] g e).1;have c:dG ((l.drop q).take k++[l[q+k]])=n+l[q+k].toNat % 128*u:=by rw[E9,qn a,<-h4,<-f]
 have d:(l.drop q).take k≠ []↔k≠0:=by
  rw[<-List.length_pos_iff,qn a];omega
 rw[c,d]at b;rw[Dl i];exact b
def At(l:List UInt8)(i c:Nat):Prop:=∃h:i<l.length,l[i].toNat=c
theorem St.step'{l:List UInt8}{u c:Nat}(h:St l q k n u)(d:k<5)(a:At l (q+k) c)(b:128<=c):St l q (k+1) (n+c % 128*u) (u*128):=by
 obtain⟨e,rfl⟩:=a;exact h.step d e b
theorem St.yes'{l:List UInt8}{u c:Nat}(h:St l q k n u)(e:k<5)(b:At l (q+k) c)(d:c<128)(h1:n+c % 128*u<=1000000000)(a:¬(c=0/\k≠0)):
 bR l q=X (n+c % 128*u,q+k+1):=by
 obtain⟨f,rfl⟩:=b;exact h.hit_yes e f d h1 a
theorem St.no'{l:List UInt8}{u c:Nat}(h:St l q k n u)(d:k<5)(a:At l (q+k) c)(b:c<128)(h1:1000000000<n+c % 128*u∨c=0/\k≠0):
 bR l q=O:=by
 obtain⟨e,rfl⟩:=a;exact h.hit_no d e b h1
theorem St.var'{l:List UInt8}{u c:Nat}(h:St l q k n u)(a:At l (q+k) c)(b:c<128):
 bK (n+c % 128*u)=(l.drop q).take (k+1)↔¬(c=0/\k≠0):=by
 obtain⟨d,rfl⟩:=a;exact h.hit_var d b
theorem Ub(c u:Nat)(a:u<=268435456):c % 128*u<=34091302912:=by
 have h1:c % 128<=127:=by omega
 have:=Nat.mul_le_mul h1 a;omega
theorem abd:∀(f:Nat) (l r:List UInt8),scan f l=X r->r.length<=l.length:=by
 intro f
 induction f with
 |zero=>intro l r h;simp[scan]at h
 |succ f a=>
  intro l r h;cases l with
  |nil=>simp[scan]at h
  |cons c l=>
   rw[scan]at h;split at h
   ·cases h;simp
   ·cases e:scan f l with
    |none=>simp[e]at h
    |some b=>
     simp[e]at h;subst h;have:=a l b e;simp;omega
theorem nQ(l:List UInt8)(q n j:Nat)(a:q<=l.length)(h:bR l q=X (n,j)):j<=l.length/\n<=1000000000:=by
 unfold bR at h;cases e:scan 5 (l.drop q)with
 |none=>simp[e]at h
 |some r=>
  have:=abd 5 _ _ e;simp only[iz]at this;simp only[e]at h;split at h
  ·rename_i h1
   cases h;exact⟨by omega,h1.1⟩
  ·cases h
theorem M3(c u:Nat)(a:u<=268435456):(c:Int) % 128*u<=34091302912:=by
 have:=Ub c u a;have h:((c % 128*u:Nat):Int)<=(34091302912:Nat):=Int.ofNat_le.2 this
 simpa using h
theorem Jm(c u:Nat):0<=(c:Int) % 128*u:=by
 have h:(0:Int)<=((c % 128*u:Nat):Int):=Int.natCast_nonneg _
 simpa using h
theorem nH(n c u:Nat):((n+c % 128*u:Nat):Int)=n+(c:Int) % 128*u:=by simp
end Go.Proofs.YtgigcooffjjbgaaGreatDoor.Words
namespace Go.Proofs.YtgigcooffjjbgaaGreatDoor.Words
structure Pg where
 kind:Int
 seq:Int
 tx:Int
 part:Int
 count:Int
 text:ByteArray
def Pg.Right(p:Pg):Prop:=
 (p.kind=1/\p.count=1/\p.part=0∨p.kind=2/\1<=p.count/\p.count<=9/\0<=p.part/\p.part<p.count)/\1<=p.seq/\p.seq<=1000000000/\1<=p.tx/\p.tx<=1000000000/\(p.text.size:Int)<=90
abbrev Pg.decR(p:Pg):Decidable p.Right:=by unfold Pg.Right;exact inferInstance
def fB(n:Nat):ByteArray:=⟨(bK n).toArray⟩
def oI(n:Nat):ByteArray:=⟨#[UInt8.ofNat n]⟩
def dV(p:Pg):ByteArray:=((((oI p.kind.toNat++fB p.seq.toNat)++fB p.tx.toNat)++fB p.part.toNat)++fB p.count.toNat)++p.text
theorem Ct(p:Pg):(dV p).data.toList=UInt8.ofNat p.kind.toNat::(bK p.seq.toNat++(bK p.tx.toNat++(bK p.part.toNat++(bK p.count.toNat++p.text.data.toList)))):=by
 simp[dV,oI,fB,ByteArray.data_append]
theorem Jq(p:Pg)(h:p.Right):(dV p).size<=127:=by
 obtain⟨h1,g,i,h4,j,k⟩:=h;have a:=(p8 p.seq.toNat (by omega)).2
 have b:=(p8 p.tx.toNat (by omega)).2
 have c:=(p8 p.part.toNat (by omega)).2
 have d:=(p8 p.count.toNat (by omega)).2
 have e:(dV p).size=(dV p).data.toList.length:=rfl;have f:p.text.size=p.text.data.toList.length:=rfl;rw[e,Ct];simp only[aW,aI];omega
theorem abm:∀(f:Nat) (l r:List UInt8),scan f l=X r->l=r++l.drop r.length:=by
 intro f
 induction f with
 |zero=>intro l r h;simp[scan]at h
 |succ f a=>
  intro l r h;cases l with
  |nil=>simp[scan]at h
  |cons c l=>
   simp only[scan]at h;split at h
   ·cases h;simp
   ·cases e:scan f l with
    |none=>simp[e]at h
    |some b=>
     simp[e]at h;subst h;have:=a l b e;simp only[ii,aW,List.drop_succ_cons];rw[<-this]
theorem sd(l:List UInt8)(q n j:Nat)(h:bR l q=X (n,j)):l.drop q=bK n++l.drop j:=by
 unfold bR at h;cases e:scan 5 (l.drop q)with
 |none=>simp[e]at h
 |some r=>
  have a:=abm 5 _ _ e;simp only[e]at h;split at h
  ·rename_i h1
   cases h;rw[h1.2];rw[wg]at a;exact a
  ·cases h
theorem Ty:∀(f n:Nat) (r:List UInt8),n<128^(f+1)->scan (f+1) (bK n++r)=X (bK n):=by
 intro f
 induction f with
 |zero=>
  intro n r h;have h1:n<128:=by simpa using h
  have e:(UInt8.ofNat n).toNat=n:=by rw[qp];omega
  rw[ru n h1,yo,scan,e,ak h1]
 |succ f b=>
  intro n r h;by_cases h1:n<128
  ·have e:(UInt8.ofNat n).toNat=n:=by rw[qp];omega
   rw[ru n h1,yo,scan,e,ak h1]
  ·have e:(UInt8.ofNat (n % 128+128)).toNat=n % 128+128:=by rw[qp];omega
   have a:n/128<128^(f+1):=by
    rw[wM]at h;omega
   rw[vO n (by omega),ii,scan,e,ai (by omega),b (n/128) r a]
   rfl
theorem ZS:∀(k n:Nat),n<=k->dG (bK n)=n:=by
 intro k
 induction k with
 |zero=>
  intro n h;have:n=0:=by omega
  subst this;rfl
 |succ k a=>
  intro n h;by_cases h1:n<128
  ·have e:(UInt8.ofNat n).toNat=n:=by rw[qp];omega
   rw[ru n h1,dG,dG,e];omega
  ·have e:(UInt8.ofNat (n % 128+128)).toNat=n % 128+128:=by rw[qp];omega
   rw[vO n (by omega),dG,e,a (n/128) (by omega)];omega
theorem sz(l:List UInt8)(q n:Nat)(r:List UInt8)(a:n<=1000000000)(h:l.drop q=bK n++r):bR l q=X (n,q+(bK n).length)/\l.drop (q+(bK n).length)=r:=by
 constructor
 ·unfold bR;rw[h,Ty 4 n r (by omega)]
  have e:=ZS n n (am _);simp only[e];rw[ak ⟨a,trivial⟩]
 ·rw[<-wg,h,Af]
def kY(s:ByteArray):Option Pg:=
 match s.data.toList[0]? with
 |none=>O
 |some k=>
  match bR s.data.toList 1 with
  |none=>O
  |some (a,f)=>
   match bR s.data.toList f with
   |none=>O
   |some (b,g)=>
    match bR s.data.toList g with
    |none=>O
    |some (c,h)=>
     match bR s.data.toList h with
     |none=>O
     |some (d,e)=>letI:=(Pg.mk k.toNat a b c d (s.extract e s.size)).decR;if (Pg.mk k.toNat a b c d (s.extract e s.size)).Right then X (Pg.mk k.toNat a b c d (s.extract e s.size))else O
theorem F5(s:ByteArray)(i:Nat):(s.extract i s.size).data.toList=s.data.toList.drop i:=by
 simp[ByteArray.data_extract];exact ci (by rw[iz];exact am _)
theorem tP{a b:ByteArray}(h:a.data.toList=b.data.toList):a=b:=lg (sO.1 h)
variable{b:Nat}
theorem JP{s:ByteArray}{k:UInt8}{a c d f g h i:Nat}(h0:s.data.toList[0]?=X k)(h1:bR s.data.toList 1=X (a,f))(p:bR s.data.toList f=X (b,g))(q:bR s.data.toList g=X (c,h))(h4:bR s.data.toList h=X (d,i)):
 dV (Pg.mk k.toNat a b c d (s.extract i s.size))=s:=by
 apply tP;rw[Ct,F5];have j:=sd _ _ _ _ h1;have m:=sd _ _ _ _ p;have n:=sd _ _ _ _ q;have o:=sd _ _ _ _ h4;simp only[bi,ofNat_toNat];rw[<-o,<-n,<-m,<-j];cases e:s.data.toList with
 |nil=>rw[e]at h0;cases h0
 |cons x l=>rw[e]at h0;cases h0;simp
theorem NW(p:Pg)(h:p.Right):kY (dV p)=X p:=by
 obtain⟨h1,s,t,h4,u,v⟩:=id h;have e:=Ct p;have i:(dV p).data.toList[0]?=X (UInt8.ofNat p.kind.toNat):=by rw[e];rfl
 obtain⟨j,n⟩:=sz (dV p).data.toList 1 p.seq.toNat _ (by omega) (by rw[e];rfl)
 obtain⟨k,o⟩:=sz (dV p).data.toList _ p.tx.toNat _ (by omega) n
 obtain⟨l,q⟩:=sz (dV p).data.toList _ p.part.toNat _ (by omega) o
 obtain⟨m,r⟩:=sz (dV p).data.toList _ p.count.toNat _ (by omega) q
 unfold kY;rw[i];simp only[j,k,l,m];have g:(dV p).extract (1+(bK p.seq.toNat).length+(bK p.tx.toNat).length+(bK p.part.toNat).length+(bK p.count.toNat).length) (dV p).size=p.text:=by
  apply tP;rw[F5,r]
 have f:((UInt8.ofNat p.kind.toNat).toNat:Int)=p.kind:=by rw[qp];omega
 have a:((p.seq.toNat:Nat):Int)=p.seq:=by omega
 have b:((p.tx.toNat:Nat):Int)=p.tx:=by omega
 have c:((p.part.toNat:Nat):Int)=p.part:=by omega
 have d:((p.count.toNat:Nat):Int)=p.count:=by omega
 rw[g,f,a,b,c,d];exact ak h
end Go.Proofs.YtgigcooffjjbgaaGreatDoor.Words
namespace Go.Proofs.YtgigcooffjjbgaaGreatDoor
open Words Sums
def dE(t:ByteArray):Option Pg:=match jW t with|none=>O|some s=>kY s
theorem Sa(p:Pg)(h:p.Right):dE (cY (dV p))=X p:=by
 unfold dE;rw[Ve _ (by have:=Jq p h;omega)]
 exact NW p h
variable{t:ByteArray}{ls:List (Int × ByteArray)}{k:Nat}
variable{p:Pg}
theorem Rj(h:dE t=X p):p.Right/\cY (dV p)=t:=by
 unfold dE at h;cases e:jW t with
 |none=>rw[e]at h;cases h
 |some s=>
  rw[e]at h;simp only at h;unfold kY at h;split at h
  ·cases h
  ·rename_i k0 h0
   split at h
   ·cases h
   ·rename_i a i1 h1
    split at h
    ·cases h
    ·rename_i b i2 h2
     split at h
     ·cases h
     ·rename_i c i3 h3
      split at h
      ·cases h
      ·rename_i d i4 h4
       split at h
       ·rename_i hq
        cases h;refine⟨hq,?_⟩;rw[JP h0 h1 h2 h3 h4];exact(yF e).1
       ·cases h
abbrev Bk:=Bool×Int×List (Int×ByteArray)
def gZ(t:Int×ByteArray):Bool:=decide (t.1=0/\t.2.size=0∨t.1=1/\1<=t.2.size/\t.2.size<=120∨t.1=2/\t.2.size<=120)
def iw(ls:List (Int×ByteArray))(k:Nat):Bool:=match ls[k]? with
 |none=>iV
 |some t=>gZ t&& !(decide (0<k/\t.1≠0/\∃u,ls[k-1]?=X u/\u.1=0))
def dw(b:Bk):Bool:=decide (b.2.2.length=4/\0<=b.2.1/\b.2.1<=1000000000)&&(List.range b.2.2.length).all (iw b.2.2)
def bp(bs:List Bk):Bool:=decide (3<=bs.length/\bs.length<=10)&&bs.all dw
variable{bs:List Bk}
theorem yU{b:Bk}(a:b∈bs)(h:dw b=iF):bp bs=iF:=by
 have h1:bs.all dw=iF:=sY.2 ⟨b,a,by simp[h]⟩
 simp[bp,h1]
theorem Kz(h:∀b∈bs,dw b=iV):bp bs=decide (3<=bs.length/\bs.length<=10):=by
 have h1:bs.all dw=iV:=gY.2 h;simp[bp,h1]
theorem QA{b:Bk}(h:b.2.2.length≠4):dw b=iF:=by simp[dw,h]
theorem Wu{b:Bk}(h:¬(0<=b.2.1/\b.2.1<=1000000000)):dw b=iF:=by
 have h1:decide (b.2.2.length=4/\0<=b.2.1/\b.2.1<=1000000000)=iF:=aV (λa=>h a.2)
 simp only[dw,h1,lZ]
theorem FZ{b:Bk}(a:k<b.2.2.length)(h:iw b.2.2 k=iF):dw b=iF:=by
 have h1:(List.range b.2.2.length).all (iw b.2.2)=iF:=sY.2 ⟨k,jX.2 a,by simp[h]⟩
 simp only[dw,h1,vW]
theorem MX{b:Bk}(c:b.2.2.length=4)(d:0<=b.2.1/\b.2.1<=1000000000)(h:∀k,k<b.2.2.length->iw b.2.2 k=iV):dw b=iV:=by
 have h1:(List.range b.2.2.length).all (iw b.2.2)=iV:=gY.2 (λk a=>h k (jX.1 a))
 simp only[dw,h1,Eg];exact aS ⟨c,d⟩
theorem Iq{t:Int×ByteArray}(a:ls[k]?=X t)(h:gZ t=iF):iw ls k=iF:=by simp[iw,a,h]
theorem Fs{t:Int×ByteArray}(a:ls[0]?=X t)(h:gZ t=iV):iw ls 0=iV:=by simp only[iw,a,h];simp
theorem Kc{t u:Int×ByteArray}(f:ls[k+1]?=X t)(g:ls[k]?=X u)(h:gZ t=iV)(d:u.1≠0∨t.1=0):iw ls (k+1)=iV:=by
 have h1:decide (0<k+1/\t.1≠0/\∃u,ls[k+1-1]?=X u/\u.1=0)=iF:=by
  refine aV (λe=>?_)
  obtain⟨-,a,q,b,c⟩:=e;rw[Nat.add_sub_cancel,g]at b;cases b;rcases d with d|d
  ·exact d c
  ·exact a d
 simp only[iw,f,h,h1];rfl
theorem M8{t u:Int×ByteArray}(b:ls[k+1]?=X t)(c:ls[k]?=X u)(h0:u.1=0)(a:t.1≠0):iw ls (k+1)=iF:=by
 have h1:decide (0<k+1/\t.1≠0/\∃u,ls[k+1-1]?=X u/\u.1=0)=iV:=aS ⟨by omega,a,u,by rw[Nat.add_sub_cancel];exact c,h0⟩
 simp only[iw,b,h1];simp
def br(ls:List (Int×ByteArray)):Nat:=if ls.findIdx (λt=>t.1==0)<ls.length then ls.findIdx (λt=>t.1==0)else 4
theorem Cj{t:Int×ByteArray}(d:ls[k]?=X t)(h0:t.1=0)(b:∀(j:Nat) (u:Int×ByteArray),j<k->ls[j]?=X u->u.1≠0):br ls=k:=by
 obtain⟨h1,a⟩:=aC.1 d;have h:ls.findIdx (λt=>t.1==0)=k:=by
  rw[List.findIdx_eq h1];refine⟨by rw[a];simp[h0],λj c=>?_⟩
  have:=b j ls[j] c (ay (by omega))
  simpa using this
 simp only[br,h,ak h1]
theorem Me(a:∀(j:Nat) (u:Int×ByteArray),ls[j]?=X u->u.1≠0):br ls=4:=by
 have h:ls.findIdx (λt=>t.1==0)=ls.length:=by
  rw[A6];intro t c;obtain⟨j,b,rfl⟩:=pw c;have:=a j ls[j] (ay b)
  simpa using this
 simp only[br,h];rw[ai (by omega)]
def eZ:List (Int×ByteArray):=[(0,⟨#[]⟩),(0,⟨#[]⟩),(0,⟨#[]⟩),(0,⟨#[]⟩)]
def gR(n:Int):List Bk:=if 3<=n/\n<=10 then List.replicate n.toNat (iF,0,eZ)else[]
def jb(bs:List Bk)(b leaf:Int)(t:ByteArray):Bool:=match bs[b.toNat]? with
 |none=>iF
 |some r=>decide (0<=b/\r.1=iF/\leaf<4/\leaf=br r.2.2/\1<=t.size/\t.size<=120)
def jZ(bs:List Bk)(b leaf:Nat)(t:ByteArray):List Bk:=bs.modify b (λr=>(r.1,r.2.1,r.2.2.set leaf (1,t)))
def gI(bs:List Bk)(b leaf:Int)(t:ByteArray):List Bk×Bool:=if bp bs&&jb bs b leaf t then(jZ bs b.toNat leaf.toNat t,iV)else(bs,iF)
def qZ(bs:List Bk)(b:Int):Bool:=match bs[b.toNat]? with
 |none=>iF
 |some r=>decide (0<=b/\r.1=iF/\r.2.1≠1000000000)
def gL(bs:List Bk)(b:Int):List Bk×Bool:=if bp bs&&qZ bs b then(bs.modify b.toNat (λr=>(iF,r.2.1+1,eZ)),iV)else(bs,iF)
def du(bs:List Bk)(b leaf:Int):ByteArray×Bool:=match bs[b.toNat]? with
 |none=>(⟨#[]⟩,iF)
 |some r=>match r.2.2[leaf.toNat]? with
  |none=>(⟨#[]⟩,iF)
  |some t=>if 0<=b/\0<=leaf/\t.1=1 then(t.2,iV)else(⟨#[]⟩,iF)
end Go.Proofs.YtgigcooffjjbgaaGreatDoor
namespace Go.Proofs.YtgigcooffjjbgaaGreatDoor.Words
structure an where
 block:Int
 leaf:Int
 fP:Pg
def an.key(x:an):Int:=x.fP.seq
def Asc(l:List an):Prop:=l.Pairwise (λa b=>a.key<=b.key)
def Akin(l k:List an):Prop:=∀c:Int,l.filter (λx=>x.key==c)=k.filter (λx=>x.key==c)
theorem Akin.refl(l:List an):Akin l l:=λ_=>rfl
theorem Akin.symm{l k:List an}(h:Akin l k):Akin k l:=λc=>(h c).symm
theorem Akin.trans{l k m:List an}(h:Akin l k)(a:Akin k m):Akin l m:=λc=>(h c).trans (a c)
theorem Akin.app{a b c d:List an}(h:Akin a b)(e:Akin c d):Akin (a++c) (b++d):=λz=>by
 rw[jF,jF,h z,e z]
theorem Akin.flip{a b:List an}(h:∀x∈a,∀y∈b,x.key≠y.key):Akin (a++b) (b++a):=λc=>by
 rw[jF,jF];by_cases d:∃x∈a,x.key=c
 ·obtain⟨x,f,rfl⟩:=d;have:b.filter (λy=>y.key==x.key)=[]:=by
   rw[mI];intro y hy;have:=h x f y hy
   simpa using λe=>this e.symm
  rw[this];simp
 ·have:a.filter (λy=>y.key==c)=[]:=by
   rw[mI];intro y hy
   simpa using λe=>d ⟨y,hy,e⟩
  rw[this];simp
theorem Akin.mem{l k:List an}(h:Akin l k)(x:an):x∈l↔x∈k:=by
 have:=h x.key;have e:∀m:List an,x∈m↔x∈m.filter (λy=>y.key==x.key):=λm=>by simp
 rw[e l,e k,this]
theorem Akin.eq:∀{l k:List an},Akin l k->Asc l->Asc k->l=k:=by
 intro l
 induction l with
 |nil=>
  intro k h _ _;cases k with
  |nil=>rfl
  |cons b k=>
   have:=h b.key;simp at this
 |cons a l m=>
  intro k h g i;cases k with
  |nil=>
   have:=h a.key;simp at this
  |cons b k=>
   have f:a.key=b.key:=by
    have h1:b∈a::l:=(h.mem b).2 pO;have j:a∈b::k:=(h.mem a).1 pO;have c1:a.key<=b.key:=by
     rcases be.1 h1 with e|e
     ·rw[e];exact kI _
     ·exact(gx.1 g).1 b e
    have c2:b.key<=a.key:=by
     rcases be.1 j with e|e
     ·rw[e];exact kI _
     ·exact(gx.1 i).1 a e
    omega
   have h0:=h a.key;rw[nZ (by simp),nZ (by simp[f])]at h0
   injection h0 with e1 _
   subst e1;congr 1;refine m (λc=>?_) (gx.1 g).2 (gx.1 i).2
   have d:=h c;by_cases e:a.key=c
   ·rw[nZ (by simp[e]),nZ (by simp[e])]at d
    injection d
   ·rw[rF (by simpa using e),rF (by simpa using e)]at d
    exact d
theorem Asc.app{a b:List an}(c:Asc a)(d:Asc b)(h:∀x∈a,∀y∈b,x.key<=y.key):Asc (a++b):=iE.2 ⟨c,d,h⟩
theorem Asc.left{a b:List an}(h:Asc (a++b)):Asc a:=(iE.1 h).1
theorem Asc.right{a b:List an}(h:Asc (a++b)):Asc b:=(iE.1 h).2.1
theorem Asc.across{a b:List an}(h:Asc (a++b)):∀x∈a,∀y∈b,x.key<=y.key:=(iE.1 h).2.2
variable{i j:Nat}
variable{x:an}
theorem Asc.le{l:List an}(h:Asc l){y:an}(hi:l[i]?=X x)(a:l[j]?=X y)(f:i<=j):x.key<=y.key:=by
 by_cases e:i=j
 ·subst e;rw[hi]at a;cases a;exact kI _
 ·obtain⟨h1,b⟩:=aC.1 hi;obtain⟨d,c⟩:=aC.1 a;rw[<-b,<-c];exact pP.1 h i j h1 d (by omega)
end Go.Proofs.YtgigcooffjjbgaaGreatDoor.Words
namespace Go.Proofs.YtgigcooffjjbgaaGreatDoor
open Words Sums
def dP(bs:List Bk)(b k:Int):Option Pg:=if (du bs b k).2 then dE (du bs b k).1 else O
def gj(bs:List Bk)(b:Nat):Nat->List an
 |0=> []
 |k+1=>gj bs b k++(match dP bs b k with|some p=> [⟨b,k,p⟩]|none=> [])
def dt(bs:List Bk):Nat->List an
 |0=> []
 |b+1=>dt bs b++gj bs b ((bs[b]?).map (λr=>r.2.2.length)|>.getD 0)
theorem Pf(bs:List Bk)(b k:Nat):(gj bs b k).length<=k:=by
 induction k with
 |zero=>exact am _
 |succ k a=>
  simp only[gj,aI];split<;>simp<;>omega
end Go.Proofs.YtgigcooffjjbgaaGreatDoor
