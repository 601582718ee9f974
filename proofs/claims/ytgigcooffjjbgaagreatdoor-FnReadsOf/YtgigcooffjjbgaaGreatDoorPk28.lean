/-
  StoM8; RdsM; IRecOk; IVol; IChunk; MapG; INewest; ISpot; IRdOf; IAsk; IRtK; SFind; FdEql; ILive; INeed; LwDv; Big; LawRds; Code; Vars
-/
import Derived.Maps.OwnSet
import Derived.Laws.EntriesVeiled
import Derived.Test.YtgigcooffjjbgaaGreatDoorPk27
import Derived.ChangeVars
open Go.Value renaming int→I,slice→Y,string→iT,bool→iB,pointer→iP,agg→iA,tuple→iU
open Go.IntKind renaming i64→J
open Option renaming none→O,some→X
open Go.Ending renaming returned→G
open Go.Obj renaming cells→iC
open Bool renaming true→iV,false→iF
open Go renaming World→iW,Value→iX,Calls→iK
open Go.RowKit renaming Below→iL
set_option maxHeartbeats 4000000
set_option maxRecDepth 100000
namespace Go.Proofs.YtgigcooffjjbgaaGreatDoor
namespace Words
variable{v:Int × Int}{i:Nat}
variable{s:Sto}
theorem JQ(h:s.Right)(a:s.fV[i]?=X v)(k:Int):dy s v.1 k=dZ s.fK v.2 k:=by
 rw[dy,JK h.asc (aL a)]
end Words
open Words Sums Pack
variable{K α:Type}{v:Int × Int}{T:List UInt8 -> Prop}{i j n m:Nat}
variable{s:Sto}
theorem aaG(h:s.Right)(a:s.fV[i]?=X v)(b:j<16):0<=dy s v.1 (j:Int):=by
 rw[JQ h a];unfold dZ;split
 ·rw[bi];exact K9 ⟨h.ar,h.root v (aL a)⟩ (by omega)
 ·exact kI _
theorem aaH(h:s.Right)(a:s.fV[i]?=X v)(b:j<16)(h0:0<dy s v.1 (j:Int)):dy s v.1 (j:Int)∈aY s:=by
 refine(qC _ _).2 ⟨h0,?_⟩;rw[JQ h a];exact mi.2 ⟨v,aL a,bZ.2 ⟨j,by simpa using b,rfl⟩⟩
variable{d:Dv}
theorem Pw(h:cL T n d)(a:d.fS.fV[i]?=X v)(f:j<16):
 ∃(c:Int) (s:ByteArray) (e:iX),dy d.fS v.1 (j:Int)=c/\iZ d v.1 (j:Int)=(s,iV)/\fG (bn (au d.fH) c)=e/\(c=0/\s=⟨#[]⟩/\(∃u b,e=iU #[iT u,iB b])∨0<c/\e=iU #[iT s,iB iV]):=by
 have k:(bw d.fS.fV v.1).isSome=iV:=by rw[zX h.st.asc a];rfl
 have l:=aaG h.st a f;unfold iZ;rw[ak k];by_cases h0:dy d.fS v.1 (j:Int)=0
 ·rw[ak h0];refine⟨_,_,_,rfl,rfl,rfl,.inl ⟨h0,rfl,?_⟩⟩;cases bn (au d.fH) (dy d.fS v.1 (j:Int))with
  |none=>exact⟨_,_,rfl⟩
  |some t=>exact⟨_,_,rfl⟩
 ·rw[ai h0];obtain⟨x,t,-,g,-⟩:=h.has (aaH h.st a f (by omega))
  rw[g];exact⟨_,_,_,rfl,rfl,rfl,.inr ⟨by omega,by rw[g];rfl⟩⟩
theorem cL.reads(h:cL T n d)(_:d.fS.fV.length=m):∀(k:Nat) (id g:Int),d.fS.fV[k]?=X (id,g)->∀j:Nat,j<16->
 ∃(c:Int) (s:ByteArray) (a:iX),dy d.fS id (j:Int)=c/\iZ d id (j:Int)=(s,iV)/\fG (bn (au d.fH) c)=a/\(c=0/\s=⟨#[]⟩/\(∃u b,a=iU #[iT u,iB b])∨0<c/\a=iU #[iT s,iB iV]):=
 λ_ _ _ f _ e=>Pw h f e
theorem YK(h:cL T n d):iZ d 8 0=(⟨#[]⟩,iF):=by
 have a:bw d.fS.fV 8=O:=Ki (λv b=>by have:=h.vi v b;omega)
 unfold iZ;rw[a];rfl
open Go.RowKit
theorem qK(x lo hi:Int)(b:Bool)(w:iW)(h:(lo<=x/\x<=hi/\b=iV)∨((x<lo∨lo<=x/\¬x<=hi)/\b=iF)):
 iK Tryz.prog 81 #[I J x,I J lo,I J hi] w λe w'=>e=G (iB b)/\w'=w:=by
 rcases h with⟨h1,a,rfl⟩|⟨h1|⟨h1,a⟩,rfl⟩
 all_goals
  go_enter Tryz.func81,Tryz.ntmps81;go_wp2;go_ret;exact⟨rfl,rfl⟩
def uH(b:Option Addr):Option Nat->iX
 |none=>iP O
 |some k=>iP (b.map (λa=>⟨a.block,a.off+k*2,O⟩))
theorem Nf(j:Option Addr)(d vc:Nat)(vs:List (Int×Int))(id:Int)(w:iW)(r:d<=1048576)(h:fN w j d vs):
 iK Tryz.prog 91 #[Y j d vc,I J id] w λe w'=>e=G (uH j (bw vs id))/\w'=w:=by
 have a:=af h.1;have H:=af h;clear h;go_enter Tryz.func91,Tryz.ntmps91;go_wp2_with fail;go_loop [8] (λkv=>∃k:Nat,k<=d/\kv=I J k/\ah (im vs id k=O)) (λkv=>d-(intOf kv).toNat)
 case atStart=>exact⟨0,aJ _,rfl,(rfl:im vs id 0=O)⟩
 case round=>
  obtain⟨k,q,rfl,i⟩:=hrel;by_cases l:(k:Int)<d
  ·have c:=ay (show k<vs.length by have:=a.o;omega)
   generalize vs[k]'(by have:=a.o;omega)=v at c
   obtain⟨b,m,e,p,n,c1⟩:=H.o.at c;subst e;have s:(0:Int)<=k:=by omega
   by_cases g:(v.1==id)=iV
   ·have f:ah (bw vs id=X k):=Mf i.o c (by simpa using g) _ (by have:=a.o;omega)
    clear c;go_wp2;go_ret;exact⟨by rw[f.o];rfl,rfl⟩
   ·have f:ah (im vs id (k+1)=O):=Mb i.o c (by simpa using g)
    clear c;go_wp2;go_round
    case rel=>exact⟨k+1,by omega,by go_num,f⟩
    case measure=>simp[intOf];omega
  ·have f:ah (bw vs id=O):=by
    have e:k=vs.length:=by have:=a.o;omega
    have:=i.o;rw[e]at this;exact this
   go_wp2;go_ret;exact⟨by rw[f.o];rfl,rfl⟩
theorem Oz:T9 56:=by
 rintro v s j i w ⟨q,r,vc,ad,a,cap,rs,rfl,p,G,hl,B,F,h,S⟩;obtain⟨vs,fK,nx⟩:=s;simp only at p h⊢;subst p;have t:=af (zU w (Y q r vc) (Y ad a cap) (I J nx));have f:=af (aT w (iC #[Y q r vc,Y ad a cap,I J nx] 32));have W:=af h;have Z:=af h.1;have V:=af S;have Q:=af (show w.heap.size<(w.alloc (iC #[Y q r vc,Y ad a cap,I J nx] 32)).heap.size by simp)
 obtain⟨C,y⟩:=aq (dy ⟨vs,rs.map aE,nx⟩ j i);have P:=af y;rw[y];clear h S B F y;unfold eA;go_enter Tryz.func56,Tryz.ntmps56;go_wp2_with fail;generalize w.alloc (iC #[Y q r vc,Y ad a cap,I J nx] 32)=wb at t f Q⊢;obtain⟨z,H⟩:=aq w.heap.size;rw[H]at t Q⊢;have m:=af H;clear H;obtain⟨x0,M,x2⟩:=t.o;have l:=af (W.o.below f.o);refine(Nf q r vc vs j wb G l.o).mono ?_;rintro e d ⟨rfl,rfl⟩;cases n:bw vs j with
 |none=>
  have E:ah (C=0):=by
   show _=_;rw[<-P.o];simp only[dy,lU,n,Option.bind_none]
  clear n;unfold uH;go_wp2;go_ret;exact⟨by rw[E.o];rfl,by have:=f.o;rw[m.o]at this⊢;exact this⟩
 |some k=>
  obtain⟨v,D,A⟩:=om n;have E:ah (dZ (rs.map aE) v.2 i=C):=by
   show _=_;rw[<-P.o];simp only[dy,lU,n,jd,D,fE]
  obtain⟨b,c,e,hb,c0,c1⟩:=l.o.at D;subst e;have g:ah (iL d.heap.size d d.drew):=(ax _ _).drew;have N:=af (Wy ad a cap rs v.2 i d.drew (by omega) (V.o.below (f.o.trans (g.o.mono f.o.size))))
  rw[E.o]at N;have K:=bk d _ M;have L:=bk d _ c1;have u:=af (show d.drew.cell? ⟨z,1,O⟩=X (Y ad a cap)/\d.drew.cell? ⟨b,c+k*2+1,O⟩=X (I J v.2)from⟨(g.o.cell K).trans M,(g.o.cell L).trans c1⟩);clear n D A E;have R:uH (X ⟨b,c,O⟩) (X k)=iP (X ⟨b,c+k*2,O⟩):=rfl;rw[R];clear R;go_wp2_with fail;go_region_held3 (λw'=>w'.cell? ⟨z,1,O⟩=X (Y ad a cap)/\w'.cell? ⟨b,c+k*2+1,O⟩=X (I J v.2)) (first|exact u.o|go_keep) ((go_at_call 92;(with_reducible refine cn N.o ?_);rintro en T ⟨rfl,x⟩;clear u;have u:=af (show T.cell? ⟨z,1,O⟩=X (Y ad a cap)/\T.cell? ⟨b,c+k*2+1,O⟩=X (I J v.2)from⟨(x.cell (show z<d.drew.heap.size from K)).trans ((g.o.cell K).trans M),(x.cell (show b<d.drew.heap.size from L)).trans ((g.o.cell L).trans c1)⟩);have U:=af (f.o.trans ((g.o.trans (x.mono g.o.size)).mono f.o.size))))
  go_wp2;go_ret;exact⟨rfl,by have:=U.o;rw[m.o]at this⊢;exact this⟩
open Go.ChangeMaps (setBlock heap_setBlock_same heap_setBlock_other)
section
def fL(l:List (K×α))(k:K):Option α:=(l.find? (λp=>decide (p.1=k))).map (·.2)
def nk(l:List (K×α)):Prop:=l.Pairwise (λa b=>a.1≠b.1)
def qy(l:List (K×α))(k:K)(v:α):List (K×α):=if (fL l k).isSome then l.map (λp=>if p.1=k then(k,v)else p)else l++[(k,v)]
theorem qk(p:K×α)(l:List (K×α))(k:K):fL (p::l) k=if p.1=k then X p.2 else fL l k:=by
 unfold fL;rw[List.find?_cons];by_cases h:p.1=k<;>simp[h]
theorem Mp{l:List (K×α)}{k:K}:fL l k=O↔∀p∈l,p.1≠k:=by
 induction l with
 |nil=>simp[fL]
 |cons a l b=>
  rw[qk];by_cases h:a.1=k
  ·simp[h]
  ·simp[h,b]
theorem aaR{l:List (K×α)}{k:K}{v:α}(b:nk l)(h:(k,v)∈l):fL l k=X v:=by
 induction l with
 |nil=>cases h
 |cons a l c=>
  obtain⟨d,f⟩:=gx.1 b;rw[qk];rcases be.1 h with e|e
  ·subst e;simp
  ·rw[ai (d _ e)];exact c f e
theorem OP(l:List (K×α))(k:K)(v:α)(x:K):fL (l++[(k,v)]) x=(fL l x).or (if k=x then X v else O):=by
 induction l with
 |nil=>rw[jT,qk];simp[fL]
 |cons a l b=>
  rw[ii,qk,qk,b];by_cases h:a.1=x<;>simp[h]
theorem nk.snoc{l:List (K×α)}{k:K}{v:α}(h:nk l)(e:fL l k=O):nk (l++[(k,v)]):=by
 refine iE.2 ⟨h,mQ _ _,?_⟩;intro a d b c;rw[bU]at c;subst c;exact Mp.1 e a d
theorem Vc(l:List (K×α))(k:K)(v:α)(x:K):fL (l.map (λp=>if p.1=k then(k,v)else p)) x=if x=k then(fL l k).map (λ_=>v)else fL l x:=by
 induction l with
 |nil=>simp[fL]
 |cons a l c=>
  rw[cB,qk,c,qk,qk];by_cases h:a.1=k
  ·by_cases b:x=k
   ·subst b;simp[h]
   ·have:¬k=x:=λe=>b e.symm
    simp[h,b,this]
  ·by_cases b:x=k
   ·subst b;simp[h]
   ·simp[h,b]
theorem OR(l:List (K×α))(k:K)(v:α)(x:K):fL (qy l k v) x=if x=k then X v else fL l x:=by
 unfold qy;cases h:fL l k with
 |none=>
  simp only[ut,ge,fQ];rw[OP];by_cases e:x=k
  ·subst e;simp[h]
  ·rw[ai e,ai (λq=>e q.symm)];simp
 |some u=>
  simp only[xw,dF];rw[Vc,h];rfl
theorem nk.new{l:List (K×α)}{k:K}{v:α}(h:nk l):nk (qy l k v):=by
 unfold qy;cases e:fL l k with
 |none=>simp only[ut,ge,fQ];exact h.snoc e
 |some u=>
  simp only[xw,dF];unfold nk;rw[BP];refine h.imp ?_;intro a b f;by_cases c:a.1=k<;>by_cases d:b.1=k
  ·exact absurd (c.trans d.symm) f
  ·rw[ak c,ai d];exact λq=>d q.symm
  ·rw[ai c,ak d];exact c
  ·rw[ai c,ai d];exact f
theorem SP{l:List (K×α)}{x:K}{u:α}(v:α)(h:nk l)(b:l[j]?=X (x,u)):l.map (λp=>if p.1=x then(x,v)else p)=l.set j (x,v):=by
 induction l generalizing j with
 |nil=>simp at b
 |cons a l f=>
  obtain⟨c,i⟩:=gx.1 h;rw[cB];cases j with
  |zero=>
   simp only[sf,fq]at b;subst b;rw[ak rfl,cA];congr 1;rw[oY (g:=id)]
   ·simp
   ·intro p d;rw[ai (λe=>c p d e.symm)]
    rfl
  |succ j=>
   rw[oE]at b;rw[ai (c _ (aL b)),ce,f i b]
end
def jR{K:Type}(c:K->iX)(w:iW)(b:Nat)(l:List (K×iX)):Prop:=nk l/\∃es a,w.heap[b]?=X (.map es a)/\es.toList.map (λe=>(e.key,e.val))=l.map (λp=>(c p.1,p.2))
structure wQ {K:Type} (P:Program) (k:TypeId) (en:K->iX) (d:TypeDesc):Prop where
 ty:P.underlying k=X d
 is:∀a,MapKept.IsKey d (en a)
 inj:∀a b,en a=en b->a=b
section
variable{K:Type}{en:K -> iX}{l:List (K × iX)}{b:Nat}{P:Program}{d:TypeDesc}{t k e:TypeId}{w w':iW}
theorem jR.lt(h:jR en w b l):b<w.heap.size:=by
 obtain⟨-,es,a,h1,-⟩:=h;exact(aK.1 h1).1
theorem jR.same(h:jR en w b l)(e:w'.heap[b]?=w.heap[b]?):jR en w' b l:=by
 obtain⟨h0,es,a,h1,c⟩:=h;exact⟨h0,es,a,e.trans h1,c⟩
theorem jR.below(h:jR en w b l)(a:iL w.heap.size w w'):jR en w' b l:=h.same (a.block _ h.lt)
theorem jR.made(w:iW):jR en (w.alloc (.map #[] 0)) w.heap.size []:=⟨List.Pairwise.nil,#[],0,aB w _,rfl⟩
end
section
variable{K:Type}{es:Array MapEntry}{en:K -> iX}{l:List (K × iX)}{b:Nat}{P:Program}{d:TypeDesc}{t k e:TypeId}{w w':iW}
theorem L6(b:wQ P k en d)(s:nk l)(h:es.toList.map (λe=>(e.key,e.val))=l.map (λp=>(en p.1,p.2)))(x:K)(w:iW):
 ((Instr.findKey k (en x) es.toList).run P w=.ok O w/\fL l x=O)∨∃j v,(Instr.findKey k (en x) es.toList).run P w=.ok (X (j,v)) w/\l[j]?=X (x,v)/\fL l x=X v:=by
 have i:∀y∈es.toList,MapKept.IsKey d y.key:=by
  intro y hy;have:(y.key,y.val)∈es.toList.map (λe=>(e.key,e.val)):=bZ.2 ⟨y,hy,rfl⟩
  rw[h]at this;obtain⟨p,-,m⟩:=bZ.1 this;have:y.key=en p.1:=(congrArg Prod.fst m).symm;rw[this];exact b.is _
 rcases MapKept.findNow_spec (d:=d) (k:=en x) (b.is x) es.toList 0 i with⟨h1,g⟩|⟨j,c,h1,g,r⟩
 ·refine .inl ⟨MapKept.run_findKey b.ty h1,Mp.2 λp m e=>?_⟩
  have:(en p.1,p.2)∈l.map (λp=>(en p.1,p.2)):=bZ.2 ⟨p,m,rfl⟩
  rw[<-h]at this;obtain⟨y,hy,q⟩:=bZ.1 this;refine g y hy ?_;have:=congrArg Prod.fst q;simp only at this;rw[this,e]
 ·have a:(l.map (λp=>(en p.1,p.2)))[j]?=X (c.key,c.val):=by rw[<-h,bh,g];rfl
  rw[bh]at a;cases f:l[j]? with
  |none=>rw[f]at a;cases a
  |some p=>
   rw[f]at a;simp only[fE,fq,nf]at a;obtain⟨a,o⟩:=a;rw[r]at a;have a:=b.inj _ _ a;have n:p=(x,c.val):=by rw[<-a,<-o]
   refine .inr ⟨j,c.val,by simpa using MapKept.run_findKey b.ty h1,by rw[f,n],aaR s ?_⟩
   rw[<-n];exact aL f
theorem jR.look(h:jR en w b l)(o:P.underlying t=X (.map k e))(i:wQ P k en d){z:iX}(q:(zeroValue e).run P w=.ok z w)(x:K)(c:Bool):
 (Instr.lookup t (.map (X b)) (en x) c).run P w=.ok (if c then iU #[(fL l x).getD z,iB (fL l x).isSome]else(fL l x).getD z) w:=by
 obtain⟨h0,es,a,m,p⟩:=h;have n:∀f,(Instr.checkKey f 10000 k (en x)).run P w=.ok () w:=λf=>MapKept.run_checkKey i.ty (i.is x) f 9999
 rcases L6 i h0 p x w with⟨h1,g⟩|⟨j,v,h1,-,g⟩
 ·simp[Instr.lookup,run_underlying o,MapKept.run_getObj_map m,n,h1,q,g,Result.andThen]
 ·simp[Instr.lookup,run_underlying o,MapKept.run_getObj_map m,n,h1,g,Result.andThen]
theorem jR.new(h:jR en w b l)(G:P.underlying t=X (.map k e))(z:wQ P k en d)(x:K)(v:iX):
 ∃w',(Instr.mapUpdate t (.map (X b)) (en x) v).run P w=.ok () w'/\jR en w' b (qy l x v)/\w.grownBy w' (X b)/\w'.heap.size=w.heap.size:=by
 obtain⟨h0,es,a,f,o⟩:=h;have E:∀A,(Instr.checkKey A 10000 k (en x)).run P w=.ok () w:=λA=>MapKept.run_checkKey z.ty (z.is x) A 9999
 rcases L6 z h0 o x w with⟨h1,B⟩|⟨j,u,h1,s,B⟩
 ·refine⟨setBlock w b (.map (es.push ⟨en x,v,a⟩) (a+1)),?_,⟨h0.new,_,_,heap_setBlock_same f _,?_⟩,?_,by simp[setBlock]⟩
  ·simp[Instr.mapUpdate,run_underlying G,MapKept.run_getObj_map f,E,h1,MapKept.run_setObj_map _ f,Result.andThen,setBlock]
  ·unfold qy;rw[B];simp[o]
  ·exact⟨rfl,rfl,rfl,by simp[setBlock],λi _ hi=>heap_setBlock_other f _ (λm=>hi (by rw[m]))⟩
 ·have m:qy l x v=l.set j (x,v):=by unfold qy;rw[B];exact SP v h0 s
  have C:j<es.size:=by
   have:=congrArg List.length o;have q:=(aC.1 s).1;simp only[bm,Array.length_toList]at this;omega
  obtain⟨n,g⟩:∃n,es[j]?=X n:=⟨_,p7 C⟩;have r:n.key=en x:=by
   have q:(es.toList.map (λe=>(e.key,e.val)))[j]?=X (n.key,n.val):=by rw[bh,yI,g];rfl
   rw[o,bh,s]at q;simp only[fE,fq,nf]at q;exact q.1.symm
  refine⟨setBlock w b (.map (es.modify j λe=>{e with key:=en x,val:=v}) a),?_,⟨h0.new,_,a,heap_setBlock_same f _,?_⟩,?_,by simp[setBlock]⟩
  ·have D:(Instr.keyThatStays (en x) (en x)).run P w=.ok (en x) w:=MapKept.run_keyThatStays (z.is x);simp[Instr.mapUpdate,run_underlying G,MapKept.run_getObj_map f,E,h1,g,r,D,MapKept.run_setObj_map _ f,Result.andThen,setBlock]
  ·rw[m,Array.toList_modify];apply lH;intro i;have hi:(es.toList.map (λe=>(e.key,e.val)))[i]?=(l.map (λp=>(en p.1,p.2)))[i]?:=by rw[o]
   rw[bh,bh]at hi;rw[bh,bh,rp,th];by_cases c:j=i
   ·subst c;rw[ak rfl,ak (aC.1 s).1,yI,g];simp
   ·rw[ai c];cases F:es.toList[i]? with
    |none=>rw[F]at hi;simpa[c]using hi
    |some y=>rw[F]at hi;simpa[c]using hi
  ·exact⟨rfl,rfl,rfl,by simp[setBlock],λi _ hi=>heap_setBlock_other f _ (λm=>hi (by rw[m]))⟩
end
def yE(a:Int):iX:=I J a
theorem Hb:wQ Tryz.prog 3 yE (I J):=⟨Tryz.underlying3,λ_=>rfl,λa b h=>by unfold yE at h;injection h⟩
def Qm(M:List an)(l:List (Int×iX)):Prop:=∀c,fL l c=(bH M c).map jo
theorem Lo:Tryz.prog.underlying 74=X (.map 3 53):=Tryz.underlying74
theorem Yx(w:iW):(zeroValue 53).run Tryz.prog w=.ok (iA #[I J 0,I J 0,I J 0,I J 0,I J 0,I J 0,I J 0,iT ⟨#[]⟩]) w:=by kernel_rfl
def NM(W:iW)(B:Nat)(M:List an):Prop:=∃l,jR yE W B l/\Qm M l
variable{fn:Func}{n q t:Int}{B k cap vc g i:Nat}{ad:Option Addr}{w:iW}{a c:iX}
variable{M:List an}
theorem NM.below{W W':iW}(h:NM W B M)(b:iL W.heap.size W W'):NM W' B M:=by
 obtain⟨l,h1,a⟩:=h;exact⟨l,h1.below b,a⟩
theorem NM.look{W:iW}(h:NM W B M)(x:Int)(c:Bool):
 (Instr.lookup 74 (.map (X B)) (I J x) c).run Tryz.prog W=.ok (if c then iU #[jo (rR (bH M x)),iB (bH M x).isSome]else jo (rR (bH M x))) W:=by
 obtain⟨l,h1,a⟩:=h;have:=h1.look Lo Hb (Yx W) x c;rw[a x]at this;rw[show(I J x)=yE x from rfl,this];cases bH M x<;>rfl
variable{x:an}
theorem NM.put{W:iW}(h:NM W B M)(g:x.fP.kind=1):
 ∃W',(Instr.mapUpdate 74 (.map (X B)) (I J x.fP.tx) (jo x)).run Tryz.prog W=.ok () W'/\NM W' B (M++[x])/\W.grownBy W' (X B):=by
 obtain⟨l,h1,f⟩:=h;obtain⟨W',a,b,d,-⟩:=h1.new Lo Hb x.fP.tx (jo x);refine⟨W',a,⟨_,b,λc=>?_⟩,d⟩
 rw[OR,yD,f c];unfold di;rw[g];by_cases e:c=x.fP.tx
 ·subst e;simp
 ·have:¬x.fP.tx=c:=λq=>e q.symm
  simp[e,this]
theorem NM.skip{W:iW}(h:NM W B M)(b:x.fP.kind≠1):NM W B (M++[x]):=by
 obtain⟨l,h1,a⟩:=h;refine⟨l,h1,λc=>?_⟩
 rw[yD,a c];unfold di;simp[b]
theorem aa9(h:M[k]?=X x):M.take (k+1)=M.take k++[x]:=by rw[fm,h];rfl
theorem UE(ad:Option Addr)(a cap:Nat)(M:List an)(w:iW)(hl:a<=1099511627776)(h:jm w ad a M):
 iK Tryz.prog 32 #[Y ad a cap] w λe w'=>∃B,e=G (.map (X B))/\w.heap.size<=B/\NM w' B M/\iL w.heap.size w w':=by
 have A:=af (show M.length=a from h.1);have K:=af h;have V:= @run_makeMap Tryz.prog;have D:=aT w (.map #[] 0);have C:ah (NM (w.alloc (.map #[] 0)) w.heap.size (M.take 0)):=⟨[],jR.made w,λc=>rfl⟩
 have z:=af D;clear h D;go_enter Tryz.func32,Tryz.ntmps32;go_wp2;go_loopw [9] (λy wr=>∃k:Nat,y=I J k/\k<=a/\ah (NM wr w.heap.size (M.take k))/\ah (iL w.heap.size w wr)) (λy _=>a-(intOf y).toNat)
 case atStart=>exact⟨0,rfl,aJ _,C,z⟩
 case round=>
  rename iW=>wr
  obtain⟨k,rfl,hk,f,b⟩:=hrel;clear C z;have T:(0:Int)<=k:=by omega
  by_cases U:(k:Int)<a
  ·obtain⟨x,s⟩:∃x,M[k]?=X x:=⟨_,ay (by have:=A.o;omega)⟩
   obtain⟨rb,ro,rfl,-,L,c1,c2,c3,N,O,P,Q,R⟩:=(K.o.below b.o).all s;have r:=aa9 s;obtain⟨xb,n,pk,l,m,i,g,pt⟩:=x;simp only at L c1 c2 c3 N O P Q R;have q:=aT wr (iC #[I J xb,I J n,I J pk,I J l,I J m,I J i,I J g,iT pt] 53);have d:=af (f.o.below q);have p:=af (b.o.trans (q.mono b.o.size));have u:ah (mP (wr.alloc (iC #[I J xb,I J n,I J pk,I J l,I J m,I J i,I J g,iT pt] 53)) wr.heap.size ⟨xb,n,pk,l,m,i,g,pt⟩):=aB _ _;obtain⟨W,Z,y2,y3,y4,y5,y6,y7⟩:=u.o.cells;simp only at W Z y2 y3 y4 y5 y6 y7;by_cases t:(pk==1)=iV
   ·obtain⟨W3,E,F,g3⟩:=d.o.put (x:=⟨xb,n,pk,l,m,i,g,pt⟩) (by simpa using t)
    unfold jo at E;simp only at E;have v:ah (NM W3 w.heap.size (M.take (k+1))):=by rw[r];exact F
    have H:=af (p.o.grown g3 p.o.size (λj S=>by cases S;exact am _))
    clear s r F g3 f b d p q u;go_wp2;go_roundw
    case rel=>exact⟨k+1,by go_num,by omega,v,H⟩
    case measure=>simp[intOf];omega
   ·have v:ah (NM (wr.alloc (iC #[I J xb,I J n,I J pk,I J l,I J m,I J i,I J g,iT pt] 53)) w.heap.size (M.take (k+1))):=by rw[r];exact d.o.skip (by simpa using t)
    have t:(pk==1)=iF:=by simpa using t
    clear s r f b d q u;go_wp2;go_roundw
    case rel=>exact⟨k+1,by go_num,by omega,v,p⟩
    case measure=>simp[intOf];omega
  ·have d:ah (NM wr w.heap.size M):=by
    have:=f.o;rw[ci (by have:=A.o;omega)]at this
    exact this
   clear f;go_wp2;go_ret;exact⟨w.heap.size,rfl,am _,d.o,b.o⟩
theorem TC(B:Nat)(M:List an)(c:Int)(w:iW)(l:∀x∈M,x.fP.text.size<=1048576)(h:NM w B M):
 iK Tryz.prog 34 #[.map (X B),I J c] w λe w'=>e=G (fG (bn M c))/\iL w.heap.size w w':=by
 have a:=h.look c iV;simp only[dF]at a;cases b:bH M c with
 |none=>
  have g:ah (bn M c=O):=by show _=_;unfold bn;rw[b];rfl
  rw[b]at a;unfold rR qj jo at a;simp only[Option.getD_none,ut]at a;have f:=af ((ax w.heap.size w).alloc (am _) (iC #[I J 0,I J 0,I J 0,I J 0,I J 0,I J 0,I J 0,iT ⟨#[]⟩] 53));clear h l b;go_enter Tryz.func34,Tryz.ntmps34;go_wp2;refine az (bt rfl _ _ _) rfl ?_;rw[g.o];exact⟨rfl,f.o⟩
 |some x=>
  have g:ah (bn M c=dc x.fP.text.data.toList):=by show _=_;unfold bn;rw[b];rfl
  have k:=l x (qe b).1;rw[b]at a;obtain⟨xb,t,pk,r,s,n,m,pt⟩:=x;unfold rR jo at a;simp only[oo,xw]at a;have i:=af (λW=>Q4 pt.data.toList W (bV k (by decide)))
  rw[show BA pt.data.toList=pt from by unfold BA;simp]at i
  simp only at g;obtain⟨p,q,d⟩:=sm (dc pt.data.toList);rw[d]at i;have j:=af d;have v:=aT w (iC #[I J xb,I J t,I J pk,I J r,I J s,I J n,I J m,iT pt] 53);have f:=af v;have u:ah (mP (w.alloc (iC #[I J xb,I J t,I J pk,I J r,I J s,I J n,I J m,iT pt] 53)) w.heap.size ⟨xb,t,pk,r,s,n,m,pt⟩):=aB _ _;obtain⟨-,-,-,-,-,-,-,A⟩:=u.o.cells;simp only at A;clear h l b d v u;go_enter Tryz.func34,Tryz.ntmps34;go_wp2_with fail;refine(i.o _).mono ?_;rintro e C ⟨rfl,y⟩;have z:=af (f.o.trans (y.mono f.o.size));clear y f;go_wp2;refine az (bt rfl _ _ _) rfl ?_;rw[g.o,j.o];exact⟨rfl,z.o⟩
theorem SJ(v:iX)(rs:List Rw)(c:Int)(w:iW)(B:rs.length<=1048576)(b:∀r∈rs,r.2.2.2.length<=1048576)(f:mW rs)(A:eB w v rs)(y:eQ w):
 iK Tryz.prog 10 #[iA #[v],I J c] w λe w'=>e=G (fG (bn (au (rs.map aw)) c))/\iL w.heap.size w w':=by
 have g:=aT w (iC #[v] 26);have H:(w.alloc (iC #[v] 26)).cell? ⟨w.heap.size,0,O⟩=X v:=aj _ _ 0 _ _ _ (aB w (iC #[v] 26));have C:=af (Pe v rs _ B b f (A.below g) (y.on g));have h:=af g;obtain⟨M,k⟩:=aq (au (rs.map aw));have F:ah (∀x∈M,x.fP.text.size<=1048576):=by rw[<-k];exact yY
 unfold mO at C;rw[k]at C⊢;obtain⟨p,q,d⟩:=sm (bn M c);have a:=af d;clear B b f A g k d y;go_enter Tryz.func10,Tryz.ntmps10;go_wp2_with fail;refine C.o.mono ?_;rintro e K ⟨ad,cap,rfl,h1,t,u⟩;have m:=af (UE ad M.length cap M K t h1);have i:=af (h.o.trans (u.mono h.o.size));clear C h1 t u h H;go_wp2_with fail;refine m.o.mono ?_;rintro e L ⟨E,rfl,-,z,n⟩;have j:=af (TC E M c L F.o z);have l:=af (i.o.trans (n.mono i.o.size));rw[a.o]at j;clear m n z i;go_wp2_with fail;refine j.o.mono ?_;rintro e N ⟨rfl,s⟩;have D:=af (l.o.trans (s.mono l.o.size));clear s j;go_wp2;refine az (bt rfl _ _ _) rfl ?_;rw[a.o];exact⟨rfl,D.o⟩
variable{s:Sto}
theorem PI{W:iW}{c:Option Addr}{a:Nat}{k:Nat}{n:Int}(h:dK W (iA #[Y c a vc,Y ad k cap,I J n]) s):a<=1048576/\fN W c a s.fV:=by
 obtain⟨o,q,p,d,l,b,m,e,-,i,-,-,-,j,-⟩:=h;unfold eA at e;injection e with e
 injection e with e
 simp only[gE,E8,iy]at e;obtain⟨⟨f,g,-⟩,-⟩:=e;subst f g;exact⟨i,j⟩
theorem YL(x:iX)(d:Dv)(id:Int)(w:iW)(h:eY w x d):iK Tryz.prog 55 #[x,I J id] w λe w'=>e=G (iB (bw d.fS.fV id).isSome)/\iL w.heap.size w w':=by
 obtain⟨n,m,c,j,vc,ad,p,cap,rfl,h1,B,z⟩:=h.form;have l:=aT w (iC #[Y n d.fH.length m,Y c j vc,Y ad p cap,I J d.fS.next,I J d.seq,I J d.tx,I J d.base] 34);have s:aU (w.alloc (iC #[Y n d.fH.length m,Y c j vc,Y ad p cap,I J d.fS.next,I J d.seq,I J d.tx,I J d.base] 34)) w.heap.size (Y n d.fH.length m) (Y c j vc) (Y ad p cap) d.fS.next d.seq d.tx d.base:=aB _ _;generalize u:w.alloc (iC #[Y n d.fH.length m,Y c j vc,Y ad p cap,I J d.fS.next,I J d.seq,I J d.tx,I J d.base] 34)=wa at l s;obtain⟨t,a⟩:=PI (z.below l);have c1:=s.cells.2.1;have A:=af a;have q:=af (Nf c j vc d.fS.fV id wa t a);have y:=af l;clear l s h h1 B z a;go_enter Tryz.func55,Tryz.ntmps55;go_wp2_with fail;clear u;refine q.o.mono ?_;rintro e C ⟨rfl,rfl⟩;cases g:bw d.fS.fV id with
 |none=>
  have f:uH c O=iP O:=rfl;have r:ah ((bw d.fS.fV id).isSome=iF):=by show _=_;rw[g];rfl
  rw[f];clear f g q;go_wp2;go_ret;exact⟨by rw[r.o];rfl,y.o⟩
 |some k=>
  obtain⟨v,a,-⟩:=om g;obtain⟨b,i,e,-⟩:=A.o.at a;subst e;have f:uH (X ⟨b,i,O⟩) (X k)=iP (X ⟨b,i+k*2,O⟩):=rfl;have r:ah ((bw d.fS.fV id).isSome=iV):=by show _=_;rw[g];rfl
  rw[f];clear f g q a;go_wp2;go_ret;exact⟨by rw[r.o];rfl,y.o⟩
theorem Ue(x:iX)(d:Dv)(a b:Int)(w:iW)(h:eY w x d)(Q:eQ w):iK Tryz.prog 25 #[x,I J a,I J b] w λe w'=>e=G (iU #[iT (iZ d a b).1,iB (iZ d a b).2])/\iL w.heap.size w w':=by
 have h0:=h;obtain⟨p,n,v,y,vc,ad,u,cap,rfl,h1,N,O⟩:=h.form;have s:=aT w (iC #[Y p d.fH.length n,Y v y vc,Y ad u cap,I J d.fS.next,I J d.seq,I J d.tx,I J d.base] 34);have t:aU (w.alloc (iC #[Y p d.fH.length n,Y v y vc,Y ad u cap,I J d.fS.next,I J d.seq,I J d.tx,I J d.base] 34)) w.heap.size (Y p d.fH.length n) (Y v y vc) (Y ad u cap) d.fS.next d.seq d.tx d.base:=aB _ _;generalize F:w.alloc (iC #[Y p d.fH.length n,Y v y vc,Y ad u cap,I J d.fS.next,I J d.seq,I J d.tx,I J d.base] 34)=wa at s t;have H:=af (YL _ d a wa (h0.below s));have i:=af (J7 d a b);unfold uw at i;obtain⟨P,R⟩:=aq (iZ d a b);rw[R]at i⊢;have C:=af s;have K:=af t;have X:=af h1;have Z:=af N;have H3:=af O;have HH:=af Q;obtain⟨j,c1,c2,c3,c4,c5,c6⟩:=t.cells;clear s t h h0 h1 N O Q R;go_enter Tryz.func25,Tryz.ntmps25;go_wp2_with fail;clear F;refine H.o.mono ?_;rintro e w1 ⟨rfl,D⟩;have l:=af (C.o.trans (D.mono C.o.size));have B:=af (K.o.below D);clear H D C K j c1 c2 c3 c4 c5 c6;by_cases k:(bw d.fS.fV a).isSome=iV
 ·have f:ah ((if dy d.fS a b=0 then iU #[iT ⟨#[]⟩,iB iV]else fG (bn (au d.fH) (dy d.fS a b)))=iU #[iT P.1,iB P.2]):=by show _=_;rw[<-i.o,ak k]
  have z:=af (Oz _ d.fS a b w1 (H3.o.below l.o));obtain⟨c,S⟩:=aq (dy d.fS a b);rw[S]at z f;obtain⟨-,c1,c2,c3,-⟩:=B.o.cells;rw[k];clear i S;go_wp2_with fail;refine z.o.mono ?_;rintro e w2 ⟨rfl,E⟩;have m:=af (l.o.trans (E.mono l.o.size));have W:=af (B.o.below E);clear z E l B c1 c2 c3;by_cases j:(c==0)=iV
  ·have g:ah (iU #[iT ⟨#[]⟩,iB iV]=iU #[iT P.1,iB P.2]):=by show _=_;rw[<-f.o,ak (by simpa using j)]
   clear f;go_wp2;refine az (bt rfl _ _ _) rfl ?_;rw[<-g.o];exact⟨rfl,m.o⟩
  ·have g:ah (fG (bn (au d.fH) c)=iU #[iT P.1,iB P.2]):=by show _=_;rw[<-f.o,ai (by simpa using j)]
   have j:(c==0)=iF:=by simpa using j
   obtain⟨rs,M,T,U,q,r⟩:=(X.o.below m.o).lens Z.o;have A:=af (SJ (Y p d.fH.length n) rs c w2 U q r T (HH.o.on m.o));rw[M,g.o]at A;have k0:=W.o.cells.1;clear f g M T U q r;go_wp2_with fail;refine A.o.mono ?_;rintro e w3 ⟨rfl,L⟩;have V:=af (m.o.trans (L.mono m.o.size));clear L A;go_wp2;refine az (bt rfl _ _ _) rfl ?_;exact⟨rfl,V.o⟩
 ·have g:ah (iU #[iT ⟨#[]⟩,iB iF]=iU #[iT P.1,iB P.2]):=by show _=_;rw[<-i.o,ai k]
  have k:(bw d.fS.fV a).isSome=iF:=by simpa using k
  rw[k];clear i;go_wp2;refine az (bt rfl _ _ _) rfl ?_;rw[<-g.o];exact⟨rfl,l.o⟩
structure Kd where
 sec:Int
 of1:Int
 of2:Int
 text:Int
 ref:iX
 plan:iX
def jx:Kd:=⟨0,0,0,0,.nilFunc,.nilFunc⟩
def l9(n:Nat):iX:=.func (.func n) #[] #[]
def kd(k:Int):Kd:=
 if k=1 then⟨15,0,0,64,l9 122,l9 123⟩
 else if k=2 then⟨15,0,0,0,l9 122,l9 124⟩
 else if k=3 then⟨0,0,0,0,l9 125,l9 126⟩
 else if k=4 then⟨0,1,9,0,l9 125,l9 126⟩
 else if k=5 then⟨0,0,0,0,l9 122,l9 127⟩
 else if k=6 then⟨15,0,0,0,l9 122,l9 128⟩
 else jx
theorem JX{k:Int}(h:¬(1<=k/\k<=6)):kd k=jx:=by
 unfold kd;rw[ai (by omega),ai (by omega),ai (by omega),ai (by omega),ai (by omega),ai (by omega)]
theorem Vw(q:Ak):kS q=decide ((1<=q.kind/\q.kind<=6)/\(1<=q.vol/\q.vol<=9)/\(0<=q.sector/\q.sector<=(kd q.kind).sec)/\((kd q.kind).of1<=q.of/\q.of<=(kd q.kind).of2)/\(q.text.size:Int)<=(kd q.kind).text):=by
 obtain⟨k,v,s,o,t⟩:=q;unfold kS;simp only;by_cases h:1<=k/\k<=6
 ·obtain rfl|rfl|rfl|rfl|rfl|rfl:k=1∨k=2∨k=3∨k=4∨k=5∨k=6:=by omega
  all_goals
   simp only[kd,dF,fQ,Int.reduceEq,or_self,false_or,eX,ne_eq,not_true_eq_false,not_false_eq_true,vD,xC]
   repeat' split
   all_goals first
    |exact(aV (by omega)).symm
    |exact yJ.2 ⟨λh=>by omega,λh=>by omega⟩
 ·rw[ak (.inl h)];exact(aV (λx=>h x.1)).symm
def rE(c:Kd):iX:=iA #[I J c.sec,I J c.of1,I J c.of2,I J c.text,c.ref,c.plan]
def iQ(W:iW)(g:Nat)(c:Kd):Prop:=W.heap[g]?=X (iC #[I J c.sec,I J c.of1,I J c.of2,I J c.text,c.ref,c.plan] 104 (0,0))
theorem iQ.below{w w':iW}{c:Kd}(h:iQ w g c)(a:iL w.heap.size w w'):iQ w' g c:=(a.block _ (aK.1 h).1).trans h
theorem iQ.lt{w:iW}{c:Kd}(h:iQ w g c):g<w.heap.size:=(aK.1 h).1
theorem iQ.cells{W:iW}{g:Nat}{c:Kd}(h:iQ W g c):W.cell? ⟨g,0,O⟩=X (I J c.sec)/\W.cell? ⟨g,1,O⟩=X (I J c.of1)/\W.cell? ⟨g,2,O⟩=X (I J c.of2)/\W.cell? ⟨g,3,O⟩=X (I J c.text)/\W.cell? ⟨g,4,O⟩=X c.ref/\W.cell? ⟨g,5,O⟩=X c.plan:=
 ⟨aj _ _ 0 _ _ _ h,aj _ _ 1 _ _ _ h,aj _ _ 2 _ _ _ h,aj _ _ 3 _ _ _ h,aj _ _ 4 _ _ _ h,aj _ _ 5 _ _ _ h⟩
theorem iQ.fr{W:iW}{c:Kd}(h:iQ W g c)(k:Nat):W.frozen? ⟨g,k,O⟩=iF:=aF _ _ k _ _ h
def qa(W:iW)(g:Nat)(a b c d e f:iX):iW:=(((((W.setCell ⟨g,0,O⟩ a).setCell ⟨g,1,O⟩ b).setCell ⟨g,2,O⟩ c).setCell ⟨g,3,O⟩ d).setCell ⟨g,4,O⟩ e).setCell ⟨g,5,O⟩ f
theorem I7(W:iW)(g:Nat)(a b c d e f:iX)(h:i≠g):(qa W g a b c d e f).heap[i]?=W.heap[i]?:=by
 unfold qa;rw[aO _ ⟨g,5,O⟩ _ _ h,aO _ ⟨g,4,O⟩ _ _ h,aO _ ⟨g,3,O⟩ _ _ h,aO _ ⟨g,2,O⟩ _ _ h,aO _ ⟨g,1,O⟩ _ _ h,aO _ ⟨g,0,O⟩ _ _ h]
theorem Fdd{w W:iW}(a b c d e f:iX)(h:iL B w W)(i:B<=g):iL B w (qa W g a b c d e f):=
 (((((h.setCell (p:=⟨g,0,O⟩) i _).setCell (p:=⟨g,1,O⟩) i _).setCell (p:=⟨g,2,O⟩) i _).setCell (p:=⟨g,3,O⟩) i _).setCell (p:=⟨g,4,O⟩) i _).setCell (p:=⟨g,5,O⟩) i _
theorem Dk{W:iW}{a:Kd}(h:iQ W g a)(c:Kd):iQ (qa W g (I J c.sec) (I J c.of1) (I J c.of2) (I J c.text) c.ref c.plan) g c:=
 bo _ _ 5 _ _ _ (bo _ _ 4 _ _ _ (bo _ _ 3 _ _ _ (bo _ _ 2 _ _ _ (bo _ _ 1 _ _ _ (bo _ _ 0 _ _ _ h)))))
theorem Xm:(Tryz.prog.info? 104).map (·.size)=X 6:=by kernel_rfl
theorem J6 {p q:Tmp} (h:fn.results= #[.cell p 104,.tmp q]) (a:Array iX) (w:iW) (g:Nat) (c:Kd)
 (f:a.getD p undef=iP (X ⟨g,0,O⟩)) (d:iQ w g c):
 (results fn a).run Tryz.prog w=.ok (iU #[rE c,a.getD q undef]) w:=by
 have b:a[p]?.getD undef=iP (X ⟨g,0,O⟩):=by simpa using f
 have e:=lL (P:=Tryz.prog) w g 104 104 _ _ _ d Tryz.underlying104 rfl Xm;simp[results,h,b,asAddr,e,rE]
def nD:Array iX:= #[I J 0,I J 0,I J 0,I J 0,.nilFunc,.nilFunc,I J 15,I J 0,I J 0,I J 64,.func (.func 122) #[] #[],.func (.func 123) #[] #[],I J 15,I J 0,I J 0,I J 0,.func (.func 122) #[] #[],.func (.func 124) #[] #[],I J 0,I J 0,I J 0,I J 0,.func (.func 125) #[] #[],.func (.func 126) #[] #[],I J 0,I J 1,I J 9,I J 0,.func (.func 125) #[] #[],.func (.func 126) #[] #[],I J 0,I J 0,I J 0,I J 0,.func (.func 122) #[] #[],.func (.func 127) #[] #[],I J 15,I J 0,I J 0,I J 0,.func (.func 122) #[] #[],.func (.func 128) #[] #[]]
def vg:iX:=iA nD
theorem Kk:(Tryz.prog.info? 144).map (·.size)=X 42:=by kernel_rfl
theorem Sn {p:Tmp} (h:fn.results= #[.cell p 144]) (a:Array iX) (w:iW) (g:Nat)
 (e:a.getD p undef=iP (X ⟨g,0,O⟩)) (c:w.rangeAt g 0 nD.toList):
 (results fn a).run Tryz.prog w=.ok vg w:=by
 have b:a[p]?.getD undef=iP (X ⟨g,0,O⟩):=by simpa using e
 have d:=AU (P:=Tryz.prog) w g 0 144 nD.toList _ c Tryz.underlying144 rfl Kk;simp[results,h,b,asAddr,d,vg]
variable{b:Nat}
theorem GS{a:iW}(c:B<=b):∀(vs:List iX) (o:Nat) (w:iW),iL B a w->iL B a (w.setCells b o vs)
 | [],_,_,h=>h
 |v::r,o,w,h=>by
  rw[World.setCells];exact GS c r _ _ (h.setCell (p:=⟨b,o,O⟩) c v)
def xf:Array iX:= #[I J 0,I J 0,I J 0,I J 0,.nilFunc,.nilFunc,I J 0,I J 0,I J 0,I J 0,.nilFunc,.nilFunc,I J 0,I J 0,I J 0,I J 0,.nilFunc,.nilFunc,I J 0,I J 0,I J 0,I J 0,.nilFunc,.nilFunc,I J 0,I J 0,I J 0,I J 0,.nilFunc,.nilFunc,I J 0,I J 0,I J 0,I J 0,.nilFunc,.nilFunc,I J 0,I J 0,I J 0,I J 0,.nilFunc,.nilFunc]
theorem J2(w:iW):(w.alloc (iC xf 144)).there w.heap.size 0 nD.size:=by
 intro j b;rw[eC,Ar];refine⟨?_,by simp⟩
 have h1:xf.size=42:=rfl;have a:nD.size=42:=rfl;rw[p7 (by omega)]
 rfl
theorem Ra:nD.all (·.oneCell')=iV:=by kernel_rfl
theorem VE(w:iW):iK Tryz.prog 82 #[] w λe w'=>e=G vg/\iL w.heap.size w w':=by
 have c:=af (J2 w);have b:=af (Mq _ _ 0 nD.toList (show(w.alloc (iC xf 144)).there w.heap.size 0 nD.toList.length from J2 w));have a:=af (GS (am w.heap.size) nD.toList 0 _ ((ax w.heap.size w).alloc (am _) (iC xf 144)));go_enter Tryz.func82,Tryz.ntmps82;go_wp2_with (refine wpList_store_mid rfl 144 (Operand.tmp 0) (Operand.tmp 7) rfl w.heap.size 0 nD rfl rfl c.o Kk Ra ?_);refine az (Sn rfl _ _ w.heap.size rfl b.o) rfl ?_;exact⟨rfl,a.o⟩
theorem abU:(Tryz.prog.info? 104).map (λi=>(i.zero,i.size,i.bytes))=X (X (iA #[I J 0,I J 0,I J 0,I J 0,.nilFunc,.nilFunc]),6,48):=by kernel_rfl
theorem Yk{k:Int}(h:1<=k/\k<=6)(W:iW):(Instr.index 144 vg (I J k)).run Tryz.prog W=.ok (rE (kd k)) W:=by
 obtain rfl|rfl|rfl|rfl|rfl|rfl:k=1∨k=2∨k=3∨k=4∨k=5∨k=6:=by omega
 all_goals
  obtain⟨d,hi,b,a,c⟩:=bO abU;simp[Instr.index,run_underlying Tryz.underlying144,asIntOf,vg,part,sizeOf,typeInfo,hi,a,isAgg,run_underlying Tryz.underlying104,nD,rE,kd,l9]
theorem L8{k:Int}(h:1<=k/\k<=6):∃c1 c2 c3 a b c,kd k=⟨c1,c2,c3,a,.func (.func b) #[] #[],.func (.func c) #[] #[]⟩:=by
 obtain rfl|rfl|rfl|rfl|rfl|rfl:k=1∨k=2∨k=3∨k=4∨k=5∨k=6:=by omega
 all_goals exact⟨_,_,_,_,_,_,rfl⟩
def EB(w W:iW)(q:Ak)(g:Nat):Prop:=cJ W w.heap.size q/\iQ W (w.heap.size+1) jx/\iQ W g (kd q.kind)/\iL w.heap.size w W
def ph(w W:iW)(q:Ak):Prop:=cJ W w.heap.size q/\iQ W (w.heap.size+1) jx/\iL w.heap.size w W
theorem ph.below{w W W':iW}{q:Ak}(h:ph w W q)(a:iL W.heap.size W W'):ph w W' q:=⟨h.1.below a,h.2.1.below a,h.2.2.trans (a.mono h.2.2.size)⟩
theorem ph.late{w W:iW}{q:Ak}{c:Kd}(h:ph w W q)(d:kd q.kind=c):EB w (W.alloc (iC #[I J c.sec,I J c.of1,I J c.of2,I J c.text,c.ref,c.plan] 104)) q W.heap.size:=by
 have b:=(ax W.heap.size W).alloc (am _) (iC #[I J c.sec,I J c.of1,I J c.of2,I J c.text,c.ref,c.plan] 104);have a:=h.below b;refine⟨a.1,a.2.1,?_,a.2.2⟩;rw[d];exact aB _ _
theorem ph.early{w W:iW}{q:Ak}{c:Kd}(h:ph w W q)(b:iQ W g jx)(d:w.heap.size+1<g)(a:kd q.kind=c):EB w (qa W g (I J c.sec) (I J c.of1) (I J c.of2) (I J c.text) c.ref c.plan) q g:=by
 refine⟨(I7 _ _ _ _ _ _ _ _ (by omega)).trans h.1,(I7 _ _ _ _ _ _ _ _ (by omega)).trans h.2.1,?_,Fdd _ _ _ _ _ _ h.2.2 (by omega)⟩
 rw[a];exact Dk b c
theorem abz(q:Ak)(w:iW):iK Tryz.prog 48 #[jr q] w λe w'=>e=G (iU #[rE (kd q.kind),iB (kS q)])/\iL w.heap.size w w':=by
 obtain⟨k,v,s,o,t⟩:=q;unfold jr;simp only;have s0:(w.alloc (iC #[I J k,I J v,I J s,I J o,iT t] 55)).heap.size=w.heap.size+1:=by simp
 have b0:=aT w (iC #[I J k,I J v,I J s,I J o,iT t] 55);have a0:cJ (w.alloc (iC #[I J k,I J v,I J s,I J o,iT t] 55)) w.heap.size ⟨k,v,s,o,t⟩:=aB _ _;have l:=(ax (w.alloc (iC #[I J k,I J v,I J s,I J o,iT t] 55)).heap.size _).alloc (am _) (iC #[I J 0,I J 0,I J 0,I J 0,.nilFunc,.nilFunc] 104);have S:=a0.below l;have zA:iQ ((w.alloc (iC #[I J k,I J v,I J s,I J o,iT t] 55)).alloc (iC #[I J 0,I J 0,I J 0,I J 0,.nilFunc,.nilFunc] 104)) (w.heap.size+1) jx:=by
  rw[<-s0];exact aB _ _
 have bA:=b0.trans (l.mono b0.size);generalize p:(w.alloc (iC #[I J k,I J v,I J s,I J o,iT t] 55)).alloc (iC #[I J 0,I J 0,I J 0,I J 0,.nilFunc,.nilFunc] 104)=wa at S zA bA;have M:wa.heap.size=w.heap.size+1+1:=by rw[<-p];simp
 obtain⟨c0,c1,c2,c3,c4⟩:=S.cells;simp only at c0 c1 c2 c3 c4;obtain⟨R,hR⟩:=aq (kS ⟨k,v,s,o,t⟩);rw[hR];have d:ah (R=decide ((1<=k/\k<=6)/\(1<=v/\v<=9)/\(0<=s/\s<=(kd k).sec)/\((kd k).of1<=o/\o<=(kd k).of2)/\(t.size:Int)<=(kd k).text)):=hR.symm.trans (Vw _);have HA:=af S;have c:=af zA;have Z:=af bA;have HS:=af M;clear s0 b0 a0 l S zA bA M hR;by_cases i:¬(1<=k/\k<=6)
 ·have b:ah (R=iF):=by show _=_;rw[d.o];exact aV (λx=>i x.1)
  have HK:=af (JX i);obtain⟨y,z,A,B,C,D⟩:=c.o.cells;unfold jx at y z A B C D;simp only at y z A B C D;have f0:=c.o.fr 0;have f1:=c.o.fr 1;have f2:=c.o.fr 2;have f3:=c.o.fr 3;have f4:=c.o.fr 4;have f5:=c.o.fr 5;have n:=af (Dk c.o jx);have u:=af (Fdd (I J jx.sec) (I J jx.of1) (I J jx.of2) (I J jx.text) jx.ref jx.plan Z.o (g:=w.heap.size+1) (by omega))
  unfold qa jx at n u;simp only at n u;clear d;go_enter Tryz.func48,Tryz.ntmps48;go_wp2_with fail;clear p;refine(qK k 1 6 iF _ (.inr ⟨by omega,rfl⟩)).mono ?_
  rintro e w' ⟨rfl,rfl⟩;go_wp2;refine az (J6 rfl _ _ (w.heap.size+1) _ rfl n.o) rfl ?_;rw[HK.o,b.o];exact⟨rfl,u.o⟩
 have i:1<=k/\k<=6:=yu.1 i;have f:=Yk i;obtain⟨E,F,H,N,n1,n2,hC⟩:=L8 i;rw[hC]at d f⊢;unfold rE at f⊢;simp only at d f⊢;have HC:=af hC;clear hC;go_enter Tryz.func48,Tryz.ntmps48;go_wp2_with fail;clear p;refine(qK k 1 6 iV _ (.inl ⟨i.1,i.2,rfl⟩)).mono ?_;rintro e m ⟨rfl,rfl⟩;go_upto_region 3 with fail
 go_cut [4] (λs4 wc=>∃g:Nat,s4=iP (X ⟨g,0,O⟩)/\ah (EB w wc ⟨k,v,s,o,t⟩ g)/\w.heap.size+1<g)
 case first=>
  have ad:(0:Int)<=k:=by omega
  have R0:=af (show ph w m ⟨k,v,s,o,t⟩from⟨HA.o,c.o,Z.o⟩);have RD:=af (R0.o.below (W':=m.drew) (ax _ _).drew);have RE:=af (R0.o.below (W':=(m.alloc (iC #[I J 0,I J 0,I J 0,I J 0,.nilFunc,.nilFunc] 104)).drew) (aZ).drew);have ZE:ah (iQ (m.alloc (iC #[I J 0,I J 0,I J 0,I J 0,.nilFunc,.nilFunc] 104)).drew m.heap.size jx):=aB m (iC #[I J 0,I J 0,I J 0,I J 0,.nilFunc,.nilFunc] 104);have K0:=af RD.o.1.cells.1;have K1:=af RE.o.1.cells.1;simp only at K0 K1;clear c1 c2 c3 c4;go_region_held3 (λW=>W.cell? ⟨w.heap.size,0,O⟩=X (I J k)) (first|(with_reducible exact K0.o)|(with_reducible exact K1.o)|(with_reducible exact KC.o)|(with_reducible exact KD.o)|(with_reducible exact KE.o)|go_keep) ((go_at_call 82;(with_reducible refine cn (VE _) ?_);rintro en y1 ⟨rfl,l⟩;have Q:=af (show ph w y1 ⟨k,v,s,o,t⟩from by first|(with_reducible exact RD.o.below l)|(with_reducible exact RE.o.below l));(try have j:=af (show iQ y1 m.heap.size jx from by with_reducible exact ZE.o.below l));have KC:=af Q.o.1.cells.1;have Y:=af (Q.o.late HC.o);have KD:=af Y.o.1.cells.1;(try have P:=af (Q.o.early j.o (show w.heap.size+1<m.heap.size by have:=HS.o;omega) HC.o));(try have KE:=af P.o.1.cells.1);(try unfold qa at P KE);simp only at KC Y KD;(try simp only at P KE);(try obtain⟨y,z,A,B,C,D⟩:=j.o.cells);(try unfold jx at y z A B C D);(try simp only at y z A B C D);(try have f0:=j.o.fr 0);(try have f1:=j.o.fr 1);(try have f2:=j.o.fr 2);(try have f3:=j.o.fr 3);(try have f4:=j.o.fr 4);(try have f5:=j.o.fr 5);clear l))
  all_goals
   go_wp2_with fail;go_meet
   case rel=>first
    |((with_reducible refine⟨_,rfl,Y,?_⟩);have:=Q.o.2.1.lt;omega)
    |((with_reducible refine⟨_,rfl,P,?_⟩);have:=HS.o;omega)
 case rest=>
  obtain⟨w2,r⟩:∃w2,w2=wc:=⟨_,rfl⟩;subst r;obtain⟨g,aa,hg,ae⟩:=hcut;subst aa;obtain⟨A2,Z2,K,B2⟩:=hg.o;obtain⟨d0,d1,d2,d3,d4⟩:=A2.cells;simp only at d0 d1 d2 d3 d4;simp only at K;rw[HC.o]at K;obtain⟨e0,e1,e2,e3,e4,e5⟩:=K.cells;simp only at e0 e1 e2 e3 e4 e5;have HG:=af K;have a:=af Z2;have L:=af B2;clear HA c Z HS hg A2 Z2 K B2 f;go_upto_region 4 with fail
  go_cut [5] (λs5 wc=>s5=iB R/\wc=w2)
  case first=>
   by_cases T:1<=v/\v<=9
   ·go_wp2_with fail;refine(qK v 1 9 iV _ (.inl ⟨T.1,T.2,rfl⟩)).mono ?_;rintro e w' ⟨rfl,rfl⟩;by_cases U:0<=s/\s<=E
    ·go_wp2_with fail;refine(qK s 0 E iV _ (.inl ⟨U.1,U.2,rfl⟩)).mono ?_;rintro e w' ⟨rfl,rfl⟩;by_cases V:F<=o/\o<=H
     ·go_wp2_with fail;refine(qK o F H iV _ (.inl ⟨V.1,V.2,rfl⟩)).mono ?_;rintro e w' ⟨rfl,rfl⟩;have b:ah (R=decide ((t.size:Int)<=N)):=by show _=_;rw[d.o];exact yJ.2 ⟨λh=>h.2.2.2.2,λh=>⟨i,T,U,V,h⟩⟩
      by_cases p5:(t.size:Int)<=N
      ·go_wp2;go_meet
       case rel=>exact⟨by rw[b.o,aS p5],rfl⟩
      ·go_wp2;go_meet
       case rel=>exact⟨by rw[b.o,aV (by omega)],rfl⟩
     ·have b:ah (R=iF):=by show _=_;rw[d.o];exact aV (λh=>V h.2.2.2.1)
      go_wp2_with fail;refine(qK o F H iF _ (.inr ⟨by omega,rfl⟩)).mono ?_
      rintro e w' ⟨rfl,rfl⟩;go_wp2;go_meet
      case rel=>exact⟨by rw[b.o],rfl⟩
    ·have b:ah (R=iF):=by show _=_;rw[d.o];exact aV (λh=>U h.2.2.1)
     go_wp2_with fail;refine(qK s 0 E iF _ (.inr ⟨by omega,rfl⟩)).mono ?_
     rintro e w' ⟨rfl,rfl⟩;go_wp2;go_meet
     case rel=>exact⟨by rw[b.o],rfl⟩
   ·have b:ah (R=iF):=by show _=_;rw[d.o];exact aV (λh=>T h.2.1)
    go_wp2_with fail;refine(qK v 1 9 iF _ (.inr ⟨by omega,rfl⟩)).mono ?_
    rintro e w' ⟨rfl,rfl⟩;go_wp2;go_meet
    case rel=>exact⟨by rw[b.o],rfl⟩
  case rest=>
   obtain⟨w3,r⟩:∃w3,w3=wc:=⟨_,rfl⟩;subst r;obtain⟨ab,ac⟩:=hcut;subst ab ac;obtain⟨y,z,A,B,C,D⟩:=a.o.cells;have f0:=a.o.fr 0;have f1:=a.o.fr 1;have f2:=a.o.fr 2;have f3:=a.o.fr 3;have f4:=a.o.fr 4;have f5:=a.o.fr 5;have n:=af (Dk a.o ⟨E,F,H,N,.func (.func n1) #[] #[],.func (.func n2) #[] #[]⟩);have u:=af (Fdd (I J E) (I J F) (I J H) (I J N) (.func (.func n1) #[] #[]) (.func (.func n2) #[] #[]) L.o (g:=w.heap.size+1) (by omega))
   unfold qa at n u;simp only at n;clear d d0 d1 d2 d3 d4 HG a L;go_wp2;refine az (J6 rfl _ _ (w.heap.size+1) _ rfl n.o) rfl ?_;exact⟨rfl,u.o⟩
theorem abx(q:Ak)(w:iW):iK Tryz.prog 23 #[jr q] w λe w'=>e=G (iB (kS q))/\iL w.heap.size w w':=by
 obtain⟨k,v,s,o,t⟩:=q;have i:=aT w (iC #[I J k,I J v,I J s,I J o,iT t] 55);have C:=af (abz ⟨k,v,s,o,t⟩ (w.alloc (iC #[I J k,I J v,I J s,I J o,iT t] 55)));obtain⟨R,l⟩:=aq (kS ⟨k,v,s,o,t⟩);rw[l]at C⊢;have a:∃c1 c2 c3 c v1 v2,kd k=⟨c1,c2,c3,c,v1,v2⟩/\((v1=.nilFunc/\v2=.nilFunc)∨∃d f,v1=.func (.func d) #[] #[]/\v2=.func (.func f) #[] #[]):=by
  by_cases h:1<=k/\k<=6
  ·obtain⟨c1,c2,c3,c,d,f,e⟩:=L8 h;exact⟨_,_,_,_,_,_,e,.inr ⟨_,_,rfl,rfl⟩⟩
  ·exact⟨_,_,_,_,_,_,JX h,.inl ⟨rfl,rfl⟩⟩
 obtain⟨c1,c2,c3,c,v1,v2,a,m⟩:=a;simp only at C;rw[a]at C;unfold jr rE at C;unfold jr;simp only at C⊢;have b:=af i;clear l a i;rcases m with⟨rfl,rfl⟩|⟨d,f,rfl,rfl⟩
 all_goals
  go_enter Tryz.func23,Tryz.ntmps23;go_wp2_with fail;refine C.o.mono ?_;rintro e n ⟨rfl,j⟩;have g:=af (b.o.trans (j.mono b.o.size));clear j C b;go_wp2;go_ret;exact⟨rfl,g.o.alloc g.o.size _⟩
theorem Wc(v:iX)(rs:List Rw)(c:Int)(w:iW)(n:rs.length<=1048576)(b:∀r∈rs,r.2.2.2.length<=1048576)(f:mW rs)(m:eB w v rs):
 iK Tryz.prog 27 #[iA #[v],I J c] w λe w'=>e=G (fG (bn (au (rs.map aw)) c))/\iL w.heap.size w w':=by
 have h:=aT w (iC #[v] 26);have z:(w.alloc (iC #[v] 26)).cell? ⟨w.heap.size,0,O⟩=X v:=aj _ _ 0 _ _ _ (aB w (iC #[v] 26));have C:=af (qi v rs _ n b f (m.below h));have g:=af h;obtain⟨M,i⟩:=aq (au (rs.map aw));have t:ah (∀x∈M,x.fP.text.size<=1048576):=by rw[<-i];exact yY
 unfold mO at C;rw[i]at C⊢;obtain⟨p,q,d⟩:=sm (bn M c);have a:=af d;clear n b f m h i d;go_enter Tryz.func27,Tryz.ntmps27;go_wp2_with fail;refine C.o.mono ?_;rintro e y ⟨ad,cap,rfl,h1,u,l⟩;have CS:=af (Dq ad M.length cap M c y (by omega) t.o h1)
 have j:=af (g.o.trans (l.mono g.o.size));rw[a.o]at CS;clear C h1 u l g;go_wp2_with fail;refine CS.o.mono ?_;rintro e A ⟨rfl,k⟩;have s:=af (j.o.trans (k.mono j.o.size));clear k CS;go_wp2;refine az (bt rfl _ _ _) rfl ?_;rw[a.o];exact⟨rfl,s.o⟩
variable{d:Dv}
theorem eY.parts{w:iW}{a b c:iX}{n q t s:Int}(h:eY w (iA #[a,b,c,I J n,I J q,I J t,I J s]) d):fu w a d.fH/\dg d.fH/\dK w (iA #[b,c,I J n]) d.fS:=by
 obtain⟨i,vv,kv,e,h1,f,g⟩:=h;injection e with e
 injection e with e
 simp only[gE,Value.int.injEq,vD,iy]at e;obtain⟨rfl,rfl,rfl,rfl,-⟩:=e;exact⟨h1,f,g⟩
section
variable{s:Int}{b:iX}
end
theorem Ld(ad:Option Addr)(a cap:Nat)(w:iW):
 iK Tryz.prog 7 #[Y ad a cap] w λe w'=>e=G (iB (decide ((1048576:Int)<a)))/\w'=w:=by
 by_cases h:(1048576:Int)<a;all_goals
  go_enter Tryz.func7,Tryz.ntmps7;go_wp2;go_ret;exact⟨by simp[h],rfl⟩
section
variable{n q t s:Int}{w:iW}{a b c:iX}
variable{d:Dv}
theorem abk(h:eY w (iA #[a,b,c,I J n,I J q,I J t,I J s]) d)(k:Int):
 iK Tryz.prog 27 #[iA #[a],I J k] w λe w'=>e=G (fG (bn (au d.fH) k))/\iL w.heap.size w w':=by
 obtain⟨h1,j,o⟩:=h.parts;obtain⟨rs,i,l,m,f,g⟩:=h1.lens j;rw[<-i];exact Wc a rs k w m f g l
end
theorem XT:kS ⟨6,8,0,0,⟨#[]⟩⟩=iV:=by unfold kS;simp;exact⟨aJ _,rfl⟩
theorem aa2(ad:Option Addr)(a cap:Nat)(w:iW)(hd:iY w ad a w.heap.size)(ht:eQ w):
 iK Tryz.prog 6 #[Y ad a cap] w λe w'=>e=G (iB iV)/\iL w.heap.size w w':=by
 have HD:=af hd;have HT:=af ht;clear hd ht;by_cases h:(1048576:Int)<a
 ·go_enter Tryz.func6,Tryz.ntmps6;go_wp2_with fail;refine(Ld ad a cap _).mono ?_;rintro e S ⟨rfl,rfl⟩;rw[aS h];go_wp2;go_ret;exact⟨rfl,ax _ _⟩
 ·have al:a<=1048576:=by omega
  have ai:decide ((1048576:Int)<a)=iF:=aV h;clear h;go_enter Tryz.func6,Tryz.ntmps6;go_wp2_with fail;refine(Ld ad a cap _).mono ?_;rintro e w0 ⟨rfl,am⟩;subst am;rw[ai];clear ai;go_wp2_with fail;refine(Wx ad a cap _ al HD.o).mono ?_;rintro e S ⟨v,d,rfl,o1,f1,g1,b1⟩;obtain⟨D,C,va,g,vc,q,L,B,e1⟩:=o1.form;have x1:=o1.rd f1;rw[e1]at x1;have b2:=aT S (iC #[Y D d.fH.length C,Y va g vc,Y q L B,I J d.fS.next,I J d.seq,I J d.tx,I J d.base] 34);have g2:aU (S.alloc (iC #[Y D d.fH.length C,Y va g vc,Y q L B,I J d.fS.next,I J d.seq,I J d.tx,I J d.base] 34)) S.heap.size (Y D d.fH.length C) (Y va g vc) (Y q L B) d.fS.next d.seq d.tx d.base:=aB _ _;have Q:=af (x1.below b2);have B2:=af (b1.trans (b2.mono b1.size));have HG:=af g1;subst e1;generalize ak:S.alloc (iC #[Y D d.fH.length C,Y va g vc,Y q L B,I J d.fS.next,I J d.seq,I J d.tx,I J d.base] 34)=f at g2 Q B2;have G2:=af g2;have HV:=af (Fj Q.o.parts.2.2);have aj:d.fS.fV.length=g:=HV.o.1;have av:g<=3:=by have:=g1.st.few;omega
  have ac:=af aj;have ab:=af (HT.o.on B2.o);have CR:=af (λ(N M:Int) (W:iW) (b:iL f.heap.size f W)=>Ue _ d N M W (Q.o.below b) (ab.o.on b))
  have CK:=af (λ(N M:Int) (W:iW) (b:iL f.heap.size f W)=>Ht N M (Q.o.below b).parts.2.2)
  have CT:=af (λ(c:Int) (W:iW) (b:iL f.heap.size f W)=>abk (Q.o.below b) c)
  have V:=af (YK g1);clear o1 f1 g1 b1 x1 b2 g2 aj;have F:=HG.o.reads HV.o.1;obtain⟨nx,m⟩:=aq d.fS.next;obtain⟨sq,H⟩:=aq d.seq;obtain⟨tx,K⟩:∃tx,d.tx=tx:=⟨_,rfl⟩;obtain⟨bs,E⟩:=aq d.base;obtain⟨fl,l⟩:=aq d.fH.length;rw[m,H,K,E,l]at CR G2 ak;rw[m,H,K,E,l];rw[m]at CK;rw[l]at CT;obtain⟨VS,ag⟩:=aq d.fS.fV;rw[ag]at HV ac F;have aa:=af F;obtain⟨z,hz⟩:=aq S.heap.size;rw[hz]at G2;try rw[hz]
  clear m H K E l ag F HG Q ab HT HD;go_wp2;clear ak;try rw[hz]
  clear hz;go_loopw [4] (λiv wr=>∃k:Nat,iv=I J k/\k<=g/\ah (iL f.heap.size f wr)) (λiv _=>g-(intOf iv).toNat)
  case atStart=>exact⟨0,rfl,aJ _,ax _ _⟩
  case round=>
   rename iW=>wq
   obtain⟨k,rfl,hk,n⟩:=hrel;have ap:(0:Int)<=k:=by omega
   by_cases au:(k:Int)<g
   ·obtain⟨r,hr⟩:∃r,VS[k]?=X r:=⟨_,ay (by have:=ac.o;omega)⟩
    obtain⟨vb,R,e,-,q0,-⟩:=HV.o.at hr;subst e;obtain⟨id,rt⟩:=r;simp only at q0;have p:ah (∀W,iL f.heap.size f W->W.cell? ⟨z,0,O⟩=X (Y D fl C)/\W.cell? ⟨z,1,O⟩=X (Y (X ⟨vb,R,O⟩) g vc)/\W.cell? ⟨z,2,O⟩=X (Y q L B)/\W.cell? ⟨z,3,O⟩=X (I J nx)/\W.cell? ⟨z,4,O⟩=X (I J sq)/\W.cell? ⟨z,5,O⟩=X (I J tx)/\W.cell? ⟨z,6,O⟩=X (I J bs)/\W.cell? ⟨vb,R+k*2,O⟩=X (I J id)):=λW hW=>by
     obtain⟨t,c1,c2,c3,x,y,A⟩:=(G2.o.below hW).cells;exact⟨t,c1,c2,c3,x,y,A,(hW.cell (bk f _ q0)).trans q0⟩
    have Z:=af (aa.o k id rt hr);clear q0 hr;obtain⟨t,c1,c2,c3,x,y,A,c7⟩:=p.o _ n.o;go_wp2;clear t c1 c2 c3 x y A c7;go_loopw [5] (λjv wr=>∃j:Nat,jv=I J j/\j<=16/\ah (iL f.heap.size f wr)) (λjv _=>16-(intOf jv).toNat)
    case atStart=>exact⟨0,rfl,aJ _,n⟩
    case round=>
     rename iW=>wr
     obtain⟨j,rfl,hj,HX⟩:=hrel;clear n;have ao:(0:Int)<=j:=by omega
     by_cases ar:(j:Int)<16
     ·obtain⟨c,s,tv,e1,e2,e3,e4⟩:=Z.o j (by omega)
      have C1:=af (CR.o id j);have C2:=af (CK.o id j);have C3:=af (CT.o c);rw[e2]at C1;rw[e1]at C2;rw[e3]at C3;have HE:=af e4;have BR:ah (iL f.heap.size f wr.drew):=HX.o.drew;clear e1 e2 e3 e4;go_upto_region 10 with fail
      go_region_held3 (λw'=>w'.cell? ⟨z,0,O⟩=X (Y D fl C)/\w'.cell? ⟨z,1,O⟩=X (Y (X ⟨vb,R,O⟩) g vc)/\w'.cell? ⟨z,2,O⟩=X (Y q L B)/\w'.cell? ⟨z,3,O⟩=X (I J nx)/\w'.cell? ⟨z,4,O⟩=X (I J sq)/\w'.cell? ⟨z,5,O⟩=X (I J tx)/\w'.cell? ⟨z,6,O⟩=X (I J bs)/\w'.cell? ⟨vb,R+k*2,O⟩=X (I J id)) (first|exact p.o _ BR.o|exact p.o _ P.o) ((go_at_call 25;(with_reducible refine cn (C1.o _ BR.o) ?_);rintro en w5 ⟨rfl,b5⟩;have P:=af (BR.o.trans (b5.mono BR.o.size));clear b5))
      all_goals
       have i:ah (iL f.heap.size f w5.drew):=P.o.drew;go_upto_region 11 with fail
       go_region_held3 (λw'=>w'.cell? ⟨z,0,O⟩=X (Y D fl C)/\w'.cell? ⟨z,1,O⟩=X (Y (X ⟨vb,R,O⟩) g vc)/\w'.cell? ⟨z,2,O⟩=X (Y q L B)/\w'.cell? ⟨z,3,O⟩=X (I J nx)/\w'.cell? ⟨z,4,O⟩=X (I J sq)/\w'.cell? ⟨z,5,O⟩=X (I J tx)/\w'.cell? ⟨z,6,O⟩=X (I J bs)/\w'.cell? ⟨vb,R+k*2,O⟩=X (I J id)) (first|exact p.o _ i.o|exact p.o _ T.o) ((go_at_call 26;(with_reducible refine cn (C2.o _ i.o) ?_);rintro en w6 ⟨rfl,b6⟩;have T:=af (i.o.trans (b6.mono i.o.size));clear b6))
      all_goals
       obtain⟨t,c1,c2,c3,x,y,A,c7⟩:=p.o _ T.o;go_wp2_with fail;refine(C3.o _ T.o).mono ?_;rintro e w7 ⟨rfl,b7⟩;have B7:=af (T.o.trans (b7.mono T.o.size));clear b7 t c1 c2 c3 x y A c7 C1 C2 C3;rcases HE.o with⟨rfl,rfl,u,ub,rfl⟩|⟨hc,rfl⟩
       ·clear HE;go_wp2;go_roundw
        case rel=>exact⟨j+1,by go_num,by omega,B7⟩
        case measure=>(try simp[intOf]);omega
       ·have an:(c==0)=iF:=by rw[dk];omega
        clear HE;go_wp2;go_roundw
        case rel=>exact⟨j+1,by go_num,by omega,B7⟩
        case measure=>(try simp[intOf]);omega
     ·clear Z p;go_wp2;go_roundw
      case rel=>exact⟨k+1,by go_num,by omega,HX⟩
      case measure=>(try simp[intOf]);omega
   ·obtain⟨t,c1,c2,c3,x,y,A⟩:=(G2.o.below n.o).cells;have C8:=af (CR.o 8 0 _ n.o);rw[V.o]at C8;simp only at C8;clear CR CK CT aa HV V;go_wp2_with fail;refine C8.o.mono ?_;rintro e w5 ⟨rfl,b5⟩;have P:=af (n.o.trans (b5.mono n.o.size));have U:=af (abx ⟨6,8,0,0,⟨#[]⟩⟩ w5);rw[XT]at U;unfold jr at U;simp only at U;clear b5 C8 t c1 c2 c3 x y A;go_wp2_with fail;refine U.o.mono ?_;rintro e w6 ⟨rfl,b6⟩;have FB:=af (B2.o.trans ((P.o.trans (b6.mono P.o.size)).mono B2.o.size));clear b6 U P;go_wp2;go_ret;exact⟨rfl,FB.o⟩
/-- A row of bytes that came in: nil, or cells that hold them. -/
def aai(w:iW)(a:Option Addr)(len cap:Nat)(zs:List Int):Prop:=
 (a=O/\len=0/\cap=0/\zs=[])∨
 ∃x,a=X x/\len<=cap/\cap<=maxLen/\zs.length=cap/\(∀i,i<zs.length->w.cell? (x.add i)=X (I .u8 (zs.getD i 0)))/\∀n∈zs,(Lit.int .u8 n).wf=iV
theorem Zv(b a j:Nat):(⟨b,a,O⟩:Addr).add j=⟨b,a+j,O⟩:=by
 simp only[Addr.add];split<;>simp_all
variable{H:Type}{zs:List Int}{cap n g m:Nat}{sp:Nat -> Bool}{P:Program}{e:TypeId}
theorem abu{w:iW}{a:Option Addr}{d:Nat}(h:aai w a d cap zs):iY w a d w.heap.size:=by
 intro j n;rcases h with⟨_,k,_⟩|⟨x,rfl,k,_,h4,i,l⟩
 ·omega
 ·obtain⟨b,g,e⟩:=x;have f:=i j (by omega)
  have c:e=O:=by simpa[Addr.add]using World.cell?_spot (i 0 (by omega))
  subst c;rw[Zv]at f;have m:zs.getD j 0∈zs:=by
   rw[pL,ay (by omega)]
   exact rl _
  have o:0<=zs.getD j 0/\zs.getD j 0<=255:=by simpa[Lit.wf,IntKind.min,IntKind.max,IntKind.signed,IntKind.bits]using l _ m
  refine⟨b,g,rfl,bk w _ f,(zs.getD j 0).toNat,by omega,?_⟩
  rw[f];congr 2;omega
open Go.ChangeShapes
theorem Xh {enc:TypeId×iX->H} {t:TypeId} {k:IntKind} (i:P.underlying t=X (.array n e)) (g:P.underlying e=X (I k))
 (V d:iW) (b f:Nat) (sp c:Nat->Bool) (a:Bool) (fuel:Nat) (cs:List iX):
 DataW.trod enc P V b sp a fuel t cs=DataW.trod enc P d f c a fuel t cs:=by
 cases fuel with
 |zero=>rfl
 |succ fuel=>
  have h:∀x:List iX,DataW.trod enc P V b sp a fuel e x=DataW.trod enc P d f c a fuel e x:=by
   intro x;cases fuel with
   |zero=>rfl
   |succ fuel=>
    simp only[DataW.trod,g];rcases x with _|⟨v,_|⟨v2,r⟩⟩
    ·rfl
    ·cases v<;>rfl
    ·cases v<;>rfl
  simp only[DataW.trod,i,h]
theorem I8{enc:TypeId×iX->H}{W:iW}:∀{ns:List String} {gs:List (DataW H)} {q:List MemPlace},DataW.TrodVars enc P W sp ns gs q->gs.length=ns.length
 | [],[],_,_=>rfl
 | [],_::_,_,h=>by simp[DataW.TrodVars]at h
 |_::_,[],_,h=>by simp[DataW.TrodVars]at h
 |_::_,_::_,_,h=>by
  obtain⟨_,_,_,_,_,_,_,_,_,_,hs,_⟩:=h;simp[I8 hs]
theorem abv{enc:TypeId×iX->H}{W W':iW}{a:Nat->Bool}(gs:List (DataW H))(q:List MemPlace)(h:DataW.TrodVars enc P W sp [] gs q):DataW.TrodVars enc P W' a [] gs q:=by
 cases gs with
 |nil=>exact h
 |cons=>simp[DataW.TrodVars]at h
theorem Jp {enc:TypeId×iX->H} {W W':iW} {a:Nat->Bool} {n:String} {ns:List String} {t:TypeId} {k:IntKind}
 (f:P.globalNamed n=X g) (j:(P.globals[g]?).map (·.type)=X t) (s:P.underlying t=X (.array m e)) (r:P.underlying e=X (I k)) (o:iL W.heap.size W W')
 (rest:∀gs q,DataW.TrodVars enc P W sp ns gs q->DataW.TrodVars enc P W' a ns gs q) (gs:List (DataW H)) (q:List MemPlace) (h:DataW.TrodVars enc P W sp (n::ns) gs q):DataW.TrodVars enc P W' a (n::ns) gs q:=by
 cases gs with
 |nil=>simp[DataW.TrodVars]at h
 |cons d u=>
  obtain⟨v,t',cs,fuel,p,q',h1,l,c,h4,hs,rfl⟩:=h;obtain rfl:=sR (f.symm.trans h1);obtain rfl:=sR (j.symm.trans l);have i:g<W.heap.size:=by
   rcases Nat.lt_or_ge g W.heap.size with b|b
   ·exact b
   ·unfold World.var? at c;simp[f,Array.getElem?_eq_none b]at c
  refine⟨g,t,cs,fuel,p,q',h1,l,var?_below o f i c,?_,rest _ _ hs,rfl⟩;rw[Xh s r W' W 0 0 a sp];exact h4
end Go.Proofs.YtgigcooffjjbgaaGreatDoor
