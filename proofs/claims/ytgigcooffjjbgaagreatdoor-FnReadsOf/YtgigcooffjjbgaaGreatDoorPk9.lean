/-
  DNext; DvM7; SBl17; FdC; FdR; ReadM; IRead; PgV; IPageOk; RAt; Sum; Seal; SpecSum; SpecSeal; Unseal; SUnseal
-/
import Derived.Test.YtgigcooffjjbgaaGreatDoorPk8
import Derived.Deep.Cut
import Derived.Deep.CutBlock
import Derived.Lib.LaidTab
import Derived.Lib.AppendIntMem
import Derived.Laws.BitsAllLaws
open Go.Value renaming int→I,slice→Y,string→iT,bool→iB,pointer→iP,agg→iA,tuple→iU
open Go.IntKind renaming i64→J
open Option renaming none→O,some→X
open Go.Ending renaming returned→G
open Go.Obj renaming cells→iC
open Bool renaming true→iV,false→iF
open Go renaming World→iW,Value→iX,Calls→iK
open Go.RowKit renaming Below→iL
set_option maxHeartbeats 8000000
set_option maxRecDepth 100000
namespace Go.Proofs.YtgigcooffjjbgaaGreatDoor
open Go.RowKit Words Sums
def yG:Ak:=⟨0,0,0,0,⟨#[]⟩⟩
def mz(t:List UInt8):Prop:=t∈sK.map (λb=>b.data.toList)
theorem Ti:mz (⟨#[]⟩:ByteArray).data.toList:=by unfold mz sK;simp
theorem Oj:(Tryz.prog.info? 55).map (·.size)=X 5:=by kernel_rfl
variable{fn:Func}{g:Nat}{W:iW}
theorem Vb {p:Tmp} (h:fn.results= #[.cell p 55]) (a:Array iX) (w:iW) (g:Nat) (q:Ak)
 (e:a.getD p undef=iP (X ⟨g,0,O⟩)) (c:cJ w g q):(results fn a).run Tryz.prog w=.ok (jr q) w:=by
 have b:a[p]?.getD undef=iP (X ⟨g,0,O⟩):=by simpa using e
 have d:=lL (P:=Tryz.prog) w g 55 55 _ _ _ c Tryz.underlying55 rfl Oj;simp[results,h,b,asAddr,d,jr]
section
variable{q:Ak}
theorem cJ.frz(h:cJ W g q)(k:Nat):W.frozen? ⟨g,k,O⟩=iF:=aF _ _ k _ _ h
theorem cJ.set0(h:cJ W g q)(x:Int):cJ (W.setCell ⟨g,0,O⟩ (I J x)) g ⟨x,q.vol,q.sector,q.of,q.text⟩:=bo _ _ 0 _ _ _ h
theorem cJ.set1(h:cJ W g q)(x:Int):cJ (W.setCell ⟨g,1,O⟩ (I J x)) g ⟨q.kind,x,q.sector,q.of,q.text⟩:=bo _ _ 1 _ _ _ h
theorem cJ.set2(h:cJ W g q)(x:Int):cJ (W.setCell ⟨g,2,O⟩ (I J x)) g ⟨q.kind,q.vol,x,q.of,q.text⟩:=bo _ _ 2 _ _ _ h
theorem cJ.set3(h:cJ W g q)(x:Int):cJ (W.setCell ⟨g,3,O⟩ (I J x)) g ⟨q.kind,q.vol,q.sector,x,q.text⟩:=bo _ _ 3 _ _ _ h
theorem cJ.set4(h:cJ W g q)(x:ByteArray):cJ (W.setCell ⟨g,4,O⟩ (iT x)) g ⟨q.kind,q.vol,q.sector,q.of,x⟩:=bo _ _ 4 _ _ _ h
end
def t8(W:iW)(g:Nat)(q:Ak):iW:=((((W.setCell ⟨g,0,O⟩ (I J q.kind)).setCell ⟨g,1,O⟩ (I J q.vol)).setCell ⟨g,2,O⟩ (I J q.sector)).setCell ⟨g,3,O⟩ (I J q.of)).setCell ⟨g,4,O⟩ (iT q.text)
variable{n s t r:Int}{g p len cap k B:Nat}{ad:Option Addr}{w W W':iW}{a b c:iX}
theorem aay{W:iW}{q0:Ak}(h:cJ W g q0)(q:Ak):cJ (t8 W g q) g q:=((((h.set0 q.kind).set1 q.vol).set2 q.sector).set3 q.of).set4 q.text
structure Nx (w W:iW) (g p:Nat) (ad:Option Addr) (len cap:Nat) (q:Ak) (a b c:iX) (n s t r:Int):Prop where
 dr:dq w W p ad len cap
 ask:cJ W g q
 zer:cJ W (w.heap.size+1) yG
 dev:aU W w.heap.size a b c n s t r
 gg:w.heap.size+1<g
 pl:p<w.heap.size
section
variable{q:Ak}
theorem Nx.draw(h:Nx w W g p ad len cap q a b c n s t r)(i:dq W W' p ad len cap):Nx w W' g p ad len cap q a b c n s t r:=by
 obtain⟨h1,d,f,h4,j,l⟩:=h;have k:∀y,w.heap.size<=y->y<W.heap.size->W'.heap[y]?=W.heap[y]?:=λy o m=>i.1.block y m (λe=>by cases e;omega)
 exact⟨h1.trans i,(k _ (by omega) d.lt).trans d,(k _ (by omega) f.lt).trans f,(k _ (by omega) h4.lt).trans h4,j,l⟩
theorem Nx.below(h:Nx w W g p ad len cap q a b c n s t r)(d:iL W.heap.size W W'):Nx w W' g p ad len cap q a b c n s t r:=by
 obtain⟨h1,f,i,h4,j,e⟩:=h;exact⟨h1.below (d.mono h1.1.size) e,f.below d,i.below d,h4.below d,j,e⟩
theorem Nx.set(h:Nx w W g p ad len cap q a b c n s t r){u:iX}{q':Ak}(j:cJ (W.setCell ⟨g,k,O⟩ u) g q'):Nx w (W.setCell ⟨g,k,O⟩ u) g p ad len cap q' a b c n s t r:=by
 obtain⟨h1,l,e,h4,f,d⟩:=h;have i:iL w.heap.size W (W.setCell ⟨g,k,O⟩ u):=(ax _ _).setCell (p:=⟨g,k,O⟩) (by show _<=g;omega) _
 exact⟨h1.below i d,j,(aO _ _ _ _ (show w.heap.size+1≠g by omega)).trans e,(aO _ _ _ _ (show w.heap.size≠g by omega)).trans h4,f,d⟩
theorem Nx.fin(h:Nx w W g p ad len cap q a b c n s t r):cJ (t8 W (w.heap.size+1) q) (w.heap.size+1) q/\dq w (t8 W (w.heap.size+1) q) p ad len cap:=by
 refine⟨aay h.zer q,h.dr.below ?_ h.pl⟩;unfold t8;exact(((((ax _ _).setCell (p:=⟨w.heap.size+1,0,O⟩) (by show _<=w.heap.size+1;omega) _).setCell (p:=⟨w.heap.size+1,1,O⟩) (by show _<=w.heap.size+1;omega) _).setCell (p:=⟨w.heap.size+1,2,O⟩) (by show _<=w.heap.size+1;omega) _).setCell (p:=⟨w.heap.size+1,3,O⟩) (by show _<=w.heap.size+1;omega) _).setCell (p:=⟨w.heap.size+1,4,O⟩) (by show _<=w.heap.size+1;omega) _
theorem Nx.cd(h:Nx w W g p ad len cap q a b c n s t r)(e:iY w ad len B)(d:B<=p):iY W ad len B:=h.dr.code e d h.pl
end
variable{α:Type}{t t':ByteArray}{c i':Int}{T:List UInt8 -> Prop}{B cap vc n k j g:Nat}{ad:Option Addr}
variable{d:Dv}
theorem cQ.drawn{p:Nat}{v:iX}{w W:iW}{a:Nat}(h:cQ B v d w)(b:dq w W p ad a cap)(f:p<B):cQ B v d W:=h.keep (λy g c=>b.1.block y c (λe=>by cases e;omega)) b.1.size
variable{s:Sto}
theorem Fj{W:iW}{b:Option Addr}{c:Nat}{kv:iX}{n:Int}(h:dK W (iA #[Y b c vc,kv,I J n]) s):fN W b c s.fV:=by
 obtain⟨j,l,k,d,g,a,i,e,m,-,-,-,-,f,-⟩:=h;unfold eA at e;injection e with e
 injection e with e
 simp only[gE,E8]at e;obtain⟨⟨rfl,rfl,rfl⟩,-⟩:=e;exact f
def TQ(q:Ak):Prop:=mz q.text.data.toList/\q.vol<=3
theorem DL(x:iX)(d:Dv)(B0 p:Nat)(ad:Option Addr)(c cap B:Nat)(w:iW)(R:c<=1048576)(hc:kR w p ad c cap)(hd:iY w ad c B)(u:B<=p)(ho:cQ B0 x d w)(hf:d.Fit)(aE:p<B0)(au:∀v∈d.fS.fV,v.1<=3):
 iK Tryz.prog 47 #[iP (X ⟨p,0,O⟩),x] w λe w'=>∃q:Ak,e=G (jr q)/\TQ q/\dq w w' p ad c cap:=by
 have D:=hc.2.2.2.2.2;obtain⟨l,i,r,f,vc,b,m,a,rfl,h1,h2,h3⟩:=(ho.rd hf).form;have am:d.fS.fV.length=f:=(Fj h3).1;have ai:ah (∀W,dq w W p ad c cap->fN W r f d.fS.fV):=λW hW=>by
  obtain⟨fv,vv,kv,e,-,-,h6⟩:=(ho.drawn hW aE).rd hf;injection e with e
  injection e with e
  simp only[gE,iy]at e;obtain⟨-,rfl,rfl⟩:=e;exact Fj h6
 have N:=af am;have aJ:f<=1048576:=by rw[<-am];exact hf.2.1
 have M:=af hd;have av:ah (∀k:Nat,(d.fS.fV[k]?.getD (0,0)).1<=3):=λk=>by
  cases e:d.fS.fV[k]? with
  |none=>show(0:Int)<=3;decide
  |some v=>exact au v (aL e)
 clear au;have aj:=aT w (iC #[Y l d.fH.length i,Y r f vc,Y b m a,I J d.fS.next,I J d.seq,I J d.tx,I J d.base] 34);have ak:iL (w.alloc (iC #[Y l d.fH.length i,Y r f vc,Y b m a,I J d.fS.next,I J d.seq,I J d.tx,I J d.base] 34)).heap.size (w.alloc (iC #[Y l d.fH.length i,Y r f vc,Y b m a,I J d.fS.next,I J d.seq,I J d.tx,I J d.base] 34)) ((w.alloc (iC #[Y l d.fH.length i,Y r f vc,Y b m a,I J d.fS.next,I J d.seq,I J d.tx,I J d.base] 34)).alloc (iC #[I J 0,I J 0,I J 0,I J 0,iT ⟨#[]⟩] 55)):=aZ;have P:iL ((w.alloc (iC #[Y l d.fH.length i,Y r f vc,Y b m a,I J d.fS.next,I J d.seq,I J d.tx,I J d.base] 34)).alloc (iC #[I J 0,I J 0,I J 0,I J 0,iT ⟨#[]⟩] 55)).heap.size ((w.alloc (iC #[Y l d.fH.length i,Y r f vc,Y b m a,I J d.fS.next,I J d.seq,I J d.tx,I J d.base] 34)).alloc (iC #[I J 0,I J 0,I J 0,I J 0,iT ⟨#[]⟩] 55)) (((w.alloc (iC #[Y l d.fH.length i,Y r f vc,Y b m a,I J d.fS.next,I J d.seq,I J d.tx,I J d.base] 34)).alloc (iC #[I J 0,I J 0,I J 0,I J 0,iT ⟨#[]⟩] 55)).alloc (iC #[I J 1,I J 1,I J 1,I J 1,I J 1,I J 1,I J 2,I J 3,I J 4,I J 5,I J 6] 3)):=aZ;have s0:(w.alloc (iC #[Y l d.fH.length i,Y r f vc,Y b m a,I J d.fS.next,I J d.seq,I J d.tx,I J d.base] 34)).heap.size=w.heap.size+1:=by simp
 have s1:((w.alloc (iC #[Y l d.fH.length i,Y r f vc,Y b m a,I J d.fS.next,I J d.seq,I J d.tx,I J d.base] 34)).alloc (iC #[I J 0,I J 0,I J 0,I J 0,iT ⟨#[]⟩] 55)).heap.size=w.heap.size+1+1:=by simp
 have gA:aU (w.alloc (iC #[Y l d.fH.length i,Y r f vc,Y b m a,I J d.fS.next,I J d.seq,I J d.tx,I J d.base] 34)) w.heap.size (Y l d.fH.length i) (Y r f vc) (Y b m a) d.fS.next d.seq d.tx d.base:=aB _ _;have zA:cJ ((w.alloc (iC #[Y l d.fH.length i,Y r f vc,Y b m a,I J d.fS.next,I J d.seq,I J d.tx,I J d.base] 34)).alloc (iC #[I J 0,I J 0,I J 0,I J 0,iT ⟨#[]⟩] 55)) (w.heap.size+1) yG:=by
  rw[<-s0];exact aB _ _
 have b2:=aj.trans (ak.mono aj.size);have C:=b2.trans (P.mono b2.size);have DR:=af ((dq.refl hc).below C D);have DG:=af ((gA.below ak).below P);have DZ:=af (zA.below P);have KI:ah (∀j,j< [(1:Int),1,1,1,1,1,2,3,4,5,6].length->(((w.alloc (iC #[Y l d.fH.length i,Y r f vc,Y b m a,I J d.fS.next,I J d.seq,I J d.tx,I J d.base] 34)).alloc (iC #[I J 0,I J 0,I J 0,I J 0,iT ⟨#[]⟩] 55)).alloc (iC #[I J 1,I J 1,I J 1,I J 1,I J 1,I J 1,I J 2,I J 3,I J 4,I J 5,I J 6] 3)).cell? ⟨w.heap.size+1+1,j,O⟩=X (I J ([(1:Int),1,1,1,1,1,2,3,4,5,6].getD j 0))):=by
  intro j hj;have hj:j<11:=hj;rw[<-s1];refine K8 ((w.alloc (iC #[Y l d.fH.length i,Y r f vc,Y b m a,I J d.fS.next,I J d.seq,I J d.tx,I J d.base] 34)).alloc (iC #[I J 0,I J 0,I J 0,I J 0,iT ⟨#[]⟩] 55)) _ _ j _ ?_;have:j=0∨j=1∨j=2∨j=3∨j=4∨j=5∨j=6∨j=7∨j=8∨j=9∨j=10:=by omega
  rcases this with rfl|rfl|rfl|rfl|rfl|rfl|rfl|rfl|rfl|rfl|rfl<;>rfl
 clear h1 h2 h3 ho hf hc hd aj ak P s0 s1 gA zA b2 C am;go_enter Tryz.func47,Tryz.ntmps47;go_wp2_with fail;generalize(((w.alloc (iC #[Y l d.fH.length i,Y r f vc,Y b m a,I J d.fS.next,I J d.seq,I J d.tx,I J d.base] 34)).alloc (iC #[I J 0,I J 0,I J 0,I J 0,iT ⟨#[]⟩] 55)).alloc (iC #[I J 1,I J 1,I J 1,I J 1,I J 1,I J 1,I J 2,I J 3,I J 4,I J 5,I J 6] 3))=wa at DR DG DZ KI⊢;refine(ZU (w.heap.size+1+1) [(1:Int),1,1,1,1,1,2,3,4,5,6] p ad c cap B wa (by decide) (by decide) (by omega) KI.o R DR.o.2 (DR.o.code M.o u D) u).mono ?_
 rintro e w1 ⟨k,rfl,d1⟩;have kk:∀(W W':iW),dq W W' p ad c cap->∀y,p≠y->y<W.heap.size->W'.heap[y]?=W.heap[y]?:=λW W' hd y y1 y2=>hd.1.block y y2 (λe=>by cases e;exact y1 rfl)
 have L:=af (DR.o.trans d1);have aa:ah (aU w1 w.heap.size (Y l d.fH.length i) (Y r f vc) (Y b m a) d.fS.next d.seq d.tx d.base):=(kk _ _ d1 _ (by omega) DG.o.lt).trans DG.o
 have ac:ah (cJ w1 (w.heap.size+1) yG):=(kk _ _ d1 _ (by omega) DZ.o.lt).trans DZ.o
 clear d1 DR DG DZ KI;go_wp2_with fail;refine(oG 3 p ad c cap B w1 (by omega) R L.o.2 (L.o.code M.o u D) u).mono ?_
 rintro e w2 ⟨y,rfl,y0,y1,-,d2⟩;have y2:=y1 (by omega)
 have wy:IntKind.i64.wrap (1+y)=1+y:=by rw[cm];omega
 have ab:=L.o.trans d2;have an:aU w2 w.heap.size (Y l d.fH.length i) (Y r f vc) (Y b m a) d.fS.next d.seq d.tx d.base:=(kk _ _ d2 _ (by omega) aa.o.lt).trans aa.o
 have ae:cJ w2 (w.heap.size+1) yG:=(kk _ _ d2 _ (by omega) ac.o.lt).trans ac.o
 have C:=aT w2 (iC #[I J k,I J (1+y),I J 0,I J 0,iT ⟨#[]⟩] 55);have s:ah (Nx w (w2.alloc (iC #[I J k,I J (1+y),I J 0,I J 0,iT ⟨#[]⟩] 55)) w2.heap.size p ad c cap ⟨k,1+y,0,0,⟨#[]⟩⟩ (Y l d.fH.length i) (Y r f vc) (Y b m a) d.fS.next d.seq d.tx d.base):=
  ⟨ab.below (C.mono ab.1.size) D,aB _ _,ae.below C,an.below C,ae.lt,D⟩
 clear d2 L aa ac ab an ae C kk y1;have yv:=s.o.dev.cells.2.1;go_upto_if 17 with fail
 clear yv;generalize w2.alloc (iC #[I J k,I J (1+y),I J 0,I J 0,iT ⟨#[]⟩] 55)=w3 at s⊢;obtain⟨g,hg⟩:=aq w2.heap.size;rw[hg]at s;try rw[hg]
 clear hg;have t:ah (TQ ⟨k,1+y,0,0,⟨#[]⟩⟩):=⟨Ti,by show 1+y<=3;omega⟩
 obtain⟨q,hq⟩:=aq (⟨k,1+y,0,0,⟨#[]⟩⟩:Ak);rw[hq]at s t;clear hq wy y0 y2;go_cut [] (λV=>∃q:Ak,ah (TQ q)/\ah (Nx w V g p ad c cap q (Y l d.fH.length i) (Y r f vc) (Y b m a) d.fS.next d.seq d.tx d.base))
 case first=>
  obtain⟨m0,m1,m2,m3,m4⟩:=s.o.ask.cells;by_cases E:f=0
  ·have aH:((f:Int)==0)=iV:=by simp[E]
   have NV:=af (s.o.set (s.o.ask.set0 3));have f0:=s.o.ask.frz 0;clear E;go_wp2_with fail;go_meet
   case rel=>exact⟨⟨3,q.vol,q.sector,q.of,q.text⟩,t,NV⟩
  ·have aH:((f:Int)==0)=iF:=by rw[dk];omega
   have aG:0<f:=by omega
   clear E;by_cases k3:(q.kind !=3)=iV
   ·by_cases k4:(q.kind !=4)=iV
    ·go_wp2_with fail;refine(Hm 8 p ad c cap B w3 (by omega) R s.o.dr.2 (s.o.cd M.o u) u).mono ?_
     rintro e x3 ⟨C,rfl,U⟩;have K:=af (s.o.draw U);clear U m0 m1 m2 m3 m4;cases C with
     |true=>
      go_wp2_with fail;go_meet
      case rel=>exact⟨_,t,K⟩
     |false=>
      obtain⟨vb,T,al,-⟩:=(ai.o _ K.o.dr).at (ay (show 0<d.fS.fV.length by have:=N.o;omega))
      subst al;have KK:ah (∀W q,Nx w W g p ad c cap q (Y l d.fH.length i) (Y (X ⟨vb,T,O⟩) f vc) (Y b m a) d.fS.next d.seq d.tx d.base->W.cell? ⟨w.heap.size,1,O⟩=X (Y (X ⟨vb,T,O⟩) f vc)/\∀j:Nat,j<f->W.cell? ⟨vb,T+j*2,O⟩=X (I J (d.fS.fV[j]?.getD (0,0)).1)):=λW q H=>by
       refine⟨H.dev.cells.2.1,λj hj=>?_⟩
       have ap:j<d.fS.fV.length:=by rw[N.o];exact hj
       obtain⟨b',o',e,-,qq,-⟩:=(ai.o _ H.dr).at (ay ap);injection e with e
       injection e with e1 e2
       subst e1 e2;rw[ay ap];exact qq
      have CB:ah (∀W,Nx w W g p ad c cap q (Y l d.fH.length i) (Y (X ⟨vb,T,O⟩) f vc) (Y b m a) d.fS.next d.seq d.tx d.base->iK Tryz.prog 44 #[iP (X ⟨p,0,O⟩),I J (f:Int)] W λe w'=>∃k:Nat,e=G (I J (k:Int))/\k<f/\ah (Nx w w' g p ad c cap q (Y l d.fH.length i) (Y (X ⟨vb,T,O⟩) f vc) (Y b m a) d.fS.next d.seq d.tx d.base)):=λW H=>by
       refine(oG (f:Int) p ad c cap B W (by omega) R H.dr.2 (H.cd M.o u) u).mono ?_
       rintro e w' ⟨x,rfl,x0,x1,-,hS⟩;exact⟨x.toNat,by rw[Int.toNat_of_nonneg x0],by have:=x1 (by omega);omega,H.draw hS⟩
      have ao:ah (Nx w x3.drew g p ad c cap q (Y l d.fH.length i) (Y (X ⟨vb,T,O⟩) f vc) (Y b m a) d.fS.next d.seq d.tx d.base):=K.o.below (ax _ _).drew;go_upto_region 5 with fail
      go_region_held3 (λw'=>w'.cell? ⟨w.heap.size,1,O⟩=X (Y (X ⟨vb,T,O⟩) f vc)/\∀j:Nat,j<f->w'.cell? ⟨vb,T+j*2,O⟩=X (I J (d.fS.fV[j]?.getD (0,0)).1)) (first|exact KK.o _ _ ao.o|exact KK.o _ _ S4.o|exact KK.o _ _ NV.o) (first
       |(go_at_call 44;(with_reducible refine cn (CB.o _ ao.o) ?_);rintro en x4 ⟨k3,rfl,aD,S4⟩;have NV:=af (S4.o.set (S4.o.ask.set1 (d.fS.fV[k3]?.getD (0,0)).1));have kc:=S4.o.ask.cells.2.1;have kf:=S4.o.ask.frz 1;have kb:=(KK.o _ _ S4.o).2 k3 aD;have ki:(k3:Int)<f:=by omega))
      all_goals
       go_wp2_with fail;go_meet
       case rel=>exact⟨⟨q.kind,(d.fS.fV[k3]?.getD (0,0)).1,q.sector,q.of,q.text⟩,⟨t.o.1,av.o k3⟩,NV⟩
    ·have k4:(q.kind !=4)=iF:=by simpa using k4
     go_wp2_with fail;go_meet
     case rel=>exact⟨_,t,s⟩
   ·have k3:(q.kind !=3)=iF:=by simpa using k3
    go_wp2_with fail;go_meet
    case rel=>exact⟨_,t,s⟩
 case rest=>
  obtain⟨V,hV⟩:∃V,V=wc:=⟨_,rfl⟩;subst hV;clear s t q;obtain⟨q,t,s⟩:=hcut;go_upto_region 6 with fail
  go_cut [52] (λaI V=>∃(bb:Bool) (q:Ak),aI=iB bb/\ah (TQ q)/\ah (Nx w V g p ad c cap q (Y l d.fH.length i) (Y r f vc) (Y b m a) d.fS.next d.seq d.tx d.base))
  case first=>
   obtain⟨m0,m1,m2,m3,m4⟩:=s.o.ask.cells;by_cases k5:(q.kind==5)=iV
   ·go_wp2_with fail;refine(Hm 3 p ad c cap B V (by omega) R s.o.dr.2 (s.o.cd M.o u) u).mono ?_
    rintro e x3 ⟨C,rfl,U⟩;have K:=af (s.o.draw U);clear U;go_wp2_with fail;go_meet
    case rel=>exact⟨!C,q,rfl,t,K⟩
   ·have k5:(q.kind==5)=iF:=by simpa using k5
    go_wp2_with fail;go_meet
    case rel=>exact⟨iF,q,rfl,t,s⟩
  case rest=>
   obtain⟨bb,q2,ar,ag,N4⟩:=hcut;subst ar;obtain⟨V2,aw⟩:∃V2,V2=wc:=⟨_,rfl⟩;subst aw;clear s t;go_upto_if 52 with fail
   go_cut [] (λV=>∃q:Ak,ah (TQ q)/\ah (Nx w V g p ad c cap q (Y l d.fH.length i) (Y r f vc) (Y b m a) d.fS.next d.seq d.tx d.base))
   case first=>
    cases bb with
    |false=>
     go_wp2_with fail;go_meet
     case rel=>exact⟨q2,ag,N4⟩
    |true=>
     have NV:=af (N4.o.set (N4.o.ask.set0 1));have m0:=N4.o.ask.cells.1;have f0:=N4.o.ask.frz 0;go_wp2_with fail;go_meet
     case rel=>exact⟨⟨1,q2.vol,q2.sector,q2.of,q2.text⟩,ag,NV⟩
   case rest=>
    obtain⟨V3,aA⟩:∃V3,V3=wc:=⟨_,rfl⟩;subst aA;clear N4 ag q2 q;obtain⟨q,t,n⟩:=hcut;have m0:=n.o.ask.cells.1;go_upto_block 0 with fail
    clear m0;go_cut [] (λV=>∃q:Ak,ah (TQ q)/\ah (Nx w V g p ad c cap q (Y l d.fH.length i) (Y r f vc) (Y b m a) d.fS.next d.seq d.tx d.base))
    case first=>
     by_cases c1:(q.kind==1)=iV
     ·go_wp2_with fail;refine(Xd p ad c cap B V3 R n.o.dr.2 (n.o.cd M.o u) u).mono ?_;rintro e x3 ⟨tx,rfl,aF,U⟩;have K:=af (n.o.draw U);have N6:=af (K.o.set (K.o.ask.set4 tx));have m4:=K.o.ask.cells.2.2.2.2;have f4:=K.o.ask.frz 4;clear U n;go_upto_region 11 with fail
      clear m4 f4;generalize x3.setCell ⟨g,4,O⟩ (iT tx)=x4 at N6⊢;go_wp2_with fail;refine(oG 16 p ad c cap B x4 (by omega) R N6.o.dr.2 (N6.o.cd M.o u) u).mono ?_
      rintro e x9 ⟨F,rfl,z0,z1,-,d9⟩;have z2:=z1 (by omega)
      have z:=af (N6.o.draw d9);have A:=af (z.o.set (z.o.ask.set2 F));have m2:=z.o.ask.cells.2.2.1;have f2:=z.o.ask.frz 2;go_wp2_with fail;go_meet
      case rel=>exact⟨⟨q.kind,q.vol,F,q.of,tx⟩,⟨bZ.2 ⟨tx,aF.o,rfl⟩,t.o.2⟩,A⟩
     have c1:(q.kind==1)=iF:=by simpa using c1
     by_cases Q:(q.kind==2)=iV∨(q.kind==2)=iF/\(q.kind==6)=iV
     ·rcases Q with c2|⟨c2,c6⟩
      all_goals
       go_wp2_with fail;refine(oG 16 p ad c cap B V3 (by omega) R n.o.dr.2 (n.o.cd M.o u) u).mono ?_
       rintro e x9 ⟨F,rfl,z0,z1,-,d9⟩;have z2:=z1 (by omega)
       have z:=af (n.o.draw d9);have A:=af (z.o.set (z.o.ask.set2 F));have m2:=z.o.ask.cells.2.2.1;have f2:=z.o.ask.frz 2;go_wp2_with fail;go_meet
       case rel=>exact⟨⟨q.kind,q.vol,F,q.of,q.text⟩,t,A⟩
     have c2:(q.kind==2)=iF:=by
      cases h:(q.kind==2)with
      |true=>exact absurd (.inl h) Q
      |false=>rfl
     have c6:(q.kind==6)=iF:=by
      cases h:(q.kind==6)with
      |true=>exact absurd (.inr ⟨c2,h⟩) Q
      |false=>rfl
     clear Q;by_cases c4:(q.kind==4)=iV
     ·go_wp2_with fail;refine(oG 3 p ad c cap B V3 (by omega) R n.o.dr.2 (n.o.cd M.o u) u).mono ?_
      rintro e x9 ⟨F,rfl,z0,z1,-,d9⟩;have z2:=z1 (by omega)
      have z:=af (n.o.draw d9);have wz:IntKind.i64.wrap (1+F)=1+F:=by rw[cm];omega
      have A:=af (z.o.set (z.o.ask.set3 (1+F)));have m3:=z.o.ask.cells.2.2.2.1;have f3:=z.o.ask.frz 3;clear d9 n;go_upto_region 17 with fail
      clear m3 f3 z wz;generalize x9.setCell ⟨g,3,O⟩ (I J (1+F))=aK at A⊢;have yv:=A.o.dev.cells.2.1;by_cases E:(f:Int)>0
      ·obtain⟨vb,T,al,-,kb,-⟩:=(ai.o _ A.o.dr).at (ay (show 0<d.fS.fV.length by have:=N.o;omega))
       subst al;obtain⟨S,Z⟩:∃S,(d.fS.fV[0]'(by have:=N.o;omega)).1=S:=⟨_,rfl⟩
       rw[Z,nj,qT]at kb;have aG:(0:Int)<f:=E;have N8:=af (A.o.set (A.o.ask.set3 S));have m3:=A.o.ask.cells.2.2.2.1;have f3:=A.o.ask.frz 3;clear Z;go_wp2_with fail;go_meet
       case rel=>exact⟨⟨q.kind,q.vol,q.sector,S,q.text⟩,t,N8⟩
      ·go_wp2_with fail;go_meet
       case rel=>exact⟨⟨q.kind,q.vol,q.sector,1+F,q.text⟩,t,A⟩
     have c4:(q.kind==4)=iF:=by simpa using c4
     go_wp2_with fail;go_meet
     case rel=>exact⟨_,t,n⟩
    case rest=>
     obtain⟨V4,aC⟩:∃V4,V4=wc:=⟨_,rfl⟩;subst aC;clear n t;obtain⟨q2,t,n⟩:=hcut;obtain⟨m0,m1,m2,m3,m4⟩:=n.o.ask.cells;obtain⟨j0,j1,j2,j3,j4⟩:=n.o.zer.cells;have r0:=n.o.zer.frz 0;have r1:=n.o.zer.frz 1;have r2:=n.o.zer.frz 2;have r3:=n.o.zer.frz 3;have r4:=n.o.zer.frz 4;have FE:=af (n.o.fin);unfold t8 at FE;clear n;go_wp2;refine az (Vb (p:=4) rfl _ _ (w.heap.size+1) _ rfl FE.o.1) rfl ?_;exact⟨_,rfl,t.o,FE.o.2⟩
open Pack
variable{L:List aM}
theorem ab3(h:cL T n d)(I:ez d (iu d.fS) aQ=(L,iV)):cL T n (fY d L):=by
 have H:iu d.fS≠ []:=by unfold iu;simp
 obtain⟨cs,D,J,C,h1,E,-,h4,q,w,y,F,-,-,g⟩:=GN h.up H I;have l:d.tx=gy (au d.fH):=congrArg Dv.tx h.up.is;have r:D=[]:=by
  rcases F with⟨-,e⟩|⟨e,-⟩
  ·exact e
  ·exact absurd rfl e
 subst r;have G:C.base=iV:=by
  unfold TxR.base;rw[y];rfl
 obtain⟨m,m1,m2,A,B⟩:=Va h.st DP;have a:(jU cs).fS=m:=by
  show fx (cO (au cs))=_;rw[g,G];simp only[dF];show(jy ik C.fR).1=m;unfold jy;rw[y,m1]
 have t:∀c,bH (au cs) c=bH (au d.fH) c:=λc=>by
  rw[h4,dS,qO,Lb (λx b=>(q x b).1)]
  rfl
 have o:∀c,bn (au cs) c=bn (au d.fH) c:=λc=>by unfold bn;rw[t]
 have f:aY m=aY d.fS:=YB A;rw[h1];have u:∀v∈m.fV,v.1<=3:=Eh h.vi (λp z=>by rw[A]at z;exact Gw z)
 refine⟨⟨E,rfl⟩,by rw[a];exact m2,?_,?_,?_,?_,?_,?_,by rw[a];exact u⟩
 ·show jD (au cs);rw[h4];exact LV h.hd (λx b k=>by rw[w,l];exact AF _ x b k) (λx b=>by cases b) (λx b=>by rw[w];exact q x b) (by rw[<-h4];exact g)
 ·intro c i;rw[a,f]at i;show∃x∈au cs,_;rw[h4];exact Ad _ _ (h.lv c i)
 ·intro x b k;change x∈au cs at b;rw[h4,dS]at b;rcases bJ.1 b with b|b
  ·exact h.tx x b k
  ·have:=(q x b).1;omega
 ·intro c i c' j s;rw[a,f]at i j;change bn (au cs) c=bn (au cs) c' at s;rw[o,o]at s;exact h.df c i c' j s
 ·intro x b k;change x∈au cs at b;rw[a,B];rw[h4,dS]at b;rcases bJ.1 b with b|b
  ·exact h.dn x b k
  ·have:=(q x b).1;omega
 ·rw[a,B];exact h.nx
theorem MM(b:Int):∀{L:List TxR},(L.map (·.num)).Pairwise (·<·)->L=L.filter (λt=> !decide (b<=t.num))++L.filter (λt=>decide (b<=t.num))
 | [],_=>rfl
 |t::L,h=>by
  rw[cB,gx]at h;have c:=MM b h.2;rw[kC,kC];by_cases d:b<=t.num
  ·have a:L.filter (λt=> !decide (b<=t.num))=[]:=by
    rw[mI];intro u e;have:=h.1 u.num (oP e);simp;omega
   rw[a]at c;simp only[d,rK,Bool.not_true,ge,fQ,dF,a,jT]at c⊢;rw[<-c]
  ·simp only[d,oQ,Bool.not_false,dF,ge,fQ,ii];rw[<-c]
variable{M:List an}
theorem VG{t:TxR}{L:List TxR}(h:cO M=t::L):(dM (M.map an.fP)).filter (λu=>decide (t.num<=u.num))=t::L:=by
 obtain⟨A,c⟩:=GH (dM (M.map an.fP));change dM (M.map an.fP)=A++cO M at c;have b:=KU (M.map an.fP);rw[c,h]at b⊢;rw[gV,cB,iE,gx]at b;rw[jF,mI.2 (λu a=>?_),jT,List.filter_eq_self.2 (λu a=>?_)]
 ·rcases be.1 a with rfl|a
  ·simp
  ·have:=b.2.1.1 u.num (oP a);simp;omega
 ·have:=b.2.2 u.num (oP a) t.num (by simp)
  simp;omega
theorem YD{p:an->Bool}(f:jD M)(h:∀x∈M,p x=iF->x.fP.kind=2->x.fP.tx<mx (cO M)):cO (M.filter p)=cO M/\jD (M.filter p):=by
 have b:∀x∈M.filter p,x∈M:=λx c=>(gQ.1 c).1
 cases g:cO M with
 |nil=>
  unfold jD at f;rw[g]at f;simp only at f;have k:dM ((M.filter p).map an.fP)=[]:=by
   cases k:dM ((M.filter p).map an.fP)with
   |nil=>rfl
   |cons u L=>
    obtain⟨q,l,i,-⟩:=DM (ps:=(M.filter p).map an.fP) (t:=u) (by rw[k];simp)
    obtain⟨x,c,rfl⟩:=bZ.1 l;exact absurd i (f x (b x c))
  have e:cO (M.filter p)=[]:=by unfold cO;rw[k];rfl
  refine⟨e,?_⟩;unfold jD;rw[e];exact λx c=>f x (b x c)
 |cons t L=>
  have m:mx (cO M)=t.num:=by rw[g];rfl
  rw[m]at h;have hcut:(dM ((M.filter p).map an.fP)).filter (λu=>decide (t.num<=u.num))=t::L:=by
   rw[<-VG g];refine Ws t.num (λx c=>?_)
   rw[List.filter_map,List.filter_map,vS];congr 1;apply List.filter_congr;intro y hy;cases n:p y with
   |true=>simp
   |false=>
    simp only[vW,Function.comp_apply]
    symm
    cases hi:lE x y.fP with
    |false=>rfl
    |true=>
     simp only[lE,bM]at hi;have:=h y hy n hi.1;omega
  have d:=MM t.num (KU ((M.filter p).map an.fP));rw[hcut]at d;have a:=f;unfold jD at a;rw[g]at a;simp only at a;have e:cO (M.filter p)=t::L:=by
   unfold cO;rw[d];refine ZM ?_ ?_ (by simp)
   ·have:=aag (dM (M.map an.fP));change∀u∈(cO M).tail,u.base=iF at this;rw[g]at this;exact this
   ·intro u j;simp only[List.head?_cons,fq]at j;subst j;rcases a with a|a
    ·exact .inl a
    ·right;rw[mI];intro u j;obtain⟨q,l,i,o⟩:=DM j;obtain⟨x,c,rfl⟩:=bZ.1 l;have:=a x (b x c) i;simp;omega
  refine⟨e,?_⟩;unfold jD;rw[e];rcases a with a|a
  ·exact .inl a
  ·exact .inr (λx c i=>a x (b x c) i)
theorem Qo{l:List α}{p:α->Bool}{x:α}(h:l.getLast?=X x)(a:p x=iV):(l.filter p).getLast?=X x:=by
 obtain⟨m,e⟩:=BL.1 h;rw[e,jF,nZ a];simp
variable{x:an}
theorem aaa{p:an->Bool}(h:bH M c=X x)(b:p x=iV):bH (M.filter p) c=X x:=by
 unfold bH at h⊢;rw[vS,show(λa=>di c a&&p a)=(λa=>p a&&di c a)from funext λa=>uD _ _,<-vS]
 exact Qo h b
variable{cs:List Bk}
theorem Qw {p:an->Bool} (h:cL T n d) (o:bp cs=iV) (hs:au cs=(au d.fH).filter p) (v:∀x∈au d.fH,p x=iF->x.fP.kind=2->x.fP.tx<d.base)
 (u:∀c∈aY d.fS,∀x,bH (au d.fH) c=X x->p x=iV):cL T n (jU cs)/\(jU cs).fS=d.fS:=by
 have g:d.base=mx (cO (au d.fH)):=congrArg Dv.base h.up.is;have q:d.fS=fx (cO (au d.fH)):=congrArg Dv.fS h.up.is;obtain⟨r,s⟩:=YD h.hd (p:=p) (by rw[<-g];exact v)
 rw[<-hs]at r s;have a:(jU cs).fS=d.fS:=by
  show fx (cO (au cs))=_;rw[r,<-q]
 have f:∀x∈au cs,x∈au d.fH:=λx e=>by rw[hs]at e;exact(gQ.1 e).1
 have j:∀c∈aY d.fS,bH (au cs) c=bH (au d.fH) c:=λc b=>by
  obtain⟨x,t,e,-,-⟩:=h.has b;rw[hs,e];exact aaa e (u c b x e)
 have k:∀c∈aY d.fS,bn (au cs) c=bn (au d.fH) c:=λc b=>by unfold bn;rw[j c b]
 refine⟨⟨⟨o,rfl⟩,by rw[a];exact h.st,s,?_,λx e m=>h.tx x (f x e) m,?_,?_,(by rw[a];exact h.nx),by rw[a];exact h.vi⟩,a⟩
 ·intro c b;rw[a]at b;obtain⟨x,t,e,-,-⟩:=h.has b;have:=j c b;rw[e]at this;exact⟨x,(qe this).1,(qe this).2⟩
 ·intro c b c' i l;rw[a]at b i;change bn (au cs) c=bn (au cs) c' at l;rw[k c b,k c' i]at l;exact h.df c b c' i l
 ·intro x e m;rw[a];exact h.dn x (f x e) m
def qJ(b:Bk):Bool:=b.2.2.all (λt=>t.1==0)
def oK(d:Dv):List Int:=(List.range d.fH.length).filterMap λ(b:Nat)=>match d.fH[b]? with
 |none=>O
 |some x=>if !x.1&& !qJ x&&decide (nU (au d.fH) (aY d.fS) d.base (b:Int)=0)then X (b:Int)else O
theorem aaY{b:Int}(h:b∈oK d):∃(k:Nat) (x:Bk),b=k/\d.fH[k]?=X x/\x.1=iF/\nU (au d.fH) (aY d.fS) d.base b=0:=by
 obtain⟨k,-,e⟩:=tU.1 h;cases a:d.fH[k]? with
 |none=>rw[a]at e;cases e
 |some x=>
  rw[a]at e;simp only at e;split at e
  ·rename_i hc
   injection e with e
   simp only[bu,nA,bM]at hc;subst e;exact⟨k,x,rfl,a,hc.1.1,hc.2⟩
  ·cases e
theorem Oy{b:Int}(h:cL T n d)(z:b∈oK d):cL T n (fY d [(2,b,0,aQ)]):=by
 obtain⟨k,x,rfl,e,v,l⟩:=aaY z;unfold fY;rw[IF];by_cases a:(cV d.fH (2,(k:Int),0,aQ)).2=iV
 ·rw[ak a];have m:cV d.fH (2,(k:Int),0,aQ)=gL d.fH (k:Int):=by unfold cV;simp
  rw[m]at a⊢;have B:gL d.fH (k:Int)=(d.fH.modify k (λr=>(iF,r.2.1+1,eZ)),iV):=by
   unfold gL at a⊢;split at a
   ·rename_i f
    rw[ak f,bi]
   ·cases a
  have s:x.2.1+1<=1000000000/\0<=x.2.1:=by
   have h1:=(ym ((xU h.up.ok).2 x (aL e))).2.1;unfold gL at a;split at a
   ·rename_i f
    rw[bu]at f;have o:=f.2;unfold qZ at o;rw[bi,e]at o;simp only[bM]at o;omega
   ·cases a
  rw[B];simp only;have g:bp (d.fH.modify k (λr=>(iF,r.2.1+1,eZ)))=iV:=by
   refine Ma h.up.ok (λq w=>?_)
   rw[e]at w;cases w;exact Lx _ _ (by omega)
  unfold fw;rw[ak g];have p:=Ph e (vR h.up.ok x (aL e));refine(Qw h g p ?_ ?_).1
  ·intro y hy j A;simp only[Bool.not_eq_false',bM]at j;have i:rP (au d.fH) (aY d.fS) d.base y=iF:=by
    rw[MG _ _ _ (IJ _) (λx e=>IK e)]at l
    have:=iJ l;rw[mI]at this;have:=this y hy
    simpa[j]using this
   unfold rP at i;rw[ak A]at i;simp at i;exact i
  ·intro c f y hy;obtain⟨t,u⟩:=qe hy;obtain⟨D,C⟩:=xN u;simp only[nA,rA];intro j;rw[MG _ _ _ (IJ _) (λx e=>IK e)]at l
   have:=iJ l;rw[mI]at this;have:=this y t;unfold rP at this;rw[ai (by omega),C,hy]at this
   simp[j,IV,f]at this
 ·rw[ai a];unfold fw;rw[ak h.up.ok];have:=h.up.is;simp only;rw[<-this];exact h
theorem NH(x:Bool)(y:Int)(v:iX)(ls:List (Int×ByteArray))(w:iW)(T:ls.length<=1048576)(A:ju w v ls):
 iK Tryz.prog 210 #[iA #[iB x,I J y,v]] w λe w'=>e=G (iB (qJ (x,y,ls)))/\iL w.heap.size w w':=by
 have B:=A;obtain⟨ad,a,rfl,-,-⟩:=B;have m:=af ((ax w.heap.size w).alloc (am _) (iC #[iB x,I J y,Y ad ls.length a] 81));have q:=af (A.below m.o);have s:ah (qJ (x,y,ls)=ls.all (λt=>t.1==0)):=rfl
 obtain⟨R,M⟩:=aq (qJ (x,y,ls));rw[M]at s⊢;clear A M;go_enter Tryz.func210,Tryz.ntmps210;go_wp2;have b:=aj _ _ 2 _ _ _ (aB w (iC #[iB x,I J y,Y ad ls.length a] 81));have d:ah ((w.alloc (iC #[iB x,I J y,Y ad ls.length a] 81)).cell? ⟨w.heap.size,2,O⟩=X (Y ad ls.length a)):=b;have f:=af (show(w.alloc (iC #[iB x,I J y,Y ad ls.length a] 81)).heap.size=w.heap.size+1 by simp)
 clear b;generalize w.alloc (iC #[iB x,I J y,Y ad ls.length a] 81)=K at m q d f⊢;go_loopw [3] (λH wr=>∃k:Nat,k<=ls.length/\H=I J k/\ah (∀(j:Nat) (u:Int×ByteArray),j<k->ls[j]?=X u->u.1=0)/\ah (iL K.heap.size K wr)) (λH _=>ls.length-(intOf H).toNat)
 case atStart=>exact⟨0,aJ _,rfl,(show∀(j:Nat) (u:Int×ByteArray),j<0->ls[j]?=X u->u.1=0 from λj u p=>by omega),ax _ _⟩
 case round=>
  obtain⟨k,S,rfl,L,n⟩:=hrel;have b:wr.cell? ⟨w.heap.size,2,O⟩=X (Y ad ls.length a):=(n.o.cell (show w.heap.size<K.heap.size by have:=f.o;omega)).trans d.o
  have c:=af (m.o.trans (n.o.mono m.o.size));by_cases Q:(k:Int)<ls.length
  ·obtain⟨g,lo,P⟩:=q.o.head (by omega)
   subst P;have D:k<ls.length:=by omega
   obtain⟨z,t,E⟩:∃z t,ls[k]?=X (z,t):=⟨ls[k].1,ls[k].2,ay D⟩;obtain⟨c1,-⟩:=(q.o.below n.o).two E;simp only at c1;have h:=af E;have U:(0:Int)<=k:=by omega
   clear E;by_cases l:z=0
   ·have F:(z !=0)=iF:=by simp[l]
    have N:=af l;clear l;go_wp2;go_roundw
    case rel=>
     refine⟨k+1,by omega,by go_num,af (λj u p i=>?_),n⟩
     by_cases C:j=k
     ·subst C;rw[h.o]at i;cases i;exact N.o
     ·exact L.o j u (by omega) i
    case measure=>simp[intOf];omega
   ·have F:(z !=0)=iV:=by simpa using l
    have r:ah (R=iF):=by
     show _=_;rw[s.o,sY];exact⟨_,aL h.o,by simpa using l⟩
    go_wp2;go_ret;exact⟨by rw[r.o];rfl,c.o⟩
  ·have r:ah (R=iV):=by
    show _=_;rw[s.o,gY];intro u i;obtain⟨j,p⟩:=iG i;have:=L.o j u (by have:=(aC.1 p).1;omega) p
    simp[this]
   go_wp2;go_ret;exact⟨by rw[r.o];rfl,c.o⟩
def jo(x:an):iX:=iA #[I J x.block,I J x.leaf,I J x.fP.kind,I J x.fP.seq,I J x.fP.tx,I J x.fP.part,I J x.fP.count,iT x.fP.text]
def jE(x:an):List iX:=[I J x.block,I J x.leaf,I J x.fP.kind,I J x.fP.seq,I J x.fP.tx,I J x.fP.part,I J x.fP.count,iT x.fP.text]
theorem GJ:(Tryz.prog.info? 53).map (λi=>(i.zero,i.size,i.bytes))=X (X (iA #[I J 0,I J 0,I J 0,I J 0,I J 0,I J 0,I J 0,iT ⟨#[]⟩]),8,72):=by kernel_rfl
def mT(l:List an):List iX:=l.flatMap jE
theorem FV(l:List an)(x:an):mT l++jE x=mT (l++[x]):=by simp[mT]
theorem JG(x:an):∀u∈jE x,u.oneCell'=iV:=by
 intro u a;simp[jE]at a;rcases a with h|h|h|h|h|h|h|h<;>subst h<;>rfl
theorem aaQ:∀(l:List an) (i:Nat) (x:an),l[i]?=X x->∀j v,(jE x)[j]?=X v->(mT l)[i*8+j]?=X v:=by
 intro l
 induction l with
 |nil=>intro i x h;simp at h
 |cons y l b=>
  intro i x h j v a;have c:j<8:=(aC.1 a).1;have e:mT (y::l)=jE y++mT l:=by simp[mT]
  rw[e];cases i with
  |zero=>
   simp at h;subst h;rw[ip (by show 0*8+j<8;omega)]
   simpa using a
  |succ i=>
   rw[oE]at h;rw[cu (by show 8<=(i+1)*8+j;omega)]
   have:(i+1)*8+j-(jE y).length=i*8+j:=by show(i+1)*8+j-8=_;omega
   rw[this];exact b i x h j v a
def jm(w:iW)(a:Option Addr)(c:Nat)(ls:List an):Prop:=
 ls.length=c/\c<=maxLen/\(0<c->∃b d,a=X ⟨b,d,O⟩/\b<w.heap.size/\∀i t,ls[i]?=X t->∀j v,(jE t)[j]?=X v->w.cell? ⟨b,d+(i*8+j),O⟩=X v)
theorem jm.below{w w':iW}{a:Option Addr}{c:Nat}{ls:List an}(h:jm w a c ls)(f:iL w.heap.size w w'):jm w' a c ls:=by
 obtain⟨h1,g,h4⟩:=h;refine⟨h1,g,λh0=>?_⟩
 obtain⟨b,d,e,l,k⟩:=h4 h0;have hs:=f.size;exact⟨b,d,e,by omega,λi t m j v n=>(f.cell (show b<w.heap.size from l)).trans (k i t m j v n)⟩
theorem jm.at{w:iW}{a:Option Addr}{f:Nat}{ls:List an}(h:jm w a f ls){t:an}(g:ls[k]?=X t):
 ∃b c,a=X ⟨b,c,O⟩/\b<w.heap.size/\w.cell? ⟨b,c+k*8,O⟩=X (I J t.block)/\w.cell? ⟨b,c+k*8+1,O⟩=X (I J t.leaf)/\
  w.cell? ⟨b,c+k*8+2,O⟩=X (I J t.fP.kind)/\w.cell? ⟨b,c+k*8+2+1,O⟩=X (I J t.fP.seq)/\w.cell? ⟨b,c+k*8+2+2,O⟩=X (I J t.fP.tx)/\
  w.cell? ⟨b,c+k*8+2+3,O⟩=X (I J t.fP.part)/\w.cell? ⟨b,c+k*8+2+4,O⟩=X (I J t.fP.count)/\w.cell? ⟨b,c+k*8+2+5,O⟩=X (iT t.fP.text):=by
 obtain⟨h1,-,h4⟩:=h;have j:=(aC.1 g).1;obtain⟨b,c,e,i,d⟩:=h4 (by omega)
 have d:=d k t g;refine⟨b,c,e,i,d 0 _ rfl,?_,?_,?_,?_,?_,?_,?_⟩
 ·have:=d 1 _ rfl;rwa [<-mf]at this
 ·have:=d 2 _ rfl;rwa [<-mf]at this
 ·have:=d 3 _ rfl;rwa [<-mf]at this
 ·have:=d 4 _ rfl;rwa [<-mf]at this
 ·have:=d 5 _ rfl;rwa [<-mf]at this
 ·have:=d 6 _ rfl;rwa [<-mf]at this
 ·have:=d 7 _ rfl;rwa [<-mf]at this
variable{bs:List Bk}
theorem Ib{b leaf:Int}(h:¬(0<=b/\b<=(bs.length:Int)-1)):du bs b leaf=(⟨#[]⟩,iF):=by
 unfold du;cases a:bs[b.toNat]? with
 |none=>rfl
 |some r=>
  have:=(aC.1 a).1;simp only;cases d:r.2.2[leaf.toNat]? with
  |none=>rfl
  |some t=>exact ai (λc=>h ⟨c.1,by omega⟩)
theorem Kl{r:Bk}{leaf:Int}(c:bs[k]?=X r)(h:¬(0<=leaf/\leaf<=(r.2.2.length:Int)-1)):du bs (k:Int) leaf=(⟨#[]⟩,iF):=by
 unfold du;rw[bi,c];simp only;cases b:r.2.2[leaf.toNat]? with
 |none=>rfl
 |some t=>
  have:=(aC.1 b).1;exact ai (λa=>h ⟨a.2.1,by omega⟩)
theorem Ly{r:Bk}{t:Int×ByteArray}(b:bs[k]?=X r)(c:r.2.2[j]?=X t):(t.1=1->du bs (k:Int) (j:Int)=(t.2,iV))/\(t.1≠1->du bs (k:Int) (j:Int)=(⟨#[]⟩,iF)):=by
 unfold du;rw[bi,b];simp only;rw[bi,c];exact⟨λh=>ak ⟨by omega,by omega,h⟩,λh=>ai (λa=>h a.2.2)⟩
theorem Rq(v:iX)(rs:List Rw)(b leaf:Int)(w:iW)(W:rs.length<=1048576)(F:∀r∈rs,r.2.2.2.length<=1048576)(f:mW rs)(S:eB w v rs):
 iK Tryz.prog 107 #[iA #[v],I J b,I J leaf] w λe w'=>e=G (iU #[iT (du (rs.map aw) b leaf).1,iB (du (rs.map aw) b leaf).2])/\iL w.heap.size w w':=by
 have h1:=S;obtain⟨T,a,rfl,-⟩:=h1;have Q:=af F;have R:=af f;have c:=af ((ax w.heap.size w).alloc (am _) (iC #[Y T rs.length a] 26));have N:=af (S.below c.o);clear S F f;go_enter Tryz.func107,Tryz.ntmps107;go_wp2_with fail;generalize w.alloc (iC #[Y T rs.length a] 26)=w2 at c N⊢;by_cases K:0<=b/\b<=(rs.length:Int)-1
 ·obtain⟨k,rfl⟩:∃k:Nat,b=k:=⟨b.toNat,by omega⟩
  have D:k<rs.length:=by omega
  have q:rs[k]?=X rs[k]:=ay D;generalize rs[k]=r at q;obtain⟨g,m,-,-⟩:=N.o.at q;subst m;refine(ZN g rs.length a k _ W D).mono ?_;rintro e w3 ⟨rfl,p⟩;have O:=af (N.o.below p);have d:=af (c.o.trans (p.mono c.o.size));have h:=aL q;have n:=Q.o r h;have f:=R.o r h;obtain⟨g',m,⟨-,-,c3⟩,E⟩:=O.o.at q;injection m with m
  injection m with m
  subst m;have A:ah ((rs.map aw)[k]?=X (aw r)):=by show _=_;rw[bh,q];rfl
  obtain⟨x,y,u,ls⟩:=r;simp only at c3;simp only at E n f;obtain⟨ld,i,rfl,-,Z⟩:=E;have L3:=af Z;have B:=af f;clear q h Z K p f;by_cases L:0<=leaf/\leaf<=(ls.length:Int)-1
  ·obtain⟨j,rfl⟩:∃j:Nat,leaf=j:=⟨leaf.toNat,by omega⟩
   have C:j<ls.length:=by omega
   obtain⟨z,t,M⟩:∃z t,ls[j]?=X (z,t):=⟨ls[j].1,ls[j].2,ay C⟩;obtain⟨gl,lo,el,d1,d2⟩:=L3.o j (z,t) M;subst el;simp only at d1 d2;have H:=B.o _ (aL M);simp only at H;have U:=af (Ly (t:=(z,t)) A.o M);clear M L;go_wp2_with fail;refine(aaZ g (k*3) gl lo ls.length i j _ n C c3).mono ?_;rintro e w4 ⟨rfl,rfl⟩;by_cases s:z=1
   ·have l:ah (du (rs.map aw) (k:Int) (j:Int)=(t,iV)):=U.o.1 s;have e1:(z !=1)=iF:=by simp[s]
    clear s;go_wp2_with fail;refine(ZC t _ H).mono ?_;rintro e w5 ⟨rfl,V⟩;have P:=af (d.o.trans (V.mono d.o.size));clear V;go_wp2;go_ret2;exact⟨by rw[l.o];rfl,P.o⟩
   ·have l:ah (du (rs.map aw) (k:Int) (j:Int)=(⟨#[]⟩,iF)):=U.o.2 s;have e1:(z !=1)=iV:=by simp[s]
    clear s;go_wp2;go_ret2;exact⟨by rw[l.o];rfl,d.o⟩
  ·have l:ah (du (rs.map aw) (k:Int) leaf=(⟨#[]⟩,iF)):=Kl A.o L;go_wp2_with fail;refine(VD g (k*3) ls.length i ld leaf _ n L c3).mono ?_;rintro e w4 ⟨rfl,rfl⟩;clear L;go_wp2;go_ret2;exact⟨by rw[l.o];rfl,d.o⟩
 ·have l:ah (du (rs.map aw) b leaf=(⟨#[]⟩,iF)):=Ib (by rw[bm];exact K)
  refine(aaX T rs.length a b _ W K).mono ?_;rintro e w3 ⟨rfl,p⟩;have d:=af (c.o.trans (p.mono c.o.size));clear K p;go_wp2;go_ret2;exact⟨by rw[l.o];rfl,d.o⟩
def dJ(p:Pg):iX:=iA #[I J p.kind,I J p.seq,I J p.tx,I J p.part,I J p.count,iT p.text]
def vN(k q c:Int):Prop:=k=1/\c=1/\q=0∨k=2/\1<=c/\c<=9/\0<=q/\q<c
def o9(k q c:Int):Bool:=decide (k=1/\c=1/\q=0∨k=2/\1<=c/\c<=9/\0<=q/\q<c)
theorem abN{k q:Int}(h:vN k q c):o9 k q c=iV:=n8 h
theorem Nq{k q:Int}(h:¬vN k q c):o9 k q c=iF:=eM h
theorem GG(k s x q c:Int)(t:ByteArray)(w:iW):
 iK Tryz.prog 236 #[iA #[I J k,I J s,I J x,I J q,I J c,iT t]] w λe w'=>e=G (iB (o9 k q c))/\iL w.heap.size w w':=by
 have f:=af ((ax w.heap.size w).alloc (am _) (iC #[I J k,I J s,I J x,I J q,I J c,iT t] 44));by_cases h1:k=1
 ·subst h1;have d:ah (o9 1 q c=(decide (c=1)&&decide (q=0))):=by
   show _=_;by_cases a:c=1<;>by_cases b:q=0<;>simp[o9,a,b]
  by_cases a:(c==1)=iV
  ·go_enter Tryz.func236,Tryz.ntmps236;go_wp2;go_ret;exact⟨by rw[d.o];simp at a;by_cases b:q=0<;>simp[a,b],f.o⟩
  ·have a:(c==1)=iF:=by simpa using a
   go_enter Tryz.func236,Tryz.ntmps236;go_wp2;go_ret;exact⟨by rw[d.o];simp at a;by_cases b:q=0<;>simp[a,b],f.o⟩
 ·have h:(k==1)=iF:=by simpa using h1
  by_cases g:k=2
  ·subst g;have d:ah (o9 2 q c=decide (1<=c/\c<=9/\0<=q/\q<c)):=by
    show _=_;simp[o9]
   clear h1 h;by_cases i:1<=c
   ·by_cases j:c<=9
    ·by_cases l:0<=q
     ·go_enter Tryz.func236,Tryz.ntmps236;go_wp2;go_ret;exact⟨by rw[d.o];simp[i,j,l],f.o⟩
     ·go_enter Tryz.func236,Tryz.ntmps236;go_wp2;go_ret;exact⟨by rw[d.o];simp;omega,f.o⟩
    ·go_enter Tryz.func236,Tryz.ntmps236;go_wp2;go_ret;exact⟨by rw[d.o];simp;omega,f.o⟩
   ·go_enter Tryz.func236,Tryz.ntmps236;go_wp2;go_ret;exact⟨by rw[d.o];simp;omega,f.o⟩
  ·have m:(k==2)=iF:=by simpa using g
   have d:ah (o9 k q c=iF):=by
    show _=_;simp[o9,h1,g]
   clear h1 g;go_enter Tryz.func236,Tryz.ntmps236;go_wp2;go_ret;exact⟨by rw[d.o];rfl,f.o⟩
theorem Og(k s x q c:Int)(t:ByteArray):(Pg.mk k s x q c t).Right↔(1<=s/\s<=1000000000/\1<=x/\x<=1000000000)/\vN k q c/\(t.size:Int)<=90:=by
 unfold Pg.Right vN;simp only;constructor
 ·rintro⟨h,h1,a,b,h4,d⟩;exact⟨⟨h1,a,b,h4⟩,h,d⟩
 ·rintro⟨⟨h1,a,b,h4⟩,h,d⟩;exact⟨h,h1,a,b,h4,d⟩
theorem aas(p:Pg)(w:iW):
 iK Tryz.prog 222 #[dJ p] w λe w'=>e=G (iB (@decide p.Right p.decR))/\iL w.heap.size w w':=by
 obtain⟨k,s,x,q,c,t⟩:=p;have b:=af (Og k s x q c t);have a:=af ((ax w.heap.size w).alloc (am _) (iC #[I J k,I J s,I J x,I J q,I J c,iT t] 44));unfold dJ;simp only;by_cases n:s<1
 ·go_enter Tryz.func222,Tryz.ntmps222;go_wp2;go_ret;exact⟨by rw[eM (λh=>by have:=(b.o.1 h).1;omega)];rfl,a.o⟩
 by_cases r:1000000000<s
 ·go_enter Tryz.func222,Tryz.ntmps222;go_wp2;go_ret;exact⟨by rw[eM (λh=>by have:=(b.o.1 h).1;omega)];rfl,a.o⟩
 by_cases u:x<1
 ·go_enter Tryz.func222,Tryz.ntmps222;go_wp2;go_ret;exact⟨by rw[eM (λh=>by have:=(b.o.1 h).1;omega)];rfl,a.o⟩
 by_cases v:1000000000<x
 ·go_enter Tryz.func222,Tryz.ntmps222;go_wp2;go_ret;exact⟨by rw[eM (λh=>by have:=(b.o.1 h).1;omega)];rfl,a.o⟩
 by_cases d:vN k q c
 ·go_enter Tryz.func222,Tryz.ntmps222;go_wp2_with fail;refine(GG k s x q c t _).mono ?_;rintro e l ⟨rfl,f⟩;rw[abN d];have g:=af d;clear d;have hs:=a.o.size;have j:∀i,i<6->l.cell? ⟨w.heap.size,i,O⟩=(w.alloc (iC #[I J k,I J s,I J x,I J q,I J c,iT t] 44)).cell? ⟨w.heap.size,i,O⟩:=λi _=>f.cell (by simp)
  have m:=j 5 (by omega)
  simp at m;clear j;go_wp2;go_ret;have e: @decide (Pg.mk k s x q c t).Right (Pg.mk k s x q c t).decR=decide ((t.size:Int)<=90):=Fi (b.o.trans ⟨λh=>h.2.2,λh=>⟨by omega,g.o,h⟩⟩)
  exact⟨by rw[e];rfl,a.o.trans (f.mono hs)⟩
 ·go_enter Tryz.func222,Tryz.ntmps222;go_wp2_with fail;refine(GG k s x q c t _).mono ?_;rintro e l ⟨rfl,f⟩;rw[Nq d];have g:=af d;clear d;have hs:=a.o.size;go_wp2;go_ret;exact⟨by rw[eM (λh=>g.o (b.o.1 h).2.1)];rfl,a.o.trans (f.mono hs)⟩
def fU(w:iW)(g:Nat)(t:ByteArray)(i:Int):Prop:=g<w.heap.size/\w.cell? ⟨g,0,O⟩=X (iT t)/\w.cell? ⟨g,1,O⟩=X (I J i)/\w.frozen? ⟨g,0,O⟩=iF/\w.frozen? ⟨g,1,O⟩=iF
def kV(w w':iW)(g:Nat)(t:ByteArray)(i:Int):Prop:=aR w w' (·≠g)/\fU w' g t i
theorem fU.below{w w':iW}{i:Int}(h:fU w g t i)(a:iL w.heap.size w w'):fU w' g t i:=by
 obtain⟨h1,b,c,h4,d⟩:=h;have e:∀j,w'.cell? ⟨g,j,O⟩=w.cell? ⟨g,j,O⟩:=λj=>a.cell (show g<w.heap.size from h1)
 have f:∀j,w'.frozen? ⟨g,j,O⟩=w.frozen? ⟨g,j,O⟩:=λj=>a.frozen (show g<w.heap.size from h1)
 exact⟨eW h1 a.size,by rw[e];exact b,by rw[e];exact c,by rw[f];exact h4,by rw[f];exact d⟩
theorem fU.both{w:iW}{i:Int}(h:fU w g t i):fU ((w.setCell ⟨g,0,O⟩ (iT t')).setCell ⟨g,1,O⟩ (I J i')) g t' i':=by
 obtain⟨h1,b,c,h4,d⟩:=h;have o:∀(w:iW) (i j:Nat) (u:iX),i≠j->(w.setCell ⟨g,i,O⟩ u).cell? ⟨g,j,O⟩=w.cell? ⟨g,j,O⟩:=λw i j u a=>iN _ _ _ _ (λe=>a (by injection e))
 refine⟨by simpa using h1,?_,?_,by simpa using h4,by simpa using d⟩
 ·rw[o _ 1 0 _ (by omega)]
  exact qX _ _ _ b
 ·exact qX _ _ _ ((o w 0 1 (iT t') (by omega)).trans c)
theorem fU.at_{w:iW}{i:Int}(h:fU w g t i):fU (w.setCell ⟨g,1,O⟩ (I J i')) g t i':=by
 obtain⟨h1,b,c,h4,d⟩:=h;have o:∀(w:iW) (i j:Nat) (u:iX),i≠j->(w.setCell ⟨g,i,O⟩ u).cell? ⟨g,j,O⟩=w.cell? ⟨g,j,O⟩:=λw i j u a=>iN _ _ _ _ (λe=>a (by injection e))
 refine⟨by simpa using h1,?_,?_,by simpa using h4,by simpa using d⟩
 ·rw[o _ 1 0 _ (by omega)]
  exact b
 ·exact qX _ _ _ c
theorem Et(w:iW)(g j:Nat)(v:iX):aR w (w.setCell ⟨g,j,O⟩ v) (·≠g):=by
 refine⟨rfl,rfl,rfl,by simp,λi _ a=>?_⟩
 exact aO _ _ _ _ a
theorem kV.both{w w':iW}{i:Int}(h:fU w g t i)(a:iL w.heap.size w w'):kV w ((w'.setCell ⟨g,0,O⟩ (iT t')).setCell ⟨g,1,O⟩ (I J i')) g t' i':=
 ⟨((aR.below a).trans (Et _ _ _ _)).trans (Et _ _ _ _),(h.below a).both⟩
theorem kV.at_{w w':iW}{i:Int}(h:fU w g t i)(a:iL w.heap.size w w'):kV w (w'.setCell ⟨g,1,O⟩ (I J i')) g t i':=
 ⟨(aR.below a).trans (Et _ _ _ _),(h.below a).at_⟩
theorem kV.below{a b c:iW}{i:Int}(h:kV a b g t i)(k:iL b.heap.size b c):kV a c g t i:=⟨h.1.trans (aR.below k),h.2.below k⟩
def j7:List PanicEntry:=[{v:=.iface 260 (iA #[]),recovered:=iF}]
theorem yT(v:iX)(w:iW):
 iK Tryz.prog 221 #[v,iB iV] w λe w'=>e=G (iU #[])/\w'=w:=by
 go_enter Tryz.func221,Tryz.ntmps221;go_wp2
 first|go_end0|refine az (kG rfl _ _ _) rfl ?_
 exact⟨rfl,rfl⟩
theorem wG(v:iX)(w:iW):
 iK Tryz.prog 221 #[v,iB iF] w λe w'=>e=.panicked j7/\w'=w:=by
 go_enter Tryz.func221,Tryz.ntmps221;go_wp2;exact⟨rfl,rfl,rfl⟩
def eQ(w:iW):Prop:=Lib.TabIs Tryz.prog w "loop.example/g00195/impl.fourHalvings" .u32 (lN.map Int.ofNat)
theorem eQ.on{w w':iW}(h:eQ w)(a:iL w.heap.size w w'):eQ w':=Lib.tabBelow_of_tabIs h w' a
theorem eQ.cell{w:iW}(h:eQ w)(i:Nat)(hi:i<lN.length):w.cell? ⟨1,i,O⟩=X (I .u32 (lN[i]:Nat)):=by
 have:=Lib.TabIs.cell h (g:=1) (by kernel_rfl) i (by simpa using hi)
 rw[this];simp[List.getD,hi]
theorem Xv:∀r:Fin 16,lN[r.val]'(by simp[lN])<4294967296:=by decide
theorem Nc(s:Nat)(w:iW)(hs:s<4294967296)(b:eQ w):
 iK Tryz.prog 242 #[I .u32 s] w λe w'=>e=G (I .u32 (h4 s:Nat))/\w'=w:=by
 have a:s % 16<lN.length:=by rw[SG];omega
 have E:=Zc s a;have c:=b.cell (s % 16) a;have d:lN[s % 16]<4294967296:=Xv ⟨s % 16,by omega⟩
 generalize lN[s % 16]=x at E c d;have hy:=u32_xor ((s:Int)/16) (x:Int) (by omega) (by omega) (by omega) (by omega)
 rw[show((s:Int)/16).toNat=s/16 by omega,bi,<-E]at hy
 clear b a E;go_enter Tryz.func242,Tryz.ntmps242;go_wp2;go_ret;exact⟨rfl,rfl⟩
theorem QD(s c:Nat)(w:iW)(hs:s<4294967296)(h:c<256)(f:eQ w):
 iK Tryz.prog 241 #[I .u32 s,I .u8 c] w λe w'=>e=G (I .u32 (h4 (h4 (s^^^c)):Nat))/\w'=w:=by
 have b:=yX s c hs (by omega)
 have a:=qM _ b;have hy:=u32_xor (s:Int) (c:Int) (by omega) (by omega) (by omega) (by omega)
 rw[bi,bi]at hy;have d:=af f;clear f;generalize s^^^c=y at hy b a;go_enter Tryz.func241,Tryz.ntmps241;go_wp2_with fail;refine(Nc y _ b d.o).mono ?_;rintro e g ⟨rfl,rfl⟩;go_wp2_with fail;refine(Nc (h4 y) _ a d.o).mono ?_;rintro e g ⟨rfl,rfl⟩;go_wp2;go_ret;exact⟨rfl,rfl⟩
theorem RF(s:Nat)(t:ByteArray)(k c m:Nat)(h:k<t.size)(b:t[k].toNat=c)(e:m=jK s (t.data.toList.take k)):h4 (h4 (m^^^c))=jK s (t.data.toList.take (k+1)):=by
 have d:k<t.data.toList.length:=by simpa using h
 have a:t.data.toList[k].toNat=c:=by rw[<-b];rfl
 rw[JA _ _ _ d,<-e,vw,a]
theorem Tc(t:ByteArray):t.data.toList.take t.size=t.data.toList:=by
 apply ci;simp
theorem Vs(s:Nat)(t:ByteArray)(w:iW)(hs:s<4294967296)(j:t.size<=maxLen)(h:eQ w):
 iK Tryz.prog 240 #[I .u32 s,iT t] w λe w'=>e=G (I .u32 (jK s t.data.toList:Nat))/\w'=w:=by
 unfold maxLen at j;have i:=af h;clear h;go_enter Tryz.func240,Tryz.ntmps240;go_wp2;go_loopw [5,10] (λp d wr=>∃k m:Nat,k<=t.size/\d=I J k/\p=I .u32 m/\m<4294967296/\ah (m=jK s (t.data.toList.take k))/\wr=w) (λ_ d _=>t.size-(intOf d).toNat)
 case atStart=>exact⟨0,s,aJ _,rfl,rfl,hs,rfl,rfl⟩
 case round=>
  obtain⟨k,m,q,rfl,rfl,g,hrel,rfl⟩:=hrel;by_cases l:(k:Int)<t.size
  ·obtain⟨c,a⟩:=aq (t[k].toNat:Nat);have b:c<256:=by rw[<-a];exact uj _
   have F:=af (RF s t k c m (by omega) a hrel.o)
   clear hrel;go_wp2_with fail;refine(QD m c _ g b i.o).mono ?_;rintro e r ⟨rfl,rfl⟩;have f:=qM _ (qM _ (yX m c g (by omega)))
   generalize h4 (h4 (m^^^c))=n at F f;go_wp2;go_roundw
   case rel=>exact⟨k+1,n,by omega,by go_num,rfl,f,F,trivial⟩
   case measure=>simp[intOf];omega
  ·have e:k=t.size:=by omega
   subst e;have F:=af (hrel.o.trans (by rw[Tc]))
   clear hrel;go_wp2;go_ret;exact⟨by rw[F.o];rfl,rfl⟩
theorem Qy(t:ByteArray)(w:iW)(c:t.size<=maxLen)(a:eQ w):
 iK Tryz.prog 238 #[iT t] w λe w'=>e=G (I .u32 (kX t.data.toList:Nat))/\w'=w:=by
 have b:=af a;clear a;go_enter Tryz.func238,Tryz.ntmps238;go_wp2_with fail;refine(Vs 4294967295 t _ (by omega) c b.o).mono ?_
 rintro e d ⟨rfl,rfl⟩;go_wp2;go_ret;exact⟨rfl,rfl⟩
theorem Fo(x:Nat)(b:x<4294967296)(w:iW)(j:Nat)(a:j<(fi x).length):
 (w.alloc (iC #[I .u8 ((x:Int)/16777216),I .u8 ((x:Int)/65536 % 256),I .u8 ((x:Int)/256 % 256),I .u8 ((x:Int) % 256)] 5)).cell? ((⟨w.heap.size,0,O⟩:Addr).add j)=X (I .u8 ((fi x)[j].toNat:Int)):=by
 rw[wt]at a
 match j,a with
 |0,_=>simp[Addr.add,fi];omega
 |1,_=>simp[Addr.add,fi]
 |2,_=>simp[Addr.add,fi]
 |3,_=>simp[Addr.add,fi]
theorem Wo(x:Nat)(w:iW)(b:x<4294967296):
 iK Tryz.prog 239 #[I .u32 x] w λe w'=>e=G (iT ⟨(fi x).toArray⟩)/\iL w.heap.size w w':=by
 have a:=rL (P:=Tryz.prog) _ 22 9 5 ⟨w.heap.size,0,O⟩ 4 (fi x) Tryz.underlying22 Tryz.underlying5 Tryz.underlying9 (Fo x b w);rw[wt]at a;generalize(ByteArray.mk (fi x).toArray)=r at a;go_enter Tryz.func239,Tryz.ntmps239;go_wp2;go_ret;exact⟨rfl,aZ⟩
theorem Mi(t:ByteArray)(w:iW)(i:t.size<=20000)(b:eQ w):
 iK Tryz.prog 237 #[iT t] w λe w'=>e=G (iU #[iT (cY t),iB iV])/\iL w.heap.size w w':=by
 have g:¬(20000:Int)<t.size:=by omega
 have d:=af b;clear b;go_enter Tryz.func237,Tryz.ntmps237;go_wp2_with fail;refine(Qy t _ (by unfold maxLen;omega) d.o).mono ?_
 rintro e j ⟨rfl,rfl⟩;have c:=wO t.data.toList;have E:ah (cY t=t++⟨(fi (kX t.data.toList)).toArray⟩):=rfl;have a:=wt (kX t.data.toList);generalize kX t.data.toList=x at c E a;go_wp2_with fail;refine(Wo x _ c).mono ?_;rintro e k ⟨rfl,h⟩;generalize fi x=f at E a;go_wp2;go_ret2;exact⟨by rw[E.o];rfl,h⟩
theorem WT(t:ByteArray)(w:iW)(a:(20000:Int)<t.size):
 iK Tryz.prog 237 #[iT t] w λe w'=>e=G (iU #[iT ⟨#[]⟩,iB iF])/\w'=w:=by
 go_enter Tryz.func237,Tryz.ntmps237;go_wp2;go_ret2;exact⟨rfl,rfl⟩
def zm:Nat->Nat->Nat
 |0,x=>x
 |k+1,x=>io (zm k x)
theorem Yn(m:Nat)(a:m<4294967296)(h:((m:Int) % 2==1)=iV):bits .xor .u32 ((m:Int)/2) 3558460437=(io m:Nat):=by
 have h1:m % 2=1:=by rw[ix]at h;omega
 have hy:=u32_xor ((m:Int)/2) 3558460437 (by omega) (by omega) (by omega) (by omega)
 rw[hy,io,ak h1,show((m:Int)/2).toNat=m/2 by omega]
 rfl
theorem Nj(m:Nat)(h:((m:Int) % 2==1)=iF):io m=m/2:=by
 have h1:¬m % 2=1:=by rw[dk]at h;omega
 rw[io,ai h1,Nat.xor_zero]
theorem YV(s:Nat)(t:ByteArray)(k c m:Nat)(h:k<t.size)(b:t[k].toNat=c)(e:m=jK s (t.data.toList.take k)):h4 (h4 (m^^^c))=jK s (t.data.toList.take (k+1)):=by
 have d:k<t.data.toList.length:=by simpa using h
 have a:t.data.toList[k].toNat=c:=by rw[<-b];rfl
 rw[JA _ _ _ d,<-e,vw,a]
theorem Qi(t:ByteArray):t.data.toList.take t.size=t.data.toList:=by
 apply ci;simp
theorem SU(s:Nat)(t:ByteArray)(w:iW)(hs:s<4294967296)(v:t.size<=maxLen):
 iK Tryz.prog 113 #[I .u32 s,iT t] w λe w'=>e=G (I .u32 (jK s t.data.toList:Nat))/\w'=w:=by
 unfold maxLen at v;go_enter Tryz.func113,Tryz.ntmps113;go_wp2;go_loopw [0,5] (λl d wr=>∃k m:Nat,k<=t.size/\d=I J k/\l=I .u32 m/\m<4294967296/\ah (m=jK s (t.data.toList.take k))/\wr=w) (λ_ d _=>t.size-(intOf d).toNat)
 case atStart=>exact⟨0,s,aJ _,rfl,rfl,hs,rfl,rfl⟩
 case round=>
  obtain⟨k,m,D,rfl,rfl,z,hrel,rfl⟩:=hrel;by_cases y:(k:Int)<t.size
  ·obtain⟨c,a⟩:=aq (t[k].toNat:Nat);have r:c<256:=by rw[<-a];exact uj _
   have F:=af (YV s t k c m (by omega) a hrel.o)
   have b:=yX m c z (by omega)
   have q:=qM _ (qM _ b);have hy:=u32_xor (m:Int) (c:Int) (by omega) (by omega) (by omega) (by omega)
   rw[bi,bi]at hy;generalize m^^^c=x at F q b hy;clear hrel;go_wp2;clear hy a;go_loopw [0,6] (λl d B=>∃j n:Nat,j<=8/\d=I J j/\l=I .u32 n/\n<4294967296/\ah (n=zm j x)/\B=wr) (λ_ d _=>8-(intOf d).toNat)
   case atStart=>exact⟨0,x,by omega,rfl,rfl,b,rfl,rfl⟩
   case round=>
    obtain⟨j,n,C,rfl,rfl,i,hrel,rfl⟩:=hrel;by_cases u:(j:Int)<8
    ·have h:=wu n i;have f:ah (io n=zm (j+1) x):=by show io n=io (zm j x);rw[<-hrel.o]
     clear hrel;cases p:((n:Int) % 2==1)
     ·have g:=Nj n p;rw[g]at f h;clear g;go_wp2;go_roundw
      case rel=>exact⟨j+1,n/2,by omega,by go_num,by go_num,h,f,trivial⟩
      case measure=>simp[intOf];omega
     ·have g:=Yn n i p;generalize io n=A at g f h;go_wp2;go_roundw
      case rel=>exact⟨j+1,A,by omega,by go_num,rfl,h,f,trivial⟩
      case measure=>simp[intOf];omega
    ·have e:j=8:=by omega
     subst e;have f:ah (n=jK s (t.data.toList.take (k+1))):=hrel.o.trans F.o;clear hrel F;go_wp2;go_roundw
     case rel=>exact⟨k+1,n,by omega,by go_num,rfl,i,f,trivial⟩
     case measure=>simp[intOf];omega
  ·have e:k=t.size:=by omega
   subst e;have F:=af (hrel.o.trans (by rw[Qi]))
   clear hrel;go_wp2;go_ret;exact⟨by rw[F.o];rfl,rfl⟩
theorem EP(t:ByteArray)(w:iW)(a:t.size<=maxLen):
 iK Tryz.prog 67 #[iT t] w λe w'=>e=G (I .u32 (kX t.data.toList:Nat))/\w'=w:=by
 go_enter Tryz.func67,Tryz.ntmps67;go_wp2_with fail;refine(SU 4294967295 t _ (by omega) a).mono ?_
 rintro e b ⟨rfl,rfl⟩;go_wp2;go_ret;exact⟨rfl,rfl⟩
theorem Bv(x:Nat)(w:iW)(b:x<4294967296):
 iK Tryz.prog 66 #[I .u32 x] w λe w'=>e=G (iT ⟨(fi x).toArray⟩)/\iL w.heap.size w w':=by
 have a:=rL (P:=Tryz.prog) _ 22 9 5 ⟨w.heap.size,0,O⟩ 4 (fi x) Tryz.underlying22 Tryz.underlying5 Tryz.underlying9 (Fo x b w);rw[wt]at a;generalize(ByteArray.mk (fi x).toArray)=r at a;go_enter Tryz.func66,Tryz.ntmps66;go_wp2;go_ret;exact⟨rfl,aZ⟩
theorem XQ(s:ByteArray)(w:iW)(hs:s.size<=281474976710656):
 iK Tryz.prog 150 #[iT s] w λe w'=>e=G (iT s)/\iL w.heap.size w w':=by
 go_enter Tryz.func150,Tryz.ntmps150;go_wp2_with fail;refine(Tryz.stringslite_Clone _ _ hs).mono ?_;rintro e w' ⟨rfl,a⟩;go_wp2;go_ret;exact⟨rfl,a⟩
theorem aaK(t:ByteArray)(w:iW)(a:(t.size:Int)<4):
 iK Tryz.prog 234 #[iT t] w λe w'=>e=G (iU #[iT ⟨#[]⟩,iB iF])/\w'=w:=by
 go_enter Tryz.func234,Tryz.ntmps234;go_wp2;go_ret2;exact⟨rfl,rfl⟩
theorem toList_inj(a b:ByteArray)(h:a.toList=b.toList):a=b:=by
 rw[Cv,Cv]at h;exact lg (sO.1 h)
theorem Nr(a b:ByteArray)(h:a≠b):(a.toList==b.toList)=iF:=by
 rw[dk];exact λe=>h (toList_inj a b e)
theorem Sv(a b:ByteArray)(h:a=b):(a.toList==b.toList)=iV:=by subst h;simp
theorem Yr(t:ByteArray)(w:iW)(d:(20004:Int)<t.size)(c:t.size<=maxLen):
 iK Tryz.prog 234 #[iT t] w λe w'=>e=G (iU #[iT ⟨#[]⟩,iB iF])/\w'=w:=by
 unfold maxLen at c;have a:=sZ t;have E:ah (fj t=t.extract 0 (t.size-4)):=rfl;generalize fj t=b at a E;go_enter Tryz.func234,Tryz.ntmps234;go_wp2_with fail;rw[<-E.o];refine(WT b _ (by omega)).mono ?_
 rintro e f ⟨rfl,rfl⟩;go_wp2;go_ret2;exact⟨rfl,rfl⟩
theorem Oq(t b:ByteArray)(w:iW)(i:4<=(t.size:Int))(g:(t.size:Int)<=20004)(E:ah (b=t.extract 0 (t.size-4)))(f:b.size=t.size-4)(h:((cY b).toList==t.toList)=iV)(c:ah (eQ w)):
 iK Tryz.prog 234 #[iT t] w λe w'=>e=G (iU #[iT b,iB iV])/\iL w.heap.size w w':=by
 go_enter Tryz.func234,Tryz.ntmps234;go_wp2_with fail;rw[<-E.o];refine(Mi b _ (by omega) c.o).mono ?_
 rintro e j ⟨rfl,d⟩;have hs:=d.size;clear c;generalize cY b=r at h;go_wp2_with fail;rw[<-E.o];refine(XQ b _ (by omega)).mono ?_
 rintro e k ⟨rfl,a⟩;go_wp2;go_ret2;exact⟨rfl,d.trans (a.mono hs)⟩
theorem S8(t:ByteArray)(w:iW)(c:4<=(t.size:Int))(a:(t.size:Int)<=20004)(b:cY (fj t)=t)(d:eQ w):
 iK Tryz.prog 234 #[iT t] w λe w'=>e=G (iU #[iT (fj t),iB iV])/\iL w.heap.size w w':=
 Oq t (fj t) w c a rfl (sZ t) (Sv _ _ b) d
theorem S7(t b:ByteArray)(w:iW)(h:4<=(t.size:Int))(f:(t.size:Int)<=20004)(E:ah (b=t.extract 0 (t.size-4)))(d:b.size=t.size-4)(g:((cY b).toList==t.toList)=iF)(a:ah (eQ w)):
 iK Tryz.prog 234 #[iT t] w λe w'=>e=G (iU #[iT ⟨#[]⟩,iB iF])/\iL w.heap.size w w':=by
 go_enter Tryz.func234,Tryz.ntmps234;go_wp2_with fail;rw[<-E.o];refine(Mi b _ (by omega) a.o).mono ?_
 rintro e i ⟨rfl,c⟩;clear a;generalize cY b=r at g;go_wp2;go_ret2;exact⟨rfl,c⟩
theorem ZY(t:ByteArray)(w:iW)(c:4<=(t.size:Int))(a:(t.size:Int)<=20004)(b:cY (fj t)≠t)(d:eQ w):
 iK Tryz.prog 234 #[iT t] w λe w'=>e=G (iU #[iT ⟨#[]⟩,iB iF])/\iL w.heap.size w w':=
 S7 t (fj t) w c a rfl (sZ t) (Nr _ _ b) d
theorem SM(t:ByteArray)(w:iW)(b:(t.size:Int)<4):
 iK Tryz.prog 36 #[iT t] w λe w'=>e=G (iU #[iT ⟨#[]⟩,iB iF])/\iL w.heap.size w w':=by
 have a:decide ((t.size:Int)-4<0)=iV:=by simp;omega
 go_enter Tryz.func36,Tryz.ntmps36;go_wp2;go_quiet (fail);go_wp2;go_ret2;exact⟨rfl,bY (ax _ _) _⟩
theorem aa7(t:ByteArray)(w:iW)(d:(20004:Int)<t.size)(b:t.size<=maxLen):
 iK Tryz.prog 36 #[iT t] w λe w'=>e=G (iU #[iT ⟨#[]⟩,iB iF])/\iL w.heap.size w w':=by
 unfold maxLen at b;have c:decide ((t.size:Int)-4<0)=iF:=by simp;omega
 have a:decide ((20000:Int)<(t.size:Int)-4)=iV:=by simp;omega
 go_enter Tryz.func36,Tryz.ntmps36;go_wp2;go_quiet (fail);go_wp2;go_ret2;exact⟨rfl,bY (ax _ _) _⟩
def rk(t:ByteArray):ByteArray:=t.extract (t.size-4) t.size
theorem Ia(t:ByteArray):cY (fj t)=t↔rk t=⟨(fi (kX (fj t).data.toList)).toArray⟩:=by
 have h1:fj t++rk t=t:=by
  apply lg;simp[fj,rk]
 constructor
 ·intro h;have a:fj t++rk t=cY (fj t):=h1.trans h.symm;unfold cY at a;have:=congrArg (λz:ByteArray=>z.data.toList) a
  simp only[tB,Dp,List.append_cancel_left_eq]at this;exact lg (sO.1 this)
 ·intro h;unfold cY;rw[<-h,h1]
theorem Gj(t:ByteArray)(a:4<=t.size)(W:iW):(Instr.slice 9 (iT t) O (X (I J ((t.size:Int)-4))) O).run Tryz.prog W=.ok (iT (fj t)) W:=by
 rw[run_slice_string_h W 9 t Tryz.underlying9 J _ (by omega) (by omega)]
 have:((t.size:Int)-4).toNat=t.size-4:=by omega
 rw[this];rfl
theorem I9(t:ByteArray)(a:4<=t.size)(W:iW):(Instr.slice 9 (iT t) (X (I J ((t.size:Int)-4))) O O).run Tryz.prog W=.ok (iT (rk t)) W:=by
 rw[Da W 9 t Tryz.underlying9 J _ (by omega) (by omega)]
 have:((t.size:Int)-4).toNat=t.size-4:=by omega
 rw[this];rfl
theorem Xk (t b c:ByteArray) (w:iW) (p:4<=(t.size:Int)) (k:(t.size:Int)<=20004)
 (q:∀W,(Instr.slice 9 (iT t) O (X (I J ((t.size:Int)-4))) O).run Tryz.prog W=.ok (iT b) W)
 (r:∀W,(Instr.slice 9 (iT t) (X (I J ((t.size:Int)-4))) O O).run Tryz.prog W=.ok (iT c) W)
 (i:b.size=t.size-4) (l:(c.toList==fi (kX b.data.toList))=iV):
 iK Tryz.prog 36 #[iT t] w λe w'=>e=G (iU #[iT b,iB iV])/\iL w.heap.size w w':=by
 have h:=wO b.data.toList;have n:decide ((t.size:Int)-4<0)=iF:=by simp;omega
 have j:decide ((20000:Int)<(t.size:Int)-4)=iF:=by simp;omega
 obtain⟨x,a⟩:∃x,x=kX b.data.toList:=⟨_,rfl⟩;rw[<-a]at l h;have f:=af a;clear a;go_enter Tryz.func36,Tryz.ntmps36;go_wp2;go_region_held3 (λ_=>True) (trivial) (first
  |(go_at_call 67;refine(EP b _ (by unfold maxLen;omega)).mono ?_;rintro e m ⟨rfl,rfl⟩;rw[<-f.o])
  |(go_at_call 66;refine(Bv x _ h).mono ?_;rintro e m ⟨rfl,g⟩))
 all_goals
  have d:=(ax w.heap.size w).drew.trans g;clear f g;go_wp2;go_ret2;exact⟨rfl,d⟩
theorem Zn (t b c:ByteArray) (w:iW) (p:4<=(t.size:Int)) (k:(t.size:Int)<=20004)
 (q:∀W,(Instr.slice 9 (iT t) O (X (I J ((t.size:Int)-4))) O).run Tryz.prog W=.ok (iT b) W)
 (r:∀W,(Instr.slice 9 (iT t) (X (I J ((t.size:Int)-4))) O O).run Tryz.prog W=.ok (iT c) W)
 (i:b.size=t.size-4) (l:(c.toList==fi (kX b.data.toList))=iF):
 iK Tryz.prog 36 #[iT t] w λe w'=>e=G (iU #[iT ⟨#[]⟩,iB iF])/\iL w.heap.size w w':=by
 have h:=wO b.data.toList;have n:decide ((t.size:Int)-4<0)=iF:=by simp;omega
 have j:decide ((20000:Int)<(t.size:Int)-4)=iF:=by simp;omega
 obtain⟨x,a⟩:∃x,x=kX b.data.toList:=⟨_,rfl⟩;rw[<-a]at l h;have f:=af a;clear a;go_enter Tryz.func36,Tryz.ntmps36;go_wp2;go_region_held3 (λ_=>True) (trivial) (first
  |(go_at_call 67;refine(EP b _ (by unfold maxLen;omega)).mono ?_;rintro e m ⟨rfl,rfl⟩;rw[<-f.o])
  |(go_at_call 66;refine(Bv x _ h).mono ?_;rintro e m ⟨rfl,g⟩))
 all_goals
  have d:=(ax w.heap.size w).drew.trans g;clear f g;go_wp2;go_ret2;exact⟨rfl,d⟩
theorem Iy(c:ByteArray)(l:List UInt8):(c=⟨l.toArray⟩->(c.toList==l)=iV)/\(c≠⟨l.toArray⟩->(c.toList==l)=iF):=by
 constructor
 ·intro h;subst h;simp
 ·intro h;rw[dk];intro e;apply h;apply toList_inj;simp[e]
def wm:Option ByteArray->iX
 |some s=>iU #[iT s,iB iV]
 |none=>iU #[iT ⟨#[]⟩,iB iF]
theorem Rk(t:ByteArray)(c:t.size<=maxLen)(w:iW):
 iK Tryz.prog 36 #[iT t] w λe w'=>e=G (wm (jW t))/\iL w.heap.size w w':=by
 by_cases h1:(t.size:Int)<4
 ·rw[tI (by omega)]
  exact SM t w h1
 ·by_cases b:(20004:Int)<t.size
  ·rw[tI (by omega)]
   exact aa7 t w b c
  ·by_cases a:cY (fj t)=t
   ·rw[Jt (by omega) (by omega) a]
    exact Xk t (fj t) (rk t) w (by omega) (by omega) (Gj t (by omega)) (I9 t (by omega)) (sZ t) ((Iy _ _).1 ((Ia t).1 a))
   ·rw[tI (λh=>a h.2.2)]
    exact Zn t (fj t) (rk t) w (by omega) (by omega) (Gj t (by omega)) (I9 t (by omega)) (sZ t) ((Iy _ _).2 λh=>a ((Ia t).2 h))
theorem GP(t:ByteArray)(d:t.size<=maxLen)(w:iW)(b:eQ w):
 iK Tryz.prog 234 #[iT t] w λe w'=>e=G (wm (jW t))/\iL w.heap.size w w':=by
 by_cases h1:(t.size:Int)<4
 ·rw[tI (by omega)]
  refine(aaK t w h1).mono ?_;rintro e w' ⟨rfl,rfl⟩;exact⟨rfl,ax _ _⟩
 ·by_cases c:(20004:Int)<t.size
  ·rw[tI (by omega)]
   refine(Yr t w c d).mono ?_;rintro e w' ⟨rfl,rfl⟩;exact⟨rfl,ax _ _⟩
  ·by_cases a:cY (fj t)=t
   ·rw[Jt (by omega) (by omega) a]
    exact S8 t w (by omega) (by omega) a b
   ·rw[tI (λh=>a h.2.2)]
    exact ZY t w (by omega) (by omega) a b
end Go.Proofs.YtgigcooffjjbgaaGreatDoor
