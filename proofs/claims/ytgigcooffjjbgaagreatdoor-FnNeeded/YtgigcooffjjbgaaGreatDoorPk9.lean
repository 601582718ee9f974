/-
  DNext; DvM7; SBl17; FdC; FdR; ReadM; IRead; PgV; IPageOk; RAt; Sum; Seal; SpecSum; SpecSeal; Unseal; SUnseal
-/
import Derived.Test.YtgigcooffjjbgaaGreatDoorPk8
import Derived.Deep.Cut
import Derived.Deep.CutBlock
import Derived.Lib.LaidTab
import Derived.Lib.AppendIntMem
import Derived.Laws.BitsAllLaws
open Go.Value renaming int→I,slice→Y,string→iT,bool→iB,pointer→iP,agg→iA,tuple→iU
open Go.IntKind renaming i64→J
open Option renaming none→O,some→X
open Go.Ending renaming returned→G
open Go.Obj renaming cells→iC
open Bool renaming true→iV,false→iF
open Go renaming World→iW,Value→iX,Calls→iK
open Go.RowKit renaming Below→iL
set_option maxHeartbeats 8000000
set_option maxRecDepth 100000
namespace Go.Proofs.YtgigcooffjjbgaaGreatDoor
open Go.RowKit Words Sums
def yT:Ak:=⟨0,0,0,0,⟨#[]⟩⟩
def mE(t:List UInt8):Prop:=t∈sO.map (λb=>b.data.toList)
theorem Wg:mE (⟨#[]⟩:ByteArray).data.toList:=by unfold mE sO;simp
theorem TG:(Tryz.prog.info? 55).map (·.size)=X 5:=by kernel_rfl
variable{fn:Func}{g:Nat}{W:iW}
theorem PX {p:Tmp} (h:fn.results= #[.cell p 55]) (a:Array iX) (w:iW) (g:Nat) (q:Ak)
 (e:a.getD p undef=iP (X ⟨g,0,O⟩)) (c:cQ w g q):(results fn a).run Tryz.prog w=.ok (mw q) w:=by
 have b:a[p]?.getD undef=iP (X ⟨g,0,O⟩):=by simpa using e
 have d:=nj (P:=Tryz.prog) w g 55 55 _ _ _ c Tryz.underlying55 rfl TG;simp[results,h,b,asAddr,d,mw]
section
variable{q:Ak}
theorem cQ.frz(h:cQ W g q)(k:Nat):W.frozen? ⟨g,k,O⟩=iF:=aF _ _ k _ _ h
theorem cQ.set0(h:cQ W g q)(x:Int):cQ (W.setCell ⟨g,0,O⟩ (I J x)) g ⟨x,q.vol,q.sector,q.of,q.text⟩:=bw _ _ 0 _ _ _ h
theorem cQ.set1(h:cQ W g q)(x:Int):cQ (W.setCell ⟨g,1,O⟩ (I J x)) g ⟨q.kind,x,q.sector,q.of,q.text⟩:=bw _ _ 1 _ _ _ h
theorem cQ.set2(h:cQ W g q)(x:Int):cQ (W.setCell ⟨g,2,O⟩ (I J x)) g ⟨q.kind,q.vol,x,q.of,q.text⟩:=bw _ _ 2 _ _ _ h
theorem cQ.set3(h:cQ W g q)(x:Int):cQ (W.setCell ⟨g,3,O⟩ (I J x)) g ⟨q.kind,q.vol,q.sector,x,q.text⟩:=bw _ _ 3 _ _ _ h
theorem cQ.set4(h:cQ W g q)(x:ByteArray):cQ (W.setCell ⟨g,4,O⟩ (iT x)) g ⟨q.kind,q.vol,q.sector,q.of,x⟩:=bw _ _ 4 _ _ _ h
end
def ue(W:iW)(g:Nat)(q:Ak):iW:=((((W.setCell ⟨g,0,O⟩ (I J q.kind)).setCell ⟨g,1,O⟩ (I J q.vol)).setCell ⟨g,2,O⟩ (I J q.sector)).setCell ⟨g,3,O⟩ (I J q.of)).setCell ⟨g,4,O⟩ (iT q.text)
variable{n s t r:Int}{g p len cap k B:Nat}{ad:Option Addr}{w W W':iW}{a b c:iX}
theorem Ml{W:iW}{q0:Ak}(h:cQ W g q0)(q:Ak):cQ (ue W g q) g q:=((((h.set0 q.kind).set1 q.vol).set2 q.sector).set3 q.of).set4 q.text
structure Nx (w W:iW) (g p:Nat) (ad:Option Addr) (len cap:Nat) (q:Ak) (a b c:iX) (n s t r:Int):Prop where
 dr:cL w W p ad len cap
 ask:cQ W g q
 zer:cQ W (w.heap.size+1) yT
 dev:aU W w.heap.size a b c n s t r
 gg:w.heap.size+1<g
 pl:p<w.heap.size
section
variable{q:Ak}
theorem Nx.draw(h:Nx w W g p ad len cap q a b c n s t r)(i:cL W W' p ad len cap):Nx w W' g p ad len cap q a b c n s t r:=by
 obtain⟨h1,d,f,h4,j,l⟩:=h;have k:∀y,w.heap.size<=y->y<W.heap.size->W'.heap[y]?=W.heap[y]?:=λy o m=>i.1.block y m (λe=>by cases e;omega)
 exact⟨h1.trans i,(k _ (by omega) d.lt).trans d,(k _ (by omega) f.lt).trans f,(k _ (by omega) h4.lt).trans h4,j,l⟩
theorem Nx.below(h:Nx w W g p ad len cap q a b c n s t r)(d:iL W.heap.size W W'):Nx w W' g p ad len cap q a b c n s t r:=by
 obtain⟨h1,f,i,h4,j,e⟩:=h;exact⟨h1.below (d.mono h1.1.size) e,f.below d,i.below d,h4.below d,j,e⟩
theorem Nx.set(h:Nx w W g p ad len cap q a b c n s t r){u:iX}{q':Ak}(j:cQ (W.setCell ⟨g,k,O⟩ u) g q'):Nx w (W.setCell ⟨g,k,O⟩ u) g p ad len cap q' a b c n s t r:=by
 obtain⟨h1,l,e,h4,f,d⟩:=h;have i:iL w.heap.size W (W.setCell ⟨g,k,O⟩ u):=(az _ _).setCell (p:=⟨g,k,O⟩) (by show _<=g;omega) _
 exact⟨h1.below i d,j,(aS _ _ _ _ (show w.heap.size+1≠g by omega)).trans e,(aS _ _ _ _ (show w.heap.size≠g by omega)).trans h4,f,d⟩
theorem Nx.fin(h:Nx w W g p ad len cap q a b c n s t r):cQ (ue W (w.heap.size+1) q) (w.heap.size+1) q/\cL w (ue W (w.heap.size+1) q) p ad len cap:=by
 refine⟨Ml h.zer q,h.dr.below ?_ h.pl⟩;unfold ue;exact(((((az _ _).setCell (p:=⟨w.heap.size+1,0,O⟩) (by show _<=w.heap.size+1;omega) _).setCell (p:=⟨w.heap.size+1,1,O⟩) (by show _<=w.heap.size+1;omega) _).setCell (p:=⟨w.heap.size+1,2,O⟩) (by show _<=w.heap.size+1;omega) _).setCell (p:=⟨w.heap.size+1,3,O⟩) (by show _<=w.heap.size+1;omega) _).setCell (p:=⟨w.heap.size+1,4,O⟩) (by show _<=w.heap.size+1;omega) _
theorem Nx.cd(h:Nx w W g p ad len cap q a b c n s t r)(e:gN w ad len B)(d:B<=p):gN W ad len B:=h.dr.code e d h.pl
end
variable{α:Type}{t t':ByteArray}{c i':Int}{T:List UInt8 -> Prop}{B cap vc n k j g:Nat}{ad:Option Addr}
variable{d:Dv}
theorem cM.drawn{p:Nat}{v:iX}{w W:iW}{a:Nat}(h:cM B v d w)(b:cL w W p ad a cap)(f:p<B):cM B v d W:=h.keep (λy g c=>b.1.block y c (λe=>by cases e;omega)) b.1.size
variable{s:Sto}
theorem Hd{W:iW}{b:Option Addr}{c:Nat}{kv:iX}{n:Int}(h:di W (iA #[Y b c vc,kv,I J n]) s):ge W b c s.fV:=by
 obtain⟨j,l,k,d,g,a,i,e,m,-,-,-,-,f,-⟩:=h;unfold dK at e;injection e with e
 injection e with e
 simp only[jk,Value.slice.injEq]at e;obtain⟨⟨rfl,rfl,rfl⟩,-⟩:=e;exact f
def TQ(q:Ak):Prop:=mE q.text.data.toList/\q.vol<=3
theorem Cr(x:iX)(d:Dv)(B0 p:Nat)(ad:Option Addr)(c cap B:Nat)(w:iW)(R:c<=1048576)(hc:km w p ad c cap)(hd:gN w ad c B)(u:B<=p)(ho:cM B0 x d w)(hf:d.Fit)(aD:p<B0)(au:∀v∈d.fS.fV,v.1<=3):
 iK Tryz.prog 47 #[iP (X ⟨p,0,O⟩),x] w λe w'=>∃q:Ak,e=G (mw q)/\TQ q/\cL w w' p ad c cap:=by
 have D:=hc.2.2.2.2.2;obtain⟨l,i,r,f,vc,b,m,a,rfl,h1,h2,h3⟩:=(ho.rd hf).form;have am:d.fS.fV.length=f:=(Hd h3).1;have ai:ah (∀W,cL w W p ad c cap->ge W r f d.fS.fV):=λW hW=>by
  obtain⟨fv,vv,kv,e,-,-,h6⟩:=(ho.drawn hW aD).rd hf;injection e with e
  injection e with e
  simp only[jk,kx]at e;obtain⟨-,rfl,rfl⟩:=e;exact Hd h6
 have N:=af am;have aJ:f<=1048576:=by rw[<-am];exact hf.2.1
 have M:=af hd;have av:ah (∀k:Nat,(d.fS.fV[k]?.getD (0,0)).1<=3):=λk=>by
  cases e:d.fS.fV[k]? with
  |none=>show(0:Int)<=3;decide
  |some v=>exact au v (aO e)
 clear au;have aj:=aR w (iC #[Y l d.fH.length i,Y r f vc,Y b m a,I J d.fS.next,I J d.seq,I J d.tx,I J d.base] 34);have ak:iL (w.alloc (iC #[Y l d.fH.length i,Y r f vc,Y b m a,I J d.fS.next,I J d.seq,I J d.tx,I J d.base] 34)).heap.size (w.alloc (iC #[Y l d.fH.length i,Y r f vc,Y b m a,I J d.fS.next,I J d.seq,I J d.tx,I J d.base] 34)) ((w.alloc (iC #[Y l d.fH.length i,Y r f vc,Y b m a,I J d.fS.next,I J d.seq,I J d.tx,I J d.base] 34)).alloc (iC #[I J 0,I J 0,I J 0,I J 0,iT ⟨#[]⟩] 55)):=bh;have P:iL ((w.alloc (iC #[Y l d.fH.length i,Y r f vc,Y b m a,I J d.fS.next,I J d.seq,I J d.tx,I J d.base] 34)).alloc (iC #[I J 0,I J 0,I J 0,I J 0,iT ⟨#[]⟩] 55)).heap.size ((w.alloc (iC #[Y l d.fH.length i,Y r f vc,Y b m a,I J d.fS.next,I J d.seq,I J d.tx,I J d.base] 34)).alloc (iC #[I J 0,I J 0,I J 0,I J 0,iT ⟨#[]⟩] 55)) (((w.alloc (iC #[Y l d.fH.length i,Y r f vc,Y b m a,I J d.fS.next,I J d.seq,I J d.tx,I J d.base] 34)).alloc (iC #[I J 0,I J 0,I J 0,I J 0,iT ⟨#[]⟩] 55)).alloc (iC #[I J 1,I J 1,I J 1,I J 1,I J 1,I J 1,I J 2,I J 3,I J 4,I J 5,I J 6] 3)):=bh;have s0:(w.alloc (iC #[Y l d.fH.length i,Y r f vc,Y b m a,I J d.fS.next,I J d.seq,I J d.tx,I J d.base] 34)).heap.size=w.heap.size+1:=by simp
 have s1:((w.alloc (iC #[Y l d.fH.length i,Y r f vc,Y b m a,I J d.fS.next,I J d.seq,I J d.tx,I J d.base] 34)).alloc (iC #[I J 0,I J 0,I J 0,I J 0,iT ⟨#[]⟩] 55)).heap.size=w.heap.size+1+1:=by simp
 have gA:aU (w.alloc (iC #[Y l d.fH.length i,Y r f vc,Y b m a,I J d.fS.next,I J d.seq,I J d.tx,I J d.base] 34)) w.heap.size (Y l d.fH.length i) (Y r f vc) (Y b m a) d.fS.next d.seq d.tx d.base:=aC _ _;have zA:cQ ((w.alloc (iC #[Y l d.fH.length i,Y r f vc,Y b m a,I J d.fS.next,I J d.seq,I J d.tx,I J d.base] 34)).alloc (iC #[I J 0,I J 0,I J 0,I J 0,iT ⟨#[]⟩] 55)) (w.heap.size+1) yT:=by
  rw[<-s0];exact aC _ _
 have b2:=aj.trans (ak.mono aj.size);have C:=b2.trans (P.mono b2.size);have DR:=af ((cL.refl hc).below C D);have DG:=af ((gA.below ak).below P);have DZ:=af (zA.below P);have KI:ah (∀j,j< [(1:Int),1,1,1,1,1,2,3,4,5,6].length->(((w.alloc (iC #[Y l d.fH.length i,Y r f vc,Y b m a,I J d.fS.next,I J d.seq,I J d.tx,I J d.base] 34)).alloc (iC #[I J 0,I J 0,I J 0,I J 0,iT ⟨#[]⟩] 55)).alloc (iC #[I J 1,I J 1,I J 1,I J 1,I J 1,I J 1,I J 2,I J 3,I J 4,I J 5,I J 6] 3)).cell? ⟨w.heap.size+1+1,j,O⟩=X (I J ([(1:Int),1,1,1,1,1,2,3,4,5,6].getD j 0))):=by
  intro j hj;have hj:j<11:=hj;rw[<-s1];refine Er ((w.alloc (iC #[Y l d.fH.length i,Y r f vc,Y b m a,I J d.fS.next,I J d.seq,I J d.tx,I J d.base] 34)).alloc (iC #[I J 0,I J 0,I J 0,I J 0,iT ⟨#[]⟩] 55)) _ _ j _ ?_;have:j=0∨j=1∨j=2∨j=3∨j=4∨j=5∨j=6∨j=7∨j=8∨j=9∨j=10:=by omega
  rcases this with rfl|rfl|rfl|rfl|rfl|rfl|rfl|rfl|rfl|rfl|rfl<;>rfl
 clear h1 h2 h3 ho hf hc hd aj ak P s0 s1 gA zA b2 C am;go_enter Tryz.func47,Tryz.ntmps47;go_wp2_with fail;generalize(((w.alloc (iC #[Y l d.fH.length i,Y r f vc,Y b m a,I J d.fS.next,I J d.seq,I J d.tx,I J d.base] 34)).alloc (iC #[I J 0,I J 0,I J 0,I J 0,iT ⟨#[]⟩] 55)).alloc (iC #[I J 1,I J 1,I J 1,I J 1,I J 1,I J 1,I J 2,I J 3,I J 4,I J 5,I J 6] 3))=wa at DR DG DZ KI⊢;refine(TF (w.heap.size+1+1) [(1:Int),1,1,1,1,1,2,3,4,5,6] p ad c cap B wa (by decide) (by decide) (by omega) KI.o R DR.o.2 (DR.o.code M.o u D) u).mono ?_
 rintro e w1 ⟨k,rfl,d1⟩;have kk:∀(W W':iW),cL W W' p ad c cap->∀y,p≠y->y<W.heap.size->W'.heap[y]?=W.heap[y]?:=λW W' hd y y1 y2=>hd.1.block y y2 (λe=>by cases e;exact y1 rfl)
 have L:=af (DR.o.trans d1);have aa:ah (aU w1 w.heap.size (Y l d.fH.length i) (Y r f vc) (Y b m a) d.fS.next d.seq d.tx d.base):=(kk _ _ d1 _ (by omega) DG.o.lt).trans DG.o
 have ac:ah (cQ w1 (w.heap.size+1) yT):=(kk _ _ d1 _ (by omega) DZ.o.lt).trans DZ.o
 clear d1 DR DG DZ KI;go_wp2_with fail;refine(nf 3 p ad c cap B w1 (by omega) R L.o.2 (L.o.code M.o u D) u).mono ?_
 rintro e w2 ⟨y,rfl,y0,y1,-,d2⟩;have y2:=y1 (by omega)
 have wy:IntKind.i64.wrap (1+y)=1+y:=by rw[cm];omega
 have ab:=L.o.trans d2;have an:aU w2 w.heap.size (Y l d.fH.length i) (Y r f vc) (Y b m a) d.fS.next d.seq d.tx d.base:=(kk _ _ d2 _ (by omega) aa.o.lt).trans aa.o
 have ae:cQ w2 (w.heap.size+1) yT:=(kk _ _ d2 _ (by omega) ac.o.lt).trans ac.o
 have C:=aR w2 (iC #[I J k,I J (1+y),I J 0,I J 0,iT ⟨#[]⟩] 55);have s:ah (Nx w (w2.alloc (iC #[I J k,I J (1+y),I J 0,I J 0,iT ⟨#[]⟩] 55)) w2.heap.size p ad c cap ⟨k,1+y,0,0,⟨#[]⟩⟩ (Y l d.fH.length i) (Y r f vc) (Y b m a) d.fS.next d.seq d.tx d.base):=
  ⟨ab.below (C.mono ab.1.size) D,aC _ _,ae.below C,an.below C,ae.lt,D⟩
 clear d2 L aa ac ab an ae C kk y1;have yv:=s.o.dev.cells.2.1;go_upto_if 17 with fail
 clear yv;generalize w2.alloc (iC #[I J k,I J (1+y),I J 0,I J 0,iT ⟨#[]⟩] 55)=w3 at s⊢;obtain⟨g,hg⟩:=aq w2.heap.size;rw[hg]at s;try rw[hg]
 clear hg;have t:ah (TQ ⟨k,1+y,0,0,⟨#[]⟩⟩):=⟨Wg,by show 1+y<=3;omega⟩
 obtain⟨q,hq⟩:=aq (⟨k,1+y,0,0,⟨#[]⟩⟩:Ak);rw[hq]at s t;clear hq wy y0 y2;go_cut [] (λV=>∃q:Ak,ah (TQ q)/\ah (Nx w V g p ad c cap q (Y l d.fH.length i) (Y r f vc) (Y b m a) d.fS.next d.seq d.tx d.base))
 case first=>
  obtain⟨m0,m1,m2,m3,m4⟩:=s.o.ask.cells;by_cases E:f=0
  ·have aH:((f:Int)==0)=iV:=by simp[E]
   have NV:=af (s.o.set (s.o.ask.set0 3));have f0:=s.o.ask.frz 0;clear E;go_wp2_with fail;go_meet
   case rel=>exact⟨⟨3,q.vol,q.sector,q.of,q.text⟩,t,NV⟩
  ·have aH:((f:Int)==0)=iF:=by rw[du];omega
   have aG:0<f:=by omega
   clear E;by_cases k3:(q.kind !=3)=iV
   ·by_cases k4:(q.kind !=4)=iV
    ·go_wp2_with fail;refine(EJ 8 p ad c cap B w3 (by omega) R s.o.dr.2 (s.o.cd M.o u) u).mono ?_
     rintro e x3 ⟨C,rfl,U⟩;have K:=af (s.o.draw U);clear U m0 m1 m2 m3 m4;cases C with
     |true=>
      go_wp2_with fail;go_meet
      case rel=>exact⟨_,t,K⟩
     |false=>
      obtain⟨vb,T,al,-⟩:=(ai.o _ K.o.dr).at (ay (show 0<d.fS.fV.length by have:=N.o;omega))
      subst al;have KK:ah (∀W q,Nx w W g p ad c cap q (Y l d.fH.length i) (Y (X ⟨vb,T,O⟩) f vc) (Y b m a) d.fS.next d.seq d.tx d.base->W.cell? ⟨w.heap.size,1,O⟩=X (Y (X ⟨vb,T,O⟩) f vc)/\∀j:Nat,j<f->W.cell? ⟨vb,T+j*2,O⟩=X (I J (d.fS.fV[j]?.getD (0,0)).1)):=λW q H=>by
       refine⟨H.dev.cells.2.1,λj hj=>?_⟩
       have ap:j<d.fS.fV.length:=by rw[N.o];exact hj
       obtain⟨b',o',e,-,qq,-⟩:=(ai.o _ H.dr).at (ay ap);injection e with e
       injection e with e1 e2
       subst e1 e2;rw[ay ap];exact qq
      have CB:ah (∀W,Nx w W g p ad c cap q (Y l d.fH.length i) (Y (X ⟨vb,T,O⟩) f vc) (Y b m a) d.fS.next d.seq d.tx d.base->iK Tryz.prog 44 #[iP (X ⟨p,0,O⟩),I J (f:Int)] W λe w'=>∃k:Nat,e=G (I J (k:Int))/\k<f/\ah (Nx w w' g p ad c cap q (Y l d.fH.length i) (Y (X ⟨vb,T,O⟩) f vc) (Y b m a) d.fS.next d.seq d.tx d.base)):=λW H=>by
       refine(nf (f:Int) p ad c cap B W (by omega) R H.dr.2 (H.cd M.o u) u).mono ?_
       rintro e w' ⟨x,rfl,x0,x1,-,hS⟩;exact⟨x.toNat,by rw[Int.toNat_of_nonneg x0],by have:=x1 (by omega);omega,H.draw hS⟩
      have ao:ah (Nx w x3.drew g p ad c cap q (Y l d.fH.length i) (Y (X ⟨vb,T,O⟩) f vc) (Y b m a) d.fS.next d.seq d.tx d.base):=K.o.below (az _ _).drew;go_upto_region 5 with fail
      go_region_held3 (λw'=>w'.cell? ⟨w.heap.size,1,O⟩=X (Y (X ⟨vb,T,O⟩) f vc)/\∀j:Nat,j<f->w'.cell? ⟨vb,T+j*2,O⟩=X (I J (d.fS.fV[j]?.getD (0,0)).1)) (first|exact KK.o _ _ ao.o|exact KK.o _ _ S4.o|exact KK.o _ _ NV.o) (first
       |(go_at_call 44;(with_reducible refine cj (CB.o _ ao.o) ?_);rintro en x4 ⟨k3,rfl,aB,S4⟩;have NV:=af (S4.o.set (S4.o.ask.set1 (d.fS.fV[k3]?.getD (0,0)).1));have kc:=S4.o.ask.cells.2.1;have kf:=S4.o.ask.frz 1;have kb:=(KK.o _ _ S4.o).2 k3 aB;have ki:(k3:Int)<f:=by omega))
      all_goals
       go_wp2_with fail;go_meet
       case rel=>exact⟨⟨q.kind,(d.fS.fV[k3]?.getD (0,0)).1,q.sector,q.of,q.text⟩,⟨t.o.1,av.o k3⟩,NV⟩
    ·have k4:(q.kind !=4)=iF:=by simpa using k4
     go_wp2_with fail;go_meet
     case rel=>exact⟨_,t,s⟩
   ·have k3:(q.kind !=3)=iF:=by simpa using k3
    go_wp2_with fail;go_meet
    case rel=>exact⟨_,t,s⟩
 case rest=>
  obtain⟨V,hV⟩:∃V,V=wc:=⟨_,rfl⟩;subst hV;clear s t q;obtain⟨q,t,s⟩:=hcut;go_upto_region 6 with fail
  go_cut [52] (λaI V=>∃(bb:Bool) (q:Ak),aI=iB bb/\ah (TQ q)/\ah (Nx w V g p ad c cap q (Y l d.fH.length i) (Y r f vc) (Y b m a) d.fS.next d.seq d.tx d.base))
  case first=>
   obtain⟨m0,m1,m2,m3,m4⟩:=s.o.ask.cells;by_cases k5:(q.kind==5)=iV
   ·go_wp2_with fail;refine(EJ 3 p ad c cap B V (by omega) R s.o.dr.2 (s.o.cd M.o u) u).mono ?_
    rintro e x3 ⟨C,rfl,U⟩;have K:=af (s.o.draw U);clear U;go_wp2_with fail;go_meet
    case rel=>exact⟨!C,q,rfl,t,K⟩
   ·have k5:(q.kind==5)=iF:=by simpa using k5
    go_wp2_with fail;go_meet
    case rel=>exact⟨iF,q,rfl,t,s⟩
  case rest=>
   obtain⟨bb,q2,ar,ag,N4⟩:=hcut;subst ar;obtain⟨V2,aw⟩:∃V2,V2=wc:=⟨_,rfl⟩;subst aw;clear s t;go_upto_if 52 with fail
   go_cut [] (λV=>∃q:Ak,ah (TQ q)/\ah (Nx w V g p ad c cap q (Y l d.fH.length i) (Y r f vc) (Y b m a) d.fS.next d.seq d.tx d.base))
   case first=>
    cases bb with
    |false=>
     go_wp2_with fail;go_meet
     case rel=>exact⟨q2,ag,N4⟩
    |true=>
     have NV:=af (N4.o.set (N4.o.ask.set0 1));have m0:=N4.o.ask.cells.1;have f0:=N4.o.ask.frz 0;go_wp2_with fail;go_meet
     case rel=>exact⟨⟨1,q2.vol,q2.sector,q2.of,q2.text⟩,ag,NV⟩
   case rest=>
    obtain⟨V3,ax⟩:∃V3,V3=wc:=⟨_,rfl⟩;subst ax;clear N4 ag q2 q;obtain⟨q,t,n⟩:=hcut;have m0:=n.o.ask.cells.1;go_upto_block 0 with fail
    clear m0;go_cut [] (λV=>∃q:Ak,ah (TQ q)/\ah (Nx w V g p ad c cap q (Y l d.fH.length i) (Y r f vc) (Y b m a) d.fS.next d.seq d.tx d.base))
    case first=>
     by_cases c1:(q.kind==1)=iV
     ·go_wp2_with fail;refine(Uu p ad c cap B V3 R n.o.dr.2 (n.o.cd M.o u) u).mono ?_;rintro e x3 ⟨tx,rfl,aF,U⟩;have K:=af (n.o.draw U);have N6:=af (K.o.set (K.o.ask.set4 tx));have m4:=K.o.ask.cells.2.2.2.2;have f4:=K.o.ask.frz 4;clear U n;go_upto_region 11 with fail
      clear m4 f4;generalize x3.setCell ⟨g,4,O⟩ (iT tx)=x4 at N6⊢;go_wp2_with fail;refine(nf 16 p ad c cap B x4 (by omega) R N6.o.dr.2 (N6.o.cd M.o u) u).mono ?_
      rintro e x9 ⟨F,rfl,z0,z1,-,d9⟩;have z2:=z1 (by omega)
      have z:=af (N6.o.draw d9);have A:=af (z.o.set (z.o.ask.set2 F));have m2:=z.o.ask.cells.2.2.1;have f2:=z.o.ask.frz 2;go_wp2_with fail;go_meet
      case rel=>exact⟨⟨q.kind,q.vol,F,q.of,tx⟩,⟨bJ.2 ⟨tx,aF.o,rfl⟩,t.o.2⟩,A⟩
     have c1:(q.kind==1)=iF:=by simpa using c1
     by_cases Q:(q.kind==2)=iV∨(q.kind==2)=iF/\(q.kind==6)=iV
     ·rcases Q with c2|⟨c2,c6⟩
      all_goals
       go_wp2_with fail;refine(nf 16 p ad c cap B V3 (by omega) R n.o.dr.2 (n.o.cd M.o u) u).mono ?_
       rintro e x9 ⟨F,rfl,z0,z1,-,d9⟩;have z2:=z1 (by omega)
       have z:=af (n.o.draw d9);have A:=af (z.o.set (z.o.ask.set2 F));have m2:=z.o.ask.cells.2.2.1;have f2:=z.o.ask.frz 2;go_wp2_with fail;go_meet
       case rel=>exact⟨⟨q.kind,q.vol,F,q.of,q.text⟩,t,A⟩
     have c2:(q.kind==2)=iF:=by
      cases h:(q.kind==2)with
      |true=>exact absurd (.inl h) Q
      |false=>rfl
     have c6:(q.kind==6)=iF:=by
      cases h:(q.kind==6)with
      |true=>exact absurd (.inr ⟨c2,h⟩) Q
      |false=>rfl
     clear Q;by_cases c4:(q.kind==4)=iV
     ·go_wp2_with fail;refine(nf 3 p ad c cap B V3 (by omega) R n.o.dr.2 (n.o.cd M.o u) u).mono ?_
      rintro e x9 ⟨F,rfl,z0,z1,-,d9⟩;have z2:=z1 (by omega)
      have z:=af (n.o.draw d9);have wz:IntKind.i64.wrap (1+F)=1+F:=by rw[cm];omega
      have A:=af (z.o.set (z.o.ask.set3 (1+F)));have m3:=z.o.ask.cells.2.2.2.1;have f3:=z.o.ask.frz 3;clear d9 n;go_upto_region 17 with fail
      clear m3 f3 z wz;generalize x9.setCell ⟨g,3,O⟩ (I J (1+F))=aK at A⊢;have yv:=A.o.dev.cells.2.1;by_cases E:(f:Int)>0
      ·obtain⟨vb,T,al,-,kb,-⟩:=(ai.o _ A.o.dr).at (ay (show 0<d.fS.fV.length by have:=N.o;omega))
       subst al;obtain⟨S,Z⟩:∃S,(d.fS.fV[0]'(by have:=N.o;omega)).1=S:=⟨_,rfl⟩
       rw[Z,mW,pP]at kb;have aG:(0:Int)<f:=E;have N8:=af (A.o.set (A.o.ask.set3 S));have m3:=A.o.ask.cells.2.2.2.1;have f3:=A.o.ask.frz 3;clear Z;go_wp2_with fail;go_meet
       case rel=>exact⟨⟨q.kind,q.vol,q.sector,S,q.text⟩,t,N8⟩
      ·go_wp2_with fail;go_meet
       case rel=>exact⟨⟨q.kind,q.vol,q.sector,1+F,q.text⟩,t,A⟩
     have c4:(q.kind==4)=iF:=by simpa using c4
     go_wp2_with fail;go_meet
     case rel=>exact⟨_,t,n⟩
    case rest=>
     obtain⟨V4,aA⟩:∃V4,V4=wc:=⟨_,rfl⟩;subst aA;clear n t;obtain⟨q2,t,n⟩:=hcut;obtain⟨m0,m1,m2,m3,m4⟩:=n.o.ask.cells;obtain⟨j0,j1,j2,j3,j4⟩:=n.o.zer.cells;have r0:=n.o.zer.frz 0;have r1:=n.o.zer.frz 1;have r2:=n.o.zer.frz 2;have r3:=n.o.zer.frz 3;have r4:=n.o.zer.frz 4;have FE:=af (n.o.fin);unfold ue at FE;clear n;go_wp2;refine aE (PX (p:=4) rfl _ _ (w.heap.size+1) _ rfl FE.o.1) rfl ?_;exact⟨_,rfl,t.o,FE.o.2⟩
open Pack
variable{L:List aM}
theorem QQ(h:cO T n d)(I:dZ d (hJ d.fS) aQ=(L,iV)):cO T n (gn d L):=by
 have H:hJ d.fS≠ []:=by unfold hJ;simp
 obtain⟨cs,D,J,C,h1,E,-,h4,q,w,y,F,-,-,g⟩:=Eu h.up H I;have l:d.tx=gL (au d.fH):=congrArg Dv.tx h.up.is;have r:D=[]:=by
  rcases F with⟨-,e⟩|⟨e,-⟩
  ·exact e
  ·exact absurd rfl e
 subst r;have G:C.base=iV:=by
  unfold TxR.base;rw[y];rfl
 obtain⟨m,m1,m2,A,B⟩:=Vh h.st Bi;have a:(jz cs).fS=m:=by
  show fk (cI (au cs))=_;rw[g,G];simp only[dw];show(jd ii C.fR).1=m;unfold jd;rw[y,m1]
 have t:∀c,bp (au cs) c=bp (au d.fH) c:=λc=>by
  rw[h4,dS,qW,FH (λx b=>(q x b).1)]
  rfl
 have o:∀c,bI (au cs) c=bI (au d.fH) c:=λc=>by unfold bI;rw[t]
 have f:aI m=aI d.fS:=OQ A;rw[h1];have u:∀v∈m.fV,v.1<=3:=AZ h.vi (λp z=>by rw[A]at z;exact Jz z)
 refine⟨⟨E,rfl⟩,by rw[a];exact m2,?_,?_,?_,?_,?_,?_,by rw[a];exact u⟩
 ·show jq (au cs);rw[h4];exact Hx h.hd (λx b k=>by rw[w,l];exact zi _ x b k) (λx b=>by cases b) (λx b=>by rw[w];exact q x b) (by rw[<-h4];exact g)
 ·intro c i;rw[a,f]at i;show∃x∈au cs,_;rw[h4];exact Cc _ _ (h.lv c i)
 ·intro x b k;change x∈au cs at b;rw[h4,dS]at b;rcases bG.1 b with b|b
  ·exact h.tx x b k
  ·have:=(q x b).1;omega
 ·intro c i c' j s;rw[a,f]at i j;change bI (au cs) c=bI (au cs) c' at s;rw[o,o]at s;exact h.df c i c' j s
 ·intro x b k;change x∈au cs at b;rw[a,B];rw[h4,dS]at b;rcases bG.1 b with b|b
  ·exact h.dn x b k
  ·have:=(q x b).1;omega
 ·rw[a,B];exact h.nx
theorem Kq(b:Int):∀{L:List TxR},(L.map (·.num)).Pairwise (·<·)->L=L.filter (λt=> !decide (b<=t.num))++L.filter (λt=>decide (b<=t.num))
 | [],_=>rfl
 |t::L,h=>by
  rw[cn,fQ]at h;have c:=Kq b h.2;rw[gP,gP];by_cases d:b<=t.num
  ·have a:L.filter (λt=> !decide (b<=t.num))=[]:=by
    rw[mV];intro u e;have:=h.1 u.num (pj e);simp;omega
   rw[a]at c;simp only[d,rE,Bool.not_true,eS,fb,dw,a,jT]at c⊢;rw[<-c]
  ·simp only[d,pe,Bool.not_false,dw,eS,fb,jl];rw[<-c]
variable{M:List an}
theorem Yt{t:TxR}{L:List TxR}(h:cI M=t::L):(dF (M.map an.fP)).filter (λu=>decide (t.num<=u.num))=t::L:=by
 obtain⟨A,c⟩:=Jk (dF (M.map an.fP));change dF (M.map an.fP)=A++cI M at c;have b:=Hj (M.map an.fP);rw[c,h]at b⊢;rw[fm,cn,iu,fQ]at b;rw[ir,mV.2 (λu a=>?_),jT,List.filter_eq_self.2 (λu a=>?_)]
 ·rcases aX.1 a with rfl|a
  ·simp
  ·have:=b.2.1.1 u.num (pj a);simp;omega
 ·have:=b.2.2 u.num (pj a) t.num (by simp)
  simp;omega
theorem Xt{p:an->Bool}(f:jq M)(h:∀x∈M,p x=iF->x.fP.kind=2->x.fP.tx<mh (cI M)):cI (M.filter p)=cI M/\jq (M.filter p):=by
 have b:∀x∈M.filter p,x∈M:=λx c=>(eh.1 c).1
 cases g:cI M with
 |nil=>
  unfold jq at f;rw[g]at f;simp only at f;have k:dF ((M.filter p).map an.fP)=[]:=by
   cases k:dF ((M.filter p).map an.fP)with
   |nil=>rfl
   |cons u L=>
    obtain⟨q,l,i,-⟩:=Dj (ps:=(M.filter p).map an.fP) (t:=u) (by rw[k];simp)
    obtain⟨x,c,rfl⟩:=bJ.1 l;exact absurd i (f x (b x c))
  have e:cI (M.filter p)=[]:=by unfold cI;rw[k];rfl
  refine⟨e,?_⟩;unfold jq;rw[e];exact λx c=>f x (b x c)
 |cons t L=>
  have m:mh (cI M)=t.num:=by rw[g];rfl
  rw[m]at h;have hcut:(dF ((M.filter p).map an.fP)).filter (λu=>decide (t.num<=u.num))=t::L:=by
   rw[<-Yt g];refine Qu t.num (λx c=>?_)
   rw[List.filter_map,List.filter_map,tH];congr 1;apply List.filter_congr;intro y hy;cases n:p y with
   |true=>simp
   |false=>
    simp only[vH,Function.comp_apply]
    symm
    cases hi:kR x y.fP with
    |false=>rfl
    |true=>
     simp only[kR,bH]at hi;have:=h y hy n hi.1;omega
  have d:=Kq t.num (Hj ((M.filter p).map an.fP));rw[hcut]at d;have a:=f;unfold jq at a;rw[g]at a;simp only at a;have e:cI (M.filter p)=t::L:=by
   unfold cI;rw[d];refine XH ?_ ?_ (by simp)
   ·have:=Xe (dF (M.map an.fP));change∀u∈(cI M).tail,u.base=iF at this;rw[g]at this;exact this
   ·intro u j;simp only[List.head?_cons,fu]at j;subst j;rcases a with a|a
    ·exact .inl a
    ·right;rw[mV];intro u j;obtain⟨q,l,i,o⟩:=Dj j;obtain⟨x,c,rfl⟩:=bJ.1 l;have:=a x (b x c) i;simp;omega
  refine⟨e,?_⟩;unfold jq;rw[e];rcases a with a|a
  ·exact .inl a
  ·exact .inr (λx c i=>a x (b x c) i)
theorem Ow{l:List α}{p:α->Bool}{x:α}(h:l.getLast?=X x)(a:p x=iV):(l.filter p).getLast?=X x:=by
 obtain⟨m,e⟩:=zm.1 h;rw[e,ir,oq a];simp
variable{x:an}
theorem Pk{p:an->Bool}(h:bp M c=X x)(b:p x=iV):bp (M.filter p) c=X x:=by
 unfold bp at h⊢;rw[tH,show(λa=>cW c a&&p a)=(λa=>p a&&cW c a)from funext λa=>tN _ _,<-tH]
 exact Ow h b
variable{cs:List Bk}
theorem aaj {p:an->Bool} (h:cO T n d) (o:bo cs=iV) (hs:au cs=(au d.fH).filter p) (v:∀x∈au d.fH,p x=iF->x.fP.kind=2->x.fP.tx<d.base)
 (u:∀c∈aI d.fS,∀x,bp (au d.fH) c=X x->p x=iV):cO T n (jz cs)/\(jz cs).fS=d.fS:=by
 have g:d.base=mh (cI (au d.fH)):=congrArg Dv.base h.up.is;have q:d.fS=fk (cI (au d.fH)):=congrArg Dv.fS h.up.is;obtain⟨r,s⟩:=Xt h.hd (p:=p) (by rw[<-g];exact v)
 rw[<-hs]at r s;have a:(jz cs).fS=d.fS:=by
  show fk (cI (au cs))=_;rw[r,<-q]
 have f:∀x∈au cs,x∈au d.fH:=λx e=>by rw[hs]at e;exact(eh.1 e).1
 have j:∀c∈aI d.fS,bp (au cs) c=bp (au d.fH) c:=λc b=>by
  obtain⟨x,t,e,-,-⟩:=h.has b;rw[hs,e];exact Pk e (u c b x e)
 have k:∀c∈aI d.fS,bI (au cs) c=bI (au d.fH) c:=λc b=>by unfold bI;rw[j c b]
 refine⟨⟨⟨o,rfl⟩,by rw[a];exact h.st,s,?_,λx e m=>h.tx x (f x e) m,?_,?_,(by rw[a];exact h.nx),by rw[a];exact h.vi⟩,a⟩
 ·intro c b;rw[a]at b;obtain⟨x,t,e,-,-⟩:=h.has b;have:=j c b;rw[e]at this;exact⟨x,(ph this).1,(ph this).2⟩
 ·intro c b c' i l;rw[a]at b i;change bI (au cs) c=bI (au cs) c' at l;rw[k c b,k c' i]at l;exact h.df c b c' i l
 ·intro x e m;rw[a];exact h.dn x (f x e) m
def pT(b:Bk):Bool:=b.2.2.all (λt=>t.1==0)
def pB(d:Dv):List Int:=(List.range d.fH.length).filterMap λ(b:Nat)=>match d.fH[b]? with
 |none=>O
 |some x=>if !x.1&& !pT x&&decide (iq (au d.fH) (aI d.fS) d.base (b:Int)=0)then X (b:Int)else O
theorem Pq{b:Int}(h:b∈pB d):∃(k:Nat) (x:Bk),b=k/\d.fH[k]?=X x/\x.1=iF/\iq (au d.fH) (aI d.fS) d.base b=0:=by
 obtain⟨k,-,e⟩:=tS.1 h;cases a:d.fH[k]? with
 |none=>rw[a]at e;cases e
 |some x=>
  rw[a]at e;simp only at e;split at e
  ·rename_i hc
   injection e with e
   simp only[bn,ng,bH]at hc;subst e;exact⟨k,x,rfl,a,hc.1.1,hc.2⟩
  ·cases e
theorem YM{b:Int}(h:cO T n d)(z:b∈pB d):cO T n (gn d [(2,b,0,aQ)]):=by
 obtain⟨k,x,rfl,e,v,l⟩:=Pq z;unfold gn;rw[Jh];by_cases a:(cR d.fH (2,(k:Int),0,aQ)).2=iV
 ·rw[ak a];have m:cR d.fH (2,(k:Int),0,aQ)=gE d.fH (k:Int):=by unfold cR;simp
  rw[m]at a⊢;have B:gE d.fH (k:Int)=(d.fH.modify k (λr=>(iF,r.2.1+1,eW)),iV):=by
   unfold gE at a⊢;split at a
   ·rename_i f
    rw[ak f,bk]
   ·cases a
  have s:x.2.1+1<=1000000000/\0<=x.2.1:=by
   have h1:=(xE ((vX h.up.ok).2 x (aO e))).2.1;unfold gE at a;split at a
   ·rename_i f
    rw[bn]at f;have o:=f.2;unfold qG at o;rw[bk,e]at o;simp only[bH]at o;omega
   ·cases a
  rw[B];simp only;have g:bo (d.fH.modify k (λr=>(iF,r.2.1+1,eW)))=iV:=by
   refine Ii h.up.ok (λq w=>?_)
   rw[e]at w;cases w;exact El _ _ (by omega)
  unfold fj;rw[ak g];have p:=RY e (vD h.up.ok x (aO e));refine(aaj h g p ?_ ?_).1
  ·intro y hy j A;simp only[Bool.not_eq_false',bH]at j;have i:mq (au d.fH) (aI d.fS) d.base y=iF:=by
    rw[yG _ _ _ (vA _) (λx e=>tE e)]at l
    have:=gK l;rw[mV]at this;have:=this y hy
    simpa[j]using this
   unfold mq at i;rw[ak A]at i;simp at i;exact i
  ·intro c f y hy;obtain⟨t,u⟩:=ph hy;obtain⟨D,C⟩:=vK u;simp only[ng,qO];intro j;rw[yG _ _ _ (vA _) (λx e=>tE e)]at l
   have:=gK l;rw[mV]at this;have:=this y t;unfold mq at this;rw[aj (by omega),C,hy]at this
   simp[j,Du,f]at this
 ·rw[aj a];unfold fj;rw[ak h.up.ok];have:=h.up.is;simp only;rw[<-this];exact h
theorem Yc(x:Bool)(y:Int)(v:iX)(ls:List (Int×ByteArray))(w:iW)(T:ls.length<=1048576)(A:jf w v ls):
 iK Tryz.prog 210 #[iA #[iB x,I J y,v]] w λe w'=>e=G (iB (pT (x,y,ls)))/\iL w.heap.size w w':=by
 have B:=A;obtain⟨ad,a,rfl,-,-⟩:=B;have m:=af ((az w.heap.size w).alloc (am _) (iC #[iB x,I J y,Y ad ls.length a] 81));have q:=af (A.below m.o);have s:ah (pT (x,y,ls)=ls.all (λt=>t.1==0)):=rfl
 obtain⟨R,M⟩:=aq (pT (x,y,ls));rw[M]at s⊢;clear A M;go_enter Tryz.func210,Tryz.ntmps210;go_wp2;have b:=ai _ _ 2 _ _ _ (aC w (iC #[iB x,I J y,Y ad ls.length a] 81));have d:ah ((w.alloc (iC #[iB x,I J y,Y ad ls.length a] 81)).cell? ⟨w.heap.size,2,O⟩=X (Y ad ls.length a)):=b;have f:=af (show(w.alloc (iC #[iB x,I J y,Y ad ls.length a] 81)).heap.size=w.heap.size+1 by simp)
 clear b;generalize w.alloc (iC #[iB x,I J y,Y ad ls.length a] 81)=K at m q d f⊢;go_loopw [3] (λH wr=>∃k:Nat,k<=ls.length/\H=I J k/\ah (∀(j:Nat) (u:Int×ByteArray),j<k->ls[j]?=X u->u.1=0)/\ah (iL K.heap.size K wr)) (λH _=>ls.length-(intOf H).toNat)
 case atStart=>exact⟨0,aK _,rfl,(show∀(j:Nat) (u:Int×ByteArray),j<0->ls[j]?=X u->u.1=0 from λj u p=>by omega),az _ _⟩
 case round=>
  obtain⟨k,S,rfl,L,n⟩:=hrel;have b:wr.cell? ⟨w.heap.size,2,O⟩=X (Y ad ls.length a):=(n.o.cell (show w.heap.size<K.heap.size by have:=f.o;omega)).trans d.o
  have c:=af (m.o.trans (n.o.mono m.o.size));by_cases Q:(k:Int)<ls.length
  ·obtain⟨g,lo,P⟩:=q.o.head (by omega)
   subst P;have D:k<ls.length:=by omega
   obtain⟨z,t,E⟩:∃z t,ls[k]?=X (z,t):=⟨ls[k].1,ls[k].2,ay D⟩;obtain⟨c1,-⟩:=(q.o.below n.o).two E;simp only at c1;have h:=af E;have U:(0:Int)<=k:=by omega
   clear E;by_cases l:z=0
   ·have F:(z !=0)=iF:=by simp[l]
    have N:=af l;clear l;go_wp2;go_roundw
    case rel=>
     refine⟨k+1,by omega,by go_num,af (λj u p i=>?_),n⟩
     by_cases C:j=k
     ·subst C;rw[h.o]at i;cases i;exact N.o
     ·exact L.o j u (by omega) i
    case measure=>simp[intOf];omega
   ·have F:(z !=0)=iV:=by simpa using l
    have r:ah (R=iF):=by
     show _=_;rw[s.o,sX];exact⟨_,aO h.o,by simpa using l⟩
    go_wp2;go_ret;exact⟨by rw[r.o];rfl,c.o⟩
  ·have r:ah (R=iV):=by
    show _=_;rw[s.o,gV];intro u i;obtain⟨j,p⟩:=io i;have:=L.o j u (by have:=(aB.1 p).1;omega) p
    simp[this]
   go_wp2;go_ret;exact⟨by rw[r.o];rfl,c.o⟩
def gG(x:an):iX:=iA #[I J x.block,I J x.leaf,I J x.fP.kind,I J x.fP.seq,I J x.fP.tx,I J x.fP.part,I J x.fP.count,iT x.fP.text]
def jC(x:an):List iX:=[I J x.block,I J x.leaf,I J x.fP.kind,I J x.fP.seq,I J x.fP.tx,I J x.fP.part,I J x.fP.count,iT x.fP.text]
theorem Hl:(Tryz.prog.info? 53).map (λi=>(i.zero,i.size,i.bytes))=X (X (iA #[I J 0,I J 0,I J 0,I J 0,I J 0,I J 0,I J 0,iT ⟨#[]⟩]),8,72):=by kernel_rfl
def mP(l:List an):List iX:=l.flatMap jC
theorem FZ(l:List an)(x:an):mP l++jC x=mP (l++[x]):=by simp[mP]
theorem KL(x:an):∀u∈jC x,u.oneCell'=iV:=by
 intro u a;simp[jC]at a;rcases a with h|h|h|h|h|h|h|h<;>subst h<;>rfl
theorem PB:∀(l:List an) (i:Nat) (x:an),l[i]?=X x->∀j v,(jC x)[j]?=X v->(mP l)[i*8+j]?=X v:=by
 intro l
 induction l with
 |nil=>intro i x h;simp at h
 |cons y l b=>
  intro i x h j v a;have c:j<8:=(aB.1 a).1;have e:mP (y::l)=jC y++mP l:=by simp[mP]
  rw[e];cases i with
  |zero=>
   simp at h;subst h;rw[hI (by show 0*8+j<8;omega)]
   simpa using a
  |succ i=>
   rw[nH]at h;rw[ct (by show 8<=(i+1)*8+j;omega)]
   have:(i+1)*8+j-(jC y).length=i*8+j:=by show(i+1)*8+j-8=_;omega
   rw[this];exact b i x h j v a
def iH(w:iW)(a:Option Addr)(c:Nat)(ls:List an):Prop:=
 ls.length=c/\c<=maxLen/\(0<c->∃b d,a=X ⟨b,d,O⟩/\b<w.heap.size/\∀i t,ls[i]?=X t->∀j v,(jC t)[j]?=X v->w.cell? ⟨b,d+(i*8+j),O⟩=X v)
theorem iH.below{w w':iW}{a:Option Addr}{c:Nat}{ls:List an}(h:iH w a c ls)(f:iL w.heap.size w w'):iH w' a c ls:=by
 obtain⟨h1,g,h4⟩:=h;refine⟨h1,g,λh0=>?_⟩
 obtain⟨b,d,e,l,k⟩:=h4 h0;have hs:=f.size;exact⟨b,d,e,by omega,λi t m j v n=>(f.cell (show b<w.heap.size from l)).trans (k i t m j v n)⟩
theorem iH.at{w:iW}{a:Option Addr}{f:Nat}{ls:List an}(h:iH w a f ls){t:an}(g:ls[k]?=X t):
 ∃b c,a=X ⟨b,c,O⟩/\b<w.heap.size/\w.cell? ⟨b,c+k*8,O⟩=X (I J t.block)/\w.cell? ⟨b,c+k*8+1,O⟩=X (I J t.leaf)/\
  w.cell? ⟨b,c+k*8+2,O⟩=X (I J t.fP.kind)/\w.cell? ⟨b,c+k*8+2+1,O⟩=X (I J t.fP.seq)/\w.cell? ⟨b,c+k*8+2+2,O⟩=X (I J t.fP.tx)/\
  w.cell? ⟨b,c+k*8+2+3,O⟩=X (I J t.fP.part)/\w.cell? ⟨b,c+k*8+2+4,O⟩=X (I J t.fP.count)/\w.cell? ⟨b,c+k*8+2+5,O⟩=X (iT t.fP.text):=by
 obtain⟨h1,-,h4⟩:=h;have j:=(aB.1 g).1;obtain⟨b,c,e,i,d⟩:=h4 (by omega)
 have d:=d k t g;refine⟨b,c,e,i,d 0 _ rfl,?_,?_,?_,?_,?_,?_,?_⟩
 ·have:=d 1 _ rfl;rwa [<-ma]at this
 ·have:=d 2 _ rfl;rwa [<-ma]at this
 ·have:=d 3 _ rfl;rwa [<-ma]at this
 ·have:=d 4 _ rfl;rwa [<-ma]at this
 ·have:=d 5 _ rfl;rwa [<-ma]at this
 ·have:=d 6 _ rfl;rwa [<-ma]at this
 ·have:=d 7 _ rfl;rwa [<-ma]at this
variable{bs:List Bk}
theorem DX{b leaf:Int}(h:¬(0<=b/\b<=(bs.length:Int)-1)):dl bs b leaf=(⟨#[]⟩,iF):=by
 unfold dl;cases a:bs[b.toNat]? with
 |none=>rfl
 |some r=>
  have:=(aB.1 a).1;simp only;cases d:r.2.2[leaf.toNat]? with
  |none=>rfl
  |some t=>exact aj (λc=>h ⟨c.1,by omega⟩)
theorem FV{r:Bk}{leaf:Int}(c:bs[k]?=X r)(h:¬(0<=leaf/\leaf<=(r.2.2.length:Int)-1)):dl bs (k:Int) leaf=(⟨#[]⟩,iF):=by
 unfold dl;rw[bk,c];simp only;cases b:r.2.2[leaf.toNat]? with
 |none=>rfl
 |some t=>
  have:=(aB.1 b).1;exact aj (λa=>h ⟨a.2.1,by omega⟩)
theorem JM{r:Bk}{t:Int×ByteArray}(b:bs[k]?=X r)(c:r.2.2[j]?=X t):(t.1=1->dl bs (k:Int) (j:Int)=(t.2,iV))/\(t.1≠1->dl bs (k:Int) (j:Int)=(⟨#[]⟩,iF)):=by
 unfold dl;rw[bk,b];simp only;rw[bk,c];exact⟨λh=>ak ⟨by omega,by omega,h⟩,λh=>aj (λa=>h a.2.2)⟩
theorem Vj(v:iX)(rs:List Rw)(b leaf:Int)(w:iW)(W:rs.length<=1048576)(F:∀r∈rs,r.2.2.2.length<=1048576)(f:mJ rs)(S:dX w v rs):
 iK Tryz.prog 107 #[iA #[v],I J b,I J leaf] w λe w'=>e=G (iU #[iT (dl (rs.map aw) b leaf).1,iB (dl (rs.map aw) b leaf).2])/\iL w.heap.size w w':=by
 have h1:=S;obtain⟨T,a,rfl,-⟩:=h1;have Q:=af F;have R:=af f;have c:=af ((az w.heap.size w).alloc (am _) (iC #[Y T rs.length a] 26));have N:=af (S.below c.o);clear S F f;go_enter Tryz.func107,Tryz.ntmps107;go_wp2_with fail;generalize w.alloc (iC #[Y T rs.length a] 26)=w2 at c N⊢;by_cases K:0<=b/\b<=(rs.length:Int)-1
 ·obtain⟨k,rfl⟩:∃k:Nat,b=k:=⟨b.toNat,by omega⟩
  have D:k<rs.length:=by omega
  have q:rs[k]?=X rs[k]:=ay D;generalize rs[k]=r at q;obtain⟨g,m,-,-⟩:=N.o.at q;subst m;refine(Og g rs.length a k _ W D).mono ?_;rintro e w3 ⟨rfl,p⟩;have O:=af (N.o.below p);have d:=af (c.o.trans (p.mono c.o.size));have h:=aO q;have n:=Q.o r h;have f:=R.o r h;obtain⟨g',m,⟨-,-,c3⟩,E⟩:=O.o.at q;injection m with m
  injection m with m
  subst m;have A:ah ((rs.map aw)[k]?=X (aw r)):=by show _=_;rw[bi,q];rfl
  obtain⟨x,y,u,ls⟩:=r;simp only at c3;simp only at E n f;obtain⟨ld,i,rfl,-,Z⟩:=E;have L3:=af Z;have B:=af f;clear q h Z K p f;by_cases L:0<=leaf/\leaf<=(ls.length:Int)-1
  ·obtain⟨j,rfl⟩:∃j:Nat,leaf=j:=⟨leaf.toNat,by omega⟩
   have C:j<ls.length:=by omega
   obtain⟨z,t,M⟩:∃z t,ls[j]?=X (z,t):=⟨ls[j].1,ls[j].2,ay C⟩;obtain⟨gl,lo,el,d1,d2⟩:=L3.o j (z,t) M;subst el;simp only at d1 d2;have H:=B.o _ (aO M);simp only at H;have U:=af (JM (t:=(z,t)) A.o M);clear M L;go_wp2_with fail;refine(PY g (k*3) gl lo ls.length i j _ n C c3).mono ?_;rintro e w4 ⟨rfl,rfl⟩;by_cases s:z=1
   ·have l:ah (dl (rs.map aw) (k:Int) (j:Int)=(t,iV)):=U.o.1 s;have e1:(z !=1)=iF:=by simp[s]
    clear s;go_wp2_with fail;refine(Vg t _ H).mono ?_;rintro e w5 ⟨rfl,V⟩;have P:=af (d.o.trans (V.mono d.o.size));clear V;go_wp2;go_ret2;exact⟨by rw[l.o];rfl,P.o⟩
   ·have l:ah (dl (rs.map aw) (k:Int) (j:Int)=(⟨#[]⟩,iF)):=U.o.2 s;have e1:(z !=1)=iV:=by simp[s]
    clear s;go_wp2;go_ret2;exact⟨by rw[l.o];rfl,d.o⟩
  ·have l:ah (dl (rs.map aw) (k:Int) leaf=(⟨#[]⟩,iF)):=FV A.o L;go_wp2_with fail;refine(So g (k*3) ls.length i ld leaf _ n L c3).mono ?_;rintro e w4 ⟨rfl,rfl⟩;clear L;go_wp2;go_ret2;exact⟨by rw[l.o];rfl,d.o⟩
 ·have l:ah (dl (rs.map aw) b leaf=(⟨#[]⟩,iF)):=DX (by rw[bm];exact K)
  refine(YK T rs.length a b _ W K).mono ?_;rintro e w3 ⟨rfl,p⟩;have d:=af (c.o.trans (p.mono c.o.size));clear K p;go_wp2;go_ret2;exact⟨by rw[l.o];rfl,d.o⟩
def dC(p:Pg):iX:=iA #[I J p.kind,I J p.seq,I J p.tx,I J p.part,I J p.count,iT p.text]
def vw(k q c:Int):Prop:=k=1/\c=1/\q=0∨k=2/\1<=c/\c<=9/\0<=q/\q<c
def oI(k q c:Int):Bool:=decide (k=1/\c=1/\q=0∨k=2/\1<=c/\c<=9/\0<=q/\q<c)
theorem aar{k q:Int}(h:vw k q c):oI k q c=iV:=rl h
theorem XW{k q:Int}(h:¬vw k q c):oI k q c=iF:=kh h
theorem JA(k s x q c:Int)(t:ByteArray)(w:iW):
 iK Tryz.prog 236 #[iA #[I J k,I J s,I J x,I J q,I J c,iT t]] w λe w'=>e=G (iB (oI k q c))/\iL w.heap.size w w':=by
 have f:=af ((az w.heap.size w).alloc (am _) (iC #[I J k,I J s,I J x,I J q,I J c,iT t] 44));by_cases h1:k=1
 ·subst h1;have d:ah (oI 1 q c=(decide (c=1)&&decide (q=0))):=by
   show _=_;by_cases a:c=1<;>by_cases b:q=0<;>simp[oI,a,b]
  by_cases a:(c==1)=iV
  ·go_enter Tryz.func236,Tryz.ntmps236;go_wp2;go_ret;exact⟨by rw[d.o];simp at a;by_cases b:q=0<;>simp[a,b],f.o⟩
  ·have a:(c==1)=iF:=by simpa using a
   go_enter Tryz.func236,Tryz.ntmps236;go_wp2;go_ret;exact⟨by rw[d.o];simp at a;by_cases b:q=0<;>simp[a,b],f.o⟩
 ·have h:(k==1)=iF:=by simpa using h1
  by_cases g:k=2
  ·subst g;have d:ah (oI 2 q c=decide (1<=c/\c<=9/\0<=q/\q<c)):=by
    show _=_;simp[oI]
   clear h1 h;by_cases i:1<=c
   ·by_cases j:c<=9
    ·by_cases l:0<=q
     ·go_enter Tryz.func236,Tryz.ntmps236;go_wp2;go_ret;exact⟨by rw[d.o];simp[i,j,l],f.o⟩
     ·go_enter Tryz.func236,Tryz.ntmps236;go_wp2;go_ret;exact⟨by rw[d.o];simp;omega,f.o⟩
    ·go_enter Tryz.func236,Tryz.ntmps236;go_wp2;go_ret;exact⟨by rw[d.o];simp;omega,f.o⟩
   ·go_enter Tryz.func236,Tryz.ntmps236;go_wp2;go_ret;exact⟨by rw[d.o];simp;omega,f.o⟩
  ·have m:(k==2)=iF:=by simpa using g
   have d:ah (oI k q c=iF):=by
    show _=_;simp[oI,h1,g]
   clear h1 g;go_enter Tryz.func236,Tryz.ntmps236;go_wp2;go_ret;exact⟨by rw[d.o];rfl,f.o⟩
theorem Yo(k s x q c:Int)(t:ByteArray):(Pg.mk k s x q c t).Right↔(1<=s/\s<=1000000000/\1<=x/\x<=1000000000)/\vw k q c/\(t.size:Int)<=90:=by
 unfold Pg.Right vw;simp only;constructor
 ·rintro⟨h,h1,a,b,h4,d⟩;exact⟨⟨h1,a,b,h4⟩,h,d⟩
 ·rintro⟨⟨h1,a,b,h4⟩,h,d⟩;exact⟨h,h1,a,b,h4,d⟩
theorem YG(p:Pg)(w:iW):
 iK Tryz.prog 222 #[dC p] w λe w'=>e=G (iB (@decide p.Right p.decR))/\iL w.heap.size w w':=by
 obtain⟨k,s,x,q,c,t⟩:=p;have b:=af (Yo k s x q c t);have a:=af ((az w.heap.size w).alloc (am _) (iC #[I J k,I J s,I J x,I J q,I J c,iT t] 44));unfold dC;simp only;by_cases n:s<1
 ·go_enter Tryz.func222,Tryz.ntmps222;go_wp2;go_ret;exact⟨by rw[kh (λh=>by have:=(b.o.1 h).1;omega)];rfl,a.o⟩
 by_cases r:1000000000<s
 ·go_enter Tryz.func222,Tryz.ntmps222;go_wp2;go_ret;exact⟨by rw[kh (λh=>by have:=(b.o.1 h).1;omega)];rfl,a.o⟩
 by_cases u:x<1
 ·go_enter Tryz.func222,Tryz.ntmps222;go_wp2;go_ret;exact⟨by rw[kh (λh=>by have:=(b.o.1 h).1;omega)];rfl,a.o⟩
 by_cases v:1000000000<x
 ·go_enter Tryz.func222,Tryz.ntmps222;go_wp2;go_ret;exact⟨by rw[kh (λh=>by have:=(b.o.1 h).1;omega)];rfl,a.o⟩
 by_cases d:vw k q c
 ·go_enter Tryz.func222,Tryz.ntmps222;go_wp2_with fail;refine(JA k s x q c t _).mono ?_;rintro e l ⟨rfl,f⟩;rw[aar d];have g:=af d;clear d;have hs:=a.o.size;have j:∀i,i<6->l.cell? ⟨w.heap.size,i,O⟩=(w.alloc (iC #[I J k,I J s,I J x,I J q,I J c,iT t] 44)).cell? ⟨w.heap.size,i,O⟩:=λi _=>f.cell (by simp)
  have m:=j 5 (by omega)
  simp at m;clear j;go_wp2;go_ret;have e: @decide (Pg.mk k s x q c t).Right (Pg.mk k s x q c t).decR=decide ((t.size:Int)<=90):=Ra (b.o.trans ⟨λh=>h.2.2,λh=>⟨by omega,g.o,h⟩⟩)
  exact⟨by rw[e];rfl,a.o.trans (f.mono hs)⟩
 ·go_enter Tryz.func222,Tryz.ntmps222;go_wp2_with fail;refine(JA k s x q c t _).mono ?_;rintro e l ⟨rfl,f⟩;rw[XW d];have g:=af d;clear d;have hs:=a.o.size;go_wp2;go_ret;exact⟨by rw[kh (λh=>g.o (b.o.1 h).2.1)];rfl,a.o.trans (f.mono hs)⟩
def fM(w:iW)(g:Nat)(t:ByteArray)(i:Int):Prop:=g<w.heap.size/\w.cell? ⟨g,0,O⟩=X (iT t)/\w.cell? ⟨g,1,O⟩=X (I J i)/\w.frozen? ⟨g,0,O⟩=iF/\w.frozen? ⟨g,1,O⟩=iF
def kF(w w':iW)(g:Nat)(t:ByteArray)(i:Int):Prop:=be w w' (·≠g)/\fM w' g t i
theorem fM.below{w w':iW}{i:Int}(h:fM w g t i)(a:iL w.heap.size w w'):fM w' g t i:=by
 obtain⟨h1,b,c,h4,d⟩:=h;have e:∀j,w'.cell? ⟨g,j,O⟩=w.cell? ⟨g,j,O⟩:=λj=>a.cell (show g<w.heap.size from h1)
 have f:∀j,w'.frozen? ⟨g,j,O⟩=w.frozen? ⟨g,j,O⟩:=λj=>a.frozen (show g<w.heap.size from h1)
 exact⟨fE h1 a.size,by rw[e];exact b,by rw[e];exact c,by rw[f];exact h4,by rw[f];exact d⟩
theorem fM.both{w:iW}{i:Int}(h:fM w g t i):fM ((w.setCell ⟨g,0,O⟩ (iT t')).setCell ⟨g,1,O⟩ (I J i')) g t' i':=by
 obtain⟨h1,b,c,h4,d⟩:=h;have o:∀(w:iW) (i j:Nat) (u:iX),i≠j->(w.setCell ⟨g,i,O⟩ u).cell? ⟨g,j,O⟩=w.cell? ⟨g,j,O⟩:=λw i j u a=>iQ _ _ _ _ (λe=>a (by injection e))
 refine⟨by simpa using h1,?_,?_,by simpa using h4,by simpa using d⟩
 ·rw[o _ 1 0 _ (by omega)]
  exact qA _ _ _ b
 ·exact qA _ _ _ ((o w 0 1 (iT t') (by omega)).trans c)
theorem fM.at_{w:iW}{i:Int}(h:fM w g t i):fM (w.setCell ⟨g,1,O⟩ (I J i')) g t i':=by
 obtain⟨h1,b,c,h4,d⟩:=h;have o:∀(w:iW) (i j:Nat) (u:iX),i≠j->(w.setCell ⟨g,i,O⟩ u).cell? ⟨g,j,O⟩=w.cell? ⟨g,j,O⟩:=λw i j u a=>iQ _ _ _ _ (λe=>a (by injection e))
 refine⟨by simpa using h1,?_,?_,by simpa using h4,by simpa using d⟩
 ·rw[o _ 1 0 _ (by omega)]
  exact b
 ·exact qA _ _ _ c
theorem DT(w:iW)(g j:Nat)(v:iX):be w (w.setCell ⟨g,j,O⟩ v) (·≠g):=by
 refine⟨rfl,rfl,rfl,by simp,λi _ a=>?_⟩
 exact aS _ _ _ _ a
theorem kF.both{w w':iW}{i:Int}(h:fM w g t i)(a:iL w.heap.size w w'):kF w ((w'.setCell ⟨g,0,O⟩ (iT t')).setCell ⟨g,1,O⟩ (I J i')) g t' i':=
 ⟨((be.below a).trans (DT _ _ _ _)).trans (DT _ _ _ _),(h.below a).both⟩
theorem kF.at_{w w':iW}{i:Int}(h:fM w g t i)(a:iL w.heap.size w w'):kF w (w'.setCell ⟨g,1,O⟩ (I J i')) g t i':=
 ⟨(be.below a).trans (DT _ _ _ _),(h.below a).at_⟩
theorem kF.below{a b c:iW}{i:Int}(h:kF a b g t i)(k:iL b.heap.size b c):kF a c g t i:=⟨h.1.trans (be.below k),h.2.below k⟩
def jG:List PanicEntry:=[{v:=.iface 260 (iA #[]),recovered:=iF}]
theorem yB(v:iX)(w:iW):
 iK Tryz.prog 221 #[v,iB iV] w λe w'=>e=G (iU #[])/\w'=w:=by
 go_enter Tryz.func221,Tryz.ntmps221;go_wp2
 first|go_end0|refine aE (kT rfl _ _ _) rfl ?_
 exact⟨rfl,rfl⟩
theorem xB(v:iX)(w:iW):
 iK Tryz.prog 221 #[v,iB iF] w λe w'=>e=.panicked jG/\w'=w:=by
 go_enter Tryz.func221,Tryz.ntmps221;go_wp2;exact⟨rfl,rfl,rfl⟩
def eC(w:iW):Prop:=Lib.TabIs Tryz.prog w "loop.example/g00195/impl.fourHalvings" .u32 (lV.map Int.ofNat)
theorem eC.on{w w':iW}(h:eC w)(a:iL w.heap.size w w'):eC w':=Lib.tabBelow_of_tabIs h w' a
theorem eC.cell{w:iW}(h:eC w)(i:Nat)(hi:i<lV.length):w.cell? ⟨1,i,O⟩=X (I .u32 (lV[i]:Nat)):=by
 have:=Lib.TabIs.cell h (g:=1) (by kernel_rfl) i (by simpa using hi)
 rw[this];simp[List.getD,hi]
theorem Tt:∀r:Fin 16,lV[r.val]'(by simp[lV])<4294967296:=by decide
theorem GI(s:Nat)(w:iW)(hs:s<4294967296)(b:eC w):
 iK Tryz.prog 242 #[I .u32 s] w λe w'=>e=G (I .u32 (h4 s:Nat))/\w'=w:=by
 have a:s % 16<lV.length:=by rw[Mc];omega
 have E:=VO s a;have c:=b.cell (s % 16) a;have d:lV[s % 16]<4294967296:=Tt ⟨s % 16,by omega⟩
 generalize lV[s % 16]=x at E c d;have hy:=u32_xor ((s:Int)/16) (x:Int) (by omega) (by omega) (by omega) (by omega)
 rw[show((s:Int)/16).toNat=s/16 by omega,bk,<-E]at hy
 clear b a E;go_enter Tryz.func242,Tryz.ntmps242;go_wp2;go_ret;exact⟨rfl,rfl⟩
theorem ZN(s c:Nat)(w:iW)(hs:s<4294967296)(h:c<256)(f:eC w):
 iK Tryz.prog 241 #[I .u32 s,I .u8 c] w λe w'=>e=G (I .u32 (h4 (h4 (s^^^c)):Nat))/\w'=w:=by
 have b:=xi s c hs (by omega)
 have a:=qT _ b;have hy:=u32_xor (s:Int) (c:Int) (by omega) (by omega) (by omega) (by omega)
 rw[bk,bk]at hy;have d:=af f;clear f;generalize s^^^c=y at hy b a;go_enter Tryz.func241,Tryz.ntmps241;go_wp2_with fail;refine(GI y _ b d.o).mono ?_;rintro e g ⟨rfl,rfl⟩;go_wp2_with fail;refine(GI (h4 y) _ a d.o).mono ?_;rintro e g ⟨rfl,rfl⟩;go_wp2;go_ret;exact⟨rfl,rfl⟩
theorem Wl(s:Nat)(t:ByteArray)(k c m:Nat)(h:k<t.size)(b:t[k].toNat=c)(e:m=jF s (t.data.toList.take k)):h4 (h4 (m^^^c))=jF s (t.data.toList.take (k+1)):=by
 have d:k<t.data.toList.length:=by simpa using h
 have a:t.data.toList[k].toNat=c:=by rw[<-b];rfl
 rw[IK _ _ _ d,<-e,uO,a]
theorem PI(t:ByteArray):t.data.toList.take t.size=t.data.toList:=by
 apply bL;simp
theorem YI(s:Nat)(t:ByteArray)(w:iW)(hs:s<4294967296)(j:t.size<=maxLen)(h:eC w):
 iK Tryz.prog 240 #[I .u32 s,iT t] w λe w'=>e=G (I .u32 (jF s t.data.toList:Nat))/\w'=w:=by
 unfold maxLen at j;have i:=af h;clear h;go_enter Tryz.func240,Tryz.ntmps240;go_wp2;go_loopw [5,10] (λp d wr=>∃k m:Nat,k<=t.size/\d=I J k/\p=I .u32 m/\m<4294967296/\ah (m=jF s (t.data.toList.take k))/\wr=w) (λ_ d _=>t.size-(intOf d).toNat)
 case atStart=>exact⟨0,s,aK _,rfl,rfl,hs,rfl,rfl⟩
 case round=>
  obtain⟨k,m,q,rfl,rfl,g,hrel,rfl⟩:=hrel;by_cases l:(k:Int)<t.size
  ·obtain⟨c,a⟩:=aq (t[k].toNat:Nat);have b:c<256:=by rw[<-a];exact vB _
   have F:=af (Wl s t k c m (by omega) a hrel.o)
   clear hrel;go_wp2_with fail;refine(ZN m c _ g b i.o).mono ?_;rintro e r ⟨rfl,rfl⟩;have f:=qT _ (qT _ (xi m c g (by omega)))
   generalize h4 (h4 (m^^^c))=n at F f;go_wp2;go_roundw
   case rel=>exact⟨k+1,n,by omega,by go_num,rfl,f,F,trivial⟩
   case measure=>simp[intOf];omega
  ·have e:k=t.size:=by omega
   subst e;have F:=af (hrel.o.trans (by rw[PI]))
   clear hrel;go_wp2;go_ret;exact⟨by rw[F.o];rfl,rfl⟩
theorem RZ(t:ByteArray)(w:iW)(c:t.size<=maxLen)(a:eC w):
 iK Tryz.prog 238 #[iT t] w λe w'=>e=G (I .u32 (kJ t.data.toList:Nat))/\w'=w:=by
 have b:=af a;clear a;go_enter Tryz.func238,Tryz.ntmps238;go_wp2_with fail;refine(YI 4294967295 t _ (by omega) c b.o).mono ?_
 rintro e d ⟨rfl,rfl⟩;go_wp2;go_ret;exact⟨rfl,rfl⟩
theorem GH(x:Nat)(b:x<4294967296)(w:iW)(j:Nat)(a:j<(eX x).length):
 (w.alloc (iC #[I .u8 ((x:Int)/16777216),I .u8 ((x:Int)/65536 % 256),I .u8 ((x:Int)/256 % 256),I .u8 ((x:Int) % 256)] 5)).cell? ((⟨w.heap.size,0,O⟩:Addr).add j)=X (I .u8 ((eX x)[j].toNat:Int)):=by
 rw[vr]at a
 match j,a with
 |0,_=>simp[Addr.add,eX];omega
 |1,_=>simp[Addr.add,eX]
 |2,_=>simp[Addr.add,eX]
 |3,_=>simp[Addr.add,eX]
theorem Pz(x:Nat)(w:iW)(b:x<4294967296):
 iK Tryz.prog 239 #[I .u32 x] w λe w'=>e=G (iT ⟨(eX x).toArray⟩)/\iL w.heap.size w w':=by
 have a:=rB (P:=Tryz.prog) _ 22 9 5 ⟨w.heap.size,0,O⟩ 4 (eX x) Tryz.underlying22 Tryz.underlying5 Tryz.underlying9 (GH x b w);rw[vr]at a;generalize(ByteArray.mk (eX x).toArray)=r at a;go_enter Tryz.func239,Tryz.ntmps239;go_wp2;go_ret;exact⟨rfl,bh⟩
theorem Kr(t:ByteArray)(w:iW)(i:t.size<=20000)(b:eC w):
 iK Tryz.prog 237 #[iT t] w λe w'=>e=G (iU #[iT (cS t),iB iV])/\iL w.heap.size w w':=by
 have g:¬(20000:Int)<t.size:=by omega
 have d:=af b;clear b;go_enter Tryz.func237,Tryz.ntmps237;go_wp2_with fail;refine(RZ t _ (by unfold maxLen;omega) d.o).mono ?_
 rintro e j ⟨rfl,rfl⟩;have c:=wZ t.data.toList;have E:ah (cS t=t++⟨(eX (kJ t.data.toList)).toArray⟩):=rfl;have a:=vr (kJ t.data.toList);generalize kJ t.data.toList=x at c E a;go_wp2_with fail;refine(Pz x _ c).mono ?_;rintro e k ⟨rfl,h⟩;generalize eX x=f at E a;go_wp2;go_ret2;exact⟨by rw[E.o];rfl,h⟩
theorem Ui(t:ByteArray)(w:iW)(a:(20000:Int)<t.size):
 iK Tryz.prog 237 #[iT t] w λe w'=>e=G (iU #[iT ⟨#[]⟩,iB iF])/\w'=w:=by
 go_enter Tryz.func237,Tryz.ntmps237;go_wp2;go_ret2;exact⟨rfl,rfl⟩
def xW:Nat->Nat->Nat
 |0,x=>x
 |k+1,x=>gZ (xW k x)
theorem SJ(m:Nat)(a:m<4294967296)(h:((m:Int) % 2==1)=iV):bits .xor .u32 ((m:Int)/2) 3558460437=(gZ m:Nat):=by
 have h1:m % 2=1:=by rw[jg]at h;omega
 have hy:=u32_xor ((m:Int)/2) 3558460437 (by omega) (by omega) (by omega) (by omega)
 rw[hy,gZ,ak h1,show((m:Int)/2).toNat=m/2 by omega]
 rfl
theorem Lx(m:Nat)(h:((m:Int) % 2==1)=iF):gZ m=m/2:=by
 have h1:¬m % 2=1:=by rw[du]at h;omega
 rw[gZ,aj h1,Nat.xor_zero]
theorem MS(s:Nat)(t:ByteArray)(k c m:Nat)(h:k<t.size)(b:t[k].toNat=c)(e:m=jF s (t.data.toList.take k)):h4 (h4 (m^^^c))=jF s (t.data.toList.take (k+1)):=by
 have d:k<t.data.toList.length:=by simpa using h
 have a:t.data.toList[k].toNat=c:=by rw[<-b];rfl
 rw[IK _ _ _ d,<-e,uO,a]
theorem ZS(t:ByteArray):t.data.toList.take t.size=t.data.toList:=by
 apply bL;simp
theorem Vo(s:Nat)(t:ByteArray)(w:iW)(hs:s<4294967296)(v:t.size<=maxLen):
 iK Tryz.prog 113 #[I .u32 s,iT t] w λe w'=>e=G (I .u32 (jF s t.data.toList:Nat))/\w'=w:=by
 unfold maxLen at v;go_enter Tryz.func113,Tryz.ntmps113;go_wp2;go_loopw [0,5] (λl d wr=>∃k m:Nat,k<=t.size/\d=I J k/\l=I .u32 m/\m<4294967296/\ah (m=jF s (t.data.toList.take k))/\wr=w) (λ_ d _=>t.size-(intOf d).toNat)
 case atStart=>exact⟨0,s,aK _,rfl,rfl,hs,rfl,rfl⟩
 case round=>
  obtain⟨k,m,D,rfl,rfl,z,hrel,rfl⟩:=hrel;by_cases y:(k:Int)<t.size
  ·obtain⟨c,a⟩:=aq (t[k].toNat:Nat);have r:c<256:=by rw[<-a];exact vB _
   have F:=af (MS s t k c m (by omega) a hrel.o)
   have b:=xi m c z (by omega)
   have q:=qT _ (qT _ b);have hy:=u32_xor (m:Int) (c:Int) (by omega) (by omega) (by omega) (by omega)
   rw[bk,bk]at hy;generalize m^^^c=x at F q b hy;clear hrel;go_wp2;clear hy a;go_loopw [0,6] (λl d B=>∃j n:Nat,j<=8/\d=I J j/\l=I .u32 n/\n<4294967296/\ah (n=xW j x)/\B=wr) (λ_ d _=>8-(intOf d).toNat)
   case atStart=>exact⟨0,x,by omega,rfl,rfl,b,rfl,rfl⟩
   case round=>
    obtain⟨j,n,C,rfl,rfl,i,hrel,rfl⟩:=hrel;by_cases u:(j:Int)<8
    ·have h:=t7 n i;have f:ah (gZ n=xW (j+1) x):=by show gZ n=gZ (xW j x);rw[<-hrel.o]
     clear hrel;cases p:((n:Int) % 2==1)
     ·have g:=Lx n p;rw[g]at f h;clear g;go_wp2;go_roundw
      case rel=>exact⟨j+1,n/2,by omega,by go_num,by go_num,h,f,trivial⟩
      case measure=>simp[intOf];omega
     ·have g:=SJ n i p;generalize gZ n=A at g f h;go_wp2;go_roundw
      case rel=>exact⟨j+1,A,by omega,by go_num,rfl,h,f,trivial⟩
      case measure=>simp[intOf];omega
    ·have e:j=8:=by omega
     subst e;have f:ah (n=jF s (t.data.toList.take (k+1))):=hrel.o.trans F.o;clear hrel F;go_wp2;go_roundw
     case rel=>exact⟨k+1,n,by omega,by go_num,rfl,i,f,trivial⟩
     case measure=>simp[intOf];omega
  ·have e:k=t.size:=by omega
   subst e;have F:=af (hrel.o.trans (by rw[ZS]))
   clear hrel;go_wp2;go_ret;exact⟨by rw[F.o];rfl,rfl⟩
theorem zD(t:ByteArray)(w:iW)(a:t.size<=maxLen):
 iK Tryz.prog 67 #[iT t] w λe w'=>e=G (I .u32 (kJ t.data.toList:Nat))/\w'=w:=by
 go_enter Tryz.func67,Tryz.ntmps67;go_wp2_with fail;refine(Vo 4294967295 t _ (by omega) a).mono ?_
 rintro e b ⟨rfl,rfl⟩;go_wp2;go_ret;exact⟨rfl,rfl⟩
theorem zB(x:Nat)(w:iW)(b:x<4294967296):
 iK Tryz.prog 66 #[I .u32 x] w λe w'=>e=G (iT ⟨(eX x).toArray⟩)/\iL w.heap.size w w':=by
 have a:=rB (P:=Tryz.prog) _ 22 9 5 ⟨w.heap.size,0,O⟩ 4 (eX x) Tryz.underlying22 Tryz.underlying5 Tryz.underlying9 (GH x b w);rw[vr]at a;generalize(ByteArray.mk (eX x).toArray)=r at a;go_enter Tryz.func66,Tryz.ntmps66;go_wp2;go_ret;exact⟨rfl,bh⟩
theorem Tz(s:ByteArray)(w:iW)(hs:s.size<=281474976710656):
 iK Tryz.prog 150 #[iT s] w λe w'=>e=G (iT s)/\iL w.heap.size w w':=by
 go_enter Tryz.func150,Tryz.ntmps150;go_wp2_with fail;refine(Tryz.stringslite_Clone _ _ hs).mono ?_;rintro e w' ⟨rfl,a⟩;go_wp2;go_ret;exact⟨rfl,a⟩
theorem NP(t:ByteArray)(w:iW)(a:(t.size:Int)<4):
 iK Tryz.prog 234 #[iT t] w λe w'=>e=G (iU #[iT ⟨#[]⟩,iB iF])/\w'=w:=by
 go_enter Tryz.func234,Tryz.ntmps234;go_wp2;go_ret2;exact⟨rfl,rfl⟩
theorem toList_inj(a b:ByteArray)(h:a.toList=b.toList):a=b:=by
 rw[Cv,Cv]at h;exact lO (sx.1 h)
theorem Om(a b:ByteArray)(h:a≠b):(a.toList==b.toList)=iF:=by
 rw[du];exact λe=>h (toList_inj a b e)
theorem MC(a b:ByteArray)(h:a=b):(a.toList==b.toList)=iV:=by subst h;simp
theorem aax(t:ByteArray)(w:iW)(d:(20004:Int)<t.size)(c:t.size<=maxLen):
 iK Tryz.prog 234 #[iT t] w λe w'=>e=G (iU #[iT ⟨#[]⟩,iB iF])/\w'=w:=by
 unfold maxLen at c;have a:=rP t;have E:ah (eZ t=t.extract 0 (t.size-4)):=rfl;generalize eZ t=b at a E;go_enter Tryz.func234,Tryz.ntmps234;go_wp2_with fail;rw[<-E.o];refine(Ui b _ (by omega)).mono ?_
 rintro e f ⟨rfl,rfl⟩;go_wp2;go_ret2;exact⟨rfl,rfl⟩
theorem Tu(t b:ByteArray)(w:iW)(i:4<=(t.size:Int))(g:(t.size:Int)<=20004)(E:ah (b=t.extract 0 (t.size-4)))(f:b.size=t.size-4)(h:((cS b).toList==t.toList)=iV)(c:ah (eC w)):
 iK Tryz.prog 234 #[iT t] w λe w'=>e=G (iU #[iT b,iB iV])/\iL w.heap.size w w':=by
 go_enter Tryz.func234,Tryz.ntmps234;go_wp2_with fail;rw[<-E.o];refine(Kr b _ (by omega) c.o).mono ?_
 rintro e j ⟨rfl,d⟩;have hs:=d.size;clear c;generalize cS b=r at h;go_wp2_with fail;rw[<-E.o];refine(Tz b _ (by omega)).mono ?_
 rintro e k ⟨rfl,a⟩;go_wp2;go_ret2;exact⟨rfl,d.trans (a.mono hs)⟩
theorem TL(t:ByteArray)(w:iW)(c:4<=(t.size:Int))(a:(t.size:Int)<=20004)(b:cS (eZ t)=t)(d:eC w):
 iK Tryz.prog 234 #[iT t] w λe w'=>e=G (iU #[iT (eZ t),iB iV])/\iL w.heap.size w w':=
 Tu t (eZ t) w c a rfl (rP t) (MC _ _ b) d
theorem Ld(t b:ByteArray)(w:iW)(h:4<=(t.size:Int))(f:(t.size:Int)<=20004)(E:ah (b=t.extract 0 (t.size-4)))(d:b.size=t.size-4)(g:((cS b).toList==t.toList)=iF)(a:ah (eC w)):
 iK Tryz.prog 234 #[iT t] w λe w'=>e=G (iU #[iT ⟨#[]⟩,iB iF])/\iL w.heap.size w w':=by
 go_enter Tryz.func234,Tryz.ntmps234;go_wp2_with fail;rw[<-E.o];refine(Kr b _ (by omega) a.o).mono ?_
 rintro e i ⟨rfl,c⟩;clear a;generalize cS b=r at g;go_wp2;go_ret2;exact⟨rfl,c⟩
theorem Uy(t:ByteArray)(w:iW)(c:4<=(t.size:Int))(a:(t.size:Int)<=20004)(b:cS (eZ t)≠t)(d:eC w):
 iK Tryz.prog 234 #[iT t] w λe w'=>e=G (iU #[iT ⟨#[]⟩,iB iF])/\iL w.heap.size w w':=
 Ld t (eZ t) w c a rfl (rP t) (Om _ _ b) d
theorem PE(t:ByteArray)(w:iW)(b:(t.size:Int)<4):
 iK Tryz.prog 36 #[iT t] w λe w'=>e=G (iU #[iT ⟨#[]⟩,iB iF])/\iL w.heap.size w w':=by
 have a:decide ((t.size:Int)-4<0)=iV:=by simp;omega
 go_enter Tryz.func36,Tryz.ntmps36;go_wp2;go_quiet (fail);go_wp2;go_ret2;exact⟨rfl,dL (az _ _) _⟩
theorem NF(t:ByteArray)(w:iW)(d:(20004:Int)<t.size)(b:t.size<=maxLen):
 iK Tryz.prog 36 #[iT t] w λe w'=>e=G (iU #[iT ⟨#[]⟩,iB iF])/\iL w.heap.size w w':=by
 unfold maxLen at b;have c:decide ((t.size:Int)-4<0)=iF:=by simp;omega
 have a:decide ((20000:Int)<(t.size:Int)-4)=iV:=by simp;omega
 go_enter Tryz.func36,Tryz.ntmps36;go_wp2;go_quiet (fail);go_wp2;go_ret2;exact⟨rfl,dL (az _ _) _⟩
def rI(t:ByteArray):ByteArray:=t.extract (t.size-4) t.size
theorem EH(t:ByteArray):cS (eZ t)=t↔rI t=⟨(eX (kJ (eZ t).data.toList)).toArray⟩:=by
 have h1:eZ t++rI t=t:=by
  apply lO;simp[eZ,rI]
 constructor
 ·intro h;have a:eZ t++rI t=cS (eZ t):=h1.trans h.symm;unfold cS at a;have:=congrArg (λz:ByteArray=>z.data.toList) a
  simp only[rX,DM,List.append_cancel_left_eq]at this;exact lO (sx.1 this)
 ·intro h;unfold cS;rw[<-h,h1]
theorem Jf(t:ByteArray)(a:4<=t.size)(W:iW):(Instr.slice 9 (iT t) O (X (I J ((t.size:Int)-4))) O).run Tryz.prog W=.ok (iT (eZ t)) W:=by
 rw[run_slice_string_h W 9 t Tryz.underlying9 J _ (by omega) (by omega)]
 have:((t.size:Int)-4).toNat=t.size-4:=by omega
 rw[this];rfl
theorem Iw(t:ByteArray)(a:4<=t.size)(W:iW):(Instr.slice 9 (iT t) (X (I J ((t.size:Int)-4))) O O).run Tryz.prog W=.ok (iT (rI t)) W:=by
 rw[A7 W 9 t Tryz.underlying9 J _ (by omega) (by omega)]
 have:((t.size:Int)-4).toNat=t.size-4:=by omega
 rw[this];rfl
theorem Ok (t b c:ByteArray) (w:iW) (p:4<=(t.size:Int)) (k:(t.size:Int)<=20004)
 (q:∀W,(Instr.slice 9 (iT t) O (X (I J ((t.size:Int)-4))) O).run Tryz.prog W=.ok (iT b) W)
 (r:∀W,(Instr.slice 9 (iT t) (X (I J ((t.size:Int)-4))) O O).run Tryz.prog W=.ok (iT c) W)
 (i:b.size=t.size-4) (l:(c.toList==eX (kJ b.data.toList))=iV):
 iK Tryz.prog 36 #[iT t] w λe w'=>e=G (iU #[iT b,iB iV])/\iL w.heap.size w w':=by
 have h:=wZ b.data.toList;have n:decide ((t.size:Int)-4<0)=iF:=by simp;omega
 have j:decide ((20000:Int)<(t.size:Int)-4)=iF:=by simp;omega
 obtain⟨x,a⟩:∃x,x=kJ b.data.toList:=⟨_,rfl⟩;rw[<-a]at l h;have f:=af a;clear a;go_enter Tryz.func36,Tryz.ntmps36;go_wp2;go_region_held3 (λ_=>True) (trivial) (first
  |(go_at_call 67;refine(zD b _ (by unfold maxLen;omega)).mono ?_;rintro e m ⟨rfl,rfl⟩;rw[<-f.o])
  |(go_at_call 66;refine(zB x _ h).mono ?_;rintro e m ⟨rfl,g⟩))
 all_goals
  have d:=(az w.heap.size w).drew.trans g;clear f g;go_wp2;go_ret2;exact⟨rfl,d⟩
theorem Sl (t b c:ByteArray) (w:iW) (p:4<=(t.size:Int)) (k:(t.size:Int)<=20004)
 (q:∀W,(Instr.slice 9 (iT t) O (X (I J ((t.size:Int)-4))) O).run Tryz.prog W=.ok (iT b) W)
 (r:∀W,(Instr.slice 9 (iT t) (X (I J ((t.size:Int)-4))) O O).run Tryz.prog W=.ok (iT c) W)
 (i:b.size=t.size-4) (l:(c.toList==eX (kJ b.data.toList))=iF):
 iK Tryz.prog 36 #[iT t] w λe w'=>e=G (iU #[iT ⟨#[]⟩,iB iF])/\iL w.heap.size w w':=by
 have h:=wZ b.data.toList;have n:decide ((t.size:Int)-4<0)=iF:=by simp;omega
 have j:decide ((20000:Int)<(t.size:Int)-4)=iF:=by simp;omega
 obtain⟨x,a⟩:∃x,x=kJ b.data.toList:=⟨_,rfl⟩;rw[<-a]at l h;have f:=af a;clear a;go_enter Tryz.func36,Tryz.ntmps36;go_wp2;go_region_held3 (λ_=>True) (trivial) (first
  |(go_at_call 67;refine(zD b _ (by unfold maxLen;omega)).mono ?_;rintro e m ⟨rfl,rfl⟩;rw[<-f.o])
  |(go_at_call 66;refine(zB x _ h).mono ?_;rintro e m ⟨rfl,g⟩))
 all_goals
  have d:=(az w.heap.size w).drew.trans g;clear f g;go_wp2;go_ret2;exact⟨rfl,d⟩
theorem F6(c:ByteArray)(l:List UInt8):(c=⟨l.toArray⟩->(c.toList==l)=iV)/\(c≠⟨l.toArray⟩->(c.toList==l)=iF):=by
 constructor
 ·intro h;subst h;simp
 ·intro h;rw[du];intro e;apply h;apply toList_inj;simp[e]
def uE:Option ByteArray->iX
 |some s=>iU #[iT s,iB iV]
 |none=>iU #[iT ⟨#[]⟩,iB iF]
theorem Zx(t:ByteArray)(c:t.size<=maxLen)(w:iW):
 iK Tryz.prog 36 #[iT t] w λe w'=>e=G (uE (jx t))/\iL w.heap.size w w':=by
 by_cases h1:(t.size:Int)<4
 ·rw[sr (by omega)]
  exact PE t w h1
 ·by_cases b:(20004:Int)<t.size
  ·rw[sr (by omega)]
   exact NF t w b c
  ·by_cases a:cS (eZ t)=t
   ·rw[IQ (by omega) (by omega) a]
    exact Ok t (eZ t) (rI t) w (by omega) (by omega) (Jf t (by omega)) (Iw t (by omega)) (rP t) ((F6 _ _).1 ((EH t).1 a))
   ·rw[sr (λh=>a h.2.2)]
    exact Sl t (eZ t) (rI t) w (by omega) (by omega) (Jf t (by omega)) (Iw t (by omega)) (rP t) ((F6 _ _).2 λh=>a ((EH t).2 h))
theorem Hy(t:ByteArray)(d:t.size<=maxLen)(w:iW)(b:eC w):
 iK Tryz.prog 234 #[iT t] w λe w'=>e=G (uE (jx t))/\iL w.heap.size w w':=by
 by_cases h1:(t.size:Int)<4
 ·rw[sr (by omega)]
  refine(NP t w h1).mono ?_;rintro e w' ⟨rfl,rfl⟩;exact⟨rfl,az _ _⟩
 ·by_cases c:(20004:Int)<t.size
  ·rw[sr (by omega)]
   refine(aax t w c d).mono ?_;rintro e w' ⟨rfl,rfl⟩;exact⟨rfl,az _ _⟩
  ·by_cases a:cS (eZ t)=t
   ·rw[IQ (by omega) (by omega) a]
    exact TL t w (by omega) (by omega) a b
   ·rw[sr (λh=>a h.2.2)]
    exact Uy t w (by omega) (by omega) a b
end Go.Proofs.YtgigcooffjjbgaaGreatDoor
