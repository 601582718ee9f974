/-
  SSweep
-/
import Derived.Test.YtgigcooffjjbgaaGreatDoorPk19
open Go.Value renaming int→I,slice→Y,bool→iB,pointer→iP,agg→iA,tuple→iU
open Go.IntKind renaming i64→J
open Option renaming none→O,some→X
open Go.Ending renaming returned→G
open Go.Obj renaming cells→iC
open Bool renaming true→iV,false→iF
open Go renaming World→iW,Value→iX
open Go.RowKit renaming Below→iL
set_option maxHeartbeats 4000000
set_option maxRecDepth 100000
namespace Go.Proofs.YtgigcooffjjbgaaGreatDoor
open Go.RowKit Words
variable{α:Type}{a:Act}{ops:Array Oper}{lf:Bool}{xs:List Int}{rest:List Oper}{k n B C i vb vc xb q:Nat}{u:Nat -> Bool}
theorem Mu (w:iW) {o:Oper} {Q:Exit->Act->iW->Prop} (k:o.guard=O) (s x:Operand)
 (B:o.op=.call {callee:=.builtin .append,args:= #[s,x],argTypes:= #[36,36]})
 (base:Nat) (i:TypeInfo) (hi:Tryz.prog.info? 3=X i) (F:i.zero=X (I J 0)) (j:i.size=1) (t:i.bytes=8)
 (v:iX) (n:Nat) (xs:List iX) (hs:a.eval s=v) (f:w.ownsRow base 3 1 v n xs)
 (ls:List Int) (m:Nat) (G:ls.length=m) (u:iX) (z:a.eval x=u) (C:ku w u ls) (r:n+m<=maxLen) (d:(n+m)*8<=140737488355328) (g:base<=w.heap.size)
 (h:∀p w',w'.ownsRow base 3 1 p (n+m) (xs++ax ls)->w.grownBy w' v.ownBlock->wpList Tryz.prog ops Q rest (a.put o.dst p) w'):wpList Tryz.prog ops Q (o::rest) a w:=by
 subst G;obtain⟨ad,c,rfl,h0,E⟩:=C;cases ls with
 |nil=>
  cases ad with
  |none=>
   rw[h0 rfl]at z;exact Hi k s x 36 B base 3 i 1 Tryz.underlying36 hi v n xs hs f z (h v w (by simpa[ax]using f) (wM _ _))
  |some q=>exact cZ w k s x 36 B base 3 i (I J 0) 1 8 Tryz.underlying36 hi F j t rfl (by decide) v n xs hs f q 0 c [] z rfl (λ_ _ e=>by simp at e) (λ_ e=>by cases e) r d g (λp w' h1 A _=>h p w' h1 A)
 |cons y l=>
  obtain⟨b,D,e,-,H⟩:=E.2.2 (by simp)
  subst e;exact cZ w k s x 36 B base 3 i (I J 0) 1 8 Tryz.underlying36 hi F j t rfl (by decide) v n xs hs f ⟨b,D,O⟩ _ c (ax (y::l)) z (by simp[ax]) E.cells (ru _) r d g (λp w' h1 A _=>h p w' h1 A)
theorem H6{f f':Nat->α}{b:α}(a:∀i,i≠k->f' i=f i)(c:f' k=b):((List.range n).map f).set k b=(List.range n).map f':=by
 apply kO;intro i;rw[sZ];by_cases e:k=i
 ·subst e;by_cases h:k<n
  ·simp[h,c]
  ·simp[h]
 ·rw[aj e,bi,bi];by_cases h:i<n
  ·simp[h,a i (Ne.symm e)]
  ·simp[h]
theorem tB(f:Nat->α)(h:k<n):((List.range n).map f)[k]?=X (f k):=by simp[h]
variable{rs:List Kw}
theorem cA.snoc2 {W y:iW} {v u':iX} {r:Kw} (h:cA W B v rs) (p:∀x∈rs,∀g,x.2.1.ownBlock=X g->g<C) (o:B<=C) (k:aG 3 C W.heap.size r.2.1 r.2.2.length (ax r.2.2) W) (w:r.2.2.length<=maxLen)
 (d:W.grownBy y v.ownBlock) (z:y.ownsRow B 189 2 u' (rs++[r]).length (d8 (rs++[r]))):cA y B u' (rs++[r]):=by
 have u:=mD h.1;have i:∀(t:iX) (g:Nat),v.ownBlock=X g->∀{lo hi n:Nat} {xs:List iX},aG 3 lo hi t n xs W->t.ownBlock≠X g:=by
  intro t g d lo hi n xs hs e;obtain⟨-,-,cs,q⟩:=u g d;obtain⟨-,-,l,q'⟩:=hs.lt g e;exact Cx q' q
 refine⟨z,?_,?_⟩
 ·intro x c;rcases bG.1 c with c|c
  ·exact⟨((h.2.1 x c).1.grown d (λg e f=>i _ g f (h.2.1 x c).1 e)).up d.size,(h.2.1 x c).2⟩
  ·simp only[bR]at c;subst c;exact⟨((k.grown d (λg e f=>i _ g f k e)).dn o).up d.size,w⟩
 ·refine iu.2 ⟨h.2.2,mA _ _,?_⟩;intro a s b j g m f;simp only[bR]at j;subst j;have A:=p a s g m;have D:=(k.lt g f).1;omega
def fA(u:Nat->Bool)(k i:Nat):Int:=if i<k/\u i=iV then(cX u i:Int)else 0
theorem Oq(u:Nat->Bool)(i:Nat):fA u 0 i=0:=by rw[fA,aj (by omega)]
theorem WY(h:u k=iF)(i:Nat):fA u (k+1) i=fA u k i:=by
 unfold fA;by_cases e:i=k
 ·subst e;rw[h];simp
 ·have:(i<k+1)↔(i<k):=by omega
  simp only[this]
theorem VW(i:Nat)(hi:i≠k):fA u (k+1) i=fA u k i:=by
 unfold fA;have:(i<k+1)↔(i<k):=by omega
 simp only[this]
theorem BI(hi:i<k)(h:u i=iV):fA u k i=cX u i:=by rw[fA,ak ⟨hi,h⟩]
def jH(z c m g a pb b:Nat)(d f e:iX)(qs:List Int)(u:Nat->Bool)(k:Nat):List nZ:=
 (b,b+1,bS b #[e] 30)::(pb,pb+1,aP 3 pb (ax ((List.range a).map (fA u k))))::(g,g+1,aP 4 g (bM ((List.range a).map u)))::[(z+2,c,aG 3 (z+2) c f m (ax qs)),(z+1,z+1+1,bS (z+1) #[Y O 0 0] 30),(z,z+1,bS z #[d] 30)]
def fB(wr W:iW)(xb vb vc:Nat)(lf:Bool)(xs:List Int):Prop:=W.heap[xb]?=X (iC #[iB lf,Y (X ⟨vb,0,O⟩) 4 vc] 189 (0,0))/\aP 3 vb (ax xs) W/\iL wr.heap.size wr W/\wr.heap.size<=xb/\wr.heap.size<=vb
theorem fB.ne{wr W:iW}(h:fB wr W xb vb vc lf xs):xb≠vb:=by
 intro e;obtain⟨h1,⟨cs,a,-⟩,-⟩:=h;rw[e,a]at h1;injection h1 with h1
 injection h1 with _ h1
 simp at h1
theorem fB.vlt{wr W:iW}(h:fB wr W xb vb vc lf xs):vb<W.heap.size:=by
 obtain⟨-,⟨cs,a,-⟩,-⟩:=h;exact(aL.1 a).1
theorem fB.set{wr W:iW}(h:fB wr W xb vb vc lf xs)(n:Int):fB wr (W.setCell ⟨vb,q,O⟩ (I J n)) xb vb vc lf (xs.set q n):=by
 refine⟨cU h.1 h.ne _ _,?_,h.2.2.1.setCell (p:=⟨vb,q,O⟩) h.2.2.2.2 _,h.2.2.2⟩;have:=h.2.1.set q (I J n);have e:(ax xs).set q (I J n)=ax (xs.set q n):=by simp[ax,List.map_set]
 rw[e]at this;exact this
theorem Cs{a:iW}(h:a.heap[q]?=X (iC #[] 3 (0,0)))(b:B<=q):a.ownsRow B 3 1 (Y (X ⟨q,0,O⟩) 0 0) 0 []:=⟨rfl,.inr ⟨q,0,#[],rfl,b,h,am _,by unfold maxLen;omega,rfl,rfl⟩⟩
theorem fB.late{wr W:iW}(a:iL wr.heap.size wr W)(b:aP 3 vb (ax xs) W)(c:wr.heap.size<=vb):fB wr (W.alloc (iC #[iB lf,Y (X ⟨vb,0,O⟩) 4 vc] 189)) W.heap.size vb vc lf xs:=
 ⟨aC W _,b.below (bh),a.alloc a.size _,a.size,c⟩
theorem fB.early{wr W:iW}{a c:iX}(j:iL wr.heap.size wr W)(h:W.heap[xb]?=X (iC #[a,c] 189 (0,0)))(d:wr.heap.size<=xb)(g:aP 3 vb (ax xs) W)(k:wr.heap.size<=vb):fB wr ((W.setCell ⟨xb,0,O⟩ (iB lf)).setCell ⟨xb,1,O⟩ (Y (X ⟨vb,0,O⟩) 4 vc)) xb vb vc lf xs:=by
 have f:vb≠xb:=by
  intro e;obtain⟨cs,b,-⟩:=g;rw[e,h]at b;injection b with b
  injection b with _ b
  simp at b
 refine⟨dq (dq h 0 _) 1 _,?_,(j.setCell (p:=⟨xb,0,O⟩) d _).setCell (p:=⟨xb,1,O⟩) d _,d,k⟩;obtain⟨cs,b,i⟩:=g;exact⟨cs,cU (cU b f _ _) f _ _,i⟩
theorem Ch{W:iW}{v:iX}(h:W.ownsRow B 3 1 v 4 (ax xs)):∃vb vc,v=Y (X ⟨vb,0,O⟩) 4 vc/\aP 3 vb (ax xs) W/\B<=vb:=by
 obtain⟨ad,c,e,q⟩:=(aG.of h).form;obtain⟨g,rfl,h1,-⟩:=q (by omega)
 subst e;exact⟨g,c,rfl,(aG.of h).flt,h1⟩
def eo(u:Nat->Bool)(lf:Bool)(ls:List Int)(q:Nat):List Int:=if lf=iV then ls else(ls.map (fL u)).take q++ls.drop q
theorem JR(u:Nat->Bool)(lf:Bool)(ls:List Int):eo u lf ls 0=ls:=by unfold eo;split<;>simp
theorem Co{ls:List Int}{n:Int}(h:ls[q]?=X n):(eo u iF ls q)[q]?=X n:=by
 have a:=(aB.1 h).1;rw[eo,aj (by decide),ct (by rw[cG];omega),cG,bm,qt (by omega),kM,lh]
 simpa using h
theorem Au{ls:List Int}{n:Int}(h:ls[q]?=X n):(eo u iF ls q).set q (fL u n)=eo u iF ls (q+1):=by
 obtain⟨b,e⟩:=aB.1 h;have a:q<(ls.map (fL u)).length:=by rw[bm];exact b
 have c:(ls.map (fL u))[q]=fL u n:=by rw[BT,e]
 rw[eo,eo,aj (by decide),aj (by decide),jm _ _ (by rw[cG];omega),cG,bm,qt (by omega),kM,i8 b,cu,eY a,c,fs]
 rfl
theorem I5{ls:List Int}{n:Int}(h:ls[q]?=X n)(b:fL u n=n):eo u iF ls q=eo u iF ls (q+1):=by
 obtain⟨h1,a⟩:=aB.1 (Co (u:=u) h);rw[<-Au h,b];have:=I9 h1;rw[a]at this;exact this.symm
theorem Qm{ls:List Int}(h:ls.length=4)(a:lf=iV∨q=4):(⟨lf,eo u lf ls q⟩:Kn)=dN u ⟨lf,ls⟩:=by
 unfold eo dN;cases lf with
 |true=>rfl
 |false=>
  rcases a with a|rfl
  ·cases a
  ·rw[aj (show¬(iF=iV)by decide),aj (show¬(iF=iV)by decide),bL (by rw[bm];omega),me (by omega),dS]
def mG(z a m:Nat)(b c:iX)(qs:List Int):List nZ:=[(z+2,a,aG 3 (z+2) a c m (ax qs)),(z+1,z+1+1,bS (z+1) #[Y O 0 0] 30),(z,z+1,bS z #[b] 30)]
theorem Is:ZU 130:=by
 intro ad c cap rs ra m rc qs w hl hm bY h b6 br;have T0:=af (Tk.two w #[Y ad c cap] #[Y O 0 0] 30 30);have Z0:ah (((w.alloc (iC #[Y ad c cap] 30)).alloc (iC #[Y O 0 0] 30)).heap.size=w.heap.size+2):=by show _=_;simp
 have H:=af h;have HQ:=af br;have R:=af br.1;have cl:=af b6;have ck:=af bY;have aR:=af (show(rs.map aD).length=c by rw[bm];exact h.1)
 clear h bY br b6;obtain⟨L,hL⟩:=aq (rs.map aD);have HL:=af hL;rw[hL]at aR⊢;clear hL;have BE:ah (iL ((w.alloc (iC #[Y ad c cap] 30)).alloc (iC #[Y O 0 0] 30)).heap.size ((w.alloc (iC #[Y ad c cap] 30)).alloc (iC #[Y O 0 0] 30)) (((w.alloc (iC #[Y ad c cap] 30)).alloc (iC #[Y O 0 0] 30)).alloc (iC #[] 3))):=bh;have OE:ah ((((w.alloc (iC #[Y ad c cap] 30)).alloc (iC #[Y O 0 0] 30)).alloc (iC #[] 3)).ownsRow (w.heap.size+2) 3 1 (Y (X ⟨w.heap.size+1+1,0,O⟩) 0 0) 0 []):=Cd _ Z0.o;have SE:ah (ku (((w.alloc (iC #[Y ad c cap] 30)).alloc (iC #[Y O 0 0] 30)).alloc (iC #[] 3)) (Y ra m rc) qs):=by
  have:=R.o;rw[<-this];exact⟨ra,rc,rfl,cl.o,by rw[this];exact(HQ.o.below T0.o.1).below BE.o⟩
 obtain⟨i0,bN,cc,cd,aY⟩:=bV lp;have I0:=af bN;have Y0:=af cc;have Y1:=af cd;have Y2:=af aY;have bB:ah (w.heap.size+2<=(((w.alloc (iC #[Y ad c cap] 30)).alloc (iC #[Y O 0 0] 30)).alloc (iC #[] 3)).heap.size):=by show _<=_;simp
 clear bN cc cd aY;go_enter Tryz.func130,Tryz.ntmps130;go_wp2_with (at_builtin;refine Mu _ rfl _ _ rfl (w.heap.size+2) i0 I0.o Y0.o Y1.o Y2.o _ 0 [] rfl OE.o qs m R.o _ rfl SE.o ?c1 ?c2 bB.o ?_)
 case c1=>unfold maxLen;omega
 case c2=>omega
 intro sv w1 o1 g1;have bI:=BE.o.grown g1 BE.o.size (λq hq=>by cases hq;rw[Z0.o];exact am _)
 have T1:ah (Tk w w1 (mG w.heap.size w1.heap.size m (Y ad c cap) sv qs)):=by
  have:=T0.o.add bI (P:=aG 3 (w.heap.size+2) w1.heap.size sv m (ax qs)) (by rw[Z0.o];exact aG.loc _ _ _ _ _ _) (aG.of o1)
  rw[Z0.o]at this;exact this
 obtain⟨sa,N,rfl,-⟩:=(aG.of o1).form;clear o1 g1 bI SE OE BE T0 Z0 bB;obtain⟨z,hz⟩:=aq w.heap.size;have HZ:=af hz;rw[hz]at T1⊢;clear hz;have KR:ah (∀W hs,Tk w W hs->dB W ad c rs):=λW hs hW=>H.o.below hW.1
 have QR:ah (∀W hs,Tk w W hs->fG W ra m qs):=λW hs hW=>HQ.o.below hW.1
 have bx:w1.cell? ⟨z,0,O⟩=X (Y ad c cap):=T1.o.at 2 0 rfl rfl;go_wp2_with fail;refine(yh ad c cap rs w1 hl (KR.o _ _ T1.o)).mono ?_;rw[HL.o];rintro e w2 ⟨rfl,b2⟩;have T2:=af (T1.o.below b2);clear b2 T1 bx;obtain⟨A,aH⟩:=aq w1.heap.size;rw[aH]at T2;clear aH;obtain⟨b0,bj⟩:=aq (bU L);rw[bj];have E0:ah (b0=(bU L&&(qs.take 0).all (bt L))):=by show _=_;rw[<-bj];simp
 clear bj;go_wp2;go_loopw [7,8] (λov Z W=>∃(k:Nat) (b:Bool),k<=m/\Z=I J k/\ov=iB b/\ah (b=(bU L&&(qs.take k).all (bt L)))/\ah (Tk w W (mG z A m (Y ad c cap) (Y sa m N) qs))) (λ_ Z _=>m-(intOf Z).toNat)
 case atStart=>exact⟨0,b0,aK _,rfl,rfl,E0,T2⟩
 case round=>
  obtain⟨k,b,hk,rfl,rfl,HB,HT⟩:=hrel;clear T2 E0;have bx:wr.cell? ⟨z,0,O⟩=X (Y ad c cap):=HT.o.at 2 0 rfl rfl;by_cases ab:(k:Int)<m/\b=iV
  ·obtain⟨bZ,rfl⟩:=ab;obtain⟨r,V⟩:∃r,qs[k]?=X r:=⟨_,ay (by have:=R.o;omega)⟩
   obtain⟨rb,ro,e,aU,aV⟩:=(QR.o _ _ HT.o).at V;subst e;have k0:(0:Int)<=k:=by omega
   have TD:=af HT.o.drew;have C:=af (yz ad c cap rs r wr.drew hl (KR.o _ _ TD.o));rw[HL.o]at C;have ch:ah (bt L r=(bU L&&(qs.take (k+1)).all (bt L))):=by
    show _=_;rw[eG,V,Ba];have:=HB.o;simp only[qD,List.all_cons,List.all_nil,Be];rw[<-Bool.and_assoc,<-this,gk]
   have KP:ah (∀W,iL wr.drew.heap.size wr.drew W->W.cell? ⟨z,0,O⟩=X (Y ad c cap)/\W.cell? ⟨rb,ro+k,O⟩=X (I J r)):=λW hW=>
    ⟨(TD.o.below hW).at 2 0 rfl rfl,(hW.cell (show rb<wr.drew.heap.size from aU)).trans aV⟩
   clear V HB;go_wp2;go_region_held3 (λw'=>w'.cell? ⟨z,0,O⟩=X (Y ad c cap)/\w'.cell? ⟨rb,ro+k,O⟩=X (I J r)) (first|go_keep|exact KP.o _ BB.o) ((go_at_call 94;(with_reducible refine cj C.o ?_);rintro en w3 ⟨rfl,bb⟩;have BB:=af bb;clear bb))
   all_goals
    have T3:=af (TD.o.below BB.o);clear TD KP C HT BB;go_wp2;go_roundw
    case rel=>exact⟨k+1,bt L r,by omega,by go_num,rfl,ch,T3⟩
    case measure=>simp[intOf];omega
  ·have an:ah (b=pS L qs):=by
    show _=_;rw[pS,HB.o];by_cases bR:k<m
    ·have ct:b=iF:=by
      cases b with
      |false=>rfl
      |true=>exact absurd ⟨by omega,rfl⟩ ab
     have h1:=HB.o;rw[ct]at h1;rw[<-h1];cases hA:bU L with
     |false=>rfl
     |true=>
      rw[hA,gk]at h1;rw[gk]
      symm
      rw[sX]at*;have h2:=h1.symm;rw[sX]at h2;obtain⟨x,d,hn⟩:=h2;exact⟨x,wg d,hn⟩
    ·rw[bL (by have:=R.o;omega)]
   have bl:ah (¬((k:Int)<m/\b=iV)):=ab;clear HB ab;cases b with
   |false=>
    have E:ah (jD L qs=L/\mC L qs=qs):=⟨by rw[jD,<-an.o];rfl,by rw[mC,<-an.o];rfl⟩
    by_cases bR:(k:Int)<m;all_goals
     go_wp2_with fail;refine(Bm ad c cap rs wr hl ck.o (KR.o _ _ HT.o)).mono ?_;rw[HL.o];rintro e w3 ⟨v,rfl,uv,K,rfl,ko,b8,b3⟩;obtain⟨ua,uc,rfl⟩:=ko.form;have T3:=af (HT.o.below b3);have K3:ah (dy wr.heap.size w3.heap.size (Y ua K.length uc) L w3):=⟨K,b8,ko.fK⟩;have cR:=b3.size;have cw:A<=wr.heap.size:=HT.o.hi 0 rfl;have r0:w3.cell? ⟨z+1,0,O⟩=X (Y O 0 0):=T3.o.at 1 0 rfl rfl;have f0:w3.frozen? ⟨z+1,0,O⟩=iF:=T3.o.fr 1 0 rfl;obtain⟨un,b9⟩:=aq K.length;rw[b9]at K3⊢;clear ko b8 b3 b9 bx;have FR:ah ((w3.setCell ⟨z+1,0,O⟩ (Y ua un uc)).heap[z+1]?=X (iC #[Y ua un uc] 30 (0,0))):=dq (T3.o.get 1 rfl) 0 _;have a9:ah (sT w (jD L qs) (mC L qs) (G (iU #[iA #[Y ua un uc],Y sa m N])) (w3.setCell ⟨z+1,0,O⟩ (Y ua un uc))):=by
      rw[E.o.1,E.o.2];have ce:(w3.setCell ⟨z+1,0,O⟩ (Y ua un uc)).heap.size=w3.heap.size:=by simp[World.setCell]
      have ap:∀q,z+2<=q->(w3.setCell ⟨z+1,0,O⟩ (Y ua un uc)).heap[q]?=w3.heap[q]?:=λq hq=>aS _ _ _ _ (show q≠z+1 by omega)
      have cK:z+1+1<=wr.heap.size:=HT.o.hi 1 rfl;refine⟨_,_,wr.heap.size,w3.heap.size,z+2,A,rfl,?_,?_,by rw[HZ.o];omega,by rw[ce];exact am _,by rw[HZ.o];omega,by rw[ce];omega,.inr cw,?_⟩
      ·exact dy.loc _ _ _ _ _ _ (λq q1 q2=>ap q (by omega)) K3.o
      ·rw[R.o];exact aG.loc _ _ _ _ _ _ _ _ (λq q1 q2=>ap q q1) (T3.o.get 0 rfl)
      ·exact T3.o.1.setCell (p:=⟨z+1,0,O⟩) (by rw[HZ.o];show z<=z+1;omega) _
     go_wp2;exact aE (oS (p:=4) (q:=5) rfl _ _ (z+1) _ rfl FR.o) rfl a9.o
   |true=>
    have bR:¬((k:Int)<m):=λq=>bl.o ⟨q,rfl⟩
    have TO:=af (ZT an.o.symm);have E:ah (jD L qs=jZ L qs/\mC L qs=qs.map (fL (bC L qs))):=⟨by rw[jD,ak an.o.symm],by rw[mC,ak an.o.symm]⟩
    obtain⟨i1,hi1,aM,aN,aQ⟩:=bV Ck;have gz:wr.heap.size=wr.heap.size:=rfl;go_wp2_with (at_make;refine tm _ rfl _ _ 98 rfl wr.heap.size 4 i1 (iB iF) 1 Tryz.underlying98 hi1 aM aN J J _ _ c rfl rfl rfl rfl (by rw[aQ];omega) (by unfold maxLen;omega) (am _) ?_)
    intro w3 D T;rw[sy]at D;clear hi1 aM aN aQ gz;have b3:iL wr.heap.size wr w3:=(az _ _).grown T (am _) (λk hk=>by cases hk)
    have cb:w.heap.size<=wr.heap.size:=HT.o.1.size;have aH:A<=wr.heap.size:=HT.o.hi 0 rfl;have cg:z+1+1<=wr.heap.size:=HT.o.hi 1 rfl;have T3:ah (Tk w w3 ((wr.heap.size,wr.heap.size+1,aP 4 wr.heap.size (bM ((List.range c).map (bC L (qs.take 0)))))::mG z A m (Y ad c cap) (Y sa m N) qs)):=by
     refine(HT.o.below b3).put (D.lt _ rfl).2 (aP.loc _ _ _) ?_;have e:List.replicate c (iB iF)=bM ((List.range c).map (bC L (qs.take 0))):=by
      apply kO;intro i;by_cases h:i<c
      ·simp[bM,h,bC]
      ·simp[bM,h]
     have:=(aG.of D).flt;rw[e]at this;exact this
    obtain⟨g,hg⟩:=aq wr.heap.size;rw[hg]at T3 aH cg cb⊢;clear D T b3 HT hg bx;go_wp2;go_loopw [10] (λZ W=>∃j:Nat,j<=m/\Z=I J j/\ah (Tk w W ((g,g+1,aP 4 g (bM ((List.range c).map (bC L (qs.take j)))))::mG z A m (Y ad c cap) (Y sa m N) qs))) (λZ _=>m-(intOf Z).toNat)
    case atStart=>exact⟨0,aK _,rfl,T3⟩
    case round=>
     obtain⟨j,hj,rfl,S⟩:=hrel;clear T3;have bx:wr.cell? ⟨z,0,O⟩=X (Y ad c cap):=S.o.at 3 0 rfl rfl;by_cases bZ:(j:Int)<m
     ·obtain⟨r,V⟩:∃r,qs[j]?=X r:=⟨_,ay (by have:=R.o;omega)⟩
      obtain⟨rb,ro,e,aU,aV⟩:=(QR.o _ _ S.o).at V;have e':=e;subst e';have j0:(0:Int)<=j:=by omega
      have TD:=af S.o.drew;have C:=af (Ul ad c cap rs r wr.drew hl (KR.o _ _ TD.o) (by rw[HL.o];exact TO.o.1) (by rw[HL.o];exact TO.o.2 r (aO V)))
      rw[HL.o]at C;have cm:=af V;have KP:ah (∀W,iL wr.drew.heap.size wr.drew W->W.cell? ⟨z,0,O⟩=X (Y ad c cap)/\W.cell? ⟨rb,ro+j,O⟩=X (I J r)):=λW hW=>
       ⟨(TD.o.below hW).at 3 0 rfl rfl,(hW.cell (show rb<wr.drew.heap.size from aU)).trans aV⟩
      clear V S;go_wp2;go_region_held3 (λw'=>w'.cell? ⟨z,0,O⟩=X (Y ad c cap)/\w'.cell? ⟨rb,ro+j,O⟩=X (I J r)) (first|go_keep|exact KP.o _ BB.o) ((go_at_call 173;(with_reducible refine cj C.o ?_);rintro en w4 ⟨hg,rfl,h1,h2,h3,bb⟩;have BB:=af bb;have HF:=af h3;have bz:=af h1;have bA:=af h2;clear bb h1 h2 h3))
      all_goals
       have bJ:g+1<=wr.drew.heap.size:=TD.o.hi 0 rfl;have cv:g+1<=hg:=bT bJ bz.o;have T4:ah (Tk w w4 ((hg,hg+1,aP 4 hg (bM ((List.range c).map (dM L r))))::(g,g+1,aP 4 g (bM ((List.range c).map (λx=>bC L (qs.take j) x||(decide (x<0)&&dM L r x)))))::mG z A m (Y ad c cap) (Y sa m N) qs)):=by
        have e:(λx=>bC L (qs.take j) x||(decide (x<0)&&dM L r x))=bC L (qs.take j):=by funext x;simp
        rw[e];exact(TD.o.below BB.o).put bA.o (aP.loc _ _ _) HF.o
       clear TD KP C BB HF bz bA aU aV bJ bx;go_wp2;go_loopw [12] (λZ W=>∃i:Nat,i<=c/\Z=I J i/\ah (Tk w W ((hg,hg+1,aP 4 hg (bM ((List.range c).map (dM L r))))::(g,g+1,aP 4 g (bM ((List.range c).map (λx=>bC L (qs.take j) x||(decide (x<i)&&dM L r x)))))::mG z A m (Y ad c cap) (Y sa m N) qs))) (λZ _=>c-(intOf Z).toNat)
       case atStart=>exact⟨0,aK _,rfl,T4⟩
       case round=>
        obtain⟨i,hi,rfl,TI⟩:=hrel;clear T4;by_cases a1:(i:Int)<c
        ·have bO:i<c:=by omega
         have cW:(0:Int)<=i:=by omega
         have bH:aP 4 hg (bM ((List.range c).map (dM L r))) wr:=TI.o.get 0 rfl;have bf:aP 4 g (bM ((List.range c).map (λx=>bC L (qs.take j) x||(decide (x<i)&&dM L r x)))) wr:=TI.o.get 1 rfl
         have c1:=bH.cell (oZ (tB (dM L r) bO));have c2:=bf.cell (oZ (tB (λx=>bC L (qs.take j) x||(decide (x<i)&&dM L r x)) bO))
         have f2:=bf.frozen i;simp only[Nat.lt_irrefl,pe,kL,xm]at c2;obtain⟨uu,bs⟩:=aq (bC L (qs.take j) i);obtain⟨hh,bo⟩:=aq (dM L r i);have NX:ah (Tk w (wr.setCell ⟨g,i,O⟩ (iB (uu||hh))) ((hg,hg+1,aP 4 hg (bM ((List.range c).map (dM L r))))::(g,g+1,aP 4 g (bM ((List.range c).map (λx=>bC L (qs.take j) x||(decide (x<i+1)&&dM L r x)))))::mG z A m (Y ad c cap) (Y sa m N) qs)):=by
          have:=TI.o.fset 1 rfl cb i (iB (uu||hh)) (hs':=(hg,hg+1,aP 4 hg (bM ((List.range c).map (dM L r))))::mG z A m (Y ad c cap) (Y sa m N) qs) (by
           intro x d;simp only[mG,aX,eI,fp]at d⊢;rcases d with rfl|rfl|rfl|rfl
           ·exact⟨.inl rfl,.inr cv⟩
           ·exact⟨.inr (.inr (.inl rfl)),.inl aH⟩
           ·exact⟨.inr (.inr (.inr (.inl rfl))),.inl cg⟩
           ·exact⟨.inr (.inr (.inr (.inr rfl))),.inl (by simp only;omega)⟩)
          rw[wC,H6 (f':=λx=>bC L (qs.take j) x||(decide (x<i+1)&&dM L r x)) (λx d=>by
           have:(x<i+1)↔(x<i):=by omega
           simp only[this]) (by simp[bs,bo])]at this
          refine this.drop (λx d=>?_)
          simp only[aX]at d⊢;rcases d with d|d|d
          ·exact .inr (.inl d)
          ·exact .inl d
          ·exact .inr (.inr d)
         rw[bs]at c2;rw[bo]at c1;clear bH bf TI bs bo;cases uu with
         |true=>
          have ao:=NX;simp only[Bool.true_or]at ao;clear NX;go_wp2;go_roundw
          case rel=>exact⟨i+1,by omega,by go_num,ao⟩
          case measure=>simp[intOf];omega
         |false=>
          have ao:=NX;simp only[xu]at ao;clear NX;go_wp2;go_roundw
          case rel=>exact⟨i+1,by omega,by go_num,ao⟩
          case measure=>simp[intOf];omega
        ·have NX:ah (Tk w wr ((g,g+1,aP 4 g (bM ((List.range c).map (bC L (qs.take (j+1))))))::mG z A m (Y ad c cap) (Y sa m N) qs)):=by
          have e:(List.range c).map (λx=>bC L (qs.take j) x||(decide (x<i)&&dM L r x))=(List.range c).map (bC L (qs.take (j+1))):=by
           refine nY (λx d=>?_)
           have:=iw.1 d;rw[aW (show x<i by omega),gk,bC,bC,eG,cm.o,List.any_append]
           simp
          have:=TI.o;rw[e]at this;exact this.drop (λx d=>rp _ d)
         clear TI;go_wp2;go_roundw
         case rel=>exact⟨j+1,by omega,by go_num,NX⟩
         case measure=>simp[intOf];omega
     ·have TU:ah (Tk w wr ((g,g+1,aP 4 g (bM ((List.range c).map (bC L qs))))::mG z A m (Y ad c cap) (Y sa m N) qs)):=by
       have:=S.o;rw[bL (by have:=R.o;omega)]at this
       exact this
      clear S;obtain⟨U,hU⟩:=aq (bC L qs);have HU:=af hU;rw[hU]at TU E;clear hU;obtain⟨i1,hi1,aM,aN,aQ⟩:=bV lp;go_wp2_with (at_make;refine tm _ rfl _ _ 36 rfl wr.heap.size 3 i1 (I J 0) 1 Tryz.underlying36 hi1 aM aN J J _ _ c rfl rfl rfl rfl (by rw[aQ];omega) (by unfold maxLen;omega) (am _) ?_)
      intro w4 D T;rw[sy]at D;clear hi1 aM aN aQ;have b4:iL wr.heap.size wr w4:=(az _ _).grown T (am _) (λk hk=>by cases hk)
      have bK:g+1<=wr.heap.size:=TU.o.hi 0 rfl;have aT:wr.heap.size+1<=w4.heap.size:=(D.lt _ rfl).2;have T5:ah (Tk w (w4.alloc (iC #[Y O 0 0] 30)) (jH z A m g c wr.heap.size w4.heap.size (Y ad c cap) (Y sa m N) (Y O 0 0) qs U 0)):=by
       refine((TU.o.below b4).put aT (aP.loc _ _ _) ?_).cell _ _;have e:List.replicate c (I J 0)=ax ((List.range c).map (fA U 0)):=by
        apply kO;intro i;by_cases h:i<c
        ·simp[ax,h,Oq]
        ·simp[ax,h]
       have:=(aG.of D).flt;rw[e]at this;exact this
      have K5:ah (cA (w4.alloc (iC #[Y O 0 0] 30)) (w4.heap.size+1) (Y O 0 0) []):=cA.nil _ _;obtain⟨pb,a3⟩:=aq wr.heap.size;obtain⟨t,a2⟩:=aq w4.heap.size;rw[a3]at T5 bK aT⊢;rw[a2]at T5 K5 aT;clear D T b4 TU a3 bx;go_wp2;clear a2;generalize w4.alloc (iC #[Y O 0 0] 30)=w5 at T5 K5⊢;go_loopw [15] (λZ W=>∃(k:Nat) (ov:iX) (K:List Kw),k<=c/\Z=I J k/\ah (K.map aD=kD U L k)/\ah (Tk w W (jH z A m g c pb t (Y ad c cap) (Y sa m N) ov qs U k))/\ah (cA W (t+1) ov K)) (λZ _=>c-(intOf Z).toNat)
      case atStart=>exact⟨0,_,[],aK _,rfl,rfl,T5,K5⟩
      case round=>
       obtain⟨k,ov,K,cM,rfl,ag,TK,KO⟩:=hrel;clear T5 K5;have bx:wr.cell? ⟨z,0,O⟩=X (Y ad c cap):=TK.o.at 5 0 rfl rfl;by_cases bZ:(k:Int)<c
       ·have bW:k<c:=by omega
        have k0:(0:Int)<=k:=by omega
        have bv:wr.cell? ⟨g,k,O⟩=X (iB (U k)):=(show aP 4 g (bM ((List.range c).map U)) wr from TK.o.get 2 rfl).cell (oZ (tB U bW));cases hu:U k with
        |false=>
         rw[hu]at bv;have TN:ah (Tk w wr (jH z A m g c pb t (Y ad c cap) (Y sa m N) ov qs U (k+1))):=by
          have e:(List.range c).map (fA U (k+1))=(List.range c).map (fA U k):=nY (λi _=>WY hu i)
          unfold jH;rw[e];exact TK.o
         have cn:ah (K.map aD=kD U L (k+1)):=by show _=_;rw[Cm hu];exact ag.o
         clear hu TK ag;go_wp2;go_roundw
         case rel=>exact⟨k+1,ov,K,by omega,by go_num,cn,TN,KO⟩
         case measure=>simp[intOf];omega
        |true=>
         rw[hu]at bv;obtain⟨r,V⟩:∃r,rs[k]?=X r:=⟨_,ay (by have:=H.o.1;omega)⟩
         obtain⟨b,aa,e,hb⟩:=H.o.adr (by omega)
         have e':=e;subst e';have be:=af (KR.o _ _ TK.o);obtain⟨c0,c1⟩:=be.o.cell V;obtain⟨ka,kc,bX,cx,kr⟩:=be.o.2.2.1 r (aO V);have d:L[k]?=X (aD r):=by rw[<-HL.o,bi,V];rfl
         have HX:=af d;obtain⟨lf,kv,ls⟩:=r;simp only at c0 c1 bX kr;subst bX;have h4:ls.length=4:=mf (lN TO.o.1 d);rw[h4]at c1 kr;obtain⟨kb,ko,e,cL,bQ⟩:=kr.2.2 (by omega)
         subst e;have ci:=af bQ;have bE:=af kr;have bd:=af hu;have H4:=af h4;have TD:=af TK.o;have cq:=bx;have wl:=af (show b<wr.heap.size by have:=TK.o.1.size;omega)
         clear kr V d bQ cx hu h4 TK hb;have KS:ah (∀W,iL wr.heap.size wr W->W.cell? ⟨z,0,O⟩=X (Y (X ⟨b,aa,O⟩) c cap)/\W.cell? ⟨b,aa+k*2,O⟩=X (iB lf)/\W.cell? ⟨b,aa+k*2+1,O⟩=X (Y (X ⟨kb,ko,O⟩) 4 kc)):=λW hW=>
          ⟨(TD.o.below hW).at 5 0 rfl rfl,(hW.cell (show b<wr.heap.size from wl.o)).trans c0,(hW.cell (show b<wr.heap.size from wl.o)).trans c1⟩
         have SR:ah (∀W,iL wr.heap.size wr W->∀(j:Nat) (u:iX),(ax ls)[j]?=X u->W.cell? ((⟨kb,ko,O⟩:Addr).add j)=X u):=λW hW j u hj=>(bE.o.below hW).cells j u hj
         have W1:ah (iL wr.heap.size wr (wr.alloc (iC #[] 3)).drew):=(bh).drew;have WX:ah (iL wr.heap.size wr (wr.alloc (iC #[iB iF,Y O 0 0] 189)).drew):=(bh).drew;have W2:ah (iL wr.heap.size wr ((wr.alloc (iC #[] 3)).alloc (iC #[iB iF,Y O 0 0] 189)).drew):=((bh).alloc (by simp) _).drew
         have W3:ah (iL wr.heap.size wr ((wr.alloc (iC #[iB iF,Y O 0 0] 189)).alloc (iC #[] 3)).drew):=((bh).alloc (by simp) _).drew
         have ze:(wr.alloc (iC #[] 3)).heap.size=wr.heap.size+1:=by simp
         have zx:(wr.alloc (iC #[iB iF,Y O 0 0] 189)).heap.size=wr.heap.size+1:=by simp
         have O1:ah ((wr.alloc (iC #[] 3)).drew.ownsRow wr.heap.size 3 1 (Y (X ⟨wr.heap.size,0,O⟩) 0 0) 0 []):=Cs (aC wr _) (am _);have O2:ah (((wr.alloc (iC #[] 3)).alloc (iC #[iB iF,Y O 0 0] 189)).drew.ownsRow wr.heap.size 3 1 (Y (X ⟨wr.heap.size,0,O⟩) 0 0) 0 []):=Cs ((gt _ _ _ (by simp)).trans (aC wr _)) (am _)
         have O3:ah (((wr.alloc (iC #[iB iF,Y O 0 0] 189)).alloc (iC #[] 3)).drew.ownsRow wr.heap.size 3 1 (Y (X ⟨wr.heap.size+1,0,O⟩) 0 0) 0 []):=Cs (by have:=aC (wr.alloc (iC #[iB iF,Y O 0 0] 189)) (iC #[] 3);rw[zx]at this;exact this) (by omega)
         have X2:ah (((wr.alloc (iC #[] 3)).alloc (iC #[iB iF,Y O 0 0] 189)).drew.heap[wr.heap.size+1]?=X (iC #[iB iF,Y O 0 0] 189 (0,0))):=by have:=aC (wr.alloc (iC #[] 3)) (iC #[iB iF,Y O 0 0] 189);rw[ze]at this;exact this
         have X3:ah (((wr.alloc (iC #[iB iF,Y O 0 0] 189)).alloc (iC #[] 3)).drew.heap[wr.heap.size]?=X (iC #[iB iF,Y O 0 0] 189 (0,0))):=(gt _ _ _ (by simp)).trans (aC wr _)
         have L4:ah ((ax ls).length=4*1):=by show _=_;simp[ax,H4.o]
         clear ze zx;go_upto_region 24 with fail
         go_cut [16] (λcD wc=>∃xb vb vc:Nat,cD=iP (X ⟨xb,0,O⟩)/\ah (fB wr wc xb vb vc lf ls))
         case first=>
          go_region_held3 (λw'=>w'.cell? ⟨z,0,O⟩=X (Y (X ⟨b,aa,O⟩) c cap)/\w'.cell? ⟨b,aa+k*2,O⟩=X (iB lf)/\w'.cell? ⟨b,aa+k*2+1,O⟩=X (Y (X ⟨kb,ko,O⟩) 4 kc)) (first|go_keep|exact KS.o _ W1.o|exact KS.o _ WX.o|exact KS.o _ W2.o|exact KS.o _ W3.o|exact KS.o _ BB.o|exact KS.o _ (BB.o.alloc BB.o.size _)|exact KS.o _ (XL.o.2.2.1)|exact KS.o _ (XE.o.2.2.1)) (first
           |(refine pu _ (by rfl) (.tmp 102) (.tmp 108) 36 (by rfl) wr.heap.size 3 i0 (I J 0) 1 8 Tryz.underlying36 I0.o Y0.o Y1.o Y2.o rfl (by decide) _ 0 [] (by simp[Act.eval]) O1.o ⟨kb,ko,O⟩ 4 kc (ax ls) (by simp[Act.eval]) L4.o (SR.o _ W1.o) (ru _) (by unfold maxLen;omega) (by omega) W1.o.size ?_;intro v6 w6 o6 g6;(have o7:w6.ownsRow wr.heap.size 3 1 v6 4 (ax ls):=o6);(obtain⟨vb,vc,aI,ac,ae⟩:=Ch o7);subst aI;have BB:ah (iL wr.heap.size wr w6):=W1.o.grown g6 W1.o.size (λq hq=>by cases hq;exact am _);have XL:ah (fB wr (w6.alloc (iC #[iB lf,Y (X ⟨vb,0,O⟩) 4 vc] 189)) w6.heap.size vb vc lf ls):=fB.late BB.o ac ae;clear o6 o7 g6 ac ae)
           |(refine pu _ (by rfl) (.tmp 102) (.tmp 108) 36 (by rfl) wr.heap.size 3 i0 (I J 0) 1 8 Tryz.underlying36 I0.o Y0.o Y1.o Y2.o rfl (by decide) _ 0 [] (by simp[Act.eval]) O2.o ⟨kb,ko,O⟩ 4 kc (ax ls) (by simp[Act.eval]) L4.o (SR.o _ W2.o) (ru _) (by unfold maxLen;omega) (by omega) W2.o.size ?_;intro v6 w6 o6 g6;(have o7:w6.ownsRow wr.heap.size 3 1 v6 4 (ax ls):=o6);(obtain⟨vb,vc,aI,ac,ae⟩:=Ch o7);subst aI;have BB:ah (iL wr.heap.size wr w6):=W2.o.grown g6 W2.o.size (λq hq=>by cases hq;exact am _);have F:w6.heap[wr.heap.size+1]?=X (iC #[iB iF,Y O 0 0] 189 (0,0)):=(g6.block (wr.heap.size+1) (aL.1 X2.o).1 (λe=>by simp[Value.ownBlock]at e)).trans X2.o;have d0:=ai _ _ 0 _ _ _ F;have d1:=ai _ _ 1 _ _ _ F;have e0:=aF _ _ 0 _ _ F;have e1:=aF _ _ 1 _ _ F;have XE:ah (fB wr ((w6.setCell ⟨wr.heap.size+1,0,O⟩ (iB lf)).setCell ⟨wr.heap.size+1,1,O⟩ (Y (X ⟨vb,0,O⟩) 4 vc)) (wr.heap.size+1) vb vc lf ls):=fB.early BB.o F (by omega) ac ae;clear o6 o7 g6 ac ae F)
           |(refine pu _ (by rfl) (.tmp 102) (.tmp 108) 36 (by rfl) wr.heap.size 3 i0 (I J 0) 1 8 Tryz.underlying36 I0.o Y0.o Y1.o Y2.o rfl (by decide) _ 0 [] (by simp[Act.eval]) O3.o ⟨kb,ko,O⟩ 4 kc (ax ls) (by simp[Act.eval]) L4.o (SR.o _ W3.o) (ru _) (by unfold maxLen;omega) (by omega) W3.o.size ?_;intro v6 w6 o6 g6;(have o7:w6.ownsRow wr.heap.size 3 1 v6 4 (ax ls):=o6);(obtain⟨vb,vc,aI,ac,ae⟩:=Ch o7);subst aI;have BB:ah (iL wr.heap.size wr w6):=W3.o.grown g6 W3.o.size (λq hq=>by cases hq;show wr.heap.size<=wr.heap.size+1;omega);have F:w6.heap[wr.heap.size]?=X (iC #[iB iF,Y O 0 0] 189 (0,0)):=(g6.block wr.heap.size (aL.1 X3.o).1 (λe=>by simp[Value.ownBlock]at e)).trans X3.o;have d0:=ai _ _ 0 _ _ _ F;have d1:=ai _ _ 1 _ _ _ F;have e0:=aF _ _ 0 _ _ F;have e1:=aF _ _ 1 _ _ F;have XE:ah (fB wr ((w6.setCell ⟨wr.heap.size,0,O⟩ (iB lf)).setCell ⟨wr.heap.size,1,O⟩ (Y (X ⟨vb,0,O⟩) 4 vc)) wr.heap.size vb vc lf ls):=fB.early BB.o F (am _) ac ae;clear o6 o7 g6 ac ae F))
          all_goals
           go_wp2_with fail;go_meet
           case rel=>first
            |exact⟨_,_,_,rfl,XL⟩
            |exact⟨_,_,_,rfl,XE⟩
         case rest=>
          obtain⟨wq,cB⟩:∃wq,wq=wc:=⟨_,rfl⟩;subst cB;obtain⟨xb,vb,vc,b7,XS⟩:=hcut;subst b7;have aw:t+1<=wr.heap.size:=TD.o.hi 0 rfl;have TQ:=af (TD.o.below XS.o.2.2.1);have KQ:=af (KO.o.below XS.o.2.2.1);have co:ah (∀x∈K,∀q,x.2.1.ownBlock=X q->q<wr.heap.size):=λx d q hq=>((KO.o.2.1 x d).1.lt q hq).2.1
          clear O1 O2 O3 X2 X3 W1 W2 W3 WX L4 SR KS bE ci c0 c1 bv cq be bx;obtain⟨wo,cC⟩:∃wo,wo=wr:=⟨_,rfl⟩;subst cC;have X0:ah (fB wo wq xb vb vc lf (eo U lf ls 0)):=by rw[JR];exact XS
          clear XS TQ KQ;go_wp2;go_loopw [17] (λZ W=>∃q:Nat,q<=4/\Z=I J q/\ah (fB wo W xb vb vc lf (eo U lf ls q))) (λZ _=>4-(intOf Z).toNat)
          case atStart=>exact⟨0,by omega,rfl,X0⟩
          case round=>
           obtain⟨q,cO,rfl,M⟩:=hrel;clear X0;have xl:wr.cell? ⟨xb,0,O⟩=X (iB lf):=ai _ _ 0 _ _ _ M.o.1;by_cases ab:(q:Int)<4/\lf=iF
           ·obtain⟨cG,rfl⟩:=ab;obtain⟨n,hn⟩:∃n,ls[q]?=X n:=⟨_,ay (by have:=H4.o;omega)⟩
            have xk:wr.cell? ⟨xb,1,O⟩=X (Y (X ⟨vb,0,O⟩) 4 vc):=ai _ _ 1 _ _ _ M.o.1;have vq:wr.cell? ⟨vb,q,O⟩=X (I J n):=M.o.2.1.cell (iI (Co hn));have vf:=M.o.2.1.frozen q;have q0:(0:Int)<=q:=by omega
            obtain⟨n',bp,hc⟩:=lM TO.o.1 (r:=(k:Int)) (by rw[bk];exact HX.o) rfl (show q<4 by omega)
            have b1:ls[q]?=X n':=bp;rw[hn]at b1;cases b1;by_cases av:n<0
            ·have NX:ah (fB wo wr xb vb vc iF (eo U iF ls (q+1))):=by rw[<-I5 hn (r9 U av)];exact M
             clear hc hn bp M;go_wp2;go_roundw
             case rel=>exact⟨q+1,by omega,by go_num,NX⟩
             case measure=>simp[intOf];omega
            ·obtain⟨a,rfl⟩:∃a:Nat,n=(a:Int):=⟨n.toNat,by omega⟩
             have au:a<k:=by
              rcases hc with hc|⟨-,hc,-⟩
              ·omega
              ·simp only[bk]at hc;omega
             have ar:U a=iV:=by
              have:=A8 TO.o HX.o rfl (by rw[HU.o];exact bd.o) (show q<4 by omega) hn
              rw[HU.o]at this;exact this
             have pa:wr.cell? ⟨pb,a,O⟩=X (I J (cX U a)):=by
              have hF:aP 3 pb (ax ((List.range c).map (fA U k))) wr:=(TD.o.below M.o.2.2.1).get 1 rfl;have:=hF.cell (iI (tB (fA U k) (show a<c by omega)))
              rw[BI au ar]at this;exact this
             have NX:ah (fB wo (wr.setCell ⟨vb,q,O⟩ (I J (cX U a))) xb vb vc iF (eo U iF ls (q+1))):=by
              have:=M.o.set (q:=q) (fL U (a:Int));rw[Au hn,p9]at this;exact this
             have a0:(0:Int)<=a:=by omega
             have al:(a:Int)<c:=by omega
             obtain⟨cE,a4⟩:=aq (cX U a);rw[a4]at pa NX;have cV:xb≠vb:=M.o.ne;have cp:ah (fB wo (wr.setCell ⟨vb,q,O⟩ (I J cE)).drew xb vb vc iF (eo U iF ls (q+1))):=⟨NX.o.1,NX.o.2.1,NX.o.2.2.1.drew,NX.o.2.2.2⟩;clear hc hn bp M NX au ar a4;go_wp2;go_region;all_goals
              go_wp2;go_roundw
              case rel=>exact⟨q+1,by omega,by go_num,cp⟩
              case measure=>simp[intOf];omega
           ·have XF:ah (fB wo wr xb vb vc lf (dN U ⟨lf,ls⟩).fD):=by
             have e:=Qm (u:=U) (lf:=lf) (q:=q) H4.o (by
              cases lf with
              |true=>exact .inl rfl
              |false=>exact .inr (by have:¬(q:Int)<4:=λh=>ab ⟨h,rfl⟩
                                     omega))
             have:=M.o;have e2:eo U lf ls q=(dN U ⟨lf,ls⟩).fD:=by rw[<-e]
             rw[e2]at this;exact this
            have TW:=af (TD.o.below XF.o.2.2.1);have KW:=af (KO.o.below XF.o.2.2.1);have ba:ah (cX U k=K.length):=by
             show _=_;have:=congrArg List.length ag.o;rw[bm,uy (by have:=aR.o;omega)]at this
             exact this.symm
            obtain⟨oa,oc,bq⟩:=KW.o.form;subst bq;obtain⟨s,aA⟩:=aq K.length;rw[aA]at ba TW KW;have bD:=af aA;have cI:s<=k:=by have:=Cw U k;have:=ba.o;omega
            have c3:wr.cell? ⟨t,0,O⟩=X (Y oa s oc):=TW.o.at 0 0 rfl rfl;have bg:aP 3 pb (ax ((List.range c).map (fA U k))) wr:=TW.o.get 1 rfl;have pc:=bg.cell (iI (tB (fA U k) bW));have pf:=bg.frozen k;have TP:ah (Tk w (wr.setCell ⟨pb,k,O⟩ (I J (s:Int))) (jH z A m g c pb t (Y (X ⟨b,aa,O⟩) c cap) (Y sa m N) (Y oa s oc) qs U (k+1))):=by
             have:=TW.o.fset 1 rfl (by omega) k (I J (s:Int)) (hs':=(t,t+1,bS t #[Y oa s oc] 30)::(g,g+1,aP 4 g (bM ((List.range c).map U)))::[(z+2,A,aG 3 (z+2) A (Y sa m N) m (ax qs)),(z+1,z+1+1,bS (z+1) #[Y O 0 0] 30),(z,z+1,bS z #[Y (X ⟨b,aa,O⟩) c cap] 30)]) (by
              intro x d;simp only[jH,aX,eI,fp]at d⊢;rcases d with rfl|rfl|rfl|rfl|rfl
              ·exact⟨.inl rfl,.inr aT⟩
              ·exact⟨.inr (.inr (.inl rfl)),.inl bK⟩
              ·exact⟨.inr (.inr (.inr (.inl rfl))),.inl (by simp only;omega)⟩
              ·exact⟨.inr (.inr (.inr (.inr (.inl rfl)))),.inl (by simp only;omega)⟩
              ·exact⟨.inr (.inr (.inr (.inr (.inr rfl)))),.inl (by simp only;omega)⟩)
             have e1:(ax ((List.range c).map (fA U k))).set k (I J (s:Int))=ax ((List.range c).map (fA U (k+1))):=by
              rw[<-H6 (f:=fA U k) (f':=fA U (k+1)) (k:=k) (b:=(s:Int)) (λi hi=>VW i hi) (by rw[BI (by omega) bd.o,ba.o])]
              simp[ax,List.map_set]
             rw[e1]at this;refine this.drop (λx d=>?_)
             simp only[jH,aX]at d⊢;rcases d with d|d|d
             ·exact .inr (.inl d)
             ·exact .inl d
             ·exact .inr (.inr d)
            have KP:ah (cA (wr.setCell ⟨pb,k,O⟩ (I J (s:Int))) (t+1) (Y oa s oc) K):=KW.o.cellB (by omega) _ _
            have XP:ah (fB wo wr xb vb vc lf (dN U ⟨lf,ls⟩).fD):=XF;have cT:t+1<=xb:=bT aw XF.o.2.2.2.1;have cS:t+1<=vb:=bT aw XF.o.2.2.2.2;have xr:(wr.setCell ⟨pb,k,O⟩ (I J (s:Int))).heap[xb]?=X (iC #[iB lf,Y (X ⟨vb,0,O⟩) 4 vc] 189 (0,0)):=cU XF.o.1 (by omega) _ _
            have x0:=ai _ _ 0 _ _ _ xr;have x1:=ai _ _ 1 _ _ _ xr;have c4:(wr.setCell ⟨pb,k,O⟩ (I J (s:Int))).cell? ⟨t,0,O⟩=X (Y oa s oc):=TP.o.at 0 0 rfl rfl;have vF:aP 3 vb (ax (dN U ⟨lf,ls⟩).fD) (wr.setCell ⟨pb,k,O⟩ (I J (s:Int))):=aP.loc _ _ _ _ _ (λq q1 q2=>aS _ _ _ _ (show q≠pb by omega)) XF.o.2.1
            have VF:=af vF;have bc:ah ((wr.setCell ⟨pb,k,O⟩ (I J (s:Int))).heap.size=wr.heap.size):=by show _=_;simp[World.setCell]
            have BA:ah (iL (wr.setCell ⟨pb,k,O⟩ (I J (s:Int))).heap.size (wr.setCell ⟨pb,k,O⟩ (I J (s:Int))) ((wr.setCell ⟨pb,k,O⟩ (I J (s:Int))).alloc (iC #[iB lf,Y (X ⟨vb,0,O⟩) 4 vc] 189))):=bh;have KA:=af (KP.o.below BA.o);have TA:=af (TP.o.below BA.o);have OW:ah (((wr.setCell ⟨pb,k,O⟩ (I J (s:Int))).alloc (iC #[iB lf,Y (X ⟨vb,0,O⟩) 4 vc] 189)).ownsRow (t+1) 189 2 (Y oa s oc) s (d8 K)):=by have:=KA.o.1;rw[bD.o]at this;exact this
            have CN:ah (∀(j:Nat) (u:iX),[iB lf,Y (X ⟨vb,0,O⟩) 4 vc][j]?=X u->((wr.setCell ⟨pb,k,O⟩ (I J (s:Int))).alloc (iC #[iB lf,Y (X ⟨vb,0,O⟩) 4 vc] 189)).cell? ((⟨wr.heap.size,0,O⟩:Addr).add j)=X u):=by
             have:=ID (wr.setCell ⟨pb,k,O⟩ (I J (s:Int))) lf (Y (X ⟨vb,0,O⟩) 4 vc);rw[bc.o]at this;exact this
            have bw:ah (t+1<=((wr.setCell ⟨pb,k,O⟩ (I J (s:Int))).alloc (iC #[iB lf,Y (X ⟨vb,0,O⟩) 4 vc] 189)).heap.size):=TA.o.hi 0 rfl;obtain⟨j0,bP,ca,a6,a7⟩:=bV tM;have J0:=af bP;have V0:=af ca;have V1:=af a6;have V2:=af a7;have bF:ah (K.map aD++[dN U ⟨lf,ls⟩]=kD U L (k+1)):=by show _=_;rw[vQ bd.o HX.o,ag.o];rfl
            have X4:ah ((dN U ⟨lf,ls⟩).fD.length=4):=by
             show _=_;unfold dN;split
             ·exact H4.o
             ·rw[bm];exact H4.o
            have bG:ah ((dN U ⟨lf,ls⟩).leaf=lf):=yW U ⟨lf,ls⟩;obtain⟨xs,bu⟩:=aq ((dN U ⟨lf,ls⟩).fD);have XE:ah (dN U ⟨lf,ls⟩=⟨lf,xs⟩):=by
             show _=_;rw[<-bu];have:=bG.o;cases hq:dN U ⟨lf,ls⟩;rw[hq]at this;simp only at this⊢;rw[this]
            rw[bu]at X4 VF;rw[XE.o]at bF;have a8:ah (wo.heap.size<=vb/\vb<wr.heap.size/\t+1<=wo.heap.size):=⟨XP.o.2.2.2.2,XP.o.vlt,aw⟩;have hw:((q:Int)<4/\(!lf)=iF)∨¬(q:Int)<4:=by
             by_cases h:(q:Int)<4
             ·exact .inl ⟨h,by cases lf with|true=>rfl|false=>exact absurd ⟨h,rfl⟩ ab⟩
             ·exact .inr h
            clear bP ca a6 a7 ab TW KW bg vF aA XF M XP bG bu xr KO TD;rcases hw with⟨cu,hl⟩|cu
            all_goals
             go_wp2_with (at_builtin;refine cZ _ rfl _ _ 28 rfl (t+1) 189 j0 (iA #[iB iF,Y O 0 0]) 2 32 Tryz.underlying28 J0.o V0.o V1.o V2.o rfl (by decide) _ s (d8 K) rfl OW.o ⟨wr.heap.size,0,O⟩ 1 1 [iB lf,Y (X ⟨vb,0,O⟩) 4 vc] rfl rfl CN.o (I7 _ _ _ _) ?c1 ?c2 bw.o ?_)
             case c1=>unfold maxLen;omega
             case c2=>omega
             intro u' y ho bn _;have TY:ah (Tk w y (jH z A m g c pb t (Y (X ⟨b,aa,O⟩) c cap) (Y sa m N) (Y oa s oc) qs U (k+1))):=TA.o.grownB (B:=t+1) bn (λq hq=>(mD OW.o q hq).1) (by omega) (by
              intro x d;simp only[jH,aX,eI,fp]at d;rcases d with rfl|rfl|rfl|rfl|rfl|rfl<;>(simp only;omega))
             have b5:y.ownsRow (t+1) 189 2 u' (K++[(lf,Y (X ⟨vb,0,O⟩) 4 vc,xs)]).length (d8 (K++[(lf,Y (X ⟨vb,0,O⟩) 4 vc,xs)])):=by
              rw[<-Js,aJ,bD.o];exact ho
             have KY:ah (cA y (t+1) u' (K++[(lf,Y (X ⟨vb,0,O⟩) 4 vc,xs)])):=by
              refine cA.snoc2 (C:=wo.heap.size) KA.o co.o a8.o.2.2 ?_ (by rw[X4.o];unfold maxLen;omega) bn b5
              have a1:vb<((wr.setCell ⟨pb,k,O⟩ (I J (s:Int))).alloc (iC #[iB lf,Y (X ⟨vb,0,O⟩) 4 vc] 189)).heap.size:=fE (by rw[bc.o];exact a8.o.2.1) BA.o.size
              show aG 3 _ _ (Y (X ⟨vb,0,O⟩) 4 vc) xs.length _ _;rw[X4.o];exact .inr ⟨vb,vc,rfl,a8.o.1,a1,VF.o.below BA.o⟩
             obtain⟨ua,uc,cz,-⟩:=(aG.of ho).form;subst cz;have oy:y.cell? ⟨t,0,O⟩=X (Y oa s oc):=TY.o.at 0 0 rfl rfl;have fy:y.frozen? ⟨t,0,O⟩=iF:=TY.o.fr 0 0 rfl;have TN:ah (Tk w (y.setCell ⟨t,0,O⟩ (Y ua (s+1) uc)) (jH z A m g c pb t (Y (X ⟨b,aa,O⟩) c cap) (Y sa m N) (Y ua (s+1) uc) qs U (k+1))):=by
              refine TY.o.write 0 rfl (by omega) _ (λx d=>⟨rp _ d,.inl ?_⟩)
              simp only[aX,eI,fp]at d;rcases d with rfl|rfl|rfl|rfl|rfl<;>(simp only;omega)
             have KN:ah (cA (y.setCell ⟨t,0,O⟩ (Y ua (s+1) uc)) (t+1) (Y ua (s+1) uc) (K++[(lf,Y (X ⟨vb,0,O⟩) 4 vc,xs)])):=KY.o.cellB (by omega) _ _
             have aZ:ah ((K++[(lf,Y (X ⟨vb,0,O⟩) 4 vc,xs)]).map aD=kD U L (k+1)):=by show _=_;rw[fm];exact bF.o
             generalize K++[(lf,Y (X ⟨vb,0,O⟩) 4 vc,xs)]=cF at KN aZ;clear ho bn b5 TY KY TA KA TP KP OW CN bw BA VF bc;go_wp2;go_roundw
             case rel=>exact⟨k+1,_,cF,by omega,by go_num,aZ,TN,KN⟩
             case measure=>simp[intOf];omega
       ·have cs:k=c:=by omega
        subst cs;have SW:ah (K.map aD=jZ L qs):=by show _=_;rw[ag.o,jZ,HU.o,aR.o]
        have T6:ah (Tk w wr (jH z A m g k pb t (Y ad k cap) (Y sa m N) ov (eo U iF qs 0) U k)):=by rw[JR];exact TK
        have UR:ah (∀(r:Int),r∈qs->0<=r->∃a:Nat,r=(a:Int)/\a<k/\U a=iV):=λr V h0=>by
         obtain⟨x,d,-⟩:=lu (TO.o.2 r V) h0;have h1:=(aB.1 d).1;have h2:=ye (l:=L) V h0;rw[HU.o]at h2;exact⟨r.toNat,by omega,by have:=aR.o;omega,h2⟩
        have K6:=KO;clear KO TK ag;go_wp2;clear bx;go_loopw [18] (λZ W=>∃j:Nat,j<=m/\Z=I J j/\ah (Tk w W (jH z A m g k pb t (Y ad k cap) (Y sa m N) ov (eo U iF qs j) U k))/\ah (cA W (t+1) ov K)) (λZ _=>m-(intOf Z).toNat)
        case atStart=>exact⟨0,aK _,rfl,T6,K6⟩
        case round=>
         obtain⟨j,hj,rfl,S,KJ⟩:=hrel;clear T6 K6;by_cases cH:(j:Int)<m
         ·obtain⟨r,V⟩:∃r,qs[j]?=X r:=⟨_,ay (by have:=R.o;omega)⟩
          have hS:aG 3 (z+2) A (Y sa m N) m (ax (eo U iF qs j)) wr:=S.o.get 3 rfl;obtain⟨sb,cy,cP,cQ⟩:∃sb,sa=X ⟨sb,0,O⟩/\z+2<=sb/\sb<A:=by
           obtain⟨cJ,c',e,q⟩:=hS.form;injection e with e1 e2 e3
           subst e1;exact q (by omega)
          subst cy;have c5:wr.cell? ⟨sb,j,O⟩=X (I J r):=hS.flt.cell (iI (Co V));have c6:=hS.flt.frozen j;have cY:(0:Int)<=j:=by omega
          by_cases av:r<0
          ·have TN:ah (Tk w wr (jH z A m g k pb t (Y ad k cap) (Y (X ⟨sb,0,O⟩) m N) ov (eo U iF qs (j+1)) U k)):=by rw[<-I5 V (r9 U av)];exact S
           clear V hS S;go_wp2;go_roundw
           case rel=>exact⟨j+1,by omega,by go_num,TN,KJ⟩
           case measure=>simp[intOf];omega
          ·obtain⟨a,rfl,au,ar⟩:=UR.o r (aO V) (by omega)
           have pa:wr.cell? ⟨pb,a,O⟩=X (I J (cX U a)):=by
            have hF:aP 3 pb (ax ((List.range k).map (fA U k))) wr:=S.o.get 1 rfl;have:=hF.cell (iI (tB (fA U k) au));rw[BI au ar]at this;exact this
           have TN:ah (Tk w (wr.setCell ⟨sb,j,O⟩ (I J (cX U a))) (jH z A m g k pb t (Y ad k cap) (Y (X ⟨sb,0,O⟩) m N) ov (eo U iF qs (j+1)) U k)):=by
            have e1:(ax (eo U iF qs j)).set j (I J (cX U a))=ax (eo U iF qs (j+1)):=by
             rw[<-Au V,p9];simp[ax,List.map_set]
            have hq:=hS.setAt j (I J (cX U a:Int));rw[e1]at hq;have aY:=HZ.o;have:=S.o.touch (lo:=z+2) (hi:=A) (wj:=wr.setCell ⟨sb,j,O⟩ (I J (cX U a:Int))) (Q:=aG 3 (z+2) A (Y (X ⟨sb,0,O⟩) m N) m (ax (eo U iF qs (j+1)))) ⟨rfl,rfl,rfl,by simp[World.setCell],λi _ hi=>aS _ _ _ _ (show i≠sb by unfold Da at hi;omega)⟩ (by omega) (S.o.hi 3 rfl) (aG.loc _ _ _ _ _ _) hq (hs':=(t,t+1,bS t #[ov] 30)::(pb,pb+1,aP 3 pb (ax ((List.range k).map (fA U k))))::(g,g+1,aP 4 g (bM ((List.range k).map U)))::[(z+1,z+1+1,bS (z+1) #[Y O 0 0] 30),(z,z+1,bS z #[Y ad k cap] 30)]) (by
             intro x d;simp only[jH,aX,eI,fp]at d⊢;rcases d with rfl|rfl|rfl|rfl|rfl
             ·exact⟨.inl rfl,.inr (by simp only;omega)⟩
             ·exact⟨.inr (.inl rfl),.inr (by simp only;omega)⟩
             ·exact⟨.inr (.inr (.inl rfl)),.inr (by simp only;omega)⟩
             ·exact⟨.inr (.inr (.inr (.inr (.inl rfl)))),.inl (by simp only;omega)⟩
             ·exact⟨.inr (.inr (.inr (.inr (.inr rfl)))),.inl (by simp only;omega)⟩)
            refine this.drop (λx d=>?_)
            simp only[jH,aX,eI,fp]at d⊢;rcases d with d|d|d|d|d|d
            ·exact .inr (.inl d)
            ·exact .inr (.inr (.inl d))
            ·exact .inr (.inr (.inr (.inl d)))
            ·exact .inl d
            ·exact .inr (.inr (.inr (.inr (.inl d))))
            ·exact .inr (.inr (.inr (.inr (.inr d))))
           have KN:ah (cA (wr.setCell ⟨sb,j,O⟩ (I J (cX U a))) (t+1) ov K):=KJ.o.cellB (by omega) _ _
           have a0:(0:Int)<=a:=by omega
           have al:(a:Int)<k:=by omega
           obtain⟨c7,a5⟩:=aq (cX U a);rw[a5]at pa TN KN;clear V hS S KJ a5 ar;go_wp2;go_roundw
           case rel=>exact⟨j+1,by omega,by go_num,TN,KN⟩
           case measure=>simp[intOf];omega
         ·have cr:j=m:=by omega
          subst cr;obtain⟨oa,oc,bq⟩:=KJ.o.form;subst bq;obtain⟨s,aA⟩:=aq K.length;rw[aA]at S KJ;have r0:wr.cell? ⟨z+1,0,O⟩=X (Y O 0 0):=S.o.at 4 0 rfl rfl;have f0:wr.frozen? ⟨z+1,0,O⟩=iF:=S.o.fr 4 0 rfl;have o0:wr.cell? ⟨t,0,O⟩=X (Y oa s oc):=S.o.at 0 0 rfl rfl;have FR:ah ((wr.setCell ⟨z+1,0,O⟩ (Y oa s oc)).heap[z+1]?=X (iC #[Y oa s oc] 30 (0,0))):=dq (S.o.get 4 rfl) 0 _;have a9:ah (sT w (jD L qs) (mC L qs) (G (iU #[iA #[Y oa s oc],Y sa j N])) (wr.setCell ⟨z+1,0,O⟩ (Y oa s oc))):=by
           rw[E.o.1,E.o.2];have aY:=HZ.o;have cf:(wr.setCell ⟨z+1,0,O⟩ (Y oa s oc)).heap.size=wr.heap.size:=by simp[World.setCell]
           have cN:t+1<=wr.heap.size:=S.o.hi 0 rfl;have ap:∀q,z+2<=q->(wr.setCell ⟨z+1,0,O⟩ (Y oa s oc)).heap[q]?=wr.heap[q]?:=λq hq=>aS _ _ _ _ (show q≠z+1 by omega)
           have hS:aG 3 (z+2) A (Y sa j N) j (ax (eo U iF qs j)) wr:=S.o.get 3 rfl;have ep:eo U iF qs j=qs.map (fL U):=by
            rw[eo,aj (show¬(iF=iV)by decide),bL (by rw[bm,R.o];exact am _),me (by rw[R.o];exact am _),dS]
           rw[ep]at hS;refine⟨_,_,t+1,wr.heap.size,z+2,A,rfl,?_,?_,by omega,by rw[cf];exact am _,by omega,by rw[cf];omega,.inr (by omega),?_⟩
           ·exact dy.loc _ _ _ _ _ _ (λq q1 q2=>ap q (by omega)) ⟨K,SW.o,KJ.o.fK⟩
           ·rw[bm,R.o];exact aG.loc _ _ _ _ _ _ _ _ (λq q1 q2=>ap q q1) hS
           ·exact S.o.1.setCell (p:=⟨z+1,0,O⟩) (by show w.heap.size<=z+1;omega) _
          clear S KJ;go_wp2;exact aE (oS (p:=4) (q:=5) rfl _ _ (z+1) _ rfl FR.o) rfl a9.o
end Go.Proofs.YtgigcooffjjbgaaGreatDoor
