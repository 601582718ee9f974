/-
  SSweep
-/
import Derived.Test.YtijmbohadndfmaaGreatDoorPk16
open Go.Value renaming int→I,slice→Y,bool→iB,pointer→iP,agg→iA,tuple→iU
open Go.IntKind renaming i64→J
open Option renaming none→O,some→X
open Go.Ending renaming returned→G
open Go.Obj renaming cells→iC
open Bool renaming true→iV,false→iF
open Go renaming World→iW,Value→iX
open Go.RowKit renaming Below→iL
set_option maxHeartbeats 4000000
set_option maxRecDepth 100000
namespace Go.Proofs.YtijmbohadndfmaaGreatDoor
open Go.RowKit Words
variable{α:Type}{a:Act}{ops:Array Oper}{lf:Bool}{xs:List Int}{rest:List Oper}{k n B C i vb vc xb q:Nat}{u:Nat -> Bool}
theorem VS (w:iW) {o:Oper} {Q:Exit->Act->iW->Prop} (k:o.guard=O) (s x:Operand)
 (B:o.op=.call {callee:=.builtin .append,args:= #[s,x],argTypes:= #[72,72]})
 (base:Nat) (i:TypeInfo) (hi:Tryz.prog.info? 3=X i) (F:i.zero=X (I J 0)) (j:i.size=1) (t:i.bytes=8)
 (v:iX) (n:Nat) (xs:List iX) (hs:a.eval s=v) (f:w.ownsRow base 3 1 v n xs)
 (ls:List Int) (m:Nat) (G:ls.length=m) (u:iX) (z:a.eval x=u) (C:kh w u ls) (r:n+m<=maxLen) (d:(n+m)*8<=140737488355328) (g:base<=w.heap.size)
 (h:∀p w',w'.ownsRow base 3 1 p (n+m) (xs++aE ls)->w.grownBy w' v.ownBlock->wpList Tryz.prog ops Q rest (a.put o.dst p) w'):wpList Tryz.prog ops Q (o::rest) a w:=by
 subst G;obtain⟨ad,c,rfl,h0,E⟩:=C;cases ls with
 |nil=>
  cases ad with
  |none=>
   rw[h0 rfl]at z;exact FQ k s x 72 B base 3 i 1 Tryz.underlying72 hi v n xs hs f z (h v w (by simpa[aE]using f) (rK _ _))
  |some q=>exact cN w k s x 72 B base 3 i (I J 0) 1 8 Tryz.underlying72 hi F j t rfl (by decide) v n xs hs f q 0 c [] z rfl (λ_ _ e=>by simp at e) (λ_ e=>by cases e) r d g (λp w' h1 A _=>h p w' h1 A)
 |cons y l=>
  obtain⟨b,D,e,-,H⟩:=E.2.2 (by simp)
  subst e;exact cN w k s x 72 B base 3 i (I J 0) 1 8 Tryz.underlying72 hi F j t rfl (by decide) v n xs hs f ⟨b,D,O⟩ _ c (aE (y::l)) z (by simp[aE]) E.cells (qp _) r d g (λp w' h1 A _=>h p w' h1 A)
theorem Fu{f f':Nat->α}{b:α}(a:∀i,i≠k->f' i=f i)(c:f' k=b):((List.range n).map f).set k b=(List.range n).map f':=by
 apply kM;intro i;rw[uw];by_cases e:k=i
 ·subst e;by_cases h:k<n
  ·simp[h,c]
  ·simp[h]
 ·rw[ai e,bk,bk];by_cases h:i<n
  ·simp[h,a i (Ne.symm e)]
  ·simp[h]
theorem sG(f:Nat->α)(h:k<n):((List.range n).map f)[k]?=X (f k):=by simp[h]
theorem ct.snoc2 {W y:iW} {v u':iX} {rs:List Kw} {r:Kw} (h:ct W B v rs) (p:∀x∈rs,∀g,x.2.1.ownBlock=X g->g<C) (o:B<=C) (k:aB 3 C W.heap.size r.2.1 r.2.2.length (aE r.2.2) W) (w:r.2.2.length<=maxLen)
 (d:W.grownBy y v.ownBlock) (z:y.ownsRow B 205 2 u' (rs++[r]).length (dT (rs++[r]))):ct y B u' (rs++[r]):=by
 have u:=fQ h.1;have i:∀(t:iX) (g:Nat),v.ownBlock=X g->∀{lo hi n:Nat} {xs:List iX},aB 3 lo hi t n xs W->t.ownBlock≠X g:=by
  intro t g d lo hi n xs hs e;obtain⟨-,-,cs,q⟩:=u g d;obtain⟨-,-,l,q'⟩:=hs.lt g e;exact Ck q' q
 refine⟨z,?_,?_⟩
 ·intro x c;rcases br.1 c with c|c
  ·exact⟨((h.2.1 x c).1.grown d (λg e f=>i _ g f (h.2.1 x c).1 e)).up d.size,(h.2.1 x c).2⟩
  ·simp only[bT]at c;subst c;exact⟨((k.grown d (λg e f=>i _ g f k e)).dn o).up d.size,w⟩
 ·refine eW.2 ⟨h.2.2,mA _ _,?_⟩;intro a s b j g m f;simp only[bT]at j;subst j;have A:=p a s g m;have D:=(k.lt g f).1;omega
def fk(u:Nat->Bool)(k i:Nat):Int:=if i<k/\u i=iV then(cY u i:Int)else 0
theorem Xe(u:Nat->Bool)(i:Nat):fk u 0 i=0:=by rw[fk,ai (by omega)]
theorem Qp(h:u k=iF)(i:Nat):fk u (k+1) i=fk u k i:=by
 unfold fk;by_cases e:i=k
 ·subst e;rw[h];simp
 ·have:(i<k+1)↔(i<k):=by omega
  simp only[this]
theorem Nf(i:Nat)(hi:i≠k):fk u (k+1) i=fk u k i:=by
 unfold fk;have:(i<k+1)↔(i<k):=by omega
 simp only[this]
theorem Dr(hi:i<k)(h:u i=iV):fk u k i=cY u i:=by rw[fk,aj ⟨hi,h⟩]
def jR(z c m g a pb b:Nat)(d f e:iX)(qs:List Int)(u:Nat->Bool)(k:Nat):List nU:=
 (b,b+1,bZ b #[e] 42)::(pb,pb+1,aN 3 pb (aE ((List.range a).map (fk u k))))::(g,g+1,aN 4 g (bN ((List.range a).map u)))::[(z+2,c,aB 3 (z+2) c f m (aE qs)),(z+1,z+1+1,bZ (z+1) #[Y O 0 0] 42),(z,z+1,bZ z #[d] 42)]
def eZ(wr W:iW)(xb vb vc:Nat)(lf:Bool)(xs:List Int):Prop:=W.heap[xb]?=X (iC #[iB lf,Y (X ⟨vb,0,O⟩) 4 vc] 205 (0,0))/\aN 3 vb (aE xs) W/\iL wr.heap.size wr W/\wr.heap.size<=xb/\wr.heap.size<=vb
theorem eZ.ne{wr W:iW}(h:eZ wr W xb vb vc lf xs):xb≠vb:=by
 intro e;obtain⟨h1,⟨cs,a,-⟩,-⟩:=h;rw[e,a]at h1;injection h1 with h1
 injection h1 with _ h1
 simp at h1
theorem eZ.vlt{wr W:iW}(h:eZ wr W xb vb vc lf xs):vb<W.heap.size:=by
 obtain⟨-,⟨cs,a,-⟩,-⟩:=h;exact(aJ.1 a).1
theorem eZ.set{wr W:iW}(h:eZ wr W xb vb vc lf xs)(n:Int):eZ wr (W.setCell ⟨vb,q,O⟩ (I J n)) xb vb vc lf (xs.set q n):=by
 refine⟨dC h.1 h.ne _ _,?_,h.2.2.1.setCell (p:=⟨vb,q,O⟩) h.2.2.2.2 _,h.2.2.2⟩;have:=h.2.1.set q (I J n);have e:(aE xs).set q (I J n)=aE (xs.set q n):=by simp[aE,List.map_set]
 rw[e]at this;exact this
theorem Bn{a:iW}(h:a.heap[q]?=X (iC #[] 3 (0,0)))(b:B<=q):a.ownsRow B 3 1 (Y (X ⟨q,0,O⟩) 0 0) 0 []:=⟨rfl,.inr ⟨q,0,#[],rfl,b,h,ak _,by unfold maxLen;omega,rfl,rfl⟩⟩
theorem eZ.late{wr W:iW}(a:iL wr.heap.size wr W)(b:aN 3 vb (aE xs) W)(c:wr.heap.size<=vb):eZ wr (W.alloc (iC #[iB lf,Y (X ⟨vb,0,O⟩) 4 vc] 205)) W.heap.size vb vc lf xs:=
 ⟨az W _,b.below (aY),a.alloc a.size _,a.size,c⟩
theorem eZ.early{wr W:iW}{a c:iX}(j:iL wr.heap.size wr W)(h:W.heap[xb]?=X (iC #[a,c] 205 (0,0)))(d:wr.heap.size<=xb)(g:aN 3 vb (aE xs) W)(k:wr.heap.size<=vb):eZ wr ((W.setCell ⟨xb,0,O⟩ (iB lf)).setCell ⟨xb,1,O⟩ (Y (X ⟨vb,0,O⟩) 4 vc)) xb vb vc lf xs:=by
 have f:vb≠xb:=by
  intro e;obtain⟨cs,b,-⟩:=g;rw[e,h]at b;injection b with b
  injection b with _ b
  simp at b
 refine⟨eo (eo h 0 _) 1 _,?_,(j.setCell (p:=⟨xb,0,O⟩) d _).setCell (p:=⟨xb,1,O⟩) d _,d,k⟩;obtain⟨cs,b,i⟩:=g;exact⟨cs,dC (dC b f _ _) f _ _,i⟩
theorem Du{W:iW}{v:iX}(h:W.ownsRow B 3 1 v 4 (aE xs)):∃vb vc,v=Y (X ⟨vb,0,O⟩) 4 vc/\aN 3 vb (aE xs) W/\B<=vb:=by
 obtain⟨ad,c,e,q⟩:=(aB.of h).form;obtain⟨g,rfl,h1,-⟩:=q (by omega)
 subst e;exact⟨g,c,rfl,(aB.of h).flt,h1⟩
def dP(u:Nat->Bool)(lf:Bool)(ls:List Int)(q:Nat):List Int:=if lf=iV then ls else(ls.map (fm u)).take q++ls.drop q
theorem Lm(u:Nat->Bool)(lf:Bool)(ls:List Int):dP u lf ls 0=ls:=by unfold dP;split<;>simp
theorem Bq{ls:List Int}{n:Int}(h:ls[q]?=X n):(dP u iF ls q)[q]?=X n:=by
 have a:=(aD.1 h).1;rw[dP,ai (by decide),dz (by rw[dk];omega),dk,aS,sR (by omega),ja,mQ]
 simpa using h
theorem Bi{ls:List Int}{n:Int}(h:ls[q]?=X n):(dP u iF ls q).set q (fm u n)=dP u iF ls (q+1):=by
 obtain⟨b,e⟩:=aD.1 h;have a:q<(ls.map (fm u)).length:=by rw[aS];exact b
 have c:(ls.map (fm u))[q]=fm u n:=by rw[Bw,e]
 rw[dP,dP,ai (by decide),ai (by decide),ii _ _ (by rw[dk];omega),dk,aS,sR (by omega),ja,gj b,bE,ge a,c,fJ]
 rfl
theorem FZ{ls:List Int}{n:Int}(h:ls[q]?=X n)(b:fm u n=n):dP u iF ls q=dP u iF ls (q+1):=by
 obtain⟨h1,a⟩:=aD.1 (Bq (u:=u) h);rw[<-Bi h,b];have:=Jm h1;rw[a]at this;exact this.symm
theorem Pi{ls:List Int}(h:ls.length=4)(a:lf=iV∨q=4):(⟨lf,dP u lf ls q⟩:Kn)=dI u ⟨lf,ls⟩:=by
 unfold dP dI;cases lf with
 |true=>rfl
 |false=>
  rcases a with a|rfl
  ·cases a
  ·rw[ai (show¬(iF=iV)by decide),ai (show¬(iF=iV)by decide),cm (by rw[aS];omega),kB (by omega),eM]
def mC(z a m:Nat)(b c:iX)(qs:List Int):List nU:=[(z+2,a,aB 3 (z+2) a c m (aE qs)),(z+1,z+1+1,bZ (z+1) #[Y O 0 0] 42),(z,z+1,bZ z #[b] 42)]
theorem I7:VZ 104:=by
 intro ad c cap rs ra m rc qs w hl hm bV h b1 br;have T0:=af (Tk.two w #[Y ad c cap] #[Y O 0 0] 42 42);have Z0:ah (((w.alloc (iC #[Y ad c cap] 42)).alloc (iC #[Y O 0 0] 42)).heap.size=w.heap.size+2):=by show _=_;simp
 have H:=af h;have HQ:=af br;have N:=af br.1;have ci:=af b1;have ch:=af bV;have aR:=af (show(rs.map aG).length=c by rw[aS];exact h.1)
 clear h bV br b1;obtain⟨L,hL⟩:=an (rs.map aG);have HL:=af hL;rw[hL]at aR⊢;clear hL;have BE:ah (iL ((w.alloc (iC #[Y ad c cap] 42)).alloc (iC #[Y O 0 0] 42)).heap.size ((w.alloc (iC #[Y ad c cap] 42)).alloc (iC #[Y O 0 0] 42)) (((w.alloc (iC #[Y ad c cap] 42)).alloc (iC #[Y O 0 0] 42)).alloc (iC #[] 3))):=aY;have OE:ah ((((w.alloc (iC #[Y ad c cap] 42)).alloc (iC #[Y O 0 0] 42)).alloc (iC #[] 3)).ownsRow (w.heap.size+2) 3 1 (Y (X ⟨w.heap.size+1+1,0,O⟩) 0 0) 0 []):=yL _ Z0.o;have SE:ah (kh (((w.alloc (iC #[Y ad c cap] 42)).alloc (iC #[Y O 0 0] 42)).alloc (iC #[] 3)) (Y ra m rc) qs):=by
  have:=N.o;rw[<-this];exact⟨ra,rc,rfl,ci.o,by rw[this];exact(HQ.o.below T0.o.1).below BE.o⟩
 obtain⟨i0,bL,ca,cb,a1⟩:=bK nG;have I0:=af bL;have Y0:=af ca;have Y1:=af cb;have Y2:=af a1;have bB:ah (w.heap.size+2<=(((w.alloc (iC #[Y ad c cap] 42)).alloc (iC #[Y O 0 0] 42)).alloc (iC #[] 3)).heap.size):=by show _<=_;simp
 clear bL ca cb a1;go_enter Tryz.func104,Tryz.ntmps104;go_wp2_with (at_builtin;refine VS _ rfl _ _ rfl (w.heap.size+2) i0 I0.o Y0.o Y1.o Y2.o _ 0 [] rfl OE.o qs m N.o _ rfl SE.o ?c1 ?c2 bB.o ?_)
 case c1=>unfold maxLen;omega
 case c2=>omega
 intro sv w1 o1 g1;have bH:=BE.o.grown g1 BE.o.size (λq hq=>by cases hq;rw[Z0.o];exact ak _)
 have T1:ah (Tk w w1 (mC w.heap.size w1.heap.size m (Y ad c cap) sv qs)):=by
  have:=T0.o.add bH (P:=aB 3 (w.heap.size+2) w1.heap.size sv m (aE qs)) (by rw[Z0.o];exact aB.loc _ _ _ _ _ _) (aB.of o1)
  rw[Z0.o]at this;exact this
 obtain⟨Z,M,rfl,-⟩:=(aB.of o1).form;clear o1 g1 bH SE OE BE T0 Z0 bB;obtain⟨z,hz⟩:=an w.heap.size;have HZ:=af hz;rw[hz]at T1⊢;clear hz;have KR:ah (∀W hs,Tk w W hs->eH W ad c rs):=λW hs hW=>H.o.below hW.1
 have QR:ah (∀W hs,Tk w W hs->gR W ra m qs):=λW hs hW=>HQ.o.below hW.1
 have bx:w1.cell? ⟨z,0,O⟩=X (Y ad c cap):=T1.o.at 2 0 rfl rfl;go_wp2_with fail;refine(vU ad c cap rs w1 hl (KR.o _ _ T1.o)).mono ?_;rw[HL.o];rintro e w2 ⟨rfl,b2⟩;have T2:=af (T1.o.below b2);clear b2 T1 bx;obtain⟨A,aC⟩:=an w1.heap.size;rw[aC]at T2;clear aC;obtain⟨b0,bl⟩:=an (cO L);rw[bl];have E0:ah (b0=(cO L&&(qs.take 0).all (bO L))):=by show _=_;rw[<-bl];simp
 clear bl;go_wp2;go_loopw [7,8] (λov V W=>∃(k:Nat) (b:Bool),k<=m/\V=I J k/\ov=iB b/\ah (b=(cO L&&(qs.take k).all (bO L)))/\ah (Tk w W (mC z A m (Y ad c cap) (Y Z m M) qs))) (λ_ V _=>m-(intOf V).toNat)
 case atStart=>exact⟨0,b0,aI _,rfl,rfl,E0,T2⟩
 case round=>
  obtain⟨k,b,hk,rfl,rfl,HB,HT⟩:=hrel;clear T2 E0;have bx:wr.cell? ⟨z,0,O⟩=X (Y ad c cap):=HT.o.at 2 0 rfl rfl;by_cases ab:(k:Int)<m/\b=iV
  ·obtain⟨bW,rfl⟩:=ab;obtain⟨r,T⟩:∃r,qs[k]?=X r:=⟨_,ay (by have:=N.o;omega)⟩
   obtain⟨rb,ro,e,aW,aX⟩:=(QR.o _ _ HT.o).at T;subst e;have k0:(0:Int)<=k:=by omega
   have TD:=af HT.o.drew;have C:=af (wN ad c cap rs r wr.drew hl (KR.o _ _ TD.o));rw[HL.o]at C;have cf:ah (bO L r=(cO L&&(qs.take (k+1)).all (bO L))):=by
    show _=_;rw[dF,T,BI];have:=HB.o;simp only[rh,List.all_cons,List.all_nil,Cx];rw[<-Bool.and_assoc,<-this,jr]
   have KP:ah (∀W,iL wr.drew.heap.size wr.drew W->W.cell? ⟨z,0,O⟩=X (Y ad c cap)/\W.cell? ⟨rb,ro+k,O⟩=X (I J r)):=λW hW=>
    ⟨(TD.o.below hW).at 2 0 rfl rfl,(hW.cell (show rb<wr.drew.heap.size from aW)).trans aX⟩
   clear T HB;go_wp2;go_region_held3 (λw'=>w'.cell? ⟨z,0,O⟩=X (Y ad c cap)/\w'.cell? ⟨rb,ro+k,O⟩=X (I J r)) (first|go_keep|exact KP.o _ BB.o) ((go_at_call 102;(with_reducible refine dq C.o ?_);rintro en w3 ⟨rfl,bb⟩;have BB:=af bb;clear bb))
   all_goals
    have T3:=af (TD.o.below BB.o);clear TD KP C HT BB;go_wp2;go_roundw
    case rel=>exact⟨k+1,bO L r,by omega,by go_num,rfl,cf,T3⟩
    case measure=>simp[intOf];omega
  ·have ao:ah (b=py L qs):=by
    show _=_;rw[py,HB.o];by_cases bS:k<m
    ·have cr:b=iF:=by
      cases b with
      |false=>rfl
      |true=>exact absurd ⟨by omega,rfl⟩ ab
     have h1:=HB.o;rw[cr]at h1;rw[<-h1];cases hA:cO L with
     |false=>rfl
     |true=>
      rw[hA,jr]at h1;rw[jr]
      symm
      rw[sj]at*;have h2:=h1.symm;rw[sj]at h2;obtain⟨x,d,hn⟩:=h2;exact⟨x,qj d,hn⟩
    ·rw[cm (by have:=N.o;omega)]
   have bm:ah (¬((k:Int)<m/\b=iV)):=ab;clear HB ab;cases b with
   |false=>
    have E:ah (jp L qs=L/\mr L qs=qs):=⟨by rw[jp,<-ao.o];rfl,by rw[mr,<-ao.o];rfl⟩
    by_cases bS:(k:Int)<m;all_goals
     go_wp2_with fail;refine(Cb ad c cap rs wr hl ch.o (KR.o _ _ HT.o)).mono ?_;rw[HL.o];rintro e w3 ⟨v,rfl,uv,ss,rfl,ko,b6,b3⟩;obtain⟨ua,uc,rfl⟩:=ko.form;have T3:=af (HT.o.below b3);have K3:ah (dt wr.heap.size w3.heap.size (Y ua ss.length uc) L w3):=⟨ss,b6,ko.fK⟩;have cR:=b3.size;have cv:A<=wr.heap.size:=HT.o.hi 0 rfl;have r0:w3.cell? ⟨z+1,0,O⟩=X (Y O 0 0):=T3.o.at 1 0 rfl rfl;have f0:w3.frozen? ⟨z+1,0,O⟩=iF:=T3.o.fr 1 0 rfl;obtain⟨un,b7⟩:=an ss.length;rw[b7]at K3⊢;clear ko b6 b3 b7 bx;have FR:ah ((w3.setCell ⟨z+1,0,O⟩ (Y ua un uc)).heap[z+1]?=X (iC #[Y ua un uc] 42 (0,0))):=eo (T3.o.get 1 rfl) 0 _;have bc:ah (sw w (jp L qs) (mr L qs) (G (iU #[iA #[Y ua un uc],Y Z m M])) (w3.setCell ⟨z+1,0,O⟩ (Y ua un uc))):=by
      rw[E.o.1,E.o.2];have cc:(w3.setCell ⟨z+1,0,O⟩ (Y ua un uc)).heap.size=w3.heap.size:=by simp[World.setCell]
      have aq:∀q,z+2<=q->(w3.setCell ⟨z+1,0,O⟩ (Y ua un uc)).heap[q]?=w3.heap[q]?:=λq hq=>aU _ _ _ _ (show q≠z+1 by omega)
      have cI:z+1+1<=wr.heap.size:=HT.o.hi 1 rfl;refine⟨_,_,wr.heap.size,w3.heap.size,z+2,A,rfl,?_,?_,by rw[HZ.o];omega,by rw[cc];exact ak _,by rw[HZ.o];omega,by rw[cc];omega,.inr cv,?_⟩
      ·exact dt.loc _ _ _ _ _ _ (λq q1 q2=>aq q (by omega)) K3.o
      ·rw[N.o];exact aB.loc _ _ _ _ _ _ _ _ (λq q1 q2=>aq q q1) (T3.o.get 0 rfl)
      ·exact T3.o.1.setCell (p:=⟨z+1,0,O⟩) (by rw[HZ.o];show z<=z+1;omega) _
     go_wp2;exact aF (o9 (p:=4) (q:=5) rfl _ _ (z+1) _ rfl FR.o) rfl bc.o
   |true=>
    have bS:¬((k:Int)<m):=λq=>bm.o ⟨q,rfl⟩
    have TO:=af (LS ao.o.symm);have E:ah (jp L qs=jE L qs/\mr L qs=qs.map (fm (bw L qs))):=⟨by rw[jp,aj ao.o.symm],by rw[mr,aj ao.o.symm]⟩
    obtain⟨i1,hi1,aM,aO,aP⟩:=bK Cu;have gz:wr.heap.size=wr.heap.size:=rfl;go_wp2_with (at_make;refine pZ _ rfl _ _ 206 rfl wr.heap.size 4 i1 (iB iF) 1 Tryz.underlying206 hi1 aM aO J J _ _ c rfl rfl rfl rfl (by rw[aP];omega) (by unfold maxLen;omega) (ak _) ?_)
    intro w3 D S;rw[sI]at D;clear hi1 aM aO aP gz;have b3:iL wr.heap.size wr w3:=(ax _ _).grown S (ak _) (λk hk=>by cases hk)
    have b9:w.heap.size<=wr.heap.size:=HT.o.1.size;have aC:A<=wr.heap.size:=HT.o.hi 0 rfl;have ce:z+1+1<=wr.heap.size:=HT.o.hi 1 rfl;have T3:ah (Tk w w3 ((wr.heap.size,wr.heap.size+1,aN 4 wr.heap.size (bN ((List.range c).map (bw L (qs.take 0)))))::mC z A m (Y ad c cap) (Y Z m M) qs)):=by
     refine(HT.o.below b3).put (D.lt _ rfl).2 (aN.loc _ _ _) ?_;have e:List.replicate c (iB iF)=bN ((List.range c).map (bw L (qs.take 0))):=by
      apply kM;intro i;by_cases h:i<c
      ·simp[bN,h,bw]
      ·simp[bN,h]
     have:=(aB.of D).flt;rw[e]at this;exact this
    obtain⟨g,hg⟩:=an wr.heap.size;rw[hg]at T3 aC ce b9⊢;clear D S b3 HT hg bx;go_wp2;go_loopw [10] (λV W=>∃j:Nat,j<=m/\V=I J j/\ah (Tk w W ((g,g+1,aN 4 g (bN ((List.range c).map (bw L (qs.take j)))))::mC z A m (Y ad c cap) (Y Z m M) qs))) (λV _=>m-(intOf V).toNat)
    case atStart=>exact⟨0,aI _,rfl,T3⟩
    case round=>
     obtain⟨j,hj,rfl,R⟩:=hrel;clear T3;have bx:wr.cell? ⟨z,0,O⟩=X (Y ad c cap):=R.o.at 3 0 rfl rfl;by_cases bW:(j:Int)<m
     ·obtain⟨r,T⟩:∃r,qs[j]?=X r:=⟨_,ay (by have:=N.o;omega)⟩
      obtain⟨rb,ro,e,aW,aX⟩:=(QR.o _ _ R.o).at T;have e':=e;subst e';have j0:(0:Int)<=j:=by omega
      have TD:=af R.o.drew;have C:=af (Ow ad c cap rs r wr.drew hl (KR.o _ _ TD.o) (by rw[HL.o];exact TO.o.1) (by rw[HL.o];exact TO.o.2 r (aH T)))
      rw[HL.o]at C;have cj:=af T;have KP:ah (∀W,iL wr.drew.heap.size wr.drew W->W.cell? ⟨z,0,O⟩=X (Y ad c cap)/\W.cell? ⟨rb,ro+j,O⟩=X (I J r)):=λW hW=>
       ⟨(TD.o.below hW).at 3 0 rfl rfl,(hW.cell (show rb<wr.drew.heap.size from aW)).trans aX⟩
      clear T R;go_wp2;go_region_held3 (λw'=>w'.cell? ⟨z,0,O⟩=X (Y ad c cap)/\w'.cell? ⟨rb,ro+j,O⟩=X (I J r)) (first|go_keep|exact KP.o _ BB.o) ((go_at_call 136;(with_reducible refine dq C.o ?_);rintro en w4 ⟨hg,rfl,h1,h2,h3,bb⟩;have BB:=af bb;have HF:=af h3;have bz:=af h1;have bA:=af h2;clear bb h1 h2 h3))
      all_goals
       have bI:g+1<=wr.drew.heap.size:=TD.o.hi 0 rfl;have cu:g+1<=hg:=bR bI bz.o;have T4:ah (Tk w w4 ((hg,hg+1,aN 4 hg (bN ((List.range c).map (dE L r))))::(g,g+1,aN 4 g (bN ((List.range c).map (λx=>bw L (qs.take j) x||(decide (x<0)&&dE L r x)))))::mC z A m (Y ad c cap) (Y Z m M) qs)):=by
        have e:(λx=>bw L (qs.take j) x||(decide (x<0)&&dE L r x))=bw L (qs.take j):=by funext x;simp
        rw[e];exact(TD.o.below BB.o).put bA.o (aN.loc _ _ _) HF.o
       clear TD KP C BB HF bz bA aW aX bI bx;go_wp2;go_loopw [12] (λV W=>∃i:Nat,i<=c/\V=I J i/\ah (Tk w W ((hg,hg+1,aN 4 hg (bN ((List.range c).map (dE L r))))::(g,g+1,aN 4 g (bN ((List.range c).map (λx=>bw L (qs.take j) x||(decide (x<i)&&dE L r x)))))::mC z A m (Y ad c cap) (Y Z m M) qs))) (λV _=>c-(intOf V).toNat)
       case atStart=>exact⟨0,aI _,rfl,T4⟩
       case round=>
        obtain⟨i,hi,rfl,TI⟩:=hrel;clear T4;by_cases a3:(i:Int)<c
        ·have bM:i<c:=by omega
         have cV:(0:Int)<=i:=by omega
         have bG:aN 4 hg (bN ((List.range c).map (dE L r))) wr:=TI.o.get 0 rfl;have bi:aN 4 g (bN ((List.range c).map (λx=>bw L (qs.take j) x||(decide (x<i)&&dE L r x)))) wr:=TI.o.get 1 rfl
         have c1:=bG.cell (ol (sG (dE L r) bM));have c2:=bi.cell (ol (sG (λx=>bw L (qs.take j) x||(decide (x<i)&&dE L r x)) bM))
         have f2:=bi.frozen i;simp only[Nat.lt_irrefl,mK,mV,AA]at c2;obtain⟨uu,bs⟩:=an (bw L (qs.take j) i);obtain⟨hh,bo⟩:=an (dE L r i);have NX:ah (Tk w (wr.setCell ⟨g,i,O⟩ (iB (uu||hh))) ((hg,hg+1,aN 4 hg (bN ((List.range c).map (dE L r))))::(g,g+1,aN 4 g (bN ((List.range c).map (λx=>bw L (qs.take j) x||(decide (x<i+1)&&dE L r x)))))::mC z A m (Y ad c cap) (Y Z m M) qs)):=by
          have:=TI.o.fset 1 rfl b9 i (iB (uu||hh)) (hs':=(hg,hg+1,aN 4 hg (bN ((List.range c).map (dE L r))))::mC z A m (Y ad c cap) (Y Z m M) qs) (by
           intro x d;simp only[mC,bf,dV,ez]at d⊢;rcases d with rfl|rfl|rfl|rfl
           ·exact⟨.inl rfl,.inr cu⟩
           ·exact⟨.inr (.inr (.inl rfl)),.inl aC⟩
           ·exact⟨.inr (.inr (.inr (.inl rfl))),.inl ce⟩
           ·exact⟨.inr (.inr (.inr (.inr rfl))),.inl (by simp only;omega)⟩)
          rw[xM,Fu (f':=λx=>bw L (qs.take j) x||(decide (x<i+1)&&dE L r x)) (λx d=>by
           have:(x<i+1)↔(x<i):=by omega
           simp only[this]) (by simp[bs,bo])]at this
          refine this.drop (λx d=>?_)
          simp only[bf]at d⊢;rcases d with d|d|d
          ·exact .inr (.inl d)
          ·exact .inl d
          ·exact .inr (.inr d)
         rw[bs]at c2;rw[bo]at c1;clear bG bi TI bs bo;cases uu with
         |true=>
          have ap:=NX;simp only[Bool.true_or]at ap;clear NX;go_wp2;go_roundw
          case rel=>exact⟨i+1,by omega,by go_num,ap⟩
          case measure=>simp[intOf];omega
         |false=>
          have ap:=NX;simp only[xK]at ap;clear NX;go_wp2;go_roundw
          case rel=>exact⟨i+1,by omega,by go_num,ap⟩
          case measure=>simp[intOf];omega
        ·have NX:ah (Tk w wr ((g,g+1,aN 4 g (bN ((List.range c).map (bw L (qs.take (j+1))))))::mC z A m (Y ad c cap) (Y Z m M) qs)):=by
          have e:(List.range c).map (λx=>bw L (qs.take j) x||(decide (x<i)&&dE L r x))=(List.range c).map (bw L (qs.take (j+1))):=by
           refine sJ (λx d=>?_)
           have:=ju.1 d;rw[aQ (show x<i by omega),jr,bw,bw,dF,cj.o,List.any_append]
           simp
          have:=TI.o;rw[e]at this;exact this.drop (λx d=>qz _ d)
         clear TI;go_wp2;go_roundw
         case rel=>exact⟨j+1,by omega,by go_num,NX⟩
         case measure=>simp[intOf];omega
     ·have TU:ah (Tk w wr ((g,g+1,aN 4 g (bN ((List.range c).map (bw L qs))))::mC z A m (Y ad c cap) (Y Z m M) qs)):=by
       have:=R.o;rw[cm (by have:=N.o;omega)]at this
       exact this
      clear R;obtain⟨U,hU⟩:=an (bw L qs);have HU:=af hU;rw[hU]at TU E;clear hU;obtain⟨i1,hi1,aM,aO,aP⟩:=bK nG;go_wp2_with (at_make;refine pZ _ rfl _ _ 72 rfl wr.heap.size 3 i1 (I J 0) 1 Tryz.underlying72 hi1 aM aO J J _ _ c rfl rfl rfl rfl (by rw[aP];omega) (by unfold maxLen;omega) (ak _) ?_)
      intro w4 D S;rw[sI]at D;clear hi1 aM aO aP;have b4:iL wr.heap.size wr w4:=(ax _ _).grown S (ak _) (λk hk=>by cases hk)
      have bJ:g+1<=wr.heap.size:=TU.o.hi 0 rfl;have aV:wr.heap.size+1<=w4.heap.size:=(D.lt _ rfl).2;have T5:ah (Tk w (w4.alloc (iC #[Y O 0 0] 42)) (jR z A m g c wr.heap.size w4.heap.size (Y ad c cap) (Y Z m M) (Y O 0 0) qs U 0)):=by
       refine((TU.o.below b4).put aV (aN.loc _ _ _) ?_).cell _ _;have e:List.replicate c (I J 0)=aE ((List.range c).map (fk U 0)):=by
        apply kM;intro i;by_cases h:i<c
        ·simp[aE,h,Xe]
        ·simp[aE,h]
       have:=(aB.of D).flt;rw[e]at this;exact this
      have K5:ah (ct (w4.alloc (iC #[Y O 0 0] 42)) (w4.heap.size+1) (Y O 0 0) []):=ct.nil _ _;obtain⟨pb,a5⟩:=an wr.heap.size;obtain⟨t,a4⟩:=an w4.heap.size;rw[a5]at T5 bJ aV⊢;rw[a4]at T5 K5 aV;clear D S b4 TU a5 bx;go_wp2;clear a4;generalize w4.alloc (iC #[Y O 0 0] 42)=w5 at T5 K5⊢;go_loopw [15] (λV W=>∃(k:Nat) (ov:iX) (ss:List Kw),k<=c/\V=I J k/\ah (ss.map aG=ke U L k)/\ah (Tk w W (jR z A m g c pb t (Y ad c cap) (Y Z m M) ov qs U k))/\ah (ct W (t+1) ov ss)) (λV _=>c-(intOf V).toNat)
      case atStart=>exact⟨0,_,[],aI _,rfl,rfl,T5,K5⟩
      case round=>
       obtain⟨k,ov,ss,cK,rfl,ag,TK,KO⟩:=hrel;clear T5 K5;have bx:wr.cell? ⟨z,0,O⟩=X (Y ad c cap):=TK.o.at 5 0 rfl rfl;by_cases bW:(k:Int)<c
       ·have bT:k<c:=by omega
        have k0:(0:Int)<=k:=by omega
        have bu:wr.cell? ⟨g,k,O⟩=X (iB (U k)):=(show aN 4 g (bN ((List.range c).map U)) wr from TK.o.get 2 rfl).cell (ol (sG U bT));cases hu:U k with
        |false=>
         rw[hu]at bu;have TN:ah (Tk w wr (jR z A m g c pb t (Y ad c cap) (Y Z m M) ov qs U (k+1))):=by
          have e:(List.range c).map (fk U (k+1))=(List.range c).map (fk U k):=sJ (λi _=>Qp hu i)
          unfold jR;rw[e];exact TK.o
         have ck:ah (ss.map aG=ke U L (k+1)):=by show _=_;rw[zu hu];exact ag.o
         clear hu TK ag;go_wp2;go_roundw
         case rel=>exact⟨k+1,ov,ss,by omega,by go_num,ck,TN,KO⟩
         case measure=>simp[intOf];omega
        |true=>
         rw[hu]at bu;obtain⟨r,T⟩:∃r,rs[k]?=X r:=⟨_,ay (by have:=H.o.1;omega)⟩
         obtain⟨b,aa,e,hb⟩:=H.o.adr (by omega)
         have e':=e;subst e';have bh:=af (KR.o _ _ TK.o);obtain⟨c0,c1⟩:=bh.o.cell T;obtain⟨ka,kc,bU,cw,kr⟩:=bh.o.2.2.1 r (aH T);have d:L[k]?=X (aG r):=by rw[<-HL.o,bk,T];rfl
         have HX:=af d;obtain⟨lf,kv,ls⟩:=r;simp only at c0 c1 bU kr;subst bU;have h4:ls.length=4:=lY (lA TO.o.1 d);rw[h4]at c1 kr;obtain⟨kb,ko,e,cJ,bQ⟩:=kr.2.2 (by omega)
         subst e;have cg:=af bQ;have bD:=af kr;have bg:=af hu;have H4:=af h4;have TD:=af TK.o;have co:=bx;have wl:=af (show b<wr.heap.size by have:=TK.o.1.size;omega)
         clear kr T d bQ cw hu h4 TK hb;have KS:ah (∀W,iL wr.heap.size wr W->W.cell? ⟨z,0,O⟩=X (Y (X ⟨b,aa,O⟩) c cap)/\W.cell? ⟨b,aa+k*2,O⟩=X (iB lf)/\W.cell? ⟨b,aa+k*2+1,O⟩=X (Y (X ⟨kb,ko,O⟩) 4 kc)):=λW hW=>
          ⟨(TD.o.below hW).at 5 0 rfl rfl,(hW.cell (show b<wr.heap.size from wl.o)).trans c0,(hW.cell (show b<wr.heap.size from wl.o)).trans c1⟩
         have SR:ah (∀W,iL wr.heap.size wr W->∀(j:Nat) (u:iX),(aE ls)[j]?=X u->W.cell? ((⟨kb,ko,O⟩:Addr).add j)=X u):=λW hW j u hj=>(bD.o.below hW).cells j u hj
         have W1:ah (iL wr.heap.size wr (wr.alloc (iC #[] 3)).drew):=(aY).drew;have WX:ah (iL wr.heap.size wr (wr.alloc (iC #[iB iF,Y O 0 0] 205)).drew):=(aY).drew;have W2:ah (iL wr.heap.size wr ((wr.alloc (iC #[] 3)).alloc (iC #[iB iF,Y O 0 0] 205)).drew):=((aY).alloc (by simp) _).drew
         have W3:ah (iL wr.heap.size wr ((wr.alloc (iC #[iB iF,Y O 0 0] 205)).alloc (iC #[] 3)).drew):=((aY).alloc (by simp) _).drew
         have ze:(wr.alloc (iC #[] 3)).heap.size=wr.heap.size+1:=by simp
         have zx:(wr.alloc (iC #[iB iF,Y O 0 0] 205)).heap.size=wr.heap.size+1:=by simp
         have O1:ah ((wr.alloc (iC #[] 3)).drew.ownsRow wr.heap.size 3 1 (Y (X ⟨wr.heap.size,0,O⟩) 0 0) 0 []):=Bn (az wr _) (ak _);have O2:ah (((wr.alloc (iC #[] 3)).alloc (iC #[iB iF,Y O 0 0] 205)).drew.ownsRow wr.heap.size 3 1 (Y (X ⟨wr.heap.size,0,O⟩) 0 0) 0 []):=Bn ((gU _ _ _ (by simp)).trans (az wr _)) (ak _)
         have O3:ah (((wr.alloc (iC #[iB iF,Y O 0 0] 205)).alloc (iC #[] 3)).drew.ownsRow wr.heap.size 3 1 (Y (X ⟨wr.heap.size+1,0,O⟩) 0 0) 0 []):=Bn (by have:=az (wr.alloc (iC #[iB iF,Y O 0 0] 205)) (iC #[] 3);rw[zx]at this;exact this) (by omega)
         have X2:ah (((wr.alloc (iC #[] 3)).alloc (iC #[iB iF,Y O 0 0] 205)).drew.heap[wr.heap.size+1]?=X (iC #[iB iF,Y O 0 0] 205 (0,0))):=by have:=az (wr.alloc (iC #[] 3)) (iC #[iB iF,Y O 0 0] 205);rw[ze]at this;exact this
         have X3:ah (((wr.alloc (iC #[iB iF,Y O 0 0] 205)).alloc (iC #[] 3)).drew.heap[wr.heap.size]?=X (iC #[iB iF,Y O 0 0] 205 (0,0))):=(gU _ _ _ (by simp)).trans (az wr _)
         have L4:ah ((aE ls).length=4*1):=by show _=_;simp[aE,H4.o]
         clear ze zx;go_upto_region 24 with fail
         go_cut [16] (λcB wc=>∃xb vb vc:Nat,cB=iP (X ⟨xb,0,O⟩)/\ah (eZ wr wc xb vb vc lf ls))
         case first=>
          go_region_held3 (λw'=>w'.cell? ⟨z,0,O⟩=X (Y (X ⟨b,aa,O⟩) c cap)/\w'.cell? ⟨b,aa+k*2,O⟩=X (iB lf)/\w'.cell? ⟨b,aa+k*2+1,O⟩=X (Y (X ⟨kb,ko,O⟩) 4 kc)) (first|go_keep|exact KS.o _ W1.o|exact KS.o _ WX.o|exact KS.o _ W2.o|exact KS.o _ W3.o|exact KS.o _ BB.o|exact KS.o _ (BB.o.alloc BB.o.size _)|exact KS.o _ (XL.o.2.2.1)|exact KS.o _ (XE.o.2.2.1)) (first
           |(refine kT _ (by rfl) (.tmp 102) (.tmp 108) 72 (by rfl) wr.heap.size 3 i0 (I J 0) 1 8 Tryz.underlying72 I0.o Y0.o Y1.o Y2.o rfl (by decide) _ 0 [] (by simp[Act.eval]) O1.o ⟨kb,ko,O⟩ 4 kc (aE ls) (by simp[Act.eval]) L4.o (SR.o _ W1.o) (qp _) (by unfold maxLen;omega) (by omega) W1.o.size ?_;intro v6 w6 o6 g6;(have o7:w6.ownsRow wr.heap.size 3 1 v6 4 (aE ls):=o6);(obtain⟨vb,vc,aK,ac,ae⟩:=Du o7);subst aK;have BB:ah (iL wr.heap.size wr w6):=W1.o.grown g6 W1.o.size (λq hq=>by cases hq;exact ak _);have XL:ah (eZ wr (w6.alloc (iC #[iB lf,Y (X ⟨vb,0,O⟩) 4 vc] 205)) w6.heap.size vb vc lf ls):=eZ.late BB.o ac ae;clear o6 o7 g6 ac ae)
           |(refine kT _ (by rfl) (.tmp 102) (.tmp 108) 72 (by rfl) wr.heap.size 3 i0 (I J 0) 1 8 Tryz.underlying72 I0.o Y0.o Y1.o Y2.o rfl (by decide) _ 0 [] (by simp[Act.eval]) O2.o ⟨kb,ko,O⟩ 4 kc (aE ls) (by simp[Act.eval]) L4.o (SR.o _ W2.o) (qp _) (by unfold maxLen;omega) (by omega) W2.o.size ?_;intro v6 w6 o6 g6;(have o7:w6.ownsRow wr.heap.size 3 1 v6 4 (aE ls):=o6);(obtain⟨vb,vc,aK,ac,ae⟩:=Du o7);subst aK;have BB:ah (iL wr.heap.size wr w6):=W2.o.grown g6 W2.o.size (λq hq=>by cases hq;exact ak _);have F:w6.heap[wr.heap.size+1]?=X (iC #[iB iF,Y O 0 0] 205 (0,0)):=(g6.block (wr.heap.size+1) (aJ.1 X2.o).1 (λe=>by simp[Value.ownBlock]at e)).trans X2.o;have d0:=am _ _ 0 _ _ _ F;have d1:=am _ _ 1 _ _ _ F;have e0:=aL _ _ 0 _ _ F;have e1:=aL _ _ 1 _ _ F;have XE:ah (eZ wr ((w6.setCell ⟨wr.heap.size+1,0,O⟩ (iB lf)).setCell ⟨wr.heap.size+1,1,O⟩ (Y (X ⟨vb,0,O⟩) 4 vc)) (wr.heap.size+1) vb vc lf ls):=eZ.early BB.o F (by omega) ac ae;clear o6 o7 g6 ac ae F)
           |(refine kT _ (by rfl) (.tmp 102) (.tmp 108) 72 (by rfl) wr.heap.size 3 i0 (I J 0) 1 8 Tryz.underlying72 I0.o Y0.o Y1.o Y2.o rfl (by decide) _ 0 [] (by simp[Act.eval]) O3.o ⟨kb,ko,O⟩ 4 kc (aE ls) (by simp[Act.eval]) L4.o (SR.o _ W3.o) (qp _) (by unfold maxLen;omega) (by omega) W3.o.size ?_;intro v6 w6 o6 g6;(have o7:w6.ownsRow wr.heap.size 3 1 v6 4 (aE ls):=o6);(obtain⟨vb,vc,aK,ac,ae⟩:=Du o7);subst aK;have BB:ah (iL wr.heap.size wr w6):=W3.o.grown g6 W3.o.size (λq hq=>by cases hq;show wr.heap.size<=wr.heap.size+1;omega);have F:w6.heap[wr.heap.size]?=X (iC #[iB iF,Y O 0 0] 205 (0,0)):=(g6.block wr.heap.size (aJ.1 X3.o).1 (λe=>by simp[Value.ownBlock]at e)).trans X3.o;have d0:=am _ _ 0 _ _ _ F;have d1:=am _ _ 1 _ _ _ F;have e0:=aL _ _ 0 _ _ F;have e1:=aL _ _ 1 _ _ F;have XE:ah (eZ wr ((w6.setCell ⟨wr.heap.size,0,O⟩ (iB lf)).setCell ⟨wr.heap.size,1,O⟩ (Y (X ⟨vb,0,O⟩) 4 vc)) wr.heap.size vb vc lf ls):=eZ.early BB.o F (ak _) ac ae;clear o6 o7 g6 ac ae F))
          all_goals
           go_wp2_with fail;go_meet
           case rel=>first
            |exact⟨_,_,_,rfl,XL⟩
            |exact⟨_,_,_,rfl,XE⟩
         case rest=>
          obtain⟨wq,cz⟩:∃wq,wq=wc:=⟨_,rfl⟩;subst cz;obtain⟨xb,vb,vc,b5,XS⟩:=hcut;subst b5;have aw:t+1<=wr.heap.size:=TD.o.hi 0 rfl;have TQ:=af (TD.o.below XS.o.2.2.1);have KQ:=af (KO.o.below XS.o.2.2.1);have cl:ah (∀x∈ss,∀q,x.2.1.ownBlock=X q->q<wr.heap.size):=λx d q hq=>((KO.o.2.1 x d).1.lt q hq).2.1
          clear O1 O2 O3 X2 X3 W1 W2 W3 WX L4 SR KS bD cg c0 c1 bu co bh bx;obtain⟨wo,cA⟩:∃wo,wo=wr:=⟨_,rfl⟩;subst cA;have X0:ah (eZ wo wq xb vb vc lf (dP U lf ls 0)):=by rw[Lm];exact XS
          clear XS TQ KQ;go_wp2;go_loopw [17] (λV W=>∃q:Nat,q<=4/\V=I J q/\ah (eZ wo W xb vb vc lf (dP U lf ls q))) (λV _=>4-(intOf V).toNat)
          case atStart=>exact⟨0,by omega,rfl,X0⟩
          case round=>
           obtain⟨q,cM,rfl,K⟩:=hrel;clear X0;have xl:wr.cell? ⟨xb,0,O⟩=X (iB lf):=am _ _ 0 _ _ _ K.o.1;by_cases ab:(q:Int)<4/\lf=iF
           ·obtain⟨cE,rfl⟩:=ab;obtain⟨n,hn⟩:∃n,ls[q]?=X n:=⟨_,ay (by have:=H4.o;omega)⟩
            have xk:wr.cell? ⟨xb,1,O⟩=X (Y (X ⟨vb,0,O⟩) 4 vc):=am _ _ 1 _ _ _ K.o.1;have vq:wr.cell? ⟨vb,q,O⟩=X (I J n):=K.o.2.1.cell (lJ (Bq hn));have vf:=K.o.2.1.frozen q;have q0:(0:Int)<=q:=by omega
            obtain⟨n',bp,hc⟩:=md TO.o.1 (r:=(k:Int)) (by rw[aZ];exact HX.o) rfl (show q<4 by omega)
            have bX:ls[q]?=X n':=bp;rw[hn]at bX;cases bX;by_cases av:n<0
            ·have NX:ah (eZ wo wr xb vb vc iF (dP U iF ls (q+1))):=by rw[<-FZ hn (sB U av)];exact K
             clear hc hn bp K;go_wp2;go_roundw
             case rel=>exact⟨q+1,by omega,by go_num,NX⟩
             case measure=>simp[intOf];omega
            ·obtain⟨a,rfl⟩:∃a:Nat,n=(a:Int):=⟨n.toNat,by omega⟩
             have au:a<k:=by
              rcases hc with hc|⟨-,hc,-⟩
              ·omega
              ·simp only[aZ]at hc;omega
             have ar:U a=iV:=by
              have:=Da TO.o HX.o rfl (by rw[HU.o];exact bg.o) (show q<4 by omega) hn
              rw[HU.o]at this;exact this
             have pa:wr.cell? ⟨pb,a,O⟩=X (I J (cY U a)):=by
              have hF:aN 3 pb (aE ((List.range c).map (fk U k))) wr:=(TD.o.below K.o.2.2.1).get 1 rfl;have:=hF.cell (lJ (sG (fk U k) (show a<c by omega)))
              rw[Dr au ar]at this;exact this
             have NX:ah (eZ wo (wr.setCell ⟨vb,q,O⟩ (I J (cY U a))) xb vb vc iF (dP U iF ls (q+1))):=by
              have:=K.o.set (q:=q) (fm U (a:Int));rw[Bi hn,qm]at this;exact this
             have a0:(0:Int)<=a:=by omega
             have al:(a:Int)<c:=by omega
             obtain⟨cC,a6⟩:=an (cY U a);rw[a6]at pa NX;have cU:xb≠vb:=K.o.ne;have cn:ah (eZ wo (wr.setCell ⟨vb,q,O⟩ (I J cC)).drew xb vb vc iF (dP U iF ls (q+1))):=⟨NX.o.1,NX.o.2.1,NX.o.2.2.1.drew,NX.o.2.2.2⟩;clear hc hn bp K NX au ar a6;go_wp2;go_region;all_goals
              go_wp2;go_roundw
              case rel=>exact⟨q+1,by omega,by go_num,cn⟩
              case measure=>simp[intOf];omega
           ·have XF:ah (eZ wo wr xb vb vc lf (dI U ⟨lf,ls⟩).fD):=by
             have e:=Pi (u:=U) (lf:=lf) (q:=q) H4.o (by
              cases lf with
              |true=>exact .inl rfl
              |false=>exact .inr (by have:¬(q:Int)<4:=λh=>ab ⟨h,rfl⟩
                                     omega))
             have:=K.o;have e2:dP U lf ls q=(dI U ⟨lf,ls⟩).fD:=by rw[<-e]
             rw[e2]at this;exact this
            have TW:=af (TD.o.below XF.o.2.2.1);have KW:=af (KO.o.below XF.o.2.2.1);have bd:ah (cY U k=ss.length):=by
             show _=_;have:=congrArg List.length ag.o;rw[aS,uW (by have:=aR.o;omega)]at this
             exact this.symm
            obtain⟨oa,oc,bq⟩:=KW.o.form;subst bq;obtain⟨s,aA⟩:=an ss.length;rw[aA]at bd TW KW;have bC:=af aA;have cG:s<=k:=by have:=Ct U k;have:=bd.o;omega
            have cX:wr.cell? ⟨t,0,O⟩=X (Y oa s oc):=TW.o.at 0 0 rfl rfl;have bj:aN 3 pb (aE ((List.range c).map (fk U k))) wr:=TW.o.get 1 rfl;have pc:=bj.cell (lJ (sG (fk U k) bT));have pf:=bj.frozen k;have TP:ah (Tk w (wr.setCell ⟨pb,k,O⟩ (I J (s:Int))) (jR z A m g c pb t (Y (X ⟨b,aa,O⟩) c cap) (Y Z m M) (Y oa s oc) qs U (k+1))):=by
             have:=TW.o.fset 1 rfl (by omega) k (I J (s:Int)) (hs':=(t,t+1,bZ t #[Y oa s oc] 42)::(g,g+1,aN 4 g (bN ((List.range c).map U)))::[(z+2,A,aB 3 (z+2) A (Y Z m M) m (aE qs)),(z+1,z+1+1,bZ (z+1) #[Y O 0 0] 42),(z,z+1,bZ z #[Y (X ⟨b,aa,O⟩) c cap] 42)]) (by
              intro x d;simp only[jR,bf,dV,ez]at d⊢;rcases d with rfl|rfl|rfl|rfl|rfl
              ·exact⟨.inl rfl,.inr aV⟩
              ·exact⟨.inr (.inr (.inl rfl)),.inl bJ⟩
              ·exact⟨.inr (.inr (.inr (.inl rfl))),.inl (by simp only;omega)⟩
              ·exact⟨.inr (.inr (.inr (.inr (.inl rfl)))),.inl (by simp only;omega)⟩
              ·exact⟨.inr (.inr (.inr (.inr (.inr rfl)))),.inl (by simp only;omega)⟩)
             have e1:(aE ((List.range c).map (fk U k))).set k (I J (s:Int))=aE ((List.range c).map (fk U (k+1))):=by
              rw[<-Fu (f:=fk U k) (f':=fk U (k+1)) (k:=k) (b:=(s:Int)) (λi hi=>Nf i hi) (by rw[Dr (by omega) bg.o,bd.o])]
              simp[aE,List.map_set]
             rw[e1]at this;refine this.drop (λx d=>?_)
             simp only[jR,bf]at d⊢;rcases d with d|d|d
             ·exact .inr (.inl d)
             ·exact .inl d
             ·exact .inr (.inr d)
            have KP:ah (ct (wr.setCell ⟨pb,k,O⟩ (I J (s:Int))) (t+1) (Y oa s oc) ss):=KW.o.cellB (by omega) _ _
            have XP:ah (eZ wo wr xb vb vc lf (dI U ⟨lf,ls⟩).fD):=XF;have cT:t+1<=xb:=bR aw XF.o.2.2.2.1;have cS:t+1<=vb:=bR aw XF.o.2.2.2.2;have xr:(wr.setCell ⟨pb,k,O⟩ (I J (s:Int))).heap[xb]?=X (iC #[iB lf,Y (X ⟨vb,0,O⟩) 4 vc] 205 (0,0)):=dC XF.o.1 (by omega) _ _
            have x0:=am _ _ 0 _ _ _ xr;have x1:=am _ _ 1 _ _ _ xr;have cZ:(wr.setCell ⟨pb,k,O⟩ (I J (s:Int))).cell? ⟨t,0,O⟩=X (Y oa s oc):=TP.o.at 0 0 rfl rfl;have vF:aN 3 vb (aE (dI U ⟨lf,ls⟩).fD) (wr.setCell ⟨pb,k,O⟩ (I J (s:Int))):=aN.loc _ _ _ _ _ (λq q1 q2=>aU _ _ _ _ (show q≠pb by omega)) XF.o.2.1
            have VF:=af vF;have be:ah ((wr.setCell ⟨pb,k,O⟩ (I J (s:Int))).heap.size=wr.heap.size):=by show _=_;simp[World.setCell]
            have BA:ah (iL (wr.setCell ⟨pb,k,O⟩ (I J (s:Int))).heap.size (wr.setCell ⟨pb,k,O⟩ (I J (s:Int))) ((wr.setCell ⟨pb,k,O⟩ (I J (s:Int))).alloc (iC #[iB lf,Y (X ⟨vb,0,O⟩) 4 vc] 205))):=aY;have KA:=af (KP.o.below BA.o);have TA:=af (TP.o.below BA.o);have OW:ah (((wr.setCell ⟨pb,k,O⟩ (I J (s:Int))).alloc (iC #[iB lf,Y (X ⟨vb,0,O⟩) 4 vc] 205)).ownsRow (t+1) 205 2 (Y oa s oc) s (dT ss)):=by have:=KA.o.1;rw[bC.o]at this;exact this
            have CN:ah (∀(j:Nat) (u:iX),[iB lf,Y (X ⟨vb,0,O⟩) 4 vc][j]?=X u->((wr.setCell ⟨pb,k,O⟩ (I J (s:Int))).alloc (iC #[iB lf,Y (X ⟨vb,0,O⟩) 4 vc] 205)).cell? ((⟨wr.heap.size,0,O⟩:Addr).add j)=X u):=by
             have:=GU (wr.setCell ⟨pb,k,O⟩ (I J (s:Int))) lf (Y (X ⟨vb,0,O⟩) 4 vc);rw[be.o]at this;exact this
            have bv:ah (t+1<=((wr.setCell ⟨pb,k,O⟩ (I J (s:Int))).alloc (iC #[iB lf,Y (X ⟨vb,0,O⟩) 4 vc] 205)).heap.size):=TA.o.hi 0 rfl;obtain⟨j0,bP,b8,a8,a9⟩:=bK tw;have J0:=af bP;have V0:=af b8;have V1:=af a8;have V2:=af a9;have bE:ah (ss.map aG++[dI U ⟨lf,ls⟩]=ke U L (k+1)):=by show _=_;rw[vJ bg.o HX.o,ag.o];rfl
            have X4:ah ((dI U ⟨lf,ls⟩).fD.length=4):=by
             show _=_;unfold dI;split
             ·exact H4.o
             ·rw[aS];exact H4.o
            have bF:ah ((dI U ⟨lf,ls⟩).leaf=lf):=zy U ⟨lf,ls⟩;obtain⟨xs,bt⟩:=an ((dI U ⟨lf,ls⟩).fD);have XE:ah (dI U ⟨lf,ls⟩=⟨lf,xs⟩):=by
             show _=_;rw[<-bt];have:=bF.o;cases hq:dI U ⟨lf,ls⟩;rw[hq]at this;simp only at this⊢;rw[this]
            rw[bt]at X4 VF;rw[XE.o]at bE;have ba:ah (wo.heap.size<=vb/\vb<wr.heap.size/\t+1<=wo.heap.size):=⟨XP.o.2.2.2.2,XP.o.vlt,aw⟩;have hw:((q:Int)<4/\(!lf)=iF)∨¬(q:Int)<4:=by
             by_cases h:(q:Int)<4
             ·exact .inl ⟨h,by cases lf with|true=>rfl|false=>exact absurd ⟨h,rfl⟩ ab⟩
             ·exact .inr h
            clear bP b8 a8 a9 ab TW KW bj vF aA XF K XP bF bt xr KO TD;rcases hw with⟨cs,hl⟩|cs
            all_goals
             go_wp2_with (at_builtin;refine cN _ rfl _ _ 40 rfl (t+1) 205 j0 (iA #[iB iF,Y O 0 0]) 2 32 Tryz.underlying40 J0.o V0.o V1.o V2.o rfl (by decide) _ s (dT ss) rfl OW.o ⟨wr.heap.size,0,O⟩ 1 1 [iB lf,Y (X ⟨vb,0,O⟩) 4 vc] rfl rfl CN.o (I8 _ _ _ _) ?c1 ?c2 bv.o ?_)
             case c1=>unfold maxLen;omega
             case c2=>omega
             intro u' y ho bn _;have TY:ah (Tk w y (jR z A m g c pb t (Y (X ⟨b,aa,O⟩) c cap) (Y Z m M) (Y oa s oc) qs U (k+1))):=TA.o.grownB (B:=t+1) bn (λq hq=>(fQ OW.o q hq).1) (by omega) (by
              intro x d;simp only[jR,bf,dV,ez]at d;rcases d with rfl|rfl|rfl|rfl|rfl|rfl<;>(simp only;omega))
             have bY:y.ownsRow (t+1) 205 2 u' (ss++[(lf,Y (X ⟨vb,0,O⟩) 4 vc,xs)]).length (dT (ss++[(lf,Y (X ⟨vb,0,O⟩) 4 vc,xs)])):=by
              rw[<-Ep,aT,bC.o];exact ho
             have KY:ah (ct y (t+1) u' (ss++[(lf,Y (X ⟨vb,0,O⟩) 4 vc,xs)])):=by
              refine ct.snoc2 (C:=wo.heap.size) KA.o cl.o ba.o.2.2 ?_ (by rw[X4.o];unfold maxLen;omega) bn bY
              have a3:vb<((wr.setCell ⟨pb,k,O⟩ (I J (s:Int))).alloc (iC #[iB lf,Y (X ⟨vb,0,O⟩) 4 vc] 205)).heap.size:=gX (by rw[be.o];exact ba.o.2.1) BA.o.size
              show aB 3 _ _ (Y (X ⟨vb,0,O⟩) 4 vc) xs.length _ _;rw[X4.o];exact .inr ⟨vb,vc,rfl,ba.o.1,a3,VF.o.below BA.o⟩
             obtain⟨ua,uc,cy,-⟩:=(aB.of ho).form;subst cy;have oy:y.cell? ⟨t,0,O⟩=X (Y oa s oc):=TY.o.at 0 0 rfl rfl;have fy:y.frozen? ⟨t,0,O⟩=iF:=TY.o.fr 0 0 rfl;have TN:ah (Tk w (y.setCell ⟨t,0,O⟩ (Y ua (s+1) uc)) (jR z A m g c pb t (Y (X ⟨b,aa,O⟩) c cap) (Y Z m M) (Y ua (s+1) uc) qs U (k+1))):=by
              refine TY.o.write 0 rfl (by omega) _ (λx d=>⟨qz _ d,.inl ?_⟩)
              simp only[bf,dV,ez]at d;rcases d with rfl|rfl|rfl|rfl|rfl<;>(simp only;omega)
             have KN:ah (ct (y.setCell ⟨t,0,O⟩ (Y ua (s+1) uc)) (t+1) (Y ua (s+1) uc) (ss++[(lf,Y (X ⟨vb,0,O⟩) 4 vc,xs)])):=KY.o.cellB (by omega) _ _
             have a2:ah ((ss++[(lf,Y (X ⟨vb,0,O⟩) 4 vc,xs)]).map aG=ke U L (k+1)):=by show _=_;rw[dB];exact bE.o
             generalize ss++[(lf,Y (X ⟨vb,0,O⟩) 4 vc,xs)]=cD at KN a2;clear ho bn bY TY KY TA KA TP KP OW CN bv BA VF be;go_wp2;go_roundw
             case rel=>exact⟨k+1,_,cD,by omega,by go_num,a2,TN,KN⟩
             case measure=>simp[intOf];omega
       ·have cq:k=c:=by omega
        subst cq;have SW:ah (ss.map aG=jE L qs):=by show _=_;rw[ag.o,jE,HU.o,aR.o]
        have T6:ah (Tk w wr (jR z A m g k pb t (Y ad k cap) (Y Z m M) ov (dP U iF qs 0) U k)):=by rw[Lm];exact TK
        have UR:ah (∀(r:Int),r∈qs->0<=r->∃a:Nat,r=(a:Int)/\a<k/\U a=iV):=λr T h0=>by
         obtain⟨x,d,-⟩:=lQ (TO.o.2 r T) h0;have h1:=(aD.1 d).1;have h2:=wt (l:=L) T h0;rw[HU.o]at h2;exact⟨r.toNat,by omega,by have:=aR.o;omega,h2⟩
        have K6:=KO;clear KO TK ag;go_wp2;clear bx;go_loopw [18] (λV W=>∃j:Nat,j<=m/\V=I J j/\ah (Tk w W (jR z A m g k pb t (Y ad k cap) (Y Z m M) ov (dP U iF qs j) U k))/\ah (ct W (t+1) ov ss)) (λV _=>m-(intOf V).toNat)
        case atStart=>exact⟨0,aI _,rfl,T6,K6⟩
        case round=>
         obtain⟨j,hj,rfl,R,KJ⟩:=hrel;clear T6 K6;by_cases cF:(j:Int)<m
         ·obtain⟨r,T⟩:∃r,qs[j]?=X r:=⟨_,ay (by have:=N.o;omega)⟩
          have hS:aB 3 (z+2) A (Y Z m M) m (aE (dP U iF qs j)) wr:=R.o.get 3 rfl;obtain⟨sb,cx,cP,cQ⟩:∃sb,Z=X ⟨sb,0,O⟩/\z+2<=sb/\sb<A:=by
           obtain⟨cH,c',e,q⟩:=hS.form;injection e with e1 e2 e3
           subst e1;exact q (by omega)
          subst cx;have c3:wr.cell? ⟨sb,j,O⟩=X (I J r):=hS.flt.cell (lJ (Bq T));have c4:=hS.flt.frozen j;have cW:(0:Int)<=j:=by omega
          by_cases av:r<0
          ·have TN:ah (Tk w wr (jR z A m g k pb t (Y ad k cap) (Y (X ⟨sb,0,O⟩) m M) ov (dP U iF qs (j+1)) U k)):=by rw[<-FZ T (sB U av)];exact R
           clear T hS R;go_wp2;go_roundw
           case rel=>exact⟨j+1,by omega,by go_num,TN,KJ⟩
           case measure=>simp[intOf];omega
          ·obtain⟨a,rfl,au,ar⟩:=UR.o r (aH T) (by omega)
           have pa:wr.cell? ⟨pb,a,O⟩=X (I J (cY U a)):=by
            have hF:aN 3 pb (aE ((List.range k).map (fk U k))) wr:=R.o.get 1 rfl;have:=hF.cell (lJ (sG (fk U k) au));rw[Dr au ar]at this;exact this
           have TN:ah (Tk w (wr.setCell ⟨sb,j,O⟩ (I J (cY U a))) (jR z A m g k pb t (Y ad k cap) (Y (X ⟨sb,0,O⟩) m M) ov (dP U iF qs (j+1)) U k)):=by
            have e1:(aE (dP U iF qs j)).set j (I J (cY U a))=aE (dP U iF qs (j+1)):=by
             rw[<-Bi T,qm];simp[aE,List.map_set]
            have hq:=hS.setAt j (I J (cY U a:Int));rw[e1]at hq;have a1:=HZ.o;have:=R.o.touch (lo:=z+2) (hi:=A) (wj:=wr.setCell ⟨sb,j,O⟩ (I J (cY U a:Int))) (Q:=aB 3 (z+2) A (Y (X ⟨sb,0,O⟩) m M) m (aE (dP U iF qs (j+1)))) ⟨rfl,rfl,rfl,by simp[World.setCell],λi _ hi=>aU _ _ _ _ (show i≠sb by unfold zP at hi;omega)⟩ (by omega) (R.o.hi 3 rfl) (aB.loc _ _ _ _ _ _) hq (hs':=(t,t+1,bZ t #[ov] 42)::(pb,pb+1,aN 3 pb (aE ((List.range k).map (fk U k))))::(g,g+1,aN 4 g (bN ((List.range k).map U)))::[(z+1,z+1+1,bZ (z+1) #[Y O 0 0] 42),(z,z+1,bZ z #[Y ad k cap] 42)]) (by
             intro x d;simp only[jR,bf,dV,ez]at d⊢;rcases d with rfl|rfl|rfl|rfl|rfl
             ·exact⟨.inl rfl,.inr (by simp only;omega)⟩
             ·exact⟨.inr (.inl rfl),.inr (by simp only;omega)⟩
             ·exact⟨.inr (.inr (.inl rfl)),.inr (by simp only;omega)⟩
             ·exact⟨.inr (.inr (.inr (.inr (.inl rfl)))),.inl (by simp only;omega)⟩
             ·exact⟨.inr (.inr (.inr (.inr (.inr rfl)))),.inl (by simp only;omega)⟩)
            refine this.drop (λx d=>?_)
            simp only[jR,bf,dV,ez]at d⊢;rcases d with d|d|d|d|d|d
            ·exact .inr (.inl d)
            ·exact .inr (.inr (.inl d))
            ·exact .inr (.inr (.inr (.inl d)))
            ·exact .inl d
            ·exact .inr (.inr (.inr (.inr (.inl d))))
            ·exact .inr (.inr (.inr (.inr (.inr d))))
           have KN:ah (ct (wr.setCell ⟨sb,j,O⟩ (I J (cY U a))) (t+1) ov ss):=KJ.o.cellB (by omega) _ _
           have a0:(0:Int)<=a:=by omega
           have al:(a:Int)<k:=by omega
           obtain⟨c5,a7⟩:=an (cY U a);rw[a7]at pa TN KN;clear T hS R KJ a7 ar;go_wp2;go_roundw
           case rel=>exact⟨j+1,by omega,by go_num,TN,KN⟩
           case measure=>simp[intOf];omega
         ·have cp:j=m:=by omega
          subst cp;obtain⟨oa,oc,bq⟩:=KJ.o.form;subst bq;obtain⟨s,aA⟩:=an ss.length;rw[aA]at R KJ;have r0:wr.cell? ⟨z+1,0,O⟩=X (Y O 0 0):=R.o.at 4 0 rfl rfl;have f0:wr.frozen? ⟨z+1,0,O⟩=iF:=R.o.fr 4 0 rfl;have o0:wr.cell? ⟨t,0,O⟩=X (Y oa s oc):=R.o.at 0 0 rfl rfl;have FR:ah ((wr.setCell ⟨z+1,0,O⟩ (Y oa s oc)).heap[z+1]?=X (iC #[Y oa s oc] 42 (0,0))):=eo (R.o.get 4 rfl) 0 _;have bc:ah (sw w (jp L qs) (mr L qs) (G (iU #[iA #[Y oa s oc],Y Z j M])) (wr.setCell ⟨z+1,0,O⟩ (Y oa s oc))):=by
           rw[E.o.1,E.o.2];have a1:=HZ.o;have cd:(wr.setCell ⟨z+1,0,O⟩ (Y oa s oc)).heap.size=wr.heap.size:=by simp[World.setCell]
           have cL:t+1<=wr.heap.size:=R.o.hi 0 rfl;have aq:∀q,z+2<=q->(wr.setCell ⟨z+1,0,O⟩ (Y oa s oc)).heap[q]?=wr.heap[q]?:=λq hq=>aU _ _ _ _ (show q≠z+1 by omega)
           have hS:aB 3 (z+2) A (Y Z j M) j (aE (dP U iF qs j)) wr:=R.o.get 3 rfl;have ep:dP U iF qs j=qs.map (fm U):=by
            rw[dP,ai (show¬(iF=iV)by decide),cm (by rw[aS,N.o];exact ak _),kB (by rw[N.o];exact ak _),eM]
           rw[ep]at hS;refine⟨_,_,t+1,wr.heap.size,z+2,A,rfl,?_,?_,by omega,by rw[cd];exact ak _,by omega,by rw[cd];omega,.inr (by omega),?_⟩
           ·exact dt.loc _ _ _ _ _ _ (λq q1 q2=>aq q (by omega)) ⟨ss,SW.o,KJ.o.fK⟩
           ·rw[aS,N.o];exact aB.loc _ _ _ _ _ _ _ _ (λq q1 q2=>aq q q1) hS
           ·exact R.o.1.setCell (p:=⟨z+1,0,O⟩) (by show w.heap.size<=z+1;omega) _
          clear R KJ;go_wp2;exact aF (o9 (p:=4) (q:=5) rfl _ _ (z+1) _ rfl FR.o) rfl bc.o
end Go.Proofs.YtijmbohadndfmaaGreatDoor
