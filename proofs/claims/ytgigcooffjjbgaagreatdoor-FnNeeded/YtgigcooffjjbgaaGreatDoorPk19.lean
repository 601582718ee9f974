/-
  SGath; TxPC; TxC; TxMath3; TxSee; SnewS; SEnv; SVol; SPutM; SwC; Tk2
-/
import Derived.Test.YtgigcooffjjbgaaGreatDoorPk18
open Go.Value renaming int→I,slice→Y,string→iT,bool→iB,pointer→iP,agg→iA,tuple→iU
open Go.IntKind renaming i64→J
open Option renaming none→O,some→X
open Go.Ending renaming returned→G
open Go.Obj renaming cells→iC
open Bool renaming true→iV,false→iF
open Go renaming World→iW,Value→iX,Calls→iK
open Go.RowKit renaming Below→iL
set_option maxHeartbeats 4000000
set_option maxRecDepth 100000
namespace Go.Proofs.YtgigcooffjjbgaaGreatDoor
open Go.RowKit Words
variable{k n:Nat}
theorem Hr{l:List Int}{f:Int->Bool}{x:Int}(h:l[k]?=X x):(l.take (k+1)).filter f=(l.take k).filter f++if f x then[x]else[]:=by
 rw[eG,h,ir];cases a:f x<;>simp[a]
theorem Na{l:List Int}{f:Int->Option TxR}{x:Int}(h:l[k]?=X x):(l.take (k+1)).filterMap f=(l.take k).filterMap f++(f x).toList:=by
 rw[eG,h,nD];cases a:f x<;>simp[a]
theorem DY(ad:Option Addr)(t cap:Nat)(M:List an)(w:iW)(hl:t<=1048576)(hs:dp (λp=>p.text.size) (M.map an.fP)<=1048576)(h:iH w ad t M):
 iK Tryz.prog 141 #[Y ad t cap] w (xK w (dF (M.map an.fP))):=by
 have HR:=af h;have HN:=af (show M.length=t from h.1);have HL:=af hl;have HS:=af hs;clear h hs;obtain⟨ps,ag⟩:=aq (M.map an.fP);have CX:ah (∀W tx,iL w.heap.size w W->iK Tryz.prog 177 #[Y ad t cap,I J tx] W (FJ W ps tx)):=by
  intro W tx hb;rw[<-ag];exact Pi ad t cap M tx W hl HS.o (HR.o.below hb)
 rw[ag]at HS⊢;have HP:=af ag;have aY:ah (ps.length=t):=by show _=_;rw[<-ag,bm];exact HN.o
 clear ag;have N0:ah (iL w.heap.size w (w.alloc (iC #[] 3))/\aG 3 w.heap.size (w.alloc (iC #[] 3)).heap.size (Y (X ⟨w.heap.size,0,O⟩) 0 0) 0 (ax []) (w.alloc (iC #[] 3))):=
  ⟨bh,.inr ⟨w.heap.size,0,rfl,am _,by simp,#[],aC w _,by intro i v hv;simp[ax]at hv⟩⟩
 go_enter Tryz.func141,Tryz.ntmps141;go_wp2;generalize w.alloc (iC #[] 3)=wa at N0⊢;go_loopw [3,4] (λnv iv wr=>∃(k n nc:Nat) (na:Option Addr) (ns:List Int),nv=Y na n nc/\iv=I J k/\k<=t/\n<=k/\ah (ns.length=n/\ns=dA (ps.take k))/\ah (iL w.heap.size w wr/\aG 3 w.heap.size wr.heap.size (Y na n nc) n (ax ns) wr)) (λ_ iv _=>t-(intOf iv).toNat)
 case atStart=>exact⟨0,0,0,_,[],rfl,rfl,aK _,am _,⟨rfl,rfl⟩,N0⟩
 case round=>
  obtain⟨k,n,nc,na,ns,rfl,rfl,hk,a5,E,R⟩:=hrel;clear N0;by_cases a4:(k:Int)<t
  ·have aO:k<M.length:=by have:=HN.o;omega
   obtain⟨x,hx⟩:∃x,M[k]?=X x:=⟨_,ay aO⟩;have aQ:ps[k]?=X x.fP:=by rw[<-HP.o,bi,hx];rfl
   obtain⟨rb,ro,rfl,-,-,-,c0,c1,c2,c3,c4,c5⟩:=(HR.o.below R.o.1).at hx;have E1:ah (dA (ps.take (k+1))=pC ns x.fP):=by show _=_;rw[Nr aQ,E.o.2]
   have L1:ah ((dA (ps.take (k+1))).length<=k+1):=bT (Gg _) (by rw[cG];omega)
   clear hx aQ aO;obtain⟨xb,xl,pk,N,m,L,K,pt⟩:=x;simp only at c0 c1 c2 c3 c4 c5 E1;have k0:(0:Int)<=k:=by omega
   have BA:=af (aR wr (iC #[I J pk,I J N,I J m,I J L,I J K,iT pt] 44));by_cases q1:pk=2
   ·have r1:(pk !=2)=iF:=by rw[q1];rfl
    rw[pC,ak (show(Pg.mk pk N m L K pt).kind=2 from q1)]at E1;simp only at E1;rw[E1.o]at L1;have WA:ah (iL w.heap.size w (wr.alloc (iC #[I J pk,I J N,I J m,I J L,I J K,iT pt] 44))/\aG 3 w.heap.size (wr.alloc (iC #[I J pk,I J N,I J m,I J L,I J K,iT pt] 44)).heap.size (Y na n nc) n (ax ns) (wr.alloc (iC #[I J pk,I J N,I J m,I J L,I J K,iT pt] 44))/\(wr.alloc (iC #[I J pk,I J N,I J m,I J L,I J K,iT pt] 44)).cell? ⟨wr.heap.size,2,O⟩=X (I J m)):=
     ⟨R.o.1.trans (BA.o.mono R.o.1.size),(R.o.2.blw BA.o).up BA.o.size,by simp⟩
    obtain⟨l,aa⟩:=aq wr.heap.size;have al:(wr.alloc (iC #[I J pk,I J N,I J m,I J L,I J K,iT pt] 44)).heap.size=l+1:=by rw[<-aa];simp
    rw[al,aa]at WA;have O1:ah (iL (l+1) (wr.alloc (iC #[I J pk,I J N,I J m,I J L,I J K,iT pt] 44)) ((wr.alloc (iC #[I J pk,I J N,I J m,I J L,I J K,iT pt] 44)).alloc (iC #[] 3))/\((wr.alloc (iC #[I J pk,I J N,I J m,I J L,I J K,iT pt] 44)).alloc (iC #[] 3)).ownsRow (l+1) 3 1 (Y (X ⟨l+1,0,O⟩) 0 0) 0 (ax [])):=by
     refine⟨by rw[<-al];exact bh,rfl,.inr ⟨l+1,0,#[],rfl,am _,?_,am _,by unfold maxLen;omega,rfl,rfl⟩⟩
     have:=aC (wr.alloc (iC #[I J pk,I J N,I J m,I J L,I J K,iT pt] 44)) (iC #[] 3);rw[al]at this;exact this
    have a3:=af aa;have q:=af al;clear R BA al q1;go_wp2_with fail;try rw[aa]
    clear aa c0 c1 c2 c3 c4 c5;generalize wr.alloc (iC #[I J pk,I J N,I J m,I J L,I J K,iT pt] 44)=U at WA O1 q⊢;generalize U.alloc (iC #[] 3)=w2 at O1⊢;obtain⟨a0,a1,ac,ae⟩:=WA.o.2.1.form;have ar:=af (show 0<n->∃g,na=X ⟨g,0,O⟩/\w.heap.size<=g/\g<l+1 by injection ac with h1 h2 h3;rw[h1];exact ae)
    clear ac ae;go_loopw [6,7] (λov jv W=>∃(j:Nat) (d:List Int),jv=I J j/\j<=n/\d.length<=j/\ah (d=(ns.take j).filter (λy=>decide (y<m)))/\ah (iL (l+1) U W/\W.ownsRow (l+1) 3 1 ov d.length (ax d))) (λ_ jv _=>n-(intOf jv).toNat)
    case atStart=>exact⟨0,[],rfl,aK _,am _,rfl,O1⟩
    case round=>
     obtain⟨j,d,rfl,hj,aZ,V,s⟩:=hrel;have au:wr.cell? ⟨l,2,O⟩=X (I J m):=(s.o.1.cell (by show l<l+1;omega)).trans WA.o.2.2
     by_cases av:(j:Int)<n
     ·obtain⟨g,rfl,-,hg⟩:=ar.o (by omega)
      obtain⟨y,hy⟩:∃y,ns[j]?=X y:=⟨_,ay (by have:=E.o.1;omega)⟩
      have CY:ah (∀W,iL (l+1) U W->W.cell? ⟨g,j,O⟩=X (I J y)):=by
       intro W hW;have b:=aB.1 hy;exact(hW.cell (show g<l+1 from hg)).trans (WA.o.2.1.flt.cell (by rw[sE ns j b.1,b.2]))
      have cy:=CY.o _ s.o.1;have j0:(0:Int)<=j:=by omega
      have Z:=af (Hr (f:=(λy=>decide (y<m))) hy)
      clear hy;by_cases ai:y<m
      ·have F2:ah (d++[y]=(ns.take (j+1)).filter (λy=>decide (y<m))):=by
        show _=_;rw[Z.o,V.o];simp[ai]
       go_wp2;go_quiet (fail);have Q:=dL (az wr.heap.size wr) nq;have F:ah (iL (l+1) U (wr.drewN nq)/\(wr.drewN nq).ownsRow (l+1) 3 1 u6 d.length (ax d)):=⟨s.o.1.trans (Q.mono (by have:=s.o.1.size;have:=q.o;omega)),bE s.o.2 Q⟩
       clear s au cy Q Z V;generalize wr.drewN nq=P at F⊢;have cy:=CY.o _ F.o.1;have H:l+1<=P.heap.size:=by have:=F.o.1.size;have:=q.o;omega
       go_wp2_with (at_builtin;refine sK _ y rfl _ _ rfl (l+1) _ d rfl rfl F.o.2 (by omega) H ?_)
       intro u' z D b ho hb;have ON:ah (iL (l+1) U z/\z.ownsRow (l+1) 3 1 u' D.length (ax D)):=⟨F.o.1.trans hb,ho⟩;have ab:D.length<=(j+1):=by rw[b.o];simp;omega
       rw[<-b.o]at F2;clear ho hb H b F cy;go_wp2;go_roundw
       case rel=>exact⟨j+1,D,by go_num,by omega,ab,F2,ON⟩
       case measure=>simp[intOf];omega
      ·have F2:ah (d=(ns.take (j+1)).filter (λy=>decide (y<m))):=by
        show _=_;rw[Z.o,V.o];simp[ai]
       go_wp2;go_quiet (fail);have Q:=dL (az wr.heap.size wr) nq;have F:ah (iL (l+1) U (wr.drewN nq)/\(wr.drewN nq).ownsRow (l+1) 3 1 u6 d.length (ax d)):=⟨s.o.1.trans (Q.mono (by have:=s.o.1.size;have:=q.o;omega)),bE s.o.2 Q⟩
       clear Q;go_wp2;go_roundw
       case rel=>exact⟨j+1,d,by go_num,by omega,by omega,F2,F⟩
       case measure=>simp[intOf];omega
     ·have G:j=ns.length:=by have:=E.o.1;omega
      have EF:ah (d=ns.filter (λy=>decide (y<m))):=by show _=_;rw[V.o,G,nF]
      clear G V
      -- and the number itself
      have H:l+1<=wr.heap.size:=by have:=s.o.1.size;have:=q.o;omega
      go_wp2_with (at_builtin;refine sK _ m rfl _ _ rfl (l+1) _ d rfl rfl s.o.2 (by omega) H ?_)
      intro u' z oX b ho hb;have ON:ah (iL (l+1) U z/\z.ownsRow (l+1) 3 1 u' oX.length (ax oX)):=⟨s.o.1.trans hb,ho⟩;have ab:oX.length<=n+1:=by rw[b.o];simp;omega
      have PZ:ah (d++[m]=ns.filter (λy=>decide (y<m))++[m]):=by show _=_;rw[EF.o]
      rw[<-b.o]at PZ;clear ho hb H b s au EF;go_wp2;go_loopw [6,8] (λov jv W=>∃(j:Nat) (d:List Int),jv=I J j/\j<=n/\d.length<=n+1+j/\ah (d=oX++(ns.take j).filter (λy=>decide (m<y)))/\ah (iL (l+1) U W/\W.ownsRow (l+1) 3 1 ov d.length (ax d))) (λ_ jv _=>n-(intOf jv).toNat)
      case atStart=>exact⟨0,oX,rfl,aK _,ab,by show _=_;simp,ON⟩
      case round=>
       obtain⟨j,d,rfl,hj,aZ,V,s⟩:=hrel;have au:wr.cell? ⟨l,2,O⟩=X (I J m):=(s.o.1.cell (by show l<l+1;omega)).trans WA.o.2.2
       by_cases av:(j:Int)<n
       ·obtain⟨g,rfl,-,hg⟩:=ar.o (by omega)
        obtain⟨y,hy⟩:∃y,ns[j]?=X y:=⟨_,ay (by have:=E.o.1;omega)⟩
        have CY:ah (∀W,iL (l+1) U W->W.cell? ⟨g,j,O⟩=X (I J y)):=by
         intro W hW;have b:=aB.1 hy;exact(hW.cell (show g<l+1 from hg)).trans (WA.o.2.1.flt.cell (by rw[sE ns j b.1,b.2]))
        have cy:=CY.o _ s.o.1;have j0:(0:Int)<=j:=by omega
        have Z:=af (Hr (f:=(λy=>decide (m<y))) hy)
        clear hy;by_cases ai:m<y
        ·have F2:ah (d++[y]=oX++(ns.take (j+1)).filter (λy=>decide (m<y))):=by
          show _=_;rw[Z.o,V.o];simp[ai]
         go_wp2;go_quiet (fail);have Q:=dL (az wr.heap.size wr) nq;have F:ah (iL (l+1) U (wr.drewN nq)/\(wr.drewN nq).ownsRow (l+1) 3 1 u6 d.length (ax d)):=⟨s.o.1.trans (Q.mono (by have:=s.o.1.size;have:=q.o;omega)),bE s.o.2 Q⟩
         clear s au cy Q Z V;generalize wr.drewN nq=P at F⊢;have cy:=CY.o _ F.o.1;have H:l+1<=P.heap.size:=by have:=F.o.1.size;have:=q.o;omega
         go_wp2_with (at_builtin;refine sK _ y rfl _ _ rfl (l+1) _ d rfl rfl F.o.2 (by omega) H ?_)
         intro u' z D b ho hb;have ON:ah (iL (l+1) U z/\z.ownsRow (l+1) 3 1 u' D.length (ax D)):=⟨F.o.1.trans hb,ho⟩;have ab:D.length<=n+1+(j+1):=by rw[b.o];simp;omega
         rw[<-b.o]at F2;clear ho hb H b F cy;go_wp2;go_roundw
         case rel=>exact⟨j+1,D,by go_num,by omega,ab,F2,ON⟩
         case measure=>simp[intOf];omega
        ·have F2:ah (d=oX++(ns.take (j+1)).filter (λy=>decide (m<y))):=by
          show _=_;rw[Z.o,V.o];simp[ai]
         go_wp2;go_quiet (fail);have Q:=dL (az wr.heap.size wr) nq;have F:ah (iL (l+1) U (wr.drewN nq)/\(wr.drewN nq).ownsRow (l+1) 3 1 u6 d.length (ax d)):=⟨s.o.1.trans (Q.mono (by have:=s.o.1.size;have:=q.o;omega)),bE s.o.2 Q⟩
         clear Q;go_wp2;go_roundw
         case rel=>exact⟨j+1,d,by go_num,by omega,by omega,F2,F⟩
         case measure=>simp[intOf];omega
       ·have G:j=ns.length:=by have:=E.o.1;omega
        have EF:ah (d=oX++ns.filter (λy=>decide (m<y))):=by show _=_;rw[V.o,G,nF]
        clear G V;obtain⟨oa,oc,rfl⟩:∃oa oc,u6=Y oa d.length oc:=by
         obtain⟨a,c,e,-⟩:=(aG.of s.o.2).form;exact⟨a,c,e⟩
        have EN:ah (d.length=d.length/\d=dA (ps.take (k+1))):=by
         refine⟨rfl,?_⟩;rw[E1.o,EF.o,PZ.o];rfl
        have LZ:d.length<=k+1:=by have:=L1.o;rw[EN.o.2,E1.o];exact this
        have WN:ah (iL w.heap.size w wr/\aG 3 w.heap.size wr.heap.size (Y oa d.length oc) d.length (ax d) wr):=⟨WA.o.1.trans (s.o.1.mono (by have:=WA.o.1.size;have:=q.o;omega)),(aG.of s.o.2).dn (by have:=WA.o.1.size;have:=q.o;omega)⟩
        obtain⟨n2,aH⟩:=aq d.length;rw[aH]at LZ WN⊢;have aX:=af aH;clear aH;go_wp2;go_roundw
        case rel=>exact⟨k+1,n2,oc,oa,d,rfl,by go_num,by omega,LZ,⟨aX.o,EN.o.2⟩,WN⟩
        case measure=>simp[intOf];omega
   ·have r1:(pk !=2)=iV:=by simpa using q1
    rw[pC,aj (show¬(Pg.mk pk N m L K pt).kind=2 from q1)]at E1;have W1:ah (iL w.heap.size w (wr.alloc (iC #[I J pk,I J N,I J m,I J L,I J K,iT pt] 44))/\aG 3 w.heap.size (wr.alloc (iC #[I J pk,I J N,I J m,I J L,I J K,iT pt] 44)).heap.size (Y na n nc) n (ax ns) (wr.alloc (iC #[I J pk,I J N,I J m,I J L,I J K,iT pt] 44))):=
     ⟨R.o.1.trans (BA.o.mono R.o.1.size),(R.o.2.blw BA.o).up BA.o.size⟩
    have E2:ah (ns.length=n/\ns=dA (ps.take (k+1))):=⟨E.o.1,E1.o.symm⟩;clear R BA q1;go_wp2;go_roundw
    case rel=>exact⟨k+1,n,nc,na,ns,rfl,by go_num,by omega,by omega,E2,W1⟩
    case measure=>simp[intOf];omega
  ·have aN:k=ps.length:=by have:=aY.o;omega
   have EF:ah (ns.length=n/\dF ps=ns.filterMap (dt ps)):=⟨E.o.1,by rw[E.o.2,aN,nF];rfl⟩
   clear aN E;obtain⟨a0,a1,ac,ae⟩:=R.o.2.form;obtain⟨S,T⟩:=aq wr.heap.size;have ar:=af (show 0<n->∃g,na=X ⟨g,0,O⟩/\w.heap.size<=g/\g<S by injection ac with h1 h2 h3;rw[h1,<-T];exact ae)
   clear ac ae;have X0:=af (fN.empty wr S (by omega))
   have B0:=af (show iL S wr (wr.alloc (iC #[] 205))by rw[<-T];exact bh)
   rw[T]at X0;have q:=af T;have aD:w.heap.size<=S:=by have:=R.o.1.size;omega
   go_wp2_with fail;try rw[T]
   clear T;generalize wr.alloc (iC #[] 205)=wb at X0 B0⊢;have WW:=R;clear R;obtain⟨ws,aS⟩:=aq wr;rw[aS]at B0 WW q;clear aS;go_loopw [9,10] (λov iv W=>∃(j:Nat) (rs:List Xw),iv=I J j/\j<=n/\rs.length<=j/\ah (fN W S ov rs)/\ah (iL S ws W)/\ah (rs.map dz=((ns.take j).filterMap (dt ps)).map TxR.tu)) (λ_ iv _=>n-(intOf iv).toNat)
   case atStart=>exact⟨0,[],rfl,aK _,am _,X0,B0,rfl⟩
   case round=>
    obtain⟨j,rs,rfl,hj,a6,Xq,BW,ER⟩:=hrel;clear X0 B0;by_cases av:(j:Int)<n
    ·obtain⟨g,rfl,-,hg⟩:=ar.o (by omega)
     obtain⟨y,hy⟩:∃y,ns[j]?=X y:=⟨_,ay (by have:=EF.o.1;omega)⟩
     have cy:wr.cell? ⟨g,j,O⟩=X (I J y):=(BW.o.cell (show g<S from hg)).trans (by
      have b:=aB.1 hy;exact WW.o.2.flt.cell (by rw[sE ns j b.1,b.2]))
     have j0:(0:Int)<=j:=by omega
     have Z:=af (Na (f:=dt ps) hy);have aW:ah (iL w.heap.size w wr):=WW.o.1.trans (BW.o.mono aD);have C:=af (CX.o wr y aW.o);clear hy;go_wp2_with fail;refine C.o.mono ?_;rintro e P ⟨sq,A,u,B,ok,rfl,b3,h3⟩;have B3:=af b3;clear b3 C cy;have BA:=af (aR P (iC #[I J y,I J sq,Y A u B] 205));have aE:S<=wr.heap.size:=by have:=BW.o.size;have:=q.o;omega
     rcases h3 with⟨h3,rfl⟩|⟨x,h3,rfl,x1,x2,x3,x5,x4⟩
     ·have ap:ah (rs.map dz=((ns.take (j+1)).filterMap (dt ps)).map TxR.tu):=by show _=_;rw[Z.o,h3,ER.o];simp
      have XN:=af ((Xq.o.below B3.o).below BA.o);have BN:ah (iL S ws (P.alloc (iC #[I J y,I J sq,Y A u B] 205))):=(BW.o.trans (B3.o.mono aE)).trans (BA.o.mono (by have:=B3.o.size;omega))
      clear h3 Xq BW ER Z;go_wp2;go_roundw
      case rel=>exact⟨j+1,rs,by go_num,by omega,by omega,XN,BN,ap⟩
      case measure=>simp[intOf];omega
     ·have H3:=af h3;have X3:=af x3;have X4:=af x4;have X5:=af x5;have aA:=af (show x.num=y/\x.seq=sq from⟨x1,x2⟩);clear h3 x3 x4 x1 x2 x5;have aI:=af (Es (P.alloc (iC #[I J y,I J sq,Y A u B] 205)) y sq (Y A u B) (P.heap.size+1) (by simp))
      have aL:=af (DV y sq A u B);have ao:ah (iL (P.alloc (iC #[I J y,I J sq,Y A u B] 205)).heap.size (P.alloc (iC #[I J y,I J sq,Y A u B] 205)) ((P.alloc (iC #[I J y,I J sq,Y A u B] 205)).alloc (iC #[I J y,I J sq,Y A u B] 205))):=bh;have BB:ah (iL wr.heap.size wr ((P.alloc (iC #[I J y,I J sq,Y A u B] 205)).alloc (iC #[I J y,I J sq,Y A u B] 205))):=(B3.o.trans (BA.o.mono B3.o.size)).trans (ao.o.mono (bT B3.o.size BA.o.size));have XN:=af (Xq.o.below BB.o);have OW:=af XN.o.1;have aw:=af (show S<=((P.alloc (iC #[I J y,I J sq,Y A u B] 205)).alloc (iC #[I J y,I J sq,Y A u B] 205)).heap.size by have:=BB.o.size;omega)
      have SX:ah (aG 110 wr.heap.size ((P.alloc (iC #[I J y,I J sq,Y A u B] 205)).alloc (iC #[I J y,I J sq,Y A u B] 205)).heap.size (Y A u B) u (bY (x.fR.map Rc.tu)) ((P.alloc (iC #[I J y,I J sq,Y A u B] 205)).alloc (iC #[I J y,I J sq,Y A u B] 205))):=((X4.o.blw BA.o).blw ao.o).up (bT BA.o.size ao.o.size);obtain⟨i0,aM,aT,aU,aV⟩:=bV IM;have I0:=af aM;have Z0:=af aT;have Z1:=af aU;have Z2:=af aV;clear aM aT aU aV;go_wp2_with (at_builtin;refine cZ _ rfl _ _ 201 rfl S 205 i0 (iA #[I J 0,I J 0,Y O 0 0]) 3 40 Tryz.underlying201 I0.o Z0.o Z1.o Z2.o rfl (by decide) _ _ _ rfl OW.o ⟨P.heap.size+1,0,O⟩ 1 1 [I J y,I J sq,Y A u B] rfl rfl aI.o aL.o ?c1 ?c2 aw.o ?_)
      case c1=>unfold maxLen;omega
      case c2=>omega
      intro u' z ho aF _;obtain⟨r,hr⟩:∃r:Xw,r=(y,sq,Y A u B,x.fR.map Rc.tu):=⟨_,rfl⟩;have aP:z.ownsRow S 205 3 u' (rs++[r]).length (jO (rs++[r])):=by
       rw[<-J9,aJ,hr];exact ho
      have XF:=af (fN.snoc (r:=r) Xq.o BB.o aE (by
       rw[hr];show aG _ _ _ _ (x.fR.map Rc.tu).length _ _;rw[bm,<-X3.o];exact SX.o) (by rw[hr];show(x.fR.map Rc.tu).length<=maxLen;rw[bm,<-X3.o];exact X5.o) aF aP)
      have BF:ah (iL S ws z):=(BW.o.trans (BB.o.mono aE)).grown aF (by have:=aw.o;have:=q.o;omega) (λk hk=>(OW.o.lt k hk).1)
      have ap:ah ((rs++[r]).map dz=((ns.take (j+1)).filterMap (dt ps)).map TxR.tu):=by
       show _=_;rw[Z.o,H3.o,fm,fm,ER.o,hr];simp[dz,TxR.tu,aA.o.1,aA.o.2]
      have b:(rs++[r]).length<=j+1:=by simp;omega
      clear ho aF aP BB XN OW aw aI aL BA ao SX I0 Z0 Z1 Z2 ER Xq BW H3 X3 X4 aA hr;generalize rs++[r]=a2 at XF ap b;go_wp2;go_roundw
      case rel=>exact⟨j+1,a2,by go_num,by omega,b,XF,BF,ap⟩
      case measure=>simp[intOf];omega
    ·have G:j=ns.length:=by have:=EF.o.1;omega
     have EN:ah (rs.map dz=(dF ps).map TxR.tu):=by show _=_;rw[ER.o,G,nF,EF.o.2]
     clear G;go_wp2;go_ret;exact⟨_,rs,rfl,Xq.o.down aD,EN.o,WW.o.1.trans (BW.o.mono aD)⟩
theorem xK.rows{w w':iW}{L:List TxR}{e:Ending}(h:xK w L e w')(g:L.length=n):∃(ad:Option Addr) (c:Nat) (rs:List Xw),e=G (Y ad n c)/\rs.length=n/\rs.map dz=L.map TxR.tu/\fN w' w.heap.size (Y ad n c) rs/\iL w.heap.size w w':=by
 obtain⟨i,rs,rfl,a,d,f⟩:=h;have b:rs.length=n:=by have:=congrArg List.length d;simp only[bm]at this;omega
 obtain⟨ad,c,rfl⟩:=a.form;rw[b]at a⊢;exact⟨ad,c,rs,rfl,b,d,a,f⟩
end Go.Proofs.YtgigcooffjjbgaaGreatDoor
namespace Go.Proofs.YtgigcooffjjbgaaGreatDoor.Words
def gH(tx:Int)(p:Pg):Nat:=if p.tx=tx then p.text.size else 0
def tF(l:List Pg):Nat:=(l.map (λp=>p.text.size)).sum
theorem LV(l:List Pg):(lq l).size=tF l:=by
 show(l.flatMap (λp=>p.text.data.toList)).toArray.size=_
 rw[List.size_toArray,List.length_flatMap];rfl
variable{c:Int}
variable{ps:List Pg}
theorem Xr{tx:Int}:∀(n k:Nat) (l:List Pg),jt ps tx c n k=X l->lR (gH tx) ps k+tF l<=lR (gH tx) ps ((k+n:Nat):Int):=by
 intro n
 induction n with
 |zero=>intro k l h;simp only[jt,fu]at h;subst h;simp[tF]
 |succ n g=>
  intro k l h;simp only[jt]at h;cases a:rx ps tx k c with
  |none=>rw[a]at h;simp at h
  |some p=>
   rw[a]at h;simp only at h;cases d:jt ps tx c n (k+1)with
   |none=>rw[d]at h;simp at h
   |some i=>
    rw[d]at h;simp only[g9,fu]at h;subst h;have h1:=g (k+1) i d;have f:=tD a;have b:=vk a;simp only[bH]at b;have h4:=ww (gH tx) f b.2.2.1;have j:gH tx p=p.text.size:=ak b.2.1;have e:((k+1:Nat):Int)=(k:Int)+1:=by omega
    rw[e]at h1;rw[show k+(n+1)=k+1+n by omega]
    simp only[tF,cn,fU]at h1⊢;omega
theorem Lj{tx:Int}{l:List Pg}(h:kI ps tx=X l):tF l<=dp (gH tx) ps:=by
 unfold kI at h;cases a:pR ps tx with
 |none=>rw[a]at h;cases h
 |some p=>
  rw[a]at h;simp only at h;cases c:jt ps tx p.count (p.count.toNat-1) 1 with
  |none=>rw[c]at h;simp at h
  |some i=>
   rw[c]at h;simp only[g9,fu]at h;subst h;have h1:=Xr _ _ _ c;have e:=tD a;have b:=vk a;simp only[bH]at b;have h4:=ww (gH tx) e b.2.2;have g:=zH (gH tx) ps ((1+(p.count.toNat-1):Nat):Int);have f:gH tx p=p.text.size:=ak b.2.1;have d:((1:Nat):Int)=0+1:=rfl;rw[d]at h1;simp only[tF,cn,fU]at h1⊢;omega
theorem La{tx:Int}{x:TxR}(h:dt ps tx=X x):3*x.fR.length<=dp (gH tx) ps:=by
 unfold dt at h;cases a:kI ps tx with
 |none=>rw[a]at h;cases h
 |some l=>
  rw[a]at h;simp only at h;cases b:fR (lq l).data.toList 0 with
  |none=>rw[b]at h;cases h
  |some rs=>
   rw[b]at h;simp only[g9,fu]at h;subst h;obtain⟨h1,d⟩:=MM rs _ 0 b;have c:=(Nu rs h1).1;rw[<-d]at c;have h4:=Lj a;rw[<-LV]at h4;have e:(lq l).data.toList.length=(lq l).size:=rfl;simp only[AW]at c;simp only;omega
theorem MH(ps:List Pg):∀ns:List Int,ns.Nodup->(ns.map (λn=>dp (gH n) ps)).sum<=dp (λp=>p.text.size) ps:=by
 induction ps with
 |nil=>
  intro ns _;have:∀m:List Int,(m.map (λn=>dp (gH n) [])).sum=0:=by
   intro m
   induction m with
   |nil=>rfl
   |cons a m b=>rw[cn,fU,b];rfl
  rw[this];exact aK _
 |cons p ps b=>
  intro ns d;have h1:=b ns d;have f:∀m:List Int,(m.map (λn=>dp (gH n) (p::ps))).sum=(m.map (λn=>gH n p)).sum+(m.map (λn=>dp (gH n) ps)).sum:=by
   intro m
   induction m with
   |nil=>rfl
   |cons a m b=>
    rw[cn,fU,cn,fU,cn,fU,b];have:dp (gH a) (p::ps)=gH a p+dp (gH a) ps:=by simp[dp]
    rw[this];omega
  have g:∀m:List Int,p.tx∉m->(m.map (λn=>gH n p)).sum=0:=by
   intro m
   induction m with
   |nil=>intro _;rfl
   |cons a m b=>
    intro c;rw[aX,sH]at c;rw[cn,fU,b c.2,gH,aj c.1]
  have h4:∀m:List Int,m.Nodup->(m.map (λn=>gH n p)).sum<=p.text.size:=by
   intro m
   induction m with
   |nil=>intro _;simp
   |cons a m b=>
    intro c;rw[z8]at c;rw[cn,fU];by_cases e:p.tx=a
    ·rw[g m (by rw[e];exact c.1),gH,ak e]
     exact am _
    ·rw[gH,aj e,eV];exact b c.2
  have i:=h4 ns d;have h:dp (λp=>p.text.size) (p::ps)=p.text.size+dp (λp=>p.text.size) ps:=by simp[dp]
  rw[f,h];omega
theorem Jp(ps:List Pg):3*((dF ps).map (λx=>x.fR.length)).sum<=dp (λp=>p.text.size) ps/\(dF ps).length<=ps.length:=by
 have b:(dA ps).Nodup:=(rD ps).imp (λh=>by omega)
 have h1:=MH ps (dA ps) b;have a:∀ns:List Int,3*((ns.filterMap (dt ps)).map (λx=>x.fR.length)).sum<=(ns.map (λn=>dp (gH n) ps)).sum:=by
  intro ns
  induction ns with
  |nil=>simp
  |cons n ns c=>
   rw[cn,fU,qn];split
   ·omega
   ·rename_i x hx
    rw[cn,fU];have:=La hx;omega
 refine⟨bT (a _) h1,bT (yJ _ _) (Gg ps)⟩
end Go.Proofs.YtgigcooffjjbgaaGreatDoor.Words
namespace Go.Proofs.YtgigcooffjjbgaaGreatDoor
open Go.RowKit Words
theorem Nt:LN 139:=by
 intro w;have a:ah (fJ w ii (iA #[Y O 0 0,Y O 0 0,I J 1]) (w.alloc (iC #[Y O 0 0,Y O 0 0,I J 1] 32))):=by
  have b:=aR w (iC #[Y O 0 0,Y O 0 0,I J 1] 32);have c:=b.size;refine⟨_,_,w.heap.size,w.heap.size,w.heap.size,w.heap.size,rfl,.inl ⟨rfl,rfl⟩,⟨[],rfl,.inl ⟨rfl,rfl⟩,(λ_ h=>by cases h),List.Pairwise.nil,by show(0:Nat)<=_;omega⟩,am _,c,am _,c,.inl (am _),b⟩
 have R:=af (aC w (iC #[Y O 0 0,Y O 0 0,I J 1] 32));go_enter Tryz.func139,Tryz.ntmps139;go_wp2;exact aE (uD rfl _ _ w.heap.size 32 _ (0,0) _ rfl R.o Tryz.underlying32 rfl vg) rfl ⟨_,rfl,a.o⟩
def jb(w w0:iW)(z:Nat)(a b c:iX)(r:Rc):Prop:=
 w.heap.size=z/\iL w.heap.size w w0/\w0.heap[z]?=X (iC #[a,b,c] 32 (0,0))/\w0.heap[z+1]?=X (iC #[I J r.kind,I J r.vol,I J r.arg,I J r.fC] 110 (0,0))/\w0.heap[z+1+1]?=X (iC #[Y O 0 0,Y O 0 0,I J 0] 32 (0,0))
variable{fn:Func}{r:Int}{v:Int × Int}{LK TK:List Int}{z k b lo B g lb lc lk tb tc tk q cap n:Nat}
theorem jb.lt{w w0:iW}{a b c:iX}{r:Rc}(h:jb w w0 z a b c r):z+1+1<w0.heap.size:=(aL.1 h.2.2.2.2).1
theorem jb.on{w w0 W:iW}{a b c:iX}{r:Rc}(h:jb w w0 z a b c r)(H:iL w0.heap.size w0 W):jb w W z a b c r:=by
 have:=h.lt;obtain⟨h1,d,e,h4,f⟩:=h;exact⟨h1,d.trans (H.mono d.size),(H.block z (by omega)).trans e,(H.block (z+1) (by omega)).trans h4,(H.block (z+1+1) this).trans f⟩
theorem jb.sc{w W:iW}{a b c:iX}{r:Rc}(h:jb w W z a b c r):W.cell? ⟨z,0,O⟩=X a/\W.cell? ⟨z,1,O⟩=X b/\W.cell? ⟨z,2,O⟩=X c:=
 ⟨ai _ _ 0 _ _ _ h.2.2.1,ai _ _ 1 _ _ _ h.2.2.1,ai _ _ 2 _ _ _ h.2.2.1⟩
theorem jb.rc{w W:iW}{a b c:iX}{r:Rc}(h:jb w W z a b c r):W.cell? ⟨z+1,0,O⟩=X (I J r.kind)/\W.cell? ⟨z+1,1,O⟩=X (I J r.vol)/\W.cell? ⟨z+1,2,O⟩=X (I J r.arg)/\W.cell? ⟨z+1,3,O⟩=X (I J r.fC):=
 ⟨ai _ _ 0 _ _ _ h.2.2.2.1,ai _ _ 1 _ _ _ h.2.2.2.1,ai _ _ 2 _ _ _ h.2.2.2.1,ai _ _ 3 _ _ _ h.2.2.2.1⟩
theorem jb.rf{w W:iW}{a b c:iX}{r:Rc}(h:jb w W z a b c r):W.cell? ⟨z+1+1,0,O⟩=X (Y O 0 0)/\W.cell? ⟨z+1+1,1,O⟩=X (Y O 0 0)/\W.cell? ⟨z+1+1,2,O⟩=X (I J 0)/\W.frozen? ⟨z+1+1,0,O⟩=iF/\W.frozen? ⟨z+1+1,1,O⟩=iF/\W.frozen? ⟨z+1+1,2,O⟩=iF:=
 ⟨ai _ _ 0 _ _ _ h.2.2.2.2,ai _ _ 1 _ _ _ h.2.2.2.2,ai _ _ 2 _ _ _ h.2.2.2.2,aF _ _ 0 _ _ h.2.2.2.2,aF _ _ 1 _ _ h.2.2.2.2,aF _ _ 2 _ _ h.2.2.2.2⟩
def ut(w:iW)(p:Sto×Bool)(e:Ending)(w':iW):Prop:=∃u,e=G (iU #[u,iB p.2])/\fJ w p.1 u w'/\mR u
variable{s:Sto}
theorem jb.fin{w W w':iW}{a b c u:iX}{r:Rc}{p:Sto×Bool}{ok:Bool}(h:jb w W z a b c r)(q:p=(s,ok))(l:fJ W s u w')(o:mR u):∃d j f e k i,u=iA #[Y d j f,Y e k i,I J s.next]/\jb w w' z a b c r/\(((w'.setCell ⟨z+1+1,0,O⟩ (Y d j f)).setCell ⟨z+1+1,1,O⟩ (Y e k i)).setCell ⟨z+1+1,2,O⟩ (I J s.next)).heap[z+1+1]?=X (iC #[Y d j f,Y e k i,I J s.next] 32 (0,0))/\ut w p (G (iU #[iA #[Y d j f,Y e k i,I J s.next],iB ok])) (((w'.setCell ⟨z+1+1,0,O⟩ (Y d j f)).setCell ⟨z+1+1,1,O⟩ (Y e k i)).setCell ⟨z+1+1,2,O⟩ (I J s.next)):=by
 obtain⟨d,j,f,e,k,i,rfl⟩:=l.form;have m:=h.on l.blw;refine⟨d,j,f,e,k,i,rfl,m,pJ m.2.2.2.2,?_⟩;rw[q];have n:=h.lt;have h4:=h.1;exact⟨_,rfl,l.set3 (w0:=w) h.2.1 (g:=z+1+1) n (by omega),o⟩
theorem kU {p q:Tmp} (h:fn.results= #[.cell p 32,.tmp q]) (d:Array iX) (w:iW) (g:Nat) (a b c:iX)
 (j:d.getD p undef=iP (X ⟨g,0,O⟩)) (f:w.heap[g]?=X (iC #[a,b,c] 32 (0,0))):
 (results fn d).run Tryz.prog w=.ok (iU #[iA #[a,b,c],d.getD q undef]) w:=by
 have e:d[p]?.getD undef=iP (X ⟨g,0,O⟩):=by simpa using j
 have i:=nj (P:=Tryz.prog) w g 32 32 #[a,b,c] (0,0) _ f Tryz.underlying32 rfl vg;simp[results,h,e,asAddr,i]
theorem mc{v:iX}{w:iW}(h:di w v s):iK Tryz.prog 53 #[v] w λe w'=>∃u,e=G u/\fJ w s u w'/\mR u:=by
 obtain⟨i,j,vc,ad,f,cap,rs,rfl,a,d,k,b,c,h,g⟩:=h;have:=Xg i j vc ad f cap s.next s.fV rs w d (by omega) b c h g
 rw[<-a]at this;exact this
theorem Ee{l:List (Int×Int)}{f:Int×Int->Bool}(h:l[k]?=X v):(l.take (k+1)).filter f=(l.take k).filter f++(if f v=iV then[v]else[]):=by
 rw[eG,h,ir];simp[List.filter_cons]
theorem zy(l:List (Int×Int))(a b:Int):ch l++[I J a,I J b]=ch (l++[(a,b)]):=by
 rw[Ky];rfl
theorem zr(W:iW)(a b:Int):∀(j:Nat) (u:iX),[I J a,I J b][j]?=X u->(W.alloc (iC #[I J a,I J b] 66)).cell? ((⟨W.heap.size,0,O⟩:Addr).add j)=X u:=by
 intro j u c;rw[fw,ai _ _ j _ _ _ (aC W (iC #[I J a,I J b] 66))]
 match j,c with
 |0,c|1,c=>simpa using c
theorem Ay(a b:Int):∀u∈ [I J a,I J b],u.oneCell'=iV:=by
 intro u c;simp at c;rcases c with h|h<;>subst h<;>rfl
theorem YX(v:iX)(s:Sto)(r:Rc)(w:iW)(aD:di w v s):iK Tryz.prog 88 #[v,iA #[I J r.kind,I J r.vol,I J r.arg,I J r.fC]] w (ut w (fx s r)):=by
 have ac:=af aD;obtain⟨va,B,vc,ad,D,cap,rs,rfl,bg,bs,hl,bk,bm,h,hk⟩:=aD;have HV:=af h;have N:=af h.1;obtain⟨nx,am⟩:=aq s.next;have aa:=af am;obtain⟨i0,hi,aN,aO,aP⟩:=bV xp;have I0:=af hi;have Y0:=af aN;have Y1:=af aO;have Y2:=af aP;unfold dK at ac⊢;rw[am]at ac⊢;clear bg bk bm h hk am hi aN aO aP;obtain⟨m,d,i,P⟩:=r;simp only;have T0:=af (Tk.three w #[Y va B vc,Y ad D cap,I J nx] #[I J m,I J d,I J i,I J P] #[Y O 0 0,Y O 0 0,I J 0] 32 110 32);go_enter Tryz.func88,Tryz.ntmps88;have Z:ah (jb w (((w.alloc (iC #[Y va B vc,Y ad D cap,I J nx] 32)).alloc (iC #[I J m,I J d,I J i,I J P] 110)).alloc (iC #[Y O 0 0,Y O 0 0,I J 0] 32)) w.heap.size (Y va B vc) (Y ad D cap) (I J nx) ⟨m,d,i,P⟩):=⟨rfl,T0.o.1,T0.o.get 2 rfl,T0.o.get 1 rfl,T0.o.get 0 rfl⟩;have SI:ah (∀W,iL w.heap.size w W->di W (iA #[Y va B vc,Y ad D cap,I J nx]) s):=λW H=>ac.o.below H
 clear T0 ac;by_cases ha:(0:Int)<i
 case' pos=>
  rcases hat:bO s.fV i with _|j
  ·have HN:ah (fx s ⟨m,d,i,P⟩=(s,iF)):=by
    show _=_;rw[fx];simp only;rw[ak ha,m8,hat];rfl
   have aA:i>0:=by omega
   go_wp2_with fail;generalize((w.alloc (iC #[Y va B vc,Y ad D cap,I J nx] 32)).alloc (iC #[I J m,I J d,I J i,I J P] 110)).alloc (iC #[Y O 0 0,Y O 0 0,I J 0] 32)=w0 at Z⊢;obtain⟨z,hz⟩:=aq w.heap.size;have ax:=af hz;rw[hz]at Z⊢;have EW:=af Z.o;clear hz Z;have E:=af (se va B vc ad D cap nx s.fV i _ (by omega) (HV.o.below EW.o.2.1))
   unfold dK at E;rw[hat]at E;refine E.o.mono ?_;rintro e wa ⟨rfl,ba⟩;have S:=af (EW.o.on ba);clear ba E;simp only[jh];obtain⟨M,x1,x2⟩:=S.o.sc;go_wp2_with fail;refine(mc (SI.o _ S.o.2.1)).mono ?_;rintro e wc ⟨u,rfl,V,K⟩;obtain⟨ea,el,ec,eb,em,ed,rfl,ee,fr,L⟩:=S.o.fin HN.o V K;obtain⟨f0,f1,f2,f3,f4,f5⟩:=ee.rf;have FR:=af fr;have C:=af L;rw[aa.o]at FR C⊢;clear V ee fr L K M x1 x2;go_wp2;exact aE (kU (p:=4) (q:=5) rfl _ _ (z+1+1) _ _ _ rfl FR.o) rfl C.o
  obtain⟨vj,ae,be⟩:=qa hat;obtain⟨q,U⟩:=aq (vj.2:Int);have ar:ah (m8 s.fV i=X q):=by
   show _=_;rw[m8,hat,<-U];simp[ae]
  have al:ah (((bO s.fV d).isSome||decide (s.fV.length=3))=iV->fx s ⟨m,d,i,P⟩=(s,iF)):=λhh=>by
   rw[fx];simp only;rw[ak ha,ar.o];simp only;rw[ak hh]
  have au:ah (((bO s.fV d).isSome||decide (s.fV.length=3))=iF->fx s ⟨m,d,i,P⟩=(⟨gQ s.fV d q,s.fK,s.next⟩,iV)):=λhh=>by
   rw[fx];simp only;rw[ak ha,ar.o];simp only;rw[aj (by rw[hh];decide)]
  have aA:i>0:=by omega
  go_wp2_with fail;generalize((w.alloc (iC #[Y va B vc,Y ad D cap,I J nx] 32)).alloc (iC #[I J m,I J d,I J i,I J P] 110)).alloc (iC #[Y O 0 0,Y O 0 0,I J 0] 32)=w0 at Z⊢;obtain⟨z,hz⟩:=aq w.heap.size;have ax:=af hz;rw[hz]at Z⊢;have EW:=af Z.o;clear hz Z;have E:=af (se va B vc ad D cap nx s.fV i _ (by omega) (HV.o.below EW.o.2.1))
  unfold dK at E;rw[hat]at E;refine E.o.mono ?_;rintro e bt ⟨rfl,ba⟩;have EV:=af (EW.o.on ba);obtain⟨M,x1,x2⟩:=EV.o.sc;obtain⟨bj,oj,e,-,bo,bb⟩:=(HV.o.below EV.o.2.1).at ae;subst e;rw[U]at bb;have bp:(0:Int)<=j:=by omega
  have bq:¬((j:Int)<0):=by omega
  have br:(j:Int)<B:=by have:=(aB.1 ae).1;have:=N.o;omega
  simp only[jh];obtain⟨y0,y1,y2,y3⟩:=EV.o.rc;simp only at y0 y1 y2 y3;clear EW ba E ae be U hat;have EW:=af EV.o;clear EV
 case' neg=>
  have al:ah (((bO s.fV d).isSome||decide (s.fV.length=3))=iV->fx s ⟨m,d,i,P⟩=(s,iF)):=λhh=>by
   rw[fx];simp only;rw[aj ha];simp only;rw[ak hh]
  obtain⟨q,U⟩:=aq (-1:Int);have au:ah (((bO s.fV d).isSome||decide (s.fV.length=3))=iF->fx s ⟨m,d,i,P⟩=(⟨gQ s.fV d q,s.fK,s.next⟩,iV)):=λhh=>by
   rw[fx];simp only;rw[aj ha];simp only;rw[aj (by rw[hh];decide),U]
  have aA:¬(i>0):=by omega
  have HQ:=af U;clear U;go_wp2_with fail;rw[HQ.o];generalize((w.alloc (iC #[Y va B vc,Y ad D cap,I J nx] 32)).alloc (iC #[I J m,I J d,I J i,I J P] 110)).alloc (iC #[Y O 0 0,Y O 0 0,I J 0] 32)=w0 at Z⊢;obtain⟨z,hz⟩:=aq w.heap.size;have ax:=af hz;rw[hz]at Z⊢;have EW:=af Z.o;clear hz Z;obtain⟨M,x1,x2⟩:=EW.o.sc;obtain⟨y0,y1,y2,y3⟩:=EW.o.rc;simp only at y0 y1 y2 y3
 all_goals
  have ag:=af (se _ B vc ad D cap nx s.fV d _ (by omega) (HV.o.below EW.o.2.1))
  unfold dK at ag;go_wp2_with fail;refine ag.o.mono ?_;rintro e wa ⟨rfl,ba⟩;have S:=af (EW.o.on ba);clear M x1 x2 y0 y1 y2 y3 ba ag;by_cases aM:∃j,bO s.fV d=X j
  ·obtain⟨j,hj⟩:=aM;rw[hj];have HN:ah (fx s ⟨m,d,i,P⟩=(s,iF)):=al.o (by rw[hj];rfl)
   have j0:(0:Int)<=j:=by omega
   simp only[jh];obtain⟨M,x1,x2⟩:=S.o.sc;go_wp2_with fail;refine(mc (SI.o _ S.o.2.1)).mono ?_;rintro e wc ⟨u,rfl,V,K⟩;obtain⟨ea,el,ec,eb,em,ed,rfl,ee,fr,L⟩:=S.o.fin HN.o V K;obtain⟨f0,f1,f2,f3,f4,f5⟩:=ee.rf;have FR:=af fr;have C:=af L;rw[aa.o]at FR C⊢;clear V ee fr L K M x1 x2;go_wp2;exact aE (kU (p:=4) (q:=5) rfl _ _ (z+1+1) _ _ _ rfl FR.o) rfl C.o
  ·have ab:bO s.fV d=O:=by
    cases ha:bO s.fV d with
    |none=>rfl
    |some j=>exact absurd ⟨j,ha⟩ aM
   rw[ab];simp only[jh];by_cases h3:(B:Int)=3
   ·have HN:ah (fx s ⟨m,d,i,P⟩=(s,iF)):=al.o (by rw[aW (show s.fV.length=3 by have:=N.o;omega)];simp)
    have bd:((B:Int)==3)=iV:=by simpa using h3
    obtain⟨M,x1,x2⟩:=S.o.sc;go_wp2_with fail;refine(mc (SI.o _ S.o.2.1)).mono ?_;rintro e wc ⟨u,rfl,V,K⟩;obtain⟨ea,el,ec,eb,em,ed,rfl,ee,fr,L⟩:=S.o.fin HN.o V K;obtain⟨f0,f1,f2,f3,f4,f5⟩:=ee.rf;have FR:=af fr;have C:=af L;rw[aa.o]at FR C⊢;clear V ee fr L K M x1 x2;go_wp2;exact aE (kU (p:=4) (q:=5) rfl _ _ (z+1+1) _ _ _ rfl FR.o) rfl C.o
   ·have bd:((B:Int)==3)=iF:=by simpa using h3
    have HY:ah (fx s ⟨m,d,i,P⟩=(⟨gQ s.fV d q,s.fK,s.next⟩,iV)):=au.o (by rw[ab,bf (show¬s.fV.length=3 by have:=N.o;omega)];rfl)
    obtain⟨M,x1,x2⟩:=S.o.sc;go_wp2_with fail;refine(mc (SI.o _ S.o.2.1)).mono ?_;rintro e wc ⟨u,rfl,V,-⟩;have EC:=af (S.o.on V.blw);have aQ:ah (wa.heap.size<=wc.heap.size):=V.blw.size;obtain⟨ua,ul,uc,ub,um,ud,rfl⟩:=V.form;obtain⟨vv,kv,lo1,hi1,lo2,hi2,eu,-,aL,-,-,aH,aI,-,-⟩:=V;have bc:Y ub um ud=kv:=by
     injection eu with eu
     injection eu with eu
     simp only[jk,kx]at eu;exact eu.2
    subst bc;have aX:=af aL;have aU:=af aH;have aV:=af aI;rw[aa.o];clear M x1 x2 aL aH aI;have BO:=af (aR wc (iC #[Y ua ul uc,Y ub um ud,I J nx] 32));have RO:=af (aC wc (iC #[Y ua ul uc,Y ub um ud,I J nx] 32));have ZO:ah ((wc.alloc (iC #[Y ua ul uc,Y ub um ud,I J nx] 32)).heap.size=wc.heap.size+1):=by show _=_;simp
    have EO:=af (EC.o.on BO.o);go_wp2_with fail;generalize wc.alloc (iC #[Y ua ul uc,Y ub um ud,I J nx] 32)=n at BO RO ZO EO⊢;have O0:=af (YE n);have ao:=af (aR n (iC #[] 66));generalize n.alloc (iC #[] 66)=wl at O0 ao⊢;obtain⟨zb,an⟩:=aq wc.heap.size;rw[an]at RO ZO⊢;have aw:=af an;clear an;go_loopw [9,10] (λlv iv W=>∃(k:Nat) (l:List (Int×Int)),k<=B/\iv=I J k/\l.length<=0+k/\ah (l=(s.fV.take k).filter (λv=>decide (v.1<d)))/\ah (W.ownsRow n.heap.size 66 2 lv l.length (ch l)/\iL n.heap.size n W)) (λ_ iv _=>B-(intOf iv).toNat)
    case atStart=>exact⟨0,[],aK _,rfl,aK _,(by simp:[]=(s.fV.take 0).filter _),by rw[<-ZO.o];exact O0.o,ao.o⟩
    case round=>
     obtain⟨k,l,hk,rfl,bi,HL,t⟩:=hrel;have EK:=af (EO.o.on t.o.2);obtain⟨M,-,-⟩:=EK.o.sc;obtain⟨-,y1,-,-⟩:=EK.o.rc;simp only at y1;by_cases bl:(k:Int)<B
     ·obtain⟨v,hv⟩:∃v,s.fV[k]?=X v:=⟨_,ay (by have:=N.o;omega)⟩
      obtain⟨b,bn,e,hb,c0,c1⟩:=(HV.o.below EK.o.2.1).at hv
      first
       |subst e
       |(injection e with e;injection e with e1 e2;subst e1 e2)
      have k0:(0:Int)<=k:=by omega
      have HF:=af (Ee (f:=λv=>decide (v.1<d)) hv)
      obtain⟨y,F⟩:=v;simp only at c0 c1 HF;clear hv;by_cases ht:y<d
      ·have hd:decide (y<d)=iV:=aW ht;have x:ah (l++[(y,F)]=(s.fV.take (k+1)).filter (λv=>decide (v.1<d))):=by
        show _=_;rw[HF.o,HL.o,ak (by simpa using ht)]
        try rw[fs]
       go_wp2;go_quiet (fail);have T:=af (dL (az wr.heap.size wr) nq);have R:ah (iL wr.heap.size wr ((wr.drewN nq).alloc (iC #[I J y,I J F] 66))):=T.o.alloc (by have:=T.o.size;omega) _
       have OW:=af (bE t.o.1 R.o);have d0:=(T.o.cell (aT wr _ M)).trans M;have d1:=(T.o.cell (aT wr _ c0)).trans c0;have d2:=(T.o.cell (aT wr _ c1)).trans c1;have CN:=af (zr (wr.drewN nq) y F);have A:ah (n.heap.size<=((wr.drewN nq).alloc (iC #[I J y,I J F] 66)).heap.size):=by have:=t.o.2.size;have:=R.o.size;show _<=_;omega
       go_wp2_with (at_builtin;refine cZ _ rfl _ _ 27 rfl n.heap.size 66 i0 (iA #[I J 0,I J 0]) 2 16 Tryz.underlying27 I0.o Y0.o Y1.o Y2.o rfl (by decide) _ _ _ rfl OW.o ⟨(wr.drewN nq).heap.size,0,O⟩ 1 1 [I J y,I J F] rfl rfl CN.o (Ay _ _) ?c1 ?c2 ?c3 ?_)
       case c1=>unfold maxLen;omega
       case c2=>omega
       case c3=>first|exact A.o|(have:=t.o.2.size;omega)
       intro u' z2 ho hg _;rw[zy]at ho;have ON:ah (z2.ownsRow n.heap.size 66 2 u' (l++[(y,F)]).length (ch (l++[(y,F)]))/\iL n.heap.size n z2):=⟨by rw[aJ];exact ho,(t.o.2.trans (R.o.mono t.o.2.size)).grown hg A.o (λq U=>(OW.o.lt q U).1)⟩
       have Q:(l++[(y,F)]).length<=0+(k+1):=by simp;omega
       generalize l++[(y,F)]=l2 at x ON Q;clear ho hg OW R T CN A t HL;go_wp2;go_roundw
       case rel=>exact⟨k+1,l2,by omega,by go_num,Q,x,ON⟩
       case measure=>simp[intOf];omega
      ·have hd:decide (y<d)=iF:=bf ht;have x:ah (l=(s.fV.take (k+1)).filter (λv=>decide (v.1<d))):=by
        show _=_;rw[HF.o,HL.o,aj (by simpa using ht),dS]
       go_wp2;go_quiet (fail);have ON:ah ((wr.drewN nq).ownsRow n.heap.size 66 2 u9 l.length (ch l)/\iL n.heap.size n (wr.drewN nq)):=⟨bE t.o.1 (dL (az wr.heap.size wr) nq),dL t.o.2 nq⟩;go_wp2;go_roundw
       case rel=>exact⟨k+1,l,by omega,by go_num,by omega,x,ON⟩
       case measure=>simp[intOf];omega
     ·have x:ah (l++[(d,q)]=s.fV.filter (λv=>decide (v.1<d))++[(d,q)]):=by
       show _=_;rw[HL.o,bL (by have:=N.o;omega)]
      have R:=af (aR wr (iC #[I J d,I J q] 66));have OW:=af (bE t.o.1 R.o);have CN:=af (zr wr d q);have A:ah (n.heap.size<=(wr.alloc (iC #[I J d,I J q] 66)).heap.size):=by have:=t.o.2.size;have:=R.o.size;show _<=_;omega
      go_wp2_with (at_builtin;refine cZ _ rfl _ _ 27 rfl n.heap.size 66 i0 (iA #[I J 0,I J 0]) 2 16 Tryz.underlying27 I0.o Y0.o Y1.o Y2.o rfl (by decide) _ _ _ rfl OW.o ⟨wr.heap.size,0,O⟩ 1 1 [I J d,I J q] rfl rfl CN.o (Ay _ _) ?c1 ?c2 ?c3 ?_)
      case c1=>unfold maxLen;omega
      case c2=>omega
      case c3=>first|exact A.o|(have:=t.o.2.size;omega)
      intro u' z2 ho hg _;rw[zy]at ho;have ON:ah (z2.ownsRow n.heap.size 66 2 u' (l++[(d,q)]).length (ch (l++[(d,q)]))/\iL n.heap.size n z2):=⟨by rw[aJ];exact ho,(t.o.2.trans (R.o.mono t.o.2.size)).grown hg A.o (λq U=>(OW.o.lt q U).1)⟩
      have Q:(l++[(d,q)]).length<=B+1:=by simp;omega
      generalize l++[(d,q)]=l1 at x ON Q;clear ho hg OW R CN A t HL M y1 EK;go_wp2_with fail;go_loopw [9,11] (λlv iv W=>∃(k:Nat) (l:List (Int×Int)),k<=B/\iv=I J k/\l.length<=B+1+k/\ah (l=l1++(s.fV.take k).filter (λv=>decide (d<v.1)))/\ah (W.ownsRow n.heap.size 66 2 lv l.length (ch l)/\iL n.heap.size n W)) (λ_ iv _=>B-(intOf iv).toNat)
      case atStart=>exact⟨0,l1,aK _,rfl,by omega,(by simp:l1=l1++(s.fV.take 0).filter _),ON⟩
      case round=>
       obtain⟨k,l,hk,rfl,bi,HL,t⟩:=hrel;have EK:=af (EO.o.on t.o.2);obtain⟨M,-,-⟩:=EK.o.sc;obtain⟨-,y1,-,-⟩:=EK.o.rc;simp only at y1;by_cases bl:(k:Int)<B
       ·obtain⟨v,hv⟩:∃v,s.fV[k]?=X v:=⟨_,ay (by have:=N.o;omega)⟩
        obtain⟨b,bn,e,hb,c0,c1⟩:=(HV.o.below EK.o.2.1).at hv
        first
         |subst e
         |(injection e with e;injection e with e1 e2;subst e1 e2)
        have k0:(0:Int)<=k:=by omega
        have HF:=af (Ee (f:=λv=>decide (d<v.1)) hv)
        obtain⟨y,F⟩:=v;simp only at c0 c1 HF;clear hv;by_cases ht:d<y
        ·have hd:decide (d<y)=iV:=aW ht;have x:ah (l++[(y,F)]=l1++(s.fV.take (k+1)).filter (λv=>decide (d<v.1))):=by
          show _=_;rw[HF.o,HL.o,ak (by simpa using ht)]
          try rw[fs]
         go_wp2;go_quiet (fail);have T:=af (dL (az wr.heap.size wr) nq);have R:ah (iL wr.heap.size wr ((wr.drewN nq).alloc (iC #[I J y,I J F] 66))):=T.o.alloc (by have:=T.o.size;omega) _
         have OW:=af (bE t.o.1 R.o);have d0:=(T.o.cell (aT wr _ M)).trans M;have d1:=(T.o.cell (aT wr _ c0)).trans c0;have d2:=(T.o.cell (aT wr _ c1)).trans c1;have CN:=af (zr (wr.drewN nq) y F);have A:ah (n.heap.size<=((wr.drewN nq).alloc (iC #[I J y,I J F] 66)).heap.size):=by have:=t.o.2.size;have:=R.o.size;show _<=_;omega
         go_wp2_with (at_builtin;refine cZ _ rfl _ _ 27 rfl n.heap.size 66 i0 (iA #[I J 0,I J 0]) 2 16 Tryz.underlying27 I0.o Y0.o Y1.o Y2.o rfl (by decide) _ _ _ rfl OW.o ⟨(wr.drewN nq).heap.size,0,O⟩ 1 1 [I J y,I J F] rfl rfl CN.o (Ay _ _) ?c1 ?c2 ?c3 ?_)
         case c1=>unfold maxLen;omega
         case c2=>omega
         case c3=>first|exact A.o|(have:=t.o.2.size;omega)
         intro u' z2 ho hg _;rw[zy]at ho;have ON:ah (z2.ownsRow n.heap.size 66 2 u' (l++[(y,F)]).length (ch (l++[(y,F)]))/\iL n.heap.size n z2):=⟨by rw[aJ];exact ho,(t.o.2.trans (R.o.mono t.o.2.size)).grown hg A.o (λq U=>(OW.o.lt q U).1)⟩
         have Q:(l++[(y,F)]).length<=B+1+(k+1):=by simp;omega
         generalize l++[(y,F)]=l2 at x ON Q;clear ho hg OW R T CN A t HL;go_wp2;go_roundw
         case rel=>exact⟨k+1,l2,by omega,by go_num,Q,x,ON⟩
         case measure=>simp[intOf];omega
        ·have hd:decide (d<y)=iF:=bf ht;have x:ah (l=l1++(s.fV.take (k+1)).filter (λv=>decide (d<v.1))):=by
          show _=_;rw[HF.o,HL.o,aj (by simpa using ht),dS]
         go_wp2;go_quiet (fail);have ON:ah ((wr.drewN nq).ownsRow n.heap.size 66 2 u9 l.length (ch l)/\iL n.heap.size n (wr.drewN nq)):=⟨bE t.o.1 (dL (az wr.heap.size wr) nq),dL t.o.2 nq⟩;go_wp2;go_roundw
         case rel=>exact⟨k+1,l,by omega,by go_num,by omega,x,ON⟩
         case measure=>simp[intOf];omega
       ·have HE:ah (l=gQ s.fV d q):=by
         show _=_;rw[HL.o,x.o,bL (by have:=N.o;omega),gQ,fs]
         rfl
        have hS:=aG.of t.o.1;obtain⟨la,lc,bh,-⟩:=hS.form;subst bh;have ap:=af (Dt t.o.1);have RB:ah (wr.heap[zb]?=X (iC #[Y ua ul uc,Y ub um ud,I J nx] 32 (0,0))):=(t.o.2.block zb (by have:=ZO.o;omega)).trans RO.o
        have aZ:ah (iL w.heap.size w wr):=EK.o.2.1;have av:ah (z+1+1<zb):=by have:=EC.o.lt;rw[aw.o]at this;exact this
        have a0:ah (w.heap.size=z):=EK.o.1;have aY:ah (n.heap.size<=wr.heap.size):=t.o.2.size;have r0:wr.cell? ⟨zb,0,O⟩=X (Y ua ul uc):=ai _ _ 0 _ _ _ RB.o;have r1:wr.frozen? ⟨zb,0,O⟩=iF:=aF _ _ 0 _ _ RB.o;have RC:ah ((wr.setCell ⟨zb,0,O⟩ (Y la l.length lc)).heap[zb]?=X (iC #[Y la l.length lc,Y ub um ud,I J nx] 32 (0,0))):=bw _ _ 0 _ _ _ RB.o;have RD:ah ((wr.setCell ⟨zb,0,O⟩ (Y la l.length lc)).heap[z+1+1]?=X (iC #[Y O 0 0,Y O 0 0,I J 0] 32 (0,0))):=(aS _ _ _ _ (show z+1+1≠zb by have:=av.o;omega)).trans EK.o.2.2.2.2
        have FR:=af (pJ (a:=Y la l.length lc) (b:=Y ub um ud) (c:=I J nx) RD.o);have C:ah (ut w (fx s ⟨m,d,i,P⟩) (G (iU #[iA #[Y la l.length lc,Y ub um ud,I J nx],iB iV])) ((((wr.setCell ⟨zb,0,O⟩ (Y la l.length lc)).setCell ⟨z+1+1,0,O⟩ (Y la l.length lc)).setCell ⟨z+1+1,1,O⟩ (Y ub um ud)).setCell ⟨z+1+1,2,O⟩ (I J nx))):=by
         have a1:=av.o;have a2:=a0.o;have a3:=aY.o;have a4:=ZO.o;have a5:=aU.o;have a6:=aV.o;have a7:=aw.o;have a8:=aQ.o;have a9:=S.o.lt;have b1:(wr.setCell ⟨zb,0,O⟩ (Y la l.length lc)).heap.size=wr.heap.size:=by simp[World.setCell]
         rw[HY.o];refine⟨_,rfl,?_,⟨_,_,_,_,_,rfl,ap.o⟩⟩;rw[HE.o]at hS b1⊢;rw[<-aa.o];refine vS (s:=⟨gQ s.fV d q,s.fK,s.next⟩) (lo1:=n.heap.size) (hi1:=wr.heap.size) (lo2:=lo2) (hi2:=hi2) (by omega) ?_ ?_ ⟨by omega,.inr (by omega)⟩ ⟨by omega,.inr (by omega)⟩ (by omega) (by omega) (.inr (by omega)) (aZ.o.setCell (p:=⟨zb,0,O⟩) (show w.heap.size<=zb by omega) _)
         ·exact aG.loc _ _ _ _ _ _ wr _ (λg g1 g2=>aS _ _ _ _ (show g≠zb by omega)) hS
         ·exact dy.loc _ _ _ _ wc _ (λg g1 g2=>(aS _ _ _ _ (show g≠zb by omega)).trans ((t.o.2.block g (by omega)).trans (BO.o.block g (by omega)))) aX.o
        have s0:=ai _ _ 0 _ _ _ RC.o;have s1:=ai _ _ 1 _ _ _ RC.o;have s2:=ai _ _ 2 _ _ _ RC.o;have t0:=ai _ _ 0 _ _ _ RD.o;have t1:=ai _ _ 1 _ _ _ RD.o;have t2:=ai _ _ 2 _ _ _ RD.o;have t3:=aF _ _ 0 _ _ RD.o;have t4:=aF _ _ 1 _ _ RD.o;have t5:=aF _ _ 2 _ _ RD.o;go_wp2;exact aE (kU (p:=4) (q:=5) rfl _ _ (z+1+1) _ _ _ rfl FR.o) rfl C.o
theorem oS {p q:Tmp} (h:fn.results= #[.cell p 30,.tmp q]) (a:Array iX) (w:iW) (g:Nat) (v:iX)
 (e:a.getD p undef=iP (X ⟨g,0,O⟩)) (c:w.heap[g]?=X (iC #[v] 30 (0,0))):
 (results fn a).run Tryz.prog w=.ok (iU #[iA #[v],a.getD q undef]) w:=by
 have b:a[p]?.getD undef=iP (X ⟨g,0,O⟩):=by simpa using e
 have d:=nj (P:=Tryz.prog) w g 30 30 #[v] (0,0) _ c Tryz.underlying30 rfl Kp;simp[results,h,b,asAddr,d]
variable{hs hs':List nZ}
theorem Tk.wcell{w a:iW}{hi:Nat}{cs:Array iX}{t:TypeId}(h:Tk w a hs)(n:Nat)(r:hs[n]?=X (lo,hi,bS b cs t))(o:w.heap.size<=b)(k:Nat)(u:iX)(q:∀x∈hs',x∈hs/\(x.2.1<=b∨b+1<=x.1)):
 Tk w (a.setCell ⟨b,k,O⟩ u) ((b,b+1,bS b (cs.setIfInBounds k u) t)::hs'):=by
 have j:a.heap[b]?=X (iC cs t (0,0)):=h.get n r;have c:=(aL.1 j).1;have l:(a.setCell ⟨b,k,O⟩ u).heap.size=a.heap.size:=by simp[World.setCell]
 refine⟨h.1.setCell (p:=⟨b,k,O⟩) o u,λx d=>?_⟩
 rcases aX.1 d with rfl|d
 ·exact⟨by rw[l];exact c,bS.loc _ _ _,dq j k u⟩
 ·obtain⟨f,s⟩:=q x d;obtain⟨h1,i,m⟩:=h.2 x f;exact⟨by rw[l];exact h1,i,i a _ (λg g1 g2=>aS _ _ _ _ (λ(e:g=b)=>by omega)) m⟩
theorem Tk.wflt{w a:iW}{hi:Nat}{xs:List iX}{t:TypeId}(h:Tk w a hs)(n:Nat)(j:hs[n]?=X (lo,hi,aP t b xs))(o:w.heap.size<=b)(k:Nat)(u:iX)(s:∀x∈hs',x∈hs/\(x.2.1<=b∨b+1<=x.1)):
 Tk w (a.setCell ⟨b,k,O⟩ u) ((b,b+1,aP t b (xs.set k u))::hs'):=by
 have r:aP t b xs a:=h.get n j;obtain⟨cs,q,-⟩:=r;have c:=(aL.1 q).1;have l:(a.setCell ⟨b,k,O⟩ u).heap.size=a.heap.size:=by simp[World.setCell]
 refine⟨h.1.setCell (p:=⟨b,k,O⟩) o u,λx d=>?_⟩
 rcases aX.1 d with rfl|d
 ·exact⟨by rw[l];exact c,aP.loc _ _ _,aP.set (h.get n j) k u⟩
 ·obtain⟨f,v⟩:=s x d;obtain⟨h1,i,m⟩:=h.2 x f;exact⟨by rw[l];exact h1,i,i a _ (λg g1 g2=>aS _ _ _ _ (λ(e:g=b)=>by omega)) m⟩
variable{l:List Kn}
theorem xj{s n:Int}(h:lL l r s n=iF):gS l r s n=l/\jw l r s n=r:=by simp[gS,jw,h]
theorem wI{w w':iW}{s n:Int}{v:iX}(E:gS l r s n=l/\jw l r s n=r)(h:oz w l v w'):Dw w (gS l r s n) (jw l r s n) (G (iU #[v,I J r])) w':=by
 rw[E.1,E.2];exact⟨_,rfl,h⟩
variable{rs:List Kw}
theorem cA.app2 {o W y:iW} {v u':iX} {i j:Kw} (h0:cA o B v rs) (D:iL o.heap.size o W) (w:B<=o.heap.size) (l:aG 3 o.heap.size W.heap.size i.2.1 i.2.2.length (ax i.2.2) W) (s:i.2.2.length<=maxLen)
 (m:aG 3 o.heap.size W.heap.size j.2.1 j.2.2.length (ax j.2.2) W) (u:j.2.2.length<=maxLen) (r:∀g,i.2.1.ownBlock=X g->j.2.1.ownBlock≠X g)
 (d:W.grownBy y v.ownBlock) (F:y.ownsRow B 189 2 u' (rs++[i,j]).length (d8 (rs++[i,j]))):cA y B u' (rs++[i,j]):=by
 have h:=h0.below D;have E:=mD h.1;have k:∀(t:iX) (g:Nat),v.ownBlock=X g->∀{lo hi n:Nat} {xs:List iX},aG 3 lo hi t n xs W->t.ownBlock≠X g:=by
  intro t g d lo hi n xs hs e;obtain⟨-,-,cs,q⟩:=E g d;obtain⟨-,-,z,q'⟩:=hs.lt g e;exact Cx q' q
 refine⟨F,?_,?_⟩
 ·intro x f;rcases bG.1 f with f|f
  ·exact⟨((h.2.1 x f).1.grown d (λg e c=>k _ g c (h.2.1 x f).1 e)).up d.size,(h.2.1 x f).2⟩
  ·simp only[aX,eI,fp]at f;rcases f with rfl|rfl
   ·exact⟨((l.grown d (λg e c=>k _ g c l e)).dn w).up d.size,s⟩
   ·exact⟨((m.grown d (λg e c=>k _ g c m e)).dn w).up d.size,u⟩
 ·refine iu.2 ⟨h.2.2,?_,?_⟩
  ·simp only[fQ,bR,forall_eq,eI,false_implies,implies_true,kx,List.Pairwise.nil];exact r
  ·intro a C b p g A c;have H:=((h0.2.1 a C).1.lt g A).2.1;simp only[aX,eI,fp]at p;rcases p with rfl|rfl
   ·have G:=(l.lt g c).1;omega
   ·have G:=(m.lt g c).1;omega
abbrev mj(g lb tb lk tk lc tc:Nat)(a:iX)(LK TK:List Int):List nZ:=
 [(tb,tb+1,bS tb #[iB iF,Y (X ⟨tk,0,O⟩) 4 tc] 189),(tk,tk+1,aP 3 tk (ax TK)),(lb,lb+1,bS lb #[iB iV,Y (X ⟨lk,0,O⟩) 4 lc] 189),(lk,lk+1,aP 3 lk (ax LK)),(g,g+1,bS g #[a] 30)]
structure pw (B g lb tb lk tk:Nat):Prop where
 g0:B<=g
 l0:g<lk
 t0:g<tk
 b0:g<lb
 c0:g<tb
 d1:lk≠tk
 d2:lk≠lb
 d3:lk≠tb
 d4:tk≠lb
 d5:tk≠tb
 d6:lb≠tb
theorem P8{b x:iW}{t:Nat}{a:iX}(U:Tk b x (mj g lb tb lk tk lc tc a LK TK))(d:pw b.heap.size g lb tb lk tk)(n:Int):
 Tk b (x.setCell ⟨lk,t,O⟩ (I J n)) (mj g lb tb lk tk lc tc a (LK.set t n) TK):=by
 obtain⟨o,p,q,c,e,f,i,j,k,l,m⟩:=d;have V:=U.wflt (hs':=[(tb,tb+1,bS tb #[iB iF,Y (X ⟨tk,0,O⟩) 4 tc] 189),(tk,tk+1,aP 3 tk (ax TK)),(lb,lb+1,bS lb #[iB iV,Y (X ⟨lk,0,O⟩) 4 lc] 189),(g,g+1,bS g #[a] 30)]) 3 rfl (by omega) t (I J n) (λy hy=>by
  simp only[aX,eI,fp]at hy;rcases hy with rfl|rfl|rfl|rfl
  ·exact⟨by simp,by show tb+1<=lk∨lk+1<=tb;omega⟩
  ·exact⟨by simp,by show tk+1<=lk∨lk+1<=tk;omega⟩
  ·exact⟨by simp,by show lb+1<=lk∨lk+1<=lb;omega⟩
  ·exact⟨by simp,by show g+1<=lk∨lk+1<=g;omega⟩)
 rw[Ac]at V;exact V.drop (λy hy=>by
  simp only[aX,eI,fp]at hy⊢;rcases hy with h|h|h|h|h<;>simp[h])
theorem WQ{b x:iW}{t:Nat}{a:iX}(U:Tk b x (mj g lb tb lk tk lc tc a LK TK))(d:pw b.heap.size g lb tb lk tk)(n:Int):
 Tk b (x.setCell ⟨tk,t,O⟩ (I J n)) (mj g lb tb lk tk lc tc a LK (TK.set t n)):=by
 obtain⟨o,p,q,c,e,f,i,j,k,l,m⟩:=d;have V:=U.wflt (hs':=[(tb,tb+1,bS tb #[iB iF,Y (X ⟨tk,0,O⟩) 4 tc] 189),(lb,lb+1,bS lb #[iB iV,Y (X ⟨lk,0,O⟩) 4 lc] 189),(lk,lk+1,aP 3 lk (ax LK)),(g,g+1,bS g #[a] 30)]) 1 rfl (by omega) t (I J n) (λy hy=>by
  simp only[aX,eI,fp]at hy;rcases hy with rfl|rfl|rfl|rfl
  ·exact⟨by simp,by show tb+1<=tk∨tk+1<=tb;omega⟩
  ·exact⟨by simp,by show lb+1<=tk∨tk+1<=lb;omega⟩
  ·exact⟨by simp,by show lk+1<=tk∨tk+1<=lk;omega⟩
  ·exact⟨by simp,by show g+1<=tk∨tk+1<=g;omega⟩)
 rw[Ac]at V;exact V.drop (λy hy=>by
  simp only[aX,eI,fp]at hy⊢;rcases hy with h|h|h|h|h<;>simp[h])
structure N9 (x y y2:iW) (g lb tb lk tk lc tc t q:Nat) (uv:iX):Prop where
 a1:x.cell? ⟨lb,1,O⟩=X (Y (X ⟨lk,0,O⟩) 4 lc)
 a2:∃u:Int,x.cell? ⟨lk,t,O⟩=X (I J u)
 a3:x.frozen? ⟨lk,t,O⟩=iF
 a4:y.cell? ⟨tb,1,O⟩=X (Y (X ⟨tk,0,O⟩) 4 tc)
 a5:y.cell? ⟨g,0,O⟩=X uv
 a6:∃u:Int,y.cell? ⟨tk,q,O⟩=X (I J u)
 a7:y.frozen? ⟨tk,q,O⟩=iF
 a8:y2.cell? ⟨g,0,O⟩=X uv
 b1:y2.cell? ⟨lb,0,O⟩=X (iB iV)
 b2:y2.cell? ⟨lb,1,O⟩=X (Y (X ⟨lk,0,O⟩) 4 lc)
 b3:y2.cell? ⟨tb,0,O⟩=X (iB iF)
 b4:y2.cell? ⟨tb,1,O⟩=X (Y (X ⟨tk,0,O⟩) 4 tc)
theorem zY{e x:iW}{t:Nat}{c:iX}(U:Tk e x (mj g lb tb lk tk lc tc c LK TK))(d:pw e.heap.size g lb tb lk tk)(h:LK.length=4)(i:TK.length=4)(k:t<4)(j:q<4)(n m:Int):
 N9 x (x.setCell ⟨lk,t,O⟩ (I J n)) ((x.setCell ⟨lk,t,O⟩ (I J n)).setCell ⟨tk,q,O⟩ (I J m)) g lb tb lk tk lc tc t q c/\
 Tk e ((x.setCell ⟨lk,t,O⟩ (I J n)).setCell ⟨tk,q,O⟩ (I J m)) (mj g lb tb lk tk lc tc c (LK.set t n) (TK.set q m)):=by
 have V:=P8 (t:=t) U d n;have a:=WQ (t:=q) V d m;have f:aP 3 lk (ax LK) x:=U.get 3 rfl;have b:aP 3 tk (ax TK) (x.setCell ⟨lk,t,O⟩ (I J n)):=V.get 1 rfl;exact⟨⟨U.at 2 1 rfl rfl,⟨_,f.cell (iI (ay (by omega)))⟩,f.frozen t,V.at 0 1 rfl rfl,V.at 4 0 rfl rfl,⟨_,b.cell (iI (ay (by omega)))⟩,b.frozen q,a.at 4 0 rfl rfl,a.at 2 0 rfl rfl,a.at 2 1 rfl rfl,a.at 0 0 rfl rfl,a.at 0 1 rfl rfl⟩,a⟩
theorem Ci(W:iW){E:Nat}(b:W.heap.size=E)(v u:iX):∀(j:Nat) (x:iX),[iB iV,v,iB iF,u][j]?=X x->(W.alloc (iC #[iB iV,v,iB iF,u] 189)).cell? ((⟨E,0,O⟩:Addr).add j)=X x:=by
 subst b;intro j x a
 match j,a with
 |0,a|1,a|2,a|3,a=>
  simp at a;subst a;simp[Addr.add]
theorem yY(a b:Option Addr)(n c m d:Nat):∀u∈ [iB iV,Y a n c,iB iF,Y b m d],u.oneCell'=iV:=by
 intro u e;simp at e;rcases e with h|h|h|h<;>subst h<;>rfl
structure Rz (w:iW) (z g:Nat) (u2:iX) (L:List Kn) (y:iW):Prop where
 e1:∃v,y.cell? ⟨g,0,O⟩=X v
 e2:y.frozen? ⟨g,0,O⟩=iF
 e3:(y.setCell ⟨g,0,O⟩ u2).cell? ⟨z+1,0,O⟩=X (Y O 0 0)
 e4:(y.setCell ⟨g,0,O⟩ u2).frozen? ⟨z+1,0,O⟩=iF
 e5:(y.setCell ⟨g,0,O⟩ u2).cell? ⟨g,0,O⟩=X u2
 e8:((y.setCell ⟨g,0,O⟩ u2).setCell ⟨z+1,0,O⟩ u2).cell? ⟨g,0,O⟩=X u2
 e6:((y.setCell ⟨g,0,O⟩ u2).setCell ⟨z+1,0,O⟩ u2).drew.heap[z+1]?=X (iC #[u2] 30 (0,0))
 e7:oz w L (iA #[u2]) ((y.setCell ⟨g,0,O⟩ u2).setCell ⟨z+1,0,O⟩ u2).drew
theorem Cg {w l r y:iW} {q b:iX} {j:List Kw} {h i:List Int} {L:List Kn} (Q:w.heap.size=z) (T:Tk w l hs) (J:hs[0]?=X (z+1,z+1+1,bS (z+1) #[Y O 0 0] 30))
 (A:cA l B q j) (P:B=z+1+1) (s:B<=l.heap.size) (V:Tk l r (mj g lb tb lk tk lc tc q h i)) (d:pw l.heap.size g lb tb lk tk) (n:h.length=4) (o:i.length=4)
 (I:L=j.map aD++[⟨iV,h⟩,⟨iF,i⟩])
 (M:y.ownsRow B 189 2 b (j.length+2) (d8 j++[iB iV,Y (X ⟨lk,0,O⟩) 4 lc,iB iF,Y (X ⟨tk,0,O⟩) 4 tc]))
 (g2:(r.alloc (iC #[iB iV,Y (X ⟨lk,0,O⟩) 4 lc,iB iF,Y (X ⟨tk,0,O⟩) 4 tc] 189)).grownBy y q.ownBlock):Rz w z g b L y:=by
 have BA:=aR r (iC #[iB iV,Y (X ⟨lk,0,O⟩) 4 lc,iB iF,Y (X ⟨tk,0,O⟩) 4 tc] 189);have a:=V.below BA;generalize r.alloc (iC #[iB iV,Y (X ⟨lk,0,O⟩) 4 lc,iB iF,Y (X ⟨tk,0,O⟩) 4 tc] 189)=f at BA a g2;have K:=d.g0;have t:g<f.heap.size:=by have:g+1<=f.heap.size:=a.hi 4 rfl;omega
 have x:∀k,q.ownBlock=X k->B<=k/\k<l.heap.size:=λk u=>iS A.1 k u
 have m:y.heap[g]?=X (iC #[q] 30 (0,0)):=(g2.block g t (λe=>by have:=(x g e.symm).2;omega)).trans (a.get 4 rfl)
 have D:y.heap[z+1]?=X (iC #[Y O 0 0] 30 (0,0)):=by
  refine(g2.block (z+1) (by omega) (λe=>by have:=(x (z+1) e.symm).1;omega)).trans ?_
  exact(a.1.block (z+1) (by omega)).trans (T.get 0 J)
 have c:(y.setCell ⟨g,0,O⟩ b).heap[z+1]?=X (iC #[Y O 0 0] 30 (0,0)):=cU D (by omega) _ _
 have H:cA y B b (j++[(iV,Y (X ⟨lk,0,O⟩) 4 lc,h),(iF,Y (X ⟨tk,0,O⟩) 4 tc,i)]):=by
  have E:aP 3 lk (ax h) f:=a.get 3 rfl;have F:aP 3 tk (ax i) f:=a.get 1 rfl;have R:lk+1<=f.heap.size:=a.hi 3 rfl;have S:tk+1<=f.heap.size:=a.hi 1 rfl;have U:=d.l0;have W:=d.t0;refine A.app2 a.1 s ?_ ?_ ?_ ?_ ?_ g2 ?_
  ·exact Or.inr ⟨lk,lc,by simp only[n],by omega,by omega,E⟩
  ·simp only[n];unfold maxLen;omega
  ·exact Or.inr ⟨tk,tc,by simp only[o],by omega,by omega,F⟩
  ·simp only[o];unfold maxLen;omega
  ·intro k h1 G;have N:=d.d1;simp[Value.ownBlock]at h1 G;omega
  ·rw[Eh,aJ];exact M
 have v:w.heap.size<=f.heap.size:=bT T.1.size a.1.size;have C:iL w.heap.size w y:=(T.1.trans (a.1.mono T.1.size)).grown g2 v (λk u=>by have:=(x k u).1;omega)
 refine⟨⟨_,ai _ _ 0 _ _ _ m⟩,aF _ _ 0 _ _ m,ai _ _ 0 _ _ _ c,aF _ _ 0 _ _ c,ai _ _ 0 _ _ _ (dq m 0 b),ai _ _ 0 _ _ _ (cU (dq m 0 b) (by omega) 0 b),dq c 0 b,?_⟩
 refine⟨b,j++[(iV,Y (X ⟨lk,0,O⟩) 4 lc,h),(iF,Y (X ⟨tk,0,O⟩) 4 tc,i)],rfl,?_,?_,?_⟩
 ·exact(((H.cell m 0 b).cell c 0 b).below (az _ _).drew).down (by omega)
 ·rw[I,fm];rfl
 ·exact((C.setCell (p:=⟨g,0,O⟩) (by show w.heap.size<=g;omega) _).setCell (p:=⟨z+1,0,O⟩) (by show w.heap.size<=z+1;omega) _).drew
theorem Dh{w w':iW}{b:List Kn}{n m:Int}{a:Nat}{A B:Kn}{v:iX}(h:lL l r (a:Int) n=iV)(e:ij l r a n=A/\ik l r a=B)(d:m=(l.length:Int)+1)(c:b=l)(k:oz w (b++[A,B]) v w'):
 Dw w (gS l r (a:Int) n) (jw l r (a:Int) n) (G (iU #[v,I J m])) w':=by
 obtain⟨rfl,rfl⟩:=e;subst c d;rw[gS,jw,ak h,ak h,bk];exact⟨_,rfl,k⟩
theorem Cd(a:iW){E:Nat}(b:a.heap.size=E):(a.alloc (iC #[] 3)).ownsRow E 3 1 (Y (X ⟨E,0,O⟩) 0 0) 0 []:=by
 subst b;exact⟨rfl,.inr ⟨a.heap.size,0,#[],rfl,am _,aC a _,am _,by unfold maxLen;omega,rfl,rfl⟩⟩
theorem Ie{g a b:iW}{E:Nat}{v:iX}{ls:List Int}(U:Tk g a hs)(j:a.heap.size=E)(f:b.ownsRow E 3 1 v 4 (ax ls))(g1:(a.alloc (iC #[] 3)).grownBy b (X E)):
 ∃tk c,v=Y (X ⟨tk,0,O⟩) 4 c/\E<=tk/\Tk g b ((tk,tk+1,aP 3 tk (ax ls))::hs):=by
 obtain⟨l,vc,d,e⟩:=(aG.of f).form;obtain⟨tk,rfl,h1,h⟩:=e (by omega)
 subst d;have B:iL a.heap.size a b:=((az a.heap.size a).alloc (am _) _).grown g1 ((az a.heap.size a).alloc (am _) _).size (λk i=>by cases i;omega)
 exact⟨tk,vc,rfl,h1,(U.below B).put h (aP.loc _ _ _) (aG.of f).flt⟩
theorem Zu{f x:iW}{b a:Nat}{e:iX}{c:List Int}(U:Tk f x ((tk,tk+1,aP 3 tk (ax TK))::mj g lb tb lk b lc a e LK c))(d:pw f.heap.size g lb tb lk tk):
 x.cell? ⟨tb,1,O⟩=X (Y (X ⟨b,0,O⟩) 4 a)/\x.frozen? ⟨tb,1,O⟩=iF/\Tk f (x.setCell ⟨tb,1,O⟩ (Y (X ⟨tk,0,O⟩) 4 tc)) (mj g lb tb lk tk lc tc e LK TK):=by
 obtain⟨p,q,r,h,i,j,k,l,m,n,o⟩:=d;have V:=U.wcell (hs':=[(tk,tk+1,aP 3 tk (ax TK)),(lb,lb+1,bS lb #[iB iV,Y (X ⟨lk,0,O⟩) 4 lc] 189),(lk,lk+1,aP 3 lk (ax LK)),(g,g+1,bS g #[e] 30)]) 1 rfl (by omega) 1 (Y (X ⟨tk,0,O⟩) 4 tc) (λy hy=>by
  simp only[aX,eI,fp]at hy;rcases hy with rfl|rfl|rfl|rfl
  ·exact⟨by simp,by show tk+1<=tb∨tb+1<=tk;omega⟩
  ·exact⟨by simp,by show lb+1<=tb∨tb+1<=lb;omega⟩
  ·exact⟨by simp,by show lk+1<=tb∨tb+1<=lk;omega⟩
  ·exact⟨by simp,by show g+1<=tb∨tb+1<=g;omega⟩)
 exact⟨U.at 1 1 rfl rfl,U.fr 1 1 rfl,V⟩
theorem Vu{f x:iW}{b a:Nat}{e:iX}{c:List Int}(U:Tk f x ((lk,lk+1,aP 3 lk (ax LK))::mj g lb tb b tk a tc e c TK))(d:pw f.heap.size g lb tb lk tk):
 x.cell? ⟨lb,1,O⟩=X (Y (X ⟨b,0,O⟩) 4 a)/\x.frozen? ⟨lb,1,O⟩=iF/\Tk f (x.setCell ⟨lb,1,O⟩ (Y (X ⟨lk,0,O⟩) 4 lc)) (mj g lb tb lk tk lc tc e LK TK):=by
 obtain⟨q,r,s,i,j,k,l,m,n,o,p⟩:=d;have V:=U.wcell (hs':=[(tb,tb+1,bS tb #[iB iF,Y (X ⟨tk,0,O⟩) 4 tc] 189),(tk,tk+1,aP 3 tk (ax TK)),(lk,lk+1,aP 3 lk (ax LK)),(g,g+1,bS g #[e] 30)]) 3 rfl (by omega) 1 (Y (X ⟨lk,0,O⟩) 4 lc) (λy hy=>by
  simp only[aX,eI,fp]at hy;rcases hy with rfl|rfl|rfl|rfl
  ·exact⟨by simp,by show tb+1<=lb∨lb+1<=tb;omega⟩
  ·exact⟨by simp,by show tk+1<=lb∨lb+1<=tk;omega⟩
  ·exact⟨by simp,by show lk+1<=lb∨lb+1<=lk;omega⟩
  ·exact⟨by simp,by show g+1<=lb∨lb+1<=g;omega⟩)
 exact⟨U.at 3 1 rfl rfl,U.fr 3 1 rfl,V.drop (λy hy=>by
  simp only[aX,eI,fp]at hy⊢;rcases hy with h|h|h|h|h<;>simp[h])⟩
def sT(w:iW)(L:List Kn)(R:List Int)(e:Ending)(w':iW):Prop:=
 ∃b a lo1 hi1 lo2 hi2,e=G (iU #[iA #[b],a])/\dy lo1 hi1 b L w'/\aG 3 lo2 hi2 a R.length (ax R) w'/\w.heap.size<=lo1/\hi1<=w'.heap.size/\w.heap.size<=lo2/\hi2<=w'.heap.size/\(hi1<=lo2∨hi2<=lo1)/\iL w.heap.size w w'
def ZU(f:Nat):Prop:=∀(ad:Option Addr) (a cap:Nat) (rs:List Kw) (b:Option Addr) (m c:Nat) (qs:List Int) (w:iW),a<=1048578->m<=1048576->(∀r∈rs,r.2.2.length<=1048576)->dB w ad a rs->(b=O->c=0)->fG w b m qs->
 iK Tryz.prog f #[iA #[Y ad a cap],Y b m c] w (sT w (jD (rs.map aD) qs) (mC (rs.map aD) qs))
theorem Tk.fset{w b:iW}{t:TypeId}{xs:List iX}(T:Tk w b hs)(n:Nat)(a:hs[n]?=X (g,g+1,aP t g xs))(c:w.heap.size<=g)(k:Nat)(u:iX)(d:∀x∈hs',x∈hs/\(x.2.1<=g∨g+1<=x.1)):Tk w (b.setCell ⟨g,k,O⟩ u) ((g,g+1,aP t g (xs.set k u))::hs'):=by
 refine T.touch ⟨rfl,rfl,rfl,by simp[World.setCell],λi _ hi=>?_⟩ c (T.hi n a) (aP.loc _ _ _) ((T.get n a).set k u) d
 exact aS _ _ _ _ (show i≠g by unfold Da at hi;omega)
theorem Tk.grownB{w b y:iW}{row:Option Nat}(T:Tk w b hs)(a:b.grownBy y row)(d:∀q,row=X q->B<=q)(h:w.heap.size<=B)(i:∀x∈hs,x.2.1<=B):Tk w y hs:=by
 refine⟨T.1.grown a T.1.size (λq j=>bT h (d q j)),λx f=>?_⟩
 obtain⟨h1,c,g⟩:=T.2 x f;have:=i x f;have:=a.size;exact⟨by omega,c,c b y (λq k l=>a.block q (by omega) (λe=>by have:=d q e.symm;omega)) g⟩
theorem aG.setAt{t:TypeId}{hi:Nat}{xs:List iX}{w:iW}(h:aG t lo hi (Y (X ⟨g,0,O⟩) n cap) n xs w)(k:Nat)(u:iX):aG t lo hi (Y (X ⟨g,0,O⟩) n cap) n (xs.set k u) (w.setCell ⟨g,k,O⟩ u):=by
 have a:=h.lt g rfl;exact .inr ⟨g,cap,rfl,a.1,a.2.1,h.flt.set k u⟩
end Go.Proofs.YtgigcooffjjbgaaGreatDoor
