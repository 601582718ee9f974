/-
  SGath; TxPC; TxC; TxMath3; TxSee; SnewS; SEnv; SVol; SPutM; SwC; Tk2
-/
import Derived.Test.YtijmbohadndfmaaGreatDoorPk15
open Go.Value renaming int→I,slice→Y,string→iT,bool→iB,pointer→iP,agg→iA,tuple→iU
open Go.IntKind renaming i64→J
open Option renaming none→O,some→X
open Go.Ending renaming returned→G
open Go.Obj renaming cells→iC
open Bool renaming true→iV,false→iF
open Go renaming World→iW,Value→iX,Calls→iK
open Go.RowKit renaming Below→iL
set_option maxHeartbeats 4000000
set_option maxRecDepth 100000
namespace Go.Proofs.YtijmbohadndfmaaGreatDoor
open Go.RowKit Words
variable{x:Int}{k n:Nat}
theorem Ek{l:List Int}{f:Int->Bool}(h:l[k]?=X x):(l.take (k+1)).filter f=(l.take k).filter f++if f x then[x]else[]:=by
 rw[dF,h,iD];cases a:f x<;>simp[a]
theorem Nw{l:List Int}{f:Int->Option TxR}(h:l[k]?=X x):(l.take (k+1)).filterMap f=(l.take k).filterMap f++(f x).toList:=by
 rw[dF,h,nh];cases a:f x<;>simp[a]
theorem DX(ad:Option Addr)(t cap:Nat)(M:List aq)(w:iW)(hl:t<=1048576)(hs:dl (λp=>p.text.size) (M.map aq.fP)<=1048576)(h:jc w ad t M):
 iK Tryz.prog 67 #[Y ad t cap] w (xL w (dA (M.map aq.fP))):=by
 have HR:=af h;have HN:=af (show M.length=t from h.1);have HL:=af hl;have HS:=af hs;clear h hs;obtain⟨ps,ae⟩:=an (M.map aq.fP);have CX:ah (∀W tx,iL w.heap.size w W->iK Tryz.prog 96 #[Y ad t cap,I J tx] W (Gd W ps tx)):=by
  intro W tx hb;rw[<-ae];exact Uf ad t cap M tx W hl HS.o (HR.o.below hb)
 rw[ae]at HS⊢;have HP:=af ae;have aZ:ah (ps.length=t):=by show _=_;rw[<-ae,aS];exact HN.o
 clear ae;have N0:ah (iL w.heap.size w (w.alloc (iC #[] 3))/\aB 3 w.heap.size (w.alloc (iC #[] 3)).heap.size (Y (X ⟨w.heap.size,0,O⟩) 0 0) 0 (aE []) (w.alloc (iC #[] 3))):=
  ⟨aY,.inr ⟨w.heap.size,0,rfl,ak _,by simp,#[],az w _,by intro i v hv;simp[aE]at hv⟩⟩
 go_enter Tryz.func67,Tryz.ntmps67;go_wp2;generalize w.alloc (iC #[] 3)=wa at N0⊢;go_loopw [3,4] (λnv iv wr=>∃(k n nc:Nat) (na:Option Addr) (ns:List Int),nv=Y na n nc/\iv=I J k/\k<=t/\n<=k/\ah (ns.length=n/\ns=du (ps.take k))/\ah (iL w.heap.size w wr/\aB 3 w.heap.size wr.heap.size (Y na n nc) n (aE ns) wr)) (λ_ iv _=>t-(intOf iv).toNat)
 case atStart=>exact⟨0,0,0,_,[],rfl,rfl,aI _,ak _,⟨rfl,rfl⟩,N0⟩
 case round=>
  obtain⟨k,n,nc,na,ns,rfl,rfl,hk,a6,E,W0⟩:=hrel;clear N0;by_cases a5:(k:Int)<t
  ·have aM:k<M.length:=by have:=HN.o;omega
   obtain⟨x,hx⟩:∃x,M[k]?=X x:=⟨_,ay aM⟩;have aP:ps[k]?=X x.fP:=by rw[<-HP.o,bk,hx];rfl
   obtain⟨rb,ro,rfl,-,-,-,c0,c1,c2,c3,c4,c5⟩:=(HR.o.below W0.o.1).at hx;have E1:ah (du (ps.take (k+1))=pi ns x.fP):=by show _=_;rw[YL aP,E.o.2]
   have L1:ah ((du (ps.take (k+1))).length<=k+1):=bR (JL _) (by rw[dk];omega)
   clear hx aP aM;obtain⟨xb,xl,pk,N,m,L,K,pt⟩:=x;simp only at c0 c1 c2 c3 c4 c5 E1;have k0:(0:Int)<=k:=by omega
   have BA:=af (aO wr (iC #[I J pk,I J N,I J m,I J L,I J K,iT pt] 110));by_cases q1:pk=2
   ·have r1:(pk !=2)=iF:=by rw[q1];rfl
    rw[pi,aj (show(Pg.mk pk N m L K pt).kind=2 from q1)]at E1;simp only at E1;rw[E1.o]at L1;have WA:ah (iL w.heap.size w (wr.alloc (iC #[I J pk,I J N,I J m,I J L,I J K,iT pt] 110))/\aB 3 w.heap.size (wr.alloc (iC #[I J pk,I J N,I J m,I J L,I J K,iT pt] 110)).heap.size (Y na n nc) n (aE ns) (wr.alloc (iC #[I J pk,I J N,I J m,I J L,I J K,iT pt] 110))/\(wr.alloc (iC #[I J pk,I J N,I J m,I J L,I J K,iT pt] 110)).cell? ⟨wr.heap.size,2,O⟩=X (I J m)):=
     ⟨W0.o.1.trans (BA.o.mono W0.o.1.size),(W0.o.2.blw BA.o).up BA.o.size,by simp⟩
    obtain⟨l,Z⟩:=an wr.heap.size;have al:(wr.alloc (iC #[I J pk,I J N,I J m,I J L,I J K,iT pt] 110)).heap.size=l+1:=by rw[<-Z];simp
    rw[al,Z]at WA;have O1:ah (iL (l+1) (wr.alloc (iC #[I J pk,I J N,I J m,I J L,I J K,iT pt] 110)) ((wr.alloc (iC #[I J pk,I J N,I J m,I J L,I J K,iT pt] 110)).alloc (iC #[] 3))/\((wr.alloc (iC #[I J pk,I J N,I J m,I J L,I J K,iT pt] 110)).alloc (iC #[] 3)).ownsRow (l+1) 3 1 (Y (X ⟨l+1,0,O⟩) 0 0) 0 (aE [])):=by
     refine⟨by rw[<-al];exact aY,rfl,.inr ⟨l+1,0,#[],rfl,ak _,?_,ak _,by unfold maxLen;omega,rfl,rfl⟩⟩
     have:=az (wr.alloc (iC #[I J pk,I J N,I J m,I J L,I J K,iT pt] 110)) (iC #[] 3);rw[al]at this;exact this
    have a4:=af Z;have q:=af al;clear W0 BA al q1;go_wp2_with fail;try rw[Z]
    clear Z c0 c1 c2 c3 c4 c5;generalize wr.alloc (iC #[I J pk,I J N,I J m,I J L,I J K,iT pt] 110)=T at WA O1 q⊢;generalize T.alloc (iC #[] 3)=w2 at O1⊢;obtain⟨a1,a2,ab,ac⟩:=WA.o.2.1.form;have ap:=af (show 0<n->∃g,na=X ⟨g,0,O⟩/\w.heap.size<=g/\g<l+1 by injection ab with h1 h2 h3;rw[h1];exact ac)
    clear ab ac;go_loopw [6,7] (λov jv W=>∃(j:Nat) (d:List Int),jv=I J j/\j<=n/\d.length<=j/\ah (d=(ns.take j).filter (λy=>decide (y<m)))/\ah (iL (l+1) T W/\W.ownsRow (l+1) 3 1 ov d.length (aE d))) (λ_ jv _=>n-(intOf jv).toNat)
    case atStart=>exact⟨0,[],rfl,aI _,ak _,rfl,O1⟩
    case round=>
     obtain⟨j,d,rfl,hj,a0,U,s⟩:=hrel;have ar:wr.cell? ⟨l,2,O⟩=X (I J m):=(s.o.1.cell (by show l<l+1;omega)).trans WA.o.2.2
     by_cases au:(j:Int)<n
     ·obtain⟨g,rfl,-,hg⟩:=ap.o (by omega)
      obtain⟨y,hy⟩:∃y,ns[j]?=X y:=⟨_,ay (by have:=E.o.1;omega)⟩
      have CY:ah (∀W,iL (l+1) T W->W.cell? ⟨g,j,O⟩=X (I J y)):=by
       intro W hW;have b:=aD.1 hy;exact(hW.cell (show g<l+1 from hg)).trans (WA.o.2.1.flt.cell (by rw[yB ns j b.1,b.2]))
      have cy:=CY.o _ s.o.1;have j0:(0:Int)<=j:=by omega
      have V:=af (Ek (f:=(λy=>decide (y<m))) hy)
      clear hy;by_cases ag:y<m
      ·have F2:ah (d++[y]=(ns.take (j+1)).filter (λy=>decide (y<m))):=by
        show _=_;rw[V.o,U.o];simp[ag]
       go_wp2;go_quiet (fail);have Q:=bI (ax wr.heap.size wr) nq;have F:ah (iL (l+1) T (wr.drewN nq)/\(wr.drewN nq).ownsRow (l+1) 3 1 u6 d.length (aE d)):=⟨s.o.1.trans (Q.mono (by have:=s.o.1.size;have:=q.o;omega)),bu s.o.2 Q⟩
       clear s ar cy Q V U;generalize wr.drewN nq=P at F⊢;have cy:=CY.o _ F.o.1;have H:l+1<=P.heap.size:=by have:=F.o.1.size;have:=q.o;omega
       go_wp2_with (at_builtin;refine se _ y rfl _ _ rfl (l+1) _ d rfl rfl F.o.2 (by omega) H ?_)
       intro u' z D b ho hb;have ON:ah (iL (l+1) T z/\z.ownsRow (l+1) 3 1 u' D.length (aE D)):=⟨F.o.1.trans hb,ho⟩;have aa:D.length<=(j+1):=by rw[b.o];simp;omega
       rw[<-b.o]at F2;clear ho hb H b F cy;go_wp2;go_roundw
       case rel=>exact⟨j+1,D,by go_num,by omega,aa,F2,ON⟩
       case measure=>simp[intOf];omega
      ·have F2:ah (d=(ns.take (j+1)).filter (λy=>decide (y<m))):=by
        show _=_;rw[V.o,U.o];simp[ag]
       go_wp2;go_quiet (fail);have Q:=bI (ax wr.heap.size wr) nq;have F:ah (iL (l+1) T (wr.drewN nq)/\(wr.drewN nq).ownsRow (l+1) 3 1 u6 d.length (aE d)):=⟨s.o.1.trans (Q.mono (by have:=s.o.1.size;have:=q.o;omega)),bu s.o.2 Q⟩
       clear Q;go_wp2;go_roundw
       case rel=>exact⟨j+1,d,by go_num,by omega,by omega,F2,F⟩
       case measure=>simp[intOf];omega
     ·have G:j=ns.length:=by have:=E.o.1;omega
      have EF:ah (d=ns.filter (λy=>decide (y<m))):=by show _=_;rw[U.o,G,oU]
      clear G U
      -- and the number itself
      have H:l+1<=wr.heap.size:=by have:=s.o.1.size;have:=q.o;omega
      go_wp2_with (at_builtin;refine se _ m rfl _ _ rfl (l+1) _ d rfl rfl s.o.2 (by omega) H ?_)
      intro u' z oO b ho hb;have ON:ah (iL (l+1) T z/\z.ownsRow (l+1) 3 1 u' oO.length (aE oO)):=⟨s.o.1.trans hb,ho⟩;have aa:oO.length<=n+1:=by rw[b.o];simp;omega
      have PZ:ah (d++[m]=ns.filter (λy=>decide (y<m))++[m]):=by show _=_;rw[EF.o]
      rw[<-b.o]at PZ;clear ho hb H b s ar EF;go_wp2;go_loopw [6,8] (λov jv W=>∃(j:Nat) (d:List Int),jv=I J j/\j<=n/\d.length<=n+1+j/\ah (d=oO++(ns.take j).filter (λy=>decide (m<y)))/\ah (iL (l+1) T W/\W.ownsRow (l+1) 3 1 ov d.length (aE d))) (λ_ jv _=>n-(intOf jv).toNat)
      case atStart=>exact⟨0,oO,rfl,aI _,aa,by show _=_;simp,ON⟩
      case round=>
       obtain⟨j,d,rfl,hj,a0,U,s⟩:=hrel;have ar:wr.cell? ⟨l,2,O⟩=X (I J m):=(s.o.1.cell (by show l<l+1;omega)).trans WA.o.2.2
       by_cases au:(j:Int)<n
       ·obtain⟨g,rfl,-,hg⟩:=ap.o (by omega)
        obtain⟨y,hy⟩:∃y,ns[j]?=X y:=⟨_,ay (by have:=E.o.1;omega)⟩
        have CY:ah (∀W,iL (l+1) T W->W.cell? ⟨g,j,O⟩=X (I J y)):=by
         intro W hW;have b:=aD.1 hy;exact(hW.cell (show g<l+1 from hg)).trans (WA.o.2.1.flt.cell (by rw[yB ns j b.1,b.2]))
        have cy:=CY.o _ s.o.1;have j0:(0:Int)<=j:=by omega
        have V:=af (Ek (f:=(λy=>decide (m<y))) hy)
        clear hy;by_cases ag:m<y
        ·have F2:ah (d++[y]=oO++(ns.take (j+1)).filter (λy=>decide (m<y))):=by
          show _=_;rw[V.o,U.o];simp[ag]
         go_wp2;go_quiet (fail);have Q:=bI (ax wr.heap.size wr) nq;have F:ah (iL (l+1) T (wr.drewN nq)/\(wr.drewN nq).ownsRow (l+1) 3 1 u6 d.length (aE d)):=⟨s.o.1.trans (Q.mono (by have:=s.o.1.size;have:=q.o;omega)),bu s.o.2 Q⟩
         clear s ar cy Q V U;generalize wr.drewN nq=P at F⊢;have cy:=CY.o _ F.o.1;have H:l+1<=P.heap.size:=by have:=F.o.1.size;have:=q.o;omega
         go_wp2_with (at_builtin;refine se _ y rfl _ _ rfl (l+1) _ d rfl rfl F.o.2 (by omega) H ?_)
         intro u' z D b ho hb;have ON:ah (iL (l+1) T z/\z.ownsRow (l+1) 3 1 u' D.length (aE D)):=⟨F.o.1.trans hb,ho⟩;have aa:D.length<=n+1+(j+1):=by rw[b.o];simp;omega
         rw[<-b.o]at F2;clear ho hb H b F cy;go_wp2;go_roundw
         case rel=>exact⟨j+1,D,by go_num,by omega,aa,F2,ON⟩
         case measure=>simp[intOf];omega
        ·have F2:ah (d=oO++(ns.take (j+1)).filter (λy=>decide (m<y))):=by
          show _=_;rw[V.o,U.o];simp[ag]
         go_wp2;go_quiet (fail);have Q:=bI (ax wr.heap.size wr) nq;have F:ah (iL (l+1) T (wr.drewN nq)/\(wr.drewN nq).ownsRow (l+1) 3 1 u6 d.length (aE d)):=⟨s.o.1.trans (Q.mono (by have:=s.o.1.size;have:=q.o;omega)),bu s.o.2 Q⟩
         clear Q;go_wp2;go_roundw
         case rel=>exact⟨j+1,d,by go_num,by omega,by omega,F2,F⟩
         case measure=>simp[intOf];omega
       ·have G:j=ns.length:=by have:=E.o.1;omega
        have EF:ah (d=oO++ns.filter (λy=>decide (m<y))):=by show _=_;rw[U.o,G,oU]
        clear G U;obtain⟨oa,oc,rfl⟩:∃oa oc,u6=Y oa d.length oc:=by
         obtain⟨a,c,e,-⟩:=(aB.of s.o.2).form;exact⟨a,c,e⟩
        have EN:ah (d.length=d.length/\d=du (ps.take (k+1))):=by
         refine⟨rfl,?_⟩;rw[E1.o,EF.o,PZ.o];rfl
        have LZ:d.length<=k+1:=by have:=L1.o;rw[EN.o.2,E1.o];exact this
        have WN:ah (iL w.heap.size w wr/\aB 3 w.heap.size wr.heap.size (Y oa d.length oc) d.length (aE d) wr):=⟨WA.o.1.trans (s.o.1.mono (by have:=WA.o.1.size;have:=q.o;omega)),(aB.of s.o.2).dn (by have:=WA.o.1.size;have:=q.o;omega)⟩
        obtain⟨n2,aG⟩:=an d.length;rw[aG]at LZ WN⊢;have aX:=af aG;clear aG;go_wp2;go_roundw
        case rel=>exact⟨k+1,n2,oc,oa,d,rfl,by go_num,by omega,LZ,⟨aX.o,EN.o.2⟩,WN⟩
        case measure=>simp[intOf];omega
   ·have r1:(pk !=2)=iV:=by simpa using q1
    rw[pi,ai (show¬(Pg.mk pk N m L K pt).kind=2 from q1)]at E1;have W1:ah (iL w.heap.size w (wr.alloc (iC #[I J pk,I J N,I J m,I J L,I J K,iT pt] 110))/\aB 3 w.heap.size (wr.alloc (iC #[I J pk,I J N,I J m,I J L,I J K,iT pt] 110)).heap.size (Y na n nc) n (aE ns) (wr.alloc (iC #[I J pk,I J N,I J m,I J L,I J K,iT pt] 110))):=
     ⟨W0.o.1.trans (BA.o.mono W0.o.1.size),(W0.o.2.blw BA.o).up BA.o.size⟩
    have E2:ah (ns.length=n/\ns=du (ps.take (k+1))):=⟨E.o.1,E1.o.symm⟩;clear W0 BA q1;go_wp2;go_roundw
    case rel=>exact⟨k+1,n,nc,na,ns,rfl,by go_num,by omega,by omega,E2,W1⟩
    case measure=>simp[intOf];omega
  ·have aL:k=ps.length:=by have:=aZ.o;omega
   have EF:ah (ns.length=n/\dA ps=ns.filterMap (dp ps)):=⟨E.o.1,by rw[E.o.2,aL,oU];rfl⟩
   clear aL E;obtain⟨a1,a2,ab,ac⟩:=W0.o.2.form;obtain⟨R,S⟩:=an wr.heap.size;have ap:=af (show 0<n->∃g,na=X ⟨g,0,O⟩/\w.heap.size<=g/\g<R by injection ab with h1 h2 h3;rw[h1,<-S];exact ac)
   clear ab ac;have X0:=af (fb.empty wr R (by omega))
   have B0:=af (show iL R wr (wr.alloc (iC #[] 129))by rw[<-S];exact aY)
   rw[S]at X0;have q:=af S;have aA:w.heap.size<=R:=by have:=W0.o.1.size;omega
   go_wp2_with fail;try rw[S]
   clear S;generalize wr.alloc (iC #[] 129)=wb at X0 B0⊢;have WW:=W0;clear W0;obtain⟨ws,aQ⟩:=an wr;rw[aQ]at B0 WW q;clear aQ;go_loopw [9,10] (λov iv W=>∃(j:Nat) (rs:List Xw),iv=I J j/\j<=n/\rs.length<=j/\ah (fb W R ov rs)/\ah (iL R ws W)/\ah (rs.map dw=((ns.take j).filterMap (dp ps)).map TxR.tu)) (λ_ iv _=>n-(intOf iv).toNat)
   case atStart=>exact⟨0,[],rfl,aI _,ak _,X0,B0,rfl⟩
   case round=>
    obtain⟨j,rs,rfl,hj,a7,Xq,BW,ER⟩:=hrel;clear X0 B0;by_cases au:(j:Int)<n
    ·obtain⟨g,rfl,-,hg⟩:=ap.o (by omega)
     obtain⟨y,hy⟩:∃y,ns[j]?=X y:=⟨_,ay (by have:=EF.o.1;omega)⟩
     have cy:wr.cell? ⟨g,j,O⟩=X (I J y):=(BW.o.cell (show g<R from hg)).trans (by
      have b:=aD.1 hy;exact WW.o.2.flt.cell (by rw[yB ns j b.1,b.2]))
     have j0:(0:Int)<=j:=by omega
     have V:=af (Nw (f:=dp ps) hy);have aW:ah (iL w.heap.size w wr):=WW.o.1.trans (BW.o.mono aA);have C:=af (CX.o wr y aW.o);clear hy;go_wp2_with fail;refine C.o.mono ?_;rintro e P ⟨sq,A,u,B,ok,rfl,b3,h3⟩;have B3:=af b3;clear b3 C cy;have BA:=af (aO P (iC #[I J y,I J sq,Y A u B] 129));have aC:R<=wr.heap.size:=by have:=BW.o.size;have:=q.o;omega
     rcases h3 with⟨h3,rfl⟩|⟨x,h3,rfl,x1,x2,x3,x5,x4⟩
     ·have ao:ah (rs.map dw=((ns.take (j+1)).filterMap (dp ps)).map TxR.tu):=by show _=_;rw[V.o,h3,ER.o];simp
      have XN:=af ((Xq.o.below B3.o).below BA.o);have BN:ah (iL R ws (P.alloc (iC #[I J y,I J sq,Y A u B] 129))):=(BW.o.trans (B3.o.mono aC)).trans (BA.o.mono (by have:=B3.o.size;omega))
      clear h3 Xq BW ER V;go_wp2;go_roundw
      case rel=>exact⟨j+1,rs,by go_num,by omega,by omega,XN,BN,ao⟩
      case measure=>simp[intOf];omega
     ·have H3:=af h3;have X3:=af x3;have X4:=af x4;have X5:=af x5;have aw:=af (show x.num=y/\x.seq=sq from⟨x1,x2⟩);clear h3 x3 x4 x1 x2 x5;have aH:=af (Iq (P.alloc (iC #[I J y,I J sq,Y A u B] 129)) y sq (Y A u B) (P.heap.size+1) (by simp))
      have aJ:=af (JI y sq A u B);have am:ah (iL (P.alloc (iC #[I J y,I J sq,Y A u B] 129)).heap.size (P.alloc (iC #[I J y,I J sq,Y A u B] 129)) ((P.alloc (iC #[I J y,I J sq,Y A u B] 129)).alloc (iC #[I J y,I J sq,Y A u B] 129))):=aY;have BB:ah (iL wr.heap.size wr ((P.alloc (iC #[I J y,I J sq,Y A u B] 129)).alloc (iC #[I J y,I J sq,Y A u B] 129))):=(B3.o.trans (BA.o.mono B3.o.size)).trans (am.o.mono (bR B3.o.size BA.o.size));have XN:=af (Xq.o.below BB.o);have OW:=af XN.o.1;have av:=af (show R<=((P.alloc (iC #[I J y,I J sq,Y A u B] 129)).alloc (iC #[I J y,I J sq,Y A u B] 129)).heap.size by have:=BB.o.size;omega)
      have SX:ah (aB 137 wr.heap.size ((P.alloc (iC #[I J y,I J sq,Y A u B] 129)).alloc (iC #[I J y,I J sq,Y A u B] 129)).heap.size (Y A u B) u (cj (x.fR.map Rc.tu)) ((P.alloc (iC #[I J y,I J sq,Y A u B] 129)).alloc (iC #[I J y,I J sq,Y A u B] 129))):=((X4.o.blw BA.o).blw am.o).up (bR BA.o.size am.o.size);obtain⟨i0,aK,aR,aU,aV⟩:=bK Hj;have I0:=af aK;have Z0:=af aR;have Z1:=af aU;have Z2:=af aV;clear aK aR aU aV;go_wp2_with (at_builtin;refine cN _ rfl _ _ 125 rfl R 129 i0 (iA #[I J 0,I J 0,Y O 0 0]) 3 40 Tryz.underlying125 I0.o Z0.o Z1.o Z2.o rfl (by decide) _ _ _ rfl OW.o ⟨P.heap.size+1,0,O⟩ 1 1 [I J y,I J sq,Y A u B] rfl rfl aH.o aJ.o ?c1 ?c2 av.o ?_)
      case c1=>unfold maxLen;omega
      case c2=>omega
      intro u' z ho aF _;obtain⟨r,hr⟩:∃r:Xw,r=(y,sq,Y A u B,x.fR.map Rc.tu):=⟨_,rfl⟩;have aN:z.ownsRow R 129 3 u' (rs++[r]).length (jK (rs++[r])):=by
       rw[<-Kj,aT,hr];exact ho
      have XF:=af (fb.snoc (r:=r) Xq.o BB.o aC (by
       rw[hr];show aB _ _ _ _ (x.fR.map Rc.tu).length _ _;rw[aS,<-X3.o];exact SX.o) (by rw[hr];show(x.fR.map Rc.tu).length<=maxLen;rw[aS,<-X3.o];exact X5.o) aF aN)
      have BF:ah (iL R ws z):=(BW.o.trans (BB.o.mono aC)).grown aF (by have:=av.o;have:=q.o;omega) (λk hk=>(OW.o.lt k hk).1)
      have ao:ah ((rs++[r]).map dw=((ns.take (j+1)).filterMap (dp ps)).map TxR.tu):=by
       show _=_;rw[V.o,H3.o,dB,dB,ER.o,hr];simp[dw,TxR.tu,aw.o.1,aw.o.2]
      have b:(rs++[r]).length<=j+1:=by simp;omega
      clear ho aF aN BB XN OW av aH aJ BA am SX I0 Z0 Z1 Z2 ER Xq BW H3 X3 X4 aw hr;generalize rs++[r]=a3 at XF ao b;go_wp2;go_roundw
      case rel=>exact⟨j+1,a3,by go_num,by omega,b,XF,BF,ao⟩
      case measure=>simp[intOf];omega
    ·have G:j=ns.length:=by have:=EF.o.1;omega
     have EN:ah (rs.map dw=(dA ps).map TxR.tu):=by show _=_;rw[ER.o,G,oU,EF.o.2]
     clear G;go_wp2;go_ret;exact⟨_,rs,rfl,Xq.o.down aA,EN.o,WW.o.1.trans (BW.o.mono aA)⟩
theorem xL.rows{w w':iW}{L:List TxR}{e:Ending}(h:xL w L e w')(g:L.length=n):∃(ad:Option Addr) (c:Nat) (rs:List Xw),e=G (Y ad n c)/\rs.length=n/\rs.map dw=L.map TxR.tu/\fb w' w.heap.size (Y ad n c) rs/\iL w.heap.size w w':=by
 obtain⟨i,rs,rfl,a,d,f⟩:=h;have b:rs.length=n:=by have:=congrArg List.length d;simp only[aS]at this;omega
 obtain⟨ad,c,rfl⟩:=a.form;rw[b]at a⊢;exact⟨ad,c,rs,rfl,b,d,a,f⟩
end Go.Proofs.YtijmbohadndfmaaGreatDoor
namespace Go.Proofs.YtijmbohadndfmaaGreatDoor.Words
def gk(tx:Int)(p:Pg):Nat:=if p.tx=tx then p.text.size else 0
def rP(l:List Pg):Nat:=(l.map (λp=>p.text.size)).sum
theorem SB(l:List Pg):(kG l).size=rP l:=by
 show(l.flatMap (λp=>p.text.data.toList)).toArray.size=_
 rw[List.size_toArray,List.length_flatMap];rfl
variable{ps:List Pg}
theorem Yo{tx c:Int}:∀(n k:Nat) (l:List Pg),jg ps tx c n k=X l->lp (gk tx) ps k+rP l<=lp (gk tx) ps ((k+n:Nat):Int):=by
 intro n
 induction n with
 |zero=>intro k l h;simp only[jg,fu]at h;subst h;simp[rP]
 |succ n g=>
  intro k l h;simp only[jg]at h;cases a:qX ps tx k c with
  |none=>rw[a]at h;simp at h
  |some p=>
   rw[a]at h;simp only at h;cases d:jg ps tx c n (k+1)with
   |none=>rw[d]at h;simp at h
   |some i=>
    rw[d]at h;simp only[kg,fu]at h;subst h;have h1:=g (k+1) i d;have f:=rL a;have b:=tK a;simp only[bW]at b;have h4:=yg (gk tx) f b.2.2.1;have j:gk tx p=p.text.size:=aj b.2.1;have e:((k+1:Nat):Int)=(k:Int)+1:=by omega
    rw[e]at h1;rw[show k+(n+1)=k+1+n by omega]
    simp only[rP,cD,gt]at h1⊢;omega
theorem Qi{tx:Int}{l:List Pg}(h:kz ps tx=X l):rP l<=dl (gk tx) ps:=by
 unfold kz at h;cases a:pu ps tx with
 |none=>rw[a]at h;cases h
 |some p=>
  rw[a]at h;simp only at h;cases c:jg ps tx p.count (p.count.toNat-1) 1 with
  |none=>rw[c]at h;simp at h
  |some i=>
   rw[c]at h;simp only[kg,fu]at h;subst h;have h1:=Yo _ _ _ c;have e:=rL a;have b:=tK a;simp only[bW]at b;have h4:=yg (gk tx) e b.2.2;have g:=AE (gk tx) ps ((1+(p.count.toNat-1):Nat):Int);have f:gk tx p=p.text.size:=aj b.2.1;have d:((1:Nat):Int)=0+1:=rfl;rw[d]at h1;simp only[rP,cD,gt]at h1⊢;omega
theorem Pc{tx:Int}{x:TxR}(h:dp ps tx=X x):3*x.fR.length<=dl (gk tx) ps:=by
 unfold dp at h;cases a:kz ps tx with
 |none=>rw[a]at h;cases h
 |some l=>
  rw[a]at h;simp only at h;cases b:fR (kG l).data.toList 0 with
  |none=>rw[b]at h;cases h
  |some rs=>
   rw[b]at h;simp only[kg,fu]at h;subst h;obtain⟨h1,d⟩:=RH rs _ 0 b;have c:=(S6 rs h1).1;rw[<-d]at c;have h4:=Qi a;rw[<-SB]at h4;have e:(kG l).data.toList.length=(kG l).size:=rfl;simp only[xE]at c;simp only;omega
theorem Rf(ps:List Pg):∀ns:List Int,ns.Nodup->(ns.map (λn=>dl (gk n) ps)).sum<=dl (λp=>p.text.size) ps:=by
 induction ps with
 |nil=>
  intro ns _;have:∀m:List Int,(m.map (λn=>dl (gk n) [])).sum=0:=by
   intro m
   induction m with
   |nil=>rfl
   |cons a m b=>rw[cD,gt,b];rfl
  rw[this];exact aI _
 |cons p ps b=>
  intro ns d;have h1:=b ns d;have f:∀m:List Int,(m.map (λn=>dl (gk n) (p::ps))).sum=(m.map (λn=>gk n p)).sum+(m.map (λn=>dl (gk n) ps)).sum:=by
   intro m
   induction m with
   |nil=>rfl
   |cons a m b=>
    rw[cD,gt,cD,gt,cD,gt,b];have:dl (gk a) (p::ps)=gk a p+dl (gk a) ps:=by simp[dl]
    rw[this];omega
  have g:∀m:List Int,p.tx∉m->(m.map (λn=>gk n p)).sum=0:=by
   intro m
   induction m with
   |nil=>intro _;rfl
   |cons a m b=>
    intro c;rw[bf,rD]at c;rw[cD,gt,b c.2,gk,ai c.1]
  have h4:∀m:List Int,m.Nodup->(m.map (λn=>gk n p)).sum<=p.text.size:=by
   intro m
   induction m with
   |nil=>intro _;simp
   |cons a m b=>
    intro c;rw[List.nodup_cons]at c;rw[cD,gt];by_cases e:p.tx=a
    ·rw[g m (by rw[e];exact c.1),gk,aj e]
     exact ak _
    ·rw[gk,ai e,dK];exact b c.2
  have i:=h4 ns d;have h:dl (λp=>p.text.size) (p::ps)=p.text.size+dl (λp=>p.text.size) ps:=by simp[dl]
  rw[f,h];omega
theorem Hn(ps:List Pg):3*((dA ps).map (λx=>x.fR.length)).sum<=dl (λp=>p.text.size) ps/\(dA ps).length<=ps.length:=by
 have b:(du ps).Nodup:=(rk ps).imp (λh=>by omega)
 have h1:=Rf ps (du ps) b;have a:∀ns:List Int,3*((ns.filterMap (dp ps)).map (λx=>x.fR.length)).sum<=(ns.map (λn=>dl (gk n) ps)).sum:=by
  intro ns
  induction ns with
  |nil=>simp
  |cons n ns c=>
   rw[cD,gt,pW];split
   ·omega
   ·rename_i x hx
    rw[cD,gt];have:=Pc hx;omega
 refine⟨bR (a _) h1,bR (xQ _ _) (JL ps)⟩
end Go.Proofs.YtijmbohadndfmaaGreatDoor.Words
namespace Go.Proofs.YtijmbohadndfmaaGreatDoor
open Go.RowKit Words
theorem Od:Wq 65:=by
 intro w;have a:ah (fh w gO (iA #[Y O 0 0,Y O 0 0,I J 1]) (w.alloc (iC #[Y O 0 0,Y O 0 0,I J 1] 44))):=by
  have b:=aO w (iC #[Y O 0 0,Y O 0 0,I J 1] 44);have c:=b.size;refine⟨_,_,w.heap.size,w.heap.size,w.heap.size,w.heap.size,rfl,.inl ⟨rfl,rfl⟩,⟨[],rfl,.inl ⟨rfl,rfl⟩,(λ_ h=>by cases h),List.Pairwise.nil,by show(0:Nat)<=_;omega⟩,ak _,c,ak _,c,.inl (ak _),b⟩
 have R:=af (az w (iC #[Y O 0 0,Y O 0 0,I J 1] 44));go_enter Tryz.func65,Tryz.ntmps65;go_wp2;exact aF (tW rfl _ _ w.heap.size 44 _ (0,0) _ rfl R.o Tryz.underlying44 rfl uY) rfl ⟨_,rfl,a.o⟩
def iZ(w w0:iW)(z:Nat)(a b c:iX)(r:Rc):Prop:=
 w.heap.size=z/\iL w.heap.size w w0/\w0.heap[z]?=X (iC #[a,b,c] 44 (0,0))/\w0.heap[z+1]?=X (iC #[I J r.kind,I J r.vol,I J r.arg,I J r.fC] 137 (0,0))/\w0.heap[z+1+1]?=X (iC #[Y O 0 0,Y O 0 0,I J 0] 44 (0,0))
variable{fn:Func}{r:Int}{v:Int × Int}{LK TK:List Int}{z k lo B g lb lc lk tb tc tk q cap n:Nat}
theorem iZ.lt{w w0:iW}{a b c:iX}{r:Rc}(h:iZ w w0 z a b c r):z+1+1<w0.heap.size:=(aJ.1 h.2.2.2.2).1
theorem iZ.on{w w0 W:iW}{a b c:iX}{r:Rc}(h:iZ w w0 z a b c r)(H:iL w0.heap.size w0 W):iZ w W z a b c r:=by
 have:=h.lt;obtain⟨h1,d,e,h4,f⟩:=h;exact⟨h1,d.trans (H.mono d.size),(H.block z (by omega)).trans e,(H.block (z+1) (by omega)).trans h4,(H.block (z+1+1) this).trans f⟩
theorem iZ.sc{w W:iW}{a b c:iX}{r:Rc}(h:iZ w W z a b c r):W.cell? ⟨z,0,O⟩=X a/\W.cell? ⟨z,1,O⟩=X b/\W.cell? ⟨z,2,O⟩=X c:=
 ⟨am _ _ 0 _ _ _ h.2.2.1,am _ _ 1 _ _ _ h.2.2.1,am _ _ 2 _ _ _ h.2.2.1⟩
theorem iZ.rc{w W:iW}{a b c:iX}{r:Rc}(h:iZ w W z a b c r):W.cell? ⟨z+1,0,O⟩=X (I J r.kind)/\W.cell? ⟨z+1,1,O⟩=X (I J r.vol)/\W.cell? ⟨z+1,2,O⟩=X (I J r.arg)/\W.cell? ⟨z+1,3,O⟩=X (I J r.fC):=
 ⟨am _ _ 0 _ _ _ h.2.2.2.1,am _ _ 1 _ _ _ h.2.2.2.1,am _ _ 2 _ _ _ h.2.2.2.1,am _ _ 3 _ _ _ h.2.2.2.1⟩
theorem iZ.rf{w W:iW}{a b c:iX}{r:Rc}(h:iZ w W z a b c r):W.cell? ⟨z+1+1,0,O⟩=X (Y O 0 0)/\W.cell? ⟨z+1+1,1,O⟩=X (Y O 0 0)/\W.cell? ⟨z+1+1,2,O⟩=X (I J 0)/\W.frozen? ⟨z+1+1,0,O⟩=iF/\W.frozen? ⟨z+1+1,1,O⟩=iF/\W.frozen? ⟨z+1+1,2,O⟩=iF:=
 ⟨am _ _ 0 _ _ _ h.2.2.2.2,am _ _ 1 _ _ _ h.2.2.2.2,am _ _ 2 _ _ _ h.2.2.2.2,aL _ _ 0 _ _ h.2.2.2.2,aL _ _ 1 _ _ h.2.2.2.2,aL _ _ 2 _ _ h.2.2.2.2⟩
def tQ(w:iW)(p:Sto×Bool)(e:Ending)(w':iW):Prop:=∃u,e=G (iU #[u,iB p.2])/\fh w p.1 u w'/\mM u
variable{s:Sto}
theorem iZ.fin{w W w':iW}{a b c u:iX}{r:Rc}{p:Sto×Bool}{ok:Bool}(h:iZ w W z a b c r)(q:p=(s,ok))(l:fh W s u w')(o:mM u):∃d j f e k i,u=iA #[Y d j f,Y e k i,I J s.next]/\iZ w w' z a b c r/\(((w'.setCell ⟨z+1+1,0,O⟩ (Y d j f)).setCell ⟨z+1+1,1,O⟩ (Y e k i)).setCell ⟨z+1+1,2,O⟩ (I J s.next)).heap[z+1+1]?=X (iC #[Y d j f,Y e k i,I J s.next] 44 (0,0))/\tQ w p (G (iU #[iA #[Y d j f,Y e k i,I J s.next],iB ok])) (((w'.setCell ⟨z+1+1,0,O⟩ (Y d j f)).setCell ⟨z+1+1,1,O⟩ (Y e k i)).setCell ⟨z+1+1,2,O⟩ (I J s.next)):=by
 obtain⟨d,j,f,e,k,i,rfl⟩:=l.form;have m:=h.on l.blw;refine⟨d,j,f,e,k,i,rfl,m,n7 m.2.2.2.2,?_⟩;rw[q];have n:=h.lt;have h4:=h.1;exact⟨_,rfl,l.set3 (w0:=w) h.2.1 (g:=z+1+1) n (by omega),o⟩
theorem kD {p q:Tmp} (h:fn.results= #[.cell p 44,.tmp q]) (d:Array iX) (w:iW) (g:Nat) (a b c:iX)
 (j:d.getD p undef=iP (X ⟨g,0,O⟩)) (f:w.heap[g]?=X (iC #[a,b,c] 44 (0,0))):
 (results fn d).run Tryz.prog w=.ok (iU #[iA #[a,b,c],d.getD q undef]) w:=by
 have e:d[p]?.getD undef=iP (X ⟨g,0,O⟩):=by simpa using j
 have i:=lx (P:=Tryz.prog) w g 44 44 #[a,b,c] (0,0) _ f Tryz.underlying44 rfl uY;simp[results,h,e,asAddr,i]
theorem mw{v:iX}{w:iW}(h:dO w v s):iK Tryz.prog 69 #[v] w λe w'=>∃u,e=G u/\fh w s u w'/\mM u:=by
 obtain⟨i,j,vc,ad,f,cap,rs,rfl,a,d,k,b,c,h,g⟩:=h;have:=Vk i j vc ad f cap s.next s.fV rs w d (by omega) b c h g
 rw[<-a]at this;exact this
theorem Ho{l:List (Int×Int)}{f:Int×Int->Bool}(h:l[k]?=X v):(l.take (k+1)).filter f=(l.take k).filter f++(if f v=iV then[v]else[]):=by
 rw[dF,h,iD];simp[List.filter_cons]
theorem Cj(l:List (Int×Int))(a b:Int):cn l++[I J a,I J b]=cn (l++[(a,b)]):=by
 rw[Kv];rfl
theorem BL(W:iW)(a b:Int):∀(j:Nat) (u:iX),[I J a,I J b][j]?=X u->(W.alloc (iC #[I J a,I J b] 68)).cell? ((⟨W.heap.size,0,O⟩:Addr).add j)=X u:=by
 intro j u c;rw[eX,am _ _ j _ _ _ (az W (iC #[I J a,I J b] 68))]
 match j,c with
 |0,c|1,c=>simpa using c
theorem Dl(a b:Int):∀u∈ [I J a,I J b],u.oneCell'=iV:=by
 intro u c;simp at c;rcases c with h|h<;>subst h<;>rfl
theorem Pe(v:iX)(s:Sto)(r:Rc)(w:iW)(aE:dO w v s):iK Tryz.prog 133 #[v,iA #[I J r.kind,I J r.vol,I J r.arg,I J r.fC]] w (tQ w (ft s r)):=by
 have ac:=af aE;obtain⟨va,B,vc,ad,D,cap,rs,rfl,bf,bs,hl,bk,bm,h,hk⟩:=aE;have HV:=af h;have N:=af h.1;obtain⟨nx,al⟩:=an s.next;have aa:=af al;obtain⟨i0,hi,aM,aN,aP⟩:=bK vE;have I0:=af hi;have Y0:=af aM;have Y1:=af aN;have Y2:=af aP;unfold eC at ac⊢;rw[al]at ac⊢;clear bf bk bm h hk al hi aM aN aP;obtain⟨m,d,i,P⟩:=r;simp only;have T0:=af (Tk.three w #[Y va B vc,Y ad D cap,I J nx] #[I J m,I J d,I J i,I J P] #[Y O 0 0,Y O 0 0,I J 0] 44 137 44);go_enter Tryz.func133,Tryz.ntmps133;have Z:ah (iZ w (((w.alloc (iC #[Y va B vc,Y ad D cap,I J nx] 44)).alloc (iC #[I J m,I J d,I J i,I J P] 137)).alloc (iC #[Y O 0 0,Y O 0 0,I J 0] 44)) w.heap.size (Y va B vc) (Y ad D cap) (I J nx) ⟨m,d,i,P⟩):=⟨rfl,T0.o.1,T0.o.get 2 rfl,T0.o.get 1 rfl,T0.o.get 0 rfl⟩;have SI:ah (∀W,iL w.heap.size w W->dO W (iA #[Y va B vc,Y ad D cap,I J nx]) s):=λW H=>ac.o.below H
 clear T0 ac;by_cases ha:(0:Int)<i
 case' pos=>
  rcases hat:bY s.fV i with _|j
  ·have HN:ah (ft s ⟨m,d,i,P⟩=(s,iF)):=by
    show _=_;rw[ft];simp only;rw[aj ha,mR,hat];rfl
   have aC:i>0:=by omega
   go_wp2_with fail;generalize((w.alloc (iC #[Y va B vc,Y ad D cap,I J nx] 44)).alloc (iC #[I J m,I J d,I J i,I J P] 137)).alloc (iC #[Y O 0 0,Y O 0 0,I J 0] 44)=w0 at Z⊢;obtain⟨z,hz⟩:=an w.heap.size;have aA:=af hz;rw[hz]at Z⊢;have EW:=af Z.o;clear hz Z;have E:=af (rJ va B vc ad D cap nx s.fV i _ (by omega) (HV.o.below EW.o.2.1))
   unfold eC at E;rw[hat]at E;refine E.o.mono ?_;rintro e wa ⟨rfl,ba⟩;have S:=af (EW.o.on ba);clear ba E;simp only[iI];obtain⟨M,x1,x2⟩:=S.o.sc;go_wp2_with fail;refine(mw (SI.o _ S.o.2.1)).mono ?_;rintro e wc ⟨u,rfl,V,K⟩;obtain⟨ea,el,ec,eb,em,ed,rfl,ee,fr,L⟩:=S.o.fin HN.o V K;obtain⟨f0,f1,f2,f3,f4,f5⟩:=ee.rf;have FR:=af fr;have C:=af L;rw[aa.o]at FR C⊢;clear V ee fr L K M x1 x2;go_wp2;exact aF (kD (p:=4) (q:=5) rfl _ _ (z+1+1) _ _ _ rfl FR.o) rfl C.o
  obtain⟨vj,ae,be⟩:=qa hat;obtain⟨q,U⟩:=an (vj.2:Int);have ar:ah (mR s.fV i=X q):=by
   show _=_;rw[mR,hat,<-U];simp[ae]
  have ak:ah (((bY s.fV d).isSome||decide (s.fV.length=3))=iV->ft s ⟨m,d,i,P⟩=(s,iF)):=λhh=>by
   rw[ft];simp only;rw[aj ha,ar.o];simp only;rw[aj hh]
  have au:ah (((bY s.fV d).isSome||decide (s.fV.length=3))=iF->ft s ⟨m,d,i,P⟩=(⟨gG s.fV d q,s.fK,s.next⟩,iV)):=λhh=>by
   rw[ft];simp only;rw[aj ha,ar.o];simp only;rw[ai (by rw[hh];decide)]
  have aC:i>0:=by omega
  go_wp2_with fail;generalize((w.alloc (iC #[Y va B vc,Y ad D cap,I J nx] 44)).alloc (iC #[I J m,I J d,I J i,I J P] 137)).alloc (iC #[Y O 0 0,Y O 0 0,I J 0] 44)=w0 at Z⊢;obtain⟨z,hz⟩:=an w.heap.size;have aA:=af hz;rw[hz]at Z⊢;have EW:=af Z.o;clear hz Z;have E:=af (rJ va B vc ad D cap nx s.fV i _ (by omega) (HV.o.below EW.o.2.1))
  unfold eC at E;rw[hat]at E;refine E.o.mono ?_;rintro e bt ⟨rfl,ba⟩;have EV:=af (EW.o.on ba);obtain⟨M,x1,x2⟩:=EV.o.sc;obtain⟨bj,oj,e,-,bo,bb⟩:=(HV.o.below EV.o.2.1).at ae;subst e;rw[U]at bb;have bp:(0:Int)<=j:=by omega
  have bq:¬((j:Int)<0):=by omega
  have br:(j:Int)<B:=by have:=(aD.1 ae).1;have:=N.o;omega
  simp only[iI];obtain⟨y0,y1,y2,y3⟩:=EV.o.rc;simp only at y0 y1 y2 y3;clear EW ba E ae be U hat;have EW:=af EV.o;clear EV
 case' neg=>
  have ak:ah (((bY s.fV d).isSome||decide (s.fV.length=3))=iV->ft s ⟨m,d,i,P⟩=(s,iF)):=λhh=>by
   rw[ft];simp only;rw[ai ha];simp only;rw[aj hh]
  obtain⟨q,U⟩:=an (-1:Int);have au:ah (((bY s.fV d).isSome||decide (s.fV.length=3))=iF->ft s ⟨m,d,i,P⟩=(⟨gG s.fV d q,s.fK,s.next⟩,iV)):=λhh=>by
   rw[ft];simp only;rw[ai ha];simp only;rw[ai (by rw[hh];decide),U]
  have aC:¬(i>0):=by omega
  have HQ:=af U;clear U;go_wp2_with fail;rw[HQ.o];generalize((w.alloc (iC #[Y va B vc,Y ad D cap,I J nx] 44)).alloc (iC #[I J m,I J d,I J i,I J P] 137)).alloc (iC #[Y O 0 0,Y O 0 0,I J 0] 44)=w0 at Z⊢;obtain⟨z,hz⟩:=an w.heap.size;have aA:=af hz;rw[hz]at Z⊢;have EW:=af Z.o;clear hz Z;obtain⟨M,x1,x2⟩:=EW.o.sc;obtain⟨y0,y1,y2,y3⟩:=EW.o.rc;simp only at y0 y1 y2 y3
 all_goals
  have ag:=af (rJ _ B vc ad D cap nx s.fV d _ (by omega) (HV.o.below EW.o.2.1))
  unfold eC at ag;go_wp2_with fail;refine ag.o.mono ?_;rintro e wa ⟨rfl,ba⟩;have S:=af (EW.o.on ba);clear M x1 x2 y0 y1 y2 y3 ba ag;by_cases aK:∃j,bY s.fV d=X j
  ·obtain⟨j,hj⟩:=aK;rw[hj];have HN:ah (ft s ⟨m,d,i,P⟩=(s,iF)):=ak.o (by rw[hj];rfl)
   have j0:(0:Int)<=j:=by omega
   simp only[iI];obtain⟨M,x1,x2⟩:=S.o.sc;go_wp2_with fail;refine(mw (SI.o _ S.o.2.1)).mono ?_;rintro e wc ⟨u,rfl,V,K⟩;obtain⟨ea,el,ec,eb,em,ed,rfl,ee,fr,L⟩:=S.o.fin HN.o V K;obtain⟨f0,f1,f2,f3,f4,f5⟩:=ee.rf;have FR:=af fr;have C:=af L;rw[aa.o]at FR C⊢;clear V ee fr L K M x1 x2;go_wp2;exact aF (kD (p:=4) (q:=5) rfl _ _ (z+1+1) _ _ _ rfl FR.o) rfl C.o
  ·have ab:bY s.fV d=O:=by
    cases ha:bY s.fV d with
    |none=>rfl
    |some j=>exact absurd ⟨j,ha⟩ aK
   rw[ab];simp only[iI];by_cases h3:(B:Int)=3
   ·have HN:ah (ft s ⟨m,d,i,P⟩=(s,iF)):=ak.o (by rw[aQ (show s.fV.length=3 by have:=N.o;omega)];simp)
    have bd:((B:Int)==3)=iV:=by simpa using h3
    obtain⟨M,x1,x2⟩:=S.o.sc;go_wp2_with fail;refine(mw (SI.o _ S.o.2.1)).mono ?_;rintro e wc ⟨u,rfl,V,K⟩;obtain⟨ea,el,ec,eb,em,ed,rfl,ee,fr,L⟩:=S.o.fin HN.o V K;obtain⟨f0,f1,f2,f3,f4,f5⟩:=ee.rf;have FR:=af fr;have C:=af L;rw[aa.o]at FR C⊢;clear V ee fr L K M x1 x2;go_wp2;exact aF (kD (p:=4) (q:=5) rfl _ _ (z+1+1) _ _ _ rfl FR.o) rfl C.o
   ·have bd:((B:Int)==3)=iF:=by simpa using h3
    have HY:ah (ft s ⟨m,d,i,P⟩=(⟨gG s.fV d q,s.fK,s.next⟩,iV)):=au.o (by rw[ab,aV (show¬s.fV.length=3 by have:=N.o;omega)];rfl)
    obtain⟨M,x1,x2⟩:=S.o.sc;go_wp2_with fail;refine(mw (SI.o _ S.o.2.1)).mono ?_;rintro e wc ⟨u,rfl,V,-⟩;have EC:=af (S.o.on V.blw);have aR:ah (wa.heap.size<=wc.heap.size):=V.blw.size;obtain⟨ua,ul,uc,ub,um,ud,rfl⟩:=V.form;obtain⟨vv,kv,lo1,hi1,lo2,hi2,eu,-,aJ,-,-,aG,aH,-,-⟩:=V;have bc:Y ub um ud=kv:=by
     injection eu with eu
     injection eu with eu
     simp only[iQ,jY]at eu;exact eu.2
    subst bc;have aX:=af aJ;have aS:=af aG;have aW:=af aH;rw[aa.o];clear M x1 x2 aJ aG aH;have BO:=af (aO wc (iC #[Y ua ul uc,Y ub um ud,I J nx] 44));have RO:=af (az wc (iC #[Y ua ul uc,Y ub um ud,I J nx] 44));have ZO:ah ((wc.alloc (iC #[Y ua ul uc,Y ub um ud,I J nx] 44)).heap.size=wc.heap.size+1):=by show _=_;simp
    have EO:=af (EC.o.on BO.o);go_wp2_with fail;generalize wc.alloc (iC #[Y ua ul uc,Y ub um ud,I J nx] 44)=n at BO RO ZO EO⊢;have O0:=af (Rp n);have ap:=af (aO n (iC #[] 68));generalize n.alloc (iC #[] 68)=wl at O0 ap⊢;obtain⟨zb,ao⟩:=an wc.heap.size;rw[ao]at RO ZO⊢;have aw:=af ao;clear ao;go_loopw [9,10] (λlv iv W=>∃(k:Nat) (l:List (Int×Int)),k<=B/\iv=I J k/\l.length<=0+k/\ah (l=(s.fV.take k).filter (λv=>decide (v.1<d)))/\ah (W.ownsRow n.heap.size 68 2 lv l.length (cn l)/\iL n.heap.size n W)) (λ_ iv _=>B-(intOf iv).toNat)
    case atStart=>exact⟨0,[],aI _,rfl,aI _,(by simp:[]=(s.fV.take 0).filter _),by rw[<-ZO.o];exact O0.o,ap.o⟩
    case round=>
     obtain⟨k,l,hk,rfl,bi,HL,t⟩:=hrel;have EK:=af (EO.o.on t.o.2);obtain⟨M,-,-⟩:=EK.o.sc;obtain⟨-,y1,-,-⟩:=EK.o.rc;simp only at y1;by_cases bl:(k:Int)<B
     ·obtain⟨v,hv⟩:∃v,s.fV[k]?=X v:=⟨_,ay (by have:=N.o;omega)⟩
      obtain⟨b,bn,e,hb,c0,c1⟩:=(HV.o.below EK.o.2.1).at hv
      first
       |subst e
       |(injection e with e;injection e with e1 e2;subst e1 e2)
      have k0:(0:Int)<=k:=by omega
      have HF:=af (Ho (f:=λv=>decide (v.1<d)) hv)
      obtain⟨y,F⟩:=v;simp only at c0 c1 HF;clear hv;by_cases ht:y<d
      ·have hd:decide (y<d)=iV:=aQ ht;have x:ah (l++[(y,F)]=(s.fV.take (k+1)).filter (λv=>decide (v.1<d))):=by
        show _=_;rw[HF.o,HL.o,aj (by simpa using ht)]
        try rw[fJ]
       go_wp2;go_quiet (fail);have T:=af (bI (ax wr.heap.size wr) nq);have R:ah (iL wr.heap.size wr ((wr.drewN nq).alloc (iC #[I J y,I J F] 68))):=T.o.alloc (by have:=T.o.size;omega) _
       have OW:=af (bu t.o.1 R.o);have d0:=(T.o.cell (bh wr _ M)).trans M;have d1:=(T.o.cell (bh wr _ c0)).trans c0;have d2:=(T.o.cell (bh wr _ c1)).trans c1;have CN:=af (BL (wr.drewN nq) y F);have A:ah (n.heap.size<=((wr.drewN nq).alloc (iC #[I J y,I J F] 68)).heap.size):=by have:=t.o.2.size;have:=R.o.size;show _<=_;omega
       go_wp2_with (at_builtin;refine cN _ rfl _ _ 39 rfl n.heap.size 68 i0 (iA #[I J 0,I J 0]) 2 16 Tryz.underlying39 I0.o Y0.o Y1.o Y2.o rfl (by decide) _ _ _ rfl OW.o ⟨(wr.drewN nq).heap.size,0,O⟩ 1 1 [I J y,I J F] rfl rfl CN.o (Dl _ _) ?c1 ?c2 ?c3 ?_)
       case c1=>unfold maxLen;omega
       case c2=>omega
       case c3=>first|exact A.o|(have:=t.o.2.size;omega)
       intro u' z2 ho hg _;rw[Cj]at ho;have ON:ah (z2.ownsRow n.heap.size 68 2 u' (l++[(y,F)]).length (cn (l++[(y,F)]))/\iL n.heap.size n z2):=⟨by rw[aT];exact ho,(t.o.2.trans (R.o.mono t.o.2.size)).grown hg A.o (λq U=>(OW.o.lt q U).1)⟩
       have Q:(l++[(y,F)]).length<=0+(k+1):=by simp;omega
       generalize l++[(y,F)]=l2 at x ON Q;clear ho hg OW R T CN A t HL;go_wp2;go_roundw
       case rel=>exact⟨k+1,l2,by omega,by go_num,Q,x,ON⟩
       case measure=>simp[intOf];omega
      ·have hd:decide (y<d)=iF:=aV ht;have x:ah (l=(s.fV.take (k+1)).filter (λv=>decide (v.1<d))):=by
        show _=_;rw[HF.o,HL.o,ai (by simpa using ht),eM]
       go_wp2;go_quiet (fail);have ON:ah ((wr.drewN nq).ownsRow n.heap.size 68 2 u9 l.length (cn l)/\iL n.heap.size n (wr.drewN nq)):=⟨bu t.o.1 (bI (ax wr.heap.size wr) nq),bI t.o.2 nq⟩;go_wp2;go_roundw
       case rel=>exact⟨k+1,l,by omega,by go_num,by omega,x,ON⟩
       case measure=>simp[intOf];omega
     ·have x:ah (l++[(d,q)]=s.fV.filter (λv=>decide (v.1<d))++[(d,q)]):=by
       show _=_;rw[HL.o,cm (by have:=N.o;omega)]
      have R:=af (aO wr (iC #[I J d,I J q] 68));have OW:=af (bu t.o.1 R.o);have CN:=af (BL wr d q);have A:ah (n.heap.size<=(wr.alloc (iC #[I J d,I J q] 68)).heap.size):=by have:=t.o.2.size;have:=R.o.size;show _<=_;omega
      go_wp2_with (at_builtin;refine cN _ rfl _ _ 39 rfl n.heap.size 68 i0 (iA #[I J 0,I J 0]) 2 16 Tryz.underlying39 I0.o Y0.o Y1.o Y2.o rfl (by decide) _ _ _ rfl OW.o ⟨wr.heap.size,0,O⟩ 1 1 [I J d,I J q] rfl rfl CN.o (Dl _ _) ?c1 ?c2 ?c3 ?_)
      case c1=>unfold maxLen;omega
      case c2=>omega
      case c3=>first|exact A.o|(have:=t.o.2.size;omega)
      intro u' z2 ho hg _;rw[Cj]at ho;have ON:ah (z2.ownsRow n.heap.size 68 2 u' (l++[(d,q)]).length (cn (l++[(d,q)]))/\iL n.heap.size n z2):=⟨by rw[aT];exact ho,(t.o.2.trans (R.o.mono t.o.2.size)).grown hg A.o (λq U=>(OW.o.lt q U).1)⟩
      have Q:(l++[(d,q)]).length<=B+1:=by simp;omega
      generalize l++[(d,q)]=l1 at x ON Q;clear ho hg OW R CN A t HL M y1 EK;go_wp2_with fail;go_loopw [9,11] (λlv iv W=>∃(k:Nat) (l:List (Int×Int)),k<=B/\iv=I J k/\l.length<=B+1+k/\ah (l=l1++(s.fV.take k).filter (λv=>decide (d<v.1)))/\ah (W.ownsRow n.heap.size 68 2 lv l.length (cn l)/\iL n.heap.size n W)) (λ_ iv _=>B-(intOf iv).toNat)
      case atStart=>exact⟨0,l1,aI _,rfl,by omega,(by simp:l1=l1++(s.fV.take 0).filter _),ON⟩
      case round=>
       obtain⟨k,l,hk,rfl,bi,HL,t⟩:=hrel;have EK:=af (EO.o.on t.o.2);obtain⟨M,-,-⟩:=EK.o.sc;obtain⟨-,y1,-,-⟩:=EK.o.rc;simp only at y1;by_cases bl:(k:Int)<B
       ·obtain⟨v,hv⟩:∃v,s.fV[k]?=X v:=⟨_,ay (by have:=N.o;omega)⟩
        obtain⟨b,bn,e,hb,c0,c1⟩:=(HV.o.below EK.o.2.1).at hv
        first
         |subst e
         |(injection e with e;injection e with e1 e2;subst e1 e2)
        have k0:(0:Int)<=k:=by omega
        have HF:=af (Ho (f:=λv=>decide (d<v.1)) hv)
        obtain⟨y,F⟩:=v;simp only at c0 c1 HF;clear hv;by_cases ht:d<y
        ·have hd:decide (d<y)=iV:=aQ ht;have x:ah (l++[(y,F)]=l1++(s.fV.take (k+1)).filter (λv=>decide (d<v.1))):=by
          show _=_;rw[HF.o,HL.o,aj (by simpa using ht)]
          try rw[fJ]
         go_wp2;go_quiet (fail);have T:=af (bI (ax wr.heap.size wr) nq);have R:ah (iL wr.heap.size wr ((wr.drewN nq).alloc (iC #[I J y,I J F] 68))):=T.o.alloc (by have:=T.o.size;omega) _
         have OW:=af (bu t.o.1 R.o);have d0:=(T.o.cell (bh wr _ M)).trans M;have d1:=(T.o.cell (bh wr _ c0)).trans c0;have d2:=(T.o.cell (bh wr _ c1)).trans c1;have CN:=af (BL (wr.drewN nq) y F);have A:ah (n.heap.size<=((wr.drewN nq).alloc (iC #[I J y,I J F] 68)).heap.size):=by have:=t.o.2.size;have:=R.o.size;show _<=_;omega
         go_wp2_with (at_builtin;refine cN _ rfl _ _ 39 rfl n.heap.size 68 i0 (iA #[I J 0,I J 0]) 2 16 Tryz.underlying39 I0.o Y0.o Y1.o Y2.o rfl (by decide) _ _ _ rfl OW.o ⟨(wr.drewN nq).heap.size,0,O⟩ 1 1 [I J y,I J F] rfl rfl CN.o (Dl _ _) ?c1 ?c2 ?c3 ?_)
         case c1=>unfold maxLen;omega
         case c2=>omega
         case c3=>first|exact A.o|(have:=t.o.2.size;omega)
         intro u' z2 ho hg _;rw[Cj]at ho;have ON:ah (z2.ownsRow n.heap.size 68 2 u' (l++[(y,F)]).length (cn (l++[(y,F)]))/\iL n.heap.size n z2):=⟨by rw[aT];exact ho,(t.o.2.trans (R.o.mono t.o.2.size)).grown hg A.o (λq U=>(OW.o.lt q U).1)⟩
         have Q:(l++[(y,F)]).length<=B+1+(k+1):=by simp;omega
         generalize l++[(y,F)]=l2 at x ON Q;clear ho hg OW R T CN A t HL;go_wp2;go_roundw
         case rel=>exact⟨k+1,l2,by omega,by go_num,Q,x,ON⟩
         case measure=>simp[intOf];omega
        ·have hd:decide (d<y)=iF:=aV ht;have x:ah (l=l1++(s.fV.take (k+1)).filter (λv=>decide (d<v.1))):=by
          show _=_;rw[HF.o,HL.o,ai (by simpa using ht),eM]
         go_wp2;go_quiet (fail);have ON:ah ((wr.drewN nq).ownsRow n.heap.size 68 2 u9 l.length (cn l)/\iL n.heap.size n (wr.drewN nq)):=⟨bu t.o.1 (bI (ax wr.heap.size wr) nq),bI t.o.2 nq⟩;go_wp2;go_roundw
         case rel=>exact⟨k+1,l,by omega,by go_num,by omega,x,ON⟩
         case measure=>simp[intOf];omega
       ·have HE:ah (l=gG s.fV d q):=by
         show _=_;rw[HL.o,x.o,cm (by have:=N.o;omega),gG,fJ]
         rfl
        have hS:=aB.of t.o.1;obtain⟨la,lc,bg,-⟩:=hS.form;subst bg;have aq:=af (Dz t.o.1);have RB:ah (wr.heap[zb]?=X (iC #[Y ua ul uc,Y ub um ud,I J nx] 44 (0,0))):=(t.o.2.block zb (by have:=ZO.o;omega)).trans RO.o
        have aZ:ah (iL w.heap.size w wr):=EK.o.2.1;have av:ah (z+1+1<zb):=by have:=EC.o.lt;rw[aw.o]at this;exact this
        have a0:ah (w.heap.size=z):=EK.o.1;have aY:ah (n.heap.size<=wr.heap.size):=t.o.2.size;have r0:wr.cell? ⟨zb,0,O⟩=X (Y ua ul uc):=am _ _ 0 _ _ _ RB.o;have r1:wr.frozen? ⟨zb,0,O⟩=iF:=aL _ _ 0 _ _ RB.o;have RC:ah ((wr.setCell ⟨zb,0,O⟩ (Y la l.length lc)).heap[zb]?=X (iC #[Y la l.length lc,Y ub um ud,I J nx] 44 (0,0))):=bC _ _ 0 _ _ _ RB.o;have RD:ah ((wr.setCell ⟨zb,0,O⟩ (Y la l.length lc)).heap[z+1+1]?=X (iC #[Y O 0 0,Y O 0 0,I J 0] 44 (0,0))):=(aU _ _ _ _ (show z+1+1≠zb by have:=av.o;omega)).trans EK.o.2.2.2.2
        have FR:=af (n7 (a:=Y la l.length lc) (b:=Y ub um ud) (c:=I J nx) RD.o);have C:ah (tQ w (ft s ⟨m,d,i,P⟩) (G (iU #[iA #[Y la l.length lc,Y ub um ud,I J nx],iB iV])) ((((wr.setCell ⟨zb,0,O⟩ (Y la l.length lc)).setCell ⟨z+1+1,0,O⟩ (Y la l.length lc)).setCell ⟨z+1+1,1,O⟩ (Y ub um ud)).setCell ⟨z+1+1,2,O⟩ (I J nx))):=by
         have a1:=av.o;have a2:=a0.o;have a3:=aY.o;have a4:=ZO.o;have a5:=aS.o;have a6:=aW.o;have a7:=aw.o;have a8:=aR.o;have a9:=S.o.lt;have b1:(wr.setCell ⟨zb,0,O⟩ (Y la l.length lc)).heap.size=wr.heap.size:=by simp[World.setCell]
         rw[HY.o];refine⟨_,rfl,?_,⟨_,_,_,_,_,rfl,aq.o⟩⟩;rw[HE.o]at hS b1⊢;rw[<-aa.o];refine xP (s:=⟨gG s.fV d q,s.fK,s.next⟩) (lo1:=n.heap.size) (hi1:=wr.heap.size) (lo2:=lo2) (hi2:=hi2) (by omega) ?_ ?_ ⟨by omega,.inr (by omega)⟩ ⟨by omega,.inr (by omega)⟩ (by omega) (by omega) (.inr (by omega)) (aZ.o.setCell (p:=⟨zb,0,O⟩) (show w.heap.size<=zb by omega) _)
         ·exact aB.loc _ _ _ _ _ _ wr _ (λg g1 g2=>aU _ _ _ _ (show g≠zb by omega)) hS
         ·exact dt.loc _ _ _ _ wc _ (λg g1 g2=>(aU _ _ _ _ (show g≠zb by omega)).trans ((t.o.2.block g (by omega)).trans (BO.o.block g (by omega)))) aX.o
        have s0:=am _ _ 0 _ _ _ RC.o;have s1:=am _ _ 1 _ _ _ RC.o;have s2:=am _ _ 2 _ _ _ RC.o;have t0:=am _ _ 0 _ _ _ RD.o;have t1:=am _ _ 1 _ _ _ RD.o;have t2:=am _ _ 2 _ _ _ RD.o;have t3:=aL _ _ 0 _ _ RD.o;have t4:=aL _ _ 1 _ _ RD.o;have t5:=aL _ _ 2 _ _ RD.o;go_wp2;exact aF (kD (p:=4) (q:=5) rfl _ _ (z+1+1) _ _ _ rfl FR.o) rfl C.o
theorem o9 {p q:Tmp} (h:fn.results= #[.cell p 42,.tmp q]) (a:Array iX) (w:iW) (g:Nat) (v:iX)
 (e:a.getD p undef=iP (X ⟨g,0,O⟩)) (c:w.heap[g]?=X (iC #[v] 42 (0,0))):
 (results fn a).run Tryz.prog w=.ok (iU #[iA #[v],a.getD q undef]) w:=by
 have b:a[p]?.getD undef=iP (X ⟨g,0,O⟩):=by simpa using e
 have d:=lx (P:=Tryz.prog) w g 42 42 #[v] (0,0) _ c Tryz.underlying42 rfl Jj;simp[results,h,b,asAddr,d]
variable{hs hs':List nU}
theorem Tk.wcell{w a:iW}{hi b:Nat}{cs:Array iX}{t:TypeId}(h:Tk w a hs)(n:Nat)(r:hs[n]?=X (lo,hi,bZ b cs t))(o:w.heap.size<=b)(k:Nat)(u:iX)(q:∀x∈hs',x∈hs/\(x.2.1<=b∨b+1<=x.1)):
 Tk w (a.setCell ⟨b,k,O⟩ u) ((b,b+1,bZ b (cs.setIfInBounds k u) t)::hs'):=by
 have j:a.heap[b]?=X (iC cs t (0,0)):=h.get n r;have c:=(aJ.1 j).1;have l:(a.setCell ⟨b,k,O⟩ u).heap.size=a.heap.size:=by simp[World.setCell]
 refine⟨h.1.setCell (p:=⟨b,k,O⟩) o u,λx d=>?_⟩
 rcases bf.1 d with rfl|d
 ·exact⟨by rw[l];exact c,bZ.loc _ _ _,eo j k u⟩
 ·obtain⟨f,s⟩:=q x d;obtain⟨h1,i,m⟩:=h.2 x f;exact⟨by rw[l];exact h1,i,i a _ (λg g1 g2=>aU _ _ _ _ (λ(e:g=b)=>by omega)) m⟩
theorem Tk.wflt{w a:iW}{hi b:Nat}{xs:List iX}{t:TypeId}(h:Tk w a hs)(n:Nat)(j:hs[n]?=X (lo,hi,aN t b xs))(o:w.heap.size<=b)(k:Nat)(u:iX)(s:∀x∈hs',x∈hs/\(x.2.1<=b∨b+1<=x.1)):
 Tk w (a.setCell ⟨b,k,O⟩ u) ((b,b+1,aN t b (xs.set k u))::hs'):=by
 have r:aN t b xs a:=h.get n j;obtain⟨cs,q,-⟩:=r;have c:=(aJ.1 q).1;have l:(a.setCell ⟨b,k,O⟩ u).heap.size=a.heap.size:=by simp[World.setCell]
 refine⟨h.1.setCell (p:=⟨b,k,O⟩) o u,λx d=>?_⟩
 rcases bf.1 d with rfl|d
 ·exact⟨by rw[l];exact c,aN.loc _ _ _,aN.set (h.get n j) k u⟩
 ·obtain⟨f,v⟩:=s x d;obtain⟨h1,i,m⟩:=h.2 x f;exact⟨by rw[l];exact h1,i,i a _ (λg g1 g2=>aU _ _ _ _ (λ(e:g=b)=>by omega)) m⟩
variable{l:List Kn}
theorem xV{s n:Int}(h:lO l r s n=iF):gN l r s n=l/\jo l r s n=r:=by simp[gN,jo,h]
theorem yp{w w':iW}{s n:Int}{v:iX}(E:gN l r s n=l/\jo l r s n=r)(h:oG w l v w'):Bz w (gN l r s n) (jo l r s n) (G (iU #[v,I J r])) w':=by
 rw[E.1,E.2];exact⟨_,rfl,h⟩
theorem ct.app2 {W0 W y:iW} {v u':iX} {rs:List Kw} {i j:Kw} (h0:ct W0 B v rs) (C:iL W0.heap.size W0 W) (u:B<=W0.heap.size) (l:aB 3 W0.heap.size W.heap.size i.2.1 i.2.2.length (aE i.2.2) W) (r:i.2.2.length<=maxLen)
 (m:aB 3 W0.heap.size W.heap.size j.2.1 j.2.2.length (aE j.2.2) W) (s:j.2.2.length<=maxLen) (p:∀g,i.2.1.ownBlock=X g->j.2.1.ownBlock≠X g)
 (d:W.grownBy y v.ownBlock) (E:y.ownsRow B 205 2 u' (rs++[i,j]).length (dT (rs++[i,j]))):ct y B u' (rs++[i,j]):=by
 have h:=h0.below C;have D:=fQ h.1;have k:∀(t:iX) (g:Nat),v.ownBlock=X g->∀{lo hi n:Nat} {xs:List iX},aB 3 lo hi t n xs W->t.ownBlock≠X g:=by
  intro t g d lo hi n xs hs e;obtain⟨-,-,cs,q⟩:=D g d;obtain⟨-,-,w,q'⟩:=hs.lt g e;exact Ck q' q
 refine⟨E,?_,?_⟩
 ·intro x f;rcases br.1 f with f|f
  ·exact⟨((h.2.1 x f).1.grown d (λg e c=>k _ g c (h.2.1 x f).1 e)).up d.size,(h.2.1 x f).2⟩
  ·simp only[bf,dV,ez]at f;rcases f with rfl|rfl
   ·exact⟨((l.grown d (λg e c=>k _ g c l e)).dn u).up d.size,r⟩
   ·exact⟨((m.grown d (λg e c=>k _ g c m e)).dn u).up d.size,s⟩
 ·refine eW.2 ⟨h.2.2,?_,?_⟩
  ·simp only[gK,bT,forall_eq,dV,false_implies,implies_true,jY,List.Pairwise.nil];exact p
  ·intro a A b o g z c;have G:=((h0.2.1 a A).1.lt g z).2.1;simp only[bf,dV,ez]at o;rcases o with rfl|rfl
   ·have F:=(l.lt g c).1;omega
   ·have F:=(m.lt g c).1;omega
abbrev mx(g lb tb lk tk lc tc:Nat)(a:iX)(LK TK:List Int):List nU:=
 [(tb,tb+1,bZ tb #[iB iF,Y (X ⟨tk,0,O⟩) 4 tc] 205),(tk,tk+1,aN 3 tk (aE TK)),(lb,lb+1,bZ lb #[iB iV,Y (X ⟨lk,0,O⟩) 4 lc] 205),(lk,lk+1,aN 3 lk (aE LK)),(g,g+1,bZ g #[a] 42)]
structure ox (B g lb tb lk tk:Nat):Prop where
 g0:B<=g
 l0:g<lk
 t0:g<tk
 b0:g<lb
 c0:g<tb
 d1:lk≠tk
 d2:lk≠lb
 d3:lk≠tb
 d4:tk≠lb
 d5:tk≠tb
 d6:lb≠tb
theorem OB{b x:iW}{t:Nat}{a:iX}(U:Tk b x (mx g lb tb lk tk lc tc a LK TK))(d:ox b.heap.size g lb tb lk tk)(n:Int):
 Tk b (x.setCell ⟨lk,t,O⟩ (I J n)) (mx g lb tb lk tk lc tc a (LK.set t n) TK):=by
 obtain⟨o,p,q,c,e,f,i,j,k,l,m⟩:=d;have V:=U.wflt (hs':=[(tb,tb+1,bZ tb #[iB iF,Y (X ⟨tk,0,O⟩) 4 tc] 205),(tk,tk+1,aN 3 tk (aE TK)),(lb,lb+1,bZ lb #[iB iV,Y (X ⟨lk,0,O⟩) 4 lc] 205),(g,g+1,bZ g #[a] 42)]) 3 rfl (by omega) t (I J n) (λy hy=>by
  simp only[bf,dV,ez]at hy;rcases hy with rfl|rfl|rfl|rfl
  ·exact⟨by simp,by show tb+1<=lk∨lk+1<=tb;omega⟩
  ·exact⟨by simp,by show tk+1<=lk∨lk+1<=tk;omega⟩
  ·exact⟨by simp,by show lb+1<=lk∨lk+1<=lb;omega⟩
  ·exact⟨by simp,by show g+1<=lk∨lk+1<=g;omega⟩)
 rw[GW]at V;exact V.drop (λy hy=>by
  simp only[bf,dV,ez]at hy⊢;rcases hy with h|h|h|h|h<;>simp[h])
theorem QY{b x:iW}{t:Nat}{a:iX}(U:Tk b x (mx g lb tb lk tk lc tc a LK TK))(d:ox b.heap.size g lb tb lk tk)(n:Int):
 Tk b (x.setCell ⟨tk,t,O⟩ (I J n)) (mx g lb tb lk tk lc tc a LK (TK.set t n)):=by
 obtain⟨o,p,q,c,e,f,i,j,k,l,m⟩:=d;have V:=U.wflt (hs':=[(tb,tb+1,bZ tb #[iB iF,Y (X ⟨tk,0,O⟩) 4 tc] 205),(lb,lb+1,bZ lb #[iB iV,Y (X ⟨lk,0,O⟩) 4 lc] 205),(lk,lk+1,aN 3 lk (aE LK)),(g,g+1,bZ g #[a] 42)]) 1 rfl (by omega) t (I J n) (λy hy=>by
  simp only[bf,dV,ez]at hy;rcases hy with rfl|rfl|rfl|rfl
  ·exact⟨by simp,by show tb+1<=tk∨tk+1<=tb;omega⟩
  ·exact⟨by simp,by show lb+1<=tk∨tk+1<=lb;omega⟩
  ·exact⟨by simp,by show lk+1<=tk∨tk+1<=lk;omega⟩
  ·exact⟨by simp,by show g+1<=tk∨tk+1<=g;omega⟩)
 rw[GW]at V;exact V.drop (λy hy=>by
  simp only[bf,dV,ez]at hy⊢;rcases hy with h|h|h|h|h<;>simp[h])
structure P9 (x y y2:iW) (g lb tb lk tk lc tc t q:Nat) (uv:iX):Prop where
 a1:x.cell? ⟨lb,1,O⟩=X (Y (X ⟨lk,0,O⟩) 4 lc)
 a2:∃u:Int,x.cell? ⟨lk,t,O⟩=X (I J u)
 a3:x.frozen? ⟨lk,t,O⟩=iF
 a4:y.cell? ⟨tb,1,O⟩=X (Y (X ⟨tk,0,O⟩) 4 tc)
 a5:y.cell? ⟨g,0,O⟩=X uv
 a6:∃u:Int,y.cell? ⟨tk,q,O⟩=X (I J u)
 a7:y.frozen? ⟨tk,q,O⟩=iF
 a8:y2.cell? ⟨g,0,O⟩=X uv
 b1:y2.cell? ⟨lb,0,O⟩=X (iB iV)
 b2:y2.cell? ⟨lb,1,O⟩=X (Y (X ⟨lk,0,O⟩) 4 lc)
 b3:y2.cell? ⟨tb,0,O⟩=X (iB iF)
 b4:y2.cell? ⟨tb,1,O⟩=X (Y (X ⟨tk,0,O⟩) 4 tc)
theorem Ag{e x:iW}{t:Nat}{c:iX}(U:Tk e x (mx g lb tb lk tk lc tc c LK TK))(d:ox e.heap.size g lb tb lk tk)(h:LK.length=4)(i:TK.length=4)(k:t<4)(j:q<4)(n m:Int):
 P9 x (x.setCell ⟨lk,t,O⟩ (I J n)) ((x.setCell ⟨lk,t,O⟩ (I J n)).setCell ⟨tk,q,O⟩ (I J m)) g lb tb lk tk lc tc t q c/\
 Tk e ((x.setCell ⟨lk,t,O⟩ (I J n)).setCell ⟨tk,q,O⟩ (I J m)) (mx g lb tb lk tk lc tc c (LK.set t n) (TK.set q m)):=by
 have V:=OB (t:=t) U d n;have a:=QY (t:=q) V d m;have f:aN 3 lk (aE LK) x:=U.get 3 rfl;have b:aN 3 tk (aE TK) (x.setCell ⟨lk,t,O⟩ (I J n)):=V.get 1 rfl;exact⟨⟨U.at 2 1 rfl rfl,⟨_,f.cell (lJ (ay (by omega)))⟩,f.frozen t,V.at 0 1 rfl rfl,V.at 4 0 rfl rfl,⟨_,b.cell (lJ (ay (by omega)))⟩,b.frozen q,a.at 4 0 rfl rfl,a.at 2 0 rfl rfl,a.at 2 1 rfl rfl,a.at 0 0 rfl rfl,a.at 0 1 rfl rfl⟩,a⟩
theorem DL(W:iW){E:Nat}(b:W.heap.size=E)(v u:iX):∀(j:Nat) (x:iX),[iB iV,v,iB iF,u][j]?=X x->(W.alloc (iC #[iB iV,v,iB iF,u] 205)).cell? ((⟨E,0,O⟩:Addr).add j)=X x:=by
 subst b;intro j x a
 match j,a with
 |0,a|1,a|2,a|3,a=>
  simp at a;subst a;simp[Addr.add]
theorem zl(a b:Option Addr)(n c m d:Nat):∀u∈ [iB iV,Y a n c,iB iF,Y b m d],u.oneCell'=iV:=by
 intro u e;simp at e;rcases e with h|h|h|h<;>subst h<;>rfl
structure Pk (w:iW) (z g:Nat) (u2:iX) (L:List Kn) (y:iW):Prop where
 e1:∃v,y.cell? ⟨g,0,O⟩=X v
 e2:y.frozen? ⟨g,0,O⟩=iF
 e3:(y.setCell ⟨g,0,O⟩ u2).cell? ⟨z+1,0,O⟩=X (Y O 0 0)
 e4:(y.setCell ⟨g,0,O⟩ u2).frozen? ⟨z+1,0,O⟩=iF
 e5:(y.setCell ⟨g,0,O⟩ u2).cell? ⟨g,0,O⟩=X u2
 e8:((y.setCell ⟨g,0,O⟩ u2).setCell ⟨z+1,0,O⟩ u2).cell? ⟨g,0,O⟩=X u2
 e6:((y.setCell ⟨g,0,O⟩ u2).setCell ⟨z+1,0,O⟩ u2).drew.heap[z+1]?=X (iC #[u2] 42 (0,0))
 e7:oG w L (iA #[u2]) ((y.setCell ⟨g,0,O⟩ u2).setCell ⟨z+1,0,O⟩ u2).drew
theorem yV {w j q y:iW} {o b:iX} {ss:List Kw} {h i:List Int} {L:List Kn} (P:w.heap.size=z) (T:Tk w j hs) (I:hs[0]?=X (z+1,z+1+1,bZ (z+1) #[Y O 0 0] 42))
 (x:ct j B o ss) (N:B=z+1+1) (r:B<=j.heap.size) (V:Tk j q (mx g lb tb lk tk lc tc o h i)) (d:ox j.heap.size g lb tb lk tk) (m:h.length=4) (n:i.length=4)
 (H:L=ss.map aG++[⟨iV,h⟩,⟨iF,i⟩])
 (K:y.ownsRow B 205 2 b (ss.length+2) (dT ss++[iB iV,Y (X ⟨lk,0,O⟩) 4 lc,iB iF,Y (X ⟨tk,0,O⟩) 4 tc]))
 (g2:(q.alloc (iC #[iB iV,Y (X ⟨lk,0,O⟩) 4 lc,iB iF,Y (X ⟨tk,0,O⟩) 4 tc] 205)).grownBy y o.ownBlock):Pk w z g b L y:=by
 have BA:=aO q (iC #[iB iV,Y (X ⟨lk,0,O⟩) 4 lc,iB iF,Y (X ⟨tk,0,O⟩) 4 tc] 205);have a:=V.below BA;generalize q.alloc (iC #[iB iV,Y (X ⟨lk,0,O⟩) 4 lc,iB iF,Y (X ⟨tk,0,O⟩) 4 tc] 205)=f at BA a g2;have J:=d.g0;have s:g<f.heap.size:=by have:g+1<=f.heap.size:=a.hi 4 rfl;omega
 have v:∀k,o.ownBlock=X k->B<=k/\k<j.heap.size:=λk t=>iq x.1 k t
 have l:y.heap[g]?=X (iC #[o] 42 (0,0)):=(g2.block g s (λe=>by have:=(v g e.symm).2;omega)).trans (a.get 4 rfl)
 have C:y.heap[z+1]?=X (iC #[Y O 0 0] 42 (0,0)):=by
  refine(g2.block (z+1) (by omega) (λe=>by have:=(v (z+1) e.symm).1;omega)).trans ?_
  exact(a.1.block (z+1) (by omega)).trans (T.get 0 I)
 have c:(y.setCell ⟨g,0,O⟩ b).heap[z+1]?=X (iC #[Y O 0 0] 42 (0,0)):=dC C (by omega) _ _
 have G:ct y B b (ss++[(iV,Y (X ⟨lk,0,O⟩) 4 lc,h),(iF,Y (X ⟨tk,0,O⟩) 4 tc,i)]):=by
  have D:aN 3 lk (aE h) f:=a.get 3 rfl;have E:aN 3 tk (aE i) f:=a.get 1 rfl;have Q:lk+1<=f.heap.size:=a.hi 3 rfl;have R:tk+1<=f.heap.size:=a.hi 1 rfl;have S:=d.l0;have U:=d.t0;refine x.app2 a.1 r ?_ ?_ ?_ ?_ ?_ g2 ?_
  ·exact Or.inr ⟨lk,lc,by simp only[m],by omega,by omega,D⟩
  ·simp only[m];unfold maxLen;omega
  ·exact Or.inr ⟨tk,tc,by simp only[n],by omega,by omega,E⟩
  ·simp only[n];unfold maxLen;omega
  ·intro k h1 F;have M:=d.d1;simp[Value.ownBlock]at h1 F;omega
  ·rw[IB,aT];exact K
 have u:w.heap.size<=f.heap.size:=bR T.1.size a.1.size;have A:iL w.heap.size w y:=(T.1.trans (a.1.mono T.1.size)).grown g2 u (λk t=>by have:=(v k t).1;omega)
 refine⟨⟨_,am _ _ 0 _ _ _ l⟩,aL _ _ 0 _ _ l,am _ _ 0 _ _ _ c,aL _ _ 0 _ _ c,am _ _ 0 _ _ _ (eo l 0 b),am _ _ 0 _ _ _ (dC (eo l 0 b) (by omega) 0 b),eo c 0 b,?_⟩
 refine⟨b,ss++[(iV,Y (X ⟨lk,0,O⟩) 4 lc,h),(iF,Y (X ⟨tk,0,O⟩) 4 tc,i)],rfl,?_,?_,?_⟩
 ·exact(((G.cell l 0 b).cell c 0 b).below (ax _ _).drew).down (by omega)
 ·rw[H,dB];rfl
 ·exact((A.setCell (p:=⟨g,0,O⟩) (by show w.heap.size<=g;omega) _).setCell (p:=⟨z+1,0,O⟩) (by show w.heap.size<=z+1;omega) _).drew
theorem Dw{w w':iW}{b:List Kn}{n m:Int}{a:Nat}{A B:Kn}{v:iX}(h:lO l r (a:Int) n=iV)(e:gS l r a n=A/\gY l r a=B)(d:m=(l.length:Int)+1)(c:b=l)(k:oG w (b++[A,B]) v w'):
 Bz w (gN l r (a:Int) n) (jo l r (a:Int) n) (G (iU #[v,I J m])) w':=by
 obtain⟨rfl,rfl⟩:=e;subst c d;rw[gN,jo,aj h,aj h,aZ];exact⟨_,rfl,k⟩
theorem yL(a:iW){E:Nat}(b:a.heap.size=E):(a.alloc (iC #[] 3)).ownsRow E 3 1 (Y (X ⟨E,0,O⟩) 0 0) 0 []:=by
 subst b;exact⟨rfl,.inr ⟨a.heap.size,0,#[],rfl,ak _,az a _,ak _,by unfold maxLen;omega,rfl,rfl⟩⟩
theorem Hh{g a b:iW}{E:Nat}{v:iX}{ls:List Int}(U:Tk g a hs)(j:a.heap.size=E)(f:b.ownsRow E 3 1 v 4 (aE ls))(g1:(a.alloc (iC #[] 3)).grownBy b (X E)):
 ∃tk c,v=Y (X ⟨tk,0,O⟩) 4 c/\E<=tk/\Tk g b ((tk,tk+1,aN 3 tk (aE ls))::hs):=by
 obtain⟨l,vc,d,e⟩:=(aB.of f).form;obtain⟨tk,rfl,h1,h⟩:=e (by omega)
 subst d;have B:iL a.heap.size a b:=((ax a.heap.size a).alloc (ak _) _).grown g1 ((ax a.heap.size a).alloc (ak _) _).size (λk i=>by cases i;omega)
 exact⟨tk,vc,rfl,h1,(U.below B).put h (aN.loc _ _ _) (aB.of f).flt⟩
theorem VK{f x:iW}{b a:Nat}{e:iX}{c:List Int}(U:Tk f x ((tk,tk+1,aN 3 tk (aE TK))::mx g lb tb lk b lc a e LK c))(d:ox f.heap.size g lb tb lk tk):
 x.cell? ⟨tb,1,O⟩=X (Y (X ⟨b,0,O⟩) 4 a)/\x.frozen? ⟨tb,1,O⟩=iF/\Tk f (x.setCell ⟨tb,1,O⟩ (Y (X ⟨tk,0,O⟩) 4 tc)) (mx g lb tb lk tk lc tc e LK TK):=by
 obtain⟨p,q,r,h,i,j,k,l,m,n,o⟩:=d;have V:=U.wcell (hs':=[(tk,tk+1,aN 3 tk (aE TK)),(lb,lb+1,bZ lb #[iB iV,Y (X ⟨lk,0,O⟩) 4 lc] 205),(lk,lk+1,aN 3 lk (aE LK)),(g,g+1,bZ g #[e] 42)]) 1 rfl (by omega) 1 (Y (X ⟨tk,0,O⟩) 4 tc) (λy hy=>by
  simp only[bf,dV,ez]at hy;rcases hy with rfl|rfl|rfl|rfl
  ·exact⟨by simp,by show tk+1<=tb∨tb+1<=tk;omega⟩
  ·exact⟨by simp,by show lb+1<=tb∨tb+1<=lb;omega⟩
  ·exact⟨by simp,by show lk+1<=tb∨tb+1<=lk;omega⟩
  ·exact⟨by simp,by show g+1<=tb∨tb+1<=g;omega⟩)
 exact⟨U.at 1 1 rfl rfl,U.fr 1 1 rfl,V⟩
theorem Xz{f x:iW}{b a:Nat}{e:iX}{c:List Int}(U:Tk f x ((lk,lk+1,aN 3 lk (aE LK))::mx g lb tb b tk a tc e c TK))(d:ox f.heap.size g lb tb lk tk):
 x.cell? ⟨lb,1,O⟩=X (Y (X ⟨b,0,O⟩) 4 a)/\x.frozen? ⟨lb,1,O⟩=iF/\Tk f (x.setCell ⟨lb,1,O⟩ (Y (X ⟨lk,0,O⟩) 4 lc)) (mx g lb tb lk tk lc tc e LK TK):=by
 obtain⟨q,r,s,i,j,k,l,m,n,o,p⟩:=d;have V:=U.wcell (hs':=[(tb,tb+1,bZ tb #[iB iF,Y (X ⟨tk,0,O⟩) 4 tc] 205),(tk,tk+1,aN 3 tk (aE TK)),(lk,lk+1,aN 3 lk (aE LK)),(g,g+1,bZ g #[e] 42)]) 3 rfl (by omega) 1 (Y (X ⟨lk,0,O⟩) 4 lc) (λy hy=>by
  simp only[bf,dV,ez]at hy;rcases hy with rfl|rfl|rfl|rfl
  ·exact⟨by simp,by show tb+1<=lb∨lb+1<=tb;omega⟩
  ·exact⟨by simp,by show tk+1<=lb∨lb+1<=tk;omega⟩
  ·exact⟨by simp,by show lk+1<=lb∨lb+1<=lk;omega⟩
  ·exact⟨by simp,by show g+1<=lb∨lb+1<=g;omega⟩)
 exact⟨U.at 3 1 rfl rfl,U.fr 3 1 rfl,V.drop (λy hy=>by
  simp only[bf,dV,ez]at hy⊢;rcases hy with h|h|h|h|h<;>simp[h])⟩
def sw(w:iW)(L:List Kn)(R:List Int)(e:Ending)(w':iW):Prop:=
 ∃b a lo1 hi1 lo2 hi2,e=G (iU #[iA #[b],a])/\dt lo1 hi1 b L w'/\aB 3 lo2 hi2 a R.length (aE R) w'/\w.heap.size<=lo1/\hi1<=w'.heap.size/\w.heap.size<=lo2/\hi2<=w'.heap.size/\(hi1<=lo2∨hi2<=lo1)/\iL w.heap.size w w'
def VZ(f:Nat):Prop:=∀(ad:Option Addr) (a cap:Nat) (rs:List Kw) (b:Option Addr) (m c:Nat) (qs:List Int) (w:iW),a<=1048578->m<=1048576->(∀r∈rs,r.2.2.length<=1048576)->eH w ad a rs->(b=O->c=0)->gR w b m qs->
 iK Tryz.prog f #[iA #[Y ad a cap],Y b m c] w (sw w (jp (rs.map aG) qs) (mr (rs.map aG) qs))
theorem Tk.fset{w b:iW}{t:TypeId}{xs:List iX}(T:Tk w b hs)(n:Nat)(a:hs[n]?=X (g,g+1,aN t g xs))(c:w.heap.size<=g)(k:Nat)(u:iX)(d:∀x∈hs',x∈hs/\(x.2.1<=g∨g+1<=x.1)):Tk w (b.setCell ⟨g,k,O⟩ u) ((g,g+1,aN t g (xs.set k u))::hs'):=by
 refine T.touch ⟨rfl,rfl,rfl,by simp[World.setCell],λi _ hi=>?_⟩ c (T.hi n a) (aN.loc _ _ _) ((T.get n a).set k u) d
 exact aU _ _ _ _ (show i≠g by unfold zP at hi;omega)
theorem Tk.grownB{w b y:iW}{row:Option Nat}(T:Tk w b hs)(a:b.grownBy y row)(d:∀q,row=X q->B<=q)(h:w.heap.size<=B)(i:∀x∈hs,x.2.1<=B):Tk w y hs:=by
 refine⟨T.1.grown a T.1.size (λq j=>bR h (d q j)),λx f=>?_⟩
 obtain⟨h1,c,g⟩:=T.2 x f;have:=i x f;have:=a.size;exact⟨by omega,c,c b y (λq k l=>a.block q (by omega) (λe=>by have:=d q e.symm;omega)) g⟩
theorem aB.setAt{t:TypeId}{hi:Nat}{xs:List iX}{w:iW}(h:aB t lo hi (Y (X ⟨g,0,O⟩) n cap) n xs w)(k:Nat)(u:iX):aB t lo hi (Y (X ⟨g,0,O⟩) n cap) n (xs.set k u) (w.setCell ⟨g,k,O⟩ u):=by
 have a:=h.lt g rfl;exact .inr ⟨g,cap,rfl,a.1,a.2.1,h.flt.set k u⟩
end Go.Proofs.YtijmbohadndfmaaGreatDoor
