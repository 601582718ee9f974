/-
  LawMdF; OpVl; OpKn; OpSto; OpDv; Vars
-/
import Derived.Test.YtiicghepilbgfaaGreatDoorPk39
import Derived.Test.YtiicghepilbgfaaGreatDoorLawMd
import Derived.Test.YtiicghepilbgfaaGreatDoorPk11
import Derived.ProofKit
import Derived.OpenShut
import Derived.ShutString
import Derived.Deep.Strs
import Derived.Deep.Slices
import Derived.Test.YtiicghepilbgfaaGreatDoorPk2
import Derived.Test.YtiicghepilbgfaaGreatDoorPk44
import Derived.Test.YtiicghepilbgfaaGreatDoorPk0
import Derived.ChangeVars
set_option maxRecDepth 100000
namespace Go.Proofs.YtiicghepilbgfaaGreatDoor
open Go.RowKit
open Words Sums Pack
theorem imodC:lawMdC 12:=fun x d _ _ w h hh ho hv=>imodelD x d w (h.rd hh ho.fit) hv
theorem lawMd_card(fa:Option Addr)(n fc:Nat)(va:Option Addr)(vl vc:Nat)(ad:Option Addr)(len cap:Nat)(nx sq tx bs:Int)(rs:List Rw)(vs:List (Int×Int))(kr:List Kw){w:World}(hb:BkRow w fa n rs)(hvl:VlRow w va vl vs)(hk:KnRd w ad len kr)(_:World)(hv:HalvIn w):
 Calls Tryz.prog 4 #[.agg #[.slice fa n fc,.slice va vl vc,.slice ad len cap,.int .i64 nx,.int .i64 sq,.int .i64 tx,.int .i64 bs]] w fun e w'=>e=.returned (.bool true)∧Below w.heap.size w w':=
 lawMd_of fa n fc rs va vl vc vs ad len cap kr nx sq tx bs w hv hb hvl hk imodC
end Go.Proofs.YtiicghepilbgfaaGreatDoor
namespace Go.Proofs.YtiicghepilbgfaaGreatDoor
open Go.ChangeShapes Go.WideShapes Go.ChangeAt Go.RowKit Go.Deep
section
variable {H : Type} {enc : TypeId × Value → H} {w : World} {base : Nat} {sp : Nat → Bool} {held : Bool}
theorem cells3Vl:Tryz.prog.cellsOf 3=1:=by kernel_rfl
theorem cellsVl:Tryz.prog.cellsOf 142=2:=by kernel_rfl
theorem addrVl(b off j:Nat):(⟨b,off,none⟩:Addr).add j=⟨b,off+j,none⟩:=by
 simp only[Addr.add];split<;>simp_all
theorem trodVl{P:Program}{t:TypeId}{f0 f1:Field}{fuel:Nat}{cs:List Value}{x:DataW H×List MemPlace}(ht:P.underlying t=some (.struct #[f0,f1]))(h:DataW.trod enc P w base sp held fuel t cs=some x):
 ∃y0 y1 n,DataW.trod enc P w base sp held n f0.type ((cs.drop f0.offset).take (P.cellsOf f0.type))=some y0∧DataW.trod enc P w base sp held n f1.type ((cs.drop f1.offset).take (P.cellsOf f1.type))=some y1:=by
 obtain⟨xs,n,_,rfl,hl,hlen,hf⟩:=DataW.trod_struct ht h
 match xs,hlen with
 | [y0,y1],_=>exact⟨y0,y1,n,by simpa using hf 0 f0 rfl,by simpa using hf 1 f1 rfl⟩
theorem open_vls{a:Option Addr}{len cap:Nat}{d:DataW H}{ps:List MemPlace}(hd:DataW.Trod enc Tryz.prog w base sp held 36 (.slice a len cap) d ps):∃ls,VlRow w a len ls:=by
 obtain⟨fuel,hf⟩:=hd;rcases open_slice Tryz.underlying36 hf with⟨hcs,_⟩|⟨x,l,c,m,n,D,Pl,hcs,_,hl,hm,hmm,_,hx⟩
 ·simp[Value.cells]at hcs;obtain⟨rfl,rfl,rfl⟩:=hcs;exact⟨[],rfl,by omega,by simp,fun h=>by omega⟩
 ·simp[Value.cells]at hcs;obtain⟨rfl,rfl,rfl⟩:=hcs;have hlm:len≤m:=by rw[hmm];split<;>omega
  have each:∀i,i<len→∃t:Int×Int,w.cell? (x.add (i*2))=some (.int .i64 t.1)∧w.cell? (x.add (i*2+1))=some (.int .i64 t.2)∧True:=by
   intro i hi;obtain⟨cs,h1,h2⟩:=hx i (by omega)
   rw[cellsVl]at h1;obtain⟨_,hlen,hcell⟩:=World.cells?_some h1;obtain⟨y0,y1,k,g0,g1⟩:=trodVl Tryz.underlying142 h2;simp only[cells3Vl]at g0 g1
   match cs,hlen with
   | [u0,u1],_=>
    obtain⟨k0,e0,-,-⟩:=DataW.trod_int Tryz.underlying3 g0;obtain⟨k1,e1,-,-⟩:=DataW.trod_int Tryz.underlying3 g1;simp at e0 e1;subst e0 e1;have f0:=hcell 0 (by simp)
    have f1:=hcell 1 (by simp)
    rw[add_add]at f0 f1;exact⟨(k0,k1),by simpa using f0,by simpa using f1,trivial⟩
  obtain⟨f,hq⟩:=choose_lt each;refine⟨(List.range len).map f,by simp,by omega,?_,fun h0=>?_⟩
  ·intro t ht;obtain⟨i,hi,rfl⟩:=List.mem_map.1 ht;exact(hq i (List.mem_range.1 hi)).2.2
  ·obtain⟨b,off,spot⟩:=x;have hspot:spot=none:=by simpa[Addr.add]using World.cell?_spot (hq 0 h0).1
   subst hspot;refine⟨b,off,rfl,?_,fun i t hi=>?_⟩
   ·have:=World.block_lt_of_cell? w _ (hq 0 h0).1;rw[addrVl]at this;exact this
   ·obtain⟨hi1,hi2⟩:=List.getElem?_eq_some_iff.1 hi;have hil:i<len:=by simpa using hi1
    have ht:t=f i:=by rw[←hi2];simp
    subst ht;have:=hq i hil;rw[addrVl,addrVl]at this;exact⟨this.1,this.2.1⟩
end
section
variable {H : Type} {enc : TypeId × Value → H} {w : World} {base : Nat} {sp : Nat → Bool} {held : Bool}
theorem kcells3:Tryz.prog.cellsOf 3=1:=by kernel_rfl
theorem kcells4:Tryz.prog.cellsOf 4=1:=by kernel_rfl
theorem kcellsIs:Tryz.prog.cellsOf 160=1:=by kernel_rfl
theorem kcellsKn:Tryz.prog.cellsOf 162=2:=by kernel_rfl
theorem kaddr(b off j:Nat):(⟨b,off,none⟩:Addr).add j=⟨b,off+j,none⟩:=by
 simp only[Addr.add];split<;>simp_all
theorem trodKn2{P:Program}{t:TypeId}{f0 f1:Field}{fuel:Nat}{cs:List Value}{x:DataW H×List MemPlace}(ht:P.underlying t=some (.struct #[f0,f1]))(h:DataW.trod enc P w base sp held fuel t cs=some x):
 ∃y0 y1 n,DataW.trod enc P w base sp held n f0.type ((cs.drop f0.offset).take (P.cellsOf f0.type))=some y0∧DataW.trod enc P w base sp held n f1.type ((cs.drop f1.offset).take (P.cellsOf f1.type))=some y1:=by
 obtain⟨xs,n,_,rfl,hl,hlen,hf⟩:=DataW.trod_struct ht h
 match xs,hlen with
 | [y0,y1],_=>exact⟨y0,y1,n,by simpa using hf 0 f0 rfl,by simpa using hf 1 f1 rfl⟩
theorem trodAr1{P:Program}{t:TypeId}{f0:Field}{fuel:Nat}{cs:List Value}{x:DataW H×List MemPlace}(ht:P.underlying t=some (.struct #[f0]))(h:DataW.trod enc P w base sp held fuel t cs=some x):
 ∃y0 n,DataW.trod enc P w base sp held n f0.type ((cs.drop f0.offset).take (P.cellsOf f0.type))=some y0:=by
 obtain⟨xs,n,_,rfl,hl,hlen,hf⟩:=DataW.trod_struct ht h
 match xs,hlen with
 | [y0],_=>exact⟨y0,n,by simpa using hf 0 f0 rfl⟩
theorem open_isl{v:Value}{fuel:Nat}{y:DataW H×List MemPlace}(hf:DataW.trod enc Tryz.prog w base sp held fuel 160 [v]=some y):∃ls,ISl w v ls:=by
 rcases open_slice Tryz.underlying160 hf with⟨hcs,_⟩|⟨x,len,c,m,n,D,Pl,hcs,h1,hl,hm,hmm,h2,hx⟩
 ·simp at hcs;subst hcs;exact⟨[],none,0,rfl,fun _=>rfl,rfl,by unfold maxLen;simp,fun h=>by simp at h⟩
 ·simp at hcs;subst hcs;have hlm:len≤m:=by rw[hmm];split<;>omega
  have each:∀i,i<len→∃t:Int,w.cell? (x.add i)=some (.int .i64 t):=by
   intro i hi;obtain⟨cs,h1,h2⟩:=hx i (by omega)
   rw[kcells3]at h1;obtain⟨_,hlen,hcell⟩:=World.cells?_some h1;obtain⟨k0,e0,-,-⟩:=DataW.trod_int Tryz.underlying3 h2;subst e0;have f0:=hcell 0 (by simp)
   rw[add_add]at f0;exact⟨k0,by simpa using f0⟩
  obtain⟨f,hq⟩:=choose_lt each;refine⟨(List.range len).map f,some x,c,by simp,(fun e=>by cases e),by simp,by simpa using by omega,fun h0=>?_⟩
  rw[List.length_map,List.length_range]at h0;obtain⟨b,off,spot⟩:=x;have hspot:spot=none:=by simpa[Addr.add]using World.cell?_spot (hq 0 h0)
  subst hspot;refine⟨b,off,rfl,?_,fun i t hi=>?_⟩
  ·have:=World.block_lt_of_cell? w _ (hq 0 h0);rw[kaddr]at this;exact this
  ·obtain⟨hi1,hi2⟩:=List.getElem?_eq_some_iff.1 hi;have hil:i<len:=by simpa using hi1
   have ht:t=f i:=by rw[←hi2];simp
   subst ht;have:=hq i hil;rw[kaddr]at this;exact this
theorem open_kns{v:Value}{fuel:Nat}{y:DataW H×List MemPlace}(hf:DataW.trod enc Tryz.prog w base sp held fuel 37 [v]=some y):∃a len cap rs,v=.slice a len cap∧KnRd w a len rs:=by
 rcases open_slice Tryz.underlying37 hf with⟨hcs,_⟩|⟨x,len,c,m,n,D,Pl,hcs,_,hl,hm,hmm,_,hx⟩
 ·simp at hcs;subst hcs;exact⟨none,0,0,[],rfl,rfl,by omega,(fun _ h=>by cases h),fun h=>by omega⟩
 ·simp at hcs;subst hcs;have hlm:len≤m:=by rw[hmm];split<;>omega
  have each:∀i,i<len→∃t:Kw,w.cell? (x.add (i*2))=some (.bool t.1)∧w.cell? (x.add (i*2+1))=some t.2.1∧ISl w t.2.1 t.2.2:=by
   intro i hi;obtain⟨cs,h1,h2⟩:=hx i (by omega)
   rw[kcellsKn]at h1;obtain⟨_,hlen,hcell⟩:=World.cells?_some h1;obtain⟨y0,y1,k,g0,g1⟩:=trodKn2 Tryz.underlying162 h2;simp only[kcells4,kcellsIs]at g0 g1
   match cs,hlen with
   | [u0,u1],_=>
    obtain⟨k0,e0,_⟩:=DataW.trod_bool Tryz.underlying4 g0;simp at e0;subst e0;obtain⟨ls,hls⟩:=open_isl (v:=u1) (by simpa using g1)
    have f0:=hcell 0 (by simp)
    have f1:=hcell 1 (by simp)
    rw[add_add]at f0 f1;exact⟨(k0,u1,ls),by simpa using f0,by simpa using f1,hls⟩
  haveI:Inhabited Kw:=⟨(false,.slice none 0 0,[])⟩
  obtain⟨f,hq⟩:=choose_lt each;refine⟨some x,len,c,(List.range len).map f,rfl,by simp,by omega,?_,fun h0=>?_⟩
  ·intro t ht;obtain⟨i,hi,rfl⟩:=List.mem_map.1 ht;exact(hq i (List.mem_range.1 hi)).2.2
  ·obtain⟨b,off,spot⟩:=x;have hspot:spot=none:=by simpa[Addr.add]using World.cell?_spot (hq 0 h0).1
   subst hspot;refine⟨b,off,rfl,?_,fun i t hi=>?_⟩
   ·have:=World.block_lt_of_cell? w _ (hq 0 h0).1;rw[kaddr]at this;exact this
   ·obtain⟨hi1,hi2⟩:=List.getElem?_eq_some_iff.1 hi;have hil:i<len:=by simpa using hi1
    have ht:t=f i:=by rw[←hi2];simp
    subst ht;have:=hq i hil;rw[kaddr,kaddr]at this;exact⟨this.1,this.2.1⟩
end
section
variable {H : Type} {enc : TypeId × Value → H} {w : World} {base : Nat} {sp : Nat → Bool} {held : Bool}
theorem trodSt3{P:Program}{t:TypeId}{f0 f1 f2:Field}{fuel:Nat}{cs:List Value}{x:DataW H×List MemPlace}(ht:P.underlying t=some (.struct #[f0,f1,f2]))(h:DataW.trod enc P w base sp held fuel t cs=some x):
 ∃y0 y1 y2 n,DataW.trod enc P w base sp held n f0.type ((cs.drop f0.offset).take (P.cellsOf f0.type))=some y0∧DataW.trod enc P w base sp held n f1.type ((cs.drop f1.offset).take (P.cellsOf f1.type))=some y1∧DataW.trod enc P w base sp held n f2.type ((cs.drop f2.offset).take (P.cellsOf f2.type))=some y2:=by
 obtain⟨xs,n,_,rfl,hl,hlen,hf⟩:=DataW.trod_struct ht h
 match xs,hlen with
 | [y0,y1,y2],_=>exact⟨y0,y1,y2,n,by simpa using hf 0 f0 rfl,by simpa using hf 1 f1 rfl,by simpa using hf 2 f2 rfl⟩
end
section
variable {H : Type} {enc : TypeId × Value → H} {w : World} {base : Nat} {sp : Nat → Bool} {held : Bool}
theorem trodSt5{P:Program}{t:TypeId}{f0 f1 f2 f3 f4:Field}{fuel:Nat}{cs:List Value}{x:DataW H×List MemPlace}(ht:P.underlying t=some (.struct #[f0,f1,f2,f3,f4]))(h:DataW.trod enc P w base sp held fuel t cs=some x):
 ∃y0 y1 y2 y3 y4 n,DataW.trod enc P w base sp held n f0.type ((cs.drop f0.offset).take (P.cellsOf f0.type))=some y0∧DataW.trod enc P w base sp held n f1.type ((cs.drop f1.offset).take (P.cellsOf f1.type))=some y1∧DataW.trod enc P w base sp held n f2.type ((cs.drop f2.offset).take (P.cellsOf f2.type))=some y2∧DataW.trod enc P w base sp held n f3.type ((cs.drop f3.offset).take (P.cellsOf f3.type))=some y3∧DataW.trod enc P w base sp held n f4.type ((cs.drop f4.offset).take (P.cellsOf f4.type))=some y4:=by
 obtain⟨xs,n,_,rfl,hl,hlen,hf⟩:=DataW.trod_struct ht h
 match xs,hlen with
 | [y0,y1,y2,y3,y4],_=>exact⟨y0,y1,y2,y3,y4,n,by simpa using hf 0 f0 rfl,by simpa using hf 1 f1 rfl,by simpa using hf 2 f2 rfl,by simpa using hf 3 f3 rfl,by simpa using hf 4 f4 rfl⟩
theorem open_device{r:Reach}{b0:Nat}{v:Value}{d:DataW H}{ps:List MemPlace}(hval:Value.okWide Tryz.prog w r b0 43 v)(hd:DataW.Trod enc Tryz.prog w base sp held 43 v d ps):
 ∃fa n fc va vl vc ad len cap nx sq tx bs rs vs kr,v=.agg #[.slice fa n fc,.slice va vl vc,.slice ad len cap,.int .i64 nx,.int .i64 sq,.int .i64 tx,.int .i64 bs]∧BkRow w fa n rs∧VlRow w va vl vs∧KnRd w ad len kr:=by
 obtain⟨cs,rfl,hcs⟩:=okWide_struct Tryz.underlying43 hval;obtain⟨fuel,hf⟩:=hd;obtain⟨y0,y1,y2,y3,y4,k,g0,g1,g2,g3,g4⟩:=trodSt5 Tryz.underlying43 hf;have h0:Tryz.prog.cellsOf 43=7:=by kernel_rfl
 have h1:Tryz.prog.cellsOf 41=3:=by kernel_rfl
 have h2:Tryz.prog.cellsOf 36=1:=by kernel_rfl
 have h3:Tryz.prog.cellsOf 39=1:=by kernel_rfl
 have h4:Tryz.prog.cellsOf 37=1:=by kernel_rfl
 have h5:Tryz.prog.cellsOf 35=1:=by kernel_rfl
 have h6:Tryz.prog.cellsOf 33=1:=by kernel_rfl
 rw[h0]at hcs;simp only[h1,h5,kcells3,Value.cells]at g0 g1 g2 g3 g4
 match cs,hcs with
 |⟨[u0,u1,u2,u3,u4,u5,u6]⟩,_=>
  simp at g0 g1 g2 g3 g4;obtain⟨sq,e4,-,-⟩:=DataW.trod_int Tryz.underlying3 g2;obtain⟨tx,e5,-,-⟩:=DataW.trod_int Tryz.underlying3 g3;obtain⟨bs,e6,-,-⟩:=DataW.trod_int Tryz.underlying3 g4;obtain⟨z0,k0,_,_,q0⟩:=trod_struct1 Tryz.underlying35 g0;obtain⟨fa,n,fc,rs,e0,hr⟩:=open_blocks q0;rw[h6]at e0;obtain⟨z1,z2,z3,k1,q1,q2,q3⟩:=trodSt3 Tryz.underlying41 g1;simp only[h2,h3,kcells3]at q1 q2 q3;simp at q1 q2 q3;obtain⟨nx,e3,-,-⟩:=DataW.trod_int Tryz.underlying3 q3;obtain⟨z4,k4,q4⟩:=trodAr1 Tryz.underlying39 q2;rw[h4]at q4;obtain⟨ad,len,cap,kr,e2,hk⟩:=open_kns (v:=u2) (by simpa using q4)
  have e1:∃a l c,u1=.slice a l c:=by
   rcases open_slice Tryz.underlying36 q1 with⟨q,_⟩|⟨x,l,c,m,n,D,Pl,q,_⟩
   ·exact⟨none,0,0,by simpa using q⟩
   ·exact⟨some x,l,c,by simpa using q⟩
  obtain⟨va,vl,vc,rfl⟩:=e1;obtain⟨vs,hv⟩:=open_vls (a:=va) (len:=vl) (cap:=vc) ⟨k1,by simpa[Value.cells]using q1⟩
  simp at e0 e3 e4 e5 e6;subst e0 e2 e3 e4 e5 e6;exact⟨fa,n,fc,va,vl,vc,ad,len,cap,nx,sq,tx,bs,rs,vs,kr,rfl,hr,hv,hk⟩
end
end Go.Proofs.YtiicghepilbgfaaGreatDoor
namespace Go.Proofs.YtiicghepilbgfaaGreatDoor
open Go.ChangeShapes Go.RowKit
theorem trod_ints {H:Type} {enc:TypeId×Value→H} {P:Program} {t e:TypeId} {n:Nat} {k:IntKind} (ht:P.underlying t=some (.array n e)) (he:P.underlying e=some (.int k))
 (V V':World) (b b':Nat) (sp sp':Nat→Bool) (held:Bool) (fuel:Nat) (cs:List Value):
 DataW.trod enc P V b sp held fuel t cs=DataW.trod enc P V' b' sp' held fuel t cs:=by
 cases fuel with
 |zero=>rfl
 |succ fuel=>
  have h:∀x:List Value,DataW.trod enc P V b sp held fuel e x=DataW.trod enc P V' b' sp' held fuel e x:=by
   intro x;cases fuel with
   |zero=>rfl
   |succ fuel=>
    simp only[DataW.trod,he];rcases x with _|⟨v,_|⟨v2,r⟩⟩
    ·rfl
    ·cases v<;>rfl
    ·cases v<;>rfl
  simp only[DataW.trod,ht,h]
theorem vars_length{H:Type}{enc:TypeId×Value→H}{P:Program}{W:World}{sp:Nat→Bool}:∀{ns:List String} {gs:List (DataW H)} {q:List MemPlace},DataW.TrodVars enc P W sp ns gs q→gs.length=ns.length
 | [],[],_,_=>rfl
 | [],_::_,_,h=>by simp[DataW.TrodVars]at h
 |_::_,[],_,h=>by simp[DataW.TrodVars]at h
 |_::_,_::_,_,h=>by
  obtain⟨_,_,_,_,_,_,_,_,_,_,hs,_⟩:=h;simp[vars_length hs]
theorem vars_nil{H:Type}{enc:TypeId×Value→H}{P:Program}{W W':World}{sp sp':Nat→Bool}(gs:List (DataW H))(q:List MemPlace)(h:DataW.TrodVars enc P W sp [] gs q):DataW.TrodVars enc P W' sp' [] gs q:=by
 cases gs with
 |nil=>exact h
 |cons=>simp[DataW.TrodVars]at h
theorem vars_cons {H:Type} {enc:TypeId×Value→H} {P:Program} {W W':World} {sp sp':Nat→Bool} {n:String} {ns:List String} {g:Nat} {t e:TypeId} {m:Nat} {k:IntKind}
 (hg:P.globalNamed n=some g) (hty:(P.globals[g]?).map (·.type)=some t) (ht:P.underlying t=some (.array m e)) (he:P.underlying e=some (.int k)) (hb:Below W.heap.size W W')
 (rest:∀gs q,DataW.TrodVars enc P W sp ns gs q→DataW.TrodVars enc P W' sp' ns gs q) (gs:List (DataW H)) (q:List MemPlace) (h:DataW.TrodVars enc P W sp (n::ns) gs q):DataW.TrodVars enc P W' sp' (n::ns) gs q:=by
 cases gs with
 |nil=>simp[DataW.TrodVars]at h
 |cons d ds=>
  obtain⟨g',t',cs,fuel,p,q',h1,h2,h3,h4,hs,rfl⟩:=h;obtain rfl:=Option.some.inj (hg.symm.trans h1);obtain rfl:=Option.some.inj (hty.symm.trans h2);have hlt:g<W.heap.size:=by
   rcases Nat.lt_or_ge g W.heap.size with h'|h'
   ·exact h'
   ·unfold World.var? at h3;simp[hg,Array.getElem?_eq_none h']at h3
  refine⟨g,t,cs,fuel,p,q',h1,h2,var?_below hb hg hlt h3,?_,rest _ _ hs,rfl⟩;rw[trod_ints ht he W' W 0 0 sp' sp];exact h4
end Go.Proofs.YtiicghepilbgfaaGreatDoor
