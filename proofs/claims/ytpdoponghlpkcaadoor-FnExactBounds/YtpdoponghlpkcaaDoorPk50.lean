/-
  OpSto; OpDv; Vars
-/
import Derived.Test.YtpdoponghlpkcaaDoorPk49
import Derived.Test.YtpdoponghlpkcaaDoorPk16
import Derived.Test.YtpdoponghlpkcaaDoorPk0
import Derived.ChangeVars
set_option maxRecDepth 100000
namespace Go.Proofs.YtpdoponghlpkcaaDoor
open Go.ChangeShapes Go.WideShapes Go.ChangeAt Go.RowKit Go.Deep
section
variable {H : Type} {enc : TypeId × Value → H} {w : World} {base : Nat} {sp : Nat → Bool} {held : Bool}
theorem trodSt3{P:Program}{t:TypeId}{f0 f1 f2:Field}{fuel:Nat}{cs:List Value}{x:DataW H×List MemPlace}(ht:P.underlying t=some (.struct #[f0,f1,f2]))(h:DataW.trod enc P w base sp held fuel t cs=some x):
 ∃y0 y1 y2 n,DataW.trod enc P w base sp held n f0.type ((cs.drop f0.offset).take (P.cellsOf f0.type))=some y0∧DataW.trod enc P w base sp held n f1.type ((cs.drop f1.offset).take (P.cellsOf f1.type))=some y1∧DataW.trod enc P w base sp held n f2.type ((cs.drop f2.offset).take (P.cellsOf f2.type))=some y2:=by
 obtain⟨xs,n,_,rfl,hl,hlen,hf⟩:=DataW.trod_struct ht h
 match xs,hlen with
 | [y0,y1,y2],_=>exact⟨y0,y1,y2,n,by simpa using hf 0 f0 rfl,by simpa using hf 1 f1 rfl,by simpa using hf 2 f2 rfl⟩
end
section
variable {H : Type} {enc : TypeId × Value → H} {w : World} {base : Nat} {sp : Nat → Bool} {held : Bool}
theorem trodSt5{P:Program}{t:TypeId}{f0 f1 f2 f3 f4:Field}{fuel:Nat}{cs:List Value}{x:DataW H×List MemPlace}(ht:P.underlying t=some (.struct #[f0,f1,f2,f3,f4]))(h:DataW.trod enc P w base sp held fuel t cs=some x):
 ∃y0 y1 y2 y3 y4 n,DataW.trod enc P w base sp held n f0.type ((cs.drop f0.offset).take (P.cellsOf f0.type))=some y0∧DataW.trod enc P w base sp held n f1.type ((cs.drop f1.offset).take (P.cellsOf f1.type))=some y1∧DataW.trod enc P w base sp held n f2.type ((cs.drop f2.offset).take (P.cellsOf f2.type))=some y2∧DataW.trod enc P w base sp held n f3.type ((cs.drop f3.offset).take (P.cellsOf f3.type))=some y3∧DataW.trod enc P w base sp held n f4.type ((cs.drop f4.offset).take (P.cellsOf f4.type))=some y4:=by
 obtain⟨xs,n,_,rfl,hl,hlen,hf⟩:=DataW.trod_struct ht h
 match xs,hlen with
 | [y0,y1,y2,y3,y4],_=>exact⟨y0,y1,y2,y3,y4,n,by simpa using hf 0 f0 rfl,by simpa using hf 1 f1 rfl,by simpa using hf 2 f2 rfl,by simpa using hf 3 f3 rfl,by simpa using hf 4 f4 rfl⟩
theorem open_device{r:Reach}{b0:Nat}{v:Value}{d:DataW H}{ps:List MemPlace}(hval:Value.okWide Tryd.prog w r b0 32 v)(hd:DataW.Trod enc Tryd.prog w base sp held 32 v d ps):
 ∃fa n fc va vl vc ad len cap nx sq tx bs rs vs kr,v=.agg #[.slice fa n fc,.slice va vl vc,.slice ad len cap,.int .i64 nx,.int .i64 sq,.int .i64 tx,.int .i64 bs]∧BkRow w fa n rs∧VlRow w va vl vs∧KnRd w ad len kr:=by
 obtain⟨cs,rfl,hcs⟩:=okWide_struct Tryd.underlying32 hval;obtain⟨fuel,hf⟩:=hd;obtain⟨y0,y1,y2,y3,y4,k,g0,g1,g2,g3,g4⟩:=trodSt5 Tryd.underlying32 hf;have h0:Tryd.prog.cellsOf 32=7:=by kernel_rfl
 have h1:Tryd.prog.cellsOf 30=3:=by kernel_rfl
 have h2:Tryd.prog.cellsOf 25=1:=by kernel_rfl
 have h3:Tryd.prog.cellsOf 28=1:=by kernel_rfl
 have h4:Tryd.prog.cellsOf 26=1:=by kernel_rfl
 have h5:Tryd.prog.cellsOf 24=1:=by kernel_rfl
 have h6:Tryd.prog.cellsOf 22=1:=by kernel_rfl
 rw[h0]at hcs;simp only[h1,h5,kcells3,Value.cells]at g0 g1 g2 g3 g4
 match cs,hcs with
 |⟨[u0,u1,u2,u3,u4,u5,u6]⟩,_=>
  simp at g0 g1 g2 g3 g4;obtain⟨sq,e4,-,-⟩:=DataW.trod_int Tryd.underlying3 g2;obtain⟨tx,e5,-,-⟩:=DataW.trod_int Tryd.underlying3 g3;obtain⟨bs,e6,-,-⟩:=DataW.trod_int Tryd.underlying3 g4;obtain⟨z0,k0,_,_,q0⟩:=trod_struct1 Tryd.underlying24 g0;obtain⟨fa,n,fc,rs,e0,hr⟩:=open_blocks q0;rw[h6]at e0;obtain⟨z1,z2,z3,k1,q1,q2,q3⟩:=trodSt3 Tryd.underlying30 g1;simp only[h2,h3,kcells3]at q1 q2 q3;simp at q1 q2 q3;obtain⟨nx,e3,-,-⟩:=DataW.trod_int Tryd.underlying3 q3;obtain⟨z4,k4,q4⟩:=trodAr1 Tryd.underlying28 q2;rw[h4]at q4;obtain⟨ad,len,cap,kr,e2,hk⟩:=open_kns (v:=u2) (by simpa using q4)
  have e1:∃a l c,u1=.slice a l c:=by
   rcases open_slice Tryd.underlying25 q1 with⟨q,_⟩|⟨x,l,c,m,n,D,Pl,q,_⟩
   ·exact⟨none,0,0,by simpa using q⟩
   ·exact⟨some x,l,c,by simpa using q⟩
  obtain⟨va,vl,vc,rfl⟩:=e1;obtain⟨vs,hv⟩:=open_vls (a:=va) (len:=vl) (cap:=vc) ⟨k1,by simpa[Value.cells]using q1⟩
  simp at e0 e3 e4 e5 e6;subst e0 e2 e3 e4 e5 e6;exact⟨fa,n,fc,va,vl,vc,ad,len,cap,nx,sq,tx,bs,rs,vs,kr,rfl,hr,hv,hk⟩
end
end Go.Proofs.YtpdoponghlpkcaaDoor
namespace Go.Proofs.YtpdoponghlpkcaaDoor
open Go.ChangeShapes Go.RowKit
theorem trod_ints {H:Type} {enc:TypeId×Value→H} {P:Program} {t e:TypeId} {n:Nat} {k:IntKind} (ht:P.underlying t=some (.array n e)) (he:P.underlying e=some (.int k))
 (V V':World) (b b':Nat) (sp sp':Nat→Bool) (held:Bool) (fuel:Nat) (cs:List Value):
 DataW.trod enc P V b sp held fuel t cs=DataW.trod enc P V' b' sp' held fuel t cs:=by
 cases fuel with
 |zero=>rfl
 |succ fuel=>
  have h:∀x:List Value,DataW.trod enc P V b sp held fuel e x=DataW.trod enc P V' b' sp' held fuel e x:=by
   intro x;cases fuel with
   |zero=>rfl
   |succ fuel=>
    simp only[DataW.trod,he];rcases x with _|⟨v,_|⟨v2,r⟩⟩
    ·rfl
    ·cases v<;>rfl
    ·cases v<;>rfl
  simp only[DataW.trod,ht,h]
theorem vars_length{H:Type}{enc:TypeId×Value→H}{P:Program}{W:World}{sp:Nat→Bool}:∀{ns:List String} {gs:List (DataW H)} {q:List MemPlace},DataW.TrodVars enc P W sp ns gs q→gs.length=ns.length
 | [],[],_,_=>rfl
 | [],_::_,_,h=>by simp[DataW.TrodVars]at h
 |_::_,[],_,h=>by simp[DataW.TrodVars]at h
 |_::_,_::_,_,h=>by
  obtain⟨_,_,_,_,_,_,_,_,_,_,hs,_⟩:=h;simp[vars_length hs]
theorem vars_nil{H:Type}{enc:TypeId×Value→H}{P:Program}{W W':World}{sp sp':Nat→Bool}(gs:List (DataW H))(q:List MemPlace)(h:DataW.TrodVars enc P W sp [] gs q):DataW.TrodVars enc P W' sp' [] gs q:=by
 cases gs with
 |nil=>exact h
 |cons=>simp[DataW.TrodVars]at h
theorem vars_cons {H:Type} {enc:TypeId×Value→H} {P:Program} {W W':World} {sp sp':Nat→Bool} {n:String} {ns:List String} {g:Nat} {t e:TypeId} {m:Nat} {k:IntKind}
 (hg:P.globalNamed n=some g) (hty:(P.globals[g]?).map (·.type)=some t) (ht:P.underlying t=some (.array m e)) (he:P.underlying e=some (.int k)) (hb:Below W.heap.size W W')
 (rest:∀gs q,DataW.TrodVars enc P W sp ns gs q→DataW.TrodVars enc P W' sp' ns gs q) (gs:List (DataW H)) (q:List MemPlace) (h:DataW.TrodVars enc P W sp (n::ns) gs q):DataW.TrodVars enc P W' sp' (n::ns) gs q:=by
 cases gs with
 |nil=>simp[DataW.TrodVars]at h
 |cons d ds=>
  obtain⟨g',t',cs,fuel,p,q',h1,h2,h3,h4,hs,rfl⟩:=h;obtain rfl:=Option.some.inj (hg.symm.trans h1);obtain rfl:=Option.some.inj (hty.symm.trans h2);have hlt:g<W.heap.size:=by
   rcases Nat.lt_or_ge g W.heap.size with h'|h'
   ·exact h'
   ·unfold World.var? at h3;simp[hg,Array.getElem?_eq_none h']at h3
  refine⟨g,t,cs,fuel,p,q',h1,h2,var?_below hb hg hlt h3,?_,rest _ _ hs,rfl⟩;rw[trod_ints ht he W' W 0 0 sp' sp];exact h4
end Go.Proofs.YtpdoponghlpkcaaDoor
