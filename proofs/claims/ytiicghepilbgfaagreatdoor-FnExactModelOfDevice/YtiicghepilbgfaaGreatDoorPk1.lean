/-
  Flt; OwnC; SliL; TrMath
-/
import Derived.Test.YtiicghepilbgfaaGreatDoorPk0
import Derived.Deep.MidRow
namespace Go.Proofs.YtiicghepilbgfaaGreatDoor
open Go.RowKit
def Flt(t:TypeId)(g:Nat)(xs:List Value):World→Prop:=fun W=>∃cs:Array Value,W.heap[g]?=some (.cells cs t (0,0))∧∀(i:Nat) (v:Value),xs[i]?=some v→cs[i]?=some v
theorem Flt.loc(t:TypeId)(g:Nat)(xs:List Value):Loc g (g+1) (Flt t g xs):=by
 rintro w w' hk ⟨cs,h1,h2⟩;exact⟨cs,(hk g (Nat.le_refl _) (by omega)).trans h1,h2⟩
theorem Flt.cell{t:TypeId}{g:Nat}{xs:List Value}{w:World}(h:Flt t g xs w){k:Nat}{v:Value}(hk:xs[k]?=some v):w.cell? ⟨g,k,none⟩=some v:=by
 obtain⟨cs,h1,h2⟩:=h;rw[cell_of_row _ _ k _ _ _ h1];exact h2 k v hk
theorem Flt.frozen{t:TypeId}{g:Nat}{xs:List Value}{w:World}(h:Flt t g xs w)(o:Nat):w.frozen? ⟨g,o,none⟩=false:=by
 obtain⟨cs,h1,-⟩:=h;exact frozen_of_row _ _ o _ _ h1
theorem Flt.below{t:TypeId}{g:Nat}{xs:List Value}{w w':World}(h:Flt t g xs w)(hb:Below w.heap.size w w'):Flt t g xs w':=by
 have hlt:g<w.heap.size:=by obtain⟨cs,h1,-⟩:=h;exact(Array.getElem?_eq_some_iff.1 h1).1
 exact Flt.loc t g xs w w' (fun q q1 q2=>hb.block q (by omega)) h
theorem Flt.set{t:TypeId}{g:Nat}{xs:List Value}{w:World}(h:Flt t g xs w)(k:Nat)(u:Value):Flt t g (xs.set k u) (w.setCell ⟨g,k,none⟩ u):=by
 obtain⟨cs,h1,h2⟩:=h;refine⟨cs.setIfInBounds k u,?_,fun i v hv=>?_⟩
 ·rw[setCell_eq_setRow w g k cs t (0,0) u h1];exact setRow_heap w g cs _ t _ h1
 ·rw[List.getElem?_set]at hv;rw[Array.getElem?_setIfInBounds];by_cases e:k=i
  ·rw[if_pos e]at hv⊢;by_cases hl:k<xs.length
   ·rw[if_pos hl]at hv;obtain⟨x,hx⟩:∃x,xs[k]?=some x:=⟨_,List.getElem?_eq_getElem hl⟩;have:=(Array.getElem?_eq_some_iff.1 (h2 k x hx)).1;rw[if_pos this];exact hv
   ·rw[if_neg hl]at hv;cases hv
  ·rw[if_neg e]at hv⊢;exact h2 i v hv
theorem Flt.step{t:TypeId}{g k:Nat}{xs M:List Value}{w:World}{u:Value}(h:Flt t g (M.take k++xs.drop k) w)(hu:M[k]?=some u)(hl:M.length=xs.length):Flt t g (M.take (k+1)++xs.drop (k+1)) (w.setCell ⟨g,k,none⟩ u):=by
 obtain⟨hk,e⟩:=List.getElem?_eq_some_iff.1 hu;have:=h.set k u;rw[List.set_append_right _ _ (by rw[List.length_take];omega),List.length_take,Nat.min_eq_left (by omega),Nat.sub_self,List.drop_eq_getElem_cons (by omega),List.set_cons_zero]at this
 rw[List.take_succ_eq_append_getElem hk,e,List.append_assoc];exact this
theorem Flt.old{t:TypeId}{g k:Nat}{xs M:List Value}{w:World}{u:Value}(h:Flt t g (M.take k++xs.drop k) w)(hu:xs[k]?=some u)(hl:M.length=xs.length):w.cell? ⟨g,k,none⟩=some u:=by
 obtain⟨hk,e⟩:=List.getElem?_eq_some_iff.1 hu;refine h.cell ?_;rw[List.getElem?_append_right (by rw[List.length_take];omega),List.length_take,Nat.min_eq_left (by omega),Nat.sub_self,List.getElem?_drop]
 simpa using hu
def Sli(t:TypeId)(lo hi:Nat)(v:Value)(n:Nat)(xs:List Value):World→Prop:=fun W=>(v=.slice none 0 0∧n=0)∨∃g cap,v=.slice (some ⟨g,0,none⟩) n cap∧lo≤g∧g<hi∧Flt t g xs W
theorem Sli.loc(t:TypeId)(lo hi:Nat)(v:Value)(n:Nat)(xs:List Value):Loc lo hi (Sli t lo hi v n xs):=by
 rintro w w' hk (h|⟨g,cap,h1,h2,h3,h4⟩)
 ·exact Or.inl h
 ·exact Or.inr ⟨g,cap,h1,h2,h3,Flt.loc t g xs w w' (fun q q1 q2=>hk q (by omega) (by omega)) h4⟩
theorem Sli.form{t:TypeId}{lo hi n:Nat}{v:Value}{xs:List Value}{w:World}(h:Sli t lo hi v n xs w):∃ad cap,v=.slice ad n cap∧(0<n→∃g,ad=some ⟨g,0,none⟩∧lo≤g∧g<hi):=by
 rcases h with⟨h1,h2⟩|⟨g,cap,h1,h2,h3,-⟩
 ·exact⟨none,0,by rw[h1,h2],fun h=>by omega⟩
 ·exact⟨_,cap,h1,fun _=>⟨g,rfl,h2,h3⟩⟩
theorem Sli.flt{t:TypeId}{lo hi n g cap:Nat}{xs:List Value}{w:World}(h:Sli t lo hi (.slice (some ⟨g,0,none⟩) n cap) n xs w):Flt t g xs w:=by
 rcases h with⟨h1,-⟩|⟨g',cap',h1,-,-,h4⟩
 ·cases h1
 ·injection h1 with a
  injection a with a
  injection a with a
  subst a;exact h4
theorem Sli.of{t:TypeId}{size lo n:Nat}{v:Value}{xs:List Value}{w:World}(h:w.ownsRow lo t size v n xs):Sli t lo w.heap.size v n xs w:=by
 have hlt:=h.lt;rcases h.2 with⟨h1,h2⟩|⟨g,cap,cur,rfl,h2,h3,h4,h5,h6,h7⟩
 ·exact Or.inl ⟨h1,h2⟩
 ·refine Or.inr ⟨g,cap,rfl,h2,(hlt g rfl).2,cur,h3,fun i x hx=>?_⟩
  rw[←h7]at hx;obtain⟨h8,h9⟩:=List.getElem?_eq_some_iff.1 hx;rw[List.getElem_take]at h9;rw[List.length_take]at h8;rw[←Array.getElem?_toList,List.getElem?_eq_some_iff];exact⟨by omega,h9⟩
def mkv(s:Bool)(k:Nat):Value:=if s then .string ⟨(markL k).toArray⟩else .int .i64 (k:Int)
def mkFlat(pat:List Bool)(k0 n:Nat):List Value:=(List.range (n*pat.length)).map (fun i=>mkv (pat.getD (i % pat.length) false) (k0+i))
theorem mkFlat_len(pat:List Bool)(k0 n:Nat):(mkFlat pat k0 n).length=n*pat.length:=by simp[mkFlat]
theorem mkFlat_at(pat:List Bool)(k0 n i j:Nat)(s:Bool)(hi:i<n)(hs:pat[j]?=some s):(mkFlat pat k0 n)[i*pat.length+j]?=some (mkv s (k0+(i*pat.length+j))):=by
 have hj:=(List.getElem?_eq_some_iff.1 hs).1;have hlt:i*pat.length+j<n*pat.length:=by
  have:(i+1)*pat.length≤n*pat.length:=Nat.mul_le_mul_right _ (by omega)
  rw[Nat.succ_mul]at this;omega
 have hm:(i*pat.length+j) % pat.length=j:=by
  rw[Nat.add_comm,Nat.add_mul_mod_self_right];exact Nat.mod_eq_of_lt hj
 simp only[mkFlat,List.getElem?_map,List.getElem?_range hlt,Option.map_some,hm,List.getD_eq_getElem?_getD,hs,Option.getD_some]
theorem row_set{w:World}{g:Nat}{cs:Array Value}{t:TypeId}(h:w.heap[g]?=some (.cells cs t (0,0)))(i:Nat)(u:Value):(w.setCell ⟨g,i,none⟩ u).heap[g]?=some (.cells (cs.setIfInBounds i u) t (0,0)):=by
 rw[setCell_eq_setRow w g i cs t (0,0) u h];exact setRow_heap w g cs _ t _ h
theorem row_set_ne{w:World}{g g':Nat}{o:Obj}(h:w.heap[g]?=some o)(hn:g≠g')(i:Nat)(u:Value):(w.setCell ⟨g',i,none⟩ u).heap[g]?=some o:=(Below.heap_setCell _ _ _ _ hn).trans h
theorem own_down{w:World}{B B':Nat}{e:TypeId}{size n:Nat}{v:Value}{xs:List Value}(h:w.ownsRow B e size v n xs)(hb:B'≤B):w.ownsRow B' e size v n xs:=by
 obtain⟨h1,h2⟩:=h;refine⟨h1,?_⟩;rcases h2 with h|⟨g,cap,cur,rfl,a2,a3⟩
 ·exact .inl h
 ·exact .inr ⟨g,cap,cur,rfl,by omega,a3⟩
theorem own_cell{w:World}{B:Nat}{e:TypeId}{size n:Nat}{v:Value}{xs:List Value}(h:w.ownsRow B e size v n xs){g:Nat}(hg:g<B)(i:Nat)(u:Value):(w.setCell ⟨g,i,none⟩ u).ownsRow B e size v n xs:=by
 obtain⟨h1,h2⟩:=h;refine⟨h1,?_⟩;rcases h2 with h|⟨g',cap,cur,rfl,a2,a3,a4⟩
 ·exact .inl h
 ·exact .inr ⟨g',cap,cur,rfl,a2,row_set_ne a3 (by omega) _ _,a4⟩
theorem own_block_lt{w:World}{B:Nat}{e:TypeId}{size n:Nat}{v:Value}{xs:List Value}(h:w.ownsRow B e size v n xs):∀g,v.ownBlock=some g→B≤g∧g<w.heap.size:=by
 intro g hg;exact h.lt g hg
theorem fown_set{w:World}{base:Nat}{e:TypeId}{size n:Nat}{v:Value}{xs:List Value}{g cap:Nat}(h:w.ownsRow base e size v n xs)(hv:v=.slice (some ⟨g,0,none⟩) n cap)(k:Nat)(u:Value):
 (w.setCell ⟨g,k,none⟩ u).ownsRow base e size v n (xs.set k u):=by
 obtain⟨h1,h2⟩:=h;refine⟨by simpa using h1,?_⟩
 rcases h2 with⟨h3,-⟩|⟨g',cap',cur,h3,h4,h5,h6,h7,h8,h9⟩
 ·rw[hv]at h3;cases h3
 ·right;have hg:g'=g:=by rw[hv]at h3;injection h3 with a;simp at a;exact a.symm
  subst hg;refine⟨g',cap',cur.setIfInBounds k u,h3,h4,?_,h6,h7,by simpa using h8,?_⟩
  ·rw[setCell_eq_setRow w g' k cur e (0,0) u h5];exact setRow_heap w g' cur _ e _ h5
  ·rw[Array.toList_setIfInBounds,List.take_set,h9]
theorem grown_cell(w:World)(g k:Nat)(u:Value):w.grownBy (w.setCell ⟨g,k,none⟩ u) (some g):=
 ⟨rfl,rfl,rfl,by simp[World.setCell],fun i _ hi=>Below.heap_setCell _ _ _ _ (fun e=>hi (by rw[e]))⟩
theorem Sli.up{t:TypeId}{lo hi hi' n:Nat}{v:Value}{xs:List Value}{w:World}(h:Sli t lo hi v n xs w)(hh:hi≤hi'):Sli t lo hi' v n xs w:=by
 rcases h with h|⟨g,cap,e,h1,h2,h3⟩
 ·exact .inl h
 ·exact .inr ⟨g,cap,e,h1,by omega,h3⟩
theorem Sli.dn{t:TypeId}{lo lo' hi n:Nat}{v:Value}{xs:List Value}{w:World}(h:Sli t lo hi v n xs w)(hh:lo'≤lo):Sli t lo' hi v n xs w:=by
 rcases h with h|⟨g,cap,e,h1,h2,h3⟩
 ·exact .inl h
 ·exact .inr ⟨g,cap,e,by omega,h2,h3⟩
theorem Sli.blw{t:TypeId}{lo hi n:Nat}{v:Value}{xs:List Value}{w w':World}(h:Sli t lo hi v n xs w)(hb:Below w.heap.size w w'):Sli t lo hi v n xs w':=by
 rcases h with h|⟨g,cap,e,h1,h2,h3⟩
 ·exact .inl h
 ·exact .inr ⟨g,cap,e,h1,h2,h3.below hb⟩
theorem Sli.lt{t:TypeId}{lo hi n:Nat}{v:Value}{xs:List Value}{w:World}(h:Sli t lo hi v n xs w):∀g,v.ownBlock=some g→lo≤g∧g<hi∧∃cs,w.heap[g]?=some (.cells cs t (0,0)):=by
 intro g hg;rcases h with⟨rfl,-⟩|⟨g',cap,rfl,h1,h2,cs,h3,-⟩
 ·cases hg
 ·simp only[Value.ownBlock,Option.some.injEq]at hg;subst hg;exact⟨h1,h2,cs,h3⟩
theorem Sli.grown{t:TypeId}{lo hi n:Nat}{v:Value}{xs:List Value}{w y:World}{row:Option Nat}(h:Sli t lo hi v n xs w)(hg:w.grownBy y row)(hr:∀g,v.ownBlock=some g→row≠some g):Sli t lo hi v n xs y:=by
 rcases h with h|⟨g,cap,rfl,h1,h2,cs,h3,h4⟩
 ·exact .inl h
 ·exact .inr ⟨g,cap,rfl,h1,h2,cs,(hg.block g (Array.getElem?_eq_some_iff.1 h3).1 (fun e=>hr g rfl e.symm)).trans h3,h4⟩
theorem own_kind{w:World}{B:Nat}{e:TypeId}{size n:Nat}{v:Value}{xs:List Value}(h:w.ownsRow B e size v n xs):∀g,v.ownBlock=some g→B≤g∧g<w.heap.size∧∃cs,w.heap[g]?=some (.cells cs e (0,0)):=by
 intro g hg;obtain⟨h1,h2⟩:=h.lt g hg;rcases h.2 with⟨rfl,-⟩|⟨g',cap,cur,rfl,-,q,-⟩
 ·cases hg
 ·simp only[Value.ownBlock,Option.some.injEq]at hg;subst hg;exact⟨h1,h2,_,q⟩
end Go.Proofs.YtiicghepilbgfaaGreatDoor
namespace Go.Proofs.YtiicghepilbgfaaGreatDoor
namespace Words
structure Kn where
 leaf:Bool
 kids:List Int
def knLeaf(l:List Kn)(n:Int):Bool:=match l[n.toNat]? with
 |some y=>y.leaf
 |none=>false
def kidB(l:List Kn)(i:Nat)(lf:Bool)(n:Int):Bool:=if lf then decide (0≤n)else(decide (n= -1)||(decide (0≤n)&&decide (n<i)&&knLeaf l n))
def knB(l:List Kn)(i:Nat)(x:Kn):Bool:=decide (x.kids.length=4)&&x.kids.all (kidB l i x.leaf)
def arK(l:List Kn):Nat→Bool
 |0=>true
 |k+1=>arK l k&&(match l[k]? with|some x=>knB l k x|none=>true)
def arB(l:List Kn):Bool:=arK l l.length
theorem arK_succ{l:List Kn}{k:Nat}{x:Kn}(h:l[k]?=some x):arK l (k+1)=(arK l k&&knB l k x):=by rw[arK,h]
theorem arK_le{l:List Kn}{j k:Nat}(h:j≤k)(hk:arK l k=true):arK l j=true:=by
 induction k with
 |zero=>have:j=0:=by omega
        subst this;exact hk
 |succ k ih=>
  rw[arK,Bool.and_eq_true]at hk;by_cases e:j=k+1
  ·subst e;rw[arK,Bool.and_eq_true];exact hk
  ·exact ih (by omega) hk.1
theorem arB_at{l:List Kn}(h:arB l=true){i:Nat}{x:Kn}(hi:l[i]?=some x):knB l i x=true:=by
 have hl:=(List.getElem?_eq_some_iff.1 hi).1;have:=arK_le (show i+1≤l.length by omega) h
 rw[arK_succ hi,Bool.and_eq_true]at this;exact this.2
theorem arB_bad{l:List Kn}{i:Nat}{x:Kn}(hi:l[i]?=some x)(hx:knB l i x=false):arB l=false:=by
 cases h:arB l with
 |false=>rfl
 |true=>rw[arB_at h hi]at hx;cases hx
theorem knB_bad{l:List Kn}{i k:Nat}{x:Kn}{n:Int}(hk:x.kids[k]?=some n)(hn:kidB l i x.leaf n=false):knB l i x=false:=by
 cases h:knB l i x with
 |false=>rfl
 |true=>
  rw[knB,Bool.and_eq_true,List.all_eq_true]at h;rw[h.2 n (List.mem_of_getElem? hk)]at hn;cases hn
theorem knB_len{l:List Kn}{i:Nat}{x:Kn}(h:knB l i x=true):x.kids.length=4:=by
 rw[knB,Bool.and_eq_true]at h
 simpa using h.1
theorem knB_kid{l:List Kn}{i k:Nat}{x:Kn}{n:Int}(h:knB l i x=true)(hk:x.kids[k]?=some n):kidB l i x.leaf n=true:=by
 rw[knB,Bool.and_eq_true,List.all_eq_true]at h;exact h.2 n (List.mem_of_getElem? hk)
theorem knLeaf_some{l:List Kn}{n:Int}{y:Kn}(h:l[n.toNat]?=some y):knLeaf l n=y.leaf:=by rw[knLeaf,h]
theorem knLeaf_lt{l:List Kn}{n:Int}(h:knLeaf l n=true):∃y,l[n.toNat]?=some y∧y.leaf=true:=by
 rw[knLeaf]at h;split at h
 ·rename_i y hy;exact⟨y,hy,h⟩
 ·cases h
def rootB(l:List Kn)(r:Int):Bool:=decide (r= -1)||(decide (0≤r)&&decide (r<l.length)&& !knLeaf l r)
theorem rootB_pos{l:List Kn}{r:Int}(h:rootB l r=true)(h0:0≤r):∃x,l[r.toNat]?=some x∧x.leaf=false:=by
 unfold rootB at h;simp only[Bool.or_eq_true,Bool.and_eq_true,decide_eq_true_eq,Bool.not_eq_true']at h;rcases h with h|⟨⟨h1,h2⟩,h3⟩
 ·omega
 ·refine⟨_,List.getElem?_eq_getElem (show r.toNat<l.length by omega),?_⟩
  rw[knLeaf_some (List.getElem?_eq_getElem (show r.toNat<l.length by omega))]at h3
  exact h3
def kidAt(l:List Kn)(r:Int)(k:Nat):Int:=((l[r.toNat]?).bind (fun x=>x.kids[k]?)).getD 0
theorem kidAt_some{l:List Kn}{r:Int}{k:Nat}{x:Kn}{n:Int}(h:l[r.toNat]?=some x)(hk:x.kids[k]?=some n):kidAt l r k=n:=by
 rw[kidAt,h,Option.bind_some,hk,Option.getD_some]
def getP(l:List Kn)(r:Int)(s:Nat):Int:=if r<0 then 0 else if kidAt l r (s/4)<0 then 0 else kidAt l (kidAt l r (s/4)) (s % 4)
def askB(l:List Kn)(r s:Int):Bool:=arB l&&rootB l r&&(decide (0≤s)&&decide (s≤15))
def getT(l:List Kn)(r s:Int):Int:=if askB l r s then getP l r s.toNat else 0
def allT(l:List Kn)(r:Int):List Int:=(List.range 16).map (fun s:Nat=>getT l r s)
theorem inner_kid{l:List Kn}(h:arB l=true){r:Int}{x:Kn}(hx:l[r.toNat]?=some x)(hl:x.leaf=false){k:Nat}(hk:k<4):∃n,x.kids[k]?=some n∧(n= -1∨0≤n∧n<r.toNat∧∃y,l[n.toNat]?=some y∧y.leaf=true∧y.kids.length=4):=by
 have hb:=arB_at h hx;have h4:=knB_len hb;refine⟨_,List.getElem?_eq_getElem (by omega),?_⟩
 have hn:=knB_kid hb (List.getElem?_eq_getElem (show k<x.kids.length by omega))
 rw[kidB,hl]at hn;simp only[Bool.false_eq_true,if_false,Bool.or_eq_true,Bool.and_eq_true,decide_eq_true_eq]at hn;rcases hn with hn|⟨⟨h1,h2⟩,h3⟩
 ·exact .inl hn
 ·obtain⟨y,hy,hyl⟩:=knLeaf_lt h3;exact .inr ⟨h1,h2,y,hy,hyl,knB_len (arB_at h hy)⟩
theorem leaf_kid{l:List Kn}(h:arB l=true){i:Nat}{x:Kn}(hx:l[i]?=some x)(hl:x.leaf=true){k:Nat}(hk:k<4):∃n,x.kids[k]?=some n∧0≤n:=by
 have hb:=arB_at h hx;have h4:=knB_len hb;refine⟨_,List.getElem?_eq_getElem (by omega),?_⟩
 have hn:=knB_kid hb (List.getElem?_eq_getElem (show k<x.kids.length by omega))
 rw[kidB,hl]at hn
 simpa using hn
def putLf(l:List Kn)(r:Int)(s:Nat)(n:Int):Kn:=⟨true,((if r<0 then[0,0,0,0]else if kidAt l r (s/4)<0 then[0,0,0,0]else((l[(kidAt l r (s/4)).toNat]?).map Kn.kids).getD [])).set (s % 4) n⟩
def putTop(l:List Kn)(r:Int)(s:Nat):Kn:=⟨false,(if r<0 then[-1,-1,-1,-1]else((l[r.toNat]?).map Kn.kids).getD []).set (s/4) (l.length:Int)⟩
end Words
end Go.Proofs.YtiicghepilbgfaaGreatDoor
