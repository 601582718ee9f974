/-
  PkMM; TRows; Bytes; Start; PMap
-/
import Derived.Test.YtiicghepilbgfaaGreatDoorPk8
import Derived.Test.YtiicghepilbgfaaGreatDoorPk25
import Derived.Test.YtiicghepilbgfaaGreatDoorPk0
import Derived.Deep.MidRow
import Derived.Maps.GroupsBeside
import Derived.WideKeyEntry
import Derived.DeepKeys4
set_option maxHeartbeats 400000
set_option maxRecDepth 100000
namespace Go.Proofs.YtiicghepilbgfaaGreatDoor.Pack
theorem drop_cons(s:List UInt8)(k:Nat)(h:k<s.length):s.drop k=s.getD k 0::s.drop (k+1):=by
 rw[List.drop_eq_getElem_cons h,List.getD_eq_getElem?_getD,List.getElem?_eq_getElem h];rfl
theorem mlen_yes(f:Nat)(s:List UInt8)(i j:Nat)(hi:i<s.length)(hj:j<s.length)(h:s.getD i 0=s.getD j 0):mlen (f+1) (s.drop i) (s.drop j)=mlen f (s.drop (i+1)) (s.drop (j+1))+1:=by
 rw[drop_cons s i hi,drop_cons s j hj];exact if_pos h
theorem mlen_no(f:Nat)(s:List UInt8)(i j:Nat)(hi:i<s.length)(hj:j<s.length)(h:s.getD i 0≠s.getD j 0):mlen f (s.drop i) (s.drop j)=0:=by
 cases f with
 |zero=>rfl
 |succ f=>
  rw[drop_cons s i hi,drop_cons s j hj];exact if_neg h
theorem mlen_end(f:Nat)(s a:List UInt8)(j:Nat)(hj:s.length≤j):mlen f a (s.drop j)=0:=by
 rw[List.drop_eq_nil_of_le hj];cases f with
 |zero=>rfl
 |succ f=>cases a<;>rfl
theorem best_yes(s:List UInt8)(k m:Nat)(h:4≤mlen 31 (s.drop (k-(m+1))) (s.drop k))(h2:(best s k m).1<mlen 31 (s.drop (k-(m+1))) (s.drop k)):best s k (m+1)=(mlen 31 (s.drop (k-(m+1))) (s.drop k),m+1):=by
 unfold best;rw[if_pos ⟨h,h2⟩]
theorem best_no(s:List UInt8)(k m:Nat)(h:¬(4≤mlen 31 (s.drop (k-(m+1))) (s.drop k)∧(best s k m).1<mlen 31 (s.drop (k-(m+1))) (s.drop k))):best s k (m+1)=best s k m:=by
 conv=>lhs;unfold best
 rw[if_neg h]
theorem steps_one(s:List UInt8)(m k:Nat)(l:List (Nat×Nat×List UInt8))(h:stepsT m s=(k,l))(hk:k<s.length):stepsT (m+1) s=stepT s (k,l):=by
 conv=>lhs;unfold stepsT
 rw[h,if_pos hk]
theorem steps_match(s:List UInt8)(m k b1 b2:Nat)(l:List (Nat×Nat×List UInt8))(hs:s.length≤64)(h:stepsT m s=(k,l))(hk:k<s.length)(hb:best s k k=(b1,b2))(h0:0<b1):stepsT (m+1) s=(k+b1,l++[(b2,b1,[])])∧k+b1≤s.length:=by
 have e:stepsT (m+1) s=(k+b1,l++[(b2,b1,[])]):=by
  rw[steps_one s m k l h hk];unfold stepT;simp only[hb];rw[if_pos h0]
 refine⟨e,?_⟩;have:=(kept_steps s hs (m+1)).1.1;rw[e]at this;exact this
theorem steps_more(s:List UInt8)(m k z:Nat)(l:List (Nat×Nat×List UInt8))(t:List UInt8)(h:stepsT m s=(k,l++[(0,z,t)]))(hk:k<s.length)(hb:(best s k k).1=0)(ht:t.length<31):stepsT (m+1) s=(k+1,l++[(0,z,t++[s.getD k 0])]):=by
 rw[steps_one s m k _ h hk];unfold stepT;simp only[hb];rw[if_neg (by omega)]
 simp[ht]
theorem steps_new(s:List UInt8)(m k:Nat)(l:List (Nat×Nat×List UInt8))(h:stepsT m s=(k,l))(hk:k<s.length)(hb:(best s k k).1=0)(hl:∀a z t,l=a++[(0,z,t)]→¬t.length<31):stepsT (m+1) s=(k+1,l++[(0,0,[s.getD k 0])]):=by
 rw[steps_one s m k _ h hk];unfold stepT;simp only[hb];rw[if_neg (by omega)]
 split
 ·rename_i z t hlast
  obtain⟨a,ha⟩:=List.getLast?_eq_some_iff.1 hlast;rw[if_neg (hl a z t ha)]
 ·rfl
theorem steps_stay(s:List UInt8)(m d:Nat)(h:s.length≤(stepsT m s).1):stepsT (m+d) s=stepsT m s:=by
 induction d with
 |zero=>rfl
 |succ d ih=>
  have e:stepsT (m+(d+1)) s=if (stepsT (m+d) s).1<s.length then stepT s (stepsT (m+d) s)else stepsT (m+d) s:=rfl
  rw[e,ih,if_neg (by omega)]
theorem steps_end(s:List UInt8)(m:Nat)(l:List (Nat×Nat×List UInt8))(h:stepsT m s=(s.length,l))(hm:m≤s.length):toks s=l:=by
 have:=steps_stay s m (s.length-m) (by rw[h];exact Nat.le_refl _)
 rw[show m+(s.length-m)=s.length by omega]at this
 unfold toks;rw[this,h]
end Go.Proofs.YtiicghepilbgfaaGreatDoor.Pack
namespace Go.Proofs.YtiicghepilbgfaaGreatDoor
open Go.RowKit
open Pack
theorem byte_ofT(s:ByteArray)(j:Nat)(a:Int)(ha:a=j)(hj:j<s.size)(W:World):(Instr.index 9 (.string s) (.int .i64 a)).run Tryz.prog W=.ok (.int .u8 (((s.data.toList.getD j 0).toNat:Nat):Int)) W:=by
 subst ha;rw[run_index_string W 9 s .i64 j Tryz.underlying9,dif_pos (by omega)]
 have:s.data.toList.getD j 0=s[j]:=by
  rw[List.getD_eq_getElem?_getD,List.getElem?_eq_getElem (by simpa using hj)]
  rfl
 rw[this];rfl
def TRow(w:World)(e:Ending)(w':World)(l:List (Nat×Nat×List UInt8)):Prop:=∃v:Value,e=.returned v∧w'.ownsRow w.heap.size 198 3 v l.length (tcells l)∧Below w.heap.size w w'
theorem own_slice3{w:World}{base:Nat}{v:Value}{l:List (Nat×Nat×List UInt8)}(h:w.ownsRow base 198 3 v l.length (tcells l))(h0:0<l.length):∃g cap,v=.slice (some ⟨g,0,none⟩) l.length cap:=by
 rcases h.2 with⟨-,h0'⟩|⟨g,cap,cur,rfl,-⟩
 ·omega
 ·exact⟨g,cap,rfl⟩
theorem three_new(w:World)(a b c:Value)(t:TypeId):∀(j:Nat) (u:Value),[a,b,c][j]?=some u→(w.alloc (.cells #[a,b,c] t)).cell? ((⟨w.heap.size,0,none⟩:Addr).add j)=some u:=by
 intro j u hj
 match j,hj with
 |0,hj=>simp at hj;subst hj;simp[Addr.add]
 |1,hj=>simp at hj;subst hj;simp[Addr.add]
 |2,hj=>simp at hj;subst hj;simp[Addr.add]
theorem tok3_one(a b:Int)(u:ByteArray):∀v∈ [Value.int .i64 a,Value.int .i64 b,Value.string u],v.oneCell'=true:=by
 intro v hv;rcases List.mem_cons.1 hv with h|h
 ·subst h;rfl
 ·rcases List.mem_cons.1 h with h|h
  ·subst h;rfl
  ·rcases List.mem_cons.1 h with h|h
   ·subst h;rfl
   ·cases h
theorem own_grown3 {B:Nat} {w wr w2:World} {v:Value} {n:Nat} {xs:List Value} {e:TypeId} {o:Obj} (hb:Below B w wr) (hB:B≤wr.heap.size)
 (hown:wr.ownsRow B e 3 v n xs) (hg:(wr.alloc o).grownBy w2 v.ownBlock):Below B w w2:=
 (hb.alloc hB _).grown hg (by simp;omega) (fun k hk=>(hown.lt k hk).1)
end Go.Proofs.YtiicghepilbgfaaGreatDoor
namespace Go.Proofs.YtiicghepilbgfaaGreatDoor
open Go.RowKit
def BytesAt(w:World)(g:Nat)(l:List UInt8):Prop:=
 g<w.heap.size∧∀j (hj:j<l.length),w.cell? ⟨g,j,none⟩=some (.int .u8 (l[j].toNat:Int))∧w.frozen? ⟨g,j,none⟩=false
theorem BytesAt.below{w w':World}{g C:Nat}{l:List UInt8}(h:BytesAt w g l)(hb:Below C w w')(hg:g<C):BytesAt w' g l:=
 ⟨Nat.lt_of_lt_of_le h.1 hb.size,fun j hj=>⟨by rw[hb.cell (show g<C from hg)];exact(h.2 j hj).1,by rw[hb.frozen (show g<C from hg)];exact(h.2 j hj).2⟩⟩
theorem bytes_new(w:World)(s:ByteArray):∃(C:Nat) (w':World),(convert 9 155 (.string s)).run Tryz.prog w=.ok (.slice (some ⟨w.heap.size,0,none⟩) s.size C) w'∧Below w.heap.size w w'∧BytesAt w' w.heap.size s.data.toList:=by
 have h:=run_bytes_of_string (P:=Tryz.prog) w 9 155 5 s Tryz.underlying9 Tryz.underlying155 Tryz.underlying5;generalize grownCap w s.size 0 5=C at h;refine⟨C,_,h,((Below.refl _ _).drew).alloc (Nat.le_refl _) _,by simp,?_⟩
 intro j hj;have hj2:j<s.data.size:=by simpa using hj
 have hj3:j<s.size:=hj2;have e:=bytesRow_at s C j hj2;have hsz:j<(bytesRow s C).size:=by
  unfold bytesRow;rw[Array.size_append,Array.size_map];omega
 have d:w.drew.heap.size=w.heap.size:=rfl;constructor
 ·have:=World.cell?_alloc_mark w.drew (bytesRow s C) 5 ((bytesRow s C).size,(bytesRow s C).size+1) j;rw[d]at this;rw[this,e];simp
 ·have:=World.frozen?_alloc_mark w.drew (bytesRow s C) 5 (bytesRow s C).size ((bytesRow s C).size+1) j;rw[d]at this;rw[this];simp;omega
theorem info4:(Tryz.prog.info? 272).map (·.size)=some 4:=by kernel_rfl
def keyV(q:List UInt8):Value:=.agg (bcells q).toArray
theorem bcells_one(l:List UInt8):∀v∈bcells l,v.oneCell'=true:=by
 intro u hu;obtain⟨x,-,rfl⟩:=List.mem_map.1 hu;rfl
theorem bcells_all(l:List UInt8):(bcells l).toArray.all (·.oneCell')=true:=all_oneCell_toArray (bcells_one l)
theorem bytes_range{w:World}{g:Nat}{l:List UInt8}(h:BytesAt w g l):w.rangeAt g 0 (bcells l):=by
 intro j v hv;have hj:j<l.length:=by
  have:=(List.getElem?_eq_some_iff.1 hv).1
  rwa [bcells_len]at this
 rw[bcells_at l j hj]at hv;cases hv;rw[Nat.zero_add];exact(h.2 j hj).1
theorem bytes_there{w:World}{g:Nat}{l:List UInt8}(h:BytesAt w g l):w.there g 0 l.length:=by
 intro j hj;rw[Nat.zero_add,(h.2 j hj).1];exact⟨rfl,(h.2 j hj).2⟩
theorem setCells_size(b:Nat):∀(vs:List Value) (o:Nat) (w:World),(w.setCells b o vs).heap.size=w.heap.size
 | [],_,_=>rfl
 |v::r,o,w=>by rw[World.setCells,setCells_size b r];simp
theorem below_cells{B b:Nat}{a:World}(hb:B≤b):∀(vs:List Value) (o:Nat) (w:World),Below B a w→Below B a (w.setCells b o vs)
 | [],_,_,h=>h
 |v::r,o,w,h=>by
  rw[World.setCells];exact below_cells hb r _ _ (h.setCell (p:=⟨b,o,none⟩) hb v)
theorem BytesAt.store{w:World}{g:Nat}{l:List UInt8}(h:BytesAt w g l)(l':List UInt8)(hl:l'.length=l.length):BytesAt (w.setCells g 0 (bcells l')) g l':=by
 have ht:w.there g 0 (bcells l').length:=by rw[bcells_len,hl];exact bytes_there h
 have hr:=World.rangeAt_setCells_same w g 0 (bcells l') ht;refine⟨by rw[setCells_size];exact h.1,fun j hj=>⟨?_,by rw[World.frozen?_setCells];exact(h.2 j (by omega)).2⟩⟩
 have:=hr j _ (bcells_at l' j hj)
 rwa [Nat.zero_add]at this
theorem bytes_made(w:World)(l:List UInt8)(C:Array Value)(t:TypeId)(hC:C.toList=bcells l):BytesAt (w.alloc (.cells C t)) w.heap.size l:=by
 refine⟨by simp,fun j hj=>⟨?_,by simp⟩⟩
 rw[World.cell?_alloc_mark];have:C[j]?=(bcells l)[j]?:=by rw[←hC];simp
 rw[this,bcells_at l j hj]
theorem results_key {fn:Func} {p q:Tmp} (h:fn.results= #[.cell p 272,.tmp q]) (tmps:Array Value) (w:World) (g:Nat) (l:List UInt8)
 (hp:tmps.getD p undef=.pointer (some ⟨g,0,none⟩)) (hc:BytesAt w g l) (hl:l.length=4):
 (results fn tmps).run Tryz.prog w=.ok (.tuple #[keyV l,tmps.getD q undef]) w:=by
 have hp':tmps[p]?.getD undef=.pointer (some ⟨g,0,none⟩):=by simpa using hp
 have hl:=run_loadVar_mid (P:=Tryz.prog) w g 0 272 (bcells l) _ (bytes_range hc) Tryz.underlying272 rfl (by rw[bcells_len,hl];exact info4)
 simp[results,h,hp',asAddr,hl,keyV]
theorem wpList_load_key {ops:Array Oper} {rest:List Oper} {op:Oper} {a:Act} {w:World} {Q:Exit→Act→World→Prop} (hgd:op.guard=none) (x:Operand) (ho:op.op=.load 272 x)
 (g:Nat) (hx:a.eval x=.pointer (some ⟨g,0,none⟩)) (l:List UInt8) (hc:BytesAt w g l) (hl:l.length=4)
 (h:wpList Tryz.prog ops Q rest (a.put op.dst (keyV l)) w):wpList Tryz.prog ops Q (op::rest) a w:=
 wpList_load_mid hgd 272 x ho g 0 hx (bcells l) _ (bytes_range hc) Tryz.underlying272 rfl (by rw[bcells_len,hl];exact info4) h
theorem wpList_store_key {ops:Array Oper} {rest:List Oper} {op:Oper} {a:Act} {w:World} {Q:Exit→Act→World→Prop} (hgd:op.guard=none) (x y:Operand) (ho:op.op=.store 272 x y)
 (g:Nat) (l old:List UInt8) (hx:a.eval x=.pointer (some ⟨g,0,none⟩)) (hy:a.eval y=keyV l)
 (hc:BytesAt w g old) (hl:l.length=4) (ho4:old.length=4)
 (h:∀w',w'=w.setCells g 0 (bcells l)→wpList Tryz.prog ops Q rest (a.put op.dst undef) w'):wpList Tryz.prog ops Q (op::rest) a w:=
 wpList_store_mid hgd 272 x y ho g 0 (bcells l).toArray hx hy (by rw[List.size_toArray,bcells_len,hl,←ho4];exact bytes_there hc) (by rw[List.size_toArray,bcells_len,hl];exact info4) (bcells_all l) (by have:=h _ rfl;simpa using this)
def fourAt(s:List UInt8)(k:Nat):List UInt8:=if k+4≤s.length then(s.drop k).take 4 else[0,0,0,0]
theorem fourAt_len(s:List UInt8)(k:Nat):(fourAt s k).length=4:=by
 unfold fourAt;split
 ·rw[List.length_take,List.length_drop];omega
 ·rfl
theorem conv_arr(g n C:Nat)(hn:4≤n)(W:World):(Instr.arrayAt 272 (.slice (some ⟨g,0,none⟩) n C)).run Tryz.prog W=.ok (.pointer (some ⟨g,0,none⟩)) W:=by
 have:¬n<4:=by omega
 simp[Instr.arrayAt,run_underlying Tryz.underlying272,this]
theorem start_any(s:ByteArray)(k:Nat)(w:World)(hs:s.size≤64)(hk:k≤s.size):
 Calls Tryz.prog 184 #[.string s,.int .i64 k] w fun e w'=>e=.returned (.tuple #[keyV (fourAt s.data.toList k),.bool (decide (k+4≤s.size))])∧Below w.heap.size w w':=by
 have hl:s.data.toList.length=s.size:=by simp
 go_enter Tryz.func184,Tryz.ntmps184;by_cases hlt:(s.size:Int)-k<4
 ·have hf:fourAt s.data.toList k=[0,0,0,0]:=by unfold fourAt;rw[if_neg (by omega)]
  have hd:decide (k+4≤s.size)=false:=decide_eq_false (by omega)
  rw[hf,hd];clear hf hd;have hv:=bytes_made w [0,0,0,0] #[Value.int .u8 0,Value.int .u8 0,Value.int .u8 0,Value.int .u8 0] 272 rfl;go_wp2;exact bodyPost_ret (results_key rfl _ _ _ _ rfl hv rfl) rfl ⟨rfl,(Below.refl _ _).alloc (Nat.le_refl _) _⟩
 ·have hd:decide (k+4≤s.size)=true:=decide_eq_true (by omega)
  rw[hd];have hv:=hide (bytes_made w [0,0,0,0] #[Value.int .u8 0,Value.int .u8 0,Value.int .u8 0,Value.int .u8 0] 272 rfl);obtain⟨u,hu⟩:∃u:ByteArray,u=s.extract k (k+4):=⟨_,rfl⟩;have hul:u.data.toList=fourAt s.data.toList k:=by
   rw[hu,Lib.extract_data];unfold fourAt;rw[if_pos (by omega)]
   simp
  have hsl:∀W,(Instr.slice 9 (.string s) (some (.int .i64 (k:Int))) (some (.int .i64 ((k:Int)+4))) none).run Tryz.prog W=.ok (.string u) W:=by
   intro W;rw[run_slice_string_if W 9 s .i64 .i64 _ _ Tryz.underlying9,if_pos (by omega),if_pos (by omega),hu]
   congr 3
  have hus:u.size=4:=by
   have:u.data.toList.length=u.size:=by simp
   rw[←this,hul,fourAt_len]
  obtain⟨w0,hw0⟩:∃w0,w0=w.alloc (.cells #[Value.int .u8 0,Value.int .u8 0,Value.int .u8 0,Value.int .u8 0] 272):=⟨_,rfl⟩;obtain⟨C,w1,hcv,hb1,hby⟩:=bytes_new w0 u;rw[hw0,hus]at hcv;rw[hul]at hby;have hca:=conv_arr w0.heap.size 4 C (by omega)
  have hsz:w0.heap.size=w.heap.size+1:=by rw[hw0];simp
  rw[hsz]at hca hby hb1;rw[hw0]at hb1;have hsz2:(w.alloc (.cells #[Value.int .u8 0,Value.int .u8 0,Value.int .u8 0,Value.int .u8 0] 272)).heap.size=w.heap.size+1:=by rw[←hw0,hsz]
  rw[hsz2]at hcv;have HB:=hide hb1;have HY:=hide hby;clear hb1 hby hul hu hd hl hw0 hsz hsz2 w0;go_wp2_with (first
   |refine wpList_load_key rfl _ rfl _ rfl _ HY.out (fourAt_len _ _) ?_
   |(refine wpList_store_key rfl _ _ rfl w.heap.size _ [0,0,0,0] rfl rfl (hv.out.below HB.out (by simp)) (fourAt_len _ _) rfl ?_;intro w2 hw2;have HW:=hide hw2;clear hw2)
   |go_in)
  have h2:=(hv.out.below HB.out (by simp)).store (fourAt s.data.toList k) (fourAt_len _ _)
  have hb2:Below w.heap.size w w2:=by
   rw[HW.out];exact below_cells (Nat.le_refl _) _ _ _ (((Below.refl _ _).alloc (Nat.le_refl _) _).trans (HB.out.mono (by omega)))
  rw[←HW.out]at h2;exact bodyPost_ret (results_key rfl _ _ _ _ rfl h2 (fourAt_len _ _)) rfl ⟨rfl,hb2⟩
end Go.Proofs.YtiicghepilbgfaaGreatDoor
namespace Go.Proofs.YtiicghepilbgfaaGreatDoor
open Go.RowKit Go.Maps Go.WideElems Go.MapKept
open Go.WideMaps (KeyLaw)
open Go.ChangeMaps (setBlock heap_setBlock_same heap_setBlock_other)
section
variable {H : Type} {P : Program} {k : TypeId} {w w0 : World} {base : Nat} {e : TypeId} {q : IntKind} {b n : Nat} {D : DataW H} {t E : TypeId}
theorem setBlock_inj{w:World}{b:Nat}{o o1 o2:Obj}(hb:w.heap[b]?=some o)(h:setBlock w b o1=setBlock w b o2):o1=o2:=by
 have hlt:b<w.heap.size:=(Array.getElem?_eq_some_iff.1 hb).1;have:=congrArg (fun x:World=>x.heap[b]?) h
 simpa[setBlock,hlt]using this
theorem upd_same (K:KeyLaw P k) (ht:P.underlying t=some (.map k E)) {es:Array MapEntry} {clock:Nat} (hb:w.heap[b]?=some (.map es clock)) (hb0:w0.heap[b]?=some (.map es clock))
 {R:Value→Option (DataW H×List MemPlace)} (F:Fit P k R es clock) {key val:Value} {kl:Lit} (hkey:keyOf P k key=some kl) {o:Obj}
 (h:(Instr.mapUpdate t (.map (some b)) key val).run P w=.ok () (setBlock w b o)):(Instr.mapUpdate t (.map (some b)) key val).run P w0=.ok () (setBlock w0 b o):=by
 obtain⟨s1,s2,s3⟩:=F.stamped;rcases K.find w hkey es.toList F.keys with⟨h1,h2⟩|⟨j,e0,h1,h2,h3⟩
 ·rcases K.find w0 hkey es.toList F.keys with⟨g1,g2⟩|⟨j',e0',g1,g2,g3⟩
  ·have e1:(Instr.mapUpdate t (.map (some b)) key val).run P w=.ok () (setBlock w b (.map (es.push ⟨key,val,clock⟩) (clock+1))):=by
    simp[Instr.mapUpdate,run_underlying ht,MapKept.run_getObj_map hb,K.check w false hkey,h1,MapKept.run_setObj_map _ hb,Result.andThen,setBlock]
   rw[h]at e1;obtain rfl:=setBlock_inj hb (by simpa using e1)
   simp[Instr.mapUpdate,run_underlying ht,MapKept.run_getObj_map hb0,K.check w0 false hkey,g1,MapKept.run_setObj_map _ hb0,Result.andThen,setBlock]
  ·exact absurd g3 (h2 _ (List.mem_of_getElem? g2))
 ·rcases K.find w0 hkey es.toList F.keys with⟨g1,g2⟩|⟨j',e0',g1,g2,g3⟩
  ·exact absurd h3 (g2 _ (List.mem_of_getElem? h2))
  ·have hjj:j=j':=by
    obtain⟨a1,a2⟩:=List.getElem?_eq_some_iff.1 h2;obtain⟨b1,b2⟩:=List.getElem?_eq_some_iff.1 g2;have:=(List.getElem?_inj (i:=j) (j:=j') (by simpa using a1) s3).1 (by rw[List.getElem?_map,List.getElem?_map,h2,g2,Option.map_some,Option.map_some,h3,g3])
    exact this
   subst hjj;have hj:es[j]?=some e0:=by simpa using h2
   have e1:(Instr.mapUpdate t (.map (some b)) key val).run P w=.ok () (setBlock w b (.map (es.modify j (fun e'=>{e' with key:=key,val:=val})) clock)):=by
    simp[Instr.mapUpdate,run_underlying ht,MapKept.run_getObj_map hb,K.check w false hkey,h1,hj,h3,K.stays w hkey,MapKept.run_setObj_map _ hb,Result.andThen,setBlock]
   rw[h]at e1;obtain rfl:=setBlock_inj hb (by simpa using e1)
   have g2':e0'=e0:=by rw[h2]at g2;simpa using g2.symm
   subst g2';simp[Instr.mapUpdate,run_underlying ht,MapKept.run_getObj_map hb0,K.check w0 false hkey,g1,hj,h3,K.stays w0 hkey,MapKept.run_setObj_map _ hb0,Result.andThen,setBlock]
theorem grown_setB{w:World}{b:Nat}{es:Array MapEntry}{clock:Nat}(o':Obj)(hb:w.heap[b]?=some (.map es clock)):w.grownBy (setBlock w b o') (some b):=
 ⟨rfl,rfl,rfl,by simp[setBlock],fun i _ hi=>heap_setBlock_other hb _ (fun e1=>hi (by rw[e1]))⟩
def EntryBack(w1:World)(P:Program)(t k:TypeId)(base:Nat)(e:TypeId)(q:IntKind)(b n:Nat)(D:DataW H)(kl:Lit)(v:Value)(st:Nat)(No:Nat→Prop):Prop:=
 ∀(w2:World) (v':Value) (zs':List Int),w1.grownBy w2 v.ownBlock→w2.ownsInts base e q v' zs'→zs'.length≤n+1→(v'.ownBlock=v.ownBlock∨∃g,v'.ownBlock=some g∧w1.heap.size≤g)→(∀g,v'.ownBlock=some g→¬No g)→
  ∃w3,(Instr.entryStore t (.map (some b)) (goInt st) v').run P w2=.ok () w3∧w3.ownsGroups P k base e q b (n+1) (D.put kl (rowDatum q v' zs'))∧w2.grownBy w3 (some b)∧w3.Shuns b No
theorem entry_groups{key:Value}{kl:Lit}{No:Nat→Prop}(h:w.ownsGroups P k base e q b n D)(K:KeyLaw P k)(ht:P.underlying t=some (.map k E))(hz:∀u:World,(zeroValue E).run P u=.ok (.slice none 0 0) u)(hn:n<maxLen)(hkey:keyOf P k key=some kl)(hsh:w.Shuns b No):
 ∃(v:Value) (zs:List Int) (st:Nat) (w1:World),(Instr.mapEntry t (.map (some b)) key).run P w=.ok (.tuple #[v,goInt st]) w1∧D.atKey kl .nil=rowDatum q v zs∧w1.ownsInts base e q v zs∧zs.length≤n∧w.grownBy w1 (some b)∧w1.heap.size=w.heap.size∧
  (∀g,v.ownBlock=some g→¬No g)∧EntryBack w1 P t k base e q b n D kl v st No:=by
 have K':=Keyed.of_law K;have hown:=h;obtain⟨v,zs,hrun,hat,hoi,hzl,hback⟩:=h.at K' ht (hz w) hn hkey;obtain⟨es,clock,hb,F,hs,hD,hbb,hlen,hap⟩:=h;obtain⟨v0,st,es1,clock1,hent,hv0,hst⟩:=entry_then_store K ht hz hb F hkey;have hblt:b<w.heap.size:=(Array.getElem?_eq_some_iff.1 hb).1;have hvv:v0=v:=by
  rcases Maps.fit_look false K' ht (hz w) hb F hkey with⟨hrun',hno,_⟩|⟨e0,y,hm0,h3,hrun',_,_,_⟩
  ·rw[hrun]at hrun';obtain rfl:v=.slice none 0 0:=by simpa using hrun'
   rcases hv0 with⟨e1,hm1,hk1,rfl⟩|⟨_,rfl⟩
   ·exact absurd hk1 (hno e1 hm1)
   ·rfl
  ·rw[hrun]at hrun';obtain rfl:v=e0.val:=by simpa using hrun'
   rcases hv0 with⟨e1,hm1,hk1,rfl⟩|⟨hno,rfl⟩
   ·obtain⟨_,_,s3⟩:=F.stamped;obtain⟨i,hi,rfl⟩:=List.getElem_of_mem hm1;obtain⟨i',hi',rfl⟩:=List.getElem_of_mem hm0;have:i=i':=(List.getElem?_inj (by simpa using hi) s3).1 (by rw[List.getElem?_map,List.getElem?_map,List.getElem?_eq_getElem hi,List.getElem?_eq_getElem hi',Option.map_some,Option.map_some,hk1,h3])
    subst this;rfl
   ·exact absurd h3 (hno e0 hm0)
 subst hvv;have hvb:v0.ownBlock≠some b:=fun e1=>by have:=(hoi.1.lt b e1).1;omega
 have hg1:w.grownBy (setBlock w b (.map es1 clock1)) (some b):=grown_setB _ hb;refine⟨v0,zs,st,setBlock w b (.map es1 clock1),hent,hat,hoi.kept hg1 (Or.inr hvb),hzl,hg1,by simp[setBlock],?_,?_⟩
 ·intro g hg;rcases hv0 with⟨e1,hm1,_,rfl⟩|⟨_,rfl⟩
  ·exact hsh es clock hb e1 hm1 g hg
  ·cases hg
 ·intro w2 v' zs' hg hown' hl' hloc hno;have hsz1:(setBlock w b (.map es1 clock1)).heap.size=w.heap.size:=by simp[setBlock]
  have hb2:w2.heap[b]?=some (.map es1 clock1):=(hg.block b (by rw[hsz1];exact hblt) (fun e1=>hvb e1.symm)).trans (heap_setBlock_same hb _)
  obtain⟨es',clock',hstore,hupd⟩:=hst w2 v' hb2;have hv'b:v'.ownBlock≠some b:=fun e1=>by have:=(hown'.1.lt b e1).1;omega
  -- the world with the map as it was
  have hg2:w2.grownBy (setBlock w2 b (.map es clock)) (some b):=grown_setB _ hb2;have hb3:(setBlock w2 b (.map es clock)).heap[b]?=some (.map es clock):=heap_setBlock_same hb2 _;have hgw:w.grownBy (setBlock w2 b (.map es clock)) v0.ownBlock:=by
   refine⟨hg.os,hg.tape,hg.output,?_,fun i hi hne=>?_⟩
   ·have:=hg.size;rw[hsz1]at this
    simpa[setBlock]using this
   ·by_cases hib:i=b
    ·subst hib;rw[hb3,hb]
    ·rw[heap_setBlock_other hb2 _ hib,hg.block i (by rw[hsz1];exact hi) hne,heap_setBlock_other hb _ hib]
  obtain⟨w3,hrun3,hown3,hg3⟩:=hback (setBlock w2 b (.map es clock)) v' zs' hgw (hown'.kept hg2 (Or.inr hv'b)) hl' (by rw[hsz1]at hloc;exact hloc)
  have hu3:=upd_same (w0:=setBlock w2 b (.map es clock)) K ht hb hb3 F hkey hupd;rw[hrun3]at hu3;obtain rfl:w3=setBlock (setBlock w2 b (.map es clock)) b (.map es' clock'):=by simpa using hu3
  have hss:setBlock (setBlock w2 b (.map es clock)) b (.map es' clock')=setBlock w2 b (.map es' clock'):=by
   unfold setBlock;simp
  rw[hss]at hown3;refine⟨_,hstore,hown3,grown_setB _ hb2,?_⟩;obtain⟨es2,clock2,hb4,hwho⟩:=stored_who (R:=rowElem (H:=H) w base e q) K' ht hb3 F (Nat.lt_of_le_of_lt hs hn) hkey hrun3;rw[hss,heap_setBlock_same hb2]at hb4;intro es5 clock5 hb5 y hy g hyg;rw[heap_setBlock_same hb2]at hb5;obtain⟨rfl,rfl⟩:es'=es5∧clock'=clock5:=by simpa using hb5
  obtain⟨rfl,rfl⟩:es'=es2∧clock'=clock2:=by simpa using hb4
  rcases hwho y hy with⟨hy0,_⟩|⟨_,hval⟩
  ·exact hsh es clock hb y hy0 g hyg
  ·exact hno g (hval▸hyg)
end
end Go.Proofs.YtiicghepilbgfaaGreatDoor
