/-
  ShM; ShN; ShTo; ShEq; ZsMk
-/
import Derived.Test.YtiicghepilbgfaaGreatDoorPk0
import Derived.Test.YtiicghepilbgfaaGreatDoorPk1
import Derived.Deep.RegionHeld3
import Derived.Deep.DeepCutAuto
set_option maxHeartbeats 2000000
set_option maxRecDepth 100000
namespace Go.Proofs.YtiicghepilbgfaaGreatDoor
namespace Words
structure Sh where
 vol:Int
 texts:List ByteArray
end Words
end Go.Proofs.YtiicghepilbgfaaGreatDoor
namespace Go.Proofs.YtiicghepilbgfaaGreatDoor
open Go.RowKit
open Words
theorem infoSh:(Tryz.prog.info? 75).map (fun i=>(i.zero,i.size,i.bytes))=some (some (.agg #[.int .i64 0,.slice none 0 0]),2,32):=by kernel_rfl
abbrev Hw:=Int×Value×List ByteArray
def shcell(t:Hw):List Value:=[.int .i64 t.1,t.2.1]
def shcells(l:List Hw):List Value:=l.flatMap shcell
def htell(t:Hw):Sh:=⟨t.1,t.2.2⟩
theorem shcells_len(l:List Hw):(shcells l).length=l.length*2:=by
 induction l with
 |nil=>rfl
 |cons t l ih=>simp[shcells,shcell]at ih⊢;omega
theorem shcells_app(a b:List Hw):shcells (a++b)=shcells a++shcells b:=by simp[shcells]
theorem shcells_cons(t:Hw)(l:List Hw):shcells (t::l)=shcell t++shcells l:=by simp[shcells]
theorem shcells_snoc(l:List Hw)(t:Hw):shcells l++shcell t=shcells (l++[t]):=by rw[shcells_app];simp[shcells]
theorem shcells_at(l:List Hw)(k:Nat)(t:Hw)(h:l[k]?=some t)(j:Nat)(v:Value)(hj:(shcell t)[j]?=some v):(shcells l)[k*2+j]?=some v:=by
 have hlt:j<2:=(List.getElem?_eq_some_iff.1 hj).1
 induction l generalizing k with
 |nil=>simp at h
 |cons a l ih=>
  rw[shcells_cons];cases k with
  |zero=>
   simp at h;subst h;rw[List.getElem?_append_left (by show _<2;omega),Nat.zero_mul,Nat.zero_add]
   exact hj
  |succ k=>
   rw[List.getElem?_append_right (by show 2≤_;omega),show(k+1)*2+j-(shcell a).length=k*2+j by show _-2=_;omega]
   exact ih k (by simpa using h)
def zcells(l:List ByteArray):List Value:=l.map Value.string
theorem zcells_len(l:List ByteArray):(zcells l).length=l.length:=by simp[zcells]
theorem zcells_at(l:List ByteArray)(k:Nat)(h:k<l.length):(zcells l)[k]?=some (.string l[k]):=by simp[zcells,h]
theorem zcells_get{l:List ByteArray}{k:Nat}{x:ByteArray}(h:l[k]?=some x):(zcells l)[k]?=some (.string x):=by
 obtain⟨h1,h2⟩:=List.getElem?_eq_some_iff.1 h;rw[zcells_at l k h1,h2]
def HLone(rs:List Hw):Prop:=rs.Pairwise (fun a b=>∀g,a.2.1.ownBlock=some g→b.2.1.ownBlock≠some g)
def HOwn(W:World)(B:Nat)(v:Value)(rs:List Hw):Prop:=
 W.ownsRow B 75 2 v rs.length (shcells rs)∧(∀r∈rs,Sli 9 B W.heap.size r.2.1 r.2.2.length (zcells r.2.2) W∧r.2.2.length≤maxLen)∧HLone rs
def HIn(lo hi:Nat)(v:Value)(rs:List Hw)(W:World):Prop:=
 Sli 75 lo hi v rs.length (shcells rs) W∧(∀r∈rs,Sli 9 lo hi r.2.1 r.2.2.length (zcells r.2.2) W∧r.2.2.length≤maxLen)∧HLone rs∧rs.length≤maxLen
def Shs(lo hi:Nat)(v:Value)(M:List Sh):World→Prop:=fun W=>∃rs:List Hw,rs.map htell=M∧HIn lo hi v rs W
theorem str_ne_sh{w:World}{g:Nat}{cs cs':Array Value}(h:w.heap[g]?=some (.cells cs 9 (0,0)))(h':w.heap[g]?=some (.cells cs' 75 (0,0))):False:=by
 rw[h]at h';injection h' with h'
 injection h' with _ h'
 simp at h'
theorem HOwn.below{W W':World}{B:Nat}{v:Value}{rs:List Hw}(h:HOwn W B v rs)(b:Below W.heap.size W W'):HOwn W' B v rs:=
 ⟨own_below h.1 b,fun r hr=>⟨((h.2.1 r hr).1.blw b).up b.size,(h.2.1 r hr).2⟩,h.2.2⟩
theorem HOwn.down{W:World}{B B':Nat}{v:Value}{rs:List Hw}(h:HOwn W B v rs)(hB:B'≤B):HOwn W B' v rs:=
 ⟨own_lower h.1 hB,fun r hr=>⟨(h.2.1 r hr).1.dn hB,(h.2.1 r hr).2⟩,h.2.2⟩
theorem HOwn.empty(W:World)(B:Nat)(hB:B≤W.heap.size):HOwn (W.alloc (.cells #[] 75)) B (.slice (some ⟨W.heap.size,0,none⟩) 0 0) []:=
 ⟨⟨rfl,.inr ⟨W.heap.size,0,#[],rfl,hB,heap_alloc_new W _,Nat.le_refl _,by unfold maxLen;omega,rfl,rfl⟩⟩,(fun _ h=>by cases h),List.Pairwise.nil⟩
theorem HOwn.snoc {W0 W y:World} {B:Nat} {v u':Value} {rs:List Hw} {r:Hw} (h0:HOwn W0 B v rs) (hb:Below W0.heap.size W0 W) (hB:B≤W0.heap.size) (hr:Sli 9 W0.heap.size W.heap.size r.2.1 r.2.2.length (zcells r.2.2) W) (hm:r.2.2.length≤maxLen)
 (hg:W.grownBy y v.ownBlock) (ho:y.ownsRow B 75 2 u' (rs++[r]).length (shcells (rs++[r]))):HOwn y B u' (rs++[r]):=by
 have h:=h0.below hb;have hk:=own_kind h.1;have far:∀(t:Value) (g:Nat),v.ownBlock=some g→∀{lo hi n:Nat} {xs:List Value},Sli 9 lo hi t n xs W→t.ownBlock≠some g:=by
  intro t g hg lo hi n xs hs e;obtain⟨-,-,cs,q⟩:=hk g hg;obtain⟨-,-,cs',q'⟩:=hs.lt g e;exact str_ne_sh q' q
 refine⟨ho,?_,?_⟩
 ·intro x hx;rcases List.mem_append.1 hx with hx|hx
  ·exact⟨((h.2.1 x hx).1.grown hg (fun g e e2=>far _ g e2 (h.2.1 x hx).1 e)).up hg.size,(h.2.1 x hx).2⟩
  ·simp only[List.mem_singleton]at hx;subst hx;exact⟨((hr.grown hg (fun g e e2=>far _ g e2 hr e)).dn hB).up hg.size,hm⟩
 ·refine List.pairwise_append.2 ⟨h.2.2,List.pairwise_singleton _ _,?_⟩;intro a ha b hb2 g e1 e2;simp only[List.mem_singleton]at hb2;subst hb2;have q1:=((h0.2.1 a ha).1.lt g e1).2.1;have q2:=(hr.lt g e2).1;omega
theorem HOwn.form{W:World}{B:Nat}{v:Value}{rs:List Hw}(h:HOwn W B v rs):∃ad c,v=.slice ad rs.length c:=by
 rcases h.1.2 with⟨rfl,h0⟩|⟨g,cap,cur,rfl,-⟩
 ·exact⟨_,_,by rw[h0]⟩
 ·exact⟨_,_,rfl⟩
theorem HOwn.len{W:World}{B:Nat}{v:Value}{rs:List Hw}(h:HOwn W B v rs):rs.length≤maxLen:=by
 rcases h.1.2 with⟨rfl,h0⟩|⟨g,cap,cur,rfl,-,-,h1,h2,-⟩
 ·rw[h0];unfold maxLen;omega
 ·omega
theorem HOwn.kns{W:World}{B:Nat}{v:Value}{rs:List Hw}(h:HOwn W B v rs):HIn B W.heap.size v rs W:=⟨Sli.of h.1,h.2.1,h.2.2,h.len⟩
theorem HIn.loc(lo hi:Nat)(v:Value)(rs:List Hw):Loc lo hi (HIn lo hi v rs):=by
 intro w w' hk h;exact⟨Sli.loc _ _ _ _ _ _ w w' hk h.1,fun r hr=>⟨Sli.loc _ _ _ _ _ _ w w' hk (h.2.1 r hr).1,(h.2.1 r hr).2⟩,h.2.2⟩
theorem Shs.loc(lo hi:Nat)(v:Value)(M:List Sh):Loc lo hi (Shs lo hi v M):=by
 rintro w w' hk ⟨rs,h1,h2⟩;exact⟨rs,h1,HIn.loc _ _ _ _ w w' hk h2⟩
theorem infoZs:(Tryz.prog.info? 9).map (fun i=>(i.zero,i.size,i.bytes))=some (some (.string ⟨#[]⟩),1,16):=by kernel_rfl
theorem eqZs_same(a b:Value)(M:List ByteArray)(n:Nat)(B1 C1 B2 C2:Nat)(w:World)(hn:M.length=n)(hM:n≤1000000000000000000)(ha:Sli 9 B1 C1 a n (zcells M) w)(hb:Sli 9 B2 C2 b n (zcells M) w):
 Calls Tryz.prog 52 #[a,b] w fun e w'=>e=.returned (.bool true)∧Below w.heap.size w w':=by
 obtain⟨ad,capa,rfl,a3⟩:=ha.form;obtain⟨bd,capb,rfl,b3⟩:=hb.form;have HSA:=hide ha;have HSB:=hide hb;have A3:=hide a3;have B3:=hide b3;have HN:=hide hn;clear ha hb a3 b3 hn;go_enter Tryz.func52,Tryz.ntmps52;go_wp2;go_loopw [5] (fun iv wr=>∃k:Nat,k≤n∧iv=.int .i64 k∧Hid (∃q,wr=w.drewN q)) (fun iv _=>n-(intOf iv).toNat)
 case atStart=>exact⟨0,Nat.zero_le _,rfl,⟨0,rfl⟩⟩
 case round=>
  obtain⟨k,hk,rfl,HQ⟩:=hrel;obtain⟨q,hq⟩:=HQ.out;subst hq;clear HQ;by_cases hlt:(k:Int)<n
  ·obtain⟨ga,e,-,-⟩:=A3.out (by omega)
   subst e;obtain⟨gb,e,-,-⟩:=B3.out (by omega)
   subst e;obtain⟨x,hx⟩:∃x,M[k]?=some x:=⟨_,List.getElem?_eq_getElem (by have:=HN.out;omega)⟩
   have c1:=HSA.out.flt.cell (zcells_get hx);have c2:=HSB.out.flt.cell (zcells_get hx);have k0:(0:Int)≤k:=by omega
   clear hx;go_wp2;go_quiet (fail);go_wp2;go_roundw
   case rel=>exact⟨k+1,by omega,by go_num,⟨_,rfl⟩⟩
   case measure=>simp[intOf];omega
  ·go_wp2;go_ret;exact⟨rfl,below_drewN (Below.refl _ _) _⟩
theorem eqSh_same(x:Int)(n:Nat)(a1 a2:Option Addr)(c1 c2:Nat)(ls:List ByteArray)(B1 C1 B2 C2:Nat)(w:World)(hn:ls.length=n)(hM:n≤1000000000000000000)(h1:Sli 9 B1 C1 (.slice a1 n c1) n (zcells ls) w)(h2:Sli 9 B2 C2 (.slice a2 n c2) n (zcells ls) w):
 Calls Tryz.prog 29 #[.agg #[.int .i64 x,.slice a1 n c1],.agg #[.int .i64 x,.slice a2 n c2]] w fun e w'=>e=.returned (.bool true)∧Below w.heap.size w w':=by
 have e0:(x !=x)=false:=by simp
 have HB:Hid (Below w.heap.size w ((w.alloc (.cells #[.int .i64 x,.slice a1 n c1] 75)).alloc (.cells #[.int .i64 x,.slice a2 n c2] 75))):=((Below.refl _ _).alloc (Nat.le_refl _) _).alloc (by simp) _
 have C:=hide (eqZs_same _ _ ls n B1 C1 B2 C2 _ hn hM (h1.blw HB.out) (h2.blw HB.out));clear h1 h2;go_enter Tryz.func29,Tryz.ntmps29;go_wp2_with fail;refine C.out.mono ?_;rintro e w1 ⟨rfl,b1⟩;have HW:=hide (HB.out.trans (b1.mono HB.out.size));clear b1 C HB;go_wp2;go_ret;exact⟨rfl,HW.out⟩
theorem eqShs_same(a b:Value)(rs ss:List Hw)(B1 C1 B2 C2:Nat)(w:World)(hM:rs.length≤1000000000000000000)(hll:∀r∈rs,r.2.2.length≤1000000000000000000)(ha:HIn B1 C1 a rs w)(hb:HIn B2 C2 b ss w)(he:rs.map htell=ss.map htell):
 Calls Tryz.prog 13 #[a,b] w fun e w'=>e=.returned (.bool true)∧Below w.heap.size w w':=by
 have hls:rs.length=ss.length:=by have:=congrArg List.length he;simpa using this
 obtain⟨ad,capa,rfl,a3⟩:=ha.1.form;obtain⟨bd,capb,rfl,b3⟩:=hb.1.form;obtain⟨n,hn⟩:∃n,rs.length=n:=⟨_,rfl⟩;have HN:=hide hn;have HSA:=hide ha;have HSB:=hide hb;have HE:=hide he;have HLL:=hide hll;rw[hn]at hls;rw[←hls]at b3 HSB⊢;rw[hn]at hM a3 HSA⊢;have A3:=hide a3;have B3:=hide b3;have HLS:=hide hls;clear a3 b3 ha hb hn he hll hls;go_enter Tryz.func13,Tryz.ntmps13;go_wp2;go_loopw [5] (fun iv wr=>∃k:Nat,k≤n∧iv=.int .i64 k∧Hid (Below w.heap.size w wr)) (fun iv _=>n-(intOf iv).toNat)
 case atStart=>exact⟨0,Nat.zero_le _,rfl,Below.refl _ _⟩
 case round=>
  obtain⟨k,hk,rfl,HW⟩:=hrel;by_cases hlt:(k:Int)<n
  ·obtain⟨ga,e,_,_⟩:=A3.out (by omega)
   subst e;obtain⟨gb,e,_,_⟩:=B3.out (by omega)
   subst e;have hkl:k<rs.length:=by have:=HN.out;omega
   have hkl2:k<ss.length:=by have:=HLS.out;omega
   obtain⟨r,hr⟩:∃r,rs[k]?=some r:=⟨_,List.getElem?_eq_getElem hkl⟩;obtain⟨s,hs⟩:∃s,ss[k]?=some s:=⟨_,List.getElem?_eq_getElem hkl2⟩;have hrs:htell r=htell s:=by
    have e:=congrArg (fun l=>l[k]?) HE.out
    simp only[List.getElem?_map,hr,hs,Option.map_some,Option.some.injEq]at e;exact e
   have SA:=(HSA.out.2.1 r (List.mem_of_getElem? hr)).1.blw HW.out;have SB:=(HSB.out.2.1 s (List.mem_of_getElem? hs)).1.blw HW.out;have hlr:=HLL.out r (List.mem_of_getElem? hr);have ha1:=HSA.out.1;have hb1:=HSB.out.1;rw[HN.out]at ha1;rw[←HLS.out]at hb1;have GA:=ha1.flt.below HW.out;have GB:=hb1.flt.below HW.out;clear ha1 hb1;have c0:=GA.cell (shcells_at rs k _ hr 0 _ rfl);have c1:=GA.cell (shcells_at rs k _ hr 1 _ rfl);have d0:=GB.cell (shcells_at ss k _ hs 0 _ rfl);have d1:=GB.cell (shcells_at ss k _ hs 1 _ rfl);obtain⟨rn,rv,rl⟩:=r;obtain⟨sn,sv,sl⟩:=s;simp only[htell,Sh.mk.injEq]at hrs;obtain⟨rfl,rfl⟩:=hrs;simp only[Nat.add_zero]at SA SB c0 c1 d0 d1 hlr;obtain⟨m,hm⟩:∃m,rl.length=m:=⟨_,rfl⟩;rw[hm]at SA SB hlr;obtain⟨va,vc,rfl,-⟩:=SA.form;obtain⟨ua,uc,rfl,-⟩:=SB.form;have CE:=hide (eqSh_same rn m va ua vc uc rl _ _ _ _ wr.drew hm hlr (SA.blw (Below.refl _ _).drew) (SB.blw (Below.refl _ _).drew));have hsz:=HW.out.size;have k0:(0:Int)≤k:=by omega
   have gaw:ga<wr.heap.size:=World.block_lt_of_cell? wr _ c0;have gbw:gb<wr.heap.size:=World.block_lt_of_cell? wr _ d0;clear hr hs hkl hkl2 GA GB SA SB hm;go_wp2;go_region_held3 (fun w'=>w'.cell? ⟨ga,k*2,none⟩=some (.int .i64 rn)∧w'.cell? ⟨ga,k*2+1,none⟩=some (.slice va m vc)∧w'.cell? ⟨gb,k*2,none⟩=some (.int .i64 rn)∧w'.cell? ⟨gb,k*2+1,none⟩=some (.slice ua m uc)) (first|go_keep|exact⟨(b1.cell (show ga<wr.drew.heap.size from gaw)).trans c0,(b1.cell (show ga<wr.drew.heap.size from gaw)).trans c1,(b1.cell (show gb<wr.drew.heap.size from gbw)).trans d0,(b1.cell (show gb<wr.drew.heap.size from gbw)).trans d1⟩) ((go_at_call 29;(with_reducible refine Calls.mono CE.out ?_);rintro en w1 ⟨rfl,b1⟩))
   all_goals
    have HW1:=hide (HW.out.drew.trans (b1.mono (show w.heap.size≤wr.drew.heap.size from hsz)));clear b1 CE HW c0 c1 d0 d1;go_wp2;go_roundw
    case rel=>exact⟨k+1,by omega,by go_num,HW1⟩
    case measure=>simp[intOf];omega
  ·go_wp2;go_ret;exact⟨rfl,HW.out⟩
end Go.Proofs.YtiicghepilbgfaaGreatDoor
namespace Go.Proofs.YtiicghepilbgfaaGreatDoor
open Go.RowKit
def patZs:List Bool:=[true]
theorem markZs_any(lo hi:Nat)(a:Value)(n k0:Nat)(xs:List Value)(w:World)(hn:n≤1000000000)(hxs:xs.length=n)(hk0:0<k0)(hk1:k0≤100000000000)(hh:hi≤w.heap.size)(ha:Sli 9 lo hi a n xs w):
 Calls Tryz.prog 34 #[a,.int .i64 (k0:Int)] w fun e w'=>e=.returned (.int .i64 ((k0+n:Nat):Int))∧Hid (Sli 9 lo hi a n (mkFlat patZs k0 n) w')∧Hid (Kept2 w w' (Apt lo hi)):=by
 obtain⟨ad,ca,rfl,a3⟩:=ha.form;have A3:=hide a3;obtain⟨M,hM⟩:∃M,mkFlat patZs k0 n=M:=⟨_,rfl⟩;have HML:Hid (M.length=xs.length):=by show _=_;rw[←hM,mkFlat_len,hxs];simp[patZs]
 have HMA:Hid (∀(i j:Nat) (s:Bool),i<n→patZs[j]?=some s→M[i+j]?=some (mkv s (k0+(i+j)))):=by
  intro i j s h1 h2;rw[←hM];have:=mkFlat_at patZs k0 n i j s h1 h2
  simpa[patZs]using this
 have HXS:=hide hxs;have HA:=hide ha;have F00:Hid (∀g,ad=some ⟨g,0,none⟩→Flt 9 g (M.take (0)++xs.drop (0)) w):=by
  rintro g rfl;have:=ha.flt
  simpa using this
 rw[hM];clear ha a3 hxs hM;go_enter Tryz.func34,Tryz.ntmps34;go_wp2;go_loopw [1,5] (fun mv iv wr=>∃i m:Nat,i≤n∧iv=.int .i64 i∧mv=.int .i64 m∧m≤200000000000∧Hid (m=k0+i)∧Hid (∀g,ad=some ⟨g,0,none⟩→Flt 9 g (M.take (i)++xs.drop (i)) wr)∧Hid (Kept2 w wr (Apt lo hi))) (fun _ iv _=>n-(intOf iv).toNat)
 case atStart=>exact⟨0,k0,Nat.zero_le _,rfl,rfl,by omega,(by show _=_;omega),F00,Kept2.refl _ _⟩
 case round=>
  obtain⟨i,m,hin,rfl,rfl,hm,HM,HF,HK⟩:=hrel;clear F00;by_cases hlt:(i:Int)<n
  ·obtain⟨g,e,g1,g2⟩:=A3.out (by omega)
   subst e;have i0:(0:Int)≤i:=by omega
   have F0:=hide (HF.out g rfl);have K0:=hide HK.out;have hwz:=HK.out.2.2.2.1;have hm2:m+1≤200000000000:=by have:=HM.out;omega
   have hm1:0<m:=by have:=HM.out;omega
   have Q0:Hid (hi≤wr.heap.size):=(by show _≤_;omega)
   obtain⟨m1,e1⟩:∃m1:Nat,m1=m+1:=⟨_,rfl⟩;have ei1:(m:Int)+1=m1:=by omega
   have E1:=hide e1;clear e1;clear HF HK hwz;obtain⟨u0,hu0⟩:∃u,xs[i]?=some u:=⟨_,List.getElem?_eq_getElem (by have:=HXS.out;omega)⟩
   have HU0:=hide hu0;clear hu0;go_wp2_with fail;refine(markText_int (m:Int) m rfl _ (by have:=HM.out;omega) (by have:=HM.out;omega)).mono ?_
   rintro e y0 ⟨rfl,b0⟩;have G0:=hide (F0.out.below b0);have KK0:Hid (Kept2 w y0 (Apt lo hi)):=K0.out.trans (Kept2.below b0);have QQ0:Hid (hi≤y0.heap.size):=Nat.le_trans Q0.out b0.size;clear F0 K0 Q0 b0;have F0:=hide G0.out;have K0:=hide KK0.out;have Q0:=hide QQ0.out;clear G0 KK0 QQ0;have hu0:=HU0.out;clear HU0;have c0:y0.cell? ⟨g,i,none⟩=some u0:=F0.out.old hu0 HML.out;have f0:=F0.out.frozen (i);have F1:Hid (Flt 9 g (M.take (i+1)++xs.drop (i+1)) (y0.setCell ⟨g,i,none⟩ (.string ⟨(markL m).toArray⟩))):=by
    refine F0.out.step ?_ HML.out;have h1:=HMA.out i 0 true (by omega) rfl
    rw[show k0+(i+0)=m by have:=HM.out;omega]at h1
    exact h1
   have K1:Hid (Kept2 w (y0.setCell ⟨g,i,none⟩ (.string ⟨(markL m).toArray⟩)) (Apt lo hi)):=K0.out.trans ⟨rfl,rfl,rfl,by simp,fun q _ hne=>Below.heap_setCell _ _ _ _ (fun(e:q=g)=>hne ⟨by omega,by omega⟩)⟩
   have Q1:Hid (hi≤(y0.setCell ⟨g,i,none⟩ (.string ⟨(markL m).toArray⟩)).heap.size):=(by show _≤_;simp only[World.setCell,Array.size_modify];exact Q0.out)
   clear F0 K0 Q0 hu0;have FE:Hid (∀g',some (⟨g,0,none⟩:Addr)=some ⟨g',0,none⟩→Flt 9 g' (M.take ((i+1))++xs.drop ((i+1))) (y0.setCell ⟨g,i,none⟩ (.string ⟨(markL m).toArray⟩))):=by
    intro g' e;injection e with e
    injection e with e
    subst e;have:=F1.out;exact this
   clear F1 Q1;go_wp2;clear c0 f0;go_roundw
   case rel=>exact⟨i+1,m1,by omega,by go_num,rfl,(by have:=E1.out;omega),(by show _=_;have:=E1.out;have:=HM.out;omega),FE,K1⟩
   case measure=>simp[intOf];omega
  ·have hi2:i=n:=by omega
   subst hi2;have R:Hid (Sli 9 lo hi (.slice ad i ca) i M wr):=by
    rcases HA.out with⟨h1,h2⟩|⟨g,cap,h1,h2,h3,-⟩
    ·exact Or.inl ⟨h1,h2⟩
    ·injection h1 with e1 e2 e3
     subst e1 e3;have h4:=HF.out g rfl;rw[List.take_of_length_le (by have:=HML.out;have:=HXS.out;omega),List.drop_of_length_le (by have:=HXS.out;omega),List.append_nil]at h4
     exact Or.inr ⟨g,ca,rfl,h2,h3,h4⟩
   have HE:Hid ((m:Int)=((k0+i:Nat):Int)):=(by show _=_;rw[HM.out])
   clear HF;go_wp2;go_ret;exact⟨congrArg (fun x=>Ending.returned (.int .i64 x)) HE.out,R,HK⟩
theorem heldZs_any(lo hi:Nat)(a:Value)(n k0:Nat)(w:World)(hn:n≤1000000000)(hk0:0<k0)(hk1:k0≤100000000000)(hh:hi≤w.heap.size)(ha:Sli 9 lo hi a n (mkFlat patZs k0 n) w):
 Calls Tryz.prog 35 #[a,.int .i64 (k0:Int)] w fun e w'=>e=.returned (.int .i64 ((k0+n:Nat):Int))∧Below w.heap.size w w':=by
 obtain⟨ad,ca,rfl,a3⟩:=ha.form;have A3:=hide a3;have HMA:Hid (∀(g i j:Nat) (s:Bool) (W:World),ad=some ⟨g,0,none⟩→Below w.heap.size w W→i<n→patZs[j]?=some s→W.cell? ⟨g,i+j,none⟩=some (mkv s (k0+(i+j)))):=by
  rintro g i j s W rfl hW h1 h2;have:=(ha.flt.below hW).cell (mkFlat_at patZs k0 n i j s h1 h2)
  simpa[patZs]using this
 clear ha a3;go_enter Tryz.func35,Tryz.ntmps35;go_wp2;go_loopw [1,5] (fun mv iv wr=>∃i m:Nat,i≤n∧iv=.int .i64 i∧mv=.int .i64 m∧m≤200000000000∧Hid (m=k0+i)∧Hid (Below w.heap.size w wr)) (fun _ iv _=>n-(intOf iv).toNat)
 case atStart=>exact⟨0,k0,Nat.zero_le _,rfl,rfl,by omega,(by show _=_;omega),Below.refl _ _⟩
 case round=>
  obtain⟨i,m,hin,rfl,rfl,hm,HM,HW0⟩:=hrel;have hsz:=HW0.out.size;by_cases hlt:(i:Int)<n
  ·obtain⟨g,e,g1,g2⟩:=A3.out (by omega)
   subst e;have i0:(0:Int)≤i:=by omega
   have hm2:m+1≤200000000000:=by have:=HM.out;omega
   have hm1:0<m:=by have:=HM.out;omega
   have hgw:g<wr.heap.size:=by omega
   obtain⟨m1,e1⟩:∃m1:Nat,m1=m+1:=⟨_,rfl⟩;have ei1:(m:Int)+1=m1:=by omega
   have E1:=hide e1;clear e1;have c0:wr.cell? ⟨g,i,none⟩=some (.string ⟨(markL m).toArray⟩):=by
    have h1:=HMA.out g i 0 true wr rfl HW0.out (by omega) rfl
    rw[show k0+(i+0)=m by have:=HM.out;omega]at h1
    exact h1
   have CM0:Hid (∀W,Calls Tryz.prog 59 #[.int .i64 (m:Int)] W fun e w'=>e=.returned (.string ⟨(markL m).toArray⟩)∧Below W.heap.size W w'):=fun W=>markText_int (m:Int) m rfl W (by have:=HM.out;omega) (by have:=HM.out;omega)
   obtain⟨t0,ht0⟩:∃t,markL m=t:=⟨_,rfl⟩;rw[ht0]at c0 CM0;clear ht0;have hg0:g<wr.heap.size:=by have:=HW0.out.size;omega
   go_wp2;go_region_held3 (fun w'=>w'.cell? ⟨g,i,none⟩=some (.string ⟨t0.toArray⟩)) (first|go_keep|(rw[hb0.cell (show g<wr.heap.size by exact hg0)];exact c0)) ((go_at_call 59;(with_reducible refine Calls.mono (CM0.out _) ?_);rintro e y0 ⟨rfl,hb0⟩))
   have HW1:=hide (HW0.out.drew.trans (hb0.mono (show w.heap.size≤wr.drew.heap.size from HW0.out.size)));clear hb0 HW0 CM0 hg0 c0;go_wp2;go_roundw
   case rel=>exact⟨i+1,m1,by omega,by go_num,rfl,(by have:=E1.out;omega),(by show _=_;have:=E1.out;have:=HM.out;omega),HW1⟩
   case measure=>simp[intOf];omega
  ·have hi2:i=n:=by omega
   have HE:Hid ((m:Int)=((k0+n:Nat):Int)):=(by show _=_;rw[HM.out,hi2])
   clear hi2;go_wp2;go_ret;exact⟨congrArg (fun x=>Ending.returned (.int .i64 x)) HE.out,HW0.out⟩
theorem markZt_any(lo hi:Nat)(a:Value)(n k0:Nat)(xs:List Value)(w:World)(hn:n≤1000000000)(hxs:xs.length=n)(hk0:0<k0)(hk1:k0≤100000000000)(hh:hi≤w.heap.size)(ha:Sli 9 lo hi a n xs w):
 Calls Tryz.prog 34 #[a,.int .i64 (k0:Int)] w fun e w'=>e=.returned (.int .i64 ((k0+n:Nat):Int))∧Hid (Sli 9 lo hi a n (mkFlat patZs k0 n) w')∧Hid (Kept2 w w' (fun i=>a.ownBlock≠some i)):=by
 rcases ha with⟨rfl,h0⟩|⟨g,cap,rfl,h1,h2,h3⟩
 ·refine(markZs_any 0 0 _ n k0 xs w hn (by omega) hk0 hk1 (Nat.zero_le _) (.inl ⟨rfl,h0⟩)).mono ?_
  rintro e w' ⟨rfl,hs,hk⟩;exact⟨rfl,.inl ⟨rfl,h0⟩,⟨hk.out.1,hk.out.2.1,hk.out.2.2.1,hk.out.2.2.2.1,fun i hi' _=>hk.out.2.2.2.2 i hi' (fun hx=>by omega)⟩⟩
 ·refine(markZs_any g (g+1) _ n k0 xs w hn (by omega) hk0 hk1 (by omega) (.inr ⟨g,cap,rfl,Nat.le_refl _,by omega,h3⟩)).mono ?_
  rintro e w' ⟨rfl,hs,hk⟩;refine⟨rfl,?_,⟨hk.out.1,hk.out.2.1,hk.out.2.2.1,hk.out.2.2.2.1,fun i hi' hne=>hk.out.2.2.2.2 i hi' (fun hx=>hne (by simp only[Value.ownBlock];congr 1;omega))⟩⟩
  rcases hs.out with⟨e,-⟩|⟨g',cap',e,-,-,q⟩
  ·cases e
  ·injection e with e1 e2 e3
   injection e1 with e1
   injection e1 with e1
   subst e1 e3;exact .inr ⟨g,cap,rfl,h1,h2,q⟩
theorem heldZt_any(lo hi:Nat)(a:Value)(n k0:Nat)(w:World)(hn:n≤1000000000)(hk0:0<k0)(hk1:k0≤100000000000)(hh:hi≤w.heap.size)(ha:Sli 9 lo hi a n (mkFlat patZs k0 n) w):
 Calls Tryz.prog 35 #[a,.int .i64 (k0:Int)] w fun e w'=>e=.returned (.int .i64 ((k0+n:Nat):Int))∧Below w.heap.size w w':=by
 have:=heldZs_any lo hi a n k0 w hn hk0 hk1 hh ha;exact this
end Go.Proofs.YtiicghepilbgfaaGreatDoor
