/-
  WithB; PkCut
-/
import Derived.Test.YtcjgjkejhkhknabGreatDoorPk11
import Derived.Test.YtcjgjkejhkhknabGreatDoorPk13
import Derived.Test.YtcjgjkejhkhknabGreatDoorShelf
import Derived.Test.YtcjgjkejhkhknabGreatDoorPk9
import Derived.Test.YtcjgjkejhkhknabGreatDoorPk10
set_option maxHeartbeats 400000
set_option maxRecDepth 100000
namespace Go.Proofs.YtcjgjkejhkhknabGreatDoor
open Go.RowKit
open Pack
theorem clone_anyW (s : ByteArray) (w : World) (hs : s.size ≤ 281474976710656) :
 Calls Tryz.prog 99 #[.string s] w fun e w' => e = .returned (.string s) ∧ Below w.heap.size w w' := by
 go_enter Tryz.func99, Tryz.ntmps99
 go_wp2_with fail
 refine (Tryz.stringslite_Clone _ _ hs).mono ?_
 rintro e w' ⟨rfl, hb⟩
 go_wp2
 go_ret
 exact ⟨rfl, hb⟩
def WRow (w : World) (base : Nat) (v : Value) (e : Ending) (w' : World) (l : List (Nat × Nat × List UInt8)) : Prop :=
 ∃ v' : Value, e = .returned v' ∧ w'.ownsRow base 190 3 v' l.length (tcells l) ∧ w.grownBy w' v.ownBlock ∧ (v'.ownBlock = v.ownBlock ∨ ∃ g, v'.ownBlock = some g ∧ w.heap.size ≤ g)
theorem own_slice0 {w : World} {base n : Nat} {e : TypeId} {size : Nat} {v : Value} {xs : List Value} (h : w.ownsRow base e size v n xs) : ∃ (ao : Option Addr) (cap : Nat), v = .slice ao n cap := by
 rcases h.2 with ⟨rfl, rfl⟩ | ⟨g, cap, cur, rfl, -⟩
 ·exact ⟨_, _, rfl⟩
 ·exact ⟨_, _, rfl⟩
theorem with_new (v : Value) (l : List (Nat × Nat × List UInt8)) (c : UInt8) (u : ByteArray) (base : Nat) (w : World) (hu : u = ⟨[c].toArray⟩) (hl : l.length ≤ 100) (hB : base ≤ w.heap.size) (hown : w.ownsRow base 190 3 v l.length (tcells l))
 (hn : l = [] ∨ ∃ l' b z t, l = l' ++ [(b, z, t)] ∧ (0 < b ∨ (b = 0 ∧ t.length = 31))) :
 Calls Tryz.prog 162 #[v, .string u] w fun e w' => WRow w base v e w' (l ++ [(0, 0, [c])]) := by
 obtain ⟨i0, hi, hz0, hz1, hz2⟩ := info_parts infoTok
 have hus : u.size ≤ 281474976710656 := by rw [hu]; show 1 ≤ _; omega
 have HU := hide hu
 have HO := hide hown
 obtain ⟨ao, cap, rfl⟩ := own_slice0 hown
 clear hu hown
 have fin : ∀ w1, Below w.heap.size w w1 → Hid (w1.ownsRow base 190 3 (.slice ao l.length cap) l.length (tcells l)) := fun w1 hb => own_below HO.out hb
 have HF := hide fin
 clear fin
 have hres : ∀ (w1 w2 : World) (v' : Value), Below w.heap.size w w1 → w2.ownsRow base 190 3 v' (l.length + 1) (tcells l ++ [.int .i64 0, .int .i64 0, .string u]) → (w1.alloc (.cells #[.int .i64 0, .int .i64 0, .string u] 190)).grownBy w2 (Value.slice ao l.length cap).ownBlock →
  (v'.ownBlock = (Value.slice ao l.length cap).ownBlock ∨ v'.ownBlock = some (w1.heap.size + 1)) → Hid (WRow w base (.slice ao l.length cap) (.returned v') w2 (l ++ [(0, 0, [c])])) := by
  intro w1 w2 v' hb ho hg hloc
  have hs := hb.size
  refine ⟨v', rfl, ?_, (grown_old hb _).trans ((World.grownBy_alloc w1 _ _).trans hg), hloc.imp id (fun h => ⟨_, h, by omega⟩)⟩
  rw [← tcells_snoc, List.length_append]
  rw [HU.out] at ho
  exact ho
 have HR := hide hres
 clear hres
 go_enter Tryz.func162, Tryz.ntmps162
 rcases hn with rfl | ⟨l', b, z, t, hl', hbt⟩
 ·go_wp2_with fail
  refine (clone_anyW u _ hus).mono ?_
  rintro e w1 ⟨rfl, hb1⟩
  have HO1 := hide (HF.out w1 hb1).out
  have HB1 := hide hb1
  have hs1 := hb1.size
  clear hb1
  go_wp2_with (at_builtin; refine wpList_append_own_at _ rfl _ _ 152 rfl base 190 i0 (.agg #[.int .i64 0, .int .i64 0, .string ⟨#[]⟩]) 3 32 Tryz.underlying152 hi hz0 hz1 hz2 rfl (by decide) _ _ _ rfl (by exact HO1.out.alloc _) ⟨w1.heap.size, 0, none⟩ 1 1 [Value.int .i64 0, Value.int .i64 0, Value.string u] rfl rfl (by exact three_new _ _ _ _ _) (tok3_one _ _ _) (by unfold maxLen; omega) (by omega) (by simp; omega) ?_)
  intro v' w2 hown2 hgrow _ hloc
  have HX := HR.out w1 w2 v' HB1.out hown2 hgrow hloc
  clear hown2 hgrow hloc HO1 HB1
  go_wp2
  go_ret
  exact HX.out
 ·have hlen : l.length = l'.length + 1 := by rw [hl']; simp
  obtain ⟨gq, capq, hv⟩ := own_slice3 HO.out (by omega)
  obtain ⟨rfl, rfl⟩ : ao = some ⟨gq, 0, none⟩ ∧ cap = capq := by
   injection hv with a b c
   exact ⟨a, c⟩
  have hat : l[l'.length]? = some (b, z, t) := by rw [hl']; simp
  obtain ⟨k1, k2, k3⟩ := tcells_at l l'.length (b, z, t) hat
  have c1 := HO.out.cells (g := gq) rfl _ _ k1
  have c3 := HO.out.cells (g := gq) rfl _ _ k3
  rw [addr_at, Nat.mul_comm] at c1 c3
  obtain ⟨N, hN⟩ : ∃ N, N = l'.length := ⟨_, rfl⟩
  rw [← hN] at c1 c3 hlen
  obtain ⟨tt, htt⟩ : ∃ tt : ByteArray, tt = ⟨t.toArray⟩ := ⟨_, rfl⟩
  have hts : tt.size = t.length := by rw [htt]; show t.toArray.size = _; simp
  rw [← htt] at c3
  simp only at c1
  rw [hlen] at HF HR HO ⊢
  have hN100 : N + 1 ≤ 100 := by omega
  have n0 : (0 : Int) ≤ N := by omega
  clear hat k1 k2 k3 hv hl hlen hN hl' htt
  rcases hbt with hb | ⟨rfl, ht⟩
  ·have hb0 : (0 : Int) < b := by omega
   clear c3 hts
   go_wp2_with fail
   refine (clone_anyW u _ hus).mono ?_
   rintro e w1 ⟨rfl, hb1⟩
   have HO1 := hide (HF.out w1 hb1).out
   have HB1 := hide hb1
   have hs1 := hb1.size
   clear hb1
   go_wp2_with (at_builtin; refine wpList_append_own_at _ rfl _ _ 152 rfl base 190 i0 (.agg #[.int .i64 0, .int .i64 0, .string ⟨#[]⟩]) 3 32 Tryz.underlying152 hi hz0 hz1 hz2 rfl (by decide) _ (N + 1) (tcells l) rfl (by exact HO1.out.alloc _) ⟨w1.heap.size, 0, none⟩ 1 1 [Value.int .i64 0, Value.int .i64 0, Value.string u] rfl rfl (by exact three_new _ _ _ _ _) (tok3_one _ _ _) (by unfold maxLen; omega) (by omega) (by simp; omega) ?_)
   intro v' w2 hown2 hgrow _ hloc
   have HX := HR.out w1 w2 v' HB1.out hown2 hgrow hloc
   clear hown2 hgrow hloc HO1 HB1
   go_wp2
   go_ret
   exact HX.out
  ·have e31 : ((tt.size : Int) == 31) = true := by rw [hts, ht]; rfl
   clear hts
   go_wp2_with fail
   refine (clone_anyW u _ hus).mono ?_
   rintro e w1 ⟨rfl, hb1⟩
   have HO1 := hide (HF.out w1 hb1).out
   have HB1 := hide hb1
   have hs1 := hb1.size
   clear hb1
   go_wp2_with (at_builtin; refine wpList_append_own_at _ rfl _ _ 152 rfl base 190 i0 (.agg #[.int .i64 0, .int .i64 0, .string ⟨#[]⟩]) 3 32 Tryz.underlying152 hi hz0 hz1 hz2 rfl (by decide) _ (N + 1) (tcells l) rfl (by exact HO1.out.alloc _) ⟨w1.heap.size, 0, none⟩ 1 1 [Value.int .i64 0, Value.int .i64 0, Value.string u] rfl rfl (by exact three_new _ _ _ _ _) (tok3_one _ _ _) (by unfold maxLen; omega) (by omega) (by simp; omega) ?_)
   intro v' w2 hown2 hgrow _ hloc
   have HX := HR.out w1 w2 v' HB1.out hown2 hgrow hloc
   clear hown2 hgrow hloc HO1 HB1
   go_wp2
   go_ret
   exact HX.out
theorem with_more (v : Value) (l' : List (Nat × Nat × List UInt8)) (z : Nat) (t : List UInt8) (c : UInt8) (u : ByteArray) (base : Nat) (w : World) (hu : u = ⟨[c].toArray⟩) (hl : l'.length ≤ 100) (ht : t.length < 31)
 (hown : w.ownsRow base 190 3 v (l' ++ [(0, z, t)]).length (tcells (l' ++ [(0, z, t)]))) :
 Calls Tryz.prog 162 #[v, .string u] w fun e w' => WRow w base v e w' (l' ++ [(0, z, t ++ [c])]) := by
 have HU := hide hu
 have HO := hide hown
 have hlen : (l' ++ [((0 : Nat), z, t)]).length = l'.length + 1 := by simp
 obtain ⟨gq, capq, rfl⟩ := own_slice3 hown (by omega)
 clear hu hown
 have hat : (l' ++ [((0 : Nat), z, t)])[l'.length]? = some (0, z, t) := by simp
 obtain ⟨k1, k2, k3⟩ := tcells_at _ l'.length (0, z, t) hat
 have c1 := HO.out.cells (g := gq) rfl _ _ k1
 have c3 := HO.out.cells (g := gq) rfl _ _ k3
 rw [addr_at, Nat.mul_comm] at c1 c3
 have f3 := HO.out.frozenAt (l'.length * 3 + 2)
 obtain ⟨x, hx⟩ : ∃ x : ByteArray, x = ⟨(t ++ [c]).toArray⟩ := ⟨_, rfl⟩
 have HO8 := own_set HO.out rfl (l'.length * 3 + 2) (.string x)
 rw [hx, show l'.length * 3 + 2 = 3 * l'.length + 2 by omega, tcells_text, ← hx] at HO8
 rw [show 3 * l'.length + 2 = l'.length * 3 + 2 by omega] at HO8
 obtain ⟨tt, htt⟩ : ∃ tt : ByteArray, tt = ⟨t.toArray⟩ := ⟨_, rfl⟩
 have hts : tt.size = t.length := by rw [htt]; show t.toArray.size = _; simp
 have h31 : ((tt.size : Int) == 31) = false := by rw [beq_eq_false_iff_ne, hts]; omega
 have hts2 : tt.size < 31 := by omega
 rw [← htt] at c3
 have hxx : tt ++ u = x := by
  rw [htt, HU.out, hx]
  apply ByteArray.ext
  simp [ByteArray.data_append]
 have hus : u.size = 1 := by rw [HU.out]; rfl
 have hadd : ∀ W, (Go.Op.stringOp .add tt u).run Tryz.prog W = .ok (.string x) W := by
  intro W
  unfold Go.Op.stringOp
  simp only []
  rw [if_neg (by show ¬ _ > (9223372036854775807 : Int); omega), hxx]
  rfl
 have hgb : w.grownBy (w.setCell ⟨gq, l'.length * 3 + 2, none⟩ (.string x)) (some gq) := ⟨rfl, rfl, rfl, by simp [World.setCell], fun k _ hk => Below.heap_setCell _ _ _ _ (fun e => hk (by rw [e]))⟩
 have HX : Hid (WRow w base (.slice (some ⟨gq, 0, none⟩) (l'.length + 1) capq) (.returned (.slice (some ⟨gq, 0, none⟩) (l'.length + 1) capq)) (w.setCell ⟨gq, l'.length * 3 + 2, none⟩ (.string x)) (l' ++ [(0, z, t ++ [c])])) := by
  refine ⟨_, rfl, ?_, hgb, Or.inl rfl⟩
  rw [hlen] at HO8
  have : (l' ++ [((0 : Nat), z, t ++ [c])]).length = l'.length + 1 := by simp
  rw [this]
  exact HO8
 rw [hlen]
 obtain ⟨N, hN⟩ : ∃ N, N = l'.length := ⟨_, rfl⟩
 rw [← hN] at c1 c3 f3 HX hl ⊢
 simp only at c1
 have n0 : (0 : Int) ≤ N := by omega
 clear hat k1 k2 k3 hlen HO8 hx htt hxx hN HO hgb hts hts2 hus ht
 go_enter Tryz.func162, Tryz.ntmps162
 go_wp2
 go_ret
 exact HX.out
theorem infoTokS : (Tryz.prog.info? 190).map (·.size) = some 3 := by kernel_rfl
theorem results_tok3 {fn : Func} {p q r : Tmp} (h : fn.results = #[.cell p 190, .tmp q, .tmp r]) (tmps : Array Value) (w : World) (g : Nat) (a b : Int) (t : ByteArray)
 (hp : tmps.getD p undef = .pointer (some ⟨g, 0, none⟩)) (hc : TokAt w g a b t) :
 (results fn tmps).run Tryz.prog w = .ok (.tuple #[.agg #[.int .i64 a, .int .i64 b, .string t], tmps.getD q undef, tmps.getD r undef]) w := by
 have hp' : tmps[p]?.getD undef = .pointer (some ⟨g, 0, none⟩) := by simpa using hp
 have hl := run_loadVar_row (P := Tryz.prog) w g 190 190 _ _ _ hc Tryz.underlying190 rfl infoTokS
 simp [results, h, hp', asAddr, hl]
def BA (l : List UInt8) : ByteArray := ⟨l.toArray⟩
theorem BA_size (l : List UInt8) : (BA l).size = l.length := by show l.toArray.size = _; simp
theorem BA_list (l : List UInt8) : (BA l).data.toList = l := rfl
theorem BA_ext (l : List UInt8) (a b : Nat) : (BA l).extract a b = BA ((l.drop a).take (b - a)) := by
 apply ByteArray.ext
 apply Array.ext'
 rw [Lib.extract_data]
 rfl
theorem cut_from (l : List UInt8) (k : Nat) (x : Int) (hx : x = k) (hk : k ≤ l.length) (W : World) : (Instr.slice 9 (.string (BA l)) (some (.int .i64 x)) none none).run Tryz.prog W = .ok (.string (BA (l.drop k))) W := by
 subst hx
 rw [run_slice_string_from_if W 9 (BA l) .i64 _ Tryz.underlying9, if_pos (by rw [BA_size]; omega), BA_ext, BA_size]
 rw [List.take_of_length_le (by rw [List.length_drop]; simp)]
 rfl
theorem cut_to (l : List UInt8) (k : Nat) (x : Int) (hx : x = k) (hk : k ≤ l.length) (W : World) : (Instr.slice 9 (.string (BA l)) none (some (.int .i64 x)) none).run Tryz.prog W = .ok (.string (BA (l.take k))) W := by
 subst hx
 rw [run_slice_string_to_if W 9 (BA l) .i64 _ Tryz.underlying9, if_pos (by rw [BA_size]; omega), BA_ext]
 rfl
theorem idx_of (l : List UInt8) (k : Nat) (c : UInt8) (x : Int) (hx : x = k) (hk : l[k]? = some c) (W : World) : (Instr.index 9 (.string (BA l)) (.int .i64 x)).run Tryz.prog W = .ok (.int .u8 ((c.toNat : Nat) : Int)) W := by
 have hl := (List.getElem?_eq_some_iff.1 hk).1
 have := byte_ofT (BA l) k x hx (by rw [BA_size]; exact hl) W
 rw [BA_list, List.getD_eq_getElem?_getD, hk] at this
 exact this
theorem TokAt.set0 {w : World} {g : Nat} {a b : Int} {t : ByteArray} (h : TokAt w g a b t) (a' : Int) : TokAt (w.setCell ⟨g, 0, none⟩ (.int .i64 a')) g a' b t := by
 unfold TokAt at *
 rw [setCell_eq_setRow w g 0 _ _ (0, 0) _ h]
 exact setRow_heap w g _ _ _ _ h
theorem TokAt.set1 {w : World} {g : Nat} {a b : Int} {t : ByteArray} (h : TokAt w g a b t) (b' : Int) : TokAt (w.setCell ⟨g, 1, none⟩ (.int .i64 b')) g a b' t := by
 unfold TokAt at *
 rw [setCell_eq_setRow w g 1 _ _ (0, 0) _ h]
 exact setRow_heap w g _ _ _ _ h
theorem TokAt.set2 {w : World} {g : Nat} {a b : Int} {t : ByteArray} (h : TokAt w g a b t) (t' : ByteArray) : TokAt (w.setCell ⟨g, 2, none⟩ (.string t')) g a b t' := by
 unfold TokAt at *
 rw [setCell_eq_setRow w g 2 _ _ (0, 0) _ h]
 exact setRow_heap w g _ _ _ _ h
theorem TokAt.drewN {w : World} {g : Nat} {a b : Int} {t : ByteArray} (h : TokAt w g a b t) (k : Nat) : TokAt (w.drewN k) g a b t := h.below (below_drewN (Below.refl _ _) k)
theorem below_tok {B g : Nat} {a w : World} {x y z : Value} (h : Below B a w) (hg : B ≤ g) : Below B a (((w.setCell ⟨g, 0, none⟩ x).setCell ⟨g, 1, none⟩ y).setCell ⟨g, 2, none⟩ z) :=
 ((h.setCell (p := ⟨g, 0, none⟩) hg x).setCell (p := ⟨g, 1, none⟩) hg y).setCell (p := ⟨g, 2, none⟩) hg z
theorem BA_emp : (BA []).toList.isEmpty = true := by rw [Lib.toList_data]; rfl
theorem BA_ful (c : UInt8) (r : List UInt8) : (BA (c :: r)).toList.isEmpty = false := by rw [Lib.toList_data]; rfl
theorem cut_any (n : UInt8) (r : List UInt8) (w : World) (hr : r.length ≤ 1000) :
 Calls Tryz.prog 159 #[.string (BA (n :: r))] w fun e w' => (∃ (a b : Nat) (t s : List UInt8) (ok : Bool), e = .returned (.tuple #[.agg #[.int .i64 (a : Int), .int .i64 (b : Int), .string (BA t)], .string (BA s), .bool ok]) ∧
  s.length ≤ r.length ∧ (ok = true → RG 128 (n :: r) = (RG 128 s).map fun l => (a, b, t) :: l) ∧ (ok = false → RG 128 (n :: r) = none)) ∧ Below w.heap.size w w' := by
 have hn := n.toNat_lt
 have i1 := idx_of (n :: r) 0 n 0 rfl rfl
 have c1 := cut_from (n :: r) 1 1 rfl (by simp)
 rw [List.drop_one, List.tail_cons] at c1
 by_cases h128 : (128 : Int) ≤ n.toNat
 ·cases r with
  | nil =>
   have HX := hide (RG_cut 128 n (by omega))
   have he := BA_emp
   have HT := hide (tok_new w 0 0 ⟨#[]⟩)
   have HB := hide ((Below.refl w.heap.size w).alloc (Nat.le_refl _) (.cells #[.int .i64 0, .int .i64 0, .string ⟨#[]⟩] 190))
   go_enter Tryz.func159, Tryz.ntmps159
   go_wp2
   go_quiet (fail)
   go_wp2
   exact bodyPost_ret (results_tok3 rfl _ _ w.heap.size _ _ _ rfl ((((HT.out.drewN _).set0 _).set1 _).set2 _)) rfl ⟨⟨0, 0, [], [], false, rfl, Nat.le_refl _, (fun h => by cases h), fun _ => HX.out⟩, below_tok (below_drewN HB.out _) (Nat.le_refl _)⟩
  | cons b r =>
   have hbl := b.toNat_lt
   have he := BA_ful b r
   have i2 := idx_of (b :: r) 0 b 0 rfl rfl
   have c2 := cut_from (b :: r) 1 1 rfl (by simp)
   rw [List.drop_one, List.tail_cons] at c2
   have HX := hide (RG_match 128 n b r (by omega))
   have HT := hide (tok_new w 0 0 ⟨#[]⟩)
   have HB := hide ((Below.refl w.heap.size w).alloc (Nat.le_refl _) (.cells #[.int .i64 0, .int .i64 0, .string ⟨#[]⟩] 190))
   go_enter Tryz.func159, Tryz.ntmps159
   go_wp2
   go_quiet (fail)
   go_wp2
   go_region
   go_wp2
   exact bodyPost_ret (results_tok3 rfl _ _ w.heap.size _ _ _ rfl ((((HT.out.drewN _).set0 _).set1 _).set2 _)) rfl ⟨⟨b.toNat, n.toNat - 128, [], r, true, (by rw [show ((n.toNat - 128 : Nat) : Int) = (n.toNat : Int) - 128 by omega]; rfl), Nat.le_succ _, (fun _ => HX.out), fun h => by cases h⟩, below_tok (below_drewN HB.out _) (Nat.le_refl _)⟩
 ·have HT := hide (tok_new w 0 0 ⟨#[]⟩)
  have HB := hide ((Below.refl w.heap.size w).alloc (Nat.le_refl _) (.cells #[.int .i64 0, .int .i64 0, .string ⟨#[]⟩] 190))
  have hbs := BA_size r
  by_cases hgt : (r.length : Int) < n.toNat
  ·have HX := hide (RG_short 128 n r (by omega) (by omega))
   go_enter Tryz.func159, Tryz.ntmps159
   go_wp2
   go_quiet (fail)
   go_wp2
   exact bodyPost_ret (results_tok3 rfl _ _ w.heap.size _ _ _ rfl ((((HT.out.drewN _).set0 _).set1 _).set2 _)) rfl ⟨⟨0, 0, [], [], false, rfl, Nat.zero_le _, (fun h => by cases h), fun _ => HX.out⟩, below_tok (below_drewN HB.out _) (Nat.le_refl _)⟩
  ·have HX := hide (RG_text 128 n r (by omega) (by omega))
   have c2 := cut_to r n.toNat (n.toNat : Int) rfl (by omega)
   have c3 := cut_from r n.toNat (n.toNat : Int) rfl (by omega)
   go_enter Tryz.func159, Tryz.ntmps159
   go_wp2
   go_quiet (fail)
   go_wp2
   go_region
   go_wp2
   exact bodyPost_ret (results_tok3 rfl _ _ w.heap.size _ _ _ rfl ((((HT.out.drewN _).set0 _).set1 _).set2 _)) rfl ⟨⟨0, 0, r.take n.toNat, r.drop n.toNat, true, rfl, (by rw [List.length_drop]; omega), (fun _ => HX.out), fun h => by cases h⟩, below_tok (below_drewN HB.out _) (Nat.le_refl _)⟩
end Go.Proofs.YtcjgjkejhkhknabGreatDoor
