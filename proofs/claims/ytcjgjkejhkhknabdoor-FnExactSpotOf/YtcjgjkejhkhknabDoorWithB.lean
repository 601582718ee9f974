/-
  The walk of the program's putting of one byte to the tokens.
-/
import Derived.Test.YtcjgjkejhkhknabDoorPq36
import Derived.Test.YtcjgjkejhkhknabDoorPq38
import Derived.Test.YtcjgjkejhkhknabDoorPq14
namespace Go.Proofs.YtcjgjkejhkhknabDoor
open Go.RowKit
open Pack

theorem clone_anyW (s : ByteArray) (w : World) (hs : s.size ≤ 281474976710656) :
    Calls Tryd.prog 60 #[.string s] w fun e w' => e = .returned (.string s) ∧ Below w.heap.size w w' := by
  go_enter Tryd.func60, Tryd.ntmps60
  go_wp2_with fail
  refine (Tryd.stringslite_Clone _ _ hs).mono ?_
  rintro e w' ⟨rfl, hb⟩
  go_wp2
  go_ret
  exact ⟨rfl, hb⟩

/-- A row of tokens that has grown out of another one: no other old block is another. -/
def WRow (w : World) (base : Nat) (v : Value) (e : Ending) (w' : World) (l : List (Nat × Nat × List UInt8)) : Prop :=
  ∃ v' : Value, e = .returned v' ∧ w'.ownsRow base 89 3 v' l.length (tcells l) ∧ w.grownBy w' v.ownBlock ∧ (v'.ownBlock = v.ownBlock ∨ ∃ g, v'.ownBlock = some g ∧ w.heap.size ≤ g)
theorem own_slice0 {w : World} {base n : Nat} {e : TypeId} {size : Nat} {v : Value} {xs : List Value} (h : w.ownsRow base e size v n xs) : ∃ (ao : Option Addr) (cap : Nat), v = .slice ao n cap := by
  rcases h.2 with ⟨rfl, rfl⟩ | ⟨g, cap, cur, rfl, -⟩
  · exact ⟨_, _, rfl⟩
  · exact ⟨_, _, rfl⟩

set_option maxHeartbeats 400000 in
set_option maxRecDepth 100000 in
theorem with_new (v : Value) (l : List (Nat × Nat × List UInt8)) (c : UInt8) (u : ByteArray) (base : Nat) (w : World) (hu : u = ⟨[c].toArray⟩) (hl : l.length ≤ 100) (hB : base ≤ w.heap.size) (hown : w.ownsRow base 89 3 v l.length (tcells l))
    (hn : l = [] ∨ ∃ l' b z t, l = l' ++ [(b, z, t)] ∧ (0 < b ∨ (b = 0 ∧ t.length = 31))) :
    Calls Tryd.prog 80 #[v, .string u] w fun e w' => WRow w base v e w' (l ++ [(0, 0, [c])]) := by
  obtain ⟨i0, hi, hz0, hz1, hz2⟩ := info_parts infoTok
  have hus : u.size ≤ 281474976710656 := by rw [hu]; show 1 ≤ _; omega
  have HU := hide hu
  have HO := hide hown
  obtain ⟨ao, cap, rfl⟩ := own_slice0 hown
  clear hu hown
  have fin : ∀ w1, Below w.heap.size w w1 → Hid (w1.ownsRow base 89 3 (.slice ao l.length cap) l.length (tcells l)) := fun w1 hb => own_below HO.out hb
  have HF := hide fin
  clear fin
  have hres : ∀ (w1 w2 : World) (v' : Value), Below w.heap.size w w1 → w2.ownsRow base 89 3 v' (l.length + 1) (tcells l ++ [.int .i64 0, .int .i64 0, .string u]) → (w1.alloc (.cells #[.int .i64 0, .int .i64 0, .string u] 89)).grownBy w2 (Value.slice ao l.length cap).ownBlock →
      (v'.ownBlock = (Value.slice ao l.length cap).ownBlock ∨ v'.ownBlock = some (w1.heap.size + 1)) → Hid (WRow w base (.slice ao l.length cap) (.returned v') w2 (l ++ [(0, 0, [c])])) := by
    intro w1 w2 v' hb ho hg hloc
    have hs := hb.size
    refine ⟨v', rfl, ?_, (grown_old hb _).trans ((World.grownBy_alloc w1 _ _).trans hg), hloc.imp id (fun h => ⟨_, h, by omega⟩)⟩
    rw [← tcells_snoc, List.length_append]
    rw [HU.out] at ho
    exact ho
  have HR := hide hres
  clear hres
  go_enter Tryd.func80, Tryd.ntmps80
  rcases hn with rfl | ⟨l', b, z, t, hl', hbt⟩
  · go_wp2_with fail
    refine (clone_anyW u _ hus).mono ?_
    rintro e w1 ⟨rfl, hb1⟩
    have HO1 := hide (HF.out w1 hb1).out
    have HB1 := hide hb1
    have hs1 := hb1.size
    clear hb1
    go_wp2_with (at_builtin; refine wpList_append_own_at _ rfl _ _ 70 rfl base 89 i0 (.agg #[.int .i64 0, .int .i64 0, .string ⟨#[]⟩]) 3 32 Tryd.underlying70 hi hz0 hz1 hz2 rfl (by decide) _ _ _ rfl (by exact HO1.out.alloc _) ⟨w1.heap.size, 0, none⟩ 1 1 [Value.int .i64 0, Value.int .i64 0, Value.string u] rfl rfl (by exact three_new _ _ _ _ _) (tok3_one _ _ _) (by unfold maxLen; omega) (by omega) (by simp; omega) ?_)
    intro v' w2 hown2 hgrow _ hloc
    have HX := HR.out w1 w2 v' HB1.out hown2 hgrow hloc
    clear hown2 hgrow hloc HO1 HB1
    go_wp2
    go_ret
    exact HX.out
  · have hlen : l.length = l'.length + 1 := by rw [hl']; simp
    obtain ⟨gq, capq, hv⟩ := own_slice3 HO.out (by omega)
    obtain ⟨rfl, rfl⟩ : ao = some ⟨gq, 0, none⟩ ∧ cap = capq := by
      injection hv with a b c
      exact ⟨a, c⟩
    have hat : l[l'.length]? = some (b, z, t) := by rw [hl']; simp
    obtain ⟨k1, k2, k3⟩ := tcells_at l l'.length (b, z, t) hat
    have c1 := HO.out.cells (g := gq) rfl _ _ k1
    have c3 := HO.out.cells (g := gq) rfl _ _ k3
    rw [addr_at, Nat.mul_comm] at c1 c3
    obtain ⟨N, hN⟩ : ∃ N, N = l'.length := ⟨_, rfl⟩
    rw [← hN] at c1 c3 hlen
    obtain ⟨tt, htt⟩ : ∃ tt : ByteArray, tt = ⟨t.toArray⟩ := ⟨_, rfl⟩
    have hts : tt.size = t.length := by rw [htt]; show t.toArray.size = _; simp
    rw [← htt] at c3
    simp only at c1
    rw [hlen] at HF HR HO ⊢
    have hN100 : N + 1 ≤ 100 := by omega
    have n0 : (0 : Int) ≤ N := by omega
    clear hat k1 k2 k3 hv hl hlen hN hl' htt
    rcases hbt with hb | ⟨rfl, ht⟩
    · have hb0 : (0 : Int) < b := by omega
      clear c3 hts
      go_wp2_with fail
      refine (clone_anyW u _ hus).mono ?_
      rintro e w1 ⟨rfl, hb1⟩
      have HO1 := hide (HF.out w1 hb1).out
      have HB1 := hide hb1
      have hs1 := hb1.size
      clear hb1
      go_wp2_with (at_builtin; refine wpList_append_own_at _ rfl _ _ 70 rfl base 89 i0 (.agg #[.int .i64 0, .int .i64 0, .string ⟨#[]⟩]) 3 32 Tryd.underlying70 hi hz0 hz1 hz2 rfl (by decide) _ (N + 1) (tcells l) rfl (by exact HO1.out.alloc _) ⟨w1.heap.size, 0, none⟩ 1 1 [Value.int .i64 0, Value.int .i64 0, Value.string u] rfl rfl (by exact three_new _ _ _ _ _) (tok3_one _ _ _) (by unfold maxLen; omega) (by omega) (by simp; omega) ?_)
      intro v' w2 hown2 hgrow _ hloc
      have HX := HR.out w1 w2 v' HB1.out hown2 hgrow hloc
      clear hown2 hgrow hloc HO1 HB1
      go_wp2
      go_ret
      exact HX.out
    · have e31 : ((tt.size : Int) == 31) = true := by rw [hts, ht]; rfl
      clear hts
      go_wp2_with fail
      refine (clone_anyW u _ hus).mono ?_
      rintro e w1 ⟨rfl, hb1⟩
      have HO1 := hide (HF.out w1 hb1).out
      have HB1 := hide hb1
      have hs1 := hb1.size
      clear hb1
      go_wp2_with (at_builtin; refine wpList_append_own_at _ rfl _ _ 70 rfl base 89 i0 (.agg #[.int .i64 0, .int .i64 0, .string ⟨#[]⟩]) 3 32 Tryd.underlying70 hi hz0 hz1 hz2 rfl (by decide) _ (N + 1) (tcells l) rfl (by exact HO1.out.alloc _) ⟨w1.heap.size, 0, none⟩ 1 1 [Value.int .i64 0, Value.int .i64 0, Value.string u] rfl rfl (by exact three_new _ _ _ _ _) (tok3_one _ _ _) (by unfold maxLen; omega) (by omega) (by simp; omega) ?_)
      intro v' w2 hown2 hgrow _ hloc
      have HX := HR.out w1 w2 v' HB1.out hown2 hgrow hloc
      clear hown2 hgrow hloc HO1 HB1
      go_wp2
      go_ret
      exact HX.out

set_option maxHeartbeats 400000 in
set_option maxRecDepth 100000 in
theorem with_more (v : Value) (l' : List (Nat × Nat × List UInt8)) (z : Nat) (t : List UInt8) (c : UInt8) (u : ByteArray) (base : Nat) (w : World) (hu : u = ⟨[c].toArray⟩) (hl : l'.length ≤ 100) (ht : t.length < 31)
    (hown : w.ownsRow base 89 3 v (l' ++ [(0, z, t)]).length (tcells (l' ++ [(0, z, t)]))) :
    Calls Tryd.prog 80 #[v, .string u] w fun e w' => WRow w base v e w' (l' ++ [(0, z, t ++ [c])]) := by
  have HU := hide hu
  have HO := hide hown
  have hlen : (l' ++ [((0 : Nat), z, t)]).length = l'.length + 1 := by simp
  obtain ⟨gq, capq, rfl⟩ := own_slice3 hown (by omega)
  clear hu hown
  have hat : (l' ++ [((0 : Nat), z, t)])[l'.length]? = some (0, z, t) := by simp
  obtain ⟨k1, k2, k3⟩ := tcells_at _ l'.length (0, z, t) hat
  have c1 := HO.out.cells (g := gq) rfl _ _ k1
  have c3 := HO.out.cells (g := gq) rfl _ _ k3
  rw [addr_at, Nat.mul_comm] at c1 c3
  have f3 := HO.out.frozenAt (l'.length * 3 + 2)
  obtain ⟨x, hx⟩ : ∃ x : ByteArray, x = ⟨(t ++ [c]).toArray⟩ := ⟨_, rfl⟩
  have HO8 := own_set HO.out rfl (l'.length * 3 + 2) (.string x)
  rw [hx, show l'.length * 3 + 2 = 3 * l'.length + 2 by omega, tcells_text, ← hx] at HO8
  rw [show 3 * l'.length + 2 = l'.length * 3 + 2 by omega] at HO8
  obtain ⟨tt, htt⟩ : ∃ tt : ByteArray, tt = ⟨t.toArray⟩ := ⟨_, rfl⟩
  have hts : tt.size = t.length := by rw [htt]; show t.toArray.size = _; simp
  have h31 : ((tt.size : Int) == 31) = false := by rw [beq_eq_false_iff_ne, hts]; omega
  have hts2 : tt.size < 31 := by omega
  rw [← htt] at c3
  have hxx : tt ++ u = x := by
    rw [htt, HU.out, hx]
    apply ByteArray.ext
    simp [ByteArray.data_append]
  have hus : u.size = 1 := by rw [HU.out]; rfl
  have hadd : ∀ W, (Go.Op.stringOp .add tt u).run Tryd.prog W = .ok (.string x) W := by
    intro W
    unfold Go.Op.stringOp
    simp only []
    rw [if_neg (by show ¬ _ > (9223372036854775807 : Int); omega), hxx]
    rfl
  have hgb : w.grownBy (w.setCell ⟨gq, l'.length * 3 + 2, none⟩ (.string x)) (some gq) := ⟨rfl, rfl, rfl, by simp [World.setCell], fun k _ hk => Below.heap_setCell _ _ _ _ (fun e => hk (by rw [e]))⟩
  have HX : Hid (WRow w base (.slice (some ⟨gq, 0, none⟩) (l'.length + 1) capq) (.returned (.slice (some ⟨gq, 0, none⟩) (l'.length + 1) capq)) (w.setCell ⟨gq, l'.length * 3 + 2, none⟩ (.string x)) (l' ++ [(0, z, t ++ [c])])) := by
    refine ⟨_, rfl, ?_, hgb, Or.inl rfl⟩
    rw [hlen] at HO8
    have : (l' ++ [((0 : Nat), z, t ++ [c])]).length = l'.length + 1 := by simp
    rw [this]
    exact HO8
  rw [hlen]
  obtain ⟨N, hN⟩ : ∃ N, N = l'.length := ⟨_, rfl⟩
  rw [← hN] at c1 c3 f3 HX hl ⊢
  simp only at c1
  have n0 : (0 : Int) ≤ N := by omega
  clear hat k1 k2 k3 hlen HO8 hx htt hxx hN HO hgb hts hts2 hus ht
  go_enter Tryd.func80, Tryd.ntmps80
  go_wp2
  go_ret
  exact HX.out
end Go.Proofs.YtcjgjkejhkhknabDoor
