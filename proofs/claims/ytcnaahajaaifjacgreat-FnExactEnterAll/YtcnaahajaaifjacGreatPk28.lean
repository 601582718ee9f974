/-
  VlCut; SRecOk; StoM6; SEntM
-/
import Derived.Test.YtcnaahajaaifjacGreatPk12
import Derived.Test.YtcnaahajaaifjacGreatPk1
import Derived.Laws.CopyRow
import Derived.Lib.AppendZerosOnto
import Derived.Lib.Overlaps
import Derived.Shelf.RegionOpenPlain
import Derived.Laws.NewBlocks
import Derived.Test.YtcnaahajaaifjacGreatPk0
import Derived.Test.YtcnaahajaaifjacGreatPk10
import Derived.Test.YtcnaahajaaifjacGreatPk6
import Derived.Test.YtcnaahajaaifjacGreatPk15
import Derived.Test.YtcnaahajaaifjacGreatSVol
import Derived.Test.YtcnaahajaaifjacGreatPk26
import Derived.Test.YtcnaahajaaifjacGreatPk27
import Derived.Test.YtcnaahajaaifjacGreatPk20
/-
  Parts of rows of volumes; copy and clear of them.
-/
namespace Go.Proofs.YtcnaahajaaifjacGreat
open Go.RowKit
open Words

theorem vol_size (w : World) : (sizeOf (Tryz.prog.elem 31)).run Tryz.prog w = .ok 2 w := by kernel_rfl
theorem vol_size2 (w : World) : (sizeOf 69).run Tryz.prog w = .ok 2 w := by kernel_rfl
theorem vol_slice : Tryz.prog.underlying 31 = some (.slice (Tryz.prog.elem 31)) := by kernel_rfl
theorem addr_zero4 (a : Addr) : a.add 0 = a := by
  simp only [Addr.add]
  split <;> simp_all
/-- list[:k]. -/
theorem vtake_run (ad : Option Addr) (n cap k : Nat) (w : World) (hk : k ≤ cap) : (Instr.slice 31 (.slice ad n cap) none (some (.int .i64 (k : Int))) none).run Tryz.prog w = .ok (.slice ad k cap) w := by
  rw [run_slice_h w 31 ad n cap vol_slice .i64 _ (by omega) (by omega), vol_size]
  simp only [Result.andThen, sliced, Int.toNat_natCast, Nat.zero_mul, Nat.sub_zero]
  congr 2
  split
  · rfl
  · cases ad <;> simp [addr_zero4]
/-- list[k:]. -/
theorem vdrop_run (g o n cap k : Nat) (w : World) (hk : k ≤ n) : (Instr.slice 31 (.slice (some ⟨g, o, none⟩) n cap) (some (.int .i64 (k : Int))) none none).run Tryz.prog w = .ok (.slice (if cap = k then some ⟨g, o, none⟩ else some ⟨g, o + k * 2, none⟩) (n - k) (cap - k)) w := by
  rw [run_slice_l w 31 (some ⟨g, o, none⟩) n cap vol_slice .i64 _ (by omega) (by omega), vol_size]
  simp only [Result.andThen, sliced, Int.toNat_natCast]
  congr 2
  split
  · rfl
  · simp [addr_off3v]
theorem vdrop_any (ad : Option Addr) (n cap k : Nat) (hk : k ≤ n) : ∃ X, ∀ w : World, (Instr.slice 31 (.slice ad n cap) (some (.int .i64 (k : Int))) none none).run Tryz.prog w = .ok X w := by
  refine ⟨sliced ad (k : Int).toNat n cap 2, fun w => ?_⟩
  rw [run_slice_l w 31 ad n cap vol_slice .i64 _ (by omega) (by omega), vol_size]
  rfl
/-- Cells laid over a row. -/
def lay (L : List Value) (o : Nat) (cs : List Value) : List Value := L.take o ++ (cs ++ L.drop (o + cs.length))
theorem lay_len {L cs : List Value} {o : Nat} (h : o + cs.length ≤ L.length) : (lay L o cs).length = L.length := by simp [lay]; omega
theorem lay_at {L cs : List Value} {o k : Nat} (h : o + cs.length ≤ L.length) : (lay L o cs)[k]? = if o ≤ k ∧ k < o + cs.length then cs[k - o]? else L[k]? := by
  unfold lay
  by_cases h1 : k < o
  · rw [if_neg (by omega), List.getElem?_append_left (by rw [List.length_take]; omega), List.getElem?_take_of_lt h1]
  · rw [List.getElem?_append_right (by rw [List.length_take]; omega), List.length_take, Nat.min_eq_left (by omega)]
    by_cases h2 : k < o + cs.length
    · rw [if_pos ⟨by omega, h2⟩, List.getElem?_append_left (by omega)]
    · rw [if_neg (by omega), List.getElem?_append_right (by omega), List.getElem?_drop]
      congr 1
      omega
theorem run_copy_v (w : World) (ty : TypeId) (g o dLen dCap : Nat) (a : Addr) (sLen sCap : Nat) (cur : Array Value) (cs : List Value) (n : Nat) (hm : Nat.min sLen dLen = n)
    (hg : w.heap[g]? = some (.cells cur 69 (0, 0))) (hn : cs.length = n * 2)
    (hsrc : ∀ j v, cs[j]? = some v → w.cell? (a.add j) = some v) (hfit : o + cs.length ≤ cur.size) (h1 : ∀ v ∈ cs, v.oneCell' = true) :
    (Builtin.copy_ #[31, 31] ty #[.slice (some ⟨g, o, none⟩) dLen dCap, .slice (some a) sLen sCap]).run Tryz.prog w = .ok (goInt n) (w.setRow g (lay cur.toList o cs).toArray) := by
  have hl := run_loadCells_list (P := Tryz.prog) w a cs hsrc
  have hst := run_storeCells_at Tryz.prog g o 69 cs 0 cur w hg (by simpa using hfit) h1
  rw [hn] at hl
  obtain ⟨i0, hi, hz0, hz1, hz2⟩ := info_parts infoVl
  simp [Builtin.copy_, run_underlying Tryz.underlying31, Builtin.lenOf, Builtin.firstCells, sizeOf, typeInfo, hi, hz1, hm, hl, hst, lay]
theorem run_clear_v (w : World) (ty : TypeId) (g o n c : Nat) (cur : Array Value) (hn : 0 < n) (hg : w.heap[g]? = some (.cells cur 69 (0, 0))) (hfit : o + n * 2 ≤ cur.size) :
    (Builtin.clear_ #[31] ty #[.slice (some ⟨g, o, none⟩) n c]).run Tryz.prog w = .ok (.tuple #[]) (w.setRow g (lay cur.toList o (List.replicate (n * 2) (.int .i64 0))).toArray) := by
  have hv : ∀ w, (zeroValue 69).run Tryz.prog w = .ok (.agg #[.int .i64 0, .int .i64 0]) w := fun w => by kernel_rfl
  have hzc : (Builtin.zeroCells (Value.agg #[.int .i64 0, .int .i64 0]).cells n).toList = List.replicate (n * 2) (.int .i64 0) := by
    apply List.ext_getElem
    · simp [Builtin.zeroCells, Value.cells]
    · intro i h1 h2
      have h3 : i % 2 = 0 ∨ i % 2 = 1 := by omega
      simp only [Builtin.zeroCells, Value.cells, List.getElem_replicate]
      simp
      rcases h3 with e | e <;> simp [e]
  have hst := run_storeCells_at Tryz.prog g o 69 (List.replicate (n * 2) (.int .i64 0)) 0 cur w hg (by simpa using hfit) (by intro v hv'; rw [List.eq_of_mem_replicate hv']; rfl)
  obtain ⟨m, rfl⟩ : ∃ m, n = m + 1 := ⟨n - 1, by omega⟩
  simp only [Nat.add_zero] at hst
  simp [Builtin.clear_, run_underlying Tryz.underlying31, hv, hzc, hst, lay]
theorem wpList_copy_vr {P : Program} (w : World) {ops : Array Oper} {rest : List Oper} {o : Oper} {a : Act} {Q : Exit → Act → World → Prop} (hgd : o.guard = none) (d s : Operand) (t t' : TypeId)
    (ho : o.op = .call { callee := .builtin .copy, args := #[d, s], argTypes := #[t, t'] }) (v u : Value) (hd : a.eval d = v) (hs : a.eval s = u) {v' : Value} {w' : World}
    (hr : (Builtin.copy_ #[t, t'] o.type #[v, u]).run P w = .ok v' w') (h : wpList P ops Q rest (a.put o.dst v') w') : wpList P ops Q (o :: rest) a w := by
  refine wpList_plain hgd fun K hK => ?_
  unfold Oper.wp
  simp [execOp, ho, resolve, invoke, builtin, hd, hs, hr, Result.andThen]
  exact hK _ _ h
theorem wpList_clear_vr {P : Program} (w : World) {ops : Array Oper} {rest : List Oper} {o : Oper} {a : Act} {Q : Exit → Act → World → Prop} (hgd : o.guard = none) (d : Operand) (t : TypeId)
    (ho : o.op = .call { callee := .builtin .clear, args := #[d], argTypes := #[t] }) (v : Value) (hd : a.eval d = v) {v' : Value} {w' : World}
    (hr : (Builtin.clear_ #[t] o.type #[v]).run P w = .ok v' w') (h : wpList P ops Q rest (a.put o.dst v') w') : wpList P ops Q (o :: rest) a w := by
  refine wpList_plain hgd fun K hK => ?_
  unfold Oper.wp
  simp [execOp, ho, resolve, invoke, builtin, hd, hr, Result.andThen]
  exact hK _ _ h
theorem step_copy_vr {P : Program} {ops : Array Oper} {o : Oper} {a : Act} {w : World} {K : Act → World → Prop} {Q : Exit → Act → World → Prop} {E : Prop}
    (hg : o.guard = none) (d x : Operand) (dT sT : TypeId) (hop : o.op = Op.call { callee := Callee.builtin Builtin.copy, args := #[d, x], argTypes := #[dT, sT] })
    (v u : Value) (hd : a.eval d = v) (hx : a.eval x = u) {v' : Value} {w' : World} (hr : (Builtin.copy_ #[dT, sT] o.type #[v, u]).run P w = .ok v' w') (hK : K (a.put o.dst v') w') :
    if Region.wanted o (yielded ops a.tmps) = true then Oper.wp P o a w K Q else E := by
  have hw : Region.wanted o (yielded ops a.tmps) = true := by simp [Region.wanted, hg]
  rw [if_pos hw]
  unfold Oper.wp
  simp [execOp, hop, resolve, invoke, builtin, hd, hx, hr, Result.andThen]
  exact hK
theorem setRow_grown (w : World) (g : Nat) (cs : Array Value) : w.grownBy (w.setRow g cs) (some g) := ⟨rfl, rfl, rfl, by simp [World.setRow], fun i _ hi => setRow_other w g i cs (fun e => hi (by rw [e]))⟩
end Go.Proofs.YtcnaahajaaifjacGreat

/-
  spec.RecOk.
-/
namespace Go.Proofs.YtcnaahajaaifjacGreat
open Go.RowKit
open Words

def rcVal (r : Rc) : Value := .agg #[.int .i64 r.kind, .int .i64 r.vol, .int .i64 r.arg, .int .i64 r.chunk]

theorem rc_spec (k v a c : Int) : (Rc.mk k v a c).Right ↔ (0 ≤ a ∧ a ≤ 1000000000) ∧ (k = 1 ∧ v = 0 ∧ c = 0 ∨ (1 ≤ v ∧ v ≤ 9) ∧ (k = 2 ∧ a ≤ 9 ∧ c = 0 ∨ k = 3 ∧ a = 0 ∧ c = 0 ∨ k = 4 ∧ a < 16 ∧ 1 ≤ c ∧ c ≤ 1000000000 ∨ k = 5 ∧ a < 16 ∧ c = 0)) := Iff.rfl

set_option maxHeartbeats 1000000 in
set_option maxRecDepth 100000 in
theorem srecOk (r : Rc) (w : World) :
    Calls Tryz.prog 34 #[rcVal r] w fun e w' => e = .returned (.bool (@decide r.Right r.decR)) ∧ Below w.heap.size w w' := by
  obtain ⟨k, v, a, c⟩ := r
  have HE := hide (rc_spec k v a c)
  have HB := hide ((Below.refl w.heap.size w).alloc (Nat.le_refl _) (.cells #[.int .i64 k, .int .i64 v, .int .i64 a, .int .i64 c] 52))
  unfold rcVal
  simp only
  by_cases a1 : 0 ≤ a ∧ a ≤ 1000000000
  · by_cases a2 : k = 1
    · subst a2
      by_cases a3 : (v == 0) = true
      · go_enter Tryz.func34, Tryz.ntmps34
        go_wp2_with fail
        refine (sin_b a 0 1000000000 true _ (.inl ⟨by omega, by omega, rfl⟩)).mono ?_
        rintro e w1 ⟨rfl, rfl⟩
        go_wp2
        go_ret
        refine ⟨?_, HB.out⟩
        have e : @decide (Rc.mk 1 v a c).Right (Rc.mk 1 v a c).decR = (c == 0) := by
          cases hq : (c == 0) with
          | true => exact dcY (HE.out.2 (by first | omega | (simp_all; done) | (simp_all; omega)))
          | false => exact dcN (fun h => by have := HE.out.1 h; first | omega | (simp_all; done) | (simp_all; omega))
        rw [e]
        rfl
      · have a3 : (v == 0) = false := by simpa using a3
        go_enter Tryz.func34, Tryz.ntmps34
        go_wp2_with fail
        refine (sin_b a 0 1000000000 true _ (.inl ⟨by omega, by omega, rfl⟩)).mono ?_
        rintro e w1 ⟨rfl, rfl⟩
        go_wp2
        go_ret
        exact ⟨by rw [dcN (fun h => by have := HE.out.1 h; first | omega | (simp at this; omega) | (simp_all; done) | (simp_all; omega))]; rfl, HB.out⟩
    · have a2 : (k == 1) = false := by simpa using a2
      by_cases a3 : 2 ≤ k ∧ k ≤ 5
      · by_cases a4 : 1 ≤ v ∧ v ≤ 9
        · obtain a5 | a5 | a5 | a5 : k = 2 ∨ k = 3 ∨ k = 4 ∨ k = 5 := by omega
          · subst a5
            by_cases a6 : (c == 0) = true
            · go_enter Tryz.func34, Tryz.ntmps34
              go_wp2_with fail
              refine (sin_b a 0 1000000000 true _ (.inl ⟨by omega, by omega, rfl⟩)).mono ?_
              rintro e w1 ⟨rfl, rfl⟩
              go_wp2_with fail
              refine (sin_b 2 2 5 true _ (.inl ⟨by omega, by omega, rfl⟩)).mono ?_
              rintro e w1 ⟨rfl, rfl⟩
              go_wp2_with fail
              refine (sin_b v 1 9 true _ (.inl ⟨by omega, by omega, rfl⟩)).mono ?_
              rintro e w1 ⟨rfl, rfl⟩
              go_wp2
              go_ret
              refine ⟨?_, HB.out⟩
              have e : @decide (Rc.mk 2 v a c).Right (Rc.mk 2 v a c).decR = decide (a ≤ 9) := by
                cases hq : decide (a ≤ 9) with
                | true => exact dcY (HE.out.2 (by first | omega | (simp_all; done) | (simp_all; omega)))
                | false => exact dcN (fun h => by have := HE.out.1 h; first | omega | (simp_all; done) | (simp_all; omega))
              rw [e]
              rfl
            · have a6 : (c == 0) = false := by simpa using a6
              go_enter Tryz.func34, Tryz.ntmps34
              go_wp2_with fail
              refine (sin_b a 0 1000000000 true _ (.inl ⟨by omega, by omega, rfl⟩)).mono ?_
              rintro e w1 ⟨rfl, rfl⟩
              go_wp2_with fail
              refine (sin_b 2 2 5 true _ (.inl ⟨by omega, by omega, rfl⟩)).mono ?_
              rintro e w1 ⟨rfl, rfl⟩
              go_wp2_with fail
              refine (sin_b v 1 9 true _ (.inl ⟨by omega, by omega, rfl⟩)).mono ?_
              rintro e w1 ⟨rfl, rfl⟩
              go_wp2
              go_ret
              exact ⟨by rw [dcN (fun h => by have := HE.out.1 h; first | omega | (simp at this; omega) | (simp_all; done) | (simp_all; omega))]; rfl, HB.out⟩
          · subst a5
            by_cases a6 : (c == 0) = true
            · go_enter Tryz.func34, Tryz.ntmps34
              go_wp2_with fail
              refine (sin_b a 0 1000000000 true _ (.inl ⟨by omega, by omega, rfl⟩)).mono ?_
              rintro e w1 ⟨rfl, rfl⟩
              go_wp2_with fail
              refine (sin_b 3 2 5 true _ (.inl ⟨by omega, by omega, rfl⟩)).mono ?_
              rintro e w1 ⟨rfl, rfl⟩
              go_wp2_with fail
              refine (sin_b v 1 9 true _ (.inl ⟨by omega, by omega, rfl⟩)).mono ?_
              rintro e w1 ⟨rfl, rfl⟩
              go_wp2
              go_ret
              refine ⟨?_, HB.out⟩
              have e : @decide (Rc.mk 3 v a c).Right (Rc.mk 3 v a c).decR = (a == 0) := by
                cases hq : (a == 0) with
                | true => exact dcY (HE.out.2 (by first | omega | (simp_all; done) | (simp_all; omega)))
                | false => exact dcN (fun h => by have := HE.out.1 h; first | omega | (simp_all; done) | (simp_all; omega))
              rw [e]
              rfl
            · have a6 : (c == 0) = false := by simpa using a6
              go_enter Tryz.func34, Tryz.ntmps34
              go_wp2_with fail
              refine (sin_b a 0 1000000000 true _ (.inl ⟨by omega, by omega, rfl⟩)).mono ?_
              rintro e w1 ⟨rfl, rfl⟩
              go_wp2_with fail
              refine (sin_b 3 2 5 true _ (.inl ⟨by omega, by omega, rfl⟩)).mono ?_
              rintro e w1 ⟨rfl, rfl⟩
              go_wp2_with fail
              refine (sin_b v 1 9 true _ (.inl ⟨by omega, by omega, rfl⟩)).mono ?_
              rintro e w1 ⟨rfl, rfl⟩
              go_wp2
              go_ret
              exact ⟨by rw [dcN (fun h => by have := HE.out.1 h; first | omega | (simp at this; omega) | (simp_all; done) | (simp_all; omega))]; rfl, HB.out⟩
          · subst a5
            by_cases a6 : a < 16
            · by_cases a7 : 1 ≤ c ∧ c ≤ 1000000000
              · go_enter Tryz.func34, Tryz.ntmps34
                go_wp2_with fail
                refine (sin_b a 0 1000000000 true _ (.inl ⟨by omega, by omega, rfl⟩)).mono ?_
                rintro e w1 ⟨rfl, rfl⟩
                go_wp2_with fail
                refine (sin_b 4 2 5 true _ (.inl ⟨by omega, by omega, rfl⟩)).mono ?_
                rintro e w1 ⟨rfl, rfl⟩
                go_wp2_with fail
                refine (sin_b v 1 9 true _ (.inl ⟨by omega, by omega, rfl⟩)).mono ?_
                rintro e w1 ⟨rfl, rfl⟩
                go_wp2_with fail
                refine (sin_b c 1 1000000000 true _ (.inl ⟨by omega, by omega, rfl⟩)).mono ?_
                rintro e w1 ⟨rfl, rfl⟩
                go_wp2
                go_ret
                exact ⟨by rw [dcY (HE.out.2 (by first | omega | (simp; omega)))]; rfl, HB.out⟩
              · go_enter Tryz.func34, Tryz.ntmps34
                go_wp2_with fail
                refine (sin_b a 0 1000000000 true _ (.inl ⟨by omega, by omega, rfl⟩)).mono ?_
                rintro e w1 ⟨rfl, rfl⟩
                go_wp2_with fail
                refine (sin_b 4 2 5 true _ (.inl ⟨by omega, by omega, rfl⟩)).mono ?_
                rintro e w1 ⟨rfl, rfl⟩
                go_wp2_with fail
                refine (sin_b v 1 9 true _ (.inl ⟨by omega, by omega, rfl⟩)).mono ?_
                rintro e w1 ⟨rfl, rfl⟩
                go_wp2_with fail
                refine (sin_b c 1 1000000000 false _ (.inr ⟨by omega, rfl⟩)).mono ?_
                rintro e w1 ⟨rfl, rfl⟩
                go_wp2
                go_ret
                exact ⟨by rw [dcN (fun h => by have := HE.out.1 h; first | omega | (simp at this; omega) | (simp_all; done) | (simp_all; omega))]; rfl, HB.out⟩
            · go_enter Tryz.func34, Tryz.ntmps34
              go_wp2_with fail
              refine (sin_b a 0 1000000000 true _ (.inl ⟨by omega, by omega, rfl⟩)).mono ?_
              rintro e w1 ⟨rfl, rfl⟩
              go_wp2_with fail
              refine (sin_b 4 2 5 true _ (.inl ⟨by omega, by omega, rfl⟩)).mono ?_
              rintro e w1 ⟨rfl, rfl⟩
              go_wp2_with fail
              refine (sin_b v 1 9 true _ (.inl ⟨by omega, by omega, rfl⟩)).mono ?_
              rintro e w1 ⟨rfl, rfl⟩
              go_wp2
              go_ret
              exact ⟨by rw [dcN (fun h => by have := HE.out.1 h; first | omega | (simp at this; omega) | (simp_all; done) | (simp_all; omega))]; rfl, HB.out⟩
          · subst a5
            by_cases a6 : (c == 0) = true
            · go_enter Tryz.func34, Tryz.ntmps34
              go_wp2_with fail
              refine (sin_b a 0 1000000000 true _ (.inl ⟨by omega, by omega, rfl⟩)).mono ?_
              rintro e w1 ⟨rfl, rfl⟩
              go_wp2_with fail
              refine (sin_b 5 2 5 true _ (.inl ⟨by omega, by omega, rfl⟩)).mono ?_
              rintro e w1 ⟨rfl, rfl⟩
              go_wp2_with fail
              refine (sin_b v 1 9 true _ (.inl ⟨by omega, by omega, rfl⟩)).mono ?_
              rintro e w1 ⟨rfl, rfl⟩
              go_wp2
              go_ret
              refine ⟨?_, HB.out⟩
              have e : @decide (Rc.mk 5 v a c).Right (Rc.mk 5 v a c).decR = decide (a < 16) := by
                cases hq : decide (a < 16) with
                | true => exact dcY (HE.out.2 (by first | omega | (simp_all; done) | (simp_all; omega)))
                | false => exact dcN (fun h => by have := HE.out.1 h; first | omega | (simp_all; done) | (simp_all; omega))
              rw [e]
              rfl
            · have a6 : (c == 0) = false := by simpa using a6
              go_enter Tryz.func34, Tryz.ntmps34
              go_wp2_with fail
              refine (sin_b a 0 1000000000 true _ (.inl ⟨by omega, by omega, rfl⟩)).mono ?_
              rintro e w1 ⟨rfl, rfl⟩
              go_wp2_with fail
              refine (sin_b 5 2 5 true _ (.inl ⟨by omega, by omega, rfl⟩)).mono ?_
              rintro e w1 ⟨rfl, rfl⟩
              go_wp2_with fail
              refine (sin_b v 1 9 true _ (.inl ⟨by omega, by omega, rfl⟩)).mono ?_
              rintro e w1 ⟨rfl, rfl⟩
              go_wp2
              go_ret
              exact ⟨by rw [dcN (fun h => by have := HE.out.1 h; first | omega | (simp at this; omega) | (simp_all; done) | (simp_all; omega))]; rfl, HB.out⟩
        · go_enter Tryz.func34, Tryz.ntmps34
          go_wp2_with fail
          refine (sin_b a 0 1000000000 true _ (.inl ⟨by omega, by omega, rfl⟩)).mono ?_
          rintro e w1 ⟨rfl, rfl⟩
          go_wp2_with fail
          refine (sin_b k 2 5 true _ (.inl ⟨by omega, by omega, rfl⟩)).mono ?_
          rintro e w1 ⟨rfl, rfl⟩
          go_wp2_with fail
          refine (sin_b v 1 9 false _ (.inr ⟨by omega, rfl⟩)).mono ?_
          rintro e w1 ⟨rfl, rfl⟩
          go_wp2
          go_ret
          exact ⟨by rw [dcN (fun h => by have := HE.out.1 h; first | omega | (simp at this; omega) | (simp_all; done) | (simp_all; omega))]; rfl, HB.out⟩
      · go_enter Tryz.func34, Tryz.ntmps34
        go_wp2_with fail
        refine (sin_b a 0 1000000000 true _ (.inl ⟨by omega, by omega, rfl⟩)).mono ?_
        rintro e w1 ⟨rfl, rfl⟩
        go_wp2_with fail
        refine (sin_b k 2 5 false _ (.inr ⟨by omega, rfl⟩)).mono ?_
        rintro e w1 ⟨rfl, rfl⟩
        go_wp2
        go_ret
        exact ⟨by rw [dcN (fun h => by have := HE.out.1 h; first | omega | (simp at this; omega) | (simp_all; done) | (simp_all; omega))]; rfl, HB.out⟩
  · go_enter Tryz.func34, Tryz.ntmps34
    go_wp2_with fail
    refine (sin_b a 0 1000000000 false _ (.inr ⟨by omega, rfl⟩)).mono ?_
    rintro e w1 ⟨rfl, rfl⟩
    go_wp2
    go_ret
    exact ⟨by rw [dcN (fun h => by have := HE.out.1 h; first | omega | (simp at this; omega) | (simp_all; done) | (simp_all; omega))]; rfl, HB.out⟩
end Go.Proofs.YtcnaahajaaifjacGreat

/-
  What is entered, by what the program makes of it ahead of the sweep.
-/
namespace Go.Proofs.YtcnaahajaaifjacGreat
namespace Words

theorem swU_nil (l : List Kn) (i : Nat) : swU l [] i = false := rfl
theorem swL_nil (l : List Kn) : swL l [] = [] := by
  have : (swL l []).length = 0 := by
    rw [swL_len]
    have : ∀ n, swN (swU l []) n = 0 := by
      intro n
      induction n with
      | zero => rfl
      | succ n ih => rw [swN_succ, ih, swU_nil]; rfl
    exact this _
  exact List.eq_nil_of_length_eq_zero this
theorem base_swept {s : Sto} (h : s.Right) (n : Int) : sweptS ⟨[], s.kns, n⟩ = ⟨[], [], n⟩ := by
  have hb : swB s.kns (rootsV []) = true := swB_of ⟨h.ar, fun r hr => by cases hr⟩
  unfold sweptS
  rw [sweepL, if_pos hb]
  show Sto.mk _ (swL s.kns []) _ = _
  rw [swL_nil]
  rfl
theorem put_kids {s : Sto} (h : s.Right) (r sec c : Int) : ∀ x ∈ putL s.kns r sec c, x.kids.length ≤ 1048576 := by
  have four : ∀ l : List Kn, arB l = true → ∀ x ∈ l, x.kids.length ≤ 1048576 := fun l ha x hx => by
    obtain ⟨i, hi, e⟩ := List.mem_iff_getElem.1 hx
    have := knB_len (arB_at ha (i := i) (x := x) (by rw [← e]; exact List.getElem?_eq_getElem hi))
    omega
  unfold putL
  split
  · rename_i hp
    rw [putB, askB] at hp
    simp only [Bool.and_eq_true, decide_eq_true_eq] at hp
    obtain ⟨⟨⟨h1, h2⟩, h3, h4⟩, h5⟩ := hp
    exact four _ (put_right h1 h2 (by omega) h5)
  · exact four _ h.ar
/-- A store s' ahead of the sweep, for what is entered. -/
def EntS (s : Sto) (r : Rc) (ok : Bool) (t : Sto) : Prop := (ok = false ∧ (enterS s r) = (s, false)) ∨ (ok = true ∧ enterS s r = (sweptS t, true) ∧ t.vols.length ≤ 1048576)
theorem ent_base {s : Sto} (h : s.Right) {arg : Int} (hr : (Rc.mk 1 0 arg 0).Right) : EntS s ⟨1, 0, arg, 0⟩ true ⟨[], s.kns, if arg < 1 then 1 else arg⟩ := by
  refine .inr ⟨rfl, ?_, by simp⟩
  rw [enterS, if_pos ⟨(stoB_iff s).2 h, hr⟩, if_pos rfl, base_swept h]
  have h0 := hr.1.1
  simp only at h0 ⊢
  have e : (if arg = 0 then (1 : Int) else arg) = if arg < 1 then 1 else arg := by
    by_cases e : arg = 0
    · subst e; rfl
    · rw [if_neg e, if_neg (by omega)]
  rw [e]
theorem ent_vol_no {s : Sto} (h : s.Right) {vol arg : Int} (hr : (Rc.mk 2 vol arg 0).Right) (hn : (atV s.vols vol).isSome = true ∨ s.vols.length = 3 ∨ (arg ≠ 0 ∧ rootV s.vols arg = none)) (t : Sto) : EntS s ⟨2, vol, arg, 0⟩ false t := by
  refine .inl ⟨rfl, ?_⟩
  rw [enterS, if_pos ⟨(stoB_iff s).2 h, hr⟩, if_neg (by simp), if_pos rfl, volE]
  have h0 := hr.1.1
  simp only at h0 ⊢
  split
  · rfl
  · rename_i q hq
    rcases hn with e | e | ⟨e1, e2⟩
    · rw [e]; rfl
    · rw [decide_eq_true e, Bool.or_true]; rfl
    · rw [if_pos (by omega), e2] at hq
      cases hq
theorem ent_vol {s : Sto} (h : s.Right) {vol arg q : Int} (hr : (Rc.mk 2 vol arg 0).Right) (h1 : atV s.vols vol = none) (h2 : s.vols.length ≠ 3) (hq : arg = 0 ∧ q = -1 ∨ arg ≠ 0 ∧ rootV s.vols arg = some q) : EntS s ⟨2, vol, arg, 0⟩ true ⟨insV s.vols vol q, s.kns, s.next⟩ := by
  have hl := h.few
  have h0 := hr.1.1
  simp only at h0
  have hin : (Sto.mk (insV s.vols vol q) s.kns s.next).Right := by
    have hv : 1 ≤ vol ∧ vol ≤ 9 := by
      rcases hr.2 with ⟨e, -⟩ | ⟨e, -⟩
      · simp at e
      · exact e
    refine ins_right h hv (atV_none h1) (by omega) ?_ ?_
    · rcases hq with ⟨-, rfl⟩ | ⟨-, e⟩
      · exact root_none _
      · exact h.root _ (rootV_some e)
    · rcases hq with ⟨-, rfl⟩ | ⟨-, e⟩
      · exact none_less h.toNear
      · exact h.less _ (rootV_some e)
  refine .inr ⟨rfl, ?_, by have := hin.few; exact Nat.le_trans this (by omega)⟩
  rw [swept_same hin, enterS, if_pos ⟨(stoB_iff s).2 h, hr⟩, if_neg (by simp), if_pos rfl, volE]
  have e : (if 0 < arg then rootV s.vols arg else some (-1)) = some q := by
    rcases hq with ⟨rfl, rfl⟩ | ⟨e1, e2⟩
    · rfl
    · rw [if_pos (by omega)]; exact e2
  simp only [e, h1]
  rw [decide_eq_false h2]
  rfl
theorem ent_drop_no {s : Sto} (h : s.Right) {vol : Int} (hr : (Rc.mk 3 vol 0 0).Right) (hn : atV s.vols vol = none) (t : Sto) : EntS s ⟨3, vol, 0, 0⟩ false t := by
  refine .inl ⟨rfl, ?_⟩
  rw [enterS, if_pos ⟨(stoB_iff s).2 h, hr⟩, if_neg (by simp), if_neg (by simp)]
  simp only [hn]
theorem ent_drop {s : Sto} (h : s.Right) {vol : Int} {k : Nat} (hr : (Rc.mk 3 vol 0 0).Right) (hn : atV s.vols vol = some k) : EntS s ⟨3, vol, 0, 0⟩ true ⟨s.vols.take k ++ s.vols.drop (k + 1), s.kns, s.next⟩ := by
  refine .inr ⟨rfl, ?_, by have := h.few; simp; omega⟩
  rw [enterS, if_pos ⟨(stoB_iff s).2 h, hr⟩, if_neg (by simp), if_neg (by simp)]
  simp only [hn]
  rw [if_neg (by decide), if_pos trivial]
  rfl
theorem ent_put_no {s : Sto} (h : s.Right) {kind vol arg chunk : Int} (hk : kind = 4 ∨ kind = 5) (hr : (Rc.mk kind vol arg chunk).Right) (hn : atV s.vols vol = none ∨ chunk = 1000000000) (t : Sto) : EntS s ⟨kind, vol, arg, chunk⟩ false t := by
  refine .inl ⟨rfl, ?_⟩
  rw [enterS, if_pos ⟨(stoB_iff s).2 h, hr⟩, if_neg (by show ¬ kind = 1; omega), if_neg (by show ¬ kind = 2; omega)]
  simp only
  split
  · rfl
  · rename_i k hk2
    rcases hn with e | e
    · rw [e] at hk2; cases hk2
    · rw [if_pos e]
theorem ent_put {s : Sto} (h : s.Right) {kind vol arg chunk : Int} {k : Nat} {v : Int × Int} (hk : kind = 4 ∨ kind = 5) (hr : (Rc.mk kind vol arg chunk).Right) (hc : chunk ≠ 1000000000) (hn : atV s.vols vol = some k) (hv : s.vols[k]? = some v) : EntS s ⟨kind, vol, arg, chunk⟩ true ⟨s.vols.set k (v.1, putR s.kns v.2 arg chunk), putL s.kns v.2 arg chunk, if s.next < chunk + 1 then chunk + 1 else s.next⟩ := by
  refine .inr ⟨rfl, ?_, by have := h.few; simp; omega⟩
  rw [enterS, if_pos ⟨(stoB_iff s).2 h, hr⟩, if_neg (by show ¬ kind = 1; omega), if_neg (by show ¬ kind = 2; omega)]
  simp only [hn]
  rw [if_neg hc, if_neg (by omega), hv, Option.getD_some, putE]
  have e : (if s.next ≤ chunk then chunk + 1 else s.next) = if s.next < chunk + 1 then chunk + 1 else s.next := by
    by_cases e : s.next ≤ chunk
    · rw [if_pos e, if_pos (by omega)]
    · rw [if_neg e, if_neg (by omega)]
  simp only
  rw [e]
end Words
end Go.Proofs.YtcnaahajaaifjacGreat

/-
  For spec.Enter: parts of a row of volumes; an arena that was put into, in a variable.
-/
namespace Go.Proofs.YtcnaahajaaifjacGreat
open Go.RowKit
open Words

theorem VlRow.takeV {w : World} {a : Option Addr} {len : Nat} {ls : List (Int × Int)} (h : VlRow w a len ls) {k : Nat} (hk : k ≤ len) : VlRow w a k (ls.take k) := by
  obtain ⟨h1, h2, h3, h4⟩ := h
  refine ⟨by simp; omega, by omega, fun _ _ => trivial, fun h0 => ?_⟩
  obtain ⟨b, off, e, hb, hc⟩ := h4 (by omega)
  refine ⟨b, off, e, hb, fun i t ht => hc i t ?_⟩
  rw [List.getElem?_take] at ht
  split at ht
  · exact ht
  · cases ht
theorem VlRow.dropV {w : World} {b off len cap : Nat} {ls : List (Int × Int)} (h : VlRow w (some ⟨b, off, none⟩) len ls) (hc : len ≤ cap) {j : Nat} (hj : j ≤ len) : VlRow w (if cap = j then some ⟨b, off, none⟩ else some ⟨b, off + j * 2, none⟩) (len - j) (ls.drop j) := by
  obtain ⟨h1, h2, h3, h4⟩ := h
  refine ⟨by simp; omega, by omega, fun _ _ => trivial, fun h0 => ?_⟩
  obtain ⟨b', off', e, hb, hc2⟩ := h4 (by omega)
  injection e with e
  injection e with e1 e2
  subst e1 e2
  rw [if_neg (by omega)]
  refine ⟨b, off + j * 2, rfl, hb, fun i t ht => ?_⟩
  rw [List.getElem?_drop] at ht
  have := hc2 (j + i) t ht
  rw [show off + j * 2 + i * 2 = off + (j + i) * 2 by omega]
  exact this
theorem base_fin {w W : World} {z : Nat} {a b c : Value} {r : Rc} (h : EnvS w W z a b c r) (n : Int) : StOut w ⟨[], [], n⟩ (.agg #[.slice none 0 0, .slice none 0 0, .int .i64 n]) (((W.setCell ⟨z + 1 + 1, 0, none⟩ (.slice none 0 0)).setCell ⟨z + 1 + 1, 1, none⟩ (.slice none 0 0)).setCell ⟨z + 1 + 1, 2, none⟩ (.int .i64 n)) := by
  have h1 := h.1
  have h2 := h.2.1.size
  exact st_fin (s := ⟨[], [], n⟩) (lo1 := w.heap.size) (hi1 := w.heap.size) (lo2 := w.heap.size) (hi2 := w.heap.size) (by omega) (.inl ⟨rfl, rfl⟩) ⟨[], rfl, .inl ⟨rfl, rfl⟩, (fun _ h => by cases h), List.Pairwise.nil, by show (0 : Nat) ≤ _; omega⟩ ⟨Nat.le_refl _, .inl (by omega)⟩ ⟨Nat.le_refl _, .inl (by omega)⟩ h2 h2 (.inl (Nat.le_refl _)) h.2.1
/-- What a put left, in a variable. -/
def PuV (wb V : World) (c : Nat) (uv : Value) (L : List Kn) : Prop :=
  V.heap[c]? = some (.cells #[uv] 34 (0, 0)) ∧ Below wb.heap.size wb V ∧ ∃ lo hi, Kns lo hi uv L V ∧ wb.heap.size ≤ lo ∧ hi ≤ V.heap.size ∧ wb.heap.size ≤ c
theorem PuV.ahead {wb W V : World} {c : Nat} {uv x : Value} {L : List Kn} (h : KOut W L (.agg #[uv]) V) (hb : Below wb.heap.size wb V) (hc : wb.heap.size ≤ c ∧ c < W.heap.size) (hx : V.heap[c]? = some (.cells #[x] 34 (0, 0))) : PuV wb (V.setCell ⟨c, 0, none⟩ uv) c uv L := by
  obtain ⟨uv', rs, e, h1, h2, -⟩ := h
  cases e
  have hz : (V.setCell ⟨c, 0, none⟩ uv).heap.size = V.heap.size := by simp [World.setCell]
  refine ⟨heap_setCell_same _ _ 0 _ _ _ hx, hb.setCell (p := ⟨c, 0, none⟩) hc.1 _, W.heap.size, V.heap.size, ?_, by omega, by omega, hc.1⟩
  exact Kns.loc _ _ _ _ V _ (fun g g1 g2 => Below.heap_setCell _ _ _ _ (show g ≠ c by omega)) ⟨rs, h2, h1.kns⟩
theorem PuV.behind {wb W V : World} {uv : Value} {L : List Kn} (h : KOut W L (.agg #[uv]) V) (hb : Below wb.heap.size wb V) (hw : wb.heap.size ≤ W.heap.size) : PuV wb (V.alloc (.cells #[uv] 34)) V.heap.size uv L := by
  obtain ⟨uv', rs, e, h1, h2, -⟩ := h
  cases e
  have hz : (V.alloc (.cells #[uv] 34)).heap.size = V.heap.size + 1 := by simp
  have hs := hb.size
  refine ⟨heap_alloc_new _ _, hb.alloc hs _, W.heap.size, V.heap.size, ?_, by omega, by omega, hs⟩
  exact Kns.loc _ _ _ _ V _ (fun g g1 g2 => Below.heap_alloc _ _ _ (by omega)) ⟨rs, h2, h1.kns⟩
theorem volE_next (s : Sto) (r : Rc) : (volE s r).1.next = s.next := by
  unfold volE
  split
  · rfl
  · split <;> rfl
theorem drop_fit {s : Sto} (h : s.Fit) (k : Nat) : (Sto.mk (s.vols.take k ++ s.vols.drop (k + 1)) s.kns s.next).Fit := by
  refine ⟨?_, h.2⟩
  have := h.1
  show (s.vols.take k ++ s.vols.drop (k + 1)).length ≤ _
  simp
  omega
theorem put_fit {s : Sto} (h : s.Right) {k : Nat} {v : Int × Int} (hv : s.vols[k]? = some v) {arg chunk : Int} (ha : 0 ≤ arg ∧ arg ≤ 15) (hc : 0 ≤ chunk) (q : Int × Int) (n : Int) : (Sto.mk (s.vols.set k q) (putL s.kns v.2 arg chunk) n).Fit := by
  refine ⟨?_, ?_, put_kids h v.2 arg chunk⟩
  · show (s.vols.set k q).length ≤ _
    rw [List.length_set]
    have := h.few
    omega
  · have ht : TrOk s.kns v.2 := ⟨h.ar, h.root v (List.mem_of_getElem? hv)⟩
    have hp := (pt_put (n := chunk) (s := arg.toNat) ht (by omega) hc).1
    rw [show ((arg.toNat : Nat) : Int) = arg by omega] at hp
    show (putL s.kns v.2 arg chunk).length ≤ _
    rw [hp, pt]
    have := right_small h
    simp
    omega
end Go.Proofs.YtcnaahajaaifjacGreat
