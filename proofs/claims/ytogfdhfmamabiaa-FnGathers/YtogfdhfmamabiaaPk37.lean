/-
  IMap; PgV
-/
import Derived.Test.YtogfdhfmamabiaaGaMath
import Derived.Test.YtogfdhfmamabiaaPk11
import Derived.Maps.OwnSet
import Derived.Test.YtogfdhfmamabiaaPk0
import Derived.Test.YtogfdhfmamabiaaPgMath
/-
  Maps by numbers: what stands at a number, one more, one less.
-/
namespace Go.Proofs.Ytogfdhfmamabiaa
open Go.RowKit
open Go.ChangeMaps (setBlock heap_setBlock_same heap_setBlock_other)
open Words

def enK (p : Int × Value) : Value × Value := (.int .i64 p.1, p.2)
/-- Block b is a map that has at each number what the list tells. -/
def MapI (w : World) (b : Nat) (l : List (Int × Value)) : Prop := Keyd l ∧ ∃ es clock, w.heap[b]? = some (.map es clock) ∧ es.toList.map (fun e => (e.key, e.val)) = l.map enK

theorem erase_map {α β : Type} (f : α → β) : ∀ (l : List α) (j : Nat), (l.map f).eraseIdx j = (l.eraseIdx j).map f
  | [], _ => rfl
  | _ :: _, 0 => rfl
  | a :: l, j + 1 => by simp [erase_map f l j]
section
variable {P : Program} {t k e : TypeId} {w w' : World} {b : Nat} {l : List (Int × Value)}
theorem MapI.lt (h : MapI w b l) : b < w.heap.size := by
  obtain ⟨-, es, clock, h1, -⟩ := h
  exact (Array.getElem?_eq_some_iff.1 h1).1
theorem MapI.same (h : MapI w b l) (e : w'.heap[b]? = w.heap[b]?) : MapI w' b l := by
  obtain ⟨h0, es, clock, h1, h2⟩ := h
  exact ⟨h0, es, clock, e.trans h1, h2⟩
theorem MapI.below (h : MapI w b l) (hb : Below w.heap.size w w') : MapI w' b l := h.same (hb.block _ h.lt)
theorem MapI.grown {row : Option Nat} (h : MapI w b l) (hg : w.grownBy w' row) (hn : some b ≠ row) : MapI w' b l := h.same (hg.block _ h.lt hn)
theorem MapI.made (w : World) : MapI (w.alloc (.map #[] 0)) w.heap.size [] := ⟨List.Pairwise.nil, #[], 0, heap_alloc_new w _, rfl⟩
theorem MapI.not_cells (h : MapI w b l) {cs : Array Value} {e : TypeId} {z : Nat × Nat} (hc : w.heap[b]? = some (.cells cs e z)) : False := by
  obtain ⟨-, es, clock, h1, -⟩ := h
  rw [h1] at hc
  cases hc

theorem findI {es : Array MapEntry} (hk : P.underlying k = some (.int .i64)) (hd : Keyd l) (h : es.toList.map (fun e => (e.key, e.val)) = l.map enK) (x : Int) (w : World) :
    ((Instr.findKey k (.int .i64 x) es.toList).run P w = .ok none w ∧ at? l x = none) ∨ ∃ j v, (Instr.findKey k (.int .i64 x) es.toList).run P w = .ok (some (j, v)) w ∧ l[j]? = some (x, v) ∧ at? l x = some v := by
  have hks : ∀ y ∈ es.toList, MapKept.IsKey (.int .i64) y.key := by
    intro y hy
    have : (y.key, y.val) ∈ es.toList.map (fun e => (e.key, e.val)) := List.mem_map.2 ⟨y, hy, rfl⟩
    rw [h] at this
    obtain ⟨p, -, hp⟩ := List.mem_map.1 this
    have : y.key = .int .i64 p.1 := (congrArg Prod.fst hp).symm
    rw [this]
    rfl
  rcases MapKept.findNow_spec (d := .int .i64) (k := .int .i64 x) rfl es.toList 0 hks with ⟨h1, h2⟩ | ⟨j, e0, h1, h2, h3⟩
  · refine .inl ⟨MapKept.run_findKey hk h1, at?_none.2 fun p hp e => ?_⟩
    have : enK p ∈ l.map enK := List.mem_map.2 ⟨p, hp, rfl⟩
    rw [← h] at this
    obtain ⟨y, hy, ey⟩ := List.mem_map.1 this
    refine h2 y hy ?_
    have := congrArg Prod.fst ey
    simp only [enK] at this
    rw [this, e]
  · have e1 : (l.map enK)[j]? = some (e0.key, e0.val) := by rw [← h, List.getElem?_map, h2]; rfl
    rw [List.getElem?_map] at e1
    cases hl : l[j]? with
    | none => rw [hl] at e1; cases e1
    | some p =>
      rw [hl] at e1
      simp only [Option.map_some, Option.some.injEq, enK, Prod.mk.injEq] at e1
      obtain ⟨e1, e2⟩ := e1
      rw [h3] at e1
      injection e1 with _ e1
      have ep : p = (x, e0.val) := by rw [← e1, ← e2]
      refine .inr ⟨j, e0.val, by simpa using MapKept.run_findKey hk h1, by rw [hl, ep], mem_at? hd ?_⟩
      rw [← ep]
      exact List.mem_of_getElem? hl
/-- m[x], and v, ok := m[x]. -/
theorem MapI.look (h : MapI w b l) (ht : P.underlying t = some (.map k e)) (hk : P.underlying k = some (.int .i64)) {z : Value} (hz : (zeroValue e).run P w = .ok z w) (x : Int) (c : Bool) :
    (Instr.lookup t (.map (some b)) (.int .i64 x) c).run P w = .ok (if c then .tuple #[(at? l x).getD z, .bool (at? l x).isSome] else (at? l x).getD z) w := by
  obtain ⟨h0, es, clock, hb, h2⟩ := h
  have hc : ∀ em, (Instr.checkKey em 10000 k (.int .i64 x)).run P w = .ok () w := fun em => MapKept.run_checkKey hk (show MapKept.IsKey (.int .i64) (.int .i64 x) from rfl) em 9999
  rcases findI hk h0 h2 x w with ⟨h1, h3⟩ | ⟨j, v, h1, -, h3⟩
  · simp [Instr.lookup, run_underlying ht, MapKept.run_getObj_map hb, hc, h1, hz, h3, Result.andThen]
  · simp [Instr.lookup, run_underlying ht, MapKept.run_getObj_map hb, hc, h1, h3, Result.andThen]
/-- m[x] = v, where there was none. -/
theorem MapI.put (h : MapI w b l) (ht : P.underlying t = some (.map k e)) (hk : P.underlying k = some (.int .i64)) {x : Int} (hn : at? l x = none) (v : Value) :
    ∃ w', (Instr.mapUpdate t (.map (some b)) (.int .i64 x) v).run P w = .ok () w' ∧ MapI w' b (l ++ [(x, v)]) ∧ w.grownBy w' (some b) ∧ w'.heap.size = w.heap.size := by
  obtain ⟨h0, es, clock, hb, h2⟩ := h
  have hc : ∀ em, (Instr.checkKey em 10000 k (.int .i64 x)).run P w = .ok () w := fun em => MapKept.run_checkKey hk (show MapKept.IsKey (.int .i64) (.int .i64 x) from rfl) em 9999
  rcases findI hk h0 h2 x w with ⟨h1, h3⟩ | ⟨j, v, h1, -, h3⟩
  · refine ⟨setBlock w b (.map (es.push ⟨.int .i64 x, v, clock⟩) (clock + 1)), ?_, ⟨h0.snoc hn, _, _, heap_setBlock_same hb _, by simp [h2, enK]⟩, ?_, by simp [setBlock]⟩
    · simp [Instr.mapUpdate, run_underlying ht, MapKept.run_getObj_map hb, hc, h1, MapKept.run_setObj_map _ hb, Result.andThen, setBlock]
    · exact ⟨rfl, rfl, rfl, by simp [setBlock], fun i _ hi => heap_setBlock_other hb _ (fun e1 => hi (by rw [e1]))⟩
  · rw [hn] at h3; cases h3
/-- delete(m, x). -/
theorem MapI.del (h : MapI w b l) (ht : P.underlying t = some (.map k e)) (hk : P.underlying k = some (.int .i64)) (x : Int) :
    ∃ w', (∀ ty, (Builtin.delete_ #[t, k] ty #[.map (some b), .int .i64 x]).run P w = .ok (.tuple #[]) w') ∧ MapI w' b (cutK l x) ∧ w.grownBy w' (some b) ∧ w'.heap.size = w.heap.size := by
  obtain ⟨h0, es, clock, hb, h2⟩ := h
  have hc : ∀ em, (Instr.checkKey em 10000 k (.int .i64 x)).run P w = .ok () w := fun em => MapKept.run_checkKey hk (show MapKept.IsKey (.int .i64) (.int .i64 x) from rfl) em 9999
  rcases findI hk h0 h2 x w with ⟨h1, h3⟩ | ⟨j, v, h1, hj, h3⟩
  · refine ⟨setBlock w b (.map es clock), ?_, ⟨h0.cut, es, clock, heap_setBlock_same hb _, by rw [cut_no h3]; exact h2⟩, ?_, by simp [setBlock]⟩
    · intro ty
      simp [Builtin.delete_, run_underlying ht, MapKept.run_getObj_map hb, hc, h1, MapKept.run_setObj_map _ hb, Result.andThen, setBlock]
    · exact ⟨rfl, rfl, rfl, by simp [setBlock], fun i _ hi => heap_setBlock_other hb _ (fun e1 => hi (by rw [e1]))⟩
  · have hjl : j < l.length := (List.getElem?_eq_some_iff.1 hj).1
    have hjs : j < es.size := by
      have := congrArg List.length h2
      simp only [List.length_map, Array.length_toList] at this
      omega
    have hsub : (es.eraseIdxIfInBounds j).toList = es.toList.eraseIdx j := by
      unfold Array.eraseIdxIfInBounds
      rw [dif_pos hjs]
      simp
    have hcut : cutK l x = l.eraseIdx j := by
      have hd := h0
      clear h2 hjs hsub h1 h3 hc
      revert j
      induction l with
      | nil => intro j hj; simp at hj
      | cons a l ih =>
        intro j hj _
        obtain ⟨q1, q2⟩ := List.pairwise_cons.1 hd
        unfold cutK at *
        rw [List.filter_cons]
        cases j with
        | zero =>
          simp only [List.getElem?_cons_zero, Option.some.injEq] at hj
          subst hj
          simp only [ne_eq, not_true_eq_false, decide_false, Bool.false_eq_true, if_false, List.eraseIdx_cons_zero]
          rw [List.filter_eq_self]
          intro p hp
          have := q1 p hp
          simp only [decide_eq_true_eq]
          exact fun e => this e.symm
        | succ j =>
          have hj' : l[j]? = some (x, v) := by simpa using hj
          have hm := q1 _ (List.mem_of_getElem? hj')
          simp only [ne_eq, hm, not_false_eq_true, decide_true, if_true, List.eraseIdx_cons_succ]
          rw [show (List.filter (fun p => decide ¬p.1 = x) l) = l.eraseIdx j from ih q2 q2 j hj' (List.getElem?_eq_some_iff.1 hj').1]
    refine ⟨setBlock w b (.map (es.eraseIdxIfInBounds j) clock), ?_, ⟨h0.cut, _, clock, heap_setBlock_same hb _, ?_⟩, ?_, by simp [setBlock]⟩
    · intro ty
      simp [Builtin.delete_, run_underlying ht, MapKept.run_getObj_map hb, hc, h1, MapKept.run_setObj_map _ hb, Result.andThen, setBlock]
    · rw [hsub, hcut, ← erase_map, ← erase_map, h2]
    · exact ⟨rfl, rfl, rfl, by simp [setBlock], fun i _ hi => heap_setBlock_other hb _ (fun e1 => hi (by rw [e1]))⟩
/-- len(m). -/
theorem MapI.len (h : MapI w b l) (ht : P.underlying t = some (.map k e)) (ty : TypeId) : (Builtin.len_ #[t] ty #[.map (some b)]).run P w = .ok (.int .i64 (l.length : Nat)) w := by
  obtain ⟨h0, es, clock, hb, h2⟩ := h
  have e1 : es.size = l.length := by
    have := congrArg List.length h2
    simpa using this
  rw [← e1]
  simp [Builtin.len_, run_underlying ht, MapKept.run_getObj_map hb, goInt, Result.andThen]
end
/-- delete at an operation. -/
theorem wpList_delI {P : Program} (w : World) {ops : Array Oper} {rest : List Oper} {o : Oper} {a : Act} {Q : Exit → Act → World → Prop} (hg : o.guard = none) (m x : Operand) (t k : TypeId) (hop : o.op = Op.call { callee := Callee.builtin Builtin.delete, args := #[m, x], argTypes := #[t, k] })
    (e : TypeId) (ht : P.underlying t = some (.map k e)) (hk : P.underlying k = some (.int .i64)) (b : Nat) (l : List (Int × Value)) (hm : a.eval m = .map (some b)) (hown : MapI w b l) (key : Int) (hx : a.eval x = .int .i64 key)
    (hK : ∀ w', MapI w' b (cutK l key) → w.grownBy w' (some b) → w'.heap.size = w.heap.size → wpList P ops Q rest (a.put o.dst (.tuple #[])) w') :
    wpList P ops Q (o :: rest) a w := by
  refine wpList_plain hg fun K' hK' => ?_
  obtain ⟨w', hrun, r1, r2, r3⟩ := hown.del ht hk key
  unfold Oper.wp
  simp [execOp, hop, resolve, invoke, builtin, hm, hx, hrun, Result.andThen]
  exact hK' _ _ (hK w' r1 r2 r3)
end Go.Proofs.Ytogfdhfmamabiaa

/-
  A page as a value.
-/
namespace Go.Proofs.Ytogfdhfmamabiaa
open Go.RowKit
open Words

def pgVal (p : Pg) : Value := .agg #[.int .i64 p.kind, .int .i64 p.seq, .int .i64 p.tx, .int .i64 p.part, .int .i64 p.count, .string p.text]
end Go.Proofs.Ytogfdhfmamabiaa
