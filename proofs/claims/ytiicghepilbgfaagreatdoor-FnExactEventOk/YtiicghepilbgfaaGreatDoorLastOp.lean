/-
  A region that draws, whose last operation waits for all the others: that one is carried out behind them.
-/
import Derived.Test.YtiicghepilbgfaaGreatDoorPk0
import Derived.Orders
import Derived.OrdersHeld
import Derived.Tactics
import Derived.Deep.RegionHeld
namespace Go.Proofs.YtiicghepilbgfaaGreatDoor
open Go Go.RowKit

/-- The last one waits for each of the others; each of those waits for earlier ones alone. -/
def lastB (ops : Array Oper) (o : Oper) : Bool :=
  ((List.range ops.size).all fun i => o.after.any fun e => Region.binds .any e && e.on == i) &&
  ((List.range ops.size).all fun j => match ops[j]? with
    | some oj => (oj.after.all fun e => !Region.binds .any e || decide (e.on < j)) && (match oj.guard with | none => true | some (k, _) => decide (k < ops.size))
    | none => true) &&
  (o.after.all fun e => !Region.binds .any e || decide (e.on < ops.size)) &&
  o.guard.isNone
/-- What follows the others: the last one, and then Q. -/
def Qlast (P : Program) (o : Oper) (Q : Exit → Act → World → Prop) : Exit → Act → World → Prop
  | .normal, a, w => wpList P #[] Q [o] a w
  | e, a, w => Q e a w
theorem LetsOut.last {P : Program} {o : Oper} {Q : Exit → Act → World → Prop} (h : LetsOut (Qlast P o Q)) : LetsOut Q := by
  obtain ⟨a, w, h⟩ := h
  exact ⟨a, w, h⟩
theorem upon_last {P : Program} {o oi : Oper} {Q : Exit → Act → World → Prop} {a : Act} {K : Act → World → Prop} {r : Result Next} (h : oi.upon P a K (Qlast P o Q) r) : oi.upon P a K Q r := by
  cases r with
  | ok n w' =>
    cases n <;> simp only [Oper.upon] at h ⊢ <;>
      first
        | exact h
        | exact Calls.mono h (fun e w'' he => by
            cases e
            · exact he
            · exact he
            · exact LetsOut.last he)
  | halt x w' => cases x <;> simp only [Oper.upon] at h ⊢ <;> exact h
theorem lastB_spec {ops : Array Oper} {o : Oper} (h : lastB ops o = true) : (∀ i, i < ops.size → ∃ e ∈ o.after, Region.binds .any e = true ∧ e.on = i) ∧ (∀ j oj, ops[j]? = some oj → (∀ e ∈ oj.after, Region.binds .any e = true → e.on < j) ∧ ∀ k b, oj.guard = some (k, b) → k < ops.size) ∧ o.guard = none ∧ ∀ e ∈ o.after, Region.binds .any e = true → e.on < ops.size := by
  unfold lastB at h
  simp only [Bool.and_eq_true, List.all_eq_true, List.mem_range, Array.any_eq_true', Option.isNone_iff_eq_none, beq_iff_eq] at h
  obtain ⟨⟨⟨h1, h2⟩, h4⟩, h3⟩ := h
  refine ⟨fun i hi => ?_, fun j oj hj => ?_, h3, fun e he hb => ?_⟩
  · obtain ⟨e, he, hb, ho⟩ := h1 i hi
    exact ⟨e, he, hb, ho⟩
  · have hlt := (Array.getElem?_eq_some_iff.1 hj).1
    have := h2 j hlt
    rw [hj] at this
    simp only [Bool.and_eq_true, Array.all_eq_true_iff_forall_mem, Bool.or_eq_true, Bool.not_eq_true', decide_eq_true_eq] at this
    refine ⟨fun e he hb => ?_, fun k b hg => ?_⟩
    · rcases this.1 e he with q | q
      · rw [hb] at q; cases q
      · exact q
    · have q := this.2
      rw [hg] at q
      simpa using q
  · have := Array.all_eq_true_iff_forall_mem.1 h4 e he
    simp only [Bool.or_eq_true, Bool.not_eq_true', decide_eq_true_eq] at this
    rcases this with q | q
    · rw [hb] at q; cases q
    · exact q
/-- Where none may come up, all have. -/
theorem ready_all {ops : Array Oper} {listed : Array Bool} (hs : listed.size = ops.size) (hw : ∀ j oj, ops[j]? = some oj → ∀ e ∈ oj.after, Region.binds .any e = true → e.on < j) (hr : Region.ready .any ops listed = []) : ∀ i, i < ops.size → listed.getD i false = true := by
  intro i
  induction i using Nat.strongRecOn with
  | ind i ih =>
    intro hi
    cases hl : listed.getD i false with
    | true => rfl
    | false =>
      have hm : i ∈ Region.ready .any ops listed := by
        rw [mem_ready]
        refine ⟨?_, ops[i], Array.getElem?_eq_getElem hi, fun e he hb => ?_⟩
        · have hi2 : i < listed.size := by omega
          simp [hi2] at hl ⊢
          exact hl
        · have := hw i _ (Array.getElem?_eq_getElem hi) e he hb
          exact ih e.on this (by omega)
      rw [hr] at hm
      cases hm
theorem getD_push {listed : Array Bool} {d : Bool} {i : Nat} (h : i < listed.size) : (listed.push false).getD i d = listed.getD i d := by
  simp [Array.getElem?_push, h, Nat.ne_of_lt h]
theorem getD_push_false {listed : Array Bool} {i : Nat} : (listed.push false).getD i false = listed.getD i false := by
  by_cases h : i < listed.size
  · exact getD_push h
  · by_cases e : i = listed.size
    · subst e; simp
    · simp [Array.getElem?_push, e]
theorem wpAny_last {P : Program} {ops : Array Oper} {o : Oper} {Q : Exit → Act → World → Prop} (h : lastB ops o = true) : ∀ (fuel : Nat) (listed : Array Bool) (a : Act) (w : World), listed.size = ops.size →
    wpAny P .any ops (Qlast P o Q) fuel listed a w → wpAny P .any (ops.push o) Q (fuel + 1) (listed.push false) a w := by
  obtain ⟨h1, h2, h3, h4⟩ := lastB_spec h
  have rd : ∀ (listed : Array Bool) (j : Nat), listed.size = ops.size → j ∈ Region.ready .any (ops.push o) (listed.push false) → (j < ops.size ∧ j ∈ Region.ready .any ops listed) ∨ (j = ops.size ∧ ∀ i, i < ops.size → listed.getD i false = true) := by
    intro listed j hs hj
    rw [mem_ready] at hj
    obtain ⟨q1, oj, q2, q3⟩ := hj
    by_cases hlt : j < ops.size
    · left
      rw [Array.getElem?_push_lt hlt] at q2
      rw [getD_push (by omega)] at q1
      refine ⟨hlt, mem_ready.2 ⟨q1, oj, by rw [Array.getElem?_eq_getElem hlt]; exact q2, fun e he hb => ?_⟩⟩
      have := q3 e he hb
      rwa [getD_push_false] at this
    · right
      have hj2 : j < (ops.push o).size := (Array.getElem?_eq_some_iff.1 q2).1
      simp only [Array.size_push] at hj2
      have e : j = ops.size := by omega
      subst e
      simp only [Array.getElem?_push_size, Option.some.injEq] at q2
      subst q2
      refine ⟨rfl, fun i hi => ?_⟩
      obtain ⟨e, he, hb, ho⟩ := h1 i hi
      have := q3 e he hb
      rw [getD_push_false, ho] at this
      exact this
  have last : ∀ (listed : Array Bool), listed.size = ops.size → (∀ i, i < ops.size → listed.getD i false = true) → Region.ready .any ops listed = [] := by
    intro listed hs hall
    rw [List.eq_nil_iff_forall_not_mem]
    intro j hj
    rw [mem_ready] at hj
    obtain ⟨q1, oj, q2, -⟩ := hj
    have hlt := (Array.getElem?_eq_some_iff.1 q2).1
    have := hall j hlt
    have hl2 : j < listed.size := by omega
    simp [hl2] at q1 this
    rw [q1] at this
    cases this
  have stepN : ∀ (fuel : Nat) (listed : Array Bool) (a : Act) (w : World), listed.size = ops.size → (∀ i, i < ops.size → listed.getD i false = true) → wpList P #[] Q [o] a w → wpOp P (ops.push o) Q ops.size (wpAny P .any (ops.push o) Q fuel ((listed.push false).setIfInBounds ops.size true)) a w := by
    intro fuel listed a w hs hall hq
    have hdone : Region.ready .any (ops.push o) ((listed.push false).setIfInBounds ops.size true) = [] := by
      rw [List.eq_nil_iff_forall_not_mem]
      intro j hj
      rw [mem_ready] at hj
      obtain ⟨q1, oj, q2, -⟩ := hj
      have hlt := (Array.getElem?_eq_some_iff.1 q2).1
      simp only [Array.size_push] at hlt
      by_cases e : ops.size = j
      · subst e
        have : ops.size < (listed.push false).size := by simp [hs]
        rw [Array.getD_eq_getD_getElem?, Array.getElem?_setIfInBounds_self_of_lt this] at q1
        cases q1
      · rw [getD_set_ne true e, getD_push (by omega)] at q1
        have hl := hall j (by omega)
        have hl2 : j < listed.size := by omega
        simp [hl2] at q1 hl
        rw [q1] at hl
        cases hl
    unfold wpOp
    simp only [Array.getElem?_push_size, Region.wanted, h3, if_true]
    simp only [wpList, Region.wanted, h3, if_true] at hq
    exact hq.imp (Oper.wp_mono (fun a' w' hk => wpAny_done hdone hk fuel)) id
  have isR : ∀ (listed : Array Bool), listed.size = ops.size → (∀ i, i < ops.size → listed.getD i false = true) → ops.size ∈ Region.ready .any (ops.push o) (listed.push false) := by
    intro listed hs hall
    rw [mem_ready]
    refine ⟨by simp [← hs], o, by simp, fun e he hb => ?_⟩
    rw [getD_push_false]
    exact hall e.on (h4 e he hb)
  have up : ∀ (listed : Array Bool) (j : Nat), listed.size = ops.size → j ∈ Region.ready .any ops listed → j ∈ Region.ready .any (ops.push o) (listed.push false) := by
    intro listed j hs hj
    rw [mem_ready] at hj ⊢
    obtain ⟨q1, oj, q2, q3⟩ := hj
    have hlt := (Array.getElem?_eq_some_iff.1 q2).1
    refine ⟨by rw [getD_push (by omega)]; exact q1, oj, by rw [Array.getElem?_push_lt hlt, ← Array.getElem?_eq_getElem hlt]; exact q2, fun e he hb => ?_⟩
    rw [getD_push_false]
    exact q3 e he hb
  have yl : ∀ (tmps : Array Value) (k : Nat), k < ops.size → yielded (ops.push o) tmps k = yielded ops tmps k := by
    intro tmps k hk
    unfold yielded
    rw [Array.getElem?_push_lt hk, ← Array.getElem?_eq_getElem hk]
  have wn : ∀ (oj : Oper) (j : Nat) (tmps : Array Value), ops[j]? = some oj → Region.wanted oj (yielded (ops.push o) tmps) = Region.wanted oj (yielded ops tmps) := by
    intro oj j tmps hj
    unfold Region.wanted
    cases hg : oj.guard with
    | none => rfl
    | some kb =>
      obtain ⟨k, b⟩ := kb
      simp only
      rw [yl tmps k ((h2 j oj hj).2 k b hg)]
  have opU : ∀ (j : Nat) (K : Act → World → Prop) (a : Act) (w : World), j < ops.size → wpOp P ops (Qlast P o Q) j K a w → wpOp P (ops.push o) Q j K a w := by
    intro j K a w hj hq
    have hjo : ops[j]? = some ops[j] := Array.getElem?_eq_getElem hj
    unfold wpOp at *
    rw [Array.getElem?_push_lt hj]
    rw [hjo] at hq
    simp only at hq ⊢
    rw [wn _ j a.tmps hjo]
    split
    · rename_i hw
      simp only [hw, if_true] at hq
      exact hq.imp (fun q => upon_last q) (fun q => ⟨q.1, LetsOut.last q.2⟩)
    · rename_i hw
      simp only [hw] at hq
      exact hq
  intro fuel
  induction fuel with
  | zero =>
    intro listed a w hs H
    have hall := ready_all hs (fun j oj hj => (h2 j oj hj).1) H.1
    refine ⟨fun hr => ?_, fun j hj => ?_⟩
    · have := isR listed hs hall
      rw [hr] at this
      cases this
    · rcases rd listed j hs hj with ⟨-, q⟩ | ⟨rfl, q⟩
      · rw [H.1] at q; cases q
      · exact stepN 0 listed a w hs q H.2
  | succ fuel ih =>
    intro listed a w hs H
    refine ⟨fun hr => ?_, fun j hj => ?_⟩
    · cases hrr : Region.ready .any ops listed with
      | nil =>
        have := isR listed hs (ready_all hs (fun j oj hj => (h2 j oj hj).1) hrr)
        rw [hr] at this
        cases this
      | cons k ks =>
        have := up listed k hs (by rw [hrr]; simp)
        rw [hr] at this
        cases this
    · rcases rd listed j hs hj with ⟨hlt, q⟩ | ⟨rfl, q⟩
      · have h5 := opU j _ a w hlt (H.2 j q)
        refine wpOp_mono (fun a' w' hk => ?_) h5
        have h6 := ih (listed.setIfInBounds j true) a' w' (by simpa using hs) hk
        have e : (listed.push false).setIfInBounds j true = (listed.setIfInBounds j true).push false := by
          apply Array.ext'
          rw [Array.toList_setIfInBounds, Array.toList_push, Array.toList_push, Array.toList_setIfInBounds, List.set_append_left _ _ (by rw [Array.length_toList]; omega)]
        rw [e]
        exact h6
      · exact stepN (fuel + 1) listed a w hs q (H.1 (last listed hs q))
/-- A region that draws, its last operation behind the others. -/
theorem wp_region_last {P : Program} {id : Nat} {l : List Oper} {o : Oper} {Q : Exit → Act → World → Prop} {S : World → Prop} {a : Act} {w : World} (hm : P.follows .mixedOrders = true) (h : lastB l.toArray o = true) (hS : S w.drew)
    (hh : S w.drew → wpAnyH P .any l.toArray (Qlast P o Q) S l.length (Array.replicate l.length false) a w.drew) : (Code.region id (l ++ [o]).toArray true).wp P Q a w := by
  refine wp_region_any hm ?_
  have e1 : (l ++ [o]).toArray = l.toArray.push o := by simp
  have e2 : (l ++ [o]).toArray.size = l.length + 1 := by simp
  rw [e2, e1]
  have e3 : Array.replicate (l.length + 1) false = (Array.replicate l.length false).push false := by rw [Array.replicate_succ]
  rw [e3]
  exact wpAny_last h l.length _ a _ (by simp) (wpAny_of_held _ _ _ _ (hh hS))
theorem wp_region_last2 {P : Program} {id : Nat} (n : Nat) {l : List Oper} {o : Oper} {Q : Exit → Act → World → Prop} {S : World → Prop} {a : Act} {w : World} (hm : P.follows .mixedOrders = true) (ho : l.drop n = [o]) (h : lastB l.dropLast.toArray o = true) (hS : S w.drew)
    (hh : S w.drew → wpAnyH P .any l.dropLast.toArray (Qlast P o Q) S l.dropLast.length (Array.replicate l.dropLast.length false) a w.drew) : (Code.region id l.toArray true).wp P Q a w := by
  have e : l = l.dropLast ++ [o] := by
    have := List.take_append_drop n l
    rw [ho] at this
    rw [← this, List.dropLast_concat]
  have := wp_region_last (id := id) (Q := Q) (S := S) hm h hS hh
  rw [← e] at this
  exact this
/-- An operation that reads alone, taken first; found by what is left of the list. -/
theorem takeL {P : Program} {l : List Oper} {Q : Exit → Act → World → Prop} {S : World → Prop} (i : Nat) {oi : Oper} {rest : List Oper} {v : Value} {fuel : Nat} {listed : Array Bool} {a : Act} {w : World} (hd : l.drop i = oi :: rest)
    (hs : Region.noSelect l.toArray = true) (hf : Region.free .any l.toArray listed i = true) (hr : (Region.ready .any l.toArray listed).contains i = true)
    (hQ : ∀ c a w, Q (.panic c) (a.put oi.dst v) w → Q (.panic c) a w) (hg : Region.wanted oi (yielded l.toArray a.tmps) = true) (hS : S w) (hy : ∀ w, S w → (execOp a.eval oi).run P w = .ok (.value v) w)
    (h : wpAnyH P .any l.toArray Q S fuel (listed.setIfInBounds i true) (a.put oi.dst v) w) : wpAnyH P .any l.toArray Q S (fuel + 1) listed a w := by
  have hi : l.toArray[i]? = some oi := by
    have : l[i]? = (l.drop i)[0]? := by simp
    rw [List.getElem?_toArray, this, hd]
    rfl
  exact wpAnyH_take hi hs hf hr hQ (Or.inl ⟨hg, hy⟩) hS h
/-- As takeL, all that is asked for shown by itself; the state is laid out anew. -/
theorem tkL {P : Program} {l : List Oper} {Q : Exit → Act → World → Prop} {S : World → Prop} (i : Nat) {oi : Oper} {rest : List Oper} {v : Value} {fuel : Nat} {listed : Array Bool} {a a' : Act} {w : World} (h : wpAnyH P .any l.toArray Q S fuel (listed.setIfInBounds i true) a' w) (hd : l.drop i = oi :: rest := by exact rfl)
    (hs : Region.noSelect l.toArray = true := by kernel_rfl) (hf : Region.free .any l.toArray listed i = true := by kernel_rfl) (hr : (Region.ready .any l.toArray listed).contains i = true := by kernel_rfl)
    (hQ : ∀ c a w, Q (.panic c) (a.put oi.dst v) w → Q (.panic c) a w := by exact fun _ _ _ h => h) (hg : Region.wanted oi (yielded l.toArray a.tmps) = true := by rfl) (hS : S w := by assumption) (hy : ∀ w, S w → (execOp a.eval oi).run P w = .ok (.value v) w := by (intro w hSw; (try dsimp only at hSw); go_simp; all_goals with_reducible rfl))
    (hp : a.put oi.dst v = a' := by (simp only [Act.put, List.setIfInBounds_toArray, List.set_cons_zero, List.set_cons_succ]; try rfl)) : wpAnyH P .any l.toArray Q S (fuel + 1) listed a w :=
  takeL i hd hs hf hr hQ hg hS hy (hp ▸ h)
/-- The one that may come up. -/
theorem oneL {P : Program} {l : List Oper} {Q : Exit → Act → World → Prop} {S : World → Prop} (i : Nat) {oi : Oper} {rest : List Oper} {fuel : Nat} {listed : Array Bool} {a : Act} {w : World} (hd : l.drop i = oi :: rest) (hr : Region.ready .any l.toArray listed = [i])
    (h : ∀ K' : Act → World → Prop, Shut (∀ a w, S w → (S w → wpAnyH P .any l.toArray Q S fuel (listed.setIfInBounds i true) a w) → K' a w) → if Region.wanted oi (yielded l.toArray a.tmps) = true then Oper.wp P oi a w K' Q else K' (a.put oi.dst undef) w) :
    wpAnyH P .any l.toArray Q S (fuel + 1) listed a w := by
  have hi : l.toArray[i]? = some oi := by
    have : l[i]? = (l.drop i)[0]? := by simp
    rw [List.getElem?_toArray, this, hd]
    rfl
  exact wpAnyH_ready hr (by simp) (AllReadyH.cons hi h AllReadyH.nil)
theorem last_go {P : Program} {o : Oper} {Q : Exit → Act → World → Prop} {a : Act} {w : World} (h : wpList P #[] Q [o] a w) : Qlast P o Q .normal a w := h
end Go.Proofs.YtiicghepilbgfaaGreatDoor
