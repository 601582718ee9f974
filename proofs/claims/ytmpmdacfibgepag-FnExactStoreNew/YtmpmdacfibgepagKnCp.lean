/-
  spec.l11Copy.
-/
import Derived.Test.YtmpmdacfibgepagPk16
import Derived.Test.YtmpmdacfibgepagStApp
import Derived.Deep.RegionHeld3
import Derived.Deep.DeepCutAuto
import Derived.Test.YtmpmdacfibgepagLastOp
import Derived.Laws.AppendOwnNone
namespace Go.Proofs.Ytmpmdacfibgepag
open Go.RowKit
open Words

theorem infoArc : (Try.prog.info? 63).map (·.size) = some 1 := by kernel_rfl
/-- A copy under way. -/
def CpSt (w W : World) (z : Nat) (av ov : Value) (ss : List Kw) : Prop := W.heap[z]? = some (.cells #[av] 63 (0, 0)) ∧ W.heap[z + 1]? = some (.cells #[.slice none 0 0] 63 (0, 0)) ∧ W.heap[z + 2]? = some (.cells #[ov] 63 (0, 0)) ∧ KOwn W (z + 3) ov ss ∧ Below z w W

theorem KOwn.cellB {W : World} {B : Nat} {v : Value} {rs : List Kw} (h : KOwn W B v rs) {g : Nat} (hg : g < B) (i : Nat) (u : Value) : KOwn (W.setCell ⟨g, i, none⟩ u) B v rs := by
  have e : (W.setCell ⟨g, i, none⟩ u).heap.size = W.heap.size := by simp [World.setCell]
  refine ⟨own_cell h.1 hg i u, fun r hr => ⟨?_, (h.2.1 r hr).2⟩, h.2.2⟩
  rw [e]
  exact (h.2.1 r hr).1.grown (grown_cell _ g i _) (fun q hq e2 => by
    have := ((h.2.1 r hr).1.lt q hq).1
    cases e2
    omega)
theorem kn_new (W : World) (lf : Bool) (v : Value) : ∀ (j : Nat) (u : Value), [Value.bool lf, v][j]? = some u → (W.alloc (.cells #[.bool lf, v] 159)).cell? ((⟨W.heap.size, 0, none⟩ : Addr).add j) = some u := by
  intro j u hj
  match j, hj with
  | 0, hj | 1, hj =>
    simp at hj
    subst hj
    simp [Addr.add]
theorem kn_one (lf : Bool) (va : Option Addr) (n c : Nat) : ∀ u ∈ [Value.bool lf, Value.slice va n c], u.oneCell' = true := by
  intro u hu
  simp at hu
  rcases hu with h | h <;> subst h <;> rfl
theorem icells_one (l : List Int) : ∀ u ∈ icells l, u.oneCell' = true := by
  intro u hu
  obtain ⟨x, -, rfl⟩ := List.mem_map.1 hu
  rfl
theorem icells_back {l : List Int} {j : Nat} {u : Value} (h : (icells l)[j]? = some u) : ∃ x, l[j]? = some x ∧ u = .int .i64 x := by
  rw [icells, List.getElem?_map] at h
  obtain ⟨x, hx, rfl⟩ := Option.map_eq_some_iff.1 h
  exact ⟨x, hx, rfl⟩
theorem IRow.cells {w : World} {b off len : Nat} {ls : List Int} (h : IRow w (some ⟨b, off, none⟩) len ls) (j : Nat) (u : Value) (hj : (icells ls)[j]? = some u) : w.cell? ((⟨b, off, none⟩ : Addr).add j) = some u := by
  obtain ⟨x, hx, rfl⟩ := icells_back hj
  obtain ⟨b', off', e, -, c⟩ := h.at hx
  injection e with e
  injection e with e1 e2
  subst e1 e2
  have ea : (⟨b, off, none⟩ : Addr).add j = ⟨b, off + j, none⟩ := by simp only [Addr.add]; split <;> simp_all
  rw [ea]
  exact c

/-- 'append(v, xs...)' of a row of numbers, wherever it lies; or of none. -/
theorem step_append_sl (w : World) {ops : Array Oper} {o : Oper} {a : Act} {K : Act → World → Prop} {Q : Exit → Act → World → Prop} {E : Prop} (hgd : o.guard = none) (s x : Operand)
    (ho : o.op = .call { callee := .builtin .append, args := #[s, x], argTypes := #[92, 92] })
    (base : Nat) (i : TypeInfo) (hi : Try.prog.info? 3 = some i) (hz : i.zero = some (.int .i64 0)) (hsize : i.size = 1) (hby : i.bytes = 8)
    (v : Value) (n : Nat) (xs : List Value) (hs : a.eval s = v) (hown : w.ownsRow base 3 1 v n xs)
    (ls : List Int) (m : Nat) (hm : ls.length = m) (u : Value) (hx : a.eval x = u) (hsl : ISl w u ls) (h63 : n + m ≤ maxLen) (hbytes : (n + m) * 8 ≤ 140737488355328) (hbase : base ≤ w.heap.size)
    (h : ∀ v' w', w'.ownsRow base 3 1 v' (n + m) (xs ++ icells ls) → w.grownBy w' v.ownBlock → K (a.put o.dst v') w') :
    if Region.wanted o (yielded ops a.tmps) = true then Oper.wp Try.prog o a w K Q else E := by
  subst hm
  obtain ⟨ad, c, rfl, h0, hr⟩ := hsl
  cases ls with
  | nil =>
    cases ad with
    | none =>
      rw [h0 rfl] at hx
      have hw : Region.wanted o (yielded ops a.tmps) = true := by simp [Region.wanted, hgd]
      rw [if_pos hw]
      have hrun := run_append_owned_none (P := Try.prog) (w := w) base 92 o.type 3 i 1 Try.underlying92 hi v n xs hown
      unfold Oper.wp execOp
      simp only [ho, resolve, invoke, builtin, Sem.run_bind, Sem.run_pure, Result.andThen_ok, List.map_toArray, List.map_cons, List.map_nil, hs, hx, List.length_nil, hrun]
      exact h v w (by simpa [icells] using hown) (World.grownBy.refl _ _)
    | some q => exact step_append_own w hgd s x 92 ho base 3 i (.int .i64 0) 1 8 Try.underlying92 hi hz hsize hby rfl (by decide) v n xs hs hown q 0 c [] hx rfl (fun _ _ e => by simp at e) (fun _ e => by cases e) h63 hbytes hbase h
  | cons y l =>
    obtain ⟨b, off, e, -, hc⟩ := hr.2.2 (by simp)
    subst e
    exact step_append_own w hgd s x 92 ho base 3 i (.int .i64 0) 1 8 Try.underlying92 hi hz hsize hby rfl (by decide) v n xs hs hown ⟨b, off, none⟩ _ c (icells (y :: l)) hx (by simp [icells]) hr.cells (icells_one _) h63 hbytes hbase h

end Go.Proofs.Ytmpmdacfibgepag
