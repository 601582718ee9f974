/-
  spec.ReadRecs.
-/
import Derived.Test.YtmpmdacfibgepadPk12
import Derived.Test.YtmpmdacfibgepadPk13
import Derived.Test.YtmpmdacfibgepadPk0
import Derived.Test.YtmpmdacfibgepadTk
import Derived.Maps.AppendAt
namespace Go.Proofs.Ytmpmdacfibgepad
open Go.RowKit
open Words

def rcLen : Value → Nat
  | .slice _ n _ => n
  | _ => 0
theorem own_kept {W W' : World} {base : Nat} {e : TypeId} {size : Nat} {v : Value} {n : Nat} {xs : List Value} (h : W.ownsRow base e size v n xs) (hk : ∀ i, i < W.heap.size → v.ownBlock = some i → W'.heap[i]? = W.heap[i]?) : W'.ownsRow base e size v n xs := by
  obtain ⟨h1, h2⟩ := h
  refine ⟨h1, ?_⟩
  rcases h2 with h | ⟨g, cap, cur, rfl, a2, a3, a4⟩
  · exact .inl h
  · exact .inr ⟨g, cap, cur, rfl, a2, by rw [hk g (Array.getElem?_eq_some_iff.1 a3).1 rfl]; exact a3, a4⟩
theorem CAt.off {w : World} {g p k : Nat} {t : ByteArray} {i : Int} {bad : Bool} {v : Value} (h : CAt w g t i bad) (hp : p ≠ g) : CAt (w.setCell ⟨p, k, none⟩ v) g t i bad := by
  obtain ⟨h1, h2, h3, h4, h5, h6⟩ := h
  have e : ∀ j, (w.setCell ⟨p, k, none⟩ v).cell? ⟨g, j, none⟩ = w.cell? ⟨g, j, none⟩ := fun j => World.cell?_setCell_other _ _ _ _ (fun e => hp (by injection e))
  exact ⟨by simpa using h1, by rw [e]; exact h2, by rw [e]; exact h3, by rw [e]; exact h4, by simpa using h5, by simpa using h6⟩

/-- What a reader of records holds: its cursor in g, its row of records. -/
def RS (w W : World) (g : Nat) (t : ByteArray) (q : Nat) (bad : Bool) (uv : Value) (acc : List Rc) : Prop :=
  Below w.heap.size w W ∧ w.heap.size ≤ g ∧ CAt W g t q bad ∧ W.ownsRow w.heap.size 47 4 uv acc.length (rccells (acc.map Rc.tu)) ∧ uv.ownBlock ≠ some g
theorem RS.moved {w W W' : World} {g : Nat} {t : ByteArray} {q q' : Nat} {bad bad' : Bool} {uv : Value} {acc : List Rc} (h : RS w W g t q bad uv acc) (m : MovedC W W' g t q' bad') : RS w W' g t q' bad' uv acc := by
  obtain ⟨h1, h2, h3, h4, h5⟩ := h
  exact ⟨h1.trans (Kept2.down m.1 h1.size (fun i hi => by omega)), h2, m.2, own_kept h4 (fun i hi e => m.1.2.2.2.2 i hi (fun e2 => h5 (e2 ▸ e))), h5⟩
theorem RS.below {w W W' : World} {g : Nat} {t : ByteArray} {q : Nat} {bad : Bool} {uv : Value} {acc : List Rc} (h : RS w W g t q bad uv acc) (b : Below W.heap.size W W') : RS w W' g t q bad uv acc :=
  h.moved ⟨Kept2.below b, h.2.2.1.below b⟩
theorem RS.set1 {w W : World} {g : Nat} {t : ByteArray} {q q' : Nat} {bad : Bool} {uv : Value} {acc : List Rc} (h : RS w W g t q bad uv acc) : RS w (W.setCell ⟨g, 1, none⟩ (.int .i64 (q' : Nat))) g t q' bad uv acc :=
  h.moved (MovedC.set1 h.2.2.1 (Below.refl _ _))

/-- And the record that it makes, in sc. -/
def RT (w W : World) (g : Nat) (t : ByteArray) (q : Nat) (bad : Bool) (uv : Value) (acc : List Rc) (sc : Nat) (cs : Array Value) : Prop :=
  RS w W g t q bad uv acc ∧ w.heap.size ≤ sc ∧ sc ≠ g ∧ uv.ownBlock ≠ some sc ∧ W.heap[sc]? = some (.cells cs 47 (0, 0))
theorem RT.new {w W : World} {g : Nat} {t : ByteArray} {q : Nat} {bad : Bool} {uv : Value} {acc : List Rc} (h : RS w W g t q bad uv acc) (cs : Array Value) : RT w (W.alloc (.cells cs 47)) g t q bad uv acc W.heap.size cs := by
  have hl := h.2.2.2.1.lt
  have hg := h.2.2.1.1
  refine ⟨h.below ((Below.refl _ _).alloc (Nat.le_refl _) _), h.1.size, by omega, fun e => ?_, heap_alloc_new W _⟩
  have := (hl _ e).2
  omega
theorem RT.moved {w W W' : World} {g : Nat} {t : ByteArray} {q q' : Nat} {bad bad' : Bool} {uv : Value} {acc : List Rc} {sc : Nat} {cs : Array Value} (h : RT w W g t q bad uv acc sc cs) (m : MovedC W W' g t q' bad') : RT w W' g t q' bad' uv acc sc cs := by
  obtain ⟨h1, h2, h3, h4, h5⟩ := h
  exact ⟨h1.moved m, h2, h3, h4, (m.1.2.2.2.2 sc (Array.getElem?_eq_some_iff.1 h5).1 h3).trans h5⟩
theorem RT.below {w W W' : World} {g : Nat} {t : ByteArray} {q : Nat} {bad : Bool} {uv : Value} {acc : List Rc} {sc : Nat} {cs : Array Value} (h : RT w W g t q bad uv acc sc cs) (b : Below W.heap.size W W') : RT w W' g t q bad uv acc sc cs :=
  h.moved ⟨Kept2.below b, h.1.2.2.1.below b⟩
theorem RT.set {w W : World} {g : Nat} {t : ByteArray} {q : Nat} {bad : Bool} {uv : Value} {acc : List Rc} {sc : Nat} {cs : Array Value} (h : RT w W g t q bad uv acc sc cs) (k : Nat) (v : Value) : RT w (W.setCell ⟨sc, k, none⟩ v) g t q bad uv acc sc (cs.setIfInBounds k v) := by
  obtain ⟨⟨a1, a2, a3, a4, a5⟩, h2, h3, h4, h5⟩ := h
  exact ⟨⟨a1.setCell h2 _, a2, a3.off h3, own_kept a4 (fun i _ e => Below.heap_setCell _ _ _ _ (fun e2 => h4 (by subst e2; exact e))), a5⟩, h2, h3, h4, heap_setCell_same _ _ _ _ _ _ h5⟩
theorem RT.at_ {w W : World} {g : Nat} {t : ByteArray} {q : Nat} {bad : Bool} {uv : Value} {acc : List Rc} {sc : Nat} {cs : Array Value} (h : RT w W g t q bad uv acc sc cs) (k : Nat) (v : Value) (hv : cs[k]? = some v) : W.cell? ⟨sc, k, none⟩ = some v ∧ W.frozen? ⟨sc, k, none⟩ = false :=
  ⟨cell_of_row _ _ k _ _ _ h.2.2.2.2 ▸ hv, frozen_of_row _ _ k _ _ h.2.2.2.2⟩

theorem RS.grown {w W y : World} {g : Nat} {t : ByteArray} {q : Nat} {bad : Bool} {uv u' : Value} {acc acc' : List Rc} (h : RS w W g t q bad uv acc) (hg : W.grownBy y uv.ownBlock) (ho : y.ownsRow w.heap.size 47 4 u' acc'.length (rccells (acc'.map Rc.tu))) (hw : u'.ownBlock = uv.ownBlock ∨ u'.ownBlock = some W.heap.size) : RS w y g t q bad u' acc' := by
  obtain ⟨h1, h2, ⟨c0, c1, c2, c3, f1, f2⟩, h4, h5⟩ := h
  have e : ∀ j, y.cell? ⟨g, j, none⟩ = W.cell? ⟨g, j, none⟩ := fun j => hg.cell_far _ c0 (fun e => h5 e.symm)
  have f : ∀ j, y.frozen? ⟨g, j, none⟩ = W.frozen? ⟨g, j, none⟩ := fun j => hg.frozen_far _ c0 (fun e => h5 e.symm)
  refine ⟨h1.grown hg h1.size (fun k hk => (h4.lt k hk).1), h2, ⟨Nat.lt_of_lt_of_le c0 hg.size, by rw [e]; exact c1, by rw [e]; exact c2, by rw [e]; exact c3, by rw [f]; exact f1, by rw [f]; exact f2⟩, ho, fun e => ?_⟩
  rcases hw with hw | hw
  · exact h5 (hw ▸ e)
  · rw [hw] at e
    have : W.heap.size = g := by injection e
    omega
theorem rc_fresh {w W : World} (b : Below w.heap.size w W) (n : Nat) (hn : W.heap.size = n) : (W.alloc (.cells #[] 47)).ownsRow w.heap.size 47 4 (.slice (some ⟨n, 0, none⟩) 0 0) ([] : List Rc).length (rccells (([] : List Rc).map Rc.tu)) ∧ Below w.heap.size w (W.alloc (.cells #[] 47)) := by
  subst hn
  exact ⟨⟨rfl, .inr ⟨W.heap.size, 0, #[], rfl, b.size, heap_alloc_new W _, Nat.le_refl _, by unfold maxLen; omega, rfl, rfl⟩⟩, b.alloc b.size _⟩
theorem rc_new (W : World) (r : Rc) (g : Nat) (hg : W.heap.size = g) : ∀ (j : Nat) (u : Value), [Value.int .i64 r.kind, Value.int .i64 r.vol, Value.int .i64 r.arg, Value.int .i64 r.chunk][j]? = some u → (W.alloc (.cells #[.int .i64 r.kind, .int .i64 r.vol, .int .i64 r.arg, .int .i64 r.chunk] 47)).cell? ((⟨g, 0, none⟩ : Addr).add j) = some u := by
  intro j u hj
  subst hg
  match j, hj with
  | 0, hj | 1, hj | 2, hj | 3, hj =>
    simp at hj
    subst hj
    simp [Addr.add]
theorem rc_one (r : Rc) : ∀ u ∈ [Value.int .i64 r.kind, Value.int .i64 r.vol, Value.int .i64 r.arg, Value.int .i64 r.chunk], u.oneCell' = true := by
  intro u hu
  simp at hu
  rcases hu with h | h | h | h <;> subst h <;> rfl
theorem rc_snoc (acc : List Rc) (r : Rc) : rccells (acc.map Rc.tu) ++ [Value.int .i64 r.kind, Value.int .i64 r.vol, Value.int .i64 r.arg, Value.int .i64 r.chunk] = rccells ((acc ++ [r]).map Rc.tu) := by
  rw [List.map_append, rccells_app]
  rfl

/-- What a reader of records answers. -/
def RcOut (w : World) (t : ByteArray) (e : Ending) (w' : World) : Prop :=
  ∃ uv acc ok, e = .returned (.tuple #[uv, .bool ok]) ∧ w'.ownsRow w.heap.size 47 4 uv acc.length (rccells (acc.map Rc.tu)) ∧ Below w.heap.size w w' ∧ (recs t.data.toList 0 = none ∧ ok = false ∧ acc = [] ∨ recs t.data.toList 0 = some acc ∧ ok = true)

end Go.Proofs.Ytmpmdacfibgepad
