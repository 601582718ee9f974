/-
  Arrays of words that lie in a block: loaded and stored whole.
-/
import Derived.Test.YtaolinlginloaacDoorRMath
import Derived.Deep.MidRow
namespace Go.Proofs.YtaolinlginloaacDoor
open Go.RowKit
open Dig

theorem info8 : (Tryd.prog.info? 71).map (·.size) = some 8 := by kernel_rfl

/-- The value of an array of words. -/
def wagg (l : List Nat) : Value := .agg (wcells l).toArray
theorem wcells_one (l : List Nat) : ∀ v ∈ wcells l, v.oneCell' = true := by
  intro u hu
  obtain ⟨x, -, rfl⟩ := List.mem_map.1 hu
  rfl
theorem wcells_all (l : List Nat) : (wcells l).toArray.all (·.oneCell') = true := all_oneCell_toArray (wcells_one l)
theorem wcells_size (l : List Nat) : (wcells l).toArray.size = l.length := by simp [wcells]

theorem words_range {w : World} {g : Nat} {l : List Nat} (h : WordsAt w g l) : w.rangeAt g 0 (wcells l) := by
  intro j v hv
  have hj : j < l.length := by
    have := (List.getElem?_eq_some_iff.1 hv).1
    rwa [wcells_len] at this
  rw [wcells_at l j hj] at hv
  cases hv
  rw [Nat.zero_add]
  exact h.2 j hj
theorem v_there {w : World} {g : Nat} {l : List Nat} (h : VAt w g l) : w.there g 0 l.length := by
  intro j hj
  rw [Nat.zero_add, h.1.2 j hj]
  exact ⟨rfl, h.2 j⟩
theorem setCells_sizeD (b : Nat) : ∀ (vs : List Value) (o : Nat) (w : World), (w.setCells b o vs).heap.size = w.heap.size
  | [], _, _ => rfl
  | v :: r, o, w => by rw [World.setCells, setCells_sizeD b r]; simp
theorem below_cellsD {B b : Nat} {a : World} (hb : B ≤ b) : ∀ (vs : List Value) (o : Nat) (w : World), Below B a w → Below B a (w.setCells b o vs)
  | [], _, _, h => h
  | v :: r, o, w, h => by
    rw [World.setCells]
    exact below_cellsD hb r _ _ (h.setCell (p := ⟨b, o, none⟩) hb v)
theorem VAt.store {w : World} {g : Nat} {l : List Nat} (h : VAt w g l) (l' : List Nat) (hl : l'.length = l.length) : VAt (w.setCells g 0 (wcells l')) g l' := by
  have ht : w.there g 0 (wcells l').length := by rw [wcells_len, hl]; exact v_there h
  have hr := World.rangeAt_setCells_same w g 0 (wcells l') ht
  refine ⟨⟨by rw [setCells_sizeD]; exact h.1.1, fun j hj => ?_⟩, fun j => by rw [World.frozen?_setCells]; exact h.2 j⟩
  have := hr j _ (wcells_at l' j hj)
  rwa [Nat.zero_add] at this
theorem VAt.apart {w : World} {g g' : Nat} {l : List Nat} (h : VAt w g l) (hne : g ≠ g') (vs : List Value) (o : Nat) : VAt (w.setCells g' o vs) g l := by
  refine ⟨⟨by rw [setCells_sizeD]; exact h.1.1, fun j hj => ?_⟩, fun j => by rw [World.frozen?_setCells]; exact h.2 j⟩
  rw [World.cell?_setCells_out g' vs o w ⟨g, j, none⟩ (fun hb _ => absurd hb hne)]
  exact h.1.2 j hj
theorem VAt.below {w w' : World} {g C : Nat} {l : List Nat} (h : VAt w g l) (hb : Below C w w') (hg : g < C) : VAt w' g l :=
  ⟨h.1.below hb hg, fun j => by rw [hb.frozen (show g < C from hg)]; exact h.2 j⟩
theorem VAt.alloc {w : World} {g : Nat} {l : List Nat} (h : VAt w g l) (o : Obj) : VAt (w.alloc o) g l :=
  h.below ((Below.refl w.heap.size w).alloc (Nat.le_refl _) o) h.1.1
theorem VAt.other {w : World} {g r i : Nat} {l : List Nat} {u : Value} (h : VAt w g l) (hne : r ≠ g) : VAt (w.setCell ⟨r, i, none⟩ u) g l :=
  ⟨words_set h.1 hne, fun j => by rw [World.frozen?_setCell]; exact h.2 j⟩
theorem v_new (w : World) (l : List Nat) (C : Array Value) (t : TypeId) (hC : C.toList = wcells l) : VAt (w.alloc (.cells C t)) w.heap.size l := by
  refine ⟨⟨by simp, fun j hj => ?_⟩, fun j => by simp⟩
  rw [World.cell?_alloc_mark]
  have : C[j]? = (wcells l)[j]? := by rw [← hC]; simp
  rw [this, wcells_at l j hj]

/-- A whole array is loaded. -/
theorem wpList_load_words {ops : Array Oper} {rest : List Oper} {op : Oper} {a : Act} {w : World} {Q : Exit → Act → World → Prop} (hgd : op.guard = none) (ty : TypeId) (x : Operand) (ho : op.op = .load ty x)
    (g : Nat) (hx : a.eval x = .pointer (some ⟨g, 0, none⟩)) (l : List Nat) (d : TypeDesc) (hc : WordsAt w g l)
    (hu : Tryd.prog.underlying ty = some d) (hd : d.isRow = true) (hi : (Tryd.prog.info? ty).map (·.size) = some l.length)
    (h : wpList Tryd.prog ops Q rest (a.put op.dst (wagg l)) w) : wpList Tryd.prog ops Q (op :: rest) a w :=
  wpList_load_mid hgd ty x ho g 0 hx (wcells l) d (words_range hc) hu hd (by rw [wcells_len]; exact hi) h
/-- A whole array is stored. -/
theorem wpList_store_words {ops : Array Oper} {rest : List Oper} {op : Oper} {a : Act} {w : World} {Q : Exit → Act → World → Prop} (hgd : op.guard = none) (ty : TypeId) (x y : Operand) (ho : op.op = .store ty x y)
    (g : Nat) (l old : List Nat) (hx : a.eval x = .pointer (some ⟨g, 0, none⟩)) (hy : a.eval y = wagg l)
    (hc : VAt w g old) (hl : l.length = old.length) (hi : (Tryd.prog.info? ty).map (·.size) = some l.length)
    (h : ∀ w', w' = w.setCells g 0 (wcells l) → wpList Tryd.prog ops Q rest (a.put op.dst undef) w') : wpList Tryd.prog ops Q (op :: rest) a w :=
  wpList_store_mid hgd ty x y ho g 0 (wcells l).toArray hx hy (by rw [wcells_size, hl]; exact v_there hc) (by rw [wcells_size]; exact hi) (wcells_all l) (by have := h _ rfl; simpa using this)
theorem results_words {fn : Func} {p : Tmp} {ty : TypeId} (h : fn.results = #[.cell p ty]) (tmps : Array Value) (w : World) (g : Nat) (l : List Nat) (d : TypeDesc)
    (hp : tmps.getD p undef = .pointer (some ⟨g, 0, none⟩)) (hc : WordsAt w g l) (hu : Tryd.prog.underlying ty = some d) (hd : d.isRow = true) (hi : (Tryd.prog.info? ty).map (·.size) = some l.length) :
    (results fn tmps).run Tryd.prog w = .ok (wagg l) w := by
  have hp' : tmps[p]?.getD undef = .pointer (some ⟨g, 0, none⟩) := by simpa using hp
  have hl := run_loadVar_mid (P := Tryd.prog) w g 0 ty (wcells l) d (words_range hc) hu hd (by rw [wcells_len]; exact hi)
  simp [results, h, hp', asAddr, hl, wagg]
theorem results_words2 {fn : Func} {p q : Tmp} {ty : TypeId} (h : fn.results = #[.cell p ty, .tmp q]) (tmps : Array Value) (w : World) (g : Nat) (l : List Nat) (d : TypeDesc)
    (hp : tmps.getD p undef = .pointer (some ⟨g, 0, none⟩)) (hc : WordsAt w g l) (hu : Tryd.prog.underlying ty = some d) (hd : d.isRow = true) (hi : (Tryd.prog.info? ty).map (·.size) = some l.length) :
    (results fn tmps).run Tryd.prog w = .ok (.tuple #[wagg l, tmps.getD q undef]) w := by
  have hp' : tmps[p]?.getD undef = .pointer (some ⟨g, 0, none⟩) := by simpa using hp
  have hl := run_loadVar_mid (P := Tryd.prog) w g 0 ty (wcells l) d (words_range hc) hu hd (by rw [wcells_len]; exact hi)
  simp [results, h, hp', asAddr, hl, wagg]

end Go.Proofs.YtaolinlginloaacDoor
