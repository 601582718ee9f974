/-
  A row of bytes of the call's own, be it made of a text ('[]byte(s)') or by appends: one byte more.
-/
import Derived.Test.YtaolinlginloaacDoorBase
import Derived.Test.YtaolinlginloaacDoorOwn
import Derived.ArgAppend
namespace Go.Proofs.YtaolinlginloaacDoor
open Go.RowKit

/-- The bytes l in a row that lies from block base on, with whatever room behind them. -/
def BRow (w : World) (base : Nat) (v : Value) (l : List UInt8) : Prop :=
  ∃ g cap, v = .slice (some ⟨g, 0, none⟩) l.length cap ∧ base ≤ g ∧ g < w.heap.size ∧ l.length ≤ cap ∧ (∀ j (hj : j < l.length), w.cell? ⟨g, j, none⟩ = some (.int .u8 (l[j].toNat : Int))) ∧
    ∀ j, l.length ≤ j → j < cap → (w.cell? ⟨g, j, none⟩).isSome = true ∧ w.frozen? ⟨g, j, none⟩ = false
theorem BRow.below {w w' : World} {base : Nat} {v : Value} {l : List UInt8} (h : BRow w base v l) (hb : Below w.heap.size w w') : BRow w' base v l := by
  obtain ⟨g, cap, h1, h2, h3, h4, h5, h6⟩ := h
  exact ⟨g, cap, h1, h2, Nat.lt_of_lt_of_le h3 hb.size, h4, fun j hj => by rw [hb.cell (show g < w.heap.size from h3)]; exact h5 j hj,
    fun j a b => by rw [hb.cell (show g < w.heap.size from h3), hb.frozen (show g < w.heap.size from h3)]; exact h6 j a b⟩

theorem brow_new (w : World) (s : ByteArray) : ∃ (v : Value) (w' : World), (convert 9 32 (.string s)).run Tryd.prog w = .ok v w' ∧ Below w.heap.size w w' ∧ BRow w' w.heap.size v s.data.toList := by
  have h := run_bytes_of_string (P := Tryd.prog) w 9 32 5 s Tryd.underlying9 Tryd.underlying32 Tryd.underlying5
  have hge := grownCap_ge w s.size 0 5
  generalize grownCap w s.size 0 5 = C at h hge
  have hsl : s.data.toList.length = s.size := by simp
  have d : w.drew.heap.size = w.heap.size := rfl
  have hsz : (bytesRow s C).size = C := by
    have : s.data.size = s.size := rfl
    unfold bytesRow
    rw [Array.size_append, Array.size_map, Array.size_replicate]
    omega
  have hcell : ∀ j, (w.drew.alloc (.cells (bytesRow s C) 5 ((bytesRow s C).size, (bytesRow s C).size + 1))).cell? ⟨w.heap.size, j, none⟩ = (bytesRow s C)[j]? := by
    intro j
    have := World.cell?_alloc_mark w.drew (bytesRow s C) 5 ((bytesRow s C).size, (bytesRow s C).size + 1) j
    rwa [d] at this
  refine ⟨_, _, h, ((Below.refl _ _).drew).alloc (Nat.le_refl _) _, w.heap.size, C, by rw [hsl], Nat.le_refl _, by simp, by omega, ?_, ?_⟩
  · intro j hj
    have hj2 : j < s.data.size := by simpa using hj
    rw [hcell, bytesRow_at s C j hj2]
    simp
  · intro j _ hj
    refine ⟨?_, ?_⟩
    · rw [hcell, Array.getElem?_eq_getElem (by omega)]; rfl
    · have := World.frozen?_alloc_mark w.drew (bytesRow s C) 5 (bytesRow s C).size ((bytesRow s C).size + 1) j
      rw [d] at this
      rw [this]
      simp; omega

theorem brow_own {w : World} {base : Nat} {v : Value} {l : List UInt8} (h : w.ownsRow base 5 1 v l.length (bcells l)) (h0 : 0 < l.length) : BRow w base v l := by
  have hlow := h.lt
  have hc := h
  rcases h.2 with ⟨-, h0'⟩ | ⟨g, cap, cur, rfl, hb, hg, hn, -, hcs, -⟩
  · omega
  · have hgl := hlow g rfl
    refine ⟨g, cap, rfl, hb, hgl.2, hn, ?_, ?_⟩
    · intro j hj
      have := hc.cells (g := g) rfl j _ (bcells_at l j hj)
      rwa [addr_at] at this
    · intro j _ hj
      refine ⟨?_, hc.frozenAt j⟩
      rw [cell_of_row w g j cur 5 (0, 0) hg, Array.getElem?_eq_getElem (by omega)]
      rfl

theorem brow_set {w : World} {base g cap : Nat} {l : List UInt8} {c : UInt8} {x : Int} (hx : (c.toNat : Int) = x) (hb : base ≤ g) (hg : g < w.heap.size) (hr : l.length + 1 ≤ cap) (h5 : ∀ j (hj : j < l.length), w.cell? ⟨g, j, none⟩ = some (.int .u8 (l[j].toNat : Int)))
    (h6 : ∀ j, l.length ≤ j → j < cap → (w.cell? ⟨g, j, none⟩).isSome = true ∧ w.frozen? ⟨g, j, none⟩ = false) : BRow (w.setCell ⟨g, l.length, none⟩ (.int .u8 x)) base (.slice (some ⟨g, 0, none⟩) (l.length + 1) cap) (l ++ [c]) := by
  have hs := World.cell?_setCell_same' w ⟨g, l.length, none⟩ (.int .u8 x) (h6 l.length (Nat.le_refl _) (by omega)).1
  have ho : ∀ j, j ≠ l.length → (w.setCell ⟨g, l.length, none⟩ (.int .u8 x)).cell? ⟨g, j, none⟩ = w.cell? ⟨g, j, none⟩ := fun j hj => World.cell?_setCell_other _ _ _ _ (fun e => hj (by injection e with _ e; exact e.symm))
  refine ⟨g, cap, by simp, hb, by simpa using hg, by simpa using hr, ?_, ?_⟩
  · intro j hj
    by_cases h : j = l.length
    · subst h
      rw [hs]
      simp [hx]
    · have hj2 : j < l.length := by simp at hj; omega
      rw [ho j h, h5 j hj2]
      simp [hj2]
  · intro j h1 h2
    have hj : l.length + 1 ≤ j := by simpa using h1
    rw [ho j (by omega), World.frozen?_setCell]
    exact h6 j (by omega) h2

theorem wpList_append_byte (w : World) {ops : Array Oper} {rest : List Oper} {o : Oper} {a : Act} {Q : Exit → Act → World → Prop} (hg : o.guard = none) (s x : Operand)
    (hop : o.op = Op.call { callee := Callee.builtin Builtin.append, args := #[s, x], argTypes := #[32, 32] })
    (base : Nat) (v : Value) (l : List UInt8) (hs : a.eval s = v) (hrow : BRow w base v l) (hl : l.length ≤ 1000000) (ad : Addr) (z : Int) (c : UInt8) (hc : (c.toNat : Int) = z) (hx : a.eval x = .slice (some ad) 1 1) (hn : w.cell? ad = some (.int .u8 z)) (hbase : base ≤ w.heap.size)
    (h : ∀ v' w', BRow w' base v' (l ++ [c]) → Below base w w' → wpList Tryd.prog ops Q rest (a.put o.dst v') w') : wpList Tryd.prog ops Q (o :: rest) a w := by
  obtain ⟨i0, hi, hz0, hz1, hz2⟩ := info_parts infoByte
  obtain ⟨g, cap, rfl, h2, h3, h4, h5, h6⟩ := hrow
  refine wpList_append_arg w hg s x 32 hop 5 i0 (.int .u8 0) 1 1 Tryd.underlying32 hi hz0 hz1 hz2 rfl (by decide) g 0 l.length cap (bcells l) hs (by rw [bcells_len]; omega) ?_ ad 1 1 [.int .u8 z] hx rfl ?_ (one_u8 _) ?_ (by unfold maxLen; omega) (by omega) ?_ ?_
  · intro j u hj
    have hj2 : j < l.length := by
      have := (List.getElem?_eq_some_iff.1 hj).1
      rwa [bcells_len] at this
    rw [bcells_at l j hj2] at hj
    cases hj
    rw [Nat.zero_add]
    exact h5 j hj2
  · intro j u hj
    match j, hj with
    | 0, hj => simp at hj; subst hj; simpa [Addr.add] using hn
  · intro hr j hj
    have hj0 : j = 0 := by simpa using hj
    subst hj0
    simpa using h6 l.length (Nat.le_refl _) (by omega)
  · intro hr
    have e : w.setCells g (0 + l.length * 1) [.int .u8 z] = w.setCell ⟨g, l.length, none⟩ (.int .u8 z) := by simp [World.setCells]
    rw [e]
    exact h _ _ (brow_set hc h2 h3 hr h5 h6) ((Below.refl base w).setCell (p := ⟨g, l.length, none⟩) h2 _)
  · intro _ v' w' hown hgrow
    have hown' : w'.ownsRow base 5 1 v' (l ++ [c]).length (bcells (l ++ [c])) := by
      rw [bcells_snoc l c z hc] at hown
      have : (l ++ [c]).length = l.length + 1 := by simp
      rw [this]
      exact own_lower hown hbase
    exact h _ _ (brow_own hown' (by simp)) ((Below.refl base w).grown hgrow hbase (fun k hk => by cases hk))
end Go.Proofs.YtaolinlginloaacDoor
