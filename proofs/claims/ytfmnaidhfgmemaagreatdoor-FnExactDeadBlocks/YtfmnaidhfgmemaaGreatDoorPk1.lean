/-
  FRow; FMath; IBlank; FOf; IAt; DecI
-/
import Derived.Test.YtfmnaidhfgmemaaGreatDoorPk0
import Derived.Deep.MidRow
namespace Go.Proofs.YtfmnaidhfgmemaaGreatDoor
open Go.RowKit
theorem infoLeaf : (Tryz.prog.info? 119).map (fun i => (i.zero, i.size, i.bytes)) = some (some (.agg #[.int .i64 0, .string ⟨#[]⟩]), 2, 24) := by kernel_rfl
theorem infoBlock : (Tryz.prog.info? 80).map (fun i => (i.zero, i.size, i.bytes)) = some (some (.agg #[.bool false, .int .i64 0, .slice none 0 0]), 3, 40) := by kernel_rfl
def lcell (t : Int × ByteArray) : List Value := [.int .i64 t.1, .string t.2]
def lcells (l : List (Int × ByteArray)) : List Value := l.flatMap lcell
theorem lcells_len (l : List (Int × ByteArray)) : (lcells l).length = l.length * 2 := by
  induction l with
  | nil => rfl
  | cons t l ih => simp [lcells, lcell] at ih ⊢; omega
theorem lcells_app (a b : List (Int × ByteArray)) : lcells (a ++ b) = lcells a ++ lcells b := by simp [lcells]
theorem lcells_cons (t : Int × ByteArray) (l : List (Int × ByteArray)) : lcells (t :: l) = [.int .i64 t.1, .string t.2] ++ lcells l := by simp [lcells, lcell]
theorem lcells_at (l : List (Int × ByteArray)) (k : Nat) (t : Int × ByteArray) (h : l[k]? = some t) : (lcells l)[k * 2]? = some (.int .i64 t.1) ∧ (lcells l)[k * 2 + 1]? = some (.string t.2) := by
  induction l generalizing k with
  | nil => simp at h
  | cons a l ih =>
    cases k with
    | zero =>
      simp at h
      subst h
      exact ⟨rfl, rfl⟩
    | succ k =>
      have := ih k (by simpa using h)
      rw [lcells_cons, List.getElem?_append_right (by simp; omega), List.getElem?_append_right (by simp; omega)]
      simp only [List.length_cons, List.length_nil]
      rw [show (k + 1) * 2 - (0 + 1 + 1) = k * 2 by omega, show (k + 1) * 2 + 1 - (0 + 1 + 1) = k * 2 + 1 by omega]
      exact this
theorem lown_cells {w : World} {B n cap g k : Nat} {l : List (Int × ByteArray)} {t : Int × ByteArray} (h : w.ownsRow B 119 2 (.slice (some ⟨g, 0, none⟩) n cap) n (lcells l)) (ht : l[k]? = some t) :
    w.cell? ⟨g, k * 2, none⟩ = some (.int .i64 t.1) ∧ w.cell? ⟨g, k * 2 + 1, none⟩ = some (.string t.2) := by
  obtain ⟨h1, h2⟩ := lcells_at l k t ht
  have c1 := h.cells (g := g) rfl _ _ h1
  have c2 := h.cells (g := g) rfl _ _ h2
  rw [addr_at] at c1 c2
  exact ⟨c1, c2⟩
def kcell (t : Bool × Int × Value) : List Value := [.bool t.1, .int .i64 t.2.1, t.2.2]
def kcells (l : List (Bool × Int × Value)) : List Value := l.flatMap kcell
theorem kcells_len (l : List (Bool × Int × Value)) : (kcells l).length = l.length * 3 := by
  induction l with
  | nil => rfl
  | cons t l ih => simp [kcells, kcell] at ih ⊢; omega
theorem kcells_app (a b : List (Bool × Int × Value)) : kcells (a ++ b) = kcells a ++ kcells b := by simp [kcells]
theorem kcells_cons (t : Bool × Int × Value) (l : List (Bool × Int × Value)) : kcells (t :: l) = [.bool t.1, .int .i64 t.2.1, t.2.2] ++ kcells l := by simp [kcells, kcell]
theorem kcells_at (l : List (Bool × Int × Value)) (k : Nat) (t : Bool × Int × Value) (h : l[k]? = some t) : (kcells l)[k * 3]? = some (.bool t.1) ∧ (kcells l)[k * 3 + 1]? = some (.int .i64 t.2.1) ∧ (kcells l)[k * 3 + 2]? = some t.2.2 := by
  induction l generalizing k with
  | nil => simp at h
  | cons a l ih =>
    cases k with
    | zero =>
      simp at h
      subst h
      exact ⟨rfl, rfl, rfl⟩
    | succ k =>
      have := ih k (by simpa using h)
      rw [kcells_cons, List.getElem?_append_right (by simp; omega), List.getElem?_append_right (by simp; omega), List.getElem?_append_right (by simp; omega)]
      simp only [List.length_cons, List.length_nil]
      rw [show (k + 1) * 3 - (0 + 1 + 1 + 1) = k * 3 by omega, show (k + 1) * 3 + 1 - (0 + 1 + 1 + 1) = k * 3 + 1 by omega, show (k + 1) * 3 + 2 - (0 + 1 + 1 + 1) = k * 3 + 2 by omega]
      exact this
theorem kcells_upd (ls : List (Bool × Int × Value)) (k : Nat) (t : Bool × Int × Value) (h : ls[k]? = some t) :
    (∀ z : Bool, (kcells ls).set (k * 3) (.bool z) = kcells (ls.set k (z, t.2.1, t.2.2))) ∧ (∀ z : Int, (kcells ls).set (k * 3 + 1) (.int .i64 z) = kcells (ls.set k (t.1, z, t.2.2))) ∧ (∀ z : Value, (kcells ls).set (k * 3 + 2) z = kcells (ls.set k (t.1, t.2.1, z))) := by
  induction ls generalizing k with
  | nil => simp at h
  | cons a r ih =>
    cases k with
    | zero =>
      simp at h
      subst h
      simp [kcells_cons]
    | succ k =>
      obtain ⟨h1, h2, h3⟩ := ih k (by simpa using h)
      refine ⟨fun z => ?_, fun z => ?_, fun z => ?_⟩
      · rw [List.set_cons_succ, kcells_cons, kcells_cons, ← h1 z, List.set_append_right _ _ (by simp; omega)]
        congr 2
        simp
        omega
      · rw [List.set_cons_succ, kcells_cons, kcells_cons, ← h2 z, List.set_append_right _ _ (by simp; omega)]
        congr 2
        simp
        omega
      · rw [List.set_cons_succ, kcells_cons, kcells_cons, ← h3 z, List.set_append_right _ _ (by simp; omega)]
        congr 2
        simp
        omega
theorem kown_cells {w : World} {B n cap g k : Nat} {l : List (Bool × Int × Value)} {t : Bool × Int × Value} (h : w.ownsRow B 80 3 (.slice (some ⟨g, 0, none⟩) n cap) n (kcells l)) (ht : l[k]? = some t) :
    w.cell? ⟨g, k * 3, none⟩ = some (.bool t.1) ∧ w.cell? ⟨g, k * 3 + 1, none⟩ = some (.int .i64 t.2.1) ∧ w.cell? ⟨g, k * 3 + 2, none⟩ = some t.2.2 := by
  obtain ⟨h1, h2, h3⟩ := kcells_at l k t ht
  have c1 := h.cells (g := g) rfl _ _ h1
  have c2 := h.cells (g := g) rfl _ _ h2
  have c3 := h.cells (g := g) rfl _ _ h3
  rw [addr_at] at c1 c2 c3
  exact ⟨c1, c2, c3⟩
theorem frow_form {w : World} {B : Nat} {e : TypeId} {z : Nat} {v : Value} {n : Nat} {xs : List Value} (h : w.ownsRow B e z v n xs) :
    ∃ ad cap, v = .slice ad n cap ∧ n ≤ cap ∧ cap ≤ maxLen ∧ (0 < n → ∃ g, ad = some ⟨g, 0, none⟩ ∧ B ≤ g ∧ g < w.heap.size) := by
  have hlt := h.lt
  rcases h.2 with ⟨h1, h2⟩ | ⟨g, cap, cur, h1, -, -, h3, h4, -⟩
  · exact ⟨none, 0, by rw [h1, h2], by omega, by unfold maxLen; omega, fun h => by omega⟩
  · subst h1
    exact ⟨_, cap, rfl, h3, h4, fun _ => ⟨g, rfl, hlt g rfl⟩⟩
abbrev Rw := Bool × Int × Value × List (Int × ByteArray)
def cellOf (r : Rw) : Bool × Int × Value := (r.1, r.2.1, r.2.2.1)
def tellOf (r : Rw) : Bk := (r.1, r.2.1, r.2.2.2)
def LeafIn (w : World) (lo hi : Nat) (v : Value) (ls : List (Int × ByteArray)) : Prop :=
  w.ownsRow lo 119 2 v ls.length (lcells ls) ∧ ∀ g, v.ownBlock = some g → g < hi
def FlashIn (w : World) (lo hi : Nat) (v : Value) (rs : List Rw) : Prop :=
  w.ownsRow lo 80 3 v rs.length (kcells (rs.map cellOf)) ∧ (∀ g, v.ownBlock = some g → g < hi) ∧ (∀ r ∈ rs, LeafIn w lo hi r.2.2.1 r.2.2.2) ∧
    (rs.map fun r => r.2.2.1).Pairwise (fun a b => a.ownBlock = none ∨ a.ownBlock ≠ b.ownBlock)
theorem own_blocks {w w' : World} {lo hi : Nat} {e : TypeId} {size : Nat} {v : Value} {n : Nat} {xs : List Value} (h : w.ownsRow lo e size v n xs) (hh : ∀ g, v.ownBlock = some g → g < hi) (hk : ∀ g, lo ≤ g → g < hi → w'.heap[g]? = w.heap[g]?) : w'.ownsRow lo e size v n xs := by
  have hlt := h.lt
  obtain ⟨h1, h2⟩ := h
  refine ⟨h1, ?_⟩
  rcases h2 with h | ⟨g, cap, cur, rfl, a2, a3, a4⟩
  · exact .inl h
  · exact .inr ⟨g, cap, cur, rfl, a2, by rw [hk g a2 (hh g rfl)]; exact a3, a4⟩
theorem LeafIn.kept {w w' : World} {lo hi : Nat} {v : Value} {ls : List (Int × ByteArray)} (h : LeafIn w lo hi v ls) (hk : ∀ g, lo ≤ g → g < hi → w'.heap[g]? = w.heap[g]?) : LeafIn w' lo hi v ls := ⟨own_blocks h.1 h.2 hk, h.2⟩
theorem FlashIn.kept {w w' : World} {lo hi : Nat} {v : Value} {rs : List Rw} (h : FlashIn w lo hi v rs) (hk : ∀ g, lo ≤ g → g < hi → w'.heap[g]? = w.heap[g]?) : FlashIn w' lo hi v rs :=
  ⟨own_blocks h.1 h.2.1 hk, h.2.1, fun r hr => (h.2.2.1 r hr).kept hk, h.2.2.2⟩
theorem FlashIn.below {w w' : World} {lo hi : Nat} {v : Value} {rs : List Rw} (h : FlashIn w lo hi v rs) (hb : Below w.heap.size w w') (hh : hi ≤ w.heap.size) : FlashIn w' lo hi v rs := h.kept (fun g _ hg => hb.block g (by omega))
theorem LeafIn.below {w w' : World} {lo hi : Nat} {v : Value} {ls : List (Int × ByteArray)} (h : LeafIn w lo hi v ls) (hb : Below w.heap.size w w') (hh : hi ≤ w.heap.size) : LeafIn w' lo hi v ls := h.kept (fun g _ hg => hb.block g (by omega))
theorem LeafIn.up {w : World} {lo hi hi' : Nat} {v : Value} {ls : List (Int × ByteArray)} (h : LeafIn w lo hi v ls) (hh : hi ≤ hi') : LeafIn w lo hi' v ls := ⟨h.1, fun g hg => Nat.lt_of_lt_of_le (h.2 g hg) hh⟩
theorem leaf_not_block {w : World} {B B' : Nat} {u v : Value} {n m : Nat} {xs ys : List Value} (hu : w.ownsRow B 80 3 u n xs) (hv : w.ownsRow B' 119 2 v m ys) : ∀ g, u.ownBlock = some g → v.ownBlock ≠ some g := by
  intro g h1 h2
  rcases hu.2 with ⟨rfl, -⟩ | ⟨g1, cap, cur, rfl, -, e1, -⟩
  · cases h1
  · rcases hv.2 with ⟨rfl, -⟩ | ⟨g2, cap2, cur2, rfl, -, e2, -⟩
    · cases h2
    · simp [Value.ownBlock] at h1 h2
      subst h1 h2
      rw [e1] at e2
      simp at e2
theorem set_same {α : Type} (l : List α) (k : Nat) (a : α) (h : l[k]? = some a) : l.set k a = l := by
  induction l generalizing k with
  | nil => rfl
  | cons b r ih =>
    cases k with
    | zero => simp at h; subst h; rfl
    | succ k => rw [List.set_cons_succ, ih k (by simpa using h)]
theorem leaf_ne {w : World} {B B' : Nat} {g n cq m : Nat} {v : Value} {xs ys : List Value} (hu : w.ownsRow B 80 3 (.slice (some ⟨g, 0, none⟩) n cq) n xs) (hv : w.ownsRow B' 119 2 v m ys) : v.ownBlock = none ∨ v.ownBlock ≠ some g := Or.inr (leaf_not_block hu hv g rfl)
theorem FlashIn.cell {w : World} {lo hi g n cq k : Nat} {rs : List Rw} {r r' : Rw} {j : Nat} {u : Value} (h : FlashIn w lo hi (.slice (some ⟨g, 0, none⟩) n cq) rs) (hn : n = rs.length) (hr : rs[k]? = some r) (hs : r'.2.2 = r.2.2)
    (hu : (kcells (rs.map cellOf)).set j u = kcells ((rs.map cellOf).set k (cellOf r'))) : FlashIn (w.setCell ⟨g, j, none⟩ u) lo hi (.slice (some ⟨g, 0, none⟩) n cq) (rs.set k r') := by
  subst hn
  refine ⟨?_, h.2.1, fun x hx => ?_, ?_⟩
  · have := fown_set h.1 rfl j u
    rw [hu, ← List.map_set] at this
    rw [List.length_set]
    exact this
  · have hx2 : ∃ y ∈ rs, x.2.2 = y.2.2 := by
      rcases List.mem_or_eq_of_mem_set hx with h1 | h1
      · exact ⟨x, h1, rfl⟩
      · exact ⟨r, List.mem_of_getElem? hr, by rw [h1, hs]⟩
    obtain ⟨y, hy, e⟩ := hx2
    have hl := h.2.2.1 y hy
    rw [e]
    exact ⟨hl.1.kept (grown_cell w g j u) (leaf_ne h.1 hl.1), hl.2⟩
  · rw [List.map_set, hs, set_same _ _ _ (by rw [List.getElem?_map, hr]; rfl)]
    exact h.2.2.2
theorem FlashIn.bad {w : World} {lo hi g n cq k : Nat} {rs : List Rw} {r : Rw} (h : FlashIn w lo hi (.slice (some ⟨g, 0, none⟩) n cq) rs) (hn : n = rs.length) (hr : rs[k]? = some r) (z : Bool) : FlashIn (w.setCell ⟨g, k * 3, none⟩ (.bool z)) lo hi (.slice (some ⟨g, 0, none⟩) n cq) (rs.set k (z, r.2)) :=
  h.cell hn hr rfl ((kcells_upd (rs.map cellOf) k (cellOf r) (by rw [List.getElem?_map, hr]; rfl)).1 z)
theorem FlashIn.wear {w : World} {lo hi g n cq k : Nat} {rs : List Rw} {r : Rw} (h : FlashIn w lo hi (.slice (some ⟨g, 0, none⟩) n cq) rs) (hn : n = rs.length) (hr : rs[k]? = some r) (z : Int) : FlashIn (w.setCell ⟨g, k * 3 + 1, none⟩ (.int .i64 z)) lo hi (.slice (some ⟨g, 0, none⟩) n cq) (rs.set k (r.1, z, r.2.2)) :=
  h.cell hn hr rfl ((kcells_upd (rs.map cellOf) k (cellOf r) (by rw [List.getElem?_map, hr]; rfl)).2.1 z)
theorem pair_at {α : Type} {R : α → α → Prop} {l : List α} (h : l.Pairwise R) (hsym : ∀ a b, R a b → R b a) {i j : Nat} {a b : α} (hi : l[i]? = some a) (hj : l[j]? = some b) (hne : i ≠ j) : R a b := by
  obtain ⟨h1, rfl⟩ := List.getElem?_eq_some_iff.1 hi
  obtain ⟨h2, rfl⟩ := List.getElem?_eq_some_iff.1 hj
  rw [List.pairwise_iff_getElem] at h
  by_cases hlt : i < j
  · exact h i j h1 h2 hlt
  · exact hsym _ _ (h j i h2 h1 (by omega))
theorem apart_sym (a b : Value) (h : a.ownBlock = none ∨ a.ownBlock ≠ b.ownBlock) : b.ownBlock = none ∨ b.ownBlock ≠ a.ownBlock := by
  cases hb : b.ownBlock with
  | none => exact Or.inl rfl
  | some g =>
    refine Or.inr (fun e => ?_)
    rcases h with h | h
    · rw [h] at e; cases e
    · exact h (by rw [hb, e])
theorem FlashIn.leaves {w w' : World} {lo hi k : Nat} {v : Value} {rs : List Rw} {r : Rw} {ls' : List (Int × ByteArray)} (h : FlashIn w lo hi v rs) (hr : rs[k]? = some r) (hg : w.grownBy w' r.2.2.1.ownBlock) (hl : LeafIn w' lo hi r.2.2.1 ls') :
    FlashIn w' lo hi v (rs.set k (r.1, r.2.1, r.2.2.1, ls')) := by
  have hrl := h.2.2.1 r (List.mem_of_getElem? hr)
  refine ⟨?_, h.2.1, fun x hx => ?_, ?_⟩
  · have e1 : (rs.set k (r.1, r.2.1, r.2.2.1, ls')).map cellOf = rs.map cellOf := by
      rw [List.map_set]
      exact set_same _ _ _ (by rw [List.getElem?_map, hr]; rfl)
    rw [e1, List.length_set]
    refine h.1.kept hg ?_
    cases hv : v.ownBlock with
    | none => exact Or.inl rfl
    | some g => exact Or.inr (fun e => leaf_not_block h.1 hrl.1 g hv e.symm)
  · obtain ⟨i, hi, rfl⟩ := List.getElem_of_mem hx
    have hi2 : i < rs.length := by simpa using hi
    by_cases hik : k = i
    · subst hik
      simp only [List.getElem_set_self]
      exact hl
    · rw [List.getElem_set_ne hik]
      have hxl := h.2.2.1 rs[i] (List.getElem_mem _)
      refine ⟨hxl.1.kept hg ?_, hxl.2⟩
      exact pair_at h.2.2.2 apart_sym (i := i) (j := k) (by rw [List.getElem?_map, List.getElem?_eq_getElem hi2]; rfl) (by rw [List.getElem?_map, hr]; rfl) (fun e => hik e.symm)
  · rw [List.map_set]
    simp only
    rw [set_same _ _ _ (by rw [List.getElem?_map, hr]; rfl)]
    exact h.2.2.2
end Go.Proofs.YtfmnaidhfgmemaaGreatDoor

namespace Go.Proofs.YtfmnaidhfgmemaaGreatDoor
def Tx (ls : List (Int × ByteArray)) : Prop := ∀ t ∈ ls, t.2.size ≤ 1048576
def TxB (rs : List Rw) : Prop := ∀ r ∈ rs, Tx r.2.2.2
theorem Tx.succ {ls : List (Int × ByteArray)} {k : Nat} {t : Int × ByteArray} (h : Tx (ls.take k)) (ht : ls[k]? = some t) (hs : t.2.size ≤ 1048576) : Tx (ls.take (k + 1)) := by
  obtain ⟨h1, h2⟩ := List.getElem?_eq_some_iff.1 ht
  rw [List.take_succ_eq_append_getElem h1, h2]
  intro u hu
  rcases List.mem_append.1 hu with hu | hu
  · exact h u hu
  · rw [List.mem_singleton] at hu
    subst hu
    exact hs
theorem TxB.succ {rs : List Rw} {k : Nat} {r : Rw} (h : TxB (rs.take k)) (hr : rs[k]? = some r) (hs : Tx r.2.2.2) : TxB (rs.take (k + 1)) := by
  obtain ⟨h1, h2⟩ := List.getElem?_eq_some_iff.1 hr
  rw [List.take_succ_eq_append_getElem h1, h2]
  intro u hu
  rcases List.mem_append.1 hu with hu | hu
  · exact h u hu
  · rw [List.mem_singleton] at hu
    subst hu
    exact hs
end Go.Proofs.YtfmnaidhfgmemaaGreatDoor

namespace Go.Proofs.YtfmnaidhfgmemaaGreatDoor
open Go.RowKit
set_option maxHeartbeats 400000 in
set_option maxRecDepth 100000 in
theorem iblank_any (g o : Nat) (v : Value) (ls : List (Int × ByteArray)) (B : Nat) (w : World) (hl : ls.length ≤ 1048576) (hc : w.cell? ⟨g, o + 2, none⟩ = some v) (ha : w.ownsRow B 119 2 v ls.length (lcells ls)) :
    Calls Tryz.prog 61 #[.pointer (some ⟨g, o, none⟩)] w fun e w' => e = .returned (.int .i64 (blanks ls : Nat)) ∧ w' = w := by
  obtain ⟨ad, capa, rfl, a1, a2, a3⟩ := frow_form ha
  unfold maxLen at a2
  have A3 := hide a3
  have HA := hide ha
  clear a3 ha
  go_enter Tryz.func61, Tryz.ntmps61
  go_wp2
  go_loop [3, 10] (fun cv iv => ∃ k m : Nat, k ≤ ls.length ∧ m ≤ k ∧ iv = .int .i64 k ∧ cv = .int .i64 m ∧ Hid (blanks (ls.take k) = m)) (fun _ iv => ls.length - (intOf iv).toNat)
  case atStart => exact ⟨0, 0, Nat.zero_le _, Nat.zero_le _, rfl, rfl, rfl⟩
  case round =>
    obtain ⟨k, m, hk, hm, rfl, rfl, HM⟩ := hrel
    by_cases hlt : (k : Int) < ls.length
    · obtain ⟨gl, rfl, _, hg⟩ := A3.out (by omega)
      have hkl : k < ls.length := by omega
      obtain ⟨z, t, ht⟩ : ∃ z t, ls[k]? = some (z, t) := ⟨ls[k].1, ls[k].2, List.getElem?_eq_getElem hkl⟩
      obtain ⟨c1, -⟩ := lown_cells HA.out ht
      simp only at c1
      have HT := hide (blanks_take ht)
      have k0 : (0 : Int) ≤ k := by omega
      clear ht
      by_cases hz : z = 0
      · subst hz
        go_wp2
        go_round
        case rel => exact ⟨k + 1, m + 1, by omega, by omega, by go_num, by go_num, (by have := HT.out; have := HM.out; simp at *; omega : blanks (ls.take (k + 1)) = m + 1)⟩
        case measure => simp [intOf]; omega
      · have hz2 : (z == 0) = false := by simpa using hz
        have HM2 : Hid (blanks (ls.take (k + 1)) = m) := by
          show _ = _
          rw [HT.out, HM.out, if_neg hz]
          rfl
        go_wp2
        go_round
        case rel => exact ⟨k + 1, m, by omega, by omega, by go_num, rfl, HM2⟩
        case measure => simp [intOf]; omega
    · have HE : Hid (blanks ls = m) := by
        show _ = _
        rw [← HM.out, List.take_of_length_le (by omega)]
      go_wp2
      go_ret
      exact ⟨by rw [HE.out]; rfl, rfl⟩
end Go.Proofs.YtfmnaidhfgmemaaGreatDoor

namespace Go.Proofs.YtfmnaidhfgmemaaGreatDoor
open Go.RowKit
theorem infoLeaf2 : (Tryz.prog.info? 119).map (·.size) = some 2 := by kernel_rfl
theorem infoBlock3 : (Tryz.prog.info? 80).map (·.size) = some 3 := by kernel_rfl
theorem infoFlash1 : (Tryz.prog.info? 39).map (·.size) = some 1 := by kernel_rfl
theorem leaf_cell {w : World} {B g : Nat} {n hi : Nat} {xs : List Value} {v : Value} {ls : List (Int × ByteArray)} (hu : w.ownsRow B 80 3 (.slice (some ⟨g, 0, none⟩) n n) n xs) (h : LeafIn w B hi v ls) (j : Nat) (u : Value) : LeafIn (w.setCell ⟨g, j, none⟩ u) B hi v ls :=
  ⟨h.1.kept (grown_cell w g j u) (leaf_ne hu h.1), h.2⟩
def FlashOf (w : World) (B : Nat) (v : Value) (bs : List Bk) : Prop := ∃ ss : List Rw, ss.map tellOf = bs ∧ FlashIn w B w.heap.size v ss
theorem FlashOf.form {w : World} {B : Nat} {v : Value} {bs : List Bk} (h : FlashOf w B v bs) : ∃ ad cap, v = .slice ad bs.length cap := by
  obtain ⟨ss, rfl, hs⟩ := h
  obtain ⟨ad, cap, rfl, -⟩ := frow_form hs.1
  exact ⟨ad, cap, by simp⟩
theorem FlashIn.down {w : World} {lo lo' hi : Nat} {v : Value} {rs : List Rw} (h : FlashIn w lo hi v rs) (hh : lo' ≤ lo) : FlashIn w lo' hi v rs := ⟨own_down h.1 hh, h.2.1, fun r hr => ⟨own_down (h.2.2.1 r hr).1 hh, (h.2.2.1 r hr).2⟩, h.2.2.2⟩
theorem FlashOf.down {w : World} {B B' : Nat} {v : Value} {bs : List Bk} (h : FlashOf w B v bs) (hh : B' ≤ B) : FlashOf w B' v bs := by
  obtain ⟨ss, e, hs⟩ := h
  exact ⟨ss, e, hs.down hh⟩
theorem FlashOf.cell {w : World} {B : Nat} {v : Value} {bs : List Bk} (h : FlashOf w B v bs) {g : Nat} (hg : g < B) (i : Nat) (u : Value) : FlashOf (w.setCell ⟨g, i, none⟩ u) B v bs := by
  obtain ⟨ss, e, hs⟩ := h
  refine ⟨ss, e, ?_⟩
  have := hs.kept (w' := w.setCell ⟨g, i, none⟩ u) (fun k h1 _ => Below.heap_setCell _ _ _ _ (by show k ≠ g; omega))
  simpa [World.setCell] using this
end Go.Proofs.YtfmnaidhfgmemaaGreatDoor

namespace Go.Proofs.YtfmnaidhfgmemaaGreatDoor
open Go.RowKit
set_option maxHeartbeats 400000 in
set_option maxRecDepth 100000 in
theorem iat_in (g n cap k : Nat) (w : World) (_hn : n ≤ 1048576) (hk : k < n) :
    Calls Tryz.prog 60 #[.agg #[.slice (some ⟨g, 0, none⟩) n cap], .int .i64 k] w fun e w' => e = .returned (.pointer (some ⟨g, k * 3, none⟩)) ∧ Below w.heap.size w w' := by
  have HB := hide ((Below.refl w.heap.size w).alloc (Nat.le_refl _) (.cells #[.slice (some ⟨g, 0, none⟩) n cap] 39))
  have h1 : (0 : Int) ≤ k := by omega
  have h2 : (k : Int) < n := by omega
  go_enter Tryz.func60, Tryz.ntmps60
  go_wp2
  go_ret
  exact ⟨rfl, HB.out⟩
set_option maxHeartbeats 400000 in
set_option maxRecDepth 100000 in
theorem iat_out (ad : Option Addr) (n cap : Nat) (b : Int) (w : World) (_hn : n ≤ 1048576) (hb : ¬ (0 ≤ b ∧ b ≤ (n : Int) - 1)) :
    Calls Tryz.prog 60 #[.agg #[.slice ad n cap], .int .i64 b] w fun e w' => e = .returned (.pointer none) ∧ Below w.heap.size w w' := by
  have HB := hide ((Below.refl w.heap.size w).alloc (Nat.le_refl _) (.cells #[.slice ad n cap] 39))
  by_cases h0 : b < 0
  · go_enter Tryz.func60, Tryz.ntmps60
    go_wp2
    go_ret
    exact ⟨rfl, HB.out⟩
  · have h1 : (n : Int) ≤ b := by omega
    clear hb
    go_enter Tryz.func60, Tryz.ntmps60
    go_wp2
    go_ret
    exact ⟨rfl, HB.out⟩
set_option maxHeartbeats 400000 in
set_option maxRecDepth 100000 in
theorem ilat_off (g o gl lo n cap k : Nat) (w : World) (_hn : n ≤ 1048576) (hk : k < n) (hc : w.cell? ⟨g, o + 2, none⟩ = some (.slice (some ⟨gl, lo, none⟩) n cap)) :
    Calls Tryz.prog 174 #[.pointer (some ⟨g, o, none⟩), .int .i64 k] w fun e w' => e = .returned (.pointer (some ⟨gl, lo + k * 2, none⟩)) ∧ w' = w := by
  have h1 : (0 : Int) ≤ k := by omega
  have h2 : (k : Int) < n := by omega
  go_enter Tryz.func174, Tryz.ntmps174
  go_wp2
  go_ret
  exact ⟨rfl, rfl⟩
set_option maxHeartbeats 400000 in
set_option maxRecDepth 100000 in
theorem ilat_out (g o n cap : Nat) (ad : Option Addr) (b : Int) (w : World) (_hn : n ≤ 1048576) (hb : ¬ (0 ≤ b ∧ b ≤ (n : Int) - 1)) (hc : w.cell? ⟨g, o + 2, none⟩ = some (.slice ad n cap)) :
    Calls Tryz.prog 174 #[.pointer (some ⟨g, o, none⟩), .int .i64 b] w fun e w' => e = .returned (.pointer none) ∧ w' = w := by
  by_cases h0 : b < 0
  · go_enter Tryz.func174, Tryz.ntmps174
    go_wp2
    go_ret
    exact ⟨rfl, rfl⟩
  · have h1 : (n : Int) ≤ b := by omega
    clear hb
    go_enter Tryz.func174, Tryz.ntmps174
    go_wp2
    go_ret
    exact ⟨rfl, rfl⟩
end Go.Proofs.YtfmnaidhfgmemaaGreatDoor

namespace Go.Proofs.YtfmnaidhfgmemaaGreatDoor
theorem dcY {p : Prop} {d : Decidable p} (h : p) : @decide p d = true := decide_eq_true h
theorem dcN {p : Prop} {d : Decidable p} (h : ¬ p) : @decide p d = false := decide_eq_false h
theorem dcE {p q : Prop} {d : Decidable p} {e : Decidable q} (h : p ↔ q) : @decide p d = @decide q e := decide_eq_decide.2 h
end Go.Proofs.YtfmnaidhfgmemaaGreatDoor
