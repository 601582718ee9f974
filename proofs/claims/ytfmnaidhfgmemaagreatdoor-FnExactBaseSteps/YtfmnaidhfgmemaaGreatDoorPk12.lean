/-
  FOf; WRow; WCmp; Less
-/
import Derived.Test.YtfmnaidhfgmemaaGreatDoorPk1
import Derived.Test.YtfmnaidhfgmemaaGreatDoorPk10
import Derived.Test.YtfmnaidhfgmemaaGreatDoorPk8
import Derived.Test.YtfmnaidhfgmemaaGreatDoorPk0
import Derived.Deep.RegionHeld3
namespace Go.Proofs.YtfmnaidhfgmemaaGreatDoor
open Go.RowKit
theorem infoLeaf2 : (Tryz.prog.info? 119).map (·.size) = some 2 := by kernel_rfl
theorem infoBlock3 : (Tryz.prog.info? 80).map (·.size) = some 3 := by kernel_rfl
theorem infoFlash1 : (Tryz.prog.info? 39).map (·.size) = some 1 := by kernel_rfl
theorem leaf_cell {w : World} {B g : Nat} {n hi : Nat} {xs : List Value} {v : Value} {ls : List (Int × ByteArray)} (hu : w.ownsRow B 80 3 (.slice (some ⟨g, 0, none⟩) n n) n xs) (h : LeafIn w B hi v ls) (j : Nat) (u : Value) : LeafIn (w.setCell ⟨g, j, none⟩ u) B hi v ls :=
  ⟨h.1.kept (grown_cell w g j u) (leaf_ne hu h.1), h.2⟩
def FlashOf (w : World) (B : Nat) (v : Value) (bs : List Bk) : Prop := ∃ ss : List Rw, ss.map tellOf = bs ∧ FlashIn w B w.heap.size v ss
theorem FlashOf.form {w : World} {B : Nat} {v : Value} {bs : List Bk} (h : FlashOf w B v bs) : ∃ ad cap, v = .slice ad bs.length cap := by
  obtain ⟨ss, rfl, hs⟩ := h
  obtain ⟨ad, cap, rfl, -⟩ := frow_form hs.1
  exact ⟨ad, cap, by simp⟩
theorem FlashOf.below {w w' : World} {B : Nat} {v : Value} {bs : List Bk} (h : FlashOf w B v bs) (hb : Below w.heap.size w w') : FlashOf w' B v bs := by
  obtain ⟨ss, e, hs⟩ := h
  exact ⟨ss, e, (hs.below hb (Nat.le_refl _)).up hb.size⟩
theorem FlashIn.down {w : World} {lo lo' hi : Nat} {v : Value} {rs : List Rw} (h : FlashIn w lo hi v rs) (hh : lo' ≤ lo) : FlashIn w lo' hi v rs := ⟨own_down h.1 hh, h.2.1, fun r hr => ⟨own_down (h.2.2.1 r hr).1 hh, (h.2.2.1 r hr).2⟩, h.2.2.2⟩
theorem FlashOf.down {w : World} {B B' : Nat} {v : Value} {bs : List Bk} (h : FlashOf w B v bs) (hh : B' ≤ B) : FlashOf w B' v bs := by
  obtain ⟨ss, e, hs⟩ := h
  exact ⟨ss, e, hs.down hh⟩
theorem FlashOf.cell {w : World} {B : Nat} {v : Value} {bs : List Bk} (h : FlashOf w B v bs) {g : Nat} (hg : g < B) (i : Nat) (u : Value) : FlashOf (w.setCell ⟨g, i, none⟩ u) B v bs := by
  obtain ⟨ss, e, hs⟩ := h
  refine ⟨ss, e, ?_⟩
  have := hs.kept (w' := w.setCell ⟨g, i, none⟩ u) (fun k h1 _ => Below.heap_setCell _ _ _ _ (by show k ≠ g; omega))
  simpa [World.setCell] using this
end Go.Proofs.YtfmnaidhfgmemaaGreatDoor

namespace Go.Proofs.YtfmnaidhfgmemaaGreatDoor
open Go.RowKit
theorem infoWorn : (Tryz.prog.info? 182).map (fun i => (i.zero, i.size, i.bytes)) = some (some (.agg #[.int .i64 0, .int .i64 0]), 2, 16) := by kernel_rfl
def wcell (t : Wb) : List Value := [.int .i64 t.1, .int .i64 t.2]
def wcells (l : List Wb) : List Value := l.flatMap wcell
theorem wcells_snoc (l : List Wb) (x : Wb) : wcells l ++ [.int .i64 x.1, .int .i64 x.2] = wcells (l ++ [x]) := by simp [wcells, wcell]
theorem wcells_cons (t : Wb) (l : List Wb) : wcells (t :: l) = [.int .i64 t.1, .int .i64 t.2] ++ wcells l := by simp [wcells, wcell]
theorem wcells_at (l : List Wb) (k : Nat) (t : Wb) (h : l[k]? = some t) : (wcells l)[k * 2]? = some (.int .i64 t.1) ∧ (wcells l)[k * 2 + 1]? = some (.int .i64 t.2) := by
  induction l generalizing k with
  | nil => simp at h
  | cons a l ih =>
    cases k with
    | zero =>
      simp at h
      subst h
      exact ⟨rfl, rfl⟩
    | succ k =>
      have := ih k (by simpa using h)
      rw [wcells_cons, List.getElem?_append_right (by simp; omega), List.getElem?_append_right (by simp; omega)]
      simp only [List.length_cons, List.length_nil]
      rw [show (k + 1) * 2 - (0 + 1 + 1) = k * 2 by omega, show (k + 1) * 2 + 1 - (0 + 1 + 1) = k * 2 + 1 by omega]
      exact this
theorem worn_one (x : Wb) : ∀ u ∈ [Value.int .i64 x.1, Value.int .i64 x.2], u.oneCell' = true := by
  intro u hu
  simp at hu
  rcases hu with h | h <;> subst h <;> rfl
theorem wcells_put (ls : List Wb) (k : Nat) (x : Wb) (h : k < ls.length) : ((wcells ls).set (k * 2) (.int .i64 x.1)).set (k * 2 + 1) (.int .i64 x.2) = wcells (ls.set k x) := by
  induction ls generalizing k with
  | nil => simp at h
  | cons a r ih =>
    cases k with
    | zero => simp [wcells_cons]
    | succ k =>
      have h1 := ih k (by simpa using h)
      rw [List.set_cons_succ, wcells_cons, wcells_cons, ← h1, List.set_append_right _ _ (by simp; omega), List.set_append_right _ _ (by simp; omega)]
      congr 3
      · simp; omega
      · simp; omega
theorem wown_cells {w : World} {B n cap g k : Nat} {l : List Wb} {t : Wb} (h : w.ownsRow B 182 2 (.slice (some ⟨g, 0, none⟩) n cap) n (wcells l)) (ht : l[k]? = some t) :
    w.cell? ⟨g, k * 2, none⟩ = some (.int .i64 t.1) ∧ w.cell? ⟨g, k * 2 + 1, none⟩ = some (.int .i64 t.2) := by
  obtain ⟨h1, h2⟩ := wcells_at l k t ht
  have c1 := h.cells (g := g) rfl _ _ h1
  have c2 := h.cells (g := g) rfl _ _ h2
  rw [addr_at] at c1 c2
  exact ⟨c1, c2⟩
theorem wown_frozen {w : World} {B n cap g : Nat} {e : TypeId} {z : Nat} {xs : List Value} (h : w.ownsRow B e z (.slice (some ⟨g, 0, none⟩) n cap) n xs) (o : Nat) : w.frozen? ⟨g, o, none⟩ = false := by
  rcases h.2 with ⟨h, -⟩ | ⟨g', cap', cur, h1, -, h3, -⟩
  · cases h
  · injection h1 with a b c
    injection a with a
    injection a with a
    subst a
    exact frozen_of_row _ _ o _ _ h3
def HeapAt (w : World) (hp q : Nat) (u : Value) (D : List Wb) : Prop := hp < q ∧ q ≤ w.heap.size ∧ D.length ≤ 1048576 ∧ w.heap[hp]? = some (.cells #[u] 216 (0, 0)) ∧ w.ownsRow q 182 2 u D.length (wcells D)
def KeptH (w w' : World) (hp q : Nat) : Prop := Kept2 w w' (fun i => i < q ∧ i ≠ hp)
theorem KeptH.refl (w : World) (hp q : Nat) : KeptH w w hp q := Kept2.refl _ _
theorem KeptH.trans {a b c : World} {hp q : Nat} (h : KeptH a b hp q) (k : KeptH b c hp q) : KeptH a c hp q := Kept2.trans h k
theorem KeptH.below {a b : World} {hp q : Nat} (h : Below a.heap.size a b) : KeptH a b hp q := Kept2.below h
theorem KeptH.down {a b : World} {hp q : Nat} (h : KeptH a b hp q) (hq : hp < q) (hs : hp ≤ a.heap.size) : Below hp a b := Kept2.down h hs (fun i hi => ⟨by omega, by omega⟩)
theorem HeapAt.below {w w' : World} {hp q : Nat} {u : Value} {D : List Wb} (h : HeapAt w hp q u D) (hb : Below w.heap.size w w') : HeapAt w' hp q u D :=
  ⟨h.1, Nat.le_trans h.2.1 hb.size, h.2.2.1, (hb.block _ (Array.getElem?_eq_some_iff.1 h.2.2.2.1).1).trans h.2.2.2.1, own_below h.2.2.2.2 hb⟩
theorem HeapAt.cell {w : World} {hp q : Nat} {u : Value} {D : List Wb} (h : HeapAt w hp q u D) : w.cell? ⟨hp, 0, none⟩ = some u := cell_of_row _ _ 0 _ _ _ h.2.2.2.1
theorem HeapAt.form {w : World} {hp q : Nat} {u : Value} {D : List Wb} (h : HeapAt w hp q u D) : ∃ ad cap, u = .slice ad D.length cap ∧ D.length ≤ cap ∧ cap ≤ maxLen ∧ (0 < D.length → ∃ g, ad = some ⟨g, 0, none⟩ ∧ q ≤ g ∧ g < w.heap.size) := frow_form h.2.2.2.2
theorem HeapAt.put {w : World} {hp q g cap : Nat} {D : List Wb} (h : HeapAt w hp q (.slice (some ⟨g, 0, none⟩) D.length cap) D) (k : Nat) (hk : k < D.length) (x : Wb) :
    HeapAt ((w.setCell ⟨g, k * 2, none⟩ (.int .i64 x.1)).setCell ⟨g, k * 2 + 1, none⟩ (.int .i64 x.2)) hp q (.slice (some ⟨g, 0, none⟩) D.length cap) (D.set k x) := by
  obtain ⟨h1, h2, h3, h4, h5⟩ := h
  have hg := (h5.lt g rfl).1
  refine ⟨h1, by simpa [World.setCell] using h2, by simpa using h3, row_set_ne (row_set_ne h4 (by omega) _ _) (by omega) _ _, ?_⟩
  have := fown_set (fown_set h5 rfl (k * 2) (.int .i64 x.1)) rfl (k * 2 + 1) (.int .i64 x.2)
  rw [wcells_put D k x hk] at this
  rw [List.length_set]
  exact this
theorem keptH_set {w : World} {hp q g : Nat} (hg : q ≤ g) (o : Nat) (v : Value) : KeptH w (w.setCell ⟨g, o, none⟩ v) hp q := by
  refine ⟨rfl, rfl, rfl, by simp, fun i _ hne => ?_⟩
  exact Below.heap_setCell _ _ _ _ (fun (e : i = g) => by omega)
def KeptG (w w' : World) (hp : Nat) (u : Value) : Prop := Kept2 w w' (fun i => i ≠ hp ∧ u.ownBlock ≠ some i)
theorem KeptG.trans {a b c : World} {hp : Nat} {u : Value} (h : KeptG a b hp u) (k : KeptG b c hp u) : KeptG a c hp u := Kept2.trans h k
theorem KeptG.below {a b : World} {hp : Nat} {u : Value} (h : Below a.heap.size a b) : KeptG a b hp u := Kept2.below h
theorem KeptG.h {a b : World} {hp q : Nat} {u : Value} {D : List Wb} (k : KeptG a b hp u) (h : HeapAt a hp q u D) : KeptH a b hp q :=
  ⟨k.1, k.2.1, k.2.2.1, k.2.2.2.1, fun i hi ho => k.2.2.2.2 i hi ⟨ho.2, fun e => by have := (h.2.2.2.2.lt i e).1; omega⟩⟩
theorem keptG_set {w : World} {hp g n cap : Nat} (o : Nat) (v : Value) : KeptG w (w.setCell ⟨g, o, none⟩ v) hp (.slice (some ⟨g, 0, none⟩) n cap) := by
  refine ⟨rfl, rfl, rfl, by simp, fun i _ hne => ?_⟩
  exact Below.heap_setCell _ _ _ _ (fun (e : i = g) => hne.2 (by rw [e]; rfl))
theorem keptG_put {w : World} {hp g n cap : Nat} (o p : Nat) (u v : Value) : KeptG w ((w.setCell ⟨g, o, none⟩ u).setCell ⟨g, p, none⟩ v) hp (.slice (some ⟨g, 0, none⟩) n cap) := (keptG_set o u).trans (keptG_set p v)
end Go.Proofs.YtfmnaidhfgmemaaGreatDoor

namespace Go.Proofs.YtfmnaidhfgmemaaGreatDoor
open Go.RowKit
set_option maxHeartbeats 400000 in
set_option maxRecDepth 100000 in
theorem nan_any (x : Int) (w : World) : Calls Tryz.prog 168 #[.int .i64 x] w fun e w' => e = .returned (.bool false) ∧ w' = w := by
  have hx : (x != x) = false := by simp
  go_enter Tryz.func168, Tryz.ntmps168
  go_wp2
  go_ret
  exact ⟨by simp, rfl⟩
def cmpI (x y : Int) : Int := if x < y then -1 else if y < x then 1 else 0
set_option maxHeartbeats 400000 in
set_option maxRecDepth 100000 in
theorem compare_any (x y : Int) (w : World) : Calls Tryz.prog 150 #[.int .i64 x, .int .i64 y] w fun e w' => e = .returned (.int .i64 (cmpI x y)) ∧ w' = w := by
  by_cases h1 : x < y
  · have HE : Hid (cmpI x y = -1) := by show _ = _; unfold cmpI; rw [if_pos h1]
    go_enter Tryz.func150, Tryz.ntmps150
    go_wp2_with (go_at_call 168; refine (nan_any _ _).mono ?_; rintro e w' ⟨rfl, rfl⟩)
    go_ret
    exact ⟨by rw [HE.out]; rfl, rfl⟩
  · by_cases h2 : y < x
    · have HE : Hid (cmpI x y = 1) := by show _ = _; unfold cmpI; rw [if_neg h1, if_pos h2]
      go_enter Tryz.func150, Tryz.ntmps150
      go_wp2_with (go_at_call 168; refine (nan_any _ _).mono ?_; rintro e w' ⟨rfl, rfl⟩)
      go_ret
      exact ⟨by rw [HE.out]; rfl, rfl⟩
    · have HE : Hid (cmpI x y = 0) := by show _ = _; unfold cmpI; rw [if_neg h1, if_neg h2]
      go_enter Tryz.func150, Tryz.ntmps150
      go_wp2_with (go_at_call 168; refine (nan_any _ _).mono ?_; rintro e w' ⟨rfl, rfl⟩)
      go_ret
      exact ⟨by rw [HE.out]; rfl, rfl⟩
def orI (x y : Int) : Int := if x = 0 then y else x
set_option maxHeartbeats 400000 in
set_option maxRecDepth 100000 in
theorem or_any (g cap : Nat) (x y : Int) (w : World) (h0 : w.cell? ⟨g, 0, none⟩ = some (.int .i64 x)) (h1 : w.cell? ⟨g, 1, none⟩ = some (.int .i64 y)) :
    Calls Tryz.prog 231 #[.slice (some ⟨g, 0, none⟩) 2 cap] w fun e w' => e = .returned (.int .i64 (orI x y)) ∧ w' = w := by
  by_cases hx : x = 0
  · subst hx
    by_cases hy : y = 0
    · subst hy
      go_enter Tryz.func231, Tryz.ntmps231
      go_wp2
      go_loop [8] (fun kv => ∃ k : Nat, kv = .int .i64 k ∧ k ≤ 2) (fun kv => 2 - (intOf kv).toNat)
      case atStart => exact ⟨0, rfl, by omega⟩
      case round =>
        obtain ⟨k, rfl, hk⟩ := hrel
        match k, hk with
        | 0, _ =>
          go_wp2
          go_round
          case rel => exact ⟨1, rfl, by omega⟩
          case measure => simp [intOf]
        | 1, _ =>
          go_wp2
          go_round
          case rel => exact ⟨2, rfl, by omega⟩
          case measure => simp [intOf]
        | 2, _ =>
          go_wp2
          go_ret
          exact ⟨rfl, rfl⟩
    · have hy2 : (y != 0) = true := by simpa using hy
      go_enter Tryz.func231, Tryz.ntmps231
      go_wp2
      go_loop [8] (fun kv => ∃ k : Nat, kv = .int .i64 k ∧ k ≤ 1) (fun kv => 2 - (intOf kv).toNat)
      case atStart => exact ⟨0, rfl, by omega⟩
      case round =>
        obtain ⟨k, rfl, hk⟩ := hrel
        match k, hk with
        | 0, _ =>
          go_wp2
          go_round
          case rel => exact ⟨1, rfl, by omega⟩
          case measure => simp [intOf]
        | 1, _ =>
          go_wp2
          go_ret
          exact ⟨rfl, rfl⟩
  · have hx2 : (x != 0) = true := by simpa using hx
    have HE : Hid (orI x y = x) := if_neg hx
    go_enter Tryz.func231, Tryz.ntmps231
    go_wp2
    go_loop [8] (fun kv => kv = .int .i64 0) (fun kv => 2 - (intOf kv).toNat)
    case atStart => rfl
    case round =>
      subst hrel
      go_wp2
      go_ret
      exact ⟨by rw [HE.out]; rfl, rfl⟩
theorem less_is (a b : Wb) : decide (orI (cmpI a.2 b.2) (cmpI a.1 b.1) < 0) = decide (ltW a b) := by
  congr 1
  apply propext
  unfold orI cmpI ltW
  split <;> (try split) <;> (try split) <;> (try split) <;> omega
end Go.Proofs.YtfmnaidhfgmemaaGreatDoor

namespace Go.Proofs.YtfmnaidhfgmemaaGreatDoor
open Go.RowKit
set_option maxHeartbeats 400000 in
set_option maxRecDepth 100000 in
theorem hlen_any (hp q : Nat) (u : Value) (D : List Wb) (w : World) (h : HeapAt w hp q u D) :
    Calls Tryz.prog 114 #[.pointer (some ⟨hp, 0, none⟩)] w fun e w' => e = .returned (.int .i64 D.length) ∧ w' = w := by
  obtain ⟨ad, cap, rfl, -⟩ := h.form
  have c := h.cell
  go_enter Tryz.func114, Tryz.ntmps114
  go_wp2
  go_ret
  exact ⟨rfl, rfl⟩
set_option maxHeartbeats 1000000 in
set_option maxRecDepth 100000 in
theorem hless_any (hp q i j : Nat) (u : Value) (D : List Wb) (a b : Wb) (w : World) (h : HeapAt w hp q u D) (hi : D[i]? = some a) (hj : D[j]? = some b) :
    Calls Tryz.prog 227 #[.pointer (some ⟨hp, 0, none⟩), .int .i64 i, .int .i64 j] w fun e w' => e = .returned (.bool (decide (ltW a b))) ∧ Below w.heap.size w w' := by
  obtain ⟨ad, cap, rfl, -, -, h3⟩ := h.form
  have li := (List.getElem?_eq_some_iff.1 hi).1
  have lj := (List.getElem?_eq_some_iff.1 hj).1
  obtain ⟨g, rfl, -, -⟩ := h3 (by omega)
  have c := h.cell
  have hl := h.2.2.1
  obtain ⟨a0, a1⟩ := wown_cells h.2.2.2.2 hi
  obtain ⟨b0, b1⟩ := wown_cells h.2.2.2.2 hj
  have LI := hide (less_is a b)
  obtain ⟨x, y⟩ := a
  obtain ⟨x2, y2⟩ := b
  simp only at a0 a1 b0 b1 LI
  generalize D.length = n at li lj hl c
  have i0 : (0 : Int) ≤ i := by omega
  have j0 : (0 : Int) ≤ j := by omega
  have iN : (i : Int) < n := by omega
  have jN : (j : Int) < n := by omega
  have hpl : hp < w.heap.size := (Array.getElem?_eq_some_iff.1 h.2.2.2.1).1
  have hgl : g < w.heap.size := (h.2.2.2.2.lt g rfl).2
  have A1 : ∀ (o : Obj) (b : Nat) (k : Nat), b < w.heap.size → (w.alloc o).cell? ⟨b, k, none⟩ = w.cell? ⟨b, k, none⟩ := fun o b k hb => ((Below.refl w.heap.size w).alloc (Nat.le_refl _) o).cell (p := ⟨b, k, none⟩) hb
  have A2 : ∀ (o o' : Obj) (b : Nat) (k : Nat), b < w.heap.size → ((w.alloc o).alloc o').cell? ⟨b, k, none⟩ = w.cell? ⟨b, k, none⟩ := fun o o' b k hb => (((Below.refl w.heap.size w).alloc (Nat.le_refl _) o).alloc (by simp) o').cell (p := ⟨b, k, none⟩) hb
  clear h h3 hi hj
  go_enter Tryz.func227, Tryz.ntmps227
  go_wp2
  go_region
  all_goals go_wp2
  all_goals clear A1 A2 a0 a1 b0 b1 c hpl hgl
  · have HB := hide ((((Below.refl w.heap.size w).alloc (Nat.le_refl _) (.cells #[.int .i64 x, .int .i64 y] 182)).alloc (by simp) (.cells #[.int .i64 x2, .int .i64 y2] 182)).drew)
    have r1 : (((w.alloc (.cells #[.int .i64 x, .int .i64 y] 182)).alloc (.cells #[.int .i64 x2, .int .i64 y2] 182)).drew).heap[w.heap.size]? = some (.cells #[.int .i64 x, .int .i64 y] 182 (0, 0)) := (Below.heap_alloc _ _ _ (by simp)).trans (heap_alloc_new w _)
    have r2 : (((w.alloc (.cells #[.int .i64 x, .int .i64 y] 182)).alloc (.cells #[.int .i64 x2, .int .i64 y2] 182)).drew).heap[w.heap.size + 1]? = some (.cells #[.int .i64 x2, .int .i64 y2] 182 (0, 0)) := by
      have := heap_alloc_new (w.alloc (.cells #[.int .i64 x, .int .i64 y] 182)) (.cells #[.int .i64 x2, .int .i64 y2] 182)
      rw [show (w.alloc (.cells #[.int .i64 x, .int .i64 y] 182)).heap.size = w.heap.size + 1 by simp] at this
      exact this
    generalize ((w.alloc (.cells #[.int .i64 x, .int .i64 y] 182)).alloc (.cells #[.int .i64 x2, .int .i64 y2] 182)).drew = W at HB r1 r2 ⊢
    have x0 : W.cell? ⟨w.heap.size, 0, none⟩ = some (.int .i64 x) := cell_of_row _ _ 0 _ _ _ r1
    have x1 : W.cell? ⟨w.heap.size, 1, none⟩ = some (.int .i64 y) := cell_of_row _ _ 1 _ _ _ r1
    have z0 : W.cell? ⟨w.heap.size + 1, 0, none⟩ = some (.int .i64 x2) := cell_of_row _ _ 0 _ _ _ r2
    have z1 : W.cell? ⟨w.heap.size + 1, 1, none⟩ = some (.int .i64 y2) := cell_of_row _ _ 1 _ _ _ r2
    have C1 := hide (fun W => compare_any y y2 W)
    have C2 := hide (fun W => compare_any x x2 W)
    clear r1 r2
    generalize cmpI y y2 = e1 at C1 LI
    generalize cmpI x x2 = e2 at C2 LI
    go_region_held3 (fun w' => w'.cell? ⟨w.heap.size, 0, none⟩ = some (.int .i64 x) ∧ w'.cell? ⟨w.heap.size, 1, none⟩ = some (.int .i64 y) ∧ w'.cell? ⟨w.heap.size + 1, 0, none⟩ = some (.int .i64 x2) ∧ w'.cell? ⟨w.heap.size + 1, 1, none⟩ = some (.int .i64 y2)) (go_keep) (first
      | (go_at_call 150; (with_reducible refine Calls.mono (C1.out _) ?_); rintro e w1 ⟨rfl, rfl⟩)
      | (go_at_call 150; (with_reducible refine Calls.mono (C2.out _) ?_); rintro e w1 ⟨rfl, rfl⟩)
      | (go_at_call 231; (refine Calls.mono (or_any _ _ _ _ _ (by simp; rfl) (by simp; rfl)) ?_); rintro e w1 ⟨rfl, rfl⟩))
    all_goals
      go_wp2
      go_ret
      exact ⟨by rw [← LI.out]; rfl, HB.out.drew.alloc (by simpa using HB.out.size) _⟩
  · have HB := hide ((((Below.refl w.heap.size w).alloc (Nat.le_refl _) (.cells #[.int .i64 x2, .int .i64 y2] 182)).alloc (by simp) (.cells #[.int .i64 x, .int .i64 y] 182)).drew)
    have r1 : (((w.alloc (.cells #[.int .i64 x2, .int .i64 y2] 182)).alloc (.cells #[.int .i64 x, .int .i64 y] 182)).drew).heap[w.heap.size]? = some (.cells #[.int .i64 x2, .int .i64 y2] 182 (0, 0)) := (Below.heap_alloc _ _ _ (by simp)).trans (heap_alloc_new w _)
    have r2 : (((w.alloc (.cells #[.int .i64 x2, .int .i64 y2] 182)).alloc (.cells #[.int .i64 x, .int .i64 y] 182)).drew).heap[w.heap.size + 1]? = some (.cells #[.int .i64 x, .int .i64 y] 182 (0, 0)) := by
      have := heap_alloc_new (w.alloc (.cells #[.int .i64 x2, .int .i64 y2] 182)) (.cells #[.int .i64 x, .int .i64 y] 182)
      rw [show (w.alloc (.cells #[.int .i64 x2, .int .i64 y2] 182)).heap.size = w.heap.size + 1 by simp] at this
      exact this
    generalize ((w.alloc (.cells #[.int .i64 x2, .int .i64 y2] 182)).alloc (.cells #[.int .i64 x, .int .i64 y] 182)).drew = W at HB r1 r2 ⊢
    have x0 : W.cell? ⟨w.heap.size + 1, 0, none⟩ = some (.int .i64 x) := cell_of_row _ _ 0 _ _ _ r2
    have x1 : W.cell? ⟨w.heap.size + 1, 1, none⟩ = some (.int .i64 y) := cell_of_row _ _ 1 _ _ _ r2
    have z0 : W.cell? ⟨w.heap.size, 0, none⟩ = some (.int .i64 x2) := cell_of_row _ _ 0 _ _ _ r1
    have z1 : W.cell? ⟨w.heap.size, 1, none⟩ = some (.int .i64 y2) := cell_of_row _ _ 1 _ _ _ r1
    have C1 := hide (fun W => compare_any y y2 W)
    have C2 := hide (fun W => compare_any x x2 W)
    clear r1 r2
    generalize cmpI y y2 = e1 at C1 LI
    generalize cmpI x x2 = e2 at C2 LI
    go_region_held3 (fun w' => w'.cell? ⟨w.heap.size + 1, 0, none⟩ = some (.int .i64 x) ∧ w'.cell? ⟨w.heap.size + 1, 1, none⟩ = some (.int .i64 y) ∧ w'.cell? ⟨w.heap.size, 0, none⟩ = some (.int .i64 x2) ∧ w'.cell? ⟨w.heap.size, 1, none⟩ = some (.int .i64 y2)) (go_keep) (first
      | (go_at_call 150; (with_reducible refine Calls.mono (C1.out _) ?_); rintro e w1 ⟨rfl, rfl⟩)
      | (go_at_call 150; (with_reducible refine Calls.mono (C2.out _) ?_); rintro e w1 ⟨rfl, rfl⟩)
      | (go_at_call 231; (refine Calls.mono (or_any _ _ _ _ _ (by simp; rfl) (by simp; rfl)) ?_); rintro e w1 ⟨rfl, rfl⟩))
    all_goals
      go_wp2
      go_ret
      exact ⟨by rw [← LI.out]; rfl, HB.out.drew.alloc (by simpa using HB.out.size) _⟩
end Go.Proofs.YtfmnaidhfgmemaaGreatDoor
