/-
  Base; Own; FlP; Kept2; OwnC; FRow
-/
import Derived.Test.YtcjhnoapjhohfaaGreatDoorRows
import Derived.WalkKit
import Derived.WalkSpells
import Derived.WalkLawsBesides
import Derived.WalkSmall
import Derived.OwnWalk
import Derived.OneCell
import Derived.Lib.Slices
import Derived.Lib.Strings
import Derived.Laws.IdiomStrings
import Derived.Laws.DeepStrings4
import Derived.Deep.RegionWith
import Derived.Deep.RegionHeld3
import Derived.Deep.QuietTactic
import Derived.Deep.AppendLies
import Derived.BigQuiet
import Derived.WalkMore
import Derived.Deep.MidRow
/-
  Small facts that every walk of this seat uses: bytes and numbers in rows that the call owns, cells, what is hidden from a walk.
-/
namespace Go.Proofs.YtcjhnoapjhohfaaGreatDoor
open Go.RowKit

theorem infoByte : (Tryz.prog.info? 5).map (fun i => (i.zero, i.size, i.bytes)) = some (some (.int .u8 0), 1, 1) := by kernel_rfl

theorem hide {p : Prop} (h : p) : Hid p := h
theorem unhide {p : Prop} (h : Hid p) : p := h

/-- The cells of bytes. -/
def bcells (l : List UInt8) : List Value := l.map fun b => Value.int .u8 b.toNat
theorem bcells_len (l : List UInt8) : (bcells l).length = l.length := by simp [bcells]
theorem bcells_snoc (l : List UInt8) (c : UInt8) (x : Int) (h : (c.toNat : Int) = x) : bcells l ++ [Value.int .u8 x] = bcells (l ++ [c]) := by
  subst h; simp [bcells]
theorem bcells_at (l : List UInt8) (j : Nat) (hj : j < l.length) : (bcells l)[j]? = some (.int .u8 (l[j].toNat : Int)) := by
  simp [bcells, hj]
theorem one_cell (w : World) (x : Value) (t : TypeId) : ∀ (j : Nat) (u : Value), [x][j]? = some u → (w.alloc (.cells #[x] t)).cell? ((⟨w.heap.size, 0, none⟩ : Addr).add j) = some u := by
  intro j u hj
  match j, hj with
  | 0, hj => simp at hj; subst hj; simp [Addr.add]
theorem one_u8 (x : Int) : ∀ u ∈ [Value.int .u8 x], u.oneCell' = true := by
  intro u hu; simp at hu; subst hu; rfl
theorem own_grown {B : Nat} {w wr w2 : World} {v : Value} {n : Nat} {xs : List Value} {e : TypeId} {o : Obj} (hb : Below B w wr) (hB : B ≤ wr.heap.size)
    (hown : wr.ownsRow B e 1 v n xs) (hg : (wr.alloc o).grownBy w2 v.ownBlock) : Below B w w2 :=
  (hb.alloc hB _).grown hg (by simp; omega) (fun k hk => (hown.lt k hk).1)
theorem own_grown2 {B : Nat} {w wr w2 : World} {v : Value} {n : Nat} {xs : List Value} {e : TypeId} {o : Obj} (hb : Below B w wr) (hB : B ≤ wr.heap.size)
    (hown : wr.ownsRow B e 1 v n xs) (hg : (wr.alloc o).drew.grownBy w2 v.ownBlock) : Below B w w2 :=
  own_grown (o := o) hb hB hown ⟨hg.os, hg.tape, hg.output, hg.size, hg.block⟩

theorem conv_own {B : Nat} (wr : World) (v : Value) (l : List UInt8) (h : wr.ownsRow B 5 1 v l.length (bcells l)) : (convert 191 9 v).run Tryz.prog wr = .ok (.string ⟨l.toArray⟩) wr := by
  have hown := h
  rcases h.2 with ⟨rfl, h0⟩ | ⟨g, cap, cur, rfl, -, -, -, -, -, -⟩
  · have : l = [] := List.length_eq_zero_iff.1 h0
    subst this
    rw [run_convert_bytes_string wr 191 9 5 none 0 0 Tryz.underlying191 Tryz.underlying5 Tryz.underlying9]
    rfl
  · exact run_convert_bytes_back (P := Tryz.prog) wr 191 9 5 ⟨g, 0, none⟩ cap l Tryz.underlying191 Tryz.underlying5 Tryz.underlying9 (fun j hj => hown.cells (g := g) rfl j _ (bcells_at l j hj))

theorem infoInt : (Tryz.prog.info? 3).map (fun i => (i.zero, i.size, i.bytes)) = some (some (.int .i64 0), 1, 8) := by kernel_rfl
def icells (l : List Int) : List Value := l.map fun n => Value.int .i64 n
theorem icells_snoc (l : List Int) (x : Int) : icells l ++ [Value.int .i64 x] = icells (l ++ [x]) := by simp [icells]
theorem icells_at (l : List Int) (j : Nat) (hj : j < l.length) : (icells l)[j]? = some (.int .i64 l[j]) := by simp [icells, hj]
theorem one_i64 (x : Int) : ∀ u ∈ [Value.int .i64 x], u.oneCell' = true := by
  intro u hu; simp at hu; subst hu; rfl

theorem addr_at (g j : Nat) : (⟨g, 0, none⟩ : Addr).add j = ⟨g, j, none⟩ := by
  simp only [Addr.add]
  split <;> simp_all

theorem zeros_set (A : List Value) (z u : Value) (n k : Nat) (hA : A.length = k) (hk : k < n) :
    (A ++ List.replicate (n - k) z).set k u = (A ++ [u]) ++ List.replicate (n - (k + 1)) z := by
  obtain ⟨d, hd⟩ : ∃ d, n - k = d + 1 := ⟨n - k - 1, by omega⟩
  have hd2 : n - (k + 1) = d := by omega
  rw [hd, hd2, List.set_append_right _ _ (by omega), hA, Nat.sub_self, List.replicate_succ]
  simp

end Go.Proofs.YtcjhnoapjhohfaaGreatDoor

/-
  Rows that the call owns, over calls that lay new blocks alone.
-/
namespace Go.Proofs.YtcjhnoapjhohfaaGreatDoor
open Go.RowKit

theorem own_below {w w' : World} {base : Nat} {e : TypeId} {size : Nat} {v : Value} {n : Nat} {xs : List Value} (h : w.ownsRow base e size v n xs) (hb : Below w.heap.size w w') : w'.ownsRow base e size v n xs := by
  obtain ⟨h1, h2⟩ := h
  refine ⟨h1, ?_⟩
  rcases h2 with h | ⟨g, cap, cur, a1, a2, a3, a4⟩
  · exact .inl h
  · have hg : g < w.heap.size := (Array.getElem?_eq_some_iff.1 a3).1
    exact .inr ⟨g, cap, cur, a1, a2, by rw [hb.block g hg]; exact a3, a4⟩
theorem own_lower {w : World} {base C : Nat} {e : TypeId} {size : Nat} {v : Value} {n : Nat} {xs : List Value} (h : w.ownsRow base e size v n xs) (hC : C ≤ base) : w.ownsRow C e size v n xs := by
  obtain ⟨h1, h2⟩ := h
  refine ⟨h1, ?_⟩
  rcases h2 with h | ⟨g, cap, cur, a1, a2, a3⟩
  · exact .inl h
  · exact .inr ⟨g, cap, cur, a1, by omega, a3⟩
end Go.Proofs.YtcjhnoapjhohfaaGreatDoor

/-
  What chapter 5 says of flashes, in plain words: no Go in them.
-/
namespace Go.Proofs.YtcjhnoapjhohfaaGreatDoor

abbrev Bk := Bool × Int × List (Int × ByteArray)
def leafOk (t : Int × ByteArray) : Bool := decide (t.1 = 0 ∧ t.2.size = 0 ∨ t.1 = 1 ∧ 1 ≤ t.2.size ∧ t.2.size ≤ 120 ∨ t.1 = 2 ∧ t.2.size ≤ 120)
/-- The leaf at k is right, and not behind a blank one where it isn't blank. -/
def leafAt (ls : List (Int × ByteArray)) (k : Nat) : Bool := match ls[k]? with
  | none => true
  | some t => leafOk t && !(decide (0 < k ∧ t.1 ≠ 0 ∧ ∃ u, ls[k - 1]? = some u ∧ u.1 = 0))
def blkOk (b : Bk) : Bool := decide (b.2.2.length = 4 ∧ 0 ≤ b.2.1 ∧ b.2.1 ≤ 1000000000) && (List.range b.2.2.length).all (leafAt b.2.2)
def flOk (bs : List Bk) : Bool := decide (3 ≤ bs.length ∧ bs.length ≤ 10) && bs.all blkOk
theorem flOk_no {bs : List Bk} {b : Bk} (hb : b ∈ bs) (h : blkOk b = false) : flOk bs = false := by
  have h1 : bs.all blkOk = false := List.all_eq_false.2 ⟨b, hb, by simp [h]⟩
  simp [flOk, h1]
theorem flOk_all {bs : List Bk} (h : ∀ b ∈ bs, blkOk b = true) : flOk bs = decide (3 ≤ bs.length ∧ bs.length ≤ 10) := by
  have h1 : bs.all blkOk = true := List.all_eq_true.2 h
  simp [flOk, h1]
theorem blkOk_len {b : Bk} (h : b.2.2.length ≠ 4) : blkOk b = false := by simp [blkOk, h]
theorem blkOk_wear {b : Bk} (h : ¬ (0 ≤ b.2.1 ∧ b.2.1 ≤ 1000000000)) : blkOk b = false := by
  have h1 : decide (b.2.2.length = 4 ∧ 0 ≤ b.2.1 ∧ b.2.1 ≤ 1000000000) = false := decide_eq_false (fun hh => h hh.2)
  simp only [blkOk, h1, Bool.false_and]
theorem blkOk_no {b : Bk} {k : Nat} (hk : k < b.2.2.length) (h : leafAt b.2.2 k = false) : blkOk b = false := by
  have h1 : (List.range b.2.2.length).all (leafAt b.2.2) = false := List.all_eq_false.2 ⟨k, List.mem_range.2 hk, by simp [h]⟩
  simp only [blkOk, h1, Bool.and_false]
theorem blkOk_yes {b : Bk} (hl : b.2.2.length = 4) (hw : 0 ≤ b.2.1 ∧ b.2.1 ≤ 1000000000) (h : ∀ k, k < b.2.2.length → leafAt b.2.2 k = true) : blkOk b = true := by
  have h1 : (List.range b.2.2.length).all (leafAt b.2.2) = true := List.all_eq_true.2 (fun k hk => h k (List.mem_range.1 hk))
  simp only [blkOk, h1, Bool.and_true]
  exact decide_eq_true ⟨hl, hw⟩
theorem leafAt_no {ls : List (Int × ByteArray)} {k : Nat} {t : Int × ByteArray} (ht : ls[k]? = some t) (h : leafOk t = false) : leafAt ls k = false := by simp [leafAt, ht, h]
theorem leafAt_zero {ls : List (Int × ByteArray)} {t : Int × ByteArray} (ht : ls[0]? = some t) (h : leafOk t = true) : leafAt ls 0 = true := by simp only [leafAt, ht, h]; simp
theorem leafAt_yes {ls : List (Int × ByteArray)} {k : Nat} {t u : Int × ByteArray} (ht : ls[k + 1]? = some t) (hu : ls[k]? = some u) (h : leafOk t = true) (hn : u.1 ≠ 0 ∨ t.1 = 0) : leafAt ls (k + 1) = true := by
  have h1 : decide (0 < k + 1 ∧ t.1 ≠ 0 ∧ ∃ u, ls[k + 1 - 1]? = some u ∧ u.1 = 0) = false := by
    refine decide_eq_false (fun hh => ?_)
    obtain ⟨-, a, q, b, c⟩ := hh
    rw [Nat.add_sub_cancel, hu] at b
    cases b
    rcases hn with hn | hn
    · exact hn c
    · exact a hn
  simp only [leafAt, ht, h, h1]
  rfl
theorem leafAt_bad {ls : List (Int × ByteArray)} {k : Nat} {t u : Int × ByteArray} (ht : ls[k + 1]? = some t) (hu : ls[k]? = some u) (h0 : u.1 = 0) (hn : t.1 ≠ 0) : leafAt ls (k + 1) = false := by
  have h1 : decide (0 < k + 1 ∧ t.1 ≠ 0 ∧ ∃ u, ls[k + 1 - 1]? = some u ∧ u.1 = 0) = true := decide_eq_true ⟨by omega, hn, u, by rw [Nat.add_sub_cancel]; exact hu, h0⟩
  simp only [leafAt, ht, h1]
  simp
/-- The first blank leaf; 4 where there is none. -/
def nextB (ls : List (Int × ByteArray)) : Nat := if ls.findIdx (fun t => t.1 == 0) < ls.length then ls.findIdx (fun t => t.1 == 0) else 4
theorem nextB_at {ls : List (Int × ByteArray)} {k : Nat} {t : Int × ByteArray} (ht : ls[k]? = some t) (h0 : t.1 = 0) (hb : ∀ (j : Nat) (u : Int × ByteArray), j < k → ls[j]? = some u → u.1 ≠ 0) : nextB ls = k := by
  obtain ⟨h1, h2⟩ := List.getElem?_eq_some_iff.1 ht
  have h : ls.findIdx (fun t => t.1 == 0) = k := by
    rw [List.findIdx_eq h1]
    refine ⟨by rw [h2]; simp [h0], fun j hj => ?_⟩
    have := hb j ls[j] hj (List.getElem?_eq_getElem (by omega))
    simpa using this
  simp only [nextB, h, if_pos h1]
theorem nextB_none {ls : List (Int × ByteArray)} (hb : ∀ (j : Nat) (u : Int × ByteArray), ls[j]? = some u → u.1 ≠ 0) : nextB ls = 4 := by
  have h : ls.findIdx (fun t => t.1 == 0) = ls.length := by
    rw [List.findIdx_eq_length]
    intro t ht
    obtain ⟨j, hj, rfl⟩ := List.getElem_of_mem ht
    have := hb j ls[j] (List.getElem?_eq_getElem hj)
    simpa using this
  simp only [nextB, h]
  rw [if_neg (by omega)]
def blank4 : List (Int × ByteArray) := [(0, ⟨#[]⟩), (0, ⟨#[]⟩), (0, ⟨#[]⟩), (0, ⟨#[]⟩)]
def newF (n : Int) : List Bk := if 3 ≤ n ∧ n ≤ 10 then List.replicate n.toNat (false, 0, blank4) else []
def mayP (bs : List Bk) (b leaf : Int) (t : ByteArray) : Bool := match bs[b.toNat]? with
  | none => false
  | some r => decide (0 ≤ b ∧ r.1 = false ∧ leaf < 4 ∧ leaf = nextB r.2.2 ∧ 1 ≤ t.size ∧ t.size ≤ 120)
def putLeaf (bs : List Bk) (b leaf : Nat) (t : ByteArray) : List Bk := bs.modify b (fun r => (r.1, r.2.1, r.2.2.set leaf (1, t)))
def programF (bs : List Bk) (b leaf : Int) (t : ByteArray) : List Bk × Bool := if flOk bs && mayP bs b leaf t then (putLeaf bs b.toNat leaf.toNat t, true) else (bs, false)
def mayW (bs : List Bk) (b : Int) : Bool := match bs[b.toNat]? with
  | none => false
  | some r => decide (0 ≤ b ∧ r.1 = false ∧ r.2.1 ≠ 1000000000)
def wipeF (bs : List Bk) (b : Int) : List Bk × Bool := if flOk bs && mayW bs b then (bs.modify b.toNat (fun r => (false, r.2.1 + 1, blank4)), true) else (bs, false)
def readF (bs : List Bk) (b leaf : Int) : ByteArray × Bool := match bs[b.toNat]? with
  | none => (⟨#[]⟩, false)
  | some r => match r.2.2[leaf.toNat]? with
    | none => (⟨#[]⟩, false)
    | some t => if 0 ≤ b ∧ 0 ≤ leaf ∧ t.1 = 1 then (t.2, true) else (⟨#[]⟩, false)
def badF (bs : List Bk) (b : Int) : List Bk := if 0 ≤ b then bs.modify b.toNat (fun r => (true, r.2)) else bs
end Go.Proofs.YtcjhnoapjhohfaaGreatDoor

/-
  Worlds in which all old blocks but some are as they were.
-/
namespace Go.Proofs.YtcjhnoapjhohfaaGreatDoor
open Go.RowKit

/-- All old blocks of which 'ok' holds are as they were. -/
def Kept2 (w w' : World) (ok : Nat → Prop) : Prop := w'.os = w.os ∧ w'.tape = w.tape ∧ w'.output = w.output ∧ w.heap.size ≤ w'.heap.size ∧ ∀ i, i < w.heap.size → ok i → w'.heap[i]? = w.heap[i]?
theorem Kept2.refl (w : World) (ok : Nat → Prop) : Kept2 w w ok := ⟨rfl, rfl, rfl, Nat.le_refl _, fun _ _ _ => rfl⟩
theorem Kept2.trans {a b c : World} {ok : Nat → Prop} (h : Kept2 a b ok) (k : Kept2 b c ok) : Kept2 a c ok :=
  ⟨k.1.trans h.1, k.2.1.trans h.2.1, k.2.2.1.trans h.2.2.1, Nat.le_trans h.2.2.2.1 k.2.2.2.1, fun i hi ho => (k.2.2.2.2 i (Nat.lt_of_lt_of_le hi h.2.2.2.1) ho).trans (h.2.2.2.2 i hi ho)⟩
theorem Kept2.grown {a b : World} {ok : Nat → Prop} {row : Option Nat} (h : a.grownBy b row) (hr : ∀ j, row = some j → ¬ ok j) : Kept2 a b ok :=
  ⟨h.os, h.tape, h.output, h.size, fun i hi ho => h.block i hi (fun e => hr i e.symm ho)⟩
theorem Kept2.below {a b : World} {ok : Nat → Prop} (h : Below a.heap.size a b) : Kept2 a b ok := ⟨h.os, h.tape, h.output, h.size, fun i hi _ => h.block i hi⟩
theorem Kept2.down {a b : World} {ok : Nat → Prop} {B : Nat} (h : Kept2 a b ok) (hB : B ≤ a.heap.size) (ho : ∀ i, i < B → ok i) : Below B a b := ⟨h.1, h.2.1, h.2.2.1, h.2.2.2.1, fun i hi => h.2.2.2.2 i (Nat.lt_of_lt_of_le hi hB) (ho i hi)⟩
theorem grown_old {a b : World} (h : Below a.heap.size a b) (row : Option Nat) : a.grownBy b row := ⟨h.os, h.tape, h.output, h.size, fun i hi _ => h.block i hi⟩
end Go.Proofs.YtcjhnoapjhohfaaGreatDoor

/-
  Rows that a call owns: a cell written elsewhere, a lower bound.
-/
namespace Go.Proofs.YtcjhnoapjhohfaaGreatDoor
open Go.RowKit

theorem row_set {w : World} {g : Nat} {cs : Array Value} {t : TypeId} (h : w.heap[g]? = some (.cells cs t (0, 0))) (i : Nat) (u : Value) : (w.setCell ⟨g, i, none⟩ u).heap[g]? = some (.cells (cs.setIfInBounds i u) t (0, 0)) := by
  rw [setCell_eq_setRow w g i cs t (0, 0) u h]
  exact setRow_heap w g cs _ t _ h
theorem row_set_ne {w : World} {g g' : Nat} {o : Obj} (h : w.heap[g]? = some o) (hn : g ≠ g') (i : Nat) (u : Value) : (w.setCell ⟨g', i, none⟩ u).heap[g]? = some o := (Below.heap_setCell _ _ _ _ hn).trans h
theorem own_down {w : World} {B B' : Nat} {e : TypeId} {size n : Nat} {v : Value} {xs : List Value} (h : w.ownsRow B e size v n xs) (hb : B' ≤ B) : w.ownsRow B' e size v n xs := by
  obtain ⟨h1, h2⟩ := h
  refine ⟨h1, ?_⟩
  rcases h2 with h | ⟨g, cap, cur, rfl, a2, a3⟩
  · exact .inl h
  · exact .inr ⟨g, cap, cur, rfl, by omega, a3⟩
theorem own_cell {w : World} {B : Nat} {e : TypeId} {size n : Nat} {v : Value} {xs : List Value} (h : w.ownsRow B e size v n xs) {g : Nat} (hg : g < B) (i : Nat) (u : Value) : (w.setCell ⟨g, i, none⟩ u).ownsRow B e size v n xs := by
  obtain ⟨h1, h2⟩ := h
  refine ⟨h1, ?_⟩
  rcases h2 with h | ⟨g', cap, cur, rfl, a2, a3, a4⟩
  · exact .inl h
  · exact .inr ⟨g', cap, cur, rfl, a2, row_set_ne a3 (by omega) _ _, a4⟩
theorem own_block_lt {w : World} {B : Nat} {e : TypeId} {size n : Nat} {v : Value} {xs : List Value} (h : w.ownsRow B e size v n xs) : ∀ g, v.ownBlock = some g → B ≤ g ∧ g < w.heap.size := by
  intro g hg
  exact h.lt g hg
theorem fown_set {w : World} {base : Nat} {e : TypeId} {size n : Nat} {v : Value} {xs : List Value} {g cap : Nat} (h : w.ownsRow base e size v n xs) (hv : v = .slice (some ⟨g, 0, none⟩) n cap) (k : Nat) (u : Value) :
    (w.setCell ⟨g, k, none⟩ u).ownsRow base e size v n (xs.set k u) := by
  obtain ⟨h1, h2⟩ := h
  refine ⟨by simpa using h1, ?_⟩
  rcases h2 with ⟨h3, -⟩ | ⟨g', cap', cur, h3, h4, h5, h6, h7, h8, h9⟩
  · rw [hv] at h3; cases h3
  · right
    have hg : g' = g := by rw [hv] at h3; injection h3 with a; simp at a; exact a.symm
    subst hg
    refine ⟨g', cap', cur.setIfInBounds k u, h3, h4, ?_, h6, h7, by simpa using h8, ?_⟩
    · rw [setCell_eq_setRow w g' k cur e (0, 0) u h5]
      exact setRow_heap w g' cur _ e _ h5
    · rw [Array.toList_setIfInBounds, List.take_set, h9]
theorem grown_cell (w : World) (g k : Nat) (u : Value) : w.grownBy (w.setCell ⟨g, k, none⟩ u) (some g) :=
  ⟨rfl, rfl, rfl, by simp [World.setCell], fun i _ hi => Below.heap_setCell _ _ _ _ (fun e => hi (by rw [e]))⟩
end Go.Proofs.YtcjhnoapjhohfaaGreatDoor

/-
  Flashes that the call owns: rows of blocks, each with a row of leaves of its own.
-/
namespace Go.Proofs.YtcjhnoapjhohfaaGreatDoor
open Go.RowKit

theorem infoLeaf : (Tryz.prog.info? 122).map (fun i => (i.zero, i.size, i.bytes)) = some (some (.agg #[.int .i64 0, .string ⟨#[]⟩]), 2, 24) := by kernel_rfl
theorem infoBlock : (Tryz.prog.info? 89).map (fun i => (i.zero, i.size, i.bytes)) = some (some (.agg #[.bool false, .int .i64 0, .slice none 0 0]), 3, 40) := by kernel_rfl

/-- The cells of leaves. -/
def lcell (t : Int × ByteArray) : List Value := [.int .i64 t.1, .string t.2]
def lcells (l : List (Int × ByteArray)) : List Value := l.flatMap lcell
theorem lcells_len (l : List (Int × ByteArray)) : (lcells l).length = l.length * 2 := by
  induction l with
  | nil => rfl
  | cons t l ih => simp [lcells, lcell] at ih ⊢; omega
theorem lcells_app (a b : List (Int × ByteArray)) : lcells (a ++ b) = lcells a ++ lcells b := by simp [lcells]
theorem lcells_cons (t : Int × ByteArray) (l : List (Int × ByteArray)) : lcells (t :: l) = [.int .i64 t.1, .string t.2] ++ lcells l := by simp [lcells, lcell]
theorem lcells_at (l : List (Int × ByteArray)) (k : Nat) (t : Int × ByteArray) (h : l[k]? = some t) : (lcells l)[k * 2]? = some (.int .i64 t.1) ∧ (lcells l)[k * 2 + 1]? = some (.string t.2) := by
  induction l generalizing k with
  | nil => simp at h
  | cons a l ih =>
    cases k with
    | zero =>
      simp at h
      subst h
      exact ⟨rfl, rfl⟩
    | succ k =>
      have := ih k (by simpa using h)
      rw [lcells_cons, List.getElem?_append_right (by simp; omega), List.getElem?_append_right (by simp; omega)]
      simp only [List.length_cons, List.length_nil]
      rw [show (k + 1) * 2 - (0 + 1 + 1) = k * 2 by omega, show (k + 1) * 2 + 1 - (0 + 1 + 1) = k * 2 + 1 by omega]
      exact this
theorem lcells_one (l : List (Int × ByteArray)) : ∀ v ∈ lcells l, v.oneCell' = true := by
  intro v hv
  obtain ⟨t, -, ht⟩ := List.mem_flatMap.1 hv
  simp [lcell] at ht
  rcases ht with h | h <;> subst h <;> rfl
theorem lcells_upd (ls : List (Int × ByteArray)) (k : Nat) (t : Int × ByteArray) (h : ls[k]? = some t) :
    (∀ z : Int, (lcells ls).set (k * 2) (.int .i64 z) = lcells (ls.set k (z, t.2))) ∧ (∀ z : ByteArray, (lcells ls).set (k * 2 + 1) (.string z) = lcells (ls.set k (t.1, z))) := by
  induction ls generalizing k with
  | nil => simp at h
  | cons a r ih =>
    cases k with
    | zero =>
      simp at h
      subst h
      simp [lcells_cons]
    | succ k =>
      obtain ⟨h1, h2⟩ := ih k (by simpa using h)
      refine ⟨fun z => ?_, fun z => ?_⟩
      · rw [List.set_cons_succ, lcells_cons, lcells_cons, ← h1 z, List.set_append_right _ _ (by simp; omega)]
        congr 2
        simp
        omega
      · rw [List.set_cons_succ, lcells_cons, lcells_cons, ← h2 z, List.set_append_right _ _ (by simp; omega)]
        congr 2
        simp
        omega
theorem lown_cells {w : World} {B n cap g k : Nat} {l : List (Int × ByteArray)} {t : Int × ByteArray} (h : w.ownsRow B 122 2 (.slice (some ⟨g, 0, none⟩) n cap) n (lcells l)) (ht : l[k]? = some t) :
    w.cell? ⟨g, k * 2, none⟩ = some (.int .i64 t.1) ∧ w.cell? ⟨g, k * 2 + 1, none⟩ = some (.string t.2) := by
  obtain ⟨h1, h2⟩ := lcells_at l k t ht
  have c1 := h.cells (g := g) rfl _ _ h1
  have c2 := h.cells (g := g) rfl _ _ h2
  rw [addr_at] at c1 c2
  exact ⟨c1, c2⟩

/-- The cells of blocks: Bad, Wear, and the slice of their leaves. -/
def kcell (t : Bool × Int × Value) : List Value := [.bool t.1, .int .i64 t.2.1, t.2.2]
def kcells (l : List (Bool × Int × Value)) : List Value := l.flatMap kcell
theorem kcells_len (l : List (Bool × Int × Value)) : (kcells l).length = l.length * 3 := by
  induction l with
  | nil => rfl
  | cons t l ih => simp [kcells, kcell] at ih ⊢; omega
theorem kcells_app (a b : List (Bool × Int × Value)) : kcells (a ++ b) = kcells a ++ kcells b := by simp [kcells]
theorem kcells_cons (t : Bool × Int × Value) (l : List (Bool × Int × Value)) : kcells (t :: l) = [.bool t.1, .int .i64 t.2.1, t.2.2] ++ kcells l := by simp [kcells, kcell]
theorem kcells_at (l : List (Bool × Int × Value)) (k : Nat) (t : Bool × Int × Value) (h : l[k]? = some t) : (kcells l)[k * 3]? = some (.bool t.1) ∧ (kcells l)[k * 3 + 1]? = some (.int .i64 t.2.1) ∧ (kcells l)[k * 3 + 2]? = some t.2.2 := by
  induction l generalizing k with
  | nil => simp at h
  | cons a l ih =>
    cases k with
    | zero =>
      simp at h
      subst h
      exact ⟨rfl, rfl, rfl⟩
    | succ k =>
      have := ih k (by simpa using h)
      rw [kcells_cons, List.getElem?_append_right (by simp; omega), List.getElem?_append_right (by simp; omega), List.getElem?_append_right (by simp; omega)]
      simp only [List.length_cons, List.length_nil]
      rw [show (k + 1) * 3 - (0 + 1 + 1 + 1) = k * 3 by omega, show (k + 1) * 3 + 1 - (0 + 1 + 1 + 1) = k * 3 + 1 by omega, show (k + 1) * 3 + 2 - (0 + 1 + 1 + 1) = k * 3 + 2 by omega]
      exact this
theorem kcells_upd (ls : List (Bool × Int × Value)) (k : Nat) (t : Bool × Int × Value) (h : ls[k]? = some t) :
    (∀ z : Bool, (kcells ls).set (k * 3) (.bool z) = kcells (ls.set k (z, t.2.1, t.2.2))) ∧ (∀ z : Int, (kcells ls).set (k * 3 + 1) (.int .i64 z) = kcells (ls.set k (t.1, z, t.2.2))) ∧ (∀ z : Value, (kcells ls).set (k * 3 + 2) z = kcells (ls.set k (t.1, t.2.1, z))) := by
  induction ls generalizing k with
  | nil => simp at h
  | cons a r ih =>
    cases k with
    | zero =>
      simp at h
      subst h
      simp [kcells_cons]
    | succ k =>
      obtain ⟨h1, h2, h3⟩ := ih k (by simpa using h)
      refine ⟨fun z => ?_, fun z => ?_, fun z => ?_⟩
      · rw [List.set_cons_succ, kcells_cons, kcells_cons, ← h1 z, List.set_append_right _ _ (by simp; omega)]
        congr 2
        simp
        omega
      · rw [List.set_cons_succ, kcells_cons, kcells_cons, ← h2 z, List.set_append_right _ _ (by simp; omega)]
        congr 2
        simp
        omega
      · rw [List.set_cons_succ, kcells_cons, kcells_cons, ← h3 z, List.set_append_right _ _ (by simp; omega)]
        congr 2
        simp
        omega
theorem kown_cells {w : World} {B n cap g k : Nat} {l : List (Bool × Int × Value)} {t : Bool × Int × Value} (h : w.ownsRow B 89 3 (.slice (some ⟨g, 0, none⟩) n cap) n (kcells l)) (ht : l[k]? = some t) :
    w.cell? ⟨g, k * 3, none⟩ = some (.bool t.1) ∧ w.cell? ⟨g, k * 3 + 1, none⟩ = some (.int .i64 t.2.1) ∧ w.cell? ⟨g, k * 3 + 2, none⟩ = some t.2.2 := by
  obtain ⟨h1, h2, h3⟩ := kcells_at l k t ht
  have c1 := h.cells (g := g) rfl _ _ h1
  have c2 := h.cells (g := g) rfl _ _ h2
  have c3 := h.cells (g := g) rfl _ _ h3
  rw [addr_at] at c1 c2 c3
  exact ⟨c1, c2, c3⟩
theorem frow_form {w : World} {B : Nat} {e : TypeId} {z : Nat} {v : Value} {n : Nat} {xs : List Value} (h : w.ownsRow B e z v n xs) :
    ∃ ad cap, v = .slice ad n cap ∧ n ≤ cap ∧ cap ≤ maxLen ∧ (0 < n → ∃ g, ad = some ⟨g, 0, none⟩ ∧ B ≤ g ∧ g < w.heap.size) := by
  have hlt := h.lt
  rcases h.2 with ⟨h1, h2⟩ | ⟨g, cap, cur, h1, -, -, h3, h4, -⟩
  · exact ⟨none, 0, by rw [h1, h2], by omega, by unfold maxLen; omega, fun h => by omega⟩
  · subst h1
    exact ⟨_, cap, rfl, h3, h4, fun _ => ⟨g, rfl, hlt g rfl⟩⟩
/-- A block as the call owns it: Bad, Wear, the slice of its leaves, and these. -/
abbrev Rw := Bool × Int × Value × List (Int × ByteArray)
/-- .. and what it tells. -/
def cellOf (r : Rw) : Bool × Int × Value := (r.1, r.2.1, r.2.2.1)
def tellOf (r : Rw) : Bk := (r.1, r.2.1, r.2.2.2)
def LeafIn (w : World) (lo hi : Nat) (v : Value) (ls : List (Int × ByteArray)) : Prop :=
  w.ownsRow lo 122 2 v ls.length (lcells ls) ∧ ∀ g, v.ownBlock = some g → g < hi
/-- Blocks that the call owns, all of them from block lo on and below hi; no two of them share a row. -/
def FlashIn (w : World) (lo hi : Nat) (v : Value) (rs : List Rw) : Prop :=
  w.ownsRow lo 89 3 v rs.length (kcells (rs.map cellOf)) ∧ (∀ g, v.ownBlock = some g → g < hi) ∧ (∀ r ∈ rs, LeafIn w lo hi r.2.2.1 r.2.2.2) ∧
    (rs.map fun r => r.2.2.1).Pairwise (fun a b => a.ownBlock = none ∨ a.ownBlock ≠ b.ownBlock)
theorem own_blocks {w w' : World} {lo hi : Nat} {e : TypeId} {size : Nat} {v : Value} {n : Nat} {xs : List Value} (h : w.ownsRow lo e size v n xs) (hh : ∀ g, v.ownBlock = some g → g < hi) (hk : ∀ g, lo ≤ g → g < hi → w'.heap[g]? = w.heap[g]?) : w'.ownsRow lo e size v n xs := by
  have hlt := h.lt
  obtain ⟨h1, h2⟩ := h
  refine ⟨h1, ?_⟩
  rcases h2 with h | ⟨g, cap, cur, rfl, a2, a3, a4⟩
  · exact .inl h
  · exact .inr ⟨g, cap, cur, rfl, a2, by rw [hk g a2 (hh g rfl)]; exact a3, a4⟩
theorem LeafIn.kept {w w' : World} {lo hi : Nat} {v : Value} {ls : List (Int × ByteArray)} (h : LeafIn w lo hi v ls) (hk : ∀ g, lo ≤ g → g < hi → w'.heap[g]? = w.heap[g]?) : LeafIn w' lo hi v ls := ⟨own_blocks h.1 h.2 hk, h.2⟩
theorem FlashIn.kept {w w' : World} {lo hi : Nat} {v : Value} {rs : List Rw} (h : FlashIn w lo hi v rs) (hk : ∀ g, lo ≤ g → g < hi → w'.heap[g]? = w.heap[g]?) : FlashIn w' lo hi v rs :=
  ⟨own_blocks h.1 h.2.1 hk, h.2.1, fun r hr => (h.2.2.1 r hr).kept hk, h.2.2.2⟩
theorem FlashIn.below {w w' : World} {lo hi : Nat} {v : Value} {rs : List Rw} (h : FlashIn w lo hi v rs) (hb : Below w.heap.size w w') (hh : hi ≤ w.heap.size) : FlashIn w' lo hi v rs := h.kept (fun g _ hg => hb.block g (by omega))
theorem LeafIn.below {w w' : World} {lo hi : Nat} {v : Value} {ls : List (Int × ByteArray)} (h : LeafIn w lo hi v ls) (hb : Below w.heap.size w w') (hh : hi ≤ w.heap.size) : LeafIn w' lo hi v ls := h.kept (fun g _ hg => hb.block g (by omega))
theorem LeafIn.up {w : World} {lo hi hi' : Nat} {v : Value} {ls : List (Int × ByteArray)} (h : LeafIn w lo hi v ls) (hh : hi ≤ hi') : LeafIn w lo hi' v ls := ⟨h.1, fun g hg => Nat.lt_of_lt_of_le (h.2 g hg) hh⟩
theorem FlashIn.up {w : World} {lo hi hi' : Nat} {v : Value} {rs : List Rw} (h : FlashIn w lo hi v rs) (hh : hi ≤ hi') : FlashIn w lo hi' v rs := ⟨h.1, fun g hg => Nat.lt_of_lt_of_le (h.2.1 g hg) hh, fun r hr => (h.2.2.1 r hr).up hh, h.2.2.2⟩
/-- Blocks and leaves lie in rows of different types, so never in one. -/
theorem leaf_not_block {w : World} {B B' : Nat} {u v : Value} {n m : Nat} {xs ys : List Value} (hu : w.ownsRow B 89 3 u n xs) (hv : w.ownsRow B' 122 2 v m ys) : ∀ g, u.ownBlock = some g → v.ownBlock ≠ some g := by
  intro g h1 h2
  rcases hu.2 with ⟨rfl, -⟩ | ⟨g1, cap, cur, rfl, -, e1, -⟩
  · cases h1
  · rcases hv.2 with ⟨rfl, -⟩ | ⟨g2, cap2, cur2, rfl, -, e2, -⟩
    · cases h2
    · simp [Value.ownBlock] at h1 h2
      subst h1 h2
      rw [e1] at e2
      simp at e2

theorem set_same {α : Type} (l : List α) (k : Nat) (a : α) (h : l[k]? = some a) : l.set k a = l := by
  induction l generalizing k with
  | nil => rfl
  | cons b r ih =>
    cases k with
    | zero => simp at h; subst h; rfl
    | succ k => rw [List.set_cons_succ, ih k (by simpa using h)]
theorem leaf_ne {w : World} {B B' : Nat} {g n cq m : Nat} {v : Value} {xs ys : List Value} (hu : w.ownsRow B 89 3 (.slice (some ⟨g, 0, none⟩) n cq) n xs) (hv : w.ownsRow B' 122 2 v m ys) : v.ownBlock = none ∨ v.ownBlock ≠ some g := Or.inr (leaf_not_block hu hv g rfl)
/-- A cell of a block is written: Bad, or Wear. -/
theorem FlashIn.cell {w : World} {lo hi g n cq k : Nat} {rs : List Rw} {r r' : Rw} {j : Nat} {u : Value} (h : FlashIn w lo hi (.slice (some ⟨g, 0, none⟩) n cq) rs) (hn : n = rs.length) (hr : rs[k]? = some r) (hs : r'.2.2 = r.2.2)
    (hu : (kcells (rs.map cellOf)).set j u = kcells ((rs.map cellOf).set k (cellOf r'))) : FlashIn (w.setCell ⟨g, j, none⟩ u) lo hi (.slice (some ⟨g, 0, none⟩) n cq) (rs.set k r') := by
  subst hn
  refine ⟨?_, h.2.1, fun x hx => ?_, ?_⟩
  · have := fown_set h.1 rfl j u
    rw [hu, ← List.map_set] at this
    rw [List.length_set]
    exact this
  · have hx2 : ∃ y ∈ rs, x.2.2 = y.2.2 := by
      rcases List.mem_or_eq_of_mem_set hx with h1 | h1
      · exact ⟨x, h1, rfl⟩
      · exact ⟨r, List.mem_of_getElem? hr, by rw [h1, hs]⟩
    obtain ⟨y, hy, e⟩ := hx2
    have hl := h.2.2.1 y hy
    rw [e]
    exact ⟨hl.1.kept (grown_cell w g j u) (leaf_ne h.1 hl.1), hl.2⟩
  · rw [List.map_set, hs, set_same _ _ _ (by rw [List.getElem?_map, hr]; rfl)]
    exact h.2.2.2
theorem FlashIn.bad {w : World} {lo hi g n cq k : Nat} {rs : List Rw} {r : Rw} (h : FlashIn w lo hi (.slice (some ⟨g, 0, none⟩) n cq) rs) (hn : n = rs.length) (hr : rs[k]? = some r) (z : Bool) : FlashIn (w.setCell ⟨g, k * 3, none⟩ (.bool z)) lo hi (.slice (some ⟨g, 0, none⟩) n cq) (rs.set k (z, r.2)) :=
  h.cell hn hr rfl ((kcells_upd (rs.map cellOf) k (cellOf r) (by rw [List.getElem?_map, hr]; rfl)).1 z)
theorem FlashIn.wear {w : World} {lo hi g n cq k : Nat} {rs : List Rw} {r : Rw} (h : FlashIn w lo hi (.slice (some ⟨g, 0, none⟩) n cq) rs) (hn : n = rs.length) (hr : rs[k]? = some r) (z : Int) : FlashIn (w.setCell ⟨g, k * 3 + 1, none⟩ (.int .i64 z)) lo hi (.slice (some ⟨g, 0, none⟩) n cq) (rs.set k (r.1, z, r.2.2)) :=
  h.cell hn hr rfl ((kcells_upd (rs.map cellOf) k (cellOf r) (by rw [List.getElem?_map, hr]; rfl)).2.1 z)
theorem pair_at {α : Type} {R : α → α → Prop} {l : List α} (h : l.Pairwise R) (hsym : ∀ a b, R a b → R b a) {i j : Nat} {a b : α} (hi : l[i]? = some a) (hj : l[j]? = some b) (hne : i ≠ j) : R a b := by
  obtain ⟨h1, rfl⟩ := List.getElem?_eq_some_iff.1 hi
  obtain ⟨h2, rfl⟩ := List.getElem?_eq_some_iff.1 hj
  rw [List.pairwise_iff_getElem] at h
  by_cases hlt : i < j
  · exact h i j h1 h2 hlt
  · exact hsym _ _ (h j i h2 h1 (by omega))
theorem apart_sym (a b : Value) (h : a.ownBlock = none ∨ a.ownBlock ≠ b.ownBlock) : b.ownBlock = none ∨ b.ownBlock ≠ a.ownBlock := by
  cases hb : b.ownBlock with
  | none => exact Or.inl rfl
  | some g =>
    refine Or.inr (fun e => ?_)
    rcases h with h | h
    · rw [h] at e; cases e
    · exact h (by rw [hb, e])
/-- The leaves of one block are others: nothing else has turned. -/
theorem FlashIn.leaves {w w' : World} {lo hi k : Nat} {v : Value} {rs : List Rw} {r : Rw} {ls' : List (Int × ByteArray)} (h : FlashIn w lo hi v rs) (hr : rs[k]? = some r) (hg : w.grownBy w' r.2.2.1.ownBlock) (hl : LeafIn w' lo hi r.2.2.1 ls') :
    FlashIn w' lo hi v (rs.set k (r.1, r.2.1, r.2.2.1, ls')) := by
  have hrl := h.2.2.1 r (List.mem_of_getElem? hr)
  refine ⟨?_, h.2.1, fun x hx => ?_, ?_⟩
  · have e1 : (rs.set k (r.1, r.2.1, r.2.2.1, ls')).map cellOf = rs.map cellOf := by
      rw [List.map_set]
      exact set_same _ _ _ (by rw [List.getElem?_map, hr]; rfl)
    rw [e1, List.length_set]
    refine h.1.kept hg ?_
    cases hv : v.ownBlock with
    | none => exact Or.inl rfl
    | some g => exact Or.inr (fun e => leaf_not_block h.1 hrl.1 g hv e.symm)
  · obtain ⟨i, hi, rfl⟩ := List.getElem_of_mem hx
    have hi2 : i < rs.length := by simpa using hi
    by_cases hik : k = i
    · subst hik
      simp only [List.getElem_set_self]
      exact hl
    · rw [List.getElem_set_ne hik]
      have hxl := h.2.2.1 rs[i] (List.getElem_mem _)
      refine ⟨hxl.1.kept hg ?_, hxl.2⟩
      exact pair_at h.2.2.2 apart_sym (i := i) (j := k) (by rw [List.getElem?_map, List.getElem?_eq_getElem hi2]; rfl) (by rw [List.getElem?_map, hr]; rfl) (fun e => hik e.symm)
  · rw [List.map_set]
    simp only
    rw [set_same _ _ _ (by rw [List.getElem?_map, hr]; rfl)]
    exact h.2.2.2
end Go.Proofs.YtcjhnoapjhohfaaGreatDoor
