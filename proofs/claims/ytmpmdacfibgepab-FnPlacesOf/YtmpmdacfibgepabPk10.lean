/-
  Fla; IntL; Big; FMath
-/
import Derived.Test.YtmpmdacfibgepabFOf
import Derived.Test.YtmpmdacfibgepabTk
import Derived.Test.YtmpmdacfibgepabBase
import Derived.Test.YtmpmdacfibgepabFRow
import Derived.Test.YtmpmdacfibgepabFlP
/-
  A flash among what a law holds.
-/
namespace Go.Proofs.Ytmpmdacfibgepab
open Go.RowKit

/-- A flash in blocks from lo on and below hi. -/
def Fla (lo hi : Nat) (v : Value) (bs : List Bk) : World → Prop := fun W => ∃ ss : List Rw, ss.map tellOf = bs ∧ FlashIn W lo hi v ss
theorem Fla.loc (lo hi : Nat) (v : Value) (bs : List Bk) : Loc lo hi (Fla lo hi v bs) := by
  rintro w w' hk ⟨ss, e, h⟩
  exact ⟨ss, e, h.kept hk⟩
theorem Fla.form {w : World} {lo hi : Nat} {v : Value} {bs : List Bk} (h : Fla lo hi v bs w) : ∃ ad cap, v = .slice ad bs.length cap ∧ (0 < bs.length → ∃ g, ad = some ⟨g, 0, none⟩ ∧ lo ≤ g ∧ g < hi) := by
  obtain ⟨ss, rfl, h⟩ := h
  obtain ⟨ad, cap, rfl, -, -, h3⟩ := frow_form h.1
  refine ⟨ad, cap, by simp, fun hp => ?_⟩
  obtain ⟨g, e, h4, -⟩ := h3 (by simpa using hp)
  subst e
  exact ⟨g, rfl, h4, h.2.1 g rfl⟩
/-- What a function answered joins what is held. -/
theorem Tk.fla {w wi wj : World} {hs : List Hold} {v : Value} {bs : List Bk} (T : Tk w wi hs) (hb : Below wi.heap.size wi wj) (f : FlashOf wj wi.heap.size v bs) : Tk w wj ((wi.heap.size, wj.heap.size, Fla wi.heap.size wj.heap.size v bs) :: hs) := T.add hb (Fla.loc _ _ _ _) f
theorem Fla.of {w : World} {lo hi B : Nat} {v : Value} {bs : List Bk} (h : Fla lo hi v bs w) (hh : hi ≤ w.heap.size) (hB : B ≤ lo) : FlashOf w B v bs := by
  obtain ⟨ss, e, h⟩ := h
  exact ⟨ss, e, (h.up hh).down hB⟩
/-- The cells of a block. -/
theorem Fla.cells {w : World} {lo hi g n cap k : Nat} {bs : List Bk} {b : Bk} (h : Fla lo hi (.slice (some ⟨g, 0, none⟩) n cap) bs w) (hb : bs[k]? = some b) : w.cell? ⟨g, k * 3, none⟩ = some (.bool b.1) ∧ w.cell? ⟨g, k * 3 + 1, none⟩ = some (.int .i64 b.2.1) ∧ ∃ u, w.cell? ⟨g, k * 3 + 2, none⟩ = some u ∧ w.ownsRow lo 95 2 u b.2.2.length (lcells b.2.2) := by
  obtain ⟨ss, rfl, h⟩ := h
  rw [List.getElem?_map] at hb
  cases hr : ss[k]? with
  | none => rw [hr] at hb; cases hb
  | some r =>
    rw [hr] at hb
    cases hb
    have hn : n = ss.length := by
      obtain ⟨ad, c, e, -⟩ := frow_form h.1
      injection e
    subst hn
    obtain ⟨c1, c2, c3⟩ := kown_cells (k := k) (t := cellOf r) h.1 (by rw [List.getElem?_map, hr]; rfl)
    exact ⟨c1, c2, _, c3, (h.2.2.1 r (List.mem_of_getElem? hr)).1⟩
/-- Numbers that lie in a block. -/
def Nums (g : Nat) (l : List Int) : World → Prop := fun W => ∀ j x, l[j]? = some x → W.cell? ⟨g, j, none⟩ = some (.int .i64 x)
theorem Nums.loc (g : Nat) (l : List Int) : Loc g (g + 1) (Nums g l) := fun w w' hk h j x hx => (World.cell?_of_block (hk g (Nat.le_refl _) (by omega))).trans (h j x hx)
end Go.Proofs.Ytmpmdacfibgepab

/-
  Rows of numbers that the call owns, by themselves: equal, marked, held.
-/
namespace Go.Proofs.Ytmpmdacfibgepab
open Go.RowKit

/-- A row of numbers in blocks from lo on and below hi. -/
def Ints (lo hi : Nat) (v : Value) (l : List Int) : World → Prop := fun W => W.ownsRow lo 3 1 v l.length (icells l) ∧ ∀ g, v.ownBlock = some g → g < hi
theorem Ints.loc (lo hi : Nat) (v : Value) (l : List Int) : Loc lo hi (Ints lo hi v l) := by
  rintro w w' hk ⟨h, hh⟩
  refine ⟨⟨h.1, ?_⟩, hh⟩
  rcases h.2 with h1 | ⟨g, cap, cur, rfl, a2, a3, a4⟩
  · exact .inl h1
  · exact .inr ⟨g, cap, cur, rfl, a2, by rw [hk g a2 (hh g rfl)]; exact a3, a4⟩
theorem Ints.of {w : World} {B : Nat} {v : Value} {l : List Int} (h : w.ownsRow B 3 1 v l.length (icells l)) : Ints B w.heap.size v l w := ⟨h, fun g hg => (h.lt g hg).2⟩
theorem Ints.form {w : World} {lo hi : Nat} {v : Value} {l : List Int} (h : Ints lo hi v l w) : ∃ ad cap, v = .slice ad l.length cap ∧ (0 < l.length → ∃ g, ad = some ⟨g, 0, none⟩ ∧ lo ≤ g ∧ g < hi) := by
  obtain ⟨h, hh⟩ := h
  have hlt := h.lt
  rcases h.2 with ⟨h1, h2⟩ | ⟨g, cap, cur, h1, -, -, h3, h4, -⟩
  · exact ⟨none, 0, by rw [h1, h2], fun h => by omega⟩
  · subst h1
    exact ⟨_, cap, rfl, fun _ => ⟨g, rfl, (hlt g rfl).1, hh g rfl⟩⟩
theorem Ints.cell {w : World} {lo hi g n cap : Nat} {l : List Int} {k : Nat} {x : Int} (h : Ints lo hi (.slice (some ⟨g, 0, none⟩) n cap) l w) (hx : l[k]? = some x) : w.cell? ⟨g, k, none⟩ = some (.int .i64 x) := by
  have h1 := h.1.cells (g := g) rfl k (.int .i64 x) (by rw [icells, List.getElem?_map, hx]; rfl)
  rw [addr_at] at h1
  exact h1
theorem Ints.frozen {w : World} {lo hi g n cap : Nat} {l : List Int} (h : Ints lo hi (.slice (some ⟨g, 0, none⟩) n cap) l w) (o : Nat) : w.frozen? ⟨g, o, none⟩ = false := by
  rcases h.1.2 with ⟨h, -⟩ | ⟨g', cap', cur, h1, -, h3, -⟩
  · cases h
  · injection h1 with a b c
    injection a with a
    injection a with a
    subst a
    exact frozen_of_row _ _ o _ _ h3
theorem Ints.set {w : World} {lo hi g n cap : Nat} {l : List Int} (h : Ints lo hi (.slice (some ⟨g, 0, none⟩) n cap) l w) (k : Nat) (x : Int) : Ints lo hi (.slice (some ⟨g, 0, none⟩) n cap) (l.set k x) (w.setCell ⟨g, k, none⟩ (.int .i64 x)) := by
  obtain ⟨⟨h1, h2⟩, hh⟩ := h
  refine ⟨⟨?_, ?_⟩, hh⟩
  · simp [icells]
  · rcases h2 with ⟨h3, -⟩ | ⟨g', cap', cur, h3, h4, h5, h6, h7, h8, h9⟩
    · cases h3
    · injection h3 with a b c
      injection a with a
      injection a with a
      subst a
      refine .inr ⟨g, cap', cur.setIfInBounds k (.int .i64 x), by rw [List.length_set, b, c], h4, ?_, by simpa using h6, h7, by simpa using h8, ?_⟩
      · rw [setCell_eq_setRow w g k cur 3 (0, 0) _ h5]
        exact setRow_heap w g cur _ 3 _ h5
      · rw [Array.toList_setIfInBounds, List.take_set, List.length_set, h9]
        simp [icells]

/-- 1 and on. -/
def upFrom (k : Int) (n : Nat) : List Int := (List.range n).map (fun i : Nat => k + (i : Int))
theorem upFrom_len (k : Int) (n : Nat) : (upFrom k n).length = n := by simp [upFrom]
theorem upFrom_at (k : Int) (n i : Nat) (h : i < n) : (upFrom k n)[i]? = some (k + (i : Int)) := by simp [upFrom, h]
end Go.Proofs.Ytmpmdacfibgepab

/-
  The laws' own look at a code that is too long.
-/
namespace Go.Proofs.Ytmpmdacfibgepab
open Go.RowKit

theorem big_any (ad : Option Addr) (len cap : Nat) (w : World) :
    Calls Try.prog 9 #[.slice ad len cap] w fun e w' => e = .returned (.bool (decide ((1048576 : Int) < len))) ∧ w' = w := by
  by_cases h : (1048576 : Int) < len
  all_goals
    go_enter Try.func9, Try.ntmps9
    go_wp2
    go_ret
    exact ⟨by simp [h], rfl⟩
end Go.Proofs.Ytmpmdacfibgepab

/-
  What chapter 5 says of flashes, in plain words.
-/
namespace Go.Proofs.Ytmpmdacfibgepab

/-- No text of these is too long for the program. -/
def Tx (ls : List (Int × ByteArray)) : Prop := ∀ t ∈ ls, t.2.size ≤ 1048576
def TxB (rs : List Rw) : Prop := ∀ r ∈ rs, Tx r.2.2.2
theorem Tx.succ {ls : List (Int × ByteArray)} {k : Nat} {t : Int × ByteArray} (h : Tx (ls.take k)) (ht : ls[k]? = some t) (hs : t.2.size ≤ 1048576) : Tx (ls.take (k + 1)) := by
  obtain ⟨h1, h2⟩ := List.getElem?_eq_some_iff.1 ht
  rw [List.take_succ_eq_append_getElem h1, h2]
  intro u hu
  rcases List.mem_append.1 hu with hu | hu
  · exact h u hu
  · rw [List.mem_singleton] at hu
    subst hu
    exact hs
theorem TxB.succ {rs : List Rw} {k : Nat} {r : Rw} (h : TxB (rs.take k)) (hr : rs[k]? = some r) (hs : Tx r.2.2.2) : TxB (rs.take (k + 1)) := by
  obtain ⟨h1, h2⟩ := List.getElem?_eq_some_iff.1 hr
  rw [List.take_succ_eq_append_getElem h1, h2]
  intro u hu
  rcases List.mem_append.1 hu with hu | hu
  · exact h u hu
  · rw [List.mem_singleton] at hu
    subst hu
    exact hs
end Go.Proofs.Ytmpmdacfibgepab
