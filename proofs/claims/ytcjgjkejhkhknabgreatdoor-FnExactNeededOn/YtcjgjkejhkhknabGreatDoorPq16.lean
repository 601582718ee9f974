/-
  OpenF; FMark
-/
import Derived.Test.YtcjgjkejhkhknabGreatDoorPq15
import Derived.ProofKit
import Derived.OpenShut
import Derived.ShutString
import Derived.Deep.Strs
import Derived.Deep.Slices
import Derived.Test.YtcjgjkejhkhknabGreatDoorPq0
/-
  Flashes and blocks that come in as arguments: what the walks are told of them.
-/
namespace Go.Proofs.YtcjgjkejhkhknabGreatDoor
open Go.ChangeShapes Go.WideShapes Go.ChangeAt Go.RowKit Go.Deep
set_option maxRecDepth 100000

/-- Leaves that came in: each in two cells. -/
def LfRow (w : World) (a : Option Addr) (len : Nat) (ls : List (Int × ByteArray)) : Prop :=
  ls.length = len ∧ len ≤ maxLen ∧ (∀ t ∈ ls, t.2.size ≤ maxLen) ∧ (0 < len → ∃ b off, a = some ⟨b, off, none⟩ ∧ b < w.heap.size ∧ ∀ i t, ls[i]? = some t →
    w.cell? ⟨b, off + i * 2, none⟩ = some (.int .i64 t.1) ∧ w.cell? ⟨b, off + i * 2 + 1, none⟩ = some (.string t.2))
/-- Blocks that came in: each in three cells, the third a row of leaves. -/
def BkOne (w : World) (r : Rw) : Prop := ∃ a n cap, r.2.2.1 = .slice a n cap ∧ LfRow w a n r.2.2.2
def BkRow (w : World) (a : Option Addr) (len : Nat) (rs : List Rw) : Prop :=
  rs.length = len ∧ len ≤ maxLen ∧ (∀ r ∈ rs, BkOne w r) ∧ (0 < len → ∃ b off, a = some ⟨b, off, none⟩ ∧ b < w.heap.size ∧ ∀ i r, rs[i]? = some r →
    w.cell? ⟨b, off + i * 3, none⟩ = some (.bool r.1) ∧ w.cell? ⟨b, off + i * 3 + 1, none⟩ = some (.int .i64 r.2.1) ∧ w.cell? ⟨b, off + i * 3 + 2, none⟩ = some r.2.2.1)
theorem LfRow.below {w w' : World} {a : Option Addr} {len : Nat} {ls : List (Int × ByteArray)} (h : LfRow w a len ls) (hb : Below w.heap.size w w') : LfRow w' a len ls := by
  refine ⟨h.1, h.2.1, h.2.2.1, fun h0 => ?_⟩
  obtain ⟨b, off, e, hlt, hc⟩ := h.2.2.2 h0
  refine ⟨b, off, e, Nat.lt_of_lt_of_le hlt hb.size, fun i t ht => ?_⟩
  have := hc i t ht
  rw [hb.cell (p := ⟨b, _, none⟩) hlt, hb.cell (p := ⟨b, _, none⟩) hlt]
  exact this
theorem BkOne.below {w w' : World} {r : Rw} (h : BkOne w r) (hb : Below w.heap.size w w') : BkOne w' r := by
  obtain ⟨a, n, cap, e, hl⟩ := h
  exact ⟨a, n, cap, e, hl.below hb⟩
theorem BkRow.below {w w' : World} {a : Option Addr} {len : Nat} {rs : List Rw} (h : BkRow w a len rs) (hb : Below w.heap.size w w') : BkRow w' a len rs := by
  refine ⟨h.1, h.2.1, fun r hr => (h.2.2.1 r hr).below hb, fun h0 => ?_⟩
  obtain ⟨b, off, e, hlt, hc⟩ := h.2.2.2 h0
  refine ⟨b, off, e, Nat.lt_of_lt_of_le hlt hb.size, fun i t ht => ?_⟩
  have := hc i t ht
  rw [hb.cell (p := ⟨b, _, none⟩) hlt, hb.cell (p := ⟨b, _, none⟩) hlt, hb.cell (p := ⟨b, _, none⟩) hlt]
  exact this

section
variable {H : Type} {enc : TypeId × Value → H} {w : World} {base : Nat} {sp : Nat → Bool} {held : Bool}
theorem fcells9 : Tryz.prog.cellsOf 9 = 1 := by kernel_rfl
theorem fcells3 : Tryz.prog.cellsOf 3 = 1 := by kernel_rfl
theorem fcells4 : Tryz.prog.cellsOf 4 = 1 := by kernel_rfl
theorem fcellsLs : Tryz.prog.cellsOf 82 = 1 := by kernel_rfl
theorem fcellsLf : Tryz.prog.cellsOf 151 = 2 := by kernel_rfl
theorem fcellsBk : Tryz.prog.cellsOf 84 = 3 := by kernel_rfl
theorem faddr_off (b off j : Nat) : (⟨b, off, none⟩ : Addr).add j = ⟨b, off + j, none⟩ := by
  simp only [Addr.add]
  split <;> simp_all

theorem open_leaves {fuel : Nat} {cs : List Value} {x : DataW H × List MemPlace} (hf : DataW.trod enc Tryz.prog w base sp held fuel 82 cs = some x) : ∃ a len cap ls, cs = [.slice a len cap] ∧ LfRow w a len ls := by
  rcases open_slice Tryz.underlying82 hf with ⟨hcs, _⟩ | ⟨x, len, c, m, n, D, Pl, hcs, _, hl, hm, hmm, _, hx⟩
  · exact ⟨none, 0, 0, [], hcs, rfl, by omega, by simp, fun h => by omega⟩
  · have hlm : len ≤ m := by rw [hmm]; split <;> omega
    have each : ∀ i, i < len → ∃ t : Int × ByteArray, w.cell? (x.add (i * 2)) = some (.int .i64 t.1) ∧ w.cell? (x.add (i * 2 + 1)) = some (.string t.2) ∧ t.2.size ≤ maxLen := by
      intro i hi
      obtain ⟨cs, h1, h2⟩ := hx i (by omega)
      rw [fcellsLf] at h1
      obtain ⟨_, hlen, hcell⟩ := World.cells?_some h1
      obtain ⟨y0, y1, k, _, _, g0, g1⟩ := trod_struct2 Tryz.underlying151 h2
      simp only [fcells9, fcells3] at g0 g1
      match cs, hlen with
      | [u, v], _ =>
        obtain ⟨p, e0, _, _⟩ := DataW.trod_int Tryz.underlying3 g0
        obtain ⟨s, e1, _, hs⟩ := DataW.trod_string Tryz.underlying9 g1
        simp at e0 e1
        subst e0 e1
        have f0 := hcell 0 (by simp)
        have f1 := hcell 1 (by simp)
        rw [add_add] at f0 f1
        exact ⟨(p, s), by simpa using f0, by simpa using f1, hs⟩
    obtain ⟨f, hq⟩ := choose_lt each
    refine ⟨some x, len, c, (List.range len).map f, hcs, by simp, by omega, ?_, fun h0 => ?_⟩
    · intro t ht
      obtain ⟨i, hi, rfl⟩ := List.mem_map.1 ht
      exact (hq i (List.mem_range.1 hi)).2.2
    · obtain ⟨b, off, spot⟩ := x
      have hspot : spot = none := by simpa [Addr.add] using World.cell?_spot (hq 0 h0).1
      subst hspot
      refine ⟨b, off, rfl, ?_, fun i t hi => ?_⟩
      · have := World.block_lt_of_cell? w _ (hq 0 h0).1
        rw [faddr_off] at this
        exact this
      · obtain ⟨hi1, hi2⟩ := List.getElem?_eq_some_iff.1 hi
        have hil : i < len := by simpa using hi1
        have ht : t = f i := by rw [← hi2]; simp
        subst ht
        have := hq i hil
        rw [faddr_off, faddr_off] at this
        exact ⟨this.1, this.2.1⟩
/-- One block. -/
theorem open_block {fuel : Nat} {cs : List Value} {x : DataW H × List MemPlace} (hf : DataW.trod enc Tryz.prog w base sp held fuel 84 cs = some x) : ∃ r : Rw, cs = [.bool r.1, .int .i64 r.2.1, r.2.2.1] ∧ BkOne w r := by
  obtain ⟨y0, y1, y2, k, _, hlen, g0, g1, g2⟩ := trod_struct3 Tryz.underlying84 hf
  simp only [fcells4, fcells3, fcellsLs] at g0 g1 g2
  rw [fcellsBk] at hlen
  match cs, hlen with
  | [u, v, z], _ =>
    obtain ⟨p, e0, _⟩ := DataW.trod_bool Tryz.underlying4 g0
    obtain ⟨q, e1, _, _⟩ := DataW.trod_int Tryz.underlying3 g1
    obtain ⟨a, n, cap, ls, e2, hl⟩ := open_leaves g2
    simp at e0 e1 e2
    subst e0 e1 e2
    exact ⟨(p, q, .slice a n cap, ls), rfl, a, n, cap, rfl, hl⟩
theorem open_blocks {fuel : Nat} {cs : List Value} {x : DataW H × List MemPlace} (hf : DataW.trod enc Tryz.prog w base sp held fuel 22 cs = some x) : ∃ a len cap rs, cs = [.slice a len cap] ∧ BkRow w a len rs := by
  rcases open_slice Tryz.underlying22 hf with ⟨hcs, _⟩ | ⟨x, len, c, m, n, D, Pl, hcs, _, hl, hm, hmm, _, hx⟩
  · exact ⟨none, 0, 0, [], hcs, rfl, by omega, by simp, fun h => by omega⟩
  · have hlm : len ≤ m := by rw [hmm]; split <;> omega
    have each : ∀ i, i < len → ∃ r : Rw, w.cell? (x.add (i * 3)) = some (.bool r.1) ∧ w.cell? (x.add (i * 3 + 1)) = some (.int .i64 r.2.1) ∧ w.cell? (x.add (i * 3 + 2)) = some r.2.2.1 ∧ BkOne w r := by
      intro i hi
      obtain ⟨cs, h1, h2⟩ := hx i (by omega)
      rw [fcellsBk] at h1
      obtain ⟨_, hlen, hcell⟩ := World.cells?_some h1
      obtain ⟨r, rfl, hr⟩ := open_block h2
      have f0 := hcell 0 (by simp)
      have f1 := hcell 1 (by simp)
      have f2 := hcell 2 (by simp)
      rw [add_add] at f0 f1 f2
      exact ⟨r, by simpa using f0, by simpa using f1, by simpa using f2, hr⟩
    haveI : Inhabited Rw := ⟨(false, 0, .slice none 0 0, [])⟩
    obtain ⟨f, hq⟩ := choose_lt each
    refine ⟨some x, len, c, (List.range len).map f, hcs, by simp, by omega, ?_, fun h0 => ?_⟩
    · intro t ht
      obtain ⟨i, hi, rfl⟩ := List.mem_map.1 ht
      exact (hq i (List.mem_range.1 hi)).2.2.2
    · obtain ⟨b, off, spot⟩ := x
      have hspot : spot = none := by simpa [Addr.add] using World.cell?_spot (hq 0 h0).1
      subst hspot
      refine ⟨b, off, rfl, ?_, fun i t hi => ?_⟩
      · have := World.block_lt_of_cell? w _ (hq 0 h0).1
        rw [faddr_off] at this
        exact this
      · obtain ⟨hi1, hi2⟩ := List.getElem?_eq_some_iff.1 hi
        have hil : i < len := by simpa using hi1
        have ht : t = f i := by rw [← hi2]; simp
        subst ht
        have := hq i hil
        rw [faddr_off, faddr_off, faddr_off] at this
        exact ⟨this.1, this.2.1, this.2.2.1⟩
/-- The argument of most laws: a flash. -/
theorem open_flash {r : Reach} {b0 : Nat} {v : Value} {d : DataW H} {ps : List MemPlace} (hval : Value.okWide Tryz.prog w r b0 24 v) (hd : DataW.Trod enc Tryz.prog w base sp held 24 v d ps) : ∃ a len cap rs, v = .agg #[.slice a len cap] ∧ BkRow w a len rs := by
  obtain ⟨cs, rfl, hcs⟩ := okWide_struct Tryz.underlying24 hval
  obtain ⟨fuel, hf⟩ := hd
  obtain ⟨y0, k, _, hlen, g0⟩ := trod_struct1 Tryz.underlying24 hf
  obtain ⟨a, len, cap, rs, e, hr⟩ := open_blocks g0
  refine ⟨a, len, cap, rs, ?_, hr⟩
  have h1 : Tryz.prog.cellsOf 24 = 1 := by kernel_rfl
  have h2 : Tryz.prog.cellsOf 22 = 1 := by kernel_rfl
  rw [h1] at hcs
  rw [h2] at e
  match cs, hcs with
  | ⟨[u]⟩, _ =>
    simp [Value.cells] at e
    subst e
    rfl
/-- .. a block. -/
theorem open_blockA {r : Reach} {b0 : Nat} {v : Value} {d : DataW H} {ps : List MemPlace} (hval : Value.okWide Tryz.prog w r b0 84 v) (hd : DataW.Trod enc Tryz.prog w base sp held 84 v d ps) : ∃ r : Rw, v = .agg #[.bool r.1, .int .i64 r.2.1, r.2.2.1] ∧ BkOne w r := by
  obtain ⟨cs, rfl, hcs⟩ := okWide_struct Tryz.underlying84 hval
  obtain ⟨fuel, hf⟩ := hd
  obtain ⟨r, e, hr⟩ := open_block hf
  refine ⟨r, ?_, hr⟩
  obtain ⟨l⟩ := cs
  simp [Value.cells] at e
  subst e
  rfl
end
end Go.Proofs.YtcjgjkejhkhknabGreatDoor

/-
  The walks of the law's own helpers over flashes: marked.
-/
namespace Go.Proofs.YtcjgjkejhkhknabGreatDoor
open Go.RowKit

/-- Leaves that are marked from k on. -/
def markLf (k i : Nat) : Int × ByteArray := (((k + 2 * i : Nat) : Int), ⟨(markL (k + 2 * i + 1)).toArray⟩)
def marksL (k n : Nat) : List (Int × ByteArray) := (List.range n).map (markLf k)
theorem marksL_len (k n : Nat) : (marksL k n).length = n := by simp [marksL]
theorem marksL_succ (k n : Nat) : marksL k (n + 1) = marksL k n ++ [markLf k n] := by simp [marksL, List.range_succ]
theorem marksL_at (k n i : Nat) (h : i < n) : (marksL k n)[i]? = some (markLf k i) := by simp [marksL, h]
/-- Blocks that are marked from k on. -/
def marksB : Nat → List Rw → List Rw
  | _, [] => []
  | k, r :: rs => (decide (k % 3 = 0), ((k + 1 : Nat) : Int), r.2.2.1, marksL (k + 2) r.2.2.2.length) :: marksB (k + 2 + 2 * r.2.2.2.length) rs
def endB : Nat → List Rw → Nat
  | k, [] => k
  | k, r :: rs => endB (k + 2 + 2 * r.2.2.2.length) rs
theorem marksB_len (k : Nat) (rs : List Rw) : (marksB k rs).length = rs.length := by
  induction rs generalizing k with
  | nil => rfl
  | cons r rs ih => simp [marksB, ih]
theorem endB_le (k : Nat) (rs : List Rw) : k ≤ endB k rs := by
  induction rs generalizing k with
  | nil => exact Nat.le_refl _
  | cons r rs ih => have := ih (k + 2 + 2 * r.2.2.2.length); unfold endB; omega
theorem endB_snoc (k : Nat) (rs : List Rw) (r : Rw) : endB k (rs ++ [r]) = endB k rs + 2 + 2 * r.2.2.2.length := by
  induction rs generalizing k with
  | nil => rfl
  | cons a rs ih => exact ih _
theorem marksB_snoc (k : Nat) (rs : List Rw) (r : Rw) : marksB k (rs ++ [r]) = marksB k rs ++ [(decide (endB k rs % 3 = 0), ((endB k rs + 1 : Nat) : Int), r.2.2.1, marksL (endB k rs + 2) r.2.2.2.length)] := by
  induction rs generalizing k with
  | nil => rfl
  | cons a rs ih =>
    show _ :: marksB _ (rs ++ [r]) = _ :: marksB _ rs ++ _
    rw [ih]
    rfl
theorem endB_take (k : Nat) (rs : List Rw) (j : Nat) : endB k (rs.take j) ≤ endB k rs := by
  induction rs generalizing k j with
  | nil => simp
  | cons r rs ih =>
    cases j with
    | zero => exact endB_le k (r :: rs)
    | succ j => exact ih _ j
theorem marksB_set (k : Nat) (rs : List Rw) (j : Nat) (r : Rw) (h : rs[j]? = some r) : (marksB k (rs.take j) ++ rs.drop j).set j (decide (endB k (rs.take j) % 3 = 0), ((endB k (rs.take j) + 1 : Nat) : Int), r.2.2.1, marksL (endB k (rs.take j) + 2) r.2.2.2.length) = marksB k (rs.take (j + 1)) ++ rs.drop (j + 1) := by
  obtain ⟨h1, h2⟩ := List.getElem?_eq_some_iff.1 h
  have hl : (marksB k (rs.take j)).length = j := by rw [marksB_len, List.length_take]; omega
  rw [List.take_succ_eq_append_getElem h1, h2, marksB_snoc, List.set_append_right _ _ (by omega), hl, Nat.sub_self, List.drop_eq_getElem_cons h1, List.set_cons_zero]
  simp
theorem lcells_set2 (ls : List (Int × ByteArray)) (k j : Nat) (hj : j < ls.length) :
    ((lcells (marksL k j ++ ls.drop j)).set (j * 2) (.int .i64 ((k + 2 * j : Nat) : Int))).set (j * 2 + 1) (.string ⟨(markL (k + 2 * j + 1)).toArray⟩) = lcells (marksL k (j + 1) ++ ls.drop (j + 1)) := by
  have hm : (lcells (marksL k j)).length = j * 2 := by rw [lcells_len, marksL_len]
  have e1 : ∀ r, lcells (ls[j] :: r) = [.int .i64 ls[j].1, .string ls[j].2] ++ lcells r := fun r => lcells_cons _ _
  have e2 : lcells [markLf k j] = [.int .i64 ((k + 2 * j : Nat) : Int), .string ⟨(markL (k + 2 * j + 1)).toArray⟩] := rfl
  rw [marksL_succ, List.drop_eq_getElem_cons hj, lcells_app, lcells_app, lcells_app, e1, e2, List.set_append_right _ _ (by omega), List.set_append_right _ _ (by omega), hm, Nat.sub_self, Nat.add_sub_cancel_left, List.append_assoc]
  rfl

/-- Blocks outside of these bounds. -/
def Apart (lo hi i : Nat) : Prop := ¬ (lo ≤ i ∧ i < hi)

end Go.Proofs.YtcjgjkejhkhknabGreatDoor
