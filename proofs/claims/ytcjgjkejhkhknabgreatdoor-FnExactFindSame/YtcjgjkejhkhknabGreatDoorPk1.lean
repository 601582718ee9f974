/-
  FRow; OpenF; FMark; FMath
-/
import Derived.Test.YtcjgjkejhkhknabGreatDoorPk0
import Derived.Deep.MidRow
import Derived.ProofKit
import Derived.OpenShut
import Derived.ShutString
import Derived.Deep.Strs
import Derived.Deep.Slices
set_option maxRecDepth 100000
namespace Go.Proofs.YtcjgjkejhkhknabGreatDoor
open Go.RowKit
theorem infoLeaf : (Tryz.prog.info? 122).map (fun i => (i.zero, i.size, i.bytes)) = some (some (.agg #[.int .i64 0, .string ⟨#[]⟩]), 2, 24) := by kernel_rfl
theorem infoBlock : (Tryz.prog.info? 89).map (fun i => (i.zero, i.size, i.bytes)) = some (some (.agg #[.bool false, .int .i64 0, .slice none 0 0]), 3, 40) := by kernel_rfl
def lcell (t : Int × ByteArray) : List Value := [.int .i64 t.1, .string t.2]
def lcells (l : List (Int × ByteArray)) : List Value := l.flatMap lcell
theorem lcells_len (l : List (Int × ByteArray)) : (lcells l).length = l.length * 2 := by
 induction l with
 | nil => rfl
 | cons t l ih => simp [lcells, lcell] at ih ⊢; omega
theorem lcells_app (a b : List (Int × ByteArray)) : lcells (a ++ b) = lcells a ++ lcells b := by simp [lcells]
theorem lcells_cons (t : Int × ByteArray) (l : List (Int × ByteArray)) : lcells (t :: l) = [.int .i64 t.1, .string t.2] ++ lcells l := by simp [lcells, lcell]
theorem lcells_at (l : List (Int × ByteArray)) (k : Nat) (t : Int × ByteArray) (h : l[k]? = some t) : (lcells l)[k * 2]? = some (.int .i64 t.1) ∧ (lcells l)[k * 2 + 1]? = some (.string t.2) := by
 induction l generalizing k with
 | nil => simp at h
 | cons a l ih =>
  cases k with
  | zero =>
   simp at h
   subst h
   exact ⟨rfl, rfl⟩
  | succ k =>
   have := ih k (by simpa using h)
   rw [lcells_cons, List.getElem?_append_right (by simp; omega), List.getElem?_append_right (by simp; omega)]
   simp only [List.length_cons, List.length_nil]
   rw [show (k + 1) * 2 - (0 + 1 + 1) = k * 2 by omega, show (k + 1) * 2 + 1 - (0 + 1 + 1) = k * 2 + 1 by omega]
   exact this
theorem lown_cells {w : World} {B n cap g k : Nat} {l : List (Int × ByteArray)} {t : Int × ByteArray} (h : w.ownsRow B 122 2 (.slice (some ⟨g, 0, none⟩) n cap) n (lcells l)) (ht : l[k]? = some t) :
 w.cell? ⟨g, k * 2, none⟩ = some (.int .i64 t.1) ∧ w.cell? ⟨g, k * 2 + 1, none⟩ = some (.string t.2) := by
 obtain ⟨h1, h2⟩ := lcells_at l k t ht
 have c1 := h.cells (g := g) rfl _ _ h1
 have c2 := h.cells (g := g) rfl _ _ h2
 rw [addr_at] at c1 c2
 exact ⟨c1, c2⟩
def kcell (t : Bool × Int × Value) : List Value := [.bool t.1, .int .i64 t.2.1, t.2.2]
def kcells (l : List (Bool × Int × Value)) : List Value := l.flatMap kcell
theorem kcells_len (l : List (Bool × Int × Value)) : (kcells l).length = l.length * 3 := by
 induction l with
 | nil => rfl
 | cons t l ih => simp [kcells, kcell] at ih ⊢; omega
theorem kcells_app (a b : List (Bool × Int × Value)) : kcells (a ++ b) = kcells a ++ kcells b := by simp [kcells]
theorem kcells_cons (t : Bool × Int × Value) (l : List (Bool × Int × Value)) : kcells (t :: l) = [.bool t.1, .int .i64 t.2.1, t.2.2] ++ kcells l := by simp [kcells, kcell]
theorem kcells_at (l : List (Bool × Int × Value)) (k : Nat) (t : Bool × Int × Value) (h : l[k]? = some t) : (kcells l)[k * 3]? = some (.bool t.1) ∧ (kcells l)[k * 3 + 1]? = some (.int .i64 t.2.1) ∧ (kcells l)[k * 3 + 2]? = some t.2.2 := by
 induction l generalizing k with
 | nil => simp at h
 | cons a l ih =>
  cases k with
  | zero =>
   simp at h
   subst h
   exact ⟨rfl, rfl, rfl⟩
  | succ k =>
   have := ih k (by simpa using h)
   rw [kcells_cons, List.getElem?_append_right (by simp; omega), List.getElem?_append_right (by simp; omega), List.getElem?_append_right (by simp; omega)]
   simp only [List.length_cons, List.length_nil]
   rw [show (k + 1) * 3 - (0 + 1 + 1 + 1) = k * 3 by omega, show (k + 1) * 3 + 1 - (0 + 1 + 1 + 1) = k * 3 + 1 by omega, show (k + 1) * 3 + 2 - (0 + 1 + 1 + 1) = k * 3 + 2 by omega]
   exact this
theorem kown_cells {w : World} {B n cap g k : Nat} {l : List (Bool × Int × Value)} {t : Bool × Int × Value} (h : w.ownsRow B 89 3 (.slice (some ⟨g, 0, none⟩) n cap) n (kcells l)) (ht : l[k]? = some t) :
 w.cell? ⟨g, k * 3, none⟩ = some (.bool t.1) ∧ w.cell? ⟨g, k * 3 + 1, none⟩ = some (.int .i64 t.2.1) ∧ w.cell? ⟨g, k * 3 + 2, none⟩ = some t.2.2 := by
 obtain ⟨h1, h2, h3⟩ := kcells_at l k t ht
 have c1 := h.cells (g := g) rfl _ _ h1
 have c2 := h.cells (g := g) rfl _ _ h2
 have c3 := h.cells (g := g) rfl _ _ h3
 rw [addr_at] at c1 c2 c3
 exact ⟨c1, c2, c3⟩
theorem frow_form {w : World} {B : Nat} {e : TypeId} {z : Nat} {v : Value} {n : Nat} {xs : List Value} (h : w.ownsRow B e z v n xs) :
 ∃ ad cap, v = .slice ad n cap ∧ n ≤ cap ∧ cap ≤ maxLen ∧ (0 < n → ∃ g, ad = some ⟨g, 0, none⟩ ∧ B ≤ g ∧ g < w.heap.size) := by
 have hlt := h.lt
 rcases h.2 with ⟨h1, h2⟩ | ⟨g, cap, cur, h1, -, -, h3, h4, -⟩
 ·exact ⟨none, 0, by rw [h1, h2], by omega, by unfold maxLen; omega, fun h => by omega⟩
 ·subst h1
  exact ⟨_, cap, rfl, h3, h4, fun _ => ⟨g, rfl, hlt g rfl⟩⟩
abbrev Rw := Bool × Int × Value × List (Int × ByteArray)
def cellOf (r : Rw) : Bool × Int × Value := (r.1, r.2.1, r.2.2.1)
def tellOf (r : Rw) : Bk := (r.1, r.2.1, r.2.2.2)
def LeafIn (w : World) (lo hi : Nat) (v : Value) (ls : List (Int × ByteArray)) : Prop :=
 w.ownsRow lo 122 2 v ls.length (lcells ls) ∧ ∀ g, v.ownBlock = some g → g < hi
def FlashIn (w : World) (lo hi : Nat) (v : Value) (rs : List Rw) : Prop :=
 w.ownsRow lo 89 3 v rs.length (kcells (rs.map cellOf)) ∧ (∀ g, v.ownBlock = some g → g < hi) ∧ (∀ r ∈ rs, LeafIn w lo hi r.2.2.1 r.2.2.2) ∧
  (rs.map fun r => r.2.2.1).Pairwise (fun a b => a.ownBlock = none ∨ a.ownBlock ≠ b.ownBlock)
theorem own_blocks {w w' : World} {lo hi : Nat} {e : TypeId} {size : Nat} {v : Value} {n : Nat} {xs : List Value} (h : w.ownsRow lo e size v n xs) (hh : ∀ g, v.ownBlock = some g → g < hi) (hk : ∀ g, lo ≤ g → g < hi → w'.heap[g]? = w.heap[g]?) : w'.ownsRow lo e size v n xs := by
 have hlt := h.lt
 obtain ⟨h1, h2⟩ := h
 refine ⟨h1, ?_⟩
 rcases h2 with h | ⟨g, cap, cur, rfl, a2, a3, a4⟩
 ·exact .inl h
 ·exact .inr ⟨g, cap, cur, rfl, a2, by rw [hk g a2 (hh g rfl)]; exact a3, a4⟩
theorem LeafIn.kept {w w' : World} {lo hi : Nat} {v : Value} {ls : List (Int × ByteArray)} (h : LeafIn w lo hi v ls) (hk : ∀ g, lo ≤ g → g < hi → w'.heap[g]? = w.heap[g]?) : LeafIn w' lo hi v ls := ⟨own_blocks h.1 h.2 hk, h.2⟩
theorem FlashIn.kept {w w' : World} {lo hi : Nat} {v : Value} {rs : List Rw} (h : FlashIn w lo hi v rs) (hk : ∀ g, lo ≤ g → g < hi → w'.heap[g]? = w.heap[g]?) : FlashIn w' lo hi v rs :=
 ⟨own_blocks h.1 h.2.1 hk, h.2.1, fun r hr => (h.2.2.1 r hr).kept hk, h.2.2.2⟩
theorem FlashIn.below {w w' : World} {lo hi : Nat} {v : Value} {rs : List Rw} (h : FlashIn w lo hi v rs) (hb : Below w.heap.size w w') (hh : hi ≤ w.heap.size) : FlashIn w' lo hi v rs := h.kept (fun g _ hg => hb.block g (by omega))
theorem LeafIn.below {w w' : World} {lo hi : Nat} {v : Value} {ls : List (Int × ByteArray)} (h : LeafIn w lo hi v ls) (hb : Below w.heap.size w w') (hh : hi ≤ w.heap.size) : LeafIn w' lo hi v ls := h.kept (fun g _ hg => hb.block g (by omega))
theorem LeafIn.up {w : World} {lo hi hi' : Nat} {v : Value} {ls : List (Int × ByteArray)} (h : LeafIn w lo hi v ls) (hh : hi ≤ hi') : LeafIn w lo hi' v ls := ⟨h.1, fun g hg => Nat.lt_of_lt_of_le (h.2 g hg) hh⟩
theorem leaf_not_block {w : World} {B B' : Nat} {u v : Value} {n m : Nat} {xs ys : List Value} (hu : w.ownsRow B 89 3 u n xs) (hv : w.ownsRow B' 122 2 v m ys) : ∀ g, u.ownBlock = some g → v.ownBlock ≠ some g := by
 intro g h1 h2
 rcases hu.2 with ⟨rfl, -⟩ | ⟨g1, cap, cur, rfl, -, e1, -⟩
 ·cases h1
 ·rcases hv.2 with ⟨rfl, -⟩ | ⟨g2, cap2, cur2, rfl, -, e2, -⟩
  ·cases h2
  ·simp [Value.ownBlock] at h1 h2
   subst h1 h2
   rw [e1] at e2
   simp at e2
theorem leaf_ne {w : World} {B B' : Nat} {g n cq m : Nat} {v : Value} {xs ys : List Value} (hu : w.ownsRow B 89 3 (.slice (some ⟨g, 0, none⟩) n cq) n xs) (hv : w.ownsRow B' 122 2 v m ys) : v.ownBlock = none ∨ v.ownBlock ≠ some g := Or.inr (leaf_not_block hu hv g rfl)
end Go.Proofs.YtcjgjkejhkhknabGreatDoor
namespace Go.Proofs.YtcjgjkejhkhknabGreatDoor
open Go.ChangeShapes Go.WideShapes Go.ChangeAt Go.RowKit Go.Deep
def LfRow (w : World) (a : Option Addr) (len : Nat) (ls : List (Int × ByteArray)) : Prop :=
 ls.length = len ∧ len ≤ maxLen ∧ (∀ t ∈ ls, t.2.size ≤ maxLen) ∧ (0 < len → ∃ b off, a = some ⟨b, off, none⟩ ∧ b < w.heap.size ∧ ∀ i t, ls[i]? = some t →
  w.cell? ⟨b, off + i * 2, none⟩ = some (.int .i64 t.1) ∧ w.cell? ⟨b, off + i * 2 + 1, none⟩ = some (.string t.2))
def BkOne (w : World) (r : Rw) : Prop := ∃ a n cap, r.2.2.1 = .slice a n cap ∧ LfRow w a n r.2.2.2
def BkRow (w : World) (a : Option Addr) (len : Nat) (rs : List Rw) : Prop :=
 rs.length = len ∧ len ≤ maxLen ∧ (∀ r ∈ rs, BkOne w r) ∧ (0 < len → ∃ b off, a = some ⟨b, off, none⟩ ∧ b < w.heap.size ∧ ∀ i r, rs[i]? = some r →
  w.cell? ⟨b, off + i * 3, none⟩ = some (.bool r.1) ∧ w.cell? ⟨b, off + i * 3 + 1, none⟩ = some (.int .i64 r.2.1) ∧ w.cell? ⟨b, off + i * 3 + 2, none⟩ = some r.2.2.1)
theorem LfRow.below {w w' : World} {a : Option Addr} {len : Nat} {ls : List (Int × ByteArray)} (h : LfRow w a len ls) (hb : Below w.heap.size w w') : LfRow w' a len ls := by
 refine ⟨h.1, h.2.1, h.2.2.1, fun h0 => ?_⟩
 obtain ⟨b, off, e, hlt, hc⟩ := h.2.2.2 h0
 refine ⟨b, off, e, Nat.lt_of_lt_of_le hlt hb.size, fun i t ht => ?_⟩
 have := hc i t ht
 rw [hb.cell (p := ⟨b, _, none⟩) hlt, hb.cell (p := ⟨b, _, none⟩) hlt]
 exact this
theorem BkOne.below {w w' : World} {r : Rw} (h : BkOne w r) (hb : Below w.heap.size w w') : BkOne w' r := by
 obtain ⟨a, n, cap, e, hl⟩ := h
 exact ⟨a, n, cap, e, hl.below hb⟩
theorem BkRow.below {w w' : World} {a : Option Addr} {len : Nat} {rs : List Rw} (h : BkRow w a len rs) (hb : Below w.heap.size w w') : BkRow w' a len rs := by
 refine ⟨h.1, h.2.1, fun r hr => (h.2.2.1 r hr).below hb, fun h0 => ?_⟩
 obtain ⟨b, off, e, hlt, hc⟩ := h.2.2.2 h0
 refine ⟨b, off, e, Nat.lt_of_lt_of_le hlt hb.size, fun i t ht => ?_⟩
 have := hc i t ht
 rw [hb.cell (p := ⟨b, _, none⟩) hlt, hb.cell (p := ⟨b, _, none⟩) hlt, hb.cell (p := ⟨b, _, none⟩) hlt]
 exact this
section
variable {H : Type} {enc : TypeId × Value → H} {w : World} {base : Nat} {sp : Nat → Bool} {held : Bool}
theorem fcells9 : Tryz.prog.cellsOf 9 = 1 := by kernel_rfl
theorem fcells3 : Tryz.prog.cellsOf 3 = 1 := by kernel_rfl
theorem fcells4 : Tryz.prog.cellsOf 4 = 1 := by kernel_rfl
theorem fcellsLs : Tryz.prog.cellsOf 82 = 1 := by kernel_rfl
theorem fcellsLf : Tryz.prog.cellsOf 151 = 2 := by kernel_rfl
theorem fcellsBk : Tryz.prog.cellsOf 84 = 3 := by kernel_rfl
theorem faddr_off (b off j : Nat) : (⟨b, off, none⟩ : Addr).add j = ⟨b, off + j, none⟩ := by
 simp only [Addr.add]
 split <;> simp_all
theorem open_leaves {fuel : Nat} {cs : List Value} {x : DataW H × List MemPlace} (hf : DataW.trod enc Tryz.prog w base sp held fuel 82 cs = some x) : ∃ a len cap ls, cs = [.slice a len cap] ∧ LfRow w a len ls := by
 rcases open_slice Tryz.underlying82 hf with ⟨hcs, _⟩ | ⟨x, len, c, m, n, D, Pl, hcs, _, hl, hm, hmm, _, hx⟩
 ·exact ⟨none, 0, 0, [], hcs, rfl, by omega, by simp, fun h => by omega⟩
 ·have hlm : len ≤ m := by rw [hmm]; split <;> omega
  have each : ∀ i, i < len → ∃ t : Int × ByteArray, w.cell? (x.add (i * 2)) = some (.int .i64 t.1) ∧ w.cell? (x.add (i * 2 + 1)) = some (.string t.2) ∧ t.2.size ≤ maxLen := by
   intro i hi
   obtain ⟨cs, h1, h2⟩ := hx i (by omega)
   rw [fcellsLf] at h1
   obtain ⟨_, hlen, hcell⟩ := World.cells?_some h1
   obtain ⟨y0, y1, k, _, _, g0, g1⟩ := trod_struct2 Tryz.underlying151 h2
   simp only [fcells9, fcells3] at g0 g1
   match cs, hlen with
   | [u, v], _ =>
    obtain ⟨p, e0, _, _⟩ := DataW.trod_int Tryz.underlying3 g0
    obtain ⟨s, e1, _, hs⟩ := DataW.trod_string Tryz.underlying9 g1
    simp at e0 e1
    subst e0 e1
    have f0 := hcell 0 (by simp)
    have f1 := hcell 1 (by simp)
    rw [add_add] at f0 f1
    exact ⟨(p, s), by simpa using f0, by simpa using f1, hs⟩
  obtain ⟨f, hq⟩ := choose_lt each
  refine ⟨some x, len, c, (List.range len).map f, hcs, by simp, by omega, ?_, fun h0 => ?_⟩
  ·intro t ht
   obtain ⟨i, hi, rfl⟩ := List.mem_map.1 ht
   exact (hq i (List.mem_range.1 hi)).2.2
  ·obtain ⟨b, off, spot⟩ := x
   have hspot : spot = none := by simpa [Addr.add] using World.cell?_spot (hq 0 h0).1
   subst hspot
   refine ⟨b, off, rfl, ?_, fun i t hi => ?_⟩
   ·have := World.block_lt_of_cell? w _ (hq 0 h0).1
    rw [faddr_off] at this
    exact this
   ·obtain ⟨hi1, hi2⟩ := List.getElem?_eq_some_iff.1 hi
    have hil : i < len := by simpa using hi1
    have ht : t = f i := by rw [← hi2]; simp
    subst ht
    have := hq i hil
    rw [faddr_off, faddr_off] at this
    exact ⟨this.1, this.2.1⟩
theorem open_block {fuel : Nat} {cs : List Value} {x : DataW H × List MemPlace} (hf : DataW.trod enc Tryz.prog w base sp held fuel 84 cs = some x) : ∃ r : Rw, cs = [.bool r.1, .int .i64 r.2.1, r.2.2.1] ∧ BkOne w r := by
 obtain ⟨y0, y1, y2, k, _, hlen, g0, g1, g2⟩ := trod_struct3 Tryz.underlying84 hf
 simp only [fcells4, fcells3, fcellsLs] at g0 g1 g2
 rw [fcellsBk] at hlen
 match cs, hlen with
 | [u, v, z], _ =>
  obtain ⟨p, e0, _⟩ := DataW.trod_bool Tryz.underlying4 g0
  obtain ⟨q, e1, _, _⟩ := DataW.trod_int Tryz.underlying3 g1
  obtain ⟨a, n, cap, ls, e2, hl⟩ := open_leaves g2
  simp at e0 e1 e2
  subst e0 e1 e2
  exact ⟨(p, q, .slice a n cap, ls), rfl, a, n, cap, rfl, hl⟩
theorem open_blocks {fuel : Nat} {cs : List Value} {x : DataW H × List MemPlace} (hf : DataW.trod enc Tryz.prog w base sp held fuel 22 cs = some x) : ∃ a len cap rs, cs = [.slice a len cap] ∧ BkRow w a len rs := by
 rcases open_slice Tryz.underlying22 hf with ⟨hcs, _⟩ | ⟨x, len, c, m, n, D, Pl, hcs, _, hl, hm, hmm, _, hx⟩
 ·exact ⟨none, 0, 0, [], hcs, rfl, by omega, by simp, fun h => by omega⟩
 ·have hlm : len ≤ m := by rw [hmm]; split <;> omega
  have each : ∀ i, i < len → ∃ r : Rw, w.cell? (x.add (i * 3)) = some (.bool r.1) ∧ w.cell? (x.add (i * 3 + 1)) = some (.int .i64 r.2.1) ∧ w.cell? (x.add (i * 3 + 2)) = some r.2.2.1 ∧ BkOne w r := by
   intro i hi
   obtain ⟨cs, h1, h2⟩ := hx i (by omega)
   rw [fcellsBk] at h1
   obtain ⟨_, hlen, hcell⟩ := World.cells?_some h1
   obtain ⟨r, rfl, hr⟩ := open_block h2
   have f0 := hcell 0 (by simp)
   have f1 := hcell 1 (by simp)
   have f2 := hcell 2 (by simp)
   rw [add_add] at f0 f1 f2
   exact ⟨r, by simpa using f0, by simpa using f1, by simpa using f2, hr⟩
  haveI : Inhabited Rw := ⟨(false, 0, .slice none 0 0, [])⟩
  obtain ⟨f, hq⟩ := choose_lt each
  refine ⟨some x, len, c, (List.range len).map f, hcs, by simp, by omega, ?_, fun h0 => ?_⟩
  ·intro t ht
   obtain ⟨i, hi, rfl⟩ := List.mem_map.1 ht
   exact (hq i (List.mem_range.1 hi)).2.2.2
  ·obtain ⟨b, off, spot⟩ := x
   have hspot : spot = none := by simpa [Addr.add] using World.cell?_spot (hq 0 h0).1
   subst hspot
   refine ⟨b, off, rfl, ?_, fun i t hi => ?_⟩
   ·have := World.block_lt_of_cell? w _ (hq 0 h0).1
    rw [faddr_off] at this
    exact this
   ·obtain ⟨hi1, hi2⟩ := List.getElem?_eq_some_iff.1 hi
    have hil : i < len := by simpa using hi1
    have ht : t = f i := by rw [← hi2]; simp
    subst ht
    have := hq i hil
    rw [faddr_off, faddr_off, faddr_off] at this
    exact ⟨this.1, this.2.1, this.2.2.1⟩
theorem open_flash {r : Reach} {b0 : Nat} {v : Value} {d : DataW H} {ps : List MemPlace} (hval : Value.okWide Tryz.prog w r b0 24 v) (hd : DataW.Trod enc Tryz.prog w base sp held 24 v d ps) : ∃ a len cap rs, v = .agg #[.slice a len cap] ∧ BkRow w a len rs := by
 obtain ⟨cs, rfl, hcs⟩ := okWide_struct Tryz.underlying24 hval
 obtain ⟨fuel, hf⟩ := hd
 obtain ⟨y0, k, _, hlen, g0⟩ := trod_struct1 Tryz.underlying24 hf
 obtain ⟨a, len, cap, rs, e, hr⟩ := open_blocks g0
 refine ⟨a, len, cap, rs, ?_, hr⟩
 have h1 : Tryz.prog.cellsOf 24 = 1 := by kernel_rfl
 have h2 : Tryz.prog.cellsOf 22 = 1 := by kernel_rfl
 rw [h1] at hcs
 rw [h2] at e
 match cs, hcs with
 | ⟨[u]⟩, _ =>
  simp [Value.cells] at e
  subst e
  rfl
end
end Go.Proofs.YtcjgjkejhkhknabGreatDoor
namespace Go.Proofs.YtcjgjkejhkhknabGreatDoor
open Go.RowKit
def endB : Nat → List Rw → Nat
 | k, [] => k
 | k, r :: rs => endB (k + 2 + 2 * r.2.2.2.length) rs
theorem endB_le (k : Nat) (rs : List Rw) : k ≤ endB k rs := by
 induction rs generalizing k with
 | nil => exact Nat.le_refl _
 | cons r rs ih => have := ih (k + 2 + 2 * r.2.2.2.length); unfold endB; omega
theorem endB_snoc (k : Nat) (rs : List Rw) (r : Rw) : endB k (rs ++ [r]) = endB k rs + 2 + 2 * r.2.2.2.length := by
 induction rs generalizing k with
 | nil => rfl
 | cons a rs ih => exact ih _
end Go.Proofs.YtcjgjkejhkhknabGreatDoor
namespace Go.Proofs.YtcjgjkejhkhknabGreatDoor
def Tx (ls : List (Int × ByteArray)) : Prop := ∀ t ∈ ls, t.2.size ≤ 1048576
def TxB (rs : List Rw) : Prop := ∀ r ∈ rs, Tx r.2.2.2
theorem Tx.succ {ls : List (Int × ByteArray)} {k : Nat} {t : Int × ByteArray} (h : Tx (ls.take k)) (ht : ls[k]? = some t) (hs : t.2.size ≤ 1048576) : Tx (ls.take (k + 1)) := by
 obtain ⟨h1, h2⟩ := List.getElem?_eq_some_iff.1 ht
 rw [List.take_succ_eq_append_getElem h1, h2]
 intro u hu
 rcases List.mem_append.1 hu with hu | hu
 ·exact h u hu
 ·rw [List.mem_singleton] at hu
  subst hu
  exact hs
theorem TxB.succ {rs : List Rw} {k : Nat} {r : Rw} (h : TxB (rs.take k)) (hr : rs[k]? = some r) (hs : Tx r.2.2.2) : TxB (rs.take (k + 1)) := by
 obtain ⟨h1, h2⟩ := List.getElem?_eq_some_iff.1 hr
 rw [List.take_succ_eq_append_getElem h1, h2]
 intro u hu
 rcases List.mem_append.1 hu with hu | hu
 ·exact h u hu
 ·rw [List.mem_singleton] at hu
  subst hu
  exact hs
end Go.Proofs.YtcjgjkejhkhknabGreatDoor
