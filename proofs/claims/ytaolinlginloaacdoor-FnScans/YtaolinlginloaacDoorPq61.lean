/-
  Tk; MtConv; HexMath; DecMath; MarkTx
-/
import Derived.Test.YtaolinlginloaacDoorPq32
import Derived.Test.YtaolinlginloaacDoorPq8
import Derived.Test.YtaolinlginloaacDoorPq0
import Derived.Lib.ItoaNum
import Derived.Lib.ItoaMem
import Derived.Lib.ItoaLen
/-
  What a law holds while it goes on: things that lie in blocks of their own.
-/
namespace Go.Proofs.YtaolinlginloaacDoor
open Go.RowKit

/-- What hangs on the blocks from lo on and below hi alone. -/
def Loc (lo hi : Nat) (P : World → Prop) : Prop := ∀ w w' : World, (∀ g, lo ≤ g → g < hi → w'.heap[g]? = w.heap[g]?) → P w → P w'
/-- Such a thing. -/
abbrev Hold := Nat × Nat × (World → Prop)
def Tk (w wi : World) (hs : List Hold) : Prop := Below w.heap.size w wi ∧ ∀ h ∈ hs, h.2.1 ≤ wi.heap.size ∧ Loc h.1 h.2.1 h.2.2 ∧ h.2.2 wi
theorem Tk.start (w : World) : Tk w w [] := ⟨Below.refl _ _, fun _ h => by cases h⟩
theorem Tk.below {w wi wj : World} {hs : List Hold} (h : Tk w wi hs) (hb : Below wi.heap.size wi wj) : Tk w wj hs := by
  refine ⟨h.1.trans (hb.mono h.1.size), fun x hx => ?_⟩
  obtain ⟨h1, h2, h3⟩ := h.2 x hx
  have := hb.size
  exact ⟨by omega, h2, h2 wi wj (fun g _ hg => hb.block g (by omega)) h3⟩
theorem Tk.drew {w wi : World} {hs : List Hold} (h : Tk w wi hs) : Tk w wi.drew hs := h.below (Below.refl _ _).drew
theorem Tk.drewN {w wi : World} {hs : List Hold} (h : Tk w wi hs) (n : Nat) : Tk w (wi.drewN n) hs := h.below (below_drewN (Below.refl _ _) n)
theorem Tk.get {w wi : World} {hs : List Hold} (h : Tk w wi hs) (n : Nat) {lo hi : Nat} {P : World → Prop} (hn : hs[n]? = some (lo, hi, P)) : P wi := (h.2 _ (List.mem_of_getElem? hn)).2.2
theorem Tk.hi {w wi : World} {hs : List Hold} (h : Tk w wi hs) (n : Nat) {lo hi : Nat} {P : World → Prop} (hn : hs[n]? = some (lo, hi, P)) : hi ≤ wi.heap.size := (h.2 _ (List.mem_of_getElem? hn)).1
theorem Tk.add {w wi wj : World} {hs : List Hold} (h : Tk w wi hs) (hb : Below wi.heap.size wi wj) {P : World → Prop} (hl : Loc wi.heap.size wj.heap.size P) (hp : P wj) : Tk w wj ((wi.heap.size, wj.heap.size, P) :: hs) := by
  obtain ⟨h1, h2⟩ := h.below hb
  refine ⟨h1, fun x hx => ?_⟩
  rcases List.mem_cons.1 hx with rfl | hx
  · exact ⟨Nat.le_refl _, hl, hp⟩
  · exact h2 x hx
/-- Something more is known. -/
theorem Tk.put {w wi : World} {hs : List Hold} (h : Tk w wi hs) {lo hi : Nat} {P : World → Prop} (hh : hi ≤ wi.heap.size) (hl : Loc lo hi P) (hp : P wi) : Tk w wi ((lo, hi, P) :: hs) := by
  refine ⟨h.1, fun x hx => ?_⟩
  rcases List.mem_cons.1 hx with rfl | hx
  · exact ⟨hh, hl, hp⟩
  · exact h.2 x hx
/-- A row of cells in a block. -/
def Cel (b : Nat) (cs : Array Value) (t : TypeId) : World → Prop := fun W => W.heap[b]? = some (.cells cs t (0, 0))
theorem Cel.loc (b : Nat) (cs : Array Value) (t : TypeId) : Loc b (b + 1) (Cel b cs t) := fun _ _ hk h => (hk b (Nat.le_refl _) (by omega)).trans h
theorem Tk.cell {w wi : World} {hs : List Hold} (h : Tk w wi hs) (cs : Array Value) (t : TypeId) : Tk w (wi.alloc (.cells cs t)) ((wi.heap.size, wi.heap.size + 1, Cel wi.heap.size cs t) :: hs) := by
  have hz : (wi.alloc (.cells cs t)).heap.size = wi.heap.size + 1 := by simp
  have := h.add ((Below.refl _ _).alloc (Nat.le_refl _) (.cells cs t)) (P := Cel wi.heap.size cs t) (by rw [hz]; exact Cel.loc _ _ _) (heap_alloc_new wi _)
  rw [hz] at this
  exact this
theorem Tk.at {w wi : World} {hs : List Hold} (h : Tk w wi hs) (n : Nat) {lo hi b : Nat} {cs : Array Value} {t : TypeId} (k : Nat) {v : Value} (hn : hs[n]? = some (lo, hi, Cel b cs t)) (hk : cs[k]? = some v) : wi.cell? ⟨b, k, none⟩ = some v := by
  rw [cell_of_row _ _ k _ _ _ (h.get n hn)]
  exact hk
theorem Tk.fr {w wi : World} {hs : List Hold} (h : Tk w wi hs) (n : Nat) {lo hi b : Nat} {cs : Array Value} {t : TypeId} (k : Nat) (hn : hs[n]? = some (lo, hi, Cel b cs t)) : wi.frozen? ⟨b, k, none⟩ = false := frozen_of_row _ _ k _ _ (h.get n hn)
theorem Tk.drop {w wi : World} {hs hs' : List Hold} (h : Tk w wi hs) (hh : ∀ x ∈ hs', x ∈ hs) : Tk w wi hs' := ⟨h.1, fun x hx => h.2 x (hh x hx)⟩
/-- A cell is written: all that lie in other blocks stay. -/
theorem Tk.write {w wi : World} {hs hs' : List Hold} {lo hi b : Nat} {v : Value} {t : TypeId} (h : Tk w wi hs) (n : Nat) (hn : hs[n]? = some (lo, hi, Cel b #[v] t)) (hb : w.heap.size ≤ b) (u : Value) (hh : ∀ x ∈ hs', x ∈ hs ∧ (x.2.1 ≤ b ∨ b + 1 ≤ x.1)) :
    Tk w (wi.setCell ⟨b, 0, none⟩ u) ((b, b + 1, Cel b #[u] t) :: hs') := by
  have hc := h.get n hn
  have hlt := (Array.getElem?_eq_some_iff.1 hc).1
  have hq : Cel b #[u] t (wi.setCell ⟨b, 0, none⟩ u) := by
    show (wi.setCell ⟨b, 0, none⟩ u).heap[b]? = _
    rw [setCell_eq_setRow wi b 0 #[v] t (0, 0) u hc]
    exact setRow_heap wi b #[v] _ t _ hc
  have hs := h.1.size
  have hz : (wi.setCell ⟨b, 0, none⟩ u).heap.size = wi.heap.size := by simp [World.setCell]
  refine ⟨h.1.setCell (p := ⟨b, 0, none⟩) hb u, fun x hx => ?_⟩
  rcases List.mem_cons.1 hx with rfl | hx
  · exact ⟨by rw [hz]; exact hlt, Cel.loc _ _ _, hq⟩
  · obtain ⟨hx1, hx2⟩ := hh x hx
    obtain ⟨h1, h2, h3⟩ := h.2 x hx1
    exact ⟨by rw [hz]; exact h1, h2, h2 wi _ (fun g g1 g2 => Below.heap_setCell _ _ _ _ (fun (e : g = b) => by omega)) h3⟩
/-- Another reading of one of them. -/
theorem Tk.as {w wi : World} {hs : List Hold} (h : Tk w wi hs) (n : Nat) {lo hi : Nat} {P Q : World → Prop} (hn : hs[n]? = some (lo, hi, P)) (hl : Loc lo hi Q) (hq : Q wi) : Tk w wi ((lo, hi, Q) :: hs) := by
  refine ⟨h.1, fun x hx => ?_⟩
  rcases List.mem_cons.1 hx with rfl | hx
  · exact ⟨h.hi n hn, hl, hq⟩
  · exact h.2 x hx
/-- A range of blocks. -/
def Apt (lo hi i : Nat) : Prop := ¬ (lo ≤ i ∧ i < hi)
/-- One of them is changed: all that lie apart from it stay. -/
theorem Tk.touch {w wi wj : World} {hs hs' : List Hold} {lo hi : Nat} {Q : World → Prop} (h : Tk w wi hs) (hk : Kept2 wi wj (Apt lo hi)) (hlo : w.heap.size ≤ lo) (hhi : hi ≤ wi.heap.size) (hl : Loc lo hi Q) (hq : Q wj)
    (hh : ∀ x ∈ hs', x ∈ hs ∧ (x.2.1 ≤ lo ∨ hi ≤ x.1)) : Tk w wj ((lo, hi, Q) :: hs') := by
  have hs := hk.2.2.2.1
  have hs1 := h.1.size
  refine ⟨h.1.trans (hk.down h.1.size (fun i hi' hq => by omega)), fun x hx => ?_⟩
  rcases List.mem_cons.1 hx with rfl | hx
  · exact ⟨by show hi ≤ _; omega, hl, hq⟩
  · obtain ⟨hx1, hx2⟩ := hh x hx
    obtain ⟨h1, h2, h3⟩ := h.2 x hx1
    exact ⟨by omega, h2, h2 wi wj (fun g g1 g2 => hk.2.2.2.2 g (by omega) (fun hz => by omega)) h3⟩
/-- .. and nothing of it is kept. -/
theorem Tk.spoil {w wi wj : World} {hs hs' : List Hold} {lo hi : Nat} (h : Tk w wi hs) (hk : Kept2 wi wj (Apt lo hi)) (hlo : w.heap.size ≤ lo) (hhi : hi ≤ wi.heap.size) (hh : ∀ x ∈ hs', x ∈ hs ∧ (x.2.1 ≤ lo ∨ hi ≤ x.1)) : Tk w wj hs' :=
  (h.touch hk hlo hhi (Q := fun _ => True) (fun _ _ _ _ => trivial) trivial hh).drop (fun _ hx => List.mem_cons_of_mem _ hx)
/-- A new cell, its block by name. -/
theorem Tk.celln {w wi : World} {hs : List Hold} (h : Tk w wi hs) {n : Nat} (hn : wi.heap.size = n) (cs : Array Value) (t : TypeId) : Tk w (wi.alloc (.cells cs t)) ((n, n + 1, Cel n cs t) :: hs) := by
  subst hn
  exact h.cell cs t
theorem alloc_size {w : World} {n : Nat} (hn : w.heap.size = n) (o : Obj) : (w.alloc o).heap.size = n + 1 := by simp [hn]
theorem Tk.two (w : World) (c1 c2 : Array Value) (t1 t2 : TypeId) : Tk w ((w.alloc (.cells c1 t1)).alloc (.cells c2 t2)) [(w.heap.size + 1, w.heap.size + 1 + 1, Cel (w.heap.size + 1) c2 t2), (w.heap.size, w.heap.size + 1, Cel w.heap.size c1 t1)] :=
  ((Tk.start w).celln rfl c1 t1).celln (alloc_size rfl _) c2 t2
theorem Tk.three (w : World) (c1 c2 c3 : Array Value) (t1 t2 t3 : TypeId) : Tk w (((w.alloc (.cells c1 t1)).alloc (.cells c2 t2)).alloc (.cells c3 t3)) [(w.heap.size + 1 + 1, w.heap.size + 1 + 1 + 1, Cel (w.heap.size + 1 + 1) c3 t3), (w.heap.size + 1, w.heap.size + 1 + 1, Cel (w.heap.size + 1) c2 t2), (w.heap.size, w.heap.size + 1, Cel w.heap.size c1 t1)] :=
  (Tk.two w c1 c2 t1 t2).celln (alloc_size (alloc_size rfl _) _) c3 t3
end Go.Proofs.YtaolinlginloaacDoor

/-
  One byte made a text, and put ahead of one.
-/
namespace Go.Proofs.YtaolinlginloaacDoor
open Go.RowKit

theorem mt_conv (w : World) (c : UInt8) (x : Int) (h : (c.toNat : Int) = x) :
    (convert 32 9 (.slice (some ⟨w.heap.size, 0, none⟩) 1 1)).run Tryd.prog (w.alloc (.cells #[.int .u8 x] 5)) = .ok (.string ⟨#[c]⟩) (w.alloc (.cells #[.int .u8 x] 5)) := by
  subst h
  exact run_convert_bytes_back (P := Tryd.prog) (w.alloc (.cells #[.int .u8 c.toNat] 5)) 32 9 5 ⟨w.heap.size, 0, none⟩ 1 [c] Tryd.underlying32 Tryd.underlying5 Tryd.underlying9
    (fun j hj => by
      have : j = 0 := by simpa using hj
      subst this
      exact one_cell w _ 5 0 _ rfl)
theorem mt_cons (c : UInt8) (l : List UInt8) : Value.string (⟨#[c]⟩ ++ ⟨l.toArray⟩) = .string ⟨(c :: l).toArray⟩ := by
  rw [show (#[c] : Array UInt8) = [c].toArray from rfl, ByteArray.mk_append_mk]; rfl
end Go.Proofs.YtaolinlginloaacDoor

/-
  Plain facts on figures: no Go in them.
-/
namespace Go.Proofs.YtaolinlginloaacDoor.Words

/-- A figure's byte, as a number. -/
def figZ (x : Int) : Int := if x < 10 then 48 + x else 97 + x - 10
def fig (x : Nat) : UInt8 := UInt8.ofNat (figZ x).toNat
theorem figZ_bd (x : Int) (h0 : 0 ≤ x) (h1 : x < 16) : 48 ≤ figZ x ∧ figZ x ≤ 102 := by unfold figZ; split <;> omega
theorem fig_nat (x : Nat) (h1 : x < 16) : ((fig x).toNat : Int) = figZ x := by
  have := figZ_bd x (by omega) (by omega)
  unfold fig
  rw [UInt8.toNat_ofNat']
  omega

def hexL : List UInt8 → List UInt8
  | [] => []
  | c :: r => fig (c.toNat / 16) :: fig (c.toNat % 16) :: hexL r
theorem hexL_snoc (l : List UInt8) (c : UInt8) : hexL (l ++ [c]) = hexL l ++ [fig (c.toNat / 16), fig (c.toNat % 16)] := by
  induction l with
  | nil => rfl
  | cons a l ih => simp [hexL, ih]
theorem hexL_len (l : List UInt8) : (hexL l).length = 2 * l.length := by
  induction l with
  | nil => rfl
  | cons a l ih => simp [hexL, ih]; omega
theorem hexL_take (l : List UInt8) (k : Nat) (h : k < l.length) : hexL (l.take (k + 1)) = hexL (l.take k) ++ [fig (l[k].toNat / 16), fig (l[k].toNat % 16)] := by
  rw [List.take_succ_eq_append_getElem h, hexL_snoc]
end Go.Proofs.YtaolinlginloaacDoor.Words

/-
  Plain facts on decimal figures: no Go in them.
-/
namespace Go.Proofs.YtaolinlginloaacDoor.Words
open Go.Lib (decDigits itoa)

/-- The figures ahead of those that were written. -/
def pre (m : Nat) : List UInt8 := if m = 0 then [] else decDigits m
theorem pre_zero : pre 0 = [] := rfl
theorem pre_pos (m : Nat) (h : 0 < m) : pre m = decDigits m := by rw [pre, if_neg (by omega)]
theorem pre_step (m : Nat) (h : 0 < m) : pre m = pre (m / 10) ++ [fig (m % 10)] := by
  have hf : fig (m % 10) = UInt8.ofNat (48 + m % 10) := by
    unfold fig figZ
    rw [if_pos (by omega)]
    congr 1
  rw [pre_pos m h, decDigits]
  by_cases h10 : m < 10
  · rw [dif_pos h10, show m / 10 = 0 by omega, pre_zero, hf, Nat.mod_eq_of_lt h10]; rfl
  · rw [dif_neg h10, pre_pos (m / 10) (by omega), hf]
theorem dacc_step {m u : Nat} {acc : List UInt8} (h : pre m ++ acc = decDigits u) (hm : 0 < m) : pre (m / 10) ++ (fig (m % 10) :: acc) = decDigits u := by
  rw [← h, pre_step m hm]; simp
theorem dacc_len {m u : Nat} {acc : List UInt8} (h : pre m ++ acc = decDigits u) (hu : u ≤ 9223372036854775808) : acc.length ≤ 21 := by
  have h1 := congrArg List.length h
  have h2 : (decDigits u).length ≤ 21 := by
    by_cases h0 : u = 0
    · subst h0
      have := Go.Lib.itoa_length_le 0 (by omega) (by omega)
      rw [show (0 : Int) = ((0 : Nat) : Int) from rfl, Go.Lib.itoa_nonneg] at this
      exact this
    · have := Go.Lib.itoa_length_le (-(u : Int)) (by omega) (by omega)
      rw [Go.Lib.itoa_neg u (by omega)] at this
      simp at this
      omega
  simp at h1
  omega
theorem tmod_neg (m : Nat) : (-(m : Int)).tmod 10 = -((m % 10 : Nat) : Int) := by
  rw [Int.neg_tmod, Int.tmod_eq_emod_of_nonneg (by omega)]; rfl
theorem tdiv_neg (m : Nat) : (-(m : Int)).tdiv 10 = -((m / 10 : Nat) : Int) := by
  rw [Int.neg_tdiv, Int.tdiv_eq_ediv_of_nonneg (by omega)]; rfl
theorem dec_zero : decDigits 0 = [48] := by rw [decDigits, dif_pos (by omega)]; rfl
end Go.Proofs.YtaolinlginloaacDoor.Words

/-
  The walk of the law's own mark of a number.
-/
namespace Go.Proofs.YtaolinlginloaacDoor
open Go.RowKit
open Words
open Go.Lib (decDigits)

/-- The mark of a number. -/
def markL (k : Nat) : List UInt8 := 109 :: decDigits k
theorem fig48 (m : Nat) : ((fig (m % 10)).toNat : Int) = 48 + (m : Int) % 10 := by
  rw [fig_nat (m % 10) (by omega)]
  unfold figZ
  rw [if_pos (by omega)]
  omega
end Go.Proofs.YtaolinlginloaacDoor
