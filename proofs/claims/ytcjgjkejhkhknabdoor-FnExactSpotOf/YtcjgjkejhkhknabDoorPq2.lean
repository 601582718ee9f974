/-
  OpenF; MtConv; HexMath; DecMath; MarkTx
-/
import Derived.Test.YtcjgjkejhkhknabDoorFRow
import Derived.ProofKit
import Derived.OpenShut
import Derived.ShutString
import Derived.Deep.Strs
import Derived.Deep.Slices
import Derived.Test.YtcjgjkejhkhknabDoorPq0
import Derived.Lib.ItoaNum
import Derived.Lib.ItoaMem
import Derived.Lib.ItoaLen
/-
  Flashes and blocks that come in as arguments: what the walks are told of them.
-/
namespace Go.Proofs.YtcjgjkejhkhknabDoor
open Go.ChangeShapes Go.WideShapes Go.ChangeAt Go.RowKit Go.Deep
set_option maxRecDepth 100000

/-- Leaves that came in: each in two cells. -/
def LfRow (w : World) (a : Option Addr) (len : Nat) (ls : List (Int × ByteArray)) : Prop :=
  ls.length = len ∧ len ≤ maxLen ∧ (∀ t ∈ ls, t.2.size ≤ maxLen) ∧ (0 < len → ∃ b off, a = some ⟨b, off, none⟩ ∧ b < w.heap.size ∧ ∀ i t, ls[i]? = some t →
    w.cell? ⟨b, off + i * 2, none⟩ = some (.int .i64 t.1) ∧ w.cell? ⟨b, off + i * 2 + 1, none⟩ = some (.string t.2))
/-- Blocks that came in: each in three cells, the third a row of leaves. -/
def BkOne (w : World) (r : Rw) : Prop := ∃ a n cap, r.2.2.1 = .slice a n cap ∧ LfRow w a n r.2.2.2
def BkRow (w : World) (a : Option Addr) (len : Nat) (rs : List Rw) : Prop :=
  rs.length = len ∧ len ≤ maxLen ∧ (∀ r ∈ rs, BkOne w r) ∧ (0 < len → ∃ b off, a = some ⟨b, off, none⟩ ∧ b < w.heap.size ∧ ∀ i r, rs[i]? = some r →
    w.cell? ⟨b, off + i * 3, none⟩ = some (.bool r.1) ∧ w.cell? ⟨b, off + i * 3 + 1, none⟩ = some (.int .i64 r.2.1) ∧ w.cell? ⟨b, off + i * 3 + 2, none⟩ = some r.2.2.1)
theorem LfRow.below {w w' : World} {a : Option Addr} {len : Nat} {ls : List (Int × ByteArray)} (h : LfRow w a len ls) (hb : Below w.heap.size w w') : LfRow w' a len ls := by
  refine ⟨h.1, h.2.1, h.2.2.1, fun h0 => ?_⟩
  obtain ⟨b, off, e, hlt, hc⟩ := h.2.2.2 h0
  refine ⟨b, off, e, Nat.lt_of_lt_of_le hlt hb.size, fun i t ht => ?_⟩
  have := hc i t ht
  rw [hb.cell (p := ⟨b, _, none⟩) hlt, hb.cell (p := ⟨b, _, none⟩) hlt]
  exact this
theorem BkOne.below {w w' : World} {r : Rw} (h : BkOne w r) (hb : Below w.heap.size w w') : BkOne w' r := by
  obtain ⟨a, n, cap, e, hl⟩ := h
  exact ⟨a, n, cap, e, hl.below hb⟩
theorem BkRow.below {w w' : World} {a : Option Addr} {len : Nat} {rs : List Rw} (h : BkRow w a len rs) (hb : Below w.heap.size w w') : BkRow w' a len rs := by
  refine ⟨h.1, h.2.1, fun r hr => (h.2.2.1 r hr).below hb, fun h0 => ?_⟩
  obtain ⟨b, off, e, hlt, hc⟩ := h.2.2.2 h0
  refine ⟨b, off, e, Nat.lt_of_lt_of_le hlt hb.size, fun i t ht => ?_⟩
  have := hc i t ht
  rw [hb.cell (p := ⟨b, _, none⟩) hlt, hb.cell (p := ⟨b, _, none⟩) hlt, hb.cell (p := ⟨b, _, none⟩) hlt]
  exact this

section
variable {H : Type} {enc : TypeId × Value → H} {w : World} {base : Nat} {sp : Nat → Bool} {held : Bool}
theorem fcells9 : Tryd.prog.cellsOf 9 = 1 := by kernel_rfl
theorem fcells3 : Tryd.prog.cellsOf 3 = 1 := by kernel_rfl
theorem fcells4 : Tryd.prog.cellsOf 4 = 1 := by kernel_rfl
theorem fcellsLs : Tryd.prog.cellsOf 53 = 1 := by kernel_rfl
theorem fcellsLf : Tryd.prog.cellsOf 87 = 2 := by kernel_rfl
theorem fcellsBk : Tryd.prog.cellsOf 55 = 3 := by kernel_rfl
theorem faddr_off (b off j : Nat) : (⟨b, off, none⟩ : Addr).add j = ⟨b, off + j, none⟩ := by
  simp only [Addr.add]
  split <;> simp_all

theorem open_leaves {fuel : Nat} {cs : List Value} {x : DataW H × List MemPlace} (hf : DataW.trod enc Tryd.prog w base sp held fuel 53 cs = some x) : ∃ a len cap ls, cs = [.slice a len cap] ∧ LfRow w a len ls := by
  rcases open_slice Tryd.underlying53 hf with ⟨hcs, _⟩ | ⟨x, len, c, m, n, D, Pl, hcs, _, hl, hm, hmm, _, hx⟩
  · exact ⟨none, 0, 0, [], hcs, rfl, by omega, by simp, fun h => by omega⟩
  · have hlm : len ≤ m := by rw [hmm]; split <;> omega
    have each : ∀ i, i < len → ∃ t : Int × ByteArray, w.cell? (x.add (i * 2)) = some (.int .i64 t.1) ∧ w.cell? (x.add (i * 2 + 1)) = some (.string t.2) ∧ t.2.size ≤ maxLen := by
      intro i hi
      obtain ⟨cs, h1, h2⟩ := hx i (by omega)
      rw [fcellsLf] at h1
      obtain ⟨_, hlen, hcell⟩ := World.cells?_some h1
      obtain ⟨y0, y1, k, _, _, g0, g1⟩ := trod_struct2 Tryd.underlying87 h2
      simp only [fcells9, fcells3] at g0 g1
      match cs, hlen with
      | [u, v], _ =>
        obtain ⟨p, e0, _, _⟩ := DataW.trod_int Tryd.underlying3 g0
        obtain ⟨s, e1, _, hs⟩ := DataW.trod_string Tryd.underlying9 g1
        simp at e0 e1
        subst e0 e1
        have f0 := hcell 0 (by simp)
        have f1 := hcell 1 (by simp)
        rw [add_add] at f0 f1
        exact ⟨(p, s), by simpa using f0, by simpa using f1, hs⟩
    obtain ⟨f, hq⟩ := choose_lt each
    refine ⟨some x, len, c, (List.range len).map f, hcs, by simp, by omega, ?_, fun h0 => ?_⟩
    · intro t ht
      obtain ⟨i, hi, rfl⟩ := List.mem_map.1 ht
      exact (hq i (List.mem_range.1 hi)).2.2
    · obtain ⟨b, off, spot⟩ := x
      have hspot : spot = none := by simpa [Addr.add] using World.cell?_spot (hq 0 h0).1
      subst hspot
      refine ⟨b, off, rfl, ?_, fun i t hi => ?_⟩
      · have := World.block_lt_of_cell? w _ (hq 0 h0).1
        rw [faddr_off] at this
        exact this
      · obtain ⟨hi1, hi2⟩ := List.getElem?_eq_some_iff.1 hi
        have hil : i < len := by simpa using hi1
        have ht : t = f i := by rw [← hi2]; simp
        subst ht
        have := hq i hil
        rw [faddr_off, faddr_off] at this
        exact ⟨this.1, this.2.1⟩
/-- One block. -/
theorem open_block {fuel : Nat} {cs : List Value} {x : DataW H × List MemPlace} (hf : DataW.trod enc Tryd.prog w base sp held fuel 55 cs = some x) : ∃ r : Rw, cs = [.bool r.1, .int .i64 r.2.1, r.2.2.1] ∧ BkOne w r := by
  obtain ⟨y0, y1, y2, k, _, hlen, g0, g1, g2⟩ := trod_struct3 Tryd.underlying55 hf
  simp only [fcells4, fcells3, fcellsLs] at g0 g1 g2
  rw [fcellsBk] at hlen
  match cs, hlen with
  | [u, v, z], _ =>
    obtain ⟨p, e0, _⟩ := DataW.trod_bool Tryd.underlying4 g0
    obtain ⟨q, e1, _, _⟩ := DataW.trod_int Tryd.underlying3 g1
    obtain ⟨a, n, cap, ls, e2, hl⟩ := open_leaves g2
    simp at e0 e1 e2
    subst e0 e1 e2
    exact ⟨(p, q, .slice a n cap, ls), rfl, a, n, cap, rfl, hl⟩
theorem open_blocks {fuel : Nat} {cs : List Value} {x : DataW H × List MemPlace} (hf : DataW.trod enc Tryd.prog w base sp held fuel 22 cs = some x) : ∃ a len cap rs, cs = [.slice a len cap] ∧ BkRow w a len rs := by
  rcases open_slice Tryd.underlying22 hf with ⟨hcs, _⟩ | ⟨x, len, c, m, n, D, Pl, hcs, _, hl, hm, hmm, _, hx⟩
  · exact ⟨none, 0, 0, [], hcs, rfl, by omega, by simp, fun h => by omega⟩
  · have hlm : len ≤ m := by rw [hmm]; split <;> omega
    have each : ∀ i, i < len → ∃ r : Rw, w.cell? (x.add (i * 3)) = some (.bool r.1) ∧ w.cell? (x.add (i * 3 + 1)) = some (.int .i64 r.2.1) ∧ w.cell? (x.add (i * 3 + 2)) = some r.2.2.1 ∧ BkOne w r := by
      intro i hi
      obtain ⟨cs, h1, h2⟩ := hx i (by omega)
      rw [fcellsBk] at h1
      obtain ⟨_, hlen, hcell⟩ := World.cells?_some h1
      obtain ⟨r, rfl, hr⟩ := open_block h2
      have f0 := hcell 0 (by simp)
      have f1 := hcell 1 (by simp)
      have f2 := hcell 2 (by simp)
      rw [add_add] at f0 f1 f2
      exact ⟨r, by simpa using f0, by simpa using f1, by simpa using f2, hr⟩
    haveI : Inhabited Rw := ⟨(false, 0, .slice none 0 0, [])⟩
    obtain ⟨f, hq⟩ := choose_lt each
    refine ⟨some x, len, c, (List.range len).map f, hcs, by simp, by omega, ?_, fun h0 => ?_⟩
    · intro t ht
      obtain ⟨i, hi, rfl⟩ := List.mem_map.1 ht
      exact (hq i (List.mem_range.1 hi)).2.2.2
    · obtain ⟨b, off, spot⟩ := x
      have hspot : spot = none := by simpa [Addr.add] using World.cell?_spot (hq 0 h0).1
      subst hspot
      refine ⟨b, off, rfl, ?_, fun i t hi => ?_⟩
      · have := World.block_lt_of_cell? w _ (hq 0 h0).1
        rw [faddr_off] at this
        exact this
      · obtain ⟨hi1, hi2⟩ := List.getElem?_eq_some_iff.1 hi
        have hil : i < len := by simpa using hi1
        have ht : t = f i := by rw [← hi2]; simp
        subst ht
        have := hq i hil
        rw [faddr_off, faddr_off, faddr_off] at this
        exact ⟨this.1, this.2.1, this.2.2.1⟩
/-- The argument of most laws: a flash. -/
theorem open_flash {r : Reach} {b0 : Nat} {v : Value} {d : DataW H} {ps : List MemPlace} (hval : Value.okWide Tryd.prog w r b0 24 v) (hd : DataW.Trod enc Tryd.prog w base sp held 24 v d ps) : ∃ a len cap rs, v = .agg #[.slice a len cap] ∧ BkRow w a len rs := by
  obtain ⟨cs, rfl, hcs⟩ := okWide_struct Tryd.underlying24 hval
  obtain ⟨fuel, hf⟩ := hd
  obtain ⟨y0, k, _, hlen, g0⟩ := trod_struct1 Tryd.underlying24 hf
  obtain ⟨a, len, cap, rs, e, hr⟩ := open_blocks g0
  refine ⟨a, len, cap, rs, ?_, hr⟩
  have h1 : Tryd.prog.cellsOf 24 = 1 := by kernel_rfl
  have h2 : Tryd.prog.cellsOf 22 = 1 := by kernel_rfl
  rw [h1] at hcs
  rw [h2] at e
  match cs, hcs with
  | ⟨[u]⟩, _ =>
    simp [Value.cells] at e
    subst e
    rfl
/-- .. a block. -/
theorem open_blockA {r : Reach} {b0 : Nat} {v : Value} {d : DataW H} {ps : List MemPlace} (hval : Value.okWide Tryd.prog w r b0 55 v) (hd : DataW.Trod enc Tryd.prog w base sp held 55 v d ps) : ∃ r : Rw, v = .agg #[.bool r.1, .int .i64 r.2.1, r.2.2.1] ∧ BkOne w r := by
  obtain ⟨cs, rfl, hcs⟩ := okWide_struct Tryd.underlying55 hval
  obtain ⟨fuel, hf⟩ := hd
  obtain ⟨r, e, hr⟩ := open_block hf
  refine ⟨r, ?_, hr⟩
  obtain ⟨l⟩ := cs
  simp [Value.cells] at e
  subst e
  rfl
end
end Go.Proofs.YtcjgjkejhkhknabDoor

/-
  One byte made a text, and put ahead of one.
-/
namespace Go.Proofs.YtcjgjkejhkhknabDoor
open Go.RowKit

theorem mt_conv (w : World) (c : UInt8) (x : Int) (h : (c.toNat : Int) = x) :
    (convert 90 9 (.slice (some ⟨w.heap.size, 0, none⟩) 1 1)).run Tryd.prog (w.alloc (.cells #[.int .u8 x] 5)) = .ok (.string ⟨#[c]⟩) (w.alloc (.cells #[.int .u8 x] 5)) := by
  subst h
  exact run_convert_bytes_back (P := Tryd.prog) (w.alloc (.cells #[.int .u8 c.toNat] 5)) 90 9 5 ⟨w.heap.size, 0, none⟩ 1 [c] Tryd.underlying90 Tryd.underlying5 Tryd.underlying9
    (fun j hj => by
      have : j = 0 := by simpa using hj
      subst this
      exact one_cell w _ 5 0 _ rfl)
theorem mt_cons (c : UInt8) (l : List UInt8) : Value.string (⟨#[c]⟩ ++ ⟨l.toArray⟩) = .string ⟨(c :: l).toArray⟩ := by
  rw [show (#[c] : Array UInt8) = [c].toArray from rfl, ByteArray.mk_append_mk]; rfl
end Go.Proofs.YtcjgjkejhkhknabDoor

/-
  Plain facts on figures: no Go in them.
-/
namespace Go.Proofs.YtcjgjkejhkhknabDoor.Words

/-- A figure's byte, as a number. -/
def figZ (x : Int) : Int := if x < 10 then 48 + x else 97 + x - 10
def fig (x : Nat) : UInt8 := UInt8.ofNat (figZ x).toNat
theorem figZ_bd (x : Int) (h0 : 0 ≤ x) (h1 : x < 16) : 48 ≤ figZ x ∧ figZ x ≤ 102 := by unfold figZ; split <;> omega
theorem fig_nat (x : Nat) (h1 : x < 16) : ((fig x).toNat : Int) = figZ x := by
  have := figZ_bd x (by omega) (by omega)
  unfold fig
  rw [UInt8.toNat_ofNat']
  omega

def hexL : List UInt8 → List UInt8
  | [] => []
  | c :: r => fig (c.toNat / 16) :: fig (c.toNat % 16) :: hexL r
theorem hexL_snoc (l : List UInt8) (c : UInt8) : hexL (l ++ [c]) = hexL l ++ [fig (c.toNat / 16), fig (c.toNat % 16)] := by
  induction l with
  | nil => rfl
  | cons a l ih => simp [hexL, ih]
theorem hexL_len (l : List UInt8) : (hexL l).length = 2 * l.length := by
  induction l with
  | nil => rfl
  | cons a l ih => simp [hexL, ih]; omega
theorem hexL_take (l : List UInt8) (k : Nat) (h : k < l.length) : hexL (l.take (k + 1)) = hexL (l.take k) ++ [fig (l[k].toNat / 16), fig (l[k].toNat % 16)] := by
  rw [List.take_succ_eq_append_getElem h, hexL_snoc]
end Go.Proofs.YtcjgjkejhkhknabDoor.Words

/-
  Plain facts on decimal figures: no Go in them.
-/
namespace Go.Proofs.YtcjgjkejhkhknabDoor.Words
open Go.Lib (decDigits itoa)

/-- The figures ahead of those that were written. -/
def pre (m : Nat) : List UInt8 := if m = 0 then [] else decDigits m
theorem pre_zero : pre 0 = [] := rfl
theorem pre_pos (m : Nat) (h : 0 < m) : pre m = decDigits m := by rw [pre, if_neg (by omega)]
theorem pre_step (m : Nat) (h : 0 < m) : pre m = pre (m / 10) ++ [fig (m % 10)] := by
  have hf : fig (m % 10) = UInt8.ofNat (48 + m % 10) := by
    unfold fig figZ
    rw [if_pos (by omega)]
    congr 1
  rw [pre_pos m h, decDigits]
  by_cases h10 : m < 10
  · rw [dif_pos h10, show m / 10 = 0 by omega, pre_zero, hf, Nat.mod_eq_of_lt h10]; rfl
  · rw [dif_neg h10, pre_pos (m / 10) (by omega), hf]
theorem dacc_step {m u : Nat} {acc : List UInt8} (h : pre m ++ acc = decDigits u) (hm : 0 < m) : pre (m / 10) ++ (fig (m % 10) :: acc) = decDigits u := by
  rw [← h, pre_step m hm]; simp
theorem dacc_len {m u : Nat} {acc : List UInt8} (h : pre m ++ acc = decDigits u) (hu : u ≤ 9223372036854775808) : acc.length ≤ 21 := by
  have h1 := congrArg List.length h
  have h2 : (decDigits u).length ≤ 21 := by
    by_cases h0 : u = 0
    · subst h0
      have := Go.Lib.itoa_length_le 0 (by omega) (by omega)
      rw [show (0 : Int) = ((0 : Nat) : Int) from rfl, Go.Lib.itoa_nonneg] at this
      exact this
    · have := Go.Lib.itoa_length_le (-(u : Int)) (by omega) (by omega)
      rw [Go.Lib.itoa_neg u (by omega)] at this
      simp at this
      omega
  simp at h1
  omega
theorem tmod_neg (m : Nat) : (-(m : Int)).tmod 10 = -((m % 10 : Nat) : Int) := by
  rw [Int.neg_tmod, Int.tmod_eq_emod_of_nonneg (by omega)]; rfl
theorem tdiv_neg (m : Nat) : (-(m : Int)).tdiv 10 = -((m / 10 : Nat) : Int) := by
  rw [Int.neg_tdiv, Int.tdiv_eq_ediv_of_nonneg (by omega)]; rfl
theorem dec_zero : decDigits 0 = [48] := by rw [decDigits, dif_pos (by omega)]; rfl
end Go.Proofs.YtcjgjkejhkhknabDoor.Words

/-
  The walk of the law's own mark of a number.
-/
namespace Go.Proofs.YtcjgjkejhkhknabDoor
open Go.RowKit
open Words
open Go.Lib (decDigits)

/-- The mark of a number. -/
def markL (k : Nat) : List UInt8 := 109 :: decDigits k
theorem fig48 (m : Nat) : ((fig (m % 10)).toNat : Int) = 48 + (m : Int) % 10 := by
  rw [fig_nat (m % 10) (by omega)]
  unfold figZ
  rw [if_pos (by omega)]
  omega
end Go.Proofs.YtcjgjkejhkhknabDoor
