/-
  WCells; SpecW; SpecW2; RowW; SpecR2; RMath; Arr; ImplAB; ImplS; SpecF; SpecR
-/
import Derived.Test.YtcjgjkejhkhknabGreatDoorPk0
import Derived.Test.YtcjgjkejhkhknabGreatDoorPk43
import Derived.Laws.BitsAllLaws
import Derived.Deep.MidRow
/-
  Words in cells.
-/
namespace Go.Proofs.YtcjgjkejhkhknabGreatDoor
open Go.RowKit
open Dig

theorem infoWord : (Tryz.prog.info? 131).map (fun i => (i.zero, i.size, i.bytes)) = some (some (.int .u32 0), 1, 4) := by kernel_rfl
/-- The cells of words. -/
def wcells (l : List Nat) : List Value := l.map fun n : Nat => Value.int .u32 n
theorem wcells_len (l : List Nat) : (wcells l).length = l.length := by simp [wcells]
theorem wcells_snoc (l : List Nat) (n : Nat) : wcells l ++ [Value.int .u32 n] = wcells (l ++ [n]) := by simp [wcells]
theorem wcells_at (l : List Nat) (j : Nat) (hj : j < l.length) : (wcells l)[j]? = some (.int .u32 (l[j] : Nat)) := by simp [wcells, hj]
theorem one_u32 (x : Int) : ∀ u ∈ [Value.int .u32 x], u.oneCell' = true := by
  intro u hu; simp at hu; subst hu; rfl

/-- The words l lie in block g, from its start on. -/
def WordsAt (w : World) (g : Nat) (l : List Nat) : Prop := g < w.heap.size ∧ ∀ j (hj : j < l.length), w.cell? ⟨g, j, none⟩ = some (.int .u32 (l[j] : Nat))
theorem WordsAt.below {w w' : World} {g C : Nat} {l : List Nat} (h : WordsAt w g l) (hb : Below C w w') (hg : g < C) : WordsAt w' g l :=
  ⟨Nat.lt_of_lt_of_le h.1 hb.size, fun j hj => by rw [hb.cell (show g < C from hg)]; exact h.2 j hj⟩
end Go.Proofs.YtcjgjkejhkhknabGreatDoor

/-
  The walks of the specification's words: turned, summed, read from bytes.
-/
namespace Go.Proofs.YtcjgjkejhkhknabGreatDoor
open Go.RowKit
open Dig

theorem low_H (a : Nat) (h2 : 1 < a) : 2147483648 / (a : Int) * 2 % 4294967296 = ((2147483648 / a * 2 : Nat) : Int) := by
  have h : 2147483648 / a < 2147483648 := Nat.div_lt_self (by omega) h2
  have e : (2147483648 : Int) / (a : Int) = ((2147483648 / a : Nat) : Int) := rfl
  rw [e]
  generalize 2147483648 / a = q at h
  omega
theorem div_c (x c : Nat) : (x : Int) / (c : Int) = ((x / c : Nat) : Int) := rfl

end Go.Proofs.YtcjgjkejhkhknabGreatDoor

/-
  The walk of the specification's word of four bytes.
-/
namespace Go.Proofs.YtcjgjkejhkhknabGreatDoor
open Go.RowKit
open Dig

theorem byte_at (s : ByteArray) (j : Nat) (a : Int) (ha : a = j) (hj : j < s.size) (W : World) : (Instr.index 9 (.string s) (.int .i64 a)).run Tryz.prog W = .ok (.int .u8 (((s.data.toList.getD j 0).toNat : Nat) : Int)) W := by
  subst ha
  rw [run_index_string W 9 s .i64 j Tryz.underlying9, dif_pos (by omega)]
  have : s.data.toList.getD j 0 = s[j] := by
    rw [List.getD_eq_getElem?_getD, List.getElem?_eq_getElem (by simpa using hj)]
    rfl
  rw [this]
  rfl
theorem word_drop (l : List UInt8) (i : Nat) : word (l.drop i) = (l.getD i 0).toNat * 16777216 + (l.getD (i + 1) 0).toNat * 65536 + (l.getD (i + 2) 0).toNat * 256 + (l.getD (i + 3) 0).toNat := by
  simp [word, List.getD_eq_getElem?_getD, List.getElem?_drop]

end Go.Proofs.YtcjgjkejhkhknabGreatDoor

/-
  Rows of words.
-/
namespace Go.Proofs.YtcjgjkejhkhknabGreatDoor
open Go.RowKit
open Dig

/-- A new row of words. -/
def Row (w : World) (e : Ending) (w' : World) (l : List Nat) : Prop := ∃ g cap : Nat, e = .returned (.slice (some ⟨g, 0, none⟩) l.length cap) ∧ w.heap.size ≤ g ∧ WordsAt w' g l ∧ Below w.heap.size w w'
/-- A new row of words that the call owns, as appends take it. -/
def Own (w : World) (e : Ending) (w' : World) (l : List Nat) : Prop := ∃ v : Value, e = .returned v ∧ w'.ownsRow w.heap.size 131 1 v l.length (wcells l) ∧ Below w.heap.size w w'
theorem words_new (w : World) (l : List Nat) (C : Array Value) (hC : C.toList = wcells l) : WordsAt (w.alloc (.cells C 131)) w.heap.size l := by
  refine ⟨by simp, fun j hj => ?_⟩
  rw [World.cell?_alloc_mark]
  have : C[j]? = (wcells l)[j]? := by rw [← hC]; simp
  rw [this, wcells_at l j hj]
end Go.Proofs.YtcjgjkejhkhknabGreatDoor

/-
  The walk of the specification's bytes of words.
-/
namespace Go.Proofs.YtcjgjkejhkhknabGreatDoor
open Go.RowKit
open Dig

def four4 (x : Nat) : List UInt8 := [UInt8.ofNat (x / 16777216), UInt8.ofNat (x / 65536 % 256), UInt8.ofNat (x / 256 % 256), UInt8.ofNat (x % 256)]
theorem bytesOf_snoc (l : List Nat) (x : Nat) : bytesOf (l ++ [x]) = bytesOf l ++ four4 x := by simp [bytesOf, four4]
theorem bytesOf_len4 (l : List Nat) : (bytesOf l).length = 4 * l.length := by
  induction l with
  | nil => rfl
  | cons a l ih => simp [bytesOf] at ih ⊢; omega
theorem four4_cells (l : List UInt8) (x : Nat) (hx : x < 4294967296) : bcells l ++ [Value.int .u8 ((x : Int) / 16777216), Value.int .u8 ((x : Int) / 65536 % 256), Value.int .u8 ((x : Int) / 256 % 256), Value.int .u8 ((x : Int) % 256)] = bcells (l ++ four4 x) := by
  have h1 : ((UInt8.ofNat (x / 16777216)).toNat : Int) = (x : Int) / 16777216 := by rw [UInt8.toNat_ofNat']; omega
  have h2 : ((UInt8.ofNat (x / 65536 % 256)).toNat : Int) = (x : Int) / 65536 % 256 := by rw [UInt8.toNat_ofNat']; omega
  have h3 : ((UInt8.ofNat (x / 256 % 256)).toNat : Int) = (x : Int) / 256 % 256 := by rw [UInt8.toNat_ofNat']; omega
  have h4 : ((UInt8.ofNat (x % 256)).toNat : Int) = (x : Int) % 256 := by rw [UInt8.toNat_ofNat']; omega
  simp only [bcells, List.map_append, four4, List.map_cons, List.map_nil, h1, h2, h3, h4]
theorem four_cell (w : World) (a b c d : Value) (t : TypeId) : ∀ (j : Nat) (u : Value), [a, b, c, d][j]? = some u → (w.alloc (.cells #[a, b, c, d] t)).cell? ((⟨w.heap.size, 0, none⟩ : Addr).add j) = some u := by
  intro j u hj
  match j, hj with
  | 0, hj => simp at hj; subst hj; simp [Addr.add]
  | 1, hj => simp at hj; subst hj; simp [Addr.add]
  | 2, hj => simp at hj; subst hj; simp [Addr.add]
  | 3, hj => simp at hj; subst hj; simp [Addr.add]
theorem four_u8 (a b c d : Int) : ∀ u ∈ [Value.int .u8 a, Value.int .u8 b, Value.int .u8 c, Value.int .u8 d], u.oneCell' = true := by
  intro u hu
  simp at hu
  rcases hu with h | h | h | h <;> subst h <;> rfl

end Go.Proofs.YtcjgjkejhkhknabGreatDoor

/-
  What a step of the round reads and makes, in the walk's words.
-/
namespace Go.Proofs.YtcjgjkejhkhknabGreatDoor
open Go.RowKit
open Dig

theorem and_lt32 (x y : Nat) (hx : x < 4294967296) : x &&& y < 4294967296 := Nat.lt_of_le_of_lt Nat.and_le_left hx
theorem ch_open (e f g : Nat) (he : e < 4294967296) (hf : f < 4294967296) (hg : g < 4294967296) :
    ∃ p ne q r : Nat, bits .and .u32 (e : Int) (f : Int) = p ∧ IntKind.u32.wrap (4294967295 - (e : Int)) = ne ∧ bits .and .u32 (ne : Int) (g : Int) = q ∧ bits .xor .u32 (p : Int) (q : Int) = r ∧ ch e f g = r ∧ r < 4294967296 := by
  have hp := and_lt32 e f he
  have hq := and_lt32 (4294967295 - e) g (by omega)
  refine ⟨e &&& f, 4294967295 - e, (4294967295 - e) &&& g, (e &&& f) ^^^ ((4294967295 - e) &&& g), ?_, ?_, ?_, ?_, rfl, Nat.xor_lt_two_pow (n := 32) hp hq⟩
  · exact u32_and_nat e f he hf
  · rw [IntKind.wrap_u32']; omega
  · exact u32_and_nat _ g (by omega) hg
  · exact u32_xor_nat _ _ hp hq
theorem maj_open (a b c : Nat) (ha : a < 4294967296) (hb : b < 4294967296) (hc : c < 4294967296) :
    ∃ p q r s m : Nat, bits .and .u32 (a : Int) (b : Int) = p ∧ bits .and .u32 (a : Int) (c : Int) = q ∧ bits .and .u32 (b : Int) (c : Int) = r ∧ bits .xor .u32 (p : Int) (q : Int) = s ∧ bits .xor .u32 (s : Int) (r : Int) = m ∧ maj a b c = m ∧ m < 4294967296 := by
  have hp := and_lt32 a b ha
  have hq := and_lt32 a c ha
  have hr := and_lt32 b c hb
  have hs := Nat.xor_lt_two_pow (n := 32) hp hq
  refine ⟨a &&& b, a &&& c, b &&& c, (a &&& b) ^^^ (a &&& c), _, u32_and_nat a b ha hb, u32_and_nat a c ha hc, u32_and_nat b c hb hc, u32_xor_nat _ _ hp hq, u32_xor_nat _ _ hs hr, rfl, Nat.xor_lt_two_pow (n := 32) hs hr⟩
theorem t1_open (e f g h k w s r : Nat) (hs : sig e 64 2048 33554432 false = s) (hr : ch e f g = r) :
    ∃ y1 y2 y3 y4 : Nat, IntKind.u32.wrap ((h : Int) + s) = y1 ∧ IntKind.u32.wrap ((y1 : Int) + r) = y2 ∧ IntKind.u32.wrap ((y2 : Int) + k) = y3 ∧ IntKind.u32.wrap ((y3 : Int) + w) = y4 ∧ t1 e f g h k w = y4 ∧ y4 < 4294967296 := by
  refine ⟨(h + s) % 4294967296, ((h + s) % 4294967296 + r) % 4294967296, (((h + s) % 4294967296 + r) % 4294967296 + k) % 4294967296, ((((h + s) % 4294967296 + r) % 4294967296 + k) % 4294967296 + w) % 4294967296, ?_, ?_, ?_, ?_, ?_, Nat.mod_lt _ (by omega)⟩
  · rw [IntKind.wrap_u32']; omega
  · rw [IntKind.wrap_u32']; omega
  · rw [IntKind.wrap_u32']; omega
  · rw [IntKind.wrap_u32']; omega
  · unfold t1
    rw [hs, hr]
    omega
theorem t2_open (a b c s m : Nat) (hs : sig a 4 8192 4194304 false = s) (hm : maj a b c = m) : ((s : Int) + (m : Int)) % 4294967296 = (t2 a b c : Nat) ∧ t2 a b c < 4294967296 := by
  refine ⟨?_, Nat.mod_lt _ (by omega)⟩
  unfold t2
  rw [hs, hm]
  omega

/-- The state while it is shifted. -/
def sh (v : List Nat) (i : Nat) : List Nat := v.take (i + 1) ++ (v.drop i).take (7 - i)
theorem sh_7 (v : List Nat) (h : v.length = 8) : sh v 7 = v := by
  unfold sh
  rw [List.take_of_length_le (by omega)]
  simp
theorem sh_step (v : List Nat) (h : v.length = 8) (i : Nat) (hi : i < 7) (x : Nat) (hx : v[i]? = some x) : (sh v (i + 1)).set (i + 1) x = sh v i ∧ (sh v (i + 1))[i]? = some x ∧ (sh v (i + 1)).length = 8 := by
  match v, h with
  | [a, b, c, d, e, f, g, k], _ =>
    match i, hi with
    | 0, _ => simp at hx; subst hx; exact ⟨rfl, rfl, rfl⟩
    | 1, _ => simp at hx; subst hx; exact ⟨rfl, rfl, rfl⟩
    | 2, _ => simp at hx; subst hx; exact ⟨rfl, rfl, rfl⟩
    | 3, _ => simp at hx; subst hx; exact ⟨rfl, rfl, rfl⟩
    | 4, _ => simp at hx; subst hx; exact ⟨rfl, rfl, rfl⟩
    | 5, _ => simp at hx; subst hx; exact ⟨rfl, rfl, rfl⟩
    | 6, _ => simp at hx; subst hx; exact ⟨rfl, rfl, rfl⟩
theorem sh_0 (a b c d e f g h x y : Nat) : ((sh [a, b, c, d, e, f, g, h] 0).set 4 x).set 0 y = [y, a, b, c, x, e, f, g] := rfl
theorem sh_04 (a b c d e f g h : Nat) : (sh [a, b, c, d, e, f, g, h] 0)[4]? = some d := rfl

theorem words_alloc {w : World} {g : Nat} {l : List Nat} (h : WordsAt w g l) (o : Obj) : WordsAt (w.alloc o) g l :=
  ⟨by simp; have := h.1; omega, fun j hj => by rw [World.cell?_alloc_lt _ _ _ (show g < w.heap.size from h.1)]; exact h.2 j hj⟩
theorem words_grown {w w2 : World} {g : Nat} {l : List Nat} {r : Option Nat} (h : WordsAt w g l) (hg : w.grownBy w2 r) (hne : r ≠ some g) : WordsAt w2 g l :=
  ⟨Nat.lt_of_lt_of_le h.1 hg.size, fun j hj => by rw [World.cell?_of_block (w := w) (hg.block g h.1 (fun e => hne e.symm))]; exact h.2 j hj⟩
theorem words_at {w : World} {g : Nat} {l : List Nat} (h : WordsAt w g l) (j x : Nat) (hx : l[j]? = some x) : w.cell? ⟨g, j, none⟩ = some (.int .u32 (x : Nat)) := by
  obtain ⟨h1, h2⟩ := List.getElem?_eq_some_iff.1 hx
  rw [h.2 j h1, h2]
/-- Words that may be written. -/
def VAt (w : World) (g : Nat) (l : List Nat) : Prop := WordsAt w g l ∧ ∀ j, w.frozen? ⟨g, j, none⟩ = false
theorem VAt.set {w : World} {g : Nat} {l : List Nat} (h : VAt w g l) (i y : Nat) : VAt (w.setCell ⟨g, i, none⟩ (.int .u32 y)) g (l.set i y) := by
  refine ⟨⟨by simpa using h.1.1, fun j hj => ?_⟩, fun j => by rw [World.frozen?_setCell]; exact h.2 j⟩
  have hj2 : j < l.length := by simpa using hj
  by_cases hij : i = j
  · subst hij
    rw [World.cell?_setCell_same _ _ _ (h.1.2 i hj2)]
    simp
  · rw [World.cell?_setCell_other _ _ _ _ (fun e => hij (by injection e)), h.1.2 j hj2]
    simp [hij]
theorem words_set {w : World} {g r i : Nat} {l : List Nat} {u : Value} (h : WordsAt w g l) (hne : r ≠ g) : WordsAt (w.setCell ⟨r, i, none⟩ u) g l :=
  ⟨by simpa using h.1, fun j hj => by rw [World.cell?_setCell_other _ _ _ _ (fun e => hne (by injection e))]; exact h.2 j hj⟩
theorem getD_some (l : List Nat) (n : Nat) (h : n < l.length) : l[n]? = some (l.getD n 0) := by
  rw [List.getD_eq_getElem?_getD, List.getElem?_eq_getElem h]; rfl
end Go.Proofs.YtcjgjkejhkhknabGreatDoor

/-
  Arrays of words that lie in a block: loaded and stored whole.
-/
namespace Go.Proofs.YtcjgjkejhkhknabGreatDoor
open Go.RowKit
open Dig

theorem info8 : (Tryz.prog.info? 133).map (·.size) = some 8 := by kernel_rfl

/-- The value of an array of words. -/
def wagg (l : List Nat) : Value := .agg (wcells l).toArray
theorem wcells_one (l : List Nat) : ∀ v ∈ wcells l, v.oneCell' = true := by
  intro u hu
  obtain ⟨x, -, rfl⟩ := List.mem_map.1 hu
  rfl
theorem wcells_all (l : List Nat) : (wcells l).toArray.all (·.oneCell') = true := all_oneCell_toArray (wcells_one l)
theorem wcells_size (l : List Nat) : (wcells l).toArray.size = l.length := by simp [wcells]

theorem words_range {w : World} {g : Nat} {l : List Nat} (h : WordsAt w g l) : w.rangeAt g 0 (wcells l) := by
  intro j v hv
  have hj : j < l.length := by
    have := (List.getElem?_eq_some_iff.1 hv).1
    rwa [wcells_len] at this
  rw [wcells_at l j hj] at hv
  cases hv
  rw [Nat.zero_add]
  exact h.2 j hj
theorem v_there {w : World} {g : Nat} {l : List Nat} (h : VAt w g l) : w.there g 0 l.length := by
  intro j hj
  rw [Nat.zero_add, h.1.2 j hj]
  exact ⟨rfl, h.2 j⟩
theorem setCells_sizeD (b : Nat) : ∀ (vs : List Value) (o : Nat) (w : World), (w.setCells b o vs).heap.size = w.heap.size
  | [], _, _ => rfl
  | v :: r, o, w => by rw [World.setCells, setCells_sizeD b r]; simp
theorem below_cellsD {B b : Nat} {a : World} (hb : B ≤ b) : ∀ (vs : List Value) (o : Nat) (w : World), Below B a w → Below B a (w.setCells b o vs)
  | [], _, _, h => h
  | v :: r, o, w, h => by
    rw [World.setCells]
    exact below_cellsD hb r _ _ (h.setCell (p := ⟨b, o, none⟩) hb v)
theorem VAt.store {w : World} {g : Nat} {l : List Nat} (h : VAt w g l) (l' : List Nat) (hl : l'.length = l.length) : VAt (w.setCells g 0 (wcells l')) g l' := by
  have ht : w.there g 0 (wcells l').length := by rw [wcells_len, hl]; exact v_there h
  have hr := World.rangeAt_setCells_same w g 0 (wcells l') ht
  refine ⟨⟨by rw [setCells_sizeD]; exact h.1.1, fun j hj => ?_⟩, fun j => by rw [World.frozen?_setCells]; exact h.2 j⟩
  have := hr j _ (wcells_at l' j hj)
  rwa [Nat.zero_add] at this
theorem VAt.apart {w : World} {g g' : Nat} {l : List Nat} (h : VAt w g l) (hne : g ≠ g') (vs : List Value) (o : Nat) : VAt (w.setCells g' o vs) g l := by
  refine ⟨⟨by rw [setCells_sizeD]; exact h.1.1, fun j hj => ?_⟩, fun j => by rw [World.frozen?_setCells]; exact h.2 j⟩
  rw [World.cell?_setCells_out g' vs o w ⟨g, j, none⟩ (fun hb _ => absurd hb hne)]
  exact h.1.2 j hj
theorem VAt.below {w w' : World} {g C : Nat} {l : List Nat} (h : VAt w g l) (hb : Below C w w') (hg : g < C) : VAt w' g l :=
  ⟨h.1.below hb hg, fun j => by rw [hb.frozen (show g < C from hg)]; exact h.2 j⟩
theorem VAt.alloc {w : World} {g : Nat} {l : List Nat} (h : VAt w g l) (o : Obj) : VAt (w.alloc o) g l :=
  h.below ((Below.refl w.heap.size w).alloc (Nat.le_refl _) o) h.1.1
theorem VAt.other {w : World} {g r i : Nat} {l : List Nat} {u : Value} (h : VAt w g l) (hne : r ≠ g) : VAt (w.setCell ⟨r, i, none⟩ u) g l :=
  ⟨words_set h.1 hne, fun j => by rw [World.frozen?_setCell]; exact h.2 j⟩
theorem v_new (w : World) (l : List Nat) (C : Array Value) (t : TypeId) (hC : C.toList = wcells l) : VAt (w.alloc (.cells C t)) w.heap.size l := by
  refine ⟨⟨by simp, fun j hj => ?_⟩, fun j => by simp⟩
  rw [World.cell?_alloc_mark]
  have : C[j]? = (wcells l)[j]? := by rw [← hC]; simp
  rw [this, wcells_at l j hj]

/-- A whole array is loaded. -/
theorem wpList_load_words {ops : Array Oper} {rest : List Oper} {op : Oper} {a : Act} {w : World} {Q : Exit → Act → World → Prop} (hgd : op.guard = none) (ty : TypeId) (x : Operand) (ho : op.op = .load ty x)
    (g : Nat) (hx : a.eval x = .pointer (some ⟨g, 0, none⟩)) (l : List Nat) (d : TypeDesc) (hc : WordsAt w g l)
    (hu : Tryz.prog.underlying ty = some d) (hd : d.isRow = true) (hi : (Tryz.prog.info? ty).map (·.size) = some l.length)
    (h : wpList Tryz.prog ops Q rest (a.put op.dst (wagg l)) w) : wpList Tryz.prog ops Q (op :: rest) a w :=
  wpList_load_mid hgd ty x ho g 0 hx (wcells l) d (words_range hc) hu hd (by rw [wcells_len]; exact hi) h
/-- A whole array is stored. -/
theorem wpList_store_words {ops : Array Oper} {rest : List Oper} {op : Oper} {a : Act} {w : World} {Q : Exit → Act → World → Prop} (hgd : op.guard = none) (ty : TypeId) (x y : Operand) (ho : op.op = .store ty x y)
    (g : Nat) (l old : List Nat) (hx : a.eval x = .pointer (some ⟨g, 0, none⟩)) (hy : a.eval y = wagg l)
    (hc : VAt w g old) (hl : l.length = old.length) (hi : (Tryz.prog.info? ty).map (·.size) = some l.length)
    (h : ∀ w', w' = w.setCells g 0 (wcells l) → wpList Tryz.prog ops Q rest (a.put op.dst undef) w') : wpList Tryz.prog ops Q (op :: rest) a w :=
  wpList_store_mid hgd ty x y ho g 0 (wcells l).toArray hx hy (by rw [wcells_size, hl]; exact v_there hc) (by rw [wcells_size]; exact hi) (wcells_all l) (by have := h _ rfl; simpa using this)
theorem results_words {fn : Func} {p : Tmp} {ty : TypeId} (h : fn.results = #[.cell p ty]) (tmps : Array Value) (w : World) (g : Nat) (l : List Nat) (d : TypeDesc)
    (hp : tmps.getD p undef = .pointer (some ⟨g, 0, none⟩)) (hc : WordsAt w g l) (hu : Tryz.prog.underlying ty = some d) (hd : d.isRow = true) (hi : (Tryz.prog.info? ty).map (·.size) = some l.length) :
    (results fn tmps).run Tryz.prog w = .ok (wagg l) w := by
  have hp' : tmps[p]?.getD undef = .pointer (some ⟨g, 0, none⟩) := by simpa using hp
  have hl := run_loadVar_mid (P := Tryz.prog) w g 0 ty (wcells l) d (words_range hc) hu hd (by rw [wcells_len]; exact hi)
  simp [results, h, hp', asAddr, hl, wagg]
theorem results_words2 {fn : Func} {p q : Tmp} {ty : TypeId} (h : fn.results = #[.cell p ty, .tmp q]) (tmps : Array Value) (w : World) (g : Nat) (l : List Nat) (d : TypeDesc)
    (hp : tmps.getD p undef = .pointer (some ⟨g, 0, none⟩)) (hc : WordsAt w g l) (hu : Tryz.prog.underlying ty = some d) (hd : d.isRow = true) (hi : (Tryz.prog.info? ty).map (·.size) = some l.length) :
    (results fn tmps).run Tryz.prog w = .ok (.tuple #[wagg l, tmps.getD q undef]) w := by
  have hp' : tmps[p]?.getD undef = .pointer (some ⟨g, 0, none⟩) := by simpa using hp
  have hl := run_loadVar_mid (P := Tryz.prog) w g 0 ty (wcells l) d (words_range hc) hu hd (by rw [wcells_len]; exact hi)
  simp [results, h, hp', asAddr, hl, wagg]

set_option maxHeartbeats 400000 in
theorem firstState_any (w : World) : Calls Tryz.prog 73 #[] w fun e w' => e = .returned (wagg first) ∧ Below w.heap.size w w' := by
  go_enter Tryz.func73, Tryz.ntmps73
  go_wp2
  have hv := v_new w first #[Value.int IntKind.u32 1779033703, Value.int IntKind.u32 3144134277, Value.int IntKind.u32 1013904242, Value.int IntKind.u32 2773480762, Value.int IntKind.u32 1359893119, Value.int IntKind.u32 2600822924, Value.int IntKind.u32 528734635, Value.int IntKind.u32 1541459225] 133 rfl
  exact bodyPost_ret (results_words rfl _ _ _ _ _ rfl hv.1 Tryz.underlying133 rfl info8) rfl ⟨rfl, (Below.refl _ _).alloc (Nat.le_refl _) _⟩
end Go.Proofs.YtcjgjkejhkhknabGreatDoor

/-
  The walks of impl's bytes of a state.
-/
namespace Go.Proofs.YtcjgjkejhkhknabGreatDoor
open Go.RowKit
open Dig

set_option maxHeartbeats 400000 in
theorem appendWord_any (v : Value) (l : List UInt8) (x base : Nat) (w : World) (hx : x < 4294967296) (hl : l.length ≤ 1000000) (hown : w.ownsRow base 5 1 v l.length (bcells l)) (hB : base ≤ w.heap.size) :
    Calls Tryz.prog 142 #[v, .int .u32 x] w fun e w' => ∃ v' : Value, e = .returned v' ∧ w'.ownsRow base 5 1 v' (l ++ four4 x).length (bcells (l ++ four4 x)) ∧ Below base w w' := by
  obtain ⟨i0, hi, hz0, hz1, hz2⟩ := info_parts infoByte
  have HO := hide hown
  clear hown
  go_enter Tryz.func142, Tryz.ntmps142
  go_wp2_with (at_builtin; refine wpList_append_own _ rfl _ _ 191 rfl base 5 i0 (.int .u8 0) 1 1 Tryz.underlying191 hi hz0 hz1 hz2 rfl (by decide) _ _ _ rfl (by exact HO.out.alloc _) ⟨w.heap.size, 0, none⟩ 4 4 [Value.int .u8 _, Value.int .u8 _, Value.int .u8 _, Value.int .u8 _] rfl rfl (by exact four_cell _ _ _ _ _ _) (four_u8 _ _ _ _) (by unfold maxLen; omega) (by omega) (by simp; omega) ?_)
  intro v' w2 hown2 hgrow _
  have hb2 : Below base w w2 := own_grown (Below.refl base w) hB HO.out hgrow
  rw [four4_cells _ x hx] at hown2
  have HN : Hid (w2.ownsRow base 5 1 v' (l ++ four4 x).length (bcells (l ++ four4 x))) := by
    show World.ownsRow _ _ _ _ _ _ _
    rw [List.length_append]; exact hown2
  clear hown2 hgrow HO
  go_wp2
  go_ret
  exact ⟨_, rfl, HN.out, hb2⟩

theorem wagg8 (a b c d e f g i : Nat) : wagg [a, b, c, d, e, f, g, i] = .agg #[.int .u32 a, .int .u32 b, .int .u32 c, .int .u32 d, .int .u32 e, .int .u32 f, .int .u32 g, .int .u32 i] := rfl

theorem idx8 (l : List Nat) (k x : Nat) (hl : l.length = 8) (hx : l[k]? = some x) (W : World) : (Instr.index 133 (wagg l) (.int .i64 (k : Int))).run Tryz.prog W = .ok (.int .u32 x) W := by
  have hk : k < 8 := by rw [← hl]; exact (List.getElem?_eq_some_iff.1 hx).1
  have hc : (wcells l)[k]? = some (.int .u32 x) := by
    obtain ⟨h1, h2⟩ := List.getElem?_eq_some_iff.1 hx
    rw [wcells_at l k h1, h2]
  obtain ⟨i0, hi, hz0, hz1, hz2⟩ := info_parts infoWord
  simp [Instr.index, run_underlying Tryz.underlying133, asIntOf, wagg, part, sizeOf, typeInfo, hi, hz1, isAgg, run_underlying Tryz.underlying131, hk, hc]

theorem bytesOf_take (l : List Nat) (k x : Nat) (hx : l[k]? = some x) : bytesOf (l.take (k + 1)) = bytesOf (l.take k) ++ four4 x := by
  obtain ⟨h1, h2⟩ := List.getElem?_eq_some_iff.1 hx
  rw [← bytesOf_snoc, ← h2, ← List.take_succ_eq_append_getElem h1]

set_option maxHeartbeats 400000 in
theorem asBytes_anyD (l : List Nat) (w : World) (h : St l) :
    Calls Tryz.prog 107 #[wagg l] w fun e w' => e = .returned (.string ⟨(bytesOf l).toArray⟩) ∧ Below w.heap.size w w' := by
  obtain ⟨i0, hi, hz0, hz1, hz2⟩ := info_parts infoByte
  have hl8 := h.1
  have HL := hide h.2
  obtain ⟨a, b, c, d, e, f, g, i, hL, -⟩ := h.open
  have hw8 : wagg l = .agg #[.int .u32 a, .int .u32 b, .int .u32 c, .int .u32 d, .int .u32 e, .int .u32 f, .int .u32 g, .int .u32 i] := by rw [hL]; rfl
  rw [hw8]
  have EL := hide hL
  clear h hw8 hL
  go_enter Tryz.func107, Tryz.ntmps107
  go_wp2_with (at_make; refine wpList_make_own _ rfl _ _ 191 rfl (w.heap.size + 1) 5 i0 (.int .u8 0) 1 Tryz.underlying191 hi hz0 hz1 .i64 .i64 _ 32 rfl rfl rfl (by rw [hz2]; omega) (by unfold maxLen; omega) (by simp) ?_)
  intro w1 hown hgrow
  have hv0 := v_new w l #[.int .u32 a, .int .u32 b, .int .u32 c, .int .u32 d, .int .u32 e, .int .u32 f, .int .u32 g, .int .u32 i] 133 (by rw [EL.out]; rfl)
  have hb1 : Below (w.heap.size + 1) (w.alloc (.cells #[.int .u32 a, .int .u32 b, .int .u32 c, .int .u32 d, .int .u32 e, .int .u32 f, .int .u32 g, .int .u32 i] 133)) w1 := (Below.refl _ _).grown hgrow (by simp) (fun k hk => by cases hk)
  have HV := hide (hv0.below hb1 (by omega))
  have HB : Hid (Below w.heap.size w w1) := ((Below.refl _ _).alloc (Nat.le_refl _) _).trans (hb1.mono (by omega))
  have hs1 : w.heap.size + 1 ≤ w1.heap.size := by have := hb1.size; simpa using this
  have HO := hide hown
  clear hown hgrow hv0 hb1 EL
  go_wp2_with (refine wpList_load_words rfl _ _ rfl w.heap.size rfl l _ HV.out.1 Tryz.underlying133 rfl (by rw [hl8]; exact info8) ?_)
  go_loopw [3, 8] (fun out iv wr => ∃ k : Nat, k ≤ 8 ∧ iv = .int .i64 k ∧ Hid (wr.ownsRow (w.heap.size + 1) 5 1 out (bytesOf (l.take k)).length (bcells (bytesOf (l.take k)))) ∧ Below w.heap.size w wr ∧ w.heap.size + 1 ≤ wr.heap.size) (fun _ iv _ => 8 - (intOf iv).toNat)
  case atStart => exact ⟨0, by omega, rfl, HO, HB.out, hs1⟩
  case round =>
    obtain ⟨k, hk, rfl, HR, hbel, hszr⟩ := hrel
    by_cases hlt : (k : Int) < 8
    · obtain ⟨x, hx⟩ : ∃ x, l[k]? = some x := ⟨_, List.getElem?_eq_getElem (by omega)⟩
      have hix := idx8 l k x hl8 hx
      have hx32 := HL.out x (List.mem_of_getElem? hx)
      have F := hide (bytesOf_take l k x hx)
      have hlen : (bytesOf (l.take k)).length ≤ 1000000 := by rw [bytesOf_len4]; simp; omega
      generalize bytesOf (l.take k) = bk at HR F hlen
      clear hx
      go_wp2_with fail
      refine (appendWord_any _ bk x (w.heap.size + 1) _ hx32 hlen HR.out hszr).mono ?_
      rintro e w2 ⟨v', rfl, hown2, hb2⟩
      rw [← F.out] at hown2
      have HR2 := hide hown2
      have hb3 : Below w.heap.size w w2 := hbel.trans (hb2.mono (by omega))
      have hs3 : w.heap.size + 1 ≤ w2.heap.size := by have := hb2.size; omega
      clear hown2 hb2 HR hbel F hix
      go_wp2
      go_roundw
      case rel => exact ⟨k + 1, by omega, by go_num, HR2, hb3, hs3⟩
      case measure => simp [intOf]; omega
    · have e8 : k = 8 := by omega
      subst e8
      have hcv : (convert 191 9 u3).run Tryz.prog wr = .ok (.string ⟨(bytesOf l).toArray⟩) wr := by
        have := HR.out
        rw [List.take_of_length_le (by omega)] at this
        exact conv_own wr _ _ this
      clear HR HL
      obtain ⟨r, hr⟩ : ∃ r, bytesOf l = r := ⟨_, rfl⟩
      rw [hr] at hcv
      have HR := hide hr
      clear hr
      go_wp2
      go_ret
      exact ⟨by rw [HR.out]; rfl, hbel⟩
end Go.Proofs.YtcjgjkejhkhknabGreatDoor

/-
  The walks of impl's words of bytes, and of the state's.
-/
namespace Go.Proofs.YtcjgjkejhkhknabGreatDoor
open Go.RowKit
open Dig

set_option maxHeartbeats 400000 in
theorem wordAt_any (s : ByteArray) (i : Nat) (w : World) (hs : s.size ≤ maxLen) (hi : i + 4 ≤ s.size) :
    Calls Tryz.prog 164 #[.string s, .int .i64 i] w fun e w' => e = .returned (.int .u32 (word (s.data.toList.drop i) : Nat)) ∧ Below w.heap.size w w' := by
  unfold maxLen at hs
  have f0 := byte_at s i (i : Int) rfl (by omega)
  have f1 := byte_at s (i + 1) ((i : Int) + 1) (by omega) (by omega)
  have f2 := byte_at s (i + 2) ((i : Int) + 2) (by omega) (by omega)
  have f3 := byte_at s (i + 3) ((i : Int) + 3) (by omega) (by omega)
  have E := word_drop s.data.toList i
  have b0 : (s.data.toList.getD i 0).toNat < 256 := UInt8.toNat_lt _
  have b1 : (s.data.toList.getD (i + 1) 0).toNat < 256 := UInt8.toNat_lt _
  have b2 : (s.data.toList.getD (i + 2) 0).toNat < 256 := UInt8.toNat_lt _
  have b3 : (s.data.toList.getD (i + 3) 0).toNat < 256 := UInt8.toNat_lt _
  generalize (s.data.toList.getD i 0).toNat = c0 at *
  generalize (s.data.toList.getD (i + 1) 0).toNat = c1 at *
  generalize (s.data.toList.getD (i + 2) 0).toNat = c2 at *
  generalize (s.data.toList.getD (i + 3) 0).toNat = c3 at *
  rw [← four_or c0 c1 c2 c3 b1 b2 b3] at E
  have g1 : IntKind.i64.wrap ((i : Int) + 1) = (i : Int) + 1 := by rw [IntKind.wrap_i64]; omega
  have g2 : IntKind.i64.wrap ((i : Int) + 2) = (i : Int) + 2 := by rw [IntKind.wrap_i64]; omega
  have g3 : IntKind.i64.wrap ((i : Int) + 3) = (i : Int) + 3 := by rw [IntKind.wrap_i64]; omega
  have k0 : IntKind.u32.wrap (c0 : Int) = c0 := by rw [IntKind.wrap_u32']; omega
  have k1 : IntKind.u32.wrap (c1 : Int) = c1 := by rw [IntKind.wrap_u32']; omega
  have k2 : IntKind.u32.wrap (c2 : Int) = c2 := by rw [IntKind.wrap_u32']; omega
  have k3 : IntKind.u32.wrap (c3 : Int) = c3 := by rw [IntKind.wrap_u32']; omega
  obtain ⟨d0, e0⟩ : ∃ d, d = c0 * 16777216 := ⟨_, rfl⟩
  obtain ⟨d1, e1⟩ : ∃ d, d = c1 * 65536 := ⟨_, rfl⟩
  obtain ⟨d2, e2⟩ : ∃ d, d = c2 * 256 := ⟨_, rfl⟩
  rw [← e0, ← e1, ← e2] at E
  have o1 := u32_or_nat d0 d1 (by omega) (by omega)
  have l1 : d0 ||| d1 < 4294967296 := Nat.or_lt_two_pow (n := 32) (show d0 < 4294967296 by omega) (show d1 < 4294967296 by omega)
  have o2 := u32_or_nat (d0 ||| d1) d2 l1 (by omega)
  have l2 : d0 ||| d1 ||| d2 < 4294967296 := Nat.or_lt_two_pow (n := 32) l1 (show d2 < 4294967296 by omega)
  have o3 := u32_or_nat (d0 ||| d1 ||| d2) c3 l2 (by omega)
  rw [← E] at o3
  clear E
  generalize word (s.data.toList.drop i) = x at o3 ⊢
  generalize d0 ||| d1 ||| d2 = y2 at o2 o3
  generalize d0 ||| d1 = y1 at o1 o2
  have m0 : IntKind.u32.wrap ((c0 : Int) * 16777216) = (d0 : Int) := by rw [IntKind.wrap_u32']; omega
  have m1 : IntKind.u32.wrap ((c1 : Int) * 65536) = (d1 : Int) := by rw [IntKind.wrap_u32']; omega
  have m2 : IntKind.u32.wrap ((c2 : Int) * 256) = (d2 : Int) := by rw [IntKind.wrap_u32']; omega
  clear e0 e1 e2 l1 l2
  go_enter Tryz.func164, Tryz.ntmps164
  go_wp2
  go_quiet (fail)
  go_wp2
  go_ret
  exact ⟨rfl, below_drewN (Below.refl _ _) _⟩

theorem wordAt_int (s : ByteArray) (z : Int) (i : Nat) (hz : z = i) (w : World) (hs : s.size ≤ maxLen) (hi : i + 4 ≤ s.size) :
    Calls Tryz.prog 164 #[.string s, .int .i64 z] w fun e w' => e = .returned (.int .u32 (word (s.data.toList.drop i) : Nat)) ∧ Below w.heap.size w w' := by
  subst hz
  exact wordAt_any s i w hs hi
theorem fill_set (A : List Nat) (n k x : Nat) (hA : A.length = k) (hk : k < n) : (A ++ List.replicate (n - k) 0).set k x = (A ++ [x]) ++ List.replicate (n - (k + 1)) 0 := by
  obtain ⟨d, hd⟩ : ∃ d, n - k = d + 1 := ⟨n - k - 1, by omega⟩
  have hd2 : n - (k + 1) = d := by omega
  rw [hd, hd2, List.set_append_right _ _ (by omega), hA, Nat.sub_self, List.replicate_succ]
  simp
theorem fill_len (A : List Nat) (n k : Nat) (hA : A.length = k) (hk : k ≤ n) : (A ++ List.replicate (n - k) 0).length = n := by
  simp; omega

end Go.Proofs.YtcjgjkejhkhknabGreatDoor

/-
  The walk of the specification's first state.
-/
namespace Go.Proofs.YtcjgjkejhkhknabGreatDoor
open Go.RowKit
open Dig

end Go.Proofs.YtcjgjkejhkhknabGreatDoor

/-
  The walks of the specification's words of a text, and of the bytes of words.
-/
namespace Go.Proofs.YtcjgjkejhkhknabGreatDoor
open Go.RowKit
open Dig

theorem words_take (l : List UInt8) (k : Nat) : wordsN (k + 1) l = wordsN k l ++ [word (l.drop (4 * k))] := rfl

end Go.Proofs.YtcjgjkejhkhknabGreatDoor
