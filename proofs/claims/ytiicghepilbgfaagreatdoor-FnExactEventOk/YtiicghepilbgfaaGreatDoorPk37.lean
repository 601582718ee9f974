/-
  MtConv; HexMath; DecMath; MarkTx; Flt; SliL
-/
import Derived.Test.YtiicghepilbgfaaGreatDoorPk0
import Derived.Lib.ItoaNum
import Derived.Lib.ItoaMem
import Derived.Lib.ItoaLen
import Derived.Test.YtiicghepilbgfaaGreatDoorPk29
import Derived.Test.YtiicghepilbgfaaGreatDoorPk27
/-
  One byte made a text, and put ahead of one.
-/
namespace Go.Proofs.YtiicghepilbgfaaGreatDoor
open Go.RowKit

theorem mt_conv (w : World) (c : UInt8) (x : Int) (h : (c.toNat : Int) = x) :
    (convert 155 9 (.slice (some ⟨w.heap.size, 0, none⟩) 1 1)).run Tryz.prog (w.alloc (.cells #[.int .u8 x] 5)) = .ok (.string ⟨#[c]⟩) (w.alloc (.cells #[.int .u8 x] 5)) := by
  subst h
  exact run_convert_bytes_back (P := Tryz.prog) (w.alloc (.cells #[.int .u8 c.toNat] 5)) 155 9 5 ⟨w.heap.size, 0, none⟩ 1 [c] Tryz.underlying155 Tryz.underlying5 Tryz.underlying9
    (fun j hj => by
      have : j = 0 := by simpa using hj
      subst this
      exact one_cell w _ 5 0 _ rfl)
theorem mt_cons (c : UInt8) (l : List UInt8) : Value.string (⟨#[c]⟩ ++ ⟨l.toArray⟩) = .string ⟨(c :: l).toArray⟩ := by
  rw [show (#[c] : Array UInt8) = [c].toArray from rfl, ByteArray.mk_append_mk]; rfl
end Go.Proofs.YtiicghepilbgfaaGreatDoor

/-
  Plain facts on figures: no Go in them.
-/
namespace Go.Proofs.YtiicghepilbgfaaGreatDoor.Words

/-- A figure's byte, as a number. -/
def figZ (x : Int) : Int := if x < 10 then 48 + x else 97 + x - 10
def fig (x : Nat) : UInt8 := UInt8.ofNat (figZ x).toNat
theorem figZ_bd (x : Int) (h0 : 0 ≤ x) (h1 : x < 16) : 48 ≤ figZ x ∧ figZ x ≤ 102 := by unfold figZ; split <;> omega
theorem fig_nat (x : Nat) (h1 : x < 16) : ((fig x).toNat : Int) = figZ x := by
  have := figZ_bd x (by omega) (by omega)
  unfold fig
  rw [UInt8.toNat_ofNat']
  omega

def hexL : List UInt8 → List UInt8
  | [] => []
  | c :: r => fig (c.toNat / 16) :: fig (c.toNat % 16) :: hexL r
theorem hexL_snoc (l : List UInt8) (c : UInt8) : hexL (l ++ [c]) = hexL l ++ [fig (c.toNat / 16), fig (c.toNat % 16)] := by
  induction l with
  | nil => rfl
  | cons a l ih => simp [hexL, ih]
theorem hexL_len (l : List UInt8) : (hexL l).length = 2 * l.length := by
  induction l with
  | nil => rfl
  | cons a l ih => simp [hexL, ih]; omega
theorem hexL_take (l : List UInt8) (k : Nat) (h : k < l.length) : hexL (l.take (k + 1)) = hexL (l.take k) ++ [fig (l[k].toNat / 16), fig (l[k].toNat % 16)] := by
  rw [List.take_succ_eq_append_getElem h, hexL_snoc]
end Go.Proofs.YtiicghepilbgfaaGreatDoor.Words

/-
  Plain facts on decimal figures: no Go in them.
-/
namespace Go.Proofs.YtiicghepilbgfaaGreatDoor.Words
open Go.Lib (decDigits itoa)

/-- The figures ahead of those that were written. -/
def pre (m : Nat) : List UInt8 := if m = 0 then [] else decDigits m
theorem pre_zero : pre 0 = [] := rfl
theorem pre_pos (m : Nat) (h : 0 < m) : pre m = decDigits m := by rw [pre, if_neg (by omega)]
theorem pre_step (m : Nat) (h : 0 < m) : pre m = pre (m / 10) ++ [fig (m % 10)] := by
  have hf : fig (m % 10) = UInt8.ofNat (48 + m % 10) := by
    unfold fig figZ
    rw [if_pos (by omega)]
    congr 1
  rw [pre_pos m h, decDigits]
  by_cases h10 : m < 10
  · rw [dif_pos h10, show m / 10 = 0 by omega, pre_zero, hf, Nat.mod_eq_of_lt h10]; rfl
  · rw [dif_neg h10, pre_pos (m / 10) (by omega), hf]
theorem dacc_step {m u : Nat} {acc : List UInt8} (h : pre m ++ acc = decDigits u) (hm : 0 < m) : pre (m / 10) ++ (fig (m % 10) :: acc) = decDigits u := by
  rw [← h, pre_step m hm]; simp
theorem dacc_len {m u : Nat} {acc : List UInt8} (h : pre m ++ acc = decDigits u) (hu : u ≤ 9223372036854775808) : acc.length ≤ 21 := by
  have h1 := congrArg List.length h
  have h2 : (decDigits u).length ≤ 21 := by
    by_cases h0 : u = 0
    · subst h0
      have := Go.Lib.itoa_length_le 0 (by omega) (by omega)
      rw [show (0 : Int) = ((0 : Nat) : Int) from rfl, Go.Lib.itoa_nonneg] at this
      exact this
    · have := Go.Lib.itoa_length_le (-(u : Int)) (by omega) (by omega)
      rw [Go.Lib.itoa_neg u (by omega)] at this
      simp at this
      omega
  simp at h1
  omega
theorem tmod_neg (m : Nat) : (-(m : Int)).tmod 10 = -((m % 10 : Nat) : Int) := by
  rw [Int.neg_tmod, Int.tmod_eq_emod_of_nonneg (by omega)]; rfl
theorem tdiv_neg (m : Nat) : (-(m : Int)).tdiv 10 = -((m / 10 : Nat) : Int) := by
  rw [Int.neg_tdiv, Int.tdiv_eq_ediv_of_nonneg (by omega)]; rfl
theorem dec_zero : decDigits 0 = [48] := by rw [decDigits, dif_pos (by omega)]; rfl
end Go.Proofs.YtiicghepilbgfaaGreatDoor.Words

/-
  The walk of the law's own mark of a number.
-/
namespace Go.Proofs.YtiicghepilbgfaaGreatDoor
open Go.RowKit
open Words
open Go.Lib (decDigits)

/-- The mark of a number. -/
def markL (k : Nat) : List UInt8 := 109 :: decDigits k
theorem fig48 (m : Nat) : ((fig (m % 10)).toNat : Int) = 48 + (m : Int) % 10 := by
  rw [fig_nat (m % 10) (by omega)]
  unfold figZ
  rw [if_pos (by omega)]
  omega
set_option maxHeartbeats 400000 in
set_option maxRecDepth 100000 in
theorem markText_any (k : Nat) (w : World) (hk : 0 < k) (hk2 : k ≤ 1000000000000) :
    Calls Tryz.prog 59 #[.int .i64 k] w fun e w' => e = .returned (.string ⟨(markL k).toArray⟩) ∧ Below w.heap.size w w' := by
  have g1 : ¬ (k : Int) ≤ 0 := by omega
  go_enter Tryz.func59, Tryz.ntmps59
  go_wp2
  go_loopw [0, 3] (fun nv sv wr => ∃ (m : Nat) (acc : List UInt8), nv = .int .i64 m ∧ m ≤ k ∧ Hid (pre m ++ acc = decDigits k) ∧ sv = .string ⟨acc.toArray⟩ ∧ Below w.heap.size w wr) (fun nv _ _ => (intOf nv).toNat)
  case atStart => exact ⟨k, [], rfl, Nat.le_refl _, by show _ = _; rw [pre_pos k hk, List.append_nil], rfl, Below.refl _ _⟩
  case round =>
    obtain ⟨m, acc, rfl, hm, hacc, rfl, hbel⟩ := hrel
    have hsz := hbel.size
    have hal := dacc_len hacc.out (by omega)
    by_cases hm0 : m = 0
    · subst hm0
      have E : Hid (acc = decDigits k) := hacc
      go_wp2
      go_ret
      exact ⟨by rw [markL, ← E.out]; exact congrArg Ending.returned (mt_cons 109 acc), hbel⟩
    · have t1 : (0 : Int) < m := by omega
      have A2 : Hid (pre (m / 10) ++ (fig (m % 10) :: acc) = decDigits k) := dacc_step hacc.out (by omega)
      have hcv := mt_conv wr (fig (m % 10)) _ (fig48 m)
      clear hacc hm0
      go_wp2
      go_roundw
      case rel => exact ⟨m / 10, fig (m % 10) :: acc, by go_num, by omega, A2, mt_cons _ _, hbel.alloc (by omega) _⟩
      case measure => simp [intOf]; omega
theorem markText_int (x : Int) (n : Nat) (hx : x = n) (w : World) (h0 : 0 < n) (h1 : n ≤ 1000000000000) :
    Calls Tryz.prog 59 #[.int .i64 x] w fun e w' => e = .returned (.string ⟨(markL n).toArray⟩) ∧ Below w.heap.size w w' := by
  subst hx
  exact markText_any n w h0 h1
end Go.Proofs.YtiicghepilbgfaaGreatDoor

/-
  Rows by their cells alone, and the marks of the laws.
-/
namespace Go.Proofs.YtiicghepilbgfaaGreatDoor
open Go.RowKit

/-- A block whose first cells are these. -/
def Flt (t : TypeId) (g : Nat) (xs : List Value) : World → Prop := fun W => ∃ cs : Array Value, W.heap[g]? = some (.cells cs t (0, 0)) ∧ ∀ (i : Nat) (v : Value), xs[i]? = some v → cs[i]? = some v
theorem Flt.loc (t : TypeId) (g : Nat) (xs : List Value) : Loc g (g + 1) (Flt t g xs) := by
  rintro w w' hk ⟨cs, h1, h2⟩
  exact ⟨cs, (hk g (Nat.le_refl _) (by omega)).trans h1, h2⟩
theorem Flt.cell {t : TypeId} {g : Nat} {xs : List Value} {w : World} (h : Flt t g xs w) {k : Nat} {v : Value} (hk : xs[k]? = some v) : w.cell? ⟨g, k, none⟩ = some v := by
  obtain ⟨cs, h1, h2⟩ := h
  rw [cell_of_row _ _ k _ _ _ h1]
  exact h2 k v hk
theorem Flt.frozen {t : TypeId} {g : Nat} {xs : List Value} {w : World} (h : Flt t g xs w) (o : Nat) : w.frozen? ⟨g, o, none⟩ = false := by
  obtain ⟨cs, h1, -⟩ := h
  exact frozen_of_row _ _ o _ _ h1
theorem Flt.below {t : TypeId} {g : Nat} {xs : List Value} {w w' : World} (h : Flt t g xs w) (hb : Below w.heap.size w w') : Flt t g xs w' := by
  have hlt : g < w.heap.size := by obtain ⟨cs, h1, -⟩ := h; exact (Array.getElem?_eq_some_iff.1 h1).1
  exact Flt.loc t g xs w w' (fun q q1 q2 => hb.block q (by omega)) h
theorem Flt.set {t : TypeId} {g : Nat} {xs : List Value} {w : World} (h : Flt t g xs w) (k : Nat) (u : Value) : Flt t g (xs.set k u) (w.setCell ⟨g, k, none⟩ u) := by
  obtain ⟨cs, h1, h2⟩ := h
  refine ⟨cs.setIfInBounds k u, ?_, fun i v hv => ?_⟩
  · rw [setCell_eq_setRow w g k cs t (0, 0) u h1]
    exact setRow_heap w g cs _ t _ h1
  · rw [List.getElem?_set] at hv
    rw [Array.getElem?_setIfInBounds]
    by_cases e : k = i
    · rw [if_pos e] at hv ⊢
      by_cases hl : k < xs.length
      · rw [if_pos hl] at hv
        obtain ⟨x, hx⟩ : ∃ x, xs[k]? = some x := ⟨_, List.getElem?_eq_getElem hl⟩
        have := (Array.getElem?_eq_some_iff.1 (h2 k x hx)).1
        rw [if_pos this]
        exact hv
      · rw [if_neg hl] at hv
        cases hv
    · rw [if_neg e] at hv ⊢
      exact h2 i v hv
/-- Cells are written one behind the other. -/
theorem Flt.step {t : TypeId} {g k : Nat} {xs M : List Value} {w : World} {u : Value} (h : Flt t g (M.take k ++ xs.drop k) w) (hu : M[k]? = some u) (hl : M.length = xs.length) : Flt t g (M.take (k + 1) ++ xs.drop (k + 1)) (w.setCell ⟨g, k, none⟩ u) := by
  obtain ⟨hk, e⟩ := List.getElem?_eq_some_iff.1 hu
  have := h.set k u
  rw [List.set_append_right _ _ (by rw [List.length_take]; omega), List.length_take, Nat.min_eq_left (by omega), Nat.sub_self, List.drop_eq_getElem_cons (by omega), List.set_cons_zero] at this
  rw [List.take_succ_eq_append_getElem hk, e, List.append_assoc]
  exact this
theorem Flt.old {t : TypeId} {g k : Nat} {xs M : List Value} {w : World} {u : Value} (h : Flt t g (M.take k ++ xs.drop k) w) (hu : xs[k]? = some u) (hl : M.length = xs.length) : w.cell? ⟨g, k, none⟩ = some u := by
  obtain ⟨hk, e⟩ := List.getElem?_eq_some_iff.1 hu
  refine h.cell ?_
  rw [List.getElem?_append_right (by rw [List.length_take]; omega), List.length_take, Nat.min_eq_left (by omega), Nat.sub_self, List.getElem?_drop]
  simpa using hu

/-- A slice of n elements, whose cells are these, in a block from lo on and below hi. -/
def Sli (t : TypeId) (lo hi : Nat) (v : Value) (n : Nat) (xs : List Value) : World → Prop := fun W => (v = .slice none 0 0 ∧ n = 0) ∨ ∃ g cap, v = .slice (some ⟨g, 0, none⟩) n cap ∧ lo ≤ g ∧ g < hi ∧ Flt t g xs W
theorem Sli.loc (t : TypeId) (lo hi : Nat) (v : Value) (n : Nat) (xs : List Value) : Loc lo hi (Sli t lo hi v n xs) := by
  rintro w w' hk (h | ⟨g, cap, h1, h2, h3, h4⟩)
  · exact Or.inl h
  · exact Or.inr ⟨g, cap, h1, h2, h3, Flt.loc t g xs w w' (fun q q1 q2 => hk q (by omega) (by omega)) h4⟩
theorem Sli.form {t : TypeId} {lo hi n : Nat} {v : Value} {xs : List Value} {w : World} (h : Sli t lo hi v n xs w) : ∃ ad cap, v = .slice ad n cap ∧ (0 < n → ∃ g, ad = some ⟨g, 0, none⟩ ∧ lo ≤ g ∧ g < hi) := by
  rcases h with ⟨h1, h2⟩ | ⟨g, cap, h1, h2, h3, -⟩
  · exact ⟨none, 0, by rw [h1, h2], fun h => by omega⟩
  · exact ⟨_, cap, h1, fun _ => ⟨g, rfl, h2, h3⟩⟩
theorem Sli.flt {t : TypeId} {lo hi n g cap : Nat} {xs : List Value} {w : World} (h : Sli t lo hi (.slice (some ⟨g, 0, none⟩) n cap) n xs w) : Flt t g xs w := by
  rcases h with ⟨h1, -⟩ | ⟨g', cap', h1, -, -, h4⟩
  · cases h1
  · injection h1 with a
    injection a with a
    injection a with a
    subst a
    exact h4
theorem Sli.of {t : TypeId} {size lo n : Nat} {v : Value} {xs : List Value} {w : World} (h : w.ownsRow lo t size v n xs) : Sli t lo w.heap.size v n xs w := by
  have hlt := h.lt
  rcases h.2 with ⟨h1, h2⟩ | ⟨g, cap, cur, rfl, h2, h3, h4, h5, h6, h7⟩
  · exact Or.inl ⟨h1, h2⟩
  · refine Or.inr ⟨g, cap, rfl, h2, (hlt g rfl).2, cur, h3, fun i x hx => ?_⟩
    rw [← h7] at hx
    obtain ⟨h8, h9⟩ := List.getElem?_eq_some_iff.1 hx
    rw [List.getElem_take] at h9
    rw [List.length_take] at h8
    rw [← Array.getElem?_toList, List.getElem?_eq_some_iff]
    exact ⟨by omega, h9⟩

/-- The mark of one cell: a number, or a text. -/
def mkv (s : Bool) (k : Nat) : Value := if s then .string ⟨(markL k).toArray⟩ else .int .i64 (k : Int)
/-- The marks of n elements of one make. -/
def mkFlat (pat : List Bool) (k0 n : Nat) : List Value := (List.range (n * pat.length)).map (fun i => mkv (pat.getD (i % pat.length) false) (k0 + i))
theorem mkFlat_len (pat : List Bool) (k0 n : Nat) : (mkFlat pat k0 n).length = n * pat.length := by simp [mkFlat]
theorem mkFlat_at (pat : List Bool) (k0 n i j : Nat) (s : Bool) (hi : i < n) (hs : pat[j]? = some s) : (mkFlat pat k0 n)[i * pat.length + j]? = some (mkv s (k0 + (i * pat.length + j))) := by
  have hj := (List.getElem?_eq_some_iff.1 hs).1
  have hlt : i * pat.length + j < n * pat.length := by
    have : (i + 1) * pat.length ≤ n * pat.length := Nat.mul_le_mul_right _ (by omega)
    rw [Nat.succ_mul] at this
    omega
  have hm : (i * pat.length + j) % pat.length = j := by
    rw [Nat.add_comm, Nat.add_mul_mod_self_right]
    exact Nat.mod_eq_of_lt hj
  simp only [mkFlat, List.getElem?_map, List.getElem?_range hlt, Option.map_some, hm, List.getD_eq_getElem?_getD, hs, Option.getD_some]
end Go.Proofs.YtiicghepilbgfaaGreatDoor

/-
  Slices by their cells: bounds, growth.
-/
namespace Go.Proofs.YtiicghepilbgfaaGreatDoor
open Go.RowKit

theorem Sli.up {t : TypeId} {lo hi hi' n : Nat} {v : Value} {xs : List Value} {w : World} (h : Sli t lo hi v n xs w) (hh : hi ≤ hi') : Sli t lo hi' v n xs w := by
  rcases h with h | ⟨g, cap, e, h1, h2, h3⟩
  · exact .inl h
  · exact .inr ⟨g, cap, e, h1, by omega, h3⟩
theorem Sli.dn {t : TypeId} {lo lo' hi n : Nat} {v : Value} {xs : List Value} {w : World} (h : Sli t lo hi v n xs w) (hh : lo' ≤ lo) : Sli t lo' hi v n xs w := by
  rcases h with h | ⟨g, cap, e, h1, h2, h3⟩
  · exact .inl h
  · exact .inr ⟨g, cap, e, by omega, h2, h3⟩
theorem Sli.blw {t : TypeId} {lo hi n : Nat} {v : Value} {xs : List Value} {w w' : World} (h : Sli t lo hi v n xs w) (hb : Below w.heap.size w w') : Sli t lo hi v n xs w' := by
  rcases h with h | ⟨g, cap, e, h1, h2, h3⟩
  · exact .inl h
  · exact .inr ⟨g, cap, e, h1, h2, h3.below hb⟩
theorem Sli.lt {t : TypeId} {lo hi n : Nat} {v : Value} {xs : List Value} {w : World} (h : Sli t lo hi v n xs w) : ∀ g, v.ownBlock = some g → lo ≤ g ∧ g < hi ∧ ∃ cs, w.heap[g]? = some (.cells cs t (0, 0)) := by
  intro g hg
  rcases h with ⟨rfl, -⟩ | ⟨g', cap, rfl, h1, h2, cs, h3, -⟩
  · cases hg
  · simp only [Value.ownBlock, Option.some.injEq] at hg
    subst hg
    exact ⟨h1, h2, cs, h3⟩
theorem Sli.grown {t : TypeId} {lo hi n : Nat} {v : Value} {xs : List Value} {w y : World} {row : Option Nat} (h : Sli t lo hi v n xs w) (hg : w.grownBy y row) (hr : ∀ g, v.ownBlock = some g → row ≠ some g) : Sli t lo hi v n xs y := by
  rcases h with h | ⟨g, cap, rfl, h1, h2, cs, h3, h4⟩
  · exact .inl h
  · exact .inr ⟨g, cap, rfl, h1, h2, cs, (hg.block g (Array.getElem?_eq_some_iff.1 h3).1 (fun e => hr g rfl e.symm)).trans h3, h4⟩
theorem own_kind {w : World} {B : Nat} {e : TypeId} {size n : Nat} {v : Value} {xs : List Value} (h : w.ownsRow B e size v n xs) : ∀ g, v.ownBlock = some g → B ≤ g ∧ g < w.heap.size ∧ ∃ cs, w.heap[g]? = some (.cells cs e (0, 0)) := by
  intro g hg
  obtain ⟨h1, h2⟩ := h.lt g hg
  rcases h.2 with ⟨rfl, -⟩ | ⟨g', cap, cur, rfl, -, q, -⟩
  · cases hg
  · simp only [Value.ownBlock, Option.some.injEq] at hg
    subst hg
    exact ⟨h1, h2, _, q⟩
end Go.Proofs.YtiicghepilbgfaaGreatDoor
