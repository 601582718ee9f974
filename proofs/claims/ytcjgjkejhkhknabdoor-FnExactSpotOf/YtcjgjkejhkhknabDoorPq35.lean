/-
  GRow; GMath; Fits
-/
import Derived.Test.YtcjgjkejhkhknabDoorPq34
import Derived.Test.YtcjgjkejhkhknabDoorPq2
import Derived.Test.YtcjgjkejhkhknabDoorPq12
/-
  Rows of tokens of any numbers that the call owns.
-/
namespace Go.Proofs.YtcjgjkejhkhknabDoor
open Go.RowKit

/-- The cells of tokens of any numbers. -/
def gcell (t : Int × Int × ByteArray) : List Value := [.int .i64 t.1, .int .i64 t.2.1, .string t.2.2]
def gcells (l : List (Int × Int × ByteArray)) : List Value := l.flatMap gcell
def gtok (t : Nat × Nat × List UInt8) : Int × Int × ByteArray := ((t.1 : Int), (t.2.1 : Int), ⟨t.2.2.toArray⟩)
theorem tcells_g (l : List (Nat × Nat × List UInt8)) : tcells l = gcells (l.map gtok) := by
  simp [tcells, gcells, List.flatMap_map, gtok, gcell]
  rfl
theorem gcells_len (l : List (Int × Int × ByteArray)) : (gcells l).length = l.length * 3 := by
  induction l with
  | nil => rfl
  | cons t l ih => simp [gcells, gcell] at ih ⊢; omega
theorem gcells_app (a b : List (Int × Int × ByteArray)) : gcells (a ++ b) = gcells a ++ gcells b := by simp [gcells]
theorem gcells_at (l : List (Int × Int × ByteArray)) (k : Nat) (t : Int × Int × ByteArray) (h : l[k]? = some t) : (gcells l)[k * 3]? = some (.int .i64 t.1) ∧ (gcells l)[k * 3 + 1]? = some (.int .i64 t.2.1) ∧ (gcells l)[k * 3 + 2]? = some (.string t.2.2) := by
  induction l generalizing k with
  | nil => simp at h
  | cons a l ih =>
    cases k with
    | zero =>
      simp at h
      subst h
      exact ⟨rfl, rfl, rfl⟩
    | succ k =>
      have := ih k (by simpa using h)
      have e : gcells (a :: l) = gcell a ++ gcells l := by simp [gcells]
      have hl : (gcell a).length = 3 := rfl
      rw [e, List.getElem?_append_right (by rw [hl]; omega), List.getElem?_append_right (by rw [hl]; omega), List.getElem?_append_right (by rw [hl]; omega), hl, show (k + 1) * 3 - 3 = k * 3 by omega, show (k + 1) * 3 + 1 - 3 = k * 3 + 1 by omega, show (k + 1) * 3 + 2 - 3 = k * 3 + 2 by omega]
      exact this
theorem gown_cells {w : World} {B n cap g k : Nat} {l : List (Int × Int × ByteArray)} {t : Int × Int × ByteArray} (h : w.ownsRow B 89 3 (.slice (some ⟨g, 0, none⟩) n cap) n (gcells l)) (ht : l[k]? = some t) :
    w.cell? ⟨g, k * 3, none⟩ = some (.int .i64 t.1) ∧ w.cell? ⟨g, k * 3 + 1, none⟩ = some (.int .i64 t.2.1) ∧ w.cell? ⟨g, k * 3 + 2, none⟩ = some (.string t.2.2) := by
  obtain ⟨h1, h2, h3⟩ := gcells_at l k t ht
  have c1 := h.cells (g := g) rfl _ _ h1
  have c2 := h.cells (g := g) rfl _ _ h2
  have c3 := h.cells (g := g) rfl _ _ h3
  rw [addr_at] at c1 c2 c3
  exact ⟨c1, c2, c3⟩
theorem row_form3 {w : World} {B : Nat} {e : TypeId} {z : Nat} {v : Value} {n : Nat} {xs : List Value} (h : w.ownsRow B e z v n xs) :
    ∃ ad cap, v = .slice ad n cap ∧ n ≤ cap ∧ cap ≤ maxLen ∧ (0 < n → ∃ g, ad = some ⟨g, 0, none⟩ ∧ B ≤ g ∧ g < w.heap.size) := by
  have hlt := h.lt
  rcases h.2 with ⟨h1, h2⟩ | ⟨g, cap, cur, h1, -, -, h3, h4, -⟩
  · exact ⟨none, 0, by rw [h1, h2], by omega, by unfold maxLen; omega, fun h => by omega⟩
  · subst h1
    exact ⟨_, cap, rfl, h3, h4, fun _ => ⟨g, rfl, hlt g rfl⟩⟩

end Go.Proofs.YtcjgjkejhkhknabDoor

/-
  What tokens of any numbers tell.
-/
namespace Go.Proofs.YtcjgjkejhkhknabDoor
open Go.RowKit
open Pack

/-- A token of any numbers that is right behind so many bytes. -/
def GOk (len : Nat) (t : Int × Int × ByteArray) : Prop := (t.1 = 0 ∧ 1 ≤ t.2.2.size ∧ t.2.2.size ≤ 31 ∧ t.2.1 = 0) ∨ (1 ≤ t.1 ∧ t.1 ≤ len ∧ 1 ≤ t.2.1 ∧ t.2.1 ≤ 31 ∧ t.2.2.size = 0)
abbrev decGOk (len : Nat) (t : Int × Int × ByteArray) : Decidable (GOk len t) := by unfold GOk; exact inferInstance
def gtell (out : List UInt8) (t : Int × Int × ByteArray) : List UInt8 := again t.2.1.toNat t.1.toNat (out ++ t.2.2.data.toList)
def gplainFrom (out : List UInt8) : List (Int × Int × ByteArray) → Option (List UInt8)
  | [] => some out
  | t :: r => letI := decGOk out.length t; if GOk out.length t ∧ out.length + t.2.2.size + t.2.1.toNat ≤ 64 then gplainFrom (gtell out t) r else none
def gplain (l : List (Int × Int × ByteArray)) : Option (List UInt8) := gplainFrom [] l
theorem gtell_len (out : List UInt8) (t : Int × Int × ByteArray) : (gtell out t).length = out.length + t.2.2.size + t.2.1.toNat := by
  unfold gtell
  rw [again_len, List.length_append]
  simp
theorem gok_tok (len : Nat) (t : Nat × Nat × List UInt8) : GOk len (gtok t) ↔ TokOk len t := by
  obtain ⟨b, z, x⟩ := t
  have hx : (⟨x.toArray⟩ : ByteArray).size = x.length := by show x.toArray.size = _; simp
  unfold GOk TokOk gtok
  simp only [hx]
  have h0 : x.length = 0 ↔ x = [] := List.length_eq_zero_iff
  rw [← h0]
  split <;> omega
theorem gtell_tok (out : List UInt8) (t : Nat × Nat × List UInt8) (h : TokOk out.length t) : gtell out (gtok t) = tell out t := by
  obtain ⟨b, z, x⟩ := t
  unfold TokOk at h
  unfold gtell tell gtok
  simp only [Int.toNat_natCast] at *
  split at h
  · rename_i hb
    rw [if_pos hb, h.2.2]
    rfl
  · rename_i hb
    rw [if_neg hb, h.2.2.2]
    simp
theorem gplain_tok (l : List (Nat × Nat × List UInt8)) (out : List UInt8) : gplainFrom out (l.map gtok) = plainFrom out l := by
  induction l generalizing out with
  | nil => rfl
  | cons t r ih =>
    rw [List.map_cons, gplainFrom, plainFrom]
    by_cases h : TokOk out.length t
    · have e := gtell_tok out t h
      have hl := gtell_len out (gtok t)
      rw [e] at hl
      rw [if_pos h, e, ih]
      by_cases h2 : (tell out t).length ≤ 64
      · rw [if_pos ⟨(gok_tok _ _).2 h, by omega⟩, if_pos h2]
      · rw [if_neg (fun h3 => h2 (by omega)), if_neg h2]
    · rw [if_neg (fun h3 => h ((gok_tok _ _).1 h3.1)), if_neg h]

/-- What the call of a plain text answers. -/
def plainV (r : Option (List UInt8)) : Value := match r with
  | some o => .tuple #[.string ⟨o.toArray⟩, .bool true]
  | none => .tuple #[.string ⟨#[]⟩, .bool false]
theorem gplain_step (out : List UInt8) (ls : List (Int × Int × ByteArray)) (k : Nat) (t : Int × Int × ByteArray) (h : ls[k]? = some t) :
    gplainFrom out (ls.drop k) = letI := decGOk out.length t; if GOk out.length t ∧ out.length + t.2.2.size + t.2.1.toNat ≤ 64 then gplainFrom (gtell out t) (ls.drop (k + 1)) else none := by
  obtain ⟨h1, h2⟩ := List.getElem?_eq_some_iff.1 h
  rw [List.drop_eq_getElem_cons h1, h2]
  rfl
theorem again_next (n back : Nat) (o : List UInt8) : again (n + 1) back o = again n back (o ++ [o.getD (o.length - back) 0]) := rfl
theorem bcells_getD (o : List UInt8) (j : Nat) (hj : j < o.length) : (bcells o)[j]? = some (.int .u8 ((o.getD j 0).toNat : Int)) := by
  rw [bcells_at o j hj, List.getD_eq_getElem?_getD, List.getElem?_eq_getElem hj]
  rfl
end Go.Proofs.YtcjgjkejhkhknabDoor

/-
  The walk of the program's test of a token.
-/
namespace Go.Proofs.YtcjgjkejhkhknabDoor
open Go.RowKit
open Pack

def GFit (n : Nat) (a b : Int) (t : ByteArray) : Prop := GOk n (a, b, t) ∧ n + t.size + b.toNat ≤ 64
abbrev decGFit (n : Nat) (a b : Int) (t : ByteArray) : Decidable (GFit n a b t) := by unfold GFit; exact @instDecidableAnd _ _ (decGOk _ _) _

set_option maxHeartbeats 1000000 in
set_option maxRecDepth 100000 in
theorem fits_any (a b : Int) (t : ByteArray) (n : Nat) (w : World) (hn : n ≤ 64) :
    Calls Tryd.prog 78 #[.agg #[.int .i64 a, .int .i64 b, .string t], .int .i64 n] w fun e w' => e = .returned (.bool (@decide (GFit n a b t) (decGFit n a b t))) ∧ Below w.heap.size w w' := by
  have fin : ∀ (v : Bool) (w' : World), @decide (GFit n a b t) (decGFit n a b t) = v → Hid (Below w.heap.size w w') → (Ending.returned (.bool v) = .returned (.bool (@decide (GFit n a b t) (decGFit n a b t))) ∧ Below w.heap.size w w') := fun v w' h hb => ⟨by rw [h], hb.out⟩
  have HF := hide fin
  have HB := hide ((Below.refl w.heap.size w).alloc (Nat.le_refl _) (.cells #[.int .i64 a, .int .i64 b, .string t] 89))
  clear fin
  have G : Hid (GFit n a b t ↔ (a = 0 ∧ 1 ≤ t.size ∧ t.size ≤ 31 ∧ b = 0 ∧ n + t.size ≤ 64) ∨ (1 ≤ a ∧ a ≤ n ∧ 1 ≤ b ∧ b ≤ 31 ∧ t.size = 0 ∧ n + b ≤ 64)) := by
    show _ ↔ _
    unfold GFit GOk
    simp only
    omega
  go_enter Tryd.func78, Tryd.ntmps78
  by_cases h1 : a < 0
  · have HX := hide (dcN (fun h => by have := G.out.1 h; omega) : @decide (GFit n a b t) (decGFit n a b t) = false)
    go_wp2
    go_ret
    exact HF.out _ _ HX.out HB
  · by_cases h2 : (n : Int) < a
    · have HX := hide (dcN (fun h => by have := G.out.1 h; omega) : @decide (GFit n a b t) (decGFit n a b t) = false)
      go_wp2
      go_ret
      exact HF.out _ _ HX.out HB
    · by_cases h3 : 0 < a
      · have HX : Hid (@decide (GFit n a b t) (decGFit n a b t) = decide (1 ≤ b ∧ b ≤ 31 ∧ t.size = 0 ∧ n + b ≤ 64)) := by
          show _ = _
          refine dcE ?_
          constructor
          · intro h; have := G.out.1 h; omega
          · intro h; exact G.out.2 (by omega)
        by_cases k1 : ((t.size : Int) == 0) = true
        · have k1' : t.size = 0 := by rw [beq_iff_eq] at k1; omega
          by_cases k2 : 1 ≤ b
          · by_cases k3 : b ≤ 31
            · by_cases k4 : (n : Int) + b ≤ 64
              · have HY : Hid (@decide (GFit n a b t) (decGFit n a b t) = true) := by show _ = _; rw [HX.out]; exact dcY (by omega)
                clear HX k1'
                go_wp2
                go_quiet (fail)
                go_wp2
                go_ret
                exact HF.out _ _ HY.out (below_drewN HB.out _)
              · have HY : Hid (@decide (GFit n a b t) (decGFit n a b t) = false) := by show _ = _; rw [HX.out]; exact dcN (by omega)
                clear HX k1'
                go_wp2
                go_quiet (fail)
                go_wp2
                go_ret
                exact HF.out _ _ (HY.out.trans (dcN (by omega)).symm) (below_drewN HB.out _)
            · have HY : Hid (@decide (GFit n a b t) (decGFit n a b t) = false) := by show _ = _; rw [HX.out]; exact dcN (by omega)
              clear HX k1'
              go_wp2
              go_quiet (fail)
              go_wp2
              go_ret
              exact HF.out _ _ HY.out (below_drewN HB.out _)
          · have HY : Hid (@decide (GFit n a b t) (decGFit n a b t) = false) := by show _ = _; rw [HX.out]; exact dcN (by omega)
            clear HX k1'
            go_wp2
            go_quiet (fail)
            go_wp2
            go_ret
            exact HF.out _ _ HY.out (below_drewN HB.out _)
        · have k1' : ¬ t.size = 0 := fun h => k1 (by rw [beq_iff_eq]; omega)
          have k1f : ((t.size : Int) == 0) = false := by simpa using k1
          have HY : Hid (@decide (GFit n a b t) (decGFit n a b t) = false) := by show _ = _; rw [HX.out]; exact dcN (by omega)
          clear HX k1' k1
          go_wp2
          go_quiet (fail)
          go_wp2
          go_ret
          exact HF.out _ _ HY.out (below_drewN HB.out _)
      · have h4 : a = 0 := by omega
        have HX : Hid (@decide (GFit n a b t) (decGFit n a b t) = decide (1 ≤ t.size ∧ t.size ≤ 31 ∧ b = 0 ∧ n + t.size ≤ 64)) := by
          show _ = _
          refine dcE ?_
          constructor
          · intro h; have := G.out.1 h; omega
          · intro h; exact G.out.2 (by omega)
        clear h4
        by_cases k1 : (b == 0) = true
        · have k1' : b = 0 := by rw [beq_iff_eq] at k1; omega
          by_cases k2 : 1 ≤ (t.size : Int)
          · by_cases k3 : (t.size : Int) ≤ 31
            · by_cases k4 : (n : Int) + t.size ≤ 64
              · have HY : Hid (@decide (GFit n a b t) (decGFit n a b t) = true) := by show _ = _; rw [HX.out]; exact dcY (by omega)
                clear HX k1'
                go_wp2
                go_quiet (fail)
                go_wp2
                go_ret
                exact HF.out _ _ HY.out (below_drewN HB.out _)
              · have HY : Hid (@decide (GFit n a b t) (decGFit n a b t) = false) := by show _ = _; rw [HX.out]; exact dcN (by omega)
                clear HX k1'
                go_wp2
                go_quiet (fail)
                go_wp2
                go_ret
                exact HF.out _ _ (HY.out.trans (dcN (by omega)).symm) (below_drewN HB.out _)
            · have HY : Hid (@decide (GFit n a b t) (decGFit n a b t) = false) := by show _ = _; rw [HX.out]; exact dcN (by omega)
              clear HX k1'
              go_wp2
              go_quiet (fail)
              go_wp2
              go_ret
              exact HF.out _ _ HY.out (below_drewN HB.out _)
          · have HY : Hid (@decide (GFit n a b t) (decGFit n a b t) = false) := by show _ = _; rw [HX.out]; exact dcN (by omega)
            clear HX k1'
            go_wp2
            go_quiet (fail)
            go_wp2
            go_ret
            exact HF.out _ _ HY.out (below_drewN HB.out _)
        · have k1' : ¬ b = 0 := fun h => k1 (by rw [beq_iff_eq]; omega)
          have k1f : (b == 0) = false := by simpa using k1
          have HY : Hid (@decide (GFit n a b t) (decGFit n a b t) = false) := by show _ = _; rw [HX.out]; exact dcN (by omega)
          clear HX k1' k1
          go_wp2
          go_quiet (fail)
          go_wp2
          go_ret
          exact HF.out _ _ HY.out (below_drewN HB.out _)
end Go.Proofs.YtcjgjkejhkhknabDoor
