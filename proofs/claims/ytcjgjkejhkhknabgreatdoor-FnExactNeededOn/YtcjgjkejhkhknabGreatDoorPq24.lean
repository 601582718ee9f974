/-
  GRow; GMath; Fits; IPlain; PkMM; TRows; Bytes
-/
import Derived.Test.YtcjgjkejhkhknabGreatDoorPq23
import Derived.Test.YtcjgjkejhkhknabGreatDoorPq0
import Derived.Lib.AppendStr
/-
  Rows of tokens of any numbers that the call owns.
-/
namespace Go.Proofs.YtcjgjkejhkhknabGreatDoor
open Go.RowKit

/-- The cells of tokens of any numbers. -/
def gcell (t : Int × Int × ByteArray) : List Value := [.int .i64 t.1, .int .i64 t.2.1, .string t.2.2]
def gcells (l : List (Int × Int × ByteArray)) : List Value := l.flatMap gcell
def gtok (t : Nat × Nat × List UInt8) : Int × Int × ByteArray := ((t.1 : Int), (t.2.1 : Int), ⟨t.2.2.toArray⟩)
theorem tcells_g (l : List (Nat × Nat × List UInt8)) : tcells l = gcells (l.map gtok) := by
  simp [tcells, gcells, List.flatMap_map, gtok, gcell]
  rfl
theorem gcells_len (l : List (Int × Int × ByteArray)) : (gcells l).length = l.length * 3 := by
  induction l with
  | nil => rfl
  | cons t l ih => simp [gcells, gcell] at ih ⊢; omega
theorem gcells_app (a b : List (Int × Int × ByteArray)) : gcells (a ++ b) = gcells a ++ gcells b := by simp [gcells]
theorem gcells_at (l : List (Int × Int × ByteArray)) (k : Nat) (t : Int × Int × ByteArray) (h : l[k]? = some t) : (gcells l)[k * 3]? = some (.int .i64 t.1) ∧ (gcells l)[k * 3 + 1]? = some (.int .i64 t.2.1) ∧ (gcells l)[k * 3 + 2]? = some (.string t.2.2) := by
  induction l generalizing k with
  | nil => simp at h
  | cons a l ih =>
    cases k with
    | zero =>
      simp at h
      subst h
      exact ⟨rfl, rfl, rfl⟩
    | succ k =>
      have := ih k (by simpa using h)
      have e : gcells (a :: l) = gcell a ++ gcells l := by simp [gcells]
      have hl : (gcell a).length = 3 := rfl
      rw [e, List.getElem?_append_right (by rw [hl]; omega), List.getElem?_append_right (by rw [hl]; omega), List.getElem?_append_right (by rw [hl]; omega), hl, show (k + 1) * 3 - 3 = k * 3 by omega, show (k + 1) * 3 + 1 - 3 = k * 3 + 1 by omega, show (k + 1) * 3 + 2 - 3 = k * 3 + 2 by omega]
      exact this
theorem gown_cells {w : World} {B n cap g k : Nat} {l : List (Int × Int × ByteArray)} {t : Int × Int × ByteArray} (h : w.ownsRow B 190 3 (.slice (some ⟨g, 0, none⟩) n cap) n (gcells l)) (ht : l[k]? = some t) :
    w.cell? ⟨g, k * 3, none⟩ = some (.int .i64 t.1) ∧ w.cell? ⟨g, k * 3 + 1, none⟩ = some (.int .i64 t.2.1) ∧ w.cell? ⟨g, k * 3 + 2, none⟩ = some (.string t.2.2) := by
  obtain ⟨h1, h2, h3⟩ := gcells_at l k t ht
  have c1 := h.cells (g := g) rfl _ _ h1
  have c2 := h.cells (g := g) rfl _ _ h2
  have c3 := h.cells (g := g) rfl _ _ h3
  rw [addr_at] at c1 c2 c3
  exact ⟨c1, c2, c3⟩
theorem row_form3 {w : World} {B : Nat} {e : TypeId} {z : Nat} {v : Value} {n : Nat} {xs : List Value} (h : w.ownsRow B e z v n xs) :
    ∃ ad cap, v = .slice ad n cap ∧ n ≤ cap ∧ cap ≤ maxLen ∧ (0 < n → ∃ g, ad = some ⟨g, 0, none⟩ ∧ B ≤ g ∧ g < w.heap.size) := by
  have hlt := h.lt
  rcases h.2 with ⟨h1, h2⟩ | ⟨g, cap, cur, h1, -, -, h3, h4, -⟩
  · exact ⟨none, 0, by rw [h1, h2], by omega, by unfold maxLen; omega, fun h => by omega⟩
  · subst h1
    exact ⟨_, cap, rfl, h3, h4, fun _ => ⟨g, rfl, hlt g rfl⟩⟩

end Go.Proofs.YtcjgjkejhkhknabGreatDoor

/-
  What tokens of any numbers tell.
-/
namespace Go.Proofs.YtcjgjkejhkhknabGreatDoor
open Go.RowKit
open Pack

/-- A token of any numbers that is right behind so many bytes. -/
def GOk (len : Nat) (t : Int × Int × ByteArray) : Prop := (t.1 = 0 ∧ 1 ≤ t.2.2.size ∧ t.2.2.size ≤ 31 ∧ t.2.1 = 0) ∨ (1 ≤ t.1 ∧ t.1 ≤ len ∧ 1 ≤ t.2.1 ∧ t.2.1 ≤ 31 ∧ t.2.2.size = 0)
abbrev decGOk (len : Nat) (t : Int × Int × ByteArray) : Decidable (GOk len t) := by unfold GOk; exact inferInstance
def gtell (out : List UInt8) (t : Int × Int × ByteArray) : List UInt8 := again t.2.1.toNat t.1.toNat (out ++ t.2.2.data.toList)
def gplainFrom (out : List UInt8) : List (Int × Int × ByteArray) → Option (List UInt8)
  | [] => some out
  | t :: r => letI := decGOk out.length t; if GOk out.length t ∧ out.length + t.2.2.size + t.2.1.toNat ≤ 64 then gplainFrom (gtell out t) r else none
def gplain (l : List (Int × Int × ByteArray)) : Option (List UInt8) := gplainFrom [] l
theorem gtell_len (out : List UInt8) (t : Int × Int × ByteArray) : (gtell out t).length = out.length + t.2.2.size + t.2.1.toNat := by
  unfold gtell
  rw [again_len, List.length_append]
  simp
theorem gok_tok (len : Nat) (t : Nat × Nat × List UInt8) : GOk len (gtok t) ↔ TokOk len t := by
  obtain ⟨b, z, x⟩ := t
  have hx : (⟨x.toArray⟩ : ByteArray).size = x.length := by show x.toArray.size = _; simp
  unfold GOk TokOk gtok
  simp only [hx]
  have h0 : x.length = 0 ↔ x = [] := List.length_eq_zero_iff
  rw [← h0]
  split <;> omega
theorem gtell_tok (out : List UInt8) (t : Nat × Nat × List UInt8) (h : TokOk out.length t) : gtell out (gtok t) = tell out t := by
  obtain ⟨b, z, x⟩ := t
  unfold TokOk at h
  unfold gtell tell gtok
  simp only [Int.toNat_natCast] at *
  split at h
  · rename_i hb
    rw [if_pos hb, h.2.2]
    rfl
  · rename_i hb
    rw [if_neg hb, h.2.2.2]
    simp
theorem gplain_tok (l : List (Nat × Nat × List UInt8)) (out : List UInt8) : gplainFrom out (l.map gtok) = plainFrom out l := by
  induction l generalizing out with
  | nil => rfl
  | cons t r ih =>
    rw [List.map_cons, gplainFrom, plainFrom]
    by_cases h : TokOk out.length t
    · have e := gtell_tok out t h
      have hl := gtell_len out (gtok t)
      rw [e] at hl
      rw [if_pos h, e, ih]
      by_cases h2 : (tell out t).length ≤ 64
      · rw [if_pos ⟨(gok_tok _ _).2 h, by omega⟩, if_pos h2]
      · rw [if_neg (fun h3 => h2 (by omega)), if_neg h2]
    · rw [if_neg (fun h3 => h ((gok_tok _ _).1 h3.1)), if_neg h]

/-- What the call of a plain text answers. -/
def plainV (r : Option (List UInt8)) : Value := match r with
  | some o => .tuple #[.string ⟨o.toArray⟩, .bool true]
  | none => .tuple #[.string ⟨#[]⟩, .bool false]
theorem gplain_step (out : List UInt8) (ls : List (Int × Int × ByteArray)) (k : Nat) (t : Int × Int × ByteArray) (h : ls[k]? = some t) :
    gplainFrom out (ls.drop k) = letI := decGOk out.length t; if GOk out.length t ∧ out.length + t.2.2.size + t.2.1.toNat ≤ 64 then gplainFrom (gtell out t) (ls.drop (k + 1)) else none := by
  obtain ⟨h1, h2⟩ := List.getElem?_eq_some_iff.1 h
  rw [List.drop_eq_getElem_cons h1, h2]
  rfl
theorem again_next (n back : Nat) (o : List UInt8) : again (n + 1) back o = again n back (o ++ [o.getD (o.length - back) 0]) := rfl
theorem bcells_getD (o : List UInt8) (j : Nat) (hj : j < o.length) : (bcells o)[j]? = some (.int .u8 ((o.getD j 0).toNat : Int)) := by
  rw [bcells_at o j hj, List.getD_eq_getElem?_getD, List.getElem?_eq_getElem hj]
  rfl
end Go.Proofs.YtcjgjkejhkhknabGreatDoor

/-
  The walk of the program's test of a token.
-/
namespace Go.Proofs.YtcjgjkejhkhknabGreatDoor
open Go.RowKit
open Pack

def GFit (n : Nat) (a b : Int) (t : ByteArray) : Prop := GOk n (a, b, t) ∧ n + t.size + b.toNat ≤ 64
abbrev decGFit (n : Nat) (a b : Int) (t : ByteArray) : Decidable (GFit n a b t) := by unfold GFit; exact @instDecidableAnd _ _ (decGOk _ _) _

set_option maxHeartbeats 1000000 in
set_option maxRecDepth 100000 in
theorem fits_any (a b : Int) (t : ByteArray) (n : Nat) (w : World) (hn : n ≤ 64) :
    Calls Tryz.prog 160 #[.agg #[.int .i64 a, .int .i64 b, .string t], .int .i64 n] w fun e w' => e = .returned (.bool (@decide (GFit n a b t) (decGFit n a b t))) ∧ Below w.heap.size w w' := by
  have fin : ∀ (v : Bool) (w' : World), @decide (GFit n a b t) (decGFit n a b t) = v → Hid (Below w.heap.size w w') → (Ending.returned (.bool v) = .returned (.bool (@decide (GFit n a b t) (decGFit n a b t))) ∧ Below w.heap.size w w') := fun v w' h hb => ⟨by rw [h], hb.out⟩
  have HF := hide fin
  have HB := hide ((Below.refl w.heap.size w).alloc (Nat.le_refl _) (.cells #[.int .i64 a, .int .i64 b, .string t] 190))
  clear fin
  have G : Hid (GFit n a b t ↔ (a = 0 ∧ 1 ≤ t.size ∧ t.size ≤ 31 ∧ b = 0 ∧ n + t.size ≤ 64) ∨ (1 ≤ a ∧ a ≤ n ∧ 1 ≤ b ∧ b ≤ 31 ∧ t.size = 0 ∧ n + b ≤ 64)) := by
    show _ ↔ _
    unfold GFit GOk
    simp only
    omega
  go_enter Tryz.func160, Tryz.ntmps160
  by_cases h1 : a < 0
  · have HX := hide (dcN (fun h => by have := G.out.1 h; omega) : @decide (GFit n a b t) (decGFit n a b t) = false)
    go_wp2
    go_ret
    exact HF.out _ _ HX.out HB
  · by_cases h2 : (n : Int) < a
    · have HX := hide (dcN (fun h => by have := G.out.1 h; omega) : @decide (GFit n a b t) (decGFit n a b t) = false)
      go_wp2
      go_ret
      exact HF.out _ _ HX.out HB
    · by_cases h3 : 0 < a
      · have HX : Hid (@decide (GFit n a b t) (decGFit n a b t) = decide (1 ≤ b ∧ b ≤ 31 ∧ t.size = 0 ∧ n + b ≤ 64)) := by
          show _ = _
          refine dcE ?_
          constructor
          · intro h; have := G.out.1 h; omega
          · intro h; exact G.out.2 (by omega)
        by_cases k1 : ((t.size : Int) == 0) = true
        · have k1' : t.size = 0 := by rw [beq_iff_eq] at k1; omega
          by_cases k2 : 1 ≤ b
          · by_cases k3 : b ≤ 31
            · by_cases k4 : (n : Int) + b ≤ 64
              · have HY : Hid (@decide (GFit n a b t) (decGFit n a b t) = true) := by show _ = _; rw [HX.out]; exact dcY (by omega)
                clear HX k1'
                go_wp2
                go_quiet (fail)
                go_wp2
                go_ret
                exact HF.out _ _ HY.out (below_drewN HB.out _)
              · have HY : Hid (@decide (GFit n a b t) (decGFit n a b t) = false) := by show _ = _; rw [HX.out]; exact dcN (by omega)
                clear HX k1'
                go_wp2
                go_quiet (fail)
                go_wp2
                go_ret
                exact HF.out _ _ (HY.out.trans (dcN (by omega)).symm) (below_drewN HB.out _)
            · have HY : Hid (@decide (GFit n a b t) (decGFit n a b t) = false) := by show _ = _; rw [HX.out]; exact dcN (by omega)
              clear HX k1'
              go_wp2
              go_quiet (fail)
              go_wp2
              go_ret
              exact HF.out _ _ HY.out (below_drewN HB.out _)
          · have HY : Hid (@decide (GFit n a b t) (decGFit n a b t) = false) := by show _ = _; rw [HX.out]; exact dcN (by omega)
            clear HX k1'
            go_wp2
            go_quiet (fail)
            go_wp2
            go_ret
            exact HF.out _ _ HY.out (below_drewN HB.out _)
        · have k1' : ¬ t.size = 0 := fun h => k1 (by rw [beq_iff_eq]; omega)
          have k1f : ((t.size : Int) == 0) = false := by simpa using k1
          have HY : Hid (@decide (GFit n a b t) (decGFit n a b t) = false) := by show _ = _; rw [HX.out]; exact dcN (by omega)
          clear HX k1' k1
          go_wp2
          go_quiet (fail)
          go_wp2
          go_ret
          exact HF.out _ _ HY.out (below_drewN HB.out _)
      · have h4 : a = 0 := by omega
        have HX : Hid (@decide (GFit n a b t) (decGFit n a b t) = decide (1 ≤ t.size ∧ t.size ≤ 31 ∧ b = 0 ∧ n + t.size ≤ 64)) := by
          show _ = _
          refine dcE ?_
          constructor
          · intro h; have := G.out.1 h; omega
          · intro h; exact G.out.2 (by omega)
        clear h4
        by_cases k1 : (b == 0) = true
        · have k1' : b = 0 := by rw [beq_iff_eq] at k1; omega
          by_cases k2 : 1 ≤ (t.size : Int)
          · by_cases k3 : (t.size : Int) ≤ 31
            · by_cases k4 : (n : Int) + t.size ≤ 64
              · have HY : Hid (@decide (GFit n a b t) (decGFit n a b t) = true) := by show _ = _; rw [HX.out]; exact dcY (by omega)
                clear HX k1'
                go_wp2
                go_quiet (fail)
                go_wp2
                go_ret
                exact HF.out _ _ HY.out (below_drewN HB.out _)
              · have HY : Hid (@decide (GFit n a b t) (decGFit n a b t) = false) := by show _ = _; rw [HX.out]; exact dcN (by omega)
                clear HX k1'
                go_wp2
                go_quiet (fail)
                go_wp2
                go_ret
                exact HF.out _ _ (HY.out.trans (dcN (by omega)).symm) (below_drewN HB.out _)
            · have HY : Hid (@decide (GFit n a b t) (decGFit n a b t) = false) := by show _ = _; rw [HX.out]; exact dcN (by omega)
              clear HX k1'
              go_wp2
              go_quiet (fail)
              go_wp2
              go_ret
              exact HF.out _ _ HY.out (below_drewN HB.out _)
          · have HY : Hid (@decide (GFit n a b t) (decGFit n a b t) = false) := by show _ = _; rw [HX.out]; exact dcN (by omega)
            clear HX k1'
            go_wp2
            go_quiet (fail)
            go_wp2
            go_ret
            exact HF.out _ _ HY.out (below_drewN HB.out _)
        · have k1' : ¬ b = 0 := fun h => k1 (by rw [beq_iff_eq]; omega)
          have k1f : (b == 0) = false := by simpa using k1
          have HY : Hid (@decide (GFit n a b t) (decGFit n a b t) = false) := by show _ = _; rw [HX.out]; exact dcN (by omega)
          clear HX k1' k1
          go_wp2
          go_quiet (fail)
          go_wp2
          go_ret
          exact HF.out _ _ HY.out (below_drewN HB.out _)
end Go.Proofs.YtcjgjkejhkhknabGreatDoor

/-
  The walk of the program's plain text of tokens.
-/
namespace Go.Proofs.YtcjgjkejhkhknabGreatDoor
open Go.RowKit
open Pack

theorem strCells_b (t : ByteArray) : Lib.strCells t = bcells t.data.toList := by
  simp [Lib.strCells, bcells]
/-- A block that holds a token. -/
def TokAt (w : World) (g : Nat) (a b : Int) (t : ByteArray) : Prop := w.heap[g]? = some (.cells #[.int .i64 a, .int .i64 b, .string t] 190 (0, 0))
theorem TokAt.lt {w : World} {g : Nat} {a b : Int} {t : ByteArray} (h : TokAt w g a b t) : g < w.heap.size := (Array.getElem?_eq_some_iff.1 h).1
theorem TokAt.cells {w : World} {g : Nat} {a b : Int} {t : ByteArray} (h : TokAt w g a b t) : w.cell? ⟨g, 0, none⟩ = some (.int .i64 a) ∧ w.cell? ⟨g, 1, none⟩ = some (.int .i64 b) ∧ w.cell? ⟨g, 2, none⟩ = some (.string t) := by
  have h1 := cell_of_row w g 0 _ _ _ h
  have h2 := cell_of_row w g 1 _ _ _ h
  have h3 := cell_of_row w g 2 _ _ _ h
  exact ⟨h1, h2, h3⟩
theorem TokAt.grown {w w' : World} {g : Nat} {a b : Int} {t : ByteArray} {B : Nat} {v : Value} {n : Nat} {xs : List Value} (h : TokAt w g a b t) (ho : w.ownsRow B 5 1 v n xs) (hg : w.grownBy w' v.ownBlock) : TokAt w' g a b t := by
  refine (hg.block g h.lt (fun e => ?_)).trans h
  rcases ho.2 with ⟨rfl, -⟩ | ⟨g', cap, cur, rfl, -, hh, -⟩
  · cases e
  · have : g = g' := by simpa [Value.ownBlock] using e
    subst this
    unfold TokAt at h
    rw [h] at hh
    simp at hh
theorem TokAt.below {w w' : World} {g : Nat} {a b : Int} {t : ByteArray} (h : TokAt w g a b t) (hb : Below w.heap.size w w') : TokAt w' g a b t := (hb.block g h.lt).trans h
theorem TokAt.alloc {w : World} {g : Nat} {a b : Int} {t : ByteArray} (h : TokAt w g a b t) (o : Obj) : TokAt (w.alloc o) g a b t := h.below ((Below.refl _ _).alloc (Nat.le_refl _) o)
theorem tok_new (w : World) (a b : Int) (t : ByteArray) : TokAt (w.alloc (.cells #[.int .i64 a, .int .i64 b, .string t] 190)) w.heap.size a b t := heap_alloc_new w _

set_option maxHeartbeats 1000000 in
set_option maxRecDepth 100000 in
theorem iplain_any (v : Value) (ls : List (Int × Int × ByteArray)) (B : Nat) (w : World) (hl : ls.length ≤ 1048576) (ha : w.ownsRow B 190 3 v ls.length (gcells ls)) :
    Calls Tryz.prog 134 #[v] w fun e w' => e = .returned (plainV (gplain ls)) ∧ Below w.heap.size w w' := by
  obtain ⟨i0, hi, hz0, hz1, hz2⟩ := info_parts infoByte
  obtain ⟨ad, capa, rfl, a1, a2, a3⟩ := row_form3 ha
  unfold maxLen at a2
  have A3 := hide a3
  have HA := hide ha
  clear a3 ha
  go_enter Tryz.func134, Tryz.ntmps134
  go_wp2
  go_loopw [4, 9] (fun pv iv wr => ∃ (k : Nat) (o : List UInt8), k ≤ ls.length ∧ o.length ≤ 64 ∧ iv = .int .i64 k ∧ Hid (wr.ownsRow w.heap.size 5 1 pv o.length (bcells o)) ∧ Hid (gplain ls = gplainFrom o (ls.drop k)) ∧ Hid (Below w.heap.size w wr)) (fun _ iv _ => ls.length - (intOf iv).toNat)
  case atStart => exact ⟨0, [], Nat.zero_le _, by simp, rfl, World.ownsRow_nil _ _ _ _, rfl, Below.refl _ _⟩
  case round =>
    obtain ⟨k, o, hk, ho, rfl, HO, HG, HW⟩ := hrel
    have hsz := HW.out.size
    by_cases hlt : (k : Int) < ls.length
    · obtain ⟨ga, rfl, _, hga⟩ := A3.out (by omega)
      have hkl : k < ls.length := by omega
      obtain ⟨x, y, t, ht⟩ : ∃ x y t, ls[k]? = some (x, y, t) := ⟨ls[k].1, ls[k].2.1, ls[k].2.2, List.getElem?_eq_getElem hkl⟩
      obtain ⟨c1, c2, c3⟩ := gown_cells (own_below HA.out HW.out) ht
      simp only at c1 c2 c3
      have hst := gplain_step o ls k _ ht
      simp only at hst
      have k0 : (0 : Int) ≤ k := by omega
      obtain ⟨ap, capp, rfl, -⟩ := row_form3 HO.out
      have CT := hide (tok_new wr x y t)
      clear ht
      go_wp2_with fail
      refine (fits_any x y t o.length _ ho).mono ?_
      rintro e w5 ⟨rfl, hb5⟩
      have HT5 := hide (CT.out.below hb5)
      have HO5 := hide (own_below (HO.out.alloc (.cells #[.int .i64 x, .int .i64 y, .string t] 190)) hb5)
      have HW5 := hide ((HW.out.alloc hsz _).trans (hb5.mono (by simp; omega)))
      have hg5 : wr.heap.size < w5.heap.size := HT5.out.lt
      generalize wr.heap.size = g at HT5 hg5 hsz ⊢
      clear CT hb5 c1 c2 c3 HO HW
      by_cases hf : GFit o.length x y t
      · rw [dcY hf]
        have HG2 : Hid (gplain ls = gplainFrom (gtell o (x, y, t)) (ls.drop (k + 1))) := by
          show _ = _
          rw [HG.out, hst, if_pos ⟨hf.1, hf.2⟩]
        have hf2 := hf.2
        have hf1 := hf.1
        unfold GOk at hf1
        simp only at hf1
        obtain ⟨A, rfl⟩ : ∃ A : Nat, x = A := ⟨x.toNat, by omega⟩
        obtain ⟨N, rfl⟩ : ∃ N : Nat, y = N := ⟨y.toNat, by omega⟩
        rw [Int.toNat_natCast] at hf2
        have hAN : 0 < N → 1 ≤ A ∧ A ≤ o.length := fun h => by omega
        have HAN := hide hAN
        have hNb : N ≤ 31 := by omega
        obtain ⟨q0, q1, q2⟩ := HT5.out.cells
        clear hst HG hf1 hAN hf
        go_wp2_with (at_builtin; refine Lib.wpList_append_own_string _ rfl _ _ 191 9 rfl w.heap.size 5 i0 Tryz.underlying191 Tryz.underlying9 hi hz0 hz1 hz2 _ _ _ rfl HO5.out t rfl (by unfold maxLen; omega) (by omega) (by omega) ?_)
        intro v6 w6 ho6 hg6 _
        have HT6 := hide (HT5.out.grown HO5.out hg6)
        have HW6 := hide (HW5.out.grown hg6 (by omega) (fun j hj => (HO5.out.lt j hj).1))
        have HO6 : Hid (w6.ownsRow w.heap.size 5 1 v6 (o ++ t.data.toList).length (bcells (o ++ t.data.toList))) := by
          show World.ownsRow _ _ _ _ _ _ _
          have e1 : (o ++ t.data.toList).length = o.length + t.size := by simp
          have e2 : bcells (o ++ t.data.toList) = bcells o ++ bcells t.data.toList := by simp [bcells]
          rw [e1, e2, ← strCells_b]
          exact ho6
        have hg6' := hg6.size
        obtain ⟨q0, q1, q2⟩ := HT6.out.cells
        have hol : (o ++ t.data.toList).length = o.length + t.size := by simp
        clear ho6 hg6 HT5 HO5 HW5
        go_wp2
        go_loopw [4, 24] (fun pv jv w8 => ∃ (j : Nat) (q : List UInt8), j ≤ N ∧ jv = .int .i64 j ∧ o.length ≤ q.length ∧ q.length + N ≤ 64 + j ∧ Hid (w8.ownsRow w.heap.size 5 1 pv q.length (bcells q)) ∧ Hid (gtell o ((A : Int), (N : Int), t) = again (N - j) A q) ∧ Hid (TokAt w8 g A N t) ∧ Hid (Below w.heap.size w w8)) (fun _ jv _ => N - (intOf jv).toNat)
        case atStart => exact ⟨0, o ++ t.data.toList, Nat.zero_le _, rfl, by omega, by omega, HO6, (by show _ = _; unfold gtell; simp), HT6, HW6⟩
        case round =>
          obtain ⟨j, q, hj, rfl, hq1, hq2, HO8, HG8, HT8, HW8⟩ := hrel
          have hql : q.length ≤ 64 := by omega
          by_cases hjn : (j : Int) < N
          · obtain ⟨hA1, hA2⟩ := HAN.out (by omega)
            obtain ⟨ap8, cp8, rfl, -, hcp8, h8⟩ := row_form3 HO8.out
            obtain ⟨gp, rfl, _, _⟩ := h8 (by omega)
            obtain ⟨d, hd⟩ : ∃ d : Nat, d = q.length - A := ⟨_, rfl⟩
            have hd2 : (q.length : Int) - A = (d : Int) := by omega
            have hdl : d < q.length := by omega
            have cb : _ := HO8.out.cells (g := gp) rfl d _ (bcells_getD q d hdl)
            rw [addr_at] at cb
            obtain ⟨q0, q1, q2⟩ := HT8.out.cells
            have HG9 : Hid (gtell o ((A : Int), (N : Int), t) = again (N - (j + 1)) A (q ++ [q.getD d 0])) := by
              show _ = _
              rw [HG8.out, show N - j = (N - (j + 1)) + 1 by omega, again_next, ← hd]
            have hs8 := HW8.out.size
            obtain ⟨c, hc⟩ : ∃ c : UInt8, q.getD d 0 = c := ⟨_, rfl⟩
            rw [hc] at cb HG9
            obtain ⟨z, hz⟩ : ∃ z : Int, (c.toNat : Int) = z := ⟨_, rfl⟩
            rw [hz] at cb
            have HZ := hide hz
            clear hc hd HG8 hz
            have d0 : (0 : Int) ≤ d := by omega
            go_wp2_with (at_builtin; refine wpList_append_own _ rfl _ _ 191 rfl w.heap.size 5 i0 (.int .u8 0) 1 1 Tryz.underlying191 hi hz0 hz1 hz2 rfl (by decide) _ _ _ rfl (by exact HO8.out.alloc _) ⟨_, 0, none⟩ 1 1 [Value.int .u8 z] rfl rfl (by exact one_cell _ _ _) (one_u8 _) (by unfold maxLen; omega) (by omega) (by simp; omega) ?_)
            intro v9 w9 ho9 hg9 _
            rw [bcells_snoc q c z HZ.out] at ho9
            have hql9 : (q ++ [c]).length = q.length + 1 := by simp
            have HO9 : Hid (w9.ownsRow w.heap.size 5 1 v9 (q ++ [c]).length (bcells (q ++ [c]))) := by
              show World.ownsRow _ _ _ _ _ _ _
              rw [hql9]; exact ho9
            have HT9 := hide ((HT8.out.alloc _).grown (HO8.out.alloc _) hg9)
            have HW9 := hide (own_grown HW8.out (by omega) HO8.out hg9)
            clear ho9 hg9 HO8 HT8 HW8 cb q0 q1 q2
            go_wp2
            go_roundw
            case rel => exact ⟨j + 1, q ++ [c], by omega, by go_num, by omega, by omega, HO9, HG9, HT9, HW9⟩
            case measure => simp [intOf]; omega
          · have hje : j = N := by omega
            have HX : Hid (gtell o ((A : Int), (N : Int), t) = q) := by show _ = _; rw [HG8.out, hje, Nat.sub_self]; rfl
            rw [HX.out] at HG2
            clear hje HG8 HX
            go_wp2
            go_roundw
            case rel => exact ⟨k + 1, q, by omega, hql, by go_num, HO8, HG2, HW8⟩
            case measure => simp [intOf]; omega
      · rw [dcN hf]
        have HX : Hid (gplain ls = none) := by
          show _ = _
          rw [HG.out, hst, if_neg (fun h => hf ⟨h.1, h.2⟩)]
        clear HG hst hf
        go_wp2
        exact bodyPost_ret (results_tmp2 rfl _ _ _) rfl ⟨by rw [HX.out]; rfl, HW5.out⟩
    · have hke : k = ls.length := by omega
      have HX : Hid (gplain ls = some o) := by show _ = _; rw [HG.out, hke, List.drop_length]; rfl
      have hcv := conv_own wr _ o HO.out
      clear HG hke
      go_wp2
      exact bodyPost_ret (results_tmp2 rfl _ _ _) rfl ⟨by rw [HX.out]; rfl, HW.out⟩
end Go.Proofs.YtcjgjkejhkhknabGreatDoor

/-
  Plain facts on matches, as a loop finds them: no Go in them.
-/
namespace Go.Proofs.YtcjgjkejhkhknabGreatDoor.Pack

theorem drop_cons (s : List UInt8) (k : Nat) (h : k < s.length) : s.drop k = s.getD k 0 :: s.drop (k + 1) := by
  rw [List.drop_eq_getElem_cons h, List.getD_eq_getElem?_getD, List.getElem?_eq_getElem h]
  rfl
theorem mlen_yes (f : Nat) (s : List UInt8) (i j : Nat) (hi : i < s.length) (hj : j < s.length) (h : s.getD i 0 = s.getD j 0) : mlen (f + 1) (s.drop i) (s.drop j) = mlen f (s.drop (i + 1)) (s.drop (j + 1)) + 1 := by
  rw [drop_cons s i hi, drop_cons s j hj]
  exact if_pos h
theorem mlen_no (f : Nat) (s : List UInt8) (i j : Nat) (hi : i < s.length) (hj : j < s.length) (h : s.getD i 0 ≠ s.getD j 0) : mlen f (s.drop i) (s.drop j) = 0 := by
  cases f with
  | zero => rfl
  | succ f =>
    rw [drop_cons s i hi, drop_cons s j hj]
    exact if_neg h
theorem mlen_end (f : Nat) (s a : List UInt8) (j : Nat) (hj : s.length ≤ j) : mlen f a (s.drop j) = 0 := by
  rw [List.drop_eq_nil_of_le hj]
  cases f with
  | zero => rfl
  | succ f => cases a <;> rfl
theorem best_yes (s : List UInt8) (k m : Nat) (h : 4 ≤ mlen 31 (s.drop (k - (m + 1))) (s.drop k)) (h2 : (best s k m).1 < mlen 31 (s.drop (k - (m + 1))) (s.drop k)) : best s k (m + 1) = (mlen 31 (s.drop (k - (m + 1))) (s.drop k), m + 1) := by
  unfold best
  rw [if_pos ⟨h, h2⟩]
theorem best_no (s : List UInt8) (k m : Nat) (h : ¬ (4 ≤ mlen 31 (s.drop (k - (m + 1))) (s.drop k) ∧ (best s k m).1 < mlen 31 (s.drop (k - (m + 1))) (s.drop k))) : best s k (m + 1) = best s k m := by
  conv => lhs; unfold best
  rw [if_neg h]
theorem steps_one (s : List UInt8) (m k : Nat) (l : List (Nat × Nat × List UInt8)) (h : stepsT m s = (k, l)) (hk : k < s.length) : stepsT (m + 1) s = stepT s (k, l) := by
  conv => lhs; unfold stepsT
  rw [h, if_pos hk]
theorem steps_match (s : List UInt8) (m k b1 b2 : Nat) (l : List (Nat × Nat × List UInt8)) (hs : s.length ≤ 64) (h : stepsT m s = (k, l)) (hk : k < s.length) (hb : best s k k = (b1, b2)) (h0 : 0 < b1) : stepsT (m + 1) s = (k + b1, l ++ [(b2, b1, [])]) ∧ k + b1 ≤ s.length := by
  have e : stepsT (m + 1) s = (k + b1, l ++ [(b2, b1, [])]) := by
    rw [steps_one s m k l h hk]
    unfold stepT
    simp only [hb]
    rw [if_pos h0]
  refine ⟨e, ?_⟩
  have := (kept_steps s hs (m + 1)).1.1
  rw [e] at this
  exact this
theorem steps_more (s : List UInt8) (m k z : Nat) (l : List (Nat × Nat × List UInt8)) (t : List UInt8) (h : stepsT m s = (k, l ++ [(0, z, t)])) (hk : k < s.length) (hb : (best s k k).1 = 0) (ht : t.length < 31) : stepsT (m + 1) s = (k + 1, l ++ [(0, z, t ++ [s.getD k 0])]) := by
  rw [steps_one s m k _ h hk]
  unfold stepT
  simp only [hb]
  rw [if_neg (by omega)]
  simp [ht]
theorem steps_new (s : List UInt8) (m k : Nat) (l : List (Nat × Nat × List UInt8)) (h : stepsT m s = (k, l)) (hk : k < s.length) (hb : (best s k k).1 = 0) (hl : ∀ a z t, l = a ++ [(0, z, t)] → ¬ t.length < 31) : stepsT (m + 1) s = (k + 1, l ++ [(0, 0, [s.getD k 0])]) := by
  rw [steps_one s m k _ h hk]
  unfold stepT
  simp only [hb]
  rw [if_neg (by omega)]
  split
  · rename_i z t hlast
    obtain ⟨a, ha⟩ := List.getLast?_eq_some_iff.1 hlast
    rw [if_neg (hl a z t ha)]
  · rfl
theorem steps_stay (s : List UInt8) (m d : Nat) (h : s.length ≤ (stepsT m s).1) : stepsT (m + d) s = stepsT m s := by
  induction d with
  | zero => rfl
  | succ d ih =>
    have e : stepsT (m + (d + 1)) s = if (stepsT (m + d) s).1 < s.length then stepT s (stepsT (m + d) s) else stepsT (m + d) s := rfl
    rw [e, ih, if_neg (by omega)]
theorem steps_end (s : List UInt8) (m : Nat) (l : List (Nat × Nat × List UInt8)) (h : stepsT m s = (s.length, l)) (hm : m ≤ s.length) : toks s = l := by
  have := steps_stay s m (s.length - m) (by rw [h]; exact Nat.le_refl _)
  rw [show m + (s.length - m) = s.length by omega] at this
  unfold toks
  rw [this, h]
end Go.Proofs.YtcjgjkejhkhknabGreatDoor.Pack

/-
  Rows of tokens that a call makes; bytes of a text.
-/
namespace Go.Proofs.YtcjgjkejhkhknabGreatDoor
open Go.RowKit
open Pack

theorem byte_ofT (s : ByteArray) (j : Nat) (a : Int) (ha : a = j) (hj : j < s.size) (W : World) : (Instr.index 9 (.string s) (.int .i64 a)).run Tryz.prog W = .ok (.int .u8 (((s.data.toList.getD j 0).toNat : Nat) : Int)) W := by
  subst ha
  rw [run_index_string W 9 s .i64 j Tryz.underlying9, dif_pos (by omega)]
  have : s.data.toList.getD j 0 = s[j] := by
    rw [List.getD_eq_getElem?_getD, List.getElem?_eq_getElem (by simpa using hj)]
    rfl
  rw [this]
  rfl

/-- A new row of tokens that the call owns. -/
def TRow (w : World) (e : Ending) (w' : World) (l : List (Nat × Nat × List UInt8)) : Prop := ∃ v : Value, e = .returned v ∧ w'.ownsRow w.heap.size 190 3 v l.length (tcells l) ∧ Below w.heap.size w w'
theorem own_slice3 {w : World} {base : Nat} {v : Value} {l : List (Nat × Nat × List UInt8)} (h : w.ownsRow base 190 3 v l.length (tcells l)) (h0 : 0 < l.length) : ∃ g cap, v = .slice (some ⟨g, 0, none⟩) l.length cap := by
  rcases h.2 with ⟨-, h0'⟩ | ⟨g, cap, cur, rfl, -⟩
  · omega
  · exact ⟨g, cap, rfl⟩

theorem three_new (w : World) (a b c : Value) (t : TypeId) : ∀ (j : Nat) (u : Value), [a, b, c][j]? = some u → (w.alloc (.cells #[a, b, c] t)).cell? ((⟨w.heap.size, 0, none⟩ : Addr).add j) = some u := by
  intro j u hj
  match j, hj with
  | 0, hj => simp at hj; subst hj; simp [Addr.add]
  | 1, hj => simp at hj; subst hj; simp [Addr.add]
  | 2, hj => simp at hj; subst hj; simp [Addr.add]
theorem tok3_one (a b : Int) (u : ByteArray) : ∀ v ∈ [Value.int .i64 a, Value.int .i64 b, Value.string u], v.oneCell' = true := by
  intro v hv
  rcases List.mem_cons.1 hv with h | h
  · subst h; rfl
  · rcases List.mem_cons.1 h with h | h
    · subst h; rfl
    · rcases List.mem_cons.1 h with h | h
      · subst h; rfl
      · cases h
theorem own_grown3 {B : Nat} {w wr w2 : World} {v : Value} {n : Nat} {xs : List Value} {e : TypeId} {o : Obj} (hb : Below B w wr) (hB : B ≤ wr.heap.size)
    (hown : wr.ownsRow B e 3 v n xs) (hg : (wr.alloc o).grownBy w2 v.ownBlock) : Below B w w2 :=
  (hb.alloc hB _).grown hg (by simp; omega) (fun k hk => (hown.lt k hk).1)
end Go.Proofs.YtcjgjkejhkhknabGreatDoor

/-
  A text made into bytes of the call's own, one of them changed, and made into a text again.
-/
namespace Go.Proofs.YtcjgjkejhkhknabGreatDoor
open Go.RowKit

/-- The bytes l lie in block g, from its start on, and may be written. -/
def BytesAt (w : World) (g : Nat) (l : List UInt8) : Prop :=
  g < w.heap.size ∧ ∀ j (hj : j < l.length), w.cell? ⟨g, j, none⟩ = some (.int .u8 (l[j].toNat : Int)) ∧ w.frozen? ⟨g, j, none⟩ = false

theorem BytesAt.below {w w' : World} {g C : Nat} {l : List UInt8} (h : BytesAt w g l) (hb : Below C w w') (hg : g < C) : BytesAt w' g l :=
  ⟨Nat.lt_of_lt_of_le h.1 hb.size, fun j hj => ⟨by rw [hb.cell (show g < C from hg)]; exact (h.2 j hj).1, by rw [hb.frozen (show g < C from hg)]; exact (h.2 j hj).2⟩⟩

theorem bytes_new (w : World) (s : ByteArray) : ∃ (C : Nat) (w' : World), (convert 9 191 (.string s)).run Tryz.prog w = .ok (.slice (some ⟨w.heap.size, 0, none⟩) s.size C) w' ∧ Below w.heap.size w w' ∧ BytesAt w' w.heap.size s.data.toList := by
  have h := run_bytes_of_string (P := Tryz.prog) w 9 191 5 s Tryz.underlying9 Tryz.underlying191 Tryz.underlying5
  generalize grownCap w s.size 0 5 = C at h
  refine ⟨C, _, h, ((Below.refl _ _).drew).alloc (Nat.le_refl _) _, by simp, ?_⟩
  intro j hj
  have hj2 : j < s.data.size := by simpa using hj
  have hj3 : j < s.size := hj2
  have e := bytesRow_at s C j hj2
  have hsz : j < (bytesRow s C).size := by
    unfold bytesRow
    rw [Array.size_append, Array.size_map]
    omega
  have d : w.drew.heap.size = w.heap.size := rfl
  constructor
  · have := World.cell?_alloc_mark w.drew (bytesRow s C) 5 ((bytesRow s C).size, (bytesRow s C).size + 1) j
    rw [d] at this
    rw [this, e]
    simp
  · have := World.frozen?_alloc_mark w.drew (bytesRow s C) 5 (bytesRow s C).size ((bytesRow s C).size + 1) j
    rw [d] at this
    rw [this]
    simp; omega

theorem BytesAt.set {w : World} {g : Nat} {l : List UInt8} (h : BytesAt w g l) (i : Nat) (y : UInt8) (v : Int) (hv : (y.toNat : Int) = v) : BytesAt (w.setCell ⟨g, i, none⟩ (.int .u8 v)) g (l.set i y) := by
  refine ⟨by simpa using h.1, fun j hj => ?_⟩
  have hj2 : j < l.length := by simpa using hj
  refine ⟨?_, by rw [World.frozen?_setCell]; exact (h.2 j hj2).2⟩
  by_cases hij : i = j
  · subst hij
    rw [World.cell?_setCell_same _ _ _ (h.2 i hj2).1]
    simp [hv]
  · rw [World.cell?_setCell_other _ _ _ _ (fun e => hij (by injection e)), (h.2 j hj2).1]
    simp [hij]

theorem BytesAt.text {w : World} {g : Nat} {l : List UInt8} (h : BytesAt w g l) (n C : Nat) (hn : n = l.length) : (convert 191 9 (.slice (some ⟨g, 0, none⟩) n C)).run Tryz.prog w = .ok (.string ⟨l.toArray⟩) w := by
  subst hn
  exact run_convert_bytes_back (P := Tryz.prog) w 191 9 5 ⟨g, 0, none⟩ C l Tryz.underlying191 Tryz.underlying5 Tryz.underlying9 (fun j hj => by rw [addr_at]; exact (h.2 j hj).1)
end Go.Proofs.YtcjgjkejhkhknabGreatDoor
