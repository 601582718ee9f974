/-
  ImplRead; SRd; SCur
-/
import Derived.Test.YtmpmdacfibgepadPk0
import Derived.Test.YtmpmdacfibgepadMath2
import Derived.Test.YtmpmdacfibgepadPk12
import Derived.Test.YtmpmdacfibgepadSIn
import Derived.Deep.RegionWith
import Derived.Deep.RegionHeld3
import Derived.Laws.DeepStrings4
import Derived.Deep.QuietTactic
import Derived.BigQuiet
import Derived.Lib.Strings
import Derived.WalkSmall
import Derived.Test.YtmpmdacfibgepadPk1
import Derived.Laws.Rows
/-
  The walk of impl.ReadVar.
-/
namespace Go.Proofs.Ytmpmdacfibgepad
open Go.RowKit
open Words

/-- What ReadVar answers, as a value. -/
def rvRes : Option (Nat × Nat) → Value
  | some (n, j) => .tuple #[.int .i64 n, .int .i64 j, .bool true]
  | none => .tuple #[.int .i64 0, .int .i64 0, .bool false]

set_option maxHeartbeats 400000 in
set_option maxRecDepth 100000 in
theorem implRead (s : ByteArray) (q : Nat) (w : World) (hs : s.size ≤ 1048576) (hq : q ≤ s.size) :
    Calls Try.prog 140 #[.string s, .int .i64 q] w fun e w' => e = .returned (rvRes (readV s.data.toList q)) ∧ w' = w := by
  have g1 : ¬ (q : Int) < 0 := by omega
  have g2 : ¬ (s.size : Int) < q := by omega
  go_enter Try.func140, Try.ntmps140
  go_wp2
  go_loop [7, 8, 9, 10, 11] (fun nv uv iv _ _ => ∃ k n u : Nat, nv = .int .i64 n ∧ uv = .int .i64 u ∧ iv = .int .i64 (q + k : Nat) ∧ Hid (St s.data.toList q k n u)) (fun _ _ iv _ _ => s.size - (intOf iv).toNat)
  case atStart => exact ⟨0, 0, 1, rfl, rfl, rfl, St.zero (by simpa using hq)⟩
  case round =>
    obtain ⟨k, n, u, rfl, rfl, rfl, hst⟩ := hrel
    obtain ⟨b1, b2, b3, b4, b5⟩ := hst.out.bounds
    by_cases hlt : q + k < s.size ∧ k < 5
    · obtain ⟨h1, h2⟩ := hlt
      have b6 := b4 h2
      have c1 : ((q + k : Nat) : Int) < s.size := by omega
      have c2 : (u : Int) ≤ 1000000000 := by omega
      clear b3 b4 b5
      obtain ⟨c, hcc⟩ : ∃ c : Nat, s[q + k].toNat = c := ⟨_, rfl⟩
      have hc8 : c < 256 := by rw [← hcc]; exact UInt8.toNat_lt _
      have p2 := prod_le_int c u b6
      have p3 := prod_nn c u
      have H : Hid (At s.data.toList (q + k) c) := ⟨by simpa using h1, by rw [← hcc]; rfl⟩
      by_cases hc : 128 ≤ (c : Int)
      · go_wp2
        go_round
        case rel => exact ⟨k + 1, n + c % 128 * u, u * 128, by rw [prod_cast], by go_num, by go_num, hst.out.step' h2 H.out (by omega)⟩
        case measure => simp [intOf]; omega
      · by_cases h0 : c = 0 ∧ k ≠ 0
        · have F : Hid (readV s.data.toList q = none) := hst.out.no' h2 H.out (by omega) (.inr h0)
          have f1 : ((c : Int) == 0) = true := by rw [beq_iff_eq]; omega
          have f2 : (q : Int) < (q : Int) + k := by omega
          clear h0
          go_wp2
          go_ret3
          exact ⟨by rw [F.out]; rfl, rfl⟩
        · have hw : ¬ (c = 0 ∧ k ≠ 0) := h0
          by_cases hN : (n : Int) + (c : Int) % 128 * u ≤ 1000000000
          · have hN' : n + c % 128 * u ≤ 1000000000 := by rw [← prod_cast] at hN; omega
            have F : Hid (readV s.data.toList q = some (n + c % 128 * u, q + k + 1)) := hst.out.yes' h2 H.out (by omega) hN' hw
            clear hN'
            by_cases hc0 : c = 0
            · have f1 : ((c : Int) == 0) = true := by rw [beq_iff_eq]; omega
              have f2 : ¬ (q : Int) < (q : Int) + k := by omega
              clear h0 hw hc0
              go_wp2
              go_ret3
              exact ⟨by rw [F.out, rvRes, prod_cast]; rfl, rfl⟩
            · have f1 : ((c : Int) == 0) = false := by rw [beq_eq_false_iff_ne]; omega
              clear h0 hw hc0
              go_wp2
              go_ret3
              exact ⟨by rw [F.out, rvRes, prod_cast]; rfl, rfl⟩
          · have hN' : 1000000000 < n + c % 128 * u := by rw [← prod_cast] at hN; omega
            have F : Hid (readV s.data.toList q = none) := hst.out.no' h2 H.out (by omega) (.inl hN')
            clear hN'
            by_cases hc0 : c = 0
            · exfalso
              subst hc0
              simp at hN
              omega
            · have f1 : ((c : Int) == 0) = false := by rw [beq_eq_false_iff_ne]; omega
              clear h0 hw hc0
              go_wp2
              go_ret3
              exact ⟨by rw [F.out]; rfl, rfl⟩
    · have F : Hid (readV s.data.toList q = none) := hst.out.stop (by simpa using hlt)
      by_cases h1 : q + k < s.size
      · have c1 : ((q + k : Nat) : Int) < s.size := by omega
        have b6 := b5 (by have := hst.out.1; omega)
        have c2 : ¬ (u : Int) ≤ 1000000000 := by omega
        clear hlt b5
        go_wp2
        go_ret3
        exact ⟨by rw [F.out]; rfl, rfl⟩
      · have c1 : ¬ ((q + k : Nat) : Int) < s.size := by omega
        clear hlt
        go_wp2
        go_ret3
        exact ⟨by rw [F.out]; rfl, rfl⟩
theorem implRead_out (s : ByteArray) (q : Int) (w : World) (hq : q < 0 ∨ s.size < q) :
    Calls Try.prog 140 #[.string s, .int .i64 q] w fun e w' => e = .returned (rvRes none) ∧ w' = w := by
  rcases hq with h | h
  · go_enter Try.func140, Try.ntmps140
    go_wp2
    go_ret3
    exact ⟨rfl, rfl⟩
  · have g1 : ¬ q < 0 := by omega
    go_enter Try.func140, Try.ntmps140
    go_wp2
    go_ret3
    exact ⟨rfl, rfl⟩
end Go.Proofs.Ytmpmdacfibgepad

/-
  The walk of spec.ReadVar.
-/
namespace Go.Proofs.Ytmpmdacfibgepad
open Go.RowKit
open Words

end Go.Proofs.Ytmpmdacfibgepad

/-
  spec.l06Var, on its cursor.
-/
namespace Go.Proofs.Ytmpmdacfibgepad
open Go.RowKit
open Words


theorem readV_far (l : List UInt8) (q : Nat) (h : l.length < q) : readV l q = none := by
  unfold readV
  rw [List.drop_eq_nil_of_le (by omega)]
  rfl
/-- The cursor that lies in block g. -/
def CAt (w : World) (g : Nat) (t : ByteArray) (i : Int) (bad : Bool) : Prop := g < w.heap.size ∧ w.cell? ⟨g, 0, none⟩ = some (.string t) ∧ w.cell? ⟨g, 1, none⟩ = some (.int .i64 i) ∧ w.cell? ⟨g, 2, none⟩ = some (.bool bad) ∧ w.frozen? ⟨g, 1, none⟩ = false ∧ w.frozen? ⟨g, 2, none⟩ = false
def MovedC (w w' : World) (g : Nat) (t : ByteArray) (i : Int) (bad : Bool) : Prop := Kept2 w w' (· ≠ g) ∧ CAt w' g t i bad
theorem CAt.below {w w' : World} {g : Nat} {t : ByteArray} {i : Int} {bad : Bool} (h : CAt w g t i bad) (hb : Below w.heap.size w w') : CAt w' g t i bad := by
  obtain ⟨h1, h2, h3, h4, h5, h6⟩ := h
  have e : ∀ j, w'.cell? ⟨g, j, none⟩ = w.cell? ⟨g, j, none⟩ := fun j => hb.cell (show g < w.heap.size from h1)
  have f : ∀ j, w'.frozen? ⟨g, j, none⟩ = w.frozen? ⟨g, j, none⟩ := fun j => hb.frozen (show g < w.heap.size from h1)
  exact ⟨Nat.lt_of_lt_of_le h1 hb.size, by rw [e]; exact h2, by rw [e]; exact h3, by rw [e]; exact h4, by rw [f]; exact h5, by rw [f]; exact h6⟩
theorem CAt.set1 {w : World} {g : Nat} {t : ByteArray} {i i' : Int} {bad : Bool} (h : CAt w g t i bad) : CAt (w.setCell ⟨g, 1, none⟩ (.int .i64 i')) g t i' bad := by
  obtain ⟨h1, h2, h3, h4, h5, h6⟩ := h
  have o : ∀ (i j : Nat) (u : Value), i ≠ j → (w.setCell ⟨g, i, none⟩ u).cell? ⟨g, j, none⟩ = w.cell? ⟨g, j, none⟩ := fun i j u hij => World.cell?_setCell_other _ _ _ _ (fun e => hij (by injection e))
  exact ⟨by simpa using h1, by rw [o 1 0 _ (by omega)]; exact h2, World.cell?_setCell_same _ _ _ h3, by rw [o 1 2 _ (by omega)]; exact h4, by simpa using h5, by simpa using h6⟩
theorem CAt.set2 {w : World} {g : Nat} {t : ByteArray} {i : Int} {bad bad' : Bool} (h : CAt w g t i bad) : CAt (w.setCell ⟨g, 2, none⟩ (.bool bad')) g t i bad' := by
  obtain ⟨h1, h2, h3, h4, h5, h6⟩ := h
  have o : ∀ (i j : Nat) (u : Value), i ≠ j → (w.setCell ⟨g, i, none⟩ u).cell? ⟨g, j, none⟩ = w.cell? ⟨g, j, none⟩ := fun i j u hij => World.cell?_setCell_other _ _ _ _ (fun e => hij (by injection e))
  exact ⟨by simpa using h1, by rw [o 2 0 _ (by omega)]; exact h2, by rw [o 2 1 _ (by omega)]; exact h3, World.cell?_setCell_same _ _ _ h4, by simpa using h5, by simpa using h6⟩
theorem ckept_set (w : World) (g j : Nat) (v : Value) : Kept2 w (w.setCell ⟨g, j, none⟩ v) (· ≠ g) := by
  refine ⟨rfl, rfl, rfl, by simp, fun i _ hne => ?_⟩
  exact Below.heap_setCell _ _ _ _ hne
theorem MovedC.set1 {w w' : World} {g : Nat} {t : ByteArray} {i i' : Int} {bad : Bool} (h : CAt w g t i bad) (hb : Below w.heap.size w w') : MovedC w (w'.setCell ⟨g, 1, none⟩ (.int .i64 i')) g t i' bad :=
  ⟨(Kept2.below hb).trans (ckept_set _ _ _ _), (h.below hb).set1⟩
theorem MovedC.set2 {w w' : World} {g : Nat} {t : ByteArray} {i : Int} {bad bad' : Bool} (h : CAt w g t i bad) (hb : Below w.heap.size w w') : MovedC w (w'.setCell ⟨g, 2, none⟩ (.bool bad')) g t i bad' :=
  ⟨(Kept2.below hb).trans (ckept_set _ _ _ _), (h.below hb).set2⟩

def stepV (l : List UInt8) (i : Nat) : Bool → Nat × Nat × Bool
  | true => (0, i, true)
  | false => match readV l i with
    | some (n, j) => (n, j, false)
    | none => (0, i, true)

theorem stepV_ok {l : List UInt8} {i n j : Nat} {b : Bool} (h : stepV l i b = (n, j, false)) : b = false ∧ readV l i = some (n, j) := by
  cases b with
  | true => simp [stepV] at h
  | false =>
    cases hv : readV l i with
    | none => simp [stepV, hv] at h
    | some x =>
      obtain ⟨a, c⟩ := x
      simp only [stepV, hv] at h
      cases h
      exact ⟨rfl, rfl⟩
theorem stepV_bad {l : List UInt8} {i n j : Nat} {b : Bool} (h : stepV l i b = (n, j, true)) : b = true ∨ readV l i = none := by
  cases b with
  | true => exact .inl rfl
  | false =>
    cases hv : readV l i with
    | none => exact .inr rfl
    | some x =>
      obtain ⟨a, c⟩ := x
      simp only [stepV, hv] at h
      cases h
end Go.Proofs.Ytmpmdacfibgepad
