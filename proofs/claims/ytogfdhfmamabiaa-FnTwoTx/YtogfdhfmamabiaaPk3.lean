/-
  EqRc; OwnC
-/
import Derived.Test.YtogfdhfmamabiaaPk0
import Derived.Test.YtogfdhfmamabiaaPk2
import Derived.Deep.RegionHeld3
import Derived.Deep.MidRow
/-
  The laws' own toRec, eqRec and eqRecS.
-/
namespace Go.Proofs.Ytogfdhfmamabiaa
open Go.RowKit

set_option maxHeartbeats 400000 in
set_option maxRecDepth 100000 in
theorem toRc_any (x0 : Int) (x1 : Int) (x2 : Int) (x3 : Int) (w : World) :
    Calls Try.prog 77 #[.agg #[.int .i64 x0, .int .i64 x1, .int .i64 x2, .int .i64 x3]] w fun e w' => e = .returned (.agg #[.int .i64 x0, .int .i64 x1, .int .i64 x2, .int .i64 x3]) ∧ Below w.heap.size w w' := by
  go_enter Try.func77, Try.ntmps77
  go_wp2
  have h1 := heap_alloc_new (w.alloc (.cells #[.int .i64 x0, .int .i64 x1, .int .i64 x2, .int .i64 x3] 126)) (.cells #[.int .i64 x0, .int .i64 x1, .int .i64 x2, .int .i64 x3] 34)
  have hs : (w.alloc (.cells #[.int .i64 x0, .int .i64 x1, .int .i64 x2, .int .i64 x3] 126)).heap.size = w.heap.size + 1 := by simp
  rw [hs] at h1
  have h2 := (Below.heap_alloc ((w.alloc (.cells #[.int .i64 x0, .int .i64 x1, .int .i64 x2, .int .i64 x3] 126)).alloc (.cells #[.int .i64 x0, .int .i64 x1, .int .i64 x2, .int .i64 x3] 34)) (.cells #[.int .i64 x0, .int .i64 x1, .int .i64 x2, .int .i64 x3] 34) (w.heap.size + 1) (by simp)).trans h1
  exact bodyPost_ret (results_cell_row rfl _ _ (w.heap.size + 1) 34 _ (0, 0) _ rfl h2 Try.underlying34 rfl infoRcz) rfl ⟨rfl, (((Below.refl _ _).alloc (Nat.le_refl _) _).alloc (by simp) _).alloc (by simp; omega) _⟩
set_option maxHeartbeats 400000 in
set_option maxRecDepth 100000 in
theorem eqRc_same (x0 : Int) (x1 : Int) (x2 : Int) (x3 : Int) (w : World) :
    Calls Try.prog 78 #[.agg #[.int .i64 x0, .int .i64 x1, .int .i64 x2, .int .i64 x3], .agg #[.int .i64 x0, .int .i64 x1, .int .i64 x2, .int .i64 x3]] w fun e w' => e = .returned (.bool true) ∧ Below w.heap.size w w' := by
  have e0 : (x0 != x0) = false := by simp
  have e1 : (x1 != x1) = false := by simp
  have e2 : (x2 != x2) = false := by simp
  have e3 : (x3 != x3) = false := by simp
  go_enter Try.func78, Try.ntmps78
  go_wp2
  go_ret
  exact ⟨rfl, ((Below.refl _ _).alloc (Nat.le_refl _) _).alloc (by simp) _⟩
set_option maxHeartbeats 1000000 in
set_option maxRecDepth 100000 in
theorem eqRcs_same (a b : Value) (M : List (Int × Int × Int × Int)) (B1 C1 B2 C2 : Nat) (w : World) (hM : M.length ≤ 1000000000000000000) (ha : Sli 34 B1 C1 a M.length (rccells M) w) (hb : Sli 34 B2 C2 b M.length (rccells M) w) :
    Calls Try.prog 56 #[a, b] w fun e w' => e = .returned (.bool true) ∧ Below w.heap.size w w' := by
  obtain ⟨ad, capa, rfl, a3⟩ := ha.form
  obtain ⟨bd, capb, rfl, b3⟩ := hb.form
  obtain ⟨n, hn⟩ : ∃ n, M.length = n := ⟨_, rfl⟩
  have HN := hide hn
  have HSA := hide ha
  have HSB := hide hb
  rw [hn] at hM a3 b3 HSA HSB ⊢
  have A3 := hide a3
  have B3 := hide b3
  clear a3 b3 ha hb hn
  go_enter Try.func56, Try.ntmps56
  go_wp2
  go_loopw [5] (fun iv wr => ∃ k : Nat, k ≤ n ∧ iv = .int .i64 k ∧ Hid (Below w.heap.size w wr)) (fun iv _ => n - (intOf iv).toNat)
  case atStart => exact ⟨0, Nat.zero_le _, rfl, Below.refl _ _⟩
  case round =>
    obtain ⟨k, hk, rfl, HW⟩ := hrel
    by_cases hlt : (k : Int) < n
    · obtain ⟨ga, e, _, _⟩ := A3.out (by omega)
      subst e
      obtain ⟨gb, e, _, _⟩ := B3.out (by omega)
      subst e
      have hkl : k < M.length := by have := HN.out; omega
      obtain ⟨x0, x1, x2, x3, hx⟩ : ∃ x0 x1 x2 x3, M[k]? = some (x0, x1, x2, x3) := ⟨M[k].1, M[k].2.1, M[k].2.2.1, M[k].2.2.2, List.getElem?_eq_getElem hkl⟩
      have GA := HSA.out.flt.below HW.out
      have GB := HSB.out.flt.below HW.out
      have c0 : wr.cell? ⟨ga, k * 4, none⟩ = some (.int .i64 x0) := GA.cell (rccells_at M k _ hx 0 _ rfl)
      have d0 : wr.cell? ⟨gb, k * 4, none⟩ = some (.int .i64 x0) := GB.cell (rccells_at M k _ hx 0 _ rfl)
      have c1 : wr.cell? ⟨ga, k * 4 + 1, none⟩ = some (.int .i64 x1) := GA.cell (rccells_at M k _ hx 1 _ rfl)
      have d1 : wr.cell? ⟨gb, k * 4 + 1, none⟩ = some (.int .i64 x1) := GB.cell (rccells_at M k _ hx 1 _ rfl)
      have c2 : wr.cell? ⟨ga, k * 4 + 2, none⟩ = some (.int .i64 x2) := GA.cell (rccells_at M k _ hx 2 _ rfl)
      have d2 : wr.cell? ⟨gb, k * 4 + 2, none⟩ = some (.int .i64 x2) := GB.cell (rccells_at M k _ hx 2 _ rfl)
      have c3 : wr.cell? ⟨ga, k * 4 + 3, none⟩ = some (.int .i64 x3) := GA.cell (rccells_at M k _ hx 3 _ rfl)
      have d3 : wr.cell? ⟨gb, k * 4 + 3, none⟩ = some (.int .i64 x3) := GB.cell (rccells_at M k _ hx 3 _ rfl)
      have k0 : (0 : Int) ≤ k := by omega
      have CE := hide (eqRc_same x0 x1 x2 x3 wr.drew)
      have CF := hide (eqRc_same x0 x1 x2 x3 wr)
      have hsz := HW.out.size
      have gaw : ga < wr.heap.size := World.block_lt_of_cell? wr _ c0
      have gbw : gb < wr.heap.size := World.block_lt_of_cell? wr _ d0
      clear hx hkl GA GB
      first
        | (go_wp2_with fail
           refine CF.out.mono ?_
           rintro e w1 ⟨rfl, b1⟩
           have HW1 := hide (HW.out.trans (b1.mono hsz)))
        | (go_wp2
           go_region_held3 (fun w' => w'.cell? ⟨ga, k * 4, none⟩ = some (.int .i64 x0) ∧ w'.cell? ⟨ga, k * 4 + 1, none⟩ = some (.int .i64 x1) ∧ w'.cell? ⟨ga, k * 4 + 2, none⟩ = some (.int .i64 x2) ∧ w'.cell? ⟨ga, k * 4 + 3, none⟩ = some (.int .i64 x3) ∧ w'.cell? ⟨gb, k * 4, none⟩ = some (.int .i64 x0) ∧ w'.cell? ⟨gb, k * 4 + 1, none⟩ = some (.int .i64 x1) ∧ w'.cell? ⟨gb, k * 4 + 2, none⟩ = some (.int .i64 x2) ∧ w'.cell? ⟨gb, k * 4 + 3, none⟩ = some (.int .i64 x3)) (first | go_keep | exact ⟨(b1.cell (show ga < wr.drew.heap.size from gaw)).trans c0, (b1.cell (show ga < wr.drew.heap.size from gaw)).trans c1, (b1.cell (show ga < wr.drew.heap.size from gaw)).trans c2, (b1.cell (show ga < wr.drew.heap.size from gaw)).trans c3, (b1.cell (show gb < wr.drew.heap.size from gbw)).trans d0, (b1.cell (show gb < wr.drew.heap.size from gbw)).trans d1, (b1.cell (show gb < wr.drew.heap.size from gbw)).trans d2, (b1.cell (show gb < wr.drew.heap.size from gbw)).trans d3⟩) ((go_at_call 78; (with_reducible refine Calls.mono CE.out ?_); rintro en w1 ⟨rfl, b1⟩))
           have HW1 := hide (HW.out.drew.trans (b1.mono (show w.heap.size ≤ wr.drew.heap.size from hsz))))
      all_goals
        clear b1 CE CF HW c0 c1 c2 c3 d0 d1 d2 d3
        go_wp2
        go_roundw
        case rel => exact ⟨k + 1, by omega, by go_num, HW1⟩
        case measure => simp [intOf]; omega
    · go_wp2
      go_ret
      exact ⟨rfl, HW.out⟩
end Go.Proofs.Ytogfdhfmamabiaa

/-
  Rows that a call owns: a cell written elsewhere, a lower bound.
-/
namespace Go.Proofs.Ytogfdhfmamabiaa
open Go.RowKit

theorem row_set {w : World} {g : Nat} {cs : Array Value} {t : TypeId} (h : w.heap[g]? = some (.cells cs t (0, 0))) (i : Nat) (u : Value) : (w.setCell ⟨g, i, none⟩ u).heap[g]? = some (.cells (cs.setIfInBounds i u) t (0, 0)) := by
  rw [setCell_eq_setRow w g i cs t (0, 0) u h]
  exact setRow_heap w g cs _ t _ h
theorem row_set_ne {w : World} {g g' : Nat} {o : Obj} (h : w.heap[g]? = some o) (hn : g ≠ g') (i : Nat) (u : Value) : (w.setCell ⟨g', i, none⟩ u).heap[g]? = some o := (Below.heap_setCell _ _ _ _ hn).trans h
theorem own_down {w : World} {B B' : Nat} {e : TypeId} {size n : Nat} {v : Value} {xs : List Value} (h : w.ownsRow B e size v n xs) (hb : B' ≤ B) : w.ownsRow B' e size v n xs := by
  obtain ⟨h1, h2⟩ := h
  refine ⟨h1, ?_⟩
  rcases h2 with h | ⟨g, cap, cur, rfl, a2, a3⟩
  · exact .inl h
  · exact .inr ⟨g, cap, cur, rfl, by omega, a3⟩
theorem own_cell {w : World} {B : Nat} {e : TypeId} {size n : Nat} {v : Value} {xs : List Value} (h : w.ownsRow B e size v n xs) {g : Nat} (hg : g < B) (i : Nat) (u : Value) : (w.setCell ⟨g, i, none⟩ u).ownsRow B e size v n xs := by
  obtain ⟨h1, h2⟩ := h
  refine ⟨h1, ?_⟩
  rcases h2 with h | ⟨g', cap, cur, rfl, a2, a3, a4⟩
  · exact .inl h
  · exact .inr ⟨g', cap, cur, rfl, a2, row_set_ne a3 (by omega) _ _, a4⟩
theorem own_block_lt {w : World} {B : Nat} {e : TypeId} {size n : Nat} {v : Value} {xs : List Value} (h : w.ownsRow B e size v n xs) : ∀ g, v.ownBlock = some g → B ≤ g ∧ g < w.heap.size := by
  intro g hg
  exact h.lt g hg
theorem fown_set {w : World} {base : Nat} {e : TypeId} {size n : Nat} {v : Value} {xs : List Value} {g cap : Nat} (h : w.ownsRow base e size v n xs) (hv : v = .slice (some ⟨g, 0, none⟩) n cap) (k : Nat) (u : Value) :
    (w.setCell ⟨g, k, none⟩ u).ownsRow base e size v n (xs.set k u) := by
  obtain ⟨h1, h2⟩ := h
  refine ⟨by simpa using h1, ?_⟩
  rcases h2 with ⟨h3, -⟩ | ⟨g', cap', cur, h3, h4, h5, h6, h7, h8, h9⟩
  · rw [hv] at h3; cases h3
  · right
    have hg : g' = g := by rw [hv] at h3; injection h3 with a; simp at a; exact a.symm
    subst hg
    refine ⟨g', cap', cur.setIfInBounds k u, h3, h4, ?_, h6, h7, by simpa using h8, ?_⟩
    · rw [setCell_eq_setRow w g' k cur e (0, 0) u h5]
      exact setRow_heap w g' cur _ e _ h5
    · rw [Array.toList_setIfInBounds, List.take_set, h9]
theorem grown_cell (w : World) (g k : Nat) (u : Value) : w.grownBy (w.setCell ⟨g, k, none⟩ u) (some g) :=
  ⟨rfl, rfl, rfl, by simp [World.setCell], fun i _ hi => Below.heap_setCell _ _ _ _ (fun e => hi (by rw [e]))⟩
end Go.Proofs.Ytogfdhfmamabiaa
