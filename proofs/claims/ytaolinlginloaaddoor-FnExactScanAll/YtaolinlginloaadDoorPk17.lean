/-
  PgV; EqPg; FdEq
-/
import Derived.Test.YtaolinlginloaadDoorPk0
import Derived.Test.YtaolinlginloaadDoorPgMath
import Derived.Test.YtaolinlginloaadDoorPk15
import Derived.Deep.RegionHeld3
/-
  A page as a value.
-/
namespace Go.Proofs.YtaolinlginloaadDoor
open Go.RowKit
open Words

def pgVal (p : Pg) : Value := .agg #[.int .i64 p.kind, .int .i64 p.seq, .int .i64 p.tx, .int .i64 p.part, .int .i64 p.count, .string p.text]
end Go.Proofs.YtaolinlginloaadDoor

/-
  The laws' own eqPage.
-/
namespace Go.Proofs.YtaolinlginloaadDoor
open Go.RowKit
open Words

set_option maxHeartbeats 400000 in
set_option maxRecDepth 100000 in
theorem eqPage_same (p : Pg) (w : World) :
    Calls Tryd.prog 38 #[pgVal p, pgVal p] w fun e w' => e = .returned (.bool true) ∧ Below w.heap.size w w' := by
  obtain ⟨k, s, x, q, c, t⟩ := p
  unfold pgVal
  simp only
  go_enter Tryd.func38, Tryd.ntmps38
  go_wp2
  go_ret
  exact ⟨rfl, ((Below.refl _ _).alloc (Nat.le_refl _) _).alloc (by simp) _⟩
end Go.Proofs.YtaolinlginloaadDoor

/-
  Rows of what scans found: equal.
-/
namespace Go.Proofs.YtaolinlginloaadDoor
open Go.RowKit
open Words

set_option maxHeartbeats 400000 in
set_option maxRecDepth 100000 in
theorem eqFound_same (x : Fnd) (w : World) :
    Calls Tryd.prog 24 #[.agg #[.int .i64 x.block, .int .i64 x.leaf, .int .i64 x.page.kind, .int .i64 x.page.seq, .int .i64 x.page.tx, .int .i64 x.page.part, .int .i64 x.page.count, .string x.page.text], .agg #[.int .i64 x.block, .int .i64 x.leaf, .int .i64 x.page.kind, .int .i64 x.page.seq, .int .i64 x.page.tx, .int .i64 x.page.part, .int .i64 x.page.count, .string x.page.text]] w fun e w' => e = .returned (.bool true) ∧ Below w.heap.size w w' := by
  have C := hide (fun w => eqPage_same ⟨x.page.kind, x.page.seq, x.page.tx, x.page.part, x.page.count, x.page.text⟩ w)
  unfold pgVal at C
  simp only at C
  have e1 : (x.block != x.block) = false := by simp
  have e2 : (x.leaf != x.leaf) = false := by simp
  have HB := hide (((Below.refl w.heap.size w).alloc (Nat.le_refl _) (.cells #[.int .i64 x.block, .int .i64 x.leaf, .int .i64 x.page.kind, .int .i64 x.page.seq, .int .i64 x.page.tx, .int .i64 x.page.part, .int .i64 x.page.count, .string x.page.text] 49)).alloc (by simp) (.cells #[.int .i64 x.block, .int .i64 x.leaf, .int .i64 x.page.kind, .int .i64 x.page.seq, .int .i64 x.page.tx, .int .i64 x.page.part, .int .i64 x.page.count, .string x.page.text] 49))
  go_enter Tryd.func24, Tryd.ntmps24
  go_wp2_with fail
  refine (C.out _).mono ?_
  rintro e w1 ⟨rfl, b1⟩
  have B1 := hide (HB.out.trans (b1.mono HB.out.size))
  clear b1 HB C
  go_wp2
  go_ret
  exact ⟨rfl, B1.out⟩

set_option maxHeartbeats 1000000 in
set_option maxRecDepth 100000 in
theorem eqFoundS_same (a b : Value) (M : List Fnd) (B1 C1 B2 C2 : Nat) (w : World) (hM : M.length ≤ 1000000000000000000) (ha : Sli 49 B1 C1 a M.length (fcells M) w) (hb : Sli 49 B2 C2 b M.length (fcells M) w) :
    Calls Tryd.prog 9 #[a, b] w fun e w' => e = .returned (.bool true) ∧ Below w.heap.size w w' := by
  obtain ⟨ad, capa, rfl, a3⟩ := ha.form
  obtain ⟨bd, capb, rfl, b3⟩ := hb.form
  obtain ⟨n, hn⟩ : ∃ n, M.length = n := ⟨_, rfl⟩
  have HN := hide hn
  have HSA := hide ha
  have HSB := hide hb
  rw [hn] at hM a3 b3 HSA HSB ⊢
  have A3 := hide a3
  have B3 := hide b3
  clear a3 b3 ha hb hn
  go_enter Tryd.func9, Tryd.ntmps9
  go_wp2
  go_loopw [5] (fun iv wr => ∃ k : Nat, k ≤ n ∧ iv = .int .i64 k ∧ Hid (Below w.heap.size w wr)) (fun iv _ => n - (intOf iv).toNat)
  case atStart => exact ⟨0, Nat.zero_le _, rfl, Below.refl _ _⟩
  case round =>
    obtain ⟨k, hk, rfl, HW⟩ := hrel
    by_cases hlt : (k : Int) < n
    · obtain ⟨ga, e, _, _⟩ := A3.out (by omega)
      subst e
      obtain ⟨gb, e, _, _⟩ := B3.out (by omega)
      subst e
      have hkl : k < M.length := by have := HN.out; omega
      obtain ⟨x, hx⟩ : ∃ x, M[k]? = some x := ⟨_, List.getElem?_eq_getElem hkl⟩
      have HX := hide hx
      have GA := hide (HSA.out.flt.below HW.out)
      have GB := hide (HSB.out.flt.below HW.out)
      have KC : Hid (∀ W, Flt 49 ga (fcells M) W → Flt 49 gb (fcells M) W → (W.cell? ⟨ga, k * 8, none⟩ = some (.int .i64 x.block) ∧ W.cell? ⟨ga, k * 8 + 1, none⟩ = some (.int .i64 x.leaf) ∧ W.cell? ⟨ga, k * 8 + 2, none⟩ = some (.int .i64 x.page.kind) ∧ W.cell? ⟨ga, k * 8 + 3, none⟩ = some (.int .i64 x.page.seq) ∧ W.cell? ⟨ga, k * 8 + 4, none⟩ = some (.int .i64 x.page.tx) ∧ W.cell? ⟨ga, k * 8 + 5, none⟩ = some (.int .i64 x.page.part) ∧ W.cell? ⟨ga, k * 8 + 6, none⟩ = some (.int .i64 x.page.count) ∧ W.cell? ⟨ga, k * 8 + 7, none⟩ = some (.string x.page.text)) ∧ W.cell? ⟨gb, k * 8, none⟩ = some (.int .i64 x.block) ∧ W.cell? ⟨gb, k * 8 + 1, none⟩ = some (.int .i64 x.leaf) ∧ W.cell? ⟨gb, k * 8 + 2, none⟩ = some (.int .i64 x.page.kind) ∧ W.cell? ⟨gb, k * 8 + 3, none⟩ = some (.int .i64 x.page.seq) ∧ W.cell? ⟨gb, k * 8 + 4, none⟩ = some (.int .i64 x.page.tx) ∧ W.cell? ⟨gb, k * 8 + 5, none⟩ = some (.int .i64 x.page.part) ∧ W.cell? ⟨gb, k * 8 + 6, none⟩ = some (.int .i64 x.page.count) ∧ W.cell? ⟨gb, k * 8 + 7, none⟩ = some (.string x.page.text)) := fun W h1 h2 => ⟨⟨h1.cell (fcells_at M k x HX.out 0 _ rfl), h1.cell (fcells_at M k x HX.out 1 _ rfl), h1.cell (fcells_at M k x HX.out 2 _ rfl), h1.cell (fcells_at M k x HX.out 3 _ rfl), h1.cell (fcells_at M k x HX.out 4 _ rfl), h1.cell (fcells_at M k x HX.out 5 _ rfl), h1.cell (fcells_at M k x HX.out 6 _ rfl), h1.cell (fcells_at M k x HX.out 7 _ rfl)⟩, ⟨h2.cell (fcells_at M k x HX.out 0 _ rfl), h2.cell (fcells_at M k x HX.out 1 _ rfl), h2.cell (fcells_at M k x HX.out 2 _ rfl), h2.cell (fcells_at M k x HX.out 3 _ rfl), h2.cell (fcells_at M k x HX.out 4 _ rfl), h2.cell (fcells_at M k x HX.out 5 _ rfl), h2.cell (fcells_at M k x HX.out 6 _ rfl), h2.cell (fcells_at M k x HX.out 7 _ rfl)⟩⟩
      obtain ⟨⟨c0, c1, c2, c3, c4, c5, c6, c7⟩, d0, d1, d2, d3, d4, d5, d6, d7⟩ := KC.out _ GA.out GB.out
      have k0 : (0 : Int) ≤ k := by omega
      clear hx hkl
      go_wp2
      go_region_held3 (fun w' => (w'.cell? ⟨ga, k * 8, none⟩ = some (.int .i64 x.block) ∧ w'.cell? ⟨ga, k * 8 + 1, none⟩ = some (.int .i64 x.leaf) ∧ w'.cell? ⟨ga, k * 8 + 2, none⟩ = some (.int .i64 x.page.kind) ∧ w'.cell? ⟨ga, k * 8 + 3, none⟩ = some (.int .i64 x.page.seq) ∧ w'.cell? ⟨ga, k * 8 + 4, none⟩ = some (.int .i64 x.page.tx) ∧ w'.cell? ⟨ga, k * 8 + 5, none⟩ = some (.int .i64 x.page.part) ∧ w'.cell? ⟨ga, k * 8 + 6, none⟩ = some (.int .i64 x.page.count) ∧ w'.cell? ⟨ga, k * 8 + 7, none⟩ = some (.string x.page.text)) ∧ w'.cell? ⟨gb, k * 8, none⟩ = some (.int .i64 x.block) ∧ w'.cell? ⟨gb, k * 8 + 1, none⟩ = some (.int .i64 x.leaf) ∧ w'.cell? ⟨gb, k * 8 + 2, none⟩ = some (.int .i64 x.page.kind) ∧ w'.cell? ⟨gb, k * 8 + 3, none⟩ = some (.int .i64 x.page.seq) ∧ w'.cell? ⟨gb, k * 8 + 4, none⟩ = some (.int .i64 x.page.tx) ∧ w'.cell? ⟨gb, k * 8 + 5, none⟩ = some (.int .i64 x.page.part) ∧ w'.cell? ⟨gb, k * 8 + 6, none⟩ = some (.int .i64 x.page.count) ∧ w'.cell? ⟨gb, k * 8 + 7, none⟩ = some (.string x.page.text)) (first | go_keep | exact K2.out) ((go_at_call 24; refine (eqFound_same x _).mono ?_; rintro e w1 ⟨rfl, hb1⟩; have HW2 := hide (HW.out.drew.trans (hb1.mono (by have := HW.out.size; exact this))); have K2 := hide (KC.out _ ((GA.out.below (Below.refl _ _).drew).below hb1) ((GB.out.below (Below.refl _ _).drew).below hb1)); clear hb1))
      all_goals
        clear c0 c1 c2 c3 c4 c5 c6 c7 d0 d1 d2 d3 d4 d5 d6 d7 KC K2 GA GB
        go_wp2
        go_roundw
        case rel => exact ⟨k + 1, by omega, by go_num, HW2⟩
        case measure => simp [intOf]; omega
    · go_wp2
      go_ret
      exact ⟨rfl, HW.out⟩
end Go.Proofs.YtaolinlginloaadDoor
