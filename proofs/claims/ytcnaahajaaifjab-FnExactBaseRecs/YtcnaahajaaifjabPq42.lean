/-
  TkIs; EqRc
-/
import Derived.Test.YtcnaahajaaifjabPq2
import Derived.Test.YtcnaahajaaifjabKnMk
import Derived.Test.YtcnaahajaaifjabPq19
import Derived.Test.YtcnaahajaaifjabPq1
import Derived.Deep.RegionHeld3
/-
  What the laws hold: rows of numbers.
-/
namespace Go.Proofs.Ytcnaahajaaifjab
open Go.RowKit
open Words

/-- A row of numbers in the blocks lo to hi. -/
def IsH (lo hi : Nat) (v : Value) (n : Nat) (l : List Int) : World → Prop := Sli 3 lo hi v n (icells l)
theorem IsH.loc (lo hi : Nat) (v : Value) (n : Nat) (l : List Int) : Loc lo hi (IsH lo hi v n l) := Sli.loc _ _ _ _ _ _
/-- The same, marked. -/
def IsM (lo hi : Nat) (v : Value) (n : Nat) : World → Prop := Sli 3 lo hi v n (mkFlat patI 1 n)
theorem IsM.loc (lo hi : Nat) (v : Value) (n : Nat) : Loc lo hi (IsM lo hi v n) := Sli.loc _ _ _ _ _ _
theorem eqis_tk {w wi : World} {hs : List Hold} {a b : Value} {l : List Int} {n l1 h1 l2 h2 : Nat} (T : Tk w wi hs) (n1 n2 : Nat) (hn : l.length = n) (hm : n ≤ 1048576) (e1 : hs[n1]? = some (l1, h1, IsH l1 h1 a n l)) (e2 : hs[n2]? = some (l2, h2, IsH l2 h2 b n l)) :
    Calls Try.prog 26 #[a, b] wi fun e w' => e = .returned (.bool true) ∧ Tk w w' hs ∧ wi.heap.size ≤ w'.heap.size := by
  refine (eqIs_same a b l n l1 h1 l2 h2 wi hn (by omega) (T.get n1 e1) (T.get n2 e2)).mono ?_
  rintro e w' ⟨rfl, hb⟩
  exact ⟨rfl, T.below hb, hb.size⟩
theorem markis_tk {w wi : World} {hs hs' : List Hold} {a : Value} {l : List Int} {n m l1 h1 : Nat} (T : Tk w wi hs) (n1 : Nat) (hn : l.length = n) (hn2 : n ≤ 1048576) (hm : 1 + n = m) (hlo : w.heap.size ≤ l1) (e1 : hs[n1]? = some (l1, h1, IsH l1 h1 a n l)) (hh : ∀ x ∈ hs', x ∈ hs ∧ (x.2.1 ≤ l1 ∨ h1 ≤ x.1)) :
    Calls Try.prog 27 #[a, .int .i64 1] wi fun e w' => e = .returned (.int .i64 (m : Int)) ∧ Tk w w' ((l1, h1, IsM l1 h1 a n) :: hs') ∧ wi.heap.size ≤ w'.heap.size := by
  have hx : Sli 3 l1 h1 a n (icells l) wi := T.get n1 e1
  refine (markIs_any l1 h1 a n 1 (icells l) wi (by omega) (by simp [icells, hn]) (by omega) (by omega) hx).mono ?_
  rintro e w' ⟨rfl, hs2, hk⟩
  rw [hm]
  have hk2 : Kept2 wi w' (Apt l1 h1) := ⟨hk.out.1, hk.out.2.1, hk.out.2.2.1, hk.out.2.2.2.1, fun i hi ho => hk.out.2.2.2.2 i hi (fun e => by
    have := hx.lt i e
    exact ho ⟨this.1, this.2.1⟩)⟩
  exact ⟨rfl, T.touch hk2 hlo (T.hi n1 e1) (IsM.loc _ _ _ _) hs2.out hh, hk.out.2.2.2.1⟩
theorem markis_sp {w wi : World} {hs hs' : List Hold} {a : Value} {l : List Int} {n m l1 h1 : Nat} (T : Tk w wi hs) (n1 : Nat) (hn : l.length = n) (hn2 : n ≤ 1048576) (hm : 1 + n = m) (hlo : w.heap.size ≤ l1) (e1 : hs[n1]? = some (l1, h1, IsH l1 h1 a n l)) (hh : ∀ x ∈ hs', x ∈ hs ∧ (x.2.1 ≤ l1 ∨ h1 ≤ x.1)) :
    Calls Try.prog 27 #[a, .int .i64 1] wi fun e w' => e = .returned (.int .i64 (m : Int)) ∧ Tk w w' hs' ∧ wi.heap.size ≤ w'.heap.size := by
  refine (markis_tk T n1 hn hn2 hm hlo e1 hh).mono ?_
  rintro e w' ⟨rfl, h2, h3⟩
  exact ⟨rfl, h2.drop (fun x hx => List.mem_cons_of_mem _ hx), h3⟩
theorem heldis_tk {w wi : World} {hs : List Hold} {a : Value} {n m l1 h1 : Nat} (T : Tk w wi hs) (n1 : Nat) (hn2 : n ≤ 1048576) (hm : 1 + n = m) (e1 : hs[n1]? = some (l1, h1, IsM l1 h1 a n)) :
    Calls Try.prog 28 #[a, .int .i64 1] wi fun e w' => e = .returned (.int .i64 (m : Int)) ∧ Tk w w' hs ∧ wi.heap.size ≤ w'.heap.size := by
  refine (heldIs_any l1 h1 a n 1 wi (by omega) (by omega) (by omega) (T.get n1 e1)).mono ?_
  rintro e w' ⟨rfl, hb⟩
  rw [hm]
  exact ⟨rfl, T.below hb, hb.size⟩
end Go.Proofs.Ytcnaahajaaifjab

/-
  The laws' own toRec, eqRec and eqRecS.
-/
namespace Go.Proofs.Ytcnaahajaaifjab
open Go.RowKit

set_option maxHeartbeats 400000 in
set_option maxRecDepth 100000 in
theorem eqRc_same (x0 : Int) (x1 : Int) (x2 : Int) (x3 : Int) (w : World) :
    Calls Try.prog 54 #[.agg #[.int .i64 x0, .int .i64 x1, .int .i64 x2, .int .i64 x3], .agg #[.int .i64 x0, .int .i64 x1, .int .i64 x2, .int .i64 x3]] w fun e w' => e = .returned (.bool true) ∧ Below w.heap.size w w' := by
  have e0 : (x0 != x0) = false := by simp
  have e1 : (x1 != x1) = false := by simp
  have e2 : (x2 != x2) = false := by simp
  have e3 : (x3 != x3) = false := by simp
  go_enter Try.func54, Try.ntmps54
  go_wp2
  go_ret
  exact ⟨rfl, ((Below.refl _ _).alloc (Nat.le_refl _) _).alloc (by simp) _⟩
set_option maxHeartbeats 1000000 in
set_option maxRecDepth 100000 in
theorem eqRcs_same (a b : Value) (M : List (Int × Int × Int × Int)) (B1 C1 B2 C2 : Nat) (w : World) (hM : M.length ≤ 1000000000000000000) (ha : Sli 74 B1 C1 a M.length (rccells M) w) (hb : Sli 74 B2 C2 b M.length (rccells M) w) :
    Calls Try.prog 20 #[a, b] w fun e w' => e = .returned (.bool true) ∧ Below w.heap.size w w' := by
  obtain ⟨ad, capa, rfl, a3⟩ := ha.form
  obtain ⟨bd, capb, rfl, b3⟩ := hb.form
  obtain ⟨n, hn⟩ : ∃ n, M.length = n := ⟨_, rfl⟩
  have HN := hide hn
  have HSA := hide ha
  have HSB := hide hb
  rw [hn] at hM a3 b3 HSA HSB ⊢
  have A3 := hide a3
  have B3 := hide b3
  clear a3 b3 ha hb hn
  go_enter Try.func20, Try.ntmps20
  go_wp2
  go_loopw [5] (fun iv wr => ∃ k : Nat, k ≤ n ∧ iv = .int .i64 k ∧ Hid (Below w.heap.size w wr)) (fun iv _ => n - (intOf iv).toNat)
  case atStart => exact ⟨0, Nat.zero_le _, rfl, Below.refl _ _⟩
  case round =>
    obtain ⟨k, hk, rfl, HW⟩ := hrel
    by_cases hlt : (k : Int) < n
    · obtain ⟨ga, e, _, _⟩ := A3.out (by omega)
      subst e
      obtain ⟨gb, e, _, _⟩ := B3.out (by omega)
      subst e
      have hkl : k < M.length := by have := HN.out; omega
      obtain ⟨x0, x1, x2, x3, hx⟩ : ∃ x0 x1 x2 x3, M[k]? = some (x0, x1, x2, x3) := ⟨M[k].1, M[k].2.1, M[k].2.2.1, M[k].2.2.2, List.getElem?_eq_getElem hkl⟩
      have GA := HSA.out.flt.below HW.out
      have GB := HSB.out.flt.below HW.out
      have c0 : wr.cell? ⟨ga, k * 4, none⟩ = some (.int .i64 x0) := GA.cell (rccells_at M k _ hx 0 _ rfl)
      have d0 : wr.cell? ⟨gb, k * 4, none⟩ = some (.int .i64 x0) := GB.cell (rccells_at M k _ hx 0 _ rfl)
      have c1 : wr.cell? ⟨ga, k * 4 + 1, none⟩ = some (.int .i64 x1) := GA.cell (rccells_at M k _ hx 1 _ rfl)
      have d1 : wr.cell? ⟨gb, k * 4 + 1, none⟩ = some (.int .i64 x1) := GB.cell (rccells_at M k _ hx 1 _ rfl)
      have c2 : wr.cell? ⟨ga, k * 4 + 2, none⟩ = some (.int .i64 x2) := GA.cell (rccells_at M k _ hx 2 _ rfl)
      have d2 : wr.cell? ⟨gb, k * 4 + 2, none⟩ = some (.int .i64 x2) := GB.cell (rccells_at M k _ hx 2 _ rfl)
      have c3 : wr.cell? ⟨ga, k * 4 + 3, none⟩ = some (.int .i64 x3) := GA.cell (rccells_at M k _ hx 3 _ rfl)
      have d3 : wr.cell? ⟨gb, k * 4 + 3, none⟩ = some (.int .i64 x3) := GB.cell (rccells_at M k _ hx 3 _ rfl)
      have k0 : (0 : Int) ≤ k := by omega
      have CE := hide (eqRc_same x0 x1 x2 x3 wr.drew)
      have CF := hide (eqRc_same x0 x1 x2 x3 wr)
      have hsz := HW.out.size
      have gaw : ga < wr.heap.size := World.block_lt_of_cell? wr _ c0
      have gbw : gb < wr.heap.size := World.block_lt_of_cell? wr _ d0
      clear hx hkl GA GB
      first
        | (go_wp2_with fail
           refine CF.out.mono ?_
           rintro e w1 ⟨rfl, b1⟩
           have HW1 := hide (HW.out.trans (b1.mono hsz)))
        | (go_wp2
           go_region_held3 (fun w' => w'.cell? ⟨ga, k * 4, none⟩ = some (.int .i64 x0) ∧ w'.cell? ⟨ga, k * 4 + 1, none⟩ = some (.int .i64 x1) ∧ w'.cell? ⟨ga, k * 4 + 2, none⟩ = some (.int .i64 x2) ∧ w'.cell? ⟨ga, k * 4 + 3, none⟩ = some (.int .i64 x3) ∧ w'.cell? ⟨gb, k * 4, none⟩ = some (.int .i64 x0) ∧ w'.cell? ⟨gb, k * 4 + 1, none⟩ = some (.int .i64 x1) ∧ w'.cell? ⟨gb, k * 4 + 2, none⟩ = some (.int .i64 x2) ∧ w'.cell? ⟨gb, k * 4 + 3, none⟩ = some (.int .i64 x3)) (first | go_keep | exact ⟨(b1.cell (show ga < wr.drew.heap.size from gaw)).trans c0, (b1.cell (show ga < wr.drew.heap.size from gaw)).trans c1, (b1.cell (show ga < wr.drew.heap.size from gaw)).trans c2, (b1.cell (show ga < wr.drew.heap.size from gaw)).trans c3, (b1.cell (show gb < wr.drew.heap.size from gbw)).trans d0, (b1.cell (show gb < wr.drew.heap.size from gbw)).trans d1, (b1.cell (show gb < wr.drew.heap.size from gbw)).trans d2, (b1.cell (show gb < wr.drew.heap.size from gbw)).trans d3⟩) ((go_at_call 54; (with_reducible refine Calls.mono CE.out ?_); rintro en w1 ⟨rfl, b1⟩))
           have HW1 := hide (HW.out.drew.trans (b1.mono (show w.heap.size ≤ wr.drew.heap.size from hsz))))
      all_goals
        clear b1 CE CF HW c0 c1 c2 c3 d0 d1 d2 d3
        go_wp2
        go_roundw
        case rel => exact ⟨k + 1, by omega, by go_num, HW1⟩
        case measure => simp [intOf]; omega
    · go_wp2
      go_ret
      exact ⟨rfl, HW.out⟩
end Go.Proofs.Ytcnaahajaaifjab
