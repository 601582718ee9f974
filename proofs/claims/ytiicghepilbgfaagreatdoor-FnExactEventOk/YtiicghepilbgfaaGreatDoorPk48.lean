/-
  LawEv; SRecOk; IRecOk; IAsk
-/
import Derived.Test.YtiicghepilbgfaaGreatDoorSEvOk
import Derived.Test.YtiicghepilbgfaaGreatDoorPk0
import Derived.Test.YtiicghepilbgfaaGreatDoorPk9
import Derived.Test.YtiicghepilbgfaaGreatDoorPk30
import Derived.Test.YtiicghepilbgfaaGreatDoorPk46
import Derived.Deep.RegionHeld3
import Derived.Deep.DeepCutAuto
import Derived.Laws.EntriesVeiled
import Derived.Deep.MidRow
/-
  FnExactEventOk, of what impl answers.
-/
namespace Go.Proofs.YtiicghepilbgfaaGreatDoor
open Go.RowKit
open Words Sums

set_option maxHeartbeats 400000 in
set_option maxRecDepth 100000 in
theorem lawEv_of (k v s o : Int) (t : ByteArray) (c : Bool) (wh : Int) (tn : Bool) (w : World) (ht : t.size ≤ maxLen) (HI : EvOkC 8) :
    Calls Tryz.prog 3 #[.agg #[.int .i64 k, .int .i64 v, .int .i64 s, .int .i64 o, .string t, .bool c, .int .i64 wh, .bool tn]] w fun e w' => e = .returned (.bool true) ∧ Below w.heap.size w w' := by
  have bA : Below w.heap.size w (w.alloc (.cells #[.int .i64 k, .int .i64 v, .int .i64 s, .int .i64 o, .string t, .bool c, .int .i64 wh, .bool tn] 25)) := (Below.refl _ _).alloc (Nat.le_refl _) _
  have gA : EvAt (w.alloc (.cells #[.int .i64 k, .int .i64 v, .int .i64 s, .int .i64 o, .string t, .bool c, .int .i64 wh, .bool tn] 25)) w.heap.size ⟨k, v, s, o, t⟩ c wh tn 25 := heap_alloc_new _ _
  have CZ := szEv_any ⟨k, v, s, o, t⟩ c wh tn 1048576 (w.alloc (.cells #[.int .i64 k, .int .i64 v, .int .i64 s, .int .i64 o, .string t, .bool c, .int .i64 wh, .bool tn] 25)) ht (Nat.le_refl _)
  have CT := hide (fun W => toEv_any ⟨k, v, s, o, t⟩ c wh tn W)
  have CS := hide (fun W => sevOk ⟨k, v, s, o, t⟩ c wh tn W)
  have CI := hide (fun W => HI ⟨k, v, s, o, t⟩ c wh tn W)
  obtain ⟨R, hR⟩ : ∃ R, (akB ⟨k, v, s, o, t⟩ && decide (0 ≤ wh)) = R := ⟨_, rfl⟩
  have hne : (R != R) = false := by simp
  simp only [hR] at CS CI
  unfold evV at CZ CT CS CI
  simp only at CZ CT CS CI
  have HZ := hide CZ
  have HB := hide bA
  have HG := hide gA
  clear bA gA ht CZ hR HI
  go_enter Tryz.func3, Tryz.ntmps3
  go_wp2_with fail
  refine HZ.out.mono ?_
  rintro e w1 ⟨⟨r, rfl, r1, r2, -⟩, b1⟩
  have B1 := hide (HB.out.trans (b1.mono HB.out.size))
  have G1 := hide (HG.out.on (b1.block _ (Array.getElem?_eq_some_iff.1 HG.out).1))
  clear b1 HZ HB HG
  by_cases hr : r < 0
  · go_wp2
    go_ret
    exact ⟨rfl, B1.out⟩
  obtain ⟨c0, c1, c2, c3, c4, c5, c6, c7⟩ := G1.out.cells
  simp only at c0 c1 c2 c3 c4
  go_wp2_with fail
  refine (CT.out w1).mono ?_
  rintro e w2 ⟨rfl, b2⟩
  have B2 := hide (B1.out.trans (b2.mono B1.out.size))
  have G2 := hide (G1.out.on (b2.block _ (Array.getElem?_eq_some_iff.1 G1.out).1))
  clear b2 B1 G1 c0 c1 c2 c3 c4 c5 c6 c7
  go_wp2_with fail
  refine (CS.out w2).mono ?_
  rintro e w3 ⟨rfl, b3⟩
  have B3 := hide (B2.out.trans (b3.mono B2.out.size))
  have G3 := hide (G2.out.on (b3.block _ (Array.getElem?_eq_some_iff.1 G2.out).1))
  clear b3 B2 G2
  obtain ⟨c0, c1, c2, c3, c4, c5, c6, c7⟩ := G3.out.cells
  simp only at c0 c1 c2 c3 c4
  go_wp2_with fail
  refine (CT.out w3).mono ?_
  rintro e w4 ⟨rfl, b4⟩
  have B4 := hide (B3.out.trans (b4.mono B3.out.size))
  clear b4 B3 G3 c0 c1 c2 c3 c4 c5 c6 c7
  go_wp2_with fail
  refine (CI.out w4).mono ?_
  rintro e w5 ⟨rfl, b5⟩
  have B5 := hide (B4.out.trans (b5.mono B4.out.size))
  clear b5 B4
  go_wp2
  go_ret
  exact ⟨rfl, B5.out⟩
end Go.Proofs.YtiicghepilbgfaaGreatDoor

/-
  spec.RecOk.
-/
namespace Go.Proofs.YtiicghepilbgfaaGreatDoor
open Go.RowKit
open Words

def rcVal (r : Rc) : Value := .agg #[.int .i64 r.kind, .int .i64 r.vol, .int .i64 r.arg, .int .i64 r.chunk]

theorem rc_spec (k v a c : Int) : (Rc.mk k v a c).Right ↔ (0 ≤ a ∧ a ≤ 1000000000) ∧ (k = 1 ∧ v = 0 ∧ c = 0 ∨ (1 ≤ v ∧ v ≤ 9) ∧ (k = 2 ∧ a ≤ 9 ∧ c = 0 ∨ k = 3 ∧ a = 0 ∧ c = 0 ∨ k = 4 ∧ a < 16 ∧ 1 ≤ c ∧ c ≤ 1000000000 ∨ k = 5 ∧ a < 16 ∧ c = 0)) := Iff.rfl

end Go.Proofs.YtiicghepilbgfaaGreatDoor

/-
  impl.isWithin, impl.RecOk.
-/
namespace Go.Proofs.YtiicghepilbgfaaGreatDoor
open Go.RowKit
open Words

set_option maxHeartbeats 400000 in
set_option maxRecDepth 100000 in
theorem iwithin (x lo hi : Int) (b : Bool) (w : World) (h : (lo ≤ x ∧ x ≤ hi ∧ b = true) ∨ ((x < lo ∨ lo ≤ x ∧ ¬ x ≤ hi) ∧ b = false)) :
    Calls Tryz.prog 60 #[.int .i64 x, .int .i64 lo, .int .i64 hi] w fun e w' => e = .returned (.bool b) ∧ w' = w := by
  rcases h with ⟨h1, h2, rfl⟩ | ⟨h1 | ⟨h1, h2⟩, rfl⟩
  all_goals
    go_enter Tryz.func60, Tryz.ntmps60
    go_wp2
    go_ret
    exact ⟨rfl, rfl⟩
end Go.Proofs.YtiicghepilbgfaaGreatDoor

/-
  impl.askKinds, rightKind, impl.AskOk.
-/
namespace Go.Proofs.YtiicghepilbgfaaGreatDoor
open Go.RowKit
open Words Sums

/-- What the table has of a kind of asks. -/
structure Kd where
  sec : Int
  of1 : Int
  of2 : Int
  text : Int
  ref : Value
  plan : Value
def kd0 : Kd := ⟨0, 0, 0, 0, .nilFunc, .nilFunc⟩
def fnV (n : Nat) : Value := .func (.func n) #[] #[]
def kd (k : Int) : Kd :=
  if k = 1 then ⟨15, 0, 0, 64, fnV 83, fnV 84⟩
  else if k = 2 then ⟨15, 0, 0, 0, fnV 83, fnV 85⟩
  else if k = 3 then ⟨0, 0, 0, 0, fnV 86, fnV 87⟩
  else if k = 4 then ⟨0, 1, 9, 0, fnV 86, fnV 87⟩
  else if k = 5 then ⟨0, 0, 0, 0, fnV 83, fnV 88⟩
  else if k = 6 then ⟨15, 0, 0, 0, fnV 83, fnV 89⟩
  else kd0
theorem kd_not {k : Int} (h : ¬ (1 ≤ k ∧ k ≤ 6)) : kd k = kd0 := by
  unfold kd
  rw [if_neg (by omega), if_neg (by omega), if_neg (by omega), if_neg (by omega), if_neg (by omega), if_neg (by omega)]
theorem akB_is (q : Ak) : akB q = decide ((1 ≤ q.kind ∧ q.kind ≤ 6) ∧ (1 ≤ q.vol ∧ q.vol ≤ 9) ∧ (0 ≤ q.sector ∧ q.sector ≤ (kd q.kind).sec) ∧ ((kd q.kind).of1 ≤ q.of ∧ q.of ≤ (kd q.kind).of2) ∧ (q.text.size : Int) ≤ (kd q.kind).text) := by
  obtain ⟨k, v, s, o, t⟩ := q
  unfold akB
  simp only
  by_cases h : 1 ≤ k ∧ k ≤ 6
  · obtain rfl | rfl | rfl | rfl | rfl | rfl : k = 1 ∨ k = 2 ∨ k = 3 ∨ k = 4 ∨ k = 5 ∨ k = 6 := by omega
    all_goals
      simp only [kd, if_true, if_false, Int.reduceEq, or_self, false_or, or_false, ne_eq, not_true_eq_false, not_false_eq_true, true_and, false_and]
      repeat' split
      all_goals first
        | exact (decide_eq_false (by omega)).symm
        | exact decide_eq_decide.2 ⟨fun h => by omega, fun h => by omega⟩
  · rw [if_pos (.inl h)]
    exact (decide_eq_false (fun x => h x.1)).symm
/-- A kind as a value, and in block g. -/
def kdV (c : Kd) : Value := .agg #[.int .i64 c.sec, .int .i64 c.of1, .int .i64 c.of2, .int .i64 c.text, c.ref, c.plan]
def KdAt (W : World) (g : Nat) (c : Kd) : Prop := W.heap[g]? = some (.cells #[.int .i64 c.sec, .int .i64 c.of1, .int .i64 c.of2, .int .i64 c.text, c.ref, c.plan] 91 (0, 0))
theorem KdAt.below {w w' : World} {g : Nat} {c : Kd} (h : KdAt w g c) (hb : Below w.heap.size w w') : KdAt w' g c := (hb.block _ (Array.getElem?_eq_some_iff.1 h).1).trans h
theorem KdAt.lt {w : World} {g : Nat} {c : Kd} (h : KdAt w g c) : g < w.heap.size := (Array.getElem?_eq_some_iff.1 h).1
theorem KdAt.cells {W : World} {g : Nat} {c : Kd} (h : KdAt W g c) : W.cell? ⟨g, 0, none⟩ = some (.int .i64 c.sec) ∧ W.cell? ⟨g, 1, none⟩ = some (.int .i64 c.of1) ∧ W.cell? ⟨g, 2, none⟩ = some (.int .i64 c.of2) ∧ W.cell? ⟨g, 3, none⟩ = some (.int .i64 c.text) ∧ W.cell? ⟨g, 4, none⟩ = some c.ref ∧ W.cell? ⟨g, 5, none⟩ = some c.plan :=
  ⟨cell_of_row _ _ 0 _ _ _ h, cell_of_row _ _ 1 _ _ _ h, cell_of_row _ _ 2 _ _ _ h, cell_of_row _ _ 3 _ _ _ h, cell_of_row _ _ 4 _ _ _ h, cell_of_row _ _ 5 _ _ _ h⟩
theorem KdAt.fr {W : World} {g : Nat} {c : Kd} (h : KdAt W g c) (k : Nat) : W.frozen? ⟨g, k, none⟩ = false := frozen_of_row _ _ k _ _ h
/-- Six cells are laid over block g. -/
def put6 (W : World) (g : Nat) (a b c d e f : Value) : World := (((((W.setCell ⟨g, 0, none⟩ a).setCell ⟨g, 1, none⟩ b).setCell ⟨g, 2, none⟩ c).setCell ⟨g, 3, none⟩ d).setCell ⟨g, 4, none⟩ e).setCell ⟨g, 5, none⟩ f
theorem put6_other (W : World) (g : Nat) (a b c d e f : Value) {i : Nat} (h : i ≠ g) : (put6 W g a b c d e f).heap[i]? = W.heap[i]? := by
  unfold put6
  rw [Below.heap_setCell _ ⟨g, 5, none⟩ _ _ h, Below.heap_setCell _ ⟨g, 4, none⟩ _ _ h, Below.heap_setCell _ ⟨g, 3, none⟩ _ _ h, Below.heap_setCell _ ⟨g, 2, none⟩ _ _ h, Below.heap_setCell _ ⟨g, 1, none⟩ _ _ h, Below.heap_setCell _ ⟨g, 0, none⟩ _ _ h]
theorem put6_size (W : World) (g : Nat) (a b c d e f : Value) : (put6 W g a b c d e f).heap.size = W.heap.size := by simp [put6, World.setCell]
theorem put6_below {B g : Nat} {w W : World} (a b c d e f : Value) (h : Below B w W) (hg : B ≤ g) : Below B w (put6 W g a b c d e f) :=
  (((((h.setCell (p := ⟨g, 0, none⟩) hg _).setCell (p := ⟨g, 1, none⟩) hg _).setCell (p := ⟨g, 2, none⟩) hg _).setCell (p := ⟨g, 3, none⟩) hg _).setCell (p := ⟨g, 4, none⟩) hg _).setCell (p := ⟨g, 5, none⟩) hg _
theorem put6_at {W : World} {g : Nat} {c0 : Kd} (h : KdAt W g c0) (c : Kd) : KdAt (put6 W g (.int .i64 c.sec) (.int .i64 c.of1) (.int .i64 c.of2) (.int .i64 c.text) c.ref c.plan) g c :=
  heap_setCell_same _ _ 5 _ _ _ (heap_setCell_same _ _ 4 _ _ _ (heap_setCell_same _ _ 3 _ _ _ (heap_setCell_same _ _ 2 _ _ _ (heap_setCell_same _ _ 1 _ _ _ (heap_setCell_same _ _ 0 _ _ _ h)))))
theorem infoKdS : (Tryz.prog.info? 91).map (·.size) = some 6 := by kernel_rfl
theorem results_kd2 {fn : Func} {p q : Tmp} (h : fn.results = #[.cell p 91, .tmp q]) (tmps : Array Value) (w : World) (g : Nat) (c : Kd)
    (hp : tmps.getD p undef = .pointer (some ⟨g, 0, none⟩)) (hc : KdAt w g c) :
    (results fn tmps).run Tryz.prog w = .ok (.tuple #[kdV c, tmps.getD q undef]) w := by
  have hp' : tmps[p]?.getD undef = .pointer (some ⟨g, 0, none⟩) := by simpa using hp
  have hl := run_loadVar_row (P := Tryz.prog) w g 91 91 _ _ _ hc Tryz.underlying91 rfl infoKdS
  simp [results, h, hp', asAddr, hl, kdV]
/-- The cells of the table. -/
def kindsC : Array Value := #[.int .i64 0, .int .i64 0, .int .i64 0, .int .i64 0, .nilFunc, .nilFunc, .int .i64 15, .int .i64 0, .int .i64 0, .int .i64 64, .func (.func 83) #[] #[], .func (.func 84) #[] #[], .int .i64 15, .int .i64 0, .int .i64 0, .int .i64 0, .func (.func 83) #[] #[], .func (.func 85) #[] #[], .int .i64 0, .int .i64 0, .int .i64 0, .int .i64 0, .func (.func 86) #[] #[], .func (.func 87) #[] #[], .int .i64 0, .int .i64 1, .int .i64 9, .int .i64 0, .func (.func 86) #[] #[], .func (.func 87) #[] #[], .int .i64 0, .int .i64 0, .int .i64 0, .int .i64 0, .func (.func 83) #[] #[], .func (.func 88) #[] #[], .int .i64 15, .int .i64 0, .int .i64 0, .int .i64 0, .func (.func 83) #[] #[], .func (.func 89) #[] #[]]
def kindsV : Value := .agg kindsC
theorem infoKds : (Tryz.prog.info? 122).map (·.size) = some 42 := by kernel_rfl
theorem results_kds {fn : Func} {p : Tmp} (h : fn.results = #[.cell p 122]) (tmps : Array Value) (w : World) (g : Nat)
    (hp : tmps.getD p undef = .pointer (some ⟨g, 0, none⟩)) (hc : w.rangeAt g 0 kindsC.toList) :
    (results fn tmps).run Tryz.prog w = .ok kindsV w := by
  have hp' : tmps[p]?.getD undef = .pointer (some ⟨g, 0, none⟩) := by simpa using hp
  have hl := run_loadVar_mid (P := Tryz.prog) w g 0 122 kindsC.toList _ hc Tryz.underlying122 rfl infoKds
  simp [results, h, hp', asAddr, hl, kindsV]
theorem kds_below {B b : Nat} {a : World} (hb : B ≤ b) : ∀ (vs : List Value) (o : Nat) (w : World), Below B a w → Below B a (w.setCells b o vs)
  | [], _, _, h => h
  | v :: r, o, w, h => by
    rw [World.setCells]
    exact kds_below hb r _ _ (h.setCell (p := ⟨b, o, none⟩) hb v)
def kindsZ : Array Value := #[.int .i64 0, .int .i64 0, .int .i64 0, .int .i64 0, .nilFunc, .nilFunc, .int .i64 0, .int .i64 0, .int .i64 0, .int .i64 0, .nilFunc, .nilFunc, .int .i64 0, .int .i64 0, .int .i64 0, .int .i64 0, .nilFunc, .nilFunc, .int .i64 0, .int .i64 0, .int .i64 0, .int .i64 0, .nilFunc, .nilFunc, .int .i64 0, .int .i64 0, .int .i64 0, .int .i64 0, .nilFunc, .nilFunc, .int .i64 0, .int .i64 0, .int .i64 0, .int .i64 0, .nilFunc, .nilFunc, .int .i64 0, .int .i64 0, .int .i64 0, .int .i64 0, .nilFunc, .nilFunc]
theorem kds_there (w : World) : (w.alloc (.cells kindsZ 122)).there w.heap.size 0 kindsC.size := by
  intro j hj
  rw [Nat.zero_add, World.cell?_alloc_mark]
  refine ⟨?_, by simp⟩
  have h1 : kindsZ.size = 42 := rfl
  have h2 : kindsC.size = 42 := rfl
  rw [Array.getElem?_eq_getElem (by omega)]
  rfl
theorem kds_one : kindsC.all (·.oneCell') = true := by kernel_rfl
set_option maxHeartbeats 1000000 in
set_option maxRecDepth 100000 in
theorem ikinds (w : World) : Calls Tryz.prog 61 #[] w fun e w' => e = .returned kindsV ∧ Below w.heap.size w w' := by
  have HT := hide (kds_there w)
  have FR := hide (World.rangeAt_setCells_same _ _ 0 kindsC.toList (show (w.alloc (.cells kindsZ 122)).there w.heap.size 0 kindsC.toList.length from kds_there w))
  have FB := hide (kds_below (Nat.le_refl w.heap.size) kindsC.toList 0 _ ((Below.refl w.heap.size w).alloc (Nat.le_refl _) (.cells kindsZ 122)))
  go_enter Tryz.func61, Tryz.ntmps61
  go_wp2_with (refine wpList_store_mid rfl 122 (Operand.tmp 0) (Operand.tmp 7) rfl w.heap.size 0 kindsC rfl rfl HT.out infoKds kds_one ?_)
  refine bodyPost_ret (results_kds rfl _ _ w.heap.size rfl FR.out) rfl ?_
  exact ⟨rfl, FB.out⟩
end Go.Proofs.YtiicghepilbgfaaGreatDoor
