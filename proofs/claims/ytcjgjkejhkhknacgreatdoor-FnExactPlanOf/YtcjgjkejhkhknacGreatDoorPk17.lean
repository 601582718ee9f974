/-
  FRP; DvM2; DvM3; DvM4; DvM5; DvM6; Emp; SAsk; SRecOk; IRecOk; IAsk; IRtK
-/
import Derived.Test.YtcjgjkejhkhknacGreatDoorPk7
import Derived.Test.YtcjgjkejhkhknacGreatDoorPk5
import Derived.Test.YtcjgjkejhkhknacGreatDoorPk0
import Derived.Test.YtcjgjkejhkhknacGreatDoorPk8
import Derived.Test.YtcjgjkejhkhknacGreatDoorPk6
import Derived.Deep.RegionHeld3
import Derived.Deep.DeepCutAuto
import Derived.Laws.EntriesVeiled
import Derived.Deep.MidRow
set_option maxHeartbeats 2000000
set_option maxRecDepth 100000
namespace Go.Proofs.YtcjgjkejhkhknacGreatDoor
def Right (n : Int) (bs : List Bk) : Prop := flOk bs = true ∧ ∀ r ∈ bs, r.2.1 ≤ n
end Go.Proofs.YtcjgjkejhkhknacGreatDoor
namespace Go.Proofs.YtcjgjkejhkhknacGreatDoor
open Words Sums Pack
structure Ak where
 kind : Int
 vol : Int
 sector : Int
 of : Int
 text : ByteArray
def akB (q : Ak) : Bool :=
 if ¬ (1 ≤ q.kind ∧ q.kind ≤ 6) ∨ ¬ (1 ≤ q.vol ∧ q.vol ≤ 9) ∨ 64 < q.text.size ∨ (q.kind ≠ 1 ∧ q.text.size ≠ 0) then false
 else if q.kind = 4 then decide (q.sector = 0 ∧ 1 ≤ q.of ∧ q.of ≤ 9)
 else if q.of ≠ 0 then false
 else if q.kind = 3 ∨ q.kind = 5 then decide (q.sector = 0)
 else decide (0 ≤ q.sector ∧ q.sector ≤ 15)
def noT : ByteArray := ⟨#[]⟩
def packB (t : ByteArray) : ByteArray := match packL t.data.toList with
 | some p => ⟨p.toArray⟩
 | none => noT
def planP (d : Dv) (q : Ak) : List Rc × ByteArray × Int :=
 if akB q = false then ([], noT, 3)
 else if q.kind = 3 ∨ q.kind = 4 then
  if (atV d.store.vols q.vol).isSome then ([], noT, 2)
  else if q.kind = 4 ∧ (atV d.store.vols q.of).isSome = false then ([], noT, 1)
  else if 3 ≤ d.store.vols.length then ([], noT, 4)
  else ([⟨2, q.vol, q.of, 0⟩], noT, 0)
 else if (atV d.store.vols q.vol).isSome = false then ([], noT, 1)
 else if q.kind = 1 then
  if sameP (scanF d.flash) (liveS d.store) q.text.data.toList = 0 then ([⟨4, q.vol, q.sector, d.store.next⟩], packB q.text, 0)
  else ([⟨4, q.vol, q.sector, sameP (scanF d.flash) (liveS d.store) q.text.data.toList⟩], noT, 0)
 else if q.kind = 2 then ([⟨5, q.vol, q.sector, 0⟩], noT, 0)
 else if q.kind = 5 then ([⟨3, q.vol, 0, 0⟩], noT, 0)
 else ([], noT, 0)
end Go.Proofs.YtcjgjkejhkhknacGreatDoor
namespace Go.Proofs.YtcjgjkejhkhknacGreatDoor
open Go.RowKit
theorem ask_empty (t : ByteArray) : t.toList.isEmpty = decide (t.size = 0) := by
 rw [ByteArray.toList_eq]
 obtain ⟨⟨l⟩⟩ := t
 cases l with
 | nil => rfl
 | cons a l => exact (decide_eq_false (by simp [ByteArray.size])).symm
end Go.Proofs.YtcjgjkejhkhknacGreatDoor
namespace Go.Proofs.YtcjgjkejhkhknacGreatDoor
open Go.RowKit
open Words Sums
def akV (q : Ak) : Value := .agg #[.int .i64 q.kind, .int .i64 q.vol, .int .i64 q.sector, .int .i64 q.of, .string q.text]
def AkAt (W : World) (g : Nat) (q : Ak) : Prop := W.heap[g]? = some (.cells #[.int .i64 q.kind, .int .i64 q.vol, .int .i64 q.sector, .int .i64 q.of, .string q.text] 26 (0, 0))
theorem AkAt.below {w w' : World} {g : Nat} {q : Ak} (h : AkAt w g q) (hb : Below w.heap.size w w') : AkAt w' g q := (hb.block _ (Array.getElem?_eq_some_iff.1 h).1).trans h
theorem AkAt.cells {W : World} {g : Nat} {q : Ak} (h : AkAt W g q) : W.cell? ⟨g, 0, none⟩ = some (.int .i64 q.kind) ∧ W.cell? ⟨g, 1, none⟩ = some (.int .i64 q.vol) ∧ W.cell? ⟨g, 2, none⟩ = some (.int .i64 q.sector) ∧ W.cell? ⟨g, 3, none⟩ = some (.int .i64 q.of) ∧ W.cell? ⟨g, 4, none⟩ = some (.string q.text) :=
 ⟨cell_of_row _ _ 0 _ _ _ h, cell_of_row _ _ 1 _ _ _ h, cell_of_row _ _ 2 _ _ _ h, cell_of_row _ _ 3 _ _ _ h, cell_of_row _ _ 4 _ _ _ h⟩
theorem AkAt.far {W : World} {g h k : Nat} {u : Value} {q : Ak} (e : AkAt W g q) (hne : g ≠ h) : AkAt (W.setCell ⟨h, k, none⟩ u) g q := (Below.heap_setCell _ _ _ _ hne).trans e
theorem saskOk (q : Ak) (w : World) : Calls Tryz.prog 7 #[akV q] w fun e w' => e = .returned (.bool (akB q)) ∧ Below w.heap.size w w' := by
 obtain ⟨k, v, s, o, t⟩ := q
 unfold akV
 simp only
 have bA : Below w.heap.size w (w.alloc (.cells #[.int .i64 k, .int .i64 v, .int .i64 s, .int .i64 o, .string t] 26)) := (Below.refl _ _).alloc (Nat.le_refl _) _
 obtain ⟨c0, c1, c2, c3, c4⟩ := AkAt.cells (q := ⟨k, v, s, o, t⟩) (heap_alloc_new w (.cells #[.int .i64 k, .int .i64 v, .int .i64 s, .int .i64 o, .string t] 26))
 simp only at c0 c1 c2 c3 c4
 generalize hwa : w.alloc (.cells #[.int .i64 k, .int .i64 v, .int .i64 s, .int .i64 o, .string t] 26) = wa at bA c0 c1 c2 c3 c4
 have HB := hide bA
 obtain ⟨R, hR⟩ : ∃ R, akB ⟨k, v, s, o, t⟩ = R := ⟨_, rfl⟩
 rw [hR]
 have HR : Hid (R = if ¬ (1 ≤ k ∧ k ≤ 6) ∨ ¬ (1 ≤ v ∧ v ≤ 9) ∨ 64 < t.size ∨ (k ≠ 1 ∧ t.size ≠ 0) then false else if k = 4 then decide (s = 0 ∧ 1 ≤ o ∧ o ≤ 9) else if o ≠ 0 then false else if k = 3 ∨ k = 5 then decide (s = 0) else decide (0 ≤ s ∧ s ≤ 15)) := by show _ = _; rw [← hR]; rfl
 clear hR bA
 have HE := hide (ask_empty t)
 go_enter Tryz.func7, Tryz.ntmps7
 by_cases p1 : ¬ (1 ≤ k ∧ k ≤ 6)
 ·go_wp2_with fail
  (try clear hwa)
  refine (sin_b k 1 6 false _ (.inr ⟨by omega, rfl⟩)).mono ?_
  rintro e w' ⟨rfl, rfl⟩
  go_wp2
  go_ret
  exact ⟨by rw [HR.out, if_pos (.inl p1)]; rfl, HB.out⟩
 have p1 : 1 ≤ k ∧ k ≤ 6 := Classical.not_not.1 p1
 go_wp2_with fail
 (try clear hwa)
 refine (sin_b k 1 6 true _ (.inl ⟨p1.1, p1.2, rfl⟩)).mono ?_
 rintro e w' ⟨rfl, rfl⟩
 by_cases p2 : ¬ (1 ≤ v ∧ v ≤ 9)
 ·go_wp2_with fail
  (try clear hwa)
  refine (sin_b v 1 9 false _ (.inr ⟨by omega, rfl⟩)).mono ?_
  rintro e w' ⟨rfl, rfl⟩
  go_wp2
  go_ret
  exact ⟨by rw [HR.out, if_pos (.inr (.inl p2))]; rfl, HB.out⟩
 have p2 : 1 ≤ v ∧ v ≤ 9 := Classical.not_not.1 p2
 go_wp2_with fail
 (try clear hwa)
 refine (sin_b v 1 9 true _ (.inl ⟨p2.1, p2.2, rfl⟩)).mono ?_
 rintro e w' ⟨rfl, rfl⟩
 by_cases p3 : 64 < t.size
 ·have p3' : (t.size : Int) > 64 := by omega
  go_wp2
  go_ret
  exact ⟨by rw [HR.out, if_pos (.inr (.inr (.inl p3)))]; rfl, HB.out⟩
 have p3' : ¬ ((t.size : Int) > 64) := by omega
 by_cases p4 : k ≠ 1 ∧ t.size ≠ 0
 ·have p5 : (k != 1) = true := by simpa using p4.1
  have p6 : t.toList.isEmpty = false := by rw [HE.out]; exact decide_eq_false p4.2
  have HP := hide p4
  clear p4
  go_wp2
  go_ret
  exact ⟨by rw [HR.out, if_pos (.inr (.inr (.inr HP.out)))]; rfl, HB.out⟩
 have hno : Hid (¬ (¬ (1 ≤ k ∧ k ≤ 6) ∨ ¬ (1 ≤ v ∧ v ≤ 9) ∨ 64 < t.size ∨ (k ≠ 1 ∧ t.size ≠ 0))) := by
  rintro (h | h | h | h)
  ·exact h p1
  ·exact h p2
  ·exact p3 h
  ·exact p4 h
 have HR2 : Hid (R = if k = 4 then decide (s = 0 ∧ 1 ≤ o ∧ o ≤ 9) else if o ≠ 0 then false else if k = 3 ∨ k = 5 then decide (s = 0) else decide (0 ≤ s ∧ s ≤ 15)) := by show _ = _; rw [HR.out, if_neg hno.out]
 have hg : ((k != 1) = false) ∨ ((k != 1) = true ∧ t.toList.isEmpty = true) := by
  by_cases h1 : k = 1
  ·left; simp [h1]
  ·right
   refine ⟨by simpa using h1, ?_⟩
   rw [HE.out]
   exact decide_eq_true (Classical.not_not.1 fun h => p4 ⟨h1, h⟩)
 have HR := HR2
 clear HR2 hno HE p4 p3 p2 p1
 rcases hg with p4 | ⟨p4, p5⟩
 all_goals
  by_cases k4 : (k == 4) = true
  ·have k4' : k = 4 := by simpa using k4
   rw [if_pos k4'] at HR
   clear k4'
   by_cases s0 : (s == 0) = true
   ·have s0' : s = 0 := by simpa using s0
    have HS := hide s0'
    clear s0'
    by_cases o1 : 1 ≤ o ∧ o ≤ 9
    ·have HE : Hid (R = true) := by show _ = _; rw [HR.out]; exact decide_eq_true ⟨HS.out, o1⟩
     clear HR
     go_wp2_with fail
     refine (sin_b o 1 9 true _ (.inl ⟨o1.1, o1.2, rfl⟩)).mono ?_
     rintro e w' ⟨rfl, rfl⟩
     go_wp2
     go_ret
     exact ⟨by rw [HE.out]; rfl, HB.out⟩
    ·have HE : Hid (R = false) := by show _ = _; rw [HR.out]; exact decide_eq_false fun h => o1 h.2
     clear HR
     go_wp2_with fail
     refine (sin_b o 1 9 false _ (.inr ⟨by omega, rfl⟩)).mono ?_
     rintro e w' ⟨rfl, rfl⟩
     go_wp2
     go_ret
     exact ⟨by rw [HE.out]; rfl, HB.out⟩
   ·have s0 : (s == 0) = false := by simpa using s0
    have HE : Hid (R = false) := by show _ = _; rw [HR.out]; exact decide_eq_false fun h => by simp [h.1] at s0
    clear HR
    go_wp2
    go_ret
    exact ⟨by rw [HE.out]; rfl, HB.out⟩
  ·have k4' : ¬ k = 4 := by simpa using k4
   have k4 : (k == 4) = false := by simpa using k4
   rw [if_neg k4'] at HR
   clear k4'
   by_cases o0 : (o != 0) = true
   ·have HE : Hid (R = false) := by show _ = _; rw [HR.out]; exact if_pos (by simpa using o0)
    clear HR
    go_wp2
    go_ret
    exact ⟨by rw [HE.out]; rfl, HB.out⟩
   have o0' : ¬ (o ≠ 0) := by simpa using o0
   have o0 : (o != 0) = false := by simpa using o0
   rw [if_neg o0'] at HR
   clear o0'
   by_cases k3 : (k == 3) = true
   ·have HE : Hid (R = (s == 0)) := by show _ = _; rw [HR.out]; rw [if_pos (.inl (by simpa using k3))]; by_cases h : s = 0 <;> simp [h]
    clear HR
    go_wp2
    go_ret
    exact ⟨by rw [HE.out]; rfl, HB.out⟩
   have k3' : ¬ k = 3 := by simpa using k3
   have k3 : (k == 3) = false := by simpa using k3
   by_cases k5 : (k == 5) = true
   ·have HE : Hid (R = (s == 0)) := by show _ = _; rw [HR.out]; rw [if_pos (.inr (by simpa using k5))]; by_cases h : s = 0 <;> simp [h]
    clear HR
    go_wp2
    go_ret
    exact ⟨by rw [HE.out]; rfl, HB.out⟩
   have k5' : ¬ k = 5 := by simpa using k5
   have k5 : (k == 5) = false := by simpa using k5
   rw [if_neg (fun h => h.elim k3' k5')] at HR
   clear k3' k5'
   by_cases s1 : 0 ≤ s ∧ s ≤ 15
   ·have HE : Hid (R = true) := by show _ = _; rw [HR.out]; exact decide_eq_true s1
    clear HR
    go_wp2_with fail
    refine (sin_b s 0 15 true _ (.inl ⟨s1.1, s1.2, rfl⟩)).mono ?_
    rintro e w' ⟨rfl, rfl⟩
    go_wp2
    go_ret
    exact ⟨by rw [HE.out]; rfl, HB.out⟩
   ·have HE : Hid (R = false) := by show _ = _; rw [HR.out]; exact decide_eq_false s1
    clear HR
    go_wp2_with fail
    refine (sin_b s 0 15 false _ (.inr ⟨by omega, rfl⟩)).mono ?_
    rintro e w' ⟨rfl, rfl⟩
    go_wp2
    go_ret
    exact ⟨by rw [HE.out]; rfl, HB.out⟩
end Go.Proofs.YtcjgjkejhkhknacGreatDoor
namespace Go.Proofs.YtcjgjkejhkhknacGreatDoor
open Go.RowKit
open Words
theorem iwithin (x lo hi : Int) (b : Bool) (w : World) (h : (lo ≤ x ∧ x ≤ hi ∧ b = true) ∨ ((x < lo ∨ lo ≤ x ∧ ¬ x ≤ hi) ∧ b = false)) :
 Calls Tryz.prog 41 #[.int .i64 x, .int .i64 lo, .int .i64 hi] w fun e w' => e = .returned (.bool b) ∧ w' = w := by
 rcases h with ⟨h1, h2, rfl⟩ | ⟨h1 | ⟨h1, h2⟩, rfl⟩
 all_goals
  go_enter Tryz.func41, Tryz.ntmps41
  go_wp2
  go_ret
  exact ⟨rfl, rfl⟩
end Go.Proofs.YtcjgjkejhkhknacGreatDoor
namespace Go.Proofs.YtcjgjkejhkhknacGreatDoor
open Go.RowKit
open Words Sums
structure Kd where
 sec : Int
 of1 : Int
 of2 : Int
 text : Int
 ref : Value
 plan : Value
def kd0 : Kd := ⟨0, 0, 0, 0, .nilFunc, .nilFunc⟩
def fnV (n : Nat) : Value := .func (.func n) #[] #[]
def kd (k : Int) : Kd :=
 if k = 1 then ⟨15, 0, 0, 64, fnV 68, fnV 69⟩
 else if k = 2 then ⟨15, 0, 0, 0, fnV 68, fnV 70⟩
 else if k = 3 then ⟨0, 0, 0, 0, fnV 71, fnV 72⟩
 else if k = 4 then ⟨0, 1, 9, 0, fnV 71, fnV 72⟩
 else if k = 5 then ⟨0, 0, 0, 0, fnV 68, fnV 73⟩
 else if k = 6 then ⟨15, 0, 0, 0, fnV 68, fnV 74⟩
 else kd0
theorem kd_not {k : Int} (h : ¬ (1 ≤ k ∧ k ≤ 6)) : kd k = kd0 := by
 unfold kd
 rw [if_neg (by omega), if_neg (by omega), if_neg (by omega), if_neg (by omega), if_neg (by omega), if_neg (by omega)]
theorem akB_is (q : Ak) : akB q = decide ((1 ≤ q.kind ∧ q.kind ≤ 6) ∧ (1 ≤ q.vol ∧ q.vol ≤ 9) ∧ (0 ≤ q.sector ∧ q.sector ≤ (kd q.kind).sec) ∧ ((kd q.kind).of1 ≤ q.of ∧ q.of ≤ (kd q.kind).of2) ∧ (q.text.size : Int) ≤ (kd q.kind).text) := by
 obtain ⟨k, v, s, o, t⟩ := q
 unfold akB
 simp only
 by_cases h : 1 ≤ k ∧ k ≤ 6
 ·obtain rfl | rfl | rfl | rfl | rfl | rfl : k = 1 ∨ k = 2 ∨ k = 3 ∨ k = 4 ∨ k = 5 ∨ k = 6 := by omega
  all_goals
   simp only [kd, if_true, if_false, Int.reduceEq, or_self, false_or, or_false, ne_eq, not_true_eq_false, not_false_eq_true, true_and, false_and]
   repeat' split
   all_goals first
    | exact (decide_eq_false (by omega)).symm
    | exact decide_eq_decide.2 ⟨fun h => by omega, fun h => by omega⟩
 ·rw [if_pos (.inl h)]
  exact (decide_eq_false (fun x => h x.1)).symm
def kdV (c : Kd) : Value := .agg #[.int .i64 c.sec, .int .i64 c.of1, .int .i64 c.of2, .int .i64 c.text, c.ref, c.plan]
def KdAt (W : World) (g : Nat) (c : Kd) : Prop := W.heap[g]? = some (.cells #[.int .i64 c.sec, .int .i64 c.of1, .int .i64 c.of2, .int .i64 c.text, c.ref, c.plan] 68 (0, 0))
theorem KdAt.below {w w' : World} {g : Nat} {c : Kd} (h : KdAt w g c) (hb : Below w.heap.size w w') : KdAt w' g c := (hb.block _ (Array.getElem?_eq_some_iff.1 h).1).trans h
theorem KdAt.lt {w : World} {g : Nat} {c : Kd} (h : KdAt w g c) : g < w.heap.size := (Array.getElem?_eq_some_iff.1 h).1
theorem KdAt.cells {W : World} {g : Nat} {c : Kd} (h : KdAt W g c) : W.cell? ⟨g, 0, none⟩ = some (.int .i64 c.sec) ∧ W.cell? ⟨g, 1, none⟩ = some (.int .i64 c.of1) ∧ W.cell? ⟨g, 2, none⟩ = some (.int .i64 c.of2) ∧ W.cell? ⟨g, 3, none⟩ = some (.int .i64 c.text) ∧ W.cell? ⟨g, 4, none⟩ = some c.ref ∧ W.cell? ⟨g, 5, none⟩ = some c.plan :=
 ⟨cell_of_row _ _ 0 _ _ _ h, cell_of_row _ _ 1 _ _ _ h, cell_of_row _ _ 2 _ _ _ h, cell_of_row _ _ 3 _ _ _ h, cell_of_row _ _ 4 _ _ _ h, cell_of_row _ _ 5 _ _ _ h⟩
theorem KdAt.fr {W : World} {g : Nat} {c : Kd} (h : KdAt W g c) (k : Nat) : W.frozen? ⟨g, k, none⟩ = false := frozen_of_row _ _ k _ _ h
def put6 (W : World) (g : Nat) (a b c d e f : Value) : World := (((((W.setCell ⟨g, 0, none⟩ a).setCell ⟨g, 1, none⟩ b).setCell ⟨g, 2, none⟩ c).setCell ⟨g, 3, none⟩ d).setCell ⟨g, 4, none⟩ e).setCell ⟨g, 5, none⟩ f
theorem put6_other (W : World) (g : Nat) (a b c d e f : Value) {i : Nat} (h : i ≠ g) : (put6 W g a b c d e f).heap[i]? = W.heap[i]? := by
 unfold put6
 rw [Below.heap_setCell _ ⟨g, 5, none⟩ _ _ h, Below.heap_setCell _ ⟨g, 4, none⟩ _ _ h, Below.heap_setCell _ ⟨g, 3, none⟩ _ _ h, Below.heap_setCell _ ⟨g, 2, none⟩ _ _ h, Below.heap_setCell _ ⟨g, 1, none⟩ _ _ h, Below.heap_setCell _ ⟨g, 0, none⟩ _ _ h]
theorem put6_below {B g : Nat} {w W : World} (a b c d e f : Value) (h : Below B w W) (hg : B ≤ g) : Below B w (put6 W g a b c d e f) :=
 (((((h.setCell (p := ⟨g, 0, none⟩) hg _).setCell (p := ⟨g, 1, none⟩) hg _).setCell (p := ⟨g, 2, none⟩) hg _).setCell (p := ⟨g, 3, none⟩) hg _).setCell (p := ⟨g, 4, none⟩) hg _).setCell (p := ⟨g, 5, none⟩) hg _
theorem put6_at {W : World} {g : Nat} {c0 : Kd} (h : KdAt W g c0) (c : Kd) : KdAt (put6 W g (.int .i64 c.sec) (.int .i64 c.of1) (.int .i64 c.of2) (.int .i64 c.text) c.ref c.plan) g c :=
 heap_setCell_same _ _ 5 _ _ _ (heap_setCell_same _ _ 4 _ _ _ (heap_setCell_same _ _ 3 _ _ _ (heap_setCell_same _ _ 2 _ _ _ (heap_setCell_same _ _ 1 _ _ _ (heap_setCell_same _ _ 0 _ _ _ h)))))
theorem infoKdS : (Tryz.prog.info? 68).map (·.size) = some 6 := by kernel_rfl
theorem results_kd2 {fn : Func} {p q : Tmp} (h : fn.results = #[.cell p 68, .tmp q]) (tmps : Array Value) (w : World) (g : Nat) (c : Kd)
 (hp : tmps.getD p undef = .pointer (some ⟨g, 0, none⟩)) (hc : KdAt w g c) :
 (results fn tmps).run Tryz.prog w = .ok (.tuple #[kdV c, tmps.getD q undef]) w := by
 have hp' : tmps[p]?.getD undef = .pointer (some ⟨g, 0, none⟩) := by simpa using hp
 have hl := run_loadVar_row (P := Tryz.prog) w g 68 68 _ _ _ hc Tryz.underlying68 rfl infoKdS
 simp [results, h, hp', asAddr, hl, kdV]
def kindsC : Array Value := #[.int .i64 0, .int .i64 0, .int .i64 0, .int .i64 0, .nilFunc, .nilFunc, .int .i64 15, .int .i64 0, .int .i64 0, .int .i64 64, .func (.func 68) #[] #[], .func (.func 69) #[] #[], .int .i64 15, .int .i64 0, .int .i64 0, .int .i64 0, .func (.func 68) #[] #[], .func (.func 70) #[] #[], .int .i64 0, .int .i64 0, .int .i64 0, .int .i64 0, .func (.func 71) #[] #[], .func (.func 72) #[] #[], .int .i64 0, .int .i64 1, .int .i64 9, .int .i64 0, .func (.func 71) #[] #[], .func (.func 72) #[] #[], .int .i64 0, .int .i64 0, .int .i64 0, .int .i64 0, .func (.func 68) #[] #[], .func (.func 73) #[] #[], .int .i64 15, .int .i64 0, .int .i64 0, .int .i64 0, .func (.func 68) #[] #[], .func (.func 74) #[] #[]]
def kindsV : Value := .agg kindsC
theorem infoKds : (Tryz.prog.info? 93).map (·.size) = some 42 := by kernel_rfl
theorem results_kds {fn : Func} {p : Tmp} (h : fn.results = #[.cell p 93]) (tmps : Array Value) (w : World) (g : Nat)
 (hp : tmps.getD p undef = .pointer (some ⟨g, 0, none⟩)) (hc : w.rangeAt g 0 kindsC.toList) :
 (results fn tmps).run Tryz.prog w = .ok kindsV w := by
 have hp' : tmps[p]?.getD undef = .pointer (some ⟨g, 0, none⟩) := by simpa using hp
 have hl := run_loadVar_mid (P := Tryz.prog) w g 0 93 kindsC.toList _ hc Tryz.underlying93 rfl infoKds
 simp [results, h, hp', asAddr, hl, kindsV]
theorem kds_below {B b : Nat} {a : World} (hb : B ≤ b) : ∀ (vs : List Value) (o : Nat) (w : World), Below B a w → Below B a (w.setCells b o vs)
 | [], _, _, h => h
 | v :: r, o, w, h => by
  rw [World.setCells]
  exact kds_below hb r _ _ (h.setCell (p := ⟨b, o, none⟩) hb v)
def kindsZ : Array Value := #[.int .i64 0, .int .i64 0, .int .i64 0, .int .i64 0, .nilFunc, .nilFunc, .int .i64 0, .int .i64 0, .int .i64 0, .int .i64 0, .nilFunc, .nilFunc, .int .i64 0, .int .i64 0, .int .i64 0, .int .i64 0, .nilFunc, .nilFunc, .int .i64 0, .int .i64 0, .int .i64 0, .int .i64 0, .nilFunc, .nilFunc, .int .i64 0, .int .i64 0, .int .i64 0, .int .i64 0, .nilFunc, .nilFunc, .int .i64 0, .int .i64 0, .int .i64 0, .int .i64 0, .nilFunc, .nilFunc, .int .i64 0, .int .i64 0, .int .i64 0, .int .i64 0, .nilFunc, .nilFunc]
theorem kds_there (w : World) : (w.alloc (.cells kindsZ 93)).there w.heap.size 0 kindsC.size := by
 intro j hj
 rw [Nat.zero_add, World.cell?_alloc_mark]
 refine ⟨?_, by simp⟩
 have h1 : kindsZ.size = 42 := rfl
 have h2 : kindsC.size = 42 := rfl
 rw [Array.getElem?_eq_getElem (by omega)]
 rfl
theorem kds_one : kindsC.all (·.oneCell') = true := by kernel_rfl
theorem ikinds (w : World) : Calls Tryz.prog 42 #[] w fun e w' => e = .returned kindsV ∧ Below w.heap.size w w' := by
 have HT := hide (kds_there w)
 have FR := hide (World.rangeAt_setCells_same _ _ 0 kindsC.toList (show (w.alloc (.cells kindsZ 93)).there w.heap.size 0 kindsC.toList.length from kds_there w))
 have FB := hide (kds_below (Nat.le_refl w.heap.size) kindsC.toList 0 _ ((Below.refl w.heap.size w).alloc (Nat.le_refl _) (.cells kindsZ 93)))
 go_enter Tryz.func42, Tryz.ntmps42
 go_wp2_with (refine wpList_store_mid rfl 93 (Operand.tmp 0) (Operand.tmp 7) rfl w.heap.size 0 kindsC rfl rfl HT.out infoKds kds_one ?_)
 refine bodyPost_ret (results_kds rfl _ _ w.heap.size rfl FR.out) rfl ?_
 exact ⟨rfl, FB.out⟩
theorem infoKdA : (Tryz.prog.info? 68).map (fun i => (i.zero, i.size, i.bytes)) = some (some (.agg #[.int .i64 0, .int .i64 0, .int .i64 0, .int .i64 0, .nilFunc, .nilFunc]), 6, 48) := by kernel_rfl
theorem kinds_at {k : Int} (h : 1 ≤ k ∧ k ≤ 6) (W : World) : (Instr.index 93 kindsV (.int .i64 k)).run Tryz.prog W = .ok (kdV (kd k)) W := by
 obtain rfl | rfl | rfl | rfl | rfl | rfl : k = 1 ∨ k = 2 ∨ k = 3 ∨ k = 4 ∨ k = 5 ∨ k = 6 := by omega
 all_goals
  obtain ⟨i0, hi, hz0, hz1, hz2⟩ := info_parts infoKdA
  simp [Instr.index, run_underlying Tryz.underlying93, asIntOf, kindsV, part, sizeOf, typeInfo, hi, hz1, isAgg, run_underlying Tryz.underlying68, kindsC, kdV, kd, fnV]
theorem kd_in {k : Int} (h : 1 ≤ k ∧ k ≤ 6) : ∃ c1 c2 c3 c4 n1 n2, kd k = ⟨c1, c2, c3, c4, .func (.func n1) #[] #[], .func (.func n2) #[] #[]⟩ := by
 obtain rfl | rfl | rfl | rfl | rfl | rfl : k = 1 ∨ k = 2 ∨ k = 3 ∨ k = 4 ∨ k = 5 ∨ k = 6 := by omega
 all_goals exact ⟨_, _, _, _, _, _, rfl⟩
def RkSt (w W : World) (q : Ak) (g : Nat) : Prop := AkAt W w.heap.size q ∧ KdAt W (w.heap.size + 1) kd0 ∧ KdAt W g (kd q.kind) ∧ Below w.heap.size w W
def RkI (w W : World) (q : Ak) : Prop := AkAt W w.heap.size q ∧ KdAt W (w.heap.size + 1) kd0 ∧ Below w.heap.size w W
theorem RkI.below {w W W' : World} {q : Ak} (h : RkI w W q) (hb : Below W.heap.size W W') : RkI w W' q := ⟨h.1.below hb, h.2.1.below hb, h.2.2.trans (hb.mono h.2.2.size)⟩
theorem RkI.late {w W : World} {q : Ak} {c : Kd} (h : RkI w W q) (hc : kd q.kind = c) : RkSt w (W.alloc (.cells #[.int .i64 c.sec, .int .i64 c.of1, .int .i64 c.of2, .int .i64 c.text, c.ref, c.plan] 68)) q W.heap.size := by
 have b := (Below.refl W.heap.size W).alloc (Nat.le_refl _) (.cells #[.int .i64 c.sec, .int .i64 c.of1, .int .i64 c.of2, .int .i64 c.text, c.ref, c.plan] 68)
 have h2 := h.below b
 refine ⟨h2.1, h2.2.1, ?_, h2.2.2⟩
 rw [hc]
 exact heap_alloc_new _ _
theorem RkI.early {w W : World} {q : Ak} {c : Kd} {g : Nat} (h : RkI w W q) (hz : KdAt W g kd0) (hg : w.heap.size + 1 < g) (hc : kd q.kind = c) : RkSt w (put6 W g (.int .i64 c.sec) (.int .i64 c.of1) (.int .i64 c.of2) (.int .i64 c.text) c.ref c.plan) q g := by
 refine ⟨(put6_other _ _ _ _ _ _ _ _ (by omega)).trans h.1, (put6_other _ _ _ _ _ _ _ _ (by omega)).trans h.2.1, ?_, put6_below _ _ _ _ _ _ h.2.2 (by omega)⟩
 rw [hc]
 exact put6_at hz c
theorem irightK (q : Ak) (w : World) : Calls Tryz.prog 22 #[akV q] w fun e w' => e = .returned (.tuple #[kdV (kd q.kind), .bool (akB q)]) ∧ Below w.heap.size w w' := by
 obtain ⟨k, v, s, o, t⟩ := q
 unfold akV
 simp only
 have s0 : (w.alloc (.cells #[.int .i64 k, .int .i64 v, .int .i64 s, .int .i64 o, .string t] 26)).heap.size = w.heap.size + 1 := by simp
 have b0 : Below w.heap.size w (w.alloc (.cells #[.int .i64 k, .int .i64 v, .int .i64 s, .int .i64 o, .string t] 26)) := (Below.refl _ _).alloc (Nat.le_refl _) _
 have a0 : AkAt (w.alloc (.cells #[.int .i64 k, .int .i64 v, .int .i64 s, .int .i64 o, .string t] 26)) w.heap.size ⟨k, v, s, o, t⟩ := heap_alloc_new _ _
 have b1 := (Below.refl (w.alloc (.cells #[.int .i64 k, .int .i64 v, .int .i64 s, .int .i64 o, .string t] 26)).heap.size _).alloc (Nat.le_refl _) (.cells #[.int .i64 0, .int .i64 0, .int .i64 0, .int .i64 0, .nilFunc, .nilFunc] 68)
 have aA := a0.below b1
 have zA : KdAt ((w.alloc (.cells #[.int .i64 k, .int .i64 v, .int .i64 s, .int .i64 o, .string t] 26)).alloc (.cells #[.int .i64 0, .int .i64 0, .int .i64 0, .int .i64 0, .nilFunc, .nilFunc] 68)) (w.heap.size + 1) kd0 := by
  rw [← s0]
  exact heap_alloc_new _ _
 have bA := b0.trans (b1.mono b0.size)
 generalize hwa : (w.alloc (.cells #[.int .i64 k, .int .i64 v, .int .i64 s, .int .i64 o, .string t] 26)).alloc (.cells #[.int .i64 0, .int .i64 0, .int .i64 0, .int .i64 0, .nilFunc, .nilFunc] 68) = wa at aA zA bA
 have hwz : wa.heap.size = w.heap.size + 1 + 1 := by rw [← hwa]; simp
 obtain ⟨c0, c1, c2, c3, c4⟩ := aA.cells
 simp only at c0 c1 c2 c3 c4
 obtain ⟨R, hR⟩ : ∃ R, akB ⟨k, v, s, o, t⟩ = R := ⟨_, rfl⟩
 rw [hR]
 have HR : Hid (R = decide ((1 ≤ k ∧ k ≤ 6) ∧ (1 ≤ v ∧ v ≤ 9) ∧ (0 ≤ s ∧ s ≤ (kd k).sec) ∧ ((kd k).of1 ≤ o ∧ o ≤ (kd k).of2) ∧ (t.size : Int) ≤ (kd k).text)) := hR.symm.trans (akB_is _)
 have HA := hide aA
 have HZ := hide zA
 have HB := hide bA
 have HS := hide hwz
 clear s0 b0 a0 b1 aA zA bA hwz hR
 by_cases p1 : ¬ (1 ≤ k ∧ k ≤ 6)
 ·have HE : Hid (R = false) := by show _ = _; rw [HR.out]; exact decide_eq_false (fun x => p1 x.1)
  have HK := hide (kd_not p1)
  obtain ⟨z0, z1, z2, z3, z4, z5⟩ := HZ.out.cells
  unfold kd0 at z0 z1 z2 z3 z4 z5
  simp only at z0 z1 z2 z3 z4 z5
  have f0 := HZ.out.fr 0
  have f1 := HZ.out.fr 1
  have f2 := HZ.out.fr 2
  have f3 := HZ.out.fr 3
  have f4 := HZ.out.fr 4
  have f5 := HZ.out.fr 5
  have FA := hide (put6_at HZ.out kd0)
  have FB := hide (put6_below (.int .i64 kd0.sec) (.int .i64 kd0.of1) (.int .i64 kd0.of2) (.int .i64 kd0.text) kd0.ref kd0.plan HB.out (g := w.heap.size + 1) (by omega))
  unfold put6 kd0 at FA FB
  simp only at FA FB
  clear HR
  go_enter Tryz.func22, Tryz.ntmps22
  go_wp2_with fail
  clear hwa
  refine (iwithin k 1 6 false _ (.inr ⟨by omega, rfl⟩)).mono ?_
  rintro e w' ⟨rfl, rfl⟩
  go_wp2
  refine bodyPost_ret (results_kd2 rfl _ _ (w.heap.size + 1) _ rfl FA.out) rfl ?_
  rw [HK.out, HE.out]
  exact ⟨rfl, FB.out⟩
 have p1 : 1 ≤ k ∧ k ≤ 6 := Classical.not_not.1 p1
 have hix := kinds_at p1
 obtain ⟨C1, C2, C3, C4, n1, n2, hC⟩ := kd_in p1
 rw [hC] at HR hix ⊢
 unfold kdV at hix ⊢
 simp only at HR hix ⊢
 have HC := hide hC
 clear hC
 go_enter Tryz.func22, Tryz.ntmps22
 go_wp2_with fail
 clear hwa
 refine (iwithin k 1 6 true _ (.inl ⟨p1.1, p1.2, rfl⟩)).mono ?_
 rintro e wq ⟨rfl, rfl⟩
 go_upto_region 3 with fail
 go_cut [4] (fun s4 wc => ∃ g : Nat, s4 = .pointer (some ⟨g, 0, none⟩) ∧ Hid (RkSt w wc ⟨k, v, s, o, t⟩ g) ∧ w.heap.size + 1 < g)
 case first =>
  have hk0 : (0 : Int) ≤ k := by omega
  have R0 := hide (show RkI w wq ⟨k, v, s, o, t⟩ from ⟨HA.out, HZ.out, HB.out⟩)
  have RD := hide (R0.out.below (W' := wq.drew) (Below.refl _ _).drew)
  have RE := hide (R0.out.below (W' := (wq.alloc (.cells #[.int .i64 0, .int .i64 0, .int .i64 0, .int .i64 0, .nilFunc, .nilFunc] 68)).drew) ((Below.refl _ _).alloc (Nat.le_refl _) _).drew)
  have ZE : Hid (KdAt (wq.alloc (.cells #[.int .i64 0, .int .i64 0, .int .i64 0, .int .i64 0, .nilFunc, .nilFunc] 68)).drew wq.heap.size kd0) := heap_alloc_new wq (.cells #[.int .i64 0, .int .i64 0, .int .i64 0, .int .i64 0, .nilFunc, .nilFunc] 68)
  have K0 := hide RD.out.1.cells.1
  have K1 := hide RE.out.1.cells.1
  simp only at K0 K1
  clear c1 c2 c3 c4
  go_region_held3 (fun W => W.cell? ⟨w.heap.size, 0, none⟩ = some (.int .i64 k)) (first | (with_reducible exact K0.out) | (with_reducible exact K1.out) | (with_reducible exact KC.out) | (with_reducible exact KD.out) | (with_reducible exact KE.out) | go_keep) ((go_at_call 42; (with_reducible refine Calls.mono (ikinds _) ?_); rintro en y1 ⟨rfl, b1⟩; have R1 := hide (show RkI w y1 ⟨k, v, s, o, t⟩ from by first | (with_reducible exact RD.out.below b1) | (with_reducible exact RE.out.below b1)); (try have Z1 := hide (show KdAt y1 wq.heap.size kd0 from by with_reducible exact ZE.out.below b1)); have KC := hide R1.out.1.cells.1; have FL := hide (R1.out.late HC.out); have KD := hide FL.out.1.cells.1; (try have FE := hide (R1.out.early Z1.out (show w.heap.size + 1 < wq.heap.size by have := HS.out; omega) HC.out)); (try have KE := hide FE.out.1.cells.1); (try unfold put6 at FE KE); simp only at KC FL KD; (try simp only at FE KE); (try obtain ⟨z0, z1, z2, z3, z4, z5⟩ := Z1.out.cells); (try unfold kd0 at z0 z1 z2 z3 z4 z5); (try simp only at z0 z1 z2 z3 z4 z5); (try have f0 := Z1.out.fr 0); (try have f1 := Z1.out.fr 1); (try have f2 := Z1.out.fr 2); (try have f3 := Z1.out.fr 3); (try have f4 := Z1.out.fr 4); (try have f5 := Z1.out.fr 5); clear b1))
  all_goals
   go_wp2_with fail
   go_meet
   case rel => first
    | ((with_reducible refine ⟨_, rfl, FL, ?_⟩); have := R1.out.2.1.lt; omega)
    | ((with_reducible refine ⟨_, rfl, FE, ?_⟩); have := HS.out; omega)
 case rest =>
  obtain ⟨w2, hwc⟩ : ∃ w2, w2 = wc := ⟨_, rfl⟩
  subst hwc
  obtain ⟨g, hs4, hg, hlt⟩ := hcut
  subst hs4
  obtain ⟨A2, Z2, G2, B2⟩ := hg.out
  obtain ⟨d0, d1, d2, d3, d4⟩ := A2.cells
  simp only at d0 d1 d2 d3 d4
  simp only at G2
  rw [HC.out] at G2
  obtain ⟨e0, e1, e2, e3, e4, e5⟩ := G2.cells
  simp only at e0 e1 e2 e3 e4 e5
  have HG := hide G2
  have HZ2 := hide Z2
  have HB2 := hide B2
  clear HA HZ HB HS hg A2 Z2 G2 B2 hix
  go_upto_region 4 with fail
  go_cut [5] (fun s5 wc => s5 = .bool R ∧ wc = w2)
  case first =>
   by_cases p2 : 1 ≤ v ∧ v ≤ 9
   ·go_wp2_with fail
    refine (iwithin v 1 9 true _ (.inl ⟨p2.1, p2.2, rfl⟩)).mono ?_
    rintro e w' ⟨rfl, rfl⟩
    by_cases p3 : 0 ≤ s ∧ s ≤ C1
    ·go_wp2_with fail
     refine (iwithin s 0 C1 true _ (.inl ⟨p3.1, p3.2, rfl⟩)).mono ?_
     rintro e w' ⟨rfl, rfl⟩
     by_cases p4 : C2 ≤ o ∧ o ≤ C3
     ·go_wp2_with fail
      refine (iwithin o C2 C3 true _ (.inl ⟨p4.1, p4.2, rfl⟩)).mono ?_
      rintro e w' ⟨rfl, rfl⟩
      have HE : Hid (R = decide ((t.size : Int) ≤ C4)) := by show _ = _; rw [HR.out]; exact decide_eq_decide.2 ⟨fun h => h.2.2.2.2, fun h => ⟨p1, p2, p3, p4, h⟩⟩
      by_cases p5 : (t.size : Int) ≤ C4
      ·go_wp2
       go_meet
       case rel => exact ⟨by rw [HE.out, decide_eq_true p5], rfl⟩
      ·go_wp2
       go_meet
       case rel => exact ⟨by rw [HE.out, decide_eq_false (by omega)], rfl⟩
     ·have HE : Hid (R = false) := by show _ = _; rw [HR.out]; exact decide_eq_false (fun h => p4 h.2.2.2.1)
      go_wp2_with fail
      refine (iwithin o C2 C3 false _ (.inr ⟨by omega, rfl⟩)).mono ?_
      rintro e w' ⟨rfl, rfl⟩
      go_wp2
      go_meet
      case rel => exact ⟨by rw [HE.out], rfl⟩
    ·have HE : Hid (R = false) := by show _ = _; rw [HR.out]; exact decide_eq_false (fun h => p3 h.2.2.1)
     go_wp2_with fail
     refine (iwithin s 0 C1 false _ (.inr ⟨by omega, rfl⟩)).mono ?_
     rintro e w' ⟨rfl, rfl⟩
     go_wp2
     go_meet
     case rel => exact ⟨by rw [HE.out], rfl⟩
   ·have HE : Hid (R = false) := by show _ = _; rw [HR.out]; exact decide_eq_false (fun h => p2 h.2.1)
    go_wp2_with fail
    refine (iwithin v 1 9 false _ (.inr ⟨by omega, rfl⟩)).mono ?_
    rintro e w' ⟨rfl, rfl⟩
    go_wp2
    go_meet
    case rel => exact ⟨by rw [HE.out], rfl⟩
  case rest =>
   obtain ⟨w3, hwc⟩ : ∃ w3, w3 = wc := ⟨_, rfl⟩
   subst hwc
   obtain ⟨hs5, hw3⟩ := hcut
   subst hs5 hw3
   obtain ⟨z0, z1, z2, z3, z4, z5⟩ := HZ2.out.cells
   have f0 := HZ2.out.fr 0
   have f1 := HZ2.out.fr 1
   have f2 := HZ2.out.fr 2
   have f3 := HZ2.out.fr 3
   have f4 := HZ2.out.fr 4
   have f5 := HZ2.out.fr 5
   have FA := hide (put6_at HZ2.out ⟨C1, C2, C3, C4, .func (.func n1) #[] #[], .func (.func n2) #[] #[]⟩)
   have FB := hide (put6_below (.int .i64 C1) (.int .i64 C2) (.int .i64 C3) (.int .i64 C4) (.func (.func n1) #[] #[]) (.func (.func n2) #[] #[]) HB2.out (g := w.heap.size + 1) (by omega))
   unfold put6 at FA FB
   simp only at FA
   clear HR d0 d1 d2 d3 d4 HG HZ2 HB2
   go_wp2
   refine bodyPost_ret (results_kd2 rfl _ _ (w.heap.size + 1) _ rfl FA.out) rfl ?_
   exact ⟨rfl, FB.out⟩
end Go.Proofs.YtcjgjkejhkhknacGreatDoor
