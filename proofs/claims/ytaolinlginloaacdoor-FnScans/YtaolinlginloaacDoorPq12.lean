/-
  RAt; IReader; IRead1; IRead0
-/
import Derived.Test.YtaolinlginloaacDoorPq3
import Derived.Test.YtaolinlginloaacDoorPq8
import Derived.Laws.Rows
import Derived.Test.YtaolinlginloaacDoorPq10
import Derived.Deep.RegionHeld3
import Derived.Deep.RegionWith
import Derived.Deep.QuietTactic
import Derived.BigQuiet
import Derived.Laws.DeepStrings4
import Derived.Lib.Strings
import Derived.Deep.RegionHeld
/-
  The reader of pages: a block of two cells, and what its methods leave.
-/
namespace Go.Proofs.YtaolinlginloaacDoor
open Go.RowKit
open Words

/-- The reader that lies in block g. -/
def RAt (w : World) (g : Nat) (t : ByteArray) (i : Int) : Prop := g < w.heap.size ∧ w.cell? ⟨g, 0, none⟩ = some (.string t) ∧ w.cell? ⟨g, 1, none⟩ = some (.int .i64 i) ∧ w.frozen? ⟨g, 0, none⟩ = false ∧ w.frozen? ⟨g, 1, none⟩ = false
/-- A call that has moved the reader alone, and laid new blocks. -/
def Moved (w w' : World) (g : Nat) (t : ByteArray) (i : Int) : Prop := Kept2 w w' (· ≠ g) ∧ RAt w' g t i

theorem RAt.below {w w' : World} {g : Nat} {t : ByteArray} {i : Int} (h : RAt w g t i) (hb : Below w.heap.size w w') : RAt w' g t i := by
  obtain ⟨h1, h2, h3, h4, h5⟩ := h
  have e : ∀ j, w'.cell? ⟨g, j, none⟩ = w.cell? ⟨g, j, none⟩ := fun j => hb.cell (show g < w.heap.size from h1)
  have f : ∀ j, w'.frozen? ⟨g, j, none⟩ = w.frozen? ⟨g, j, none⟩ := fun j => hb.frozen (show g < w.heap.size from h1)
  exact ⟨Nat.lt_of_lt_of_le h1 hb.size, by rw [e]; exact h2, by rw [e]; exact h3, by rw [f]; exact h4, by rw [f]; exact h5⟩
theorem RAt.both {w : World} {g : Nat} {t t' : ByteArray} {i i' : Int} (h : RAt w g t i) : RAt ((w.setCell ⟨g, 0, none⟩ (.string t')).setCell ⟨g, 1, none⟩ (.int .i64 i')) g t' i' := by
  obtain ⟨h1, h2, h3, h4, h5⟩ := h
  have o : ∀ (w : World) (i j : Nat) (u : Value), i ≠ j → (w.setCell ⟨g, i, none⟩ u).cell? ⟨g, j, none⟩ = w.cell? ⟨g, j, none⟩ := fun w i j u hij => World.cell?_setCell_other _ _ _ _ (fun e => hij (by injection e))
  refine ⟨by simpa using h1, ?_, ?_, by simpa using h4, by simpa using h5⟩
  · rw [o _ 1 0 _ (by omega)]
    exact World.cell?_setCell_same _ _ _ h2
  · exact World.cell?_setCell_same _ _ _ ((o w 0 1 (.string t') (by omega)).trans h3)
theorem RAt.at_ {w : World} {g : Nat} {t : ByteArray} {i i' : Int} (h : RAt w g t i) : RAt (w.setCell ⟨g, 1, none⟩ (.int .i64 i')) g t i' := by
  obtain ⟨h1, h2, h3, h4, h5⟩ := h
  have o : ∀ (w : World) (i j : Nat) (u : Value), i ≠ j → (w.setCell ⟨g, i, none⟩ u).cell? ⟨g, j, none⟩ = w.cell? ⟨g, j, none⟩ := fun w i j u hij => World.cell?_setCell_other _ _ _ _ (fun e => hij (by injection e))
  refine ⟨by simpa using h1, ?_, ?_, by simpa using h4, by simpa using h5⟩
  · rw [o _ 1 0 _ (by omega)]
    exact h2
  · exact World.cell?_setCell_same _ _ _ h3
theorem kept_set (w : World) (g j : Nat) (v : Value) : Kept2 w (w.setCell ⟨g, j, none⟩ v) (· ≠ g) := by
  refine ⟨rfl, rfl, rfl, by simp, fun i _ hne => ?_⟩
  exact Below.heap_setCell _ _ _ _ hne
theorem Moved.both {w w' : World} {g : Nat} {t t' : ByteArray} {i i' : Int} (h : RAt w g t i) (hb : Below w.heap.size w w') : Moved w ((w'.setCell ⟨g, 0, none⟩ (.string t')).setCell ⟨g, 1, none⟩ (.int .i64 i')) g t' i' :=
  ⟨((Kept2.below hb).trans (kept_set _ _ _ _)).trans (kept_set _ _ _ _), (h.below hb).both⟩
theorem Moved.at_ {w w' : World} {g : Nat} {t : ByteArray} {i i' : Int} (h : RAt w g t i) (hb : Below w.heap.size w w') : Moved w (w'.setCell ⟨g, 1, none⟩ (.int .i64 i')) g t i' :=
  ⟨(Kept2.below hb).trans (kept_set _ _ _ _), (h.below hb).at_⟩
theorem Moved.trans {a b c : World} {g : Nat} {t t' : ByteArray} {i i' : Int} (h : Moved a b g t i) (k : Moved b c g t' i') : Moved a c g t' i' := ⟨h.1.trans k.1, k.2⟩
theorem Moved.below {a b c : World} {g : Nat} {t : ByteArray} {i : Int} (h : Moved a b g t i) (k : Below b.heap.size b c) : Moved a c g t i := ⟨h.1.trans (Kept2.below k), h.2.below k⟩

/-- What a reader panics with. -/
def noPg : List PanicEntry := [{ v := .iface 115 (.agg #[]), recovered := false }]

set_option maxRecDepth 100000 in
theorem must_yes (v : Value) (w : World) :
    Calls Tryd.prog 104 #[v, .bool true] w fun e w' => e = .returned (.tuple #[]) ∧ w' = w := by
  go_enter Tryd.func104, Tryd.ntmps104
  go_wp2
  first | go_end0 | refine bodyPost_ret (results_none rfl _ _ _) rfl ?_
  exact ⟨rfl, rfl⟩
set_option maxRecDepth 100000 in
theorem must_no (v : Value) (w : World) :
    Calls Tryd.prog 104 #[v, .bool false] w fun e w' => e = .panicked noPg ∧ w' = w := by
  go_enter Tryd.func104, Tryd.ntmps104
  go_wp2
  exact ⟨rfl, rfl, rfl⟩
end Go.Proofs.YtaolinlginloaacDoor

/-
  The methods of impl's reader of pages.
-/
namespace Go.Proofs.YtaolinlginloaacDoor
open Go.RowKit
open Words Sums

set_option maxHeartbeats 400000 in
set_option maxRecDepth 100000 in
theorem runseal_yes (t s0 s : ByteArray) (i : Int) (g : Nat) (w : World) (hm : t.size ≤ maxLen) (hu : unA t = some s) (hr : RAt w g s0 i) (ht : HalvIn w) :
    Calls Tryd.prog 100 #[.pointer (some ⟨g, 0, none⟩), .string t] w fun e w' => e = .returned (.tuple #[]) ∧ Moved w w' g s 0 := by
  have C := hide (iunseal t hm w ht)
  rw [hu] at C
  have R := hide hr
  clear hu hr ht
  go_enter Tryd.func100, Tryd.ntmps100
  go_wp2_with fail
  refine C.out.mono ?_
  rintro e w1 ⟨rfl, b1⟩
  unfold unR
  go_wp2_with fail
  refine (must_yes _ _).mono ?_
  rintro e w2 ⟨rfl, rfl⟩
  obtain ⟨h1, h2, h3, h4, h5⟩ := R.out.below b1
  have M := hide (Moved.both (t' := s) (i' := 0) R.out b1)
  go_wp2
  first | go_end0 | refine bodyPost_ret (results_none rfl _ _ _) rfl ?_
  exact ⟨rfl, M.out⟩
set_option maxHeartbeats 400000 in
set_option maxRecDepth 100000 in
theorem runseal_no (t : ByteArray) (g : Nat) (w : World) (hm : t.size ≤ maxLen) (hu : unA t = none) (ht : HalvIn w) :
    Calls Tryd.prog 100 #[.pointer (some ⟨g, 0, none⟩), .string t] w fun e w' => e = .panicked noPg ∧ Kept2 w w' (· ≠ g) := by
  have C := hide (iunseal t hm w ht)
  rw [hu] at C
  clear hu ht
  go_enter Tryd.func100, Tryd.ntmps100
  go_wp2_with fail
  refine C.out.mono ?_
  rintro e w1 ⟨rfl, b1⟩
  unfold unR
  go_wp2_with fail
  refine (must_no _ _).mono ?_
  rintro e w2 ⟨rfl, rfl⟩
  go_wp2
  exact ⟨rfl, rfl, Kept2.below b1⟩

set_option maxHeartbeats 400000 in
set_option maxRecDepth 100000 in
theorem rrest (s : ByteArray) (i : Nat) (g : Nat) (w : World) (hi : i ≤ s.size) (hr : RAt w g s i) :
    Calls Tryd.prog 103 #[.pointer (some ⟨g, 0, none⟩)] w fun e w' => e = .returned (.string (s.extract i s.size)) ∧ Moved w w' g s i := by
  obtain ⟨h1, h2, h3, h4, h5⟩ := id hr
  have R := hide hr
  have s1 : ∀ W, (Instr.slice 9 (.string s) (some (.int .i64 (i : Int))) none none).run Tryd.prog W = .ok (.string (s.extract i s.size)) W := fun W => by
    rw [run_slice_string_l W 9 s Tryd.underlying9 .i64 _ (by omega) (by omega)]
    simp
  generalize s.extract i s.size = u at s1
  clear hr h1 h4 h5
  go_enter Tryd.func103, Tryd.ntmps103
  go_wp2
  go_region_held3 (fun w' => w'.cell? ⟨g, 0, none⟩ = some (.string s) ∧ w'.cell? ⟨g, 1, none⟩ = some (.int .i64 i)) (go_keep) (fail)
  go_wp2
  go_ret
  have b1 : Below w.heap.size w w.drew := (Below.refl _ _).drew
  exact ⟨rfl, Kept2.below b1, R.out.below b1⟩
end Go.Proofs.YtaolinlginloaacDoor

/-
  impl's reader of pages: a byte, a number.
-/
namespace Go.Proofs.YtaolinlginloaacDoor
open Go.RowKit
open Words Sums

set_option maxHeartbeats 400000 in
set_option maxRecDepth 100000 in
theorem rbyte_yes (s : ByteArray) (i : Nat) (b : UInt8) (g : Nat) (w : World) (hs : s.size ≤ 1048576) (hb : s.data.toList[i]? = some b) (hr : RAt w g s i) :
    Calls Tryd.prog 101 #[.pointer (some ⟨g, 0, none⟩)] w fun e w' => e = .returned (.int .i64 b.toNat) ∧ Moved w w' g s (i + 1 : Nat) := by
  obtain ⟨h1, h2, h3, h4, h5⟩ := id hr
  have R := hide hr
  obtain ⟨hi, hbe⟩ := List.getElem?_eq_some_iff.1 hb
  have hi' : i < s.size := hi
  have hc : s[i].toNat = b.toNat := by rw [← hbe]; rfl
  have hlt : decide ((i : Int) < s.size) = true := by simp; omega
  have k0 : (0 : Int) ≤ i := by omega
  have k1 : (i : Int) < s.size := by omega
  have ew : IntKind.i64.wrap ((i : Int) + 1) = i + 1 := by rw [IntKind.wrap_i64]; omega
  have hb8 : b.toNat < 256 := b.toNat_lt
  generalize b.toNat = c at hc hb8
  have ec : IntKind.i64.wrap (c : Int) = c := by rw [IntKind.wrap_i64]; omega
  clear hr hb hbe hi
  go_enter Tryd.func101, Tryd.ntmps101
  go_wp2
  go_region_held3 (fun w' => w'.cell? ⟨g, 0, none⟩ = some (.string s) ∧ w'.cell? ⟨g, 1, none⟩ = some (.int .i64 i)) (go_keep) ((go_at_call 104; refine (must_yes _ _).mono ?_; rintro e w1 ⟨rfl, rfl⟩))
  go_wp2
  go_region_held3 (fun w' => w'.cell? ⟨g, 0, none⟩ = some (.string s) ∧ w'.cell? ⟨g, 1, none⟩ = some (.int .i64 i)) (go_keep) (fail)
  go_wp2
  go_ret
  have e1 : ((i + 1 : Nat) : Int) = i + 1 := by omega
  exact ⟨by rw [← ec]; rfl, by rw [e1]; exact (Moved.at_ (i' := (i : Int) + 1) R.out (Below.refl _ _)).below ((Below.refl _ _).drew.drew)⟩

set_option maxHeartbeats 400000 in
set_option maxRecDepth 100000 in
theorem rnum_yes (s : ByteArray) (i n j : Nat) (g : Nat) (w : World) (hs : s.size ≤ 1048576) (hi : i ≤ s.size) (hv : readV s.data.toList i = some (n, j)) (hr : RAt w g s i) :
    Calls Tryd.prog 102 #[.pointer (some ⟨g, 0, none⟩)] w fun e w' => e = .returned (.int .i64 n) ∧ Moved w w' g s j := by
  obtain ⟨h1, h2, h3, h4, h5⟩ := id hr
  have R := hide hr
  have C := hide (fun w => implRead s i w hs hi)
  rw [hv] at C
  clear hr hv
  go_enter Tryd.func102, Tryd.ntmps102
  go_wp2
  go_region_held3 (fun w' => w'.cell? ⟨g, 0, none⟩ = some (.string s) ∧ w'.cell? ⟨g, 1, none⟩ = some (.int .i64 i)) (go_keep) ((go_at_call 118; with_reducible refine Calls.mono (C.out _) ?_; rintro e w1 ⟨rfl, rfl⟩; unfold rvRes; try simp only))
  all_goals
    go_wp2_with fail
    refine (must_yes _ _).mono ?_
    rintro e w2 ⟨rfl, rfl⟩
    go_wp2
    go_ret
    exact ⟨rfl, (Moved.at_ (i' := (j : Int)) R.out (Below.refl _ _)).below ((Below.refl _ _).drew)⟩
set_option maxHeartbeats 400000 in
set_option maxRecDepth 100000 in
theorem rnum_no (s : ByteArray) (i : Nat) (g : Nat) (w : World) (hs : s.size ≤ 1048576) (hi : i ≤ s.size) (hv : readV s.data.toList i = none) (hr : RAt w g s i) :
    Calls Tryd.prog 102 #[.pointer (some ⟨g, 0, none⟩)] w fun e w' => e = .panicked noPg ∧ Kept2 w w' (· ≠ g) := by
  obtain ⟨h1, h2, h3, h4, h5⟩ := id hr
  have C := hide (fun w => implRead s i w hs hi)
  rw [hv] at C
  clear hr hv
  go_enter Tryd.func102, Tryd.ntmps102
  go_wp2
  go_region_held3 (fun w' => w'.cell? ⟨g, 0, none⟩ = some (.string s) ∧ w'.cell? ⟨g, 1, none⟩ = some (.int .i64 i)) (go_keep) ((go_at_call 118; with_reducible refine Calls.mono (C.out _) ?_; rintro e w1 ⟨rfl, rfl⟩; unfold rvRes; try simp only))
  all_goals
    go_wp2_with fail
    refine (must_no _ _).mono ?_
    rintro e w2 ⟨rfl, rfl⟩
    go_wp2
    exact ⟨rfl, rfl, Kept2.below ((Below.refl _ _).drew)⟩
end Go.Proofs.YtaolinlginloaacDoor

/-
  impl's reader of pages, where there is no byte.
-/
namespace Go.Proofs.YtaolinlginloaacDoor
open Go.RowKit
open Words Sums

set_option maxHeartbeats 400000 in
set_option maxRecDepth 100000 in
theorem rbyte_no (s : ByteArray) (i : Nat) (g : Nat) (w : World) (hb : s.data.toList[i]? = none) (hr : RAt w g s i) :
    Calls Tryd.prog 101 #[.pointer (some ⟨g, 0, none⟩)] w fun e w' => e = .panicked noPg ∧ Kept2 w w' (· ≠ g) := by
  obtain ⟨h1, h2, h3, h4, h5⟩ := id hr
  have hi' : s.size ≤ i := List.getElem?_eq_none_iff.1 hb
  have hlt : decide ((i : Int) < s.size) = false := by simp; omega
  clear hr hb
  go_enter Tryd.func101, Tryd.ntmps101
  go_wp2
  refine wp_region_held_drew (S := fun w' => w'.cell? ⟨g, 0, none⟩ = some (.string s) ∧ w'.cell? ⟨g, 1, none⟩ = some (.int .i64 i)) (by kernel_rfl) (by go_keep) (fun hHeld => ?_)
  refine wpAnyH_take (i := 0) (v := ?_) rfl (by kernel_rfl) (by kernel_rfl) (by kernel_rfl) (fun _ _ _ h => h) (Or.inl ⟨by rfl, ?yld0⟩) (by assumption) ?_
  case yld0 =>
    intro w hSw
    try dsimp only at hSw
    go_simp
    try with_reducible rfl
  simp only [Act.put, List.setIfInBounds_toArray]
  refine wpAnyH_take (i := 1) (v := ?_) rfl (by kernel_rfl) (by kernel_rfl) (by kernel_rfl) (fun _ _ _ h => h) (Or.inl ⟨by rfl, ?yld1⟩) (by assumption) ?_
  case yld1 =>
    intro w hSw
    try dsimp only at hSw
    go_simp
    try with_reducible rfl
  simp only [Act.put]
  refine wpAnyH_take (i := 2) (v := ?_) rfl (by kernel_rfl) (by kernel_rfl) (by kernel_rfl) (fun _ _ _ h => h) (Or.inl ⟨by rfl, ?yld2⟩) (by assumption) ?_
  case yld2 =>
    intro w hSw
    try dsimp only at hSw
    go_simp
    try with_reducible rfl
  simp only [Act.put]
  refine wpAnyH_take (i := 3) (v := ?_) rfl (by kernel_rfl) (by kernel_rfl) (by kernel_rfl) (fun _ _ _ h => h) (Or.inl ⟨by rfl, ?yld3⟩) (by assumption) ?_
  case yld3 =>
    intro w hSw
    try dsimp only at hSw
    go_simp
    try with_reducible rfl
  simp only [Act.put]
  refine wpAnyH_take (i := 4) (v := ?_) rfl (by kernel_rfl) (by kernel_rfl) (by kernel_rfl) (fun _ _ _ h => h) (Or.inl ⟨by rfl, ?yld4⟩) (by assumption) ?_
  case yld4 =>
    intro w hSw
    try dsimp only at hSw
    go_simp
    try with_reducible rfl
  simp only [Act.put]
  refine wpAnyH_take (i := 5) (v := ?_) rfl (by kernel_rfl) (by kernel_rfl) (by kernel_rfl) (fun _ _ _ h => h) (Or.inl ⟨by rfl, ?yld5⟩) (by assumption) ?_
  case yld5 =>
    intro w hSw
    try dsimp only at hSw
    go_simp
    try with_reducible rfl
  simp only [Act.put]
  refine wpAnyH_take (i := 6) (v := ?_) rfl (by kernel_rfl) (by kernel_rfl) (by kernel_rfl) (fun _ _ _ h => h) (Or.inl ⟨by rfl, ?yld6⟩) (by assumption) ?_
  case yld6 =>
    intro w hSw
    try dsimp only at hSw
    go_simp
    try with_reducible rfl
  simp only [Act.put]
  refine wpAnyH_take (i := 7) (v := ?_) rfl (by kernel_rfl) (by kernel_rfl) (by kernel_rfl) (fun _ _ _ h => h) (Or.inl ⟨by rfl, ?yld7⟩) (by assumption) ?_
  case yld7 =>
    intro w hSw
    try dsimp only at hSw
    go_simp
    try with_reducible rfl
  simp only [Act.put]
  refine wpAnyH_take (i := 8) (v := ?_) rfl (by kernel_rfl) (by kernel_rfl) (by kernel_rfl) (fun _ _ _ h => h) (Or.inl ⟨by rfl, ?yld8⟩) (by assumption) ?_
  case yld8 =>
    intro w hSw
    try dsimp only at hSw
    go_simp
    try with_reducible rfl
  simp only [Act.put]
  refine wpAnyH_take (i := 9) (v := ?_) rfl (by kernel_rfl) (by kernel_rfl) (by kernel_rfl) (fun _ _ _ h => h) (Or.inl ⟨by rfl, ?yld9⟩) (by assumption) ?_
  case yld9 =>
    intro w hSw
    try dsimp only at hSw
    go_simp
    try with_reducible rfl
  simp only [Act.put]
  refine wpAnyH_take (i := 10) (v := ?_) rfl (by kernel_rfl) (by kernel_rfl) (by kernel_rfl) (fun _ _ _ h => h) (Or.inl ⟨by rfl, ?yld10⟩) (by assumption) ?_
  case yld10 =>
    intro w hSw
    try dsimp only at hSw
    go_simp
    try with_reducible rfl
  simp only [Act.put]
  refine wpAnyH_ready (rs := [11]) (by kernel_rfl) (by simp) ?_
  refine AllReadyH.cons rfl (fun K hK => ?_) ?_
  · go_simp
    rw [decide_eq_false (show ¬ i < s.size by omega)]
    with_reducible refine Calls.mono (must_no _ _) ?_
    rintro e w1 ⟨rfl, rfl⟩
    go_wp2
    exact ⟨rfl, rfl, Kept2.below ((Below.refl _ _).drew)⟩
  · exact AllReadyH.nil
end Go.Proofs.YtaolinlginloaacDoor
