/-
  SUnseal; ImplRead; IReader; IRead1; IRead0
-/
import Derived.Test.YtfmnaidhfgmemaaGreatDoorPk17
import Derived.Test.YtfmnaidhfgmemaaGreatDoorPk0
import Derived.Test.YtfmnaidhfgmemaaGreatDoorPk7
import Derived.Deep.RegionHeld3
import Derived.Deep.RegionWith
import Derived.Deep.QuietTactic
import Derived.BigQuiet
import Derived.Laws.DeepStrings4
import Derived.Lib.Strings
import Derived.Deep.RegionHeld
namespace Go.Proofs.YtfmnaidhfgmemaaGreatDoor
open Go.RowKit
open Sums
theorem specUnsealed_short (t : ByteArray) (w : World) (hl : (t.size : Int) < 4) :
    Calls Tryz.prog 85 #[.string t] w fun e w' => e = .returned (.tuple #[.string ⟨#[]⟩, .bool false]) ∧ Below w.heap.size w w' := by
  have hd : decide ((t.size : Int) - 4 < 0) = true := by simp; omega
  go_enter Tryz.func85, Tryz.ntmps85
  go_wp2
  go_quiet (fail)
  go_wp2
  go_ret2
  exact ⟨rfl, below_drewN (Below.refl _ _) _⟩
theorem specUnsealed_long (t : ByteArray) (w : World) (hl : (20004 : Int) < t.size) (hm : t.size ≤ maxLen) :
    Calls Tryz.prog 85 #[.string t] w fun e w' => e = .returned (.tuple #[.string ⟨#[]⟩, .bool false]) ∧ Below w.heap.size w w' := by
  unfold maxLen at hm
  have hd : decide ((t.size : Int) - 4 < 0) = false := by simp; omega
  have hd2 : decide ((20000 : Int) < (t.size : Int) - 4) = true := by simp; omega
  go_enter Tryz.func85, Tryz.ntmps85
  go_wp2
  go_quiet (fail)
  go_wp2
  go_ret2
  exact ⟨rfl, below_drewN (Below.refl _ _) _⟩
def tail4 (t : ByteArray) : ByteArray := t.extract (t.size - 4) t.size
theorem seal_cut (t : ByteArray) : sealA (body t) = t ↔ tail4 t = ⟨(four (sumOf (body t).data.toList)).toArray⟩ := by
  have h1 : body t ++ tail4 t = t := by
    apply ByteArray.ext
    simp [body, tail4]
  constructor
  · intro h
    have h2 : body t ++ tail4 t = sealA (body t) := h1.trans h.symm
    unfold sealA at h2
    have := congrArg (fun z : ByteArray => z.data.toList) h2
    simp only [ByteArray.data_append, Array.toList_append, List.append_cancel_left_eq] at this
    exact ByteArray.ext (Array.toList_inj.1 this)
  · intro h
    unfold sealA
    rw [← h, h1]
theorem cut_hi (t : ByteArray) (hl : 4 ≤ t.size) (W : World) : (Instr.slice 9 (.string t) none (some (.int .i64 ((t.size : Int) - 4))) none).run Tryz.prog W = .ok (.string (body t)) W := by
  rw [run_slice_string_h W 9 t Tryz.underlying9 .i64 _ (by omega) (by omega)]
  have : ((t.size : Int) - 4).toNat = t.size - 4 := by omega
  rw [this]
  rfl
theorem cut_lo (t : ByteArray) (hl : 4 ≤ t.size) (W : World) : (Instr.slice 9 (.string t) (some (.int .i64 ((t.size : Int) - 4))) none none).run Tryz.prog W = .ok (.string (tail4 t)) W := by
  rw [run_slice_string_l W 9 t Tryz.underlying9 .i64 _ (by omega) (by omega)]
  have : ((t.size : Int) - 4).toNat = t.size - 4 := by omega
  rw [this]
  rfl
set_option maxHeartbeats 400000 in
set_option maxRecDepth 100000 in
theorem specUnsealed_yes (t b c : ByteArray) (w : World) (hl : 4 ≤ (t.size : Int)) (hl2 : (t.size : Int) ≤ 20004)
    (s1 : ∀ W, (Instr.slice 9 (.string t) none (some (.int .i64 ((t.size : Int) - 4))) none).run Tryz.prog W = .ok (.string b) W)
    (s2 : ∀ W, (Instr.slice 9 (.string t) (some (.int .i64 ((t.size : Int) - 4))) none none).run Tryz.prog W = .ok (.string c) W)
    (hbs : b.size = t.size - 4) (hq : (c.toList == four (sumOf b.data.toList)) = true) :
    Calls Tryz.prog 85 #[.string t] w fun e w' => e = .returned (.tuple #[.string b, .bool true]) ∧ Below w.heap.size w w' := by
  have hx := sumOf_lt b.data.toList
  have hd : decide ((t.size : Int) - 4 < 0) = false := by simp; omega
  have hd2 : decide ((20000 : Int) < (t.size : Int) - 4) = false := by simp; omega
  obtain ⟨x, ex⟩ : ∃ x, x = sumOf b.data.toList := ⟨_, rfl⟩
  rw [← ex] at hq hx
  have EX := hide ex
  clear ex
  go_enter Tryz.func85, Tryz.ntmps85
  go_wp2
  go_region_held3 (fun _ => True) (trivial) (first
    | (go_at_call 122; refine (specOf b _ (by unfold maxLen; omega)).mono ?_; rintro e w1 ⟨rfl, rfl⟩; rw [← EX.out])
    | (go_at_call 121; refine (specFour x _ hx).mono ?_; rintro e w1 ⟨rfl, hb⟩))
  all_goals
    have hb1 := (Below.refl w.heap.size w).drew.trans hb
    clear EX hb
    go_wp2
    go_ret2
    exact ⟨rfl, hb1⟩
set_option maxHeartbeats 400000 in
set_option maxRecDepth 100000 in
theorem specUnsealed_no (t b c : ByteArray) (w : World) (hl : 4 ≤ (t.size : Int)) (hl2 : (t.size : Int) ≤ 20004)
    (s1 : ∀ W, (Instr.slice 9 (.string t) none (some (.int .i64 ((t.size : Int) - 4))) none).run Tryz.prog W = .ok (.string b) W)
    (s2 : ∀ W, (Instr.slice 9 (.string t) (some (.int .i64 ((t.size : Int) - 4))) none none).run Tryz.prog W = .ok (.string c) W)
    (hbs : b.size = t.size - 4) (hq : (c.toList == four (sumOf b.data.toList)) = false) :
    Calls Tryz.prog 85 #[.string t] w fun e w' => e = .returned (.tuple #[.string ⟨#[]⟩, .bool false]) ∧ Below w.heap.size w w' := by
  have hx := sumOf_lt b.data.toList
  have hd : decide ((t.size : Int) - 4 < 0) = false := by simp; omega
  have hd2 : decide ((20000 : Int) < (t.size : Int) - 4) = false := by simp; omega
  obtain ⟨x, ex⟩ : ∃ x, x = sumOf b.data.toList := ⟨_, rfl⟩
  rw [← ex] at hq hx
  have EX := hide ex
  clear ex
  go_enter Tryz.func85, Tryz.ntmps85
  go_wp2
  go_region_held3 (fun _ => True) (trivial) (first
    | (go_at_call 122; refine (specOf b _ (by unfold maxLen; omega)).mono ?_; rintro e w1 ⟨rfl, rfl⟩; rw [← EX.out])
    | (go_at_call 121; refine (specFour x _ hx).mono ?_; rintro e w1 ⟨rfl, hb⟩))
  all_goals
    have hb1 := (Below.refl w.heap.size w).drew.trans hb
    clear EX hb
    go_wp2
    go_ret2
    exact ⟨rfl, hb1⟩
theorem four_beq (c : ByteArray) (l : List UInt8) : (c = ⟨l.toArray⟩ → (c.toList == l) = true) ∧ (c ≠ ⟨l.toArray⟩ → (c.toList == l) = false) := by
  constructor
  · intro h; subst h; simp
  · intro h
    rw [beq_eq_false_iff_ne]
    intro e
    apply h
    apply toList_inj
    simp [e]
def unR : Option ByteArray → Value
  | some s => .tuple #[.string s, .bool true]
  | none => .tuple #[.string ⟨#[]⟩, .bool false]
theorem sunseal (t : ByteArray) (hm : t.size ≤ maxLen) (w : World) :
    Calls Tryz.prog 85 #[.string t] w fun e w' => e = .returned (unR (unA t)) ∧ Below w.heap.size w w' := by
  by_cases h1 : (t.size : Int) < 4
  · rw [unA_none (by omega)]
    exact specUnsealed_short t w h1
  · by_cases h2 : (20004 : Int) < t.size
    · rw [unA_none (by omega)]
      exact specUnsealed_long t w h2 hm
    · by_cases h3 : sealA (body t) = t
      · rw [unA_yes (by omega) (by omega) h3]
        exact specUnsealed_yes t (body t) (tail4 t) w (by omega) (by omega) (cut_hi t (by omega)) (cut_lo t (by omega)) (body_size t) ((four_beq _ _).1 ((seal_cut t).1 h3))
      · rw [unA_none (fun h => h3 h.2.2)]
        exact specUnsealed_no t (body t) (tail4 t) w (by omega) (by omega) (cut_hi t (by omega)) (cut_lo t (by omega)) (body_size t) ((four_beq _ _).2 fun h => h3 ((seal_cut t).2 h))
theorem iunseal (t : ByteArray) (hm : t.size ≤ maxLen) (w : World) (ht : HalvIn w) :
    Calls Tryz.prog 208 #[.string t] w fun e w' => e = .returned (unR (unA t)) ∧ Below w.heap.size w w' := by
  by_cases h1 : (t.size : Int) < 4
  · rw [unA_none (by omega)]
    refine (unsealed_short t w h1).mono ?_
    rintro e w' ⟨rfl, rfl⟩
    exact ⟨rfl, Below.refl _ _⟩
  · by_cases h2 : (20004 : Int) < t.size
    · rw [unA_none (by omega)]
      refine (unsealed_long t w h2 hm).mono ?_
      rintro e w' ⟨rfl, rfl⟩
      exact ⟨rfl, Below.refl _ _⟩
    · by_cases h3 : sealA (body t) = t
      · rw [unA_yes (by omega) (by omega) h3]
        exact unsealed_yes t w (by omega) (by omega) h3 ht
      · rw [unA_none (fun h => h3 h.2.2)]
        exact unsealed_no t w (by omega) (by omega) h3 ht
end Go.Proofs.YtfmnaidhfgmemaaGreatDoor

namespace Go.Proofs.YtfmnaidhfgmemaaGreatDoor
open Go.RowKit
open Words
def rvRes : Option (Nat × Nat) → Value
  | some (n, j) => .tuple #[.int .i64 n, .int .i64 j, .bool true]
  | none => .tuple #[.int .i64 0, .int .i64 0, .bool false]
set_option maxHeartbeats 400000 in
set_option maxRecDepth 100000 in
theorem implRead (s : ByteArray) (q : Nat) (w : World) (hs : s.size ≤ 1048576) (hq : q ≤ s.size) :
    Calls Tryz.prog 209 #[.string s, .int .i64 q] w fun e w' => e = .returned (rvRes (readV s.data.toList q)) ∧ w' = w := by
  have g1 : ¬ (q : Int) < 0 := by omega
  have g2 : ¬ (s.size : Int) < q := by omega
  go_enter Tryz.func209, Tryz.ntmps209
  go_wp2
  go_loop [7, 8, 9, 10, 11] (fun nv uv iv _ _ => ∃ k n u : Nat, nv = .int .i64 n ∧ uv = .int .i64 u ∧ iv = .int .i64 (q + k : Nat) ∧ Hid (St s.data.toList q k n u)) (fun _ _ iv _ _ => s.size - (intOf iv).toNat)
  case atStart => exact ⟨0, 0, 1, rfl, rfl, rfl, St.zero (by simpa using hq)⟩
  case round =>
    obtain ⟨k, n, u, rfl, rfl, rfl, hst⟩ := hrel
    obtain ⟨b1, b2, b3, b4, b5⟩ := hst.out.bounds
    by_cases hlt : q + k < s.size ∧ k < 5
    · obtain ⟨h1, h2⟩ := hlt
      have b6 := b4 h2
      have c1 : ((q + k : Nat) : Int) < s.size := by omega
      have c2 : (u : Int) ≤ 1000000000 := by omega
      clear b3 b4 b5
      obtain ⟨c, hcc⟩ : ∃ c : Nat, s[q + k].toNat = c := ⟨_, rfl⟩
      have hc8 : c < 256 := by rw [← hcc]; exact UInt8.toNat_lt _
      have p2 := prod_le_int c u b6
      have p3 := prod_nn c u
      have H : Hid (At s.data.toList (q + k) c) := ⟨by simpa using h1, by rw [← hcc]; rfl⟩
      by_cases hc : 128 ≤ (c : Int)
      · go_wp2
        go_round
        case rel => exact ⟨k + 1, n + c % 128 * u, u * 128, by rw [prod_cast], by go_num, by go_num, hst.out.step' h2 H.out (by omega)⟩
        case measure => simp [intOf]; omega
      · by_cases h0 : c = 0 ∧ k ≠ 0
        · have F : Hid (readV s.data.toList q = none) := hst.out.no' h2 H.out (by omega) (.inr h0)
          have f1 : ((c : Int) == 0) = true := by rw [beq_iff_eq]; omega
          have f2 : (q : Int) < (q : Int) + k := by omega
          clear h0
          go_wp2
          go_ret3
          exact ⟨by rw [F.out]; rfl, rfl⟩
        · have hw : ¬ (c = 0 ∧ k ≠ 0) := h0
          by_cases hN : (n : Int) + (c : Int) % 128 * u ≤ 1000000000
          · have hN' : n + c % 128 * u ≤ 1000000000 := by rw [← prod_cast] at hN; omega
            have F : Hid (readV s.data.toList q = some (n + c % 128 * u, q + k + 1)) := hst.out.yes' h2 H.out (by omega) hN' hw
            clear hN'
            by_cases hc0 : c = 0
            · have f1 : ((c : Int) == 0) = true := by rw [beq_iff_eq]; omega
              have f2 : ¬ (q : Int) < (q : Int) + k := by omega
              clear h0 hw hc0
              go_wp2
              go_ret3
              exact ⟨by rw [F.out, rvRes, prod_cast]; rfl, rfl⟩
            · have f1 : ((c : Int) == 0) = false := by rw [beq_eq_false_iff_ne]; omega
              clear h0 hw hc0
              go_wp2
              go_ret3
              exact ⟨by rw [F.out, rvRes, prod_cast]; rfl, rfl⟩
          · have hN' : 1000000000 < n + c % 128 * u := by rw [← prod_cast] at hN; omega
            have F : Hid (readV s.data.toList q = none) := hst.out.no' h2 H.out (by omega) (.inl hN')
            clear hN'
            by_cases hc0 : c = 0
            · exfalso
              subst hc0
              simp at hN
              omega
            · have f1 : ((c : Int) == 0) = false := by rw [beq_eq_false_iff_ne]; omega
              clear h0 hw hc0
              go_wp2
              go_ret3
              exact ⟨by rw [F.out]; rfl, rfl⟩
    · have F : Hid (readV s.data.toList q = none) := hst.out.stop (by simpa using hlt)
      by_cases h1 : q + k < s.size
      · have c1 : ((q + k : Nat) : Int) < s.size := by omega
        have b6 := b5 (by have := hst.out.1; omega)
        have c2 : ¬ (u : Int) ≤ 1000000000 := by omega
        clear hlt b5
        go_wp2
        go_ret3
        exact ⟨by rw [F.out]; rfl, rfl⟩
      · have c1 : ¬ ((q + k : Nat) : Int) < s.size := by omega
        clear hlt
        go_wp2
        go_ret3
        exact ⟨by rw [F.out]; rfl, rfl⟩
end Go.Proofs.YtfmnaidhfgmemaaGreatDoor

namespace Go.Proofs.YtfmnaidhfgmemaaGreatDoor
open Go.RowKit
open Words Sums
set_option maxHeartbeats 400000 in
set_option maxRecDepth 100000 in
theorem runseal_yes (t s0 s : ByteArray) (i : Int) (g : Nat) (w : World) (hm : t.size ≤ maxLen) (hu : unA t = some s) (hr : RAt w g s0 i) (ht : HalvIn w) :
    Calls Tryz.prog 201 #[.pointer (some ⟨g, 0, none⟩), .string t] w fun e w' => e = .returned (.tuple #[]) ∧ Moved w w' g s 0 := by
  have C := hide (iunseal t hm w ht)
  rw [hu] at C
  have R := hide hr
  clear hu hr ht
  go_enter Tryz.func201, Tryz.ntmps201
  go_wp2_with fail
  refine C.out.mono ?_
  rintro e w1 ⟨rfl, b1⟩
  unfold unR
  go_wp2_with fail
  refine (must_yes _ _).mono ?_
  rintro e w2 ⟨rfl, rfl⟩
  obtain ⟨h1, h2, h3, h4, h5⟩ := R.out.below b1
  have M := hide (Moved.both (t' := s) (i' := 0) R.out b1)
  go_wp2
  first | go_end0 | refine bodyPost_ret (results_none rfl _ _ _) rfl ?_
  exact ⟨rfl, M.out⟩
set_option maxHeartbeats 400000 in
set_option maxRecDepth 100000 in
theorem runseal_no (t : ByteArray) (g : Nat) (w : World) (hm : t.size ≤ maxLen) (hu : unA t = none) (ht : HalvIn w) :
    Calls Tryz.prog 201 #[.pointer (some ⟨g, 0, none⟩), .string t] w fun e w' => e = .panicked noPg ∧ Kept2 w w' (· ≠ g) := by
  have C := hide (iunseal t hm w ht)
  rw [hu] at C
  clear hu ht
  go_enter Tryz.func201, Tryz.ntmps201
  go_wp2_with fail
  refine C.out.mono ?_
  rintro e w1 ⟨rfl, b1⟩
  unfold unR
  go_wp2_with fail
  refine (must_no _ _).mono ?_
  rintro e w2 ⟨rfl, rfl⟩
  go_wp2
  exact ⟨rfl, rfl, Kept2.below b1⟩
set_option maxHeartbeats 400000 in
set_option maxRecDepth 100000 in
theorem rrest (s : ByteArray) (i : Nat) (g : Nat) (w : World) (hi : i ≤ s.size) (hr : RAt w g s i) :
    Calls Tryz.prog 204 #[.pointer (some ⟨g, 0, none⟩)] w fun e w' => e = .returned (.string (s.extract i s.size)) ∧ Moved w w' g s i := by
  obtain ⟨h1, h2, h3, h4, h5⟩ := id hr
  have R := hide hr
  have s1 : ∀ W, (Instr.slice 9 (.string s) (some (.int .i64 (i : Int))) none none).run Tryz.prog W = .ok (.string (s.extract i s.size)) W := fun W => by
    rw [run_slice_string_l W 9 s Tryz.underlying9 .i64 _ (by omega) (by omega)]
    simp
  generalize s.extract i s.size = u at s1
  clear hr h1 h4 h5
  go_enter Tryz.func204, Tryz.ntmps204
  go_wp2
  go_region_held3 (fun w' => w'.cell? ⟨g, 0, none⟩ = some (.string s) ∧ w'.cell? ⟨g, 1, none⟩ = some (.int .i64 i)) (go_keep) (fail)
  go_wp2
  go_ret
  have b1 : Below w.heap.size w w.drew := (Below.refl _ _).drew
  exact ⟨rfl, Kept2.below b1, R.out.below b1⟩
end Go.Proofs.YtfmnaidhfgmemaaGreatDoor

namespace Go.Proofs.YtfmnaidhfgmemaaGreatDoor
open Go.RowKit
open Words Sums
set_option maxHeartbeats 400000 in
set_option maxRecDepth 100000 in
theorem rbyte_yes (s : ByteArray) (i : Nat) (b : UInt8) (g : Nat) (w : World) (hs : s.size ≤ 1048576) (hb : s.data.toList[i]? = some b) (hr : RAt w g s i) :
    Calls Tryz.prog 202 #[.pointer (some ⟨g, 0, none⟩)] w fun e w' => e = .returned (.int .i64 b.toNat) ∧ Moved w w' g s (i + 1 : Nat) := by
  obtain ⟨h1, h2, h3, h4, h5⟩ := id hr
  have R := hide hr
  obtain ⟨hi, hbe⟩ := List.getElem?_eq_some_iff.1 hb
  have hi' : i < s.size := hi
  have hc : s[i].toNat = b.toNat := by rw [← hbe]; rfl
  have hlt : decide ((i : Int) < s.size) = true := by simp; omega
  have k0 : (0 : Int) ≤ i := by omega
  have k1 : (i : Int) < s.size := by omega
  have ew : IntKind.i64.wrap ((i : Int) + 1) = i + 1 := by rw [IntKind.wrap_i64]; omega
  have hb8 : b.toNat < 256 := b.toNat_lt
  generalize b.toNat = c at hc hb8
  have ec : IntKind.i64.wrap (c : Int) = c := by rw [IntKind.wrap_i64]; omega
  clear hr hb hbe hi
  go_enter Tryz.func202, Tryz.ntmps202
  go_wp2
  go_region_held3 (fun w' => w'.cell? ⟨g, 0, none⟩ = some (.string s) ∧ w'.cell? ⟨g, 1, none⟩ = some (.int .i64 i)) (go_keep) ((go_at_call 205; refine (must_yes _ _).mono ?_; rintro e w1 ⟨rfl, rfl⟩))
  go_wp2
  go_region_held3 (fun w' => w'.cell? ⟨g, 0, none⟩ = some (.string s) ∧ w'.cell? ⟨g, 1, none⟩ = some (.int .i64 i)) (go_keep) (fail)
  go_wp2
  go_ret
  have e1 : ((i + 1 : Nat) : Int) = i + 1 := by omega
  exact ⟨by rw [← ec]; rfl, by rw [e1]; exact (Moved.at_ (i' := (i : Int) + 1) R.out (Below.refl _ _)).below ((Below.refl _ _).drew.drew)⟩
set_option maxHeartbeats 400000 in
set_option maxRecDepth 100000 in
theorem rnum_yes (s : ByteArray) (i n j : Nat) (g : Nat) (w : World) (hs : s.size ≤ 1048576) (hi : i ≤ s.size) (hv : readV s.data.toList i = some (n, j)) (hr : RAt w g s i) :
    Calls Tryz.prog 203 #[.pointer (some ⟨g, 0, none⟩)] w fun e w' => e = .returned (.int .i64 n) ∧ Moved w w' g s j := by
  obtain ⟨h1, h2, h3, h4, h5⟩ := id hr
  have R := hide hr
  have C := hide (fun w => implRead s i w hs hi)
  rw [hv] at C
  clear hr hv
  go_enter Tryz.func203, Tryz.ntmps203
  go_wp2
  go_region_held3 (fun w' => w'.cell? ⟨g, 0, none⟩ = some (.string s) ∧ w'.cell? ⟨g, 1, none⟩ = some (.int .i64 i)) (go_keep) ((go_at_call 209; with_reducible refine Calls.mono (C.out _) ?_; rintro e w1 ⟨rfl, rfl⟩; unfold rvRes; try simp only))
  all_goals
    go_wp2_with fail
    refine (must_yes _ _).mono ?_
    rintro e w2 ⟨rfl, rfl⟩
    go_wp2
    go_ret
    exact ⟨rfl, (Moved.at_ (i' := (j : Int)) R.out (Below.refl _ _)).below ((Below.refl _ _).drew)⟩
set_option maxHeartbeats 400000 in
set_option maxRecDepth 100000 in
theorem rnum_no (s : ByteArray) (i : Nat) (g : Nat) (w : World) (hs : s.size ≤ 1048576) (hi : i ≤ s.size) (hv : readV s.data.toList i = none) (hr : RAt w g s i) :
    Calls Tryz.prog 203 #[.pointer (some ⟨g, 0, none⟩)] w fun e w' => e = .panicked noPg ∧ Kept2 w w' (· ≠ g) := by
  obtain ⟨h1, h2, h3, h4, h5⟩ := id hr
  have C := hide (fun w => implRead s i w hs hi)
  rw [hv] at C
  clear hr hv
  go_enter Tryz.func203, Tryz.ntmps203
  go_wp2
  go_region_held3 (fun w' => w'.cell? ⟨g, 0, none⟩ = some (.string s) ∧ w'.cell? ⟨g, 1, none⟩ = some (.int .i64 i)) (go_keep) ((go_at_call 209; with_reducible refine Calls.mono (C.out _) ?_; rintro e w1 ⟨rfl, rfl⟩; unfold rvRes; try simp only))
  all_goals
    go_wp2_with fail
    refine (must_no _ _).mono ?_
    rintro e w2 ⟨rfl, rfl⟩
    go_wp2
    exact ⟨rfl, rfl, Kept2.below ((Below.refl _ _).drew)⟩
end Go.Proofs.YtfmnaidhfgmemaaGreatDoor

namespace Go.Proofs.YtfmnaidhfgmemaaGreatDoor
open Go.RowKit
open Words Sums
set_option maxHeartbeats 400000 in
set_option maxRecDepth 100000 in
theorem rbyte_no (s : ByteArray) (i : Nat) (g : Nat) (w : World) (hb : s.data.toList[i]? = none) (hr : RAt w g s i) :
    Calls Tryz.prog 202 #[.pointer (some ⟨g, 0, none⟩)] w fun e w' => e = .panicked noPg ∧ Kept2 w w' (· ≠ g) := by
  obtain ⟨h1, h2, h3, h4, h5⟩ := id hr
  have hi' : s.size ≤ i := List.getElem?_eq_none_iff.1 hb
  have hlt : decide ((i : Int) < s.size) = false := by simp; omega
  clear hr hb
  go_enter Tryz.func202, Tryz.ntmps202
  go_wp2
  refine wp_region_held_drew (S := fun w' => w'.cell? ⟨g, 0, none⟩ = some (.string s) ∧ w'.cell? ⟨g, 1, none⟩ = some (.int .i64 i)) (by kernel_rfl) (by go_keep) (fun hHeld => ?_)
  refine wpAnyH_take (i := 0) (v := ?_) rfl (by kernel_rfl) (by kernel_rfl) (by kernel_rfl) (fun _ _ _ h => h) (Or.inl ⟨by rfl, ?yld0⟩) (by assumption) ?_
  case yld0 =>
    intro w hSw
    try dsimp only at hSw
    go_simp
    try with_reducible rfl
  simp only [Act.put, List.setIfInBounds_toArray]
  refine wpAnyH_take (i := 1) (v := ?_) rfl (by kernel_rfl) (by kernel_rfl) (by kernel_rfl) (fun _ _ _ h => h) (Or.inl ⟨by rfl, ?yld1⟩) (by assumption) ?_
  case yld1 =>
    intro w hSw
    try dsimp only at hSw
    go_simp
    try with_reducible rfl
  simp only [Act.put]
  refine wpAnyH_take (i := 2) (v := ?_) rfl (by kernel_rfl) (by kernel_rfl) (by kernel_rfl) (fun _ _ _ h => h) (Or.inl ⟨by rfl, ?yld2⟩) (by assumption) ?_
  case yld2 =>
    intro w hSw
    try dsimp only at hSw
    go_simp
    try with_reducible rfl
  simp only [Act.put]
  refine wpAnyH_take (i := 3) (v := ?_) rfl (by kernel_rfl) (by kernel_rfl) (by kernel_rfl) (fun _ _ _ h => h) (Or.inl ⟨by rfl, ?yld3⟩) (by assumption) ?_
  case yld3 =>
    intro w hSw
    try dsimp only at hSw
    go_simp
    try with_reducible rfl
  simp only [Act.put]
  refine wpAnyH_take (i := 4) (v := ?_) rfl (by kernel_rfl) (by kernel_rfl) (by kernel_rfl) (fun _ _ _ h => h) (Or.inl ⟨by rfl, ?yld4⟩) (by assumption) ?_
  case yld4 =>
    intro w hSw
    try dsimp only at hSw
    go_simp
    try with_reducible rfl
  simp only [Act.put]
  refine wpAnyH_take (i := 5) (v := ?_) rfl (by kernel_rfl) (by kernel_rfl) (by kernel_rfl) (fun _ _ _ h => h) (Or.inl ⟨by rfl, ?yld5⟩) (by assumption) ?_
  case yld5 =>
    intro w hSw
    try dsimp only at hSw
    go_simp
    try with_reducible rfl
  simp only [Act.put]
  refine wpAnyH_take (i := 6) (v := ?_) rfl (by kernel_rfl) (by kernel_rfl) (by kernel_rfl) (fun _ _ _ h => h) (Or.inl ⟨by rfl, ?yld6⟩) (by assumption) ?_
  case yld6 =>
    intro w hSw
    try dsimp only at hSw
    go_simp
    try with_reducible rfl
  simp only [Act.put]
  refine wpAnyH_take (i := 7) (v := ?_) rfl (by kernel_rfl) (by kernel_rfl) (by kernel_rfl) (fun _ _ _ h => h) (Or.inl ⟨by rfl, ?yld7⟩) (by assumption) ?_
  case yld7 =>
    intro w hSw
    try dsimp only at hSw
    go_simp
    try with_reducible rfl
  simp only [Act.put]
  refine wpAnyH_take (i := 8) (v := ?_) rfl (by kernel_rfl) (by kernel_rfl) (by kernel_rfl) (fun _ _ _ h => h) (Or.inl ⟨by rfl, ?yld8⟩) (by assumption) ?_
  case yld8 =>
    intro w hSw
    try dsimp only at hSw
    go_simp
    try with_reducible rfl
  simp only [Act.put]
  refine wpAnyH_take (i := 9) (v := ?_) rfl (by kernel_rfl) (by kernel_rfl) (by kernel_rfl) (fun _ _ _ h => h) (Or.inl ⟨by rfl, ?yld9⟩) (by assumption) ?_
  case yld9 =>
    intro w hSw
    try dsimp only at hSw
    go_simp
    try with_reducible rfl
  simp only [Act.put]
  refine wpAnyH_take (i := 10) (v := ?_) rfl (by kernel_rfl) (by kernel_rfl) (by kernel_rfl) (fun _ _ _ h => h) (Or.inl ⟨by rfl, ?yld10⟩) (by assumption) ?_
  case yld10 =>
    intro w hSw
    try dsimp only at hSw
    go_simp
    try with_reducible rfl
  simp only [Act.put]
  refine wpAnyH_ready (rs := [11]) (by kernel_rfl) (by simp) ?_
  refine AllReadyH.cons rfl (fun K hK => ?_) ?_
  · go_simp
    rw [decide_eq_false (show ¬ i < s.size by omega)]
    with_reducible refine Calls.mono (must_no _ _) ?_
    rintro e w1 ⟨rfl, rfl⟩
    go_wp2
    exact ⟨rfl, rfl, Kept2.below ((Below.refl _ _).drew)⟩
  · exact AllReadyH.nil
end Go.Proofs.YtfmnaidhfgmemaaGreatDoor
