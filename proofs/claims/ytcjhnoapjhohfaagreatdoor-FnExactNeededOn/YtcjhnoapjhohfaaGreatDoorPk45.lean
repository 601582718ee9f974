/-
  IMatch; LMath; Longest
-/
import Derived.Test.YtcjhnoapjhohfaaGreatDoorPk0
import Derived.Test.YtcjhnoapjhohfaaGreatDoorPk42
import Derived.Test.YtcjhnoapjhohfaaGreatDoorPk44
/-
  The walk of the program's match.
-/
namespace Go.Proofs.YtcjhnoapjhohfaaGreatDoor
open Go.RowKit
open Pack

set_option maxHeartbeats 400000 in
set_option maxRecDepth 100000 in
theorem imatch_any (s : ByteArray) (i j : Nat) (w : World) (hs : s.size ≤ 64) (hij : i < j) (hj : j ≤ s.size) :
    Calls Tryz.prog 174 #[.string s, .int .i64 i, .int .i64 j] w fun e w' => e = .returned (.int .i64 (mlen 31 (s.data.toList.drop i) (s.data.toList.drop j) : Nat)) ∧ Below w.heap.size w w' := by
  have hl : s.data.toList.length = s.size := by simp
  go_enter Tryz.func174, Tryz.ntmps174
  go_wp2
  go_loopw [7] (fun nv wr => ∃ n : Nat, n ≤ 31 ∧ j + n ≤ s.size ∧ nv = .int .i64 n ∧ Hid (mlen 31 (s.data.toList.drop i) (s.data.toList.drop j) = n + mlen (31 - n) (s.data.toList.drop (i + n)) (s.data.toList.drop (j + n))) ∧ Below w.heap.size w wr) (fun nv _ => 31 - (intOf nv).toNat)
  case atStart => exact ⟨0, by omega, by omega, rfl, (by show _ = 0 + _; simp), Below.refl _ _⟩
  case round =>
    obtain ⟨n, hn, hjn, rfl, HM, hbel⟩ := hrel
    have w1 : IntKind.i64.wrap ((j : Int) + n) = (j : Int) + n := by rw [IntKind.wrap_i64]; omega
    have w2 : IntKind.i64.wrap ((i : Int) + n) = (i : Int) + n := by rw [IntKind.wrap_i64]; omega
    have HB := hide hbel
    clear hbel
    by_cases h31 : n < 31
    · have d1 : decide ((n : Int) < 31) = true := decide_eq_true (by omega)
      by_cases hlt : j + n < s.size
      · have d2 : decide ((j : Int) + n < s.size) = true := decide_eq_true (by omega)
        have f1 := byte_ofT s (i + n) ((i : Int) + n) (by omega) (by omega)
        have f2 := byte_ofT s (j + n) ((j : Int) + n) (by omega) (by omega)
        by_cases heq : s.data.toList.getD (i + n) 0 = s.data.toList.getD (j + n) 0
        · have HM2 : Hid (mlen 31 (s.data.toList.drop i) (s.data.toList.drop j) = (n + 1) + mlen (31 - (n + 1)) (s.data.toList.drop (i + (n + 1))) (s.data.toList.drop (j + (n + 1)))) := by
            show _ = _
            rw [HM.out, show 31 - n = (31 - (n + 1)) + 1 by omega, mlen_yes _ _ _ _ (by omega) (by omega) heq, show i + n + 1 = i + (n + 1) by omega, show j + n + 1 = j + (n + 1) by omega]
            omega
          rw [heq] at f1
          generalize (s.data.toList.getD (j + n) 0).toNat = c at f1 f2
          have e1 : ((c : Int) == (c : Int)) = true := by simp
          clear HM heq hl
          go_wp2
          go_quiet (fail)
          go_wp2
          go_roundw
          case rel => exact ⟨n + 1, by omega, by omega, by go_num, HM2, below_drewN HB.out _⟩
          case measure => simp [intOf]; omega
        · have HM2 : Hid (mlen 31 (s.data.toList.drop i) (s.data.toList.drop j) = n) := by
            show _ = _
            rw [HM.out, mlen_no _ _ _ _ (by omega) (by omega) heq]; rfl
          have hne : ((((s.data.toList.getD (i + n) 0).toNat : Nat) : Int) == (((s.data.toList.getD (j + n) 0).toNat : Nat) : Int)) = false := by
            rw [beq_eq_false_iff_ne]
            intro h
            exact heq (UInt8.toNat_inj.1 (by omega))
          generalize (s.data.toList.getD (i + n) 0).toNat = c1 at f1 hne
          generalize (s.data.toList.getD (j + n) 0).toNat = c2 at f2 hne
          clear HM heq hl
          go_wp2
          go_quiet (fail)
          go_wp2
          go_ret
          exact ⟨by rw [HM2.out]; rfl, below_drewN HB.out _⟩
      · have d2 : decide ((j : Int) + n < s.size) = false := decide_eq_false (by omega)
        have HM2 : Hid (mlen 31 (s.data.toList.drop i) (s.data.toList.drop j) = n) := by
          show _ = _
          rw [HM.out, mlen_end _ _ _ _ (by omega)]; rfl
        clear HM hl
        go_wp2
        go_quiet (fail)
        go_wp2
        go_ret
        exact ⟨by rw [HM2.out]; rfl, below_drewN HB.out _⟩
    · have d1 : decide ((n : Int) < 31) = false := decide_eq_false (by omega)
      have e31 : n = 31 := by omega
      have HM2 : Hid (mlen 31 (s.data.toList.drop i) (s.data.toList.drop j) = n) := by
        show _ = _
        rw [HM.out, e31]; rfl
      clear HM hl e31
      go_wp2
      go_quiet (fail)
      go_wp2
      go_ret
      exact ⟨by rw [HM2.out]; rfl, below_drewN HB.out _⟩
end Go.Proofs.YtcjhnoapjhohfaaGreatDoor

/-
  Of all places ahead, those at which the same four bytes begin are enough to find the best match.
-/
namespace Go.Proofs.YtcjhnoapjhohfaaGreatDoor.Pack
open Go.Proofs.YtcjhnoapjhohfaaGreatDoor

theorem filter_snoc (f : Nat → Bool) (n p : Nat) (L : List Nat) (h : (List.range n).filter f = L ++ [p]) : p < n ∧ f p = true ∧ (List.range p).filter f = L ∧ ∀ x, p < x → x < n → f x = false := by
  induction n with
  | zero => simp at h
  | succ n ih =>
    rw [List.range_succ, List.filter_append] at h
    by_cases hn : f n = true
    · have e1 : List.filter f [n] = [n] := by simp [hn]
      rw [e1] at h
      obtain ⟨h1, h2⟩ := List.append_inj' h rfl
      have hp : n = p := by simpa using h2
      subst hp
      exact ⟨by omega, hn, h1, fun x a b => by omega⟩
    · have e1 : List.filter f [n] = [] := by simp [hn]
      rw [e1, List.append_nil] at h
      obtain ⟨a, b, c, d⟩ := ih h
      refine ⟨by omega, b, c, fun x hx hx2 => ?_⟩
      by_cases he : x = n
      · subst he; simpa using hn
      · exact d x hx (by omega)
theorem filter_none (f : Nat → Bool) (n : Nat) (h : (List.range n).filter f = []) : ∀ x, x < n → f x = false := by
  intro x hx
  have := List.filter_eq_nil_iff.1 h x (List.mem_range.2 hx)
  simpa using this

theorem four_eq (s : List UInt8) (k : Nat) (h : k + 4 ≤ s.length) : fourAt s k = [s.getD k 0, s.getD (k + 1) 0, s.getD (k + 2) 0, s.getD (k + 3) 0] := by
  unfold fourAt
  rw [if_pos h, drop_cons s k (by omega), drop_cons s (k + 1) (by omega), drop_cons s (k + 1 + 1) (by omega), drop_cons s (k + 1 + 1 + 1) (by omega)]
  rfl
theorem mlen_four (s : List UInt8) (x k : Nat) (hx : x < k) (h : k + 4 ≤ s.length) : 4 ≤ mlen 31 (s.drop x) (s.drop k) ↔ fourAt s x = fourAt s k := by
  rw [four_eq s x (by omega), four_eq s k h]
  by_cases h0 : s.getD x 0 = s.getD k 0
  · rw [mlen_yes 30 s x k (by omega) (by omega) h0]
    by_cases h1 : s.getD (x + 1) 0 = s.getD (k + 1) 0
    · rw [mlen_yes 29 s (x + 1) (k + 1) (by omega) (by omega) h1]
      by_cases h2 : s.getD (x + 2) 0 = s.getD (k + 2) 0
      · rw [mlen_yes 28 s (x + 2) (k + 2) (by omega) (by omega) h2]
        by_cases h3 : s.getD (x + 3) 0 = s.getD (k + 3) 0
        · rw [mlen_yes 27 s (x + 3) (k + 3) (by omega) (by omega) h3, h0, h1, h2, h3]
          simp
        · rw [mlen_no 28 s (x + 3) (k + 3) (by omega) (by omega) h3]
          simp only [List.cons.injEq, h3, and_true, and_false, iff_false]
          omega
      · rw [mlen_no 29 s (x + 2) (k + 2) (by omega) (by omega) h2]
        simp only [List.cons.injEq, h2, and_true, false_and, and_false, iff_false]
        omega
    · rw [mlen_no 30 s (x + 1) (k + 1) (by omega) (by omega) h1]
      simp only [List.cons.injEq, h1, and_true, false_and, and_false, iff_false]
      omega
  · rw [mlen_no 31 s x k (by omega) (by omega) h0]
    simp only [List.cons.injEq, h0, and_true, false_and, iff_false]
    omega
theorem best_skip (s : List UInt8) (k c d : Nat) (h : ∀ x, x < k → k - (c + d) ≤ x → x < k - c → ¬ 4 ≤ mlen 31 (s.drop x) (s.drop k)) (hc : c + d ≤ k) : best s k (c + d) = best s k c := by
  induction d with
  | zero => rfl
  | succ d ih =>
    rw [← Nat.add_assoc, best_no, ih (fun x a b e => h x a (by omega) e) (by omega)]
    intro hh
    exact h (k - (c + d + 1)) (by omega) (by omega) (by omega) hh.1
theorem best_short (s : List UInt8) (k : Nat) (h : ¬ k + 4 ≤ s.length) : best s k k = (0, 0) := by
  have := best_skip s k 0 k (fun x _ _ _ h4 => by
    have := (mlen_le 31 (s.drop x) (s.drop k)).2
    rw [List.length_drop] at this
    omega) (by omega)
  rw [Nat.zero_add] at this
  exact this

/-- One place of the list: the next of the loop. -/
theorem best_place (s : List UInt8) (k c p : Nat) (L : List Nat) (hc : c ≤ k) (h4 : k + 4 ≤ s.length) (h : placesN s (fourAt s k) (k - c) = L ++ [p]) :
    p < k - c ∧ placesN s (fourAt s k) p = L ∧ 4 ≤ mlen 31 (s.drop p) (s.drop k) ∧
      ((best s k c).1 < mlen 31 (s.drop p) (s.drop k) → best s k (k - p) = (mlen 31 (s.drop p) (s.drop k), k - p)) ∧ (¬ (best s k c).1 < mlen 31 (s.drop p) (s.drop k) → best s k (k - p) = best s k c) := by
  obtain ⟨h1, h2, h3, h5⟩ := filter_snoc _ _ _ _ h
  have hp4 : fourAt s p = fourAt s k := by simp at h2; exact h2.2
  have hm := (mlen_four s p k (by omega) h4).2 hp4
  have hsk := best_skip s k c (k - p - 1 - c) (fun x a b d hh => by
    have e1 := (mlen_four s x k a h4).1 hh
    have := h5 x (by omega) d
    simp [e1] at this
    omega) (by omega)
  rw [show c + (k - p - 1 - c) = k - p - 1 by omega] at hsk
  have e2 : k - (k - p - 1 + 1) = p := by omega
  have e3 : k - p - 1 + 1 = k - p := by omega
  refine ⟨h1, h3, hm, fun hb => ?_, fun hb => ?_⟩
  · have := best_yes s k (k - p - 1) (by rw [e2]; exact hm) (by rw [e2, hsk]; exact hb)
    rw [e2, e3] at this
    exact this
  · have := best_no s k (k - p - 1) (by rw [e2, hsk]; exact fun hh => hb hh.2)
    rw [e3, hsk] at this
    exact this
theorem best_last (s : List UInt8) (k c : Nat) (hc : c ≤ k) (h4 : k + 4 ≤ s.length) (h : placesN s (fourAt s k) (k - c) = []) : best s k k = best s k c := by
  have := best_skip s k c (k - c) (fun x a b d hh => by
    have e1 := (mlen_four s x k a h4).1 hh
    have := filter_none _ _ h x d
    simp [e1] at this
    omega) (by omega)
  rwa [show c + (k - c) = k by omega] at this
end Go.Proofs.YtcjhnoapjhohfaaGreatDoor.Pack

/-
  The walk of the program's longest match.
-/
namespace Go.Proofs.YtcjhnoapjhohfaaGreatDoor
open Go.RowKit
open Pack

theorem placesI_at (s q : List UInt8) (m j p : Nat) (L : List Nat) (h : (placesN s q m).take (j + 1) = L ++ [p]) (hL : L.length = j) : (placesI s q m)[j]? = some (p : Int) := by
  have h1 : (placesN s q m)[j]? = some p := by
    have e1 : ((placesN s q m).take (j + 1))[j]? = some p := by rw [h, ← hL]; simp
    rwa [List.getElem?_take_of_lt (by omega)] at e1
  simp [placesI, h1]

theorem ints_slice {w : World} {base : Nat} {v : Value} {zs : List Int} (h : w.ownsInts base 3 .i64 v zs) : ∃ (ao : Option Addr) (n cap : Nat), v = .slice ao n cap ∧ n = zs.length ∧
    (0 < n → ∃ g, ao = some ⟨g, 0, none⟩ ∧ g < w.heap.size ∧ ∀ (j : Nat) (p : Int), zs[j]? = some p → w.cell? ⟨g, j, none⟩ = some (.int .i64 p)) := by
  have hlt := h.1.lt
  have hc := h.1
  rcases h.1.2 with ⟨rfl, h0⟩ | ⟨g, cap, cur, rfl, hb, hg, hn, hcap, hcs, htake⟩
  · exact ⟨none, 0, 0, rfl, h0.symm, fun h => by omega⟩
  · refine ⟨_, _, _, rfl, rfl, fun _ => ⟨g, rfl, (hlt g rfl).2, fun j p hj => ?_⟩⟩
    have := hc.cells (g := g) rfl j (.int .i64 p) (by simp [hj])
    rwa [addr_at] at this

set_option maxHeartbeats 400000 in
set_option maxRecDepth 100000 in
theorem longest_any (s : ByteArray) (b base k : Nat) (w : World) (No : Nat → Prop) (hs : s.size ≤ 64) (hk : k ≤ s.size) (hp : PMapAt w base b k s.data.toList No) :
    Calls Tryz.prog 161 #[.map (some b), .string s, .int .i64 k] w fun e w' => e = .returned (.tuple #[.int .i64 ((best s.data.toList k k).2 : Nat), .int .i64 ((best s.data.toList k k).1 : Nat)]) ∧ Below w.heap.size w w' := by
  have hl : s.data.toList.length = s.size := by simp
  have HP := hide hp
  clear hp
  go_enter Tryz.func161, Tryz.ntmps161
  go_wp2_with fail
  refine (start_any s k _ hs (by omega)).mono ?_
  rintro e w5 ⟨rfl, hb5⟩
  have HM5 := hide (pmap_kept HP.out (grown_old hb5 none) (fun j hj => by cases hj))
  have HB5 := hide hb5
  have hsz5 := hb5.size
  clear hb5 HP
  have hv := hide (bytes_made w5 [0, 0, 0, 0] #[Value.int .u8 0, Value.int .u8 0, Value.int .u8 0, Value.int .u8 0] 246 rfl)
  by_cases h4 : k + 4 ≤ s.size
  · rw [decide_eq_true h4]
    go_wp2_with (first
      | (refine wpList_store_key rfl _ _ rfl w5.heap.size _ [0, 0, 0, 0] rfl rfl hv.out (fourAt_len _ _) rfl ?_
         intro w6 hw6
         obtain ⟨hy6, hm6, hb6, hsz6⟩ := note_prep (fourAt_len _ _) HM5.out hw6
         have HY := hide hy6
         have HM6 := hide hm6
         have HB6 := hide (HB5.out.trans (hb6.mono hsz5))
         obtain ⟨v, hlook, hoi⟩ := pmap_look hm6 (by omega) (fourAt s.data.toList k) (fourAt_len _ _)
         have HOI := hide hoi
         have hlk := hlook false rfl
         obtain ⟨ao, n, cap, rfl, hn, hao⟩ := ints_slice hoi
         have hn64 : n ≤ 64 := by have := places_len s.data.toList (fourAt s.data.toList k) k; omega
         have HN := hide hn
         have HA := hide hao
         clear hn hao
         have hge : w.heap.size ≤ w6.heap.size := by omega
         clear hw6 hy6 hm6 hb6 hsz6 hoi hlook HM5 HB5)
      | refine wpList_load_key rfl _ rfl _ rfl _ HY.out (fourAt_len _ _) ?_
      | go_in)
    have hN2 : n = (placesN s.data.toList (fourAt s.data.toList k) k).length := by rw [HN.out]; simp [placesI]
    have HN2 := hide hN2
    clear hN2 HN hlk HM6 HY hv
    go_loopw [10, 11, 13] (fun bv zv iv wr => ∃ (c j b1 b2 : Nat), c ≤ k ∧ j ≤ n ∧ iv = .int .i64 ((j : Int) - 1) ∧ bv = .int .i64 b2 ∧ zv = .int .i64 b1 ∧ b1 ≤ 31 ∧ b2 ≤ 64 ∧ Hid (best s.data.toList k c = (b1, b2)) ∧ Hid (placesN s.data.toList (fourAt s.data.toList k) (k - c) = (placesN s.data.toList (fourAt s.data.toList k) k).take j) ∧ Hid (Below w6.heap.size w6 wr)) (fun _ _ iv _ => (intOf iv + 1).toNat)
    case atStart => exact ⟨0, n, 0, 0, by omega, Nat.le_refl _, by go_num, rfl, rfl, by omega, by omega, rfl, (by show _ = _; rw [Nat.sub_zero, HN2.out, List.take_length]), Below.refl _ _⟩
    case round =>
      obtain ⟨c, j, b1, b2, hc, hj, rfl, rfl, rfl, hb1, hb2, HB, HL, HW⟩ := hrel
      cases j with
      | zero =>
        have hlast := best_last s.data.toList k c hc (by rw [hl]; exact h4) (by rw [HL.out]; rfl)
        have HX : Hid (best s.data.toList k k = (b1, b2)) := by show _ = _; rw [hlast, HB.out]
        have hneg : ¬ (0 : Int) ≤ ((0 : Nat) : Int) - 1 := by omega
        clear hlast HB HL
        go_wp2
        exact bodyPost_ret (results_tmp2 rfl _ _ _) rfl ⟨by rw [HX.out]; rfl, HB6.out.trans (HW.out.mono hge)⟩
      | succ j =>
        have ej : (((j + 1 : Nat) : Int) - 1) = (j : Int) := by omega
        rw [ej]
        rcases List.eq_nil_or_concat (placesN s.data.toList (fourAt s.data.toList k) (k - c)) with h0 | ⟨L, p, h0⟩
        · exfalso
          have := congrArg List.length HL.out
          rw [h0, List.length_take] at this
          have := HN2.out
          simp at *
          omega
        · rw [List.concat_eq_append] at h0
          have hLl : L.length = j := by
            have e1 := congrArg List.length HL.out
            rw [h0, List.length_take, List.length_append] at e1
            have := HN2.out
            simp at e1
            omega
          obtain ⟨q1, q2, q3, q4, q5⟩ := best_place s.data.toList k c p L hc (by rw [hl]; exact h4) h0
          have hat := placesI_at s.data.toList (fourAt s.data.toList k) k j p L (by rw [← HL.out, h0]) hLl
          obtain ⟨g, rfl, hgl, hcell⟩ := HA.out (by omega)
          have hc1 : wr.cell? ⟨g, j, none⟩ = some (.int .i64 (p : Int)) := by
            rw [HW.out.cell (show g < w6.heap.size from hgl)]
            exact hcell j _ hat
          have HL2 : Hid (placesN s.data.toList (fourAt s.data.toList k) (k - (k - p)) = (placesN s.data.toList (fourAt s.data.toList k) k).take j) := by
            show _ = _
            rw [show k - (k - p) = p by omega, q2]
            have e1 := HL.out
            rw [h0] at e1
            have e2 := congrArg (List.take j) e1
            rw [List.take_take, List.take_append_of_le_length (by omega), ← hLl, List.take_length] at e2
            rw [e2, hLl]
            congr 1
            omega
          have hpk : p < k := by omega
          have hb1e : (best s.data.toList k c).1 = b1 := by rw [HB.out]
          rw [hb1e] at q4 q5
          have HQ := hide (⟨q4, q5⟩ : _ ∧ _)
          have HBc := hide HB.out
          have hj0 : (0 : Int) ≤ j := by omega
          have hjn : (j : Int) < n := by omega
          have hm31 := (mlen_le 31 (s.data.toList.drop p) (s.data.toList.drop k)).1
          clear h0 q2 q3 q4 q5 hat hcell HL hLl hb1e q1 ej
          go_wp2_with fail
          refine (imatch_any s p k _ hs hpk hk).mono ?_
          rintro e w7 ⟨rfl, hb7⟩
          have hc7 : w7.cell? ⟨g, j, none⟩ = some (.int .i64 (p : Int)) := by
            rw [hb7.cell (show g < wr.heap.size from Nat.lt_of_lt_of_le hgl HW.out.size)]
            exact hc1
          have HW7 := hide (HW.out.trans (hb7.mono HW.out.size))
          obtain ⟨m, hm⟩ : ∃ m, mlen 31 (s.data.toList.drop p) (s.data.toList.drop k) = m := ⟨_, rfl⟩
          rw [hm] at hm31 HQ ⊢
          clear hm hb7 HW hc1
          by_cases hgt : (b1 : Int) < m
          · have HB2 := hide (HQ.out.1 (by omega))
            clear HQ HBc HB
            go_wp2
            go_roundw
            case rel => exact ⟨k - p, j, m, k - p, by omega, by omega, by go_num, by go_num, rfl, by omega, by omega, HB2, HL2, HW7⟩
            case measure => simp [intOf]
          · have HB2 : Hid (best s.data.toList k (k - p) = (b1, b2)) := by
              show _ = _
              rw [HQ.out.2 (by omega), HBc.out]
            clear HQ HBc HB
            go_wp2
            go_roundw
            case rel => exact ⟨k - p, j, b1, b2, by omega, by omega, by go_num, rfl, rfl, hb1, hb2, HB2, HL2, HW7⟩
            case measure => simp [intOf]
  · rw [decide_eq_false h4]
    have HX := hide (best_short s.data.toList k (by rw [hl]; exact h4))
    go_wp2_with (first
      | (refine wpList_store_key rfl _ _ rfl w5.heap.size _ [0, 0, 0, 0] rfl rfl hv.out (fourAt_len _ _) rfl ?_
         intro w6 hw6
         obtain ⟨-, -, hb6, hsz6⟩ := note_prep (fourAt_len _ _) HM5.out hw6
         have HB6 := hide (HB5.out.trans (hb6.mono hsz5))
         clear hw6 hb6 HM5)
      | go_in)
    exact bodyPost_ret (results_tmp2 rfl _ _ _) rfl ⟨by rw [HX.out]; rfl, HB6.out⟩
end Go.Proofs.YtcjhnoapjhohfaaGreatDoor
