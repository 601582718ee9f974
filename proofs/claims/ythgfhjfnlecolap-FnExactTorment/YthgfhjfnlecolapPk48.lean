/-
  LawT; FHeld
-/
import Derived.Test.YthgfhjfnlecolapLawB
import Derived.Test.YthgfhjfnlecolapFMark
import Derived.Test.YthgfhjfnlecolapPk6
/-
  What the exact laws over flashes hold: the flash made of the argument, its like, and marked ones.
-/
namespace Go.Proofs.Ythgfhjfnlecolap
open Go.RowKit

theorem Fla.lens {w : World} {lo hi : Nat} {v : Value} {bs : List Bk} (h : Fla lo hi v bs w) (ho : Okk bs) : ∃ ss, ss.map tellOf = bs ∧ FlashIn w lo hi v ss ∧ ss.length ≤ 1048576 ∧ (∀ q ∈ ss, q.2.2.2.length ≤ 1048576) ∧ endB 1 ss = endK 1 bs := Inn.lens h ho
theorem to_tk {w wi : World} {hs : List Hold} {a : Option Addr} {len cap : Nat} {rs : List Rw} {bs : List Bk} (T : Tk w wi hs) (H : BkRow w a len rs) (hbs : rs.map tellOf = bs) (hl : len ≤ 1048576) (hll : ∀ q ∈ rs, q.2.2.2.length ≤ 1048576) :
    Calls Try.prog 11 #[.agg #[.slice a len cap]] wi fun e w' => ∃ ad c, e = .returned (.agg #[.slice ad bs.length c]) ∧ Tk w w' ((wi.heap.size, w'.heap.size, Fla wi.heap.size w'.heap.size (.slice ad bs.length c) bs) :: hs) ∧ wi.heap.size ≤ w'.heap.size := by
  refine (toFlash_any a len cap rs wi hl hll (H.below T.1)).mono ?_
  rintro e w2 ⟨v1, rfl, f1, b2⟩
  rw [hbs] at f1
  have T2 := T.add b2 (Fla.loc _ _ v1 bs) f1
  obtain ⟨ad1, cap1, rfl⟩ := f1.form
  exact ⟨ad1, cap1, rfl, T2, b2.size⟩
theorem eq_tk {w wi : World} {hs : List Hold} {u v : Value} {l1 h1 l2 h2 : Nat} {bs : List Bk} (T : Tk w wi hs) (n1 n2 : Nat) (ho : Okk bs) (e1 : hs[n1]? = some (l1, h1, Fla l1 h1 u bs)) (e2 : hs[n2]? = some (l2, h2, Fla l2 h2 v bs)) :
    Calls Try.prog 13 #[.agg #[u], .agg #[v]] wi fun e w' => e = .returned (.bool true) ∧ Tk w w' hs ∧ wi.heap.size ≤ w'.heap.size := by
  refine (eq_of _ _ bs _ _ _ _ wi ho ⟨T.hi n1 e1, T.get n1 e1⟩ ⟨T.hi n2 e2, T.get n2 e2⟩).mono ?_
  rintro e w2 ⟨rfl, b2⟩
  exact ⟨rfl, T.below b2, b2.size⟩
/-- A flash is marked: it is spoilt, and what lies apart from it stays. -/
theorem mark_tk {w wi : World} {hs hs' : List Hold} {u : Value} {l1 h1 : Nat} {bs : List Bk} (T : Tk w wi hs) (n1 : Nat) (ho : Okk bs) (e1 : hs[n1]? = some (l1, h1, Fla l1 h1 u bs)) (hlo : w.heap.size ≤ l1) (hh : ∀ x ∈ hs', x ∈ hs ∧ (x.2.1 ≤ l1 ∨ h1 ≤ x.1)) :
    Calls Try.prog 20 #[.agg #[u], .int .i64 1] wi fun e w' => e = .returned (.int .i64 ((endK 1 bs : Nat) : Int)) ∧ Tk w w' hs' ∧ wi.heap.size ≤ w'.heap.size := by
  obtain ⟨rs, e3, i1, l, ll, e2⟩ := (T.get n1 e1).lens ho
  refine (markFlash_any u rs l1 h1 wi l ll (by rw [e2]; exact ho.2.2) (T.hi n1 e1) i1).mono ?_
  rintro e w2 ⟨rfl, h2, h3⟩
  rw [e2]
  exact ⟨rfl, T.spoil (show Kept2 wi w2 (Apt l1 h1) from h3.out) hlo (T.hi n1 e1) hh, h3.out.2.2.2.1⟩
end Go.Proofs.Ythgfhjfnlecolap

/-
  The walks of the law's own helpers over flashes: held.
-/
namespace Go.Proofs.Ythgfhjfnlecolap
open Go.RowKit

theorem marksB_at (k : Nat) (rs : List Rw) (j : Nat) (r : Rw) (h : rs[j]? = some r) : (marksB k rs)[j]? = some (decide (endB k (rs.take j) % 3 = 0), ((endB k (rs.take j) + 1 : Nat) : Int), r.2.2.1, marksL (endB k (rs.take j) + 2) r.2.2.2.length) := by
  induction rs generalizing k j with
  | nil => simp at h
  | cons a rs ih =>
    cases j with
    | zero =>
      simp at h
      subst h
      rfl
    | succ j =>
      have := ih (k + 2 + 2 * a.2.2.2.length) j (by simpa using h)
      simpa [marksB, endB] using this

set_option maxHeartbeats 400000 in
set_option maxRecDepth 100000 in
theorem heldLeafS_any (a : Value) (n B k : Nat) (z : Int) (w : World) (hz : z = k) (hl : n ≤ 1048576) (hk0 : 0 < k) (hk : k ≤ 1000000010) (ha : w.ownsRow B 72 2 a n (lcells (marksL k n))) :
    Calls Try.prog 69 #[a, .int .i64 z] w fun e w' => e = .returned (.int .i64 ((k + 2 * n : Nat) : Int)) ∧ Below w.heap.size w w' := by
  subst hz
  obtain ⟨ad, capa, rfl, a1, a2, a3⟩ := frow_form ha
  unfold maxLen at a2
  have A3 := hide a3
  have HA := hide ha
  clear a3 ha
  go_enter Try.func69, Try.ntmps69
  go_wp2
  go_loopw [1, 5] (fun kv iv wr => ∃ j p : Nat, j ≤ n ∧ iv = .int .i64 j ∧ kv = .int .i64 (p : Int) ∧ Hid (p = k + 2 * j) ∧ Hid (Below w.heap.size w wr)) (fun _ iv _ => n - (intOf iv).toNat)
  case atStart => exact ⟨0, k, Nat.zero_le _, rfl, rfl, rfl, Below.refl _ _⟩
  case round =>
    obtain ⟨j, p, hj, rfl, rfl, HP, HW⟩ := hrel
    have hsz := HW.out.size
    have hp0 : 0 < p := by have := HP.out; omega
    have hp1 : p ≤ 1002097162 := by have := HP.out; omega
    by_cases hlt : (j : Int) < n
    · obtain ⟨ga, rfl, g1, g2⟩ := A3.out (by omega)
      obtain ⟨c1, c2⟩ := lown_cells (own_below HA.out HW.out) (marksL_at k n j (by omega))
      simp only [markLf] at c1 c2
      rw [← HP.out] at c1 c2
      have e1 : ((p : Int) != (p : Int)) = false := by simp
      have k0 : (0 : Int) ≤ j := by omega
      have hgw : ga < wr.heap.size := by omega
      have CM : Hid (∀ W, Calls Try.prog 54 #[.int .i64 ((p : Int) + 1)] W fun e w' => e = .returned (.string ⟨(markL (p + 1)).toArray⟩) ∧ Below W.heap.size W w') := fun W => markText_int ((p : Int) + 1) (p + 1) (by omega) W (by omega) (by omega)
      obtain ⟨t, ht⟩ : ∃ t, markL (p + 1) = t := ⟨_, rfl⟩
      rw [ht] at c2 CM
      have HP2 : Hid (p + 2 = k + 2 * (j + 1)) := by have := HP.out; show _ = _; omega
      clear ht HP
      go_wp2
      go_region_held3 (fun w' => w'.cell? ⟨ga, j * 2 + 1, none⟩ = some (.string ⟨t.toArray⟩)) (first | go_keep | (rw [hb.cell (show ga < wr.heap.size by exact hgw)]; exact c2)) ((go_at_call 54; (with_reducible refine Calls.mono (CM.out _) ?_); rintro e w1 ⟨rfl, hb⟩))
      have HB2 := hide (HW.out.drew.trans (hb.mono hsz))
      clear hb HW c1 c2 CM
      go_wp2
      go_roundw
      case rel => exact ⟨j + 1, p + 2, by omega, by go_num, by go_num, HP2, HB2⟩
      case measure => simp [intOf]; omega
    · have hje : j = n := by omega
      have E : Hid ((p : Int) = ((k + 2 * n : Nat) : Int)) := by show _ = _; rw [HP.out, hje]
      clear hje
      go_wp2
      go_ret
      exact ⟨congrArg (fun x => Ending.returned (.int .i64 x)) E.out, HW.out⟩

set_option maxHeartbeats 1000000 in
set_option maxRecDepth 100000 in
theorem heldBlockS_any (a : Value) (rs : List Rw) (lo hi : Nat) (w : World) (hl : rs.length ≤ 1048576) (hll : ∀ r ∈ rs, r.2.2.2.length ≤ 1048576) (he : endB 1 rs ≤ 1000000000) (hh : hi ≤ w.heap.size) (ha : FlashIn w lo hi a (marksB 1 rs)) :
    Calls Try.prog 51 #[a, .int .i64 1] w fun e w' => e = .returned (.int .i64 ((endB 1 rs : Nat) : Int)) ∧ Below w.heap.size w w' := by
  have hown := ha.1
  rw [marksB_len] at hown
  obtain ⟨ad, capa, rfl, a1, a2, a3⟩ := frow_form hown
  unfold maxLen at a2
  have A3 := hide a3
  have HA := hide ha
  have HLL := hide hll
  have HE := hide he
  clear a3 ha hll hown
  go_enter Try.func51, Try.ntmps51
  go_wp2
  go_loopw [1, 5] (fun kv iv wr => ∃ j p : Nat, j ≤ rs.length ∧ iv = .int .i64 j ∧ kv = .int .i64 (p : Int) ∧ Hid (p = endB 1 (rs.take j)) ∧ Hid (Below w.heap.size w wr)) (fun _ iv _ => rs.length - (intOf iv).toNat)
  case atStart => exact ⟨0, 1, Nat.zero_le _, rfl, rfl, rfl, Below.refl _ _⟩
  case round =>
    obtain ⟨j, p, hj, rfl, rfl, HP, HW⟩ := hrel
    have hsz := HW.out.size
    have hp0 : 0 < p := by have := endB_le 1 (rs.take j); have := HP.out; omega
    have hp1 : p ≤ 1000000000 := by have := endB_take 1 rs j; have := HP.out; omega
    by_cases hlt : (j : Int) < rs.length
    · obtain ⟨ga, rfl, g1, g2⟩ := A3.out (by omega)
      have hjl : j < rs.length := by omega
      obtain ⟨x, y, u, ls, hr⟩ : ∃ x y u ls, rs[j]? = some (x, y, u, ls) := ⟨rs[j].1, rs[j].2.1, rs[j].2.2.1, rs[j].2.2.2, List.getElem?_eq_getElem hjl⟩
      have hm := marksB_at 1 rs j _ hr
      rw [← HP.out] at hm
      simp only at hm
      have FA := HA.out.below HW.out hh
      have F1 := FA.1
      rw [marksB_len] at F1
      obtain ⟨c1, c2, c3⟩ := kown_cells (t := (decide (p % 3 = 0), ((p + 1 : Nat) : Int), u)) F1 (by rw [List.getElem?_map, hm]; rfl)
      simp only at c1 c2 c3
      have LL := (FA.2.2.1 _ (List.mem_of_getElem? hm)).1
      simp only [marksL_len] at LL
      have hlsz := HLL.out _ (List.mem_of_getElem? hr)
      simp only at hlsz
      have hz2 : ((p : Int) % 3 == 0) = decide (p % 3 = 0) := by
        by_cases h3 : p % 3 = 0
        · rw [decide_eq_true h3, beq_iff_eq]; omega
        · rw [decide_eq_false h3, beq_eq_false_iff_ne]; omega
      obtain ⟨z, hz⟩ : ∃ z : Bool, decide (p % 3 = 0) = z := ⟨_, rfl⟩
      rw [hz] at c1 hz2
      have e0 : (z != z) = false := by cases z <;> rfl
      have e1 : ((p : Int) + 1 != (p : Int) + 1) = false := by simp
      rw [show ((p + 1 : Nat) : Int) = (p : Int) + 1 by omega] at c2
      have CM : Hid (Calls Try.prog 69 #[u, .int .i64 ((p : Int) + 1 + 1)] wr fun e w' => e = .returned (.int .i64 (((p + 2) + 2 * ls.length : Nat) : Int)) ∧ Below wr.heap.size wr w') := heldLeafS_any u ls.length lo (p + 2) _ wr (by omega) hlsz (by omega) (by omega) LL
      have HP2 : Hid (p + 2 + 2 * ls.length = endB 1 (rs.take (j + 1))) := by
        show _ = _
        obtain ⟨e1, e2⟩ := List.getElem?_eq_some_iff.1 hr
        rw [List.take_succ_eq_append_getElem e1, e2, endB_snoc, ← HP.out]
      obtain ⟨ua, uc, rfl, -⟩ := frow_form LL
      have j0 : (0 : Int) ≤ j := by omega
      have hneg : ¬ ((p + 2 + 2 * ls.length : Nat) : Int) < 0 := by omega
      clear hr hm FA F1 LL hz HP
      go_wp2_with fail
      refine CM.out.mono ?_
      rintro e w5 ⟨rfl, hb⟩
      have HB5 := hide (HW.out.trans (hb.mono hsz))
      clear CM hb HW c1 c2 c3
      go_wp2
      go_roundw
      case rel => exact ⟨j + 1, p + 2 + 2 * ls.length, by omega, by go_num, by first | rfl | go_num, HP2, HB5⟩
      case measure => simp [intOf]; omega
    · have hje : j = rs.length := by omega
      have E : Hid ((p : Int) = ((endB 1 rs : Nat) : Int)) := by show _ = _; rw [HP.out, hje, List.take_length]
      clear hje HP
      go_wp2
      go_ret
      exact ⟨congrArg (fun x => Ending.returned (.int .i64 x)) E.out, HW.out⟩

set_option maxHeartbeats 400000 in
set_option maxRecDepth 100000 in
theorem heldFlash_any (a : Value) (rs : List Rw) (lo hi : Nat) (w : World) (hl : rs.length ≤ 1048576) (hll : ∀ r ∈ rs, r.2.2.2.length ≤ 1048576) (he : endB 1 rs ≤ 1000000000) (hh : hi ≤ w.heap.size) (ha : FlashIn w lo hi a (marksB 1 rs)) :
    Calls Try.prog 21 #[.agg #[a], .int .i64 1] w fun e w' => e = .returned (.int .i64 ((endB 1 rs : Nat) : Int)) ∧ Below w.heap.size w w' := by
  have hown := ha.1
  obtain ⟨ad, capa, rfl, -⟩ := frow_form hown
  have HB := hide ((Below.refl w.heap.size w).alloc (Nat.le_refl _) (.cells #[.slice ad (marksB 1 rs).length capa] 30))
  have HA := hide (ha.below HB.out hh)
  have HLL := hide hll
  have hneg : ¬ ((endB 1 rs : Nat) : Int) < 0 := by omega
  clear ha hll hown
  go_enter Try.func21, Try.ntmps21
  go_wp2_with fail
  refine (heldBlockS_any _ rs lo hi _ hl HLL.out he (by simp; omega) HA.out).mono ?_
  rintro e w1 ⟨rfl, hb⟩
  have HB2 := hide (HB.out.trans (hb.mono HB.out.size))
  clear hb
  go_wp2
  go_ret
  exact ⟨rfl, HB2.out⟩
end Go.Proofs.Ythgfhjfnlecolap
