/-
  FnExactPlaceOf.
-/
import Derived.Test.YtcjgjkejhkhknaaLawB
import Derived.Test.YtcjgjkejhkhknaaSPlace
import Derived.Test.YtcjgjkejhkhknaaIPlace
import Derived.Deep.RegionHeld3
namespace Go.Proofs.Ytcjgjkejhkhknaa
open Go.RowKit

theorem spl_of (v : Value) (bs : List Bk) (lo hi : Nat) (w : World) (ho : Okk bs) (ha : hi ≤ w.heap.size ∧ Inn w lo hi v bs) :
    Calls Try.prog 37 #[.agg #[v]] w fun e w' => e = .returned (plV (placeF bs)) ∧ Below w.heap.size w w' := by
  obtain ⟨ss, e1, i1, l, ll, -⟩ := ha.2.lens ho
  subst e1
  exact splace_any v ss lo hi w l ll ha.1 i1
theorem ipl_of (v : Value) (bs : List Bk) (lo hi : Nat) (w : World) (ho : Okk bs) (ha : hi ≤ w.heap.size ∧ Inn w lo hi v bs) :
    Calls Try.prog 12 #[.agg #[v]] w fun e w' => e = .returned (plV (placeF bs)) ∧ Below w.heap.size w w' := by
  obtain ⟨ss, e1, i1, l, ll, -⟩ := ha.2.lens ho
  subst e1
  exact iplace_any v ss lo hi w l ll ha.1 i1

set_option maxHeartbeats 800000 in
set_option maxRecDepth 100000 in
theorem lawPlc_any (a : Option Addr) (len cap : Nat) (rs : List Rw) (w : World) (h : BkRow w a len rs) :
    Calls Try.prog 8 #[.agg #[.slice a len cap]] w fun e w' => e = .returned (.bool true) ∧ Below w.heap.size w w' := by
  obtain ⟨bs, hbs⟩ : ∃ bs, rs.map tellOf = bs := ⟨_, rfl⟩
  have T0 := hide (Trk.start w (.slice a len cap) 75)
  have H := hide h
  have HBS := hide hbs
  have hlen := h.1
  clear h hbs
  go_enter Try.func8, Try.ntmps8
  go_wp2_with fail
  refine (szFlash_any a len cap rs 1048576 _ (Nat.le_refl _) (H.out.below T0.out.1)).mono ?_
  rintro e w1 ⟨⟨r, rfl, r1, r2, -⟩, b1⟩
  have T1 := hide (T0.out.below b1)
  have k1 : w1.cell? ⟨w.heap.size, 0, none⟩ = some (.slice a len cap) := T1.out.at 0 rfl
  clear b1 T0
  by_cases hr : r < 0
  · clear r2
    go_wp2
    go_ret
    exact ⟨rfl, T1.out.1⟩
  · obtain ⟨hl, hll, ho⟩ := meas (by omega) (r2 (by omega))
    rw [HBS.out] at ho
    have HLL := hide hll
    have HO := hide ho
    clear r2 hll ho
    go_wp2_with fail
    refine (toFlash_any a len cap rs _ (by omega) HLL.out (H.out.below T1.out.1)).mono ?_
    rintro e w2 ⟨v1, rfl, f1, b2⟩
    rw [HBS.out] at f1
    have T2 := hide (T1.out.add b2 f1)
    obtain ⟨ad1, cap1, rfl⟩ := f1.form
    clear b2 f1 T1 k1
    go_wp2_with fail
    refine (spl_of _ bs _ _ _ HO.out (T2.out.fl 0 rfl)).mono ?_
    rintro e w3 ⟨rfl, b3⟩
    have T3 := hide (T2.out.below b3)
    have k3 : w3.cell? ⟨w.heap.size, 0, none⟩ = some (.slice a len cap) := T3.out.at 0 rfl
    clear b3 T2
    generalize hok : (placeF bs) = ok
    have HOK := hide hok
    clear hok
    obtain ⟨p0, p1, p2⟩ := ok
    unfold plV
    simp only
    go_wp2_with fail
    refine (toFlash_any a len cap rs _ (by omega) HLL.out (H.out.below T3.out.1)).mono ?_
    rintro e w4 ⟨v2, rfl, f2, b4⟩
    rw [HBS.out] at f2
    have T4 := hide (T3.out.add b4 f2)
    obtain ⟨ad2, cap2, rfl⟩ := f2.form
    have T5 := hide (T4.out.cell (.slice ad2 bs.length cap2) 28)
    clear b4 f2 T3 k3 T4
    go_wp2_with fail
    generalize w4.alloc (.cells #[.slice ad2 bs.length cap2] 28) = w5 at T5 ⊢
    refine (ipl_of _ bs _ _ _ HO.out (T5.out.fl 0 rfl)).mono ?_
    rintro e w6 ⟨rfl, b6⟩
    have T6 := hide (T5.out.below b6)
    rw [HOK.out]
    unfold plV
    simp only
    have hne : (p0 != p0) = false := by simp
    have hne1 : (p1 != p1) = false := by simp
    have hne2 : (p2 != p2) = false := by simp
    have k6 : w6.cell? ⟨w.heap.size, 0, none⟩ = some (.slice a len cap) := T6.out.at 1 rfl
    have x6 : w6.cell? ⟨w4.heap.size, 0, none⟩ = some (.slice ad2 bs.length cap2) := T6.out.at 0 rfl
    have hl2 : len ≤ 1048576 := by omega
    have HLE := hide hl2
    have T6d := hide T6.out.drew
    clear b6 T5 hl2
    go_wp2
    go_region_held3 (fun w' => w'.cell? ⟨w4.heap.size, 0, none⟩ = some (.slice ad2 bs.length cap2) ∧ w'.cell? ⟨w.heap.size, 0, none⟩ = some (.slice a len cap)) (first | go_keep | exact ⟨T7.out.at 0 rfl, T7.out.at 1 rfl⟩ | exact ⟨T8.out.at 0 rfl, T8.out.at 1 rfl⟩) (first
      | (go_at_call 38; with_reducible refine Calls.mono (to_trk T6d.out H.out HBS.out HLE.out HLL.out) ?_; rintro en w7 ⟨ad3, cap3, rfl, t7, -⟩; have T7 := hide t7; clear t7)
      | (go_at_call 39; with_reducible refine Calls.mono (eq_trk T7.out 1 0 HO.out rfl rfl) ?_; rintro en w8 ⟨rfl, t8, -⟩; have T8 := hide t8; clear t8))
    all_goals
      go_wp2
      go_ret
      exact ⟨rfl, T8.out.1⟩
end Go.Proofs.Ytcjgjkejhkhknaa
