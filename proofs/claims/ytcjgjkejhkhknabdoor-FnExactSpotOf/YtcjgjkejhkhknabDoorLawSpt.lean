/-
  FnExactSpotOf.
-/
import Derived.Test.YtcjgjkejhkhknabDoorPq6
import Derived.Test.YtcjgjkejhkhknabDoorPq49
import Derived.Test.YtcjgjkejhkhknabDoorPq50
import Derived.Deep.RegionHeld3
namespace Go.Proofs.YtcjgjkejhkhknabDoor
open Go.RowKit
open Words Sums Pack

theorem sSpt_of (v : Value) (bs : List Bk) (lo hi : Nat) (c : Int) (w : World) (ho : Okk bs) (htx : TxK bs) (ha : hi ≤ w.heap.size ∧ Inn w lo hi v bs) :
    Calls Tryd.prog 10 #[.agg #[v], .int .i64 c] w fun e w' => e = .returned (.tuple #[.int .i64 (spotP (scanF bs) c).1, .int .i64 (spotP (scanF bs) c).2.1, .bool (spotP (scanF bs) c).2.2]) ∧ Below w.heap.size w w' := by
  obtain ⟨ss, e1, i1, l, ll, -⟩ := ha.2.lens ho
  subst e1
  exact sspot v ss c w l ll (by intro q hq t ht; exact htx _ (List.mem_map_of_mem (f := tellOf) hq) t ht) i1.rd
theorem iSpt_of (v : Value) (bs : List Bk) (lo hi : Nat) (c : Int) (w : World) (ho : Okk bs) (htx : TxK bs) (ha : hi ≤ w.heap.size ∧ Inn w lo hi v bs) (hv : HalvIn w) :
    Calls Tryd.prog 11 #[.agg #[v], .int .i64 c] w fun e w' => e = .returned (.tuple #[.int .i64 (spotP (scanF bs) c).1, .int .i64 (spotP (scanF bs) c).2.1, .bool (spotP (scanF bs) c).2.2]) ∧ Below w.heap.size w w' := by
  obtain ⟨ss, e1, i1, l, ll, -⟩ := ha.2.lens ho
  subst e1
  exact ispot v ss c w l ll (by intro q hq t ht; exact htx _ (List.mem_map_of_mem (f := tellOf) hq) t ht) i1.rd hv

set_option maxHeartbeats 800000 in
set_option maxRecDepth 100000 in
theorem lawSpt_any (a : Option Addr) (len cap : Nat) (rs : List Rw) (c : Int) (w : World) (hv : HalvIn w) (h : BkRow w a len rs) :
    Calls Tryd.prog 4 #[.agg #[.slice a len cap], .int .i64 c] w fun e w' => e = .returned (.bool true) ∧ Below w.heap.size w w' := by
  obtain ⟨bs, hbs⟩ : ∃ bs, rs.map tellOf = bs := ⟨_, rfl⟩
  have T0 := hide (Trk.start w (.slice a len cap) 24)
  have H := hide h
  have HV := hide hv
  have HBS := hide hbs
  have hlen := h.1
  clear h hbs hv
  go_enter Tryd.func4, Tryd.ntmps4
  go_wp2_with fail
  refine (szFlash_any a len cap rs 1048576 _ (Nat.le_refl _) (H.out.below T0.out.1)).mono ?_
  rintro e w1 ⟨⟨r, rfl, r1, r2, r3⟩, b1⟩
  have T1 := hide (T0.out.below b1)
  have k1 : w1.cell? ⟨w.heap.size, 0, none⟩ = some (.slice a len cap) := T1.out.at 0 rfl
  clear b1 T0
  by_cases hr : r < 0
  · clear r2 r3
    go_wp2
    go_ret
    exact ⟨rfl, T1.out.1⟩
  · obtain ⟨hl, hll, ho⟩ := meas (by omega) (r2 (by omega))
    have htx := tx_tell (r3 (by omega))
    rw [HBS.out] at ho htx
    have HLL := hide hll
    have HO := hide ho
    have HTX := hide htx
    have hl2 : len ≤ 1048576 := by omega
    have HLE := hide hl2
    clear r2 r3 hll ho htx hl2
    go_wp2_with fail
    refine (to_trk T1.out H.out HBS.out HLE.out HLL.out).mono ?_
    rintro e w2 ⟨ad1, cap1, rfl, t2, -⟩
    have T2 := hide t2
    clear t2 T1 k1
    go_wp2_with fail
    refine (sSpt_of _ bs _ _ c _ HO.out HTX.out (T2.out.fl 0 rfl)).mono ?_
    rintro e w3 ⟨rfl, b3⟩
    have T3 := hide (T2.out.below b3)
    have k3 : w3.cell? ⟨w.heap.size, 0, none⟩ = some (.slice a len cap) := T3.out.at 0 rfl
    clear b3 T2
    obtain ⟨p0, p1, p2, hok⟩ : ∃ p0 p1 p2, spotP (scanF bs) c = (p0, p1, p2) := ⟨_, _, _, rfl⟩
    rw [hok]
    simp only
    have HOK := hide hok
    clear hok
    go_wp2_with fail
    refine (to_trk T3.out H.out HBS.out HLE.out HLL.out).mono ?_
    rintro e w4 ⟨ad2, cap2, rfl, t4, -⟩
    have T5 := hide (t4.cell (.slice ad2 bs.length cap2) 30)
    clear t4 T3 k3
    go_wp2_with fail
    generalize w4.alloc (.cells #[.slice ad2 bs.length cap2] 30) = w5 at T5 ⊢
    refine (iSpt_of _ bs _ _ c _ HO.out HTX.out (T5.out.fl 0 rfl) (HV.out.on T5.out.1)).mono ?_
    rintro e w6 ⟨rfl, b6⟩
    have T6 := hide (T5.out.below b6)
    rw [HOK.out]
    simp only
    have hne : (p0 != p0) = false := by simp
    have hne1 : (p1 != p1) = false := by simp
    have hne2 : (p2 != p2) = false := by simp
    have k6 : w6.cell? ⟨w.heap.size, 0, none⟩ = some (.slice a len cap) := T6.out.at 1 rfl
    have x6 : w6.cell? ⟨w4.heap.size, 0, none⟩ = some (.slice ad2 bs.length cap2) := T6.out.at 0 rfl
    have T6d := hide T6.out.drew
    clear b6 T5
    go_wp2
    go_region_held3 (fun w' => w'.cell? ⟨w4.heap.size, 0, none⟩ = some (.slice ad2 bs.length cap2) ∧ w'.cell? ⟨w.heap.size, 0, none⟩ = some (.slice a len cap)) (first | go_keep | exact ⟨T7.out.at 0 rfl, T7.out.at 1 rfl⟩ | exact ⟨T8.out.at 0 rfl, T8.out.at 1 rfl⟩) (first
      | (go_at_call 7; with_reducible refine Calls.mono (to_trk T6d.out H.out HBS.out HLE.out HLL.out) ?_; rintro en w7 ⟨ad3, cap3, rfl, t7, -⟩; have T7 := hide t7; clear t7)
      | (go_at_call 9; with_reducible refine Calls.mono (eq_trk T7.out 1 0 HO.out rfl rfl) ?_; rintro en w8 ⟨rfl, t8, -⟩; have T8 := hide t8; clear t8))
    all_goals
      go_wp2
      go_ret
      exact ⟨rfl, T8.out.1⟩
theorem lawSpt_card (a : Option Addr) (len cap : Nat) (rs : List Rw) (c : Int) {w : World} (h : BkRow w a len rs) (_ : World) (hv : HalvIn w) :
    Calls Tryd.prog 4 #[.agg #[.slice a len cap], .int .i64 c] w fun e w' => e = .returned (.bool true) ∧ Below w.heap.size w w' := lawSpt_any a len cap rs c w hv h
end Go.Proofs.YtcjgjkejhkhknabDoor
