/-
  The laws' own eqTx and eqTxS.
-/
import Derived.Test.YtogfdhfmamabiaaTxN
import Derived.Test.YtogfdhfmamabiaaEqRc
import Derived.Deep.RegionHeld3
namespace Go.Proofs.Ytogfdhfmamabiaa
open Go.RowKit
open Words

set_option maxHeartbeats 400000 in
set_option maxRecDepth 100000 in
theorem eqTx_same (x y : Int) (n : Nat) (a1 a2 : Option Addr) (c1 c2 : Nat) (ls : List (Int × Int × Int × Int)) (B1 C1 B2 C2 : Nat) (w : World) (hn : ls.length = n) (hM : n ≤ 1000000000000000000) (h1 : Sli 34 B1 C1 (.slice a1 n c1) n (rccells ls) w) (h2 : Sli 34 B2 C2 (.slice a2 n c2) n (rccells ls) w) :
    Calls Try.prog 38 #[.agg #[.int .i64 x, .int .i64 y, .slice a1 n c1], .agg #[.int .i64 x, .int .i64 y, .slice a2 n c2]] w fun e w' => e = .returned (.bool true) ∧ Below w.heap.size w w' := by
  have e0 : (x != x) = false := by simp
  have e1 : (y != y) = false := by simp
  have HB : Hid (Below w.heap.size w ((w.alloc (.cells #[.int .i64 x, .int .i64 y, .slice a1 n c1] 31)).alloc (.cells #[.int .i64 x, .int .i64 y, .slice a2 n c2] 31))) := ((Below.refl _ _).alloc (Nat.le_refl _) _).alloc (by simp) _
  have C : Hid (Calls Try.prog 56 #[.slice a1 n c1, .slice a2 n c2] ((w.alloc (.cells #[.int .i64 x, .int .i64 y, .slice a1 n c1] 31)).alloc (.cells #[.int .i64 x, .int .i64 y, .slice a2 n c2] 31)) fun e w' => e = .returned (.bool true) ∧ Below ((w.alloc (.cells #[.int .i64 x, .int .i64 y, .slice a1 n c1] 31)).alloc (.cells #[.int .i64 x, .int .i64 y, .slice a2 n c2] 31)).heap.size ((w.alloc (.cells #[.int .i64 x, .int .i64 y, .slice a1 n c1] 31)).alloc (.cells #[.int .i64 x, .int .i64 y, .slice a2 n c2] 31)) w') := by
    subst hn
    exact eqRcs_same _ _ ls B1 C1 B2 C2 _ hM (h1.blw HB.out) (h2.blw HB.out)
  clear h1 h2
  go_enter Try.func38, Try.ntmps38
  go_wp2_with fail
  refine C.out.mono ?_
  rintro e w1 ⟨rfl, b1⟩
  have HW := hide (HB.out.trans (b1.mono HB.out.size))
  clear b1 C HB
  go_wp2
  go_ret
  exact ⟨rfl, HW.out⟩

set_option maxHeartbeats 1000000 in
set_option maxRecDepth 100000 in
theorem eqTxs_same (a b : Value) (rs ss : List Xw) (B1 C1 B2 C2 : Nat) (w : World) (hM : rs.length ≤ 1000000000000000000) (hll : ∀ r ∈ rs, r.2.2.2.length ≤ 1000000000000000000) (ha : XIn B1 C1 a rs w) (hb : XIn B2 C2 b ss w) (he : rs.map xtell = ss.map xtell) :
    Calls Try.prog 18 #[a, b] w fun e w' => e = .returned (.bool true) ∧ Below w.heap.size w w' := by
  have hls : rs.length = ss.length := by have := congrArg List.length he; simpa using this
  obtain ⟨ad, capa, rfl, a3⟩ := ha.1.form
  obtain ⟨bd, capb, rfl, b3⟩ := hb.1.form
  obtain ⟨n, hn⟩ : ∃ n, rs.length = n := ⟨_, rfl⟩
  have HN := hide hn
  have HSA := hide ha
  have HSB := hide hb
  have HE := hide he
  have HLL := hide hll
  rw [hn] at hls
  rw [← hls] at b3 HSB ⊢
  rw [hn] at hM a3 HSA ⊢
  have A3 := hide a3
  have B3 := hide b3
  have HLS := hide hls
  clear a3 b3 ha hb hn he hll hls
  go_enter Try.func18, Try.ntmps18
  go_wp2
  go_loopw [5] (fun iv wr => ∃ k : Nat, k ≤ n ∧ iv = .int .i64 k ∧ Hid (Below w.heap.size w wr)) (fun iv _ => n - (intOf iv).toNat)
  case atStart => exact ⟨0, Nat.zero_le _, rfl, Below.refl _ _⟩
  case round =>
    obtain ⟨k, hk, rfl, HW⟩ := hrel
    by_cases hlt : (k : Int) < n
    · obtain ⟨ga, e, _, _⟩ := A3.out (by omega)
      subst e
      obtain ⟨gb, e, _, _⟩ := B3.out (by omega)
      subst e
      have hkl : k < rs.length := by have := HN.out; omega
      have hkl2 : k < ss.length := by have := HLS.out; omega
      obtain ⟨r, hr⟩ : ∃ r, rs[k]? = some r := ⟨_, List.getElem?_eq_getElem hkl⟩
      obtain ⟨s, hs⟩ : ∃ s, ss[k]? = some s := ⟨_, List.getElem?_eq_getElem hkl2⟩
      have hrs : xtell r = xtell s := by
        have e := congrArg (fun l => l[k]?) HE.out
        simp only [List.getElem?_map, hr, hs, Option.map_some, Option.some.injEq] at e
        exact e
      have SA := (HSA.out.2.1 r (List.mem_of_getElem? hr)).1.blw HW.out
      have SB := (HSB.out.2.1 s (List.mem_of_getElem? hs)).1.blw HW.out
      have hlr := HLL.out r (List.mem_of_getElem? hr)
      have ha1 := HSA.out.1
      have hb1 := HSB.out.1
      rw [HN.out] at ha1
      rw [← HLS.out] at hb1
      have GA := ha1.flt.below HW.out
      have GB := hb1.flt.below HW.out
      clear ha1 hb1
      have c0 := GA.cell (xcells_at rs k _ hr 0 _ rfl)
      have c1 := GA.cell (xcells_at rs k _ hr 1 _ rfl)
      have c2 := GA.cell (xcells_at rs k _ hr 2 _ rfl)
      have d0 := GB.cell (xcells_at ss k _ hs 0 _ rfl)
      have d1 := GB.cell (xcells_at ss k _ hs 1 _ rfl)
      have d2 := GB.cell (xcells_at ss k _ hs 2 _ rfl)
      obtain ⟨rn, rq, rv, rl⟩ := r
      obtain ⟨sn, sq, sv, sl⟩ := s
      simp only [xtell, Prod.mk.injEq] at hrs
      obtain ⟨rfl, rfl, rfl⟩ := hrs
      simp only [Nat.add_zero] at SA SB c0 c1 c2 d0 d1 d2 hlr
      obtain ⟨m, hm⟩ : ∃ m, rl.length = m := ⟨_, rfl⟩
      rw [hm] at SA SB hlr
      obtain ⟨va, vc, rfl, -⟩ := SA.form
      obtain ⟨ua, uc, rfl, -⟩ := SB.form
      have CE := hide (eqTx_same rn rq m va ua vc uc rl _ _ _ _ wr.drew hm hlr (SA.blw (Below.refl _ _).drew) (SB.blw (Below.refl _ _).drew))
      have hsz := HW.out.size
      have k0 : (0 : Int) ≤ k := by omega
      have gaw : ga < wr.heap.size := World.block_lt_of_cell? wr _ c0
      have gbw : gb < wr.heap.size := World.block_lt_of_cell? wr _ d0
      clear hr hs hkl hkl2 GA GB SA SB hm
      go_wp2
      go_region_held3 (fun w' => w'.cell? ⟨ga, k * 3, none⟩ = some (.int .i64 rn) ∧ w'.cell? ⟨ga, k * 3 + 1, none⟩ = some (.int .i64 rq) ∧ w'.cell? ⟨ga, k * 3 + 2, none⟩ = some (.slice va m vc) ∧ w'.cell? ⟨gb, k * 3, none⟩ = some (.int .i64 rn) ∧ w'.cell? ⟨gb, k * 3 + 1, none⟩ = some (.int .i64 rq) ∧ w'.cell? ⟨gb, k * 3 + 2, none⟩ = some (.slice ua m uc)) (first | go_keep | exact ⟨(b1.cell (show ga < wr.drew.heap.size from gaw)).trans c0, (b1.cell (show ga < wr.drew.heap.size from gaw)).trans c1, (b1.cell (show ga < wr.drew.heap.size from gaw)).trans c2, (b1.cell (show gb < wr.drew.heap.size from gbw)).trans d0, (b1.cell (show gb < wr.drew.heap.size from gbw)).trans d1, (b1.cell (show gb < wr.drew.heap.size from gbw)).trans d2⟩) ((go_at_call 38; (with_reducible refine Calls.mono CE.out ?_); rintro en w1 ⟨rfl, b1⟩))
      all_goals
        have HW1 := hide (HW.out.drew.trans (b1.mono (show w.heap.size ≤ wr.drew.heap.size from hsz)))
        clear b1 CE HW c0 c1 c2 d0 d1 d2
        go_wp2
        go_roundw
        case rel => exact ⟨k + 1, by omega, by go_num, HW1⟩
        case measure => simp [intOf]; omega
    · go_wp2
      go_ret
      exact ⟨rfl, HW.out⟩
end Go.Proofs.Ytogfdhfmamabiaa
