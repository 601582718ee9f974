/-
  FnRefs, of what the program answers.
-/
import Derived.Test.YtcnaahajaaifjaaPq31
import Derived.Test.YtcnaahajaaifjaaPq55
import Derived.Test.YtcnaahajaaifjaaPq18
import Derived.Test.YtcnaahajaaifjaaPq56
import Derived.Test.YtcnaahajaaifjaaPq10
import Derived.Deep.RegionHeld3
import Derived.Deep.DeepCutAuto
namespace Go.Proofs.Ytcnaahajaaifjaa
open Go.RowKit
open Words

set_option maxHeartbeats 8000000 in
set_option maxRecDepth 100000 in
theorem lawRf_of (ad : Option Addr) (len cap : Nat) (w : World) (hd : CodeIn w ad len w.heap.size) (HL : Hid (LiveC 22)) (HR : Hid (RefsC 23)) (HC : Hid (ChunkC 15)) :
    Calls Try.prog 5 #[.slice ad len cap] w fun e w' => e = .returned (.bool true) ∧ Below w.heap.size w w' := by
  have HD := hide hd
  clear hd
  by_cases hbig : (1048576 : Int) < len
  · go_enter Try.func5, Try.ntmps5
    go_wp2_with fail
    refine (big_any ad len cap _).mono ?_
    rintro e w1 ⟨rfl, rfl⟩
    rw [decide_eq_true hbig]
    go_wp2
    go_ret
    exact ⟨rfl, Below.refl _ _⟩
  have hl2 : len ≤ 1048576 := by omega
  have hbd : decide ((1048576 : Int) < len) = false := decide_eq_false hbig
  clear hbig
  go_enter Try.func5, Try.ntmps5
  go_wp2_with fail
  refine (big_any ad len cap _).mono ?_
  rintro e w0 ⟨rfl, hw0⟩
  subst hw0
  rw [hbd]
  clear hbd
  go_wp2_with fail
  refine (dsr_tk (Tk.start w0) hl2 HD.out).mono ?_
  rintro e w1 ⟨va, vl, vc, kd, kl, kc, s, kind, vol, arg, chunk, rfl, ⟨hs, hv, hvl, hkl, hcp⟩, t1, s1⟩
  have HS := hide hs
  have HVL := hide hvl
  have HKL := hide hkl
  have hvl3 : vl ≤ 3 := by rw [hvl]; exact hs.1.few
  have HF := hide (drn_fit hs)
  obtain ⟨E1, E2, hE⟩ : ∃ E1 E2, enterS s ⟨kind, vol, arg, chunk⟩ = (E1, E2) := ⟨_, _, rfl⟩
  have HE := hide hE
  have HER : Hid E1.Right := by
    have := enter_right hs.1 ⟨kind, vol, arg, chunk⟩
    rw [hE] at this
    exact this
  have HEF := hide (right_fit HER.out)
  clear hs hvl hkl hE
  have T2 := hide ((t1.celln rfl #[.slice va vl vc, .slice kd kl kc, .int .i64 s.next] 29).celln (alloc_size rfl _) #[.int .i64 kind, .int .i64 vol, .int .i64 arg, .int .i64 chunk] 31)
  obtain ⟨z, hz⟩ : ∃ z, w1.heap.size = z := ⟨_, rfl⟩
  rw [hz] at T2
  clear t1
  go_upto_region 4 with fail
  try rw [hz]
  generalize (w1.alloc (.cells #[.slice va vl vc, .slice kd kl kc, .int .i64 s.next] 29)).alloc (.cells #[.int .i64 kind, .int .i64 vol, .int .i64 arg, .int .i64 chunk] 31) = w2 at T2 ⊢
  clear hz
  clear E1 E2 HE HER HEF
  obtain ⟨L, hL⟩ : ∃ L, liveS s = L := ⟨_, rfl⟩
  obtain ⟨nl, hnl⟩ : ∃ nl, L.length = nl := ⟨_, rfl⟩
  have HLL := hide hL
  have HNL := hide hnl
  have nlb : nl ≤ 48 := by
    have h1 := live_bound s
    have h2 := HVL.out
    rw [hL, hnl] at h1
    omega
  clear hL hnl
  have c0 : w2.cell? ⟨z, 0, none⟩ = some (.slice va vl vc) := T2.out.at 1 0 rfl rfl
  have c1 : w2.cell? ⟨z, 1, none⟩ = some (.slice kd kl kc) := T2.out.at 1 1 rfl rfl
  have c2 : w2.cell? ⟨z, 2, none⟩ = some (.int .i64 s.next) := T2.out.at 1 2 rfl rfl
  go_wp2_with fail
  refine (glive_tk HL.out HLL.out HNL.out T2.out 2 HF.out rfl).mono ?_
  rintro e w3 ⟨la, lc, rfl, t3, s3⟩
  have T3 := hide t3
  change Hid (Tk w0 w3 [(w2.heap.size, w3.heap.size, Sli 3 w2.heap.size w3.heap.size (.slice la nl lc) nl (icells L)), (z + 1, z + 1 + 1, Cel (z + 1) #[.int .i64 kind, .int .i64 vol, .int .i64 arg, .int .i64 chunk] 31), (z, z + 1, Cel z #[.slice va vl vc, .slice kd kl kc, .int .i64 s.next] 29), (w0.heap.size, z, Sts w0.heap.size z (.agg #[.slice va vl vc, .slice kd kl kc, .int .i64 s.next]) s)]) at T3
  clear t3 T2 c0 c1 c2
  go_wp2_with fail
  go_loopw [6, 7, 8] (fun nv iv rv W => ∃ i : Nat, i ≤ nl ∧ iv = .int .i64 i ∧ nv = .int .i64 (refK s i : Nat) ∧ Hid (Tk w0 W [(w2.heap.size, w3.heap.size, Sli 3 w2.heap.size w3.heap.size (.slice la nl lc) nl (icells L)), (z + 1, z + 1 + 1, Cel (z + 1) #[.int .i64 kind, .int .i64 vol, .int .i64 arg, .int .i64 chunk] 31), (z, z + 1, Cel z #[.slice va vl vc, .slice kd kl kc, .int .i64 s.next] 29), (w0.heap.size, z, Sts w0.heap.size z (.agg #[.slice va vl vc, .slice kd kl kc, .int .i64 s.next]) s)])) (fun _ iv _ _ => nl - (intOf iv).toNat)
  case atStart => exact ⟨0, Nat.zero_le _, rfl, by rw [refK_zero]; rfl, T3⟩
  case round =>
    obtain ⟨i, hi, rfl, rfl, TI⟩ := hrel
    clear T3
    obtain ⟨rk, hrk⟩ : ∃ rk, refK s i = rk := ⟨_, rfl⟩
    have rkb : rk ≤ 48 := by
      have h1 := refK_le s i
      have h2 := HVL.out
      omega
    by_cases hlt : (i : Int) < nl
    · obtain ⟨c, hc⟩ : ∃ c, L[i]? = some c := ⟨_, List.getElem?_eq_getElem (by have := HNL.out; omega)⟩
      have HC1 := hide hc
      obtain ⟨lg, hlg, -⟩ := (show Sli 3 _ _ _ _ _ _ from TI.out.get 0 rfl).adr (by omega)
      subst hlg
      have TD := hide TI.out.drew
      obtain ⟨rc, hrc⟩ : ∃ rc, refsS s c = rc := ⟨_, rfl⟩
      have HRC := hide hrc
      have r1 : 1 ≤ rc := by
        rw [← hrc]
        exact refs_live (by rw [HLL.out]; exact List.mem_of_getElem? hc)
      have HK1 : Hid (refK s (i + 1) = rk + rc) := by
        show _ = _
        rw [refK_succ (by rw [HLL.out]; exact hc), hrk, hrc]
      have rcb : rk + rc ≤ 48 := by
        have h1 := refK_le s (i + 1)
        have h2 := HVL.out
        rw [HK1.out] at h1
        omega
      have k0 : (0 : Int) ≤ i := by omega
      have SD : (wr.drew.cell? ⟨z, 0, none⟩ = some (.slice va vl vc) ∧ wr.drew.cell? ⟨z, 1, none⟩ = some (.slice kd kl kc) ∧ wr.drew.cell? ⟨z, 2, none⟩ = some (.int .i64 s.next)) ∧ wr.drew.cell? ⟨lg, i, none⟩ = some (.int .i64 c) := ⟨⟨TD.out.at 2 0 rfl rfl, TD.out.at 2 1 rfl rfl, TD.out.at 2 2 rfl rfl⟩, (show Sli 3 _ _ _ _ _ _ from TD.out.get 0 rfl).flt.cell (icells_get HC1.out)⟩
      clear hc hrc
      rw [hrk]
      clear hrk
      go_upto_region 9 with fail
      go_region_held3 (fun w' => (w'.cell? ⟨z, 0, none⟩ = some (.slice va vl vc) ∧ w'.cell? ⟨z, 1, none⟩ = some (.slice kd kl kc) ∧ w'.cell? ⟨z, 2, none⟩ = some (.int .i64 s.next)) ∧ w'.cell? ⟨lg, i, none⟩ = some (.int .i64 c)) (first | go_keep | exact SD | exact ⟨⟨T4.out.at 2 0 rfl rfl, T4.out.at 2 1 rfl rfl, T4.out.at 2 2 rfl rfl⟩, (show Sli 3 _ _ _ _ _ _ from T4.out.get 0 rfl).flt.cell (icells_get HC1.out)⟩) (first
        | (go_at_call 23; (with_reducible refine Calls.mono (gref_tk HR.out HRC.out TD.out 3 HF.out rfl) ?_); rintro en v1 ⟨rfl, t4, s4⟩; have T4 := hide t4; clear t4))
      all_goals
        clear TD SD
        have TE := hide T4.out.drew
        have q1 : ¬ ((rc : Int) < 1) := by omega
        have q2 : ((rc : Int) != (rc : Int)) = false := by simp
        have wk : IntKind.i64.wrap ((rk : Int) + (rc : Int)) = ((rk + rc : Nat) : Int) := by rw [IntKind.wrap_i64]; omega
        go_upto_region 10 with fail
        by_cases i0 : i = 0
        · have hig : ¬ ((i : Int) > 0) := by omega
          have hin : ¬ (0 < i) := by omega
          clear i0
          have SE : (v1.drew.cell? ⟨z, 0, none⟩ = some (.slice va vl vc) ∧ v1.drew.cell? ⟨z, 1, none⟩ = some (.slice kd kl kc) ∧ v1.drew.cell? ⟨z, 2, none⟩ = some (.int .i64 s.next)) ∧ v1.drew.cell? ⟨lg, i, none⟩ = some (.int .i64 c) := ⟨⟨TE.out.at 2 0 rfl rfl, TE.out.at 2 1 rfl rfl, TE.out.at 2 2 rfl rfl⟩, (show Sli 3 _ _ _ _ _ _ from TE.out.get 0 rfl).flt.cell (icells_get HC1.out)⟩
          refine wp_region_ops (fun w' => (w'.cell? ⟨z, 0, none⟩ = some (.slice va vl vc) ∧ w'.cell? ⟨z, 1, none⟩ = some (.slice kd kl kc) ∧ w'.cell? ⟨z, 2, none⟩ = some (.int .i64 s.next)) ∧ w'.cell? ⟨lg, i, none⟩ = some (.int .i64 c)) (by kernel_rfl) SE (fun hHeld => ?_)
          simp only [List.length_cons, List.length_nil, Nat.reduceAdd]
          refine takeL 0 (v := ?_) rfl (by kernel_rfl) (by kernel_rfl) (by kernel_rfl) (fun _ _ _ h => h) (by rfl) (by assumption) ?_ ?_
          rotate_left 1
          · (intro w hSw; (try dsimp only at hSw); go_simp; all_goals with_reducible rfl)
          simp only [Act.put, List.setIfInBounds_toArray, List.set_cons_zero, List.set_cons_succ]
          refine takeL 1 (v := ?_) rfl (by kernel_rfl) (by kernel_rfl) (by kernel_rfl) (fun _ _ _ h => h) (by rfl) (by assumption) ?_ ?_
          rotate_left 1
          · (intro w hSw; (try dsimp only at hSw); go_simp; all_goals with_reducible rfl)
          simp only [Act.put, List.setIfInBounds_toArray, List.set_cons_zero, List.set_cons_succ]
          refine takeL 2 (v := ?_) rfl (by kernel_rfl) (by kernel_rfl) (by kernel_rfl) (fun _ _ _ h => h) (by rfl) (by assumption) ?_ ?_
          rotate_left 1
          · (intro w hSw; (try dsimp only at hSw); go_simp; all_goals with_reducible rfl)
          simp only [Act.put, List.setIfInBounds_toArray, List.set_cons_zero, List.set_cons_succ]
          refine takeL 3 (v := ?_) rfl (by kernel_rfl) (by kernel_rfl) (by kernel_rfl) (fun _ _ _ h => h) (by rfl) (by assumption) ?_ ?_
          rotate_left 1
          · (intro w hSw; (try dsimp only at hSw); go_simp; all_goals with_reducible rfl)
          simp only [Act.put, List.setIfInBounds_toArray, List.set_cons_zero, List.set_cons_succ]
          refine takeL 4 (v := ?_) rfl (by kernel_rfl) (by kernel_rfl) (by kernel_rfl) (fun _ _ _ h => h) (by rfl) (by assumption) ?_ ?_
          rotate_left 1
          · (intro w hSw; (try dsimp only at hSw); go_simp; all_goals with_reducible rfl)
          simp only [Act.put, List.setIfInBounds_toArray, List.set_cons_zero, List.set_cons_succ]
          refine takeL 5 (v := ?_) rfl (by kernel_rfl) (by kernel_rfl) (by kernel_rfl) (fun _ _ _ h => h) (by rfl) (by assumption) ?_ ?_
          rotate_left 1
          · (intro w hSw; (try dsimp only at hSw); go_simp; all_goals with_reducible rfl)
          simp only [Act.put, List.setIfInBounds_toArray, List.set_cons_zero, List.set_cons_succ]
          refine takeL 6 (v := ?_) rfl (by kernel_rfl) (by kernel_rfl) (by kernel_rfl) (fun _ _ _ h => h) (by rfl) (by assumption) ?_ ?_
          rotate_left 1
          · (intro w hSw; (try dsimp only at hSw); go_simp; all_goals with_reducible rfl)
          simp only [Act.put, List.setIfInBounds_toArray, List.set_cons_zero, List.set_cons_succ]
          refine takeL 7 (v := ?_) rfl (by kernel_rfl) (by kernel_rfl) (by kernel_rfl) (fun _ _ _ h => h) (by rfl) (by assumption) ?_ ?_
          rotate_left 1
          · (intro w hSw; (try dsimp only at hSw); go_simp; all_goals with_reducible rfl)
          simp only [Act.put, List.setIfInBounds_toArray, List.set_cons_zero, List.set_cons_succ]
          refine takeL 8 (v := ?_) rfl (by kernel_rfl) (by kernel_rfl) (by kernel_rfl) (fun _ _ _ h => h) (by rfl) (by assumption) ?_ ?_
          rotate_left 1
          · (intro w hSw; (try dsimp only at hSw); go_simp; all_goals with_reducible rfl)
          simp only [Act.put, List.setIfInBounds_toArray, List.set_cons_zero, List.set_cons_succ]
          refine oneL 9 rfl (by kernel_rfl) (fun K hK => ?_)
          go_simp
          refine (gref_tk srefsOf HRC.out TE.out 3 HF.out rfl).mono ?_
          rintro en v2 ⟨rfl, t5, -⟩
          have T5 := hide t5
          clear t5
          refine hK.out _ _ (⟨⟨T5.out.at 2 0 rfl rfl, T5.out.at 2 1 rfl rfl, T5.out.at 2 2 rfl rfl⟩, (show Sli 3 _ _ _ _ _ _ from T5.out.get 0 rfl).flt.cell (icells_get HC1.out)⟩) (fun hHeld2 => ?_)
          clear hK K hHeld
          have hHeld := hHeld2
          clear hHeld2
          (try simp only [Act.put, List.setIfInBounds_toArray, List.set_cons_zero, List.set_cons_succ])
          refine takeL 10 (v := ?_) rfl (by kernel_rfl) (by kernel_rfl) (by kernel_rfl) (fun _ _ _ h => h) (by rfl) (by assumption) ?_ ?_
          rotate_left 1
          · (intro w hSw; (try dsimp only at hSw); go_simp; all_goals with_reducible rfl)
          simp only [Act.put, List.setIfInBounds_toArray, List.set_cons_zero, List.set_cons_succ]
          refine takeL 11 (v := ?_) rfl (by kernel_rfl) (by kernel_rfl) (by kernel_rfl) (fun _ _ _ h => h) (by rfl) (by assumption) ?_ ?_
          rotate_left 1
          · (intro w hSw; (try dsimp only at hSw); go_simp; all_goals with_reducible rfl)
          simp only [Act.put, List.setIfInBounds_toArray, List.set_cons_zero, List.set_cons_succ]
          refine takeL 12 (v := ?_) rfl (by kernel_rfl) (by kernel_rfl) (by kernel_rfl) (fun _ _ _ h => h) (by rfl) (by assumption) ?_ ?_
          rotate_left 1
          · (intro w hSw; (try dsimp only at hSw); go_simp; all_goals with_reducible rfl)
          simp only [Act.put, List.setIfInBounds_toArray, List.set_cons_zero, List.set_cons_succ]
          refine takeL 13 (v := ?_) rfl (by kernel_rfl) (by kernel_rfl) (by kernel_rfl) (fun _ _ _ h => h) (by rfl) (by assumption) ?_ ?_
          rotate_left 1
          · (intro w hSw; (try dsimp only at hSw); go_simp; all_goals with_reducible rfl)
          simp only [Act.put, List.setIfInBounds_toArray, List.set_cons_zero, List.set_cons_succ]
          refine takeL 14 (v := ?_) rfl (by kernel_rfl) (by kernel_rfl) (by kernel_rfl) (fun _ _ _ h => h) (by rfl) (by assumption) ?_ ?_
          rotate_left 1
          · (intro w hSw; (try dsimp only at hSw); go_simp; all_goals with_reducible rfl)
          simp only [Act.put, List.setIfInBounds_toArray, List.set_cons_zero, List.set_cons_succ]
          refine takeL 15 (v := ?_) rfl (by kernel_rfl) (by kernel_rfl) (by kernel_rfl) (fun _ _ _ h => h) (by rfl) (by assumption) ?_ ?_
          rotate_left 1
          · (intro w hSw; (try dsimp only at hSw); go_simp; all_goals with_reducible rfl)
          simp only [Act.put, List.setIfInBounds_toArray, List.set_cons_zero, List.set_cons_succ]
          refine skipL 16 rfl (by kernel_rfl) (by kernel_rfl) (by kernel_rfl) (fun _ _ _ h => h) (by rfl) (by assumption) ?_
          simp only [Act.put, List.setIfInBounds_toArray, List.set_cons_zero, List.set_cons_succ]
          refine skipL 17 rfl (by kernel_rfl) (by kernel_rfl) (by kernel_rfl) (fun _ _ _ h => h) (by rfl) (by assumption) ?_
          simp only [Act.put, List.setIfInBounds_toArray, List.set_cons_zero, List.set_cons_succ]
          refine skipL 18 rfl (by kernel_rfl) (by kernel_rfl) (by kernel_rfl) (fun _ _ _ h => h) (by rfl) (by assumption) ?_
          simp only [Act.put, List.setIfInBounds_toArray, List.set_cons_zero, List.set_cons_succ]
          refine skipL 19 rfl (by kernel_rfl) (by kernel_rfl) (by kernel_rfl) (fun _ _ _ h => h) (by rfl) (by assumption) ?_
          simp only [Act.put, List.setIfInBounds_toArray, List.set_cons_zero, List.set_cons_succ]
          refine skipL 20 rfl (by kernel_rfl) (by kernel_rfl) (by kernel_rfl) (fun _ _ _ h => h) (by rfl) (by assumption) ?_
          simp only [Act.put, List.setIfInBounds_toArray, List.set_cons_zero, List.set_cons_succ]
          refine skipL 21 rfl (by kernel_rfl) (by kernel_rfl) (by kernel_rfl) (fun _ _ _ h => h) (by rfl) (by assumption) ?_
          simp only [Act.put, List.setIfInBounds_toArray, List.set_cons_zero, List.set_cons_succ]
          refine skipL 22 rfl (by kernel_rfl) (by kernel_rfl) (by kernel_rfl) (fun _ _ _ h => h) (by rfl) (by assumption) ?_
          simp only [Act.put, List.setIfInBounds_toArray, List.set_cons_zero, List.set_cons_succ]
          refine skipL 23 rfl (by kernel_rfl) (by kernel_rfl) (by kernel_rfl) (fun _ _ _ h => h) (by rfl) (by assumption) ?_
          simp only [Act.put, List.setIfInBounds_toArray, List.set_cons_zero, List.set_cons_succ]
          refine skipL 24 rfl (by kernel_rfl) (by kernel_rfl) (by kernel_rfl) (fun _ _ _ h => h) (by rfl) (by assumption) ?_
          simp only [Act.put, List.setIfInBounds_toArray, List.set_cons_zero, List.set_cons_succ]
          refine skipL 25 rfl (by kernel_rfl) (by kernel_rfl) (by kernel_rfl) (fun _ _ _ h => h) (by rfl) (by assumption) ?_
          simp only [Act.put, List.setIfInBounds_toArray, List.set_cons_zero, List.set_cons_succ]
          refine takeL 26 (v := ?_) rfl (by kernel_rfl) (by kernel_rfl) (by kernel_rfl) (fun _ _ _ h => h) (by rfl) (by assumption) ?_ ?_
          rotate_left 1
          · (intro w hSw; (try dsimp only at hSw); go_simp; all_goals with_reducible rfl)
          simp only [Act.put, List.setIfInBounds_toArray, List.set_cons_zero, List.set_cons_succ]
          refine takeL 27 (v := ?_) rfl (by kernel_rfl) (by kernel_rfl) (by kernel_rfl) (fun _ _ _ h => h) (by rfl) (by assumption) ?_ ?_
          rotate_left 1
          · (intro w hSw; (try dsimp only at hSw); go_simp; all_goals with_reducible rfl)
          simp only [Act.put, List.setIfInBounds_toArray, List.set_cons_zero, List.set_cons_succ]
          refine doneL (by kernel_rfl) ?_
          clear hHeld TE SE T4
          go_wp2
          go_roundw
          case rel => exact ⟨i + 1, by omega, by go_num, by rw [HK1.out]; go_num, T5⟩
          case measure => simp [intOf]; omega
        · obtain ⟨j, hj⟩ : ∃ j, i = j + 1 := ⟨i - 1, by omega⟩
          obtain ⟨d, hd⟩ : ∃ d, L[j]? = some d := ⟨_, List.getElem?_eq_getElem (by have := HNL.out; omega)⟩
          have HD1 := hide hd
          have hdc : d < c := live_less (s := s) (i := j) (by rw [HLL.out]; exact hd) (by rw [HLL.out, ← hj]; exact HC1.out)
          have hdg : ¬ (d ≥ c) := by omega
          have hig : (i : Int) > 0 := by omega
          have hin : 0 < i := by omega
          have wj : IntKind.i64.wrap ((i : Int) - 1) = (j : Int) := by rw [IntKind.wrap_i64]; omega
          have j0 : (0 : Int) ≤ j := by omega
          have j1 : (j : Int) < nl := by omega
          have SE : (v1.drew.cell? ⟨z, 0, none⟩ = some (.slice va vl vc) ∧ v1.drew.cell? ⟨z, 1, none⟩ = some (.slice kd kl kc) ∧ v1.drew.cell? ⟨z, 2, none⟩ = some (.int .i64 s.next)) ∧ v1.drew.cell? ⟨lg, i, none⟩ = some (.int .i64 c) ∧ v1.drew.cell? ⟨lg, j, none⟩ = some (.int .i64 d) := ⟨⟨TE.out.at 2 0 rfl rfl, TE.out.at 2 1 rfl rfl, TE.out.at 2 2 rfl rfl⟩, (show Sli 3 _ _ _ _ _ _ from TE.out.get 0 rfl).flt.cell (icells_get HC1.out), (show Sli 3 _ _ _ _ _ _ from TE.out.get 0 rfl).flt.cell (icells_get HD1.out)⟩
          clear hd hdc hj
          refine wp_region_ops (fun w' => (w'.cell? ⟨z, 0, none⟩ = some (.slice va vl vc) ∧ w'.cell? ⟨z, 1, none⟩ = some (.slice kd kl kc) ∧ w'.cell? ⟨z, 2, none⟩ = some (.int .i64 s.next)) ∧ w'.cell? ⟨lg, i, none⟩ = some (.int .i64 c) ∧ w'.cell? ⟨lg, j, none⟩ = some (.int .i64 d)) (by kernel_rfl) SE (fun hHeld => ?_)
          simp only [List.length_cons, List.length_nil, Nat.reduceAdd]
          refine takeL 0 (v := ?_) rfl (by kernel_rfl) (by kernel_rfl) (by kernel_rfl) (fun _ _ _ h => h) (by rfl) (by assumption) ?_ ?_
          rotate_left 1
          · (intro w hSw; (try dsimp only at hSw); go_simp; all_goals with_reducible rfl)
          simp only [Act.put, List.setIfInBounds_toArray, List.set_cons_zero, List.set_cons_succ]
          refine takeL 1 (v := ?_) rfl (by kernel_rfl) (by kernel_rfl) (by kernel_rfl) (fun _ _ _ h => h) (by rfl) (by assumption) ?_ ?_
          rotate_left 1
          · (intro w hSw; (try dsimp only at hSw); go_simp; all_goals with_reducible rfl)
          simp only [Act.put, List.setIfInBounds_toArray, List.set_cons_zero, List.set_cons_succ]
          refine takeL 2 (v := ?_) rfl (by kernel_rfl) (by kernel_rfl) (by kernel_rfl) (fun _ _ _ h => h) (by rfl) (by assumption) ?_ ?_
          rotate_left 1
          · (intro w hSw; (try dsimp only at hSw); go_simp; all_goals with_reducible rfl)
          simp only [Act.put, List.setIfInBounds_toArray, List.set_cons_zero, List.set_cons_succ]
          refine takeL 3 (v := ?_) rfl (by kernel_rfl) (by kernel_rfl) (by kernel_rfl) (fun _ _ _ h => h) (by rfl) (by assumption) ?_ ?_
          rotate_left 1
          · (intro w hSw; (try dsimp only at hSw); go_simp; all_goals with_reducible rfl)
          simp only [Act.put, List.setIfInBounds_toArray, List.set_cons_zero, List.set_cons_succ]
          refine takeL 4 (v := ?_) rfl (by kernel_rfl) (by kernel_rfl) (by kernel_rfl) (fun _ _ _ h => h) (by rfl) (by assumption) ?_ ?_
          rotate_left 1
          · (intro w hSw; (try dsimp only at hSw); go_simp; all_goals with_reducible rfl)
          simp only [Act.put, List.setIfInBounds_toArray, List.set_cons_zero, List.set_cons_succ]
          refine takeL 5 (v := ?_) rfl (by kernel_rfl) (by kernel_rfl) (by kernel_rfl) (fun _ _ _ h => h) (by rfl) (by assumption) ?_ ?_
          rotate_left 1
          · (intro w hSw; (try dsimp only at hSw); go_simp; all_goals with_reducible rfl)
          simp only [Act.put, List.setIfInBounds_toArray, List.set_cons_zero, List.set_cons_succ]
          refine takeL 6 (v := ?_) rfl (by kernel_rfl) (by kernel_rfl) (by kernel_rfl) (fun _ _ _ h => h) (by rfl) (by assumption) ?_ ?_
          rotate_left 1
          · (intro w hSw; (try dsimp only at hSw); go_simp; all_goals with_reducible rfl)
          simp only [Act.put, List.setIfInBounds_toArray, List.set_cons_zero, List.set_cons_succ]
          refine takeL 7 (v := ?_) rfl (by kernel_rfl) (by kernel_rfl) (by kernel_rfl) (fun _ _ _ h => h) (by rfl) (by assumption) ?_ ?_
          rotate_left 1
          · (intro w hSw; (try dsimp only at hSw); go_simp; all_goals with_reducible rfl)
          simp only [Act.put, List.setIfInBounds_toArray, List.set_cons_zero, List.set_cons_succ]
          refine takeL 8 (v := ?_) rfl (by kernel_rfl) (by kernel_rfl) (by kernel_rfl) (fun _ _ _ h => h) (by rfl) (by assumption) ?_ ?_
          rotate_left 1
          · (intro w hSw; (try dsimp only at hSw); go_simp; all_goals with_reducible rfl)
          simp only [Act.put, List.setIfInBounds_toArray, List.set_cons_zero, List.set_cons_succ]
          refine oneL 9 rfl (by kernel_rfl) (fun K hK => ?_)
          go_simp
          refine (gref_tk srefsOf HRC.out TE.out 3 HF.out rfl).mono ?_
          rintro en v2 ⟨rfl, t5, -⟩
          have T5 := hide t5
          clear t5
          refine hK.out _ _ (⟨⟨T5.out.at 2 0 rfl rfl, T5.out.at 2 1 rfl rfl, T5.out.at 2 2 rfl rfl⟩, (show Sli 3 _ _ _ _ _ _ from T5.out.get 0 rfl).flt.cell (icells_get HC1.out), (show Sli 3 _ _ _ _ _ _ from T5.out.get 0 rfl).flt.cell (icells_get HD1.out)⟩) (fun hHeld2 => ?_)
          clear hK K hHeld
          have hHeld := hHeld2
          clear hHeld2
          (try simp only [Act.put, List.setIfInBounds_toArray, List.set_cons_zero, List.set_cons_succ])
          refine takeL 10 (v := ?_) rfl (by kernel_rfl) (by kernel_rfl) (by kernel_rfl) (fun _ _ _ h => h) (by rfl) (by assumption) ?_ ?_
          rotate_left 1
          · (intro w hSw; (try dsimp only at hSw); go_simp; all_goals with_reducible rfl)
          simp only [Act.put, List.setIfInBounds_toArray, List.set_cons_zero, List.set_cons_succ]
          refine takeL 11 (v := ?_) rfl (by kernel_rfl) (by kernel_rfl) (by kernel_rfl) (fun _ _ _ h => h) (by rfl) (by assumption) ?_ ?_
          rotate_left 1
          · (intro w hSw; (try dsimp only at hSw); go_simp; all_goals with_reducible rfl)
          simp only [Act.put, List.setIfInBounds_toArray, List.set_cons_zero, List.set_cons_succ]
          refine takeL 12 (v := ?_) rfl (by kernel_rfl) (by kernel_rfl) (by kernel_rfl) (fun _ _ _ h => h) (by rfl) (by assumption) ?_ ?_
          rotate_left 1
          · (intro w hSw; (try dsimp only at hSw); go_simp; all_goals with_reducible rfl)
          simp only [Act.put, List.setIfInBounds_toArray, List.set_cons_zero, List.set_cons_succ]
          refine takeL 13 (v := ?_) rfl (by kernel_rfl) (by kernel_rfl) (by kernel_rfl) (fun _ _ _ h => h) (by rfl) (by assumption) ?_ ?_
          rotate_left 1
          · (intro w hSw; (try dsimp only at hSw); go_simp; all_goals with_reducible rfl)
          simp only [Act.put, List.setIfInBounds_toArray, List.set_cons_zero, List.set_cons_succ]
          refine takeL 14 (v := ?_) rfl (by kernel_rfl) (by kernel_rfl) (by kernel_rfl) (fun _ _ _ h => h) (by rfl) (by assumption) ?_ ?_
          rotate_left 1
          · (intro w hSw; (try dsimp only at hSw); go_simp; all_goals with_reducible rfl)
          simp only [Act.put, List.setIfInBounds_toArray, List.set_cons_zero, List.set_cons_succ]
          refine takeL 15 (v := ?_) rfl (by kernel_rfl) (by kernel_rfl) (by kernel_rfl) (fun _ _ _ h => h) (by rfl) (by assumption) ?_ ?_
          rotate_left 1
          · (intro w hSw; (try dsimp only at hSw); go_simp; all_goals with_reducible rfl)
          simp only [Act.put, List.setIfInBounds_toArray, List.set_cons_zero, List.set_cons_succ]
          refine takeL 16 (v := ?_) rfl (by kernel_rfl) (by kernel_rfl) (by kernel_rfl) (fun _ _ _ h => h) (by rfl) (by assumption) ?_ ?_
          rotate_left 1
          · (intro w hSw; (try dsimp only at hSw); go_simp; all_goals with_reducible rfl)
          simp only [Act.put, List.setIfInBounds_toArray, List.set_cons_zero, List.set_cons_succ]
          refine takeL 17 (v := ?_) rfl (by kernel_rfl) (by kernel_rfl) (by kernel_rfl) (fun _ _ _ h => h) (by rfl) (by assumption) ?_ ?_
          rotate_left 1
          · (intro w hSw; (try dsimp only at hSw); go_simp; all_goals with_reducible rfl)
          simp only [Act.put, List.setIfInBounds_toArray, List.set_cons_zero, List.set_cons_succ]
          refine takeL 18 (v := ?_) rfl (by kernel_rfl) (by kernel_rfl) (by kernel_rfl) (fun _ _ _ h => h) (by rfl) (by assumption) ?_ ?_
          rotate_left 1
          · (intro w hSw; (try dsimp only at hSw); go_simp; all_goals with_reducible rfl)
          simp only [Act.put, List.setIfInBounds_toArray, List.set_cons_zero, List.set_cons_succ]
          refine takeL 19 (v := ?_) rfl (by kernel_rfl) (by kernel_rfl) (by kernel_rfl) (fun _ _ _ h => h) (by rfl) (by assumption) ?_ ?_
          rotate_left 1
          · (intro w hSw; (try dsimp only at hSw); go_simp; all_goals with_reducible rfl)
          simp only [Act.put, List.setIfInBounds_toArray, List.set_cons_zero, List.set_cons_succ]
          refine takeL 20 (v := ?_) rfl (by kernel_rfl) (by kernel_rfl) (by kernel_rfl) (fun _ _ _ h => h) (by rfl) (by assumption) ?_ ?_
          rotate_left 1
          · (intro w hSw; (try dsimp only at hSw); go_simp; all_goals with_reducible rfl)
          simp only [Act.put, List.setIfInBounds_toArray, List.set_cons_zero, List.set_cons_succ]
          refine takeL 21 (v := ?_) rfl (by kernel_rfl) (by kernel_rfl) (by kernel_rfl) (fun _ _ _ h => h) (by rfl) (by assumption) ?_ ?_
          rotate_left 1
          · (intro w hSw; (try dsimp only at hSw); go_simp; all_goals with_reducible rfl)
          simp only [Act.put, List.setIfInBounds_toArray, List.set_cons_zero, List.set_cons_succ]
          refine takeL 22 (v := ?_) rfl (by kernel_rfl) (by kernel_rfl) (by kernel_rfl) (fun _ _ _ h => h) (by rfl) (by assumption) ?_ ?_
          rotate_left 1
          · (intro w hSw; (try dsimp only at hSw); go_simp; all_goals with_reducible rfl)
          simp only [Act.put, List.setIfInBounds_toArray, List.set_cons_zero, List.set_cons_succ]
          refine takeL 23 (v := ?_) rfl (by kernel_rfl) (by kernel_rfl) (by kernel_rfl) (fun _ _ _ h => h) (by rfl) (by assumption) ?_ ?_
          rotate_left 1
          · (intro w hSw; (try dsimp only at hSw); go_simp; all_goals with_reducible rfl)
          simp only [Act.put, List.setIfInBounds_toArray, List.set_cons_zero, List.set_cons_succ]
          refine takeL 24 (v := ?_) rfl (by kernel_rfl) (by kernel_rfl) (by kernel_rfl) (fun _ _ _ h => h) (by rfl) (by assumption) ?_ ?_
          rotate_left 1
          · (intro w hSw; (try dsimp only at hSw); go_simp; all_goals with_reducible rfl)
          simp only [Act.put, List.setIfInBounds_toArray, List.set_cons_zero, List.set_cons_succ]
          refine takeL 25 (v := ?_) rfl (by kernel_rfl) (by kernel_rfl) (by kernel_rfl) (fun _ _ _ h => h) (by rfl) (by assumption) ?_ ?_
          rotate_left 1
          · (intro w hSw; (try dsimp only at hSw); go_simp; all_goals with_reducible rfl)
          simp only [Act.put, List.setIfInBounds_toArray, List.set_cons_zero, List.set_cons_succ]
          refine takeL 26 (v := ?_) rfl (by kernel_rfl) (by kernel_rfl) (by kernel_rfl) (fun _ _ _ h => h) (by rfl) (by assumption) ?_ ?_
          rotate_left 1
          · (intro w hSw; (try dsimp only at hSw); go_simp; all_goals with_reducible rfl)
          simp only [Act.put, List.setIfInBounds_toArray, List.set_cons_zero, List.set_cons_succ]
          refine takeL 27 (v := ?_) rfl (by kernel_rfl) (by kernel_rfl) (by kernel_rfl) (fun _ _ _ h => h) (by rfl) (by assumption) ?_ ?_
          rotate_left 1
          · (intro w hSw; (try dsimp only at hSw); go_simp; all_goals with_reducible rfl)
          simp only [Act.put, List.setIfInBounds_toArray, List.set_cons_zero, List.set_cons_succ]
          refine doneL (by kernel_rfl) ?_
          clear hHeld TE SE T4
          go_wp2
          go_roundw
          case rel => exact ⟨i + 1, by omega, by go_num, by rw [HK1.out]; go_num, T5⟩
          case measure => simp [intOf]; omega
    · have HT : Hid (rk = (allS s).countP (fun y => decide (0 < y))) := by
        show _ = _
        rw [← hrk]
        exact refK_all (by rw [HLL.out, HNL.out]; omega)
      rw [hrk]
      clear hrk
      go_wp2_with fail
      clear hlt
      go_loopw [9, 10, 11] (fun hv iv kv W => ∃ i : Nat, i ≤ vl ∧ iv = .int .i64 i ∧ hv = .int .i64 (volK s i : Nat) ∧ Hid (Tk w0 W [(w2.heap.size, w3.heap.size, Sli 3 w2.heap.size w3.heap.size (.slice la nl lc) nl (icells L)), (z + 1, z + 1 + 1, Cel (z + 1) #[.int .i64 kind, .int .i64 vol, .int .i64 arg, .int .i64 chunk] 31), (z, z + 1, Cel z #[.slice va vl vc, .slice kd kl kc, .int .i64 s.next] 29), (w0.heap.size, z, Sts w0.heap.size z (.agg #[.slice va vl vc, .slice kd kl kc, .int .i64 s.next]) s)])) (fun _ iv _ _ => vl - (intOf iv).toNat)
      case atStart => exact ⟨0, Nat.zero_le _, rfl, by rw [volK_zero]; rfl, TI⟩
      case round =>
        obtain ⟨i, hi, rfl, rfl, TJ⟩ := hrel
        clear TI
        obtain ⟨vk, hvk⟩ : ∃ vk, volK s i = vk := ⟨_, rfl⟩
        have HVK := hide hvk
        have vkb : vk ≤ 16 * i := by rw [← hvk]; exact volK_le s i
        rw [hvk]
        clear hvk
        have c0 : wr.cell? ⟨z, 0, none⟩ = some (.slice va vl vc) := TJ.out.at 2 0 rfl rfl
        by_cases hlt : (i : Int) < vl
        · obtain ⟨v, hv⟩ : ∃ v, s.vols[i]? = some v := ⟨_, List.getElem?_eq_getElem (by rw [← HVL.out]; omega)⟩
          have HV1 := hide hv
          have VR : Hid (∀ W, Tk w0 W [(w2.heap.size, w3.heap.size, Sli 3 w2.heap.size w3.heap.size (.slice la nl lc) nl (icells L)), (z + 1, z + 1 + 1, Cel (z + 1) #[.int .i64 kind, .int .i64 vol, .int .i64 arg, .int .i64 chunk] 31), (z, z + 1, Cel z #[.slice va vl vc, .slice kd kl kc, .int .i64 s.next] 29), (w0.heap.size, z, Sts w0.heap.size z (.agg #[.slice va vl vc, .slice kd kl kc, .int .i64 s.next]) s)] → VlRow W va vl s.vols) := fun W t => by
            obtain ⟨va', vl', vc', ad', len', cap', rs', e', -, -, -, -, -, hr, -⟩ := (show Sts w0.heap.size z (.agg #[.slice va vl vc, .slice kd kl kc, .int .i64 s.next]) s W from t.get 3 rfl).rd HF.out (t.hi 3 rfl)
            injection e' with e'
            injection e' with e'
            simp only [List.cons.injEq, and_true] at e'
            obtain ⟨e', -⟩ := e'
            injection e' with a1 a2 a3
            rw [a1, a2]
            exact hr
          obtain ⟨vb, vo, hva, -⟩ := (VR.out _ TJ.out).at hv
          subst hva
          have i0 : (0 : Int) ≤ i := by omega
          clear hv
          go_wp2_with fail
          go_loopw [9, 11] (fun hv kv W => ∃ k : Nat, k ≤ 16 ∧ kv = .int .i64 k ∧ hv = .int .i64 ((vk + secK s v.2 k : Nat) : Int) ∧ Hid (Tk w0 W [(w2.heap.size, w3.heap.size, Sli 3 w2.heap.size w3.heap.size (.slice la nl lc) nl (icells L)), (z + 1, z + 1 + 1, Cel (z + 1) #[.int .i64 kind, .int .i64 vol, .int .i64 arg, .int .i64 chunk] 31), (z, z + 1, Cel z #[.slice (some ⟨vb, vo, none⟩) vl vc, .slice kd kl kc, .int .i64 s.next] 29), (w0.heap.size, z, Sts w0.heap.size z (.agg #[.slice (some ⟨vb, vo, none⟩) vl vc, .slice kd kl kc, .int .i64 s.next]) s)])) (fun _ kv _ => 16 - (intOf kv).toNat)
          case atStart => exact ⟨0, by omega, rfl, by rw [secK_zero]; rfl, TJ⟩
          case round =>
            obtain ⟨k, hk, rfl, rfl, TK⟩ := hrel
            clear TJ c0
            obtain ⟨sk, hsk⟩ : ∃ sk, secK s v.2 k = sk := ⟨_, rfl⟩
            have skb : sk ≤ 16 := by rw [← hsk]; exact secK_le s v.2 k
            rw [hsk]
            by_cases hkl : (k : Int) < 16
            · have hst := secK_succ (s := s) (r := v.2) (show k < 16 by omega)
              rw [hsk] at hst
              obtain ⟨cc, hcc⟩ : ∃ cc, getT s.kns v.2 (k : Int) = cc := ⟨_, rfl⟩
              rw [hcc] at hst
              have HCC : Hid (chunkS s v.1 (k : Int) = cc) := by show _ = _; rw [chunk_vol HS.out.1 HV1.out]; exact hcc
              have HST := hide hst
              have CV : Hid (∀ W, Tk w0 W [(w2.heap.size, w3.heap.size, Sli 3 w2.heap.size w3.heap.size (.slice la nl lc) nl (icells L)), (z + 1, z + 1 + 1, Cel (z + 1) #[.int .i64 kind, .int .i64 vol, .int .i64 arg, .int .i64 chunk] 31), (z, z + 1, Cel z #[.slice (some ⟨vb, vo, none⟩) vl vc, .slice kd kl kc, .int .i64 s.next] 29), (w0.heap.size, z, Sts w0.heap.size z (.agg #[.slice (some ⟨vb, vo, none⟩) vl vc, .slice kd kl kc, .int .i64 s.next]) s)] → (W.cell? ⟨z, 0, none⟩ = some (.slice (some ⟨vb, vo, none⟩) vl vc) ∧ W.cell? ⟨z, 1, none⟩ = some (.slice kd kl kc) ∧ W.cell? ⟨z, 2, none⟩ = some (.int .i64 s.next)) ∧ W.cell? ⟨vb, vo + i * 2, none⟩ = some (.int .i64 v.1)) := fun W t => by
                obtain ⟨b', o', e', -, q, -⟩ := (VR.out W t).at HV1.out
                injection e' with e'
                injection e' with a1 a2
                subst a1 a2
                exact ⟨⟨t.at 2 0 rfl rfl, t.at 2 1 rfl rfl, t.at 2 2 rfl rfl⟩, q⟩
              have TD := hide TK.out.drew
              have SD : (wr.drew.cell? ⟨z, 0, none⟩ = some (.slice (some ⟨vb, vo, none⟩) vl vc) ∧ wr.drew.cell? ⟨z, 1, none⟩ = some (.slice kd kl kc) ∧ wr.drew.cell? ⟨z, 2, none⟩ = some (.int .i64 s.next)) ∧ wr.drew.cell? ⟨vb, vo + i * 2, none⟩ = some (.int .i64 v.1) := CV.out _ TD.out
              clear hst hcc hsk
              go_upto_region 20 with fail
              go_region_held3 (fun w' => (w'.cell? ⟨z, 0, none⟩ = some (.slice (some ⟨vb, vo, none⟩) vl vc) ∧ w'.cell? ⟨z, 1, none⟩ = some (.slice kd kl kc) ∧ w'.cell? ⟨z, 2, none⟩ = some (.int .i64 s.next)) ∧ w'.cell? ⟨vb, vo + i * 2, none⟩ = some (.int .i64 v.1)) (first | go_keep | exact SD | exact CV.out _ T4.out) (first
                | (go_at_call 15; (with_reducible refine Calls.mono (gchk_tk HC.out HCC.out TD.out 3 HF.out rfl) ?_); rintro en v1 ⟨rfl, t4, s4⟩; have T4 := hide t4; clear t4))
              all_goals
                clear TD SD
                by_cases hp : 0 < cc
                · have hp' : cc > 0 := hp
                  have HN2 : Hid (vk + secK s v.2 (k + 1) = vk + sk + 1) := by show _ = _; rw [HST.out, if_pos hp]; omega
                  have wk : IntKind.i64.wrap (((vk + sk : Nat) : Int) + 1) = ((vk + sk + 1 : Nat) : Int) := by rw [IntKind.wrap_i64]; omega
                  have wk2 : IntKind.i64.wrap ((vk : Int) + (sk : Int) + 1) = (vk : Int) + (sk : Int) + 1 := by rw [IntKind.wrap_i64]; omega
                  go_wp2
                  go_roundw
                  case rel => exact ⟨k + 1, by omega, by go_num, (by rw [HN2.out]; try go_num), T4⟩
                  case measure => simp [intOf]; omega
                · have hp' : ¬ (cc > 0) := hp
                  have HN2 : Hid (vk + secK s v.2 (k + 1) = vk + sk) := by show _ = _; rw [HST.out, if_neg hp]; omega
                  go_wp2
                  go_roundw
                  case rel => exact ⟨k + 1, by omega, by go_num, (by rw [HN2.out]; try go_num), T4⟩
                  case measure => simp [intOf]; omega
            · have ek : k = 16 := by omega
              have HN3 : Hid (volK s (i + 1) = vk + sk) := by show _ = _; rw [volK_succ HV1.out, HVK.out, ← ek, hsk]
              clear hsk ek
              go_wp2
              go_roundw
              case rel => exact ⟨i + 1, by omega, by go_num, (by rw [HN3.out]; try go_num), TK⟩
              case measure => simp [intOf]; omega
        · have HT2 : Hid (vk = rk) := by
            show _ = _
            rw [HT.out, ← HVK.out]
            have : i = vl := by omega
            rw [this]
            exact volK_all HVL.out.symm
          have ev : ((rk : Int) == (vk : Int)) = true := by have := HT2.out; simp; omega
          have c0 : wr.cell? ⟨z, 0, none⟩ = some (.slice va vl vc) := TJ.out.at 2 0 rfl rfl
          have c1 : wr.cell? ⟨z, 1, none⟩ = some (.slice kd kl kc) := TJ.out.at 2 1 rfl rfl
          have c2 : wr.cell? ⟨z, 2, none⟩ = some (.int .i64 s.next) := TJ.out.at 2 2 rfl rfl
          go_wp2_with fail
          refine (glive_tk sliveOf HLL.out HNL.out TJ.out 3 HF.out rfl).mono ?_
          rintro e v1 ⟨ma, mc, rfl, t1, -⟩
          have T1 := hide t1
          clear t1 TJ c0 c1 c2
          go_wp2_with fail
          refine (sameIs_same (.slice la nl lc) (.slice ma nl mc) L nl _ _ _ _ _ HNL.out (by omega) (T1.out.get 1 rfl) (T1.out.get 0 rfl)).mono ?_
          rintro e v2 ⟨rfl, b2⟩
          have T2 := hide (T1.out.below b2)
          clear b2 T1
          have c0 : v2.cell? ⟨z, 0, none⟩ = some (.slice va vl vc) := T2.out.at 3 0 rfl rfl
          have c1 : v2.cell? ⟨z, 1, none⟩ = some (.slice kd kl kc) := T2.out.at 3 1 rfl rfl
          have c2 : v2.cell? ⟨z, 2, none⟩ = some (.int .i64 s.next) := T2.out.at 3 2 rfl rfl
          go_wp2_with fail
          refine (gref_tk HR.out (refs_zero s) T2.out 4 HF.out rfl).mono ?_
          rintro e v3 ⟨rfl, t3, -⟩
          have T3 := hide t3
          clear t3 T2 c0 c1 c2
          have c0 : v3.cell? ⟨z, 0, none⟩ = some (.slice va vl vc) := T3.out.at 3 0 rfl rfl
          have c1 : v3.cell? ⟨z, 1, none⟩ = some (.slice kd kl kc) := T3.out.at 3 1 rfl rfl
          have c2 : v3.cell? ⟨z, 2, none⟩ = some (.int .i64 s.next) := T3.out.at 3 2 rfl rfl
          go_wp2_with fail
          refine (gref_tk HR.out (refs_next HS.out.1) T3.out 4 HF.out rfl).mono ?_
          rintro e v4 ⟨rfl, t4, -⟩
          have T4 := hide t4
          clear t4 T3 c0 c1 c2
          have BF := hide T4.out.1
          go_wp2
          go_ret
          exact ⟨rfl, BF.out⟩
end Go.Proofs.Ytcnaahajaaifjaa
